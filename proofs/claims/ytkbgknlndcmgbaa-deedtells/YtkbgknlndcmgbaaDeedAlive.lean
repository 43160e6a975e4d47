/-
  The closed fact that the statement DeedNamed asks first is so.
-/
import Derived.Test.YtkbgknlndcmgbaaDeedSame
import Derived.Test.YtkbgknlndcmgbaaDeedRun
namespace Go.Proofs.Ytkbgknlndcmgbaa
open Go.RowKit

/-- The keys a and b. -/
def tA : ByteArray := ⟨#[97]⟩
def tB : ByteArray := ⟨#[98]⟩
def tN : ByteArray := ⟨#[]⟩
def aR : List ByteArray := [tA]
def aW : List ByteArray := [tA, tB]
def aC : List Ins := [(1, 0, 0, 0, tA), (2, 1, 0, 5, tN), (3, 0, 1, 0, tN), (6, 0, 0, 0, tA)]

theorem alive_right : wDeed aR aW aC = 0 := by decide
theorem alive_r0 : (exec (fun _ => 2) aC 0 zeroR zeroM).1 0 = 7 := by decide +kernel
theorem alive_f : (exec (fun _ => 2) aC 0 zeroR zeroM).2.2 = false := by decide
theorem alive_vers : vers (exec (fun _ => 2) aC 0 zeroR zeroM).2.1 aW = [(tA, some 7)] := by decide +kernel
theorem lies_new (w : World) (vs : Array Value) (t sz n : Nat) (h : vs.size = n * sz) (hn : n ≤ maxLen) : Lies (w.alloc (.cells vs t)) sz (some ⟨w.heap.size, 0, none⟩) n n vs.toList := by
  refine ⟨by simp [h], ⟨Nat.le_refl _, hn, fun h => by cases h⟩, .inr ⟨_, _, rfl, fun j u hu => ?_⟩⟩
  rw [Nat.zero_add]
  exact box_cell _ _ _ _ _ (by simpa using hu)
theorem grew (w : World) (o : Obj) : Below w.heap.size w (w.alloc o) := (Below.refl _ _).alloc (Nat.le_refl _) _
theorem aliveView_calls (k : ByteArray) (w : World) : Calls Try.prog 45 #[.string k] w fun e w' => e = .returned (.tuple #[.int .i64 2, .bool true]) ∧ w = w' := by
  go_enter Try.func45, Try.ntmps45
  go_wp2
  go_ret2
  exact ⟨rfl, rfl⟩
theorem aliveView_in : Entered 45 := fun _ _ => by kernel_rfl


theorem aliveTells (w : World) (k : ByteArray) : Tells w 45 #[] k 2 := fun w0 _ => (aliveView_calls k w0).mono fun e w' ⟨h1, h2⟩ => ⟨⟨2, true, h1, rfl⟩, by rw [← h2]; exact Below.refl _ _⟩
/-- The world in which the deed lies. -/
def aWorld (w : World) : World := (((w.alloc (.cells #[.string tA] 9)).alloc (.cells #[.string tA, .string tB] 9)).alloc (.cells #[.int .i64 1, .int .i64 0, .int .i64 0, .int .i64 0, .string tA, .int .i64 2, .int .i64 1, .int .i64 0, .int .i64 5, .string tN, .int .i64 3, .int .i64 0, .int .i64 1, .int .i64 0, .string tN, .int .i64 6, .int .i64 0, .int .i64 0, .int .i64 0, .string tA] 70)).alloc (.cells #[.slice (some ⟨w.heap.size, 0, none⟩) 1 1, .slice (some ⟨w.heap.size + 1, 0, none⟩) 2 2, .slice (some ⟨w.heap.size + 1 + 1, 0, none⟩) 4 4] 41)
theorem aWorld_below (w : World) : Below w.heap.size w (aWorld w) := below_deep (below_deep (below_deep (grew _ _) (grew _ _)) (grew _ _)) (grew _ _)
theorem aWorld_deed (w : World) : DeedIn (aWorld w) (some ⟨w.heap.size, 0, none⟩) 1 1 (some ⟨w.heap.size + 1, 0, none⟩) 2 2 (some ⟨w.heap.size + 1 + 1, 0, none⟩) 4 4 aR aW aC := by
  have h1 := lies_new w #[.string tA] 9 1 1 rfl (by unfold maxLen; omega)
  have h2 := lies_new (w.alloc (.cells #[.string tA] 9)) #[.string tA, .string tB] 9 1 2 rfl (by unfold maxLen; omega)
  have h3 := lies_new ((w.alloc (.cells #[.string tA] 9)).alloc (.cells #[.string tA, .string tB] 9)) #[.int .i64 1, .int .i64 0, .int .i64 0, .int .i64 0, .string tA, .int .i64 2, .int .i64 1, .int .i64 0, .int .i64 5, .string tN, .int .i64 3, .int .i64 0, .int .i64 1, .int .i64 0, .string tN, .int .i64 6, .int .i64 0, .int .i64 0, .int .i64 0, .string tA] 70 5 4 rfl (by unfold maxLen; omega)
  rw [World.size_alloc] at h2
  rw [World.size_alloc, World.size_alloc] at h3
  exact ⟨h1.below (by decide) (below_deep (below_deep (grew _ _) (grew _ _)) (grew _ _)), h2.below (by decide) (below_deep (grew _ _) (grew _ _)), h3.below (by decide) (grew _ _)⟩

theorem aWorld_cell (w : World) (j : Nat) (v : Value) (h : (#[Value.slice (some ⟨w.heap.size, 0, none⟩) 1 1, .slice (some ⟨w.heap.size + 1, 0, none⟩) 2 2, .slice (some ⟨w.heap.size + 1 + 1, 0, none⟩) 4 4])[j]? = some v) : (aWorld w).cell? ⟨w.heap.size + 1 + 1 + 1, j, none⟩ = some v := by
  have := box_cell (((w.alloc (.cells #[.string tA] 9)).alloc (.cells #[.string tA, .string tB] 9)).alloc (.cells #[.int .i64 1, .int .i64 0, .int .i64 0, .int .i64 0, .string tA, .int .i64 2, .int .i64 1, .int .i64 0, .int .i64 5, .string tN, .int .i64 3, .int .i64 0, .int .i64 1, .int .i64 0, .string tN, .int .i64 6, .int .i64 0, .int .i64 0, .int .i64 0, .string tA] 70)) _ 41 j v h
  rw [World.size_alloc, World.size_alloc, World.size_alloc] at this
  exact this
theorem held11 {a b c d e f g h i j k : Prop} (x : a ∧ b ∧ c ∧ d ∧ e ∧ f ∧ g ∧ h ∧ i ∧ j ∧ k) : k := x.2.2.2.2.2.2.2.2.2.2
theorem ten_keep {A w1 w2 : World} {b0 o0 b1 o1 b2 o2 b3 o3 b4 o4 b5 o5 b6 o6 b7 o7 b8 o8 b9 o9 : Nat} {x0 x1 x2 x3 x4 x5 x6 x7 x8 x9 : Value} (h : w1.cell? ⟨b0, o0, none⟩ = some x0 ∧ w1.cell? ⟨b1, o1, none⟩ = some x1 ∧ w1.cell? ⟨b2, o2, none⟩ = some x2 ∧ w1.cell? ⟨b3, o3, none⟩ = some x3 ∧ w1.cell? ⟨b4, o4, none⟩ = some x4 ∧ w1.cell? ⟨b5, o5, none⟩ = some x5 ∧ w1.cell? ⟨b6, o6, none⟩ = some x6 ∧ w1.cell? ⟨b7, o7, none⟩ = some x7 ∧ w1.cell? ⟨b8, o8, none⟩ = some x8 ∧ w1.cell? ⟨b9, o9, none⟩ = some x9 ∧ Below A.heap.size A w1) (hb : Below w1.heap.size w1 w2) : w2.cell? ⟨b0, o0, none⟩ = some x0 ∧ w2.cell? ⟨b1, o1, none⟩ = some x1 ∧ w2.cell? ⟨b2, o2, none⟩ = some x2 ∧ w2.cell? ⟨b3, o3, none⟩ = some x3 ∧ w2.cell? ⟨b4, o4, none⟩ = some x4 ∧ w2.cell? ⟨b5, o5, none⟩ = some x5 ∧ w2.cell? ⟨b6, o6, none⟩ = some x6 ∧ w2.cell? ⟨b7, o7, none⟩ = some x7 ∧ w2.cell? ⟨b8, o8, none⟩ = some x8 ∧ w2.cell? ⟨b9, o9, none⟩ = some x9 ∧ Below A.heap.size A w2 := by
  obtain ⟨h0, h1, h2, h3, h4, h5, h6, h7, h8, h9, hz⟩ := h
  exact ⟨kept_cell hb h0, kept_cell hb h1, kept_cell hb h2, kept_cell hb h3, kept_cell hb h4, kept_cell hb h5, kept_cell hb h6, kept_cell hb h7, kept_cell hb h8, kept_cell hb h9, below_deep hz hb⟩
set_option maxHeartbeats 4000000 in
theorem dalive_calls (w : World) : Calls Try.prog 29 #[] w fun e w' => e = .returned (.bool true) ∧ Below w.heap.size w w' := by
  have hsm : SmallT aR ∧ SmallT aW := by
    constructor <;> intro x hx <;> simp [aR, aW] at hx <;> first | (rcases hx with rfl | rfl <;> decide) | (subst hx; decide)
  have HRUN := hid (run_calls aR aW aC _ _ _ _ _ _ _ _ _ 45 #[] (fun _ => 2) (aWorld w) (aWorld_deed w) hsm.1 hsm.2 alive_right aliveView_in (fun k _ => aliveTells _ k))
  have HSM := hid hsm
  clear hsm
  go_enter Try.func29, Try.ntmps29
  go_wp2_with fail
  refine HRUN.out.mono ?_
  rintro e w1 ⟨r, m, f, vb, vn, vc, kb, kn, kc, hex, rfl, hl1, hl2, hb⟩
  have h7 : r 0 = 7 := by rw [← alive_r0, hex]
  obtain rfl : f = false := by rw [← alive_f, hex]
  have hv : vers m aW = [(tA, some 7)] := by rw [← alive_vers, hex]
  simp only [Bool.false_eq_true, if_false] at hl1 hl2
  rw [hv] at hl1 hl2
  have hvn : vn = 1 := by have := hl1.len; simp [verCells, verCell] at this; omega
  have hkn : kn = 1 := by have := hl2.len; simp [keysOf, strs] at this; omega
  subst hvn
  subst hkn
  rcases hl1.run with h | ⟨b1, o1, rfl, q1⟩
  · omega
  rcases hl2.run with h | ⟨b2, o2, rfl, q2⟩
  · omega
  have a0 := q1 0 _ rfl
  have a1 := q1 1 _ rfl
  have a2 := q1 2 _ rfl
  have a3 := q1 3 _ rfl
  have k0 := q2 0 _ rfl
  rw [Nat.add_zero] at a0 k0
  have d0 := kept_cell hb (aWorld_cell w 0 _ rfl)
  have d1 := kept_cell hb (aWorld_cell w 1 _ rfl)
  have d2 := kept_cell hb (aWorld_cell w 2 _ rfl)
  have HB := hid (below_deep (aWorld_below w) hb)
  have HDD := hid ((aWorld_deed w).below hb)
  have hst : ([97] == tA.toList) = true := by rw [ByteArray.toList_eq]; decide
  have hst' : (tA.toList == [97]) = true := by rw [ByteArray.toList_eq]; decide
  clear hb q1 q2 hl1 hl2 hv hex
  go_wp2
  have HS0 : Hid ((fun w' => w'.cell? ⟨w.heap.size + 1 + 1 + 1, 0, none⟩ = some (.slice (some ⟨w.heap.size, 0, none⟩) 1 1) ∧ w'.cell? ⟨w.heap.size + 1 + 1 + 1, 1, none⟩ = some (.slice (some ⟨w.heap.size + 1, 0, none⟩) 2 2) ∧ w'.cell? ⟨w.heap.size + 1 + 1 + 1, 2, none⟩ = some (.slice (some ⟨w.heap.size + 1 + 1, 0, none⟩) 4 4) ∧ w'.cell? ⟨w1.heap.size, 0, none⟩ = some (.bool false) ∧ w'.cell? ⟨w1.heap.size, 1, none⟩ = some (.int .i64 7) ∧ w'.cell? ⟨b1, o1, none⟩ = some (.int .i64 0) ∧ w'.cell? ⟨b1, o1 + 1, none⟩ = some (.bool true) ∧ w'.cell? ⟨b1, o1 + 2, none⟩ = some (.bool true) ∧ w'.cell? ⟨b1, o1 + 3, none⟩ = some (.int .i64 7) ∧ w'.cell? ⟨b2, o2, none⟩ = some (.string tA) ∧ Below w1.heap.size w1 w') (w1.alloc (.cells #[.bool false, .int .i64 7, .int .i64 (r 1), .int .i64 (r 2), .int .i64 (r 3)] 47)).drew) :=
    ⟨box_past _ d0, box_past _ d1, box_past _ d2, box_cell w1 _ _ 0 _ rfl, box_cell w1 _ _ 1 _ rfl, box_past _ a0, box_past _ a1, box_past _ a2, box_past _ a3, box_past _ k0, (grew _ _).drew⟩
  go_region_held3 (fun w' => w'.cell? ⟨w.heap.size + 1 + 1 + 1, 0, none⟩ = some (.slice (some ⟨w.heap.size, 0, none⟩) 1 1) ∧ w'.cell? ⟨w.heap.size + 1 + 1 + 1, 1, none⟩ = some (.slice (some ⟨w.heap.size + 1, 0, none⟩) 2 2) ∧ w'.cell? ⟨w.heap.size + 1 + 1 + 1, 2, none⟩ = some (.slice (some ⟨w.heap.size + 1 + 1, 0, none⟩) 4 4) ∧ w'.cell? ⟨w1.heap.size, 0, none⟩ = some (.bool false) ∧ w'.cell? ⟨w1.heap.size, 1, none⟩ = some (.int .i64 7) ∧ w'.cell? ⟨b1, o1, none⟩ = some (.int .i64 0) ∧ w'.cell? ⟨b1, o1 + 1, none⟩ = some (.bool true) ∧ w'.cell? ⟨b1, o1 + 2, none⟩ = some (.bool true) ∧ w'.cell? ⟨b1, o1 + 3, none⟩ = some (.int .i64 7) ∧ w'.cell? ⟨b2, o2, none⟩ = some (.string tA) ∧ Below w1.heap.size w1 w')
    (first
      | exact HS0.out
      | exact ten_keep (by assumption) (by assumption))
    (first
      | (go_at_call 21; refine (wrongDeed_calls aR aW aC _ _ _ _ _ _ _ _ _ _ ?_ HSM.out.1 HSM.out.2).mono ?_; exact HDD.out.below (held11 (by assumption)); rw [alive_right]; rintro e w2 ⟨rfl, hb2⟩)
      | (go_at_call 25; refine (own_calls aR aW aC _ _ _ _ _ _ _ _ _ _ ?_ (by decide) (by decide) (by decide)).mono ?_; exact HDD.out.below (held11 (by assumption)); rintro e w3 ⟨rb', rc', wb', wc', cb', cc', rfl, hd3, hb3⟩)
      | (go_at_call 23; refine (same_calls2 aR aW aC aR aW aC _ _ _ _ _ _ _ _ _ _ _ _ _ _ _ _ _ _ _ ?_ ?_).mono ?_; exact HDD.out.below (held11 (by assumption)); assumption; simp only [decide_true, Bool.and_true]; rintro e w4 ⟨rfl, hb4⟩))
  have HBF := hid (below_deep (below_deep (below_deep (below_deep HB.out ((grew _ _).drew)) hb2) hb3) hb4)
  go_wp2
  go_ret
  exact ⟨rfl, HBF.out⟩
end Go.Proofs.Ytkbgknlndcmgbaa
