/-
  The closed fact that the statement DeedNamed asks first is so.
  The document's own WrongRows and Get, walked.
  The two views that the statement DeedNamed hands to a deed.
  What the loops of the statement DeedNamed keep.
  Whether two deeds are the same, by the document's answer; the view that the statement DeedTells hands to a deed.
  Put and Drop of the program, of rows that rise.
-/
import Derived.Test.YtllhdmhfjahgladGreatDoorDeedSame
import Derived.Test.YtllhdmhfjahgladGreatDoorDeedRun
import Derived.Test.YtllhdmhfjahgladGreatDoorLies
import Derived.Test.YtllhdmhfjahgladGreatDoorRefMath
import Derived.ChangeKeysEq
namespace Go.Proofs.YtllhdmhfjahgladGreatDoor
open Go.RowKit

/-- The keys a and b. -/
def tA : ByteArray := ⟨#[97]⟩
def tB : ByteArray := ⟨#[98]⟩
def tN : ByteArray := ⟨#[]⟩
def aR : List ByteArray := [tA]
def aW : List ByteArray := [tA, tB]
def aC : List Ins := [(1, 0, 0, 0, tA), (2, 1, 0, 5, tN), (3, 0, 1, 0, tN), (6, 0, 0, 0, tA)]

theorem alive_right : wDeed aR aW aC = 0 := by decide
theorem alive_r0 : (exec (fun _ => 2) aC 0 zeroR zeroM).1 0 = 7 := by decide +kernel
theorem alive_f : (exec (fun _ => 2) aC 0 zeroR zeroM).2.2 = false := by decide
theorem alive_vers : vers (exec (fun _ => 2) aC 0 zeroR zeroM).2.1 aW = [(tA, some 7)] := by decide +kernel
theorem lies_new (w : World) (vs : Array Value) (t sz n : Nat) (h : vs.size = n * sz) (hn : n ≤ maxLen) : Lies (w.alloc (.cells vs t)) sz (some ⟨w.heap.size, 0, none⟩) n n vs.toList := by
  refine ⟨by simp [h], ⟨Nat.le_refl _, hn, fun h => by cases h⟩, .inr ⟨_, _, rfl, fun j u hu => ?_⟩⟩
  rw [Nat.zero_add]
  exact box_cell _ _ _ _ _ (by simpa using hu)
theorem grew (w : World) (o : Obj) : Below w.heap.size w (w.alloc o) := (Below.refl _ _).alloc (Nat.le_refl _) _
/-- The world in which the deed lies. -/
def aWorld (w : World) : World := (((w.alloc (.cells #[.string tA] 9)).alloc (.cells #[.string tA, .string tB] 9)).alloc (.cells #[.int .i64 1, .int .i64 0, .int .i64 0, .int .i64 0, .string tA, .int .i64 2, .int .i64 1, .int .i64 0, .int .i64 5, .string tN, .int .i64 3, .int .i64 0, .int .i64 1, .int .i64 0, .string tN, .int .i64 6, .int .i64 0, .int .i64 0, .int .i64 0, .string tA] 83)).alloc (.cells #[.slice (some ⟨w.heap.size, 0, none⟩) 1 1, .slice (some ⟨w.heap.size + 1, 0, none⟩) 2 2, .slice (some ⟨w.heap.size + 1 + 1, 0, none⟩) 4 4] 63)
theorem aWorld_below (w : World) : Below w.heap.size w (aWorld w) := below_deep (below_deep (below_deep (grew _ _) (grew _ _)) (grew _ _)) (grew _ _)
theorem aWorld_deed (w : World) : DeedIn (aWorld w) (some ⟨w.heap.size, 0, none⟩) 1 1 (some ⟨w.heap.size + 1, 0, none⟩) 2 2 (some ⟨w.heap.size + 1 + 1, 0, none⟩) 4 4 aR aW aC := by
  have h1 := lies_new w #[.string tA] 9 1 1 rfl (by unfold maxLen; omega)
  have h2 := lies_new (w.alloc (.cells #[.string tA] 9)) #[.string tA, .string tB] 9 1 2 rfl (by unfold maxLen; omega)
  have h3 := lies_new ((w.alloc (.cells #[.string tA] 9)).alloc (.cells #[.string tA, .string tB] 9)) #[.int .i64 1, .int .i64 0, .int .i64 0, .int .i64 0, .string tA, .int .i64 2, .int .i64 1, .int .i64 0, .int .i64 5, .string tN, .int .i64 3, .int .i64 0, .int .i64 1, .int .i64 0, .string tN, .int .i64 6, .int .i64 0, .int .i64 0, .int .i64 0, .string tA] 83 5 4 rfl (by unfold maxLen; omega)
  rw [World.size_alloc] at h2
  rw [World.size_alloc, World.size_alloc] at h3
  exact ⟨h1.below (by decide) (below_deep (below_deep (grew _ _) (grew _ _)) (grew _ _)), h2.below (by decide) (below_deep (grew _ _) (grew _ _)), h3.below (by decide) (grew _ _)⟩

theorem aWorld_cell (w : World) (j : Nat) (v : Value) (h : (#[Value.slice (some ⟨w.heap.size, 0, none⟩) 1 1, .slice (some ⟨w.heap.size + 1, 0, none⟩) 2 2, .slice (some ⟨w.heap.size + 1 + 1, 0, none⟩) 4 4])[j]? = some v) : (aWorld w).cell? ⟨w.heap.size + 1 + 1 + 1, j, none⟩ = some v := by
  have := box_cell (((w.alloc (.cells #[.string tA] 9)).alloc (.cells #[.string tA, .string tB] 9)).alloc (.cells #[.int .i64 1, .int .i64 0, .int .i64 0, .int .i64 0, .string tA, .int .i64 2, .int .i64 1, .int .i64 0, .int .i64 5, .string tN, .int .i64 3, .int .i64 0, .int .i64 1, .int .i64 0, .string tN, .int .i64 6, .int .i64 0, .int .i64 0, .int .i64 0, .string tA] 83)) _ 63 j v h
  rw [World.size_alloc, World.size_alloc, World.size_alloc] at this
  exact this
theorem held11 {a b c d e f g h i j k : Prop} (x : a ∧ b ∧ c ∧ d ∧ e ∧ f ∧ g ∧ h ∧ i ∧ j ∧ k) : k := x.2.2.2.2.2.2.2.2.2.2
theorem ten_keep {A w1 w2 : World} {b0 o0 b1 o1 b2 o2 b3 o3 b4 o4 b5 o5 b6 o6 b7 o7 b8 o8 b9 o9 : Nat} {x0 x1 x2 x3 x4 x5 x6 x7 x8 x9 : Value} (h : w1.cell? ⟨b0, o0, none⟩ = some x0 ∧ w1.cell? ⟨b1, o1, none⟩ = some x1 ∧ w1.cell? ⟨b2, o2, none⟩ = some x2 ∧ w1.cell? ⟨b3, o3, none⟩ = some x3 ∧ w1.cell? ⟨b4, o4, none⟩ = some x4 ∧ w1.cell? ⟨b5, o5, none⟩ = some x5 ∧ w1.cell? ⟨b6, o6, none⟩ = some x6 ∧ w1.cell? ⟨b7, o7, none⟩ = some x7 ∧ w1.cell? ⟨b8, o8, none⟩ = some x8 ∧ w1.cell? ⟨b9, o9, none⟩ = some x9 ∧ Below A.heap.size A w1) (hb : Below w1.heap.size w1 w2) : w2.cell? ⟨b0, o0, none⟩ = some x0 ∧ w2.cell? ⟨b1, o1, none⟩ = some x1 ∧ w2.cell? ⟨b2, o2, none⟩ = some x2 ∧ w2.cell? ⟨b3, o3, none⟩ = some x3 ∧ w2.cell? ⟨b4, o4, none⟩ = some x4 ∧ w2.cell? ⟨b5, o5, none⟩ = some x5 ∧ w2.cell? ⟨b6, o6, none⟩ = some x6 ∧ w2.cell? ⟨b7, o7, none⟩ = some x7 ∧ w2.cell? ⟨b8, o8, none⟩ = some x8 ∧ w2.cell? ⟨b9, o9, none⟩ = some x9 ∧ Below A.heap.size A w2 := by
  obtain ⟨h0, h1, h2, h3, h4, h5, h6, h7, h8, h9, hz⟩ := h
  exact ⟨kept_cell hb h0, kept_cell hb h1, kept_cell hb h2, kept_cell hb h3, kept_cell hb h4, kept_cell hb h5, kept_cell hb h6, kept_cell hb h7, kept_cell hb h8, kept_cell hb h9, below_deep hz hb⟩
end Go.Proofs.YtllhdmhfjahgladGreatDoor

namespace Go.Proofs.YtllhdmhfjahgladGreatDoor
open Go.RowKit

set_option maxHeartbeats 1000000 in
theorem refWrong_calls (l : List Row) (base : Option Addr) (c : Nat) (w : World) (hl : l.length ≤ maxLen) (hsm : Small l) (ha : Seg w base l) :
    Calls Tryz.prog 6 #[.slice base l.length c] w fun e w' => e = .returned (.int .i64 (wrong l)) ∧ Below w.heap.size w w' := by
  by_cases h0 : l = []
  · subst h0
    go_enter Tryz.func6, Tryz.ntmps6
    go_wp2
    go_loop [8] (fun i => i = .int .i64 0) (fun _ => 0)
    case atStart => rfl
    case round =>
      obtain rfl := hrel
      go_wp2
      go_ret
      exact ⟨rfl, Below.refl _ _⟩
  rcases ha with h | ⟨b, o, rfl, h1⟩
  · exact absurd h h0
  have HSM := hid hsm
  have hbw : b < w.heap.size := h1.lt (by cases l; exact absurd rfl h0; simp)
  have H1 := hid h1
  obtain ⟨n, hn⟩ : ∃ n, n = l.length := ⟨_, rfl⟩
  unfold maxLen at hl
  rw [← hn] at hl ⊢
  have HN := hid hn
  clear hn hsm h1 h0
  go_enter Tryz.func6, Tryz.ntmps6
  go_wp2
  go_loopw [3, 8] (fun s i wr => ∃ (k : Nat) (kj : ByteArray), k ≤ n ∧ i = .int .i64 k ∧ s = .string kj ∧ Hid (wrongTo l k = 0) ∧ Hid (0 < k → kj = (l.getD (k - 1) default).1) ∧ Below w.heap.size w wr) (fun _ i _ => n - (intOf i).toNat)
  case atStart => exact ⟨0, ⟨#[]⟩, Nat.zero_le _, rfl, rfl, rfl, fun h => absurd h (Nat.lt_irrefl _), Below.refl _ _⟩
  case round =>
    obtain ⟨k, kj, hk, rfl, rfl, HW, HJ, hbel⟩ := hrel
    by_cases hlt : k < n
    · have hkl : k < l.length := by rw [← HN.out]; exact hlt
      obtain ⟨c1, d1⟩ := (H1.out.below hbel hbw) k hkl
      have hz := small_getD HSM.out hkl
      have F7 := hid (wrong_7 hkl HW.out)
      have F2 := hid (wrong_2 hkl HW.out)
      have F3 := hid (wrong_3 hkl HW.out)
      have F0 := hid (wrong_0 (k := k) HW.out)
      have hi : (k : Int) < (n : Int) := by omega
      have hsz := hbel.size
      have hblt : b < wr.heap.size := by omega
      cases k with
      | zero =>
        simp only [Nat.zero_mul, Nat.add_zero] at c1 d1
        generalize ek : (l.getD 0 default).1 = kk at *
        generalize (l.getD 0 default).2 = nn at *
        have HE := hid ek
        clear ek
        cases hkb : keyB kk with
        | false =>
          go_wp2_with fail
          refine (refKey_calls kk _ hz).mono ?_
          rintro e w' ⟨rfl, rfl⟩
          rw [hkb]
          go_wp2
          go_ret
          exact ⟨ret_int (F7.out hkb).symm, hbel.alloc hsz _⟩
        | true =>
          go_wp2_with fail
          refine (refKey_calls kk _ hz).mono ?_
          rintro e w' ⟨rfl, rfl⟩
          rw [hkb]
          go_wp2
          · go_ret
            exact ⟨ret_int (F3.out hkb (fun h => absurd h (by omega)) (by omega)).symm, hbel.alloc hsz _⟩
          · go_roundw
            case rel => exact ⟨1, kk, by omega, rfl, rfl, F0.out hkb (fun h => absurd h (by omega)) (by omega) (by omega), fun _ => HE.out.symm, hbel.alloc hsz _⟩
            case measure => simp [intOf]; omega
          · go_ret
            exact ⟨ret_int (F3.out hkb (fun h => absurd h (by omega)) (by omega)).symm, hbel.alloc hsz _⟩
      | succ j =>
        have HJJ := hid (HJ.out (by omega))
        simp only [Nat.add_sub_cancel] at F2 F3 F0 HJJ
        rw [← HJJ.out] at F2 F3 F0
        generalize ek : (l.getD (j + 1) default).1 = kk at *
        generalize (l.getD (j + 1) default).2 = nn at *
        have HE := hid ek
        clear ek
        clear HJ HJJ
        cases hkb : keyB kk with
        | false =>
          go_wp2_with fail
          refine (refKey_calls kk _ hz).mono ?_
          rintro e w' ⟨rfl, rfl⟩
          rw [hkb]
          go_wp2
          go_ret
          exact ⟨ret_int (F7.out hkb).symm, hbel.alloc hsz _⟩
        | true =>
          rcases less_cases kj kk with hj | hj | hj
          · have t1 : Op.bytesLess kk.toList kj.toList = false := less_asymm hj
            have t2 : (kk.toList == kj.toList) = false := by simpa using fun e => less_ne hj (toList_inj e).symm
            go_wp2_with fail
            refine (refKey_calls kk _ hz).mono ?_
            rintro e w' ⟨rfl, rfl⟩
            rw [hkb]
            go_wp2
            · go_ret
              exact ⟨ret_int (F3.out hkb (fun _ => hj) (by omega)).symm, hbel.alloc hsz _⟩
            · go_roundw
              case rel => exact ⟨j + 1 + 1, kk, by omega, by go_num, rfl, F0.out hkb (fun _ => hj) (by omega) (by omega), fun _ => HE.out.symm, hbel.alloc hsz _⟩
              case measure => simp [intOf]; omega
            · go_ret
              exact ⟨ret_int (F3.out hkb (fun _ => hj) (by omega)).symm, hbel.alloc hsz _⟩
          · have FF : Hid (wrong l = 2) := F2.out hkb (by omega) (by rw [hj]; exact less_irrefl _)
            have t1 : Op.bytesLess kk.toList kj.toList = false := by rw [hj]; exact less_irrefl _
            have t2 : (kk.toList == kj.toList) = true := by rw [hj]; simp
            clear hj
            go_wp2_with fail
            refine (refKey_calls kk _ hz).mono ?_
            rintro e w' ⟨rfl, rfl⟩
            rw [hkb]
            go_wp2
            go_ret
            exact ⟨ret_int FF.out.symm, hbel.alloc hsz _⟩
          · have FF : Hid (wrong l = 2) := F2.out hkb (by omega) (less_asymm hj)
            have t1 : Op.bytesLess kk.toList kj.toList = true := hj
            clear hj
            go_wp2_with fail
            refine (refKey_calls kk _ hz).mono ?_
            rintro e w' ⟨rfl, rfl⟩
            rw [hkb]
            go_wp2
            go_ret
            exact ⟨ret_int FF.out.symm, hbel.alloc hsz _⟩
    · go_wp2
      go_ret
      exact ⟨ret_int (by rw [wrong, ← HN.out, show n = k from by omega]; exact HW.out.symm), hbel⟩

set_option maxHeartbeats 1000000 in
theorem refGet_calls (l : List Row) (base : Option Addr) (n c : Nat) (k : ByteArray) (w : World) (hs : Srt l) (ha : Holds w base n c l) :
    Calls Tryz.prog 44 #[.slice base n c, .string k] w fun e w' => e = .returned (.tuple #[.int .i64 (num k l), .bool (isAt k l)]) ∧ Below w.heap.size w w' := by
  have HN := hid ha.len
  have hm := Nat.le_trans ha.hdr.le ha.hdr.max
  unfold maxLen at hm
  by_cases h0 : n = 0
  · subst h0
    have hg := hid (get_none (k := k) (l := l) fun j hj => by rw [← HN.out] at hj; omega)
    go_enter Tryz.func44, Tryz.ntmps44
    go_wp2
    go_loop [10] (fun i => i = .int .i64 0) (fun _ => 0)
    case atStart => rfl
    case round =>
      obtain rfl := hrel
      go_wp2
      go_ret2
      exact ⟨by rw [hg.out.1, hg.out.2]; rfl, Below.refl _ _⟩
  rcases ha.seg with h | ⟨b, o, rfl, h1⟩
  · exact absurd (by rw [HN.out, h]; rfl) h0
  have hbw : b < w.heap.size := h1.lt (by rw [← HN.out]; omega)
  have H1 := hid h1
  have HS := hid hs
  clear h1 hs ha h0
  go_enter Tryz.func44, Tryz.ntmps44
  go_wp2
  go_loopw [10] (fun i wr => ∃ j : Nat, j ≤ n ∧ i = .int .i64 j ∧ Hid (∀ t, t < j → (l.getD t default).1 ≠ k) ∧ Below w.heap.size w wr) (fun i _ => n - (intOf i).toNat)
  case atStart => exact ⟨0, Nat.zero_le _, rfl, fun t ht => absurd ht (Nat.not_lt_zero _), Below.refl _ _⟩
  case round =>
    obtain ⟨j, hj, rfl, HA, hbel⟩ := hrel
    have hsz := hbel.size
    by_cases hlt : j < n
    · have hjl : j < l.length := by rw [← HN.out]; exact hlt
      obtain ⟨c1, d1⟩ := (H1.out.below hbel hbw) j hjl
      have HF := hid (get_found (k := k) HS.out hjl)
      have HX : Hid ((l.getD j default).1 ≠ k → ∀ t, t < j + 1 → (l.getD t default).1 ≠ k) := fun hne t ht => by
        by_cases e : t = j
        · rw [e]; exact hne
        · exact HA.out t (by omega)
      generalize (l.getD j default).1 = kk at *
      generalize (l.getD j default).2 = nn at *
      have hi : (j : Int) < (n : Int) := by omega
      by_cases hk : kk = k
      · have hkb : (kk.toList == k.toList) = true := by rw [hk]; simp
        have HE := hid (HF.out hk)
        clear hk
        go_wp2
        go_ret2
        exact ⟨by rw [HE.out.1, HE.out.2]; rfl, hbel.alloc hsz _⟩
      · have hkb : (kk.toList == k.toList) = false := by simpa using fun e => hk (toList_inj e)
        go_wp2
        go_roundw
        case rel => exact ⟨j + 1, by omega, by go_num, HX.out hk, hbel.alloc hsz _⟩
        case measure => simp [intOf]; omega
    · have HG := hid (get_none (k := k) (l := l) fun t ht => HA.out t (by rw [← HN.out] at ht; omega))
      go_wp2
      go_ret2
      exact ⟨by rw [HG.out.1, HG.out.2]; rfl, hbel⟩
end Go.Proofs.YtllhdmhfjahgladGreatDoor

namespace Go.Proofs.YtllhdmhfjahgladGreatDoor
open Go.RowKit

theorem set_same_below {w : World} {a : Addr} {u : Value} (h : w.cell? a = some u) : Below w.heap.size w (w.setCell a u) := by
  refine ⟨rfl, rfl, rfl, by simp [World.setCell], fun k _ => ?_⟩
  by_cases e : k = a.block
  · subst e
    simp only [World.setCell, Array.getElem?_modify, if_true]
    unfold World.cell? at h
    split at h
    · rename_i c t z hc
      rw [hc]
      split at h
      · cases h
      · rename_i hs
        simp only [Option.map_some, Option.some.injEq, Obj.cells.injEq, and_true]
        rw [if_neg hs]
        apply Array.ext_getElem?
        intro i
        rw [Array.getElem?_setIfInBounds]
        split
        · rename_i e
          subst e
          split
          · exact h.symm
          · rename_i hlt
            rw [Array.getElem?_eq_none (by omega)]
        · rfl
    · cases h
  · exact Below.heap_setCell _ _ _ _ e

theorem boolZero (w : World) : (zeroValue 4).run Tryz.prog w = .ok (.bool false) w := by kernel_rfl

/-- A key that is not there has 0. -/
theorem seen_num (k : ByteArray) (l : List Row) : (if isAt k l = true then num k l else 0) = num k l := by
  cases h : isAt k l with
  | true => rfl
  | false => rw [num_not k l h]; rfl

/-- An append onto a row of the call's own, at a step of a statement that draws its order. -/
theorem step_onto (w : World) {ops : Array Oper} {o : Oper} {a : Act} {K : Act → World → Prop} {Q : Exit → Act → World → Prop} {E : Prop} (hgd : o.guard = none) (s x : Operand) (t e sz bytes : Nat) (z : Value)
    (hu : Tryz.prog.underlying t = some (.slice e)) (hinfo : (Tryz.prog.info? e).map (fun i => (i.zero, i.size, i.bytes)) = some (some z, sz, bytes)) (hzc : z.cells.size = sz) (hsz : 0 < sz) (hby : 0 < bytes)
    (ho : o.op = .call { callee := .builtin .append, args := #[s, x], argTypes := #[t, t] })
    (B : Nat) (v : Value) (n : Nat) (l : List Value) (hs : a.eval s = v) (hown : w.ownsRow B e sz v n l) (base : Option Addr) (m c : Nat) (l2 : List Value) (hx : a.eval x = .slice base m c) (hh : Lies w sz base m c l2) (hone : ∀ u ∈ l2, u.oneCell' = true)
    (hbytes : (n + m) * bytes ≤ 140737488355328) (hB : B ≤ w.heap.size)
    (h : ∀ b' c' w', Lies w' sz b' (n + m) c' (l ++ l2) → Fresh B b' → w'.ownsRow B e sz (.slice b' (n + m) c') (n + m) (l ++ l2) → Below B w w' → K (a.put o.dst (.slice b' (n + m) c')) w') : if Region.wanted o (yielded ops a.tmps) = true then Oper.wp Tryz.prog o a w K Q else E := by
  have hw : Region.wanted o (yielded ops a.tmps) = true := by simp [Region.wanted, hgd]
  rw [if_pos hw]
  obtain ⟨i0, hi, hz0, hz1, hz2⟩ := info_parts hinfo
  have hlen := hh.len
  have h63 : n + m ≤ maxLen := by
    have := Nat.le_mul_of_pos_right (n + m) hby
    unfold maxLen; omega
  have hfin : ∀ v' w', w'.ownsRow B e sz v' (n + m) (l ++ l2) → w.grownBy w' v.ownBlock → K (a.put o.dst v') w' := fun v' w' h1 h2 => by
    obtain ⟨b', c', rfl, hl⟩ := Lies.owned h1
    exact h b' c' w' hl (fun ad e => (h1.lt ad.block (by rw [e]; rfl)).1) h1 ((Below.refl _ _).grown h2 hB (fun k hk => (hown.lt k hk).1))
  have key : ∀ ad, base = some ad → (∀ j u, l2[j]? = some u → w.cell? (ad.add j) = some u) → Oper.wp Tryz.prog o a w K Q := fun ad had hnews =>
    wp_append_own w s x t ho B e i0 _ sz bytes hu hi hz0 hz1 hz2 hzc hsz v n l hs hown ad m c l2 (by rw [hx, had]) hlen hnews hone h63 hbytes hB
      (fun v' w' h1 h2 _ => hfin v' w' h1 h2)
  cases base with
  | some ad =>
    rcases hh.run with he | ⟨b, o', he, hc⟩
    · subst he
      have : l2 = [] := List.eq_nil_of_length_eq_zero (by omega)
      exact key ad rfl (fun j u hu => by rw [this] at hu; simp at hu)
    · cases he
      exact key _ rfl (fun j u hu => by rw [Addr.add_lit]; exact hc j u hu)
  | none =>
    obtain rfl := hh.hdr.nil rfl
    obtain rfl : m = 0 := by have := hh.hdr.le; omega
    have hl2 : l2 = [] := List.eq_nil_of_length_eq_zero (by omega)
    have hrun := run_append_owned_none (P := Tryz.prog) w B t o.type e i0 sz hu hi v n l hown
    unfold Oper.wp
    simp [execOp, ho, resolve, invoke, builtin, hs, hx, hrun, Result.andThen]
    obtain ⟨b', c', rfl, hl⟩ := Lies.owned hown
    have hl' := h b' c' w (by rw [hl2]; simpa using hl) (fun ad e => (hown.lt ad.block (by rw [e]; rfl)).1) (by rw [hl2]; simpa using hown) (Below.refl _ _)
    exact hl'
end Go.Proofs.YtllhdmhfjahgladGreatDoor

namespace Go.Proofs.YtllhdmhfjahgladGreatDoor
open Go.RowKit

/-- A set of texts, as the statement keeps it. -/
def nameMap (l : List ByteArray) : ByteArray → Option Value := fun k => if has l k = true then some (.bool true) else none
theorem nameMap_snoc (l : List ByteArray) (x : ByteArray) : nameMap (l ++ [x]) = fun j => if j = x then some (.bool true) else nameMap l j := by
  funext j
  unfold nameMap
  rw [has_snoc]
  by_cases e : j = x
  · subst e; simp
  · have : ¬ x = j := fun h => e h.symm
    simp [e, this]
theorem nameMap_nil : nameMap [] = fun _ => none := by funext j; simp [nameMap, has]
theorem nameMap_yes {l : List ByteArray} {k : ByteArray} (h : k ∈ l) : nameMap l k = some (.bool true) := by
  unfold nameMap; rw [if_pos (has_iff.2 h)]
theorem nameMap_getD (l : List ByteArray) (k : ByteArray) : (nameMap l k).getD (.bool false) = .bool (has l k) := by
  unfold nameMap; cases h : has l k <;> simp

/-- Cells lie as they did when one other block alone was written. -/
theorem cell_but {w w' : World} {b x g : Nat} {v : Value} (hg : w.grownBy w' (some g)) (hne : b ≠ g) (h : w.cell? ⟨b, x, none⟩ = some v) : w'.cell? ⟨b, x, none⟩ = some v := by
  have := World.block_lt_of_cell? _ _ h
  rw [World.cell?_of_block (w := w) (a := ⟨b, x, none⟩) (hg.block b this (by simpa using hne))]
  exact h
theorem lies_but {w w' : World} {sz : Nat} {base : Option Addr} {n c g B : Nat} {vs : List Value} (h : Lies w sz base n c vs) (hf : Fresh B base) (hg : w.grownBy w' (some g)) (hB : g < B) : Lies w' sz base n c vs := by
  refine ⟨h.len, h.hdr, ?_⟩
  rcases h.run with h0 | ⟨b, o, e, hr⟩
  · exact .inl h0
  · have hb : B ≤ b := hf _ e
    exact .inr ⟨b, o, e, fun j u hu => cell_but hg (by omega) (hr j u hu)⟩

/-- What the first loop keeps: s is where the map is, its place is behind it. -/
structure NK (w wr : World) (base : Option Addr) (n c j : Nat) (L : List ByteArray) : Prop where
  map : MapIs wr w.heap.size j (nameMap (L.take j))
  place : wr.cell? ⟨w.heap.size + 1, 0, none⟩ = some (.map (some w.heap.size))
  txt : Texts wr base n c L
  old : Below w.heap.size w wr
theorem NK.put {w wr w2 : World} {base : Option Addr} {n c j : Nat} {L : List ByteArray} (h : NK w wr base n c j L) (hj : j < L.length) (hf : Fresh (w.heap.size + 2) base)
    (hm : MapIs w2 w.heap.size (j + 1) (fun k => if k = L.getD j default then some (.bool true) else nameMap (L.take j) k)) (hg : wr.grownBy w2 (some w.heap.size)) : NK w w2 base n c (j + 1) L := by
  refine ⟨?_, cell_but hg (by omega) h.place, lies_but h.txt hf hg (by omega), ⟨hg.os.trans h.old.os, hg.tape.trans h.old.tape, hg.output.trans h.old.output, Nat.le_trans h.old.size hg.size, fun k hk => ?_⟩⟩
  · rw [take_snoc_getD hj, nameMap_snoc]; exact hm
  · have := h.old.size
    rw [hg.block k (by omega) (by simp; omega)]; exact h.old.block k hk

theorem keysOf_vers (m : Made) (W : List ByteArray) : keysOf (vers m W) = W.filter (fun k => (m k).isSome) := by
  induction W with
  | nil => rfl
  | cons k W ih =>
    unfold vers keysOf at *
    rw [List.filterMap_cons, List.filter_cons]
    cases h : m k <;> simp [ih]
/-- What is told of a deed that has ended. -/
def toldV (f : Bool) (m : Made) (W : List ByteArray) : List (ByteArray × Option Int) := if f then [] else vers m W
theorem told_in {f : Bool} {m : Made} {W : List ByteArray} {k : ByteArray} (h : k ∈ keysOf (toldV f m W)) : k ∈ W := by
  unfold toldV at h
  cases f
  · simp only [Bool.false_eq_true, if_false] at h
    rw [keysOf_vers] at h
    exact (List.mem_filter.1 h).1
  · simp [keysOf] at h
theorem told_nodup {f : Bool} {m : Made} {W : List ByteArray} (h : W.Nodup) : (keysOf (toldV f m W)).Nodup := by
  unfold toldV
  cases f
  · simp only [Bool.false_eq_true, if_false]
    rw [keysOf_vers]
    exact h.filter _
  · simp [keysOf]
theorem fresh_key {l : List ByteArray} (h : l.Nodup) {j : Nat} (hj : j < l.length) : has (l.take j) (l.getD j default) = false := by
  cases e : has (l.take j) (l.getD j default) with
  | false => rfl
  | true =>
    rw [has_iff, List.mem_take_iff_getElem] at e
    obtain ⟨i, hi, e⟩ := e
    rw [List.nodup_iff_pairwise_ne, List.pairwise_iff_getElem] at h
    exact absurd (by rw [e]; simp [List.getD, hj]) (h i j (by omega) hj (by omega))

/-- What the second loop keeps: s is the map's block. -/
structure HK2 (w wr : World) (s j : Nat) (L : List ByteArray) : Prop where
  map : MapIs wr s j (nameMap (L.take j))
  old : Below s w wr
theorem HK2.put {w wr w2 : World} {s j : Nat} {L : List ByteArray} (h : HK2 w wr s j L) (hj : j < L.length)
    (hm : MapIs w2 s (j + 1) (fun k => if k = L.getD j default then some (.bool true) else nameMap (L.take j) k)) (hg : wr.grownBy w2 (some s)) : HK2 w w2 s (j + 1) L := by
  refine ⟨?_, ⟨hg.os.trans h.old.os, hg.tape.trans h.old.tape, hg.output.trans h.old.output, Nat.le_trans h.old.size hg.size, fun k hk => ?_⟩⟩
  · rw [take_snoc_getD hj, nameMap_snoc]; exact hm
  · have := h.map.lt
    rw [hg.block k (by omega) (by simp; omega)]; exact h.old.block k hk
theorem below_cell {B : Nat} {w w' : World} {b x : Nat} {v : Value} (hb : Below B w w') (hB : b < B) (h : w.cell? ⟨b, x, none⟩ = some v) : w'.cell? ⟨b, x, none⟩ = some v := by
  rw [hb.cell (p := ⟨b, x, none⟩) hB]; exact h
theorem intCells : Tryz.prog.cellsOf 3 = 1 := by kernel_rfl
set_option maxRecDepth 100000 in
theorem regsEq (a b c d : Int) (w : World) : (Op.equalIn 9999 49 (.agg #[.int .i64 a, .int .i64 b, .int .i64 c, .int .i64 d]) (.agg #[.int .i64 a, .int .i64 b, .int .i64 c, .int .i64 d])).run Tryz.prog w = .ok true w := by
  obtain ⟨i, hi⟩ : ∃ i, Tryz.prog.info? 3 = some i := ⟨_, rfl⟩
  rw [show (9999 : Nat) = 9998 + 1 from rfl, run_equalIn_array w 9998 _ _ Tryz.underlying49 hi, intCells]
  simp [Op.eqItems, List.range, List.range.loop, go_sem]
end Go.Proofs.YtllhdmhfjahgladGreatDoor

namespace Go.Proofs.YtllhdmhfjahgladGreatDoor
open Go.RowKit

set_option maxHeartbeats 4000000 in
theorem refSameDeed_calls (R W : List ByteArray) (C : List Ins) (R' W' : List ByteArray) (C' : List Ins) (rb : Option Addr) (rn rc : Nat) (wb : Option Addr) (wn wc : Nat) (cb : Option Addr) (cn cc : Nat) (rb' : Option Addr) (rn' rc' : Nat) (wb' : Option Addr) (wn' wc' : Nat) (cb' : Option Addr) (cn' cc' : Nat) (w : World)
    (hd : DeedIn w rb rn rc wb wn wc cb cn cc R W C) (hd' : DeedIn w rb' rn' rc' wb' wn' wc' cb' cn' cc' R' W' C') :
    Calls Tryz.prog 31 #[.agg #[.slice rb rn rc, .slice wb wn wc, .slice cb cn cc], .agg #[.slice rb' rn' rc', .slice wb' wn' wc', .slice cb' cn' cc']] w fun e w' =>
      e = .returned (.bool (decide (R = R') && (decide (W = W') && decide (C = C')))) ∧ Below w.heap.size w w' := by
  obtain ⟨A, hA⟩ : ∃ A, A = (w.alloc (.cells #[.slice rb rn rc, .slice wb wn wc, .slice cb cn cc] 63)).alloc (.cells #[.slice rb' rn' rc', .slice wb' wn' wc', .slice cb' cn' cc'] 63) := ⟨_, rfl⟩
  have hb0 : Below w.heap.size w A := by rw [hA]; exact (((Below.refl _ _).alloc (Nat.le_refl _) _).alloc (by simp) _)
  have HB0 := hid hb0
  have HR := hid (fun q => sameTexts_calls R R' rb rn rc rb' rn' rc' (A.drewN q) ((hd.below (below_drewN hb0 q)).tr) ((hd'.below (below_drewN hb0 q)).tr))
  have HW := hid (fun q => sameTexts_calls W W' wb wn wc wb' wn' wc' (A.drewN q) ((hd.below (below_drewN hb0 q)).tw) ((hd'.below (below_drewN hb0 q)).tw))
  have HC1 := hid (hd.below hb0).cd
  have HC2 := hid (hd'.below hb0).cd
  have x2 : A.cell? ⟨w.heap.size, 2, none⟩ = some (.slice cb cn cc) := by rw [hA]; exact box_past _ (box_cell w _ _ 2 _ rfl)
  have y2 : A.cell? ⟨w.heap.size + 1, 2, none⟩ = some (.slice cb' cn' cc') := by
    have := box_cell (w.alloc (.cells #[.slice rb rn rc, .slice wb wn wc, .slice cb cn cc] 63)) #[.slice rb' rn' rc', .slice wb' wn' wc', .slice cb' cn' cc'] 63 2 _ rfl
    rw [World.size_alloc] at this; rw [hA]; exact this
  have HXY := hid (And.intro x2 y2)
  have hm1 := Nat.le_trans hd.cd.hdr.le hd.cd.hdr.max
  have hm2 := Nat.le_trans hd'.cd.hdr.le hd'.cd.hdr.max
  unfold maxLen at hm1 hm2
  have HN1 := hid (Codes.count hd.cd)
  have HN2 := hid (Codes.count hd'.cd)
  clear hd hd' hb0 x2 y2
  generalize decide (R = R') = e1 at *
  generalize decide (W = W') = e2 at *
  cases e1 with
  | false =>
    subst hA
    go_enter Tryz.func31, Tryz.ntmps31
    go_wp2_with fail
    refine (HR.out 0).mono ?_
    rintro e w1 ⟨rfl, q, rfl⟩
    go_wp2
    go_ret
    exact ⟨rfl, below_drewN HB0.out _⟩
  | true =>
    cases e2 with
    | false =>
      subst hA
      go_enter Tryz.func31, Tryz.ntmps31
      go_wp2_with fail
      refine (HR.out 0).mono ?_
      rintro e w1 ⟨rfl, q, rfl⟩
      go_wp2_with fail
      refine (HW.out _).mono ?_
      rintro e w1 ⟨rfl, q2, rfl⟩
      go_wp2
      go_ret
      exact ⟨rfl, below_drewN HB0.out _⟩
    | true =>
      by_cases hne : cn = cn'
      · subst hne
        have HCC : Hid ((true && (true && decide (C = C'))) = decide (C = C')) := by show _ = _; simp
        rw [HCC.out]
        by_cases h0 : cn = 0
        · have h1 : C = [] := List.eq_nil_of_length_eq_zero (by have := HN1.out; omega)
          have h2 : C' = [] := List.eq_nil_of_length_eq_zero (by have := HN2.out; omega)
          subst h0
          subst h1
          subst h2
          subst hA
          go_enter Tryz.func31, Tryz.ntmps31
          go_wp2_with fail
          refine (HR.out 0).mono ?_
          rintro e w1 ⟨rfl, q, rfl⟩
          go_wp2_with fail
          refine (HW.out _).mono ?_
          rintro e w1 ⟨rfl, q2, rfl⟩
          go_wp2
          go_loop [32] (fun i => i = .int .i64 0) (fun _ => 0)
          case atStart => rfl
          case round =>
            obtain rfl := hrel
            go_wp2
            go_ret
            exact ⟨rfl, below_drewN HB0.out _⟩
        · rcases HC1.out.run with h | ⟨b1, o1, rfl, h1⟩
          · exact absurd h h0
          rcases HC2.out.run with h | ⟨b2, o2, rfl, h2⟩
          · exact absurd h h0
          have H1 := hid h1
          have H2 := hid h2
          have z1 := HXY.out.1
          have z2 := HXY.out.2
          clear h1 h2 h0
          subst hA
          go_enter Tryz.func31, Tryz.ntmps31
          go_wp2_with fail
          refine (HR.out 0).mono ?_
          rintro e w1 ⟨rfl, q, rfl⟩
          go_wp2_with fail
          refine (HW.out _).mono ?_
          rintro e w1 ⟨rfl, q2, rfl⟩
          generalize hA2 : (w.alloc (.cells #[.slice rb rn rc, .slice wb wn wc, .slice (some ⟨b1, o1, none⟩) cn cc] 63)).alloc (.cells #[.slice rb' rn' rc', .slice wb' wn' wc', .slice (some ⟨b2, o2, none⟩) cn cc'] 63) = A2 at *
          clear hA2
          go_wp2
          go_loopw [32] (fun i wr => ∃ k : Nat, k ≤ cn ∧ i = .int .i64 k ∧ Hid (C.take k = C'.take k) ∧ ∃ q, wr = A2.drewN q) (fun i _ => cn - (intOf i).toNat)
          case atStart => exact ⟨0, Nat.zero_le _, rfl, rfl, _, rfl⟩
          case round =>
            obtain ⟨k, hk, rfl, HT, q, rfl⟩ := hrel
            by_cases hlt : k < cn
            · have hk1 : k < C.length := by rw [← HN1.out]; exact hlt
              have hk2 : k < C'.length := by rw [← HN2.out]; exact hlt
              obtain ⟨c0, c1, c2, c3, c4⟩ := Codes.cells H1.out hk1
              obtain ⟨d0, d1, d2, d3, d4⟩ := Codes.cells H2.out hk2
              have HS := hid (take_both hk1 hk2 HT.out)
              have HF := hid (ne_both (l := C) (m := C') (k := k))
              generalize C.getD k default = x at *
              generalize C'.getD k default = y at *
              obtain ⟨x0, x1, x2, x3, x4⟩ := x
              obtain ⟨y0, y1, y2, y3, y4⟩ := y
              simp only [Ins.kind, Ins.a, Ins.b, Ins.n, Ins.key] at c0 c1 c2 c3 c4 d0 d1 d2 d3 d4
              have hi : (k : Int) < (cn : Int) := by omega
              by_cases he : (x0, x1, x2, x3, x4) = (y0, y1, y2, y3, y4)
              · simp only [Prod.mk.injEq] at he
                obtain ⟨rfl, rfl, rfl, rfl, rfl⟩ := he
                have t0 : (x0 == x0) = true := by simp
                have t1 : (x1 == x1) = true := by simp
                have t2 : (x2 == x2) = true := by simp
                have t3 : (x3 == x3) = true := by simp
                have t4 : (x4.toList == x4.toList) = true := by simp
                go_wp2
                go_quiet (fail)
                go_wp2
                go_roundw
                case rel => exact ⟨k + 1, by omega, by go_num, HS.out (by simp), _, rfl⟩
                case measure => simp [intOf]; omega
              · have HN := hid (HF.out he)
                rcases first_diff he with h | ⟨rfl, h⟩ | ⟨rfl, rfl, h⟩ | ⟨rfl, rfl, rfl, h⟩ | ⟨rfl, rfl, rfl, rfl, h⟩
                · have t := dec_false h
                  clear he h HS HF
                  go_wp2
                  go_quiet (fail)
                  go_wp2
                  go_ret
                  exact ⟨ret_bool (by simp [HN.out]), below_drewN (below_drewN HB0.out _) _⟩
                · have t := dec_false h
                  clear he h HS HF
                  go_wp2
                  go_quiet (fail)
                  go_wp2
                  go_ret
                  exact ⟨ret_bool (by simp [HN.out]), below_drewN (below_drewN HB0.out _) _⟩
                · have t := dec_false h
                  clear he h HS HF
                  go_wp2
                  go_quiet (fail)
                  go_wp2
                  go_ret
                  exact ⟨ret_bool (by simp [HN.out]), below_drewN (below_drewN HB0.out _) _⟩
                · have t := dec_false h
                  clear he h HS HF
                  go_wp2
                  go_quiet (fail)
                  go_wp2
                  go_ret
                  exact ⟨ret_bool (by simp [HN.out]), below_drewN (below_drewN HB0.out _) _⟩
                · have t := streq_false h
                  clear he h HS HF
                  go_wp2
                  go_quiet (fail)
                  go_wp2
                  go_ret
                  exact ⟨ret_bool (by simp [HN.out]), below_drewN (below_drewN HB0.out _) _⟩
            · obtain rfl : k = cn := by omega
              have HE : Hid (C = C') := by
                show _ = _
                have := HT.out
                rwa [List.take_of_length_le (by rw [← HN1.out]; exact Nat.le_refl _), List.take_of_length_le (by rw [← HN2.out]; exact Nat.le_refl _)] at this
              go_wp2
              go_ret
              exact ⟨ret_bool (by simp [HE.out]), below_drewN HB0.out _⟩
      · have HNE : Hid (decide (C = C') = false) := by
          show _ = _
          simp only [decide_eq_false_iff_not]
          exact fun e => hne (by rw [HN1.out, HN2.out, e])
        rw [HNE.out]
        have t : ((cn : Int) == (cn' : Int)) = false := by simp; omega
        subst hA
        go_enter Tryz.func31, Tryz.ntmps31
        go_wp2_with fail
        refine (HR.out 0).mono ?_
        rintro e w1 ⟨rfl, q, rfl⟩
        go_wp2_with fail
        refine (HW.out _).mono ?_
        rintro e w1 ⟨rfl, q2, rfl⟩
        go_wp2
        go_ret
        exact ⟨rfl, below_drewN HB0.out _⟩

end Go.Proofs.YtllhdmhfjahgladGreatDoor

namespace Go.Proofs.YtllhdmhfjahgladGreatDoor
open Go.RowKit

theorem cells_one (w : World) (k : ByteArray) (m : Int) (t : TypeId) : Cells (w.alloc (.cells #[.string k, .int .i64 m] t)) w.heap.size 0 [(k, m)] := fun i hi => by
  obtain rfl : i = 0 := by simpa using hi
  refine ⟨?_, ?_⟩ <;> (rw [World.cell?_alloc_at _ _ _ _ (by simp)]; rfl)

/-- Of three things the one with number j. -/
def pick3 {α : Type} (a b c : α) : Nat → α
  | 0 => a
  | 1 => b
  | _ => c

theorem below_new (w : World) (o : Obj) : Below w.heap.size w (w.alloc o) := (Below.refl _ _).alloc (Nat.le_refl _) _

end Go.Proofs.YtllhdmhfjahgladGreatDoor
