/-
  The closed fact that the statement DeedNamed asks first is so.
  The document's own WrongRows and Get, walked.
-/
import Derived.Test.YtdnafpenljdinadDeedRun
import Derived.Test.YtdnafpenljdinadConcat
import Derived.Test.YtdnafpenljdinadRefMath
namespace Go.Proofs.Ytdnafpenljdinad
open Go.RowKit

/-- The keys a and b. -/
def tA : ByteArray := ⟨#[97]⟩
def tB : ByteArray := ⟨#[98]⟩
def tN : ByteArray := ⟨#[]⟩
def aR : List ByteArray := [tA]
def aW : List ByteArray := [tA, tB]
def aC : List Ins := [(1, 0, 0, 0, tA), (2, 1, 0, 5, tN), (3, 0, 1, 0, tN), (6, 0, 0, 0, tA)]

theorem alive_right : wDeed aR aW aC = 0 := by decide
theorem alive_r0 : (exec (fun _ => 2) aC 0 zeroR zeroM).1 0 = 7 := by decide +kernel
theorem alive_f : (exec (fun _ => 2) aC 0 zeroR zeroM).2.2 = false := by decide
theorem alive_vers : vers (exec (fun _ => 2) aC 0 zeroR zeroM).2.1 aW = [(tA, some 7)] := by decide +kernel
theorem lies_new (w : World) (vs : Array Value) (t sz n : Nat) (h : vs.size = n * sz) (hn : n ≤ maxLen) : Lies (w.alloc (.cells vs t)) sz (some ⟨w.heap.size, 0, none⟩) n n vs.toList := by
  refine ⟨by simp [h], ⟨Nat.le_refl _, hn, fun h => by cases h⟩, .inr ⟨_, _, rfl, fun j u hu => ?_⟩⟩
  rw [Nat.zero_add]
  exact box_cell _ _ _ _ _ (by simpa using hu)
theorem grew (w : World) (o : Obj) : Below w.heap.size w (w.alloc o) := (Below.refl _ _).alloc (Nat.le_refl _) _
/-- The world in which the deed lies. -/
def aWorld (w : World) : World := (((w.alloc (.cells #[.string tA] 9)).alloc (.cells #[.string tA, .string tB] 9)).alloc (.cells #[.int .i64 1, .int .i64 0, .int .i64 0, .int .i64 0, .string tA, .int .i64 2, .int .i64 1, .int .i64 0, .int .i64 5, .string tN, .int .i64 3, .int .i64 0, .int .i64 1, .int .i64 0, .string tN, .int .i64 6, .int .i64 0, .int .i64 0, .int .i64 0, .string tA] 88)).alloc (.cells #[.slice (some ⟨w.heap.size, 0, none⟩) 1 1, .slice (some ⟨w.heap.size + 1, 0, none⟩) 2 2, .slice (some ⟨w.heap.size + 1 + 1, 0, none⟩) 4 4] 64)
theorem aWorld_below (w : World) : Below w.heap.size w (aWorld w) := below_deep (below_deep (below_deep (grew _ _) (grew _ _)) (grew _ _)) (grew _ _)
theorem aWorld_deed (w : World) : DeedIn (aWorld w) (some ⟨w.heap.size, 0, none⟩) 1 1 (some ⟨w.heap.size + 1, 0, none⟩) 2 2 (some ⟨w.heap.size + 1 + 1, 0, none⟩) 4 4 aR aW aC := by
  have h1 := lies_new w #[.string tA] 9 1 1 rfl (by unfold maxLen; omega)
  have h2 := lies_new (w.alloc (.cells #[.string tA] 9)) #[.string tA, .string tB] 9 1 2 rfl (by unfold maxLen; omega)
  have h3 := lies_new ((w.alloc (.cells #[.string tA] 9)).alloc (.cells #[.string tA, .string tB] 9)) #[.int .i64 1, .int .i64 0, .int .i64 0, .int .i64 0, .string tA, .int .i64 2, .int .i64 1, .int .i64 0, .int .i64 5, .string tN, .int .i64 3, .int .i64 0, .int .i64 1, .int .i64 0, .string tN, .int .i64 6, .int .i64 0, .int .i64 0, .int .i64 0, .string tA] 88 5 4 rfl (by unfold maxLen; omega)
  rw [World.size_alloc] at h2
  rw [World.size_alloc, World.size_alloc] at h3
  exact ⟨h1.below (by decide) (below_deep (below_deep (grew _ _) (grew _ _)) (grew _ _)), h2.below (by decide) (below_deep (grew _ _) (grew _ _)), h3.below (by decide) (grew _ _)⟩

theorem aWorld_cell (w : World) (j : Nat) (v : Value) (h : (#[Value.slice (some ⟨w.heap.size, 0, none⟩) 1 1, .slice (some ⟨w.heap.size + 1, 0, none⟩) 2 2, .slice (some ⟨w.heap.size + 1 + 1, 0, none⟩) 4 4])[j]? = some v) : (aWorld w).cell? ⟨w.heap.size + 1 + 1 + 1, j, none⟩ = some v := by
  have := box_cell (((w.alloc (.cells #[.string tA] 9)).alloc (.cells #[.string tA, .string tB] 9)).alloc (.cells #[.int .i64 1, .int .i64 0, .int .i64 0, .int .i64 0, .string tA, .int .i64 2, .int .i64 1, .int .i64 0, .int .i64 5, .string tN, .int .i64 3, .int .i64 0, .int .i64 1, .int .i64 0, .string tN, .int .i64 6, .int .i64 0, .int .i64 0, .int .i64 0, .string tA] 88)) _ 64 j v h
  rw [World.size_alloc, World.size_alloc, World.size_alloc] at this
  exact this
theorem held11 {a b c d e f g h i j k : Prop} (x : a ∧ b ∧ c ∧ d ∧ e ∧ f ∧ g ∧ h ∧ i ∧ j ∧ k) : k := x.2.2.2.2.2.2.2.2.2.2
theorem ten_keep {A w1 w2 : World} {b0 o0 b1 o1 b2 o2 b3 o3 b4 o4 b5 o5 b6 o6 b7 o7 b8 o8 b9 o9 : Nat} {x0 x1 x2 x3 x4 x5 x6 x7 x8 x9 : Value} (h : w1.cell? ⟨b0, o0, none⟩ = some x0 ∧ w1.cell? ⟨b1, o1, none⟩ = some x1 ∧ w1.cell? ⟨b2, o2, none⟩ = some x2 ∧ w1.cell? ⟨b3, o3, none⟩ = some x3 ∧ w1.cell? ⟨b4, o4, none⟩ = some x4 ∧ w1.cell? ⟨b5, o5, none⟩ = some x5 ∧ w1.cell? ⟨b6, o6, none⟩ = some x6 ∧ w1.cell? ⟨b7, o7, none⟩ = some x7 ∧ w1.cell? ⟨b8, o8, none⟩ = some x8 ∧ w1.cell? ⟨b9, o9, none⟩ = some x9 ∧ Below A.heap.size A w1) (hb : Below w1.heap.size w1 w2) : w2.cell? ⟨b0, o0, none⟩ = some x0 ∧ w2.cell? ⟨b1, o1, none⟩ = some x1 ∧ w2.cell? ⟨b2, o2, none⟩ = some x2 ∧ w2.cell? ⟨b3, o3, none⟩ = some x3 ∧ w2.cell? ⟨b4, o4, none⟩ = some x4 ∧ w2.cell? ⟨b5, o5, none⟩ = some x5 ∧ w2.cell? ⟨b6, o6, none⟩ = some x6 ∧ w2.cell? ⟨b7, o7, none⟩ = some x7 ∧ w2.cell? ⟨b8, o8, none⟩ = some x8 ∧ w2.cell? ⟨b9, o9, none⟩ = some x9 ∧ Below A.heap.size A w2 := by
  obtain ⟨h0, h1, h2, h3, h4, h5, h6, h7, h8, h9, hz⟩ := h
  exact ⟨kept_cell hb h0, kept_cell hb h1, kept_cell hb h2, kept_cell hb h3, kept_cell hb h4, kept_cell hb h5, kept_cell hb h6, kept_cell hb h7, kept_cell hb h8, kept_cell hb h9, below_deep hz hb⟩
end Go.Proofs.Ytdnafpenljdinad

namespace Go.Proofs.Ytdnafpenljdinad
open Go.RowKit

set_option maxHeartbeats 1000000 in
theorem refWrong_calls (l : List Row) (base : Option Addr) (c : Nat) (w : World) (hl : l.length ≤ maxLen) (hsm : Small l) (ha : Seg w base l) :
    Calls Try.prog 4 #[.slice base l.length c] w fun e w' => e = .returned (.int .i64 (wrong l)) ∧ Below w.heap.size w w' := by
  by_cases h0 : l = []
  · subst h0
    go_enter Try.func4, Try.ntmps4
    go_wp2
    go_loop [8] (fun i => i = .int .i64 0) (fun _ => 0)
    case atStart => rfl
    case round =>
      obtain rfl := hrel
      go_wp2
      go_ret
      exact ⟨rfl, Below.refl _ _⟩
  rcases ha with h | ⟨b, o, rfl, h1⟩
  · exact absurd h h0
  have HSM := hid hsm
  have hbw : b < w.heap.size := h1.lt (by cases l; exact absurd rfl h0; simp)
  have H1 := hid h1
  obtain ⟨n, hn⟩ : ∃ n, n = l.length := ⟨_, rfl⟩
  unfold maxLen at hl
  rw [← hn] at hl ⊢
  have HN := hid hn
  clear hn hsm h1 h0
  go_enter Try.func4, Try.ntmps4
  go_wp2
  go_loopw [3, 8] (fun s i wr => ∃ (k : Nat) (kj : ByteArray), k ≤ n ∧ i = .int .i64 k ∧ s = .string kj ∧ Hid (wrongTo l k = 0) ∧ Hid (0 < k → kj = (l.getD (k - 1) default).1) ∧ Below w.heap.size w wr) (fun _ i _ => n - (intOf i).toNat)
  case atStart => exact ⟨0, ⟨#[]⟩, Nat.zero_le _, rfl, rfl, rfl, fun h => absurd h (Nat.lt_irrefl _), Below.refl _ _⟩
  case round =>
    obtain ⟨k, kj, hk, rfl, rfl, HW, HJ, hbel⟩ := hrel
    by_cases hlt : k < n
    · have hkl : k < l.length := by rw [← HN.out]; exact hlt
      obtain ⟨c1, d1⟩ := (H1.out.below hbel hbw) k hkl
      have hz := small_getD HSM.out hkl
      have F7 := hid (wrong_7 hkl HW.out)
      have F2 := hid (wrong_2 hkl HW.out)
      have F3 := hid (wrong_3 hkl HW.out)
      have F0 := hid (wrong_0 (k := k) HW.out)
      have hi : (k : Int) < (n : Int) := by omega
      have hsz := hbel.size
      have hblt : b < wr.heap.size := by omega
      cases k with
      | zero =>
        simp only [Nat.zero_mul, Nat.add_zero] at c1 d1
        generalize ek : (l.getD 0 default).1 = kk at *
        generalize (l.getD 0 default).2 = nn at *
        have HE := hid ek
        clear ek
        cases hkb : keyB kk with
        | false =>
          go_wp2_with fail
          refine (refKey_calls kk _ hz).mono ?_
          rintro e w' ⟨rfl, rfl⟩
          rw [hkb]
          go_wp2
          go_ret
          exact ⟨ret_int (F7.out hkb).symm, hbel.alloc hsz _⟩
        | true =>
          go_wp2_with fail
          refine (refKey_calls kk _ hz).mono ?_
          rintro e w' ⟨rfl, rfl⟩
          rw [hkb]
          go_wp2
          · go_ret
            exact ⟨ret_int (F3.out hkb (fun h => absurd h (by omega)) (by omega)).symm, hbel.alloc hsz _⟩
          · go_roundw
            case rel => exact ⟨1, kk, by omega, rfl, rfl, F0.out hkb (fun h => absurd h (by omega)) (by omega) (by omega), fun _ => HE.out.symm, hbel.alloc hsz _⟩
            case measure => simp [intOf]; omega
          · go_ret
            exact ⟨ret_int (F3.out hkb (fun h => absurd h (by omega)) (by omega)).symm, hbel.alloc hsz _⟩
      | succ j =>
        have HJJ := hid (HJ.out (by omega))
        simp only [Nat.add_sub_cancel] at F2 F3 F0 HJJ
        rw [← HJJ.out] at F2 F3 F0
        generalize ek : (l.getD (j + 1) default).1 = kk at *
        generalize (l.getD (j + 1) default).2 = nn at *
        have HE := hid ek
        clear ek
        clear HJ HJJ
        cases hkb : keyB kk with
        | false =>
          go_wp2_with fail
          refine (refKey_calls kk _ hz).mono ?_
          rintro e w' ⟨rfl, rfl⟩
          rw [hkb]
          go_wp2
          go_ret
          exact ⟨ret_int (F7.out hkb).symm, hbel.alloc hsz _⟩
        | true =>
          rcases less_cases kj kk with hj | hj | hj
          · have t1 : Op.bytesLess kk.toList kj.toList = false := less_asymm hj
            have t2 : (kk.toList == kj.toList) = false := by simpa using fun e => less_ne hj (toList_inj e).symm
            go_wp2_with fail
            refine (refKey_calls kk _ hz).mono ?_
            rintro e w' ⟨rfl, rfl⟩
            rw [hkb]
            go_wp2
            · go_ret
              exact ⟨ret_int (F3.out hkb (fun _ => hj) (by omega)).symm, hbel.alloc hsz _⟩
            · go_roundw
              case rel => exact ⟨j + 1 + 1, kk, by omega, by go_num, rfl, F0.out hkb (fun _ => hj) (by omega) (by omega), fun _ => HE.out.symm, hbel.alloc hsz _⟩
              case measure => simp [intOf]; omega
            · go_ret
              exact ⟨ret_int (F3.out hkb (fun _ => hj) (by omega)).symm, hbel.alloc hsz _⟩
          · have FF : Hid (wrong l = 2) := F2.out hkb (by omega) (by rw [hj]; exact less_irrefl _)
            have t1 : Op.bytesLess kk.toList kj.toList = false := by rw [hj]; exact less_irrefl _
            have t2 : (kk.toList == kj.toList) = true := by rw [hj]; simp
            clear hj
            go_wp2_with fail
            refine (refKey_calls kk _ hz).mono ?_
            rintro e w' ⟨rfl, rfl⟩
            rw [hkb]
            go_wp2
            go_ret
            exact ⟨ret_int FF.out.symm, hbel.alloc hsz _⟩
          · have FF : Hid (wrong l = 2) := F2.out hkb (by omega) (less_asymm hj)
            have t1 : Op.bytesLess kk.toList kj.toList = true := hj
            clear hj
            go_wp2_with fail
            refine (refKey_calls kk _ hz).mono ?_
            rintro e w' ⟨rfl, rfl⟩
            rw [hkb]
            go_wp2
            go_ret
            exact ⟨ret_int FF.out.symm, hbel.alloc hsz _⟩
    · go_wp2
      go_ret
      exact ⟨ret_int (by rw [wrong, ← HN.out, show n = k from by omega]; exact HW.out.symm), hbel⟩

set_option maxHeartbeats 1000000 in
theorem refGet_calls (l : List Row) (base : Option Addr) (n c : Nat) (k : ByteArray) (w : World) (hs : Srt l) (ha : Holds w base n c l) :
    Calls Try.prog 36 #[.slice base n c, .string k] w fun e w' => e = .returned (.tuple #[.int .i64 (num k l), .bool (isAt k l)]) ∧ Below w.heap.size w w' := by
  have HN := hid ha.len
  have hm := Nat.le_trans ha.hdr.le ha.hdr.max
  unfold maxLen at hm
  by_cases h0 : n = 0
  · subst h0
    have hg := hid (get_none (k := k) (l := l) fun j hj => by rw [← HN.out] at hj; omega)
    go_enter Try.func36, Try.ntmps36
    go_wp2
    go_loop [10] (fun i => i = .int .i64 0) (fun _ => 0)
    case atStart => rfl
    case round =>
      obtain rfl := hrel
      go_wp2
      go_ret2
      exact ⟨by rw [hg.out.1, hg.out.2]; rfl, Below.refl _ _⟩
  rcases ha.seg with h | ⟨b, o, rfl, h1⟩
  · exact absurd (by rw [HN.out, h]; rfl) h0
  have hbw : b < w.heap.size := h1.lt (by rw [← HN.out]; omega)
  have H1 := hid h1
  have HS := hid hs
  clear h1 hs ha h0
  go_enter Try.func36, Try.ntmps36
  go_wp2
  go_loopw [10] (fun i wr => ∃ j : Nat, j ≤ n ∧ i = .int .i64 j ∧ Hid (∀ t, t < j → (l.getD t default).1 ≠ k) ∧ Below w.heap.size w wr) (fun i _ => n - (intOf i).toNat)
  case atStart => exact ⟨0, Nat.zero_le _, rfl, fun t ht => absurd ht (Nat.not_lt_zero _), Below.refl _ _⟩
  case round =>
    obtain ⟨j, hj, rfl, HA, hbel⟩ := hrel
    have hsz := hbel.size
    by_cases hlt : j < n
    · have hjl : j < l.length := by rw [← HN.out]; exact hlt
      obtain ⟨c1, d1⟩ := (H1.out.below hbel hbw) j hjl
      have HF := hid (get_found (k := k) HS.out hjl)
      have HX : Hid ((l.getD j default).1 ≠ k → ∀ t, t < j + 1 → (l.getD t default).1 ≠ k) := fun hne t ht => by
        by_cases e : t = j
        · rw [e]; exact hne
        · exact HA.out t (by omega)
      generalize (l.getD j default).1 = kk at *
      generalize (l.getD j default).2 = nn at *
      have hi : (j : Int) < (n : Int) := by omega
      by_cases hk : kk = k
      · have hkb : (kk.toList == k.toList) = true := by rw [hk]; simp
        have HE := hid (HF.out hk)
        clear hk
        go_wp2
        go_ret2
        exact ⟨by rw [HE.out.1, HE.out.2]; rfl, hbel.alloc hsz _⟩
      · have hkb : (kk.toList == k.toList) = false := by simpa using fun e => hk (toList_inj e)
        go_wp2
        go_roundw
        case rel => exact ⟨j + 1, by omega, by go_num, HX.out hk, hbel.alloc hsz _⟩
        case measure => simp [intOf]; omega
    · have HG := hid (get_none (k := k) (l := l) fun t ht => HA.out t (by rw [← HN.out] at ht; omega))
      go_wp2
      go_ret2
      exact ⟨by rw [HG.out.1, HG.out.2]; rfl, hbel⟩
end Go.Proofs.Ytdnafpenljdinad
