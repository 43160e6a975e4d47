/-
  What the program finds wrong with a deed as a whole.
-/
import Derived.Test.YtfchjhdgnibnnabDeedInstr
namespace Go.Proofs.Ytfchjhdgnibnnab
open Go.RowKit

/-- Texts are no longer than a text may be. -/
def SmallT (l : List ByteArray) : Prop := ∀ x ∈ l, x.size ≤ maxLen

theorem ne_true {a b : Int} (h : a ≠ b) : (a != b) = true := by simp [h]
theorem ne_false {a b : Int} (h : a = b) : (a != b) = false := by simp [h]

set_option maxHeartbeats 2000000 in
theorem wrongDeed_calls (R W : List ByteArray) (C : List Ins) (rb : Option Addr) (rn rc : Nat) (wb : Option Addr) (wn wc : Nat) (cb : Option Addr) (cn cc : Nat) (w : World) (hd : DeedIn w rb rn rc wb wn wc cb cn cc R W C) (hr : SmallT R) (hw : SmallT W) :
    Calls Try.prog 50 #[.agg #[.slice rb rn rc, .slice wb wn wc, .slice cb cn cc]] w fun e w' => e = .returned (.int .i64 (wDeed R W C)) ∧ Below w.heap.size w w' := by
  obtain ⟨A, hA⟩ : ∃ A, A = w.alloc (.cells #[.slice rb rn rc, .slice wb wn wc, .slice cb cn cc] 31) := ⟨_, rfl⟩
  have hb0 : Below w.heap.size w A := by rw [hA]; exact (Below.refl _ _).alloc (Nat.le_refl _) _
  have hdA := hd.below hb0
  have HR := hid (wrongKeys_calls R rb rn rc A hr hdA.tr)
  have HW := hid (wrongKeys_calls W wb wn wc A hw hdA.tw)
  have hn := Codes.count hd.cd
  have hcm := Nat.le_trans hd.cd.hdr.le hd.cd.hdr.max
  unfold maxLen at hcm
  have HQ : Hid (wDeed R W C = if wKeys R ≠ 0 then wKeys R else if wKeys W ≠ 0 then wKeys W else if 12 < C.length then 5 else wCode R W C C.length) := rfl
  generalize wDeed R W C = q at *
  generalize wKeys R = kr at *
  generalize wKeys W = kw at *
  have HN := hid hn
  have HD := hid hdA
  have HB0 := hid hb0
  clear hd hdA hn hr hw hb0
  by_cases h1 : kr ≠ 0
  · have HE : Hid (q = kr) := by show _ = _; rw [HQ.out, if_pos h1]
    have t1 := ne_true h1
    clear h1 HQ
    subst hA
    go_enter Try.func50, Try.ntmps50
    go_wp2_with fail
    refine HR.out.mono ?_
    rintro e w1 ⟨rfl, rfl⟩
    go_wp2
    go_ret
    exact ⟨ret_int HE.out.symm, HB0.out⟩
  have h1' : kr = 0 := by simpa using h1
  subst h1'
  by_cases h2 : kw ≠ 0
  · have HE : Hid (q = kw) := by show _ = _; rw [HQ.out, if_neg h1, if_pos h2]
    have t1 := ne_true h2
    clear h1 h2 HQ
    subst hA
    go_enter Try.func50, Try.ntmps50
    go_wp2_with fail
    refine HR.out.mono ?_
    rintro e w1 ⟨rfl, rfl⟩
    go_wp2_with fail
    refine HW.out.mono ?_
    rintro e w1 ⟨rfl, rfl⟩
    go_wp2
    go_ret
    exact ⟨ret_int HE.out.symm, HB0.out⟩
  have h2' : kw = 0 := by simpa using h2
  subst h2'
  by_cases h3 : 12 < cn
  · have HE : Hid (q = 5) := by show _ = _; rw [HQ.out, if_neg h1, if_neg h2, if_pos (by rw [← HN.out]; exact h3)]
    clear h1 h2 HQ
    subst hA
    go_enter Try.func50, Try.ntmps50
    go_wp2_with fail
    refine HR.out.mono ?_
    rintro e w1 ⟨rfl, rfl⟩
    go_wp2_with fail
    refine HW.out.mono ?_
    rintro e w1 ⟨rfl, rfl⟩
    go_wp2
    go_ret
    exact ⟨ret_int HE.out.symm, HB0.out⟩
  have HE : Hid (q = wCode R W C C.length) := by show _ = _; rw [HQ.out, if_neg h1, if_neg h2, if_neg (by rw [← HN.out]; exact h3)]
  clear h1 h2 HQ
  have z0 : A.cell? ⟨w.heap.size, 0, none⟩ = some (.slice rb rn rc) := by rw [hA]; exact box_cell _ _ _ _ _ rfl
  have z1 : A.cell? ⟨w.heap.size, 1, none⟩ = some (.slice wb wn wc) := by rw [hA]; exact box_cell _ _ _ _ _ rfl
  have z2 : A.cell? ⟨w.heap.size, 2, none⟩ = some (.slice cb cn cc) := by rw [hA]; exact box_cell _ _ _ _ _ rfl
  have HZ := hid (And.intro z0 (And.intro z1 z2))
  clear z0 z1 z2
  subst hA
  go_enter Try.func50, Try.ntmps50
  go_wp2_with fail
  refine HR.out.mono ?_
  rintro e w1 ⟨rfl, rfl⟩
  go_wp2_with fail
  refine HW.out.mono ?_
  rintro e w1 ⟨rfl, rfl⟩
  go_wp2_with fail
  go_loopw [26] (fun i wr => ∃ k : Nat, k ≤ cn ∧ i = .int .i64 k ∧ Hid (wCode R W C k = 0) ∧ Hid (Below (w.alloc (.cells #[.slice rb rn rc, .slice wb wn wc, .slice cb cn cc] 31)).heap.size (w.alloc (.cells #[.slice rb rn rc, .slice wb wn wc, .slice cb cn cc] 31)) wr)) (fun i _ => cn - (intOf i).toNat)
  case atStart => exact ⟨0, Nat.zero_le _, rfl, rfl, Below.refl _ _⟩
  case round =>
    obtain ⟨k, hk, rfl, HC, HB⟩ := hrel
    by_cases hlt : k < cn
    · have hkl : k < C.length := by rw [← HN.out]; exact hlt
      have hi : (k : Int) < (cn : Int) := by omega
      have HI := hid (wrongInstr_calls R W C rb rn rc wb wn wc cb cn cc k wr (HD.out.below HB.out) hkl)
      have z0 := kept_cell HB.out HZ.out.1
      have z1 := kept_cell HB.out HZ.out.2.1
      have z2 := kept_cell HB.out HZ.out.2.2
      have HX := hid (wCode_at hkl HC.out)
      have HY := hid (wCode_step (R := R) (W := W) (C := C) HC.out)
      rw [← HE.out] at HX
      generalize wIns R W (C.getD k default) ((C.length : Int) - 1 - k) = x at *
      by_cases hx : x = 0
      · subst hx
        go_wp2_with fail
        refine HI.out.mono ?_
        rintro e w2 ⟨rfl, hb2⟩
        go_wp2
        go_roundw
        case rel => exact ⟨k + 1, by omega, by go_num, HY.out (by simp), below_deep HB.out hb2⟩
        case measure => simp [intOf]; omega
      · have t1 := ne_true hx
        have HXX := hid (HX.out hx)
        clear hx
        go_wp2_with fail
        refine HI.out.mono ?_
        rintro e w2 ⟨rfl, hb2⟩
        go_wp2
        go_ret
        exact ⟨ret_int HXX.out.symm, below_deep HB0.out (below_deep HB.out hb2)⟩
    · obtain rfl : k = cn := by omega
      go_wp2
      go_ret
      exact ⟨ret_int (by rw [HE.out, ← HN.out, HC.out]), below_deep HB0.out HB.out⟩
end Go.Proofs.Ytfchjhdgnibnnab
