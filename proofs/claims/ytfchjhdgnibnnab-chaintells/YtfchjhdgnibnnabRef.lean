/-
  The document's own WrongRows and Get, walked.
-/
import Derived.Test.YtfchjhdgnibnnabSeg
import Derived.Test.YtfchjhdgnibnnabOpen
import Derived.Test.YtfchjhdgnibnnabRefMath
namespace Go.Proofs.Ytfchjhdgnibnnab
open Go.RowKit

set_option maxHeartbeats 1000000 in
theorem refWrong_calls (l : List Row) (base : Option Addr) (c : Nat) (w : World) (hl : l.length ≤ maxLen) (hsm : Small l) (ha : Seg w base l) :
    Calls Try.prog 6 #[.slice base l.length c] w fun e w' => e = .returned (.int .i64 (wrong l)) ∧ Below w.heap.size w w' := by
  by_cases h0 : l = []
  · subst h0
    go_enter Try.func6, Try.ntmps6
    go_wp2
    go_loop [8] (fun i => i = .int .i64 0) (fun _ => 0)
    case atStart => rfl
    case round =>
      obtain rfl := hrel
      go_wp2
      go_ret
      exact ⟨rfl, Below.refl _ _⟩
  rcases ha with h | ⟨b, o, rfl, h1⟩
  · exact absurd h h0
  have HSM := hid hsm
  have hbw : b < w.heap.size := h1.lt (by cases l; exact absurd rfl h0; simp)
  have H1 := hid h1
  obtain ⟨n, hn⟩ : ∃ n, n = l.length := ⟨_, rfl⟩
  unfold maxLen at hl
  rw [← hn] at hl ⊢
  have HN := hid hn
  clear hn hsm h1 h0
  go_enter Try.func6, Try.ntmps6
  go_wp2
  go_loopw [3, 8] (fun s i wr => ∃ (k : Nat) (kj : ByteArray), k ≤ n ∧ i = .int .i64 k ∧ s = .string kj ∧ Hid (wrongTo l k = 0) ∧ Hid (0 < k → kj = (l.getD (k - 1) default).1) ∧ Below w.heap.size w wr) (fun _ i _ => n - (intOf i).toNat)
  case atStart => exact ⟨0, ⟨#[]⟩, Nat.zero_le _, rfl, rfl, rfl, fun h => absurd h (Nat.lt_irrefl _), Below.refl _ _⟩
  case round =>
    obtain ⟨k, kj, hk, rfl, rfl, HW, HJ, hbel⟩ := hrel
    by_cases hlt : k < n
    · have hkl : k < l.length := by rw [← HN.out]; exact hlt
      obtain ⟨c1, d1⟩ := (H1.out.below hbel hbw) k hkl
      have hz := small_getD HSM.out hkl
      have F7 := hid (wrong_7 hkl HW.out)
      have F2 := hid (wrong_2 hkl HW.out)
      have F3 := hid (wrong_3 hkl HW.out)
      have F0 := hid (wrong_0 (k := k) HW.out)
      have hi : (k : Int) < (n : Int) := by omega
      have hsz := hbel.size
      have hblt : b < wr.heap.size := by omega
      cases k with
      | zero =>
        simp only [Nat.zero_mul, Nat.add_zero] at c1 d1
        generalize ek : (l.getD 0 default).1 = kk at *
        generalize (l.getD 0 default).2 = nn at *
        have HE := hid ek
        clear ek
        cases hkb : keyB kk with
        | false =>
          go_wp2_with fail
          refine (refKey_calls kk _ hz).mono ?_
          rintro e w' ⟨rfl, rfl⟩
          rw [hkb]
          go_wp2
          go_ret
          exact ⟨ret_int (F7.out hkb).symm, hbel.alloc hsz _⟩
        | true =>
          go_wp2_with fail
          refine (refKey_calls kk _ hz).mono ?_
          rintro e w' ⟨rfl, rfl⟩
          rw [hkb]
          go_wp2
          · go_ret
            exact ⟨ret_int (F3.out hkb (fun h => absurd h (by omega)) (by omega)).symm, hbel.alloc hsz _⟩
          · go_roundw
            case rel => exact ⟨1, kk, by omega, rfl, rfl, F0.out hkb (fun h => absurd h (by omega)) (by omega) (by omega), fun _ => HE.out.symm, hbel.alloc hsz _⟩
            case measure => simp [intOf]; omega
          · go_ret
            exact ⟨ret_int (F3.out hkb (fun h => absurd h (by omega)) (by omega)).symm, hbel.alloc hsz _⟩
      | succ j =>
        have HJJ := hid (HJ.out (by omega))
        simp only [Nat.add_sub_cancel] at F2 F3 F0 HJJ
        rw [← HJJ.out] at F2 F3 F0
        generalize ek : (l.getD (j + 1) default).1 = kk at *
        generalize (l.getD (j + 1) default).2 = nn at *
        have HE := hid ek
        clear ek
        clear HJ HJJ
        cases hkb : keyB kk with
        | false =>
          go_wp2_with fail
          refine (refKey_calls kk _ hz).mono ?_
          rintro e w' ⟨rfl, rfl⟩
          rw [hkb]
          go_wp2
          go_ret
          exact ⟨ret_int (F7.out hkb).symm, hbel.alloc hsz _⟩
        | true =>
          rcases less_cases kj kk with hj | hj | hj
          · have t1 : Op.bytesLess kk.toList kj.toList = false := less_asymm hj
            have t2 : (kk.toList == kj.toList) = false := by simpa using fun e => less_ne hj (toList_inj e).symm
            go_wp2_with fail
            refine (refKey_calls kk _ hz).mono ?_
            rintro e w' ⟨rfl, rfl⟩
            rw [hkb]
            go_wp2
            · go_ret
              exact ⟨ret_int (F3.out hkb (fun _ => hj) (by omega)).symm, hbel.alloc hsz _⟩
            · go_roundw
              case rel => exact ⟨j + 1 + 1, kk, by omega, by go_num, rfl, F0.out hkb (fun _ => hj) (by omega) (by omega), fun _ => HE.out.symm, hbel.alloc hsz _⟩
              case measure => simp [intOf]; omega
            · go_ret
              exact ⟨ret_int (F3.out hkb (fun _ => hj) (by omega)).symm, hbel.alloc hsz _⟩
          · have FF : Hid (wrong l = 2) := F2.out hkb (by omega) (by rw [hj]; exact less_irrefl _)
            have t1 : Op.bytesLess kk.toList kj.toList = false := by rw [hj]; exact less_irrefl _
            have t2 : (kk.toList == kj.toList) = true := by rw [hj]; simp
            clear hj
            go_wp2_with fail
            refine (refKey_calls kk _ hz).mono ?_
            rintro e w' ⟨rfl, rfl⟩
            rw [hkb]
            go_wp2
            go_ret
            exact ⟨ret_int FF.out.symm, hbel.alloc hsz _⟩
          · have FF : Hid (wrong l = 2) := F2.out hkb (by omega) (less_asymm hj)
            have t1 : Op.bytesLess kk.toList kj.toList = true := hj
            clear hj
            go_wp2_with fail
            refine (refKey_calls kk _ hz).mono ?_
            rintro e w' ⟨rfl, rfl⟩
            rw [hkb]
            go_wp2
            go_ret
            exact ⟨ret_int FF.out.symm, hbel.alloc hsz _⟩
    · go_wp2
      go_ret
      exact ⟨ret_int (by rw [wrong, ← HN.out, show n = k from by omega]; exact HW.out.symm), hbel⟩

set_option maxHeartbeats 1000000 in
theorem refGet_calls (l : List Row) (base : Option Addr) (n c : Nat) (k : ByteArray) (w : World) (hs : Srt l) (ha : Holds w base n c l) :
    Calls Try.prog 35 #[.slice base n c, .string k] w fun e w' => e = .returned (.tuple #[.int .i64 (num k l), .bool (isAt k l)]) ∧ Below w.heap.size w w' := by
  have HN := hid ha.len
  have hm := Nat.le_trans ha.hdr.le ha.hdr.max
  unfold maxLen at hm
  by_cases h0 : n = 0
  · subst h0
    have hg := hid (get_none (k := k) (l := l) fun j hj => by rw [← HN.out] at hj; omega)
    go_enter Try.func35, Try.ntmps35
    go_wp2
    go_loop [10] (fun i => i = .int .i64 0) (fun _ => 0)
    case atStart => rfl
    case round =>
      obtain rfl := hrel
      go_wp2
      go_ret2
      exact ⟨by rw [hg.out.1, hg.out.2]; rfl, Below.refl _ _⟩
  rcases ha.seg with h | ⟨b, o, rfl, h1⟩
  · exact absurd (by rw [HN.out, h]; rfl) h0
  have hbw : b < w.heap.size := h1.lt (by rw [← HN.out]; omega)
  have H1 := hid h1
  have HS := hid hs
  clear h1 hs ha h0
  go_enter Try.func35, Try.ntmps35
  go_wp2
  go_loopw [10] (fun i wr => ∃ j : Nat, j ≤ n ∧ i = .int .i64 j ∧ Hid (∀ t, t < j → (l.getD t default).1 ≠ k) ∧ Below w.heap.size w wr) (fun i _ => n - (intOf i).toNat)
  case atStart => exact ⟨0, Nat.zero_le _, rfl, fun t ht => absurd ht (Nat.not_lt_zero _), Below.refl _ _⟩
  case round =>
    obtain ⟨j, hj, rfl, HA, hbel⟩ := hrel
    have hsz := hbel.size
    by_cases hlt : j < n
    · have hjl : j < l.length := by rw [← HN.out]; exact hlt
      obtain ⟨c1, d1⟩ := (H1.out.below hbel hbw) j hjl
      have HF := hid (get_found (k := k) HS.out hjl)
      have HX : Hid ((l.getD j default).1 ≠ k → ∀ t, t < j + 1 → (l.getD t default).1 ≠ k) := fun hne t ht => by
        by_cases e : t = j
        · rw [e]; exact hne
        · exact HA.out t (by omega)
      generalize (l.getD j default).1 = kk at *
      generalize (l.getD j default).2 = nn at *
      have hi : (j : Int) < (n : Int) := by omega
      by_cases hk : kk = k
      · have hkb : (kk.toList == k.toList) = true := by rw [hk]; simp
        have HE := hid (HF.out hk)
        clear hk
        go_wp2
        go_ret2
        exact ⟨by rw [HE.out.1, HE.out.2]; rfl, hbel.alloc hsz _⟩
      · have hkb : (kk.toList == k.toList) = false := by simpa using fun e => hk (toList_inj e)
        go_wp2
        go_roundw
        case rel => exact ⟨j + 1, by omega, by go_num, HX.out hk, hbel.alloc hsz _⟩
        case measure => simp [intOf]; omega
    · have HG := hid (get_none (k := k) (l := l) fun t ht => HA.out t (by rw [← HN.out] at ht; omega))
      go_wp2
      go_ret2
      exact ⟨by rw [HG.out.1, HG.out.2]; rfl, hbel⟩
end Go.Proofs.Ytfchjhdgnibnnab
