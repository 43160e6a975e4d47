/-
  Wrong of the program tells the first thing that is wrong with any rows.
-/
import Derived.Test.YtkbgknlndcmgbaaKey
import Derived.Test.YtkbgknlndcmgbaaSeg
import Derived.BigQuiet
import Derived.Deep.QuietTactic
namespace Go.Proofs.Ytkbgknlndcmgbaa
open Go.RowKit

set_option maxHeartbeats 1000000 in
theorem wrong_calls (l : List Row) (base : Option Addr) (c : Nat) (w : World) (hl : l.length ≤ maxLen) (hsm : Small l) (ha : Seg w base l) :
    Calls Try.prog 10 #[.slice base l.length c] w fun e w' => e = .returned (.int .i64 (wrong l)) ∧ Below w.heap.size w w' := by
  by_cases h0 : l = []
  · subst h0
    go_enter Try.func10, Try.ntmps10
    go_wp2
    go_loop [7] (fun i => i = .int .i64 0) (fun _ => 0)
    case atStart => rfl
    case round =>
      obtain rfl := hrel
      go_wp2
      go_ret
      exact ⟨rfl, Below.refl _ _⟩
  rcases ha with h | ⟨b, o, rfl, h1⟩
  · exact absurd h h0
  have HSM : Hid (Small l) := hsm
  have hbw : b < w.heap.size := h1.lt (by cases l; exact absurd rfl h0; simp)
  have H1 : Hid (Cells w b o l) := h1
  obtain ⟨n, hn⟩ : ∃ n, n = l.length := ⟨_, rfl⟩
  unfold maxLen at hl
  rw [← hn] at hl ⊢
  have HN : Hid (n = l.length) := hn
  clear hn hsm h1 h0
  go_enter Try.func10, Try.ntmps10
  go_wp2
  go_loopw [7] (fun i wr => ∃ k : Nat, k ≤ n ∧ i = .int .i64 k ∧ Hid (wrongTo l k = 0) ∧ Below w.heap.size w wr) (fun i _ => n - (intOf i).toNat)
  case atStart => exact ⟨0, Nat.zero_le _, rfl, rfl, Below.refl _ _⟩
  case round =>
    obtain ⟨k, hk, rfl, HW, hbel⟩ := hrel
    by_cases hlt : k < n
    · have hkl : k < l.length := by rw [← HN.out]; exact hlt
      obtain ⟨c1, d1⟩ := (H1.out.below hbel hbw) k hkl
      have hz := small_getD HSM.out hkl
      have F7 : Hid (_ → _) := wrong_7 hkl HW.out
      have F2 : Hid (_ → _) := wrong_2 hkl HW.out
      have F3 : Hid (_ → _) := wrong_3 hkl HW.out
      have F0 : Hid (_ → _) := wrong_0 (k := k) HW.out
      have hi : (k : Int) < (n : Int) := by omega
      have hsz := hbel.size
      have hblt : b < wr.heap.size := by omega
      cases k with
      | zero =>
        simp only [Nat.zero_mul, Nat.add_zero] at c1 d1
        generalize (l.getD 0 default).1 = kk at *
        generalize (l.getD 0 default).2 = nn at *
        cases hkb : keyB kk with
        | false =>
          go_wp2_with fail
          refine (key_calls kk _ hz).mono ?_
          rintro e w' ⟨rfl, rfl⟩
          rw [hkb]
          go_wp2
          go_ret
          exact ⟨ret_int (F7.out hkb).symm, hbel.alloc hsz _⟩
        | true =>
          go_wp2_with fail
          refine (key_calls kk _ hz).mono ?_
          rintro e w' ⟨rfl, rfl⟩
          rw [hkb]
          go_wp2
          go_quiet (fail)
          go_wp2
          · go_ret
            exact ⟨ret_int (F3.out hkb (fun h => absurd h (by omega)) (by omega)).symm, below_drewN (hbel.alloc hsz _) _⟩
          · go_roundw
            case rel => exact ⟨1, by omega, rfl, F0.out hkb (fun h => absurd h (by omega)) (by omega) (by omega), below_drewN (hbel.alloc hsz _) _⟩
            case measure => simp [intOf]; omega
          · go_ret
            exact ⟨ret_int (F3.out hkb (fun h => absurd h (by omega)) (by omega)).symm, below_drewN (hbel.alloc hsz _) _⟩
      | succ j =>
        obtain ⟨c0, d0⟩ := (H1.out.below hbel hbw) j (by omega)
        have hwr : IntKind.i64.wrap (j : Int) = (j : Int) := by rw [IntKind.wrap_i64]; omega
        have hij : (j : Int) < (n : Int) := by omega
        simp only [Nat.add_sub_cancel] at F2 F3 F0
        generalize (l.getD (j + 1) default).1 = kk at *
        generalize (l.getD (j + 1) default).2 = nn at *
        generalize (l.getD j default).1 = kj at *
        generalize (l.getD j default).2 = nj at *
        cases hkb : keyB kk with
        | false =>
          go_wp2_with fail
          refine (key_calls kk _ hz).mono ?_
          rintro e w' ⟨rfl, rfl⟩
          rw [hkb]
          go_wp2
          go_ret
          exact ⟨ret_int (F7.out hkb).symm, hbel.alloc hsz _⟩
        | true =>
          rcases less_cases kj kk with hj | hj | hj
          · have t1 : Op.bytesLess kk.toList kj.toList = false := less_asymm hj
            have t2 : (kk.toList == kj.toList) = false := by simpa using fun e => less_ne hj (toList_inj e).symm
            go_wp2_with fail
            refine (key_calls kk _ hz).mono ?_
            rintro e w' ⟨rfl, rfl⟩
            rw [hkb]
            go_wp2
            go_quiet (fail)
            go_wp2
            · go_ret
              exact ⟨ret_int (F3.out hkb (fun _ => hj) (by omega)).symm, below_drewN (hbel.alloc hsz _) _⟩
            · go_roundw
              case rel => exact ⟨j + 1 + 1, by omega, by go_num, F0.out hkb (fun _ => hj) (by omega) (by omega), below_drewN (hbel.alloc hsz _) _⟩
              case measure => simp [intOf]; omega
            · go_ret
              exact ⟨ret_int (F3.out hkb (fun _ => hj) (by omega)).symm, below_drewN (hbel.alloc hsz _) _⟩
          · have FF : Hid (wrong l = 2) := F2.out hkb (by omega) (by rw [hj]; exact less_irrefl _)
            have t1 : Op.bytesLess kk.toList kj.toList = false := by rw [hj]; exact less_irrefl _
            have t2 : (kk.toList == kj.toList) = true := by rw [hj]; simp
            clear hj
            go_wp2_with fail
            refine (key_calls kk _ hz).mono ?_
            rintro e w' ⟨rfl, rfl⟩
            rw [hkb]
            go_wp2
            go_quiet (fail)
            go_wp2
            go_ret
            exact ⟨ret_int FF.out.symm, below_drewN (hbel.alloc hsz _) _⟩
          · have FF : Hid (wrong l = 2) := F2.out hkb (by omega) (less_asymm hj)
            have t1 : Op.bytesLess kk.toList kj.toList = true := hj
            clear hj
            go_wp2_with fail
            refine (key_calls kk _ hz).mono ?_
            rintro e w' ⟨rfl, rfl⟩
            rw [hkb]
            go_wp2
            go_quiet (fail)
            go_wp2
            go_ret
            exact ⟨ret_int FF.out.symm, below_drewN (hbel.alloc hsz _) _⟩
    · go_wp2
      go_ret
      exact ⟨ret_int (by rw [wrong, ← HN.out, show n = k from by omega]; exact HW.out.symm), hbel⟩
end Go.Proofs.Ytkbgknlndcmgbaa
