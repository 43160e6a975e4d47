/-
  Whether two deeds are the same, by the program.
-/
import Derived.Test.YtkbgknlndcmgbaaDeedOwn
namespace Go.Proofs.Ytkbgknlndcmgbaa
open Go.RowKit

set_option maxHeartbeats 2000000 in
theorem same_calls2 (R W : List ByteArray) (C : List Ins) (R' W' : List ByteArray) (C' : List Ins) (rb : Option Addr) (rn rc : Nat) (wb : Option Addr) (wn wc : Nat) (cb : Option Addr) (cn cc : Nat) (rb' : Option Addr) (rn' rc' : Nat) (wb' : Option Addr) (wn' wc' : Nat) (cb' : Option Addr) (cn' cc' : Nat) (w : World)
    (hd : DeedIn w rb rn rc wb wn wc cb cn cc R W C) (hd' : DeedIn w rb' rn' rc' wb' wn' wc' cb' cn' cc' R' W' C') :
    Calls Try.prog 23 #[.agg #[.slice rb rn rc, .slice wb wn wc, .slice cb cn cc], .agg #[.slice rb' rn' rc', .slice wb' wn' wc', .slice cb' cn' cc']] w fun e w' =>
      e = .returned (.bool (decide (R = R') && (decide (W = W') && decide (C = C')))) ∧ Below w.heap.size w w' := by
  obtain ⟨A, hA⟩ : ∃ A, A = (w.alloc (.cells #[.slice rb rn rc, .slice wb wn wc, .slice cb cn cc] 41)).alloc (.cells #[.slice rb' rn' rc', .slice wb' wn' wc', .slice cb' cn' cc'] 41) := ⟨_, rfl⟩
  have hb0 : Below w.heap.size w A := by rw [hA]; exact (((Below.refl _ _).alloc (Nat.le_refl _) _).alloc (by simp) _)
  have HB0 := hid hb0
  have HR := hid (fun q => equalT_calls R R' rb rn rc rb' rn' rc' (A.drewN q) ((hd.below (below_drewN hb0 q)).tr) ((hd'.below (below_drewN hb0 q)).tr))
  have HW := hid (fun q => equalT_calls W W' wb wn wc wb' wn' wc' (A.drewN q) ((hd.below (below_drewN hb0 q)).tw) ((hd'.below (below_drewN hb0 q)).tw))
  have HC := hid (fun q => equalI_calls C C' cb cn cc cb' cn' cc' (A.drewN q) ((hd.below (below_drewN hb0 q)).cd) ((hd'.below (below_drewN hb0 q)).cd))
  clear hd hd' hb0
  subst hA
  generalize decide (R = R') = e1 at *
  generalize decide (W = W') = e2 at *
  generalize decide (C = C') = e3 at *
  cases e1 with
  | false =>
    go_enter Try.func23, Try.ntmps23
    go_wp2_with fail
    refine (HR.out 0).mono ?_
    rintro e w1 ⟨rfl, q, rfl⟩
    go_wp2
    go_ret
    exact ⟨rfl, below_drewN HB0.out _⟩
  | true =>
    cases e2 with
    | false =>
      go_enter Try.func23, Try.ntmps23
      go_wp2_with fail
      refine (HR.out 0).mono ?_
      rintro e w1 ⟨rfl, q, rfl⟩
      go_wp2_with fail
      refine (HW.out _).mono ?_
      rintro e w1 ⟨rfl, q2, rfl⟩
      go_wp2
      go_ret
      exact ⟨rfl, below_drewN HB0.out _⟩
    | true =>
      go_enter Try.func23, Try.ntmps23
      go_wp2_with fail
      refine (HR.out 0).mono ?_
      rintro e w1 ⟨rfl, q, rfl⟩
      go_wp2_with fail
      refine (HW.out _).mono ?_
      rintro e w1 ⟨rfl, q2, rfl⟩
      go_wp2_with fail
      refine (HC.out _).mono ?_
      rintro e w1 ⟨rfl, q3, rfl⟩
      go_wp2
      go_ret
      exact ⟨rfl, below_drewN HB0.out _⟩
end Go.Proofs.Ytkbgknlndcmgbaa
