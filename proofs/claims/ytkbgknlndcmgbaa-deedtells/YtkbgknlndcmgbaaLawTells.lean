/-
  The walk of the statement RowsTells: the call returns true and changes nothing that was there.
-/
import Derived.Test.YtkbgknlndcmgbaaLawApart
import Derived.Test.YtkbgknlndcmgbaaRef
import Derived.Test.YtkbgknlndcmgbaaRefPut
namespace Go.Proofs.Ytkbgknlndcmgbaa
open Go.RowKit

theorem refWrong_holds (l : List Row) (ba : Option Addr) (na ca : Nat) (w : World) (hsm : Small l) (ha : Holds w ba na ca l) :
    Calls Try.prog 11 #[.slice ba na ca] w fun e w' => e = .returned (.int .i64 (wrong l)) ∧ Below w.heap.size w w' := by
  have h1 := ha.len
  subst h1
  exact refWrong_calls l ba ca w (Nat.le_trans ha.hdr.le ha.hdr.max) hsm ha.seg

set_option maxHeartbeats 1000000 in
theorem rowsTells_calls (l : List Row) (base : Option Addr) (n c : Nat) (k : ByteArray) (x : Int) (w : World) (hn : (n + 2) * 24 ≤ 140737488355328) (hsm : Small l) (hh : Holds w base n c l)
    (hsk : k.size ≤ maxLen) :
    Calls Try.prog 3 #[.slice base n c, .string k, .int .i64 x] w fun e w' => e = .returned (.bool true) ∧ Below w.heap.size w w' := by
  have HS := hid hsm
  have H0 := hid hh
  have HK := hid (fun W => key_calls k W hsk)
  have HRK := hid (fun W => refKey_calls k W hsk)
  clear hsm hh hsk
  have main : ∀ (kb : Bool) (wz : Bool), keyB k = kb → (wrong l == 0) = wz →
      Calls Try.prog 3 #[.slice base n c, .string k, .int .i64 x] w fun e w' => e = .returned (.bool true) ∧ Below w.heap.size w w' := by
    intro kb wz hkb hwz
    rw [hkb] at HK HRK
    have hkk : (kb == kb) = true := by simp
    have hkn : (kb != kb) = false := by simp
    have HW := hid hwz
    clear hkb
    generalize hwl : wrong l = wl at *
    have HWL := hid hwl
    clear hwl
    have hww : (wl == wl) = true := by simp
    have hwn : (wl != wl) = false := by simp
    generalize hxr : x.tmod 1073741825 = xr at *
    have HXR := hid hxr
    clear hxr
    have hxx : (xr == xr) = true := by simp
    have hxn : (xr != xr) = false := by simp
    have hwne : (wl != 0) = !wz := by rw [← hwz]; rfl
    go_enter Try.func3, Try.ntmps3
    go_wp2_with fail
    refine (HK.out _).mono ?_
    rintro e w1 ⟨rfl, rfl⟩
    go_wp2_with fail
    refine (HRK.out _).mono ?_
    rintro e w1 ⟨rfl, rfl⟩
    go_wp2_with fail
    refine (wrong_holds l base n c w HS.out H0.out).mono ?_
    rw [HWL.out]
    rintro e w1 ⟨rfl, hb1⟩
    go_wp2_with fail
    refine (refWrong_holds l base n c w1 HS.out (H0.out.below hb1)).mono ?_
    rw [HWL.out]
    rintro e w2 ⟨rfl, hb2⟩
    have HB2 := hid (hb1.trans (hb2.mono hb1.size))
    clear hb1 hb2
    go_wp2_with fail
    refine (round_calls x w2).mono ?_
    rw [HXR.out]
    rintro e w3 ⟨rfl, rfl⟩
    go_wp2_with fail
    refine (refRound_calls x w2).mono ?_
    rw [HXR.out]
    rintro e w3 ⟨rfl, rfl⟩
    go_wp2_with fail
    refine (refWrong_holds l base n c w2 HS.out (H0.out.below HB2.out)).mono ?_
    rw [HWL.out]
    rintro e w3 ⟨rfl, hb3⟩
    have HB3 := hid (HB2.out.trans (hb3.mono HB2.out.size))
    clear hb3
    cases wz with
    | false =>
      have hne : (wl != 0) = true := hwne
      clear hwne
      go_wp2
      go_ret
      exact ⟨rfl, HB3.out⟩
    | true =>
      have hne : (wl != 0) = false := hwne
      clear hwne
      have HR := hid (right_of (l := l) (by rw [HWL.out]; simpa using hwz)).srt
      go_wp2_with fail
      refine (HRK.out _).mono ?_
      rintro e w4 ⟨rfl, rfl⟩
      cases kb with
      | false =>
        go_wp2
        go_ret
        exact ⟨rfl, HB3.out⟩
      | true =>
        go_wp2_with fail
        refine (get_holds l base n c k w3 (by omega) HR.out (H0.out.below HB3.out)).mono ?_
        rintro e w4 ⟨rfl, hb4⟩
        have HB4 := hid (HB3.out.trans (hb4.mono HB3.out.size))
        clear hb4
        go_wp2_with fail
        refine (refGet_calls l base n c k w4 HR.out (H0.out.below HB4.out)).mono ?_
        rintro e w5 ⟨rfl, hb5⟩
        have HB5 := hid (HB4.out.trans (hb5.mono HB4.out.size))
        clear hb5
        generalize num k l = z at *
        generalize isAt k l = f at *
        have hzz : (z == z) = true := by simp
        have hff : (f == f) = true := by simp
        go_wp2_with fail
        refine (put_calls l base n c k x w5 (by omega) HR.out (H0.out.below HB5.out)).mono ?_
        rintro e w6 ⟨d1, n1, c1, rfl, h1, hb6⟩
        have HB6 := hid (HB5.out.trans (hb6.mono HB5.out.size))
        have H1 := hid h1
        clear h1 hb6
        go_wp2_with fail
        refine (refPut_true l base n c k x w6 (by omega) HR.out (H0.out.below HB6.out)).mono ?_
        rintro e w7 ⟨d2, n2, c2, rfl, h2, hb7⟩
        have HB7 := hid (HB6.out.trans (hb7.mono HB6.out.size))
        have H1a := hid (H1.out.below hb7)
        have H2 := hid (show Holds w7 d2 n2 c2 (ins k x l) from h2)
        clear h2 hb7
        go_wp2_with fail
        refine (same_holds _ d1 d2 n1 n2 c1 c2 w7 H1a.out H2.out).mono ?_
        rintro e w8 ⟨rfl, hb8⟩
        have HB8 := hid (HB7.out.trans (hb8.mono HB7.out.size))
        clear hb8
        go_wp2_with fail
        refine (drop_calls l base n c k w8 (by omega) HR.out (H0.out.below HB8.out)).mono ?_
        rintro e w9 ⟨d3, n3, c3, rfl, h3, hb9⟩
        have HB9 := hid (HB8.out.trans (hb9.mono HB8.out.size))
        have H3 := hid h3
        clear h3 hb9
        go_wp2_with fail
        refine (refPut_false l base n c k 0 w9 (by omega) HR.out (H0.out.below HB9.out)).mono ?_
        rintro e w10 ⟨d4, n4, c4, rfl, h4, hb10⟩
        have HB10 := hid (HB9.out.trans (hb10.mono HB9.out.size))
        have H3a := hid (H3.out.below hb10)
        have H4 := hid (show Holds w10 d4 n4 c4 (del k l) from h4)
        clear h4 hb10
        go_wp2_with fail
        refine (same_holds _ d3 d4 n3 n4 c3 c4 w10 H3a.out H4.out).mono ?_
        rintro e w11 ⟨rfl, hb11⟩
        go_wp2
        go_ret
        exact ⟨rfl, HB10.out.trans (hb11.mono HB10.out.size)⟩
  exact main _ _ rfl rfl
end Go.Proofs.Ytkbgknlndcmgbaa
