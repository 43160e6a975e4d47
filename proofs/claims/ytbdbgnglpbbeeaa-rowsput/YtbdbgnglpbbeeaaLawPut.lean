/-
  The walk of the statement RowsPut: the call returns true and changes nothing that was there.
-/
import Derived.Test.YtbdbgnglpbbeeaaLawApart
namespace Go.Proofs.Ytbdbgnglpbbeeaa
open Go.RowKit

set_option maxHeartbeats 1000000 in
theorem rowsPut_calls (l : List Row) (base : Option Addr) (n c : Nat) (k o : ByteArray) (x : Int) (w : World) (hn : (n + 2) * 24 ≤ 140737488355328) (hsm : Small l) (hh : Holds w base n c l)
    (hsk : k.size ≤ maxLen) (hso : o.size ≤ maxLen) :
    Calls Try.prog 5 #[.slice base n c, .string k, .int .i64 x, .string o] w fun e w' => e = .returned (.bool true) ∧ Below w.heap.size w w' := by
  have HS := hid hsm
  have H0 := hid hh
  have HKK := hid (fun W => key_calls k W hsk)
  have HKO := hid (fun W => key_calls o W hso)
  have HSK := hid hsk
  clear hsm hh hsk hso
  by_cases hw : wrong l = 0
  case neg =>
    have hwb : (wrong l != 0) = true := by simpa using hw
    go_enter Try.func5, Try.ntmps5
    go_wp2_with fail
    refine (alive_calls w).mono ?_
    rintro e w1 ⟨rfl, hb1⟩
    go_wp2_with fail
    refine (wrong_holds l base n c w1 HS.out (H0.out.below hb1)).mono ?_
    rintro e w2 ⟨rfl, hb2⟩
    go_wp2
    go_ret
    exact ⟨rfl, hb1.trans (hb2.mono hb1.size)⟩
  have HR := hid (right_of hw)
  have HW := hid hw
  clear hw
  cases hka : keyB k with
  | false =>
    rw [hka] at HKK
    clear hka
    go_enter Try.func5, Try.ntmps5
    go_wp2_with fail
    refine (alive_calls w).mono ?_
    rintro e w1 ⟨rfl, hb1⟩
    go_wp2_with fail
    refine (wrong_holds l base n c w1 HS.out (H0.out.below hb1)).mono ?_
    rw [HW.out]
    rintro e w2 ⟨rfl, hb2⟩
    go_wp2_with fail
    refine (HKK.out _).mono ?_
    rintro e w3 ⟨rfl, rfl⟩
    go_wp2
    go_ret
    exact ⟨rfl, hb1.trans (hb2.mono hb1.size)⟩
  | true =>
  rw [hka] at HKK
  have HKB := hid hka
  clear hka
  by_cases hr : x < -1073741824 ∨ 1073741824 < x
  · rcases hr with hr | hr
    · go_enter Try.func5, Try.ntmps5
      go_wp2_with fail
      refine (alive_calls w).mono ?_
      rintro e w1 ⟨rfl, hb1⟩
      go_wp2_with fail
      refine (wrong_holds l base n c w1 HS.out (H0.out.below hb1)).mono ?_
      rw [HW.out]
      rintro e w2 ⟨rfl, hb2⟩
      go_wp2_with fail
      refine (HKK.out _).mono ?_
      rintro e w3 ⟨rfl, rfl⟩
      go_wp2
      go_ret
      exact ⟨rfl, hb1.trans (hb2.mono hb1.size)⟩
    · have hr2 : ¬ x < -1073741824 := by omega
      go_enter Try.func5, Try.ntmps5
      go_wp2_with fail
      refine (alive_calls w).mono ?_
      rintro e w1 ⟨rfl, hb1⟩
      go_wp2_with fail
      refine (wrong_holds l base n c w1 HS.out (H0.out.below hb1)).mono ?_
      rw [HW.out]
      rintro e w2 ⟨rfl, hb2⟩
      go_wp2_with fail
      refine (HKK.out _).mono ?_
      rintro e w3 ⟨rfl, rfl⟩
      go_wp2
      go_ret
      exact ⟨rfl, hb1.trans (hb2.mono hb1.size)⟩
  have hr1 : ¬ x < -1073741824 := by omega
  have hr2 : ¬ 1073741824 < x := by omega
  have R1 := hid (right_ins (n := x) HR.out HKB.out (by omega) (by omega))
  have R2 := hid (right_del (k := k) HR.out)
  clear hr
  -- all is decided but the other key
  have main : ∀ (same : Bool) (isk : Bool), (o.toList == k.toList) = same → keyB o = isk →
      Calls Try.prog 5 #[.slice base n c, .string k, .int .i64 x, .string o] w fun e w' => e = .returned (.bool true) ∧ Below w.heap.size w w' := by
    intro same isk hsame hisk
    rw [hisk] at HKO
    have HI := hid hisk
    have HSM := hid hsame
    clear hisk
    go_enter Try.func5, Try.ntmps5
    go_wp2_with fail
    refine (alive_calls w).mono ?_
    rintro e w1 ⟨rfl, hb1⟩
    go_wp2_with fail
    refine (wrong_holds l base n c w1 HS.out (H0.out.below hb1)).mono ?_
    rw [HW.out]
    rintro e w2 ⟨rfl, hb2⟩
    have HB2 := hid (hb1.trans (hb2.mono hb1.size))
    clear hb1 hb2
    go_wp2_with fail
    refine (HKK.out _).mono ?_
    rintro e w3 ⟨rfl, rfl⟩
    go_wp2_with fail
    refine (put_calls l base n c k x w2 (by omega) HR.out.srt (H0.out.below HB2.out)).mono ?_
    rintro e w3 ⟨d1, n1, c1, rfl, h1, hb3⟩
    have hn1 := ins_bound H0.out.len h1.len
    have HB3 := hid (HB2.out.trans (hb3.mono HB2.out.size))
    have H1 := hid h1
    clear h1 hb3
    go_wp2_with fail
    refine (drop_calls l base n c k w3 (by omega) HR.out.srt (H0.out.below HB3.out)).mono ?_
    rintro e w4 ⟨d2, n2, c2, rfl, h2, hb4⟩
    have hn2 := del_bound H0.out.len h2.len
    have HB4 := hid (HB3.out.trans (hb4.mono HB3.out.size))
    have H1a := hid (H1.out.below hb4)
    have H2 := hid h2
    clear h2 hb4
    go_wp2_with fail
    refine (get_holds _ d1 n1 c1 k w4 (by omega) (srt_ins HR.out.srt) H1a.out).mono ?_
    rw [num_ins, isAt_ins]
    rintro e w5 ⟨rfl, hb5⟩
    have HB5 := hid (HB4.out.trans (hb5.mono HB4.out.size))
    have H1b := hid (H1a.out.below hb5)
    have H2a := hid (H2.out.below hb5)
    clear hb5
    go_wp2_with fail
    refine (get_holds _ d2 n2 c2 k w5 (by omega) (srt_del HR.out.srt) H2a.out).mono ?_
    rw [isAt_del k l HR.out.srt, num_not _ _ (isAt_del k l HR.out.srt)]
    rintro e w6 ⟨rfl, hb6⟩
    have HB6 := hid (HB5.out.trans (hb6.mono HB5.out.size))
    have H1c := hid (H1b.out.below hb6)
    have H2b := hid (H2a.out.below hb6)
    clear hb6
    go_wp2_with fail
    refine (wrong_holds _ d1 n1 c1 w6 (small_ins HS.out HSK.out) H1c.out).mono ?_
    rw [right_wrong R1.out]
    rintro e w7 ⟨rfl, hb7⟩
    have HB7 := hid (HB6.out.trans (hb7.mono HB6.out.size))
    have H1d := hid (H1c.out.below hb7)
    have H2c := hid (H2b.out.below hb7)
    clear hb7
    go_wp2_with fail
    refine (wrong_holds _ d2 n2 c2 w7 (small_del HS.out) H2c.out).mono ?_
    rw [right_wrong R2.out]
    rintro e w8 ⟨rfl, hb8⟩
    have HB8 := hid (HB7.out.trans (hb8.mono HB7.out.size))
    have H1e := hid (H1d.out.below hb8)
    have H2d := hid (H2c.out.below hb8)
    clear hb8
    have hxx : (x == x) = true := by simp
    cases same with
    | true =>
      go_wp2
      go_ret
      exact ⟨rfl, HB8.out⟩
    | false =>
      go_wp2_with fail
      refine (HKO.out _).mono ?_
      rintro e w9 ⟨rfl, rfl⟩
      cases isk with
      | false =>
        go_wp2
        go_ret
        exact ⟨rfl, HB8.out⟩
      | true =>
        have hok : o ≠ k := fun e => by rw [e] at hsame; simp at hsame
        have E1 := hid (other_ins x hok l HR.out.srt)
        have E2 := hid (other_del hok l HR.out.srt)
        clear hok
        go_wp2_with fail
        refine (get_holds l base n c o w8 (by omega) HR.out.srt (H0.out.below HB8.out)).mono ?_
        rintro e w9 ⟨rfl, hb9⟩
        have HB9 := hid (HB8.out.trans (hb9.mono HB8.out.size))
        have H1f := hid (H1e.out.below hb9)
        have H2e := hid (H2d.out.below hb9)
        clear hb9
        go_wp2_with fail
        refine (get_holds _ d1 n1 c1 o w9 (by omega) (srt_ins HR.out.srt) H1f.out).mono ?_
        rw [E1.out.1, E1.out.2]
        rintro e w10 ⟨rfl, hb10⟩
        have HB10 := hid (HB9.out.trans (hb10.mono HB9.out.size))
        have H2f := hid (H2e.out.below hb10)
        clear hb10
        go_wp2_with fail
        refine (get_holds _ d2 n2 c2 o w10 (by omega) (srt_del HR.out.srt) H2f.out).mono ?_
        rw [E2.out.1, E2.out.2]
        rintro e w11 ⟨rfl, hb11⟩
        generalize num o l = z at *
        generalize isAt o l = f at *
        have hzz : (z == z) = true := by simp
        have hff : (f == f) = true := by simp
        go_wp2
        go_ret
        exact ⟨rfl, HB10.out.trans (hb11.mono HB10.out.size)⟩
  exact main _ _ rfl rfl
end Go.Proofs.Ytbdbgnglpbbeeaa
