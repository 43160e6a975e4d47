/-
  The walk of the statement RowsTells: the call returns true and changes nothing that was there.
  The walk of the statement ChainTells: the call returns true and changes nothing that was there.
-/
import Derived.Test.YtfchjhdgnibnnabLawApart
import Derived.Test.YtfchjhdgnibnnabRef
import Derived.Test.YtfchjhdgnibnnabRefPut
import Derived.Test.YtfchjhdgnibnnabRefBefore
import Derived.Test.YtfchjhdgnibnnabRefSameC
import Derived.Test.YtfchjhdgnibnnabRefOldC
import Derived.Test.YtfchjhdgnibnnabLawAhead
namespace Go.Proofs.Ytfchjhdgnibnnab
open Go.RowKit

theorem refWrong_holds (l : List Row) (ba : Option Addr) (na ca : Nat) (w : World) (hsm : Small l) (ha : Holds w ba na ca l) :
    Calls Try.prog 6 #[.slice ba na ca] w fun e w' => e = .returned (.int .i64 (wrong l)) ∧ Below w.heap.size w w' := by
  have h1 := ha.len
  subst h1
  exact refWrong_calls l ba ca w (Nat.le_trans ha.hdr.le ha.hdr.max) hsm ha.seg

end Go.Proofs.Ytfchjhdgnibnnab

namespace Go.Proofs.Ytfchjhdgnibnnab
open Go.RowKit

set_option maxHeartbeats 16000000 in
set_option maxRecDepth 100000 in
theorem chainTells_calls (L : List Chn) (l : List Row) (base : Option Addr) (n c : Nat) (lb : Option Addr) (ln lc : Nat) (k : ByteArray) (by_ : Int) (y : Int) (m h : Bool) (x : Int) (w : World) (ha : ChainsIn w base n c L) (hl : Holds w lb ln lc l) (hsm : Small l) (hk : k.size ≤ maxLen) :
    Calls Try.prog 4 #[.slice base n c, .slice lb ln lc, .string k, .int .i64 by_, .agg #[.int .i64 y, .bool m, .bool h, .int .i64 x]] w fun e w' => e = .returned (.bool true) ∧ Below w.heap.size w w' := by
  have HG := hid (grew w (.cells #[.int .i64 y, .bool m, .bool h, .int .i64 x] 45))
  have HFV := hid (Four.box w y m h x 45)
  have HA := hid (ha.below HG.out)
  have HL := hid (hl.below HG.out)
  have HSM := hid hsm
  have HKEY := hid (fun W => refKey_calls k W hk)
  have HKZ := hid hk
  have HRC := hid (refRightC_calls L base n c _ HA.out)
  have HLN := hid ha.len
  clear ha hl hsm hk
  go_enter Try.func4, Try.ntmps4
  go_wp2_with fail
  refine HRC.out.mono ?_
  rintro e w2 ⟨q, rfl, hq, hb2⟩
  have HB2 := hid (below_deep HG.out hb2)
  have HA2 := hid (HA.out.below hb2)
  have HL2 := hid (HL.out.below hb2)
  have HF2 := hid (HFV.out.below hb2)
  have HQ := hid hq
  clear hb2 hq HRC HA HL HFV
  cases q with
  | false =>
    go_wp2
    go_ret
    exact ⟨rfl, HB2.out⟩
  | true =>
  have HR := hid (HQ.out.1 rfl)
  clear HQ
  cases hkb : keyB k with
  | false =>
    rw [hkb] at HKEY
    clear hkb
    go_wp2_with fail
    refine (HKEY.out _).mono ?_
    rintro e w3 ⟨rfl, rfl⟩
    go_wp2
    go_ret
    exact ⟨rfl, HB2.out⟩
  | true =>
  rw [hkb] at HKEY
  clear hkb
  go_wp2_with fail
  refine (HKEY.out _).mono ?_
  rintro e w3 ⟨rfl, rfl⟩
  by_cases h1 : by_ < -10
  · have d1 : decide (by_ < -10) = true := by simpa using h1
    go_wp2
    go_ret
    exact ⟨rfl, HB2.out⟩
  have d1 : decide (by_ < -10) = false := by simpa using h1
  by_cases h2 : 2000000 < by_
  · have d2 : decide (2000000 < by_) = true := by simpa using h2
    go_wp2
    go_ret
    exact ⟨rfl, HB2.out⟩
  have d2 : decide (2000000 < by_) = false := by simpa using h2
  clear h1 h2 HKEY
  have HFIT := hid HR.out.fit
  obtain ⟨ya, ma, hha, xa, hbe⟩ : ∃ ya ma hha xa, before L k by_ = (ya, ma, hha, xa) := ⟨_, _, _, _, rfl⟩
  have HS0 : Hid ((fun w' => w'.cell? ⟨w.heap.size, 0, none⟩ = some (.int .i64 y) ∧ w'.cell? ⟨w.heap.size, 1, none⟩ = some (.bool m) ∧ w'.cell? ⟨w.heap.size, 2, none⟩ = some (.bool h) ∧ w'.cell? ⟨w.heap.size, 3, none⟩ = some (.int .i64 x) ∧ Below w2.heap.size w2 w') w2.drew) := ⟨HF2.out.c0, HF2.out.c1, HF2.out.c2, HF2.out.c3, (Below.refl _ _).drew⟩
  have POW := hid (fun W hc => ownC_calls L base n c W HFIT.out hc)
  have PB1 := hid (fun W hc => before_calls L base n c k by_ W HFIT.out hc)
  have PB2 := hid (fun W hc => refBefore_calls L base n c k by_ W HFIT.out.srt hc)
  rw [hbe] at PB1 PB2
  have PA1 := hid (fun W hc => addC_calls L base n c k by_ W HFIT.out hc HKZ.out)
  have PA2 := hid (fun W hc => refAddC_calls L base n c k by_ W HFIT.out hc HKZ.out)
  have PS1 := hid (fun W hc => setC_calls L base n c k y m h x W HFIT.out hc HKZ.out)
  have PS2 := hid (fun W hc => refSetC_calls L base n c k y m h x W HFIT.out hc)
  have PC1 := hid (fun W hc => clearC_calls L base n c by_ W HFIT.out hc)
  have PC2 := hid (fun W hc => refClearC_calls L base n c by_ W HFIT.out hc)
  have t1 : (ya == ya) = true := by simp
  have t2 : (ma == ma) = true := by simp
  have t3 : (hha == hha) = true := by simp
  have t4 : (xa == xa) = true := by simp
  have hvl : w.heap.size < w2.heap.size := HF2.out.lt
  clear hbe
  go_wp2
  go_region_held3 (fun w' => w'.cell? ⟨w.heap.size, 0, none⟩ = some (.int .i64 y) ∧ w'.cell? ⟨w.heap.size, 1, none⟩ = some (.bool m) ∧ w'.cell? ⟨w.heap.size, 2, none⟩ = some (.bool h) ∧ w'.cell? ⟨w.heap.size, 3, none⟩ = some (.int .i64 x) ∧ Below w2.heap.size w2 w')
    (first
      | exact HS0.out
      | exact four_keep (by assumption) (by assumption))
    (first
      | (go_at_call 17; refine (POW.out _ ?_).mono ?_; exact HA2.out.below (held5B (by assumption)); rintro e w3 ⟨vo, So, rfl, hoo, hso, hb3⟩; obtain ⟨b3, c3, rfl, h3⟩ := chains_owned hoo hso)
      | (go_at_call 18; refine (PB1.out _ ?_).mono ?_; exact HA2.out.below (held5B (by assumption)); rintro e w5 ⟨y5, m5, h5, x5, he5, rfl, hb5⟩; simp only [Prod.mk.injEq] at he5; obtain ⟨rfl, rfl, rfl, rfl⟩ := he5)
      | (go_at_call 19; refine (PB2.out _ ?_).mono ?_; exact HA2.out.below (held5B (by assumption)); rintro e w6 ⟨y6, m6, h6, x6, he6, rfl, hb6⟩; simp only [Prod.mk.injEq] at he6; obtain ⟨rfl, rfl, rfl, rfl⟩ := he6)
      | (go_at_call 20; refine (PA1.out _ ?_).mono ?_; exact HA2.out.below (held5B (by assumption)); rintro e w7 ⟨b7, n7, c7, rfl, h7, hb7⟩)
      | (go_at_call 21; refine (PA2.out _ ?_).mono ?_; exact HA2.out.below (held5B (by assumption)); rintro e w8 ⟨b8, n8, c8, rfl, h8, hb8⟩)
      | (go_at_call 22; refine (PS1.out _ ?_).mono ?_; exact HA2.out.below (held5B (by assumption)); rintro e w10 ⟨b10, n10, c10, rfl, h10, hb10⟩)
      | (go_at_call 23; refine (PS2.out _ ?_).mono ?_; exact HA2.out.below (held5B (by assumption)); rintro e w11 ⟨b11, n11, c11, rfl, h11, hb11⟩)
      | (go_at_call 24; refine (PC1.out _ ?_).mono ?_; exact HA2.out.below (held5B (by assumption)); rintro e w13 ⟨b13, n13, c13, rfl, h13, hb13⟩)
      | (go_at_call 25; refine (PC2.out _ ?_).mono ?_; exact HA2.out.below (held5B (by assumption)); rintro e w14 ⟨b14, n14, c14, rfl, h14, hb14⟩)
      | (go_at_call_of 16 (Value.slice b13 n13 c13); refine (sameChains_calls (clearC by_ L) b13 n13 c13 b14 n14 c14 _ ?_ ?_).mono ?_; exact h13.below hb14; exact h14; rintro e w15 ⟨rfl, hb15⟩)
      | (go_at_call_of 16 (Value.slice b10 n10 c10); refine (sameChains_calls (setC k (y, m, h, x) L) b10 n10 c10 b11 n11 c11 _ ?_ ?_).mono ?_; exact h10.below hb11; exact h11; rintro e w12 ⟨rfl, hb12⟩)
      | (go_at_call_of 16 (Value.slice b7 n7 c7); refine (sameChains_calls (addC k by_ L) b7 n7 c7 b8 n8 c8 _ ?_ ?_).mono ?_; exact h7.below hb8; exact h8; rintro e w9 ⟨rfl, hb9⟩)
      | (go_at_call_of 16 (Value.slice b3 n c3); refine (sameChains_calls L b3 n c3 base n c _ ?_ ?_).mono ?_; exact h3; exact HA2.out.below (held5B (by assumption)); rintro e w4 ⟨rfl, hb4⟩))
  have HB15 := hid (below_deep (below_deep (below_deep (below_deep (below_deep (below_deep (below_deep (below_deep (below_deep (below_deep (below_deep (below_deep (below_deep (Below.refl _ w2).drew hb3) hb4) hb5) hb6) hb7) hb8) hb9) hb10) hb11) hb12) hb13) hb14) hb15)
  have HA15 := hid (HA2.out.below HB15.out)
  have HL15 := hid (HL2.out.below HB15.out)
  have HBW := hid (below_deep HB2.out HB15.out)
  clear h3 h7 h8 h10 h11 h13 h14 hb3 hb4 hb5 hb6 hb7 hb8 hb9 hb10 hb11 hb12 hb13 hb14 hb15 hoo hso POW PB1 PB2 PA1 PA2 PS1 PS2 PC1 PC2 HS0 HA2 HL2 HF2
  have PR1 := hid (rowsC_calls L base n c by_ w15 HFIT.out HA15.out)
  go_wp2_with fail
  refine PR1.out.mono ?_
  rintro e w16 ⟨rb, rn, rc, ok, rfl, hok, h16, hb16⟩
  have HOK := hid hok
  have H16 := hid h16
  have HA16 := hid (HA15.out.below hb16)
  have HL16 := hid (HL15.out.below hb16)
  have HB16 := hid (below_deep HBW.out hb16)
  have PR2 := hid (refRowsAt_calls L base n c by_ w16 HFIT.out HA16.out)
  clear hok h16 hb16 PR1 HA15 HL15
  go_wp2_with fail
  refine PR2.out.mono ?_
  rintro e w17 ⟨qb, qn, qc, is, rfl, his, h17, hb17⟩
  obtain rfl : ok = is := by rw [HOK.out, his]
  have HL17 := hid (HL16.out.below hb17)
  have HB17 := hid (below_deep HB16.out hb17)
  have PSM := hid (same_holds ((rowsC L by_).getD []) rb qb rn qn rc qc w17 (H16.out.below hb17) h17)
  clear his h17 hb17 PR2 HA16 HL16 H16 HOK
  have t5 : (ok != ok) = false := by simp
  have t6 : (ok == ok) = true := by simp
  go_wp2_with fail
  refine PSM.out.mono ?_
  rintro e w18 ⟨rfl, hb18⟩
  have HL18 := hid (HL17.out.below hb18)
  have HB18 := hid (below_deep HB17.out hb18)
  have PW := hid (refWrong_holds l lb ln lc w18 HSM.out HL18.out)
  clear hb18 PSM HL17
  go_wp2_with fail
  refine PW.out.mono ?_
  rintro e w19 ⟨rfl, hb19⟩
  have HL19 := hid (HL18.out.below hb19)
  have HB19 := hid (below_deep HB18.out hb19)
  clear hb19 PW HL18
  by_cases hz : wrong l = 0
  · rw [hz]
    have HRL := hid (right_of hz)
    have POF := hid (ofC_calls l lb ln lc w19 HRL.out HSM.out HL19.out)
    clear hz
    go_wp2_with fail
    refine POF.out.mono ?_
    rintro e w20 ⟨b20, n20, c20, rfl, h20, hb20⟩
    have HL20 := hid (HL19.out.below hb20)
    have HB20 := hid (below_deep HB19.out hb20)
    have PR3 := hid (rowsC_calls (ofRows l) b20 n20 c20 0 w20 (ofRows_right HRL.out).fit h20)
    rw [rowsC_of HRL.out.srt (Int.le_refl 0)] at PR3
    clear h20 hb20 POF HL19
    go_wp2_with fail
    refine PR3.out.mono ?_
    rintro e w21 ⟨zb, zn, zc, ok3, rfl, hok3, h21, hb21⟩
    simp only [Option.isSome_some, Option.getD_some] at hok3 h21
    subst hok3
    have HB21 := hid (below_deep HB20.out hb21)
    have PSM2 := hid (same_holds l zb lb zn ln zc lc w21 h21 (HL20.out.below hb21))
    clear h21 hb21 PR3 HL20
    go_wp2_with fail
    refine PSM2.out.mono ?_
    rintro e w22 ⟨rfl, hb22⟩
    have HB22 := hid (below_deep HB21.out hb22)
    clear hb22
    go_wp2
    go_ret
    exact ⟨rfl, HB22.out⟩
  · have t := ne_true hz
    clear hz
    generalize wrong l = q at *
    go_wp2
    go_ret
    exact ⟨rfl, HB19.out⟩
end Go.Proofs.Ytfchjhdgnibnnab
