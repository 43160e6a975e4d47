/-
  The statement TextTells answers true, whatever it is asked.
-/
import Derived.Test.YtddmdbjedainoaaDoorRefParse
import Derived.Test.YtddmdbjedainoaaDoorRefPrint
import Derived.Test.YtddmdbjedainoaaDoorRefSameDeed
import Derived.Deep.RegionHeld3
import Derived.Deep.RegionWith
namespace Go.Proofs.YtddmdbjedainoaaDoor
open Go.RowKit

theorem held10 {a b c d e f g h i k : Prop} (x : a ∧ b ∧ c ∧ d ∧ e ∧ f ∧ g ∧ h ∧ i ∧ k) : k := x.2.2.2.2.2.2.2.2.2
theorem nine_keep {A w1 w2 : World} {b0 o0 b1 o1 b2 o2 b3 o3 b4 o4 b5 o5 b6 o6 b7 o7 b8 o8 : Nat} {x0 x1 x2 x3 x4 x5 x6 x7 x8 : Value} (h : w1.cell? ⟨b0, o0, none⟩ = some x0 ∧ w1.cell? ⟨b1, o1, none⟩ = some x1 ∧ w1.cell? ⟨b2, o2, none⟩ = some x2 ∧ w1.cell? ⟨b3, o3, none⟩ = some x3 ∧ w1.cell? ⟨b4, o4, none⟩ = some x4 ∧ w1.cell? ⟨b5, o5, none⟩ = some x5 ∧ w1.cell? ⟨b6, o6, none⟩ = some x6 ∧ w1.cell? ⟨b7, o7, none⟩ = some x7 ∧ w1.cell? ⟨b8, o8, none⟩ = some x8 ∧ Below A.heap.size A w1) (hb : Below w1.heap.size w1 w2) : w2.cell? ⟨b0, o0, none⟩ = some x0 ∧ w2.cell? ⟨b1, o1, none⟩ = some x1 ∧ w2.cell? ⟨b2, o2, none⟩ = some x2 ∧ w2.cell? ⟨b3, o3, none⟩ = some x3 ∧ w2.cell? ⟨b4, o4, none⟩ = some x4 ∧ w2.cell? ⟨b5, o5, none⟩ = some x5 ∧ w2.cell? ⟨b6, o6, none⟩ = some x6 ∧ w2.cell? ⟨b7, o7, none⟩ = some x7 ∧ w2.cell? ⟨b8, o8, none⟩ = some x8 ∧ Below A.heap.size A w2 := by
  obtain ⟨h0, h1, h2, h3, h4, h5, h6, h7, h8, hz⟩ := h
  exact ⟨kept_cell hb h0, kept_cell hb h1, kept_cell hb h2, kept_cell hb h3, kept_cell hb h4, kept_cell hb h5, kept_cell hb h6, kept_cell hb h7, kept_cell hb h8, below_deep hz hb⟩

set_option maxRecDepth 100000 in
set_option maxHeartbeats 8000000 in
theorem textTells_calls (s : ByteArray) (R W : List ByteArray) (C : List Ins) (rb : Option Addr) (rn rc : Nat) (wb : Option Addr) (wn wc : Nat) (cb : Option Addr) (cn cc : Nat) (w : World) (hG : Ground w) (hs : s.size ≤ maxLen) (hd : DeedIn w rb rn rc wb wn wc cb cn cc R W C) (hr : SmallT R) (hw : SmallT W) :
    Calls Tryd.prog 3 #[.string s, .agg #[.slice rb rn rc, .slice wb wn wc, .slice cb cn cc]] w fun e w' => e = .returned (.bool true) ∧ Below w.heap.size w w' := by
  have HB0 : Hid (Below w.heap.size w (w.alloc (.cells #[.slice rb rn rc, .slice wb wn wc, .slice cb cn cc] 25))) := grew _ _
  have HA0 := hid (three_new w (.slice rb rn rc) (.slice wb wn wc) (.slice cb cn cc) 25)
  have HP1 := hid (parse_calls s _ (hG.below HB0.out) hs)
  have HG := hid hG
  have HD := hid hd
  have HS := hid hs
  have HSM : Hid (SmallT R ∧ SmallT W) := ⟨hr, hw⟩
  clear hG hd hs hr hw
  have HP2 : Hid (∀ wx, Below w.heap.size w wx → Calls Tryd.prog 5 #[.string s] wx fun e w' => PartsTold wx (readT (keyT s)) e w') := fun wx hb => refParse_calls s wx (HG.out.below hb) HS.out
  generalize readT (keyT s) = q at *
  go_enter Tryd.func3, Tryd.ntmps3
  go_wp2_with fail
  refine HP1.out.mono ?_
  rintro e w1 ⟨rb1, rn1, rc1, wb1, wn1, wc1, cb1, cn1, cc1, rfl, hd1, hb1, _⟩
  have HBC := hid (grew w1 (.cells #[.slice rb1 rn1 rc1, .slice wb1 wn1 wc1, .slice cb1 cn1 cc1] 25))
  have HB1 := hid (below_deep (below_deep HB0.out hb1) HBC.out)
  have HA1 := hid ((HA0.out.below hb1).below HBC.out)
  have HT1 := hid (three_new w1 (.slice rb1 rn1 rc1) (.slice wb1 wn1 wc1) (.slice cb1 cn1 cc1) 25)
  have HD1 := hid (hd1.below HBC.out)
  clear hd1 hb1 HBC
  go_wp2_with fail
  refine (HP2.out _ HB1.out).mono ?_
  rintro e w2 ⟨rb2, rn2, rc2, wb2, wn2, wc2, cb2, cn2, cc2, rfl, hd2, hb2, _⟩
  have HBE := hid (grew w2 (.cells #[.slice rb2 rn2 rc2, .slice wb2 wn2 wc2, .slice cb2 cn2 cc2] 25))
  have HB2 := hid (below_deep (below_deep HB1.out hb2) HBE.out)
  have HA2 := hid ((HA1.out.below hb2).below HBE.out)
  have HT2 := hid ((HT1.out.below hb2).below HBE.out)
  have HU2 := hid (three_new w2 (.slice rb2 rn2 rc2) (.slice wb2 wn2 wc2) (.slice cb2 cn2 cc2) 25)
  have HE1 := hid ((HD1.out.below hb2).below HBE.out)
  have HE2 := hid (hd2.below HBE.out)
  have HE0 := hid (HD.out.below HB2.out)
  clear hd2 hb2 HBE HP1 HP2 HA0 HA1 HT1 HD1 HD HB1 HB0
  go_wp2
  generalize w2.alloc (.cells #[.slice rb2 rn2 rc2, .slice wb2 wn2 wc2, .slice cb2 cn2 cc2] 25) = A at *
  have HSD : Hid (∀ wx, Below A.heap.size A wx → Calls Tryd.prog 6 #[.agg #[.slice rb1 rn1 rc1, .slice wb1 wn1 wc1, .slice cb1 cn1 cc1], .agg #[.slice rb2 rn2 rc2, .slice wb2 wn2 wc2, .slice cb2 cn2 cc2]] wx fun e w' => e = .returned (.bool true) ∧ Below wx.heap.size wx w') := fun wx hb => by
    have := refSameDeed_calls q.2.1 q.2.2.1 q.2.2.2 q.2.1 q.2.2.1 q.2.2.2 rb1 rn1 rc1 wb1 wn1 wc1 cb1 cn1 cc1 rb2 rn2 rc2 wb2 wn2 wc2 cb2 cn2 cc2 wx (HE1.out.below hb) (HE2.out.below hb)
    simpa only [decide_true, Bool.and_true] using this
  have HS0 : Hid ((fun w' => w'.cell? ⟨w.heap.size, 0, none⟩ = some (.slice rb rn rc) ∧ w'.cell? ⟨w.heap.size, 1, none⟩ = some (.slice wb wn wc) ∧ w'.cell? ⟨w.heap.size, 2, none⟩ = some (.slice cb cn cc) ∧ w'.cell? ⟨w1.heap.size, 0, none⟩ = some (.slice rb1 rn1 rc1) ∧ w'.cell? ⟨w1.heap.size, 1, none⟩ = some (.slice wb1 wn1 wc1) ∧ w'.cell? ⟨w1.heap.size, 2, none⟩ = some (.slice cb1 cn1 cc1) ∧ w'.cell? ⟨w2.heap.size, 0, none⟩ = some (.slice rb2 rn2 rc2) ∧ w'.cell? ⟨w2.heap.size, 1, none⟩ = some (.slice wb2 wn2 wc2) ∧ w'.cell? ⟨w2.heap.size, 2, none⟩ = some (.slice cb2 cn2 cc2) ∧ Below A.heap.size A w') A.drew) := by
    obtain ⟨a0, a1, a2, _⟩ := HA2.out
    obtain ⟨b0, b1, b2, _⟩ := HT2.out
    obtain ⟨c0, c1, c2, _⟩ := HU2.out
    exact ⟨a0, a1, a2, b0, b1, b2, c0, c1, c2, (Below.refl _ _).drew⟩
  have HGA := hid (HG.out.below HB2.out)
  clear HA2 HT2 HU2 HE1 HE2
  generalize q.1 = er at *
  by_cases hok : wDeed R W C = 0
  case neg =>
    have hok1 : (wDeed R W C != 0) = true := by simpa using hok
    have hok2 : (wDeed R W C == 0) = false := by simpa using hok
    have HWD : Hid (∀ wx, Below A.heap.size A wx → Calls Tryd.prog 7 #[.agg #[.slice rb rn rc, .slice wb wn wc, .slice cb cn cc]] wx fun e w' => e = .returned (.int .i64 (wDeed R W C)) ∧ Below wx.heap.size wx w') := fun wx hb => refWrongDeed_calls R W C rb rn rc wb wn wc cb cn cc wx (HE0.out.below hb) HSM.out.1 HSM.out.2
    generalize wDeed R W C = wd at *
    obtain ⟨a0, a1, a2, b0, b1, b2, c0, c1, c2, _⟩ := HS0.out
    go_region_with (first | (go_at_call 6; refine (HSD.out _ (Below.refl _ _).drew).mono ?_; rintro e w4 ⟨rfl, hb4⟩; obtain ⟨d0, d1, d2, _⟩ := nine_keep HS0.out hb4) | (go_at_call 7; refine (HWD.out _ (below_deep (Below.refl _ _).drew hb4)).mono ?_; rintro e w5 ⟨rfl, hb5⟩))
    all_goals
      go_wp2
      go_ret
      exact ⟨rfl, below_deep (below_deep HB2.out.drew hb4) hb5⟩
  case pos =>
    have HWD : Hid (∀ wx, Below A.heap.size A wx → Calls Tryd.prog 7 #[.agg #[.slice rb rn rc, .slice wb wn wc, .slice cb cn cc]] wx fun e w' => e = .returned (.int .i64 0) ∧ Below wx.heap.size wx w') := fun wx hb => by
      have := refWrongDeed_calls R W C rb rn rc wb wn wc cb cn cc wx (HE0.out.below hb) HSM.out.1 HSM.out.2
      rwa [hok] at this
    have HTP : Hid (∀ wx, Below A.heap.size A wx → Calls Tryd.prog 8 #[.agg #[.slice rb rn rc, .slice wb wn wc, .slice cb cn cc]] wx fun e w' => e = .returned (.string (ofT (printT R W C))) ∧ Below wx.heap.size wx w') := fun wx hb => print_calls R W C rb rn rc wb wn wc cb cn cc wx (HGA.out.below hb) (HE0.out.below hb) HSM.out.1 HSM.out.2 hok
    have HRP : Hid (∀ wx, Below A.heap.size A wx → Calls Tryd.prog 9 #[.agg #[.slice rb rn rc, .slice wb wn wc, .slice cb cn cc]] wx fun e w' => e = .returned (.string (ofT (printT R W C))) ∧ Below wx.heap.size wx w') := fun wx hb => refPrint_calls R W C rb rn rc wb wn wc cb cn cc wx (HGA.out.below hb) (HE0.out.below hb) hok
    generalize ofT (printT R W C) = z at *
    have hzz := streq_true (rfl : z = z)
    clear hok
    go_region_held3 (fun w' => w'.cell? ⟨w.heap.size, 0, none⟩ = some (.slice rb rn rc) ∧ w'.cell? ⟨w.heap.size, 1, none⟩ = some (.slice wb wn wc) ∧ w'.cell? ⟨w.heap.size, 2, none⟩ = some (.slice cb cn cc) ∧ w'.cell? ⟨w1.heap.size, 0, none⟩ = some (.slice rb1 rn1 rc1) ∧ w'.cell? ⟨w1.heap.size, 1, none⟩ = some (.slice wb1 wn1 wc1) ∧ w'.cell? ⟨w1.heap.size, 2, none⟩ = some (.slice cb1 cn1 cc1) ∧ w'.cell? ⟨w2.heap.size, 0, none⟩ = some (.slice rb2 rn2 rc2) ∧ w'.cell? ⟨w2.heap.size, 1, none⟩ = some (.slice wb2 wn2 wc2) ∧ w'.cell? ⟨w2.heap.size, 2, none⟩ = some (.slice cb2 cn2 cc2) ∧ Below A.heap.size A w')
      (first
        | exact HS0.out
        | exact nine_keep (by assumption) (by assumption))
    (first
      | (go_at_call 6; refine (HSD.out _ (held10 (by assumption))).mono ?_; rintro e w4 ⟨rfl, hb4⟩)
      | (go_at_call 7; refine (HWD.out _ (held10 (by assumption))).mono ?_; rintro e w5 ⟨rfl, hb5⟩)
      | (go_at_call 8; refine (HTP.out _ (held10 (by assumption))).mono ?_; rintro e w6 ⟨rfl, hb6⟩)
      | (go_at_call 9; refine (HRP.out _ (held10 (by assumption))).mono ?_; rintro e w7 ⟨rfl, hb7⟩))
    go_wp2
    go_ret
    exact ⟨rfl, below_deep (below_deep (below_deep (below_deep HB2.out.drew hb4) hb5) hb6) hb7⟩
end Go.Proofs.YtddmdbjedainoaaDoor
