/-
  The closed fact that the statements of chapter 8 ask first is so.
  Plain mathematics of a deed that is done: what each key that it writes has then, as the program takes it from what Run made, or from what the key had.
-/
import Derived.Test.YtdnafpenljdinadDoorRunOne
import Derived.Test.YtdnafpenljdinadDoorTidyDo
import Derived.Test.YtdnafpenljdinadDoorTidyClear
import Derived.Test.YtdnafpenljdinadDoorRefGoE
import Derived.Test.YtdnafpenljdinadDoorDeedEq
import Derived.Test.YtdnafpenljdinadDoorEngFit
namespace Go.Proofs.YtdnafpenljdinadDoor
open Go.RowKit

theorem read8_results (tmps : Array Value) (b : Nat) (w : World) {x y z : Value} (h2 : tmps.getD 2 undef = .pointer (some ⟨b, 0, none⟩)) (h : Three w b x y z) (hx : ∃ p q r, x = .slice p q r) (hy : ∃ p q r, y = .slice p q r) (hz : ∃ p q r, z = .slice p q r) :
    (results Tryd.f19 tmps).run Tryd.prog w = .ok (.agg #[x, y, z]) w := by
  have h2' : tmps[2]?.getD undef = .pointer (some ⟨b, 0, none⟩) := by simpa using h2
  obtain ⟨_, _, _, rfl⟩ := hx
  obtain ⟨_, _, _, rfl⟩ := hy
  obtain ⟨_, _, _, rfl⟩ := hz
  simp [results, Tryd.results19, go_sem, h2', h.c0, h.c1, h.c2]

set_option maxRecDepth 100000 in
set_option maxHeartbeats 2000000 in
theorem read8_calls (s : ByteArray) (d : Deed3) (w : World) (hG : GroundN w) (hs : s.size ≤ maxLen) (hd : readT (keyT s) = (0, d.1, d.2.1, d.2.2)) :
    Calls Tryd.prog 19 #[.string s] w fun e w' => ReadTold w w' d e := by
  have HA0 := hid (three_new w (.slice none 0 0) (.slice none 0 0) (.slice none 0 0) 51)
  have HG0 := hid (grew w (.cells #[.slice none 0 0, .slice none 0 0, .slice none 0 0] 51))
  have HP := hid (refParse_calls s _ (hG.below HG0.out) hs)
  rw [hd] at HP
  clear hG hs hd
  go_enter Tryd.func19, Tryd.ntmps19
  go_wp2_with fail
  refine HP.out.mono ?_
  rintro e w1 ⟨rb, rn, rc, wb, wn, wc, cb, cn, cc, rfl, hdi, hb1, f0, f1, f2⟩
  have q0 := (HA0.out.below hb1).c0
  have q1 := (HA0.out.below hb1).c1
  have q2 := (HA0.out.below hb1).c2
  have g0 := (HA0.out.below hb1).free 0
  have g1 := (HA0.out.below hb1).free 1
  have g2 := (HA0.out.below hb1).free 2
  have hlt := (HA0.out.below hb1).lt
  have hlt0 : w.heap.size < (w.alloc (.cells #[.slice none 0 0, .slice none 0 0, .slice none 0 0] 51)).heap.size := by rw [World.size_alloc]; omega
  have HDF : Hid (DeedIn ((setThree w1 w.heap.size (.slice rb rn rc) (.slice wb wn wc) (.slice cb cn cc)).alloc (.cells #[.slice rb rn rc, .slice wb wn wc, .slice cb cn cc] 51)) rb rn rc wb wn wc cb cn cc d.1 d.2.1 d.2.2) :=
    DeedIn.below ⟨three_lies f0 hlt0 hdi.tr, three_lies f1 hlt0 hdi.tw, three_lies f2 hlt0 hdi.cd⟩ (grew _ _)
  have HBF := hid (below_deep (below_three (below_deep HG0.out hb1) (Nat.le_refl w.heap.size) (.slice rb rn rc) (.slice wb wn wc) (.slice cb cn cc)) (grew _ (.cells #[.slice rb rn rc, .slice wb wn wc, .slice cb cn cc] 51)))
  have HTH := hid (((HA0.out.below hb1).all (.slice rb rn rc) (.slice wb wn wc) (.slice cb cn cc)).below (grew _ (.cells #[.slice rb rn rc, .slice wb wn wc, .slice cb cn cc] 51)))
  unfold setThree at HDF HBF HTH
  clear hdi hb1 f0 f1 f2
  go_wp2
  (try simp only [Exit.inBlock, Exit.then])
  refine bodyPost_ret (read8_results _ w.heap.size _ rfl ⟨HTH.out.c0, HTH.out.c1, HTH.out.c2⟩ ⟨_, _, _, rfl⟩ ⟨_, _, _, rfl⟩ ⟨_, _, _, rfl⟩) rfl ?_
  exact ⟨_, _, _, _, _, _, _, _, _, rfl, HDF.out, HBF.out⟩

theorem eit_goTo0 : goTo eitE 0 = (eitX, 0) := by
  unfold goTo
  rw [if_neg (by decide), show (0 : Int).toNat = 0 from rfl, show eitE.state.getD 0 0 = 0 from rfl, if_neg (by decide), eit_needs0, if_neg (by simp)]
  rfl
theorem eit_holds (w : World) : Holds (w.alloc (.cells #[.string oneB, .int .i64 1] 47)) (some ⟨w.heap.size, 0, none⟩) 1 1 eitR := by
  refine Holds.cells rfl (fun i hi => ?_) (Nat.le_refl _) (by decide)
  obtain rfl : i = 0 := by have : i < 1 := hi; omega
  exact ⟨box_cell w _ _ 0 _ rfl, box_cell w _ _ 1 _ rfl⟩
theorem eit_smallR : Small eitR := fun x hx => by
  simp [eitR] at hx; subst hx; decide
/-- Three deeds side by side in a block of its own. -/
theorem deeds_three (w : World) (rb : Option Addr) (rn rc : Nat) (wb : Option Addr) (wn wc : Nat) (cb : Option Addr) (cn cc : Nat) (rb' : Option Addr) (rn' rc' : Nat) (wb' : Option Addr) (wn' wc' : Nat) (cb' : Option Addr) (cn' cc' : Nat) (rb2 : Option Addr) (rn2 rc2 : Nat) (wb2 : Option Addr) (wn2 wc2 : Nat) (cb2 : Option Addr) (cn2 cc2 : Nat) (d d' d2 : Deed3)
    (h : DeedIn w rb rn rc wb wn wc cb cn cc d.1 d.2.1 d.2.2) (h' : DeedIn w rb' rn' rc' wb' wn' wc' cb' cn' cc' d'.1 d'.2.1 d'.2.2) (h2 : DeedIn w rb2 rn2 rc2 wb2 wn2 wc2 cb2 cn2 cc2 d2.1 d2.2.1 d2.2.2) (s : SmallT d.1 ∧ SmallT d.2.1) (s' : SmallT d'.1 ∧ SmallT d'.2.1) (s2 : SmallT d2.1 ∧ SmallT d2.2.1) :
    DeedsIn (w.alloc (.cells #[.slice rb rn rc, .slice wb wn wc, .slice cb cn cc, .slice rb' rn' rc', .slice wb' wn' wc', .slice cb' cn' cc', .slice rb2 rn2 rc2, .slice wb2 wn2 wc2, .slice cb2 cn2 cc2] 51)) (some ⟨w.heap.size, 0, none⟩) 3 3 [d, d', d2] := by
  have hb := grew w (.cells #[.slice rb rn rc, .slice wb wn wc, .slice cb cn cc, .slice rb' rn' rc', .slice wb' wn' wc', .slice cb' cn' cc', .slice rb2 rn2 rc2, .slice wb2 wn2 wc2, .slice cb2 cn2 cc2] 51)
  refine ⟨rfl, ⟨Nat.le_refl _, by unfold maxLen; omega, fun h => by cases h⟩, .inr ⟨_, _, rfl, fun i hi => ?_⟩⟩
  have : i = 0 ∨ i = 1 ∨ i = 2 := by omega
  rcases this with rfl | rfl | rfl
  · exact ⟨rb, rn, rc, wb, wn, wc, cb, cn, cc, box_cell w _ _ 0 _ rfl, box_cell w _ _ 1 _ rfl, box_cell w _ _ 2 _ rfl, h.below hb, s.1, s.2⟩
  · exact ⟨rb', rn', rc', wb', wn', wc', cb', cn', cc', box_cell w _ _ 3 _ rfl, box_cell w _ _ 4 _ rfl, box_cell w _ _ 5 _ rfl, h'.below hb, s'.1, s'.2⟩
  · exact ⟨rb2, rn2, rc2, wb2, wn2, wc2, cb2, cn2, cc2, box_cell w _ _ 6 _ rfl, box_cell w _ _ 7 _ rfl, box_cell w _ _ 8 _ rfl, h2.below hb, s2.1, s2.2⟩

set_option maxRecDepth 100000 in
set_option maxHeartbeats 4000000 in
theorem tlive_calls (w : World) (hG : GroundN w) : Calls Tryd.prog 5 #[] w fun e w' => e = .returned (.bool true) ∧ Below w.heap.size w w' := by
  have HG0 := hid (grew w (.cells #[.string oneB, .int .i64 1] 47))
  have PN := hid (refNew_calls eitR (some ⟨w.heap.size, 0, none⟩) 1 1 _ eitR_right eit_smallR (eit_holds w))
  have PR1 : Hid (∀ (s : ByteArray) W, Below w.heap.size w W → keyT s = sevT → Calls Tryd.prog 19 #[.string s] W fun e w' => ReadTold W w' sevD e) := fun s W hb e => by
    have hz := keyT_len s
    have hl : sevT.length = 39 := by decide
    exact read8_calls s sevD W (hG.below hb) (by rw [e] at hz; unfold maxLen; omega) (by rw [e]; exact sev_read)
  have PR2 : Hid (∀ (s : ByteArray) W, Below w.heap.size w W → keyT s = drpT → Calls Tryd.prog 19 #[.string s] W fun e w' => ReadTold W w' drpD e) := fun s W hb e => by
    have hz := keyT_len s
    have hl : drpT.length = 23 := by decide
    exact read8_calls s drpD W (hG.below hb) (by rw [e] at hz; unfold maxLen; omega) (by rw [e]; exact drp_read)
  have PR3 : Hid (∀ (s : ByteArray) W, Below w.heap.size w W → keyT s = idlT → Calls Tryd.prog 19 #[.string s] W fun e w' => ReadTold W w' idlD e) := fun s W hb e => by
    have hz := keyT_len s
    have hl : idlT.length = 15 := by decide
    exact read8_calls s idlD W (hG.below hb) (by rw [e] at hz; unfold maxLen; omega) (by rw [e]; exact idl_read)
  clear hG
  go_enter Tryd.func5, Tryd.ntmps5
  go_wp2_with fail
  refine PN.out.mono ?_
  rintro x w1 ⟨v1, rfl, hv1, hb1⟩
  have HB1 := hid (below_deep HG0.out hb1)
  have HV1 := hid hv1
  clear hv1 hb1 PN
  go_wp2_with fail
  refine (PR1.out _ w1 HB1.out ?_).mono ?_
  · rfl
  rintro x w2 ⟨rb, rn, rc, wb, wn, wc, cb, cn, cc, rfl, hdi, hb2⟩
  have HB2 := hid (below_deep HB1.out hb2)
  have HD2 := hid hdi
  have HV2 := hid (HV1.out.below hb2)
  clear hdi hb2 PR1 HV1
  go_wp2_with fail
  refine (PR2.out _ w2 HB2.out ?_).mono ?_
  · rfl
  rintro x w3 ⟨rb', rn', rc', wb', wn', wc', cb', cn', cc', rfl, hdi', hb3⟩
  have HB3 := hid (below_deep HB2.out hb3)
  have HD3 := hid hdi'
  have HD23 := hid (HD2.out.below hb3)
  have HV3 := hid (HV2.out.below hb3)
  clear hdi' hb3 PR2 HV2 HD2
  go_wp2_with fail
  refine (PR3.out _ w3 HB3.out ?_).mono ?_
  · rfl
  rintro x w4 ⟨rb2, rn2, rc2, wb2, wn2, wc2, cb2, cn2, cc2, rfl, hdi2, hb4⟩
  have HB4 := hid (below_deep HB3.out hb4)
  have HDS := hid (deeds_three w4 rb rn rc wb wn wc cb cn cc rb' rn' rc' wb' wn' wc' cb' cn' cc' rb2 rn2 rc2 wb2 wn2 wc2 cb2 cn2 cc2 sevD drpD idlD (HD23.out.below hb4) (HD3.out.below hb4) hdi2 sev_small drp_small idl_small)
  have HG4 := hid (grew w4 (.cells #[.slice rb rn rc, .slice wb wn wc, .slice cb cn cc, .slice rb' rn' rc', .slice wb' wn' wc', .slice cb' cn' cc', .slice rb2 rn2 rc2, .slice wb2 wn2 wc2, .slice cb2 cn2 cc2] 51))
  have HBX := hid (below_deep HB4.out HG4.out)
  have HV4 := hid (HV3.out.below (below_deep hb4 HG4.out))
  have PA := hid (refAddE_calls (Good.new eitR_right) eitDs (by decide) v1 _ 3 3 _ HV4.out HDS.out)
  clear hdi2 hb4 PR3 HV3 HD3 HD23
  go_wp2_with fail
  refine PA.out.mono ?_
  rintro x w5 ⟨v5, rfl, hv5, hb5⟩
  have hadd : addTo (newE eitR) eitDs = eitE := by unfold addTo; rw [if_pos eit_wDs]; rfl
  rw [hadd] at hv5
  rw [eit_wDs]
  obtain ⟨eb0, en0, ec0, db, dn, dc, sb, sn, sc, eb, en, ec, rfl, hl5⟩ := hv5
  have HG5 := hid (grew w5 (.cells #[.slice eb0 en0 ec0, .slice db dn dc, .slice sb sn sc, .slice eb en ec, .int .i64 eitE.base] 33))
  have HX5 := hid (Box.new w5 #[.slice eb0 en0 ec0, .slice db dn dc, .slice sb sn sc, .slice eb en ec, .int .i64 eitE.base] 33)
  have HL5 := hid (hl5.below HG5.out)
  have HB5 := hid (below_deep HBX.out (below_deep hb5 HG5.out))
  clear hl5 hb5 PA hadd HG5
  go_upto_region 2 with fail
  generalize w5.alloc (.cells #[.slice eb0 en0 ec0, .slice db dn dc, .slice sb sn sc, .slice eb en ec, .int .i64 eitE.base] 33) = A5 at *
  generalize w5.heap.size = be at *
  obtain ⟨x0, x1, x2, x3, x4⟩ := HX5.out.cells5
  have hel : be < A5.heap.size := HX5.out.lt
  have P0 := hid (refGoE_calls eit_good (by decide) 0 _ A5 ⟨_, _, _, _, _, _, _, _, _, _, _, _, rfl, HL5.out⟩)
  unfold GoTold at P0
  rw [eit_goTo0] at P0
  go_wp2_with fail
  refine P0.out.mono ?_
  rintro x w6 ⟨v6, rfl, hv6, hb6⟩
  obtain ⟨cb6, cn6, cc6, db6, dn6, dc6, sb6, sn6, sc6, eb6, en6, ec6, rfl, hl6⟩ := hv6
  have HG6 := hid (grew w6 (.cells #[.slice cb6 cn6 cc6, .slice db6 dn6 dc6, .slice sb6 sn6 sc6, .slice eb6 en6 ec6, .int .i64 eitX.base] 33))
  have HX6 := hid (Box.new w6 #[.slice cb6 cn6 cc6, .slice db6 dn6 dc6, .slice sb6 sn6 sc6, .slice eb6 en6 ec6, .int .i64 eitX.base] 33)
  have HL6 := hid (hl6.below HG6.out)
  have HB6 := hid (below_deep HB5.out (below_deep hb6 HG6.out))
  clear hl6 hb6 P0 x0 x1 x2 x3 x4 hel HX5 HL5 HG6
  go_upto_region 3 with fail
  generalize w6.alloc (.cells #[.slice cb6 cn6 cc6, .slice db6 dn6 dc6, .slice sb6 sn6 sc6, .slice eb6 en6 ec6, .int .i64 eitX.base] 33) = A6 at *
  generalize w6.heap.size = bx at *
  obtain ⟨x0, x1, x2, x3, x4⟩ := HX6.out.cells5
  have hxl : bx < A6.heap.size := HX6.out.lt
  have PC := hid (tidyClear_calls eit_goodX (by decide) _ A6 ⟨_, _, _, _, _, _, _, _, _, _, _, _, rfl, HL6.out⟩)
  have HGC := hid (mark_clear eit_goodX)
  rw [eit_mark] at PC HGC
  have hbs := eit_clear.1
  have hds := eit_clear.2
  go_wp2_with fail
  refine PC.out.mono ?_
  rintro x w7 ⟨v7, rfl, hv7, hb7⟩
  obtain ⟨cb7, cn7, cc7, db7, dn7, dc7, sb7, sn7, sc7, eb7, en7, ec7, rfl, hl7⟩ := hv7
  rw [hbs]
  obtain rfl : dn7 = 2 := by rw [hl7.de.len, hds]
  have HLX : Hid (EngLies w7 cb7 cn7 cc7 db7 2 dc7 sb7 sn7 sc7 eb7 en7 ec7 (clearE eitX 1)) := hl7
  have HG7 := hid (grew w7 (.cells #[.slice cb7 cn7 cc7, .slice db7 2 dc7, .slice sb7 sn7 sc7, .slice eb7 en7 ec7, .int .i64 1] 33))
  have HY7 := hid (Box.new w7 #[.slice cb7 cn7 cc7, .slice db7 2 dc7, .slice sb7 sn7 sc7, .slice eb7 en7 ec7, .int .i64 1] 33)
  have HLY7 := hid (HLX.out.below HG7.out)
  have HB7' := hid (below_deep hb7 HG7.out)
  have HX7 := hid (HX6.out.below HB7'.out)
  have HL7 := hid (HL6.out.below HB7'.out)
  have HB7 := hid (below_deep HB6.out HB7'.out)
  have hxl7 : bx < w7.heap.size := (HX6.out.below hb7).lt
  clear hl7 hb7 PC x0 x1 x2 x3 x4 hxl HX6 HL6 HG7 HLX HB7' hbs hds
  go_upto_region 4 with fail
  generalize w7.alloc (.cells #[.slice cb7 cn7 cc7, .slice db7 2 dc7, .slice sb7 sn7 sc7, .slice eb7 en7 ec7, .int .i64 1] 33) = A7 at *
  generalize w7.heap.size = by7 at *
  obtain ⟨x0, x1, x2, x3, x4⟩ := HX7.out.cells5
  have hxl : bx < A7.heap.size := HX7.out.lt
  have PS := hid (tidySeen_calls eit_goodX (by decide) 1 _ A7 ⟨_, _, _, _, _, _, _, _, _, _, _, _, rfl, HL7.out⟩)
  go_wp2_with fail
  refine PS.out.mono ?_
  rintro x w8 ⟨b8, n8, c8, rfl, h8, hb8⟩
  rw [eit_seen1.1]
  obtain rfl : n8 = 2 := by rw [h8.len, eit_seen1.2]
  have HX8 := hid (HX7.out.below hb8)
  have HL8 := hid (HL7.out.below hb8)
  have HY8 := hid (HY7.out.below hb8)
  have HLY8 := hid (HLY7.out.below hb8)
  have HB8 := hid (below_deep HB7.out hb8)
  clear h8 hb8 PS x0 x1 x2 x3 x4 hxl HX7 HL7 HY7 HLY7 hxl7
  obtain ⟨x0, x1, x2, x3, x4⟩ := HX8.out.cells5
  have hxl : bx < w8.heap.size := HX8.out.lt
  have PT := hid (tidySeen_calls eit_goodX (by decide) 3 _ w8 ⟨_, _, _, _, _, _, _, _, _, _, _, _, rfl, HL8.out⟩)
  go_wp2_with fail
  refine PT.out.mono ?_
  rintro x w9 ⟨b9, n9, c9, rfl, h9, hb9⟩
  rw [eit_seen3]
  have HX9 := hid (HX8.out.below hb9)
  have HL9 := hid (HL8.out.below hb9)
  have HY9 := hid (HY8.out.below hb9)
  have HLY9 := hid (HLY8.out.below hb9)
  have HB9 := hid (below_deep HB8.out hb9)
  clear h9 hb9 PT x0 x1 x2 x3 x4 hxl HX8 HL8 HY8 HLY8
  obtain ⟨x0, x1, x2, x3, x4⟩ := HX9.out.cells5
  have hxl : bx < w9.heap.size := HX9.out.lt
  have PM := hid (tidyMark_calls eitX _ w9 ⟨_, _, _, _, _, _, _, _, _, _, _, _, rfl, HL9.out⟩ (by decide +kernel) eit_goodX.slen eit_goodX.elen)
  have hmk : ((markE eitX : Nat) : Int) = 1 := by rw [eit_mark]; rfl
  rw [hmk] at PM
  go_wp2_with fail
  refine PM.out.mono ?_
  rintro x w10 ⟨rfl, hb10⟩
  have HX10 := hid (HX9.out.below hb10)
  have HL10 := hid (HL9.out.below hb10)
  have HY10 := hid (HY9.out.below hb10)
  have HLY10 := hid (HLY9.out.below hb10)
  have HB10 := hid (below_deep HB9.out hb10)
  clear hb10 PM x0 x1 x2 x3 x4 hxl HX9 HL9 HY9 HLY9 hmk
  obtain ⟨x0, x1, x2, x3, x4⟩ := HX10.out.cells5
  obtain ⟨y0, y1, y2, y3, y4⟩ := HY10.out.cells5
  have hxl : bx < w10.heap.size := HX10.out.lt
  have hyl : by7 < w10.heap.size := HY10.out.lt
  have PZ := hid (tidySize_calls eitX _ w10 (eit_goodX.fit (by decide)) (eit_goodX.few (by decide)) ⟨_, _, _, _, _, _, _, _, _, _, _, _, rfl, HL10.out⟩)
  have hsz : ((sizeC eitX.chains : Nat) : Int) = 4 := by rw [eit_size.1]; rfl
  rw [hsz] at PZ
  go_wp2_with fail
  refine PZ.out.mono ?_
  rintro x w11 ⟨rfl, hb11⟩
  have HY11 := hid (HY10.out.below hb11)
  have HLY11 := hid (HLY10.out.below hb11)
  have HB11 := hid (below_deep HB10.out hb11)
  clear hb11 PZ x0 x1 x2 x3 x4 y0 y1 y2 y3 y4 hxl hyl HX10 HL10 HY10 HLY10 hsz
  obtain ⟨y0, y1, y2, y3, y4⟩ := HY11.out.cells5
  have hyl : by7 < w11.heap.size := HY11.out.lt
  have hcb : (clearE eitX 1).base = 1 := eit_clear.1
  have PY := hid (tidySize_calls (clearE eitX 1) (.agg #[.slice cb7 cn7 cc7, .slice db7 2 dc7, .slice sb7 sn7 sc7, .slice eb7 en7 ec7, .int .i64 1]) w11 (HGC.out.fit (by decide)) (HGC.out.few (by decide)) ⟨_, _, _, _, _, _, _, _, _, _, _, _, by rw [hcb], HLY11.out⟩)
  have hsz : ((sizeC (clearE eitX 1).chains : Nat) : Int) = 4 := by rw [eit_size.2]; rfl
  rw [hsz] at PY
  go_wp2_with fail
  refine PY.out.mono ?_
  rintro x w12 ⟨rfl, hb12⟩
  have HB12 := hid (below_deep HB11.out hb12)
  clear hb12 PY
  go_wp2
  go_ret
  exact ⟨rfl, HB12.out⟩
end Go.Proofs.YtdnafpenljdinadDoor

namespace Go.Proofs.YtdnafpenljdinadDoor
open Go.RowKit

/-- What a key has that a deed names which needs nobody: it is made, and is what the deed sees. -/
theorem sees_bef {r0 : List Row} {D : List Deed3} {m : Nat} {dn : Nat → Bool} {b : ByteArray → Int} {e : Eng} (G : Good r0 D m dn b e) {p : Nat} (hp : m + p < D.length) (hn : needsE e p = []) {k : ByteArray} (hk : k ∈ keysD (e.deeds.getD p default)) :
    (before e.chains k (e.base + p)).made = true ∧ (before e.chains k (e.base + p)).has_ = isAt k (seesE e p) ∧ (before e.chains k (e.base + p)).n = num k (seesE e p) := by
  rw [G.deed] at hk
  have hm := (needs_nil G hp).1 hn k hk
  obtain ⟨e1, e2⟩ := (sees_is G hp hn).2 k hk
  obtain ⟨h1, h2⟩ := (G.seen (n := p) (by omega) k).yes hm
  rw [G.at_]
  exact ⟨hm, h1.trans e1.symm, h2.trans e2.symm⟩
/-- What Run made, by the keys of it, in the order of Writes. -/
def madeL (f : Bool) (m : Made) (W : List ByteArray) : List (ByteArray × Option Int) := if f = true then [] else vers m W
theorem keysOf_length (l : List (ByteArray × Option Int)) : (keysOf l).length = l.length := by simp [keysOf]
theorem keysOf_getD {l : List (ByteArray × Option Int)} {j : Nat} (h : j < l.length) : (keysOf l).getD j default = (l.getD j default).1 := by simp [keysOf, List.getD, h]
theorem made_some {R : List Row} {d : Deed3} {r : Nat → Int} {m : Made} {f : Bool} (hs : Srt R) (hd : RightDD d) (hx : exD R d = (r, m, f)) {j : Nat} (hj : j < (madeL f m d.2.1).length) {k : ByteArray} {o : Option Int} (hk : (madeL f m d.2.1).getD j default = (k, o)) : isAt k (doD R d) = o.isSome ∧ num k (doD R d) = o.getD 0 := by
  cases f with
  | true => exact absurd hj (Nat.not_lt_zero _)
  | false =>
    have hmem : (k, o) ∈ vers m d.2.1 := by
      rw [← hk]
      show _ ∈ vers m d.2.1
      have hj' : j < (vers m d.2.1).length := hj
      have e : (madeL false m d.2.1).getD j default = (vers m d.2.1)[j] := by simp [madeL, List.getD, hj']
      rw [e]
      exact List.getElem_mem hj'
    have hm : m k = some o := (vers_mem hmem).2
    rw [doD_at hs hd, doD_num hs hd, hx]
    simp only [Bool.false_eq_true, if_false]
    unfold isThere look
    rw [hm]
    cases o <;> exact ⟨rfl, rfl⟩
theorem made_none {R : List Row} {d : Deed3} {r : Nat → Int} {m : Made} {f : Bool} (hs : Srt R) (hd : RightDD d) (hx : exD R d = (r, m, f)) {k : ByteArray} (hw : k ∈ d.2.1) (hk : has (keysOf (madeL f m d.2.1)) k = false) : isAt k (doD R d) = isAt k R ∧ num k (doD R d) = num k R := by
  rw [doD_at hs hd, doD_num hs hd, hx]
  cases f with
  | true => exact ⟨rfl, rfl⟩
  | false =>
    simp only [Bool.false_eq_true, if_false]
    have hm : m k = none := by
      cases hm : m k with
      | none => rfl
      | some o =>
        have : k ∈ keysOf (madeL false m d.2.1) := by
          refine List.mem_map.2 ⟨(k, o), ?_, rfl⟩
          show (k, o) ∈ vers m d.2.1
          unfold vers
          rw [List.mem_filterMap]
          exact ⟨k, hw, by rw [hm]; rfl⟩
        rw [has_iff.2 this] at hk; cases hk
    unfold isThere look
    rw [hm]
    exact ⟨rfl, rfl⟩
theorem verCell_is (o : Option Int) : verCell o = [.int .i64 0, .bool true, .bool o.isSome, .int .i64 (o.getD 0)] := by cases o <;> rfl

/-! ### How a deed is hindered -/
def hindE (e : Eng) (at_ : Int) : Int :=
  if at_ < 0 ∨ (e.deeds.length : Int) ≤ at_ then 6
  else if e.state.getD at_.toNat 0 = 1 then 11
  else if needsE e at_.toNat ≠ [] then 10
  else 0
theorem Good.state_is {r0 : List Row} {D : List Deed3} {m : Nat} {dn : Nat → Bool} {b : ByteArray → Int} {e : Eng} (G : Good r0 D m dn b e) {p : Nat} (hp : m + p < D.length) : e.state.getD p 0 = if dn (m + p) = true then 1 else 0 := by
  rw [G.state]
  have h : p < D.length - m := by omega
  simp [List.getD, h]
theorem hind_ready {r0 : List Row} {D : List Deed3} {m : Nat} {dn : Nat → Bool} {b : ByteArray → Int} {e : Eng} (G : Good r0 D m dn b e) {p : Nat} (hp : p < e.deeds.length) : (decide (hindE e p = 0)) = (decide (e.state.getD p 0 = 0) && (needsE e p).isEmpty) := by
  have hpD : m + p < D.length := by rw [G.len] at hp; omega
  unfold hindE
  rw [if_neg (by omega), Int.toNat_natCast, G.state_is hpD]
  cases dn (m + p) <;> cases needsE e p <;> simp
theorem ready_lt {e : Eng} {p : Nat} (h : p ∈ readyE e) : p < e.deeds.length := List.mem_range.1 (List.mem_filter.1 h).1
theorem ready_needs {e : Eng} {p : Nat} (h : p ∈ readyE e) : needsE e p = [] := by
  have := (List.mem_filter.1 h).2
  simp at this
  exact this.2
theorem ready_of_hind {r0 : List Row} {D : List Deed3} {m : Nat} {dn : Nat → Bool} {b : ByteArray → Int} {e : Eng} (G : Good r0 D m dn b e) {p : Nat} (hp : p < e.deeds.length) (h : hindE e p = 0) : p ∈ readyE e := by
  unfold readyE
  refine List.mem_filter.2 ⟨List.mem_range.2 hp, ?_⟩
  rw [← hind_ready G hp, h]; rfl
/-- The places of deeds that are ready, up to one. -/
def readyTo (e : Eng) (j : Nat) : List Nat := (List.range j).filter (fun p => decide (hindE e p = 0))
theorem readyTo_succ (e : Eng) (j : Nat) : readyTo e (j + 1) = readyTo e j ++ if hindE e j = 0 then [j] else [] := by
  unfold readyTo
  rw [List.range_succ, List.filter_append]
  congr 1
  simp only [List.filter_cons, List.filter_nil, decide_eq_true_eq]
theorem readyTo_len (e : Eng) (j : Nat) : (readyTo e j).length ≤ j := by
  have := List.length_filter_le (fun p : Nat => decide (hindE e p = 0)) (List.range j)
  rw [List.length_range] at this
  exact this
theorem ready_to {r0 : List Row} {D : List Deed3} {m : Nat} {dn : Nat → Bool} {b : ByteArray → Int} {e : Eng} (G : Good r0 D m dn b e) : readyTo e e.deeds.length = readyE e := by
  unfold readyTo readyE
  refine List.filter_congr fun p hp => ?_
  exact hind_ready G (List.mem_range.1 hp)
theorem ready_at {r0 : List Row} {D : List Deed3} {m : Nat} {dn : Nat → Bool} {b : ByteArray → Int} {e : Eng} (G : Good r0 D m dn b e) {p : Nat} (h : p ∈ readyE e) : m + p < D.length ∧ dn (m + p) = false := by
  have h1 := ready_lt h
  have hpD : m + p < D.length := by rw [G.len] at h1; omega
  refine ⟨hpD, ?_⟩
  have h2 := (List.mem_filter.1 h).2
  simp only [Bool.and_eq_true, decide_eq_true_eq] at h2
  have h3 := h2.1
  rw [G.state_is hpD] at h3
  cases hd : dn (m + p) with
  | false => rfl
  | true => rw [hd] at h3; cases h3
end Go.Proofs.YtdnafpenljdinadDoor
