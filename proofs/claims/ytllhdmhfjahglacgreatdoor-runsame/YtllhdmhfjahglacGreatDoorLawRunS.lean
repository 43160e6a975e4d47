/-
  The closed fact that the statements of chapter 7 ask first is so.
  The walk of the statement RunSame: the call returns true and changes nothing that was there.
-/
import Derived.Test.YtllhdmhfjahglacGreatDoorRunMath
import Derived.Test.YtllhdmhfjahglacGreatDoorPlanKeys
import Derived.Test.YtllhdmhfjahglacGreatDoorLawPlanT
import Derived.Test.YtllhdmhfjahglacGreatDoorEngSet
import Derived.Test.YtllhdmhfjahglacGreatDoorRefNeeds
namespace Go.Proofs.YtllhdmhfjahglacGreatDoor
open Go.RowKit

theorem read7_results (tmps : Array Value) (b : Nat) (w : World) {x y z : Value} (h2 : tmps.getD 2 undef = .pointer (some ⟨b, 0, none⟩)) (h : Three w b x y z) (hx : ∃ p q r, x = .slice p q r) (hy : ∃ p q r, y = .slice p q r) (hz : ∃ p q r, z = .slice p q r) :
    (results Tryz.f37 tmps).run Tryz.prog w = .ok (.agg #[x, y, z]) w := by
  have h2' : tmps[2]?.getD undef = .pointer (some ⟨b, 0, none⟩) := by simpa using h2
  obtain ⟨_, _, _, rfl⟩ := hx
  obtain ⟨_, _, _, rfl⟩ := hy
  obtain ⟨_, _, _, rfl⟩ := hz
  simp [results, Tryz.results37, go_sem, h2', h.c0, h.c1, h.c2]

set_option maxRecDepth 100000 in
set_option maxHeartbeats 2000000 in
theorem read7_calls (s : ByteArray) (d : Deed3) (w : World) (hG : GroundN w) (hs : s.size ≤ maxLen) (hd : readT (keyT s) = (0, d.1, d.2.1, d.2.2)) :
    Calls Tryz.prog 37 #[.string s] w fun e w' => ReadTold w w' d e := by
  have HA0 := hid (three_new w (.slice none 0 0) (.slice none 0 0) (.slice none 0 0) 56)
  have HG0 := hid (grew w (.cells #[.slice none 0 0, .slice none 0 0, .slice none 0 0] 56))
  have HP := hid (refParse_calls s _ (hG.below HG0.out) hs)
  rw [hd] at HP
  clear hG hs hd
  go_enter Tryz.func37, Tryz.ntmps37
  go_wp2_with fail
  refine HP.out.mono ?_
  rintro e w1 ⟨rb, rn, rc, wb, wn, wc, cb, cn, cc, rfl, hdi, hb1, f0, f1, f2⟩
  have q0 := (HA0.out.below hb1).c0
  have q1 := (HA0.out.below hb1).c1
  have q2 := (HA0.out.below hb1).c2
  have g0 := (HA0.out.below hb1).free 0
  have g1 := (HA0.out.below hb1).free 1
  have g2 := (HA0.out.below hb1).free 2
  have hlt := (HA0.out.below hb1).lt
  have hlt0 : w.heap.size < (w.alloc (.cells #[.slice none 0 0, .slice none 0 0, .slice none 0 0] 56)).heap.size := by rw [World.size_alloc]; omega
  have HDF : Hid (DeedIn ((setThree w1 w.heap.size (.slice rb rn rc) (.slice wb wn wc) (.slice cb cn cc)).alloc (.cells #[.slice rb rn rc, .slice wb wn wc, .slice cb cn cc] 56)) rb rn rc wb wn wc cb cn cc d.1 d.2.1 d.2.2) :=
    DeedIn.below ⟨three_lies f0 hlt0 hdi.tr, three_lies f1 hlt0 hdi.tw, three_lies f2 hlt0 hdi.cd⟩ (grew _ _)
  have HBF := hid (below_deep (below_three (below_deep HG0.out hb1) (Nat.le_refl w.heap.size) (.slice rb rn rc) (.slice wb wn wc) (.slice cb cn cc)) (grew _ (.cells #[.slice rb rn rc, .slice wb wn wc, .slice cb cn cc] 56)))
  have HTH := hid (((HA0.out.below hb1).all (.slice rb rn rc) (.slice wb wn wc) (.slice cb cn cc)).below (grew _ (.cells #[.slice rb rn rc, .slice wb wn wc, .slice cb cn cc] 56)))
  unfold setThree at HDF HBF HTH
  clear hdi hb1 f0 f1 f2
  go_wp2
  (try simp only [Exit.inBlock, Exit.then])
  refine bodyPost_ret (read7_results _ w.heap.size _ rfl ⟨HTH.out.c0, HTH.out.c1, HTH.out.c2⟩ ⟨_, _, _, rfl⟩ ⟨_, _, _, rfl⟩ ⟨_, _, _, rfl⟩) rfl ?_
  exact ⟨_, _, _, _, _, _, _, _, _, rfl, HDF.out, HBF.out⟩

theorem sev_goTo1 : goTo sevE 1 = (sevE, 10) := by
  unfold goTo
  rw [if_neg (by rw [sevE_deeds]; decide), show (1 : Int).toNat = 1 from rfl, sevE_state, if_neg (by decide), sev_needs1, if_pos (by simp)]
theorem sev_goTo0 : goTo sevE 0 = (goE sevE 0, 0) := by
  unfold goTo
  rw [if_neg (by rw [sevE_deeds]; decide), show (0 : Int).toNat = 0 from rfl, sevE_state, if_neg (by decide), sev_needs0, if_neg (by simp)]
/-- An end's second register, in a row of ends. -/
theorem ends_reg1 {w : World} {eb : Option Addr} {en ec : Nat} {E : List End3} (h : Ends w eb en ec E) {j : Nat} (hj : j < E.length) : ∃ b o, eb = some ⟨b, o, none⟩ ∧ w.cell? ⟨b, o + (j * 5 + 2), none⟩ = some (.int .i64 ((E.getD j default).2 1)) := by
  have hn : en = E.length := Ends.count h
  rcases h.run with h0 | ⟨b, o, e, hr⟩
  · omega
  · exact ⟨b, o, e, hr _ _ (endCells_at E j hj 2 _ rfl)⟩

set_option maxRecDepth 100000 in
set_option maxHeartbeats 4000000 in
theorem rlive_calls (w : World) (hG : GroundN w) : Calls Tryz.prog 14 #[] w fun e w' => e = .returned (.bool true) ∧ Below w.heap.size w w' := by
  have PN := hid (refNew_calls [] none 0 0 w nil_right (fun x hx => by cases hx) (Holds.empty _ rfl rfl ⟨Nat.le_refl _, Nat.zero_le _, fun _ => rfl⟩))
  have PR1 : Hid (∀ (s : ByteArray) W, Below w.heap.size w W → keyT s = sevT → Calls Tryz.prog 37 #[.string s] W fun e w' => ReadTold W w' sevD e) := fun s W hb e => by
    have hz := keyT_len s
    have hl : sevT.length = 39 := by decide
    exact read7_calls s sevD W (hG.below hb) (by rw [e] at hz; unfold maxLen; omega) (by rw [e]; exact sev_read)
  have PR2 : Hid (∀ (s : ByteArray) W, Below w.heap.size w W → keyT s = sev2T → Calls Tryz.prog 37 #[.string s] W fun e w' => ReadTold W w' sev2D e) := fun s W hb e => by
    have hz := keyT_len s
    have hl : sev2T.length = 26 := by decide
    exact read7_calls s sev2D W (hG.below hb) (by rw [e] at hz; unfold maxLen; omega) (by rw [e]; exact sev2_read)
  clear hG
  go_enter Tryz.func14, Tryz.ntmps14
  go_wp2_with fail
  refine PN.out.mono ?_
  rintro x w1 ⟨v1, rfl, hv1, hb1⟩
  have HB1 := hid hb1
  have HV1 := hid hv1
  clear hv1 hb1 PN
  go_wp2_with fail
  refine (PR1.out _ w1 HB1.out ?_).mono ?_
  · rfl
  rintro x w2 ⟨rb, rn, rc, wb, wn, wc, cb, cn, cc, rfl, hdi, hb2⟩
  have HB2 := hid (below_deep HB1.out hb2)
  have HD2 := hid hdi
  have HV2 := hid (HV1.out.below hb2)
  clear hdi hb2 PR1 HV1
  go_wp2_with fail
  refine (PR2.out _ w2 HB2.out ?_).mono ?_
  · rfl
  rintro x w3 ⟨rb', rn', rc', wb', wn', wc', cb', cn', cc', rfl, hdi', hb3⟩
  have HB3 := hid (below_deep HB2.out hb3)
  have HDS := hid (deeds_two w3 rb rn rc wb wn wc cb cn cc rb' rn' rc' wb' wn' wc' cb' cn' cc' sevD sev2D (HD2.out.below hb3) hdi' sev_small sev2_small)
  have HG3 := hid (grew w3 (.cells #[.slice rb rn rc, .slice wb wn wc, .slice cb cn cc, .slice rb' rn' rc', .slice wb' wn' wc', .slice cb' cn' cc'] 56))
  have HB4 := hid (below_deep HB3.out HG3.out)
  have HV4 := hid (HV2.out.below (below_deep hb3 HG3.out))
  have PA := hid (refAddE_calls (Good.new nil_right) [sevD, sev2D] (by decide) v1 _ 2 2 _ HV4.out HDS.out)
  clear hdi' hb3 PR2 HV2 HD2
  go_wp2_with fail
  refine PA.out.mono ?_
  rintro x w5 ⟨v5, rfl, hv5, hb5⟩
  have hadd : addTo (newE []) [sevD, sev2D] = sevE := by unfold addTo; rw [if_pos sev_wDs]; rfl
  rw [hadd] at hv5
  rw [sev_wDs]
  obtain ⟨eb0, en0, ec0, db, dn, dc, sb, sn, sc, eb, en, ec, rfl, hl5⟩ := hv5
  have HG5 := hid (grew w5 (.cells #[.slice eb0 en0 ec0, .slice db dn dc, .slice sb sn sc, .slice eb en ec, .int .i64 sevE.base] 33))
  have HX5 := hid (Box.new w5 #[.slice eb0 en0 ec0, .slice db dn dc, .slice sb sn sc, .slice eb en ec, .int .i64 sevE.base] 33)
  have HL5 := hid (hl5.below HG5.out)
  have HB5 := hid (below_deep HB4.out (below_deep hb5 HG5.out))
  clear hl5 hb5 PA hadd
  go_upto_region 2 with fail
  generalize w5.alloc (.cells #[.slice eb0 en0 ec0, .slice db dn dc, .slice sb sn sc, .slice eb en ec, .int .i64 sevE.base] 33) = A5 at *
  generalize w5.heap.size = be at *
  obtain ⟨x0, x1, x2, x3, x4⟩ := HX5.out.cells5
  have hel : be < A5.heap.size := HX5.out.lt
  have PY := hid (runReady_calls sev_good (by decide) _ A5 ⟨_, _, _, _, _, _, _, _, _, _, _, _, rfl, HL5.out⟩)
  rw [sev_ready] at PY
  go_wp2_with fail
  refine PY.out.mono ?_
  rintro x w6 ⟨nb6, nn6, nc6, rfl, h6, hb6⟩
  obtain rfl : nn6 = 1 := Ints.count h6
  have HX6 := hid (HX5.out.below hb6)
  have HL6 := hid (HL5.out.below hb6)
  have HB6 := hid (below_deep HB5.out hb6)
  clear h6 hb6 PY x0 x1 x2 x3 x4 hel
  obtain ⟨x0, x1, x2, x3, x4⟩ := HX6.out.cells5
  have hel : be < w6.heap.size := HX6.out.lt
  have P1 := hid (runGo_calls sev_good (by decide) 1 _ w6 ⟨_, _, _, _, _, _, _, _, _, _, _, _, rfl, HL6.out⟩)
  unfold GoTold at P1
  rw [sev_goTo1] at P1
  go_wp2_with fail
  refine P1.out.mono ?_
  rintro x w7 ⟨v7, rfl, hv7, hb7⟩
  obtain ⟨cb7, cn7, cc7, db7, dn7, dc7, sb7, sn7, sc7, eb7, en7, ec7, rfl, hl7⟩ := hv7
  have HB7 := hid (below_deep hb7 (grew w7 (.cells #[.slice cb7 cn7 cc7, .slice db7 dn7 dc7, .slice sb7 sn7 sc7, .slice eb7 en7 ec7, .int .i64 sevE.base] 33)))
  have HX7 := hid (HX6.out.below HB7.out)
  have HL7 := hid (HL6.out.below HB7.out)
  have HT7 := hid (below_deep HB6.out HB7.out)
  have hel7 : be < w7.heap.size := (HX6.out.below hb7).lt
  clear hl7 hb7 P1 x0 x1 x2 x3 x4 hel HB7
  go_upto_region 4 with fail
  generalize w7.alloc (.cells #[.slice cb7 cn7 cc7, .slice db7 dn7 dc7, .slice sb7 sn7 sc7, .slice eb7 en7 ec7, .int .i64 sevE.base] 33) = A7 at *
  obtain ⟨x0, x1, x2, x3, x4⟩ := HX7.out.cells5
  have hel : be < A7.heap.size := HX7.out.lt
  have P0 := hid (runGo_calls sev_good (by decide) 0 _ A7 ⟨_, _, _, _, _, _, _, _, _, _, _, _, rfl, HL7.out⟩)
  unfold GoTold at P0
  rw [sev_goTo0] at P0
  go_wp2_with fail
  refine P0.out.mono ?_
  rintro x w8 ⟨v8, rfl, hv8, hb8⟩
  obtain ⟨cb8, cn8, cc8, db8, dn8, dc8, sb8, sn8, sc8, eb8, en8, ec8, rfl, hl8⟩ := hv8
  have HG8 := hid (grew w8 (.cells #[.slice cb8 cn8 cc8, .slice db8 dn8 dc8, .slice sb8 sn8 sc8, .slice eb8 en8 ec8, .int .i64 (goE sevE 0).base] 33))
  have HX8 := hid (Box.new w8 #[.slice cb8 cn8 cc8, .slice db8 dn8 dc8, .slice sb8 sn8 sc8, .slice eb8 en8 ec8, .int .i64 (goE sevE 0).base] 33)
  have HL8 := hid (hl8.below HG8.out)
  have HT8 := hid (below_deep HT7.out (below_deep hb8 HG8.out))
  clear hl8 hb8 P0 x0 x1 x2 x3 x4 hel HX7 HL7 HG8
  go_upto_region 5 with fail
  generalize w8.alloc (.cells #[.slice cb8 cn8 cc8, .slice db8 dn8 dc8, .slice sb8 sn8 sc8, .slice eb8 en8 ec8, .int .i64 (goE sevE 0).base] 33) = A8 at *
  generalize w8.heap.size = bx at *
  obtain ⟨x0, x1, x2, x3, x4⟩ := HX8.out.cells5
  have hxl : bx < A8.heap.size := HX8.out.lt
  have PL := hid (runAll_calls sev_goodX (by decide) [] _ none 0 0 A8 ⟨_, _, _, _, _, _, _, _, _, _, _, _, rfl, HL8.out⟩ (Lies.none _ _))
  go_wp2_with fail
  refine PL.out.mono ?_
  rintro x w9 ⟨y, dy, hgy, hdy, hy9⟩
  obtain ⟨v9, rfl, hv9, hb9⟩ := own_engTold hy9
  obtain ⟨cb9, cn9, cc9, db9, dn9, dc9, sb9, sn9, sc9, eb9, en9, ec9, rfl, hl9⟩ := hv9
  have HGY := hid hgy
  have HDY := hid (sev_done hgy (fun i hi => hdy i (Nat.zero_le _) hi))
  have HG9 := hid (grew w9 (.cells #[.slice cb9 cn9 cc9, .slice db9 dn9 dc9, .slice sb9 sn9 sc9, .slice eb9 en9 ec9, .int .i64 y.base] 33))
  have HY9 := hid (Box.new w9 #[.slice cb9 cn9 cc9, .slice db9 dn9 dc9, .slice sb9 sn9 sc9, .slice eb9 en9 ec9, .int .i64 y.base] 33)
  have HLY9 := hid (hl9.below HG9.out)
  have HB9 := hid (below_deep hb9 HG9.out)
  have HX9 := hid (HX8.out.below HB9.out)
  have HL9 := hid (HL8.out.below HB9.out)
  have HT9 := hid (below_deep HT8.out HB9.out)
  clear hgy hdy hy9 hl9 hb9 PL x0 x1 x2 x3 x4 hxl HX8 HL8 HG9
  go_upto_region 6 with fail
  generalize w9.alloc (.cells #[.slice cb9 cn9 cc9, .slice db9 dn9 dc9, .slice sb9 sn9 sc9, .slice eb9 en9 ec9, .int .i64 y.base] 33) = A9 at *
  generalize w9.heap.size = by9 at *
  obtain ⟨x0, x1, x2, x3, x4⟩ := HX9.out.cells5
  have hxl : bx < A9.heap.size := HX9.out.lt
  have PX := hid (runReady_calls sev_goodX (by decide) _ A9 ⟨_, _, _, _, _, _, _, _, _, _, _, _, rfl, HL9.out⟩)
  rw [sev_readyX] at PX
  go_wp2_with fail
  refine PX.out.mono ?_
  rintro x w10 ⟨nb10, nn10, nc10, rfl, h10, hb10⟩
  obtain rfl : nn10 = 1 := Ints.count h10
  have HY10 := hid (HY9.out.below hb10)
  have HLY10 := hid (HLY9.out.below hb10)
  have HT10 := hid (below_deep HT9.out hb10)
  clear h10 hb10 PX x0 x1 x2 x3 x4 hxl
  obtain ⟨x0, x1, x2, x3, x4⟩ := HY10.out.cells5
  have hyl : by9 < w10.heap.size := HY10.out.lt
  obtain ⟨b6, o6, rfl, k6⟩ := ends_reg1 HLY10.out.en (j := 1) (by rw [HDY.out.2.2]; decide)
  have hk6 : (y.ends.getD 1 default).2 1 = 4 := HDY.out.1
  rw [hk6] at k6
  have hb6 : b6 < w10.heap.size := by simpa using World.block_lt_of_cell? _ _ k6
  obtain rfl : en9 = 2 := by rw [Ends.count HLY10.out.en, HDY.out.2.2]
  have PZ := hid (runReady_calls HGY.out (by decide) _ w10 ⟨_, _, _, _, _, _, _, _, _, _, _, _, rfl, HLY10.out⟩)
  rw [HDY.out.2.1] at PZ
  go_wp2_with fail
  refine PZ.out.mono ?_
  rintro x w11 ⟨nb11, nn11, nc11, rfl, h11, hb11⟩
  obtain rfl : nn11 = 0 := Ints.count h11
  have HT11 := hid (below_deep HT10.out hb11)
  clear h11 hb11 PZ
  go_wp2
  go_ret
  exact ⟨rfl, HT11.out⟩
end Go.Proofs.YtllhdmhfjahglacGreatDoor

namespace Go.Proofs.YtllhdmhfjahglacGreatDoor
open Go.RowKit

theorem good_made {l : List Row} {D : List Deed3} (h : Right l) (hD : RightDs D) : Good l D 0 (fun _ => false) (fun _ => -1) (addAll (newE l) D) := by
  have := (Good.new h).addAll hD
  simpa using this
theorem addTo_made {e : Eng} {D : List Deed3} (hD : RightDs D) : addTo e D = addAll e D := by
  unfold addTo; rw [if_pos (wDs_of hD)]

set_option maxHeartbeats 8000000 in
set_option maxRecDepth 100000 in
theorem runSame_calls (l : List Row) (D : List Deed3) (Pl : List Int) (lb : Option Addr) (ln lc : Nat) (db : Option Addr) (dn dc : Nat) (pb : Option Addr) (pn pc : Nat) (w : World) (hG : GroundN w)
    (hh : Holds w lb ln lc l) (hsm : Small l) (hd : DeedsIn w db dn dc D) (hp : Ints w pb pn pc Pl) (hn : dn ≤ 1954687338211) :
    Calls Tryz.prog 5 #[.slice lb ln lc, .slice db dn dc, .slice pb pn pc] w fun e w' => e = .returned (.bool true) ∧ Below w.heap.size w w' := by
  have HH := hid hh
  have HSM := hid hsm
  have HD := hid hd
  have HLN := hid hd.len
  have HP := hid hp
  have HAL := hid (rlive_calls w hG)
  have HN := hid hn
  clear hh hsm hd hp hG hn
  go_enter Tryz.func5, Tryz.ntmps5
  go_wp2_with fail
  refine HAL.out.mono ?_
  rintro x w1 ⟨rfl, hb1⟩
  have HB1 := hid hb1
  have HWR := hid (refWrong_holds l lb ln lc w1 HSM.out (HH.out.below hb1))
  clear hb1 HAL
  go_wp2_with fail
  refine HWR.out.mono ?_
  rintro x w2 ⟨rfl, hb2⟩
  have HB2 := hid (below_deep HB1.out hb2)
  clear hb2 HWR
  by_cases hz : wrong l = 0
  · rw [hz]
    have HR := hid (right_of hz)
    have HRD := hid (refRight_calls D db dn dc w2 (HD.out.below HB2.out))
    clear hz
    go_wp2_with fail
    refine HRD.out.mono ?_
    rintro x w3 ⟨rfl, hb3⟩
    have HB3 := hid (below_deep HB2.out hb3)
    clear hb3 HRD
    cases hq : rightsB D with
    | false =>
      clear hq
      go_wp2
      go_ret
      exact ⟨rfl, HB3.out⟩
    | true =>
      have HDR := hid (rights_of hq)
      clear hq
      have RN := hid (refNew_calls l lb ln lc w3 HR.out HSM.out (HH.out.below HB3.out))
      go_wp2_with fail
      refine RN.out.mono ?_
      rintro x w4 ⟨v4, rfl, hv4, hb4⟩
      have HB4 := hid (below_deep HB3.out hb4)
      have RA := hid (refAddE_calls (Good.new HR.out) D (by have := HLN.out; have := HN.out; simp only [List.length_nil]; omega) v4 db dn dc w4 hv4 (HD.out.below HB4.out))
      clear hv4 hb4 RN
      go_wp2_with fail
      refine RA.out.mono ?_
      rintro x w5 ⟨v5, rfl, hv5, hb5⟩
      rw [addTo_made HDR.out] at hv5
      rw [wDs_of HDR.out]
      have HGD := hid (good_made HR.out HDR.out)
      generalize addAll (newE l) D = e at *
      obtain ⟨cb, cn, cc, eb, en, ec, sb, sn, sc, fb, fn, fc, rfl, hl5⟩ := hv5
      have HG5 := hid (grew w5 (.cells #[.slice cb cn cc, .slice eb en ec, .slice sb sn sc, .slice fb fn fc, .int .i64 e.base] 33))
      have HX5 := hid (Box.new w5 #[.slice cb cn cc, .slice eb en ec, .slice sb sn sc, .slice fb fn fc, .int .i64 e.base] 33)
      have HL5 := hid (hl5.below HG5.out)
      have HB5 := hid (below_deep HB4.out (below_deep hb5 HG5.out))
      clear hl5 hb5 RA HG5
      go_upto_region 6 with fail
      generalize w5.alloc (.cells #[.slice cb cn cc, .slice eb en ec, .slice sb sn sc, .slice fb fn fc, .int .i64 e.base] 33) = A5 at *
      generalize w5.heap.size = be at *
      obtain ⟨x0, x1, x2, x3, x4⟩ := HX5.out.cells5
      have hxl : be < A5.heap.size := HX5.out.lt
      have RX := hid (runAll_calls HGD.out (by have := HLN.out; have := HN.out; omega) Pl _ pb pn pc A5 ⟨_, _, _, _, _, _, _, _, _, _, _, _, rfl, HL5.out⟩ (HP.out.below (by decide) HB5.out))
      go_wp2_with fail
      refine RX.out.mono ?_
      rintro x w6 ⟨y, dy, hgy, hdy, hy6⟩
      obtain ⟨v6, rfl, hv6, hb6⟩ := own_engTold hy6
      obtain ⟨cb6, cn6, cc6, db6, dn6, dc6, sb6, sn6, sc6, eb6, en6, ec6, rfl, hl6⟩ := hv6
      have HGY := hid hgy
      have HAD := hid (hgy.all (fun i hi => hdy i (Nat.zero_le _) hi))
      have HG6 := hid (grew w6 (.cells #[.slice cb6 cn6 cc6, .slice db6 dn6 dc6, .slice sb6 sn6 sc6, .slice eb6 en6 ec6, .int .i64 y.base] 33))
      have HX6 := hid (Box.new w6 #[.slice cb6 cn6 cc6, .slice db6 dn6 dc6, .slice sb6 sn6 sc6, .slice eb6 en6 ec6, .int .i64 y.base] 33)
      have HL6 := hid (hl6.below HG6.out)
      have HB6 := hid (below_deep HB5.out (below_deep hb6 HG6.out))
      clear hgy hdy hy6 hl6 hb6 RX HG6 x0 x1 x2 x3 x4 hxl HX5 HL5
      go_upto_region 7 with fail
      generalize w6.alloc (.cells #[.slice cb6 cn6 cc6, .slice db6 dn6 dc6, .slice sb6 sn6 sc6, .slice eb6 en6 ec6, .int .i64 y.base] 33) = A6 at *
      generalize w6.heap.size = bx at *
      have HRA := hid (refAll_calls l D lb ln lc db dn dc A6 (HH.out.below HB6.out) HR.out (HD.out.below HB6.out) HDR.out (by have := HN.out; omega))
      go_wp2_with fail
      refine HRA.out.mono ?_
      rintro x w7 ⟨nb7, nn7, nc7, eb7, en7, ec7, rfl, h7, he7, hb7⟩
      have HX7 := hid (HX6.out.below hb7)
      have HL7 := hid (HL6.out.below hb7)
      have HH7 := hid h7
      have HB7 := hid (below_deep HB6.out hb7)
      have HE7 : Hid (Ends w7 eb6 en6 ec6 (endsD l D)) := by
        have := HL7.out.en
        rw [HAD.out.ends] at this
        exact this
      have HSN : Hid (sn6 = dn) := by
        have h1 := Ints.count HL7.out.st
        have h2 := HAD.out.len
        have h3 := HLN.out
        show _ = _
        omega
      obtain rfl : sn6 = dn := HSN.out
      have PSE := hid (sameEnds_calls (endsD l D) eb6 en6 ec6 eb7 en7 ec7 w7 HE7.out he7)
      obtain ⟨x0, x1, x2, x3, x4⟩ := HX7.out.cells5
      have hxl : bx < w7.heap.size := HX7.out.lt
      clear h7 he7 hb7 HRA HX6 HL6 HE7 HSN
      go_wp2_with fail
      refine PSE.out.mono ?_
      rintro x w8 ⟨rfl, hb8⟩
      have HX8 := hid (HX7.out.below hb8)
      have HL8 := hid (HL7.out.below hb8)
      have HH8 := hid (HH7.out.below hb8)
      have HB8 := hid (below_deep HB7.out hb8)
      clear hb8 PSE x0 x1 x2 x3 x4 hxl HX7 HL7 HH7
      obtain ⟨x0, x1, x2, x3, x4⟩ := HX8.out.cells5
      have hxl : bx < w8.heap.size := HX8.out.lt
      have hsm : sn6 ≤ 1954687338211 := HN.out
      go_wp2
      go_loopw [58] (fun i wr => ∃ j : Nat, j ≤ sn6 ∧ i = .int .i64 j ∧ Hid (wr = w8)) (fun i _ => sn6 - (intOf i).toNat)
      case atStart => exact ⟨0, Nat.zero_le _, rfl, rfl⟩
      case round =>
        obtain ⟨j, hj, rfl, HWW⟩ := hrel
        obtain rfl := HWW.out
        by_cases hlt : j < sn6
        · have hi : (j : Int) < (sn6 : Int) := by omega
          have hjs : j < y.state.length := by rw [← Ints.count HL8.out.st]; exact hlt
          obtain ⟨b1, o1, rfl, hr1⟩ : ∃ b1 o1, sb6 = some ⟨b1, o1, none⟩ ∧ Run wr b1 o1 (intsC y.state) := by
            rcases HL8.out.st.run with h | h
            · omega
            · exact h
          have k0 := hr1 j _ (intsC_at hjs)
          have h1 : y.state.getD j 0 = 1 := HAD.out.state _ (by simp [List.getD, hjs])
          rw [h1] at k0
          have hb1 : b1 < wr.heap.size := by simpa using World.block_lt_of_cell? _ _ k0
          clear hr1 h1
          go_wp2
          go_roundw
          case rel => exact ⟨j + 1, by omega, by go_num, trivial⟩
          case measure => simp [intOf]; omega
        · obtain rfl : j = sn6 := by omega
          have HRC : Hid (rowsC y.chains (j : Int) = some (allD l D)) := by
            have := HAD.out.rows j (by have := HLN.out; omega)
            rw [List.take_of_length_le (by have := HLN.out; omega)] at this
            exact this
          have PRA := hid (refRowsAt_calls y.chains cb6 cn6 cc6 (j : Int) wr (HGY.out.fit (by have := HLN.out; have := HN.out; omega)) HL8.out.ch)
          unfold RowsTold at PRA
          rw [HRC.out] at PRA
          go_wp2_with fail
          refine PRA.out.mono ?_
          rintro x w9 ⟨b9, n9, c9, ok, rfl, rfl, h9, hb9⟩
          have HSA := hid (same_holds (allD l D) b9 nb7 n9 nn7 c9 nc7 w9 h9 (HH8.out.below hb9))
          have HB9 := hid (below_deep HB8.out hb9)
          clear h9 hb9 PRA
          simp only [Option.isSome_some]
          go_wp2_with fail
          refine HSA.out.mono ?_
          rintro x w10 ⟨rfl, hb10⟩
          have HB10 := hid (below_deep HB9.out hb10)
          clear hb10 HSA
          go_wp2
          go_ret
          exact ⟨rfl, HB10.out⟩
  · have t := ne_true hz
    clear hz
    generalize wrong l = q at *
    go_wp2
    go_ret
    exact ⟨rfl, HB2.out⟩
end Go.Proofs.YtllhdmhfjahglacGreatDoor
