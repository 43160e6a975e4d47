/-
  The program's Add of plans.
  Needs of the program's plans, walked.
-/
import Derived.Test.YtlhaeeenkgkdaaaGreatDoorPlanAdd
namespace Go.Proofs.YtlhaeeenkgkdaaaGreatDoor
open Go.RowKit

theorem planAdd_results (tmps : Array Value) (b : Nat) (w : World) {a0 a1 a2 a3 : Option Addr} {n0 n1 n2 n3 c0 c1 c2 c3 : Nat} {z q : Int} (h : tmps.getD 4 undef = .pointer (some ⟨b, 0, none⟩)) (h5 : tmps.getD 5 undef = .int .i64 q) (hb : Box w b #[.slice a0 n0 c0, .slice a1 n1 c1, .slice a2 n2 c2, .slice a3 n3 c3, .int .i64 z] 33) :
   (results Tryz.f52 tmps).run Tryz.prog w = .ok (.tuple #[.agg #[.slice a0 n0 c0, .slice a1 n1 c1, .slice a2 n2 c2, .slice a3 n3 c3, .int .i64 z], .int .i64 q]) w := by
 have h' : tmps[4]?.getD undef = .pointer (some ⟨b, 0, none⟩) := by simpa using h
 have h5' : tmps[5]?.getD undef = .int .i64 q := by simpa using h5
 obtain ⟨k0, k1, k2, k3, k4⟩ := hb.cells5
 simp [results, Tryz.results52, go_sem, h', h5', k0, k1, k2, k3, k4]

def AddToldK (w w' : World) (e : Eng) (l : List Deed3) (x : Ending) : Prop := AddTold w w' e l x ∧ (RightDs l → ∃ B cb cn cc v1 v2 v3, x = .returned (.tuple #[.agg #[.slice cb cn cc, v1, v2, v3, .int .i64 e.base], .int .i64 0]) ∧ EngOwn w' B cb cn cc v1 v2 v3 (addAll e l))

set_option maxHeartbeats 16000000 in
set_option maxRecDepth 100000 in
theorem planAdd_callsK {r0 : List Row} {D : List Deed3} {m : Nat} {dq : Nat → Bool} {bq : ByteArray → Int} {e : Eng} (G : Good r0 D m dq bq e) (l : List Deed3) (hD : D.length + l.length ≤ 1954687338211) (v : Value) (lb : Option Addr) (ln lc : Nat) (w : World) (hv : EngIn w v e) (hl0 : DeedsIn w lb ln lc l) :
   Calls Tryz.prog 52 #[v, .slice lb ln lc] w fun x w' => AddToldK w w' e l x := by
 obtain ⟨cb, cn, cc, db, dn, dc, sb, sn, sc, eb, en, ec, rfl, hl⟩ := hv
 have hle := G.le
 have hz0 : 0 ≤ e.base := by rw [G.base]; omega
 have hz1 : e.base ≤ 1954687338211 := by rw [G.base]; omega
 have hlm : ln ≤ 1954687338211 := by rw [hl0.len]; omega
 have HG := hid G
 have HDL := hid hD
 have HLN := hid hl0.len
 have HBX := hid (Box.new w #[.slice cb cn cc, .slice db dn dc, .slice sb sn sc, .slice eb en ec, .int .i64 e.base] 33)
 have HB0 := hid (grew w (.cells #[.slice cb cn cc, .slice db dn dc, .slice sb sn sc, .slice eb en ec, .int .i64 e.base] 33))
 have HBZ := hid (Box.new (w.alloc (.cells #[.slice cb cn cc, .slice db dn dc, .slice sb sn sc, .slice eb en ec, .int .i64 e.base] 33)) #[.slice none 0 0, .slice none 0 0, .slice none 0 0, .slice none 0 0, .int .i64 0] 33)
 have HB1 := hid (grew (w.alloc (.cells #[.slice cb cn cc, .slice db dn dc, .slice sb sn sc, .slice eb en ec, .int .i64 e.base] 33)) (.cells #[.slice none 0 0, .slice none 0 0, .slice none 0 0, .slice none 0 0, .int .i64 0] 33))
 rw [World.size_alloc] at HBZ
 have HX := hid (HBX.out.below HB1.out)
 have HBW := hid (below_deep HB0.out HB1.out)
 have HL := hid (hl.below HBW.out)
 have HLL := hid (hl0.below HBW.out)
 have HL00 := hid hl0
 clear G hD hl hl0 hle HBX HB0 HB1
 go_enter Tryz.func52, Tryz.ntmps52
 go_wp2
 generalize (w.alloc (.cells #[.slice cb cn cc, .slice db dn dc, .slice sb sn sc, .slice eb en ec, .int .i64 e.base] 33)).alloc (.cells #[.slice none 0 0, .slice none 0 0, .slice none 0 0, .slice none 0 0, .int .i64 0] 33) = A at *
 go_loopw [14] (fun i wr => ∃ j : Nat, j ≤ ln ∧ i = .int .i64 j ∧ Hid (RightDs (l.take j)) ∧ Hid (Below A.heap.size A wr)) (fun i _ => ln - (intOf i).toNat)
 case atStart => exact ⟨0, Nat.zero_le _, rfl, (fun _ h => by cases h), Below.refl _ _⟩
 case round =>
   obtain ⟨j, hj, rfl, HR, HBR⟩ := hrel
   by_cases hlt : j < ln
   · have hjl : j < l.length := by rw [← HLN.out]; exact hlt
     have hi : (j : Int) < (ln : Int) := by omega
     obtain ⟨b1, o1, rfl, hrun⟩ : ∃ b1 o1, lb = some ⟨b1, o1, none⟩ ∧ ∀ i, i < ln → DeedHere wr b1 (o1 + i * 3) (l.getD i default) := by
       rcases (HLL.out.below HBR.out).run with h | h
       · omega
       · exact h
     obtain ⟨rb, rn, rc, wb, wn, wc, xb, xn, xc, k0, k1, k2, hdi, hs1, hs2⟩ := hrun j hlt
     have hb1w : b1 < wr.heap.size := by simpa using World.block_lt_of_cell? _ _ k0
     have HGW := hid (grew wr (.cells #[.slice rb rn rc, .slice wb wn wc, .slice xb xn xc] 44))
     have HW := hid (wrongDeed_calls (l.getD j default).1 (l.getD j default).2.1 (l.getD j default).2.2 rb rn rc wb wn wc xb xn xc _ (hdi.below HGW.out) hs1 hs2)
     have HN1 := hid (rights_next hjl HR.out)
     have HN2 := hid (wDs_first hjl HR.out)
     clear hdi hs1 hs2 hrun
     generalize wDeed (l.getD j default).1 (l.getD j default).2.1 (l.getD j default).2.2 = q at *
     go_wp2_with fail
     refine HW.out.mono ?_
     rintro x w2 ⟨rfl, hb2⟩
     have HB2 := hid (below_deep HBR.out (below_deep HGW.out hb2))
     clear hb2 HW
     by_cases hq : q = 0
     · subst hq
       have HN := hid (HN1.out rfl)
       go_wp2
       go_roundw
       case rel => exact ⟨j + 1, by omega, by go_num, HN, HB2⟩
       case measure => simp [intOf]; omega
     · have HQ : Hid (wDs l = q ∧ addTo e l = zeroEng ∧ q ≠ 0) := by
         have h1 := HN2.out hq
         refine ⟨h1, ?_, hq⟩
         unfold addTo; rw [if_neg (by rw [h1]; exact hq)]
       have t := ne_true hq
       obtain ⟨z0, z1, z2, z3, z4⟩ := (HBZ.out.below HB2.out).cells5
       obtain ⟨f0, f1, f2, f3, f4⟩ := (HBZ.out.below HB2.out).free5
       have hzl : w.heap.size + 1 < w2.heap.size := (HBZ.out.below HB2.out).lt
       have HBF := hid (put5_box (HBZ.out.below HB2.out) (.slice none 0 0) (.slice none 0 0) (.slice none 0 0) (.slice none 0 0) (.int .i64 0))
       have HBE := hid (put5_below (below_deep HBW.out HB2.out) (Nat.le_succ _) (.slice none 0 0) (.slice none 0 0) (.slice none 0 0) (.slice none 0 0) (.int .i64 0))
       have HZ := hid (zero_lies (put5 w2 (w.heap.size + 1) (.slice none 0 0) (.slice none 0 0) (.slice none 0 0) (.slice none 0 0) (.int .i64 0)))
       unfold put5 at HBF HBE HZ
       clear hq
       go_wp2
       (try simp only [Exit.inBlock, Exit.then])
       refine bodyPost_ret (planAdd_results _ (w.heap.size + 1) _ rfl rfl HBF.out) rfl ?_
       refine ⟨⟨_, by rw [HQ.out.1], ?_, HBE.out⟩, fun hr => absurd (wDs_of hr) (by rw [HQ.out.1]; exact HQ.out.2.2)⟩
       rw [HQ.out.2.1]
       exact ⟨_, _, _, _, _, _, _, _, _, _, _, _, rfl, HZ.out⟩
   · obtain rfl : j = ln := by omega
     have HRL : Hid (RightDs l) := by
       have := HR.out
       rw [List.take_of_length_le (by rw [← HLN.out]; exact Nat.le_refl _)] at this
       exact this
     have HX1 := hid (HX.out.below HBR.out)
     have HZ1 := hid (HBZ.out.below HBR.out)
     have HL1 := hid (HL.out.below HBR.out)
     have HB1 := hid (below_deep HBW.out HBR.out)
     have HLW := hid (HLL.out.below HBR.out)
     have hDe : D.length ≤ 1954687338211 := by have := HDL.out; omega
     have HOWN := hid (planOwn_calls HG.out hDe _ wr ⟨_, _, _, _, _, _, _, _, _, _, _, _, rfl, HL1.out⟩)
     obtain ⟨x0, x1, x2, x3, x4⟩ := HX1.out.cells5
     have hxl : w.heap.size < wr.heap.size := HX1.out.lt
     clear HR HX HBZ HL HLL HBW HBR hj hDe
     go_wp2_with fail
     generalize wr = wA at *
     refine HOWN.out.mono ?_
     rintro x w2 ⟨cb2, cn2, cc2, v1, v2, v3, rfl, he2, hb2⟩
     obtain ⟨db2, dc2, sb2, sc2, eb2, ec2, rfl, rfl, rfl, -⟩ := he2.lies
     have HX2 := hid (Box.new w2 #[.slice cb2 cn2 cc2, .slice db2 e.deeds.length dc2, .slice sb2 e.state.length sc2, .slice eb2 e.ends.length ec2, .int .i64 e.base] 33)
     have HE2 := hid (he2.below (grew w2 (.cells #[.slice cb2 cn2 cc2, .slice db2 e.deeds.length dc2, .slice sb2 e.state.length sc2, .slice eb2 e.ends.length ec2, .int .i64 e.base] 33)))
     have HB2 := hid (hb2.alloc hb2.size (.cells #[.slice cb2 cn2 cc2, .slice db2 e.deeds.length dc2, .slice sb2 e.state.length sc2, .slice eb2 e.ends.length ec2, .int .i64 e.base] 33))
     have hnb := hb2.size
     clear he2 hb2 HOWN x0 x1 x2 x3 x4 hxl HX1 HL1
     go_wp2
     generalize w2.alloc (.cells #[.slice cb2 cn2 cc2, .slice db2 e.deeds.length dc2, .slice sb2 e.state.length sc2, .slice eb2 e.ends.length ec2, .int .i64 e.base] 33) = wS at *
     generalize w2.heap.size = nb at *
     go_loopw [29] (fun i wr => ∃ (q : Nat) (cb : Option Addr) (cn cc : Nat) (v1 v2 v3 : Value), q ≤ j ∧ i = .int .i64 q ∧ Hid (Box wr nb #[.slice cb cn cc, v1, v2, v3, .int .i64 e.base] 33) ∧ Hid (EngOwn wr wA.heap.size cb cn cc v1 v2 v3 (addAll e (l.take q))) ∧ Hid (Below wA.heap.size wA wr)) (fun i _ => j - (intOf i).toNat)
     case atStart => exact ⟨0, cb2, cn2, cc2, _, _, _, Nat.zero_le _, rfl, HX2, HE2, HB2⟩
     case round =>
       clear HX2 HE2 HB2
       obtain ⟨q, cb3, cn3, cc3, v1, v2, v3, hq, rfl, HX, HE, HBR⟩ := hrel
       obtain ⟨db3, dc3, sb3, sc3, eb3, ec3, rfl, rfl, rfl, -⟩ := HE.out.lies
       by_cases hlt : q < j
       · have hjl : q < l.length := by rw [← HLN.out]; exact hlt
         have hi : (q : Int) < (j : Int) := by omega
         have HGq := hid (HG.out.addAll (l := l.take q) (rights_take HRL.out q))
         have HBQ : Hid ((addAll e (l.take q)).base = e.base) := addAll_base e _
         have HNX : Hid (addAll e (l.take (q + 1)) = addD (addAll e (l.take q)) (l.getD q default)) := by
           show _ = _
           rw [take_snoc_getD hjl, addAll_snoc]
         have HRD := hid (rights_at HRL.out hjl)
         have hDq : (D ++ l.take q).length ≤ 1954687338211 := by
           rw [List.length_append, List.length_take]; have := HDL.out; omega
         obtain ⟨b1, o1, rfl, hrun⟩ : ∃ b1 o1, lb = some ⟨b1, o1, none⟩ ∧ ∀ i, i < j → DeedHere wr b1 (o1 + i * 3) (l.getD i default) := by
           rcases (HLW.out.below HBR.out).run with h | h
           · omega
           · exact h
         obtain ⟨rb, rn, rc, wb, wn, wc, xb, xn, xc, k0, k1, k2, hdi, hs1, hs2⟩ := hrun q hlt
         have hb1w : b1 < wr.heap.size := by simpa using World.block_lt_of_cell? _ _ k0
         have HFR := hid (few_rights HRD.out hdi)
         have HSM := hid (And.intro hs1 hs2)
         have PBH := hid (fun rb rn rc wb wn wc xb xn xc W he hd hB => behind_calls HGq.out hDq HRD.out wA.heap.size cb3 cn3 cc3 (.slice db3 (addAll e (l.take q)).deeds.length dc3) (.slice sb3 (addAll e (l.take q)).state.length sc3) (.slice eb3 (addAll e (l.take q)).ends.length ec3) rb rn rc wb wn wc xb xn xc W he hd hB)
         rw [HBQ.out] at PBH
         clear hrun
         generalize l.getD q default = d at *
         generalize addAll e (l.take q) = ej at *
         have HBA : Hid ((addD ej d).base = e.base) := HBQ.out
         have POD := hid (fun W hd => own_callsK d.1 d.2.1 d.2.2 rb rn rc wb wn wc xb xn xc W hd HFR.out.1 HFR.out.2.1 HFR.out.2.2)
         have HGW := hid (grew wr (.cells #[.slice rb rn rc, .slice wb wn wc, .slice xb xn xc] 44))
         have HBD := hid (Box.new wr #[.slice rb rn rc, .slice wb wn wc, .slice xb xn xc] 44)
         have HXA := hid (HX.out.below HGW.out)
         have HEA := hid (HE.out.below HGW.out)
         have HDA := hid (hdi.below HGW.out)
         have HBA3 := hid (below_deep HBR.out HGW.out)
         clear hdi hs1 hs2 hDq HX HE HBR HGW HGq HBQ HRD
         go_upto_region 12 with fail
         generalize wr.alloc (.cells #[.slice rb rn rc, .slice wb wn wc, .slice xb xn xc] 44) = A3 at *
         generalize wr.heap.size = bd at *
         obtain ⟨c0, c1, c2, c3, c4⟩ := HXA.out.cells5
         have y0 := HBD.out.cell 0 _ rfl
         have y1 := HBD.out.cell 1 _ rfl
         have y2 := HBD.out.cell 2 _ rfl
         have hxl : nb < A3.heap.size := HXA.out.lt
         have hyl : bd < A3.heap.size := HBD.out.lt
         have HDr := hid (step_drew (Below.refl A3.heap.size A3))
         go_region_with (first
           | (go_at_call 69; refine (POD.out _ ?_).mono ?_; (with_reducible exact HDA.out.below HDr.out); rintro x w5 ⟨rb5, rc5, wb5, wc5, xb5, xc5, rfl, hdi5, hb5, kr5, kw5, kc5⟩; have hb5' : Below A3.heap.size A3 w5 := (by with_reducible exact below_deep HDr.out hb5); have HX5 := hid (HXA.out.below hb5'); obtain ⟨c0', c1', c2', c3', c4'⟩ := HX5.out.cells5; have hxl' : nb < w5.heap.size := HX5.out.lt)
           | (go_at_call 75; refine (PBH.out _ _ _ _ _ _ _ _ _ w5 (HEA.out.below hb5') ⟨⟨hdi5, HSM.out⟩, kr5, kw5, kc5⟩ (Nat.le_trans HBA3.out.size hb5'.size)).mono ?_; rintro x w7 ⟨⟨cb7, cn7, cc7, u1, u2, u3, hx7, he7, hb7⟩, hk7⟩; rw [HBA.out] at hx7; obtain ⟨db7, dc7, sb7, sc7, eb7, ec7, hu1, hu2, hu3, -⟩ := he7.lies; subst hu1; subst hu2; subst hu3; subst hx7; have HX7 := hid (hk7 nb _ _ HX5.out (by decide) (by decide) (by decide)); obtain ⟨g0, g1, g2, g3, g4⟩ := HX7.out.cells5; obtain ⟨f0, f1, f2, f3, f4⟩ := HX7.out.free5; have hxl7 : nb < w7.heap.size := HX7.out.lt))
         all_goals
           have HB7 := hid (put5_below ((HBA3.out.trans (below_lowerB hb5' HBA3.out.size)).trans hb7) hnb (.slice cb7 cn7 cc7) (.slice db7 (addD ej d).deeds.length dc7) (.slice sb7 (addD ej d).state.length sc7) (.slice eb7 (addD ej d).ends.length ec7) (.int .i64 e.base))
           have HXF := hid (put5_box HX7.out (.slice cb7 cn7 cc7) (.slice db7 (addD ej d).deeds.length dc7) (.slice sb7 (addD ej d).state.length sc7) (.slice eb7 (addD ej d).ends.length ec7) (.int .i64 e.base))
           have HEF := hid (he7.put HX7.out (put5_off w7 nb (.slice cb7 cn7 cc7) (.slice db7 (addD ej d).deeds.length dc7) (.slice sb7 (addD ej d).state.length sc7) (.slice eb7 (addD ej d).ends.length ec7) (.int .i64 e.base)))
           unfold put5 at HB7 HXF HEF
           clear he7 hk7 hb7 hb5 hb5' hdi5 kr5 kw5 kc5 POD PBH HX5 HX7
           go_wp2
           go_roundw
           case rel =>
             refine ⟨q + 1, cb7, cn7, cc7, _, _, _, by omega, by go_num, HXF, ?_, HB7⟩
             show EngOwn _ _ _ _ _ _ _ _ _
             rw [HNX.out]
             exact HEF.out
           case measure => simp [intOf]; omega
       · obtain rfl : q = j := by omega
         have HQ : Hid (wDs l = 0 ∧ addTo e l = addAll e l) := by
           have h1 := wDs_of HRL.out
           refine ⟨h1, ?_⟩
           unfold addTo; rw [if_pos h1]
         have HTD : Hid (l.take q = l) := List.take_of_length_le (by rw [← HLN.out]; exact Nat.le_refl _)
         rw [HTD.out] at HX HE
         have HBS : Hid ((addAll e l).base = e.base) := addAll_base e l
         have HZR := hid (HZ1.out.below HBR.out)
         have HBT := hid (below_deep HB1.out HBR.out)
         obtain ⟨x0, x1, x2, x3, x4⟩ := HX.out.cells5
         obtain ⟨z0, z1, z2, z3, z4⟩ := HZR.out.cells5
         obtain ⟨f0, f1, f2, f3, f4⟩ := HZR.out.free5
         have hxl : nb < wr.heap.size := HX.out.lt
         have hzl : w.heap.size + 1 < wr.heap.size := HZR.out.lt
         have HBF := hid (put5_box HZR.out (.slice cb3 cn3 cc3) (.slice db3 (addAll e l).deeds.length dc3) (.slice sb3 (addAll e l).state.length sc3) (.slice eb3 (addAll e l).ends.length ec3) (.int .i64 e.base))
         have HEF := hid (HE.out.put HZR.out (put5_off wr (w.heap.size + 1) (.slice cb3 cn3 cc3) (.slice db3 (addAll e l).deeds.length dc3) (.slice sb3 (addAll e l).state.length sc3) (.slice eb3 (addAll e l).ends.length ec3) (.int .i64 e.base)))
         have HBL := hid (put5_below HBT.out (Nat.le_succ _) (.slice cb3 cn3 cc3) (.slice db3 (addAll e l).deeds.length dc3) (.slice sb3 (addAll e l).state.length sc3) (.slice eb3 (addAll e l).ends.length ec3) (.int .i64 e.base))
         have HV : Hid (EngIn (put5 wr (w.heap.size + 1) (.slice cb3 cn3 cc3) (.slice db3 (addAll e l).deeds.length dc3) (.slice sb3 (addAll e l).state.length sc3) (.slice eb3 (addAll e l).ends.length ec3) (.int .i64 e.base)) (.agg #[.slice cb3 cn3 cc3, .slice db3 (addAll e l).deeds.length dc3, .slice sb3 (addAll e l).state.length sc3, .slice eb3 (addAll e l).ends.length ec3, .int .i64 e.base]) (addAll e l)) := by
           obtain ⟨db9, dc9, sb9, sc9, eb9, ec9, e1, e2, e3, h9⟩ := HEF.out.lies
           injection e1 with a1 _ a3
           injection e2 with a4 _ a6
           injection e3 with a7 _ a9
           subst a1 a3 a4 a6 a7 a9
           exact ⟨_, _, _, _, _, _, _, _, _, _, _, _, by rw [HBS.out], h9⟩
         unfold put5 at HBF HBL HV HEF
         clear HE
         go_wp2
         refine bodyPost_ret (planAdd_results _ (w.heap.size + 1) _ rfl rfl HBF.out) rfl ?_
         refine ⟨⟨_, by rw [HQ.out.1], ?_, HBL.out⟩, fun _ => ⟨_, _, _, _, _, _, _, rfl, HEF.out⟩⟩
         rw [HQ.out.2]
         exact HV.out
end Go.Proofs.YtlhaeeenkgkdaaaGreatDoor

namespace Go.Proofs.YtlhaeeenkgkdaaaGreatDoor
open Go.RowKit Go.Shelf

theorem four_end {wr w2 : World} {blk : Nat} {y0 y : Int} {m0 h0 mm hh : Bool} {x0 n2 : Int} (h : Four w2 blk y0 m0 h0 x0) (hb : Below wr.heap.size wr w2) (hB : wr.heap.size ≤ blk) :
   Four ((((w2.setCell ⟨blk, 0, none⟩ (.int .i64 y)).setCell ⟨blk, 1, none⟩ (.bool mm)).setCell ⟨blk, 2, none⟩ (.bool hh)).setCell ⟨blk, 3, none⟩ (.int .i64 n2)) blk y mm hh n2 ∧ Below wr.heap.size wr ((((w2.setCell ⟨blk, 0, none⟩ (.int .i64 y)).setCell ⟨blk, 1, none⟩ (.bool mm)).setCell ⟨blk, 2, none⟩ (.bool hh)).setCell ⟨blk, 3, none⟩ (.int .i64 n2)) :=
 ⟨h.put y mm hh n2, four_below hb hB⟩

set_option maxHeartbeats 16000000 in
set_option maxRecDepth 100000 in
theorem planNeeds_calls {r0 : List Row} {D : List Deed3} {m : Nat} {dq : Nat → Bool} {bq : ByteArray → Int} {e : Eng} (G : Good r0 D m dq bq e) (hD : D.length ≤ 1954687338211) (p : Nat) (hp : m + p < D.length) (v : Value) (w : World) (hv : EngIn w v e) :
   Calls Tryz.prog 79 #[v, .int .i64 p] w fun x w' => IntsTold w w' (ints (needsE e p)) x := by
 obtain ⟨cb, cn, cc, db, dn, dc, sb, sn, sc, eb, en, ec, rfl, hl⟩ := hv
 have hle := G.le
 have hpl : p < e.deeds.length := by rw [G.len]; omega
 have hpn : p < dn := by rw [hl.de.len]; exact hpl
 have hz0 : 0 ≤ e.base := by rw [G.base]; omega
 have hz1 : e.base ≤ 1954687338211 := by rw [G.base]; omega
 have hp1 : p ≤ 1954687338211 := by omega
 have hpi : (p : Int) < (dn : Int) := by omega
 have hRD : RightDD (e.deeds.getD p default) := by rw [G.deed]; exact rights_at G.right hp
 have HFIT := hid (G.fit hD)
 have HRD := hid hRD
 have HKL := hid (keysD_len hRD)
 have HSEEN : Hid (∀ k, (before e.chains k (e.base + p)).made = false → 0 ≤ (before e.chains k (e.base + p)).by_ ∧ (before e.chains k (e.base + p)).by_ ≤ 1954687338211) := fun k hm => by
   have hs := G.seen (n := p) (by omega) k
   rw [← G.at_] at hs
   obtain ⟨i, _, h2, _, _, hv⟩ := hs.no hm
   rw [hv]
   show 0 ≤ (i : Int) ∧ (i : Int) ≤ 1954687338211
   omega
 have HFIN := hid (needs_prog G hp)
 have HBX := hid (Box.new w #[.slice cb cn cc, .slice db dn dc, .slice sb sn sc, .slice eb en ec, .int .i64 e.base] 33)
 have HBA := hid (grew w (.cells #[.slice cb cn cc, .slice db dn dc, .slice sb sn sc, .slice eb en ec, .int .i64 e.base] 33))
 have HL := hid (hl.below HBA.out)
 have hdm := Nat.le_trans hl.de.hdr.le hl.de.hdr.max
 unfold maxLen at hdm
 have HNK : Hid (∀ k, needK e p k = if (before e.chains k (e.base + p)).made = true then [] else [(before e.chains k (e.base + p)).by_ - e.base]) := fun _ => rfl
 clear G hD hp hle hl hRD hpl
 go_enter Tryz.func79, Tryz.ntmps79
 go_upto_region 1 with fail
 generalize w.alloc (.cells #[.slice cb cn cc, .slice db dn dc, .slice sb sn sc, .slice eb en ec, .int .i64 e.base] 33) = A at *
 have t1 : decide ((p : Int) < 0) = false := by simp
 have t2 : decide ((dn : Int) ≤ (p : Int)) = false := by simp; omega
 have t3 : decide (dn ≤ p) = false := by simp; omega
 have x1 := HBX.out.cells5.2.1
 have hxl : w.heap.size < A.heap.size := HBX.out.lt
 obtain ⟨b1, o1, rfl, hrun⟩ : ∃ b1 o1, db = some ⟨b1, o1, none⟩ ∧ ∀ i, i < dn → DeedHere A b1 (o1 + i * 3) (e.deeds.getD i default) := by
   rcases HL.out.de.run with h | h
   · omega
   · exact h
 obtain ⟨rb, rn, rc, wb, wn, wc, xb, xn, xc, k0, k1, k2, hdi, hs1, hs2⟩ := hrun p hpn
 have hb1 : b1 < A.heap.size := by simpa using World.block_lt_of_cell? _ _ k0
 have PK := hid (planKeys_calls (e.deeds.getD p default) rb rn rc wb wn wc xb xn xc A hdi HRD.out)
 clear hrun hdi hs1 hs2
 go_wp2_with fail
 refine PK.out.mono ?_
 rintro x w1 ⟨kb, kn, kc, rfl, hk1, hb1'⟩
 have HB1 := hid hb1'
 have HKT := hid hk1
 have HKN := hid (Texts.count hk1)
 have hkn : kn ≤ 10 := by rw [Texts.count hk1]; exact HKL.out
 clear hk1 hb1' PK k0 k1 k2 x1 t1 t2 t3 hxl
 generalize keysD (e.deeds.getD p default) = K at *
 go_wp2
 go_loopw [5, 25] (fun ov i wr => ∃ q r : Nat, q ≤ kn ∧ r ≤ q ∧ i = .int .i64 q ∧ Hid ((needP e p (K.take q)).length = r) ∧ Hid (wr.ownsRow w1.heap.size 3 1 ov r (intsC (needP e p (K.take q)))) ∧ Hid (Below w1.heap.size w1 wr)) (fun _ i _ => kn - (intOf i).toNat)
 case atStart => exact ⟨0, 0, Nat.zero_le _, Nat.le_refl _, rfl, rfl, World.ownsRow_nil _ _ _ _, Below.refl _ _⟩
 case round =>
   obtain ⟨q, r, hq, hr, rfl, HR, HO, HBR⟩ := hrel
   have HBAR := hid (below_deep HB1.out HBR.out)
   by_cases hql : q < kn
   · have hqK : q < K.length := by rw [← HKN.out]; exact hql
     have hiq : (q : Int) < (kn : Int) := by omega
     obtain ⟨b2, o2, rfl, hr2⟩ : ∃ b2 o2, kb = some ⟨b2, o2, none⟩ ∧ Run wr b2 o2 (strs K) := by
       rcases (HKT.out.below (by decide) HBR.out).run with h | h
       · omega
       · exact h
     have d0 := hr2 q _ (strs_at hqK)
     have hb2w : b2 < wr.heap.size := by simpa using World.block_lt_of_cell? _ _ d0
     have HXR := hid (HBX.out.below HBAR.out)
     have HLR := hid (HL.out.below HBAR.out)
     have hxr : w.heap.size < wr.heap.size := HXR.out.lt
     have HTK : Hid (needP e p (K.take (q + 1)) = needP e p (K.take q) ++ needK e p (K.getD q default)) := by
       show _ = _
       rw [take_snoc_getD hqK, needP_snoc]
     have HSK := hid (HSEEN.out (K.getD q default))
     have HNKq := hid (HNK.out (K.getD q default))
     have PNU := hid (fun W => number_calls6 cb cn cc (some ⟨b1, o1, none⟩) dn dc sb sn sc eb en ec e.base p W hz0 hz1 (by omega) (by omega))
     have PBE := hid (fun W hc => before_calls e.chains cb cn cc (K.getD q default) (e.base + p) W HFIT.out hc)
     clear hr2
     generalize needP e p (K.take q) = F at *
     generalize K.getD q default = k at *
     go_upto_region 7 with fail
     go_cut [8] (fun pv wx => ∃ blk y mm hh n2, pv = .pointer (some ⟨blk, 0, none⟩) ∧ Hid (before e.chains k (e.base + p) = (y, mm, hh, n2)) ∧ Hid (Four wx blk y mm hh n2) ∧ Hid (Below wr.heap.size wr wx))
     case first =>
       have HK : Hid (∀ w', Below wr.heap.size wr w' → (w'.cell? ⟨w.heap.size, 0, none⟩ = some (.slice cb cn cc) ∧ w'.cell? ⟨w.heap.size, 1, none⟩ = some (.slice (some ⟨b1, o1, none⟩) dn dc) ∧ w'.cell? ⟨w.heap.size, 2, none⟩ = some (.slice sb sn sc) ∧ w'.cell? ⟨w.heap.size, 3, none⟩ = some (.slice eb en ec) ∧ w'.cell? ⟨w.heap.size, 4, none⟩ = some (.int .i64 e.base) ∧ Below wr.heap.size wr w')) := fun w' hb => ⟨(HXR.out.below hb).cell 0 _ rfl, (HXR.out.below hb).cell 1 _ rfl, (HXR.out.below hb).cell 2 _ rfl, (HXR.out.below hb).cell 3 _ rfl, (HXR.out.below hb).cell 4 _ rfl, hb⟩
       go_region_held3 (fun w' => w'.cell? ⟨w.heap.size, 0, none⟩ = some (.slice cb cn cc) ∧ w'.cell? ⟨w.heap.size, 1, none⟩ = some (.slice (some ⟨b1, o1, none⟩) dn dc) ∧ w'.cell? ⟨w.heap.size, 2, none⟩ = some (.slice sb sn sc) ∧ w'.cell? ⟨w.heap.size, 3, none⟩ = some (.slice eb en ec) ∧ w'.cell? ⟨w.heap.size, 4, none⟩ = some (.int .i64 e.base) ∧ Below wr.heap.size wr w')
         (first
           | exact HK.out _ (step_drew (Below.refl _ _))
           | exact HK.out _ (step_box (hold5 (by assumption)) _)
           | exact HK.out _ (by assumption)
           | exact HK.out _ (step_box (by assumption) _)
           | exact HK.out _ (four_below (hold5 (by assumption)) (by omega))
           | exact HK.out _ (four_below (step_box (hold5 (by assumption)) _) (by omega)))
         (first
           | (go_at_call 81; refine (PBE.out _ (HLR.out.ch.below (hold5 (by assumption)))).mono ?_; rintro x w3 ⟨y, mm, hh, n2, hbf, rfl, hb3⟩; have hb3' := below_deep (hold5 (by assumption)) hb3; have hsz3 := hb3'.size; (first | (have FF : Four w3 wr.heap.size 0 false false 0 := ((Four.box wr.drew 0 false false 0 78).below hb2).below hb3; have FR : Free4 w3 wr.heap.size := ((Free4.box wr.drew _ _).below hb2 (by show _ < (wr.drew.alloc _).heap.size; rw [World.size_alloc]; exact Nat.lt_succ_self _)).below hb3 ((Four.box wr.drew 0 false false 0 78).below hb2).lt; obtain ⟨g0, g1, g2, g3⟩ := FF; obtain ⟨e0, e1, e2, e3⟩ := FR; have hbl : wr.heap.size < w3.heap.size := by simpa using World.block_lt_of_cell? _ _ g0) | (have FF := (Four.box w2 0 false false 0 78).below hb3; have FR := (Free4.box w2 #[.int .i64 0, .bool false, .bool false, .int .i64 0] 78).below hb3 (by rw [World.size_alloc]; exact Nat.lt_succ_self _); have hsz2 := hb2'.size; obtain ⟨g0, g1, g2, g3⟩ := FF; obtain ⟨e0, e1, e2, e3⟩ := FR; have hbl : w2.heap.size < w3.heap.size := by simpa using World.block_lt_of_cell? _ _ g0) | skip))
           | (go_at_call 91; refine (PNU.out _).mono ?_; rintro x w2 ⟨rfl, hb2⟩; have hb2' := below_deep (hold5 (by assumption)) hb2))
       all_goals go_wp2
       all_goals go_meet
       all_goals first
         | exact ⟨_, y, mm, hh, n2, rfl, hbf, Four.box w3 y mm hh n2 _, step_box hb3' _⟩
         | exact ⟨_, y, mm, hh, n2, rfl, hbf, (four_end ⟨g0, g1, g2, g3⟩ hb3' (by omega)).1, (four_end ⟨g0, g1, g2, g3⟩ hb3' (by omega)).2⟩
     case rest =>
       obtain ⟨blk, y, mm, hh, n2, rfl, HBF, HFO, HBC⟩ := hcut
       have HB3 := hid (below_deep HBR.out HBC.out)
       have HO3 := hid (owns_keep HO.out HBC.out)
       have e4 := (HXR.out.below HBC.out).cell 4 _ rfl
       have hxc : w.heap.size < wc.heap.size := (HXR.out.below HBC.out).lt
       obtain ⟨g0, g1, g2, g3⟩ := HFO.out
       have hbc : blk < wc.heap.size := HFO.out.lt
       clear d0 PNU PBE
       rw [HBF.out] at HSK HNKq
       simp only [Ver.made, Ver.by_] at HSK HNKq
       cases mm with
       | true =>
         have HTK2 : Hid (needP e p (K.take (q + 1)) = F) := by show _ = _; rw [HTK.out, HNKq.out]; simp
         go_wp2
         go_roundw
         case rel => exact ⟨q + 1, r, by omega, by omega, by go_num, (by show _ = _; rw [HTK2.out]; exact HR.out), (by rw [HTK2.out]; exact HO3), HB3⟩
         case measure => simp [intOf]; omega
       | false =>
         have hy := HSK.out rfl
         have hsub : IntKind.i64.wrap (y - e.base) = y - e.base := by rw [IntKind.wrap_i64]; omega
         have HTK2 : Hid (needP e p (K.take (q + 1)) = F ++ [y - e.base]) := by show _ = _; rw [HTK.out, HNKq.out]; simp
         have HC1 := hid (lies_one wc #[.int .i64 (y - e.base)] 3 1 rfl)
         have HOA := hid (HO3.out.alloc (.cells #[.int .i64 (y - e.base)] 3))
         have HBY : Hid ((r + 1) * 8 ≤ 140737488355328) := by show _ ≤ _; omega
         have HSZ := hid (step_box HB3.out (.cells #[.int .i64 (y - e.base)] 3))
         go_wp2_with (at_builtin; refine wpList_onto _ rfl _ _ 23 3 1 8 _ Tryz.underlying23 intInfo rfl (by decide) (by decide) rfl w1.heap.size _ r _ rfl HOA.out _ 1 _ _ rfl HC1.out (intsC_one [y - e.base]) HBY.out HSZ.out.size ?_)
         intro v5 w5 hown5 hg5
         have HB5 := hid (step_row HSZ.out HOA.out hg5)
         have HO5 : Hid (w5.ownsRow w1.heap.size 3 1 v5 (r + 1) (intsC (F ++ [y - e.base]))) := by
           show World.ownsRow _ _ _ _ _ _ _
           rw [intsC_append]; exact hown5
         clear hown5 hg5
         go_wp2
         go_roundw
         case rel => exact ⟨q + 1, r + 1, by omega, by omega, by go_num, (by show _ = _; rw [HTK2.out, List.length_append, HR.out]; rfl), (by rw [HTK2.out]; exact HO5), HB5⟩
         case measure => simp [intOf]; omega
   · obtain rfl : q = kn := by omega
     rw [List.take_of_length_le (by rw [← HKN.out]; exact Nat.le_refl _)] at HO HR
     generalize needP e p K = F at *
     by_cases hr0 : r = 0
     · subst hr0
       have hF : F = [] := List.eq_nil_of_length_eq_zero HR.out
       subst hF
       obtain ⟨ob, oc, rfl, hol⟩ := Lies.owned HO.out
       have HOL : Hid (Ints wr ob 0 oc (ints (needsE e p))) := by
         have hn : ints (needsE e p) = [] := by
           have := HFIN.out.symm
           simpa [Lib.compact, Lib.compactUpTo] using this
         show Lies _ _ _ _ _ _
         rw [hn]; exact hol
       have PS := hid (Any.slices_Sort_int_none lays189 ob oc wr)
       have PC := hid (Any.slices_Compact_int_empty laysB20 ob oc wr)
       clear hol
       go_wp2_with fail
       refine PS.out.mono ?_
       rintro x w5 ⟨rfl, rfl⟩
       go_wp2_with fail
       refine PC.out.mono ?_
       rintro x w6 ⟨rfl, rfl⟩
       go_wp2
       go_ret
       exact ⟨_, _, _, rfl, HOL.out, below_deep HBA.out HBAR.out⟩
     · obtain ⟨g, gc, hve⟩ : ∃ g gc, u5 = .slice (some ⟨g, 0, none⟩) r gc := by
         rcases HO.out.2 with ⟨_, h0⟩ | ⟨g, cap, cur, h', _⟩
         · omega
         · exact ⟨g, cap, h'⟩
       subst hve
       have hrr : r ≤ 4000000 := by omega
       have hgB := (HO.out.lt g rfl).1
       have PS := hid (sort_calls F w1.heap.size g r gc wr HO.out hrr)
       clear hr0
       go_wp2_with fail
       refine PS.out.mono ?_
       rintro x w5 ⟨rfl, hown5, hg5⟩
       have HB5 := hid (HBR.out.grown hg5 HBR.out.size (fun a ha => by cases ha; exact hgB))
       have PC := hid (compact_calls _ w1.heap.size g r gc w5 hown5 hrr)
       rw [HFIN.out] at PC
       clear hown5 hg5 PS
       generalize (ints (needsE e p)).length = nl at *
       go_wp2_with fail
       refine PC.out.mono ?_
       rintro x w6 ⟨rfl, hown6, hb6⟩
       obtain ⟨ob, oc, hoe, hol⟩ := Lies.owned hown6
       simp only [Value.slice.injEq, true_and] at hoe
       obtain ⟨e1, e2⟩ := hoe
       have HOL : Hid (Ints w6 (some ⟨g, 0, none⟩) nl gc (ints (needsE e p))) := by
         show Lies _ _ _ _ _ _
         rw [e1, e2]; exact hol
       have HB6 := hid (hb6 _ HB5.out)
       clear hown6 hb6 hol e1 e2
       go_wp2
       go_ret
       exact ⟨_, _, _, rfl, HOL.out, below_deep HBA.out (below_deep HB1.out HB6.out)⟩
end Go.Proofs.YtlhaeeenkgkdaaaGreatDoor
