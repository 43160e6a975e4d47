/-
  The closed fact that the statements of chapter 6 ask first is so.
  The walk of the statement PlanBack: the call returns true and changes nothing that was there.
-/
import Derived.Test.YtmfieleonhgeoacGreatDoorPlanKeys
import Derived.Test.YtmfieleonhgeoacGreatDoorPlanAddE
import Derived.Test.YtmfieleonhgeoacGreatDoorLawPlanT
import Derived.Test.YtmfieleonhgeoacGreatDoorRefBuild
namespace Go.Proofs.YtmfieleonhgeoacGreatDoor
open Go.RowKit

theorem read6_results (tmps : Array Value) (b : Nat) (w : World) {x y z : Value} (h2 : tmps.getD 2 undef = .pointer (some ⟨b, 0, none⟩)) (h : Three w b x y z) (hx : ∃ p q r, x = .slice p q r) (hy : ∃ p q r, y = .slice p q r) (hz : ∃ p q r, z = .slice p q r) :
    (results Tryz.f14 tmps).run Tryz.prog w = .ok (.agg #[x, y, z]) w := by
  have h2' : tmps[2]?.getD undef = .pointer (some ⟨b, 0, none⟩) := by simpa using h2
  obtain ⟨_, _, _, rfl⟩ := hx
  obtain ⟨_, _, _, rfl⟩ := hy
  obtain ⟨_, _, _, rfl⟩ := hz
  simp [results, Tryz.results14, go_sem, h2', h.c0, h.c1, h.c2]

set_option maxRecDepth 100000 in
set_option maxHeartbeats 2000000 in
theorem read6_calls (s : ByteArray) (d : Deed3) (w : World) (hG : GroundN w) (hs : s.size ≤ maxLen) (hd : readT (keyT s) = (0, d.1, d.2.1, d.2.2)) :
    Calls Tryz.prog 14 #[.string s] w fun e w' => ReadTold w w' d e := by
  have HA0 := hid (three_new w (.slice none 0 0) (.slice none 0 0) (.slice none 0 0) 50)
  have HG0 := hid (grew w (.cells #[.slice none 0 0, .slice none 0 0, .slice none 0 0] 50))
  have HP := hid (refParse_calls s _ (hG.below HG0.out) hs)
  rw [hd] at HP
  clear hG hs hd
  go_enter Tryz.func14, Tryz.ntmps14
  go_wp2_with fail
  refine HP.out.mono ?_
  rintro e w1 ⟨rb, rn, rc, wb, wn, wc, cb, cn, cc, rfl, hdi, hb1, f0, f1, f2⟩
  have q0 := (HA0.out.below hb1).c0
  have q1 := (HA0.out.below hb1).c1
  have q2 := (HA0.out.below hb1).c2
  have g0 := (HA0.out.below hb1).free 0
  have g1 := (HA0.out.below hb1).free 1
  have g2 := (HA0.out.below hb1).free 2
  have hlt := (HA0.out.below hb1).lt
  have hlt0 : w.heap.size < (w.alloc (.cells #[.slice none 0 0, .slice none 0 0, .slice none 0 0] 50)).heap.size := by rw [World.size_alloc]; omega
  have HDF : Hid (DeedIn ((setThree w1 w.heap.size (.slice rb rn rc) (.slice wb wn wc) (.slice cb cn cc)).alloc (.cells #[.slice rb rn rc, .slice wb wn wc, .slice cb cn cc] 50)) rb rn rc wb wn wc cb cn cc d.1 d.2.1 d.2.2) :=
    DeedIn.below ⟨three_lies f0 hlt0 hdi.tr, three_lies f1 hlt0 hdi.tw, three_lies f2 hlt0 hdi.cd⟩ (grew _ _)
  have HBF := hid (below_deep (below_three (below_deep HG0.out hb1) (Nat.le_refl w.heap.size) (.slice rb rn rc) (.slice wb wn wc) (.slice cb cn cc)) (grew _ (.cells #[.slice rb rn rc, .slice wb wn wc, .slice cb cn cc] 50)))
  have HTH := hid (((HA0.out.below hb1).all (.slice rb rn rc) (.slice wb wn wc) (.slice cb cn cc)).below (grew _ (.cells #[.slice rb rn rc, .slice wb wn wc, .slice cb cn cc] 50)))
  unfold setThree at HDF HBF HTH
  clear hdi hb1 f0 f1 f2
  go_wp2
  (try simp only [Exit.inBlock, Exit.then])
  refine bodyPost_ret (read6_results _ w.heap.size _ rfl ⟨HTH.out.c0, HTH.out.c1, HTH.out.c2⟩ ⟨_, _, _, rfl⟩ ⟨_, _, _, rfl⟩ ⟨_, _, _, rfl⟩) rfl ?_
  exact ⟨_, _, _, _, _, _, _, _, _, rfl, HDF.out, HBF.out⟩

theorem engField2 (x0 x1 x2 x3 x4 : Value) (w : World) : (Instr.field 33 (.agg #[x0, x1, x2, x3, x4]) 2).run Tryz.prog w = .ok x2 w := by kernel_rfl
theorem six_holds (w : World) : Holds (w.alloc (.cells #[.string oneA, .int .i64 1] 46)) (some ⟨w.heap.size, 0, none⟩) 1 1 sixR := by
  refine Holds.cells rfl (fun i hi => ?_) (Nat.le_refl _) (by decide)
  obtain rfl : i = 0 := by have : i < 1 := hi; omega
  exact ⟨box_cell w _ _ 0 _ rfl, box_cell w _ _ 1 _ rfl⟩
theorem six_smallR : Small sixR := fun x hx => by
  simp [sixR] at hx; subst hx; decide

set_option maxRecDepth 100000 in
set_option maxHeartbeats 4000000 in
theorem plive_calls (w : World) (hG : GroundN w) : Calls Tryz.prog 5 #[] w fun e w' => e = .returned (.bool true) ∧ Below w.heap.size w w' := by
  have HGN := hid hG
  have HG0 := hid (grew w (.cells #[.string oneA, .int .i64 1] 46))
  have PN := hid (planNew_calls sixR (some ⟨w.heap.size, 0, none⟩) 1 1 _ sixR_right six_smallR (six_holds w))
  have PR1 : Hid (∀ (s : ByteArray) W, Below w.heap.size w W → keyT s = sixT → Calls Tryz.prog 14 #[.string s] W fun e w' => ReadTold W w' sixD e) := fun s W hb e => by
    have hz := keyT_len s
    have hl : sixT.length = 39 := by decide
    exact read6_calls s sixD W (hG.below hb) (by rw [e] at hz; unfold maxLen; omega) (by rw [e]; exact six_read)
  have PR2 : Hid (∀ (s : ByteArray) W, Below w.heap.size w W → keyT s = six2T → Calls Tryz.prog 14 #[.string s] W fun e w' => ReadTold W w' six2D e) := fun s W hb e => by
    have hz := keyT_len s
    have hl : six2T.length = 30 := by decide
    exact read6_calls s six2D W (hG.below hb) (by rw [e] at hz; unfold maxLen; omega) (by rw [e]; exact six2_read)
  clear hG
  go_enter Tryz.func5, Tryz.ntmps5
  go_wp2_with fail
  refine PN.out.mono ?_
  rintro x w1 ⟨v1, rfl, hv1, hb1⟩
  have HB1 := hid (below_deep HG0.out hb1)
  have HV1 := hid hv1
  clear hv1 hb1 PN
  go_wp2_with fail
  refine (PR1.out _ w1 HB1.out ?_).mono ?_
  · rfl
  rintro x w2 ⟨rb, rn, rc, wb, wn, wc, cb, cn, cc, rfl, hdi, hb2⟩
  have HB2 := hid (below_deep HB1.out hb2)
  have HD2 := hid hdi
  have HV2 := hid (HV1.out.below hb2)
  clear hdi hb2 PR1 HV1
  go_wp2_with fail
  refine (PR2.out _ w2 HB2.out ?_).mono ?_
  · rfl
  rintro x w3 ⟨rb', rn', rc', wb', wn', wc', cb', cn', cc', rfl, hdi', hb3⟩
  have HB3 := hid (below_deep HB2.out hb3)
  have HDS := hid (deeds_two w3 rb rn rc wb wn wc cb cn cc rb' rn' rc' wb' wn' wc' cb' cn' cc' sixD six2D (HD2.out.below hb3) hdi' six_small six2_small)
  have HG3 := hid (grew w3 (.cells #[.slice rb rn rc, .slice wb wn wc, .slice cb cn cc, .slice rb' rn' rc', .slice wb' wn' wc', .slice cb' cn' cc'] 50))
  have HB4 := hid (below_deep HB3.out HG3.out)
  have HV4 := hid (HV2.out.below (below_deep hb3 HG3.out))
  have PA := hid (planAdd_calls (Good.new sixR_right) [sixD, six2D] (by decide) v1 _ 2 2 _ HV4.out HDS.out)
  clear hdi' hb3 PR2 HV2 HD2
  go_wp2_with fail
  refine PA.out.mono ?_
  rintro x w5 ⟨v5, rfl, hv5, hb5⟩
  have hadd : addTo (newE sixR) [sixD, six2D] = sixE := by unfold addTo; rw [if_pos six_wDs]; rfl
  rw [hadd] at hv5
  rw [six_wDs]
  obtain ⟨eb0, en0, ec0, db, dn, dc, sb, sn, sc, eb, en, ec, rfl, hl5⟩ := hv5
  obtain rfl : en0 = 2 := by have := hl5.ch.len; rw [sixE_chains] at this; exact this
  obtain rfl : dn = 2 := by have := hl5.de.len; rw [sixE_deeds] at this; exact this
  have HG5 := hid (grew w5 (.cells #[.slice eb0 2 ec0, .slice db 2 dc, .slice sb sn sc, .slice eb en ec, .int .i64 sixE.base] 33))
  have HX5 := hid (Box.new w5 #[.slice eb0 2 ec0, .slice db 2 dc, .slice sb sn sc, .slice eb en ec, .int .i64 sixE.base] 33)
  have HL5 := hid (hl5.below HG5.out)
  have HB5 := hid (below_deep HB4.out (below_deep hb5 HG5.out))
  clear hl5 hb5 PA hadd
  have PN1 := hid (planNeeds_calls six_good (by decide) 1 (by decide) _ _ ⟨_, _, _, _, _, _, _, _, _, _, _, _, rfl, HL5.out⟩)
  rw [six_needs1] at PN1
  go_wp2_with fail
  refine PN1.out.mono ?_
  generalize w5.alloc (.cells #[.slice eb0 2 ec0, .slice db 2 dc, .slice sb sn sc, .slice eb en ec, .int .i64 sixE.base] 33) = A at *
  generalize w5.heap.size = be at *
  rintro x w6 ⟨nb6, nn6, nc6, rfl, h6, hb6⟩
  obtain rfl : nn6 = 1 := Ints.count h6
  have c6 : ∃ b6 o6, nb6 = some ⟨b6, o6, none⟩ ∧ w6.cell? ⟨b6, o6, none⟩ = some (.int .i64 0) := by
    rcases h6.run with h | ⟨b6, o6, rfl, hr⟩
    · cases h
    · exact ⟨b6, o6, rfl, hr 0 _ rfl⟩
  obtain ⟨b6, o6, rfl, c6⟩ := c6
  have hb6l : b6 < w6.heap.size := by simpa using World.block_lt_of_cell? _ _ c6
  have HX6 := hid (HX5.out.below hb6)
  have HL6 := hid (HL5.out.below hb6)
  have HB6 := hid (below_deep HB5.out hb6)
  obtain ⟨x0, x1, x2, x3, x4⟩ := HX6.out.cells5
  have hel : be < w6.heap.size := HX6.out.lt
  clear h6 hb6 PN1 HX5 HL5
  have PN0 := hid (planNeeds_calls six_good (by decide) 0 (by decide) _ w6 ⟨_, _, _, _, _, _, _, _, _, _, _, _, rfl, HL6.out⟩)
  rw [six_needs0] at PN0
  go_wp2_with fail
  refine PN0.out.mono ?_
  rintro x w7 ⟨nb7, nn7, nc7, rfl, h7, hb7⟩
  obtain rfl : nn7 = 0 := Ints.count h7
  have HX7 := hid (HX6.out.below hb7)
  have HL7 := hid (HL6.out.below hb7)
  have HB7 := hid (below_deep HB6.out hb7)
  clear h7 hb7 PN0 HX6 HL6 x0 x1 x2 x3 x4 c6 hb6l hel
  obtain ⟨x0, x1, x2, x3, x4⟩ := HX7.out.cells5
  have hel : be < w7.heap.size := HX7.out.lt
  obtain ⟨d1, o1, rfl, hdr⟩ : ∃ d1 o1, db = some ⟨d1, o1, none⟩ ∧ ∀ i, i < 2 → DeedHere w7 d1 (o1 + i * 3) (sixE.deeds.getD i default) := by
    rcases HL7.out.de.run with h | h
    · cases h
    · exact h
  obtain ⟨sb1, sn1, sc1, wb1, wn1, wc1, xb1, xn1, xc1, k0, k1, k2, hdi, hs1, hs2⟩ := hdr 1 (by decide)
  have hd1 : d1 < w7.heap.size := by simpa using World.block_lt_of_cell? _ _ k0
  have PK := hid (planKeys_calls six2D sb1 sn1 sc1 wb1 wn1 wc1 xb1 xn1 xc1 w7 hdi six2Right)
  clear hdi hs1 hs2 hdr
  go_wp2_with fail
  refine PK.out.mono ?_
  rintro x w8 ⟨kb, kn, kc, rfl, h8, hb8⟩
  obtain rfl : kn = 2 := by have := Texts.count h8; rw [six_keys] at this; exact this
  have HX8 := hid (HX7.out.below hb8)
  have HL8 := hid (HL7.out.below hb8)
  have HB8 := hid (below_deep HB7.out hb8)
  clear h8 hb8 PK HX7 HL7 x0 x1 x2 x3 x4 k0 k1 k2 hd1 hel
  obtain ⟨x0, x1, x2, x3, x4⟩ := HX8.out.cells5
  have hel : be < w8.heap.size := HX8.out.lt
  have PO := hid ((planOwn_calls six_good (by decide) _ w8 ⟨_, _, _, _, _, _, _, _, _, _, _, _, rfl, HL8.out⟩).mono fun x w' h => own_engTold h)
  go_wp2_with fail
  refine PO.out.mono ?_
  rintro x w9 ⟨v9, rfl, hv9, hb9⟩
  obtain ⟨cb9, cn9, cc9, db9, dn9, dc9, sb9, sn9, sc9, eb9, en9, ec9, rfl, hl9⟩ := hv9
  obtain rfl : sn9 = 2 := by have := Ints.count hl9.st; rw [sixE_state] at this; exact this
  have HB9 := hid (below_deep HB8.out hb9)
  have hf := engField2 (.slice cb9 cn9 cc9) (.slice db9 dn9 dc9) (.slice sb9 2 sc9) (.slice eb9 en9 ec9) (.int .i64 sixE.base)
  clear hl9 hb9 PO HX8 HL8
  go_wp2
  go_ret
  exact ⟨rfl, HB9.out⟩
end Go.Proofs.YtmfieleonhgeoacGreatDoor

namespace Go.Proofs.YtmfieleonhgeoacGreatDoor
open Go.RowKit

set_option maxHeartbeats 8000000 in
set_option maxRecDepth 100000 in
theorem planBack_calls (l : List Row) (BS : List (List Deed3)) (Pl : List Int) (lb : Option Addr) (ln lc : Nat) (bb : Option Addr) (bn bc : Nat) (pb : Option Addr) (pn pc : Nat) (w : World) (hG : GroundN w)
    (hh : Holds w lb ln lc l) (hsm : Small l) (hbs : BatchesIn w bb bn bc BS) (hp : Ints w pb pn pc Pl) (hN : manyB BS ≤ 1048576) :
    Calls Tryz.prog 4 #[.slice lb ln lc, .slice bb bn bc, .slice pb pn pc] w fun e w' => e = .returned (.bool true) ∧ Below w.heap.size w w' := by
  have HH := hid hh
  have HSM := hid hsm
  have HBS := hid hbs
  have HP := hid hp
  have HN := hid hN
  have HAL := hid (plive_calls w hG)
  clear hh hsm hbs hp hN hG
  go_enter Tryz.func4, Tryz.ntmps4
  go_wp2_with fail
  refine HAL.out.mono ?_
  rintro x w1 ⟨rfl, hb1⟩
  have HB1 := hid hb1
  have HWR := hid (refWrong_holds l lb ln lc w1 HSM.out (HH.out.below hb1))
  clear hb1 HAL
  go_wp2_with fail
  refine HWR.out.mono ?_
  rintro x w2 ⟨rfl, hb2⟩
  have HB2 := hid (below_deep HB1.out hb2)
  clear hb2 HWR
  by_cases hz : wrong l = 0
  · rw [hz]
    have HR := hid (right_of hz)
    have RB := hid (refBuild_calls l BS Pl lb ln lc bb bn bc pb pn pc w2 HR.out HSM.out (HH.out.below HB2.out) (HBS.out.below HB2.out) (HP.out.below (by decide) HB2.out) (Nat.le_trans HN.out (by decide)))
    clear hz
    go_wp2_with fail
    refine RB.out.mono ?_
    rintro x w5 ⟨v5, D, m, dq, bq, e, rfl, G, hD, hv5, hb5⟩
    obtain ⟨cb, cn, cc, db, dn, dc, sb, sn, sc, eb, en, ec, rfl, hl5⟩ := hv5
    have HGD := hid G
    have HDN := hid (Nat.le_trans hD HN.out)
    have HGE := hid (grew w5 (.cells #[.slice cb cn cc, .slice db dn dc, .slice sb sn sc, .slice eb en ec, .int .i64 e.base] 33))
    have HBE := hid (Box.new w5 #[.slice cb cn cc, .slice db dn dc, .slice sb sn sc, .slice eb en ec, .int .i64 e.base] 33)
    have HLE := hid (hl5.below HGE.out)
    have HB5 := hid (below_deep HB2.out (below_deep hb5 HGE.out))
    have HDL := hid (hl5.de.len)
    have HGL := hid G.len
    have HSL : Hid (sn = dn) := by
      have h1 := Ints.count hl5.st
      have h2 := hl5.de.len
      have h3 := G.slen
      show _ = _
      omega
    have HSC := hid (Ints.count hl5.st)
    have hdm := Nat.le_trans hl5.de.hdr.le hl5.de.hdr.max
    unfold maxLen at hdm
    obtain rfl : sn = dn := HSL.out
    clear G hD hl5 hb5 RB
    go_wp2
    generalize w5.alloc (.cells #[.slice cb cn cc, .slice db sn dc, .slice sb sn sc, .slice eb en ec, .int .i64 e.base] 33) = A at *
    generalize w5.heap.size = be at *
    go_loopw [8, 9, 26] (fun wt fr i wr => ∃ j : Nat, j ≤ sn ∧ i = .int .i64 j ∧ wt = .bool (waitsTo e j) ∧ fr = .bool (freeTo e j) ∧ Hid (Below A.heap.size A wr)) (fun _ _ i _ => sn - (intOf i).toNat)
    case atStart => exact ⟨0, Nat.zero_le _, rfl, rfl, rfl, Below.refl _ _⟩
    case round =>
      obtain ⟨j, hj, rfl, rfl, rfl, HBR⟩ := hrel
      by_cases hlt : j < sn
      · have hi : (j : Int) < (sn : Int) := by omega
        have HMP : Hid (m + j < D.length) := by
          have h1 := HDL.out
          have h2 := HGL.out
          have h3 := HGD.out.le
          show _ < _
          omega
        have PN := hid (planNeeds_calls HGD.out (by have := HDN.out; omega) j HMP.out _ wr ⟨_, _, _, _, _, _, _, _, _, _, _, _, rfl, HLE.out.below HBR.out⟩)
        obtain ⟨x0, x1, x2, x3, x4⟩ := (HBE.out.below HBR.out).cells5
        have hel : be < wr.heap.size := (HBE.out.below HBR.out).lt
        have HWS := hid (waitsTo_succ e j)
        have HFS := hid (freeTo_succ e j)
        have HNW : Hid (∀ k, k ∈ needsE e j → k < j ∧ e.state.getD k 0 = 0) := fun k hk => need_waits HGD.out HMP.out hk
        generalize hfr : freeTo e j = fr at *
        generalize hwt : waitsTo e j = wt at *
        clear hfr hwt
        go_wp2_with fail
        refine PN.out.mono ?_
        rintro x w6 ⟨nb, nn, nc, rfl, h6, hb6⟩
        have HI := hid h6
        have HIC : Hid (nn = (needsE e j).length) := by
          have := Ints.count h6
          rw [ints, List.length_map] at this
          exact this
        have HB6 := hid (below_deep HBR.out hb6)
        have hnm := Nat.le_trans h6.hdr.le h6.hdr.max
        unfold maxLen at hnm
        have HMT : Hid ((needsE e j).isEmpty = decide (nn = 0)) := by
          show _ = _
          rw [HIC.out]
          cases needsE e j <;> simp
        clear h6 hb6 PN x0 x1 x2 x3 x4 hel
        go_wp2
        generalize wr = wa at *
        go_loopw [34] (fun i wr => ∃ q : Nat, q ≤ nn ∧ i = .int .i64 q ∧ Hid (Below w6.heap.size w6 wr)) (fun i _ => nn - (intOf i).toNat)
        case atStart => exact ⟨0, Nat.zero_le _, rfl, Below.refl _ _⟩
        case round =>
          obtain ⟨q, hq, rfl, HBQ⟩ := hrel
          have HBA := hid (below_deep HB6.out HBQ.out)
          obtain ⟨x0, x1, x2, x3, x4⟩ := (HBE.out.below HBA.out).cells5
          have hel : be < wr.heap.size := (HBE.out.below HBA.out).lt
          obtain ⟨s1, o1, rfl, hsr⟩ : ∃ s1 o1, sb = some ⟨s1, o1, none⟩ ∧ Run wr s1 o1 (intsC e.state) := by
            rcases (HLE.out.below HBA.out).st.run with h | h
            · omega
            · exact h
          by_cases hql : q < nn
          · have hqi : (q : Int) < (nn : Int) := by omega
            have hqn : q < (needsE e j).length := by rw [← HIC.out]; exact hql
            obtain ⟨k, hk⟩ : ∃ k, (needsE e j)[q]? = some k := ⟨_, List.getElem?_eq_getElem hqn⟩
            obtain ⟨hkj, hks⟩ := HNW.out k (List.mem_of_getElem? hk)
            rcases (HI.out.below (by decide) HBQ.out).run with h | ⟨n1, p1, rfl, hnr⟩
            · omega
            have c1 : wr.cell? ⟨n1, p1 + q, none⟩ = some (.int .i64 (k : Int)) := hnr q _ (by simp [intsC, ints, hk])
            have c2 : wr.cell? ⟨s1, o1 + k, none⟩ = some (.int .i64 0) := by
              have := hsr k _ (intsC_at (by have := HSC.out; omega))
              rw [hks] at this
              exact this
            have hn1 : n1 < wr.heap.size := by simpa using World.block_lt_of_cell? _ _ c1
            have hs1 : s1 < wr.heap.size := by simpa using World.block_lt_of_cell? _ _ c2
            have t0 : decide ((k : Int) < 0) = false := by simp
            have t1 : decide ((j : Int) ≤ (k : Int)) = false := by simp; omega
            have t2 : decide (j ≤ k) = false := by simp; omega
            have hkn : k < sn := by omega
            have hki : (k : Int) < (sn : Int) := by omega
            clear hsr hnr hk hks hqn hkj
            go_wp2
            go_roundw
            case rel => exact ⟨q + 1, by omega, by go_num, HBQ⟩
            case measure => simp [intOf]; omega
          · obtain rfl : q = nn := by omega
            have c2 : wr.cell? ⟨s1, o1 + j, none⟩ = some (.int .i64 (e.state.getD j 0)) := hsr j _ (intsC_at (by have := HSC.out; omega))
            have hs1 : s1 < wr.heap.size := by simpa using World.block_lt_of_cell? _ _ c2
            clear hsr
            by_cases hst : e.state.getD j 0 = 0
            · rw [hst] at c2
              have e1 : waitsTo e (j + 1) = true := by rw [HWS.out, hst]; simp
              have e2 : freeTo e (j + 1) = (fr || decide (q = 0)) := by rw [HFS.out, hst, HMT.out]; simp
              clear hst
              cases fr with
              | true =>
                rw [Bool.true_or] at e2
                go_wp2
                go_roundw
                case rel => exact ⟨j + 1, by omega, by go_num, by rw [e1], by rw [e2], HBA⟩
                case measure => simp [intOf]; omega
              | false =>
                rw [Bool.false_or] at e2
                by_cases hq0 : q = 0
                · subst hq0
                  have e3 : freeTo e (j + 1) = true := e2
                  clear e2
                  go_wp2
                  go_roundw
                  case rel => exact ⟨j + 1, by omega, by go_num, by rw [e1], by rw [e3], HBA⟩
                  case measure => simp [intOf]; omega
                · have e3 : freeTo e (j + 1) = false := by rw [e2]; simpa using hq0
                  have t3 : ((q : Int) == 0) = false := by simpa using hq0
                  have t4 : (q == 0) = false := by simpa using hq0
                  clear e2
                  go_wp2
                  go_roundw
                  case rel => exact ⟨j + 1, by omega, by go_num, by rw [e1], by rw [e3], HBA⟩
                  case measure => simp [intOf]; omega
            · have e1 : waitsTo e (j + 1) = wt := by rw [HWS.out, decide_eq_false hst, Bool.or_false]
              have e2 : freeTo e (j + 1) = fr := by rw [HFS.out, decide_eq_false hst, Bool.false_and, Bool.or_false]
              generalize e.state.getD j 0 = st at *
              have t3 : (st == 0) = false := by simpa using hst
              clear hst
              go_wp2
              go_roundw
              case rel => exact ⟨j + 1, by omega, by go_num, by rw [e1], by rw [e2], HBA⟩
              case measure => simp [intOf]; omega
      · obtain rfl : j = sn := by omega
        have HOF : Hid ((freeTo e j || !waitsTo e j) = true) := by
          have := one_free HGD.out
          rw [← HDL.out] at this
          exact this
        generalize hfr : freeTo e j = fr at *
        generalize hwt : waitsTo e j = wt at *
        clear hfr hwt
        cases fr with
        | true =>
          go_wp2
          go_ret
          exact ⟨rfl, below_deep HB5.out HBR.out⟩
        | false =>
          have hw : wt = false := by
            have := HOF.out
            simpa using this
          subst hw
          go_wp2
          go_ret
          exact ⟨rfl, below_deep HB5.out HBR.out⟩
  · have t := ne_true hz
    clear hz
    generalize wrong l = q at *
    go_wp2
    go_ret
    exact ⟨rfl, HB2.out⟩
end Go.Proofs.YtmfieleonhgeoacGreatDoor
