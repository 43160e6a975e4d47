/-
  The statements' build of chapter 10, walked.
  ReplicaTwice, walked, for whatever Come the program has that does as it should.
  The document's own Seen and Finish of engines, walked.
  Wrong of the program tells the first thing that is wrong with any rows.
  The closed fact that the statements of chapter 1 ask first is so.
  SameRows of the document's answer tells whether two lists of rows are one.
  The walk of the statement RowsApart: the call returns true and changes nothing that was there.
  The walk of the statement RowsTells: the call returns true and changes nothing that was there.
-/
import Derived.Test.YtagangiilcicpaeGreatRepCatch
import Derived.Deep.DeepCutAuto
import Derived.Deep.RegionWith
import Derived.Test.YtagangiilcicpaeGreatRepFinds
import Derived.Test.YtagangiilcicpaeGreatKeep15
import Derived.Test.YtagangiilcicpaeGreatRefGoE
import Derived.Test.YtagangiilcicpaeGreatRefNeeds
import Derived.Deep.LoopGhost
import Derived.Test.YtagangiilcicpaeGreatLies
import Derived.BigQuiet
import Derived.Deep.QuietTactic
import Derived.Test.YtagangiilcicpaeGreatRefPut
import Derived.Test.YtagangiilcicpaeGreatChecked
import Derived.WalkKit
import Derived.WalkSpells
import Derived.WalkLawsBesides
import Derived.Below
import Derived.LoopTactic
import Derived.Outline
namespace Go.Proofs.YtagangiilcicpaeGreat
open Go.RowKit

set_option maxHeartbeats 16000000 in
set_option maxRecDepth 100000 in
theorem build10_calls (L : List Ent) (Pl : List Int) (lb : Option Addr) (ln lc : Nat) (pb : Option Addr) (pn pc : Nat) (w : World) (hL : EntsIn w lb ln lc L) (hP : Ints w pb pn pc Pl) :
    Calls Tryz.prog 4 #[.slice lb ln lc, .slice pb pn pc] w fun x w' => BuiltR w w' x := by
  have HL := hid hL
  have HP := hid hP
  have HLN := hid hL.len
  have HPN := hid (Ints.count hP)
  have hlm := Nat.le_trans hL.hdr.le hL.hdr.max
  unfold maxLen at hlm
  have HG0 := hid (grew w (.cells #[.slice none 0 0, .slice none 0 0, .slice none 0 0, .slice none 0 0, .int .i64 0, .int .i64 0, .slice none 0 0] 32))
  have HZ0 := hid ((Box.new w #[.slice none 0 0, .slice none 0 0, .slice none 0 0, .slice none 0 0, .int .i64 0, .int .i64 0, .slice none 0 0] 32).below (grew (w.alloc (.cells #[.slice none 0 0, .slice none 0 0, .slice none 0 0, .slice none 0 0, .int .i64 0, .int .i64 0, .slice none 0 0] 32)) (.cells #[.slice none 0 0, .slice none 0 0, .slice none 0 0, .slice none 0 0, .int .i64 0, .int .i64 0, .slice none 0 0] 32)))
  have HB0 := hid (below_deep HG0.out (grew (w.alloc (.cells #[.slice none 0 0, .slice none 0 0, .slice none 0 0, .slice none 0 0, .int .i64 0, .int .i64 0, .slice none 0 0] 32)) (.cells #[.slice none 0 0, .slice none 0 0, .slice none 0 0, .slice none 0 0, .int .i64 0, .int .i64 0, .slice none 0 0] 32)))
  have HX0 := hid (Box.new (w.alloc (.cells #[.slice none 0 0, .slice none 0 0, .slice none 0 0, .slice none 0 0, .int .i64 0, .int .i64 0, .slice none 0 0] 32)) #[.slice none 0 0, .slice none 0 0, .slice none 0 0, .slice none 0 0, .int .i64 0, .int .i64 0, .slice none 0 0] 32)
  rw [World.size_alloc] at HX0
  have HK0 : Hid (KeptR w ((w.alloc (.cells #[.slice none 0 0, .slice none 0 0, .slice none 0 0, .slice none 0 0, .int .i64 0, .int .i64 0, .slice none 0 0] 32)).alloc (.cells #[.slice none 0 0, .slice none 0 0, .slice none 0 0, .slice none 0 0, .int .i64 0, .int .i64 0, .slice none 0 0] 32)) (w.heap.size + 1)) := ⟨[], 0, _, _, newR, none, 0, 0, none, 0, 0, none, 0, 0, none, 0, 0, none, 0, 0, [], GoodR.new, HX0.out, newR_parts _ _⟩
  clear hL hP HG0 HX0
  go_enter Tryz.func4, Tryz.ntmps4
  go_wp2
  generalize (w.alloc (.cells #[.slice none 0 0, .slice none 0 0, .slice none 0 0, .slice none 0 0, .int .i64 0, .int .i64 0, .slice none 0 0] 32)).alloc (.cells #[.slice none 0 0, .slice none 0 0, .slice none 0 0, .slice none 0 0, .int .i64 0, .int .i64 0, .slice none 0 0] 32) = A at *
  go_loopw [14] (fun iv wr => ∃ j : Nat, iv = .int .i64 j ∧ j ≤ ln ∧ Hid (KeptR w wr (w.heap.size + 1)) ∧ Hid (Box wr w.heap.size nilR 32) ∧ Hid (Below w.heap.size w wr)) (fun iv _ => ln - (intOf iv).toNat)
  case atStart => exact ⟨0, rfl, Nat.zero_le _, HK0, HZ0, HB0⟩
  case round =>
    clear HK0 HZ0 HB0
    obtain ⟨j, rfl, hj, HK, HZ, HBR⟩ := hrel
    by_cases hlt : j < ln
    · have hjl : j < L.length := by rw [← HLN.out]; exact hlt
      have j1 : (j : Int) < (ln : Int) := by omega
      have j2 : (0 : Int) ≤ (j : Int) := by omega
      rcases (HL.out.below HBR.out).run with h | ⟨b1, o1, rfl, hrun⟩
      · omega
      obtain ⟨db, dn, dc, k0, k1, -⟩ := hrun j hlt
      have hev : ∃ db2 dn2 dc2, wr.cell? ⟨b1, o1 + j * 2 + 1, none⟩ = some (.slice db2 dn2 dc2) ∧ DeedsIn w db2 dn2 dc2 (L.getD j default).2 := by
        rcases HL.out.run with h | ⟨b2, o2, e2, hr2⟩
        · omega
        · cases e2
          obtain ⟨d1, d2, d3, _, q1, q2⟩ := hr2 j hlt
          exact ⟨d1, d2, d3, kept_cell HBR.out q1, q2⟩
      obtain ⟨db2, dn2, dc2, k1', hde⟩ := hev
      rw [k1] at k1'
      cases k1'
      have hb1 : b1 < wr.heap.size := by simpa using World.block_lt_of_cell? _ _ k0
      clear hrun
      generalize L.getD j default = e at *
      obtain ⟨en, eD⟩ := e
      simp only at k0 hde
      have HEV : Hid (EntV w (.agg #[.int .i64 en, .slice db dn dc]) (en, eD)) := ⟨db, dn, dc, rfl, hde⟩
      have HG := hid (grew wr (.cells #[.int .i64 en, .slice db dn dc] 26))
      have HY := hid (Box.new wr #[.int .i64 en, .slice db dn dc] 26)
      have HBG := hid (below_deep HBR.out HG.out)
      have PW := hid (refWrongE_calls (en, eD) (.agg #[.int .i64 en, .slice db dn dc]) (wr.alloc (.cells #[.int .i64 en, .slice db dn dc] 26)) (HEV.out.below HBG.out))
      have y0 := HY.out.cell 0 _ rfl
      have y1 := HY.out.cell 1 _ rfl
      clear hde
      go_wp2_with fail
      refine PW.out.mono ?_
      rintro x w1 ⟨rfl, hb1w⟩
      have HB1 := hid (below_deep HBG.out hb1w)
      have HK1 := hid ((HK.out.below HG.out).below hb1w)
      have HZ1 := hid ((HZ.out.below HG.out).below hb1w)
      have HY1 := hid (HY.out.below hb1w)
      clear PW y0 y1 k0 k1 HK HZ HG HY HBR HBG hb1w
      by_cases hw : wrongE (en, eD) = 0
      · have HRE := hid (wrongE_right.1 hw)
        obtain ⟨es, m, dq, bq, r, cb, cn, cc, db', dn', dc', sb, sn, sc, eb, en', ec, ab, an, ac, S, hG, hbox, hparts⟩ := HK1.out
        have HGR := hid hG
        have HX1 := hid hbox
        have HPT := hid hparts
        obtain ⟨x0, x1, x2, x3, x4, x5, x6⟩ := hbox.cells7
        obtain ⟨y0, y1⟩ : _ ∧ _ := ⟨HY1.out.cell 0 _ rfl, HY1.out.cell 1 _ rfl⟩
        have hxl : w.heap.size + 1 < w1.heap.size := hbox.lt
        have hyl : wr.heap.size < w1.heap.size := HY1.out.lt
        have PC := hid (refCome_calls hG (en, eD) HRE.out (.agg (repA cb cn cc db' dn' dc' sb sn sc eb en' ec r.eng.base r.next ab an ac)) (.agg #[.int .i64 en, .slice db dn dc]) w w1 HB1.out ⟨_, _, _, _, _, _, _, _, _, _, _, _, _, _, _, _, rfl, hparts⟩ HEV.out.at)
        obtain ⟨more, -, hcg, -⟩ := come_good hG HRE.out
        have HCG := hid hcg
        rw [hw]
        clear hG hbox hparts hcg HK1
        go_wp2_with fail
        refine PC.out.mono ?_
        rintro x w2 ⟨v2, rfl, ⟨cb2, cn2, cc2, db2, dn2, dc2, sb2, sn2, sc2, eb2, en2, ec2, ab2, an2, ac2, S2, rfl, hp2⟩, hb2⟩
        generalize (comeR r (en, eD)).1 = r2 at *
        generalize (comeR r (en, eD)).2 = q2 at *
        have HG2 := hid (grew w2 (.cells #[.slice cb2 cn2 cc2, .slice db2 dn2 dc2, .slice sb2 sn2 sc2, .slice eb2 en2 ec2, .int .i64 r2.eng.base, .int .i64 r2.next, .slice ab2 an2 ac2] 32))
        have HX2 := hid ((HX1.out.below hb2).below HG2.out)
        have HY2 := hid (Box.new w2 #[.slice cb2 cn2 cc2, .slice db2 dn2 dc2, .slice sb2 sn2 sc2, .slice eb2 en2 ec2, .int .i64 r2.eng.base, .int .i64 r2.next, .slice ab2 an2 ac2] 32)
        have HZ2 := hid ((HZ1.out.below hb2).below HG2.out)
        have HB2 := hid (below_deep HB1.out (below_deep hb2 HG2.out))
        have HP2 := hid (hp2.below HG2.out)
        have hxw : w.heap.size + 1 < w2.heap.size := (HX1.out.below hb2).lt
        clear hb2 hp2 PC x0 x1 x2 x3 x4 x5 x6 y0 y1 HX1 HZ1 HY1 HB1 HG2 HGR HPT hxl hyl
        go_upto_region 7 with fail
        generalize w2.alloc (.cells #[.slice cb2 cn2 cc2, .slice db2 dn2 dc2, .slice sb2 sn2 sc2, .slice eb2 en2 ec2, .int .i64 r2.eng.base, .int .i64 r2.next, .slice ab2 an2 ac2] 32) = A2 at *
        generalize w2.heap.size = bx at *
        obtain ⟨x0, x1, x2, x3, x4, x5, x6⟩ := HX2.out.cells7
        obtain ⟨f0, f1, f2, f3, f4, f5, f6⟩ := HX2.out.free7
        obtain ⟨y0, y1, y2, y3, y4, y5, y6⟩ := HY2.out.cells7
        have hxl : w.heap.size + 1 < A2.heap.size := HX2.out.lt
        have hyl : bx < A2.heap.size := HY2.out.lt
        have HK3 := hid (KeptR.put7 HCG.out HX2.out HP2.out)
        have HZ3 := hid (put7_far HZ2.out (show w.heap.size ≠ w.heap.size + 1 by omega) (.slice cb2 cn2 cc2) (.slice db2 dn2 dc2) (.slice sb2 sn2 sc2) (.slice eb2 en2 ec2) (.int .i64 r2.eng.base) (.int .i64 r2.next) (.slice ab2 an2 ac2))
        have HB3 := hid (put7_below HB2.out (Nat.le_succ _) (.slice cb2 cn2 cc2) (.slice db2 dn2 dc2) (.slice sb2 sn2 sc2) (.slice eb2 en2 ec2) (.int .i64 r2.eng.base) (.int .i64 r2.next) (.slice ab2 an2 ac2))
        go_upto_region 8 with fail
        unfold put7 at HK3 HZ3 HB3
        generalize ((((((A2.setCell ⟨w.heap.size + 1, 0, none⟩ (.slice cb2 cn2 cc2)).setCell ⟨w.heap.size + 1, 1, none⟩ (.slice db2 dn2 dc2)).setCell ⟨w.heap.size + 1, 2, none⟩ (.slice sb2 sn2 sc2)).setCell ⟨w.heap.size + 1, 3, none⟩ (.slice eb2 en2 ec2)).setCell ⟨w.heap.size + 1, 4, none⟩ (.int .i64 r2.eng.base)).setCell ⟨w.heap.size + 1, 5, none⟩ (.int .i64 r2.next)).setCell ⟨w.heap.size + 1, 6, none⟩ (.slice ab2 an2 ac2) = W at *
        clear x0 x1 x2 x3 x4 x5 x6 f0 f1 f2 f3 f4 f5 f6 y0 y1 y2 y3 y4 y5 y6 hxl hyl HX2 HY2 HZ2 HB2 HP2 HCG
        by_cases hjp : j < pn
        · have hjp' : (j : Int) < (pn : Int) := by omega
          have hjP : j < Pl.length := by rw [← HPN.out]; exact hjp
          obtain ⟨b2, o2, rfl, c0⟩ : ∃ b2 o2, pb = some ⟨b2, o2, none⟩ ∧ w.cell? ⟨b2, o2 + j, none⟩ = some (.int .i64 (Pl.getD j 0)) := by
            rcases HP.out.run with h | ⟨b2, o2, e2, hr2⟩
            · omega
            · exact ⟨b2, o2, e2, hr2 j _ (intsC_at hjP)⟩
          obtain ⟨es3, m3, dq3, bq3, r3, cb3, cn3, cc3, db3, dn3, dc3, sb3, sn3, sc3, eb3, en3, ec3, ab3, an3, ac3, S3, hG3, hbox3, hparts3⟩ := HK3.out
          have hfew : (deedsOf es3).length ≤ 1954687338211 := Nat.le_trans hG3.few (by decide)
          have HGR := hid hG3
          have HFW := hid hfew
          have HX3 := hid hbox3
          have HP3 := hid hparts3
          obtain ⟨x0, x1, x2, x3, x4, x5, x6⟩ := hbox3.cells7
          have hxl : w.heap.size + 1 < W.heap.size := hbox3.lt
          have PR := hid (refReady_calls hG3.eng hfew (.agg #[.slice cb3 cn3 cc3, .slice db3 dn3 dc3, .slice sb3 sn3 sc3, .slice eb3 en3 ec3, .int .i64 r3.eng.base]) W ⟨_, _, _, _, _, _, _, _, _, _, _, _, rfl, hparts3.eng⟩)
          generalize Pl.getD j 0 = x at *
          have HC0 := hid c0
          clear hG3 hfew hbox3 hparts3 HK3 c0
          go_wp2_with fail
          refine PR.out.mono ?_
          rintro _ w3 ⟨nb, nn, nc, rfl, hn3, hb3⟩
          have HN3 := hid hn3
          have HX4 := hid (HX3.out.below hb3)
          have HP4 := hid (HP3.out.below hb3)
          have HZ4 := hid (HZ3.out.below hb3)
          have HB4 := hid (below_deep HB3.out hb3)
          have hnm := Nat.le_trans hn3.hdr.le hn3.hdr.max
          unfold maxLen at hnm
          have HK4 : Hid (KeptR w w3 (w.heap.size + 1)) := ⟨_, _, _, _, _, _, _, _, _, _, _, _, _, _, _, _, _, _, _, _, _, HGR.out, HX4.out, HP4.out⟩
          have c1 := kept_cell HB4.out HC0.out
          have hb2l : b2 < w3.heap.size := by simpa using World.block_lt_of_cell? _ _ c1
          clear x0 x1 x2 x3 x4 x5 x6 hxl PR hn3 hb3 HX3 HP3 HZ3 HB3
          obtain ⟨x0, x1, x2, x3, x4, x5, x6⟩ := HX4.out.cells7
          obtain ⟨f0, f1, f2, f3, f4, f5, f6⟩ := HX4.out.free7
          have hxl : w.heap.size + 1 < w3.heap.size := HX4.out.lt
          by_cases hq : 0 ≤ x ∧ x < nn
          · obtain ⟨q, rfl⟩ : ∃ q : Nat, x = (q : Int) := ⟨x.toNat, by omega⟩
            have hqn : q < nn := by omega
            have dq1 : decide ((q : Int) < (nn : Int)) = true := by simpa using hqn
            have hqi : (q : Int) < (nn : Int) := by omega
            have hql : q < (ints (readyE r3.eng)).length := by rw [← Ints.count HN3.out]; exact hqn
            have hqr : q < (readyE r3.eng).length := by simpa [ints] using hql
            obtain ⟨b5, o5, rfl, hr5⟩ : ∃ b5 o5, nb = some ⟨b5, o5, none⟩ ∧ Run w3 b5 o5 (intsC (ints (readyE r3.eng))) := by
              rcases HN3.out.run with h | h
              · omega
              · exact h
            have hgd : (ints (readyE r3.eng)).getD q 0 = (((readyE r3.eng).getD q 0 : Nat) : Int) := by simp [ints, List.getD, hqr]
            have c5 := hr5 q _ (intsC_at hql)
            rw [hgd] at c5
            have hmem : (readyE r3.eng).getD q 0 ∈ readyE r3.eng := by
              rw [List.getD_eq_getElem?_getD, List.getElem?_eq_getElem hqr]
              exact List.getElem_mem hqr
            have hrg := ready_goE HGR.out.eng hmem
            have hgo := (ready_mem HGR.out.eng).1 hmem
            have HGG := hid (HGR.out.eng.go hgo.1 hgo.2.2)
            have hb5 : b5 < w3.heap.size := by simpa using World.block_lt_of_cell? _ _ c5
            have PG := hid (fun W hv => refGoE_calls HGR.out.eng HFW.out (((readyE r3.eng).getD q 0 : Nat) : Int) (.agg #[.slice cb3 cn3 cc3, .slice db3 dn3 dc3, .slice sb3 sn3 sc3, .slice eb3 en3 ec3, .int .i64 r3.eng.base]) W hv)
            unfold GoTold at PG
            rw [hrg] at PG
            clear hr5 hgd hmem hrg hgo hql hqr hq hqn HN3 HK4
            generalize (readyE r3.eng).getD q 0 = z at *
            go_wp2
            go_region_with ((go_at_call 13; refine (PG.out _ ⟨_, _, _, _, _, _, _, _, _, _, _, _, rfl, HP4.out.eng.below (step_drew (Below.refl _ _))⟩).mono ?_; rintro _ w4 ⟨v4, rfl, hv4, hb4⟩; obtain ⟨cb4, cn4, cc4, db4, dn4, dc4, sb4, sn4, sc4, eb4, en4, ec4, rfl, hl4⟩ := hv4; have HX5 := hid ((HX4.out.below (step_drew (Below.refl _ _))).below hb4); obtain ⟨s0, s1, s2, s3, s4, s5, s6⟩ := HX5.out.cells7; obtain ⟨f0, f1, f2, f3, f4, f5, f6⟩ := HX5.out.free7; have hb4l : w.heap.size + 1 < w4.heap.size := HX5.out.lt))
            all_goals
              have HK5 := hid (KeptR.put5 HGR.out HX4.out HP4.out (below_deep (step_drew (Below.refl _ _)) hb4) HGG.out hl4)
              have HZ5 := hid (put5_far ((HZ4.out.below (step_drew (Below.refl _ _))).below hb4) (show w.heap.size ≠ w.heap.size + 1 by omega) (.slice cb4 cn4 cc4) (.slice db4 dn4 dc4) (.slice sb4 sn4 sc4) (.slice eb4 en4 ec4) (.int .i64 (goE r3.eng z).base))
              have HB5 := hid (put5_below (below_deep (below_deep HB4.out (step_drew (Below.refl _ _))) hb4) (Nat.le_succ _) (.slice cb4 cn4 cc4) (.slice db4 dn4 dc4) (.slice sb4 sn4 sc4) (.slice eb4 en4 ec4) (.int .i64 (goE r3.eng z).base))
              unfold put5 at HK5 HZ5 HB5
              go_wp2
              go_roundw
              case rel => exact ⟨j + 1, by go_num, hlt, HK5, HZ5, HB5⟩
              case measure => simp [intOf]; omega
          · by_cases h7 : x = 7
            · subst h7
              have hn7 : ¬ ((7 : Int) < (nn : Int)) := fun h => hq ⟨by decide, h⟩
              have dq1 : decide ((7 : Int) < (nn : Int)) = false := by simpa using hn7
              have PC := hid (refClearE_calls HGR.out.eng HFW.out (.agg #[.slice cb3 cn3 cc3, .slice db3 dn3 dc3, .slice sb3 sn3 sc3, .slice eb3 en3 ec3, .int .i64 r3.eng.base]) w3 ⟨_, _, _, _, _, _, _, _, _, _, _, _, rfl, HP4.out.eng⟩)
              go_wp2_with fail
              refine PC.out.mono ?_
              rintro _ w4 ⟨v4, rfl, hv4, hb4⟩
              obtain ⟨cb4, cn4, cc4, db4, dn4, dc4, sb4, sn4, sc4, eb4, en4, ec4, rfl, hl4⟩ := hv4
              have HX5 := hid (HX4.out.below hb4)
              have HK5 := hid (KeptR.put5 HGR.out HX4.out HP4.out hb4 (mark_clear HGR.out.eng) hl4)
              have HZ5 := hid (put5_far (HZ4.out.below hb4) (show w.heap.size ≠ w.heap.size + 1 by omega) (.slice cb4 cn4 cc4) (.slice db4 dn4 dc4) (.slice sb4 sn4 sc4) (.slice eb4 en4 ec4) (.int .i64 (clearE r3.eng (markE r3.eng)).base))
              have HB5 := hid (put5_below (below_deep HB4.out hb4) (Nat.le_succ _) (.slice cb4 cn4 cc4) (.slice db4 dn4 dc4) (.slice sb4 sn4 sc4) (.slice eb4 en4 ec4) (.int .i64 (clearE r3.eng (markE r3.eng)).base))
              clear x0 x1 x2 x3 x4 x5 x6 f0 f1 f2 f3 f4 f5 f6 hxl
              obtain ⟨y0, y1, y2, y3, y4, y5, y6⟩ := HX5.out.cells7
              obtain ⟨f0, f1, f2, f3, f4, f5, f6⟩ := HX5.out.free7
              have hb4l : w.heap.size + 1 < w4.heap.size := HX5.out.lt
              unfold put5 at HK5 HZ5 HB5
              clear hb4 hl4 PC
              generalize (clearE r3.eng (markE r3.eng)).base = bs4 at *
              go_wp2
              go_roundw
              case rel => exact ⟨j + 1, by go_num, hlt, HK5, HZ5, HB5⟩
              case measure => simp [intOf]; omega
            · have t7 : (x == 7) = false := by simpa using h7
              by_cases hneg : 0 ≤ x
              · have dq2 : ¬ (x < (nn : Int)) := fun h => hq ⟨hneg, h⟩
                have dq1 : decide (x < (nn : Int)) = false := by simpa using dq2
                go_wp2
                go_roundw
                case rel => exact ⟨j + 1, by go_num, hlt, HK4, HZ4, HB4⟩
                case measure => simp [intOf]; omega
              · have dq0 : decide (0 ≤ x) = false := by simpa using hneg
                go_wp2
                go_roundw
                case rel => exact ⟨j + 1, by go_num, hlt, HK4, HZ4, HB4⟩
                case measure => simp [intOf]; omega
        · have hjp' : ¬ (j : Int) < (pn : Int) := by omega
          go_wp2
          go_roundw
          case rel => exact ⟨j + 1, by go_num, hlt, HK3, HZ3, HB3⟩
          case measure => simp [intOf]; omega
      · have t : (wrongE (en, eD) == 0) = false := by simpa using hw
        go_wp2
        go_roundw
        case rel => exact ⟨j + 1, by go_num, hlt, HK1, HZ1, HB1⟩
        case measure => simp [intOf]; omega
    · obtain rfl : j = ln := by omega
      obtain ⟨es, m, dq, bq, r, cb, cn, cc, db', dn', dc', sb, sn, sc, eb, en', ec, ab, an, ac, S, hG, hbox, hparts⟩ := HK.out
      have HGR := hid hG
      have HX1 := hid hbox
      obtain ⟨x0, x1, x2, x3, x4, x5, x6⟩ := hbox.cells7
      obtain ⟨y0, y1, y2, y3, y4, y5, y6⟩ := HZ.out.cells7
      obtain ⟨g0, g1, g2, g3, g4, g5, g6⟩ := HZ.out.free7
      have hxl : w.heap.size + 1 < wr.heap.size := hbox.lt
      have hzl : w.heap.size < wr.heap.size := HZ.out.lt
      have HBF := hid (put7_box HZ.out (.slice cb cn cc) (.slice db' dn' dc') (.slice sb sn sc) (.slice eb en' ec) (.int .i64 r.eng.base) (.int .i64 r.next) (.slice ab an ac))
      have HBL := hid (put7_below HBR.out (Nat.le_refl w.heap.size) (.slice cb cn cc) (.slice db' dn' dc') (.slice sb sn sc) (.slice eb en' ec) (.int .i64 r.eng.base) (.int .i64 r.next) (.slice ab an ac))
      have HRL := hid (hparts.put HZ.out (put7_off wr w.heap.size (.slice cb cn cc) (.slice db' dn' dc') (.slice sb sn sc) (.slice eb en' ec) (.int .i64 r.eng.base) (.int .i64 r.next) (.slice ab an ac)))
      clear hG hbox hparts HK
      go_wp2
      refine bodyPost_ret (build10_results _ w.heap.size _ rfl HBF.out) rfl ?_
      exact ⟨_, es, m, dq, bq, r, rfl, HGR.out, ⟨_, _, _, _, _, _, _, _, _, _, _, _, _, _, _, _, rfl, HRL.out⟩, HBL.out⟩
end Go.Proofs.YtagangiilcicpaeGreat

namespace Go.Proofs.YtagangiilcicpaeGreat
open Go.RowKit

theorem RepParts.now {w0 w : World} {cb : Option Addr} {cn cc : Nat} {db : Option Addr} {dn dc : Nat} {sb : Option Addr} {sn sc : Nat} {eb : Option Addr} {en ec : Nat} {ab : Option Addr} {an ac : Nat} {S : List ESlot} {r : Rep} (h : RepParts w0 w cb cn cc db dn dc sb sn sc eb en ec ab an ac S r) (h0 : Below w0.heap.size w0 w) : RepParts w w cb cn cc db dn dc sb sn sc eb en ec ab an ac S r :=
  ⟨h.eng, h.row, h.slots.now h0, h.kind⟩
end Go.Proofs.YtagangiilcicpaeGreat

namespace Go.Proofs.YtagangiilcicpaeGreat
open Go.RowKit

set_option maxHeartbeats 4000000 in
set_option maxRecDepth 100000 in
theorem refSeen_calls {r0 : List Row} {D : List Deed3} {m : Nat} {dq : Nat → Bool} {bq : ByteArray → Int} {e : Eng} (G : Good r0 D m dq bq e) (hD : D.length ≤ 1954687338211) (at_ : Int) (v : Value) (w : World) (hv : EngIn w v e) :
    Calls Tryz.prog 15 #[v, .int .i64 at_] w fun x w' => SeenTold w w' e at_ x := by
  obtain ⟨cb, cn, cc, db, dn, dc, sb, sn, sc, eb, en, ec, rfl, hl⟩ := hv
  have hle := G.le
  have hz0 : 0 ≤ e.base := by rw [G.base]; omega
  have hz1 : e.base ≤ 1954687338211 := by rw [G.base]; omega
  have HDL := hid hl.de.len
  have hdn : dn ≤ 1954687338211 := by rw [hl.de.len, G.len]; omega
  have HFIT := hid (G.fit hD)
  have HBX := hid (Box.new w #[.slice cb cn cc, .slice db dn dc, .slice sb sn sc, .slice eb en ec, .int .i64 e.base] 30)
  have HB0 := hid (grew w (.cells #[.slice cb cn cc, .slice db dn dc, .slice sb sn sc, .slice eb en ec, .int .i64 e.base] 30))
  have HL := hid (hl.below HB0.out)
  clear G hD hl hle
  go_enter Tryz.func15, Tryz.ntmps15
  go_upto_region 1 with fail
  generalize w.alloc (.cells #[.slice cb cn cc, .slice db dn dc, .slice sb sn sc, .slice eb en ec, .int .i64 e.base] 30) = A at *
  obtain ⟨x0, x1, x2, x3, x4⟩ := HBX.out.cells5
  have hxl : w.heap.size < A.heap.size := HBX.out.lt
  by_cases hneg : at_ < 0
  · have HT : Hid (seenTo e at_ = ([], 6)) := by show _ = _; unfold seenTo; rw [if_pos (.inl hneg)]
    have t1 : decide (at_ < 0) = true := by simpa using hneg
    clear hneg
    go_wp2
    go_ret2
    exact seen_told HT.out (nil_holds _) HB0.out
  obtain ⟨k, rfl⟩ : ∃ k : Nat, at_ = (k : Int) := ⟨at_.toNat, by omega⟩
  have t1 : decide ((k : Int) < 0) = false := by simp
  by_cases hbig : dn < k
  · have HT : Hid (seenTo e k = ([], 6)) := by show _ = _; unfold seenTo; rw [if_pos (.inr (by rw [← HDL.out]; omega))]
    have t2 : decide ((dn : Int) < (k : Int)) = true := by simp; omega
    have t3 : decide (dn < k) = true := by simp; omega
    clear hneg
    go_wp2
    go_ret2
    exact seen_told HT.out (nil_holds _) HB0.out
  have t2 : decide ((dn : Int) < (k : Int)) = false := by simp; omega
  have t3 : decide (dn < k) = false := by simp; omega
  have hsum : IntKind.i64.wrap (e.base + (k : Int)) = e.base + k := by rw [IntKind.wrap_i64]; omega
  have HST : Hid (seenTo e k = match rowsC e.chains (e.base + k) with | none => ([], 10) | some r => (r, 0)) := by
    show _ = _
    unfold seenTo
    rw [if_neg (by rw [← HDL.out]; omega)]
    all_goals (cases rowsC e.chains (e.base + (k : Int)) <;> rfl)
  have PRA := hid (refRowsAt_calls e.chains cb cn cc (e.base + k) A HFIT.out HL.out.ch)
  clear hneg hbig
  cases hrc : rowsC e.chains (e.base + (k : Int)) with
  | none =>
    rw [hrc] at HST
    unfold RowsTold at PRA
    rw [hrc] at PRA
    clear hrc
    go_wp2_with fail
    refine PRA.out.mono ?_
    rintro x w1 ⟨b9, n9, c9, ok, rfl, rfl, h9, hb9⟩
    have HB1 := hid (below_deep HB0.out hb9)
    clear h9 hb9 PRA
    simp only [Option.isSome_none]
    go_wp2
    go_ret2
    exact seen_told HST.out (nil_holds _) HB1.out
  | some r =>
    rw [hrc] at HST
    unfold RowsTold at PRA
    rw [hrc] at PRA
    clear hrc
    go_wp2_with fail
    refine PRA.out.mono ?_
    rintro x w1 ⟨b9, n9, c9, ok, rfl, rfl, h9, hb9⟩
    have HB1 := hid (below_deep HB0.out hb9)
    have H9 : Hid (Holds w1 b9 n9 c9 r) := h9
    clear h9 hb9 PRA
    simp only [Option.isSome_some]
    go_wp2
    go_ret2
    exact seen_told HST.out H9.out HB1.out

end Go.Proofs.YtagangiilcicpaeGreat

namespace Go.Proofs.YtagangiilcicpaeGreat
open Go.RowKit

end Go.Proofs.YtagangiilcicpaeGreat

namespace Go.Proofs.YtagangiilcicpaeGreat
open Go.RowKit

end Go.Proofs.YtagangiilcicpaeGreat

namespace Go.Proofs.YtagangiilcicpaeGreat
open Go.RowKit

set_option maxHeartbeats 400000 in
theorem same_calls (l : List Row) (ba bb : Option Addr) (ca cb : Nat) (w : World) (hl : l.length ≤ maxLen) (ha : Seg w ba l) (hb : Seg w bb l) :
    Calls Tryz.prog 18 #[.slice ba l.length ca, .slice bb l.length cb] w fun e w' => e = .returned (.bool true) ∧ Below w.heap.size w w' := by
  unfold maxLen at hl
  by_cases h0 : l = []
  · subst h0
    go_enter Tryz.func18, Tryz.ntmps18
    go_wp2
    go_loop [13] (fun i => i = .int .i64 0) (fun _ => 0)
    case atStart => rfl
    case round =>
      obtain rfl := hrel
      go_wp2
      go_ret
      exact ⟨rfl, Below.refl _ _⟩
  rcases ha with h | ⟨b1, o1, rfl, h1⟩
  · exact absurd h h0
  rcases hb with h | ⟨b2, o2, rfl, h2⟩
  · exact absurd h h0
  clear h0
  obtain ⟨n, hn⟩ : ∃ n, n = l.length := ⟨_, rfl⟩
  rw [← hn] at hl ⊢
  have HN : Hid (n = l.length) := hn
  clear hn
  have H1 : Hid (Cells w b1 o1 l) := h1
  have H2 : Hid (Cells w b2 o2 l) := h2
  clear h1 h2
  go_enter Tryz.func18, Tryz.ntmps18
  go_wp2
  go_loopw [13] (fun i wr => ∃ k : Nat, k ≤ n ∧ i = .int .i64 k ∧ ∃ q, wr = w.drewN q) (fun i _ => n - (intOf i).toNat)
  case atStart => exact ⟨0, Nat.zero_le _, rfl, 0, rfl⟩
  case round =>
    obtain ⟨k, hk, rfl, q, rfl⟩ := hrel
    by_cases hlt : k < n
    · obtain ⟨c1, d1⟩ := H1.out k (by rw [← HN.out]; exact hlt)
      obtain ⟨c2, d2⟩ := H2.out k (by rw [← HN.out]; exact hlt)
      generalize (l.getD k default).1 = kk at *
      generalize (l.getD k default).2 = nn at *
      have hi : (k : Int) < (n : Int) := by omega
      go_wp2
      go_quiet (fail)
      go_wp2
      go_roundw
      case rel => exact ⟨k + 1, by omega, by go_num, _, rfl⟩
      case measure => simp [intOf]; omega
    · go_wp2
      go_ret
      exact ⟨rfl, below_drewN (Below.refl _ _) q⟩
end Go.Proofs.YtagangiilcicpaeGreat

namespace Go.Proofs.YtagangiilcicpaeGreat
open Go.RowKit

theorem same_holds (l : List Row) (ba bb : Option Addr) (na nb ca cb : Nat) (w : World) (ha : Holds w ba na ca l) (hb : Holds w bb nb cb l) :
    Calls Tryz.prog 18 #[.slice ba na ca, .slice bb nb cb] w fun e w' => e = .returned (.bool true) ∧ Below w.heap.size w w' := by
  have h1 := ha.len
  have h2 := hb.len
  subst h1 h2
  exact same_calls l ba bb ca cb w (Nat.le_trans ha.hdr.le ha.hdr.max) ha.seg hb.seg

end Go.Proofs.YtagangiilcicpaeGreat

namespace Go.Proofs.YtagangiilcicpaeGreat
open Go.RowKit

end Go.Proofs.YtagangiilcicpaeGreat
