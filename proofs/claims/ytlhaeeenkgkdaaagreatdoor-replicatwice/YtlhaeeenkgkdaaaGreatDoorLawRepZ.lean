/-
  How the closed fact of chapter 10 reads its deed.
  The statements' build of chapter 10, walked.
  ReplicaTwice, walked, for whatever Come the program has that does as it should.
  The statement ReplicaTwice of the program, walked.
-/
import Derived.Test.YtlhaeeenkgkdaaaGreatDoorRepFinds
import Derived.Test.YtlhaeeenkgkdaaaGreatDoorLawRepA
import Derived.Test.YtlhaeeenkgkdaaaGreatDoorOpen
import Derived.Deep.RegionWith
import Derived.Test.YtlhaeeenkgkdaaaGreatDoorRepCatch
import Derived.Deep.DeepCutAuto
namespace Go.Proofs.YtlhaeeenkgkdaaaGreatDoor
open Go.RowKit

theorem read10_results (tmps : Array Value) (b : Nat) (w : World) {x y z : Value} (h2 : tmps.getD 2 undef = .pointer (some ⟨b, 0, none⟩)) (h : Three w b x y z) (hx : ∃ p q r, x = .slice p q r) (hy : ∃ p q r, y = .slice p q r) (hz : ∃ p q r, z = .slice p q r) :
   (results Tryz.f9 tmps).run Tryz.prog w = .ok (.agg #[x, y, z]) w := by
 have h2' : tmps[2]?.getD undef = .pointer (some ⟨b, 0, none⟩) := by simpa using h2
 obtain ⟨_, _, _, rfl⟩ := hx
 obtain ⟨_, _, _, rfl⟩ := hy
 obtain ⟨_, _, _, rfl⟩ := hz
 simp [results, Tryz.results9, go_sem, h2', h.c0, h.c1, h.c2]

set_option maxRecDepth 100000 in
set_option maxHeartbeats 2000000 in
theorem read10_calls (s : ByteArray) (d : Deed3) (w : World) (hG : GroundN w) (hs : s.size ≤ maxLen) (hd : readT (keyT s) = (0, d.1, d.2.1, d.2.2)) :
   Calls Tryz.prog 9 #[.string s] w fun e w' => ReadTold w w' d e := by
 have HA0 := hid (three_new w (.slice none 0 0) (.slice none 0 0) (.slice none 0 0) 44)
 have HG0 := hid (grew w (.cells #[.slice none 0 0, .slice none 0 0, .slice none 0 0] 44))
 have HP := hid (refParse_calls s _ (hG.below HG0.out) hs)
 rw [hd] at HP
 clear hG hs hd
 go_enter Tryz.func9, Tryz.ntmps9
 go_wp2_with fail
 refine HP.out.mono ?_
 rintro e w1 ⟨rb, rn, rc, wb, wn, wc, cb, cn, cc, rfl, hdi, hb1, f0, f1, f2⟩
 have q0 := (HA0.out.below hb1).c0
 have q1 := (HA0.out.below hb1).c1
 have q2 := (HA0.out.below hb1).c2
 have g0 := (HA0.out.below hb1).free 0
 have g1 := (HA0.out.below hb1).free 1
 have g2 := (HA0.out.below hb1).free 2
 have hlt := (HA0.out.below hb1).lt
 have hlt0 : w.heap.size < (w.alloc (.cells #[.slice none 0 0, .slice none 0 0, .slice none 0 0] 44)).heap.size := by rw [World.size_alloc]; omega
 have HDF : Hid (DeedIn ((setThree w1 w.heap.size (.slice rb rn rc) (.slice wb wn wc) (.slice cb cn cc)).alloc (.cells #[.slice rb rn rc, .slice wb wn wc, .slice cb cn cc] 44)) rb rn rc wb wn wc cb cn cc d.1 d.2.1 d.2.2) :=
   DeedIn.below ⟨three_lies f0 hlt0 hdi.tr, three_lies f1 hlt0 hdi.tw, three_lies f2 hlt0 hdi.cd⟩ (grew _ _)
 have HBF := hid (below_deep (below_three (below_deep HG0.out hb1) (Nat.le_refl w.heap.size) (.slice rb rn rc) (.slice wb wn wc) (.slice cb cn cc)) (grew _ (.cells #[.slice rb rn rc, .slice wb wn wc, .slice cb cn cc] 44)))
 have HTH := hid (((HA0.out.below hb1).all (.slice rb rn rc) (.slice wb wn wc) (.slice cb cn cc)).below (grew _ (.cells #[.slice rb rn rc, .slice wb wn wc, .slice cb cn cc] 44)))
 unfold setThree at HDF HBF HTH
 clear hdi hb1 f0 f1 f2
 go_wp2
 (try simp only [Exit.inBlock, Exit.then])
 refine bodyPost_ret (read10_results _ w.heap.size _ rfl ⟨HTH.out.c0, HTH.out.c1, HTH.out.c2⟩ ⟨_, _, _, rfl⟩ ⟨_, _, _, rfl⟩ ⟨_, _, _, rfl⟩) rfl ?_
 exact ⟨_, _, _, _, _, _, _, _, _, rfl, HDF.out, HBF.out⟩

theorem alive10_calls (w : World) (hG : GroundN w) (W0 : World) (hb0 : Below w.heap.size w W0) :
   Calls Tryz.prog 4 #[] W0 fun x w' => x = .returned (.bool true) ∧ Below W0.heap.size W0 w' := by
 refine ten_calls W0 fun s W hb e => ?_
 have hl : oneT.length = 63 := by decide
 have hz : (keyT s).length = s.size := keyT_len s
 exact read10_calls s oneD W ((hG.below hb0).below hb) (by rw [e] at hz; unfold maxLen; omega) (by rw [e]; exact one_read)
end Go.Proofs.YtlhaeeenkgkdaaaGreatDoor

namespace Go.Proofs.YtlhaeeenkgkdaaaGreatDoor
open Go.RowKit

set_option maxHeartbeats 16000000 in
set_option maxRecDepth 100000 in
theorem build10_calls (L : List Ent) (Pl : List Int) (lb : Option Addr) (ln lc : Nat) (pb : Option Addr) (pn pc : Nat) (w : World) (hL : EntsIn w lb ln lc L) (hP : Ints w pb pn pc Pl) :
   Calls Tryz.prog 6 #[.slice lb ln lc, .slice pb pn pc] w fun x w' => BuiltR w w' x := by
 have HL := hid hL
 have HP := hid hP
 have HLN := hid hL.len
 have HPN := hid (Ints.count hP)
 have hlm := Nat.le_trans hL.hdr.le hL.hdr.max
 unfold maxLen at hlm
 have HG0 := hid (grew w (.cells #[.slice none 0 0, .slice none 0 0, .slice none 0 0, .slice none 0 0, .int .i64 0, .int .i64 0, .slice none 0 0] 35))
 have HZ0 := hid ((Box.new w #[.slice none 0 0, .slice none 0 0, .slice none 0 0, .slice none 0 0, .int .i64 0, .int .i64 0, .slice none 0 0] 35).below (grew (w.alloc (.cells #[.slice none 0 0, .slice none 0 0, .slice none 0 0, .slice none 0 0, .int .i64 0, .int .i64 0, .slice none 0 0] 35)) (.cells #[.slice none 0 0, .slice none 0 0, .slice none 0 0, .slice none 0 0, .int .i64 0, .int .i64 0, .slice none 0 0] 35)))
 have HB0 := hid (below_deep HG0.out (grew (w.alloc (.cells #[.slice none 0 0, .slice none 0 0, .slice none 0 0, .slice none 0 0, .int .i64 0, .int .i64 0, .slice none 0 0] 35)) (.cells #[.slice none 0 0, .slice none 0 0, .slice none 0 0, .slice none 0 0, .int .i64 0, .int .i64 0, .slice none 0 0] 35)))
 have HX0 := hid (Box.new (w.alloc (.cells #[.slice none 0 0, .slice none 0 0, .slice none 0 0, .slice none 0 0, .int .i64 0, .int .i64 0, .slice none 0 0] 35)) #[.slice none 0 0, .slice none 0 0, .slice none 0 0, .slice none 0 0, .int .i64 0, .int .i64 0, .slice none 0 0] 35)
 rw [World.size_alloc] at HX0
 have HK0 : Hid (KeptR w ((w.alloc (.cells #[.slice none 0 0, .slice none 0 0, .slice none 0 0, .slice none 0 0, .int .i64 0, .int .i64 0, .slice none 0 0] 35)).alloc (.cells #[.slice none 0 0, .slice none 0 0, .slice none 0 0, .slice none 0 0, .int .i64 0, .int .i64 0, .slice none 0 0] 35)) (w.heap.size + 1)) := ⟨[], 0, _, _, newR, none, 0, 0, none, 0, 0, none, 0, 0, none, 0, 0, none, 0, 0, [], GoodR.new, HX0.out, newR_parts _ _⟩
 clear hL hP HG0 HX0
 go_enter Tryz.func6, Tryz.ntmps6
 go_wp2
 generalize (w.alloc (.cells #[.slice none 0 0, .slice none 0 0, .slice none 0 0, .slice none 0 0, .int .i64 0, .int .i64 0, .slice none 0 0] 35)).alloc (.cells #[.slice none 0 0, .slice none 0 0, .slice none 0 0, .slice none 0 0, .int .i64 0, .int .i64 0, .slice none 0 0] 35) = A at *
 go_loopw [14] (fun iv wr => ∃ j : Nat, iv = .int .i64 j ∧ j ≤ ln ∧ Hid (KeptR w wr (w.heap.size + 1)) ∧ Hid (Box wr w.heap.size nilR 35) ∧ Hid (Below w.heap.size w wr)) (fun iv _ => ln - (intOf iv).toNat)
 case atStart => exact ⟨0, rfl, Nat.zero_le _, HK0, HZ0, HB0⟩
 case round =>
   clear HK0 HZ0 HB0
   obtain ⟨j, rfl, hj, HK, HZ, HBR⟩ := hrel
   by_cases hlt : j < ln
   · have hjl : j < L.length := by rw [← HLN.out]; exact hlt
     have j1 : (j : Int) < (ln : Int) := by omega
     have j2 : (0 : Int) ≤ (j : Int) := by omega
     rcases (HL.out.below HBR.out).run with h | ⟨b1, o1, rfl, hrun⟩
     · omega
     obtain ⟨db, dn, dc, k0, k1, -⟩ := hrun j hlt
     have hev : ∃ db2 dn2 dc2, wr.cell? ⟨b1, o1 + j * 2 + 1, none⟩ = some (.slice db2 dn2 dc2) ∧ DeedsIn w db2 dn2 dc2 (L.getD j default).2 := by
       rcases HL.out.run with h | ⟨b2, o2, e2, hr2⟩
       · omega
       · cases e2
         obtain ⟨d1, d2, d3, _, q1, q2⟩ := hr2 j hlt
         exact ⟨d1, d2, d3, kept_cell HBR.out q1, q2⟩
     obtain ⟨db2, dn2, dc2, k1', hde⟩ := hev
     rw [k1] at k1'
     cases k1'
     have hb1 : b1 < wr.heap.size := by simpa using World.block_lt_of_cell? _ _ k0
     clear hrun
     generalize L.getD j default = e at *
     obtain ⟨en, eD⟩ := e
     simp only at k0 hde
     have HEV : Hid (EntV w (.agg #[.int .i64 en, .slice db dn dc]) (en, eD)) := ⟨db, dn, dc, rfl, hde⟩
     have HG := hid (grew wr (.cells #[.int .i64 en, .slice db dn dc] 26))
     have HY := hid (Box.new wr #[.int .i64 en, .slice db dn dc] 26)
     have HBG := hid (below_deep HBR.out HG.out)
     have PW := hid (refWrongE_calls (en, eD) (.agg #[.int .i64 en, .slice db dn dc]) (wr.alloc (.cells #[.int .i64 en, .slice db dn dc] 26)) (HEV.out.below HBG.out))
     have y0 := HY.out.cell 0 _ rfl
     have y1 := HY.out.cell 1 _ rfl
     clear hde
     go_wp2_with fail
     refine PW.out.mono ?_
     rintro x w1 ⟨rfl, hb1w⟩
     have HB1 := hid (below_deep HBG.out hb1w)
     have HK1 := hid ((HK.out.below HG.out).below hb1w)
     have HZ1 := hid ((HZ.out.below HG.out).below hb1w)
     have HY1 := hid (HY.out.below hb1w)
     clear PW y0 y1 k0 k1 HK HZ HG HY HBR HBG hb1w
     by_cases hw : wrongE (en, eD) = 0
     · have HRE := hid (wrongE_right.1 hw)
       obtain ⟨es, m, dq, bq, r, cb, cn, cc, db', dn', dc', sb, sn, sc, eb, en', ec, ab, an, ac, S, hG, hbox, hparts⟩ := HK1.out
       have HGR := hid hG
       have HX1 := hid hbox
       have HPT := hid hparts
       obtain ⟨x0, x1, x2, x3, x4, x5, x6⟩ := hbox.cells7
       obtain ⟨y0, y1⟩ : _ ∧ _ := ⟨HY1.out.cell 0 _ rfl, HY1.out.cell 1 _ rfl⟩
       have hxl : w.heap.size + 1 < w1.heap.size := hbox.lt
       have hyl : wr.heap.size < w1.heap.size := HY1.out.lt
       have PC := hid (refCome_calls hG (en, eD) HRE.out (.agg (repA cb cn cc db' dn' dc' sb sn sc eb en' ec r.eng.base r.next ab an ac)) (.agg #[.int .i64 en, .slice db dn dc]) w w1 HB1.out ⟨_, _, _, _, _, _, _, _, _, _, _, _, _, _, _, _, rfl, hparts⟩ HEV.out.at)
       obtain ⟨more, -, hcg, -⟩ := come_good hG HRE.out
       have HCG := hid hcg
       rw [hw]
       clear hG hbox hparts hcg HK1
       go_wp2_with fail
       refine PC.out.mono ?_
       rintro x w2 ⟨v2, rfl, ⟨cb2, cn2, cc2, db2, dn2, dc2, sb2, sn2, sc2, eb2, en2, ec2, ab2, an2, ac2, S2, rfl, hp2⟩, hb2⟩
       generalize (comeR r (en, eD)).1 = r2 at *
       generalize (comeR r (en, eD)).2 = q2 at *
       have HG2 := hid (grew w2 (.cells #[.slice cb2 cn2 cc2, .slice db2 dn2 dc2, .slice sb2 sn2 sc2, .slice eb2 en2 ec2, .int .i64 r2.eng.base, .int .i64 r2.next, .slice ab2 an2 ac2] 35))
       have HX2 := hid ((HX1.out.below hb2).below HG2.out)
       have HY2 := hid (Box.new w2 #[.slice cb2 cn2 cc2, .slice db2 dn2 dc2, .slice sb2 sn2 sc2, .slice eb2 en2 ec2, .int .i64 r2.eng.base, .int .i64 r2.next, .slice ab2 an2 ac2] 35)
       have HZ2 := hid ((HZ1.out.below hb2).below HG2.out)
       have HB2 := hid (below_deep HB1.out (below_deep hb2 HG2.out))
       have HP2 := hid (hp2.below HG2.out)
       have hxw : w.heap.size + 1 < w2.heap.size := (HX1.out.below hb2).lt
       clear hb2 hp2 PC x0 x1 x2 x3 x4 x5 x6 y0 y1 HX1 HZ1 HY1 HB1 HG2 HGR HPT hxl hyl
       go_upto_region 7 with fail
       generalize w2.alloc (.cells #[.slice cb2 cn2 cc2, .slice db2 dn2 dc2, .slice sb2 sn2 sc2, .slice eb2 en2 ec2, .int .i64 r2.eng.base, .int .i64 r2.next, .slice ab2 an2 ac2] 35) = A2 at *
       generalize w2.heap.size = bx at *
       obtain ⟨x0, x1, x2, x3, x4, x5, x6⟩ := HX2.out.cells7
       obtain ⟨f0, f1, f2, f3, f4, f5, f6⟩ := HX2.out.free7
       obtain ⟨y0, y1, y2, y3, y4, y5, y6⟩ := HY2.out.cells7
       have hxl : w.heap.size + 1 < A2.heap.size := HX2.out.lt
       have hyl : bx < A2.heap.size := HY2.out.lt
       have HK3 := hid (KeptR.put7 HCG.out HX2.out HP2.out)
       have HZ3 := hid (put7_far HZ2.out (show w.heap.size ≠ w.heap.size + 1 by omega) (.slice cb2 cn2 cc2) (.slice db2 dn2 dc2) (.slice sb2 sn2 sc2) (.slice eb2 en2 ec2) (.int .i64 r2.eng.base) (.int .i64 r2.next) (.slice ab2 an2 ac2))
       have HB3 := hid (put7_below HB2.out (Nat.le_succ _) (.slice cb2 cn2 cc2) (.slice db2 dn2 dc2) (.slice sb2 sn2 sc2) (.slice eb2 en2 ec2) (.int .i64 r2.eng.base) (.int .i64 r2.next) (.slice ab2 an2 ac2))
       go_upto_region 8 with fail
       unfold put7 at HK3 HZ3 HB3
       generalize ((((((A2.setCell ⟨w.heap.size + 1, 0, none⟩ (.slice cb2 cn2 cc2)).setCell ⟨w.heap.size + 1, 1, none⟩ (.slice db2 dn2 dc2)).setCell ⟨w.heap.size + 1, 2, none⟩ (.slice sb2 sn2 sc2)).setCell ⟨w.heap.size + 1, 3, none⟩ (.slice eb2 en2 ec2)).setCell ⟨w.heap.size + 1, 4, none⟩ (.int .i64 r2.eng.base)).setCell ⟨w.heap.size + 1, 5, none⟩ (.int .i64 r2.next)).setCell ⟨w.heap.size + 1, 6, none⟩ (.slice ab2 an2 ac2) = W at *
       clear x0 x1 x2 x3 x4 x5 x6 f0 f1 f2 f3 f4 f5 f6 y0 y1 y2 y3 y4 y5 y6 hxl hyl HX2 HY2 HZ2 HB2 HP2 HCG
       by_cases hjp : j < pn
       · have hjp' : (j : Int) < (pn : Int) := by omega
         have hjP : j < Pl.length := by rw [← HPN.out]; exact hjp
         obtain ⟨b2, o2, rfl, c0⟩ : ∃ b2 o2, pb = some ⟨b2, o2, none⟩ ∧ w.cell? ⟨b2, o2 + j, none⟩ = some (.int .i64 (Pl.getD j 0)) := by
           rcases HP.out.run with h | ⟨b2, o2, e2, hr2⟩
           · omega
           · exact ⟨b2, o2, e2, hr2 j _ (intsC_at hjP)⟩
         obtain ⟨es3, m3, dq3, bq3, r3, cb3, cn3, cc3, db3, dn3, dc3, sb3, sn3, sc3, eb3, en3, ec3, ab3, an3, ac3, S3, hG3, hbox3, hparts3⟩ := HK3.out
         have hfew : (deedsOf es3).length ≤ 1954687338211 := Nat.le_trans hG3.few (by decide)
         have HGR := hid hG3
         have HFW := hid hfew
         have HX3 := hid hbox3
         have HP3 := hid hparts3
         obtain ⟨x0, x1, x2, x3, x4, x5, x6⟩ := hbox3.cells7
         have hxl : w.heap.size + 1 < W.heap.size := hbox3.lt
         have PR := hid (refReady_calls hG3.eng hfew (.agg #[.slice cb3 cn3 cc3, .slice db3 dn3 dc3, .slice sb3 sn3 sc3, .slice eb3 en3 ec3, .int .i64 r3.eng.base]) W ⟨_, _, _, _, _, _, _, _, _, _, _, _, rfl, hparts3.eng⟩)
         generalize Pl.getD j 0 = x at *
         have HC0 := hid c0
         clear hG3 hfew hbox3 hparts3 HK3 c0
         go_wp2_with fail
         refine PR.out.mono ?_
         rintro _ w3 ⟨nb, nn, nc, rfl, hn3, hb3⟩
         have HN3 := hid hn3
         have HX4 := hid (HX3.out.below hb3)
         have HP4 := hid (HP3.out.below hb3)
         have HZ4 := hid (HZ3.out.below hb3)
         have HB4 := hid (below_deep HB3.out hb3)
         have hnm := Nat.le_trans hn3.hdr.le hn3.hdr.max
         unfold maxLen at hnm
         have HK4 : Hid (KeptR w w3 (w.heap.size + 1)) := ⟨_, _, _, _, _, _, _, _, _, _, _, _, _, _, _, _, _, _, _, _, _, HGR.out, HX4.out, HP4.out⟩
         have c1 := kept_cell HB4.out HC0.out
         have hb2l : b2 < w3.heap.size := by simpa using World.block_lt_of_cell? _ _ c1
         clear x0 x1 x2 x3 x4 x5 x6 hxl PR hn3 hb3 HX3 HP3 HZ3 HB3
         obtain ⟨x0, x1, x2, x3, x4, x5, x6⟩ := HX4.out.cells7
         obtain ⟨f0, f1, f2, f3, f4, f5, f6⟩ := HX4.out.free7
         have hxl : w.heap.size + 1 < w3.heap.size := HX4.out.lt
         by_cases hq : 0 ≤ x ∧ x < nn
         · obtain ⟨q, rfl⟩ : ∃ q : Nat, x = (q : Int) := ⟨x.toNat, by omega⟩
           have hqn : q < nn := by omega
           have dq1 : decide ((q : Int) < (nn : Int)) = true := by simpa using hqn
           have hqi : (q : Int) < (nn : Int) := by omega
           have hql : q < (ints (readyE r3.eng)).length := by rw [← Ints.count HN3.out]; exact hqn
           have hqr : q < (readyE r3.eng).length := by simpa [ints] using hql
           obtain ⟨b5, o5, rfl, hr5⟩ : ∃ b5 o5, nb = some ⟨b5, o5, none⟩ ∧ Run w3 b5 o5 (intsC (ints (readyE r3.eng))) := by
             rcases HN3.out.run with h | h
             · omega
             · exact h
           have hgd : (ints (readyE r3.eng)).getD q 0 = (((readyE r3.eng).getD q 0 : Nat) : Int) := by simp [ints, List.getD, hqr]
           have c5 := hr5 q _ (intsC_at hql)
           rw [hgd] at c5
           have hmem : (readyE r3.eng).getD q 0 ∈ readyE r3.eng := by
             rw [List.getD_eq_getElem?_getD, List.getElem?_eq_getElem hqr]
             exact List.getElem_mem hqr
           have hrg := ready_goE HGR.out.eng hmem
           have hgo := (ready_mem HGR.out.eng).1 hmem
           have HGG := hid (HGR.out.eng.go hgo.1 hgo.2.2)
           have hb5 : b5 < w3.heap.size := by simpa using World.block_lt_of_cell? _ _ c5
           have PG := hid (fun W hv => refGoE_calls HGR.out.eng HFW.out (((readyE r3.eng).getD q 0 : Nat) : Int) (.agg #[.slice cb3 cn3 cc3, .slice db3 dn3 dc3, .slice sb3 sn3 sc3, .slice eb3 en3 ec3, .int .i64 r3.eng.base]) W hv)
           unfold GoTold at PG
           rw [hrg] at PG
           clear hr5 hgd hmem hrg hgo hql hqr hq hqn HN3 HK4
           generalize (readyE r3.eng).getD q 0 = z at *
           go_wp2
           go_region_with ((go_at_call 18; refine (PG.out _ ⟨_, _, _, _, _, _, _, _, _, _, _, _, rfl, HP4.out.eng.below (step_drew (Below.refl _ _))⟩).mono ?_; rintro _ w4 ⟨v4, rfl, hv4, hb4⟩; obtain ⟨cb4, cn4, cc4, db4, dn4, dc4, sb4, sn4, sc4, eb4, en4, ec4, rfl, hl4⟩ := hv4; have HX5 := hid ((HX4.out.below (step_drew (Below.refl _ _))).below hb4); obtain ⟨s0, s1, s2, s3, s4, s5, s6⟩ := HX5.out.cells7; obtain ⟨f0, f1, f2, f3, f4, f5, f6⟩ := HX5.out.free7; have hb4l : w.heap.size + 1 < w4.heap.size := HX5.out.lt))
           all_goals
             have HK5 := hid (KeptR.put5 HGR.out HX4.out HP4.out (below_deep (step_drew (Below.refl _ _)) hb4) HGG.out hl4)
             have HZ5 := hid (put5_far ((HZ4.out.below (step_drew (Below.refl _ _))).below hb4) (show w.heap.size ≠ w.heap.size + 1 by omega) (.slice cb4 cn4 cc4) (.slice db4 dn4 dc4) (.slice sb4 sn4 sc4) (.slice eb4 en4 ec4) (.int .i64 (goE r3.eng z).base))
             have HB5 := hid (put5_below (below_deep (below_deep HB4.out (step_drew (Below.refl _ _))) hb4) (Nat.le_succ _) (.slice cb4 cn4 cc4) (.slice db4 dn4 dc4) (.slice sb4 sn4 sc4) (.slice eb4 en4 ec4) (.int .i64 (goE r3.eng z).base))
             unfold put5 at HK5 HZ5 HB5
             go_wp2
             go_roundw
             case rel => exact ⟨j + 1, by go_num, hlt, HK5, HZ5, HB5⟩
             case measure => simp [intOf]; omega
         · by_cases h7 : x = 7
           · subst h7
             have hn7 : ¬ ((7 : Int) < (nn : Int)) := fun h => hq ⟨by decide, h⟩
             have dq1 : decide ((7 : Int) < (nn : Int)) = false := by simpa using hn7
             have PC := hid (refClearE_calls HGR.out.eng HFW.out (.agg #[.slice cb3 cn3 cc3, .slice db3 dn3 dc3, .slice sb3 sn3 sc3, .slice eb3 en3 ec3, .int .i64 r3.eng.base]) w3 ⟨_, _, _, _, _, _, _, _, _, _, _, _, rfl, HP4.out.eng⟩)
             go_wp2_with fail
             refine PC.out.mono ?_
             rintro _ w4 ⟨v4, rfl, hv4, hb4⟩
             obtain ⟨cb4, cn4, cc4, db4, dn4, dc4, sb4, sn4, sc4, eb4, en4, ec4, rfl, hl4⟩ := hv4
             have HX5 := hid (HX4.out.below hb4)
             have HK5 := hid (KeptR.put5 HGR.out HX4.out HP4.out hb4 (mark_clear HGR.out.eng) hl4)
             have HZ5 := hid (put5_far (HZ4.out.below hb4) (show w.heap.size ≠ w.heap.size + 1 by omega) (.slice cb4 cn4 cc4) (.slice db4 dn4 dc4) (.slice sb4 sn4 sc4) (.slice eb4 en4 ec4) (.int .i64 (clearE r3.eng (markE r3.eng)).base))
             have HB5 := hid (put5_below (below_deep HB4.out hb4) (Nat.le_succ _) (.slice cb4 cn4 cc4) (.slice db4 dn4 dc4) (.slice sb4 sn4 sc4) (.slice eb4 en4 ec4) (.int .i64 (clearE r3.eng (markE r3.eng)).base))
             clear x0 x1 x2 x3 x4 x5 x6 f0 f1 f2 f3 f4 f5 f6 hxl
             obtain ⟨y0, y1, y2, y3, y4, y5, y6⟩ := HX5.out.cells7
             obtain ⟨f0, f1, f2, f3, f4, f5, f6⟩ := HX5.out.free7
             have hb4l : w.heap.size + 1 < w4.heap.size := HX5.out.lt
             unfold put5 at HK5 HZ5 HB5
             clear hb4 hl4 PC
             generalize (clearE r3.eng (markE r3.eng)).base = bs4 at *
             go_wp2
             go_roundw
             case rel => exact ⟨j + 1, by go_num, hlt, HK5, HZ5, HB5⟩
             case measure => simp [intOf]; omega
           · have t7 : (x == 7) = false := by simpa using h7
             by_cases hneg : 0 ≤ x
             · have dq2 : ¬ (x < (nn : Int)) := fun h => hq ⟨hneg, h⟩
               have dq1 : decide (x < (nn : Int)) = false := by simpa using dq2
               go_wp2
               go_roundw
               case rel => exact ⟨j + 1, by go_num, hlt, HK4, HZ4, HB4⟩
               case measure => simp [intOf]; omega
             · have dq0 : decide (0 ≤ x) = false := by simpa using hneg
               go_wp2
               go_roundw
               case rel => exact ⟨j + 1, by go_num, hlt, HK4, HZ4, HB4⟩
               case measure => simp [intOf]; omega
       · have hjp' : ¬ (j : Int) < (pn : Int) := by omega
         go_wp2
         go_roundw
         case rel => exact ⟨j + 1, by go_num, hlt, HK3, HZ3, HB3⟩
         case measure => simp [intOf]; omega
     · have t : (wrongE (en, eD) == 0) = false := by simpa using hw
       go_wp2
       go_roundw
       case rel => exact ⟨j + 1, by go_num, hlt, HK1, HZ1, HB1⟩
       case measure => simp [intOf]; omega
   · obtain rfl : j = ln := by omega
     obtain ⟨es, m, dq, bq, r, cb, cn, cc, db', dn', dc', sb, sn, sc, eb, en', ec, ab, an, ac, S, hG, hbox, hparts⟩ := HK.out
     have HGR := hid hG
     have HX1 := hid hbox
     obtain ⟨x0, x1, x2, x3, x4, x5, x6⟩ := hbox.cells7
     obtain ⟨y0, y1, y2, y3, y4, y5, y6⟩ := HZ.out.cells7
     obtain ⟨g0, g1, g2, g3, g4, g5, g6⟩ := HZ.out.free7
     have hxl : w.heap.size + 1 < wr.heap.size := hbox.lt
     have hzl : w.heap.size < wr.heap.size := HZ.out.lt
     have HBF := hid (put7_box HZ.out (.slice cb cn cc) (.slice db' dn' dc') (.slice sb sn sc) (.slice eb en' ec) (.int .i64 r.eng.base) (.int .i64 r.next) (.slice ab an ac))
     have HBL := hid (put7_below HBR.out (Nat.le_refl w.heap.size) (.slice cb cn cc) (.slice db' dn' dc') (.slice sb sn sc) (.slice eb en' ec) (.int .i64 r.eng.base) (.int .i64 r.next) (.slice ab an ac))
     have HRL := hid (hparts.put HZ.out (put7_off wr w.heap.size (.slice cb cn cc) (.slice db' dn' dc') (.slice sb sn sc) (.slice eb en' ec) (.int .i64 r.eng.base) (.int .i64 r.next) (.slice ab an ac)))
     clear hG hbox hparts HK
     go_wp2
     refine bodyPost_ret (build10_results _ w.heap.size _ rfl HBF.out) rfl ?_
     exact ⟨_, es, m, dq, bq, r, rfl, HGR.out, ⟨_, _, _, _, _, _, _, _, _, _, _, _, _, _, _, _, rfl, HRL.out⟩, HBL.out⟩
end Go.Proofs.YtlhaeeenkgkdaaaGreatDoor

namespace Go.Proofs.YtlhaeeenkgkdaaaGreatDoor
open Go.RowKit

theorem RepParts.now {w0 w : World} {cb db sb eb ab : Option Addr} {cn cc dn dc sn sc en ec an ac : Nat} {S : List ESlot} {r : Rep} (h : RepParts w0 w cb cn cc db dn dc sb sn sc eb en ec ab an ac S r) (h0 : Below w0.heap.size w0 w) : RepParts w w cb cn cc db dn dc sb sn sc eb en ec ab an ac S r :=
 ⟨h.eng, h.row, h.slots.now h0, h.kind⟩
def ComeDoes : Prop := ∀ (es : List Ent) (m : Nat) (dn : Nat → Bool) (bq : ByteArray → Int) (r : Rep), GoodR es m dn bq r → ∀ e : Ent, RightEnt e → ∀ (rv ev : Value) (w0 w : World), Below w0.heap.size w0 w → RepAt w0 w rv r → EntAt w0 w ev e → Calls Tryz.prog 7 #[rv, ev] w fun x w' => RepNumAt w0 w w' (comeR r e) x

set_option maxHeartbeats 16000000 in
set_option maxRecDepth 100000 in
theorem twice_calls (HC : ComeDoes) (L : List Ent) (Pl : List Int) (e : Ent) (lb : Option Addr) (ln lc : Nat) (pb : Option Addr) (pn pc : Nat) (ev : Value) (w : World)
   (hA : ∀ W, Below w.heap.size w W → Calls Tryz.prog 4 #[] W fun x w' => x = .returned (.bool true) ∧ Below W.heap.size W w') (hL : EntsIn w lb ln lc L) (hP : Ints w pb pn pc Pl) (hev : EntV w ev e) :
   Calls Tryz.prog 3 #[.slice lb ln lc, .slice pb pn pc, ev] w fun x w' => x = .returned (.bool true) ∧ Below w.heap.size w w' := by
 obtain ⟨qb, qn, qc, rfl, hq⟩ := hev
 have HEV : Hid (EntV w (.agg #[.int .i64 e.1, .slice qb qn qc]) e) := ⟨qb, qn, qc, rfl, hq⟩
 have HG0 := hid (grew w (.cells #[.int .i64 e.1, .slice qb qn qc] 26))
 have HE0 := hid (Box.new w #[.int .i64 e.1, .slice qb qn qc] 26)
 have PA := hid (hA _ HG0.out)
 have HL := hid hL
 have HP := hid hP
 clear hq hA hL hP
 generalize he : e.1 = ei at *
 clear he
 go_enter Tryz.func3, Tryz.ntmps3
 go_wp2_with fail
 refine PA.out.mono ?_
 rintro x w1 ⟨rfl, hb1⟩
 have HB1 := hid (below_deep HG0.out hb1)
 have HE1 := hid (HE0.out.below hb1)
 have PW := hid (refWrongE_calls e (.agg #[.int .i64 ei, .slice qb qn qc]) w1 (HEV.out.below HB1.out))
 have y0 := HE1.out.cell 0 _ rfl
 have y1 := HE1.out.cell 1 _ rfl
 have hyl : w.heap.size < w1.heap.size := HE1.out.lt
 clear hb1 PA HG0 HE0
 go_wp2_with fail
 refine PW.out.mono ?_
 rintro x w2 ⟨rfl, hb2⟩
 have HB2 := hid (below_deep HB1.out hb2)
 have HE2 := hid (HE1.out.below hb2)
 clear hb2 PW y0 y1 hyl HE1 HB1
 by_cases hw : wrongE e = 0
 · have HRE := hid (wrongE_right.1 hw)
   rw [hw]
   clear hw
   have PB := hid (build10_calls L Pl lb ln lc pb pn pc w2 (HL.out.below HB2.out) (HP.out.below (by decide) HB2.out))
   go_wp2_with fail
   refine PB.out.mono ?_
   rintro x w3 ⟨v3, es, m, dq, bq, r, rfl, hG, ⟨cb3, cn3, cc3, db3, dn3, dc3, sb3, sn3, sc3, eb3, en3, ec3, ab3, an3, ac3, S3, rfl, hp3⟩, hb3⟩
   have HGR := hid hG
   have HG3 := hid (grew w3 (.cells #[.slice cb3 cn3 cc3, .slice db3 dn3 dc3, .slice sb3 sn3 sc3, .slice eb3 en3 ec3, .int .i64 r.eng.base, .int .i64 r.next, .slice ab3 an3 ac3] 35))
   have HX3 := hid (Box.new w3 #[.slice cb3 cn3 cc3, .slice db3 dn3 dc3, .slice sb3 sn3 sc3, .slice eb3 en3 ec3, .int .i64 r.eng.base, .int .i64 r.next, .slice ab3 an3 ac3] 35)
   have HP3 := hid ((hp3.below HG3.out).now (below_deep hb3 HG3.out))
   have HB3 := hid (below_deep HB2.out (below_deep hb3 HG3.out))
   have HE3 := hid (HE2.out.below (below_deep hb3 HG3.out))
   have hr3 : w.heap.size < w3.heap.size := (HE2.out.below hb3).lt
   clear hb3 hp3 PB HG3 HE2 HB2 hG
   go_upto_region 6 with fail
   generalize w3.alloc (.cells #[.slice cb3 cn3 cc3, .slice db3 dn3 dc3, .slice sb3 sn3 sc3, .slice eb3 en3 ec3, .int .i64 r.eng.base, .int .i64 r.next, .slice ab3 an3 ac3] 35) = A3 at *
   generalize w3.heap.size = b3 at *
   have PC := hid (HC es m dq bq r HGR.out e HRE.out (.agg #[.slice cb3 cn3 cc3, .slice db3 dn3 dc3, .slice sb3 sn3 sc3, .slice eb3 en3 ec3, .int .i64 r.eng.base, .int .i64 r.next, .slice ab3 an3 ac3]) (.agg #[.int .i64 ei, .slice qb qn qc]) A3 A3 (Below.refl _ _) ⟨_, _, _, _, _, _, _, _, _, _, _, _, _, _, _, _, rfl, HP3.out⟩ (HEV.out.below HB3.out).at)
   obtain ⟨x0, x1, x2, x3, x4, x5, x6⟩ := HX3.out.cells7
   have y0 := HE3.out.cell 0 _ rfl
   have y1 := HE3.out.cell 1 _ rfl
   have hxl : b3 < A3.heap.size := HX3.out.lt
   have hyl : w.heap.size < A3.heap.size := HE3.out.lt
   obtain ⟨more, -, hcg, -⟩ := come_good HGR.out HRE.out
   have HTW : Hid (((comeR r e).2 = 5 ∧ (comeR r e).1 = r ∧ (comeR (comeR r e).1 e).1 = r ∧ (comeR (comeR r e).1 e).2 = 5) ∨ ((comeR r e).2 ≠ 5 ∧ (comeR (comeR r e).1 e).1 = (comeR r e).1 ∧ (comeR (comeR r e).1 e).2 = 11 ∧ ((comeR r e).2 = 11 → (comeR r e).1 = r))) := by
     obtain ⟨t1, t2, t3⟩ := come_twice r e
     by_cases h5 : (comeR r e).2 = 5
     · exact .inl ⟨h5, t1 h5, by rw [t1 h5]; exact t1 h5, by rw [t1 h5]; exact h5⟩
     · exact .inr ⟨h5, by rw [t2 h5], by rw [t2 h5], t3⟩
   have HCG := hid hcg
   clear hcg
   go_wp2_with fail
   refine PC.out.mono ?_
   rintro x w4 ⟨v4, rfl, ⟨cb4, cn4, cc4, db4, dn4, dc4, sb4, sn4, sc4, eb4, en4, ec4, ab4, an4, ac4, S4, rfl, hp4⟩, hb4⟩
   generalize (comeR r e).1 = r1 at *
   generalize (comeR r e).2 = q1 at *
   have HG4 := hid (grew w4 (.cells #[.slice cb4 cn4 cc4, .slice db4 dn4 dc4, .slice sb4 sn4 sc4, .slice eb4 en4 ec4, .int .i64 r1.eng.base, .int .i64 r1.next, .slice ab4 an4 ac4] 35))
   have HX4 := hid (Box.new w4 #[.slice cb4 cn4 cc4, .slice db4 dn4 dc4, .slice sb4 sn4 sc4, .slice eb4 en4 ec4, .int .i64 r1.eng.base, .int .i64 r1.next, .slice ab4 an4 ac4] 35)
   have HP4 := hid ((hp4.below HG4.out).now (below_deep hb4 HG4.out))
   have HBB := hid (below_deep hb4 HG4.out)
   have HB4 := hid (below_deep HB3.out HBB.out)
   have HE4 := hid (HE3.out.below HBB.out)
   have HX34 := hid (HX3.out.below HBB.out)
   have HP34 := hid ((HP3.out.below HBB.out).now HBB.out)
   have hr4 : b3 < w4.heap.size := (HX3.out.below hb4).lt
   have hr5 : w.heap.size < w4.heap.size := (HE3.out.below hb4).lt
   clear hb4 hp4 PC HG4 HE3 HB3 HBB HX3 HP3 x0 x1 x2 x3 x4 x5 x6 y0 y1 hxl hyl
   go_upto_region 7 with fail
   generalize w4.alloc (.cells #[.slice cb4 cn4 cc4, .slice db4 dn4 dc4, .slice sb4 sn4 sc4, .slice eb4 en4 ec4, .int .i64 r1.eng.base, .int .i64 r1.next, .slice ab4 an4 ac4] 35) = A4 at *
   generalize w4.heap.size = b4 at *
   have PC := hid (HC _ m dq bq r1 HCG.out e HRE.out (.agg #[.slice cb4 cn4 cc4, .slice db4 dn4 dc4, .slice sb4 sn4 sc4, .slice eb4 en4 ec4, .int .i64 r1.eng.base, .int .i64 r1.next, .slice ab4 an4 ac4]) (.agg #[.int .i64 ei, .slice qb qn qc]) A4 A4 (Below.refl _ _) ⟨_, _, _, _, _, _, _, _, _, _, _, _, _, _, _, _, rfl, HP4.out⟩ (HEV.out.below HB4.out).at)
   obtain ⟨x0, x1, x2, x3, x4, x5, x6⟩ := HX4.out.cells7
   have y0 := HE4.out.cell 0 _ rfl
   have y1 := HE4.out.cell 1 _ rfl
   have hxl : b4 < A4.heap.size := HX4.out.lt
   have hyl : w.heap.size < A4.heap.size := HE4.out.lt
   go_wp2_with fail
   refine PC.out.mono ?_
   rintro x w5 ⟨v5, rfl, ⟨cb5, cn5, cc5, db5, dn5, dc5, sb5, sn5, sc5, eb5, en5, ec5, ab5, an5, ac5, S5, rfl, hp5⟩, hb5⟩
   have HG5 := hid (grew w5 (.cells #[.slice cb5 cn5 cc5, .slice db5 dn5 dc5, .slice sb5 sn5 sc5, .slice eb5 en5 ec5, .int .i64 (comeR r1 e).1.eng.base, .int .i64 (comeR r1 e).1.next, .slice ab5 an5 ac5] 35))
   have HX5 := hid (Box.new w5 #[.slice cb5 cn5 cc5, .slice db5 dn5 dc5, .slice sb5 sn5 sc5, .slice eb5 en5 ec5, .int .i64 (comeR r1 e).1.eng.base, .int .i64 (comeR r1 e).1.next, .slice ab5 an5 ac5] 35)
   have HP5 := hid ((hp5.below HG5.out).now (below_deep hb5 HG5.out))
   have HBB := hid (below_deep hb5 HG5.out)
   have HB5 := hid (below_deep HB4.out HBB.out)
   have HX45 := hid (HX4.out.below HBB.out)
   have HX35 := hid (HX34.out.below HBB.out)
   have HP45 := hid ((HP4.out.below HBB.out).now HBB.out)
   have HP35 := hid ((HP34.out.below HBB.out).now HBB.out)
   have hr6 : b4 < w5.heap.size := (HX4.out.below hb5).lt
   have hr7 : b3 < w5.heap.size := (HX34.out.below hb5).lt
   clear hb5 hp5 PC HG5 HE4 HB4 HBB HX4 HX34 HP4 HP34 x0 x1 x2 x3 x4 x5 x6 y0 y1 hxl hyl
   go_upto_region 8 with fail
   generalize w5.alloc (.cells #[.slice cb5 cn5 cc5, .slice db5 dn5 dc5, .slice sb5 sn5 sc5, .slice eb5 en5 ec5, .int .i64 (comeR r1 e).1.eng.base, .int .i64 (comeR r1 e).1.next, .slice ab5 an5 ac5] 35) = A5 at *
   generalize w5.heap.size = b5 at *
   generalize (comeR r1 e).1 = r2 at *
   generalize (comeR r1 e).2 = q2 at *
   have HR0 := hid (Below.refl A5.heap.size A5)
   rcases HTW.out with ⟨rfl, rfl, rfl, rfl⟩ | ⟨h5, rfl, rfl, h11⟩
   · have PS := hid (sameRep_calls r2 (.agg #[.slice cb4 cn4 cc4, .slice db4 dn4 dc4, .slice sb4 sn4 sc4, .slice eb4 en4 ec4, .int .i64 r2.eng.base, .int .i64 r2.next, .slice ab4 an4 ac4]) (.agg #[.slice cb3 cn3 cc3, .slice db3 dn3 dc3, .slice sb3 sn3 sc3, .slice eb3 en3 ec3, .int .i64 r2.eng.base, .int .i64 r2.next, .slice ab3 an3 ac3]) A5 ⟨_, _, _, _, _, _, _, _, _, _, _, _, _, _, _, rfl, HP45.out.lies HR0.out⟩ ⟨_, _, _, _, _, _, _, _, _, _, _, _, _, _, _, rfl, HP35.out.lies HR0.out⟩)
     obtain ⟨x0, x1, x2, x3, x4, x5, x6⟩ := HX45.out.cells7
     obtain ⟨y0, y1, y2, y3, y4, y5, y6⟩ := HX35.out.cells7
     have hxl : b4 < A5.heap.size := HX45.out.lt
     have hyl : b3 < A5.heap.size := HX35.out.lt
     go_wp2_with fail
     refine PS.out.mono ?_
     rintro x w6 ⟨rfl, hb6⟩
     have HB6 := hid hb6
     have PS := hid (sameRep_calls r2 (.agg #[.slice cb5 cn5 cc5, .slice db5 dn5 dc5, .slice sb5 sn5 sc5, .slice eb5 en5 ec5, .int .i64 r2.eng.base, .int .i64 r2.next, .slice ab5 an5 ac5]) (.agg #[.slice cb3 cn3 cc3, .slice db3 dn3 dc3, .slice sb3 sn3 sc3, .slice eb3 en3 ec3, .int .i64 r2.eng.base, .int .i64 r2.next, .slice ab3 an3 ac3]) w6 ⟨_, _, _, _, _, _, _, _, _, _, _, _, _, _, _, rfl, (HP5.out.lies HR0.out).below HB6.out⟩ ⟨_, _, _, _, _, _, _, _, _, _, _, _, _, _, _, rfl, (HP35.out.lies HR0.out).below HB6.out⟩)
     obtain ⟨x0, x1, x2, x3, x4, x5, x6⟩ := (HX5.out.below hb6).cells7
     obtain ⟨y0, y1, y2, y3, y4, y5, y6⟩ := (HX35.out.below hb6).cells7
     have hxl : b5 < w6.heap.size := (HX5.out.below hb6).lt
     have hyl : b3 < w6.heap.size := (HX35.out.below hb6).lt
     clear hb6
     go_wp2_with fail
     refine PS.out.mono ?_
     rintro x w7 ⟨rfl, hb7⟩
     have HB7 := hid (below_deep HB5.out (below_deep HB6.out hb7))
     clear hb7 PS
     go_wp2
     go_ret
     exact ⟨rfl, HB7.out⟩
   · have t5 : (q1 == 5) = false := by simpa using h5
     have PS := hid (sameRep_calls r2 (.agg #[.slice cb4 cn4 cc4, .slice db4 dn4 dc4, .slice sb4 sn4 sc4, .slice eb4 en4 ec4, .int .i64 r2.eng.base, .int .i64 r2.next, .slice ab4 an4 ac4]) (.agg #[.slice cb5 cn5 cc5, .slice db5 dn5 dc5, .slice sb5 sn5 sc5, .slice eb5 en5 ec5, .int .i64 r2.eng.base, .int .i64 r2.next, .slice ab5 an5 ac5]) A5 ⟨_, _, _, _, _, _, _, _, _, _, _, _, _, _, _, rfl, HP45.out.lies HR0.out⟩ ⟨_, _, _, _, _, _, _, _, _, _, _, _, _, _, _, rfl, HP5.out.lies HR0.out⟩)
     obtain ⟨x0, x1, x2, x3, x4, x5, x6⟩ := HX45.out.cells7
     obtain ⟨y0, y1, y2, y3, y4, y5, y6⟩ := HX5.out.cells7
     have hxl : b4 < A5.heap.size := HX45.out.lt
     have hyl : b5 < A5.heap.size := HX5.out.lt
     by_cases h1 : q1 = 11
     · obtain rfl := h11 h1
       subst h1
       go_wp2_with fail
       refine PS.out.mono ?_
       rintro x w6 ⟨rfl, hb6⟩
       have HB6 := hid hb6
       have PS := hid (sameRep_calls r2 (.agg #[.slice cb4 cn4 cc4, .slice db4 dn4 dc4, .slice sb4 sn4 sc4, .slice eb4 en4 ec4, .int .i64 r2.eng.base, .int .i64 r2.next, .slice ab4 an4 ac4]) (.agg #[.slice cb3 cn3 cc3, .slice db3 dn3 dc3, .slice sb3 sn3 sc3, .slice eb3 en3 ec3, .int .i64 r2.eng.base, .int .i64 r2.next, .slice ab3 an3 ac3]) w6 ⟨_, _, _, _, _, _, _, _, _, _, _, _, _, _, _, rfl, (HP45.out.lies HR0.out).below HB6.out⟩ ⟨_, _, _, _, _, _, _, _, _, _, _, _, _, _, _, rfl, (HP35.out.lies HR0.out).below HB6.out⟩)
       obtain ⟨x0, x1, x2, x3, x4, x5, x6⟩ := (HX45.out.below hb6).cells7
       obtain ⟨y0, y1, y2, y3, y4, y5, y6⟩ := (HX35.out.below hb6).cells7
       have hxl : b4 < w6.heap.size := (HX45.out.below hb6).lt
       have hyl : b3 < w6.heap.size := (HX35.out.below hb6).lt
       clear hb6
       go_wp2_with fail
       refine PS.out.mono ?_
       rintro x w7 ⟨rfl, hb7⟩
       have HB7 := hid (below_deep HB5.out (below_deep HB6.out hb7))
       clear hb7 PS
       go_wp2
       go_ret
       exact ⟨rfl, HB7.out⟩
     · have t11 : (q1 == 11) = false := by simpa using h1
       go_wp2_with fail
       refine PS.out.mono ?_
       rintro x w6 ⟨rfl, hb6⟩
       have HB6 := hid (below_deep HB5.out hb6)
       clear hb6 PS
       go_wp2
       go_ret
       exact ⟨rfl, HB6.out⟩
 · have t : (wrongE e == 0) = false := by simpa using hw
   go_wp2
   go_ret
   exact ⟨rfl, HB2.out⟩
end Go.Proofs.YtlhaeeenkgkdaaaGreatDoor

namespace Go.Proofs.YtlhaeeenkgkdaaaGreatDoor
open Go.RowKit

theorem DeedsAt.toIn {w0 w : World} {v : Value} {x : Ent} (h : EntAt w0 w v x) (h0 : Below w0.heap.size w0 w) : EntV w v x := by
 obtain ⟨db, dn, dc, e, h⟩ := h
 exact ⟨db, dn, dc, e, h.is h0⟩
theorem come_does : ComeDoes := fun _ _ _ _ _ h e he rv ev w0 w h0 hr hev => comeP_calls h e he rv ev w0 w (hr.in h0) (DeedsAt.toIn hev h0)
theorem replicaTwice_calls (L : List Ent) (Pl : List Int) (e : Ent) (lb : Option Addr) (ln lc : Nat) (pb : Option Addr) (pn pc : Nat) (ev : Value) (w : World) (hG : GroundN w) (hL : EntsIn w lb ln lc L) (hP : Ints w pb pn pc Pl) (hev : EntV w ev e) :
   Calls Tryz.prog 3 #[.slice lb ln lc, .slice pb pn pc, ev] w fun x w' => x = .returned (.bool true) ∧ Below w.heap.size w w' :=
 twice_calls come_does L Pl e lb ln lc pb pn pc ev w (fun W hb => alive10_calls w hG W hb) hL hP hev
end Go.Proofs.YtlhaeeenkgkdaaaGreatDoor
