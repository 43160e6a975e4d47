/-
  Come of replicas, the document's own, walked.
-/
import Derived.Test.YtlhaeeenkgkdaaaGreatDoorComeIn
import Derived.Deep.DeepCutAuto
import Derived.Deep.RegionLaw
namespace Go.Proofs.YtlhaeeenkgkdaaaGreatDoor
open Go.RowKit

set_option maxHeartbeats 16000000 in
set_option maxRecDepth 100000 in
theorem refCome_calls {es : List Ent} {m : Nat} {dn : Nat → Bool} {bq : ByteArray → Int} {r : Rep} (h : GoodR es m dn bq r) (e : Ent) (he : RightEnt e) (rv ev : Value) (w0 w : World) (h0 : Below w0.heap.size w0 w) (hr : RepAt w0 w rv r) (hev : EntAt w0 w ev e) :
   Calls Tryz.prog 16 #[rv, ev] w fun x w' => RepNumAt w0 w w' (comeR r e) x := by
 obtain ⟨cb, cn, cc, db, dn', dc, sb, sn, sc, eb, en, ec, ab, an, ac, S, rfl, hp⟩ := hr
 obtain ⟨qb, qn, qc, rfl, hq0⟩ := hev
 have hl := hp.lies h0
 have hq := hq0.is h0
 have HQ0 := hid hq0
 have HP := hid hp
 have H0 := hid h0
 have HGR := hid h
 have HER := hid he
 have HQ := hid hq
 have HL := hid hl
 have HAN := hid hl.early.len
 have ham := Nat.le_trans hl.early.hdr.le hl.early.hdr.max
 unfold maxLen at ham
 have HX0 := hid (Box.new w (repA cb cn cc db dn' dc sb sn sc eb en ec r.eng.base r.next ab an ac) 35)
 have HG0 := hid (grew w (.cells (repA cb cn cc db dn' dc sb sn sc eb en ec r.eng.base r.next ab an ac) 35))
 have HE0 := hid (Box.new (w.alloc (.cells (repA cb cn cc db dn' dc sb sn sc eb en ec r.eng.base r.next ab an ac) 35)) #[.int .i64 e.1, .slice qb qn qc] 26)
 have HG1 := hid (grew (w.alloc (.cells (repA cb cn cc db dn' dc sb sn sc eb en ec r.eng.base r.next ab an ac) 35)) (.cells #[.int .i64 e.1, .slice qb qn qc] 26))
 have HZ0 := hid (Box.new ((w.alloc (.cells (repA cb cn cc db dn' dc sb sn sc eb en ec r.eng.base r.next ab an ac) 35)).alloc (.cells #[.int .i64 e.1, .slice qb qn qc] 26)) nilR 35)
 have HG2 := hid (grew ((w.alloc (.cells (repA cb cn cc db dn' dc sb sn sc eb en ec r.eng.base r.next ab an ac) 35)).alloc (.cells #[.int .i64 e.1, .slice qb qn qc] 26)) (.cells nilR 35))
 rw [World.size_alloc] at HE0 HZ0
 rw [World.size_alloc] at HZ0
 have HXA := hid (HX0.out.below (below_deep HG1.out HG2.out))
 have HEA := hid (HE0.out.below HG2.out)
 have HBA := hid (below_deep HG0.out (below_deep HG1.out HG2.out))
 clear h he hq hl hq0 hp h0 HX0 HE0 HG0 HG1 HG2
 go_enter Tryz.func16, Tryz.ntmps16
 go_upto_region 1 with fail
 generalize ((w.alloc (.cells (repA cb cn cc db dn' dc sb sn sc eb en ec r.eng.base r.next ab an ac) 35)).alloc (.cells #[.int .i64 e.1, .slice qb qn qc] 26)).alloc (.cells nilR 35) = A at *
 have hb2 : w.heap.size < A.heap.size := HXA.out.lt
 have hb3 : w.heap.size + 1 < A.heap.size := HEA.out.lt
 have hb4 : w.heap.size + 1 + 1 < A.heap.size := HZ0.out.lt
 obtain ⟨x0, x1, x2, x3, x4, x5, x6⟩ := HXA.out.cells7
 have z0 := HEA.out.cell 0 _ rfl
 have z1 := HEA.out.cell 1 _ rfl
 have HH0 : Hid (decide (e.1 < r.next) = hadTo r e 0) := (had_zero r e).symm
 go_wp2
 clear x0 x1 x2 x3 x4 x5 x6 z0 z1
 go_loopw [6, 20] (fun hv iv wr => ∃ (i : Nat) (bb : Bool), hv = .bool bb ∧ iv = .int .i64 i ∧ i ≤ an ∧ Hid (bb = hadTo r e i) ∧ Hid (Below A.heap.size A wr)) (fun _ iv _ => an - (intOf iv).toNat)
 case atStart => exact ⟨0, _, rfl, rfl, Nat.zero_le _, HH0, Below.refl _ _⟩
 case round =>
   clear HH0
   obtain ⟨i, bb, rfl, rfl, hi, HH, HBR⟩ := hrel
   by_cases hlt : i < an
   · have hil : i < r.early.length := by rw [← HAN.out]; exact hlt
     have j1 : (i : Int) < (an : Int) := by omega
     have j2 : (0 : Int) ≤ (i : Int) := by omega
     rcases (HL.out.early.below (below_deep HBA.out HBR.out)).run with h | ⟨b1, o1, rfl, hrun⟩
     · omega
     obtain ⟨pb, pn, pc, k0, k1, -⟩ := hrun i hlt
     have hb1 : b1 < wr.heap.size := by simpa using World.block_lt_of_cell? _ _ k0
     have HN := hid (had_next (e := e) hil)
     have HG := hid (grew wr (.cells #[.int .i64 (r.early.getD i default).1, .slice pb pn pc] 26))
     have y0 := box_cell wr #[.int .i64 (r.early.getD i default).1, .slice pb pn pc] 26 0 _ rfl
     have z0 := (HEA.out.below (below_deep HBR.out HG.out)).cell 0 _ rfl
     have hzl : w.heap.size + 1 < wr.heap.size := Nat.lt_of_lt_of_le hb3 HBR.out.size
     clear hrun
     generalize (r.early.getD i default).1 = q at *
     cases bb with
     | true =>
       go_wp2
       go_roundw
       case rel => exact ⟨i + 1, true, rfl, by go_num, hlt, by show _ = _; rw [HN.out, ← HH.out]; rfl, below_deep HBR.out HG.out⟩
       case measure => simp [intOf]; omega
     | false =>
       go_wp2
       go_roundw
       case rel => exact ⟨i + 1, _, rfl, by go_num, hlt, by show _ = _; rw [HN.out, ← HH.out, Bool.false_or]; rfl, below_deep HBR.out HG.out⟩
       case measure => simp [intOf]; omega
   · obtain rfl : i = an := by omega
     have HHR : Hid (bb = hadR r e) := by show _ = _; rw [HH.out]; exact had_all r e (by rw [← HAN.out]; exact Nat.le_refl _)
     have HXR := hid (HXA.out.below HBR.out)
     have HER2 := hid (HEA.out.below HBR.out)
     have HZR := hid (HZ0.out.below HBR.out)
     have HBW := hid (below_deep HBA.out HBR.out)
     clear HH HXA HEA HZ0 HBA HBR
     have hb2 : w.heap.size < wr.heap.size := HXR.out.lt
     have hb3 : w.heap.size + 1 < wr.heap.size := HER2.out.lt
     have hb4 : w.heap.size + 1 + 1 < wr.heap.size := HZR.out.lt
     obtain ⟨x0, x1, x2, x3, x4, x5, x6⟩ := HXR.out.cells7
     obtain ⟨y0, y1, y2, y3, y4, y5, y6⟩ := HZR.out.cells7
     obtain ⟨g0, g1, g2, g3, g4, g5, g6⟩ := HZR.out.free7
     have hge : ¬ ((i : Int) < (i : Int)) := by omega
     cases bb with
     | true =>
       have HC : Hid (comeR r e = (r, 11)) := by show _ = _; unfold comeR; rw [if_pos HHR.out.symm]
       have HBF := hid (put7_box HZR.out (.slice cb cn cc) (.slice db dn' dc) (.slice sb sn sc) (.slice eb en ec) (.int .i64 r.eng.base) (.int .i64 r.next) (.slice ab i ac))
       have HBL := hid (put7_below HBW.out (show w.heap.size ≤ w.heap.size + 1 + 1 by omega) (.slice cb cn cc) (.slice db dn' dc) (.slice sb sn sc) (.slice eb en ec) (.int .i64 r.eng.base) (.int .i64 r.next) (.slice ab i ac))
       go_wp2
       refine bodyPost_ret (come_results _ (w.heap.size + 1 + 1) _ rfl rfl HBF.out) rfl ?_
       exact ⟨_, by rw [HC.out], by rw [HC.out]; exact ⟨_, _, _, _, _, _, _, _, _, _, _, _, _, _, _, _, rfl, HP.out.below HBL.out⟩, HBL.out⟩
     | false =>
       have hnh : hadR r e = false := HHR.out.symm
       have HNX := hid HGR.out.next
       have h4 := HGR.out.four
       have hi4 : i ≤ 4 := by rw [HAN.out]; exact h4
       obtain ⟨u0, u1, u2, u3, u4, u5, u6⟩ := HXR.out.free7
       have z0 := HER2.out.cell 0 _ rfl
       have z1 := HER2.out.cell 1 _ rfl
       by_cases hg : r.next < e.1
       · have hg' : e.1 > r.next := hg
         by_cases hm : 4 ≤ i
         · have hm' : (i : Int) ≥ 4 := by omega
           have HC : Hid (comeR r e = (r, 5)) := by
             show _ = _
             unfold comeR
             rw [if_neg (by rw [hnh]; simp), if_pos hg, if_pos (by rw [← HAN.out]; exact hm)]
           have HBF := hid (put7_box HZR.out (.slice cb cn cc) (.slice db dn' dc) (.slice sb sn sc) (.slice eb en ec) (.int .i64 r.eng.base) (.int .i64 r.next) (.slice ab i ac))
           have HBL := hid (put7_below HBW.out (show w.heap.size ≤ w.heap.size + 1 + 1 by omega) (.slice cb cn cc) (.slice db dn' dc) (.slice sb sn sc) (.slice eb en ec) (.int .i64 r.eng.base) (.int .i64 r.next) (.slice ab i ac))
           go_wp2
           refine bodyPost_ret (come_results _ (w.heap.size + 1 + 1) _ rfl rfl HBF.out) rfl ?_
           exact ⟨_, by rw [HC.out], by rw [HC.out]; exact ⟨_, _, _, _, _, _, _, _, _, _, _, _, _, _, _, _, rfl, HP.out.below HBL.out⟩, HBL.out⟩
         · have hm' : ¬ (i : Int) ≥ 4 := by omega
           have HC : Hid (comeR r e = (⟨r.eng, r.next, r.early ++ [e]⟩, 12)) := by
             show _ = _
             unfold comeR
             rw [if_neg (by rw [hnh]; simp), if_pos hg, if_neg (by rw [← HAN.out]; exact hm)]
           have HS := hid (HP.out.row.below (by decide) HBW.out)
           have O1 := hid (flatE_one S)
           have O2 := hid (eslotC_one (e.1, qb, qn, qc))
           have N1 : Hid ((0 + i) * 32 ≤ 140737488355328) := by show _ ≤ _; omega
           have N2 : Hid ((0 + i + 1) * 32 ≤ 140737488355328) := by show _ ≤ _; omega
           have L1 := hid (lit_rowH wr.drew wr.heap.size 26 2 wr.heap.size rfl (Nat.le_refl _))
           have L2 := hid (lit_rowH (wr.drew.alloc (.cells #[.int .i64 e.1, .slice qb qn qc] 26)) wr.heap.size 26 2 (wr.heap.size + 1) (by rw [World.size_alloc]; rfl) (Nat.le_succ _))
           have M1 := hid (lies_oneH wr.drew #[.int .i64 e.1, .slice qb qn qc] 26 2 wr.heap.size rfl rfl)
           have M2 := hid (lies_oneH (wr.drew.alloc (.cells #[] 26)) #[.int .i64 e.1, .slice qb qn qc] 26 2 (wr.heap.size + 1) (by rw [World.size_alloc]; rfl) rfl)
           have B0 := hid (step_drew (Below.refl wr.heap.size wr))
           go_upto_region 12 with fail
           go_region_law (first
             | (refine step_grow _ rfl _ _ 22 26 2 32 _ Tryz.underlying22 entInfoR rfl (by decide) (by decide) rfl wr.heap.size v1 (0 + i) ([] ++ flat eslotC S) rfl ?_ _ 1 _ (eslotC (e.1, qb, qn, qc)) rfl ?_ O2.out N2.out ?_ ?_; (first | exact hown1 | exact hown1.alloc _); (first | exact lies_one w1 _ _ 2 rfl | exact lies_litG M2.out hg1 (by omega) | exact lies_litG (M1.out.below (by decide) (grew _ _)) hg1 (by omega)); (first | exact hb1.size | exact (step_box hb1 _).size); intro v2 w2 hown2 hg2; have hb2 : Below wr.heap.size wr w2 := (by first | exact step_row hb1 hown1 hg2 | exact step_row (step_box hb1 _) (hown1.alloc _) hg2); have z1 := (HXR.out.below hb2).cells7.2.2.2.2.2.2; have fz := (HXR.out.below hb2).free 6; have hzl : w.heap.size < w2.heap.size := (HXR.out.below hb2).lt; obtain ⟨vb2, vc2, hve, hvl⟩ := Lies.owned hown2; subst hve)
             | (refine step_grow _ rfl _ _ 22 26 2 32 _ Tryz.underlying22 entInfoR rfl (by decide) (by decide) rfl wr.heap.size _ 0 [] rfl ?_ ab i ac (flat eslotC S) rfl ?_ O1.out N1.out ?_ ?_; (first | exact L1.out | exact L1.out.alloc _ | exact L2.out); (first | exact HS.out.below (by decide) (step_box B0.out _) | exact HS.out.below (by decide) (step_box (step_box B0.out _) _)); (first | exact (step_box B0.out _).size | exact (step_box (step_box B0.out _) _).size); intro v1 w1 hown1 hg1; have hb1 : Below wr.heap.size wr w1 := (by first | exact step_lit (step_box B0.out _) (Nat.le_refl _) hg1 | exact step_lit (step_box (step_box B0.out _) _) (Nat.le_refl _) hg1 | exact step_lit (step_box (step_box B0.out _) _) (Nat.le_succ _) hg1); have y0' := kept_cell hb1 z0; have y1' := kept_cell hb1 z1; have hyl' : w.heap.size + 1 < w1.heap.size := Nat.lt_of_lt_of_le hb3 hb1.size))
           all_goals simp only [Nat.zero_add, List.nil_append] at hown2 ⊢
           all_goals have HF := hid (put_early (s := (e.1, qb, qn, qc)) (x := e) HXR.out HP.out HZR.out HBW.out hb2 ⟨rfl, HQ0.out⟩ hown2)
           all_goals clear hown1 hg1 hb1 hown2 hg2 hb2 hvl HXR HER2 HZR HBW HS L1 L2 M1 M2 B0 O1 O2 N1 N2 fz hzl y0' y1' hyl'
           all_goals clear z1
           all_goals generalize w2.setCell ⟨w.heap.size, 6, none⟩ (.slice vb2 (i + 1) vc2) = V at *
           all_goals have hv2 : w.heap.size < V.heap.size := HF.out.1.lt
           all_goals have hv4 : w.heap.size + 1 + 1 < V.heap.size := HF.out.2.2.1.lt
           all_goals obtain ⟨x0, x1, x2, x3, x4, x5, x6⟩ := HF.out.1.cells7
           all_goals obtain ⟨y0, y1, y2, y3, y4, y5, y6⟩ := HF.out.2.2.1.cells7
           all_goals obtain ⟨g0, g1, g2, g3, g4, g5, g6⟩ := HF.out.2.2.1.free7
           all_goals have HBF := hid (put7_box HF.out.2.2.1 (.slice cb cn cc) (.slice db dn' dc) (.slice sb sn sc) (.slice eb en ec) (.int .i64 r.eng.base) (.int .i64 r.next) (.slice vb2 (i + 1) vc2))
           all_goals have HBL := hid (put7_below HF.out.2.2.2 (show w.heap.size ≤ w.heap.size + 1 + 1 by omega) (.slice cb cn cc) (.slice db dn' dc) (.slice sb sn sc) (.slice eb en ec) (.int .i64 r.eng.base) (.int .i64 r.next) (.slice vb2 (i + 1) vc2))
           all_goals have HRL := hid (HF.out.2.1 _ HBL.out (put7_off V (w.heap.size + 1 + 1) (.slice cb cn cc) (.slice db dn' dc) (.slice sb sn sc) (.slice eb en ec) (.int .i64 r.eng.base) (.int .i64 r.next) (.slice vb2 (i + 1) vc2)))
           all_goals go_wp2
           all_goals refine bodyPost_ret (come_results _ (w.heap.size + 1 + 1) _ rfl rfl HBF.out) rfl ?_
           all_goals exact ⟨_, by rw [HC.out], by rw [HC.out]; exact ⟨_, _, _, _, _, _, _, _, _, _, _, _, _, _, _, _, rfl, HRL.out⟩, HBL.out⟩
       · have hn : e.1 = r.next := by
           have := hnh
           unfold hadR at this
           simp at this
           omega
         have hg' : ¬ e.1 > r.next := hg
         have hoff : ∀ a, ab = some a → a.block ≠ w.heap.size ∧ a.block ≠ w.heap.size + 1 ∧ a.block ≠ w.heap.size + 1 + 1 := fun a ea => by
           obtain ⟨cur, z, hc⟩ := HP.out.kind a ea
           have := (Array.getElem?_eq_some_iff.1 hc).1
           omega
         have HCI := hid (ComeIn.mk HXR.out (HP.out.eng.below HBW.out) (HP.out.row.below (by decide) HBW.out) (HP.out.slots.below HBW.out) (HP.out.kind.below HBW.out) hoff HER2.out HZR.out HBW.out)
         have HCO : Hid (ComeOf r e r e es m dn bq) := ⟨HGR.out, hn, HER.out, by unfold comeR; rw [if_neg (by rw [hnh]; simp), if_neg hg]⟩
         clear hoff
         go_wp2
         clear x0 x1 x2 x3 x4 x5 x6 y0 y1 y2 y3 y4 y5 y6 g0 g1 g2 g3 g4 g5 g6 u0 u1 u2 u3 u4 u5 u6 z0 z1
         go_loopw [9] (fun _ wr => ∃ (cb : Option Addr) (cn cc : Nat) (db : Option Addr) (dn' dc : Nat) (sb : Option Addr) (sn sc : Nat) (eb : Option Addr) (en ec : Nat) (ab : Option Addr) (an ac : Nat) (qb : Option Addr) (qn qc : Nat) (S : List ESlot) (es : List Ent) (m : Nat) (dn : Nat → Bool) (bq : ByteArray → Int) (q : Rep) (x : Ent) (xi : Int), Hid (ComeIn w0 w wr cb cn cc db dn' dc sb sn sc eb en ec ab an ac xi qb qn qc S q) ∧ Hid (DeedsAt w0 wr qb qn qc x.2) ∧ Hid (ComeOf r e q x es m dn bq)) (fun _ wr => earlyLen wr w.heap.size)
         case atStart => exact ⟨_, _, _, _, _, _, _, _, _, _, _, _, _, _, _, _, _, _, S, es, m, dn, bq, r, e, _, HCI.out, HQ0.out.below HBW.out, HCO.out⟩
         case round =>
           clear HGR HER HQ HQ0 HL HP HAN ham hi hlt hge HXR HER2 HZR HBW HCI HCO HHR hnh HNX h4 hi4 hg hg' hn hb2 hb3 hb4
           obtain ⟨cb, cn, cc, db, dn', dc, sb, sn, sc, eb, en, ec, ab, an, ac, qb, qn, qc, S, es, m, dn, bq, q, x, xi, HCI, HDX, HCO⟩ := hrel
           have hln : earlyLen wr w.heap.size = an := early_len HCI.out.box
           have hb2 : w.heap.size < wr.heap.size := HCI.out.box.lt
           have hb3 : w.heap.size + 1 < wr.heap.size := HCI.out.ent.lt
           obtain ⟨x0, x1, x2, x3, x4, x5, x6⟩ := HCI.out.box.cells7
           have z1 := HCI.out.ent.cell 1 _ rfl
           have hfew := HCO.out.good.few
           have hsix := HCO.out.right.2.2.1
           have hq0 : 0 ≤ q.next ∧ q.next < 12 := by have h1 := HCO.out.right.1; have h2 := HCO.out.right.2.1; rw [HCO.out.num] at h1 h2; exact ⟨h1, h2⟩
           have HRD := hid HCO.out.right.2.2.2
           have PA := hid (refAddE_calls HCO.out.good.eng x.2 (by omega) (.agg #[.slice cb cn cc, .slice db dn' dc, .slice sb sn sc, .slice eb en ec, .int .i64 q.eng.base]) qb qn qc wr ⟨_, _, _, _, _, _, _, _, _, _, _, _, rfl, HCI.out.eng⟩ (HDX.out.is (below_deep H0.out HCI.out.below)))
           clear hfew hsix
           go_wp2_with fail
           refine PA.out.mono ?_
           rintro v w1 ⟨_, rfl, ⟨cb2, cn2, cc2, db2, dn2, dc2, sb2, sn2, sc2, eb2, en2, ec2, rfl, hl1⟩, hb1⟩
           simp only [addTo_right HRD.out] at hl1 ⊢
           have HCA := hid (HCI.out.added hb1 hl1)
           clear x0 x1 x2 x3 x4 x5 x6 z1 PA
           obtain ⟨x0, x1, x2, x3, x4, x5, x6⟩ := (HCI.out.box.below hb1).cells7
           obtain ⟨u0, u1, u2, u3, u4, u5, u6⟩ := (HCI.out.box.below hb1).free7
           have hb4 : w.heap.size < w1.heap.size := (HCI.out.box.below hb1).lt
           clear hl1 hb1 HCI
           go_upto_region 15 with fail
           generalize (((((w1.setCell ⟨w.heap.size, 0, none⟩ (.slice cb2 cn2 cc2)).setCell ⟨w.heap.size, 1, none⟩ (.slice db2 dn2 dc2)).setCell ⟨w.heap.size, 2, none⟩ (.slice sb2 sn2 sc2)).setCell ⟨w.heap.size, 3, none⟩ (.slice eb2 en2 ec2)).setCell ⟨w.heap.size, 4, none⟩ (.int .i64 (addAll q.eng x.2).base)) = V1 at *
           clear x0 x1 x2 x3 x4 x5 x6 u0 u1 u2 u3 u4 u5 u6 hb2 hb3 hb4
           have hb2 : w.heap.size < V1.heap.size := HCA.out.box.lt
           have x5 := HCA.out.box.cells7.2.2.2.2.2.1
           have u5 := HCA.out.box.free 5
           have HCB := hid (HCA.out.counted (q.next + 1))
           go_upto_region 16 with fail
           generalize V1.setCell ⟨w.heap.size, 5, none⟩ (.int .i64 (q.next + 1)) = V at *
           clear x5 u5 HCA hb2
           have hb2 : w.heap.size < V.heap.size := HCB.out.box.lt
           have x6 := HCB.out.box.cells7.2.2.2.2.2.2
           have HN := hid HCB.out.count
           have hn4 : an ≤ 4 := by rw [HN.out.2]; exact HCO.out.good.four
           go_wp2
           clear x6
           go_loopw [9, 70] (fun av iv wx => ∃ k : Nat, iv = .int .i64 k ∧ k ≤ an ∧ Hid (Below V.heap.size V wx) ∧ ((av = .int .i64 (-1) ∧ ∀ j, j < k → (q.early.getD j default).1 ≠ q.next + 1) ∨ ∃ j : Nat, j < k ∧ av = .int .i64 j ∧ (q.early.getD j default).1 = q.next + 1)) (fun _ iv _ => an - (intOf iv).toNat)
           case atStart => exact ⟨0, rfl, Nat.zero_le _, Below.refl _ _, .inl ⟨rfl, fun j h => absurd h (Nat.not_lt_zero _)⟩⟩
           case round =>
             obtain ⟨k, rfl, hk, HBX, hat⟩ := hrel
             by_cases hkn : k < an
             · have hkl : k < q.early.length := by rw [← HN.out.2]; exact hkn
               have j1 : (k : Int) < (an : Int) := by omega
               have j2 : (0 : Int) ≤ (k : Int) := by omega
               have HCX := hid (HCB.out.later HBX.out)
               rcases HCX.out.row.run with h | ⟨b1, o1, rfl, hrun⟩
               · omega
               have hkS : k < S.length := by rw [← HN.out.1]; exact hkn
               have he1 : (S.getD k default).1 = (q.early.getD k default).1 := (HCX.out.slots.2 k hkl).1
               obtain ⟨pb, pn, pc, k0, k1⟩ : ∃ pb pn pc, wr.cell? ⟨b1, o1 + k * 2, none⟩ = some (.int .i64 (q.early.getD k default).1) ∧ wr.cell? ⟨b1, o1 + k * 2 + 1, none⟩ = some (.slice pb pn pc) :=
                 ⟨_, _, _, by rw [← he1]; exact hrun.at_ eslotC_length hkS (j := 0) rfl, hrun.at_ eslotC_length hkS (j := 1) rfl⟩
               clear he1 hrun
               generalize hv : (q.early.getD k default).1 = z at *
               have hb1 : b1 < wr.heap.size := by simpa using World.block_lt_of_cell? _ _ k0
               have HG := hid (grew wr (.cells #[.int .i64 z, .slice pb pn pc] 26))
               have y0 := box_cell wr #[.int .i64 z, .slice pb pn pc] 26 0 _ rfl
               have x5 := (HCX.out.box.below HG.out).cells7.2.2.2.2.2.1
               have hxl : w.heap.size < wr.heap.size := HCX.out.box.lt
               by_cases hz : z = q.next + 1
               · subst hz
                 go_wp2
                 go_roundw
                 case rel => exact ⟨k + 1, by go_num, hkn, below_deep HBX.out HG.out, .inr ⟨k, Nat.lt_succ_self k, rfl, hv⟩⟩
                 case measure => simp [intOf]; omega
               · have hz' : (z == q.next + 1) = false := by simpa using hz
                 go_wp2
                 go_roundw
                 case rel =>
                   refine ⟨k + 1, by go_num, hkn, below_deep HBX.out HG.out, ?_⟩
                   rcases hat with ⟨h1, h2⟩ | ⟨j, h1, h2, h3⟩
                   · refine .inl ⟨h1, fun j hj => ?_⟩
                     by_cases hjk : j = k
                     · subst hjk; rw [hv]; exact hz
                     · exact h2 j (by omega)
                   · exact .inr ⟨j, by omega, h2, h3⟩
                 case measure => simp [intOf]; omega
             · obtain rfl : k = an := by omega
               have HCX := hid (HCB.out.later HBX.out)
               clear HCB HBX
               rcases hat with ⟨rfl, hno⟩ | ⟨j, hj, rfl, hyes⟩
               · have HST := hid (HCO.out.stop fun j h => hno j (by rw [HN.out.2]; exact h))
                 have hb2 : w.heap.size < wr.heap.size := HCX.out.box.lt
                 have hb4 : w.heap.size + 1 + 1 < wr.heap.size := HCX.out.zero.lt
                 obtain ⟨x0, x1, x2, x3, x4, x5, x6⟩ := HCX.out.box.cells7
                 obtain ⟨y0, y1, y2, y3, y4, y5, y6⟩ := HCX.out.zero.cells7
                 obtain ⟨g0, g1, g2, g3, g4, g5, g6⟩ := HCX.out.zero.free7
                 have HBF := hid (put7_box HCX.out.zero (.slice cb2 cn2 cc2) (.slice db2 dn2 dc2) (.slice sb2 sn2 sc2) (.slice eb2 en2 ec2) (.int .i64 (addAll q.eng x.2).base) (.int .i64 (q.next + 1)) (.slice ab k ac))
                 have HBL := hid (put7_below HCX.out.below (show w.heap.size ≤ w.heap.size + 1 + 1 by omega) (.slice cb2 cn2 cc2) (.slice db2 dn2 dc2) (.slice sb2 sn2 sc2) (.slice eb2 en2 ec2) (.int .i64 (addAll q.eng x.2).base) (.int .i64 (q.next + 1)) (.slice ab k ac))
                 have HRL := hid (HCX.out.told (.slice cb2 cn2 cc2) (.slice db2 dn2 dc2) (.slice sb2 sn2 sc2) (.slice eb2 en2 ec2) (.int .i64 (addAll q.eng x.2).base) (.int .i64 (q.next + 1)) (.slice ab k ac))
                 go_wp2
                 refine bodyPost_ret (come_results _ (w.heap.size + 1 + 1) _ rfl rfl HBF.out) rfl ?_
                 exact ⟨_, by rw [HST.out], by rw [HST.out]; exact ⟨_, _, _, _, _, _, _, _, _, _, _, _, _, _, _, _, rfl, HRL.out⟩, HBL.out⟩
               · have HNX := hid (HCO.out.step (by rw [← HN.out.2]; exact hj) hyes)
                 have j0 : ¬ (j : Int) < 0 := by omega
                 have j1 : (j : Int) < (k : Int) := by omega
                 have j2 : (0 : Int) ≤ (j : Int) := by omega
                 rcases HCX.out.row.run with h | ⟨b1, o1, rfl, hrun⟩
                 · omega
                 have hjl : j < q.early.length := by rw [← HN.out.2]; exact hj
                 have hjS : j < S.length := by rw [← HN.out.1]; exact hj
                 have hsj := HCX.out.slots.2 j hjl
                 obtain ⟨s, k0, k1, hsx⟩ : ∃ s : ESlot, wr.cell? ⟨b1, o1 + j * 2, none⟩ = some (.int .i64 s.1) ∧ wr.cell? ⟨b1, o1 + j * 2 + 1, none⟩ = some (.slice s.2.1 s.2.2.1 s.2.2.2) ∧ ESlotAt w0 wr s (q.early.getD j default) :=
                   ⟨S.getD j default, hrun.at_ eslotC_length hjS (j := 0) rfl, hrun.at_ eslotC_length hjS (j := 1) rfl, hsj⟩
                 obtain ⟨si, pb, pn, pc⟩ := s
                 have HSD := hid (HCX.out.held (si, pb, pn, pc) hsx.2)
                 have HCT := hid (HCX.out.take (si, pb, pn, pc))
                 clear hrun hsj hsx
                 simp only at k0 k1 HCT HSD
                 have hb1 : b1 < wr.heap.size := by simpa using World.block_lt_of_cell? _ _ k0
                 have hb2 : w.heap.size < wr.heap.size := HCX.out.box.lt
                 have hb3 : w.heap.size + 1 < wr.heap.size := HCX.out.ent.lt
                 have x6 := HCX.out.box.cells7.2.2.2.2.2.2
                 have y0 := HCX.out.ent.cell 0 _ rfl
                 have y1 := HCX.out.ent.cell 1 _ rfl
                 have g0 := HCX.out.ent.free 0
                 have g1 := HCX.out.ent.free 1
                 go_upto_region 26 with fail
                 generalize (wr.setCell ⟨w.heap.size + 1, 0, none⟩ (.int .i64 si)).setCell ⟨w.heap.size + 1, 1, none⟩ (.slice pb pn pc) = W at *
                 clear hb1 hb2 hb3 x6 y0 y1 g0 g1 k0 k1 HCX
                 have hb2 : w.heap.size < W.heap.size := HCT.out.box.lt
                 have x6 := HCT.out.box.cells7.2.2.2.2.2.2
                 have hs1 := slice_head (t := 22) Tryz.underlying22 Tryz.sizeOf26 (some ⟨b1, o1, none⟩) k ac j (by have := HCT.out.row.hdr.le; omega)
                 have hw1 : IntKind.i64.wrap ((j : Int) + 1) = (j : Int) + 1 := by rw [IntKind.wrap_i64]; omega
                 have hs2 : ∀ w, (Instr.slice 22 (.slice (some ⟨b1, o1, none⟩) k ac) (some (.int .i64 ((j : Int) + 1))) none none).run Tryz.prog w = .ok (.slice (cutB (some ⟨b1, o1, none⟩) ac (j + 1) 2) (k - (j + 1)) (ac - (j + 1))) w := fun w => by
                   have h := slice_run (t := 22) Tryz.underlying22 Tryz.sizeOf26 (some ⟨b1, o1, none⟩) k ac (j + 1) (by omega) w
                   rw [show ((j + 1 : Nat) : Int) = (j : Int) + 1 from by omega] at h
                   exact h
                 have HH : Hid (Lies W 2 (cutB (some ⟨b1, o1, none⟩) ac 0 2) j ac ((flat eslotC S).take (j * 2))) := by
                   show Lies _ _ _ _ _ _
                   have := lies_cut (k := 0) (lies_take HCT.out.row (k := j) (by omega)) (Nat.zero_le _)
                   simpa using this
                 have HT := hid (lies_cut HCT.out.row (k := j + 1) (by omega))
                 have O1 : Hid (∀ u ∈ (flat eslotC S).take (j * 2), u.oneCell' = true) := fun u hu => flatE_one S u (List.mem_of_mem_take hu)
                 have O2 : Hid (∀ u ∈ (flat eslotC S).drop ((j + 1) * 2), u.oneCell' = true) := fun u hu => flatE_one S u (List.mem_of_mem_drop hu)
                 have N1 : Hid ((0 + j) * 32 ≤ 140737488355328) := by show _ ≤ _; omega
                 have N2 : Hid ((0 + j + (k - (j + 1))) * 32 ≤ 140737488355328) := by show _ ≤ _; omega
                 have L1 := hid (lit_rowH W.drew W.heap.size 26 2 W.heap.size rfl (Nat.le_refl _))
                 have B0 := hid (step_drew (Below.refl W.heap.size W))
                 generalize cutB (some ⟨b1, o1, none⟩) ac 0 2 = hb at *
                 generalize cutB (some ⟨b1, o1, none⟩) ac (j + 1) 2 = tb at *
                 go_region_law (first
                   | (refine step_grow _ rfl _ _ 22 26 2 32 _ Tryz.underlying22 entInfoR rfl (by decide) (by decide) rfl W.heap.size v1 (0 + j) ([] ++ (flat eslotC S).take (j * 2)) rfl ?_ tb (k - (j + 1)) (ac - (j + 1)) ((flat eslotC S).drop ((j + 1) * 2)) rfl ?_ O2.out N2.out ?_ ?_; (exact hown1); (exact HT.out.below (by decide) hb1); (exact hb1.size); intro v2 w2 hown2 hg2; have hb2 : Below W.heap.size W w2 := step_row hb1 hown1 hg2; have z1 := (HCT.out.box.below hb2).cells7.2.2.2.2.2.2; have fz := (HCT.out.box.below hb2).free 6; have hzl : w.heap.size < w2.heap.size := (HCT.out.box.below hb2).lt; obtain ⟨vb2, vc2, hve, hvl⟩ := Lies.owned hown2; subst hve)
                   | (refine step_grow _ rfl _ _ 22 26 2 32 _ Tryz.underlying22 entInfoR rfl (by decide) (by decide) rfl W.heap.size _ 0 [] rfl L1.out hb j ac ((flat eslotC S).take (j * 2)) rfl ?_ O1.out N1.out ?_ ?_; (exact HH.out.below (by decide) (step_box B0.out _)); (exact (step_box B0.out _).size); intro v1 w1 hown1 hg1; have hb1 : Below W.heap.size W w1 := step_lit (step_box B0.out _) (Nat.le_refl _) hg1; have x6' := (HCT.out.box.below hb1).cells7.2.2.2.2.2.2; have hxl' : w.heap.size < w1.heap.size := Nat.lt_of_lt_of_le hb2 hb1.size))
                 all_goals simp only [Nat.zero_add, List.nil_append] at hown2 ⊢
                 all_goals have HF := hid (HCT.out.putRow (T := S.take j ++ S.drop (j + 1)) (L := q.early.take j ++ q.early.drop (j + 1)) hb2 (by rw [flat_append, flat_take eslotC_length, flat_drop eslotC_length]; exact hown2) (HCT.out.slots.without hjl))
                 all_goals have HDF := hid (HCT.out.deeds hb2 (.slice vb2 (j + (k - (j + 1))) vc2) HSD.out)
                 all_goals clear hown1 hg1 hb1 hown2 hg2 hb2 hvl x6' hxl' z1 fz hzl
                 all_goals go_wp2
                 all_goals go_roundw
                 all_goals first
                   | exact ⟨_, _, _, _, _, _, _, _, _, _, _, _, _, _, _, _, _, _, _, _, _, _, _, _, _, _, HF, HDF, HNX⟩
                   | (rw [hln, early_len HF.out.box]; omega)
end Go.Proofs.YtlhaeeenkgkdaaaGreatDoor
