/-
  The document's own Clear, walked.
  Plain mathematics of engines: how far one is, and what keys have ahead of the first deed that waits.
  The document's own Mark and Clear of an engine, walked.
-/
import Derived.Test.YtlhaeeenkgkdaaaGreatDoorEngSet
import Derived.Test.YtlhaeeenkgkdaaaGreatDoorPlanMath
import Derived.Test.YtlhaeeenkgkdaaaGreatDoorRefNew
import Derived.Test.YtlhaeeenkgkdaaaGreatDoorEngGood
import Derived.Deep.DeepCutAuto
namespace Go.Proofs.YtlhaeeenkgkdaaaGreatDoor
open Go.RowKit

theorem keepTo_step (by_ : Int) (F : List Ver) (t : Nat) : keepTo by_ F (t + 1) = if keptAt by_ F t = true then keepTo by_ F t ++ [F.getD t default] else keepTo by_ F t := rfl

set_option maxHeartbeats 4000000 in
set_option maxRecDepth 100000 in
theorem refClearC_calls (L : List Chn) (base : Option Addr) (n c : Nat) (by_ : Int) (w : World) (hf : FitC L) (ha : ChainsIn w base n c L) :
   Calls Tryz.prog 46 #[.slice base n c, .int .i64 by_] w fun e w' => ChainsTold w w' (clearC by_ L) e := by
 have hcn : n ≤ 387420489 := by rw [ha.len]; exact hf.count
 have HLN := hid ha.len
 have HF := hid hf
 have HA := hid ha
 clear ha hf
 go_enter Tryz.func46, Tryz.ntmps46
 go_wp2
 go_loopw [5, 14] (fun v i wr => ∃ (j r : Nat) (S : List Slot), j ≤ n ∧ r ≤ j ∧ i = .int .i64 j ∧ Hid (wr.ownsRow w.heap.size 115 2 v r (flat slotC S)) ∧ Hid (SlotsAre wr w.heap.size 78 S (clearC by_ (L.take j))) ∧ Hid (Below w.heap.size w wr)) (fun _ i _ => n - (intOf i).toNat)
 case atStart => exact ⟨0, 0, [], Nat.zero_le _, Nat.le_refl _, rfl, World.ownsRow_nil _ _ _ _, SlotsAre.nil _ _ _, Below.refl _ _⟩
 case round =>
   obtain ⟨j, r, S, hj, hrj, rfl, HO, HS, HBR⟩ := hrel
   by_cases hlt : j < n
   · have hjl : j < L.length := by rw [← HLN.out]; exact hlt
     have hi : (j : Int) < (n : Int) := by omega
     rcases (HA.out.below HBR.out).run with hh | ⟨b, o, rfl, hrun⟩
     · omega
     obtain ⟨vb, vn, vc, c0, c1, hvv, hkz⟩ := hrun j hlt
     have hbw : b < wr.heap.size := by simpa using World.block_lt_of_cell? _ _ c0
     have hfew := HF.out.few _ (memC hjl)
     rw [← Vers.count hvv] at hfew
     have HSN := hid (clearC_snoc by_ (L.getD j default) (L.take j))
     rw [← take_snoc_getD hjl] at HSN
     obtain ⟨key, vs, hx⟩ : ∃ key vs, L.getD j default = (key, vs) := ⟨_, _, rfl⟩
     rw [hx] at c0 hvv hkz HSN
     simp only at c0 hvv hkz HSN
     have HVC := hid (Vers.count hvv)
     have HKEZ := hid hkz
     generalize wr = wa at *
     have HGW := hid (grew wa (.cells #[.string key, .slice vb vn vc] 115))
     have HVW := hid (hvv.below (by decide) HGW.out)
     have HK1 := hid (box_cell wa #[.string key, .slice vb vn vc] 115 1 _ rfl)
     obtain ⟨A, hA⟩ : ∃ A, A = wa.alloc (.cells #[.string key, .slice vb vn vc] 115) := ⟨_, rfl⟩
     have hAs : A.heap.size = wa.heap.size + 1 := by rw [hA, World.size_alloc]
     rw [← hA] at HGW HVW HK1
     have HXS := hid (XRow.start A key)
     have HAQ := hid hA
     have HAS := hid hAs
     clear hx hrun hvv hkz hA hAs
     go_wp2
     rw [← HAS.out, ← HAQ.out]
     go_loopw [24] (fun i wr => ∃ (t : Nat) (xv : Value), t ≤ vn ∧ i = .int .i64 t ∧ Hid (XRow A wr key xv (keepTo by_ vs t))) (fun i _ => vn - (intOf i).toNat)
     case atStart => exact ⟨0, .slice none 0 0, Nat.zero_le _, rfl, HXS⟩
     case round =>
       obtain ⟨t, xv, ht, rfl, HX⟩ := hrel
       by_cases htn : t < vn
       · have htl : t < vs.length := by rw [← HVC.out]; exact htn
         have hti : (t : Int) < (vn : Int) := by omega
         rcases (HVW.out.below (by decide) HX.out.bel).run with hh | ⟨b2, o2, rfl, hvr⟩
         · omega
         obtain ⟨v0, v1, v2, v3⟩ := Vers.cells hvr htl
         have hbv : b2 < wr.heap.size := by simpa using World.block_lt_of_cell? _ _ v0
         have k1 : wr.cell? ⟨wa.heap.size, 1, none⟩ = some (.slice (some ⟨b2, o2, none⟩) vn vc) := kept_cell HX.out.bel HK1.out
         have hkl : wa.heap.size < wr.heap.size := by simpa using World.block_lt_of_cell? _ _ k1
         have x1 := HX.out.c1
         have hxl := HX.out.lt
         have HKP := hid (keepTo_step by_ vs t)
         have HKA : Hid (keptAt by_ vs t = !(lateV by_ vs t && decide ((vs.getD t default).by_ < by_) || decide ((vs.getD t default).by_ < by_) && (vs.getD t default).made && !(vs.getD t default).has_)) := rfl
         obtain ⟨y3, m3, h3, x3, hx⟩ : ∃ y3 m3 h3 x3, vs.getD t default = (y3, m3, h3, x3) := ⟨_, _, _, _, rfl⟩
         rw [hx] at v0 v1 v2 v3 HKA HKP
         simp only [Ver.by_, Ver.made, Ver.has_, Ver.n] at v0 v1 v2 v3 HKA
         clear hx
         have hpl : (keepTo by_ vs t).length ≤ 1954687338214 := by have := keepTo_len by_ vs t; omega
         have HVR := hid hvr
         clear hvr
         go_upto_region 9 with fail
         go_cut [11] (fun v wx => v = .bool (lateV by_ vs t) ∧ wr.alloc (.cells #[.int .i64 y3, .bool m3, .bool h3, .int .i64 x3] 78) = wx)
         case first =>
           have HLT : Hid (lateV by_ vs t = (decide (t + 1 < vs.length) && decide ((vs.getD (t + 1) default).by_ < by_))) := rfl
           clear HX HKA HKP HVW HA HS HO HBR HF HSN hpl
           by_cases hn : t + 1 < vn
           · obtain ⟨u0, _⟩ := Vers.cells HVR.out (i := t + 1) (by rw [← HVC.out]; exact hn)
             obtain ⟨yn, hyn⟩ : ∃ yn, (vs.getD (t + 1) default).by_ = yn := ⟨_, rfl⟩
             rw [hyn] at u0 HLT
             have d1 : decide ((t : Int) + 1 < (vn : Int)) = true := by simp; omega
             have hni : (t : Int) + 1 < (vn : Int) := by omega
             have HL2 : Hid (lateV by_ vs t = decide (yn < by_)) := by
               show _ = _
               rw [HLT.out]
               have : decide (t + 1 < vs.length) = true := by simp; have := HVC.out; omega
               rw [this, Bool.true_and]
             clear hyn HLT HVR
             go_wp2
             go_meet
             case rel => exact ⟨by rw [HL2.out], rfl⟩
           · have d1 : decide ((t : Int) + 1 < (vn : Int)) = false := by simp; omega
             have HL2 : Hid (lateV by_ vs t = false) := by
               show _ = _
               rw [HLT.out]
               have : decide (t + 1 < vs.length) = false := by simp; have := HVC.out; omega
               rw [this, Bool.false_and]
             clear HLT HVR
             go_wp2
             go_meet
             case rel => exact ⟨by rw [HL2.out], rfl⟩
         case rest =>
           obtain ⟨rfl, rfl⟩ := hcut
           clear HVR
           generalize lateV by_ vs t = lat at *
           obtain ⟨pre, hpre⟩ : ∃ pre, pre = keepTo by_ vs t := ⟨_, rfl⟩
           rw [← hpre] at HX hpl HKP
           clear hpre
           by_cases hlo : y3 < by_
           · have d2 : decide (y3 < by_) = true := by simpa using hlo
             rw [d2] at HKA
             clear hlo
             cases lat with
             | true =>
               have HN : Hid (keepTo by_ vs (t + 1) = pre) := by
                 show _ = _
                 rw [HKP.out, if_neg (by rw [HKA.out]; simp)]
               go_wp2
               go_roundw
               case rel => exact ⟨t + 1, _, by omega, by go_num, (by show XRow _ _ _ _ _; rw [HN.out]; exact HX.out.deep (grew _ _))⟩
               case measure => simp [intOf]; omega
             | false =>
               cases m3 with
               | false =>
                 have HN : Hid (keepTo by_ vs (t + 1) = pre ++ [(y3, false, h3, x3)]) := by
                   show _ = _
                   rw [HKP.out, if_pos (by rw [HKA.out]; first | rfl | simp)]
                 have HB2 := hid (below_deep (grew wr (.cells #[.int .i64 y3, .bool false, .bool h3, .int .i64 x3] 78)) (grew (wr.alloc (.cells #[.int .i64 y3, .bool false, .bool h3, .int .i64 x3] 78)) (.cells #[.int .i64 y3, .bool false, .bool h3, .int .i64 x3] 78)))
                 have HX2 := hid (HX.out.deep HB2.out)
                 have HLO := hid (lies_one (wr.alloc (.cells #[.int .i64 y3, .bool false, .bool h3, .int .i64 x3] 78)) #[.int .i64 y3, .bool false, .bool h3, .int .i64 x3] 78 4 rfl)
                 rw [World.size_alloc] at HLO
                 have HSE := hid (verC_one (y3, false, h3, x3))
                 have HBY : Hid ((pre.length + 1) * 24 ≤ 140737488355328) := by show _ ≤ _; omega
                 have HSZ : Hid (A.heap.size + 1 ≤ ((wr.alloc (.cells #[.int .i64 y3, .bool false, .bool h3, .int .i64 x3] 78)).alloc (.cells #[.int .i64 y3, .bool false, .bool h3, .int .i64 x3] 78)).heap.size) := by show _ ≤ _; have := HX2.out.lt; omega
                 go_wp2_with (at_builtin; refine wpList_onto _ rfl _ _ 113 78 4 24 _ Tryz.underlying113 verInfo rfl (by decide) (by decide) rfl (A.heap.size + 1) _ _ _ rfl HX2.out.own _ 1 _ _ rfl HLO.out HSE.out HBY.out HSZ.out ?_)
                 intro v2 w2 hown2 hg2
                 obtain ⟨nb, nc, rfl, _⟩ := Lies.owned hown2
                 have HXP := hid (HX2.out.push (u := (y3, false, h3, x3)) hown2 hg2)
                 have hne2 : some A.heap.size ≠ Value.ownBlock xv := fun e => by have := (HX2.out.own.lt _ e.symm).1; omega
                 have z1 := hg2.cell HX2.out.c1 hne2
                 have zl : A.heap.size < w2.heap.size := by simpa using World.block_lt_of_cell? _ _ z1
                 have zf : w2.frozen? ⟨A.heap.size, 1, none⟩ = false := by
                   rw [World.frozen?_of_block (w := (wr.alloc (.cells #[.int .i64 y3, .bool false, .bool h3, .int .i64 x3] 78)).alloc (.cells #[.int .i64 y3, .bool false, .bool h3, .int .i64 x3] 78)) (hg2.block A.heap.size HX2.out.lt hne2)]; exact HX2.out.f1
                 clear hown2 hg2 hne2
                 go_wp2
                 go_roundw
                 case rel => exact ⟨t + 1, _, by omega, by go_num, (by show XRow _ _ _ _ _; rw [HN.out]; exact HXP.out)⟩
                 case measure => simp [intOf]; omega
               | true =>
                 cases h3 with
                 | false =>
                   have HN : Hid (keepTo by_ vs (t + 1) = pre) := by
                     show _ = _
                     rw [HKP.out, if_neg (by rw [HKA.out]; simp)]
                   go_wp2
                   go_roundw
                   case rel => exact ⟨t + 1, _, by omega, by go_num, (by show XRow _ _ _ _ _; rw [HN.out]; exact HX.out.deep (grew _ _))⟩
                   case measure => simp [intOf]; omega
                 | true =>
                   have HN : Hid (keepTo by_ vs (t + 1) = pre ++ [(y3, true, true, x3)]) := by
                     show _ = _
                     rw [HKP.out, if_pos (by rw [HKA.out]; first | rfl | simp)]
                   have HB2 := hid (below_deep (grew wr (.cells #[.int .i64 y3, .bool true, .bool true, .int .i64 x3] 78)) (grew (wr.alloc (.cells #[.int .i64 y3, .bool true, .bool true, .int .i64 x3] 78)) (.cells #[.int .i64 y3, .bool true, .bool true, .int .i64 x3] 78)))
                   have HX2 := hid (HX.out.deep HB2.out)
                   have HLO := hid (lies_one (wr.alloc (.cells #[.int .i64 y3, .bool true, .bool true, .int .i64 x3] 78)) #[.int .i64 y3, .bool true, .bool true, .int .i64 x3] 78 4 rfl)
                   rw [World.size_alloc] at HLO
                   have HSE := hid (verC_one (y3, true, true, x3))
                   have HBY : Hid ((pre.length + 1) * 24 ≤ 140737488355328) := by show _ ≤ _; omega
                   have HSZ : Hid (A.heap.size + 1 ≤ ((wr.alloc (.cells #[.int .i64 y3, .bool true, .bool true, .int .i64 x3] 78)).alloc (.cells #[.int .i64 y3, .bool true, .bool true, .int .i64 x3] 78)).heap.size) := by show _ ≤ _; have := HX2.out.lt; omega
                   go_wp2_with (at_builtin; refine wpList_onto _ rfl _ _ 113 78 4 24 _ Tryz.underlying113 verInfo rfl (by decide) (by decide) rfl (A.heap.size + 1) _ _ _ rfl HX2.out.own _ 1 _ _ rfl HLO.out HSE.out HBY.out HSZ.out ?_)
                   intro v2 w2 hown2 hg2
                   obtain ⟨nb, nc, rfl, _⟩ := Lies.owned hown2
                   have HXP := hid (HX2.out.push (u := (y3, true, true, x3)) hown2 hg2)
                   have hne2 : some A.heap.size ≠ Value.ownBlock xv := fun e => by have := (HX2.out.own.lt _ e.symm).1; omega
                   have z1 := hg2.cell HX2.out.c1 hne2
                   have zl : A.heap.size < w2.heap.size := by simpa using World.block_lt_of_cell? _ _ z1
                   have zf : w2.frozen? ⟨A.heap.size, 1, none⟩ = false := by
                     rw [World.frozen?_of_block (w := (wr.alloc (.cells #[.int .i64 y3, .bool true, .bool true, .int .i64 x3] 78)).alloc (.cells #[.int .i64 y3, .bool true, .bool true, .int .i64 x3] 78)) (hg2.block A.heap.size HX2.out.lt hne2)]; exact HX2.out.f1
                   clear hown2 hg2 hne2
                   go_wp2
                   go_roundw
                   case rel => exact ⟨t + 1, _, by omega, by go_num, (by show XRow _ _ _ _ _; rw [HN.out]; exact HXP.out)⟩
                   case measure => simp [intOf]; omega
           · have d2 : decide (y3 < by_) = false := by simpa using hlo
             rw [d2] at HKA
             clear hlo
             cases lat with
             | true =>
               have HN : Hid (keepTo by_ vs (t + 1) = pre ++ [(y3, m3, h3, x3)]) := by
                 show _ = _
                 rw [HKP.out, if_pos (by rw [HKA.out]; first | rfl | simp)]
               have HB2 := hid (below_deep (grew wr (.cells #[.int .i64 y3, .bool m3, .bool h3, .int .i64 x3] 78)) (grew (wr.alloc (.cells #[.int .i64 y3, .bool m3, .bool h3, .int .i64 x3] 78)) (.cells #[.int .i64 y3, .bool m3, .bool h3, .int .i64 x3] 78)))
               have HX2 := hid (HX.out.deep HB2.out)
               have HLO := hid (lies_one (wr.alloc (.cells #[.int .i64 y3, .bool m3, .bool h3, .int .i64 x3] 78)) #[.int .i64 y3, .bool m3, .bool h3, .int .i64 x3] 78 4 rfl)
               rw [World.size_alloc] at HLO
               have HSE := hid (verC_one (y3, m3, h3, x3))
               have HBY : Hid ((pre.length + 1) * 24 ≤ 140737488355328) := by show _ ≤ _; omega
               have HSZ : Hid (A.heap.size + 1 ≤ ((wr.alloc (.cells #[.int .i64 y3, .bool m3, .bool h3, .int .i64 x3] 78)).alloc (.cells #[.int .i64 y3, .bool m3, .bool h3, .int .i64 x3] 78)).heap.size) := by show _ ≤ _; have := HX2.out.lt; omega
               go_wp2_with (at_builtin; refine wpList_onto _ rfl _ _ 113 78 4 24 _ Tryz.underlying113 verInfo rfl (by decide) (by decide) rfl (A.heap.size + 1) _ _ _ rfl HX2.out.own _ 1 _ _ rfl HLO.out HSE.out HBY.out HSZ.out ?_)
               intro v2 w2 hown2 hg2
               obtain ⟨nb, nc, rfl, _⟩ := Lies.owned hown2
               have HXP := hid (HX2.out.push (u := (y3, m3, h3, x3)) hown2 hg2)
               have hne2 : some A.heap.size ≠ Value.ownBlock xv := fun e => by have := (HX2.out.own.lt _ e.symm).1; omega
               have z1 := hg2.cell HX2.out.c1 hne2
               have zl : A.heap.size < w2.heap.size := by simpa using World.block_lt_of_cell? _ _ z1
               have zf : w2.frozen? ⟨A.heap.size, 1, none⟩ = false := by
                 rw [World.frozen?_of_block (w := (wr.alloc (.cells #[.int .i64 y3, .bool m3, .bool h3, .int .i64 x3] 78)).alloc (.cells #[.int .i64 y3, .bool m3, .bool h3, .int .i64 x3] 78)) (hg2.block A.heap.size HX2.out.lt hne2)]; exact HX2.out.f1
               clear hown2 hg2 hne2
               go_wp2
               go_roundw
               case rel => exact ⟨t + 1, _, by omega, by go_num, (by show XRow _ _ _ _ _; rw [HN.out]; exact HXP.out)⟩
               case measure => simp [intOf]; omega
             | false =>
               have HN : Hid (keepTo by_ vs (t + 1) = pre ++ [(y3, m3, h3, x3)]) := by
                 show _ = _
                 rw [HKP.out, if_pos (by rw [HKA.out]; first | rfl | simp)]
               have HB2 := hid (below_deep (grew wr (.cells #[.int .i64 y3, .bool m3, .bool h3, .int .i64 x3] 78)) (grew (wr.alloc (.cells #[.int .i64 y3, .bool m3, .bool h3, .int .i64 x3] 78)) (.cells #[.int .i64 y3, .bool m3, .bool h3, .int .i64 x3] 78)))
               have HX2 := hid (HX.out.deep HB2.out)
               have HLO := hid (lies_one (wr.alloc (.cells #[.int .i64 y3, .bool m3, .bool h3, .int .i64 x3] 78)) #[.int .i64 y3, .bool m3, .bool h3, .int .i64 x3] 78 4 rfl)
               rw [World.size_alloc] at HLO
               have HSE := hid (verC_one (y3, m3, h3, x3))
               have HBY : Hid ((pre.length + 1) * 24 ≤ 140737488355328) := by show _ ≤ _; omega
               have HSZ : Hid (A.heap.size + 1 ≤ ((wr.alloc (.cells #[.int .i64 y3, .bool m3, .bool h3, .int .i64 x3] 78)).alloc (.cells #[.int .i64 y3, .bool m3, .bool h3, .int .i64 x3] 78)).heap.size) := by show _ ≤ _; have := HX2.out.lt; omega
               go_wp2_with (at_builtin; refine wpList_onto _ rfl _ _ 113 78 4 24 _ Tryz.underlying113 verInfo rfl (by decide) (by decide) rfl (A.heap.size + 1) _ _ _ rfl HX2.out.own _ 1 _ _ rfl HLO.out HSE.out HBY.out HSZ.out ?_)
               intro v2 w2 hown2 hg2
               obtain ⟨nb, nc, rfl, _⟩ := Lies.owned hown2
               have HXP := hid (HX2.out.push (u := (y3, m3, h3, x3)) hown2 hg2)
               have hne2 : some A.heap.size ≠ Value.ownBlock xv := fun e => by have := (HX2.out.own.lt _ e.symm).1; omega
               have z1 := hg2.cell HX2.out.c1 hne2
               have zl : A.heap.size < w2.heap.size := by simpa using World.block_lt_of_cell? _ _ z1
               have zf : w2.frozen? ⟨A.heap.size, 1, none⟩ = false := by
                 rw [World.frozen?_of_block (w := (wr.alloc (.cells #[.int .i64 y3, .bool m3, .bool h3, .int .i64 x3] 78)).alloc (.cells #[.int .i64 y3, .bool m3, .bool h3, .int .i64 x3] 78)) (hg2.block A.heap.size HX2.out.lt hne2)]; exact HX2.out.f1
               clear hown2 hg2 hne2
               go_wp2
               go_roundw
               case rel => exact ⟨t + 1, _, by omega, by go_num, (by show XRow _ _ _ _ _; rw [HN.out]; exact HXP.out)⟩
               case measure => simp [intOf]; omega
       · obtain rfl : t = vn := by omega
         have HFU : Hid (keepTo by_ vs t = clearV by_ vs) := by
           show _ = _
           rw [show t = vs.length from HVC.out, keepTo_all]
         rw [HFU.out] at HX
         have HLE := hid (clearV_len by_ vs)
         clear HFU
         generalize clearV by_ vs = full at *
         obtain ⟨xb, xc, hxv, _⟩ := Lies.owned HX.out.own
         obtain ⟨xn, hxn⟩ : ∃ xn, xn = full.length := ⟨_, rfl⟩
         have hxm : xn ≤ 1954687338214 := by have := HLE.out; have := HVC.out; omega
         rw [← hxn] at hxv
         subst hxv
         have HXN := hid hxn
         clear hxn
         by_cases h0 : xn = 0
         · subst h0
           have HNX : Hid (clearC by_ (L.take (j + 1)) = clearC by_ (L.take j)) := by
             show _ = _
             rw [HSN.out, if_pos (List.eq_nil_of_length_eq_zero HXN.out.symm), List.append_nil]
           have x1 := HX.out.c1
           have hxl := HX.out.lt
           have HBI := hid (below_deep HGW.out HX.out.bel)
           go_wp2
           go_roundw
           case rel => exact ⟨j + 1, r, S, by omega, by omega, by go_num, owns_keep HO.out HBI.out, (by show SlotsAre _ _ _ _ _; rw [HNX.out]; exact HS.out.below HBI.out), below_deep HBR.out HBI.out⟩
           case measure => simp [intOf]; omega
         · have HNX : Hid (clearC by_ (L.take (j + 1)) = clearC by_ (L.take j) ++ [(key, full)]) := by
             show _ = _
             rw [HSN.out, if_neg (fun e => h0 (by rw [HXN.out, e]; rfl))]
           have hpos : (0 : Int) < (xn : Int) := by omega
           have HX2 := hid (HX.out.deep (grew wr (.cells #[.string key, .slice xb xn xc] 115)))
           have HBI := hid (below_deep HGW.out HX2.out.bel)
           have HSI : Hid (SlotIs (wr.alloc (.cells #[.string key, .slice xb xn xc] 115)) w.heap.size 78 (key, xb, xn, xc) (key, full)) := own_slot (x := (key, full)) rfl HKEZ.out HX2.out.own
           have HLO := hid (lies_one wr #[.string key, .slice xb xn xc] 115 2 rfl)
           have HOW := hid (owns_keep HO.out HBI.out)
           have HSE := hid (slotC_one (key, xb, xn, xc))
           have HBY : Hid ((r + 1) * 40 ≤ 140737488355328) := by show _ ≤ _; omega
           have HSZ := hid (Nat.le_trans HBR.out.size HBI.out.size)
           have x0 := HX.out.c0
           have x1 := HX.out.c1
           have hxl := HX.out.lt
           go_wp2_with (at_builtin; refine wpList_onto _ rfl _ _ 30 115 2 40 _ Tryz.underlying30 chnInfo rfl (by decide) (by decide) rfl w.heap.size _ r (flat slotC S) rfl HOW.out _ 1 _ _ rfl HLO.out HSE.out HBY.out HSZ.out ?_)
           intro v2 w2 hown2 hg2
           have HXZ := hid (slot_step HO.out HS.out HBR.out HBI.out HSI.out hown2 hg2)
           clear hown2 hg2
           go_wp2
           go_roundw
           case rel => exact ⟨j + 1, r + 1, _, by omega, by omega, by go_num, HXZ.out.1, (by show SlotsAre _ _ _ _ _; rw [HNX.out]; exact HXZ.out.2.1), HXZ.out.2.2⟩
           case measure => simp [intOf]; omega
   · obtain rfl : j = n := by omega
     have hs := HS.out
     rw [List.take_of_length_le (by rw [← HLN.out]; exact Nat.le_refl _)] at hs
     obtain ⟨b2, c2, rfl, hl2⟩ := Lies.owned HO.out
     have HCH := hid (chains_of_slots hl2 hs)
     clear hs hl2
     go_wp2
     go_ret
     exact ⟨_, _, _, rfl, HCH.out, HBR.out⟩
end Go.Proofs.YtlhaeeenkgkdaaaGreatDoor

namespace Go.Proofs.YtlhaeeenkgkdaaaGreatDoor
open Go.RowKit

def markS : List Int → Nat
 | [] => 0
 | s :: l => if s = 1 then markS l + 1 else 0
def markE (e : Eng) : Nat := markS e.state
theorem mark_map (dn : Nat → Bool) : ∀ (n m : Nat), markS ((List.range' m n).map (fun i => if dn i = true then (1 : Int) else 0)) ≤ n ∧ (∀ i, m ≤ i → i < m + markS ((List.range' m n).map (fun i => if dn i = true then (1 : Int) else 0)) → dn i = true) ∧ (markS ((List.range' m n).map (fun i => if dn i = true then (1 : Int) else 0)) < n → dn (m + markS ((List.range' m n).map (fun i => if dn i = true then (1 : Int) else 0))) = false)
 | 0, m => ⟨Nat.le_refl _, (fun i h1 h2 => by simp [markS] at h2; omega), (fun h => absurd h (Nat.not_lt_zero _))⟩
 | n + 1, m => by
   obtain ⟨h1, h2, h3⟩ := mark_map dn n (m + 1)
   rw [List.range'_succ, List.map_cons, markS]
   cases hd : dn m with
   | true =>
     rw [if_pos rfl, if_pos rfl]
     refine ⟨by omega, fun i a b => ?_, fun h => ?_⟩
     · by_cases e : i = m
       · rw [e]; exact hd
       · exact h2 i (by omega) (by omega)
     · have := h3 (by omega)
       rwa [show m + 1 + markS ((List.range' (m + 1) n).map (fun i => if dn i = true then (1 : Int) else 0)) = m + (markS ((List.range' (m + 1) n).map (fun i => if dn i = true then (1 : Int) else 0)) + 1) from by omega] at this
   | false =>
     rw [if_neg (by simp)]
     exact ⟨by omega, (fun i a b => by omega), fun _ => hd⟩
structure MarkIs (D : List Deed3) (m : Nat) (dn : Nat → Bool) (n : Nat) : Prop where
 le : m + n ≤ D.length
 done : ∀ i, m ≤ i → i < m + n → dn i = true
 wait : m + n < D.length → dn (m + n) = false
theorem Good.mark {r0 : List Row} {D : List Deed3} {m : Nat} {dn : Nat → Bool} {b : ByteArray → Int} {e : Eng} (G : Good r0 D m dn b e) : MarkIs D m dn (markE e) := by
 unfold markE
 rw [G.state]
 obtain ⟨h1, h2, h3⟩ := mark_map dn (D.length - m) m
 have := G.le
 exact ⟨by omega, h2, fun h => h3 (by omega)⟩
theorem markS_le : ∀ l, markS l ≤ l.length
 | [] => Nat.le_refl _
 | s :: l => by
   have := markS_le l
   rw [markS]; split <;> simp <;> omega
theorem markS_one : ∀ {l : List Int} {k : Nat}, k < markS l → l.getD k 0 = 1
 | [], _, h => absurd h (Nat.not_lt_zero _)
 | s :: l, 0, h => by
   rw [markS] at h
   by_cases hs : s = 1
   · simp [hs]
   · rw [if_neg hs] at h; cases h
 | s :: l, k + 1, h => by
   rw [markS] at h
   by_cases hs : s = 1
   · rw [if_pos hs] at h
     have := markS_one (l := l) (k := k) (by omega)
     simpa using this
   · rw [if_neg hs] at h; cases h
theorem markS_end : ∀ {l : List Int}, markS l < l.length → l.getD (markS l) 0 ≠ 1
 | [], h => absurd h (Nat.not_lt_zero _)
 | s :: l, h => by
   rw [markS] at h ⊢
   by_cases hs : s = 1
   · rw [if_pos hs] at h ⊢
     have := markS_end (l := l) (by simpa using h)
     simpa using this
   · rw [if_neg hs]; simpa using hs
end Go.Proofs.YtlhaeeenkgkdaaaGreatDoor

namespace Go.Proofs.YtlhaeeenkgkdaaaGreatDoor
open Go.RowKit

set_option maxHeartbeats 4000000 in
set_option maxRecDepth 100000 in
theorem refMark_calls (e : Eng) (v : Value) (w : World) (hv : EngIn w v e) (hs : e.state.length ≤ 1954687338211) :
   Calls Tryz.prog 45 #[v] w fun x w' => x = .returned (.int .i64 (markE e)) ∧ Below w.heap.size w w' := by
 obtain ⟨cb, cn, cc, db, dn, dc, sb, sn, sc, eb, en, ec, rfl, hl⟩ := hv
 have hsn : sn = e.state.length := Ints.count hl.st
 have hsm : sn ≤ 1954687338211 := by omega
 have HSN := hid hsn
 have HMK : Hid (markE e = markS e.state) := rfl
 have HML := hid (markS_le e.state)
 have HM1 := hid (fun k hk => markS_one (l := e.state) (k := k) hk)
 have HME := hid (markS_end (l := e.state))
 have HBX := hid (Box.new w #[.slice cb cn cc, .slice db dn dc, .slice sb sn sc, .slice eb en ec, .int .i64 e.base] 33)
 have HBA := hid (grew w (.cells #[.slice cb cn cc, .slice db dn dc, .slice sb sn sc, .slice eb en ec, .int .i64 e.base] 33))
 have HST := hid (hl.below HBA.out).st
 clear hl hsn hs
 go_enter Tryz.func45, Tryz.ntmps45
 go_wp2
 generalize w.alloc (.cells #[.slice cb cn cc, .slice db dn dc, .slice sb sn sc, .slice eb en ec, .int .i64 e.base] 33) = A at *
 have c2 := HBX.out.cells5.2.2.1
 have hxl : w.heap.size < A.heap.size := HBX.out.lt
 go_loopw [3] (fun i wr => ∃ k : Nat, k ≤ markS e.state ∧ i = .int .i64 k ∧ Hid (wr = A)) (fun i _ => sn - (intOf i).toNat)
 case atStart => exact ⟨0, Nat.zero_le _, rfl, rfl⟩
 case round =>
   obtain ⟨k, hk, rfl, HWE⟩ := hrel
   have hwe := HWE.out
   subst hwe
   have hks : k ≤ sn := by have := HML.out; have := HSN.out; omega
   by_cases hlt : k < sn
   · have hkl : k < e.state.length := by rw [← HSN.out]; exact hlt
     have hi : (k : Int) < (sn : Int) := by omega
     obtain ⟨b1, o1, rfl, hrun⟩ : ∃ b1 o1, sb = some ⟨b1, o1, none⟩ ∧ Run wr b1 o1 (intsC e.state) := by
       rcases HST.out.run with h | h
       · omega
       · exact h
     have k0 := hrun k _ (intsC_at hkl)
     have hb1 : b1 < wr.heap.size := by simpa using World.block_lt_of_cell? _ _ k0
     have d1 : decide ((k : Int) < (sn : Int)) = true := by simpa using hlt
     clear hrun
     by_cases hm : k < markS e.state
     · have h1 := HM1.out k hm
       rw [h1] at k0
       clear h1
       go_wp2
       go_roundw
       case rel => exact ⟨k + 1, by omega, by go_num, trivial⟩
       case measure => simp [intOf]; omega
     · obtain rfl : k = markS e.state := by omega
       have h1 := HME.out hkl
       generalize e.state.getD (markS e.state) 0 = s at *
       have t : (s == 1) = false := by simpa using h1
       clear h1
       generalize markS e.state = k at *
       go_wp2
       go_ret
       exact ⟨by rw [HMK.out]; rfl, HBA.out⟩
   · obtain rfl : k = sn := by omega
     have HKM : Hid (markE e = k) := by show _ = _; rw [HMK.out]; have := HML.out; have := HSN.out; omega
     have d1 : decide ((k : Int) < (k : Int)) = false := by simp
     go_wp2
     go_ret
     exact ⟨by rw [HKM.out]; rfl, HBA.out⟩

def cutB (base : Option Addr) (c n sz : Nat) : Option Addr := if c = n then base else base.map (·.add (n * sz))
theorem slice_run {t e sz : Nat} (hu : Tryz.prog.underlying t = some (.slice e)) (hz : ∀ w, (sizeOf e).run Tryz.prog w = .ok sz w) (base : Option Addr) (n c k : Nat) (hk : k ≤ n) (w : World) :
   (Instr.slice t (.slice base n c) (some (.int .i64 (k : Int))) none none).run Tryz.prog w = .ok (.slice (cutB base c k sz) (n - k) (c - k)) w := by
 have h1 : (0 : Int) ≤ (k : Int) ∧ (k : Int) ≤ (n : Int) := by omega
 have h2 : ((k : Int)).toNat = k := Int.toNat_natCast k
 have hur : ∀ w, (underlying t).run Tryz.prog w = .ok (.slice e) w := fun w => by simp [underlying, go_sem, hu]
 simp [Instr.slice, Instr.sliceBounds, Instr.sliceBound, go_sem, hur, hz, hk, cutB]
theorem lies_cut {w : World} {base : Option Addr} {sz n c k : Nat} {vs : List Value} (h : Lies w sz base n c vs) (hk : k ≤ n) : Lies w sz (cutB base c k sz) (n - k) (c - k) (vs.drop (k * sz)) := by
 have hle := h.hdr.le
 refine ⟨by rw [List.length_drop, h.len, Nat.sub_mul], ⟨by omega, Nat.le_trans (Nat.sub_le _ _) h.hdr.max, fun e => ?_⟩, ?_⟩
 · unfold cutB at e
   by_cases hc : c = k
   · omega
   · rw [if_neg hc] at e
     cases base with
     | none => rw [h.hdr.nil rfl]; omega
     | some a => simp at e
 · by_cases h0 : n = k
   · exact .inl (by omega)
   · rcases h.run with h1 | ⟨b, o, e, hr⟩
     · exact .inl (by omega)
     · refine .inr ⟨b, o + k * sz, ?_, fun j u hu => ?_⟩
       · unfold cutB
         rw [if_neg (by omega), e, Option.map_some, Addr.add_lit]
       · rw [List.getElem?_drop] at hu
         rw [Nat.add_assoc]
         exact hr _ u hu
theorem kind_cut {w : World} {t : TypeId} {base : Option Addr} {c k sz : Nat} (h : Kind w t base) : Kind w t (cutB base c k sz) := fun a e => by
 unfold cutB at e
 by_cases hc : c = k
 · rw [if_pos hc] at e; exact h a e
 · rw [if_neg hc] at e
   cases base with
   | none => cases e
   | some a0 =>
     simp only [Option.map_some, Option.some.injEq] at e
     have := h a0 rfl
     have hb : (a0.add (k * sz)).block = a0.block := by unfold Addr.add; split <;> rfl
     rw [← e, hb]
     exact this
theorem ints_cut {w : World} {base : Option Addr} {n c k : Nat} {l : List Int} (h : Ints w base n c l) (hk : k ≤ n) : Ints w (cutB base c k 1) (n - k) (c - k) (l.drop k) := by
 have := lies_cut h hk
 rw [Nat.mul_one] at this
 unfold Ints
 rw [show intsC (l.drop k) = (intsC l).drop k from by simp [intsC, List.map_drop]]
 exact this
theorem endCells_drop : ∀ (E : List End3) (k : Nat), endCells (E.drop k) = (endCells E).drop (k * 5)
 | E, 0 => by simp
 | [], k + 1 => by simp [endCells]
 | e :: E, k + 1 => by
   rw [List.drop_succ_cons, endCells_drop E k, endCells, show (k + 1) * 5 = 5 + k * 5 from by omega, ← List.drop_drop]
   congr 1
theorem ends_cut {w : World} {base : Option Addr} {n c k : Nat} {E : List End3} (h : Ends w base n c E) (hk : k ≤ n) : Ends w (cutB base c k 5) (n - k) (c - k) (E.drop k) := by
 have := lies_cut h hk
 unfold Ends
 rw [endCells_drop]
 exact this
theorem deeds_cut {w : World} {base : Option Addr} {n c k : Nat} {D : List Deed3} (h : DeedsIn w base n c D) (hk : k ≤ n) : DeedsIn w (cutB base c k 3) (n - k) (c - k) (D.drop k) := by
 obtain ⟨T, hT, hTA⟩ := h.slots
 have h1 := lies_cut hT hk
 have e : (flat dslotC T).drop (k * 3) = flat dslotC (T.drop k) := (flat_drop dslotC_length T k).symm
 rw [e] at h1
 refine deeds_of_slots h1 ⟨by rw [List.length_drop, List.length_drop, hTA.1], fun i hi => ?_⟩
 have := hTA.2 (k + i) (by rw [List.length_drop] at hi; omega)
 simpa [List.getD, List.getElem?_drop] using this

theorem refClearE_results (tmps : Array Value) (b : Nat) (w : World) {a0 a1 a2 a3 : Option Addr} {n0 n1 n2 n3 c0 c1 c2 c3 : Nat} {z : Int} (h : tmps.getD 2 undef = .pointer (some ⟨b, 0, none⟩)) (hb : Box w b #[.slice a0 n0 c0, .slice a1 n1 c1, .slice a2 n2 c2, .slice a3 n3 c3, .int .i64 z] 33) :
   (results Tryz.f19 tmps).run Tryz.prog w = .ok (.agg #[.slice a0 n0 c0, .slice a1 n1 c1, .slice a2 n2 c2, .slice a3 n3 c3, .int .i64 z]) w := by
 have h' : tmps[2]?.getD undef = .pointer (some ⟨b, 0, none⟩) := by simpa using h
 obtain ⟨k0, k1, k2, k3, k4⟩ := hb.cells5
 simp [results, Tryz.results19, go_sem, h', k0, k1, k2, k3, k4]
def putMid (w : World) (b : Nat) (v1 v2 v3 : Value) : World := ((w.setCell ⟨b, 1, none⟩ v1).setCell ⟨b, 2, none⟩ v2).setCell ⟨b, 3, none⟩ v3

set_option maxHeartbeats 16000000 in
set_option maxRecDepth 100000 in
theorem refClearE_calls {r0 : List Row} {D : List Deed3} {m : Nat} {dq : Nat → Bool} {bq : ByteArray → Int} {e : Eng} (G : Good r0 D m dq bq e) (hD : D.length ≤ 1954687338211) (v : Value) (w : World) (hv : EngIn w v e) :
   Calls Tryz.prog 19 #[v] w fun x w' => EngTold w w' (clearE e (markE e)) x := by
 have hv0 := hv
 obtain ⟨cb, cn, cc, db, dn, dc, sb, sn, sc, eb, en, ec, rfl, hl⟩ := hv
 have hle := G.le
 have hz0 : 0 ≤ e.base := by rw [G.base]; omega
 have hz1 : e.base ≤ 1954687338211 := by rw [G.base]; omega
 have hsl : e.state.length ≤ 1954687338211 := by rw [G.slen, G.len]; omega
 have hmk : markE e ≤ e.state.length := markS_le _
 have hnd : markE e ≤ dn := by rw [hl.de.len, ← G.slen]; exact hmk
 have hns : markE e ≤ sn := by rw [Ints.count hl.st]; exact hmk
 have hne : markE e ≤ en := by rw [Ends.count hl.en, G.elen, ← G.slen]; exact hmk
 have hn4 : markE e ≤ 1954687338211 := by omega
 have HFIT := hid (G.fit hD)
 have HBX := hid (Box.new w #[.slice cb cn cc, .slice db dn dc, .slice sb sn sc, .slice eb en ec, .int .i64 e.base] 33)
 have HB0 := hid (grew w (.cells #[.slice cb cn cc, .slice db dn dc, .slice sb sn sc, .slice eb en ec, .int .i64 e.base] 33))
 have HBZ := hid (Box.new (w.alloc (.cells #[.slice cb cn cc, .slice db dn dc, .slice sb sn sc, .slice eb en ec, .int .i64 e.base] 33)) #[.slice none 0 0, .slice none 0 0, .slice none 0 0, .slice none 0 0, .int .i64 0] 33)
 have HB1 := hid (grew (w.alloc (.cells #[.slice cb cn cc, .slice db dn dc, .slice sb sn sc, .slice eb en ec, .int .i64 e.base] 33)) (.cells #[.slice none 0 0, .slice none 0 0, .slice none 0 0, .slice none 0 0, .int .i64 0] 33))
 rw [World.size_alloc] at HBZ
 have HX := hid (HBX.out.below HB1.out)
 have HBW := hid (below_deep HB0.out HB1.out)
 have HL := hid (hl.below HBW.out)
 have PM := hid (refMark_calls e _ _ (hv0.below HBW.out) hsl)
 have HCE : Hid (clearE e (markE e) = ⟨clearC (e.base + markE e) e.chains, e.deeds.drop (markE e), e.state.drop (markE e), e.ends.drop (markE e), e.base + markE e⟩) := rfl
 clear G hD hl hle HBX HB0 HB1 hv0 hsl hmk
 generalize markE e = n at *
 go_enter Tryz.func19, Tryz.ntmps19
 go_upto_region 1 with fail
 generalize (w.alloc (.cells #[.slice cb cn cc, .slice db dn dc, .slice sb sn sc, .slice eb en ec, .int .i64 e.base] 33)).alloc (.cells #[.slice none 0 0, .slice none 0 0, .slice none 0 0, .slice none 0 0, .int .i64 0] 33) = A at *
 obtain ⟨x0, x1, x2, x3, x4⟩ := HX.out.cells5
 have hxl : w.heap.size < A.heap.size := HX.out.lt
 go_wp2_with fail
 refine PM.out.mono ?_
 rintro x w1 ⟨rfl, hb1⟩
 have HX1 := hid (HX.out.below hb1)
 have HZ1 := hid (HBZ.out.below hb1)
 have HL1 := hid (HL.out.below hb1)
 have HBW1 := hid (below_deep HBW.out hb1)
 have hsum : IntKind.i64.wrap (e.base + (n : Int)) = e.base + n := by rw [IntKind.wrap_i64]; omega
 have HX2 := hid (HX1.out.set 4 (.int .i64 (e.base + n)))
 have HZ2 := hid (HZ1.out.far ⟨w.heap.size, 4, none⟩ (by simp) (.int .i64 (e.base + n)))
 have HL2 := hid (HL1.out.put HX1.out (Off.set w1 w.heap.size 4 (.int .i64 (e.base + n))))
 have HBW2 := hid (HBW1.out.setCell (p := ⟨w.heap.size, 4, none⟩) (Nat.le_refl _) (.int .i64 (e.base + n)))
 obtain ⟨x0, x1, x2, x3, x4⟩ := HX1.out.cells5
 have f4 := HX1.out.free 4
 have hxl1 : w.heap.size < w1.heap.size := HX1.out.lt
 clear hb1 PM HX HBZ HL HBW
 go_upto_region 3 with fail
 generalize w1.setCell ⟨w.heap.size, 4, none⟩ (.int .i64 (e.base + n)) = W at *
 clear x0 x1 x2 x3 x4 f4 hxl hxl1 HX1 HZ1 HL1 HBW1 hsum
 obtain ⟨x0, x1, x2, x3, x4⟩ := HX2.out.cells5
 obtain ⟨f0, f1, f2, f3, f4⟩ := HX2.out.free5
 have hxl : w.heap.size < W.heap.size := HX2.out.lt
 have hs1 := slice_run (t := 24) Tryz.underlying24 Tryz.sizeOf44 db dn dc n hnd
 have hs2 := slice_run (t := 23) Tryz.underlying23 Tryz.sizeOf3 sb sn sc n hns
 have hs3 := slice_run (t := 31) Tryz.underlying31 Tryz.sizeOf83 eb en ec n hne
 have HCD := hid (deeds_cut HL2.out.de hnd)
 have HCS := hid (ints_cut HL2.out.st hns)
 have HCN := hid (ends_cut HL2.out.en hne)
 have HKD := hid (kind_cut (c := dc) (k := n) (sz := 3) HL2.out.dk)
 have HKS := hid (kind_cut (c := sc) (k := n) (sz := 1) HL2.out.sk)
 have HKN := hid (kind_cut (c := ec) (k := n) (sz := 5) HL2.out.ek)
 generalize cutB db dc n 3 = db' at *
 generalize cutB sb sc n 1 = sb' at *
 generalize cutB eb ec n 5 = eb' at *
 generalize dn - n = dn' at *
 generalize dc - n = dc' at *
 generalize sn - n = sn' at *
 generalize sc - n = sc' at *
 generalize en - n = en' at *
 generalize ec - n = ec' at *
 go_cut [3] (fun nv wx => nv = .int .i64 n ∧ wx = (putMid W w.heap.size (.slice db' dn' dc') (.slice sb' sn' sc') (.slice eb' en' ec')).drew)
 case first =>
   go_region
   all_goals go_wp2
   all_goals go_meet
   all_goals exact ⟨rfl, rfl⟩
 case rest =>
   obtain ⟨rfl, rfl⟩ := hcut
   have HLW : Hid (EngLies W cb cn cc db' dn' dc' sb' sn' sc' eb' en' ec' ⟨e.chains, e.deeds.drop n, e.state.drop n, e.ends.drop n, e.base + n⟩) := ⟨HL2.out.ch, HCD.out, HCS.out, HCN.out, HKD.out, HKS.out, HKN.out⟩
   have HD0 := hid (step_drew (Below.refl (putMid W w.heap.size (.slice db' dn' dc') (.slice sb' sn' sc') (.slice eb' en' ec')).heap.size (putMid W w.heap.size (.slice db' dn' dc') (.slice sb' sn' sc') (.slice eb' en' ec'))))
   have HOF : Hid (Off w.heap.size W (putMid W w.heap.size (.slice db' dn' dc') (.slice sb' sn' sc') (.slice eb' en' ec'))) := ((Off.set _ _ _ _).trans (Off.set _ _ _ _)).trans (Off.set _ _ _ _)
   have HL3 := hid ((HLW.out.put HX2.out HOF.out).below HD0.out)
   have HX3 : Hid (Box (putMid W w.heap.size (.slice db' dn' dc') (.slice sb' sn' sc') (.slice eb' en' ec')).drew w.heap.size #[.slice cb cn cc, .slice db' dn' dc', .slice sb' sn' sc', .slice eb' en' ec', .int .i64 (e.base + n)] 33) := ((HX2.out.set 1 (.slice db' dn' dc')).set 2 (.slice sb' sn' sc')).set 3 (.slice eb' en' ec')
   have HZ3 := hid ((box_off HZ2.out HOF.out (by omega)).below HD0.out)
   have HBW3 : Hid (Below w.heap.size w (putMid W w.heap.size (.slice db' dn' dc') (.slice sb' sn' sc') (.slice eb' en' ec')).drew) := (((HBW2.out.setCell (p := ⟨w.heap.size, 1, none⟩) (Nat.le_refl _) _).setCell (p := ⟨w.heap.size, 2, none⟩) (Nat.le_refl _) _).setCell (p := ⟨w.heap.size, 3, none⟩) (Nat.le_refl _) _).drew
   clear x0 x1 x2 x3 x4 f0 f1 f2 f3 f4 hxl hs1 hs2 hs3 HCD HCS HCN HKD HKS HKN HL2 HX2 HZ2 HBW2 HLW HD0 HOF
   generalize (putMid W w.heap.size (.slice db' dn' dc') (.slice sb' sn' sc') (.slice eb' en' ec')).drew = W3 at *
   obtain ⟨x0, x1, x2, x3, x4⟩ := HX3.out.cells5
   have hxl : w.heap.size < W3.heap.size := HX3.out.lt
   have PC := hid (refClearC_calls e.chains cb cn cc (e.base + n) W3 HFIT.out HL3.out.ch)
   go_wp2_with fail
   refine PC.out.mono ?_
   rintro x w4 ⟨b4, n4, c4, rfl, h4, hb4⟩
   have HX4 := hid (HX3.out.below hb4)
   have HZ4 := hid (HZ3.out.below hb4)
   have HL4 := hid (HL3.out.below hb4)
   have HBW4 := hid (below_deep HBW3.out hb4)
   have HLC : Hid (EngLies w4 b4 n4 c4 db' dn' dc' sb' sn' sc' eb' en' ec' (clearE e n)) := ⟨h4, HL4.out.de, HL4.out.st, HL4.out.en, HL4.out.dk, HL4.out.sk, HL4.out.ek⟩
   have HX5 := hid (HX4.out.set 0 (.slice b4 n4 c4))
   have HZ5 := hid (HZ4.out.far ⟨w.heap.size, 0, none⟩ (by simp) (.slice b4 n4 c4))
   have HL5 := hid (HLC.out.put HX4.out (Off.set w4 w.heap.size 0 (.slice b4 n4 c4)))
   have HBW5 := hid (HBW4.out.setCell (p := ⟨w.heap.size, 0, none⟩) (Nat.le_refl _) (.slice b4 n4 c4))
   have g0 := HX4.out.cells5.1
   have q0 := HX4.out.free 0
   have hxl4 : w.heap.size < w4.heap.size := HX4.out.lt
   clear h4 hb4 PC x0 x1 x2 x3 x4 HX3 HZ3 HL3 HBW3 HL4 HLC
   go_upto_region 5 with fail
   generalize w4.setCell ⟨w.heap.size, 0, none⟩ (.slice b4 n4 c4) = W5 at *
   clear g0 q0 hxl4 HX4 HZ4 HBW4
   obtain ⟨x0, x1, x2, x3, x4⟩ := HX5.out.cells5
   obtain ⟨z0, z1, z2, z3, z4⟩ := HZ5.out.cells5
   obtain ⟨f0, f1, f2, f3, f4⟩ := HZ5.out.free5
   have hxl5 : w.heap.size < W5.heap.size := HX5.out.lt
   have hzl5 : w.heap.size + 1 < W5.heap.size := HZ5.out.lt
   have HBF := hid (put5_box HZ5.out (.slice b4 n4 c4) (.slice db' dn' dc') (.slice sb' sn' sc') (.slice eb' en' ec') (.int .i64 (e.base + n)))
   have HBE := hid (put5_below HBW5.out (Nat.le_succ _) (.slice b4 n4 c4) (.slice db' dn' dc') (.slice sb' sn' sc') (.slice eb' en' ec') (.int .i64 (e.base + n)))
   have HLF := hid (HL5.out.put HZ5.out (put5_off W5 (w.heap.size + 1) (.slice b4 n4 c4) (.slice db' dn' dc') (.slice sb' sn' sc') (.slice eb' en' ec') (.int .i64 (e.base + n))))
   unfold put5 at HBF HBE HLF
   go_wp2
   (try simp only [Exit.inBlock, Exit.then])
   refine bodyPost_ret (refClearE_results _ (w.heap.size + 1) _ rfl HBF.out) rfl ?_
   exact ⟨_, rfl, ⟨_, _, _, _, _, _, _, _, _, _, _, _, rfl, HLF.out⟩, HBE.out⟩
end Go.Proofs.YtlhaeeenkgkdaaaGreatDoor
