/-
  The document's own Clear, walked.
-/
import Derived.Test.YtagangiilcicpaeGreatEngSet
namespace Go.Proofs.YtagangiilcicpaeGreat
open Go.RowKit

theorem keepTo_step (by_ : Int) (F : List Ver) (t : Nat) : keepTo by_ F (t + 1) = if keptAt by_ F t = true then keepTo by_ F t ++ [F.getD t default] else keepTo by_ F t := rfl

set_option maxHeartbeats 4000000 in
set_option maxRecDepth 100000 in
theorem refClearC_calls (L : List Chn) (base : Option Addr) (n c : Nat) (by_ : Int) (w : World) (hf : FitC L) (ha : ChainsIn w base n c L) :
    Calls Tryz.prog 39 #[.slice base n c, .int .i64 by_] w fun e w' => ChainsTold w w' (clearC by_ L) e := by
  have hcn : n ≤ 387420489 := by rw [ha.len]; exact hf.count
  have HLN := hid ha.len
  have HF := hid hf
  have HA := hid ha
  clear ha hf
  go_enter Tryz.func39, Tryz.ntmps39
  go_wp2
  go_loopw [5, 14] (fun v i wr => ∃ (j r : Nat) (S : List Slot), j ≤ n ∧ r ≤ j ∧ i = .int .i64 j ∧ Hid (wr.ownsRow w.heap.size 109 2 v r (flat slotC S)) ∧ Hid (SlotsAre wr w.heap.size 69 S (clearC by_ (L.take j))) ∧ Hid (Below w.heap.size w wr)) (fun _ i _ => n - (intOf i).toNat)
  case atStart => exact ⟨0, 0, [], Nat.zero_le _, Nat.le_refl _, rfl, World.ownsRow_nil _ _ _ _, SlotsAre.nil _ _ _, Below.refl _ _⟩
  case round =>
    obtain ⟨j, r, S, hj, hrj, rfl, HO, HS, HBR⟩ := hrel
    by_cases hlt : j < n
    · have hjl : j < L.length := by rw [← HLN.out]; exact hlt
      have hi : (j : Int) < (n : Int) := by omega
      rcases (HA.out.below HBR.out).run with hh | ⟨b, o, rfl, hrun⟩
      · omega
      obtain ⟨vb, vn, vc, c0, c1, hvv, hkz⟩ := hrun j hlt
      have hbw : b < wr.heap.size := by simpa using World.block_lt_of_cell? _ _ c0
      have hfew := HF.out.few _ (memC hjl)
      rw [← Vers.count hvv] at hfew
      have HSN := hid (clearC_snoc by_ (L.getD j default) (L.take j))
      rw [← take_snoc_getD hjl] at HSN
      obtain ⟨key, vs, hx⟩ : ∃ key vs, L.getD j default = (key, vs) := ⟨_, _, rfl⟩
      rw [hx] at c0 hvv hkz HSN
      simp only at c0 hvv hkz HSN
      have HVC := hid (Vers.count hvv)
      have HKEZ := hid hkz
      generalize wr = wa at *
      have HGW := hid (grew wa (.cells #[.string key, .slice vb vn vc] 109))
      have HVW := hid (hvv.below (by decide) HGW.out)
      have HK1 := hid (box_cell wa #[.string key, .slice vb vn vc] 109 1 _ rfl)
      obtain ⟨A, hA⟩ : ∃ A, A = wa.alloc (.cells #[.string key, .slice vb vn vc] 109) := ⟨_, rfl⟩
      have hAs : A.heap.size = wa.heap.size + 1 := by rw [hA, World.size_alloc]
      rw [← hA] at HGW HVW HK1
      have HXS := hid (XRow.start A key)
      have HAQ := hid hA
      have HAS := hid hAs
      clear hx hrun hvv hkz hA hAs
      go_wp2
      rw [← HAS.out, ← HAQ.out]
      go_loopw [24] (fun i wr => ∃ (t : Nat) (xv : Value), t ≤ vn ∧ i = .int .i64 t ∧ Hid (XRow A wr key xv (keepTo by_ vs t))) (fun i _ => vn - (intOf i).toNat)
      case atStart => exact ⟨0, .slice none 0 0, Nat.zero_le _, rfl, HXS⟩
      case round =>
        obtain ⟨t, xv, ht, rfl, HX⟩ := hrel
        by_cases htn : t < vn
        · have htl : t < vs.length := by rw [← HVC.out]; exact htn
          have hti : (t : Int) < (vn : Int) := by omega
          rcases (HVW.out.below (by decide) HX.out.bel).run with hh | ⟨b2, o2, rfl, hvr⟩
          · omega
          obtain ⟨v0, v1, v2, v3⟩ := Vers.cells hvr htl
          have hbv : b2 < wr.heap.size := by simpa using World.block_lt_of_cell? _ _ v0
          have k1 : wr.cell? ⟨wa.heap.size, 1, none⟩ = some (.slice (some ⟨b2, o2, none⟩) vn vc) := kept_cell HX.out.bel HK1.out
          have hkl : wa.heap.size < wr.heap.size := by simpa using World.block_lt_of_cell? _ _ k1
          have x1 := HX.out.c1
          have hxl := HX.out.lt
          have HKP := hid (keepTo_step by_ vs t)
          have HKA : Hid (keptAt by_ vs t = !(lateV by_ vs t && decide ((vs.getD t default).by_ < by_) || decide ((vs.getD t default).by_ < by_) && (vs.getD t default).made && !(vs.getD t default).has_)) := rfl
          obtain ⟨y3, m3, h3, x3, hx⟩ : ∃ y3 m3 h3 x3, vs.getD t default = (y3, m3, h3, x3) := ⟨_, _, _, _, rfl⟩
          rw [hx] at v0 v1 v2 v3 HKA HKP
          simp only [Ver.by_, Ver.made, Ver.has_, Ver.n] at v0 v1 v2 v3 HKA
          clear hx
          have hpl : (keepTo by_ vs t).length ≤ 1954687338214 := by have := keepTo_len by_ vs t; omega
          have HVR := hid hvr
          clear hvr
          go_upto_region 9 with fail
          go_cut [11] (fun v wx => v = .bool (lateV by_ vs t) ∧ wr.alloc (.cells #[.int .i64 y3, .bool m3, .bool h3, .int .i64 x3] 69) = wx)
          case first =>
            have HLT : Hid (lateV by_ vs t = (decide (t + 1 < vs.length) && decide ((vs.getD (t + 1) default).by_ < by_))) := rfl
            clear HX HKA HKP HVW HA HS HO HBR HF HSN hpl
            by_cases hn : t + 1 < vn
            · obtain ⟨u0, _⟩ := Vers.cells HVR.out (i := t + 1) (by rw [← HVC.out]; exact hn)
              obtain ⟨yn, hyn⟩ : ∃ yn, (vs.getD (t + 1) default).by_ = yn := ⟨_, rfl⟩
              rw [hyn] at u0 HLT
              have d1 : decide ((t : Int) + 1 < (vn : Int)) = true := by simp; omega
              have hni : (t : Int) + 1 < (vn : Int) := by omega
              have HL2 : Hid (lateV by_ vs t = decide (yn < by_)) := by
                show _ = _
                rw [HLT.out]
                have : decide (t + 1 < vs.length) = true := by simp; have := HVC.out; omega
                rw [this, Bool.true_and]
              clear hyn HLT HVR
              go_wp2
              go_meet
              case rel => exact ⟨by rw [HL2.out], rfl⟩
            · have d1 : decide ((t : Int) + 1 < (vn : Int)) = false := by simp; omega
              have HL2 : Hid (lateV by_ vs t = false) := by
                show _ = _
                rw [HLT.out]
                have : decide (t + 1 < vs.length) = false := by simp; have := HVC.out; omega
                rw [this, Bool.false_and]
              clear HLT HVR
              go_wp2
              go_meet
              case rel => exact ⟨by rw [HL2.out], rfl⟩
          case rest =>
            obtain ⟨rfl, rfl⟩ := hcut
            clear HVR
            generalize lateV by_ vs t = lat at *
            obtain ⟨pre, hpre⟩ : ∃ pre, pre = keepTo by_ vs t := ⟨_, rfl⟩
            rw [← hpre] at HX hpl HKP
            clear hpre
            by_cases hlo : y3 < by_
            · have d2 : decide (y3 < by_) = true := by simpa using hlo
              rw [d2] at HKA
              clear hlo
              cases lat with
              | true =>
                have HN : Hid (keepTo by_ vs (t + 1) = pre) := by
                  show _ = _
                  rw [HKP.out, if_neg (by rw [HKA.out]; simp)]
                go_wp2
                go_roundw
                case rel => exact ⟨t + 1, _, by omega, by go_num, (by show XRow _ _ _ _ _; rw [HN.out]; exact HX.out.deep (grew _ _))⟩
                case measure => simp [intOf]; omega
              | false =>
                cases m3 with
                | false =>
                  have HN : Hid (keepTo by_ vs (t + 1) = pre ++ [(y3, false, h3, x3)]) := by
                    show _ = _
                    rw [HKP.out, if_pos (by rw [HKA.out]; first | rfl | simp)]
                  have HB2 := hid (below_deep (grew wr (.cells #[.int .i64 y3, .bool false, .bool h3, .int .i64 x3] 69)) (grew (wr.alloc (.cells #[.int .i64 y3, .bool false, .bool h3, .int .i64 x3] 69)) (.cells #[.int .i64 y3, .bool false, .bool h3, .int .i64 x3] 69)))
                  have HX2 := hid (HX.out.deep HB2.out)
                  have HLO := hid (lies_one (wr.alloc (.cells #[.int .i64 y3, .bool false, .bool h3, .int .i64 x3] 69)) #[.int .i64 y3, .bool false, .bool h3, .int .i64 x3] 69 4 rfl)
                  rw [World.size_alloc] at HLO
                  have HSE := hid (verC_one (y3, false, h3, x3))
                  have HBY : Hid ((pre.length + 1) * 24 ≤ 140737488355328) := by show _ ≤ _; omega
                  have HSZ : Hid (A.heap.size + 1 ≤ ((wr.alloc (.cells #[.int .i64 y3, .bool false, .bool h3, .int .i64 x3] 69)).alloc (.cells #[.int .i64 y3, .bool false, .bool h3, .int .i64 x3] 69)).heap.size) := by show _ ≤ _; have := HX2.out.lt; omega
                  go_wp2_with (at_builtin; refine wpList_onto _ rfl _ _ 107 69 4 24 _ Tryz.underlying107 verInfo rfl (by decide) (by decide) rfl (A.heap.size + 1) _ _ _ rfl HX2.out.own _ 1 _ _ rfl HLO.out HSE.out HBY.out HSZ.out ?_)
                  intro v2 w2 hown2 hg2
                  obtain ⟨nb, nc, rfl, _⟩ := Lies.owned hown2
                  have HXP := hid (HX2.out.push (u := (y3, false, h3, x3)) hown2 hg2)
                  have hne2 : some A.heap.size ≠ Value.ownBlock xv := fun e => by have := (HX2.out.own.lt _ e.symm).1; omega
                  have z1 := hg2.cell HX2.out.c1 hne2
                  have zl : A.heap.size < w2.heap.size := by simpa using World.block_lt_of_cell? _ _ z1
                  have zf : w2.frozen? ⟨A.heap.size, 1, none⟩ = false := by
                    rw [World.frozen?_of_block (w := (wr.alloc (.cells #[.int .i64 y3, .bool false, .bool h3, .int .i64 x3] 69)).alloc (.cells #[.int .i64 y3, .bool false, .bool h3, .int .i64 x3] 69)) (hg2.block A.heap.size HX2.out.lt hne2)]; exact HX2.out.f1
                  clear hown2 hg2 hne2
                  go_wp2
                  go_roundw
                  case rel => exact ⟨t + 1, _, by omega, by go_num, (by show XRow _ _ _ _ _; rw [HN.out]; exact HXP.out)⟩
                  case measure => simp [intOf]; omega
                | true =>
                  cases h3 with
                  | false =>
                    have HN : Hid (keepTo by_ vs (t + 1) = pre) := by
                      show _ = _
                      rw [HKP.out, if_neg (by rw [HKA.out]; simp)]
                    go_wp2
                    go_roundw
                    case rel => exact ⟨t + 1, _, by omega, by go_num, (by show XRow _ _ _ _ _; rw [HN.out]; exact HX.out.deep (grew _ _))⟩
                    case measure => simp [intOf]; omega
                  | true =>
                    have HN : Hid (keepTo by_ vs (t + 1) = pre ++ [(y3, true, true, x3)]) := by
                      show _ = _
                      rw [HKP.out, if_pos (by rw [HKA.out]; first | rfl | simp)]
                    have HB2 := hid (below_deep (grew wr (.cells #[.int .i64 y3, .bool true, .bool true, .int .i64 x3] 69)) (grew (wr.alloc (.cells #[.int .i64 y3, .bool true, .bool true, .int .i64 x3] 69)) (.cells #[.int .i64 y3, .bool true, .bool true, .int .i64 x3] 69)))
                    have HX2 := hid (HX.out.deep HB2.out)
                    have HLO := hid (lies_one (wr.alloc (.cells #[.int .i64 y3, .bool true, .bool true, .int .i64 x3] 69)) #[.int .i64 y3, .bool true, .bool true, .int .i64 x3] 69 4 rfl)
                    rw [World.size_alloc] at HLO
                    have HSE := hid (verC_one (y3, true, true, x3))
                    have HBY : Hid ((pre.length + 1) * 24 ≤ 140737488355328) := by show _ ≤ _; omega
                    have HSZ : Hid (A.heap.size + 1 ≤ ((wr.alloc (.cells #[.int .i64 y3, .bool true, .bool true, .int .i64 x3] 69)).alloc (.cells #[.int .i64 y3, .bool true, .bool true, .int .i64 x3] 69)).heap.size) := by show _ ≤ _; have := HX2.out.lt; omega
                    go_wp2_with (at_builtin; refine wpList_onto _ rfl _ _ 107 69 4 24 _ Tryz.underlying107 verInfo rfl (by decide) (by decide) rfl (A.heap.size + 1) _ _ _ rfl HX2.out.own _ 1 _ _ rfl HLO.out HSE.out HBY.out HSZ.out ?_)
                    intro v2 w2 hown2 hg2
                    obtain ⟨nb, nc, rfl, _⟩ := Lies.owned hown2
                    have HXP := hid (HX2.out.push (u := (y3, true, true, x3)) hown2 hg2)
                    have hne2 : some A.heap.size ≠ Value.ownBlock xv := fun e => by have := (HX2.out.own.lt _ e.symm).1; omega
                    have z1 := hg2.cell HX2.out.c1 hne2
                    have zl : A.heap.size < w2.heap.size := by simpa using World.block_lt_of_cell? _ _ z1
                    have zf : w2.frozen? ⟨A.heap.size, 1, none⟩ = false := by
                      rw [World.frozen?_of_block (w := (wr.alloc (.cells #[.int .i64 y3, .bool true, .bool true, .int .i64 x3] 69)).alloc (.cells #[.int .i64 y3, .bool true, .bool true, .int .i64 x3] 69)) (hg2.block A.heap.size HX2.out.lt hne2)]; exact HX2.out.f1
                    clear hown2 hg2 hne2
                    go_wp2
                    go_roundw
                    case rel => exact ⟨t + 1, _, by omega, by go_num, (by show XRow _ _ _ _ _; rw [HN.out]; exact HXP.out)⟩
                    case measure => simp [intOf]; omega
            · have d2 : decide (y3 < by_) = false := by simpa using hlo
              rw [d2] at HKA
              clear hlo
              cases lat with
              | true =>
                have HN : Hid (keepTo by_ vs (t + 1) = pre ++ [(y3, m3, h3, x3)]) := by
                  show _ = _
                  rw [HKP.out, if_pos (by rw [HKA.out]; first | rfl | simp)]
                have HB2 := hid (below_deep (grew wr (.cells #[.int .i64 y3, .bool m3, .bool h3, .int .i64 x3] 69)) (grew (wr.alloc (.cells #[.int .i64 y3, .bool m3, .bool h3, .int .i64 x3] 69)) (.cells #[.int .i64 y3, .bool m3, .bool h3, .int .i64 x3] 69)))
                have HX2 := hid (HX.out.deep HB2.out)
                have HLO := hid (lies_one (wr.alloc (.cells #[.int .i64 y3, .bool m3, .bool h3, .int .i64 x3] 69)) #[.int .i64 y3, .bool m3, .bool h3, .int .i64 x3] 69 4 rfl)
                rw [World.size_alloc] at HLO
                have HSE := hid (verC_one (y3, m3, h3, x3))
                have HBY : Hid ((pre.length + 1) * 24 ≤ 140737488355328) := by show _ ≤ _; omega
                have HSZ : Hid (A.heap.size + 1 ≤ ((wr.alloc (.cells #[.int .i64 y3, .bool m3, .bool h3, .int .i64 x3] 69)).alloc (.cells #[.int .i64 y3, .bool m3, .bool h3, .int .i64 x3] 69)).heap.size) := by show _ ≤ _; have := HX2.out.lt; omega
                go_wp2_with (at_builtin; refine wpList_onto _ rfl _ _ 107 69 4 24 _ Tryz.underlying107 verInfo rfl (by decide) (by decide) rfl (A.heap.size + 1) _ _ _ rfl HX2.out.own _ 1 _ _ rfl HLO.out HSE.out HBY.out HSZ.out ?_)
                intro v2 w2 hown2 hg2
                obtain ⟨nb, nc, rfl, _⟩ := Lies.owned hown2
                have HXP := hid (HX2.out.push (u := (y3, m3, h3, x3)) hown2 hg2)
                have hne2 : some A.heap.size ≠ Value.ownBlock xv := fun e => by have := (HX2.out.own.lt _ e.symm).1; omega
                have z1 := hg2.cell HX2.out.c1 hne2
                have zl : A.heap.size < w2.heap.size := by simpa using World.block_lt_of_cell? _ _ z1
                have zf : w2.frozen? ⟨A.heap.size, 1, none⟩ = false := by
                  rw [World.frozen?_of_block (w := (wr.alloc (.cells #[.int .i64 y3, .bool m3, .bool h3, .int .i64 x3] 69)).alloc (.cells #[.int .i64 y3, .bool m3, .bool h3, .int .i64 x3] 69)) (hg2.block A.heap.size HX2.out.lt hne2)]; exact HX2.out.f1
                clear hown2 hg2 hne2
                go_wp2
                go_roundw
                case rel => exact ⟨t + 1, _, by omega, by go_num, (by show XRow _ _ _ _ _; rw [HN.out]; exact HXP.out)⟩
                case measure => simp [intOf]; omega
              | false =>
                have HN : Hid (keepTo by_ vs (t + 1) = pre ++ [(y3, m3, h3, x3)]) := by
                  show _ = _
                  rw [HKP.out, if_pos (by rw [HKA.out]; first | rfl | simp)]
                have HB2 := hid (below_deep (grew wr (.cells #[.int .i64 y3, .bool m3, .bool h3, .int .i64 x3] 69)) (grew (wr.alloc (.cells #[.int .i64 y3, .bool m3, .bool h3, .int .i64 x3] 69)) (.cells #[.int .i64 y3, .bool m3, .bool h3, .int .i64 x3] 69)))
                have HX2 := hid (HX.out.deep HB2.out)
                have HLO := hid (lies_one (wr.alloc (.cells #[.int .i64 y3, .bool m3, .bool h3, .int .i64 x3] 69)) #[.int .i64 y3, .bool m3, .bool h3, .int .i64 x3] 69 4 rfl)
                rw [World.size_alloc] at HLO
                have HSE := hid (verC_one (y3, m3, h3, x3))
                have HBY : Hid ((pre.length + 1) * 24 ≤ 140737488355328) := by show _ ≤ _; omega
                have HSZ : Hid (A.heap.size + 1 ≤ ((wr.alloc (.cells #[.int .i64 y3, .bool m3, .bool h3, .int .i64 x3] 69)).alloc (.cells #[.int .i64 y3, .bool m3, .bool h3, .int .i64 x3] 69)).heap.size) := by show _ ≤ _; have := HX2.out.lt; omega
                go_wp2_with (at_builtin; refine wpList_onto _ rfl _ _ 107 69 4 24 _ Tryz.underlying107 verInfo rfl (by decide) (by decide) rfl (A.heap.size + 1) _ _ _ rfl HX2.out.own _ 1 _ _ rfl HLO.out HSE.out HBY.out HSZ.out ?_)
                intro v2 w2 hown2 hg2
                obtain ⟨nb, nc, rfl, _⟩ := Lies.owned hown2
                have HXP := hid (HX2.out.push (u := (y3, m3, h3, x3)) hown2 hg2)
                have hne2 : some A.heap.size ≠ Value.ownBlock xv := fun e => by have := (HX2.out.own.lt _ e.symm).1; omega
                have z1 := hg2.cell HX2.out.c1 hne2
                have zl : A.heap.size < w2.heap.size := by simpa using World.block_lt_of_cell? _ _ z1
                have zf : w2.frozen? ⟨A.heap.size, 1, none⟩ = false := by
                  rw [World.frozen?_of_block (w := (wr.alloc (.cells #[.int .i64 y3, .bool m3, .bool h3, .int .i64 x3] 69)).alloc (.cells #[.int .i64 y3, .bool m3, .bool h3, .int .i64 x3] 69)) (hg2.block A.heap.size HX2.out.lt hne2)]; exact HX2.out.f1
                clear hown2 hg2 hne2
                go_wp2
                go_roundw
                case rel => exact ⟨t + 1, _, by omega, by go_num, (by show XRow _ _ _ _ _; rw [HN.out]; exact HXP.out)⟩
                case measure => simp [intOf]; omega
        · obtain rfl : t = vn := by omega
          have HFU : Hid (keepTo by_ vs t = clearV by_ vs) := by
            show _ = _
            rw [show t = vs.length from HVC.out, keepTo_all]
          rw [HFU.out] at HX
          have HLE := hid (clearV_len by_ vs)
          clear HFU
          generalize clearV by_ vs = full at *
          obtain ⟨xb, xc, hxv, _⟩ := Lies.owned HX.out.own
          obtain ⟨xn, hxn⟩ : ∃ xn, xn = full.length := ⟨_, rfl⟩
          have hxm : xn ≤ 1954687338214 := by have := HLE.out; have := HVC.out; omega
          rw [← hxn] at hxv
          subst hxv
          have HXN := hid hxn
          clear hxn
          by_cases h0 : xn = 0
          · subst h0
            have HNX : Hid (clearC by_ (L.take (j + 1)) = clearC by_ (L.take j)) := by
              show _ = _
              rw [HSN.out, if_pos (List.eq_nil_of_length_eq_zero HXN.out.symm), List.append_nil]
            have x1 := HX.out.c1
            have hxl := HX.out.lt
            have HBI := hid (below_deep HGW.out HX.out.bel)
            go_wp2
            go_roundw
            case rel => exact ⟨j + 1, r, S, by omega, by omega, by go_num, owns_keep HO.out HBI.out, (by show SlotsAre _ _ _ _ _; rw [HNX.out]; exact HS.out.below HBI.out), below_deep HBR.out HBI.out⟩
            case measure => simp [intOf]; omega
          · have HNX : Hid (clearC by_ (L.take (j + 1)) = clearC by_ (L.take j) ++ [(key, full)]) := by
              show _ = _
              rw [HSN.out, if_neg (fun e => h0 (by rw [HXN.out, e]; rfl))]
            have hpos : (0 : Int) < (xn : Int) := by omega
            have HX2 := hid (HX.out.deep (grew wr (.cells #[.string key, .slice xb xn xc] 109)))
            have HBI := hid (below_deep HGW.out HX2.out.bel)
            have HSI : Hid (SlotIs (wr.alloc (.cells #[.string key, .slice xb xn xc] 109)) w.heap.size 69 (key, xb, xn, xc) (key, full)) := own_slot (x := (key, full)) rfl HKEZ.out HX2.out.own
            have HLO := hid (lies_one wr #[.string key, .slice xb xn xc] 109 2 rfl)
            have HOW := hid (owns_keep HO.out HBI.out)
            have HSE := hid (slotC_one (key, xb, xn, xc))
            have HBY : Hid ((r + 1) * 40 ≤ 140737488355328) := by show _ ≤ _; omega
            have HSZ := hid (Nat.le_trans HBR.out.size HBI.out.size)
            have x0 := HX.out.c0
            have x1 := HX.out.c1
            have hxl := HX.out.lt
            go_wp2_with (at_builtin; refine wpList_onto _ rfl _ _ 27 109 2 40 _ Tryz.underlying27 chnInfo rfl (by decide) (by decide) rfl w.heap.size _ r (flat slotC S) rfl HOW.out _ 1 _ _ rfl HLO.out HSE.out HBY.out HSZ.out ?_)
            intro v2 w2 hown2 hg2
            have HXZ := hid (slot_step HO.out HS.out HBR.out HBI.out HSI.out hown2 hg2)
            clear hown2 hg2
            go_wp2
            go_roundw
            case rel => exact ⟨j + 1, r + 1, _, by omega, by omega, by go_num, HXZ.out.1, (by show SlotsAre _ _ _ _ _; rw [HNX.out]; exact HXZ.out.2.1), HXZ.out.2.2⟩
            case measure => simp [intOf]; omega
    · obtain rfl : j = n := by omega
      have hs := HS.out
      rw [List.take_of_length_le (by rw [← HLN.out]; exact Nat.le_refl _)] at hs
      obtain ⟨b2, c2, rfl, hl2⟩ := Lies.owned HO.out
      have HCH := hid (chains_of_slots hl2 hs)
      clear hs hl2
      go_wp2
      go_ret
      exact ⟨_, _, _, rfl, HCH.out, HBR.out⟩
end Go.Proofs.YtagangiilcicpaeGreat
