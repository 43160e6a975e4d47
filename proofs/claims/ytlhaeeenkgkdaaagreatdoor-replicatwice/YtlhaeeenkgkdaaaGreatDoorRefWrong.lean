/-
  The document's own WrongDeed tells what is wrong with a deed.
-/
import Derived.Test.YtlhaeeenkgkdaaaGreatDoorDeedSame
import Derived.Test.YtlhaeeenkgkdaaaGreatDoorRefPut
namespace Go.Proofs.YtlhaeeenkgkdaaaGreatDoor
open Go.RowKit

set_option maxHeartbeats 8000000 in
set_option maxRecDepth 100000 in
theorem refWrongDeed_calls (R W : List ByteArray) (C : List Ins) (rb : Option Addr) (rn rc : Nat) (wb : Option Addr) (wn wc : Nat) (cb : Option Addr) (cn cc : Nat) (w : World) (hd : DeedIn w rb rn rc wb wn wc cb cn cc R W C) (hr : SmallT R) (hw : SmallT W) :
   Calls Tryz.prog 15 #[.agg #[.slice rb rn rc, .slice wb wn wc, .slice cb cn cc]] w fun e w' => e = .returned (.int .i64 (wDeed R W C)) ∧ Below w.heap.size w w' := by
 have HQ : Hid (wDeed R W C = if wKeys R ≠ 0 then wKeys R else if wKeys W ≠ 0 then wKeys W else if 12 < C.length then 5 else wCode R W C C.length) := rfl
 generalize wDeed R W C = q at *
 have HD := hid hd
 have HSR := hid hr
 have HSW := hid hw
 have hcm := Nat.le_trans hd.cd.hdr.le hd.cd.hdr.max
 unfold maxLen at hcm
 have HN := hid (Codes.count hd.cd)
 clear hd hr hw
 go_enter Tryz.func15, Tryz.ntmps15
 go_wp2_with fail
 obtain ⟨A, hA⟩ : ∃ A, A = (w.alloc (.cells #[.slice rb rn rc, .slice wb wn wc, .slice cb cn cc] 44)).alloc (.cells #[.slice rb rn rc, .slice wb wn wc] 41) := ⟨_, rfl⟩
 have HA := hid hA
 have HBA : Hid (Below w.heap.size w A) := by show Below _ _ _; rw [hA]; exact below_deep (grew _ _) (grew _ _)
 have x0 : A.cell? ⟨w.heap.size, 0, none⟩ = some (.slice rb rn rc) := by rw [hA]; exact box_past _ (box_cell w _ _ 0 _ rfl)
 have x1 : A.cell? ⟨w.heap.size, 1, none⟩ = some (.slice wb wn wc) := by rw [hA]; exact box_past _ (box_cell w _ _ 1 _ rfl)
 have x2 : A.cell? ⟨w.heap.size, 2, none⟩ = some (.slice cb cn cc) := by rw [hA]; exact box_past _ (box_cell w _ _ 2 _ rfl)
 have y0 : A.cell? ⟨w.heap.size + 1, 0, none⟩ = some (.slice rb rn rc) := by
   have := box_cell (w.alloc (.cells #[.slice rb rn rc, .slice wb wn wc, .slice cb cn cc] 44)) #[.slice rb rn rc, .slice wb wn wc] 41 0 _ rfl
   rw [World.size_alloc] at this; rw [hA]; exact this
 have y1 : A.cell? ⟨w.heap.size + 1, 1, none⟩ = some (.slice wb wn wc) := by
   have := box_cell (w.alloc (.cells #[.slice rb rn rc, .slice wb wn wc, .slice cb cn cc] 44)) #[.slice rb rn rc, .slice wb wn wc] 41 1 _ rfl
   rw [World.size_alloc] at this; rw [hA]; exact this
 rw [← hA]
 have HDA := hid (HD.out.below HBA.out)
 clear hA
 go_loopw [20] (fun i wr => ∃ t : Nat, t ≤ 2 ∧ i = .int .i64 t ∧ Hid (1 ≤ t → wKeys R = 0) ∧ Hid (2 ≤ t → wKeys W = 0) ∧ wr = A) (fun i _ => 2 - (intOf i).toNat)
 case atStart => exact ⟨0, Nat.zero_le _, rfl, fun h => absurd h (by omega), fun h => absurd h (by omega), rfl⟩
 case round =>
   obtain ⟨t, ht, rfl, HT1, HT2, rfl⟩ := hrel
   by_cases htl : t < 2
   · obtain ⟨lb, ln, lc, L, hcell, hT, hsm, hbad, hnext⟩ : ∃ (lb : Option Addr) (ln lc : Nat) (L : List ByteArray), wr.cell? ⟨w.heap.size + 1, t, none⟩ = some (.slice lb ln lc) ∧ Texts wr lb ln lc L ∧ SmallT L ∧ (wKeys L ≠ 0 → q = wKeys L) ∧ (wKeys L = 0 → (1 ≤ t + 1 → wKeys R = 0) ∧ (2 ≤ t + 1 → wKeys W = 0)) := by
       have : t = 0 ∨ t = 1 := by omega
       rcases this with rfl | rfl
       · exact ⟨rb, rn, rc, R, y0, HDA.out.tr, HSR.out, fun h => by rw [HQ.out, if_pos h], fun h => ⟨fun _ => h, fun h => absurd h (by omega)⟩⟩
       · exact ⟨wb, wn, wc, W, y1, HDA.out.tw, HSW.out, fun h => by rw [HQ.out, if_neg (by simpa using HT1.out (by omega)), if_pos h], fun h => ⟨fun _ => HT1.out (by omega), fun _ => h⟩⟩
     have hi2 : (t : Int) < 2 := by omega
     have HLN := hid (Texts.count hT)
     have HBAD := hid hbad
     have HNEXT := hid hnext
     have hlm := Nat.le_trans hT.hdr.le hT.hdr.max
     unfold maxLen at hlm
     clear hbad hnext
     by_cases h5 : 5 < ln
     · have HW5 : Hid (wKeys L = 5) := by show _ = _; rw [wKeys, if_pos (by rw [← HLN.out]; exact h5)]
       have HE := hid (HBAD.out (by rw [HW5.out]; decide))
       clear hT hsm
       go_wp2
       go_ret
       exact ⟨ret_int (by rw [HE.out, HW5.out]), HBA.out⟩
     · have HWK : Hid (wKeys L = if badTo L ln = true then 7 else 0) := by show _ = _; rw [wKeys, if_neg (by rw [← HLN.out]; exact h5), ← HLN.out]
       have HTX := hid hT
       have HSL := hid hsm
       clear hsm
       go_wp2
       go_loop [29] (fun i => ∃ j : Nat, j ≤ ln ∧ i = .int .i64 j ∧ Hid (badTo L j = false)) (fun i => ln - (intOf i).toNat)
       case atStart => exact ⟨0, Nat.zero_le _, rfl, rfl⟩
       case round =>
         obtain ⟨j, hj, rfl, HH⟩ := hrel
         by_cases hlt : j < ln
         · rcases HTX.out.run with h | ⟨b, o, rfl, h1⟩
           · omega
           have hjl : j < L.length := by rw [← HLN.out]; exact hlt
           have c1 := h1 j _ (strs_at hjl)
           clear h1
           have hi : (j : Int) < (ln : Int) := by omega
           have hz : (L.getD j default).size ≤ maxLen := HSL.out _ (by simp [List.getD, hjl])
           have HB : Hid (badAt L j = (!keyB (L.getD j default) || has (L.take j) (L.getD j default))) := rfl
           have hcap := hT.hdr.le
           have hmx := hT.hdr.max
           unfold maxLen at hmx
           have HIN := hid (refIn_calls (L.take j) (some ⟨b, o, none⟩) j lc (L.getD j default) wr (Texts.take HTX.out hj))
           have HX : Hid (badAt L j = true → q = 7) := fun h => by
             have h7 : wKeys L = 7 := by rw [HWK.out, HLN.out, badTo_all hjl h]; rfl
             rw [HBAD.out (by rw [h7]; decide), h7]
           have HY : Hid (badAt L j = false → badTo L (j + 1) = false) := fun h => by simp [badTo, HH.out, h]
           clear hT
           generalize L.getD j default = x at *
           generalize badAt L j = bd at *
           generalize has (L.take j) x = hs at *
           cases hk : keyB x with
           | false =>
             rw [hk] at HB
             go_wp2_with fail
             refine (refKey_calls x _ hz).mono ?_
             rintro e w' ⟨rfl, rfl⟩
             rw [hk]
             go_wp2
             go_ret
             exact ⟨ret_int (HX.out (by rw [HB.out]; rfl)).symm, HBA.out⟩
           | true =>
             rw [hk] at HB
             cases hs with
             | true =>
               go_wp2_with fail
               refine (refKey_calls x _ hz).mono ?_
               rintro e w' ⟨rfl, rfl⟩
               rw [hk]
               go_wp2_with fail
               refine HIN.out.mono ?_
               rintro e w' ⟨rfl, rfl⟩
               go_wp2
               go_ret
               exact ⟨ret_int (HX.out (by rw [HB.out]; rfl)).symm, HBA.out⟩
             | false =>
               go_wp2_with fail
               refine (refKey_calls x _ hz).mono ?_
               rintro e w' ⟨rfl, rfl⟩
               rw [hk]
               go_wp2_with fail
               refine HIN.out.mono ?_
               rintro e w' ⟨rfl, rfl⟩
               go_wp2
               go_round
               case rel => exact ⟨j + 1, by omega, by go_num, HY.out (by rw [HB.out]; rfl)⟩
               case measure => simp [intOf]; omega
         · obtain rfl : j = ln := by omega
           have HNX := hid (HNEXT.out (by rw [HWK.out, HH.out]; rfl))
           go_wp2
           go_roundw
           case rel => exact ⟨t + 1, by omega, by go_num, HNX.out.1, HNX.out.2, by simp⟩
           case measure => simp [intOf]; omega
   · have ht2 : (t : Int) = 2 := by omega
     rw [ht2]
     have HT1 := hid (HT1.out (by omega))
     have HT2 := hid (HT2.out (by omega))
     clear ht htl ht2
     generalize wr = B at *
     have HQ2 : Hid (q = if 12 < cn then 5 else wCode R W C C.length) := by
       show _ = _
       rw [HQ.out, if_neg (by simpa using HT1.out), if_neg (by simpa using HT2.out), ← HN.out]
     clear HQ HT1 HT2
     by_cases h12 : 12 < cn
     · have HE : Hid (q = 5) := by show _ = _; rw [HQ2.out, if_pos h12]
       go_wp2
       go_ret
       exact ⟨ret_int HE.out.symm, HBA.out⟩
     · have HE : Hid (q = wCode R W C C.length) := by show _ = _; rw [HQ2.out, if_neg h12]
       clear HQ2
       have HXX := hid (And.intro x0 (And.intro x1 x2))
       go_wp2_with fail
       go_loopw [53] (fun i wr => ∃ k : Nat, k ≤ cn ∧ i = .int .i64 k ∧ Hid (wCode R W C k = 0) ∧ Hid (Below B.heap.size B wr)) (fun i _ => cn - (intOf i).toNat)
       case atStart => exact ⟨0, Nat.zero_le _, rfl, rfl, Below.refl _ _⟩
       case round =>
         obtain ⟨k, hk, rfl, HC, HB⟩ := hrel
         by_cases hlt : k < cn
         · have hkl : k < C.length := by rw [← HN.out]; exact hlt
           have hi : (k : Int) < (cn : Int) := by omega
           have HDR := hid (HDA.out.below HB.out)
           have z0 := kept_cell HB.out HXX.out.1
           have z1 := kept_cell HB.out HXX.out.2.1
           have z2 := kept_cell HB.out HXX.out.2.2
           have HX := hid (wCode_at hkl HC.out)
           have HY := hid (wCode_step (R := R) (W := W) (C := C) HC.out)
           rw [← HE.out] at HX
           rw [← HN.out] at HX HY
           rcases HDR.out.cd.run with h | ⟨b, o, rfl, h1⟩
           · omega
           have hbw : b < wr.heap.size := h1.lt (by rw [insCells_length]; omega)
           obtain ⟨c0, c1, c2, c3, c4⟩ := Codes.cells h1 hkl
           clear h1
           have lw : w.heap.size < wr.heap.size := by simpa using World.block_lt_of_cell? _ _ z0
           rcases hx : C.getD k default with ⟨kd, a, bb, nn, sk⟩
           rw [hx] at c0 c1 c2 c3 c4 HX HY
           clear hx
           simp only [Ins.kind, Ins.a, Ins.b, Ins.n, Ins.key] at c0 c1 c2 c3 c4
           have HBW := hid (below_deep HBA.out HB.out)
           by_cases hlo : kd < 1
           · have HI : Hid (q = 1) := by
               show _ = _
               have e1 : wIns R W (kd, a, bb, nn, sk) ((cn : Int) - 1 - k) = 1 := by rw [wIns, if_pos (.inl hlo)]
               rw [HX.out (by rw [e1]; decide), e1]
             go_wp2
             go_ret
             exact ⟨ret_int HI.out.symm, below_deep HBW.out (grew _ _)⟩
           by_cases hhi : 9 < kd
           · have HI : Hid (q = 1) := by
               show _ = _
               have e1 : wIns R W (kd, a, bb, nn, sk) ((cn : Int) - 1 - k) = 1 := by rw [wIns, if_pos (.inr hhi)]
               rw [HX.out (by rw [e1]; decide), e1]
             go_wp2
             go_ret
             exact ⟨ret_int HI.out.symm, below_deep HBW.out (grew _ _)⟩
           have hkd : kd = 1 ∨ kd = 2 ∨ kd = 3 ∨ kd = 4 ∨ kd = 5 ∨ kd = 6 ∨ kd = 7 ∨ kd = 8 ∨ kd = 9 := by omega
           clear hlo hhi
           rcases hkd with rfl | rfl | rfl | rfl | rfl | rfl | rfl | rfl | rfl
           · have HF : Hid ((a < 0 ∨ 3 < a ∨ bb < 0 ∨ 0 < bb ∨ nn < 0 ∨ 0 < nn) → q = 3) := fun h => by
               have e1 : wIns R W (1, a, bb, nn, sk) ((cn : Int) - 1 - k) = 3 := wIns_3 (by simp [Ins.kind]) (by simp [Ins.kind]) (by simp [regsFit, regFit, hasB, numFit, Ins.kind, Ins.a, Ins.b, Ins.n]; omega)
               rw [HX.out (by rw [e1]; decide), e1]
             have HG : Hid (0 ≤ a → a ≤ 3 → 0 ≤ bb → bb ≤ 0 → 0 ≤ nn → nn ≤ 0 → wIns R W (1, a, bb, nn, sk) ((cn : Int) - 1 - k) = noKey R sk) := fun h1 h2 h3 h4 h5 h6 => by
               rw [wIns_on (by simp [Ins.kind]) (by simp [Ins.kind]) (by simp [regsFit, regFit, hasB, Ins.kind, Ins.a, Ins.b]; omega) (by simp [numFit, Ins.kind, Ins.n]; omega)]
               simp [Ins.kind, Ins.key]
             generalize wIns R W (1, a, bb, nn, sk) ((cn : Int) - 1 - k) = g at *
             have p0 := box_cell wr #[.int .i64 1, .int .i64 a, .int .i64 bb, .int .i64 nn, .string sk] 72 0 _ rfl
             have p1 := box_cell wr #[.int .i64 1, .int .i64 a, .int .i64 bb, .int .i64 nn, .string sk] 72 1 _ rfl
             have p2 := box_cell wr #[.int .i64 1, .int .i64 a, .int .i64 bb, .int .i64 nn, .string sk] 72 2 _ rfl
             have p3 := box_cell wr #[.int .i64 1, .int .i64 a, .int .i64 bb, .int .i64 nn, .string sk] 72 3 _ rfl
             have p4 := box_cell wr #[.int .i64 1, .int .i64 a, .int .i64 bb, .int .i64 nn, .string sk] 72 4 _ rfl
             have HP := hid (And.intro p0 (And.intro p1 (And.intro p2 (And.intro p3 p4))))
             clear p0 p1 p2 p3 p4
             go_wp2_with fail
             refine (refHas_calls 1 114 _ (by decide) (by decide)).mono ?_
             rw [show letter 1 114 = true from by decide]
             rintro e w2 ⟨rfl, hb2⟩
             have p0 := kept_cell hb2 HP.out.1
             go_wp2_with fail
             refine (refHas_calls 1 115 _ (by decide) (by decide)).mono ?_
             rw [show letter 1 115 = false from by decide]
             rintro e w3 ⟨rfl, hb3⟩
             have hb23 := below_deep hb2 hb3
             have HW3 := hid (below_deep (grew wr (.cells #[.int .i64 1, .int .i64 a, .int .i64 bb, .int .i64 nn, .string sk] 72)) hb23)
             have r0 := kept_cell hb23 HP.out.1
             have r1 := kept_cell hb23 HP.out.2.1
             have r2 := kept_cell hb23 HP.out.2.2.1
             have r3 := kept_cell hb23 HP.out.2.2.2.1
             have r4 := kept_cell hb23 HP.out.2.2.2.2
             have zz0 := kept_cell HW3.out z0
             have zz1 := kept_cell HW3.out z1
             have zz2 := kept_cell HW3.out z2
             clear hb2 hb3 hb23 p0
             by_cases q0 : a < 0
             · go_wp2
               go_ret
               exact ⟨ret_int (HF.out (by omega)).symm, below_deep HBW.out HW3.out⟩
             have d0 : decide (a < 0) = false := decide_eq_false q0
             by_cases q1 : 3 < a
             · go_wp2
               go_ret
               exact ⟨ret_int (HF.out (by omega)).symm, below_deep HBW.out HW3.out⟩
             have d1 : decide (3 < a) = false := decide_eq_false q1
             by_cases q2 : bb < 0
             · go_wp2
               go_ret
               exact ⟨ret_int (HF.out (by omega)).symm, below_deep HBW.out HW3.out⟩
             have d2 : decide (bb < 0) = false := decide_eq_false q2
             by_cases q3 : 0 < bb
             · go_wp2
               go_ret
               exact ⟨ret_int (HF.out (by omega)).symm, below_deep HBW.out HW3.out⟩
             have d3 : decide (0 < bb) = false := decide_eq_false q3
             by_cases q4 : nn < 0
             · go_wp2
               go_ret
               exact ⟨ret_int (HF.out (by omega)).symm, below_deep HBW.out HW3.out⟩
             have d4 : decide (nn < 0) = false := decide_eq_false q4
             by_cases q5 : 0 < nn
             · go_wp2
               go_ret
               exact ⟨ret_int (HF.out (by omega)).symm, below_deep HBW.out HW3.out⟩
             have d5 : decide (0 < nn) = false := decide_eq_false q5
             go_wp2_with fail
             have HGG := hid (HG.out (by omega) (by omega) (by omega) (by omega) (by omega) (by omega))
             refine (refHas_calls 1 107 _ (by decide) (by decide)).mono ?_
             rw [show letter 1 107 = true from by decide]
             rintro e w5 ⟨rfl, hb5⟩
             have HW5 := hid (below_deep HW3.out hb5)
             have s0 := kept_cell HW5.out z0
             have s1 := kept_cell HW5.out z1
             have t0 := kept_cell hb5 r0
             have t4 := kept_cell hb5 r4
             have HLS := hid (refIn_calls R rb rn rc sk w5 (HDR.out.below HW5.out).tr)
             have HNK : Hid (g = if has R sk = true then 0 else 9) := HGG.out
             generalize has R sk = hs at *
             go_wp2_with fail
             refine HLS.out.mono ?_
             rintro e w6 ⟨rfl, rfl⟩
             cases hs with
             | true =>
               go_wp2
               go_roundw
               case rel => exact ⟨k + 1, by omega, by go_num, HY.out (by rw [HNK.out]; rfl), below_deep HB.out HW5.out⟩
               case measure => simp [intOf]; omega
             | false =>
               have HQ9 : Hid (q = 9) := by
                 show _ = _
                 have e1 : g = 9 := by rw [HNK.out]; rfl
                 rw [HX.out (by rw [e1]; decide), e1]
               go_wp2
               go_ret
               exact ⟨ret_int HQ9.out.symm, below_deep HBW.out HW5.out⟩
           · have HF : Hid ((a < 0 ∨ 3 < a ∨ bb < 0 ∨ 0 < bb ∨ nn < -1073741824 ∨ 1073741824 < nn) → q = 3) := fun h => by
               have e1 : wIns R W (2, a, bb, nn, sk) ((cn : Int) - 1 - k) = 3 := wIns_3 (by simp [Ins.kind]) (by simp [Ins.kind]) (by simp [regsFit, regFit, hasB, numFit, Ins.kind, Ins.a, Ins.b, Ins.n]; omega)
               rw [HX.out (by rw [e1]; decide), e1]
             have HG : Hid (0 ≤ a → a ≤ 3 → 0 ≤ bb → bb ≤ 0 → -1073741824 ≤ nn → nn ≤ 1073741824 → wIns R W (2, a, bb, nn, sk) ((cn : Int) - 1 - k) = (if sk.size = 0 then 0 else 2)) := fun h1 h2 h3 h4 h5 h6 => by
               rw [wIns_on (by simp [Ins.kind]) (by simp [Ins.kind]) (by simp [regsFit, regFit, hasB, Ins.kind, Ins.a, Ins.b]; omega) (by simp [numFit, Ins.kind, Ins.n]; omega)]
               simp [Ins.kind, Ins.key]
             generalize wIns R W (2, a, bb, nn, sk) ((cn : Int) - 1 - k) = g at *
             have p0 := box_cell wr #[.int .i64 2, .int .i64 a, .int .i64 bb, .int .i64 nn, .string sk] 72 0 _ rfl
             have p1 := box_cell wr #[.int .i64 2, .int .i64 a, .int .i64 bb, .int .i64 nn, .string sk] 72 1 _ rfl
             have p2 := box_cell wr #[.int .i64 2, .int .i64 a, .int .i64 bb, .int .i64 nn, .string sk] 72 2 _ rfl
             have p3 := box_cell wr #[.int .i64 2, .int .i64 a, .int .i64 bb, .int .i64 nn, .string sk] 72 3 _ rfl
             have p4 := box_cell wr #[.int .i64 2, .int .i64 a, .int .i64 bb, .int .i64 nn, .string sk] 72 4 _ rfl
             have HP := hid (And.intro p0 (And.intro p1 (And.intro p2 (And.intro p3 p4))))
             clear p0 p1 p2 p3 p4
             go_wp2_with fail
             refine (refHas_calls 2 114 _ (by decide) (by decide)).mono ?_
             rw [show letter 2 114 = true from by decide]
             rintro e w2 ⟨rfl, hb2⟩
             have p0 := kept_cell hb2 HP.out.1
             go_wp2_with fail
             refine (refHas_calls 2 115 _ (by decide) (by decide)).mono ?_
             rw [show letter 2 115 = false from by decide]
             rintro e w3 ⟨rfl, hb3⟩
             have hb23 := below_deep hb2 hb3
             have HW3 := hid (below_deep (grew wr (.cells #[.int .i64 2, .int .i64 a, .int .i64 bb, .int .i64 nn, .string sk] 72)) hb23)
             have r0 := kept_cell hb23 HP.out.1
             have r1 := kept_cell hb23 HP.out.2.1
             have r2 := kept_cell hb23 HP.out.2.2.1
             have r3 := kept_cell hb23 HP.out.2.2.2.1
             have r4 := kept_cell hb23 HP.out.2.2.2.2
             have zz0 := kept_cell HW3.out z0
             have zz1 := kept_cell HW3.out z1
             have zz2 := kept_cell HW3.out z2
             clear hb2 hb3 hb23 p0
             by_cases q0 : a < 0
             · go_wp2
               go_ret
               exact ⟨ret_int (HF.out (by omega)).symm, below_deep HBW.out HW3.out⟩
             have d0 : decide (a < 0) = false := decide_eq_false q0
             by_cases q1 : 3 < a
             · go_wp2
               go_ret
               exact ⟨ret_int (HF.out (by omega)).symm, below_deep HBW.out HW3.out⟩
             have d1 : decide (3 < a) = false := decide_eq_false q1
             by_cases q2 : bb < 0
             · go_wp2
               go_ret
               exact ⟨ret_int (HF.out (by omega)).symm, below_deep HBW.out HW3.out⟩
             have d2 : decide (bb < 0) = false := decide_eq_false q2
             by_cases q3 : 0 < bb
             · go_wp2
               go_ret
               exact ⟨ret_int (HF.out (by omega)).symm, below_deep HBW.out HW3.out⟩
             have d3 : decide (0 < bb) = false := decide_eq_false q3
             by_cases q4 : nn < -1073741824
             · go_wp2
               go_ret
               exact ⟨ret_int (HF.out (by omega)).symm, below_deep HBW.out HW3.out⟩
             have d4 : decide (nn < -1073741824) = false := decide_eq_false q4
             by_cases q5 : 1073741824 < nn
             · go_wp2
               go_ret
               exact ⟨ret_int (HF.out (by omega)).symm, below_deep HBW.out HW3.out⟩
             have d5 : decide (1073741824 < nn) = false := decide_eq_false q5
             go_wp2_with fail
             have HGG := hid (HG.out (by omega) (by omega) (by omega) (by omega) (by omega) (by omega))
             refine (refHas_calls 2 107 _ (by decide) (by decide)).mono ?_
             rw [show letter 2 107 = false from by decide]
             rintro e w5 ⟨rfl, hb5⟩
             have HW5 := hid (below_deep HW3.out hb5)
             have s0 := kept_cell HW5.out z0
             have s1 := kept_cell HW5.out z1
             have t0 := kept_cell hb5 r0
             have t4 := kept_cell hb5 r4
             by_cases hs : sk.size = 0
             · have hs' := size_nil hs
               have HG0 : Hid (g = 0) := by show _ = _; rw [HGG.out, if_pos hs]
               subst hs'
               clear hs
               go_wp2
               go_roundw
               case rel => exact ⟨k + 1, by omega, by go_num, HY.out HG0.out, below_deep HB.out HW5.out⟩
               case measure => simp [intOf]; omega
             · have hne : (sk.toList == []) = false := size_ne hs
               have HQ2 : Hid (q = 2) := by
                 show _ = _
                 have e1 : g = 2 := by rw [HGG.out, if_neg hs]
                 rw [HX.out (by rw [e1]; decide), e1]
               go_wp2
               go_ret
               exact ⟨ret_int HQ2.out.symm, below_deep HBW.out HW5.out⟩
           · have HF : Hid ((a < 0 ∨ 3 < a ∨ bb < 0 ∨ 3 < bb ∨ nn < 0 ∨ 0 < nn) → q = 3) := fun h => by
               have e1 : wIns R W (3, a, bb, nn, sk) ((cn : Int) - 1 - k) = 3 := wIns_3 (by simp [Ins.kind]) (by simp [Ins.kind]) (by simp [regsFit, regFit, hasB, numFit, Ins.kind, Ins.a, Ins.b, Ins.n]; omega)
               rw [HX.out (by rw [e1]; decide), e1]
             have HG : Hid (0 ≤ a → a ≤ 3 → 0 ≤ bb → bb ≤ 3 → 0 ≤ nn → nn ≤ 0 → wIns R W (3, a, bb, nn, sk) ((cn : Int) - 1 - k) = (if sk.size = 0 then 0 else 2)) := fun h1 h2 h3 h4 h5 h6 => by
               rw [wIns_on (by simp [Ins.kind]) (by simp [Ins.kind]) (by simp [regsFit, regFit, hasB, Ins.kind, Ins.a, Ins.b]; omega) (by simp [numFit, Ins.kind, Ins.n]; omega)]
               simp [Ins.kind, Ins.key]
             generalize wIns R W (3, a, bb, nn, sk) ((cn : Int) - 1 - k) = g at *
             have p0 := box_cell wr #[.int .i64 3, .int .i64 a, .int .i64 bb, .int .i64 nn, .string sk] 72 0 _ rfl
             have p1 := box_cell wr #[.int .i64 3, .int .i64 a, .int .i64 bb, .int .i64 nn, .string sk] 72 1 _ rfl
             have p2 := box_cell wr #[.int .i64 3, .int .i64 a, .int .i64 bb, .int .i64 nn, .string sk] 72 2 _ rfl
             have p3 := box_cell wr #[.int .i64 3, .int .i64 a, .int .i64 bb, .int .i64 nn, .string sk] 72 3 _ rfl
             have p4 := box_cell wr #[.int .i64 3, .int .i64 a, .int .i64 bb, .int .i64 nn, .string sk] 72 4 _ rfl
             have HP := hid (And.intro p0 (And.intro p1 (And.intro p2 (And.intro p3 p4))))
             clear p0 p1 p2 p3 p4
             go_wp2_with fail
             refine (refHas_calls 3 114 _ (by decide) (by decide)).mono ?_
             rw [show letter 3 114 = true from by decide]
             rintro e w2 ⟨rfl, hb2⟩
             have p0 := kept_cell hb2 HP.out.1
             go_wp2_with fail
             refine (refHas_calls 3 115 _ (by decide) (by decide)).mono ?_
             rw [show letter 3 115 = true from by decide]
             rintro e w3 ⟨rfl, hb3⟩
             have hb23 := below_deep hb2 hb3
             have HW3 := hid (below_deep (grew wr (.cells #[.int .i64 3, .int .i64 a, .int .i64 bb, .int .i64 nn, .string sk] 72)) hb23)
             have r0 := kept_cell hb23 HP.out.1
             have r1 := kept_cell hb23 HP.out.2.1
             have r2 := kept_cell hb23 HP.out.2.2.1
             have r3 := kept_cell hb23 HP.out.2.2.2.1
             have r4 := kept_cell hb23 HP.out.2.2.2.2
             have zz0 := kept_cell HW3.out z0
             have zz1 := kept_cell HW3.out z1
             have zz2 := kept_cell HW3.out z2
             clear hb2 hb3 hb23 p0
             by_cases q0 : a < 0
             · go_wp2
               go_ret
               exact ⟨ret_int (HF.out (by omega)).symm, below_deep HBW.out HW3.out⟩
             have d0 : decide (a < 0) = false := decide_eq_false q0
             by_cases q1 : 3 < a
             · go_wp2
               go_ret
               exact ⟨ret_int (HF.out (by omega)).symm, below_deep HBW.out HW3.out⟩
             have d1 : decide (3 < a) = false := decide_eq_false q1
             by_cases q2 : bb < 0
             · go_wp2
               go_ret
               exact ⟨ret_int (HF.out (by omega)).symm, below_deep HBW.out HW3.out⟩
             have d2 : decide (bb < 0) = false := decide_eq_false q2
             by_cases q3 : 3 < bb
             · go_wp2
               go_ret
               exact ⟨ret_int (HF.out (by omega)).symm, below_deep HBW.out HW3.out⟩
             have d3 : decide (3 < bb) = false := decide_eq_false q3
             by_cases q4 : nn < 0
             · go_wp2
               go_ret
               exact ⟨ret_int (HF.out (by omega)).symm, below_deep HBW.out HW3.out⟩
             have d4 : decide (nn < 0) = false := decide_eq_false q4
             by_cases q5 : 0 < nn
             · go_wp2
               go_ret
               exact ⟨ret_int (HF.out (by omega)).symm, below_deep HBW.out HW3.out⟩
             have d5 : decide (0 < nn) = false := decide_eq_false q5
             go_wp2_with fail
             have HGG := hid (HG.out (by omega) (by omega) (by omega) (by omega) (by omega) (by omega))
             refine (refHas_calls 3 107 _ (by decide) (by decide)).mono ?_
             rw [show letter 3 107 = false from by decide]
             rintro e w5 ⟨rfl, hb5⟩
             have HW5 := hid (below_deep HW3.out hb5)
             have s0 := kept_cell HW5.out z0
             have s1 := kept_cell HW5.out z1
             have t0 := kept_cell hb5 r0
             have t4 := kept_cell hb5 r4
             by_cases hs : sk.size = 0
             · have hs' := size_nil hs
               have HG0 : Hid (g = 0) := by show _ = _; rw [HGG.out, if_pos hs]
               subst hs'
               clear hs
               go_wp2
               go_roundw
               case rel => exact ⟨k + 1, by omega, by go_num, HY.out HG0.out, below_deep HB.out HW5.out⟩
               case measure => simp [intOf]; omega
             · have hne : (sk.toList == []) = false := size_ne hs
               have HQ2 : Hid (q = 2) := by
                 show _ = _
                 have e1 : g = 2 := by rw [HGG.out, if_neg hs]
                 rw [HX.out (by rw [e1]; decide), e1]
               go_wp2
               go_ret
               exact ⟨ret_int HQ2.out.symm, below_deep HBW.out HW5.out⟩
           · have HF : Hid ((a < 0 ∨ 3 < a ∨ bb < 0 ∨ 3 < bb ∨ nn < 0 ∨ 0 < nn) → q = 3) := fun h => by
               have e1 : wIns R W (4, a, bb, nn, sk) ((cn : Int) - 1 - k) = 3 := wIns_3 (by simp [Ins.kind]) (by simp [Ins.kind]) (by simp [regsFit, regFit, hasB, numFit, Ins.kind, Ins.a, Ins.b, Ins.n]; omega)
               rw [HX.out (by rw [e1]; decide), e1]
             have HG : Hid (0 ≤ a → a ≤ 3 → 0 ≤ bb → bb ≤ 3 → 0 ≤ nn → nn ≤ 0 → wIns R W (4, a, bb, nn, sk) ((cn : Int) - 1 - k) = (if sk.size = 0 then 0 else 2)) := fun h1 h2 h3 h4 h5 h6 => by
               rw [wIns_on (by simp [Ins.kind]) (by simp [Ins.kind]) (by simp [regsFit, regFit, hasB, Ins.kind, Ins.a, Ins.b]; omega) (by simp [numFit, Ins.kind, Ins.n]; omega)]
               simp [Ins.kind, Ins.key]
             generalize wIns R W (4, a, bb, nn, sk) ((cn : Int) - 1 - k) = g at *
             have p0 := box_cell wr #[.int .i64 4, .int .i64 a, .int .i64 bb, .int .i64 nn, .string sk] 72 0 _ rfl
             have p1 := box_cell wr #[.int .i64 4, .int .i64 a, .int .i64 bb, .int .i64 nn, .string sk] 72 1 _ rfl
             have p2 := box_cell wr #[.int .i64 4, .int .i64 a, .int .i64 bb, .int .i64 nn, .string sk] 72 2 _ rfl
             have p3 := box_cell wr #[.int .i64 4, .int .i64 a, .int .i64 bb, .int .i64 nn, .string sk] 72 3 _ rfl
             have p4 := box_cell wr #[.int .i64 4, .int .i64 a, .int .i64 bb, .int .i64 nn, .string sk] 72 4 _ rfl
             have HP := hid (And.intro p0 (And.intro p1 (And.intro p2 (And.intro p3 p4))))
             clear p0 p1 p2 p3 p4
             go_wp2_with fail
             refine (refHas_calls 4 114 _ (by decide) (by decide)).mono ?_
             rw [show letter 4 114 = true from by decide]
             rintro e w2 ⟨rfl, hb2⟩
             have p0 := kept_cell hb2 HP.out.1
             go_wp2_with fail
             refine (refHas_calls 4 115 _ (by decide) (by decide)).mono ?_
             rw [show letter 4 115 = true from by decide]
             rintro e w3 ⟨rfl, hb3⟩
             have hb23 := below_deep hb2 hb3
             have HW3 := hid (below_deep (grew wr (.cells #[.int .i64 4, .int .i64 a, .int .i64 bb, .int .i64 nn, .string sk] 72)) hb23)
             have r0 := kept_cell hb23 HP.out.1
             have r1 := kept_cell hb23 HP.out.2.1
             have r2 := kept_cell hb23 HP.out.2.2.1
             have r3 := kept_cell hb23 HP.out.2.2.2.1
             have r4 := kept_cell hb23 HP.out.2.2.2.2
             have zz0 := kept_cell HW3.out z0
             have zz1 := kept_cell HW3.out z1
             have zz2 := kept_cell HW3.out z2
             clear hb2 hb3 hb23 p0
             by_cases q0 : a < 0
             · go_wp2
               go_ret
               exact ⟨ret_int (HF.out (by omega)).symm, below_deep HBW.out HW3.out⟩
             have d0 : decide (a < 0) = false := decide_eq_false q0
             by_cases q1 : 3 < a
             · go_wp2
               go_ret
               exact ⟨ret_int (HF.out (by omega)).symm, below_deep HBW.out HW3.out⟩
             have d1 : decide (3 < a) = false := decide_eq_false q1
             by_cases q2 : bb < 0
             · go_wp2
               go_ret
               exact ⟨ret_int (HF.out (by omega)).symm, below_deep HBW.out HW3.out⟩
             have d2 : decide (bb < 0) = false := decide_eq_false q2
             by_cases q3 : 3 < bb
             · go_wp2
               go_ret
               exact ⟨ret_int (HF.out (by omega)).symm, below_deep HBW.out HW3.out⟩
             have d3 : decide (3 < bb) = false := decide_eq_false q3
             by_cases q4 : nn < 0
             · go_wp2
               go_ret
               exact ⟨ret_int (HF.out (by omega)).symm, below_deep HBW.out HW3.out⟩
             have d4 : decide (nn < 0) = false := decide_eq_false q4
             by_cases q5 : 0 < nn
             · go_wp2
               go_ret
               exact ⟨ret_int (HF.out (by omega)).symm, below_deep HBW.out HW3.out⟩
             have d5 : decide (0 < nn) = false := decide_eq_false q5
             go_wp2_with fail
             have HGG := hid (HG.out (by omega) (by omega) (by omega) (by omega) (by omega) (by omega))
             refine (refHas_calls 4 107 _ (by decide) (by decide)).mono ?_
             rw [show letter 4 107 = false from by decide]
             rintro e w5 ⟨rfl, hb5⟩
             have HW5 := hid (below_deep HW3.out hb5)
             have s0 := kept_cell HW5.out z0
             have s1 := kept_cell HW5.out z1
             have t0 := kept_cell hb5 r0
             have t4 := kept_cell hb5 r4
             by_cases hs : sk.size = 0
             · have hs' := size_nil hs
               have HG0 : Hid (g = 0) := by show _ = _; rw [HGG.out, if_pos hs]
               subst hs'
               clear hs
               go_wp2
               go_roundw
               case rel => exact ⟨k + 1, by omega, by go_num, HY.out HG0.out, below_deep HB.out HW5.out⟩
               case measure => simp [intOf]; omega
             · have hne : (sk.toList == []) = false := size_ne hs
               have HQ2 : Hid (q = 2) := by
                 show _ = _
                 have e1 : g = 2 := by rw [HGG.out, if_neg hs]
                 rw [HX.out (by rw [e1]; decide), e1]
               go_wp2
               go_ret
               exact ⟨ret_int HQ2.out.symm, below_deep HBW.out HW5.out⟩
           · have HF : Hid ((a < 0 ∨ 3 < a ∨ bb < 0 ∨ 3 < bb ∨ nn < 0 ∨ 0 < nn) → q = 3) := fun h => by
               have e1 : wIns R W (5, a, bb, nn, sk) ((cn : Int) - 1 - k) = 3 := wIns_3 (by simp [Ins.kind]) (by simp [Ins.kind]) (by simp [regsFit, regFit, hasB, numFit, Ins.kind, Ins.a, Ins.b, Ins.n]; omega)
               rw [HX.out (by rw [e1]; decide), e1]
             have HG : Hid (0 ≤ a → a ≤ 3 → 0 ≤ bb → bb ≤ 3 → 0 ≤ nn → nn ≤ 0 → wIns R W (5, a, bb, nn, sk) ((cn : Int) - 1 - k) = (if sk.size = 0 then 0 else 2)) := fun h1 h2 h3 h4 h5 h6 => by
               rw [wIns_on (by simp [Ins.kind]) (by simp [Ins.kind]) (by simp [regsFit, regFit, hasB, Ins.kind, Ins.a, Ins.b]; omega) (by simp [numFit, Ins.kind, Ins.n]; omega)]
               simp [Ins.kind, Ins.key]
             generalize wIns R W (5, a, bb, nn, sk) ((cn : Int) - 1 - k) = g at *
             have p0 := box_cell wr #[.int .i64 5, .int .i64 a, .int .i64 bb, .int .i64 nn, .string sk] 72 0 _ rfl
             have p1 := box_cell wr #[.int .i64 5, .int .i64 a, .int .i64 bb, .int .i64 nn, .string sk] 72 1 _ rfl
             have p2 := box_cell wr #[.int .i64 5, .int .i64 a, .int .i64 bb, .int .i64 nn, .string sk] 72 2 _ rfl
             have p3 := box_cell wr #[.int .i64 5, .int .i64 a, .int .i64 bb, .int .i64 nn, .string sk] 72 3 _ rfl
             have p4 := box_cell wr #[.int .i64 5, .int .i64 a, .int .i64 bb, .int .i64 nn, .string sk] 72 4 _ rfl
             have HP := hid (And.intro p0 (And.intro p1 (And.intro p2 (And.intro p3 p4))))
             clear p0 p1 p2 p3 p4
             go_wp2_with fail
             refine (refHas_calls 5 114 _ (by decide) (by decide)).mono ?_
             rw [show letter 5 114 = true from by decide]
             rintro e w2 ⟨rfl, hb2⟩
             have p0 := kept_cell hb2 HP.out.1
             go_wp2_with fail
             refine (refHas_calls 5 115 _ (by decide) (by decide)).mono ?_
             rw [show letter 5 115 = true from by decide]
             rintro e w3 ⟨rfl, hb3⟩
             have hb23 := below_deep hb2 hb3
             have HW3 := hid (below_deep (grew wr (.cells #[.int .i64 5, .int .i64 a, .int .i64 bb, .int .i64 nn, .string sk] 72)) hb23)
             have r0 := kept_cell hb23 HP.out.1
             have r1 := kept_cell hb23 HP.out.2.1
             have r2 := kept_cell hb23 HP.out.2.2.1
             have r3 := kept_cell hb23 HP.out.2.2.2.1
             have r4 := kept_cell hb23 HP.out.2.2.2.2
             have zz0 := kept_cell HW3.out z0
             have zz1 := kept_cell HW3.out z1
             have zz2 := kept_cell HW3.out z2
             clear hb2 hb3 hb23 p0
             by_cases q0 : a < 0
             · go_wp2
               go_ret
               exact ⟨ret_int (HF.out (by omega)).symm, below_deep HBW.out HW3.out⟩
             have d0 : decide (a < 0) = false := decide_eq_false q0
             by_cases q1 : 3 < a
             · go_wp2
               go_ret
               exact ⟨ret_int (HF.out (by omega)).symm, below_deep HBW.out HW3.out⟩
             have d1 : decide (3 < a) = false := decide_eq_false q1
             by_cases q2 : bb < 0
             · go_wp2
               go_ret
               exact ⟨ret_int (HF.out (by omega)).symm, below_deep HBW.out HW3.out⟩
             have d2 : decide (bb < 0) = false := decide_eq_false q2
             by_cases q3 : 3 < bb
             · go_wp2
               go_ret
               exact ⟨ret_int (HF.out (by omega)).symm, below_deep HBW.out HW3.out⟩
             have d3 : decide (3 < bb) = false := decide_eq_false q3
             by_cases q4 : nn < 0
             · go_wp2
               go_ret
               exact ⟨ret_int (HF.out (by omega)).symm, below_deep HBW.out HW3.out⟩
             have d4 : decide (nn < 0) = false := decide_eq_false q4
             by_cases q5 : 0 < nn
             · go_wp2
               go_ret
               exact ⟨ret_int (HF.out (by omega)).symm, below_deep HBW.out HW3.out⟩
             have d5 : decide (0 < nn) = false := decide_eq_false q5
             go_wp2_with fail
             have HGG := hid (HG.out (by omega) (by omega) (by omega) (by omega) (by omega) (by omega))
             refine (refHas_calls 5 107 _ (by decide) (by decide)).mono ?_
             rw [show letter 5 107 = false from by decide]
             rintro e w5 ⟨rfl, hb5⟩
             have HW5 := hid (below_deep HW3.out hb5)
             have s0 := kept_cell HW5.out z0
             have s1 := kept_cell HW5.out z1
             have t0 := kept_cell hb5 r0
             have t4 := kept_cell hb5 r4
             by_cases hs : sk.size = 0
             · have hs' := size_nil hs
               have HG0 : Hid (g = 0) := by show _ = _; rw [HGG.out, if_pos hs]
               subst hs'
               clear hs
               go_wp2
               go_roundw
               case rel => exact ⟨k + 1, by omega, by go_num, HY.out HG0.out, below_deep HB.out HW5.out⟩
               case measure => simp [intOf]; omega
             · have hne : (sk.toList == []) = false := size_ne hs
               have HQ2 : Hid (q = 2) := by
                 show _ = _
                 have e1 : g = 2 := by rw [HGG.out, if_neg hs]
                 rw [HX.out (by rw [e1]; decide), e1]
               go_wp2
               go_ret
               exact ⟨ret_int HQ2.out.symm, below_deep HBW.out HW5.out⟩
           · have HF : Hid ((a < 0 ∨ 3 < a ∨ bb < 0 ∨ 0 < bb ∨ nn < 0 ∨ 0 < nn) → q = 3) := fun h => by
               have e1 : wIns R W (6, a, bb, nn, sk) ((cn : Int) - 1 - k) = 3 := wIns_3 (by simp [Ins.kind]) (by simp [Ins.kind]) (by simp [regsFit, regFit, hasB, numFit, Ins.kind, Ins.a, Ins.b, Ins.n]; omega)
               rw [HX.out (by rw [e1]; decide), e1]
             have HG : Hid (0 ≤ a → a ≤ 3 → 0 ≤ bb → bb ≤ 0 → 0 ≤ nn → nn ≤ 0 → wIns R W (6, a, bb, nn, sk) ((cn : Int) - 1 - k) = noKey W sk) := fun h1 h2 h3 h4 h5 h6 => by
               rw [wIns_on (by simp [Ins.kind]) (by simp [Ins.kind]) (by simp [regsFit, regFit, hasB, Ins.kind, Ins.a, Ins.b]; omega) (by simp [numFit, Ins.kind, Ins.n]; omega)]
               simp [Ins.kind, Ins.key]
             generalize wIns R W (6, a, bb, nn, sk) ((cn : Int) - 1 - k) = g at *
             have p0 := box_cell wr #[.int .i64 6, .int .i64 a, .int .i64 bb, .int .i64 nn, .string sk] 72 0 _ rfl
             have p1 := box_cell wr #[.int .i64 6, .int .i64 a, .int .i64 bb, .int .i64 nn, .string sk] 72 1 _ rfl
             have p2 := box_cell wr #[.int .i64 6, .int .i64 a, .int .i64 bb, .int .i64 nn, .string sk] 72 2 _ rfl
             have p3 := box_cell wr #[.int .i64 6, .int .i64 a, .int .i64 bb, .int .i64 nn, .string sk] 72 3 _ rfl
             have p4 := box_cell wr #[.int .i64 6, .int .i64 a, .int .i64 bb, .int .i64 nn, .string sk] 72 4 _ rfl
             have HP := hid (And.intro p0 (And.intro p1 (And.intro p2 (And.intro p3 p4))))
             clear p0 p1 p2 p3 p4
             go_wp2_with fail
             refine (refHas_calls 6 114 _ (by decide) (by decide)).mono ?_
             rw [show letter 6 114 = true from by decide]
             rintro e w2 ⟨rfl, hb2⟩
             have p0 := kept_cell hb2 HP.out.1
             go_wp2_with fail
             refine (refHas_calls 6 115 _ (by decide) (by decide)).mono ?_
             rw [show letter 6 115 = false from by decide]
             rintro e w3 ⟨rfl, hb3⟩
             have hb23 := below_deep hb2 hb3
             have HW3 := hid (below_deep (grew wr (.cells #[.int .i64 6, .int .i64 a, .int .i64 bb, .int .i64 nn, .string sk] 72)) hb23)
             have r0 := kept_cell hb23 HP.out.1
             have r1 := kept_cell hb23 HP.out.2.1
             have r2 := kept_cell hb23 HP.out.2.2.1
             have r3 := kept_cell hb23 HP.out.2.2.2.1
             have r4 := kept_cell hb23 HP.out.2.2.2.2
             have zz0 := kept_cell HW3.out z0
             have zz1 := kept_cell HW3.out z1
             have zz2 := kept_cell HW3.out z2
             clear hb2 hb3 hb23 p0
             by_cases q0 : a < 0
             · go_wp2
               go_ret
               exact ⟨ret_int (HF.out (by omega)).symm, below_deep HBW.out HW3.out⟩
             have d0 : decide (a < 0) = false := decide_eq_false q0
             by_cases q1 : 3 < a
             · go_wp2
               go_ret
               exact ⟨ret_int (HF.out (by omega)).symm, below_deep HBW.out HW3.out⟩
             have d1 : decide (3 < a) = false := decide_eq_false q1
             by_cases q2 : bb < 0
             · go_wp2
               go_ret
               exact ⟨ret_int (HF.out (by omega)).symm, below_deep HBW.out HW3.out⟩
             have d2 : decide (bb < 0) = false := decide_eq_false q2
             by_cases q3 : 0 < bb
             · go_wp2
               go_ret
               exact ⟨ret_int (HF.out (by omega)).symm, below_deep HBW.out HW3.out⟩
             have d3 : decide (0 < bb) = false := decide_eq_false q3
             by_cases q4 : nn < 0
             · go_wp2
               go_ret
               exact ⟨ret_int (HF.out (by omega)).symm, below_deep HBW.out HW3.out⟩
             have d4 : decide (nn < 0) = false := decide_eq_false q4
             by_cases q5 : 0 < nn
             · go_wp2
               go_ret
               exact ⟨ret_int (HF.out (by omega)).symm, below_deep HBW.out HW3.out⟩
             have d5 : decide (0 < nn) = false := decide_eq_false q5
             go_wp2_with fail
             have HGG := hid (HG.out (by omega) (by omega) (by omega) (by omega) (by omega) (by omega))
             refine (refHas_calls 6 107 _ (by decide) (by decide)).mono ?_
             rw [show letter 6 107 = true from by decide]
             rintro e w5 ⟨rfl, hb5⟩
             have HW5 := hid (below_deep HW3.out hb5)
             have s0 := kept_cell HW5.out z0
             have s1 := kept_cell HW5.out z1
             have t0 := kept_cell hb5 r0
             have t4 := kept_cell hb5 r4
             have HLS := hid (refIn_calls W wb wn wc sk w5 (HDR.out.below HW5.out).tw)
             have HNK : Hid (g = if has W sk = true then 0 else 9) := HGG.out
             generalize has W sk = hs at *
             go_wp2_with fail
             refine HLS.out.mono ?_
             rintro e w6 ⟨rfl, rfl⟩
             cases hs with
             | true =>
               go_wp2
               go_roundw
               case rel => exact ⟨k + 1, by omega, by go_num, HY.out (by rw [HNK.out]; rfl), below_deep HB.out HW5.out⟩
               case measure => simp [intOf]; omega
             | false =>
               have HQ9 : Hid (q = 9) := by
                 show _ = _
                 have e1 : g = 9 := by rw [HNK.out]; rfl
                 rw [HX.out (by rw [e1]; decide), e1]
               go_wp2
               go_ret
               exact ⟨ret_int HQ9.out.symm, below_deep HBW.out HW5.out⟩
           · have HF : Hid ((a < 0 ∨ 0 < a ∨ bb < 0 ∨ 0 < bb ∨ nn < 0 ∨ 0 < nn) → q = 3) := fun h => by
               have e1 : wIns R W (7, a, bb, nn, sk) ((cn : Int) - 1 - k) = 3 := wIns_3 (by simp [Ins.kind]) (by simp [Ins.kind]) (by simp [regsFit, regFit, hasB, numFit, Ins.kind, Ins.a, Ins.b, Ins.n]; omega)
               rw [HX.out (by rw [e1]; decide), e1]
             have HG : Hid (0 ≤ a → a ≤ 0 → 0 ≤ bb → bb ≤ 0 → 0 ≤ nn → nn ≤ 0 → wIns R W (7, a, bb, nn, sk) ((cn : Int) - 1 - k) = noKey W sk) := fun h1 h2 h3 h4 h5 h6 => by
               rw [wIns_on (by simp [Ins.kind]) (by simp [Ins.kind]) (by simp [regsFit, regFit, hasB, Ins.kind, Ins.a, Ins.b]; omega) (by simp [numFit, Ins.kind, Ins.n]; omega)]
               simp [Ins.kind, Ins.key]
             generalize wIns R W (7, a, bb, nn, sk) ((cn : Int) - 1 - k) = g at *
             have p0 := box_cell wr #[.int .i64 7, .int .i64 a, .int .i64 bb, .int .i64 nn, .string sk] 72 0 _ rfl
             have p1 := box_cell wr #[.int .i64 7, .int .i64 a, .int .i64 bb, .int .i64 nn, .string sk] 72 1 _ rfl
             have p2 := box_cell wr #[.int .i64 7, .int .i64 a, .int .i64 bb, .int .i64 nn, .string sk] 72 2 _ rfl
             have p3 := box_cell wr #[.int .i64 7, .int .i64 a, .int .i64 bb, .int .i64 nn, .string sk] 72 3 _ rfl
             have p4 := box_cell wr #[.int .i64 7, .int .i64 a, .int .i64 bb, .int .i64 nn, .string sk] 72 4 _ rfl
             have HP := hid (And.intro p0 (And.intro p1 (And.intro p2 (And.intro p3 p4))))
             clear p0 p1 p2 p3 p4
             go_wp2_with fail
             refine (refHas_calls 7 114 _ (by decide) (by decide)).mono ?_
             rw [show letter 7 114 = false from by decide]
             rintro e w2 ⟨rfl, hb2⟩
             have p0 := kept_cell hb2 HP.out.1
             go_wp2_with fail
             refine (refHas_calls 7 115 _ (by decide) (by decide)).mono ?_
             rw [show letter 7 115 = false from by decide]
             rintro e w3 ⟨rfl, hb3⟩
             have hb23 := below_deep hb2 hb3
             have HW3 := hid (below_deep (grew wr (.cells #[.int .i64 7, .int .i64 a, .int .i64 bb, .int .i64 nn, .string sk] 72)) hb23)
             have r0 := kept_cell hb23 HP.out.1
             have r1 := kept_cell hb23 HP.out.2.1
             have r2 := kept_cell hb23 HP.out.2.2.1
             have r3 := kept_cell hb23 HP.out.2.2.2.1
             have r4 := kept_cell hb23 HP.out.2.2.2.2
             have zz0 := kept_cell HW3.out z0
             have zz1 := kept_cell HW3.out z1
             have zz2 := kept_cell HW3.out z2
             clear hb2 hb3 hb23 p0
             by_cases q0 : a < 0
             · go_wp2
               go_ret
               exact ⟨ret_int (HF.out (by omega)).symm, below_deep HBW.out HW3.out⟩
             have d0 : decide (a < 0) = false := decide_eq_false q0
             by_cases q1 : 0 < a
             · go_wp2
               go_ret
               exact ⟨ret_int (HF.out (by omega)).symm, below_deep HBW.out HW3.out⟩
             have d1 : decide (0 < a) = false := decide_eq_false q1
             by_cases q2 : bb < 0
             · go_wp2
               go_ret
               exact ⟨ret_int (HF.out (by omega)).symm, below_deep HBW.out HW3.out⟩
             have d2 : decide (bb < 0) = false := decide_eq_false q2
             by_cases q3 : 0 < bb
             · go_wp2
               go_ret
               exact ⟨ret_int (HF.out (by omega)).symm, below_deep HBW.out HW3.out⟩
             have d3 : decide (0 < bb) = false := decide_eq_false q3
             by_cases q4 : nn < 0
             · go_wp2
               go_ret
               exact ⟨ret_int (HF.out (by omega)).symm, below_deep HBW.out HW3.out⟩
             have d4 : decide (nn < 0) = false := decide_eq_false q4
             by_cases q5 : 0 < nn
             · go_wp2
               go_ret
               exact ⟨ret_int (HF.out (by omega)).symm, below_deep HBW.out HW3.out⟩
             have d5 : decide (0 < nn) = false := decide_eq_false q5
             go_wp2_with fail
             have HGG := hid (HG.out (by omega) (by omega) (by omega) (by omega) (by omega) (by omega))
             refine (refHas_calls 7 107 _ (by decide) (by decide)).mono ?_
             rw [show letter 7 107 = true from by decide]
             rintro e w5 ⟨rfl, hb5⟩
             have HW5 := hid (below_deep HW3.out hb5)
             have s0 := kept_cell HW5.out z0
             have s1 := kept_cell HW5.out z1
             have t0 := kept_cell hb5 r0
             have t4 := kept_cell hb5 r4
             have HLS := hid (refIn_calls W wb wn wc sk w5 (HDR.out.below HW5.out).tw)
             have HNK : Hid (g = if has W sk = true then 0 else 9) := HGG.out
             generalize has W sk = hs at *
             go_wp2_with fail
             refine HLS.out.mono ?_
             rintro e w6 ⟨rfl, rfl⟩
             cases hs with
             | true =>
               go_wp2
               go_roundw
               case rel => exact ⟨k + 1, by omega, by go_num, HY.out (by rw [HNK.out]; rfl), below_deep HB.out HW5.out⟩
               case measure => simp [intOf]; omega
             | false =>
               have HQ9 : Hid (q = 9) := by
                 show _ = _
                 have e1 : g = 9 := by rw [HNK.out]; rfl
                 rw [HX.out (by rw [e1]; decide), e1]
               go_wp2
               go_ret
               exact ⟨ret_int HQ9.out.symm, below_deep HBW.out HW5.out⟩
           · have HF : Hid ((a < 0 ∨ 3 < a ∨ bb < 0 ∨ 0 < bb ∨ nn < 1 ∨ ((cn : Int) - 1 - k) < nn) → q = 3) := fun h => by
               have e1 : wIns R W (8, a, bb, nn, sk) ((cn : Int) - 1 - k) = 3 := wIns_3 (by simp [Ins.kind]) (by simp [Ins.kind]) (by simp [regsFit, regFit, hasB, numFit, Ins.kind, Ins.a, Ins.b, Ins.n]; omega)
               rw [HX.out (by rw [e1]; decide), e1]
             have HG : Hid (0 ≤ a → a ≤ 3 → 0 ≤ bb → bb ≤ 0 → 1 ≤ nn → nn ≤ ((cn : Int) - 1 - k) → wIns R W (8, a, bb, nn, sk) ((cn : Int) - 1 - k) = (if sk.size = 0 then 0 else 2)) := fun h1 h2 h3 h4 h5 h6 => by
               rw [wIns_on (by simp [Ins.kind]) (by simp [Ins.kind]) (by simp [regsFit, regFit, hasB, Ins.kind, Ins.a, Ins.b]; omega) (by simp [numFit, Ins.kind, Ins.n]; omega)]
               simp [Ins.kind, Ins.key]
             generalize wIns R W (8, a, bb, nn, sk) ((cn : Int) - 1 - k) = g at *
             have p0 := box_cell wr #[.int .i64 8, .int .i64 a, .int .i64 bb, .int .i64 nn, .string sk] 72 0 _ rfl
             have p1 := box_cell wr #[.int .i64 8, .int .i64 a, .int .i64 bb, .int .i64 nn, .string sk] 72 1 _ rfl
             have p2 := box_cell wr #[.int .i64 8, .int .i64 a, .int .i64 bb, .int .i64 nn, .string sk] 72 2 _ rfl
             have p3 := box_cell wr #[.int .i64 8, .int .i64 a, .int .i64 bb, .int .i64 nn, .string sk] 72 3 _ rfl
             have p4 := box_cell wr #[.int .i64 8, .int .i64 a, .int .i64 bb, .int .i64 nn, .string sk] 72 4 _ rfl
             have HP := hid (And.intro p0 (And.intro p1 (And.intro p2 (And.intro p3 p4))))
             clear p0 p1 p2 p3 p4
             go_wp2_with fail
             refine (refHas_calls 8 114 _ (by decide) (by decide)).mono ?_
             rw [show letter 8 114 = true from by decide]
             rintro e w2 ⟨rfl, hb2⟩
             have p0 := kept_cell hb2 HP.out.1
             go_wp2_with fail
             refine (refHas_calls 8 115 _ (by decide) (by decide)).mono ?_
             rw [show letter 8 115 = false from by decide]
             rintro e w3 ⟨rfl, hb3⟩
             have hb23 := below_deep hb2 hb3
             have HW3 := hid (below_deep (grew wr (.cells #[.int .i64 8, .int .i64 a, .int .i64 bb, .int .i64 nn, .string sk] 72)) hb23)
             have r0 := kept_cell hb23 HP.out.1
             have r1 := kept_cell hb23 HP.out.2.1
             have r2 := kept_cell hb23 HP.out.2.2.1
             have r3 := kept_cell hb23 HP.out.2.2.2.1
             have r4 := kept_cell hb23 HP.out.2.2.2.2
             have zz0 := kept_cell HW3.out z0
             have zz1 := kept_cell HW3.out z1
             have zz2 := kept_cell HW3.out z2
             clear hb2 hb3 hb23 p0
             go_wp2
             go_quiet (fail)
             rename_i nq
             have HW4 := hid (below_drewN HW3.out nq)
             by_cases q0 : a < 0
             · go_wp2
               go_ret
               exact ⟨ret_int (HF.out (by omega)).symm, below_deep HBW.out HW4.out⟩
             have d0 : decide (a < 0) = false := decide_eq_false q0
             by_cases q1 : 3 < a
             · go_wp2
               go_ret
               exact ⟨ret_int (HF.out (by omega)).symm, below_deep HBW.out HW4.out⟩
             have d1 : decide (3 < a) = false := decide_eq_false q1
             by_cases q2 : bb < 0
             · go_wp2
               go_ret
               exact ⟨ret_int (HF.out (by omega)).symm, below_deep HBW.out HW4.out⟩
             have d2 : decide (bb < 0) = false := decide_eq_false q2
             by_cases q3 : 0 < bb
             · go_wp2
               go_ret
               exact ⟨ret_int (HF.out (by omega)).symm, below_deep HBW.out HW4.out⟩
             have d3 : decide (0 < bb) = false := decide_eq_false q3
             by_cases q4 : nn < 1
             · go_wp2
               go_ret
               exact ⟨ret_int (HF.out (by omega)).symm, below_deep HBW.out HW4.out⟩
             have d4 : decide (nn < 1) = false := decide_eq_false q4
             by_cases q5 : ((cn : Int) - 1 - k) < nn
             · go_wp2
               go_ret
               exact ⟨ret_int (HF.out (by omega)).symm, below_deep HBW.out HW4.out⟩
             have d5 : decide (((cn : Int) - 1 - k) < nn) = false := decide_eq_false q5
             go_wp2_with fail
             have HGG := hid (HG.out (by omega) (by omega) (by omega) (by omega) (by omega) (by omega))
             refine (refHas_calls 8 107 _ (by decide) (by decide)).mono ?_
             rw [show letter 8 107 = false from by decide]
             rintro e w5 ⟨rfl, hb5⟩
             have HW5 := hid (below_deep HW4.out hb5)
             have s0 := kept_cell HW5.out z0
             have s1 := kept_cell HW5.out z1
             have t0 := kept_cell hb5 r0
             have t4 := kept_cell hb5 r4
             by_cases hs : sk.size = 0
             · have hs' := size_nil hs
               have HG0 : Hid (g = 0) := by show _ = _; rw [HGG.out, if_pos hs]
               subst hs'
               clear hs
               go_wp2
               go_roundw
               case rel => exact ⟨k + 1, by omega, by go_num, HY.out HG0.out, below_deep HB.out HW5.out⟩
               case measure => simp [intOf]; omega
             · have hne : (sk.toList == []) = false := size_ne hs
               have HQ2 : Hid (q = 2) := by
                 show _ = _
                 have e1 : g = 2 := by rw [HGG.out, if_neg hs]
                 rw [HX.out (by rw [e1]; decide), e1]
               go_wp2
               go_ret
               exact ⟨ret_int HQ2.out.symm, below_deep HBW.out HW5.out⟩
           · have HF : Hid ((a < 0 ∨ 3 < a ∨ bb < 0 ∨ 0 < bb ∨ nn < 0 ∨ 0 < nn) → q = 3) := fun h => by
               have e1 : wIns R W (9, a, bb, nn, sk) ((cn : Int) - 1 - k) = 3 := wIns_3 (by simp [Ins.kind]) (by simp [Ins.kind]) (by simp [regsFit, regFit, hasB, numFit, Ins.kind, Ins.a, Ins.b, Ins.n]; omega)
               rw [HX.out (by rw [e1]; decide), e1]
             have HG : Hid (0 ≤ a → a ≤ 3 → 0 ≤ bb → bb ≤ 0 → 0 ≤ nn → nn ≤ 0 → wIns R W (9, a, bb, nn, sk) ((cn : Int) - 1 - k) = (if sk.size = 0 then 0 else 2)) := fun h1 h2 h3 h4 h5 h6 => by
               rw [wIns_on (by simp [Ins.kind]) (by simp [Ins.kind]) (by simp [regsFit, regFit, hasB, Ins.kind, Ins.a, Ins.b]; omega) (by simp [numFit, Ins.kind, Ins.n]; omega)]
               simp [Ins.kind, Ins.key]
             generalize wIns R W (9, a, bb, nn, sk) ((cn : Int) - 1 - k) = g at *
             have p0 := box_cell wr #[.int .i64 9, .int .i64 a, .int .i64 bb, .int .i64 nn, .string sk] 72 0 _ rfl
             have p1 := box_cell wr #[.int .i64 9, .int .i64 a, .int .i64 bb, .int .i64 nn, .string sk] 72 1 _ rfl
             have p2 := box_cell wr #[.int .i64 9, .int .i64 a, .int .i64 bb, .int .i64 nn, .string sk] 72 2 _ rfl
             have p3 := box_cell wr #[.int .i64 9, .int .i64 a, .int .i64 bb, .int .i64 nn, .string sk] 72 3 _ rfl
             have p4 := box_cell wr #[.int .i64 9, .int .i64 a, .int .i64 bb, .int .i64 nn, .string sk] 72 4 _ rfl
             have HP := hid (And.intro p0 (And.intro p1 (And.intro p2 (And.intro p3 p4))))
             clear p0 p1 p2 p3 p4
             go_wp2_with fail
             refine (refHas_calls 9 114 _ (by decide) (by decide)).mono ?_
             rw [show letter 9 114 = true from by decide]
             rintro e w2 ⟨rfl, hb2⟩
             have p0 := kept_cell hb2 HP.out.1
             go_wp2_with fail
             refine (refHas_calls 9 115 _ (by decide) (by decide)).mono ?_
             rw [show letter 9 115 = false from by decide]
             rintro e w3 ⟨rfl, hb3⟩
             have hb23 := below_deep hb2 hb3
             have HW3 := hid (below_deep (grew wr (.cells #[.int .i64 9, .int .i64 a, .int .i64 bb, .int .i64 nn, .string sk] 72)) hb23)
             have r0 := kept_cell hb23 HP.out.1
             have r1 := kept_cell hb23 HP.out.2.1
             have r2 := kept_cell hb23 HP.out.2.2.1
             have r3 := kept_cell hb23 HP.out.2.2.2.1
             have r4 := kept_cell hb23 HP.out.2.2.2.2
             have zz0 := kept_cell HW3.out z0
             have zz1 := kept_cell HW3.out z1
             have zz2 := kept_cell HW3.out z2
             clear hb2 hb3 hb23 p0
             by_cases q0 : a < 0
             · go_wp2
               go_ret
               exact ⟨ret_int (HF.out (by omega)).symm, below_deep HBW.out HW3.out⟩
             have d0 : decide (a < 0) = false := decide_eq_false q0
             by_cases q1 : 3 < a
             · go_wp2
               go_ret
               exact ⟨ret_int (HF.out (by omega)).symm, below_deep HBW.out HW3.out⟩
             have d1 : decide (3 < a) = false := decide_eq_false q1
             by_cases q2 : bb < 0
             · go_wp2
               go_ret
               exact ⟨ret_int (HF.out (by omega)).symm, below_deep HBW.out HW3.out⟩
             have d2 : decide (bb < 0) = false := decide_eq_false q2
             by_cases q3 : 0 < bb
             · go_wp2
               go_ret
               exact ⟨ret_int (HF.out (by omega)).symm, below_deep HBW.out HW3.out⟩
             have d3 : decide (0 < bb) = false := decide_eq_false q3
             by_cases q4 : nn < 0
             · go_wp2
               go_ret
               exact ⟨ret_int (HF.out (by omega)).symm, below_deep HBW.out HW3.out⟩
             have d4 : decide (nn < 0) = false := decide_eq_false q4
             by_cases q5 : 0 < nn
             · go_wp2
               go_ret
               exact ⟨ret_int (HF.out (by omega)).symm, below_deep HBW.out HW3.out⟩
             have d5 : decide (0 < nn) = false := decide_eq_false q5
             go_wp2_with fail
             have HGG := hid (HG.out (by omega) (by omega) (by omega) (by omega) (by omega) (by omega))
             refine (refHas_calls 9 107 _ (by decide) (by decide)).mono ?_
             rw [show letter 9 107 = false from by decide]
             rintro e w5 ⟨rfl, hb5⟩
             have HW5 := hid (below_deep HW3.out hb5)
             have s0 := kept_cell HW5.out z0
             have s1 := kept_cell HW5.out z1
             have t0 := kept_cell hb5 r0
             have t4 := kept_cell hb5 r4
             by_cases hs : sk.size = 0
             · have hs' := size_nil hs
               have HG0 : Hid (g = 0) := by show _ = _; rw [HGG.out, if_pos hs]
               subst hs'
               clear hs
               go_wp2
               go_roundw
               case rel => exact ⟨k + 1, by omega, by go_num, HY.out HG0.out, below_deep HB.out HW5.out⟩
               case measure => simp [intOf]; omega
             · have hne : (sk.toList == []) = false := size_ne hs
               have HQ2 : Hid (q = 2) := by
                 show _ = _
                 have e1 : g = 2 := by rw [HGG.out, if_neg hs]
                 rw [HX.out (by rw [e1]; decide), e1]
               go_wp2
               go_ret
               exact ⟨ret_int HQ2.out.symm, below_deep HBW.out HW5.out⟩
         · obtain rfl : k = cn := by omega
           go_wp2
           go_ret
           exact ⟨ret_int (by rw [HE.out, ← HN.out, HC.out]), below_deep HBA.out HB.out⟩
end Go.Proofs.YtlhaeeenkgkdaaaGreatDoor
