/-
  The closed fact that the statements of chapter 10 ask first is so.
  How the closed fact of chapter 10 reads its deed.
  The statements' build of chapter 10, walked.
-/
import Derived.Test.YtnbekpblmkdnlaaGreatDoorRunDo
import Derived.Test.YtnbekpblmkdnlaaGreatDoorRepHold
import Derived.Deep.DeepCutAuto
import Derived.Test.YtnbekpblmkdnlaaGreatDoorRepFinds
import Derived.Test.YtnbekpblmkdnlaaGreatDoorOpen
import Derived.Deep.RegionWith
import Derived.Test.YtnbekpblmkdnlaaGreatDoorRepCatch
namespace Go.Proofs.YtnbekpblmkdnlaaGreatDoor
open Go.RowKit

theorem deeds_alone (w : World) (rb : Option Addr) (rn rc : Nat) (wb : Option Addr) (wn wc : Nat) (cb : Option Addr) (cn cc : Nat) (d : Deed3) (h : DeedIn w rb rn rc wb wn wc cb cn cc d.1 d.2.1 d.2.2) (s : SmallT d.1 ∧ SmallT d.2.1) : DeedsIn (w.alloc (.cells #[.slice rb rn rc, .slice wb wn wc, .slice cb cn cc] 52)) (some ⟨w.heap.size, 0, none⟩) 1 1 [d] := by
 have hb := grew w (.cells #[.slice rb rn rc, .slice wb wn wc, .slice cb cn cc] 52)
 refine ⟨rfl, ⟨Nat.le_refl _, by unfold maxLen; omega, fun h => by cases h⟩, .inr ⟨_, _, rfl, fun i hi => ?_⟩⟩
 obtain rfl : i = 0 := by omega
 exact ⟨rb, rn, rc, wb, wn, wc, cb, cn, cc, box_cell w _ _ 0 _ rfl, box_cell w _ _ 1 _ rfl, box_cell w _ _ 2 _ rfl, h.below hb, s.1, s.2⟩
theorem tri_keep {A w1 w2 : World} {b : Nat} {x0 x1 x2 : Value} (h : w1.cell? ⟨b, 0, none⟩ = some x0 ∧ w1.cell? ⟨b, 1, none⟩ = some x1 ∧ w1.cell? ⟨b, 2, none⟩ = some x2 ∧ Below A.heap.size A w1) (hb : Below w1.heap.size w1 w2) :
   w2.cell? ⟨b, 0, none⟩ = some x0 ∧ w2.cell? ⟨b, 1, none⟩ = some x1 ∧ w2.cell? ⟨b, 2, none⟩ = some x2 ∧ Below A.heap.size A w2 := by
 obtain ⟨h0, h1, h2, hz⟩ := h
 exact ⟨kept_cell hb h0, kept_cell hb h1, kept_cell hb h2, below_deep hz hb⟩
theorem three_held {p0 p1 p2 : Prop} {B : Nat} {A w' : World} (h : p0 ∧ p1 ∧ p2 ∧ Below B A w') : Below B A w' := h.2.2.2
theorem ten_go : goR ⟨tenE, 2, []⟩ 0 = (⟨tenX, 2, []⟩, 0) := by
 unfold goR
 simp only [ten_ready]
 rfl
theorem ten_gone : goR ⟨tenX, 2, []⟩ 5 = (⟨tenX, 2, []⟩, 6) := by
 unfold goR
 simp only [ten_readyX]
 rfl
theorem rep_field0 (cb : Option Addr) (cn cc : Nat) (db : Option Addr) (dn dc : Nat) (sb : Option Addr) (sn sc : Nat) (eb : Option Addr) (en ec : Nat) (base next : Int) (ab : Option Addr) (an ac : Nat) (w : World) : (Instr.field 35 (.agg (repA cb cn cc db dn dc sb sn sc eb en ec base next ab an ac)) 0).run Tryz.prog w = .ok (.agg (engA cb cn cc db dn dc sb sn sc eb en ec base)) w := by kernel_rfl
theorem eng_field1 (cb : Option Addr) (cn cc : Nat) (db : Option Addr) (dn dc : Nat) (sb : Option Addr) (sn sc : Nat) (eb : Option Addr) (en ec : Nat) (base : Int) (w : World) : (Instr.field 33 (.agg (engA cb cn cc db dn dc sb sn sc eb en ec base)) 1).run Tryz.prog w = .ok (.slice db dn dc) w := by kernel_rfl
def LieAt (w : World) (o : Nat) : Prop := DeedsIn w (some ⟨o, 0, none⟩) 1 1 tenL
theorem LieAt.below {w w' : World} {o : Nat} (h : LieAt w o) (hb : Below w.heap.size w w') : LieAt w' o := DeedsIn.below h hb
theorem LieAt.drew {w : World} {o : Nat} (h : LieAt w o) : LieAt w.drew o := h.below (step_drew (Below.refl _ _))

set_option maxHeartbeats 16000000 in
set_option maxRecDepth 100000 in
theorem ten_calls (w : World)
   (hR : ∀ (s : ByteArray) (W : World), Below w.heap.size w W → keyT s = oneT → Calls Tryz.prog 16 #[.string s] W fun x w' => ∃ rb rn rc wb wn wc cb cn cc, x = .returned (.agg #[.slice rb rn rc, .slice wb wn wc, .slice cb cn cc]) ∧ DeedIn w' rb rn rc wb wn wc cb cn cc oneD.1 oneD.2.1 oneD.2.2 ∧ Below W.heap.size W w') :
   Calls Tryz.prog 6 #[] w fun x w' => x = .returned (.bool true) ∧ Below w.heap.size w w' := by
 have PR := hid hR
 clear hR
 go_enter Tryz.func6, Tryz.ntmps6
 go_wp2_with fail
 refine (PR.out _ w (Below.refl _ _) ?_).mono ?_
 · rfl
 rintro x w1 ⟨rb, rn, rc, wb, wn, wcc, cb, cn, cc, rfl, hdi, hb1⟩
 have HG1 := hid (grew w1 (.cells #[.slice rb rn rc, .slice wb wn wcc, .slice cb cn cc] 52))
 have HX1 := hid (Box.new w1 #[.slice rb rn rc, .slice wb wn wcc, .slice cb cn cc] 52)
 have HD1 := hid (hdi.below HG1.out)
 have HB1 := hid (below_deep hb1 HG1.out)
 clear hdi hb1 PR HG1
 go_upto_region 2 with fail
 generalize w1.alloc (.cells #[.slice rb rn rc, .slice wb wn wcc, .slice cb cn cc] 52) = A1 at *
 generalize w1.heap.size = b1 at *
 have hxl : b1 < A1.heap.size := HX1.out.lt
 have HLA : Hid (∀ W : World, Below A1.heap.size A1 W → LieAt (W.alloc (.cells #[.slice rb rn rc, .slice wb wn wcc, .slice cb cn cc] 52)) W.heap.size) := fun W h => deeds_alone W rb rn rc wb wn wcc cb cn cc oneD (HD1.out.below h) ⟨one_small, one_small⟩
 go_cut [2, 3] (fun pv iv wx => ∃ b, pv = .pointer (some ⟨b, 0, none⟩) ∧ iv = .int .i64 12 ∧ Hid (HoldR A1 wx b tenA) ∧ Hid (Below A1.heap.size A1 wx))
 case first =>
   have x0 := HX1.out.cell 0 _ rfl
   have x1 := HX1.out.cell 1 _ rfl
   have x2 := HX1.out.cell 2 _ rfl
   have PN := hid (newP_calls A1)
   unfold RepToldAt at PN
   have PC : Hid (∀ (rv : Value) (o : Nat) (W : World), Below A1.heap.size A1 W → RepIn W rv newR → LieAt W o → Calls Tryz.prog 9 #[rv, .agg #[.int .i64 1, .slice (some ⟨o, 0, none⟩) 1 1]] W fun x w' => RepNumAt A1 W w' (tenA, 12) x) := fun rv o W h0 h1 h2 => by
     have := comeP_calls GoodR.new (1, tenL) ten_right1 rv (.agg #[.int .i64 1, .slice (some ⟨o, 0, none⟩) 1 1]) A1 W h1 ⟨_, _, _, rfl, h2⟩
     rw [ten_a] at this
     exact this
   have B0 := hid (step_drew (Below.refl A1.heap.size A1))
   have HS2 : Hid ((fun w' => w'.cell? ⟨b1, 0, none⟩ = some (.slice rb rn rc) ∧ w'.cell? ⟨b1, 1, none⟩ = some (.slice wb wn wcc) ∧ w'.cell? ⟨b1, 2, none⟩ = some (.slice cb cn cc) ∧ Below A1.heap.size A1 w') A1) := ⟨x0, x1, x2, Below.refl _ _⟩
   have HS1 : Hid ((fun w' => w'.cell? ⟨b1, 0, none⟩ = some (.slice rb rn rc) ∧ w'.cell? ⟨b1, 1, none⟩ = some (.slice wb wn wcc) ∧ w'.cell? ⟨b1, 2, none⟩ = some (.slice cb cn cc) ∧ Below A1.heap.size A1 w') A1.drew) := ⟨kept_cell B0.out x0, kept_cell B0.out x1, kept_cell B0.out x2, B0.out⟩
   have HR0 := hid (Below.refl A1.heap.size A1)
   have L1 := HLA
   have L2 : Hid (∀ W : World, Below A1.heap.size A1 W → LieAt ((W.alloc (.cells #[.slice rb rn rc, .slice wb wn wcc, .slice cb cn cc] 52)).alloc (.cells nilR 35)) W.heap.size) := fun W h => (HLA.out W h).below (grew _ _)
   have L3 : Hid (∀ W : World, Below A1.heap.size A1 W → LieAt ((W.alloc (.cells nilR 35)).alloc (.cells #[.slice rb rn rc, .slice wb wn wcc, .slice cb cn cc] 52)) (W.heap.size + 1)) := fun W h => by
     have := HLA.out _ (step_box h (.cells nilR 35))
     rw [World.size_alloc] at this
     exact this
   have Z1 : Hid (∀ W : World, Box (W.alloc (.cells nilR 35)) W.heap.size nilR 35) := fun W => Box.new W nilR 35
   have Z2 : Hid (∀ W : World, Box ((W.alloc (.cells #[.slice rb rn rc, .slice wb wn wcc, .slice cb cn cc] 52)).alloc (.cells nilR 35)) (W.heap.size + 1) nilR 35) := fun W => by
     have := Box.new (W.alloc (.cells #[.slice rb rn rc, .slice wb wn wcc, .slice cb cn cc] 52)) nilR 35
     rw [World.size_alloc] at this
     exact this
   have Z3 : Hid (∀ W : World, Box ((W.alloc (.cells nilR 35)).alloc (.cells #[.slice rb rn rc, .slice wb wn wcc, .slice cb cn cc] 52)) W.heap.size nilR 35) := fun W => (Box.new W nilR 35).below (grew _ _)
   have DR : Hid (∀ W : World, Below W.heap.size W W.drew) := fun W => step_drew (Below.refl _ _)
   go_region_held3 (fun w' => w'.cell? ⟨b1, 0, none⟩ = some (.slice rb rn rc) ∧ w'.cell? ⟨b1, 1, none⟩ = some (.slice wb wn wcc) ∧ w'.cell? ⟨b1, 2, none⟩ = some (.slice cb cn cc) ∧ Below A1.heap.size A1 w')
     (first
       | with_reducible exact HS1.out
       | with_reducible exact HS7.out
       | with_reducible exact HS6.out
       | with_reducible exact HS5.out
       | with_reducible exact tri_keep HS6.out (grew _ _)
       | with_reducible exact tri_keep HS5.out (grew _ _)
       | with_reducible exact tri_keep HS5.out (below_deep (grew _ _) (grew _ _))
       | with_reducible exact tri_keep HS2.out ((grew _ _).drew)
       | with_reducible exact tri_keep HS2.out (below_deep (grew _ _) (grew _ _)).drew)
     (first
       | (go_at_call 8; refine (PN.out _).mono ?_; rintro _ wN ⟨vn, rfl, hvn, hbn⟩; (first | (have hbA : Below A1.heap.size A1 wN := (by with_reducible exact below_deep B0.out hbn)) | (have hbA : Below A1.heap.size A1 wN := (by with_reducible exact below_deep ((grew _ _).drew) hbn)) | (have hbA : Below A1.heap.size A1 wN := (by with_reducible exact below_deep ((below_deep (grew _ _) (grew _ _)).drew) hbn))); have HS5 := hid (tri_keep HS2.out hbA); (first | (have HDN : Hid (LieAt wN A1.heap.size) := (by with_reducible exact hid (LieAt.below (LieAt.drew (L1.out A1 HR0.out)) hbn))) | (have HDN : Hid (LieAt wN A1.heap.size) := (by with_reducible exact hid (LieAt.below (LieAt.drew (L2.out A1 HR0.out)) hbn))) | (have HDN : Hid (LieAt wN (A1.heap.size + 1)) := (by with_reducible exact hid (LieAt.below (LieAt.drew (L3.out A1 HR0.out)) hbn))) | skip); (first | (have HZN : Hid (Box wN A1.heap.size nilR 35) := (by with_reducible exact hid (Box.below (Box.below (Z1.out A1) (DR.out _)) hbn)); have hz : A1.heap.size ≤ A1.heap.size := Nat.le_refl _) | (have HZN : Hid (Box wN (A1.heap.size + 1) nilR 35) := (by with_reducible exact hid (Box.below (Box.below (Z2.out A1) (DR.out _)) hbn)); have hz : A1.heap.size ≤ A1.heap.size + 1 := Nat.le_succ _) | (have HZN : Hid (Box wN A1.heap.size nilR 35) := (by with_reducible exact hid (Box.below (Box.below (Z3.out A1) (DR.out _)) hbn)); have hz : A1.heap.size ≤ A1.heap.size := Nat.le_refl _) | skip))
       | (go_at_call 9; refine (PC.out _ _ _ ?_ ?_ ?_).mono ?_; exact three_held (by assumption); (first | with_reducible exact hvn.in hbA | with_reducible exact (hvn.in hbA).below (grew _ _) | with_reducible exact ((hvn.in hbA).below (grew _ _)).below (grew _ _)); (first | with_reducible exact HDN.out | with_reducible exact HDN.out.below (grew _ _) | with_reducible exact L1.out _ hbA | with_reducible exact L2.out _ hbA | with_reducible exact L3.out _ hbA); rintro _ wC ⟨vc, rfl, ⟨cb3, cn3, cc3, db3, dn3, dc3, sb3, sn3, sc3, eb3, en3, ec3, ab3, an3, ac3, S3, rfl, hp3⟩, hbc⟩; (first | (have hbD : Below A1.heap.size A1 wC := (by with_reducible exact below_deep hbA hbc)) | (have hbD : Below A1.heap.size A1 wC := (by with_reducible exact below_deep (below_deep hbA (grew _ _)) hbc)) | (have hbD : Below A1.heap.size A1 wC := (by with_reducible exact below_deep (below_deep (below_deep hbA (grew _ _)) (grew _ _)) hbc))); have HS6 := hid (tri_keep HS2.out hbD); (first | (have HZC := hid (Box.below HZN.out (by with_reducible exact hbc))) | (have HZC := hid (Box.below (Box.below HZN.out (grew wN (.cells #[.slice rb rn rc, .slice wb wn wcc, .slice cb cn cc] 52))) (by with_reducible exact hbc))) | (have HZC := hid (Box.below (Z1.out wN) (by with_reducible exact hbc)); have hz : A1.heap.size ≤ wN.heap.size := hbA.size) | (have HZC := hid (Box.below (Z2.out wN) (by with_reducible exact hbc)); have hz : A1.heap.size ≤ wN.heap.size + 1 := Nat.le_succ_of_le hbA.size) | (have HZC := hid (Box.below (Z3.out wN) (by with_reducible exact hbc)); have hz : A1.heap.size ≤ wN.heap.size := hbA.size) | skip); (first | (have z0 := HZC.out.cells7.1; have z1 := HZC.out.cells7.2.1; have z2 := HZC.out.cells7.2.2.1; have z3 := HZC.out.cells7.2.2.2.1; have z4 := HZC.out.cells7.2.2.2.2.1; have z5 := HZC.out.cells7.2.2.2.2.2.1; have z6 := HZC.out.cells7.2.2.2.2.2.2; have f0 := HZC.out.free 0; have f1 := HZC.out.free 1; have f2 := HZC.out.free 2; have f3 := HZC.out.free 3; have f4 := HZC.out.free 4; have f5 := HZC.out.free 5; have f6 := HZC.out.free 6; have hzl := HZC.out.lt; have HS7 := hid (tri_keep HS2.out (hbD.trans (low_seven hz (.slice cb3 cn3 cc3) (.slice db3 dn3 dc3) (.slice sb3 sn3 sc3) (.slice eb3 en3 ec3) (.int .i64 tenA.eng.base) (.int .i64 tenA.next) (.slice ab3 an3 ac3))))) | skip)))
   all_goals first
     | (go_wp2; go_meet; with_reducible exact ⟨_, rfl, rfl, hid (holdR (Box.new _ _ _) (hp3.below (grew _ _))), hid (step_box hbD _)⟩)
     | (go_wp2; go_meet; with_reducible exact ⟨_, rfl, rfl, hid (holdR (put7_box HZC.out _ _ _ _ _ _ _) (hp3.put HZC.out (put7_off _ _ _ _ _ _ _ _ _))), hid (put7_below hbD hz _ _ _ _ _ _ _)⟩)
 case rest =>
   obtain ⟨ba, rfl, rfl, HHA, HBA⟩ := hcut
   obtain ⟨es3, m3, dn3, bq3, hgA⟩ := ten_goodA
   obtain ⟨es4, m4, dn4, bq4, hgB⟩ := ten_goodB
   obtain ⟨es5, m5, dn5, bq5, hgX⟩ := ten_goodX
   have HGA := hid hgA
   have HGB := hid hgB
   have HGX := hid hgX
   obtain ⟨cb3, cn3, cc3, db3, dl3, dc3, sb3, sn3, sc3, eb3, en3, ec3, ab3, an3, ac3, S3, hbx3, hp3⟩ := HHA.out
   obtain rfl : an3 = 1 := (hp3.lies HBA.out).early.len
   have HX3 := hid hbx3
   have HP3 := hid (hp3.lies HBA.out)
   have HD3 := hid (HX1.out.below HBA.out)
   have HBW := hid (below_deep HB1.out HBA.out)
   clear hgA hgB hgX hbx3 hp3 HHA HX1 hxl
   have x0 := HD3.out.cell 0 _ rfl
   have x1 := HD3.out.cell 1 _ rfl
   have x2 := HD3.out.cell 2 _ rfl
   have hxl : b1 < wc.heap.size := HD3.out.lt
   obtain ⟨a0, a1, a2, a3, a4, a5, a6⟩ := HX3.out.cells7
   have hal : ba < wc.heap.size := HX3.out.lt
   have HLW := hid (HLA.out wc HBA.out)
   have PC : Hid (Calls Tryz.prog 9 #[.agg (repA cb3 cn3 cc3 db3 dl3 dc3 sb3 sn3 sc3 eb3 en3 ec3 tenA.eng.base tenA.next ab3 1 ac3), .agg #[.int .i64 0, .slice (some ⟨wc.heap.size, 0, none⟩) 1 1]] (wc.alloc (.cells #[.slice rb rn rc, .slice wb wn wcc, .slice cb cn cc] 52)) fun x w' => RepNumAt A1 (wc.alloc (.cells #[.slice rb rn rc, .slice wb wn wcc, .slice cb cn cc] 52)) w' (⟨tenE, 2, []⟩, 0) x) := by
     have := comeP_calls HGA.out (0, tenL) ten_right0 (.agg (repA cb3 cn3 cc3 db3 dl3 dc3 sb3 sn3 sc3 eb3 en3 ec3 tenA.eng.base tenA.next ab3 1 ac3)) (.agg #[.int .i64 0, .slice (some ⟨wc.heap.size, 0, none⟩) 1 1]) A1 _ (RepIn.below ⟨_, _, _, _, _, _, _, _, _, _, _, _, _, _, _, rfl, HP3.out⟩ (grew wc (.cells #[.slice rb rn rc, .slice wb wn wcc, .slice cb cn cc] 52))) ⟨_, _, _, rfl, HLW.out⟩
     rw [ten_b] at this
     exact this
   generalize hbs : tenA.eng.base = bsA at *
   generalize hnx : tenA.next = nxA at *
   clear hbs hnx
   go_wp2_with fail
   refine PC.out.mono ?_
   rintro _ w4 ⟨v4, rfl, ⟨cb4, cn4, cc4, db4, dl4, dc4, sb4, sn4, sc4, eb4, en4, ec4, ab4, an4, ac4, S4, rfl, hp4⟩, hb4⟩
   obtain rfl : dl4 = 2 := hp4.eng.de.len.trans ten_deeds.1
   have HG4 := hid (grew w4 (.cells (repA cb4 cn4 cc4 db4 2 dc4 sb4 sn4 sc4 eb4 en4 ec4 tenE.base 2 ab4 an4 ac4) 35))
   have HX4 := hid (Box.new w4 (repA cb4 cn4 cc4 db4 2 dc4 sb4 sn4 sc4 eb4 en4 ec4 tenE.base 2 ab4 an4 ac4) 35)
   have HBN := hid (below_deep (grew wc (.cells #[.slice rb rn rc, .slice wb wn wcc, .slice cb cn cc] 52)) (below_deep hb4 HG4.out))
   have HB4 := hid (below_deep HBW.out HBN.out)
   have HP4 := hid (hp4.below HG4.out)
   have HA1 := hid (below_deep HBA.out HBN.out)
   have HX34 := hid (HX3.out.below HBN.out)
   clear hp4 hb4 PC HG4 HX3 HP3 HD3 HBW HLW a0 a1 a2 a3 a4 a5 a6 x0 x1 x2 hxl hal HBA HBN
   go_upto_region 4 with fail
   generalize htb : tenE.base = tb at *
   generalize w4.alloc (.cells (repA cb4 cn4 cc4 db4 2 dc4 sb4 sn4 sc4 eb4 en4 ec4 tb 2 ab4 an4 ac4) 35) = A4 at *
   generalize w4.heap.size = bb at *
   have PG : Hid (Calls Tryz.prog 17 #[.agg (repA cb4 cn4 cc4 db4 2 dc4 sb4 sn4 sc4 eb4 en4 ec4 tb 2 ab4 an4 ac4), .int .i64 0] A4 fun x w' => RepNumAt A1 A4 w' (⟨tenX, 2, []⟩, 0) x) := by
     have := goP_calls HGB.out 0 (.agg (repA cb4 cn4 cc4 db4 2 dc4 sb4 sn4 sc4 eb4 en4 ec4 tb 2 ab4 an4 ac4)) A1 A4 ⟨_, _, _, _, _, _, _, _, _, _, _, _, _, _, _, by rw [← htb], HP4.out.lies HA1.out⟩
     rw [ten_go] at this
     exact this
   clear htb
   obtain ⟨a0, a1, a2, a3, a4, a5, a6⟩ := HX4.out.cells7
   have hal : bb < A4.heap.size := HX4.out.lt
   go_wp2_with fail
   refine PG.out.mono ?_
   rintro _ w5 ⟨v5, rfl, ⟨cb5, cn5, cc5, db5, dl5, dc5, sb5, sn5, sc5, eb5, en5, ec5, ab5, an5, ac5, S5, rfl, hp5⟩, hb5⟩
   have HG5 := hid (grew w5 (.cells (repA cb5 cn5 cc5 db5 dl5 dc5 sb5 sn5 sc5 eb5 en5 ec5 tenX.base 2 ab5 an5 ac5) 35))
   have HX5 := hid (Box.new w5 (repA cb5 cn5 cc5 db5 dl5 dc5 sb5 sn5 sc5 eb5 en5 ec5 tenX.base 2 ab5 an5 ac5) 35)
   have HBN := hid (below_deep hb5 HG5.out)
   have HB5 := hid (below_deep HB4.out HBN.out)
   have HP5 := hid (hp5.below HG5.out)
   have HA5 := hid (below_deep HA1.out HBN.out)
   have HX35 := hid (HX34.out.below HBN.out)
   have HX45 := hid (HX4.out.below HBN.out)
   clear hp5 hb5 PG HG5 HX4 HX34 HP4 HB4 HA1 HBN a0 a1 a2 a3 a4 a5 a6 hal
   go_upto_region 5 with fail
   generalize htb : tenX.base = tb5 at *
   generalize w5.alloc (.cells (repA cb5 cn5 cc5 db5 dl5 dc5 sb5 sn5 sc5 eb5 en5 ec5 tb5 2 ab5 an5 ac5) 35) = A5 at *
   generalize w5.heap.size = bc at *
   have PG : Hid (Calls Tryz.prog 17 #[.agg (repA cb5 cn5 cc5 db5 dl5 dc5 sb5 sn5 sc5 eb5 en5 ec5 tb5 2 ab5 an5 ac5), .int .i64 5] A5 fun x w' => RepNumAt A1 A5 w' (⟨tenX, 2, []⟩, 6) x) := by
     have := goP_calls HGX.out 5 (.agg (repA cb5 cn5 cc5 db5 dl5 dc5 sb5 sn5 sc5 eb5 en5 ec5 tb5 2 ab5 an5 ac5)) A1 A5 ⟨_, _, _, _, _, _, _, _, _, _, _, _, _, _, _, by rw [← htb], HP5.out.lies HA5.out⟩
     rw [ten_gone] at this
     exact this
   obtain ⟨a0, a1, a2, a3, a4, a5, a6⟩ := HX5.out.cells7
   have hal : bc < A5.heap.size := HX5.out.lt
   go_wp2_with fail
   refine PG.out.mono ?_
   rintro _ w6 ⟨v6, rfl, ⟨cb6, cn6, cc6, db6, dl6, dc6, sb6, sn6, sc6, eb6, en6, ec6, ab6, an6, ac6, S6, rfl, hp6⟩, hb6⟩
   have HG6 := hid (grew w6 (.cells (repA cb6 cn6 cc6 db6 dl6 dc6 sb6 sn6 sc6 eb6 en6 ec6 tenX.base 2 ab6 an6 ac6) 35))
   have HX6 := hid (Box.new w6 (repA cb6 cn6 cc6 db6 dl6 dc6 sb6 sn6 sc6 eb6 en6 ec6 tenX.base 2 ab6 an6 ac6) 35)
   have HBN := hid (below_deep hb6 HG6.out)
   have HB6 := hid (below_deep HB5.out HBN.out)
   have HP6 := hid (hp6.below HG6.out)
   have HP56 := hid (HP5.out.below HBN.out)
   have HA6 := hid (below_deep HA5.out HBN.out)
   have HX36 := hid (HX35.out.below HBN.out)
   have HX46 := hid (HX45.out.below HBN.out)
   have HX56 := hid (HX5.out.below HBN.out)
   clear hp6 hb6 PG HG6 HX35 HX45 HX5 HP5 HB5 HA5 HBN a0 a1 a2 a3 a4 a5 a6 hal
   go_upto_region 6 with fail
   subst htb
   generalize w6.alloc (.cells (repA cb6 cn6 cc6 db6 dl6 dc6 sb6 sn6 sc6 eb6 en6 ec6 tenX.base 2 ab6 an6 ac6) 35) = A6 at *
   generalize htb : tenX.base = tb5 at *
   generalize w6.heap.size = bd at *
   have HIC : Hid (∀ W, Below A6.heap.size A6 W → RepIn W (.agg (repA cb5 cn5 cc5 db5 dl5 dc5 sb5 sn5 sc5 eb5 en5 ec5 tb5 2 ab5 an5 ac5)) ⟨tenX, 2, []⟩) := fun W hW => RepIn.below ⟨_, _, _, _, _, _, _, _, _, _, _, _, _, _, _, by rw [← htb], HP56.out.lies HA6.out⟩ hW
   have HIX : Hid (∀ W, Below A6.heap.size A6 W → RepIn W (.agg (repA cb6 cn6 cc6 db6 dl6 dc6 sb6 sn6 sc6 eb6 en6 ec6 tb5 2 ab6 an6 ac6)) ⟨tenX, 2, []⟩) := fun W hW => RepIn.below ⟨_, _, _, _, _, _, _, _, _, _, _, _, _, _, _, by rw [← htb], HP6.out.lies HA6.out⟩ hW
   have PS := hid (seenP_calls HGX.out.eng (Nat.le_trans HGX.out.few (by decide)) _ A6 (HIC.out A6 (Below.refl _ _)))
   have a6 := HX36.out.cells7.2.2.2.2.2.2
   have hal : ba < A6.heap.size := HX36.out.lt
   have c1 := HX46.out.cells7.2.1
   have c5 := HX46.out.cells7.2.2.2.2.2.1
   have hcl : bb < A6.heap.size := HX46.out.lt
   obtain ⟨x0, x1, x2, x3, x4, x5, x6⟩ := HX56.out.cells7
   have hxl : bc < A6.heap.size := HX56.out.lt
   go_wp2_with fail
   refine PS.out.mono ?_
   rintro _ w7 ⟨b7, n7, c7, rfl, h7, hb7⟩
   obtain rfl : n7 = 1 := h7.len.trans ten_seen.2
   have HB7 := hid hb7
   have HX57 := hid (HX56.out.below hb7)
   have HX67 := hid (HX6.out.below hb7)
   have PCL := hid (clearP_calls HGX.out _ A1 w7 (HIC.out w7 hb7))
   clear h7 hb7 PS x0 x1 x2 x3 x4 x5 x6 hxl a6 hal c1 c5 hcl HX36 HX46 HX56 HX6
   obtain ⟨x0, x1, x2, x3, x4, x5, x6⟩ := HX57.out.cells7
   have hxl : bc < w7.heap.size := HX57.out.lt
   go_wp2_with fail
   refine PCL.out.mono ?_
   rintro _ w8 ⟨v8, rfl, ⟨cb8, cn8, cc8, db8, dl8, dc8, sb8, sn8, sc8, eb8, en8, ec8, ab8, an8, ac8, S8, rfl, hp8⟩, hb8⟩
   obtain rfl : dl8 = 1 := hp8.eng.de.len.trans ten_clear
   have HB8 := hid (below_deep HB7.out hb8)
   have HX68 := hid (HX67.out.below hb8)
   have POW := hid (ownR_calls HGX.out _ w8 (HIX.out w8 HB8.out))
   clear hp8 hb8 PCL x0 x1 x2 x3 x4 x5 x6 hxl HX57 HX67
   have F80 := rep_field0 cb8 cn8 cc8 db8 1 dc8 sb8 sn8 sc8 eb8 en8 ec8 (clearE tenX (markE tenX)).base 2 ab8 an8 ac8
   have F81 := eng_field1 cb8 cn8 cc8 db8 1 dc8 sb8 sn8 sc8 eb8 en8 ec8 (clearE tenX (markE tenX)).base
   obtain ⟨x0, x1, x2, x3, x4, x5, x6⟩ := HX68.out.cells7
   have hxl : bd < w8.heap.size := HX68.out.lt
   go_wp2_with fail
   refine POW.out.mono ?_
   rintro _ w9 ⟨cb9, cn9, cc9, db9, dl9, dc9, sb9, sn9, sc9, eb9, en9, ec9, ab9, an9, ac9, S9, rfl, ho9, hb9⟩
   obtain rfl : dl9 = 2 := ho9.eng.lies2.de.len.trans ten_deeds.2
   have HBF := hid (below_deep HB6.out (below_deep HB8.out hb9))
   clear ho9 hb9 POW x0 x1 x2 x3 x4 x5 x6 hxl
   simp only [htb]
   have F90 := rep_field0 cb9 cn9 cc9 db9 2 dc9 sb9 sn9 sc9 eb9 en9 ec9 tb5 2 ab9 an9 ac9
   have F91 := eng_field1 cb9 cn9 cc9 db9 2 dc9 sb9 sn9 sc9 eb9 en9 ec9 tb5
   go_wp2
   go_ret
   exact ⟨rfl, HBF.out⟩
end Go.Proofs.YtnbekpblmkdnlaaGreatDoor

namespace Go.Proofs.YtnbekpblmkdnlaaGreatDoor
open Go.RowKit

theorem read10_results (tmps : Array Value) (b : Nat) (w : World) {x y z : Value} (h2 : tmps.getD 2 undef = .pointer (some ⟨b, 0, none⟩)) (h : Three w b x y z) (hx : ∃ p q r, x = .slice p q r) (hy : ∃ p q r, y = .slice p q r) (hz : ∃ p q r, z = .slice p q r) :
   (results Tryz.f16 tmps).run Tryz.prog w = .ok (.agg #[x, y, z]) w := by
 have h2' : tmps[2]?.getD undef = .pointer (some ⟨b, 0, none⟩) := by simpa using h2
 obtain ⟨_, _, _, rfl⟩ := hx
 obtain ⟨_, _, _, rfl⟩ := hy
 obtain ⟨_, _, _, rfl⟩ := hz
 simp [results, Tryz.results16, go_sem, h2', h.c0, h.c1, h.c2]

set_option maxRecDepth 100000 in
set_option maxHeartbeats 2000000 in
theorem read10_calls (s : ByteArray) (d : Deed3) (w : World) (hG : GroundN w) (hs : s.size ≤ maxLen) (hd : readT (keyT s) = (0, d.1, d.2.1, d.2.2)) :
   Calls Tryz.prog 16 #[.string s] w fun e w' => ReadTold w w' d e := by
 have HA0 := hid (three_new w (.slice none 0 0) (.slice none 0 0) (.slice none 0 0) 52)
 have HG0 := hid (grew w (.cells #[.slice none 0 0, .slice none 0 0, .slice none 0 0] 52))
 have HP := hid (refParse_calls s _ (hG.below HG0.out) hs)
 rw [hd] at HP
 clear hG hs hd
 go_enter Tryz.func16, Tryz.ntmps16
 go_wp2_with fail
 refine HP.out.mono ?_
 rintro e w1 ⟨rb, rn, rc, wb, wn, wc, cb, cn, cc, rfl, hdi, hb1, f0, f1, f2⟩
 have q0 := (HA0.out.below hb1).c0
 have q1 := (HA0.out.below hb1).c1
 have q2 := (HA0.out.below hb1).c2
 have g0 := (HA0.out.below hb1).free 0
 have g1 := (HA0.out.below hb1).free 1
 have g2 := (HA0.out.below hb1).free 2
 have hlt := (HA0.out.below hb1).lt
 have hlt0 : w.heap.size < (w.alloc (.cells #[.slice none 0 0, .slice none 0 0, .slice none 0 0] 52)).heap.size := by rw [World.size_alloc]; omega
 have HDF : Hid (DeedIn ((setThree w1 w.heap.size (.slice rb rn rc) (.slice wb wn wc) (.slice cb cn cc)).alloc (.cells #[.slice rb rn rc, .slice wb wn wc, .slice cb cn cc] 52)) rb rn rc wb wn wc cb cn cc d.1 d.2.1 d.2.2) :=
   DeedIn.below ⟨three_lies f0 hlt0 hdi.tr, three_lies f1 hlt0 hdi.tw, three_lies f2 hlt0 hdi.cd⟩ (grew _ _)
 have HBF := hid (below_deep (below_three (below_deep HG0.out hb1) (Nat.le_refl w.heap.size) (.slice rb rn rc) (.slice wb wn wc) (.slice cb cn cc)) (grew _ (.cells #[.slice rb rn rc, .slice wb wn wc, .slice cb cn cc] 52)))
 have HTH := hid (((HA0.out.below hb1).all (.slice rb rn rc) (.slice wb wn wc) (.slice cb cn cc)).below (grew _ (.cells #[.slice rb rn rc, .slice wb wn wc, .slice cb cn cc] 52)))
 unfold setThree at HDF HBF HTH
 clear hdi hb1 f0 f1 f2
 go_wp2
 (try simp only [Exit.inBlock, Exit.then])
 refine bodyPost_ret (read10_results _ w.heap.size _ rfl ⟨HTH.out.c0, HTH.out.c1, HTH.out.c2⟩ ⟨_, _, _, rfl⟩ ⟨_, _, _, rfl⟩ ⟨_, _, _, rfl⟩) rfl ?_
 exact ⟨_, _, _, _, _, _, _, _, _, rfl, HDF.out, HBF.out⟩

theorem alive10_calls (w : World) (hG : GroundN w) (W0 : World) (hb0 : Below w.heap.size w W0) :
   Calls Tryz.prog 6 #[] W0 fun x w' => x = .returned (.bool true) ∧ Below W0.heap.size W0 w' := by
 refine ten_calls W0 fun s W hb e => ?_
 have hl : oneT.length = 63 := by decide
 have hz : (keyT s).length = s.size := keyT_len s
 exact read10_calls s oneD W ((hG.below hb0).below hb) (by rw [e] at hz; unfold maxLen; omega) (by rw [e]; exact one_read)
end Go.Proofs.YtnbekpblmkdnlaaGreatDoor

namespace Go.Proofs.YtnbekpblmkdnlaaGreatDoor
open Go.RowKit

set_option maxHeartbeats 16000000 in
set_option maxRecDepth 100000 in
theorem build10_calls (L : List Ent) (Pl : List Int) (lb : Option Addr) (ln lc : Nat) (pb : Option Addr) (pn pc : Nat) (w : World) (hL : EntsIn w lb ln lc L) (hP : Ints w pb pn pc Pl) :
   Calls Tryz.prog 11 #[.slice lb ln lc, .slice pb pn pc] w fun x w' => BuiltR w w' x := by
 have HL := hid hL
 have HP := hid hP
 have HLN := hid hL.len
 have HPN := hid (Ints.count hP)
 have hlm := Nat.le_trans hL.hdr.le hL.hdr.max
 unfold maxLen at hlm
 have HG0 := hid (grew w (.cells #[.slice none 0 0, .slice none 0 0, .slice none 0 0, .slice none 0 0, .int .i64 0, .int .i64 0, .slice none 0 0] 35))
 have HZ0 := hid ((Box.new w #[.slice none 0 0, .slice none 0 0, .slice none 0 0, .slice none 0 0, .int .i64 0, .int .i64 0, .slice none 0 0] 35).below (grew (w.alloc (.cells #[.slice none 0 0, .slice none 0 0, .slice none 0 0, .slice none 0 0, .int .i64 0, .int .i64 0, .slice none 0 0] 35)) (.cells #[.slice none 0 0, .slice none 0 0, .slice none 0 0, .slice none 0 0, .int .i64 0, .int .i64 0, .slice none 0 0] 35)))
 have HB0 := hid (below_deep HG0.out (grew (w.alloc (.cells #[.slice none 0 0, .slice none 0 0, .slice none 0 0, .slice none 0 0, .int .i64 0, .int .i64 0, .slice none 0 0] 35)) (.cells #[.slice none 0 0, .slice none 0 0, .slice none 0 0, .slice none 0 0, .int .i64 0, .int .i64 0, .slice none 0 0] 35)))
 have HX0 := hid (Box.new (w.alloc (.cells #[.slice none 0 0, .slice none 0 0, .slice none 0 0, .slice none 0 0, .int .i64 0, .int .i64 0, .slice none 0 0] 35)) #[.slice none 0 0, .slice none 0 0, .slice none 0 0, .slice none 0 0, .int .i64 0, .int .i64 0, .slice none 0 0] 35)
 rw [World.size_alloc] at HX0
 have HK0 : Hid (KeptR w ((w.alloc (.cells #[.slice none 0 0, .slice none 0 0, .slice none 0 0, .slice none 0 0, .int .i64 0, .int .i64 0, .slice none 0 0] 35)).alloc (.cells #[.slice none 0 0, .slice none 0 0, .slice none 0 0, .slice none 0 0, .int .i64 0, .int .i64 0, .slice none 0 0] 35)) (w.heap.size + 1)) := ⟨[], 0, _, _, newR, none, 0, 0, none, 0, 0, none, 0, 0, none, 0, 0, none, 0, 0, [], GoodR.new, HX0.out, newR_parts _ _⟩
 clear hL hP HG0 HX0
 go_enter Tryz.func11, Tryz.ntmps11
 go_wp2
 generalize (w.alloc (.cells #[.slice none 0 0, .slice none 0 0, .slice none 0 0, .slice none 0 0, .int .i64 0, .int .i64 0, .slice none 0 0] 35)).alloc (.cells #[.slice none 0 0, .slice none 0 0, .slice none 0 0, .slice none 0 0, .int .i64 0, .int .i64 0, .slice none 0 0] 35) = A at *
 go_loopw [14] (fun iv wr => ∃ j : Nat, iv = .int .i64 j ∧ j ≤ ln ∧ Hid (KeptR w wr (w.heap.size + 1)) ∧ Hid (Box wr w.heap.size nilR 35) ∧ Hid (Below w.heap.size w wr)) (fun iv _ => ln - (intOf iv).toNat)
 case atStart => exact ⟨0, rfl, Nat.zero_le _, HK0, HZ0, HB0⟩
 case round =>
   clear HK0 HZ0 HB0
   obtain ⟨j, rfl, hj, HK, HZ, HBR⟩ := hrel
   by_cases hlt : j < ln
   · have hjl : j < L.length := by rw [← HLN.out]; exact hlt
     have j1 : (j : Int) < (ln : Int) := by omega
     have j2 : (0 : Int) ≤ (j : Int) := by omega
     rcases (HL.out.below HBR.out).run with h | ⟨b1, o1, rfl, hrun⟩
     · omega
     obtain ⟨db, dn, dc, k0, k1, -⟩ := hrun j hlt
     have hev : ∃ db2 dn2 dc2, wr.cell? ⟨b1, o1 + j * 2 + 1, none⟩ = some (.slice db2 dn2 dc2) ∧ DeedsIn w db2 dn2 dc2 (L.getD j default).2 := by
       rcases HL.out.run with h | ⟨b2, o2, e2, hr2⟩
       · omega
       · cases e2
         obtain ⟨d1, d2, d3, _, q1, q2⟩ := hr2 j hlt
         exact ⟨d1, d2, d3, kept_cell HBR.out q1, q2⟩
     obtain ⟨db2, dn2, dc2, k1', hde⟩ := hev
     rw [k1] at k1'
     cases k1'
     have hb1 : b1 < wr.heap.size := by simpa using World.block_lt_of_cell? _ _ k0
     clear hrun
     generalize L.getD j default = e at *
     obtain ⟨en, eD⟩ := e
     simp only at k0 hde
     have HEV : Hid (EntV w (.agg #[.int .i64 en, .slice db dn dc]) (en, eD)) := ⟨db, dn, dc, rfl, hde⟩
     have HG := hid (grew wr (.cells #[.int .i64 en, .slice db dn dc] 27))
     have HY := hid (Box.new wr #[.int .i64 en, .slice db dn dc] 27)
     have HBG := hid (below_deep HBR.out HG.out)
     have PW := hid (refWrongE_calls (en, eD) (.agg #[.int .i64 en, .slice db dn dc]) (wr.alloc (.cells #[.int .i64 en, .slice db dn dc] 27)) (HEV.out.below HBG.out))
     have y0 := HY.out.cell 0 _ rfl
     have y1 := HY.out.cell 1 _ rfl
     clear hde
     go_wp2_with fail
     refine PW.out.mono ?_
     rintro x w1 ⟨rfl, hb1w⟩
     have HB1 := hid (below_deep HBG.out hb1w)
     have HK1 := hid ((HK.out.below HG.out).below hb1w)
     have HZ1 := hid ((HZ.out.below HG.out).below hb1w)
     have HY1 := hid (HY.out.below hb1w)
     clear PW y0 y1 k0 k1 HK HZ HG HY HBR HBG hb1w
     by_cases hw : wrongE (en, eD) = 0
     · have HRE := hid (wrongE_right.1 hw)
       obtain ⟨es, m, dq, bq, r, cb, cn, cc, db', dn', dc', sb, sn, sc, eb, en', ec, ab, an, ac, S, hG, hbox, hparts⟩ := HK1.out
       have HGR := hid hG
       have HX1 := hid hbox
       have HPT := hid hparts
       obtain ⟨x0, x1, x2, x3, x4, x5, x6⟩ := hbox.cells7
       obtain ⟨y0, y1⟩ : _ ∧ _ := ⟨HY1.out.cell 0 _ rfl, HY1.out.cell 1 _ rfl⟩
       have hxl : w.heap.size + 1 < w1.heap.size := hbox.lt
       have hyl : wr.heap.size < w1.heap.size := HY1.out.lt
       have PC := hid (refCome_calls hG (en, eD) HRE.out (.agg (repA cb cn cc db' dn' dc' sb sn sc eb en' ec r.eng.base r.next ab an ac)) (.agg #[.int .i64 en, .slice db dn dc]) w w1 HB1.out ⟨_, _, _, _, _, _, _, _, _, _, _, _, _, _, _, _, rfl, hparts⟩ HEV.out.at)
       obtain ⟨more, -, hcg, -⟩ := come_good hG HRE.out
       have HCG := hid hcg
       rw [hw]
       clear hG hbox hparts hcg HK1
       go_wp2_with fail
       refine PC.out.mono ?_
       rintro x w2 ⟨v2, rfl, ⟨cb2, cn2, cc2, db2, dn2, dc2, sb2, sn2, sc2, eb2, en2, ec2, ab2, an2, ac2, S2, rfl, hp2⟩, hb2⟩
       generalize (comeR r (en, eD)).1 = r2 at *
       generalize (comeR r (en, eD)).2 = q2 at *
       have HG2 := hid (grew w2 (.cells #[.slice cb2 cn2 cc2, .slice db2 dn2 dc2, .slice sb2 sn2 sc2, .slice eb2 en2 ec2, .int .i64 r2.eng.base, .int .i64 r2.next, .slice ab2 an2 ac2] 35))
       have HX2 := hid ((HX1.out.below hb2).below HG2.out)
       have HY2 := hid (Box.new w2 #[.slice cb2 cn2 cc2, .slice db2 dn2 dc2, .slice sb2 sn2 sc2, .slice eb2 en2 ec2, .int .i64 r2.eng.base, .int .i64 r2.next, .slice ab2 an2 ac2] 35)
       have HZ2 := hid ((HZ1.out.below hb2).below HG2.out)
       have HB2 := hid (below_deep HB1.out (below_deep hb2 HG2.out))
       have HP2 := hid (hp2.below HG2.out)
       have hxw : w.heap.size + 1 < w2.heap.size := (HX1.out.below hb2).lt
       clear hb2 hp2 PC x0 x1 x2 x3 x4 x5 x6 y0 y1 HX1 HZ1 HY1 HB1 HG2 HGR HPT hxl hyl
       go_upto_region 7 with fail
       generalize w2.alloc (.cells #[.slice cb2 cn2 cc2, .slice db2 dn2 dc2, .slice sb2 sn2 sc2, .slice eb2 en2 ec2, .int .i64 r2.eng.base, .int .i64 r2.next, .slice ab2 an2 ac2] 35) = A2 at *
       generalize w2.heap.size = bx at *
       obtain ⟨x0, x1, x2, x3, x4, x5, x6⟩ := HX2.out.cells7
       obtain ⟨f0, f1, f2, f3, f4, f5, f6⟩ := HX2.out.free7
       obtain ⟨y0, y1, y2, y3, y4, y5, y6⟩ := HY2.out.cells7
       have hxl : w.heap.size + 1 < A2.heap.size := HX2.out.lt
       have hyl : bx < A2.heap.size := HY2.out.lt
       have HK3 := hid (KeptR.put7 HCG.out HX2.out HP2.out)
       have HZ3 := hid (put7_far HZ2.out (show w.heap.size ≠ w.heap.size + 1 by omega) (.slice cb2 cn2 cc2) (.slice db2 dn2 dc2) (.slice sb2 sn2 sc2) (.slice eb2 en2 ec2) (.int .i64 r2.eng.base) (.int .i64 r2.next) (.slice ab2 an2 ac2))
       have HB3 := hid (put7_below HB2.out (Nat.le_succ _) (.slice cb2 cn2 cc2) (.slice db2 dn2 dc2) (.slice sb2 sn2 sc2) (.slice eb2 en2 ec2) (.int .i64 r2.eng.base) (.int .i64 r2.next) (.slice ab2 an2 ac2))
       go_upto_region 8 with fail
       unfold put7 at HK3 HZ3 HB3
       generalize ((((((A2.setCell ⟨w.heap.size + 1, 0, none⟩ (.slice cb2 cn2 cc2)).setCell ⟨w.heap.size + 1, 1, none⟩ (.slice db2 dn2 dc2)).setCell ⟨w.heap.size + 1, 2, none⟩ (.slice sb2 sn2 sc2)).setCell ⟨w.heap.size + 1, 3, none⟩ (.slice eb2 en2 ec2)).setCell ⟨w.heap.size + 1, 4, none⟩ (.int .i64 r2.eng.base)).setCell ⟨w.heap.size + 1, 5, none⟩ (.int .i64 r2.next)).setCell ⟨w.heap.size + 1, 6, none⟩ (.slice ab2 an2 ac2) = W at *
       clear x0 x1 x2 x3 x4 x5 x6 f0 f1 f2 f3 f4 f5 f6 y0 y1 y2 y3 y4 y5 y6 hxl hyl HX2 HY2 HZ2 HB2 HP2 HCG
       by_cases hjp : j < pn
       · have hjp' : (j : Int) < (pn : Int) := by omega
         have hjP : j < Pl.length := by rw [← HPN.out]; exact hjp
         obtain ⟨b2, o2, rfl, c0⟩ : ∃ b2 o2, pb = some ⟨b2, o2, none⟩ ∧ w.cell? ⟨b2, o2 + j, none⟩ = some (.int .i64 (Pl.getD j 0)) := by
           rcases HP.out.run with h | ⟨b2, o2, e2, hr2⟩
           · omega
           · exact ⟨b2, o2, e2, hr2 j _ (intsC_at hjP)⟩
         obtain ⟨es3, m3, dq3, bq3, r3, cb3, cn3, cc3, db3, dn3, dc3, sb3, sn3, sc3, eb3, en3, ec3, ab3, an3, ac3, S3, hG3, hbox3, hparts3⟩ := HK3.out
         have hfew : (deedsOf es3).length ≤ 1954687338211 := Nat.le_trans hG3.few (by decide)
         have HGR := hid hG3
         have HFW := hid hfew
         have HX3 := hid hbox3
         have HP3 := hid hparts3
         obtain ⟨x0, x1, x2, x3, x4, x5, x6⟩ := hbox3.cells7
         have hxl : w.heap.size + 1 < W.heap.size := hbox3.lt
         have PR := hid (refReady_calls hG3.eng hfew (.agg #[.slice cb3 cn3 cc3, .slice db3 dn3 dc3, .slice sb3 sn3 sc3, .slice eb3 en3 ec3, .int .i64 r3.eng.base]) W ⟨_, _, _, _, _, _, _, _, _, _, _, _, rfl, hparts3.eng⟩)
         generalize Pl.getD j 0 = x at *
         have HC0 := hid c0
         clear hG3 hfew hbox3 hparts3 HK3 c0
         go_wp2_with fail
         refine PR.out.mono ?_
         rintro _ w3 ⟨nb, nn, nc, rfl, hn3, hb3⟩
         have HN3 := hid hn3
         have HX4 := hid (HX3.out.below hb3)
         have HP4 := hid (HP3.out.below hb3)
         have HZ4 := hid (HZ3.out.below hb3)
         have HB4 := hid (below_deep HB3.out hb3)
         have hnm := Nat.le_trans hn3.hdr.le hn3.hdr.max
         unfold maxLen at hnm
         have HK4 : Hid (KeptR w w3 (w.heap.size + 1)) := ⟨_, _, _, _, _, _, _, _, _, _, _, _, _, _, _, _, _, _, _, _, _, HGR.out, HX4.out, HP4.out⟩
         have c1 := kept_cell HB4.out HC0.out
         have hb2l : b2 < w3.heap.size := by simpa using World.block_lt_of_cell? _ _ c1
         clear x0 x1 x2 x3 x4 x5 x6 hxl PR hn3 hb3 HX3 HP3 HZ3 HB3
         obtain ⟨x0, x1, x2, x3, x4, x5, x6⟩ := HX4.out.cells7
         obtain ⟨f0, f1, f2, f3, f4, f5, f6⟩ := HX4.out.free7
         have hxl : w.heap.size + 1 < w3.heap.size := HX4.out.lt
         by_cases hq : 0 ≤ x ∧ x < nn
         · obtain ⟨q, rfl⟩ : ∃ q : Nat, x = (q : Int) := ⟨x.toNat, by omega⟩
           have hqn : q < nn := by omega
           have dq1 : decide ((q : Int) < (nn : Int)) = true := by simpa using hqn
           have hqi : (q : Int) < (nn : Int) := by omega
           have hql : q < (ints (readyE r3.eng)).length := by rw [← Ints.count HN3.out]; exact hqn
           have hqr : q < (readyE r3.eng).length := by simpa [ints] using hql
           obtain ⟨b5, o5, rfl, hr5⟩ : ∃ b5 o5, nb = some ⟨b5, o5, none⟩ ∧ Run w3 b5 o5 (intsC (ints (readyE r3.eng))) := by
             rcases HN3.out.run with h | h
             · omega
             · exact h
           have hgd : (ints (readyE r3.eng)).getD q 0 = (((readyE r3.eng).getD q 0 : Nat) : Int) := by simp [ints, List.getD, hqr]
           have c5 := hr5 q _ (intsC_at hql)
           rw [hgd] at c5
           have hmem : (readyE r3.eng).getD q 0 ∈ readyE r3.eng := by
             rw [List.getD_eq_getElem?_getD, List.getElem?_eq_getElem hqr]
             exact List.getElem_mem hqr
           have hrg := ready_goE HGR.out.eng hmem
           have hgo := (ready_mem HGR.out.eng).1 hmem
           have HGG := hid (HGR.out.eng.go hgo.1 hgo.2.2)
           have hb5 : b5 < w3.heap.size := by simpa using World.block_lt_of_cell? _ _ c5
           have PG := hid (fun W hv => refGoE_calls HGR.out.eng HFW.out (((readyE r3.eng).getD q 0 : Nat) : Int) (.agg #[.slice cb3 cn3 cc3, .slice db3 dn3 dc3, .slice sb3 sn3 sc3, .slice eb3 en3 ec3, .int .i64 r3.eng.base]) W hv)
           unfold GoTold at PG
           rw [hrg] at PG
           clear hr5 hgd hmem hrg hgo hql hqr hq hqn HN3 HK4
           generalize (readyE r3.eng).getD q 0 = z at *
           go_wp2
           go_region_with ((go_at_call 28; refine (PG.out _ ⟨_, _, _, _, _, _, _, _, _, _, _, _, rfl, HP4.out.eng.below (step_drew (Below.refl _ _))⟩).mono ?_; rintro _ w4 ⟨v4, rfl, hv4, hb4⟩; obtain ⟨cb4, cn4, cc4, db4, dn4, dc4, sb4, sn4, sc4, eb4, en4, ec4, rfl, hl4⟩ := hv4; have HX5 := hid ((HX4.out.below (step_drew (Below.refl _ _))).below hb4); obtain ⟨s0, s1, s2, s3, s4, s5, s6⟩ := HX5.out.cells7; obtain ⟨f0, f1, f2, f3, f4, f5, f6⟩ := HX5.out.free7; have hb4l : w.heap.size + 1 < w4.heap.size := HX5.out.lt))
           all_goals
             have HK5 := hid (KeptR.put5 HGR.out HX4.out HP4.out (below_deep (step_drew (Below.refl _ _)) hb4) HGG.out hl4)
             have HZ5 := hid (put5_far ((HZ4.out.below (step_drew (Below.refl _ _))).below hb4) (show w.heap.size ≠ w.heap.size + 1 by omega) (.slice cb4 cn4 cc4) (.slice db4 dn4 dc4) (.slice sb4 sn4 sc4) (.slice eb4 en4 ec4) (.int .i64 (goE r3.eng z).base))
             have HB5 := hid (put5_below (below_deep (below_deep HB4.out (step_drew (Below.refl _ _))) hb4) (Nat.le_succ _) (.slice cb4 cn4 cc4) (.slice db4 dn4 dc4) (.slice sb4 sn4 sc4) (.slice eb4 en4 ec4) (.int .i64 (goE r3.eng z).base))
             unfold put5 at HK5 HZ5 HB5
             go_wp2
             go_roundw
             case rel => exact ⟨j + 1, by go_num, hlt, HK5, HZ5, HB5⟩
             case measure => simp [intOf]; omega
         · by_cases h7 : x = 7
           · subst h7
             have hn7 : ¬ ((7 : Int) < (nn : Int)) := fun h => hq ⟨by decide, h⟩
             have dq1 : decide ((7 : Int) < (nn : Int)) = false := by simpa using hn7
             have PC := hid (refClearE_calls HGR.out.eng HFW.out (.agg #[.slice cb3 cn3 cc3, .slice db3 dn3 dc3, .slice sb3 sn3 sc3, .slice eb3 en3 ec3, .int .i64 r3.eng.base]) w3 ⟨_, _, _, _, _, _, _, _, _, _, _, _, rfl, HP4.out.eng⟩)
             go_wp2_with fail
             refine PC.out.mono ?_
             rintro _ w4 ⟨v4, rfl, hv4, hb4⟩
             obtain ⟨cb4, cn4, cc4, db4, dn4, dc4, sb4, sn4, sc4, eb4, en4, ec4, rfl, hl4⟩ := hv4
             have HX5 := hid (HX4.out.below hb4)
             have HK5 := hid (KeptR.put5 HGR.out HX4.out HP4.out hb4 (mark_clear HGR.out.eng) hl4)
             have HZ5 := hid (put5_far (HZ4.out.below hb4) (show w.heap.size ≠ w.heap.size + 1 by omega) (.slice cb4 cn4 cc4) (.slice db4 dn4 dc4) (.slice sb4 sn4 sc4) (.slice eb4 en4 ec4) (.int .i64 (clearE r3.eng (markE r3.eng)).base))
             have HB5 := hid (put5_below (below_deep HB4.out hb4) (Nat.le_succ _) (.slice cb4 cn4 cc4) (.slice db4 dn4 dc4) (.slice sb4 sn4 sc4) (.slice eb4 en4 ec4) (.int .i64 (clearE r3.eng (markE r3.eng)).base))
             clear x0 x1 x2 x3 x4 x5 x6 f0 f1 f2 f3 f4 f5 f6 hxl
             obtain ⟨y0, y1, y2, y3, y4, y5, y6⟩ := HX5.out.cells7
             obtain ⟨f0, f1, f2, f3, f4, f5, f6⟩ := HX5.out.free7
             have hb4l : w.heap.size + 1 < w4.heap.size := HX5.out.lt
             unfold put5 at HK5 HZ5 HB5
             clear hb4 hl4 PC
             generalize (clearE r3.eng (markE r3.eng)).base = bs4 at *
             go_wp2
             go_roundw
             case rel => exact ⟨j + 1, by go_num, hlt, HK5, HZ5, HB5⟩
             case measure => simp [intOf]; omega
           · have t7 : (x == 7) = false := by simpa using h7
             by_cases hneg : 0 ≤ x
             · have dq2 : ¬ (x < (nn : Int)) := fun h => hq ⟨hneg, h⟩
               have dq1 : decide (x < (nn : Int)) = false := by simpa using dq2
               go_wp2
               go_roundw
               case rel => exact ⟨j + 1, by go_num, hlt, HK4, HZ4, HB4⟩
               case measure => simp [intOf]; omega
             · have dq0 : decide (0 ≤ x) = false := by simpa using hneg
               go_wp2
               go_roundw
               case rel => exact ⟨j + 1, by go_num, hlt, HK4, HZ4, HB4⟩
               case measure => simp [intOf]; omega
       · have hjp' : ¬ (j : Int) < (pn : Int) := by omega
         go_wp2
         go_roundw
         case rel => exact ⟨j + 1, by go_num, hlt, HK3, HZ3, HB3⟩
         case measure => simp [intOf]; omega
     · have t : (wrongE (en, eD) == 0) = false := by simpa using hw
       go_wp2
       go_roundw
       case rel => exact ⟨j + 1, by go_num, hlt, HK1, HZ1, HB1⟩
       case measure => simp [intOf]; omega
   · obtain rfl : j = ln := by omega
     obtain ⟨es, m, dq, bq, r, cb, cn, cc, db', dn', dc', sb, sn, sc, eb, en', ec, ab, an, ac, S, hG, hbox, hparts⟩ := HK.out
     have HGR := hid hG
     have HX1 := hid hbox
     obtain ⟨x0, x1, x2, x3, x4, x5, x6⟩ := hbox.cells7
     obtain ⟨y0, y1, y2, y3, y4, y5, y6⟩ := HZ.out.cells7
     obtain ⟨g0, g1, g2, g3, g4, g5, g6⟩ := HZ.out.free7
     have hxl : w.heap.size + 1 < wr.heap.size := hbox.lt
     have hzl : w.heap.size < wr.heap.size := HZ.out.lt
     have HBF := hid (put7_box HZ.out (.slice cb cn cc) (.slice db' dn' dc') (.slice sb sn sc) (.slice eb en' ec) (.int .i64 r.eng.base) (.int .i64 r.next) (.slice ab an ac))
     have HBL := hid (put7_below HBR.out (Nat.le_refl w.heap.size) (.slice cb cn cc) (.slice db' dn' dc') (.slice sb sn sc) (.slice eb en' ec) (.int .i64 r.eng.base) (.int .i64 r.next) (.slice ab an ac))
     have HRL := hid (hparts.put HZ.out (put7_off wr w.heap.size (.slice cb cn cc) (.slice db' dn' dc') (.slice sb sn sc) (.slice eb en' ec) (.int .i64 r.eng.base) (.int .i64 r.next) (.slice ab an ac)))
     clear hG hbox hparts HK
     go_wp2
     refine bodyPost_ret (build10_results _ w.heap.size _ rfl HBF.out) rfl ?_
     exact ⟨_, es, m, dq, bq, r, rfl, HGR.out, ⟨_, _, _, _, _, _, _, _, _, _, _, _, _, _, _, _, rfl, HRL.out⟩, HBL.out⟩
end Go.Proofs.YtnbekpblmkdnlaaGreatDoor
