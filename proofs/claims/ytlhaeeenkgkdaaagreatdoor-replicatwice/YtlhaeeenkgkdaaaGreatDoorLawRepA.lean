/-
  The program's Go of replicas.
  Plain mathematics of the two deeds that chapter 6 asks of first: their texts, and what is planned of them.
  Plain mathematics of the two entries that chapter 10 asks of first: the second one comes too soon, and the replica that they make.
  Replicas in blocks that are written again.
  The closed fact that the statements of chapter 10 ask first is so.
-/
import Derived.Test.YtlhaeeenkgkdaaaGreatDoorRepRest
import Derived.Test.YtlhaeeenkgkdaaaGreatDoorRepFinds
import Derived.Test.YtlhaeeenkgkdaaaGreatDoorPlanMath
import Derived.Test.YtlhaeeenkgkdaaaGreatDoorRepCatch
import Derived.Test.YtlhaeeenkgkdaaaGreatDoorRunDo
import Derived.Deep.DeepCutAuto
namespace Go.Proofs.YtlhaeeenkgkdaaaGreatDoor
open Go.RowKit

theorem goP_results (tmps : Array Value) (b : Nat) (w : World) {a0 a1 a2 a3 a6 : Option Addr} {n0 n1 n2 n3 n6 c0 c1 c2 c3 c6 : Nat} {z y q : Int} (h : tmps.getD 4 undef = .pointer (some ⟨b, 0, none⟩)) (h5 : tmps.getD 5 undef = .int .i64 q) (hb : Box w b (repA a0 n0 c0 a1 n1 c1 a2 n2 c2 a3 n3 c3 z y a6 n6 c6) 35) :
   (results Tryz.f11 tmps).run Tryz.prog w = .ok (.tuple #[.agg (repA a0 n0 c0 a1 n1 c1 a2 n2 c2 a3 n3 c3 z y a6 n6 c6), .int .i64 q]) w := by
 have h' : tmps[4]?.getD undef = .pointer (some ⟨b, 0, none⟩) := by simpa using h
 have h5' : tmps[5]?.getD undef = .int .i64 q := by simpa using h5
 obtain ⟨k0, k1, k2, k3, k4, k5, k6⟩ := hb.cells7
 simp [results, Tryz.results11, go_sem, h', h5', k0, k1, k2, k3, k4, k5, k6]
theorem sx_keep {A w1 w2 : World} {b pb po : Nat} {x0 x1 x2 x3 x4 y : Value} (h : w1.cell? ⟨b, 0, none⟩ = some x0 ∧ w1.cell? ⟨b, 1, none⟩ = some x1 ∧ w1.cell? ⟨b, 2, none⟩ = some x2 ∧ w1.cell? ⟨b, 3, none⟩ = some x3 ∧ w1.cell? ⟨b, 4, none⟩ = some x4 ∧ w1.cell? ⟨pb, po, none⟩ = some y ∧ Below A.heap.size A w1) (hb : Below w1.heap.size w1 w2) :
   w2.cell? ⟨b, 0, none⟩ = some x0 ∧ w2.cell? ⟨b, 1, none⟩ = some x1 ∧ w2.cell? ⟨b, 2, none⟩ = some x2 ∧ w2.cell? ⟨b, 3, none⟩ = some x3 ∧ w2.cell? ⟨b, 4, none⟩ = some x4 ∧ w2.cell? ⟨pb, po, none⟩ = some y ∧ Below A.heap.size A w2 := by
 obtain ⟨h0, h1, h2, h3, h4, h5, hz⟩ := h
 exact ⟨kept_cell hb h0, kept_cell hb h1, kept_cell hb h2, kept_cell hb h3, kept_cell hb h4, kept_cell hb h5, below_deep hz hb⟩
theorem six_held {p0 p1 p2 p3 p4 p5 : Prop} {B : Nat} {A w' : World} (h : p0 ∧ p1 ∧ p2 ∧ p3 ∧ p4 ∧ p5 ∧ Below B A w') : Below B A w' := h.2.2.2.2.2.2
def EngBox1 (w : World) (b : Nat) (E : Eng) : Prop := ∃ cb cn cc db dn dc sb sn sc eb en ec, Box w b (engA cb cn cc db dn dc sb sn sc eb en ec E.base) 33 ∧ EngLies w cb cn cc db dn dc sb sn sc eb en ec E

theorem engbox1 {w : World} {b : Nat} {E : Eng} {cb db sb eb : Option Addr} {cn cc dn dc sn sc en ec : Nat} (h : Box w b (engA cb cn cc db dn dc sb sn sc eb en ec E.base) 33) (hl : EngLies w cb cn cc db dn dc sb sn sc eb en ec E) : EngBox1 w b E := ⟨_, _, _, _, _, _, _, _, _, _, _, _, h, hl⟩

set_option maxHeartbeats 8000000 in
set_option maxRecDepth 100000 in
theorem goP_calls {es : List Ent} {m : Nat} {dq : Nat → Bool} {bq : ByteArray → Int} {r : Rep} (h : GoodR es m dq bq r) (n : Int) (rv : Value) (w0 w : World) (hr : RepIn w rv r) :
   Calls Tryz.prog 11 #[rv, .int .i64 n] w fun x w' => RepNumAt w0 w w' (goR r n) x := by
 have HRV := hid hr
 obtain ⟨cb, cn, cc, db, dn, dc, sb, sn, sc, eb, en, ec, ab, an, ac, rfl, hl⟩ := hr
 have hfew : (deedsOf es).length ≤ 1954687338211 := Nat.le_trans h.few (by decide)
 have han : an ≤ 1048576 := by rw [hl.early.len]; exact Nat.le_trans h.four (by decide)
 have HGR := hid h
 have HFW := hid hfew
 have HL := hid hl
 have HA := hid han
 have HX0 := hid (Box.new w (repA cb cn cc db dn dc sb sn sc eb en ec r.eng.base r.next ab an ac) 35)
 have HG0 := hid (grew w (.cells (repA cb cn cc db dn dc sb sn sc eb en ec r.eng.base r.next ab an ac) 35))
 have HZ0 := hid (Box.new (w.alloc (.cells (repA cb cn cc db dn dc sb sn sc eb en ec r.eng.base r.next ab an ac) 35)) nilR 35)
 have HG1 := hid (grew (w.alloc (.cells (repA cb cn cc db dn dc sb sn sc eb en ec r.eng.base r.next ab an ac) 35)) (.cells nilR 35))
 rw [World.size_alloc] at HZ0
 have HXA := hid (HX0.out.below HG1.out)
 have HBA := hid (below_deep HG0.out HG1.out)
 clear h hl HX0 HG0 HG1 hfew han
 go_enter Tryz.func11, Tryz.ntmps11
 go_upto_region 1 with fail
 generalize (w.alloc (.cells (repA cb cn cc db dn dc sb sn sc eb en ec r.eng.base r.next ab an ac) 35)).alloc (.cells nilR 35) = A at *
 have PR := hid (runReady_calls HGR.out.eng HFW.out (.agg (engA cb cn cc db dn dc sb sn sc eb en ec r.eng.base)) A ⟨_, _, _, _, _, _, _, _, _, _, _, _, rfl, HL.out.eng.below HBA.out⟩)
 have hl0 : w.heap.size < A.heap.size := HXA.out.lt
 obtain ⟨x0, x1, x2, x3, x4, x5, x6⟩ := HXA.out.cells7
 go_wp2_with fail
 refine PR.out.mono ?_
 rintro _ w3 ⟨nb, nn, nc, rfl, hn3, hb3⟩
 have HN3 := hid hn3
 have HXB := hid (HXA.out.below hb3)
 have HZB := hid (HZ0.out.below hb3)
 have HBW := hid (below_deep HBA.out hb3)
 have hnm := Nat.le_trans hn3.hdr.le hn3.hdr.max
 unfold maxLen at hnm
 have HNN : Hid (nn = (readyE r.eng).length) := by
   show _ = _
   have := Ints.count HN3.out
   simpa [ints] using this
 clear PR hn3 hb3 x0 x1 x2 x3 x4 x5 x6 hl0 HXA HZ0
 obtain ⟨x0, x1, x2, x3, x4, x5, x6⟩ := HXB.out.cells7
 have hl0 : w.heap.size < w3.heap.size := HXB.out.lt
 have hl1 : w.heap.size + 1 < w3.heap.size := HZB.out.lt
 have HBZ : Hid (w.heap.size ≤ w.heap.size + 1) := Nat.le_succ _
 by_cases hq : 0 ≤ n ∧ n < nn
 · obtain ⟨q, rfl⟩ : ∃ q : Nat, n = (q : Int) := ⟨n.toNat, by omega⟩
   have hqn : q < nn := by omega
   have hqi : (q : Int) < (nn : Int) := by omega
   have hq0 : ¬ (q : Int) < 0 := by omega
   have hqg : ¬ (q : Int) ≥ (nn : Int) := by omega
   have hq1 : (0 : Int) ≤ (q : Int) := by omega
   have dq0 : decide ((q : Int) < 0) = false := by simp
   have dq1 : decide ((q : Int) ≥ (nn : Int)) = false := by simp; omega
   have hqr : q < (readyE r.eng).length := by rw [← HNN.out]; exact hqn
   have hql : q < (ints (readyE r.eng)).length := by simpa [ints] using hqr
   obtain ⟨b5, o5, rfl, hr5⟩ : ∃ b5 o5, nb = some ⟨b5, o5, none⟩ ∧ Run w3 b5 o5 (intsC (ints (readyE r.eng))) := by
     rcases HN3.out.run with h | h
     · omega
     · exact h
   have hgd : (ints (readyE r.eng)).getD q 0 = (((readyE r.eng).getD q 0 : Nat) : Int) := by simp [ints, List.getD, hqr]
   have c5 := hr5 q _ (intsC_at hql)
   rw [hgd] at c5
   have hmem : (readyE r.eng).getD q 0 ∈ readyE r.eng := by
     rw [List.getD_eq_getElem?_getD, List.getElem?_eq_getElem hqr]
     exact List.getElem_mem hqr
   have hrg := ready_goE HGR.out.eng hmem
   have HGO : Hid (goR r (q : Int) = (⟨goE r.eng ((readyE r.eng).getD q 0), r.next, r.early⟩, 0)) := by
     show _ = _
     unfold goR
     rw [if_pos ⟨hq1, by rw [← HNN.out]; exact hqi⟩, Int.toNat_natCast]
   have hb5 : b5 < w3.heap.size := by simpa using World.block_lt_of_cell? _ _ c5
   have PG : Hid (∀ W, Below w3.heap.size w3 W → Calls Tryz.prog 28 #[.agg (engA cb cn cc db dn dc sb sn sc eb en ec r.eng.base), .int .i64 (((readyE r.eng).getD q 0 : Nat) : Int)] W fun x w' => ∃ cb2 cn2 cc2 db2 dn2 dc2 sb2 sn2 sc2 eb2 en2 ec2, x = .returned (.tuple #[.agg (engA cb2 cn2 cc2 db2 dn2 dc2 sb2 sn2 sc2 eb2 en2 ec2 (goE r.eng ((readyE r.eng).getD q 0)).base), .int .i64 0]) ∧ EngLies w' cb2 cn2 cc2 db2 dn2 dc2 sb2 sn2 sc2 eb2 en2 ec2 (goE r.eng ((readyE r.eng).getD q 0)) ∧ Below W.heap.size W w') := fun W hW => by
     refine (runGo_calls HGR.out.eng HFW.out (((readyE r.eng).getD q 0 : Nat) : Int) (.agg (engA cb cn cc db dn dc sb sn sc eb en ec r.eng.base)) W ⟨_, _, _, _, _, _, _, _, _, _, _, _, rfl, HL.out.eng.below (below_deep HBW.out hW)⟩).mono ?_
     rintro x w' ⟨v, hx, hv, hb⟩
     rw [hrg] at hx hv
     obtain ⟨cb2, cn2, cc2, db2, dn2, dc2, sb2, sn2, sc2, eb2, en2, ec2, rfl, hl2⟩ := hv
     exact ⟨cb2, cn2, cc2, db2, dn2, dc2, sb2, sn2, sc2, eb2, en2, ec2, hx, hl2, hb⟩
   clear hr5 hgd hmem hrg hql hqr hq HNN HN3
   generalize goE r.eng ((readyE r.eng).getD q 0) = E at *
   generalize (((readyE r.eng).getD q 0 : Nat) : Int) = zq at *
   have B0 := hid (step_drew (Below.refl w3.heap.size w3))
   go_upto_region 4 with fail
   go_cut [7, 8] (fun pv ev wx => ∃ b4, pv = .pointer (some ⟨b4, 0, none⟩) ∧ ev = .int .i64 0 ∧ Hid (EngBox1 wx b4 E) ∧ Hid (Below w3.heap.size w3 wx))
   case first =>
     have HS2 : Hid ((fun w' => w'.cell? ⟨w.heap.size, 0, none⟩ = some (.slice cb cn cc) ∧ w'.cell? ⟨w.heap.size, 1, none⟩ = some (.slice db dn dc) ∧ w'.cell? ⟨w.heap.size, 2, none⟩ = some (.slice sb sn sc) ∧ w'.cell? ⟨w.heap.size, 3, none⟩ = some (.slice eb en ec) ∧ w'.cell? ⟨w.heap.size, 4, none⟩ = some (.int .i64 r.eng.base) ∧ w'.cell? ⟨b5, o5 + q, none⟩ = some (.int .i64 zq) ∧ Below w3.heap.size w3 w') w3) := ⟨x0, x1, x2, x3, x4, c5, Below.refl _ _⟩
     have HS1 : Hid ((fun w' => w'.cell? ⟨w.heap.size, 0, none⟩ = some (.slice cb cn cc) ∧ w'.cell? ⟨w.heap.size, 1, none⟩ = some (.slice db dn dc) ∧ w'.cell? ⟨w.heap.size, 2, none⟩ = some (.slice sb sn sc) ∧ w'.cell? ⟨w.heap.size, 3, none⟩ = some (.slice eb en ec) ∧ w'.cell? ⟨w.heap.size, 4, none⟩ = some (.int .i64 r.eng.base) ∧ w'.cell? ⟨b5, o5 + q, none⟩ = some (.int .i64 zq) ∧ Below w3.heap.size w3 w') w3.drew) := ⟨kept_cell B0.out x0, kept_cell B0.out x1, kept_cell B0.out x2, kept_cell B0.out x3, kept_cell B0.out x4, kept_cell B0.out c5, B0.out⟩
     go_region_held3 (fun w' => w'.cell? ⟨w.heap.size, 0, none⟩ = some (.slice cb cn cc) ∧ w'.cell? ⟨w.heap.size, 1, none⟩ = some (.slice db dn dc) ∧ w'.cell? ⟨w.heap.size, 2, none⟩ = some (.slice sb sn sc) ∧ w'.cell? ⟨w.heap.size, 3, none⟩ = some (.slice eb en ec) ∧ w'.cell? ⟨w.heap.size, 4, none⟩ = some (.int .i64 r.eng.base) ∧ w'.cell? ⟨b5, o5 + q, none⟩ = some (.int .i64 zq) ∧ Below w3.heap.size w3 w')
       (first
         | with_reducible exact HS1.out
         | with_reducible exact sx_keep HS2.out ((grew _ _).drew)
         | with_reducible exact sx_keep HS2.out hbA
         | with_reducible exact sx_keep HS2.out (below_deep hbA (grew _ _))
         | with_reducible exact sx_keep HS2.out (hbA.trans (low_five (Nat.le_refl _) _ _ _ _ _)))
       (first
         | (go_at_call 28; refine (PG.out _ ?_).mono ?_; exact six_held (by assumption); rintro _ w4 ⟨cb2, cn2, cc2, db2, dn2, dc2, sb2, sn2, sc2, eb2, en2, ec2, rfl, hl4, hb4⟩; (first | (have hbA : Below w3.heap.size w3 w4 := (by with_reducible exact below_deep B0.out hb4)) | (have hbA : Below w3.heap.size w3 w4 := (by with_reducible exact below_deep ((grew _ _).drew) hb4))); (first | (have HZ4 : Hid (Box w4 w3.heap.size (engA none 0 0 none 0 0 none 0 0 none 0 0 0) 33) := (by with_reducible exact hid ((boxnew_drew w3 _ _).below hb4)); have z0 := HZ4.out.cells5.1; have z1 := HZ4.out.cells5.2.1; have z2 := HZ4.out.cells5.2.2.1; have z3 := HZ4.out.cells5.2.2.2.1; have z4 := HZ4.out.cells5.2.2.2.2; have f0 := HZ4.out.free 0; have f1 := HZ4.out.free 1; have f2 := HZ4.out.free 2; have f3 := HZ4.out.free 3; have f4 := HZ4.out.free 4; have hzl := HZ4.out.lt) | skip)))
     all_goals first
       | (go_wp2; go_meet; with_reducible exact ⟨_, rfl, rfl, hid (engbox1 (Box.new _ _ _) (hl4.below (grew _ _))), hid (below_deep hbA (grew _ _))⟩)
       | (go_wp2; go_meet; with_reducible exact ⟨_, rfl, rfl, hid (engbox1 (box_five HZ4.out _ _ _ _ _) (hl4.off HZ4.out (eng_alien HZ4.out) (by decide) (by decide) (by decide) (off_five _ _ _ _ _ _ _))), hid (hbA.trans (low_five (Nat.le_refl _) _ _ _ _ _))⟩)
   case rest =>
     obtain ⟨b4, rfl, rfl, HEB, HBX⟩ := hcut
     obtain ⟨cb2, cn2, cc2, db2, dn2, dc2, sb2, sn2, sc2, eb2, en2, ec2, hbx, hel⟩ := HEB.out
     have HB4 := hid hbx
     have HE4 := hid hel
     have HXC := hid (HXB.out.below HBX.out)
     have HZC := hid (HZB.out.below HBX.out)
     have HBC := hid (below_deep HBW.out HBX.out)
     have PW := hid (withR_calls cb cn cc db dn dc sb sn sc eb en ec r.eng.base r.next ab an ac cb2 cn2 cc2 db2 dn2 dc2 sb2 sn2 sc2 eb2 en2 ec2 E.base r.early wc (HL.out.early.below HBC.out) HA.out HGR.out.early)
     clear hbx hel HEB x0 x1 x2 x3 x4 x5 x6 hl0 hl1 c5 hb5 PG B0
     obtain ⟨x0, x1, x2, x3, x4, x5, x6⟩ := HXC.out.cells7
     obtain ⟨e0, e1, e2, e3, e4⟩ := HB4.out.cells5
     have hl0 : w.heap.size < wc.heap.size := HXC.out.lt
     have hl4 : b4 < wc.heap.size := HB4.out.lt
     go_wp2_with fail
     refine PW.out.mono ?_
     rintro _ w6 ⟨ab6, ac6, S6, rfl, ho6, hb6⟩
     have HZ6 := hid (HZC.out.below hb6)
     have HBL6 := hid (below_deep HBC.out hb6)
     have HP6 := hid (ho6.parts (w0 := w0) (r := ⟨E, r.next, r.early⟩) (HE4.out.below hb6))
     clear ho6 hb6 PW x0 x1 x2 x3 x4 x5 x6 hl0 hl4 e0 e1 e2 e3 e4
     obtain ⟨z0, z1, z2, z3, z4, z5, z6⟩ := HZ6.out.cells7
     obtain ⟨g0, g1, g2, g3, g4, g5, g6⟩ := HZ6.out.free7
     have hz0 : w.heap.size + 1 < w6.heap.size := HZ6.out.lt
     have HBF := hid (put7_box HZ6.out (.slice cb2 cn2 cc2) (.slice db2 dn2 dc2) (.slice sb2 sn2 sc2) (.slice eb2 en2 ec2) (.int .i64 E.base) (.int .i64 r.next) (.slice ab6 an ac6))
     have HBL := hid (put7_below HBL6.out HBZ.out (.slice cb2 cn2 cc2) (.slice db2 dn2 dc2) (.slice sb2 sn2 sc2) (.slice eb2 en2 ec2) (.int .i64 E.base) (.int .i64 r.next) (.slice ab6 an ac6))
     have HRL := hid (HP6.out.put HZ6.out (put7_off w6 (w.heap.size + 1) (.slice cb2 cn2 cc2) (.slice db2 dn2 dc2) (.slice sb2 sn2 sc2) (.slice eb2 en2 ec2) (.int .i64 E.base) (.int .i64 r.next) (.slice ab6 an ac6)))
     go_wp2
     refine bodyPost_ret (goP_results _ (w.heap.size + 1) _ rfl rfl HBF.out) rfl ?_
     exact ⟨_, by rw [HGO.out], by rw [HGO.out]; exact ⟨_, _, _, _, _, _, _, _, _, _, _, _, _, _, _, _, rfl, HRL.out⟩, HBL.out⟩
 · have HGO : Hid (goR r n = (r, 6)) := by
     show _ = _
     unfold goR
     rw [if_neg (by rw [← HNN.out]; exact hq)]
   have PO := hid (ownR_calls HGR.out _ w3 (HRV.out.below HBW.out))
   have hdec : (decide (n < 0) = true) ∨ (decide (n < 0) = false ∧ decide (n ≥ (nn : Int)) = true) := by
     by_cases h0 : n < 0
     · exact .inl (by simpa using h0)
     · exact .inr ⟨by simpa using h0, by simp; omega⟩
   clear hq HN3 HNN
   rcases hdec with d0 | ⟨d0, d1⟩
   all_goals
     go_wp2_with fail
     refine PO.out.mono ?_
     rintro _ w6 ⟨cb2, cn2, cc2, db2, dn2, dc2, sb2, sn2, sc2, eb2, en2, ec2, ab2, an2, ac2, S2, rfl, ho6, hb6⟩
     have HZ6 := hid (HZB.out.below hb6)
     have HBL6 := hid (below_deep HBW.out hb6)
     have HO6 := hid ho6
     clear ho6 hb6 PO x0 x1 x2 x3 x4 x5 x6 hl0 hl1
     obtain ⟨z0, z1, z2, z3, z4, z5, z6⟩ := HZ6.out.cells7
     obtain ⟨g0, g1, g2, g3, g4, g5, g6⟩ := HZ6.out.free7
     have hz0 : w.heap.size + 1 < w6.heap.size := HZ6.out.lt
     have HBF := hid (put7_box HZ6.out (.slice cb2 cn2 cc2) (.slice db2 dn2 dc2) (.slice sb2 sn2 sc2) (.slice eb2 en2 ec2) (.int .i64 r.eng.base) (.int .i64 r.next) (.slice ab2 an2 ac2))
     have HBL := hid (put7_below HBL6.out HBZ.out (.slice cb2 cn2 cc2) (.slice db2 dn2 dc2) (.slice sb2 sn2 sc2) (.slice eb2 en2 ec2) (.int .i64 r.eng.base) (.int .i64 r.next) (.slice ab2 an2 ac2))
     have HRL := hid ((HO6.out.put HZ6.out (put7_off w6 (w.heap.size + 1) (.slice cb2 cn2 cc2) (.slice db2 dn2 dc2) (.slice sb2 sn2 sc2) (.slice eb2 en2 ec2) (.int .i64 r.eng.base) (.int .i64 r.next) (.slice ab2 an2 ac2))).parts (w0 := w0))
     go_wp2
     refine bodyPost_ret (goP_results _ (w.heap.size + 1) _ rfl rfl HBF.out) rfl ?_
     exact ⟨_, by rw [HGO.out], by rw [HGO.out]; exact ⟨_, _, _, _, _, _, _, _, _, _, _, _, _, _, _, _, rfl, HRL.out⟩, HBL.out⟩
end Go.Proofs.YtlhaeeenkgkdaaaGreatDoor

namespace Go.Proofs.YtlhaeeenkgkdaaaGreatDoor
open Go.RowKit

end Go.Proofs.YtlhaeeenkgkdaaaGreatDoor

namespace Go.Proofs.YtlhaeeenkgkdaaaGreatDoor
open Go.RowKit

def tenL : List Deed3 := [oneD]
theorem ten_rights : RightDs tenL := fun d hd => by
 simp [tenL] at hd
 subst hd
 exact oneRight
theorem ten_right1 : RightEnt (1, tenL) := ⟨by decide, by decide, by decide, ten_rights⟩
theorem ten_right0 : RightEnt (0, tenL) := ⟨by decide, by decide, by decide, ten_rights⟩
def tenA : Rep := ⟨newE [], 0, [(1, tenL)]⟩
def tenE : Eng := addAll (newE []) [oneD, oneD]
def tenX : Eng := goE tenE 0
theorem ten_a : comeR newR (1, tenL) = (tenA, 12) := by
 unfold comeR hadR newR tenA
 simp
theorem ten_b : comeR tenA (0, tenL) = (⟨tenE, 2, []⟩, 0) := by
 unfold comeR hadR tenA
 simp [isNum, pullR, tenL, tenE, addAll]
theorem ten_ready : readyE tenE = [0] := by decide +kernel
theorem ten_readyX : readyE tenX = [1] := by decide +kernel
theorem ten_deeds : tenE.deeds.length = 2 ∧ tenX.deeds.length = 2 := by decide +kernel
theorem ten_seen : (seenTo tenX (markE tenX)).2 = 0 ∧ (seenTo tenX (markE tenX)).1.length = 1 := by decide +kernel
theorem ten_clear : (clearE tenX (markE tenX)).deeds.length = 1 := by decide +kernel
theorem ten_goodA : ∃ es m dn b, GoodR es m dn b tenA := by
 obtain ⟨more, -, h, -⟩ := come_good GoodR.new ten_right1
 rw [ten_a] at h
 exact ⟨_, _, _, _, h⟩
theorem ten_goodB : ∃ es m dn b, GoodR es m dn b ⟨tenE, 2, []⟩ := by
 obtain ⟨es, m, dn, b, hA⟩ := ten_goodA
 obtain ⟨more, -, h, -⟩ := come_good hA ten_right0
 rw [ten_b] at h
 exact ⟨_, _, _, _, h⟩
theorem ten_goodX : ∃ es m dn b, GoodR es m dn b ⟨tenX, 2, []⟩ := by
 obtain ⟨es, m, dn, b, h⟩ := ten_goodB
 have hm : 0 ∈ readyE tenE := by rw [ten_ready]; simp
 exact ⟨_, _, _, _, h.with_eng (h.eng.go (ready_at h.eng hm).1 (ready_needs hm))⟩
end Go.Proofs.YtlhaeeenkgkdaaaGreatDoor

namespace Go.Proofs.YtlhaeeenkgkdaaaGreatDoor
open Go.RowKit

def HoldR (w0 w : World) (b : Nat) (r : Rep) : Prop := ∃ cb cn cc db dn dc sb sn sc eb en ec ab an ac S, Box w b (repA cb cn cc db dn dc sb sn sc eb en ec r.eng.base r.next ab an ac) 35 ∧ RepParts w0 w cb cn cc db dn dc sb sn sc eb en ec ab an ac S r
theorem holdR {w0 w : World} {b : Nat} {r : Rep} {cb db sb eb ab : Option Addr} {cn cc dn dc sn sc en ec an ac : Nat} {S : List ESlot} (h : Box w b (repA cb cn cc db dn dc sb sn sc eb en ec r.eng.base r.next ab an ac) 35) (hp : RepParts w0 w cb cn cc db dn dc sb sn sc eb en ec ab an ac S r) : HoldR w0 w b r := ⟨_, _, _, _, _, _, _, _, _, _, _, _, _, _, _, _, h, hp⟩
end Go.Proofs.YtlhaeeenkgkdaaaGreatDoor

namespace Go.Proofs.YtlhaeeenkgkdaaaGreatDoor
open Go.RowKit

theorem deeds_alone (w : World) (rb : Option Addr) (rn rc : Nat) (wb : Option Addr) (wn wc : Nat) (cb : Option Addr) (cn cc : Nat) (d : Deed3) (h : DeedIn w rb rn rc wb wn wc cb cn cc d.1 d.2.1 d.2.2) (s : SmallT d.1 ∧ SmallT d.2.1) : DeedsIn (w.alloc (.cells #[.slice rb rn rc, .slice wb wn wc, .slice cb cn cc] 44)) (some ⟨w.heap.size, 0, none⟩) 1 1 [d] := by
 have hb := grew w (.cells #[.slice rb rn rc, .slice wb wn wc, .slice cb cn cc] 44)
 refine ⟨rfl, ⟨Nat.le_refl _, by unfold maxLen; omega, fun h => by cases h⟩, .inr ⟨_, _, rfl, fun i hi => ?_⟩⟩
 obtain rfl : i = 0 := by omega
 exact ⟨rb, rn, rc, wb, wn, wc, cb, cn, cc, box_cell w _ _ 0 _ rfl, box_cell w _ _ 1 _ rfl, box_cell w _ _ 2 _ rfl, h.below hb, s.1, s.2⟩
theorem tri_keep {A w1 w2 : World} {b : Nat} {x0 x1 x2 : Value} (h : w1.cell? ⟨b, 0, none⟩ = some x0 ∧ w1.cell? ⟨b, 1, none⟩ = some x1 ∧ w1.cell? ⟨b, 2, none⟩ = some x2 ∧ Below A.heap.size A w1) (hb : Below w1.heap.size w1 w2) :
   w2.cell? ⟨b, 0, none⟩ = some x0 ∧ w2.cell? ⟨b, 1, none⟩ = some x1 ∧ w2.cell? ⟨b, 2, none⟩ = some x2 ∧ Below A.heap.size A w2 := by
 obtain ⟨h0, h1, h2, hz⟩ := h
 exact ⟨kept_cell hb h0, kept_cell hb h1, kept_cell hb h2, below_deep hz hb⟩
theorem three_held {p0 p1 p2 : Prop} {B : Nat} {A w' : World} (h : p0 ∧ p1 ∧ p2 ∧ Below B A w') : Below B A w' := h.2.2.2
theorem ten_go : goR ⟨tenE, 2, []⟩ 0 = (⟨tenX, 2, []⟩, 0) := by
 unfold goR
 simp only [ten_ready]
 rfl
theorem ten_gone : goR ⟨tenX, 2, []⟩ 5 = (⟨tenX, 2, []⟩, 6) := by
 unfold goR
 simp only [ten_readyX]
 rfl
theorem rep_field0 (cb : Option Addr) (cn cc : Nat) (db : Option Addr) (dn dc : Nat) (sb : Option Addr) (sn sc : Nat) (eb : Option Addr) (en ec : Nat) (base next : Int) (ab : Option Addr) (an ac : Nat) (w : World) : (Instr.field 35 (.agg (repA cb cn cc db dn dc sb sn sc eb en ec base next ab an ac)) 0).run Tryz.prog w = .ok (.agg (engA cb cn cc db dn dc sb sn sc eb en ec base)) w := by kernel_rfl
theorem eng_field1 (cb : Option Addr) (cn cc : Nat) (db : Option Addr) (dn dc : Nat) (sb : Option Addr) (sn sc : Nat) (eb : Option Addr) (en ec : Nat) (base : Int) (w : World) : (Instr.field 33 (.agg (engA cb cn cc db dn dc sb sn sc eb en ec base)) 1).run Tryz.prog w = .ok (.slice db dn dc) w := by kernel_rfl
def LieAt (w : World) (o : Nat) : Prop := DeedsIn w (some ⟨o, 0, none⟩) 1 1 tenL
theorem LieAt.below {w w' : World} {o : Nat} (h : LieAt w o) (hb : Below w.heap.size w w') : LieAt w' o := DeedsIn.below h hb
theorem LieAt.drew {w : World} {o : Nat} (h : LieAt w o) : LieAt w.drew o := h.below (step_drew (Below.refl _ _))

set_option maxHeartbeats 16000000 in
set_option maxRecDepth 100000 in
theorem ten_calls (w : World)
   (hR : ∀ (s : ByteArray) (W : World), Below w.heap.size w W → keyT s = oneT → Calls Tryz.prog 9 #[.string s] W fun x w' => ∃ rb rn rc wb wn wc cb cn cc, x = .returned (.agg #[.slice rb rn rc, .slice wb wn wc, .slice cb cn cc]) ∧ DeedIn w' rb rn rc wb wn wc cb cn cc oneD.1 oneD.2.1 oneD.2.2 ∧ Below W.heap.size W w') :
   Calls Tryz.prog 4 #[] w fun x w' => x = .returned (.bool true) ∧ Below w.heap.size w w' := by
 have PR := hid hR
 clear hR
 go_enter Tryz.func4, Tryz.ntmps4
 go_wp2_with fail
 refine (PR.out _ w (Below.refl _ _) ?_).mono ?_
 · rfl
 rintro x w1 ⟨rb, rn, rc, wb, wn, wcc, cb, cn, cc, rfl, hdi, hb1⟩
 have HG1 := hid (grew w1 (.cells #[.slice rb rn rc, .slice wb wn wcc, .slice cb cn cc] 44))
 have HX1 := hid (Box.new w1 #[.slice rb rn rc, .slice wb wn wcc, .slice cb cn cc] 44)
 have HD1 := hid (hdi.below HG1.out)
 have HB1 := hid (below_deep hb1 HG1.out)
 clear hdi hb1 PR HG1
 go_upto_region 2 with fail
 generalize w1.alloc (.cells #[.slice rb rn rc, .slice wb wn wcc, .slice cb cn cc] 44) = A1 at *
 generalize w1.heap.size = b1 at *
 have hxl : b1 < A1.heap.size := HX1.out.lt
 have HLA : Hid (∀ W : World, Below A1.heap.size A1 W → LieAt (W.alloc (.cells #[.slice rb rn rc, .slice wb wn wcc, .slice cb cn cc] 44)) W.heap.size) := fun W h => deeds_alone W rb rn rc wb wn wcc cb cn cc oneD (HD1.out.below h) ⟨one_small, one_small⟩
 go_cut [2, 3] (fun pv iv wx => ∃ b, pv = .pointer (some ⟨b, 0, none⟩) ∧ iv = .int .i64 12 ∧ Hid (HoldR A1 wx b tenA) ∧ Hid (Below A1.heap.size A1 wx))
 case first =>
   have x0 := HX1.out.cell 0 _ rfl
   have x1 := HX1.out.cell 1 _ rfl
   have x2 := HX1.out.cell 2 _ rfl
   have PN := hid (newP_calls A1)
   unfold RepToldAt at PN
   have PC : Hid (∀ (rv : Value) (o : Nat) (W : World), Below A1.heap.size A1 W → RepIn W rv newR → LieAt W o → Calls Tryz.prog 7 #[rv, .agg #[.int .i64 1, .slice (some ⟨o, 0, none⟩) 1 1]] W fun x w' => RepNumAt A1 W w' (tenA, 12) x) := fun rv o W h0 h1 h2 => by
     have := comeP_calls GoodR.new (1, tenL) ten_right1 rv (.agg #[.int .i64 1, .slice (some ⟨o, 0, none⟩) 1 1]) A1 W h1 ⟨_, _, _, rfl, h2⟩
     rw [ten_a] at this
     exact this
   have B0 := hid (step_drew (Below.refl A1.heap.size A1))
   have HS2 : Hid ((fun w' => w'.cell? ⟨b1, 0, none⟩ = some (.slice rb rn rc) ∧ w'.cell? ⟨b1, 1, none⟩ = some (.slice wb wn wcc) ∧ w'.cell? ⟨b1, 2, none⟩ = some (.slice cb cn cc) ∧ Below A1.heap.size A1 w') A1) := ⟨x0, x1, x2, Below.refl _ _⟩
   have HS1 : Hid ((fun w' => w'.cell? ⟨b1, 0, none⟩ = some (.slice rb rn rc) ∧ w'.cell? ⟨b1, 1, none⟩ = some (.slice wb wn wcc) ∧ w'.cell? ⟨b1, 2, none⟩ = some (.slice cb cn cc) ∧ Below A1.heap.size A1 w') A1.drew) := ⟨kept_cell B0.out x0, kept_cell B0.out x1, kept_cell B0.out x2, B0.out⟩
   have HR0 := hid (Below.refl A1.heap.size A1)
   have L1 := HLA
   have L2 : Hid (∀ W : World, Below A1.heap.size A1 W → LieAt ((W.alloc (.cells #[.slice rb rn rc, .slice wb wn wcc, .slice cb cn cc] 44)).alloc (.cells nilR 35)) W.heap.size) := fun W h => (HLA.out W h).below (grew _ _)
   have L3 : Hid (∀ W : World, Below A1.heap.size A1 W → LieAt ((W.alloc (.cells nilR 35)).alloc (.cells #[.slice rb rn rc, .slice wb wn wcc, .slice cb cn cc] 44)) (W.heap.size + 1)) := fun W h => by
     have := HLA.out _ (step_box h (.cells nilR 35))
     rw [World.size_alloc] at this
     exact this
   have Z1 : Hid (∀ W : World, Box (W.alloc (.cells nilR 35)) W.heap.size nilR 35) := fun W => Box.new W nilR 35
   have Z2 : Hid (∀ W : World, Box ((W.alloc (.cells #[.slice rb rn rc, .slice wb wn wcc, .slice cb cn cc] 44)).alloc (.cells nilR 35)) (W.heap.size + 1) nilR 35) := fun W => by
     have := Box.new (W.alloc (.cells #[.slice rb rn rc, .slice wb wn wcc, .slice cb cn cc] 44)) nilR 35
     rw [World.size_alloc] at this
     exact this
   have Z3 : Hid (∀ W : World, Box ((W.alloc (.cells nilR 35)).alloc (.cells #[.slice rb rn rc, .slice wb wn wcc, .slice cb cn cc] 44)) W.heap.size nilR 35) := fun W => (Box.new W nilR 35).below (grew _ _)
   have DR : Hid (∀ W : World, Below W.heap.size W W.drew) := fun W => step_drew (Below.refl _ _)
   go_region_held3 (fun w' => w'.cell? ⟨b1, 0, none⟩ = some (.slice rb rn rc) ∧ w'.cell? ⟨b1, 1, none⟩ = some (.slice wb wn wcc) ∧ w'.cell? ⟨b1, 2, none⟩ = some (.slice cb cn cc) ∧ Below A1.heap.size A1 w')
     (first
       | with_reducible exact HS1.out
       | with_reducible exact HS7.out
       | with_reducible exact HS6.out
       | with_reducible exact HS5.out
       | with_reducible exact tri_keep HS6.out (grew _ _)
       | with_reducible exact tri_keep HS5.out (grew _ _)
       | with_reducible exact tri_keep HS5.out (below_deep (grew _ _) (grew _ _))
       | with_reducible exact tri_keep HS2.out ((grew _ _).drew)
       | with_reducible exact tri_keep HS2.out (below_deep (grew _ _) (grew _ _)).drew)
     (first
       | (go_at_call 10; refine (PN.out _).mono ?_; rintro _ wN ⟨vn, rfl, hvn, hbn⟩; (first | (have hbA : Below A1.heap.size A1 wN := (by with_reducible exact below_deep B0.out hbn)) | (have hbA : Below A1.heap.size A1 wN := (by with_reducible exact below_deep ((grew _ _).drew) hbn)) | (have hbA : Below A1.heap.size A1 wN := (by with_reducible exact below_deep ((below_deep (grew _ _) (grew _ _)).drew) hbn))); have HS5 := hid (tri_keep HS2.out hbA); (first | (have HDN : Hid (LieAt wN A1.heap.size) := (by with_reducible exact hid (LieAt.below (LieAt.drew (L1.out A1 HR0.out)) hbn))) | (have HDN : Hid (LieAt wN A1.heap.size) := (by with_reducible exact hid (LieAt.below (LieAt.drew (L2.out A1 HR0.out)) hbn))) | (have HDN : Hid (LieAt wN (A1.heap.size + 1)) := (by with_reducible exact hid (LieAt.below (LieAt.drew (L3.out A1 HR0.out)) hbn))) | skip); (first | (have HZN : Hid (Box wN A1.heap.size nilR 35) := (by with_reducible exact hid (Box.below (Box.below (Z1.out A1) (DR.out _)) hbn)); have hz : A1.heap.size ≤ A1.heap.size := Nat.le_refl _) | (have HZN : Hid (Box wN (A1.heap.size + 1) nilR 35) := (by with_reducible exact hid (Box.below (Box.below (Z2.out A1) (DR.out _)) hbn)); have hz : A1.heap.size ≤ A1.heap.size + 1 := Nat.le_succ _) | (have HZN : Hid (Box wN A1.heap.size nilR 35) := (by with_reducible exact hid (Box.below (Box.below (Z3.out A1) (DR.out _)) hbn)); have hz : A1.heap.size ≤ A1.heap.size := Nat.le_refl _) | skip))
       | (go_at_call 7; refine (PC.out _ _ _ ?_ ?_ ?_).mono ?_; exact three_held (by assumption); (first | with_reducible exact hvn.in hbA | with_reducible exact (hvn.in hbA).below (grew _ _) | with_reducible exact ((hvn.in hbA).below (grew _ _)).below (grew _ _)); (first | with_reducible exact HDN.out | with_reducible exact HDN.out.below (grew _ _) | with_reducible exact L1.out _ hbA | with_reducible exact L2.out _ hbA | with_reducible exact L3.out _ hbA); rintro _ wC ⟨vc, rfl, ⟨cb3, cn3, cc3, db3, dn3, dc3, sb3, sn3, sc3, eb3, en3, ec3, ab3, an3, ac3, S3, rfl, hp3⟩, hbc⟩; (first | (have hbD : Below A1.heap.size A1 wC := (by with_reducible exact below_deep hbA hbc)) | (have hbD : Below A1.heap.size A1 wC := (by with_reducible exact below_deep (below_deep hbA (grew _ _)) hbc)) | (have hbD : Below A1.heap.size A1 wC := (by with_reducible exact below_deep (below_deep (below_deep hbA (grew _ _)) (grew _ _)) hbc))); have HS6 := hid (tri_keep HS2.out hbD); (first | (have HZC := hid (Box.below HZN.out (by with_reducible exact hbc))) | (have HZC := hid (Box.below (Box.below HZN.out (grew wN (.cells #[.slice rb rn rc, .slice wb wn wcc, .slice cb cn cc] 44))) (by with_reducible exact hbc))) | (have HZC := hid (Box.below (Z1.out wN) (by with_reducible exact hbc)); have hz : A1.heap.size ≤ wN.heap.size := hbA.size) | (have HZC := hid (Box.below (Z2.out wN) (by with_reducible exact hbc)); have hz : A1.heap.size ≤ wN.heap.size + 1 := Nat.le_succ_of_le hbA.size) | (have HZC := hid (Box.below (Z3.out wN) (by with_reducible exact hbc)); have hz : A1.heap.size ≤ wN.heap.size := hbA.size) | skip); (first | (have z0 := HZC.out.cells7.1; have z1 := HZC.out.cells7.2.1; have z2 := HZC.out.cells7.2.2.1; have z3 := HZC.out.cells7.2.2.2.1; have z4 := HZC.out.cells7.2.2.2.2.1; have z5 := HZC.out.cells7.2.2.2.2.2.1; have z6 := HZC.out.cells7.2.2.2.2.2.2; have f0 := HZC.out.free 0; have f1 := HZC.out.free 1; have f2 := HZC.out.free 2; have f3 := HZC.out.free 3; have f4 := HZC.out.free 4; have f5 := HZC.out.free 5; have f6 := HZC.out.free 6; have hzl := HZC.out.lt; have HS7 := hid (tri_keep HS2.out (hbD.trans (low_seven hz (.slice cb3 cn3 cc3) (.slice db3 dn3 dc3) (.slice sb3 sn3 sc3) (.slice eb3 en3 ec3) (.int .i64 tenA.eng.base) (.int .i64 tenA.next) (.slice ab3 an3 ac3))))) | skip)))
   all_goals first
     | (go_wp2; go_meet; with_reducible exact ⟨_, rfl, rfl, hid (holdR (Box.new _ _ _) (hp3.below (grew _ _))), hid (step_box hbD _)⟩)
     | (go_wp2; go_meet; with_reducible exact ⟨_, rfl, rfl, hid (holdR (put7_box HZC.out _ _ _ _ _ _ _) (hp3.put HZC.out (put7_off _ _ _ _ _ _ _ _ _))), hid (put7_below hbD hz _ _ _ _ _ _ _)⟩)
 case rest =>
   obtain ⟨ba, rfl, rfl, HHA, HBA⟩ := hcut
   obtain ⟨es3, m3, dn3, bq3, hgA⟩ := ten_goodA
   obtain ⟨es4, m4, dn4, bq4, hgB⟩ := ten_goodB
   obtain ⟨es5, m5, dn5, bq5, hgX⟩ := ten_goodX
   have HGA := hid hgA
   have HGB := hid hgB
   have HGX := hid hgX
   obtain ⟨cb3, cn3, cc3, db3, dl3, dc3, sb3, sn3, sc3, eb3, en3, ec3, ab3, an3, ac3, S3, hbx3, hp3⟩ := HHA.out
   obtain rfl : an3 = 1 := (hp3.lies HBA.out).early.len
   have HX3 := hid hbx3
   have HP3 := hid (hp3.lies HBA.out)
   have HD3 := hid (HX1.out.below HBA.out)
   have HBW := hid (below_deep HB1.out HBA.out)
   clear hgA hgB hgX hbx3 hp3 HHA HX1 hxl
   have x0 := HD3.out.cell 0 _ rfl
   have x1 := HD3.out.cell 1 _ rfl
   have x2 := HD3.out.cell 2 _ rfl
   have hxl : b1 < wc.heap.size := HD3.out.lt
   obtain ⟨a0, a1, a2, a3, a4, a5, a6⟩ := HX3.out.cells7
   have hal : ba < wc.heap.size := HX3.out.lt
   have HLW := hid (HLA.out wc HBA.out)
   have PC : Hid (Calls Tryz.prog 7 #[.agg (repA cb3 cn3 cc3 db3 dl3 dc3 sb3 sn3 sc3 eb3 en3 ec3 tenA.eng.base tenA.next ab3 1 ac3), .agg #[.int .i64 0, .slice (some ⟨wc.heap.size, 0, none⟩) 1 1]] (wc.alloc (.cells #[.slice rb rn rc, .slice wb wn wcc, .slice cb cn cc] 44)) fun x w' => RepNumAt A1 (wc.alloc (.cells #[.slice rb rn rc, .slice wb wn wcc, .slice cb cn cc] 44)) w' (⟨tenE, 2, []⟩, 0) x) := by
     have := comeP_calls HGA.out (0, tenL) ten_right0 (.agg (repA cb3 cn3 cc3 db3 dl3 dc3 sb3 sn3 sc3 eb3 en3 ec3 tenA.eng.base tenA.next ab3 1 ac3)) (.agg #[.int .i64 0, .slice (some ⟨wc.heap.size, 0, none⟩) 1 1]) A1 _ (RepIn.below ⟨_, _, _, _, _, _, _, _, _, _, _, _, _, _, _, rfl, HP3.out⟩ (grew wc (.cells #[.slice rb rn rc, .slice wb wn wcc, .slice cb cn cc] 44))) ⟨_, _, _, rfl, HLW.out⟩
     rw [ten_b] at this
     exact this
   generalize hbs : tenA.eng.base = bsA at *
   generalize hnx : tenA.next = nxA at *
   clear hbs hnx
   go_wp2_with fail
   refine PC.out.mono ?_
   rintro _ w4 ⟨v4, rfl, ⟨cb4, cn4, cc4, db4, dl4, dc4, sb4, sn4, sc4, eb4, en4, ec4, ab4, an4, ac4, S4, rfl, hp4⟩, hb4⟩
   obtain rfl : dl4 = 2 := hp4.eng.de.len.trans ten_deeds.1
   have HG4 := hid (grew w4 (.cells (repA cb4 cn4 cc4 db4 2 dc4 sb4 sn4 sc4 eb4 en4 ec4 tenE.base 2 ab4 an4 ac4) 35))
   have HX4 := hid (Box.new w4 (repA cb4 cn4 cc4 db4 2 dc4 sb4 sn4 sc4 eb4 en4 ec4 tenE.base 2 ab4 an4 ac4) 35)
   have HBN := hid (below_deep (grew wc (.cells #[.slice rb rn rc, .slice wb wn wcc, .slice cb cn cc] 44)) (below_deep hb4 HG4.out))
   have HB4 := hid (below_deep HBW.out HBN.out)
   have HP4 := hid (hp4.below HG4.out)
   have HA1 := hid (below_deep HBA.out HBN.out)
   have HX34 := hid (HX3.out.below HBN.out)
   clear hp4 hb4 PC HG4 HX3 HP3 HD3 HBW HLW a0 a1 a2 a3 a4 a5 a6 x0 x1 x2 hxl hal HBA HBN
   go_upto_region 4 with fail
   generalize htb : tenE.base = tb at *
   generalize w4.alloc (.cells (repA cb4 cn4 cc4 db4 2 dc4 sb4 sn4 sc4 eb4 en4 ec4 tb 2 ab4 an4 ac4) 35) = A4 at *
   generalize w4.heap.size = bb at *
   have PG : Hid (Calls Tryz.prog 11 #[.agg (repA cb4 cn4 cc4 db4 2 dc4 sb4 sn4 sc4 eb4 en4 ec4 tb 2 ab4 an4 ac4), .int .i64 0] A4 fun x w' => RepNumAt A1 A4 w' (⟨tenX, 2, []⟩, 0) x) := by
     have := goP_calls HGB.out 0 (.agg (repA cb4 cn4 cc4 db4 2 dc4 sb4 sn4 sc4 eb4 en4 ec4 tb 2 ab4 an4 ac4)) A1 A4 ⟨_, _, _, _, _, _, _, _, _, _, _, _, _, _, _, by rw [← htb], HP4.out.lies HA1.out⟩
     rw [ten_go] at this
     exact this
   clear htb
   obtain ⟨a0, a1, a2, a3, a4, a5, a6⟩ := HX4.out.cells7
   have hal : bb < A4.heap.size := HX4.out.lt
   go_wp2_with fail
   refine PG.out.mono ?_
   rintro _ w5 ⟨v5, rfl, ⟨cb5, cn5, cc5, db5, dl5, dc5, sb5, sn5, sc5, eb5, en5, ec5, ab5, an5, ac5, S5, rfl, hp5⟩, hb5⟩
   have HG5 := hid (grew w5 (.cells (repA cb5 cn5 cc5 db5 dl5 dc5 sb5 sn5 sc5 eb5 en5 ec5 tenX.base 2 ab5 an5 ac5) 35))
   have HX5 := hid (Box.new w5 (repA cb5 cn5 cc5 db5 dl5 dc5 sb5 sn5 sc5 eb5 en5 ec5 tenX.base 2 ab5 an5 ac5) 35)
   have HBN := hid (below_deep hb5 HG5.out)
   have HB5 := hid (below_deep HB4.out HBN.out)
   have HP5 := hid (hp5.below HG5.out)
   have HA5 := hid (below_deep HA1.out HBN.out)
   have HX35 := hid (HX34.out.below HBN.out)
   have HX45 := hid (HX4.out.below HBN.out)
   clear hp5 hb5 PG HG5 HX4 HX34 HP4 HB4 HA1 HBN a0 a1 a2 a3 a4 a5 a6 hal
   go_upto_region 5 with fail
   generalize htb : tenX.base = tb5 at *
   generalize w5.alloc (.cells (repA cb5 cn5 cc5 db5 dl5 dc5 sb5 sn5 sc5 eb5 en5 ec5 tb5 2 ab5 an5 ac5) 35) = A5 at *
   generalize w5.heap.size = bc at *
   have PG : Hid (Calls Tryz.prog 11 #[.agg (repA cb5 cn5 cc5 db5 dl5 dc5 sb5 sn5 sc5 eb5 en5 ec5 tb5 2 ab5 an5 ac5), .int .i64 5] A5 fun x w' => RepNumAt A1 A5 w' (⟨tenX, 2, []⟩, 6) x) := by
     have := goP_calls HGX.out 5 (.agg (repA cb5 cn5 cc5 db5 dl5 dc5 sb5 sn5 sc5 eb5 en5 ec5 tb5 2 ab5 an5 ac5)) A1 A5 ⟨_, _, _, _, _, _, _, _, _, _, _, _, _, _, _, by rw [← htb], HP5.out.lies HA5.out⟩
     rw [ten_gone] at this
     exact this
   obtain ⟨a0, a1, a2, a3, a4, a5, a6⟩ := HX5.out.cells7
   have hal : bc < A5.heap.size := HX5.out.lt
   go_wp2_with fail
   refine PG.out.mono ?_
   rintro _ w6 ⟨v6, rfl, ⟨cb6, cn6, cc6, db6, dl6, dc6, sb6, sn6, sc6, eb6, en6, ec6, ab6, an6, ac6, S6, rfl, hp6⟩, hb6⟩
   have HG6 := hid (grew w6 (.cells (repA cb6 cn6 cc6 db6 dl6 dc6 sb6 sn6 sc6 eb6 en6 ec6 tenX.base 2 ab6 an6 ac6) 35))
   have HX6 := hid (Box.new w6 (repA cb6 cn6 cc6 db6 dl6 dc6 sb6 sn6 sc6 eb6 en6 ec6 tenX.base 2 ab6 an6 ac6) 35)
   have HBN := hid (below_deep hb6 HG6.out)
   have HB6 := hid (below_deep HB5.out HBN.out)
   have HP6 := hid (hp6.below HG6.out)
   have HP56 := hid (HP5.out.below HBN.out)
   have HA6 := hid (below_deep HA5.out HBN.out)
   have HX36 := hid (HX35.out.below HBN.out)
   have HX46 := hid (HX45.out.below HBN.out)
   have HX56 := hid (HX5.out.below HBN.out)
   clear hp6 hb6 PG HG6 HX35 HX45 HX5 HP5 HB5 HA5 HBN a0 a1 a2 a3 a4 a5 a6 hal
   go_upto_region 6 with fail
   subst htb
   generalize w6.alloc (.cells (repA cb6 cn6 cc6 db6 dl6 dc6 sb6 sn6 sc6 eb6 en6 ec6 tenX.base 2 ab6 an6 ac6) 35) = A6 at *
   generalize htb : tenX.base = tb5 at *
   generalize w6.heap.size = bd at *
   have HIC : Hid (∀ W, Below A6.heap.size A6 W → RepIn W (.agg (repA cb5 cn5 cc5 db5 dl5 dc5 sb5 sn5 sc5 eb5 en5 ec5 tb5 2 ab5 an5 ac5)) ⟨tenX, 2, []⟩) := fun W hW => RepIn.below ⟨_, _, _, _, _, _, _, _, _, _, _, _, _, _, _, by rw [← htb], HP56.out.lies HA6.out⟩ hW
   have HIX : Hid (∀ W, Below A6.heap.size A6 W → RepIn W (.agg (repA cb6 cn6 cc6 db6 dl6 dc6 sb6 sn6 sc6 eb6 en6 ec6 tb5 2 ab6 an6 ac6)) ⟨tenX, 2, []⟩) := fun W hW => RepIn.below ⟨_, _, _, _, _, _, _, _, _, _, _, _, _, _, _, by rw [← htb], HP6.out.lies HA6.out⟩ hW
   have PS := hid (seenP_calls HGX.out.eng (Nat.le_trans HGX.out.few (by decide)) _ A6 (HIC.out A6 (Below.refl _ _)))
   have a6 := HX36.out.cells7.2.2.2.2.2.2
   have hal : ba < A6.heap.size := HX36.out.lt
   have c1 := HX46.out.cells7.2.1
   have c5 := HX46.out.cells7.2.2.2.2.2.1
   have hcl : bb < A6.heap.size := HX46.out.lt
   obtain ⟨x0, x1, x2, x3, x4, x5, x6⟩ := HX56.out.cells7
   have hxl : bc < A6.heap.size := HX56.out.lt
   go_wp2_with fail
   refine PS.out.mono ?_
   rintro _ w7 ⟨b7, n7, c7, rfl, h7, hb7⟩
   obtain rfl : n7 = 1 := h7.len.trans ten_seen.2
   have HB7 := hid hb7
   have HX57 := hid (HX56.out.below hb7)
   have HX67 := hid (HX6.out.below hb7)
   have PCL := hid (clearP_calls HGX.out _ A1 w7 (HIC.out w7 hb7))
   clear h7 hb7 PS x0 x1 x2 x3 x4 x5 x6 hxl a6 hal c1 c5 hcl HX36 HX46 HX56 HX6
   obtain ⟨x0, x1, x2, x3, x4, x5, x6⟩ := HX57.out.cells7
   have hxl : bc < w7.heap.size := HX57.out.lt
   go_wp2_with fail
   refine PCL.out.mono ?_
   rintro _ w8 ⟨v8, rfl, ⟨cb8, cn8, cc8, db8, dl8, dc8, sb8, sn8, sc8, eb8, en8, ec8, ab8, an8, ac8, S8, rfl, hp8⟩, hb8⟩
   obtain rfl : dl8 = 1 := hp8.eng.de.len.trans ten_clear
   have HB8 := hid (below_deep HB7.out hb8)
   have HX68 := hid (HX67.out.below hb8)
   have POW := hid (ownR_calls HGX.out _ w8 (HIX.out w8 HB8.out))
   clear hp8 hb8 PCL x0 x1 x2 x3 x4 x5 x6 hxl HX57 HX67
   have F80 := rep_field0 cb8 cn8 cc8 db8 1 dc8 sb8 sn8 sc8 eb8 en8 ec8 (clearE tenX (markE tenX)).base 2 ab8 an8 ac8
   have F81 := eng_field1 cb8 cn8 cc8 db8 1 dc8 sb8 sn8 sc8 eb8 en8 ec8 (clearE tenX (markE tenX)).base
   obtain ⟨x0, x1, x2, x3, x4, x5, x6⟩ := HX68.out.cells7
   have hxl : bd < w8.heap.size := HX68.out.lt
   go_wp2_with fail
   refine POW.out.mono ?_
   rintro _ w9 ⟨cb9, cn9, cc9, db9, dl9, dc9, sb9, sn9, sc9, eb9, en9, ec9, ab9, an9, ac9, S9, rfl, ho9, hb9⟩
   obtain rfl : dl9 = 2 := ho9.eng.lies2.de.len.trans ten_deeds.2
   have HBF := hid (below_deep HB6.out (below_deep HB8.out hb9))
   clear ho9 hb9 POW x0 x1 x2 x3 x4 x5 x6 hxl
   simp only [htb]
   have F90 := rep_field0 cb9 cn9 cc9 db9 2 dc9 sb9 sn9 sc9 eb9 en9 ec9 tb5 2 ab9 an9 ac9
   have F91 := eng_field1 cb9 cn9 cc9 db9 2 dc9 sb9 sn9 sc9 eb9 en9 ec9 tb5
   go_wp2
   go_ret
   exact ⟨rfl, HBF.out⟩
end Go.Proofs.YtlhaeeenkgkdaaaGreatDoor
