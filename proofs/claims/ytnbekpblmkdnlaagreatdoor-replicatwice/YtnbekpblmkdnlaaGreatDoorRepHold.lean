/-
  The program's Go of replicas.
  Plain mathematics of the two deeds that chapter 6 asks of first: their texts, and what is planned of them.
  Plain mathematics of the two entries that chapter 10 asks of first: the second one comes too soon, and the replica that they make.
  Replicas in blocks that are written again.
-/
import Derived.Test.YtnbekpblmkdnlaaGreatDoorRepRest
import Derived.Test.YtnbekpblmkdnlaaGreatDoorRepFinds
import Derived.Test.YtnbekpblmkdnlaaGreatDoorPlanMath
import Derived.Test.YtnbekpblmkdnlaaGreatDoorRepCatch
namespace Go.Proofs.YtnbekpblmkdnlaaGreatDoor
open Go.RowKit

theorem goP_results (tmps : Array Value) (b : Nat) (w : World) {a0 a1 a2 a3 a6 : Option Addr} {n0 n1 n2 n3 n6 c0 c1 c2 c3 c6 : Nat} {z y q : Int} (h : tmps.getD 4 undef = .pointer (some ⟨b, 0, none⟩)) (h5 : tmps.getD 5 undef = .int .i64 q) (hb : Box w b (repA a0 n0 c0 a1 n1 c1 a2 n2 c2 a3 n3 c3 z y a6 n6 c6) 35) :
   (results Tryz.f17 tmps).run Tryz.prog w = .ok (.tuple #[.agg (repA a0 n0 c0 a1 n1 c1 a2 n2 c2 a3 n3 c3 z y a6 n6 c6), .int .i64 q]) w := by
 have h' : tmps[4]?.getD undef = .pointer (some ⟨b, 0, none⟩) := by simpa using h
 have h5' : tmps[5]?.getD undef = .int .i64 q := by simpa using h5
 obtain ⟨k0, k1, k2, k3, k4, k5, k6⟩ := hb.cells7
 simp [results, Tryz.results17, go_sem, h', h5', k0, k1, k2, k3, k4, k5, k6]
theorem sx_keep {A w1 w2 : World} {b pb po : Nat} {x0 x1 x2 x3 x4 y : Value} (h : w1.cell? ⟨b, 0, none⟩ = some x0 ∧ w1.cell? ⟨b, 1, none⟩ = some x1 ∧ w1.cell? ⟨b, 2, none⟩ = some x2 ∧ w1.cell? ⟨b, 3, none⟩ = some x3 ∧ w1.cell? ⟨b, 4, none⟩ = some x4 ∧ w1.cell? ⟨pb, po, none⟩ = some y ∧ Below A.heap.size A w1) (hb : Below w1.heap.size w1 w2) :
   w2.cell? ⟨b, 0, none⟩ = some x0 ∧ w2.cell? ⟨b, 1, none⟩ = some x1 ∧ w2.cell? ⟨b, 2, none⟩ = some x2 ∧ w2.cell? ⟨b, 3, none⟩ = some x3 ∧ w2.cell? ⟨b, 4, none⟩ = some x4 ∧ w2.cell? ⟨pb, po, none⟩ = some y ∧ Below A.heap.size A w2 := by
 obtain ⟨h0, h1, h2, h3, h4, h5, hz⟩ := h
 exact ⟨kept_cell hb h0, kept_cell hb h1, kept_cell hb h2, kept_cell hb h3, kept_cell hb h4, kept_cell hb h5, below_deep hz hb⟩
theorem six_held {p0 p1 p2 p3 p4 p5 : Prop} {B : Nat} {A w' : World} (h : p0 ∧ p1 ∧ p2 ∧ p3 ∧ p4 ∧ p5 ∧ Below B A w') : Below B A w' := h.2.2.2.2.2.2
def EngBox1 (w : World) (b : Nat) (E : Eng) : Prop := ∃ cb cn cc db dn dc sb sn sc eb en ec, Box w b (engA cb cn cc db dn dc sb sn sc eb en ec E.base) 33 ∧ EngLies w cb cn cc db dn dc sb sn sc eb en ec E

theorem engbox1 {w : World} {b : Nat} {E : Eng} {cb db sb eb : Option Addr} {cn cc dn dc sn sc en ec : Nat} (h : Box w b (engA cb cn cc db dn dc sb sn sc eb en ec E.base) 33) (hl : EngLies w cb cn cc db dn dc sb sn sc eb en ec E) : EngBox1 w b E := ⟨_, _, _, _, _, _, _, _, _, _, _, _, h, hl⟩

set_option maxHeartbeats 8000000 in
set_option maxRecDepth 100000 in
theorem goP_calls {es : List Ent} {m : Nat} {dq : Nat → Bool} {bq : ByteArray → Int} {r : Rep} (h : GoodR es m dq bq r) (n : Int) (rv : Value) (w0 w : World) (hr : RepIn w rv r) :
   Calls Tryz.prog 17 #[rv, .int .i64 n] w fun x w' => RepNumAt w0 w w' (goR r n) x := by
 have HRV := hid hr
 obtain ⟨cb, cn, cc, db, dn, dc, sb, sn, sc, eb, en, ec, ab, an, ac, rfl, hl⟩ := hr
 have hfew : (deedsOf es).length ≤ 1954687338211 := Nat.le_trans h.few (by decide)
 have han : an ≤ 1048576 := by rw [hl.early.len]; exact Nat.le_trans h.four (by decide)
 have HGR := hid h
 have HFW := hid hfew
 have HL := hid hl
 have HA := hid han
 have HX0 := hid (Box.new w (repA cb cn cc db dn dc sb sn sc eb en ec r.eng.base r.next ab an ac) 35)
 have HG0 := hid (grew w (.cells (repA cb cn cc db dn dc sb sn sc eb en ec r.eng.base r.next ab an ac) 35))
 have HZ0 := hid (Box.new (w.alloc (.cells (repA cb cn cc db dn dc sb sn sc eb en ec r.eng.base r.next ab an ac) 35)) nilR 35)
 have HG1 := hid (grew (w.alloc (.cells (repA cb cn cc db dn dc sb sn sc eb en ec r.eng.base r.next ab an ac) 35)) (.cells nilR 35))
 rw [World.size_alloc] at HZ0
 have HXA := hid (HX0.out.below HG1.out)
 have HBA := hid (below_deep HG0.out HG1.out)
 clear h hl HX0 HG0 HG1 hfew han
 go_enter Tryz.func17, Tryz.ntmps17
 go_upto_region 1 with fail
 generalize (w.alloc (.cells (repA cb cn cc db dn dc sb sn sc eb en ec r.eng.base r.next ab an ac) 35)).alloc (.cells nilR 35) = A at *
 have PR := hid (runReady_calls HGR.out.eng HFW.out (.agg (engA cb cn cc db dn dc sb sn sc eb en ec r.eng.base)) A ⟨_, _, _, _, _, _, _, _, _, _, _, _, rfl, HL.out.eng.below HBA.out⟩)
 have hl0 : w.heap.size < A.heap.size := HXA.out.lt
 obtain ⟨x0, x1, x2, x3, x4, x5, x6⟩ := HXA.out.cells7
 go_wp2_with fail
 refine PR.out.mono ?_
 rintro _ w3 ⟨nb, nn, nc, rfl, hn3, hb3⟩
 have HN3 := hid hn3
 have HXB := hid (HXA.out.below hb3)
 have HZB := hid (HZ0.out.below hb3)
 have HBW := hid (below_deep HBA.out hb3)
 have hnm := Nat.le_trans hn3.hdr.le hn3.hdr.max
 unfold maxLen at hnm
 have HNN : Hid (nn = (readyE r.eng).length) := by
   show _ = _
   have := Ints.count HN3.out
   simpa [ints] using this
 clear PR hn3 hb3 x0 x1 x2 x3 x4 x5 x6 hl0 HXA HZ0
 obtain ⟨x0, x1, x2, x3, x4, x5, x6⟩ := HXB.out.cells7
 have hl0 : w.heap.size < w3.heap.size := HXB.out.lt
 have hl1 : w.heap.size + 1 < w3.heap.size := HZB.out.lt
 have HBZ : Hid (w.heap.size ≤ w.heap.size + 1) := Nat.le_succ _
 by_cases hq : 0 ≤ n ∧ n < nn
 · obtain ⟨q, rfl⟩ : ∃ q : Nat, n = (q : Int) := ⟨n.toNat, by omega⟩
   have hqn : q < nn := by omega
   have hqi : (q : Int) < (nn : Int) := by omega
   have hq0 : ¬ (q : Int) < 0 := by omega
   have hqg : ¬ (q : Int) ≥ (nn : Int) := by omega
   have hq1 : (0 : Int) ≤ (q : Int) := by omega
   have dq0 : decide ((q : Int) < 0) = false := by simp
   have dq1 : decide ((q : Int) ≥ (nn : Int)) = false := by simp; omega
   have hqr : q < (readyE r.eng).length := by rw [← HNN.out]; exact hqn
   have hql : q < (ints (readyE r.eng)).length := by simpa [ints] using hqr
   obtain ⟨b5, o5, rfl, hr5⟩ : ∃ b5 o5, nb = some ⟨b5, o5, none⟩ ∧ Run w3 b5 o5 (intsC (ints (readyE r.eng))) := by
     rcases HN3.out.run with h | h
     · omega
     · exact h
   have hgd : (ints (readyE r.eng)).getD q 0 = (((readyE r.eng).getD q 0 : Nat) : Int) := by simp [ints, List.getD, hqr]
   have c5 := hr5 q _ (intsC_at hql)
   rw [hgd] at c5
   have hmem : (readyE r.eng).getD q 0 ∈ readyE r.eng := by
     rw [List.getD_eq_getElem?_getD, List.getElem?_eq_getElem hqr]
     exact List.getElem_mem hqr
   have hrg := ready_goE HGR.out.eng hmem
   have HGO : Hid (goR r (q : Int) = (⟨goE r.eng ((readyE r.eng).getD q 0), r.next, r.early⟩, 0)) := by
     show _ = _
     unfold goR
     rw [if_pos ⟨hq1, by rw [← HNN.out]; exact hqi⟩, Int.toNat_natCast]
   have hb5 : b5 < w3.heap.size := by simpa using World.block_lt_of_cell? _ _ c5
   have PG : Hid (∀ W, Below w3.heap.size w3 W → Calls Tryz.prog 36 #[.agg (engA cb cn cc db dn dc sb sn sc eb en ec r.eng.base), .int .i64 (((readyE r.eng).getD q 0 : Nat) : Int)] W fun x w' => ∃ cb2 cn2 cc2 db2 dn2 dc2 sb2 sn2 sc2 eb2 en2 ec2, x = .returned (.tuple #[.agg (engA cb2 cn2 cc2 db2 dn2 dc2 sb2 sn2 sc2 eb2 en2 ec2 (goE r.eng ((readyE r.eng).getD q 0)).base), .int .i64 0]) ∧ EngLies w' cb2 cn2 cc2 db2 dn2 dc2 sb2 sn2 sc2 eb2 en2 ec2 (goE r.eng ((readyE r.eng).getD q 0)) ∧ Below W.heap.size W w') := fun W hW => by
     refine (runGo_calls HGR.out.eng HFW.out (((readyE r.eng).getD q 0 : Nat) : Int) (.agg (engA cb cn cc db dn dc sb sn sc eb en ec r.eng.base)) W ⟨_, _, _, _, _, _, _, _, _, _, _, _, rfl, HL.out.eng.below (below_deep HBW.out hW)⟩).mono ?_
     rintro x w' ⟨v, hx, hv, hb⟩
     rw [hrg] at hx hv
     obtain ⟨cb2, cn2, cc2, db2, dn2, dc2, sb2, sn2, sc2, eb2, en2, ec2, rfl, hl2⟩ := hv
     exact ⟨cb2, cn2, cc2, db2, dn2, dc2, sb2, sn2, sc2, eb2, en2, ec2, hx, hl2, hb⟩
   clear hr5 hgd hmem hrg hql hqr hq HNN HN3
   generalize goE r.eng ((readyE r.eng).getD q 0) = E at *
   generalize (((readyE r.eng).getD q 0 : Nat) : Int) = zq at *
   have B0 := hid (step_drew (Below.refl w3.heap.size w3))
   go_upto_region 4 with fail
   go_cut [7, 8] (fun pv ev wx => ∃ b4, pv = .pointer (some ⟨b4, 0, none⟩) ∧ ev = .int .i64 0 ∧ Hid (EngBox1 wx b4 E) ∧ Hid (Below w3.heap.size w3 wx))
   case first =>
     have HS2 : Hid ((fun w' => w'.cell? ⟨w.heap.size, 0, none⟩ = some (.slice cb cn cc) ∧ w'.cell? ⟨w.heap.size, 1, none⟩ = some (.slice db dn dc) ∧ w'.cell? ⟨w.heap.size, 2, none⟩ = some (.slice sb sn sc) ∧ w'.cell? ⟨w.heap.size, 3, none⟩ = some (.slice eb en ec) ∧ w'.cell? ⟨w.heap.size, 4, none⟩ = some (.int .i64 r.eng.base) ∧ w'.cell? ⟨b5, o5 + q, none⟩ = some (.int .i64 zq) ∧ Below w3.heap.size w3 w') w3) := ⟨x0, x1, x2, x3, x4, c5, Below.refl _ _⟩
     have HS1 : Hid ((fun w' => w'.cell? ⟨w.heap.size, 0, none⟩ = some (.slice cb cn cc) ∧ w'.cell? ⟨w.heap.size, 1, none⟩ = some (.slice db dn dc) ∧ w'.cell? ⟨w.heap.size, 2, none⟩ = some (.slice sb sn sc) ∧ w'.cell? ⟨w.heap.size, 3, none⟩ = some (.slice eb en ec) ∧ w'.cell? ⟨w.heap.size, 4, none⟩ = some (.int .i64 r.eng.base) ∧ w'.cell? ⟨b5, o5 + q, none⟩ = some (.int .i64 zq) ∧ Below w3.heap.size w3 w') w3.drew) := ⟨kept_cell B0.out x0, kept_cell B0.out x1, kept_cell B0.out x2, kept_cell B0.out x3, kept_cell B0.out x4, kept_cell B0.out c5, B0.out⟩
     go_region_held3 (fun w' => w'.cell? ⟨w.heap.size, 0, none⟩ = some (.slice cb cn cc) ∧ w'.cell? ⟨w.heap.size, 1, none⟩ = some (.slice db dn dc) ∧ w'.cell? ⟨w.heap.size, 2, none⟩ = some (.slice sb sn sc) ∧ w'.cell? ⟨w.heap.size, 3, none⟩ = some (.slice eb en ec) ∧ w'.cell? ⟨w.heap.size, 4, none⟩ = some (.int .i64 r.eng.base) ∧ w'.cell? ⟨b5, o5 + q, none⟩ = some (.int .i64 zq) ∧ Below w3.heap.size w3 w')
       (first
         | with_reducible exact HS1.out
         | with_reducible exact sx_keep HS2.out ((grew _ _).drew)
         | with_reducible exact sx_keep HS2.out hbA
         | with_reducible exact sx_keep HS2.out (below_deep hbA (grew _ _))
         | with_reducible exact sx_keep HS2.out (hbA.trans (low_five (Nat.le_refl _) _ _ _ _ _)))
       (first
         | (go_at_call 36; refine (PG.out _ ?_).mono ?_; exact six_held (by assumption); rintro _ w4 ⟨cb2, cn2, cc2, db2, dn2, dc2, sb2, sn2, sc2, eb2, en2, ec2, rfl, hl4, hb4⟩; (first | (have hbA : Below w3.heap.size w3 w4 := (by with_reducible exact below_deep B0.out hb4)) | (have hbA : Below w3.heap.size w3 w4 := (by with_reducible exact below_deep ((grew _ _).drew) hb4))); (first | (have HZ4 : Hid (Box w4 w3.heap.size (engA none 0 0 none 0 0 none 0 0 none 0 0 0) 33) := (by with_reducible exact hid ((boxnew_drew w3 _ _).below hb4)); have z0 := HZ4.out.cells5.1; have z1 := HZ4.out.cells5.2.1; have z2 := HZ4.out.cells5.2.2.1; have z3 := HZ4.out.cells5.2.2.2.1; have z4 := HZ4.out.cells5.2.2.2.2; have f0 := HZ4.out.free 0; have f1 := HZ4.out.free 1; have f2 := HZ4.out.free 2; have f3 := HZ4.out.free 3; have f4 := HZ4.out.free 4; have hzl := HZ4.out.lt) | skip)))
     all_goals first
       | (go_wp2; go_meet; with_reducible exact ⟨_, rfl, rfl, hid (engbox1 (Box.new _ _ _) (hl4.below (grew _ _))), hid (below_deep hbA (grew _ _))⟩)
       | (go_wp2; go_meet; with_reducible exact ⟨_, rfl, rfl, hid (engbox1 (box_five HZ4.out _ _ _ _ _) (hl4.off HZ4.out (eng_alien HZ4.out) (by decide) (by decide) (by decide) (off_five _ _ _ _ _ _ _))), hid (hbA.trans (low_five (Nat.le_refl _) _ _ _ _ _))⟩)
   case rest =>
     obtain ⟨b4, rfl, rfl, HEB, HBX⟩ := hcut
     obtain ⟨cb2, cn2, cc2, db2, dn2, dc2, sb2, sn2, sc2, eb2, en2, ec2, hbx, hel⟩ := HEB.out
     have HB4 := hid hbx
     have HE4 := hid hel
     have HXC := hid (HXB.out.below HBX.out)
     have HZC := hid (HZB.out.below HBX.out)
     have HBC := hid (below_deep HBW.out HBX.out)
     have PW := hid (withR_calls cb cn cc db dn dc sb sn sc eb en ec r.eng.base r.next ab an ac cb2 cn2 cc2 db2 dn2 dc2 sb2 sn2 sc2 eb2 en2 ec2 E.base r.early wc (HL.out.early.below HBC.out) HA.out HGR.out.early)
     clear hbx hel HEB x0 x1 x2 x3 x4 x5 x6 hl0 hl1 c5 hb5 PG B0
     obtain ⟨x0, x1, x2, x3, x4, x5, x6⟩ := HXC.out.cells7
     obtain ⟨e0, e1, e2, e3, e4⟩ := HB4.out.cells5
     have hl0 : w.heap.size < wc.heap.size := HXC.out.lt
     have hl4 : b4 < wc.heap.size := HB4.out.lt
     go_wp2_with fail
     refine PW.out.mono ?_
     rintro _ w6 ⟨ab6, ac6, S6, rfl, ho6, hb6⟩
     have HZ6 := hid (HZC.out.below hb6)
     have HBL6 := hid (below_deep HBC.out hb6)
     have HP6 := hid (ho6.parts (w0 := w0) (r := ⟨E, r.next, r.early⟩) (HE4.out.below hb6))
     clear ho6 hb6 PW x0 x1 x2 x3 x4 x5 x6 hl0 hl4 e0 e1 e2 e3 e4
     obtain ⟨z0, z1, z2, z3, z4, z5, z6⟩ := HZ6.out.cells7
     obtain ⟨g0, g1, g2, g3, g4, g5, g6⟩ := HZ6.out.free7
     have hz0 : w.heap.size + 1 < w6.heap.size := HZ6.out.lt
     have HBF := hid (put7_box HZ6.out (.slice cb2 cn2 cc2) (.slice db2 dn2 dc2) (.slice sb2 sn2 sc2) (.slice eb2 en2 ec2) (.int .i64 E.base) (.int .i64 r.next) (.slice ab6 an ac6))
     have HBL := hid (put7_below HBL6.out HBZ.out (.slice cb2 cn2 cc2) (.slice db2 dn2 dc2) (.slice sb2 sn2 sc2) (.slice eb2 en2 ec2) (.int .i64 E.base) (.int .i64 r.next) (.slice ab6 an ac6))
     have HRL := hid (HP6.out.put HZ6.out (put7_off w6 (w.heap.size + 1) (.slice cb2 cn2 cc2) (.slice db2 dn2 dc2) (.slice sb2 sn2 sc2) (.slice eb2 en2 ec2) (.int .i64 E.base) (.int .i64 r.next) (.slice ab6 an ac6)))
     go_wp2
     refine bodyPost_ret (goP_results _ (w.heap.size + 1) _ rfl rfl HBF.out) rfl ?_
     exact ⟨_, by rw [HGO.out], by rw [HGO.out]; exact ⟨_, _, _, _, _, _, _, _, _, _, _, _, _, _, _, _, rfl, HRL.out⟩, HBL.out⟩
 · have HGO : Hid (goR r n = (r, 6)) := by
     show _ = _
     unfold goR
     rw [if_neg (by rw [← HNN.out]; exact hq)]
   have PO := hid (ownR_calls HGR.out _ w3 (HRV.out.below HBW.out))
   have hdec : (decide (n < 0) = true) ∨ (decide (n < 0) = false ∧ decide (n ≥ (nn : Int)) = true) := by
     by_cases h0 : n < 0
     · exact .inl (by simpa using h0)
     · exact .inr ⟨by simpa using h0, by simp; omega⟩
   clear hq HN3 HNN
   rcases hdec with d0 | ⟨d0, d1⟩
   all_goals
     go_wp2_with fail
     refine PO.out.mono ?_
     rintro _ w6 ⟨cb2, cn2, cc2, db2, dn2, dc2, sb2, sn2, sc2, eb2, en2, ec2, ab2, an2, ac2, S2, rfl, ho6, hb6⟩
     have HZ6 := hid (HZB.out.below hb6)
     have HBL6 := hid (below_deep HBW.out hb6)
     have HO6 := hid ho6
     clear ho6 hb6 PO x0 x1 x2 x3 x4 x5 x6 hl0 hl1
     obtain ⟨z0, z1, z2, z3, z4, z5, z6⟩ := HZ6.out.cells7
     obtain ⟨g0, g1, g2, g3, g4, g5, g6⟩ := HZ6.out.free7
     have hz0 : w.heap.size + 1 < w6.heap.size := HZ6.out.lt
     have HBF := hid (put7_box HZ6.out (.slice cb2 cn2 cc2) (.slice db2 dn2 dc2) (.slice sb2 sn2 sc2) (.slice eb2 en2 ec2) (.int .i64 r.eng.base) (.int .i64 r.next) (.slice ab2 an2 ac2))
     have HBL := hid (put7_below HBL6.out HBZ.out (.slice cb2 cn2 cc2) (.slice db2 dn2 dc2) (.slice sb2 sn2 sc2) (.slice eb2 en2 ec2) (.int .i64 r.eng.base) (.int .i64 r.next) (.slice ab2 an2 ac2))
     have HRL := hid ((HO6.out.put HZ6.out (put7_off w6 (w.heap.size + 1) (.slice cb2 cn2 cc2) (.slice db2 dn2 dc2) (.slice sb2 sn2 sc2) (.slice eb2 en2 ec2) (.int .i64 r.eng.base) (.int .i64 r.next) (.slice ab2 an2 ac2))).parts (w0 := w0))
     go_wp2
     refine bodyPost_ret (goP_results _ (w.heap.size + 1) _ rfl rfl HBF.out) rfl ?_
     exact ⟨_, by rw [HGO.out], by rw [HGO.out]; exact ⟨_, _, _, _, _, _, _, _, _, _, _, _, _, _, _, _, rfl, HRL.out⟩, HBL.out⟩
end Go.Proofs.YtnbekpblmkdnlaaGreatDoor

namespace Go.Proofs.YtnbekpblmkdnlaaGreatDoor
open Go.RowKit

end Go.Proofs.YtnbekpblmkdnlaaGreatDoor

namespace Go.Proofs.YtnbekpblmkdnlaaGreatDoor
open Go.RowKit

def tenL : List Deed3 := [oneD]
theorem ten_rights : RightDs tenL := fun d hd => by
 simp [tenL] at hd
 subst hd
 exact oneRight
theorem ten_right1 : RightEnt (1, tenL) := ⟨by decide, by decide, by decide, ten_rights⟩
theorem ten_right0 : RightEnt (0, tenL) := ⟨by decide, by decide, by decide, ten_rights⟩
def tenA : Rep := ⟨newE [], 0, [(1, tenL)]⟩
def tenE : Eng := addAll (newE []) [oneD, oneD]
def tenX : Eng := goE tenE 0
theorem ten_a : comeR newR (1, tenL) = (tenA, 12) := by
 unfold comeR hadR newR tenA
 simp
theorem ten_b : comeR tenA (0, tenL) = (⟨tenE, 2, []⟩, 0) := by
 unfold comeR hadR tenA
 simp [isNum, pullR, tenL, tenE, addAll]
theorem ten_ready : readyE tenE = [0] := by decide +kernel
theorem ten_readyX : readyE tenX = [1] := by decide +kernel
theorem ten_deeds : tenE.deeds.length = 2 ∧ tenX.deeds.length = 2 := by decide +kernel
theorem ten_seen : (seenTo tenX (markE tenX)).2 = 0 ∧ (seenTo tenX (markE tenX)).1.length = 1 := by decide +kernel
theorem ten_clear : (clearE tenX (markE tenX)).deeds.length = 1 := by decide +kernel
theorem ten_goodA : ∃ es m dn b, GoodR es m dn b tenA := by
 obtain ⟨more, -, h, -⟩ := come_good GoodR.new ten_right1
 rw [ten_a] at h
 exact ⟨_, _, _, _, h⟩
theorem ten_goodB : ∃ es m dn b, GoodR es m dn b ⟨tenE, 2, []⟩ := by
 obtain ⟨es, m, dn, b, hA⟩ := ten_goodA
 obtain ⟨more, -, h, -⟩ := come_good hA ten_right0
 rw [ten_b] at h
 exact ⟨_, _, _, _, h⟩
theorem ten_goodX : ∃ es m dn b, GoodR es m dn b ⟨tenX, 2, []⟩ := by
 obtain ⟨es, m, dn, b, h⟩ := ten_goodB
 have hm : 0 ∈ readyE tenE := by rw [ten_ready]; simp
 exact ⟨_, _, _, _, h.with_eng (h.eng.go (ready_at h.eng hm).1 (ready_needs hm))⟩
end Go.Proofs.YtnbekpblmkdnlaaGreatDoor

namespace Go.Proofs.YtnbekpblmkdnlaaGreatDoor
open Go.RowKit

def HoldR (w0 w : World) (b : Nat) (r : Rep) : Prop := ∃ cb cn cc db dn dc sb sn sc eb en ec ab an ac S, Box w b (repA cb cn cc db dn dc sb sn sc eb en ec r.eng.base r.next ab an ac) 35 ∧ RepParts w0 w cb cn cc db dn dc sb sn sc eb en ec ab an ac S r
theorem holdR {w0 w : World} {b : Nat} {r : Rep} {cb db sb eb ab : Option Addr} {cn cc dn dc sn sc en ec an ac : Nat} {S : List ESlot} (h : Box w b (repA cb cn cc db dn dc sb sn sc eb en ec r.eng.base r.next ab an ac) 35) (hp : RepParts w0 w cb cn cc db dn dc sb sn sc eb en ec ab an ac S r) : HoldR w0 w b r := ⟨_, _, _, _, _, _, _, _, _, _, _, _, _, _, _, _, h, hp⟩
theorem HoldR.below {w0 w w' : World} {b : Nat} {r : Rep} (h : HoldR w0 w b r) (hb : Below w.heap.size w w') : HoldR w0 w' b r := by
 obtain ⟨cb, cn, cc, db, dn, dc, sb, sn, sc, eb, en, ec, ab, an, ac, S, h1, h2⟩ := h
 exact ⟨cb, cn, cc, db, dn, dc, sb, sn, sc, eb, en, ec, ab, an, ac, S, h1.below hb, h2.below hb⟩
theorem RepParts.put5 {w0 W W1 : World} {cb db sb eb ab : Option Addr} {b cn cc dn' dc sn sc en ec an ac : Nat} {S : List ESlot} {r : Rep} (hb : Box W b (repA cb cn cc db dn' dc sb sn sc eb en ec r.eng.base r.next ab an ac) 35) (hp : RepParts w0 W cb cn cc db dn' dc sb sn sc eb en ec ab an ac S r) (hw : Below W.heap.size W W1)
   {E : Eng} {cb2 db2 sb2 eb2 : Option Addr} {cn2 cc2 dn2 dc2 sn2 sc2 en2 ec2 : Nat} (hl : EngLies W1 cb2 cn2 cc2 db2 dn2 dc2 sb2 sn2 sc2 eb2 en2 ec2 E) :
   HoldR w0 (put5 W1 b (.slice cb2 cn2 cc2) (.slice db2 dn2 dc2) (.slice sb2 sn2 sc2) (.slice eb2 en2 ec2) (.int .i64 E.base)) b ⟨E, r.next, r.early⟩ := by
 have hB := hb.below hw
 have hp1 : RepParts w0 W1 cb2 cn2 cc2 db2 dn2 dc2 sb2 sn2 sc2 eb2 en2 ec2 ab an ac S ⟨E, r.next, r.early⟩ := ⟨hl, hp.row.below (by decide) hw, hp.slots.below hw, hp.kind.below hw⟩
 have s0 : Box (W1.setCell ⟨b, 0, none⟩ (.slice cb2 cn2 cc2)) b (repA cb2 cn2 cc2 db dn' dc sb sn sc eb en ec r.eng.base r.next ab an ac) 35 := hB.set 0 _
 have s1 : Box ((W1.setCell ⟨b, 0, none⟩ (.slice cb2 cn2 cc2)).setCell ⟨b, 1, none⟩ (.slice db2 dn2 dc2)) b (repA cb2 cn2 cc2 db2 dn2 dc2 sb sn sc eb en ec r.eng.base r.next ab an ac) 35 := s0.set 1 _
 have s2 : Box (((W1.setCell ⟨b, 0, none⟩ (.slice cb2 cn2 cc2)).setCell ⟨b, 1, none⟩ (.slice db2 dn2 dc2)).setCell ⟨b, 2, none⟩ (.slice sb2 sn2 sc2)) b (repA cb2 cn2 cc2 db2 dn2 dc2 sb2 sn2 sc2 eb en ec r.eng.base r.next ab an ac) 35 := s1.set 2 _
 have s3 : Box ((((W1.setCell ⟨b, 0, none⟩ (.slice cb2 cn2 cc2)).setCell ⟨b, 1, none⟩ (.slice db2 dn2 dc2)).setCell ⟨b, 2, none⟩ (.slice sb2 sn2 sc2)).setCell ⟨b, 3, none⟩ (.slice eb2 en2 ec2)) b (repA cb2 cn2 cc2 db2 dn2 dc2 sb2 sn2 sc2 eb2 en2 ec2 r.eng.base r.next ab an ac) 35 := s2.set 3 _
 exact holdR (s3.set 4 _) (hp1.put hB (put5_off W1 b _ _ _ _ _))
theorem HoldR.put5 {w0 W W1 : World} {b : Nat} {r : Rep} (h : HoldR w0 W b r) (hw : Below W.heap.size W W1)
   {E : Eng} {cb2 db2 sb2 eb2 : Option Addr} {cn2 cc2 dn2 dc2 sn2 sc2 en2 ec2 : Nat} (hl : EngLies W1 cb2 cn2 cc2 db2 dn2 dc2 sb2 sn2 sc2 eb2 en2 ec2 E) :
   HoldR w0 (Go.Proofs.YtnbekpblmkdnlaaGreatDoor.put5 W1 b (.slice cb2 cn2 cc2) (.slice db2 dn2 dc2) (.slice sb2 sn2 sc2) (.slice eb2 en2 ec2) (.int .i64 E.base)) b ⟨E, r.next, r.early⟩ := by
 obtain ⟨cb, cn, cc, db, dn, dc, sb, sn, sc, eb, en, ec, ab, an, ac, S, h1, h2⟩ := h
 exact h2.put5 h1 hw hl
theorem HoldR.off {w0 w w' : World} {b b' : Nat} {r r' : Rep} (h : HoldR w0 w b r) (h' : HoldR w0 w b' r') (hne : b ≠ b') (ho : Off b' w w') : HoldR w0 w' b r := by
 obtain ⟨cb, cn, cc, db, dn, dc, sb, sn, sc, eb, en, ec, ab, an, ac, S, h1, h2⟩ := h
 obtain ⟨cb2, cn2, cc2, db2, dn2, dc2, sb2, sn2, sc2, eb2, en2, ec2, ab2, an2, ac2, S2, k1, k2⟩ := h'
 exact holdR (box_off h1 ho hne) (h2.put k1 ho)
theorem many_keep {A w1 w2 : World} {b c : Nat} {x0 x1 x2 x3 x4 x5 x6 y0 y1 y2 y3 y4 y5 y6 : Value} (h : w1.cell? ⟨b, 0, none⟩ = some x0 ∧ w1.cell? ⟨b, 1, none⟩ = some x1 ∧ w1.cell? ⟨b, 2, none⟩ = some x2 ∧ w1.cell? ⟨b, 3, none⟩ = some x3 ∧ w1.cell? ⟨b, 4, none⟩ = some x4 ∧ w1.cell? ⟨b, 5, none⟩ = some x5 ∧ w1.cell? ⟨b, 6, none⟩ = some x6 ∧ w1.cell? ⟨c, 0, none⟩ = some y0 ∧ w1.cell? ⟨c, 1, none⟩ = some y1 ∧ w1.cell? ⟨c, 2, none⟩ = some y2 ∧ w1.cell? ⟨c, 3, none⟩ = some y3 ∧ w1.cell? ⟨c, 4, none⟩ = some y4 ∧ w1.cell? ⟨c, 5, none⟩ = some y5 ∧ w1.cell? ⟨c, 6, none⟩ = some y6 ∧ Below A.heap.size A w1) (hb : Below w1.heap.size w1 w2) :
   w2.cell? ⟨b, 0, none⟩ = some x0 ∧ w2.cell? ⟨b, 1, none⟩ = some x1 ∧ w2.cell? ⟨b, 2, none⟩ = some x2 ∧ w2.cell? ⟨b, 3, none⟩ = some x3 ∧ w2.cell? ⟨b, 4, none⟩ = some x4 ∧ w2.cell? ⟨b, 5, none⟩ = some x5 ∧ w2.cell? ⟨b, 6, none⟩ = some x6 ∧ w2.cell? ⟨c, 0, none⟩ = some y0 ∧ w2.cell? ⟨c, 1, none⟩ = some y1 ∧ w2.cell? ⟨c, 2, none⟩ = some y2 ∧ w2.cell? ⟨c, 3, none⟩ = some y3 ∧ w2.cell? ⟨c, 4, none⟩ = some y4 ∧ w2.cell? ⟨c, 5, none⟩ = some y5 ∧ w2.cell? ⟨c, 6, none⟩ = some y6 ∧ Below A.heap.size A w2 := by
 obtain ⟨h0, h1, h2, h3, h4, h5, h6, k0, k1, k2, k3, k4, k5, k6, hz⟩ := h
 exact ⟨kept_cell hb h0, kept_cell hb h1, kept_cell hb h2, kept_cell hb h3, kept_cell hb h4, kept_cell hb h5, kept_cell hb h6, kept_cell hb k0, kept_cell hb k1, kept_cell hb k2, kept_cell hb k3, kept_cell hb k4, kept_cell hb k5, kept_cell hb k6, below_deep hz hb⟩
theorem many_held {p0 p1 p2 p3 p4 p5 p6 q0 q1 q2 q3 q4 q5 q6 : Prop} {B : Nat} {A w' : World} (h : p0 ∧ p1 ∧ p2 ∧ p3 ∧ p4 ∧ p5 ∧ p6 ∧ q0 ∧ q1 ∧ q2 ∧ q3 ∧ q4 ∧ q5 ∧ q6 ∧ Below B A w') : Below B A w' := h.2.2.2.2.2.2.2.2.2.2.2.2.2.2
end Go.Proofs.YtnbekpblmkdnlaaGreatDoor
