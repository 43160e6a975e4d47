/-
  The program's Come of replicas.
  What hinders a deed, and Ready, of the program's, walked.
  The closures of 'do', walked: what a key had, and what a deed sees of it.
-/
import Derived.Test.YtlhaeeenkgkdaaaGreatDoorPlanLib
import Derived.Test.YtlhaeeenkgkdaaaGreatDoorRepCatch
import Derived.Test.YtlhaeeenkgkdaaaGreatDoorRepDel
import Derived.Deep.DeepCutAuto
namespace Go.Proofs.YtlhaeeenkgkdaaaGreatDoor
open Go.RowKit

theorem comeP_results (tmps : Array Value) (b : Nat) (w : World) {a0 a1 a2 a3 a6 : Option Addr} {n0 n1 n2 n3 n6 c0 c1 c2 c3 c6 : Nat} {z y q : Int} (h : tmps.getD 4 undef = .pointer (some ⟨b, 0, none⟩)) (h5 : tmps.getD 5 undef = .int .i64 q) (hb : Box w b (repA a0 n0 c0 a1 n1 c1 a2 n2 c2 a3 n3 c3 z y a6 n6 c6) 35) :
   (results Tryz.f7 tmps).run Tryz.prog w = .ok (.tuple #[.agg (repA a0 n0 c0 a1 n1 c1 a2 n2 c2 a3 n3 c3 z y a6 n6 c6), .int .i64 q]) w := by
 have h' : tmps[4]?.getD undef = .pointer (some ⟨b, 0, none⟩) := by simpa using h
 have h5' : tmps[5]?.getD undef = .int .i64 q := by simpa using h5
 obtain ⟨k0, k1, k2, k3, k4, k5, k6⟩ := hb.cells7
 simp [results, Tryz.results7, go_sem, h', h5', k0, k1, k2, k3, k4, k5, k6]
theorem RepOwn.lower {w : World} {cb db sb eb ab : Option Addr} {B B' cn cc dn dc sn sc en ec an ac : Nat} {S : List ESlot} {r : Rep} (h : RepOwn w B cb cn cc db dn dc sb sn sc eb en ec ab an ac S r) (hB : B' ≤ B) : RepOwn w B' cb cn cc db dn dc sb sn sc eb en ec ab an ac S r := ⟨h.eng.lower hB, h.early.lower hB⟩
theorem RepOwn.kept {w w1 : World} {cb db sb eb ab : Option Addr} {B bn cn cc dn dc sn sc en ec an ac : Nat} {S : List ESlot} {r : Rep} {e : Ent} (h : RepOwn w B cb cn cc db dn dc sb sn sc eb en ec ab an ac S r) {cs : Array Value} {v0 v1 v2 v3 v4 v5 v6 : Value} (hcs : cs = #[v0, v1, v2, v3, v4, v5, v6]) (hb : Box w bn cs 35) (hk : KeepsE B w w1) {ab1 : Option Addr} {ac1 : Nat} {S1 : List ESlot} (hE : EarlyOwn w1 B ab1 (an + 1) ac1 S1 (r.early ++ [e])) :
   Box (w1.setCell ⟨bn, 6, none⟩ (.slice ab1 (an + 1) ac1)) bn #[v0, v1, v2, v3, v4, v5, .slice ab1 (an + 1) ac1] 35 ∧ RepOwn (w1.setCell ⟨bn, 6, none⟩ (.slice ab1 (an + 1) ac1)) B cb cn cc db dn dc sb sn sc eb en ec ab1 (an + 1) ac1 S1 ⟨r.eng, r.next, r.early ++ [e]⟩ := by
 subst hcs
 have HX := hk.box _ _ _ (by decide) hb
 exact ⟨HX.set 6 _, ⟨(hk.eng _ _ _ _ _ _ _ _ h.eng).putR HX (Off.set _ _ _ _), hE.put HX (by decide) (by decide) (by decide) (by decide) (Off.set _ _ _ _)⟩⟩
theorem nin_keep {A w1 w2 : World} {b c : Nat} {x0 x1 x2 x3 x4 x5 x6 y0 y1 : Value} (h : w1.cell? ⟨b, 0, none⟩ = some x0 ∧ w1.cell? ⟨b, 1, none⟩ = some x1 ∧ w1.cell? ⟨b, 2, none⟩ = some x2 ∧ w1.cell? ⟨b, 3, none⟩ = some x3 ∧ w1.cell? ⟨b, 4, none⟩ = some x4 ∧ w1.cell? ⟨b, 5, none⟩ = some x5 ∧ w1.cell? ⟨b, 6, none⟩ = some x6 ∧ w1.cell? ⟨c, 0, none⟩ = some y0 ∧ w1.cell? ⟨c, 1, none⟩ = some y1 ∧ Below A.heap.size A w1) (hb : Below w1.heap.size w1 w2) :
   w2.cell? ⟨b, 0, none⟩ = some x0 ∧ w2.cell? ⟨b, 1, none⟩ = some x1 ∧ w2.cell? ⟨b, 2, none⟩ = some x2 ∧ w2.cell? ⟨b, 3, none⟩ = some x3 ∧ w2.cell? ⟨b, 4, none⟩ = some x4 ∧ w2.cell? ⟨b, 5, none⟩ = some x5 ∧ w2.cell? ⟨b, 6, none⟩ = some x6 ∧ w2.cell? ⟨c, 0, none⟩ = some y0 ∧ w2.cell? ⟨c, 1, none⟩ = some y1 ∧ Below A.heap.size A w2 := by
 obtain ⟨h0, h1, h2, h3, h4, h5, h6, h7, h8, hz⟩ := h
 exact ⟨kept_cell hb h0, kept_cell hb h1, kept_cell hb h2, kept_cell hb h3, kept_cell hb h4, kept_cell hb h5, kept_cell hb h6, kept_cell hb h7, kept_cell hb h8, below_deep hz hb⟩
theorem nine_held {p0 p1 p2 p3 p4 p5 p6 p7 p8 : Prop} {B : Nat} {A w' : World} (h : p0 ∧ p1 ∧ p2 ∧ p3 ∧ p4 ∧ p5 ∧ p6 ∧ p7 ∧ p8 ∧ Below B A w') : Below B A w' := h.2.2.2.2.2.2.2.2.2
theorem lower_told {w W : World} {r : Rep} {x : Ending} {B : Nat} (hB : B ≤ W.heap.size) (h : OwnToldR W w r x) : ∃ cb cn cc db dn dc sb sn sc eb en ec ab an ac S, x = .returned (.agg (repA cb cn cc db dn dc sb sn sc eb en ec r.eng.base r.next ab an ac)) ∧ RepOwn w B cb cn cc db dn dc sb sn sc eb en ec ab an ac S r ∧ Below W.heap.size W w := by
 obtain ⟨cb, cn, cc, db, dn, dc, sb, sn, sc, eb, en, ec, ab, an, ac, S, e, ho, hb⟩ := h
 exact ⟨cb, cn, cc, db, dn, dc, sb, sn, sc, eb, en, ec, ab, an, ac, S, e, ho.lower hB, hb⟩
structure NowIn (A wx : World) (bn : Nat) (cb : Option Addr) (cn cc : Nat) (db : Option Addr) (dn dc : Nat) (sb : Option Addr) (sn sc : Nat) (eb : Option Addr) (en ec : Nat) (ab : Option Addr) (an ac : Nat) (S : List ESlot) (r : Rep) : Prop where
 le : A.heap.size ≤ bn
 box : Box wx bn (repA cb cn cc db dn dc sb sn sc eb en ec r.eng.base r.next ab an ac) 35
 own : RepOwn wx A.heap.size cb cn cc db dn dc sb sn sc eb en ec ab an ac S r
 below : Below A.heap.size A wx

set_option maxHeartbeats 16000000 in
set_option maxRecDepth 100000 in
theorem comeP_calls {es : List Ent} {m : Nat} {dn : Nat → Bool} {bq : ByteArray → Int} {r : Rep} (h : GoodR es m dn bq r) (e : Ent) (he : RightEnt e) (rv ev : Value) (w0 w : World) (hr : RepIn w rv r) (hev : EntV w ev e) :
   Calls Tryz.prog 7 #[rv, ev] w fun x w' => RepNumAt w0 w w' (comeR r e) x := by
 have HRV := hid hr
 obtain ⟨cb, cn, cc, db, dn', dc, sb, sn, sc, eb, en, ec, ab, an, ac, rfl, hl⟩ := hr
 have HEV := hid hev
 obtain ⟨qb, qn, qc, rfl, hq⟩ := hev
 have HGR := hid h
 have HER := hid he
 have HX0 := hid (Box.new w (repA cb cn cc db dn' dc sb sn sc eb en ec r.eng.base r.next ab an ac) 35)
 have HG0 := hid (grew w (.cells (repA cb cn cc db dn' dc sb sn sc eb en ec r.eng.base r.next ab an ac) 35))
 have HE0 := hid (Box.new (w.alloc (.cells (repA cb cn cc db dn' dc sb sn sc eb en ec r.eng.base r.next ab an ac) 35)) #[.int .i64 e.1, .slice qb qn qc] 26)
 have HG1 := hid (grew (w.alloc (.cells (repA cb cn cc db dn' dc sb sn sc eb en ec r.eng.base r.next ab an ac) 35)) (.cells #[.int .i64 e.1, .slice qb qn qc] 26))
 have HZ0 := hid (Box.new ((w.alloc (.cells (repA cb cn cc db dn' dc sb sn sc eb en ec r.eng.base r.next ab an ac) 35)).alloc (.cells #[.int .i64 e.1, .slice qb qn qc] 26)) nilR 35)
 have HG2 := hid (grew ((w.alloc (.cells (repA cb cn cc db dn' dc sb sn sc eb en ec r.eng.base r.next ab an ac) 35)).alloc (.cells #[.int .i64 e.1, .slice qb qn qc] 26)) (.cells nilR 35))
 rw [World.size_alloc] at HE0 HZ0
 rw [World.size_alloc] at HZ0
 have HXA := hid (HX0.out.below (below_deep HG1.out HG2.out))
 have HEA := hid (HE0.out.below HG2.out)
 have HBA := hid (below_deep HG0.out (below_deep HG1.out HG2.out))
 clear h he hl hq HX0 HE0 HG0 HG1 HG2
 go_enter Tryz.func7, Tryz.ntmps7
 go_upto_region 1 with fail
 generalize ((w.alloc (.cells (repA cb cn cc db dn' dc sb sn sc eb en ec r.eng.base r.next ab an ac) 35)).alloc (.cells #[.int .i64 e.1, .slice qb qn qc] 26)).alloc (.cells nilR 35) = A at *
 have hl0 : w.heap.size < A.heap.size := HXA.out.lt
 have hl1 : w.heap.size + 1 < A.heap.size := HEA.out.lt
 have hz2 : w.heap.size + 1 + 1 < A.heap.size := HZ0.out.lt
 go_cut [6, 7] (fun nv pv wx => ∃ bn cb2 cn2 cc2 db2 dn2 dc2 sb2 sn2 sc2 eb2 en2 ec2 ab2 an2 ac2 S2, nv = .pointer (some ⟨bn, 0, none⟩) ∧ pv = .int .i64 (placeR r e) ∧ Hid (NowIn A wx bn cb2 cn2 cc2 db2 dn2 dc2 sb2 sn2 sc2 eb2 en2 ec2 ab2 an2 ac2 S2 r))
 case first =>
   have B0 := hid (step_drew (Below.refl A.heap.size A))
   obtain ⟨x0, x1, x2, x3, x4, x5, x6⟩ := HXA.out.cells7
   have y0 := HEA.out.cell 0 _ rfl
   have y1 := HEA.out.cell 1 _ rfl
   have PO : Hid (∀ W, Below A.heap.size A W → Calls Tryz.prog 14 #[.agg (repA cb cn cc db dn' dc sb sn sc eb en ec r.eng.base r.next ab an ac)] W fun x w' => ∃ cb2 cn2 cc2 db2 dn2 dc2 sb2 sn2 sc2 eb2 en2 ec2 ab2 an2 ac2 S2, x = .returned (.agg (repA cb2 cn2 cc2 db2 dn2 dc2 sb2 sn2 sc2 eb2 en2 ec2 r.eng.base r.next ab2 an2 ac2)) ∧ RepOwn w' A.heap.size cb2 cn2 cc2 db2 dn2 dc2 sb2 sn2 sc2 eb2 en2 ec2 ab2 an2 ac2 S2 r ∧ Below W.heap.size W w') := fun W hW =>
     (ownR_calls HGR.out _ W (HRV.out.below (below_deep HBA.out hW))).mono fun x w' h => lower_told hW.size h
   have PP : Hid (∀ W, Below A.heap.size A W → Calls Tryz.prog 20 #[.agg (repA cb cn cc db dn' dc sb sn sc eb en ec r.eng.base r.next ab an ac), .agg #[.int .i64 e.1, .slice qb qn qc]] W fun x w' => x = .returned (.int .i64 (placeR r e)) ∧ Below W.heap.size W w') := fun W hW =>
     place_calls HER.out _ _ W (HRV.out.below (below_deep HBA.out hW)) (HEV.out.below (below_deep HBA.out hW))
   generalize placeR r e = pq at *
   have HS0 : Hid ((fun w' => w'.cell? ⟨w.heap.size, 0, none⟩ = some (.slice cb cn cc) ∧ w'.cell? ⟨w.heap.size, 1, none⟩ = some (.slice db dn' dc) ∧ w'.cell? ⟨w.heap.size, 2, none⟩ = some (.slice sb sn sc) ∧ w'.cell? ⟨w.heap.size, 3, none⟩ = some (.slice eb en ec) ∧ w'.cell? ⟨w.heap.size, 4, none⟩ = some (.int .i64 r.eng.base) ∧ w'.cell? ⟨w.heap.size, 5, none⟩ = some (.int .i64 r.next) ∧ w'.cell? ⟨w.heap.size, 6, none⟩ = some (.slice ab an ac) ∧ w'.cell? ⟨w.heap.size + 1, 0, none⟩ = some (.int .i64 e.1) ∧ w'.cell? ⟨w.heap.size + 1, 1, none⟩ = some (.slice qb qn qc) ∧ Below A.heap.size A w') A.drew) :=
     ⟨kept_cell B0.out x0, kept_cell B0.out x1, kept_cell B0.out x2, kept_cell B0.out x3, kept_cell B0.out x4, kept_cell B0.out x5, kept_cell B0.out x6, kept_cell B0.out y0, kept_cell B0.out y1, B0.out⟩
   have HS2 : Hid ((fun w' => w'.cell? ⟨w.heap.size, 0, none⟩ = some (.slice cb cn cc) ∧ w'.cell? ⟨w.heap.size, 1, none⟩ = some (.slice db dn' dc) ∧ w'.cell? ⟨w.heap.size, 2, none⟩ = some (.slice sb sn sc) ∧ w'.cell? ⟨w.heap.size, 3, none⟩ = some (.slice eb en ec) ∧ w'.cell? ⟨w.heap.size, 4, none⟩ = some (.int .i64 r.eng.base) ∧ w'.cell? ⟨w.heap.size, 5, none⟩ = some (.int .i64 r.next) ∧ w'.cell? ⟨w.heap.size, 6, none⟩ = some (.slice ab an ac) ∧ w'.cell? ⟨w.heap.size + 1, 0, none⟩ = some (.int .i64 e.1) ∧ w'.cell? ⟨w.heap.size + 1, 1, none⟩ = some (.slice qb qn qc) ∧ Below A.heap.size A w') A) :=
     ⟨x0, x1, x2, x3, x4, x5, x6, y0, y1, Below.refl _ _⟩
   go_region_held3 (fun w' => w'.cell? ⟨w.heap.size, 0, none⟩ = some (.slice cb cn cc) ∧ w'.cell? ⟨w.heap.size, 1, none⟩ = some (.slice db dn' dc) ∧ w'.cell? ⟨w.heap.size, 2, none⟩ = some (.slice sb sn sc) ∧ w'.cell? ⟨w.heap.size, 3, none⟩ = some (.slice eb en ec) ∧ w'.cell? ⟨w.heap.size, 4, none⟩ = some (.int .i64 r.eng.base) ∧ w'.cell? ⟨w.heap.size, 5, none⟩ = some (.int .i64 r.next) ∧ w'.cell? ⟨w.heap.size, 6, none⟩ = some (.slice ab an ac) ∧ w'.cell? ⟨w.heap.size + 1, 0, none⟩ = some (.int .i64 e.1) ∧ w'.cell? ⟨w.heap.size + 1, 1, none⟩ = some (.slice qb qn qc) ∧ Below A.heap.size A w')
     (first
       | with_reducible exact HS0.out
       | with_reducible exact HS7.out
       | with_reducible exact HS6.out
       | with_reducible exact HS5.out
       | with_reducible exact nin_keep HS6.out (grew _ _)
       | with_reducible exact nin_keep HS5.out (grew _ _)
       | with_reducible exact nin_keep HS2.out ((grew _ _).drew))
     (first
       | (go_at_call 14; refine (PO.out _ ?_).mono ?_; exact nine_held (by assumption); rintro _ w5 ⟨cb2, cn2, cc2, db2, dn2, dc2, sb2, sn2, sc2, eb2, en2, ec2, ab2, an2, ac2, S2, rfl, ho5, hb5⟩; (first | (have hbA : Below A.heap.size A w5 := (by with_reducible exact below_deep B0.out hb5)) | (have hbA : Below A.heap.size A w5 := (by with_reducible exact below_deep ((grew _ _).drew) hb5); have HN5 : Hid (Box w5 A.heap.size nilR 35) := (by with_reducible exact hid ((boxnew_drew A _ _).below hb5)))); have HS5 := hid (nin_keep HS2.out hbA))
       | (go_at_call 20; refine (PP.out _ ?_).mono ?_; exact nine_held (by assumption); rintro _ w6 ⟨rfl, hb6⟩; (first | (have hbB : Below A.heap.size A w6 := (by with_reducible exact below_deep hbA hb6)) | (have hbB : Below A.heap.size A w6 := (by with_reducible exact below_deep (below_deep hbA (grew _ _)) hb6))); have HS6 := hid (nin_keep HS2.out hbB); (first | (have HN6 : Hid (Box w6 A.heap.size nilR 35) := (by with_reducible exact hid (HN5.out.below hb6)); have hz6 : A.heap.size ≤ A.heap.size := Nat.le_refl _) | (have HN6 : Hid (Box w6 w5.heap.size nilR 35) := (by with_reducible exact hid ((Box.new w5 nilR 35).below hb6)); have hz6 : A.heap.size ≤ w5.heap.size := hbA.size) | skip); (first | (have z0 := HN6.out.cells7.1; have z1 := HN6.out.cells7.2.1; have z2 := HN6.out.cells7.2.2.1; have z3 := HN6.out.cells7.2.2.2.1; have z4 := HN6.out.cells7.2.2.2.2.1; have z5 := HN6.out.cells7.2.2.2.2.2.1; have z6 := HN6.out.cells7.2.2.2.2.2.2; have f0 := HN6.out.free 0; have f1 := HN6.out.free 1; have f2 := HN6.out.free 2; have f3 := HN6.out.free 3; have f4 := HN6.out.free 4; have f5 := HN6.out.free 5; have f6 := HN6.out.free 6; have hzl := HN6.out.lt; have HS7 := hid (nin_keep HS2.out (hbB.trans (low_seven hz6 (.slice cb2 cn2 cc2) (.slice db2 dn2 dc2) (.slice sb2 sn2 sc2) (.slice eb2 en2 ec2) (.int .i64 r.eng.base) (.int .i64 r.next) (.slice ab2 an2 ac2))))) | skip)))
   all_goals first
     | (go_wp2; go_meet; with_reducible exact ⟨_, _, _, _, _, _, _, _, _, _, _, _, _, _, _, _, _, rfl, rfl, hid ⟨hbB.size, Box.new _ _ _, (ho5.below hb6).below (grew _ _), step_box hbB _⟩⟩)
     | (go_wp2; go_meet; with_reducible exact ⟨_, _, _, _, _, _, _, _, _, _, _, _, _, _, _, _, _, rfl, rfl, hid ⟨hz6, put7_box HN6.out _ _ _ _ _ _ _, (ho5.below hb6).put HN6.out (put7_off _ _ _ _ _ _ _ _ _), put7_below hbB hz6 _ _ _ _ _ _ _⟩⟩)
     | (go_wp2; go_meet; with_reducible exact ⟨_, _, _, _, _, _, _, _, _, _, _, _, _, _, _, _, _, rfl, rfl, hid ⟨hz6, put7_box HN6.out _ _ _ _ _ _ _, ((ho5.below (grew _ _)).below hb6).put HN6.out (put7_off _ _ _ _ _ _ _ _ _), put7_below hbB hz6 _ _ _ _ _ _ _⟩⟩)
 case rest =>
   obtain ⟨bn, cb2, cn2, cc2, db2, dn2, dc2, sb2, sn2, sc2, eb2, en2, ec2, ab2, an2, ac2, S2, rfl, rfl, HN⟩ := hcut
   have HXB := hid (HEA.out.below HN.out.below)
   have HZB := hid (HZ0.out.below HN.out.below)
   have HBW := hid (below_deep HBA.out HN.out.below)
   have HEVW := hid (HEV.out.below HBW.out)
   clear hl0 hl1 HXA HEA HZ0
   have hn0 : bn < wc.heap.size := HN.out.box.lt
   have hz0 : w.heap.size + 1 + 1 < wc.heap.size := HZB.out.lt
   have hzA : w.heap.size + 1 + 1 ≠ bn := by
     have h1 := HN.out.le
     have h2 := HBA.out.size
     have h3 := hz2
     omega
   have HBZ : Hid (w.heap.size ≤ w.heap.size + 1 + 1) := by show _ ≤ _; omega
   obtain ⟨x0, x1, x2, x3, x4, x5, x6⟩ := HN.out.box.cells7
   obtain ⟨z0, z1, z2, z3, z4, z5, z6⟩ := HZB.out.cells7
   obtain ⟨g0, g1, g2, g3, g4, g5, g6⟩ := HZB.out.free7
   have HAN : Hid (an2 = r.early.length) := HN.out.own.early.len
   have h4 := HGR.out.four
   have ham : an2 ≤ 1000 := by rw [HAN.out]; omega
   cases hh : hadR r e with
   | true =>
     have HP : Hid (placeR r e = 11) := by show _ = _; unfold placeR; rw [hh, if_pos rfl]
     have HC := hid (come_had2 hh)
     rw [HP.out]
     have HBF := hid (put7_box HZB.out (.slice cb2 cn2 cc2) (.slice db2 dn2 dc2) (.slice sb2 sn2 sc2) (.slice eb2 en2 ec2) (.int .i64 r.eng.base) (.int .i64 r.next) (.slice ab2 an2 ac2))
     have HBL := hid (put7_below HBW.out HBZ.out (.slice cb2 cn2 cc2) (.slice db2 dn2 dc2) (.slice sb2 sn2 sc2) (.slice eb2 en2 ec2) (.int .i64 r.eng.base) (.int .i64 r.next) (.slice ab2 an2 ac2))
     have HRL := hid ((HN.out.own.put HZB.out (put7_off wc (w.heap.size + 1 + 1) (.slice cb2 cn2 cc2) (.slice db2 dn2 dc2) (.slice sb2 sn2 sc2) (.slice eb2 en2 ec2) (.int .i64 r.eng.base) (.int .i64 r.next) (.slice ab2 an2 ac2))).parts (w0 := w0))
     clear hh
     go_wp2
     refine bodyPost_ret (comeP_results _ (w.heap.size + 1 + 1) _ rfl rfl HBF.out) rfl ?_
     exact ⟨_, by rw [HC.out], by rw [HC.out]; exact ⟨_, _, _, _, _, _, _, _, _, _, _, _, _, _, _, _, rfl, HRL.out⟩, HBL.out⟩
   | false =>
     have hn : ¬ e.1 < r.next := by
       have := hh
       unfold hadR at this
       simp at this
       omega
     by_cases heq : e.1 = r.next
     · have HP : Hid (placeR r e = 0) := by show _ = _; unfold placeR; rw [hh, if_neg (by decide), if_pos heq]
       obtain ⟨hcat, hcome⟩ := catch_next HGR.out HER.out hh heq
       have HCAT := hid hcat
       have HC := hid hcome
       rw [HP.out]
       have y0 := HXB.out.cell 0 _ rfl
       have y1 := HXB.out.cell 1 _ rfl
       have hy0 : w.heap.size + 1 < wc.heap.size := HXB.out.lt
       have PK := hid (keep_calls (.agg #[.int .i64 e.1, .slice qb qn qc]) wc HN.out.own.early HN.out.below.size ham HEVW.out HER.out)
       clear hh hn heq hcat hcome
       go_wp2_with fail
       refine PK.out.mono ?_
       rintro _ w4 ⟨ab4, ac4, S4, rfl, he4, hk4⟩
       obtain ⟨hbx, hro⟩ := HN.out.own.kept rfl HN.out.box hk4 he4
       have HBX := hid hbx
       have HRO := hid hro
       have HZ4 := hid (((hk4.box _ _ _ (by decide) HZB.out).far ⟨bn, 6, none⟩ hzA (.slice ab4 (an2 + 1) ac4)))
       have HBL4 := hid ((HN.out.below.trans hk4.below).setCell (p := ⟨bn, 6, none⟩) HN.out.le (.slice ab4 (an2 + 1) ac4))
       have q6 := (hk4.box _ _ _ (by decide) HN.out.box).cells7.2.2.2.2.2.2
       have f6 := (hk4.box _ _ _ (by decide) HN.out.box).free 6
       have hq6 : bn < w4.heap.size := (hk4.box _ _ _ (by decide) HN.out.box).lt
       clear PK hbx hro he4 hk4 x0 x1 x2 x3 x4 x5 x6 z0 z1 z2 z3 z4 z5 z6 g0 g1 g2 g3 g4 g5 g6 y0 y1 hy0
       go_upto_region 5 with fail
       generalize w4.setCell ⟨bn, 6, none⟩ (.slice ab4 (an2 + 1) ac4) = W4 at *
       clear q6 f6 hq6 hn0 hz0
       obtain ⟨x0, x1, x2, x3, x4, x5, x6⟩ := HBX.out.cells7
       have hn0 : bn < W4.heap.size := HBX.out.lt
       have PC := hid (catchUp_calls HCAT.out W4 HBL4.out.size HRO.out.eng HRO.out.early)
       go_wp2_with fail
       refine PC.out.mono ?_
       rintro _ w7 ⟨v7, rfl, hv7, hb7⟩
       obtain ⟨cb7, cn7, cc7, db7, dn7, dc7, sb7, sn7, sc7, eb7, en7, ec7, ab7, an7, ac7, S7, rfl, hp7⟩ := hv7 w0
       have HZ7 : Hid (Box w7 (w.heap.size + 1 + 1) nilR 35) := (hb7.block _ hz2).trans HZ4.out
       have HBL7 : Hid (Below w.heap.size w w7) := below_deep HBA.out (HBL4.out.trans hb7)
       have HP7 := hid hp7
       clear hv7 hb7 hp7 PC x0 x1 x2 x3 x4 x5 x6 hn0
       obtain ⟨z0, z1, z2, z3, z4, z5, z6⟩ := HZ7.out.cells7
       obtain ⟨g0, g1, g2, g3, g4, g5, g6⟩ := HZ7.out.free7
       have hz0 : w.heap.size + 1 + 1 < w7.heap.size := HZ7.out.lt
       generalize pullR (r.early ++ [e]).length ⟨r.eng, r.next, r.early ++ [e]⟩ = F at *
       have HBF := hid (put7_box HZ7.out (.slice cb7 cn7 cc7) (.slice db7 dn7 dc7) (.slice sb7 sn7 sc7) (.slice eb7 en7 ec7) (.int .i64 F.eng.base) (.int .i64 F.next) (.slice ab7 an7 ac7))
       have HBL := hid (put7_below HBL7.out HBZ.out (.slice cb7 cn7 cc7) (.slice db7 dn7 dc7) (.slice sb7 sn7 sc7) (.slice eb7 en7 ec7) (.int .i64 F.eng.base) (.int .i64 F.next) (.slice ab7 an7 ac7))
       have HRL := hid (HP7.out.put HZ7.out (put7_off w7 (w.heap.size + 1 + 1) (.slice cb7 cn7 cc7) (.slice db7 dn7 dc7) (.slice sb7 sn7 sc7) (.slice eb7 en7 ec7) (.int .i64 F.eng.base) (.int .i64 F.next) (.slice ab7 an7 ac7)))
       go_wp2
       refine bodyPost_ret (comeP_results _ (w.heap.size + 1 + 1) _ rfl rfl HBF.out) rfl ?_
       exact ⟨_, by rw [HC.out], by rw [HC.out]; exact ⟨_, _, _, _, _, _, _, _, _, _, _, _, _, _, _, _, rfl, HRL.out⟩, HBL.out⟩
     · have hgt : r.next < e.1 := by omega
       by_cases hm : 4 ≤ an2
       · have HP : Hid (placeR r e = 5) := by show _ = _; unfold placeR; rw [hh, if_neg (by decide), if_neg heq, if_pos (by rw [← HAN.out]; exact hm)]
         have HC : Hid (comeR r e = (r, 5)) := by show _ = _; rw [come_early hh hgt, if_pos (by rw [← HAN.out]; exact hm)]
         rw [HP.out]
         have HBF := hid (put7_box HZB.out (.slice cb2 cn2 cc2) (.slice db2 dn2 dc2) (.slice sb2 sn2 sc2) (.slice eb2 en2 ec2) (.int .i64 r.eng.base) (.int .i64 r.next) (.slice ab2 an2 ac2))
         have HBL := hid (put7_below HBW.out HBZ.out (.slice cb2 cn2 cc2) (.slice db2 dn2 dc2) (.slice sb2 sn2 sc2) (.slice eb2 en2 ec2) (.int .i64 r.eng.base) (.int .i64 r.next) (.slice ab2 an2 ac2))
         have HRL := hid ((HN.out.own.put HZB.out (put7_off wc (w.heap.size + 1 + 1) (.slice cb2 cn2 cc2) (.slice db2 dn2 dc2) (.slice sb2 sn2 sc2) (.slice eb2 en2 ec2) (.int .i64 r.eng.base) (.int .i64 r.next) (.slice ab2 an2 ac2))).parts (w0 := w0))
         clear hh hn heq hgt hm
         go_wp2
         refine bodyPost_ret (comeP_results _ (w.heap.size + 1 + 1) _ rfl rfl HBF.out) rfl ?_
         exact ⟨_, by rw [HC.out], by rw [HC.out]; exact ⟨_, _, _, _, _, _, _, _, _, _, _, _, _, _, _, _, rfl, HRL.out⟩, HBL.out⟩
       · have HP : Hid (placeR r e = 12) := by show _ = _; unfold placeR; rw [hh, if_neg (by decide), if_neg heq, if_neg (by rw [← HAN.out]; exact hm)]
         have HC : Hid (comeR r e = (⟨r.eng, r.next, r.early ++ [e]⟩, 12)) := by show _ = _; rw [come_early hh hgt, if_neg (by rw [← HAN.out]; exact hm)]
         rw [HP.out]
         have y0 := HXB.out.cell 0 _ rfl
         have y1 := HXB.out.cell 1 _ rfl
         have hy0 : w.heap.size + 1 < wc.heap.size := HXB.out.lt
         have PK := hid (keep_calls (.agg #[.int .i64 e.1, .slice qb qn qc]) wc HN.out.own.early HN.out.below.size ham HEVW.out HER.out)
         clear hh hn heq hgt hm
         go_wp2_with fail
         refine PK.out.mono ?_
         rintro _ w4 ⟨ab4, ac4, S4, rfl, he4, hk4⟩
         obtain ⟨hbx, hro⟩ := HN.out.own.kept rfl HN.out.box hk4 he4
         have HBX := hid hbx
         have HRO := hid hro
         have HZ4 := hid (((hk4.box _ _ _ (by decide) HZB.out).far ⟨bn, 6, none⟩ hzA (.slice ab4 (an2 + 1) ac4)))
         have HBL4 := hid (below_deep HBA.out ((HN.out.below.trans hk4.below).setCell (p := ⟨bn, 6, none⟩) HN.out.le (.slice ab4 (an2 + 1) ac4)))
         have q6 := (hk4.box _ _ _ (by decide) HN.out.box).cells7.2.2.2.2.2.2
         have f6 := (hk4.box _ _ _ (by decide) HN.out.box).free 6
         have hq6 : bn < w4.heap.size := (hk4.box _ _ _ (by decide) HN.out.box).lt
         clear PK hbx hro he4 hk4 x0 x1 x2 x3 x4 x5 x6 z0 z1 z2 z3 z4 z5 z6 g0 g1 g2 g3 g4 g5 g6 y0 y1 hy0
         go_upto_region 8 with fail
         generalize w4.setCell ⟨bn, 6, none⟩ (.slice ab4 (an2 + 1) ac4) = W4 at *
         clear q6 f6 hq6 hn0 hz0
         obtain ⟨x0, x1, x2, x3, x4, x5, x6⟩ := HBX.out.cells7
         have hn0 : bn < W4.heap.size := HBX.out.lt
         obtain ⟨z0, z1, z2, z3, z4, z5, z6⟩ := HZ4.out.cells7
         obtain ⟨g0, g1, g2, g3, g4, g5, g6⟩ := HZ4.out.free7
         have hz0 : w.heap.size + 1 + 1 < W4.heap.size := HZ4.out.lt
         have HBF := hid (put7_box HZ4.out (.slice cb2 cn2 cc2) (.slice db2 dn2 dc2) (.slice sb2 sn2 sc2) (.slice eb2 en2 ec2) (.int .i64 r.eng.base) (.int .i64 r.next) (.slice ab4 (an2 + 1) ac4))
         have HBL := hid (put7_below HBL4.out HBZ.out (.slice cb2 cn2 cc2) (.slice db2 dn2 dc2) (.slice sb2 sn2 sc2) (.slice eb2 en2 ec2) (.int .i64 r.eng.base) (.int .i64 r.next) (.slice ab4 (an2 + 1) ac4))
         have HRL := hid ((HRO.out.put HZ4.out (put7_off W4 (w.heap.size + 1 + 1) (.slice cb2 cn2 cc2) (.slice db2 dn2 dc2) (.slice sb2 sn2 sc2) (.slice eb2 en2 ec2) (.int .i64 r.eng.base) (.int .i64 r.next) (.slice ab4 (an2 + 1) ac4))).parts (w0 := w0))
         go_wp2
         refine bodyPost_ret (comeP_results _ (w.heap.size + 1 + 1) _ rfl rfl HBF.out) rfl ?_
         exact ⟨_, by rw [HC.out], by rw [HC.out]; exact ⟨_, _, _, _, _, _, _, _, _, _, _, _, _, _, _, _, rfl, HRL.out⟩, HBL.out⟩
end Go.Proofs.YtlhaeeenkgkdaaaGreatDoor

namespace Go.Proofs.YtlhaeeenkgkdaaaGreatDoor
open Go.RowKit

theorem hind_ret {e : Eng} {at_ q : Int} (h : hindE e at_ = q) : Ending.returned (.int .i64 q) = .returned (.int .i64 (hindE e at_)) := by rw [h]

set_option maxHeartbeats 4000000 in
set_option maxRecDepth 100000 in
theorem hindered_calls {r0 : List Row} {D : List Deed3} {m : Nat} {dq : Nat → Bool} {bq : ByteArray → Int} {e : Eng} (G : Good r0 D m dq bq e) (hD : D.length ≤ 1954687338211) (at_ : Int) (v : Value) (w : World) (hv : EngIn w v e) :
   Calls Tryz.prog 64 #[v, .int .i64 at_] w fun x w' => x = .returned (.int .i64 (hindE e at_)) ∧ Below w.heap.size w w' := by
 obtain ⟨cb, cn, cc, db, dn, dc, sb, sn, sc, eb, en, ec, rfl, hl⟩ := hv
 have hle := G.le
 have HG := hid G
 have HDM := hid hD
 have HDL := hid hl.de.len
 have HDN : Hid (dn = D.length - m) := by show _ = _; rw [hl.de.len, G.len]
 have hdn : dn ≤ 1954687338211 := by rw [HDN.out]; omega
 obtain rfl : sn = dn := by rw [Ints.count hl.st, G.slen, ← hl.de.len]
 obtain rfl : en = sn := by rw [Ends.count hl.en, G.elen, ← hl.de.len]
 have HSC := hid (Ints.count hl.st)
 have HBX := hid (Box.new w #[.slice cb cn cc, .slice db en dc, .slice sb en sc, .slice eb en ec, .int .i64 e.base] 33)
 have HB0 := hid (grew w (.cells #[.slice cb cn cc, .slice db en dc, .slice sb en sc, .slice eb en ec, .int .i64 e.base] 33))
 have HL := hid (hl.below HB0.out)
 clear G hD hl hle
 go_enter Tryz.func64, Tryz.ntmps64
 go_upto_region 1 with fail
 generalize w.alloc (.cells #[.slice cb cn cc, .slice db en dc, .slice sb en sc, .slice eb en ec, .int .i64 e.base] 33) = A at *
 obtain ⟨x0, x1, x2, x3, x4⟩ := HBX.out.cells5
 have hxl : w.heap.size < A.heap.size := HBX.out.lt
 by_cases hneg : at_ < 0
 · have HT : Hid (hindE e at_ = 6) := by show _ = _; unfold hindE; rw [if_pos (.inl hneg)]
   have t1 : decide (at_ < 0) = true := by simpa using hneg
   clear hneg
   go_wp2
   go_ret
   exact ⟨hind_ret HT.out, HB0.out⟩
 obtain ⟨p, rfl⟩ : ∃ p : Nat, at_ = (p : Int) := ⟨at_.toNat, by omega⟩
 have t1 : decide ((p : Int) < 0) = false := by simp
 by_cases hbig : en ≤ p
 · have HT : Hid (hindE e p = 6) := by show _ = _; unfold hindE; rw [if_pos (.inr (by rw [← HDL.out]; omega))]
   have t2 : decide ((en : Int) ≤ (p : Int)) = true := by simp; omega
   have t3 : decide (en ≤ p) = true := by simp; omega
   clear hneg
   go_wp2
   go_ret
   exact ⟨hind_ret HT.out, HB0.out⟩
 have t2 : decide ((en : Int) ≤ (p : Int)) = false := by simp; omega
 have t3 : decide (en ≤ p) = false := by simp; omega
 have hpn : p < en := by omega
 have hpi : (p : Int) < (en : Int) := by omega
 have hsp : p < e.state.length := by rw [← HSC.out]; exact hpn
 obtain ⟨b1, o1, rfl, hrun⟩ : ∃ b1 o1, sb = some ⟨b1, o1, none⟩ ∧ Run A b1 o1 (intsC e.state) := by
   rcases HL.out.st.run with h | h
   · omega
   · exact h
 have k0 := hrun p _ (intsC_at hsp)
 have hb1 : b1 < A.heap.size := by simpa using World.block_lt_of_cell? _ _ k0
 have HIN : Hid (¬ ((p : Int) < 0 ∨ (e.deeds.length : Int) ≤ p)) := by show ¬ _; rw [← HDL.out]; omega
 have HTN : Hid ((p : Int).toNat = p) := Int.toNat_natCast p
 have HPD : Hid (m + p < D.length) := by show _ < _; have := HDN.out; have := HG.out.le; omega
 have HSI := hid (HG.out.state_is HPD.out)
 clear hrun hneg hbig hsp
 by_cases hdone : e.state.getD p 0 = 1
 · have HT : Hid (hindE e p = 11) := by show _ = _; unfold hindE; rw [if_neg HIN.out, HTN.out, if_pos hdone]
   rw [hdone] at k0
   clear hdone
   go_wp2
   go_ret
   exact ⟨hind_ret HT.out, HB0.out⟩
 have HND : Hid (¬ e.state.getD p 0 = 1) := hdone
 have h0 : e.state.getD p 0 = 0 := by
   have := HSI.out
   split at this
   · exact absurd this hdone
   · exact this
 rw [h0] at k0
 have PN := hid (planNeeds_calls HG.out HDM.out p HPD.out _ A ⟨_, _, _, _, _, _, _, _, _, _, _, _, rfl, HL.out⟩)
 clear hdone h0
 go_wp2_with fail
 refine PN.out.mono ?_
 rintro x w1 ⟨nb, nn, nc, rfl, hn1, hb1'⟩
 have HB1 := hid (below_deep HB0.out hb1')
 have hnn : nn = (needsE e p).length := by rw [Ints.count hn1]; simp [ints]
 have hnm := Nat.le_trans hn1.hdr.le hn1.hdr.max
 unfold maxLen at hnm
 have HNN := hid hnn
 clear hn1 hb1' PN hnn k0 x0 x1 x2 x3 x4 hxl hb1
 by_cases hw : 0 < nn
 · have hne : needsE e p ≠ [] := fun h => by rw [HNN.out, h] at hw; cases hw
   have HT : Hid (hindE e p = 10) := by show _ = _; unfold hindE; rw [if_neg HIN.out, HTN.out, if_neg HND.out, if_pos hne]
   have t4 : decide (0 < (nn : Int)) = true := by simp; omega
   clear hne
   go_wp2
   go_ret
   exact ⟨hind_ret HT.out, HB1.out⟩
 have hn0 : needsE e p = [] := List.eq_nil_of_length_eq_zero (by rw [← HNN.out]; omega)
 have HT : Hid (hindE e p = 0) := by show _ = _; unfold hindE; rw [if_neg HIN.out, HTN.out, if_neg HND.out, if_neg (by rw [hn0]; simp)]
 obtain rfl : nn = 0 := by omega
 clear hw hn0
 go_wp2
 go_ret
 exact ⟨hind_ret HT.out, HB1.out⟩

set_option maxHeartbeats 8000000 in
set_option maxRecDepth 100000 in
theorem runReady_calls {r0 : List Row} {D : List Deed3} {m : Nat} {dq : Nat → Bool} {bq : ByteArray → Int} {e : Eng} (G : Good r0 D m dq bq e) (hD : D.length ≤ 1954687338211) (v : Value) (w : World) (hv : EngIn w v e) :
   Calls Tryz.prog 27 #[v] w fun x w' => IntsTold w w' (ints (readyE e)) x := by
 obtain ⟨cb, cn, cc, db, dn, dc, sb, sn, sc, eb, en, ec, rfl, hl⟩ := hv
 have HDL := hid hl.de.len
 have hdn : dn ≤ 1954687338211 := by rw [hl.de.len, G.len]; omega
 have HHI := hid (fun (p : Int) v w hv => hindered_calls G hD p v w hv)
 have HBX := hid (Box.new w #[.slice cb cn cc, .slice db dn dc, .slice sb sn sc, .slice eb en ec, .int .i64 e.base] 33)
 have HBA := hid (grew w (.cells #[.slice cb cn cc, .slice db dn dc, .slice sb sn sc, .slice eb en ec, .int .i64 e.base] 33))
 have HL := hid (hl.below HBA.out)
 have HFIN := hid (ready_to G)
 clear G hD hl
 go_enter Tryz.func27, Tryz.ntmps27
 go_wp2
 generalize w.alloc (.cells #[.slice cb cn cc, .slice db dn dc, .slice sb sn sc, .slice eb en ec, .int .i64 e.base] 33) = A at *
 go_loopw [3, 8] (fun ov i wr => ∃ j r : Nat, j ≤ dn ∧ r ≤ j ∧ i = .int .i64 j ∧ Hid ((readyTo e j).length = r) ∧ Hid (wr.ownsRow A.heap.size 3 1 ov r (intsC (ints (readyTo e j)))) ∧ Hid (Below A.heap.size A wr)) (fun _ i _ => dn - (intOf i).toNat)
 case atStart => exact ⟨0, 0, Nat.zero_le _, Nat.le_refl _, rfl, rfl, World.ownsRow_nil _ _ _ _, Below.refl _ _⟩
 case round =>
   obtain ⟨j, r, hj, hr, rfl, HR, HO, HBR⟩ := hrel
   by_cases hlt : j < dn
   · have hi : (j : Int) < (dn : Int) := by omega
     obtain ⟨c0, c1, c2, c3, c4⟩ := (HBX.out.below HBR.out).cells5
     have hlw : w.heap.size < wr.heap.size := (HBX.out.below HBR.out).lt
     have HTS := hid (readyTo_succ e j)
     have HND := hid (HHI.out j _ wr ⟨cb, cn, cc, db, dn, dc, sb, sn, sc, eb, en, ec, rfl, HL.out.below HBR.out⟩)
     generalize readyTo e j = F at *
     generalize hindE e (j : Int) = q at *
     go_wp2_with fail
     refine HND.out.mono ?_
     rintro x w1 ⟨rfl, hb1⟩
     have HB1 := hid (below_deep HBR.out hb1)
     have HO1 := hid (owns_keep HO.out hb1)
     clear hb1 HND c0 c1 c2 c3 c4 hlw
     by_cases h0 : q = 0
     · have HFJ : Hid (readyTo e (j + 1) = F ++ [j]) := by show _ = _; rw [HTS.out, if_pos h0]
       subst h0
       have HC1 := hid (lies_one w1 #[.int .i64 (j : Int)] 3 1 rfl)
       have HOX := hid (HO1.out.alloc (.cells #[.int .i64 (j : Int)] 3))
       have HBX2 := hid (step_box HB1.out (.cells #[.int .i64 (j : Int)] 3))
       have HBY : Hid ((r + 1) * 8 ≤ 140737488355328) := by show _ ≤ _; omega
       have HSZ := hid HBX2.out.size
       go_wp2_with (at_builtin; refine wpList_onto _ rfl _ _ 23 3 1 8 _ Tryz.underlying23 intInfo rfl (by decide) (by decide) rfl A.heap.size _ r _ rfl HOX.out _ 1 _ _ rfl HC1.out (intsC_one [(j : Int)]) HBY.out HSZ.out ?_)
       intro v3 w3 hown3 hg3
       have HB3 := hid (step_row HBX2.out HOX.out hg3)
       have HO3 : Hid (w3.ownsRow A.heap.size 3 1 v3 (r + 1) (intsC (ints (F ++ [j])))) := by
         show World.ownsRow _ _ _ _ _ _ _
         rw [ints_snoc, intsC_append]; exact hown3
       clear hown3 hg3
       go_wp2
       go_roundw
       case rel => exact ⟨j + 1, r + 1, by omega, by omega, by go_num, (by show _ = _; rw [HFJ.out, List.length_append, HR.out]; rfl), (by rw [HFJ.out]; exact HO3), HB3⟩
       case measure => simp [intOf]; omega
     · have t : (q == 0) = false := by simpa using h0
       have HFJ : Hid (readyTo e (j + 1) = F) := by show _ = _; rw [HTS.out, if_neg h0, List.append_nil]
       clear h0
       go_wp2
       go_roundw
       case rel => exact ⟨j + 1, r, by omega, by omega, by go_num, (by show _ = _; rw [HFJ.out]; exact HR.out), (by rw [HFJ.out]; exact HO1), HB1⟩
       case measure => simp [intOf]; omega
   · obtain rfl : j = dn := by omega
     rw [HDL.out, HFIN.out] at HO
     obtain ⟨ob, oc, rfl, hol⟩ := Lies.owned HO.out
     have HOL : Hid (Ints wr ob r oc (ints (readyE e))) := hol
     clear hol
     go_wp2
     go_ret
     exact ⟨_, _, _, rfl, HOL.out, below_deep HBA.out HBR.out⟩
end Go.Proofs.YtlhaeeenkgkdaaaGreatDoor

namespace Go.Proofs.YtlhaeeenkgkdaaaGreatDoor
open Go.RowKit

theorem doBef_in : Entered 80 := fun _ _ => by kernel_rfl
theorem doSees_in : Entered 82 := fun _ _ => by kernel_rfl
theorem doBef_results (tmps : Array Value) (b : Nat) (w : World) {y : Int} {m h : Bool} {x : Int} (h4 : tmps.getD 4 undef = .pointer (some ⟨b, 0, none⟩)) (k : Four w b y m h x) :
   (results Tryz.f80 tmps).run Tryz.prog w = .ok (.agg #[.int .i64 y, .bool m, .bool h, .int .i64 x]) w := by
 have h4' : tmps[4]?.getD undef = .pointer (some ⟨b, 0, none⟩) := by simpa using h4
 simp [results, Tryz.results80, go_sem, h4', k.c0, k.c1, k.c2, k.c3]

set_option maxHeartbeats 2000000 in
set_option maxRecDepth 100000 in
theorem doBef_calls (L : List Chn) (base : Option Addr) (n c : Nat) (k : ByteArray) (by_ : Int) (sb bb : Nat) (w : World) (hf : FitC L) (ha : ChainsIn w base n c L) (h1 : w.cell? ⟨sb, 0, none⟩ = some (.slice base n c)) (h2 : w.cell? ⟨bb, 0, none⟩ = some (.int .i64 by_)) :
   Calls Tryz.prog 80 #[.string k, .pointer (some ⟨sb, 0, none⟩), .pointer (some ⟨bb, 0, none⟩)] w fun x w' => VerTold w w' (before L k by_) x := by
 have HG := hid (grew w (.cells #[.int .i64 0, .bool false, .bool false, .int .i64 0] 78))
 have PB := hid (before_calls L base n c k by_ _ hf (ha.below HG.out))
 have hsb : sb < w.heap.size := by simpa using World.block_lt_of_cell? _ _ h1
 have hbb : bb < w.heap.size := by simpa using World.block_lt_of_cell? _ _ h2
 clear hf ha
 go_enter Tryz.func80, Tryz.ntmps80
 go_wp2_with fail
 refine PB.out.mono ?_
 rintro x w1 ⟨y, mm, hh, n2, hbf, rfl, hb1⟩
 have HBF := hid hbf
 have HFO := hid ((Four.box w 0 false false 0 78).below hb1)
 have hfr := (Free4.box w #[.int .i64 0, .bool false, .bool false, .int .i64 0] 78).below hb1 (by simp)
 obtain ⟨g0, g1, g2, g3⟩ := HFO.out
 obtain ⟨f0, f1, f2, f3⟩ := hfr
 have HB := hid (below_deep HG.out hb1)
 clear hbf hb1 PB
 go_wp2
 (try simp only [Exit.inBlock, Exit.then])
 refine bodyPost_ret (doBef_results _ w.heap.size _ rfl (HFO.out.put _ _ _ _)) rfl ?_
 exact ⟨_, _, _, _, HBF.out, rfl, four_below HB.out (Nat.le_refl _)⟩

theorem sees_ret {v : Ver} {y n : Int} {m h : Bool} (hv : v = (y, m, h, n)) : Ending.returned (.tuple #[.int .i64 n, .bool h]) = .returned (.tuple #[.int .i64 v.n, .bool v.has_]) := by rw [hv]

set_option maxHeartbeats 2000000 in
set_option maxRecDepth 100000 in
theorem doSees_calls (L : List Chn) (base : Option Addr) (n c : Nat) (k : ByteArray) (by_ : Int) (sb bb fb : Nat) (w : World) (hf : FitC L) (ha : ChainsIn w base n c L) (h1 : w.cell? ⟨sb, 0, none⟩ = some (.slice base n c)) (h2 : w.cell? ⟨bb, 0, none⟩ = some (.int .i64 by_))
   (h3 : w.cell? ⟨fb, 0, none⟩ = some (.func (.func 80) #[] #[.pointer (some ⟨sb, 0, none⟩), .pointer (some ⟨bb, 0, none⟩)])) :
   Calls Tryz.prog 82 #[.string k, .pointer (some ⟨fb, 0, none⟩)] w fun x w' => x = .returned (.tuple #[.int .i64 (before L k by_).n, .bool (before L k by_).has_]) ∧ Below w.heap.size w w' := by
 have PB := hid (doBef_calls L base n c k by_ sb bb w hf ha h1 h2)
 have hcf := doBef_in
 unfold Entered at hcf
 have hfb : fb < w.heap.size := by simpa using World.block_lt_of_cell? _ _ h3
 clear hf ha h1 h2
 go_enter Tryz.func82, Tryz.ntmps82
 go_wp2_with fail
 refine PB.out.mono ?_
 rintro x w1 ⟨y, mm, hh, n2, hbf, rfl, hb1⟩
 have HBF := hid hbf
 have HB := hid (below_deep hb1 (grew w1 (.cells #[.int .i64 y, .bool mm, .bool hh, .int .i64 n2] 78)))
 clear hbf hb1 PB
 go_wp2
 go_region
 all_goals
   go_wp2
   go_ret2
   exact ⟨sees_ret HBF.out, below_drewN HB.out _⟩

theorem set_made {r0 : List Row} {D : List Deed3} {m : Nat} {dq : Nat → Bool} {bq : ByteArray → Int} {e : Eng} (G : Good r0 D m dq bq e) {p : Nat} (hp : m + p < D.length) (hn : needsE e p = []) {r : Nat → Int} {mk : Made} {f : Bool} (hx : exec (fun k => num k (seesE e p)) (e.deeds.getD p default).2.2 0 zeroR zeroM = (r, mk, f)) {k : ByteArray} (hk : k ∈ (e.deeds.getD p default).2.1) :
   (∀ j : Nat, j < (keysOf (madeL f mk (e.deeds.getD p default).2.1)).length → (keysOf (madeL f mk (e.deeds.getD p default).2.1)).getD j default = k → ∃ o, ((madeL f mk (e.deeds.getD p default).2.1).getD j default).2 = o ∧ isAt k (doD (seesE e p) (e.deeds.getD p default)) = o.isSome ∧ num k (doD (seesE e p) (e.deeds.getD p default)) = o.getD 0) ∧
   (has (keysOf (madeL f mk (e.deeds.getD p default).2.1)) k = false → (before e.chains k (e.base + p)).made = true ∧ (before e.chains k (e.base + p)).has_ = isAt k (doD (seesE e p) (e.deeds.getD p default)) ∧ (before e.chains k (e.base + p)).n = num k (doD (seesE e p) (e.deeds.getD p default))) := by
 have hs := (sees_is G hp hn).1
 have hd : RightDD (e.deeds.getD p default) := by rw [G.deed]; exact rights_at G.right hp
 have hex : exD (seesE e p) (e.deeds.getD p default) = (r, mk, f) := hx
 refine ⟨fun j hj hjk => ?_, fun hh => ?_⟩
 · rw [keysOf_length] at hj
   rw [keysOf_getD hj] at hjk
   refine ⟨_, rfl, ?_⟩
   exact made_some hs hd hex hj (Prod.ext hjk rfl)
 · obtain ⟨e1, e2⟩ := made_none hs hd hex hk hh
   obtain ⟨b1, b2, b3⟩ := sees_bef G hp hn (k := k) (keysD_mem.2 (.inr hk))
   exact ⟨b1, b2.trans e1.symm, b3.trans e2.symm⟩
theorem run_end {e : Eng} {p : Nat} {r : Nat → Int} {mk : Made} {f : Bool} (hx : exec (fun k => num k (seesE e p)) (e.deeds.getD p default).2.2 0 zeroR zeroM = (r, mk, f)) : endD (seesE e p) (e.deeds.getD p default) = (f, r) := by
 have hex : exD (seesE e p) (e.deeds.getD p default) = (r, mk, f) := hx
 unfold endD
 rw [hex]
theorem num_told {h : Bool} {n : Int} {R : List Row} {k : ByteArray} (h1 : h = isAt k R) (h2 : n = num k R) : (if h = true then n else 0) = num k R := by
 subst h1; subst h2; exact seen_num k R
end Go.Proofs.YtlhaeeenkgkdaaaGreatDoor
