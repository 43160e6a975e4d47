/-
  The document's own Seen and Finish of engines, walked.
-/
import Derived.Test.YtnbekpblmkdnlaaGreatDoorRepFinds
import Derived.Test.YtnbekpblmkdnlaaGreatDoorRepRest
import Derived.Test.YtnbekpblmkdnlaaGreatDoorRefGoE
import Derived.Test.YtnbekpblmkdnlaaGreatDoorRefNeeds
import Derived.Deep.LoopGhost
namespace Go.Proofs.YtnbekpblmkdnlaaGreatDoor
open Go.RowKit

theorem refFin_results (tmps : Array Value) (b : Nat) (w : World) {a0 a1 a2 a3 : Option Addr} {n0 n1 n2 n3 c0 c1 c2 c3 : Nat} {z : Int} (h : tmps.getD 2 undef = .pointer (some ⟨b, 0, none⟩)) (hb : Box w b #[.slice a0 n0 c0, .slice a1 n1 c1, .slice a2 n2 c2, .slice a3 n3 c3, .int .i64 z] 33) :
   (results Tryz.f15 tmps).run Tryz.prog w = .ok (.agg #[.slice a0 n0 c0, .slice a1 n1 c1, .slice a2 n2 c2, .slice a3 n3 c3, .int .i64 z]) w := by
 have h' : tmps[2]?.getD undef = .pointer (some ⟨b, 0, none⟩) := by simpa using h
 obtain ⟨k0, k1, k2, k3, k4⟩ := hb.cells5
 simp [results, Tryz.results15, go_sem, h', k0, k1, k2, k3, k4]
theorem goTo_at {e : Eng} {p : Nat} (h : p ∈ readyE e) : goTo e p = (goE e p, 0) := by
 have h1 := ready_lt h
 have h2 := ready_needs h
 have h3 := (List.mem_filter.1 h).2
 simp only [Bool.and_eq_true, decide_eq_true_eq] at h3
 unfold goTo
 rw [if_neg (by omega), Int.toNat_natCast, h3.1, if_neg (by decide), if_neg (by rw [h2]; simp)]

set_option maxHeartbeats 8000000 in
set_option maxRecDepth 100000 in
theorem refFin_calls {r0 : List Row} {D : List Deed3} {m : Nat} {dq : Nat → Bool} {bq : ByteArray → Int} {e : Eng} (G : Good r0 D m dq bq e) (hD : D.length ≤ 1954687338211) (v : Value) (w : World) (hv : EngIn w v e) :
   Calls Tryz.prog 15 #[v] w fun x w' => ∃ (y : Eng) (dn : Nat → Bool), Good r0 D m dn bq y ∧ (∀ i, m ≤ i → i < D.length → dn i = true) ∧ EngTold w w' y x := by
 obtain ⟨cb, cn, cc, db, dn, dc, sb, sn, sc, eb, en, ec, rfl, hl⟩ := hv
 have HG := hid G
 have HDM := hid hD
 have HBX := hid (Box.new w #[.slice cb cn cc, .slice db dn dc, .slice sb sn sc, .slice eb en ec, .int .i64 e.base] 33)
 have HB0 := hid (grew w (.cells #[.slice cb cn cc, .slice db dn dc, .slice sb sn sc, .slice eb en ec, .int .i64 e.base] 33))
 have HBZ := hid (Box.new (w.alloc (.cells #[.slice cb cn cc, .slice db dn dc, .slice sb sn sc, .slice eb en ec, .int .i64 e.base] 33)) #[.slice none 0 0, .slice none 0 0, .slice none 0 0, .slice none 0 0, .int .i64 0] 33)
 have HB1 := hid (grew (w.alloc (.cells #[.slice cb cn cc, .slice db dn dc, .slice sb sn sc, .slice eb en ec, .int .i64 e.base] 33)) (.cells #[.slice none 0 0, .slice none 0 0, .slice none 0 0, .slice none 0 0, .int .i64 0] 33))
 rw [World.size_alloc] at HBZ
 have HX := hid (HBX.out.below HB1.out)
 have HBW := hid (below_deep HB0.out HB1.out)
 have HL := hid (hl.below HBW.out)
 clear G hD hl HBX HB0 HB1
 go_enter Tryz.func15, Tryz.ntmps15
 go_upto_region 1 with fail
 generalize (w.alloc (.cells #[.slice cb cn cc, .slice db dn dc, .slice sb sn sc, .slice eb en ec, .int .i64 e.base] 33)).alloc (.cells #[.slice none 0 0, .slice none 0 0, .slice none 0 0, .slice none 0 0, .int .i64 0] 33) = A at *
 go_loopg [3] (waitN dq m (D.length - m)) (fun k _ wr => ∃ (ej : Eng) (dj : Nat → Bool) (cb3 : Option Addr) (cn3 cc3 : Nat) (db3 : Option Addr) (dn3 dc3 : Nat) (sb3 : Option Addr) (sn3 sc3 : Nat) (eb3 : Option Addr) (en3 ec3 : Nat), Hid (Good r0 D m dj bq ej) ∧ Hid (waitN dj m (D.length - m) ≤ k) ∧ Hid (Box wr w.heap.size #[.slice cb3 cn3 cc3, .slice db3 dn3 dc3, .slice sb3 sn3 sc3, .slice eb3 en3 ec3, .int .i64 ej.base] 33) ∧ Hid (EngLies wr cb3 cn3 cc3 db3 dn3 dc3 sb3 sn3 sc3 eb3 en3 ec3 ej) ∧ Hid (Box wr (w.heap.size + 1) #[.slice none 0 0, .slice none 0 0, .slice none 0 0, .slice none 0 0, .int .i64 0] 33) ∧ Hid (Below w.heap.size w wr))
 case atStart => exact ⟨e, dq, cb, cn, cc, db, dn, dc, sb, sn, sc, eb, en, ec, HG, Nat.le_refl _, HX, HL, HBZ, HBW⟩
 case round =>
   obtain ⟨ej, dj, cb3, cn3, cc3, db3, dn3, dc3, sb3, sn3, sc3, eb3, en3, ec3, HGJ, HWK, HXR, HLR, HZR, HBR⟩ := hrel
   obtain ⟨x0, x1, x2, x3, x4⟩ := HXR.out.cells5
   have hxl : w.heap.size < wr.heap.size := HXR.out.lt
   have PR := hid (refReady_calls HGJ.out HDM.out _ wr ⟨_, _, _, _, _, _, _, _, _, _, _, _, rfl, HLR.out⟩)
   go_wp2_with fail
   refine PR.out.mono ?_
   rintro x w4 ⟨rb, rn, rc, rfl, h4, hb4⟩
   have HR4 := hid h4
   have HRN : Hid (rn = (readyE ej).length) := by
     have := Ints.count h4
     rw [ints, List.length_map] at this
     exact this
   have hrm := Nat.le_trans h4.hdr.le h4.hdr.max
   unfold maxLen at hrm
   have HX4 := hid (HXR.out.below hb4)
   have HL4 := hid (HLR.out.below hb4)
   have HZ4 := hid (HZR.out.below hb4)
   have HB4 := hid (below_deep HBR.out hb4)
   clear h4 hb4 PR x0 x1 x2 x3 x4 hxl HXR HLR HZR HBR
   by_cases h0 : rn = 0
   · subst h0
     have HNO : Hid (readyE ej = []) := List.eq_nil_of_length_eq_zero HRN.out.symm
     obtain ⟨x0, x1, x2, x3, x4⟩ := HX4.out.cells5
     obtain ⟨z0, z1, z2, z3, z4⟩ := HZ4.out.cells5
     obtain ⟨f0, f1, f2, f3, f4⟩ := HZ4.out.free5
     have hxl : w.heap.size < w4.heap.size := HX4.out.lt
     have hzl : w.heap.size + 1 < w4.heap.size := HZ4.out.lt
     have HBF := hid (put5_box HZ4.out (.slice cb3 cn3 cc3) (.slice db3 dn3 dc3) (.slice sb3 sn3 sc3) (.slice eb3 en3 ec3) (.int .i64 ej.base))
     have HEF := hid (HL4.out.put HZ4.out (put5_off w4 (w.heap.size + 1) (.slice cb3 cn3 cc3) (.slice db3 dn3 dc3) (.slice sb3 sn3 sc3) (.slice eb3 en3 ec3) (.int .i64 ej.base)))
     have HBL := hid (put5_below HB4.out (Nat.le_succ _) (.slice cb3 cn3 cc3) (.slice db3 dn3 dc3) (.slice sb3 sn3 sc3) (.slice eb3 en3 ec3) (.int .i64 ej.base))
     unfold put5 at HBF HEF HBL
     go_wp2
     (try simp only [Exit.inBlock, Exit.then])
     refine bodyPost_ret (refFin_results _ (w.heap.size + 1) _ rfl HBF.out) rfl ?_
     exact ⟨ej, dj, HGJ.out, none_ready HGJ.out HNO.out, _, rfl, ⟨_, _, _, _, _, _, _, _, _, _, _, _, rfl, HEF.out⟩, HBL.out⟩
   · have hr0 : 0 < rn := by omega
     have hri : (0 : Int) < (rn : Int) := by omega
     obtain ⟨b1, o1, rfl, hr⟩ : ∃ b1 o1, rb = some ⟨b1, o1, none⟩ ∧ Run w4 b1 o1 (intsC (ints (readyE ej))) := by
       rcases HR4.out.run with h | h
       · omega
       · exact h
     have hj' : 0 < (readyE ej).length := by rw [← HRN.out]; exact hr0
     have HRP : Hid ((readyE ej).getD 0 0 ∈ readyE ej) := by show _ ∈ _; simp [List.getD, hj']
     have k0 := hr 0 _ (intsC_at (by rw [ints, List.length_map]; exact hj'))
     rw [Nat.add_zero, show (ints (readyE ej)).getD 0 0 = ((readyE ej).getD 0 0 : Int) from by simp [ints, List.getD, hj']] at k0
     have hb1 : b1 < w4.heap.size := by simpa using World.block_lt_of_cell? _ _ k0
     generalize (readyE ej).getD 0 0 = p at *
     have HGT := hid (goTo_at HRP.out)
     have PG := hid (fun W hv => refGoE_calls HGJ.out HDM.out (p : Int) (.agg #[.slice cb3 cn3 cc3, .slice db3 dn3 dc3, .slice sb3 sn3 sc3, .slice eb3 en3 ec3, .int .i64 ej.base]) W hv)
     unfold GoTold at PG
     rw [HGT.out] at PG
     obtain ⟨x0, x1, x2, x3, x4⟩ := HX4.out.cells5
     have hxl : w.heap.size < w4.heap.size := HX4.out.lt
     have HRA := hid (ready_at HGJ.out HRP.out)
     have HGN := hid (HGJ.out.go HRA.out.1 (ready_needs HRP.out))
     have HWG := hid (wait_go (dn := dj) (m := m) (n := D.length - m) (p := p) (by have := HRA.out.1; omega) HRA.out.2)
     have HD4 := hid (step_drew (Below.refl w4.heap.size w4))
     clear hr hj'
     go_wp2
     go_region_with ((go_at_call 28; refine (PG.out _ ⟨_, _, _, _, _, _, _, _, _, _, _, _, rfl, HL4.out.below HD4.out⟩).mono ?_; rintro _ w5 ⟨v5, rfl, hv5, hb5⟩; obtain ⟨cb5, cn5, cc5, db5, dn5, dc5, sb5, sn5, sc5, eb5, en5, ec5, rfl, hl5⟩ := hv5; have HX5 := hid ((HX4.out.below HD4.out).below hb5); obtain ⟨g0, g1, g2, g3, g4⟩ := HX5.out.cells5; obtain ⟨f0, f1, f2, f3, f4⟩ := HX5.out.free5; have hxl5 : w.heap.size < w5.heap.size := HX5.out.lt))
     all_goals
       have HZ5 := hid ((HZ4.out.below HD4.out).below hb5)
       have HXF := hid (put5_box HX5.out (.slice cb5 cn5 cc5) (.slice db5 dn5 dc5) (.slice sb5 sn5 sc5) (.slice eb5 en5 ec5) (.int .i64 (goE ej p).base))
       have HLF := hid (hl5.put HX5.out (put5_off w5 w.heap.size (.slice cb5 cn5 cc5) (.slice db5 dn5 dc5) (.slice sb5 sn5 sc5) (.slice eb5 en5 ec5) (.int .i64 (goE ej p).base)))
       have HZF := hid (put5_far (b := w.heap.size) HZ5.out (Nat.succ_ne_self _) (.slice cb5 cn5 cc5) (.slice db5 dn5 dc5) (.slice sb5 sn5 sc5) (.slice eb5 en5 ec5) (.int .i64 (goE ej p).base))
       have HBF := hid (put5_below (below_deep (below_deep HB4.out HD4.out) hb5) (Nat.le_refl _) (.slice cb5 cn5 cc5) (.slice db5 dn5 dc5) (.slice sb5 sn5 sc5) (.slice eb5 en5 ec5) (.int .i64 (goE ej p).base))
       unfold put5 at HXF HLF HZF HBF
       clear hl5 hb5 PG x0 x1 x2 x3 x4 hxl k0 hb1 HX4 HL4 HZ4 HB4 HX5 HZ5
       go_wp2
       go_roundg (waitN (doneNow dj (m + p)) m (D.length - m))
       case rel => exact ⟨goE ej p, _, cb5, cn5, cc5, db5, dn5, dc5, sb5, sn5, sc5, eb5, en5, ec5, HGN, Nat.le_refl _, HXF, HLF, HZF, HBF⟩
       case measure => have h1 := HWG.out; have h2 := HWK.out; omega
end Go.Proofs.YtnbekpblmkdnlaaGreatDoor
