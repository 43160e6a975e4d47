/-
  ReplicaTwice, walked, for whatever Come the program has that does as it should.
-/
import Derived.Test.YtnbekpblmkdnlaaGreatDoorLawRepB
import Derived.Test.YtnbekpblmkdnlaaGreatDoorRepFinds
namespace Go.Proofs.YtnbekpblmkdnlaaGreatDoor
open Go.RowKit

theorem RepParts.now {w0 w : World} {cb db sb eb ab : Option Addr} {cn cc dn dc sn sc en ec an ac : Nat} {S : List ESlot} {r : Rep} (h : RepParts w0 w cb cn cc db dn dc sb sn sc eb en ec ab an ac S r) (h0 : Below w0.heap.size w0 w) : RepParts w w cb cn cc db dn dc sb sn sc eb en ec ab an ac S r :=
 ⟨h.eng, h.row, h.slots.now h0, h.kind⟩
def ComeDoes : Prop := ∀ (es : List Ent) (m : Nat) (dn : Nat → Bool) (bq : ByteArray → Int) (r : Rep), GoodR es m dn bq r → ∀ e : Ent, RightEnt e → ∀ (rv ev : Value) (w0 w : World), Below w0.heap.size w0 w → RepAt w0 w rv r → EntAt w0 w ev e → Calls Tryz.prog 9 #[rv, ev] w fun x w' => RepNumAt w0 w w' (comeR r e) x

set_option maxHeartbeats 16000000 in
set_option maxRecDepth 100000 in
theorem twice_calls (HC : ComeDoes) (L : List Ent) (Pl : List Int) (e : Ent) (lb : Option Addr) (ln lc : Nat) (pb : Option Addr) (pn pc : Nat) (ev : Value) (w : World)
   (hA : ∀ W, Below w.heap.size w W → Calls Tryz.prog 6 #[] W fun x w' => x = .returned (.bool true) ∧ Below W.heap.size W w') (hL : EntsIn w lb ln lc L) (hP : Ints w pb pn pc Pl) (hev : EntV w ev e) :
   Calls Tryz.prog 5 #[.slice lb ln lc, .slice pb pn pc, ev] w fun x w' => x = .returned (.bool true) ∧ Below w.heap.size w w' := by
 obtain ⟨qb, qn, qc, rfl, hq⟩ := hev
 have HEV : Hid (EntV w (.agg #[.int .i64 e.1, .slice qb qn qc]) e) := ⟨qb, qn, qc, rfl, hq⟩
 have HG0 := hid (grew w (.cells #[.int .i64 e.1, .slice qb qn qc] 27))
 have HE0 := hid (Box.new w #[.int .i64 e.1, .slice qb qn qc] 27)
 have PA := hid (hA _ HG0.out)
 have HL := hid hL
 have HP := hid hP
 clear hq hA hL hP
 generalize he : e.1 = ei at *
 clear he
 go_enter Tryz.func5, Tryz.ntmps5
 go_wp2_with fail
 refine PA.out.mono ?_
 rintro x w1 ⟨rfl, hb1⟩
 have HB1 := hid (below_deep HG0.out hb1)
 have HE1 := hid (HE0.out.below hb1)
 have PW := hid (refWrongE_calls e (.agg #[.int .i64 ei, .slice qb qn qc]) w1 (HEV.out.below HB1.out))
 have y0 := HE1.out.cell 0 _ rfl
 have y1 := HE1.out.cell 1 _ rfl
 have hyl : w.heap.size < w1.heap.size := HE1.out.lt
 clear hb1 PA HG0 HE0
 go_wp2_with fail
 refine PW.out.mono ?_
 rintro x w2 ⟨rfl, hb2⟩
 have HB2 := hid (below_deep HB1.out hb2)
 have HE2 := hid (HE1.out.below hb2)
 clear hb2 PW y0 y1 hyl HE1 HB1
 by_cases hw : wrongE e = 0
 · have HRE := hid (wrongE_right.1 hw)
   rw [hw]
   clear hw
   have PB := hid (build10_calls L Pl lb ln lc pb pn pc w2 (HL.out.below HB2.out) (HP.out.below (by decide) HB2.out))
   go_wp2_with fail
   refine PB.out.mono ?_
   rintro x w3 ⟨v3, es, m, dq, bq, r, rfl, hG, ⟨cb3, cn3, cc3, db3, dn3, dc3, sb3, sn3, sc3, eb3, en3, ec3, ab3, an3, ac3, S3, rfl, hp3⟩, hb3⟩
   have HGR := hid hG
   have HG3 := hid (grew w3 (.cells #[.slice cb3 cn3 cc3, .slice db3 dn3 dc3, .slice sb3 sn3 sc3, .slice eb3 en3 ec3, .int .i64 r.eng.base, .int .i64 r.next, .slice ab3 an3 ac3] 35))
   have HX3 := hid (Box.new w3 #[.slice cb3 cn3 cc3, .slice db3 dn3 dc3, .slice sb3 sn3 sc3, .slice eb3 en3 ec3, .int .i64 r.eng.base, .int .i64 r.next, .slice ab3 an3 ac3] 35)
   have HP3 := hid ((hp3.below HG3.out).now (below_deep hb3 HG3.out))
   have HB3 := hid (below_deep HB2.out (below_deep hb3 HG3.out))
   have HE3 := hid (HE2.out.below (below_deep hb3 HG3.out))
   have hr3 : w.heap.size < w3.heap.size := (HE2.out.below hb3).lt
   clear hb3 hp3 PB HG3 HE2 HB2 hG
   go_upto_region 6 with fail
   generalize w3.alloc (.cells #[.slice cb3 cn3 cc3, .slice db3 dn3 dc3, .slice sb3 sn3 sc3, .slice eb3 en3 ec3, .int .i64 r.eng.base, .int .i64 r.next, .slice ab3 an3 ac3] 35) = A3 at *
   generalize w3.heap.size = b3 at *
   have PC := hid (HC es m dq bq r HGR.out e HRE.out (.agg #[.slice cb3 cn3 cc3, .slice db3 dn3 dc3, .slice sb3 sn3 sc3, .slice eb3 en3 ec3, .int .i64 r.eng.base, .int .i64 r.next, .slice ab3 an3 ac3]) (.agg #[.int .i64 ei, .slice qb qn qc]) A3 A3 (Below.refl _ _) ⟨_, _, _, _, _, _, _, _, _, _, _, _, _, _, _, _, rfl, HP3.out⟩ (HEV.out.below HB3.out).at)
   obtain ⟨x0, x1, x2, x3, x4, x5, x6⟩ := HX3.out.cells7
   have y0 := HE3.out.cell 0 _ rfl
   have y1 := HE3.out.cell 1 _ rfl
   have hxl : b3 < A3.heap.size := HX3.out.lt
   have hyl : w.heap.size < A3.heap.size := HE3.out.lt
   obtain ⟨more, -, hcg, -⟩ := come_good HGR.out HRE.out
   have HTW : Hid (((comeR r e).2 = 5 ∧ (comeR r e).1 = r ∧ (comeR (comeR r e).1 e).1 = r ∧ (comeR (comeR r e).1 e).2 = 5) ∨ ((comeR r e).2 ≠ 5 ∧ (comeR (comeR r e).1 e).1 = (comeR r e).1 ∧ (comeR (comeR r e).1 e).2 = 11 ∧ ((comeR r e).2 = 11 → (comeR r e).1 = r))) := by
     obtain ⟨t1, t2, t3⟩ := come_twice r e
     by_cases h5 : (comeR r e).2 = 5
     · exact .inl ⟨h5, t1 h5, by rw [t1 h5]; exact t1 h5, by rw [t1 h5]; exact h5⟩
     · exact .inr ⟨h5, by rw [t2 h5], by rw [t2 h5], t3⟩
   have HCG := hid hcg
   clear hcg
   go_wp2_with fail
   refine PC.out.mono ?_
   rintro x w4 ⟨v4, rfl, ⟨cb4, cn4, cc4, db4, dn4, dc4, sb4, sn4, sc4, eb4, en4, ec4, ab4, an4, ac4, S4, rfl, hp4⟩, hb4⟩
   generalize (comeR r e).1 = r1 at *
   generalize (comeR r e).2 = q1 at *
   have HG4 := hid (grew w4 (.cells #[.slice cb4 cn4 cc4, .slice db4 dn4 dc4, .slice sb4 sn4 sc4, .slice eb4 en4 ec4, .int .i64 r1.eng.base, .int .i64 r1.next, .slice ab4 an4 ac4] 35))
   have HX4 := hid (Box.new w4 #[.slice cb4 cn4 cc4, .slice db4 dn4 dc4, .slice sb4 sn4 sc4, .slice eb4 en4 ec4, .int .i64 r1.eng.base, .int .i64 r1.next, .slice ab4 an4 ac4] 35)
   have HP4 := hid ((hp4.below HG4.out).now (below_deep hb4 HG4.out))
   have HBB := hid (below_deep hb4 HG4.out)
   have HB4 := hid (below_deep HB3.out HBB.out)
   have HE4 := hid (HE3.out.below HBB.out)
   have HX34 := hid (HX3.out.below HBB.out)
   have HP34 := hid ((HP3.out.below HBB.out).now HBB.out)
   have hr4 : b3 < w4.heap.size := (HX3.out.below hb4).lt
   have hr5 : w.heap.size < w4.heap.size := (HE3.out.below hb4).lt
   clear hb4 hp4 PC HG4 HE3 HB3 HBB HX3 HP3 x0 x1 x2 x3 x4 x5 x6 y0 y1 hxl hyl
   go_upto_region 7 with fail
   generalize w4.alloc (.cells #[.slice cb4 cn4 cc4, .slice db4 dn4 dc4, .slice sb4 sn4 sc4, .slice eb4 en4 ec4, .int .i64 r1.eng.base, .int .i64 r1.next, .slice ab4 an4 ac4] 35) = A4 at *
   generalize w4.heap.size = b4 at *
   have PC := hid (HC _ m dq bq r1 HCG.out e HRE.out (.agg #[.slice cb4 cn4 cc4, .slice db4 dn4 dc4, .slice sb4 sn4 sc4, .slice eb4 en4 ec4, .int .i64 r1.eng.base, .int .i64 r1.next, .slice ab4 an4 ac4]) (.agg #[.int .i64 ei, .slice qb qn qc]) A4 A4 (Below.refl _ _) ⟨_, _, _, _, _, _, _, _, _, _, _, _, _, _, _, _, rfl, HP4.out⟩ (HEV.out.below HB4.out).at)
   obtain ⟨x0, x1, x2, x3, x4, x5, x6⟩ := HX4.out.cells7
   have y0 := HE4.out.cell 0 _ rfl
   have y1 := HE4.out.cell 1 _ rfl
   have hxl : b4 < A4.heap.size := HX4.out.lt
   have hyl : w.heap.size < A4.heap.size := HE4.out.lt
   go_wp2_with fail
   refine PC.out.mono ?_
   rintro x w5 ⟨v5, rfl, ⟨cb5, cn5, cc5, db5, dn5, dc5, sb5, sn5, sc5, eb5, en5, ec5, ab5, an5, ac5, S5, rfl, hp5⟩, hb5⟩
   have HG5 := hid (grew w5 (.cells #[.slice cb5 cn5 cc5, .slice db5 dn5 dc5, .slice sb5 sn5 sc5, .slice eb5 en5 ec5, .int .i64 (comeR r1 e).1.eng.base, .int .i64 (comeR r1 e).1.next, .slice ab5 an5 ac5] 35))
   have HX5 := hid (Box.new w5 #[.slice cb5 cn5 cc5, .slice db5 dn5 dc5, .slice sb5 sn5 sc5, .slice eb5 en5 ec5, .int .i64 (comeR r1 e).1.eng.base, .int .i64 (comeR r1 e).1.next, .slice ab5 an5 ac5] 35)
   have HP5 := hid ((hp5.below HG5.out).now (below_deep hb5 HG5.out))
   have HBB := hid (below_deep hb5 HG5.out)
   have HB5 := hid (below_deep HB4.out HBB.out)
   have HX45 := hid (HX4.out.below HBB.out)
   have HX35 := hid (HX34.out.below HBB.out)
   have HP45 := hid ((HP4.out.below HBB.out).now HBB.out)
   have HP35 := hid ((HP34.out.below HBB.out).now HBB.out)
   have hr6 : b4 < w5.heap.size := (HX4.out.below hb5).lt
   have hr7 : b3 < w5.heap.size := (HX34.out.below hb5).lt
   clear hb5 hp5 PC HG5 HE4 HB4 HBB HX4 HX34 HP4 HP34 x0 x1 x2 x3 x4 x5 x6 y0 y1 hxl hyl
   go_upto_region 8 with fail
   generalize w5.alloc (.cells #[.slice cb5 cn5 cc5, .slice db5 dn5 dc5, .slice sb5 sn5 sc5, .slice eb5 en5 ec5, .int .i64 (comeR r1 e).1.eng.base, .int .i64 (comeR r1 e).1.next, .slice ab5 an5 ac5] 35) = A5 at *
   generalize w5.heap.size = b5 at *
   generalize (comeR r1 e).1 = r2 at *
   generalize (comeR r1 e).2 = q2 at *
   have HR0 := hid (Below.refl A5.heap.size A5)
   rcases HTW.out with ⟨rfl, rfl, rfl, rfl⟩ | ⟨h5, rfl, rfl, h11⟩
   · have PS := hid (sameRep_calls r2 (.agg #[.slice cb4 cn4 cc4, .slice db4 dn4 dc4, .slice sb4 sn4 sc4, .slice eb4 en4 ec4, .int .i64 r2.eng.base, .int .i64 r2.next, .slice ab4 an4 ac4]) (.agg #[.slice cb3 cn3 cc3, .slice db3 dn3 dc3, .slice sb3 sn3 sc3, .slice eb3 en3 ec3, .int .i64 r2.eng.base, .int .i64 r2.next, .slice ab3 an3 ac3]) A5 ⟨_, _, _, _, _, _, _, _, _, _, _, _, _, _, _, rfl, HP45.out.lies HR0.out⟩ ⟨_, _, _, _, _, _, _, _, _, _, _, _, _, _, _, rfl, HP35.out.lies HR0.out⟩)
     obtain ⟨x0, x1, x2, x3, x4, x5, x6⟩ := HX45.out.cells7
     obtain ⟨y0, y1, y2, y3, y4, y5, y6⟩ := HX35.out.cells7
     have hxl : b4 < A5.heap.size := HX45.out.lt
     have hyl : b3 < A5.heap.size := HX35.out.lt
     go_wp2_with fail
     refine PS.out.mono ?_
     rintro x w6 ⟨rfl, hb6⟩
     have HB6 := hid hb6
     have PS := hid (sameRep_calls r2 (.agg #[.slice cb5 cn5 cc5, .slice db5 dn5 dc5, .slice sb5 sn5 sc5, .slice eb5 en5 ec5, .int .i64 r2.eng.base, .int .i64 r2.next, .slice ab5 an5 ac5]) (.agg #[.slice cb3 cn3 cc3, .slice db3 dn3 dc3, .slice sb3 sn3 sc3, .slice eb3 en3 ec3, .int .i64 r2.eng.base, .int .i64 r2.next, .slice ab3 an3 ac3]) w6 ⟨_, _, _, _, _, _, _, _, _, _, _, _, _, _, _, rfl, (HP5.out.lies HR0.out).below HB6.out⟩ ⟨_, _, _, _, _, _, _, _, _, _, _, _, _, _, _, rfl, (HP35.out.lies HR0.out).below HB6.out⟩)
     obtain ⟨x0, x1, x2, x3, x4, x5, x6⟩ := (HX5.out.below hb6).cells7
     obtain ⟨y0, y1, y2, y3, y4, y5, y6⟩ := (HX35.out.below hb6).cells7
     have hxl : b5 < w6.heap.size := (HX5.out.below hb6).lt
     have hyl : b3 < w6.heap.size := (HX35.out.below hb6).lt
     clear hb6
     go_wp2_with fail
     refine PS.out.mono ?_
     rintro x w7 ⟨rfl, hb7⟩
     have HB7 := hid (below_deep HB5.out (below_deep HB6.out hb7))
     clear hb7 PS
     go_wp2
     go_ret
     exact ⟨rfl, HB7.out⟩
   · have t5 : (q1 == 5) = false := by simpa using h5
     have PS := hid (sameRep_calls r2 (.agg #[.slice cb4 cn4 cc4, .slice db4 dn4 dc4, .slice sb4 sn4 sc4, .slice eb4 en4 ec4, .int .i64 r2.eng.base, .int .i64 r2.next, .slice ab4 an4 ac4]) (.agg #[.slice cb5 cn5 cc5, .slice db5 dn5 dc5, .slice sb5 sn5 sc5, .slice eb5 en5 ec5, .int .i64 r2.eng.base, .int .i64 r2.next, .slice ab5 an5 ac5]) A5 ⟨_, _, _, _, _, _, _, _, _, _, _, _, _, _, _, rfl, HP45.out.lies HR0.out⟩ ⟨_, _, _, _, _, _, _, _, _, _, _, _, _, _, _, rfl, HP5.out.lies HR0.out⟩)
     obtain ⟨x0, x1, x2, x3, x4, x5, x6⟩ := HX45.out.cells7
     obtain ⟨y0, y1, y2, y3, y4, y5, y6⟩ := HX5.out.cells7
     have hxl : b4 < A5.heap.size := HX45.out.lt
     have hyl : b5 < A5.heap.size := HX5.out.lt
     by_cases h1 : q1 = 11
     · obtain rfl := h11 h1
       subst h1
       go_wp2_with fail
       refine PS.out.mono ?_
       rintro x w6 ⟨rfl, hb6⟩
       have HB6 := hid hb6
       have PS := hid (sameRep_calls r2 (.agg #[.slice cb4 cn4 cc4, .slice db4 dn4 dc4, .slice sb4 sn4 sc4, .slice eb4 en4 ec4, .int .i64 r2.eng.base, .int .i64 r2.next, .slice ab4 an4 ac4]) (.agg #[.slice cb3 cn3 cc3, .slice db3 dn3 dc3, .slice sb3 sn3 sc3, .slice eb3 en3 ec3, .int .i64 r2.eng.base, .int .i64 r2.next, .slice ab3 an3 ac3]) w6 ⟨_, _, _, _, _, _, _, _, _, _, _, _, _, _, _, rfl, (HP45.out.lies HR0.out).below HB6.out⟩ ⟨_, _, _, _, _, _, _, _, _, _, _, _, _, _, _, rfl, (HP35.out.lies HR0.out).below HB6.out⟩)
       obtain ⟨x0, x1, x2, x3, x4, x5, x6⟩ := (HX45.out.below hb6).cells7
       obtain ⟨y0, y1, y2, y3, y4, y5, y6⟩ := (HX35.out.below hb6).cells7
       have hxl : b4 < w6.heap.size := (HX45.out.below hb6).lt
       have hyl : b3 < w6.heap.size := (HX35.out.below hb6).lt
       clear hb6
       go_wp2_with fail
       refine PS.out.mono ?_
       rintro x w7 ⟨rfl, hb7⟩
       have HB7 := hid (below_deep HB5.out (below_deep HB6.out hb7))
       clear hb7 PS
       go_wp2
       go_ret
       exact ⟨rfl, HB7.out⟩
     · have t11 : (q1 == 11) = false := by simpa using h1
       go_wp2_with fail
       refine PS.out.mono ?_
       rintro x w6 ⟨rfl, hb6⟩
       have HB6 := hid (below_deep HB5.out hb6)
       clear hb6 PS
       go_wp2
       go_ret
       exact ⟨rfl, HB6.out⟩
 · have t : (wrongE e == 0) = false := by simpa using hw
   go_wp2
   go_ret
   exact ⟨rfl, HB2.out⟩
end Go.Proofs.YtnbekpblmkdnlaaGreatDoor
