/-
  The walk of the statement ReplicaClear: the call returns true and changes nothing that was there.
-/
import Derived.Test.YtnbekpblmkdnlaaGreatDoorRunDo
import Derived.Test.YtnbekpblmkdnlaaGreatDoorRepRest
import Derived.Test.YtnbekpblmkdnlaaGreatDoorRepHold
import Derived.Deep.DeepCutAuto
import Derived.Test.YtnbekpblmkdnlaaGreatDoorLawRepB
import Derived.Test.YtnbekpblmkdnlaaGreatDoorRepSeen
import Derived.Test.YtnbekpblmkdnlaaGreatDoorRefFin
import Derived.Test.YtnbekpblmkdnlaaGreatDoorLawTells
namespace Go.Proofs.YtnbekpblmkdnlaaGreatDoor
open Go.RowKit

structure FinTwo (w0 A wx : World) (b c : Nat) (D : List Deed3) (nx : Int) : Prop where
 ex : ∃ y z m m' dn dn' bq bq' ea ea', HoldR w0 wx b ⟨y, nx, ea⟩ ∧ HoldR w0 wx c ⟨z, nx, ea'⟩ ∧ Good [] D m dn bq y ∧ Good [] D m' dn' bq' z ∧ (∀ i, m ≤ i → i < D.length → dn i = true) ∧ (∀ i, m' ≤ i → i < D.length → dn' i = true)
 below : Below A.heap.size A wx

theorem fin_two {w A W : World} {b c : Nat} {ra xa : Rep} (hb : HoldR w A b ra) (hc : HoldR w A c xa) (hne : b ≠ c) (hwA : Below w.heap.size w A) (hlb : w.heap.size ≤ b) (hlc : w.heap.size ≤ c) (hW : Below A.heap.size A W) {y z : Eng} {D : List Deed3} {m m' : Nat} {dn dn' : Nat → Bool} {bq bq' : ByteArray → Int}
   {cb2 db2 sb2 eb2 : Option Addr} {cn2 cc2 dn2 dc2 sn2 sc2 en2 ec2 : Nat} (hy : EngLies W cb2 cn2 cc2 db2 dn2 dc2 sb2 sn2 sc2 eb2 en2 ec2 y)
   {cb3 db3 sb3 eb3 : Option Addr} {cn3 cc3 dn3 dc3 sn3 sc3 en3 ec3 : Nat} (hz : EngLies W cb3 cn3 cc3 db3 dn3 dc3 sb3 sn3 sc3 eb3 en3 ec3 z)
   (gy : Good [] D m dn bq y) (gz : Good [] D m' dn' bq' z) (dy : ∀ i, m ≤ i → i < D.length → dn i = true) (dz : ∀ i, m' ≤ i → i < D.length → dn' i = true) (hnx : ra.next = xa.next) :
   FinTwo w w (put5 (put5 W b (.slice cb2 cn2 cc2) (.slice db2 dn2 dc2) (.slice sb2 sn2 sc2) (.slice eb2 en2 ec2) (.int .i64 y.base)) c (.slice cb3 cn3 cc3) (.slice db3 dn3 dc3) (.slice sb3 sn3 sc3) (.slice eb3 en3 ec3) (.int .i64 z.base)) b c D ra.next := by
 have h1 := hb.put5 hW hy
 have o1 := put5_off W b (.slice cb2 cn2 cc2) (.slice db2 dn2 dc2) (.slice sb2 sn2 sc2) (.slice eb2 en2 ec2) (.int .i64 y.base)
 have h2 := (hc.below hW).off (hb.below hW) (Ne.symm hne) o1
 have hz1 : EngLies (put5 W b (.slice cb2 cn2 cc2) (.slice db2 dn2 dc2) (.slice sb2 sn2 sc2) (.slice eb2 en2 ec2) (.int .i64 y.base)) cb3 cn3 cc3 db3 dn3 dc3 sb3 sn3 sc3 eb3 en3 ec3 z := by
   obtain ⟨_, _, _, _, _, _, _, _, _, _, _, _, _, _, _, _, k1, _⟩ := hb.below hW
   exact hz.off k1 (rep_alien k1) (by decide) (by decide) (by decide) o1
 have h3 := h2.put5 (Below.refl _ _) hz1
 have h4 := h1.off h2 hne (put5_off _ c (.slice cb3 cn3 cc3) (.slice db3 dn3 dc3) (.slice sb3 sn3 sc3) (.slice eb3 en3 ec3) (.int .i64 z.base))
 rw [← hnx] at h3
 exact ⟨⟨y, z, m, m', dn, dn', bq, bq', _, _, h4, h3, gy, gz, dy, dz⟩, put5_below (put5_below (below_deep hwA hW) hlb _ _ _ _ _) hlc _ _ _ _ _⟩

set_option maxHeartbeats 16000000 in
set_option maxRecDepth 100000 in
theorem clear10_calls (L : List Ent) (Pl : List Int) (e : Ent) (lb : Option Addr) (ln lc : Nat) (pb : Option Addr) (pn pc : Nat) (ev : Value) (w : World)
   (hA : ∀ W, Below w.heap.size w W → Calls Tryz.prog 6 #[] W fun x w' => x = .returned (.bool true) ∧ Below W.heap.size W w') (hL : EntsIn w lb ln lc L) (hP : Ints w pb pn pc Pl) (hev : EntV w ev e) :
   Calls Tryz.prog 4 #[.slice lb ln lc, .slice pb pn pc, ev] w fun x w' => x = .returned (.bool true) ∧ Below w.heap.size w w' := by
 obtain ⟨qb, qn, qc, rfl, hq⟩ := hev
 have HEV : Hid (EntV w (.agg #[.int .i64 e.1, .slice qb qn qc]) e) := ⟨qb, qn, qc, rfl, hq⟩
 have HG0 := hid (grew w (.cells #[.int .i64 e.1, .slice qb qn qc] 27))
 have HE0 := hid (Box.new w #[.int .i64 e.1, .slice qb qn qc] 27)
 have PA := hid (hA _ HG0.out)
 have HL := hid hL
 have HP := hid hP
 clear hq hA hL hP
 generalize he : e.1 = ei at *
 clear he
 go_enter Tryz.func4, Tryz.ntmps4
 go_wp2_with fail
 refine PA.out.mono ?_
 rintro x w1 ⟨rfl, hb1⟩
 have HB1 := hid (below_deep HG0.out hb1)
 have HE1 := hid (HE0.out.below hb1)
 have PW := hid (refWrongE_calls e (.agg #[.int .i64 ei, .slice qb qn qc]) w1 (HEV.out.below HB1.out))
 have y0 := HE1.out.cell 0 _ rfl
 have y1 := HE1.out.cell 1 _ rfl
 have hyl : w.heap.size < w1.heap.size := HE1.out.lt
 clear hb1 PA HG0 HE0
 go_wp2_with fail
 refine PW.out.mono ?_
 rintro x w2 ⟨rfl, hb2⟩
 have HB2 := hid (below_deep HB1.out hb2)
 have HE2 := hid (HE1.out.below hb2)
 clear hb2 PW y0 y1 hyl HE1 HB1
 by_cases hw : wrongE e = 0
 · have HRE := hid (wrongE_right.1 hw)
   rw [hw]
   clear hw
   have PB := hid (build10_calls L Pl lb ln lc pb pn pc w2 (HL.out.below HB2.out) (HP.out.below (by decide) HB2.out))
   go_wp2_with fail
   refine PB.out.mono ?_
   rintro x w3 ⟨v3, es, m, dq, bq, r, rfl, hG, ⟨cb3, cn3, cc3, db3, dn3, dc3, sb3, sn3, sc3, eb3, en3, ec3, ab3, an3, ac3, S3, rfl, hp3⟩, hb3⟩
   have HGR := hid hG
   have HG3 := hid (grew w3 (.cells (repA cb3 cn3 cc3 db3 dn3 dc3 sb3 sn3 sc3 eb3 en3 ec3 r.eng.base r.next ab3 an3 ac3) 35))
   have HX3 := hid (Box.new w3 (repA cb3 cn3 cc3 db3 dn3 dc3 sb3 sn3 sc3 eb3 en3 ec3 r.eng.base r.next ab3 an3 ac3) 35)
   have HI3 : Hid (RepIn (w3.alloc (.cells (repA cb3 cn3 cc3 db3 dn3 dc3 sb3 sn3 sc3 eb3 en3 ec3 r.eng.base r.next ab3 an3 ac3) 35)) (.agg (repA cb3 cn3 cc3 db3 dn3 dc3 sb3 sn3 sc3 eb3 en3 ec3 r.eng.base r.next ab3 an3 ac3)) r) := RepIn.below ⟨_, _, _, _, _, _, _, _, _, _, _, _, _, _, _, rfl, hp3.lies hb3⟩ HG3.out
   have HB3 := hid (below_deep HB2.out (below_deep hb3 HG3.out))
   have HE3 := hid (HE2.out.below (below_deep hb3 HG3.out))
   clear hb3 hp3 PB HG3 HE2 HB2 hG
   go_upto_region 6 with fail
   generalize w3.alloc (.cells (repA cb3 cn3 cc3 db3 dn3 dc3 sb3 sn3 sc3 eb3 en3 ec3 r.eng.base r.next ab3 an3 ac3) 35) = A3 at *
   generalize w3.heap.size = b3 at *
   have PC := hid (clearP_calls HGR.out _ w A3 HI3.out)
   have HGX : Hid (GoodR es (m + markE r.eng) dq _ ⟨clearE r.eng (markE r.eng), r.next, r.early⟩) := hid (HGR.out.with_eng (mark_clear HGR.out.eng))
   have HSM := hid (seen_same HGR.out.eng)
   have HTW := hid (twin_come HGR.out HRE.out)
   obtain ⟨x0, x1, x2, x3, x4, x5, x6⟩ := HX3.out.cells7
   have hxl : b3 < A3.heap.size := HX3.out.lt
   generalize clearE r.eng (markE r.eng) = E at *
   go_wp2_with fail
   refine PC.out.mono ?_
   rintro x w4 ⟨v4, rfl, ⟨cb4, cn4, cc4, db4, dn4, dc4, sb4, sn4, sc4, eb4, en4, ec4, ab4, an4, ac4, S4, rfl, hp4⟩, hb4⟩
   have HG4 := hid (grew w4 (.cells (repA cb4 cn4 cc4 db4 dn4 dc4 sb4 sn4 sc4 eb4 en4 ec4 E.base r.next ab4 an4 ac4) 35))
   have HX4 := hid (Box.new w4 (repA cb4 cn4 cc4 db4 dn4 dc4 sb4 sn4 sc4 eb4 en4 ec4 E.base r.next ab4 an4 ac4) 35)
   have HBN := hid (below_deep hb4 HG4.out)
   have HB4 := hid (below_deep HB3.out HBN.out)
   have HI4 : Hid (RepIn (w4.alloc (.cells (repA cb4 cn4 cc4 db4 dn4 dc4 sb4 sn4 sc4 eb4 en4 ec4 E.base r.next ab4 an4 ac4) 35)) (.agg (repA cb4 cn4 cc4 db4 dn4 dc4 sb4 sn4 sc4 eb4 en4 ec4 E.base r.next ab4 an4 ac4)) ⟨E, r.next, r.early⟩) := RepIn.below ⟨_, _, _, _, _, _, _, _, _, _, _, _, _, _, _, rfl, hp4.lies (below_deep HB3.out hb4)⟩ HG4.out
   have HI34 := hid (HI3.out.below HBN.out)
   have HX34 := hid (HX3.out.below HBN.out)
   have HE4 := hid (HE3.out.below HBN.out)
   clear hp4 hb4 PC HG4 HBN HB3 HI3 HX3 HE3 x0 x1 x2 x3 x4 x5 x6 hxl
   go_upto_region 7 with fail
   generalize w4.alloc (.cells (repA cb4 cn4 cc4 db4 dn4 dc4 sb4 sn4 sc4 eb4 en4 ec4 E.base r.next ab4 an4 ac4) 35) = A4 at *
   generalize w4.heap.size = b4 at *
   obtain ⟨x0, x1, x2, x3, x4, x5, x6⟩ := HX34.out.cells7
   obtain ⟨y0, y1, y2, y3, y4, y5, y6⟩ := HX4.out.cells7
   have hxl : b3 < A4.heap.size := HX34.out.lt
   have hyl : b4 < A4.heap.size := HX4.out.lt
   have B0 := hid (step_drew (Below.refl A4.heap.size A4))
   obtain ⟨sl, hsl⟩ : ∃ sl, (seenTo r.eng (markE r.eng)).1 = sl := ⟨_, rfl⟩
   have PS1 : Hid (∀ W, Below A4.heap.size A4 W → Calls Tryz.prog 14 #[.agg (repA cb3 cn3 cc3 db3 dn3 dc3 sb3 sn3 sc3 eb3 en3 ec3 r.eng.base r.next ab3 an3 ac3)] W fun x w' => ∃ b n c, x = .returned (.slice b n c) ∧ Holds w' b n c sl ∧ Below W.heap.size W w') := fun W hW => by
     rw [← hsl]
     exact seenP_calls HGR.out.eng (Nat.le_trans HGR.out.few (by decide)) _ W (HI34.out.below hW)
   have PS2 : Hid (∀ W, Below A4.heap.size A4 W → Calls Tryz.prog 14 #[.agg (repA cb4 cn4 cc4 db4 dn4 dc4 sb4 sn4 sc4 eb4 en4 ec4 E.base r.next ab4 an4 ac4)] W fun x w' => ∃ b n c, x = .returned (.slice b n c) ∧ Holds w' b n c sl ∧ Below W.heap.size W w') := fun W hW => by
     rw [← hsl, ← HSM.out]
     exact seenP_calls HGX.out.eng (Nat.le_trans HGX.out.few (by decide)) _ W (HI4.out.below hW)
   have PSM := hid (fun b7 n7 c7 b8 n8 c8 W h1 h2 => same_holds sl b7 b8 n7 n8 c7 c8 W h1 h2)
   have HS0 : Hid ((fun w' => w'.cell? ⟨b3, 0, none⟩ = some (.slice cb3 cn3 cc3) ∧ w'.cell? ⟨b3, 1, none⟩ = some (.slice db3 dn3 dc3) ∧ w'.cell? ⟨b3, 2, none⟩ = some (.slice sb3 sn3 sc3) ∧ w'.cell? ⟨b3, 3, none⟩ = some (.slice eb3 en3 ec3) ∧ w'.cell? ⟨b3, 4, none⟩ = some (.int .i64 r.eng.base) ∧ w'.cell? ⟨b3, 5, none⟩ = some (.int .i64 r.next) ∧ w'.cell? ⟨b3, 6, none⟩ = some (.slice ab3 an3 ac3) ∧ w'.cell? ⟨b4, 0, none⟩ = some (.slice cb4 cn4 cc4) ∧ w'.cell? ⟨b4, 1, none⟩ = some (.slice db4 dn4 dc4) ∧ w'.cell? ⟨b4, 2, none⟩ = some (.slice sb4 sn4 sc4) ∧ w'.cell? ⟨b4, 3, none⟩ = some (.slice eb4 en4 ec4) ∧ w'.cell? ⟨b4, 4, none⟩ = some (.int .i64 E.base) ∧ w'.cell? ⟨b4, 5, none⟩ = some (.int .i64 r.next) ∧ w'.cell? ⟨b4, 6, none⟩ = some (.slice ab4 an4 ac4) ∧ Below A4.heap.size A4 w') A4.drew) :=
     many_keep ⟨x0, x1, x2, x3, x4, x5, x6, y0, y1, y2, y3, y4, y5, y6, Below.refl _ _⟩ B0.out
   have tnx : (r.next == r.next) = true := by simp
   clear hsl
   go_region_held3 (fun w' => w'.cell? ⟨b3, 0, none⟩ = some (.slice cb3 cn3 cc3) ∧ w'.cell? ⟨b3, 1, none⟩ = some (.slice db3 dn3 dc3) ∧ w'.cell? ⟨b3, 2, none⟩ = some (.slice sb3 sn3 sc3) ∧ w'.cell? ⟨b3, 3, none⟩ = some (.slice eb3 en3 ec3) ∧ w'.cell? ⟨b3, 4, none⟩ = some (.int .i64 r.eng.base) ∧ w'.cell? ⟨b3, 5, none⟩ = some (.int .i64 r.next) ∧ w'.cell? ⟨b3, 6, none⟩ = some (.slice ab3 an3 ac3) ∧ w'.cell? ⟨b4, 0, none⟩ = some (.slice cb4 cn4 cc4) ∧ w'.cell? ⟨b4, 1, none⟩ = some (.slice db4 dn4 dc4) ∧ w'.cell? ⟨b4, 2, none⟩ = some (.slice sb4 sn4 sc4) ∧ w'.cell? ⟨b4, 3, none⟩ = some (.slice eb4 en4 ec4) ∧ w'.cell? ⟨b4, 4, none⟩ = some (.int .i64 E.base) ∧ w'.cell? ⟨b4, 5, none⟩ = some (.int .i64 r.next) ∧ w'.cell? ⟨b4, 6, none⟩ = some (.slice ab4 an4 ac4) ∧ Below A4.heap.size A4 w')
     (first
       | with_reducible exact HS0.out
       | with_reducible exact many_keep (by assumption) (by assumption))
     (first
       | (go_at_call_of 14 (Value.slice cb3 cn3 cc3); refine (PS1.out _ ?_).mono ?_; exact many_held (by assumption); rintro _ w9 ⟨b9, n9, c9, rfl, h9, hb9⟩)
       | (go_at_call_of 14 (Value.slice cb4 cn4 cc4); refine (PS2.out _ ?_).mono ?_; exact many_held (by assumption); rintro _ w10 ⟨b10, n10, c10, rfl, h10, hb10⟩)
       | (go_at_call 13; refine (PSM.out _ _ _ _ _ _ _ ?_ ?_).mono ?_; exact h9.below hb10; exact h10; rintro _ w11 ⟨rfl, hb11⟩))
   have HBN := hid (below_deep (below_deep (below_deep B0.out hb9) hb10) hb11)
   have HB5 := hid (below_deep HB4.out HBN.out)
   have HX35 := hid (HX34.out.below HBN.out)
   have HX45 := hid (HX4.out.below HBN.out)
   have HI35 := hid (HI34.out.below HBN.out)
   have HI45 := hid (HI4.out.below HBN.out)
   have HE5 := hid (HE4.out.below HBN.out)
   clear h9 h10 hb9 hb10 hb11 PS1 PS2 PSM HS0 B0 x0 x1 x2 x3 x4 x5 x6 y0 y1 y2 y3 y4 y5 y6 hxl hyl HBN HB4 HX34 HX4 HI34 HI4 HE4 HSM
   generalize w11 = W5 at *
   have PC1 := hid (comeP_calls HGR.out e HRE.out (.agg (repA cb3 cn3 cc3 db3 dn3 dc3 sb3 sn3 sc3 eb3 en3 ec3 r.eng.base r.next ab3 an3 ac3)) (.agg #[.int .i64 ei, .slice qb qn qc]) w W5 HI35.out (HEV.out.below HB5.out))
   have PC2 := hid (fun W hb => comeP_calls HGX.out e HRE.out (.agg (repA cb4 cn4 cc4 db4 dn4 dc4 sb4 sn4 sc4 eb4 en4 ec4 E.base r.next ab4 an4 ac4)) (.agg #[.int .i64 ei, .slice qb qn qc]) w W (HI45.out.below hb) (HEV.out.below (below_deep HB5.out hb)))
   generalize comeR r e = re at *
   generalize comeR ⟨E, r.next, r.early⟩ e = xe at *
   obtain ⟨ra, q⟩ := re
   obtain ⟨xa, q'⟩ := xe
   obtain ⟨htq, D, m', dn', bq', htw⟩ := HTW.out
   simp only at htq htw
   subst htq
   have HTN := hid htw
   clear htw HTW HGR HGX HRE HEV HI35 HI45 HL HP
   obtain ⟨x0, x1, x2, x3, x4, x5, x6⟩ := HX35.out.cells7
   have y0 := HE5.out.cell 0 _ rfl
   have y1 := HE5.out.cell 1 _ rfl
   have hxl : b3 < W5.heap.size := HX35.out.lt
   have hyl : w.heap.size < W5.heap.size := HE5.out.lt
   go_wp2_with fail
   refine PC1.out.mono ?_
   rintro _ w6 ⟨v6, rfl, ⟨cb6, cn6, cc6, db6, dn6, dc6, sb6, sn6, sc6, eb6, en6, ec6, ab6, an6, ac6, S6, rfl, hp6⟩, hb6⟩
   have HG6 := hid (grew w6 (.cells (repA cb6 cn6 cc6 db6 dn6 dc6 sb6 sn6 sc6 eb6 en6 ec6 ra.eng.base ra.next ab6 an6 ac6) 35))
   have HX6 := hid (Box.new w6 (repA cb6 cn6 cc6 db6 dn6 dc6 sb6 sn6 sc6 eb6 en6 ec6 ra.eng.base ra.next ab6 an6 ac6) 35)
   have HBN := hid (below_deep hb6 HG6.out)
   have HB6 := hid (below_deep HB5.out HBN.out)
   have HP6 := hid (hp6.below HG6.out)
   have HX46 := hid (HX45.out.below HBN.out)
   have HE6 := hid (HE5.out.below HBN.out)
   have hl6 : w.heap.size ≤ w6.heap.size := Nat.le_trans HB5.out.size hb6.size
   clear hp6 hb6 PC1 HG6 HX35 HX45 HE5 x0 x1 x2 x3 x4 x5 x6 y0 y1 hxl hyl
   go_upto_region 10 with fail
   generalize w6.alloc (.cells (repA cb6 cn6 cc6 db6 dn6 dc6 sb6 sn6 sc6 eb6 en6 ec6 ra.eng.base ra.next ab6 an6 ac6) 35) = A6 at *
   generalize w6.heap.size = b6 at *
   have PC := hid (PC2.out A6 HBN.out)
   obtain ⟨x0, x1, x2, x3, x4, x5, x6⟩ := HX46.out.cells7
   have y0 := HE6.out.cell 0 _ rfl
   have y1 := HE6.out.cell 1 _ rfl
   have hxl : b4 < A6.heap.size := HX46.out.lt
   have hyl : w.heap.size < A6.heap.size := HE6.out.lt
   clear PC2
   go_wp2_with fail
   refine PC.out.mono ?_
   rintro _ w7 ⟨v7, rfl, ⟨cb7, cn7, cc7, db7, dn7, dc7, sb7, sn7, sc7, eb7, en7, ec7, ab7, an7, ac7, S7, rfl, hp7⟩, hb7⟩
   have HG7 := hid (grew w7 (.cells (repA cb7 cn7 cc7 db7 dn7 dc7 sb7 sn7 sc7 eb7 en7 ec7 xa.eng.base xa.next ab7 an7 ac7) 35))
   have HX7 := hid (Box.new w7 (repA cb7 cn7 cc7 db7 dn7 dc7 sb7 sn7 sc7 eb7 en7 ec7 xa.eng.base xa.next ab7 an7 ac7) 35)
   have HBM := hid (below_deep hb7 HG7.out)
   have HB7 := hid (below_deep HB6.out HBM.out)
   have HP7 := hid (hp7.below HG7.out)
   have HX67 := hid (HX6.out.below HBM.out)
   have HP67 := hid (HP6.out.below HBM.out)
   have hl7 : w.heap.size ≤ w7.heap.size := Nat.le_trans HB6.out.size hb7.size
   have hne : b6 ≠ w7.heap.size := by have := (HX6.out.below hb7).lt; omega
   clear hp7 hb7 PC HG7 HBN HBM HX46 HX6 HP6 HE6 HB5 HB6 x0 x1 x2 x3 x4 x5 x6 y0 y1 hxl hyl
   go_upto_region 11 with fail
   generalize w7.alloc (.cells (repA cb7 cn7 cc7 db7 dn7 dc7 sb7 sn7 sc7 eb7 en7 ec7 xa.eng.base xa.next ab7 an7 ac7) 35) = A7 at *
   generalize w7.heap.size = b7 at *
   have hD : D.length ≤ 1954687338211 := Nat.le_trans HTN.out.few (by decide)
   have HDD := hid hD
   go_cut [10] (fun qv wx => qv = .int .i64 q ∧ Hid (FinTwo w w wx b6 b7 D ra.next))
   case first =>
     have B0 := hid (step_drew (Below.refl A7.heap.size A7))
     have PF1 : Hid (∀ W, Below A7.heap.size A7 W → Calls Tryz.prog 15 #[.agg (engA cb6 cn6 cc6 db6 dn6 dc6 sb6 sn6 sc6 eb6 en6 ec6 ra.eng.base)] W fun x w' => ∃ (y : Eng) (dn : Nat → Bool), Good [] D m dn bq y ∧ (∀ i, m ≤ i → i < D.length → dn i = true) ∧ EngTold W w' y x) := fun W hW =>
       refFin_calls HTN.out.one hD _ W ⟨_, _, _, _, _, _, _, _, _, _, _, _, rfl, HP67.out.eng.below hW⟩
     have PF2 : Hid (∀ W, Below A7.heap.size A7 W → Calls Tryz.prog 15 #[.agg (engA cb7 cn7 cc7 db7 dn7 dc7 sb7 sn7 sc7 eb7 en7 ec7 xa.eng.base)] W fun x w' => ∃ (y : Eng) (dn : Nat → Bool), Good [] D m' dn bq' y ∧ (∀ i, m' ≤ i → i < D.length → dn i = true) ∧ EngTold W w' y x) := fun W hW =>
       refFin_calls HTN.out.two hD _ W ⟨_, _, _, _, _, _, _, _, _, _, _, _, rfl, HP7.out.eng.below hW⟩
     obtain ⟨x0, x1, x2, x3, x4, x5, x6⟩ := HX67.out.cells7
     obtain ⟨y0, y1, y2, y3, y4, y5, y6⟩ := HX7.out.cells7
     have hxl : b6 < A7.heap.size := HX67.out.lt
     have hyl : b7 < A7.heap.size := HX7.out.lt
     go_region_with (first
       | (go_at_call_of 15 (Value.slice cb6 cn6 cc6); refine (PF1.out _ B0.out).mono ?_; rintro _ w12 ⟨y, dny, hgy, hdy, ⟨vy, rfl, ⟨cb8, cn8, cc8, db8, dn8, dc8, sb8, sn8, sc8, eb8, en8, ec8, rfl, hly⟩, hby⟩⟩; have hbA : Below A7.heap.size A7 w12 := (by with_reducible exact below_deep B0.out hby); obtain ⟨y0', y1', y2', y3', y4', y5', y6'⟩ := (HX7.out.below hbA).cells7; have hyl' := Nat.lt_of_lt_of_le hyl hbA.size)
       | (go_at_call_of 15 (Value.slice cb7 cn7 cc7); refine (PF2.out _ hbA).mono ?_; rintro _ w13 ⟨z, dnz, hgz, hdz, ⟨vz, rfl, ⟨cb9, cn9, cc9, db9, dn9, dc9, sb9, sn9, sc9, eb9, en9, ec9, rfl, hlz⟩, hbz⟩⟩; have hbB : Below A7.heap.size A7 w13 := (by with_reducible exact below_deep hbA hbz); have HX613 := hid (HX67.out.below hbB); have HX713 := hid (HX7.out.below hbB); obtain ⟨u0, u1, u2, u3, u4, u5, u6⟩ := HX613.out.cells7; obtain ⟨f0, f1, f2, f3, f4, f5, f6⟩ := HX613.out.free7; obtain ⟨t0, t1, t2, t3, t4, t5, t6⟩ := HX713.out.cells7; obtain ⟨g0, g1, g2, g3, g4, g5, g6⟩ := HX713.out.free7; have hul := HX613.out.lt; have htl := HX713.out.lt))
     all_goals
       have HFT := hid (fin_two (holdR HX67.out HP67.out) (holdR HX7.out HP7.out) hne HB7.out hl6 hl7 hbB (hly.below hbz) hlz hgy hgz hdy hdz HTN.out.next)
       unfold put5 at HFT
       go_wp2
       go_meet
       exact ⟨rfl, HFT⟩
   case rest =>
     obtain ⟨rfl, HFT⟩ := hcut
     obtain ⟨y, z, m1, m2, dn1, dn2, bq1, bq2, ea1, ea2, h1, h2, hgy, hgz, hdy, hdz⟩ := HFT.out.ex
     obtain ⟨cb8, cn8, cc8, db8, dn8, dc8, sb8, sn8, sc8, eb8, en8, ec8, ab8, an8, ac8, S8, hx8, hp8⟩ := h1
     obtain ⟨cb9, cn9, cc9, db9, dn9, dc9, sb9, sn9, sc9, eb9, en9, ec9, ab9, an9, ac9, S9, hx9, hp9⟩ := h2
     have HBW := hid HFT.out.below
     have PS1 : Hid (∀ W, Below wc.heap.size wc W → Calls Tryz.prog 14 #[.agg (repA cb8 cn8 cc8 db8 dn8 dc8 sb8 sn8 sc8 eb8 en8 ec8 y.base ra.next ab8 an8 ac8)] W fun x w' => ∃ b n c, x = .returned (.slice b n c) ∧ Holds w' b n c (seqR [] D D.length) ∧ Below W.heap.size W w') := fun W hW => by
       have := seenP_calls (r := ⟨y, ra.next, ea1⟩) hgy HDD.out (.agg (repA cb8 cn8 cc8 db8 dn8 dc8 sb8 sn8 sc8 eb8 en8 ec8 y.base ra.next ab8 an8 ac8)) W (RepIn.below ⟨_, _, _, _, _, _, _, _, _, _, _, _, _, _, _, rfl, hp8.lies HBW.out⟩ hW)
       rw [seen_fin hgy hdy] at this
       exact this
     have PS2 : Hid (∀ W, Below wc.heap.size wc W → Calls Tryz.prog 14 #[.agg (repA cb9 cn9 cc9 db9 dn9 dc9 sb9 sn9 sc9 eb9 en9 ec9 z.base ra.next ab9 an9 ac9)] W fun x w' => ∃ b n c, x = .returned (.slice b n c) ∧ Holds w' b n c (seqR [] D D.length) ∧ Below W.heap.size W w') := fun W hW => by
       have := seenP_calls (r := ⟨z, ra.next, ea2⟩) hgz HDD.out (.agg (repA cb9 cn9 cc9 db9 dn9 dc9 sb9 sn9 sc9 eb9 en9 ec9 z.base ra.next ab9 an9 ac9)) W (RepIn.below ⟨_, _, _, _, _, _, _, _, _, _, _, _, _, _, _, rfl, hp9.lies HBW.out⟩ hW)
       rw [seen_fin hgz hdz] at this
       exact this
     generalize seqR [] D D.length = sl2 at *
     have PSM := hid (fun b7 n7 c7 b8 n8 c8 W h1 h2 => same_holds sl2 b7 b8 n7 n8 c7 c8 W h1 h2)
     obtain ⟨x0, x1, x2, x3, x4, x5, x6⟩ := hx8.cells7
     obtain ⟨y0, y1, y2, y3, y4, y5, y6⟩ := hx9.cells7
     simp only at x4 x5 y4 y5
     have hxl : b6 < wc.heap.size := hx8.lt
     have hyl : b7 < wc.heap.size := hx9.lt
     have B0 := hid (step_drew (Below.refl wc.heap.size wc))
     generalize ra.next = nxa at *
     generalize y.base = by1 at *
     generalize z.base = bz1 at *
     have HS0 : Hid ((fun w' => w'.cell? ⟨b6, 0, none⟩ = some (.slice cb8 cn8 cc8) ∧ w'.cell? ⟨b6, 1, none⟩ = some (.slice db8 dn8 dc8) ∧ w'.cell? ⟨b6, 2, none⟩ = some (.slice sb8 sn8 sc8) ∧ w'.cell? ⟨b6, 3, none⟩ = some (.slice eb8 en8 ec8) ∧ w'.cell? ⟨b6, 4, none⟩ = some (.int .i64 by1) ∧ w'.cell? ⟨b6, 5, none⟩ = some (.int .i64 nxa) ∧ w'.cell? ⟨b6, 6, none⟩ = some (.slice ab8 an8 ac8) ∧ w'.cell? ⟨b7, 0, none⟩ = some (.slice cb9 cn9 cc9) ∧ w'.cell? ⟨b7, 1, none⟩ = some (.slice db9 dn9 dc9) ∧ w'.cell? ⟨b7, 2, none⟩ = some (.slice sb9 sn9 sc9) ∧ w'.cell? ⟨b7, 3, none⟩ = some (.slice eb9 en9 ec9) ∧ w'.cell? ⟨b7, 4, none⟩ = some (.int .i64 bz1) ∧ w'.cell? ⟨b7, 5, none⟩ = some (.int .i64 nxa) ∧ w'.cell? ⟨b7, 6, none⟩ = some (.slice ab9 an9 ac9) ∧ Below wc.heap.size wc w') wc.drew) :=
       many_keep ⟨x0, x1, x2, x3, x4, x5, x6, y0, y1, y2, y3, y4, y5, y6, Below.refl _ _⟩ B0.out
     have tq : (q == q) = true := by simp
     have tn : (nxa == nxa) = true := by simp
     clear hx8 hx9 hp8 hp9 hgy hgz hdy hdz HFT HTN HDD hD HX67 HX7 HP67 HP7 HB7
     go_upto_region 12 with fail
     go_region_held3 (fun w' => w'.cell? ⟨b6, 0, none⟩ = some (.slice cb8 cn8 cc8) ∧ w'.cell? ⟨b6, 1, none⟩ = some (.slice db8 dn8 dc8) ∧ w'.cell? ⟨b6, 2, none⟩ = some (.slice sb8 sn8 sc8) ∧ w'.cell? ⟨b6, 3, none⟩ = some (.slice eb8 en8 ec8) ∧ w'.cell? ⟨b6, 4, none⟩ = some (.int .i64 by1) ∧ w'.cell? ⟨b6, 5, none⟩ = some (.int .i64 nxa) ∧ w'.cell? ⟨b6, 6, none⟩ = some (.slice ab8 an8 ac8) ∧ w'.cell? ⟨b7, 0, none⟩ = some (.slice cb9 cn9 cc9) ∧ w'.cell? ⟨b7, 1, none⟩ = some (.slice db9 dn9 dc9) ∧ w'.cell? ⟨b7, 2, none⟩ = some (.slice sb9 sn9 sc9) ∧ w'.cell? ⟨b7, 3, none⟩ = some (.slice eb9 en9 ec9) ∧ w'.cell? ⟨b7, 4, none⟩ = some (.int .i64 bz1) ∧ w'.cell? ⟨b7, 5, none⟩ = some (.int .i64 nxa) ∧ w'.cell? ⟨b7, 6, none⟩ = some (.slice ab9 an9 ac9) ∧ Below wc.heap.size wc w')
       (first
         | with_reducible exact HS0.out
         | with_reducible exact many_keep (by assumption) (by assumption))
       (first
         | (go_at_call_of 14 (Value.slice cb8 cn8 cc8); refine (PS1.out _ ?_).mono ?_; exact many_held (by assumption); rintro _ w9 ⟨b9, n9, c9, rfl, h9, hb9⟩)
         | (go_at_call_of 14 (Value.slice cb9 cn9 cc9); refine (PS2.out _ ?_).mono ?_; exact many_held (by assumption); rintro _ w10 ⟨b10, n10, c10, rfl, h10, hb10⟩)
         | (go_at_call 13; refine (PSM.out _ _ _ _ _ _ _ ?_ ?_).mono ?_; exact h9.below hb10; exact h10; rintro _ w11 ⟨rfl, hb11⟩))
     have HBF := hid (below_deep HBW.out (below_deep (below_deep (below_deep B0.out hb9) hb10) hb11))
     go_wp2
     go_ret
     exact ⟨rfl, HBF.out⟩
 · have t : (wrongE e == 0) = false := by simpa using hw
   go_wp2
   go_ret
   exact ⟨rfl, HB2.out⟩
end Go.Proofs.YtnbekpblmkdnlaaGreatDoor
