/-
  The walk of the statement ReplicaTells: the call returns true and changes nothing that was there.
-/
import Derived.Test.YtagangiilcicpaeGreatRepComeP
import Derived.Test.YtagangiilcicpaeGreatRepHold
import Derived.Test.YtagangiilcicpaeGreatLawTells
import Derived.Deep.DeepCutAuto
namespace Go.Proofs.YtagangiilcicpaeGreat
open Go.RowKit

theorem svn_keep {A w1 w2 : World} {b : Nat} {x0 x1 x2 x3 x4 x5 x6 : Value} (h : w1.cell? ⟨b, 0, none⟩ = some x0 ∧ w1.cell? ⟨b, 1, none⟩ = some x1 ∧ w1.cell? ⟨b, 2, none⟩ = some x2 ∧ w1.cell? ⟨b, 3, none⟩ = some x3 ∧ w1.cell? ⟨b, 4, none⟩ = some x4 ∧ w1.cell? ⟨b, 5, none⟩ = some x5 ∧ w1.cell? ⟨b, 6, none⟩ = some x6 ∧ Below A.heap.size A w1) (hb : Below w1.heap.size w1 w2) :
    w2.cell? ⟨b, 0, none⟩ = some x0 ∧ w2.cell? ⟨b, 1, none⟩ = some x1 ∧ w2.cell? ⟨b, 2, none⟩ = some x2 ∧ w2.cell? ⟨b, 3, none⟩ = some x3 ∧ w2.cell? ⟨b, 4, none⟩ = some x4 ∧ w2.cell? ⟨b, 5, none⟩ = some x5 ∧ w2.cell? ⟨b, 6, none⟩ = some x6 ∧ Below A.heap.size A w2 := by
  obtain ⟨h0, h1, h2, h3, h4, h5, h6, hz⟩ := h
  exact ⟨kept_cell hb h0, kept_cell hb h1, kept_cell hb h2, kept_cell hb h3, kept_cell hb h4, kept_cell hb h5, kept_cell hb h6, below_deep hz hb⟩
theorem svn_held {p0 p1 p2 p3 p4 p5 p6 : Prop} {B : Nat} {A w' : World} (h : p0 ∧ p1 ∧ p2 ∧ p3 ∧ p4 ∧ p5 ∧ p6 ∧ Below B A w') : Below B A w' := h.2.2.2.2.2.2.2

set_option maxHeartbeats 16000000 in
set_option maxRecDepth 100000 in
theorem tells10_calls (L : List Ent) (Pl : List Int) (e : Ent) (n : Int) (lb : Option Addr) (ln lc : Nat) (pb : Option Addr) (pn pc : Nat) (ev : Value) (w : World) (hL : EntsIn w lb ln lc L) (hP : Ints w pb pn pc Pl) (hev : EntV w ev e) :
    Calls Tryz.prog 3 #[.slice lb ln lc, .slice pb pn pc, ev, .int .i64 n] w fun x w' => x = .returned (.bool true) ∧ Below w.heap.size w w' := by
  obtain ⟨qb, qn, qc, rfl, hq⟩ := hev
  have HEV : Hid (EntV w (.agg #[.int .i64 e.1, .slice qb qn qc]) e) := ⟨qb, qn, qc, rfl, hq⟩
  have HG0 := hid (grew w (.cells #[.int .i64 e.1, .slice qb qn qc] 26))
  have HE0 := hid (Box.new w #[.int .i64 e.1, .slice qb qn qc] 26)
  have HL := hid hL
  have HP := hid hP
  clear hq hL hP
  generalize he : e.1 = ei at *
  clear he
  have PB := hid (build10_calls L Pl lb ln lc pb pn pc _ (HL.out.below HG0.out) (HP.out.below (by decide) HG0.out))
  go_enter Tryz.func3, Tryz.ntmps3
  go_wp2_with fail
  refine PB.out.mono ?_
  rintro x w3 ⟨v3, es, m, dq, bq, r, rfl, hG, ⟨cb3, cn3, cc3, db3, dn3, dc3, sb3, sn3, sc3, eb3, en3, ec3, ab3, an3, ac3, S3, rfl, hp3⟩, hb3⟩
  have HGR := hid hG
  have HG3 := hid (grew w3 (.cells (repA cb3 cn3 cc3 db3 dn3 dc3 sb3 sn3 sc3 eb3 en3 ec3 r.eng.base r.next ab3 an3 ac3) 32))
  have HX3 := hid (Box.new w3 (repA cb3 cn3 cc3 db3 dn3 dc3 sb3 sn3 sc3 eb3 en3 ec3 r.eng.base r.next ab3 an3 ac3) 32)
  have HB3 := hid (below_deep HG0.out (below_deep hb3 HG3.out))
  have HP3 := hid ((hp3.below HG3.out).now (below_deep hb3 HG3.out))
  have HE3 := hid (HE0.out.below (below_deep hb3 HG3.out))
  have HFW : Hid ((deedsOf es).length ≤ 1954687338211) := hid (Nat.le_trans hG.few (by decide))
  clear hb3 hp3 PB HG3 HE0 HG0 hG
  go_upto_region 2 with fail
  generalize w3.alloc (.cells (repA cb3 cn3 cc3 db3 dn3 dc3 sb3 sn3 sc3 eb3 en3 ec3 r.eng.base r.next ab3 an3 ac3) 32) = A at *
  generalize w3.heap.size = b3 at *
  have HRI : Hid (∀ W, Below A.heap.size A W → RepIn W (.agg (repA cb3 cn3 cc3 db3 dn3 dc3 sb3 sn3 sc3 eb3 en3 ec3 r.eng.base r.next ab3 an3 ac3)) r) := fun W hW => RepIn.below ⟨_, _, _, _, _, _, _, _, _, _, _, _, _, _, _, rfl, HP3.out.lies (Below.refl _ _)⟩ hW
  have HEI : Hid (∀ W, Below A.heap.size A W → EngIn W (.agg (engA cb3 cn3 cc3 db3 dn3 dc3 sb3 sn3 sc3 eb3 en3 ec3 r.eng.base)) r.eng) := fun W hW => ⟨_, _, _, _, _, _, _, _, _, _, _, _, rfl, HP3.out.eng.below hW⟩
  have B0 := hid (step_drew (Below.refl A.heap.size A))
  obtain ⟨x0, x1, x2, x3, x4, x5, x6⟩ := HX3.out.cells7
  have hxl : b3 < A.heap.size := HX3.out.lt
  have PN := hid (newP_calls A)
  unfold RepToldAt at PN
  have POW := hid (fun W hW => ownR_calls HGR.out (.agg (repA cb3 cn3 cc3 db3 dn3 dc3 sb3 sn3 sc3 eb3 en3 ec3 r.eng.base r.next ab3 an3 ac3)) W (HRI.out W hW))
  have HZI : Hid (∀ W, RepIn W (.agg nilR) newR) := fun W => ⟨_, _, _, _, _, _, _, _, _, _, _, _, _, _, _, rfl, (newR_parts W W).lies (Below.refl _ _)⟩
  have HS0 : Hid ((fun w' => w'.cell? ⟨b3, 0, none⟩ = some (.slice cb3 cn3 cc3) ∧ w'.cell? ⟨b3, 1, none⟩ = some (.slice db3 dn3 dc3) ∧ w'.cell? ⟨b3, 2, none⟩ = some (.slice sb3 sn3 sc3) ∧ w'.cell? ⟨b3, 3, none⟩ = some (.slice eb3 en3 ec3) ∧ w'.cell? ⟨b3, 4, none⟩ = some (.int .i64 r.eng.base) ∧ w'.cell? ⟨b3, 5, none⟩ = some (.int .i64 r.next) ∧ w'.cell? ⟨b3, 6, none⟩ = some (.slice ab3 an3 ac3) ∧ Below A.heap.size A w') A.drew) := svn_keep ⟨x0, x1, x2, x3, x4, x5, x6, Below.refl _ _⟩ B0.out
  go_region_held3 (fun w' => w'.cell? ⟨b3, 0, none⟩ = some (.slice cb3 cn3 cc3) ∧ w'.cell? ⟨b3, 1, none⟩ = some (.slice db3 dn3 dc3) ∧ w'.cell? ⟨b3, 2, none⟩ = some (.slice sb3 sn3 sc3) ∧ w'.cell? ⟨b3, 3, none⟩ = some (.slice eb3 en3 ec3) ∧ w'.cell? ⟨b3, 4, none⟩ = some (.int .i64 r.eng.base) ∧ w'.cell? ⟨b3, 5, none⟩ = some (.int .i64 r.next) ∧ w'.cell? ⟨b3, 6, none⟩ = some (.slice ab3 an3 ac3) ∧ Below A.heap.size A w')
    (first
      | with_reducible exact HS0.out
      | with_reducible exact svn_keep (by assumption) (by assumption))
    (first
      | (go_at_call 6; refine (PN.out _).mono ?_; rintro _ w4 ⟨v4, rfl, hv4, hb4⟩; have hbn : Below A.heap.size A w4 := (by with_reducible exact below_deep B0.out hb4); have hvi := hv4.in hbn)
      | (go_at_call_of 5 v4; refine (sameRep_calls newR v4 (.agg nilR) _ ?_ ?_).mono ?_; exact hvi; exact HZI.out _; rintro _ w5 ⟨rfl, hb5⟩)
      | (go_at_call 7; refine (POW.out _ ?_).mono ?_; exact svn_held (by assumption); rintro _ w6 ⟨cb6, cn6, cc6, db6, dn6, dc6, sb6, sn6, sc6, eb6, en6, ec6, ab6, an6, ac6, S6, rfl, ho6, hb6⟩)
      | (go_at_call_of 5 cb6; refine (sameRep_calls r (.agg (repA cb6 cn6 cc6 db6 dn6 dc6 sb6 sn6 sc6 eb6 en6 ec6 r.eng.base r.next ab6 an6 ac6)) (.agg (repA cb3 cn3 cc3 db3 dn3 dc3 sb3 sn3 sc3 eb3 en3 ec3 r.eng.base r.next ab3 an3 ac3)) _ ?_ ?_).mono ?_; exact ⟨_, _, _, _, _, _, _, _, _, _, _, _, _, _, _, rfl, (ho6.parts (w0 := w6)).lies (Below.refl _ _)⟩; exact HRI.out _ (svn_held (by assumption)); rintro _ w7 ⟨rfl, hb7⟩))
  have HBX := hid (below_deep (below_deep hbn hb5) (below_deep hb6 hb7))
  clear hv4 hvi hbn hb4 hb5 ho6 hb6 hb7 PN POW HZI HS0 B0 x0 x1 x2 x3 x4 x5 x6 hxl
  generalize w7 = W7 at *
  have HX7 := hid (HX3.out.below HBX.out)
  have HE7 := hid (HE3.out.below HBX.out)
  have HB7 := hid (below_deep HB3.out HBX.out)
  have PW := hid (refWrongE_calls e (.agg #[.int .i64 ei, .slice qb qn qc]) W7 (HEV.out.below HB7.out))
  have y0 := HE7.out.cell 0 _ rfl
  have y1 := HE7.out.cell 1 _ rfl
  have hyl : w.heap.size < W7.heap.size := HE7.out.lt
  go_wp2_with fail
  refine PW.out.mono ?_
  rintro _ w8 ⟨rfl, hb8⟩
  have HB8 := hid (below_deep HBX.out hb8)
  clear hb8 PW y0 y1 hyl HX7 HE7 HBX HB7
  go_upto_if 38 with fail
  go_cut [10, 11] (fun _ _ wx => Hid (Below A.heap.size A wx))
  case first =>
    by_cases hw : wrongE e = 0
    case neg =>
      have t : (wrongE e == 0) = false := by simpa using hw
      go_wp2
      go_meet
      case rel => exact HB8
    case pos =>
      have HRE := hid (wrongE_right.1 hw)
      rw [hw]
      clear hw
      have HX8 := hid (HX3.out.below HB8.out)
      have HE8 := hid (HE3.out.below HB8.out)
      have PC1 := hid (comeP_calls HGR.out e HRE.out (.agg (repA cb3 cn3 cc3 db3 dn3 dc3 sb3 sn3 sc3 eb3 en3 ec3 r.eng.base r.next ab3 an3 ac3)) (.agg #[.int .i64 ei, .slice qb qn qc]) A w8 (HRI.out w8 HB8.out) (HEV.out.below (below_deep HB3.out HB8.out)))
      have PC2 := hid (fun W hb => refCome_calls HGR.out e HRE.out (.agg (repA cb3 cn3 cc3 db3 dn3 dc3 sb3 sn3 sc3 eb3 en3 ec3 r.eng.base r.next ab3 an3 ac3)) (.agg #[.int .i64 ei, .slice qb qn qc]) A W hb ⟨_, _, _, _, _, _, _, _, _, _, _, _, _, _, _, _, rfl, HP3.out.below hb⟩ (EntV.at (HEV.out.below HB3.out)))
      generalize comeR r e = re at *
      obtain ⟨ra, q⟩ := re
      obtain ⟨x0, x1, x2, x3, x4, x5, x6⟩ := HX8.out.cells7
      have y0 := HE8.out.cell 0 _ rfl
      have y1 := HE8.out.cell 1 _ rfl
      have hxl : b3 < w8.heap.size := HX8.out.lt
      have hyl : w.heap.size < w8.heap.size := HE8.out.lt
      go_wp2_with fail
      refine PC1.out.mono ?_
      rintro _ w9 ⟨v9, rfl, ⟨cb9, cn9, cc9, db9, dn9, dc9, sb9, sn9, sc9, eb9, en9, ec9, ab9, an9, ac9, S9, rfl, hp9⟩, hb9⟩
      have HG9 := hid (grew w9 (.cells (repA cb9 cn9 cc9 db9 dn9 dc9 sb9 sn9 sc9 eb9 en9 ec9 ra.eng.base ra.next ab9 an9 ac9) 32))
      have HX9 := hid (Box.new w9 (repA cb9 cn9 cc9 db9 dn9 dc9 sb9 sn9 sc9 eb9 en9 ec9 ra.eng.base ra.next ab9 an9 ac9) 32)
      have HBN := hid (below_deep hb9 HG9.out)
      have HB9 := hid (below_deep HB8.out HBN.out)
      have HP9 := hid (hp9.below HG9.out)
      have HX89 := hid (HX8.out.below HBN.out)
      have HE89 := hid (HE8.out.below HBN.out)
      clear hp9 hb9 PC1 HG9 HBN HX8 HE8 HB8 x0 x1 x2 x3 x4 x5 x6 y0 y1 hxl hyl
      go_upto_region 6 with fail
      generalize w9.alloc (.cells (repA cb9 cn9 cc9 db9 dn9 dc9 sb9 sn9 sc9 eb9 en9 ec9 ra.eng.base ra.next ab9 an9 ac9) 32) = A9 at *
      generalize w9.heap.size = b9 at *
      have PC := hid (PC2.out A9 HB9.out)
      clear PC2
      obtain ⟨x0, x1, x2, x3, x4, x5, x6⟩ := HX89.out.cells7
      have y0 := HE89.out.cell 0 _ rfl
      have y1 := HE89.out.cell 1 _ rfl
      have hxl : b3 < A9.heap.size := HX89.out.lt
      have hyl : w.heap.size < A9.heap.size := HE89.out.lt
      go_wp2_with fail
      refine PC.out.mono ?_
      rintro _ w10 ⟨v10, rfl, ⟨cb10, cn10, cc10, db10, dn10, dc10, sb10, sn10, sc10, eb10, en10, ec10, ab10, an10, ac10, S10, rfl, hp10⟩, hb10⟩
      have HG10 := hid (grew w10 (.cells (repA cb10 cn10 cc10 db10 dn10 dc10 sb10 sn10 sc10 eb10 en10 ec10 ra.eng.base ra.next ab10 an10 ac10) 32))
      have HX10 := hid (Box.new w10 (repA cb10 cn10 cc10 db10 dn10 dc10 sb10 sn10 sc10 eb10 en10 ec10 ra.eng.base ra.next ab10 an10 ac10) 32)
      have HBN := hid (below_deep hb10 HG10.out)
      have HB10 := hid (below_deep HB9.out HBN.out)
      have HP10 := hid (hp10.below HG10.out)
      have HP910 := hid (HP9.out.below HBN.out)
      have HX910 := hid (HX9.out.below HBN.out)
      clear hp10 hb10 PC HG10 HBN HX89 HE89 HX9 HP9 HB9 x0 x1 x2 x3 x4 x5 x6 y0 y1 hxl hyl
      go_upto_region 7 with fail
      generalize w10.alloc (.cells (repA cb10 cn10 cc10 db10 dn10 dc10 sb10 sn10 sc10 eb10 en10 ec10 ra.eng.base ra.next ab10 an10 ac10) 32) = A10 at *
      generalize w10.heap.size = b10 at *
      have PS := hid (sameRep_calls ra (.agg (repA cb9 cn9 cc9 db9 dn9 dc9 sb9 sn9 sc9 eb9 en9 ec9 ra.eng.base ra.next ab9 an9 ac9)) (.agg (repA cb10 cn10 cc10 db10 dn10 dc10 sb10 sn10 sc10 eb10 en10 ec10 ra.eng.base ra.next ab10 an10 ac10)) A10 ⟨_, _, _, _, _, _, _, _, _, _, _, _, _, _, _, rfl, HP910.out.lies HB10.out⟩ ⟨_, _, _, _, _, _, _, _, _, _, _, _, _, _, _, rfl, HP10.out.lies HB10.out⟩)
      obtain ⟨x0, x1, x2, x3, x4, x5, x6⟩ := HX910.out.cells7
      obtain ⟨y0, y1, y2, y3, y4, y5, y6⟩ := HX10.out.cells7
      have hxl : b9 < A10.heap.size := HX910.out.lt
      have hyl : b10 < A10.heap.size := HX10.out.lt
      have tq : (q == q) = true := by simp
      go_wp2_with fail
      refine PS.out.mono ?_
      rintro _ w11 ⟨rfl, hb11⟩
      have HB11 := hid (below_deep HB10.out hb11)
      clear hb11 PS
      go_wp2
      go_meet
      case rel => exact HB11
  case rest =>
    have HBX := hid hcut
    have HXC := hid (HX3.out.below HBX.out)
    have PG := hid (goP_calls HGR.out n (.agg (repA cb3 cn3 cc3 db3 dn3 dc3 sb3 sn3 sc3 eb3 en3 ec3 r.eng.base r.next ab3 an3 ac3)) A wc (HRI.out wc HBX.out))
    obtain ⟨gr, hgr⟩ : ∃ g, goR r n = g := ⟨_, rfl⟩
    rw [hgr] at PG
    obtain ⟨ga, gq⟩ := gr
    have HGO := hid hgr
    obtain ⟨x0, x1, x2, x3, x4, x5, x6⟩ := HXC.out.cells7
    have hxl : b3 < wc.heap.size := HXC.out.lt
    clear hgr
    go_wp2_with fail
    refine PG.out.mono ?_
    rintro _ w14 ⟨v14, rfl, ⟨cb14, cn14, cc14, db14, dn14, dc14, sb14, sn14, sc14, eb14, en14, ec14, ab14, an14, ac14, S14, rfl, hp14⟩, hb14⟩
    have HG14 := hid (grew w14 (.cells (repA cb14 cn14 cc14 db14 dn14 dc14 sb14 sn14 sc14 eb14 en14 ec14 ga.eng.base ga.next ab14 an14 ac14) 32))
    have HX14 := hid (Box.new w14 (repA cb14 cn14 cc14 db14 dn14 dc14 sb14 sn14 sc14 eb14 en14 ec14 ga.eng.base ga.next ab14 an14 ac14) 32)
    have HBN := hid (below_deep hb14 HG14.out)
    have HB14 := hid (below_deep HBX.out HBN.out)
    have HH14 := hid (holdR HX14.out (hp14.below HG14.out))
    have HXD := hid (HXC.out.below HBN.out)
    have hl14 : A.heap.size ≤ w14.heap.size := Nat.le_trans HBX.out.size hb14.size
    clear hp14 hb14 PG HG14 HBN HXC HBX x0 x1 x2 x3 x4 x5 x6 hxl HX14
    go_upto_region 10 with fail
    generalize w14.alloc (.cells (repA cb14 cn14 cc14 db14 dn14 dc14 sb14 sn14 sc14 eb14 en14 ec14 ga.eng.base ga.next ab14 an14 ac14) 32) = A14 at *
    generalize w14.heap.size = b14 at *
    have HG16 := hid (grew A14 (.cells (repA cb3 cn3 cc3 db3 dn3 dc3 sb3 sn3 sc3 eb3 en3 ec3 r.eng.base r.next ab3 an3 ac3) 32))
    have HX16 := hid (Box.new A14 (repA cb3 cn3 cc3 db3 dn3 dc3 sb3 sn3 sc3 eb3 en3 ec3 r.eng.base r.next ab3 an3 ac3) 32)
    have HB16 := hid (below_deep HB14.out HG16.out)
    have HH16 := hid (holdR HX16.out (HP3.out.below HB16.out))
    have HXE := hid (HXD.out.below HG16.out)
    have HH146 := hid (HH14.out.below HG16.out)
    have hl16 : A.heap.size ≤ A14.heap.size := HB14.out.size
    have hne : b14 ≠ A14.heap.size := by
      obtain ⟨_, _, _, _, _, _, _, _, _, _, _, _, _, _, _, _, h1, _⟩ := HH14.out
      have := h1.lt
      omega
    obtain ⟨x0, x1, x2, x3, x4, x5, x6⟩ := HXD.out.cells7
    have hxl : b3 < A14.heap.size := HXD.out.lt
    go_upto_region 11 with fail
    clear x0 x1 x2 x3 x4 x5 x6 hxl HXD HH14 HB14 HG16 HX16
    generalize A14.alloc (.cells (repA cb3 cn3 cc3 db3 dn3 dc3 sb3 sn3 sc3 eb3 en3 ec3 r.eng.base r.next ab3 an3 ac3) 32) = A16 at *
    generalize A14.heap.size = b16 at *
    have PR := hid (refReady_calls HGR.out.eng HFW.out (.agg (engA cb3 cn3 cc3 db3 dn3 dc3 sb3 sn3 sc3 eb3 en3 ec3 r.eng.base)) A16 (HEI.out A16 HB16.out))
    obtain ⟨x0, x1, x2, x3, x4, x5, x6⟩ := HXE.out.cells7
    have hxl : b3 < A16.heap.size := HXE.out.lt
    go_wp2_with fail
    refine PR.out.mono ?_
    rintro _ w17 ⟨nb, nn, nc, rfl, hn17, hb17⟩
    have HN17 := hid hn17
    have HB17 := hid (below_deep HB16.out hb17)
    have HXF := hid (HXE.out.below hb17)
    have HH14 := hid (HH146.out.below hb17)
    have HH16b := hid (HH16.out.below hb17)
    have hnm := Nat.le_trans hn17.hdr.le hn17.hdr.max
    unfold maxLen at hnm
    have HNN : Hid (nn = (readyE r.eng).length) := by
      show _ = _
      have := Ints.count HN17.out
      simpa [ints] using this
    clear hn17 hb17 PR x0 x1 x2 x3 x4 x5 x6 hxl HXE HH146 HH16 HB16
    obtain ⟨x0, x1, x2, x3, x4, x5, x6⟩ := HXF.out.cells7
    have hxl : b3 < w17.heap.size := HXF.out.lt
    go_upto_region 12 with fail
    go_cut [77] (fun cv wx => cv = .bool (decide (0 ≤ n ∧ n < (nn : Int))) ∧ w17 = wx)
    case first =>
      by_cases hneg : 0 ≤ n
      · by_cases hlt : n < (nn : Int)
        · have d1 : decide (n < (nn : Int)) = true := decide_eq_true hlt
          have d0 : decide (0 ≤ n) = true := decide_eq_true hneg
          go_wp2
          go_meet
          case rel => exact ⟨congrArg Value.bool (decide_eq_true (p := 0 ≤ n ∧ n < (nn : Int)) ⟨hneg, hlt⟩).symm, rfl⟩
        · have d1 : decide (n < (nn : Int)) = false := decide_eq_false hlt
          have d0 : decide (0 ≤ n) = true := decide_eq_true hneg
          go_wp2
          go_meet
          case rel => exact ⟨congrArg Value.bool (decide_eq_false (p := 0 ≤ n ∧ n < (nn : Int)) fun h => by omega).symm, rfl⟩
      · have d0 : decide (0 ≤ n) = false := decide_eq_false hneg
        go_wp2
        go_meet
        case rel => exact ⟨congrArg Value.bool (decide_eq_false (p := 0 ≤ n ∧ n < (nn : Int)) fun h => by omega).symm, rfl⟩
    case rest =>
      obtain ⟨rfl, rfl⟩ := hcut
      go_upto_if 77 with fail
      go_cut [17] (fun qv wx => qv = .int .i64 gq ∧ Hid (HoldR A wx b16 ga) ∧ Hid (HoldR A wx b14 ga) ∧ Hid (Below A.heap.size A wx))
      case first =>
        by_cases hq : 0 ≤ n ∧ n < nn
        · have tq77 : decide (0 ≤ n ∧ n < (nn : Int)) = true := decide_eq_true hq
          rw [tq77]
          clear tq77
          obtain ⟨q, rfl⟩ : ∃ q : Nat, n = (q : Int) := ⟨n.toNat, by omega⟩
          have hqn : q < nn := by omega
          have hqi : (q : Int) < (nn : Int) := by omega
          have hq1 : (0 : Int) ≤ (q : Int) := by omega
          have dq1 : decide ((q : Int) < (nn : Int)) = true := by simpa using hqn
          have hqr : q < (readyE r.eng).length := by rw [← HNN.out]; exact hqn
          have hql : q < (ints (readyE r.eng)).length := by simpa [ints] using hqr
          obtain ⟨b5, o5, rfl, hr5⟩ : ∃ b5 o5, nb = some ⟨b5, o5, none⟩ ∧ Run w17 b5 o5 (intsC (ints (readyE r.eng))) := by
            rcases HN17.out.run with h | h
            · omega
            · exact h
          have hgd : (ints (readyE r.eng)).getD q 0 = (((readyE r.eng).getD q 0 : Nat) : Int) := by simp [ints, List.getD, hqr]
          have c5 := hr5 q _ (intsC_at hql)
          rw [hgd] at c5
          have hmem : (readyE r.eng).getD q 0 ∈ readyE r.eng := by
            rw [List.getD_eq_getElem?_getD, List.getElem?_eq_getElem hqr]
            exact List.getElem_mem hqr
          have hrg := ready_goE HGR.out.eng hmem
          have hgo : (ga, gq) = ((⟨goE r.eng ((readyE r.eng).getD q 0), r.next, r.early⟩ : Rep), (0 : Int)) := by
            rw [← HGO.out]
            unfold goR
            rw [if_pos ⟨hq1, by rw [← HNN.out]; exact hqi⟩, Int.toNat_natCast]
          have hb5 : b5 < w17.heap.size := by simpa using World.block_lt_of_cell? _ _ c5
          have PGE : Hid (∀ W, Below w17.heap.size w17 W → Calls Tryz.prog 13 #[.agg (engA cb3 cn3 cc3 db3 dn3 dc3 sb3 sn3 sc3 eb3 en3 ec3 r.eng.base), .int .i64 (((readyE r.eng).getD q 0 : Nat) : Int)] W fun x w' => ∃ cb2 cn2 cc2 db2 dn2 dc2 sb2 sn2 sc2 eb2 en2 ec2, x = .returned (.tuple #[.agg (engA cb2 cn2 cc2 db2 dn2 dc2 sb2 sn2 sc2 eb2 en2 ec2 (goE r.eng ((readyE r.eng).getD q 0)).base), .int .i64 0]) ∧ EngLies w' cb2 cn2 cc2 db2 dn2 dc2 sb2 sn2 sc2 eb2 en2 ec2 (goE r.eng ((readyE r.eng).getD q 0)) ∧ Below W.heap.size W w') := fun W hW => by
            refine (refGoE_calls HGR.out.eng HFW.out (((readyE r.eng).getD q 0 : Nat) : Int) (.agg (engA cb3 cn3 cc3 db3 dn3 dc3 sb3 sn3 sc3 eb3 en3 ec3 r.eng.base)) W (HEI.out W (below_deep HB17.out hW))).mono ?_
            rintro x w' ⟨v, hx, hv, hb⟩
            rw [hrg] at hx hv
            obtain ⟨cb2, cn2, cc2, db2, dn2, dc2, sb2, sn2, sc2, eb2, en2, ec2, rfl, hl2⟩ := hv
            exact ⟨cb2, cn2, cc2, db2, dn2, dc2, sb2, sn2, sc2, eb2, en2, ec2, hx, hl2, hb⟩
          clear hr5 hgd hmem hrg hql hqr hq HNN HN17 HGO
          generalize goE r.eng ((readyE r.eng).getD q 0) = E at *
          generalize (((readyE r.eng).getD q 0 : Nat) : Int) = zq at *
          injection hgo with hgo1 hgo2
          subst hgo1 hgo2
          have HDR := hid (step_drew (Below.refl w17.heap.size w17))
          have hlt16 : b16 < w17.heap.size := by
            obtain ⟨_, _, _, _, _, _, _, _, _, _, _, _, _, _, _, _, h1, _⟩ := HH16b.out
            exact h1.lt
          go_upto_region 13 with fail
          go_region_with ((go_at_call 13; refine (PGE.out _ HDR.out).mono ?_; rintro _ w18 ⟨cb2, cn2, cc2, db2, dn2, dc2, sb2, sn2, sc2, eb2, en2, ec2, rfl, hl18, hb18⟩; have hbw : Below w17.heap.size w17 w18 := below_deep HDR.out hb18; have HBX16 := hid (HH16b.out.below hbw); obtain ⟨_, _, _, _, _, _, _, _, _, _, _, _, _, _, _, _, hx18, _⟩ := HBX16.out; obtain ⟨u0, u1, u2, u3, u4, u5, u6⟩ := hx18.cells7; obtain ⟨f0, f1, f2, f3, f4, f5, f6⟩ := hx18.free7; have hul := hx18.lt))
          all_goals
            have H16 := hid (HoldR.put5 HH16b.out hbw hl18)
            have H14 := hid ((HH14.out.below hbw).off HBX16.out hne (put5_off w18 b16 (.slice cb2 cn2 cc2) (.slice db2 dn2 dc2) (.slice sb2 sn2 sc2) (.slice eb2 en2 ec2) (.int .i64 E.base)))
            have HBK := hid (put5_below (below_deep HB17.out hbw) hl16 (.slice cb2 cn2 cc2) (.slice db2 dn2 dc2) (.slice sb2 sn2 sc2) (.slice eb2 en2 ec2) (.int .i64 E.base))
            unfold put5 at H16 H14 HBK
            go_wp2
            go_meet
            exact ⟨rfl, H16, H14, HBK⟩
        · have hgo : (ga, gq) = (r, (6 : Int)) := by
            rw [← HGO.out]
            unfold goR
            rw [if_neg (by rw [← HNN.out]; exact hq)]
          injection hgo with hgo1 hgo2
          subst hgo1 hgo2
          have tq77 : decide (0 ≤ n ∧ n < (nn : Int)) = false := decide_eq_false hq
          rw [tq77]
          clear tq77
          go_wp2
          go_meet
          case rel => exact ⟨rfl, HH16b, HH14, HB17⟩
      case rest =>
        obtain ⟨rfl, H16, H14, HBY⟩ := hcut
        clear x0 x1 x2 x3 x4 x5 x6 hxl HH14 HH16b HGO HNN HN17
        obtain ⟨cb5, cn5, cc5, db5, dn5, dc5, sb5, sn5, sc5, eb5, en5, ec5, ab5, an5, ac5, S5, hx5, hp5⟩ := H14.out
        obtain ⟨cb6, cn6, cc6, db6, dn6, dc6, sb6, sn6, sc6, eb6, en6, ec6, ab6, an6, ac6, S6, hx6, hp6⟩ := H16.out
        have PS := hid (sameRep_calls ga (.agg (repA cb5 cn5 cc5 db5 dn5 dc5 sb5 sn5 sc5 eb5 en5 ec5 ga.eng.base ga.next ab5 an5 ac5)) (.agg (repA cb6 cn6 cc6 db6 dn6 dc6 sb6 sn6 sc6 eb6 en6 ec6 ga.eng.base ga.next ab6 an6 ac6)) wc ⟨_, _, _, _, _, _, _, _, _, _, _, _, _, _, _, rfl, hp5.lies HBY.out⟩ ⟨_, _, _, _, _, _, _, _, _, _, _, _, _, _, _, rfl, hp6.lies HBY.out⟩)
        have HXG : Hid (Box wc b3 (repA cb3 cn3 cc3 db3 dn3 dc3 sb3 sn3 sc3 eb3 en3 ec3 r.eng.base r.next ab3 an3 ac3) 32) := hid (HX3.out.below HBY.out)
        obtain ⟨x0, x1, x2, x3, x4, x5, x6⟩ := hx5.cells7
        obtain ⟨y0, y1, y2, y3, y4, y5, y6⟩ := hx6.cells7
        have hxl : b14 < wc.heap.size := hx5.lt
        have hyl : b16 < wc.heap.size := hx6.lt
        have tq : (gq == gq) = true := by simp
        clear hx5 hx6 hp5 hp6 H14 H16
        go_wp2_with fail
        refine PS.out.mono ?_
        rintro _ w19 ⟨rfl, hb19⟩
        have HB19 := hid (below_deep HBY.out hb19)
        have HXH := hid (HX3.out.below HB19.out)
        clear hb19 PS x0 x1 x2 x3 x4 x5 x6 y0 y1 y2 y3 y4 y5 y6 hxl hyl HXG HBY
        obtain ⟨x0, x1, x2, x3, x4, x5, x6⟩ := HXH.out.cells7
        have hxl : b3 < w19.heap.size := HXH.out.lt
        go_upto_region 17 with fail
        have HG20 := hid (grew w19 (.cells (repA cb3 cn3 cc3 db3 dn3 dc3 sb3 sn3 sc3 eb3 en3 ec3 r.eng.base r.next ab3 an3 ac3) 32))
        have HX20 := hid (Box.new w19 (repA cb3 cn3 cc3 db3 dn3 dc3 sb3 sn3 sc3 eb3 en3 ec3 r.eng.base r.next ab3 an3 ac3) 32)
        have HB20 := hid (below_deep HB19.out HG20.out)
        have HH20 := hid (holdR HX20.out (HP3.out.below HB20.out))
        have HXI := hid (HXH.out.below HG20.out)
        have hl20 : A.heap.size ≤ w19.heap.size := HB19.out.size
        clear x0 x1 x2 x3 x4 x5 x6 hxl HXH HB19 HG20
        generalize w19.alloc (.cells (repA cb3 cn3 cc3 db3 dn3 dc3 sb3 sn3 sc3 eb3 en3 ec3 r.eng.base r.next ab3 an3 ac3) 32) = A20 at *
        generalize w19.heap.size = b20 at *
        have PCL := hid (refClearE_calls HGR.out.eng HFW.out (.agg (engA cb3 cn3 cc3 db3 dn3 dc3 sb3 sn3 sc3 eb3 en3 ec3 r.eng.base)) A20 (HEI.out A20 HB20.out))
        obtain ⟨x0, x1, x2, x3, x4, x5, x6⟩ := HXI.out.cells7
        have hxl : b3 < A20.heap.size := HXI.out.lt
        obtain ⟨E, hE⟩ : ∃ E, clearE r.eng (markE r.eng) = E := ⟨_, rfl⟩
        have HE := hid hE
        rw [hE] at PCL
        clear hE
        go_wp2_with fail
        refine PCL.out.mono ?_
        rintro _ w21 ⟨v21, rfl, ⟨cb8, cn8, cc8, db8, dn8, dc8, sb8, sn8, sc8, eb8, en8, ec8, rfl, hl21⟩, hb21⟩
        have H20 := hid (HoldR.put5 HH20.out hb21 hl21)
        have HB21 := hid (put5_below (below_deep HB20.out hb21) hl20 (.slice cb8 cn8 cc8) (.slice db8 dn8 dc8) (.slice sb8 sn8 sc8) (.slice eb8 en8 ec8) (.int .i64 E.base))
        obtain ⟨u0, u1, u2, u3, u4, u5, u6⟩ := (HX20.out.below hb21).cells7
        obtain ⟨f0, f1, f2, f3, f4, f5, f6⟩ := (HX20.out.below hb21).free7
        have hul : b20 < w21.heap.size := (HX20.out.below hb21).lt
        unfold put5 at H20 HB21
        clear hb21 hl21 PCL x0 x1 x2 x3 x4 x5 x6 hxl HXI HH20
        go_upto_region 18 with fail
        generalize (((((w21.setCell ⟨b20, 0, none⟩ (.slice cb8 cn8 cc8)).setCell ⟨b20, 1, none⟩ (.slice db8 dn8 dc8)).setCell ⟨b20, 2, none⟩ (.slice sb8 sn8 sc8)).setCell ⟨b20, 3, none⟩ (.slice eb8 en8 ec8)).setCell ⟨b20, 4, none⟩ (.int .i64 E.base)) = A21 at *
        clear u0 u1 u2 u3 u4 u5 u6 f0 f1 f2 f3 f4 f5 f6 hul HX20 HB20
        have HX21 := hid (HX3.out.below HB21.out)
        obtain ⟨x0, x1, x2, x3, x4, x5, x6⟩ := HX21.out.cells7
        have hxl : b3 < A21.heap.size := HX21.out.lt
        have C0 := hid (step_drew (Below.refl A21.heap.size A21))
        have hst : r.eng.state.length ≤ 1954687338211 := by rw [HGR.out.eng.slen, HGR.out.eng.len]; have := HFW.out; omega
        obtain ⟨mk, hmk⟩ : ∃ mk : Int, ((markE r.eng : Nat) : Int) = mk := ⟨_, rfl⟩
        have PM := hid (fun W hW => refMark_calls r.eng (.agg (engA cb3 cn3 cc3 db3 dn3 dc3 sb3 sn3 sc3 eb3 en3 ec3 r.eng.base)) W (HEI.out W (below_deep HB21.out hW)) hst)
        have PSE := hid (fun W hW => refSeen_calls HGR.out.eng HFW.out (markE r.eng) (.agg (engA cb3 cn3 cc3 db3 dn3 dc3 sb3 sn3 sc3 eb3 en3 ec3 r.eng.base)) W (HEI.out W (below_deep HB21.out hW)))
        have PSP := hid (fun W hW => seenP_calls HGR.out.eng HFW.out (.agg (repA cb3 cn3 cc3 db3 dn3 dc3 sb3 sn3 sc3 eb3 en3 ec3 r.eng.base r.next ab3 an3 ac3)) W (HRI.out W (below_deep HB21.out hW)))
        have PCP := hid (fun W hW => clearP_calls HGR.out (.agg (repA cb3 cn3 cc3 db3 dn3 dc3 sb3 sn3 sc3 eb3 en3 ec3 r.eng.base r.next ab3 an3 ac3)) A W (HRI.out W (below_deep HB21.out hW)))
        unfold SeenTold at PSE
        unfold RepToldAt at PCP
        rw [HE.out] at PCP
        generalize seenTo r.eng (markE r.eng) = sr at *
        obtain ⟨sl, sq⟩ := sr
        rw [hmk] at PM PSE
        clear hmk hst
        have HS0 : Hid ((fun w' => w'.cell? ⟨b3, 0, none⟩ = some (.slice cb3 cn3 cc3) ∧ w'.cell? ⟨b3, 1, none⟩ = some (.slice db3 dn3 dc3) ∧ w'.cell? ⟨b3, 2, none⟩ = some (.slice sb3 sn3 sc3) ∧ w'.cell? ⟨b3, 3, none⟩ = some (.slice eb3 en3 ec3) ∧ w'.cell? ⟨b3, 4, none⟩ = some (.int .i64 r.eng.base) ∧ w'.cell? ⟨b3, 5, none⟩ = some (.int .i64 r.next) ∧ w'.cell? ⟨b3, 6, none⟩ = some (.slice ab3 an3 ac3) ∧ Below A21.heap.size A21 w') A21.drew) := svn_keep ⟨x0, x1, x2, x3, x4, x5, x6, Below.refl _ _⟩ C0.out
        go_region_held3 (fun w' => w'.cell? ⟨b3, 0, none⟩ = some (.slice cb3 cn3 cc3) ∧ w'.cell? ⟨b3, 1, none⟩ = some (.slice db3 dn3 dc3) ∧ w'.cell? ⟨b3, 2, none⟩ = some (.slice sb3 sn3 sc3) ∧ w'.cell? ⟨b3, 3, none⟩ = some (.slice eb3 en3 ec3) ∧ w'.cell? ⟨b3, 4, none⟩ = some (.int .i64 r.eng.base) ∧ w'.cell? ⟨b3, 5, none⟩ = some (.int .i64 r.next) ∧ w'.cell? ⟨b3, 6, none⟩ = some (.slice ab3 an3 ac3) ∧ Below A21.heap.size A21 w')
          (first
            | with_reducible exact HS0.out
            | with_reducible exact svn_keep (by assumption) (by assumption))
          (first
            | (go_at_call 16; refine (PM.out _ ?_).mono ?_; exact svn_held (by assumption); rintro _ w22 ⟨rfl, hb22⟩)
            | (go_at_call 15; refine (PSE.out _ ?_).mono ?_; exact svn_held (by assumption); rintro _ w23 ⟨b23, n23, c23, rfl, h23, hb23⟩))
        have HBV := hid (below_deep (below_deep C0.out hb22) hb23)
        have HB23 := hid (below_deep HB21.out HBV.out)
        have HH23 := hid h23
        have H23 := hid (H20.out.below HBV.out)
        have HX23 := hid (HX21.out.below HBV.out)
        clear h23 hb22 hb23 PM PSE HS0 C0 x0 x1 x2 x3 x4 x5 x6 hxl HX21 H20
        go_upto_region 19 with fail
        generalize w23 = A23 at *
        obtain ⟨cb9, cn9, cc9, db9, dn9, dc9, sb9, sn9, sc9, eb9, en9, ec9, ab9, an9, ac9, S9, hx9, hp9⟩ := H23.out
        obtain ⟨x0, x1, x2, x3, x4, x5, x6⟩ := HX23.out.cells7
        obtain ⟨y0, y1, y2, y3, y4, y5, y6⟩ := hx9.cells7
        simp only at y4 y5
        have hxl : b3 < A23.heap.size := HX23.out.lt
        have hyl : b20 < A23.heap.size := hx9.lt
        have C0 := hid (step_drew (Below.refl A23.heap.size A23))
        have HZI : Hid (∀ W, Below A23.heap.size A23 W → RepIn W (.agg (repA cb9 cn9 cc9 db9 dn9 dc9 sb9 sn9 sc9 eb9 en9 ec9 E.base r.next ab9 an9 ac9)) ⟨E, r.next, r.early⟩) := fun W hW => RepIn.below ⟨_, _, _, _, _, _, _, _, _, _, _, _, _, _, _, rfl, hp9.lies HB23.out⟩ hW
        have PSM := hid (fun b7 n7 c7 b8 n8 c8 W h1 h2 => same_holds sl b7 b8 n7 n8 c7 c8 W h1 h2)
        have HS0 : Hid ((fun w' => w'.cell? ⟨b3, 0, none⟩ = some (.slice cb3 cn3 cc3) ∧ w'.cell? ⟨b3, 1, none⟩ = some (.slice db3 dn3 dc3) ∧ w'.cell? ⟨b3, 2, none⟩ = some (.slice sb3 sn3 sc3) ∧ w'.cell? ⟨b3, 3, none⟩ = some (.slice eb3 en3 ec3) ∧ w'.cell? ⟨b3, 4, none⟩ = some (.int .i64 r.eng.base) ∧ w'.cell? ⟨b3, 5, none⟩ = some (.int .i64 r.next) ∧ w'.cell? ⟨b3, 6, none⟩ = some (.slice ab3 an3 ac3) ∧ w'.cell? ⟨b20, 0, none⟩ = some (.slice cb9 cn9 cc9) ∧ w'.cell? ⟨b20, 1, none⟩ = some (.slice db9 dn9 dc9) ∧ w'.cell? ⟨b20, 2, none⟩ = some (.slice sb9 sn9 sc9) ∧ w'.cell? ⟨b20, 3, none⟩ = some (.slice eb9 en9 ec9) ∧ w'.cell? ⟨b20, 4, none⟩ = some (.int .i64 E.base) ∧ w'.cell? ⟨b20, 5, none⟩ = some (.int .i64 r.next) ∧ w'.cell? ⟨b20, 6, none⟩ = some (.slice ab9 an9 ac9) ∧ Below A23.heap.size A23 w') A23.drew) :=
          many_keep ⟨x0, x1, x2, x3, x4, x5, x6, y0, y1, y2, y3, y4, y5, y6, Below.refl _ _⟩ C0.out
        clear hx9 hp9 H23
        go_region_held3 (fun w' => w'.cell? ⟨b3, 0, none⟩ = some (.slice cb3 cn3 cc3) ∧ w'.cell? ⟨b3, 1, none⟩ = some (.slice db3 dn3 dc3) ∧ w'.cell? ⟨b3, 2, none⟩ = some (.slice sb3 sn3 sc3) ∧ w'.cell? ⟨b3, 3, none⟩ = some (.slice eb3 en3 ec3) ∧ w'.cell? ⟨b3, 4, none⟩ = some (.int .i64 r.eng.base) ∧ w'.cell? ⟨b3, 5, none⟩ = some (.int .i64 r.next) ∧ w'.cell? ⟨b3, 6, none⟩ = some (.slice ab3 an3 ac3) ∧ w'.cell? ⟨b20, 0, none⟩ = some (.slice cb9 cn9 cc9) ∧ w'.cell? ⟨b20, 1, none⟩ = some (.slice db9 dn9 dc9) ∧ w'.cell? ⟨b20, 2, none⟩ = some (.slice sb9 sn9 sc9) ∧ w'.cell? ⟨b20, 3, none⟩ = some (.slice eb9 en9 ec9) ∧ w'.cell? ⟨b20, 4, none⟩ = some (.int .i64 E.base) ∧ w'.cell? ⟨b20, 5, none⟩ = some (.int .i64 r.next) ∧ w'.cell? ⟨b20, 6, none⟩ = some (.slice ab9 an9 ac9) ∧ Below A23.heap.size A23 w')
          (first
            | with_reducible exact HS0.out
            | with_reducible exact many_keep (by assumption) (by assumption))
          (first
            | (go_at_call 17; refine (PCP.out _ ?_).mono ?_; exact below_deep HBV.out (many_held (by assumption)); rintro _ w24 ⟨v24, rfl, hv24, hb24⟩; have hvi := hv24.in (below_deep (below_deep HB23.out C0.out) hb24))
            | (go_at_call 5; refine (sameRep_calls ⟨E, r.next, r.early⟩ v24 (.agg (repA cb9 cn9 cc9 db9 dn9 dc9 sb9 sn9 sc9 eb9 en9 ec9 E.base r.next ab9 an9 ac9)) _ ?_ ?_).mono ?_; exact hvi; exact HZI.out _ (many_held (by assumption)); rintro _ w25 ⟨rfl, hb25⟩)
            | (go_at_call 19; refine (PSP.out _ ?_).mono ?_; exact below_deep HBV.out (many_held (by assumption)); rintro _ w26 ⟨b26, n26, c26, rfl, h26, hb26⟩)
            | (go_at_call 18; refine (PSM.out _ _ _ _ _ _ _ ?_ ?_).mono ?_; exact h26; exact ((HH23.out.below C0.out).below (below_deep hb24 hb25)).below hb26; rintro _ w27 ⟨rfl, hb27⟩))
        have HBF := hid (below_deep HB3.out (below_deep HB23.out (below_deep C0.out (below_deep (below_deep hb24 hb25) (below_deep hb26 hb27)))))
        go_wp2
        go_ret
        exact ⟨rfl, HBF.out⟩
end Go.Proofs.YtagangiilcicpaeGreat
