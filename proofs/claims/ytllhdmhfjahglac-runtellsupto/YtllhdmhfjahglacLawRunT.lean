/-
  The walk of the statement PlanTells: the call returns true and changes nothing that was there.
  The walk of the statement RunTells: the call returns true and changes nothing that was there.
-/
import Derived.Test.YtllhdmhfjahglacRefBuild
import Derived.Test.YtllhdmhfjahglacRunMath
import Derived.Test.YtllhdmhfjahglacPlanNeeds
import Derived.Test.YtllhdmhfjahglacLawTells
namespace Go.Proofs.Ytllhdmhfjahglac
open Go.RowKit

theorem own_engTold {w w' : World} {e : Eng} {x : Ending} (h : OwnTold w w' w.heap.size e x) : EngTold w w' e x := by
  obtain ⟨cb, cn, cc, v1, v2, v3, rfl, he, hb⟩ := h
  obtain ⟨db, dc, sb, sc, eb, ec, rfl, rfl, rfl, hl⟩ := he.lies
  exact ⟨_, rfl, ⟨_, _, _, _, _, _, _, _, _, _, _, _, rfl, hl⟩, hb⟩
theorem sameTextsB (l : List ByteArray) (ba : Option Addr) (na ca : Nat) (bb : Option Addr) (nb cb : Nat) (w : World) (ha : Texts w ba na ca l) (hb : Texts w bb nb cb l) :
    Calls Try.prog 23 #[.slice ba na ca, .slice bb nb cb] w fun e w' => e = .returned (.bool true) ∧ Below w.heap.size w w' := by
  refine (sameTexts_calls l l ba na ca bb nb cb w ha hb).mono ?_
  rintro e w' ⟨rfl, q, rfl⟩
  exact ⟨by simp, below_drewN (Below.refl _ _) q⟩
theorem keep15 {A w1 w2 : World} {b c d : Nat} {x0 x1 x2 x3 x4 y0 y1 y2 y3 y4 z0 z1 z2 z3 z4 : Value}
    (h : w1.cell? ⟨b, 0, none⟩ = some x0 ∧ w1.cell? ⟨b, 1, none⟩ = some x1 ∧ w1.cell? ⟨b, 2, none⟩ = some x2 ∧ w1.cell? ⟨b, 3, none⟩ = some x3 ∧ w1.cell? ⟨b, 4, none⟩ = some x4 ∧ w1.cell? ⟨c, 0, none⟩ = some y0 ∧ w1.cell? ⟨c, 1, none⟩ = some y1 ∧ w1.cell? ⟨c, 2, none⟩ = some y2 ∧ w1.cell? ⟨c, 3, none⟩ = some y3 ∧ w1.cell? ⟨c, 4, none⟩ = some y4 ∧ w1.cell? ⟨d, 0, none⟩ = some z0 ∧ w1.cell? ⟨d, 1, none⟩ = some z1 ∧ w1.cell? ⟨d, 2, none⟩ = some z2 ∧ w1.cell? ⟨d, 3, none⟩ = some z3 ∧ w1.cell? ⟨d, 4, none⟩ = some z4 ∧ Below A.heap.size A w1) (hb : Below w1.heap.size w1 w2) :
    w2.cell? ⟨b, 0, none⟩ = some x0 ∧ w2.cell? ⟨b, 1, none⟩ = some x1 ∧ w2.cell? ⟨b, 2, none⟩ = some x2 ∧ w2.cell? ⟨b, 3, none⟩ = some x3 ∧ w2.cell? ⟨b, 4, none⟩ = some x4 ∧ w2.cell? ⟨c, 0, none⟩ = some y0 ∧ w2.cell? ⟨c, 1, none⟩ = some y1 ∧ w2.cell? ⟨c, 2, none⟩ = some y2 ∧ w2.cell? ⟨c, 3, none⟩ = some y3 ∧ w2.cell? ⟨c, 4, none⟩ = some y4 ∧ w2.cell? ⟨d, 0, none⟩ = some z0 ∧ w2.cell? ⟨d, 1, none⟩ = some z1 ∧ w2.cell? ⟨d, 2, none⟩ = some z2 ∧ w2.cell? ⟨d, 3, none⟩ = some z3 ∧ w2.cell? ⟨d, 4, none⟩ = some z4 ∧ Below A.heap.size A w2 := by
  obtain ⟨h0, h1, h2, h3, h4, k0, k1, k2, k3, k4, m0, m1, m2, m3, m4, hz⟩ := h
  exact ⟨kept_cell hb h0, kept_cell hb h1, kept_cell hb h2, kept_cell hb h3, kept_cell hb h4, kept_cell hb k0, kept_cell hb k1, kept_cell hb k2, kept_cell hb k3, kept_cell hb k4, kept_cell hb m0, kept_cell hb m1, kept_cell hb m2, kept_cell hb m3, kept_cell hb m4, below_deep hz hb⟩
theorem held15 {p0 p1 p2 p3 p4 p5 p6 p7 p8 p9 q0 q1 q2 q3 q4 : Prop} {B : Nat} {A w' : World} (h : p0 ∧ p1 ∧ p2 ∧ p3 ∧ p4 ∧ p5 ∧ p6 ∧ p7 ∧ p8 ∧ p9 ∧ q0 ∧ q1 ∧ q2 ∧ q3 ∧ q4 ∧ Below B A w') : Below B A w' := h.2.2.2.2.2.2.2.2.2.2.2.2.2.2.2
theorem keep8 {A w1 w2 : World} {b c : Nat} {x0 x1 x2 x3 x4 y0 y1 y2 : Value}
    (h : w1.cell? ⟨b, 0, none⟩ = some x0 ∧ w1.cell? ⟨b, 1, none⟩ = some x1 ∧ w1.cell? ⟨b, 2, none⟩ = some x2 ∧ w1.cell? ⟨b, 3, none⟩ = some x3 ∧ w1.cell? ⟨b, 4, none⟩ = some x4 ∧ w1.cell? ⟨c, 0, none⟩ = some y0 ∧ w1.cell? ⟨c, 1, none⟩ = some y1 ∧ w1.cell? ⟨c, 2, none⟩ = some y2 ∧ Below A.heap.size A w1) (hb : Below w1.heap.size w1 w2) :
    w2.cell? ⟨b, 0, none⟩ = some x0 ∧ w2.cell? ⟨b, 1, none⟩ = some x1 ∧ w2.cell? ⟨b, 2, none⟩ = some x2 ∧ w2.cell? ⟨b, 3, none⟩ = some x3 ∧ w2.cell? ⟨b, 4, none⟩ = some x4 ∧ w2.cell? ⟨c, 0, none⟩ = some y0 ∧ w2.cell? ⟨c, 1, none⟩ = some y1 ∧ w2.cell? ⟨c, 2, none⟩ = some y2 ∧ Below A.heap.size A w2 := by
  obtain ⟨h0, h1, h2, h3, h4, k0, k1, k2, hz⟩ := h
  exact ⟨kept_cell hb h0, kept_cell hb h1, kept_cell hb h2, kept_cell hb h3, kept_cell hb h4, kept_cell hb k0, kept_cell hb k1, kept_cell hb k2, below_deep hz hb⟩
theorem held8 {p0 p1 p2 p3 p4 p5 p6 p7 : Prop} {B : Nat} {A w' : World} (h : p0 ∧ p1 ∧ p2 ∧ p3 ∧ p4 ∧ p5 ∧ p6 ∧ p7 ∧ Below B A w') : Below B A w' := h.2.2.2.2.2.2.2.2

set_option maxHeartbeats 8000000 in
set_option maxRecDepth 100000 in
theorem planTells_calls (l : List Row) (BS : List (List Deed3)) (Pl : List Int) (L : List Deed3) (lb : Option Addr) (ln lc : Nat) (bb : Option Addr) (bn bc : Nat) (pb : Option Addr) (pn pc : Nat) (qb : Option Addr) (qn qc : Nat) (w : World)
    (hh : Holds w lb ln lc l) (hsm : Small l) (hbs : BatchesIn w bb bn bc BS) (hp : Ints w pb pn pc Pl) (hl : DeedsIn w qb qn qc L) (hN : manyB BS ≤ 1048576) (hL : L.length ≤ 1048576) :
    Calls Try.prog 4 #[.slice lb ln lc, .slice bb bn bc, .slice pb pn pc, .slice qb qn qc] w fun e w' => e = .returned (.bool true) ∧ Below w.heap.size w w' := by
  have HH := hid hh
  have HSM := hid hsm
  have HBS := hid hbs
  have HP := hid hp
  have HQ := hid hl
  have HN := hid hN
  have HLL := hid hL
  have HWR := hid (refWrong_holds l lb ln lc w hsm hh)
  clear hh hsm hbs hp hl hN hL
  go_enter Try.func4, Try.ntmps4
  go_wp2_with fail
  refine HWR.out.mono ?_
  rintro e w1 ⟨rfl, hb1⟩
  have HB1 := hid hb1
  clear hb1 HWR
  by_cases hz : wrong l = 0
  · rw [hz]
    have HR := hid (right_of hz)
    have PN := hid (planNew_calls l lb ln lc w1 HR.out HSM.out (HH.out.below HB1.out))
    clear hz
    go_wp2_with fail
    refine PN.out.mono ?_
    rintro x w2 ⟨v2, rfl, hv2, hb2⟩
    have HB2 := hid (below_deep HB1.out hb2)
    have HV2 := hid hv2
    have RN := hid (refNew_calls l lb ln lc w2 HR.out HSM.out (HH.out.below HB2.out))
    clear hv2 hb2 PN
    go_wp2_with fail
    refine RN.out.mono ?_
    rintro x w3 ⟨v3, rfl, hv3, hb3⟩
    have HB3 := hid (below_deep HB2.out hb3)
    have SE := hid (sameEng_calls (newE l) v2 v3 w3 (HV2.out.below hb3) hv3)
    clear hv3 hb3 RN HV2
    go_wp2_with fail
    refine SE.out.mono ?_
    rintro x w4 ⟨rfl, hb4⟩
    have HB4 := hid (below_deep HB3.out hb4)
    have RB := hid (refBuild_calls l BS Pl lb ln lc bb bn bc pb pn pc w4 HR.out HSM.out (HH.out.below HB4.out) (HBS.out.below HB4.out) (HP.out.below (by decide) HB4.out) (Nat.le_trans HN.out (by decide)))
    clear hb4 SE
    go_wp2_with fail
    refine RB.out.mono ?_
    rintro x w5 ⟨v5, D, m, dq, bq, e, rfl, G, hD, hv5, hb5⟩
    obtain ⟨cb, cn, cc, db, dn, dc, sb, sn, sc, eb, en, ec, rfl, hl5⟩ := hv5
    have HGD := hid G
    have HDN := hid (Nat.le_trans hD HN.out)
    have HGE := hid (grew w5 (.cells #[.slice cb cn cc, .slice db dn dc, .slice sb sn sc, .slice eb en ec, .int .i64 e.base] 42))
    have HBE := hid (Box.new w5 #[.slice cb cn cc, .slice db dn dc, .slice sb sn sc, .slice eb en ec, .int .i64 e.base] 42)
    have HLE := hid (hl5.below HGE.out)
    have HB5 := hid (below_deep HB4.out (below_deep hb5 HGE.out))
    clear G hD hl5 hb5 RB
    have PA := hid (planAdd_calls HGD.out L (by have := HDN.out; have := HLL.out; omega) _ qb qn qc _ ⟨_, _, _, _, _, _, _, _, _, _, _, _, rfl, HLE.out⟩ (HQ.out.below HB5.out))
    go_wp2_with fail
    refine PA.out.mono ?_
    generalize w5.alloc (.cells #[.slice cb cn cc, .slice db dn dc, .slice sb sn sc, .slice eb en ec, .int .i64 e.base] 42) = A5 at *
    generalize w5.heap.size = be at *
    rintro x w6 ⟨v6, rfl, hv6, hb6⟩
    obtain ⟨cb6, cn6, cc6, db6, dn6, dc6, sb6, sn6, sc6, eb6, en6, ec6, rfl, hl6⟩ := hv6
    have HG6 := hid (grew w6 (.cells #[.slice cb6 cn6 cc6, .slice db6 dn6 dc6, .slice sb6 sn6 sc6, .slice eb6 en6 ec6, .int .i64 (addTo e L).base] 42))
    have HX6 := hid (Box.new w6 #[.slice cb6 cn6 cc6, .slice db6 dn6 dc6, .slice sb6 sn6 sc6, .slice eb6 en6 ec6, .int .i64 (addTo e L).base] 42)
    have HL6 := hid (hl6.below HG6.out)
    have HA6 := hid (below_deep hb6 HG6.out)
    have HB6 := hid (below_deep HB5.out HA6.out)
    have HBE6 := hid (HBE.out.below HA6.out)
    have HLE6 := hid (HLE.out.below HA6.out)
    have hbl6 : be < w6.heap.size := (HBE.out.below hb6).lt
    have a60 := (HBE.out.below hb6).cell 0 _ rfl
    have a61 := (HBE.out.below hb6).cell 1 _ rfl
    have a62 := (HBE.out.below hb6).cell 2 _ rfl
    have a63 := (HBE.out.below hb6).cell 3 _ rfl
    have a64 := (HBE.out.below hb6).cell 4 _ rfl
    clear hl6 hb6 PA HBE HLE
    have RA := hid (refAddE_calls HGD.out L (by have := HDN.out; have := HLL.out; omega) _ qb qn qc _ ⟨_, _, _, _, _, _, _, _, _, _, _, _, rfl, HLE6.out⟩ (HQ.out.below HB6.out))
    generalize hwd : wDs L = wd at *
    go_wp2_with fail
    refine RA.out.mono ?_
    generalize w6.alloc (.cells #[.slice cb6 cn6 cc6, .slice db6 dn6 dc6, .slice sb6 sn6 sc6, .slice eb6 en6 ec6, .int .i64 (addTo e L).base] 42) = A6 at *
    generalize w6.heap.size = bx at *
    rintro x w7 ⟨v7, rfl, hv7, hb7⟩
    rw [hwd]
    obtain ⟨cb7, cn7, cc7, db7, dn7, dc7, sb7, sn7, sc7, eb7, en7, ec7, rfl, hl7⟩ := hv7
    have HG7 := hid (grew w7 (.cells #[.slice cb7 cn7 cc7, .slice db7 dn7 dc7, .slice sb7 sn7 sc7, .slice eb7 en7 ec7, .int .i64 (addTo e L).base] 42))
    have HX7 := hid (Box.new w7 #[.slice cb7 cn7 cc7, .slice db7 dn7 dc7, .slice sb7 sn7 sc7, .slice eb7 en7 ec7, .int .i64 (addTo e L).base] 42)
    have HL7 := hid (hl7.below HG7.out)
    have HA7 := hid (below_deep hb7 HG7.out)
    have HB7 := hid (below_deep HB6.out HA7.out)
    have HBE7 := hid (HBE6.out.below HA7.out)
    have HLE7 := hid (HLE6.out.below HA7.out)
    have HX67 := hid (HX6.out.below HA7.out)
    have HL67 := hid (HL6.out.below HA7.out)
    clear hl7 hb7 RA HBE6 HLE6 HX6 HL6 a60 a61 a62 a63 a64
    clear HG6 HG7 HA6 HA7
    go_upto_region 8 with fail
    generalize w7.alloc (.cells #[.slice cb7 cn7 cc7, .slice db7 dn7 dc7, .slice sb7 sn7 sc7, .slice eb7 en7 ec7, .int .i64 (addTo e L).base] 42) = A at *
    generalize w7.heap.size = bz at *
    have HDR := hid (step_drew (Below.refl A.heap.size A))
    have HS0 : Hid ((fun w' => w'.cell? ⟨be, 0, none⟩ = some (.slice cb cn cc) ∧ w'.cell? ⟨be, 1, none⟩ = some (.slice db dn dc) ∧ w'.cell? ⟨be, 2, none⟩ = some (.slice sb sn sc) ∧ w'.cell? ⟨be, 3, none⟩ = some (.slice eb en ec) ∧ w'.cell? ⟨be, 4, none⟩ = some (.int .i64 e.base) ∧ w'.cell? ⟨bx, 0, none⟩ = some (.slice cb6 cn6 cc6) ∧ w'.cell? ⟨bx, 1, none⟩ = some (.slice db6 dn6 dc6) ∧ w'.cell? ⟨bx, 2, none⟩ = some (.slice sb6 sn6 sc6) ∧ w'.cell? ⟨bx, 3, none⟩ = some (.slice eb6 en6 ec6) ∧ w'.cell? ⟨bx, 4, none⟩ = some (.int .i64 (addTo e L).base) ∧ w'.cell? ⟨bz, 0, none⟩ = some (.slice cb7 cn7 cc7) ∧ w'.cell? ⟨bz, 1, none⟩ = some (.slice db7 dn7 dc7) ∧ w'.cell? ⟨bz, 2, none⟩ = some (.slice sb7 sn7 sc7) ∧ w'.cell? ⟨bz, 3, none⟩ = some (.slice eb7 en7 ec7) ∧ w'.cell? ⟨bz, 4, none⟩ = some (.int .i64 (addTo e L).base) ∧ Below A.heap.size A w') A.drew) := by
      obtain ⟨a0, a1, a2, a3, a4⟩ := (HBE7.out.below HDR.out).cells5
      obtain ⟨b0, b1, b2, b3, b4⟩ := (HX67.out.below HDR.out).cells5
      obtain ⟨c0, c1, c2, c3, c4⟩ := (HX7.out.below HDR.out).cells5
      exact ⟨a0, a1, a2, a3, a4, b0, b1, b2, b3, b4, c0, c1, c2, c3, c4, HDR.out⟩
    have PXY : Hid (∀ W, Below A.heap.size A W → Calls Try.prog 13 #[.agg #[.slice cb6 cn6 cc6, .slice db6 dn6 dc6, .slice sb6 sn6 sc6, .slice eb6 en6 ec6, .int .i64 (addTo e L).base], .agg #[.slice cb7 cn7 cc7, .slice db7 dn7 dc7, .slice sb7 sn7 sc7, .slice eb7 en7 ec7, .int .i64 (addTo e L).base]] W fun x w' => x = .returned (.bool true) ∧ Below W.heap.size W w') := fun W hb =>
      sameEng_calls (addTo e L) _ _ W ⟨_, _, _, _, _, _, _, _, _, _, _, _, rfl, HL67.out.below hb⟩ ⟨_, _, _, _, _, _, _, _, _, _, _, _, rfl, HL7.out.below hb⟩
    have POW : Hid (∀ W, Below A.heap.size A W → Calls Try.prog 19 #[.agg #[.slice cb cn cc, .slice db dn dc, .slice sb sn sc, .slice eb en ec, .int .i64 e.base]] W fun x w' => EngTold W w' e x) := fun W hb =>
      (planOwn_calls HGD.out (by have := HDN.out; omega) _ W ⟨_, _, _, _, _, _, _, _, _, _, _, _, rfl, HLE7.out.below hb⟩).mono fun x w' h => own_engTold h
    have PSE : Hid (∀ v W, Below A.heap.size A W → EngIn W v e → Calls Try.prog 13 #[v, .agg #[.slice cb cn cc, .slice db dn dc, .slice sb sn sc, .slice eb en ec, .int .i64 e.base]] W fun x w' => x = .returned (.bool true) ∧ Below W.heap.size W w') := fun v W hb hv =>
      sameEng_calls e _ _ W hv ⟨_, _, _, _, _, _, _, _, _, _, _, _, rfl, HLE7.out.below hb⟩
    have t0 : (wd != wd) = false := by simp
    have t1 : (wd == wd) = true := by simp
    have hel : be < A.heap.size := HBE7.out.lt
    have hxl : bx < A.heap.size := HX67.out.lt
    have hzl : bz < A.heap.size := HX7.out.lt
    clear HL67 HL7 HX67 HX7 hwd hbl6
    go_region_held3 (fun w' => w'.cell? ⟨be, 0, none⟩ = some (.slice cb cn cc) ∧ w'.cell? ⟨be, 1, none⟩ = some (.slice db dn dc) ∧ w'.cell? ⟨be, 2, none⟩ = some (.slice sb sn sc) ∧ w'.cell? ⟨be, 3, none⟩ = some (.slice eb en ec) ∧ w'.cell? ⟨be, 4, none⟩ = some (.int .i64 e.base) ∧ w'.cell? ⟨bx, 0, none⟩ = some (.slice cb6 cn6 cc6) ∧ w'.cell? ⟨bx, 1, none⟩ = some (.slice db6 dn6 dc6) ∧ w'.cell? ⟨bx, 2, none⟩ = some (.slice sb6 sn6 sc6) ∧ w'.cell? ⟨bx, 3, none⟩ = some (.slice eb6 en6 ec6) ∧ w'.cell? ⟨bx, 4, none⟩ = some (.int .i64 (addTo e L).base) ∧ w'.cell? ⟨bz, 0, none⟩ = some (.slice cb7 cn7 cc7) ∧ w'.cell? ⟨bz, 1, none⟩ = some (.slice db7 dn7 dc7) ∧ w'.cell? ⟨bz, 2, none⟩ = some (.slice sb7 sn7 sc7) ∧ w'.cell? ⟨bz, 3, none⟩ = some (.slice eb7 en7 ec7) ∧ w'.cell? ⟨bz, 4, none⟩ = some (.int .i64 (addTo e L).base) ∧ Below A.heap.size A w')
      (first
        | exact HS0.out
        | with_reducible exact keep15 (by assumption) (by assumption))
      (first
        | (go_at_call 19; refine (POW.out _ ?_).mono ?_; exact held15 (by assumption); rintro x w9 ⟨v9, rfl, hv9, hb9⟩)
        | (go_at_call_of 13 v9; refine (PSE.out _ _ ?_ ?_).mono ?_; exact held15 (by assumption); exact hv9; rintro x w10 ⟨rfl, hb10⟩)
        | (go_at_call 13; refine (PXY.out _ ?_).mono ?_; exact held15 (by assumption); rintro x w8 ⟨rfl, hb8⟩))
    have HB10 := hid (below_deep (below_deep (below_deep HDR.out hb8) hb9) hb10)
    have HBT := hid (below_deep HB7.out HB10.out)
    have HBEX := hid (HBE7.out.below HB10.out)
    have HLEX := hid (HLE7.out.below HB10.out)
    clear hv9 hb8 hb9 hb10 PXY POW PSE HS0 HDR HB10 hel hxl hzl HBE7 HLE7 HB7 t0 t1
    generalize w10 = A2 at *
    have HDL := hid (HLEX.out.de.len)
    have HGL := hid HGD.out.len
    have hdm := Nat.le_trans HLEX.out.de.hdr.le HLEX.out.de.hdr.max
    unfold maxLen at hdm
    have hel : be < A2.heap.size := HBEX.out.lt
    have a1 := HBEX.out.cell 1 _ rfl
    go_wp2
    go_loopw [60] (fun i wr => ∃ j : Nat, j ≤ dn ∧ i = .int .i64 j ∧ Hid (Below A2.heap.size A2 wr)) (fun i _ => dn - (intOf i).toNat)
    case atStart => exact ⟨0, Nat.zero_le _, rfl, Below.refl _ _⟩
    case round =>
      obtain ⟨j, hj, rfl, HBR⟩ := hrel
      by_cases hlt : j < dn
      · have hi : (j : Int) < (dn : Int) := by omega
        have HMP : Hid (m + j < D.length) := by
          have h1 := HDL.out
          have h2 := HGL.out
          have h3 := HGD.out.le
          show _ < _
          omega
        rcases (HLEX.out.below HBR.out).de.run with h | ⟨d1, o1, rfl, hdr⟩
        · omega
        obtain ⟨rb, rn, rc, wb, wn, wc, xb, xn, xc, k0, k1, k2, hdi, hs1, hs2⟩ := hdr j hlt
        have hd1 : d1 < wr.heap.size := by simpa using World.block_lt_of_cell? _ _ k0
        have HRD : Hid (RightDD (e.deeds.getD j default)) := by show RightDD _; rw [HGD.out.deed]; exact rights_at HGD.out.right HMP.out
        have HGW := hid (grew wr (.cells #[.slice rb rn rc, .slice wb wn wc, .slice xb xn xc] 51))
        have HBD := hid (Box.new wr #[.slice rb rn rc, .slice wb wn wc, .slice xb xn xc] 51)
        have HDI := hid (hdi.below HGW.out)
        have HBA := hid (below_deep HBR.out HGW.out)
        clear hdi hs1 hs2 hdr
        go_upto_region 13 with fail
        clear k0 k1 k2 hd1
        generalize wr.alloc (.cells #[.slice rb rn rc, .slice wb wn wc, .slice xb xn xc] 51) = A3 at *
        generalize wr.heap.size = bd at *
        have HBE3 := hid (HBEX.out.below HBA.out)
        have HLE3 := hid (HLEX.out.below HBA.out)
        have HDR := hid (step_drew (Below.refl A3.heap.size A3))
        have HS0 : Hid ((fun w' => w'.cell? ⟨be, 0, none⟩ = some (.slice cb cn cc) ∧ w'.cell? ⟨be, 1, none⟩ = some (.slice (some ⟨d1, o1, none⟩) dn dc) ∧ w'.cell? ⟨be, 2, none⟩ = some (.slice sb sn sc) ∧ w'.cell? ⟨be, 3, none⟩ = some (.slice eb en ec) ∧ w'.cell? ⟨be, 4, none⟩ = some (.int .i64 e.base) ∧ w'.cell? ⟨bd, 0, none⟩ = some (.slice rb rn rc) ∧ w'.cell? ⟨bd, 1, none⟩ = some (.slice wb wn wc) ∧ w'.cell? ⟨bd, 2, none⟩ = some (.slice xb xn xc) ∧ Below A3.heap.size A3 w') A3.drew) := by
          obtain ⟨x0, x1, x2, x3, x4⟩ := (HBE3.out.below HDR.out).cells5
          have hbd := HBD.out.below HDR.out
          exact ⟨x0, x1, x2, x3, x4, hbd.cell 0 _ rfl, hbd.cell 1 _ rfl, hbd.cell 2 _ rfl, HDR.out⟩
        have P1 : Hid (∀ W, Below A3.heap.size A3 W → Calls Try.prog 21 #[.agg #[.slice cb cn cc, .slice (some ⟨d1, o1, none⟩) dn dc, .slice sb sn sc, .slice eb en ec, .int .i64 e.base], .int .i64 j] W fun x w' => IntsTold W w' (ints (needsE e j)) x) := fun W hb =>
          planNeeds_calls HGD.out (by have := HDN.out; omega) j HMP.out _ W ⟨_, _, _, _, _, _, _, _, _, _, _, _, rfl, HLE3.out.below hb⟩
        have P2 : Hid (∀ W, Below A3.heap.size A3 W → Calls Try.prog 22 #[.agg #[.slice cb cn cc, .slice (some ⟨d1, o1, none⟩) dn dc, .slice sb sn sc, .slice eb en ec, .int .i64 e.base], .int .i64 j] W fun x w' => IntsTold W w' (ints (needsE e j)) x) := fun W hb =>
          refNeeds_calls HGD.out (by have := HDN.out; omega) j HMP.out _ W ⟨_, _, _, _, _, _, _, _, _, _, _, _, rfl, HLE3.out.below hb⟩
        have P3 : Hid (∀ W, Below A3.heap.size A3 W → Calls Try.prog 24 #[.agg #[.slice rb rn rc, .slice wb wn wc, .slice xb xn xc]] W fun x w' => ∃ b n c, x = .returned (.slice b n c) ∧ Texts w' b n c (keysD (e.deeds.getD j default)) ∧ Below W.heap.size W w') := fun W hb =>
          planKeys_calls (e.deeds.getD j default) rb rn rc wb wn wc xb xn xc W (HDI.out.below hb) HRD.out
        have P4 : Hid (∀ W, Below A3.heap.size A3 W → Calls Try.prog 25 #[.agg #[.slice rb rn rc, .slice wb wn wc, .slice xb xn xc]] W fun x w' => ∃ b n c, x = .returned (.slice b n c) ∧ Texts w' b n c (keysD (e.deeds.getD j default)) ∧ Below W.heap.size W w') := fun W hb =>
          refKeys_calls (e.deeds.getD j default) rb rn rc wb wn wc xb xn xc W (HDI.out.below hb) (by rw [Texts.count HDI.out.tr]; exact wKeys_len HRD.out.r) (by rw [Texts.count HDI.out.tw]; exact wKeys_len HRD.out.w)
        have hel3 : be < A3.heap.size := HBE3.out.lt
        have hdl3 : bd < A3.heap.size := HBD.out.lt
        have HZ := hid (below_deep HBA.out HDR.out)
        generalize ints (needsE e j) = IL at *
        generalize keysD (e.deeds.getD j default) = KL at *
        clear HBE3 HLE3 HBD HDI HRD HGW HBR a1
        go_region_held3 (fun w' => w'.cell? ⟨be, 0, none⟩ = some (.slice cb cn cc) ∧ w'.cell? ⟨be, 1, none⟩ = some (.slice (some ⟨d1, o1, none⟩) dn dc) ∧ w'.cell? ⟨be, 2, none⟩ = some (.slice sb sn sc) ∧ w'.cell? ⟨be, 3, none⟩ = some (.slice eb en ec) ∧ w'.cell? ⟨be, 4, none⟩ = some (.int .i64 e.base) ∧ w'.cell? ⟨bd, 0, none⟩ = some (.slice rb rn rc) ∧ w'.cell? ⟨bd, 1, none⟩ = some (.slice wb wn wc) ∧ w'.cell? ⟨bd, 2, none⟩ = some (.slice xb xn xc) ∧ Below A3.heap.size A3 w')
          (first
            | exact HS0.out
            | with_reducible exact keep8 (by assumption) (by assumption))
          (first
            | (go_at_call 21; refine (P1.out _ ?_).mono ?_; exact held8 (by assumption); rintro x w3 ⟨b3, n3, c3, rfl, h3, hb3⟩)
            | (go_at_call 22; refine (P2.out _ ?_).mono ?_; exact held8 (by assumption); rintro x w4 ⟨b4, n4, c4, rfl, h4, hb4⟩)
            | (go_at_call 20; refine (sameInts_calls IL b3 n3 c3 b4 n4 c4 _ ?_ ?_).mono ?_; exact h3.below (by decide) hb4; exact h4; rintro x w5 ⟨rfl, hb5⟩)
            | (go_at_call 24; refine (P3.out _ ?_).mono ?_; exact held8 (by assumption); rintro x w6 ⟨b6, n6, c6, rfl, h6, hb6⟩)
            | (go_at_call 25; refine (P4.out _ ?_).mono ?_; exact held8 (by assumption); rintro x w7 ⟨b7, n7, c7, rfl, h7, hb7⟩)
            | (go_at_call 23; refine (sameTextsB KL b6 n6 c6 b7 n7 c7 _ ?_ ?_).mono ?_; exact h6.below (by decide) hb7; exact h7; rintro x w8 ⟨rfl, hb8⟩))
        have HBF := hid (below_deep (below_deep (below_deep (below_deep (below_deep (below_deep HZ.out hb3) hb4) hb5) hb6) hb7) hb8)
        clear h3 h4 h6 h7 hb3 hb4 hb5 hb6 hb7 hb8 P1 P2 P3 P4 HS0 HDR HZ
        go_wp2
        go_roundw
        case rel => exact ⟨j + 1, by omega, by go_num, HBF⟩
        case measure => simp [intOf]; omega
      · obtain rfl : j = dn := by omega
        go_wp2
        go_ret
        exact ⟨rfl, below_deep HBT.out HBR.out⟩
  · have t := ne_true hz
    clear hz
    generalize wrong l = q at *
    go_wp2
    go_ret
    exact ⟨rfl, HB1.out⟩
end Go.Proofs.Ytllhdmhfjahglac

namespace Go.Proofs.Ytllhdmhfjahglac
open Go.RowKit

set_option maxHeartbeats 8000000 in
set_option maxRecDepth 100000 in
theorem runTells_calls (l : List Row) (BS : List (List Deed3)) (Pl : List Int) (at_ : Int) (lb : Option Addr) (ln lc : Nat) (bb : Option Addr) (bn bc : Nat) (pb : Option Addr) (pn pc : Nat) (w : World)
    (hh : Holds w lb ln lc l) (hsm : Small l) (hbs : BatchesIn w bb bn bc BS) (hp : Ints w pb pn pc Pl) (hN : manyB BS ≤ 1048576) :
    Calls Try.prog 5 #[.slice lb ln lc, .slice bb bn bc, .slice pb pn pc, .int .i64 at_] w fun e w' => e = .returned (.bool true) ∧ Below w.heap.size w w' := by
  have HH := hid hh
  have HSM := hid hsm
  have HBS := hid hbs
  have HP := hid hp
  have HN := hid hN
  have HWR := hid (refWrong_holds l lb ln lc w hsm hh)
  clear hh hsm hbs hp hN
  go_enter Try.func5, Try.ntmps5
  go_wp2_with fail
  refine HWR.out.mono ?_
  rintro e w1 ⟨rfl, hb1⟩
  have HB1 := hid hb1
  clear hb1 HWR
  by_cases hz : wrong l = 0
  · rw [hz]
    have HR := hid (right_of hz)
    clear hz
    have RB := hid (refBuild_calls l BS Pl lb ln lc bb bn bc pb pn pc w1 HR.out HSM.out (HH.out.below HB1.out) (HBS.out.below HB1.out) (HP.out.below (by decide) HB1.out) (Nat.le_trans HN.out (by decide)))
    go_wp2_with fail
    refine RB.out.mono ?_
    rintro x w5 ⟨v5, D, m, dq, bq, e, rfl, G, hD, hv5, hb5⟩
    obtain ⟨cb, cn, cc, db, dn, dc, sb, sn, sc, eb, en, ec, rfl, hl5⟩ := hv5
    have HGD := hid G
    have HDN := hid (Nat.le_trans hD HN.out)
    have HGE := hid (grew w5 (.cells #[.slice cb cn cc, .slice db dn dc, .slice sb sn sc, .slice eb en ec, .int .i64 e.base] 42))
    have HBE := hid (Box.new w5 #[.slice cb cn cc, .slice db dn dc, .slice sb sn sc, .slice eb en ec, .int .i64 e.base] 42)
    have HLE := hid (hl5.below HGE.out)
    have HB5 := hid (below_deep HB1.out (below_deep hb5 HGE.out))
    clear G hD hl5 hb5 RB
    have PA := hid (runGo_calls HGD.out (by have := HDN.out; omega) at_ _ _ ⟨_, _, _, _, _, _, _, _, _, _, _, _, rfl, HLE.out⟩)
    go_wp2_with fail
    refine PA.out.mono ?_
    generalize w5.alloc (.cells #[.slice cb cn cc, .slice db dn dc, .slice sb sn sc, .slice eb en ec, .int .i64 e.base] 42) = A5 at *
    generalize w5.heap.size = be at *
    rintro x w6 ⟨v6, rfl, hv6, hb6⟩
    obtain ⟨cb6, cn6, cc6, db6, dn6, dc6, sb6, sn6, sc6, eb6, en6, ec6, rfl, hl6⟩ := hv6
    have HG6 := hid (grew w6 (.cells #[.slice cb6 cn6 cc6, .slice db6 dn6 dc6, .slice sb6 sn6 sc6, .slice eb6 en6 ec6, .int .i64 (goTo e at_).1.base] 42))
    have HX6 := hid (Box.new w6 #[.slice cb6 cn6 cc6, .slice db6 dn6 dc6, .slice sb6 sn6 sc6, .slice eb6 en6 ec6, .int .i64 (goTo e at_).1.base] 42)
    have HL6 := hid (hl6.below HG6.out)
    have HA6 := hid (below_deep hb6 HG6.out)
    have HB6 := hid (below_deep HB5.out HA6.out)
    have HBE6 := hid (HBE.out.below HA6.out)
    have HLE6 := hid (HLE.out.below HA6.out)
    have hbl6 : be < w6.heap.size := (HBE.out.below hb6).lt
    have a60 := (HBE.out.below hb6).cell 0 _ rfl
    have a61 := (HBE.out.below hb6).cell 1 _ rfl
    have a62 := (HBE.out.below hb6).cell 2 _ rfl
    have a63 := (HBE.out.below hb6).cell 3 _ rfl
    have a64 := (HBE.out.below hb6).cell 4 _ rfl
    clear hl6 hb6 PA HBE HLE
    have RA := hid (refGoE_calls HGD.out (by have := HDN.out; omega) at_ _ _ ⟨_, _, _, _, _, _, _, _, _, _, _, _, rfl, HLE6.out⟩)
    generalize hwd : (goTo e at_).2 = wd at *
    go_wp2_with fail
    refine RA.out.mono ?_
    generalize w6.alloc (.cells #[.slice cb6 cn6 cc6, .slice db6 dn6 dc6, .slice sb6 sn6 sc6, .slice eb6 en6 ec6, .int .i64 (goTo e at_).1.base] 42) = A6 at *
    generalize w6.heap.size = bx at *
    rintro x w7 ⟨v7, rfl, hv7, hb7⟩
    rw [hwd]
    obtain ⟨cb7, cn7, cc7, db7, dn7, dc7, sb7, sn7, sc7, eb7, en7, ec7, rfl, hl7⟩ := hv7
    have HG7 := hid (grew w7 (.cells #[.slice cb7 cn7 cc7, .slice db7 dn7 dc7, .slice sb7 sn7 sc7, .slice eb7 en7 ec7, .int .i64 (goTo e at_).1.base] 42))
    have HX7 := hid (Box.new w7 #[.slice cb7 cn7 cc7, .slice db7 dn7 dc7, .slice sb7 sn7 sc7, .slice eb7 en7 ec7, .int .i64 (goTo e at_).1.base] 42)
    have HL7 := hid (hl7.below HG7.out)
    have HA7 := hid (below_deep hb7 HG7.out)
    have HB7 := hid (below_deep HB6.out HA7.out)
    have HBE7 := hid (HBE6.out.below HA7.out)
    have HLE7 := hid (HLE6.out.below HA7.out)
    have HX67 := hid (HX6.out.below HA7.out)
    have HL67 := hid (HL6.out.below HA7.out)
    clear hl7 hb7 RA HBE6 HLE6 HX6 HL6 a60 a61 a62 a63 a64
    clear HG6 HG7 HA6 HA7
    go_upto_region 6 with fail
    generalize w7.alloc (.cells #[.slice cb7 cn7 cc7, .slice db7 dn7 dc7, .slice sb7 sn7 sc7, .slice eb7 en7 ec7, .int .i64 (goTo e at_).1.base] 42) = A at *
    generalize w7.heap.size = bz at *
    have HDR := hid (step_drew (Below.refl A.heap.size A))
    have HS0 : Hid ((fun w' => w'.cell? ⟨be, 0, none⟩ = some (.slice cb cn cc) ∧ w'.cell? ⟨be, 1, none⟩ = some (.slice db dn dc) ∧ w'.cell? ⟨be, 2, none⟩ = some (.slice sb sn sc) ∧ w'.cell? ⟨be, 3, none⟩ = some (.slice eb en ec) ∧ w'.cell? ⟨be, 4, none⟩ = some (.int .i64 e.base) ∧ w'.cell? ⟨bx, 0, none⟩ = some (.slice cb6 cn6 cc6) ∧ w'.cell? ⟨bx, 1, none⟩ = some (.slice db6 dn6 dc6) ∧ w'.cell? ⟨bx, 2, none⟩ = some (.slice sb6 sn6 sc6) ∧ w'.cell? ⟨bx, 3, none⟩ = some (.slice eb6 en6 ec6) ∧ w'.cell? ⟨bx, 4, none⟩ = some (.int .i64 (goTo e at_).1.base) ∧ w'.cell? ⟨bz, 0, none⟩ = some (.slice cb7 cn7 cc7) ∧ w'.cell? ⟨bz, 1, none⟩ = some (.slice db7 dn7 dc7) ∧ w'.cell? ⟨bz, 2, none⟩ = some (.slice sb7 sn7 sc7) ∧ w'.cell? ⟨bz, 3, none⟩ = some (.slice eb7 en7 ec7) ∧ w'.cell? ⟨bz, 4, none⟩ = some (.int .i64 (goTo e at_).1.base) ∧ Below A.heap.size A w') A.drew) := by
      obtain ⟨a0, a1, a2, a3, a4⟩ := (HBE7.out.below HDR.out).cells5
      obtain ⟨b0, b1, b2, b3, b4⟩ := (HX67.out.below HDR.out).cells5
      obtain ⟨c0, c1, c2, c3, c4⟩ := (HX7.out.below HDR.out).cells5
      exact ⟨a0, a1, a2, a3, a4, b0, b1, b2, b3, b4, c0, c1, c2, c3, c4, HDR.out⟩
    have PXY : Hid (∀ W, Below A.heap.size A W → Calls Try.prog 13 #[.agg #[.slice cb6 cn6 cc6, .slice db6 dn6 dc6, .slice sb6 sn6 sc6, .slice eb6 en6 ec6, .int .i64 (goTo e at_).1.base], .agg #[.slice cb7 cn7 cc7, .slice db7 dn7 dc7, .slice sb7 sn7 sc7, .slice eb7 en7 ec7, .int .i64 (goTo e at_).1.base]] W fun x w' => x = .returned (.bool true) ∧ Below W.heap.size W w') := fun W hb =>
      sameEng_calls (goTo e at_).1 _ _ W ⟨_, _, _, _, _, _, _, _, _, _, _, _, rfl, HL67.out.below hb⟩ ⟨_, _, _, _, _, _, _, _, _, _, _, _, rfl, HL7.out.below hb⟩
    have P1 : Hid (∀ W, Below A.heap.size A W → Calls Try.prog 28 #[.agg #[.slice cb cn cc, .slice db dn dc, .slice sb sn sc, .slice eb en ec, .int .i64 e.base]] W fun x w' => IntsTold W w' (ints (readyE e)) x) := fun W hb =>
      runReady_calls HGD.out (by have := HDN.out; omega) _ W ⟨_, _, _, _, _, _, _, _, _, _, _, _, rfl, HLE7.out.below hb⟩
    have P2 : Hid (∀ W, Below A.heap.size A W → Calls Try.prog 29 #[.agg #[.slice cb cn cc, .slice db dn dc, .slice sb sn sc, .slice eb en ec, .int .i64 e.base]] W fun x w' => IntsTold W w' (ints (readyE e)) x) := fun W hb =>
      refReady_calls HGD.out (by have := HDN.out; omega) _ W ⟨_, _, _, _, _, _, _, _, _, _, _, _, rfl, HLE7.out.below hb⟩
    have t1 : (wd == wd) = true := by simp
    have hel : be < A.heap.size := HBE7.out.lt
    have hxl : bx < A.heap.size := HX67.out.lt
    have hzl : bz < A.heap.size := HX7.out.lt
    clear HL67 HL7 HX67 HX7 hwd hbl6
    generalize ints (readyE e) = IL at *
    go_region_held3 (fun w' => w'.cell? ⟨be, 0, none⟩ = some (.slice cb cn cc) ∧ w'.cell? ⟨be, 1, none⟩ = some (.slice db dn dc) ∧ w'.cell? ⟨be, 2, none⟩ = some (.slice sb sn sc) ∧ w'.cell? ⟨be, 3, none⟩ = some (.slice eb en ec) ∧ w'.cell? ⟨be, 4, none⟩ = some (.int .i64 e.base) ∧ w'.cell? ⟨bx, 0, none⟩ = some (.slice cb6 cn6 cc6) ∧ w'.cell? ⟨bx, 1, none⟩ = some (.slice db6 dn6 dc6) ∧ w'.cell? ⟨bx, 2, none⟩ = some (.slice sb6 sn6 sc6) ∧ w'.cell? ⟨bx, 3, none⟩ = some (.slice eb6 en6 ec6) ∧ w'.cell? ⟨bx, 4, none⟩ = some (.int .i64 (goTo e at_).1.base) ∧ w'.cell? ⟨bz, 0, none⟩ = some (.slice cb7 cn7 cc7) ∧ w'.cell? ⟨bz, 1, none⟩ = some (.slice db7 dn7 dc7) ∧ w'.cell? ⟨bz, 2, none⟩ = some (.slice sb7 sn7 sc7) ∧ w'.cell? ⟨bz, 3, none⟩ = some (.slice eb7 en7 ec7) ∧ w'.cell? ⟨bz, 4, none⟩ = some (.int .i64 (goTo e at_).1.base) ∧ Below A.heap.size A w')
      (first
        | exact HS0.out
        | with_reducible exact keep15 (by assumption) (by assumption))
      (first
        | (go_at_call 28; refine (P1.out _ ?_).mono ?_; exact held15 (by assumption); rintro x w8 ⟨b8, n8, c8, rfl, h8, hb8⟩)
        | (go_at_call 29; refine (P2.out _ ?_).mono ?_; exact held15 (by assumption); rintro x w9 ⟨b9, n9, c9, rfl, h9, hb9⟩)
        | (go_at_call 20; refine (sameInts_calls IL b8 n8 c8 b9 n9 c9 _ ?_ ?_).mono ?_; exact h8.below (by decide) hb9; exact h9; rintro x w10 ⟨rfl, hb10⟩)
        | (go_at_call 13; refine (PXY.out _ ?_).mono ?_; exact held15 (by assumption); rintro x w11 ⟨rfl, hb11⟩))
    have HBT := hid (below_deep HB7.out (below_deep (below_deep (below_deep (below_deep HDR.out hb8) hb9) hb10) hb11))
    go_wp2
    go_ret
    exact ⟨rfl, HBT.out⟩
  · have t := ne_true hz
    clear hz
    generalize wrong l = q at *
    go_wp2
    go_ret
    exact ⟨rfl, HB1.out⟩
end Go.Proofs.Ytllhdmhfjahglac
