/-
  The walk of the statement PlanAhead: the call returns true and changes nothing that was there.
-/
import Derived.Test.YtmfieleonhgeoacGreatDoorPlanAlive
import Derived.Test.YtmfieleonhgeoacGreatDoorRefBuild
import Derived.Test.YtmfieleonhgeoacGreatDoorRefBefore
namespace Go.Proofs.YtmfieleonhgeoacGreatDoor
open Go.RowKit

theorem keep10 {A w1 w2 : World} {b c : Nat} {x0 x1 x2 x3 x4 y0 y1 y2 y3 y4 : Value}
    (h : w1.cell? ⟨b, 0, none⟩ = some x0 ∧ w1.cell? ⟨b, 1, none⟩ = some x1 ∧ w1.cell? ⟨b, 2, none⟩ = some x2 ∧ w1.cell? ⟨b, 3, none⟩ = some x3 ∧ w1.cell? ⟨b, 4, none⟩ = some x4 ∧ w1.cell? ⟨c, 0, none⟩ = some y0 ∧ w1.cell? ⟨c, 1, none⟩ = some y1 ∧ w1.cell? ⟨c, 2, none⟩ = some y2 ∧ w1.cell? ⟨c, 3, none⟩ = some y3 ∧ w1.cell? ⟨c, 4, none⟩ = some y4 ∧ Below A.heap.size A w1) (hb : Below w1.heap.size w1 w2) :
    w2.cell? ⟨b, 0, none⟩ = some x0 ∧ w2.cell? ⟨b, 1, none⟩ = some x1 ∧ w2.cell? ⟨b, 2, none⟩ = some x2 ∧ w2.cell? ⟨b, 3, none⟩ = some x3 ∧ w2.cell? ⟨b, 4, none⟩ = some x4 ∧ w2.cell? ⟨c, 0, none⟩ = some y0 ∧ w2.cell? ⟨c, 1, none⟩ = some y1 ∧ w2.cell? ⟨c, 2, none⟩ = some y2 ∧ w2.cell? ⟨c, 3, none⟩ = some y3 ∧ w2.cell? ⟨c, 4, none⟩ = some y4 ∧ Below A.heap.size A w2 := by
  obtain ⟨h0, h1, h2, h3, h4, k0, k1, k2, k3, k4, hz⟩ := h
  exact ⟨kept_cell hb h0, kept_cell hb h1, kept_cell hb h2, kept_cell hb h3, kept_cell hb h4, kept_cell hb k0, kept_cell hb k1, kept_cell hb k2, kept_cell hb k3, kept_cell hb k4, below_deep hz hb⟩
theorem heldT {p0 p1 p2 p3 p4 p5 p6 p7 p8 p9 : Prop} {B : Nat} {A w' : World} (h : p0 ∧ p1 ∧ p2 ∧ p3 ∧ p4 ∧ p5 ∧ p6 ∧ p7 ∧ p8 ∧ p9 ∧ Below B A w') : Below B A w' := h.2.2.2.2.2.2.2.2.2.2

set_option maxHeartbeats 8000000 in
set_option maxRecDepth 100000 in
theorem planAhead_calls (l : List Row) (BS : List (List Deed3)) (Pl : List Int) (L : List Deed3) (lb : Option Addr) (ln lc : Nat) (bb : Option Addr) (bn bc : Nat) (pb : Option Addr) (pn pc : Nat) (qb : Option Addr) (qn qc : Nat) (w : World) (hG : GroundN w)
    (hh : Holds w lb ln lc l) (hsm : Small l) (hbs : BatchesIn w bb bn bc BS) (hp : Ints w pb pn pc Pl) (hl : DeedsIn w qb qn qc L) (hN : manyB BS ≤ 1048576) (hL : L.length ≤ 1048576) :
    Calls Tryz.prog 3 #[.slice lb ln lc, .slice bb bn bc, .slice pb pn pc, .slice qb qn qc] w fun e w' => e = .returned (.bool true) ∧ Below w.heap.size w w' := by
  have HH := hid hh
  have HSM := hid hsm
  have HBS := hid hbs
  have HP := hid hp
  have HQ := hid hl
  have HN := hid hN
  have HLL := hid hL
  have HQL := hid hl.len
  have hqm : qn ≤ 1048576 := by rw [hl.len]; exact hL
  have HAL := hid (plive_calls w hG)
  clear hh hsm hbs hp hl hN hL hG
  go_enter Tryz.func3, Tryz.ntmps3
  go_wp2_with fail
  refine HAL.out.mono ?_
  rintro x w1 ⟨rfl, hb1⟩
  have HB1 := hid hb1
  have HWR := hid (refWrong_holds l lb ln lc w1 HSM.out (HH.out.below hb1))
  clear hb1 HAL
  go_wp2_with fail
  refine HWR.out.mono ?_
  rintro x w2 ⟨rfl, hb2⟩
  have HB2 := hid (below_deep HB1.out hb2)
  clear hb2 HWR
  by_cases hz : wrong l = 0
  · rw [hz]
    have HR := hid (right_of hz)
    have RB := hid (refBuild_calls l BS Pl lb ln lc bb bn bc pb pn pc w2 HR.out HSM.out (HH.out.below HB2.out) (HBS.out.below HB2.out) (HP.out.below (by decide) HB2.out) (Nat.le_trans HN.out (by decide)))
    clear hz
    go_wp2_with fail
    refine RB.out.mono ?_
    rintro x w5 ⟨v5, D, m, dq, bq, e, rfl, G, hD, hv5, hb5⟩
    obtain ⟨cb, cn, cc, db, dn, dc, sb, sn, sc, eb, en, ec, rfl, hl5⟩ := hv5
    have HGD := hid G
    have HDN := hid (Nat.le_trans hD HN.out)
    have HGE := hid (grew w5 (.cells #[.slice cb cn cc, .slice db dn dc, .slice sb sn sc, .slice eb en ec, .int .i64 e.base] 33))
    have HBE := hid (Box.new w5 #[.slice cb cn cc, .slice db dn dc, .slice sb sn sc, .slice eb en ec, .int .i64 e.base] 33)
    have HLE := hid (hl5.below HGE.out)
    have HB5 := hid (below_deep HB2.out (below_deep hb5 HGE.out))
    have HDL := hid hl5.de.len
    have HGL := hid G.len
    have hbs0 : 0 ≤ e.base := by rw [G.base]; omega
    have hbs1 : e.base ≤ 1048576 := by rw [G.base]; have := G.le; have := HDN.out; omega
    have hdn1 : dn ≤ 1048576 := by rw [hl5.de.len, G.len]; have := HDN.out; omega
    clear G hD hl5 hb5 RB
    have PA := hid (planAdd_calls HGD.out L (by have := HDN.out; have := HLL.out; omega) _ qb qn qc _ ⟨_, _, _, _, _, _, _, _, _, _, _, _, rfl, HLE.out⟩ (HQ.out.below HB5.out))
    go_wp2_with fail
    refine PA.out.mono ?_
    generalize w5.alloc (.cells #[.slice cb cn cc, .slice db dn dc, .slice sb sn sc, .slice eb en ec, .int .i64 e.base] 33) = A5 at *
    generalize w5.heap.size = be at *
    rintro x w6 ⟨v6, rfl, hv6, hb6⟩
    have HBE6 := hid (HBE.out.below hb6)
    have HLE6 := hid (HLE.out.below hb6)
    have HB6 := hid (below_deep HB5.out hb6)
    have hel6 : be < w6.heap.size := HBE6.out.lt
    by_cases hwd : wDs L = 0
    · have hadd : addTo e L = addAll e L := by unfold addTo; rw [if_pos hwd]
      rw [hadd] at hv6
      rw [hwd]
      have HGX := hid (HGD.out.addAll (wDs_right hwd))
      obtain ⟨cb6, cn6, cc6, db6, dn6, dc6, sb6, sn6, sc6, eb6, en6, ec6, rfl, hl6⟩ := hv6
      have hxd : dn6 = dn + qn := by
        have h1 := hl6.de.len
        rw [addAll_deeds, List.length_append, ← HDL.out, ← HQL.out] at h1
        exact h1
      subst hxd
      have HXB : Hid ((addAll e L).base = e.base) := addAll_base e L
      have HG6 := hid (grew w6 (.cells #[.slice cb6 cn6 cc6, .slice db6 (dn + qn) dc6, .slice sb6 sn6 sc6, .slice eb6 en6 ec6, .int .i64 e.base] 33))
      have HX6 := hid (Box.new w6 #[.slice cb6 cn6 cc6, .slice db6 (dn + qn) dc6, .slice sb6 sn6 sc6, .slice eb6 en6 ec6, .int .i64 e.base] 33)
      have HL6 := hid (hl6.below HG6.out)
      have HBE7 := hid (HBE6.out.below HG6.out)
      have HLE7 := hid (HLE6.out.below HG6.out)
      have HB7 := hid (below_deep HB6.out HG6.out)
      rw [HXB.out]
      obtain ⟨x0, x1, x2, x3, x4⟩ := HBE6.out.cells5
      have hwq : IntKind.i64.wrap ((dn : Int) + (qn : Int)) = ((dn + qn : Nat) : Int) := by rw [IntKind.wrap_i64]; omega
      have tq : (((dn + qn : Nat) : Int) != ((dn + qn : Nat) : Int)) = false := by simp
      clear hl6 hb6 PA HBE HLE HBE6 HLE6 hadd hwd
      go_wp2
      generalize w6.alloc (.cells #[.slice cb6 cn6 cc6, .slice db6 (dn + qn) dc6, .slice sb6 sn6 sc6, .slice eb6 en6 ec6, .int .i64 e.base] 33) = A at *
      generalize w6.heap.size = bx at *
      go_loopw [57] (fun i wr => ∃ j : Nat, j ≤ dn ∧ i = .int .i64 j ∧ Hid (Below A.heap.size A wr)) (fun i _ => dn - (intOf i).toNat)
      case atStart => exact ⟨0, Nat.zero_le _, rfl, Below.refl _ _⟩
      case round =>
        obtain ⟨j, hj, rfl, HBR⟩ := hrel
        by_cases hlt : j < dn
        · have hi : (j : Int) < (dn : Int) := by omega
          have HMP : Hid (m + j < D.length) := by
            have h1 := HDL.out
            have h2 := HGL.out
            have h3 := HGD.out.le
            show _ < _
            omega
          have HMX : Hid (m + j < (D ++ L).length) := by
            have := HMP.out
            show _ < _
            rw [List.length_append]
            omega
          have HXN : Hid ((D ++ L).length ≤ 4000000) := by
            have h1 := HDN.out
            have h2 := HLL.out
            show _ ≤ _
            rw [List.length_append]
            omega
          have HNE : Hid (needsE (addAll e L) j = needsE e j) := needs_ahead HGD.out HGX.out HMP.out
          have HRA : Hid (rowsC (addAll e L).chains (e.base + j) = rowsC e.chains (e.base + j)) := by
            have := rows_ahead HGD.out HGX.out (n := j) (Nat.le_of_lt HMP.out)
            rw [HXB.out] at this
            exact this
          have hwj : IntKind.i64.wrap (e.base + (j : Int)) = e.base + j := by rw [IntKind.wrap_i64]; omega
          obtain ⟨x0, x1, x2, x3, x4⟩ := (HBE7.out.below HBR.out).cells5
          have hel : be < wr.heap.size := (HBE7.out.below HBR.out).lt
          have P1 := hid (refRowsAt_calls e.chains cb cn cc (e.base + j) wr (HGD.out.fit (by have := HDN.out; omega)) (HLE7.out.below HBR.out).ch)
          go_wp2_with fail
          refine P1.out.mono ?_
          rintro x w3 ⟨rb, rn, rc, ok, rfl, hok, h3, hb3⟩
          have HB3 := hid (below_deep HBR.out hb3)
          have HOK := hid hok
          have H3 := hid h3
          clear hok h3 hb3 P1 x0 x1 x2 x3 x4 hel
          obtain ⟨y0, y1, y2, y3, y4⟩ := (HX6.out.below HB3.out).cells5
          have hxl : bx < w3.heap.size := (HX6.out.below HB3.out).lt
          have P2 := hid (refRowsAt_calls (addAll e L).chains cb6 cn6 cc6 (e.base + j) w3 (HGX.out.fit HXN.out) (HL6.out.below HB3.out).ch)
          rw [HRA.out] at P2
          go_wp2_with fail
          refine P2.out.mono ?_
          rintro x A3 ⟨zb, zn, zc, is, rfl, his, h4, hb4⟩
          obtain rfl : ok = is := by rw [HOK.out, his]
          have HBA := hid (below_deep HB3.out hb4)
          have H34 := hid (H3.out.below hb4)
          have H4 := hid h4
          clear his h4 hb4 P2 y0 y1 y2 y3 y4 hxl H3
          have HBE3 := hid (HBE7.out.below HBA.out)
          have HLE3 := hid (HLE7.out.below HBA.out)
          have HX3 := hid (HX6.out.below HBA.out)
          have HL3 := hid (HL6.out.below HBA.out)
          have HDR := hid (step_drew (Below.refl A3.heap.size A3))
          have HS0 : Hid ((fun w' => w'.cell? ⟨be, 0, none⟩ = some (.slice cb cn cc) ∧ w'.cell? ⟨be, 1, none⟩ = some (.slice db dn dc) ∧ w'.cell? ⟨be, 2, none⟩ = some (.slice sb sn sc) ∧ w'.cell? ⟨be, 3, none⟩ = some (.slice eb en ec) ∧ w'.cell? ⟨be, 4, none⟩ = some (.int .i64 e.base) ∧ w'.cell? ⟨bx, 0, none⟩ = some (.slice cb6 cn6 cc6) ∧ w'.cell? ⟨bx, 1, none⟩ = some (.slice db6 (dn + qn) dc6) ∧ w'.cell? ⟨bx, 2, none⟩ = some (.slice sb6 sn6 sc6) ∧ w'.cell? ⟨bx, 3, none⟩ = some (.slice eb6 en6 ec6) ∧ w'.cell? ⟨bx, 4, none⟩ = some (.int .i64 e.base) ∧ Below A3.heap.size A3 w') A3.drew) := by
            obtain ⟨x0, x1, x2, x3, x4⟩ := (HBE3.out.below HDR.out).cells5
            obtain ⟨y0, y1, y2, y3, y4⟩ := (HX3.out.below HDR.out).cells5
            exact ⟨x0, x1, x2, x3, x4, y0, y1, y2, y3, y4, HDR.out⟩
          have Q1 : Hid (∀ W, Below A3.heap.size A3 W → Calls Tryz.prog 11 #[.agg #[.slice cb cn cc, .slice db dn dc, .slice sb sn sc, .slice eb en ec, .int .i64 e.base], .int .i64 j] W fun x w' => IntsTold W w' (ints (needsE e j)) x) := fun W hb =>
            planNeeds_calls HGD.out (by have := HDN.out; omega) j HMP.out _ W ⟨_, _, _, _, _, _, _, _, _, _, _, _, rfl, HLE3.out.below hb⟩
          have Q2 : Hid (∀ W, Below A3.heap.size A3 W → Calls Tryz.prog 11 #[.agg #[.slice cb6 cn6 cc6, .slice db6 (dn + qn) dc6, .slice sb6 sn6 sc6, .slice eb6 en6 ec6, .int .i64 e.base], .int .i64 j] W fun x w' => IntsTold W w' (ints (needsE e j)) x) := fun W hb => by
            have := planNeeds_calls HGX.out HXN.out j HMX.out _ W ⟨_, _, _, _, _, _, _, _, _, _, _, _, rfl, HL3.out.below hb⟩
            rw [HNE.out, HXB.out] at this
            exact this
          have Q3 : Hid (∀ W, Below A3.heap.size A3 W → Calls Tryz.prog 12 #[.slice rb rn rc, .slice zb zn zc] W fun x w' => x = .returned (.bool true) ∧ Below W.heap.size W w') := fun W hb =>
            same_holds _ rb zb rn zn rc zc W (H34.out.below hb) (H4.out.below hb)
          have hel3 : be < A3.heap.size := HBE3.out.lt
          have hxl3 : bx < A3.heap.size := HX3.out.lt
          have HZ := hid (below_deep HBA.out HDR.out)
          have t5 : (ok != ok) = false := by simp
          have t6 : (ok == ok) = true := by simp
          clear HBE3 HLE3 HX3 HL3 H34 H4 HOK HNE HRA hwj
          generalize ints (needsE e j) = IL at *
          go_upto_region 16 with fail
          go_region_held3 (fun w' => w'.cell? ⟨be, 0, none⟩ = some (.slice cb cn cc) ∧ w'.cell? ⟨be, 1, none⟩ = some (.slice db dn dc) ∧ w'.cell? ⟨be, 2, none⟩ = some (.slice sb sn sc) ∧ w'.cell? ⟨be, 3, none⟩ = some (.slice eb en ec) ∧ w'.cell? ⟨be, 4, none⟩ = some (.int .i64 e.base) ∧ w'.cell? ⟨bx, 0, none⟩ = some (.slice cb6 cn6 cc6) ∧ w'.cell? ⟨bx, 1, none⟩ = some (.slice db6 (dn + qn) dc6) ∧ w'.cell? ⟨bx, 2, none⟩ = some (.slice sb6 sn6 sc6) ∧ w'.cell? ⟨bx, 3, none⟩ = some (.slice eb6 en6 ec6) ∧ w'.cell? ⟨bx, 4, none⟩ = some (.int .i64 e.base) ∧ Below A3.heap.size A3 w')
            (first
              | exact HS0.out
              | with_reducible exact keep10 (by assumption) (by assumption))
            (first
              | (go_at_call_of 11 (Value.agg #[.slice cb cn cc, .slice db dn dc, .slice sb sn sc, .slice eb en ec, .int .i64 e.base]); refine (Q1.out _ ?_).mono ?_; exact heldT (by assumption); rintro x w5 ⟨b5, n5, c5, rfl, h5, hb5⟩)
              | (go_at_call_of 11 (Value.agg #[.slice cb6 cn6 cc6, .slice db6 (dn + qn) dc6, .slice sb6 sn6 sc6, .slice eb6 en6 ec6, .int .i64 e.base]); refine (Q2.out _ ?_).mono ?_; exact heldT (by assumption); rintro x w6 ⟨b6, n6, c6, rfl, h6, hb6⟩)
              | (go_at_call 10; refine (sameInts_calls IL b5 n5 c5 b6 n6 c6 _ ?_ ?_).mono ?_; exact h5.below (by decide) hb6; exact h6; rintro x w7 ⟨rfl, hb7⟩)
              | (go_at_call 12; refine (Q3.out _ ?_).mono ?_; exact heldT (by assumption); rintro x w8 ⟨rfl, hb8⟩))
          have HBF := hid (below_deep (below_deep (below_deep (below_deep HZ.out hb5) hb6) hb7) hb8)
          clear h5 h6 hb5 hb6 hb7 hb8 Q1 Q2 Q3 HS0 HDR HZ
          go_wp2
          go_roundw
          case rel => exact ⟨j + 1, by omega, by go_num, HBF⟩
          case measure => simp [intOf]; omega
        · obtain rfl : j = dn := by omega
          go_wp2
          go_ret
          exact ⟨rfl, below_deep HB7.out HBR.out⟩
    · have hadd : addTo e L = zeroEng := by unfold addTo; rw [if_neg hwd]
      rw [hadd] at hv6
      obtain ⟨cb6, cn6, cc6, db6, dn6, dc6, sb6, sn6, sc6, eb6, en6, ec6, rfl, hl6⟩ := hv6
      obtain rfl : dn6 = 0 := hl6.de.len
      obtain rfl : cn6 = 0 := hl6.ch.len
      have t := ne_true hwd
      have HG6 := hid (grew w6 (.cells #[.slice cb6 0 cc6, .slice db6 0 dc6, .slice sb6 sn6 sc6, .slice eb6 en6 ec6, .int .i64 zeroEng.base] 33))
      generalize wDs L = wd at *
      clear hwd hadd hl6 hb6 PA
      generalize zeroEng.base = zb at *
      go_wp2
      go_ret
      exact ⟨rfl, below_deep HB6.out HG6.out⟩
  · have t := ne_true hz
    clear hz
    generalize wrong l = q at *
    go_wp2
    go_ret
    exact ⟨rfl, HB2.out⟩
end Go.Proofs.YtmfieleonhgeoacGreatDoor
