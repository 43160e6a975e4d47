/-
  The walk of the statement PlainTells: the call returns true and changes nothing that was there.
-/
import Derived.Test.YtfdliblikkpjiabRefAll
import Derived.Test.YtfdliblikkpjiabLawTells
namespace Go.Proofs.Ytfdliblikkpjiab
open Go.RowKit

set_option maxHeartbeats 8000000 in
set_option maxRecDepth 100000 in
theorem plainTells_calls (l : List Row) (D : List Deed3) (lb : Option Addr) (ln lc : Nat) (db : Option Addr) (dn dc : Nat) (w : World) (hh : Holds w lb ln lc l) (hsm : Small l) (hd : DeedsIn w db dn dc D) (hn : dn * 40 ≤ 140737488355328) :
    Calls Try.prog 3 #[.slice lb ln lc, .slice db dn dc] w fun e w' => e = .returned (.bool true) ∧ Below w.heap.size w w' := by
  have HH := hid hh
  have HD := hid hd
  have HLN := hid hd.len
  have HNN := hid hn
  have HWR := hid (refWrong_holds l lb ln lc w hsm hh)
  have hdm : dn ≤ 9223372036854775807 := by omega
  have harr := regsEq
  clear hh hd hn hsm
  go_enter Try.func3, Try.ntmps3
  go_wp2_with fail
  refine HWR.out.mono ?_
  rintro e w1 ⟨rfl, hb1⟩
  have HB1 := hid hb1
  by_cases hz : wrong l = 0
  · rw [hz]
    have HR := hid (right_of hz)
    have HRD := hid (refRight_calls D db dn dc w1 (HD.out.below hb1))
    clear hz hb1
    go_wp2_with fail
    refine HRD.out.mono ?_
    rintro e w2 ⟨rfl, hb2⟩
    have HB2 := hid (below_deep HB1.out hb2)
    clear hb2
    cases hq : rightsB D with
    | false =>
      clear hq
      go_wp2
      go_ret
      exact ⟨rfl, HB2.out⟩
    | true =>
      have HDR := hid (rights_of hq)
      clear hq
      go_wp2
      go_loopw [25] (fun i wr => ∃ j : Nat, j ≤ dn ∧ i = .int .i64 j ∧ Hid (Below w.heap.size w wr)) (fun i _ => dn - (intOf i).toNat)
      case atStart => exact ⟨0, Nat.zero_le _, rfl, HB2⟩
      case round =>
        obtain ⟨j, hj, rfl, HBR⟩ := hrel
        by_cases hlt : j < dn
        · have hjl : j < D.length := by rw [← HLN.out]; exact hlt
          have hi : (j : Int) < (dn : Int) := by omega
          rcases (HD.out.below HBR.out).run with h | ⟨db1, dbo, rfl, hdr⟩
          · omega
          obtain ⟨rb, rn, rc, wb, wn, wc, cb, cn, cc, k0, k1, k2, hdi, hs1, hs2⟩ := hdr j hlt
          have hdb : db1 < wr.heap.size := by simpa using World.block_lt_of_cell? _ _ k0
          have HGW := hid (grew wr (.cells #[.slice rb rn rc, .slice wb wn wc, .slice cb cn cc] 31))
          have HDI := hid (And.intro hdi (And.intro hs1 hs2))
          have HRJ := hid (rights_at HDR.out hjl)
          have HDO := hid (do_calls l (D.getD j default) lb ln lc rb rn rc wb wn wc cb cn cc _ (hdi.below HGW.out) hs1 hs2 HRJ.out (HH.out.below (below_deep HBR.out HGW.out)) HR.out)
          clear hdi hs1 hs2 hdr
          go_wp2_with fail
          refine HDO.out.mono ?_
          rintro e w3 ⟨nb, nn, nc, f, r, hend, rfl, h3, hb3⟩
          have HEND := hid hend
          have HX3 := hid h3
          have HB3 := hid (below_deep HGW.out hb3)
          have q0 := kept_cell hb3 (box_cell wr #[.slice rb rn rc, .slice wb wn wc, .slice cb cn cc] 31 0 _ rfl)
          have q1 := kept_cell hb3 (box_cell wr #[.slice rb rn rc, .slice wb wn wc, .slice cb cn cc] 31 1 _ rfl)
          have q2 := kept_cell hb3 (box_cell wr #[.slice rb rn rc, .slice wb wn wc, .slice cb cn cc] 31 2 _ rfl)
          have hwl : wr.heap.size < w3.heap.size := by simpa using World.block_lt_of_cell? _ _ q0
          have HG3 := hid (grew w3 (.cells #[.bool f, .int .i64 (r 0), .int .i64 (r 1), .int .i64 (r 2), .int .i64 (r 3)] 34))
          have HB4 := hid (below_deep HB3.out HG3.out)
          have HRO := hid (refDo_told l (D.getD j default) lb ln lc rb rn rc wb wn wc cb cn cc _ (HDI.out.1.below HB4.out) HRJ.out (HH.out.below (below_deep HBR.out HB4.out)) HR.out)
          clear hend h3 hb3 HDO
          go_wp2_with fail
          refine HRO.out.mono ?_
          rintro e w5 ⟨nb5, nn5, nc5, f5, r5, hend5, rfl, h5, hb5⟩
          have hfr : (f5, r5) = (f, r) := hend5.symm.trans HEND.out
          simp only [Prod.mk.injEq] at hfr
          obtain ⟨e1, e2⟩ := hfr
          subst e1
          subst e2
          have t0 := kept_cell hb5 (box_cell w3 #[.bool f5, .int .i64 (r5 0), .int .i64 (r5 1), .int .i64 (r5 2), .int .i64 (r5 3)] 34 0 _ rfl)
          have t1 := kept_cell hb5 (box_cell w3 #[.bool f5, .int .i64 (r5 0), .int .i64 (r5 1), .int .i64 (r5 2), .int .i64 (r5 3)] 34 1 _ rfl)
          have t2 := kept_cell hb5 (box_cell w3 #[.bool f5, .int .i64 (r5 0), .int .i64 (r5 1), .int .i64 (r5 2), .int .i64 (r5 3)] 34 2 _ rfl)
          have t3 := kept_cell hb5 (box_cell w3 #[.bool f5, .int .i64 (r5 0), .int .i64 (r5 1), .int .i64 (r5 2), .int .i64 (r5 3)] 34 3 _ rfl)
          have t4 := kept_cell hb5 (box_cell w3 #[.bool f5, .int .i64 (r5 0), .int .i64 (r5 1), .int .i64 (r5 2), .int .i64 (r5 3)] 34 4 _ rfl)
          have hwl5 : w3.heap.size < w5.heap.size := by simpa using World.block_lt_of_cell? _ _ t0
          have HG5 := hid (grew w5 (.cells #[.bool f5, .int .i64 (r5 0), .int .i64 (r5 1), .int .i64 (r5 2), .int .i64 (r5 3)] 34))
          have HB6 := hid (below_deep HBR.out (below_deep HB4.out (below_deep hb5 HG5.out)))
          have HSAME := hid (same_holds (doD l (D.getD j default)) nb nb5 nn nn5 nc nc5 _ ((HX3.out.below HG3.out).below (below_deep hb5 HG5.out)) (h5.below HG5.out))
          clear hend5 h5 hb5 q0 q1 q2 HRO
          go_wp2_with fail
          refine HSAME.out.mono ?_
          rintro e w7 ⟨rfl, hb7⟩
          have HB7 := hid (below_deep HB6.out hb7)
          clear hb7
          go_wp2
          go_roundw
          case rel => exact ⟨j + 1, by omega, by go_num, HB7⟩
          case measure => simp [intOf]; omega
        · obtain rfl : j = dn := by omega
          generalize wr = wa at *
          have HA := hid (all_calls l D lb ln lc db j dc wa (HH.out.below HBR.out) HR.out (HD.out.below HBR.out) HDR.out HNN.out)
          go_wp2_with fail
          refine HA.out.mono ?_
          rintro e w3 ⟨nb, nn, nc, eb, en, ec, rfl, h3, he3, hb3⟩
          have HX3 := hid h3
          have HE3 := hid he3
          have HB3 := hid (below_deep HBR.out hb3)
          clear h3 he3 hb3
          have HRA := hid (refAll_calls l D lb ln lc db j dc w3 (HH.out.below HB3.out) HR.out (HD.out.below HB3.out) HDR.out HNN.out)
          go_wp2_with fail
          refine HRA.out.mono ?_
          rintro e w4 ⟨nb4, nn4, nc4, eb4, en4, ec4, rfl, h4, he4, hb4⟩
          have HB4 := hid (below_deep HB3.out hb4)
          have HSAME := hid (same_holds (allD l D) nb nb4 nn nn4 nc nc4 w4 (HX3.out.below hb4) h4)
          have HE4 := hid he4
          have HE34 := hid (HE3.out.below (by decide) hb4)
          clear h4 he4 hb4
          go_wp2_with fail
          refine HSAME.out.mono ?_
          rintro e w5 ⟨rfl, hb5⟩
          have HSE := hid (sameEnds_calls (endsD l D) eb en ec eb4 en4 ec4 w5 (HE34.out.below (by decide) hb5) (HE4.out.below (by decide) hb5))
          have HB5 := hid (below_deep HB4.out hb5)
          clear hb5
          go_wp2_with fail
          refine HSE.out.mono ?_
          rintro e w6 ⟨rfl, hb6⟩
          go_wp2
          go_ret
          exact ⟨rfl, below_deep HB5.out hb6⟩
  · have t := ne_true hz
    clear hz hb1
    generalize wrong l = q at *
    go_wp2
    go_ret
    exact ⟨rfl, HB1.out⟩
end Go.Proofs.Ytfdliblikkpjiab
