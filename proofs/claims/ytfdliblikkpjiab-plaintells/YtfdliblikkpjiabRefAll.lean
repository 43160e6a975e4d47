/-
  The document's own Right, All and SameEnds, walked.
-/
import Derived.Test.YtfdliblikkpjiabPlainAll
import Derived.Test.YtfdliblikkpjiabRefWrong
import Derived.Test.YtfdliblikkpjiabNamedKeep
namespace Go.Proofs.Ytfdliblikkpjiab
open Go.RowKit

def rightsB (D : List Deed3) : Bool := D.all (fun d => decide (wDeed d.1 d.2.1 d.2.2 = 0))
theorem rights_of {D : List Deed3} (h : rightsB D = true) : RightDs D := fun d hd => by
  have := List.all_eq_true.1 h d hd
  exact right_deed (of_decide_eq_true this)
theorem rightsB_take {D : List Deed3} {j : Nat} (hj : j < D.length) (h : rightsB (D.take j) = true) (h2 : wDeed (D.getD j default).1 (D.getD j default).2.1 (D.getD j default).2.2 = 0) : rightsB (D.take (j + 1)) = true := by
  rw [take_snoc_getD hj]
  unfold rightsB at *
  rw [List.all_append, h]
  simp only [List.all_cons, List.all_nil, Bool.and_true, Bool.true_and, decide_eq_true_eq]
  exact h2
theorem rightsB_not {D : List Deed3} {j : Nat} (hj : j < D.length) (h2 : wDeed (D.getD j default).1 (D.getD j default).2.1 (D.getD j default).2.2 ≠ 0) : rightsB D = false := by
  unfold rightsB
  rw [List.all_eq_false]
  exact ⟨D.getD j default, by simp [List.getD, hj], by simpa using h2⟩

set_option maxHeartbeats 2000000 in
theorem refRight_calls (D : List Deed3) (db : Option Addr) (dn dc : Nat) (w : World) (hd : DeedsIn w db dn dc D) :
    Calls Try.prog 5 #[.slice db dn dc] w fun e w' => e = .returned (.bool (rightsB D)) ∧ Below w.heap.size w w' := by
  have hdm := Nat.le_trans hd.hdr.le hd.hdr.max
  unfold maxLen at hdm
  have HD := hid hd
  have HLN := hid hd.len
  clear hd
  go_enter Try.func5, Try.ntmps5
  go_wp2
  go_loopw [7] (fun i wr => ∃ j : Nat, j ≤ dn ∧ i = .int .i64 j ∧ Hid (rightsB (D.take j) = true) ∧ Hid (Below w.heap.size w wr)) (fun i _ => dn - (intOf i).toNat)
  case atStart => exact ⟨0, Nat.zero_le _, rfl, rfl, Below.refl _ _⟩
  case round =>
    obtain ⟨j, hj, rfl, HR, HBR⟩ := hrel
    by_cases hlt : j < dn
    · have hjl : j < D.length := by rw [← HLN.out]; exact hlt
      have hi : (j : Int) < (dn : Int) := by omega
      rcases (HD.out.below HBR.out).run with h | ⟨db1, dbo, rfl, hdr⟩
      · omega
      obtain ⟨rb, rn, rc, wb, wn, wc, cb, cn, cc, k0, k1, k2, hdi, hs1, hs2⟩ := hdr j hlt
      have hdb : db1 < wr.heap.size := by simpa using World.block_lt_of_cell? _ _ k0
      have HGW := hid (grew wr (.cells #[.slice rb rn rc, .slice wb wn wc, .slice cb cn cc] 31))
      have HW := hid (refWrongDeed_calls (D.getD j default).1 (D.getD j default).2.1 (D.getD j default).2.2 rb rn rc wb wn wc cb cn cc _ (hdi.below HGW.out) hs1 hs2)
      have HN1 := hid (rightsB_take hjl HR.out)
      have HN2 := hid (rightsB_not hjl)
      clear hdi hs1 hs2 hdr
      generalize wDeed (D.getD j default).1 (D.getD j default).2.1 (D.getD j default).2.2 = q at *
      go_wp2_with fail
      refine HW.out.mono ?_
      rintro e w2 ⟨rfl, hb2⟩
      have HB2 := hid (below_deep HBR.out (below_deep HGW.out hb2))
      clear hb2
      by_cases hq : q = 0
      · subst hq
        have HN := hid (HN1.out rfl)
        go_wp2
        go_roundw
        case rel => exact ⟨j + 1, by omega, by go_num, HN, HB2⟩
        case measure => simp [intOf]; omega
      · have HN := hid (HN2.out hq)
        have t := ne_true hq
        clear hq
        go_wp2
        go_ret
        exact ⟨by rw [HN.out]; rfl, HB2.out⟩
    · obtain rfl : j = dn := by omega
      have HN : Hid (rightsB D = true) := by
        have := HR.out
        rw [List.take_of_length_le (by rw [← HLN.out]; exact Nat.le_refl _)] at this
        exact this
      go_wp2
      go_ret
      exact ⟨by rw [HN.out]; rfl, HBR.out⟩

theorem refDo_toldK (l : List Row) (d : Deed3) (lb : Option Addr) (ln lc : Nat) (rb : Option Addr) (rn rc : Nat) (wb : Option Addr) (wn wc : Nat) (cb : Option Addr) (cn cc : Nat) (w : World)
    (hd : DeedIn w rb rn rc wb wn wc cb cn cc d.1 d.2.1 d.2.2) (hright : RightDD d) (hh : Holds w lb ln lc l) (hrl : Right l) :
    Calls Try.prog 7 #[.slice lb ln lc, .agg #[.slice rb rn rc, .slice wb wn wc, .slice cb cn cc]] w fun e w' =>
      ∃ (nb : Option Addr) (nn nc : Nat) (f : Bool) (r : Nat → Int), endD l d = (f, r) ∧ e = .returned (.tuple #[.slice nb nn nc, .agg #[.bool f, .int .i64 (r 0), .int .i64 (r 1), .int .i64 (r 2), .int .i64 (r 3)]]) ∧ Holds w' nb nn nc (doD l d) ∧ Below w.heap.size w w' ∧ ((nb = lb ∧ nn = ln) ∨ Kind w' 44 nb) := by
  refine (refDo_callsK d.1 d.2.1 d.2.2 l rb rn rc wb wn wc cb cn cc lb ln lc w hd hright hh hrl.srt (do_few hrl hh.len)).mono ?_
  rintro e w' ⟨nb, nn, nc, L, r, m, f, hex, rfl, hL, h1, h2, hb, hk⟩
  have ex : exD l d = (r, m, f) := hex
  refine ⟨nb, nn, nc, f, r, by unfold endD; rw [ex], rfl, ?_, hb, hk⟩
  cases f with
  | true => rw [doD_fail (by rw [ex]), ← h1 rfl]; exact hL
  | false =>
    have := over_doD (L := L) hrl.srt hright (by rw [ex]) (by rw [ex]; exact h2 rfl)
    rw [← this]; exact hL

set_option maxHeartbeats 4000000 in
set_option maxRecDepth 100000 in
theorem refAll_calls (l : List Row) (D : List Deed3) (lb : Option Addr) (ln lc : Nat) (db : Option Addr) (dn dc : Nat) (w : World) (hh : Holds w lb ln lc l) (hrl : Right l) (hd : DeedsIn w db dn dc D) (hD : RightDs D) (hn : dn * 40 ≤ 140737488355328) :
    Calls Try.prog 10 #[.slice lb ln lc, .slice db dn dc] w fun e w' => AllTold w w' l D e := by
  have HH := hid hh
  have HSP : Hid (Spot w w.heap.size 44 lb ln) := by
    rcases hh.seg with h0 | ⟨b, o, e, hc⟩
    · exact .inl (by rw [hh.len, h0]; rfl)
    · by_cases h0 : ln = 0
      · exact .inl h0
      · refine .inr (.inl fun a ha => ?_)
        rw [e] at ha; cases ha
        exact hc.lt (by have := hh.len; omega)
  have HRL := hid hrl
  have HD := hid hd
  have HDR := hid hD
  have HLN := hid hd.len
  have HNN := hid hn
  have hdm : dn ≤ 9223372036854775807 := by omega
  clear hh hrl hd hD hn
  go_enter Try.func10, Try.ntmps10
  go_wp2
  go_loopw [0, 6, 13] (fun xv v i wr => ∃ (j n2 c2 : Nat) (b2 : Option Addr), j ≤ dn ∧ xv = .slice b2 n2 c2 ∧ i = .int .i64 j ∧ Hid (Holds wr b2 n2 c2 (allD l (D.take j))) ∧ Hid (Spot wr w.heap.size 44 b2 n2) ∧ Hid (wr.ownsRow w.heap.size 34 5 v j (endCells (endsD l (D.take j)))) ∧ Hid (Below w.heap.size w wr)) (fun _ _ i _ => dn - (intOf i).toNat)
  case atStart => exact ⟨0, ln, lc, lb, Nat.zero_le _, rfl, rfl, HH, HSP, World.ownsRow_nil _ _ _ _, Below.refl _ _⟩
  case round =>
    obtain ⟨j, n2, c2, b2, hj, rfl, rfl, HX, HSB, HOE, HBR⟩ := hrel
    by_cases hlt : j < dn
    · have hjl : j < D.length := by rw [← HLN.out]; exact hlt
      have hi : (j : Int) < (dn : Int) := by omega
      rcases (HD.out.below HBR.out).run with h | ⟨db1, dbo, rfl, hdr⟩
      · omega
      obtain ⟨rb, rn, rc, wb, wn, wc, cb, cn, cc, k0, k1, k2, hdi, hs1, hs2⟩ := hdr j hlt
      have hdb : db1 < wr.heap.size := by simpa using World.block_lt_of_cell? _ _ k0
      have HRJ := hid (allD_right (D.take j) HRL.out (rights_take HDR.out j))
      have HGW := hid (grew wr (.cells #[.slice rb rn rc, .slice wb wn wc, .slice cb cn cc] 31))
      have HDO := hid (refDo_toldK (allD l (D.take j)) (D.getD j default) b2 n2 c2 rb rn rc wb wn wc cb cn cc _ (hdi.below HGW.out) (rights_at HDR.out hjl) (HX.out.below HGW.out) HRJ.out)
      have HTK := hid (take_snoc_getD hjl)
      clear hdi hs1 hs2 hdr
      go_wp2_with fail
      refine HDO.out.mono ?_
      rintro e w2 ⟨nb, nn, nc, f, r, hend, rfl, h2, hb2, hk2⟩
      have HB2 := hid (below_deep HGW.out hb2)
      have HG3 := hid (below_deep (grew w2 (.cells #[.bool f, .int .i64 (r 0), .int .i64 (r 1), .int .i64 (r 2), .int .i64 (r 3)] 34)) (grew _ (.cells #[.bool f, .int .i64 (r 0), .int .i64 (r 1), .int .i64 (r 2), .int .i64 (r 3)] 34)))
      have HB3 := hid (below_deep HB2.out HG3.out)
      have HO3 := hid (World.ownsRow.kept (row := none) HOE.out ⟨HB3.out.os, HB3.out.tape, HB3.out.output, HB3.out.size, fun k hk _ => HB3.out.block k hk⟩ (by generalize Value.ownBlock _ = o; cases o <;> simp))
      have HC1 := hid (lies_one (w2.alloc (.cells #[.bool f, .int .i64 (r 0), .int .i64 (r 1), .int .i64 (r 2), .int .i64 (r 3)] 34)) #[.bool f, .int .i64 (r 0), .int .i64 (r 1), .int .i64 (r 2), .int .i64 (r 3)] 34 5 rfl)
      rw [World.size_alloc] at HC1
      have HY := hid (endCell_one (f, r))
      have HBY : Hid ((j + 1) * 40 ≤ 140737488355328) := Nat.le_trans (Nat.mul_le_mul_right 40 (by omega)) HNN.out
      have HSZ := hid (below_deep HBR.out HB3.out).size
      have HLT := hid HOE.out.lt
      have HEN : Hid (endCells (endsD l (D.take (j + 1))) = endCells (endsD l (D.take j)) ++ endCell (f, r)) := by
        show _ = _
        rw [HTK.out, endsD_snoc, hend, endCells_append]; simp [endCells]
      have HAL : Hid (allD l (D.take (j + 1)) = doD (allD l (D.take j)) (D.getD j default)) := by
        show _ = _
        rw [HTK.out, allD_snoc]
      have H2 := hid h2
      have HSN : Hid (Spot w2 w.heap.size 44 nb nn) := by
        rcases hk2 with ⟨e1, e2⟩ | hk2
        · rw [e1, e2]; exact HSB.out.below HB2.out
        · exact .inr (.inr hk2)
      clear hb2 h2 hend hk2
      go_wp2_with (at_builtin; refine wpList_onto _ rfl _ _ 38 34 5 40 _ Try.underlying38 doneInfo rfl (by decide) (by decide) rfl w.heap.size _ j _ rfl HO3.out _ 1 _ _ rfl HC1.out HY.out HBY.out HSZ.out ?_)
      intro v4 w4 hown4 hg4
      have HB4 := hid ((below_deep HBR.out HB3.out).grown hg4 HSZ.out (fun y hy => (HLT.out y hy).1))
      obtain ⟨hx4, hs4⟩ := (H2.out.below HG3.out).grown (HSN.out.below HG3.out) HO3.out (by decide) hg4
      have HX4 : Hid (Holds w4 nb nn nc (allD l (D.take (j + 1)))) := by
        show Holds _ _ _ _ _
        rw [HAL.out]
        exact hx4
      have HS4 := hid hs4
      have HO4 : Hid (w4.ownsRow w.heap.size 34 5 v4 (j + 1) (endCells (endsD l (D.take (j + 1))))) := by
        show World.ownsRow _ _ _ _ _ _ _
        rw [HEN.out]; exact hown4
      clear hown4 hg4 hx4 hs4
      go_wp2
      go_roundw
      case rel => exact ⟨j + 1, nn, nc, nb, by omega, rfl, by go_num, HX4, HS4, HO4, HB4⟩
      case measure => simp [intOf]; omega
    · obtain rfl : j = dn := by omega
      have htk : D.take j = D := List.take_of_length_le (by rw [← HLN.out]; omega)
      have HX3 : Hid (Holds wr b2 n2 c2 (allD l D)) := by have := HX.out; rw [htk] at this; exact this
      have ho := HOE.out
      rw [htk] at ho
      obtain ⟨eb, ec, rfl, hl⟩ := Lies.owned ho
      have HE3 := hid hl
      clear hl ho
      go_wp2
      go_ret2
      exact ⟨_, _, _, _, _, _, rfl, HX3.out, HE3.out, HBR.out⟩

set_option maxHeartbeats 2000000 in
theorem sameEnds_calls (E : List End3) (ab : Option Addr) (an ac : Nat) (bb : Option Addr) (bn bc : Nat) (w : World) (ha : Ends w ab an ac E) (hb : Ends w bb bn bc E) :
    Calls Try.prog 11 #[.slice ab an ac, .slice bb bn bc] w fun e w' => e = .returned (.bool true) ∧ Below w.heap.size w w' := by
  have h1 := Ends.count ha
  have h2 := Ends.count hb
  obtain rfl : an = bn := by omega
  have hm := Nat.le_trans ha.hdr.le ha.hdr.max
  unfold maxLen at hm
  have HN := hid h1
  have HA := hid ha
  have HB := hid hb
  clear h1 h2 ha hb
  have harr := regsEq
  go_enter Try.func11, Try.ntmps11
  go_wp2
  go_loopw [13] (fun i wr => ∃ k : Nat, k ≤ an ∧ i = .int .i64 k ∧ ∃ q, wr = w.drewN q) (fun i _ => an - (intOf i).toNat)
  case atStart => exact ⟨0, Nat.zero_le _, rfl, 0, rfl⟩
  case round =>
    obtain ⟨k, hk, rfl, q, rfl⟩ := hrel
    by_cases hlt : k < an
    · rcases HA.out.run with h | ⟨b1, o1, rfl, r1⟩
      · omega
      rcases HB.out.run with h | ⟨b2, o2, rfl, r2⟩
      · omega
      obtain ⟨a0, a1, a2, a3, a4⟩ := Ends.cells r1 (k := k) (by rw [← HN.out]; exact hlt)
      obtain ⟨c0, c1, c2, c3, c4⟩ := Ends.cells r2 (k := k) (by rw [← HN.out]; exact hlt)
      clear r1 r2
      generalize (E.getD k default).1 = f at *
      generalize (E.getD k default).2 = r at *
      have hi : (k : Int) < (an : Int) := by omega
      go_wp2
      go_quiet (fail)
      go_wp2
      go_roundw
      case rel => exact ⟨k + 1, by omega, by go_num, _, rfl⟩
      case measure => simp [intOf]; omega
    · go_wp2
      go_ret
      exact ⟨rfl, below_drewN (Below.refl _ _) q⟩
end Go.Proofs.Ytfdliblikkpjiab
