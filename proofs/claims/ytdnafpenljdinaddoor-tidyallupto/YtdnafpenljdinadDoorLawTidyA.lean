/-
  The walk of the statement TidyAll: the call returns true and changes nothing that was there.
-/
import Derived.Test.YtdnafpenljdinadDoorRefBuild
import Derived.Test.YtdnafpenljdinadDoorRunSet
import Derived.Test.YtdnafpenljdinadDoorLawTells
namespace Go.Proofs.YtdnafpenljdinadDoor
open Go.RowKit

/-- What is left when all is done, and what is old is forgotten. -/
structure LeftIs (r0 : List Row) (D : List Deed3) (x : Eng) : Prop where
  deeds : x.deeds.length = 0
  chains : x.chains.length = (seqR r0 D D.length).length
  size : sizeC x.chains = (seqR r0 D D.length).length
  seen : seenTo x 0 = (seqR r0 D D.length, 0)
theorem left_is {r0 : List Row} {D : List Deed3} {m : Nat} {dn : Nat → Bool} {b : ByteArray → Int} {y : Eng} (G : Good r0 D m dn b y) (h : ∀ i, m ≤ i → i < D.length → dn i = true) : LeftIs r0 D (clearE y (markE y)) := by
  have X := mark_clear G
  have e := done_mark G h
  rw [e] at X
  have hl : (clearE y (markE y)).deeds.length = 0 := by rw [X.len, Nat.sub_self]
  have hs := seen_end X (fun i h1 h2 => absurd h2 (by omega))
  rw [hl] at hs
  refine ⟨hl, ?_, ?_, hs⟩
  · rw [each_is X, each_length]
  · rw [each_is X, each_size]

set_option maxHeartbeats 8000000 in
set_option maxRecDepth 100000 in
theorem tidyAll_calls (l : List Row) (BS : List (List Deed3)) (Pl : List Int) (lb : Option Addr) (ln lc : Nat) (bb : Option Addr) (bn bc : Nat) (pb : Option Addr) (pn pc : Nat) (w : World) (hG : GroundN w)
    (hh : Holds w lb ln lc l) (hsm : Small l) (hbs : BatchesIn w bb bn bc BS) (hp : Ints w pb pn pc Pl) (hN : manyB BS ≤ 1048576) :
    Calls Tryd.prog 4 #[.slice lb ln lc, .slice bb bn bc, .slice pb pn pc] w fun e w' => e = .returned (.bool true) ∧ Below w.heap.size w w' := by
  have HH := hid hh
  have HSM := hid hsm
  have HBS := hid hbs
  have HP := hid hp
  have HN := hid hN
  have HAL := hid (tlive_calls w hG)
  clear hh hsm hbs hp hN hG
  go_enter Tryd.func4, Tryd.ntmps4
  go_wp2_with fail
  refine HAL.out.mono ?_
  rintro x w0 ⟨rfl, hb0⟩
  have HB0 := hid hb0
  have HWR := hid (refWrong_holds l lb ln lc w0 HSM.out (HH.out.below hb0))
  clear hb0 HAL
  go_wp2_with fail
  refine HWR.out.mono ?_
  rintro e w1 ⟨rfl, hb1⟩
  have HB1 := hid (below_deep HB0.out hb1)
  clear hb1 HWR
  by_cases hz : wrong l = 0
  · rw [hz]
    have HR := hid (right_of hz)
    clear hz
    have RB := hid (refBuild_calls l BS Pl lb ln lc bb bn bc pb pn pc w1 HR.out HSM.out (HH.out.below HB1.out) (HBS.out.below HB1.out) (HP.out.below (by decide) HB1.out) (Nat.le_trans HN.out (by decide)))
    go_wp2_with fail
    refine RB.out.mono ?_
    rintro x w5 ⟨v5, D, m, dq, bq, e, rfl, G, hD, hv5, hb5⟩
    have HGD := hid G
    have HDN := hid (Nat.le_trans hD HN.out)
    have HB5 := hid (below_deep HB1.out hb5)
    have PF := hid (refFin_calls G (by have := HDN.out; omega) v5 w5 hv5)
    clear G hD hv5 hb5 RB
    go_wp2_with fail
    refine PF.out.mono ?_
    rintro x w6 ⟨y, dy, hgy, hdy, v6, rfl, hv6, hb6⟩
    obtain ⟨cb, cn, cc, db, dn, dc, sb, sn, sc, eb, en, ec, rfl, hl6⟩ := hv6
    have HGY := hid hgy
    have HLI := hid (left_is hgy hdy)
    have HSE := hid (seen_end hgy hdy)
    have HGX := hid (mark_clear hgy)
    have HG6 := hid (grew w6 (.cells #[.slice cb cn cc, .slice db dn dc, .slice sb sn sc, .slice eb en ec, .int .i64 y.base] 33))
    have HX6 := hid (Box.new w6 #[.slice cb cn cc, .slice db dn dc, .slice sb sn sc, .slice eb en ec, .int .i64 y.base] 33)
    have HL6 := hid (hl6.below HG6.out)
    have HB6 := hid (below_deep HB5.out (below_deep hb6 HG6.out))
    clear hgy hdy hl6 hb6 PF HG6
    go_upto_region 6 with fail
    generalize w6.alloc (.cells #[.slice cb cn cc, .slice db dn dc, .slice sb sn sc, .slice eb en ec, .int .i64 y.base] 33) = A6 at *
    generalize w6.heap.size = be at *
    obtain ⟨x0, x1, x2, x3, x4⟩ := HX6.out.cells5
    have hel : be < A6.heap.size := HX6.out.lt
    have PC := hid (tidyClear_calls HGY.out (by have := HDN.out; omega) _ A6 ⟨_, _, _, _, _, _, _, _, _, _, _, _, rfl, HL6.out⟩)
    generalize clearE y (markE y) = x at *
    go_wp2_with fail
    refine PC.out.mono ?_
    rintro x7 w7 ⟨v7, rfl, hv7, hb7⟩
    obtain ⟨cb7, cn7, cc7, db7, dn7, dc7, sb7, sn7, sc7, eb7, en7, ec7, rfl, hl7⟩ := hv7
    obtain rfl : dn7 = 0 := by rw [hl7.de.len, HLI.out.deeds]
    have HCN : Hid (cn7 = (seqR l D D.length).length) := by show _ = _; rw [hl7.ch.len, HLI.out.chains]
    have HG7 := hid (grew w7 (.cells #[.slice cb7 cn7 cc7, .slice db7 0 dc7, .slice sb7 sn7 sc7, .slice eb7 en7 ec7, .int .i64 x.base] 33))
    have HY7 := hid (Box.new w7 #[.slice cb7 cn7 cc7, .slice db7 0 dc7, .slice sb7 sn7 sc7, .slice eb7 en7 ec7, .int .i64 x.base] 33)
    have HLY7 := hid (hl7.below HG7.out)
    have HA7 := hid (below_deep hb7 HG7.out)
    have HX7 := hid (HX6.out.below HA7.out)
    have HL7 := hid (HL6.out.below HA7.out)
    have HB7 := hid (below_deep HB6.out HA7.out)
    clear hl7 hb7 PC x0 x1 x2 x3 x4 hel HX6 HL6 HG7 HA7
    go_upto_region 7 with fail
    generalize w7.alloc (.cells #[.slice cb7 cn7 cc7, .slice db7 0 dc7, .slice sb7 sn7 sc7, .slice eb7 en7 ec7, .int .i64 x.base] 33) = A7 at *
    generalize w7.heap.size = bx at *
    obtain ⟨y0, y1, y2, y3, y4⟩ := HY7.out.cells5
    have hxl : bx < A7.heap.size := HY7.out.lt
    have PS := hid (tidySeen_calls HGX.out (by have := HDN.out; omega) 0 _ A7 ⟨_, _, _, _, _, _, _, _, _, _, _, _, rfl, HLY7.out⟩)
    unfold SeenTold at PS
    rw [HLI.out.seen] at PS
    go_wp2_with fail
    refine PS.out.mono ?_
    rintro z w8 ⟨b8, n8, c8, rfl, h8, hb8⟩
    have HH8 := hid h8
    have HN8 : Hid (n8 = (seqR l D D.length).length) := h8.len
    have HX8 := hid (HX7.out.below hb8)
    have HL8 := hid (HL7.out.below hb8)
    have HY8 := hid (HY7.out.below hb8)
    have HLY8 := hid (HLY7.out.below hb8)
    have HB8 := hid (below_deep HB7.out hb8)
    clear h8 hb8 PS y0 y1 y2 y3 y4 hxl HX7 HL7 HY7 HLY7
    obtain ⟨x0, x1, x2, x3, x4⟩ := HX8.out.cells5
    have hel : be < w8.heap.size := HX8.out.lt
    have PT := hid (refSeen_calls HGY.out (by have := HDN.out; omega) (dn : Int) _ w8 ⟨_, _, _, _, _, _, _, _, _, _, _, _, rfl, HL8.out⟩)
    unfold SeenTold at PT
    rw [HL8.out.de.len, HSE.out, ← HL8.out.de.len] at PT
    go_wp2_with fail
    refine PT.out.mono ?_
    rintro z w9 ⟨b9, n9, c9, rfl, h9, hb9⟩
    have HS9 := hid (same_holds _ b8 b9 n8 n9 c8 c9 w9 (HH8.out.below hb9) h9)
    have HY9 := hid (HY8.out.below hb9)
    have HLY9 := hid (HLY8.out.below hb9)
    have HB9 := hid (below_deep HB8.out hb9)
    clear h9 hb9 PT x0 x1 x2 x3 x4 hel HX8 HL8 HY8 HLY8 HH8
    obtain rfl : cn7 = n8 := by rw [HCN.out, HN8.out]
    go_wp2_with fail
    refine HS9.out.mono ?_
    rintro z w10 ⟨rfl, hb10⟩
    have HY10 := hid (HY9.out.below hb10)
    have HLY10 := hid (HLY9.out.below hb10)
    have HB10 := hid (below_deep HB9.out hb10)
    clear hb10 HS9 HY9 HLY9
    obtain ⟨y0, y1, y2, y3, y4⟩ := HY10.out.cells5
    have hxl : bx < w10.heap.size := HY10.out.lt
    have PZ := hid (tidySize_calls x _ w10 (HGX.out.fit (by have := HDN.out; omega)) (HGX.out.few (by have := HDN.out; omega)) ⟨_, _, _, _, _, _, _, _, _, _, _, _, rfl, HLY10.out⟩)
    have hsz : sizeC x.chains = cn7 := by rw [HLI.out.size, HCN.out]
    rw [hsz] at PZ
    have t1 : ((cn7 : Int) == (cn7 : Int)) = true := by simp
    clear hsz
    go_wp2_with fail
    refine PZ.out.mono ?_
    rintro z w11 ⟨rfl, hb11⟩
    have HB11 := hid (below_deep HB10.out hb11)
    clear hb11 PZ
    go_wp2
    go_ret
    exact ⟨rfl, HB11.out⟩
  · have t := ne_true hz
    clear hz
    generalize wrong l = q at *
    go_wp2
    go_ret
    exact ⟨rfl, HB1.out⟩
end Go.Proofs.YtdnafpenljdinadDoor
