/-
  The document's own Build of an engine, walked.
-/
import Derived.Test.YtdnafpenljdinadDoorRefGoE
import Derived.Test.YtdnafpenljdinadDoorRefOldE
import Derived.Deep.RegionWith
namespace Go.Proofs.YtdnafpenljdinadDoor
open Go.RowKit

/-- A slice holds slices of deeds. -/
structure BatchesIn (w : World) (base : Option Addr) (n c : Nat) (BS : List (List Deed3)) : Prop where
  len : n = BS.length
  hdr : Hdr base n c
  run : n = 0 ∨ ∃ b o, base = some ⟨b, o, none⟩ ∧ ∀ i, i < n → ∃ db dn dc, w.cell? ⟨b, o + i, none⟩ = some (.slice db dn dc) ∧ DeedsIn w db dn dc (BS.getD i default)
theorem BatchesIn.below {w w' : World} {base : Option Addr} {n c : Nat} {BS : List (List Deed3)} (h : BatchesIn w base n c BS) (hb : Below w.heap.size w w') : BatchesIn w' base n c BS := by
  refine ⟨h.len, h.hdr, ?_⟩
  rcases h.run with h0 | ⟨b, o, e, hr⟩
  · exact .inl h0
  · refine .inr ⟨b, o, e, fun i hi => ?_⟩
    obtain ⟨db, dn, dc, h1, h2⟩ := hr i hi
    exact ⟨db, dn, dc, kept_cell hb h1, h2.below hb⟩
/-- How many deeds there are. -/
def manyB (BS : List (List Deed3)) : Nat := (BS.map List.length).sum
theorem manyB_next {BS : List (List Deed3)} {j : Nat} (h : j < BS.length) : manyB (BS.take (j + 1)) = manyB (BS.take j) + (BS.getD j default).length := by
  rw [take_snoc_getD h]; simp [manyB]
theorem manyB_take (BS : List (List Deed3)) : ∀ j, manyB (BS.take j) ≤ manyB BS := fun j => by
  have : manyB BS = manyB (BS.take j) + manyB (BS.drop j) := by
    unfold manyB
    rw [← List.sum_append, ← List.map_append, List.take_append_drop]
  omega
/-- How Build ends: an engine that came of right rows. -/
def BuildTold (w w' : World) (r0 : List Row) (N : Nat) (x : Ending) : Prop := ∃ v D m dq bq e, x = .returned v ∧ Good r0 D m dq bq e ∧ D.length ≤ N ∧ EngIn w' v e ∧ Below w.heap.size w w'
/-- An engine that came of right rows, in a call's own block. -/
def Kept (r0 : List Row) (N : Nat) (W : World) (b : Nat) : Prop := ∃ D m dq bq e cb cn cc db dn dc sb sn sc eb en ec, Good r0 D m dq bq e ∧ D.length ≤ N ∧ Box W b #[.slice cb cn cc, .slice db dn dc, .slice sb sn sc, .slice eb en ec, .int .i64 e.base] 33 ∧ EngLies W cb cn cc db dn dc sb sn sc eb en ec e
theorem Kept.below {r0 : List Row} {N : Nat} {W W' : World} {b : Nat} (h : Kept r0 N W b) (hb : Below W.heap.size W W') : Kept r0 N W' b := by
  obtain ⟨D, m, dq, bq, e, cb, cn, cc, db, dn, dc, sb, sn, sc, eb, en, ec, h1, h2, h3, h4⟩ := h
  exact ⟨D, m, dq, bq, e, cb, cn, cc, db, dn, dc, sb, sn, sc, eb, en, ec, h1, h2, h3.below hb, h4.below hb⟩
theorem Kept.mono {r0 : List Row} {N M : Nat} {W : World} {b : Nat} (h : Kept r0 N W b) (hN : N ≤ M) : Kept r0 M W b := by
  obtain ⟨D, m, dq, bq, e, cb, cn, cc, db, dn, dc, sb, sn, sc, eb, en, ec, h1, h2, h3, h4⟩ := h
  exact ⟨D, m, dq, bq, e, cb, cn, cc, db, dn, dc, sb, sn, sc, eb, en, ec, h1, Nat.le_trans h2 hN, h3, h4⟩
theorem Kept.put {r0 : List Row} {N : Nat} {W : World} {b : Nat} {D : List Deed3} {m : Nat} {dq : Nat → Bool} {bq : ByteArray → Int} {e : Eng} {cb : Option Addr} {cn cc : Nat} {db : Option Addr} {dn dc : Nat} {sb : Option Addr} {sn sc : Nat} {eb : Option Addr} {en ec : Nat} {cb' : Option Addr} {cn' cc' : Nat} {db' : Option Addr} {dn' dc' : Nat} {sb' : Option Addr} {sn' sc' : Nat} {eb' : Option Addr} {en' ec' : Nat} {bs : Int}
    (G : Good r0 D m dq bq e) (hN : D.length ≤ N) (hb : Box W b #[.slice cb' cn' cc', .slice db' dn' dc', .slice sb' sn' sc', .slice eb' en' ec', .int .i64 bs] 33) (hl : EngLies W cb cn cc db dn dc sb sn sc eb en ec e) :
    Kept r0 N (put5 W b (.slice cb cn cc) (.slice db dn dc) (.slice sb sn sc) (.slice eb en ec) (.int .i64 e.base)) b :=
  ⟨D, m, dq, bq, e, cb, cn, cc, db, dn, dc, sb, sn, sc, eb, en, ec, G, hN, put5_box hb _ _ _ _ _, hl.put hb (put5_off _ _ _ _ _ _ _)⟩
theorem ready_go {r0 : List Row} {D : List Deed3} {m : Nat} {dq : Nat → Bool} {bq : ByteArray → Int} {e : Eng} (G : Good r0 D m dq bq e) {q : Nat} (hq : q ∈ readyE e) : goTo e (q : Int) = (goE e q, 0) := by
  obtain ⟨h1, h2, h3⟩ := (ready_mem G).1 hq
  have hl : q < e.deeds.length := by rw [G.len]; omega
  unfold goTo
  rw [if_neg (by omega), Int.toNat_natCast, if_neg (by rw [G.state_at h1, h2]; simp), if_neg (by rw [h3]; simp)]
theorem refBuild_results (tmps : Array Value) (b : Nat) (w : World) {a0 a1 a2 a3 : Option Addr} {n0 n1 n2 n3 c0 c1 c2 c3 : Nat} {z : Int} (h : tmps.getD 6 undef = .pointer (some ⟨b, 0, none⟩)) (hb : Box w b #[.slice a0 n0 c0, .slice a1 n1 c1, .slice a2 n2 c2, .slice a3 n3 c3, .int .i64 z] 33) :
    (results Tryd.f7 tmps).run Tryd.prog w = .ok (.agg #[.slice a0 n0 c0, .slice a1 n1 c1, .slice a2 n2 c2, .slice a3 n3 c3, .int .i64 z]) w := by
  have h' : tmps[6]?.getD undef = .pointer (some ⟨b, 0, none⟩) := by simpa using h
  obtain ⟨k0, k1, k2, k3, k4⟩ := hb.cells5
  simp [results, Tryd.results7, go_sem, h', k0, k1, k2, k3, k4]

set_option maxHeartbeats 16000000 in
set_option maxRecDepth 100000 in
theorem refBuild_calls (l : List Row) (BS : List (List Deed3)) (Pl : List Int) (lb : Option Addr) (ln lc : Nat) (bb : Option Addr) (bn bc : Nat) (pb : Option Addr) (pn pc : Nat) (w : World) (hr : Right l) (hsm : Small l) (ha : Holds w lb ln lc l) (hbs : BatchesIn w bb bn bc BS) (hp : Ints w pb pn pc Pl) (hN : manyB BS ≤ 3000000) :
    Calls Tryd.prog 7 #[.slice lb ln lc, .slice bb bn bc, .slice pb pn pc] w fun x w' => BuildTold w w' l (manyB BS) x := by
  have HBX := hid (Box.new w #[.slice none 0 0, .slice none 0 0, .slice none 0 0, .slice none 0 0, .int .i64 0] 33)
  have HB0 := hid (grew w (.cells #[.slice none 0 0, .slice none 0 0, .slice none 0 0, .slice none 0 0, .int .i64 0] 33))
  have PN := hid (refNew_calls l lb ln lc _ hr hsm (ha.below HB0.out))
  have HBS := hid hbs
  have HBN := hid hbs.len
  have HP := hid hp
  have HNN := hid hN
  have HGN := hid (Good.new hr)
  have hbm := Nat.le_trans hbs.hdr.le hbs.hdr.max
  unfold maxLen at hbm
  clear ha hbs hp hN hsm hr
  go_enter Tryd.func7, Tryd.ntmps7
  go_wp2_with fail
  refine PN.out.mono ?_
  rintro x w1 ⟨v1, rfl, hv1, hb1⟩
  obtain ⟨cb, cn, cc, db, dn, dc, sb, sn, sc, eb, en, ec, rfl, hl1⟩ := hv1
  have HG1 := hid (grew w1 (.cells #[.slice cb cn cc, .slice db dn dc, .slice sb sn sc, .slice eb en ec, .int .i64 (newE l).base] 33))
  have HZ1 := hid ((HBX.out.below hb1).below HG1.out)
  have HK1 : Hid (Kept l (manyB (BS.take 0)) (w1.alloc (.cells #[.slice cb cn cc, .slice db dn dc, .slice sb sn sc, .slice eb en ec, .int .i64 (newE l).base] 33)) w1.heap.size) := ⟨_, _, _, _, _, _, _, _, _, _, _, _, _, _, _, _, _, HGN.out, Nat.zero_le _, Box.new _ _ _, hl1.below HG1.out⟩
  have HB1 := hid (below_deep HB0.out (below_deep hb1 HG1.out))
  have hew : w.heap.size ≠ w1.heap.size := by have := (HBX.out.below hb1).lt; omega
  have hew2 : w.heap.size ≤ w1.heap.size := by have := (HBX.out.below hb1).lt; omega
  clear hl1 hb1 PN HBX HB0 HG1 HGN
  go_wp2
  generalize w1.alloc (.cells #[.slice cb cn cc, .slice db dn dc, .slice sb sn sc, .slice eb en ec, .int .i64 (newE l).base] 33) = A at *
  generalize w1.heap.size = be at *
  go_loopw [2, 19] (fun pv i wr => ∃ (j : Nat) (pb : Option Addr) (pn pc : Nat) (Pl : List Int), j ≤ bn ∧ i = .int .i64 j ∧ pv = .slice pb pn pc ∧ Hid (Ints w pb pn pc Pl) ∧ Hid (Box wr w.heap.size #[.slice none 0 0, .slice none 0 0, .slice none 0 0, .slice none 0 0, .int .i64 0] 33) ∧ Hid (Kept l (manyB (BS.take j)) wr be) ∧ Hid (Below w.heap.size w wr)) (fun _ i _ => bn - (intOf i).toNat)
  case atStart => exact ⟨0, pb, pn, pc, Pl, Nat.zero_le _, rfl, rfl, HP, HZ1, HK1, HB1⟩
  case round =>
    clear HP HZ1 HK1 HB1
    obtain ⟨j, pb, pn, pc, Pl, hj, rfl, rfl, HP, HZ, HK, HBR⟩ := hrel
    by_cases hlt : j < bn
    · have hjl : j < BS.length := by rw [← HBN.out]; exact hlt
      have hi : (j : Int) < (bn : Int) := by omega
      obtain ⟨b1, o1, rfl, hrun⟩ : ∃ b1 o1, bb = some ⟨b1, o1, none⟩ ∧ ∀ i, i < bn → ∃ db dn dc, wr.cell? ⟨b1, o1 + i, none⟩ = some (.slice db dn dc) ∧ DeedsIn wr db dn dc (BS.getD i default) := by
        rcases (HBS.out.below HBR.out).run with h | h
        · omega
        · exact h
      obtain ⟨yb, yn, yc, k0, hyd⟩ := hrun j hlt
      have hb1w : b1 < wr.heap.size := by simpa using World.block_lt_of_cell? _ _ k0
      have HMN := hid (manyB_next hjl)
      have hmt := manyB_take BS (j + 1)
      rw [manyB_next hjl] at hmt
      have hmm := HNN.out
      obtain ⟨D, m, dq, bq, e, cb, cn, cc, db, dn, dc, sb, sn, sc, eb, en, ec, hG, hDl, hbox, hlie⟩ := HK.out
      have HGe := hid hG
      have HDl := hid hDl
      have HX := hid hbox
      have HL := hid hlie
      obtain ⟨x0, x1, x2, x3, x4⟩ := hbox.cells5
      have hbl : be < wr.heap.size := hbox.lt
      have PA := hid (refAddE_calls hG (BS.getD j default) (by omega) _ yb yn yc wr ⟨_, _, _, _, _, _, _, _, _, _, _, _, rfl, hlie⟩ hyd)
      clear hrun hyd hG hDl hbox hlie HK hmt
      generalize BS.getD j default = bt at *
      go_wp2_with fail
      refine PA.out.mono ?_
      rintro x w2 ⟨v2, rfl, hv2, hb2⟩
      obtain ⟨cb2, cn2, cc2, db2, dn2, dc2, sb2, sn2, sc2, eb2, en2, ec2, rfl, hl2⟩ := hv2
      have HG2 := hid (grew w2 (.cells #[.slice cb2 cn2 cc2, .slice db2 dn2 dc2, .slice sb2 sn2 sc2, .slice eb2 en2 ec2, .int .i64 (addTo e bt).base] 33))
      have HY2 := hid (Box.new w2 #[.slice cb2 cn2 cc2, .slice db2 dn2 dc2, .slice sb2 sn2 sc2, .slice eb2 en2 ec2, .int .i64 (addTo e bt).base] 33)
      have HL2 := hid (hl2.below HG2.out)
      have HBB := hid (below_deep hb2 HG2.out)
      have HX2 := hid (HX.out.below HBB.out)
      have HLe2 := hid (HL.out.below HBB.out)
      have HZ2 := hid (HZ.out.below HBB.out)
      have HB2 := hid (below_deep HBR.out HBB.out)
      have hb22 : be < w2.heap.size := (HX.out.below hb2).lt
      clear hb2 hl2 PA x0 x1 x2 x3 x4 k0 HX HL HZ HBR HG2 HBB
      go_upto_region 6 with fail
      generalize hbs2 : (addTo e bt).base = bs2 at *
      generalize w2.alloc (.cells #[.slice cb2 cn2 cc2, .slice db2 dn2 dc2, .slice sb2 sn2 sc2, .slice eb2 en2 ec2, .int .i64 bs2] 33) = A2 at *
      generalize w2.heap.size = bx at *
      have HBS2 := hid hbs2
      clear hbs2
      obtain ⟨x0, x1, x2, x3, x4⟩ := HX2.out.cells5
      obtain ⟨f0, f1, f2, f3, f4⟩ := HX2.out.free5
      obtain ⟨y0, y1, y2, y3, y4⟩ := HY2.out.cells5
      have hbA : be < A2.heap.size := HX2.out.lt
      have hxA : bx < A2.heap.size := HY2.out.lt
      have hwA : w.heap.size < A2.heap.size := HZ2.out.lt
      by_cases hq : wDs bt = 0
      · have HAT : Hid (addTo e bt = addAll e bt) := by show _ = _; unfold addTo; rw [if_pos hq]
        have hl3 := HL2.out
        rw [HAT.out] at hl3
        have hbs3 : (addAll e bt).base = bs2 := by rw [← HAT.out]; exact HBS2.out
        have HKP : Hid (Kept l (manyB (BS.take (j + 1))) (put5 A2 be (.slice cb2 cn2 cc2) (.slice db2 dn2 dc2) (.slice sb2 sn2 sc2) (.slice eb2 en2 ec2) (.int .i64 bs2)) be) := by
          have := Kept.put (N := manyB (BS.take (j + 1))) (HGe.out.addAll (wDs_right hq)) (by rw [List.length_append, HMN.out]; have := HDl.out; omega) HX2.out hl3
          rw [hbs3] at this
          exact this
        have HZP := hid (put5_far HZ2.out hew (.slice cb2 cn2 cc2) (.slice db2 dn2 dc2) (.slice sb2 sn2 sc2) (.slice eb2 en2 ec2) (.int .i64 bs2))
        have HBP := hid (put5_below HB2.out hew2 (.slice cb2 cn2 cc2) (.slice db2 dn2 dc2) (.slice sb2 sn2 sc2) (.slice eb2 en2 ec2) (.int .i64 bs2))
        unfold put5 at HKP HZP HBP
        rw [hq]
        clear hl3 hbs3 hq
        go_wp2
        generalize ((((A2.setCell ⟨be, 0, none⟩ (.slice cb2 cn2 cc2)).setCell ⟨be, 1, none⟩ (.slice db2 dn2 dc2)).setCell ⟨be, 2, none⟩ (.slice sb2 sn2 sc2)).setCell ⟨be, 3, none⟩ (.slice eb2 en2 ec2)).setCell ⟨be, 4, none⟩ (.int .i64 bs2) = W at *
        clear x0 x1 x2 x3 x4 f0 f1 f2 f3 f4 y0 y1 y2 y3 y4 hbA hxA hwA HX2 HY2 HL2 HLe2 HZ2 HB2 HGe HDl HBS2 HAT
        go_loopw [2, 32] (fun pv i wr => ∃ (t : Nat) (pb : Option Addr) (pn pc : Nat) (Pl : List Int), t ≤ 3 ∧ i = .int .i64 t ∧ pv = .slice pb pn pc ∧ Hid (Ints w pb pn pc Pl) ∧ Hid (Box wr w.heap.size #[.slice none 0 0, .slice none 0 0, .slice none 0 0, .slice none 0 0, .int .i64 0] 33) ∧ Hid (Kept l (manyB (BS.take (j + 1))) wr be) ∧ Hid (Below w.heap.size w wr)) (fun _ i _ => 3 - (intOf i).toNat)
        case atStart => exact ⟨0, pb, pn, pc, Pl, by omega, rfl, rfl, HP, HZP, HKP, HBP⟩
        case round =>
          clear HP HZP HKP HBP
          obtain ⟨t, pb, pn, pc, Pl, ht, rfl, rfl, HP, HZ, HK, HBR⟩ := hrel
          by_cases htl : t < 3
          · have hit : (t : Int) < 3 := by omega
            by_cases hp0 : pn = 0
            · subst hp0
              go_wp2
              go_roundw
              case rel => exact ⟨j + 1, pb, 0, pc, Pl, by omega, by go_num, rfl, HP, HZ, HK, HBR⟩
              case measure => simp [intOf]; omega
            · have tp : ((pn : Int) == 0) = false := by simp; omega
              have hpos : (0 : Int) < (pn : Int) := by omega
              have hPl : 0 < Pl.length := by have := Ints.count HP.out; omega
              obtain ⟨b2, o2, rfl, hrun⟩ : ∃ b2 o2, pb = some ⟨b2, o2, none⟩ ∧ Run w b2 o2 (intsC Pl) := by
                rcases HP.out.run with h | h
                · omega
                · exact h
              have c0 : wr.cell? ⟨b2, o2, none⟩ = some (.int .i64 (Pl.getD 0 0)) := kept_cell HBR.out (by simpa using hrun 0 _ (intsC_at hPl))
              have hb2w : b2 < wr.heap.size := by simpa using World.block_lt_of_cell? _ _ c0
              have hs1 := slice_run (t := 25) Tryd.underlying25 Tryd.sizeOf3 (some ⟨b2, o2, none⟩) pn pc 1 (by omega)
              rw [show ((1 : Nat) : Int) = 1 from rfl] at hs1
              have HP2 := hid (ints_cut HP.out (k := 1) (by omega))
              generalize cutB (some ⟨b2, o2, none⟩) pc 1 1 = pb' at *
              generalize Pl.drop 1 = Pl' at *
              generalize pn - 1 = pn' at *
              generalize pc - 1 = pc' at *
              generalize Pl.getD 0 0 = x at *
              obtain ⟨D, m, dq, bq, e, cb, cn, cc, db, dn, dc, sb, sn, sc, eb, en, ec, hG, hDl, hbox, hlie⟩ := HK.out
              have hD4 : D.length ≤ 1954687338211 := by
                have := manyB_take BS (j + 1); have := HNN.out; omega
              have HGe := hid hG
              have HDl := hid hDl
              have HD4 := hid hD4
              have HX := hid hbox
              have HL := hid hlie
              obtain ⟨x0, x1, x2, x3, x4⟩ := hbox.cells5
              have hbl : be < wr.heap.size := hbox.lt
              have PR := hid (refReady_calls hG hD4 _ wr ⟨_, _, _, _, _, _, _, _, _, _, _, _, rfl, hlie⟩)
              clear hrun hG hDl hbox hlie HK hPl hD4 hp0
              go_wp2_with fail
              refine PR.out.mono ?_
              rintro _ w3 ⟨nb, nn, nc, rfl, hn3, hb3⟩
              have HN3 := hid hn3
              have HX3 := hid (HX.out.below hb3)
              have HL3 := hid (HL.out.below hb3)
              have HZ3 := hid (HZ.out.below hb3)
              have HB3 := hid (below_deep HBR.out hb3)
              have hnm := Nat.le_trans hn3.hdr.le hn3.hdr.max
              unfold maxLen at hnm
              have HKS : Hid (Kept l (manyB (BS.take (j + 1))) w3 be) := ⟨_, _, _, _, _, _, _, _, _, _, _, _, _, _, _, _, _, HGe.out, HDl.out, HX3.out, HL3.out⟩
              obtain ⟨y0, y1, y2, y3, y4⟩ := HX3.out.cells5
              obtain ⟨f0, f1, f2, f3, f4⟩ := HX3.out.free5
              have hb3l : be < w3.heap.size := HX3.out.lt
              clear hn3 hb3 PR x0 x1 x2 x3 x4 c0 hs1 HX HL HZ HBR tp hpos hb2w hbl
              by_cases h7 : x = 7
              · subst h7
                have PC := hid (refClearE_calls HGe.out HD4.out _ w3 ⟨_, _, _, _, _, _, _, _, _, _, _, _, rfl, HL3.out⟩)
                go_wp2_with fail
                refine PC.out.mono ?_
                rintro _ w4 ⟨v4, rfl, hv4, hb4⟩
                obtain ⟨cb4, cn4, cc4, db4, dn4, dc4, sb4, sn4, sc4, eb4, en4, ec4, rfl, hl4⟩ := hv4
                have HX4 := hid (HX3.out.below hb4)
                have HK4 := hid (Kept.put (N := manyB (BS.take (j + 1))) (HGe.out.clear HGe.out.mark.le HGe.out.mark.done) HDl.out HX4.out hl4)
                have HZ4 := hid (put5_far (HZ3.out.below hb4) hew (.slice cb4 cn4 cc4) (.slice db4 dn4 dc4) (.slice sb4 sn4 sc4) (.slice eb4 en4 ec4) (.int .i64 (clearE e (markE e)).base))
                have HB4 := hid (put5_below (below_deep HB3.out hb4) hew2 (.slice cb4 cn4 cc4) (.slice db4 dn4 dc4) (.slice sb4 sn4 sc4) (.slice eb4 en4 ec4) (.int .i64 (clearE e (markE e)).base))
                obtain ⟨y0, y1, y2, y3, y4⟩ := HX4.out.cells5
                obtain ⟨f0, f1, f2, f3, f4⟩ := HX4.out.free5
                have hb4l : be < w4.heap.size := HX4.out.lt
                unfold put5 at HK4 HZ4 HB4
                clear hb4 hl4 PC HX3 HL3 HZ3 HB3 HKS
                generalize (clearE e (markE e)).base = bs4 at *
                go_wp2
                go_roundw
                case rel => exact ⟨t + 1, pb', pn', pc', Pl', by omega, by go_num, rfl, HP2, HZ4, HK4, HB4⟩
                case measure => simp [intOf]; omega
              · have t7 : (x == 7) = false := by simpa using h7
                by_cases hneg : 0 ≤ x
                · obtain ⟨q, rfl⟩ : ∃ q : Nat, x = (q : Int) := ⟨x.toNat, by omega⟩
                  by_cases hqn : q < nn
                  · have dq1 : decide ((q : Int) < (nn : Int)) = true := by simpa using hqn
                    have hqi : (q : Int) < (nn : Int) := by omega
                    have dt : decide ((t : Int) < 3) = true := by simpa using hit
                    have hql : q < (ints (readyE e)).length := by rw [← Ints.count HN3.out]; exact hqn
                    have hqr : q < (readyE e).length := by simpa [ints] using hql
                    obtain ⟨b5, o5, rfl, hr5⟩ : ∃ b5 o5, nb = some ⟨b5, o5, none⟩ ∧ Run w3 b5 o5 (intsC (ints (readyE e))) := by
                      rcases HN3.out.run with h | h
                      · omega
                      · exact h
                    have hgd : (ints (readyE e)).getD q 0 = (((readyE e).getD q 0 : Nat) : Int) := by simp [ints, List.getD, hqr]
                    have c5 := hr5 q _ (intsC_at hql)
                    rw [hgd] at c5
                    have hmem : (readyE e).getD q 0 ∈ readyE e := by
                      rw [List.getD_eq_getElem?_getD, List.getElem?_eq_getElem hqr]
                      exact List.getElem_mem hqr
                    have hrg := ready_go HGe.out hmem
                    have hgo := (ready_mem HGe.out).1 hmem
                    have HGG := hid (HGe.out.go hgo.1 hgo.2.2)
                    have hb5 : b5 < w3.heap.size := by simpa using World.block_lt_of_cell? _ _ c5
                    have PG := hid (fun W hv => refGoE_calls HGe.out HD4.out (((readyE e).getD q 0 : Nat) : Int) (.agg #[.slice cb cn cc, .slice db dn dc, .slice sb sn sc, .slice eb en ec, .int .i64 e.base]) W hv)
                    unfold GoTold at PG
                    rw [hrg] at PG
                    clear hr5 hgd hmem hrg hgo hql hqr hneg h7 hqn HN3
                    generalize (readyE e).getD q 0 = z at *
                    go_wp2
                    go_region_with ((go_at_call 20; refine (PG.out _ ⟨_, _, _, _, _, _, _, _, _, _, _, _, rfl, HL3.out.below (step_drew (Below.refl _ _))⟩).mono ?_; rintro _ w4 ⟨v4, rfl, hv4, hb4⟩; obtain ⟨cb4, cn4, cc4, db4, dn4, dc4, sb4, sn4, sc4, eb4, en4, ec4, rfl, hl4⟩ := hv4; have HX4 := hid ((HX3.out.below (step_drew (Below.refl _ _))).below hb4); obtain ⟨s0, s1, s2, s3, s4⟩ := HX4.out.cells5; obtain ⟨f0, f1, f2, f3, f4⟩ := HX4.out.free5; have hb4l : be < w4.heap.size := HX4.out.lt))
                    all_goals
                      have HK4 := hid (Kept.put (N := manyB (BS.take (j + 1))) HGG.out HDl.out HX4.out hl4)
                      have HZ4 := hid (put5_far ((HZ3.out.below (step_drew (Below.refl _ _))).below hb4) hew (.slice cb4 cn4 cc4) (.slice db4 dn4 dc4) (.slice sb4 sn4 sc4) (.slice eb4 en4 ec4) (.int .i64 (goE e z).base))
                      have HB4 := hid (put5_below (below_deep (below_deep HB3.out (step_drew (Below.refl _ _))) hb4) hew2 (.slice cb4 cn4 cc4) (.slice db4 dn4 dc4) (.slice sb4 sn4 sc4) (.slice eb4 en4 ec4) (.int .i64 (goE e z).base))
                      unfold put5 at HK4 HZ4 HB4
                      go_wp2
                      go_roundw
                      case rel => exact ⟨t + 1, pb', pn', pc', Pl', by omega, by go_num, rfl, HP2, HZ4, HK4, HB4⟩
                      case measure => simp [intOf]; omega
                  · have dq1 : decide ((q : Int) < (nn : Int)) = false := by simp; omega
                    have dq2 : decide (q < nn) = false := by simp; omega
                    clear hqn hneg h7
                    go_wp2
                    go_roundw
                    case rel => exact ⟨t + 1, pb', pn', pc', Pl', by omega, by go_num, rfl, HP2, HZ3, HKS, HB3⟩
                    case measure => simp [intOf]; omega
                · have dq0 : decide (0 ≤ x) = false := by simpa using hneg
                  clear hneg h7
                  go_wp2
                  go_roundw
                  case rel => exact ⟨t + 1, pb', pn', pc', Pl', by omega, by go_num, rfl, HP2, HZ3, HKS, HB3⟩
                  case measure => simp [intOf]; omega
          · obtain rfl : t = 3 := by omega
            go_wp2
            go_roundw
            case rel => exact ⟨j + 1, pb, pn, pc, Pl, by omega, by go_num, rfl, HP, HZ, HK, HBR⟩
            case measure => simp [intOf]; omega
      · have t : (wDs bt == 0) = false := by simpa using hq
        have HKP : Hid (Kept l (manyB (BS.take (j + 1))) A2 be) := ⟨_, _, _, _, _, _, _, _, _, _, _, _, _, _, _, _, _, HGe.out, (by rw [HMN.out]; have := HDl.out; omega), HX2.out, HLe2.out⟩
        have HZP := hid HZ2.out
        have HBP := hid HB2.out
        clear hq
        go_wp2
        generalize A2 = W at *
        clear x0 x1 x2 x3 x4 f0 f1 f2 f3 f4 y0 y1 y2 y3 y4 hbA hxA hwA HX2 HY2 HL2 HLe2 HZ2 HB2 HGe HDl HBS2
        go_loopw [2, 32] (fun pv i wr => ∃ (t : Nat) (pb : Option Addr) (pn pc : Nat) (Pl : List Int), t ≤ 3 ∧ i = .int .i64 t ∧ pv = .slice pb pn pc ∧ Hid (Ints w pb pn pc Pl) ∧ Hid (Box wr w.heap.size #[.slice none 0 0, .slice none 0 0, .slice none 0 0, .slice none 0 0, .int .i64 0] 33) ∧ Hid (Kept l (manyB (BS.take (j + 1))) wr be) ∧ Hid (Below w.heap.size w wr)) (fun _ i _ => 3 - (intOf i).toNat)
        case atStart => exact ⟨0, pb, pn, pc, Pl, by omega, rfl, rfl, HP, HZP, HKP, HBP⟩
        case round =>
          clear HP HZP HKP HBP
          obtain ⟨t, pb, pn, pc, Pl, ht, rfl, rfl, HP, HZ, HK, HBR⟩ := hrel
          by_cases htl : t < 3
          · have hit : (t : Int) < 3 := by omega
            by_cases hp0 : pn = 0
            · subst hp0
              go_wp2
              go_roundw
              case rel => exact ⟨j + 1, pb, 0, pc, Pl, by omega, by go_num, rfl, HP, HZ, HK, HBR⟩
              case measure => simp [intOf]; omega
            · have tp : ((pn : Int) == 0) = false := by simp; omega
              have hpos : (0 : Int) < (pn : Int) := by omega
              have hPl : 0 < Pl.length := by have := Ints.count HP.out; omega
              obtain ⟨b2, o2, rfl, hrun⟩ : ∃ b2 o2, pb = some ⟨b2, o2, none⟩ ∧ Run w b2 o2 (intsC Pl) := by
                rcases HP.out.run with h | h
                · omega
                · exact h
              have c0 : wr.cell? ⟨b2, o2, none⟩ = some (.int .i64 (Pl.getD 0 0)) := kept_cell HBR.out (by simpa using hrun 0 _ (intsC_at hPl))
              have hb2w : b2 < wr.heap.size := by simpa using World.block_lt_of_cell? _ _ c0
              have hs1 := slice_run (t := 25) Tryd.underlying25 Tryd.sizeOf3 (some ⟨b2, o2, none⟩) pn pc 1 (by omega)
              rw [show ((1 : Nat) : Int) = 1 from rfl] at hs1
              have HP2 := hid (ints_cut HP.out (k := 1) (by omega))
              generalize cutB (some ⟨b2, o2, none⟩) pc 1 1 = pb' at *
              generalize Pl.drop 1 = Pl' at *
              generalize pn - 1 = pn' at *
              generalize pc - 1 = pc' at *
              generalize Pl.getD 0 0 = x at *
              obtain ⟨D, m, dq, bq, e, cb, cn, cc, db, dn, dc, sb, sn, sc, eb, en, ec, hG, hDl, hbox, hlie⟩ := HK.out
              have hD4 : D.length ≤ 1954687338211 := by
                have := manyB_take BS (j + 1); have := HNN.out; omega
              have HGe := hid hG
              have HDl := hid hDl
              have HD4 := hid hD4
              have HX := hid hbox
              have HL := hid hlie
              obtain ⟨x0, x1, x2, x3, x4⟩ := hbox.cells5
              have hbl : be < wr.heap.size := hbox.lt
              have PR := hid (refReady_calls hG hD4 _ wr ⟨_, _, _, _, _, _, _, _, _, _, _, _, rfl, hlie⟩)
              clear hrun hG hDl hbox hlie HK hPl hD4 hp0
              go_wp2_with fail
              refine PR.out.mono ?_
              rintro _ w3 ⟨nb, nn, nc, rfl, hn3, hb3⟩
              have HN3 := hid hn3
              have HX3 := hid (HX.out.below hb3)
              have HL3 := hid (HL.out.below hb3)
              have HZ3 := hid (HZ.out.below hb3)
              have HB3 := hid (below_deep HBR.out hb3)
              have hnm := Nat.le_trans hn3.hdr.le hn3.hdr.max
              unfold maxLen at hnm
              have HKS : Hid (Kept l (manyB (BS.take (j + 1))) w3 be) := ⟨_, _, _, _, _, _, _, _, _, _, _, _, _, _, _, _, _, HGe.out, HDl.out, HX3.out, HL3.out⟩
              obtain ⟨y0, y1, y2, y3, y4⟩ := HX3.out.cells5
              obtain ⟨f0, f1, f2, f3, f4⟩ := HX3.out.free5
              have hb3l : be < w3.heap.size := HX3.out.lt
              clear hn3 hb3 PR x0 x1 x2 x3 x4 c0 hs1 HX HL HZ HBR tp hpos hb2w hbl
              by_cases h7 : x = 7
              · subst h7
                have PC := hid (refClearE_calls HGe.out HD4.out _ w3 ⟨_, _, _, _, _, _, _, _, _, _, _, _, rfl, HL3.out⟩)
                go_wp2_with fail
                refine PC.out.mono ?_
                rintro _ w4 ⟨v4, rfl, hv4, hb4⟩
                obtain ⟨cb4, cn4, cc4, db4, dn4, dc4, sb4, sn4, sc4, eb4, en4, ec4, rfl, hl4⟩ := hv4
                have HX4 := hid (HX3.out.below hb4)
                have HK4 := hid (Kept.put (N := manyB (BS.take (j + 1))) (HGe.out.clear HGe.out.mark.le HGe.out.mark.done) HDl.out HX4.out hl4)
                have HZ4 := hid (put5_far (HZ3.out.below hb4) hew (.slice cb4 cn4 cc4) (.slice db4 dn4 dc4) (.slice sb4 sn4 sc4) (.slice eb4 en4 ec4) (.int .i64 (clearE e (markE e)).base))
                have HB4 := hid (put5_below (below_deep HB3.out hb4) hew2 (.slice cb4 cn4 cc4) (.slice db4 dn4 dc4) (.slice sb4 sn4 sc4) (.slice eb4 en4 ec4) (.int .i64 (clearE e (markE e)).base))
                obtain ⟨y0, y1, y2, y3, y4⟩ := HX4.out.cells5
                obtain ⟨f0, f1, f2, f3, f4⟩ := HX4.out.free5
                have hb4l : be < w4.heap.size := HX4.out.lt
                unfold put5 at HK4 HZ4 HB4
                clear hb4 hl4 PC HX3 HL3 HZ3 HB3 HKS
                generalize (clearE e (markE e)).base = bs4 at *
                go_wp2
                go_roundw
                case rel => exact ⟨t + 1, pb', pn', pc', Pl', by omega, by go_num, rfl, HP2, HZ4, HK4, HB4⟩
                case measure => simp [intOf]; omega
              · have t7 : (x == 7) = false := by simpa using h7
                by_cases hneg : 0 ≤ x
                · obtain ⟨q, rfl⟩ : ∃ q : Nat, x = (q : Int) := ⟨x.toNat, by omega⟩
                  by_cases hqn : q < nn
                  · have dq1 : decide ((q : Int) < (nn : Int)) = true := by simpa using hqn
                    have hqi : (q : Int) < (nn : Int) := by omega
                    have dt : decide ((t : Int) < 3) = true := by simpa using hit
                    have hql : q < (ints (readyE e)).length := by rw [← Ints.count HN3.out]; exact hqn
                    have hqr : q < (readyE e).length := by simpa [ints] using hql
                    obtain ⟨b5, o5, rfl, hr5⟩ : ∃ b5 o5, nb = some ⟨b5, o5, none⟩ ∧ Run w3 b5 o5 (intsC (ints (readyE e))) := by
                      rcases HN3.out.run with h | h
                      · omega
                      · exact h
                    have hgd : (ints (readyE e)).getD q 0 = (((readyE e).getD q 0 : Nat) : Int) := by simp [ints, List.getD, hqr]
                    have c5 := hr5 q _ (intsC_at hql)
                    rw [hgd] at c5
                    have hmem : (readyE e).getD q 0 ∈ readyE e := by
                      rw [List.getD_eq_getElem?_getD, List.getElem?_eq_getElem hqr]
                      exact List.getElem_mem hqr
                    have hrg := ready_go HGe.out hmem
                    have hgo := (ready_mem HGe.out).1 hmem
                    have HGG := hid (HGe.out.go hgo.1 hgo.2.2)
                    have hb5 : b5 < w3.heap.size := by simpa using World.block_lt_of_cell? _ _ c5
                    have PG := hid (fun W hv => refGoE_calls HGe.out HD4.out (((readyE e).getD q 0 : Nat) : Int) (.agg #[.slice cb cn cc, .slice db dn dc, .slice sb sn sc, .slice eb en ec, .int .i64 e.base]) W hv)
                    unfold GoTold at PG
                    rw [hrg] at PG
                    clear hr5 hgd hmem hrg hgo hql hqr hneg h7 hqn HN3
                    generalize (readyE e).getD q 0 = z at *
                    go_wp2
                    go_region_with ((go_at_call 20; refine (PG.out _ ⟨_, _, _, _, _, _, _, _, _, _, _, _, rfl, HL3.out.below (step_drew (Below.refl _ _))⟩).mono ?_; rintro _ w4 ⟨v4, rfl, hv4, hb4⟩; obtain ⟨cb4, cn4, cc4, db4, dn4, dc4, sb4, sn4, sc4, eb4, en4, ec4, rfl, hl4⟩ := hv4; have HX4 := hid ((HX3.out.below (step_drew (Below.refl _ _))).below hb4); obtain ⟨s0, s1, s2, s3, s4⟩ := HX4.out.cells5; obtain ⟨f0, f1, f2, f3, f4⟩ := HX4.out.free5; have hb4l : be < w4.heap.size := HX4.out.lt))
                    all_goals
                      have HK4 := hid (Kept.put (N := manyB (BS.take (j + 1))) HGG.out HDl.out HX4.out hl4)
                      have HZ4 := hid (put5_far ((HZ3.out.below (step_drew (Below.refl _ _))).below hb4) hew (.slice cb4 cn4 cc4) (.slice db4 dn4 dc4) (.slice sb4 sn4 sc4) (.slice eb4 en4 ec4) (.int .i64 (goE e z).base))
                      have HB4 := hid (put5_below (below_deep (below_deep HB3.out (step_drew (Below.refl _ _))) hb4) hew2 (.slice cb4 cn4 cc4) (.slice db4 dn4 dc4) (.slice sb4 sn4 sc4) (.slice eb4 en4 ec4) (.int .i64 (goE e z).base))
                      unfold put5 at HK4 HZ4 HB4
                      go_wp2
                      go_roundw
                      case rel => exact ⟨t + 1, pb', pn', pc', Pl', by omega, by go_num, rfl, HP2, HZ4, HK4, HB4⟩
                      case measure => simp [intOf]; omega
                  · have dq1 : decide ((q : Int) < (nn : Int)) = false := by simp; omega
                    have dq2 : decide (q < nn) = false := by simp; omega
                    clear hqn hneg h7
                    go_wp2
                    go_roundw
                    case rel => exact ⟨t + 1, pb', pn', pc', Pl', by omega, by go_num, rfl, HP2, HZ3, HKS, HB3⟩
                    case measure => simp [intOf]; omega
                · have dq0 : decide (0 ≤ x) = false := by simpa using hneg
                  clear hneg h7
                  go_wp2
                  go_roundw
                  case rel => exact ⟨t + 1, pb', pn', pc', Pl', by omega, by go_num, rfl, HP2, HZ3, HKS, HB3⟩
                  case measure => simp [intOf]; omega
          · obtain rfl : t = 3 := by omega
            go_wp2
            go_roundw
            case rel => exact ⟨j + 1, pb, pn, pc, Pl, by omega, by go_num, rfl, HP, HZ, HK, HBR⟩
            case measure => simp [intOf]; omega
    · obtain rfl : j = bn := by omega
      have hjt : BS.take j = BS := List.take_of_length_le (by rw [← HBN.out]; exact Nat.le_refl _)
      rw [hjt] at HK
      obtain ⟨D, m, dq, bq, e, cb, cn, cc, db, dn, dc, sb, sn, sc, eb, en, ec, hG, hDl, hbox, hlie⟩ := HK.out
      have HGe := hid hG
      have HDl := hid hDl
      obtain ⟨x0, x1, x2, x3, x4⟩ := hbox.cells5
      obtain ⟨z0, z1, z2, z3, z4⟩ := HZ.out.cells5
      obtain ⟨f0, f1, f2, f3, f4⟩ := HZ.out.free5
      have hbl : be < wr.heap.size := hbox.lt
      have hzl : w.heap.size < wr.heap.size := HZ.out.lt
      have HBF := hid (put5_box HZ.out (.slice cb cn cc) (.slice db dn dc) (.slice sb sn sc) (.slice eb en ec) (.int .i64 e.base))
      have HBE := hid (put5_below HBR.out (Nat.le_refl _) (.slice cb cn cc) (.slice db dn dc) (.slice sb sn sc) (.slice eb en ec) (.int .i64 e.base))
      have HLF := hid (hlie.put HZ.out (put5_off wr w.heap.size (.slice cb cn cc) (.slice db dn dc) (.slice sb sn sc) (.slice eb en ec) (.int .i64 e.base)))
      unfold put5 at HBF HBE HLF
      clear hG hDl hbox hlie HK
      go_wp2
      (try simp only [Exit.inBlock, Exit.then])
      refine bodyPost_ret (refBuild_results _ w.heap.size _ rfl HBF.out) rfl ?_
      exact ⟨_, D, m, dq, bq, e, rfl, HGe.out, HDl.out, ⟨_, _, _, _, _, _, _, _, _, _, _, _, rfl, HLF.out⟩, HBE.out⟩
end Go.Proofs.YtdnafpenljdinadDoor
