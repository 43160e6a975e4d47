/-
  The document's own Needs and Ready of an engine, walked.
-/
import Derived.Test.YtdnafpenljdinadDoorRefKeys
import Derived.Test.YtdnafpenljdinadDoorInsert
import Derived.Test.YtdnafpenljdinadDoorRefBefore
namespace Go.Proofs.YtdnafpenljdinadDoor
open Go.RowKit

/-- How places are told. -/
def IntsTold (w w' : World) (l : List Int) (x : Ending) : Prop := ∃ nb nn nc, x = .returned (.slice nb nn nc) ∧ Ints w' nb nn nc l ∧ Below w.heap.size w w'
theorem ints_snoc (l : List Nat) (j : Nat) : ints (l ++ [j]) = ints l ++ [(j : Int)] := by simp [ints]
theorem filter_next (g : Nat → Bool) (j : Nat) : (List.range (j + 1)).filter g = (List.range j).filter g ++ if g j = true then [j] else [] := by
  rw [List.range_succ, List.filter_append]
  congr 1
  by_cases h : g j = true
  · simp [h]
  · simp [h]
theorem any_next {α : Type} [Inhabited α] (f : α → Bool) {K : List α} {q : Nat} (h : q < K.length) : (K.take (q + 1)).any f = ((K.take q).any f || f (K.getD q default)) := by
  rw [take_snoc_getD h, List.any_append]
  simp

set_option maxHeartbeats 8000000 in
set_option maxRecDepth 100000 in
theorem refNeeds_calls {r0 : List Row} {D : List Deed3} {m : Nat} {dq : Nat → Bool} {bq : ByteArray → Int} {e : Eng} (G : Good r0 D m dq bq e) (hD : D.length ≤ 1954687338211) (p : Nat) (hp : m + p < D.length) (v : Value) (w : World) (hv : EngIn w v e) :
    Calls Tryd.prog 25 #[v, .int .i64 p] w fun x w' => IntsTold w w' (ints (needsE e p)) x := by
  obtain ⟨cb, cn, cc, db, dn, dc, sb, sn, sc, eb, en, ec, rfl, hl⟩ := hv
  have hle := G.le
  have hpl : p < e.deeds.length := by rw [G.len]; omega
  have hpn : p < dn := by rw [hl.de.len]; exact hpl
  have hz0 : 0 ≤ e.base := by rw [G.base]; omega
  have hz1 : e.base ≤ 1954687338211 := by rw [G.base]; omega
  have hp1 : p ≤ 1954687338211 := by omega
  have hpi : (p : Int) < (dn : Int) := by omega
  have hRD : RightDD (e.deeds.getD p default) := by rw [G.deed]; exact rights_at G.right hp
  have HSR := hid G.srt
  have HW5 := hid (wKeys_len hRD.w)
  have HR5 := hid (wKeys_len hRD.r)
  have HBX := hid (Box.new w #[.slice cb cn cc, .slice db dn dc, .slice sb sn sc, .slice eb en ec, .int .i64 e.base] 33)
  have HBA := hid (grew w (.cells #[.slice cb cn cc, .slice db dn dc, .slice sb sn sc, .slice eb en ec, .int .i64 e.base] 33))
  have HL := hid (hl.below HBA.out)
  have hdm := Nat.le_trans hl.de.hdr.le hl.de.hdr.max
  unfold maxLen at hdm
  have HNE : Hid (∀ j, needE e p j = (keysD (e.deeds.getD p default)).any (fun x => !(before e.chains x (e.base + p)).made && decide ((before e.chains x (e.base + p)).by_ = e.base + j))) := fun _ => rfl
  have HFIN : Hid (needsE e p = (List.range p).filter (needE e p)) := rfl
  clear G hD hp hle hl hRD hpl
  go_enter Tryd.func25, Tryd.ntmps25
  go_wp2
  generalize w.alloc (.cells #[.slice cb cn cc, .slice db dn dc, .slice sb sn sc, .slice eb en ec, .int .i64 e.base] 33) = A at *
  have HALT : Hid (w.heap.size < A.heap.size) := HBX.out.lt
  go_loopw [5, 11] (fun ov i wr => ∃ j r : Nat, j ≤ p ∧ r ≤ j ∧ i = .int .i64 j ∧ Hid (((List.range j).filter (needE e p)).length = r) ∧ Hid (wr.ownsRow A.heap.size 3 1 ov r (intsC (ints ((List.range j).filter (needE e p))))) ∧ Hid (Below A.heap.size A wr)) (fun _ i _ => p - (intOf i).toNat)
  case atStart => exact ⟨0, 0, Nat.zero_le _, Nat.le_refl _, rfl, rfl, World.ownsRow_nil _ _ _ _, Below.refl _ _⟩
  case round =>
    obtain ⟨j, r, hj, hr, rfl, HR, HO, HBR⟩ := hrel
    generalize u5 = ov at *
    by_cases hlt : j < p
    · have hi : (j : Int) < (p : Int) := by omega
      obtain ⟨b1, o1, rfl, hrun⟩ : ∃ b1 o1, db = some ⟨b1, o1, none⟩ ∧ ∀ i, i < dn → DeedHere wr b1 (o1 + i * 3) (e.deeds.getD i default) := by
        rcases (HL.out.below HBR.out).de.run with h | h
        · omega
        · exact h
      obtain ⟨rb, rn, rc, wb, wn, wc, xb, xn, xc, k0, k1, k2, hdi, hs1, hs2⟩ := hrun p hpn
      have c1 := (HBX.out.below HBR.out).cell 1 _ rfl
      have hlw : w.heap.size < wr.heap.size := (HBX.out.below HBR.out).lt
      have hb1w : b1 < wr.heap.size := by simpa using World.block_lt_of_cell? _ _ k0
      have HKE := hid (refKeys_calls (e.deeds.getD p default) rb rn rc wb wn wc xb xn xc wr hdi (by rw [Texts.count hdi.tr]; exact HR5.out) (by rw [Texts.count hdi.tw]; exact HW5.out))
      have HNJ := hid (HNE.out j)
      have HFN := hid (filter_next (needE e p) j)
      clear hrun hdi hs1 hs2
      generalize (List.range j).filter (needE e p) = F at *
      go_wp2_with fail
      refine HKE.out.mono ?_
      rintro x w1 ⟨kb, kn, kc, rfl, hk1, hb1⟩
      have HB1 := hid (below_deep HBR.out hb1)
      have HO1 := hid (owns_keep HO.out hb1)
      have HKT := hid hk1
      have HKL := hid (Texts.count hk1)
      have hkm := Nat.le_trans hk1.hdr.le hk1.hdr.max
      unfold maxLen at hkm
      clear hk1 hb1 HKE c1 k0 k1 k2
      generalize keysD (e.deeds.getD p default) = K at *
      go_wp2
      generalize wr = wa at *
      go_loopw [5, 21] (fun ov2 i wr => ∃ q : Nat, q ≤ kn ∧ i = .int .i64 q ∧ ov2 = ov ∧ Hid ((K.take q).any (fun x => !(before e.chains x (e.base + p)).made && decide ((before e.chains x (e.base + p)).by_ = e.base + j)) = false) ∧ Hid (Below w1.heap.size w1 wr)) (fun _ i _ => kn - (intOf i).toNat)
      case atStart => exact ⟨0, Nat.zero_le _, rfl, rfl, rfl, Below.refl _ _⟩
      case round =>
        obtain ⟨q, hq, rfl, rfl, HQ, HBQ⟩ := hrel
        have HBAQ := hid (below_deep HB1.out HBQ.out)
        by_cases hql : q < kn
        · have hqK : q < K.length := by rw [← HKL.out]; exact hql
          have hiq : (q : Int) < (kn : Int) := by omega
          rcases (HKT.out.below (by decide) HBQ.out).run with h | ⟨b2, o2, rfl, h2⟩
          · omega
          have d0 := h2 q _ (strs_at hqK)
          have hb2w : b2 < wr.heap.size := by simpa using World.block_lt_of_cell? _ _ d0
          have HAN := hid (any_next (fun x => !(before e.chains x (e.base + p)).made && decide ((before e.chains x (e.base + p)).by_ = e.base + j)) hqK)
          rw [HQ.out, Bool.false_or] at HAN
          have e0 := (HBX.out.below HBAQ.out).cell 0 _ rfl
          have e4 := (HBX.out.below HBAQ.out).cell 4 _ rfl
          have hlw2 : w.heap.size < wr.heap.size := (HBX.out.below HBAQ.out).lt
          have HBE := hid (refBefore_calls e.chains cb cn cc (K.getD q default) (e.base + p) wr HSR.out (HL.out.below HBAQ.out).ch)
          clear h2
          generalize K.getD q default = k at *
          have hwp : IntKind.i64.wrap (e.base + (p : Int)) = e.base + p := by rw [IntKind.wrap_i64]; omega
          go_wp2_with fail
          refine HBE.out.mono ?_
          rintro x w2 ⟨y, mm, hh, n2, hbf, rfl, hb2⟩
          rw [hbf] at HAN
          simp only [Ver.made, Ver.by_] at HAN
          have HB2 := hid (below_deep HBQ.out hb2)
          have HBA2 := hid (below_deep HBAQ.out hb2)
          have g4 := (HBX.out.below HBA2.out).cell 4 _ rfl
          have hlw3 : w.heap.size < w2.heap.size := (HBX.out.below HBA2.out).lt
          have HGW := hid (grew w2 (.cells #[.int .i64 y, .bool mm, .bool hh, .int .i64 n2] 68))
          clear hb2 HBE hbf e0 e4 d0 hwp
          have hwj : IntKind.i64.wrap (e.base + (j : Int)) = e.base + j := by rw [IntKind.wrap_i64]; omega
          cases mm with
          | true =>
            have HQ2 : Hid ((K.take (q + 1)).any (fun x => !(before e.chains x (e.base + p)).made && decide ((before e.chains x (e.base + p)).by_ = e.base + j)) = false) := by show _ = _; rw [HAN.out]; rfl
            go_wp2
            go_roundw
            case rel => exact ⟨q + 1, by omega, by go_num, rfl, HQ2, below_deep HB2.out HGW.out⟩
            case measure => simp [intOf]; omega
          | false =>
            by_cases hy : y = e.base + j
            · have HQ2 : Hid (needE e p j = true) := by
                show _ = _
                rw [HNJ.out, List.any_eq_true]
                have h1 : (K.take (q + 1)).any (fun x => !(before e.chains x (e.base + p)).made && decide ((before e.chains x (e.base + p)).by_ = e.base + j)) = true := by rw [HAN.out, hy]; simp
                obtain ⟨x, hx, h3⟩ := List.any_eq_true.1 h1
                exact ⟨x, List.mem_of_mem_take hx, h3⟩
              have t : (y == e.base + (j : Int)) = true := by simp [hy]
              have HFJ : Hid ((List.range (j + 1)).filter (needE e p) = F ++ [j]) := by show _ = _; rw [HFN.out, if_pos HQ2.out]
              have HOX := hid ((owns_keep (owns_keep HO1.out HB2.out) HGW.out).alloc (.cells #[.int .i64 j] 3))
              have HC1 := hid (lies_one (w2.alloc (.cells #[.int .i64 y, .bool false, .bool hh, .int .i64 n2] 68)) #[.int .i64 (j : Int)] 3 1 rfl)
              rw [World.size_alloc] at HC1
              have HBX2 := hid (step_box (step_box HBA2.out (.cells #[.int .i64 y, .bool false, .bool hh, .int .i64 n2] 68)) (.cells #[.int .i64 (j : Int)] 3))
              have HBY : Hid ((r + 1) * 8 ≤ 140737488355328) := by show _ ≤ _; omega
              have HSZ := hid HBX2.out.size
              clear hy
              go_wp2_with (at_builtin; refine wpList_onto _ rfl _ _ 25 3 1 8 _ Tryd.underlying25 intInfo rfl (by decide) (by decide) rfl A.heap.size _ r _ rfl HOX.out _ 1 _ _ rfl HC1.out (intsC_one [(j : Int)]) HBY.out HSZ.out ?_)
              intro v3 w3 hown3 hg3
              have HB3 := hid (step_row HBX2.out HOX.out hg3)
              have HO3 : Hid (w3.ownsRow A.heap.size 3 1 v3 (r + 1) (intsC (ints (F ++ [j])))) := by
                show World.ownsRow _ _ _ _ _ _ _
                rw [ints_snoc, intsC_append]; exact hown3
              clear hown3 hg3
              go_wp2
              go_roundw
              case rel => exact ⟨j + 1, r + 1, by omega, by omega, by go_num, (by show _ = _; rw [HFJ.out, List.length_append, HR.out]; rfl), (by rw [HFJ.out]; exact HO3), HB3⟩
              case measure => simp [intOf]; omega
            · have t : (y == e.base + (j : Int)) = false := by simpa using hy
              have HQ2 : Hid ((K.take (q + 1)).any (fun x => !(before e.chains x (e.base + p)).made && decide ((before e.chains x (e.base + p)).by_ = e.base + j)) = false) := by show _ = _; rw [HAN.out]; simpa using hy
              clear hy
              go_wp2
              go_roundw
              case rel => exact ⟨q + 1, by omega, by go_num, rfl, HQ2, below_deep HB2.out HGW.out⟩
              case measure => simp [intOf]; omega
        · obtain rfl : q = kn := by omega
          have HQ2 : Hid (needE e p j = false) := by
            have := HQ.out
            rw [List.take_of_length_le (by rw [← HKL.out]; exact Nat.le_refl _)] at this
            show _ = _
            rw [HNJ.out]; exact this
          have HFJ : Hid ((List.range (j + 1)).filter (needE e p) = F) := by show _ = _; rw [HFN.out, if_neg (by rw [HQ2.out]; simp), List.append_nil]
          have HO3 := hid (owns_keep HO1.out HBQ.out)
          go_wp2
          go_roundw
          case rel => exact ⟨j + 1, r, by omega, by omega, by go_num, (by show _ = _; rw [HFJ.out]; exact HR.out), (by rw [HFJ.out]; exact HO3), HBAQ⟩
          case measure => simp [intOf]; omega
    · obtain rfl : j = p := by omega
      rw [← HFIN.out] at HO
      obtain ⟨ob, oc, rfl, hol⟩ := Lies.owned HO.out
      have HOL : Hid (Ints wr ob r oc (ints (needsE e j))) := hol
      clear hol
      go_wp2
      go_ret
      exact ⟨_, _, _, rfl, HOL.out, below_deep HBA.out HBR.out⟩

set_option maxHeartbeats 8000000 in
set_option maxRecDepth 100000 in
theorem refReady_calls {r0 : List Row} {D : List Deed3} {m : Nat} {dq : Nat → Bool} {bq : ByteArray → Int} {e : Eng} (G : Good r0 D m dq bq e) (hD : D.length ≤ 1954687338211) (v : Value) (w : World) (hv : EngIn w v e) :
    Calls Tryd.prog 10 #[v] w fun x w' => IntsTold w w' (ints (readyE e)) x := by
  obtain ⟨cb, cn, cc, db, dn, dc, sb, sn, sc, eb, en, ec, rfl, hl⟩ := hv
  have hle := G.le
  have HDL := hid hl.de.len
  have HDN : Hid (dn = D.length - m) := by show _ = _; rw [hl.de.len, G.len]
  have HSN : Hid (sn = dn) := by show _ = _; rw [Ints.count hl.st, G.slen, ← hl.de.len]
  have hdn : dn ≤ 1954687338211 := by rw [HDN.out]; omega
  have HNE := hid (fun p hp v w hv => refNeeds_calls G hD p hp v w hv)
  have HBX := hid (Box.new w #[.slice cb cn cc, .slice db dn dc, .slice sb sn sc, .slice eb en ec, .int .i64 e.base] 33)
  have HBA := hid (grew w (.cells #[.slice cb cn cc, .slice db dn dc, .slice sb sn sc, .slice eb en ec, .int .i64 e.base] 33))
  have HL := hid (hl.below HBA.out)
  have HLE := hid hle
  have HFIN : Hid (readyE e = (List.range e.deeds.length).filter (fun p => decide (e.state.getD p 0 = 0) && (needsE e p).isEmpty)) := rfl
  clear G hD hl hle
  go_enter Tryd.func10, Tryd.ntmps10
  go_wp2
  generalize w.alloc (.cells #[.slice cb cn cc, .slice db dn dc, .slice sb sn sc, .slice eb en ec, .int .i64 e.base] 33) = A at *
  go_loopw [3, 8] (fun ov i wr => ∃ j r : Nat, j ≤ dn ∧ r ≤ j ∧ i = .int .i64 j ∧ Hid (((List.range j).filter (fun p => decide (e.state.getD p 0 = 0) && (needsE e p).isEmpty)).length = r) ∧ Hid (wr.ownsRow A.heap.size 3 1 ov r (intsC (ints ((List.range j).filter (fun p => decide (e.state.getD p 0 = 0) && (needsE e p).isEmpty))))) ∧ Hid (Below A.heap.size A wr)) (fun _ i _ => dn - (intOf i).toNat)
  case atStart => exact ⟨0, 0, Nat.zero_le _, Nat.le_refl _, rfl, rfl, World.ownsRow_nil _ _ _ _, Below.refl _ _⟩
  case round =>
    obtain ⟨j, r, hj, hr, rfl, HR, HO, HBR⟩ := hrel
    by_cases hlt : j < dn
    · have hi : (j : Int) < (dn : Int) := by omega
      have hsj : j < e.state.length := by rw [← Ints.count HL.out.st, HSN.out]; exact hlt
      have his : (j : Int) < (sn : Int) := by rw [HSN.out]; exact hi
      obtain ⟨b1, o1, rfl, hrun⟩ : ∃ b1 o1, sb = some ⟨b1, o1, none⟩ ∧ Run wr b1 o1 (intsC e.state) := by
        rcases (HL.out.below HBR.out).st.run with h | h
        · have := HSN.out; omega
        · exact h
      have k0 := hrun j _ (intsC_at hsj)
      have c0 := (HBX.out.below HBR.out).cell 0 _ rfl
      have c1 := (HBX.out.below HBR.out).cell 1 _ rfl
      have c2 := (HBX.out.below HBR.out).cell 2 _ rfl
      have c3 := (HBX.out.below HBR.out).cell 3 _ rfl
      have c4 := (HBX.out.below HBR.out).cell 4 _ rfl
      have hlw : w.heap.size < wr.heap.size := (HBX.out.below HBR.out).lt
      have hb1w : b1 < wr.heap.size := by simpa using World.block_lt_of_cell? _ _ k0
      have HFN := hid (filter_next (fun p => decide (e.state.getD p 0 = 0) && (needsE e p).isEmpty) j)
      have HJ : Hid (m + j < D.length) := by show _ < _; have := HDN.out; have := HLE.out; omega
      have HND := hid (HNE.out j HJ.out _ wr ⟨cb, cn, cc, db, dn, dc, some ⟨b1, o1, none⟩, sn, sc, eb, en, ec, rfl, HL.out.below HBR.out⟩)
      clear hrun
      generalize (List.range j).filter (fun p => decide (e.state.getD p 0 = 0) && (needsE e p).isEmpty) = F at *
      generalize e.state.getD j 0 = s at *
      by_cases hs : s = 0
      · subst hs
        simp only [decide_true, Bool.true_and] at HFN
        go_wp2_with fail
        refine HND.out.mono ?_
        rintro x w1 ⟨nb, nn, nc, rfl, hn1, hb1⟩
        have HB1 := hid (below_deep HBR.out hb1)
        have HO1 := hid (owns_keep HO.out hb1)
        have hnn : nn = (needsE e j).length := by rw [Ints.count hn1]; simp [ints]
        have hnm := Nat.le_trans hn1.hdr.le hn1.hdr.max
        unfold maxLen at hnm
        have HNN := hid hnn
        clear hn1 hb1 HND hnn
        by_cases h0 : nn = 0
        · have HE : Hid ((needsE e j).isEmpty = true) := by
            show _ = _
            rw [List.isEmpty_iff]
            exact List.eq_nil_of_length_eq_zero (by rw [← HNN.out]; exact h0)
          have HFJ : Hid ((List.range (j + 1)).filter (fun p => decide (e.state.getD p 0 = 0) && (needsE e p).isEmpty) = F ++ [j]) := by show _ = _; rw [HFN.out, if_pos HE.out]
          subst h0
          have HC1 := hid (lies_one w1 #[.int .i64 (j : Int)] 3 1 rfl)
          have HOX := hid (HO1.out.alloc (.cells #[.int .i64 (j : Int)] 3))
          have HBX2 := hid (step_box HB1.out (.cells #[.int .i64 (j : Int)] 3))
          have HBY : Hid ((r + 1) * 8 ≤ 140737488355328) := by show _ ≤ _; omega
          have HSZ := hid HBX2.out.size
          go_wp2_with (at_builtin; refine wpList_onto _ rfl _ _ 25 3 1 8 _ Tryd.underlying25 intInfo rfl (by decide) (by decide) rfl A.heap.size _ r _ rfl HOX.out _ 1 _ _ rfl HC1.out (intsC_one [(j : Int)]) HBY.out HSZ.out ?_)
          intro v3 w3 hown3 hg3
          have HB3 := hid (step_row HBX2.out HOX.out hg3)
          have HO3 : Hid (w3.ownsRow A.heap.size 3 1 v3 (r + 1) (intsC (ints (F ++ [j])))) := by
            show World.ownsRow _ _ _ _ _ _ _
            rw [ints_snoc, intsC_append]; exact hown3
          clear hown3 hg3
          go_wp2
          go_roundw
          case rel => exact ⟨j + 1, r + 1, by omega, by omega, by go_num, (by show _ = _; rw [HFJ.out, List.length_append, HR.out]; rfl), (by rw [HFJ.out]; exact HO3), HB3⟩
          case measure => simp [intOf]; omega
        · have t : ((nn : Int) == 0) = false := by simp; omega
          have HE : Hid ((needsE e j).isEmpty = false) := by
            show _ = _
            cases hx : (needsE e j).isEmpty with
            | false => rfl
            | true =>
              rw [List.isEmpty_iff] at hx
              exact absurd (by rw [HNN.out, hx]; rfl) h0
          have HFJ : Hid ((List.range (j + 1)).filter (fun p => decide (e.state.getD p 0 = 0) && (needsE e p).isEmpty) = F) := by show _ = _; rw [HFN.out, if_neg (by rw [HE.out]; simp), List.append_nil]
          clear h0
          go_wp2
          go_roundw
          case rel => exact ⟨j + 1, r, by omega, by omega, by go_num, (by show _ = _; rw [HFJ.out]; exact HR.out), (by rw [HFJ.out]; exact HO1), HB1⟩
          case measure => simp [intOf]; omega
      · have t : (s == 0) = false := by simpa using hs
        have HFJ : Hid ((List.range (j + 1)).filter (fun p => decide (e.state.getD p 0 = 0) && (needsE e p).isEmpty) = F) := by show _ = _; rw [HFN.out, decide_eq_false hs, Bool.false_and, if_neg (by simp), List.append_nil]
        clear hs
        go_wp2
        go_roundw
        case rel => exact ⟨j + 1, r, by omega, by omega, by go_num, (by show _ = _; rw [HFJ.out]; exact HR.out), (by rw [HFJ.out]; exact HO), HBR⟩
        case measure => simp [intOf]; omega
    · obtain rfl : j = dn := by omega
      rw [HDL.out, ← HFIN.out] at HO
      obtain ⟨ob, oc, rfl, hol⟩ := Lies.owned HO.out
      have HOL : Hid (Ints wr ob r oc (ints (readyE e))) := hol
      clear hol
      go_wp2
      go_ret
      exact ⟨_, _, _, rfl, HOL.out, below_deep HBA.out HBR.out⟩
end Go.Proofs.YtdnafpenljdinadDoor
