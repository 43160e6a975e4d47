/-
  seenFrom and Clear of the program: chains without what is old.
  Of and Rows of the program: chains of rows, and what keys have ahead of a deed.
-/
import Derived.Test.YtllhdmhfjahglacChainAdd
namespace Go.Proofs.Ytllhdmhfjahglac
open Go.RowKit

theorem Vers.drop {w : World} {b o n c m : Nat} {l : List Ver} (h : Vers w (some ⟨b, o, none⟩) n c l) (hm : m ≤ n) : Vers w (some ⟨b, o + m * 4, none⟩) (n - m) (c - m) (l.drop m) := by
  have hn := Vers.count h
  have hlc := h.hdr.le
  have hmx := h.hdr.max
  refine ⟨by rw [flat_length verC_length, List.length_drop, hn], ⟨by omega, by omega, fun h => by cases h⟩, ?_⟩
  rcases h.run with h0 | ⟨b', o', e, hr⟩
  · exact .inl (by omega)
  · cases e
    refine .inr ⟨b, o + m * 4, rfl, fun j u hu => ?_⟩
    rw [flat_drop verC_length, List.getElem?_drop] at hu
    rw [Nat.add_assoc]
    exact hr _ u hu
theorem Vers.none_left {w : World} {base : Option Addr} {c : Nat} {l : List Ver} (hl : l = []) (hh : Hdr base 0 c) : Vers w base 0 c l := by
  subst hl
  exact ⟨rfl, hh, .inl rfl⟩

set_option maxHeartbeats 1000000 in
set_option maxRecDepth 100000 in
theorem seenFrom_calls (l : List Ver) (base : Option Addr) (n c : Nat) (by_ : Int) (w : World) (hn : n < 4611686018427387904) (hr : Rise l) (ha : Vers w base n c l) :
    Calls Try.prog 35 #[.slice base n c, .int .i64 by_] w fun e w' => ∃ b' n' c', e = .returned (.slice b' n' c') ∧ Vers w' b' n' c' (clearV by_ l) ∧ Below w.heap.size w w' := by
  have HBC := hid (below_calls l base n c by_ w hn hr ha)
  have HE := hid (clearV_bel (by_ := by_) hr)
  have hle := belV_le by_ l
  rw [← Vers.count ha] at hle
  have HV := hid ha
  have HN := hid (Vers.count ha)
  have hlc := ha.hdr.le
  have hmx := ha.hdr.max
  unfold maxLen at hmx
  clear ha hr
  generalize belV by_ l = m at *
  cases m with
  | zero =>
    have HE0 : Hid (clearV by_ l = l) := by show _ = _; rw [HE.out, if_pos rfl]
    go_enter Try.func35, Try.ntmps35
    go_wp2_with fail
    refine HBC.out.mono ?_
    rintro e w1 ⟨rfl, hb⟩
    go_wp2
    go_ret
    exact ⟨_, _, _, rfl, by rw [HE0.out]; exact HV.out.below (by decide) hb, hb⟩
  | succ m =>
    go_enter Try.func35, Try.ntmps35
    go_wp2_with fail
    refine HBC.out.mono ?_
    rintro e w1 ⟨rfl, hb⟩
    have HB := hid hb
    have HV1 := hid (HV.out.below (by decide) hb)
    clear hb HBC
    rcases HV1.out.run with h | ⟨b, o, rfl, hrun⟩
    · omega
    obtain ⟨c0, c1, c2, c3⟩ := Vers.cells hrun (i := m) (by rw [← HN.out]; omega)
    have hbw : b < w1.heap.size := by simpa using World.block_lt_of_cell? _ _ c0
    have HE1 : Hid (clearV by_ l = if ((l.getD m default).made && !(l.getD m default).has_) = true then l.drop (m + 1) else l.drop m) := by show _ = _; rw [HE.out]; rfl
    clear hrun
    rcases hx : l.getD m default with ⟨y, mm, hh, x⟩
    rw [hx] at c0 c1 c2 c3 HE1
    simp only [Ver.by_, Ver.made, Ver.has_, Ver.n] at c0 c1 c2 c3
    clear hx
    have HG := hid (grew w1 (.cells #[.int .i64 y, .bool mm, .bool hh, .int .i64 x] 28))
    have HV2 := hid (HV1.out.below (by decide) HG.out)
    have HB2 := hid (below_deep HB.out HG.out)
    have hwr : IntKind.i64.wrap (m : Int) = (m : Int) := by rw [IntKind.wrap_i64]; omega
    have hi : (m : Int) < (n : Int) := by omega
    have hb1 : (m : Int) + 1 ≤ (n : Int) := by omega
    have hb2 : (0 : Int) ≤ (m : Int) + 1 := by omega
    have htn : ((m : Int) + 1).toNat = m + 1 := by omega
    have HD1 := hid (Vers.drop HV2.out (m := m + 1) (by omega))
    have HD0 := hid (Vers.drop HV2.out (m := m) (by omega))
    have HNIL : Hid (c = m + 1 → l.drop (m + 1) = []) := fun h => List.drop_eq_nil_of_le (by rw [← HN.out]; omega)
    by_cases hq : mm = true ∧ hh = false
    · obtain ⟨rfl, rfl⟩ := hq
      have HE2 : Hid (clearV by_ l = l.drop (m + 1)) := by show _ = _; rw [HE1.out]; rfl
      go_wp2
      all_goals
        go_ret
        refine ⟨_, _, _, rfl, ?_, HB2.out⟩
        rw [HE2.out]
        first
          | exact HD1.out
          | (rw [show n - (m + 1) = 0 from by omega]; exact Vers.none_left (HNIL.out (by omega)) ⟨by omega, by unfold maxLen; omega, fun h => by cases h⟩)
    · have HE2 : Hid (clearV by_ l = l.drop m) := by
        show _ = _
        rw [HE1.out, if_neg (by
          simp only [Ver.made, Ver.has_, Bool.and_eq_true, Bool.not_eq_true']
          exact hq)]
      have hb3 : ¬ (c = m) := by omega
      cases mm with
      | false =>
        go_wp2
        all_goals
          go_ret
          exact ⟨_, _, _, rfl, by rw [HE2.out]; exact HD0.out, HB2.out⟩
      | true =>
        cases hh with
        | false => exact absurd ⟨rfl, rfl⟩ hq
        | true =>
          go_wp2
          all_goals
            go_ret
            exact ⟨_, _, _, rfl, by rw [HE2.out]; exact HD0.out, HB2.out⟩

theorem clearV_len (by_ : Int) (l : List Ver) : (clearV by_ l).length ≤ l.length := (clearV_sub by_ l).length_le

set_option maxHeartbeats 2000000 in
set_option maxRecDepth 100000 in
theorem clearC_calls (L : List Chn) (base : Option Addr) (n c : Nat) (by_ : Int) (w : World) (hf : FitC L) (ha : ChainsIn w base n c L) :
    Calls Try.prog 9 #[.slice base n c, .int .i64 by_] w fun e w' => ChainsTold w w' (clearC by_ L) e := by
  have hcn : n ≤ 387420489 := by rw [ha.len]; exact hf.count
  have HA := hid ha
  have HLN := hid ha.len
  have HF := hid hf
  clear ha hf
  go_enter Try.func9, Try.ntmps9
  go_wp2
  go_loopw [5, 11] (fun v i wr => ∃ (j r : Nat) (S : List Slot), j ≤ n ∧ r ≤ j ∧ i = .int .i64 j ∧ Hid (wr.ownsRow w.heap.size 69 2 v r (flat slotC S)) ∧ Hid (OwnSlots wr w.heap.size S (clearC by_ (L.take j))) ∧ Hid (Below w.heap.size w wr)) (fun _ i _ => n - (intOf i).toNat)
  case atStart => exact ⟨0, 0, [], Nat.zero_le _, Nat.le_refl _, rfl, World.ownsRow_nil _ _ _ _, OwnSlots.nil _ _, Below.refl _ _⟩
  case round =>
    obtain ⟨j, r, S, hj, hrj, rfl, HO, HS, HBR⟩ := hrel
    by_cases hlt : j < n
    · have hjl : j < L.length := by rw [← HLN.out]; exact hlt
      have hi : (j : Int) < (n : Int) := by omega
      rcases (HA.out.below HBR.out).run with h | ⟨b, o, rfl, hrun⟩
      · omega
      obtain ⟨vb, vn, vc, c0, c1, hvv, hkz⟩ := hrun j hlt
      have hbw : b < wr.heap.size := by simpa using World.block_lt_of_cell? _ _ c0
      have hfew := HF.out.few _ (memC hjl)
      have HRI := hid (HF.out.rise _ (memC hjl))
      have HTK := hid (take_snoc_getD hjl)
      rcases hx : L.getD j default with ⟨key, vs⟩
      rw [hx] at c0 hvv hkz HTK hfew HRI
      simp only at c0 hvv hkz hfew HRI
      clear hx hrun
      have hvn := Vers.count hvv
      have HGW := hid (grew wr (.cells #[.string key, .slice vb vn vc] 69))
      have HSF := hid (seenFrom_calls vs vb vn vc by_ _ (by omega) HRI.out (hvv.below (by decide) HGW.out))
      have HCS : Hid (clearC by_ (L.take (j + 1)) = clearC by_ (L.take j) ++ (if clearV by_ vs = [] then [] else [(key, clearV by_ vs)])) := by
        show _ = _
        rw [HTK.out, clearC_snoc]
      have HKZ := hid hkz
      have HLE := hid (clearV_len by_ vs)
      have HNE := hid (own_old HO.out)
      clear hvv hkz hvn
      go_wp2_with fail
      refine HSF.out.mono ?_
      rintro e w1 ⟨b1, n1, c1', rfl, hv1, hb1⟩
      have hn1 : n1 ≤ 1954687338214 := by
        have h1 := Vers.count hv1
        have h2 := HLE.out
        omega
      have HB1 := hid (below_deep HGW.out hb1)
      by_cases h0 : n1 = 0
      · subst h0
        have HNX : Hid (clearC by_ (L.take (j + 1)) = clearC by_ (L.take j)) := by
          show _ = _
          rw [HCS.out, if_pos (List.eq_nil_of_length_eq_zero (Vers.count hv1).symm), List.append_nil]
        clear hv1 hb1
        go_wp2
        go_roundw
        case rel => exact ⟨j + 1, r, S, by omega, by omega, by go_num, owns_keep HO.out HB1.out, by rw [HNX.out]; exact HS.out.below HB1.out, below_deep HBR.out HB1.out⟩
        case measure => simp [intOf]; omega
      · have HNX : Hid (clearC by_ (L.take (j + 1)) = clearC by_ (L.take j) ++ [(key, clearV by_ vs)]) := by
          show _ = _
          rw [HCS.out, if_neg (fun e => h0 (by rw [Vers.count hv1, e]; rfl))]
        have HS0 : Hid ((fun w' => w'.cell? ⟨wr.heap.size, 0, none⟩ = some (.string key) ∧ w'.cell? ⟨wr.heap.size, 1, none⟩ = some (.slice vb vn vc)) w1.drew) :=
          ⟨kept_cell hb1.drew (box_cell wr #[.string key, .slice vb vn vc] _ 0 _ rfl), kept_cell hb1.drew (box_cell wr #[.string key, .slice vb vn vc] _ 1 _ rfl)⟩
        have HOV := hid (ownVers_calls _ b1 n1 c1' w1.drew (by omega) (hv1.below (by decide) (Below.refl _ _).drew))
        have hpos : (0 : Int) < (n1 : Int) := by omega
        clear hv1 hb1 HSF
        go_wp2
        go_region_held3 (fun w' => w'.cell? ⟨wr.heap.size, 0, none⟩ = some (.string key) ∧ w'.cell? ⟨wr.heap.size, 1, none⟩ = some (.slice vb vn vc))
          (first
            | exact HS0.out
            | exact cells2_keep HS0.out (by assumption)
            | exact cells2_past _ (by assumption)
            | exact cells2_grown HNE.out (by assumption) (by assumption))
          (first
            | (go_at_call 36; refine HOV.out.mono ?_; rintro e w2 ⟨b2, c2', rfl, ho2, hb2⟩)
            | (refine step_grow _ rfl _ _ 22 69 2 40 _ Try.underlying22 chnInfo rfl (by decide) (by decide) rfl w.heap.size _ r (flat slotC S) rfl ?_ _ 1 _ [.string key, .slice b2 n1 c2'] rfl ?_ ?_ ?_ ?_ ?_; (exact (owns_keep (owns_keep HO.out HB1.out.drew) hb2).alloc _); (exact lies_one w2 #[.string key, .slice b2 n1 c2'] _ 2 rfl); (exact slotC_one (key, b2, n1, c2')); omega; (exact Nat.le_trans HBR.out.size (Nat.le_trans HB1.out.size (Nat.le_trans hb2.size (by simp)))); intro v3 w3 hown3 hg3))
        have HX := hid (own_step HO.out HS.out HBR.out HB1.out.drew hb2 ho2 HKZ.out hown3 hg3)
        clear hown3 hg3 ho2 hb2 HOV HS0
        go_wp2
        go_roundw
        case rel => exact ⟨j + 1, r + 1, S ++ [(key, b2, n1, c2')], by omega, by omega, by go_num, HX.out.1, by rw [HNX.out]; exact HX.out.2.1, HX.out.2.2⟩
        case measure => simp [intOf]; omega
    · obtain rfl : j = n := by omega
      have hs := HS.out
      rw [List.take_of_length_le (by rw [← HLN.out]; exact Nat.le_refl _)] at hs
      obtain ⟨b2, c2, rfl, hch⟩ := chains_owned HO.out hs
      have HC := hid hch
      clear hs hch
      go_wp2
      go_ret
      exact ⟨_, _, _, rfl, HC.out, HBR.out⟩
end Go.Proofs.Ytllhdmhfjahglac

namespace Go.Proofs.Ytllhdmhfjahglac
open Go.RowKit

set_option maxHeartbeats 2000000 in
set_option maxRecDepth 100000 in
theorem ofC_calls (l : List Row) (base : Option Addr) (n c : Nat) (w : World) (hr : Right l) (hsm : Small l) (ha : Holds w base n c l) :
    Calls Try.prog 31 #[.slice base n c] w fun e w' => ChainsTold w w' (ofRows l) e := by
  have hcn : n ≤ 387420489 := by rw [ha.len]; exact right_few hr
  have HA := hid ha
  have HLN := hid ha.len
  have HSM := hid hsm
  clear ha hr hsm
  go_enter Try.func31, Try.ntmps31
  go_wp2
  go_loopw [3, 9] (fun v i wr => ∃ (j : Nat) (S : List Slot), j ≤ n ∧ i = .int .i64 j ∧ Hid (wr.ownsRow w.heap.size 69 2 v j (flat slotC S)) ∧ Hid (OwnSlots wr w.heap.size S (ofRows (l.take j))) ∧ Hid (Below w.heap.size w wr)) (fun _ i _ => n - (intOf i).toNat)
  case atStart => exact ⟨0, [], Nat.zero_le _, rfl, World.ownsRow_nil _ _ _ _, OwnSlots.nil _ _, Below.refl _ _⟩
  case round =>
    obtain ⟨j, S, hj, rfl, HO, HS, HBR⟩ := hrel
    by_cases hlt : j < n
    · have hjl : j < l.length := by rw [← HLN.out]; exact hlt
      have hi : (j : Int) < (n : Int) := by omega
      rcases (HA.out.below HBR.out).seg with h | ⟨b, o, rfl, hrun⟩
      · rw [h] at hjl; simp at hjl
      obtain ⟨c0, c1⟩ := hrun j hjl
      have hbw : b < wr.heap.size := by simpa using World.block_lt_of_cell? _ _ c0
      have HTK := hid (take_snoc_getD hjl)
      have hkz := small_getD HSM.out hjl
      rcases hx : l.getD j default with ⟨key, x⟩
      rw [hx] at c0 c1 HTK hkz
      simp only at c0 c1 hkz
      clear hx hrun
      have HOF : Hid (ofRows (l.take (j + 1)) = ofRows (l.take j) ++ [(key, [(-1, true, true, x)])]) := by
        show _ = _
        rw [HTK.out, ofRows_snoc]
      have HG2 := hid (below_deep (grew wr (.cells #[.string key, .int .i64 x] 63)) (grew _ (.cells #[.int .i64 (-1), .bool true, .bool true, .int .i64 x] 28)))
      have HS2 := hid (show ((wr.alloc (.cells #[.string key, .int .i64 x] 63)).alloc (.cells #[.int .i64 (-1), .bool true, .bool true, .int .i64 x] 28)).heap.size = wr.heap.size + 1 + 1 by rw [World.size_alloc, World.size_alloc])
      have HG3 := hid (grew ((wr.alloc (.cells #[.string key, .int .i64 x] 63)).alloc (.cells #[.int .i64 (-1), .bool true, .bool true, .int .i64 x] 28)) (.cells #[.int .i64 (-1), .bool true, .bool true, .int .i64 x] 28))
      have HOV := hid (World.ownsRow_lit (base := ((wr.alloc (.cells #[.string key, .int .i64 x] 63)).alloc (.cells #[.int .i64 (-1), .bool true, .bool true, .int .i64 x] 28)).heap.size) (e := 28) (size := 4) ((wr.alloc (.cells #[.string key, .int .i64 x] 63)).alloc (.cells #[.int .i64 (-1), .bool true, .bool true, .int .i64 x] 28)) #[.int .i64 (-1), .bool true, .bool true, .int .i64 x] 1 (Nat.le_refl _) (by unfold maxLen; omega) rfl)
      have HLO := hid (lies_one (((wr.alloc (.cells #[.string key, .int .i64 x] 63)).alloc (.cells #[.int .i64 (-1), .bool true, .bool true, .int .i64 x] 28)).alloc (.cells #[.int .i64 (-1), .bool true, .bool true, .int .i64 x] 28)) #[.string key, .slice (some ⟨wr.heap.size + 1 + 1, 0, none⟩) 1 1] 69 2 rfl)
      rw [World.size_alloc, HS2.out] at HLO
      have HOW := hid (((owns_keep HO.out HG2.out).alloc (.cells #[.int .i64 (-1), .bool true, .bool true, .int .i64 x] 28)).alloc (.cells #[.string key, .slice (some ⟨wr.heap.size + 1 + 1, 0, none⟩) 1 1] 69))
      have HSE := hid (slotC_one (key, some ⟨wr.heap.size + 1 + 1, 0, none⟩, 1, 1))
      have HBY : Hid ((j + 1) * 40 ≤ 140737488355328) := by show _ ≤ _; omega
      have HSZ := hid (le_box (o := .cells #[.string key, .slice (some ⟨wr.heap.size + 1 + 1, 0, none⟩) 1 1] 69) (Nat.le_trans HBR.out.size (Nat.le_trans HG2.out.size HG3.out.size)))
      have HKZ := hid hkz
      rw [HS2.out] at HOV
      clear hkz
      go_wp2_with (at_builtin; refine wpList_onto _ rfl _ _ 22 69 2 40 _ Try.underlying22 chnInfo rfl (by decide) (by decide) rfl w.heap.size _ j (flat slotC S) rfl HOW.out _ 1 _ _ rfl HLO.out HSE.out HBY.out HSZ.out ?_)
      intro v3 w3 hown3 hg3
      have HX := hid (own_step (vs := [(-1, true, true, x)]) HO.out HS.out HBR.out HG2.out HG3.out (by rw [HS2.out]; exact HOV.out) HKZ.out hown3 hg3)
      clear hown3 hg3
      go_wp2
      go_roundw
      case rel => exact ⟨j + 1, _, by omega, by go_num, HX.out.1, by rw [HOF.out]; exact HX.out.2.1, HX.out.2.2⟩
      case measure => simp [intOf]; omega
    · obtain rfl : j = n := by omega
      have hs := HS.out
      rw [List.take_of_length_le (by rw [← HLN.out]; exact Nat.le_refl _)] at hs
      obtain ⟨b2, c2, rfl, hch⟩ := chains_owned HO.out hs
      have HC := hid hch
      clear hs hch
      go_wp2
      go_ret
      exact ⟨_, _, _, rfl, HC.out, HBR.out⟩

/-- How rows are told, if they are. -/
def RowsTold (w w' : World) (o : Option (List Row)) (e : Ending) : Prop := ∃ (b : Option Addr) (n c : Nat) (ok : Bool), e = .returned (.tuple #[.slice b n c, .bool ok]) ∧ ok = o.isSome ∧ Holds w' b n c (o.getD []) ∧ Below w.heap.size w w'
theorem rowCells_snoc (l : List Row) (x : Row) : rowCells (l ++ [x]) = rowCells l ++ [.string x.1, .int .i64 x.2] := by rw [rowCells_append]; rfl

set_option maxHeartbeats 2000000 in
set_option maxRecDepth 100000 in
theorem rowsC_calls (L : List Chn) (base : Option Addr) (n c : Nat) (by_ : Int) (w : World) (hf : FitC L) (ha : ChainsIn w base n c L) :
    Calls Try.prog 33 #[.slice base n c, .int .i64 by_] w fun e w' => RowsTold w w' (rowsC L by_) e := by
  have hcn : n ≤ 387420489 := by rw [ha.len]; exact hf.count
  have HA := hid ha
  have HLN := hid ha.len
  have HF := hid hf
  clear ha hf
  go_enter Try.func33, Try.ntmps33
  go_wp2
  go_loopw [6, 12] (fun v i wr => ∃ (j r : Nat) (R : List Row), j ≤ n ∧ r ≤ j ∧ i = .int .i64 j ∧ Hid (wr.ownsRow w.heap.size 63 2 v r (rowCells R)) ∧ Hid (rowsGo L by_ (L.take j) = some R) ∧ Hid (Below w.heap.size w wr)) (fun _ i _ => n - (intOf i).toNat)
  case atStart => exact ⟨0, 0, [], Nat.zero_le _, Nat.le_refl _, rfl, World.ownsRow_nil _ _ _ _, rfl, Below.refl _ _⟩
  case round =>
    obtain ⟨j, r, R, hj, hrj, rfl, HO, HR, HBR⟩ := hrel
    by_cases hlt : j < n
    · have hjl : j < L.length := by rw [← HLN.out]; exact hlt
      have hi : (j : Int) < (n : Int) := by omega
      rcases (HA.out.below HBR.out).run with h | ⟨b, o, rfl, hrun⟩
      · omega
      obtain ⟨vb, vn, vc, c0, c1, hvv, hkz⟩ := hrun j hlt
      have hbw : b < wr.heap.size := by simpa using World.block_lt_of_cell? _ _ c0
      have hfew := HF.out.few _ (memC hjl)
      have HRI := hid (HF.out.rise _ (memC hjl))
      have HBO := hid (before_own HF.out.srt (memC hjl) by_)
      have HSN := hid (rowsGo_snoc L by_ (L.getD j default) HR.out)
      rw [← take_snoc_getD hjl] at HSN
      have HST := hid (rowsGo_stop L by_ (memC hjl))
      rcases hx : L.getD j default with ⟨key, vs⟩
      rw [hx] at c0 hvv hfew HRI HBO HSN HST
      simp only at c0 hvv hfew HRI HBO HSN HST
      clear hx hrun
      have hvn := Vers.count hvv
      have HGW := hid (grew wr (.cells #[.string key, .slice vb vn vc] 69))
      have HLB := hid (lastBelow_calls vs vb vn vc by_ _ (by omega) HRI.out (hvv.below (by decide) HGW.out))
      rw [← HBO.out] at HLB
      clear hvv hkz hvn HBO HRI
      generalize before L key by_ = q at *
      go_wp2_with fail
      refine HLB.out.mono ?_
      rintro e w1 ⟨y, m, h, x, rfl, rfl, hb1⟩
      simp only [Ver.made, Ver.has_, Ver.n] at HSN HST
      have k0 := kept_cell hb1 (box_cell wr #[.string key, .slice vb vn vc] 69 0 _ rfl)
      have hwl : wr.heap.size < w1.heap.size := by simpa using World.block_lt_of_cell? _ _ k0
      have HB1 := hid (below_deep HGW.out hb1)
      have HB2 := hid (below_deep HB1.out (grew w1 (.cells #[.int .i64 y, .bool m, .bool h, .int .i64 x] 28)))
      clear hb1 HLB
      cases m with
      | false =>
        have HNO : Hid (rowsC L by_ = none) := HST.out (by simp)
        go_wp2
        go_ret2
        exact ⟨_, _, _, _, rfl, by rw [HNO.out]; rfl, by rw [HNO.out]; exact Holds.empty _ rfl rfl ⟨Nat.le_refl _, Nat.zero_le _, fun _ => rfl⟩, below_deep HBR.out HB2.out⟩
      | true =>
        cases h with
        | false =>
          have HNX : Hid (rowsGo L by_ (L.take (j + 1)) = some R) := by show _ = _; rw [HSN.out]; rfl
          go_wp2
          go_roundw
          case rel => exact ⟨j + 1, r, R, by omega, by omega, by go_num, owns_keep HO.out HB2.out, HNX, below_deep HBR.out HB2.out⟩
          case measure => simp [intOf]; omega
        | true =>
          have HNX : Hid (rowsGo L by_ (L.take (j + 1)) = some (R ++ [(key, x)])) := by show _ = _; rw [HSN.out]; rfl
          have HLO := hid (lies_one (w1.alloc (.cells #[.int .i64 y, .bool true, .bool true, .int .i64 x] 28)) #[.string key, .int .i64 x] 63 2 rfl)
          rw [World.size_alloc] at HLO
          have HOW := hid ((owns_keep HO.out HB2.out).alloc (.cells #[.string key, .int .i64 x] 63))
          have HSE := hid (rowCells_one [(key, x)])
          have HBY : Hid ((r + 1) * 24 ≤ 140737488355328) := by show _ ≤ _; omega
          have HSZ := hid (le_box (o := .cells #[.string key, .int .i64 x] 63) (Nat.le_trans HBR.out.size HB2.out.size))
          go_wp2_with (at_builtin; refine wpList_onto _ rfl _ _ 33 63 2 24 _ Try.underlying33 pairInfo rfl (by decide) (by decide) rfl w.heap.size _ r (rowCells R) rfl HOW.out _ 1 _ _ rfl HLO.out HSE.out HBY.out HSZ.out ?_)
          intro v3 w3 hown3 hg3
          have HO3 : Hid (w3.ownsRow w.heap.size 63 2 v3 (r + 1) (rowCells (R ++ [(key, x)]))) := by
            show World.ownsRow _ _ _ _ _ _ _
            rw [rowCells_snoc]; exact hown3
          have HB3 := hid (((below_deep HBR.out HB2.out).alloc (Nat.le_trans HBR.out.size HB2.out.size) (.cells #[.string key, .int .i64 x] 63)).grown hg3 HSZ.out (fun a ha => (HO.out.lt a ha).1))
          clear hown3 hg3
          go_wp2
          go_roundw
          case rel => exact ⟨j + 1, r + 1, _, by omega, by omega, by go_num, HO3, HNX, HB3⟩
          case measure => simp [intOf]; omega
    · obtain rfl : j = n := by omega
      have HR3 : Hid (rowsC L by_ = some R) := by
        have := HR.out
        rw [List.take_of_length_le (by rw [← HLN.out]; exact Nat.le_refl _)] at this
        exact this
      obtain ⟨b2, c2, rfl, hho⟩ := holds_of_owned HO.out
      have HH := hid hho
      clear hho
      go_wp2
      go_ret2
      exact ⟨_, _, _, _, rfl, by rw [HR3.out]; rfl, by rw [HR3.out]; exact HH.out, HBR.out⟩
end Go.Proofs.Ytllhdmhfjahglac
