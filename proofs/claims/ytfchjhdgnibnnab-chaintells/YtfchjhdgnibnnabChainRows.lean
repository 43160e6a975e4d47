/-
  Of and Rows of the program: chains of rows, and what keys have ahead of a deed.
-/
import Derived.Test.YtfchjhdgnibnnabChainOld
namespace Go.Proofs.Ytfchjhdgnibnnab
open Go.RowKit

set_option maxHeartbeats 2000000 in
theorem ofC_calls (l : List Row) (base : Option Addr) (n c : Nat) (w : World) (hr : Right l) (hsm : Small l) (ha : Holds w base n c l) :
    Calls Try.prog 28 #[.slice base n c] w fun e w' => ChainsTold w w' (ofRows l) e := by
  have hcn : n ≤ 387420489 := by rw [ha.len]; exact right_few hr
  have HA := hid ha
  have HLN := hid ha.len
  have HSM := hid hsm
  clear ha hr hsm
  go_enter Try.func28, Try.ntmps28
  go_wp2
  go_loopw [3, 9] (fun v i wr => ∃ (j : Nat) (S : List Slot), j ≤ n ∧ i = .int .i64 j ∧ Hid (wr.ownsRow w.heap.size 61 2 v j (flat slotC S)) ∧ Hid (OwnSlots wr w.heap.size S (ofRows (l.take j))) ∧ Hid (Below w.heap.size w wr)) (fun _ i _ => n - (intOf i).toNat)
  case atStart => exact ⟨0, [], Nat.zero_le _, rfl, World.ownsRow_nil _ _ _ _, OwnSlots.nil _ _, Below.refl _ _⟩
  case round =>
    obtain ⟨j, S, hj, rfl, HO, HS, HBR⟩ := hrel
    by_cases hlt : j < n
    · have hjl : j < l.length := by rw [← HLN.out]; exact hlt
      have hi : (j : Int) < (n : Int) := by omega
      rcases (HA.out.below HBR.out).seg with h | ⟨b, o, rfl, hrun⟩
      · rw [h] at hjl; simp at hjl
      obtain ⟨c0, c1⟩ := hrun j hjl
      have hbw : b < wr.heap.size := by simpa using World.block_lt_of_cell? _ _ c0
      have HTK := hid (take_snoc_getD hjl)
      have hkz := small_getD HSM.out hjl
      rcases hx : l.getD j default with ⟨key, x⟩
      rw [hx] at c0 c1 HTK hkz
      simp only at c0 c1 hkz
      clear hx hrun
      have HOF : Hid (ofRows (l.take (j + 1)) = ofRows (l.take j) ++ [(key, [(-1, true, true, x)])]) := by
        show _ = _
        rw [HTK.out, ofRows_snoc]
      have HG2 := hid (below_deep (grew wr (.cells #[.string key, .int .i64 x] 64)) (grew _ (.cells #[.int .i64 (-1), .bool true, .bool true, .int .i64 x] 45)))
      have HS2 := hid (show ((wr.alloc (.cells #[.string key, .int .i64 x] 64)).alloc (.cells #[.int .i64 (-1), .bool true, .bool true, .int .i64 x] 45)).heap.size = wr.heap.size + 1 + 1 by rw [World.size_alloc, World.size_alloc])
      have HG3 := hid (grew ((wr.alloc (.cells #[.string key, .int .i64 x] 64)).alloc (.cells #[.int .i64 (-1), .bool true, .bool true, .int .i64 x] 45)) (.cells #[.int .i64 (-1), .bool true, .bool true, .int .i64 x] 45))
      have HOV := hid (World.ownsRow_lit (base := ((wr.alloc (.cells #[.string key, .int .i64 x] 64)).alloc (.cells #[.int .i64 (-1), .bool true, .bool true, .int .i64 x] 45)).heap.size) (e := 45) (size := 4) ((wr.alloc (.cells #[.string key, .int .i64 x] 64)).alloc (.cells #[.int .i64 (-1), .bool true, .bool true, .int .i64 x] 45)) #[.int .i64 (-1), .bool true, .bool true, .int .i64 x] 1 (Nat.le_refl _) (by unfold maxLen; omega) rfl)
      have HLO := hid (lies_one (((wr.alloc (.cells #[.string key, .int .i64 x] 64)).alloc (.cells #[.int .i64 (-1), .bool true, .bool true, .int .i64 x] 45)).alloc (.cells #[.int .i64 (-1), .bool true, .bool true, .int .i64 x] 45)) #[.string key, .slice (some ⟨wr.heap.size + 1 + 1, 0, none⟩) 1 1] 61 2 rfl)
      rw [World.size_alloc, HS2.out] at HLO
      have HOW := hid (((owns_keep HO.out HG2.out).alloc (.cells #[.int .i64 (-1), .bool true, .bool true, .int .i64 x] 45)).alloc (.cells #[.string key, .slice (some ⟨wr.heap.size + 1 + 1, 0, none⟩) 1 1] 61))
      have HSE := hid (slotC_one (key, some ⟨wr.heap.size + 1 + 1, 0, none⟩, 1, 1))
      have HBY : Hid ((j + 1) * 40 ≤ 140737488355328) := by show _ ≤ _; omega
      have HSZ := hid (le_box (o := .cells #[.string key, .slice (some ⟨wr.heap.size + 1 + 1, 0, none⟩) 1 1] 61) (Nat.le_trans HBR.out.size (Nat.le_trans HG2.out.size HG3.out.size)))
      have HKZ := hid hkz
      rw [HS2.out] at HOV
      clear hkz
      go_wp2_with (at_builtin; refine wpList_onto _ rfl _ _ 43 61 2 40 _ Try.underlying43 chnInfo rfl (by decide) (by decide) rfl w.heap.size _ j (flat slotC S) rfl HOW.out _ 1 _ _ rfl HLO.out HSE.out HBY.out HSZ.out ?_)
      intro v3 w3 hown3 hg3
      have HX := hid (own_step (vs := [(-1, true, true, x)]) HO.out HS.out HBR.out HG2.out HG3.out (by rw [HS2.out]; exact HOV.out) HKZ.out hown3 hg3)
      clear hown3 hg3
      go_wp2
      go_roundw
      case rel => exact ⟨j + 1, _, by omega, by go_num, HX.out.1, by rw [HOF.out]; exact HX.out.2.1, HX.out.2.2⟩
      case measure => simp [intOf]; omega
    · obtain rfl : j = n := by omega
      have hs := HS.out
      rw [List.take_of_length_le (by rw [← HLN.out]; exact Nat.le_refl _)] at hs
      obtain ⟨b2, c2, rfl, hch⟩ := chains_owned HO.out hs
      have HC := hid hch
      clear hs hch
      go_wp2
      go_ret
      exact ⟨_, _, _, rfl, HC.out, HBR.out⟩

/-- How rows are told, if they are. -/
def RowsTold (w w' : World) (o : Option (List Row)) (e : Ending) : Prop := ∃ (b : Option Addr) (n c : Nat) (ok : Bool), e = .returned (.tuple #[.slice b n c, .bool ok]) ∧ ok = o.isSome ∧ Holds w' b n c (o.getD []) ∧ Below w.heap.size w w'
theorem rowCells_snoc (l : List Row) (x : Row) : rowCells (l ++ [x]) = rowCells l ++ [.string x.1, .int .i64 x.2] := by rw [rowCells_append]; rfl

set_option maxHeartbeats 2000000 in
theorem rowsC_calls (L : List Chn) (base : Option Addr) (n c : Nat) (by_ : Int) (w : World) (hf : FitC L) (ha : ChainsIn w base n c L) :
    Calls Try.prog 26 #[.slice base n c, .int .i64 by_] w fun e w' => RowsTold w w' (rowsC L by_) e := by
  have hcn : n ≤ 387420489 := by rw [ha.len]; exact hf.count
  have HA := hid ha
  have HLN := hid ha.len
  have HF := hid hf
  clear ha hf
  go_enter Try.func26, Try.ntmps26
  go_wp2
  go_loopw [6, 12] (fun v i wr => ∃ (j r : Nat) (R : List Row), j ≤ n ∧ r ≤ j ∧ i = .int .i64 j ∧ Hid (wr.ownsRow w.heap.size 64 2 v r (rowCells R)) ∧ Hid (rowsGo L by_ (L.take j) = some R) ∧ Hid (Below w.heap.size w wr)) (fun _ i _ => n - (intOf i).toNat)
  case atStart => exact ⟨0, 0, [], Nat.zero_le _, Nat.le_refl _, rfl, World.ownsRow_nil _ _ _ _, rfl, Below.refl _ _⟩
  case round =>
    obtain ⟨j, r, R, hj, hrj, rfl, HO, HR, HBR⟩ := hrel
    by_cases hlt : j < n
    · have hjl : j < L.length := by rw [← HLN.out]; exact hlt
      have hi : (j : Int) < (n : Int) := by omega
      rcases (HA.out.below HBR.out).run with h | ⟨b, o, rfl, hrun⟩
      · omega
      obtain ⟨vb, vn, vc, c0, c1, hvv, hkz⟩ := hrun j hlt
      have hbw : b < wr.heap.size := by simpa using World.block_lt_of_cell? _ _ c0
      have hfew := HF.out.few _ (memC hjl)
      have HRI := hid (HF.out.rise _ (memC hjl))
      have HBO := hid (before_own HF.out.srt (memC hjl) by_)
      have HSN := hid (rowsGo_snoc L by_ (L.getD j default) HR.out)
      rw [← take_snoc_getD hjl] at HSN
      have HST := hid (rowsGo_stop L by_ (memC hjl))
      rcases hx : L.getD j default with ⟨key, vs⟩
      rw [hx] at c0 hvv hfew HRI HBO HSN HST
      simp only at c0 hvv hfew HRI HBO HSN HST
      clear hx hrun
      have hvn := Vers.count hvv
      have HGW := hid (grew wr (.cells #[.string key, .slice vb vn vc] 61))
      have HLB := hid (lastBelow_calls vs vb vn vc by_ _ (by omega) HRI.out (hvv.below (by decide) HGW.out))
      rw [← HBO.out] at HLB
      clear hvv hkz hvn HBO HRI
      generalize before L key by_ = q at *
      go_wp2_with fail
      refine HLB.out.mono ?_
      rintro e w1 ⟨y, m, h, x, rfl, rfl, hb1⟩
      simp only [Ver.made, Ver.has_, Ver.n] at HSN HST
      have k0 := kept_cell hb1 (box_cell wr #[.string key, .slice vb vn vc] 61 0 _ rfl)
      have hwl : wr.heap.size < w1.heap.size := by simpa using World.block_lt_of_cell? _ _ k0
      have HB1 := hid (below_deep HGW.out hb1)
      have HB2 := hid (below_deep HB1.out (grew w1 (.cells #[.int .i64 y, .bool m, .bool h, .int .i64 x] 45)))
      clear hb1 HLB
      cases m with
      | false =>
        have HNO : Hid (rowsC L by_ = none) := HST.out (by simp)
        go_wp2
        go_ret2
        exact ⟨_, _, _, _, rfl, by rw [HNO.out]; rfl, by rw [HNO.out]; exact Holds.empty _ rfl rfl ⟨Nat.le_refl _, Nat.zero_le _, fun _ => rfl⟩, below_deep HBR.out HB2.out⟩
      | true =>
        cases h with
        | false =>
          have HNX : Hid (rowsGo L by_ (L.take (j + 1)) = some R) := by show _ = _; rw [HSN.out]; rfl
          go_wp2
          go_roundw
          case rel => exact ⟨j + 1, r, R, by omega, by omega, by go_num, owns_keep HO.out HB2.out, HNX, below_deep HBR.out HB2.out⟩
          case measure => simp [intOf]; omega
        | true =>
          have HNX : Hid (rowsGo L by_ (L.take (j + 1)) = some (R ++ [(key, x)])) := by show _ = _; rw [HSN.out]; rfl
          have HLO := hid (lies_one (w1.alloc (.cells #[.int .i64 y, .bool true, .bool true, .int .i64 x] 45)) #[.string key, .int .i64 x] 64 2 rfl)
          rw [World.size_alloc] at HLO
          have HOW := hid ((owns_keep HO.out HB2.out).alloc (.cells #[.string key, .int .i64 x] 64))
          have HSE := hid (rowCells_one [(key, x)])
          have HBY : Hid ((r + 1) * 24 ≤ 140737488355328) := by show _ ≤ _; omega
          have HSZ := hid (le_box (o := .cells #[.string key, .int .i64 x] 64) (Nat.le_trans HBR.out.size HB2.out.size))
          go_wp2_with (at_builtin; refine wpList_onto _ rfl _ _ 23 64 2 24 _ Try.underlying23 pairInfo rfl (by decide) (by decide) rfl w.heap.size _ r (rowCells R) rfl HOW.out _ 1 _ _ rfl HLO.out HSE.out HBY.out HSZ.out ?_)
          intro v3 w3 hown3 hg3
          have HO3 : Hid (w3.ownsRow w.heap.size 64 2 v3 (r + 1) (rowCells (R ++ [(key, x)]))) := by
            show World.ownsRow _ _ _ _ _ _ _
            rw [rowCells_snoc]; exact hown3
          have HB3 := hid (((below_deep HBR.out HB2.out).alloc (Nat.le_trans HBR.out.size HB2.out.size) (.cells #[.string key, .int .i64 x] 64)).grown hg3 HSZ.out (fun a ha => (HO.out.lt a ha).1))
          clear hown3 hg3
          go_wp2
          go_roundw
          case rel => exact ⟨j + 1, r + 1, _, by omega, by omega, by go_num, HO3, HNX, HB3⟩
          case measure => simp [intOf]; omega
    · obtain rfl : j = n := by omega
      have HR3 : Hid (rowsC L by_ = some R) := by
        have := HR.out
        rw [List.take_of_length_le (by rw [← HLN.out]; exact Nat.le_refl _)] at this
        exact this
      obtain ⟨b2, c2, rfl, hho⟩ := holds_of_owned HO.out
      have HH := hid hho
      clear hho
      go_wp2
      go_ret2
      exact ⟨_, _, _, _, rfl, by rw [HR3.out]; rfl, by rw [HR3.out]; exact HH.out, HBR.out⟩
end Go.Proofs.Ytfchjhdgnibnnab
