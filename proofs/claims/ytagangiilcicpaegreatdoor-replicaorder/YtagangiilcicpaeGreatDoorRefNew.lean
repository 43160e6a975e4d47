/-
  Of and Rows of the program: chains of rows, and what keys have ahead of a deed.
  The document's own RightChains, walked.
  The document's own Before and RowsAt, walked.
  The document's own Needs and Ready of an engine, walked.
  The document's own Add, walked.
  Blocks of five cells that hold an engine, and rows that a call owns beside them.
  The document's own New, walked.
-/
import Derived.Test.YtagangiilcicpaeGreatDoorChainOld
import Derived.Test.YtagangiilcicpaeGreatDoorChainAt
import Derived.Deep.DeepCutAuto
import Derived.Test.YtagangiilcicpaeGreatDoorEngGood
import Derived.Test.YtagangiilcicpaeGreatDoorPlanMath
import Derived.Test.YtagangiilcicpaeGreatDoorSearch
import Derived.Test.YtagangiilcicpaeGreatDoorChainWith
namespace Go.Proofs.YtagangiilcicpaeGreatDoor
open Go.RowKit

set_option maxHeartbeats 2000000 in
set_option maxRecDepth 100000 in
theorem ofC_calls (l : List Row) (base : Option Addr) (n c : Nat) (w : World) (hr : Right l) (hsm : Small l) (ha : Holds w base n c l) :
    Calls Tryz.prog 67 #[.slice base n c] w fun e w' => ChainsTold w w' (ofRows l) e := by
  have hcn : n ≤ 387420489 := by rw [ha.len]; exact right_few hr
  have HA := hid ha
  have HLN := hid ha.len
  have HSM := hid hsm
  clear ha hr hsm
  go_enter Tryz.func67, Tryz.ntmps67
  go_wp2
  go_loopw [3, 9] (fun v i wr => ∃ (j : Nat) (S : List Slot), j ≤ n ∧ i = .int .i64 j ∧ Hid (wr.ownsRow w.heap.size 156 2 v j (flat slotC S)) ∧ Hid (OwnSlots wr w.heap.size S (ofRows (l.take j))) ∧ Hid (Below w.heap.size w wr)) (fun _ i _ => n - (intOf i).toNat)
  case atStart => exact ⟨0, [], Nat.zero_le _, rfl, World.ownsRow_nil _ _ _ _, OwnSlots.nil _ _, Below.refl _ _⟩
  case round =>
    obtain ⟨j, S, hj, rfl, HO, HS, HBR⟩ := hrel
    by_cases hlt : j < n
    · have hjl : j < l.length := by rw [← HLN.out]; exact hlt
      have hi : (j : Int) < (n : Int) := by omega
      rcases (HA.out.below HBR.out).seg with h | ⟨b, o, rfl, hrun⟩
      · rw [h] at hjl; simp at hjl
      obtain ⟨c0, c1⟩ := hrun j hjl
      have hbw : b < wr.heap.size := by simpa using World.block_lt_of_cell? _ _ c0
      have HTK := hid (take_snoc_getD hjl)
      have hkz := small_getD HSM.out hjl
      rcases hx : l.getD j default with ⟨key, x⟩
      rw [hx] at c0 c1 HTK hkz
      simp only at c0 c1 hkz
      clear hx hrun
      have HOF : Hid (ofRows (l.take (j + 1)) = ofRows (l.take j) ++ [(key, [(-1, true, true, x)])]) := by
        show _ = _
        rw [HTK.out, ofRows_snoc]
      have HG2 := hid (below_deep (grew wr (.cells #[.string key, .int .i64 x] 81)) (grew _ (.cells #[.int .i64 (-1), .bool true, .bool true, .int .i64 x] 116)))
      have HS2 := hid (show ((wr.alloc (.cells #[.string key, .int .i64 x] 81)).alloc (.cells #[.int .i64 (-1), .bool true, .bool true, .int .i64 x] 116)).heap.size = wr.heap.size + 1 + 1 by rw [World.size_alloc, World.size_alloc])
      have HG3 := hid (grew ((wr.alloc (.cells #[.string key, .int .i64 x] 81)).alloc (.cells #[.int .i64 (-1), .bool true, .bool true, .int .i64 x] 116)) (.cells #[.int .i64 (-1), .bool true, .bool true, .int .i64 x] 116))
      have HOV := hid (World.ownsRow_lit (base := ((wr.alloc (.cells #[.string key, .int .i64 x] 81)).alloc (.cells #[.int .i64 (-1), .bool true, .bool true, .int .i64 x] 116)).heap.size) (e := 116) (size := 4) ((wr.alloc (.cells #[.string key, .int .i64 x] 81)).alloc (.cells #[.int .i64 (-1), .bool true, .bool true, .int .i64 x] 116)) #[.int .i64 (-1), .bool true, .bool true, .int .i64 x] 1 (Nat.le_refl _) (by unfold maxLen; omega) rfl)
      have HLO := hid (lies_one (((wr.alloc (.cells #[.string key, .int .i64 x] 81)).alloc (.cells #[.int .i64 (-1), .bool true, .bool true, .int .i64 x] 116)).alloc (.cells #[.int .i64 (-1), .bool true, .bool true, .int .i64 x] 116)) #[.string key, .slice (some ⟨wr.heap.size + 1 + 1, 0, none⟩) 1 1] 156 2 rfl)
      rw [World.size_alloc, HS2.out] at HLO
      have HOW := hid (((owns_keep HO.out HG2.out).alloc (.cells #[.int .i64 (-1), .bool true, .bool true, .int .i64 x] 116)).alloc (.cells #[.string key, .slice (some ⟨wr.heap.size + 1 + 1, 0, none⟩) 1 1] 156))
      have HSE := hid (slotC_one (key, some ⟨wr.heap.size + 1 + 1, 0, none⟩, 1, 1))
      have HBY : Hid ((j + 1) * 40 ≤ 140737488355328) := by show _ ≤ _; omega
      have HSZ := hid (le_box (o := .cells #[.string key, .slice (some ⟨wr.heap.size + 1 + 1, 0, none⟩) 1 1] 156) (Nat.le_trans HBR.out.size (Nat.le_trans HG2.out.size HG3.out.size)))
      have HKZ := hid hkz
      rw [HS2.out] at HOV
      clear hkz
      go_wp2_with (at_builtin; refine wpList_onto _ rfl _ _ 37 156 2 40 _ Tryz.underlying37 chnInfo rfl (by decide) (by decide) rfl w.heap.size _ j (flat slotC S) rfl HOW.out _ 1 _ _ rfl HLO.out HSE.out HBY.out HSZ.out ?_)
      intro v3 w3 hown3 hg3
      have HX := hid (own_step (vs := [(-1, true, true, x)]) HO.out HS.out HBR.out HG2.out HG3.out (by rw [HS2.out]; exact HOV.out) HKZ.out hown3 hg3)
      clear hown3 hg3
      go_wp2
      go_roundw
      case rel => exact ⟨j + 1, _, by omega, by go_num, HX.out.1, by rw [HOF.out]; exact HX.out.2.1, HX.out.2.2⟩
      case measure => simp [intOf]; omega
    · obtain rfl : j = n := by omega
      have hs := HS.out
      rw [List.take_of_length_le (by rw [← HLN.out]; exact Nat.le_refl _)] at hs
      obtain ⟨b2, c2, rfl, hch⟩ := chains_owned HO.out hs
      have HC := hid hch
      clear hs hch
      go_wp2
      go_ret
      exact ⟨_, _, _, rfl, HC.out, HBR.out⟩

/-- How rows are told, if they are. -/
def RowsTold (w w' : World) (o : Option (List Row)) (e : Ending) : Prop := ∃ (b : Option Addr) (n c : Nat) (ok : Bool), e = .returned (.tuple #[.slice b n c, .bool ok]) ∧ ok = o.isSome ∧ Holds w' b n c (o.getD []) ∧ Below w.heap.size w w'
theorem rowCells_snoc (l : List Row) (x : Row) : rowCells (l ++ [x]) = rowCells l ++ [.string x.1, .int .i64 x.2] := by rw [rowCells_append]; rfl

set_option maxHeartbeats 2000000 in
set_option maxRecDepth 100000 in
theorem rowsC_calls (L : List Chn) (base : Option Addr) (n c : Nat) (by_ : Int) (w : World) (hf : FitC L) (ha : ChainsIn w base n c L) :
    Calls Tryz.prog 87 #[.slice base n c, .int .i64 by_] w fun e w' => RowsTold w w' (rowsC L by_) e := by
  have hcn : n ≤ 387420489 := by rw [ha.len]; exact hf.count
  have HA := hid ha
  have HLN := hid ha.len
  have HF := hid hf
  clear ha hf
  go_enter Tryz.func87, Tryz.ntmps87
  go_wp2
  go_loopw [6, 12] (fun v i wr => ∃ (j r : Nat) (R : List Row), j ≤ n ∧ r ≤ j ∧ i = .int .i64 j ∧ Hid (wr.ownsRow w.heap.size 81 2 v r (rowCells R)) ∧ Hid (rowsGo L by_ (L.take j) = some R) ∧ Hid (Below w.heap.size w wr)) (fun _ i _ => n - (intOf i).toNat)
  case atStart => exact ⟨0, 0, [], Nat.zero_le _, Nat.le_refl _, rfl, World.ownsRow_nil _ _ _ _, rfl, Below.refl _ _⟩
  case round =>
    obtain ⟨j, r, R, hj, hrj, rfl, HO, HR, HBR⟩ := hrel
    by_cases hlt : j < n
    · have hjl : j < L.length := by rw [← HLN.out]; exact hlt
      have hi : (j : Int) < (n : Int) := by omega
      rcases (HA.out.below HBR.out).run with h | ⟨b, o, rfl, hrun⟩
      · omega
      obtain ⟨vb, vn, vc, c0, c1, hvv, hkz⟩ := hrun j hlt
      have hbw : b < wr.heap.size := by simpa using World.block_lt_of_cell? _ _ c0
      have hfew := HF.out.few _ (memC hjl)
      have HRI := hid (HF.out.rise _ (memC hjl))
      have HBO := hid (before_own HF.out.srt (memC hjl) by_)
      have HSN := hid (rowsGo_snoc L by_ (L.getD j default) HR.out)
      rw [← take_snoc_getD hjl] at HSN
      have HST := hid (rowsGo_stop L by_ (memC hjl))
      rcases hx : L.getD j default with ⟨key, vs⟩
      rw [hx] at c0 hvv hfew HRI HBO HSN HST
      simp only at c0 hvv hfew HRI HBO HSN HST
      clear hx hrun
      have hvn := Vers.count hvv
      have HGW := hid (grew wr (.cells #[.string key, .slice vb vn vc] 156))
      have HLB := hid (lastBelow_calls vs vb vn vc by_ _ (by omega) HRI.out (hvv.below (by decide) HGW.out))
      rw [← HBO.out] at HLB
      clear hvv hkz hvn HBO HRI
      generalize before L key by_ = q at *
      go_wp2_with fail
      refine HLB.out.mono ?_
      rintro e w1 ⟨y, m, h, x, rfl, rfl, hb1⟩
      simp only [Ver.made, Ver.has_, Ver.n] at HSN HST
      have k0 := kept_cell hb1 (box_cell wr #[.string key, .slice vb vn vc] 156 0 _ rfl)
      have hwl : wr.heap.size < w1.heap.size := by simpa using World.block_lt_of_cell? _ _ k0
      have HB1 := hid (below_deep HGW.out hb1)
      have HB2 := hid (below_deep HB1.out (grew w1 (.cells #[.int .i64 y, .bool m, .bool h, .int .i64 x] 116)))
      clear hb1 HLB
      cases m with
      | false =>
        have HNO : Hid (rowsC L by_ = none) := HST.out (by simp)
        go_wp2
        go_ret2
        exact ⟨_, _, _, _, rfl, by rw [HNO.out]; rfl, by rw [HNO.out]; exact Holds.empty _ rfl rfl ⟨Nat.le_refl _, Nat.zero_le _, fun _ => rfl⟩, below_deep HBR.out HB2.out⟩
      | true =>
        cases h with
        | false =>
          have HNX : Hid (rowsGo L by_ (L.take (j + 1)) = some R) := by show _ = _; rw [HSN.out]; rfl
          go_wp2
          go_roundw
          case rel => exact ⟨j + 1, r, R, by omega, by omega, by go_num, owns_keep HO.out HB2.out, HNX, below_deep HBR.out HB2.out⟩
          case measure => simp [intOf]; omega
        | true =>
          have HNX : Hid (rowsGo L by_ (L.take (j + 1)) = some (R ++ [(key, x)])) := by show _ = _; rw [HSN.out]; rfl
          have HLO := hid (lies_one (w1.alloc (.cells #[.int .i64 y, .bool true, .bool true, .int .i64 x] 116)) #[.string key, .int .i64 x] 81 2 rfl)
          rw [World.size_alloc] at HLO
          have HOW := hid ((owns_keep HO.out HB2.out).alloc (.cells #[.string key, .int .i64 x] 81))
          have HSE := hid (rowCells_one [(key, x)])
          have HBY : Hid ((r + 1) * 24 ≤ 140737488355328) := by show _ ≤ _; omega
          have HSZ := hid (le_box (o := .cells #[.string key, .int .i64 x] 81) (Nat.le_trans HBR.out.size HB2.out.size))
          go_wp2_with (at_builtin; refine wpList_onto _ rfl _ _ 52 81 2 24 _ Tryz.underlying52 pairInfo rfl (by decide) (by decide) rfl w.heap.size _ r (rowCells R) rfl HOW.out _ 1 _ _ rfl HLO.out HSE.out HBY.out HSZ.out ?_)
          intro v3 w3 hown3 hg3
          have HO3 : Hid (w3.ownsRow w.heap.size 81 2 v3 (r + 1) (rowCells (R ++ [(key, x)]))) := by
            show World.ownsRow _ _ _ _ _ _ _
            rw [rowCells_snoc]; exact hown3
          have HB3 := hid (((below_deep HBR.out HB2.out).alloc (Nat.le_trans HBR.out.size HB2.out.size) (.cells #[.string key, .int .i64 x] 81)).grown hg3 HSZ.out (fun a ha => (HO.out.lt a ha).1))
          clear hown3 hg3
          go_wp2
          go_roundw
          case rel => exact ⟨j + 1, r + 1, _, by omega, by omega, by go_num, HO3, HNX, HB3⟩
          case measure => simp [intOf]; omega
    · obtain rfl : j = n := by omega
      have HR3 : Hid (rowsC L by_ = some R) := by
        have := HR.out
        rw [List.take_of_length_le (by rw [← HLN.out]; exact Nat.le_refl _)] at this
        exact this
      obtain ⟨b2, c2, rfl, hho⟩ := holds_of_owned HO.out
      have HH := hid hho
      clear hho
      go_wp2
      go_ret2
      exact ⟨_, _, _, _, rfl, by rw [HR3.out]; rfl, by rw [HR3.out]; exact HH.out, HBR.out⟩
end Go.Proofs.YtagangiilcicpaeGreatDoor

namespace Go.Proofs.YtagangiilcicpaeGreatDoor
open Go.RowKit

end Go.Proofs.YtagangiilcicpaeGreatDoor

namespace Go.Proofs.YtagangiilcicpaeGreatDoor
open Go.RowKit

end Go.Proofs.YtagangiilcicpaeGreatDoor

namespace Go.Proofs.YtagangiilcicpaeGreatDoor
open Go.RowKit

/-- How places are told. -/
def IntsTold (w w' : World) (l : List Int) (x : Ending) : Prop := ∃ nb nn nc, x = .returned (.slice nb nn nc) ∧ Ints w' nb nn nc l ∧ Below w.heap.size w w'
theorem ints_snoc (l : List Nat) (j : Nat) : ints (l ++ [j]) = ints l ++ [(j : Int)] := by simp [ints]
end Go.Proofs.YtagangiilcicpaeGreatDoor

namespace Go.Proofs.YtagangiilcicpaeGreatDoor
open Go.RowKit

end Go.Proofs.YtagangiilcicpaeGreatDoor

namespace Go.Proofs.YtagangiilcicpaeGreatDoor
open Go.RowKit

theorem Box.cells5 {w : World} {b : Nat} {t : TypeId} {v0 v1 v2 v3 v4 : Value} (h : Box w b #[v0, v1, v2, v3, v4] t) :
    w.cell? ⟨b, 0, none⟩ = some v0 ∧ w.cell? ⟨b, 1, none⟩ = some v1 ∧ w.cell? ⟨b, 2, none⟩ = some v2 ∧ w.cell? ⟨b, 3, none⟩ = some v3 ∧ w.cell? ⟨b, 4, none⟩ = some v4 :=
  ⟨h.cell 0 _ rfl, h.cell 1 _ rfl, h.cell 2 _ rfl, h.cell 3 _ rfl, h.cell 4 _ rfl⟩
theorem Box.free5 {w : World} {b : Nat} {t : TypeId} {cs : Array Value} (h : Box w b cs t) :
    w.frozen? ⟨b, 0, none⟩ = false ∧ w.frozen? ⟨b, 1, none⟩ = false ∧ w.frozen? ⟨b, 2, none⟩ = false ∧ w.frozen? ⟨b, 3, none⟩ = false ∧ w.frozen? ⟨b, 4, none⟩ = false :=
  ⟨h.free 0, h.free 1, h.free 2, h.free 3, h.free 4⟩
def put5 (w : World) (b : Nat) (v0 v1 v2 v3 v4 : Value) : World :=
  ((((w.setCell ⟨b, 0, none⟩ v0).setCell ⟨b, 1, none⟩ v1).setCell ⟨b, 2, none⟩ v2).setCell ⟨b, 3, none⟩ v3).setCell ⟨b, 4, none⟩ v4
theorem put5_off (w : World) (b : Nat) (v0 v1 v2 v3 v4 : Value) : Off b w (put5 w b v0 v1 v2 v3 v4) :=
  ((((Off.set _ _ _ _).trans (Off.set _ _ _ _)).trans (Off.set _ _ _ _)).trans (Off.set _ _ _ _)).trans (Off.set _ _ _ _)
theorem put5_box {w : World} {b : Nat} {t : TypeId} {u0 u1 u2 u3 u4 : Value} (h : Box w b #[u0, u1, u2, u3, u4] t) (v0 v1 v2 v3 v4 : Value) : Box (put5 w b v0 v1 v2 v3 v4) b #[v0, v1, v2, v3, v4] t := by
  have := ((((h.set 0 v0).set 1 v1).set 2 v2).set 3 v3).set 4 v4
  exact this
theorem put5_below {w0 w : World} {B b : Nat} (h : Below B w0 w) (hb : B ≤ b) (v0 v1 v2 v3 v4 : Value) : Below B w0 (put5 w b v0 v1 v2 v3 v4) :=
  ((((h.setCell (p := ⟨b, 0, none⟩) hb _).setCell (p := ⟨b, 1, none⟩) hb _).setCell (p := ⟨b, 2, none⟩) hb _).setCell (p := ⟨b, 3, none⟩) hb _).setCell (p := ⟨b, 4, none⟩) hb _
theorem put5_far {w : World} {b b' : Nat} {cs : Array Value} {t : TypeId} (h : Box w b' cs t) (hne : b' ≠ b) (v0 v1 v2 v3 v4 : Value) : Box (put5 w b v0 v1 v2 v3 v4) b' cs t :=
  ((((h.far ⟨b, 0, none⟩ hne _).far ⟨b, 1, none⟩ hne _).far ⟨b, 2, none⟩ hne _).far ⟨b, 3, none⟩ hne _).far ⟨b, 4, none⟩ hne _
theorem box_off {w w' : World} {b b' : Nat} {cs : Array Value} {t : TypeId} (h : Box w b' cs t) (ho : Off b w w') (hne : b' ≠ b) : Box w' b' cs t := (ho.block b' h.lt hne).trans h
/-- A row that a call owns is apart from what is written in another block. -/
theorem owns_off {w w' : World} {b B e s n : Nat} {v : Value} {xs : List Value} (h : w.ownsRow B e s v n xs) (ho : Off b w w') (hne : some b ≠ v.ownBlock) : w'.ownsRow B e s v n xs := by
  refine ⟨h.1, h.2.imp id ?_⟩
  rintro ⟨g, cap, cur, rfl, hb, hg, rest⟩
  refine ⟨g, cap, cur, rfl, hb, ?_, rest⟩
  exact (ho.block g (Array.getElem?_eq_some_iff.1 hg).1 (fun e => hne (by rw [← e]; rfl))).trans hg
theorem own_ne {w : World} {b B e s n : Nat} {v : Value} {xs : List Value} {cs : Array Value} {t : TypeId} (h : w.ownsRow B e s v n xs) (hb : Box w b cs t) (hne : t ≠ e) : some b ≠ v.ownBlock :=
  own_apart h (.inr ⟨cs, _, hb⟩) hne
theorem SlotsAre.off0 {w w' : World} {b : Nat} {cs : Array Value} {t : TypeId} {S : List Slot} {L : List Chn} (h : SlotsAre w 0 116 S L) (hb : Box w b cs t) (h2 : 116 ≠ t) (ho : Off b w w') : SlotsAre w' 0 116 S L := by
  refine ⟨h.1, fun i hi => ?_⟩
  obtain ⟨e1, e2, e3, e4⟩ := h.2 i hi
  rcases e3 with e3 | e3 | e3
  · exact ⟨e1, Lies.off e2 ho (.inl e3), .inl e3, e4⟩
  · refine ⟨e1, Lies.off e2 ho (.inr fun a ha => absurd (e3 a ha) (Nat.not_lt_zero _)), .inr (.inl e3), e4⟩
  · exact ⟨e1, Lies.off e2 ho (.inr (kind_ne hb e3 h2)), .inr (.inr (e3.off ho (kind_ne hb e3 h2))), e4⟩
/-! ### A field of the call's own engine is made anew -/
end Go.Proofs.YtagangiilcicpaeGreatDoor

namespace Go.Proofs.YtagangiilcicpaeGreatDoor
open Go.RowKit

/-- How an engine is told. -/
def EngTold (w w' : World) (e : Eng) (x : Ending) : Prop := ∃ v, x = .returned v ∧ EngIn w' v e ∧ Below w.heap.size w w'
end Go.Proofs.YtagangiilcicpaeGreatDoor
