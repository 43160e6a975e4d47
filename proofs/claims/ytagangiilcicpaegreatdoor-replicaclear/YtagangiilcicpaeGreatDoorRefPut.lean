/-
  The closed fact that the statement DeedNamed asks first is so.
  The document's own WrongRows and Get, walked.
  The two views that the statement DeedNamed hands to a deed.
  What the loops of the statement DeedNamed keep.
  Whether two deeds are the same, by the document's answer; the view that the statement DeedTells hands to a deed.
  Put and Drop of the program, of rows that rise.
  The document's own Put, walked: of rows that rise it comes to what the program's Put and Drop come to.
-/
import Derived.Test.YtagangiilcicpaeGreatDoorDeedSame
import Derived.Test.YtagangiilcicpaeGreatDoorDeedRun
import Derived.Test.YtagangiilcicpaeGreatDoorAround
import Derived.Test.YtagangiilcicpaeGreatDoorOpenDeeds
import Derived.ChangeKeysEq
import Derived.Test.YtagangiilcicpaeGreatDoorDeedKeys
namespace Go.Proofs.YtagangiilcicpaeGreatDoor
open Go.RowKit

theorem grew (w : World) (o : Obj) : Below w.heap.size w (w.alloc o) := (Below.refl _ _).alloc (Nat.le_refl _) _
end Go.Proofs.YtagangiilcicpaeGreatDoor

namespace Go.Proofs.YtagangiilcicpaeGreatDoor
open Go.RowKit

set_option maxHeartbeats 1000000 in
theorem refGet_calls (l : List Row) (base : Option Addr) (n c : Nat) (k : ByteArray) (w : World) (hs : Srt l) (ha : Holds w base n c l) :
    Calls Tryz.prog 82 #[.slice base n c, .string k] w fun e w' => e = .returned (.tuple #[.int .i64 (num k l), .bool (isAt k l)]) ∧ Below w.heap.size w w' := by
  have HN := hid ha.len
  have hm := Nat.le_trans ha.hdr.le ha.hdr.max
  unfold maxLen at hm
  by_cases h0 : n = 0
  · subst h0
    have hg := hid (get_none (k := k) (l := l) fun j hj => by rw [← HN.out] at hj; omega)
    go_enter Tryz.func82, Tryz.ntmps82
    go_wp2
    go_loop [10] (fun i => i = .int .i64 0) (fun _ => 0)
    case atStart => rfl
    case round =>
      obtain rfl := hrel
      go_wp2
      go_ret2
      exact ⟨by rw [hg.out.1, hg.out.2]; rfl, Below.refl _ _⟩
  rcases ha.seg with h | ⟨b, o, rfl, h1⟩
  · exact absurd (by rw [HN.out, h]; rfl) h0
  have hbw : b < w.heap.size := h1.lt (by rw [← HN.out]; omega)
  have H1 := hid h1
  have HS := hid hs
  clear h1 hs ha h0
  go_enter Tryz.func82, Tryz.ntmps82
  go_wp2
  go_loopw [10] (fun i wr => ∃ j : Nat, j ≤ n ∧ i = .int .i64 j ∧ Hid (∀ t, t < j → (l.getD t default).1 ≠ k) ∧ Below w.heap.size w wr) (fun i _ => n - (intOf i).toNat)
  case atStart => exact ⟨0, Nat.zero_le _, rfl, fun t ht => absurd ht (Nat.not_lt_zero _), Below.refl _ _⟩
  case round =>
    obtain ⟨j, hj, rfl, HA, hbel⟩ := hrel
    have hsz := hbel.size
    by_cases hlt : j < n
    · have hjl : j < l.length := by rw [← HN.out]; exact hlt
      obtain ⟨c1, d1⟩ := (H1.out.below hbel hbw) j hjl
      have HF := hid (get_found (k := k) HS.out hjl)
      have HX : Hid ((l.getD j default).1 ≠ k → ∀ t, t < j + 1 → (l.getD t default).1 ≠ k) := fun hne t ht => by
        by_cases e : t = j
        · rw [e]; exact hne
        · exact HA.out t (by omega)
      generalize (l.getD j default).1 = kk at *
      generalize (l.getD j default).2 = nn at *
      have hi : (j : Int) < (n : Int) := by omega
      by_cases hk : kk = k
      · have hkb : (kk.toList == k.toList) = true := by rw [hk]; simp
        have HE := hid (HF.out hk)
        clear hk
        go_wp2
        go_ret2
        exact ⟨by rw [HE.out.1, HE.out.2]; rfl, hbel.alloc hsz _⟩
      · have hkb : (kk.toList == k.toList) = false := by simpa using fun e => hk (toList_inj e)
        go_wp2
        go_roundw
        case rel => exact ⟨j + 1, by omega, by go_num, HX.out hk, hbel.alloc hsz _⟩
        case measure => simp [intOf]; omega
    · have HG := hid (get_none (k := k) (l := l) fun t ht => HA.out t (by rw [← HN.out] at ht; omega))
      go_wp2
      go_ret2
      exact ⟨by rw [HG.out.1, HG.out.2]; rfl, hbel⟩
end Go.Proofs.YtagangiilcicpaeGreatDoor

namespace Go.Proofs.YtagangiilcicpaeGreatDoor
open Go.RowKit

theorem seen_num (k : ByteArray) (l : List Row) : (if isAt k l = true then num k l else 0) = num k l := by
  cases h : isAt k l with
  | true => rfl
  | false => rw [num_not k l h]; rfl

end Go.Proofs.YtagangiilcicpaeGreatDoor

namespace Go.Proofs.YtagangiilcicpaeGreatDoor
open Go.RowKit

def nameMap (l : List ByteArray) : ByteArray → Option Value := fun k => if has l k = true then some (.bool true) else none
structure HK2 (w wr : World) (s j : Nat) (L : List ByteArray) : Prop where
  map : MapIs wr s j (nameMap (L.take j))
  old : Below s w wr
theorem below_cell {B : Nat} {w w' : World} {b x : Nat} {v : Value} (hb : Below B w w') (hB : b < B) (h : w.cell? ⟨b, x, none⟩ = some v) : w'.cell? ⟨b, x, none⟩ = some v := by
  rw [hb.cell (p := ⟨b, x, none⟩) hB]; exact h
end Go.Proofs.YtagangiilcicpaeGreatDoor

namespace Go.Proofs.YtagangiilcicpaeGreatDoor
open Go.RowKit

end Go.Proofs.YtagangiilcicpaeGreatDoor

namespace Go.Proofs.YtagangiilcicpaeGreatDoor
open Go.RowKit

theorem cells_one (w : World) (k : ByteArray) (m : Int) (t : TypeId) : Cells (w.alloc (.cells #[.string k, .int .i64 m] t)) w.heap.size 0 [(k, m)] := fun i hi => by
  obtain rfl : i = 0 := by simpa using hi
  refine ⟨?_, ?_⟩ <;> (rw [World.cell?_alloc_at _ _ _ _ (by simp)]; rfl)

end Go.Proofs.YtagangiilcicpaeGreatDoor

namespace Go.Proofs.YtagangiilcicpaeGreatDoor
open Go.RowKit

theorem cells_two (w : World) (p : Obj) (k : ByteArray) (m : Int) (t : TypeId) : Cells ((w.alloc p).alloc (.cells #[.string k, .int .i64 m] t)) (w.heap.size + 1) 0 [(k, m)] := by
  have := cells_one (w.alloc p) k m t
  rwa [World.size_alloc] at this
theorem holds_one {w : World} {b : Nat} {k : ByteArray} {m : Int} (h : Cells w b 0 [(k, m)]) : Holds w (some ⟨b, 0, none⟩) 1 1 [(k, m)] := Holds.cells rfl h (Nat.le_refl _) (by unfold maxLen; omega)

theorem le_alloc {B : Nat} {w : World} {o : Obj} (h : B ≤ w.heap.size) : B ≤ (w.alloc o).heap.size := by rw [World.size_alloc]; omega
theorem measure_step {j n : Nat} (h : j < n) : n - (intOf (.int .i64 ((j : Int) + 1))).toNat < n - (intOf (.int .i64 (j : Int))).toNat := by simp [intOf]; omega

set_option maxHeartbeats 2000000 in
theorem refPut_trueK (l : List Row) (base : Option Addr) (n c : Nat) (k : ByteArray) (x : Int) (w : World) (hn : (n + 1) * 24 ≤ 140737488355328) (hs : Srt l) (ha : Holds w base n c l) :
    Calls Tryz.prog 80 #[.slice base n c, .string k, .int .i64 x, .bool true] w fun e w' =>
      ∃ base' n' c', e = .returned (.slice base' n' c') ∧ Holds w' base' n' c' (refOut true k x l) ∧ Below w.heap.size w w' ∧ Kind w' 81 base' := by
  have HN := hid ha.len
  have HH := hid ha
  have HS := hid hs
  clear ha hs
  go_enter Tryz.func80, Tryz.ntmps80
  go_wp2
  go_loopw [9, 10, 15] (fun v d i wr => ∃ (j m : Nat) (r : List Row), j ≤ n ∧ m ≤ j + 1 ∧ i = .int .i64 j ∧ d = .bool (!allLess k (l.take j)) ∧ Hid (r = stOut true k x (l.take j)) ∧ Hid (wr.ownsRow w.heap.size 81 2 v m (rowCells r)) ∧ Below w.heap.size w wr) (fun _ _ i _ => n - (intOf i).toNat)
  case atStart => exact ⟨0, 0, [], Nat.zero_le _, Nat.zero_le _, rfl, rfl, rfl, World.ownsRow_nil _ _ _ _, Below.refl _ _⟩
  case round =>
    obtain ⟨j, m, r, hj, hm, rfl, rfl, HR, HO, hbel⟩ := hrel
    have hsz := hbel.size
    have HLT := hid HO.out.lt
    by_cases hlt : j < n
    · have hjl : j < l.length := by rw [← HN.out]; exact hlt
      rcases (HH.out.below hbel).seg with h | ⟨b, o, rfl, hc⟩
      · rw [h] at hjl; simp at hjl
      obtain ⟨c1, d1⟩ := hc j hjl
      have hbw := hc.lt (by omega)
      have HT := hid (take_next hjl)
      have hi : (j : Int) < (n : Int) := by omega
      have HP : Hid ((l.getD j default) = ((l.getD j default).1, (l.getD j default).2)) := rfl
      clear hc
      cases hal : allLess k (l.take j) with
      | true =>
        have hmj : m ≤ j := by
          have e1 := HO.out.1
          rw [rowCells_length, HR.out, stOut, if_pos hal, List.length_take] at e1
          omega
        rcases less_cases (l.getD j default).1 k with hx | hx | hx
        · have HE := hid (st_less (has := true) (n := x) hal hx)
          have HAL : Hid (allLess k (l.take (j + 1)) = true) := by show _ = _; rw [HT.out, allLess_snoc, hal, hx]; rfl
          rw [← HT.out, ← HR.out] at HE
          rw [HP.out] at HE
          generalize (l.getD j default).1 = kk at *
          generalize (l.getD j default).2 = nn at *
          have t1 : Op.bytesLess kk.toList k.toList = true := hx
          have t2 : (kk.toList == k.toList) = false := by simpa using fun e => less_ne hx (toList_inj e)
          have HC := hid (holds_one (cells_two wr (.cells #[.string kk, .int .i64 nn] 81) kk nn 81))
          clear hx hal
          go_wp2_with (at_builtin; refine wpList_app _ rfl _ _ rfl w.heap.size _ m r rfl ((HO.out.alloc _).alloc _) _ _ _ _ rfl HC.out (by omega) (by simp; omega) ?_; intro v1 w2 hown1 hg1)
          go_roundw
          case rel => exact ⟨j + 1, m + 1, _, by omega, by omega, by go_num, by rw [HAL.out]; rfl, HE.out.symm, hown1, ((hbel.alloc hsz _).alloc (by simp; omega) _).grown hg1 (by simp; omega) (fun y hy => (HLT.out y hy).1)⟩
          case measure => simp [intOf]; omega
        · have HE := hid (st_eq (has := true) (n := x) hal hx)
          have HAL : Hid (allLess k (l.take (j + 1)) = false) := by show _ = _; rw [HT.out, allLess_snoc, hal, hx, less_irrefl]; rfl
          rw [← HT.out, ← HR.out] at HE
          simp only [if_true] at HE
          generalize (l.getD j default).1 = kk at *
          generalize (l.getD j default).2 = nn at *
          have t1 : Op.bytesLess kk.toList k.toList = false := by rw [hx]; exact less_irrefl _
          have t2 : (kk.toList == k.toList) = true := by rw [hx]; simp
          clear hx hal
          have HC := hid (holds_one (cells_two wr (.cells #[.string kk, .int .i64 nn] 81) k x 81))
          go_wp2_with (at_builtin; refine wpList_app _ rfl _ _ rfl w.heap.size _ m r rfl ((HO.out.alloc _).alloc _) _ _ _ _ rfl HC.out (by omega) (by simp; omega) ?_)
          intro v1 w2 hown1 hg1
          have p1 : w2.cell? ⟨wr.heap.size, 0, none⟩ = some (.string kk) := hg1.cell (cell_past _ (by rw [World.cell?_alloc_at _ _ _ _ (by simp)]; rfl)) (fun e => by have := (HLT.out _ e.symm).2; simp at this)
          go_wp2
          go_roundw
          case rel => exact ⟨j + 1, m + 1, _, by omega, by omega, by go_num, by rw [HAL.out]; rfl, HE.out.symm, hown1, ((hbel.alloc hsz _).alloc (by simp; omega) _).grown hg1 (by simp; omega) (fun y hy => (HLT.out y hy).1)⟩
          case measure => simp [intOf]; omega
        · have HE := hid (st_more (has := true) (n := x) hal hx)
          have HAL : Hid (allLess k (l.take (j + 1)) = false) := by show _ = _; rw [HT.out, allLess_snoc, hal, less_asymm hx]; rfl
          rw [← HT.out, ← HR.out] at HE
          rw [HP.out] at HE
          simp only [if_true] at HE
          generalize (l.getD j default).1 = kk at *
          generalize (l.getD j default).2 = nn at *
          have t1 : Op.bytesLess kk.toList k.toList = false := less_asymm hx
          have t2 : (kk.toList == k.toList) = false := by simpa using fun e => less_ne hx (toList_inj e).symm
          clear hx hal
          have HC := hid (holds_one (cells_two wr (.cells #[.string kk, .int .i64 nn] 81) k x 81))
          have hb1 : (m + 1) * 24 ≤ 140737488355328 := Nat.le_trans (Nat.mul_le_mul_right 24 (show m + 1 ≤ n + 1 by omega)) hn
          have hb2 : (m + 1 + 1) * 24 ≤ 140737488355328 := Nat.le_trans (Nat.mul_le_mul_right 24 (show m + 1 + 1 ≤ n + 1 by omega)) hn
          have hj1 : j + 1 ≤ n := by omega
          have hm2 : m + 1 + 1 ≤ j + 1 + 1 := by omega
          have B1 := hid hb1
          have B2 := hid hb2
          have B3 := hid hj1
          have B4 := hid hm2
          have B5 := hid hlt
          have B6 := hid hsz
          clear hb1 hb2 hj1 hm2
          go_wp2_with (at_builtin; refine wpList_app _ rfl _ _ rfl w.heap.size _ m r rfl ((HO.out.alloc _).alloc _) _ _ _ _ rfl HC.out B1.out (le_alloc (le_alloc B6.out)) ?_)
          intro v1 w2 hown1 hg1
          have p1 : w2.cell? ⟨wr.heap.size, 0, none⟩ = some (.string kk) := hg1.cell (cell_past _ (by rw [World.cell?_alloc_at _ _ _ _ (by simp)]; rfl)) (fun e => Nat.lt_irrefl _ (HLT.out _ e.symm).2)
          have p2 : w2.cell? ⟨wr.heap.size, 1, none⟩ = some (.int .i64 nn) := hg1.cell (cell_past _ (by rw [World.cell?_alloc_at _ _ _ _ (by simp)]; rfl)) (fun e => Nat.lt_irrefl _ (HLT.out _ e.symm).2)
          have HB2 := hid (((hbel.alloc B6.out _).alloc (le_alloc B6.out) _).grown hg1 (le_alloc (le_alloc B6.out)) (fun y hy => (HLT.out y hy).1))
          have HO3 := hid (hown1.alloc (.cells #[.string kk, .int .i64 nn] 81))
          have HLT2 := hid hown1.lt
          have HC2 := hid (holds_one (cells_one w2 kk nn 81))
          clear hown1 hg1
          go_wp2_with (at_builtin; refine wpList_app _ rfl _ _ rfl w.heap.size v1 (m + 1) (r ++ [(k, x)]) rfl HO3.out _ _ _ [(kk, nn)] rfl HC2.out B2.out (le_alloc HB2.out.size) ?_)
          intro v3 w3 hown3 hg3
          go_wp2
          go_roundw
          case rel => exact ⟨j + 1, m + 1 + 1, r ++ [(k, x), (kk, nn)], B3.out, B4.out, by go_num, by rw [HAL.out]; rfl, (by show _ = _; rw [HE.out]; simp), hown3, (HB2.out.alloc HB2.out.size _).grown hg3 (le_alloc HB2.out.size) (fun y hy => (HLT2.out y hy).1)⟩
          case measure => exact measure_step B5.out
      | false =>
        have hx := more_of_done (k := k) HS.out hjl hal
        have HE := hid (st_done (has := true) (n := x) (x := l.getD j default) hal)
        have HAL : Hid (allLess k (l.take (j + 1)) = false) := by show _ = _; rw [HT.out, allLess_snoc, hal]; rfl
        rw [← HT.out, ← HR.out] at HE
        rw [HP.out] at HE
        have hm2 : m + 1 ≤ n + 1 := by omega
        generalize (l.getD j default).1 = kk at *
        generalize (l.getD j default).2 = nn at *
        have t2 : (kk.toList == k.toList) = false := by simpa using fun e => less_ne hx (toList_inj e).symm
        have HC := hid (holds_one (cells_two wr (.cells #[.string kk, .int .i64 nn] 81) kk nn 81))
        clear hx hal
        go_wp2_with (at_builtin; refine wpList_app _ rfl _ _ rfl w.heap.size _ m r rfl ((HO.out.alloc _).alloc _) _ _ _ _ rfl HC.out (by omega) (by simp; omega) ?_; intro v1 w2 hown1 hg1)
        go_roundw
        case rel => exact ⟨j + 1, m + 1, _, by omega, by omega, by go_num, by rw [HAL.out]; rfl, HE.out.symm, hown1, ((hbel.alloc hsz _).alloc (by simp; omega) _).grown hg1 (by simp; omega) (fun y hy => (HLT.out y hy).1)⟩
        case measure => simp [intOf]; omega
    · have htk : l.take j = l := List.take_of_length_le (by rw [← HN.out]; omega)
      rw [htk] at HR
      rw [htk]
      clear htk
      cases hal : allLess k l with
      | false =>
        have HE := hid (st_fin (has := true) (n := x) hal)
        rw [← HR.out] at HE
        clear hal
        obtain ⟨bo, co, rfl, hho⟩ := holds_of_owned HO.out
        go_wp2
        go_ret
        exact ⟨_, _, _, rfl, by rw [HE.out]; exact hho, hbel, Kind.owned HO.out⟩
      | true =>
        have HE := hid (st_end (has := true) (n := x) hal)
        rw [← HR.out] at HE
        simp only [if_true] at HE
        have hmj : m ≤ n := by
          have e1 := HO.out.1
          rw [rowCells_length, HR.out, stOut, if_pos hal, ← HN.out] at e1
          omega
        clear hal
        have HC := hid (holds_one (cells_one wr k x 81))
        go_wp2_with (at_builtin; refine wpList_app _ rfl _ _ rfl w.heap.size _ m r rfl (HO.out.alloc _) _ _ _ _ rfl HC.out (by omega) (by simp; omega) ?_; intro v1 w2 hown1 hg1)
        obtain ⟨bo, co, rfl, hho⟩ := holds_of_owned hown1
        go_wp2
        go_ret
        exact ⟨_, _, _, rfl, by rw [HE.out]; exact hho, (hbel.alloc hsz _).grown hg1 (by simp; omega) (fun y hy => (HLT.out y hy).1), Kind.owned hown1⟩

set_option maxHeartbeats 2000000 in
theorem refPut_falseK (l : List Row) (base : Option Addr) (n c : Nat) (k : ByteArray) (x : Int) (w : World) (hn : (n + 1) * 24 ≤ 140737488355328) (hs : Srt l) (ha : Holds w base n c l) :
    Calls Tryz.prog 80 #[.slice base n c, .string k, .int .i64 x, .bool false] w fun e w' =>
      ∃ base' n' c', e = .returned (.slice base' n' c') ∧ Holds w' base' n' c' (refOut false k x l) ∧ Below w.heap.size w w' ∧ Kind w' 81 base' := by
  have HN := hid ha.len
  have HH := hid ha
  have HS := hid hs
  clear ha hs
  go_enter Tryz.func80, Tryz.ntmps80
  go_wp2
  go_loopw [9, 10, 15] (fun v d i wr => ∃ (j m : Nat) (r : List Row), j ≤ n ∧ m ≤ j + 1 ∧ i = .int .i64 j ∧ d = .bool (!allLess k (l.take j)) ∧ Hid (r = stOut false k x (l.take j)) ∧ Hid (wr.ownsRow w.heap.size 81 2 v m (rowCells r)) ∧ Below w.heap.size w wr) (fun _ _ i _ => n - (intOf i).toNat)
  case atStart => exact ⟨0, 0, [], Nat.zero_le _, Nat.zero_le _, rfl, rfl, rfl, World.ownsRow_nil _ _ _ _, Below.refl _ _⟩
  case round =>
    obtain ⟨j, m, r, hj, hm, rfl, rfl, HR, HO, hbel⟩ := hrel
    have hsz := hbel.size
    have HLT := hid HO.out.lt
    by_cases hlt : j < n
    · have hjl : j < l.length := by rw [← HN.out]; exact hlt
      rcases (HH.out.below hbel).seg with h | ⟨b, o, rfl, hc⟩
      · rw [h] at hjl; simp at hjl
      obtain ⟨c1, d1⟩ := hc j hjl
      have hbw := hc.lt (by omega)
      have HT := hid (take_next hjl)
      have hi : (j : Int) < (n : Int) := by omega
      have HP : Hid ((l.getD j default) = ((l.getD j default).1, (l.getD j default).2)) := rfl
      clear hc
      cases hal : allLess k (l.take j) with
      | true =>
        have hmj : m ≤ j := by
          have e1 := HO.out.1
          rw [rowCells_length, HR.out, stOut, if_pos hal, List.length_take] at e1
          omega
        rcases less_cases (l.getD j default).1 k with hx | hx | hx
        · have HE := hid (st_less (has := false) (n := x) hal hx)
          have HAL : Hid (allLess k (l.take (j + 1)) = true) := by show _ = _; rw [HT.out, allLess_snoc, hal, hx]; rfl
          rw [← HT.out, ← HR.out] at HE
          rw [HP.out] at HE
          generalize (l.getD j default).1 = kk at *
          generalize (l.getD j default).2 = nn at *
          have t1 : Op.bytesLess kk.toList k.toList = true := hx
          have t2 : (kk.toList == k.toList) = false := by simpa using fun e => less_ne hx (toList_inj e)
          have HC := hid (holds_one (cells_two wr (.cells #[.string kk, .int .i64 nn] 81) kk nn 81))
          clear hx hal
          go_wp2_with (at_builtin; refine wpList_app _ rfl _ _ rfl w.heap.size _ m r rfl ((HO.out.alloc _).alloc _) _ _ _ _ rfl HC.out (by omega) (by simp; omega) ?_; intro v1 w2 hown1 hg1)
          go_roundw
          case rel => exact ⟨j + 1, m + 1, _, by omega, by omega, by go_num, by rw [HAL.out]; rfl, HE.out.symm, hown1, ((hbel.alloc hsz _).alloc (by simp; omega) _).grown hg1 (by simp; omega) (fun y hy => (HLT.out y hy).1)⟩
          case measure => simp [intOf]; omega
        · have HE := hid (st_eq (has := false) (n := x) hal hx)
          have HAL : Hid (allLess k (l.take (j + 1)) = false) := by show _ = _; rw [HT.out, allLess_snoc, hal, hx, less_irrefl]; rfl
          rw [← HT.out, ← HR.out] at HE
          simp only [Bool.false_eq_true, if_false, List.append_nil] at HE
          generalize (l.getD j default).1 = kk at *
          generalize (l.getD j default).2 = nn at *
          have t1 : Op.bytesLess kk.toList k.toList = false := by rw [hx]; exact less_irrefl _
          have t2 : (kk.toList == k.toList) = true := by rw [hx]; simp
          clear hx hal
          go_wp2
          go_roundw
          case rel => exact ⟨j + 1, m, r, by omega, by omega, by go_num, by rw [HAL.out]; rfl, HE.out.symm, HO.out.alloc _, hbel.alloc hsz _⟩
          case measure => simp [intOf]; omega
        · have HE := hid (st_more (has := false) (n := x) hal hx)
          have HAL : Hid (allLess k (l.take (j + 1)) = false) := by show _ = _; rw [HT.out, allLess_snoc, hal, less_asymm hx]; rfl
          rw [← HT.out, ← HR.out] at HE
          rw [HP.out] at HE
          simp only [Bool.false_eq_true, if_false, List.append_nil] at HE
          generalize (l.getD j default).1 = kk at *
          generalize (l.getD j default).2 = nn at *
          have t1 : Op.bytesLess kk.toList k.toList = false := less_asymm hx
          have t2 : (kk.toList == k.toList) = false := by simpa using fun e => less_ne hx (toList_inj e).symm
          clear hx hal
          have HC := hid (holds_one (cells_two wr (.cells #[.string kk, .int .i64 nn] 81) kk nn 81))
          go_wp2_with (at_builtin; refine wpList_app _ rfl _ _ rfl w.heap.size _ m r rfl ((HO.out.alloc _).alloc _) _ _ _ _ rfl HC.out (by omega) (by simp; omega) ?_; intro v1 w2 hown1 hg1)
          go_roundw
          case rel => exact ⟨j + 1, m + 1, _, by omega, by omega, by go_num, by rw [HAL.out]; rfl, HE.out.symm, hown1, ((hbel.alloc hsz _).alloc (by simp; omega) _).grown hg1 (by simp; omega) (fun y hy => (HLT.out y hy).1)⟩
          case measure => simp [intOf]; omega
      | false =>
        have hx := more_of_done (k := k) HS.out hjl hal
        have HE := hid (st_done (has := false) (n := x) (x := l.getD j default) hal)
        have HAL : Hid (allLess k (l.take (j + 1)) = false) := by show _ = _; rw [HT.out, allLess_snoc, hal]; rfl
        rw [← HT.out, ← HR.out] at HE
        rw [HP.out] at HE
        have hm2 : m + 1 ≤ n + 1 := by omega
        generalize (l.getD j default).1 = kk at *
        generalize (l.getD j default).2 = nn at *
        have t2 : (kk.toList == k.toList) = false := by simpa using fun e => less_ne hx (toList_inj e).symm
        have HC := hid (holds_one (cells_two wr (.cells #[.string kk, .int .i64 nn] 81) kk nn 81))
        clear hx hal
        go_wp2_with (at_builtin; refine wpList_app _ rfl _ _ rfl w.heap.size _ m r rfl ((HO.out.alloc _).alloc _) _ _ _ _ rfl HC.out (by omega) (by simp; omega) ?_; intro v1 w2 hown1 hg1)
        go_roundw
        case rel => exact ⟨j + 1, m + 1, _, by omega, by omega, by go_num, by rw [HAL.out]; rfl, HE.out.symm, hown1, ((hbel.alloc hsz _).alloc (by simp; omega) _).grown hg1 (by simp; omega) (fun y hy => (HLT.out y hy).1)⟩
        case measure => simp [intOf]; omega
    · have htk : l.take j = l := List.take_of_length_le (by rw [← HN.out]; omega)
      rw [htk] at HR
      rw [htk]
      clear htk
      cases hal : allLess k l with
      | false =>
        have HE := hid (st_fin (has := false) (n := x) hal)
        rw [← HR.out] at HE
        clear hal
        obtain ⟨bo, co, rfl, hho⟩ := holds_of_owned HO.out
        go_wp2
        go_ret
        exact ⟨_, _, _, rfl, by rw [HE.out]; exact hho, hbel, Kind.owned HO.out⟩
      | true =>
        have HE := hid (st_end (has := false) (n := x) hal)
        rw [← HR.out] at HE
        simp only [Bool.false_eq_true, if_false, List.append_nil] at HE
        have hmj : m ≤ n := by
          have e1 := HO.out.1
          rw [rowCells_length, HR.out, stOut, if_pos hal, ← HN.out] at e1
          omega
        clear hal
        obtain ⟨bo, co, rfl, hho⟩ := holds_of_owned HO.out
        go_wp2
        go_ret
        exact ⟨_, _, _, rfl, by rw [HE.out]; exact hho, hbel, Kind.owned HO.out⟩
theorem refPut_true (l : List Row) (base : Option Addr) (n c : Nat) (k : ByteArray) (x : Int) (w : World) (hn : (n + 1) * 24 ≤ 140737488355328) (hs : Srt l) (ha : Holds w base n c l) :
    Calls Tryz.prog 80 #[.slice base n c, .string k, .int .i64 x, .bool true] w fun e w' =>
      ∃ base' n' c', e = .returned (.slice base' n' c') ∧ Holds w' base' n' c' (refOut true k x l) ∧ Below w.heap.size w w' :=
  (refPut_trueK l base n c k x w hn hs ha).mono fun _ _ ⟨b, n', c', h1, h2, h3, _⟩ => ⟨b, n', c', h1, h2, h3⟩
end Go.Proofs.YtagangiilcicpaeGreatDoor
