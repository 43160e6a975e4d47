/-
  Key of the program and of the document's answer tell the same keys; Round tells what is left.
  What it means that a slice in memory holds rows, and that this stands while other memory grows.
-/
import Derived.Test.YtfchjhdgnibnnabChecked
import Derived.Test.YtfchjhdgnibnnabMath
import Derived.WalkKit
import Derived.WalkSpells
import Derived.WalkLawsBesides
import Derived.Below
import Derived.LoopTactic
import Derived.Outline
namespace Go.Proofs.Ytfchjhdgnibnnab
open Go.RowKit

theorem take_snoc (s : ByteArray) (k : Nat) (h : k < s.size) : s.data.toList.take (k + 1) = s.data.toList.take k ++ [s[k]] := by
  rw [List.take_succ_eq_append_getElem (by simpa using h)]; rfl
theorem all_snoc (l : List UInt8) (c : UInt8) : (l ++ [c]).all okc = (l.all okc && okc c) := by simp
theorem ret_bool {a b : Bool} (h : a = b) : Ending.returned (.bool a) = .returned (.bool b) := by rw [h]
theorem all_take {l : List UInt8} {k : Nat} (h : (l.take k).all okc = false) : l.all okc = false := by
  rw [← List.take_append_drop k l, List.all_append, h]; rfl

theorem key_bad (s : ByteArray) (k : Nat) (hlt : k < s.size) (HK : Hid (keyB s = s.data.toList.all okc)) (HS : Hid ((s.data.toList.take (k + 1)).all okc = okc s[k]))
    (h : (s[k].toNat : Int) < 97 ∨ 122 < (s[k].toNat : Int)) : keyB s = false := by
  have ho : okc s[k] = false := by simp [okc]; omega
  rw [HK.out]; exact all_take (k := k + 1) (by rw [HS.out, ho])
theorem key_good (s : ByteArray) (k : Nat) (hlt : k < s.size) (HS : Hid ((s.data.toList.take (k + 1)).all okc = okc s[k]))
    (h1 : 97 ≤ (s[k].toNat : Int)) (h2 : (s[k].toNat : Int) ≤ 122) : Hid ((s.data.toList.take (k + 1)).all okc = true) := by
  show _ = _
  rw [HS.out]; simp [okc]; omega

set_option maxHeartbeats 400000 in
theorem key_calls (s : ByteArray) (w : World) (hs : s.size ≤ maxLen) :
    Calls Try.prog 70 #[.string s] w fun e w' => e = .returned (.bool (keyB s)) ∧ w = w' := by
  unfold maxLen at hs
  by_cases h1 : s.size < 1
  · have hb : Hid (keyB s = false) := by show _ = _; simp [keyB]; omega
    go_enter Try.func70, Try.ntmps70
    go_wp2
    go_ret
    exact ⟨ret_bool hb.out.symm, rfl⟩
  by_cases h2 : s.size > 6
  · have hb : Hid (keyB s = false) := by show _ = _; simp [keyB]; omega
    go_enter Try.func70, Try.ntmps70
    go_wp2
    go_ret
    exact ⟨ret_bool hb.out.symm, rfl⟩
  have hk : keyB s = s.data.toList.all okc := by simp [keyB]; omega
  have HK : Hid (keyB s = s.data.toList.all okc) := hk
  clear hk
  go_enter Try.func70, Try.ntmps70
  go_wp2
  go_loop [14] (fun i => ∃ k : Nat, k ≤ s.size ∧ i = .int .i64 k ∧ Hid ((s.data.toList.take k).all okc = true)) (fun i => s.size - (intOf i).toNat)
  case atStart => exact ⟨0, Nat.zero_le _, rfl, rfl⟩
  case round =>
    obtain ⟨k, hk, rfl, HA⟩ := hrel
    by_cases hlt : k < s.size
    · have HS : Hid ((s.data.toList.take (k + 1)).all okc = okc s[k]) := by
        show _ = _
        rw [take_snoc s k hlt, all_snoc, HA.out]; rfl
      go_wp2
      · go_ret
        exact ⟨ret_bool (key_bad s k hlt HK HS (.inr (by omega))).symm, rfl⟩
      · go_round
        case rel => exact ⟨k + 1, by omega, by go_num, key_good s k hlt HS (by omega) (by omega)⟩
        case measure => simp [intOf]; omega
      · go_ret
        exact ⟨ret_bool (key_bad s k hlt HK HS (.inl (by omega))).symm, rfl⟩
    · go_wp2
      go_ret
      exact ⟨ret_bool (by rw [HK.out, ← HA.out, List.take_of_length_le (by simp; omega)]), rfl⟩

theorem keyB_off (s : ByteArray) (h : s.data.toList.all okc = false) : keyB s = false := by simp [keyB, h]

set_option maxHeartbeats 400000 in
theorem refKey_calls (s : ByteArray) (w : World) (hs : s.size ≤ maxLen) :
    Calls Try.prog 15 #[.string s] w fun e w' => e = .returned (.bool (keyB s)) ∧ w = w' := by
  unfold maxLen at hs
  go_enter Try.func15, Try.ntmps15
  go_wp2
  go_loop [6] (fun i => ∃ k : Nat, k ≤ s.size ∧ i = .int .i64 k ∧ Hid ((s.data.toList.take k).all okc = true)) (fun i => s.size - (intOf i).toNat)
  case atStart => exact ⟨0, Nat.zero_le _, rfl, rfl⟩
  case round =>
    obtain ⟨k, hk, rfl, HA⟩ := hrel
    by_cases hlt : k < s.size
    · have HS : Hid ((s.data.toList.take (k + 1)).all okc = okc s[k]) := by
        show _ = _
        rw [take_snoc s k hlt, all_snoc, HA.out]; rfl
      go_wp2
      · go_ret
        exact ⟨ret_bool (keyB_off s (all_take (k := k + 1) (by rw [HS.out]; simp [okc]; omega))).symm, rfl⟩
      · go_round
        case rel => exact ⟨k + 1, by omega, by go_num, key_good s k hlt HS (by omega) (by omega)⟩
        case measure => simp [intOf]; omega
      · go_ret
        exact ⟨ret_bool (keyB_off s (all_take (k := k + 1) (by rw [HS.out]; simp [okc]; omega))).symm, rfl⟩
    · have HF : Hid (s.data.toList.all okc = true) := by
        show _ = _
        rw [← HA.out, List.take_of_length_le (by simp; omega)]
      go_wp2
      all_goals
        go_ret
        exact ⟨ret_bool (by rw [keyB, HF.out, Bool.eq_iff_iff]; simp; omega), rfl⟩

theorem round_calls (n : Int) (w : World)  :
    Calls Try.prog 53 #[.int .i64 n] w fun e w' => e = .returned (.int .i64 (n.tmod 1073741825)) ∧ w = w' := by
  go_enter Try.func53, Try.ntmps53
  go_wp2
  go_ret
  exact ⟨rfl, rfl⟩
theorem ret_int {k : IntKind} {a b : Int} (h : a = b) : Ending.returned (.int k a) = .returned (.int k b) := by rw [h]
theorem tmod_big (n : Int) : -1073741825 < n.tmod 1073741825 ∧ n.tmod 1073741825 < 1073741825 := by
  by_cases h : 0 ≤ n
  · rw [Int.tmod_eq_emod_of_nonneg h]; omega
  · have e : n.tmod 1073741825 = -((-n).tmod 1073741825) := by rw [Int.neg_tmod]; omega
    rw [e, Int.tmod_eq_emod_of_nonneg (by omega)]; omega
theorem round_num (n : Int) : wrap64 (n - wrap64 (wrap64 (n.tdiv 1073741825) * 1073741825)) = n.tmod 1073741825 := by
  have h := Int.mul_tdiv_add_tmod n 1073741825
  have hb := tmod_big n
  generalize n.tdiv 1073741825 = q at *
  generalize n.tmod 1073741825 = r at *
  unfold wrap64
  omega
theorem refRound_calls (n : Int) (w : World) :
    Calls Try.prog 36 #[.int .i64 n] w fun e w' => e = .returned (.int .i64 (n.tmod 1073741825)) ∧ w = w' := by
  go_enter Try.func36, Try.ntmps36
  go_wp2
  go_ret
  exact ⟨ret_int (round_num n), rfl⟩
end Go.Proofs.Ytfchjhdgnibnnab

namespace Go.Proofs.Ytfchjhdgnibnnab
open Go.RowKit

theorem hid {p : Prop} (h : p) : Hid p := h

/-- The two cells of row i, at block b from off on, hold the list's row i. -/
def Cells (w : World) (b off : Nat) (l : List Row) : Prop :=
  ∀ i, i < l.length → w.cell? ⟨b, off + i * 2, none⟩ = some (.string (l.getD i default).1) ∧ w.cell? ⟨b, off + i * 2 + 1, none⟩ = some (.int .i64 (l.getD i default).2)

/-- A slice with this address holds the rows l (of no rows nothing is asked). -/
def Seg (w : World) (base : Option Addr) (l : List Row) : Prop :=
  l = [] ∨ ∃ b off, base = some ⟨b, off, none⟩ ∧ Cells w b off l

/-- Keys' lengths fit. -/
def Small (l : List Row) : Prop := ∀ x ∈ l, x.1.size ≤ maxLen

theorem Cells.lt {w : World} {b off : Nat} {l : List Row} (h : Cells w b off l) (hl : 0 < l.length) : b < w.heap.size := by
  have := (h 0 hl).1
  simpa using World.block_lt_of_cell? _ _ this

theorem Cells.below {w w' : World} {b off B : Nat} {l : List Row} (h : Cells w b off l) (hb : Below B w w') (hB : b < B) : Cells w' b off l := fun i hi => by
  rw [hb.cell (p := ⟨b, off + i * 2, none⟩) hB, hb.cell (p := ⟨b, off + i * 2 + 1, none⟩) hB]
  exact h i hi

theorem Seg.below {w w' : World} {base : Option Addr} {l : List Row} (h : Seg w base l) (hb : Below w.heap.size w w') : Seg w' base l := by
  rcases h with h | ⟨b, off, e, hc⟩
  · exact .inl h
  · by_cases hl : 0 < l.length
    · exact .inr ⟨b, off, e, hc.below hb (hc.lt hl)⟩
    · exact .inl (List.eq_nil_of_length_eq_zero (by omega))

theorem small_getD {l : List Row} (h : Small l) {i : Nat} (hi : i < l.length) : (l.getD i default).1.size ≤ maxLen := h _ (mem_getD hi)

theorem small_ins {k : ByteArray} {n : Int} {l : List Row} (h : Small l) (hk : k.size ≤ maxLen) : Small (ins k n l) := fun x hx => by
  rcases mem_ins hx with rfl | hx
  · exact hk
  · exact h x hx
theorem small_del {k : ByteArray} {l : List Row} (h : Small l) : Small (del k l) := fun x hx => h x (mem_del hx)
end Go.Proofs.Ytfchjhdgnibnnab
