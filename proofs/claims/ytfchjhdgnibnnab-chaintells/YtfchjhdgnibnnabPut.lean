/-
  Put and Drop of the program, of rows that rise.
-/
import Derived.Test.YtfchjhdgnibnnabConcat
namespace Go.Proofs.Ytfchjhdgnibnnab
open Go.RowKit

theorem cells_one (w : World) (k : ByteArray) (m : Int) (t : TypeId) : Cells (w.alloc (.cells #[.string k, .int .i64 m] t)) w.heap.size 0 [(k, m)] := fun i hi => by
  obtain rfl : i = 0 := by simpa using hi
  refine ⟨?_, ?_⟩ <;> (rw [World.cell?_alloc_at _ _ _ _ (by simp)]; rfl)

/-- Of three things the one with number j. -/
def pick3 {α : Type} (a b c : α) : Nat → α
  | 0 => a
  | 1 => b
  | _ => c

theorem below_new (w : World) (o : Obj) : Below w.heap.size w (w.alloc o) := (Below.refl _ _).alloc (Nat.le_refl _) _

theorem concat3 (w1 : World) (b1 b2 : Option Addr) (n1 n2 c1 c2 : Nat) (l1 l2 : List Row) (k : ByteArray) (m : Int) (h1 : Holds w1 b1 n1 c1 l1) (h2 : Holds w1 b2 n2 c2 l2) (hb : (n1 + 1 + n2) * 24 ≤ 140737488355328) :
    Calls Try.prog 67 #[.slice (some ⟨w1.heap.size + 1, 0, none⟩) 3 3] ((w1.alloc (.cells #[.string k, .int .i64 m] 64)).alloc (.cells #[.slice b1 n1 c1, .slice (some ⟨w1.heap.size, 0, none⟩) 1 1, .slice b2 n2 c2] 23))
      fun e w' => ∃ base n c, e = .returned (.slice base n c) ∧ Holds w' base n c (l1 ++ (k, m) :: l2) ∧ Below w1.heap.size w1 w' := by
  obtain ⟨W1, hW1⟩ : ∃ W, W = w1.alloc (.cells #[.string k, .int .i64 m] 64) := ⟨_, rfl⟩
  have hs1 : W1.heap.size = w1.heap.size + 1 := by rw [hW1, World.size_alloc]
  have hx1 : Below w1.heap.size w1 W1 := by rw [hW1]; exact below_new _ _
  have hone : Cells W1 w1.heap.size 0 [(k, m)] := by rw [hW1]; exact cells_one _ _ _ _
  rw [← hW1, ← hs1]
  obtain ⟨W2, hW2⟩ : ∃ W, W = W1.alloc (.cells #[.slice b1 n1 c1, .slice (some ⟨w1.heap.size, 0, none⟩) 1 1, .slice b2 n2 c2] 23) := ⟨_, rfl⟩
  have hx2 : Below W1.heap.size W1 W2 := by rw [hW2]; exact below_new _ _
  have hx12 : Below w1.heap.size w1 W2 := hx1.trans (hx2.mono (by omega))
  have hcell : ∀ j, j < 3 → W2.cell? ⟨W1.heap.size, 0 + j, none⟩ = some (.slice (pick3 b1 (some ⟨w1.heap.size, 0, none⟩) b2 j) (pick3 n1 1 n2 j) (pick3 c1 1 c2 j)) := by
    intro j hj
    rw [hW2]
    match j, hj with
    | 0, _ => rw [World.cell?_alloc_at _ _ _ _ (by simp)]; rfl
    | 1, _ => rw [World.cell?_alloc_at _ _ _ _ (by simp)]; rfl
    | 2, _ => rw [World.cell?_alloc_at _ _ _ _ (by simp)]; rfl
  have hh : ∀ j, j < 3 → Holds W2 (pick3 b1 (some ⟨w1.heap.size, 0, none⟩) b2 j) (pick3 n1 1 n2 j) (pick3 c1 1 c2 j) (pick3 l1 [(k, m)] l2 j) := by
    intro j hj
    match j, hj with
    | 0, _ => exact h1.below hx12
    | 1, _ => exact Holds.cells rfl (hone.below hx2 (by omega)) (Nat.le_refl _) (show 1 ≤ maxLen by unfold maxLen; omega)
    | 2, _ => exact h2.below hx12
  have hcat : cat (pick3 l1 [(k, m)] l2) 3 = l1 ++ (k, m) :: l2 := by simp [cat, pick3]
  have := concat_calls 3 W1.heap.size 0 3 (pick3 b1 (some ⟨w1.heap.size, 0, none⟩) b2) (pick3 n1 1 n2) (pick3 c1 1 c2) (pick3 l1 [(k, m)] l2) W2 (by unfold maxLen; omega) hcell hh
    (by rw [hcat]; simp; have := h1.len; have := h2.len; omega)
  rw [hcat] at this
  rw [← hW2]
  refine this.mono ?_
  rintro e w' ⟨base, n, c, he, hho, hbe⟩
  exact ⟨base, n, c, he, hho, hx12.trans (hbe.mono hx12.size)⟩

theorem concat2 (w1 : World) (b1 b2 : Option Addr) (n1 n2 c1 c2 : Nat) (l1 l2 : List Row) (h1 : Holds w1 b1 n1 c1 l1) (h2 : Holds w1 b2 n2 c2 l2) (hb : (n1 + n2) * 24 ≤ 140737488355328) :
    Calls Try.prog 67 #[.slice (some ⟨w1.heap.size, 0, none⟩) 2 2] (w1.alloc (.cells #[.slice b1 n1 c1, .slice b2 n2 c2] 23))
      fun e w' => ∃ base n c, e = .returned (.slice base n c) ∧ Holds w' base n c (l1 ++ l2) ∧ Below w1.heap.size w1 w' := by
  obtain ⟨W2, hW2⟩ : ∃ W, W = w1.alloc (.cells #[.slice b1 n1 c1, .slice b2 n2 c2] 23) := ⟨_, rfl⟩
  have hx : Below w1.heap.size w1 W2 := by rw [hW2]; exact below_new _ _
  have hcell : ∀ j, j < 2 → W2.cell? ⟨w1.heap.size, 0 + j, none⟩ = some (.slice (pick3 b1 b2 b2 j) (pick3 n1 n2 n2 j) (pick3 c1 c2 c2 j)) := by
    intro j hj
    rw [hW2]
    match j, hj with
    | 0, _ => rw [World.cell?_alloc_at _ _ _ _ (by simp)]; rfl
    | 1, _ => rw [World.cell?_alloc_at _ _ _ _ (by simp)]; rfl
  have hh : ∀ j, j < 2 → Holds W2 (pick3 b1 b2 b2 j) (pick3 n1 n2 n2 j) (pick3 c1 c2 c2 j) (pick3 l1 l2 l2 j) := by
    intro j hj
    match j, hj with
    | 0, _ => exact h1.below hx
    | 1, _ => exact h2.below hx
  have hcat : cat (pick3 l1 l2 l2) 2 = l1 ++ l2 := by simp [cat, pick3]
  have := concat_calls 2 w1.heap.size 0 2 (pick3 b1 b2 b2) (pick3 n1 n2 n2) (pick3 c1 c2 c2) (pick3 l1 l2 l2) W2 (by unfold maxLen; omega) hcell hh
    (by rw [hcat]; simp; have := h1.len; have := h2.len; omega)
  rw [hcat] at this
  rw [← hW2]
  refine this.mono ?_
  rintro e w' ⟨base, n, c, he, hho, hbe⟩
  exact ⟨base, n, c, he, hho, hx.trans (hbe.mono hx.size)⟩

set_option maxHeartbeats 1000000 in
theorem put_calls (l : List Row) (base : Option Addr) (n c : Nat) (k : ByteArray) (m : Int) (w : World) (hn : (n + 1) * 24 ≤ 140737488355328) (hs : Srt l) (ha : Holds w base n c l) :
    Calls Try.prog 55 #[.slice base n c, .string k, .int .i64 m] w fun e w' =>
      ∃ base' n' c', e = .returned (.slice base' n' c') ∧ Holds w' base' n' c' (ins k m l) ∧ Below w.heap.size w w' := by
  have HA := hid (around_calls l base n c k w (by omega) hs ha)
  have HL := hid ha.len
  clear ha hs
  go_enter Try.func55, Try.ntmps55
  go_wp2_with fail
  refine HA.out.mono ?_
  rintro e w1 ⟨b1, b2, n1, n2, c1, c2, rfl, h1, h2, hb⟩
  have HC := hid (concat3 w1 b1 b2 n1 n2 c1 c2 _ _ k m h1 h2 (by
    have e1 := h1.len
    have e2 := h2.len
    have e3 := HL.out
    simp only [List.length_take, List.length_drop] at e1 e2
    omega))
  rw [← ins_cut] at HC
  clear h1 h2
  go_wp2_with fail
  refine HC.out.mono ?_
  rintro e w2 ⟨base', n', c', rfl, hh, hb2⟩
  go_wp2
  go_ret
  exact ⟨_, _, _, rfl, hh, hb.trans (hb2.mono hb.size)⟩

set_option maxHeartbeats 1000000 in
theorem drop_calls (l : List Row) (base : Option Addr) (n c : Nat) (k : ByteArray) (w : World) (hn : n * 24 ≤ 140737488355328) (hs : Srt l) (ha : Holds w base n c l) :
    Calls Try.prog 56 #[.slice base n c, .string k] w fun e w' =>
      ∃ base' n' c', e = .returned (.slice base' n' c') ∧ Holds w' base' n' c' (del k l) ∧ Below w.heap.size w w' := by
  have HA := hid (around_calls l base n c k w (by omega) hs ha)
  have HL := hid ha.len
  clear ha hs
  go_enter Try.func56, Try.ntmps56
  go_wp2_with fail
  refine HA.out.mono ?_
  rintro e w1 ⟨b1, b2, n1, n2, c1, c2, rfl, h1, h2, hb⟩
  have HC := hid (concat2 w1 b1 b2 n1 n2 c1 c2 _ _ h1 h2 (by
    have e1 := h1.len
    have e2 := h2.len
    have e3 := HL.out
    simp only [List.length_take, List.length_drop] at e1 e2
    omega))
  rw [← del_cut] at HC
  clear h1 h2
  go_wp2_with fail
  refine HC.out.mono ?_
  rintro e w2 ⟨base', n', c', rfl, hh, hb2⟩
  go_wp2
  go_ret
  exact ⟨_, _, _, rfl, hh, hb.trans (hb2.mono hb.size)⟩
end Go.Proofs.Ytfchjhdgnibnnab
