/-
  The document's own table of what instructions have.
-/
import Derived.Test.YtfdliblikkpjiabDeedAll
namespace Go.Proofs.Ytfdliblikkpjiab
open Go.RowKit

/-- The letters of an instruction of a kind. -/
def form (k : Nat) : ByteArray := match k with
  | 1 => ⟨#[114, 107]⟩
  | 2 => ⟨#[114, 110]⟩
  | 3 => ⟨#[114, 115]⟩
  | 4 => ⟨#[114, 115]⟩
  | 5 => ⟨#[114, 115]⟩
  | 6 => ⟨#[114, 107]⟩
  | 7 => ⟨#[107]⟩
  | 8 => ⟨#[114, 110]⟩
  | 9 => ⟨#[114]⟩
  | _ => ⟨#[]⟩
def letter (k : Nat) (c : Nat) : Bool := (form k).data.toList.any (fun x => decide (x.toNat = c))

set_option maxHeartbeats 4000000 in
theorem form_calls (k : Nat) (w : World) (h1 : 1 ≤ k) (h9 : k ≤ 9) :
    Calls Try.prog 32 #[.int .i64 k] w fun e w' => e = .returned (.string (form k)) ∧ Below w.heap.size w w' := by
  have : k = 1 ∨ k = 2 ∨ k = 3 ∨ k = 4 ∨ k = 5 ∨ k = 6 ∨ k = 7 ∨ k = 8 ∨ k = 9 := by omega
  rcases this with rfl | rfl | rfl | rfl | rfl | rfl | rfl | rfl | rfl
  all_goals
    clear h1 h9
    go_enter Try.func32, Try.ntmps32
    go_wp2
    go_ret
    exact ⟨rfl, (Below.refl _ _).alloc (Nat.le_refl _) _⟩

theorem any_snoc (l : List UInt8) (x : UInt8) (c : Nat) : (l ++ [x]).any (fun x => decide (x.toNat = c)) = (l.any (fun x => decide (x.toNat = c)) || decide (x.toNat = c)) := by simp

set_option maxHeartbeats 1000000 in
theorem refHas_calls (k c : Nat) (w : World) (h1 : 1 ≤ k) (h9 : k ≤ 9) :
    Calls Try.prog 21 #[.int .i64 k, .int .u8 c] w fun e w' => e = .returned (.bool (letter k c)) ∧ Below w.heap.size w w' := by
  have HF := hid (form_calls k w h1 h9)
  have hsz : (form k).size ≤ 2 := by
    have : k = 1 ∨ k = 2 ∨ k = 3 ∨ k = 4 ∨ k = 5 ∨ k = 6 ∨ k = 7 ∨ k = 8 ∨ k = 9 := by omega
    rcases this with rfl | rfl | rfl | rfl | rfl | rfl | rfl | rfl | rfl <;> decide
  have HL : Hid (letter k c = (form k).data.toList.any (fun x => decide (x.toNat = c))) := rfl
  generalize form k = s at *
  generalize letter k c = q at *
  clear h1 h9
  go_enter Try.func21, Try.ntmps21
  go_wp2_with fail
  refine HF.out.mono ?_
  rintro e w1 ⟨rfl, hb⟩
  go_wp2
  go_loop [11] (fun i => ∃ j : Nat, j ≤ s.size ∧ i = .int .i64 j ∧ Hid ((s.data.toList.take j).any (fun x => decide (x.toNat = c)) = false)) (fun i => s.size - (intOf i).toNat)
  case atStart => exact ⟨0, Nat.zero_le _, rfl, rfl⟩
  case round =>
    obtain ⟨j, hj, rfl, HA⟩ := hrel
    by_cases hlt : j < s.size
    · have HS : Hid ((s.data.toList.take (j + 1)).any (fun x => decide (x.toNat = c)) = decide (s[j].toNat = c)) := by
        show _ = _
        rw [take_snoc s j hlt, any_snoc, HA.out]; rfl
      by_cases hc : s[j].toNat = c
      · have t : ((s[j].toNat : Int) == (c : Int)) = true := by simp; omega
        have HQ : Hid (q = true) := by
          show _ = _
          rw [HL.out, ← List.take_append_drop (j + 1) s.data.toList, List.any_append, HS.out]; simp [hc]
        clear hc
        go_wp2
        go_ret
        exact ⟨ret_bool HQ.out.symm, hb⟩
      · have t : ((s[j].toNat : Int) == (c : Int)) = false := by simp; omega
        have HN : Hid ((s.data.toList.take (j + 1)).any (fun x => decide (x.toNat = c)) = false) := by
          show _ = _
          rw [HS.out]; simpa using hc
        clear hc
        go_wp2
        go_round
        case rel => exact ⟨j + 1, by omega, by go_num, HN⟩
        case measure => simp [intOf]; omega
    · go_wp2
      go_ret
      exact ⟨ret_bool (by rw [HL.out, ← HA.out, List.take_of_length_le (by simp; omega)]), hb⟩
theorem letter_r (k : Nat) (h1 : 1 ≤ k) (h9 : k ≤ 9) : letter k 114 = !decide (k = 7) := by
  have : k = 1 ∨ k = 2 ∨ k = 3 ∨ k = 4 ∨ k = 5 ∨ k = 6 ∨ k = 7 ∨ k = 8 ∨ k = 9 := by omega
  rcases this with rfl | rfl | rfl | rfl | rfl | rfl | rfl | rfl | rfl <;> decide
theorem letter_s (k : Nat) (h1 : 1 ≤ k) (h9 : k ≤ 9) : letter k 115 = (decide (k = 3) || decide (k = 4) || decide (k = 5)) := by
  have : k = 1 ∨ k = 2 ∨ k = 3 ∨ k = 4 ∨ k = 5 ∨ k = 6 ∨ k = 7 ∨ k = 8 ∨ k = 9 := by omega
  rcases this with rfl | rfl | rfl | rfl | rfl | rfl | rfl | rfl | rfl <;> decide
theorem letter_k (k : Nat) (h1 : 1 ≤ k) (h9 : k ≤ 9) : letter k 107 = (decide (k = 1) || decide (k = 6) || decide (k = 7)) := by
  have : k = 1 ∨ k = 2 ∨ k = 3 ∨ k = 4 ∨ k = 5 ∨ k = 6 ∨ k = 7 ∨ k = 8 ∨ k = 9 := by omega
  rcases this with rfl | rfl | rfl | rfl | rfl | rfl | rfl | rfl | rfl <;> decide
end Go.Proofs.Ytfdliblikkpjiab
