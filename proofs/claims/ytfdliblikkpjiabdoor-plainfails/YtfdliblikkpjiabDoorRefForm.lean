/-
  The document's own table of what instructions have.
  The document's letters of an instruction are the places of its words.
-/
import Derived.Test.YtfdliblikkpjiabDoorGround
import Derived.Test.YtfdliblikkpjiabDoorTextFill
namespace Go.Proofs.YtfdliblikkpjiabDoor
open Go.RowKit

/-- The letters of an instruction of a kind. -/
def form (k : Nat) : ByteArray := match k with
  | 1 => ⟨#[114, 107]⟩
  | 2 => ⟨#[114, 110]⟩
  | 3 => ⟨#[114, 115]⟩
  | 4 => ⟨#[114, 115]⟩
  | 5 => ⟨#[114, 115]⟩
  | 6 => ⟨#[114, 107]⟩
  | 7 => ⟨#[107]⟩
  | 8 => ⟨#[114, 110]⟩
  | 9 => ⟨#[114]⟩
  | _ => ⟨#[]⟩
def letter (k : Nat) (c : Nat) : Bool := (form k).data.toList.any (fun x => decide (x.toNat = c))

set_option maxHeartbeats 4000000 in
theorem form_calls (k : Nat) (w : World) (h1 : 1 ≤ k) (h9 : k ≤ 9) :
    Calls Tryd.prog 34 #[.int .i64 k] w fun e w' => e = .returned (.string (form k)) ∧ Below w.heap.size w w' := by
  have : k = 1 ∨ k = 2 ∨ k = 3 ∨ k = 4 ∨ k = 5 ∨ k = 6 ∨ k = 7 ∨ k = 8 ∨ k = 9 := by omega
  rcases this with rfl | rfl | rfl | rfl | rfl | rfl | rfl | rfl | rfl
  all_goals
    clear h1 h9
    go_enter Tryd.func34, Tryd.ntmps34
    go_wp2
    go_ret
    exact ⟨rfl, (Below.refl _ _).alloc (Nat.le_refl _) _⟩

theorem any_snoc (l : List UInt8) (x : UInt8) (c : Nat) : (l ++ [x]).any (fun x => decide (x.toNat = c)) = (l.any (fun x => decide (x.toNat = c)) || decide (x.toNat = c)) := by simp

set_option maxHeartbeats 1000000 in
theorem refHas_calls (k c : Nat) (w : World) (h1 : 1 ≤ k) (h9 : k ≤ 9) :
    Calls Tryd.prog 20 #[.int .i64 k, .int .u8 c] w fun e w' => e = .returned (.bool (letter k c)) ∧ Below w.heap.size w w' := by
  have HF := hid (form_calls k w h1 h9)
  have hsz : (form k).size ≤ 2 := by
    have : k = 1 ∨ k = 2 ∨ k = 3 ∨ k = 4 ∨ k = 5 ∨ k = 6 ∨ k = 7 ∨ k = 8 ∨ k = 9 := by omega
    rcases this with rfl | rfl | rfl | rfl | rfl | rfl | rfl | rfl | rfl <;> decide
  have HL : Hid (letter k c = (form k).data.toList.any (fun x => decide (x.toNat = c))) := rfl
  generalize form k = s at *
  generalize letter k c = q at *
  clear h1 h9
  go_enter Tryd.func20, Tryd.ntmps20
  go_wp2_with fail
  refine HF.out.mono ?_
  rintro e w1 ⟨rfl, hb⟩
  go_wp2
  go_loop [11] (fun i => ∃ j : Nat, j ≤ s.size ∧ i = .int .i64 j ∧ Hid ((s.data.toList.take j).any (fun x => decide (x.toNat = c)) = false)) (fun i => s.size - (intOf i).toNat)
  case atStart => exact ⟨0, Nat.zero_le _, rfl, rfl⟩
  case round =>
    obtain ⟨j, hj, rfl, HA⟩ := hrel
    by_cases hlt : j < s.size
    · have HS : Hid ((s.data.toList.take (j + 1)).any (fun x => decide (x.toNat = c)) = decide (s[j].toNat = c)) := by
        show _ = _
        rw [take_snoc s j hlt, any_snoc, HA.out]; rfl
      by_cases hc : s[j].toNat = c
      · have t : ((s[j].toNat : Int) == (c : Int)) = true := by simp; omega
        have HQ : Hid (q = true) := by
          show _ = _
          rw [HL.out, ← List.take_append_drop (j + 1) s.data.toList, List.any_append, HS.out]; simp [hc]
        clear hc
        go_wp2
        go_ret
        exact ⟨ret_bool HQ.out.symm, hb⟩
      · have t : ((s[j].toNat : Int) == (c : Int)) = false := by simp; omega
        have HN : Hid ((s.data.toList.take (j + 1)).any (fun x => decide (x.toNat = c)) = false) := by
          show _ = _
          rw [HS.out]; simpa using hc
        clear hc
        go_wp2
        go_round
        case rel => exact ⟨j + 1, by omega, by go_num, HN⟩
        case measure => simp [intOf]; omega
    · go_wp2
      go_ret
      exact ⟨ret_bool (by rw [HL.out, ← HA.out, List.take_of_length_le (by simp; omega)]), hb⟩
theorem letter_r (k : Nat) (h1 : 1 ≤ k) (h9 : k ≤ 9) : letter k 114 = !decide (k = 7) := by
  have : k = 1 ∨ k = 2 ∨ k = 3 ∨ k = 4 ∨ k = 5 ∨ k = 6 ∨ k = 7 ∨ k = 8 ∨ k = 9 := by omega
  rcases this with rfl | rfl | rfl | rfl | rfl | rfl | rfl | rfl | rfl <;> decide
theorem letter_s (k : Nat) (h1 : 1 ≤ k) (h9 : k ≤ 9) : letter k 115 = (decide (k = 3) || decide (k = 4) || decide (k = 5)) := by
  have : k = 1 ∨ k = 2 ∨ k = 3 ∨ k = 4 ∨ k = 5 ∨ k = 6 ∨ k = 7 ∨ k = 8 ∨ k = 9 := by omega
  rcases this with rfl | rfl | rfl | rfl | rfl | rfl | rfl | rfl | rfl <;> decide
theorem letter_k (k : Nat) (h1 : 1 ≤ k) (h9 : k ≤ 9) : letter k 107 = (decide (k = 1) || decide (k = 6) || decide (k = 7)) := by
  have : k = 1 ∨ k = 2 ∨ k = 3 ∨ k = 4 ∨ k = 5 ∨ k = 6 ∨ k = 7 ∨ k = 8 ∨ k = 9 := by omega
  rcases this with rfl | rfl | rfl | rfl | rfl | rfl | rfl | rfl | rfl <;> decide
end Go.Proofs.YtfdliblikkpjiabDoor

namespace Go.Proofs.YtfdliblikkpjiabDoor
open Go.Lib

def placeOf (c : UInt8) : T := if c = 114 then pA else if c = 115 then pB else if c = 110 then pN else pK
theorem places_form {k : Nat} (h1 : 1 ≤ k) (h9 : k ≤ 9) : placesT k = word k :: (keyT (form k)).map placeOf := by
  have : k = 1 ∨ k = 2 ∨ k = 3 ∨ k = 4 ∨ k = 5 ∨ k = 6 ∨ k = 7 ∨ k = 8 ∨ k = 9 := by omega
  rcases this with rfl | rfl | rfl | rfl | rfl | rfl | rfl | rfl | rfl <;> decide
theorem form_letters {k : Nat} (h1 : 1 ≤ k) (h9 : k ≤ 9) : (keyT (form k)).length ≤ 2 ∧ ∀ c ∈ keyT (form k), c = 114 ∨ c = 115 ∨ c = 110 ∨ c = 107 := by
  have : k = 1 ∨ k = 2 ∨ k = 3 ∨ k = 4 ∨ k = 5 ∨ k = 6 ∨ k = 7 ∨ k = 8 ∨ k = 9 := by omega
  rcases this with rfl | rfl | rfl | rfl | rfl | rfl | rfl | rfl | rfl <;> decide
/-- What the words behind the first one are, letter by letter. -/
theorem fill_form {k : Nat} (h1 : 1 ≤ k) (h9 : k ≤ 9) (h : T) (r : List T) : fillR k (h :: r) = if r.length ≠ (keyT (form k)).length then ((2 : Int), ins00) else match fillG ((keyT (form k)).map placeOf) r (ins0 k) with
    | some i => (0, i)
    | none => (2, ins00) := by
  unfold fillR
  rw [places_form h1 h9, fillG, fillStep_word]
  simp only [List.length_cons, List.length_map, Option.bind_some]
  by_cases e : r.length = (keyT (form k)).length
  · rw [if_neg (fun x => x (by rw [e])), if_neg (fun x => x e)]; rfl
  · rw [if_pos (fun x => e (by omega)), if_pos e]; rfl
theorem step_k (w : T) (i : Ins) : fillStep (placeOf 107) w i = some (i.kind, i.a, i.b, i.n, ofT w) := rfl
theorem step_n (w : T) (i : Ins) : fillStep (placeOf 110) w i = (numOf w).map fun x => (i.kind, i.a, i.b, x, i.key) := rfl
theorem step_r (w : T) (i : Ins) : fillStep (placeOf 114) w i = (regOf w).map fun x => (i.kind, x, i.b, i.n, i.key) := rfl
theorem step_s (w : T) (i : Ins) : fillStep (placeOf 115) w i = (regOf w).map fun x => (i.kind, i.a, x, i.n, i.key) := rfl
/-- The kind, of the first j words of all. -/
def kindTo (h : T) (j : Nat) : Nat := if kindOf h < j then kindOf h else 0
theorem kindTo_end (h : T) : kindTo h 10 = kindOf h := by
  unfold kindTo
  rcases kindOf_cases h with h0 | ⟨_, h2, _⟩
  · rw [h0]; rfl
  · rw [if_pos (by omega)]
theorem kindTo_hit {h : T} {j : Nat} (h1 : 1 ≤ j) (h9 : j ≤ 9) (e : h = word j) : kindTo h (j + 1) = j := by
  unfold kindTo; rw [e, kindOf_word j h1 h9, if_pos (by omega)]
theorem kindTo_miss {h : T} {j : Nat} (e : j = 0 ∨ h ≠ word j) : kindTo h (j + 1) = kindTo h j := by
  unfold kindTo
  by_cases hk : kindOf h = j
  · rcases kindOf_cases h with h0 | ⟨h1, _, h3⟩
    · rw [h0]; split <;> split <;> rfl
    · rcases e with rfl | e
      · omega
      · rw [hk] at h3; exact absurd h3 e
  · by_cases hl : kindOf h < j
    · rw [if_pos hl, if_pos (by omega)]
    · rw [if_neg hl, if_neg (by omega)]
end Go.Proofs.YtfdliblikkpjiabDoor
