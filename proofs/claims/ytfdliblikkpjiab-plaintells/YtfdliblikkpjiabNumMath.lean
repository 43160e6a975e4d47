/-
  Plain mathematics of numbers as texts: a number's own text is read as that number.
-/
import Derived.Lib.AtoiAllCases
import Derived.Lib.ItoaMem
import Derived.Test.YtfdliblikkpjiabDeedMath
namespace Go.Proofs.Ytfdliblikkpjiab
open Go.Lib

theorem parse_append : ∀ (l m : List UInt8) (acc : Nat), parseUint10 acc (l ++ m) = match parseUint10 acc l with
    | .ok v => parseUint10 v m
    | .syntax => .syntax
    | .range => .range
  | [], m, acc => by simp [parseUint10]
  | c :: l, m, acc => by
    simp only [List.cons_append, parseUint10]
    split
    · split
      · rfl
      · split
        · rfl
        · exact parse_append l m _
    · rfl
theorem digit_toNat {d : Nat} (h : d < 10) : (UInt8.ofNat (48 + d)).toNat = 48 + d := by
  rw [UInt8.toNat_ofNat']; omega
theorem parse_digit {acc d : Nat} (h : d < 10) (hb : acc * 10 + d < 18446744073709551616) : parseUint10 acc [UInt8.ofNat (48 + d)] = .ok (acc * 10 + d) := by
  simp only [parseUint10]
  rw [digit_toNat h, if_pos (by omega), if_neg (by omega), if_neg (by omega)]
  congr 1; omega
theorem parse_digits : ∀ (u : Nat), u < 18446744073709551616 → parseUint10 0 (decDigits u) = .ok u := by
  intro u
  induction u using Nat.strongRecOn with
  | _ u ih =>
    intro hu
    by_cases h : u < 10
    · rw [decDigits, dif_pos h, parse_digit h (by omega)]; simp
    · rw [decDigits, dif_neg h, parse_append, ih (u / 10) (by omega) (by omega)]
      show parseUint10 (u / 10) _ = _
      rw [parse_digit (by omega) (by omega)]
      congr 1; omega
/-- All signs are digits, and there is one. -/
theorem digits_all : ∀ (u : Nat), ∀ c ∈ decDigits u, 48 ≤ c.toNat ∧ c.toNat ≤ 57 := by
  intro u
  induction u using Nat.strongRecOn with
  | _ u ih =>
    intro c hc
    by_cases h : u < 10
    · rw [decDigits, dif_pos h] at hc
      simp only [List.mem_singleton] at hc
      rw [hc, digit_toNat h]; omega
    · rw [decDigits, dif_neg h] at hc
      rcases List.mem_append.1 hc with hc | hc
      · exact ih (u / 10) (by omega) c hc
      · simp only [List.mem_singleton] at hc
        rw [hc, digit_toNat (by omega)]; omega
theorem digits_ne (u : Nat) : decDigits u ≠ [] := by
  rw [decDigits]; split <;> simp
theorem atoi_itoa (n : Int) (h0 : -9223372036854775808 ≤ n) (h1 : n ≤ 9223372036854775807) : atoiAll (itoa n) = .ok n := by
  by_cases hn : n < 0
  · obtain ⟨u, rfl⟩ : ∃ u : Nat, n = -(u : Int) := ⟨n.natAbs, by omega⟩
    rw [itoa_neg u (by omega), atoiAll_minus]
    unfold parseMag
    rw [if_neg (digits_ne u), parse_digits u (by omega)]
    simp only [signed]
    rw [if_neg (by omega)]
  · obtain ⟨u, rfl⟩ : ∃ u : Nat, n = (u : Int) := ⟨n.toNat, by omega⟩
    rw [itoa_nonneg u]
    cases hd : decDigits u with
    | nil => exact absurd hd (digits_ne u)
    | cons c r =>
      have hc := digits_all u c (by rw [hd]; simp)
      rw [atoiAll_plain c r (by omega) (by omega), ← hd]
      unfold parseMag
      rw [if_neg (digits_ne u), parse_digits u (by omega)]
      simp only [signless]
      rw [if_neg (by omega)]
/-- The number that a text is, if the text is that number's own. -/
def numOf (s : List UInt8) : Option Int := match atoiAll s with
  | .ok n => if itoa n = s then some n else none
  | _ => none
theorem numOf_itoa (n : Int) (h0 : -9223372036854775808 ≤ n) (h1 : n ≤ 9223372036854775807) : numOf (itoa n) = some n := by
  unfold numOf; rw [atoi_itoa n h0 h1]; simp
theorem itoa_numOf {s : List UInt8} {n : Int} (h : numOf s = some n) : s = itoa n := by
  unfold numOf at h
  split at h
  · split at h
    · rename_i e
      simp only [Option.some.injEq] at h
      rw [← e, h]
    · cases h
  · cases h
/-- No blank, and no semicolon. -/
def plainC (c : UInt8) : Bool := c != 32 && c != 59
theorem itoa_plain (n : Int) : ∀ c ∈ itoa n, plainC c = true := by
  intro c hc
  have key : ∀ c : UInt8, 45 ≤ c.toNat ∧ c.toNat ≤ 57 → plainC c = true := fun c h => by
    have h1 : c ≠ 32 := fun e => by rw [e] at h; revert h; decide
    have h2 : c ≠ 59 := fun e => by rw [e] at h; revert h; decide
    simp [plainC, h1, h2]
  unfold itoa at hc
  split at hc
  · rcases List.mem_cons.1 hc with rfl | hc
    · decide
    · have := digits_all _ c hc; exact key c (by omega)
  · have := digits_all _ c hc; exact key c (by omega)
end Go.Proofs.Ytfdliblikkpjiab
