/-
  What the program finds wrong with a deed.
-/
import Derived.Test.YtfchjhdgnibnnacDeedKeys
namespace Go.Proofs.Ytfchjhdgnibnnac
open Go.RowKit

/-- An instruction's cells. -/
def insVal (i : Ins) : List Value := [.int .i64 i.kind, .int .i64 i.a, .int .i64 i.b, .int .i64 i.n, .string i.key]
def insCells : List Ins → List Value
  | [] => []
  | i :: l => insVal i ++ insCells l
theorem insCells_length : ∀ l, (insCells l).length = l.length * 5
  | [] => rfl
  | i :: l => by simp [insCells, insVal, insCells_length l]; omega
theorem insCells_one : ∀ l, ∀ u ∈ insCells l, u.oneCell' = true
  | [], _, h => by cases h
  | i :: l, u, h => by
    simp only [insCells, insVal, List.cons_append, List.nil_append, List.mem_cons] at h
    rcases h with rfl | rfl | rfl | rfl | rfl | h
    · rfl
    · rfl
    · rfl
    · rfl
    · rfl
    · exact insCells_one l u h
theorem insCells_at : ∀ (l : List Ins) (k : Nat), k < l.length → ∀ j u, (insVal (l.getD k default))[j]? = some u → (insCells l)[k * 5 + j]? = some u
  | [], k, h => absurd h (Nat.not_lt_zero _)
  | x :: l, 0, _ => fun j u hu => by
    rw [insCells, List.getElem?_append_left]
    · simpa using hu
    · simpa using (List.getElem?_eq_some_iff.1 hu).1
  | x :: l, k + 1, h => fun j u hu => by
    have := insCells_at l k (by simpa using h) j u (by simpa using hu)
    rw [insCells, List.getElem?_append_right (by simp [insVal]; omega)]
    simp only [insVal, List.length_cons, List.length_nil]
    rw [show (k + 1) * 5 + j - (0 + 1 + 1 + 1 + 1 + 1) = k * 5 + j from by omega]
    exact this
abbrev Codes (w : World) (base : Option Addr) (n c : Nat) (l : List Ins) : Prop := Lies w 5 base n c (insCells l)
theorem Codes.count {w : World} {base : Option Addr} {n c : Nat} {l : List Ins} (h : Codes w base n c l) : n = l.length := by have := h.len; rw [insCells_length] at this; omega
theorem Codes.cells {w : World} {b o : Nat} {l : List Ins} (h : Run w b o (insCells l)) {k : Nat} (hk : k < l.length) :
    w.cell? ⟨b, o + k * 5, none⟩ = some (.int .i64 (l.getD k default).kind) ∧ w.cell? ⟨b, o + k * 5 + 1, none⟩ = some (.int .i64 (l.getD k default).a) ∧ w.cell? ⟨b, o + k * 5 + 2, none⟩ = some (.int .i64 (l.getD k default).b) ∧
    w.cell? ⟨b, o + k * 5 + 3, none⟩ = some (.int .i64 (l.getD k default).n) ∧ w.cell? ⟨b, o + k * 5 + 4, none⟩ = some (.string (l.getD k default).key) :=
  ⟨h _ _ (insCells_at l k hk 0 _ rfl), h _ _ (insCells_at l k hk 1 _ rfl), h _ _ (insCells_at l k hk 2 _ rfl), h _ _ (insCells_at l k hk 3 _ rfl), h _ _ (insCells_at l k hk 4 _ rfl)⟩

theorem dec_true {a b : Int} (h : a = b) : (a == b) = true := by simp [h]
theorem dec_false {a b : Int} (h : a ≠ b) : (a == b) = false := by simp [h]

end Go.Proofs.Ytfchjhdgnibnnac
