/-
  What the program finds wrong with a deed.
-/
import Derived.Test.YtfchjhdgnibnnabDeedKeys
namespace Go.Proofs.Ytfchjhdgnibnnab
open Go.RowKit

/-- An instruction's cells. -/
def insVal (i : Ins) : List Value := [.int .i64 i.kind, .int .i64 i.a, .int .i64 i.b, .int .i64 i.n, .string i.key]
def insCells : List Ins → List Value
  | [] => []
  | i :: l => insVal i ++ insCells l
theorem insCells_length : ∀ l, (insCells l).length = l.length * 5
  | [] => rfl
  | i :: l => by simp [insCells, insVal, insCells_length l]; omega
theorem insCells_one : ∀ l, ∀ u ∈ insCells l, u.oneCell' = true
  | [], _, h => by cases h
  | i :: l, u, h => by
    simp only [insCells, insVal, List.cons_append, List.nil_append, List.mem_cons] at h
    rcases h with rfl | rfl | rfl | rfl | rfl | h
    · rfl
    · rfl
    · rfl
    · rfl
    · rfl
    · exact insCells_one l u h
theorem insCells_at : ∀ (l : List Ins) (k : Nat), k < l.length → ∀ j u, (insVal (l.getD k default))[j]? = some u → (insCells l)[k * 5 + j]? = some u
  | [], k, h => absurd h (Nat.not_lt_zero _)
  | x :: l, 0, _ => fun j u hu => by
    rw [insCells, List.getElem?_append_left]
    · simpa using hu
    · simpa using (List.getElem?_eq_some_iff.1 hu).1
  | x :: l, k + 1, h => fun j u hu => by
    have := insCells_at l k (by simpa using h) j u (by simpa using hu)
    rw [insCells, List.getElem?_append_right (by simp [insVal]; omega)]
    simp only [insVal, List.length_cons, List.length_nil]
    rw [show (k + 1) * 5 + j - (0 + 1 + 1 + 1 + 1 + 1) = k * 5 + j from by omega]
    exact this
abbrev Codes (w : World) (base : Option Addr) (n c : Nat) (l : List Ins) : Prop := Lies w 5 base n c (insCells l)
theorem Codes.count {w : World} {base : Option Addr} {n c : Nat} {l : List Ins} (h : Codes w base n c l) : n = l.length := by have := h.len; rw [insCells_length] at this; omega
theorem Codes.cells {w : World} {b o : Nat} {l : List Ins} (h : Run w b o (insCells l)) {k : Nat} (hk : k < l.length) :
    w.cell? ⟨b, o + k * 5, none⟩ = some (.int .i64 (l.getD k default).kind) ∧ w.cell? ⟨b, o + k * 5 + 1, none⟩ = some (.int .i64 (l.getD k default).a) ∧ w.cell? ⟨b, o + k * 5 + 2, none⟩ = some (.int .i64 (l.getD k default).b) ∧
    w.cell? ⟨b, o + k * 5 + 3, none⟩ = some (.int .i64 (l.getD k default).n) ∧ w.cell? ⟨b, o + k * 5 + 4, none⟩ = some (.string (l.getD k default).key) :=
  ⟨h _ _ (insCells_at l k hk 0 _ rfl), h _ _ (insCells_at l k hk 1 _ rfl), h _ _ (insCells_at l k hk 2 _ rfl), h _ _ (insCells_at l k hk 3 _ rfl), h _ _ (insCells_at l k hk 4 _ rfl)⟩

theorem registerFits_calls (n : Int) (h : Bool) (w : World) :
    Calls Try.prog 78 #[.int .i64 n, .bool h] w fun e w' => e = .returned (.bool (regFit n h)) ∧ w = w' := by
  cases h with
  | false =>
    go_enter Try.func78, Try.ntmps78
    go_wp2
    go_ret
    exact ⟨ret_bool (by simp [regFit]; rfl), rfl⟩
  | true =>
    go_enter Try.func78, Try.ntmps78
    go_wp2
    all_goals
      go_ret
      exact ⟨ret_bool (by simp [regFit]; omega), rfl⟩

theorem dec_true {a b : Int} (h : a = b) : (a == b) = true := by simp [h]
theorem dec_false {a b : Int} (h : a ≠ b) : (a == b) = false := by simp [h]

set_option maxHeartbeats 1000000 in
theorem registersFit_calls (k a b n : Int) (s : ByteArray) (w : World) :
    Calls Try.prog 72 #[.agg #[.int .i64 k, .int .i64 a, .int .i64 b, .int .i64 n, .string s]] w fun e w' => e = .returned (.bool (regsFit (k, a, b, n, s))) ∧ Below w.heap.size w w' := by
  have main : ∀ (q7 x3 x4 x5 : Bool), (k != 7) = q7 → (k == 3) = x3 → (k == 4) = x4 → (k == 5) = x5 → Calls Try.prog 72 #[.agg #[.int .i64 k, .int .i64 a, .int .i64 b, .int .i64 n, .string s]] w fun e w' => e = .returned (.bool (regFit a q7 && regFit b (x3 || x4 || x5))) ∧ Below w.heap.size w w' := by
    intro q7 x3 x4 x5 h7 h3 h4 h5
    have HA := hid (fun W => registerFits_calls a q7 W)
    have HB := hid (fun W => registerFits_calls b (x3 || x4 || x5) W)
    generalize regFit a q7 = fa at *
    generalize regFit b (x3 || x4 || x5) = fb at *
    cases x3 <;> cases x4 <;> cases x5
    all_goals
      simp only [Bool.or_true, Bool.or_false] at HB
      go_enter Try.func72, Try.ntmps72
      go_wp2_with fail
      refine (HA.out _).mono ?_
      rintro e w' ⟨rfl, rfl⟩
      cases fa with
      | false =>
        go_wp2
        go_ret
        exact ⟨rfl, (Below.refl _ _).alloc (Nat.le_refl _) _⟩
      | true =>
        go_wp2_with fail
        refine (HB.out _).mono ?_
        rintro e w' ⟨rfl, rfl⟩
        go_wp2
        go_ret
        exact ⟨rfl, (Below.refl _ _).alloc (Nat.le_refl _) _⟩
  have hr : regsFit (k, a, b, n, s) = (regFit a (k != 7) && regFit b ((k == 3) || (k == 4) || (k == 5))) := rfl
  rw [hr]
  exact main _ _ _ _ rfl rfl rfl rfl

set_option maxHeartbeats 1000000 in
theorem numberFits_calls (k a b n behind : Int) (s : ByteArray) (w : World) :
    Calls Try.prog 73 #[.agg #[.int .i64 k, .int .i64 a, .int .i64 b, .int .i64 n, .string s], .int .i64 behind] w fun e w' => e = .returned (.bool (numFit (k, a, b, n, s) behind)) ∧ Below w.heap.size w w' := by
  by_cases h2 : k = 2
  · subst h2
    go_enter Try.func73, Try.ntmps73
    go_wp2
    all_goals
      go_ret
      exact ⟨ret_bool (by simp [numFit, Ins.n, Ins.kind]; omega), (Below.refl _ _).alloc (Nat.le_refl _) _⟩
  by_cases h8 : k = 8
  · subst h8
    go_enter Try.func73, Try.ntmps73
    go_wp2
    all_goals
      go_ret
      exact ⟨ret_bool (by simp [numFit, Ins.n, Ins.kind]; omega), (Below.refl _ _).alloc (Nat.le_refl _) _⟩
  · have e2 := dec_false h2
    have e8 := dec_false h8
    have HF : Hid (numFit (k, a, b, n, s) behind = (n == 0)) := by show _ = _; simp [numFit, Ins.n, Ins.kind, h2, h8]; rfl
    clear h2 h8
    go_enter Try.func73, Try.ntmps73
    go_wp2
    all_goals
      go_ret
      exact ⟨ret_bool HF.out.symm, (Below.refl _ _).alloc (Nat.le_refl _) _⟩
end Go.Proofs.Ytfchjhdgnibnnab
