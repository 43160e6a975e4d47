/-
  What a row that grows does not touch: slices that lie elsewhere, by where they are or by what they are of; and values of one kind laid one behind the other.
-/
import Derived.Test.YtfchjhdgnibnnabLies
namespace Go.Proofs.Ytfchjhdgnibnnab
open Go.RowKit

/-- Where a slice lies: ahead of B, or in memory of its own elements' type. -/
def Spot (w : World) (B : Nat) (t : TypeId) (base : Option Addr) (n : Nat) : Prop := n = 0 ∨ (∀ a, base = some a → a.block < B) ∨ Kind w t base
theorem Spot.below {w w' : World} {B : Nat} {t : TypeId} {base : Option Addr} {n : Nat} (h : Spot w B t base n) (hb : Below w.heap.size w w') : Spot w' B t base n := h.imp id (fun h => h.imp id (fun k => k.below hb))
theorem own_apart {w : World} {B e t sz n b : Nat} {v : Value} {xs : List Value} (ho : w.ownsRow B e sz v n xs) (hb : b < B ∨ ∃ cur z, w.heap[b]? = some (.cells cur t z)) (hne : t ≠ e) : some b ≠ v.ownBlock := fun he => by
  rcases ho.2 with ⟨rfl, _⟩ | ⟨g, cap, cur, rfl, hB, hg, _⟩
  · simp [Value.ownBlock] at he
  · simp [Value.ownBlock] at he
    subst he
    rcases hb with hb | ⟨cur', z', hc⟩
    · omega
    · rw [hg] at hc
      simp at hc
      exact hne hc.2.1.symm
/-- Rows that are no part of a row that grows. -/
theorem Holds.grown {w w' : World} {B e sz n : Nat} {v : Value} {xs : List Value} {nb : Option Addr} {nn nc : Nat} {L : List Row} (h : Holds w nb nn nc L) (hs : Spot w B 64 nb nn) (ho : w.ownsRow B e sz v n xs) (hne : 64 ≠ e) (hg : w.grownBy w' v.ownBlock) : Holds w' nb nn nc L ∧ Spot w' B 64 nb nn := by
  by_cases h0 : nn = 0
  · exact ⟨Holds.empty w' h.len h0 h.hdr, .inl h0⟩
  rcases hs with hs | hs
  · exact absurd hs h0
  rcases h.seg with h1 | ⟨bl, o, rfl, hc⟩
  · have := h.len; rw [h1] at this; exact absurd this h0
  have hL : 0 < L.length := by have := h.len; omega
  have hlt := hc.lt hL
  have hap : some bl ≠ v.ownBlock := own_apart (t := 64) ho (hs.imp (fun h => h _ rfl) (fun k => k _ rfl)) hne
  have hbl := hg.block bl hlt hap
  refine ⟨⟨h.len, .inr ⟨bl, o, rfl, fun i hi => ?_⟩, h.hdr⟩, .inr (hs.imp id (fun k a e => ?_))⟩
  · rw [World.cell?_of_block (w := w) (a := ⟨bl, o + i * 2, none⟩) hbl, World.cell?_of_block (w := w) (a := ⟨bl, o + i * 2 + 1, none⟩) hbl]
    exact hc i hi
  · obtain ⟨cur, z, hk⟩ := k a e
    have : a.block = bl := by cases e; rfl
    exact ⟨cur, z, by rw [this, hbl, ← this]; exact hk⟩
/-- Slices, of whatever elements, that are no part of a row that grows. -/
theorem Lies.grown {w w' : World} {B e sz n t s : Nat} {v : Value} {xs vs : List Value} {nb : Option Addr} {nn nc : Nat} (hs0 : 0 < s) (h : Lies w s nb nn nc vs) (hs : Spot w B t nb nn) (ho : w.ownsRow B e sz v n xs) (hne : t ≠ e) (hg : w.grownBy w' v.ownBlock) : Lies w' s nb nn nc vs ∧ Spot w' B t nb nn := by
  by_cases h0 : nn = 0
  · exact ⟨⟨h.len, h.hdr, .inl h0⟩, .inl h0⟩
  rcases hs with hs | hs
  · exact absurd hs h0
  rcases h.run with h1 | ⟨bl, o, rfl, hc⟩
  · exact absurd h1 h0
  have hlt := hc.lt (by rw [h.len]; exact Nat.mul_pos (by omega) hs0)
  have hap : some bl ≠ v.ownBlock := own_apart (t := t) ho (hs.imp (fun h => h _ rfl) (fun k => k _ rfl)) hne
  have hbl := hg.block bl hlt hap
  refine ⟨⟨h.len, h.hdr, .inr ⟨bl, o, rfl, fun j u hu => ?_⟩⟩, .inr (hs.imp id (fun k a e => ?_))⟩
  · rw [World.cell?_of_block (w := w) (a := ⟨bl, o + j, Option.none⟩) hbl]
    exact hc j u hu
  · obtain ⟨cur, z, hk⟩ := k a e
    have : a.block = bl := by cases e; rfl
    exact ⟨cur, z, by rw [this, hbl, ← this]; exact hk⟩
/-- What lies there lies in old memory. -/
theorem Lies.spot {w : World} {s t : Nat} {nb : Option Addr} {nn nc : Nat} {vs : List Value} (hs0 : 0 < s) (h : Lies w s nb nn nc vs) : Spot w w.heap.size t nb nn := by
  rcases h.run with h1 | ⟨bl, o, rfl, hc⟩
  · exact .inl h1
  · by_cases h0 : nn = 0
    · exact .inl h0
    · exact .inr (.inl fun a e => by cases e; exact hc.lt (by rw [h.len]; exact Nat.mul_pos (by omega) hs0))
theorem Lies.kind {w : World} {B e sz n : Nat} {base : Option Addr} {c : Nat} {vs : List Value} (h : w.ownsRow B e sz (.slice base n c) n vs) (B' : Nat) : Spot w B' e base n := .inr (.inr (Kind.owned h))

/-! ### Values of one kind, one behind the other -/
def flat {α : Type} (f : α → List Value) (l : List α) : List Value := l.flatMap f
theorem flat_nil {α : Type} (f : α → List Value) : flat f [] = [] := rfl
theorem flat_cons {α : Type} (f : α → List Value) (x : α) (l : List α) : flat f (x :: l) = f x ++ flat f l := by simp [flat]
theorem flat_append {α : Type} (f : α → List Value) (l m : List α) : flat f (l ++ m) = flat f l ++ flat f m := by simp [flat]
theorem flat_snoc {α : Type} (f : α → List Value) (l : List α) (x : α) : flat f (l ++ [x]) = flat f l ++ f x := by simp [flat]
theorem flat_length {α : Type} {f : α → List Value} {k : Nat} (hk : ∀ x, (f x).length = k) : ∀ l : List α, (flat f l).length = l.length * k
  | [] => by simp [flat]
  | x :: l => by rw [flat_cons, List.length_append, hk, flat_length hk l, List.length_cons, Nat.add_mul, Nat.one_mul, Nat.add_comm]
theorem flat_one {α : Type} {f : α → List Value} (h : ∀ x, ∀ u ∈ f x, u.oneCell' = true) (l : List α) : ∀ u ∈ flat f l, u.oneCell' = true := fun u hu => by
  obtain ⟨x, _, hx⟩ := List.mem_flatMap.1 hu
  exact h x u hx
theorem flat_at {α : Type} [Inhabited α] {f : α → List Value} {k : Nat} (hk : ∀ x, (f x).length = k) : ∀ (l : List α) (i : Nat), i < l.length → ∀ j u, (f (l.getD i default))[j]? = some u → (flat f l)[i * k + j]? = some u
  | [], i, h => absurd h (Nat.not_lt_zero _)
  | x :: l, 0, _ => fun j u hu => by
    rw [flat_cons, Nat.zero_mul, Nat.zero_add, List.getElem?_append_left]
    · simpa using hu
    · simpa using (List.getElem?_eq_some_iff.1 hu).1
  | x :: l, i + 1, h => fun j u hu => by
    have := flat_at hk l i (by simpa using h) j u (by simpa using hu)
    have e : (i + 1) * k + j = k + (i * k + j) := by rw [Nat.add_mul, Nat.one_mul]; omega
    rw [flat_cons, e, List.getElem?_append_right (by rw [hk]; omega), hk, Nat.add_sub_cancel_left]
    exact this
theorem Lies.count {α : Type} {f : α → List Value} {k : Nat} (hk : ∀ x, (f x).length = k) (h0 : 0 < k) {w : World} {base : Option Addr} {n c : Nat} {l : List α} (h : Lies w k base n c (flat f l)) : n = l.length := by
  have := h.len
  rw [flat_length hk] at this
  exact (Nat.eq_of_mul_eq_mul_right h0 this).symm
theorem Run.at_ {α : Type} [Inhabited α] {f : α → List Value} {k : Nat} (hk : ∀ x, (f x).length = k) {w : World} {b o : Nat} {l : List α} (h : Run w b o (flat f l)) {i : Nat} (hi : i < l.length) {j : Nat} {u : Value} (hu : (f (l.getD i default))[j]? = some u) : w.cell? ⟨b, o + i * k + j, none⟩ = some u := by
  rw [Nat.add_assoc]; exact h _ u (flat_at hk l i hi j u hu)
end Go.Proofs.Ytfchjhdgnibnnab
