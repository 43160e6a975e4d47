/-
  Plain mathematics of engines: what is old forgotten, what keys have when, and that all is done at last.
-/
import Derived.Test.YtdnafpenljdinadEngGo
import Derived.Test.YtdnafpenljdinadChainFind
namespace Go.Proofs.Ytdnafpenljdinad
open Go.RowKit

/-! ### Without what is old -/
theorem getLastD_append {α : Type} (a b : List α) (o : α) : (a ++ b).getLastD o = b.getLastD (a.getLastD o) := by
  rw [List.getLastD_eq_getLast?, List.getLastD_eq_getLast?, List.getLastD_eq_getLast?, List.getLast?_append]
  cases b.getLast? <;> rfl
theorem clearV_split {by_ : Int} : ∀ (A B : List Ver), (∀ v ∈ A, v.by_ < by_) → (∀ v ∈ B, by_ ≤ v.by_) → (∀ v ∈ A, v.made = true) → clearV by_ (A ++ B) = (if (A.getLastD ver0).has_ = true then [A.getLastD ver0] else []) ++ B
  | [], B, _, hB, _ => by
    show clearV by_ B = (if ver0.has_ = true then _ else []) ++ B
    rw [clearV_high hB]; rfl
  | [v], B, hA, hB, hm => by
    have hv : decide (v.by_ < by_) = true := by simpa using hA v (by simp)
    have hl : laterV by_ B = false := by
      cases B with
      | nil => rfl
      | cons u B => have := hB u (by simp); simpa [laterV] using this
    have hmv := hm v (by simp)
    show clearV by_ (v :: B) = (if v.has_ = true then [v] else []) ++ B
    rw [clearV, hv, hl, hmv, clearV_high hB]
    cases v.has_ <;> simp
  | v :: u :: A, B, hA, hB, hm => by
    have hv : decide (v.by_ < by_) = true := by simpa using hA v (by simp)
    have hl : laterV by_ (u :: A ++ B) = true := by simpa [laterV] using hA u (by simp)
    have ih := clearV_split (u :: A) B (fun x hx => hA x (by simp at hx ⊢; exact .inr hx)) hB (fun x hx => hm x (by simp at hx ⊢; exact .inr hx))
    show clearV by_ (v :: (u :: A ++ B)) = _
    rw [clearV, if_pos (by rw [hv, hl]; rfl), ih]
    rfl
def clearE (e : Eng) (n : Nat) : Eng := ⟨clearC (e.base + n) e.chains, e.deeds.drop n, e.state.drop n, e.ends.drop n, e.base + n⟩
theorem seenV_by {r0 : List Row} {D : List Deed3} {m : Nat} {dn : Nat → Bool} {b : ByteArray → Int} (hlo : ∀ k, -1 ≤ b k) (hhi : ∀ k, b k < m) (k : ByteArray) (n : Nat) : -1 ≤ (seenV r0 D dn b k m n).by_ ∧ (seenV r0 D dn b k m n).by_ < ((m + n : Nat) : Int) := by
  have h1 : ∀ o : Ver, (-1 ≤ o.by_ ∧ o.by_ < ((m + n : Nat) : Int)) → -1 ≤ ((newsV r0 D dn k m n).getLastD o).by_ ∧ ((newsV r0 D dn k m n).getLastD o).by_ < ((m + n : Nat) : Int) := fun o ho => by
    rw [List.getLastD_eq_getLast?]
    cases h : (newsV r0 D dn k m n).getLast? with
    | none => exact ho
    | some v =>
      obtain ⟨i, _, h2, rfl, _⟩ := newsV_by (List.mem_of_getLast? h)
      simp only [Option.getD_some]
      rw [verI_by]; omega
  unfold seenV
  refine h1 _ ?_
  unfold oldV
  split
  · have := hlo k; have := hhi k
    show -1 ≤ b k ∧ b k < _
    omega
  · show -1 ≤ (-1 : Int) ∧ (-1 : Int) < _
    omega
theorem Good.clear {r0 : List Row} {D : List Deed3} {m : Nat} {dn : Nat → Bool} {b : ByteArray → Int} {e : Eng} (G : Good r0 D m dn b e) {n : Nat} (hn : m + n ≤ D.length) (hd : ∀ i, m ≤ i → i < m + n → dn i = true) : Good r0 D (m + n) dn (fun k => (seenV r0 D dn b k m n).by_) (clearE e n) := by
  have hlen : D.length - m = n + (D.length - (m + n)) := by omega
  refine ⟨G.rows, G.right, hn, G.fresh, by show e.base + (n : Int) = _; rw [G.base]; omega, ?_, ?_, ?_, clearC_srt G.srt, fun c hc => ?_, fun k => ?_, fun k => (seenV_by G.lo G.hi k n).1, fun k => (seenV_by G.lo G.hi k n).2⟩
  · show e.deeds.drop n = _
    rw [G.deeds, List.drop_drop]
  · show e.state.drop n = _
    rw [G.state, ← List.map_drop, List.drop_range', Nat.mul_one]
    congr 2
    omega
  · show e.ends.drop n = _
    rw [G.ends, ← List.map_drop, List.drop_range', Nat.mul_one]
    congr 2
    omega
  · obtain ⟨_, _, _, _, h⟩ := clearC_mem hc; exact h
  · show vsOf k (clearC (e.base + (n : Int)) e.chains) = _
    rw [G.at_, vsOf_clear G.srt, G.vs k, hlen, newsV_append, ← List.append_assoc]
    rw [clearV_split]
    · rw [getLastD_append]
      show (if (seenV r0 D dn b k m n).has_ = true then [seenV r0 D dn b k m n] else []) ++ _ = _
      have hs := seen_is (b := b) (dn := dn) (m := m) G.rows G.right k n hn
      have hm : (seenV r0 D dn b k m n).made = true := by
        cases h : (seenV r0 D dn b k m n).made with
        | true => rfl
        | false =>
          obtain ⟨i, h1, h2, _, h3, _⟩ := hs.no h
          rw [hd i h1 h2] at h3; cases h3
      obtain ⟨e1, e2⟩ := hs.yes hm
      congr 1
      unfold oldV
      rw [e1]
      cases hi : isAt k (seqR r0 D (m + n)) with
      | true =>
        rw [if_pos rfl, if_pos rfl]
        rw [hi] at e1
        congr 1
        exact Prod.ext rfl (Prod.ext hm (Prod.ext e1 e2))
      | false => rfl
    · intro v hv
      rcases List.mem_append.1 hv with h | h
      · unfold oldV at h
        split at h
        · simp at h
          rw [h]
          have := G.hi k
          show b k < _
          omega
        · cases h
      · obtain ⟨i, _, h2, rfl, _⟩ := newsV_by h
        rw [verI_by]; omega
    · intro v hv
      obtain ⟨i, h1, _, rfl, _⟩ := newsV_by hv
      rw [verI_by]; omega
    · intro v hv
      rcases List.mem_append.1 hv with h | h
      · unfold oldV at h
        split at h
        · simp at h; rw [h]
        · cases h
      · obtain ⟨i, h1, h2, rfl, _⟩ := newsV_by h
        unfold verI
        rw [if_pos (hd i h1 h2)]

/-! ### What keys have when -/
def hasKey (L : List Chn) (k : ByteArray) : Bool := L.any (fun c => decide (c.1 = k))
structure RowsIs (L0 : List Chn) (at_ : Int) (L : List Chn) (r : List Row) : Prop where
  srt : Srt r
  keys : ∀ x ∈ r, ∃ c ∈ L, x.1 = c.1
  is : ∀ k, isAt k r = (hasKey L k && (before L0 k at_).has_)
  n : ∀ k, num k r = if (hasKey L k && (before L0 k at_).has_) = true then (before L0 k at_).n else 0
theorem rowsGo_is (L0 : List Chn) (at_ : Int) : ∀ (L : List Chn), SrtC L → (∀ c ∈ L, (before L0 c.1 at_).made = true) → ∃ r, rowsGo L0 at_ L = some r ∧ RowsIs L0 at_ L r
  | [], _, _ => ⟨[], rfl, List.Pairwise.nil, (fun _ h => by cases h), fun k => rfl, fun k => rfl⟩
  | c :: L, hs, hm => by
    obtain ⟨h1, h2⟩ := srtC_cons.1 hs
    obtain ⟨r, e, i⟩ := rowsGo_is L0 at_ L h2 (fun x hx => hm x (by simp [hx]))
    have hfr : ∀ y ∈ r, less c.1 y.1 = true := fun y hy => by
      obtain ⟨c', hc', e'⟩ := i.keys y hy
      rw [e']; exact h1 c' hc'
    have hno : hasKey L c.1 = false := by
      unfold hasKey
      rw [List.any_eq_false]
      intro x hx he
      exact less_ne (h1 x hx) (of_decide_eq_true he).symm
    have hhk : ∀ k, hasKey (c :: L) k = (decide (c.1 = k) || hasKey L k) := fun k => by simp [hasKey]
    rw [rowsGo, if_pos (hm c (by simp)), e]
    refine ⟨_, rfl, ?_⟩
    cases hh : (before L0 c.1 at_).has_ with
    | true =>
      simp only [if_true]
      refine ⟨srt_cons.2 ⟨hfr, i.srt⟩, fun x hx => ?_, fun k => ?_, fun k => ?_⟩
      · rcases List.mem_cons.1 hx with rfl | hx
        · exact ⟨c, by simp, rfl⟩
        · obtain ⟨c', hc', e'⟩ := i.keys x hx
          exact ⟨c', by simp [hc'], e'⟩
      · rw [isAt, hhk]
        rcases less_cases c.1 k with g | g | g
        · simp only [g, if_true, i.is k, decide_eq_false (less_ne g), Bool.false_or]
        · subst g
          simp [less_irrefl, hh]
        · have hk : hasKey L k = false := by
            unfold hasKey
            rw [List.any_eq_false]
            intro x hx he
            exact less_ne (less_trans g (h1 x hx)) (of_decide_eq_true he).symm
          simp [g, less_asymm g, hk, decide_eq_false (fun e : c.1 = k => less_ne g e.symm)]
      · rw [num, hhk]
        rcases less_cases c.1 k with g | g | g
        · simp only [g, if_true, i.n k, decide_eq_false (less_ne g), Bool.false_or]
        · subst g
          simp [less_irrefl, hh]
        · have hk : hasKey L k = false := by
            unfold hasKey
            rw [List.any_eq_false]
            intro x hx he
            exact less_ne (less_trans g (h1 x hx)) (of_decide_eq_true he).symm
          simp [g, less_asymm g, hk, decide_eq_false (fun e : c.1 = k => less_ne g e.symm)]
    | false =>
      simp only [Bool.false_eq_true, if_false]
      refine ⟨i.srt, fun x hx => ?_, fun k => ?_, fun k => ?_⟩
      · obtain ⟨c', hc', e'⟩ := i.keys x hx
        exact ⟨c', by simp [hc'], e'⟩
      · rw [i.is k, hhk]
        by_cases g : c.1 = k
        · subst g; simp [hh]
        · simp [g]
      · rw [i.n k, hhk]
        by_cases g : c.1 = k
        · subst g; simp [hh]
        · simp [g]
theorem vsOf_noKey {k : ByteArray} : ∀ {L : List Chn}, hasKey L k = false → vsOf k L = []
  | [], _ => rfl
  | c :: L, h => by
    simp only [hasKey, List.any_cons, Bool.or_eq_false_iff] at h
    rw [vsOf, if_neg (of_decide_eq_false h.1)]
    exact vsOf_noKey h.2
theorem rowsGo_none (L0 : List Chn) (at_ : Int) : ∀ (L : List Chn) {c : Chn}, c ∈ L → (before L0 c.1 at_).made = false → rowsGo L0 at_ L = none
  | [], _, h, _ => by cases h
  | x :: L, c, h, hm => by
    rw [rowsGo]
    rcases List.mem_cons.1 h with rfl | h
    · rw [if_neg (by rw [hm]; simp)]
    · rw [rowsGo_none L0 at_ L h hm]
      split <;> rfl
/-- If all is made, keys have what they have one by one. -/
theorem rows_is {r0 : List Row} {D : List Deed3} {m : Nat} {dn : Nat → Bool} {b : ByteArray → Int} {e : Eng} (G : Good r0 D m dn b e) {n : Nat} (hn : m + n ≤ D.length) (hm : ∀ c ∈ e.chains, (before e.chains c.1 ((m + n : Nat) : Int)).made = true) : rowsC e.chains ((m + n : Nat) : Int) = some (seqR r0 D (m + n)) := by
  obtain ⟨r, h1, h2⟩ := rowsGo_is e.chains ((m + n : Nat) : Int) e.chains G.srt hm
  have key : ∀ k, isAt k r = isAt k (seqR r0 D (m + n)) ∧ num k r = num k (seqR r0 D (m + n)) := fun k => by
    have hs := G.seen hn k
    have hmk : (before e.chains k ((m + n : Nat) : Int)).made = true ∧ (hasKey e.chains k = false → (before e.chains k ((m + n : Nat) : Int)).has_ = false) := by
      cases hk : hasKey e.chains k with
      | true =>
        obtain ⟨c, hc, he⟩ := List.any_eq_true.1 hk
        have := hm c hc
        rw [of_decide_eq_true he] at this
        exact ⟨this, fun h => by cases h⟩
      | false =>
        unfold before
        rw [vsOf_noKey hk]
        exact ⟨rfl, fun _ => rfl⟩
    obtain ⟨e1, e2⟩ := hs.yes hmk.1
    have hand : (hasKey e.chains k && (before e.chains k ((m + n : Nat) : Int)).has_) = isAt k (seqR r0 D (m + n)) := by
      rw [← e1]
      cases hk : hasKey e.chains k with
      | true => rfl
      | false => rw [hmk.2 hk]; rfl
    rw [h2.is, h2.n, hand]
    refine ⟨rfl, ?_⟩
    cases hi : isAt k (seqR r0 D (m + n)) with
    | true => rw [if_pos rfl, e2]
    | false => rw [if_neg (by simp), num_not k _ hi]
  rw [show rowsC e.chains _ = some r from h1]
  rw [srt_ext h2.srt (seqR_right G.rows G.right (m + n)).srt (fun k => (key k).1) (fun k => (key k).2)]
theorem all_made {r0 : List Row} {D : List Deed3} {m : Nat} {dn : Nat → Bool} {b : ByteArray → Int} {e : Eng} (G : Good r0 D m dn b e) {n : Nat} (hn : m + n ≤ D.length) (hd : ∀ i, m ≤ i → i < m + n → dn i = true) (k : ByteArray) : (before e.chains k ((m + n : Nat) : Int)).made = true := by
  cases h : (before e.chains k ((m + n : Nat) : Int)).made with
  | true => rfl
  | false =>
    obtain ⟨i, h1, h2, _, h3, _⟩ := (G.seen hn k).no h
    rw [hd i h1 h2] at h3; cases h3

/-! ### All is done at last -/
theorem Good.state_at {r0 : List Row} {D : List Deed3} {m : Nat} {dn : Nat → Bool} {b : ByteArray → Int} {e : Eng} (G : Good r0 D m dn b e) {p : Nat} (hp : m + p < D.length) : e.state.getD p 0 = if dn (m + p) = true then 1 else 0 := by
  have hp' : p < D.length - m := by omega
  rw [G.state]
  simp [List.getD, List.getElem?_map, List.getElem?_range' hp']
theorem ready_mem {r0 : List Row} {D : List Deed3} {m : Nat} {dn : Nat → Bool} {b : ByteArray → Int} {e : Eng} (G : Good r0 D m dn b e) {p : Nat} : p ∈ readyE e ↔ m + p < D.length ∧ dn (m + p) = false ∧ needsE e p = [] := by
  unfold readyE
  rw [List.mem_filter, List.mem_range, G.len]
  constructor
  · rintro ⟨h1, h2⟩
    have hp : m + p < D.length := by omega
    rw [G.state_at hp] at h2
    simp only [Bool.and_eq_true, decide_eq_true_eq, List.isEmpty_iff] at h2
    refine ⟨hp, ?_, h2.2⟩
    cases h : dn (m + p) with
    | false => rfl
    | true => rw [h] at h2; cases h2.1
  · rintro ⟨h1, h2, h3⟩
    refine ⟨by omega, ?_⟩
    rw [G.state_at h1, h2, h3]
    rfl
/-- The first one that waits needs nobody. -/
theorem first_ready {r0 : List Row} {D : List Deed3} {m : Nat} {dn : Nat → Bool} {b : ByteArray → Int} {e : Eng} (G : Good r0 D m dn b e) {p : Nat} (hp : m + p < D.length) (hw : dn (m + p) = false) (hf : ∀ i, m ≤ i → i < m + p → dn i = true) : p ∈ readyE e := by
  refine (ready_mem G).2 ⟨hp, hw, ?_⟩
  cases h : needsE e p with
  | nil => rfl
  | cons j l =>
    obtain ⟨h1, h2⟩ := need_back G hp (j := j) (by rw [h]; simp)
    rw [hf (m + j) (by omega) (by omega)] at h2; cases h2
theorem some_ready {r0 : List Row} {D : List Deed3} {m : Nat} {dn : Nat → Bool} {b : ByteArray → Int} {e : Eng} (G : Good r0 D m dn b e) {i : Nat} (hi : m ≤ i) (hl : i < D.length) (hw : dn i = false) : readyE e ≠ [] := by
  have : ∀ n i, i - m = n → m ≤ i → i < D.length → dn i = false → readyE e ≠ [] := by
    intro n
    induction n using Nat.strongRecOn with
    | _ n ih =>
      intro i hn hi hl hw
      by_cases hf : ∀ j, m ≤ j → j < i → dn j = true
      · have := first_ready G (p := i - m) (by omega) (by rw [show m + (i - m) = i from by omega]; exact hw) (fun j h1 h2 => hf j h1 (by omega))
        intro h0
        rw [h0] at this; cases this
      · simp only [Classical.not_forall] at hf
        obtain ⟨j, h1, h2, h3⟩ := hf
        exact ih (j - m) (by omega) j rfl h1 (by omega) (by simpa using h3)
  exact this _ i rfl hi hl hw
theorem none_ready {r0 : List Row} {D : List Deed3} {m : Nat} {dn : Nat → Bool} {b : ByteArray → Int} {e : Eng} (G : Good r0 D m dn b e) (h : readyE e = []) : ∀ i, m ≤ i → i < D.length → dn i = true := fun i h1 h2 => by
  cases hd : dn i with
  | true => rfl
  | false => exact absurd h (some_ready G h1 h2 hd)
end Go.Proofs.Ytdnafpenljdinad
