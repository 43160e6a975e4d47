/-
  Plain mathematics of engines: what is old forgotten, what keys have when, and that all is done at last.
  Plain mathematics of engines: their chains are such that searches go right, also while a deed is planned or done; and what a deed needs, as the program finds it.
  Plain mathematics of plans: what is wrong with deeds that come, that who comes later changes nothing ahead, and that one of those that wait needs nobody.
  slices.Insert over chains, of one chain, into a row that the call owns: the row with the chain at its place; what else there is stays.
  slices.Insert over chains, of one chain, into a row that the call owns: without room for it, and in whatever case.
  with of the program: chains in which a key's versions are turned by a closure; so Add and Set.
  Add and Set of the program: a version more, and one that is made.
  seenFrom and Clear of the program: chains without what is old.
  Of and Rows of the program: chains of rows, and what keys have ahead of a deed.
  The document's own RightChains, walked.
  The document's own Before and RowsAt, walked.
  The document's own Needs and Ready of an engine, walked.
  The document's own Add, walked.
  Blocks of five cells that hold an engine, and rows that a call owns beside them.
  The document's own New, walked.
-/
import Derived.Test.YthmkgfdglkdjmaeGreatDoorEngGo
import Derived.Test.YthmkgfdglkdjmaeGreatDoorSpots
import Derived.Test.YthmkgfdglkdjmaeGreatDoorEngGood
import Derived.Lib.SlicesCompact
import Derived.Test.YthmkgfdglkdjmaeGreatDoorRefMath
import Derived.Lib.AppendZerosOnto
import Derived.Lib.Overlaps
import Derived.Laws.IdiomCopy
import Derived.Deep.RegionLaw
import Derived.Stop.Walk2
import Derived.Deep.DeepCutAuto
import Derived.Test.YthmkgfdglkdjmaeGreatDoorEngIn
namespace Go.Proofs.YthmkgfdglkdjmaeGreatDoor
open Go.RowKit

/-! ### Without what is old -/
theorem getLastD_append {α : Type} (a b : List α) (o : α) : (a ++ b).getLastD o = b.getLastD (a.getLastD o) := by
  rw [List.getLastD_eq_getLast?, List.getLastD_eq_getLast?, List.getLastD_eq_getLast?, List.getLast?_append]
  cases b.getLast? <;> rfl
theorem clearV_split {by_ : Int} : ∀ (A B : List Ver), (∀ v ∈ A, v.by_ < by_) → (∀ v ∈ B, by_ ≤ v.by_) → (∀ v ∈ A, v.made = true) → clearV by_ (A ++ B) = (if (A.getLastD ver0).has_ = true then [A.getLastD ver0] else []) ++ B
  | [], B, _, hB, _ => by
    show clearV by_ B = (if ver0.has_ = true then _ else []) ++ B
    rw [clearV_high hB]; rfl
  | [v], B, hA, hB, hm => by
    have hv : decide (v.by_ < by_) = true := by simpa using hA v (by simp)
    have hl : laterV by_ B = false := by
      cases B with
      | nil => rfl
      | cons u B => have := hB u (by simp); simpa [laterV] using this
    have hmv := hm v (by simp)
    show clearV by_ (v :: B) = (if v.has_ = true then [v] else []) ++ B
    rw [clearV, hv, hl, hmv, clearV_high hB]
    cases v.has_ <;> simp
  | v :: u :: A, B, hA, hB, hm => by
    have hv : decide (v.by_ < by_) = true := by simpa using hA v (by simp)
    have hl : laterV by_ (u :: A ++ B) = true := by simpa [laterV] using hA u (by simp)
    have ih := clearV_split (u :: A) B (fun x hx => hA x (by simp at hx ⊢; exact .inr hx)) hB (fun x hx => hm x (by simp at hx ⊢; exact .inr hx))
    show clearV by_ (v :: (u :: A ++ B)) = _
    rw [clearV, if_pos (by rw [hv, hl]; rfl), ih]
    rfl
def clearE (e : Eng) (n : Nat) : Eng := ⟨clearC (e.base + n) e.chains, e.deeds.drop n, e.state.drop n, e.ends.drop n, e.base + n⟩
theorem seenV_by {r0 : List Row} {D : List Deed3} {m : Nat} {dn : Nat → Bool} {b : ByteArray → Int} (hlo : ∀ k, -1 ≤ b k) (hhi : ∀ k, b k < m) (k : ByteArray) (n : Nat) : -1 ≤ (seenV r0 D dn b k m n).by_ ∧ (seenV r0 D dn b k m n).by_ < ((m + n : Nat) : Int) := by
  have h1 : ∀ o : Ver, (-1 ≤ o.by_ ∧ o.by_ < ((m + n : Nat) : Int)) → -1 ≤ ((newsV r0 D dn k m n).getLastD o).by_ ∧ ((newsV r0 D dn k m n).getLastD o).by_ < ((m + n : Nat) : Int) := fun o ho => by
    rw [List.getLastD_eq_getLast?]
    cases h : (newsV r0 D dn k m n).getLast? with
    | none => exact ho
    | some v =>
      obtain ⟨i, _, h2, rfl, _⟩ := newsV_by (List.mem_of_getLast? h)
      simp only [Option.getD_some]
      rw [verI_by]; omega
  unfold seenV
  refine h1 _ ?_
  unfold oldV
  split
  · have := hlo k; have := hhi k
    show -1 ≤ b k ∧ b k < _
    omega
  · show -1 ≤ (-1 : Int) ∧ (-1 : Int) < _
    omega
theorem Good.clear {r0 : List Row} {D : List Deed3} {m : Nat} {dn : Nat → Bool} {b : ByteArray → Int} {e : Eng} (G : Good r0 D m dn b e) {n : Nat} (hn : m + n ≤ D.length) (hd : ∀ i, m ≤ i → i < m + n → dn i = true) : Good r0 D (m + n) dn (fun k => (seenV r0 D dn b k m n).by_) (clearE e n) := by
  have hlen : D.length - m = n + (D.length - (m + n)) := by omega
  refine ⟨G.rows, G.right, hn, G.fresh, by show e.base + (n : Int) = _; rw [G.base]; omega, ?_, ?_, ?_, clearC_srt G.srt, fun c hc => ?_, fun k => ?_, fun k => (seenV_by G.lo G.hi k n).1, fun k => (seenV_by G.lo G.hi k n).2⟩
  · show e.deeds.drop n = _
    rw [G.deeds, List.drop_drop]
  · show e.state.drop n = _
    rw [G.state, ← List.map_drop, List.drop_range', Nat.mul_one]
    congr 2
    omega
  · show e.ends.drop n = _
    rw [G.ends, ← List.map_drop, List.drop_range', Nat.mul_one]
    congr 2
    omega
  · obtain ⟨_, _, _, _, h⟩ := clearC_mem hc; exact h
  · show vsOf k (clearC (e.base + (n : Int)) e.chains) = _
    rw [G.at_, vsOf_clear G.srt, G.vs k, hlen, newsV_append, ← List.append_assoc]
    rw [clearV_split]
    · rw [getLastD_append]
      show (if (seenV r0 D dn b k m n).has_ = true then [seenV r0 D dn b k m n] else []) ++ _ = _
      have hs := seen_is (b := b) (dn := dn) (m := m) G.rows G.right k n hn
      have hm : (seenV r0 D dn b k m n).made = true := by
        cases h : (seenV r0 D dn b k m n).made with
        | true => rfl
        | false =>
          obtain ⟨i, h1, h2, _, h3, _⟩ := hs.no h
          rw [hd i h1 h2] at h3; cases h3
      obtain ⟨e1, e2⟩ := hs.yes hm
      congr 1
      unfold oldV
      rw [e1]
      cases hi : isAt k (seqR r0 D (m + n)) with
      | true =>
        rw [if_pos rfl, if_pos rfl]
        rw [hi] at e1
        congr 1
        exact Prod.ext rfl (Prod.ext hm (Prod.ext e1 e2))
      | false => rfl
    · intro v hv
      rcases List.mem_append.1 hv with h | h
      · unfold oldV at h
        split at h
        · simp at h
          rw [h]
          have := G.hi k
          show b k < _
          omega
        · cases h
      · obtain ⟨i, _, h2, rfl, _⟩ := newsV_by h
        rw [verI_by]; omega
    · intro v hv
      obtain ⟨i, h1, _, rfl, _⟩ := newsV_by hv
      rw [verI_by]; omega
    · intro v hv
      rcases List.mem_append.1 hv with h | h
      · unfold oldV at h
        split at h
        · simp at h; rw [h]
        · cases h
      · obtain ⟨i, h1, h2, rfl, _⟩ := newsV_by h
        unfold verI
        rw [if_pos (hd i h1 h2)]

/-! ### What keys have when -/
def hasKey (L : List Chn) (k : ByteArray) : Bool := L.any (fun c => decide (c.1 = k))
structure RowsIs (L0 : List Chn) (at_ : Int) (L : List Chn) (r : List Row) : Prop where
  srt : Srt r
  keys : ∀ x ∈ r, ∃ c ∈ L, x.1 = c.1
  is : ∀ k, isAt k r = (hasKey L k && (before L0 k at_).has_)
  n : ∀ k, num k r = if (hasKey L k && (before L0 k at_).has_) = true then (before L0 k at_).n else 0
theorem rowsGo_is (L0 : List Chn) (at_ : Int) : ∀ (L : List Chn), SrtC L → (∀ c ∈ L, (before L0 c.1 at_).made = true) → ∃ r, rowsGo L0 at_ L = some r ∧ RowsIs L0 at_ L r
  | [], _, _ => ⟨[], rfl, List.Pairwise.nil, (fun _ h => by cases h), fun k => rfl, fun k => rfl⟩
  | c :: L, hs, hm => by
    obtain ⟨h1, h2⟩ := srtC_cons.1 hs
    obtain ⟨r, e, i⟩ := rowsGo_is L0 at_ L h2 (fun x hx => hm x (by simp [hx]))
    have hfr : ∀ y ∈ r, less c.1 y.1 = true := fun y hy => by
      obtain ⟨c', hc', e'⟩ := i.keys y hy
      rw [e']; exact h1 c' hc'
    have hno : hasKey L c.1 = false := by
      unfold hasKey
      rw [List.any_eq_false]
      intro x hx he
      exact less_ne (h1 x hx) (of_decide_eq_true he).symm
    have hhk : ∀ k, hasKey (c :: L) k = (decide (c.1 = k) || hasKey L k) := fun k => by simp [hasKey]
    rw [rowsGo, if_pos (hm c (by simp)), e]
    refine ⟨_, rfl, ?_⟩
    cases hh : (before L0 c.1 at_).has_ with
    | true =>
      simp only [if_true]
      refine ⟨srt_cons.2 ⟨hfr, i.srt⟩, fun x hx => ?_, fun k => ?_, fun k => ?_⟩
      · rcases List.mem_cons.1 hx with rfl | hx
        · exact ⟨c, by simp, rfl⟩
        · obtain ⟨c', hc', e'⟩ := i.keys x hx
          exact ⟨c', by simp [hc'], e'⟩
      · rw [isAt, hhk]
        rcases less_cases c.1 k with g | g | g
        · simp only [g, if_true, i.is k, decide_eq_false (less_ne g), Bool.false_or]
        · subst g
          simp [less_irrefl, hh]
        · have hk : hasKey L k = false := by
            unfold hasKey
            rw [List.any_eq_false]
            intro x hx he
            exact less_ne (less_trans g (h1 x hx)) (of_decide_eq_true he).symm
          simp [g, less_asymm g, hk, decide_eq_false (fun e : c.1 = k => less_ne g e.symm)]
      · rw [num, hhk]
        rcases less_cases c.1 k with g | g | g
        · simp only [g, if_true, i.n k, decide_eq_false (less_ne g), Bool.false_or]
        · subst g
          simp [less_irrefl, hh]
        · have hk : hasKey L k = false := by
            unfold hasKey
            rw [List.any_eq_false]
            intro x hx he
            exact less_ne (less_trans g (h1 x hx)) (of_decide_eq_true he).symm
          simp [g, less_asymm g, hk, decide_eq_false (fun e : c.1 = k => less_ne g e.symm)]
    | false =>
      simp only [Bool.false_eq_true, if_false]
      refine ⟨i.srt, fun x hx => ?_, fun k => ?_, fun k => ?_⟩
      · obtain ⟨c', hc', e'⟩ := i.keys x hx
        exact ⟨c', by simp [hc'], e'⟩
      · rw [i.is k, hhk]
        by_cases g : c.1 = k
        · subst g; simp [hh]
        · simp [g]
      · rw [i.n k, hhk]
        by_cases g : c.1 = k
        · subst g; simp [hh]
        · simp [g]
theorem vsOf_noKey {k : ByteArray} : ∀ {L : List Chn}, hasKey L k = false → vsOf k L = []
  | [], _ => rfl
  | c :: L, h => by
    simp only [hasKey, List.any_cons, Bool.or_eq_false_iff] at h
    rw [vsOf, if_neg (of_decide_eq_false h.1)]
    exact vsOf_noKey h.2
/-- If all is made, keys have what they have one by one. -/
theorem rows_is {r0 : List Row} {D : List Deed3} {m : Nat} {dn : Nat → Bool} {b : ByteArray → Int} {e : Eng} (G : Good r0 D m dn b e) {n : Nat} (hn : m + n ≤ D.length) (hm : ∀ c ∈ e.chains, (before e.chains c.1 ((m + n : Nat) : Int)).made = true) : rowsC e.chains ((m + n : Nat) : Int) = some (seqR r0 D (m + n)) := by
  obtain ⟨r, h1, h2⟩ := rowsGo_is e.chains ((m + n : Nat) : Int) e.chains G.srt hm
  have key : ∀ k, isAt k r = isAt k (seqR r0 D (m + n)) ∧ num k r = num k (seqR r0 D (m + n)) := fun k => by
    have hs := G.seen hn k
    have hmk : (before e.chains k ((m + n : Nat) : Int)).made = true ∧ (hasKey e.chains k = false → (before e.chains k ((m + n : Nat) : Int)).has_ = false) := by
      cases hk : hasKey e.chains k with
      | true =>
        obtain ⟨c, hc, he⟩ := List.any_eq_true.1 hk
        have := hm c hc
        rw [of_decide_eq_true he] at this
        exact ⟨this, fun h => by cases h⟩
      | false =>
        unfold before
        rw [vsOf_noKey hk]
        exact ⟨rfl, fun _ => rfl⟩
    obtain ⟨e1, e2⟩ := hs.yes hmk.1
    have hand : (hasKey e.chains k && (before e.chains k ((m + n : Nat) : Int)).has_) = isAt k (seqR r0 D (m + n)) := by
      rw [← e1]
      cases hk : hasKey e.chains k with
      | true => rfl
      | false => rw [hmk.2 hk]; rfl
    rw [h2.is, h2.n, hand]
    refine ⟨rfl, ?_⟩
    cases hi : isAt k (seqR r0 D (m + n)) with
    | true => rw [if_pos rfl, e2]
    | false => rw [if_neg (by simp), num_not k _ hi]
  rw [show rowsC e.chains _ = some r from h1]
  rw [srt_ext h2.srt (seqR_right G.rows G.right (m + n)).srt (fun k => (key k).1) (fun k => (key k).2)]
theorem all_made {r0 : List Row} {D : List Deed3} {m : Nat} {dn : Nat → Bool} {b : ByteArray → Int} {e : Eng} (G : Good r0 D m dn b e) {n : Nat} (hn : m + n ≤ D.length) (hd : ∀ i, m ≤ i → i < m + n → dn i = true) (k : ByteArray) : (before e.chains k ((m + n : Nat) : Int)).made = true := by
  cases h : (before e.chains k ((m + n : Nat) : Int)).made with
  | true => rfl
  | false =>
    obtain ⟨i, h1, h2, _, h3, _⟩ := (G.seen hn k).no h
    rw [hd i h1 h2] at h3; cases h3

/-! ### All is done at last -/
end Go.Proofs.YthmkgfdglkdjmaeGreatDoor

namespace Go.Proofs.YthmkgfdglkdjmaeGreatDoor
open Go.RowKit

/-! ### Chains that fit -/
theorem rise_append {a b : List Ver} (ha : Rise a) (hb : Rise b) (h : ∀ x ∈ a, ∀ y ∈ b, x.by_ < y.by_) : Rise (a ++ b) := List.pairwise_append.2 ⟨ha, hb, h⟩
theorem newsV_rise (r0 : List Row) (D : List Deed3) (dn : Nat → Bool) (k : ByteArray) (a : Nat) : ∀ n, Rise (newsV r0 D dn k a n)
  | 0 => List.Pairwise.nil
  | n + 1 => by
    rw [newsV_succ]
    refine rise_append (newsV_rise r0 D dn k a n) ?_ (fun x hx y hy => ?_)
    · split
      · exact List.pairwise_singleton _ _
      · exact List.Pairwise.nil
    · obtain ⟨i, _, h2, rfl, _⟩ := newsV_by hx
      split at hy
      · simp at hy
        rw [hy, verI_by, verI_by]; omega
      · cases hy
theorem isAt_mem {k : ByteArray} : ∀ {l : List Row}, isAt k l = true → ∃ x ∈ l, x.1 = k
  | [], h => by cases h
  | x :: l, h => by
    rw [isAt] at h
    by_cases h1 : less x.1 k = true
    · rw [if_pos h1] at h
      obtain ⟨y, hy, e⟩ := isAt_mem h
      exact ⟨y, by simp [hy], e⟩
    · rw [if_neg h1] at h
      by_cases h2 : less k x.1 = true
      · simp [h2] at h
      · exact ⟨x, by simp, less_tri (by simpa using h1) (by simpa using h2)⟩
theorem Good.key {r0 : List Row} {D : List Deed3} {m : Nat} {dn : Nat → Bool} {b : ByteArray → Int} {e : Eng} (G : Good r0 D m dn b e) {k : ByteArray} (h : vsOf k e.chains ≠ []) : keyB k = true := by
  rw [G.vs k] at h
  by_cases h1 : isAt k (seqR r0 D m) = true
  · obtain ⟨x, hx, rfl⟩ := isAt_mem h1
    exact (seqR_right G.rows G.right m).key x hx
  · have ho : oldV r0 D m b k = [] := by unfold oldV; rw [if_neg h1]
    rw [ho, List.nil_append] at h
    obtain ⟨v, hv⟩ := List.exists_mem_of_ne_nil _ h
    obtain ⟨i, h2, h3, _, hw⟩ := newsV_by hv
    have hi : i < D.length := by have := G.le; omega
    exact wKeys_key (rights_at G.right hi).w (has_iff.1 hw)
theorem Good.rise {r0 : List Row} {D : List Deed3} {m : Nat} {dn : Nat → Bool} {b : ByteArray → Int} {e : Eng} (G : Good r0 D m dn b e) (k : ByteArray) : Rise (vsOf k e.chains) := by
  rw [G.vs k]
  refine rise_append ?_ (newsV_rise _ _ _ _ _ _) (fun x hx y hy => ?_)
  · unfold oldV
    split
    · exact List.pairwise_singleton _ _
    · exact List.Pairwise.nil
  · obtain ⟨i, h2, _, rfl, _⟩ := newsV_by hy
    rw [verI_by]
    unfold oldV at hx
    split at hx
    · simp at hx
      rw [hx]
      have := G.hi k
      show b k < _
      omega
    · cases hx
/-! ### Keys, as the program goes -/
/-! ### What is needed, as the program goes -/
end Go.Proofs.YthmkgfdglkdjmaeGreatDoor

namespace Go.Proofs.YthmkgfdglkdjmaeGreatDoor
open Go.RowKit

/-! ### Deeds that come -/
/-! ### Who comes later changes nothing ahead -/
/-! ### Who waits -/
/-! ### What a deed sees is right -/
end Go.Proofs.YthmkgfdglkdjmaeGreatDoor

namespace Go.Proofs.YthmkgfdglkdjmaeGreatDoor
open Go.RowKit

/-! ### The row with one more in its midst -/
theorem flat_drop {α : Type} {f : α → List Value} {k : Nat} (hk : ∀ x, (f x).length = k) : ∀ (l : List α) (i : Nat), flat f (l.drop i) = (flat f l).drop (i * k)
  | [], i => by simp [flat]
  | x :: l, 0 => by simp
  | x :: l, i + 1 => by
    have e : (i + 1) * k = (f x).length + i * k := by rw [hk, Nat.add_mul, Nat.one_mul, Nat.add_comm]
    rw [List.drop_succ_cons, flat_cons, flat_drop hk l i, e, List.drop_length_add_append]
end Go.Proofs.YthmkgfdglkdjmaeGreatDoor

namespace Go.Proofs.YthmkgfdglkdjmaeGreatDoor
open Go.RowKit

end Go.Proofs.YthmkgfdglkdjmaeGreatDoor

namespace Go.Proofs.YthmkgfdglkdjmaeGreatDoor
open Go.RowKit

end Go.Proofs.YthmkgfdglkdjmaeGreatDoor

namespace Go.Proofs.YthmkgfdglkdjmaeGreatDoor
open Go.RowKit

end Go.Proofs.YthmkgfdglkdjmaeGreatDoor

namespace Go.Proofs.YthmkgfdglkdjmaeGreatDoor
open Go.RowKit

theorem Vers.drop {w : World} {b o n c m : Nat} {l : List Ver} (h : Vers w (some ⟨b, o, none⟩) n c l) (hm : m ≤ n) : Vers w (some ⟨b, o + m * 4, none⟩) (n - m) (c - m) (l.drop m) := by
  have hn := Vers.count h
  have hlc := h.hdr.le
  have hmx := h.hdr.max
  refine ⟨by rw [flat_length verC_length, List.length_drop, hn], ⟨by omega, by omega, fun h => by cases h⟩, ?_⟩
  rcases h.run with h0 | ⟨b', o', e, hr⟩
  · exact .inl (by omega)
  · cases e
    refine .inr ⟨b, o + m * 4, rfl, fun j u hu => ?_⟩
    rw [flat_drop verC_length, List.getElem?_drop] at hu
    rw [Nat.add_assoc]
    exact hr _ u hu
end Go.Proofs.YthmkgfdglkdjmaeGreatDoor

namespace Go.Proofs.YthmkgfdglkdjmaeGreatDoor
open Go.RowKit

end Go.Proofs.YthmkgfdglkdjmaeGreatDoor

namespace Go.Proofs.YthmkgfdglkdjmaeGreatDoor
open Go.RowKit

end Go.Proofs.YthmkgfdglkdjmaeGreatDoor

namespace Go.Proofs.YthmkgfdglkdjmaeGreatDoor
open Go.RowKit

/-- How the document's Before stands: what it has found so far, and its answer's place. -/
structure BefIs (w wr : World) (y : Int) (m h : Bool) (x : Int) : Prop where
  out : Four wr (w.heap.size + 1) y m h x
  ofr : Free4 wr (w.heap.size + 1)
  res : Four wr w.heap.size 0 false false 0
  rfr : Free4 wr w.heap.size
  bel : Below w.heap.size w wr
theorem BefIs.deep {w wr w' : World} {y : Int} {m h : Bool} {x : Int} (k : BefIs w wr y m h x) (hb : Below wr.heap.size wr w') : BefIs w w' y m h x :=
  ⟨k.out.below hb, k.ofr.below hb k.out.lt, k.res.below hb, k.rfr.below hb k.res.lt, below_deep k.bel hb⟩
theorem Free4.set {w : World} {b : Nat} (h : Free4 w b) (p : Addr) (u : Value) : Free4 (w.setCell p u) b :=
  ⟨by rw [World.frozen?_setCell]; exact h.f0, by rw [World.frozen?_setCell]; exact h.f1, by rw [World.frozen?_setCell]; exact h.f2, by rw [World.frozen?_setCell]; exact h.f3⟩
theorem Four.far {w : World} {b : Nat} {y : Int} {m h : Bool} {x : Int} (k : Four w b y m h x) {p : Addr} (hp : p.block ≠ b) (u : Value) : Four (w.setCell p u) b y m h x := by
  have e : ∀ j, (w.setCell p u).cell? ⟨b, j, none⟩ = w.cell? ⟨b, j, none⟩ := fun j => World.cell?_setCell_other _ _ _ _ (fun e => hp (by rw [e]))
  exact ⟨by rw [e]; exact k.c0, by rw [e]; exact k.c1, by rw [e]; exact k.c2, by rw [e]; exact k.c3⟩
/-- Another one is found. -/
theorem BefIs.put {w wr : World} {y : Int} {m h : Bool} {x : Int} (k : BefIs w wr y m h x) (y' : Int) (m' h' : Bool) (x' : Int) :
    BefIs w ((((wr.setCell ⟨w.heap.size + 1, 0, none⟩ (.int .i64 y')).setCell ⟨w.heap.size + 1, 1, none⟩ (.bool m')).setCell ⟨w.heap.size + 1, 2, none⟩ (.bool h')).setCell ⟨w.heap.size + 1, 3, none⟩ (.int .i64 x')) y' m' h' x' := by
  refine ⟨k.out.put _ _ _ _, (((k.ofr.set _ _).set _ _).set _ _).set _ _, ?_, (((k.rfr.set _ _).set _ _).set _ _).set _ _, four_below k.bel (by omega)⟩
  exact (((k.res.far (p := ⟨w.heap.size + 1, 0, none⟩) (by simp) _).far (p := ⟨w.heap.size + 1, 1, none⟩) (by simp) _).far (p := ⟨w.heap.size + 1, 2, none⟩) (by simp) _).far (p := ⟨w.heap.size + 1, 3, none⟩) (by simp) _
end Go.Proofs.YthmkgfdglkdjmaeGreatDoor

namespace Go.Proofs.YthmkgfdglkdjmaeGreatDoor
open Go.RowKit

end Go.Proofs.YthmkgfdglkdjmaeGreatDoor

namespace Go.Proofs.YthmkgfdglkdjmaeGreatDoor
open Go.RowKit

end Go.Proofs.YthmkgfdglkdjmaeGreatDoor

namespace Go.Proofs.YthmkgfdglkdjmaeGreatDoor
open Go.RowKit

/-- A row that a call owns is apart from what is written in another block. -/
theorem owns_off {w w' : World} {b B e s n : Nat} {v : Value} {xs : List Value} (h : w.ownsRow B e s v n xs) (ho : Off b w w') (hne : some b ≠ v.ownBlock) : w'.ownsRow B e s v n xs := by
  refine ⟨h.1, h.2.imp id ?_⟩
  rintro ⟨g, cap, cur, rfl, hb, hg, rest⟩
  refine ⟨g, cap, cur, rfl, hb, ?_, rest⟩
  exact (ho.block g (Array.getElem?_eq_some_iff.1 hg).1 (fun e => hne (by rw [← e]; rfl))).trans hg
/-! ### A field of the call's own engine is made anew -/
end Go.Proofs.YthmkgfdglkdjmaeGreatDoor

namespace Go.Proofs.YthmkgfdglkdjmaeGreatDoor
open Go.RowKit

end Go.Proofs.YthmkgfdglkdjmaeGreatDoor
