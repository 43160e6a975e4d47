/-
  Plain mathematics of engines: what is old forgotten, what keys have when, and that all is done at last.
  Plain mathematics of engines: their chains are such that searches go right, also while a deed is planned or done; and what a deed needs, as the program finds it.
  Plain mathematics of plans: what is wrong with deeds that come, that who comes later changes nothing ahead, and that one of those that wait needs nobody.
-/
import Derived.Test.YtnbekpblmkdnlaaGreatDoorEngGo
import Derived.Test.YtnbekpblmkdnlaaGreatDoorChainFind
import Derived.Test.YtnbekpblmkdnlaaGreatDoorRefKeys
import Derived.Lib.SlicesCompact
import Derived.Test.YtnbekpblmkdnlaaGreatDoorOpenDeeds
namespace Go.Proofs.YtnbekpblmkdnlaaGreatDoor
open Go.RowKit

theorem getLastD_append {α : Type} (a b : List α) (o : α) : (a ++ b).getLastD o = b.getLastD (a.getLastD o) := by
 rw [List.getLastD_eq_getLast?, List.getLastD_eq_getLast?, List.getLastD_eq_getLast?, List.getLast?_append]
 cases b.getLast? <;> rfl
theorem clearV_split {by_ : Int} : ∀ (A B : List Ver), (∀ v ∈ A, v.by_ < by_) → (∀ v ∈ B, by_ ≤ v.by_) → (∀ v ∈ A, v.made = true) → clearV by_ (A ++ B) = (if (A.getLastD ver0).has_ = true then [A.getLastD ver0] else []) ++ B
 | [], B, _, hB, _ => by
   show clearV by_ B = (if ver0.has_ = true then _ else []) ++ B
   rw [clearV_high hB]; rfl
 | [v], B, hA, hB, hm => by
   have hv : decide (v.by_ < by_) = true := by simpa using hA v (by simp)
   have hl : laterV by_ B = false := by
     cases B with
     | nil => rfl
     | cons u B => have := hB u (by simp); simpa [laterV] using this
   have hmv := hm v (by simp)
   show clearV by_ (v :: B) = (if v.has_ = true then [v] else []) ++ B
   rw [clearV, hv, hl, hmv, clearV_high hB]
   cases v.has_ <;> simp
 | v :: u :: A, B, hA, hB, hm => by
   have hv : decide (v.by_ < by_) = true := by simpa using hA v (by simp)
   have hl : laterV by_ (u :: A ++ B) = true := by simpa [laterV] using hA u (by simp)
   have ih := clearV_split (u :: A) B (fun x hx => hA x (by simp at hx ⊢; exact .inr hx)) hB (fun x hx => hm x (by simp at hx ⊢; exact .inr hx))
   show clearV by_ (v :: (u :: A ++ B)) = _
   rw [clearV, if_pos (by rw [hv, hl]; rfl), ih]
   rfl
def clearE (e : Eng) (n : Nat) : Eng := ⟨clearC (e.base + n) e.chains, e.deeds.drop n, e.state.drop n, e.ends.drop n, e.base + n⟩
theorem seenV_by {r0 : List Row} {D : List Deed3} {m : Nat} {dn : Nat → Bool} {b : ByteArray → Int} (hlo : ∀ k, -1 ≤ b k) (hhi : ∀ k, b k < m) (k : ByteArray) (n : Nat) : -1 ≤ (seenV r0 D dn b k m n).by_ ∧ (seenV r0 D dn b k m n).by_ < ((m + n : Nat) : Int) := by
 have h1 : ∀ o : Ver, (-1 ≤ o.by_ ∧ o.by_ < ((m + n : Nat) : Int)) → -1 ≤ ((newsV r0 D dn k m n).getLastD o).by_ ∧ ((newsV r0 D dn k m n).getLastD o).by_ < ((m + n : Nat) : Int) := fun o ho => by
   rw [List.getLastD_eq_getLast?]
   cases h : (newsV r0 D dn k m n).getLast? with
   | none => exact ho
   | some v =>
     obtain ⟨i, _, h2, rfl, _⟩ := newsV_by (List.mem_of_getLast? h)
     simp only [Option.getD_some]
     rw [verI_by]; omega
 unfold seenV
 refine h1 _ ?_
 unfold oldV
 split
 · have := hlo k; have := hhi k
   show -1 ≤ b k ∧ b k < _
   omega
 · show -1 ≤ (-1 : Int) ∧ (-1 : Int) < _
   omega
theorem Good.clear {r0 : List Row} {D : List Deed3} {m : Nat} {dn : Nat → Bool} {b : ByteArray → Int} {e : Eng} (G : Good r0 D m dn b e) {n : Nat} (hn : m + n ≤ D.length) (hd : ∀ i, m ≤ i → i < m + n → dn i = true) : Good r0 D (m + n) dn (fun k => (seenV r0 D dn b k m n).by_) (clearE e n) := by
 have hlen : D.length - m = n + (D.length - (m + n)) := by omega
 refine ⟨G.rows, G.right, hn, G.fresh, by show e.base + (n : Int) = _; rw [G.base]; omega, ?_, ?_, ?_, clearC_srt G.srt, fun c hc => ?_, fun k => ?_, fun k => (seenV_by G.lo G.hi k n).1, fun k => (seenV_by G.lo G.hi k n).2⟩
 · show e.deeds.drop n = _
   rw [G.deeds, List.drop_drop]
 · show e.state.drop n = _
   rw [G.state, ← List.map_drop, List.drop_range', Nat.mul_one]
   congr 2
   omega
 · show e.ends.drop n = _
   rw [G.ends, ← List.map_drop, List.drop_range', Nat.mul_one]
   congr 2
   omega
 · obtain ⟨_, _, _, _, h⟩ := clearC_mem hc; exact h
 · show vsOf k (clearC (e.base + (n : Int)) e.chains) = _
   rw [G.at_, vsOf_clear G.srt, G.vs k, hlen, newsV_append, ← List.append_assoc]
   rw [clearV_split]
   · rw [getLastD_append]
     show (if (seenV r0 D dn b k m n).has_ = true then [seenV r0 D dn b k m n] else []) ++ _ = _
     have hs := seen_is (b := b) (dn := dn) (m := m) G.rows G.right k n hn
     have hm : (seenV r0 D dn b k m n).made = true := by
       cases h : (seenV r0 D dn b k m n).made with
       | true => rfl
       | false =>
         obtain ⟨i, h1, h2, _, h3, _⟩ := hs.no h
         rw [hd i h1 h2] at h3; cases h3
     obtain ⟨e1, e2⟩ := hs.yes hm
     congr 1
     unfold oldV
     rw [e1]
     cases hi : isAt k (seqR r0 D (m + n)) with
     | true =>
       rw [if_pos rfl, if_pos rfl]
       rw [hi] at e1
       congr 1
       exact Prod.ext rfl (Prod.ext hm (Prod.ext e1 e2))
     | false => rfl
   · intro v hv
     rcases List.mem_append.1 hv with h | h
     · unfold oldV at h
       split at h
       · simp at h
         rw [h]
         have := G.hi k
         show b k < _
         omega
       · cases h
     · obtain ⟨i, _, h2, rfl, _⟩ := newsV_by h
       rw [verI_by]; omega
   · intro v hv
     obtain ⟨i, h1, _, rfl, _⟩ := newsV_by hv
     rw [verI_by]; omega
   · intro v hv
     rcases List.mem_append.1 hv with h | h
     · unfold oldV at h
       split at h
       · simp at h; rw [h]
       · cases h
     · obtain ⟨i, h1, h2, rfl, _⟩ := newsV_by h
       unfold verI
       rw [if_pos (hd i h1 h2)]

def hasKey (L : List Chn) (k : ByteArray) : Bool := L.any (fun c => decide (c.1 = k))
structure RowsIs (L0 : List Chn) (at_ : Int) (L : List Chn) (r : List Row) : Prop where
 srt : Srt r
 keys : ∀ x ∈ r, ∃ c ∈ L, x.1 = c.1
 is : ∀ k, isAt k r = (hasKey L k && (before L0 k at_).has_)
 n : ∀ k, num k r = if (hasKey L k && (before L0 k at_).has_) = true then (before L0 k at_).n else 0
theorem rowsGo_is (L0 : List Chn) (at_ : Int) : ∀ (L : List Chn), SrtC L → (∀ c ∈ L, (before L0 c.1 at_).made = true) → ∃ r, rowsGo L0 at_ L = some r ∧ RowsIs L0 at_ L r
 | [], _, _ => ⟨[], rfl, List.Pairwise.nil, (fun _ h => by cases h), fun k => rfl, fun k => rfl⟩
 | c :: L, hs, hm => by
   obtain ⟨h1, h2⟩ := srtC_cons.1 hs
   obtain ⟨r, e, i⟩ := rowsGo_is L0 at_ L h2 (fun x hx => hm x (by simp [hx]))
   have hfr : ∀ y ∈ r, less c.1 y.1 = true := fun y hy => by
     obtain ⟨c', hc', e'⟩ := i.keys y hy
     rw [e']; exact h1 c' hc'
   have hno : hasKey L c.1 = false := by
     unfold hasKey
     rw [List.any_eq_false]
     intro x hx he
     exact less_ne (h1 x hx) (of_decide_eq_true he).symm
   have hhk : ∀ k, hasKey (c :: L) k = (decide (c.1 = k) || hasKey L k) := fun k => by simp [hasKey]
   rw [rowsGo, if_pos (hm c (by simp)), e]
   refine ⟨_, rfl, ?_⟩
   cases hh : (before L0 c.1 at_).has_ with
   | true =>
     simp only [if_true]
     refine ⟨srt_cons.2 ⟨hfr, i.srt⟩, fun x hx => ?_, fun k => ?_, fun k => ?_⟩
     · rcases List.mem_cons.1 hx with rfl | hx
       · exact ⟨c, by simp, rfl⟩
       · obtain ⟨c', hc', e'⟩ := i.keys x hx
         exact ⟨c', by simp [hc'], e'⟩
     · rw [isAt, hhk]
       rcases less_cases c.1 k with g | g | g
       · simp only [g, if_true, i.is k, decide_eq_false (less_ne g), Bool.false_or]
       · subst g
         simp [less_irrefl, hh]
       · have hk : hasKey L k = false := by
           unfold hasKey
           rw [List.any_eq_false]
           intro x hx he
           exact less_ne (less_trans g (h1 x hx)) (of_decide_eq_true he).symm
         simp [g, less_asymm g, hk, decide_eq_false (fun e : c.1 = k => less_ne g e.symm)]
     · rw [num, hhk]
       rcases less_cases c.1 k with g | g | g
       · simp only [g, if_true, i.n k, decide_eq_false (less_ne g), Bool.false_or]
       · subst g
         simp [less_irrefl, hh]
       · have hk : hasKey L k = false := by
           unfold hasKey
           rw [List.any_eq_false]
           intro x hx he
           exact less_ne (less_trans g (h1 x hx)) (of_decide_eq_true he).symm
         simp [g, less_asymm g, hk, decide_eq_false (fun e : c.1 = k => less_ne g e.symm)]
   | false =>
     simp only [Bool.false_eq_true, if_false]
     refine ⟨i.srt, fun x hx => ?_, fun k => ?_, fun k => ?_⟩
     · obtain ⟨c', hc', e'⟩ := i.keys x hx
       exact ⟨c', by simp [hc'], e'⟩
     · rw [i.is k, hhk]
       by_cases g : c.1 = k
       · subst g; simp [hh]
       · simp [g]
     · rw [i.n k, hhk]
       by_cases g : c.1 = k
       · subst g; simp [hh]
       · simp [g]
theorem vsOf_noKey {k : ByteArray} : ∀ {L : List Chn}, hasKey L k = false → vsOf k L = []
 | [], _ => rfl
 | c :: L, h => by
   simp only [hasKey, List.any_cons, Bool.or_eq_false_iff] at h
   rw [vsOf, if_neg (of_decide_eq_false h.1)]
   exact vsOf_noKey h.2
theorem rows_is {r0 : List Row} {D : List Deed3} {m : Nat} {dn : Nat → Bool} {b : ByteArray → Int} {e : Eng} (G : Good r0 D m dn b e) {n : Nat} (hn : m + n ≤ D.length) (hm : ∀ c ∈ e.chains, (before e.chains c.1 ((m + n : Nat) : Int)).made = true) : rowsC e.chains ((m + n : Nat) : Int) = some (seqR r0 D (m + n)) := by
 obtain ⟨r, h1, h2⟩ := rowsGo_is e.chains ((m + n : Nat) : Int) e.chains G.srt hm
 have key : ∀ k, isAt k r = isAt k (seqR r0 D (m + n)) ∧ num k r = num k (seqR r0 D (m + n)) := fun k => by
   have hs := G.seen hn k
   have hmk : (before e.chains k ((m + n : Nat) : Int)).made = true ∧ (hasKey e.chains k = false → (before e.chains k ((m + n : Nat) : Int)).has_ = false) := by
     cases hk : hasKey e.chains k with
     | true =>
       obtain ⟨c, hc, he⟩ := List.any_eq_true.1 hk
       have := hm c hc
       rw [of_decide_eq_true he] at this
       exact ⟨this, fun h => by cases h⟩
     | false =>
       unfold before
       rw [vsOf_noKey hk]
       exact ⟨rfl, fun _ => rfl⟩
   obtain ⟨e1, e2⟩ := hs.yes hmk.1
   have hand : (hasKey e.chains k && (before e.chains k ((m + n : Nat) : Int)).has_) = isAt k (seqR r0 D (m + n)) := by
     rw [← e1]
     cases hk : hasKey e.chains k with
     | true => rfl
     | false => rw [hmk.2 hk]; rfl
   rw [h2.is, h2.n, hand]
   refine ⟨rfl, ?_⟩
   cases hi : isAt k (seqR r0 D (m + n)) with
   | true => rw [if_pos rfl, e2]
   | false => rw [if_neg (by simp), num_not k _ hi]
 rw [show rowsC e.chains _ = some r from h1]
 rw [srt_ext h2.srt (seqR_right G.rows G.right (m + n)).srt (fun k => (key k).1) (fun k => (key k).2)]
theorem all_made {r0 : List Row} {D : List Deed3} {m : Nat} {dn : Nat → Bool} {b : ByteArray → Int} {e : Eng} (G : Good r0 D m dn b e) {n : Nat} (hn : m + n ≤ D.length) (hd : ∀ i, m ≤ i → i < m + n → dn i = true) (k : ByteArray) : (before e.chains k ((m + n : Nat) : Int)).made = true := by
 cases h : (before e.chains k ((m + n : Nat) : Int)).made with
 | true => rfl
 | false =>
   obtain ⟨i, h1, h2, _, h3, _⟩ := (G.seen hn k).no h
   rw [hd i h1 h2] at h3; cases h3

theorem Good.state_at {r0 : List Row} {D : List Deed3} {m : Nat} {dn : Nat → Bool} {b : ByteArray → Int} {e : Eng} (G : Good r0 D m dn b e) {p : Nat} (hp : m + p < D.length) : e.state.getD p 0 = if dn (m + p) = true then 1 else 0 := by
 have hp' : p < D.length - m := by omega
 rw [G.state]
 simp [List.getD, List.getElem?_map, List.getElem?_range' hp']
theorem ready_mem {r0 : List Row} {D : List Deed3} {m : Nat} {dn : Nat → Bool} {b : ByteArray → Int} {e : Eng} (G : Good r0 D m dn b e) {p : Nat} : p ∈ readyE e ↔ m + p < D.length ∧ dn (m + p) = false ∧ needsE e p = [] := by
 unfold readyE
 rw [List.mem_filter, List.mem_range, G.len]
 constructor
 · rintro ⟨h1, h2⟩
   have hp : m + p < D.length := by omega
   rw [G.state_at hp] at h2
   simp only [Bool.and_eq_true, decide_eq_true_eq, List.isEmpty_iff] at h2
   refine ⟨hp, ?_, h2.2⟩
   cases h : dn (m + p) with
   | false => rfl
   | true => rw [h] at h2; cases h2.1
 · rintro ⟨h1, h2, h3⟩
   refine ⟨by omega, ?_⟩
   rw [G.state_at h1, h2, h3]
   rfl
theorem first_ready {r0 : List Row} {D : List Deed3} {m : Nat} {dn : Nat → Bool} {b : ByteArray → Int} {e : Eng} (G : Good r0 D m dn b e) {p : Nat} (hp : m + p < D.length) (hw : dn (m + p) = false) (hf : ∀ i, m ≤ i → i < m + p → dn i = true) : p ∈ readyE e := by
 refine (ready_mem G).2 ⟨hp, hw, ?_⟩
 cases h : needsE e p with
 | nil => rfl
 | cons j l =>
   obtain ⟨h1, h2⟩ := need_back G hp (j := j) (by rw [h]; simp)
   rw [hf (m + j) (by omega) (by omega)] at h2; cases h2
theorem some_ready {r0 : List Row} {D : List Deed3} {m : Nat} {dn : Nat → Bool} {b : ByteArray → Int} {e : Eng} (G : Good r0 D m dn b e) {i : Nat} (hi : m ≤ i) (hl : i < D.length) (hw : dn i = false) : readyE e ≠ [] := by
 have : ∀ n i, i - m = n → m ≤ i → i < D.length → dn i = false → readyE e ≠ [] := by
   intro n
   induction n using Nat.strongRecOn with
   | _ n ih =>
     intro i hn hi hl hw
     by_cases hf : ∀ j, m ≤ j → j < i → dn j = true
     · have := first_ready G (p := i - m) (by omega) (by rw [show m + (i - m) = i from by omega]; exact hw) (fun j h1 h2 => hf j h1 (by omega))
       intro h0
       rw [h0] at this; cases this
     · simp only [Classical.not_forall] at hf
       obtain ⟨j, h1, h2, h3⟩ := hf
       exact ih (j - m) (by omega) j rfl h1 (by omega) (by simpa using h3)
 exact this _ i rfl hi hl hw
theorem none_ready {r0 : List Row} {D : List Deed3} {m : Nat} {dn : Nat → Bool} {b : ByteArray → Int} {e : Eng} (G : Good r0 D m dn b e) (h : readyE e = []) : ∀ i, m ≤ i → i < D.length → dn i = true := fun i h1 h2 => by
 cases hd : dn i with
 | true => rfl
 | false => exact absurd h (some_ready G h1 h2 hd)
end Go.Proofs.YtnbekpblmkdnlaaGreatDoor

namespace Go.Proofs.YtnbekpblmkdnlaaGreatDoor
open Go.RowKit

theorem fit_of_vs {L : List Chn} (hs : SrtC L) (hn : ∀ c ∈ L, c.2 ≠ []) (hk : ∀ k, vsOf k L ≠ [] → keyB k = true) (hr : ∀ k, Rise (vsOf k L)) (hf : ∀ k, (vsOf k L).length ≤ 1954687338214) : FitC L := by
 refine ⟨hs, fun c hc => ?_, fun c hc => ?_, fun c hc => ?_⟩
 · exact hk c.1 (by rw [vsOf_own hs hc]; exact hn c hc)
 · have := hr c.1; rwa [vsOf_own hs hc] at this
 · have := hf c.1; rwa [vsOf_own hs hc] at this
theorem rise_append {a b : List Ver} (ha : Rise a) (hb : Rise b) (h : ∀ x ∈ a, ∀ y ∈ b, x.by_ < y.by_) : Rise (a ++ b) := List.pairwise_append.2 ⟨ha, hb, h⟩
theorem newsV_rise (r0 : List Row) (D : List Deed3) (dn : Nat → Bool) (k : ByteArray) (a : Nat) : ∀ n, Rise (newsV r0 D dn k a n)
 | 0 => List.Pairwise.nil
 | n + 1 => by
   rw [newsV_succ]
   refine rise_append (newsV_rise r0 D dn k a n) ?_ (fun x hx y hy => ?_)
   · split
     · exact List.pairwise_singleton _ _
     · exact List.Pairwise.nil
   · obtain ⟨i, _, h2, rfl, _⟩ := newsV_by hx
     split at hy
     · simp at hy
       rw [hy, verI_by, verI_by]; omega
     · cases hy
theorem newsV_len (r0 : List Row) (D : List Deed3) (dn : Nat → Bool) (k : ByteArray) (a n : Nat) : (newsV r0 D dn k a n).length ≤ n := by
 unfold newsV
 rw [List.length_map]
 exact Nat.le_trans (List.length_filter_le _ _) (by simp)
theorem isAt_mem {k : ByteArray} : ∀ {l : List Row}, isAt k l = true → ∃ x ∈ l, x.1 = k
 | [], h => by cases h
 | x :: l, h => by
   rw [isAt] at h
   by_cases h1 : less x.1 k = true
   · rw [if_pos h1] at h
     obtain ⟨y, hy, e⟩ := isAt_mem h
     exact ⟨y, by simp [hy], e⟩
   · rw [if_neg h1] at h
     by_cases h2 : less k x.1 = true
     · simp [h2] at h
     · exact ⟨x, by simp, less_tri (by simpa using h1) (by simpa using h2)⟩
theorem Good.key {r0 : List Row} {D : List Deed3} {m : Nat} {dn : Nat → Bool} {b : ByteArray → Int} {e : Eng} (G : Good r0 D m dn b e) {k : ByteArray} (h : vsOf k e.chains ≠ []) : keyB k = true := by
 rw [G.vs k] at h
 by_cases h1 : isAt k (seqR r0 D m) = true
 · obtain ⟨x, hx, rfl⟩ := isAt_mem h1
   exact (seqR_right G.rows G.right m).key x hx
 · have ho : oldV r0 D m b k = [] := by unfold oldV; rw [if_neg h1]
   rw [ho, List.nil_append] at h
   obtain ⟨v, hv⟩ := List.exists_mem_of_ne_nil _ h
   obtain ⟨i, h2, h3, _, hw⟩ := newsV_by hv
   have hi : i < D.length := by have := G.le; omega
   exact wKeys_key (rights_at G.right hi).w (has_iff.1 hw)
theorem Good.rise {r0 : List Row} {D : List Deed3} {m : Nat} {dn : Nat → Bool} {b : ByteArray → Int} {e : Eng} (G : Good r0 D m dn b e) (k : ByteArray) : Rise (vsOf k e.chains) := by
 rw [G.vs k]
 refine rise_append ?_ (newsV_rise _ _ _ _ _ _) (fun x hx y hy => ?_)
 · unfold oldV
   split
   · exact List.pairwise_singleton _ _
   · exact List.Pairwise.nil
 · obtain ⟨i, h2, _, rfl, _⟩ := newsV_by hy
   rw [verI_by]
   unfold oldV at hx
   split at hx
   · simp at hx
     rw [hx]
     have := G.hi k
     show b k < _
     omega
   · cases hx
theorem Good.by_lt {r0 : List Row} {D : List Deed3} {m : Nat} {dn : Nat → Bool} {b : ByteArray → Int} {e : Eng} (G : Good r0 D m dn b e) {k : ByteArray} {v : Ver} (h : v ∈ vsOf k e.chains) : v.by_ < e.base + e.deeds.length := by
 have hle := G.le
 rw [G.base, G.len]
 rw [G.vs k] at h
 rcases List.mem_append.1 h with h | h
 · unfold oldV at h
   split at h
   · simp at h
     rw [h]
     have := G.hi k
     show b k < _
     omega
   · cases h
 · obtain ⟨i, h2, h3, rfl, _⟩ := newsV_by h
   rw [verI_by]; omega
theorem Good.vs_len {r0 : List Row} {D : List Deed3} {m : Nat} {dn : Nat → Bool} {b : ByteArray → Int} {e : Eng} (G : Good r0 D m dn b e) (k : ByteArray) : (vsOf k e.chains).length ≤ 1 + D.length := by
 rw [G.vs k, List.length_append]
 have h1 := newsV_len r0 D dn k m (D.length - m)
 have h2 : (oldV r0 D m b k).length ≤ 1 := by unfold oldV; split <;> simp
 omega
theorem Good.fit {r0 : List Row} {D : List Deed3} {m : Nat} {dn : Nat → Bool} {b : ByteArray → Int} {e : Eng} (G : Good r0 D m dn b e) (hD : D.length ≤ 1954687338211) : FitC e.chains :=
 fit_of_vs G.srt G.some_ (fun _ h => G.key h) G.rise (fun k => by have := G.vs_len k; omega)
theorem take_nodup {l : List ByteArray} (h : l.Nodup) (j : Nat) : (l.take j).Nodup := List.Sublist.nodup (List.take_sublist _ _) h
theorem Good.fit_add {r0 : List Row} {D : List Deed3} {m : Nat} {dn : Nat → Bool} {b : ByteArray → Int} {e : Eng} (G : Good r0 D m dn b e) (hD : D.length ≤ 1954687338211) {W : List ByteArray} (hW : wKeys W = 0) (j : Nat) : FitC (addW (e.base + e.deeds.length) (W.take j) e.chains) := by
 have hv : ∀ k, vsOf k (addW (e.base + e.deeds.length) (W.take j) e.chains) = if has (W.take j) k = true then vsOf k e.chains ++ [newV (e.base + e.deeds.length)] else vsOf k e.chains := fun k => vsOf_addW _ (take_nodup (wKeys_nodup hW) j) G.srt
 refine fit_of_vs (addW_srt _ G.srt) (addW_some _ G.some_) (fun k h => ?_) (fun k => ?_) (fun k => ?_)
 · rw [hv k] at h
   split at h
   · rename_i hh
     exact wKeys_key hW (List.mem_of_mem_take (has_iff.1 hh))
   · exact G.key h
 · rw [hv k]
   split
   · exact rise_snoc (G.rise k) (fun u hu => G.by_lt hu)
   · exact G.rise k
 · rw [hv k]
   have := G.vs_len k
   split
   · simp; omega
   · omega
theorem Good.fit_set {r0 : List Row} {D : List Deed3} {m : Nat} {dn : Nat → Bool} {b : ByteArray → Int} {e : Eng} (G : Good r0 D m dn b e) (hD : D.length ≤ 1954687338211) {W : List ByteArray} (hW : wKeys W = 0) (by_ : Int) (r : List Row) (j : Nat) : FitC (setW by_ r (W.take j) e.chains) := by
 have hv : ∀ k, vsOf k (setW by_ r (W.take j) e.chains) = if has (W.take j) k = true then setV (by_, true, isAt k r, num k r) (vsOf k e.chains) else vsOf k e.chains := fun k => vsOf_setW _ (take_nodup (wKeys_nodup hW) j)
 refine fit_of_vs (setW_srt _ G.srt) (setW_some _ G.some_) (fun k h => ?_) (fun k => ?_) (fun k => ?_)
 · rw [hv k] at h
   split at h
   · refine G.key (fun h0 => h ?_)
     rw [h0]; rfl
   · exact G.key h
 · rw [hv k]
   split
   · exact setV_rise (G.rise k)
   · exact G.rise k
 · rw [hv k]
   have := G.vs_len k
   split
   · rw [setV_len]; omega
   · omega
theorem addW_snoc (by_ : Int) (W : List ByteArray) (k : ByteArray) (L : List Chn) : addW by_ (W ++ [k]) L = addC k by_ (addW by_ W L) := by simp [addW]
theorem setW_snoc (by_ : Int) (r : List Row) (W : List ByteArray) (k : ByteArray) (L : List Chn) : setW by_ r (W ++ [k]) L = setC k (by_, true, isAt k r, num k r) (setW by_ r W L) := by simp [setW]
theorem Good.slen {r0 : List Row} {D : List Deed3} {m : Nat} {dn : Nat → Bool} {b : ByteArray → Int} {e : Eng} (G : Good r0 D m dn b e) : e.state.length = e.deeds.length := by rw [G.state, G.len]; simp
theorem Good.elen {r0 : List Row} {D : List Deed3} {m : Nat} {dn : Nat → Bool} {b : ByteArray → Int} {e : Eng} (G : Good r0 D m dn b e) : e.ends.length = e.deeds.length := by rw [G.ends, G.len]; simp

theorem keys_filter : ∀ (l out : List ByteArray), l.Nodup → l.foldl addKey out = out ++ l.filter (fun k => !has out k)
 | [], out, _ => by simp
 | k :: l, out, h => by
   obtain ⟨h1, h2⟩ := List.nodup_cons.1 h
   rw [List.foldl_cons, keys_filter l _ h2, List.filter_cons]
   unfold addKey
   by_cases hk : has out k = true
   · rw [if_pos hk]; simp [hk]
   · have hk' : has out k = false := by simpa using hk
     rw [if_neg hk]
     simp only [hk', Bool.not_false, if_true]
     rw [List.append_assoc]
     congr 1
     simp only [List.singleton_append, List.cons.injEq, true_and]
     refine List.filter_congr fun x hx => ?_
     have hne : k ≠ x := fun e => h1 (by rw [e]; exact hx)
     rw [has_snoc, decide_eq_false hne, Bool.or_false]
def keysP (d : Deed3) : List ByteArray := d.1 ++ d.2.1.filter (fun k => !has d.1 k)
theorem keysP_is {d : Deed3} (h1 : d.1.Nodup) (h2 : d.2.1.Nodup) : keysP d = keysD d := by
 unfold keysP keysD
 rw [List.foldl_append, keys_filter d.1 [] h1]
 have : d.1.filter (fun k => !has [] k) = d.1 := List.filter_eq_self.2 (fun k _ => by simp [has])
 rw [this, List.nil_append, keys_filter d.2.1 d.1 h2]

theorem compact_mem {zs : List Int} {x : Int} : x ∈ Lib.compact zs ↔ x ∈ zs := by
 unfold Lib.compact
 have key : ∀ m, m ≤ zs.length → (x ∈ Lib.compactUpTo zs.toArray m ↔ x ∈ zs.take m) := by
   intro m
   induction m with
   | zero => intro _; simp [Lib.compactUpTo]
   | succ m ih =>
     intro hm
     have hml : m < zs.length := by omega
     have e : zs.toArray[m]! = zs[m] := by simp [hml]
     rw [Lib.compactUpTo_succ, List.mem_append, ih (by omega), List.take_succ_eq_append_getElem hml, List.mem_append, e]
     by_cases hk : Lib.keeps zs.toArray m = true
     · rw [if_pos hk]
     · rw [if_neg hk]
       constructor
       · rintro (h | h)
         · exact .inl h
         · cases h
       · rintro (h | h)
         · exact .inl h
         · left
           simp only [List.mem_singleton] at h
           have hz : ¬ (m = 0 ∨ zs.toArray[m]! ≠ zs.toArray[m - 1]!) := by simpa [Lib.keeps] using hk
           simp only [not_or, Classical.not_not] at hz
           have hm1 : m - 1 < zs.length := by omega
           have e1 : zs.toArray[m - 1]! = zs[m - 1] := by simp [hm1]
           rw [e, e1] at hz
           rw [h, hz.2]
           exact List.mem_take_iff_getElem.2 ⟨m - 1, by omega, rfl⟩
 rw [key _ (Nat.le_refl _), List.take_length]
theorem compact_rise {zs : List Int} (h : zs.Pairwise (· ≤ ·)) : (Lib.compact zs).Pairwise (· < ·) := by
 unfold Lib.compact
 have key : ∀ m, m ≤ zs.length → (Lib.compactUpTo zs.toArray m).Pairwise (· < ·) := by
   intro m
   induction m with
   | zero => intro _; simp [Lib.compactUpTo]
   | succ m ih =>
     intro hm
     have hml : m < zs.length := by omega
     have e : zs.toArray[m]! = zs[m] := by simp [hml]
     rw [Lib.compactUpTo_succ, e]
     by_cases hk : Lib.keeps zs.toArray m = true
     · rw [if_pos hk, List.pairwise_append]
       refine ⟨ih (by omega), List.pairwise_singleton _ _, fun x hx y hy => ?_⟩
       simp only [List.mem_singleton] at hy
       subst hy
       obtain ⟨j, hj, rfl⟩ := List.mem_map.1 hx
       have hjm := List.mem_range.1 (List.mem_filter.1 hj).1
       have hz : m = 0 ∨ zs.toArray[m]! ≠ zs.toArray[m - 1]! := by simpa [Lib.keeps] using hk
       have hm1 : m - 1 < zs.length := by omega
       have e1 : zs.toArray[m - 1]! = zs[m - 1] := by simp [hm1]
       have hjl : j < zs.length := by omega
       have ej : zs.toArray[j]! = zs[j] := by simp [hjl]
       rw [e, e1] at hz
       have hne : zs[m] ≠ zs[m - 1] := by
         rcases hz with h0 | h0
         · omega
         · exact h0
       have p1 : zs[m - 1] ≤ zs[m] := List.pairwise_iff_getElem.1 h (m - 1) m hm1 hml (by omega)
       have p2 : zs[j] ≤ zs[m - 1] := by
         by_cases hjm1 : j = m - 1
         · subst hjm1; exact Int.le_refl _
         · exact List.pairwise_iff_getElem.1 h j (m - 1) hjl hm1 (by omega)
       show zs.toArray[j]! < zs[m]
       rw [ej]
       omega
     · rw [if_neg hk, List.append_nil]
       exact ih (by omega)
 exact key _ (Nat.le_refl _)
theorem rise_ext : ∀ {a b : List Int}, a.Pairwise (· < ·) → b.Pairwise (· < ·) → (∀ x, x ∈ a ↔ x ∈ b) → a = b
 | [], [], _, _, _ => rfl
 | [], y :: b, _, _, h => by have := (h y).2 (by simp); cases this
 | x :: a, [], _, _, h => by have := (h x).1 (by simp); cases this
 | x :: a, y :: b, ha, hb, h => by
   obtain ⟨ha1, ha2⟩ := List.pairwise_cons.1 ha
   obtain ⟨hb1, hb2⟩ := List.pairwise_cons.1 hb
   have exy : x = y := by
     have h1 := (h x).1 (by simp)
     have h2 := (h y).2 (by simp)
     rcases List.mem_cons.1 h1 with e | h1
     · exact e
     · rcases List.mem_cons.1 h2 with e | h2
       · exact e.symm
       · have := ha1 y h2; have := hb1 x h1; omega
   subst exy
   rw [rise_ext ha2 hb2 (fun z => ?_)]
   constructor
   · intro hz
     have h1 := ha1 z hz
     rcases List.mem_cons.1 ((h z).1 (by simp [hz])) with e | h2
     · omega
     · exact h2
   · intro hz
     have h1 := hb1 z hz
     rcases List.mem_cons.1 ((h z).2 (by simp [hz])) with e | h2
     · omega
     · exact h2
def needK (e : Eng) (p : Nat) (k : ByteArray) : List Int := if (before e.chains k (e.base + p)).made = true then [] else [(before e.chains k (e.base + p)).by_ - e.base]
def needP (e : Eng) (p : Nat) (K : List ByteArray) : List Int := K.flatMap (needK e p)
theorem needP_snoc (e : Eng) (p : Nat) (K : List ByteArray) (k : ByteArray) : needP e p (K ++ [k]) = needP e p K ++ needK e p k := by simp [needP]
def ints (l : List Nat) : List Int := l.map (fun n : Nat => (n : Int))
theorem needs_prog {r0 : List Row} {D : List Deed3} {m : Nat} {dn : Nat → Bool} {b : ByteArray → Int} {e : Eng} (G : Good r0 D m dn b e) {p : Nat} (hp : m + p < D.length) :
   Lib.compact ((needP e p (keysD (e.deeds.getD p default))).mergeSort fun x y => decide (x ≤ y)) = ints (needsE e p) := by
 refine rise_ext (compact_rise ?_) ?_ (fun x => ?_)
 · have := List.pairwise_mergeSort (le := fun x y : Int => decide (x ≤ y)) (fun a b c h1 h2 => by simp at *; omega) (fun a b => by simp; omega) (needP e p (keysD (e.deeds.getD p default)))
   exact this.imp (fun h => by simpa using h)
 · unfold ints needsE
   rw [List.pairwise_map]
   exact ((List.pairwise_lt_range (n := p)).filter _).imp (fun h => by omega)
 · rw [compact_mem, List.mem_mergeSort]
   unfold ints needP
   rw [List.mem_flatMap, List.mem_map]
   constructor
   · rintro ⟨k, hk, hx⟩
     unfold needK at hx
     split at hx
     · cases hx
     · rename_i hm
       simp only [List.mem_singleton] at hx
       have hm' : (before e.chains k (e.base + p)).made = false := by simpa using hm
       have hs := G.seen (n := p) (by omega) k
       rw [← G.at_] at hs
       obtain ⟨i, h1, h2, _, _, hv⟩ := hs.no hm'
       refine ⟨i - m, ?_, ?_⟩
       · unfold needsE
         rw [List.mem_filter, List.mem_range]
         refine ⟨by omega, ?_⟩
         unfold needE
         rw [List.any_eq_true]
         refine ⟨k, hk, ?_⟩
         rw [hv, G.base]
         have hi : (newV (i : Int)).by_ = (m : Int) + ((i - m : Nat) : Int) := by show (i : Int) = _; omega
         rw [decide_eq_true hi]
         rfl
       · rw [hx, hv, G.base]
         show ((i - m : Nat) : Int) = (i : Int) - m
         omega
   · rintro ⟨j, hj, rfl⟩
     unfold needsE at hj
     obtain ⟨h1, h2⟩ := List.mem_filter.1 hj
     unfold needE at h2
     rw [List.any_eq_true] at h2
     obtain ⟨k, hk, h3⟩ := h2
     simp only [Bool.and_eq_true, Bool.not_eq_true', decide_eq_true_eq] at h3
     refine ⟨k, hk, ?_⟩
     unfold needK
     rw [h3.1, if_neg (by simp), h3.2]
     simp only [List.mem_singleton]
     omega
end Go.Proofs.YtnbekpblmkdnlaaGreatDoor

namespace Go.Proofs.YtnbekpblmkdnlaaGreatDoor
open Go.RowKit

def wDs : List Deed3 → Int
 | [] => 0
 | d :: l => if wDeed d.1 d.2.1 d.2.2 = 0 then wDs l else wDeed d.1 d.2.1 d.2.2
theorem wDs_of : ∀ {l : List Deed3}, RightDs l → wDs l = 0
 | [], _ => rfl
 | d :: l, h => by
   rw [wDs, if_pos (right_wDeed (h d (by simp)))]
   exact wDs_of (fun x hx => h x (by simp [hx]))
theorem wDs_first : ∀ {l : List Deed3} {j : Nat}, j < l.length → RightDs (l.take j) → wDeed (l.getD j default).1 (l.getD j default).2.1 (l.getD j default).2.2 ≠ 0 → wDs l = wDeed (l.getD j default).1 (l.getD j default).2.1 (l.getD j default).2.2
 | [], _, h, _, _ => absurd h (Nat.not_lt_zero _)
 | d :: l, 0, _, _, h => by
   have h' : wDeed d.1 d.2.1 d.2.2 ≠ 0 := by simpa using h
   rw [wDs, if_neg h']; simp
 | d :: l, j + 1, hj, hr, h => by
   rw [wDs, if_pos (right_wDeed (hr d (by simp)))]
   have := wDs_first (l := l) (j := j) (by simpa using hj) (fun x hx => hr x (by simp [hx])) (by simpa using h)
   simpa using this
theorem rights_next {l : List Deed3} {j : Nat} (hj : j < l.length) (h : RightDs (l.take j)) (h2 : wDeed (l.getD j default).1 (l.getD j default).2.1 (l.getD j default).2.2 = 0) : RightDs (l.take (j + 1)) := fun d hd => by
 rw [take_snoc_getD hj] at hd
 rcases List.mem_append.1 hd with h3 | h3
 · exact h d h3
 · simp only [List.mem_singleton] at h3
   rw [h3]; exact right_deed h2
def zeroEng : Eng := ⟨[], [], [], [], 0⟩
theorem addAll_snoc (e : Eng) (l : List Deed3) (d : Deed3) : addAll e (l ++ [d]) = addD (addAll e l) d := by simp [addAll]
theorem addAll_base (e : Eng) : ∀ l : List Deed3, (addAll e l).base = e.base := fun l => by
 induction l generalizing e with
 | nil => rfl
 | cons d l ih => exact ih (addD e d)
theorem getD_in {α : Type} [Inhabited α] {l : List α} {j : Nat} (h : j < l.length) : l.getD j default ∈ l := by simp [List.getD, h]
theorem sees_right {r0 : List Row} {D : List Deed3} {m : Nat} {dn : Nat → Bool} {b : ByteArray → Int} {e : Eng} (G : Good r0 D m dn b e) {p : Nat} (hp : m + p < D.length) (hn : needsE e p = []) : ∀ j, Right (((keysD (e.deeds.getD p default)).take j).foldl (seesK e.chains (e.base + p)) []) := by
 have hkey : ∀ k ∈ keysD (e.deeds.getD p default), keyB k = true ∧ ((before e.chains k (e.base + p)).has_ = true → InR (before e.chains k (e.base + p)).n) := fun k hk => by
   have hd := rights_at G.right hp
   rw [G.deed] at hk
   refine ⟨?_, fun _ => ?_⟩
   · rcases keysD_mem.1 hk with h | h
     · exact wKeys_key hd.r h
     · exact wKeys_key hd.w h
   · have hm := (needs_nil G hp).1 hn k hk
     obtain ⟨_, e2⟩ := (G.seen (n := p) (by omega) k).yes hm
     rw [G.at_, e2]
     exact num_inR (seqR_right G.rows G.right _) k
 intro j
 induction j with
 | zero => exact right_of rfl
 | succ j ih =>
   by_cases hj : j < (keysD (e.deeds.getD p default)).length
   · rw [take_snoc_getD hj, List.foldl_append, List.foldl_cons, List.foldl_nil]
     obtain ⟨h1, h2⟩ := hkey ((keysD (e.deeds.getD p default)).getD j default) (getD_in hj)
     unfold seesK
     split
     · rename_i hh
       exact right_ins ih h1 (h2 hh).1 (h2 hh).2
     · exact ih
   · rw [List.take_of_length_le (by omega)]
     rw [List.take_of_length_le (by omega)] at ih
     exact ih
theorem keysD_len {d : Deed3} (h : RightDD d) : (keysD d).length ≤ 10 := by
 rw [← keysP_is (wKeys_nodup h.r) (wKeys_nodup h.w)]
 unfold keysP
 have h1 := wKeys_len h.r
 have h2 := wKeys_len h.w
 have h3 := List.length_filter_le (fun k => !has d.1 k) d.2.1
 rw [List.length_append]
 omega
theorem sees_len (L : List Chn) (at_ : Int) : ∀ (K : List ByteArray) (r : List Row), (K.foldl (seesK L at_) r).length ≤ r.length + K.length
 | [], r => Nat.le_refl _
 | k :: K, r => by
   have h1 := sees_len L at_ K (seesK L at_ r k)
   have h2 : (seesK L at_ r k).length ≤ r.length + 1 := by
     unfold seesK
     split
     · exact ins_length _ _ _
     · omega
   rw [List.foldl_cons, List.length_cons]
   omega
end Go.Proofs.YtnbekpblmkdnlaaGreatDoor
