/-
  Plain mathematics of engines: what New, Add, Go and Clear make of one keeps what each engine is.
  Plain mathematics of engines: what is old forgotten, what keys have when, and that all is done at last.
-/
import Derived.Test.YtagangiilcicpaeGreatEngGood
import Derived.Test.YtagangiilcicpaeGreatChainFind
namespace Go.Proofs.YtagangiilcicpaeGreat
open Go.RowKit

/-! ### What a deed sees -/
structure SeesIs (L : List Chn) (at_ : Int) (K : List ByteArray) (r r' : List Row) : Prop where
  srt : Srt r'
  is : ∀ x, isAt x r' = ((has K x && (before L x at_).has_) || isAt x r)
  n : ∀ x, num x r' = if (has K x && (before L x at_).has_) = true then (before L x at_).n else num x r
theorem sees_fold (L : List Chn) (at_ : Int) : ∀ (K : List ByteArray) (r : List Row), Srt r → SeesIs L at_ K r (K.foldl (seesK L at_) r)
  | [], r, h => ⟨h, fun x => by simp [has], fun x => by simp [has]⟩
  | k :: K, r, h => by
    have hs : Srt (seesK L at_ r k) := by
      unfold seesK; split
      · exact srt_ins h
      · exact h
    obtain ⟨i1, i2, i3⟩ := sees_fold L at_ K (seesK L at_ r k) hs
    refine ⟨i1, fun x => ?_, fun x => ?_⟩
    · rw [List.foldl_cons, i2 x, has_cons]
      unfold seesK
      by_cases e : x = k
      · subst e
        cases hh : (before L x at_).has_ with
        | true => simp [isAt_ins]
        | false => simp
      · have hd : decide (k = x) = false := decide_eq_false (Ne.symm e)
        rw [hd, Bool.false_or]
        split
        · rw [(other_ins _ e r h).1]
        · rfl
    · rw [List.foldl_cons, i3 x, has_cons]
      unfold seesK
      by_cases e : x = k
      · subst e
        cases hh : (before L x at_).has_ with
        | true => simp [num_ins]
        | false => simp
      · have hd : decide (k = x) = false := decide_eq_false (Ne.symm e)
        rw [hd, Bool.false_or]
        split
        · rfl
        · split
          · rw [(other_ins _ e r h).2]
          · rfl
/-- A deed that needs nothing sees of its keys what they have one by one. -/
theorem sees_is {r0 : List Row} {D : List Deed3} {m : Nat} {dn : Nat → Bool} {b : ByteArray → Int} {e : Eng} (G : Good r0 D m dn b e) {p : Nat} (hp : m + p < D.length) (hn : needsE e p = []) : Srt (seesE e p) ∧ ∀ x ∈ keysD (D.getD (m + p) default), isAt x (seesE e p) = isAt x (seqR r0 D (m + p)) ∧ num x (seesE e p) = num x (seqR r0 D (m + p)) := by
  unfold seesE
  rw [G.deed, G.at_]
  obtain ⟨h1, h2, h3⟩ := sees_fold e.chains ((m + p : Nat) : Int) (keysD (D.getD (m + p) default)) [] List.Pairwise.nil
  refine ⟨h1, fun x hx => ?_⟩
  have hm := (needs_nil G hp).1 hn x hx
  obtain ⟨e1, e2⟩ := (G.seen (n := p) (by omega) x).yes hm
  rw [h2, h3, has_iff.2 hx, e1]
  refine ⟨by simp [isAt], ?_⟩
  cases hi : isAt x (seqR r0 D (m + p)) with
  | true => simpa using e2
  | false => rw [num_not x _ hi]; simp [num]
theorem sees_ex {r0 : List Row} {D : List Deed3} {m : Nat} {dn : Nat → Bool} {b : ByteArray → Int} {e : Eng} (G : Good r0 D m dn b e) {p : Nat} (hp : m + p < D.length) (hn : needsE e p = []) : exD (seesE e p) (D.getD (m + p) default) = exD (seqR r0 D (m + p)) (D.getD (m + p) default) := by
  unfold exD
  refine exec_same _ _ _ _ fun i hi hk => ?_
  exact ((sees_is G hp hn).2 i.key (keysD_mem.2 (.inl (right_loads (rights_at G.right hp) i hi hk)))).2
theorem sees_end {r0 : List Row} {D : List Deed3} {m : Nat} {dn : Nat → Bool} {b : ByteArray → Int} {e : Eng} (G : Good r0 D m dn b e) {p : Nat} (hp : m + p < D.length) (hn : needsE e p = []) : endD (seesE e p) (D.getD (m + p) default) = endD (seqR r0 D (m + p)) (D.getD (m + p) default) := by
  unfold endD; rw [sees_ex G hp hn]
theorem sees_do {r0 : List Row} {D : List Deed3} {m : Nat} {dn : Nat → Bool} {b : ByteArray → Int} {e : Eng} (G : Good r0 D m dn b e) {p : Nat} (hp : m + p < D.length) (hn : needsE e p = []) {k : ByteArray} (hk : k ∈ (D.getD (m + p) default).2.1) :
    isAt k (doD (seesE e p) (D.getD (m + p) default)) = isAt k (seqR r0 D (m + p + 1)) ∧ num k (doD (seesE e p) (D.getD (m + p) default)) = num k (seqR r0 D (m + p + 1)) := by
  obtain ⟨hs, hx⟩ := sees_is G hp hn
  obtain ⟨e1, e2⟩ := hx k (keysD_mem.2 (.inr hk))
  have hd := rights_at G.right hp
  have hq := (seqR_right G.rows G.right (m + p)).srt
  rw [seqR_succ hp, doD_at hs hd, doD_at hq hd, doD_num hs hd, doD_num hq hd, sees_ex G hp hn]
  unfold isThere look
  simp only [e1, e2]
  exact ⟨trivial, trivial⟩

/-! ### Go -/
def doneNow (dn : Nat → Bool) (i : Nat) : Nat → Bool := fun j => if j = i then true else dn j
theorem map_set {α : Type} (f g : Nat → α) (m n p : Nat) (x : α) (hx : g (m + p) = x) (hg : ∀ i, i ≠ m + p → g i = f i) : ((List.range' m n).map f).set p x = (List.range' m n).map g := by
  apply List.ext_getElem?
  intro j
  rw [List.getElem?_set, List.getElem?_map, List.getElem?_map]
  by_cases hj : j < n
  · rw [List.getElem?_range' hj]
    by_cases e : p = j
    · subst e
      simp [hj, hx]
    · rw [if_neg e]
      simp only [Option.map_some, Nat.one_mul]
      rw [hg _ (by omega)]
  · rw [List.getElem?_eq_none (by simpa using hj)]
    by_cases e : p = j
    · subst e
      simp [hj]
    · rw [if_neg e]; rfl
theorem setV_news {r0 : List Row} {D : List Deed3} {dn : Nat → Bool} {k : ByteArray} {i : Nat} {v : Ver} (hv : v = verI r0 D (doneNow dn i) k i) (a n : Nat) : setV v (newsV r0 D dn k a n) = newsV r0 D (doneNow dn i) k a n := by
  unfold setV newsV
  rw [List.map_map]
  refine List.map_congr_left fun j hj => ?_
  show (if (verI r0 D dn k j).by_ = v.by_ then v else verI r0 D dn k j) = _
  rw [verI_by, hv, verI_by]
  by_cases e : j = i
  · subst e; rw [if_pos rfl]
  · rw [if_neg (by omega)]
    unfold verI doneNow
    rw [if_neg e]
theorem news_else {r0 : List Row} {D : List Deed3} {dn : Nat → Bool} {k : ByteArray} {i : Nat} (hw : writes D k i = false) (a n : Nat) : newsV r0 D (doneNow dn i) k a n = newsV r0 D dn k a n := by
  unfold newsV
  refine List.map_congr_left fun j hj => ?_
  have hj' := (List.mem_filter.1 hj).2
  have e : j ≠ i := fun e => by rw [e, hw] at hj'; cases hj'
  unfold verI doneNow
  rw [if_neg e]
theorem Good.go {r0 : List Row} {D : List Deed3} {m : Nat} {dn : Nat → Bool} {b : ByteArray → Int} {e : Eng} (G : Good r0 D m dn b e) {p : Nat} (hp : m + p < D.length) (hn : needsE e p = []) : Good r0 D m (doneNow dn (m + p)) b (goE e p) := by
  have hW := (rights_at G.right hp).w
  refine ⟨G.rows, G.right, G.le, fun i hi => ?_, G.base, G.deeds, ?_, ?_, setW_srt _ G.srt, setW_some _ G.some_, fun k => ?_, G.lo, G.hi⟩
  · unfold doneNow; rw [if_neg (by omega)]; exact G.fresh i hi
  · show e.state.set p 1 = _
    rw [G.state]
    exact map_set _ _ m _ p 1 (by simp [doneNow]) (fun i hi => by simp [doneNow, hi])
  · show e.ends.set p _ = _
    rw [G.ends, G.deed, sees_end G hp hn]
    exact map_set _ _ m _ p _ (by simp [doneNow]) (fun i hi => by simp [doneNow, hi])
  · show vsOf k (setW (e.base + p) _ _ e.chains) = _
    rw [G.deed, G.at_, vsOf_setW _ (wKeys_nodup hW), G.vs k]
    cases hk : has (D.getD (m + p) default).2.1 k with
    | true =>
      rw [if_pos rfl, setV_append]
      obtain ⟨e1, e2⟩ := sees_do G hp hn (has_iff.1 hk)
      have ho : setV (((m + p : Nat) : Int), true, isAt k (doD (seesE e p) (D.getD (m + p) default)), num k (doD (seesE e p) (D.getD (m + p) default))) (oldV r0 D m b k) = oldV r0 D m b k := setV_none (fun u hu => by
        unfold oldV at hu
        split at hu
        · simp at hu
          rw [hu]
          have := G.hi k
          show b k ≠ ((m + p : Nat) : Int)
          omega
        · cases hu)
      rw [ho, setV_news (i := m + p)]
      rw [e1, e2]
      unfold verI doneNow
      rw [if_pos (by simp)]
    | false =>
      rw [if_neg (by simp), news_else hk]

/-! ### Add -/
theorem writes_append {D : List Deed3} {d : Deed3} {k : ByteArray} {i : Nat} (h : i < D.length) : writes (D ++ [d]) k i = writes D k i := by
  unfold writes; simp [List.getD, List.getElem?_append_left h]
theorem writes_last {D : List Deed3} {d : Deed3} {k : ByteArray} : writes (D ++ [d]) k D.length = has d.2.1 k := by
  unfold writes; simp [List.getD]
theorem Good.add {r0 : List Row} {D : List Deed3} {m : Nat} {dn : Nat → Bool} {b : ByteArray → Int} {e : Eng} (G : Good r0 D m dn b e) {d : Deed3} (hd : RightDD d) : Good r0 (D ++ [d]) m dn b (addD e d) := by
  have hle := G.le
  have hlen : (D ++ [d]).length - m = (D.length - m) + 1 := by simp; omega
  have hend : m + (D.length - m) = D.length := by omega
  refine ⟨G.rows, fun x hx => ?_, by simp; omega, fun i hi => G.fresh i (by simp at hi; omega), G.base, ?_, ?_, ?_, addW_srt _ G.srt, addW_some _ G.some_, fun k => ?_, G.lo, G.hi⟩
  · rcases List.mem_append.1 hx with h | h
    · exact G.right x h
    · simp at h; rw [h]; exact hd
  · show e.deeds ++ [d] = _
    rw [G.deeds, List.drop_append_of_le_length hle]
  · show e.state ++ [0] = _
    rw [G.state, hlen, ← List.range'_append_1, List.map_append, hend]
    simp [G.fresh D.length (Nat.le_refl _)]
  · show e.ends ++ [noE] = _
    rw [G.ends, hlen, ← List.range'_append_1, List.map_append, hend]
    congr 1
    · refine List.map_congr_left fun i hi => ?_
      have := List.mem_range'_1.1 hi
      rw [seqR_append (by omega)]
      simp [List.getD, List.getElem?_append_left (show i < D.length by omega)]
    · simp [G.fresh D.length (Nat.le_refl _)]
  · show vsOf k (addW (e.base + e.deeds.length) d.2.1 e.chains) = _
    rw [vsOf_addW _ (wKeys_nodup hd.w) G.srt, G.vs k, hlen, newsV_succ, hend, writes_last]
    have ho : oldV r0 (D ++ [d]) m b k = oldV r0 D m b k := by unfold oldV; rw [seqR_append hle]
    have hne : newsV r0 (D ++ [d]) dn k m (D.length - m) = newsV r0 D dn k m (D.length - m) := by
      unfold newsV
      have hf : (List.range' m (D.length - m)).filter (writes (D ++ [d]) k) = (List.range' m (D.length - m)).filter (writes D k) := by
        refine List.filter_congr fun i hi => ?_
        have := List.mem_range'_1.1 hi
        exact writes_append (by omega)
      rw [hf]
      refine List.map_congr_left fun i hi => ?_
      have := List.mem_range'_1.1 (List.mem_filter.1 hi).1
      unfold verI
      rw [seqR_append (by omega)]
    rw [ho, hne]
    have hv : verI r0 (D ++ [d]) dn k D.length = newV (e.base + (e.deeds.length : Int)) := by
      unfold verI
      rw [if_neg (by rw [G.fresh D.length (Nat.le_refl _)]; simp), G.base, G.len]
      congr 1
      omega
    rw [hv]
    cases has d.2.1 k with
    | true => simp
    | false => simp
theorem Good.addAll {r0 : List Row} {m : Nat} {dn : Nat → Bool} {b : ByteArray → Int} {l : List Deed3} : ∀ {D : List Deed3} {e : Eng}, Good r0 D m dn b e → RightDs l → Good r0 (D ++ l) m dn b (addAll e l) := by
  induction l with
  | nil => intro D e G _; simpa [Go.Proofs.YtagangiilcicpaeGreat.addAll] using G
  | cons d l ih =>
    intro D e G hl
    have := ih (G.add (hl d (by simp))) (fun x hx => hl x (by simp [hx]))
    simpa [Go.Proofs.YtagangiilcicpaeGreat.addAll] using this

/-! ### New -/
theorem vsOf_rows (k : ByteArray) : ∀ r : List Row, Srt r → vsOf k (ofRows r) = if isAt k r = true then [(-1, true, true, num k r)] else []
  | [], _ => rfl
  | x :: r, h => by
    obtain ⟨h1, h2⟩ := srt_cons.1 h
    show vsOf k ((x.1, [(-1, true, true, x.2)]) :: ofRows r) = _
    rw [vsOf, isAt, num]
    rcases less_cases x.1 k with g | g | g
    · rw [if_neg (less_ne g), if_pos g, if_pos g]
      exact vsOf_rows k r h2
    · subst g
      simp [less_irrefl]
    · have g2 := less_asymm g
      rw [if_neg (fun e => less_ne g e.symm)]
      simp only [g, g2]
      have := vsOf_rows k r h2
      rw [(isAt_front (k := k) (l := r) (fun y hy => less_trans g (h1 y hy))).1] at this
      simpa using this
theorem Good.new {r0 : List Row} (h : Right r0) : Good r0 [] 0 (fun _ => false) (fun _ => -1) (newE r0) := by
  refine ⟨h, (fun _ h => by cases h), Nat.le_refl _, fun _ _ => rfl, rfl, rfl, rfl, rfl, ?_, ?_, fun k => ?_, fun _ => Int.le_refl _, fun _ => by decide⟩
  · show SrtC (ofRows r0)
    unfold SrtC ofRows
    rw [List.pairwise_map]
    exact h.srt
  · intro c hc
    obtain ⟨x, _, rfl⟩ := List.mem_map.1 hc
    simp
  · show vsOf k (ofRows r0) = _
    rw [vsOf_rows k r0 h.srt]
    show _ = oldV r0 [] 0 (fun _ => -1) k ++ []
    rw [List.append_nil]
    rfl
end Go.Proofs.YtagangiilcicpaeGreat

namespace Go.Proofs.YtagangiilcicpaeGreat
open Go.RowKit

/-! ### Without what is old -/
theorem getLastD_append {α : Type} (a b : List α) (o : α) : (a ++ b).getLastD o = b.getLastD (a.getLastD o) := by
  rw [List.getLastD_eq_getLast?, List.getLastD_eq_getLast?, List.getLastD_eq_getLast?, List.getLast?_append]
  cases b.getLast? <;> rfl
theorem clearV_split {by_ : Int} : ∀ (A B : List Ver), (∀ v ∈ A, v.by_ < by_) → (∀ v ∈ B, by_ ≤ v.by_) → (∀ v ∈ A, v.made = true) → clearV by_ (A ++ B) = (if (A.getLastD ver0).has_ = true then [A.getLastD ver0] else []) ++ B
  | [], B, _, hB, _ => by
    show clearV by_ B = (if ver0.has_ = true then _ else []) ++ B
    rw [clearV_high hB]; rfl
  | [v], B, hA, hB, hm => by
    have hv : decide (v.by_ < by_) = true := by simpa using hA v (by simp)
    have hl : laterV by_ B = false := by
      cases B with
      | nil => rfl
      | cons u B => have := hB u (by simp); simpa [laterV] using this
    have hmv := hm v (by simp)
    show clearV by_ (v :: B) = (if v.has_ = true then [v] else []) ++ B
    rw [clearV, hv, hl, hmv, clearV_high hB]
    cases v.has_ <;> simp
  | v :: u :: A, B, hA, hB, hm => by
    have hv : decide (v.by_ < by_) = true := by simpa using hA v (by simp)
    have hl : laterV by_ (u :: A ++ B) = true := by simpa [laterV] using hA u (by simp)
    have ih := clearV_split (u :: A) B (fun x hx => hA x (by simp at hx ⊢; exact .inr hx)) hB (fun x hx => hm x (by simp at hx ⊢; exact .inr hx))
    show clearV by_ (v :: (u :: A ++ B)) = _
    rw [clearV, if_pos (by rw [hv, hl]; rfl), ih]
    rfl
def clearE (e : Eng) (n : Nat) : Eng := ⟨clearC (e.base + n) e.chains, e.deeds.drop n, e.state.drop n, e.ends.drop n, e.base + n⟩
theorem seenV_by {r0 : List Row} {D : List Deed3} {m : Nat} {dn : Nat → Bool} {b : ByteArray → Int} (hlo : ∀ k, -1 ≤ b k) (hhi : ∀ k, b k < m) (k : ByteArray) (n : Nat) : -1 ≤ (seenV r0 D dn b k m n).by_ ∧ (seenV r0 D dn b k m n).by_ < ((m + n : Nat) : Int) := by
  have h1 : ∀ o : Ver, (-1 ≤ o.by_ ∧ o.by_ < ((m + n : Nat) : Int)) → -1 ≤ ((newsV r0 D dn k m n).getLastD o).by_ ∧ ((newsV r0 D dn k m n).getLastD o).by_ < ((m + n : Nat) : Int) := fun o ho => by
    rw [List.getLastD_eq_getLast?]
    cases h : (newsV r0 D dn k m n).getLast? with
    | none => exact ho
    | some v =>
      obtain ⟨i, _, h2, rfl, _⟩ := newsV_by (List.mem_of_getLast? h)
      simp only [Option.getD_some]
      rw [verI_by]; omega
  unfold seenV
  refine h1 _ ?_
  unfold oldV
  split
  · have := hlo k; have := hhi k
    show -1 ≤ b k ∧ b k < _
    omega
  · show -1 ≤ (-1 : Int) ∧ (-1 : Int) < _
    omega
theorem Good.clear {r0 : List Row} {D : List Deed3} {m : Nat} {dn : Nat → Bool} {b : ByteArray → Int} {e : Eng} (G : Good r0 D m dn b e) {n : Nat} (hn : m + n ≤ D.length) (hd : ∀ i, m ≤ i → i < m + n → dn i = true) : Good r0 D (m + n) dn (fun k => (seenV r0 D dn b k m n).by_) (clearE e n) := by
  have hlen : D.length - m = n + (D.length - (m + n)) := by omega
  refine ⟨G.rows, G.right, hn, G.fresh, by show e.base + (n : Int) = _; rw [G.base]; omega, ?_, ?_, ?_, clearC_srt G.srt, fun c hc => ?_, fun k => ?_, fun k => (seenV_by G.lo G.hi k n).1, fun k => (seenV_by G.lo G.hi k n).2⟩
  · show e.deeds.drop n = _
    rw [G.deeds, List.drop_drop]
  · show e.state.drop n = _
    rw [G.state, ← List.map_drop, List.drop_range', Nat.mul_one]
    congr 2
    omega
  · show e.ends.drop n = _
    rw [G.ends, ← List.map_drop, List.drop_range', Nat.mul_one]
    congr 2
    omega
  · obtain ⟨_, _, _, _, h⟩ := clearC_mem hc; exact h
  · show vsOf k (clearC (e.base + (n : Int)) e.chains) = _
    rw [G.at_, vsOf_clear G.srt, G.vs k, hlen, newsV_append, ← List.append_assoc]
    rw [clearV_split]
    · rw [getLastD_append]
      show (if (seenV r0 D dn b k m n).has_ = true then [seenV r0 D dn b k m n] else []) ++ _ = _
      have hs := seen_is (b := b) (dn := dn) (m := m) G.rows G.right k n hn
      have hm : (seenV r0 D dn b k m n).made = true := by
        cases h : (seenV r0 D dn b k m n).made with
        | true => rfl
        | false =>
          obtain ⟨i, h1, h2, _, h3, _⟩ := hs.no h
          rw [hd i h1 h2] at h3; cases h3
      obtain ⟨e1, e2⟩ := hs.yes hm
      congr 1
      unfold oldV
      rw [e1]
      cases hi : isAt k (seqR r0 D (m + n)) with
      | true =>
        rw [if_pos rfl, if_pos rfl]
        rw [hi] at e1
        congr 1
        exact Prod.ext rfl (Prod.ext hm (Prod.ext e1 e2))
      | false => rfl
    · intro v hv
      rcases List.mem_append.1 hv with h | h
      · unfold oldV at h
        split at h
        · simp at h
          rw [h]
          have := G.hi k
          show b k < _
          omega
        · cases h
      · obtain ⟨i, _, h2, rfl, _⟩ := newsV_by h
        rw [verI_by]; omega
    · intro v hv
      obtain ⟨i, h1, _, rfl, _⟩ := newsV_by hv
      rw [verI_by]; omega
    · intro v hv
      rcases List.mem_append.1 hv with h | h
      · unfold oldV at h
        split at h
        · simp at h; rw [h]
        · cases h
      · obtain ⟨i, h1, h2, rfl, _⟩ := newsV_by h
        unfold verI
        rw [if_pos (hd i h1 h2)]

/-! ### What keys have when -/
/-! ### All is done at last -/
theorem Good.state_at {r0 : List Row} {D : List Deed3} {m : Nat} {dn : Nat → Bool} {b : ByteArray → Int} {e : Eng} (G : Good r0 D m dn b e) {p : Nat} (hp : m + p < D.length) : e.state.getD p 0 = if dn (m + p) = true then 1 else 0 := by
  have hp' : p < D.length - m := by omega
  rw [G.state]
  simp [List.getD, List.getElem?_map, List.getElem?_range' hp']
theorem ready_mem {r0 : List Row} {D : List Deed3} {m : Nat} {dn : Nat → Bool} {b : ByteArray → Int} {e : Eng} (G : Good r0 D m dn b e) {p : Nat} : p ∈ readyE e ↔ m + p < D.length ∧ dn (m + p) = false ∧ needsE e p = [] := by
  unfold readyE
  rw [List.mem_filter, List.mem_range, G.len]
  constructor
  · rintro ⟨h1, h2⟩
    have hp : m + p < D.length := by omega
    rw [G.state_at hp] at h2
    simp only [Bool.and_eq_true, decide_eq_true_eq, List.isEmpty_iff] at h2
    refine ⟨hp, ?_, h2.2⟩
    cases h : dn (m + p) with
    | false => rfl
    | true => rw [h] at h2; cases h2.1
  · rintro ⟨h1, h2, h3⟩
    refine ⟨by omega, ?_⟩
    rw [G.state_at h1, h2, h3]
    rfl
end Go.Proofs.YtagangiilcicpaeGreat
