/-
  Plain mathematics of what is done: an engine is told by what was planned and what is done; all is done at last, whichever goes first; going on with one changes no other one, nor what is made; who was ready is so still, or is the one.
  Plain mathematics of what is forgotten: it goes on the same, and what is done leaves one version each.
-/
import Derived.Test.YtdnafpenljdinadEngClear
import Derived.Test.YtdnafpenljdinadRefOldE
import Derived.Test.YtdnafpenljdinadPlanMath
import Derived.Test.YtdnafpenljdinadEngFit
namespace Go.Proofs.Ytdnafpenljdinad
open Go.RowKit

/-! ### An engine is told by what was planned and what is done -/
theorem Good.uniq {r0 : List Row} {D : List Deed3} {m : Nat} {dn dn' : Nat → Bool} {b b' : ByteArray → Int} {e e' : Eng} (G : Good r0 D m dn b e) (G' : Good r0 D m dn' b' e') (hd : ∀ i, m ≤ i → i < D.length → dn i = dn' i) (hb : ∀ k, isAt k (seqR r0 D m) = true → b k = b' k) : e = e' := by
  have hi : ∀ i ∈ List.range' m (D.length - m), dn i = dn' i := fun i hi => by
    have := List.mem_range'_1.1 hi
    exact hd i this.1 (by omega)
  have h1 : e.chains = e'.chains := by
    refine chains_ext G.srt G'.srt G.some_ G'.some_ (fun k => ?_)
    rw [G.vs, G'.vs]
    congr 1
    · unfold oldV
      split
      · rename_i h; rw [hb k h]
      · rfl
    · unfold newsV
      refine List.map_congr_left fun i h => ?_
      unfold verI
      rw [hi i (List.mem_filter.1 h).1]
  have h2 : e.deeds = e'.deeds := by rw [G.deeds, G'.deeds]
  have h3 : e.state = e'.state := by
    rw [G.state, G'.state]
    exact List.map_congr_left fun i h => by rw [hi i h]
  have h4 : e.ends = e'.ends := by
    rw [G.ends, G'.ends]
    exact List.map_congr_left fun i h => by rw [hi i h]
  have h5 : e.base = e'.base := by rw [G.base, G'.base]
  cases e; cases e'
  simp only at h1 h2 h3 h4 h5
  subst h1; subst h2; subst h3; subst h4; subst h5
  rfl

/-! ### How many wait -/
def waitN (dn : Nat → Bool) (m n : Nat) : Nat := ((List.range' m n).filter (fun i => !dn i)).length
theorem filter_less {α : Type} {f g : α → Bool} : ∀ (l : List α), (∀ x ∈ l, g x = true → f x = true) → (l.filter g).length ≤ (l.filter f).length
  | [], _ => Nat.le_refl _
  | x :: l, h => by
    have ih := filter_less l (fun y hy => h y (by simp [hy]))
    rw [List.filter_cons, List.filter_cons]
    cases hg : g x with
    | true => rw [h x (by simp) hg]; simp only [if_true, List.length_cons]; omega
    | false =>
      simp only [Bool.false_eq_true, if_false]
      split
      · simp only [List.length_cons]; omega
      · exact ih
theorem filter_fewer {α : Type} {f g : α → Bool} : ∀ (l : List α), (∀ x ∈ l, g x = true → f x = true) → (∃ x ∈ l, f x = true ∧ g x = false) → (l.filter g).length < (l.filter f).length
  | [], _, h => by obtain ⟨_, h, _⟩ := h; cases h
  | x :: l, h, hx => by
    have hl : ∀ y ∈ l, g y = true → f y = true := fun y hy => h y (by simp [hy])
    have le := filter_less l hl
    rw [List.filter_cons, List.filter_cons]
    obtain ⟨y, hy, h1, h2⟩ := hx
    rcases List.mem_cons.1 hy with rfl | hy
    · rw [h1, h2]
      simp only [Bool.false_eq_true, if_false, if_true, List.length_cons]
      omega
    · have ih := filter_fewer l hl ⟨y, hy, h1, h2⟩
      cases hg : g x with
      | true => rw [h x (by simp) hg]; simp only [if_true, List.length_cons]; omega
      | false =>
        simp only [Bool.false_eq_true, if_false]
        split
        · simp only [List.length_cons]; omega
        · exact ih
theorem wait_go {dn : Nat → Bool} {m n p : Nat} (hp : p < n) (hw : dn (m + p) = false) : waitN (doneNow dn (m + p)) m n < waitN dn m n := by
  unfold waitN
  refine filter_fewer _ (fun i _ hi => ?_) ⟨m + p, List.mem_range'_1.2 ⟨by omega, by omega⟩, by rw [hw]; rfl, by simp [doneNow]⟩
  unfold doneNow at hi
  split at hi
  · cases hi
  · exact hi
/-- The first one that is ready, and so on. -/
def runE : Nat → Eng → Eng
  | 0, e => e
  | f + 1, e => match readyE e with
    | [] => e
    | p :: _ => runE f (goE e p)
theorem run_good : ∀ (f : Nat) {r0 : List Row} {D : List Deed3} {m : Nat} {dn : Nat → Bool} {b : ByteArray → Int} {e : Eng}, Good r0 D m dn b e → waitN dn m (D.length - m) ≤ f → ∃ dn', Good r0 D m dn' b (runE f e) ∧ ∀ i, m ≤ i → i < D.length → dn' i = true
  | 0, r0, D, m, dn, b, e, G, hf => by
    refine ⟨dn, G, fun i h1 h2 => ?_⟩
    cases hd : dn i with
    | true => rfl
    | false =>
      have : 0 < waitN dn m (D.length - m) := List.length_pos_of_mem (a := i) (List.mem_filter.2 ⟨List.mem_range'_1.2 ⟨h1, by omega⟩, by rw [hd]; rfl⟩)
      omega
  | f + 1, r0, D, m, dn, b, e, G, hf => by
    rw [runE]
    cases hr : readyE e with
    | nil => exact ⟨dn, G, none_ready G hr⟩
    | cons p l =>
      obtain ⟨h1, h2, h3⟩ := (ready_mem G (p := p)).1 (by rw [hr]; simp)
      have := wait_go (dn := dn) (m := m) (n := D.length - m) (p := p) (by omega) h2
      exact run_good f (G.go h1 h3) (by omega)

/-! ### Going on with one -/
theorem bef_of_mem : ∀ {l : List Ver} {v : Ver} (o : Ver), Rise l → v ∈ l → befV (v.by_ + 1) l o = v
  | [], _, _, _, h => by cases h
  | u :: l, v, o, hr, h => by
    obtain ⟨h1, h2⟩ := List.pairwise_cons.1 hr
    rcases List.mem_cons.1 h with rfl | h
    · rw [befV, if_pos (by omega)]
      exact befV_high _ (fun x hx => by have := h1 x hx; omega)
    · rw [befV]
      exact bef_of_mem _ h2 h
theorem go_vs {r0 : List Row} {D : List Deed3} {m : Nat} {dn : Nat → Bool} {b : ByteArray → Int} {e : Eng} (G : Good r0 D m dn b e) {p : Nat} (hp : m + p < D.length) (hn : needsE e p = []) {k : ByteArray} {v : Ver} (hv : v ∈ vsOf k e.chains) (hm : v.made = true) : v ∈ vsOf k (goE e p).chains := by
  rw [(G.go hp hn).vs k]
  rw [G.vs k] at hv
  rcases List.mem_append.1 hv with h | h
  · exact List.mem_append.2 (.inl h)
  · refine List.mem_append.2 (.inr ?_)
    unfold newsV at h ⊢
    obtain ⟨i, hi, rfl⟩ := List.mem_map.1 h
    refine List.mem_map.2 ⟨i, hi, ?_⟩
    unfold verI at hm ⊢
    cases hd : dn i with
    | false => rw [hd] at hm; cases hm
    | true =>
      have : doneNow dn (m + p) i = true := by unfold doneNow; split <;> simp_all
      rw [this]
/-- What is made stays what it is. -/
theorem more_made {r0 : List Row} {D : List Deed3} {m : Nat} {dn : Nat → Bool} {b : ByteArray → Int} {e : Eng} (G : Good r0 D m dn b e) {p : Nat} (hp : m + p < D.length) (hn : needsE e p = []) {c : Chn} (hc : c ∈ e.chains) {v : Ver} (hv : v ∈ c.2) (hm : v.made = true) : before (goE e p).chains c.1 (v.by_ + 1) = v := by
  unfold before
  refine bef_of_mem _ ((G.go hp hn).rise c.1) (go_vs G hp hn ?_ hm)
  rw [vsOf_own G.srt hc]; exact hv
/-- Who needs nobody needs nobody when one more is done. -/
theorem needs_still {r0 : List Row} {D : List Deed3} {m : Nat} {dn dn' : Nat → Bool} {b b' : ByteArray → Int} {e x : Eng} (G : Good r0 D m dn b e) (X : Good r0 D m dn' b' x) (hd : ∀ i, dn i = true → dn' i = true) {q : Nat} (hq : m + q < D.length) (hn : needsE e q = []) : needsE x q = [] := by
  refine (needs_nil X hq).2 fun k hk => ?_
  have h1 := (needs_nil G hq).1 hn k hk
  have e1 := seen_of G (n := q) (by omega) k
  have e2 := seen_of X (n := q) (by omega) k
  rw [e1] at h1
  rw [e2]
  unfold seenV at h1 ⊢
  have hl : ∀ l : List Nat, ∀ o o' : Ver, (o.made = true → o'.made = true) → ((l.map (verI r0 D dn k)).getLastD o).made = true → ((l.map (verI r0 D dn' k)).getLastD o').made = true := by
    intro l
    induction l with
    | nil => intro o o' ho h; exact ho h
    | cons i l ih =>
      intro o o' _ h
      rw [List.map_cons, List.getLastD_cons] at h ⊢
      refine ih _ _ (fun hv => ?_) h
      unfold verI at hv ⊢
      cases hdi : dn i with
      | false => rw [hdi] at hv; cases hv
      | true => rw [hd i hdi]; rfl
  unfold newsV at h1 ⊢
  refine hl _ _ _ (fun _ => ?_) h1
  unfold oldV
  split <;> rfl
theorem ready_still {r0 : List Row} {D : List Deed3} {m : Nat} {dn : Nat → Bool} {b : ByteArray → Int} {e : Eng} (G : Good r0 D m dn b e) {p q : Nat} (hp : p ∈ readyE e) (hq : q ∈ readyE e) : q ∈ readyE (goE e p) ↔ q ≠ p := by
  obtain ⟨p1, p2, p3⟩ := (ready_mem G).1 hp
  obtain ⟨q1, q2, q3⟩ := (ready_mem G).1 hq
  have X := G.go p1 p3
  rw [ready_mem X]
  constructor
  · rintro ⟨_, h, _⟩ rfl
    simp [doneNow] at h
  · intro h
    refine ⟨q1, ?_, needs_still G X (fun i hi => by unfold doneNow; split <;> simp_all) q1 q3⟩
    unfold doneNow
    rw [if_neg (by omega)]; exact q2
theorem go_state {e : Eng} {p q : Nat} (h : q ≠ p) : (goE e p).state.getD q 0 = e.state.getD q 0 := by
  unfold goE
  simp [List.getD, Ne.symm h]
theorem go_ends {e : Eng} {p q : Nat} (h : q ≠ p) : (goE e p).ends.getD q noE = e.ends.getD q noE := by
  unfold goE
  simp [List.getD, Ne.symm h]

/-! ### Behind all deeds -/
theorem ends_seq (r0 : List Row) (D : List Deed3) : (List.range' 0 D.length).map (fun i => endD (seqR r0 D i) (D.getD i default)) = endsD r0 D := by
  have h : ∀ n, n ≤ D.length → (List.range' 0 n).map (fun i => endD (seqR r0 D i) (D.getD i default)) = endsD r0 (D.take n) := by
    intro n
    induction n with
    | zero => intro _; rfl
    | succ n ih =>
      intro hn
      have hn' : n < D.length := hn
      rw [take_snoc_getD hn', endsD_snoc, ← ih (Nat.le_of_lt hn'), List.range'_concat, List.map_append]
      congr 1
      simp [seqR]
  rw [h _ (Nat.le_refl _), List.take_length]
/-- When all is done: all are told so, each ended as it does one by one, and keys have ahead of each what they have then. -/
structure AllDone (r0 : List Row) (D : List Deed3) (x : Eng) : Prop where
  len : x.state.length = D.length
  state : ∀ s ∈ x.state, s = 1
  ends : x.ends = endsD r0 D
  rows : ∀ n, n ≤ D.length → rowsC x.chains n = some (allD r0 (D.take n))
theorem Good.all {r0 : List Row} {D : List Deed3} {dn : Nat → Bool} {b : ByteArray → Int} {x : Eng} (G : Good r0 D 0 dn b x) (h : ∀ i, i < D.length → dn i = true) : AllDone r0 D x := by
  refine ⟨by rw [G.state]; simp, fun s hs => ?_, ?_, fun n hn => ?_⟩
  · rw [G.state] at hs
    obtain ⟨i, hi, rfl⟩ := List.mem_map.1 hs
    rw [if_pos (h i (by have := (List.mem_range'_1.1 hi).2; omega))]
  · rw [G.ends, ← ends_seq r0 D]
    refine List.map_congr_left fun i hi => ?_
    rw [if_pos (h i (by have := (List.mem_range'_1.1 hi).2; omega))]
  · have := G.sees (n := n) (by omega) (fun i _ hi => h i (by omega))
    rw [G.base] at this
    simpa [seqR] using this
end Go.Proofs.Ytdnafpenljdinad

namespace Go.Proofs.Ytdnafpenljdinad
open Go.RowKit

/-! ### Behind Clear -/
theorem mark_clear {r0 : List Row} {D : List Deed3} {m : Nat} {dn : Nat → Bool} {b : ByteArray → Int} {e : Eng} (G : Good r0 D m dn b e) : Good r0 D (m + markE e) dn (fun k => (seenV r0 D dn b k m (markE e)).by_) (clearE e (markE e)) := G.clear G.mark.le G.mark.done
theorem mark_zero {r0 : List Row} {D : List Deed3} {m : Nat} {dn : Nat → Bool} {b : ByteArray → Int} {e : Eng} (G : Good r0 D m dn b e) : markE (clearE e (markE e)) = 0 := by
  have X := (mark_clear G).mark
  have M := G.mark
  generalize markE (clearE e (markE e)) = k at X
  rcases Nat.eq_zero_or_pos k with h | h
  · exact h
  · have h1 := X.le
    have h2 := X.done (m + markE e) (Nat.le_refl _) (by omega)
    have h3 := M.wait (by omega)
    rw [h2] at h3; cases h3
theorem last_made {l : List Ver} {o o' : Ver} (h : o.made = o'.made) : (l.getLastD o).made = (l.getLastD o').made := by
  rw [List.getLastD_eq_getLast?, List.getLastD_eq_getLast?]
  cases l.getLast? with
  | none => exact h
  | some v => rfl
theorem old_made (r0 : List Row) (D : List Deed3) (m : Nat) (b : ByteArray → Int) (k : ByteArray) : ((oldV r0 D m b k).getLastD ver0).made = true := by
  unfold oldV
  split <;> rfl
theorem made_clear {r0 : List Row} {D : List Deed3} {m : Nat} {dn : Nat → Bool} {b : ByteArray → Int} {e : Eng} (G : Good r0 D m dn b e) {n q : Nat} (hn : m + (n + q) ≤ D.length) (hd : ∀ i, m ≤ i → i < m + n → dn i = true) (k : ByteArray) : (before (clearE e n).chains k ((m + n + q : Nat) : Int)).made = (before e.chains k ((m + (n + q) : Nat) : Int)).made := by
  have X := G.clear (n := n) (by omega) hd
  rw [seen_of X (n := q) (by omega) k, seen_of G hn k]
  unfold seenV
  rw [newsV_append, getLastD_append]
  refine last_made ?_
  rw [old_made]
  have h := all_made G (n := n) (by omega) hd k
  rw [seen_of G (by omega) k] at h
  exact h.symm
theorem needs_clear {r0 : List Row} {D : List Deed3} {m : Nat} {dn : Nat → Bool} {b : ByteArray → Int} {e : Eng} (G : Good r0 D m dn b e) {n q : Nat} (hn : m + (n + q) < D.length) (hd : ∀ i, m ≤ i → i < m + n → dn i = true) : needsE (clearE e n) q = [] ↔ needsE e (n + q) = [] := by
  have X := G.clear (n := n) (by omega) hd
  rw [needs_nil X (p := q) (by omega), needs_nil G hn, show m + n + q = m + (n + q) from Nat.add_assoc _ _ _]
  have h := fun k => made_clear G (n := n) (q := q) (by omega) hd k
  rw [show m + n + q = m + (n + q) from Nat.add_assoc _ _ _] at h
  constructor
  · intro H x hx; rw [← h]; exact H x hx
  · intro H x hx; rw [h]; exact H x hx
/-- The same deeds are ready, each at a place that is less by those that are gone. -/
theorem ready_clear {r0 : List Row} {D : List Deed3} {m : Nat} {dn : Nat → Bool} {b : ByteArray → Int} {e : Eng} (G : Good r0 D m dn b e) {n : Nat} (hn : m + n ≤ D.length) (hd : ∀ i, m ≤ i → i < m + n → dn i = true) : readyE e = (readyE (clearE e n)).map (fun q => n + q) := by
  have X := G.clear hn hd
  have hl : e.deeds.length = n + (clearE e n).deeds.length := by rw [G.len, X.len]; omega
  unfold readyE
  rw [hl, List.range_add, List.filter_append, List.filter_map]
  have h1 : (List.range n).filter (fun p => decide (e.state.getD p 0 = 0) && (needsE e p).isEmpty) = [] := by
    rw [List.filter_eq_nil_iff]
    intro p hp
    have hp := List.mem_range.1 hp
    rw [G.state_at (by omega), hd (m + p) (by omega) (by omega)]
    simp
  rw [h1, List.nil_append]
  congr 1
  refine List.filter_congr fun q hq => ?_
  have hq := List.mem_range.1 hq
  rw [X.len] at hq
  show (decide (e.state.getD (n + q) 0 = 0) && (needsE e (n + q)).isEmpty) = _
  rw [G.state_at (p := n + q) (by omega), X.state_at (p := q) (by omega), show m + (n + q) = m + n + q from (Nat.add_assoc _ _ _).symm]
  congr 1
  have := needs_clear G (n := n) (q := q) (by omega) hd
  cases h2 : needsE (clearE e n) q with
  | nil => rw [this.1 h2]
  | cons a l =>
    cases h3 : needsE e (n + q) with
    | nil => rw [this.2 h3] at h2; cases h2
    | cons a' l' => rfl

/-! ### When all is done -/
theorem done_rows {r0 : List Row} {D : List Deed3} {m : Nat} {dn : Nat → Bool} {b : ByteArray → Int} {y : Eng} (G : Good r0 D m dn b y) (h : ∀ i, m ≤ i → i < D.length → dn i = true) : rowsC y.chains (y.base + y.deeds.length) = some (seqR r0 D D.length) := by
  have hle := G.le
  have := G.sees (n := y.deeds.length) (by rw [G.len]; omega) (fun i h1 h2 => h i h1 (by rw [G.len] at h2; omega))
  rw [this, G.len, show m + (D.length - m) = D.length from by omega]
theorem done_ends {r0 : List Row} {D : List Deed3} {m n : Nat} {dn dn' : Nat → Bool} {b b' : ByteArray → Int} {y z : Eng} (G : Good r0 D m dn b y) (X : Good r0 D (m + n) dn' b' z) (h : ∀ i, m ≤ i → i < D.length → dn i = true) (h' : ∀ i, m + n ≤ i → i < D.length → dn' i = true) : y.ends.drop n = z.ends := by
  rw [G.ends, X.ends, ← List.map_drop, List.drop_range', Nat.mul_one, show D.length - m - n = D.length - (m + n) from by omega]
  refine List.map_congr_left fun i hi => ?_
  have hi := List.mem_range'_1.1 hi
  have hle := X.le
  rw [if_pos (h i (by omega) (by omega)), if_pos (h' i (by omega) (by omega))]
theorem done_mark {r0 : List Row} {D : List Deed3} {m : Nat} {dn : Nat → Bool} {b : ByteArray → Int} {y : Eng} (G : Good r0 D m dn b y) (h : ∀ i, m ≤ i → i < D.length → dn i = true) : m + markE y = D.length := by
  have M := G.mark
  have hle := M.le
  rcases Nat.lt_or_ge (m + markE y) D.length with h1 | h1
  · have := M.wait h1
    rw [h _ (by omega) h1] at this; cases this
  · omega
/-- Chains of one version each, by rows. -/
def oneEach (b : ByteArray → Int) (r : List Row) : List Chn := r.map (fun x => (x.1, [(b x.1, true, true, x.2)]))
theorem vsOf_each (b : ByteArray → Int) (k : ByteArray) : ∀ r : List Row, Srt r → vsOf k (oneEach b r) = if isAt k r = true then [(b k, true, true, num k r)] else []
  | [], _ => rfl
  | x :: r, h => by
    obtain ⟨h1, h2⟩ := srt_cons.1 h
    show vsOf k ((x.1, [(b x.1, true, true, x.2)]) :: oneEach b r) = _
    rw [vsOf, isAt, num]
    rcases less_cases x.1 k with g | g | g
    · rw [if_neg (less_ne g), if_pos g, if_pos g]
      exact vsOf_each b k r h2
    · subst g
      simp [less_irrefl]
    · have g2 := less_asymm g
      rw [if_neg (fun e => less_ne g e.symm)]
      simp only [g, g2]
      have := vsOf_each b k r h2
      rw [(isAt_front (k := k) (l := r) (fun y hy => less_trans g (h1 y hy))).1] at this
      simpa using this
theorem each_is {r0 : List Row} {D : List Deed3} {dn : Nat → Bool} {b : ByteArray → Int} {x : Eng} (X : Good r0 D D.length dn b x) : x.chains = oneEach b (seqR r0 D D.length) := by
  have hr := seqR_right X.rows X.right D.length
  refine chains_ext X.srt ?_ X.some_ ?_ (fun k => ?_)
  · show SrtC (oneEach b _)
    unfold SrtC oneEach
    rw [List.pairwise_map]
    exact hr.srt
  · intro c hc
    obtain ⟨x, _, rfl⟩ := List.mem_map.1 hc
    simp
  · rw [X.vs k, vsOf_each b k _ hr.srt, Nat.sub_self]
    show oldV r0 D D.length b k ++ [] = _
    rw [List.append_nil]
    rfl
theorem each_length (b : ByteArray → Int) (r : List Row) : (oneEach b r).length = r.length := by simp [oneEach]
theorem each_size (b : ByteArray → Int) : ∀ r : List Row, sizeC (oneEach b r) = r.length
  | [] => rfl
  | x :: r => by
    show [(b x.1, true, true, x.2)].length + sizeC (oneEach b r) = _
    rw [each_size b r]
    simp [Nat.add_comm]

/-! ### What is told of a moment -/
/-- How Seen ends: what keys have, and why not. -/
def seenTo (e : Eng) (at_ : Int) : List Row × Int :=
  if at_ < 0 ∨ (e.deeds.length : Int) < at_ then ([], 6)
  else match rowsC e.chains (e.base + at_) with
    | none => ([], 10)
    | some r => (r, 0)
theorem seen_end {r0 : List Row} {D : List Deed3} {m : Nat} {dn : Nat → Bool} {b : ByteArray → Int} {y : Eng} (G : Good r0 D m dn b y) (h : ∀ i, m ≤ i → i < D.length → dn i = true) : seenTo y y.deeds.length = (seqR r0 D D.length, 0) := by
  unfold seenTo
  rw [if_neg (by omega), done_rows G h]
end Go.Proofs.Ytdnafpenljdinad
