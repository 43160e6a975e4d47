/-
  Plain mathematics of engines: what New, Add, Go and Clear make of one keeps what each engine is.
  Plain mathematics of engines: what is old forgotten, what keys have when, and that all is done at last.
  Plain mathematics of engines: their chains are such that searches go right, also while a deed is planned or done; and what a deed needs, as the program finds it.
  Plain mathematics of plans: what is wrong with deeds that come, that who comes later changes nothing ahead, and that one of those that wait needs nobody.
-/
import Derived.Test.YtlhaeeenkgkdaaaGreatDoorEngGood
import Derived.Test.YtlhaeeenkgkdaaaGreatDoorChainFind
import Derived.Test.YtlhaeeenkgkdaaaGreatDoorChainAt
import Derived.Lib.SlicesCompact
import Derived.Test.YtlhaeeenkgkdaaaGreatDoorOpenDeeds
namespace Go.Proofs.YtlhaeeenkgkdaaaGreatDoor
open Go.RowKit

structure SeesIs (L : List Chn) (at_ : Int) (K : List ByteArray) (r r' : List Row) : Prop where
 srt : Srt r'
 is : ∀ x, isAt x r' = ((has K x && (before L x at_).has_) || isAt x r)
 n : ∀ x, num x r' = if (has K x && (before L x at_).has_) = true then (before L x at_).n else num x r
theorem sees_fold (L : List Chn) (at_ : Int) : ∀ (K : List ByteArray) (r : List Row), Srt r → SeesIs L at_ K r (K.foldl (seesK L at_) r)
 | [], r, h => ⟨h, fun x => by simp [has], fun x => by simp [has]⟩
 | k :: K, r, h => by
   have hs : Srt (seesK L at_ r k) := by
     unfold seesK; split
     · exact srt_ins h
     · exact h
   obtain ⟨i1, i2, i3⟩ := sees_fold L at_ K (seesK L at_ r k) hs
   refine ⟨i1, fun x => ?_, fun x => ?_⟩
   · rw [List.foldl_cons, i2 x, has_cons]
     unfold seesK
     by_cases e : x = k
     · subst e
       cases hh : (before L x at_).has_ with
       | true => simp [isAt_ins]
       | false => simp
     · have hd : decide (k = x) = false := decide_eq_false (Ne.symm e)
       rw [hd, Bool.false_or]
       split
       · rw [(other_ins _ e r h).1]
       · rfl
   · rw [List.foldl_cons, i3 x, has_cons]
     unfold seesK
     by_cases e : x = k
     · subst e
       cases hh : (before L x at_).has_ with
       | true => simp [num_ins]
       | false => simp
     · have hd : decide (k = x) = false := decide_eq_false (Ne.symm e)
       rw [hd, Bool.false_or]
       split
       · rfl
       · split
         · rw [(other_ins _ e r h).2]
         · rfl
theorem sees_is {r0 : List Row} {D : List Deed3} {m : Nat} {dn : Nat → Bool} {b : ByteArray → Int} {e : Eng} (G : Good r0 D m dn b e) {p : Nat} (hp : m + p < D.length) (hn : needsE e p = []) : Srt (seesE e p) ∧ ∀ x ∈ keysD (D.getD (m + p) default), isAt x (seesE e p) = isAt x (seqR r0 D (m + p)) ∧ num x (seesE e p) = num x (seqR r0 D (m + p)) := by
 unfold seesE
 rw [G.deed, G.at_]
 obtain ⟨h1, h2, h3⟩ := sees_fold e.chains ((m + p : Nat) : Int) (keysD (D.getD (m + p) default)) [] List.Pairwise.nil
 refine ⟨h1, fun x hx => ?_⟩
 have hm := (needs_nil G hp).1 hn x hx
 obtain ⟨e1, e2⟩ := (G.seen (n := p) (by omega) x).yes hm
 rw [h2, h3, has_iff.2 hx, e1]
 refine ⟨by simp [isAt], ?_⟩
 cases hi : isAt x (seqR r0 D (m + p)) with
 | true => simpa using e2
 | false => rw [num_not x _ hi]; simp [num]
theorem sees_ex {r0 : List Row} {D : List Deed3} {m : Nat} {dn : Nat → Bool} {b : ByteArray → Int} {e : Eng} (G : Good r0 D m dn b e) {p : Nat} (hp : m + p < D.length) (hn : needsE e p = []) : exD (seesE e p) (D.getD (m + p) default) = exD (seqR r0 D (m + p)) (D.getD (m + p) default) := by
 unfold exD
 refine exec_same _ _ _ _ fun i hi hk => ?_
 exact ((sees_is G hp hn).2 i.key (keysD_mem.2 (.inl (right_loads (rights_at G.right hp) i hi hk)))).2
theorem sees_end {r0 : List Row} {D : List Deed3} {m : Nat} {dn : Nat → Bool} {b : ByteArray → Int} {e : Eng} (G : Good r0 D m dn b e) {p : Nat} (hp : m + p < D.length) (hn : needsE e p = []) : endD (seesE e p) (D.getD (m + p) default) = endD (seqR r0 D (m + p)) (D.getD (m + p) default) := by
 unfold endD; rw [sees_ex G hp hn]
theorem sees_do {r0 : List Row} {D : List Deed3} {m : Nat} {dn : Nat → Bool} {b : ByteArray → Int} {e : Eng} (G : Good r0 D m dn b e) {p : Nat} (hp : m + p < D.length) (hn : needsE e p = []) {k : ByteArray} (hk : k ∈ (D.getD (m + p) default).2.1) :
   isAt k (doD (seesE e p) (D.getD (m + p) default)) = isAt k (seqR r0 D (m + p + 1)) ∧ num k (doD (seesE e p) (D.getD (m + p) default)) = num k (seqR r0 D (m + p + 1)) := by
 obtain ⟨hs, hx⟩ := sees_is G hp hn
 obtain ⟨e1, e2⟩ := hx k (keysD_mem.2 (.inr hk))
 have hd := rights_at G.right hp
 have hq := (seqR_right G.rows G.right (m + p)).srt
 rw [seqR_succ hp, doD_at hs hd, doD_at hq hd, doD_num hs hd, doD_num hq hd, sees_ex G hp hn]
 unfold isThere look
 simp only [e1, e2]
 exact ⟨trivial, trivial⟩

def doneNow (dn : Nat → Bool) (i : Nat) : Nat → Bool := fun j => if j = i then true else dn j
theorem map_set {α : Type} (f g : Nat → α) (m n p : Nat) (x : α) (hx : g (m + p) = x) (hg : ∀ i, i ≠ m + p → g i = f i) : ((List.range' m n).map f).set p x = (List.range' m n).map g := by
 apply List.ext_getElem?
 intro j
 rw [List.getElem?_set, List.getElem?_map, List.getElem?_map]
 by_cases hj : j < n
 · rw [List.getElem?_range' hj]
   by_cases e : p = j
   · subst e
     simp [hj, hx]
   · rw [if_neg e]
     simp only [Option.map_some, Nat.one_mul]
     rw [hg _ (by omega)]
 · rw [List.getElem?_eq_none (by simpa using hj)]
   by_cases e : p = j
   · subst e
     simp [hj]
   · rw [if_neg e]; rfl
theorem setV_news {r0 : List Row} {D : List Deed3} {dn : Nat → Bool} {k : ByteArray} {i : Nat} {v : Ver} (hv : v = verI r0 D (doneNow dn i) k i) (a n : Nat) : setV v (newsV r0 D dn k a n) = newsV r0 D (doneNow dn i) k a n := by
 unfold setV newsV
 rw [List.map_map]
 refine List.map_congr_left fun j hj => ?_
 show (if (verI r0 D dn k j).by_ = v.by_ then v else verI r0 D dn k j) = _
 rw [verI_by, hv, verI_by]
 by_cases e : j = i
 · subst e; rw [if_pos rfl]
 · rw [if_neg (by omega)]
   unfold verI doneNow
   rw [if_neg e]
theorem news_else {r0 : List Row} {D : List Deed3} {dn : Nat → Bool} {k : ByteArray} {i : Nat} (hw : writes D k i = false) (a n : Nat) : newsV r0 D (doneNow dn i) k a n = newsV r0 D dn k a n := by
 unfold newsV
 refine List.map_congr_left fun j hj => ?_
 have hj' := (List.mem_filter.1 hj).2
 have e : j ≠ i := fun e => by rw [e, hw] at hj'; cases hj'
 unfold verI doneNow
 rw [if_neg e]
theorem Good.go {r0 : List Row} {D : List Deed3} {m : Nat} {dn : Nat → Bool} {b : ByteArray → Int} {e : Eng} (G : Good r0 D m dn b e) {p : Nat} (hp : m + p < D.length) (hn : needsE e p = []) : Good r0 D m (doneNow dn (m + p)) b (goE e p) := by
 have hW := (rights_at G.right hp).w
 refine ⟨G.rows, G.right, G.le, fun i hi => ?_, G.base, G.deeds, ?_, ?_, setW_srt _ G.srt, setW_some _ G.some_, fun k => ?_, G.lo, G.hi⟩
 · unfold doneNow; rw [if_neg (by omega)]; exact G.fresh i hi
 · show e.state.set p 1 = _
   rw [G.state]
   exact map_set _ _ m _ p 1 (by simp [doneNow]) (fun i hi => by simp [doneNow, hi])
 · show e.ends.set p _ = _
   rw [G.ends, G.deed, sees_end G hp hn]
   exact map_set _ _ m _ p _ (by simp [doneNow]) (fun i hi => by simp [doneNow, hi])
 · show vsOf k (setW (e.base + p) _ _ e.chains) = _
   rw [G.deed, G.at_, vsOf_setW _ (wKeys_nodup hW), G.vs k]
   cases hk : has (D.getD (m + p) default).2.1 k with
   | true =>
     rw [if_pos rfl, setV_append]
     obtain ⟨e1, e2⟩ := sees_do G hp hn (has_iff.1 hk)
     have ho : setV (((m + p : Nat) : Int), true, isAt k (doD (seesE e p) (D.getD (m + p) default)), num k (doD (seesE e p) (D.getD (m + p) default))) (oldV r0 D m b k) = oldV r0 D m b k := setV_none (fun u hu => by
       unfold oldV at hu
       split at hu
       · simp at hu
         rw [hu]
         have := G.hi k
         show b k ≠ ((m + p : Nat) : Int)
         omega
       · cases hu)
     rw [ho, setV_news (i := m + p)]
     rw [e1, e2]
     unfold verI doneNow
     rw [if_pos (by simp)]
   | false =>
     rw [if_neg (by simp), news_else hk]

theorem writes_append {D : List Deed3} {d : Deed3} {k : ByteArray} {i : Nat} (h : i < D.length) : writes (D ++ [d]) k i = writes D k i := by
 unfold writes; simp [List.getD, List.getElem?_append_left h]
theorem writes_last {D : List Deed3} {d : Deed3} {k : ByteArray} : writes (D ++ [d]) k D.length = has d.2.1 k := by
 unfold writes; simp [List.getD]
theorem Good.add {r0 : List Row} {D : List Deed3} {m : Nat} {dn : Nat → Bool} {b : ByteArray → Int} {e : Eng} (G : Good r0 D m dn b e) {d : Deed3} (hd : RightDD d) : Good r0 (D ++ [d]) m dn b (addD e d) := by
 have hle := G.le
 have hlen : (D ++ [d]).length - m = (D.length - m) + 1 := by simp; omega
 have hend : m + (D.length - m) = D.length := by omega
 refine ⟨G.rows, fun x hx => ?_, by simp; omega, fun i hi => G.fresh i (by simp at hi; omega), G.base, ?_, ?_, ?_, addW_srt _ G.srt, addW_some _ G.some_, fun k => ?_, G.lo, G.hi⟩
 · rcases List.mem_append.1 hx with h | h
   · exact G.right x h
   · simp at h; rw [h]; exact hd
 · show e.deeds ++ [d] = _
   rw [G.deeds, List.drop_append_of_le_length hle]
 · show e.state ++ [0] = _
   rw [G.state, hlen, ← List.range'_append_1, List.map_append, hend]
   simp [G.fresh D.length (Nat.le_refl _)]
 · show e.ends ++ [noE] = _
   rw [G.ends, hlen, ← List.range'_append_1, List.map_append, hend]
   congr 1
   · refine List.map_congr_left fun i hi => ?_
     have := List.mem_range'_1.1 hi
     rw [seqR_append (by omega)]
     simp [List.getD, List.getElem?_append_left (show i < D.length by omega)]
   · simp [G.fresh D.length (Nat.le_refl _)]
 · show vsOf k (addW (e.base + e.deeds.length) d.2.1 e.chains) = _
   rw [vsOf_addW _ (wKeys_nodup hd.w) G.srt, G.vs k, hlen, newsV_succ, hend, writes_last]
   have ho : oldV r0 (D ++ [d]) m b k = oldV r0 D m b k := by unfold oldV; rw [seqR_append hle]
   have hne : newsV r0 (D ++ [d]) dn k m (D.length - m) = newsV r0 D dn k m (D.length - m) := by
     unfold newsV
     have hf : (List.range' m (D.length - m)).filter (writes (D ++ [d]) k) = (List.range' m (D.length - m)).filter (writes D k) := by
       refine List.filter_congr fun i hi => ?_
       have := List.mem_range'_1.1 hi
       exact writes_append (by omega)
     rw [hf]
     refine List.map_congr_left fun i hi => ?_
     have := List.mem_range'_1.1 (List.mem_filter.1 hi).1
     unfold verI
     rw [seqR_append (by omega)]
   rw [ho, hne]
   have hv : verI r0 (D ++ [d]) dn k D.length = newV (e.base + (e.deeds.length : Int)) := by
     unfold verI
     rw [if_neg (by rw [G.fresh D.length (Nat.le_refl _)]; simp), G.base, G.len]
     congr 1
     omega
   rw [hv]
   cases has d.2.1 k with
   | true => simp
   | false => simp
theorem Good.addAll {r0 : List Row} {m : Nat} {dn : Nat → Bool} {b : ByteArray → Int} {l : List Deed3} : ∀ {D : List Deed3} {e : Eng}, Good r0 D m dn b e → RightDs l → Good r0 (D ++ l) m dn b (addAll e l) := by
 induction l with
 | nil => intro D e G _; simpa [Go.Proofs.YtlhaeeenkgkdaaaGreatDoor.addAll] using G
 | cons d l ih =>
   intro D e G hl
   have := ih (G.add (hl d (by simp))) (fun x hx => hl x (by simp [hx]))
   simpa [Go.Proofs.YtlhaeeenkgkdaaaGreatDoor.addAll] using this

theorem vsOf_rows (k : ByteArray) : ∀ r : List Row, Srt r → vsOf k (ofRows r) = if isAt k r = true then [(-1, true, true, num k r)] else []
 | [], _ => rfl
 | x :: r, h => by
   obtain ⟨h1, h2⟩ := srt_cons.1 h
   show vsOf k ((x.1, [(-1, true, true, x.2)]) :: ofRows r) = _
   rw [vsOf, isAt, num]
   rcases less_cases x.1 k with g | g | g
   · rw [if_neg (less_ne g), if_pos g, if_pos g]
     exact vsOf_rows k r h2
   · subst g
     simp [less_irrefl]
   · have g2 := less_asymm g
     rw [if_neg (fun e => less_ne g e.symm)]
     simp only [g, g2]
     have := vsOf_rows k r h2
     rw [(isAt_front (k := k) (l := r) (fun y hy => less_trans g (h1 y hy))).1] at this
     simpa using this
theorem Good.new {r0 : List Row} (h : Right r0) : Good r0 [] 0 (fun _ => false) (fun _ => -1) (newE r0) := by
 refine ⟨h, (fun _ h => by cases h), Nat.le_refl _, fun _ _ => rfl, rfl, rfl, rfl, rfl, ?_, ?_, fun k => ?_, fun _ => Int.le_refl _, fun _ => by decide⟩
 · show SrtC (ofRows r0)
   unfold SrtC ofRows
   rw [List.pairwise_map]
   exact h.srt
 · intro c hc
   obtain ⟨x, _, rfl⟩ := List.mem_map.1 hc
   simp
 · show vsOf k (ofRows r0) = _
   rw [vsOf_rows k r0 h.srt]
   show _ = oldV r0 [] 0 (fun _ => -1) k ++ []
   rw [List.append_nil]
   rfl
end Go.Proofs.YtlhaeeenkgkdaaaGreatDoor

namespace Go.Proofs.YtlhaeeenkgkdaaaGreatDoor
open Go.RowKit

theorem getLastD_append {α : Type} (a b : List α) (o : α) : (a ++ b).getLastD o = b.getLastD (a.getLastD o) := by
 rw [List.getLastD_eq_getLast?, List.getLastD_eq_getLast?, List.getLastD_eq_getLast?, List.getLast?_append]
 cases b.getLast? <;> rfl
theorem clearV_split {by_ : Int} : ∀ (A B : List Ver), (∀ v ∈ A, v.by_ < by_) → (∀ v ∈ B, by_ ≤ v.by_) → (∀ v ∈ A, v.made = true) → clearV by_ (A ++ B) = (if (A.getLastD ver0).has_ = true then [A.getLastD ver0] else []) ++ B
 | [], B, _, hB, _ => by
   show clearV by_ B = (if ver0.has_ = true then _ else []) ++ B
   rw [clearV_high hB]; rfl
 | [v], B, hA, hB, hm => by
   have hv : decide (v.by_ < by_) = true := by simpa using hA v (by simp)
   have hl : laterV by_ B = false := by
     cases B with
     | nil => rfl
     | cons u B => have := hB u (by simp); simpa [laterV] using this
   have hmv := hm v (by simp)
   show clearV by_ (v :: B) = (if v.has_ = true then [v] else []) ++ B
   rw [clearV, hv, hl, hmv, clearV_high hB]
   cases v.has_ <;> simp
 | v :: u :: A, B, hA, hB, hm => by
   have hv : decide (v.by_ < by_) = true := by simpa using hA v (by simp)
   have hl : laterV by_ (u :: A ++ B) = true := by simpa [laterV] using hA u (by simp)
   have ih := clearV_split (u :: A) B (fun x hx => hA x (by simp at hx ⊢; exact .inr hx)) hB (fun x hx => hm x (by simp at hx ⊢; exact .inr hx))
   show clearV by_ (v :: (u :: A ++ B)) = _
   rw [clearV, if_pos (by rw [hv, hl]; rfl), ih]
   rfl
def clearE (e : Eng) (n : Nat) : Eng := ⟨clearC (e.base + n) e.chains, e.deeds.drop n, e.state.drop n, e.ends.drop n, e.base + n⟩
theorem seenV_by {r0 : List Row} {D : List Deed3} {m : Nat} {dn : Nat → Bool} {b : ByteArray → Int} (hlo : ∀ k, -1 ≤ b k) (hhi : ∀ k, b k < m) (k : ByteArray) (n : Nat) : -1 ≤ (seenV r0 D dn b k m n).by_ ∧ (seenV r0 D dn b k m n).by_ < ((m + n : Nat) : Int) := by
 have h1 : ∀ o : Ver, (-1 ≤ o.by_ ∧ o.by_ < ((m + n : Nat) : Int)) → -1 ≤ ((newsV r0 D dn k m n).getLastD o).by_ ∧ ((newsV r0 D dn k m n).getLastD o).by_ < ((m + n : Nat) : Int) := fun o ho => by
   rw [List.getLastD_eq_getLast?]
   cases h : (newsV r0 D dn k m n).getLast? with
   | none => exact ho
   | some v =>
     obtain ⟨i, _, h2, rfl, _⟩ := newsV_by (List.mem_of_getLast? h)
     simp only [Option.getD_some]
     rw [verI_by]; omega
 unfold seenV
 refine h1 _ ?_
 unfold oldV
 split
 · have := hlo k; have := hhi k
   show -1 ≤ b k ∧ b k < _
   omega
 · show -1 ≤ (-1 : Int) ∧ (-1 : Int) < _
   omega
theorem Good.clear {r0 : List Row} {D : List Deed3} {m : Nat} {dn : Nat → Bool} {b : ByteArray → Int} {e : Eng} (G : Good r0 D m dn b e) {n : Nat} (hn : m + n ≤ D.length) (hd : ∀ i, m ≤ i → i < m + n → dn i = true) : Good r0 D (m + n) dn (fun k => (seenV r0 D dn b k m n).by_) (clearE e n) := by
 have hlen : D.length - m = n + (D.length - (m + n)) := by omega
 refine ⟨G.rows, G.right, hn, G.fresh, by show e.base + (n : Int) = _; rw [G.base]; omega, ?_, ?_, ?_, clearC_srt G.srt, fun c hc => ?_, fun k => ?_, fun k => (seenV_by G.lo G.hi k n).1, fun k => (seenV_by G.lo G.hi k n).2⟩
 · show e.deeds.drop n = _
   rw [G.deeds, List.drop_drop]
 · show e.state.drop n = _
   rw [G.state, ← List.map_drop, List.drop_range', Nat.mul_one]
   congr 2
   omega
 · show e.ends.drop n = _
   rw [G.ends, ← List.map_drop, List.drop_range', Nat.mul_one]
   congr 2
   omega
 · obtain ⟨_, _, _, _, h⟩ := clearC_mem hc; exact h
 · show vsOf k (clearC (e.base + (n : Int)) e.chains) = _
   rw [G.at_, vsOf_clear G.srt, G.vs k, hlen, newsV_append, ← List.append_assoc]
   rw [clearV_split]
   · rw [getLastD_append]
     show (if (seenV r0 D dn b k m n).has_ = true then [seenV r0 D dn b k m n] else []) ++ _ = _
     have hs := seen_is (b := b) (dn := dn) (m := m) G.rows G.right k n hn
     have hm : (seenV r0 D dn b k m n).made = true := by
       cases h : (seenV r0 D dn b k m n).made with
       | true => rfl
       | false =>
         obtain ⟨i, h1, h2, _, h3, _⟩ := hs.no h
         rw [hd i h1 h2] at h3; cases h3
     obtain ⟨e1, e2⟩ := hs.yes hm
     congr 1
     unfold oldV
     rw [e1]
     cases hi : isAt k (seqR r0 D (m + n)) with
     | true =>
       rw [if_pos rfl, if_pos rfl]
       rw [hi] at e1
       congr 1
       exact Prod.ext rfl (Prod.ext hm (Prod.ext e1 e2))
     | false => rfl
   · intro v hv
     rcases List.mem_append.1 hv with h | h
     · unfold oldV at h
       split at h
       · simp at h
         rw [h]
         have := G.hi k
         show b k < _
         omega
       · cases h
     · obtain ⟨i, _, h2, rfl, _⟩ := newsV_by h
       rw [verI_by]; omega
   · intro v hv
     obtain ⟨i, h1, _, rfl, _⟩ := newsV_by hv
     rw [verI_by]; omega
   · intro v hv
     rcases List.mem_append.1 hv with h | h
     · unfold oldV at h
       split at h
       · simp at h; rw [h]
       · cases h
     · obtain ⟨i, h1, h2, rfl, _⟩ := newsV_by h
       unfold verI
       rw [if_pos (hd i h1 h2)]

theorem Good.state_at {r0 : List Row} {D : List Deed3} {m : Nat} {dn : Nat → Bool} {b : ByteArray → Int} {e : Eng} (G : Good r0 D m dn b e) {p : Nat} (hp : m + p < D.length) : e.state.getD p 0 = if dn (m + p) = true then 1 else 0 := by
 have hp' : p < D.length - m := by omega
 rw [G.state]
 simp [List.getD, List.getElem?_map, List.getElem?_range' hp']
theorem ready_mem {r0 : List Row} {D : List Deed3} {m : Nat} {dn : Nat → Bool} {b : ByteArray → Int} {e : Eng} (G : Good r0 D m dn b e) {p : Nat} : p ∈ readyE e ↔ m + p < D.length ∧ dn (m + p) = false ∧ needsE e p = [] := by
 unfold readyE
 rw [List.mem_filter, List.mem_range, G.len]
 constructor
 · rintro ⟨h1, h2⟩
   have hp : m + p < D.length := by omega
   rw [G.state_at hp] at h2
   simp only [Bool.and_eq_true, decide_eq_true_eq, List.isEmpty_iff] at h2
   refine ⟨hp, ?_, h2.2⟩
   cases h : dn (m + p) with
   | false => rfl
   | true => rw [h] at h2; cases h2.1
 · rintro ⟨h1, h2, h3⟩
   refine ⟨by omega, ?_⟩
   rw [G.state_at h1, h2, h3]
   rfl
end Go.Proofs.YtlhaeeenkgkdaaaGreatDoor

namespace Go.Proofs.YtlhaeeenkgkdaaaGreatDoor
open Go.RowKit

theorem fit_of_vs {L : List Chn} (hs : SrtC L) (hn : ∀ c ∈ L, c.2 ≠ []) (hk : ∀ k, vsOf k L ≠ [] → keyB k = true) (hr : ∀ k, Rise (vsOf k L)) (hf : ∀ k, (vsOf k L).length ≤ 1954687338214) : FitC L := by
 refine ⟨hs, fun c hc => ?_, fun c hc => ?_, fun c hc => ?_⟩
 · exact hk c.1 (by rw [vsOf_own hs hc]; exact hn c hc)
 · have := hr c.1; rwa [vsOf_own hs hc] at this
 · have := hf c.1; rwa [vsOf_own hs hc] at this
theorem rise_append {a b : List Ver} (ha : Rise a) (hb : Rise b) (h : ∀ x ∈ a, ∀ y ∈ b, x.by_ < y.by_) : Rise (a ++ b) := List.pairwise_append.2 ⟨ha, hb, h⟩
theorem newsV_rise (r0 : List Row) (D : List Deed3) (dn : Nat → Bool) (k : ByteArray) (a : Nat) : ∀ n, Rise (newsV r0 D dn k a n)
 | 0 => List.Pairwise.nil
 | n + 1 => by
   rw [newsV_succ]
   refine rise_append (newsV_rise r0 D dn k a n) ?_ (fun x hx y hy => ?_)
   · split
     · exact List.pairwise_singleton _ _
     · exact List.Pairwise.nil
   · obtain ⟨i, _, h2, rfl, _⟩ := newsV_by hx
     split at hy
     · simp at hy
       rw [hy, verI_by, verI_by]; omega
     · cases hy
theorem newsV_len (r0 : List Row) (D : List Deed3) (dn : Nat → Bool) (k : ByteArray) (a n : Nat) : (newsV r0 D dn k a n).length ≤ n := by
 unfold newsV
 rw [List.length_map]
 exact Nat.le_trans (List.length_filter_le _ _) (by simp)
theorem isAt_mem {k : ByteArray} : ∀ {l : List Row}, isAt k l = true → ∃ x ∈ l, x.1 = k
 | [], h => by cases h
 | x :: l, h => by
   rw [isAt] at h
   by_cases h1 : less x.1 k = true
   · rw [if_pos h1] at h
     obtain ⟨y, hy, e⟩ := isAt_mem h
     exact ⟨y, by simp [hy], e⟩
   · rw [if_neg h1] at h
     by_cases h2 : less k x.1 = true
     · simp [h2] at h
     · exact ⟨x, by simp, less_tri (by simpa using h1) (by simpa using h2)⟩
theorem Good.key {r0 : List Row} {D : List Deed3} {m : Nat} {dn : Nat → Bool} {b : ByteArray → Int} {e : Eng} (G : Good r0 D m dn b e) {k : ByteArray} (h : vsOf k e.chains ≠ []) : keyB k = true := by
 rw [G.vs k] at h
 by_cases h1 : isAt k (seqR r0 D m) = true
 · obtain ⟨x, hx, rfl⟩ := isAt_mem h1
   exact (seqR_right G.rows G.right m).key x hx
 · have ho : oldV r0 D m b k = [] := by unfold oldV; rw [if_neg h1]
   rw [ho, List.nil_append] at h
   obtain ⟨v, hv⟩ := List.exists_mem_of_ne_nil _ h
   obtain ⟨i, h2, h3, _, hw⟩ := newsV_by hv
   have hi : i < D.length := by have := G.le; omega
   exact wKeys_key (rights_at G.right hi).w (has_iff.1 hw)
theorem Good.rise {r0 : List Row} {D : List Deed3} {m : Nat} {dn : Nat → Bool} {b : ByteArray → Int} {e : Eng} (G : Good r0 D m dn b e) (k : ByteArray) : Rise (vsOf k e.chains) := by
 rw [G.vs k]
 refine rise_append ?_ (newsV_rise _ _ _ _ _ _) (fun x hx y hy => ?_)
 · unfold oldV
   split
   · exact List.pairwise_singleton _ _
   · exact List.Pairwise.nil
 · obtain ⟨i, h2, _, rfl, _⟩ := newsV_by hy
   rw [verI_by]
   unfold oldV at hx
   split at hx
   · simp at hx
     rw [hx]
     have := G.hi k
     show b k < _
     omega
   · cases hx
theorem Good.by_lt {r0 : List Row} {D : List Deed3} {m : Nat} {dn : Nat → Bool} {b : ByteArray → Int} {e : Eng} (G : Good r0 D m dn b e) {k : ByteArray} {v : Ver} (h : v ∈ vsOf k e.chains) : v.by_ < e.base + e.deeds.length := by
 have hle := G.le
 rw [G.base, G.len]
 rw [G.vs k] at h
 rcases List.mem_append.1 h with h | h
 · unfold oldV at h
   split at h
   · simp at h
     rw [h]
     have := G.hi k
     show b k < _
     omega
   · cases h
 · obtain ⟨i, h2, h3, rfl, _⟩ := newsV_by h
   rw [verI_by]; omega
theorem Good.vs_len {r0 : List Row} {D : List Deed3} {m : Nat} {dn : Nat → Bool} {b : ByteArray → Int} {e : Eng} (G : Good r0 D m dn b e) (k : ByteArray) : (vsOf k e.chains).length ≤ 1 + D.length := by
 rw [G.vs k, List.length_append]
 have h1 := newsV_len r0 D dn k m (D.length - m)
 have h2 : (oldV r0 D m b k).length ≤ 1 := by unfold oldV; split <;> simp
 omega
theorem Good.fit {r0 : List Row} {D : List Deed3} {m : Nat} {dn : Nat → Bool} {b : ByteArray → Int} {e : Eng} (G : Good r0 D m dn b e) (hD : D.length ≤ 1954687338211) : FitC e.chains :=
 fit_of_vs G.srt G.some_ (fun _ h => G.key h) G.rise (fun k => by have := G.vs_len k; omega)
theorem take_nodup {l : List ByteArray} (h : l.Nodup) (j : Nat) : (l.take j).Nodup := List.Sublist.nodup (List.take_sublist _ _) h
theorem Good.fit_add {r0 : List Row} {D : List Deed3} {m : Nat} {dn : Nat → Bool} {b : ByteArray → Int} {e : Eng} (G : Good r0 D m dn b e) (hD : D.length ≤ 1954687338211) {W : List ByteArray} (hW : wKeys W = 0) (j : Nat) : FitC (addW (e.base + e.deeds.length) (W.take j) e.chains) := by
 have hv : ∀ k, vsOf k (addW (e.base + e.deeds.length) (W.take j) e.chains) = if has (W.take j) k = true then vsOf k e.chains ++ [newV (e.base + e.deeds.length)] else vsOf k e.chains := fun k => vsOf_addW _ (take_nodup (wKeys_nodup hW) j) G.srt
 refine fit_of_vs (addW_srt _ G.srt) (addW_some _ G.some_) (fun k h => ?_) (fun k => ?_) (fun k => ?_)
 · rw [hv k] at h
   split at h
   · rename_i hh
     exact wKeys_key hW (List.mem_of_mem_take (has_iff.1 hh))
   · exact G.key h
 · rw [hv k]
   split
   · exact rise_snoc (G.rise k) (fun u hu => G.by_lt hu)
   · exact G.rise k
 · rw [hv k]
   have := G.vs_len k
   split
   · simp; omega
   · omega
theorem Good.fit_set {r0 : List Row} {D : List Deed3} {m : Nat} {dn : Nat → Bool} {b : ByteArray → Int} {e : Eng} (G : Good r0 D m dn b e) (hD : D.length ≤ 1954687338211) {W : List ByteArray} (hW : wKeys W = 0) (by_ : Int) (r : List Row) (j : Nat) : FitC (setW by_ r (W.take j) e.chains) := by
 have hv : ∀ k, vsOf k (setW by_ r (W.take j) e.chains) = if has (W.take j) k = true then setV (by_, true, isAt k r, num k r) (vsOf k e.chains) else vsOf k e.chains := fun k => vsOf_setW _ (take_nodup (wKeys_nodup hW) j)
 refine fit_of_vs (setW_srt _ G.srt) (setW_some _ G.some_) (fun k h => ?_) (fun k => ?_) (fun k => ?_)
 · rw [hv k] at h
   split at h
   · refine G.key (fun h0 => h ?_)
     rw [h0]; rfl
   · exact G.key h
 · rw [hv k]
   split
   · exact setV_rise (G.rise k)
   · exact G.rise k
 · rw [hv k]
   have := G.vs_len k
   split
   · rw [setV_len]; omega
   · omega
theorem addW_snoc (by_ : Int) (W : List ByteArray) (k : ByteArray) (L : List Chn) : addW by_ (W ++ [k]) L = addC k by_ (addW by_ W L) := by simp [addW]
theorem setW_snoc (by_ : Int) (r : List Row) (W : List ByteArray) (k : ByteArray) (L : List Chn) : setW by_ r (W ++ [k]) L = setC k (by_, true, isAt k r, num k r) (setW by_ r W L) := by simp [setW]
theorem Good.slen {r0 : List Row} {D : List Deed3} {m : Nat} {dn : Nat → Bool} {b : ByteArray → Int} {e : Eng} (G : Good r0 D m dn b e) : e.state.length = e.deeds.length := by rw [G.state, G.len]; simp
theorem Good.elen {r0 : List Row} {D : List Deed3} {m : Nat} {dn : Nat → Bool} {b : ByteArray → Int} {e : Eng} (G : Good r0 D m dn b e) : e.ends.length = e.deeds.length := by rw [G.ends, G.len]; simp

theorem keys_filter : ∀ (l out : List ByteArray), l.Nodup → l.foldl addKey out = out ++ l.filter (fun k => !has out k)
 | [], out, _ => by simp
 | k :: l, out, h => by
   obtain ⟨h1, h2⟩ := List.nodup_cons.1 h
   rw [List.foldl_cons, keys_filter l _ h2, List.filter_cons]
   unfold addKey
   by_cases hk : has out k = true
   · rw [if_pos hk]; simp [hk]
   · have hk' : has out k = false := by simpa using hk
     rw [if_neg hk]
     simp only [hk', Bool.not_false, if_true]
     rw [List.append_assoc]
     congr 1
     simp only [List.singleton_append, List.cons.injEq, true_and]
     refine List.filter_congr fun x hx => ?_
     have hne : k ≠ x := fun e => h1 (by rw [e]; exact hx)
     rw [has_snoc, decide_eq_false hne, Bool.or_false]
def keysP (d : Deed3) : List ByteArray := d.1 ++ d.2.1.filter (fun k => !has d.1 k)
theorem keysP_is {d : Deed3} (h1 : d.1.Nodup) (h2 : d.2.1.Nodup) : keysP d = keysD d := by
 unfold keysP keysD
 rw [List.foldl_append, keys_filter d.1 [] h1]
 have : d.1.filter (fun k => !has [] k) = d.1 := List.filter_eq_self.2 (fun k _ => by simp [has])
 rw [this, List.nil_append, keys_filter d.2.1 d.1 h2]

theorem compact_mem {zs : List Int} {x : Int} : x ∈ Lib.compact zs ↔ x ∈ zs := by
 unfold Lib.compact
 have key : ∀ m, m ≤ zs.length → (x ∈ Lib.compactUpTo zs.toArray m ↔ x ∈ zs.take m) := by
   intro m
   induction m with
   | zero => intro _; simp [Lib.compactUpTo]
   | succ m ih =>
     intro hm
     have hml : m < zs.length := by omega
     have e : zs.toArray[m]! = zs[m] := by simp [hml]
     rw [Lib.compactUpTo_succ, List.mem_append, ih (by omega), List.take_succ_eq_append_getElem hml, List.mem_append, e]
     by_cases hk : Lib.keeps zs.toArray m = true
     · rw [if_pos hk]
     · rw [if_neg hk]
       constructor
       · rintro (h | h)
         · exact .inl h
         · cases h
       · rintro (h | h)
         · exact .inl h
         · left
           simp only [List.mem_singleton] at h
           have hz : ¬ (m = 0 ∨ zs.toArray[m]! ≠ zs.toArray[m - 1]!) := by simpa [Lib.keeps] using hk
           simp only [not_or, Classical.not_not] at hz
           have hm1 : m - 1 < zs.length := by omega
           have e1 : zs.toArray[m - 1]! = zs[m - 1] := by simp [hm1]
           rw [e, e1] at hz
           rw [h, hz.2]
           exact List.mem_take_iff_getElem.2 ⟨m - 1, by omega, rfl⟩
 rw [key _ (Nat.le_refl _), List.take_length]
theorem compact_rise {zs : List Int} (h : zs.Pairwise (· ≤ ·)) : (Lib.compact zs).Pairwise (· < ·) := by
 unfold Lib.compact
 have key : ∀ m, m ≤ zs.length → (Lib.compactUpTo zs.toArray m).Pairwise (· < ·) := by
   intro m
   induction m with
   | zero => intro _; simp [Lib.compactUpTo]
   | succ m ih =>
     intro hm
     have hml : m < zs.length := by omega
     have e : zs.toArray[m]! = zs[m] := by simp [hml]
     rw [Lib.compactUpTo_succ, e]
     by_cases hk : Lib.keeps zs.toArray m = true
     · rw [if_pos hk, List.pairwise_append]
       refine ⟨ih (by omega), List.pairwise_singleton _ _, fun x hx y hy => ?_⟩
       simp only [List.mem_singleton] at hy
       subst hy
       obtain ⟨j, hj, rfl⟩ := List.mem_map.1 hx
       have hjm := List.mem_range.1 (List.mem_filter.1 hj).1
       have hz : m = 0 ∨ zs.toArray[m]! ≠ zs.toArray[m - 1]! := by simpa [Lib.keeps] using hk
       have hm1 : m - 1 < zs.length := by omega
       have e1 : zs.toArray[m - 1]! = zs[m - 1] := by simp [hm1]
       have hjl : j < zs.length := by omega
       have ej : zs.toArray[j]! = zs[j] := by simp [hjl]
       rw [e, e1] at hz
       have hne : zs[m] ≠ zs[m - 1] := by
         rcases hz with h0 | h0
         · omega
         · exact h0
       have p1 : zs[m - 1] ≤ zs[m] := List.pairwise_iff_getElem.1 h (m - 1) m hm1 hml (by omega)
       have p2 : zs[j] ≤ zs[m - 1] := by
         by_cases hjm1 : j = m - 1
         · subst hjm1; exact Int.le_refl _
         · exact List.pairwise_iff_getElem.1 h j (m - 1) hjl hm1 (by omega)
       show zs.toArray[j]! < zs[m]
       rw [ej]
       omega
     · rw [if_neg hk, List.append_nil]
       exact ih (by omega)
 exact key _ (Nat.le_refl _)
theorem rise_ext : ∀ {a b : List Int}, a.Pairwise (· < ·) → b.Pairwise (· < ·) → (∀ x, x ∈ a ↔ x ∈ b) → a = b
 | [], [], _, _, _ => rfl
 | [], y :: b, _, _, h => by have := (h y).2 (by simp); cases this
 | x :: a, [], _, _, h => by have := (h x).1 (by simp); cases this
 | x :: a, y :: b, ha, hb, h => by
   obtain ⟨ha1, ha2⟩ := List.pairwise_cons.1 ha
   obtain ⟨hb1, hb2⟩ := List.pairwise_cons.1 hb
   have exy : x = y := by
     have h1 := (h x).1 (by simp)
     have h2 := (h y).2 (by simp)
     rcases List.mem_cons.1 h1 with e | h1
     · exact e
     · rcases List.mem_cons.1 h2 with e | h2
       · exact e.symm
       · have := ha1 y h2; have := hb1 x h1; omega
   subst exy
   rw [rise_ext ha2 hb2 (fun z => ?_)]
   constructor
   · intro hz
     have h1 := ha1 z hz
     rcases List.mem_cons.1 ((h z).1 (by simp [hz])) with e | h2
     · omega
     · exact h2
   · intro hz
     have h1 := hb1 z hz
     rcases List.mem_cons.1 ((h z).2 (by simp [hz])) with e | h2
     · omega
     · exact h2
def needK (e : Eng) (p : Nat) (k : ByteArray) : List Int := if (before e.chains k (e.base + p)).made = true then [] else [(before e.chains k (e.base + p)).by_ - e.base]
def needP (e : Eng) (p : Nat) (K : List ByteArray) : List Int := K.flatMap (needK e p)
theorem needP_snoc (e : Eng) (p : Nat) (K : List ByteArray) (k : ByteArray) : needP e p (K ++ [k]) = needP e p K ++ needK e p k := by simp [needP]
def ints (l : List Nat) : List Int := l.map (fun n : Nat => (n : Int))
theorem needs_prog {r0 : List Row} {D : List Deed3} {m : Nat} {dn : Nat → Bool} {b : ByteArray → Int} {e : Eng} (G : Good r0 D m dn b e) {p : Nat} (hp : m + p < D.length) :
   Lib.compact ((needP e p (keysD (e.deeds.getD p default))).mergeSort fun x y => decide (x ≤ y)) = ints (needsE e p) := by
 refine rise_ext (compact_rise ?_) ?_ (fun x => ?_)
 · have := List.pairwise_mergeSort (le := fun x y : Int => decide (x ≤ y)) (fun a b c h1 h2 => by simp at *; omega) (fun a b => by simp; omega) (needP e p (keysD (e.deeds.getD p default)))
   exact this.imp (fun h => by simpa using h)
 · unfold ints needsE
   rw [List.pairwise_map]
   exact ((List.pairwise_lt_range (n := p)).filter _).imp (fun h => by omega)
 · rw [compact_mem, List.mem_mergeSort]
   unfold ints needP
   rw [List.mem_flatMap, List.mem_map]
   constructor
   · rintro ⟨k, hk, hx⟩
     unfold needK at hx
     split at hx
     · cases hx
     · rename_i hm
       simp only [List.mem_singleton] at hx
       have hm' : (before e.chains k (e.base + p)).made = false := by simpa using hm
       have hs := G.seen (n := p) (by omega) k
       rw [← G.at_] at hs
       obtain ⟨i, h1, h2, _, _, hv⟩ := hs.no hm'
       refine ⟨i - m, ?_, ?_⟩
       · unfold needsE
         rw [List.mem_filter, List.mem_range]
         refine ⟨by omega, ?_⟩
         unfold needE
         rw [List.any_eq_true]
         refine ⟨k, hk, ?_⟩
         rw [hv, G.base]
         have hi : (newV (i : Int)).by_ = (m : Int) + ((i - m : Nat) : Int) := by show (i : Int) = _; omega
         rw [decide_eq_true hi]
         rfl
       · rw [hx, hv, G.base]
         show ((i - m : Nat) : Int) = (i : Int) - m
         omega
   · rintro ⟨j, hj, rfl⟩
     unfold needsE at hj
     obtain ⟨h1, h2⟩ := List.mem_filter.1 hj
     unfold needE at h2
     rw [List.any_eq_true] at h2
     obtain ⟨k, hk, h3⟩ := h2
     simp only [Bool.and_eq_true, Bool.not_eq_true', decide_eq_true_eq] at h3
     refine ⟨k, hk, ?_⟩
     unfold needK
     rw [h3.1, if_neg (by simp), h3.2]
     simp only [List.mem_singleton]
     omega
end Go.Proofs.YtlhaeeenkgkdaaaGreatDoor

namespace Go.Proofs.YtlhaeeenkgkdaaaGreatDoor
open Go.RowKit

def wDs : List Deed3 → Int
 | [] => 0
 | d :: l => if wDeed d.1 d.2.1 d.2.2 = 0 then wDs l else wDeed d.1 d.2.1 d.2.2
theorem wDs_of : ∀ {l : List Deed3}, RightDs l → wDs l = 0
 | [], _ => rfl
 | d :: l, h => by
   rw [wDs, if_pos (right_wDeed (h d (by simp)))]
   exact wDs_of (fun x hx => h x (by simp [hx]))
theorem wDs_first : ∀ {l : List Deed3} {j : Nat}, j < l.length → RightDs (l.take j) → wDeed (l.getD j default).1 (l.getD j default).2.1 (l.getD j default).2.2 ≠ 0 → wDs l = wDeed (l.getD j default).1 (l.getD j default).2.1 (l.getD j default).2.2
 | [], _, h, _, _ => absurd h (Nat.not_lt_zero _)
 | d :: l, 0, _, _, h => by
   have h' : wDeed d.1 d.2.1 d.2.2 ≠ 0 := by simpa using h
   rw [wDs, if_neg h']; simp
 | d :: l, j + 1, hj, hr, h => by
   rw [wDs, if_pos (right_wDeed (hr d (by simp)))]
   have := wDs_first (l := l) (j := j) (by simpa using hj) (fun x hx => hr x (by simp [hx])) (by simpa using h)
   simpa using this
theorem rights_next {l : List Deed3} {j : Nat} (hj : j < l.length) (h : RightDs (l.take j)) (h2 : wDeed (l.getD j default).1 (l.getD j default).2.1 (l.getD j default).2.2 = 0) : RightDs (l.take (j + 1)) := fun d hd => by
 rw [take_snoc_getD hj] at hd
 rcases List.mem_append.1 hd with h3 | h3
 · exact h d h3
 · simp only [List.mem_singleton] at h3
   rw [h3]; exact right_deed h2
def zeroEng : Eng := ⟨[], [], [], [], 0⟩
theorem addAll_snoc (e : Eng) (l : List Deed3) (d : Deed3) : addAll e (l ++ [d]) = addD (addAll e l) d := by simp [addAll]
theorem addAll_base (e : Eng) : ∀ l : List Deed3, (addAll e l).base = e.base := fun l => by
 induction l generalizing e with
 | nil => rfl
 | cons d l ih => exact ih (addD e d)
theorem getD_in {α : Type} [Inhabited α] {l : List α} {j : Nat} (h : j < l.length) : l.getD j default ∈ l := by simp [List.getD, h]
theorem sees_right {r0 : List Row} {D : List Deed3} {m : Nat} {dn : Nat → Bool} {b : ByteArray → Int} {e : Eng} (G : Good r0 D m dn b e) {p : Nat} (hp : m + p < D.length) (hn : needsE e p = []) : ∀ j, Right (((keysD (e.deeds.getD p default)).take j).foldl (seesK e.chains (e.base + p)) []) := by
 have hkey : ∀ k ∈ keysD (e.deeds.getD p default), keyB k = true ∧ ((before e.chains k (e.base + p)).has_ = true → InR (before e.chains k (e.base + p)).n) := fun k hk => by
   have hd := rights_at G.right hp
   rw [G.deed] at hk
   refine ⟨?_, fun _ => ?_⟩
   · rcases keysD_mem.1 hk with h | h
     · exact wKeys_key hd.r h
     · exact wKeys_key hd.w h
   · have hm := (needs_nil G hp).1 hn k hk
     obtain ⟨_, e2⟩ := (G.seen (n := p) (by omega) k).yes hm
     rw [G.at_, e2]
     exact num_inR (seqR_right G.rows G.right _) k
 intro j
 induction j with
 | zero => exact right_of rfl
 | succ j ih =>
   by_cases hj : j < (keysD (e.deeds.getD p default)).length
   · rw [take_snoc_getD hj, List.foldl_append, List.foldl_cons, List.foldl_nil]
     obtain ⟨h1, h2⟩ := hkey ((keysD (e.deeds.getD p default)).getD j default) (getD_in hj)
     unfold seesK
     split
     · rename_i hh
       exact right_ins ih h1 (h2 hh).1 (h2 hh).2
     · exact ih
   · rw [List.take_of_length_le (by omega)]
     rw [List.take_of_length_le (by omega)] at ih
     exact ih
theorem keysD_len {d : Deed3} (h : RightDD d) : (keysD d).length ≤ 10 := by
 rw [← keysP_is (wKeys_nodup h.r) (wKeys_nodup h.w)]
 unfold keysP
 have h1 := wKeys_len h.r
 have h2 := wKeys_len h.w
 have h3 := List.length_filter_le (fun k => !has d.1 k) d.2.1
 rw [List.length_append]
 omega
theorem sees_len (L : List Chn) (at_ : Int) : ∀ (K : List ByteArray) (r : List Row), (K.foldl (seesK L at_) r).length ≤ r.length + K.length
 | [], r => Nat.le_refl _
 | k :: K, r => by
   have h1 := sees_len L at_ K (seesK L at_ r k)
   have h2 : (seesK L at_ r k).length ≤ r.length + 1 := by
     unfold seesK
     split
     · exact ins_length _ _ _
     · omega
   rw [List.foldl_cons, List.length_cons]
   omega
end Go.Proofs.YtlhaeeenkgkdaaaGreatDoor
