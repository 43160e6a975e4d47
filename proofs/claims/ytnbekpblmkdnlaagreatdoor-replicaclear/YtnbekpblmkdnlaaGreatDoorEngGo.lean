/-
  Plain mathematics of engines: what each engine is, that is made of rows by deeds more, deeds done, and what is old forgotten.
  Plain mathematics of engines: what New, Add, Go and Clear make of one keeps what each engine is.
-/
import Derived.Test.YtnbekpblmkdnlaaGreatDoorDeedTurn
namespace Go.Proofs.YtnbekpblmkdnlaaGreatDoor
open Go.RowKit

def seqR (r0 : List Row) (D : List Deed3) (i : Nat) : List Row := allD r0 (D.take i)
def writes (D : List Deed3) (k : ByteArray) (i : Nat) : Bool := has (D.getD i default).2.1 k
def verI (r0 : List Row) (D : List Deed3) (dn : Nat → Bool) (k : ByteArray) (i : Nat) : Ver := if dn i = true then ((i : Int), true, isAt k (seqR r0 D (i + 1)), num k (seqR r0 D (i + 1))) else newV i
def newsV (r0 : List Row) (D : List Deed3) (dn : Nat → Bool) (k : ByteArray) (a n : Nat) : List Ver := ((List.range' a n).filter (writes D k)).map (verI r0 D dn k)
def oldV (r0 : List Row) (D : List Deed3) (m : Nat) (b : ByteArray → Int) (k : ByteArray) : List Ver := if isAt k (seqR r0 D m) = true then [(b k, true, true, num k (seqR r0 D m))] else []
structure Good (r0 : List Row) (D : List Deed3) (m : Nat) (dn : Nat → Bool) (b : ByteArray → Int) (e : Eng) : Prop where
 rows : Right r0
 right : RightDs D
 le : m ≤ D.length
 fresh : ∀ i, D.length ≤ i → dn i = false
 base : e.base = m
 deeds : e.deeds = D.drop m
 state : e.state = (List.range' m (D.length - m)).map (fun i => if dn i = true then 1 else 0)
 ends : e.ends = (List.range' m (D.length - m)).map (fun i => if dn i = true then endD (seqR r0 D i) (D.getD i default) else noE)
 srt : SrtC e.chains
 some_ : ∀ c ∈ e.chains, c.2 ≠ []
 vs : ∀ k, vsOf k e.chains = oldV r0 D m b k ++ newsV r0 D dn k m (D.length - m)
 lo : ∀ k, -1 ≤ b k
 hi : ∀ k, b k < m

theorem seqR_succ {r0 : List Row} {D : List Deed3} {i : Nat} (h : i < D.length) : seqR r0 D (i + 1) = doD (seqR r0 D i) (D.getD i default) := by
 unfold seqR; rw [take_snoc_getD h, allD_snoc]
theorem seqR_right {r0 : List Row} {D : List Deed3} (h : Right r0) (hD : RightDs D) (i : Nat) : Right (seqR r0 D i) := allD_right _ h (rights_take hD i)
theorem seqR_append {r0 : List Row} {D E : List Deed3} {i : Nat} (h : i ≤ D.length) : seqR r0 (D ++ E) i = seqR r0 D i := by
 unfold seqR; rw [List.take_append_of_le_length h]
theorem seqR_else {r0 : List Row} {D : List Deed3} (h : Right r0) (hD : RightDs D) {i : Nat} (hi : i < D.length) {k : ByteArray} (hk : writes D k i = false) : isAt k (seqR r0 D (i + 1)) = isAt k (seqR r0 D i) ∧ num k (seqR r0 D (i + 1)) = num k (seqR r0 D i) := by
 rw [seqR_succ hi]
 have hn : k ∉ (D.getD i default).2.1 := fun hm => by
   have : writes D k i = true := has_iff.2 hm
   rw [this] at hk; cases hk
 have := doD_else (seqR_right h hD i).srt (rights_at hD hi) hn
 exact ⟨this.2, this.1⟩

theorem befV_low {at_ : Int} : ∀ (l : List Ver) (o : Ver), (∀ v ∈ l, v.by_ < at_) → befV at_ l o = l.getLastD o
 | [], _, _ => rfl
 | v :: l, o, h => by
   rw [befV, if_pos (h v (by simp)), befV_low l v (fun x hx => h x (by simp [hx]))]
   cases l <;> rfl
theorem verI_by (r0 : List Row) (D : List Deed3) (dn : Nat → Bool) (k : ByteArray) (i : Nat) : (verI r0 D dn k i).by_ = i := by
 unfold verI; split <;> rfl
theorem newsV_by {r0 : List Row} {D : List Deed3} {dn : Nat → Bool} {k : ByteArray} {a n : Nat} {v : Ver} (h : v ∈ newsV r0 D dn k a n) : ∃ i, a ≤ i ∧ i < a + n ∧ v = verI r0 D dn k i ∧ writes D k i = true := by
 obtain ⟨i, hi, rfl⟩ := List.mem_map.1 h
 obtain ⟨h1, h2⟩ := List.mem_filter.1 hi
 have := List.mem_range'_1.1 h1
 exact ⟨i, this.1, this.2, rfl, h2⟩
theorem newsV_append (r0 : List Row) (D : List Deed3) (dn : Nat → Bool) (k : ByteArray) (a n m : Nat) : newsV r0 D dn k a (n + m) = newsV r0 D dn k a n ++ newsV r0 D dn k (a + n) m := by
 unfold newsV
 rw [← List.range'_append_1, List.filter_append, List.map_append]
theorem newsV_succ (r0 : List Row) (D : List Deed3) (dn : Nat → Bool) (k : ByteArray) (a n : Nat) : newsV r0 D dn k a (n + 1) = newsV r0 D dn k a n ++ (if writes D k (a + n) = true then [verI r0 D dn k (a + n)] else []) := by
 rw [newsV_append]
 congr 1
 unfold newsV
 simp only [List.range'_one, List.filter_cons, List.filter_nil]
 split <;> rfl
def seenV (r0 : List Row) (D : List Deed3) (dn : Nat → Bool) (b : ByteArray → Int) (k : ByteArray) (m n : Nat) : Ver := (newsV r0 D dn k m n).getLastD ((oldV r0 D m b k).getLastD ver0)
theorem getLastD_snoc {α : Type} (l : List α) (x o : α) : (l ++ [x]).getLastD o = x := by
 rw [List.getLastD_eq_getLast?, List.getLast?_concat]; rfl
theorem seen_of {r0 : List Row} {D : List Deed3} {m : Nat} {dn : Nat → Bool} {b : ByteArray → Int} {e : Eng} (G : Good r0 D m dn b e) {n : Nat} (hn : m + n ≤ D.length) (k : ByteArray) : before e.chains k ((m + n : Nat) : Int) = seenV r0 D dn b k m n := by
 unfold before seenV
 rw [G.vs k, show D.length - m = n + (D.length - m - n) from by omega, newsV_append, befV_append, befV_append]
 rw [befV_high _ (fun v hv => by
   obtain ⟨i, h1, _, rfl, _⟩ := newsV_by hv
   rw [verI_by]; omega)]
 rw [befV_low _ _ (fun v hv => by
   obtain ⟨i, _, h2, rfl, _⟩ := newsV_by hv
   rw [verI_by]; omega)]
 congr 1
 refine befV_low _ _ (fun v hv => ?_)
 unfold oldV at hv
 split at hv
 · simp at hv
   rw [hv]
   have := G.hi k
   show b k < _
   omega
 · cases hv
structure Seen (r0 : List Row) (D : List Deed3) (dn : Nat → Bool) (k : ByteArray) (m at_ : Nat) (v : Ver) : Prop where
 yes : v.made = true → v.has_ = isAt k (seqR r0 D at_) ∧ v.n = num k (seqR r0 D at_)
 no : v.made = false → ∃ i, m ≤ i ∧ i < at_ ∧ writes D k i = true ∧ dn i = false ∧ v = newV i
theorem seen_is {r0 : List Row} {D : List Deed3} {m : Nat} {dn : Nat → Bool} {b : ByteArray → Int} (h : Right r0) (hD : RightDs D) (k : ByteArray) : ∀ n, m + n ≤ D.length → Seen r0 D dn k m (m + n) (seenV r0 D dn b k m n)
 | 0, _ => by
   unfold seenV
   have e : newsV r0 D dn k m 0 = [] := rfl
   rw [e]
   show Seen r0 D dn k m m ((oldV r0 D m b k).getLastD ver0)
   unfold oldV
   split
   · rename_i hk
     exact ⟨fun _ => ⟨hk.symm, rfl⟩, fun h => by cases h⟩
   · rename_i hk
     have hk' : isAt k (seqR r0 D m) = false := by simpa using hk
     exact ⟨fun _ => ⟨hk'.symm, (num_not k _ hk').symm⟩, fun h => by cases h⟩
 | n + 1, hn => by
   have ih := seen_is (m := m) (b := b) (dn := dn) h hD k n (by omega)
   unfold seenV at ih ⊢
   rw [newsV_succ]
   cases hw : writes D k (m + n) with
   | true =>
     rw [if_pos rfl, getLastD_snoc]
     unfold verI
     cases hd : dn (m + n) with
     | true => exact ⟨fun _ => ⟨rfl, rfl⟩, fun h => by cases h⟩
     | false => exact ⟨(fun h => by cases h), fun _ => ⟨m + n, by omega, by omega, hw, hd, rfl⟩⟩
   | false =>
     rw [if_neg (by simp), List.append_nil]
     obtain ⟨e1, e2⟩ := seqR_else h hD (i := m + n) (by omega) hw
     refine ⟨fun hm => ?_, fun hm => ?_⟩
     · obtain ⟨h1, h2⟩ := ih.yes hm
       exact ⟨h1.trans e1.symm, h2.trans e2.symm⟩
     · obtain ⟨i, h1, h2, h3⟩ := ih.no hm
       exact ⟨i, h1, by omega, h3⟩
theorem Good.seen {r0 : List Row} {D : List Deed3} {m : Nat} {dn : Nat → Bool} {b : ByteArray → Int} {e : Eng} (G : Good r0 D m dn b e) {n : Nat} (hn : m + n ≤ D.length) (k : ByteArray) : Seen r0 D dn k m (m + n) (before e.chains k ((m + n : Nat) : Int)) := by
 rw [seen_of G hn k]; exact seen_is G.rows G.right k n hn
theorem Good.len {r0 : List Row} {D : List Deed3} {m : Nat} {dn : Nat → Bool} {b : ByteArray → Int} {e : Eng} (G : Good r0 D m dn b e) : e.deeds.length = D.length - m := by rw [G.deeds, List.length_drop]
theorem Good.deed {r0 : List Row} {D : List Deed3} {m : Nat} {dn : Nat → Bool} {b : ByteArray → Int} {e : Eng} (G : Good r0 D m dn b e) (p : Nat) : e.deeds.getD p default = D.getD (m + p) default := by rw [G.deeds]; simp [List.getD]
theorem Good.at_ {r0 : List Row} {D : List Deed3} {m : Nat} {dn : Nat → Bool} {b : ByteArray → Int} {e : Eng} (G : Good r0 D m dn b e) (p : Nat) : e.base + (p : Int) = ((m + p : Nat) : Int) := by rw [G.base]; omega

theorem needs_nil {r0 : List Row} {D : List Deed3} {m : Nat} {dn : Nat → Bool} {b : ByteArray → Int} {e : Eng} (G : Good r0 D m dn b e) {p : Nat} (hp : m + p < D.length) : needsE e p = [] ↔ ∀ x ∈ keysD (D.getD (m + p) default), (before e.chains x ((m + p : Nat) : Int)).made = true := by
 unfold needsE
 rw [List.filter_eq_nil_iff]
 constructor
 · intro h x hx
   cases hm : (before e.chains x ((m + p : Nat) : Int)).made with
   | true => rfl
   | false =>
     obtain ⟨i, h1, h2, _, _, hv⟩ := (G.seen (n := p) (by omega) x).no hm
     have := h (i - m) (List.mem_range.2 (by omega))
     exfalso
     apply this
     unfold needE
     rw [G.deed, G.at_, List.any_eq_true]
     refine ⟨x, hx, ?_⟩
     rw [hv, G.at_]
     have : m + (i - m) = i := by omega
     rw [this]
     simp [newV, Ver.made, Ver.by_]
 · intro h j hj hn
   unfold needE at hn
   rw [G.deed, G.at_, List.any_eq_true] at hn
   obtain ⟨x, hx, h2⟩ := hn
   rw [h x hx] at h2
   simp at h2
theorem need_back {r0 : List Row} {D : List Deed3} {m : Nat} {dn : Nat → Bool} {b : ByteArray → Int} {e : Eng} (G : Good r0 D m dn b e) {p : Nat} (hp : m + p < D.length) {j : Nat} (hj : j ∈ needsE e p) : j < p ∧ dn (m + j) = false := by
 unfold needsE at hj
 obtain ⟨h1, h2⟩ := List.mem_filter.1 hj
 have hjp := List.mem_range.1 h1
 refine ⟨hjp, ?_⟩
 unfold needE at h2
 rw [G.deed, G.at_, List.any_eq_true] at h2
 obtain ⟨x, _, h3⟩ := h2
 simp only [Bool.and_eq_true, Bool.not_eq_true', decide_eq_true_eq] at h3
 obtain ⟨i, _, _, _, hd, hv⟩ := (G.seen (n := p) (by omega) x).no h3.1
 have hb := h3.2
 rw [hv, G.at_] at hb
 have : (i : Int) = ((m + j : Nat) : Int) := hb
 have : i = m + j := by omega
 rw [← this]; exact hd
end Go.Proofs.YtnbekpblmkdnlaaGreatDoor

namespace Go.Proofs.YtnbekpblmkdnlaaGreatDoor
open Go.RowKit

structure SeesIs (L : List Chn) (at_ : Int) (K : List ByteArray) (r r' : List Row) : Prop where
 srt : Srt r'
 is : ∀ x, isAt x r' = ((has K x && (before L x at_).has_) || isAt x r)
 n : ∀ x, num x r' = if (has K x && (before L x at_).has_) = true then (before L x at_).n else num x r
theorem sees_fold (L : List Chn) (at_ : Int) : ∀ (K : List ByteArray) (r : List Row), Srt r → SeesIs L at_ K r (K.foldl (seesK L at_) r)
 | [], r, h => ⟨h, fun x => by simp [has], fun x => by simp [has]⟩
 | k :: K, r, h => by
   have hs : Srt (seesK L at_ r k) := by
     unfold seesK; split
     · exact srt_ins h
     · exact h
   obtain ⟨i1, i2, i3⟩ := sees_fold L at_ K (seesK L at_ r k) hs
   refine ⟨i1, fun x => ?_, fun x => ?_⟩
   · rw [List.foldl_cons, i2 x, has_cons]
     unfold seesK
     by_cases e : x = k
     · subst e
       cases hh : (before L x at_).has_ with
       | true => simp [isAt_ins]
       | false => simp
     · have hd : decide (k = x) = false := decide_eq_false (Ne.symm e)
       rw [hd, Bool.false_or]
       split
       · rw [(other_ins _ e r h).1]
       · rfl
   · rw [List.foldl_cons, i3 x, has_cons]
     unfold seesK
     by_cases e : x = k
     · subst e
       cases hh : (before L x at_).has_ with
       | true => simp [num_ins]
       | false => simp
     · have hd : decide (k = x) = false := decide_eq_false (Ne.symm e)
       rw [hd, Bool.false_or]
       split
       · rfl
       · split
         · rw [(other_ins _ e r h).2]
         · rfl
theorem sees_is {r0 : List Row} {D : List Deed3} {m : Nat} {dn : Nat → Bool} {b : ByteArray → Int} {e : Eng} (G : Good r0 D m dn b e) {p : Nat} (hp : m + p < D.length) (hn : needsE e p = []) : Srt (seesE e p) ∧ ∀ x ∈ keysD (D.getD (m + p) default), isAt x (seesE e p) = isAt x (seqR r0 D (m + p)) ∧ num x (seesE e p) = num x (seqR r0 D (m + p)) := by
 unfold seesE
 rw [G.deed, G.at_]
 obtain ⟨h1, h2, h3⟩ := sees_fold e.chains ((m + p : Nat) : Int) (keysD (D.getD (m + p) default)) [] List.Pairwise.nil
 refine ⟨h1, fun x hx => ?_⟩
 have hm := (needs_nil G hp).1 hn x hx
 obtain ⟨e1, e2⟩ := (G.seen (n := p) (by omega) x).yes hm
 rw [h2, h3, has_iff.2 hx, e1]
 refine ⟨by simp [isAt], ?_⟩
 cases hi : isAt x (seqR r0 D (m + p)) with
 | true => simpa using e2
 | false => rw [num_not x _ hi]; simp [num]
theorem sees_ex {r0 : List Row} {D : List Deed3} {m : Nat} {dn : Nat → Bool} {b : ByteArray → Int} {e : Eng} (G : Good r0 D m dn b e) {p : Nat} (hp : m + p < D.length) (hn : needsE e p = []) : exD (seesE e p) (D.getD (m + p) default) = exD (seqR r0 D (m + p)) (D.getD (m + p) default) := by
 unfold exD
 refine exec_same _ _ _ _ fun i hi hk => ?_
 exact ((sees_is G hp hn).2 i.key (keysD_mem.2 (.inl (right_loads (rights_at G.right hp) i hi hk)))).2
theorem sees_end {r0 : List Row} {D : List Deed3} {m : Nat} {dn : Nat → Bool} {b : ByteArray → Int} {e : Eng} (G : Good r0 D m dn b e) {p : Nat} (hp : m + p < D.length) (hn : needsE e p = []) : endD (seesE e p) (D.getD (m + p) default) = endD (seqR r0 D (m + p)) (D.getD (m + p) default) := by
 unfold endD; rw [sees_ex G hp hn]
theorem sees_do {r0 : List Row} {D : List Deed3} {m : Nat} {dn : Nat → Bool} {b : ByteArray → Int} {e : Eng} (G : Good r0 D m dn b e) {p : Nat} (hp : m + p < D.length) (hn : needsE e p = []) {k : ByteArray} (hk : k ∈ (D.getD (m + p) default).2.1) :
   isAt k (doD (seesE e p) (D.getD (m + p) default)) = isAt k (seqR r0 D (m + p + 1)) ∧ num k (doD (seesE e p) (D.getD (m + p) default)) = num k (seqR r0 D (m + p + 1)) := by
 obtain ⟨hs, hx⟩ := sees_is G hp hn
 obtain ⟨e1, e2⟩ := hx k (keysD_mem.2 (.inr hk))
 have hd := rights_at G.right hp
 have hq := (seqR_right G.rows G.right (m + p)).srt
 rw [seqR_succ hp, doD_at hs hd, doD_at hq hd, doD_num hs hd, doD_num hq hd, sees_ex G hp hn]
 unfold isThere look
 simp only [e1, e2]
 exact ⟨trivial, trivial⟩

def doneNow (dn : Nat → Bool) (i : Nat) : Nat → Bool := fun j => if j = i then true else dn j
theorem map_set {α : Type} (f g : Nat → α) (m n p : Nat) (x : α) (hx : g (m + p) = x) (hg : ∀ i, i ≠ m + p → g i = f i) : ((List.range' m n).map f).set p x = (List.range' m n).map g := by
 apply List.ext_getElem?
 intro j
 rw [List.getElem?_set, List.getElem?_map, List.getElem?_map]
 by_cases hj : j < n
 · rw [List.getElem?_range' hj]
   by_cases e : p = j
   · subst e
     simp [hj, hx]
   · rw [if_neg e]
     simp only [Option.map_some, Nat.one_mul]
     rw [hg _ (by omega)]
 · rw [List.getElem?_eq_none (by simpa using hj)]
   by_cases e : p = j
   · subst e
     simp [hj]
   · rw [if_neg e]; rfl
theorem setV_news {r0 : List Row} {D : List Deed3} {dn : Nat → Bool} {k : ByteArray} {i : Nat} {v : Ver} (hv : v = verI r0 D (doneNow dn i) k i) (a n : Nat) : setV v (newsV r0 D dn k a n) = newsV r0 D (doneNow dn i) k a n := by
 unfold setV newsV
 rw [List.map_map]
 refine List.map_congr_left fun j hj => ?_
 show (if (verI r0 D dn k j).by_ = v.by_ then v else verI r0 D dn k j) = _
 rw [verI_by, hv, verI_by]
 by_cases e : j = i
 · subst e; rw [if_pos rfl]
 · rw [if_neg (by omega)]
   unfold verI doneNow
   rw [if_neg e]
theorem news_else {r0 : List Row} {D : List Deed3} {dn : Nat → Bool} {k : ByteArray} {i : Nat} (hw : writes D k i = false) (a n : Nat) : newsV r0 D (doneNow dn i) k a n = newsV r0 D dn k a n := by
 unfold newsV
 refine List.map_congr_left fun j hj => ?_
 have hj' := (List.mem_filter.1 hj).2
 have e : j ≠ i := fun e => by rw [e, hw] at hj'; cases hj'
 unfold verI doneNow
 rw [if_neg e]
theorem Good.go {r0 : List Row} {D : List Deed3} {m : Nat} {dn : Nat → Bool} {b : ByteArray → Int} {e : Eng} (G : Good r0 D m dn b e) {p : Nat} (hp : m + p < D.length) (hn : needsE e p = []) : Good r0 D m (doneNow dn (m + p)) b (goE e p) := by
 have hW := (rights_at G.right hp).w
 refine ⟨G.rows, G.right, G.le, fun i hi => ?_, G.base, G.deeds, ?_, ?_, setW_srt _ G.srt, setW_some _ G.some_, fun k => ?_, G.lo, G.hi⟩
 · unfold doneNow; rw [if_neg (by omega)]; exact G.fresh i hi
 · show e.state.set p 1 = _
   rw [G.state]
   exact map_set _ _ m _ p 1 (by simp [doneNow]) (fun i hi => by simp [doneNow, hi])
 · show e.ends.set p _ = _
   rw [G.ends, G.deed, sees_end G hp hn]
   exact map_set _ _ m _ p _ (by simp [doneNow]) (fun i hi => by simp [doneNow, hi])
 · show vsOf k (setW (e.base + p) _ _ e.chains) = _
   rw [G.deed, G.at_, vsOf_setW _ (wKeys_nodup hW), G.vs k]
   cases hk : has (D.getD (m + p) default).2.1 k with
   | true =>
     rw [if_pos rfl, setV_append]
     obtain ⟨e1, e2⟩ := sees_do G hp hn (has_iff.1 hk)
     have ho : setV (((m + p : Nat) : Int), true, isAt k (doD (seesE e p) (D.getD (m + p) default)), num k (doD (seesE e p) (D.getD (m + p) default))) (oldV r0 D m b k) = oldV r0 D m b k := setV_none (fun u hu => by
       unfold oldV at hu
       split at hu
       · simp at hu
         rw [hu]
         have := G.hi k
         show b k ≠ ((m + p : Nat) : Int)
         omega
       · cases hu)
     rw [ho, setV_news (i := m + p)]
     rw [e1, e2]
     unfold verI doneNow
     rw [if_pos (by simp)]
   | false =>
     rw [if_neg (by simp), news_else hk]

theorem writes_append {D : List Deed3} {d : Deed3} {k : ByteArray} {i : Nat} (h : i < D.length) : writes (D ++ [d]) k i = writes D k i := by
 unfold writes; simp [List.getD, List.getElem?_append_left h]
theorem writes_last {D : List Deed3} {d : Deed3} {k : ByteArray} : writes (D ++ [d]) k D.length = has d.2.1 k := by
 unfold writes; simp [List.getD]
theorem Good.add {r0 : List Row} {D : List Deed3} {m : Nat} {dn : Nat → Bool} {b : ByteArray → Int} {e : Eng} (G : Good r0 D m dn b e) {d : Deed3} (hd : RightDD d) : Good r0 (D ++ [d]) m dn b (addD e d) := by
 have hle := G.le
 have hlen : (D ++ [d]).length - m = (D.length - m) + 1 := by simp; omega
 have hend : m + (D.length - m) = D.length := by omega
 refine ⟨G.rows, fun x hx => ?_, by simp; omega, fun i hi => G.fresh i (by simp at hi; omega), G.base, ?_, ?_, ?_, addW_srt _ G.srt, addW_some _ G.some_, fun k => ?_, G.lo, G.hi⟩
 · rcases List.mem_append.1 hx with h | h
   · exact G.right x h
   · simp at h; rw [h]; exact hd
 · show e.deeds ++ [d] = _
   rw [G.deeds, List.drop_append_of_le_length hle]
 · show e.state ++ [0] = _
   rw [G.state, hlen, ← List.range'_append_1, List.map_append, hend]
   simp [G.fresh D.length (Nat.le_refl _)]
 · show e.ends ++ [noE] = _
   rw [G.ends, hlen, ← List.range'_append_1, List.map_append, hend]
   congr 1
   · refine List.map_congr_left fun i hi => ?_
     have := List.mem_range'_1.1 hi
     rw [seqR_append (by omega)]
     simp [List.getD, List.getElem?_append_left (show i < D.length by omega)]
   · simp [G.fresh D.length (Nat.le_refl _)]
 · show vsOf k (addW (e.base + e.deeds.length) d.2.1 e.chains) = _
   rw [vsOf_addW _ (wKeys_nodup hd.w) G.srt, G.vs k, hlen, newsV_succ, hend, writes_last]
   have ho : oldV r0 (D ++ [d]) m b k = oldV r0 D m b k := by unfold oldV; rw [seqR_append hle]
   have hne : newsV r0 (D ++ [d]) dn k m (D.length - m) = newsV r0 D dn k m (D.length - m) := by
     unfold newsV
     have hf : (List.range' m (D.length - m)).filter (writes (D ++ [d]) k) = (List.range' m (D.length - m)).filter (writes D k) := by
       refine List.filter_congr fun i hi => ?_
       have := List.mem_range'_1.1 hi
       exact writes_append (by omega)
     rw [hf]
     refine List.map_congr_left fun i hi => ?_
     have := List.mem_range'_1.1 (List.mem_filter.1 hi).1
     unfold verI
     rw [seqR_append (by omega)]
   rw [ho, hne]
   have hv : verI r0 (D ++ [d]) dn k D.length = newV (e.base + (e.deeds.length : Int)) := by
     unfold verI
     rw [if_neg (by rw [G.fresh D.length (Nat.le_refl _)]; simp), G.base, G.len]
     congr 1
     omega
   rw [hv]
   cases has d.2.1 k with
   | true => simp
   | false => simp
theorem Good.addAll {r0 : List Row} {m : Nat} {dn : Nat → Bool} {b : ByteArray → Int} {l : List Deed3} : ∀ {D : List Deed3} {e : Eng}, Good r0 D m dn b e → RightDs l → Good r0 (D ++ l) m dn b (addAll e l) := by
 induction l with
 | nil => intro D e G _; simpa [Go.Proofs.YtnbekpblmkdnlaaGreatDoor.addAll] using G
 | cons d l ih =>
   intro D e G hl
   have := ih (G.add (hl d (by simp))) (fun x hx => hl x (by simp [hx]))
   simpa [Go.Proofs.YtnbekpblmkdnlaaGreatDoor.addAll] using this

theorem vsOf_rows (k : ByteArray) : ∀ r : List Row, Srt r → vsOf k (ofRows r) = if isAt k r = true then [(-1, true, true, num k r)] else []
 | [], _ => rfl
 | x :: r, h => by
   obtain ⟨h1, h2⟩ := srt_cons.1 h
   show vsOf k ((x.1, [(-1, true, true, x.2)]) :: ofRows r) = _
   rw [vsOf, isAt, num]
   rcases less_cases x.1 k with g | g | g
   · rw [if_neg (less_ne g), if_pos g, if_pos g]
     exact vsOf_rows k r h2
   · subst g
     simp [less_irrefl]
   · have g2 := less_asymm g
     rw [if_neg (fun e => less_ne g e.symm)]
     simp only [g, g2]
     have := vsOf_rows k r h2
     rw [(isAt_front (k := k) (l := r) (fun y hy => less_trans g (h1 y hy))).1] at this
     simpa using this
theorem Good.new {r0 : List Row} (h : Right r0) : Good r0 [] 0 (fun _ => false) (fun _ => -1) (newE r0) := by
 refine ⟨h, (fun _ h => by cases h), Nat.le_refl _, fun _ _ => rfl, rfl, rfl, rfl, rfl, ?_, ?_, fun k => ?_, fun _ => Int.le_refl _, fun _ => by decide⟩
 · show SrtC (ofRows r0)
   unfold SrtC ofRows
   rw [List.pairwise_map]
   exact h.srt
 · intro c hc
   obtain ⟨x, _, rfl⟩ := List.mem_map.1 hc
   simp
 · show vsOf k (ofRows r0) = _
   rw [vsOf_rows k r0 h.srt]
   show _ = oldV r0 [] 0 (fun _ => -1) k ++ []
   rw [List.append_nil]
   rfl
end Go.Proofs.YtnbekpblmkdnlaaGreatDoor
