/-
  Plain mathematics of the document's own Get and Put: what they come to row by row, of rows that rise.
  Plain mathematics of doing a deed on rows: the rows then are those in which keys have what the deed made, and else what they had.
-/
import Derived.Test.YtdnafpenljdinadDoorMath
import Derived.Test.YtdnafpenljdinadDoorTextMath
namespace Go.Proofs.YtdnafpenljdinadDoor

theorem get_found {k : ByteArray} : ∀ {l : List Row} {i : Nat}, Srt l → i < l.length → (l.getD i default).1 = k → isAt k l = true ∧ num k l = (l.getD i default).2
  | [], _, _, h, _ => absurd h (Nat.not_lt_zero _)
  | x :: l, 0, _, _, h => by
    have h' : x.1 = k := by simpa using h
    simp [isAt, num, h', less_irrefl]
  | x :: l, i + 1, hs, hi, h => by
    obtain ⟨hx, hl⟩ := srt_cons.1 hs
    have hi' : i < l.length := by simpa using hi
    have h' : (l.getD i default).1 = k := by simpa using h
    have hlt : less x.1 k = true := by rw [← h']; exact hx _ (mem_getD hi')
    have ih := get_found hl hi' h'
    rw [isAt, num, if_pos hlt, if_pos hlt]
    exact ⟨ih.1, by rw [ih.2]; simp⟩
theorem get_none {k : ByteArray} : ∀ {l : List Row}, (∀ j, j < l.length → (l.getD j default).1 ≠ k) → isAt k l = false ∧ num k l = 0
  | [], _ => ⟨rfl, rfl⟩
  | x :: l, h => by
    have h0 := h 0 (by simp)
    simp at h0
    have ih := get_none (l := l) fun j hj => by simpa using h (j + 1) (by simpa using hj)
    rcases less_cases x.1 k with g | g | g
    · simp [isAt, num, g, ih]
    · exact absurd g h0
    · simp [isAt, num, g, less_asymm g]

/-- Are all keys below k? -/
def allLess (k : ByteArray) (p : List Row) : Bool := p.all fun y => less y.1 k
/-- What Put comes to: k has n, or nothing. -/
def refOut (has : Bool) (k : ByteArray) (n : Int) (p : List Row) : List Row := if has = true then ins k n p else del k p
/-- What is there while it goes on, behind the rows p. -/
def stOut (has : Bool) (k : ByteArray) (n : Int) (p : List Row) : List Row := if allLess k p = true then p else refOut has k n p

theorem allLess_snoc (k : ByteArray) (p : List Row) (x : Row) : allLess k (p ++ [x]) = (allLess k p && less x.1 k) := by simp [allLess]

theorem ins_less {k : ByteArray} {n : Int} {q : List Row} : ∀ {p : List Row}, allLess k p = true → ins k n (p ++ q) = p ++ ins k n q
  | [], _ => rfl
  | x :: p, h => by
    have h' : less x.1 k = true ∧ allLess k p = true := by simpa [allLess] using h
    simp [ins, h'.1, ins_less h'.2]
theorem del_less {k : ByteArray} {q : List Row} : ∀ {p : List Row}, allLess k p = true → del k (p ++ q) = p ++ del k q
  | [], _ => rfl
  | x :: p, h => by
    have h' : less x.1 k = true ∧ allLess k p = true := by simpa [allLess] using h
    simp [del, h'.1, del_less h'.2]
theorem ins_done {k : ByteArray} {n : Int} {q : List Row} : ∀ {p : List Row}, allLess k p = false → ins k n (p ++ q) = ins k n p ++ q
  | [], h => by simp [allLess] at h
  | x :: p, h => by
    cases g : less x.1 k with
    | true =>
      have h' : allLess k p = false := by simpa [allLess, g] using h
      simp [ins, g, ins_done h']
    | false => cases g2 : less k x.1 <;> simp [ins, g, g2]
theorem del_done {k : ByteArray} {q : List Row} : ∀ {p : List Row}, allLess k p = false → del k (p ++ q) = del k p ++ q
  | [], h => by simp [allLess] at h
  | x :: p, h => by
    cases g : less x.1 k with
    | true =>
      have h' : allLess k p = false := by simpa [allLess, g] using h
      simp [del, g, del_done h']
    | false => cases g2 : less k x.1 <;> simp [del, g, g2]

theorem st_less {has : Bool} {k : ByteArray} {n : Int} {p : List Row} {x : Row} (h : allLess k p = true) (hx : less x.1 k = true) : stOut has k n (p ++ [x]) = stOut has k n p ++ [x] := by
  simp [stOut, allLess_snoc, h, hx]
theorem st_eq {has : Bool} {k : ByteArray} {n : Int} {p : List Row} {x : Row} (h : allLess k p = true) (hx : x.1 = k) : stOut has k n (p ++ [x]) = stOut has k n p ++ if has = true then [(k, n)] else [] := by
  cases has <;> simp [stOut, allLess_snoc, h, hx, less_irrefl, refOut, ins_less h, del_less h, ins, del]
theorem st_more {has : Bool} {k : ByteArray} {n : Int} {p : List Row} {x : Row} (h : allLess k p = true) (hx : less k x.1 = true) : stOut has k n (p ++ [x]) = (stOut has k n p ++ if has = true then [(k, n)] else []) ++ [x] := by
  cases has <;> simp [stOut, allLess_snoc, h, hx, less_asymm hx, refOut, ins_less h, del_less h, ins, del]
theorem st_done {has : Bool} {k : ByteArray} {n : Int} {p : List Row} {x : Row} (h : allLess k p = false) : stOut has k n (p ++ [x]) = stOut has k n p ++ [x] := by
  cases has <;> simp [stOut, allLess_snoc, h, refOut, ins_done h, del_done h]
theorem st_end {has : Bool} {k : ByteArray} {n : Int} {p : List Row} (h : allLess k p = true) : refOut has k n p = stOut has k n p ++ if has = true then [(k, n)] else [] := by
  have e1 := ins_less (n := n) (q := []) h
  have e2 := del_less (q := []) h
  simp only [List.append_nil] at e1 e2
  cases has <;> simp [stOut, h, refOut, e1, e2, ins, del]
theorem st_fin {has : Bool} {k : ByteArray} {n : Int} {p : List Row} (h : allLess k p = false) : refOut has k n p = stOut has k n p := by simp [stOut, h]

/-- Who comes behind one that is not below k is above k. -/
theorem more_of_done {k : ByteArray} {l : List Row} {i : Nat} (hs : Srt l) (hi : i < l.length) (h : allLess k (l.take i) = false) : less k (l.getD i default).1 = true := by
  simp only [allLess, List.all_eq_false] at h
  obtain ⟨y, hy, hn⟩ := h
  obtain ⟨j, hj, e⟩ := List.getElem_of_mem hy
  have hj' : j < i := by simp at hj; omega
  have h1 := srt_getD hs hj' hi
  have e' : l.getD j default = y := by rw [← e]; simp [List.getD, show j < l.length by omega]
  rw [e'] at h1
  rcases less_cases y.1 k with g | g | g
  · exact absurd g (by simpa using hn)
  · rw [← g]; exact h1
  · exact less_trans g h1
theorem take_next {l : List Row} {i : Nat} (h : i < l.length) : l.take (i + 1) = l.take i ++ [l.getD i default] := by
  rw [List.take_succ_eq_append_getElem h]; simp [List.getD, h]
theorem stOut_len {has : Bool} {k : ByteArray} {n : Int} {p : List Row} : (stOut has k n p).length ≤ p.length + 1 := by
  have h1 := ins_length k n p
  have h2 := del_length k p
  unfold stOut refOut
  split
  · omega
  · split <;> omega
end Go.Proofs.YtdnafpenljdinadDoor

namespace Go.Proofs.YtdnafpenljdinadDoor
open Go.RowKit

/-- Is there something at k? -/
def isThere (l : List Row) (m : Made) (k : ByteArray) : Bool := match m k with
  | some (some _) => true
  | some none => false
  | none => isAt k l
/-- The rows L are l with what was made. -/
structure Over (L l : List Row) (m : Made) : Prop where
  srt : Srt L
  at_ : ∀ k, isAt k L = isThere l m k
  num_ : ∀ k, num k L = look (fun k => num k l) m k

theorem Over.start {l : List Row} (h : Srt l) : Over l l (fun _ => none) := ⟨h, fun _ => rfl, fun _ => rfl⟩
theorem Over.ins {L l : List Row} {m : Made} (h : Over L l m) (k : ByteArray) (n : Int) : Over (ins k n L) l (setM m k (some n)) := by
  refine ⟨srt_ins h.srt, fun j => ?_, fun j => ?_⟩
  · by_cases e : j = k
    · subst e; rw [isAt_ins]; simp [isThere, setM]
    · rw [(other_ins n e L h.srt).1, h.at_ j]; simp [isThere, setM, e]
  · by_cases e : j = k
    · subst e; rw [num_ins]; simp [look, setM]
    · rw [(other_ins n e L h.srt).2, h.num_ j]; simp [look, setM, e]
theorem num_del (k : ByteArray) {l : List Row} (h : Srt l) : num k (del k l) = 0 := num_not k _ (isAt_del k l h)
theorem Over.del {L l : List Row} {m : Made} (h : Over L l m) (k : ByteArray) : Over (del k L) l (setM m k none) := by
  refine ⟨srt_del h.srt, fun j => ?_, fun j => ?_⟩
  · by_cases e : j = k
    · subst e; rw [isAt_del _ _ h.srt]; simp [isThere, setM]
    · rw [(other_del e L h.srt).1, h.at_ j]; simp [isThere, setM, e]
  · by_cases e : j = k
    · subst e; rw [num_del _ h.srt]; simp [look, setM]
    · rw [(other_del e L h.srt).2, h.num_ j]; simp [look, setM, e]

/-- Rows that rise are told by what keys have. -/
theorem srt_ext : ∀ {a b : List Row}, Srt a → Srt b → (∀ k, isAt k a = isAt k b) → (∀ k, num k a = num k b) → a = b
  | [], [], _, _, _, _ => rfl
  | [], y :: b, _, _, h, _ => by
    have := h y.1
    simp [isAt, less_irrefl] at this
  | x :: a, [], _, _, h, _ => by
    have := h x.1
    simp [isAt, less_irrefl] at this
  | x :: a, y :: b, ha, hb, h, hn => by
    obtain ⟨hx, ha'⟩ := srt_cons.1 ha
    obtain ⟨hy, hb'⟩ := srt_cons.1 hb
    have e1 : x.1 = y.1 := by
      rcases less_cases x.1 y.1 with g | g | g
      · have := h x.1
        simp [isAt, less_irrefl, g, less_asymm g] at this
      · exact g
      · have := h y.1
        simp [isAt, less_irrefl, g, less_asymm g] at this
    have e2 : x.2 = y.2 := by
      have := hn x.1
      rw [num, num, e1] at this
      simpa [less_irrefl] using this
    have exy : x = y := Prod.ext e1 e2
    subst exy
    have step : ∀ k, isAt k a = isAt k b ∧ num k a = num k b := by
      intro k
      have h1 := h k
      have h2 := hn k
      rcases less_cases x.1 k with g | g | g
      · simp only [isAt, num, g, if_true] at h1 h2
        exact ⟨h1, h2⟩
      · have f1 := isAt_front (k := k) (l := a) fun y hy => by rw [← g]; exact hx y hy
        have f2 := isAt_front (k := k) (l := b) fun y hy' => by rw [← g]; exact hy y hy'
        rw [f1.1, f1.2, f2.1, f2.2]; exact ⟨rfl, rfl⟩
      · have f1 := isAt_front (k := k) (l := a) fun y hy => less_trans g (hx y hy)
        have f2 := isAt_front (k := k) (l := b) fun y hy' => less_trans g (hy y hy')
        rw [f1.1, f1.2, f2.1, f2.2]; exact ⟨rfl, rfl⟩
    rw [srt_ext ha' hb' (fun k => (step k).1) (fun k => (step k).2)]
theorem Over.one {L L' l : List Row} {m : Made} (h : Over L l m) (h' : Over L' l m) : L = L' :=
  srt_ext h.srt h'.srt (fun k => by rw [h.at_, h'.at_]) (fun k => by rw [h.num_, h'.num_])

/-- A key is given what was made, or loses what it has. -/
def putOne (l : List Row) (x : ByteArray × Option Int) : List Row := match x.2 with
  | some n => ins x.1 n l
  | none => del x.1 l
/-- What is told of a list of keys. -/
def madeOf (V : List (ByteArray × Option Int)) (m0 : Made) : Made := V.foldl (fun m x => setM m x.1 x.2) m0
theorem over_foldl : ∀ (V : List (ByteArray × Option Int)) (L l : List Row) (m : Made), Over L l m → Over (V.foldl putOne L) l (madeOf V m)
  | [], _, _, _, h => h
  | (k, some n) :: V, L, l, _, h => over_foldl V (ins k n L) l _ (h.ins k n)
  | (k, none) :: V, L, l, _, h => over_foldl V (del k L) l _ (h.del k)
theorem has_cons (w : ByteArray) (W : List ByteArray) (k : ByteArray) : has (w :: W) k = (decide (w = k) || has W k) := by simp [has]
theorem madeOf_vers (m : Made) : ∀ (W : List ByteArray) (m0 : Made), (∀ k, m0 k = none ∨ m0 k = m k) → ∀ k, madeOf (vers m W) m0 k = if (has W k && (m k).isSome) = true then m k else m0 k
  | [], m0, _, k => by simp [vers, madeOf, has]
  | w :: W, m0, h, k => by
    have hv : vers m (w :: W) = (match m w with | some o => [(w, o)] | none => []) ++ vers m W := by
      unfold vers
      rw [List.filterMap_cons]
      cases e : m w <;> simp
    rw [hv, has_cons]
    cases e : m w with
    | none =>
      simp only [List.nil_append]
      rw [madeOf_vers m W m0 h k]
      by_cases ek : w = k
      · subst ek; simp [e]
      · simp [ek]
    | some o =>
      show madeOf (vers m W) (setM m0 w o) k = _
      have h2 : ∀ j, setM m0 w o j = none ∨ setM m0 w o j = m j := by
        intro j
        by_cases ej : j = w
        · subst ej; right; simp [setM, e]
        · rcases h j with g | g
          · left; simp [setM, ej, g]
          · right; simp [setM, ej, g]
      rw [madeOf_vers m W (setM m0 w o) h2 k]
      by_cases ek : w = k
      · subst ek
        simp [e, setM]
      · have ek' : ¬ k = w := fun x => ek x.symm
        simp [ek, setM, ek']
theorem exec_keys (v : ByteArray → Int) (W : List ByteArray) : ∀ (l : List Ins) (s : Nat) (r : Nat → Int) (m : Made), (∀ i ∈ l, (i.kind = 6 ∨ i.kind = 7) → i.key ∈ W) → (∀ k, (m k).isSome = true → k ∈ W) → ∀ k, ((exec v l s r m).2.1 k).isSome = true → k ∈ W
  | [], _, _, _, _, hm => fun k h => hm k (by simpa [exec] using h)
  | i :: l, s + 1, r, m, hl, hm => fun k h => by
    rw [exec] at h
    exact exec_keys v W l s r m (fun j hj => hl j (by simp [hj])) hm k h
  | i :: l, 0, r, m, hl, hm => fun k h => by
    have hl' : ∀ j ∈ l, (j.kind = 6 ∨ j.kind = 7) → j.key ∈ W := fun j hj => hl j (by simp [hj])
    have hset : ∀ o, (i.kind = 6 ∨ i.kind = 7) → ∀ j, (setM m i.key o j).isSome = true → j ∈ W := fun o hk j hj => by
      by_cases e : j = i.key
      · rw [e]; exact hl i (by simp) hk
      · exact hm j (by simpa [setM, e] using hj)
    rw [exec] at h
    split at h
    · exact exec_keys v W l _ _ m hl' hm k h
    split at h
    · exact exec_keys v W l _ _ m hl' hm k h
    split at h
    · exact exec_keys v W l _ _ m hl' hm k h
    split at h
    · exact exec_keys v W l _ _ m hl' hm k h
    split at h
    · exact exec_keys v W l _ _ m hl' hm k h
    split at h
    · rename_i hk
      exact exec_keys v W l _ _ _ hl' (hset _ (.inl hk)) k h
    split at h
    · rename_i hk
      exact exec_keys v W l _ _ _ hl' (hset _ (.inr hk)) k h
    split at h
    · exact exec_keys v W l _ _ m hl' hm k h
    split at h
    · exact hm k h
    · exact exec_keys v W l _ _ m hl' hm k h
theorem right_keys {R W : List ByteArray} {C : List Ins} (h : RightD R W C) : ∀ i ∈ C, (i.kind = 6 ∨ i.kind = 7) → i.key ∈ W := fun i hi hk => by
  obtain ⟨j, hj, rfl⟩ := List.getElem_of_mem hi
  have := (right_instr (h.i j hj)).write
  simp only [List.getD, List.getElem?_eq_getElem hj, Option.getD_some] at this
  exact has_iff.1 (this hk)
/-- All that a deed makes it names. -/
theorem putAll_one {l L : List Row} {m : Made} {W : List ByteArray} (hs : Srt l) (hL : Over L l m) (hW : ∀ k, (m k).isSome = true → k ∈ W) : (vers m W).foldl putOne l = L := by
  have h1 := over_foldl (vers m W) l l (fun _ => none) (Over.start hs)
  have e : madeOf (vers m W) (fun _ => none) = m := by
    funext k
    rw [madeOf_vers m W _ (fun _ => .inl rfl) k]
    cases e : m k with
    | none => simp
    | some o => simp [has_iff.2 (hW k (by simp [e]))]
  rw [e] at h1
  exact h1.one hL
end Go.Proofs.YtdnafpenljdinadDoor
