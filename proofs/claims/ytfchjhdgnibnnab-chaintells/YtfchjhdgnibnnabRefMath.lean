/-
  Plain mathematics of the document's own Get and Put: what they come to row by row, of rows that rise.
-/
import Derived.Test.YtfchjhdgnibnnabMath
namespace Go.Proofs.Ytfchjhdgnibnnab

theorem get_found {k : ByteArray} : ∀ {l : List Row} {i : Nat}, Srt l → i < l.length → (l.getD i default).1 = k → isAt k l = true ∧ num k l = (l.getD i default).2
  | [], _, _, h, _ => absurd h (Nat.not_lt_zero _)
  | x :: l, 0, _, _, h => by
    have h' : x.1 = k := by simpa using h
    simp [isAt, num, h', less_irrefl]
  | x :: l, i + 1, hs, hi, h => by
    obtain ⟨hx, hl⟩ := srt_cons.1 hs
    have hi' : i < l.length := by simpa using hi
    have h' : (l.getD i default).1 = k := by simpa using h
    have hlt : less x.1 k = true := by rw [← h']; exact hx _ (mem_getD hi')
    have ih := get_found hl hi' h'
    rw [isAt, num, if_pos hlt, if_pos hlt]
    exact ⟨ih.1, by rw [ih.2]; simp⟩
theorem get_none {k : ByteArray} : ∀ {l : List Row}, (∀ j, j < l.length → (l.getD j default).1 ≠ k) → isAt k l = false ∧ num k l = 0
  | [], _ => ⟨rfl, rfl⟩
  | x :: l, h => by
    have h0 := h 0 (by simp)
    simp at h0
    have ih := get_none (l := l) fun j hj => by simpa using h (j + 1) (by simpa using hj)
    rcases less_cases x.1 k with g | g | g
    · simp [isAt, num, g, ih]
    · exact absurd g h0
    · simp [isAt, num, g, less_asymm g]

/-- Are all keys below k? -/
def allLess (k : ByteArray) (p : List Row) : Bool := p.all fun y => less y.1 k
/-- What Put comes to: k has n, or nothing. -/
def refOut (has : Bool) (k : ByteArray) (n : Int) (p : List Row) : List Row := if has = true then ins k n p else del k p
/-- What is there while it goes on, behind the rows p. -/
def stOut (has : Bool) (k : ByteArray) (n : Int) (p : List Row) : List Row := if allLess k p = true then p else refOut has k n p

theorem allLess_snoc (k : ByteArray) (p : List Row) (x : Row) : allLess k (p ++ [x]) = (allLess k p && less x.1 k) := by simp [allLess]

theorem ins_less {k : ByteArray} {n : Int} {q : List Row} : ∀ {p : List Row}, allLess k p = true → ins k n (p ++ q) = p ++ ins k n q
  | [], _ => rfl
  | x :: p, h => by
    have h' : less x.1 k = true ∧ allLess k p = true := by simpa [allLess] using h
    simp [ins, h'.1, ins_less h'.2]
theorem del_less {k : ByteArray} {q : List Row} : ∀ {p : List Row}, allLess k p = true → del k (p ++ q) = p ++ del k q
  | [], _ => rfl
  | x :: p, h => by
    have h' : less x.1 k = true ∧ allLess k p = true := by simpa [allLess] using h
    simp [del, h'.1, del_less h'.2]
theorem ins_done {k : ByteArray} {n : Int} {q : List Row} : ∀ {p : List Row}, allLess k p = false → ins k n (p ++ q) = ins k n p ++ q
  | [], h => by simp [allLess] at h
  | x :: p, h => by
    cases g : less x.1 k with
    | true =>
      have h' : allLess k p = false := by simpa [allLess, g] using h
      simp [ins, g, ins_done h']
    | false => cases g2 : less k x.1 <;> simp [ins, g, g2]
theorem del_done {k : ByteArray} {q : List Row} : ∀ {p : List Row}, allLess k p = false → del k (p ++ q) = del k p ++ q
  | [], h => by simp [allLess] at h
  | x :: p, h => by
    cases g : less x.1 k with
    | true =>
      have h' : allLess k p = false := by simpa [allLess, g] using h
      simp [del, g, del_done h']
    | false => cases g2 : less k x.1 <;> simp [del, g, g2]

theorem st_less {has : Bool} {k : ByteArray} {n : Int} {p : List Row} {x : Row} (h : allLess k p = true) (hx : less x.1 k = true) : stOut has k n (p ++ [x]) = stOut has k n p ++ [x] := by
  simp [stOut, allLess_snoc, h, hx]
theorem st_eq {has : Bool} {k : ByteArray} {n : Int} {p : List Row} {x : Row} (h : allLess k p = true) (hx : x.1 = k) : stOut has k n (p ++ [x]) = stOut has k n p ++ if has = true then [(k, n)] else [] := by
  cases has <;> simp [stOut, allLess_snoc, h, hx, less_irrefl, refOut, ins_less h, del_less h, ins, del]
theorem st_more {has : Bool} {k : ByteArray} {n : Int} {p : List Row} {x : Row} (h : allLess k p = true) (hx : less k x.1 = true) : stOut has k n (p ++ [x]) = (stOut has k n p ++ if has = true then [(k, n)] else []) ++ [x] := by
  cases has <;> simp [stOut, allLess_snoc, h, hx, less_asymm hx, refOut, ins_less h, del_less h, ins, del]
theorem st_done {has : Bool} {k : ByteArray} {n : Int} {p : List Row} {x : Row} (h : allLess k p = false) : stOut has k n (p ++ [x]) = stOut has k n p ++ [x] := by
  cases has <;> simp [stOut, allLess_snoc, h, refOut, ins_done h, del_done h]
theorem st_end {has : Bool} {k : ByteArray} {n : Int} {p : List Row} (h : allLess k p = true) : refOut has k n p = stOut has k n p ++ if has = true then [(k, n)] else [] := by
  have e1 := ins_less (n := n) (q := []) h
  have e2 := del_less (q := []) h
  simp only [List.append_nil] at e1 e2
  cases has <;> simp [stOut, h, refOut, e1, e2, ins, del]
theorem st_fin {has : Bool} {k : ByteArray} {n : Int} {p : List Row} (h : allLess k p = false) : refOut has k n p = stOut has k n p := by simp [stOut, h]

/-- Who comes behind one that is not below k is above k. -/
theorem more_of_done {k : ByteArray} {l : List Row} {i : Nat} (hs : Srt l) (hi : i < l.length) (h : allLess k (l.take i) = false) : less k (l.getD i default).1 = true := by
  simp only [allLess, List.all_eq_false] at h
  obtain ⟨y, hy, hn⟩ := h
  obtain ⟨j, hj, e⟩ := List.getElem_of_mem hy
  have hj' : j < i := by simp at hj; omega
  have h1 := srt_getD hs hj' hi
  have e' : l.getD j default = y := by rw [← e]; simp [List.getD, show j < l.length by omega]
  rw [e'] at h1
  rcases less_cases y.1 k with g | g | g
  · exact absurd g (by simpa using hn)
  · rw [← g]; exact h1
  · exact less_trans g h1
theorem take_next {l : List Row} {i : Nat} (h : i < l.length) : l.take (i + 1) = l.take i ++ [l.getD i default] := by
  rw [List.take_succ_eq_append_getElem h]; simp [List.getD, h]
theorem stOut_len {has : Bool} {k : ByteArray} {n : Int} {p : List Row} : (stOut has k n p).length ≤ p.length + 1 := by
  have h1 := ins_length k n p
  have h2 := del_length k p
  unfold stOut refOut
  split
  · omega
  · split <;> omega
end Go.Proofs.Ytfchjhdgnibnnab
