/-
  The three ways of cutting a text at a text, told of both cuts at once.
  The library's Split and Join are the cuts and the joins of a deed's text.
-/
import Derived.Test.YtfdliblikkpjiabDoorTextMath
import Derived.Lib.SplitLaws
import Derived.Lib.Join
namespace Go.Proofs.YtfdliblikkpjiabDoor

/-- What cuts a text at a text does, step by step: sep is the text at which it is cut, spl what comes of it behind the signs cur. -/
structure Cuts (sep : T) (spl : T → T → List T) : Prop where
  pos : 0 < sep.length
  hit : ∀ cur rest, spl cur (sep ++ rest) = cur :: spl [] rest
  miss : ∀ cur c rest, sep.length ≤ rest.length + 1 → (c :: rest).take sep.length ≠ sep → spl cur (c :: rest) = spl (cur ++ [c]) rest
  fin : ∀ cur rest, rest.length < sep.length → spl cur rest = [cur ++ rest]
theorem cuts1 : Cuts [32] spl1 := by
  refine ⟨by decide, fun cur rest => ?_, fun cur c rest _ h => ?_, fun cur rest h => ?_⟩
  · show spl1 cur (32 :: rest) = _
    rw [spl1, if_pos rfl]
  · rw [spl1, if_neg (fun e => h (by rw [e]; rfl))]
  · have : rest = [] := List.eq_nil_of_length_eq_zero (by simpa using h)
    rw [this]; simp [spl1]
theorem cuts2 : Cuts [59, 32] spl2 := by
  refine ⟨by decide, fun cur rest => ?_, fun cur c rest hl h => ?_, fun cur rest h => ?_⟩
  · show spl2 cur (59 :: 32 :: rest) = _
    rw [spl2, if_pos ⟨rfl, rfl⟩]
  · cases rest with
    | nil => simp at hl
    | cons d rest => rw [spl2, if_neg (fun e => h (by rw [e.1, e.2]; rfl))]
  · cases rest with
    | nil => simp [spl2]
    | cons c rest =>
      have : rest = [] := List.eq_nil_of_length_eq_zero (by simp at h; omega)
      rw [this]; simp [spl2]
/-- At place i, with the signs from the place k on still to be told. -/
theorem Cuts.at_hit {sep : T} {spl : T → T → List T} (h : Cuts sep spl) {s : T} {k i : Nat} (hm : (s.drop i).take sep.length = sep) : spl ((s.take i).drop k) (s.drop i) = (s.take i).drop k :: spl [] (s.drop (i + sep.length)) := by
  have e : s.drop i = sep ++ s.drop (i + sep.length) := by
    have := List.take_append_drop sep.length (s.drop i)
    rw [hm, List.drop_drop] at this
    exact this.symm
  rw [e, h.hit]
theorem Cuts.at_miss {sep : T} {spl : T → T → List T} (h : Cuts sep spl) {s : T} {k i : Nat} (hk : k ≤ i) (hl : i + sep.length ≤ s.length) (hm : (s.drop i).take sep.length ≠ sep) : spl ((s.take i).drop k) (s.drop i) = spl ((s.take (i + 1)).drop k) (s.drop (i + 1)) := by
  have hp := h.pos
  have hi : i < s.length := by omega
  have e : s.drop i = s[i] :: s.drop (i + 1) := List.drop_eq_getElem_cons hi
  have e2 : (s.take (i + 1)).drop k = (s.take i).drop k ++ [s[i]] := by
    rw [List.take_succ_eq_append_getElem hi, List.drop_append_of_le_length (by simp; omega)]
  rw [e] at hm ⊢
  rw [e2, h.miss _ _ _ (by simp; omega) hm]
theorem Cuts.at_end {sep : T} {spl : T → T → List T} (h : Cuts sep spl) {s : T} {k i : Nat} (hk : k ≤ i) (hi : i ≤ s.length) (hl : s.length < i + sep.length) : spl ((s.take i).drop k) (s.drop i) = [s.drop k] := by
  rw [h.fin _ _ (by simp; omega)]
  congr 1
  have : s.drop k = (s.take i ++ s.drop i).drop k := by rw [List.take_append_drop]
  rw [this, List.drop_append_of_le_length (by simp; omega)]
end Go.Proofs.YtfdliblikkpjiabDoor

namespace Go.Proofs.YtfdliblikkpjiabDoor
open Go.Lib

theorem Cuts.walk {sep : T} {spl : T → T → List T} (h : Cuts sep spl) {s : T} : ∀ i : Nat, (∀ j, j < i → (s.drop j).take sep.length ≠ sep) → (i = 0 ∨ i + sep.length ≤ s.length + 1) → spl [] s = spl ((s.take i).drop 0) (s.drop i)
  | 0, _, _ => by simp
  | i + 1, hj, hl => by
    have hp := h.pos
    rw [Cuts.walk h i (fun j hj' => hj j (by omega)) (by omega)]
    exact h.at_miss (k := 0) (by omega) (by omega) (hj i (by omega))
theorem occ_take {s sep : T} {j : Nat} (hl : j + sep.length ≤ s.length) (h : occAt s sep j = false) : (s.drop j).take sep.length ≠ sep := by
  rw [occAt_iff_take s sep j hl] at h
  intro e; rw [e] at h; simp at h
/-- The library's cuts. -/
theorem split_cuts {sep : T} {spl : T → T → List T} (h : Cuts sep spl) : ∀ (k : Nat) (s : T), s.length ≤ k → splitK sep 0 (count s sep) s = spl [] s := by
  have hp := h.pos
  have hne : sep ≠ [] := fun e => by rw [e] at hp; simp at hp
  intro k
  induction k with
  | zero =>
    intro s hk
    have : s = [] := List.eq_nil_of_length_eq_zero (by omega)
    subst this
    have hi : index [] sep = -1 := by
      unfold index; rw [if_neg]; simpa using hne
    rw [count_miss hi, h.fin [] [] (by simpa using hp)]; rfl
  | succ k ih =>
    intro s hk
    rcases index_spec s sep with ⟨hi, hno⟩ | ⟨i, hi, hle, hocc, hno⟩
    · rw [count_miss hi]
      show [s] = _
      by_cases hl : sep.length ≤ s.length
      · rw [h.walk (s := s) (s.length + 1 - sep.length) (fun j hj => occ_take (by omega) (hno j (by omega))) (by omega), h.at_end (k := 0) (by omega) (by omega) (by omega)]
        simp
      · rw [h.fin [] s (by omega)]; simp
    · have hroom : i + sep.length ≤ s.length := by
        rcases occAt_room hocc with h1 | h1
        · exact h1
        · exact absurd h1 hne
      have hlt := drop_shorter (s := s) hne (by rw [hi]; simp)
      rw [count_hit hne hi, Nat.add_comm 1, splitK, if_neg (by rw [hi]; simp), hi]
      simp only [Int.toNat_natCast, Nat.add_zero]
      rw [hi, Int.toNat_natCast] at hlt
      rw [ih _ (by omega), h.walk (s := s) i (fun j hj => occ_take (by omega) (hno j hj)) (by omega)]
      have ht : (s.drop i).take sep.length = sep := by
        have := occAt_iff_take s sep i hroom
        rw [hocc] at this
        simpa using this.symm
      rw [h.at_hit (k := 0) ht]
      simp
theorem splitB_cuts {sep : T} {spl : T → T → List T} (h : Cuts sep spl) (s : ByteArray) : splitB (ofT sep) 0 (countB s (ofT sep)) s = (spl [] (keyT s)).map ofT := by
  have e := splitB_data (ofT sep) 0 (countB s (ofT sep)) s
  have e1 : (ofT sep).data.toList = sep := keyT_ofT sep
  rw [e1] at e
  have e2 : countB s (ofT sep) = count (keyT s) sep := by
    show count s.data.toList (ofT sep).data.toList = _
    rw [e1]; rfl
  rw [e2] at e ⊢
  have e3 := split_cuts h _ (keyT s) (Nat.le_refl _)
  have e4 : (splitB (ofT sep) 0 (count (keyT s) sep) s).map keyT = spl [] (keyT s) := e.trans e3
  rw [← e4, List.map_map]
  have : (ofT ∘ keyT) = id := by funext x; exact ofT_keyT x
  rw [this, List.map_id]
theorem join_join1 : ∀ l : List T, Lib.join l [32] = join1 l
  | [] => rfl
  | [x] => by rw [join_one]; rfl
  | x :: y :: l => by
    have ih := join_join1 (y :: l)
    rw [join1_cons x (by simp), ← ih]
    simp [Lib.join, List.intercalate, List.intersperse]
theorem join_join2 : ∀ l : List T, Lib.join l [59, 32] = join2 l
  | [] => rfl
  | [x] => by rw [join_one]; rfl
  | x :: y :: l => by
    have ih := join_join2 (y :: l)
    rw [join2_cons x (by simp), ← ih]
    simp [Lib.join, List.intercalate, List.intersperse]
end Go.Proofs.YtfdliblikkpjiabDoor
