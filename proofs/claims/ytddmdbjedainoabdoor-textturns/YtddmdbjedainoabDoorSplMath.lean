/-
  The three ways of cutting a text at a text, told of both cuts at once.
-/
import Derived.Test.YtddmdbjedainoabDoorTextMath
namespace Go.Proofs.YtddmdbjedainoabDoor

/-- What cuts a text at a text does, step by step: sep is the text at which it is cut, spl what comes of it behind the signs cur. -/
structure Cuts (sep : T) (spl : T → T → List T) : Prop where
  pos : 0 < sep.length
  hit : ∀ cur rest, spl cur (sep ++ rest) = cur :: spl [] rest
  miss : ∀ cur c rest, sep.length ≤ rest.length + 1 → (c :: rest).take sep.length ≠ sep → spl cur (c :: rest) = spl (cur ++ [c]) rest
  fin : ∀ cur rest, rest.length < sep.length → spl cur rest = [cur ++ rest]
theorem cuts1 : Cuts [32] spl1 := by
  refine ⟨by decide, fun cur rest => ?_, fun cur c rest _ h => ?_, fun cur rest h => ?_⟩
  · show spl1 cur (32 :: rest) = _
    rw [spl1, if_pos rfl]
  · rw [spl1, if_neg (fun e => h (by rw [e]; rfl))]
  · have : rest = [] := List.eq_nil_of_length_eq_zero (by simpa using h)
    rw [this]; simp [spl1]
theorem cuts2 : Cuts [59, 32] spl2 := by
  refine ⟨by decide, fun cur rest => ?_, fun cur c rest hl h => ?_, fun cur rest h => ?_⟩
  · show spl2 cur (59 :: 32 :: rest) = _
    rw [spl2, if_pos ⟨rfl, rfl⟩]
  · cases rest with
    | nil => simp at hl
    | cons d rest => rw [spl2, if_neg (fun e => h (by rw [e.1, e.2]; rfl))]
  · cases rest with
    | nil => simp [spl2]
    | cons c rest =>
      have : rest = [] := List.eq_nil_of_length_eq_zero (by simp at h; omega)
      rw [this]; simp [spl2]
/-- At place i, with the signs from the place k on still to be told. -/
theorem Cuts.at_hit {sep : T} {spl : T → T → List T} (h : Cuts sep spl) {s : T} {k i : Nat} (hm : (s.drop i).take sep.length = sep) : spl ((s.take i).drop k) (s.drop i) = (s.take i).drop k :: spl [] (s.drop (i + sep.length)) := by
  have e : s.drop i = sep ++ s.drop (i + sep.length) := by
    have := List.take_append_drop sep.length (s.drop i)
    rw [hm, List.drop_drop] at this
    exact this.symm
  rw [e, h.hit]
theorem Cuts.at_miss {sep : T} {spl : T → T → List T} (h : Cuts sep spl) {s : T} {k i : Nat} (hk : k ≤ i) (hl : i + sep.length ≤ s.length) (hm : (s.drop i).take sep.length ≠ sep) : spl ((s.take i).drop k) (s.drop i) = spl ((s.take (i + 1)).drop k) (s.drop (i + 1)) := by
  have hp := h.pos
  have hi : i < s.length := by omega
  have e : s.drop i = s[i] :: s.drop (i + 1) := List.drop_eq_getElem_cons hi
  have e2 : (s.take (i + 1)).drop k = (s.take i).drop k ++ [s[i]] := by
    rw [List.take_succ_eq_append_getElem hi, List.drop_append_of_le_length (by simp; omega)]
  rw [e] at hm ⊢
  rw [e2, h.miss _ _ _ (by simp; omega) hm]
theorem Cuts.at_end {sep : T} {spl : T → T → List T} (h : Cuts sep spl) {s : T} {k i : Nat} (hk : k ≤ i) (hi : i ≤ s.length) (hl : s.length < i + sep.length) : spl ((s.take i).drop k) (s.drop i) = [s.drop k] := by
  rw [h.fin _ _ (by simp; omega)]
  congr 1
  have : s.drop k = (s.take i ++ s.drop i).drop k := by rw [List.take_append_drop]
  rw [this, List.drop_append_of_le_length (by simp; omega)]
end Go.Proofs.YtddmdbjedainoabDoor
