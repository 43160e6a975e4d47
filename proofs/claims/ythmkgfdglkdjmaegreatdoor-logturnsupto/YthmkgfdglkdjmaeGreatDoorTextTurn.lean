/-
  A text that is read is its deed's; a right deed's text is read as that deed, and is no longer than may be.
-/
import Derived.Test.YthmkgfdglkdjmaeGreatDoorTextMath
namespace Go.Proofs.YthmkgfdglkdjmaeGreatDoor
open Go.Lib

theorem kindOf_cases (w : T) : kindOf w = 0 ∨ (1 ≤ kindOf w ∧ kindOf w ≤ 9 ∧ w = word (kindOf w)) := by
  unfold kindOf
  split
  · rename_i h; exact .inr ⟨by decide, by decide, h⟩
  split
  · rename_i h; exact .inr ⟨by decide, by decide, h⟩
  split
  · rename_i h; exact .inr ⟨by decide, by decide, h⟩
  split
  · rename_i h; exact .inr ⟨by decide, by decide, h⟩
  split
  · rename_i h; exact .inr ⟨by decide, by decide, h⟩
  split
  · rename_i h; exact .inr ⟨by decide, by decide, h⟩
  split
  · rename_i h; exact .inr ⟨by decide, by decide, h⟩
  split
  · rename_i h; exact .inr ⟨by decide, by decide, h⟩
  split
  · rename_i h; exact .inr ⟨by decide, by decide, h⟩
  · exact .inl rfl
theorem kindOf_word (k : Nat) (h1 : 1 ≤ k) (h9 : k ≤ 9) : kindOf (word k) = k := by
  have : k = 1 ∨ k = 2 ∨ k = 3 ∨ k = 4 ∨ k = 5 ∨ k = 6 ∨ k = 7 ∨ k = 8 ∨ k = 9 := by omega
  rcases this with rfl | rfl | rfl | rfl | rfl | rfl | rfl | rfl | rfl <;> decide
theorem reg_regOf {x : T} {a : Int} (h : regOf x = some a) : x = reg a := by
  cases x with
  | nil => cases h
  | cons c r =>
    rw [regOf] at h
    split at h
    · rename_i e; rw [e, itoa_numOf h]; rfl
    · cases h
theorem regOf_reg {a : Int} (h0 : -9223372036854775808 ≤ a) (h1 : a ≤ 9223372036854775807) : regOf (reg a) = some a := by
  show (if (114 : UInt8) = 114 then numOf (itoa a) else none) = some a
  rw [if_pos rfl, numOf_itoa a h0 h1]

theorem words_read {l : List T} {i : Ins} (h : readIns l = (0, i)) : insWords i = l := by
  unfold readIns at h
  simp only at h
  rcases kindOf_cases (l.headD []) with hk | ⟨h1, h9, hw⟩
  · rw [hk] at h; simp at h
  · generalize kindOf (l.headD []) = k at *
    have : k = 1 ∨ k = 2 ∨ k = 3 ∨ k = 4 ∨ k = 5 ∨ k = 6 ∨ k = 7 ∨ k = 8 ∨ k = 9 := by omega
    rcases this with rfl | rfl | rfl | rfl | rfl | rfl | rfl | rfl | rfl
    · simp at h
      split at h
      · rename_i w x y
        split at h
        · rename_i a ha
          simp only [Prod.mk.injEq, true_and] at h
          rw [← h, reg_regOf ha]
          simp at hw
          simp [insWords, Ins.kind, Ins.a, Ins.key, keyT_ofT, hw]
        · simp at h
      · simp at h
    · simp at h
      split at h
      · rename_i w x y
        split at h
        · rename_i a ha
          split at h
          · rename_i n hn
            simp only [Prod.mk.injEq, true_and] at h
            rw [← h, reg_regOf ha, itoa_numOf hn]
            simp at hw
            simp [insWords, Ins.kind, Ins.a, Ins.n, hw]
          · simp at h
        · simp at h
      · simp at h
    · simp at h
      split at h
      · rename_i w x y
        split at h
        · rename_i a ha
          split at h
          · rename_i n hn
            simp only [Prod.mk.injEq, true_and] at h
            rw [← h, reg_regOf ha, reg_regOf hn]
            simp at hw
            simp [insWords, Ins.kind, Ins.a, Ins.b, hw]
          · simp at h
        · simp at h
      · simp at h
    · simp at h
      split at h
      · rename_i w x y
        split at h
        · rename_i a ha
          split at h
          · rename_i n hn
            simp only [Prod.mk.injEq, true_and] at h
            rw [← h, reg_regOf ha, reg_regOf hn]
            simp at hw
            simp [insWords, Ins.kind, Ins.a, Ins.b, hw]
          · simp at h
        · simp at h
      · simp at h
    · simp at h
      split at h
      · rename_i w x y
        split at h
        · rename_i a ha
          split at h
          · rename_i n hn
            simp only [Prod.mk.injEq, true_and] at h
            rw [← h, reg_regOf ha, reg_regOf hn]
            simp at hw
            simp [insWords, Ins.kind, Ins.a, Ins.b, hw]
          · simp at h
        · simp at h
      · simp at h
    · simp at h
      split at h
      · rename_i w x y
        split at h
        · rename_i a ha
          simp only [Prod.mk.injEq, true_and] at h
          rw [← h, reg_regOf ha]
          simp at hw
          simp [insWords, Ins.kind, Ins.a, Ins.key, keyT_ofT, hw]
        · simp at h
      · simp at h
    · simp at h
      split at h
      · rename_i w y
        simp only [Prod.mk.injEq, true_and] at h
        rw [← h]
        simp at hw
        simp [insWords, Ins.kind, Ins.key, keyT_ofT, hw]
      · simp at h
    · simp at h
      split at h
      · rename_i w x y
        split at h
        · rename_i a ha
          split at h
          · rename_i n hn
            simp only [Prod.mk.injEq, true_and] at h
            rw [← h, reg_regOf ha, itoa_numOf hn]
            simp at hw
            simp [insWords, Ins.kind, Ins.a, Ins.n, hw]
          · simp at h
        · simp at h
      · simp at h
    · simp at h
      split at h
      · rename_i w x
        split at h
        · rename_i a ha
          simp only [Prod.mk.injEq, true_and] at h
          rw [← h, reg_regOf ha]
          simp at hw
          simp [insWords, Ins.kind, Ins.a, hw]
        · simp at h
      · simp at h

theorem code_read : ∀ {ps : List T} {C : List Ins}, readCode ps = (0, C) → (C.map insWords).map join1 = ps
  | [], C, h => by simp [readCode] at h; subst h; rfl
  | p :: ps, C, h => by
    rw [readCode] at h
    split at h
    · rename_i i hi
      split at h
      · rename_i C' hC
        simp only [Prod.mk.injEq, true_and] at h
        rw [← h]
        simp only [List.map_cons]
        rw [words_read hi, join1_spl1, code_read hC]; simp
      · rename_i e x hne _
        simp only [Prod.mk.injEq] at h
        exact (hne h.1).elim
    · rename_i e x hne _
      simp only [Prod.mk.injEq] at h
      exact (hne h.1).elim

theorem head_cons {l : List T} {w : T} (h : l.headD [] = w) (hne : l ≠ []) : l = w :: l.drop 1 := by
  cases l with
  | nil => exact absurd rfl hne
  | cons x l => simp at h; simp [h]
theorem map_keyT_ofT (l : List T) : (l.map ofT).map keyT = l := by
  rw [List.map_map]
  have : (keyT ∘ ofT) = id := by funext t; exact keyT_ofT t
  rw [this]; simp
/-- A text that is read is its deed's, and the deed is right. -/
theorem print_read {s : T} {R W : List ByteArray} {C : List Ins} (h : readT s = (0, R, W, C)) : printT R W C = s ∧ wDeed R W C = 0 ∧ s.length ≤ 400 := by
  unfold readT at h
  split at h
  · simp at h
  rename_i hlen
  split at h
  · rename_i p0 p1 ps hs
    split at h
    · simp at h
    split at h
    · simp at h
    rename_i h0 h1
    split at h
    · rename_i C' hC
      simp only at h
      split at h
      · rename_i hw
        simp only [Prod.mk.injEq, true_and] at h
        obtain ⟨hR, hW, hCC⟩ := h
        rw [hR, hW, hCC] at hw
        refine ⟨?_, hw, by omega⟩
        have e0 := head_cons (by simpa using h0) (spl1_ne [] p0)
        have e1 := head_cons (by simpa using h1) (spl1_ne [] p1)
        have j0 := join1_spl1 p0 []
        have j1 := join1_spl1 p1 []
        rw [e0] at j0
        rw [e1] at j1
        have j2 := join2_spl2 s []
        rw [hs] at j2
        unfold printT partsOf
        rw [← hR, ← hW, ← hCC, map_keyT_ofT, map_keyT_ofT]
        simp only [List.map_cons]
        rw [j0, j1, code_read hC]
        simpa using j2
      · rename_i hw
        simp only [Prod.mk.injEq] at h
        exact absurd h.1 hw
    · rename_i e x hne _
      simp only [Prod.mk.injEq] at h
      exact (hne h.1).elim
  · simp at h

/-! ### A right deed's text, read -/
/-- What else stands in a right instruction. -/
structure Norm (i : Ins) : Prop where
  a : i.kind = 7 → i.a = 0
  b : i.kind ≠ 3 → i.kind ≠ 4 → i.kind ≠ 5 → i.b = 0
  n : i.kind ≠ 2 → i.kind ≠ 8 → i.n = 0
  key : i.kind ≠ 1 → i.kind ≠ 6 → i.kind ≠ 7 → i.key = ⟨#[]⟩
  lo : -1073741824 ≤ i.n
  hi : i.n ≤ 1073741824
theorem right_norm {R W : List ByteArray} {i : Ins} {behind : Int} (hb : behind ≤ 12) (h : wIns R W i behind = 0) : Norm i := by
  unfold wIns at h
  split at h
  · cases h
  split at h
  · cases h
  rename_i h1 h2
  have hr : regsFit i = true := by
    cases e : regsFit i with
    | true => rfl
    | false => exact absurd (.inl e) h2
  have hn : numFit i behind = true := by
    cases e : numFit i behind with
    | true => rfl
    | false => exact absurd (.inr e) h2
  simp only [regsFit, Bool.and_eq_true] at hr
  refine ⟨fun e => ?_, fun e3 e4 e5 => ?_, fun e2 e8 => ?_, fun e1 e6 e7 => ?_, ?_, ?_⟩
  · have := hr.1
    simpa [regFit, e] using this
  · have := hr.2
    simpa [regFit, hasB, e3, e4, e5] using this
  · simpa [numFit, e2, e8] using hn
  · rw [if_neg e1, if_neg (by intro e; rcases e with e | e; exact e6 e; exact e7 e)] at h
    split at h
    · rename_i hs
      cases hk : i.key with
      | mk d =>
        rw [hk] at hs
        simp [ByteArray.size] at hs
        rw [hs]
    · cases h
  · unfold numFit at hn
    split at hn
    · simp at hn; exact hn.1
    split at hn
    · simp at hn; omega
    · simp at hn; omega
  · unfold numFit at hn
    split at hn
    · simp at hn; exact hn.2
    split at hn
    · simp at hn; omega
    · simp at hn; omega
theorem read_words {R W : List ByteArray} {i : Ins} {behind : Int} (hb : behind ≤ 12) (h : wIns R W i behind = 0) : readIns (insWords i) = (0, i) := by
  have hN := right_norm hb h
  have hI := right_instr h
  obtain ⟨kd, a, b, n, key⟩ := i
  obtain ⟨na, nb, nn, nk, lo, hi⟩ := hN
  have a0 := hI.a0
  have a4 := hI.a4
  have b0 := hI.b0
  have b4 := hI.b4
  have k1 := hI.lo
  have k9 := hI.hi
  simp only [Ins.kind, Ins.a, Ins.b, Ins.n, Ins.key] at *
  have ra := regOf_reg (a := a) (by omega) (by omega)
  have rb := regOf_reg (a := b) (by omega) (by omega)
  have rn := numOf_itoa n (by omega) (by omega)
  have : kd = 1 ∨ kd = 2 ∨ kd = 3 ∨ kd = 4 ∨ kd = 5 ∨ kd = 6 ∨ kd = 7 ∨ kd = 8 ∨ kd = 9 := by omega
  rcases this with rfl | rfl | rfl | rfl | rfl | rfl | rfl | rfl | rfl
  · rw [nb (by decide) (by decide) (by decide), nn (by decide) (by decide)]
    simp [insWords, readIns, Ins.kind, Ins.a, Ins.key, kindOf_word 1, ra, ofT_keyT]
  · rw [nb (by decide) (by decide) (by decide), nk (by decide) (by decide) (by decide)]
    simp [insWords, readIns, Ins.kind, Ins.a, Ins.n, kindOf_word 2, ra, rn]
  · rw [nn (by decide) (by decide), nk (by decide) (by decide) (by decide)]
    simp [insWords, readIns, Ins.kind, Ins.a, Ins.b, kindOf_word 3, ra, rb]
  · rw [nn (by decide) (by decide), nk (by decide) (by decide) (by decide)]
    simp [insWords, readIns, Ins.kind, Ins.a, Ins.b, kindOf_word 4, ra, rb]
  · rw [nn (by decide) (by decide), nk (by decide) (by decide) (by decide)]
    simp [insWords, readIns, Ins.kind, Ins.a, Ins.b, kindOf_word 5, ra, rb]
  · rw [nb (by decide) (by decide) (by decide), nn (by decide) (by decide)]
    simp [insWords, readIns, Ins.kind, Ins.a, Ins.key, kindOf_word 6, ra, ofT_keyT]
  · rw [na rfl, nb (by decide) (by decide) (by decide), nn (by decide) (by decide)]
    simp [insWords, readIns, Ins.kind, Ins.key, kindOf_word 7, ofT_keyT]
  · rw [nb (by decide) (by decide) (by decide), nk (by decide) (by decide) (by decide)]
    simp [insWords, readIns, Ins.kind, Ins.a, Ins.n, kindOf_word 8, ra, rn]
  · rw [nb (by decide) (by decide) (by decide), nn (by decide) (by decide), nk (by decide) (by decide) (by decide)]
    simp [insWords, readIns, Ins.kind, Ins.a, kindOf_word 9, ra]
end Go.Proofs.YthmkgfdglkdjmaeGreatDoor
