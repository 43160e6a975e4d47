/-
  A text that is read is its deed's; a right deed's text is read as that deed, and is no longer than may be.
  A right deed's text is read as that deed, and is no longer than may be.
-/
import Derived.Test.YtdnafpenljdinadDoorTextMath
namespace Go.Proofs.YtdnafpenljdinadDoor
open Go.Lib

theorem kindOf_cases (w : T) : kindOf w = 0 ∨ (1 ≤ kindOf w ∧ kindOf w ≤ 9 ∧ w = word (kindOf w)) := by
  unfold kindOf
  split
  · rename_i h; exact .inr ⟨by decide, by decide, h⟩
  split
  · rename_i h; exact .inr ⟨by decide, by decide, h⟩
  split
  · rename_i h; exact .inr ⟨by decide, by decide, h⟩
  split
  · rename_i h; exact .inr ⟨by decide, by decide, h⟩
  split
  · rename_i h; exact .inr ⟨by decide, by decide, h⟩
  split
  · rename_i h; exact .inr ⟨by decide, by decide, h⟩
  split
  · rename_i h; exact .inr ⟨by decide, by decide, h⟩
  split
  · rename_i h; exact .inr ⟨by decide, by decide, h⟩
  split
  · rename_i h; exact .inr ⟨by decide, by decide, h⟩
  · exact .inl rfl
theorem kindOf_word (k : Nat) (h1 : 1 ≤ k) (h9 : k ≤ 9) : kindOf (word k) = k := by
  have : k = 1 ∨ k = 2 ∨ k = 3 ∨ k = 4 ∨ k = 5 ∨ k = 6 ∨ k = 7 ∨ k = 8 ∨ k = 9 := by omega
  rcases this with rfl | rfl | rfl | rfl | rfl | rfl | rfl | rfl | rfl <;> decide
theorem reg_regOf {x : T} {a : Int} (h : regOf x = some a) : x = reg a := by
  cases x with
  | nil => cases h
  | cons c r =>
    rw [regOf] at h
    split at h
    · rename_i e; rw [e, itoa_numOf h]; rfl
    · cases h
theorem regOf_reg {a : Int} (h0 : -9223372036854775808 ≤ a) (h1 : a ≤ 9223372036854775807) : regOf (reg a) = some a := by
  show (if (114 : UInt8) = 114 then numOf (itoa a) else none) = some a
  rw [if_pos rfl, numOf_itoa a h0 h1]

theorem words_read {l : List T} {i : Ins} (h : readIns l = (0, i)) : insWords i = l := by
  unfold readIns at h
  simp only at h
  rcases kindOf_cases (l.headD []) with hk | ⟨h1, h9, hw⟩
  · rw [hk] at h; simp at h
  · generalize kindOf (l.headD []) = k at *
    have : k = 1 ∨ k = 2 ∨ k = 3 ∨ k = 4 ∨ k = 5 ∨ k = 6 ∨ k = 7 ∨ k = 8 ∨ k = 9 := by omega
    rcases this with rfl | rfl | rfl | rfl | rfl | rfl | rfl | rfl | rfl
    · simp at h
      split at h
      · rename_i w x y
        split at h
        · rename_i a ha
          simp only [Prod.mk.injEq, true_and] at h
          rw [← h, reg_regOf ha]
          simp at hw
          simp [insWords, Ins.kind, Ins.a, Ins.key, keyT_ofT, hw]
        · simp at h
      · simp at h
    · simp at h
      split at h
      · rename_i w x y
        split at h
        · rename_i a ha
          split at h
          · rename_i n hn
            simp only [Prod.mk.injEq, true_and] at h
            rw [← h, reg_regOf ha, itoa_numOf hn]
            simp at hw
            simp [insWords, Ins.kind, Ins.a, Ins.n, hw]
          · simp at h
        · simp at h
      · simp at h
    · simp at h
      split at h
      · rename_i w x y
        split at h
        · rename_i a ha
          split at h
          · rename_i n hn
            simp only [Prod.mk.injEq, true_and] at h
            rw [← h, reg_regOf ha, reg_regOf hn]
            simp at hw
            simp [insWords, Ins.kind, Ins.a, Ins.b, hw]
          · simp at h
        · simp at h
      · simp at h
    · simp at h
      split at h
      · rename_i w x y
        split at h
        · rename_i a ha
          split at h
          · rename_i n hn
            simp only [Prod.mk.injEq, true_and] at h
            rw [← h, reg_regOf ha, reg_regOf hn]
            simp at hw
            simp [insWords, Ins.kind, Ins.a, Ins.b, hw]
          · simp at h
        · simp at h
      · simp at h
    · simp at h
      split at h
      · rename_i w x y
        split at h
        · rename_i a ha
          split at h
          · rename_i n hn
            simp only [Prod.mk.injEq, true_and] at h
            rw [← h, reg_regOf ha, reg_regOf hn]
            simp at hw
            simp [insWords, Ins.kind, Ins.a, Ins.b, hw]
          · simp at h
        · simp at h
      · simp at h
    · simp at h
      split at h
      · rename_i w x y
        split at h
        · rename_i a ha
          simp only [Prod.mk.injEq, true_and] at h
          rw [← h, reg_regOf ha]
          simp at hw
          simp [insWords, Ins.kind, Ins.a, Ins.key, keyT_ofT, hw]
        · simp at h
      · simp at h
    · simp at h
      split at h
      · rename_i w y
        simp only [Prod.mk.injEq, true_and] at h
        rw [← h]
        simp at hw
        simp [insWords, Ins.kind, Ins.key, keyT_ofT, hw]
      · simp at h
    · simp at h
      split at h
      · rename_i w x y
        split at h
        · rename_i a ha
          split at h
          · rename_i n hn
            simp only [Prod.mk.injEq, true_and] at h
            rw [← h, reg_regOf ha, itoa_numOf hn]
            simp at hw
            simp [insWords, Ins.kind, Ins.a, Ins.n, hw]
          · simp at h
        · simp at h
      · simp at h
    · simp at h
      split at h
      · rename_i w x
        split at h
        · rename_i a ha
          simp only [Prod.mk.injEq, true_and] at h
          rw [← h, reg_regOf ha]
          simp at hw
          simp [insWords, Ins.kind, Ins.a, hw]
        · simp at h
      · simp at h

theorem code_read : ∀ {ps : List T} {C : List Ins}, readCode ps = (0, C) → (C.map insWords).map join1 = ps
  | [], C, h => by simp [readCode] at h; subst h; rfl
  | p :: ps, C, h => by
    rw [readCode] at h
    split at h
    · rename_i i hi
      split at h
      · rename_i C' hC
        simp only [Prod.mk.injEq, true_and] at h
        rw [← h]
        simp only [List.map_cons]
        rw [words_read hi, join1_spl1, code_read hC]; simp
      · rename_i e x hne _
        simp only [Prod.mk.injEq] at h
        exact (hne h.1).elim
    · rename_i e x hne _
      simp only [Prod.mk.injEq] at h
      exact (hne h.1).elim

theorem head_cons {l : List T} {w : T} (h : l.headD [] = w) (hne : l ≠ []) : l = w :: l.drop 1 := by
  cases l with
  | nil => exact absurd rfl hne
  | cons x l => simp at h; simp [h]
theorem map_keyT_ofT (l : List T) : (l.map ofT).map keyT = l := by
  rw [List.map_map]
  have : (keyT ∘ ofT) = id := by funext t; exact keyT_ofT t
  rw [this]; simp
/-- A text that is read is its deed's, and the deed is right. -/
theorem print_read {s : T} {R W : List ByteArray} {C : List Ins} (h : readT s = (0, R, W, C)) : printT R W C = s ∧ wDeed R W C = 0 ∧ s.length ≤ 400 := by
  unfold readT at h
  split at h
  · simp at h
  rename_i hlen
  split at h
  · rename_i p0 p1 ps hs
    split at h
    · simp at h
    split at h
    · simp at h
    rename_i h0 h1
    split at h
    · rename_i C' hC
      simp only at h
      split at h
      · rename_i hw
        simp only [Prod.mk.injEq, true_and] at h
        obtain ⟨hR, hW, hCC⟩ := h
        rw [hR, hW, hCC] at hw
        refine ⟨?_, hw, by omega⟩
        have e0 := head_cons (by simpa using h0) (spl1_ne [] p0)
        have e1 := head_cons (by simpa using h1) (spl1_ne [] p1)
        have j0 := join1_spl1 p0 []
        have j1 := join1_spl1 p1 []
        rw [e0] at j0
        rw [e1] at j1
        have j2 := join2_spl2 s []
        rw [hs] at j2
        unfold printT partsOf
        rw [← hR, ← hW, ← hCC, map_keyT_ofT, map_keyT_ofT]
        simp only [List.map_cons]
        rw [j0, j1, code_read hC]
        simpa using j2
      · rename_i hw
        simp only [Prod.mk.injEq] at h
        exact absurd h.1 hw
    · rename_i e x hne _
      simp only [Prod.mk.injEq] at h
      exact (hne h.1).elim
  · simp at h

/-! ### A right deed's text, read -/
/-- What else stands in a right instruction. -/
structure Norm (i : Ins) : Prop where
  a : i.kind = 7 → i.a = 0
  b : i.kind ≠ 3 → i.kind ≠ 4 → i.kind ≠ 5 → i.b = 0
  n : i.kind ≠ 2 → i.kind ≠ 8 → i.n = 0
  key : i.kind ≠ 1 → i.kind ≠ 6 → i.kind ≠ 7 → i.key = ⟨#[]⟩
  lo : -1073741824 ≤ i.n
  hi : i.n ≤ 1073741824
theorem right_norm {R W : List ByteArray} {i : Ins} {behind : Int} (hb : behind ≤ 12) (h : wIns R W i behind = 0) : Norm i := by
  unfold wIns at h
  split at h
  · cases h
  split at h
  · cases h
  rename_i h1 h2
  have hr : regsFit i = true := by
    cases e : regsFit i with
    | true => rfl
    | false => exact absurd (.inl e) h2
  have hn : numFit i behind = true := by
    cases e : numFit i behind with
    | true => rfl
    | false => exact absurd (.inr e) h2
  simp only [regsFit, Bool.and_eq_true] at hr
  refine ⟨fun e => ?_, fun e3 e4 e5 => ?_, fun e2 e8 => ?_, fun e1 e6 e7 => ?_, ?_, ?_⟩
  · have := hr.1
    simpa [regFit, e] using this
  · have := hr.2
    simpa [regFit, hasB, e3, e4, e5] using this
  · simpa [numFit, e2, e8] using hn
  · rw [if_neg e1, if_neg (by intro e; rcases e with e | e; exact e6 e; exact e7 e)] at h
    split at h
    · rename_i hs
      cases hk : i.key with
      | mk d =>
        rw [hk] at hs
        simp [ByteArray.size] at hs
        rw [hs]
    · cases h
  · unfold numFit at hn
    split at hn
    · simp at hn; exact hn.1
    split at hn
    · simp at hn; omega
    · simp at hn; omega
  · unfold numFit at hn
    split at hn
    · simp at hn; exact hn.2
    split at hn
    · simp at hn; omega
    · simp at hn; omega
theorem read_words {R W : List ByteArray} {i : Ins} {behind : Int} (hb : behind ≤ 12) (h : wIns R W i behind = 0) : readIns (insWords i) = (0, i) := by
  have hN := right_norm hb h
  have hI := right_instr h
  obtain ⟨kd, a, b, n, key⟩ := i
  obtain ⟨na, nb, nn, nk, lo, hi⟩ := hN
  have a0 := hI.a0
  have a4 := hI.a4
  have b0 := hI.b0
  have b4 := hI.b4
  have k1 := hI.lo
  have k9 := hI.hi
  simp only [Ins.kind, Ins.a, Ins.b, Ins.n, Ins.key] at *
  have ra := regOf_reg (a := a) (by omega) (by omega)
  have rb := regOf_reg (a := b) (by omega) (by omega)
  have rn := numOf_itoa n (by omega) (by omega)
  have : kd = 1 ∨ kd = 2 ∨ kd = 3 ∨ kd = 4 ∨ kd = 5 ∨ kd = 6 ∨ kd = 7 ∨ kd = 8 ∨ kd = 9 := by omega
  rcases this with rfl | rfl | rfl | rfl | rfl | rfl | rfl | rfl | rfl
  · rw [nb (by decide) (by decide) (by decide), nn (by decide) (by decide)]
    simp [insWords, readIns, Ins.kind, Ins.a, Ins.key, kindOf_word 1, ra, ofT_keyT]
  · rw [nb (by decide) (by decide) (by decide), nk (by decide) (by decide) (by decide)]
    simp [insWords, readIns, Ins.kind, Ins.a, Ins.n, kindOf_word 2, ra, rn]
  · rw [nn (by decide) (by decide), nk (by decide) (by decide) (by decide)]
    simp [insWords, readIns, Ins.kind, Ins.a, Ins.b, kindOf_word 3, ra, rb]
  · rw [nn (by decide) (by decide), nk (by decide) (by decide) (by decide)]
    simp [insWords, readIns, Ins.kind, Ins.a, Ins.b, kindOf_word 4, ra, rb]
  · rw [nn (by decide) (by decide), nk (by decide) (by decide) (by decide)]
    simp [insWords, readIns, Ins.kind, Ins.a, Ins.b, kindOf_word 5, ra, rb]
  · rw [nb (by decide) (by decide) (by decide), nn (by decide) (by decide)]
    simp [insWords, readIns, Ins.kind, Ins.a, Ins.key, kindOf_word 6, ra, ofT_keyT]
  · rw [na rfl, nb (by decide) (by decide) (by decide), nn (by decide) (by decide)]
    simp [insWords, readIns, Ins.kind, Ins.key, kindOf_word 7, ofT_keyT]
  · rw [nb (by decide) (by decide) (by decide), nk (by decide) (by decide) (by decide)]
    simp [insWords, readIns, Ins.kind, Ins.a, Ins.n, kindOf_word 8, ra, rn]
  · rw [nb (by decide) (by decide) (by decide), nn (by decide) (by decide), nk (by decide) (by decide) (by decide)]
    simp [insWords, readIns, Ins.kind, Ins.a, kindOf_word 9, ra]
end Go.Proofs.YtdnafpenljdinadDoor

namespace Go.Proofs.YtdnafpenljdinadDoor
open Go.Lib

theorem plain_ne {c : UInt8} (h : plainC c = true) : c ≠ 32 ∧ c ≠ 59 := by simpa [plainC] using h
theorem key_plain {k : ByteArray} (h : keyB k = true) : ∀ c ∈ keyT k, plainC c = true := by
  intro c hc
  simp only [keyB, Bool.and_eq_true] at h
  have := List.all_eq_true.1 h.2 c hc
  simp only [okc, Bool.and_eq_true, decide_eq_true_eq] at this
  have h1 : c ≠ 32 := fun e => by rw [e] at this; revert this; decide
  have h2 : c ≠ 59 := fun e => by rw [e] at this; revert this; decide
  simp [plainC, h1, h2]
theorem word_plain (k : Nat) : ∀ c ∈ word k, plainC c = true := by
  unfold word
  split <;> decide
theorem reg_plain (n : Int) : ∀ c ∈ reg n, plainC c = true := by
  intro c hc
  rcases List.mem_cons.1 hc with rfl | hc
  · decide
  · exact itoa_plain n c hc
theorem words_plain {R W : List ByteArray} {i : Ins} {behind : Int} (hR : wKeys R = 0) (hW : wKeys W = 0) (h : wIns R W i behind = 0) : ∀ x ∈ insWords i, ∀ c ∈ x, plainC c = true := by
  have hI := right_instr h
  have hk : i.kind = 1 ∨ i.kind = 6 ∨ i.kind = 7 → ∀ c ∈ keyT i.key, plainC c = true := fun e => by
    rcases e with e | e
    · exact key_plain (wKeys_key hR (has_iff.1 (hI.load e)))
    · exact key_plain (wKeys_key hW (has_iff.1 (hI.write e)))
  intro x hx
  unfold insWords at hx
  split at hx
  · rename_i e
    simp only [List.mem_cons, List.not_mem_nil, or_false] at hx
    rcases hx with rfl | rfl | rfl
    · exact word_plain _
    · exact reg_plain _
    · exact hk (.inl e)
  split at hx
  · simp only [List.mem_cons, List.not_mem_nil, or_false] at hx
    rcases hx with rfl | rfl | rfl
    · exact word_plain _
    · exact reg_plain _
    · exact itoa_plain _
  split at hx
  · simp only [List.mem_cons, List.not_mem_nil, or_false] at hx
    rcases hx with rfl | rfl | rfl
    · exact word_plain _
    · exact reg_plain _
    · exact reg_plain _
  split at hx
  · simp only [List.mem_cons, List.not_mem_nil, or_false] at hx
    rcases hx with rfl | rfl | rfl
    · exact word_plain _
    · exact reg_plain _
    · exact reg_plain _
  split at hx
  · simp only [List.mem_cons, List.not_mem_nil, or_false] at hx
    rcases hx with rfl | rfl | rfl
    · exact word_plain _
    · exact reg_plain _
    · exact reg_plain _
  split at hx
  · rename_i e
    simp only [List.mem_cons, List.not_mem_nil, or_false] at hx
    rcases hx with rfl | rfl | rfl
    · exact word_plain _
    · exact reg_plain _
    · exact hk (.inr (.inl e))
  split at hx
  · rename_i e
    simp only [List.mem_cons, List.not_mem_nil, or_false] at hx
    rcases hx with rfl | rfl
    · exact word_plain _
    · exact hk (.inr (.inr e))
  split at hx
  · simp only [List.mem_cons, List.not_mem_nil, or_false] at hx
    rcases hx with rfl | rfl | rfl
    · exact word_plain _
    · exact reg_plain _
    · exact itoa_plain _
  · simp only [List.mem_cons, List.not_mem_nil, or_false] at hx
    rcases hx with rfl | rfl
    · exact word_plain _
    · exact reg_plain _
theorem insWords_ne (i : Ins) : insWords i ≠ [] := by
  unfold insWords
  repeat' split
  all_goals simp
theorem code_print : ∀ (C : List Ins), (∀ i ∈ C, readIns (insWords i) = (0, i) ∧ ∀ x ∈ insWords i, ∀ c ∈ x, plainC c = true) → readCode ((C.map insWords).map join1) = (0, C)
  | [], _ => rfl
  | i :: C, h => by
    obtain ⟨h1, h2⟩ := h i (by simp)
    simp only [List.map_cons, readCode]
    rw [spl1_join1 _ (insWords_ne i) (fun x hx c hc => (plain_ne (h2 x hx c hc)).1), h1]
    simp only
    rw [code_print C (fun j hj => h j (by simp [hj]))]
    rfl

/-! ### How long it is -/
theorem digits_len : ∀ (k u : Nat), u < 10 ^ (k + 1) → (decDigits u).length ≤ k + 1
  | 0, u, h => by rw [decDigits, dif_pos (by simpa using h)]; simp
  | k + 1, u, h => by
    rw [decDigits]
    split
    · simp
    · have := digits_len k (u / 10) (by rw [Nat.pow_succ] at h; omega)
      simp; omega
theorem itoa_len {n : Int} (h0 : -1073741824 ≤ n) (h1 : n ≤ 1073741824) : (itoa n).length ≤ 11 := by
  unfold itoa
  split
  · have := digits_len 9 n.natAbs (by omega)
    simp; omega
  · have := digits_len 9 n.toNat (by omega)
    omega
theorem reg_len {a : Int} (h0 : 0 ≤ a) (h1 : a < 4) : (reg a).length ≤ 2 := by
  have : (itoa a).length ≤ 1 := by
    unfold itoa
    rw [if_neg (by omega)]
    exact digits_len 0 a.toNat (by omega)
  simp [reg]; omega
/-- How long words are together, with one sign more each. -/
def lens (d : Nat) : List T → Nat
  | [] => 0
  | x :: l => x.length + d + lens d l
theorem join1_len : ∀ (l : List T), (join1 l).length ≤ lens 1 l
  | [] => by simp [join1]
  | [x] => by simp [join1, lens]
  | x :: y :: l => by
    have := join1_len (y :: l)
    rw [join1_cons x (by simp), lens]
    simp; omega
theorem join2_len : ∀ (l : List T), (join2 l).length ≤ lens 2 l
  | [] => by simp [join2]
  | [x] => by simp [join2, lens]
  | x :: y :: l => by
    have := join2_len (y :: l)
    rw [join2_cons x (by simp), lens]
    simp; omega
theorem lens_le {d m : Nat} : ∀ (l : List T), (∀ x ∈ l, x.length ≤ m) → lens d l ≤ l.length * (m + d)
  | [], _ => by simp [lens]
  | x :: l, h => by
    have h1 := h x (by simp)
    have h2 := lens_le (d := d) (m := m) l (fun y hy => h y (by simp [hy]))
    rw [lens, List.length_cons, Nat.succ_mul]; omega
theorem key_len {k : ByteArray} (h : keyB k = true) : (keyT k).length ≤ 6 := by
  simp only [keyB, Bool.and_eq_true, decide_eq_true_eq] at h
  have h6 := h.1.2
  have e : k.data.toList.length = k.size := by rw [Array.length_toList]; rfl
  show k.data.toList.length ≤ 6
  rw [e]; exact h6
theorem word_len (k : Nat) : (word k).length ≤ 5 := by
  unfold word
  split <;> decide
theorem ins_len {R W : List ByteArray} {i : Ins} {behind : Int} (hR : wKeys R = 0) (hW : wKeys W = 0) (hb : behind ≤ 12) (h : wIns R W i behind = 0) : (join1 (insWords i)).length ≤ 21 := by
  have hI := right_instr h
  have hN := right_norm hb h
  have hk : i.kind = 1 ∨ i.kind = 6 ∨ i.kind = 7 → (keyT i.key).length ≤ 6 := fun e => by
    rcases e with e | e
    · exact key_len (wKeys_key hR (has_iff.1 (hI.load e)))
    · exact key_len (wKeys_key hW (has_iff.1 (hI.write e)))
  have la := reg_len hI.a0 hI.a4
  have lb := reg_len hI.b0 hI.b4
  have ln := itoa_len hN.lo hN.hi
  have lw := word_len
  refine Nat.le_trans (join1_len _) ?_
  unfold insWords
  split
  · rename_i e
    have := hk (.inl e)
    have := lw 1
    simp only [lens]; omega
  split
  · have := lw 2
    simp only [lens]; omega
  split
  · have := lw 3
    simp only [lens]; omega
  split
  · have := lw 4
    simp only [lens]; omega
  split
  · have := lw 5
    simp only [lens]; omega
  split
  · rename_i e
    have := hk (.inr (.inl e))
    have := lw 6
    simp only [lens]; omega
  split
  · rename_i e
    have := hk (.inr (.inr e))
    have := lw 7
    simp only [lens]; omega
  split
  · have := lw 8
    simp only [lens]; omega
  · have := lw 9
    simp only [lens]; omega
theorem keys_len {R : List ByteArray} (h : wKeys R = 0) {w : T} (hw : w.length ≤ 6) : (join1 (w :: R.map keyT)).length ≤ 42 := by
  refine Nat.le_trans (join1_len _) ?_
  rw [lens]
  have h1 := lens_le (d := 1) (m := 6) (R.map keyT) (fun x hx => by
    obtain ⟨k, hk, rfl⟩ := List.mem_map.1 hx
    exact key_len (wKeys_key h hk))
  have h2 := wKeys_len h
  rw [List.length_map] at h1
  omega
theorem mem_right {R W : List ByteArray} {C : List Ins} (h : RightD R W C) {i : Ins} (hi : i ∈ C) : ∃ behind : Int, behind ≤ 12 ∧ wIns R W i behind = 0 := by
  obtain ⟨j, hj, rfl⟩ := List.getElem_of_mem hi
  have := h.i j hj
  have hc := h.c
  rw [show C.getD j default = C[j] from by simp [List.getD, hj]] at this
  exact ⟨_, by omega, this⟩
theorem print_len {R W : List ByteArray} {C : List Ins} (h : RightD R W C) : (printT R W C).length ≤ 400 := by
  unfold printT partsOf
  refine Nat.le_trans (join2_len _) ?_
  simp only [List.map_cons, lens]
  have h1 := keys_len h.r (w := wReads) (by decide)
  have h2 := keys_len h.w (w := wWrites) (by decide)
  have h3 := lens_le (d := 2) (m := 21) ((C.map insWords).map join1) (fun x hx => by
    rw [List.map_map] at hx
    obtain ⟨i, hi, rfl⟩ := List.mem_map.1 hx
    obtain ⟨b, hb, hw⟩ := mem_right h hi
    exact ins_len h.r h.w hb hw)
  have h4 := h.c
  simp only [List.length_map] at h3
  omega

/-! ### Read again -/
theorem keys_words {R : List ByteArray} (h : wKeys R = 0) {w : T} (hw : ∀ c ∈ w, plainC c = true) : ∀ x ∈ w :: R.map keyT, ∀ c ∈ x, plainC c = true := by
  intro x hx
  rcases List.mem_cons.1 hx with rfl | hx
  · exact hw
  · obtain ⟨k, hk, rfl⟩ := List.mem_map.1 hx
    exact key_plain (wKeys_key h hk)
theorem read_print {R W : List ByteArray} {C : List Ins} (h : wDeed R W C = 0) : readT (printT R W C) = (0, R, W, C) := by
  have hR := right_deed h
  have hp : ∀ x ∈ (partsOf R W C).map join1, ∀ c ∈ x, c ≠ 59 := by
    intro x hx c hc
    obtain ⟨l, hl, rfl⟩ := List.mem_map.1 hx
    rcases join1_mem hc with rfl | ⟨y, hy, hcy⟩
    · decide
    · unfold partsOf at hl
      simp only [List.mem_cons] at hl
      rcases hl with rfl | rfl | hl
      · exact (plain_ne (keys_words hR.r (w := wReads) (by decide) y hy c hcy)).2
      · exact (plain_ne (keys_words hR.w (w := wWrites) (by decide) y hy c hcy)).2
      · obtain ⟨i, hi, rfl⟩ := List.mem_map.1 hl
        obtain ⟨b, hb, hw⟩ := mem_right hR hi
        exact (plain_ne (words_plain hR.r hR.w hw y hy c hcy)).2
  have hlen := print_len hR
  unfold readT
  rw [if_neg (by omega)]
  have hs : spl2 [] (printT R W C) = (partsOf R W C).map join1 := spl2_join2 _ (by simp [partsOf]) hp
  rw [hs]
  unfold partsOf
  simp only [List.map_cons]
  rw [spl1_join1 (wReads :: R.map keyT) (by simp) (fun x hx c hc => (plain_ne (keys_words hR.r (w := wReads) (by decide) x hx c hc)).1)]
  rw [spl1_join1 (wWrites :: W.map keyT) (by simp) (fun x hx c hc => (plain_ne (keys_words hR.w (w := wWrites) (by decide) x hx c hc)).1)]
  rw [code_print C (fun i hi => by
    obtain ⟨b, hb, hw⟩ := mem_right hR hi
    exact ⟨read_words hb hw, words_plain hR.r hR.w hw⟩)]
  have e0 : (ofT ∘ keyT) = id := by funext t; exact ofT_keyT t
  simp [e0, h]
end Go.Proofs.YtdnafpenljdinadDoor
