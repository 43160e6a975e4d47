/-
  A right deed's text is read as that deed, and is no longer than may be.
  The table of how instructions are written: its places filled are an instruction's words, and words held against it are that instruction, or none.
-/
import Derived.Test.YthmkgfdglkdjmaeGreatDoorTextTurn
namespace Go.Proofs.YthmkgfdglkdjmaeGreatDoor
open Go.Lib

theorem plain_ne {c : UInt8} (h : plainC c = true) : c ≠ 32 ∧ c ≠ 59 := by simpa [plainC] using h
theorem key_plain {k : ByteArray} (h : keyB k = true) : ∀ c ∈ keyT k, plainC c = true := by
  intro c hc
  simp only [keyB, Bool.and_eq_true] at h
  have := List.all_eq_true.1 h.2 c hc
  simp only [okc, Bool.and_eq_true, decide_eq_true_eq] at this
  have h1 : c ≠ 32 := fun e => by rw [e] at this; revert this; decide
  have h2 : c ≠ 59 := fun e => by rw [e] at this; revert this; decide
  simp [plainC, h1, h2]
theorem word_plain (k : Nat) : ∀ c ∈ word k, plainC c = true := by
  unfold word
  split <;> decide
theorem reg_plain (n : Int) : ∀ c ∈ reg n, plainC c = true := by
  intro c hc
  rcases List.mem_cons.1 hc with rfl | hc
  · decide
  · exact itoa_plain n c hc
theorem words_plain {R W : List ByteArray} {i : Ins} {behind : Int} (hR : wKeys R = 0) (hW : wKeys W = 0) (h : wIns R W i behind = 0) : ∀ x ∈ insWords i, ∀ c ∈ x, plainC c = true := by
  have hI := right_instr h
  have hk : i.kind = 1 ∨ i.kind = 6 ∨ i.kind = 7 → ∀ c ∈ keyT i.key, plainC c = true := fun e => by
    rcases e with e | e
    · exact key_plain (wKeys_key hR (has_iff.1 (hI.load e)))
    · exact key_plain (wKeys_key hW (has_iff.1 (hI.write e)))
  intro x hx
  unfold insWords at hx
  split at hx
  · rename_i e
    simp only [List.mem_cons, List.not_mem_nil, or_false] at hx
    rcases hx with rfl | rfl | rfl
    · exact word_plain _
    · exact reg_plain _
    · exact hk (.inl e)
  split at hx
  · simp only [List.mem_cons, List.not_mem_nil, or_false] at hx
    rcases hx with rfl | rfl | rfl
    · exact word_plain _
    · exact reg_plain _
    · exact itoa_plain _
  split at hx
  · simp only [List.mem_cons, List.not_mem_nil, or_false] at hx
    rcases hx with rfl | rfl | rfl
    · exact word_plain _
    · exact reg_plain _
    · exact reg_plain _
  split at hx
  · simp only [List.mem_cons, List.not_mem_nil, or_false] at hx
    rcases hx with rfl | rfl | rfl
    · exact word_plain _
    · exact reg_plain _
    · exact reg_plain _
  split at hx
  · simp only [List.mem_cons, List.not_mem_nil, or_false] at hx
    rcases hx with rfl | rfl | rfl
    · exact word_plain _
    · exact reg_plain _
    · exact reg_plain _
  split at hx
  · rename_i e
    simp only [List.mem_cons, List.not_mem_nil, or_false] at hx
    rcases hx with rfl | rfl | rfl
    · exact word_plain _
    · exact reg_plain _
    · exact hk (.inr (.inl e))
  split at hx
  · rename_i e
    simp only [List.mem_cons, List.not_mem_nil, or_false] at hx
    rcases hx with rfl | rfl
    · exact word_plain _
    · exact hk (.inr (.inr e))
  split at hx
  · simp only [List.mem_cons, List.not_mem_nil, or_false] at hx
    rcases hx with rfl | rfl | rfl
    · exact word_plain _
    · exact reg_plain _
    · exact itoa_plain _
  · simp only [List.mem_cons, List.not_mem_nil, or_false] at hx
    rcases hx with rfl | rfl
    · exact word_plain _
    · exact reg_plain _
theorem insWords_ne (i : Ins) : insWords i ≠ [] := by
  unfold insWords
  repeat' split
  all_goals simp
theorem code_print : ∀ (C : List Ins), (∀ i ∈ C, readIns (insWords i) = (0, i) ∧ ∀ x ∈ insWords i, ∀ c ∈ x, plainC c = true) → readCode ((C.map insWords).map join1) = (0, C)
  | [], _ => rfl
  | i :: C, h => by
    obtain ⟨h1, h2⟩ := h i (by simp)
    simp only [List.map_cons, readCode]
    rw [spl1_join1 _ (insWords_ne i) (fun x hx c hc => (plain_ne (h2 x hx c hc)).1), h1]
    simp only
    rw [code_print C (fun j hj => h j (by simp [hj]))]
    rfl

/-! ### How long it is -/
theorem digits_len : ∀ (k u : Nat), u < 10 ^ (k + 1) → (decDigits u).length ≤ k + 1
  | 0, u, h => by rw [decDigits, dif_pos (by simpa using h)]; simp
  | k + 1, u, h => by
    rw [decDigits]
    split
    · simp
    · have := digits_len k (u / 10) (by rw [Nat.pow_succ] at h; omega)
      simp; omega
theorem itoa_len {n : Int} (h0 : -1073741824 ≤ n) (h1 : n ≤ 1073741824) : (itoa n).length ≤ 11 := by
  unfold itoa
  split
  · have := digits_len 9 n.natAbs (by omega)
    simp; omega
  · have := digits_len 9 n.toNat (by omega)
    omega
theorem reg_len {a : Int} (h0 : 0 ≤ a) (h1 : a < 4) : (reg a).length ≤ 2 := by
  have : (itoa a).length ≤ 1 := by
    unfold itoa
    rw [if_neg (by omega)]
    exact digits_len 0 a.toNat (by omega)
  simp [reg]; omega
/-- How long words are together, with one sign more each. -/
def lens (d : Nat) : List T → Nat
  | [] => 0
  | x :: l => x.length + d + lens d l
theorem join1_len : ∀ (l : List T), (join1 l).length ≤ lens 1 l
  | [] => by simp [join1]
  | [x] => by simp [join1, lens]
  | x :: y :: l => by
    have := join1_len (y :: l)
    rw [join1_cons x (by simp), lens]
    simp; omega
theorem join2_len : ∀ (l : List T), (join2 l).length ≤ lens 2 l
  | [] => by simp [join2]
  | [x] => by simp [join2, lens]
  | x :: y :: l => by
    have := join2_len (y :: l)
    rw [join2_cons x (by simp), lens]
    simp; omega
theorem lens_le {d m : Nat} : ∀ (l : List T), (∀ x ∈ l, x.length ≤ m) → lens d l ≤ l.length * (m + d)
  | [], _ => by simp [lens]
  | x :: l, h => by
    have h1 := h x (by simp)
    have h2 := lens_le (d := d) (m := m) l (fun y hy => h y (by simp [hy]))
    rw [lens, List.length_cons, Nat.succ_mul]; omega
theorem key_len {k : ByteArray} (h : keyB k = true) : (keyT k).length ≤ 6 := by
  simp only [keyB, Bool.and_eq_true, decide_eq_true_eq] at h
  have h6 := h.1.2
  have e : k.data.toList.length = k.size := by rw [Array.length_toList]; rfl
  show k.data.toList.length ≤ 6
  rw [e]; exact h6
theorem word_len (k : Nat) : (word k).length ≤ 5 := by
  unfold word
  split <;> decide
theorem ins_len {R W : List ByteArray} {i : Ins} {behind : Int} (hR : wKeys R = 0) (hW : wKeys W = 0) (hb : behind ≤ 12) (h : wIns R W i behind = 0) : (join1 (insWords i)).length ≤ 21 := by
  have hI := right_instr h
  have hN := right_norm hb h
  have hk : i.kind = 1 ∨ i.kind = 6 ∨ i.kind = 7 → (keyT i.key).length ≤ 6 := fun e => by
    rcases e with e | e
    · exact key_len (wKeys_key hR (has_iff.1 (hI.load e)))
    · exact key_len (wKeys_key hW (has_iff.1 (hI.write e)))
  have la := reg_len hI.a0 hI.a4
  have lb := reg_len hI.b0 hI.b4
  have ln := itoa_len hN.lo hN.hi
  have lw := word_len
  refine Nat.le_trans (join1_len _) ?_
  unfold insWords
  split
  · rename_i e
    have := hk (.inl e)
    have := lw 1
    simp only [lens]; omega
  split
  · have := lw 2
    simp only [lens]; omega
  split
  · have := lw 3
    simp only [lens]; omega
  split
  · have := lw 4
    simp only [lens]; omega
  split
  · have := lw 5
    simp only [lens]; omega
  split
  · rename_i e
    have := hk (.inr (.inl e))
    have := lw 6
    simp only [lens]; omega
  split
  · rename_i e
    have := hk (.inr (.inr e))
    have := lw 7
    simp only [lens]; omega
  split
  · have := lw 8
    simp only [lens]; omega
  · have := lw 9
    simp only [lens]; omega
theorem keys_len {R : List ByteArray} (h : wKeys R = 0) {w : T} (hw : w.length ≤ 6) : (join1 (w :: R.map keyT)).length ≤ 42 := by
  refine Nat.le_trans (join1_len _) ?_
  rw [lens]
  have h1 := lens_le (d := 1) (m := 6) (R.map keyT) (fun x hx => by
    obtain ⟨k, hk, rfl⟩ := List.mem_map.1 hx
    exact key_len (wKeys_key h hk))
  have h2 := wKeys_len h
  rw [List.length_map] at h1
  omega
theorem mem_right {R W : List ByteArray} {C : List Ins} (h : RightD R W C) {i : Ins} (hi : i ∈ C) : ∃ behind : Int, behind ≤ 12 ∧ wIns R W i behind = 0 := by
  obtain ⟨j, hj, rfl⟩ := List.getElem_of_mem hi
  have := h.i j hj
  have hc := h.c
  rw [show C.getD j default = C[j] from by simp [List.getD, hj]] at this
  exact ⟨_, by omega, this⟩
theorem print_len {R W : List ByteArray} {C : List Ins} (h : RightD R W C) : (printT R W C).length ≤ 400 := by
  unfold printT partsOf
  refine Nat.le_trans (join2_len _) ?_
  simp only [List.map_cons, lens]
  have h1 := keys_len h.r (w := wReads) (by decide)
  have h2 := keys_len h.w (w := wWrites) (by decide)
  have h3 := lens_le (d := 2) (m := 21) ((C.map insWords).map join1) (fun x hx => by
    rw [List.map_map] at hx
    obtain ⟨i, hi, rfl⟩ := List.mem_map.1 hx
    obtain ⟨b, hb, hw⟩ := mem_right h hi
    exact ins_len h.r h.w hb hw)
  have h4 := h.c
  simp only [List.length_map] at h3
  omega

/-! ### Read again -/
theorem keys_words {R : List ByteArray} (h : wKeys R = 0) {w : T} (hw : ∀ c ∈ w, plainC c = true) : ∀ x ∈ w :: R.map keyT, ∀ c ∈ x, plainC c = true := by
  intro x hx
  rcases List.mem_cons.1 hx with rfl | hx
  · exact hw
  · obtain ⟨k, hk, rfl⟩ := List.mem_map.1 hx
    exact key_plain (wKeys_key h hk)
theorem read_print {R W : List ByteArray} {C : List Ins} (h : wDeed R W C = 0) : readT (printT R W C) = (0, R, W, C) := by
  have hR := right_deed h
  have hp : ∀ x ∈ (partsOf R W C).map join1, ∀ c ∈ x, c ≠ 59 := by
    intro x hx c hc
    obtain ⟨l, hl, rfl⟩ := List.mem_map.1 hx
    rcases join1_mem hc with rfl | ⟨y, hy, hcy⟩
    · decide
    · unfold partsOf at hl
      simp only [List.mem_cons] at hl
      rcases hl with rfl | rfl | hl
      · exact (plain_ne (keys_words hR.r (w := wReads) (by decide) y hy c hcy)).2
      · exact (plain_ne (keys_words hR.w (w := wWrites) (by decide) y hy c hcy)).2
      · obtain ⟨i, hi, rfl⟩ := List.mem_map.1 hl
        obtain ⟨b, hb, hw⟩ := mem_right hR hi
        exact (plain_ne (words_plain hR.r hR.w hw y hy c hcy)).2
  have hlen := print_len hR
  unfold readT
  rw [if_neg (by omega)]
  have hs : spl2 [] (printT R W C) = (partsOf R W C).map join1 := spl2_join2 _ (by simp [partsOf]) hp
  rw [hs]
  unfold partsOf
  simp only [List.map_cons]
  rw [spl1_join1 (wReads :: R.map keyT) (by simp) (fun x hx c hc => (plain_ne (keys_words hR.r (w := wReads) (by decide) x hx c hc)).1)]
  rw [spl1_join1 (wWrites :: W.map keyT) (by simp) (fun x hx c hc => (plain_ne (keys_words hR.w (w := wWrites) (by decide) x hx c hc)).1)]
  rw [code_print C (fun i hi => by
    obtain ⟨b, hb, hw⟩ := mem_right hR hi
    exact ⟨read_words hb hw, words_plain hR.r hR.w hw⟩)]
  have e0 : (ofT ∘ keyT) = id := by funext t; exact ofT_keyT t
  simp [e0, h]
end Go.Proofs.YthmkgfdglkdjmaeGreatDoor

namespace Go.Proofs.YthmkgfdglkdjmaeGreatDoor
open Go.Lib

/-- How an instruction of a kind is written. -/
def shapeT (k : Nat) : T := match k with
  | 1 => [108, 111, 97, 100, 32, 114, 65, 32, 107, 101, 121]
  | 2 => [99, 111, 110, 115, 116, 32, 114, 65, 32, 110]
  | 3 => [97, 100, 100, 32, 114, 65, 32, 114, 66]
  | 4 => [115, 117, 98, 32, 114, 65, 32, 114, 66]
  | 5 => [109, 117, 108, 32, 114, 65, 32, 114, 66]
  | 6 => [115, 116, 111, 114, 101, 32, 114, 65, 32, 107, 101, 121]
  | 7 => [100, 114, 111, 112, 32, 107, 101, 121]
  | 8 => [115, 107, 105, 112, 32, 114, 65, 32, 110]
  | 9 => [102, 97, 105, 108, 32, 114, 65]
  | _ => []
def pA : T := [114, 65]
def pB : T := [114, 66]
def pN : T := [110]
def pK : T := [107, 101, 121]
def placesT (k : Nat) : List T := spl1 [] (shapeT k)
theorem placesT_1 : placesT 1 = [word 1, pA, pK] := by decide
theorem placesT_2 : placesT 2 = [word 2, pA, pN] := by decide
theorem placesT_3 : placesT 3 = [word 3, pA, pB] := by decide
theorem placesT_4 : placesT 4 = [word 4, pA, pB] := by decide
theorem placesT_5 : placesT 5 = [word 5, pA, pB] := by decide
theorem placesT_6 : placesT 6 = [word 6, pA, pK] := by decide
theorem placesT_7 : placesT 7 = [word 7, pK] := by decide
theorem placesT_8 : placesT 8 = [word 8, pA, pN] := by decide
theorem placesT_9 : placesT 9 = [word 9, pA] := by decide
theorem placesT_head {k : Nat} (h1 : 1 ≤ k) (h9 : k ≤ 9) : ∃ r, placesT k = word k :: r := by
  have : k = 1 ∨ k = 2 ∨ k = 3 ∨ k = 4 ∨ k = 5 ∨ k = 6 ∨ k = 7 ∨ k = 8 ∨ k = 9 := by omega
  rcases this with rfl | rfl | rfl | rfl | rfl | rfl | rfl | rfl | rfl
  · exact ⟨_, placesT_1⟩
  · exact ⟨_, placesT_2⟩
  · exact ⟨_, placesT_3⟩
  · exact ⟨_, placesT_4⟩
  · exact ⟨_, placesT_5⟩
  · exact ⟨_, placesT_6⟩
  · exact ⟨_, placesT_7⟩
  · exact ⟨_, placesT_8⟩
  · exact ⟨_, placesT_9⟩

/-! ### Written -/
def fillP (i : Ins) (p : T) : T := if p = pA then reg i.a else if p = pB then reg i.b else if p = pN then itoa i.n else if p = pK then keyT i.key else p
theorem fillP_A (i : Ins) : fillP i pA = reg i.a := rfl
theorem fillP_B (i : Ins) : fillP i pB = reg i.b := rfl
theorem fillP_N (i : Ins) : fillP i pN = itoa i.n := rfl
theorem fillP_K (i : Ins) : fillP i pK = keyT i.key := rfl
theorem word_plainP (k : Nat) : word k ≠ pA ∧ word k ≠ pB ∧ word k ≠ pN ∧ word k ≠ pK := by
  unfold word; split <;> decide
theorem fillP_word (i : Ins) (k : Nat) : fillP i (word k) = word k := by
  obtain ⟨h1, h2, h3, h4⟩ := word_plainP k
  unfold fillP; rw [if_neg h1, if_neg h2, if_neg h3, if_neg h4]
theorem fill_words (i : Ins) {k : Nat} (hk : i.kind = (k : Int)) (h1 : 1 ≤ k) (h9 : k ≤ 9) : (placesT k).map (fillP i) = insWords i := by
  have : k = 1 ∨ k = 2 ∨ k = 3 ∨ k = 4 ∨ k = 5 ∨ k = 6 ∨ k = 7 ∨ k = 8 ∨ k = 9 := by omega
  unfold insWords
  rcases this with rfl | rfl | rfl | rfl | rfl | rfl | rfl | rfl | rfl <;> rw [hk]
  · rw [placesT_1]; simp [fillP_A, fillP_K, fillP_word]
  · rw [placesT_2]; simp [fillP_A, fillP_N, fillP_word]
  · rw [placesT_3]; simp [fillP_A, fillP_B, fillP_word]
  · rw [placesT_4]; simp [fillP_A, fillP_B, fillP_word]
  · rw [placesT_5]; simp [fillP_A, fillP_B, fillP_word]
  · rw [placesT_6]; simp [fillP_A, fillP_K, fillP_word]
  · rw [placesT_7]; simp [fillP_K, fillP_word]
  · rw [placesT_8]; simp [fillP_A, fillP_N, fillP_word]
  · rw [placesT_9]; simp [fillP_A, fillP_word]

/-! ### Read -/
def fillStep (p w : T) (i : Ins) : Option Ins :=
  if p = pA then (regOf w).map fun x => (i.kind, x, i.b, i.n, i.key)
  else if p = pB then (regOf w).map fun x => (i.kind, i.a, x, i.n, i.key)
  else if p = pN then (numOf w).map fun x => (i.kind, i.a, i.b, x, i.key)
  else if p = pK then some (i.kind, i.a, i.b, i.n, ofT w)
  else some i
def fillG : List T → List T → Ins → Option Ins
  | p :: ps, w :: ws, i => (fillStep p w i).bind (fillG ps ws)
  | _, _, i => some i
def ins0 (k : Nat) : Ins := ((k : Int), 0, 0, 0, ⟨#[]⟩)
/-- What the words behind a kind's own word are. -/
def fillR (k : Nat) (l : List T) : Int × Ins :=
  if l.length ≠ (placesT k).length then (2, default)
  else match fillG (placesT k) l (ins0 k) with
    | some i => (0, i)
    | none => (2, default)
theorem fillStep_A (w : T) (i : Ins) : fillStep pA w i = (regOf w).map fun x => (i.kind, x, i.b, i.n, i.key) := rfl
theorem fillStep_B (w : T) (i : Ins) : fillStep pB w i = (regOf w).map fun x => (i.kind, i.a, x, i.n, i.key) := rfl
theorem fillStep_N (w : T) (i : Ins) : fillStep pN w i = (numOf w).map fun x => (i.kind, i.a, i.b, x, i.key) := rfl
theorem fillStep_K (w : T) (i : Ins) : fillStep pK w i = some (i.kind, i.a, i.b, i.n, ofT w) := rfl
theorem fillStep_word (k : Nat) (w : T) (i : Ins) : fillStep (word k) w i = some i := by
  obtain ⟨h1, h2, h3, h4⟩ := word_plainP k
  unfold fillStep; rw [if_neg h1, if_neg h2, if_neg h3, if_neg h4]
theorem read_fill {l : List T} {k : Nat} (hk : kindOf (l.headD []) = k) (h1 : 1 ≤ k) (h9 : k ≤ 9) : readIns l = fillR k l := by
  have : k = 1 ∨ k = 2 ∨ k = 3 ∨ k = 4 ∨ k = 5 ∨ k = 6 ∨ k = 7 ∨ k = 8 ∨ k = 9 := by omega
  unfold readIns fillR
  rw [hk]
  rcases this with rfl | rfl | rfl | rfl | rfl | rfl | rfl | rfl | rfl
  · rw [placesT_1]
    rcases l with _ | ⟨x, _ | ⟨y, _ | ⟨z, _ | ⟨u, l⟩⟩⟩⟩ <;> simp [fillG, fillStep_word, fillStep_A, fillStep_K, ins0]
    cases regOf y <;> simp [Ins.kind, Ins.b, Ins.n]
  · rw [placesT_2]
    rcases l with _ | ⟨x, _ | ⟨y, _ | ⟨z, _ | ⟨u, l⟩⟩⟩⟩ <;> simp [fillG, fillStep_word, fillStep_A, fillStep_N, ins0]
    cases regOf y <;> simp [Ins.kind, Ins.b, Ins.n]
    cases numOf z <;> simp [Ins.a, Ins.key]
  · rw [placesT_3]
    rcases l with _ | ⟨x, _ | ⟨y, _ | ⟨z, _ | ⟨u, l⟩⟩⟩⟩ <;> simp [fillG, fillStep_word, fillStep_A, fillStep_B, ins0]
    cases regOf y <;> simp [Ins.kind, Ins.b, Ins.n]
    cases regOf z <;> simp [Ins.a, Ins.key]
  · rw [placesT_4]
    rcases l with _ | ⟨x, _ | ⟨y, _ | ⟨z, _ | ⟨u, l⟩⟩⟩⟩ <;> simp [fillG, fillStep_word, fillStep_A, fillStep_B, ins0]
    cases regOf y <;> simp [Ins.kind, Ins.b, Ins.n]
    cases regOf z <;> simp [Ins.a, Ins.key]
  · rw [placesT_5]
    rcases l with _ | ⟨x, _ | ⟨y, _ | ⟨z, _ | ⟨u, l⟩⟩⟩⟩ <;> simp [fillG, fillStep_word, fillStep_A, fillStep_B, ins0]
    cases regOf y <;> simp [Ins.kind, Ins.b, Ins.n]
    cases regOf z <;> simp [Ins.a, Ins.key]
  · rw [placesT_6]
    rcases l with _ | ⟨x, _ | ⟨y, _ | ⟨z, _ | ⟨u, l⟩⟩⟩⟩ <;> simp [fillG, fillStep_word, fillStep_A, fillStep_K, ins0]
    cases regOf y <;> simp [Ins.kind, Ins.b, Ins.n]
  · rw [placesT_7]
    rcases l with _ | ⟨x, _ | ⟨y, _ | ⟨z, l⟩⟩⟩ <;> simp [fillG, fillStep_word, fillStep_K, ins0]
  · rw [placesT_8]
    rcases l with _ | ⟨x, _ | ⟨y, _ | ⟨z, _ | ⟨u, l⟩⟩⟩⟩ <;> simp [fillG, fillStep_word, fillStep_A, fillStep_N, ins0]
    cases regOf y <;> simp [Ins.kind, Ins.b, Ins.n]
    cases numOf z <;> simp [Ins.a, Ins.key]
  · rw [placesT_9]
    rcases l with _ | ⟨x, _ | ⟨y, _ | ⟨z, l⟩⟩⟩ <;> simp [fillG, fillStep_word, fillStep_A, ins0]
    cases regOf y <;> simp [Ins.kind, Ins.b, Ins.n]
theorem read_none {l : List T} (hk : kindOf (l.headD []) = 0) : readIns l = (1, default) := by
  unfold readIns; rw [hk]; rfl
end Go.Proofs.YthmkgfdglkdjmaeGreatDoor
