/-
  The table of how instructions are written: its places filled are an instruction's words, and words held against it are that instruction, or none.
-/
import Derived.Test.YtddmdbjedainoaaDoorTextBack
namespace Go.Proofs.YtddmdbjedainoaaDoor
open Go.Lib

/-- How an instruction of a kind is written. -/
def shapeT (k : Nat) : T := match k with
  | 1 => [108, 111, 97, 100, 32, 114, 65, 32, 107, 101, 121]
  | 2 => [99, 111, 110, 115, 116, 32, 114, 65, 32, 110]
  | 3 => [97, 100, 100, 32, 114, 65, 32, 114, 66]
  | 4 => [115, 117, 98, 32, 114, 65, 32, 114, 66]
  | 5 => [109, 117, 108, 32, 114, 65, 32, 114, 66]
  | 6 => [115, 116, 111, 114, 101, 32, 114, 65, 32, 107, 101, 121]
  | 7 => [100, 114, 111, 112, 32, 107, 101, 121]
  | 8 => [115, 107, 105, 112, 32, 114, 65, 32, 110]
  | 9 => [102, 97, 105, 108, 32, 114, 65]
  | _ => []
def pA : T := [114, 65]
def pB : T := [114, 66]
def pN : T := [110]
def pK : T := [107, 101, 121]
def placesT (k : Nat) : List T := spl1 [] (shapeT k)
theorem placesT_1 : placesT 1 = [word 1, pA, pK] := by decide
theorem placesT_2 : placesT 2 = [word 2, pA, pN] := by decide
theorem placesT_3 : placesT 3 = [word 3, pA, pB] := by decide
theorem placesT_4 : placesT 4 = [word 4, pA, pB] := by decide
theorem placesT_5 : placesT 5 = [word 5, pA, pB] := by decide
theorem placesT_6 : placesT 6 = [word 6, pA, pK] := by decide
theorem placesT_7 : placesT 7 = [word 7, pK] := by decide
theorem placesT_8 : placesT 8 = [word 8, pA, pN] := by decide
theorem placesT_9 : placesT 9 = [word 9, pA] := by decide
theorem placesT_head {k : Nat} (h1 : 1 ≤ k) (h9 : k ≤ 9) : ∃ r, placesT k = word k :: r := by
  have : k = 1 ∨ k = 2 ∨ k = 3 ∨ k = 4 ∨ k = 5 ∨ k = 6 ∨ k = 7 ∨ k = 8 ∨ k = 9 := by omega
  rcases this with rfl | rfl | rfl | rfl | rfl | rfl | rfl | rfl | rfl
  · exact ⟨_, placesT_1⟩
  · exact ⟨_, placesT_2⟩
  · exact ⟨_, placesT_3⟩
  · exact ⟨_, placesT_4⟩
  · exact ⟨_, placesT_5⟩
  · exact ⟨_, placesT_6⟩
  · exact ⟨_, placesT_7⟩
  · exact ⟨_, placesT_8⟩
  · exact ⟨_, placesT_9⟩

/-! ### Written -/
def fillP (i : Ins) (p : T) : T := if p = pA then reg i.a else if p = pB then reg i.b else if p = pN then itoa i.n else if p = pK then keyT i.key else p
theorem fillP_A (i : Ins) : fillP i pA = reg i.a := rfl
theorem fillP_B (i : Ins) : fillP i pB = reg i.b := rfl
theorem fillP_N (i : Ins) : fillP i pN = itoa i.n := rfl
theorem fillP_K (i : Ins) : fillP i pK = keyT i.key := rfl
theorem word_plainP (k : Nat) : word k ≠ pA ∧ word k ≠ pB ∧ word k ≠ pN ∧ word k ≠ pK := by
  unfold word; split <;> decide
theorem fillP_word (i : Ins) (k : Nat) : fillP i (word k) = word k := by
  obtain ⟨h1, h2, h3, h4⟩ := word_plainP k
  unfold fillP; rw [if_neg h1, if_neg h2, if_neg h3, if_neg h4]
theorem fill_words (i : Ins) {k : Nat} (hk : i.kind = (k : Int)) (h1 : 1 ≤ k) (h9 : k ≤ 9) : (placesT k).map (fillP i) = insWords i := by
  have : k = 1 ∨ k = 2 ∨ k = 3 ∨ k = 4 ∨ k = 5 ∨ k = 6 ∨ k = 7 ∨ k = 8 ∨ k = 9 := by omega
  unfold insWords
  rcases this with rfl | rfl | rfl | rfl | rfl | rfl | rfl | rfl | rfl <;> rw [hk]
  · rw [placesT_1]; simp [fillP_A, fillP_K, fillP_word]
  · rw [placesT_2]; simp [fillP_A, fillP_N, fillP_word]
  · rw [placesT_3]; simp [fillP_A, fillP_B, fillP_word]
  · rw [placesT_4]; simp [fillP_A, fillP_B, fillP_word]
  · rw [placesT_5]; simp [fillP_A, fillP_B, fillP_word]
  · rw [placesT_6]; simp [fillP_A, fillP_K, fillP_word]
  · rw [placesT_7]; simp [fillP_K, fillP_word]
  · rw [placesT_8]; simp [fillP_A, fillP_N, fillP_word]
  · rw [placesT_9]; simp [fillP_A, fillP_word]

/-! ### Read -/
def fillStep (p w : T) (i : Ins) : Option Ins :=
  if p = pA then (regOf w).map fun x => (i.kind, x, i.b, i.n, i.key)
  else if p = pB then (regOf w).map fun x => (i.kind, i.a, x, i.n, i.key)
  else if p = pN then (numOf w).map fun x => (i.kind, i.a, i.b, x, i.key)
  else if p = pK then some (i.kind, i.a, i.b, i.n, ofT w)
  else some i
def fillG : List T → List T → Ins → Option Ins
  | p :: ps, w :: ws, i => (fillStep p w i).bind (fillG ps ws)
  | _, _, i => some i
def ins0 (k : Nat) : Ins := ((k : Int), 0, 0, 0, ⟨#[]⟩)
/-- What the words behind a kind's own word are. -/
def fillR (k : Nat) (l : List T) : Int × Ins :=
  if l.length ≠ (placesT k).length then (2, default)
  else match fillG (placesT k) l (ins0 k) with
    | some i => (0, i)
    | none => (2, default)
theorem fillStep_A (w : T) (i : Ins) : fillStep pA w i = (regOf w).map fun x => (i.kind, x, i.b, i.n, i.key) := rfl
theorem fillStep_B (w : T) (i : Ins) : fillStep pB w i = (regOf w).map fun x => (i.kind, i.a, x, i.n, i.key) := rfl
theorem fillStep_N (w : T) (i : Ins) : fillStep pN w i = (numOf w).map fun x => (i.kind, i.a, i.b, x, i.key) := rfl
theorem fillStep_K (w : T) (i : Ins) : fillStep pK w i = some (i.kind, i.a, i.b, i.n, ofT w) := rfl
theorem fillStep_word (k : Nat) (w : T) (i : Ins) : fillStep (word k) w i = some i := by
  obtain ⟨h1, h2, h3, h4⟩ := word_plainP k
  unfold fillStep; rw [if_neg h1, if_neg h2, if_neg h3, if_neg h4]
theorem read_fill {l : List T} {k : Nat} (hk : kindOf (l.headD []) = k) (h1 : 1 ≤ k) (h9 : k ≤ 9) : readIns l = fillR k l := by
  have : k = 1 ∨ k = 2 ∨ k = 3 ∨ k = 4 ∨ k = 5 ∨ k = 6 ∨ k = 7 ∨ k = 8 ∨ k = 9 := by omega
  unfold readIns fillR
  rw [hk]
  rcases this with rfl | rfl | rfl | rfl | rfl | rfl | rfl | rfl | rfl
  · rw [placesT_1]
    rcases l with _ | ⟨x, _ | ⟨y, _ | ⟨z, _ | ⟨u, l⟩⟩⟩⟩ <;> simp [fillG, fillStep_word, fillStep_A, fillStep_K, ins0]
    cases regOf y <;> simp [Ins.kind, Ins.b, Ins.n]
  · rw [placesT_2]
    rcases l with _ | ⟨x, _ | ⟨y, _ | ⟨z, _ | ⟨u, l⟩⟩⟩⟩ <;> simp [fillG, fillStep_word, fillStep_A, fillStep_N, ins0]
    cases regOf y <;> simp [Ins.kind, Ins.b, Ins.n]
    cases numOf z <;> simp [Ins.a, Ins.key]
  · rw [placesT_3]
    rcases l with _ | ⟨x, _ | ⟨y, _ | ⟨z, _ | ⟨u, l⟩⟩⟩⟩ <;> simp [fillG, fillStep_word, fillStep_A, fillStep_B, ins0]
    cases regOf y <;> simp [Ins.kind, Ins.b, Ins.n]
    cases regOf z <;> simp [Ins.a, Ins.key]
  · rw [placesT_4]
    rcases l with _ | ⟨x, _ | ⟨y, _ | ⟨z, _ | ⟨u, l⟩⟩⟩⟩ <;> simp [fillG, fillStep_word, fillStep_A, fillStep_B, ins0]
    cases regOf y <;> simp [Ins.kind, Ins.b, Ins.n]
    cases regOf z <;> simp [Ins.a, Ins.key]
  · rw [placesT_5]
    rcases l with _ | ⟨x, _ | ⟨y, _ | ⟨z, _ | ⟨u, l⟩⟩⟩⟩ <;> simp [fillG, fillStep_word, fillStep_A, fillStep_B, ins0]
    cases regOf y <;> simp [Ins.kind, Ins.b, Ins.n]
    cases regOf z <;> simp [Ins.a, Ins.key]
  · rw [placesT_6]
    rcases l with _ | ⟨x, _ | ⟨y, _ | ⟨z, _ | ⟨u, l⟩⟩⟩⟩ <;> simp [fillG, fillStep_word, fillStep_A, fillStep_K, ins0]
    cases regOf y <;> simp [Ins.kind, Ins.b, Ins.n]
  · rw [placesT_7]
    rcases l with _ | ⟨x, _ | ⟨y, _ | ⟨z, l⟩⟩⟩ <;> simp [fillG, fillStep_word, fillStep_K, ins0]
  · rw [placesT_8]
    rcases l with _ | ⟨x, _ | ⟨y, _ | ⟨z, _ | ⟨u, l⟩⟩⟩⟩ <;> simp [fillG, fillStep_word, fillStep_A, fillStep_N, ins0]
    cases regOf y <;> simp [Ins.kind, Ins.b, Ins.n]
    cases numOf z <;> simp [Ins.a, Ins.key]
  · rw [placesT_9]
    rcases l with _ | ⟨x, _ | ⟨y, _ | ⟨z, l⟩⟩⟩ <;> simp [fillG, fillStep_word, fillStep_A, ins0]
    cases regOf y <;> simp [Ins.kind, Ins.b, Ins.n]
theorem read_none {l : List T} (hk : kindOf (l.headD []) = 0) : readIns l = (1, default) := by
  unfold readIns; rw [hk]; rfl
end Go.Proofs.YtddmdbjedainoaaDoor
