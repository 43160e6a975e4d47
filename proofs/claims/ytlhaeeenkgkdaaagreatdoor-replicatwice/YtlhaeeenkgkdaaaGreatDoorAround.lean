/-
  A text that is read is its deed's; a right deed's text is read as that deed, and is no longer than may be.
  A right deed's text is read as that deed, and is no longer than may be.
  The table of how instructions are written: its places filled are an instruction's words, and words held against it are that instruction, or none.
  Key of the program and of the document's answer tell the same keys; Round tells what is left.
  What it means that a slice in memory holds rows, and that this stands while other memory grows.
  find of the program: the place of a key in rows that rise, and whether it is there; so around and Get.
  around and Get of the program, of rows that rise.
-/
import Derived.Test.YtlhaeeenkgkdaaaGreatDoorTextMath
import Derived.Test.YtlhaeeenkgkdaaaGreatDoorChecked
import Derived.WalkKit
import Derived.WalkSpells
import Derived.WalkLawsBesides
import Derived.Below
import Derived.LoopTactic
import Derived.Outline
import Derived.BigQuiet
import Derived.Deep.QuietTactic
namespace Go.Proofs.YtlhaeeenkgkdaaaGreatDoor
open Go.Lib

theorem kindOf_cases (w : T) : kindOf w = 0 ∨ (1 ≤ kindOf w ∧ kindOf w ≤ 9 ∧ w = word (kindOf w)) := by
 unfold kindOf
 split
 · rename_i h; exact .inr ⟨by decide, by decide, h⟩
 split
 · rename_i h; exact .inr ⟨by decide, by decide, h⟩
 split
 · rename_i h; exact .inr ⟨by decide, by decide, h⟩
 split
 · rename_i h; exact .inr ⟨by decide, by decide, h⟩
 split
 · rename_i h; exact .inr ⟨by decide, by decide, h⟩
 split
 · rename_i h; exact .inr ⟨by decide, by decide, h⟩
 split
 · rename_i h; exact .inr ⟨by decide, by decide, h⟩
 split
 · rename_i h; exact .inr ⟨by decide, by decide, h⟩
 split
 · rename_i h; exact .inr ⟨by decide, by decide, h⟩
 · exact .inl rfl
theorem kindOf_word (k : Nat) (h1 : 1 ≤ k) (h9 : k ≤ 9) : kindOf (word k) = k := by
 have : k = 1 ∨ k = 2 ∨ k = 3 ∨ k = 4 ∨ k = 5 ∨ k = 6 ∨ k = 7 ∨ k = 8 ∨ k = 9 := by omega
 rcases this with rfl | rfl | rfl | rfl | rfl | rfl | rfl | rfl | rfl <;> decide
theorem regOf_reg {a : Int} (h0 : -9223372036854775808 ≤ a) (h1 : a ≤ 9223372036854775807) : regOf (reg a) = some a := by
 show (if (114 : UInt8) = 114 then numOf (itoa a) else none) = some a
 rw [if_pos rfl, numOf_itoa a h0 h1]

structure Norm (i : Ins) : Prop where
 a : i.kind = 7 → i.a = 0
 b : i.kind ≠ 3 → i.kind ≠ 4 → i.kind ≠ 5 → i.b = 0
 n : i.kind ≠ 2 → i.kind ≠ 8 → i.n = 0
 key : i.kind ≠ 1 → i.kind ≠ 6 → i.kind ≠ 7 → i.key = ⟨#[]⟩
 lo : -1073741824 ≤ i.n
 hi : i.n ≤ 1073741824
theorem right_norm {R W : List ByteArray} {i : Ins} {behind : Int} (hb : behind ≤ 12) (h : wIns R W i behind = 0) : Norm i := by
 unfold wIns at h
 split at h
 · cases h
 split at h
 · cases h
 rename_i h1 h2
 have hr : regsFit i = true := by
   cases e : regsFit i with
   | true => rfl
   | false => exact absurd (.inl e) h2
 have hn : numFit i behind = true := by
   cases e : numFit i behind with
   | true => rfl
   | false => exact absurd (.inr e) h2
 simp only [regsFit, Bool.and_eq_true] at hr
 refine ⟨fun e => ?_, fun e3 e4 e5 => ?_, fun e2 e8 => ?_, fun e1 e6 e7 => ?_, ?_, ?_⟩
 · have := hr.1
   simpa [regFit, e] using this
 · have := hr.2
   simpa [regFit, hasB, e3, e4, e5] using this
 · simpa [numFit, e2, e8] using hn
 · rw [if_neg e1, if_neg (by intro e; rcases e with e | e; exact e6 e; exact e7 e)] at h
   split at h
   · rename_i hs
     cases hk : i.key with
     | mk d =>
       rw [hk] at hs
       simp [ByteArray.size] at hs
       rw [hs]
   · cases h
 · unfold numFit at hn
   split at hn
   · simp at hn; exact hn.1
   split at hn
   · simp at hn; omega
   · simp at hn; omega
 · unfold numFit at hn
   split at hn
   · simp at hn; exact hn.2
   split at hn
   · simp at hn; omega
   · simp at hn; omega
theorem read_words {R W : List ByteArray} {i : Ins} {behind : Int} (hb : behind ≤ 12) (h : wIns R W i behind = 0) : readIns (insWords i) = (0, i) := by
 have hN := right_norm hb h
 have hI := right_instr h
 obtain ⟨kd, a, b, n, key⟩ := i
 obtain ⟨na, nb, nn, nk, lo, hi⟩ := hN
 have a0 := hI.a0
 have a4 := hI.a4
 have b0 := hI.b0
 have b4 := hI.b4
 have k1 := hI.lo
 have k9 := hI.hi
 simp only [Ins.kind, Ins.a, Ins.b, Ins.n, Ins.key] at *
 have ra := regOf_reg (a := a) (by omega) (by omega)
 have rb := regOf_reg (a := b) (by omega) (by omega)
 have rn := numOf_itoa n (by omega) (by omega)
 have : kd = 1 ∨ kd = 2 ∨ kd = 3 ∨ kd = 4 ∨ kd = 5 ∨ kd = 6 ∨ kd = 7 ∨ kd = 8 ∨ kd = 9 := by omega
 rcases this with rfl | rfl | rfl | rfl | rfl | rfl | rfl | rfl | rfl
 · rw [nb (by decide) (by decide) (by decide), nn (by decide) (by decide)]
   simp [insWords, readIns, Ins.kind, Ins.a, Ins.key, kindOf_word 1, ra, ofT_keyT]
 · rw [nb (by decide) (by decide) (by decide), nk (by decide) (by decide) (by decide)]
   simp [insWords, readIns, Ins.kind, Ins.a, Ins.n, kindOf_word 2, ra, rn]
 · rw [nn (by decide) (by decide), nk (by decide) (by decide) (by decide)]
   simp [insWords, readIns, Ins.kind, Ins.a, Ins.b, kindOf_word 3, ra, rb]
 · rw [nn (by decide) (by decide), nk (by decide) (by decide) (by decide)]
   simp [insWords, readIns, Ins.kind, Ins.a, Ins.b, kindOf_word 4, ra, rb]
 · rw [nn (by decide) (by decide), nk (by decide) (by decide) (by decide)]
   simp [insWords, readIns, Ins.kind, Ins.a, Ins.b, kindOf_word 5, ra, rb]
 · rw [nb (by decide) (by decide) (by decide), nn (by decide) (by decide)]
   simp [insWords, readIns, Ins.kind, Ins.a, Ins.key, kindOf_word 6, ra, ofT_keyT]
 · rw [na rfl, nb (by decide) (by decide) (by decide), nn (by decide) (by decide)]
   simp [insWords, readIns, Ins.kind, Ins.key, kindOf_word 7, ofT_keyT]
 · rw [nb (by decide) (by decide) (by decide), nk (by decide) (by decide) (by decide)]
   simp [insWords, readIns, Ins.kind, Ins.a, Ins.n, kindOf_word 8, ra, rn]
 · rw [nb (by decide) (by decide) (by decide), nn (by decide) (by decide), nk (by decide) (by decide) (by decide)]
   simp [insWords, readIns, Ins.kind, Ins.a, kindOf_word 9, ra]
end Go.Proofs.YtlhaeeenkgkdaaaGreatDoor

namespace Go.Proofs.YtlhaeeenkgkdaaaGreatDoor
open Go.Lib

theorem plain_ne {c : UInt8} (h : plainC c = true) : c ≠ 32 ∧ c ≠ 59 := by simpa [plainC] using h
theorem key_plain {k : ByteArray} (h : keyB k = true) : ∀ c ∈ keyT k, plainC c = true := by
 intro c hc
 simp only [keyB, Bool.and_eq_true] at h
 have := List.all_eq_true.1 h.2 c hc
 simp only [okc, Bool.and_eq_true, decide_eq_true_eq] at this
 have h1 : c ≠ 32 := fun e => by rw [e] at this; revert this; decide
 have h2 : c ≠ 59 := fun e => by rw [e] at this; revert this; decide
 simp [plainC, h1, h2]
theorem word_plain (k : Nat) : ∀ c ∈ word k, plainC c = true := by
 unfold word
 split <;> decide
theorem reg_plain (n : Int) : ∀ c ∈ reg n, plainC c = true := by
 intro c hc
 rcases List.mem_cons.1 hc with rfl | hc
 · decide
 · exact itoa_plain n c hc
theorem words_plain {R W : List ByteArray} {i : Ins} {behind : Int} (hR : wKeys R = 0) (hW : wKeys W = 0) (h : wIns R W i behind = 0) : ∀ x ∈ insWords i, ∀ c ∈ x, plainC c = true := by
 have hI := right_instr h
 have hk : i.kind = 1 ∨ i.kind = 6 ∨ i.kind = 7 → ∀ c ∈ keyT i.key, plainC c = true := fun e => by
   rcases e with e | e
   · exact key_plain (wKeys_key hR (has_iff.1 (hI.load e)))
   · exact key_plain (wKeys_key hW (has_iff.1 (hI.write e)))
 intro x hx
 unfold insWords at hx
 split at hx
 · rename_i e
   simp only [List.mem_cons, List.not_mem_nil, or_false] at hx
   rcases hx with rfl | rfl | rfl
   · exact word_plain _
   · exact reg_plain _
   · exact hk (.inl e)
 split at hx
 · simp only [List.mem_cons, List.not_mem_nil, or_false] at hx
   rcases hx with rfl | rfl | rfl
   · exact word_plain _
   · exact reg_plain _
   · exact itoa_plain _
 split at hx
 · simp only [List.mem_cons, List.not_mem_nil, or_false] at hx
   rcases hx with rfl | rfl | rfl
   · exact word_plain _
   · exact reg_plain _
   · exact reg_plain _
 split at hx
 · simp only [List.mem_cons, List.not_mem_nil, or_false] at hx
   rcases hx with rfl | rfl | rfl
   · exact word_plain _
   · exact reg_plain _
   · exact reg_plain _
 split at hx
 · simp only [List.mem_cons, List.not_mem_nil, or_false] at hx
   rcases hx with rfl | rfl | rfl
   · exact word_plain _
   · exact reg_plain _
   · exact reg_plain _
 split at hx
 · rename_i e
   simp only [List.mem_cons, List.not_mem_nil, or_false] at hx
   rcases hx with rfl | rfl | rfl
   · exact word_plain _
   · exact reg_plain _
   · exact hk (.inr (.inl e))
 split at hx
 · rename_i e
   simp only [List.mem_cons, List.not_mem_nil, or_false] at hx
   rcases hx with rfl | rfl
   · exact word_plain _
   · exact hk (.inr (.inr e))
 split at hx
 · simp only [List.mem_cons, List.not_mem_nil, or_false] at hx
   rcases hx with rfl | rfl | rfl
   · exact word_plain _
   · exact reg_plain _
   · exact itoa_plain _
 · simp only [List.mem_cons, List.not_mem_nil, or_false] at hx
   rcases hx with rfl | rfl
   · exact word_plain _
   · exact reg_plain _
theorem insWords_ne (i : Ins) : insWords i ≠ [] := by
 unfold insWords
 repeat' split
 all_goals simp
theorem code_print : ∀ (C : List Ins), (∀ i ∈ C, readIns (insWords i) = (0, i) ∧ ∀ x ∈ insWords i, ∀ c ∈ x, plainC c = true) → readCode ((C.map insWords).map join1) = (0, C)
 | [], _ => rfl
 | i :: C, h => by
   obtain ⟨h1, h2⟩ := h i (by simp)
   simp only [List.map_cons, readCode]
   rw [spl1_join1 _ (insWords_ne i) (fun x hx c hc => (plain_ne (h2 x hx c hc)).1), h1]
   simp only
   rw [code_print C (fun j hj => h j (by simp [hj]))]
   rfl

theorem digits_len : ∀ (k u : Nat), u < 10 ^ (k + 1) → (decDigits u).length ≤ k + 1
 | 0, u, h => by rw [decDigits, dif_pos (by simpa using h)]; simp
 | k + 1, u, h => by
   rw [decDigits]
   split
   · simp
   · have := digits_len k (u / 10) (by rw [Nat.pow_succ] at h; omega)
     simp; omega
theorem itoa_len {n : Int} (h0 : -1073741824 ≤ n) (h1 : n ≤ 1073741824) : (itoa n).length ≤ 11 := by
 unfold itoa
 split
 · have := digits_len 9 n.natAbs (by omega)
   simp; omega
 · have := digits_len 9 n.toNat (by omega)
   omega
theorem reg_len {a : Int} (h0 : 0 ≤ a) (h1 : a < 4) : (reg a).length ≤ 2 := by
 have : (itoa a).length ≤ 1 := by
   unfold itoa
   rw [if_neg (by omega)]
   exact digits_len 0 a.toNat (by omega)
 simp [reg]; omega
def lens (d : Nat) : List T → Nat
 | [] => 0
 | x :: l => x.length + d + lens d l
theorem join1_len : ∀ (l : List T), (join1 l).length ≤ lens 1 l
 | [] => by simp [join1]
 | [x] => by simp [join1, lens]
 | x :: y :: l => by
   have := join1_len (y :: l)
   rw [join1_cons x (by simp), lens]
   simp; omega
theorem join2_len : ∀ (l : List T), (join2 l).length ≤ lens 2 l
 | [] => by simp [join2]
 | [x] => by simp [join2, lens]
 | x :: y :: l => by
   have := join2_len (y :: l)
   rw [join2_cons x (by simp), lens]
   simp; omega
theorem lens_le {d m : Nat} : ∀ (l : List T), (∀ x ∈ l, x.length ≤ m) → lens d l ≤ l.length * (m + d)
 | [], _ => by simp [lens]
 | x :: l, h => by
   have h1 := h x (by simp)
   have h2 := lens_le (d := d) (m := m) l (fun y hy => h y (by simp [hy]))
   rw [lens, List.length_cons, Nat.succ_mul]; omega
theorem key_len {k : ByteArray} (h : keyB k = true) : (keyT k).length ≤ 6 := by
 simp only [keyB, Bool.and_eq_true, decide_eq_true_eq] at h
 have h6 := h.1.2
 have e : k.data.toList.length = k.size := by rw [Array.length_toList]; rfl
 show k.data.toList.length ≤ 6
 rw [e]; exact h6
theorem word_len (k : Nat) : (word k).length ≤ 5 := by
 unfold word
 split <;> decide
theorem ins_len {R W : List ByteArray} {i : Ins} {behind : Int} (hR : wKeys R = 0) (hW : wKeys W = 0) (hb : behind ≤ 12) (h : wIns R W i behind = 0) : (join1 (insWords i)).length ≤ 21 := by
 have hI := right_instr h
 have hN := right_norm hb h
 have hk : i.kind = 1 ∨ i.kind = 6 ∨ i.kind = 7 → (keyT i.key).length ≤ 6 := fun e => by
   rcases e with e | e
   · exact key_len (wKeys_key hR (has_iff.1 (hI.load e)))
   · exact key_len (wKeys_key hW (has_iff.1 (hI.write e)))
 have la := reg_len hI.a0 hI.a4
 have lb := reg_len hI.b0 hI.b4
 have ln := itoa_len hN.lo hN.hi
 have lw := word_len
 refine Nat.le_trans (join1_len _) ?_
 unfold insWords
 split
 · rename_i e
   have := hk (.inl e)
   have := lw 1
   simp only [lens]; omega
 split
 · have := lw 2
   simp only [lens]; omega
 split
 · have := lw 3
   simp only [lens]; omega
 split
 · have := lw 4
   simp only [lens]; omega
 split
 · have := lw 5
   simp only [lens]; omega
 split
 · rename_i e
   have := hk (.inr (.inl e))
   have := lw 6
   simp only [lens]; omega
 split
 · rename_i e
   have := hk (.inr (.inr e))
   have := lw 7
   simp only [lens]; omega
 split
 · have := lw 8
   simp only [lens]; omega
 · have := lw 9
   simp only [lens]; omega
theorem keys_len {R : List ByteArray} (h : wKeys R = 0) {w : T} (hw : w.length ≤ 6) : (join1 (w :: R.map keyT)).length ≤ 42 := by
 refine Nat.le_trans (join1_len _) ?_
 rw [lens]
 have h1 := lens_le (d := 1) (m := 6) (R.map keyT) (fun x hx => by
   obtain ⟨k, hk, rfl⟩ := List.mem_map.1 hx
   exact key_len (wKeys_key h hk))
 have h2 := wKeys_len h
 rw [List.length_map] at h1
 omega
theorem mem_right {R W : List ByteArray} {C : List Ins} (h : RightD R W C) {i : Ins} (hi : i ∈ C) : ∃ behind : Int, behind ≤ 12 ∧ wIns R W i behind = 0 := by
 obtain ⟨j, hj, rfl⟩ := List.getElem_of_mem hi
 have := h.i j hj
 have hc := h.c
 rw [show C.getD j default = C[j] from by simp [List.getD, hj]] at this
 exact ⟨_, by omega, this⟩
theorem print_len {R W : List ByteArray} {C : List Ins} (h : RightD R W C) : (printT R W C).length ≤ 400 := by
 unfold printT partsOf
 refine Nat.le_trans (join2_len _) ?_
 simp only [List.map_cons, lens]
 have h1 := keys_len h.r (w := wReads) (by decide)
 have h2 := keys_len h.w (w := wWrites) (by decide)
 have h3 := lens_le (d := 2) (m := 21) ((C.map insWords).map join1) (fun x hx => by
   rw [List.map_map] at hx
   obtain ⟨i, hi, rfl⟩ := List.mem_map.1 hx
   obtain ⟨b, hb, hw⟩ := mem_right h hi
   exact ins_len h.r h.w hb hw)
 have h4 := h.c
 simp only [List.length_map] at h3
 omega

theorem keys_words {R : List ByteArray} (h : wKeys R = 0) {w : T} (hw : ∀ c ∈ w, plainC c = true) : ∀ x ∈ w :: R.map keyT, ∀ c ∈ x, plainC c = true := by
 intro x hx
 rcases List.mem_cons.1 hx with rfl | hx
 · exact hw
 · obtain ⟨k, hk, rfl⟩ := List.mem_map.1 hx
   exact key_plain (wKeys_key h hk)
theorem read_print {R W : List ByteArray} {C : List Ins} (h : wDeed R W C = 0) : readT (printT R W C) = (0, R, W, C) := by
 have hR := right_deed h
 have hp : ∀ x ∈ (partsOf R W C).map join1, ∀ c ∈ x, c ≠ 59 := by
   intro x hx c hc
   obtain ⟨l, hl, rfl⟩ := List.mem_map.1 hx
   rcases join1_mem hc with rfl | ⟨y, hy, hcy⟩
   · decide
   · unfold partsOf at hl
     simp only [List.mem_cons] at hl
     rcases hl with rfl | rfl | hl
     · exact (plain_ne (keys_words hR.r (w := wReads) (by decide) y hy c hcy)).2
     · exact (plain_ne (keys_words hR.w (w := wWrites) (by decide) y hy c hcy)).2
     · obtain ⟨i, hi, rfl⟩ := List.mem_map.1 hl
       obtain ⟨b, hb, hw⟩ := mem_right hR hi
       exact (plain_ne (words_plain hR.r hR.w hw y hy c hcy)).2
 have hlen := print_len hR
 unfold readT
 rw [if_neg (by omega)]
 have hs : spl2 [] (printT R W C) = (partsOf R W C).map join1 := spl2_join2 _ (by simp [partsOf]) hp
 rw [hs]
 unfold partsOf
 simp only [List.map_cons]
 rw [spl1_join1 (wReads :: R.map keyT) (by simp) (fun x hx c hc => (plain_ne (keys_words hR.r (w := wReads) (by decide) x hx c hc)).1)]
 rw [spl1_join1 (wWrites :: W.map keyT) (by simp) (fun x hx c hc => (plain_ne (keys_words hR.w (w := wWrites) (by decide) x hx c hc)).1)]
 rw [code_print C (fun i hi => by
   obtain ⟨b, hb, hw⟩ := mem_right hR hi
   exact ⟨read_words hb hw, words_plain hR.r hR.w hw⟩)]
 have e0 : (ofT ∘ keyT) = id := by funext t; exact ofT_keyT t
 simp [e0, h]
end Go.Proofs.YtlhaeeenkgkdaaaGreatDoor

namespace Go.Proofs.YtlhaeeenkgkdaaaGreatDoor
open Go.Lib

def shapeT (k : Nat) : T := match k with
 | 1 => [108, 111, 97, 100, 32, 114, 65, 32, 107, 101, 121]
 | 2 => [99, 111, 110, 115, 116, 32, 114, 65, 32, 110]
 | 3 => [97, 100, 100, 32, 114, 65, 32, 114, 66]
 | 4 => [115, 117, 98, 32, 114, 65, 32, 114, 66]
 | 5 => [109, 117, 108, 32, 114, 65, 32, 114, 66]
 | 6 => [115, 116, 111, 114, 101, 32, 114, 65, 32, 107, 101, 121]
 | 7 => [100, 114, 111, 112, 32, 107, 101, 121]
 | 8 => [115, 107, 105, 112, 32, 114, 65, 32, 110]
 | 9 => [102, 97, 105, 108, 32, 114, 65]
 | _ => []
def pA : T := [114, 65]
def pB : T := [114, 66]
def pN : T := [110]
def pK : T := [107, 101, 121]
def placesT (k : Nat) : List T := spl1 [] (shapeT k)
theorem placesT_1 : placesT 1 = [word 1, pA, pK] := by decide
theorem placesT_2 : placesT 2 = [word 2, pA, pN] := by decide
theorem placesT_3 : placesT 3 = [word 3, pA, pB] := by decide
theorem placesT_4 : placesT 4 = [word 4, pA, pB] := by decide
theorem placesT_5 : placesT 5 = [word 5, pA, pB] := by decide
theorem placesT_6 : placesT 6 = [word 6, pA, pK] := by decide
theorem placesT_7 : placesT 7 = [word 7, pK] := by decide
theorem placesT_8 : placesT 8 = [word 8, pA, pN] := by decide
theorem placesT_9 : placesT 9 = [word 9, pA] := by decide
theorem word_plainP (k : Nat) : word k ≠ pA ∧ word k ≠ pB ∧ word k ≠ pN ∧ word k ≠ pK := by
 unfold word; split <;> decide
def fillStep (p w : T) (i : Ins) : Option Ins :=
 if p = pA then (regOf w).map fun x => (i.kind, x, i.b, i.n, i.key)
 else if p = pB then (regOf w).map fun x => (i.kind, i.a, x, i.n, i.key)
 else if p = pN then (numOf w).map fun x => (i.kind, i.a, i.b, x, i.key)
 else if p = pK then some (i.kind, i.a, i.b, i.n, ofT w)
 else some i
def fillG : List T → List T → Ins → Option Ins
 | p :: ps, w :: ws, i => (fillStep p w i).bind (fillG ps ws)
 | _, _, i => some i
def ins0 (k : Nat) : Ins := ((k : Int), 0, 0, 0, ⟨#[]⟩)
def fillR (k : Nat) (l : List T) : Int × Ins :=
 if l.length ≠ (placesT k).length then (2, default)
 else match fillG (placesT k) l (ins0 k) with
   | some i => (0, i)
   | none => (2, default)
theorem fillStep_A (w : T) (i : Ins) : fillStep pA w i = (regOf w).map fun x => (i.kind, x, i.b, i.n, i.key) := rfl
theorem fillStep_B (w : T) (i : Ins) : fillStep pB w i = (regOf w).map fun x => (i.kind, i.a, x, i.n, i.key) := rfl
theorem fillStep_N (w : T) (i : Ins) : fillStep pN w i = (numOf w).map fun x => (i.kind, i.a, i.b, x, i.key) := rfl
theorem fillStep_K (w : T) (i : Ins) : fillStep pK w i = some (i.kind, i.a, i.b, i.n, ofT w) := rfl
theorem fillStep_word (k : Nat) (w : T) (i : Ins) : fillStep (word k) w i = some i := by
 obtain ⟨h1, h2, h3, h4⟩ := word_plainP k
 unfold fillStep; rw [if_neg h1, if_neg h2, if_neg h3, if_neg h4]
theorem read_fill {l : List T} {k : Nat} (hk : kindOf (l.headD []) = k) (h1 : 1 ≤ k) (h9 : k ≤ 9) : readIns l = fillR k l := by
 have : k = 1 ∨ k = 2 ∨ k = 3 ∨ k = 4 ∨ k = 5 ∨ k = 6 ∨ k = 7 ∨ k = 8 ∨ k = 9 := by omega
 unfold readIns fillR
 rw [hk]
 rcases this with rfl | rfl | rfl | rfl | rfl | rfl | rfl | rfl | rfl
 · rw [placesT_1]
   rcases l with _ | ⟨x, _ | ⟨y, _ | ⟨z, _ | ⟨u, l⟩⟩⟩⟩ <;> simp [fillG, fillStep_word, fillStep_A, fillStep_K, ins0]
   cases regOf y <;> simp [Ins.kind, Ins.b, Ins.n]
 · rw [placesT_2]
   rcases l with _ | ⟨x, _ | ⟨y, _ | ⟨z, _ | ⟨u, l⟩⟩⟩⟩ <;> simp [fillG, fillStep_word, fillStep_A, fillStep_N, ins0]
   cases regOf y <;> simp [Ins.kind, Ins.b, Ins.n]
   cases numOf z <;> simp [Ins.a, Ins.key]
 · rw [placesT_3]
   rcases l with _ | ⟨x, _ | ⟨y, _ | ⟨z, _ | ⟨u, l⟩⟩⟩⟩ <;> simp [fillG, fillStep_word, fillStep_A, fillStep_B, ins0]
   cases regOf y <;> simp [Ins.kind, Ins.b, Ins.n]
   cases regOf z <;> simp [Ins.a, Ins.key]
 · rw [placesT_4]
   rcases l with _ | ⟨x, _ | ⟨y, _ | ⟨z, _ | ⟨u, l⟩⟩⟩⟩ <;> simp [fillG, fillStep_word, fillStep_A, fillStep_B, ins0]
   cases regOf y <;> simp [Ins.kind, Ins.b, Ins.n]
   cases regOf z <;> simp [Ins.a, Ins.key]
 · rw [placesT_5]
   rcases l with _ | ⟨x, _ | ⟨y, _ | ⟨z, _ | ⟨u, l⟩⟩⟩⟩ <;> simp [fillG, fillStep_word, fillStep_A, fillStep_B, ins0]
   cases regOf y <;> simp [Ins.kind, Ins.b, Ins.n]
   cases regOf z <;> simp [Ins.a, Ins.key]
 · rw [placesT_6]
   rcases l with _ | ⟨x, _ | ⟨y, _ | ⟨z, _ | ⟨u, l⟩⟩⟩⟩ <;> simp [fillG, fillStep_word, fillStep_A, fillStep_K, ins0]
   cases regOf y <;> simp [Ins.kind, Ins.b, Ins.n]
 · rw [placesT_7]
   rcases l with _ | ⟨x, _ | ⟨y, _ | ⟨z, l⟩⟩⟩ <;> simp [fillG, fillStep_word, fillStep_K, ins0]
 · rw [placesT_8]
   rcases l with _ | ⟨x, _ | ⟨y, _ | ⟨z, _ | ⟨u, l⟩⟩⟩⟩ <;> simp [fillG, fillStep_word, fillStep_A, fillStep_N, ins0]
   cases regOf y <;> simp [Ins.kind, Ins.b, Ins.n]
   cases numOf z <;> simp [Ins.a, Ins.key]
 · rw [placesT_9]
   rcases l with _ | ⟨x, _ | ⟨y, _ | ⟨z, l⟩⟩⟩ <;> simp [fillG, fillStep_word, fillStep_A, ins0]
   cases regOf y <;> simp [Ins.kind, Ins.b, Ins.n]
theorem read_none {l : List T} (hk : kindOf (l.headD []) = 0) : readIns l = (1, default) := by
 unfold readIns; rw [hk]; rfl
end Go.Proofs.YtlhaeeenkgkdaaaGreatDoor

namespace Go.Proofs.YtlhaeeenkgkdaaaGreatDoor
open Go.RowKit

theorem take_snoc (s : ByteArray) (k : Nat) (h : k < s.size) : s.data.toList.take (k + 1) = s.data.toList.take k ++ [s[k]] := by
 rw [List.take_succ_eq_append_getElem (by simpa using h)]; rfl
theorem all_snoc (l : List UInt8) (c : UInt8) : (l ++ [c]).all okc = (l.all okc && okc c) := by simp
theorem ret_bool {a b : Bool} (h : a = b) : Ending.returned (.bool a) = .returned (.bool b) := by rw [h]
theorem all_take {l : List UInt8} {k : Nat} (h : (l.take k).all okc = false) : l.all okc = false := by
 rw [← List.take_append_drop k l, List.all_append, h]; rfl

theorem key_bad (s : ByteArray) (k : Nat) (hlt : k < s.size) (HK : Hid (keyB s = s.data.toList.all okc)) (HS : Hid ((s.data.toList.take (k + 1)).all okc = okc s[k]))
   (h : (s[k].toNat : Int) < 97 ∨ 122 < (s[k].toNat : Int)) : keyB s = false := by
 have ho : okc s[k] = false := by simp [okc]; omega
 rw [HK.out]; exact all_take (k := k + 1) (by rw [HS.out, ho])
theorem key_good (s : ByteArray) (k : Nat) (hlt : k < s.size) (HS : Hid ((s.data.toList.take (k + 1)).all okc = okc s[k]))
   (h1 : 97 ≤ (s[k].toNat : Int)) (h2 : (s[k].toNat : Int) ≤ 122) : Hid ((s.data.toList.take (k + 1)).all okc = true) := by
 show _ = _
 rw [HS.out]; simp [okc]; omega

set_option maxHeartbeats 400000 in
theorem key_calls (s : ByteArray) (w : World) (hs : s.size ≤ maxLen) :
   Calls Tryz.prog 108 #[.string s] w fun e w' => e = .returned (.bool (keyB s)) ∧ w = w' := by
 unfold maxLen at hs
 by_cases h1 : s.size < 1
 · have hb : Hid (keyB s = false) := by show _ = _; simp [keyB]; omega
   go_enter Tryz.func108, Tryz.ntmps108
   go_wp2
   go_ret
   exact ⟨ret_bool hb.out.symm, rfl⟩
 by_cases h2 : s.size > 6
 · have hb : Hid (keyB s = false) := by show _ = _; simp [keyB]; omega
   go_enter Tryz.func108, Tryz.ntmps108
   go_wp2
   go_ret
   exact ⟨ret_bool hb.out.symm, rfl⟩
 have hk : keyB s = s.data.toList.all okc := by simp [keyB]; omega
 have HK : Hid (keyB s = s.data.toList.all okc) := hk
 clear hk
 go_enter Tryz.func108, Tryz.ntmps108
 go_wp2
 go_loop [14] (fun i => ∃ k : Nat, k ≤ s.size ∧ i = .int .i64 k ∧ Hid ((s.data.toList.take k).all okc = true)) (fun i => s.size - (intOf i).toNat)
 case atStart => exact ⟨0, Nat.zero_le _, rfl, rfl⟩
 case round =>
   obtain ⟨k, hk, rfl, HA⟩ := hrel
   by_cases hlt : k < s.size
   · have HS : Hid ((s.data.toList.take (k + 1)).all okc = okc s[k]) := by
       show _ = _
       rw [take_snoc s k hlt, all_snoc, HA.out]; rfl
     go_wp2
     · go_ret
       exact ⟨ret_bool (key_bad s k hlt HK HS (.inr (by omega))).symm, rfl⟩
     · go_round
       case rel => exact ⟨k + 1, by omega, by go_num, key_good s k hlt HS (by omega) (by omega)⟩
       case measure => simp [intOf]; omega
     · go_ret
       exact ⟨ret_bool (key_bad s k hlt HK HS (.inl (by omega))).symm, rfl⟩
   · go_wp2
     go_ret
     exact ⟨ret_bool (by rw [HK.out, ← HA.out, List.take_of_length_le (by simp; omega)]), rfl⟩

theorem keyB_off (s : ByteArray) (h : s.data.toList.all okc = false) : keyB s = false := by simp [keyB, h]

set_option maxHeartbeats 400000 in
theorem refKey_calls (s : ByteArray) (w : World) (hs : s.size ≤ maxLen) :
   Calls Tryz.prog 34 #[.string s] w fun e w' => e = .returned (.bool (keyB s)) ∧ w = w' := by
 unfold maxLen at hs
 go_enter Tryz.func34, Tryz.ntmps34
 go_wp2
 go_loop [6] (fun i => ∃ k : Nat, k ≤ s.size ∧ i = .int .i64 k ∧ Hid ((s.data.toList.take k).all okc = true)) (fun i => s.size - (intOf i).toNat)
 case atStart => exact ⟨0, Nat.zero_le _, rfl, rfl⟩
 case round =>
   obtain ⟨k, hk, rfl, HA⟩ := hrel
   by_cases hlt : k < s.size
   · have HS : Hid ((s.data.toList.take (k + 1)).all okc = okc s[k]) := by
       show _ = _
       rw [take_snoc s k hlt, all_snoc, HA.out]; rfl
     go_wp2
     · go_ret
       exact ⟨ret_bool (keyB_off s (all_take (k := k + 1) (by rw [HS.out]; simp [okc]; omega))).symm, rfl⟩
     · go_round
       case rel => exact ⟨k + 1, by omega, by go_num, key_good s k hlt HS (by omega) (by omega)⟩
       case measure => simp [intOf]; omega
     · go_ret
       exact ⟨ret_bool (keyB_off s (all_take (k := k + 1) (by rw [HS.out]; simp [okc]; omega))).symm, rfl⟩
   · have HF : Hid (s.data.toList.all okc = true) := by
       show _ = _
       rw [← HA.out, List.take_of_length_le (by simp; omega)]
     go_wp2
     all_goals
       go_ret
       exact ⟨ret_bool (by rw [keyB, HF.out, Bool.eq_iff_iff]; simp; omega), rfl⟩

theorem round_calls (n : Int) (w : World)  :
   Calls Tryz.prog 103 #[.int .i64 n] w fun e w' => e = .returned (.int .i64 (n.tmod 1073741825)) ∧ w = w' := by
 go_enter Tryz.func103, Tryz.ntmps103
 go_wp2
 go_ret
 exact ⟨rfl, rfl⟩
theorem ret_int {k : IntKind} {a b : Int} (h : a = b) : Ending.returned (.int k a) = .returned (.int k b) := by rw [h]
theorem tmod_big (n : Int) : -1073741825 < n.tmod 1073741825 ∧ n.tmod 1073741825 < 1073741825 := by
 by_cases h : 0 ≤ n
 · rw [Int.tmod_eq_emod_of_nonneg h]; omega
 · have e : n.tmod 1073741825 = -((-n).tmod 1073741825) := by rw [Int.neg_tmod]; omega
   rw [e, Int.tmod_eq_emod_of_nonneg (by omega)]; omega
theorem round_num (n : Int) : wrap64 (n - wrap64 (wrap64 (n.tdiv 1073741825) * 1073741825)) = n.tmod 1073741825 := by
 have h := Int.mul_tdiv_add_tmod n 1073741825
 have hb := tmod_big n
 generalize n.tdiv 1073741825 = q at *
 generalize n.tmod 1073741825 = r at *
 unfold wrap64
 omega
theorem refRound_calls (n : Int) (w : World) :
   Calls Tryz.prog 71 #[.int .i64 n] w fun e w' => e = .returned (.int .i64 (n.tmod 1073741825)) ∧ w = w' := by
 go_enter Tryz.func71, Tryz.ntmps71
 go_wp2
 go_ret
 exact ⟨ret_int (round_num n), rfl⟩
end Go.Proofs.YtlhaeeenkgkdaaaGreatDoor

namespace Go.Proofs.YtlhaeeenkgkdaaaGreatDoor
open Go.RowKit

theorem hid {p : Prop} (h : p) : Hid p := h

def Cells (w : World) (b off : Nat) (l : List Row) : Prop :=
 ∀ i, i < l.length → w.cell? ⟨b, off + i * 2, none⟩ = some (.string (l.getD i default).1) ∧ w.cell? ⟨b, off + i * 2 + 1, none⟩ = some (.int .i64 (l.getD i default).2)

def Seg (w : World) (base : Option Addr) (l : List Row) : Prop :=
 l = [] ∨ ∃ b off, base = some ⟨b, off, none⟩ ∧ Cells w b off l

def Small (l : List Row) : Prop := ∀ x ∈ l, x.1.size ≤ maxLen

theorem Cells.lt {w : World} {b off : Nat} {l : List Row} (h : Cells w b off l) (hl : 0 < l.length) : b < w.heap.size := by
 have := (h 0 hl).1
 simpa using World.block_lt_of_cell? _ _ this

theorem Cells.below {w w' : World} {b off B : Nat} {l : List Row} (h : Cells w b off l) (hb : Below B w w') (hB : b < B) : Cells w' b off l := fun i hi => by
 rw [hb.cell (p := ⟨b, off + i * 2, none⟩) hB, hb.cell (p := ⟨b, off + i * 2 + 1, none⟩) hB]
 exact h i hi

theorem Seg.below {w w' : World} {base : Option Addr} {l : List Row} (h : Seg w base l) (hb : Below w.heap.size w w') : Seg w' base l := by
 rcases h with h | ⟨b, off, e, hc⟩
 · exact .inl h
 · by_cases hl : 0 < l.length
   · exact .inr ⟨b, off, e, hc.below hb (hc.lt hl)⟩
   · exact .inl (List.eq_nil_of_length_eq_zero (by omega))

theorem small_getD {l : List Row} (h : Small l) {i : Nat} (hi : i < l.length) : (l.getD i default).1.size ≤ maxLen := h _ (mem_getD hi)

end Go.Proofs.YtlhaeeenkgkdaaaGreatDoor

namespace Go.Proofs.YtlhaeeenkgkdaaaGreatDoor
open Go.RowKit

theorem cell_box (w : World) (v : Value) (t : TypeId) : (w.alloc (.cells #[v] t)).cell? ⟨w.heap.size, 0, none⟩ = some v := by
 rw [World.cell?_alloc_at _ _ _ _ (by simp)]; rfl
theorem cell_past {w : World} {b x : Nat} {v : Value} (o : Obj) (h : w.cell? ⟨b, x, none⟩ = some v) : (w.alloc o).cell? ⟨b, x, none⟩ = some v := by
 have hb := World.block_lt_of_cell? _ _ h
 rw [World.cell?_alloc_past _ _ _ hb]; exact h
theorem cell_drewN {w : World} {a : Addr} {v : Value} (q : Nat) (h : w.cell? a = some v) : (w.drewN q).cell? a = some v := h

end Go.Proofs.YtlhaeeenkgkdaaaGreatDoor

namespace Go.Proofs.YtlhaeeenkgkdaaaGreatDoor
open Go.RowKit

structure Hdr (base : Option Addr) (n c : Nat) : Prop where
 le : n ≤ c
 max : c ≤ maxLen
 nil : base = none → c = 0

structure Holds (w : World) (base : Option Addr) (n c : Nat) (l : List Row) : Prop where
 len : n = l.length
 seg : Seg w base l
 hdr : Hdr base n c

theorem Holds.below {w w' : World} {base : Option Addr} {n c : Nat} {l : List Row} (h : Holds w base n c l) (hb : Below w.heap.size w w') : Holds w' base n c l := ⟨h.len, h.seg.below hb, h.hdr⟩
theorem Holds.empty (w : World) {base : Option Addr} {n c : Nat} {l : List Row} (hl : n = l.length) (h : n = 0) (hh : Hdr base n c) : Holds w base n c l := ⟨hl, .inl (List.eq_nil_of_length_eq_zero (by omega)), hh⟩
theorem Holds.cells {w : World} {b o n c : Nat} {l : List Row} (hl : n = l.length) (h : Cells w b o l) (h1 : n ≤ c) (h2 : c ≤ maxLen) : Holds w (some ⟨b, o, none⟩) n c l := ⟨hl, .inr ⟨b, o, rfl, h⟩, ⟨h1, h2, fun h => by cases h⟩⟩

end Go.Proofs.YtlhaeeenkgkdaaaGreatDoor
