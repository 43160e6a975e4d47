/-
  A right deed's text is read as that deed, and is no longer than may be.
  The table of how instructions are written: its places filled are an instruction's words, and words held against it are that instruction, or none.
  Key of the program and of the document's answer tell the same keys; Round tells what is left.
  What it means that a slice in memory holds rows, and that this stands while other memory grows.
  find of the program: the place of a key in rows that rise, and whether it is there; so around and Get.
  around and Get of the program, of rows that rise.
  slices.Concat over rows: the rows one behind the other, in new memory.
-/
import Derived.Test.YthmkgfdglkdjmadGreatDoorTextTurn
import Derived.Test.YthmkgfdglkdjmadGreatDoorChecked
import Derived.Test.YthmkgfdglkdjmadGreatDoorDeedMath
import Derived.WalkKit
import Derived.WalkSpells
import Derived.WalkLawsBesides
import Derived.Below
import Derived.LoopTactic
import Derived.Outline
import Derived.BigQuiet
import Derived.Deep.QuietTactic
import Derived.OwnWalk
import Derived.Lib.AppendZerosOnto
import Derived.Laws.AppendOwn
namespace Go.Proofs.YthmkgfdglkdjmadGreatDoor
open Go.Lib

/-! ### How long it is -/
theorem digits_len : ∀ (k u : Nat), u < 10 ^ (k + 1) → (decDigits u).length ≤ k + 1
  | 0, u, h => by rw [decDigits, dif_pos (by simpa using h)]; simp
  | k + 1, u, h => by
    rw [decDigits]
    split
    · simp
    · have := digits_len k (u / 10) (by rw [Nat.pow_succ] at h; omega)
      simp; omega
theorem itoa_len {n : Int} (h0 : -1073741824 ≤ n) (h1 : n ≤ 1073741824) : (itoa n).length ≤ 11 := by
  unfold itoa
  split
  · have := digits_len 9 n.natAbs (by omega)
    simp; omega
  · have := digits_len 9 n.toNat (by omega)
    omega
theorem reg_len {a : Int} (h0 : 0 ≤ a) (h1 : a < 4) : (reg a).length ≤ 2 := by
  have : (itoa a).length ≤ 1 := by
    unfold itoa
    rw [if_neg (by omega)]
    exact digits_len 0 a.toNat (by omega)
  simp [reg]; omega
/-- How long words are together, with one sign more each. -/
def lens (d : Nat) : List T → Nat
  | [] => 0
  | x :: l => x.length + d + lens d l
theorem join1_len : ∀ (l : List T), (join1 l).length ≤ lens 1 l
  | [] => by simp [join1]
  | [x] => by simp [join1, lens]
  | x :: y :: l => by
    have := join1_len (y :: l)
    rw [join1_cons x (by simp), lens]
    simp; omega
theorem join2_len : ∀ (l : List T), (join2 l).length ≤ lens 2 l
  | [] => by simp [join2]
  | [x] => by simp [join2, lens]
  | x :: y :: l => by
    have := join2_len (y :: l)
    rw [join2_cons x (by simp), lens]
    simp; omega
theorem lens_le {d m : Nat} : ∀ (l : List T), (∀ x ∈ l, x.length ≤ m) → lens d l ≤ l.length * (m + d)
  | [], _ => by simp [lens]
  | x :: l, h => by
    have h1 := h x (by simp)
    have h2 := lens_le (d := d) (m := m) l (fun y hy => h y (by simp [hy]))
    rw [lens, List.length_cons, Nat.succ_mul]; omega
theorem key_len {k : ByteArray} (h : keyB k = true) : (keyT k).length ≤ 6 := by
  simp only [keyB, Bool.and_eq_true, decide_eq_true_eq] at h
  have h6 := h.1.2
  have e : k.data.toList.length = k.size := by rw [Array.length_toList]; rfl
  show k.data.toList.length ≤ 6
  rw [e]; exact h6
theorem word_len (k : Nat) : (word k).length ≤ 5 := by
  unfold word
  split <;> decide
theorem ins_len {R W : List ByteArray} {i : Ins} {behind : Int} (hR : wKeys R = 0) (hW : wKeys W = 0) (hb : behind ≤ 12) (h : wIns R W i behind = 0) : (join1 (insWords i)).length ≤ 21 := by
  have hI := right_instr h
  have hN := right_norm hb h
  have hk : i.kind = 1 ∨ i.kind = 6 ∨ i.kind = 7 → (keyT i.key).length ≤ 6 := fun e => by
    rcases e with e | e
    · exact key_len (wKeys_key hR (has_iff.1 (hI.load e)))
    · exact key_len (wKeys_key hW (has_iff.1 (hI.write e)))
  have la := reg_len hI.a0 hI.a4
  have lb := reg_len hI.b0 hI.b4
  have ln := itoa_len hN.lo hN.hi
  have lw := word_len
  refine Nat.le_trans (join1_len _) ?_
  unfold insWords
  split
  · rename_i e
    have := hk (.inl e)
    have := lw 1
    simp only [lens]; omega
  split
  · have := lw 2
    simp only [lens]; omega
  split
  · have := lw 3
    simp only [lens]; omega
  split
  · have := lw 4
    simp only [lens]; omega
  split
  · have := lw 5
    simp only [lens]; omega
  split
  · rename_i e
    have := hk (.inr (.inl e))
    have := lw 6
    simp only [lens]; omega
  split
  · rename_i e
    have := hk (.inr (.inr e))
    have := lw 7
    simp only [lens]; omega
  split
  · have := lw 8
    simp only [lens]; omega
  · have := lw 9
    simp only [lens]; omega
theorem keys_len {R : List ByteArray} (h : wKeys R = 0) {w : T} (hw : w.length ≤ 6) : (join1 (w :: R.map keyT)).length ≤ 42 := by
  refine Nat.le_trans (join1_len _) ?_
  rw [lens]
  have h1 := lens_le (d := 1) (m := 6) (R.map keyT) (fun x hx => by
    obtain ⟨k, hk, rfl⟩ := List.mem_map.1 hx
    exact key_len (wKeys_key h hk))
  have h2 := wKeys_len h
  rw [List.length_map] at h1
  omega
theorem mem_right {R W : List ByteArray} {C : List Ins} (h : RightD R W C) {i : Ins} (hi : i ∈ C) : ∃ behind : Int, behind ≤ 12 ∧ wIns R W i behind = 0 := by
  obtain ⟨j, hj, rfl⟩ := List.getElem_of_mem hi
  have := h.i j hj
  have hc := h.c
  rw [show C.getD j default = C[j] from by simp [List.getD, hj]] at this
  exact ⟨_, by omega, this⟩
theorem print_len {R W : List ByteArray} {C : List Ins} (h : RightD R W C) : (printT R W C).length ≤ 400 := by
  unfold printT partsOf
  refine Nat.le_trans (join2_len _) ?_
  simp only [List.map_cons, lens]
  have h1 := keys_len h.r (w := wReads) (by decide)
  have h2 := keys_len h.w (w := wWrites) (by decide)
  have h3 := lens_le (d := 2) (m := 21) ((C.map insWords).map join1) (fun x hx => by
    rw [List.map_map] at hx
    obtain ⟨i, hi, rfl⟩ := List.mem_map.1 hx
    obtain ⟨b, hb, hw⟩ := mem_right h hi
    exact ins_len h.r h.w hb hw)
  have h4 := h.c
  simp only [List.length_map] at h3
  omega

/-! ### Read again -/
end Go.Proofs.YthmkgfdglkdjmadGreatDoor

namespace Go.Proofs.YthmkgfdglkdjmadGreatDoor
open Go.Lib

/-- How an instruction of a kind is written. -/
def shapeT (k : Nat) : T := match k with
  | 1 => [108, 111, 97, 100, 32, 114, 65, 32, 107, 101, 121]
  | 2 => [99, 111, 110, 115, 116, 32, 114, 65, 32, 110]
  | 3 => [97, 100, 100, 32, 114, 65, 32, 114, 66]
  | 4 => [115, 117, 98, 32, 114, 65, 32, 114, 66]
  | 5 => [109, 117, 108, 32, 114, 65, 32, 114, 66]
  | 6 => [115, 116, 111, 114, 101, 32, 114, 65, 32, 107, 101, 121]
  | 7 => [100, 114, 111, 112, 32, 107, 101, 121]
  | 8 => [115, 107, 105, 112, 32, 114, 65, 32, 110]
  | 9 => [102, 97, 105, 108, 32, 114, 65]
  | _ => []
def pA : T := [114, 65]
def pB : T := [114, 66]
def pN : T := [110]
def pK : T := [107, 101, 121]
def placesT (k : Nat) : List T := spl1 [] (shapeT k)
theorem placesT_1 : placesT 1 = [word 1, pA, pK] := by decide
theorem placesT_2 : placesT 2 = [word 2, pA, pN] := by decide
theorem placesT_3 : placesT 3 = [word 3, pA, pB] := by decide
theorem placesT_4 : placesT 4 = [word 4, pA, pB] := by decide
theorem placesT_5 : placesT 5 = [word 5, pA, pB] := by decide
theorem placesT_6 : placesT 6 = [word 6, pA, pK] := by decide
theorem placesT_7 : placesT 7 = [word 7, pK] := by decide
theorem placesT_8 : placesT 8 = [word 8, pA, pN] := by decide
theorem placesT_9 : placesT 9 = [word 9, pA] := by decide
theorem placesT_head {k : Nat} (h1 : 1 ≤ k) (h9 : k ≤ 9) : ∃ r, placesT k = word k :: r := by
  have : k = 1 ∨ k = 2 ∨ k = 3 ∨ k = 4 ∨ k = 5 ∨ k = 6 ∨ k = 7 ∨ k = 8 ∨ k = 9 := by omega
  rcases this with rfl | rfl | rfl | rfl | rfl | rfl | rfl | rfl | rfl
  · exact ⟨_, placesT_1⟩
  · exact ⟨_, placesT_2⟩
  · exact ⟨_, placesT_3⟩
  · exact ⟨_, placesT_4⟩
  · exact ⟨_, placesT_5⟩
  · exact ⟨_, placesT_6⟩
  · exact ⟨_, placesT_7⟩
  · exact ⟨_, placesT_8⟩
  · exact ⟨_, placesT_9⟩

/-! ### Written -/
def fillP (i : Ins) (p : T) : T := if p = pA then reg i.a else if p = pB then reg i.b else if p = pN then itoa i.n else if p = pK then keyT i.key else p
theorem fillP_A (i : Ins) : fillP i pA = reg i.a := rfl
theorem fillP_B (i : Ins) : fillP i pB = reg i.b := rfl
theorem fillP_N (i : Ins) : fillP i pN = itoa i.n := rfl
theorem fillP_K (i : Ins) : fillP i pK = keyT i.key := rfl
theorem word_plainP (k : Nat) : word k ≠ pA ∧ word k ≠ pB ∧ word k ≠ pN ∧ word k ≠ pK := by
  unfold word; split <;> decide
theorem fillP_word (i : Ins) (k : Nat) : fillP i (word k) = word k := by
  obtain ⟨h1, h2, h3, h4⟩ := word_plainP k
  unfold fillP; rw [if_neg h1, if_neg h2, if_neg h3, if_neg h4]
theorem fill_words (i : Ins) {k : Nat} (hk : i.kind = (k : Int)) (h1 : 1 ≤ k) (h9 : k ≤ 9) : (placesT k).map (fillP i) = insWords i := by
  have : k = 1 ∨ k = 2 ∨ k = 3 ∨ k = 4 ∨ k = 5 ∨ k = 6 ∨ k = 7 ∨ k = 8 ∨ k = 9 := by omega
  unfold insWords
  rcases this with rfl | rfl | rfl | rfl | rfl | rfl | rfl | rfl | rfl <;> rw [hk]
  · rw [placesT_1]; simp [fillP_A, fillP_K, fillP_word]
  · rw [placesT_2]; simp [fillP_A, fillP_N, fillP_word]
  · rw [placesT_3]; simp [fillP_A, fillP_B, fillP_word]
  · rw [placesT_4]; simp [fillP_A, fillP_B, fillP_word]
  · rw [placesT_5]; simp [fillP_A, fillP_B, fillP_word]
  · rw [placesT_6]; simp [fillP_A, fillP_K, fillP_word]
  · rw [placesT_7]; simp [fillP_K, fillP_word]
  · rw [placesT_8]; simp [fillP_A, fillP_N, fillP_word]
  · rw [placesT_9]; simp [fillP_A, fillP_word]

/-! ### Read -/
def fillStep (p w : T) (i : Ins) : Option Ins :=
  if p = pA then (regOf w).map fun x => (i.kind, x, i.b, i.n, i.key)
  else if p = pB then (regOf w).map fun x => (i.kind, i.a, x, i.n, i.key)
  else if p = pN then (numOf w).map fun x => (i.kind, i.a, i.b, x, i.key)
  else if p = pK then some (i.kind, i.a, i.b, i.n, ofT w)
  else some i
def fillG : List T → List T → Ins → Option Ins
  | p :: ps, w :: ws, i => (fillStep p w i).bind (fillG ps ws)
  | _, _, i => some i
def ins0 (k : Nat) : Ins := ((k : Int), 0, 0, 0, ⟨#[]⟩)
/-- What the words behind a kind's own word are. -/
def fillR (k : Nat) (l : List T) : Int × Ins :=
  if l.length ≠ (placesT k).length then (2, default)
  else match fillG (placesT k) l (ins0 k) with
    | some i => (0, i)
    | none => (2, default)
theorem fillStep_A (w : T) (i : Ins) : fillStep pA w i = (regOf w).map fun x => (i.kind, x, i.b, i.n, i.key) := rfl
theorem fillStep_B (w : T) (i : Ins) : fillStep pB w i = (regOf w).map fun x => (i.kind, i.a, x, i.n, i.key) := rfl
theorem fillStep_N (w : T) (i : Ins) : fillStep pN w i = (numOf w).map fun x => (i.kind, i.a, i.b, x, i.key) := rfl
theorem fillStep_K (w : T) (i : Ins) : fillStep pK w i = some (i.kind, i.a, i.b, i.n, ofT w) := rfl
theorem fillStep_word (k : Nat) (w : T) (i : Ins) : fillStep (word k) w i = some i := by
  obtain ⟨h1, h2, h3, h4⟩ := word_plainP k
  unfold fillStep; rw [if_neg h1, if_neg h2, if_neg h3, if_neg h4]
theorem read_fill {l : List T} {k : Nat} (hk : kindOf (l.headD []) = k) (h1 : 1 ≤ k) (h9 : k ≤ 9) : readIns l = fillR k l := by
  have : k = 1 ∨ k = 2 ∨ k = 3 ∨ k = 4 ∨ k = 5 ∨ k = 6 ∨ k = 7 ∨ k = 8 ∨ k = 9 := by omega
  unfold readIns fillR
  rw [hk]
  rcases this with rfl | rfl | rfl | rfl | rfl | rfl | rfl | rfl | rfl
  · rw [placesT_1]
    rcases l with _ | ⟨x, _ | ⟨y, _ | ⟨z, _ | ⟨u, l⟩⟩⟩⟩ <;> simp [fillG, fillStep_word, fillStep_A, fillStep_K, ins0]
    cases regOf y <;> simp [Ins.kind, Ins.b, Ins.n]
  · rw [placesT_2]
    rcases l with _ | ⟨x, _ | ⟨y, _ | ⟨z, _ | ⟨u, l⟩⟩⟩⟩ <;> simp [fillG, fillStep_word, fillStep_A, fillStep_N, ins0]
    cases regOf y <;> simp [Ins.kind, Ins.b, Ins.n]
    cases numOf z <;> simp [Ins.a, Ins.key]
  · rw [placesT_3]
    rcases l with _ | ⟨x, _ | ⟨y, _ | ⟨z, _ | ⟨u, l⟩⟩⟩⟩ <;> simp [fillG, fillStep_word, fillStep_A, fillStep_B, ins0]
    cases regOf y <;> simp [Ins.kind, Ins.b, Ins.n]
    cases regOf z <;> simp [Ins.a, Ins.key]
  · rw [placesT_4]
    rcases l with _ | ⟨x, _ | ⟨y, _ | ⟨z, _ | ⟨u, l⟩⟩⟩⟩ <;> simp [fillG, fillStep_word, fillStep_A, fillStep_B, ins0]
    cases regOf y <;> simp [Ins.kind, Ins.b, Ins.n]
    cases regOf z <;> simp [Ins.a, Ins.key]
  · rw [placesT_5]
    rcases l with _ | ⟨x, _ | ⟨y, _ | ⟨z, _ | ⟨u, l⟩⟩⟩⟩ <;> simp [fillG, fillStep_word, fillStep_A, fillStep_B, ins0]
    cases regOf y <;> simp [Ins.kind, Ins.b, Ins.n]
    cases regOf z <;> simp [Ins.a, Ins.key]
  · rw [placesT_6]
    rcases l with _ | ⟨x, _ | ⟨y, _ | ⟨z, _ | ⟨u, l⟩⟩⟩⟩ <;> simp [fillG, fillStep_word, fillStep_A, fillStep_K, ins0]
    cases regOf y <;> simp [Ins.kind, Ins.b, Ins.n]
  · rw [placesT_7]
    rcases l with _ | ⟨x, _ | ⟨y, _ | ⟨z, l⟩⟩⟩ <;> simp [fillG, fillStep_word, fillStep_K, ins0]
  · rw [placesT_8]
    rcases l with _ | ⟨x, _ | ⟨y, _ | ⟨z, _ | ⟨u, l⟩⟩⟩⟩ <;> simp [fillG, fillStep_word, fillStep_A, fillStep_N, ins0]
    cases regOf y <;> simp [Ins.kind, Ins.b, Ins.n]
    cases numOf z <;> simp [Ins.a, Ins.key]
  · rw [placesT_9]
    rcases l with _ | ⟨x, _ | ⟨y, _ | ⟨z, l⟩⟩⟩ <;> simp [fillG, fillStep_word, fillStep_A, ins0]
    cases regOf y <;> simp [Ins.kind, Ins.b, Ins.n]
theorem read_none {l : List T} (hk : kindOf (l.headD []) = 0) : readIns l = (1, default) := by
  unfold readIns; rw [hk]; rfl
end Go.Proofs.YthmkgfdglkdjmadGreatDoor

namespace Go.Proofs.YthmkgfdglkdjmadGreatDoor
open Go.RowKit

theorem take_snoc (s : ByteArray) (k : Nat) (h : k < s.size) : s.data.toList.take (k + 1) = s.data.toList.take k ++ [s[k]] := by
  rw [List.take_succ_eq_append_getElem (by simpa using h)]; rfl
theorem all_snoc (l : List UInt8) (c : UInt8) : (l ++ [c]).all okc = (l.all okc && okc c) := by simp
theorem ret_bool {a b : Bool} (h : a = b) : Ending.returned (.bool a) = .returned (.bool b) := by rw [h]
theorem all_take {l : List UInt8} {k : Nat} (h : (l.take k).all okc = false) : l.all okc = false := by
  rw [← List.take_append_drop k l, List.all_append, h]; rfl

theorem key_bad (s : ByteArray) (k : Nat) (hlt : k < s.size) (HK : Hid (keyB s = s.data.toList.all okc)) (HS : Hid ((s.data.toList.take (k + 1)).all okc = okc s[k]))
    (h : (s[k].toNat : Int) < 97 ∨ 122 < (s[k].toNat : Int)) : keyB s = false := by
  have ho : okc s[k] = false := by simp [okc]; omega
  rw [HK.out]; exact all_take (k := k + 1) (by rw [HS.out, ho])
theorem key_good (s : ByteArray) (k : Nat) (hlt : k < s.size) (HS : Hid ((s.data.toList.take (k + 1)).all okc = okc s[k]))
    (h1 : 97 ≤ (s[k].toNat : Int)) (h2 : (s[k].toNat : Int) ≤ 122) : Hid ((s.data.toList.take (k + 1)).all okc = true) := by
  show _ = _
  rw [HS.out]; simp [okc]; omega

set_option maxHeartbeats 400000 in
theorem key_calls (s : ByteArray) (w : World) (hs : s.size ≤ maxLen) :
    Calls Tryz.prog 101 #[.string s] w fun e w' => e = .returned (.bool (keyB s)) ∧ w = w' := by
  unfold maxLen at hs
  by_cases h1 : s.size < 1
  · have hb : Hid (keyB s = false) := by show _ = _; simp [keyB]; omega
    go_enter Tryz.func101, Tryz.ntmps101
    go_wp2
    go_ret
    exact ⟨ret_bool hb.out.symm, rfl⟩
  by_cases h2 : s.size > 6
  · have hb : Hid (keyB s = false) := by show _ = _; simp [keyB]; omega
    go_enter Tryz.func101, Tryz.ntmps101
    go_wp2
    go_ret
    exact ⟨ret_bool hb.out.symm, rfl⟩
  have hk : keyB s = s.data.toList.all okc := by simp [keyB]; omega
  have HK : Hid (keyB s = s.data.toList.all okc) := hk
  clear hk
  go_enter Tryz.func101, Tryz.ntmps101
  go_wp2
  go_loop [14] (fun i => ∃ k : Nat, k ≤ s.size ∧ i = .int .i64 k ∧ Hid ((s.data.toList.take k).all okc = true)) (fun i => s.size - (intOf i).toNat)
  case atStart => exact ⟨0, Nat.zero_le _, rfl, rfl⟩
  case round =>
    obtain ⟨k, hk, rfl, HA⟩ := hrel
    by_cases hlt : k < s.size
    · have HS : Hid ((s.data.toList.take (k + 1)).all okc = okc s[k]) := by
        show _ = _
        rw [take_snoc s k hlt, all_snoc, HA.out]; rfl
      go_wp2
      · go_ret
        exact ⟨ret_bool (key_bad s k hlt HK HS (.inr (by omega))).symm, rfl⟩
      · go_round
        case rel => exact ⟨k + 1, by omega, by go_num, key_good s k hlt HS (by omega) (by omega)⟩
        case measure => simp [intOf]; omega
      · go_ret
        exact ⟨ret_bool (key_bad s k hlt HK HS (.inl (by omega))).symm, rfl⟩
    · go_wp2
      go_ret
      exact ⟨ret_bool (by rw [HK.out, ← HA.out, List.take_of_length_le (by simp; omega)]), rfl⟩

theorem keyB_off (s : ByteArray) (h : s.data.toList.all okc = false) : keyB s = false := by simp [keyB, h]

set_option maxHeartbeats 400000 in
theorem refKey_calls (s : ByteArray) (w : World) (hs : s.size ≤ maxLen) :
    Calls Tryz.prog 31 #[.string s] w fun e w' => e = .returned (.bool (keyB s)) ∧ w = w' := by
  unfold maxLen at hs
  go_enter Tryz.func31, Tryz.ntmps31
  go_wp2
  go_loop [6] (fun i => ∃ k : Nat, k ≤ s.size ∧ i = .int .i64 k ∧ Hid ((s.data.toList.take k).all okc = true)) (fun i => s.size - (intOf i).toNat)
  case atStart => exact ⟨0, Nat.zero_le _, rfl, rfl⟩
  case round =>
    obtain ⟨k, hk, rfl, HA⟩ := hrel
    by_cases hlt : k < s.size
    · have HS : Hid ((s.data.toList.take (k + 1)).all okc = okc s[k]) := by
        show _ = _
        rw [take_snoc s k hlt, all_snoc, HA.out]; rfl
      go_wp2
      · go_ret
        exact ⟨ret_bool (keyB_off s (all_take (k := k + 1) (by rw [HS.out]; simp [okc]; omega))).symm, rfl⟩
      · go_round
        case rel => exact ⟨k + 1, by omega, by go_num, key_good s k hlt HS (by omega) (by omega)⟩
        case measure => simp [intOf]; omega
      · go_ret
        exact ⟨ret_bool (keyB_off s (all_take (k := k + 1) (by rw [HS.out]; simp [okc]; omega))).symm, rfl⟩
    · have HF : Hid (s.data.toList.all okc = true) := by
        show _ = _
        rw [← HA.out, List.take_of_length_le (by simp; omega)]
      go_wp2
      all_goals
        go_ret
        exact ⟨ret_bool (by rw [keyB, HF.out, Bool.eq_iff_iff]; simp; omega), rfl⟩

theorem ret_int {k : IntKind} {a b : Int} (h : a = b) : Ending.returned (.int k a) = .returned (.int k b) := by rw [h]
end Go.Proofs.YthmkgfdglkdjmadGreatDoor

namespace Go.Proofs.YthmkgfdglkdjmadGreatDoor
open Go.RowKit

theorem hid {p : Prop} (h : p) : Hid p := h

/-- The two cells of row i, at block b from off on, hold the list's row i. -/
def Cells (w : World) (b off : Nat) (l : List Row) : Prop :=
  ∀ i, i < l.length → w.cell? ⟨b, off + i * 2, none⟩ = some (.string (l.getD i default).1) ∧ w.cell? ⟨b, off + i * 2 + 1, none⟩ = some (.int .i64 (l.getD i default).2)

/-- A slice with this address holds the rows l (of no rows nothing is asked). -/
def Seg (w : World) (base : Option Addr) (l : List Row) : Prop :=
  l = [] ∨ ∃ b off, base = some ⟨b, off, none⟩ ∧ Cells w b off l

theorem Cells.lt {w : World} {b off : Nat} {l : List Row} (h : Cells w b off l) (hl : 0 < l.length) : b < w.heap.size := by
  have := (h 0 hl).1
  simpa using World.block_lt_of_cell? _ _ this

theorem Cells.below {w w' : World} {b off B : Nat} {l : List Row} (h : Cells w b off l) (hb : Below B w w') (hB : b < B) : Cells w' b off l := fun i hi => by
  rw [hb.cell (p := ⟨b, off + i * 2, none⟩) hB, hb.cell (p := ⟨b, off + i * 2 + 1, none⟩) hB]
  exact h i hi

theorem Seg.below {w w' : World} {base : Option Addr} {l : List Row} (h : Seg w base l) (hb : Below w.heap.size w w') : Seg w' base l := by
  rcases h with h | ⟨b, off, e, hc⟩
  · exact .inl h
  · by_cases hl : 0 < l.length
    · exact .inr ⟨b, off, e, hc.below hb (hc.lt hl)⟩
    · exact .inl (List.eq_nil_of_length_eq_zero (by omega))

end Go.Proofs.YthmkgfdglkdjmadGreatDoor

namespace Go.Proofs.YthmkgfdglkdjmadGreatDoor
open Go.RowKit

theorem cell_past {w : World} {b x : Nat} {v : Value} (o : Obj) (h : w.cell? ⟨b, x, none⟩ = some v) : (w.alloc o).cell? ⟨b, x, none⟩ = some v := by
  have hb := World.block_lt_of_cell? _ _ h
  rw [World.cell?_alloc_past _ _ _ hb]; exact h
end Go.Proofs.YthmkgfdglkdjmadGreatDoor

namespace Go.Proofs.YthmkgfdglkdjmadGreatDoor
open Go.RowKit

/-- A slice's head: its length within its capacity; nil has none. -/
structure Hdr (base : Option Addr) (n c : Nat) : Prop where
  le : n ≤ c
  max : c ≤ maxLen
  nil : base = none → c = 0

/-- A slice holds the rows l. -/
structure Holds (w : World) (base : Option Addr) (n c : Nat) (l : List Row) : Prop where
  len : n = l.length
  seg : Seg w base l
  hdr : Hdr base n c

theorem Holds.below {w w' : World} {base : Option Addr} {n c : Nat} {l : List Row} (h : Holds w base n c l) (hb : Below w.heap.size w w') : Holds w' base n c l := ⟨h.len, h.seg.below hb, h.hdr⟩
theorem Holds.empty (w : World) {base : Option Addr} {n c : Nat} {l : List Row} (hl : n = l.length) (h : n = 0) (hh : Hdr base n c) : Holds w base n c l := ⟨hl, .inl (List.eq_nil_of_length_eq_zero (by omega)), hh⟩
theorem Holds.cells {w : World} {b o n c : Nat} {l : List Row} (hl : n = l.length) (h : Cells w b o l) (h1 : n ≤ c) (h2 : c ≤ maxLen) : Holds w (some ⟨b, o, none⟩) n c l := ⟨hl, .inr ⟨b, o, rfl, h⟩, ⟨h1, h2, fun h => by cases h⟩⟩

theorem getD_drop (l : List Row) (p i : Nat) : (l.drop p).getD i default = l.getD (p + i) default := by simp [List.getD]
theorem getD_take (l : List Row) (p i : Nat) (h : i < p) : (l.take p).getD i default = l.getD i default := by simp [List.getD, h]

theorem Cells.take {w : World} {b o : Nat} {l : List Row} (h : Cells w b o l) (p : Nat) : Cells w b o (l.take p) := fun i hi => by
  have hi' : i < p ∧ i < l.length := by simpa [Nat.lt_min] using hi
  rw [getD_take l p i hi'.1]
  exact h i hi'.2
theorem Cells.drop {w : World} {b o : Nat} {l : List Row} (h : Cells w b o l) (p : Nat) : Cells w b (o + p * 2) (l.drop p) := fun i hi => by
  have hi' : p + i < l.length := by simp at hi; omega
  rw [getD_drop]
  have := h (p + i) hi'
  rw [show o + p * 2 + i * 2 = o + (p + i) * 2 from by omega]
  exact this

end Go.Proofs.YthmkgfdglkdjmadGreatDoor

namespace Go.Proofs.YthmkgfdglkdjmadGreatDoor
open Go.RowKit

/-- The memory of a slice is of elements of the type t. -/
def Kind (w : World) (t : TypeId) (base : Option Addr) : Prop := ∀ a, base = some a → ∃ cur z, w.heap[a.block]? = some (.cells cur t z)
theorem Kind.none (w : World) (t : TypeId) : Kind w t none := fun _ h => by cases h
theorem Kind.below {w w' : World} {t : TypeId} {base : Option Addr} (h : Kind w t base) (hb : Below w.heap.size w w') : Kind w' t base := fun a e => by
  obtain ⟨cur, z, hc⟩ := h a e
  exact ⟨cur, z, by rw [hb.block a.block (Array.getElem?_eq_some_iff.1 hc).1]; exact hc⟩
theorem Kind.set {w : World} {t : TypeId} {base : Option Addr} (h : Kind w t base) (p : Addr) (u : Value) : Kind (w.setCell p u) t base := fun a e => by
  obtain ⟨cur, z, hc⟩ := h a e
  by_cases hp : a.block = p.block
  · simp only [World.setCell, Array.getElem?_modify]
    rw [if_pos hp.symm, hc]
    simp only [Option.map_some]
    split
    · exact ⟨_, _, rfl⟩
    · exact ⟨_, _, rfl⟩
  · exact ⟨cur, z, by rw [Below.heap_setCell _ _ _ _ hp]; exact hc⟩
theorem Kind.owned {w : World} {B t s n : Nat} {base : Option Addr} {c : Nat} {xs : List Value} (h : w.ownsRow B t s (.slice base n c) n xs) : Kind w t base := fun a e => by
  rcases h.2 with ⟨h', _⟩ | ⟨g, cap, cur, h', _, hg, _⟩
  · simp at h'; rw [h'.1] at e; cases e
  · simp at h'; rw [h'.1] at e; cases e; exact ⟨cur, _, hg⟩

end Go.Proofs.YthmkgfdglkdjmadGreatDoor
