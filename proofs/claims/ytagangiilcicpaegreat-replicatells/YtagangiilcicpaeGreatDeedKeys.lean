/-
  Plain mathematics of deeds, with no program in sight: what is wrong with a deed, and how a right one ends.
  The program's search among texts, and what it finds wrong with keys.
-/
import Derived.Test.YtagangiilcicpaeGreatLies
import Derived.WalkKit
namespace Go.Proofs.YtagangiilcicpaeGreat
open Go.RowKit

/-- An instruction: kind, A, B, N, key. -/
abbrev Ins := Int × Int × Int × Int × ByteArray
abbrev Ins.kind (i : Ins) : Int := i.1
abbrev Ins.a (i : Ins) : Int := i.2.1
abbrev Ins.b (i : Ins) : Int := i.2.2.1
abbrev Ins.n (i : Ins) : Int := i.2.2.2.1
abbrev Ins.key (i : Ins) : ByteArray := i.2.2.2.2

/-- Is k among them? -/
def has (l : List ByteArray) (k : ByteArray) : Bool := l.any (fun x => decide (x = k))
theorem has_snoc (l : List ByteArray) (x k : ByteArray) : has (l ++ [x]) k = (has l k || decide (x = k)) := by simp [has]
theorem has_iff {l : List ByteArray} {k : ByteArray} : has l k = true ↔ k ∈ l := by simp [has]
theorem take_snoc_getD {α : Type} [Inhabited α] {l : List α} {i : Nat} (h : i < l.length) : l.take (i + 1) = l.take i ++ [l.getD i default] := by
  rw [List.take_succ_eq_append_getElem h]; simp [List.getD, h]
theorem has_take_true {l : List ByteArray} {k : ByteArray} {i : Nat} (h : has (l.take i) k = true) : has l k = true := by
  rw [has_iff] at *; exact List.mem_of_mem_take h

/-! ### What is wrong with keys -/
def badAt (l : List ByteArray) (i : Nat) : Bool := !keyB (l.getD i default) || has (l.take i) (l.getD i default)
def badTo (l : List ByteArray) : Nat → Bool
  | 0 => false
  | k + 1 => badTo l k || badAt l k
def wKeys (l : List ByteArray) : Int := if 5 < l.length then 5 else if badTo l l.length = true then 7 else 0
theorem badTo_mono {l : List ByteArray} {k : Nat} (h : badTo l k = true) : ∀ d, badTo l (k + d) = true
  | 0 => h
  | d + 1 => by
    show (badTo l (k + d) || badAt l (k + d)) = true
    rw [badTo_mono h d]; rfl
theorem badTo_all {l : List ByteArray} {k : Nat} (hk : k < l.length) (h : badAt l k = true) : badTo l l.length = true := by
  have : badTo l (k + 1) = true := by simp [badTo, h]
  have := badTo_mono this (l.length - (k + 1))
  rwa [show k + 1 + (l.length - (k + 1)) = l.length from by omega] at this
theorem badTo_false {l : List ByteArray} {k : Nat} (h : badTo l k = false) : ∀ i, i < k → badAt l i = false := by
  induction k with
  | zero => intro i hi; omega
  | succ k ih =>
    simp only [badTo, Bool.or_eq_false_iff] at h
    intro i hi
    by_cases e : i = k
    · rw [e]; exact h.2
    · exact ih h.1 i (by omega)
theorem wKeys_len {l : List ByteArray} (h : wKeys l = 0) : l.length ≤ 5 := by
  unfold wKeys at h
  split at h
  · cases h
  · omega
theorem wKeys_bad {l : List ByteArray} (h : wKeys l = 0) : badTo l l.length = false := by
  unfold wKeys at h
  split at h
  · cases h
  · split at h
    · cases h
    · rename_i h2; simpa using h2
theorem wKeys_key {l : List ByteArray} (h : wKeys l = 0) {k : ByteArray} (hk : k ∈ l) : keyB k = true := by
  obtain ⟨i, hi, rfl⟩ := List.getElem_of_mem hk
  have := badTo_false (wKeys_bad h) i hi
  simp only [badAt, Bool.or_eq_false_iff] at this
  simpa [List.getD, hi] using this.1
theorem wKeys_nodup {l : List ByteArray} (h : wKeys l = 0) : l.Nodup := by
  rw [List.nodup_iff_pairwise_ne, List.pairwise_iff_getElem]
  intro i j hi hj hij e
  have := badTo_false (wKeys_bad h) j hj
  simp only [badAt, Bool.or_eq_false_iff] at this
  have h2 := this.2
  have : has (l.take j) (l.getD j default) = true := by
    rw [has_iff, List.mem_take_iff_getElem]
    exact ⟨i, by omega, by simp [List.getD, hj, e]⟩
  rw [this] at h2; cases h2

/-! ### What is wrong with instructions -/
def regFit (n : Int) (h : Bool) : Bool := if h then decide (0 ≤ n) && decide (n < 4) else decide (n = 0)
def hasB (kind : Int) : Bool := decide (kind = 3) || decide (kind = 4) || decide (kind = 5)
def regsFit (i : Ins) : Bool := regFit i.a (!decide (i.kind = 7)) && regFit i.b (hasB i.kind)
def numFit (i : Ins) (behind : Int) : Bool := if i.kind = 2 then decide (-1073741824 ≤ i.n) && decide (i.n ≤ 1073741824) else if i.kind = 8 then decide (1 ≤ i.n) && decide (i.n ≤ behind) else decide (i.n = 0)
def noKey (l : List ByteArray) (k : ByteArray) : Int := if has l k = true then 0 else 9
def wIns (R W : List ByteArray) (i : Ins) (behind : Int) : Int :=
  if i.kind < 1 ∨ 9 < i.kind then 1
  else if regsFit i = false ∨ numFit i behind = false then 3
  else if i.kind = 1 then noKey R i.key
  else if i.kind = 6 ∨ i.kind = 7 then noKey W i.key
  else if i.key.size = 0 then 0 else 2
def wCode (R W : List ByteArray) (C : List Ins) : Nat → Int
  | 0 => 0
  | k + 1 => if wCode R W C k = 0 then wIns R W (C.getD k default) ((C.length : Int) - 1 - k) else wCode R W C k
def wDeed (R W : List ByteArray) (C : List Ins) : Int :=
  if wKeys R ≠ 0 then wKeys R else if wKeys W ≠ 0 then wKeys W else if 12 < C.length then 5 else wCode R W C C.length

theorem wCode_stays {R W : List ByteArray} {C : List Ins} {k : Nat} (h : wCode R W C k ≠ 0) : ∀ d, wCode R W C (k + d) = wCode R W C k
  | 0 => rfl
  | d + 1 => by
    have := wCode_stays h d
    show wCode R W C (k + d + 1) = _
    rw [wCode, this, if_neg h]
theorem wCode_at {R W : List ByteArray} {C : List Ins} {k : Nat} (hk : k < C.length) (h0 : wCode R W C k = 0) (h : wIns R W (C.getD k default) ((C.length : Int) - 1 - k) ≠ 0) : wCode R W C C.length = wIns R W (C.getD k default) ((C.length : Int) - 1 - k) := by
  have e : wCode R W C (k + 1) = wIns R W (C.getD k default) ((C.length : Int) - 1 - k) := by rw [wCode, if_pos h0]
  have := wCode_stays (R := R) (W := W) (C := C) (k := k + 1) (by rw [e]; exact h) (C.length - (k + 1))
  rw [show k + 1 + (C.length - (k + 1)) = C.length from by omega, e] at this
  exact this
theorem wCode_step {R W : List ByteArray} {C : List Ins} {k : Nat} (h0 : wCode R W C k = 0) (h : wIns R W (C.getD k default) ((C.length : Int) - 1 - k) = 0) : wCode R W C (k + 1) = 0 := by
  rw [wCode, if_pos h0, h]
theorem wCode_all {R W : List ByteArray} {C : List Ins} {k : Nat} (h : wCode R W C k = 0) : ∀ i, i < k → wIns R W (C.getD i default) ((C.length : Int) - 1 - i) = 0 := by
  induction k with
  | zero => intro i hi; omega
  | succ k ih =>
    rw [wCode] at h
    by_cases h0 : wCode R W C k = 0
    · rw [if_pos h0] at h
      intro i hi
      by_cases e : i = k
      · rw [e]; exact h
      · exact ih h0 i (by omega)
    · rw [if_neg h0] at h; exact absurd h h0

/-- A right deed. -/
structure RightD (R W : List ByteArray) (C : List Ins) : Prop where
  r : wKeys R = 0
  w : wKeys W = 0
  c : C.length ≤ 12
  i : ∀ k, k < C.length → wIns R W (C.getD k default) ((C.length : Int) - 1 - k) = 0
theorem right_deed {R W : List ByteArray} {C : List Ins} (h : wDeed R W C = 0) : RightD R W C := by
  unfold wDeed at h
  split at h
  · rename_i h1; exact absurd h h1
  split at h
  · rename_i _ h1; exact absurd h h1
  split at h
  · cases h
  · rename_i h1 h2 h3
    exact ⟨by simpa using h1, by simpa using h2, by omega, wCode_all h⟩

/-- What a right instruction is. -/
structure RightI (R W : List ByteArray) (i : Ins) (behind : Int) : Prop where
  lo : 1 ≤ i.kind
  hi : i.kind ≤ 9
  a0 : 0 ≤ i.a
  a4 : i.a < 4
  b0 : 0 ≤ i.b
  b4 : i.b < 4
  skip : i.kind = 8 → 1 ≤ i.n ∧ i.n ≤ behind
  load : i.kind = 1 → has R i.key = true
  write : i.kind = 6 ∨ i.kind = 7 → has W i.key = true
theorem regFit_bounds {n : Int} {h : Bool} (e : regFit n h = true) : 0 ≤ n ∧ n < 4 := by
  cases h <;> simp [regFit] at e <;> omega
theorem noKey_has {l : List ByteArray} {k : ByteArray} (h : noKey l k = 0) : has l k = true := by
  unfold noKey at h; split at h
  · assumption
  · cases h
theorem right_instr {R W : List ByteArray} {i : Ins} {behind : Int} (h : wIns R W i behind = 0) : RightI R W i behind := by
  unfold wIns at h
  split at h
  · cases h
  split at h
  · cases h
  rename_i h1 h2
  have h3 : regsFit i = true ∧ numFit i behind = true := by
    constructor
    · cases e : regsFit i with
      | true => rfl
      | false => exact absurd (.inl e) h2
    · cases e : numFit i behind with
      | true => rfl
      | false => exact absurd (.inr e) h2
  obtain ⟨hr, hn⟩ := h3
  simp only [regsFit, Bool.and_eq_true] at hr
  have ha := regFit_bounds hr.1
  have hb := regFit_bounds hr.2
  refine ⟨by omega, by omega, ha.1, ha.2, hb.1, hb.2, fun e => ?_, fun e => ?_, fun e => ?_⟩
  · simp [numFit, e] at hn; exact hn
  · rw [if_pos e] at h; exact noKey_has h
  · rw [if_neg (by omega), if_pos e] at h; exact noKey_has h

/-! ### How a deed ends -/
abbrev Made := ByteArray → Option (Option Int)
def setR (r : Nat → Int) (i : Nat) (x : Int) : Nat → Int := fun j => if j = i then x else r j
def setM (m : Made) (k : ByteArray) (x : Option Int) : Made := fun j => if j = k then some x else m j
/-- What a key has for the deed: its own doings hide what it sees. -/
def look (v : ByteArray → Int) (m : Made) (k : ByteArray) : Int := match m k with
  | some (some n) => n
  | some none => 0
  | none => v k
def zeroR : Nat → Int := fun _ => 0
def zeroM : Made := fun _ => none
def rnd (x : Int) : Int := (wrap64 x).tmod 1073741825
/-- The instructions, of which the first k are passed over: the registers, what was made, and whether it failed. -/
def exec (v : ByteArray → Int) : List Ins → Nat → (Nat → Int) → Made → (Nat → Int) × Made × Bool
  | [], _, r, m => (r, m, false)
  | _ :: l, k + 1, r, m => exec v l k r m
  | i :: l, 0, r, m =>
    if i.kind = 1 then exec v l 0 (setR r i.a.toNat (look v m i.key)) m
    else if i.kind = 2 then exec v l 0 (setR r i.a.toNat i.n) m
    else if i.kind = 3 then exec v l 0 (setR r i.a.toNat (rnd (r i.a.toNat + r i.b.toNat))) m
    else if i.kind = 4 then exec v l 0 (setR r i.a.toNat (rnd (r i.a.toNat - r i.b.toNat))) m
    else if i.kind = 5 then exec v l 0 (setR r i.a.toNat (rnd (r i.a.toNat * r i.b.toNat))) m
    else if i.kind = 6 then exec v l 0 r (setM m i.key (some (r i.a.toNat)))
    else if i.kind = 7 then exec v l 0 r (setM m i.key none)
    else if i.kind = 8 then exec v l (if r i.a.toNat ≤ 0 then i.n.toNat else 0) r m
    else if r i.a.toNat < 0 then (r, m, true) else exec v l 0 r m
theorem exec_drop (v : ByteArray → Int) : ∀ (l : List Ins) (k : Nat) (r : Nat → Int) (m : Made), exec v l k r m = exec v (l.drop k) 0 r m
  | [], k, r, m => by simp [exec]
  | i :: l, 0, r, m => by simp
  | i :: l, k + 1, r, m => by
    rw [exec, List.drop_succ_cons]; exact exec_drop v l k r m
theorem drop_at {C : List Ins} {k : Nat} (h : k < C.length) : C.drop k = C.getD k default :: C.drop (k + 1) := by
  rw [List.drop_eq_getElem_cons h]; simp [List.getD, h]
/-- What the deed made, in the order of the keys it names. -/
def vers (m : Made) (W : List ByteArray) : List (ByteArray × Option Int) := W.filterMap (fun k => (m k).map (fun o => (k, o)))
theorem vers_snoc (m : Made) (W : List ByteArray) (k : ByteArray) : vers m (W ++ [k]) = vers m W ++ (match m k with | some o => [(k, o)] | none => []) := by
  unfold vers; rw [List.filterMap_append]
  cases h : m k <;> simp [h]
end Go.Proofs.YtagangiilcicpaeGreat

namespace Go.Proofs.YtagangiilcicpaeGreat
open Go.RowKit

theorem streq_true {a b : ByteArray} (h : a = b) : (a.toList == b.toList) = true := by subst h; simp
theorem streq_false {a b : ByteArray} (h : a ≠ b) : (a.toList == b.toList) = false := by simpa using fun e => h (toList_inj e)

/-- Where k is first; -1: nowhere. -/
theorem index_calls (l : List ByteArray) (base : Option Addr) (n c : Nat) (k : ByteArray) (w : World) (ha : Texts w base n c l) :
    Calls Tryz.prog 79 #[.slice base n c, .string k] w fun e w' => (∃ x : Int, e = .returned (.int .i64 x) ∧ decide (x ≥ 0) = has l k) ∧ w = w' := by
  have HN := hid (Texts.count ha)
  have hm := Nat.le_trans ha.hdr.le ha.hdr.max
  unfold maxLen at hm
  by_cases h0 : n = 0
  · subst h0
    have hl : l = [] := List.eq_nil_of_length_eq_zero (by have := HN.out; omega)
    subst hl
    clear ha
    go_enter Tryz.func79, Tryz.ntmps79
    go_wp2
    go_loop [8] (fun i => i = .int .i64 0) (fun _ => 0)
    case atStart => rfl
    case round =>
      obtain rfl := hrel
      go_wp2
      go_ret
      exact ⟨⟨-1, rfl, by simp [has]⟩, rfl⟩
  rcases ha.run with h | ⟨b, o, rfl, h1⟩
  · exact absurd h h0
  have HC := hid h1
  clear h1 h0 ha
  go_enter Tryz.func79, Tryz.ntmps79
  go_wp2
  go_loop [8] (fun i => ∃ j : Nat, j ≤ n ∧ i = .int .i64 j ∧ Hid (has (l.take j) k = false)) (fun i => n - (intOf i).toNat)
  case atStart => exact ⟨0, Nat.zero_le _, rfl, rfl⟩
  case round =>
    obtain ⟨j, hj, rfl, HH⟩ := hrel
    by_cases hlt : j < n
    · have hjl : j < l.length := by rw [← HN.out]; exact hlt
      have c1 := HC.out j _ (strs_at hjl)
      have hi : (j : Int) < (n : Int) := by omega
      have HT := hid (has_snoc (l.take j) (l.getD j default) k)
      rw [← take_snoc_getD hjl, HH.out] at HT
      generalize l.getD j default = x at *
      by_cases hx : k = x
      · have hs := streq_true hx
        have HF : Hid (has l k = true) := by
          show _ = _
          refine has_take_true (i := j + 1) ?_
          rw [HT.out]; simp [hx]
        clear hx
        go_wp2
        go_ret
        exact ⟨⟨j, rfl, by rw [HF.out]; simp⟩, rfl⟩
      · have hs := streq_false hx
        have HF : Hid (has (l.take (j + 1)) k = false) := by
          show _ = _
          rw [HT.out]; simpa using fun e => hx e.symm
        clear hx
        go_wp2
        go_round
        case rel => exact ⟨j + 1, by omega, by go_num, HF⟩
        case measure => simp [intOf]; omega
    · go_wp2
      go_ret
      refine ⟨⟨-1, rfl, ?_⟩, rfl⟩
      have : l.take j = l := List.take_of_length_le (by rw [← HN.out]; omega)
      rw [← this, HH.out]; rfl

theorem contains_calls (l : List ByteArray) (base : Option Addr) (n c : Nat) (k : ByteArray) (w : World) (ha : Texts w base n c l) :
    Calls Tryz.prog 100 #[.slice base n c, .string k] w fun e w' => e = .returned (.bool (has l k)) ∧ w = w' := by
  have HI := hid (index_calls l base n c k w ha)
  clear ha
  go_enter Tryz.func100, Tryz.ntmps100
  go_wp2_with fail
  refine HI.out.mono ?_
  rintro e w' ⟨⟨x, rfl, hx⟩, rfl⟩
  have HX := hid hx
  clear hx
  go_wp2
  go_ret
  exact ⟨ret_bool HX.out, rfl⟩

/-- The document's own search. -/
theorem refIn_calls (l : List ByteArray) (base : Option Addr) (n c : Nat) (k : ByteArray) (w : World) (ha : Texts w base n c l) :
    Calls Tryz.prog 53 #[.slice base n c, .string k] w fun e w' => e = .returned (.bool (has l k)) ∧ w = w' := by
  have HN := hid (Texts.count ha)
  have hm := Nat.le_trans ha.hdr.le ha.hdr.max
  unfold maxLen at hm
  by_cases h0 : n = 0
  · subst h0
    have hl : l = [] := List.eq_nil_of_length_eq_zero (by have := HN.out; omega)
    subst hl
    clear ha
    go_enter Tryz.func53, Tryz.ntmps53
    go_wp2
    go_loop [9] (fun i => i = .int .i64 0) (fun _ => 0)
    case atStart => rfl
    case round =>
      obtain rfl := hrel
      go_wp2
      go_ret
      exact ⟨rfl, rfl⟩
  rcases ha.run with h | ⟨b, o, rfl, h1⟩
  · exact absurd h h0
  have HC := hid h1
  clear h1 h0 ha
  go_enter Tryz.func53, Tryz.ntmps53
  go_wp2
  go_loop [9] (fun i => ∃ j : Nat, j ≤ n ∧ i = .int .i64 j ∧ Hid (has (l.take j) k = false)) (fun i => n - (intOf i).toNat)
  case atStart => exact ⟨0, Nat.zero_le _, rfl, rfl⟩
  case round =>
    obtain ⟨j, hj, rfl, HH⟩ := hrel
    by_cases hlt : j < n
    · have hjl : j < l.length := by rw [← HN.out]; exact hlt
      have c1 := HC.out j _ (strs_at hjl)
      have hi : (j : Int) < (n : Int) := by omega
      have HT := hid (has_snoc (l.take j) (l.getD j default) k)
      rw [← take_snoc_getD hjl, HH.out] at HT
      generalize l.getD j default = x at *
      by_cases hx : x = k
      · have hs := streq_true hx
        have HF : Hid (has l k = true) := by
          show _ = _
          refine has_take_true (i := j + 1) ?_
          rw [HT.out]; simp [hx]
        clear hx
        go_wp2
        go_ret
        exact ⟨ret_bool HF.out.symm, rfl⟩
      · have hs := streq_false hx
        have HF : Hid (has (l.take (j + 1)) k = false) := by
          show _ = _
          rw [HT.out]; simpa using hx
        clear hx
        go_wp2
        go_round
        case rel => exact ⟨j + 1, by omega, by go_num, HF⟩
        case measure => simp [intOf]; omega
    · go_wp2
      go_ret
      refine ⟨ret_bool ?_, rfl⟩
      have : l.take j = l := List.take_of_length_le (by rw [← HN.out]; omega)
      rw [← this, HH.out]

theorem unnamed_calls (l : List ByteArray) (base : Option Addr) (n c : Nat) (k : ByteArray) (w : World) (ha : Texts w base n c l) :
    Calls Tryz.prog 103 #[.slice base n c, .string k] w fun e w' => e = .returned (.int .i64 (noKey l k)) ∧ w = w' := by
  have HI := hid (contains_calls l base n c k w ha)
  clear ha
  unfold noKey
  cases h : has l k with
  | true =>
    rw [h] at HI
    go_enter Tryz.func103, Tryz.ntmps103
    go_wp2_with fail
    refine HI.out.mono ?_
    rintro e w' ⟨rfl, rfl⟩
    go_wp2
    go_ret
    exact ⟨rfl, rfl⟩
  | false =>
    rw [h] at HI
    go_enter Tryz.func103, Tryz.ntmps103
    go_wp2_with fail
    refine HI.out.mono ?_
    rintro e w' ⟨rfl, rfl⟩
    go_wp2
    go_ret
    exact ⟨rfl, rfl⟩

set_option maxHeartbeats 1000000 in
theorem wrongKeys_calls (l : List ByteArray) (base : Option Addr) (n c : Nat) (w : World) (hsm : ∀ x ∈ l, x.size ≤ maxLen) (ha : Texts w base n c l) :
    Calls Tryz.prog 84 #[.slice base n c] w fun e w' => e = .returned (.int .i64 (wKeys l)) ∧ w = w' := by
  have hn := Texts.count ha
  by_cases h5 : 5 < n
  · have HW : Hid (wKeys l = 5) := by show _ = _; rw [wKeys, if_pos (by omega)]
    have hm := Nat.le_trans ha.hdr.le ha.hdr.max
    unfold maxLen at hm
    clear ha hn hsm
    go_enter Tryz.func84, Tryz.ntmps84
    go_wp2
    go_ret
    exact ⟨ret_int HW.out.symm, rfl⟩
  by_cases h0 : n = 0
  · subst h0
    have hl : l = [] := List.eq_nil_of_length_eq_zero (by omega)
    subst hl
    clear ha hn hsm h5
    go_enter Tryz.func84, Tryz.ntmps84
    go_wp2
    go_loop [10] (fun i => i = .int .i64 0) (fun _ => 0)
    case atStart => rfl
    case round =>
      obtain rfl := hrel
      go_wp2
      go_ret
      exact ⟨rfl, rfl⟩
  have hcap := ha.hdr.le
  have hmx := ha.hdr.max
  unfold maxLen at hmx
  have HW : Hid (wKeys l = if badTo l n = true then 7 else 0) := by show _ = _; rw [wKeys, if_neg (by omega), ← hn]
  have HA := hid ha
  rcases ha.run with h | ⟨b, o, rfl, h1⟩
  · exact absurd h h0
  have HC := hid h1
  have HN := hid hn
  have HS := hid hsm
  clear h1 h0 ha hn hsm
  go_enter Tryz.func84, Tryz.ntmps84
  go_wp2
  go_loop [10] (fun i => ∃ j : Nat, j ≤ n ∧ i = .int .i64 j ∧ Hid (badTo l j = false)) (fun i => n - (intOf i).toNat)
  case atStart => exact ⟨0, Nat.zero_le _, rfl, rfl⟩
  case round =>
    obtain ⟨j, hj, rfl, HH⟩ := hrel
    by_cases hlt : j < n
    · have hjl : j < l.length := by rw [← HN.out]; exact hlt
      have c1 := HC.out j _ (strs_at hjl)
      have hi : (j : Int) < (n : Int) := by omega
      have hz : (l.getD j default).size ≤ maxLen := HS.out _ (by simp [List.getD, hjl])
      have HB : Hid (badAt l j = (!keyB (l.getD j default) || has (l.take j) (l.getD j default))) := rfl
      have HT := hid (contains_calls (l.take j) (some ⟨b, o, none⟩) j c (l.getD j default) w (Texts.take HA.out hj))
      have HX : Hid (badAt l j = true → wKeys l = 7) := fun h => by rw [HW.out, HN.out, badTo_all hjl h]; rfl
      have HY : Hid (badAt l j = false → badTo l (j + 1) = false) := fun h => by simp [badTo, HH.out, h]
      generalize l.getD j default = x at *
      generalize badAt l j = bd at *
      generalize has (l.take j) x = hs at *
      cases hk : keyB x with
      | false =>
        rw [hk] at HB
        go_wp2_with fail
        refine (key_calls x _ hz).mono ?_
        rintro e w' ⟨rfl, rfl⟩
        rw [hk]
        go_wp2
        go_ret
        exact ⟨ret_int (HX.out (by rw [HB.out]; rfl)).symm, rfl⟩
      | true =>
        rw [hk] at HB
        cases hs with
        | true =>
          go_wp2_with fail
          refine (key_calls x _ hz).mono ?_
          rintro e w' ⟨rfl, rfl⟩
          rw [hk]
          go_wp2_with fail
          refine HT.out.mono ?_
          rintro e w' ⟨rfl, rfl⟩
          go_wp2
          go_ret
          exact ⟨ret_int (HX.out (by rw [HB.out]; rfl)).symm, rfl⟩
        | false =>
          go_wp2_with fail
          refine (key_calls x _ hz).mono ?_
          rintro e w' ⟨rfl, rfl⟩
          rw [hk]
          go_wp2_with fail
          refine HT.out.mono ?_
          rintro e w' ⟨rfl, rfl⟩
          go_wp2
          go_round
          case rel => exact ⟨j + 1, by omega, by go_num, HY.out (by rw [HB.out]; rfl)⟩
          case measure => simp [intOf]; omega
    · obtain rfl : j = n := by omega
      go_wp2
      go_ret
      exact ⟨ret_int (by rw [HW.out, HH.out]; rfl), rfl⟩
end Go.Proofs.YtagangiilcicpaeGreat
