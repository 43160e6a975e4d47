/-
  Plain mathematics of deeds, with no program in sight: what is wrong with a deed, and how a right one ends.
  Plain mathematics of numbers as texts: a number's own text is read as that number.
  Plain mathematics of deeds as texts: a text cut at blanks, or at semicolons with a blank, and put together again; a right deed's text, read, is that deed; a text that is read is its deed's.
-/
import Derived.Test.YtdnafpenljdinadDoorMath
import Derived.WalkKit
import Derived.Lib.AtoiAllCases
import Derived.Lib.ItoaMem
namespace Go.Proofs.YtdnafpenljdinadDoor
open Go.RowKit

/-- An instruction: kind, A, B, N, key. -/
abbrev Ins := Int × Int × Int × Int × ByteArray
abbrev Ins.kind (i : Ins) : Int := i.1
abbrev Ins.a (i : Ins) : Int := i.2.1
abbrev Ins.b (i : Ins) : Int := i.2.2.1
abbrev Ins.n (i : Ins) : Int := i.2.2.2.1
abbrev Ins.key (i : Ins) : ByteArray := i.2.2.2.2

/-- Is k among them? -/
def has (l : List ByteArray) (k : ByteArray) : Bool := l.any (fun x => decide (x = k))
theorem has_snoc (l : List ByteArray) (x k : ByteArray) : has (l ++ [x]) k = (has l k || decide (x = k)) := by simp [has]
theorem has_iff {l : List ByteArray} {k : ByteArray} : has l k = true ↔ k ∈ l := by simp [has]
theorem take_snoc_getD {α : Type} [Inhabited α] {l : List α} {i : Nat} (h : i < l.length) : l.take (i + 1) = l.take i ++ [l.getD i default] := by
  rw [List.take_succ_eq_append_getElem h]; simp [List.getD, h]
theorem has_take_false {l : List ByteArray} {k : ByteArray} (i : Nat) (h : has l k = false) : has (l.take i) k = false := by
  simp only [has, List.any_eq_false] at *
  exact fun x hx => h x (List.mem_of_mem_take hx)
theorem has_take_true {l : List ByteArray} {k : ByteArray} {i : Nat} (h : has (l.take i) k = true) : has l k = true := by
  rw [has_iff] at *; exact List.mem_of_mem_take h

/-! ### What is wrong with keys -/
def badAt (l : List ByteArray) (i : Nat) : Bool := !keyB (l.getD i default) || has (l.take i) (l.getD i default)
def badTo (l : List ByteArray) : Nat → Bool
  | 0 => false
  | k + 1 => badTo l k || badAt l k
def wKeys (l : List ByteArray) : Int := if 5 < l.length then 5 else if badTo l l.length = true then 7 else 0
theorem badTo_mono {l : List ByteArray} {k : Nat} (h : badTo l k = true) : ∀ d, badTo l (k + d) = true
  | 0 => h
  | d + 1 => by
    show (badTo l (k + d) || badAt l (k + d)) = true
    rw [badTo_mono h d]; rfl
theorem badTo_all {l : List ByteArray} {k : Nat} (hk : k < l.length) (h : badAt l k = true) : badTo l l.length = true := by
  have : badTo l (k + 1) = true := by simp [badTo, h]
  have := badTo_mono this (l.length - (k + 1))
  rwa [show k + 1 + (l.length - (k + 1)) = l.length from by omega] at this
theorem badTo_false {l : List ByteArray} {k : Nat} (h : badTo l k = false) : ∀ i, i < k → badAt l i = false := by
  induction k with
  | zero => intro i hi; omega
  | succ k ih =>
    simp only [badTo, Bool.or_eq_false_iff] at h
    intro i hi
    by_cases e : i = k
    · rw [e]; exact h.2
    · exact ih h.1 i (by omega)
theorem wKeys_len {l : List ByteArray} (h : wKeys l = 0) : l.length ≤ 5 := by
  unfold wKeys at h
  split at h
  · cases h
  · omega
theorem wKeys_bad {l : List ByteArray} (h : wKeys l = 0) : badTo l l.length = false := by
  unfold wKeys at h
  split at h
  · cases h
  · split at h
    · cases h
    · rename_i h2; simpa using h2
theorem wKeys_key {l : List ByteArray} (h : wKeys l = 0) {k : ByteArray} (hk : k ∈ l) : keyB k = true := by
  obtain ⟨i, hi, rfl⟩ := List.getElem_of_mem hk
  have := badTo_false (wKeys_bad h) i hi
  simp only [badAt, Bool.or_eq_false_iff] at this
  simpa [List.getD, hi] using this.1
theorem wKeys_nodup {l : List ByteArray} (h : wKeys l = 0) : l.Nodup := by
  rw [List.nodup_iff_pairwise_ne, List.pairwise_iff_getElem]
  intro i j hi hj hij e
  have := badTo_false (wKeys_bad h) j hj
  simp only [badAt, Bool.or_eq_false_iff] at this
  have h2 := this.2
  have : has (l.take j) (l.getD j default) = true := by
    rw [has_iff, List.mem_take_iff_getElem]
    exact ⟨i, by omega, by simp [List.getD, hj, e]⟩
  rw [this] at h2; cases h2

/-! ### What is wrong with instructions -/
def regFit (n : Int) (h : Bool) : Bool := if h then decide (0 ≤ n) && decide (n < 4) else decide (n = 0)
def hasB (kind : Int) : Bool := decide (kind = 3) || decide (kind = 4) || decide (kind = 5)
def regsFit (i : Ins) : Bool := regFit i.a (!decide (i.kind = 7)) && regFit i.b (hasB i.kind)
def numFit (i : Ins) (behind : Int) : Bool := if i.kind = 2 then decide (-1073741824 ≤ i.n) && decide (i.n ≤ 1073741824) else if i.kind = 8 then decide (1 ≤ i.n) && decide (i.n ≤ behind) else decide (i.n = 0)
def noKey (l : List ByteArray) (k : ByteArray) : Int := if has l k = true then 0 else 9
def wIns (R W : List ByteArray) (i : Ins) (behind : Int) : Int :=
  if i.kind < 1 ∨ 9 < i.kind then 1
  else if regsFit i = false ∨ numFit i behind = false then 3
  else if i.kind = 1 then noKey R i.key
  else if i.kind = 6 ∨ i.kind = 7 then noKey W i.key
  else if i.key.size = 0 then 0 else 2
def wCode (R W : List ByteArray) (C : List Ins) : Nat → Int
  | 0 => 0
  | k + 1 => if wCode R W C k = 0 then wIns R W (C.getD k default) ((C.length : Int) - 1 - k) else wCode R W C k
def wDeed (R W : List ByteArray) (C : List Ins) : Int :=
  if wKeys R ≠ 0 then wKeys R else if wKeys W ≠ 0 then wKeys W else if 12 < C.length then 5 else wCode R W C C.length

theorem wCode_stays {R W : List ByteArray} {C : List Ins} {k : Nat} (h : wCode R W C k ≠ 0) : ∀ d, wCode R W C (k + d) = wCode R W C k
  | 0 => rfl
  | d + 1 => by
    have := wCode_stays h d
    show wCode R W C (k + d + 1) = _
    rw [wCode, this, if_neg h]
theorem wCode_at {R W : List ByteArray} {C : List Ins} {k : Nat} (hk : k < C.length) (h0 : wCode R W C k = 0) (h : wIns R W (C.getD k default) ((C.length : Int) - 1 - k) ≠ 0) : wCode R W C C.length = wIns R W (C.getD k default) ((C.length : Int) - 1 - k) := by
  have e : wCode R W C (k + 1) = wIns R W (C.getD k default) ((C.length : Int) - 1 - k) := by rw [wCode, if_pos h0]
  have := wCode_stays (R := R) (W := W) (C := C) (k := k + 1) (by rw [e]; exact h) (C.length - (k + 1))
  rw [show k + 1 + (C.length - (k + 1)) = C.length from by omega, e] at this
  exact this
theorem wCode_step {R W : List ByteArray} {C : List Ins} {k : Nat} (h0 : wCode R W C k = 0) (h : wIns R W (C.getD k default) ((C.length : Int) - 1 - k) = 0) : wCode R W C (k + 1) = 0 := by
  rw [wCode, if_pos h0, h]
theorem wCode_all {R W : List ByteArray} {C : List Ins} {k : Nat} (h : wCode R W C k = 0) : ∀ i, i < k → wIns R W (C.getD i default) ((C.length : Int) - 1 - i) = 0 := by
  induction k with
  | zero => intro i hi; omega
  | succ k ih =>
    rw [wCode] at h
    by_cases h0 : wCode R W C k = 0
    · rw [if_pos h0] at h
      intro i hi
      by_cases e : i = k
      · rw [e]; exact h
      · exact ih h0 i (by omega)
    · rw [if_neg h0] at h; exact absurd h h0

/-- A right deed. -/
structure RightD (R W : List ByteArray) (C : List Ins) : Prop where
  r : wKeys R = 0
  w : wKeys W = 0
  c : C.length ≤ 12
  i : ∀ k, k < C.length → wIns R W (C.getD k default) ((C.length : Int) - 1 - k) = 0
theorem right_deed {R W : List ByteArray} {C : List Ins} (h : wDeed R W C = 0) : RightD R W C := by
  unfold wDeed at h
  split at h
  · rename_i h1; exact absurd h h1
  split at h
  · rename_i _ h1; exact absurd h h1
  split at h
  · cases h
  · rename_i h1 h2 h3
    exact ⟨by simpa using h1, by simpa using h2, by omega, wCode_all h⟩

/-- What a right instruction is. -/
structure RightI (R W : List ByteArray) (i : Ins) (behind : Int) : Prop where
  lo : 1 ≤ i.kind
  hi : i.kind ≤ 9
  a0 : 0 ≤ i.a
  a4 : i.a < 4
  b0 : 0 ≤ i.b
  b4 : i.b < 4
  skip : i.kind = 8 → 1 ≤ i.n ∧ i.n ≤ behind
  load : i.kind = 1 → has R i.key = true
  write : i.kind = 6 ∨ i.kind = 7 → has W i.key = true
theorem regFit_bounds {n : Int} {h : Bool} (e : regFit n h = true) : 0 ≤ n ∧ n < 4 := by
  cases h <;> simp [regFit] at e <;> omega
theorem noKey_has {l : List ByteArray} {k : ByteArray} (h : noKey l k = 0) : has l k = true := by
  unfold noKey at h; split at h
  · assumption
  · cases h
theorem right_instr {R W : List ByteArray} {i : Ins} {behind : Int} (h : wIns R W i behind = 0) : RightI R W i behind := by
  unfold wIns at h
  split at h
  · cases h
  split at h
  · cases h
  rename_i h1 h2
  have h3 : regsFit i = true ∧ numFit i behind = true := by
    constructor
    · cases e : regsFit i with
      | true => rfl
      | false => exact absurd (.inl e) h2
    · cases e : numFit i behind with
      | true => rfl
      | false => exact absurd (.inr e) h2
  obtain ⟨hr, hn⟩ := h3
  simp only [regsFit, Bool.and_eq_true] at hr
  have ha := regFit_bounds hr.1
  have hb := regFit_bounds hr.2
  refine ⟨by omega, by omega, ha.1, ha.2, hb.1, hb.2, fun e => ?_, fun e => ?_, fun e => ?_⟩
  · simp [numFit, e] at hn; exact hn
  · rw [if_pos e] at h; exact noKey_has h
  · rw [if_neg (by omega), if_pos e] at h; exact noKey_has h

/-! ### How a deed ends -/
abbrev Made := ByteArray → Option (Option Int)
def setR (r : Nat → Int) (i : Nat) (x : Int) : Nat → Int := fun j => if j = i then x else r j
def setM (m : Made) (k : ByteArray) (x : Option Int) : Made := fun j => if j = k then some x else m j
/-- What a key has for the deed: its own doings hide what it sees. -/
def look (v : ByteArray → Int) (m : Made) (k : ByteArray) : Int := match m k with
  | some (some n) => n
  | some none => 0
  | none => v k
def zeroR : Nat → Int := fun _ => 0
def zeroM : Made := fun _ => none
def rnd (x : Int) : Int := (wrap64 x).tmod 1073741825
/-- The instructions, of which the first k are passed over: the registers, what was made, and whether it failed. -/
def exec (v : ByteArray → Int) : List Ins → Nat → (Nat → Int) → Made → (Nat → Int) × Made × Bool
  | [], _, r, m => (r, m, false)
  | _ :: l, k + 1, r, m => exec v l k r m
  | i :: l, 0, r, m =>
    if i.kind = 1 then exec v l 0 (setR r i.a.toNat (look v m i.key)) m
    else if i.kind = 2 then exec v l 0 (setR r i.a.toNat i.n) m
    else if i.kind = 3 then exec v l 0 (setR r i.a.toNat (rnd (r i.a.toNat + r i.b.toNat))) m
    else if i.kind = 4 then exec v l 0 (setR r i.a.toNat (rnd (r i.a.toNat - r i.b.toNat))) m
    else if i.kind = 5 then exec v l 0 (setR r i.a.toNat (rnd (r i.a.toNat * r i.b.toNat))) m
    else if i.kind = 6 then exec v l 0 r (setM m i.key (some (r i.a.toNat)))
    else if i.kind = 7 then exec v l 0 r (setM m i.key none)
    else if i.kind = 8 then exec v l (if r i.a.toNat ≤ 0 then i.n.toNat else 0) r m
    else if r i.a.toNat < 0 then (r, m, true) else exec v l 0 r m
theorem exec_drop (v : ByteArray → Int) : ∀ (l : List Ins) (k : Nat) (r : Nat → Int) (m : Made), exec v l k r m = exec v (l.drop k) 0 r m
  | [], k, r, m => by simp [exec]
  | i :: l, 0, r, m => by simp
  | i :: l, k + 1, r, m => by
    rw [exec, List.drop_succ_cons]; exact exec_drop v l k r m
theorem drop_at {C : List Ins} {k : Nat} (h : k < C.length) : C.drop k = C.getD k default :: C.drop (k + 1) := by
  rw [List.drop_eq_getElem_cons h]; simp [List.getD, h]
/-- What the deed made, in the order of the keys it names. -/
def vers (m : Made) (W : List ByteArray) : List (ByteArray × Option Int) := W.filterMap (fun k => (m k).map (fun o => (k, o)))
theorem vers_snoc (m : Made) (W : List ByteArray) (k : ByteArray) : vers m (W ++ [k]) = vers m W ++ (match m k with | some o => [(k, o)] | none => []) := by
  unfold vers; rw [List.filterMap_append]
  cases h : m k <;> simp [h]
end Go.Proofs.YtdnafpenljdinadDoor

namespace Go.Proofs.YtdnafpenljdinadDoor
open Go.Lib

theorem parse_append : ∀ (l m : List UInt8) (acc : Nat), parseUint10 acc (l ++ m) = match parseUint10 acc l with
    | .ok v => parseUint10 v m
    | .syntax => .syntax
    | .range => .range
  | [], m, acc => by simp [parseUint10]
  | c :: l, m, acc => by
    simp only [List.cons_append, parseUint10]
    split
    · split
      · rfl
      · split
        · rfl
        · exact parse_append l m _
    · rfl
theorem digit_toNat {d : Nat} (h : d < 10) : (UInt8.ofNat (48 + d)).toNat = 48 + d := by
  rw [UInt8.toNat_ofNat']; omega
theorem parse_digit {acc d : Nat} (h : d < 10) (hb : acc * 10 + d < 18446744073709551616) : parseUint10 acc [UInt8.ofNat (48 + d)] = .ok (acc * 10 + d) := by
  simp only [parseUint10]
  rw [digit_toNat h, if_pos (by omega), if_neg (by omega), if_neg (by omega)]
  congr 1; omega
theorem parse_digits : ∀ (u : Nat), u < 18446744073709551616 → parseUint10 0 (decDigits u) = .ok u := by
  intro u
  induction u using Nat.strongRecOn with
  | _ u ih =>
    intro hu
    by_cases h : u < 10
    · rw [decDigits, dif_pos h, parse_digit h (by omega)]; simp
    · rw [decDigits, dif_neg h, parse_append, ih (u / 10) (by omega) (by omega)]
      show parseUint10 (u / 10) _ = _
      rw [parse_digit (by omega) (by omega)]
      congr 1; omega
/-- All signs are digits, and there is one. -/
theorem digits_all : ∀ (u : Nat), ∀ c ∈ decDigits u, 48 ≤ c.toNat ∧ c.toNat ≤ 57 := by
  intro u
  induction u using Nat.strongRecOn with
  | _ u ih =>
    intro c hc
    by_cases h : u < 10
    · rw [decDigits, dif_pos h] at hc
      simp only [List.mem_singleton] at hc
      rw [hc, digit_toNat h]; omega
    · rw [decDigits, dif_neg h] at hc
      rcases List.mem_append.1 hc with hc | hc
      · exact ih (u / 10) (by omega) c hc
      · simp only [List.mem_singleton] at hc
        rw [hc, digit_toNat (by omega)]; omega
theorem digits_ne (u : Nat) : decDigits u ≠ [] := by
  rw [decDigits]; split <;> simp
theorem atoi_itoa (n : Int) (h0 : -9223372036854775808 ≤ n) (h1 : n ≤ 9223372036854775807) : atoiAll (itoa n) = .ok n := by
  by_cases hn : n < 0
  · obtain ⟨u, rfl⟩ : ∃ u : Nat, n = -(u : Int) := ⟨n.natAbs, by omega⟩
    rw [itoa_neg u (by omega), atoiAll_minus]
    unfold parseMag
    rw [if_neg (digits_ne u), parse_digits u (by omega)]
    simp only [signed]
    rw [if_neg (by omega)]
  · obtain ⟨u, rfl⟩ : ∃ u : Nat, n = (u : Int) := ⟨n.toNat, by omega⟩
    rw [itoa_nonneg u]
    cases hd : decDigits u with
    | nil => exact absurd hd (digits_ne u)
    | cons c r =>
      have hc := digits_all u c (by rw [hd]; simp)
      rw [atoiAll_plain c r (by omega) (by omega), ← hd]
      unfold parseMag
      rw [if_neg (digits_ne u), parse_digits u (by omega)]
      simp only [signless]
      rw [if_neg (by omega)]
/-- The number that a text is, if the text is that number's own. -/
def numOf (s : List UInt8) : Option Int := match atoiAll s with
  | .ok n => if itoa n = s then some n else none
  | _ => none
theorem numOf_itoa (n : Int) (h0 : -9223372036854775808 ≤ n) (h1 : n ≤ 9223372036854775807) : numOf (itoa n) = some n := by
  unfold numOf; rw [atoi_itoa n h0 h1]; simp
theorem itoa_numOf {s : List UInt8} {n : Int} (h : numOf s = some n) : s = itoa n := by
  unfold numOf at h
  split at h
  · split at h
    · rename_i e
      simp only [Option.some.injEq] at h
      rw [← e, h]
    · cases h
  · cases h
/-- No blank, and no semicolon. -/
def plainC (c : UInt8) : Bool := c != 32 && c != 59
theorem itoa_plain (n : Int) : ∀ c ∈ itoa n, plainC c = true := by
  intro c hc
  have key : ∀ c : UInt8, 45 ≤ c.toNat ∧ c.toNat ≤ 57 → plainC c = true := fun c h => by
    have h1 : c ≠ 32 := fun e => by rw [e] at h; revert h; decide
    have h2 : c ≠ 59 := fun e => by rw [e] at h; revert h; decide
    simp [plainC, h1, h2]
  unfold itoa at hc
  split at hc
  · rcases List.mem_cons.1 hc with rfl | hc
    · decide
    · have := digits_all _ c hc; exact key c (by omega)
  · have := digits_all _ c hc; exact key c (by omega)
end Go.Proofs.YtdnafpenljdinadDoor

namespace Go.Proofs.YtdnafpenljdinadDoor
open Go.Lib

abbrev T := List UInt8

/-! ### Cut, and put together -/
def spl1 (cur : T) : T → List T
  | [] => [cur]
  | c :: s => if c = 32 then cur :: spl1 [] s else spl1 (cur ++ [c]) s
def spl2 (cur : T) : T → List T
  | [] => [cur]
  | [c] => [cur ++ [c]]
  | c :: d :: s => if c = 59 ∧ d = 32 then cur :: spl2 [] s else spl2 (cur ++ [c]) (d :: s)
def join1 : List T → T
  | [] => []
  | [x] => x
  | x :: y :: l => x ++ 32 :: join1 (y :: l)
def join2 : List T → T
  | [] => []
  | [x] => x
  | x :: y :: l => x ++ 59 :: 32 :: join2 (y :: l)

theorem spl1_ne (cur s : T) : spl1 cur s ≠ [] := by
  induction s generalizing cur with
  | nil => simp [spl1]
  | cons c s ih => rw [spl1]; split <;> simp [ih]
theorem join1_cons (x : T) {l : List T} (h : l ≠ []) : join1 (x :: l) = x ++ 32 :: join1 l := by
  cases l with
  | nil => exact absurd rfl h
  | cons y l => rfl
theorem join1_spl1 : ∀ (s cur : T), join1 (spl1 cur s) = cur ++ s
  | [], cur => by simp [spl1, join1]
  | c :: s, cur => by
    rw [spl1]
    split
    · rename_i h
      rw [join1_cons _ (spl1_ne _ _), join1_spl1 s []]; simp [h]
    · rw [join1_spl1 s]; simp
theorem spl1_word (w cur s : T) (h : ∀ c ∈ w, c ≠ 32) : spl1 cur (w ++ s) = spl1 (cur ++ w) s := by
  induction w generalizing cur with
  | nil => simp
  | cons c w ih =>
    rw [List.cons_append, spl1, if_neg (h c (by simp)), ih _ (fun d hd => h d (by simp [hd]))]; simp
theorem spl1_join1 : ∀ (l : List T), l ≠ [] → (∀ x ∈ l, ∀ c ∈ x, c ≠ 32) → spl1 [] (join1 l) = l
  | [], h, _ => absurd rfl h
  | [x], _, hx => by
    have := spl1_word x [] [] (hx x (by simp))
    simpa [join1, spl1] using this
  | x :: y :: l, _, hx => by
    rw [join1_cons x (by simp), spl1_word x [] _ (hx x (by simp))]
    rw [spl1, if_pos rfl, spl1_join1 (y :: l) (by simp) (fun z hz => hx z (by simp [hz]))]
    simp

theorem spl2_ne : ∀ (s cur : T), spl2 cur s ≠ []
  | [], cur => by simp [spl2]
  | [c], cur => by simp [spl2]
  | c :: d :: s, cur => by rw [spl2]; split <;> simp [spl2_ne (d :: s)]
theorem join2_cons (x : T) {l : List T} (h : l ≠ []) : join2 (x :: l) = x ++ 59 :: 32 :: join2 l := by
  cases l with
  | nil => exact absurd rfl h
  | cons y l => rfl
theorem join2_spl2 : ∀ (s cur : T), join2 (spl2 cur s) = cur ++ s
  | [], cur => by simp [spl2, join2]
  | [c], cur => by simp [spl2, join2]
  | c :: d :: s, cur => by
    rw [spl2]
    split
    · rename_i h
      rw [join2_cons _ (spl2_ne _ _), join2_spl2 s []]; simp [h.1, h.2]
    · rw [join2_spl2 (d :: s)]; simp
theorem spl2_step (c : UInt8) (s cur : T) (h : c ≠ 59) : spl2 cur (c :: s) = spl2 (cur ++ [c]) s := by
  cases s with
  | nil => simp [spl2]
  | cons d s => rw [spl2, if_neg (fun e => h e.1)]
theorem spl2_word (w cur s : T) (h : ∀ c ∈ w, c ≠ 59) : spl2 cur (w ++ s) = spl2 (cur ++ w) s := by
  induction w generalizing cur with
  | nil => simp
  | cons c w ih =>
    rw [List.cons_append, spl2_step c _ _ (h c (by simp)), ih _ (fun d hd => h d (by simp [hd]))]; simp
theorem spl2_join2 : ∀ (l : List T), l ≠ [] → (∀ x ∈ l, ∀ c ∈ x, c ≠ 59) → spl2 [] (join2 l) = l
  | [], h, _ => absurd rfl h
  | [x], _, hx => by
    have := spl2_word x [] [] (hx x (by simp))
    simpa [join2, spl2] using this
  | x :: y :: l, _, hx => by
    rw [join2_cons x (by simp), spl2_word x [] _ (hx x (by simp))]
    rw [spl2, if_pos ⟨rfl, rfl⟩, spl2_join2 (y :: l) (by simp) (fun z hz => hx z (by simp [hz]))]
    simp
theorem join1_mem {c : UInt8} : ∀ {l : List T}, c ∈ join1 l → c = 32 ∨ ∃ x ∈ l, c ∈ x
  | [], h => by simp [join1] at h
  | [x], h => .inr ⟨x, by simp, by simpa [join1] using h⟩
  | x :: y :: l, h => by
    rw [join1_cons x (by simp)] at h
    rcases List.mem_append.1 h with h | h
    · exact .inr ⟨x, by simp, h⟩
    · rcases List.mem_cons.1 h with h | h
      · exact .inl h
      · rcases join1_mem h with h | ⟨z, hz, h⟩
        · exact .inl h
        · exact .inr ⟨z, by simp [hz], h⟩

/-! ### A deed's words -/
def keyT (k : ByteArray) : T := k.data.toList
def ofT (t : T) : ByteArray := ⟨t.toArray⟩
theorem ofT_keyT (k : ByteArray) : ofT (keyT k) = k := by cases k; simp [ofT, keyT]
theorem keyT_ofT (t : T) : keyT (ofT t) = t := by simp [ofT, keyT]
def wReads : T := [114, 101, 97, 100, 115]
def wWrites : T := [119, 114, 105, 116, 101, 115]
/-- The words of instructions: load, const, add, sub, mul, store, drop, skip, fail. -/
def word (k : Nat) : T := match k with
  | 1 => [108, 111, 97, 100]
  | 2 => [99, 111, 110, 115, 116]
  | 3 => [97, 100, 100]
  | 4 => [115, 117, 98]
  | 5 => [109, 117, 108]
  | 6 => [115, 116, 111, 114, 101]
  | 7 => [100, 114, 111, 112]
  | 8 => [115, 107, 105, 112]
  | 9 => [102, 97, 105, 108]
  | _ => []
def reg (n : Int) : T := 114 :: itoa n
def insWords (i : Ins) : List T :=
  if i.kind = 1 then [word 1, reg i.a, keyT i.key]
  else if i.kind = 2 then [word 2, reg i.a, itoa i.n]
  else if i.kind = 3 then [word 3, reg i.a, reg i.b]
  else if i.kind = 4 then [word 4, reg i.a, reg i.b]
  else if i.kind = 5 then [word 5, reg i.a, reg i.b]
  else if i.kind = 6 then [word 6, reg i.a, keyT i.key]
  else if i.kind = 7 then [word 7, keyT i.key]
  else if i.kind = 8 then [word 8, reg i.a, itoa i.n]
  else [word 9, reg i.a]
def partsOf (R W : List ByteArray) (C : List Ins) : List (List T) := (wReads :: R.map keyT) :: (wWrites :: W.map keyT) :: C.map insWords
def printT (R W : List ByteArray) (C : List Ins) : T := join2 ((partsOf R W C).map join1)

/-! ### Read -/
/-- The kind that a word is; 0: none. -/
def kindOf (w : T) : Nat :=
  if w = word 1 then 1 else if w = word 2 then 2 else if w = word 3 then 3 else if w = word 4 then 4 else if w = word 5 then 5 else if w = word 6 then 6 else if w = word 7 then 7 else if w = word 8 then 8 else if w = word 9 then 9 else 0
def regOf : T → Option Int
  | [] => none
  | c :: r => if c = 114 then numOf r else none
/-- One instruction's words, read. -/
def readIns (l : List T) : Int × Ins :=
  let k := kindOf (l.headD [])
  if k = 0 then (1, default)
  else if k = 1 ∨ k = 6 then match l with
    | [_, x, y] => (match regOf x with | some a => (0, ((k : Int), a, 0, 0, ofT y)) | none => (2, default))
    | _ => (2, default)
  else if k = 2 ∨ k = 8 then match l with
    | [_, x, y] => (match regOf x with | some a => (match numOf y with | some n => (0, ((k : Int), a, 0, n, ⟨#[]⟩)) | none => (2, default)) | none => (2, default))
    | _ => (2, default)
  else if k = 7 then match l with
    | [_, y] => (0, (7, 0, 0, 0, ofT y))
    | _ => (2, default)
  else if k = 9 then match l with
    | [_, x] => (match regOf x with | some a => (0, (9, a, 0, 0, ⟨#[]⟩)) | none => (2, default))
    | _ => (2, default)
  else match l with
    | [_, x, y] => (match regOf x with | some a => (match regOf y with | some b => (0, ((k : Int), a, b, 0, ⟨#[]⟩)) | none => (2, default)) | none => (2, default))
    | _ => (2, default)
def readCode : List T → Int × List Ins
  | [] => (0, [])
  | p :: ps => match readIns (spl1 [] p) with
    | (0, i) => (match readCode ps with
      | (0, C) => (0, i :: C)
      | (e, _) => (e, []))
    | (e, _) => (e, [])
/-- A text, read: an error, or 0 and a deed. -/
def readT (s : T) : Int × List ByteArray × List ByteArray × List Ins :=
  if 400 < s.length then (4, [], [], [])
  else match spl2 [] s with
    | p0 :: p1 :: ps =>
      if (spl1 [] p0).headD [] ≠ wReads then (2, [], [], [])
      else if (spl1 [] p1).headD [] ≠ wWrites then (2, [], [], [])
      else match readCode ps with
        | (0, C) =>
          let R := ((spl1 [] p0).drop 1).map ofT
          let W := ((spl1 [] p1).drop 1).map ofT
          if wDeed R W C = 0 then (0, R, W, C) else (wDeed R W C, [], [], [])
        | (e, _) => (e, [], [], [])
    | _ => (8, [], [], [])
end Go.Proofs.YtdnafpenljdinadDoor
