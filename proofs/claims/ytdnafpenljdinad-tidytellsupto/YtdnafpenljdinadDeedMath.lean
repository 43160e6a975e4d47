/-
  What it means that a slice in memory holds cells, of whatever type, and how an append onto a row of the call's own goes.
  Plain mathematics of deeds, with no program in sight: what is wrong with a deed, and how a right one ends.
-/
import Derived.Test.YtdnafpenljdinadConcat
import Derived.Test.YtdnafpenljdinadMath
import Derived.WalkKit
namespace Go.Proofs.Ytdnafpenljdinad
open Go.RowKit

/-- From block b, place o on lie these values. -/
def Run (w : World) (b o : Nat) (vs : List Value) : Prop := ∀ j u, vs[j]? = some u → w.cell? ⟨b, o + j, none⟩ = some u

/-- A slice of n elements, of sz cells each, holds these values. -/
structure Lies (w : World) (sz : Nat) (base : Option Addr) (n c : Nat) (vs : List Value) : Prop where
  len : vs.length = n * sz
  hdr : Hdr base n c
  run : n = 0 ∨ ∃ b o, base = some ⟨b, o, none⟩ ∧ Run w b o vs

theorem Run.lt {w : World} {b o : Nat} {vs : List Value} (h : Run w b o vs) (hl : 0 < vs.length) : b < w.heap.size := by
  have := h 0 vs[0] (by simp [hl])
  simpa using World.block_lt_of_cell? _ _ this
theorem Run.below {w w' : World} {b o B : Nat} {vs : List Value} (h : Run w b o vs) (hb : Below B w w') (hB : b < B) : Run w' b o vs := fun j u hu => by
  rw [hb.cell (p := ⟨b, o + j, none⟩) hB]; exact h j u hu
theorem Lies.below {w w' : World} {sz : Nat} (hsz : 0 < sz) {base : Option Addr} {n c : Nat} {vs : List Value} (h : Lies w sz base n c vs) (hb : Below w.heap.size w w') : Lies w' sz base n c vs := by
  refine ⟨h.len, h.hdr, ?_⟩
  rcases h.run with h0 | ⟨b, o, e, hr⟩
  · exact .inl h0
  · by_cases h0 : n = 0
    · exact .inl h0
    · refine .inr ⟨b, o, e, hr.below hb (hr.lt ?_)⟩
      rw [h.len]
      exact Nat.mul_pos (by omega) hsz
theorem Lies.none (w : World) (sz : Nat) : Lies w sz none 0 0 [] := ⟨by simp, ⟨Nat.le_refl _, Nat.zero_le _, fun _ => rfl⟩, .inl rfl⟩

/-- What a row that the call owns holds. -/
theorem Lies.owned {w : World} {B e sz n : Nat} {v : Value} {vs : List Value} (h : w.ownsRow B e sz v n vs) : ∃ base c, v = .slice base n c ∧ Lies w sz base n c vs := by
  have hl := h.1
  rcases h.2 with ⟨rfl, rfl⟩ | ⟨g, cap, cur, rfl, _, _, hnc, hcm, _, _⟩
  · exact ⟨_, 0, rfl, ⟨hl, ⟨Nat.le_refl _, Nat.zero_le _, fun _ => rfl⟩, .inl rfl⟩⟩
  · refine ⟨some ⟨g, 0, Option.none⟩, cap, rfl, ⟨hl, ⟨hnc, hcm, fun h => by cases h⟩, .inr ⟨g, 0, rfl, fun j u hu => ?_⟩⟩⟩
    have := h.cells rfl j u hu
    rwa [Addr.add_lit] at this

/-- An append of what lies anywhere onto a row that the call owns: e is the elements' type, t the slices'. -/
theorem wpList_onto (w : World) {ops : Array Oper} {rest : List Oper} {o : Oper} {a : Act} {Q : Exit → Act → World → Prop} (hgd : o.guard = Option.none) (s x : Operand) (t e sz bytes : Nat) (z : Value)
    (hu : Try.prog.underlying t = some (.slice e)) (hinfo : (Try.prog.info? e).map (fun i => (i.zero, i.size, i.bytes)) = some (some z, sz, bytes)) (hzc : z.cells.size = sz) (hsz : 0 < sz) (hby : 0 < bytes)
    (ho : o.op = .call { callee := .builtin .append, args := #[s, x], argTypes := #[t, t] })
    (B : Nat) (v : Value) (n : Nat) (l : List Value) (hs : a.eval s = v) (hown : w.ownsRow B e sz v n l) (base : Option Addr) (m c : Nat) (l2 : List Value) (hx : a.eval x = .slice base m c) (hh : Lies w sz base m c l2) (hone : ∀ u ∈ l2, u.oneCell' = true)
    (hbytes : (n + m) * bytes ≤ 140737488355328) (hB : B ≤ w.heap.size)
    (h : ∀ v' w', w'.ownsRow B e sz v' (n + m) (l ++ l2) → w.grownBy w' v.ownBlock → wpList Try.prog ops Q rest (a.put o.dst v') w') : wpList Try.prog ops Q (o :: rest) a w := by
  obtain ⟨i0, hi, hz0, hz1, hz2⟩ := info_parts hinfo
  have hlen := hh.len
  have h63 : n + m ≤ maxLen := by
    have := Nat.le_mul_of_pos_right (n + m) hby
    unfold maxLen; omega
  have key : ∀ ad, base = some ad → (∀ j u, l2[j]? = some u → w.cell? (ad.add j) = some u) → wpList Try.prog ops Q (o :: rest) a w := fun ad had hnews =>
    wpList_append_own w hgd s x t ho B e i0 _ sz bytes hu hi hz0 hz1 hz2 hzc hsz v n l hs hown ad m c l2 (by rw [hx, had]) hlen hnews hone h63 hbytes hB
      (fun v' w' h1 h2 _ => h v' w' h1 h2)
  cases base with
  | some ad =>
    rcases hh.run with he | ⟨b, o', he, hc⟩
    · subst he
      have : l2 = [] := List.eq_nil_of_length_eq_zero (by omega)
      exact key ad rfl (fun j u hu => by rw [this] at hu; simp at hu)
    · cases he
      exact key _ rfl (fun j u hu => by rw [Addr.add_lit]; exact hc j u hu)
  | none =>
    obtain rfl := hh.hdr.nil rfl
    obtain rfl : m = 0 := by have := hh.hdr.le; omega
    have hl2 : l2 = [] := List.eq_nil_of_length_eq_zero (by omega)
    refine wpList_plain hgd fun K hK' => ?_
    have hrun := run_append_owned_none (P := Try.prog) w B t o.type e i0 sz hu hi v n l hown
    unfold Oper.wp
    simp [execOp, ho, resolve, invoke, builtin, hs, hx, hrun, Result.andThen]
    exact hK' _ _ (h v w (by rw [hl2]; simpa using hown) (World.grownBy.refl _ _))

/-- Texts as cells. -/
def strs (l : List ByteArray) : List Value := l.map Value.string
theorem strs_length (l : List ByteArray) : (strs l).length = l.length := by simp [strs]
theorem strs_at {l : List ByteArray} {i : Nat} (h : i < l.length) : (strs l)[i]? = some (.string (l.getD i default)) := by simp [strs, List.getD, h]
theorem strs_one (l : List ByteArray) : ∀ u ∈ strs l, u.oneCell' = true := fun u hu => by
  simp [strs] at hu; obtain ⟨x, _, rfl⟩ := hu; rfl
theorem strs_append (l m : List ByteArray) : strs (l ++ m) = strs l ++ strs m := by simp [strs]
abbrev Texts (w : World) (base : Option Addr) (n c : Nat) (l : List ByteArray) : Prop := Lies w 1 base n c (strs l)
theorem Texts.count {w : World} {base : Option Addr} {n c : Nat} {l : List ByteArray} (h : Texts w base n c l) : n = l.length := by have := h.len; rw [strs_length] at this; omega
theorem Texts.take {w : World} {base : Option Addr} {n c : Nat} {l : List ByteArray} (h : Texts w base n c l) {k : Nat} (hk : k ≤ n) : Texts w base k c (l.take k) := by
  have hn := Texts.count h
  refine ⟨by rw [strs_length]; simp; omega, ⟨Nat.le_trans hk h.hdr.le, h.hdr.max, h.hdr.nil⟩, ?_⟩
  rcases h.run with h0 | ⟨b, o, e, hr⟩
  · exact .inl (by omega)
  · refine .inr ⟨b, o, e, fun j u hu => hr j u ?_⟩
    simp [strs, List.getElem?_take] at hu ⊢
    exact hu.2
theorem strInfo : (Try.prog.info? 9).map (fun i => (i.zero, i.size, i.bytes)) = some (some (.string ByteArray.empty), 1, 16) := by kernel_rfl
end Go.Proofs.Ytdnafpenljdinad

namespace Go.Proofs.Ytdnafpenljdinad
open Go.RowKit

/-- An instruction: kind, A, B, N, key. -/
abbrev Ins := Int × Int × Int × Int × ByteArray
abbrev Ins.kind (i : Ins) : Int := i.1
abbrev Ins.a (i : Ins) : Int := i.2.1
abbrev Ins.b (i : Ins) : Int := i.2.2.1
abbrev Ins.n (i : Ins) : Int := i.2.2.2.1
abbrev Ins.key (i : Ins) : ByteArray := i.2.2.2.2

/-- Is k among them? -/
def has (l : List ByteArray) (k : ByteArray) : Bool := l.any (fun x => decide (x = k))
theorem has_snoc (l : List ByteArray) (x k : ByteArray) : has (l ++ [x]) k = (has l k || decide (x = k)) := by simp [has]
theorem has_iff {l : List ByteArray} {k : ByteArray} : has l k = true ↔ k ∈ l := by simp [has]
theorem take_snoc_getD {α : Type} [Inhabited α] {l : List α} {i : Nat} (h : i < l.length) : l.take (i + 1) = l.take i ++ [l.getD i default] := by
  rw [List.take_succ_eq_append_getElem h]; simp [List.getD, h]
theorem has_take_false {l : List ByteArray} {k : ByteArray} (i : Nat) (h : has l k = false) : has (l.take i) k = false := by
  simp only [has, List.any_eq_false] at *
  exact fun x hx => h x (List.mem_of_mem_take hx)
theorem has_take_true {l : List ByteArray} {k : ByteArray} {i : Nat} (h : has (l.take i) k = true) : has l k = true := by
  rw [has_iff] at *; exact List.mem_of_mem_take h

/-! ### What is wrong with keys -/
def badAt (l : List ByteArray) (i : Nat) : Bool := !keyB (l.getD i default) || has (l.take i) (l.getD i default)
def badTo (l : List ByteArray) : Nat → Bool
  | 0 => false
  | k + 1 => badTo l k || badAt l k
def wKeys (l : List ByteArray) : Int := if 5 < l.length then 5 else if badTo l l.length = true then 7 else 0
theorem badTo_mono {l : List ByteArray} {k : Nat} (h : badTo l k = true) : ∀ d, badTo l (k + d) = true
  | 0 => h
  | d + 1 => by
    show (badTo l (k + d) || badAt l (k + d)) = true
    rw [badTo_mono h d]; rfl
theorem badTo_all {l : List ByteArray} {k : Nat} (hk : k < l.length) (h : badAt l k = true) : badTo l l.length = true := by
  have : badTo l (k + 1) = true := by simp [badTo, h]
  have := badTo_mono this (l.length - (k + 1))
  rwa [show k + 1 + (l.length - (k + 1)) = l.length from by omega] at this
theorem badTo_false {l : List ByteArray} {k : Nat} (h : badTo l k = false) : ∀ i, i < k → badAt l i = false := by
  induction k with
  | zero => intro i hi; omega
  | succ k ih =>
    simp only [badTo, Bool.or_eq_false_iff] at h
    intro i hi
    by_cases e : i = k
    · rw [e]; exact h.2
    · exact ih h.1 i (by omega)
theorem wKeys_len {l : List ByteArray} (h : wKeys l = 0) : l.length ≤ 5 := by
  unfold wKeys at h
  split at h
  · cases h
  · omega
theorem wKeys_bad {l : List ByteArray} (h : wKeys l = 0) : badTo l l.length = false := by
  unfold wKeys at h
  split at h
  · cases h
  · split at h
    · cases h
    · rename_i h2; simpa using h2
theorem wKeys_key {l : List ByteArray} (h : wKeys l = 0) {k : ByteArray} (hk : k ∈ l) : keyB k = true := by
  obtain ⟨i, hi, rfl⟩ := List.getElem_of_mem hk
  have := badTo_false (wKeys_bad h) i hi
  simp only [badAt, Bool.or_eq_false_iff] at this
  simpa [List.getD, hi] using this.1
theorem wKeys_nodup {l : List ByteArray} (h : wKeys l = 0) : l.Nodup := by
  rw [List.nodup_iff_pairwise_ne, List.pairwise_iff_getElem]
  intro i j hi hj hij e
  have := badTo_false (wKeys_bad h) j hj
  simp only [badAt, Bool.or_eq_false_iff] at this
  have h2 := this.2
  have : has (l.take j) (l.getD j default) = true := by
    rw [has_iff, List.mem_take_iff_getElem]
    exact ⟨i, by omega, by simp [List.getD, hj, e]⟩
  rw [this] at h2; cases h2

/-! ### What is wrong with instructions -/
def regFit (n : Int) (h : Bool) : Bool := if h then decide (0 ≤ n) && decide (n < 4) else decide (n = 0)
def hasB (kind : Int) : Bool := decide (kind = 3) || decide (kind = 4) || decide (kind = 5)
def regsFit (i : Ins) : Bool := regFit i.a (!decide (i.kind = 7)) && regFit i.b (hasB i.kind)
def numFit (i : Ins) (behind : Int) : Bool := if i.kind = 2 then decide (-1073741824 ≤ i.n) && decide (i.n ≤ 1073741824) else if i.kind = 8 then decide (1 ≤ i.n) && decide (i.n ≤ behind) else decide (i.n = 0)
def noKey (l : List ByteArray) (k : ByteArray) : Int := if has l k = true then 0 else 9
def wIns (R W : List ByteArray) (i : Ins) (behind : Int) : Int :=
  if i.kind < 1 ∨ 9 < i.kind then 1
  else if regsFit i = false ∨ numFit i behind = false then 3
  else if i.kind = 1 then noKey R i.key
  else if i.kind = 6 ∨ i.kind = 7 then noKey W i.key
  else if i.key.size = 0 then 0 else 2
def wCode (R W : List ByteArray) (C : List Ins) : Nat → Int
  | 0 => 0
  | k + 1 => if wCode R W C k = 0 then wIns R W (C.getD k default) ((C.length : Int) - 1 - k) else wCode R W C k
def wDeed (R W : List ByteArray) (C : List Ins) : Int :=
  if wKeys R ≠ 0 then wKeys R else if wKeys W ≠ 0 then wKeys W else if 12 < C.length then 5 else wCode R W C C.length

theorem wCode_stays {R W : List ByteArray} {C : List Ins} {k : Nat} (h : wCode R W C k ≠ 0) : ∀ d, wCode R W C (k + d) = wCode R W C k
  | 0 => rfl
  | d + 1 => by
    have := wCode_stays h d
    show wCode R W C (k + d + 1) = _
    rw [wCode, this, if_neg h]
theorem wCode_at {R W : List ByteArray} {C : List Ins} {k : Nat} (hk : k < C.length) (h0 : wCode R W C k = 0) (h : wIns R W (C.getD k default) ((C.length : Int) - 1 - k) ≠ 0) : wCode R W C C.length = wIns R W (C.getD k default) ((C.length : Int) - 1 - k) := by
  have e : wCode R W C (k + 1) = wIns R W (C.getD k default) ((C.length : Int) - 1 - k) := by rw [wCode, if_pos h0]
  have := wCode_stays (R := R) (W := W) (C := C) (k := k + 1) (by rw [e]; exact h) (C.length - (k + 1))
  rw [show k + 1 + (C.length - (k + 1)) = C.length from by omega, e] at this
  exact this
theorem wCode_step {R W : List ByteArray} {C : List Ins} {k : Nat} (h0 : wCode R W C k = 0) (h : wIns R W (C.getD k default) ((C.length : Int) - 1 - k) = 0) : wCode R W C (k + 1) = 0 := by
  rw [wCode, if_pos h0, h]
theorem wCode_all {R W : List ByteArray} {C : List Ins} {k : Nat} (h : wCode R W C k = 0) : ∀ i, i < k → wIns R W (C.getD i default) ((C.length : Int) - 1 - i) = 0 := by
  induction k with
  | zero => intro i hi; omega
  | succ k ih =>
    rw [wCode] at h
    by_cases h0 : wCode R W C k = 0
    · rw [if_pos h0] at h
      intro i hi
      by_cases e : i = k
      · rw [e]; exact h
      · exact ih h0 i (by omega)
    · rw [if_neg h0] at h; exact absurd h h0

/-- A right deed. -/
structure RightD (R W : List ByteArray) (C : List Ins) : Prop where
  r : wKeys R = 0
  w : wKeys W = 0
  c : C.length ≤ 12
  i : ∀ k, k < C.length → wIns R W (C.getD k default) ((C.length : Int) - 1 - k) = 0
theorem right_deed {R W : List ByteArray} {C : List Ins} (h : wDeed R W C = 0) : RightD R W C := by
  unfold wDeed at h
  split at h
  · rename_i h1; exact absurd h h1
  split at h
  · rename_i _ h1; exact absurd h h1
  split at h
  · cases h
  · rename_i h1 h2 h3
    exact ⟨by simpa using h1, by simpa using h2, by omega, wCode_all h⟩

/-- What a right instruction is. -/
structure RightI (R W : List ByteArray) (i : Ins) (behind : Int) : Prop where
  lo : 1 ≤ i.kind
  hi : i.kind ≤ 9
  a0 : 0 ≤ i.a
  a4 : i.a < 4
  b0 : 0 ≤ i.b
  b4 : i.b < 4
  skip : i.kind = 8 → 1 ≤ i.n ∧ i.n ≤ behind
  load : i.kind = 1 → has R i.key = true
  write : i.kind = 6 ∨ i.kind = 7 → has W i.key = true
theorem regFit_bounds {n : Int} {h : Bool} (e : regFit n h = true) : 0 ≤ n ∧ n < 4 := by
  cases h <;> simp [regFit] at e <;> omega
theorem noKey_has {l : List ByteArray} {k : ByteArray} (h : noKey l k = 0) : has l k = true := by
  unfold noKey at h; split at h
  · assumption
  · cases h
theorem right_instr {R W : List ByteArray} {i : Ins} {behind : Int} (h : wIns R W i behind = 0) : RightI R W i behind := by
  unfold wIns at h
  split at h
  · cases h
  split at h
  · cases h
  rename_i h1 h2
  have h3 : regsFit i = true ∧ numFit i behind = true := by
    constructor
    · cases e : regsFit i with
      | true => rfl
      | false => exact absurd (.inl e) h2
    · cases e : numFit i behind with
      | true => rfl
      | false => exact absurd (.inr e) h2
  obtain ⟨hr, hn⟩ := h3
  simp only [regsFit, Bool.and_eq_true] at hr
  have ha := regFit_bounds hr.1
  have hb := regFit_bounds hr.2
  refine ⟨by omega, by omega, ha.1, ha.2, hb.1, hb.2, fun e => ?_, fun e => ?_, fun e => ?_⟩
  · simp [numFit, e] at hn; exact hn
  · rw [if_pos e] at h; exact noKey_has h
  · rw [if_neg (by omega), if_pos e] at h; exact noKey_has h

/-! ### How a deed ends -/
abbrev Made := ByteArray → Option (Option Int)
def setR (r : Nat → Int) (i : Nat) (x : Int) : Nat → Int := fun j => if j = i then x else r j
def setM (m : Made) (k : ByteArray) (x : Option Int) : Made := fun j => if j = k then some x else m j
/-- What a key has for the deed: its own doings hide what it sees. -/
def look (v : ByteArray → Int) (m : Made) (k : ByteArray) : Int := match m k with
  | some (some n) => n
  | some none => 0
  | none => v k
def zeroR : Nat → Int := fun _ => 0
def zeroM : Made := fun _ => none
def rnd (x : Int) : Int := (wrap64 x).tmod 1073741825
/-- The instructions, of which the first k are passed over: the registers, what was made, and whether it failed. -/
def exec (v : ByteArray → Int) : List Ins → Nat → (Nat → Int) → Made → (Nat → Int) × Made × Bool
  | [], _, r, m => (r, m, false)
  | _ :: l, k + 1, r, m => exec v l k r m
  | i :: l, 0, r, m =>
    if i.kind = 1 then exec v l 0 (setR r i.a.toNat (look v m i.key)) m
    else if i.kind = 2 then exec v l 0 (setR r i.a.toNat i.n) m
    else if i.kind = 3 then exec v l 0 (setR r i.a.toNat (rnd (r i.a.toNat + r i.b.toNat))) m
    else if i.kind = 4 then exec v l 0 (setR r i.a.toNat (rnd (r i.a.toNat - r i.b.toNat))) m
    else if i.kind = 5 then exec v l 0 (setR r i.a.toNat (rnd (r i.a.toNat * r i.b.toNat))) m
    else if i.kind = 6 then exec v l 0 r (setM m i.key (some (r i.a.toNat)))
    else if i.kind = 7 then exec v l 0 r (setM m i.key none)
    else if i.kind = 8 then exec v l (if r i.a.toNat ≤ 0 then i.n.toNat else 0) r m
    else if r i.a.toNat < 0 then (r, m, true) else exec v l 0 r m
theorem exec_drop (v : ByteArray → Int) : ∀ (l : List Ins) (k : Nat) (r : Nat → Int) (m : Made), exec v l k r m = exec v (l.drop k) 0 r m
  | [], k, r, m => by simp [exec]
  | i :: l, 0, r, m => by simp
  | i :: l, k + 1, r, m => by
    rw [exec, List.drop_succ_cons]; exact exec_drop v l k r m
theorem drop_at {C : List Ins} {k : Nat} (h : k < C.length) : C.drop k = C.getD k default :: C.drop (k + 1) := by
  rw [List.drop_eq_getElem_cons h]; simp [List.getD, h]
/-- What the deed made, in the order of the keys it names. -/
def vers (m : Made) (W : List ByteArray) : List (ByteArray × Option Int) := W.filterMap (fun k => (m k).map (fun o => (k, o)))
theorem vers_snoc (m : Made) (W : List ByteArray) (k : ByteArray) : vers m (W ++ [k]) = vers m W ++ (match m k with | some o => [(k, o)] | none => []) := by
  unfold vers; rw [List.filterMap_append]
  cases h : m k <;> simp [h]
end Go.Proofs.Ytdnafpenljdinad
