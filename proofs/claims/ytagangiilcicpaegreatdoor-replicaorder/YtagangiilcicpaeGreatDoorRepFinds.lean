/-
  Plain mathematics of one deed that counts up: its text, and what it comes to.
  The closed fact that the statements of chapter 4 ask first is so.
  Plain mathematics of what is done: an engine is told by what was planned and what is done; all is done at last, whichever goes first; going on with one changes no other one, nor what is made; who was ready is so still, or is the one.
  Plain mathematics of replicas: twice is once, in whatever order, and forgotten or not; and that all deeds are done at last.
  Plain mathematics of a deed that is done: what each key that it writes has then, as the program takes it from what Run made, or from what the key had.
  Plain mathematics of what is forgotten: it goes on the same, and what is done leaves one version each.
  Plain mathematics of what chapter 10 asks of replicas: what they are built of, in whatever order entries come, and that what is forgotten is not missed.
  What it means that a replica lies in memory: its engine, its number, and the entries that came too soon.
  Where among entries one of a number is first: slices.IndexFunc and slices.ContainsFunc over the program's closures.
-/
import Derived.Test.YtagangiilcicpaeGreatDoorOpenDeeds
import Derived.Test.YtagangiilcicpaeGreatDoorTextBack
import Derived.Test.YtagangiilcicpaeGreatDoorDoMath
import Derived.Test.YtagangiilcicpaeGreatDoorRefParse
import Derived.Test.YtagangiilcicpaeGreatDoorOpenBatches
import Derived.Test.YtagangiilcicpaeGreatDoorPlanMath
import Derived.Test.YtagangiilcicpaeGreatDoorOpenEnts
import Derived.Test.YtagangiilcicpaeGreatDoorDeedTurn
import Derived.Test.YtagangiilcicpaeGreatDoorRefNew
namespace Go.Proofs.YtagangiilcicpaeGreatDoor
open Go.RowKit

def oneA : ByteArray := ⟨#[97]⟩
def oneE : ByteArray := ⟨#[]⟩
def oneI : List Ins := [(1, 0, 0, 0, oneA), (2, 1, 0, 1, oneE), (3, 0, 1, 0, oneE), (6, 0, 0, 0, oneA)]
def oneD : Deed3 := ([oneA], [oneA], oneI)
/-- reads a; writes a; load r0 a; const r1 1; add r0 r1; store r0 a -/
def oneT : T := [114, 101, 97, 100, 115, 32, 97, 59, 32, 119, 114, 105, 116, 101, 115, 32, 97, 59, 32, 108, 111, 97, 100, 32, 114, 48, 32, 97, 59, 32, 99, 111, 110, 115, 116, 32, 114, 49, 32, 49, 59, 32, 97, 100, 100, 32, 114, 48, 32, 114, 49, 59, 32, 115, 116, 111, 114, 101, 32, 114, 48, 32, 97]
theorem one_right : wDeed [oneA] [oneA] oneI = 0 := by decide
theorem one_digits {d : Nat} (h : d < 10) : Lib.decDigits d = [UInt8.ofNat (48 + d)] := by rw [Lib.decDigits, dif_pos h]
theorem one_itoa0 : Lib.itoa 0 = [48] := by
  have := Lib.itoa_nonneg 0
  rw [one_digits (by decide)] at this
  exact this
theorem one_itoa1 : Lib.itoa 1 = [49] := by
  have := Lib.itoa_nonneg 1
  rw [one_digits (by decide)] at this
  exact this
theorem one_text : printT [oneA] [oneA] oneI = oneT := by
  unfold printT partsOf oneI
  have h1 : insWords (1, 0, 0, 0, oneA) = [word 1, [114, 48], [97]] := by
    show [word 1, reg 0, keyT oneA] = _
    unfold reg; rw [one_itoa0]; rfl
  have h2 : insWords (2, 1, 0, 1, oneE) = [word 2, [114, 49], [49]] := by
    show [word 2, reg 1, Lib.itoa 1] = _
    unfold reg; rw [one_itoa1]
  have h3 : insWords (3, 0, 1, 0, oneE) = [word 3, [114, 48], [114, 49]] := by
    show [word 3, reg 0, reg 1] = _
    unfold reg; rw [one_itoa0, one_itoa1]
  have h4 : insWords (6, 0, 0, 0, oneA) = [word 6, [114, 48], [97]] := by
    show [word 6, reg 0, keyT oneA] = _
    unfold reg; rw [one_itoa0]; rfl
  simp only [List.map_cons, List.map_nil]
  rw [h1, h2, h3, h4]
  rfl
theorem one_read : readT oneT = (0, [oneA], [oneA], oneI) := by rw [← one_text]; exact read_print one_right
theorem one_small : SmallT [oneA] := by
  intro x hx; simp at hx; subst hx; decide
theorem oneRight : RightDD oneD := right_deed one_right

/-! ### What it comes to -/
end Go.Proofs.YtagangiilcicpaeGreatDoor

namespace Go.Proofs.YtagangiilcicpaeGreatDoor
open Go.RowKit

/-- How read ends, of a text that is a deed's. -/
def ReadTold (w w' : World) (d : Deed3) (e : Ending) : Prop :=
  ∃ rb rn rc wb wn wc cb cn cc, e = .returned (.agg #[.slice rb rn rc, .slice wb wn wc, .slice cb cn cc]) ∧ DeedIn w' rb rn rc wb wn wc cb cn cc d.1 d.2.1 d.2.2 ∧ Below w.heap.size w w'

end Go.Proofs.YtagangiilcicpaeGreatDoor

namespace Go.Proofs.YtagangiilcicpaeGreatDoor
open Go.RowKit

/-! ### An engine is told by what was planned and what is done -/
/-! ### How many wait -/
/-! ### Going on with one -/
/-! ### Behind all deeds -/
end Go.Proofs.YtagangiilcicpaeGreatDoor

namespace Go.Proofs.YtagangiilcicpaeGreatDoor
open Go.RowKit

/-! ### Twice is once -/
theorem had_pull : ∀ (f : Nat) (r : Rep) (e : Ent), hadR r e = true → hadR (pullR f r) e = true
  | 0, _, _, h => h
  | f + 1, r, e, h => by
    rw [pullR]
    split
    · exact h
    · rename_i x hx
      refine had_pull f _ e ?_
      unfold hadR at h ⊢
      simp only [Bool.or_eq_true, decide_eq_true_eq] at h ⊢
      rcases h with h | h
      · exact .inl (by omega)
      · obtain ⟨y, hy, he⟩ := List.any_eq_true.1 h
        have hye : y.1 = e.1 := by simpa [isNum] using he
        by_cases hn : e.1 = r.next
        · exact .inl (by omega)
        · refine .inr (List.any_eq_true.2 ⟨y, List.mem_filter.2 ⟨hy, ?_⟩, he⟩)
          have : y.1 ≠ r.next := by rw [hye]; exact hn
          simpa [isNum] using this
theorem had_come (r : Rep) (e x : Ent) (h : hadR r x = true) : hadR (comeR r e).1 x = true := by
  unfold comeR
  split
  · exact h
  · split
    · split
      · exact h
      · unfold hadR at h ⊢
        simp only [Bool.or_eq_true, decide_eq_true_eq] at h ⊢
        rcases h with h | h
        · exact .inl h
        · exact .inr (by rw [List.any_append, h]; rfl)
    · refine had_pull _ _ _ ?_
      unfold hadR at h ⊢
      simp only [Bool.or_eq_true, decide_eq_true_eq] at h ⊢
      rcases h with h | h
      · exact .inl (by omega)
      · exact .inr h
theorem come_had (r : Rep) (e : Ent) (h : (comeR r e).2 ≠ 5) : hadR (comeR r e).1 e = true := by
  unfold comeR at h ⊢
  split
  · rename_i h1; exact h1
  · rename_i h1
    rw [if_neg h1] at h
    split
    · rename_i h2
      rw [if_pos h2] at h
      split
      · rename_i h3
        rw [if_pos h3] at h
        exact absurd rfl h
      · unfold hadR
        simp [isNum]
    · rename_i h2
      refine had_pull _ _ _ ?_
      unfold hadR at h1 ⊢
      simp only [Bool.or_eq_true, decide_eq_true_eq, not_or] at h1 ⊢
      exact .inl (by omega)
end Go.Proofs.YtagangiilcicpaeGreatDoor

namespace Go.Proofs.YtagangiilcicpaeGreatDoor
open Go.RowKit

/-- What a key has that a deed names which needs nobody: it is made, and is what the deed sees. -/
theorem sees_bef {r0 : List Row} {D : List Deed3} {m : Nat} {dn : Nat → Bool} {b : ByteArray → Int} {e : Eng} (G : Good r0 D m dn b e) {p : Nat} (hp : m + p < D.length) (hn : needsE e p = []) {k : ByteArray} (hk : k ∈ keysD (e.deeds.getD p default)) :
    (before e.chains k (e.base + p)).made = true ∧ (before e.chains k (e.base + p)).has_ = isAt k (seesE e p) ∧ (before e.chains k (e.base + p)).n = num k (seesE e p) := by
  rw [G.deed] at hk
  have hm := (needs_nil G hp).1 hn k hk
  obtain ⟨e1, e2⟩ := (sees_is G hp hn).2 k hk
  obtain ⟨h1, h2⟩ := (G.seen (n := p) (by omega) k).yes hm
  rw [G.at_]
  exact ⟨hm, h1.trans e1.symm, h2.trans e2.symm⟩
/-- What Run made, by the keys of it, in the order of Writes. -/
def madeL (f : Bool) (m : Made) (W : List ByteArray) : List (ByteArray × Option Int) := if f = true then [] else vers m W
theorem keysOf_length (l : List (ByteArray × Option Int)) : (keysOf l).length = l.length := by simp [keysOf]
theorem keysOf_getD {l : List (ByteArray × Option Int)} {j : Nat} (h : j < l.length) : (keysOf l).getD j default = (l.getD j default).1 := by simp [keysOf, List.getD, h]
theorem made_some {R : List Row} {d : Deed3} {r : Nat → Int} {m : Made} {f : Bool} (hs : Srt R) (hd : RightDD d) (hx : exD R d = (r, m, f)) {j : Nat} (hj : j < (madeL f m d.2.1).length) {k : ByteArray} {o : Option Int} (hk : (madeL f m d.2.1).getD j default = (k, o)) : isAt k (doD R d) = o.isSome ∧ num k (doD R d) = o.getD 0 := by
  cases f with
  | true => exact absurd hj (Nat.not_lt_zero _)
  | false =>
    have hmem : (k, o) ∈ vers m d.2.1 := by
      rw [← hk]
      show _ ∈ vers m d.2.1
      have hj' : j < (vers m d.2.1).length := hj
      have e : (madeL false m d.2.1).getD j default = (vers m d.2.1)[j] := by simp [madeL, List.getD, hj']
      rw [e]
      exact List.getElem_mem hj'
    have hm : m k = some o := (vers_mem hmem).2
    rw [doD_at hs hd, doD_num hs hd, hx]
    simp only [Bool.false_eq_true, if_false]
    unfold isThere look
    rw [hm]
    cases o <;> exact ⟨rfl, rfl⟩
theorem made_none {R : List Row} {d : Deed3} {r : Nat → Int} {m : Made} {f : Bool} (hs : Srt R) (hd : RightDD d) (hx : exD R d = (r, m, f)) {k : ByteArray} (hw : k ∈ d.2.1) (hk : has (keysOf (madeL f m d.2.1)) k = false) : isAt k (doD R d) = isAt k R ∧ num k (doD R d) = num k R := by
  rw [doD_at hs hd, doD_num hs hd, hx]
  cases f with
  | true => exact ⟨rfl, rfl⟩
  | false =>
    simp only [Bool.false_eq_true, if_false]
    have hm : m k = none := by
      cases hm : m k with
      | none => rfl
      | some o =>
        have : k ∈ keysOf (madeL false m d.2.1) := by
          refine List.mem_map.2 ⟨(k, o), ?_, rfl⟩
          show (k, o) ∈ vers m d.2.1
          unfold vers
          rw [List.mem_filterMap]
          exact ⟨k, hw, by rw [hm]; rfl⟩
        rw [has_iff.2 this] at hk; cases hk
    unfold isThere look
    rw [hm]
    exact ⟨rfl, rfl⟩
theorem verCell_is (o : Option Int) : verCell o = [.int .i64 0, .bool true, .bool o.isSome, .int .i64 (o.getD 0)] := by cases o <;> rfl

/-! ### How a deed is hindered -/
def hindE (e : Eng) (at_ : Int) : Int :=
  if at_ < 0 ∨ (e.deeds.length : Int) ≤ at_ then 6
  else if e.state.getD at_.toNat 0 = 1 then 11
  else if needsE e at_.toNat ≠ [] then 10
  else 0
theorem Good.state_is {r0 : List Row} {D : List Deed3} {m : Nat} {dn : Nat → Bool} {b : ByteArray → Int} {e : Eng} (G : Good r0 D m dn b e) {p : Nat} (hp : m + p < D.length) : e.state.getD p 0 = if dn (m + p) = true then 1 else 0 := by
  rw [G.state]
  have h : p < D.length - m := by omega
  simp [List.getD, h]
theorem hind_ready {r0 : List Row} {D : List Deed3} {m : Nat} {dn : Nat → Bool} {b : ByteArray → Int} {e : Eng} (G : Good r0 D m dn b e) {p : Nat} (hp : p < e.deeds.length) : (decide (hindE e p = 0)) = (decide (e.state.getD p 0 = 0) && (needsE e p).isEmpty) := by
  have hpD : m + p < D.length := by rw [G.len] at hp; omega
  unfold hindE
  rw [if_neg (by omega), Int.toNat_natCast, G.state_is hpD]
  cases dn (m + p) <;> cases needsE e p <;> simp
theorem ready_lt {e : Eng} {p : Nat} (h : p ∈ readyE e) : p < e.deeds.length := List.mem_range.1 (List.mem_filter.1 h).1
theorem ready_needs {e : Eng} {p : Nat} (h : p ∈ readyE e) : needsE e p = [] := by
  have := (List.mem_filter.1 h).2
  simp at this
  exact this.2
theorem ready_of_hind {r0 : List Row} {D : List Deed3} {m : Nat} {dn : Nat → Bool} {b : ByteArray → Int} {e : Eng} (G : Good r0 D m dn b e) {p : Nat} (hp : p < e.deeds.length) (h : hindE e p = 0) : p ∈ readyE e := by
  unfold readyE
  refine List.mem_filter.2 ⟨List.mem_range.2 hp, ?_⟩
  rw [← hind_ready G hp, h]; rfl
/-- The places of deeds that are ready, up to one. -/
def readyTo (e : Eng) (j : Nat) : List Nat := (List.range j).filter (fun p => decide (hindE e p = 0))
theorem readyTo_succ (e : Eng) (j : Nat) : readyTo e (j + 1) = readyTo e j ++ if hindE e j = 0 then [j] else [] := by
  unfold readyTo
  rw [List.range_succ, List.filter_append]
  congr 1
  simp only [List.filter_cons, List.filter_nil, decide_eq_true_eq]
theorem ready_to {r0 : List Row} {D : List Deed3} {m : Nat} {dn : Nat → Bool} {b : ByteArray → Int} {e : Eng} (G : Good r0 D m dn b e) : readyTo e e.deeds.length = readyE e := by
  unfold readyTo readyE
  refine List.filter_congr fun p hp => ?_
  exact hind_ready G (List.mem_range.1 hp)
theorem ready_at {r0 : List Row} {D : List Deed3} {m : Nat} {dn : Nat → Bool} {b : ByteArray → Int} {e : Eng} (G : Good r0 D m dn b e) {p : Nat} (h : p ∈ readyE e) : m + p < D.length ∧ dn (m + p) = false := by
  have h1 := ready_lt h
  have hpD : m + p < D.length := by rw [G.len] at h1; omega
  refine ⟨hpD, ?_⟩
  have h2 := (List.mem_filter.1 h).2
  simp only [Bool.and_eq_true, decide_eq_true_eq] at h2
  have h3 := h2.1
  rw [G.state_is hpD] at h3
  cases hd : dn (m + p) with
  | false => rfl
  | true => rw [hd] at h3; cases h3
end Go.Proofs.YtagangiilcicpaeGreatDoor

namespace Go.Proofs.YtagangiilcicpaeGreatDoor
open Go.RowKit

/-! ### Behind Clear -/
/-! ### When all is done -/
/-! ### What is told of a moment -/
/-- How Seen ends: what keys have, and why not. -/
def seenTo (e : Eng) (at_ : Int) : List Row × Int :=
  if at_ < 0 ∨ (e.deeds.length : Int) < at_ then ([], 6)
  else match rowsC e.chains (e.base + at_) with
    | none => ([], 10)
    | some r => (r, 0)
end Go.Proofs.YtagangiilcicpaeGreatDoor

namespace Go.Proofs.YtagangiilcicpaeGreatDoor
open Go.RowKit

/-! ### What comes of it, but for the engine -/
theorem addAll_append (e : Eng) (a b : List Deed3) : addAll e (a ++ b) = addAll (addAll e a) b := by simp [addAll]
/-! ### Built of entries and picks -/
theorem GoodR.with_eng {es : List Ent} {m m' : Nat} {dn dn' : Nat → Bool} {b b' : ByteArray → Int} {r : Rep} (h : GoodR es m dn b r) {x : Eng} (hx : Good [] (deedsOf es) m' dn' b' x) : GoodR es m' dn' b' ⟨x, r.next, r.early⟩ :=
  ⟨hx, h.next, h.num, h.right, h.four, h.later, h.one, h.early⟩
/-- There are at most twelve entries, and seventy-two deeds. -/
theorem GoodR.most {es : List Ent} {m : Nat} {dn : Nat → Bool} {b : ByteArray → Int} {r : Rep} (h : GoodR es m dn b r) : es.length ≤ 12 := by
  by_cases h0 : es.length = 0
  · omega
  · have h1 := h.num (es.length - 1) (by omega)
    have hm : es.getD (es.length - 1) default ∈ es := by
      have hl : es.length - 1 < es.length := by omega
      have : es.getD (es.length - 1) default = es[es.length - 1] := by simp [List.getD, hl]
      rw [this]; exact List.getElem_mem hl
    have h2 := (h.right _ hm).2.1
    omega
theorem deedsOf_few : ∀ {es : List Ent}, (∀ x ∈ es, RightEnt x) → (deedsOf es).length ≤ 6 * es.length
  | [], _ => Nat.le_refl _
  | x :: es, h => by
    have h1 := deedsOf_few (es := es) (fun y hy => h y (by simp [hy]))
    have h2 := (h x (by simp)).2.2.1
    show (x.2 ++ deedsOf es).length ≤ 6 * (es.length + 1)
    rw [List.length_append]
    omega
theorem GoodR.few {es : List Ent} {m : Nat} {dn : Nat → Bool} {b : ByteArray → Int} {r : Rep} (h : GoodR es m dn b r) : (deedsOf es).length ≤ 72 := by
  have h1 := h.most
  have h2 := deedsOf_few h.right
  omega

/-! ### In whatever order they come -/
/-- A replica of the entries l, that came in some order. -/
structure RepL (l : List Ent) (r : Rep) : Prop where
  ex : ∃ n, n ≤ l.length ∧ r.eng = addAll (newE []) (deedsOf (l.take n)) ∧ r.next = n ∧ (∀ x ∈ r.early, ∃ i, n < i ∧ i < l.length ∧ x = l.getD i default) ∧ r.early.Pairwise (fun x y => x.1 ≠ y.1)
theorem RepL.new (l : List Ent) : RepL l newR := ⟨0, Nat.zero_le _, rfl, rfl, (fun _ h => by cases h), List.Pairwise.nil⟩
/-- Numbers that differ are no more than there is room for. -/
theorem room_for : ∀ (m : Nat) (lo : Int) (E : List Ent), E.Pairwise (fun x y => x.1 ≠ y.1) → (∀ x ∈ E, lo ≤ x.1 ∧ x.1 < lo + m) → E.length ≤ m
  | 0, lo, E, _, h => by
    cases E with
    | nil => exact Nat.le_refl _
    | cons x E => have := h x (by simp); omega
  | m + 1, lo, E, hp, h => by
    have h1 := room_for m lo (E.filter (fun x => !decide (x.1 = lo + m))) (hp.sublist List.filter_sublist) (fun x hx => by
      obtain ⟨hm, hn⟩ := List.mem_filter.1 hx
      have := h x hm
      simp at hn
      omega)
    have h2 : E.length ≤ (E.filter (fun x => !decide (x.1 = lo + m))).length + 1 := by
      clear h1 h
      induction E with
      | nil => simp
      | cons x E ih =>
        rw [List.pairwise_cons] at hp
        by_cases e : x.1 = lo + m
        · have hall : E.filter (fun x => !decide (x.1 = lo + m)) = E := by
            rw [List.filter_eq_self]
            intro y hy
            have := hp.1 y hy
            simp
            omega
          rw [List.filter_cons_of_neg (by simp [e]), hall]
          simp
        · rw [List.filter_cons_of_pos (by simp [e])]
          have := ih hp.2
          simp
          omega
    omega
theorem RepL.few {l : List Ent} {r : Rep} (h : RepL l r) (hn : ∀ i, i < l.length → (l.getD i default).1 = i) (hl : l.length ≤ 4) : r.early.length < 4 := by
  obtain ⟨n, h1, _, _, h4, h5⟩ := h.ex
  have := room_for (l.length - n - 1) ((n : Int) + 1) r.early h5 (fun x hx => by
    obtain ⟨i, hi1, hi2, rfl⟩ := h4 x hx
    rw [hn i hi2]
    omega)
  omega
theorem deedsOf_take {l : List Ent} {n : Nat} (h : n < l.length) : deedsOf (l.take (n + 1)) = deedsOf (l.take n) ++ (l.getD n default).2 := by
  rw [show l.take (n + 1) = l.take n ++ [l.getD n default] from by rw [List.take_add_one]; simp [List.getD, h], deedsOf_snoc]
/-- What is next among those that came too soon, taken in. -/
theorem pull_rep {l : List Ent} (hn : ∀ i, i < l.length → (l.getD i default).1 = i) : ∀ (f n : Nat) (ea : List Ent), n ≤ l.length → (∀ x ∈ ea, ∃ i, n ≤ i ∧ i < l.length ∧ x = l.getD i default) → ea.Pairwise (fun x y => x.1 ≠ y.1) → ea.length ≤ f →
    RepL l (pullR f ⟨addAll (newE []) (deedsOf (l.take n)), n, ea⟩)
  | 0, n, ea, hle, hm, hp, hf => by
    have : ea = [] := List.eq_nil_of_length_eq_zero (by omega)
    subst this
    exact ⟨n, hle, rfl, rfl, (fun _ h => by cases h), List.Pairwise.nil⟩
  | f + 1, n, ea, hle, hm, hp, hf => by
    unfold pullR
    cases h : ea.find? (isNum (n : Int)) with
    | none =>
      simp only
      refine ⟨n, hle, rfl, rfl, fun x hx => ?_, hp⟩
      obtain ⟨i, h1, h2, rfl⟩ := hm x hx
      have hne := List.find?_eq_none.1 h _ hx
      simp only [isNum, decide_eq_true_eq] at hne
      rw [hn i h2] at hne
      exact ⟨i, by omega, h2, rfl⟩
    | some x =>
      simp only
      have hx := List.mem_of_find?_eq_some h
      have hxn := List.find?_some h
      simp only [isNum, decide_eq_true_eq] at hxn
      obtain ⟨i, h1, h2, rfl⟩ := hm x hx
      rw [hn i h2] at hxn
      obtain rfl : i = n := by omega
      rw [← addAll_append, ← deedsOf_take h2]
      have hcast : ((i : Nat) : Int) + 1 = ((i + 1 : Nat) : Int) := by omega
      rw [hcast]
      refine pull_rep hn f (i + 1) _ h2 (fun y hy => ?_) (hp.sublist List.filter_sublist) ?_
      · obtain ⟨hy1, hy2⟩ := List.mem_filter.1 hy
        obtain ⟨j, hj1, hj2, rfl⟩ := hm y hy1
        simp only [isNum, Bool.not_eq_true', decide_eq_false_iff_not] at hy2
        rw [hn j hj2] at hy2
        exact ⟨j, by omega, hj2, rfl⟩
      · have hlt : (ea.filter (fun y => !isNum (i : Int) y)).length < ea.length := by
          refine List.length_filter_lt_length_iff_exists.2 ⟨l.getD i default, hx, ?_⟩
          have e2 : isNum (i : Int) (l.getD i default) = true := decide_eq_true (hn i h2)
          rw [e2]
          simp
        omega
theorem come_rep {l : List Ent} (hn : ∀ i, i < l.length → (l.getD i default).1 = i) (hl : l.length ≤ 4) {r : Rep} (h : RepL l r) {k : Nat} (hk : k < l.length) : RepL l (comeR r (l.getD k default)).1 ∧ hadR (comeR r (l.getD k default)).1 (l.getD k default) = true := by
  have h4 := h.few hn hl
  have hne : (comeR r (l.getD k default)).2 ≠ 5 := by
    unfold comeR
    split
    · simp
    · split
      · rw [if_neg (by omega)]; simp
      · simp
  refine ⟨?_, come_had r _ hne⟩
  obtain ⟨n, h1, he, hx, hm, hp⟩ := h.ex
  unfold comeR
  by_cases hh : hadR r (l.getD k default) = true
  · rw [if_pos hh]; exact h
  rw [if_neg hh]
  unfold hadR at hh
  simp only [Bool.or_eq_true, decide_eq_true_eq, not_or] at hh
  by_cases hg : r.next < (l.getD k default).1
  · rw [if_pos hg, if_neg (by omega)]
    refine ⟨n, h1, he, hx, fun x hxm => ?_, ?_⟩
    · rcases List.mem_append.1 hxm with hxm | hxm
      · exact hm x hxm
      · simp at hxm
        rw [hx, hn k hk] at hg
        exact ⟨k, by omega, hk, hxm⟩
    · show (r.early ++ [l.getD k default]).Pairwise _
      rw [List.pairwise_append]
      refine ⟨hp, List.pairwise_singleton _ _, fun x hxm y hy => ?_⟩
      simp at hy
      subst hy
      intro e
      apply hh.2
      rw [List.any_eq_true]
      exact ⟨x, hxm, by simp [isNum, e]⟩
  · rw [if_neg hg]
    have hkn : k = n := by
      have h2 := hh.1
      rw [hx, hn k hk] at h2 hg
      omega
    subst hkn
    obtain ⟨eng, next, early⟩ := r
    simp only at he hx hm hp
    subst he
    subst hx
    show RepL l (pullR early.length ⟨addAll (addAll (newE []) (deedsOf (l.take k))) (l.getD k default).2, (k : Int) + 1, early⟩)
    rw [← addAll_append, ← deedsOf_take hk, show ((k : Nat) : Int) + 1 = ((k + 1 : Nat) : Int) from by omega]
    exact pull_rep hn _ (k + 1) early hk (fun x hxm => by obtain ⟨i, a, b, c⟩ := hm x hxm; exact ⟨i, a, b, c⟩) hp (Nat.le_refl _)
/-- Entries that come, one by one. -/
def comeAll (r : Rep) (l : List Ent) : Rep := l.foldl (fun r e => (comeR r e).1) r
def comeAt (l : List Ent) (r : Rep) (k : Int) : Rep := if 0 ≤ k ∧ k < l.length then (comeR r (l.getD k.toNat default)).1 else r
theorem comeAt_rep {l : List Ent} (hn : ∀ i, i < l.length → (l.getD i default).1 = i) (hl : l.length ≤ 4) : ∀ (o : List Int) {r : Rep}, RepL l r → RepL l (o.foldl (comeAt l) r)
  | [], _, h => h
  | k :: o, r, h => by
    refine comeAt_rep hn hl o ?_
    unfold comeAt
    split
    · rename_i hk
      exact (come_rep hn hl h (by omega)).1
    · exact h
theorem comeAll_had {l : List Ent} (hn : ∀ i, i < l.length → (l.getD i default).1 = i) (hl : l.length ≤ 4) : ∀ (j : Nat) {r : Rep}, j ≤ l.length → RepL l r → RepL l (comeAll r (l.take j)) ∧ ∀ i, i < j → hadR (comeAll r (l.take j)) (l.getD i default) = true
  | 0, _, _, h => ⟨h, fun _ h => absurd h (Nat.not_lt_zero _)⟩
  | j + 1, r, hj, h => by
    obtain ⟨h1, h2⟩ := comeAll_had hn hl j (by omega) h
    have e : comeAll r (l.take (j + 1)) = (comeR (comeAll r (l.take j)) (l.getD j default)).1 := by
      rw [show l.take (j + 1) = l.take j ++ [l.getD j default] from by
        rw [List.take_add_one]
        have : j < l.length := by omega
        simp [List.getD, this]]
      simp [comeAll]
    obtain ⟨h3, h4⟩ := come_rep hn hl h1 (k := j) (by omega)
    rw [e]
    refine ⟨h3, fun i hi => ?_⟩
    by_cases e2 : i = j
    · subst e2; exact h4
    · exact had_come _ _ _ (h2 i (by omega))
/-- When all have come, it is the one that they make in turn. -/
theorem all_come {l : List Ent} (hn : ∀ i, i < l.length → (l.getD i default).1 = i) (hl : l.length ≤ 4) {r : Rep} (h : RepL l r) : comeAll r l = ⟨addAll (newE []) (deedsOf l), l.length, []⟩ := by
  have h0 := comeAll_had hn hl l.length (Nat.le_refl _) h
  rw [List.take_length] at h0
  obtain ⟨h1, h2⟩ := h0
  generalize comeAll r l = z at *
  obtain ⟨n, hle, he, hx, hm, _⟩ := h1.ex
  have hN : n = l.length := by
    by_cases e : n = l.length
    · exact e
    · exfalso
      have h3 := h2 n (by omega)
      unfold hadR at h3
      simp only [Bool.or_eq_true, decide_eq_true_eq] at h3
      rcases h3 with h3 | h3
      · rw [hx, hn n (by omega)] at h3; omega
      · obtain ⟨x, hxm, hxe⟩ := List.any_eq_true.1 h3
        obtain ⟨i, hi1, hi2, rfl⟩ := hm x hxm
        simp only [isNum, decide_eq_true_eq] at hxe
        rw [hn i hi2, hn n (by omega)] at hxe
        omega
  have hE : z.early = [] := by
    cases hz : z.early with
    | nil => rfl
    | cons x E =>
      obtain ⟨i, hi1, hi2, _⟩ := hm x (by rw [hz]; simp)
      omega
  obtain ⟨eng, next, early⟩ := z
  simp only at he hx hE
  rw [he, hx, hE, hN, List.take_length]

/-! ### What is forgotten is not missed -/
end Go.Proofs.YtagangiilcicpaeGreatDoor

namespace Go.Proofs.YtagangiilcicpaeGreatDoor
open Go.RowKit

/-! ### Replicas -/
abbrev repA (cb : Option Addr) (cn cc : Nat) (db : Option Addr) (dn dc : Nat) (sb : Option Addr) (sn sc : Nat) (eb : Option Addr) (en ec : Nat) (base next : Int) (ab : Option Addr) (an ac : Nat) : Array Value :=
  #[.slice cb cn cc, .slice db dn dc, .slice sb sn sc, .slice eb en ec, .int .i64 base, .int .i64 next, .slice ab an ac]
/-- A block that holds a replica's fields. -/
theorem rep_alien {w : World} {b : Nat} {t : TypeId} {cb : Option Addr} {cn cc : Nat} {db : Option Addr} {dn dc : Nat} {sb : Option Addr} {sn sc : Nat} {eb : Option Addr} {en ec : Nat} {base next : Int} {ab : Option Addr} {an ac : Nat}
    (h : Box w b (repA cb cn cc db dn dc sb sn sc eb en ec base next ab an ac) t) : Alien w b := by
  have key : ∀ o v, w.cell? ⟨b, o, none⟩ = some v → (∃ x y z, v = .slice x y z) ∨ ∃ n, v = .int .i64 n := fun o v hv => by
    unfold Box at h
    simp only [World.cell?, h, Option.isSome_none, Bool.false_eq_true, if_false] at hv
    have hm := List.mem_of_getElem? (l := (repA cb cn cc db dn dc sb sn sc eb en ec base next ab an ac).toList) (i := o) (by simpa using hv)
    simp at hm
    rcases hm with rfl | rfl | rfl | rfl | rfl | rfl | rfl
    · exact .inl ⟨_, _, _, rfl⟩
    · exact .inl ⟨_, _, _, rfl⟩
    · exact .inl ⟨_, _, _, rfl⟩
    · exact .inl ⟨_, _, _, rfl⟩
    · exact .inr ⟨_, rfl⟩
    · exact .inr ⟨_, rfl⟩
    · exact .inl ⟨_, _, _, rfl⟩
  refine ⟨fun o s e => ?_, fun o p q e => ?_⟩
  · rcases key o _ e with ⟨_, _, _, h⟩ | ⟨_, h⟩ <;> cases h
  · rcases key o _ e with ⟨_, _, _, h⟩ | ⟨_, h⟩ <;> cases h
structure RepLies (w : World) (cb : Option Addr) (cn cc : Nat) (db : Option Addr) (dn dc : Nat) (sb : Option Addr) (sn sc : Nat) (eb : Option Addr) (en ec : Nat) (ab : Option Addr) (an ac : Nat) (r : Rep) : Prop where
  eng : EngLies w cb cn cc db dn dc sb sn sc eb en ec r.eng
  early : EntsIn w ab an ac r.early
theorem RepLies.below {w w' : World} {cb : Option Addr} {cn cc : Nat} {db : Option Addr} {dn dc : Nat} {sb : Option Addr} {sn sc : Nat} {eb : Option Addr} {en ec : Nat} {ab : Option Addr} {an ac : Nat} {r : Rep} (h : RepLies w cb cn cc db dn dc sb sn sc eb en ec ab an ac r) (hb : Below w.heap.size w w') :
    RepLies w' cb cn cc db dn dc sb sn sc eb en ec ab an ac r := ⟨h.eng.below hb, h.early.below hb⟩
def RepIn (w : World) (v : Value) (r : Rep) : Prop := ∃ cb cn cc db dn dc sb sn sc eb en ec ab an ac, v = .agg (repA cb cn cc db dn dc sb sn sc eb en ec r.eng.base r.next ab an ac) ∧ RepLies w cb cn cc db dn dc sb sn sc eb en ec ab an ac r
theorem RepIn.below {w w' : World} {v : Value} {r : Rep} (h : RepIn w v r) (hb : Below w.heap.size w w') : RepIn w' v r := by
  obtain ⟨cb, cn, cc, db, dn, dc, sb, sn, sc, eb, en, ec, ab, an, ac, rfl, hl⟩ := h
  exact ⟨cb, cn, cc, db, dn, dc, sb, sn, sc, eb, en, ec, ab, an, ac, rfl, hl.below hb⟩
end Go.Proofs.YtagangiilcicpaeGreatDoor

namespace Go.Proofs.YtagangiilcicpaeGreatDoor
open Go.RowKit

theorem numClo_in : Entered 111 := fun _ _ => by kernel_rfl
theorem numClo_calls (m nx : Int) (qb : Option Addr) (qn qc : Nat) (fb : Nat) (w : World) (hf : w.cell? ⟨fb, 0, none⟩ = some (.int .i64 nx)) :
    Calls Tryz.prog 111 #[.agg #[.int .i64 m, .slice qb qn qc], .pointer (some ⟨fb, 0, none⟩)] w fun e w' => e = .returned (.bool (m == nx)) ∧ Below w.heap.size w w' := by
  have hfl : fb < w.heap.size := by simpa using World.block_lt_of_cell? _ _ hf
  have HG := hid (grew w (.cells #[.int .i64 m, .slice qb qn qc] 24))
  have x0 := box_cell w #[.int .i64 m, .slice qb qn qc] 24 0 _ rfl
  have f0 := kept_cell HG.out hf
  go_enter Tryz.func111, Tryz.ntmps111
  go_wp2
  go_ret
  exact ⟨rfl, HG.out⟩
/-- What tells whether an entry is that of a number. -/
def NumFn (w : World) (nx : Int) (v : Value) : Prop := ∃ fb, v = .func (.func 111) #[] #[.pointer (some ⟨fb, 0, none⟩)] ∧ w.cell? ⟨fb, 0, none⟩ = some (.int .i64 nx)
theorem numbered_calls (nx : Int) (w : World) :
    Calls Tryz.prog 69 #[.int .i64 nx] w fun e w' => ∃ v, e = .returned v ∧ NumFn w' nx v ∧ Below w.heap.size w w' := by
  have HG := hid (grew w (.cells #[.int .i64 nx] 3))
  have HB := hid (Box.new w #[.int .i64 nx] 3)
  go_enter Tryz.func69, Tryz.ntmps69
  go_wp2
  go_ret
  exact ⟨_, rfl, ⟨_, rfl, HB.out.cell 0 _ rfl⟩, HG.out⟩
/-- Where the first entry of a number is. -/
def FoundAt (L : List Ent) (nx k : Int) : Prop := (k = -1 ∧ ∀ j, j < L.length → (L.getD j default).1 ≠ nx) ∨ ∃ j : Nat, j < L.length ∧ k = j ∧ (L.getD j default).1 = nx

set_option maxHeartbeats 2000000 in
set_option maxRecDepth 100000 in
theorem indexF_calls (L : List Ent) (base : Option Addr) (n c : Nat) (nx : Int) (fv : Value) (w : World) (ha : EntsIn w base n c L) (hf : NumFn w nx fv) :
    Calls Tryz.prog 70 #[.slice base n c, fv] w fun e w' => (∃ k, e = .returned (.int .i64 k) ∧ FoundAt L nx k) ∧ Below w.heap.size w w' := by
  obtain ⟨fb, rfl, hf⟩ := hf
  have HN := hid ha.len
  have hm := Nat.le_trans ha.hdr.le ha.hdr.max
  unfold maxLen at hm
  have HA := hid ha
  have HF := hid hf
  have PC := hid (fun m qb qn qc W h => numClo_calls m nx qb qn qc fb W h)
  obtain ⟨F, hFe⟩ : ∃ F, 111 = F := ⟨_, rfl⟩
  have hcf : Entered F := by rw [← hFe]; exact numClo_in
  rw [hFe] at PC ⊢
  unfold Entered at hcf
  clear ha hf hFe
  go_enter Tryz.func70, Tryz.ntmps70
  go_wp2
  go_loopw [8] (fun i wr => ∃ j : Nat, j ≤ n ∧ i = .int .i64 j ∧ Hid (∀ t, t < j → (L.getD t default).1 ≠ nx) ∧ Hid (Below w.heap.size w wr)) (fun i _ => n - (intOf i).toNat)
  case atStart => exact ⟨0, Nat.zero_le _, rfl, fun t h => absurd h (Nat.not_lt_zero _), Below.refl _ _⟩
  case round =>
    obtain ⟨j, hj, rfl, HH, HBR⟩ := hrel
    by_cases hlt : j < n
    · have hjl : j < L.length := by rw [← HN.out]; exact hlt
      have HJL := hid hjl
      have hi : (j : Int) < (n : Int) := by omega
      rcases (HA.out.below HBR.out).run with h | ⟨b1, o1, rfl, hrun⟩
      · omega
      obtain ⟨pb, pn, pc, k0, k1, -⟩ := hrun j hlt
      have hb1 : b1 < wr.heap.size := by simpa using World.block_lt_of_cell? _ _ k0
      have HC := hid (PC.out (L.getD j default).1 pb pn pc wr (kept_cell HBR.out HF.out))
      obtain ⟨z, hz⟩ : ∃ z, (L.getD j default).1 = z := ⟨_, rfl⟩
      have HZ := hid hz
      rw [hz] at HC k0
      clear hrun hz
      go_wp2_with fail
      refine HC.out.mono ?_
      rintro e w2 ⟨rfl, hb2⟩
      have HB2 := hid (below_deep HBR.out hb2)
      clear hb2 HC
      by_cases hq : z = nx
      · have t : (z == nx) = true := by simpa using hq
        rw [t]
        have HE : Hid ((L.getD j default).1 = nx) := by show _ = _; rw [HZ.out, hq]
        clear hq t
        go_wp2
        go_ret
        exact ⟨⟨j, rfl, .inr ⟨j, HJL.out, rfl, HE.out⟩⟩, HB2.out⟩
      · have t : (z == nx) = false := by simpa using hq
        rw [t]
        have HE : Hid (∀ t, t < j + 1 → (L.getD t default).1 ≠ nx) := fun t ht => by
          by_cases e : t = j
          · subst e; rw [HZ.out]; exact hq
          · exact HH.out t (by omega)
        clear hq t
        go_wp2
        go_roundw
        case rel => exact ⟨j + 1, by omega, by go_num, HE, HB2⟩
        case measure => simp [intOf]; omega
    · obtain rfl : j = n := by omega
      go_wp2
      go_ret
      exact ⟨⟨-1, rfl, .inl ⟨rfl, fun t ht => HH.out t (by rw [HN.out]; exact ht)⟩⟩, HBR.out⟩

theorem found_any {L : List Ent} {nx k : Int} (h : FoundAt L nx k) : decide (0 ≤ k) = L.any (isNum nx) := by
  rcases h with ⟨rfl, h⟩ | ⟨j, hj, rfl, h⟩
  · have : L.any (isNum nx) = false := by
      rw [List.any_eq_false]
      intro x hx
      obtain ⟨i, hi, rfl⟩ := List.mem_iff_getElem.1 hx
      have := h i hi
      simp only [List.getD, List.getElem?_eq_getElem hi, Option.getD_some] at this
      simpa [isNum] using this
    rw [this]; rfl
  · have : L.any (isNum nx) = true := by
      rw [List.any_eq_true]
      refine ⟨L[j], List.getElem_mem hj, ?_⟩
      simp only [List.getD, List.getElem?_eq_getElem hj, Option.getD_some] at h
      simpa [isNum] using h
    rw [this]; simp
theorem contF_calls (L : List Ent) (base : Option Addr) (n c : Nat) (nx : Int) (fv : Value) (w : World) (ha : EntsIn w base n c L) (hf : NumFn w nx fv) :
    Calls Tryz.prog 68 #[.slice base n c, fv] w fun e w' => e = .returned (.bool (L.any (isNum nx))) ∧ Below w.heap.size w w' := by
  have PI := hid (indexF_calls L base n c nx fv w ha hf)
  clear ha hf
  go_enter Tryz.func68, Tryz.ntmps68
  go_wp2_with fail
  refine PI.out.mono ?_
  rintro e w1 ⟨⟨k, rfl, hk⟩, hb1⟩
  have HK := hid (found_any hk)
  have HB1 := hid hb1
  clear hk hb1 PI
  go_wp2
  go_ret
  exact ⟨by rw [← HK.out]; rfl, HB1.out⟩
end Go.Proofs.YtagangiilcicpaeGreatDoor
