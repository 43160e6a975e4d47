/-
  The library's functions that a deed's text is made and read by, and what the program and the document make of a number and of a register.
  An instruction in a block of its own: its five places, kept, and turned one by one.
  The program's way from an instruction's words to the instruction.
  The program's way from a part of a text to keys, and to an instruction.
-/
import Derived.Test.YtdnafpenljdinadDoorSplLib
import Derived.Test.YtdnafpenljdinadDoorOpenDeed
import Derived.Test.YtdnafpenljdinadDoorRef
import Derived.Lib.AppendIntMem
import Derived.Lib.AtoiErrMem
import Derived.BigQuiet
namespace Go.Proofs.YtdnafpenljdinadDoor
open Go.RowKit Go.Shelf

/-- What a call of Split leaves. -/
structure Pieces (w w' : World) (l : List ByteArray) : Prop where
  is : w' = w.alloc (.cells (strs l).toArray 9)
theorem Pieces.below {w w' : World} {l : List ByteArray} (h : Pieces w w' l) : Below w.heap.size w w' := by rw [h.is]; exact grew _ _
theorem Pieces.texts {w w' : World} {l : List ByteArray} (h : Pieces w w' l) (hl : l.length ≤ maxLen) : Texts w' (some ⟨w.heap.size, 0, none⟩) l.length l.length l := by
  have := lies_new w (strs l).toArray 9 1 l.length (by simp [strs]) hl
  rw [h.is]
  simpa using this

theorem itoa_calls (n : Int) (w : World) (hG : GroundN w) (h0 : -9223372036854775808 ≤ n) (h1 : n ≤ 9223372036854775807) :
    Calls Tryd.prog 54 #[.int .i64 n] w fun e w' => e = .returned (.string (ofT (Lib.itoa n))) ∧ Below w.heap.size w w' := by
  refine (Any.strconv_Itoa laysM171 n h0 h1 w hG.tab).mono ?_
  rintro e w' ⟨rfl, k, os, rfl⟩
  exact ⟨rfl, Lib.below_grow _ _ (Nat.le_refl _) _ _⟩

/-- How Atoi ends. -/
theorem atoi_calls (s : ByteArray) (w : World) (hG : GroundN w) (hs : s.size ≤ 100000) :
    Calls Tryd.prog 53 #[.string s] w fun e w' => ((∃ v, Lib.atoiAll (keyT s) = .ok v ∧ e = .returned (.tuple #[.int .i64 v, .nilIface])) ∨ (∃ v t p, (∀ u, Lib.atoiAll (keyT s) ≠ .ok u) ∧ e = .returned (.tuple #[.int .i64 v, .iface t (.pointer (some p))]))) ∧ Below w.heap.size w w' := by
  cases h : Lib.atoiAll (keyT s) with
  | ok v =>
    refine (Any.strconv_Atoi_ok laysC172 s (by omega) v h w).mono ?_
    rintro e w' ⟨rfl, hw⟩
    refine ⟨.inl ⟨v, rfl, rfl⟩, ?_⟩
    rcases hw with rfl | ⟨t, rfl⟩
    · exact Below.refl _ _
    · exact Lib.bytesWorld_below _ _ _
  | «syntax» =>
    obtain ⟨tp, p, hv⟩ := hG.syn
    refine (Any.strconv_Atoi_syntax_var laysC172 s (by omega) h tp p w hv).mono ?_
    rintro e w' ⟨N, rfl, _, _, hb⟩
    exact ⟨.inr ⟨_, _, _, (fun u h => by cases h), rfl⟩, hb⟩
  | range =>
    obtain ⟨tp, p, hv⟩ := hG.rng
    refine (Any.strconv_Atoi_range_var laysC172 s (by omega) h tp p w hv).mono ?_
    rintro e w' ⟨N, rfl, _, _, hb⟩
    exact ⟨.inr ⟨_, _, _, (fun u h => by cases h), rfl⟩, hb⟩

/-- A number, as it is told: whether it is one, and then which. -/
def Told (o : Option Int) (e : Ending) : Prop := ∃ v : Int, e = .returned (.tuple #[.int .i64 v, .bool o.isSome]) ∧ ∀ u, o = some u → v = u
theorem keyT_eq {a b : ByteArray} (h : keyT a = keyT b) : a = b := by
  have := congrArg ofT h
  rwa [ofT_keyT, ofT_keyT] at this

/-- A number and whether its own text is the text, put together. -/
theorem told_ok {s : ByteArray} {v : Int} (h : Lib.atoiAll (keyT s) = .ok v) : (Lib.itoa v = keyT s → numOf (keyT s) = some v) ∧ (Lib.itoa v ≠ keyT s → numOf (keyT s) = none) := by
  unfold numOf; rw [h]
  exact ⟨fun e => if_pos e, fun e => if_neg e⟩
theorem told_no {s : ByteArray} (h : ∀ u, Lib.atoiAll (keyT s) ≠ .ok u) : numOf (keyT s) = none := by
  unfold numOf
  split
  · rename_i v e; exact absurd e (h v)
  · rfl
theorem itoa_eq {s : ByteArray} {v : Int} (h : Lib.itoa v = keyT s) : ofT (Lib.itoa v) = s := by rw [h, ofT_keyT]
theorem itoa_ne {s : ByteArray} {v : Int} (h : Lib.itoa v ≠ keyT s) : ofT (Lib.itoa v) ≠ s := fun e => h (by rw [← e, keyT_ofT])

theorem keyT_len (s : ByteArray) : (keyT s).length = s.size := Array.length_toList
theorem ofT_size (t : T) : (ofT t).size = t.length := by simp [ofT, ByteArray.size]
theorem cut_reg (s : ByteArray) : (Lib.hasPrefix (keyT s) [114] = false ∧ regOf (keyT s) = none) ∨ (Lib.hasPrefix (keyT s) [114] = true ∧ regOf (keyT s) = numOf ((keyT s).drop 1)) := by
  cases h : keyT s with
  | nil => left; exact ⟨rfl, rfl⟩
  | cons c r =>
    by_cases hc : c = 114
    · right; subst hc
      exact ⟨by simp [Lib.hasPrefix], by simp [regOf]⟩
    · left
      exact ⟨by have : (114 == c) = false := by simpa using fun e : (114 : UInt8) = c => hc e.symm
                show ((114 == c) && ([] : T).isPrefixOf r) = false
                rw [this]; rfl, by simp [regOf, hc]⟩
end Go.Proofs.YtdnafpenljdinadDoor

namespace Go.Proofs.YtdnafpenljdinadDoor
open Go.RowKit

structure InsAt (w : World) (b : Nat) (i : Ins) : Prop where
  c0 : w.cell? ⟨b, 0, none⟩ = some (.int .i64 i.kind)
  c1 : w.cell? ⟨b, 1, none⟩ = some (.int .i64 i.a)
  c2 : w.cell? ⟨b, 2, none⟩ = some (.int .i64 i.b)
  c3 : w.cell? ⟨b, 3, none⟩ = some (.int .i64 i.n)
  c4 : w.cell? ⟨b, 4, none⟩ = some (.string i.key)
  free : ∀ j, w.frozen? ⟨b, j, none⟩ = false
theorem InsAt.lt {w : World} {b : Nat} {i : Ins} (h : InsAt w b i) : b < w.heap.size := World.block_lt_of_cell? _ _ h.c0
theorem InsAt.below {w w' : World} {b : Nat} {i : Ins} (h : InsAt w b i) (hb : Below w.heap.size w w') : InsAt w' b i :=
  ⟨kept_cell hb h.c0, kept_cell hb h.c1, kept_cell hb h.c2, kept_cell hb h.c3, kept_cell hb h.c4, fun j => kept_free hb ⟨h.lt, h.free j⟩⟩
theorem free_set {w : World} {a p : Addr} {v : Value} : (w.setCell p v).frozen? a = w.frozen? a := World.frozen?_setCell _ _ _ _
theorem InsAt.far {w : World} {b b' k : Nat} {i : Ins} (h : InsAt w b i) (hne : b' ≠ b) (v : Value) : InsAt (w.setCell ⟨b', k, none⟩ v) b i :=
  ⟨by rw [World.cell?_setCell_far _ _ _ _ hne]; exact h.c0, by rw [World.cell?_setCell_far _ _ _ _ hne]; exact h.c1, by rw [World.cell?_setCell_far _ _ _ _ hne]; exact h.c2, by rw [World.cell?_setCell_far _ _ _ _ hne]; exact h.c3, by rw [World.cell?_setCell_far _ _ _ _ hne]; exact h.c4, fun j => by rw [free_set]; exact h.free j⟩
theorem InsAt.put0 {w : World} {b : Nat} {i : Ins} (h : InsAt w b i) (x : Int) : InsAt (w.setCell ⟨b, 0, none⟩ (.int .i64 x)) b (x, i.a, i.b, i.n, i.key) :=
  ⟨World.cell?_setCell_same _ _ _ h.c0, by rw [set_off (by decide)]; exact h.c1, by rw [set_off (by decide)]; exact h.c2, by rw [set_off (by decide)]; exact h.c3, by rw [set_off (by decide)]; exact h.c4, fun j => by rw [free_set]; exact h.free j⟩
theorem InsAt.put1 {w : World} {b : Nat} {i : Ins} (h : InsAt w b i) (x : Int) : InsAt (w.setCell ⟨b, 1, none⟩ (.int .i64 x)) b (i.kind, x, i.b, i.n, i.key) :=
  ⟨by rw [set_off (by decide)]; exact h.c0, World.cell?_setCell_same _ _ _ h.c1, by rw [set_off (by decide)]; exact h.c2, by rw [set_off (by decide)]; exact h.c3, by rw [set_off (by decide)]; exact h.c4, fun j => by rw [free_set]; exact h.free j⟩
theorem InsAt.put2 {w : World} {b : Nat} {i : Ins} (h : InsAt w b i) (x : Int) : InsAt (w.setCell ⟨b, 2, none⟩ (.int .i64 x)) b (i.kind, i.a, x, i.n, i.key) :=
  ⟨by rw [set_off (by decide)]; exact h.c0, by rw [set_off (by decide)]; exact h.c1, World.cell?_setCell_same _ _ _ h.c2, by rw [set_off (by decide)]; exact h.c3, by rw [set_off (by decide)]; exact h.c4, fun j => by rw [free_set]; exact h.free j⟩
theorem InsAt.put3 {w : World} {b : Nat} {i : Ins} (h : InsAt w b i) (x : Int) : InsAt (w.setCell ⟨b, 3, none⟩ (.int .i64 x)) b (i.kind, i.a, i.b, x, i.key) :=
  ⟨by rw [set_off (by decide)]; exact h.c0, by rw [set_off (by decide)]; exact h.c1, by rw [set_off (by decide)]; exact h.c2, World.cell?_setCell_same _ _ _ h.c3, by rw [set_off (by decide)]; exact h.c4, fun j => by rw [free_set]; exact h.free j⟩
theorem InsAt.put4 {w : World} {b : Nat} {i : Ins} (h : InsAt w b i) (s : ByteArray) : InsAt (w.setCell ⟨b, 4, none⟩ (.string s)) b (i.kind, i.a, i.b, i.n, s) :=
  ⟨by rw [set_off (by decide)]; exact h.c0, by rw [set_off (by decide)]; exact h.c1, by rw [set_off (by decide)]; exact h.c2, by rw [set_off (by decide)]; exact h.c3, World.cell?_setCell_same _ _ _ h.c4, fun j => by rw [free_set]; exact h.free j⟩
/-- All five places at once. -/
def setFive (w : World) (b : Nat) (j : Ins) : World := ((((w.setCell ⟨b, 0, none⟩ (.int .i64 j.kind)).setCell ⟨b, 1, none⟩ (.int .i64 j.a)).setCell ⟨b, 2, none⟩ (.int .i64 j.b)).setCell ⟨b, 3, none⟩ (.int .i64 j.n)).setCell ⟨b, 4, none⟩ (.string j.key)
theorem InsAt.all {w : World} {b : Nat} {i : Ins} (h : InsAt w b i) (j : Ins) : InsAt (setFive w b j) b j := ((((h.put0 j.kind).put1 j.a).put2 j.b).put3 j.n).put4 j.key
theorem below_five {w0 w : World} (h : Below w0.heap.size w0 w) {b : Nat} (hb : w0.heap.size ≤ b) (j : Ins) : Below w0.heap.size w0 (setFive w b j) :=
  ((((h.setCell (p := ⟨b, 0, none⟩) hb _).setCell (p := ⟨b, 1, none⟩) hb _).setCell (p := ⟨b, 2, none⟩) hb _).setCell (p := ⟨b, 3, none⟩) hb _).setCell (p := ⟨b, 4, none⟩) hb _
theorem five_new (w : World) (i : Ins) (t : TypeId) : InsAt (w.alloc (.cells #[.int .i64 i.kind, .int .i64 i.a, .int .i64 i.b, .int .i64 i.n, .string i.key] t)) w.heap.size i :=
  ⟨box_cell _ _ _ _ _ rfl, box_cell _ _ _ _ _ rfl, box_cell _ _ _ _ _ rfl, box_cell _ _ _ _ _ rfl, box_cell _ _ _ _ _ rfl, fun _ => World.frozen?_alloc_at _ _ _ _ rfl⟩
end Go.Proofs.YtdnafpenljdinadDoor

namespace Go.Proofs.YtdnafpenljdinadDoor
open Go.RowKit

def insV (i : Ins) : Value := .agg #[.int .i64 i.kind, .int .i64 i.a, .int .i64 i.b, .int .i64 i.n, .string i.key]
def ins00 : Ins := (0, 0, 0, 0, ⟨#[]⟩)
/-- Words held against places. -/
def fillRG (PL WL : List T) (k : Nat) : Int × Ins :=
  if WL.length ≠ PL.length then (2, ins00)
  else match fillG PL WL (ins0 k) with
    | some i => (0, i)
    | none => (2, ins00)
theorem fillRG_fillR (k : Nat) (l : List T) : fillRG (placesT k) l k = fillR k l := rfl
theorem text_eq (p q : T) : ((ofT p).toList == q) = decide (p = q) := by
  rw [ByteArray.toList_eq]
  show ((ofT p).data.toList == q) = _
  rw [show (ofT p).data.toList = p from keyT_ofT p]
  by_cases h : p = q
  · simp [h]
  · simp [h]
theorem getD_map_ofT {l : List T} {j : Nat} (h : j < l.length) : (l.map ofT).getD j default = ofT (l.getD j []) := by
  simp [List.getD, h]
theorem drop_getD {l : List T} {j : Nat} (h : j < l.length) : l.drop j = l.getD j [] :: l.drop (j + 1) := by
  rw [List.drop_eq_getElem_cons h]
  simp [List.getD, h]
/-- One step of the filling. -/
theorem fill_next {PL WL : List T} {k j : Nat} {i : Ins} (h : fillG PL WL (ins0 k) = fillG (PL.drop j) (WL.drop j) i) (hp : j < PL.length) (hw : j < WL.length) :
    (∀ i', fillStep (PL.getD j []) (WL.getD j []) i = some i' → fillG PL WL (ins0 k) = fillG (PL.drop (j + 1)) (WL.drop (j + 1)) i') ∧ (fillStep (PL.getD j []) (WL.getD j []) i = none → fillG PL WL (ins0 k) = none) := by
  rw [drop_getD hp, drop_getD hw, fillG] at h
  exact ⟨fun i' e => by rw [h, e]; rfl, fun e => by rw [h, e]; rfl⟩
theorem fill_end {PL WL : List T} {k j : Nat} {i : Ins} (h : fillG PL WL (ins0 k) = fillG (PL.drop j) (WL.drop j) i) (hw : WL.length ≤ j) : fillG PL WL (ins0 k) = some i := by
  rw [h, List.drop_of_length_le hw]
  cases PL.drop j <;> rfl
theorem fillStep_other {p w : T} {i : Ins} (h1 : p ≠ pA) (h2 : p ≠ pB) (h3 : p ≠ pN) (h4 : p ≠ pK) : fillStep p w i = some i := by
  unfold fillStep; rw [if_neg h1, if_neg h2, if_neg h3, if_neg h4]

/-- The state between two rounds. -/
structure Fills (w wr : World) (PL WL : List T) (k j : Nat) (i : Ins) : Prop where
  sofar : fillG PL WL (ins0 k) = fillG (PL.drop j) (WL.drop j) i
  here : InsAt wr (w.heap.size + 1) i
  res : InsAt wr w.heap.size ins00
  bel : Below w.heap.size w wr

end Go.Proofs.YtdnafpenljdinadDoor

namespace Go.Proofs.YtdnafpenljdinadDoor
open Go.RowKit

/-- The pieces of a text, told by how many there are. -/
theorem pieces_cell {w w' : World} {l : List ByteArray} (h : Pieces w w' l) {j : Nat} (hj : j < l.length) : w'.cell? ⟨w.heap.size, j, none⟩ = some (.string (l.getD j default)) := by
  rw [h.is]
  refine box_cell _ _ _ _ _ ?_
  have := strs_at hj
  simpa using this
theorem pieces_tail {w w' : World} {x : ByteArray} {l : List ByteArray} (h : Pieces w w' (x :: l)) (hl : l.length ≤ maxLen) : Texts w' (some ⟨w.heap.size, 1, none⟩) l.length l.length l := by
  refine ⟨by simp [strs], ⟨Nat.le_refl _, hl, fun h => by cases h⟩, .inr ⟨_, _, rfl, fun j u hu => ?_⟩⟩
  rw [h.is]
  refine box_cell _ _ _ _ _ ?_
  rw [Nat.add_comm 1 j]
  simpa [strs] using hu
theorem spl1_len_le : ∀ (s cur : T), (spl1 cur s).length ≤ s.length + 1
  | [], cur => by simp [spl1]
  | c :: s, cur => by
    rw [spl1]
    split
    · have := spl1_len_le s []; simp; omega
    · have := spl1_len_le s (cur ++ [c]); simp; omega
theorem spl1_small : ∀ (s cur : T), ∀ x ∈ spl1 cur s, x.length ≤ cur.length + s.length
  | [], cur, x, h => by simp [spl1] at h; rw [h]; simp
  | c :: s, cur, x, h => by
    rw [spl1] at h
    split at h
    · rcases List.mem_cons.1 h with rfl | h
      · simp
      · have := spl1_small s [] x h; simp at this ⊢; omega
    · have := spl1_small s (cur ++ [c]) x h; simp at this ⊢; omega
theorem spl2_small : ∀ (s cur : T), ∀ x ∈ spl2 cur s, x.length ≤ cur.length + s.length
  | [], cur, x, h => by simp [spl2] at h; rw [h]; simp
  | [c], cur, x, h => by simp [spl2] at h; rw [h]; simp
  | c :: d :: s, cur, x, h => by
    rw [spl2] at h
    split at h
    · rcases List.mem_cons.1 h with rfl | h
      · simp
      · have := spl2_small s [] x h; simp at this ⊢; omega
    · have := spl2_small (d :: s) (cur ++ [c]) x h; simp at this ⊢; omega
theorem spl2_len_le : ∀ (s cur : T), (spl2 cur s).length ≤ s.length + 1
  | [], cur => by simp [spl2]
  | [c], cur => by simp [spl2]
  | c :: d :: s, cur => by
    rw [spl2]
    split
    · have := spl2_len_le s []; simp; omega
    · have := spl2_len_le (d :: s) (cur ++ [c]); simp at this ⊢; omega
theorem bytes_eq (a b : ByteArray) : (a.toList == b.toList) = decide (a = b) := by
  by_cases h : a = b
  · rw [streq_true h]; simp [h]
  · rw [streq_false h]; simp [h]

/-- The kind of a word, if it is none of the first ones. -/
theorem kindOf_at {x : T} {k : Nat} (h1 : 1 ≤ k) (h9 : k ≤ 9) (h : x = word k) : kindOf x = k := by rw [h]; exact kindOf_word k h1 h9
theorem kindOf_zero {x : T} (h : ∀ j, 1 ≤ j → j < 10 → x ≠ word j) : kindOf x = 0 := by
  rcases kindOf_cases x with h0 | ⟨h1, h2, h3⟩
  · exact h0
  · exact absurd h3 (h _ h1 (by omega))

theorem shapeT_len (k : Nat) : (shapeT k).length ≤ 12 := by unfold shapeT; split <;> decide
theorem placesT_len {k : Nat} (h1 : 1 ≤ k) (h9 : k ≤ 9) : 1 ≤ (placesT k).length ∧ (placesT k).length ≤ 13 := by
  refine ⟨?_, ?_⟩
  · obtain ⟨r, hr⟩ := placesT_head h1 h9
    rw [hr]; simp
  · have := spl1_len_le (shapeT k) []
    have := shapeT_len k
    unfold placesT; omega
theorem text_same (a b : T) : ((ofT a).toList == (ofT b).toList) = decide (a = b) := by
  rw [bytes_eq]
  by_cases e : a = b
  · simp [e]
  · rw [decide_eq_false e, decide_eq_false (fun e' => e (by rw [← keyT_ofT a, e', keyT_ofT]))]

end Go.Proofs.YtdnafpenljdinadDoor
