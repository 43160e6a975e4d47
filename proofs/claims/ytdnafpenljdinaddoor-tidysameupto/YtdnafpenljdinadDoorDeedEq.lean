/-
  A map in memory whose keys are texts: what it has at each key, whatever its elements are.
  What it means that a function of the program's own is entered when it is called by a value.
  How the program asks what a key has: its own doings first, then what it is shown.
  What a deed made, told in the order of the keys that it writes.
  Chains that a call has made: each one's versions lie in memory of its own, apart from the others'.
  The document's own table of what instructions have.
  Whether two deeds are the same, by the program and by the document's answer; a copy of a deed.
-/
import Derived.Test.YtdnafpenljdinadDoorDeedWrong
import Derived.Maps.OwnSet
import Derived.Test.YtdnafpenljdinadDoorChecked
import Derived.WalkKit
import Derived.Test.YtdnafpenljdinadDoorOpenDeed
import Derived.Defers
import Derived.Recover
import Derived.Test.YtdnafpenljdinadDoorChainsIn
import Derived.Deep.QuietTactic
import Derived.BigQuiet
namespace Go.Proofs.YtdnafpenljdinadDoor
open Go.RowKit

/-- An element is read as itself. -/
def asIs : Value → Option (DataW Value × List MemPlace) := fun v => some (.held v, [])
def keyLit (k : ByteArray) : Lit := .string k.data.toList
theorem keyLit_inj {a b : ByteArray} (h : keyLit a = keyLit b) : a = b := by
  cases a; cases b; simpa [keyLit] using h
theorem keyLit_is (k : ByteArray) : WideAt.IsKeyLit (keyLit k) := by simp [keyLit, WideAt.IsKeyLit]

/-- Block b is a map of at most n entries that has, at each key, what f tells. -/
def MapIs (w : World) (b n : Nat) (f : ByteArray → Option Value) : Prop :=
  ∃ D : DataW Value, w.ownsMap Tryd.prog 9 asIs b n D ∧ (∀ k, f k = none → Maps.has D (keyLit k) = false) ∧ (∀ k v, f k = some v → Maps.has D (keyLit k) = true ∧ ∀ z, D.atKey (keyLit k) z = .held v)

theorem MapIs.made (w : World) : MapIs (w.alloc (.map #[] 0)) w.heap.size 0 (fun _ => none) :=
  ⟨_, World.ownsMap_made w _ _ _, fun _ _ => rfl, fun _ _ h => by cases h⟩
theorem MapIs.lt {w : World} {b n : Nat} {f : ByteArray → Option Value} (h : MapIs w b n f) : b < w.heap.size := by
  obtain ⟨D, h, _⟩ := h; exact h.lt
theorem MapIs.block {w w' : World} {b n : Nat} {f : ByteArray → Option Value} (h : MapIs w b n f) (hb : w'.heap[b]? = w.heap[b]?) : MapIs w' b n f := by
  obtain ⟨D, ⟨es, clock, h1, h2⟩, r⟩ := h
  exact ⟨D, ⟨es, clock, hb.trans h1, h2⟩, r⟩
theorem MapIs.below {w w' : World} {b n B : Nat} {f : ByteArray → Option Value} (h : MapIs w b n f) (hb : Below B w w') (hB : b < B) : MapIs w' b n f := h.block (hb.block b hB)
theorem MapIs.alloc {w : World} {b n : Nat} {f : ByteArray → Option Value} (h : MapIs w b n f) (o : Obj) : MapIs (w.alloc o) b n f := h.block (Below.heap_alloc _ _ _ h.lt)
theorem MapIs.setCell {w : World} {b n : Nat} {f : ByteArray → Option Value} (h : MapIs w b n f) {a : Addr} (ha : b ≠ a.block) (u : Value) : MapIs (w.setCell a u) b n f := h.block (Below.heap_setCell _ _ _ _ ha)
theorem MapIs.mono {w : World} {b n m : Nat} {f : ByteArray → Option Value} (h : MapIs w b n f) (hn : n ≤ m) : MapIs w b m f := by
  obtain ⟨D, h, r⟩ := h; exact ⟨D, h.mono hn, r⟩
theorem MapIs.ext {w : World} {b n : Nat} {f g : ByteArray → Option Value} (h : MapIs w b n f) (e : ∀ k, f k = g k) : MapIs w b n g := by
  have : f = g := funext e
  rwa [← this]

theorem key_law : Maps.Keyed Tryd.prog 9 := Maps.string_keyed Tryd.underlying9

/-- v, ok := m[k]. -/
theorem MapIs.look {w : World} {b n : Nat} {f : ByteArray → Option Value} (h : MapIs w b n f) {t e : TypeId} (ht : Tryd.prog.underlying t = some (.map 9 e)) {z : Value} (hz : (zeroValue e).run Tryd.prog w = .ok z w) (k : ByteArray) (hk : k.size ≤ maxLen) :
    (Instr.lookup t (.map (some b)) (.string k) true).run Tryd.prog w = .ok (.tuple #[(f k).getD z, .bool (f k).isSome]) w := by
  obtain ⟨D, h, h0, h1⟩ := h
  obtain ⟨v, ps, hr, hv⟩ := h.look_ok key_law ht hz (zd := .held z) (zp := []) rfl (WideMaps.keyOf_string_mk Tryd.underlying9 hk)
  rw [hr]
  cases hf : f k with
  | none =>
    have hn := h0 k hf
    have := Maps.atKey_of_not_has hn (.held z)
    simp only [asIs, Option.some.injEq, Prod.mk.injEq] at hv
    have e1 : DataW.held v = .held z := by rw [hv.1]; exact this
    cases e1
    have : Maps.has D (.string k.data.toList) = false := hn
    rw [this]; rfl
  | some u =>
    obtain ⟨hn, ha⟩ := h1 k u hf
    simp only [asIs, Option.some.injEq, Prod.mk.injEq] at hv
    have e1 : DataW.held v = .held u := by rw [hv.1]; exact ha _
    cases e1
    have : Maps.has D (.string k.data.toList) = true := hn
    rw [this]; rfl

/-- m[k]. -/
theorem MapIs.get {w : World} {b n : Nat} {f : ByteArray → Option Value} (h : MapIs w b n f) {t e : TypeId} (ht : Tryd.prog.underlying t = some (.map 9 e)) {z : Value} (hz : (zeroValue e).run Tryd.prog w = .ok z w) (k : ByteArray) (hk : k.size ≤ maxLen) :
    (Instr.lookup t (.map (some b)) (.string k) false).run Tryd.prog w = .ok ((f k).getD z) w := by
  obtain ⟨D, h, h0, h1⟩ := h
  obtain ⟨v, ps, hr, hv⟩ := h.lookup key_law ht hz (zd := .held z) (zp := []) rfl (WideMaps.keyOf_string_mk Tryd.underlying9 hk)
  rw [hr]
  simp only [asIs, Option.some.injEq, Prod.mk.injEq] at hv
  cases hf : f k with
  | none =>
    have e1 : DataW.held v = .held z := by rw [hv.1]; exact Maps.atKey_of_not_has (h0 k hf) (.held z)
    cases e1; rfl
  | some u =>
    have e1 : DataW.held v = .held u := by rw [hv.1]; exact (h1 k u hf).2 _
    cases e1; rfl

/-- m[k] = v. -/
theorem MapIs.put {w : World} {b n : Nat} {f : ByteArray → Option Value} (h : MapIs w b n f) {t e : TypeId} (ht : Tryd.prog.underlying t = some (.map 9 e)) (hn : n < maxLen) (k : ByteArray) (hk : k.size ≤ maxLen) (v : Value) :
    ∃ w', (Instr.mapUpdate t (.map (some b)) (.string k) v).run Tryd.prog w = .ok () w' ∧ MapIs w' b (n + 1) (fun j => if j = k then some v else f j) ∧ w.grownBy w' (some b) := by
  obtain ⟨D, h, h0, h1⟩ := h
  obtain ⟨w', hr, ho, hg⟩ := h.update key_law ht hn (WideMaps.keyOf_string_mk Tryd.underlying9 hk) (val := v) (d := .held v) (ps := []) rfl
  rw [show Lit.string k.data.toList = keyLit k from rfl] at ho
  refine ⟨w', hr, ⟨_, ho, fun j hj => ?_, fun j u hj => ?_⟩, hg⟩
  · by_cases e : j = k
    · simp [e] at hj
    · simp only [if_neg e] at hj
      rw [Maps.has_put_other (fun x => e (keyLit_inj x))]
      exact h0 j hj
  · by_cases e : j = k
    · subst e
      simp at hj
      subst hj
      exact ⟨Maps.has_put_same h.isMap (keyLit_is _) _, fun z => Maps.atKey_put_same h.isMap (keyLit_is _) _ z⟩
    · simp only [if_neg e] at hj
      obtain ⟨g1, g2⟩ := h1 j u hj
      exact ⟨by rw [Maps.has_put_other (fun x => e (keyLit_inj x))]; exact g1, fun z => by rw [Maps.atKey_put_other (fun x => e (keyLit_inj x))]; exact g2 z⟩

/-- m[k] = v at the operation. -/
theorem wpList_put (w : World) {ops : Array Oper} {rest : List Oper} {o : Oper} {a : Act} {Q : Exit → Act → World → Prop}
    (hg : o.guard = none) (m x v : Operand) (t : TypeId) (hop : o.op = Op.mapUpdate t m x v) (e : TypeId) (ht : Tryd.prog.underlying t = some (.map 9 e)) (b n : Nat) (f : ByteArray → Option Value)
    (hm : a.eval m = .map (some b)) (h : MapIs w b n f) (hn : n < maxLen) (k : ByteArray) (hk : k.size ≤ maxLen) (val : Value) (hx : a.eval x = .string k) (hv : a.eval v = val)
    (hK : ∀ w', MapIs w' b (n + 1) (fun j => if j = k then some val else f j) → w.grownBy w' (some b) → wpList Tryd.prog ops Q rest (a.put o.dst undef) w') :
    wpList Tryd.prog ops Q (o :: rest) a w := by
  refine wpList_plain hg fun K' hK' => ?_
  obtain ⟨w', hrun, r1, r2⟩ := h.put ht hn k hk val
  unfold Oper.wp
  simp [execOp, hop, hm, hx, hv, hrun, Result.andThen]
  exact hK' _ _ (hK w' r1 r2)
end Go.Proofs.YtdnafpenljdinadDoor

namespace Go.Proofs.YtdnafpenljdinadDoor
open Go.RowKit

/-- A function of the program's own, that is entered. -/
def Entered (F : Nat) : Prop := ∀ (args : Array Value) (w : World), (callFunc F args).run Tryd.prog w = .ok (.enter F args) w
end Go.Proofs.YtdnafpenljdinadDoor

namespace Go.Proofs.YtdnafpenljdinadDoor
open Go.RowKit

/-- What a view tells of a key, in whatever world that has grown out of w. -/
def Tells (w : World) (F : Nat) (caps : Array Value) (k : ByteArray) (x : Int) : Prop :=
  ∀ w0, Below w.heap.size w w0 → Calls Tryd.prog F (#[.string k] ++ caps) w0 fun e w' => (∃ (t : Int) (ok : Bool), e = .returned (.tuple #[.int .i64 t, .bool ok]) ∧ (if ok = true then t else 0) = x) ∧ Below w0.heap.size w0 w'
theorem Tells.below {w w1 : World} {F : Nat} {caps : Array Value} {k : ByteArray} {x : Int} (h : Tells w F caps k x) (hb : Below w.heap.size w w1) : Tells w1 F caps k x := fun w0 h0 => h w0 (below_deep hb h0)

/-- What a key is given, as the program keeps it. -/
def verVal (o : Option Int) : Value := match o with
  | some n => .agg #[.int .i64 0, .bool true, .bool true, .int .i64 n]
  | none => .agg #[.int .i64 0, .bool true, .bool false, .int .i64 0]
def verMap (m : Made) : ByteArray → Option Value := fun k => (m k).map verVal
theorem verMap_set (m : Made) (k : ByteArray) (o : Option Int) : verMap (setM m k o) = fun j => if j = k then some (verVal o) else verMap m j := by
  funext j; unfold verMap setM; split <;> rfl
theorem verZero (w : World) : (zeroValue 68).run Tryd.prog w = .ok (.agg #[.int .i64 0, .bool false, .bool false, .int .i64 0]) w := by kernel_rfl

end Go.Proofs.YtdnafpenljdinadDoor

namespace Go.Proofs.YtdnafpenljdinadDoor
open Go.RowKit

/-- Versions' cells. -/
def verCell (o : Option Int) : List Value := match o with
  | some n => [.int .i64 0, .bool true, .bool true, .int .i64 n]
  | none => [.int .i64 0, .bool true, .bool false, .int .i64 0]
def verCells : List (ByteArray × Option Int) → List Value
  | [] => []
  | x :: l => verCell x.2 ++ verCells l
theorem verCell_length (o : Option Int) : (verCell o).length = 4 := by cases o <;> rfl
theorem verCell_one (o : Option Int) : ∀ u ∈ verCell o, u.oneCell' = true := by
  intro u hu; cases o <;> simp [verCell] at hu <;> rcases hu with rfl | rfl | rfl | rfl <;> rfl
theorem verCells_append : ∀ l m, verCells (l ++ m) = verCells l ++ verCells m
  | [], _ => rfl
  | x :: l, m => by simp [verCells, verCells_append l m]
theorem verCells_length : ∀ l, (verCells l).length = l.length * 4
  | [] => rfl
  | x :: l => by simp [verCells, verCell_length, verCells_length l]; omega
theorem verCells_at : ∀ (l : List (ByteArray × Option Int)) (k : Nat), k < l.length → ∀ j u, (verCell (l.getD k default).2)[j]? = some u → (verCells l)[k * 4 + j]? = some u
  | [], k, h => absurd h (Nat.not_lt_zero _)
  | x :: l, 0, _ => fun j u hu => by
    rw [verCells, List.getElem?_append_left]
    · simpa using hu
    · simpa using (List.getElem?_eq_some_iff.1 hu).1
  | x :: l, k + 1, h => fun j u hu => by
    have := verCells_at l k (by simpa using h) j u (by simpa using hu)
    rw [verCells, List.getElem?_append_right (by rw [verCell_length]; omega), verCell_length]
    rw [show (k + 1) * 4 + j - 4 = k * 4 + j from by omega]
    exact this
def keysOf (l : List (ByteArray × Option Int)) : List ByteArray := l.map (·.1)

/-- A slice of one element that was just laid. -/
theorem lies_one (w : World) (vs : Array Value) (t sz : Nat) (h : vs.size = sz) : Lies (w.alloc (.cells vs t)) sz (some ⟨w.heap.size, 0, none⟩) 1 1 vs.toList := by
  refine ⟨by simp [h], ⟨Nat.le_refl _, by unfold maxLen; omega, fun h => by cases h⟩, .inr ⟨_, _, rfl, fun j u hu => ?_⟩⟩
  rw [Nat.zero_add]
  exact box_cell _ _ _ _ _ (by simpa using hu)
/-- Rows of two types lie apart. -/
theorem rows_apart {w : World} {B B' e e' s s' n n' : Nat} {v v' : Value} {xs xs' : List Value} (h : w.ownsRow B e s v n xs) (h' : w.ownsRow B' e' s' v' n' xs') (hne : e ≠ e') : v.ownBlock = none ∨ v.ownBlock ≠ v'.ownBlock := by
  rcases h.2 with ⟨rfl, _⟩ | ⟨g, cap, cur, rfl, _, hg, _⟩
  · exact .inl rfl
  · refine .inr fun e1 => ?_
    rcases h'.2 with ⟨rfl, _⟩ | ⟨g', cap', cur', rfl, _, hg', _⟩
    · simp [Value.ownBlock] at e1
    · simp [Value.ownBlock] at e1
      subst e1
      rw [hg] at hg'
      simp at hg'
      exact hne hg'.2
theorem le_box {B : Nat} {w : World} {o : Obj} (h : B ≤ w.heap.size) : B ≤ (w.alloc o).heap.size := by rw [World.size_alloc]; omega
/-- A slice's memory is from block B on. -/
def Fresh (B : Nat) (base : Option Addr) : Prop := ∀ a, base = some a → B ≤ a.block
theorem fresh_none (B : Nat) : Fresh B none := fun _ h => by cases h
theorem Lies.set {w : World} {sz : Nat} {base : Option Addr} {n c : Nat} {vs : List Value} (h : Lies w sz base n c vs) {B : Nat} (hf : Fresh B base) {p : Addr} (hp : p.block < B) (u : Value) : Lies (w.setCell p u) sz base n c vs := by
  refine ⟨h.len, h.hdr, ?_⟩
  rcases h.run with h0 | ⟨b, o, e, hr⟩
  · exact .inl h0
  · refine .inr ⟨b, o, e, fun j x hx => ?_⟩
    have hb : B ≤ b := hf _ e
    rw [World.cell?_setCell_other _ _ _ _ (fun e => by have := congrArg Addr.block e; simp at this; omega)]
    exact hr j x hx
theorem verInfo : (Tryd.prog.info? 68).map (fun i => (i.zero, i.size, i.bytes)) = some (some (.agg #[.int .i64 0, .bool false, .bool false, .int .i64 0]), 4, 24) := by kernel_rfl
theorem MapIs.deep {w w' : World} {b n : Nat} {f : ByteArray → Option Value} (h : MapIs w b n f) (hb : Below w.heap.size w w') : MapIs w' b n f := h.below hb h.lt

end Go.Proofs.YtdnafpenljdinadDoor

namespace Go.Proofs.YtdnafpenljdinadDoor
open Go.RowKit

theorem chnInfo : (Tryd.prog.info? 59).map (fun i => (i.zero, i.size, i.bytes)) = some (some (.agg #[.string ByteArray.empty, .slice none 0 0]), 2, 40) := by kernel_rfl
theorem flatV_one (l : List Ver) : ∀ u ∈ flat verC l, u.oneCell' = true := flat_one verC_one l
theorem flatS_one (l : List Slot) : ∀ u ∈ flat slotC l, u.oneCell' = true := flat_one slotC_one l
/-- A row of versions that a call owns. -/
abbrev OwnsV (w : World) (B : Nat) (v : Value) (l : List Ver) : Prop := w.ownsRow B 68 4 v l.length (flat verC l)
abbrev slotV (s : Slot) : Value := .slice s.2.1 s.2.2.1 s.2.2.2
/-- Slots whose versions a call owns, each apart. -/
structure OwnSlots (w : World) (B : Nat) (S : List Slot) (L : List Chn) : Prop where
  len : S.length = L.length
  key : ∀ i, i < L.length → (S.getD i default).1 = (L.getD i default).1 ∧ (L.getD i default).1.size ≤ maxLen
  own : ∀ i, i < L.length → OwnsV w B (slotV (S.getD i default)) (L.getD i default).2
  apart : ∀ i j, i < j → j < L.length → ∀ a, (slotV (S.getD i default)).ownBlock = some a → (slotV (S.getD j default)).ownBlock ≠ some a
theorem OwnSlots.nil (w : World) (B : Nat) : OwnSlots w B [] [] := ⟨rfl, fun _ h => absurd h (Nat.not_lt_zero _), fun _ h => absurd h (Nat.not_lt_zero _), fun _ _ _ h => absurd h (Nat.not_lt_zero _)⟩
theorem grown_below {w w' : World} (h : Below w.heap.size w w') : w.grownBy w' none := ⟨h.os, h.tape, h.output, h.size, fun k hk _ => h.block k hk⟩
theorem owns_keep {w w' : World} {B e s n : Nat} {v : Value} {xs : List Value} (h : w.ownsRow B e s v n xs) (hb : Below w.heap.size w w') : w'.ownsRow B e s v n xs :=
  h.kept (grown_below hb) (by cases v.ownBlock <;> simp)
theorem owns_lower {w : World} {B B' e s n : Nat} {v : Value} {xs : List Value} (h : w.ownsRow B e s v n xs) (hB : B' ≤ B) : w.ownsRow B' e s v n xs := by
  refine ⟨h.1, h.2.imp id ?_⟩
  rintro ⟨g, cap, cur, rfl, hb, rest⟩
  exact ⟨g, cap, cur, rfl, Nat.le_trans hB hb, rest⟩
theorem OwnSlots.below {w w' : World} {B : Nat} {S : List Slot} {L : List Chn} (h : OwnSlots w B S L) (hb : Below w.heap.size w w') : OwnSlots w' B S L :=
  ⟨h.len, h.key, fun i hi => owns_keep (h.own i hi) hb, h.apart⟩
/-- A row of another type grows. -/
theorem OwnSlots.grown {w w' : World} {B B' e s n : Nat} {v : Value} {xs : List Value} {S : List Slot} {L : List Chn} (h : OwnSlots w B S L) (ho : w.ownsRow B' e s v n xs) (hne : 68 ≠ e) (hg : w.grownBy w' v.ownBlock) : OwnSlots w' B S L :=
  ⟨h.len, h.key, fun i hi => (h.own i hi).kept hg (rows_apart (h.own i hi) ho hne), h.apart⟩
theorem OwnSlots.snoc {w : World} {B : Nat} {S : List Slot} {L : List Chn} {s : Slot} {x : Chn} (h : OwnSlots w B S L) (hk : s.1 = x.1) (hz : x.1.size ≤ maxLen) (ho : OwnsV w B (slotV s) x.2) (hap : ∀ i, i < L.length → ∀ a, (slotV (S.getD i default)).ownBlock = some a → (slotV s).ownBlock ≠ some a) : OwnSlots w B (S ++ [s]) (L ++ [x]) := by
  have e1 : ∀ i, i < L.length → (S ++ [s]).getD i default = S.getD i default := fun i hi => by
    have : i < S.length := by rw [h.len]; exact hi
    simp [List.getD, List.getElem?_append_left this]
  have e2 : ∀ i, i < L.length → (L ++ [x]).getD i default = L.getD i default := fun i hi => by simp [List.getD, List.getElem?_append_left hi]
  have e3 : (S ++ [s]).getD L.length default = s := by rw [← h.len]; simp [List.getD]
  have e4 : (L ++ [x]).getD L.length default = x := by simp [List.getD]
  have part : ∀ i, i < (L ++ [x]).length → i < L.length ∨ i = L.length := fun i hi => by simp at hi; omega
  refine ⟨by simp [h.len], fun i hi => ?_, fun i hi => ?_, fun i j hij hj => ?_⟩
  · rcases part i hi with h1 | rfl
    · rw [e1 i h1, e2 i h1]; exact h.key i h1
    · rw [e3, e4]; exact ⟨hk, hz⟩
  · rcases part i hi with h1 | rfl
    · rw [e1 i h1, e2 i h1]; exact h.own i h1
    · rw [e3, e4]; exact ho
  · rcases part j hj with h1 | rfl
    · rw [e1 i (by omega), e1 j h1]; exact h.apart i j hij h1
    · rw [e1 i hij, e3]; exact hap i hij
theorem OwnSlots.lt {w : World} {B : Nat} {S : List Slot} {L : List Chn} (h : OwnSlots w B S L) {i : Nat} (hi : i < L.length) {a : Nat} (ha : (slotV (S.getD i default)).ownBlock = some a) : a < w.heap.size := ((h.own i hi).lt a ha).2
theorem OwnSlots.are {w : World} {B : Nat} {S : List Slot} {L : List Chn} (h : OwnSlots w B S L) (B' : Nat) : SlotsAre w B' 68 S L := by
  refine ⟨h.len, fun i hi => ⟨(h.key i hi).1, ?_, ?_, (h.key i hi).2⟩⟩
  · obtain ⟨b, c, e, hl⟩ := Lies.owned (h.own i hi)
    simp only [Value.slice.injEq] at e
    obtain ⟨e1, e2, e3⟩ := e
    rw [e1, e2, e3]; exact hl
  · obtain ⟨b, c, e, hl⟩ := Lies.owned (h.own i hi)
    have ho := h.own i hi
    simp only [Value.slice.injEq] at e
    obtain ⟨e1, e2, e3⟩ := e
    rw [e1, e2]
    rw [slotV, e1, e2, e3] at ho
    exact Lies.kind ho B'
/-- A row of slots that a call owns, and their versions: chains. -/
theorem chains_owned {w : World} {B n : Nat} {v : Value} {S : List Slot} {L : List Chn} (ho : w.ownsRow B 59 2 v n (flat slotC S)) (hs : OwnSlots w B S L) : ∃ base c, v = .slice base n c ∧ ChainsIn w base n c L := by
  obtain ⟨base, c, rfl, hl⟩ := Lies.owned ho
  exact ⟨base, c, rfl, chains_of_slots hl (hs.are B)⟩
/-- Chains whose memory is chains' and versions' own. -/
def ChK (w : World) (base : Option Addr) (n c : Nat) (L : List Chn) : Prop := ∃ S, Lies w 2 base n c (flat slotC S) ∧ Kind w 59 base ∧ SlotsAre w 0 68 S L
theorem ChK.chains {w : World} {base : Option Addr} {n c : Nat} {L : List Chn} (h : ChK w base n c L) : ChainsIn w base n c L := by
  obtain ⟨S, hl, _, hs⟩ := h
  exact chains_of_slots hl hs
theorem ChK.below {w w' : World} {base : Option Addr} {n c : Nat} {L : List Chn} (h : ChK w base n c L) (hb : Below w.heap.size w w') : ChK w' base n c L := by
  obtain ⟨S, hl, hk, hs⟩ := h
  exact ⟨S, hl.below (by decide) hb, hk.below hb, hs.below hb⟩
/-- A row of another type grows. -/
theorem ChK.grown {w w' : World} {B e s m : Nat} {v : Value} {xs : List Value} {base : Option Addr} {n c : Nat} {L : List Chn} (h : ChK w base n c L) (ho : w.ownsRow B e s v m xs) (h1 : 59 ≠ e) (h2 : 68 ≠ e) (hg : w.grownBy w' v.ownBlock) : ChK w' base n c L := by
  obtain ⟨S, hl, hk, hs⟩ := h
  have h0 := owns_lower ho (Nat.zero_le _)
  have hk' : Kind w' 59 base := fun a e => by
    obtain ⟨cur, z, hc⟩ := hk a e
    have hne := own_apart (b := a.block) h0 (.inr ⟨cur, z, hc⟩) h1
    exact ⟨cur, z, (hg.block _ (Array.getElem?_eq_some_iff.1 hc).1 hne).trans hc⟩
  exact ⟨S, (hl.grown (by decide) (.inr (.inr hk)) h0 h1 hg).1, hk', hs.grown h0 h2 hg⟩
theorem chK_owned {w : World} {B n : Nat} {v : Value} {S : List Slot} {L : List Chn} (ho : w.ownsRow B 59 2 v n (flat slotC S)) (hs : SlotsAre w 0 68 S L) : ∃ base c, v = .slice base n c ∧ ChK w base n c L := by
  obtain ⟨base, c, rfl, hl⟩ := Lies.owned ho
  exact ⟨base, c, rfl, S, hl, Kind.owned ho, hs⟩
end Go.Proofs.YtdnafpenljdinadDoor

namespace Go.Proofs.YtdnafpenljdinadDoor
open Go.RowKit

/-- The letters of an instruction of a kind. -/
def form (k : Nat) : ByteArray := match k with
  | 1 => ⟨#[114, 107]⟩
  | 2 => ⟨#[114, 110]⟩
  | 3 => ⟨#[114, 115]⟩
  | 4 => ⟨#[114, 115]⟩
  | 5 => ⟨#[114, 115]⟩
  | 6 => ⟨#[114, 107]⟩
  | 7 => ⟨#[107]⟩
  | 8 => ⟨#[114, 110]⟩
  | 9 => ⟨#[114]⟩
  | _ => ⟨#[]⟩
def letter (k : Nat) (c : Nat) : Bool := (form k).data.toList.any (fun x => decide (x.toNat = c))

set_option maxHeartbeats 4000000 in
theorem form_calls (k : Nat) (w : World) (h1 : 1 ≤ k) (h9 : k ≤ 9) :
    Calls Tryd.prog 49 #[.int .i64 k] w fun e w' => e = .returned (.string (form k)) ∧ Below w.heap.size w w' := by
  have : k = 1 ∨ k = 2 ∨ k = 3 ∨ k = 4 ∨ k = 5 ∨ k = 6 ∨ k = 7 ∨ k = 8 ∨ k = 9 := by omega
  rcases this with rfl | rfl | rfl | rfl | rfl | rfl | rfl | rfl | rfl
  all_goals
    clear h1 h9
    go_enter Tryd.func49, Tryd.ntmps49
    go_wp2
    go_ret
    exact ⟨rfl, (Below.refl _ _).alloc (Nat.le_refl _) _⟩

theorem any_snoc (l : List UInt8) (x : UInt8) (c : Nat) : (l ++ [x]).any (fun x => decide (x.toNat = c)) = (l.any (fun x => decide (x.toNat = c)) || decide (x.toNat = c)) := by simp

set_option maxHeartbeats 1000000 in
theorem refHas_calls (k c : Nat) (w : World) (h1 : 1 ≤ k) (h9 : k ≤ 9) :
    Calls Tryd.prog 45 #[.int .i64 k, .int .u8 c] w fun e w' => e = .returned (.bool (letter k c)) ∧ Below w.heap.size w w' := by
  have HF := hid (form_calls k w h1 h9)
  have hsz : (form k).size ≤ 2 := by
    have : k = 1 ∨ k = 2 ∨ k = 3 ∨ k = 4 ∨ k = 5 ∨ k = 6 ∨ k = 7 ∨ k = 8 ∨ k = 9 := by omega
    rcases this with rfl | rfl | rfl | rfl | rfl | rfl | rfl | rfl | rfl <;> decide
  have HL : Hid (letter k c = (form k).data.toList.any (fun x => decide (x.toNat = c))) := rfl
  generalize form k = s at *
  generalize letter k c = q at *
  clear h1 h9
  go_enter Tryd.func45, Tryd.ntmps45
  go_wp2_with fail
  refine HF.out.mono ?_
  rintro e w1 ⟨rfl, hb⟩
  go_wp2
  go_loop [11] (fun i => ∃ j : Nat, j ≤ s.size ∧ i = .int .i64 j ∧ Hid ((s.data.toList.take j).any (fun x => decide (x.toNat = c)) = false)) (fun i => s.size - (intOf i).toNat)
  case atStart => exact ⟨0, Nat.zero_le _, rfl, rfl⟩
  case round =>
    obtain ⟨j, hj, rfl, HA⟩ := hrel
    by_cases hlt : j < s.size
    · have HS : Hid ((s.data.toList.take (j + 1)).any (fun x => decide (x.toNat = c)) = decide (s[j].toNat = c)) := by
        show _ = _
        rw [take_snoc s j hlt, any_snoc, HA.out]; rfl
      by_cases hc : s[j].toNat = c
      · have t : ((s[j].toNat : Int) == (c : Int)) = true := by simp; omega
        have HQ : Hid (q = true) := by
          show _ = _
          rw [HL.out, ← List.take_append_drop (j + 1) s.data.toList, List.any_append, HS.out]; simp [hc]
        clear hc
        go_wp2
        go_ret
        exact ⟨ret_bool HQ.out.symm, hb⟩
      · have t : ((s[j].toNat : Int) == (c : Int)) = false := by simp; omega
        have HN : Hid ((s.data.toList.take (j + 1)).any (fun x => decide (x.toNat = c)) = false) := by
          show _ = _
          rw [HS.out]; simpa using hc
        clear hc
        go_wp2
        go_round
        case rel => exact ⟨j + 1, by omega, by go_num, HN⟩
        case measure => simp [intOf]; omega
    · go_wp2
      go_ret
      exact ⟨ret_bool (by rw [HL.out, ← HA.out, List.take_of_length_le (by simp; omega)]), hb⟩
theorem letter_r (k : Nat) (h1 : 1 ≤ k) (h9 : k ≤ 9) : letter k 114 = !decide (k = 7) := by
  have : k = 1 ∨ k = 2 ∨ k = 3 ∨ k = 4 ∨ k = 5 ∨ k = 6 ∨ k = 7 ∨ k = 8 ∨ k = 9 := by omega
  rcases this with rfl | rfl | rfl | rfl | rfl | rfl | rfl | rfl | rfl <;> decide
theorem letter_s (k : Nat) (h1 : 1 ≤ k) (h9 : k ≤ 9) : letter k 115 = (decide (k = 3) || decide (k = 4) || decide (k = 5)) := by
  have : k = 1 ∨ k = 2 ∨ k = 3 ∨ k = 4 ∨ k = 5 ∨ k = 6 ∨ k = 7 ∨ k = 8 ∨ k = 9 := by omega
  rcases this with rfl | rfl | rfl | rfl | rfl | rfl | rfl | rfl | rfl <;> decide
theorem letter_k (k : Nat) (h1 : 1 ≤ k) (h9 : k ≤ 9) : letter k 107 = (decide (k = 1) || decide (k = 6) || decide (k = 7)) := by
  have : k = 1 ∨ k = 2 ∨ k = 3 ∨ k = 4 ∨ k = 5 ∨ k = 6 ∨ k = 7 ∨ k = 8 ∨ k = 9 := by omega
  rcases this with rfl | rfl | rfl | rfl | rfl | rfl | rfl | rfl | rfl <;> decide
end Go.Proofs.YtdnafpenljdinadDoor

namespace Go.Proofs.YtdnafpenljdinadDoor
open Go.RowKit

theorem take_both {α : Type} [Inhabited α] {l m : List α} {k : Nat} (h1 : k < l.length) (h2 : k < m.length) (h : l.take k = m.take k) (e : l.getD k default = m.getD k default) : l.take (k + 1) = m.take (k + 1) := by
  rw [take_snoc_getD h1, take_snoc_getD h2, h, e]
theorem first_diff {x0 x1 x2 x3 y0 y1 y2 y3 : Int} {x4 y4 : ByteArray} (h : ¬ (x0, x1, x2, x3, x4) = (y0, y1, y2, y3, y4)) : x0 ≠ y0 ∨ (x0 = y0 ∧ x1 ≠ y1) ∨ (x0 = y0 ∧ x1 = y1 ∧ x2 ≠ y2) ∨ (x0 = y0 ∧ x1 = y1 ∧ x2 = y2 ∧ x3 ≠ y3) ∨ (x0 = y0 ∧ x1 = y1 ∧ x2 = y2 ∧ x3 = y3 ∧ x4 ≠ y4) := by
  simp only [Prod.mk.injEq] at h
  by_cases e0 : x0 = y0 <;> by_cases e1 : x1 = y1 <;> by_cases e2 : x2 = y2 <;> by_cases e3 : x3 = y3 <;> simp_all
theorem ne_both {α : Type} [Inhabited α] {l m : List α} {k : Nat} (h : l.getD k default ≠ m.getD k default) : l ≠ m := fun e => h (by rw [e])

end Go.Proofs.YtdnafpenljdinadDoor
