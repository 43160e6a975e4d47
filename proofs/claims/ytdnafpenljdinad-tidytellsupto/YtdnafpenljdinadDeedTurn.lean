/-
  A map in memory whose keys are texts: what it has at each key, whatever its elements are.
  What it means that a function of the program's own is entered when it is called by a value.
  How the program asks what a key has: its own doings first, then what it is shown.
  What a deed made, told in the order of the keys that it writes.
-/
import Derived.Test.YtdnafpenljdinadDeedMath
import Derived.Maps.OwnSet
import Derived.Test.YtdnafpenljdinadChecked
import Derived.WalkKit
import Derived.Test.YtdnafpenljdinadRefMath
import Derived.Defers
import Derived.Recover
namespace Go.Proofs.Ytdnafpenljdinad
open Go.RowKit

/-- An element is read as itself. -/
def asIs : Value → Option (DataW Value × List MemPlace) := fun v => some (.held v, [])
def keyLit (k : ByteArray) : Lit := .string k.data.toList
theorem keyLit_inj {a b : ByteArray} (h : keyLit a = keyLit b) : a = b := by
  cases a; cases b; simpa [keyLit] using h
theorem keyLit_is (k : ByteArray) : WideAt.IsKeyLit (keyLit k) := by simp [keyLit, WideAt.IsKeyLit]

/-- Block b is a map of at most n entries that has, at each key, what f tells. -/
def MapIs (w : World) (b n : Nat) (f : ByteArray → Option Value) : Prop :=
  ∃ D : DataW Value, w.ownsMap Try.prog 9 asIs b n D ∧ (∀ k, f k = none → Maps.has D (keyLit k) = false) ∧ (∀ k v, f k = some v → Maps.has D (keyLit k) = true ∧ ∀ z, D.atKey (keyLit k) z = .held v)

theorem MapIs.made (w : World) : MapIs (w.alloc (.map #[] 0)) w.heap.size 0 (fun _ => none) :=
  ⟨_, World.ownsMap_made w _ _ _, fun _ _ => rfl, fun _ _ h => by cases h⟩
theorem MapIs.lt {w : World} {b n : Nat} {f : ByteArray → Option Value} (h : MapIs w b n f) : b < w.heap.size := by
  obtain ⟨D, h, _⟩ := h; exact h.lt
theorem MapIs.block {w w' : World} {b n : Nat} {f : ByteArray → Option Value} (h : MapIs w b n f) (hb : w'.heap[b]? = w.heap[b]?) : MapIs w' b n f := by
  obtain ⟨D, ⟨es, clock, h1, h2⟩, r⟩ := h
  exact ⟨D, ⟨es, clock, hb.trans h1, h2⟩, r⟩
theorem MapIs.below {w w' : World} {b n B : Nat} {f : ByteArray → Option Value} (h : MapIs w b n f) (hb : Below B w w') (hB : b < B) : MapIs w' b n f := h.block (hb.block b hB)
theorem MapIs.alloc {w : World} {b n : Nat} {f : ByteArray → Option Value} (h : MapIs w b n f) (o : Obj) : MapIs (w.alloc o) b n f := h.block (Below.heap_alloc _ _ _ h.lt)
theorem MapIs.setCell {w : World} {b n : Nat} {f : ByteArray → Option Value} (h : MapIs w b n f) {a : Addr} (ha : b ≠ a.block) (u : Value) : MapIs (w.setCell a u) b n f := h.block (Below.heap_setCell _ _ _ _ ha)
theorem MapIs.mono {w : World} {b n m : Nat} {f : ByteArray → Option Value} (h : MapIs w b n f) (hn : n ≤ m) : MapIs w b m f := by
  obtain ⟨D, h, r⟩ := h; exact ⟨D, h.mono hn, r⟩
theorem MapIs.ext {w : World} {b n : Nat} {f g : ByteArray → Option Value} (h : MapIs w b n f) (e : ∀ k, f k = g k) : MapIs w b n g := by
  have : f = g := funext e
  rwa [← this]

theorem key_law : Maps.Keyed Try.prog 9 := Maps.string_keyed Try.underlying9

/-- v, ok := m[k]. -/
theorem MapIs.look {w : World} {b n : Nat} {f : ByteArray → Option Value} (h : MapIs w b n f) {t e : TypeId} (ht : Try.prog.underlying t = some (.map 9 e)) {z : Value} (hz : (zeroValue e).run Try.prog w = .ok z w) (k : ByteArray) (hk : k.size ≤ maxLen) :
    (Instr.lookup t (.map (some b)) (.string k) true).run Try.prog w = .ok (.tuple #[(f k).getD z, .bool (f k).isSome]) w := by
  obtain ⟨D, h, h0, h1⟩ := h
  obtain ⟨v, ps, hr, hv⟩ := h.look_ok key_law ht hz (zd := .held z) (zp := []) rfl (WideMaps.keyOf_string_mk Try.underlying9 hk)
  rw [hr]
  cases hf : f k with
  | none =>
    have hn := h0 k hf
    have := Maps.atKey_of_not_has hn (.held z)
    simp only [asIs, Option.some.injEq, Prod.mk.injEq] at hv
    have e1 : DataW.held v = .held z := by rw [hv.1]; exact this
    cases e1
    have : Maps.has D (.string k.data.toList) = false := hn
    rw [this]; rfl
  | some u =>
    obtain ⟨hn, ha⟩ := h1 k u hf
    simp only [asIs, Option.some.injEq, Prod.mk.injEq] at hv
    have e1 : DataW.held v = .held u := by rw [hv.1]; exact ha _
    cases e1
    have : Maps.has D (.string k.data.toList) = true := hn
    rw [this]; rfl

/-- m[k]. -/
theorem MapIs.get {w : World} {b n : Nat} {f : ByteArray → Option Value} (h : MapIs w b n f) {t e : TypeId} (ht : Try.prog.underlying t = some (.map 9 e)) {z : Value} (hz : (zeroValue e).run Try.prog w = .ok z w) (k : ByteArray) (hk : k.size ≤ maxLen) :
    (Instr.lookup t (.map (some b)) (.string k) false).run Try.prog w = .ok ((f k).getD z) w := by
  obtain ⟨D, h, h0, h1⟩ := h
  obtain ⟨v, ps, hr, hv⟩ := h.lookup key_law ht hz (zd := .held z) (zp := []) rfl (WideMaps.keyOf_string_mk Try.underlying9 hk)
  rw [hr]
  simp only [asIs, Option.some.injEq, Prod.mk.injEq] at hv
  cases hf : f k with
  | none =>
    have e1 : DataW.held v = .held z := by rw [hv.1]; exact Maps.atKey_of_not_has (h0 k hf) (.held z)
    cases e1; rfl
  | some u =>
    have e1 : DataW.held v = .held u := by rw [hv.1]; exact (h1 k u hf).2 _
    cases e1; rfl

/-- m[k] = v. -/
theorem MapIs.put {w : World} {b n : Nat} {f : ByteArray → Option Value} (h : MapIs w b n f) {t e : TypeId} (ht : Try.prog.underlying t = some (.map 9 e)) (hn : n < maxLen) (k : ByteArray) (hk : k.size ≤ maxLen) (v : Value) :
    ∃ w', (Instr.mapUpdate t (.map (some b)) (.string k) v).run Try.prog w = .ok () w' ∧ MapIs w' b (n + 1) (fun j => if j = k then some v else f j) ∧ w.grownBy w' (some b) := by
  obtain ⟨D, h, h0, h1⟩ := h
  obtain ⟨w', hr, ho, hg⟩ := h.update key_law ht hn (WideMaps.keyOf_string_mk Try.underlying9 hk) (val := v) (d := .held v) (ps := []) rfl
  rw [show Lit.string k.data.toList = keyLit k from rfl] at ho
  refine ⟨w', hr, ⟨_, ho, fun j hj => ?_, fun j u hj => ?_⟩, hg⟩
  · by_cases e : j = k
    · simp [e] at hj
    · simp only [if_neg e] at hj
      rw [Maps.has_put_other (fun x => e (keyLit_inj x))]
      exact h0 j hj
  · by_cases e : j = k
    · subst e
      simp at hj
      subst hj
      exact ⟨Maps.has_put_same h.isMap (keyLit_is _) _, fun z => Maps.atKey_put_same h.isMap (keyLit_is _) _ z⟩
    · simp only [if_neg e] at hj
      obtain ⟨g1, g2⟩ := h1 j u hj
      exact ⟨by rw [Maps.has_put_other (fun x => e (keyLit_inj x))]; exact g1, fun z => by rw [Maps.atKey_put_other (fun x => e (keyLit_inj x))]; exact g2 z⟩

/-- m[k] = v at the operation. -/
theorem wpList_put (w : World) {ops : Array Oper} {rest : List Oper} {o : Oper} {a : Act} {Q : Exit → Act → World → Prop}
    (hg : o.guard = none) (m x v : Operand) (t : TypeId) (hop : o.op = Op.mapUpdate t m x v) (e : TypeId) (ht : Try.prog.underlying t = some (.map 9 e)) (b n : Nat) (f : ByteArray → Option Value)
    (hm : a.eval m = .map (some b)) (h : MapIs w b n f) (hn : n < maxLen) (k : ByteArray) (hk : k.size ≤ maxLen) (val : Value) (hx : a.eval x = .string k) (hv : a.eval v = val)
    (hK : ∀ w', MapIs w' b (n + 1) (fun j => if j = k then some val else f j) → w.grownBy w' (some b) → wpList Try.prog ops Q rest (a.put o.dst undef) w') :
    wpList Try.prog ops Q (o :: rest) a w := by
  refine wpList_plain hg fun K' hK' => ?_
  obtain ⟨w', hrun, r1, r2⟩ := h.put ht hn k hk val
  unfold Oper.wp
  simp [execOp, hop, hm, hx, hv, hrun, Result.andThen]
  exact hK' _ _ (hK w' r1 r2)
end Go.Proofs.Ytdnafpenljdinad

namespace Go.Proofs.Ytdnafpenljdinad
open Go.RowKit

/-- A function of the program's own, that is entered. -/
def Entered (F : Nat) : Prop := ∀ (args : Array Value) (w : World), (callFunc F args).run Try.prog w = .ok (.enter F args) w
end Go.Proofs.Ytdnafpenljdinad

namespace Go.Proofs.Ytdnafpenljdinad
open Go.RowKit

/-- What a view tells of a key, in whatever world that has grown out of w. -/
def Tells (w : World) (F : Nat) (caps : Array Value) (k : ByteArray) (x : Int) : Prop :=
  ∀ w0, Below w.heap.size w w0 → Calls Try.prog F (#[.string k] ++ caps) w0 fun e w' => (∃ (t : Int) (ok : Bool), e = .returned (.tuple #[.int .i64 t, .bool ok]) ∧ (if ok = true then t else 0) = x) ∧ Below w0.heap.size w0 w'
theorem Tells.below {w w1 : World} {F : Nat} {caps : Array Value} {k : ByteArray} {x : Int} (h : Tells w F caps k x) (hb : Below w.heap.size w w1) : Tells w1 F caps k x := fun w0 h0 => h w0 (below_deep hb h0)

/-- What a key is given, as the program keeps it. -/
def verVal (o : Option Int) : Value := match o with
  | some n => .agg #[.int .i64 0, .bool true, .bool true, .int .i64 n]
  | none => .agg #[.int .i64 0, .bool true, .bool false, .int .i64 0]
def verMap (m : Made) : ByteArray → Option Value := fun k => (m k).map verVal
theorem verMap_set (m : Made) (k : ByteArray) (o : Option Int) : verMap (setM m k o) = fun j => if j = k then some (verVal o) else verMap m j := by
  funext j; unfold verMap setM; split <;> rfl
theorem verZero (w : World) : (zeroValue 60).run Try.prog w = .ok (.agg #[.int .i64 0, .bool false, .bool false, .int .i64 0]) w := by kernel_rfl

end Go.Proofs.Ytdnafpenljdinad

namespace Go.Proofs.Ytdnafpenljdinad
open Go.RowKit

/-- Versions' cells. -/
def verCell (o : Option Int) : List Value := match o with
  | some n => [.int .i64 0, .bool true, .bool true, .int .i64 n]
  | none => [.int .i64 0, .bool true, .bool false, .int .i64 0]
def verCells : List (ByteArray × Option Int) → List Value
  | [] => []
  | x :: l => verCell x.2 ++ verCells l
theorem verCell_length (o : Option Int) : (verCell o).length = 4 := by cases o <;> rfl
theorem verCell_one (o : Option Int) : ∀ u ∈ verCell o, u.oneCell' = true := by
  intro u hu; cases o <;> simp [verCell] at hu <;> rcases hu with rfl | rfl | rfl | rfl <;> rfl
theorem verCells_append : ∀ l m, verCells (l ++ m) = verCells l ++ verCells m
  | [], _ => rfl
  | x :: l, m => by simp [verCells, verCells_append l m]
theorem verCells_length : ∀ l, (verCells l).length = l.length * 4
  | [] => rfl
  | x :: l => by simp [verCells, verCell_length, verCells_length l]; omega
theorem verCells_at : ∀ (l : List (ByteArray × Option Int)) (k : Nat), k < l.length → ∀ j u, (verCell (l.getD k default).2)[j]? = some u → (verCells l)[k * 4 + j]? = some u
  | [], k, h => absurd h (Nat.not_lt_zero _)
  | x :: l, 0, _ => fun j u hu => by
    rw [verCells, List.getElem?_append_left]
    · simpa using hu
    · simpa using (List.getElem?_eq_some_iff.1 hu).1
  | x :: l, k + 1, h => fun j u hu => by
    have := verCells_at l k (by simpa using h) j u (by simpa using hu)
    rw [verCells, List.getElem?_append_right (by rw [verCell_length]; omega), verCell_length]
    rw [show (k + 1) * 4 + j - 4 = k * 4 + j from by omega]
    exact this
def keysOf (l : List (ByteArray × Option Int)) : List ByteArray := l.map (·.1)

/-- A slice of one element that was just laid. -/
theorem lies_one (w : World) (vs : Array Value) (t sz : Nat) (h : vs.size = sz) : Lies (w.alloc (.cells vs t)) sz (some ⟨w.heap.size, 0, none⟩) 1 1 vs.toList := by
  refine ⟨by simp [h], ⟨Nat.le_refl _, by unfold maxLen; omega, fun h => by cases h⟩, .inr ⟨_, _, rfl, fun j u hu => ?_⟩⟩
  rw [Nat.zero_add]
  exact box_cell _ _ _ _ _ (by simpa using hu)
/-- Rows of two types lie apart. -/
theorem rows_apart {w : World} {B B' e e' s s' n n' : Nat} {v v' : Value} {xs xs' : List Value} (h : w.ownsRow B e s v n xs) (h' : w.ownsRow B' e' s' v' n' xs') (hne : e ≠ e') : v.ownBlock = none ∨ v.ownBlock ≠ v'.ownBlock := by
  rcases h.2 with ⟨rfl, _⟩ | ⟨g, cap, cur, rfl, _, hg, _⟩
  · exact .inl rfl
  · refine .inr fun e1 => ?_
    rcases h'.2 with ⟨rfl, _⟩ | ⟨g', cap', cur', rfl, _, hg', _⟩
    · simp [Value.ownBlock] at e1
    · simp [Value.ownBlock] at e1
      subst e1
      rw [hg] at hg'
      simp at hg'
      exact hne hg'.2
theorem le_box {B : Nat} {w : World} {o : Obj} (h : B ≤ w.heap.size) : B ≤ (w.alloc o).heap.size := by rw [World.size_alloc]; omega
/-- A slice's memory is from block B on. -/
def Fresh (B : Nat) (base : Option Addr) : Prop := ∀ a, base = some a → B ≤ a.block
theorem fresh_none (B : Nat) : Fresh B none := fun _ h => by cases h
theorem Lies.set {w : World} {sz : Nat} {base : Option Addr} {n c : Nat} {vs : List Value} (h : Lies w sz base n c vs) {B : Nat} (hf : Fresh B base) {p : Addr} (hp : p.block < B) (u : Value) : Lies (w.setCell p u) sz base n c vs := by
  refine ⟨h.len, h.hdr, ?_⟩
  rcases h.run with h0 | ⟨b, o, e, hr⟩
  · exact .inl h0
  · refine .inr ⟨b, o, e, fun j x hx => ?_⟩
    have hb : B ≤ b := hf _ e
    rw [World.cell?_setCell_other _ _ _ _ (fun e => by have := congrArg Addr.block e; simp at this; omega)]
    exact hr j x hx
theorem verInfo : (Try.prog.info? 60).map (fun i => (i.zero, i.size, i.bytes)) = some (some (.agg #[.int .i64 0, .bool false, .bool false, .int .i64 0]), 4, 24) := by kernel_rfl
theorem MapIs.deep {w w' : World} {b n : Nat} {f : ByteArray → Option Value} (h : MapIs w b n f) (hb : Below w.heap.size w w') : MapIs w' b n f := h.below hb h.lt

end Go.Proofs.Ytdnafpenljdinad
