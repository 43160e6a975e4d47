/-
  A map in memory whose keys are texts: what it has at each key, whatever its elements are.
-/
import Derived.Test.YtfchjhdgnibnnabLies
import Derived.Maps.OwnSet
namespace Go.Proofs.Ytfchjhdgnibnnab
open Go.RowKit

/-- An element is read as itself. -/
def asIs : Value → Option (DataW Value × List MemPlace) := fun v => some (.held v, [])
def keyLit (k : ByteArray) : Lit := .string k.data.toList
theorem keyLit_inj {a b : ByteArray} (h : keyLit a = keyLit b) : a = b := by
  cases a; cases b; simpa [keyLit] using h
theorem keyLit_is (k : ByteArray) : WideAt.IsKeyLit (keyLit k) := by simp [keyLit, WideAt.IsKeyLit]

/-- Block b is a map of at most n entries that has, at each key, what f tells. -/
def MapIs (w : World) (b n : Nat) (f : ByteArray → Option Value) : Prop :=
  ∃ D : DataW Value, w.ownsMap Try.prog 9 asIs b n D ∧ (∀ k, f k = none → Maps.has D (keyLit k) = false) ∧ (∀ k v, f k = some v → Maps.has D (keyLit k) = true ∧ ∀ z, D.atKey (keyLit k) z = .held v)

theorem MapIs.made (w : World) : MapIs (w.alloc (.map #[] 0)) w.heap.size 0 (fun _ => none) :=
  ⟨_, World.ownsMap_made w _ _ _, fun _ _ => rfl, fun _ _ h => by cases h⟩
theorem MapIs.lt {w : World} {b n : Nat} {f : ByteArray → Option Value} (h : MapIs w b n f) : b < w.heap.size := by
  obtain ⟨D, h, _⟩ := h; exact h.lt
theorem MapIs.block {w w' : World} {b n : Nat} {f : ByteArray → Option Value} (h : MapIs w b n f) (hb : w'.heap[b]? = w.heap[b]?) : MapIs w' b n f := by
  obtain ⟨D, ⟨es, clock, h1, h2⟩, r⟩ := h
  exact ⟨D, ⟨es, clock, hb.trans h1, h2⟩, r⟩
theorem MapIs.below {w w' : World} {b n B : Nat} {f : ByteArray → Option Value} (h : MapIs w b n f) (hb : Below B w w') (hB : b < B) : MapIs w' b n f := h.block (hb.block b hB)
theorem MapIs.alloc {w : World} {b n : Nat} {f : ByteArray → Option Value} (h : MapIs w b n f) (o : Obj) : MapIs (w.alloc o) b n f := h.block (Below.heap_alloc _ _ _ h.lt)
theorem MapIs.setCell {w : World} {b n : Nat} {f : ByteArray → Option Value} (h : MapIs w b n f) {a : Addr} (ha : b ≠ a.block) (u : Value) : MapIs (w.setCell a u) b n f := h.block (Below.heap_setCell _ _ _ _ ha)
theorem MapIs.mono {w : World} {b n m : Nat} {f : ByteArray → Option Value} (h : MapIs w b n f) (hn : n ≤ m) : MapIs w b m f := by
  obtain ⟨D, h, r⟩ := h; exact ⟨D, h.mono hn, r⟩
theorem MapIs.ext {w : World} {b n : Nat} {f g : ByteArray → Option Value} (h : MapIs w b n f) (e : ∀ k, f k = g k) : MapIs w b n g := by
  have : f = g := funext e
  rwa [← this]

theorem key_law : Maps.Keyed Try.prog 9 := Maps.string_keyed Try.underlying9

/-- v, ok := m[k]. -/
theorem MapIs.look {w : World} {b n : Nat} {f : ByteArray → Option Value} (h : MapIs w b n f) {t e : TypeId} (ht : Try.prog.underlying t = some (.map 9 e)) {z : Value} (hz : (zeroValue e).run Try.prog w = .ok z w) (k : ByteArray) (hk : k.size ≤ maxLen) :
    (Instr.lookup t (.map (some b)) (.string k) true).run Try.prog w = .ok (.tuple #[(f k).getD z, .bool (f k).isSome]) w := by
  obtain ⟨D, h, h0, h1⟩ := h
  obtain ⟨v, ps, hr, hv⟩ := h.look_ok key_law ht hz (zd := .held z) (zp := []) rfl (WideMaps.keyOf_string_mk Try.underlying9 hk)
  rw [hr]
  cases hf : f k with
  | none =>
    have hn := h0 k hf
    have := Maps.atKey_of_not_has hn (.held z)
    simp only [asIs, Option.some.injEq, Prod.mk.injEq] at hv
    have e1 : DataW.held v = .held z := by rw [hv.1]; exact this
    cases e1
    have : Maps.has D (.string k.data.toList) = false := hn
    rw [this]; rfl
  | some u =>
    obtain ⟨hn, ha⟩ := h1 k u hf
    simp only [asIs, Option.some.injEq, Prod.mk.injEq] at hv
    have e1 : DataW.held v = .held u := by rw [hv.1]; exact ha _
    cases e1
    have : Maps.has D (.string k.data.toList) = true := hn
    rw [this]; rfl

/-- m[k]. -/
theorem MapIs.get {w : World} {b n : Nat} {f : ByteArray → Option Value} (h : MapIs w b n f) {t e : TypeId} (ht : Try.prog.underlying t = some (.map 9 e)) {z : Value} (hz : (zeroValue e).run Try.prog w = .ok z w) (k : ByteArray) (hk : k.size ≤ maxLen) :
    (Instr.lookup t (.map (some b)) (.string k) false).run Try.prog w = .ok ((f k).getD z) w := by
  obtain ⟨D, h, h0, h1⟩ := h
  obtain ⟨v, ps, hr, hv⟩ := h.lookup key_law ht hz (zd := .held z) (zp := []) rfl (WideMaps.keyOf_string_mk Try.underlying9 hk)
  rw [hr]
  simp only [asIs, Option.some.injEq, Prod.mk.injEq] at hv
  cases hf : f k with
  | none =>
    have e1 : DataW.held v = .held z := by rw [hv.1]; exact Maps.atKey_of_not_has (h0 k hf) (.held z)
    cases e1; rfl
  | some u =>
    have e1 : DataW.held v = .held u := by rw [hv.1]; exact (h1 k u hf).2 _
    cases e1; rfl

/-- m[k] = v. -/
theorem MapIs.put {w : World} {b n : Nat} {f : ByteArray → Option Value} (h : MapIs w b n f) {t e : TypeId} (ht : Try.prog.underlying t = some (.map 9 e)) (hn : n < maxLen) (k : ByteArray) (hk : k.size ≤ maxLen) (v : Value) :
    ∃ w', (Instr.mapUpdate t (.map (some b)) (.string k) v).run Try.prog w = .ok () w' ∧ MapIs w' b (n + 1) (fun j => if j = k then some v else f j) ∧ w.grownBy w' (some b) := by
  obtain ⟨D, h, h0, h1⟩ := h
  obtain ⟨w', hr, ho, hg⟩ := h.update key_law ht hn (WideMaps.keyOf_string_mk Try.underlying9 hk) (val := v) (d := .held v) (ps := []) rfl
  rw [show Lit.string k.data.toList = keyLit k from rfl] at ho
  refine ⟨w', hr, ⟨_, ho, fun j hj => ?_, fun j u hj => ?_⟩, hg⟩
  · by_cases e : j = k
    · simp [e] at hj
    · simp only [if_neg e] at hj
      rw [Maps.has_put_other (fun x => e (keyLit_inj x))]
      exact h0 j hj
  · by_cases e : j = k
    · subst e
      simp at hj
      subst hj
      exact ⟨Maps.has_put_same h.isMap (keyLit_is _) _, fun z => Maps.atKey_put_same h.isMap (keyLit_is _) _ z⟩
    · simp only [if_neg e] at hj
      obtain ⟨g1, g2⟩ := h1 j u hj
      exact ⟨by rw [Maps.has_put_other (fun x => e (keyLit_inj x))]; exact g1, fun z => by rw [Maps.atKey_put_other (fun x => e (keyLit_inj x))]; exact g2 z⟩

/-- m[k] = v at the operation. -/
theorem wpList_put (w : World) {ops : Array Oper} {rest : List Oper} {o : Oper} {a : Act} {Q : Exit → Act → World → Prop}
    (hg : o.guard = none) (m x v : Operand) (t : TypeId) (hop : o.op = Op.mapUpdate t m x v) (e : TypeId) (ht : Try.prog.underlying t = some (.map 9 e)) (b n : Nat) (f : ByteArray → Option Value)
    (hm : a.eval m = .map (some b)) (h : MapIs w b n f) (hn : n < maxLen) (k : ByteArray) (hk : k.size ≤ maxLen) (val : Value) (hx : a.eval x = .string k) (hv : a.eval v = val)
    (hK : ∀ w', MapIs w' b (n + 1) (fun j => if j = k then some val else f j) → w.grownBy w' (some b) → wpList Try.prog ops Q rest (a.put o.dst undef) w') :
    wpList Try.prog ops Q (o :: rest) a w := by
  refine wpList_plain hg fun K' hK' => ?_
  obtain ⟨w', hrun, r1, r2⟩ := h.put ht hn k hk val
  unfold Oper.wp
  simp [execOp, hop, hm, hx, hv, hrun, Result.andThen]
  exact hK' _ _ (hK w' r1 r2)
end Go.Proofs.Ytfchjhdgnibnnab
