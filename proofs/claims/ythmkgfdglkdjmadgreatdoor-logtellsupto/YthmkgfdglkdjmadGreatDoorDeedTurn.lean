/-
  What it means that a slice in memory holds versions, and chains of them.
  A map in memory whose keys are texts: what it has at each key, whatever its elements are.
  What it means that a function of the program's own is entered when it is called by a value.
  How the program asks what a key has: its own doings first, then what it is shown.
  What a deed made, told in the order of the keys that it writes.
-/
import Derived.Test.YthmkgfdglkdjmadGreatDoorChainMath
import Derived.Test.YthmkgfdglkdjmadGreatDoorSpots
import Derived.Test.YthmkgfdglkdjmadGreatDoorDeedInstr
import Derived.Test.YthmkgfdglkdjmadGreatDoorDeedKeys
import Derived.Maps.OwnSet
import Derived.Test.YthmkgfdglkdjmadGreatDoorChecked
import Derived.WalkKit
import Derived.Test.YthmkgfdglkdjmadGreatDoorRefMath
import Derived.Defers
import Derived.Recover
namespace Go.Proofs.YthmkgfdglkdjmadGreatDoor
open Go.RowKit

def verC (v : Ver) : List Value := [.int .i64 v.by_, .bool v.made, .bool v.has_, .int .i64 v.n]
theorem verC_length (v : Ver) : (verC v).length = 4 := rfl
/-- A slice holds versions. -/
abbrev Vers (w : World) (base : Option Addr) (n c : Nat) (l : List Ver) : Prop := Lies w 4 base n c (flat verC l)
theorem Vers.count {w : World} {base : Option Addr} {n c : Nat} {l : List Ver} (h : Vers w base n c l) : n = l.length := Lies.count verC_length (by decide) h
theorem Vers.cells {w : World} {b o : Nat} {l : List Ver} (h : Run w b o (flat verC l)) {i : Nat} (hi : i < l.length) :
    w.cell? ⟨b, o + i * 4, none⟩ = some (.int .i64 (l.getD i default).by_) ∧ w.cell? ⟨b, o + i * 4 + 1, none⟩ = some (.bool (l.getD i default).made) ∧ w.cell? ⟨b, o + i * 4 + 2, none⟩ = some (.bool (l.getD i default).has_) ∧ w.cell? ⟨b, o + i * 4 + 3, none⟩ = some (.int .i64 (l.getD i default).n) :=
  ⟨h.at_ verC_length hi (j := 0) rfl, h.at_ verC_length hi (j := 1) rfl, h.at_ verC_length hi (j := 2) rfl, h.at_ verC_length hi (j := 3) rfl⟩

/-- From block b, place o on lie a key and its versions' slice. -/
def ChainHere (w : World) (b o : Nat) (x : Chn) : Prop := ∃ vb vn vc, w.cell? ⟨b, o, none⟩ = some (.string x.1) ∧ w.cell? ⟨b, o + 1, none⟩ = some (.slice vb vn vc) ∧ Vers w vb vn vc x.2 ∧ x.1.size ≤ maxLen
theorem ChainHere.lt {w : World} {b o : Nat} {x : Chn} (h : ChainHere w b o x) : b < w.heap.size := by
  obtain ⟨vb, vn, vc, h0, _⟩ := h
  simpa using World.block_lt_of_cell? _ _ h0
theorem ChainHere.below {w w' : World} {b o : Nat} {x : Chn} (h : ChainHere w b o x) (hb : Below w.heap.size w w') : ChainHere w' b o x := by
  obtain ⟨vb, vn, vc, h0, h1, h2, h3⟩ := h
  exact ⟨vb, vn, vc, kept_cell hb h0, kept_cell hb h1, h2.below (by decide) hb, h3⟩
/-- A slice holds chains. -/
structure ChainsIn (w : World) (base : Option Addr) (n c : Nat) (L : List Chn) : Prop where
  len : n = L.length
  hdr : Hdr base n c
  run : n = 0 ∨ ∃ b o, base = some ⟨b, o, none⟩ ∧ ∀ i, i < n → ChainHere w b (o + i * 2) (L.getD i default)
theorem ChainsIn.below {w w' : World} {base : Option Addr} {n c : Nat} {L : List Chn} (h : ChainsIn w base n c L) (hb : Below w.heap.size w w') : ChainsIn w' base n c L := by
  refine ⟨h.len, h.hdr, ?_⟩
  rcases h.run with h0 | ⟨b, o, e, hr⟩
  · exact .inl h0
  · exact .inr ⟨b, o, e, fun i hi => (hr i hi).below hb⟩
theorem ChainsIn.none (w : World) : ChainsIn w none 0 0 [] := ⟨rfl, ⟨Nat.le_refl _, Nat.zero_le _, fun _ => rfl⟩, .inl rfl⟩

/-! ### Chains that a call lays, one behind the other -/
/-- A key and where its versions are. -/
abbrev Slot := ByteArray × Option Addr × Nat × Nat
def slotC (s : Slot) : List Value := [.string s.1, .slice s.2.1 s.2.2.1 s.2.2.2]
theorem slotC_length (s : Slot) : (slotC s).length = 2 := rfl
/-- What a slot holds, and that its versions are old, or versions' own memory. -/
def SlotIs (w : World) (B t : Nat) (s : Slot) (x : Chn) : Prop := s.1 = x.1 ∧ Vers w s.2.1 s.2.2.1 s.2.2.2 x.2 ∧ Spot w B t s.2.1 s.2.2.1 ∧ x.1.size ≤ maxLen
theorem SlotIs.below {w w' : World} {B t : Nat} {s : Slot} {x : Chn} (h : SlotIs w B t s x) (hb : Below w.heap.size w w') : SlotIs w' B t s x :=
  ⟨h.1, h.2.1.below (by decide) hb, h.2.2.1.below hb, h.2.2.2⟩
theorem SlotIs.grown {w w' : World} {B e t sz n : Nat} {v : Value} {xs : List Value} {s : Slot} {x : Chn} (h : SlotIs w B t s x) (ho : w.ownsRow B e sz v n xs) (hne : t ≠ e) (hg : w.grownBy w' v.ownBlock) : SlotIs w' B t s x := by
  obtain ⟨h1, h2⟩ := h.2.1.grown (by decide) h.2.2.1 ho hne hg
  exact ⟨h.1, h1, h2, h.2.2.2⟩
/-- Slots that hold chains. -/
def SlotsAre (w : World) (B t : Nat) (S : List Slot) (L : List Chn) : Prop := S.length = L.length ∧ ∀ i, i < L.length → SlotIs w B t (S.getD i default) (L.getD i default)
theorem SlotsAre.nil (w : World) (B t : Nat) : SlotsAre w B t [] [] := ⟨rfl, fun _ h => absurd h (Nat.not_lt_zero _)⟩
theorem SlotsAre.below {w w' : World} {B t : Nat} {S : List Slot} {L : List Chn} (h : SlotsAre w B t S L) (hb : Below w.heap.size w w') : SlotsAre w' B t S L := ⟨h.1, fun i hi => (h.2 i hi).below hb⟩
theorem SlotsAre.grown {w w' : World} {B e t sz n : Nat} {v : Value} {xs : List Value} {S : List Slot} {L : List Chn} (h : SlotsAre w B t S L) (ho : w.ownsRow B e sz v n xs) (hne : t ≠ e) (hg : w.grownBy w' v.ownBlock) : SlotsAre w' B t S L := ⟨h.1, fun i hi => (h.2 i hi).grown ho hne hg⟩
theorem SlotsAre.snoc {w : World} {B t : Nat} {S : List Slot} {L : List Chn} {s : Slot} {x : Chn} (h : SlotsAre w B t S L) (hs : SlotIs w B t s x) : SlotsAre w B t (S ++ [s]) (L ++ [x]) := by
  refine ⟨by simp [h.1], fun i hi => ?_⟩
  by_cases e : i < L.length
  · have e' : i < S.length := by rw [h.1]; exact e
    have := h.2 i e
    simpa [List.getD, List.getElem?_append_left e, List.getElem?_append_left e'] using this
  · have hi' : i = L.length := by simp at hi; omega
    subst hi'
    have e1 : (S ++ [s]).getD L.length default = s := by rw [← h.1]; simp [List.getD]
    have e2 : (L ++ [x]).getD L.length default = x := by simp [List.getD]
    rw [e1, e2]; exact hs
/-- A row of slots that a call owns is a slice of chains. -/
theorem chains_of_slots {w : World} {base : Option Addr} {n c B t : Nat} {S : List Slot} {L : List Chn} (h : Lies w 2 base n c (flat slotC S)) (hs : SlotsAre w B t S L) : ChainsIn w base n c L := by
  have hn : n = S.length := Lies.count slotC_length (by decide) h
  refine ⟨by rw [hn, hs.1], h.hdr, ?_⟩
  rcases h.run with h0 | ⟨b, o, e, hr⟩
  · exact .inl h0
  · refine .inr ⟨b, o, e, fun i hi => ?_⟩
    have hiS : i < S.length := by omega
    obtain ⟨e1, e2, _, e4⟩ := hs.2 i (by rw [← hs.1]; exact hiS)
    refine ⟨(S.getD i default).2.1, (S.getD i default).2.2.1, (S.getD i default).2.2.2, ?_, hr.at_ slotC_length hiS (j := 1) rfl, e2, e4⟩
    rw [← e1]
    exact hr.at_ slotC_length hiS (j := 0) rfl
end Go.Proofs.YthmkgfdglkdjmadGreatDoor

namespace Go.Proofs.YthmkgfdglkdjmadGreatDoor
open Go.RowKit

/-- An element is read as itself. -/
def asIs : Value → Option (DataW Value × List MemPlace) := fun v => some (.held v, [])
def keyLit (k : ByteArray) : Lit := .string k.data.toList
theorem keyLit_inj {a b : ByteArray} (h : keyLit a = keyLit b) : a = b := by
  cases a; cases b; simpa [keyLit] using h
theorem keyLit_is (k : ByteArray) : WideAt.IsKeyLit (keyLit k) := by simp [keyLit, WideAt.IsKeyLit]

/-- Block b is a map of at most n entries that has, at each key, what f tells. -/
def MapIs (w : World) (b n : Nat) (f : ByteArray → Option Value) : Prop :=
  ∃ D : DataW Value, w.ownsMap Tryz.prog 9 asIs b n D ∧ (∀ k, f k = none → Maps.has D (keyLit k) = false) ∧ (∀ k v, f k = some v → Maps.has D (keyLit k) = true ∧ ∀ z, D.atKey (keyLit k) z = .held v)

theorem MapIs.made (w : World) : MapIs (w.alloc (.map #[] 0)) w.heap.size 0 (fun _ => none) :=
  ⟨_, World.ownsMap_made w _ _ _, fun _ _ => rfl, fun _ _ h => by cases h⟩
theorem MapIs.lt {w : World} {b n : Nat} {f : ByteArray → Option Value} (h : MapIs w b n f) : b < w.heap.size := by
  obtain ⟨D, h, _⟩ := h; exact h.lt
theorem MapIs.block {w w' : World} {b n : Nat} {f : ByteArray → Option Value} (h : MapIs w b n f) (hb : w'.heap[b]? = w.heap[b]?) : MapIs w' b n f := by
  obtain ⟨D, ⟨es, clock, h1, h2⟩, r⟩ := h
  exact ⟨D, ⟨es, clock, hb.trans h1, h2⟩, r⟩
theorem MapIs.below {w w' : World} {b n B : Nat} {f : ByteArray → Option Value} (h : MapIs w b n f) (hb : Below B w w') (hB : b < B) : MapIs w' b n f := h.block (hb.block b hB)
theorem MapIs.alloc {w : World} {b n : Nat} {f : ByteArray → Option Value} (h : MapIs w b n f) (o : Obj) : MapIs (w.alloc o) b n f := h.block (Below.heap_alloc _ _ _ h.lt)
theorem MapIs.setCell {w : World} {b n : Nat} {f : ByteArray → Option Value} (h : MapIs w b n f) {a : Addr} (ha : b ≠ a.block) (u : Value) : MapIs (w.setCell a u) b n f := h.block (Below.heap_setCell _ _ _ _ ha)
theorem MapIs.mono {w : World} {b n m : Nat} {f : ByteArray → Option Value} (h : MapIs w b n f) (hn : n ≤ m) : MapIs w b m f := by
  obtain ⟨D, h, r⟩ := h; exact ⟨D, h.mono hn, r⟩
theorem MapIs.ext {w : World} {b n : Nat} {f g : ByteArray → Option Value} (h : MapIs w b n f) (e : ∀ k, f k = g k) : MapIs w b n g := by
  have : f = g := funext e
  rwa [← this]

theorem key_law : Maps.Keyed Tryz.prog 9 := Maps.string_keyed Tryz.underlying9

/-- v, ok := m[k]. -/
theorem MapIs.look {w : World} {b n : Nat} {f : ByteArray → Option Value} (h : MapIs w b n f) {t e : TypeId} (ht : Tryz.prog.underlying t = some (.map 9 e)) {z : Value} (hz : (zeroValue e).run Tryz.prog w = .ok z w) (k : ByteArray) (hk : k.size ≤ maxLen) :
    (Instr.lookup t (.map (some b)) (.string k) true).run Tryz.prog w = .ok (.tuple #[(f k).getD z, .bool (f k).isSome]) w := by
  obtain ⟨D, h, h0, h1⟩ := h
  obtain ⟨v, ps, hr, hv⟩ := h.look_ok key_law ht hz (zd := .held z) (zp := []) rfl (WideMaps.keyOf_string_mk Tryz.underlying9 hk)
  rw [hr]
  cases hf : f k with
  | none =>
    have hn := h0 k hf
    have := Maps.atKey_of_not_has hn (.held z)
    simp only [asIs, Option.some.injEq, Prod.mk.injEq] at hv
    have e1 : DataW.held v = .held z := by rw [hv.1]; exact this
    cases e1
    have : Maps.has D (.string k.data.toList) = false := hn
    rw [this]; rfl
  | some u =>
    obtain ⟨hn, ha⟩ := h1 k u hf
    simp only [asIs, Option.some.injEq, Prod.mk.injEq] at hv
    have e1 : DataW.held v = .held u := by rw [hv.1]; exact ha _
    cases e1
    have : Maps.has D (.string k.data.toList) = true := hn
    rw [this]; rfl

/-- m[k]. -/
theorem MapIs.get {w : World} {b n : Nat} {f : ByteArray → Option Value} (h : MapIs w b n f) {t e : TypeId} (ht : Tryz.prog.underlying t = some (.map 9 e)) {z : Value} (hz : (zeroValue e).run Tryz.prog w = .ok z w) (k : ByteArray) (hk : k.size ≤ maxLen) :
    (Instr.lookup t (.map (some b)) (.string k) false).run Tryz.prog w = .ok ((f k).getD z) w := by
  obtain ⟨D, h, h0, h1⟩ := h
  obtain ⟨v, ps, hr, hv⟩ := h.lookup key_law ht hz (zd := .held z) (zp := []) rfl (WideMaps.keyOf_string_mk Tryz.underlying9 hk)
  rw [hr]
  simp only [asIs, Option.some.injEq, Prod.mk.injEq] at hv
  cases hf : f k with
  | none =>
    have e1 : DataW.held v = .held z := by rw [hv.1]; exact Maps.atKey_of_not_has (h0 k hf) (.held z)
    cases e1; rfl
  | some u =>
    have e1 : DataW.held v = .held u := by rw [hv.1]; exact (h1 k u hf).2 _
    cases e1; rfl

/-- m[k] = v. -/
theorem MapIs.put {w : World} {b n : Nat} {f : ByteArray → Option Value} (h : MapIs w b n f) {t e : TypeId} (ht : Tryz.prog.underlying t = some (.map 9 e)) (hn : n < maxLen) (k : ByteArray) (hk : k.size ≤ maxLen) (v : Value) :
    ∃ w', (Instr.mapUpdate t (.map (some b)) (.string k) v).run Tryz.prog w = .ok () w' ∧ MapIs w' b (n + 1) (fun j => if j = k then some v else f j) ∧ w.grownBy w' (some b) := by
  obtain ⟨D, h, h0, h1⟩ := h
  obtain ⟨w', hr, ho, hg⟩ := h.update key_law ht hn (WideMaps.keyOf_string_mk Tryz.underlying9 hk) (val := v) (d := .held v) (ps := []) rfl
  rw [show Lit.string k.data.toList = keyLit k from rfl] at ho
  refine ⟨w', hr, ⟨_, ho, fun j hj => ?_, fun j u hj => ?_⟩, hg⟩
  · by_cases e : j = k
    · simp [e] at hj
    · simp only [if_neg e] at hj
      rw [Maps.has_put_other (fun x => e (keyLit_inj x))]
      exact h0 j hj
  · by_cases e : j = k
    · subst e
      simp at hj
      subst hj
      exact ⟨Maps.has_put_same h.isMap (keyLit_is _) _, fun z => Maps.atKey_put_same h.isMap (keyLit_is _) _ z⟩
    · simp only [if_neg e] at hj
      obtain ⟨g1, g2⟩ := h1 j u hj
      exact ⟨by rw [Maps.has_put_other (fun x => e (keyLit_inj x))]; exact g1, fun z => by rw [Maps.atKey_put_other (fun x => e (keyLit_inj x))]; exact g2 z⟩

end Go.Proofs.YthmkgfdglkdjmadGreatDoor

namespace Go.Proofs.YthmkgfdglkdjmadGreatDoor
open Go.RowKit

end Go.Proofs.YthmkgfdglkdjmadGreatDoor

namespace Go.Proofs.YthmkgfdglkdjmadGreatDoor
open Go.RowKit

/-- What a view tells of a key, in whatever world that has grown out of w. -/
def Tells (w : World) (F : Nat) (caps : Array Value) (k : ByteArray) (x : Int) : Prop :=
  ∀ w0, Below w.heap.size w w0 → Calls Tryz.prog F (#[.string k] ++ caps) w0 fun e w' => (∃ (t : Int) (ok : Bool), e = .returned (.tuple #[.int .i64 t, .bool ok]) ∧ (if ok = true then t else 0) = x) ∧ Below w0.heap.size w0 w'
theorem Tells.below {w w1 : World} {F : Nat} {caps : Array Value} {k : ByteArray} {x : Int} (h : Tells w F caps k x) (hb : Below w.heap.size w w1) : Tells w1 F caps k x := fun w0 h0 => h w0 (below_deep hb h0)

/-- What a key is given, as the program keeps it. -/
def verVal (o : Option Int) : Value := match o with
  | some n => .agg #[.int .i64 0, .bool true, .bool true, .int .i64 n]
  | none => .agg #[.int .i64 0, .bool true, .bool false, .int .i64 0]
def verMap (m : Made) : ByteArray → Option Value := fun k => (m k).map verVal
theorem verMap_set (m : Made) (k : ByteArray) (o : Option Int) : verMap (setM m k o) = fun j => if j = k then some (verVal o) else verMap m j := by
  funext j; unfold verMap setM; split <;> rfl
end Go.Proofs.YthmkgfdglkdjmadGreatDoor

namespace Go.Proofs.YthmkgfdglkdjmadGreatDoor
open Go.RowKit

/-- A slice of one element that was just laid. -/
theorem lies_one (w : World) (vs : Array Value) (t sz : Nat) (h : vs.size = sz) : Lies (w.alloc (.cells vs t)) sz (some ⟨w.heap.size, 0, none⟩) 1 1 vs.toList := by
  refine ⟨by simp [h], ⟨Nat.le_refl _, by unfold maxLen; omega, fun h => by cases h⟩, .inr ⟨_, _, rfl, fun j u hu => ?_⟩⟩
  rw [Nat.zero_add]
  exact box_cell _ _ _ _ _ (by simpa using hu)
/-- Rows of two types lie apart. -/
theorem rows_apart {w : World} {B B' e e' s s' n n' : Nat} {v v' : Value} {xs xs' : List Value} (h : w.ownsRow B e s v n xs) (h' : w.ownsRow B' e' s' v' n' xs') (hne : e ≠ e') : v.ownBlock = none ∨ v.ownBlock ≠ v'.ownBlock := by
  rcases h.2 with ⟨rfl, _⟩ | ⟨g, cap, cur, rfl, _, hg, _⟩
  · exact .inl rfl
  · refine .inr fun e1 => ?_
    rcases h'.2 with ⟨rfl, _⟩ | ⟨g', cap', cur', rfl, _, hg', _⟩
    · simp [Value.ownBlock] at e1
    · simp [Value.ownBlock] at e1
      subst e1
      rw [hg] at hg'
      simp at hg'
      exact hne hg'.2
theorem le_box {B : Nat} {w : World} {o : Obj} (h : B ≤ w.heap.size) : B ≤ (w.alloc o).heap.size := by rw [World.size_alloc]; omega
/-- A slice's memory is from block B on. -/
def Fresh (B : Nat) (base : Option Addr) : Prop := ∀ a, base = some a → B ≤ a.block
theorem fresh_none (B : Nat) : Fresh B none := fun _ h => by cases h
theorem Lies.set {w : World} {sz : Nat} {base : Option Addr} {n c : Nat} {vs : List Value} (h : Lies w sz base n c vs) {B : Nat} (hf : Fresh B base) {p : Addr} (hp : p.block < B) (u : Value) : Lies (w.setCell p u) sz base n c vs := by
  refine ⟨h.len, h.hdr, ?_⟩
  rcases h.run with h0 | ⟨b, o, e, hr⟩
  · exact .inl h0
  · refine .inr ⟨b, o, e, fun j x hx => ?_⟩
    have hb : B ≤ b := hf _ e
    rw [World.cell?_setCell_other _ _ _ _ (fun e => by have := congrArg Addr.block e; simp at this; omega)]
    exact hr j x hx
theorem MapIs.deep {w w' : World} {b n : Nat} {f : ByteArray → Option Value} (h : MapIs w b n f) (hb : Below w.heap.size w w') : MapIs w' b n f := h.below hb h.lt

end Go.Proofs.YthmkgfdglkdjmadGreatDoor
