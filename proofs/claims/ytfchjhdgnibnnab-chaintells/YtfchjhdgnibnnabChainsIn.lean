/-
  What it means that a slice in memory holds versions, and chains of them.
-/
import Derived.Test.YtfchjhdgnibnnabChainMath
import Derived.Test.YtfchjhdgnibnnabSpots
import Derived.Test.YtfchjhdgnibnnabDeedInstr
namespace Go.Proofs.Ytfchjhdgnibnnab
open Go.RowKit

def verC (v : Ver) : List Value := [.int .i64 v.by_, .bool v.made, .bool v.has_, .int .i64 v.n]
theorem verC_length (v : Ver) : (verC v).length = 4 := rfl
theorem verC_one (v : Ver) : ∀ u ∈ verC v, u.oneCell' = true := fun u hu => by
  simp [verC] at hu; rcases hu with rfl | rfl | rfl | rfl <;> rfl
/-- A slice holds versions. -/
abbrev Vers (w : World) (base : Option Addr) (n c : Nat) (l : List Ver) : Prop := Lies w 4 base n c (flat verC l)
theorem Vers.count {w : World} {base : Option Addr} {n c : Nat} {l : List Ver} (h : Vers w base n c l) : n = l.length := Lies.count verC_length (by decide) h
theorem Vers.cells {w : World} {b o : Nat} {l : List Ver} (h : Run w b o (flat verC l)) {i : Nat} (hi : i < l.length) :
    w.cell? ⟨b, o + i * 4, none⟩ = some (.int .i64 (l.getD i default).by_) ∧ w.cell? ⟨b, o + i * 4 + 1, none⟩ = some (.bool (l.getD i default).made) ∧ w.cell? ⟨b, o + i * 4 + 2, none⟩ = some (.bool (l.getD i default).has_) ∧ w.cell? ⟨b, o + i * 4 + 3, none⟩ = some (.int .i64 (l.getD i default).n) :=
  ⟨h.at_ verC_length hi (j := 0) rfl, h.at_ verC_length hi (j := 1) rfl, h.at_ verC_length hi (j := 2) rfl, h.at_ verC_length hi (j := 3) rfl⟩

/-- From block b, place o on lie a key and its versions' slice. -/
def ChainHere (w : World) (b o : Nat) (x : Chn) : Prop := ∃ vb vn vc, w.cell? ⟨b, o, none⟩ = some (.string x.1) ∧ w.cell? ⟨b, o + 1, none⟩ = some (.slice vb vn vc) ∧ Vers w vb vn vc x.2 ∧ x.1.size ≤ maxLen
theorem ChainHere.lt {w : World} {b o : Nat} {x : Chn} (h : ChainHere w b o x) : b < w.heap.size := by
  obtain ⟨vb, vn, vc, h0, _⟩ := h
  simpa using World.block_lt_of_cell? _ _ h0
theorem ChainHere.below {w w' : World} {b o : Nat} {x : Chn} (h : ChainHere w b o x) (hb : Below w.heap.size w w') : ChainHere w' b o x := by
  obtain ⟨vb, vn, vc, h0, h1, h2, h3⟩ := h
  exact ⟨vb, vn, vc, kept_cell hb h0, kept_cell hb h1, h2.below (by decide) hb, h3⟩
/-- A slice holds chains. -/
structure ChainsIn (w : World) (base : Option Addr) (n c : Nat) (L : List Chn) : Prop where
  len : n = L.length
  hdr : Hdr base n c
  run : n = 0 ∨ ∃ b o, base = some ⟨b, o, none⟩ ∧ ∀ i, i < n → ChainHere w b (o + i * 2) (L.getD i default)
theorem ChainsIn.below {w w' : World} {base : Option Addr} {n c : Nat} {L : List Chn} (h : ChainsIn w base n c L) (hb : Below w.heap.size w w') : ChainsIn w' base n c L := by
  refine ⟨h.len, h.hdr, ?_⟩
  rcases h.run with h0 | ⟨b, o, e, hr⟩
  · exact .inl h0
  · exact .inr ⟨b, o, e, fun i hi => (hr i hi).below hb⟩
theorem ChainsIn.none (w : World) : ChainsIn w none 0 0 [] := ⟨rfl, ⟨Nat.le_refl _, Nat.zero_le _, fun _ => rfl⟩, .inl rfl⟩

/-! ### Chains that a call lays, one behind the other -/
/-- A key and where its versions are. -/
abbrev Slot := ByteArray × Option Addr × Nat × Nat
def slotC (s : Slot) : List Value := [.string s.1, .slice s.2.1 s.2.2.1 s.2.2.2]
theorem slotC_length (s : Slot) : (slotC s).length = 2 := rfl
theorem slotC_one (s : Slot) : ∀ u ∈ slotC s, u.oneCell' = true := fun u hu => by
  simp [slotC] at hu; rcases hu with rfl | rfl <;> rfl
/-- What a slot holds, and that its versions are old, or versions' own memory. -/
def SlotIs (w : World) (B t : Nat) (s : Slot) (x : Chn) : Prop := s.1 = x.1 ∧ Vers w s.2.1 s.2.2.1 s.2.2.2 x.2 ∧ Spot w B t s.2.1 s.2.2.1 ∧ x.1.size ≤ maxLen
theorem SlotIs.below {w w' : World} {B t : Nat} {s : Slot} {x : Chn} (h : SlotIs w B t s x) (hb : Below w.heap.size w w') : SlotIs w' B t s x :=
  ⟨h.1, h.2.1.below (by decide) hb, h.2.2.1.below hb, h.2.2.2⟩
theorem SlotIs.grown {w w' : World} {B e t sz n : Nat} {v : Value} {xs : List Value} {s : Slot} {x : Chn} (h : SlotIs w B t s x) (ho : w.ownsRow B e sz v n xs) (hne : t ≠ e) (hg : w.grownBy w' v.ownBlock) : SlotIs w' B t s x := by
  obtain ⟨h1, h2⟩ := h.2.1.grown (by decide) h.2.2.1 ho hne hg
  exact ⟨h.1, h1, h2, h.2.2.2⟩
/-- Slots that hold chains. -/
def SlotsAre (w : World) (B t : Nat) (S : List Slot) (L : List Chn) : Prop := S.length = L.length ∧ ∀ i, i < L.length → SlotIs w B t (S.getD i default) (L.getD i default)
theorem SlotsAre.nil (w : World) (B t : Nat) : SlotsAre w B t [] [] := ⟨rfl, fun _ h => absurd h (Nat.not_lt_zero _)⟩
theorem SlotsAre.below {w w' : World} {B t : Nat} {S : List Slot} {L : List Chn} (h : SlotsAre w B t S L) (hb : Below w.heap.size w w') : SlotsAre w' B t S L := ⟨h.1, fun i hi => (h.2 i hi).below hb⟩
theorem SlotsAre.grown {w w' : World} {B e t sz n : Nat} {v : Value} {xs : List Value} {S : List Slot} {L : List Chn} (h : SlotsAre w B t S L) (ho : w.ownsRow B e sz v n xs) (hne : t ≠ e) (hg : w.grownBy w' v.ownBlock) : SlotsAre w' B t S L := ⟨h.1, fun i hi => (h.2 i hi).grown ho hne hg⟩
theorem SlotsAre.snoc {w : World} {B t : Nat} {S : List Slot} {L : List Chn} {s : Slot} {x : Chn} (h : SlotsAre w B t S L) (hs : SlotIs w B t s x) : SlotsAre w B t (S ++ [s]) (L ++ [x]) := by
  refine ⟨by simp [h.1], fun i hi => ?_⟩
  by_cases e : i < L.length
  · have e' : i < S.length := by rw [h.1]; exact e
    have := h.2 i e
    simpa [List.getD, List.getElem?_append_left e, List.getElem?_append_left e'] using this
  · have hi' : i = L.length := by simp at hi; omega
    subst hi'
    have e1 : (S ++ [s]).getD L.length default = s := by rw [← h.1]; simp [List.getD]
    have e2 : (L ++ [x]).getD L.length default = x := by simp [List.getD]
    rw [e1, e2]; exact hs
/-- A row of slots that a call owns is a slice of chains. -/
theorem chains_of_slots {w : World} {base : Option Addr} {n c B t : Nat} {S : List Slot} {L : List Chn} (h : Lies w 2 base n c (flat slotC S)) (hs : SlotsAre w B t S L) : ChainsIn w base n c L := by
  have hn : n = S.length := Lies.count slotC_length (by decide) h
  refine ⟨by rw [hn, hs.1], h.hdr, ?_⟩
  rcases h.run with h0 | ⟨b, o, e, hr⟩
  · exact .inl h0
  · refine .inr ⟨b, o, e, fun i hi => ?_⟩
    have hiS : i < S.length := by omega
    obtain ⟨e1, e2, _, e4⟩ := hs.2 i (by rw [← hs.1]; exact hiS)
    refine ⟨(S.getD i default).2.1, (S.getD i default).2.2.1, (S.getD i default).2.2.2, ?_, hr.at_ slotC_length hiS (j := 1) rfl, e2, e4⟩
    rw [← e1]
    exact hr.at_ slotC_length hiS (j := 0) rfl
end Go.Proofs.Ytfchjhdgnibnnab
