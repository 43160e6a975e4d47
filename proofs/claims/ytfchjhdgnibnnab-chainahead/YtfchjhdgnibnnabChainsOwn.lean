/-
  Chains that a call has made: each one's versions lie in memory of its own, apart from the others'.
-/
import Derived.Test.YtfchjhdgnibnnabChainsIn
import Derived.Test.YtfchjhdgnibnnabDeedTurn
namespace Go.Proofs.Ytfchjhdgnibnnab
open Go.RowKit

theorem chnInfo : (Try.prog.info? 61).map (fun i => (i.zero, i.size, i.bytes)) = some (some (.agg #[.string ByteArray.empty, .slice none 0 0]), 2, 40) := by kernel_rfl
theorem flatV_one (l : List Ver) : ∀ u ∈ flat verC l, u.oneCell' = true := flat_one verC_one l
theorem flatS_one (l : List Slot) : ∀ u ∈ flat slotC l, u.oneCell' = true := flat_one slotC_one l
/-- A row of versions that a call owns. -/
abbrev OwnsV (w : World) (B : Nat) (v : Value) (l : List Ver) : Prop := w.ownsRow B 45 4 v l.length (flat verC l)
abbrev slotV (s : Slot) : Value := .slice s.2.1 s.2.2.1 s.2.2.2
/-- Slots whose versions a call owns, each apart. -/
structure OwnSlots (w : World) (B : Nat) (S : List Slot) (L : List Chn) : Prop where
  len : S.length = L.length
  key : ∀ i, i < L.length → (S.getD i default).1 = (L.getD i default).1 ∧ (L.getD i default).1.size ≤ maxLen
  own : ∀ i, i < L.length → OwnsV w B (slotV (S.getD i default)) (L.getD i default).2
  apart : ∀ i j, i < j → j < L.length → ∀ a, (slotV (S.getD i default)).ownBlock = some a → (slotV (S.getD j default)).ownBlock ≠ some a
theorem OwnSlots.nil (w : World) (B : Nat) : OwnSlots w B [] [] := ⟨rfl, fun _ h => absurd h (Nat.not_lt_zero _), fun _ h => absurd h (Nat.not_lt_zero _), fun _ _ _ h => absurd h (Nat.not_lt_zero _)⟩
theorem grown_below {w w' : World} (h : Below w.heap.size w w') : w.grownBy w' none := ⟨h.os, h.tape, h.output, h.size, fun k hk _ => h.block k hk⟩
theorem owns_keep {w w' : World} {B e s n : Nat} {v : Value} {xs : List Value} (h : w.ownsRow B e s v n xs) (hb : Below w.heap.size w w') : w'.ownsRow B e s v n xs :=
  h.kept (grown_below hb) (by cases v.ownBlock <;> simp)
theorem owns_lower {w : World} {B B' e s n : Nat} {v : Value} {xs : List Value} (h : w.ownsRow B e s v n xs) (hB : B' ≤ B) : w.ownsRow B' e s v n xs := by
  refine ⟨h.1, h.2.imp id ?_⟩
  rintro ⟨g, cap, cur, rfl, hb, rest⟩
  exact ⟨g, cap, cur, rfl, Nat.le_trans hB hb, rest⟩
theorem OwnSlots.below {w w' : World} {B : Nat} {S : List Slot} {L : List Chn} (h : OwnSlots w B S L) (hb : Below w.heap.size w w') : OwnSlots w' B S L :=
  ⟨h.len, h.key, fun i hi => owns_keep (h.own i hi) hb, h.apart⟩
/-- A row of another type grows. -/
theorem OwnSlots.grown {w w' : World} {B B' e s n : Nat} {v : Value} {xs : List Value} {S : List Slot} {L : List Chn} (h : OwnSlots w B S L) (ho : w.ownsRow B' e s v n xs) (hne : 45 ≠ e) (hg : w.grownBy w' v.ownBlock) : OwnSlots w' B S L :=
  ⟨h.len, h.key, fun i hi => (h.own i hi).kept hg (rows_apart (h.own i hi) ho hne), h.apart⟩
theorem OwnSlots.snoc {w : World} {B : Nat} {S : List Slot} {L : List Chn} {s : Slot} {x : Chn} (h : OwnSlots w B S L) (hk : s.1 = x.1) (hz : x.1.size ≤ maxLen) (ho : OwnsV w B (slotV s) x.2) (hap : ∀ i, i < L.length → ∀ a, (slotV (S.getD i default)).ownBlock = some a → (slotV s).ownBlock ≠ some a) : OwnSlots w B (S ++ [s]) (L ++ [x]) := by
  have e1 : ∀ i, i < L.length → (S ++ [s]).getD i default = S.getD i default := fun i hi => by
    have : i < S.length := by rw [h.len]; exact hi
    simp [List.getD, List.getElem?_append_left this]
  have e2 : ∀ i, i < L.length → (L ++ [x]).getD i default = L.getD i default := fun i hi => by simp [List.getD, List.getElem?_append_left hi]
  have e3 : (S ++ [s]).getD L.length default = s := by rw [← h.len]; simp [List.getD]
  have e4 : (L ++ [x]).getD L.length default = x := by simp [List.getD]
  have part : ∀ i, i < (L ++ [x]).length → i < L.length ∨ i = L.length := fun i hi => by simp at hi; omega
  refine ⟨by simp [h.len], fun i hi => ?_, fun i hi => ?_, fun i j hij hj => ?_⟩
  · rcases part i hi with h1 | rfl
    · rw [e1 i h1, e2 i h1]; exact h.key i h1
    · rw [e3, e4]; exact ⟨hk, hz⟩
  · rcases part i hi with h1 | rfl
    · rw [e1 i h1, e2 i h1]; exact h.own i h1
    · rw [e3, e4]; exact ho
  · rcases part j hj with h1 | rfl
    · rw [e1 i (by omega), e1 j h1]; exact h.apart i j hij h1
    · rw [e1 i hij, e3]; exact hap i hij
theorem OwnSlots.lt {w : World} {B : Nat} {S : List Slot} {L : List Chn} (h : OwnSlots w B S L) {i : Nat} (hi : i < L.length) {a : Nat} (ha : (slotV (S.getD i default)).ownBlock = some a) : a < w.heap.size := ((h.own i hi).lt a ha).2
theorem OwnSlots.are {w : World} {B : Nat} {S : List Slot} {L : List Chn} (h : OwnSlots w B S L) (B' : Nat) : SlotsAre w B' 45 S L := by
  refine ⟨h.len, fun i hi => ⟨(h.key i hi).1, ?_, ?_, (h.key i hi).2⟩⟩
  · obtain ⟨b, c, e, hl⟩ := Lies.owned (h.own i hi)
    simp only [Value.slice.injEq] at e
    obtain ⟨e1, e2, e3⟩ := e
    rw [e1, e2, e3]; exact hl
  · obtain ⟨b, c, e, hl⟩ := Lies.owned (h.own i hi)
    have ho := h.own i hi
    simp only [Value.slice.injEq] at e
    obtain ⟨e1, e2, e3⟩ := e
    rw [e1, e2]
    rw [slotV, e1, e2, e3] at ho
    exact Lies.kind ho B'
/-- A row of slots that a call owns, and their versions: chains. -/
theorem chains_owned {w : World} {B n : Nat} {v : Value} {S : List Slot} {L : List Chn} (ho : w.ownsRow B 61 2 v n (flat slotC S)) (hs : OwnSlots w B S L) : ∃ base c, v = .slice base n c ∧ ChainsIn w base n c L := by
  obtain ⟨base, c, rfl, hl⟩ := Lies.owned ho
  exact ⟨base, c, rfl, chains_of_slots hl (hs.are B)⟩
end Go.Proofs.Ytfchjhdgnibnnab
