/-
  Chains that a call has made: each one's versions lie in memory of its own, apart from the others'.
  The document's own table of what instructions have.
  Whether two deeds are the same, by the program and by the document's answer; a copy of a deed.
-/
import Derived.Test.YthmkgfdglkdjmadGreatDoorDeedTurn
import Derived.Test.YthmkgfdglkdjmadGreatDoorRefMath
import Derived.Deep.QuietTactic
import Derived.BigQuiet
namespace Go.Proofs.YthmkgfdglkdjmadGreatDoor
open Go.RowKit

/-- A row of versions that a call owns. -/
abbrev OwnsV (w : World) (B : Nat) (v : Value) (l : List Ver) : Prop := w.ownsRow B 56 4 v l.length (flat verC l)
abbrev slotV (s : Slot) : Value := .slice s.2.1 s.2.2.1 s.2.2.2
/-- Slots whose versions a call owns, each apart. -/
structure OwnSlots (w : World) (B : Nat) (S : List Slot) (L : List Chn) : Prop where
  len : S.length = L.length
  key : ∀ i, i < L.length → (S.getD i default).1 = (L.getD i default).1 ∧ (L.getD i default).1.size ≤ maxLen
  own : ∀ i, i < L.length → OwnsV w B (slotV (S.getD i default)) (L.getD i default).2
  apart : ∀ i j, i < j → j < L.length → ∀ a, (slotV (S.getD i default)).ownBlock = some a → (slotV (S.getD j default)).ownBlock ≠ some a
theorem OwnSlots.nil (w : World) (B : Nat) : OwnSlots w B [] [] := ⟨rfl, fun _ h => absurd h (Nat.not_lt_zero _), fun _ h => absurd h (Nat.not_lt_zero _), fun _ _ _ h => absurd h (Nat.not_lt_zero _)⟩
theorem grown_below {w w' : World} (h : Below w.heap.size w w') : w.grownBy w' none := ⟨h.os, h.tape, h.output, h.size, fun k hk _ => h.block k hk⟩
theorem owns_keep {w w' : World} {B e s n : Nat} {v : Value} {xs : List Value} (h : w.ownsRow B e s v n xs) (hb : Below w.heap.size w w') : w'.ownsRow B e s v n xs :=
  h.kept (grown_below hb) (by cases v.ownBlock <;> simp)
theorem owns_lower {w : World} {B B' e s n : Nat} {v : Value} {xs : List Value} (h : w.ownsRow B e s v n xs) (hB : B' ≤ B) : w.ownsRow B' e s v n xs := by
  refine ⟨h.1, h.2.imp id ?_⟩
  rintro ⟨g, cap, cur, rfl, hb, rest⟩
  exact ⟨g, cap, cur, rfl, Nat.le_trans hB hb, rest⟩
theorem OwnSlots.below {w w' : World} {B : Nat} {S : List Slot} {L : List Chn} (h : OwnSlots w B S L) (hb : Below w.heap.size w w') : OwnSlots w' B S L :=
  ⟨h.len, h.key, fun i hi => owns_keep (h.own i hi) hb, h.apart⟩
/-- A row of another type grows. -/
theorem OwnSlots.grown {w w' : World} {B B' e s n : Nat} {v : Value} {xs : List Value} {S : List Slot} {L : List Chn} (h : OwnSlots w B S L) (ho : w.ownsRow B' e s v n xs) (hne : 56 ≠ e) (hg : w.grownBy w' v.ownBlock) : OwnSlots w' B S L :=
  ⟨h.len, h.key, fun i hi => (h.own i hi).kept hg (rows_apart (h.own i hi) ho hne), h.apart⟩
theorem OwnSlots.snoc {w : World} {B : Nat} {S : List Slot} {L : List Chn} {s : Slot} {x : Chn} (h : OwnSlots w B S L) (hk : s.1 = x.1) (hz : x.1.size ≤ maxLen) (ho : OwnsV w B (slotV s) x.2) (hap : ∀ i, i < L.length → ∀ a, (slotV (S.getD i default)).ownBlock = some a → (slotV s).ownBlock ≠ some a) : OwnSlots w B (S ++ [s]) (L ++ [x]) := by
  have e1 : ∀ i, i < L.length → (S ++ [s]).getD i default = S.getD i default := fun i hi => by
    have : i < S.length := by rw [h.len]; exact hi
    simp [List.getD, List.getElem?_append_left this]
  have e2 : ∀ i, i < L.length → (L ++ [x]).getD i default = L.getD i default := fun i hi => by simp [List.getD, List.getElem?_append_left hi]
  have e3 : (S ++ [s]).getD L.length default = s := by rw [← h.len]; simp [List.getD]
  have e4 : (L ++ [x]).getD L.length default = x := by simp [List.getD]
  have part : ∀ i, i < (L ++ [x]).length → i < L.length ∨ i = L.length := fun i hi => by simp at hi; omega
  refine ⟨by simp [h.len], fun i hi => ?_, fun i hi => ?_, fun i j hij hj => ?_⟩
  · rcases part i hi with h1 | rfl
    · rw [e1 i h1, e2 i h1]; exact h.key i h1
    · rw [e3, e4]; exact ⟨hk, hz⟩
  · rcases part i hi with h1 | rfl
    · rw [e1 i h1, e2 i h1]; exact h.own i h1
    · rw [e3, e4]; exact ho
  · rcases part j hj with h1 | rfl
    · rw [e1 i (by omega), e1 j h1]; exact h.apart i j hij h1
    · rw [e1 i hij, e3]; exact hap i hij
theorem OwnSlots.lt {w : World} {B : Nat} {S : List Slot} {L : List Chn} (h : OwnSlots w B S L) {i : Nat} (hi : i < L.length) {a : Nat} (ha : (slotV (S.getD i default)).ownBlock = some a) : a < w.heap.size := ((h.own i hi).lt a ha).2
theorem OwnSlots.are {w : World} {B : Nat} {S : List Slot} {L : List Chn} (h : OwnSlots w B S L) (B' : Nat) : SlotsAre w B' 56 S L := by
  refine ⟨h.len, fun i hi => ⟨(h.key i hi).1, ?_, ?_, (h.key i hi).2⟩⟩
  · obtain ⟨b, c, e, hl⟩ := Lies.owned (h.own i hi)
    simp only [Value.slice.injEq] at e
    obtain ⟨e1, e2, e3⟩ := e
    rw [e1, e2, e3]; exact hl
  · obtain ⟨b, c, e, hl⟩ := Lies.owned (h.own i hi)
    have ho := h.own i hi
    simp only [Value.slice.injEq] at e
    obtain ⟨e1, e2, e3⟩ := e
    rw [e1, e2]
    rw [slotV, e1, e2, e3] at ho
    exact Lies.kind ho B'
/-- Chains whose memory is chains' and versions' own. -/
def ChK (w : World) (base : Option Addr) (n c : Nat) (L : List Chn) : Prop := ∃ S, Lies w 2 base n c (flat slotC S) ∧ Kind w 54 base ∧ SlotsAre w 0 56 S L
theorem ChK.chains {w : World} {base : Option Addr} {n c : Nat} {L : List Chn} (h : ChK w base n c L) : ChainsIn w base n c L := by
  obtain ⟨S, hl, _, hs⟩ := h
  exact chains_of_slots hl hs
theorem ChK.below {w w' : World} {base : Option Addr} {n c : Nat} {L : List Chn} (h : ChK w base n c L) (hb : Below w.heap.size w w') : ChK w' base n c L := by
  obtain ⟨S, hl, hk, hs⟩ := h
  exact ⟨S, hl.below (by decide) hb, hk.below hb, hs.below hb⟩
/-- A row of another type grows. -/
theorem ChK.grown {w w' : World} {B e s m : Nat} {v : Value} {xs : List Value} {base : Option Addr} {n c : Nat} {L : List Chn} (h : ChK w base n c L) (ho : w.ownsRow B e s v m xs) (h1 : 54 ≠ e) (h2 : 56 ≠ e) (hg : w.grownBy w' v.ownBlock) : ChK w' base n c L := by
  obtain ⟨S, hl, hk, hs⟩ := h
  have h0 := owns_lower ho (Nat.zero_le _)
  have hk' : Kind w' 54 base := fun a e => by
    obtain ⟨cur, z, hc⟩ := hk a e
    have hne := own_apart (b := a.block) h0 (.inr ⟨cur, z, hc⟩) h1
    exact ⟨cur, z, (hg.block _ (Array.getElem?_eq_some_iff.1 hc).1 hne).trans hc⟩
  exact ⟨S, (hl.grown (by decide) (.inr (.inr hk)) h0 h1 hg).1, hk', hs.grown h0 h2 hg⟩
end Go.Proofs.YthmkgfdglkdjmadGreatDoor

namespace Go.Proofs.YthmkgfdglkdjmadGreatDoor
open Go.RowKit

/-- The letters of an instruction of a kind. -/
def form (k : Nat) : ByteArray := match k with
  | 1 => ⟨#[114, 107]⟩
  | 2 => ⟨#[114, 110]⟩
  | 3 => ⟨#[114, 115]⟩
  | 4 => ⟨#[114, 115]⟩
  | 5 => ⟨#[114, 115]⟩
  | 6 => ⟨#[114, 107]⟩
  | 7 => ⟨#[107]⟩
  | 8 => ⟨#[114, 110]⟩
  | 9 => ⟨#[114]⟩
  | _ => ⟨#[]⟩
def letter (k : Nat) (c : Nat) : Bool := (form k).data.toList.any (fun x => decide (x.toNat = c))

set_option maxHeartbeats 4000000 in
theorem form_calls (k : Nat) (w : World) (h1 : 1 ≤ k) (h9 : k ≤ 9) :
    Calls Tryz.prog 79 #[.int .i64 k] w fun e w' => e = .returned (.string (form k)) ∧ Below w.heap.size w w' := by
  have : k = 1 ∨ k = 2 ∨ k = 3 ∨ k = 4 ∨ k = 5 ∨ k = 6 ∨ k = 7 ∨ k = 8 ∨ k = 9 := by omega
  rcases this with rfl | rfl | rfl | rfl | rfl | rfl | rfl | rfl | rfl
  all_goals
    clear h1 h9
    go_enter Tryz.func79, Tryz.ntmps79
    go_wp2
    go_ret
    exact ⟨rfl, (Below.refl _ _).alloc (Nat.le_refl _) _⟩

theorem any_snoc (l : List UInt8) (x : UInt8) (c : Nat) : (l ++ [x]).any (fun x => decide (x.toNat = c)) = (l.any (fun x => decide (x.toNat = c)) || decide (x.toNat = c)) := by simp

set_option maxHeartbeats 1000000 in
theorem refHas_calls (k c : Nat) (w : World) (h1 : 1 ≤ k) (h9 : k ≤ 9) :
    Calls Tryz.prog 53 #[.int .i64 k, .int .u8 c] w fun e w' => e = .returned (.bool (letter k c)) ∧ Below w.heap.size w w' := by
  have HF := hid (form_calls k w h1 h9)
  have hsz : (form k).size ≤ 2 := by
    have : k = 1 ∨ k = 2 ∨ k = 3 ∨ k = 4 ∨ k = 5 ∨ k = 6 ∨ k = 7 ∨ k = 8 ∨ k = 9 := by omega
    rcases this with rfl | rfl | rfl | rfl | rfl | rfl | rfl | rfl | rfl <;> decide
  have HL : Hid (letter k c = (form k).data.toList.any (fun x => decide (x.toNat = c))) := rfl
  generalize form k = s at *
  generalize letter k c = q at *
  clear h1 h9
  go_enter Tryz.func53, Tryz.ntmps53
  go_wp2_with fail
  refine HF.out.mono ?_
  rintro e w1 ⟨rfl, hb⟩
  go_wp2
  go_loop [11] (fun i => ∃ j : Nat, j ≤ s.size ∧ i = .int .i64 j ∧ Hid ((s.data.toList.take j).any (fun x => decide (x.toNat = c)) = false)) (fun i => s.size - (intOf i).toNat)
  case atStart => exact ⟨0, Nat.zero_le _, rfl, rfl⟩
  case round =>
    obtain ⟨j, hj, rfl, HA⟩ := hrel
    by_cases hlt : j < s.size
    · have HS : Hid ((s.data.toList.take (j + 1)).any (fun x => decide (x.toNat = c)) = decide (s[j].toNat = c)) := by
        show _ = _
        rw [take_snoc s j hlt, any_snoc, HA.out]; rfl
      by_cases hc : s[j].toNat = c
      · have t : ((s[j].toNat : Int) == (c : Int)) = true := by simp; omega
        have HQ : Hid (q = true) := by
          show _ = _
          rw [HL.out, ← List.take_append_drop (j + 1) s.data.toList, List.any_append, HS.out]; simp [hc]
        clear hc
        go_wp2
        go_ret
        exact ⟨ret_bool HQ.out.symm, hb⟩
      · have t : ((s[j].toNat : Int) == (c : Int)) = false := by simp; omega
        have HN : Hid ((s.data.toList.take (j + 1)).any (fun x => decide (x.toNat = c)) = false) := by
          show _ = _
          rw [HS.out]; simpa using hc
        clear hc
        go_wp2
        go_round
        case rel => exact ⟨j + 1, by omega, by go_num, HN⟩
        case measure => simp [intOf]; omega
    · go_wp2
      go_ret
      exact ⟨ret_bool (by rw [HL.out, ← HA.out, List.take_of_length_le (by simp; omega)]), hb⟩
end Go.Proofs.YthmkgfdglkdjmadGreatDoor

namespace Go.Proofs.YthmkgfdglkdjmadGreatDoor
open Go.RowKit

theorem take_both {α : Type} [Inhabited α] {l m : List α} {k : Nat} (h1 : k < l.length) (h2 : k < m.length) (h : l.take k = m.take k) (e : l.getD k default = m.getD k default) : l.take (k + 1) = m.take (k + 1) := by
  rw [take_snoc_getD h1, take_snoc_getD h2, h, e]
theorem first_diff {x0 x1 x2 x3 y0 y1 y2 y3 : Int} {x4 y4 : ByteArray} (h : ¬ (x0, x1, x2, x3, x4) = (y0, y1, y2, y3, y4)) : x0 ≠ y0 ∨ (x0 = y0 ∧ x1 ≠ y1) ∨ (x0 = y0 ∧ x1 = y1 ∧ x2 ≠ y2) ∨ (x0 = y0 ∧ x1 = y1 ∧ x2 = y2 ∧ x3 ≠ y3) ∨ (x0 = y0 ∧ x1 = y1 ∧ x2 = y2 ∧ x3 = y3 ∧ x4 ≠ y4) := by
  simp only [Prod.mk.injEq] at h
  by_cases e0 : x0 = y0 <;> by_cases e1 : x1 = y1 <;> by_cases e2 : x2 = y2 <;> by_cases e3 : x3 = y3 <;> simp_all
theorem ne_both {α : Type} [Inhabited α] {l m : List α} {k : Nat} (h : l.getD k default ≠ m.getD k default) : l ≠ m := fun e => h (by rw [e])

set_option maxHeartbeats 1000000 in
theorem sameTexts_calls (l m : List ByteArray) (ba : Option Addr) (na ca : Nat) (bb : Option Addr) (nb cb : Nat) (w : World) (ha : Texts w ba na ca l) (hb : Texts w bb nb cb m) :
    Calls Tryz.prog 72 #[.slice ba na ca, .slice bb nb cb] w fun e w' => e = .returned (.bool (decide (l = m))) ∧ ∃ q, w' = w.drewN q := by
  have HA := hid (Texts.count ha)
  have HB := hid (Texts.count hb)
  have hma := Nat.le_trans ha.hdr.le ha.hdr.max
  have hmb := Nat.le_trans hb.hdr.le hb.hdr.max
  unfold maxLen at hma hmb
  by_cases hne : na = nb
  · subst hne
    by_cases h0 : na = 0
    · subst h0
      have h1 : l = [] := List.eq_nil_of_length_eq_zero (by have := HA.out; omega)
      have h2 : m = [] := List.eq_nil_of_length_eq_zero (by have := HB.out; omega)
      subst h1
      subst h2
      clear ha hb
      go_enter Tryz.func72, Tryz.ntmps72
      go_wp2
      go_loop [13] (fun i => i = .int .i64 0) (fun _ => 0)
      case atStart => rfl
      case round =>
        obtain rfl := hrel
        go_wp2
        go_ret
        exact ⟨rfl, 0, rfl⟩
    rcases ha.run with h | ⟨b1, o1, rfl, h1⟩
    · exact absurd h h0
    rcases hb.run with h | ⟨b2, o2, rfl, h2⟩
    · exact absurd h h0
    have H1 := hid h1
    have H2 := hid h2
    clear h1 h2 ha hb h0
    go_enter Tryz.func72, Tryz.ntmps72
    go_wp2
    go_loopw [13] (fun i wr => ∃ k : Nat, k ≤ na ∧ i = .int .i64 k ∧ Hid (l.take k = m.take k) ∧ ∃ q, wr = w.drewN q) (fun i _ => na - (intOf i).toNat)
    case atStart => exact ⟨0, Nat.zero_le _, rfl, rfl, 0, rfl⟩
    case round =>
      obtain ⟨k, hk, rfl, HT, q, rfl⟩ := hrel
      by_cases hlt : k < na
      · have hk1 : k < l.length := by rw [← HA.out]; exact hlt
        have hk2 : k < m.length := by rw [← HB.out]; exact hlt
        have c1 := H1.out k _ (strs_at hk1)
        have c2 := H2.out k _ (strs_at hk2)
        have HS := hid (take_both hk1 hk2 HT.out)
        have HF := hid (ne_both (l := l) (m := m) (k := k))
        generalize l.getD k default = x at *
        generalize m.getD k default = y at *
        have hi : (k : Int) < (na : Int) := by omega
        by_cases he : x = y
        · subst he
          have t : (x.toList == x.toList) = true := by simp
          go_wp2
          go_quiet (fail)
          go_wp2
          go_roundw
          case rel => exact ⟨k + 1, by omega, by go_num, HS.out (by simp), _, rfl⟩
          case measure => simp [intOf]; omega
        · have t := streq_false he
          have HN := hid (HF.out he)
          clear he
          go_wp2
          go_quiet (fail)
          go_wp2
          go_ret
          exact ⟨ret_bool (by simp [HN.out]), _, World.drewN_drewN _ _ _⟩
      · obtain rfl : k = na := by omega
        have HE : Hid (l = m) := by
          show _ = _
          have := HT.out
          rwa [List.take_of_length_le (by rw [← HA.out]; exact Nat.le_refl _), List.take_of_length_le (by rw [← HB.out]; exact Nat.le_refl _)] at this
        go_wp2
        go_ret
        exact ⟨ret_bool (by simp [HE.out]), _, rfl⟩
  · have HN : Hid (l ≠ m) := fun e => hne (by rw [HA.out, HB.out, e])
    have t : ((na : Int) == (nb : Int)) = false := by simp; omega
    clear ha hb
    go_enter Tryz.func72, Tryz.ntmps72
    go_wp2
    go_ret
    exact ⟨ret_bool (by simp [HN.out]), 0, rfl⟩

end Go.Proofs.YthmkgfdglkdjmadGreatDoor
