/-
  Chains that a call has made: each one's versions lie in memory of its own, apart from the others'.
  Plain mathematics: there are not so many keys, so right rows are not too many.
-/
import Derived.Test.YtfchjhdgnibnnabChainsIn
import Derived.Test.YtfchjhdgnibnnabDeedTurn
import Derived.Test.YtfchjhdgnibnnabMath
namespace Go.Proofs.Ytfchjhdgnibnnab
open Go.RowKit

theorem chnInfo : (Try.prog.info? 61).map (fun i => (i.zero, i.size, i.bytes)) = some (some (.agg #[.string ByteArray.empty, .slice none 0 0]), 2, 40) := by kernel_rfl
theorem flatV_one (l : List Ver) : ∀ u ∈ flat verC l, u.oneCell' = true := flat_one verC_one l
theorem flatS_one (l : List Slot) : ∀ u ∈ flat slotC l, u.oneCell' = true := flat_one slotC_one l
/-- A row of versions that a call owns. -/
abbrev OwnsV (w : World) (B : Nat) (v : Value) (l : List Ver) : Prop := w.ownsRow B 45 4 v l.length (flat verC l)
abbrev slotV (s : Slot) : Value := .slice s.2.1 s.2.2.1 s.2.2.2
/-- Slots whose versions a call owns, each apart. -/
structure OwnSlots (w : World) (B : Nat) (S : List Slot) (L : List Chn) : Prop where
  len : S.length = L.length
  key : ∀ i, i < L.length → (S.getD i default).1 = (L.getD i default).1 ∧ (L.getD i default).1.size ≤ maxLen
  own : ∀ i, i < L.length → OwnsV w B (slotV (S.getD i default)) (L.getD i default).2
  apart : ∀ i j, i < j → j < L.length → ∀ a, (slotV (S.getD i default)).ownBlock = some a → (slotV (S.getD j default)).ownBlock ≠ some a
theorem OwnSlots.nil (w : World) (B : Nat) : OwnSlots w B [] [] := ⟨rfl, fun _ h => absurd h (Nat.not_lt_zero _), fun _ h => absurd h (Nat.not_lt_zero _), fun _ _ _ h => absurd h (Nat.not_lt_zero _)⟩
theorem grown_below {w w' : World} (h : Below w.heap.size w w') : w.grownBy w' none := ⟨h.os, h.tape, h.output, h.size, fun k hk _ => h.block k hk⟩
theorem owns_keep {w w' : World} {B e s n : Nat} {v : Value} {xs : List Value} (h : w.ownsRow B e s v n xs) (hb : Below w.heap.size w w') : w'.ownsRow B e s v n xs :=
  h.kept (grown_below hb) (by cases v.ownBlock <;> simp)
theorem owns_lower {w : World} {B B' e s n : Nat} {v : Value} {xs : List Value} (h : w.ownsRow B e s v n xs) (hB : B' ≤ B) : w.ownsRow B' e s v n xs := by
  refine ⟨h.1, h.2.imp id ?_⟩
  rintro ⟨g, cap, cur, rfl, hb, rest⟩
  exact ⟨g, cap, cur, rfl, Nat.le_trans hB hb, rest⟩
theorem OwnSlots.below {w w' : World} {B : Nat} {S : List Slot} {L : List Chn} (h : OwnSlots w B S L) (hb : Below w.heap.size w w') : OwnSlots w' B S L :=
  ⟨h.len, h.key, fun i hi => owns_keep (h.own i hi) hb, h.apart⟩
/-- A row of another type grows. -/
theorem OwnSlots.grown {w w' : World} {B B' e s n : Nat} {v : Value} {xs : List Value} {S : List Slot} {L : List Chn} (h : OwnSlots w B S L) (ho : w.ownsRow B' e s v n xs) (hne : 45 ≠ e) (hg : w.grownBy w' v.ownBlock) : OwnSlots w' B S L :=
  ⟨h.len, h.key, fun i hi => (h.own i hi).kept hg (rows_apart (h.own i hi) ho hne), h.apart⟩
theorem OwnSlots.snoc {w : World} {B : Nat} {S : List Slot} {L : List Chn} {s : Slot} {x : Chn} (h : OwnSlots w B S L) (hk : s.1 = x.1) (hz : x.1.size ≤ maxLen) (ho : OwnsV w B (slotV s) x.2) (hap : ∀ i, i < L.length → ∀ a, (slotV (S.getD i default)).ownBlock = some a → (slotV s).ownBlock ≠ some a) : OwnSlots w B (S ++ [s]) (L ++ [x]) := by
  have e1 : ∀ i, i < L.length → (S ++ [s]).getD i default = S.getD i default := fun i hi => by
    have : i < S.length := by rw [h.len]; exact hi
    simp [List.getD, List.getElem?_append_left this]
  have e2 : ∀ i, i < L.length → (L ++ [x]).getD i default = L.getD i default := fun i hi => by simp [List.getD, List.getElem?_append_left hi]
  have e3 : (S ++ [s]).getD L.length default = s := by rw [← h.len]; simp [List.getD]
  have e4 : (L ++ [x]).getD L.length default = x := by simp [List.getD]
  have part : ∀ i, i < (L ++ [x]).length → i < L.length ∨ i = L.length := fun i hi => by simp at hi; omega
  refine ⟨by simp [h.len], fun i hi => ?_, fun i hi => ?_, fun i j hij hj => ?_⟩
  · rcases part i hi with h1 | rfl
    · rw [e1 i h1, e2 i h1]; exact h.key i h1
    · rw [e3, e4]; exact ⟨hk, hz⟩
  · rcases part i hi with h1 | rfl
    · rw [e1 i h1, e2 i h1]; exact h.own i h1
    · rw [e3, e4]; exact ho
  · rcases part j hj with h1 | rfl
    · rw [e1 i (by omega), e1 j h1]; exact h.apart i j hij h1
    · rw [e1 i hij, e3]; exact hap i hij
theorem OwnSlots.lt {w : World} {B : Nat} {S : List Slot} {L : List Chn} (h : OwnSlots w B S L) {i : Nat} (hi : i < L.length) {a : Nat} (ha : (slotV (S.getD i default)).ownBlock = some a) : a < w.heap.size := ((h.own i hi).lt a ha).2
theorem OwnSlots.are {w : World} {B : Nat} {S : List Slot} {L : List Chn} (h : OwnSlots w B S L) (B' : Nat) : SlotsAre w B' 45 S L := by
  refine ⟨h.len, fun i hi => ⟨(h.key i hi).1, ?_, ?_, (h.key i hi).2⟩⟩
  · obtain ⟨b, c, e, hl⟩ := Lies.owned (h.own i hi)
    simp only [Value.slice.injEq] at e
    obtain ⟨e1, e2, e3⟩ := e
    rw [e1, e2, e3]; exact hl
  · obtain ⟨b, c, e, hl⟩ := Lies.owned (h.own i hi)
    have ho := h.own i hi
    simp only [Value.slice.injEq] at e
    obtain ⟨e1, e2, e3⟩ := e
    rw [e1, e2]
    rw [slotV, e1, e2, e3] at ho
    exact Lies.kind ho B'
/-- A row of slots that a call owns, and their versions: chains. -/
theorem chains_owned {w : World} {B n : Nat} {v : Value} {S : List Slot} {L : List Chn} (ho : w.ownsRow B 61 2 v n (flat slotC S)) (hs : OwnSlots w B S L) : ∃ base c, v = .slice base n c ∧ ChainsIn w base n c L := by
  obtain ⟨base, c, rfl, hl⟩ := Lies.owned ho
  exact ⟨base, c, rfl, chains_of_slots hl (hs.are B)⟩
end Go.Proofs.Ytfchjhdgnibnnab

namespace Go.Proofs.Ytfchjhdgnibnnab
open Go.RowKit

/-- A key's number, in n digits of 27. -/
def rank : Nat → List UInt8 → Nat
  | 0, _ => 0
  | _ + 1, [] => 0
  | n + 1, c :: l => (c.toNat - 96) * 27 ^ n + rank n l

theorem okc_bounds {c : UInt8} (h : okc c = true) : 97 ≤ c.toNat ∧ c.toNat ≤ 122 := by
  simp [okc] at h; omega
theorem rank_lt : ∀ (n : Nat) (l : List UInt8), l.all okc = true → rank n l < 27 ^ n
  | 0, _, _ => by simp [rank]
  | n + 1, [], _ => by simp only [rank]; exact Nat.pow_pos (by decide)
  | n + 1, c :: l, h => by
    simp only [List.all_cons, Bool.and_eq_true] at h
    have h1 := okc_bounds h.1
    have h2 := rank_lt n l h.2
    have h3 : (c.toNat - 96) * 27 ^ n ≤ 26 * 27 ^ n := Nat.mul_le_mul_right _ (by omega)
    simp only [rank, Nat.pow_succ]
    omega
theorem rank_mono : ∀ (n : Nat) (a b : List UInt8), a.all okc = true → b.all okc = true → b.length ≤ n → a < b → rank n a < rank n b
  | n, a, [], _, _, _, h => absurd h (List.not_lt_nil a)
  | 0, _, c :: b, _, _, hl, _ => by simp at hl
  | n + 1, [], c :: b, _, hb, _, _ => by
    simp only [List.all_cons, Bool.and_eq_true] at hb
    have h1 := okc_bounds hb.1
    have h3 : 1 * 27 ^ n ≤ (c.toNat - 96) * 27 ^ n := Nat.mul_le_mul_right _ (by omega)
    have h4 : 0 < 27 ^ n := Nat.pow_pos (by decide)
    simp only [rank]
    omega
  | n + 1, d :: a, c :: b, ha, hb, hl, h => by
    simp only [List.all_cons, Bool.and_eq_true] at ha hb
    have h1 := okc_bounds hb.1
    have h2 := okc_bounds ha.1
    rcases List.cons_lt_cons_iff.1 h with h' | ⟨rfl, h'⟩
    · have hlt : d.toNat < c.toNat := UInt8.lt_iff_toNat_lt.1 h'
      have h3 : (d.toNat - 96 + 1) * 27 ^ n ≤ (c.toNat - 96) * 27 ^ n := Nat.mul_le_mul_right _ (by omega)
      have h4 := rank_lt n a ha.2
      rw [Nat.add_mul] at h3
      simp only [rank]
      omega
    · have := rank_mono n a b ha.2 hb.2 (by simpa using hl) h'
      simp only [rank]
      omega
theorem keyB_list {s : ByteArray} (h : keyB s = true) : s.toList.all okc = true ∧ s.toList.length ≤ 6 := by
  unfold keyB at h
  simp only [Bool.and_eq_true, decide_eq_true_eq] at h
  rw [ByteArray.toList_eq]
  exact ⟨h.2, by have := h.1.2; show s.data.toList.length ≤ 6; rw [Array.length_toList]; exact this⟩
theorem rank_key {s : ByteArray} (h : keyB s = true) : rank 6 s.toList < 387420489 := rank_lt 6 _ (keyB_list h).1
theorem rank_less {a b : ByteArray} (ha : keyB a = true) (hb : keyB b = true) (h : less a b = true) : rank 6 a.toList < rank 6 b.toList := by
  rw [less_def] at h
  exact rank_mono 6 _ _ (keyB_list ha).1 (keyB_list hb).1 (keyB_list hb).2 (of_decide_eq_true h)
theorem few_above : ∀ (l : List Row) (lo : Nat), lo ≤ 387420489 → Srt l → (∀ x ∈ l, keyB x.1 = true) → (∀ x ∈ l, lo ≤ rank 6 x.1.toList) → lo + l.length ≤ 387420489
  | [], lo, h, _, _, _ => by simpa using h
  | x :: l, lo, h, hs, hk, hr => by
    obtain ⟨h1, h2⟩ := srt_cons.1 hs
    have hx := hk x (by simp)
    have hlt := rank_key hx
    have := few_above l (rank 6 x.1.toList + 1) (by omega) h2 (fun y hy => hk y (by simp [hy])) (fun y hy => rank_less hx (hk y (by simp [hy])) (h1 y hy))
    have := hr x (by simp)
    simp only [List.length_cons]
    omega
/-- Right rows are not too many. -/
theorem right_few {l : List Row} (h : Right l) : l.length ≤ 387420489 := by
  have := few_above l 0 (by omega) h.srt h.key (fun _ _ => Nat.zero_le _)
  omega
end Go.Proofs.Ytfchjhdgnibnnab
