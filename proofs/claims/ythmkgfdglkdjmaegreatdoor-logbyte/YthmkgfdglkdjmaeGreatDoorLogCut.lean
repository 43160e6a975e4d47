/-
  Plain mathematics of one deed that counts up: its text, and what it comes to.
  The closed fact that the statements of chapter 4 ask first is so.
  Plain mathematics of the two deeds that chapter 6 asks of first: their texts, and what is planned of them.
  Plain mathematics of what is done: an engine is told by what was planned and what is done; all is done at last, whichever goes first; going on with one changes no other one, nor what is made; who was ready is so still, or is the one.
  Plain mathematics of the two deeds that chapter 7 asks of first: their texts, and what is done of them.
  Plain mathematics of bytes that are read one by one: the sum so far, lines so far, and what stands behind the last one.
  Plain mathematics of lines that are cut off one by one, and of a sum that is written as two bytes.
-/
import Derived.Test.YthmkgfdglkdjmaeGreatDoorPlainMath
import Derived.Test.YthmkgfdglkdjmaeGreatDoorFillMath
import Derived.Test.YthmkgfdglkdjmaeGreatDoorGround
import Derived.Test.YthmkgfdglkdjmaeGreatDoorRefParse
import Derived.Test.YthmkgfdglkdjmaeGreatDoorRepMath
import Derived.Test.YthmkgfdglkdjmaeGreatDoorRefNew
import Derived.Test.YthmkgfdglkdjmaeGreatDoorLogMath
import Derived.Lib.Bytealg
namespace Go.Proofs.YthmkgfdglkdjmaeGreatDoor
open Go.RowKit

def oneA : ByteArray := ⟨#[97]⟩
def oneE : ByteArray := ⟨#[]⟩
theorem one_digits {d : Nat} (h : d < 10) : Lib.decDigits d = [UInt8.ofNat (48 + d)] := by rw [Lib.decDigits, dif_pos h]
theorem one_itoa0 : Lib.itoa 0 = [48] := by
  have := Lib.itoa_nonneg 0
  rw [one_digits (by decide)] at this
  exact this
theorem one_small : SmallT [oneA] := by
  intro x hx; simp at hx; subst hx; decide
/-! ### What it comes to -/
end Go.Proofs.YthmkgfdglkdjmaeGreatDoor

namespace Go.Proofs.YthmkgfdglkdjmaeGreatDoor
open Go.RowKit

/-- How read ends, of a text that is a deed's. -/
def ReadTold (w w' : World) (d : Deed3) (e : Ending) : Prop :=
  ∃ rb rn rc wb wn wc cb cn cc, e = .returned (.agg #[.slice rb rn rc, .slice wb wn wc, .slice cb cn cc]) ∧ DeedIn w' rb rn rc wb wn wc cb cn cc d.1 d.2.1 d.2.2 ∧ Below w.heap.size w w'

end Go.Proofs.YthmkgfdglkdjmaeGreatDoor

namespace Go.Proofs.YthmkgfdglkdjmaeGreatDoor
open Go.RowKit

end Go.Proofs.YthmkgfdglkdjmaeGreatDoor

namespace Go.Proofs.YthmkgfdglkdjmaeGreatDoor
open Go.RowKit

/-! ### An engine is told by what was planned and what is done -/
/-! ### How many wait -/
/-! ### Going on with one -/
/-! ### Behind all deeds -/
theorem ends_seq (r0 : List Row) (D : List Deed3) : (List.range' 0 D.length).map (fun i => endD (seqR r0 D i) (D.getD i default)) = endsD r0 D := by
  have h : ∀ n, n ≤ D.length → (List.range' 0 n).map (fun i => endD (seqR r0 D i) (D.getD i default)) = endsD r0 (D.take n) := by
    intro n
    induction n with
    | zero => intro _; rfl
    | succ n ih =>
      intro hn
      have hn' : n < D.length := hn
      rw [take_snoc_getD hn', endsD_snoc, ← ih (Nat.le_of_lt hn'), List.range'_concat, List.map_append]
      congr 1
      simp [seqR]
  rw [h _ (Nat.le_refl _), List.take_length]
/-- When all is done: all are told so, each ended as it does one by one, and keys have ahead of each what they have then. -/
structure AllDone (r0 : List Row) (D : List Deed3) (x : Eng) : Prop where
  len : x.state.length = D.length
  state : ∀ s ∈ x.state, s = 1
  ends : x.ends = endsD r0 D
  rows : ∀ n, n ≤ D.length → rowsC x.chains n = some (allD r0 (D.take n))
theorem Good.all {r0 : List Row} {D : List Deed3} {dn : Nat → Bool} {b : ByteArray → Int} {x : Eng} (G : Good r0 D 0 dn b x) (h : ∀ i, i < D.length → dn i = true) : AllDone r0 D x := by
  refine ⟨by rw [G.state]; simp, fun s hs => ?_, ?_, fun n hn => ?_⟩
  · rw [G.state] at hs
    obtain ⟨i, hi, rfl⟩ := List.mem_map.1 hs
    rw [if_pos (h i (by have := (List.mem_range'_1.1 hi).2; omega))]
  · rw [G.ends, ← ends_seq r0 D]
    refine List.map_congr_left fun i hi => ?_
    rw [if_pos (h i (by have := (List.mem_range'_1.1 hi).2; omega))]
  · have := G.sees (n := n) (by omega) (fun i _ hi => h i (by omega))
    rw [G.base] at this
    simpa [seqR] using this
end Go.Proofs.YthmkgfdglkdjmaeGreatDoor

namespace Go.Proofs.YthmkgfdglkdjmaeGreatDoor
open Go.RowKit

def sevI : List Ins := [(2, 0, 0, 4, oneE), (6, 0, 0, 0, oneA)]
def sevD : Deed3 := ([], [oneA], sevI)
/-- reads; writes a; const r0 4; store r0 a -/
def sevT : T := [114, 101, 97, 100, 115, 59, 32, 119, 114, 105, 116, 101, 115, 32, 97, 59, 32, 99, 111, 110, 115, 116, 32, 114, 48, 32, 52, 59, 32, 115, 116, 111, 114, 101, 32, 114, 48, 32, 97]
theorem sev_right : wDeed [] [oneA] sevI = 0 := by decide
theorem one_itoa4 : Lib.itoa 4 = [52] := by
  have := Lib.itoa_nonneg 4
  rw [one_digits (by decide)] at this
  exact this
theorem sev_text : printT [] [oneA] sevI = sevT := by
  unfold printT partsOf sevI
  have h2 : insWords (2, 0, 0, 4, oneE) = [word 2, [114, 48], [52]] := by
    show [word 2, reg 0, Lib.itoa 4] = _
    unfold reg; rw [one_itoa0, one_itoa4]
  have h4 : insWords (6, 0, 0, 0, oneA) = [word 6, [114, 48], [97]] := by
    show [word 6, reg 0, keyT oneA] = _
    unfold reg; rw [one_itoa0]; rfl
  simp only [List.map_cons, List.map_nil]
  rw [h2, h4]
  rfl
theorem sev_read : readT sevT = (0, [], [oneA], sevI) := by rw [← sev_text]; exact read_print sev_right
theorem sev_small : SmallT sevD.1 ∧ SmallT sevD.2.1 := ⟨(fun x hx => by cases hx), one_small⟩
theorem sevRight : RightDD sevD := right_deed sev_right
end Go.Proofs.YthmkgfdglkdjmaeGreatDoor

namespace Go.Proofs.YthmkgfdglkdjmaeGreatDoor
open Go.RowKit

/-! ### The sum -/
theorem sum_snoc (l : T) (c : UInt8) : sumT (l ++ [c]) = stepS (sumT l) c := by unfold sumT sumFrom; simp
theorem sum_take {l : T} {j : Nat} (h : j < l.length) : sumT (l.take (j + 1)) = stepS (sumT (l.take j)) (l.getD j 0) := by
  rw [show l.take (j + 1) = l.take j ++ [l.getD j 0] from by
    rw [List.take_add_one]
    simp [List.getD, h], sum_snoc]
/-! ### Lines -/
theorem readLines_snoc : ∀ {L : List T} {D : List Deed3} (x : T), readLines L = (0, D) → readLines (L ++ [x]) = if (readT x).1 = 0 then (0, D ++ [(readT x).2]) else ((readT x).1, [])
  | [], D, x, h => by
    simp only [readLines, Prod.mk.injEq, true_and] at h
    subst h
    by_cases hx : (readT x).1 = 0
    · simp [readLines, hx]
    · simp [readLines, hx]
  | y :: L, D, x, h => by
    rw [readLines] at h
    by_cases h1 : (readT y).1 = 0
    · rw [if_pos h1] at h
      by_cases h2 : (readLines L).1 = 0
      · rw [if_pos h2] at h
        simp only [Prod.mk.injEq, true_and] at h
        subst h
        have ih := readLines_snoc (L := L) (D := (readLines L).2) x (Prod.ext h2 rfl)
        rw [List.cons_append, readLines, if_pos h1, ih]
        by_cases hx : (readT x).1 = 0
        · rw [if_pos hx, if_pos hx]; simp
        · rw [if_neg hx, if_neg hx]
          simp [hx]
      · rw [if_neg h2] at h
        exact absurd (congrArg Prod.fst h) h2
    · rw [if_neg h1] at h
      exact absurd (congrArg Prod.fst h) h1
/-- Behind a line that is wrong nothing is looked at. -/
theorem readLines_stop : ∀ {L : List T} {q : Int} (L' : List T), q ≠ 0 → readLines L = (q, []) → readLines (L ++ L') = (q, [])
  | [], q, _, hq, h => by
    simp only [readLines, Prod.mk.injEq] at h
    exact absurd h.1.symm hq
  | y :: L, q, L', hq, h => by
    rw [readLines] at h
    rw [List.cons_append, readLines]
    by_cases h1 : (readT y).1 = 0
    · rw [if_pos h1] at h ⊢
      by_cases h2 : (readLines L).1 = 0
      · rw [if_pos h2] at h
        simp only [Prod.mk.injEq] at h
        exact absurd h.1.symm hq
      · rw [if_neg h2] at h
        simp only [Prod.mk.injEq, and_true] at h
        have ih := readLines_stop (L := L) L' hq (Prod.ext h (by
          have : ∀ L : List T, (readLines L).1 ≠ 0 → (readLines L).2 = [] := by
            intro L hL
            cases L with
            | nil => exact absurd rfl hL
            | cons z L =>
              rw [readLines] at hL ⊢
              by_cases g1 : (readT z).1 = 0
              · rw [if_pos g1] at hL ⊢
                by_cases g2 : (readLines L).1 = 0
                · rw [if_pos g2] at hL; exact absurd rfl hL
                · rw [if_neg g2]
              · rw [if_neg g1]
          exact this L h2))
        rw [ih]
        simp [hq]
    · rw [if_neg h1] at h ⊢
      exact h
end Go.Proofs.YthmkgfdglkdjmaeGreatDoor

namespace Go.Proofs.YthmkgfdglkdjmaeGreatDoor
open Go.Lib

theorem index_feed : ∀ {s : T}, (10 : UInt8) ∈ s → ∃ i : Nat, indexByte s 10 = (i : Int) ∧ i < s.length ∧ s.getD i 0 = 10 ∧ ∀ c ∈ s.take i, c ≠ 10
  | [], h => by cases h
  | b :: l, h => by
    unfold indexByte
    by_cases e : b = 10
    · subst e
      exact ⟨0, rfl, by simp, rfl, fun c hc => by simp at hc⟩
    · have h' : (10 : UInt8) ∈ l := by
        rcases List.mem_cons.1 h with h | h
        · exact absurd h.symm e
        · exact h
      obtain ⟨i, h1, h2, h3, h4⟩ := index_feed h'
      have e1 : (b == 10) = false := by simpa using e
      refine ⟨i + 1, ?_, by simp; omega, by simpa [List.getD] using h3, fun c hc => ?_⟩
      · rw [e1, h1]
        have : ((i : Int) == -1) = false := by simp
        rw [this]
        simp
      · rcases List.mem_cons.1 (by simpa using hc) with rfl | hc
        · exact e
        · exact h4 c hc
theorem lines_cut {s : T} {i : Nat} (hi : i < s.length) (hc : s.getD i 0 = 10) (hn : ∀ c ∈ s.take i, c ≠ 10) : linesT [] s = s.take i :: linesT [] (s.drop (i + 1)) := by
  have e : s = s.take i ++ 10 :: s.drop (i + 1) := by
    have h1 := (List.take_append_drop i s).symm
    rw [List.drop_eq_getElem_cons hi] at h1
    have h2 : s[i] = 10 := by simpa [List.getD, hi] using hc
    rw [h2] at h1
    exact h1
  have h2 : linesT [] (s.take i ++ 10 :: s.drop (i + 1)) = s.take i :: linesT [] (s.drop (i + 1)) := by
    rw [lines_word _ _ _ hn, linesT, if_pos rfl]
    rfl
  rw [← e] at h2
  exact h2
/-- Every line of it has its end. -/
def Ended (s : T) : Prop := s = [] ∨ s.getLast? = some 10
theorem ended_feed {s : T} (h : Ended s) (hs : s ≠ []) : (10 : UInt8) ∈ s := by
  rcases h with h | h
  · exact absurd h hs
  · exact List.mem_of_getLast? h
theorem ended_drop {s : T} (h : Ended s) (k : Nat) : Ended (s.drop k) := by
  by_cases e : s.length ≤ k
  · left; exact List.drop_eq_nil_iff.2 e
  · rcases h with h | h
    · subst h; simp at e
    · right
      rw [List.getLast?_drop, if_neg e]
      exact h
/-- What a reading has done when s stands yet to be read. -/
structure LinesLeft (whole s : T) (D : List Deed3) : Prop where
  done : ∃ L, linesT [] whole = L ++ linesT [] s ∧ readLines L = (0, D)
  ends : Ended s
  few : D.length + s.length ≤ whole.length
theorem left_start {s : T} (h : Ended s) : LinesLeft s s [] := ⟨⟨[], rfl, rfl⟩, h, by simp⟩
theorem left_end {whole : T} {D : List Deed3} (h : LinesLeft whole [] D) : readLines (linesT [] whole) = (0, D) := by
  obtain ⟨L, h1, h2⟩ := h.done
  rw [h1]
  simpa [linesT] using h2
theorem left_on {whole s : T} {D : List Deed3} {i : Nat} (h : LinesLeft whole s D) (hi : i < s.length) (hc : s.getD i 0 = 10) (hn : ∀ c ∈ s.take i, c ≠ 10) (hr : (readT (s.take i)).1 = 0) : LinesLeft whole (s.drop (i + 1)) (D ++ [(readT (s.take i)).2]) := by
  obtain ⟨L, h1, h2⟩ := h.done
  refine ⟨⟨L ++ [s.take i], by rw [h1, lines_cut hi hc hn, List.append_assoc]; rfl, ?_⟩, ended_drop h.ends _, ?_⟩
  · have := readLines_snoc (s.take i) h2
    rw [if_pos hr] at this
    exact this
  · have := h.few
    rw [List.length_append, List.length_drop]
    simp
    omega
theorem left_wrong {whole s : T} {D : List Deed3} {i : Nat} (h : LinesLeft whole s D) (hi : i < s.length) (hc : s.getD i 0 = 10) (hn : ∀ c ∈ s.take i, c ≠ 10) (hr : (readT (s.take i)).1 ≠ 0) : readLines (linesT [] whole) = ((readT (s.take i)).1, []) := by
  obtain ⟨L, h1, h2⟩ := h.done
  rw [h1, lines_cut hi hc hn, show L ++ s.take i :: linesT [] (s.drop (i + 1)) = (L ++ [s.take i]) ++ linesT [] (s.drop (i + 1)) by simp]
  have h3 := readLines_snoc (s.take i) h2
  rw [if_neg hr] at h3
  exact readLines_stop _ hr h3

/-! ### The sum as two bytes -/
def sumB (s : Nat) : T := [UInt8.ofNat (s / 256), UInt8.ofNat (s % 256)]
theorem sum_bytes {b : T} (h : 3 ≤ b.length) : b.drop (b.length - 2) = sumB (sumT (b.take (b.length - 2))) ↔ sumOk b = true := by
  have hs := sumT_lt (b.take (b.length - 2))
  have hd : b.drop (b.length - 2) = [b.getD (b.length - 2) 0, b.getD (b.length - 1) 0] := by
    rw [List.drop_eq_getElem_cons (by omega), show b.length - 2 + 1 = b.length - 1 from by omega, List.drop_eq_getElem_cons (by omega), show b.length - 1 + 1 = b.length from by omega, List.drop_length]
    have h1 : b.length - 2 < b.length := by omega
    have h2 : b.length - 1 < b.length := by omega
    simp [List.getD, h1, h2]
  rw [hd]
  unfold sumOk sumB
  generalize sumT (b.take (b.length - 2)) = s at *
  generalize b.getD (b.length - 2) 0 = x at *
  generalize b.getD (b.length - 1) 0 = y at *
  have hx := x.toNat_lt
  have hy := y.toNat_lt
  have h1 : (UInt8.ofNat (s / 256)).toNat = s / 256 := ofNat_small (by omega)
  have h2 : (UInt8.ofNat (s % 256)).toNat = s % 256 := ofNat_small (by omega)
  rw [decide_eq_true_iff]
  constructor
  · intro e
    simp only [List.cons.injEq, and_true] at e
    have e1 := congrArg UInt8.toNat e.1
    have e2 := congrArg UInt8.toNat e.2
    rw [h1] at e1
    rw [h2] at e2
    omega
  · intro e
    have e1 : x = UInt8.ofNat (s / 256) := UInt8.toNat_inj.1 (by rw [h1]; omega)
    have e2 : y = UInt8.ofNat (s % 256) := UInt8.toNat_inj.1 (by rw [h2]; omega)
    rw [e1, e2]
theorem bytesE_is (e : Ent) : bytesE e = dataE e ++ sumB (sumT (dataE e)) := rfl
/-- What is behind the first byte ends as it should. -/
theorem ended_iff {b : T} (h : 3 ≤ b.length) : Ended ((b.take (b.length - 2)).drop 1) ↔ ¬ (3 < b.length ∧ b.getD (b.length - 3) 0 ≠ 10) := by
  by_cases h3 : b.length = 3
  · have e : (b.take (b.length - 2)).drop 1 = [] := by rw [List.drop_eq_nil_iff, List.length_take]; omega
    exact ⟨fun _ => by omega, fun _ => .inl e⟩
  · have hl : ((b.take (b.length - 2)).drop 1).getLast? = some (b.getD (b.length - 3) 0) := by
      rw [List.getLast?_drop, if_neg (by rw [List.length_take]; omega), List.getLast?_eq_getElem?, List.length_take, show min (b.length - 2) b.length - 1 = b.length - 3 by omega, List.getElem?_take_of_lt (by omega)]
      have : b.length - 3 < b.length := by omega
      simp [List.getD, this]
    unfold Ended
    rw [hl]
    have hne : (b.take (b.length - 2)).drop 1 ≠ [] := fun e => by rw [e] at hl; cases hl
    constructor
    · rintro (e | e)
      · exact absurd e hne
      · simp only [Option.some.injEq] at e
        exact fun h => h.2 e
    · intro hn
      right
      have : b.getD (b.length - 3) 0 = 10 := by
        by_cases e : b.getD (b.length - 3) 0 = 10
        · exact e
        · exact absurd ⟨by omega, e⟩ hn
      rw [this]
end Go.Proofs.YthmkgfdglkdjmaeGreatDoor
