/-
  around and Get of the program, of rows that rise.
-/
import Derived.Test.YtfchjhdgnibnnabFind
namespace Go.Proofs.Ytfchjhdgnibnnab
open Go.RowKit

/-- A slice's head: its length within its capacity; nil has none. -/
structure Hdr (base : Option Addr) (n c : Nat) : Prop where
  le : n ≤ c
  max : c ≤ maxLen
  nil : base = none → c = 0

/-- A slice holds the rows l. -/
structure Holds (w : World) (base : Option Addr) (n c : Nat) (l : List Row) : Prop where
  len : n = l.length
  seg : Seg w base l
  hdr : Hdr base n c

theorem Holds.below {w w' : World} {base : Option Addr} {n c : Nat} {l : List Row} (h : Holds w base n c l) (hb : Below w.heap.size w w') : Holds w' base n c l := ⟨h.len, h.seg.below hb, h.hdr⟩
theorem Holds.empty (w : World) {base : Option Addr} {n c : Nat} {l : List Row} (hl : n = l.length) (h : n = 0) (hh : Hdr base n c) : Holds w base n c l := ⟨hl, .inl (List.eq_nil_of_length_eq_zero (by omega)), hh⟩
theorem Holds.cells {w : World} {b o n c : Nat} {l : List Row} (hl : n = l.length) (h : Cells w b o l) (h1 : n ≤ c) (h2 : c ≤ maxLen) : Holds w (some ⟨b, o, none⟩) n c l := ⟨hl, .inr ⟨b, o, rfl, h⟩, ⟨h1, h2, fun h => by cases h⟩⟩

theorem getD_drop (l : List Row) (p i : Nat) : (l.drop p).getD i default = l.getD (p + i) default := by simp [List.getD]
theorem getD_take (l : List Row) (p i : Nat) (h : i < p) : (l.take p).getD i default = l.getD i default := by simp [List.getD, h]

theorem Cells.take {w : World} {b o : Nat} {l : List Row} (h : Cells w b o l) (p : Nat) : Cells w b o (l.take p) := fun i hi => by
  have hi' : i < p ∧ i < l.length := by simpa [Nat.lt_min] using hi
  rw [getD_take l p i hi'.1]
  exact h i hi'.2
theorem Cells.drop {w : World} {b o : Nat} {l : List Row} (h : Cells w b o l) (p : Nat) : Cells w b (o + p * 2) (l.drop p) := fun i hi => by
  have hi' : p + i < l.length := by simp at hi; omega
  rw [getD_drop]
  have := h (p + i) hi'
  rw [show o + p * 2 + i * 2 = o + (p + i) * 2 from by omega]
  exact this

set_option maxHeartbeats 1000000 in
theorem get_calls (l : List Row) (base : Option Addr) (c : Nat) (k : ByteArray) (w : World) (hl : l.length < 4611686018427387904) (hs : Srt l) (ha : Seg w base l) :
    Calls Try.prog 32 #[.slice base l.length c, .string k] w fun e w' => e = .returned (.tuple #[.int .i64 (num k l), .bool (isAt k l)]) ∧ Below w.heap.size w w' := by
  have HF := hid (find_calls l base c k w hl hs ha)
  cases hat : isAt k l with
  | false =>
    rw [hat] at HF
    have HN := hid (num_not k l hat)
    clear hat
    clear ha hs
    go_enter Try.func32, Try.ntmps32
    go_wp2_with fail
    refine HF.out.mono ?_
    rintro e w' ⟨rfl, hb⟩
    go_wp2
    go_ret2
    refine ⟨?_, hb⟩
    rw [HN.out]
    rfl
  | true =>
    rw [hat] at HF
    have HN := hid (num_pos k l hat)
    have hlt : pos k l < l.length := by rw [isAt_pos] at hat; simp at hat; exact hat.1
    clear hat hs
    rcases ha with h | ⟨b, o, rfl, h1⟩
    · rw [h] at hlt; simp at hlt
    have hbw := h1.lt (by omega)
    have H1 := hid h1
    clear h1
    generalize pos k l = p at *
    have hi : (p : Int) < (l.length : Int) := by omega
    go_enter Try.func32, Try.ntmps32
    go_wp2_with fail
    refine HF.out.mono ?_
    rintro e w' ⟨rfl, hb⟩
    have c1 := ((H1.out.below hb hbw) p hlt).2
    generalize (l.getD p default).2 = nn at HN c1
    go_wp2
    go_ret2
    refine ⟨?_, hb⟩
    rw [HN.out]
    rfl

set_option maxHeartbeats 1000000 in
theorem around_calls (l : List Row) (base : Option Addr) (n c : Nat) (k : ByteArray) (w : World) (hl : n < 4611686018427387904) (hs : Srt l) (ha : Holds w base n c l) :
    Calls Try.prog 66 #[.slice base n c, .string k] w fun e w' => ∃ (b1 b2 : Option Addr) (n1 n2 c1 c2 : Nat), e = .returned (.tuple #[.slice b1 n1 c1, .slice b2 n2 c2]) ∧
      Holds w' b1 n1 c1 (l.take (pos k l)) ∧ Holds w' b2 n2 c2 (l.drop (pos k l + if isAt k l = true then 1 else 0)) ∧ Below w.heap.size w w' := by
  have HL := hid ha.len
  have HF := hid (find_calls l base c k w (by rw [← ha.len]; exact hl) hs ha.seg)
  rw [← HL.out] at HF
  have hh := ha.hdr
  have hm := hh.max
  have hlc := hh.le
  unfold maxLen at hm
  clear hs
  have hp := pos_le k l
  rw [← HL.out] at hp
  have hat1 : isAt k l = true → pos k l < n := fun hat => by rw [isAt_pos, ← HL.out] at hat; simp at hat; exact hat.1
  by_cases h0 : n = 0
  · subst h0
    cases hat : isAt k l with
    | true => have := hat1 hat; omega
    | false =>
      rw [hat] at HF
      clear hat hat1
      generalize pos k l = p at *
      obtain rfl : p = 0 := by omega
      have HR := hid (fun (W : World) (h : (0 : Nat) = (l.take 0).length) => Holds.empty W h rfl hh)
      have HQ := hid (fun (W : World) (h : (0 : Nat) = (l.drop 0).length) => Holds.empty W h rfl hh)
      cases base with
      | none =>
        obtain rfl := hh.nil rfl
        clear ha hh
        go_enter Try.func66, Try.ntmps66
        go_wp2_with fail
        refine HF.out.mono ?_
        rintro e w' ⟨rfl, hb⟩
        go_wp2
        go_quiet (fail)
        go_wp2
        go_ret2
        exact ⟨_, _, _, _, _, _, rfl, HR.out _ (by simp), HQ.out _ (by simpa using HL.out), below_drewN hb _⟩
      | some a =>
        clear ha hh
        go_enter Try.func66, Try.ntmps66
        go_wp2_with fail
        refine HF.out.mono ?_
        rintro e w' ⟨rfl, hb⟩
        go_wp2
        go_quiet (fail)
        go_wp2
        all_goals
          go_ret2
          exact ⟨_, _, _, _, _, _, rfl, HR.out _ (by simp), HQ.out _ (by simpa using HL.out), below_drewN hb _⟩
  rcases ha.seg with h | ⟨b, o, rfl, h1⟩
  · exact absurd (by rw [HL.out, h]; rfl) h0
  have hbw : b < w.heap.size := h1.lt (by rw [← HL.out]; omega)
  have HC := hid h1
  clear h1 h0 ha hh
  cases hat : isAt k l with
  | false =>
    rw [hat] at HF
    clear hat hat1
    generalize pos k l = p at *
    go_enter Try.func66, Try.ntmps66
    go_wp2_with fail
    refine HF.out.mono ?_
    rintro e w' ⟨rfl, hb⟩
    have HC' := hid (HC.out.below hb hbw)
    go_wp2
    go_quiet (fail)
    go_wp2
    all_goals
      go_ret2
      refine ⟨_, _, _, _, _, _, rfl, Holds.cells (by simp; rw [← HL.out]; omega) (HC'.out.take p) (by omega) (by unfold maxLen; omega), ?_, below_drewN hb _⟩
      first
        | exact Holds.empty _ (by simp; rw [← HL.out]) (by omega) ⟨by omega, by unfold maxLen; omega, fun h => by cases h⟩
        | exact Holds.cells (by simp; rw [← HL.out]) (HC'.out.drop p) (by omega) (by unfold maxLen; omega)
  | true =>
    rw [hat] at HF
    have hlt := hat1 hat
    clear hat hat1
    generalize pos k l = p at *
    go_enter Try.func66, Try.ntmps66
    go_wp2_with fail
    refine HF.out.mono ?_
    rintro e w' ⟨rfl, hb⟩
    have HC' := hid (HC.out.below hb hbw)
    go_wp2
    go_quiet (fail)
    go_wp2
    all_goals
      go_ret2
      refine ⟨_, _, _, _, _, _, rfl, Holds.cells (by simp; rw [← HL.out]; omega) (HC'.out.take p) (by omega) (by unfold maxLen; omega), ?_, below_drewN hb _⟩
      first
        | exact Holds.empty _ (by simp; rw [← HL.out]) (by omega) ⟨by omega, by unfold maxLen; omega, fun h => by cases h⟩
        | exact Holds.cells (by simp; rw [← HL.out]) (HC'.out.drop (p + 1)) (by omega) (by unfold maxLen; omega)
end Go.Proofs.Ytfchjhdgnibnnab
