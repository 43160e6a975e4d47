/-
  around and Get of the program, of rows that rise.
  How an argument that is rows is read: some list of rows lies there, within the reach of the form.
-/
import Derived.Test.YtfchjhdgnibnnabFind
import Derived.Test.YtfchjhdgnibnnabRows
import Derived.Deep.SlicePairs
import Derived.ProofKit
import Derived.SizedLaws
import Derived.Carry
namespace Go.Proofs.Ytfchjhdgnibnnab
open Go.RowKit

/-- A slice's head: its length within its capacity; nil has none. -/
structure Hdr (base : Option Addr) (n c : Nat) : Prop where
  le : n ≤ c
  max : c ≤ maxLen
  nil : base = none → c = 0

/-- A slice holds the rows l. -/
structure Holds (w : World) (base : Option Addr) (n c : Nat) (l : List Row) : Prop where
  len : n = l.length
  seg : Seg w base l
  hdr : Hdr base n c

theorem Holds.below {w w' : World} {base : Option Addr} {n c : Nat} {l : List Row} (h : Holds w base n c l) (hb : Below w.heap.size w w') : Holds w' base n c l := ⟨h.len, h.seg.below hb, h.hdr⟩
theorem Holds.empty (w : World) {base : Option Addr} {n c : Nat} {l : List Row} (hl : n = l.length) (h : n = 0) (hh : Hdr base n c) : Holds w base n c l := ⟨hl, .inl (List.eq_nil_of_length_eq_zero (by omega)), hh⟩
theorem Holds.cells {w : World} {b o n c : Nat} {l : List Row} (hl : n = l.length) (h : Cells w b o l) (h1 : n ≤ c) (h2 : c ≤ maxLen) : Holds w (some ⟨b, o, none⟩) n c l := ⟨hl, .inr ⟨b, o, rfl, h⟩, ⟨h1, h2, fun h => by cases h⟩⟩

theorem getD_drop (l : List Row) (p i : Nat) : (l.drop p).getD i default = l.getD (p + i) default := by simp [List.getD]
theorem getD_take (l : List Row) (p i : Nat) (h : i < p) : (l.take p).getD i default = l.getD i default := by simp [List.getD, h]

theorem Cells.take {w : World} {b o : Nat} {l : List Row} (h : Cells w b o l) (p : Nat) : Cells w b o (l.take p) := fun i hi => by
  have hi' : i < p ∧ i < l.length := by simpa [Nat.lt_min] using hi
  rw [getD_take l p i hi'.1]
  exact h i hi'.2
theorem Cells.drop {w : World} {b o : Nat} {l : List Row} (h : Cells w b o l) (p : Nat) : Cells w b (o + p * 2) (l.drop p) := fun i hi => by
  have hi' : p + i < l.length := by simp at hi; omega
  rw [getD_drop]
  have := h (p + i) hi'
  rw [show o + p * 2 + i * 2 = o + (p + i) * 2 from by omega]
  exact this

set_option maxHeartbeats 1000000 in
theorem get_calls (l : List Row) (base : Option Addr) (c : Nat) (k : ByteArray) (w : World) (hl : l.length < 4611686018427387904) (hs : Srt l) (ha : Seg w base l) :
    Calls Try.prog 32 #[.slice base l.length c, .string k] w fun e w' => e = .returned (.tuple #[.int .i64 (num k l), .bool (isAt k l)]) ∧ Below w.heap.size w w' := by
  have HF := hid (find_calls l base c k w hl hs ha)
  cases hat : isAt k l with
  | false =>
    rw [hat] at HF
    have HN := hid (num_not k l hat)
    clear hat
    clear ha hs
    go_enter Try.func32, Try.ntmps32
    go_wp2_with fail
    refine HF.out.mono ?_
    rintro e w' ⟨rfl, hb⟩
    go_wp2
    go_ret2
    refine ⟨?_, hb⟩
    rw [HN.out]
    rfl
  | true =>
    rw [hat] at HF
    have HN := hid (num_pos k l hat)
    have hlt : pos k l < l.length := by rw [isAt_pos] at hat; simp at hat; exact hat.1
    clear hat hs
    rcases ha with h | ⟨b, o, rfl, h1⟩
    · rw [h] at hlt; simp at hlt
    have hbw := h1.lt (by omega)
    have H1 := hid h1
    clear h1
    generalize pos k l = p at *
    have hi : (p : Int) < (l.length : Int) := by omega
    go_enter Try.func32, Try.ntmps32
    go_wp2_with fail
    refine HF.out.mono ?_
    rintro e w' ⟨rfl, hb⟩
    have c1 := ((H1.out.below hb hbw) p hlt).2
    generalize (l.getD p default).2 = nn at HN c1
    go_wp2
    go_ret2
    refine ⟨?_, hb⟩
    rw [HN.out]
    rfl

set_option maxHeartbeats 1000000 in
theorem around_calls (l : List Row) (base : Option Addr) (n c : Nat) (k : ByteArray) (w : World) (hl : n < 4611686018427387904) (hs : Srt l) (ha : Holds w base n c l) :
    Calls Try.prog 66 #[.slice base n c, .string k] w fun e w' => ∃ (b1 b2 : Option Addr) (n1 n2 c1 c2 : Nat), e = .returned (.tuple #[.slice b1 n1 c1, .slice b2 n2 c2]) ∧
      Holds w' b1 n1 c1 (l.take (pos k l)) ∧ Holds w' b2 n2 c2 (l.drop (pos k l + if isAt k l = true then 1 else 0)) ∧ Below w.heap.size w w' := by
  have HL := hid ha.len
  have HF := hid (find_calls l base c k w (by rw [← ha.len]; exact hl) hs ha.seg)
  rw [← HL.out] at HF
  have hh := ha.hdr
  have hm := hh.max
  have hlc := hh.le
  unfold maxLen at hm
  clear hs
  have hp := pos_le k l
  rw [← HL.out] at hp
  have hat1 : isAt k l = true → pos k l < n := fun hat => by rw [isAt_pos, ← HL.out] at hat; simp at hat; exact hat.1
  by_cases h0 : n = 0
  · subst h0
    cases hat : isAt k l with
    | true => have := hat1 hat; omega
    | false =>
      rw [hat] at HF
      clear hat hat1
      generalize pos k l = p at *
      obtain rfl : p = 0 := by omega
      have HR := hid (fun (W : World) (h : (0 : Nat) = (l.take 0).length) => Holds.empty W h rfl hh)
      have HQ := hid (fun (W : World) (h : (0 : Nat) = (l.drop 0).length) => Holds.empty W h rfl hh)
      cases base with
      | none =>
        obtain rfl := hh.nil rfl
        clear ha hh
        go_enter Try.func66, Try.ntmps66
        go_wp2_with fail
        refine HF.out.mono ?_
        rintro e w' ⟨rfl, hb⟩
        go_wp2
        go_quiet (fail)
        go_wp2
        go_ret2
        exact ⟨_, _, _, _, _, _, rfl, HR.out _ (by simp), HQ.out _ (by simpa using HL.out), below_drewN hb _⟩
      | some a =>
        clear ha hh
        go_enter Try.func66, Try.ntmps66
        go_wp2_with fail
        refine HF.out.mono ?_
        rintro e w' ⟨rfl, hb⟩
        go_wp2
        go_quiet (fail)
        go_wp2
        all_goals
          go_ret2
          exact ⟨_, _, _, _, _, _, rfl, HR.out _ (by simp), HQ.out _ (by simpa using HL.out), below_drewN hb _⟩
  rcases ha.seg with h | ⟨b, o, rfl, h1⟩
  · exact absurd (by rw [HL.out, h]; rfl) h0
  have hbw : b < w.heap.size := h1.lt (by rw [← HL.out]; omega)
  have HC := hid h1
  clear h1 h0 ha hh
  cases hat : isAt k l with
  | false =>
    rw [hat] at HF
    clear hat hat1
    generalize pos k l = p at *
    go_enter Try.func66, Try.ntmps66
    go_wp2_with fail
    refine HF.out.mono ?_
    rintro e w' ⟨rfl, hb⟩
    have HC' := hid (HC.out.below hb hbw)
    go_wp2
    go_quiet (fail)
    go_wp2
    all_goals
      go_ret2
      refine ⟨_, _, _, _, _, _, rfl, Holds.cells (by simp; rw [← HL.out]; omega) (HC'.out.take p) (by omega) (by unfold maxLen; omega), ?_, below_drewN hb _⟩
      first
        | exact Holds.empty _ (by simp; rw [← HL.out]) (by omega) ⟨by omega, by unfold maxLen; omega, fun h => by cases h⟩
        | exact Holds.cells (by simp; rw [← HL.out]) (HC'.out.drop p) (by omega) (by unfold maxLen; omega)
  | true =>
    rw [hat] at HF
    have hlt := hat1 hat
    clear hat hat1
    generalize pos k l = p at *
    go_enter Try.func66, Try.ntmps66
    go_wp2_with fail
    refine HF.out.mono ?_
    rintro e w' ⟨rfl, hb⟩
    have HC' := hid (HC.out.below hb hbw)
    go_wp2
    go_quiet (fail)
    go_wp2
    all_goals
      go_ret2
      refine ⟨_, _, _, _, _, _, rfl, Holds.cells (by simp; rw [← HL.out]; omega) (HC'.out.take p) (by omega) (by unfold maxLen; omega), ?_, below_drewN hb _⟩
      first
        | exact Holds.empty _ (by simp; rw [← HL.out]) (by omega) ⟨by omega, by unfold maxLen; omega, fun h => by cases h⟩
        | exact Holds.cells (by simp; rw [← HL.out]) (HC'.out.drop (p + 1)) (by omega) (by unfold maxLen; omega)
end Go.Proofs.Ytfchjhdgnibnnab

namespace Go.Proofs.Ytfchjhdgnibnnab
open Go.ChangeShapes Go.WideShapes Go.ChangeAt Go.RowKit Go.Deep

theorem own : ownKnob Try.prog.godebug = none := by kernel_rfl
theorem laidOut : laidOutB Try.prog = true := by kernel_rfl
theorem cellsPair : Try.prog.cellsOf 64 = 2 := by kernel_rfl
theorem bytesPair : Try.prog.bytesOf 64 = 24 := by kernel_rfl
theorem cellsStr : Try.prog.cellsOf 9 = 1 := by kernel_rfl
theorem cellsInt : Try.prog.cellsOf 3 = 1 := by kernel_rfl

theorem open_rows {H : Type} {enc : TypeId × Value → H} {W : World} {a : Option Addr} {len cap : Nat} {d : DataW H} {p : List MemPlace}
    (h : DataW.Trod enc Try.prog W 0 (fun _ => true) true 23 (.slice a len cap) d p) :
    ∃ l, Holds W a len cap l ∧ Small l ∧ (∀ x ∈ l, (Lit.int .i64 x.2).wf = true) ∧ ((d = .nil ∧ cap = 0) ∨ ∃ elems spare : List (DataW H), d = .slice elems spare ∧ elems.length + spare.length = cap) := by
  obtain ⟨fuel, hf⟩ := h
  rcases open_slice_pairs Try.underlying23 Try.underlying64 cellsPair rfl rfl cellsStr cellsInt hf with ⟨hcs, hx⟩ | ⟨x, l', c', m, n, V0, V1, D0, D1, P0, P1, hcs, _, hl, hm, hmm, hx, hcell⟩
  · simp [Value.cells] at hcs
    obtain ⟨rfl, rfl, rfl⟩ := hcs
    simp only [Prod.mk.injEq] at hx
    exact ⟨[], Holds.empty W rfl rfl ⟨Nat.le_refl _, Nat.zero_le _, fun _ => rfl⟩, fun _ h => by simp at h, fun _ h => by simp at h, .inl ⟨hx.1, rfl⟩⟩
  · simp [Value.cells] at hcs
    obtain ⟨rfl, rfl, rfl⟩ := hcs
    simp only [if_true] at hmm
    subst hmm
    simp only [Prod.mk.injEq] at hx
    have hd : (d = .nil ∧ m = 0) ∨ ∃ elems spare : List (DataW H), d = .slice elems spare ∧ elems.length + spare.length = m := .inr ⟨_, _, hx.1, by simp; omega⟩
    have each : ∀ i, i < len → ∃ q : Row, W.cell? (x.add (i * 2)) = some (.string q.1) ∧ W.cell? (x.add (i * 2 + 1)) = some (.int .i64 q.2) ∧ q.1.size ≤ maxLen ∧ (Lit.int .i64 q.2).wf = true := by
      intro i hi
      obtain ⟨h1, h2, h3, h4⟩ := hcell i (by omega)
      obtain ⟨s, hs, _, hz⟩ := DataW.trod_string Try.underlying9 h3
      obtain ⟨v, hv, _, hw⟩ := DataW.trod_int Try.underlying3 h4
      simp at hs hv
      exact ⟨(s, v), by rw [h1, hs], by rw [h2, hv], hz, hw⟩
    obtain ⟨q, hq⟩ := choose_lt each
    have hln : ((List.range len).map q).length = len := by simp
    have hget : ∀ i, i < len → ((List.range len).map q).getD i default = q i := fun i hi => by simp [List.getD, hi]
    refine ⟨(List.range len).map q, ?_, ?_, ?_, hd⟩
    · by_cases h0 : len = 0
      · exact Holds.empty W hln.symm h0 ⟨hl, hm, fun h => by cases h⟩
      · obtain ⟨b, off, spot⟩ := x
        have hsp : spot = none := by simpa [Addr.add] using World.cell?_spot (hq 0 (by omega)).1
        subst hsp
        refine Holds.cells hln.symm (fun i hi => ?_) hl hm
        rw [hln] at hi
        rw [hget i hi]
        have h1 := (hq i hi).1
        have h2 := (hq i hi).2.1
        rw [Addr.add_lit] at h1 h2
        exact ⟨h1, by rw [Nat.add_assoc]; exact h2⟩
    · intro y hy
      obtain ⟨i, hi, rfl⟩ := List.mem_map.1 hy
      exact (hq i (by simpa using hi)).2.2.1
    · intro y hy
      obtain ⟨i, hi, rfl⟩ := List.mem_map.1 hy
      exact (hq i (by simpa using hi)).2.2.2

/-- The reach of the form bounds the rows that are read. -/
theorem rows_reach {H : Type} {ts : List TypeId} {ds : List (DataW H)} {d : DataW H} {cap len : Nat} (hsz : (DataW.weightsEach Try.prog ts ds).all (· ≤ reachBytes) = true) {j : Nat} (ht : ts[j]? = some 23) (hdj : ds[j]? = some d)
    (hd : (d = .nil ∧ cap = 0) ∨ ∃ elems spare : List (DataW H), d = .slice elems spare ∧ elems.length + spare.length = cap) (hl : len ≤ cap) : (len + 2) * 24 ≤ 140737488355328 := by
  rcases hd with ⟨_, rfl⟩ | ⟨elems, spare, rfl, hc⟩
  · omega
  · have := sized_slice hsz ht hdj Try.underlying23
    rw [bytesPair, hc] at this
    simp only [reachBytes] at this
    omega
end Go.Proofs.Ytfchjhdgnibnnab
