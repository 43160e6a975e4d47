/-
  How an argument that is a deed is read: its three slices lie there.
-/
import Derived.Test.YtfchjhdgnibnnabOpen
import Derived.Test.YtfchjhdgnibnnabDeedInstr
import Derived.Test.YtfchjhdgnibnnabDeedAll
import Derived.SliceStrings
import Derived.Lib.SmallJoins
namespace Go.Proofs.Ytfchjhdgnibnnab
open Go.ChangeShapes Go.WideShapes Go.ChangeAt Go.RowKit Go.Deep Go.Joins

theorem cellsDeed : Try.prog.cellsOf 31 = 3 := by kernel_rfl
theorem cellsInstr : Try.prog.cellsOf 73 = 5 := by kernel_rfl

/-- How a datum tells the room of a slice. -/
def Room {H : Type} (d : DataW H) (cap : Nat) : Prop := (d = .nil ∧ cap = 0) ∨ ∃ elems spare : List (DataW H), d = .slice elems spare ∧ elems.length + spare.length = cap

theorem open_texts {H : Type} {enc : TypeId × Value → H} {W : World} {v : Value} {fuel : Nat} {y : DataW H × List MemPlace}
    (h : DataW.trod enc Try.prog W 0 (fun _ => true) true fuel 28 [v] = some y) :
    ∃ a len cap l, v = .slice a len cap ∧ Texts W a len cap l ∧ SmallT l ∧ Room y.1 cap := by
  rcases open_strings Try.underlying28 Try.underlying9 cellsStr h with ⟨hcs, hx⟩ | ⟨x, len, cap, ss, hcs, _, hl, hm, hss, hx, hcell, hsm⟩
  · simp at hcs
    subst hcs
    rw [hx]
    exact ⟨none, 0, 0, [], rfl, Lies.none _ _, (fun _ h => by cases h), .inl ⟨rfl, rfl⟩⟩
  · simp at hcs
    subst hcs
    simp only [if_true] at hss
    refine ⟨some x, len, cap, ss.take len, rfl, ?_, fun s hs => hsm s (List.mem_of_mem_take hs), ?_⟩
    · refine ⟨by rw [strs_length, List.length_take]; omega, ⟨hl, hm, fun h => by cases h⟩, ?_⟩
      by_cases h0 : len = 0
      · exact .inl h0
      · right
        obtain ⟨b, off, spot⟩ := x
        have hsp : spot = none := by simpa [Addr.add] using World.cell?_spot (hcell 0 (by omega))
        subst hsp
        refine ⟨b, off, rfl, fun j u hu => ?_⟩
        have hj : j < len := by
          have := (List.getElem?_eq_some_iff.1 hu).1
          rw [strs_length, List.length_take] at this; omega
        have h1 := hcell j (by omega)
        rw [Addr.add_lit] at h1
        rw [h1]
        have : (strs (ss.take len))[j]? = some (.string (ss.getD j ByteArray.empty)) := by
          simp [strs, hj, List.getD, show j < ss.length by omega]
        rw [this] at hu
        exact hu
    · rw [hx]
      refine .inr ⟨_, _, rfl, ?_⟩
      simp [Go.ChangeShapes.strs]; omega

set_option maxRecDepth 100000 in
theorem open_codes {H : Type} {enc : TypeId × Value → H} {W : World} {v : Value} {fuel : Nat} {y : DataW H × List MemPlace}
    (h : DataW.trod enc Try.prog W 0 (fun _ => true) true fuel 29 [v] = some y) :
    ∃ a len cap l, v = .slice a len cap ∧ Codes W a len cap l ∧ Room y.1 cap := by
  rcases open_slice Try.underlying29 h with ⟨hcs, hx⟩ | ⟨x, len, cap, m, n, D, Pl, hcs, _, hl, hm, hmm, hx, hcell⟩
  · simp at hcs
    subst hcs
    rw [hx]
    exact ⟨none, 0, 0, [], rfl, Lies.none _ _, .inl ⟨rfl, rfl⟩⟩
  · simp at hcs
    subst hcs
    simp only [if_true] at hmm
    subst hmm
    have hroom : Room y.1 m := by rw [hx]; exact .inr ⟨_, _, rfl, by simp; omega⟩
    have each : ∀ i, i < len → ∃ q : Ins, W.cell? (x.add (i * 5)) = some (.int .i64 q.kind) ∧ W.cell? (x.add (i * 5 + 1)) = some (.int .i64 q.a) ∧ W.cell? (x.add (i * 5 + 2)) = some (.int .i64 q.b) ∧ W.cell? (x.add (i * 5 + 3)) = some (.int .i64 q.n) ∧ W.cell? (x.add (i * 5 + 4)) = some (.string q.key) := by
      intro i hi
      obtain ⟨cs', h1, h2⟩ := hcell i (by omega)
      rw [cellsInstr] at h1
      obtain ⟨_, hlen, hc⟩ := World.cells?_some h1
      obtain ⟨xs, k, _, _, _, hxl, hf⟩ := DataW.trod_struct Try.underlying73 h2
      match cs', hlen, xs, hxl with
      | [v0, v1, v2, v3, v4], _, [y0, y1, y2, y3, y4], _ =>
        have g0 := hf 0 _ rfl
        have g1 := hf 1 _ rfl
        have g2 := hf 2 _ rfl
        have g3 := hf 3 _ rfl
        have g4 := hf 4 _ rfl
        simp [cellsInt, cellsStr] at g0 g1 g2 g3 g4
        have e0 := hc 0 (by omega)
        have e1 := hc 1 (by omega)
        have e2 := hc 2 (by omega)
        have e3 := hc 3 (by omega)
        have e4 := hc 4 (by omega)
        rw [add_add] at e0 e1 e2 e3 e4
        obtain ⟨q0, hq0, _, _⟩ := DataW.trod_int Try.underlying3 g0
        obtain ⟨q1, hq1, _, _⟩ := DataW.trod_int Try.underlying3 g1
        obtain ⟨q2, hq2, _, _⟩ := DataW.trod_int Try.underlying3 g2
        obtain ⟨q3, hq3, _, _⟩ := DataW.trod_int Try.underlying3 g3
        obtain ⟨q4, hq4, _, _⟩ := DataW.trod_string Try.underlying9 g4
        simp at hq0 hq1 hq2 hq3 hq4
        subst hq0 hq1 hq2 hq3 hq4
        exact ⟨(q0, q1, q2, q3, q4), by simpa using e0, by simpa using e1, by simpa using e2, by simpa using e3, by simpa using e4⟩
    obtain ⟨q, hq⟩ := choose_lt each
    have hget : ∀ i, i < len → ((List.range len).map q).getD i default = q i := fun i hi => by simp [List.getD, hi]
    refine ⟨some x, len, m, (List.range len).map q, rfl, ?_, hroom⟩
    refine ⟨by rw [insCells_length]; simp, ⟨hl, hm, fun h => by cases h⟩, ?_⟩
    by_cases h0 : len = 0
    · exact .inl h0
    right
    obtain ⟨b, off, spot⟩ := x
    have hsp : spot = none := by simpa [Addr.add] using World.cell?_spot (hq 0 (by omega)).1
    subst hsp
    refine ⟨b, off, rfl, fun j u hu => ?_⟩
    have hj : j < len * 5 := by
      have := (List.getElem?_eq_some_iff.1 hu).1
      rw [insCells_length] at this; simpa using this
    have hjl : j / 5 < len := by omega
    have hat := insCells_at ((List.range len).map q) (j / 5) (by simpa using hjl) (j % 5)
    rw [hget _ hjl, show j / 5 * 5 + j % 5 = j from by omega] at hat
    obtain ⟨r0, r1, r2, r3, r4⟩ := hq _ hjl
    rw [Addr.add_lit] at r0 r1 r2 r3 r4
    have hm5 : j % 5 = 0 ∨ j % 5 = 1 ∨ j % 5 = 2 ∨ j % 5 = 3 ∨ j % 5 = 4 := by omega
    rcases hm5 with e | e | e | e | e <;> rw [e] at hat
    · have h2 := hat _ rfl
      rw [hu] at h2
      rw [show off + j = off + j / 5 * 5 from by omega, r0]; exact h2.symm
    · have h2 := hat _ rfl
      rw [hu] at h2
      rw [show off + j = off + (j / 5 * 5 + 1) from by omega, r1]; exact h2.symm
    · have h2 := hat _ rfl
      rw [hu] at h2
      rw [show off + j = off + (j / 5 * 5 + 2) from by omega, r2]; exact h2.symm
    · have h2 := hat _ rfl
      rw [hu] at h2
      rw [show off + j = off + (j / 5 * 5 + 3) from by omega, r3]; exact h2.symm
    · have h2 := hat _ rfl
      rw [hu] at h2
      rw [show off + j = off + (j / 5 * 5 + 4) from by omega, r4]; exact h2.symm

set_option maxRecDepth 100000 in
/-- A deed that is read. -/
theorem open_deed {H : Type} {enc : TypeId × Value → H} {W : World} {r : Reach} {b0 : Nat} {v : Value} {d : DataW H} {p : List MemPlace}
    (hv : Value.okWide Try.prog W r b0 31 v) (h : DataW.Trod enc Try.prog W 0 (fun _ => true) true 31 v d p) :
    ∃ rb rn rc wb wn wc cb cn cc R Wr C, v = .agg #[.slice rb rn rc, .slice wb wn wc, .slice cb cn cc] ∧ DeedIn W rb rn rc wb wn wc cb cn cc R Wr C ∧ SmallT R ∧ SmallT Wr ∧
      ∃ d0 d1 d2 : DataW H, d = .agg [d0, d1, d2] ∧ Room d0 rc ∧ Room d1 wc ∧ Room d2 cc := by
  obtain ⟨v0, v1, v2, y0, y1, y2, n, rfl, rfl, rfl, h0, h1, h2⟩ := open_agg3 Try.underlying31 (by kernel_rfl) cellsDeed hv h
  obtain ⟨rb, rn, rc, R, rfl, t0, s0, m0⟩ := open_texts h0
  obtain ⟨wb, wn, wc, Wr, rfl, t1, s1, m1⟩ := open_texts h1
  obtain ⟨cb, cn, cc, C, rfl, t2, m2⟩ := open_codes h2
  exact ⟨rb, rn, rc, wb, wn, wc, cb, cn, cc, R, Wr, C, rfl, ⟨t0, t1, t2⟩, s0, s1, _, _, _, rfl, m0, m1, m2⟩
end Go.Proofs.Ytfchjhdgnibnnab
