/-
  How an argument that is chains is read: each one's key and versions lie there.
-/
import Derived.Test.YtfchjhdgnibnnabOpenDeed
import Derived.Test.YtfchjhdgnibnnabChainsIn
namespace Go.Proofs.Ytfchjhdgnibnnab
open Go.ChangeShapes Go.WideShapes Go.ChangeAt Go.RowKit Go.Deep Go.Joins

theorem cellsVer : Try.prog.cellsOf 45 = 4 := by kernel_rfl
theorem cellsChn : Try.prog.cellsOf 61 = 2 := by kernel_rfl
theorem cellsBool : Try.prog.cellsOf 4 = 1 := by kernel_rfl
theorem cellsVers : Try.prog.cellsOf 59 = 1 := by kernel_rfl

set_option maxRecDepth 100000 in
theorem open_vers {H : Type} {enc : TypeId × Value → H} {W : World} {v : Value} {fuel : Nat} {y : DataW H × List MemPlace}
    (h : DataW.trod enc Try.prog W 0 (fun _ => true) true fuel 59 [v] = some y) :
    ∃ a len cap l, v = .slice a len cap ∧ Vers W a len cap l ∧ Room y.1 cap := by
  rcases open_slice Try.underlying59 h with ⟨hcs, hx⟩ | ⟨x, len, cap, m, n, D, Pl, hcs, _, hl, hm, hmm, hx, hcell⟩
  · simp at hcs
    subst hcs
    rw [hx]
    exact ⟨none, 0, 0, [], rfl, Lies.none _ _, .inl ⟨rfl, rfl⟩⟩
  · simp at hcs
    subst hcs
    simp only [if_true] at hmm
    subst hmm
    have hroom : Room y.1 m := by rw [hx]; exact .inr ⟨_, _, rfl, by simp; omega⟩
    have each : ∀ i, i < len → ∃ q : Ver, W.cell? (x.add (i * 4)) = some (.int .i64 q.by_) ∧ W.cell? (x.add (i * 4 + 1)) = some (.bool q.made) ∧ W.cell? (x.add (i * 4 + 2)) = some (.bool q.has_) ∧ W.cell? (x.add (i * 4 + 3)) = some (.int .i64 q.n) := by
      intro i hi
      obtain ⟨cs', h1, h2⟩ := hcell i (by omega)
      rw [cellsVer] at h1
      obtain ⟨_, hlen, hc⟩ := World.cells?_some h1
      obtain ⟨xs, k, _, _, _, hxl, hf⟩ := DataW.trod_struct Try.underlying45 h2
      match cs', hlen, xs, hxl with
      | [v0, v1, v2, v3], _, [y0, y1, y2, y3], _ =>
        have g0 := hf 0 _ rfl
        have g1 := hf 1 _ rfl
        have g2 := hf 2 _ rfl
        have g3 := hf 3 _ rfl
        simp [cellsInt, cellsBool] at g0 g1 g2 g3
        have e0 := hc 0 (by omega)
        have e1 := hc 1 (by omega)
        have e2 := hc 2 (by omega)
        have e3 := hc 3 (by omega)
        rw [add_add] at e0 e1 e2 e3
        obtain ⟨q0, hq0, _, _⟩ := DataW.trod_int Try.underlying3 g0
        obtain ⟨q1, hq1, _⟩ := DataW.trod_bool Try.underlying4 g1
        obtain ⟨q2, hq2, _⟩ := DataW.trod_bool Try.underlying4 g2
        obtain ⟨q3, hq3, _, _⟩ := DataW.trod_int Try.underlying3 g3
        simp at hq0 hq1 hq2 hq3
        subst hq0 hq1 hq2 hq3
        exact ⟨(q0, q1, q2, q3), by simpa using e0, by simpa using e1, by simpa using e2, by simpa using e3⟩
    obtain ⟨q, hq⟩ := choose_lt each
    have hget : ∀ i, i < len → ((List.range len).map q).getD i default = q i := fun i hi => by simp [List.getD, hi]
    refine ⟨some x, len, m, (List.range len).map q, rfl, ?_, hroom⟩
    refine ⟨by rw [flat_length verC_length]; simp, ⟨hl, hm, fun h => by cases h⟩, ?_⟩
    by_cases h0 : len = 0
    · exact .inl h0
    right
    obtain ⟨b, off, spot⟩ := x
    have hsp : spot = none := by simpa [Addr.add] using World.cell?_spot (hq 0 (by omega)).1
    subst hsp
    refine ⟨b, off, rfl, fun j u hu => ?_⟩
    have hj : j < len * 4 := by
      have := (List.getElem?_eq_some_iff.1 hu).1
      rw [flat_length verC_length] at this; simpa using this
    have hjl : j / 4 < len := by omega
    have hat := flat_at verC_length ((List.range len).map q) (j / 4) (by simpa using hjl) (j % 4)
    rw [hget _ hjl, show j / 4 * 4 + j % 4 = j from by omega] at hat
    obtain ⟨r0, r1, r2, r3⟩ := hq _ hjl
    rw [Addr.add_lit] at r0 r1 r2 r3
    have hm5 : j % 4 = 0 ∨ j % 4 = 1 ∨ j % 4 = 2 ∨ j % 4 = 3 := by omega
    rcases hm5 with e | e | e | e <;> rw [e] at hat
    · have h2 := hat _ rfl
      rw [hu] at h2
      rw [show off + j = off + j / 4 * 4 from by omega, r0]; exact h2.symm
    · have h2 := hat _ rfl
      rw [hu] at h2
      rw [show off + j = off + (j / 4 * 4 + 1) from by omega, r1]; exact h2.symm
    · have h2 := hat _ rfl
      rw [hu] at h2
      rw [show off + j = off + (j / 4 * 4 + 2) from by omega, r2]; exact h2.symm
    · have h2 := hat _ rfl
      rw [hu] at h2
      rw [show off + j = off + (j / 4 * 4 + 3) from by omega, r3]; exact h2.symm

set_option maxRecDepth 100000 in
theorem open_chains {H : Type} {enc : TypeId × Value → H} {W : World} {v : Value} {fuel : Nat} {y : DataW H × List MemPlace}
    (h : DataW.trod enc Try.prog W 0 (fun _ => true) true fuel 43 [v] = some y) :
    ∃ a len cap L, v = .slice a len cap ∧ ChainsIn W a len cap L ∧ Room y.1 cap := by
  rcases open_slice Try.underlying43 h with ⟨hcs, hx⟩ | ⟨x, len, cap, m, n, D, Pl, hcs, _, hl, hm, hmm, hx, hcell⟩
  · simp at hcs
    subst hcs
    rw [hx]
    exact ⟨none, 0, 0, [], rfl, ChainsIn.none _, .inl ⟨rfl, rfl⟩⟩
  · simp at hcs
    subst hcs
    simp only [if_true] at hmm
    subst hmm
    have hroom : Room y.1 m := by rw [hx]; exact .inr ⟨_, _, rfl, by simp; omega⟩
    have each : ∀ i, i < len → ∃ q : Chn, ∃ vb vn vc, W.cell? (x.add (i * 2)) = some (.string q.1) ∧ W.cell? (x.add (i * 2 + 1)) = some (.slice vb vn vc) ∧ Vers W vb vn vc q.2 ∧ q.1.size ≤ maxLen := by
      intro i hi
      obtain ⟨cs', h1, h2⟩ := hcell i (by omega)
      rw [cellsChn] at h1
      obtain ⟨_, hlen, hc⟩ := World.cells?_some h1
      obtain ⟨xs, k, _, _, _, hxl, hf⟩ := DataW.trod_struct Try.underlying61 h2
      match cs', hlen, xs, hxl with
      | [v0, v1], _, [y0, y1], _ =>
        have g0 := hf 0 _ rfl
        have g1 := hf 1 _ rfl
        simp [cellsStr, cellsVers] at g0 g1
        have e0 := hc 0 (by omega)
        have e1 := hc 1 (by omega)
        rw [add_add] at e0 e1
        obtain ⟨q0, hq0, _, hz⟩ := DataW.trod_string Try.underlying9 g0
        obtain ⟨vb, vn, vc, l, rfl, hv, _⟩ := open_vers g1
        simp at hq0
        subst hq0
        exact ⟨(q0, l), vb, vn, vc, by simpa using e0, by simpa using e1, hv, hz⟩
    obtain ⟨q, hq⟩ := choose_lt each
    have hget : ∀ i, i < len → ((List.range len).map q).getD i default = q i := fun i hi => by simp [List.getD, hi]
    refine ⟨some x, len, m, (List.range len).map q, rfl, ⟨by simp, ⟨hl, hm, fun h => by cases h⟩, ?_⟩, hroom⟩
    by_cases h0 : len = 0
    · exact .inl h0
    right
    obtain ⟨b, off, spot⟩ := x
    have hsp : spot = none := by
      obtain ⟨_, _, _, h0, _⟩ := hq 0 (by omega)
      simpa [Addr.add] using World.cell?_spot h0
    subst hsp
    refine ⟨b, off, rfl, fun i hi => ?_⟩
    rw [hget i hi]
    obtain ⟨vb, vn, vc, h0, h1, h2, h3⟩ := hq i hi
    rw [Addr.add_lit] at h0 h1
    exact ⟨vb, vn, vc, h0, by rw [Nat.add_assoc]; exact h1, h2, h3⟩
end Go.Proofs.Ytfchjhdgnibnnab
