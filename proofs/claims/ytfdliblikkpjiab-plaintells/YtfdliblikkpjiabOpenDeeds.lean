/-
  How an argument that is deeds is read: each one's three slices lie there.
-/
import Derived.Test.YtfdliblikkpjiabOpenDeed
import Derived.Test.YtfdliblikkpjiabDeedsIn
namespace Go.Proofs.Ytfdliblikkpjiab
open Go.ChangeShapes Go.WideShapes Go.ChangeAt Go.RowKit Go.Deep Go.Joins

theorem cellsTexts : Try.prog.cellsOf 28 = 1 := by kernel_rfl
theorem cellsCodes : Try.prog.cellsOf 29 = 1 := by kernel_rfl
set_option maxRecDepth 100000 in
theorem open_deeds {H : Type} {enc : TypeId × Value → H} {W : World} {v : Value} {fuel : Nat} {y : DataW H × List MemPlace}
    (h : DataW.trod enc Try.prog W 0 (fun _ => true) true fuel 24 [v] = some y) :
    ∃ a len cap D, v = .slice a len cap ∧ DeedsIn W a len cap D ∧ Room y.1 cap := by
  rcases open_slice Try.underlying24 h with ⟨hcs, hx⟩ | ⟨x, len, cap, m, n, D, Pl, hcs, _, hl, hm, hmm, hx, hcell⟩
  · simp at hcs
    subst hcs
    rw [hx]
    exact ⟨none, 0, 0, [], rfl, ⟨rfl, ⟨Nat.le_refl _, Nat.zero_le _, fun _ => rfl⟩, .inl rfl⟩, .inl ⟨rfl, rfl⟩⟩
  · simp at hcs
    subst hcs
    simp only [if_true] at hmm
    subst hmm
    have hroom : Room y.1 m := by rw [hx]; exact .inr ⟨_, _, rfl, by simp; omega⟩
    have each : ∀ i, i < len → ∃ d : Deed3, ∃ rb rn rc wb wn wc cb cn cc, W.cell? (x.add (i * 3)) = some (.slice rb rn rc) ∧ W.cell? (x.add (i * 3 + 1)) = some (.slice wb wn wc) ∧ W.cell? (x.add (i * 3 + 2)) = some (.slice cb cn cc) ∧
        DeedIn W rb rn rc wb wn wc cb cn cc d.1 d.2.1 d.2.2 ∧ SmallT d.1 ∧ SmallT d.2.1 := by
      intro i hi
      obtain ⟨cs', h1, h2⟩ := hcell i (by omega)
      rw [cellsDeed] at h1
      obtain ⟨_, hlen, hc⟩ := World.cells?_some h1
      obtain ⟨xs, k, _, _, _, hxl, hf⟩ := DataW.trod_struct Try.underlying31 h2
      match cs', hlen, xs, hxl with
      | [v0, v1, v2], _, [y0, y1, y2], _ =>
        have g0 := hf 0 _ rfl
        have g1 := hf 1 _ rfl
        have g2 := hf 2 _ rfl
        simp [cellsTexts, cellsCodes] at g0 g1 g2
        have e0 := hc 0 (by omega)
        have e1 := hc 1 (by omega)
        have e2 := hc 2 (by omega)
        rw [add_add] at e0 e1 e2
        obtain ⟨rb, rn, rc, R, rfl, t0, s0, m0⟩ := open_texts g0
        obtain ⟨wb, wn, wc, Wr, rfl, t1, s1, m1⟩ := open_texts g1
        obtain ⟨cb, cn, cc, C, rfl, t2, m2⟩ := open_codes g2
        exact ⟨(R, Wr, C), rb, rn, rc, wb, wn, wc, cb, cn, cc, by simpa using e0, by simpa using e1, by simpa using e2, ⟨t0, t1, t2⟩, s0, s1⟩
    obtain ⟨q, hq⟩ := choose_lt each
    have hget : ∀ i, i < len → ((List.range len).map q).getD i default = q i := fun i hi => by simp [List.getD, hi]
    refine ⟨some x, len, m, (List.range len).map q, rfl, ⟨by simp, ⟨hl, hm, fun h => by cases h⟩, ?_⟩, hroom⟩
    by_cases h0 : len = 0
    · exact .inl h0
    right
    obtain ⟨b, off, spot⟩ := x
    have hsp : spot = none := by
      obtain ⟨_, _, _, _, _, _, _, _, _, h0, _⟩ := hq 0 (by omega)
      simpa [Addr.add] using World.cell?_spot h0
    subst hsp
    refine ⟨b, off, rfl, fun i hi => ?_⟩
    rw [hget i hi]
    obtain ⟨rb, rn, rc, wb, wn, wc, cb, cn, cc, h0, h1, h2, h3⟩ := hq i hi
    rw [Addr.add_lit] at h0 h1 h2
    exact ⟨rb, rn, rc, wb, wn, wc, cb, cn, cc, h0, by rw [Nat.add_assoc]; exact h1, by rw [Nat.add_assoc]; exact h2, h3⟩
end Go.Proofs.Ytfdliblikkpjiab
