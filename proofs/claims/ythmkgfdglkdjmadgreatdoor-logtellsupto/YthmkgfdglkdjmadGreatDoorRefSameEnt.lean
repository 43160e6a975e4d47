/-
  How arguments that are entries, an entry, or bytes are read, and how many there are at the most where all that is read is of a bounded bulk.
  The document's own SameChains, walked: of two lists of the same chains it answers true.
  The document's own SameInts, SameTexts, SameDeeds and SameEngine, of what is the same, walked.
  The document's SameEntries, of what is the same, walked.
-/
import Derived.Test.YthmkgfdglkdjmadGreatDoorLogMath
import Derived.Test.YthmkgfdglkdjmadGreatDoorEntIn
import Derived.Test.YthmkgfdglkdjmadGreatDoorEngGood
import Derived.Test.YthmkgfdglkdjmadGreatDoorRefNew
import Derived.Test.YthmkgfdglkdjmadGreatDoorEndsAt
import Derived.Deep.DeepCutAuto
namespace Go.Proofs.YthmkgfdglkdjmadGreatDoor
open Go.ChangeShapes Go.WideShapes Go.ChangeAt Go.RowKit Go.Deep Go.Joins

/-- Each deed's lists are of at most so many. -/
def FewD (k : Nat) (D : List Deed3) : Prop := ∀ i, i < D.length → (D.getD i default).1.length ≤ k ∧ (D.getD i default).2.1.length ≤ k ∧ (D.getD i default).2.2.length ≤ k
def FewE (k : Nat) (L : List Ent) : Prop := ∀ i, i < L.length → (L.getD i default).2.length ≤ k ∧ FewD k (L.getD i default).2
theorem FewD.mono {k m : Nat} {D : List Deed3} (h : FewD k D) (hk : k ≤ m) : FewD m D := fun i hi => by have := h i hi; omega
theorem FewE.mono {k m : Nat} {L : List Ent} (h : FewE k L) (hk : k ≤ m) : FewE m L := fun i hi => ⟨Nat.le_trans (h i hi).1 hk, (h i hi).2.mono hk⟩
theorem bulk_each {H : Type} (D : Nat → DataW H) (n i : Nat) (hi : i < n) : Rows.uptoBulk (D i) ≤ Rows.uptoBulkAll ((List.range n).map D) := by
  induction n with
  | zero => omega
  | succ n ih =>
    rw [List.range_succ, List.map_append, bulk_append]
    by_cases h : i < n
    · have := ih h; omega
    · obtain rfl : i = n := by omega
      simp only [List.map_cons, List.map_nil, Rows.uptoBulkAll]
      omega
set_option maxRecDepth 100000 in
theorem open_deedsF {H : Type} {enc : TypeId × Value → H} {W : World} {v : Value} {fuel : Nat} {y : DataW H × List MemPlace}
    (h : DataW.trod enc Tryz.prog W 0 (fun _ => true) true fuel 24 [v] = some y) :
    ∃ a len cap D, v = .slice a len cap ∧ DeedsIn W a len cap D ∧ D.length ≤ Rows.uptoBulk y.1 ∧ FewD (Rows.uptoBulk y.1) D := by
  rcases open_slice Tryz.underlying24 h with ⟨hcs, hx⟩ | ⟨x, len, cap, m, n, D, Pl, hcs, _, hl, hm, hmm, hx, hcell⟩
  · simp at hcs
    subst hcs
    exact ⟨none, 0, 0, [], rfl, ⟨rfl, ⟨Nat.le_refl _, Nat.zero_le _, fun _ => rfl⟩, .inl rfl⟩, Nat.zero_le _, fun _ h => absurd h (Nat.not_lt_zero _)⟩
  · simp at hcs
    subst hcs
    simp only [if_true] at hmm
    subst hmm
    have hbig : ∀ i, i < len → Rows.uptoBulk (D i) ≤ Rows.uptoBulk y.1 := fun i hi => by
      have := bulk_each D len i hi
      rw [hx]
      simp only [Rows.uptoBulk]
      omega
    have each : ∀ i, i < len → ∃ d : Deed3, (∃ rb rn rc wb wn wc cb cn cc, W.cell? (x.add (i * 3)) = some (.slice rb rn rc) ∧ W.cell? (x.add (i * 3 + 1)) = some (.slice wb wn wc) ∧ W.cell? (x.add (i * 3 + 2)) = some (.slice cb cn cc) ∧
        DeedIn W rb rn rc wb wn wc cb cn cc d.1 d.2.1 d.2.2 ∧ SmallT d.1 ∧ SmallT d.2.1) ∧ d.1.length ≤ Rows.uptoBulk y.1 ∧ d.2.1.length ≤ Rows.uptoBulk y.1 ∧ d.2.2.length ≤ Rows.uptoBulk y.1 := by
      intro i hi
      obtain ⟨cs', h1, h2⟩ := hcell i (by omega)
      rw [cellsDeed] at h1
      obtain ⟨_, hlen, hc⟩ := World.cells?_some h1
      obtain ⟨xs, k, _, he2, _, hxl, hf⟩ := DataW.trod_struct Tryz.underlying75 h2
      match cs', hlen, xs, hxl with
      | [v0, v1, v2], _, [y0, y1, y2], _ =>
        have g0 := hf 0 _ rfl
        have g1 := hf 1 _ rfl
        have g2 := hf 2 _ rfl
        simp [cellsTexts, cellsCodes] at g0 g1 g2
        have e0 := hc 0 (by omega)
        have e1 := hc 1 (by omega)
        have e2 := hc 2 (by omega)
        rw [add_add] at e0 e1 e2
        obtain ⟨rb, rn, rc, R, rfl, t0, s0, m0⟩ := open_texts g0
        obtain ⟨wb, wn, wc, Wr, rfl, t1, s1, m1⟩ := open_texts g1
        obtain ⟨cb, cn, cc, C, rfl, t2, m2⟩ := open_codes g2
        have hb := hbig i hi
        have hD : D i = .agg [y0.1, y1.1, y2.1] := by
          have := congrArg Prod.fst he2
          simpa using this
        rw [hD] at hb
        simp only [Rows.uptoBulk, Rows.uptoBulkAll] at hb
        have b0 := room_bulk m0
        have b1 := room_bulk m1
        have b2 := room_bulk m2
        have n0 := Texts.count t0
        have n1 := Texts.count t1
        have n2 := Codes.count t2
        have l0 := t0.hdr.le
        have l1 := t1.hdr.le
        have l2 := t2.hdr.le
        exact ⟨(R, Wr, C), ⟨rb, rn, rc, wb, wn, wc, cb, cn, cc, by simpa using e0, by simpa using e1, by simpa using e2, ⟨t0, t1, t2⟩, s0, s1⟩, by show R.length ≤ _; omega, by show Wr.length ≤ _; omega, by show C.length ≤ _; omega⟩
    obtain ⟨q, hq⟩ := choose_lt each
    have hget : ∀ i, i < len → ((List.range len).map q).getD i default = q i := fun i hi => by simp [List.getD, hi]
    refine ⟨some x, len, m, (List.range len).map q, rfl, ⟨by simp, ⟨hl, hm, fun h => by cases h⟩, ?_⟩, ?_, fun i hi => ?_⟩
    · by_cases h0 : len = 0
      · exact .inl h0
      right
      obtain ⟨b, off, spot⟩ := x
      have hsp : spot = none := by
        obtain ⟨⟨_, _, _, _, _, _, _, _, _, h0, _⟩, _⟩ := hq 0 (by omega)
        simpa [Addr.add] using World.cell?_spot h0
      subst hsp
      refine ⟨b, off, rfl, fun i hi => ?_⟩
      rw [hget i hi]
      obtain ⟨⟨rb, rn, rc, wb, wn, wc, cb, cn, cc, h0, h1, h2, h3⟩, _⟩ := hq i hi
      rw [Addr.add_lit] at h0 h1 h2
      exact ⟨rb, rn, rc, wb, wn, wc, cb, cn, cc, h0, by rw [Nat.add_assoc]; exact h1, by rw [Nat.add_assoc]; exact h2, h3⟩
    · have h1 := bulk_length ((List.range len).map D)
      rw [hx]
      simp only [Rows.uptoBulk, List.length_map, List.length_range] at h1 ⊢
      omega
    · have hi' : i < len := by simpa using hi
      rw [hget i hi']
      exact (hq i hi').2

/-! ### Entries -/
theorem cellsEntry : Tryz.prog.cellsOf 61 = 2 := by kernel_rfl
set_option maxRecDepth 100000 in
theorem open_entry {H : Type} {enc : TypeId × Value → H} {W : World} {r : Reach} {b0 : Nat} {v : Value} {d : DataW H} {p : List MemPlace}
    (hv : Value.okWide Tryz.prog W r b0 61 v) (h : DataW.Trod enc Tryz.prog W 0 (fun _ => true) true 61 v d p) : ∃ x : Ent, EntV W v x ∧ (Lit.int .i64 x.1).wf = true := by
  obtain ⟨v0, v1, y0, y1, n, rfl, rfl, rfl, h0, h1⟩ := open_agg2 Tryz.underlying61 (by kernel_rfl) cellsEntry hv h
  obtain ⟨q, hq, _, hw⟩ := DataW.trod_int Tryz.underlying3 h0
  obtain ⟨db, dn, dc, D, rfl, hd, _⟩ := open_deedsF h1
  simp at hq
  subst hq
  exact ⟨(q, D), ⟨db, dn, dc, rfl, hd⟩, hw⟩
set_option maxRecDepth 100000 in
theorem open_ents {H : Type} {enc : TypeId × Value → H} {W : World} {v : Value} {fuel : Nat} {y : DataW H × List MemPlace}
    (h : DataW.trod enc Tryz.prog W 0 (fun _ => true) true fuel 62 [v] = some y) :
    ∃ a len cap L, v = .slice a len cap ∧ EntsIn W a len cap L ∧ L.length ≤ Rows.uptoBulk y.1 ∧ FewE (Rows.uptoBulk y.1) L := by
  rcases open_slice Tryz.underlying62 h with ⟨hcs, hx⟩ | ⟨x, len, cap, m, n, D, Pl, hcs, _, hl, hm, hmm, hx, hcell⟩
  · simp at hcs
    subst hcs
    exact ⟨none, 0, 0, [], rfl, EntsIn.none W, Nat.zero_le _, fun _ h => absurd h (Nat.not_lt_zero _)⟩
  · simp at hcs
    subst hcs
    simp only [if_true] at hmm
    subst hmm
    have hbig : ∀ i, i < len → Rows.uptoBulk (D i) ≤ Rows.uptoBulk y.1 := fun i hi => by
      have := bulk_each D len i hi
      rw [hx]
      simp only [Rows.uptoBulk]
      omega
    have each : ∀ i, i < len → ∃ e : Ent, (∃ db dn dc, W.cell? (x.add (i * 2)) = some (.int .i64 e.1) ∧ W.cell? (x.add (i * 2 + 1)) = some (.slice db dn dc) ∧ DeedsIn W db dn dc e.2) ∧ e.2.length ≤ Rows.uptoBulk y.1 ∧ FewD (Rows.uptoBulk y.1) e.2 := by
      intro i hi
      obtain ⟨cs', h1, h2⟩ := hcell i (by omega)
      rw [cellsEntry] at h1
      obtain ⟨_, hlen, hc⟩ := World.cells?_some h1
      obtain ⟨xs, k, _, he2, _, hxl, hf⟩ := DataW.trod_struct Tryz.underlying61 h2
      match cs', hlen, xs, hxl with
      | [v0, v1], _, [y0, y1], _ =>
        have g0 := hf 0 _ rfl
        have g1 := hf 1 _ rfl
        simp [cellsInt, cellsDeeds1] at g0 g1
        have e0 := hc 0 (by omega)
        have e1 := hc 1 (by omega)
        rw [add_add] at e0 e1
        obtain ⟨q0, hq0, _, _⟩ := DataW.trod_int Tryz.underlying3 g0
        obtain ⟨db, dn, dc, E, rfl, hd, hn, hfw⟩ := open_deedsF g1
        simp at hq0
        subst hq0
        have hb := hbig i hi
        have hD : D i = .agg [y0.1, y1.1] := by
          have := congrArg Prod.fst he2
          simpa using this
        rw [hD] at hb
        simp only [Rows.uptoBulk, Rows.uptoBulkAll] at hb
        exact ⟨(q0, E), ⟨db, dn, dc, by simpa using e0, by simpa using e1, hd⟩, by show E.length ≤ _; omega, hfw.mono (by omega)⟩
    obtain ⟨q, hq⟩ := choose_lt each
    have hget : ∀ i, i < len → ((List.range len).map q).getD i default = q i := fun i hi => by simp [List.getD, hi]
    refine ⟨some x, len, m, (List.range len).map q, rfl, ⟨by simp, ⟨hl, hm, fun h => by cases h⟩, ?_⟩, ?_, fun i hi => ?_⟩
    · by_cases h0 : len = 0
      · exact .inl h0
      right
      obtain ⟨b, off, spot⟩ := x
      have hsp : spot = none := by
        obtain ⟨⟨_, _, _, h0, _⟩, _⟩ := hq 0 (by omega)
        simpa [Addr.add] using World.cell?_spot h0
      subst hsp
      refine ⟨b, off, rfl, fun i hi => ?_⟩
      rw [hget i hi]
      obtain ⟨⟨db, dn, dc, h0, h1, h2⟩, _⟩ := hq i hi
      rw [Addr.add_lit] at h0 h1
      exact ⟨db, dn, dc, h0, by rw [Nat.add_assoc]; exact h1, h2⟩
    · have h1 := bulk_length ((List.range len).map D)
      rw [hx]
      simp only [Rows.uptoBulk, List.length_map, List.length_range] at h1 ⊢
      omega
    · have hi' : i < len := by simpa using hi
      rw [hget i hi']
      exact (hq i hi').2

/-! ### Bytes -/
theorem cellsByte1 : Tryz.prog.cellsOf 5 = 1 := by kernel_rfl
theorem byte_nat {q : Int} (h : (Lit.int .u8 q).wf = true) : ((UInt8.ofNat q.toNat).toNat : Int) = q := by
  have h1 : 0 ≤ q ∧ q < 256 := by
    simp [Lit.wf] at h
    have h2 := h.1
    have h3 := h.2
    have e1 : IntKind.u8.min = 0 := by decide
    have e2 : IntKind.u8.max = 255 := by decide
    omega
  rw [UInt8.toNat_ofNat']
  omega
theorem open_bytes {H : Type} {enc : TypeId × Value → H} {W : World} {v : Value} {fuel : Nat} {y : DataW H × List MemPlace}
    (h : DataW.trod enc Tryz.prog W 0 (fun _ => true) true fuel 63 [v] = some y) :
    ∃ a len cap l, v = .slice a len cap ∧ BytesIn W a len cap l ∧ l.length ≤ Rows.uptoBulk y.1 := by
  rcases open_slice Tryz.underlying63 h with ⟨hcs, hx⟩ | ⟨x, len, cap, m, n, D, Pl, hcs, _, hl, hm, hmm, hx, hcell⟩
  · simp at hcs
    subst hcs
    exact ⟨none, 0, 0, [], rfl, Lies.none _ _, Nat.zero_le _⟩
  · simp at hcs
    subst hcs
    simp only [if_true] at hmm
    subst hmm
    have each : ∀ i, i < len → ∃ q : UInt8, W.cell? (x.add i) = some (.int .u8 (q.toNat : Int)) := by
      intro i hi
      obtain ⟨cs', h1, h2⟩ := hcell i (by omega)
      rw [cellsByte1] at h1
      obtain ⟨_, hlen, hc⟩ := World.cells?_some h1
      match cs', hlen with
      | [v0], _ =>
        have e0 := hc 0 (by omega)
        rw [add_add] at e0
        obtain ⟨q0, hq0, _, hw⟩ := DataW.trod_int Tryz.underlying5 h2
        simp at hq0
        subst hq0
        exact ⟨UInt8.ofNat q0.toNat, by rw [byte_nat hw]; simpa using e0⟩
    obtain ⟨q, hq⟩ := choose_lt each
    have hlen : ((List.range len).map q).length = len := by simp
    refine ⟨some x, len, m, (List.range len).map q, rfl, ⟨by rw [bytesC_length, hlen, Nat.mul_one], ⟨hl, hm, fun h => by cases h⟩, ?_⟩, ?_⟩
    · by_cases h0 : len = 0
      · exact .inl h0
      right
      obtain ⟨b, off, spot⟩ := x
      have hsp : spot = none := by
        have h0 := hq 0 (by omega)
        simpa [Addr.add] using World.cell?_spot h0
      subst hsp
      refine ⟨b, off, rfl, fun i u hu => ?_⟩
      have hi : i < len := by
        have := (List.getElem?_eq_some_iff.1 hu).1
        rw [bytesC_length, hlen] at this
        exact this
      rw [bytesC_at (by rw [hlen]; exact hi)] at hu
      have h1 := hq i hi
      rw [Addr.add_lit] at h1
      rw [h1, ← hu]
      simp [List.getD, hi]
    · have h1 := bulk_length ((List.range len).map D)
      rw [hx]
      simp only [Rows.uptoBulk, List.length_map, List.length_range] at h1 ⊢
      omega
end Go.Proofs.YthmkgfdglkdjmadGreatDoor

namespace Go.Proofs.YthmkgfdglkdjmadGreatDoor
open Go.RowKit

end Go.Proofs.YthmkgfdglkdjmadGreatDoor

namespace Go.Proofs.YthmkgfdglkdjmadGreatDoor
open Go.RowKit

set_option maxHeartbeats 4000000 in
set_option maxRecDepth 100000 in
theorem sameDeeds_calls (D : List Deed3) (ab : Option Addr) (an ac : Nat) (bb : Option Addr) (bn bc : Nat) (w : World) (ha : DeedsIn w ab an ac D) (hb : DeedsIn w bb bn bc D) :
    Calls Tryz.prog 18 #[.slice ab an ac, .slice bb bn bc] w fun e w' => e = .returned (.bool true) ∧ Below w.heap.size w w' := by
  obtain rfl : an = bn := by rw [ha.len, hb.len]
  have hm := Nat.le_trans ha.hdr.le ha.hdr.max
  unfold maxLen at hm
  have HA := hid ha
  have HB := hid hb
  clear ha hb
  go_enter Tryz.func18, Tryz.ntmps18
  go_wp2
  go_loopw [13] (fun i wr => ∃ k : Nat, k ≤ an ∧ i = .int .i64 k ∧ Hid (Below w.heap.size w wr)) (fun i _ => an - (intOf i).toNat)
  case atStart => exact ⟨0, Nat.zero_le _, rfl, Below.refl _ _⟩
  case round =>
    obtain ⟨k, hk, rfl, HBR⟩ := hrel
    by_cases hlt : k < an
    · rcases HA.out.run with h | ⟨b1, o1, rfl, r1⟩
      · omega
      rcases HB.out.run with h | ⟨b2, o2, rfl, r2⟩
      · omega
      obtain ⟨rb, rn, rc, wb, wn, wc, cb, cn, cc, a0, a1, a2, hda, _, _⟩ := (r1 k hlt).below HBR.out
      obtain ⟨rb', rn', rc', wb', wn', wc', cb', cn', cc', c0, c1, c2, hdb, _, _⟩ := (r2 k hlt).below HBR.out
      clear r1 r2
      have hi : (k : Int) < (an : Int) := by omega
      have hb1 : b1 < wr.heap.size := by simpa using World.block_lt_of_cell? _ _ a0
      have hb2 : b2 < wr.heap.size := by simpa using World.block_lt_of_cell? _ _ c0
      have HDA := hid hda
      have HDB := hid hdb
      clear hda hdb
      have HK : Hid (∀ w', Below wr.heap.size wr w' → (w'.cell? ⟨b1, o1 + k * 3, none⟩ = some (.slice rb rn rc) ∧ w'.cell? ⟨b1, o1 + k * 3 + 1, none⟩ = some (.slice wb wn wc) ∧ w'.cell? ⟨b1, o1 + k * 3 + 2, none⟩ = some (.slice cb cn cc) ∧ w'.cell? ⟨b2, o2 + k * 3, none⟩ = some (.slice rb' rn' rc') ∧ w'.cell? ⟨b2, o2 + k * 3 + 1, none⟩ = some (.slice wb' wn' wc') ∧ w'.cell? ⟨b2, o2 + k * 3 + 2, none⟩ = some (.slice cb' cn' cc') ∧ Below wr.heap.size wr w')) := fun w' hb => ⟨kept_cell hb a0, kept_cell hb a1, kept_cell hb a2, kept_cell hb c0, kept_cell hb c1, kept_cell hb c2, hb⟩
      have HSD := hid (fun W hA hB => refSameDeed_calls (D.getD k default).1 (D.getD k default).2.1 (D.getD k default).2.2 (D.getD k default).1 (D.getD k default).2.1 (D.getD k default).2.2 rb rn rc wb wn wc cb cn cc rb' rn' rc' wb' wn' wc' cb' cn' cc' W hA hB)
      simp only [decide_true, Bool.and_true] at HSD
      clear a0 a1 a2 c0 c1 c2
      go_wp2
      go_region_held3 (fun w' => w'.cell? ⟨b1, o1 + k * 3, none⟩ = some (.slice rb rn rc) ∧ w'.cell? ⟨b1, o1 + k * 3 + 1, none⟩ = some (.slice wb wn wc) ∧ w'.cell? ⟨b1, o1 + k * 3 + 2, none⟩ = some (.slice cb cn cc) ∧ w'.cell? ⟨b2, o2 + k * 3, none⟩ = some (.slice rb' rn' rc') ∧ w'.cell? ⟨b2, o2 + k * 3 + 1, none⟩ = some (.slice wb' wn' wc') ∧ w'.cell? ⟨b2, o2 + k * 3 + 2, none⟩ = some (.slice cb' cn' cc') ∧ Below wr.heap.size wr w')
        (first
          | exact HK.out _ (step_drew (Below.refl _ _))
          | exact HK.out _ (by assumption))
        (first
          | (go_at_call 42; refine (HSD.out _ ?_ ?_).mono ?_; (exact HDA.out.below (hold6 (by assumption))); (exact HDB.out.below (hold6 (by assumption))); rintro e w1 ⟨rfl, hb1'⟩; have hbb := below_deep (step_drew (Below.refl wr.heap.size wr)) hb1'))
      have HB3 := hid (below_deep HBR.out hbb)
      clear hbb hb1' HK HSD
      go_wp2
      go_roundw
      case rel => exact ⟨k + 1, by omega, by go_num, HB3⟩
      case measure => simp [intOf]; omega
    · go_wp2
      go_ret
      exact ⟨rfl, HBR.out⟩

end Go.Proofs.YthmkgfdglkdjmadGreatDoor

namespace Go.Proofs.YthmkgfdglkdjmadGreatDoor
open Go.RowKit

set_option maxHeartbeats 4000000 in
set_option maxRecDepth 100000 in
theorem sameEnts_calls (L : List Ent) (ab : Option Addr) (an ac : Nat) (bb : Option Addr) (bn bc : Nat) (w : World) (ha : EntsIn w ab an ac L) (hb : EntsIn w bb bn bc L) :
    Calls Tryz.prog 24 #[.slice ab an ac, .slice bb bn bc] w fun e w' => e = .returned (.bool true) ∧ Below w.heap.size w w' := by
  obtain rfl : an = bn := by rw [ha.len, hb.len]
  have hm := Nat.le_trans ha.hdr.le ha.hdr.max
  unfold maxLen at hm
  have HA := hid ha
  have HB := hid hb
  clear ha hb
  go_enter Tryz.func24, Tryz.ntmps24
  go_wp2
  go_loopw [13] (fun i wr => ∃ k : Nat, k ≤ an ∧ i = .int .i64 k ∧ Hid (Below w.heap.size w wr)) (fun i _ => an - (intOf i).toNat)
  case atStart => exact ⟨0, Nat.zero_le _, rfl, Below.refl _ _⟩
  case round =>
    obtain ⟨k, hk, rfl, HBR⟩ := hrel
    by_cases hlt : k < an
    · rcases HA.out.run with h | ⟨b1, o1, rfl, r1⟩
      · omega
      rcases HB.out.run with h | ⟨b2, o2, rfl, r2⟩
      · omega
      obtain ⟨db, dn, dc, a0, a1, hda⟩ := (r1 k hlt).below HBR.out
      obtain ⟨db', dn', dc', c0, c1, hdb⟩ := (r2 k hlt).below HBR.out
      clear r1 r2
      have hi : (k : Int) < (an : Int) := by omega
      have hb1 : b1 < wr.heap.size := by simpa using World.block_lt_of_cell? _ _ a0
      have hb2 : b2 < wr.heap.size := by simpa using World.block_lt_of_cell? _ _ c0
      have HDA := hid hda
      have HDB := hid hdb
      clear hda hdb
      generalize (L.getD k default).1 = m at *
      generalize (L.getD k default).2 = D at *
      have t : (m != m) = false := by simp
      have HK : Hid (∀ w', Below wr.heap.size wr w' → (w'.cell? ⟨b1, o1 + k * 2, none⟩ = some (.int .i64 m) ∧ w'.cell? ⟨b1, o1 + k * 2 + 1, none⟩ = some (.slice db dn dc) ∧ w'.cell? ⟨b2, o2 + k * 2, none⟩ = some (.int .i64 m) ∧ w'.cell? ⟨b2, o2 + k * 2 + 1, none⟩ = some (.slice db' dn' dc') ∧ Below wr.heap.size wr w')) := fun w' h => ⟨kept_cell h a0, kept_cell h a1, kept_cell h c0, kept_cell h c1, h⟩
      have HSD := hid (fun W hA hB => sameDeeds_calls D db dn dc db' dn' dc' W hA hB)
      clear a0 a1 c0 c1
      go_wp2
      go_region_held3 (fun w' => w'.cell? ⟨b1, o1 + k * 2, none⟩ = some (.int .i64 m) ∧ w'.cell? ⟨b1, o1 + k * 2 + 1, none⟩ = some (.slice db dn dc) ∧ w'.cell? ⟨b2, o2 + k * 2, none⟩ = some (.int .i64 m) ∧ w'.cell? ⟨b2, o2 + k * 2 + 1, none⟩ = some (.slice db' dn' dc') ∧ Below wr.heap.size wr w')
        (first
          | exact HK.out _ (step_drew (Below.refl _ _))
          | exact HK.out _ (by assumption))
        (first
          | (go_at_call 18; refine (HSD.out _ ?_ ?_).mono ?_; (exact HDA.out.below (hold4 (by assumption))); (exact HDB.out.below (hold4 (by assumption))); rintro e w1 ⟨rfl, hb1'⟩; have hbb := below_deep (step_drew (Below.refl wr.heap.size wr)) hb1'))
      have HB3 := hid (below_deep HBR.out hbb)
      clear hbb hb1' HK HSD
      go_wp2
      go_roundw
      case rel => exact ⟨k + 1, by omega, by go_num, HB3⟩
      case measure => simp [intOf]; omega
    · go_wp2
      go_ret
      exact ⟨rfl, HBR.out⟩
end Go.Proofs.YthmkgfdglkdjmadGreatDoor
