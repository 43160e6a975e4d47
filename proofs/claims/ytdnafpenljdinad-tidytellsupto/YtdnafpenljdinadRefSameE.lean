/-
  How arguments that are batches of deeds, or numbers, are read, and how many deeds there are at the most where all that is read is of a bounded bulk.
  The document's own SameChains, walked: of two lists of the same chains it answers true.
  The document's own SameInts, SameTexts, SameDeeds and SameEngine, of what is the same, walked.
-/
import Derived.Test.YtdnafpenljdinadRows
import Derived.Test.YtdnafpenljdinadOpenDeeds
import Derived.Test.YtdnafpenljdinadRefBuild
import Derived.ChangeSlices
import Derived.Test.YtdnafpenljdinadChainAt
import Derived.Test.YtdnafpenljdinadRefKeys
import Derived.Test.YtdnafpenljdinadRefNew
import Derived.Test.YtdnafpenljdinadPut
import Derived.Test.YtdnafpenljdinadEngSet
import Derived.Deep.DeepCutAuto
namespace Go.Proofs.Ytdnafpenljdinad
open Go.ChangeShapes Go.WideShapes Go.ChangeAt Go.RowKit Go.Deep Go.Joins

theorem bulk_one {H : Type} (d : DataW H) : 1 ≤ Rows.uptoBulk d := by
  cases d with
  | lit l => cases l <;> simp [Rows.uptoBulk]
  | nil => simp [Rows.uptoBulk]
  | ptr d => simp [Rows.uptoBulk]
  | slice elems spare => simp [Rows.uptoBulk]
  | agg parts => simp [Rows.uptoBulk]
  | iface t d => simp [Rows.uptoBulk]
  | map entries => simp [Rows.uptoBulk]
  | held h => simp [Rows.uptoBulk]
theorem bulk_append {H : Type} (l r : List (DataW H)) : Rows.uptoBulkAll (l ++ r) = Rows.uptoBulkAll l + Rows.uptoBulkAll r := by
  induction l with
  | nil => simp [Rows.uptoBulkAll]
  | cons x l ih => simp only [List.cons_append, Rows.uptoBulkAll, ih]; omega
theorem bulk_length {H : Type} (l : List (DataW H)) : l.length ≤ Rows.uptoBulkAll l := by
  induction l with
  | nil => simp [Rows.uptoBulkAll]
  | cons x r ih => have := bulk_one x; simp only [Rows.uptoBulkAll, List.length_cons]; omega
theorem room_bulk {H : Type} {d : DataW H} {cap : Nat} (h : Room d cap) : cap ≤ Rows.uptoBulk d := by
  rcases h with ⟨_, rfl⟩ | ⟨elems, spare, rfl, hc⟩
  · exact Nat.zero_le _
  · have h1 := bulk_length elems
    have h2 := bulk_length spare
    simp only [Rows.uptoBulk]
    omega
theorem bulk_sum {H : Type} (f : Nat → Nat) (D : Nat → DataW H) : ∀ n, (∀ i, i < n → f i ≤ Rows.uptoBulk (D i)) → ((List.range n).map f).sum ≤ Rows.uptoBulkAll ((List.range n).map D)
  | 0, _ => Nat.zero_le _
  | n + 1, h => by
    have h1 := bulk_sum f D n (fun i hi => h i (by omega))
    have h2 := h n (by omega)
    rw [List.range_succ, List.map_append, List.map_append, List.sum_append, bulk_append]
    simp only [List.map_cons, List.map_nil, List.sum_cons, List.sum_nil, Rows.uptoBulkAll]
    omega

theorem cellsDeeds1 : Try.prog.cellsOf 29 = 1 := by kernel_rfl
theorem cellsInts1 : Try.prog.cellsOf 3 = 1 := by kernel_rfl
set_option maxRecDepth 100000 in
theorem open_batches {H : Type} {enc : TypeId × Value → H} {W : World} {v : Value} {fuel : Nat} {y : DataW H × List MemPlace}
    (h : DataW.trod enc Try.prog W 0 (fun _ => true) true fuel 24 [v] = some y) :
    ∃ a len cap BS, v = .slice a len cap ∧ BatchesIn W a len cap BS ∧ manyB BS ≤ Rows.uptoBulk y.1 := by
  rcases open_slice Try.underlying24 h with ⟨hcs, hx⟩ | ⟨x, len, cap, m, n, D, Pl, hcs, _, hl, hm, hmm, hx, hcell⟩
  · simp at hcs
    subst hcs
    exact ⟨none, 0, 0, [], rfl, ⟨rfl, ⟨Nat.le_refl _, Nat.zero_le _, fun _ => rfl⟩, .inl rfl⟩, Nat.zero_le _⟩
  · simp at hcs
    subst hcs
    simp only [if_true] at hmm
    subst hmm
    have each : ∀ i, i < len → ∃ b : List Deed3, (∃ db dn dc, W.cell? (x.add i) = some (.slice db dn dc) ∧ DeedsIn W db dn dc b) ∧ b.length ≤ Rows.uptoBulk (D i) := by
      intro i hi
      obtain ⟨cs', h1, h2⟩ := hcell i (by omega)
      rw [cellsDeeds1] at h1
      obtain ⟨_, hlen, hc⟩ := World.cells?_some h1
      match cs', hlen with
      | [v0], _ =>
        obtain ⟨a, ln, cp, b, rfl, hb, hr⟩ := open_deeds h2
        have e0 := hc 0 (by omega)
        rw [add_add] at e0
        refine ⟨b, ⟨a, ln, cp, by simpa using e0, hb⟩, ?_⟩
        have h3 := room_bulk hr
        have h4 := hb.hdr.le
        have h5 := hb.len
        simp only at h3
        omega
    obtain ⟨q, hq⟩ := choose_lt each
    have hget : ∀ i, i < len → ((List.range len).map q).getD i default = q i := fun i hi => by simp [List.getD, hi]
    refine ⟨some x, len, m, (List.range len).map q, rfl, ⟨by simp, ⟨hl, hm, fun h => by cases h⟩, ?_⟩, ?_⟩
    · by_cases h0 : len = 0
      · exact .inl h0
      right
      obtain ⟨b, off, spot⟩ := x
      have hsp : spot = none := by
        obtain ⟨⟨_, _, _, h0, _⟩, _⟩ := hq 0 (by omega)
        simpa [Addr.add] using World.cell?_spot h0
      subst hsp
      refine ⟨b, off, rfl, fun i hi => ?_⟩
      rw [hget i hi]
      obtain ⟨⟨db, dn, dc, h0, h1⟩, _⟩ := hq i hi
      rw [Addr.add_lit] at h0
      exact ⟨db, dn, dc, h0, h1⟩
    · rw [hx]
      have h1 := bulk_sum (fun i => (q i).length) D len (fun i hi => (hq i hi).2)
      have h2 : manyB ((List.range len).map q) = ((List.range len).map fun i => (q i).length).sum := by unfold manyB; rw [List.map_map]; rfl
      rw [h2]
      simp only [Rows.uptoBulk]
      omega
theorem open_picks {H : Type} {enc : TypeId × Value → H} {W : World} {v : Value} {fuel : Nat} {y : DataW H × List MemPlace}
    (h : DataW.trod enc Try.prog W 0 (fun _ => true) true fuel 25 [v] = some y) :
    ∃ a len cap l, v = .slice a len cap ∧ Ints W a len cap l := by
  rcases open_ints Try.underlying25 Try.underlying3 cellsInts1 h with ⟨hcs, hx⟩ | ⟨x, len, cap, zs, hcs, _, hl, hm, hz, hx, hcell, _⟩
  · simp at hcs
    subst hcs
    exact ⟨none, 0, 0, [], rfl, ⟨rfl, ⟨Nat.le_refl _, Nat.zero_le _, fun _ => rfl⟩, .inl rfl⟩⟩
  · simp at hcs
    subst hcs
    simp only [if_true] at hz
    have hlen : (zs.take len).length = len := by rw [List.length_take]; omega
    refine ⟨some x, len, cap, zs.take len, rfl, ⟨by rw [intsC_length, hlen, Nat.mul_one], ⟨hl, hm, fun h => by cases h⟩, ?_⟩⟩
    by_cases h0 : len = 0
    · exact .inl h0
    right
    obtain ⟨b, off, spot⟩ := x
    have hsp : spot = none := by
      have := hcell 0 (by omega)
      simpa [Addr.add] using World.cell?_spot this
    subst hsp
    refine ⟨b, off, rfl, fun i u hu => ?_⟩
    have hi : i < len := by
      have := (List.getElem?_eq_some_iff.1 hu).1
      rw [intsC_length, hlen] at this
      exact this
    rw [intsC_at (by omega)] at hu
    have h1 := hcell i (by omega)
    rw [Addr.add_lit] at h1
    rw [h1, ← hu]
    congr 2
    simp [List.getD, hi]
end Go.Proofs.Ytdnafpenljdinad

namespace Go.Proofs.Ytdnafpenljdinad
open Go.RowKit

set_option maxHeartbeats 2000000 in
set_option maxRecDepth 100000 in
theorem sameChains_calls (L : List Chn) (ab : Option Addr) (an ac : Nat) (bb : Option Addr) (bn bc : Nat) (w : World) (ha : ChainsIn w ab an ac L) (hb : ChainsIn w bb bn bc L) :
    Calls Try.prog 22 #[.slice ab an ac, .slice bb bn bc] w fun e w' => e = .returned (.bool true) ∧ Below w.heap.size w w' := by
  obtain rfl : an = bn := by rw [ha.len, hb.len]
  have hm := Nat.le_trans ha.hdr.le ha.hdr.max
  unfold maxLen at hm
  have HA := hid ha
  have HB := hid hb
  clear ha hb
  have hnn : ((an : Int) != (an : Int)) = false := by simp
  go_enter Try.func22, Try.ntmps22
  go_wp2
  go_loopw [14] (fun i wr => ∃ j : Nat, j ≤ an ∧ i = .int .i64 j ∧ ∃ q, wr = w.drewN q) (fun i _ => an - (intOf i).toNat)
  case atStart => exact ⟨0, Nat.zero_le _, rfl, 0, rfl⟩
  case round =>
    obtain ⟨j, hj, rfl, q, rfl⟩ := hrel
    by_cases hlt : j < an
    · have hi : (j : Int) < (an : Int) := by omega
      rcases HA.out.run with h | ⟨b1, o1, rfl, r1⟩
      · omega
      rcases HB.out.run with h | ⟨b2, o2, rfl, r2⟩
      · omega
      obtain ⟨vb, vn, vc, c0, c1, hv, _⟩ := r1 j hlt
      obtain ⟨ub, un, uc, d0, d1, hu, _⟩ := r2 j hlt
      obtain rfl : vn = un := by rw [Vers.count hv, Vers.count hu]
      have hvm := Nat.le_trans hv.hdr.le hv.hdr.max
      unfold maxLen at hvm
      have HVC := hid (Vers.count hv)
      generalize (L.getD j default).1 = kk at *
      have HV := hid hv
      have HU := hid hu
      have e1 : (kk.toList == kk.toList) = true := by simp
      have e2 : (kk.toList != kk.toList) = false := by simp
      have e3 : ((vn : Int) != (vn : Int)) = false := by simp
      clear r1 r2 hv hu
      go_wp2
      go_quiet (fail)
      go_wp2
      go_loopw [49] (fun i wr => ∃ t : Nat, t ≤ vn ∧ i = .int .i64 t ∧ ∃ q, wr = w.drewN q) (fun i _ => vn - (intOf i).toNat)
      case atStart => exact ⟨0, Nat.zero_le _, rfl, _, rfl⟩
      case round =>
        obtain ⟨t, ht, rfl, q2, rfl⟩ := hrel
        by_cases htn : t < vn
        · have hti : (t : Int) < (vn : Int) := by omega
          have htl : t < (L.getD j default).2.length := by rw [← HVC.out]; exact htn
          rcases HV.out.run with h | ⟨b3, o3, rfl, r3⟩
          · omega
          rcases HU.out.run with h | ⟨b4, o4, rfl, r4⟩
          · omega
          obtain ⟨x0, x1, x2, x3⟩ := Vers.cells r3 htl
          obtain ⟨z0, z1, z2, z3⟩ := Vers.cells r4 htl
          clear r3 r4
          obtain ⟨y, m, h, x, hx⟩ : ∃ y m h x, (L.getD j default).2.getD t default = (y, m, h, x) := ⟨_, _, _, _, rfl⟩
          rw [hx] at x0 x1 x2 x3 z0 z1 z2 z3
          simp only [Ver.by_, Ver.made, Ver.has_, Ver.n] at x0 x1 x2 x3 z0 z1 z2 z3
          clear hx
          have t1 : (y == y) = true := by simp
          have t2 : (m == m) = true := by simp
          have t3 : (h == h) = true := by simp
          have t4 : (x == x) = true := by simp
          go_wp2
          go_quiet (fail)
          go_wp2
          go_roundw
          case rel => exact ⟨t + 1, by omega, by go_num, _, rfl⟩
          case measure => simp [intOf]; omega
        · go_wp2
          go_roundw
          case rel => exact ⟨j + 1, by omega, by go_num, _, rfl⟩
          case measure => simp [intOf]; omega
    · go_wp2
      go_ret
      exact ⟨rfl, below_drewN (Below.refl _ _) q⟩
end Go.Proofs.Ytdnafpenljdinad

namespace Go.Proofs.Ytdnafpenljdinad
open Go.RowKit

set_option maxHeartbeats 2000000 in
theorem sameInts_calls (l : List Int) (ab : Option Addr) (an ac : Nat) (bb : Option Addr) (bn bc : Nat) (w : World) (ha : Ints w ab an ac l) (hb : Ints w bb bn bc l) :
    Calls Try.prog 24 #[.slice ab an ac, .slice bb bn bc] w fun e w' => e = .returned (.bool true) ∧ Below w.heap.size w w' := by
  have h1 := Ints.count ha
  have h2 := Ints.count hb
  obtain rfl : an = bn := by omega
  have hm := Nat.le_trans ha.hdr.le ha.hdr.max
  unfold maxLen at hm
  have HN := hid h1
  have HA := hid ha
  have HB := hid hb
  clear h1 h2 ha hb
  go_enter Try.func24, Try.ntmps24
  go_wp2
  go_loopw [13] (fun i wr => ∃ k : Nat, k ≤ an ∧ i = .int .i64 k ∧ ∃ q, wr = w.drewN q) (fun i _ => an - (intOf i).toNat)
  case atStart => exact ⟨0, Nat.zero_le _, rfl, 0, rfl⟩
  case round =>
    obtain ⟨k, hk, rfl, q, rfl⟩ := hrel
    by_cases hlt : k < an
    · have hkl : k < l.length := by rw [← HN.out]; exact hlt
      rcases HA.out.run with h | ⟨b1, o1, rfl, r1⟩
      · omega
      rcases HB.out.run with h | ⟨b2, o2, rfl, r2⟩
      · omega
      have a0 := r1 k _ (intsC_at hkl)
      have c0 := r2 k _ (intsC_at hkl)
      clear r1 r2
      generalize l.getD k 0 = x at *
      have hi : (k : Int) < (an : Int) := by omega
      have t : (x != x) = false := by simp
      go_wp2
      go_quiet (fail)
      go_wp2
      go_roundw
      case rel => exact ⟨k + 1, by omega, by go_num, _, rfl⟩
      case measure => simp [intOf]; omega
    · go_wp2
      go_ret
      exact ⟨rfl, below_drewN (Below.refl _ _) q⟩

set_option maxHeartbeats 4000000 in
set_option maxRecDepth 100000 in
theorem sameDeeds_calls (D : List Deed3) (ab : Option Addr) (an ac : Nat) (bb : Option Addr) (bn bc : Nat) (w : World) (ha : DeedsIn w ab an ac D) (hb : DeedsIn w bb bn bc D) :
    Calls Try.prog 23 #[.slice ab an ac, .slice bb bn bc] w fun e w' => e = .returned (.bool true) ∧ Below w.heap.size w w' := by
  obtain rfl : an = bn := by rw [ha.len, hb.len]
  have hm := Nat.le_trans ha.hdr.le ha.hdr.max
  unfold maxLen at hm
  have HA := hid ha
  have HB := hid hb
  clear ha hb
  go_enter Try.func23, Try.ntmps23
  go_wp2
  go_loopw [13] (fun i wr => ∃ k : Nat, k ≤ an ∧ i = .int .i64 k ∧ Hid (Below w.heap.size w wr)) (fun i _ => an - (intOf i).toNat)
  case atStart => exact ⟨0, Nat.zero_le _, rfl, Below.refl _ _⟩
  case round =>
    obtain ⟨k, hk, rfl, HBR⟩ := hrel
    by_cases hlt : k < an
    · rcases HA.out.run with h | ⟨b1, o1, rfl, r1⟩
      · omega
      rcases HB.out.run with h | ⟨b2, o2, rfl, r2⟩
      · omega
      obtain ⟨rb, rn, rc, wb, wn, wc, cb, cn, cc, a0, a1, a2, hda, _, _⟩ := (r1 k hlt).below HBR.out
      obtain ⟨rb', rn', rc', wb', wn', wc', cb', cn', cc', c0, c1, c2, hdb, _, _⟩ := (r2 k hlt).below HBR.out
      clear r1 r2
      have hi : (k : Int) < (an : Int) := by omega
      have hb1 : b1 < wr.heap.size := by simpa using World.block_lt_of_cell? _ _ a0
      have hb2 : b2 < wr.heap.size := by simpa using World.block_lt_of_cell? _ _ c0
      have HDA := hid hda
      have HDB := hid hdb
      clear hda hdb
      have HK : Hid (∀ w', Below wr.heap.size wr w' → (w'.cell? ⟨b1, o1 + k * 3, none⟩ = some (.slice rb rn rc) ∧ w'.cell? ⟨b1, o1 + k * 3 + 1, none⟩ = some (.slice wb wn wc) ∧ w'.cell? ⟨b1, o1 + k * 3 + 2, none⟩ = some (.slice cb cn cc) ∧ w'.cell? ⟨b2, o2 + k * 3, none⟩ = some (.slice rb' rn' rc') ∧ w'.cell? ⟨b2, o2 + k * 3 + 1, none⟩ = some (.slice wb' wn' wc') ∧ w'.cell? ⟨b2, o2 + k * 3 + 2, none⟩ = some (.slice cb' cn' cc') ∧ Below wr.heap.size wr w')) := fun w' hb => ⟨kept_cell hb a0, kept_cell hb a1, kept_cell hb a2, kept_cell hb c0, kept_cell hb c1, kept_cell hb c2, hb⟩
      have HSD := hid (fun W hA hB => refSameDeed_calls (D.getD k default).1 (D.getD k default).2.1 (D.getD k default).2.2 (D.getD k default).1 (D.getD k default).2.1 (D.getD k default).2.2 rb rn rc wb wn wc cb cn cc rb' rn' rc' wb' wn' wc' cb' cn' cc' W hA hB)
      simp only [decide_true, Bool.and_true] at HSD
      clear a0 a1 a2 c0 c1 c2
      go_wp2
      go_region_held3 (fun w' => w'.cell? ⟨b1, o1 + k * 3, none⟩ = some (.slice rb rn rc) ∧ w'.cell? ⟨b1, o1 + k * 3 + 1, none⟩ = some (.slice wb wn wc) ∧ w'.cell? ⟨b1, o1 + k * 3 + 2, none⟩ = some (.slice cb cn cc) ∧ w'.cell? ⟨b2, o2 + k * 3, none⟩ = some (.slice rb' rn' rc') ∧ w'.cell? ⟨b2, o2 + k * 3 + 1, none⟩ = some (.slice wb' wn' wc') ∧ w'.cell? ⟨b2, o2 + k * 3 + 2, none⟩ = some (.slice cb' cn' cc') ∧ Below wr.heap.size wr w')
        (first
          | exact HK.out _ (step_drew (Below.refl _ _))
          | exact HK.out _ (by assumption))
        (first
          | (go_at_call 39; refine (HSD.out _ ?_ ?_).mono ?_; (exact HDA.out.below (hold6 (by assumption))); (exact HDB.out.below (hold6 (by assumption))); rintro e w1 ⟨rfl, hb1'⟩; have hbb := below_deep (step_drew (Below.refl wr.heap.size wr)) hb1'))
      have HB3 := hid (below_deep HBR.out hbb)
      clear hbb hb1' HK HSD
      go_wp2
      go_roundw
      case rel => exact ⟨k + 1, by omega, by go_num, HB3⟩
      case measure => simp [intOf]; omega
    · go_wp2
      go_ret
      exact ⟨rfl, HBR.out⟩

set_option maxHeartbeats 4000000 in
set_option maxRecDepth 100000 in
theorem sameEng_calls (e : Eng) (va vb : Value) (w : World) (ha : EngIn w va e) (hb : EngIn w vb e) :
    Calls Try.prog 12 #[va, vb] w fun x w' => x = .returned (.bool true) ∧ Below w.heap.size w w' := by
  obtain ⟨cb, cn, cc, db, dn, dc, sb, sn, sc, eb, en, ec, rfl, hl⟩ := ha
  obtain ⟨cb', cn', cc', db', dn', dc', sb', sn', sc', eb', en', ec', rfl, hl'⟩ := hb
  have HX0 := hid (Box.new w #[.slice cb cn cc, .slice db dn dc, .slice sb sn sc, .slice eb en ec, .int .i64 e.base] 32)
  have HG0 := hid (grew w (.cells #[.slice cb cn cc, .slice db dn dc, .slice sb sn sc, .slice eb en ec, .int .i64 e.base] 32))
  have HX1 := hid (Box.new (w.alloc (.cells #[.slice cb cn cc, .slice db dn dc, .slice sb sn sc, .slice eb en ec, .int .i64 e.base] 32)) #[.slice cb' cn' cc', .slice db' dn' dc', .slice sb' sn' sc', .slice eb' en' ec', .int .i64 e.base] 32)
  have HG1 := hid (grew (w.alloc (.cells #[.slice cb cn cc, .slice db dn dc, .slice sb sn sc, .slice eb en ec, .int .i64 e.base] 32)) (.cells #[.slice cb' cn' cc', .slice db' dn' dc', .slice sb' sn' sc', .slice eb' en' ec', .int .i64 e.base] 32))
  rw [World.size_alloc] at HX1
  have HX0' := hid (HX0.out.below HG1.out)
  have HBW := hid (below_deep HG0.out HG1.out)
  have HL := hid (hl.below HBW.out)
  have HL' := hid (hl'.below HBW.out)
  clear hl hl' HX0 HG0 HG1
  go_enter Try.func12, Try.ntmps12
  go_upto_region 1 with fail
  generalize (w.alloc (.cells #[.slice cb cn cc, .slice db dn dc, .slice sb sn sc, .slice eb en ec, .int .i64 e.base] 32)).alloc (.cells #[.slice cb' cn' cc', .slice db' dn' dc', .slice sb' sn' sc', .slice eb' en' ec', .int .i64 e.base] 32) = A at *
  obtain ⟨x0, x1, x2, x3, x4⟩ := HX0'.out.cells5
  obtain ⟨y0, y1, y2, y3, y4⟩ := HX1.out.cells5
  have hxl : w.heap.size < A.heap.size := HX0'.out.lt
  have hyl : w.heap.size + 1 < A.heap.size := HX1.out.lt
  have PC := hid (sameChains_calls e.chains cb cn cc cb' cn' cc' A HL.out.ch HL'.out.ch)
  go_wp2_with fail
  refine PC.out.mono ?_
  rintro x w1 ⟨rfl, hb1⟩
  obtain ⟨x0, x1, x2, x3, x4⟩ := (HX0'.out.below hb1).cells5
  obtain ⟨y0, y1, y2, y3, y4⟩ := (HX1.out.below hb1).cells5
  have HB1 := hid hb1
  have PD := hid (sameDeeds_calls e.deeds db dn dc db' dn' dc' w1 (HL.out.below hb1).de (HL'.out.below hb1).de)
  clear hb1 PC
  go_wp2_with fail
  refine PD.out.mono ?_
  rintro x w2 ⟨rfl, hb2⟩
  have HB2 := hid (below_deep HB1.out hb2)
  obtain ⟨x0, x1, x2, x3, x4⟩ := (HX0'.out.below HB2.out).cells5
  obtain ⟨y0, y1, y2, y3, y4⟩ := (HX1.out.below HB2.out).cells5
  have PS := hid (sameInts_calls e.state sb sn sc sb' sn' sc' w2 (HL.out.below HB2.out).st (HL'.out.below HB2.out).st)
  clear hb2 PD
  go_wp2_with fail
  refine PS.out.mono ?_
  rintro x w3 ⟨rfl, hb3⟩
  have HB3 := hid (below_deep HB2.out hb3)
  obtain ⟨x0, x1, x2, x3, x4⟩ := (HX0'.out.below HB3.out).cells5
  obtain ⟨y0, y1, y2, y3, y4⟩ := (HX1.out.below HB3.out).cells5
  have PE := hid (sameEnds_calls e.ends eb en ec eb' en' ec' w3 (HL.out.below HB3.out).en (HL'.out.below HB3.out).en)
  clear hb3 PS
  go_wp2_with fail
  refine PE.out.mono ?_
  rintro x w4 ⟨rfl, hb4⟩
  have HB4 := hid (below_deep HB3.out hb4)
  obtain ⟨x0, x1, x2, x3, x4⟩ := (HX0'.out.below HB4.out).cells5
  obtain ⟨y0, y1, y2, y3, y4⟩ := (HX1.out.below HB4.out).cells5
  clear hb4 PE
  generalize e.base = bs at *
  have t : (bs == bs) = true := by simp
  go_wp2
  go_ret
  exact ⟨rfl, below_deep HBW.out HB4.out⟩
end Go.Proofs.Ytdnafpenljdinad
