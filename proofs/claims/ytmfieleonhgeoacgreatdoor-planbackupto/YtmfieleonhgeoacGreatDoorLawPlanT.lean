/-
  Needs of the program's plans, walked.
  The document's own SameChains, walked: of two lists of the same chains it answers true.
  The document's own SameInts, SameTexts, SameDeeds and SameEngine, of what is the same, walked.
  Wrong of the program tells the first thing that is wrong with any rows.
  The closed fact that the statements of chapter 1 ask first is so.
  SameRows of the document's answer tells whether two lists of rows are one.
  The walk of the statement RowsApart: the call returns true and changes nothing that was there.
  The walk of the statement RowsTells: the call returns true and changes nothing that was there.
  The walk of the statement PlanTells: the call returns true and changes nothing that was there.
-/
import Derived.Test.YtmfieleonhgeoacGreatDoorPlanKeys
import Derived.Test.YtmfieleonhgeoacGreatDoorChainAt
import Derived.Test.YtmfieleonhgeoacGreatDoorRefKeys
import Derived.Test.YtmfieleonhgeoacGreatDoorRefNew
import Derived.Test.YtmfieleonhgeoacGreatDoorRefPut
import Derived.Test.YtmfieleonhgeoacGreatDoorEngSet
import Derived.Deep.DeepCutAuto
import Derived.Test.YtmfieleonhgeoacGreatDoorLies
import Derived.BigQuiet
import Derived.Deep.QuietTactic
import Derived.Test.YtmfieleonhgeoacGreatDoorChecked
import Derived.WalkKit
import Derived.WalkSpells
import Derived.WalkLawsBesides
import Derived.Below
import Derived.LoopTactic
import Derived.Outline
import Derived.Test.YtmfieleonhgeoacGreatDoorRef
import Derived.Test.YtmfieleonhgeoacGreatDoorRefBuild
import Derived.Test.YtmfieleonhgeoacGreatDoorPlanAddE
namespace Go.Proofs.YtmfieleonhgeoacGreatDoor
open Go.RowKit Go.Shelf

theorem four_end {wr w2 : World} {blk : Nat} {y0 y : Int} {m0 h0 mm hh : Bool} {x0 n2 : Int} (h : Four w2 blk y0 m0 h0 x0) (hb : Below wr.heap.size wr w2) (hB : wr.heap.size ≤ blk) :
    Four ((((w2.setCell ⟨blk, 0, none⟩ (.int .i64 y)).setCell ⟨blk, 1, none⟩ (.bool mm)).setCell ⟨blk, 2, none⟩ (.bool hh)).setCell ⟨blk, 3, none⟩ (.int .i64 n2)) blk y mm hh n2 ∧ Below wr.heap.size wr ((((w2.setCell ⟨blk, 0, none⟩ (.int .i64 y)).setCell ⟨blk, 1, none⟩ (.bool mm)).setCell ⟨blk, 2, none⟩ (.bool hh)).setCell ⟨blk, 3, none⟩ (.int .i64 n2)) :=
  ⟨h.put y mm hh n2, four_below hb hB⟩

set_option maxHeartbeats 16000000 in
set_option maxRecDepth 100000 in
theorem planNeeds_calls {r0 : List Row} {D : List Deed3} {m : Nat} {dq : Nat → Bool} {bq : ByteArray → Int} {e : Eng} (G : Good r0 D m dq bq e) (hD : D.length ≤ 4000000) (p : Nat) (hp : m + p < D.length) (v : Value) (w : World) (hv : EngIn w v e) :
    Calls Tryz.prog 11 #[v, .int .i64 p] w fun x w' => IntsTold w w' (ints (needsE e p)) x := by
  obtain ⟨cb, cn, cc, db, dn, dc, sb, sn, sc, eb, en, ec, rfl, hl⟩ := hv
  have hle := G.le
  have hpl : p < e.deeds.length := by rw [G.len]; omega
  have hpn : p < dn := by rw [hl.de.len]; exact hpl
  have hz0 : 0 ≤ e.base := by rw [G.base]; omega
  have hz1 : e.base ≤ 4000000 := by rw [G.base]; omega
  have hp1 : p ≤ 4000000 := by omega
  have hpi : (p : Int) < (dn : Int) := by omega
  have hRD : RightDD (e.deeds.getD p default) := by rw [G.deed]; exact rights_at G.right hp
  have HFIT := hid (G.fit hD)
  have HRD := hid hRD
  have HKL := hid (keysD_len hRD)
  have HSEEN : Hid (∀ k, (before e.chains k (e.base + p)).made = false → 0 ≤ (before e.chains k (e.base + p)).by_ ∧ (before e.chains k (e.base + p)).by_ ≤ 4000000) := fun k hm => by
    have hs := G.seen (n := p) (by omega) k
    rw [← G.at_] at hs
    obtain ⟨i, _, h2, _, _, hv⟩ := hs.no hm
    rw [hv]
    show 0 ≤ (i : Int) ∧ (i : Int) ≤ 4000000
    omega
  have HFIN := hid (needs_prog G hp)
  have HBX := hid (Box.new w #[.slice cb cn cc, .slice db dn dc, .slice sb sn sc, .slice eb en ec, .int .i64 e.base] 33)
  have HBA := hid (grew w (.cells #[.slice cb cn cc, .slice db dn dc, .slice sb sn sc, .slice eb en ec, .int .i64 e.base] 33))
  have HL := hid (hl.below HBA.out)
  have hdm := Nat.le_trans hl.de.hdr.le hl.de.hdr.max
  unfold maxLen at hdm
  have HNK : Hid (∀ k, needK e p k = if (before e.chains k (e.base + p)).made = true then [] else [(before e.chains k (e.base + p)).by_ - e.base]) := fun _ => rfl
  clear G hD hp hle hl hRD hpl
  go_enter Tryz.func11, Tryz.ntmps11
  go_upto_region 1 with fail
  generalize w.alloc (.cells #[.slice cb cn cc, .slice db dn dc, .slice sb sn sc, .slice eb en ec, .int .i64 e.base] 33) = A at *
  have t1 : decide ((p : Int) < 0) = false := by simp
  have t2 : decide ((dn : Int) ≤ (p : Int)) = false := by simp; omega
  have t3 : decide (dn ≤ p) = false := by simp; omega
  have x1 := HBX.out.cells5.2.1
  have hxl : w.heap.size < A.heap.size := HBX.out.lt
  obtain ⟨b1, o1, rfl, hrun⟩ : ∃ b1 o1, db = some ⟨b1, o1, none⟩ ∧ ∀ i, i < dn → DeedHere A b1 (o1 + i * 3) (e.deeds.getD i default) := by
    rcases HL.out.de.run with h | h
    · omega
    · exact h
  obtain ⟨rb, rn, rc, wb, wn, wc, xb, xn, xc, k0, k1, k2, hdi, hs1, hs2⟩ := hrun p hpn
  have hb1 : b1 < A.heap.size := by simpa using World.block_lt_of_cell? _ _ k0
  have PK := hid (planKeys_calls (e.deeds.getD p default) rb rn rc wb wn wc xb xn xc A hdi HRD.out)
  clear hrun hdi hs1 hs2
  go_wp2_with fail
  refine PK.out.mono ?_
  rintro x w1 ⟨kb, kn, kc, rfl, hk1, hb1'⟩
  have HB1 := hid hb1'
  have HKT := hid hk1
  have HKN := hid (Texts.count hk1)
  have hkn : kn ≤ 10 := by rw [Texts.count hk1]; exact HKL.out
  clear hk1 hb1' PK k0 k1 k2 x1 t1 t2 t3 hxl
  generalize keysD (e.deeds.getD p default) = K at *
  go_wp2
  go_loopw [5, 25] (fun ov i wr => ∃ q r : Nat, q ≤ kn ∧ r ≤ q ∧ i = .int .i64 q ∧ Hid ((needP e p (K.take q)).length = r) ∧ Hid (wr.ownsRow w1.heap.size 3 1 ov r (intsC (needP e p (K.take q)))) ∧ Hid (Below w1.heap.size w1 wr)) (fun _ i _ => kn - (intOf i).toNat)
  case atStart => exact ⟨0, 0, Nat.zero_le _, Nat.le_refl _, rfl, rfl, World.ownsRow_nil _ _ _ _, Below.refl _ _⟩
  case round =>
    obtain ⟨q, r, hq, hr, rfl, HR, HO, HBR⟩ := hrel
    have HBAR := hid (below_deep HB1.out HBR.out)
    by_cases hql : q < kn
    · have hqK : q < K.length := by rw [← HKN.out]; exact hql
      have hiq : (q : Int) < (kn : Int) := by omega
      obtain ⟨b2, o2, rfl, hr2⟩ : ∃ b2 o2, kb = some ⟨b2, o2, none⟩ ∧ Run wr b2 o2 (strs K) := by
        rcases (HKT.out.below (by decide) HBR.out).run with h | h
        · omega
        · exact h
      have d0 := hr2 q _ (strs_at hqK)
      have hb2w : b2 < wr.heap.size := by simpa using World.block_lt_of_cell? _ _ d0
      have HXR := hid (HBX.out.below HBAR.out)
      have HLR := hid (HL.out.below HBAR.out)
      have hxr : w.heap.size < wr.heap.size := HXR.out.lt
      have HTK : Hid (needP e p (K.take (q + 1)) = needP e p (K.take q) ++ needK e p (K.getD q default)) := by
        show _ = _
        rw [take_snoc_getD hqK, needP_snoc]
      have HSK := hid (HSEEN.out (K.getD q default))
      have HNKq := hid (HNK.out (K.getD q default))
      have PNU := hid (fun W => number_calls6 cb cn cc (some ⟨b1, o1, none⟩) dn dc sb sn sc eb en ec e.base p W hz0 hz1 (by omega) (by omega))
      have PBE := hid (fun W hc => before_calls e.chains cb cn cc (K.getD q default) (e.base + p) W HFIT.out hc)
      clear hr2
      generalize needP e p (K.take q) = F at *
      generalize K.getD q default = k at *
      go_upto_region 7 with fail
      go_cut [8] (fun pv wx => ∃ blk y mm hh n2, pv = .pointer (some ⟨blk, 0, none⟩) ∧ Hid (before e.chains k (e.base + p) = (y, mm, hh, n2)) ∧ Hid (Four wx blk y mm hh n2) ∧ Hid (Below wr.heap.size wr wx))
      case first =>
        have HK : Hid (∀ w', Below wr.heap.size wr w' → (w'.cell? ⟨w.heap.size, 0, none⟩ = some (.slice cb cn cc) ∧ w'.cell? ⟨w.heap.size, 1, none⟩ = some (.slice (some ⟨b1, o1, none⟩) dn dc) ∧ w'.cell? ⟨w.heap.size, 2, none⟩ = some (.slice sb sn sc) ∧ w'.cell? ⟨w.heap.size, 3, none⟩ = some (.slice eb en ec) ∧ w'.cell? ⟨w.heap.size, 4, none⟩ = some (.int .i64 e.base) ∧ Below wr.heap.size wr w')) := fun w' hb => ⟨(HXR.out.below hb).cell 0 _ rfl, (HXR.out.below hb).cell 1 _ rfl, (HXR.out.below hb).cell 2 _ rfl, (HXR.out.below hb).cell 3 _ rfl, (HXR.out.below hb).cell 4 _ rfl, hb⟩
        go_region_held3 (fun w' => w'.cell? ⟨w.heap.size, 0, none⟩ = some (.slice cb cn cc) ∧ w'.cell? ⟨w.heap.size, 1, none⟩ = some (.slice (some ⟨b1, o1, none⟩) dn dc) ∧ w'.cell? ⟨w.heap.size, 2, none⟩ = some (.slice sb sn sc) ∧ w'.cell? ⟨w.heap.size, 3, none⟩ = some (.slice eb en ec) ∧ w'.cell? ⟨w.heap.size, 4, none⟩ = some (.int .i64 e.base) ∧ Below wr.heap.size wr w')
          (first
            | exact HK.out _ (step_drew (Below.refl _ _))
            | exact HK.out _ (step_box (hold5 (by assumption)) _)
            | exact HK.out _ (by assumption)
            | exact HK.out _ (step_box (by assumption) _)
            | exact HK.out _ (four_below (hold5 (by assumption)) (by omega))
            | exact HK.out _ (four_below (step_box (hold5 (by assumption)) _) (by omega)))
          (first
            | (go_at_call 27; refine (PBE.out _ (HLR.out.ch.below (hold5 (by assumption)))).mono ?_; rintro x w3 ⟨y, mm, hh, n2, hbf, rfl, hb3⟩; have hb3' := below_deep (hold5 (by assumption)) hb3; have hsz3 := hb3'.size; (first | (have FF : Four w3 wr.heap.size 0 false false 0 := ((Four.box wr.drew 0 false false 0 64).below hb2).below hb3; have FR : Free4 w3 wr.heap.size := ((Free4.box wr.drew _ _).below hb2 (by show _ < (wr.drew.alloc _).heap.size; rw [World.size_alloc]; exact Nat.lt_succ_self _)).below hb3 ((Four.box wr.drew 0 false false 0 64).below hb2).lt; obtain ⟨g0, g1, g2, g3⟩ := FF; obtain ⟨e0, e1, e2, e3⟩ := FR; have hbl : wr.heap.size < w3.heap.size := by simpa using World.block_lt_of_cell? _ _ g0) | (have FF := (Four.box w2 0 false false 0 64).below hb3; have FR := (Free4.box w2 #[.int .i64 0, .bool false, .bool false, .int .i64 0] 64).below hb3 (by rw [World.size_alloc]; exact Nat.lt_succ_self _); have hsz2 := hb2'.size; obtain ⟨g0, g1, g2, g3⟩ := FF; obtain ⟨e0, e1, e2, e3⟩ := FR; have hbl : w2.heap.size < w3.heap.size := by simpa using World.block_lt_of_cell? _ _ g0) | skip))
            | (go_at_call 28; refine (PNU.out _).mono ?_; rintro x w2 ⟨rfl, hb2⟩; have hb2' := below_deep (hold5 (by assumption)) hb2))
        all_goals go_wp2
        all_goals go_meet
        all_goals first
          | exact ⟨_, y, mm, hh, n2, rfl, hbf, Four.box w3 y mm hh n2 _, step_box hb3' _⟩
          | exact ⟨_, y, mm, hh, n2, rfl, hbf, (four_end ⟨g0, g1, g2, g3⟩ hb3' (by omega)).1, (four_end ⟨g0, g1, g2, g3⟩ hb3' (by omega)).2⟩
      case rest =>
        obtain ⟨blk, y, mm, hh, n2, rfl, HBF, HFO, HBC⟩ := hcut
        have HB3 := hid (below_deep HBR.out HBC.out)
        have HO3 := hid (owns_keep HO.out HBC.out)
        have e4 := (HXR.out.below HBC.out).cell 4 _ rfl
        have hxc : w.heap.size < wc.heap.size := (HXR.out.below HBC.out).lt
        obtain ⟨g0, g1, g2, g3⟩ := HFO.out
        have hbc : blk < wc.heap.size := HFO.out.lt
        clear d0 PNU PBE
        rw [HBF.out] at HSK HNKq
        simp only [Ver.made, Ver.by_] at HSK HNKq
        cases mm with
        | true =>
          have HTK2 : Hid (needP e p (K.take (q + 1)) = F) := by show _ = _; rw [HTK.out, HNKq.out]; simp
          go_wp2
          go_roundw
          case rel => exact ⟨q + 1, r, by omega, by omega, by go_num, (by show _ = _; rw [HTK2.out]; exact HR.out), (by rw [HTK2.out]; exact HO3), HB3⟩
          case measure => simp [intOf]; omega
        | false =>
          have hy := HSK.out rfl
          have hsub : IntKind.i64.wrap (y - e.base) = y - e.base := by rw [IntKind.wrap_i64]; omega
          have HTK2 : Hid (needP e p (K.take (q + 1)) = F ++ [y - e.base]) := by show _ = _; rw [HTK.out, HNKq.out]; simp
          have HC1 := hid (lies_one wc #[.int .i64 (y - e.base)] 3 1 rfl)
          have HOA := hid (HO3.out.alloc (.cells #[.int .i64 (y - e.base)] 3))
          have HBY : Hid ((r + 1) * 8 ≤ 140737488355328) := by show _ ≤ _; omega
          have HSZ := hid (step_box HB3.out (.cells #[.int .i64 (y - e.base)] 3))
          go_wp2_with (at_builtin; refine wpList_onto _ rfl _ _ 25 3 1 8 _ Tryz.underlying25 intInfo rfl (by decide) (by decide) rfl w1.heap.size _ r _ rfl HOA.out _ 1 _ _ rfl HC1.out (intsC_one [y - e.base]) HBY.out HSZ.out.size ?_)
          intro v5 w5 hown5 hg5
          have HB5 := hid (step_row HSZ.out HOA.out hg5)
          have HO5 : Hid (w5.ownsRow w1.heap.size 3 1 v5 (r + 1) (intsC (F ++ [y - e.base]))) := by
            show World.ownsRow _ _ _ _ _ _ _
            rw [intsC_append]; exact hown5
          clear hown5 hg5
          go_wp2
          go_roundw
          case rel => exact ⟨q + 1, r + 1, by omega, by omega, by go_num, (by show _ = _; rw [HTK2.out, List.length_append, HR.out]; rfl), (by rw [HTK2.out]; exact HO5), HB5⟩
          case measure => simp [intOf]; omega
    · obtain rfl : q = kn := by omega
      rw [List.take_of_length_le (by rw [← HKN.out]; exact Nat.le_refl _)] at HO HR
      generalize needP e p K = F at *
      by_cases hr0 : r = 0
      · subst hr0
        have hF : F = [] := List.eq_nil_of_length_eq_zero HR.out
        subst hF
        obtain ⟨ob, oc, rfl, hol⟩ := Lies.owned HO.out
        have HOL : Hid (Ints wr ob 0 oc (ints (needsE e p))) := by
          have hn : ints (needsE e p) = [] := by
            have := HFIN.out.symm
            simpa [Lib.compact, Lib.compactUpTo] using this
          show Lies _ _ _ _ _ _
          rw [hn]; exact hol
        have PS := hid (Any.slices_Sort_int_none lays189 ob oc wr)
        have PC := hid (Any.slices_Compact_int_empty laysB20 ob oc wr)
        clear hol
        go_wp2_with fail
        refine PS.out.mono ?_
        rintro x w5 ⟨rfl, rfl⟩
        go_wp2_with fail
        refine PC.out.mono ?_
        rintro x w6 ⟨rfl, rfl⟩
        go_wp2
        go_ret
        exact ⟨_, _, _, rfl, HOL.out, below_deep HBA.out HBAR.out⟩
      · obtain ⟨g, gc, hve⟩ : ∃ g gc, u5 = .slice (some ⟨g, 0, none⟩) r gc := by
          rcases HO.out.2 with ⟨_, h0⟩ | ⟨g, cap, cur, h', _⟩
          · omega
          · exact ⟨g, cap, h'⟩
        subst hve
        have hrr : r ≤ 4000000 := by omega
        have hgB := (HO.out.lt g rfl).1
        have PS := hid (sort_calls F w1.heap.size g r gc wr HO.out hrr)
        clear hr0
        go_wp2_with fail
        refine PS.out.mono ?_
        rintro x w5 ⟨rfl, hown5, hg5⟩
        have HB5 := hid (HBR.out.grown hg5 HBR.out.size (fun a ha => by cases ha; exact hgB))
        have PC := hid (compact_calls _ w1.heap.size g r gc w5 hown5 hrr)
        rw [HFIN.out] at PC
        clear hown5 hg5 PS
        generalize (ints (needsE e p)).length = nl at *
        go_wp2_with fail
        refine PC.out.mono ?_
        rintro x w6 ⟨rfl, hown6, hb6⟩
        obtain ⟨ob, oc, hoe, hol⟩ := Lies.owned hown6
        simp only [Value.slice.injEq, true_and] at hoe
        obtain ⟨e1, e2⟩ := hoe
        have HOL : Hid (Ints w6 (some ⟨g, 0, none⟩) nl gc (ints (needsE e p))) := by
          show Lies _ _ _ _ _ _
          rw [e1, e2]; exact hol
        have HB6 := hid (hb6 _ HB5.out)
        clear hown6 hb6 hol e1 e2
        go_wp2
        go_ret
        exact ⟨_, _, _, rfl, HOL.out, below_deep HBA.out (below_deep HB1.out HB6.out)⟩
end Go.Proofs.YtmfieleonhgeoacGreatDoor

namespace Go.Proofs.YtmfieleonhgeoacGreatDoor
open Go.RowKit

end Go.Proofs.YtmfieleonhgeoacGreatDoor

namespace Go.Proofs.YtmfieleonhgeoacGreatDoor
open Go.RowKit

set_option maxHeartbeats 2000000 in
theorem sameInts_calls (l : List Int) (ab : Option Addr) (an ac : Nat) (bb : Option Addr) (bn bc : Nat) (w : World) (ha : Ints w ab an ac l) (hb : Ints w bb bn bc l) :
    Calls Tryz.prog 10 #[.slice ab an ac, .slice bb bn bc] w fun e w' => e = .returned (.bool true) ∧ Below w.heap.size w w' := by
  have h1 := Ints.count ha
  have h2 := Ints.count hb
  obtain rfl : an = bn := by omega
  have hm := Nat.le_trans ha.hdr.le ha.hdr.max
  unfold maxLen at hm
  have HN := hid h1
  have HA := hid ha
  have HB := hid hb
  clear h1 h2 ha hb
  go_enter Tryz.func10, Tryz.ntmps10
  go_wp2
  go_loopw [13] (fun i wr => ∃ k : Nat, k ≤ an ∧ i = .int .i64 k ∧ ∃ q, wr = w.drewN q) (fun i _ => an - (intOf i).toNat)
  case atStart => exact ⟨0, Nat.zero_le _, rfl, 0, rfl⟩
  case round =>
    obtain ⟨k, hk, rfl, q, rfl⟩ := hrel
    by_cases hlt : k < an
    · have hkl : k < l.length := by rw [← HN.out]; exact hlt
      rcases HA.out.run with h | ⟨b1, o1, rfl, r1⟩
      · omega
      rcases HB.out.run with h | ⟨b2, o2, rfl, r2⟩
      · omega
      have a0 := r1 k _ (intsC_at hkl)
      have c0 := r2 k _ (intsC_at hkl)
      clear r1 r2
      generalize l.getD k 0 = x at *
      have hi : (k : Int) < (an : Int) := by omega
      have t : (x != x) = false := by simp
      go_wp2
      go_quiet (fail)
      go_wp2
      go_roundw
      case rel => exact ⟨k + 1, by omega, by go_num, _, rfl⟩
      case measure => simp [intOf]; omega
    · go_wp2
      go_ret
      exact ⟨rfl, below_drewN (Below.refl _ _) q⟩

end Go.Proofs.YtmfieleonhgeoacGreatDoor

namespace Go.Proofs.YtmfieleonhgeoacGreatDoor
open Go.RowKit

end Go.Proofs.YtmfieleonhgeoacGreatDoor

namespace Go.Proofs.YtmfieleonhgeoacGreatDoor
open Go.RowKit

/-- The keys a, b and abc. -/
def kA : ByteArray := ⟨#[97]⟩
def kB : ByteArray := ⟨#[98]⟩
def kC : ByteArray := ⟨#[97, 98, 99]⟩
/-- The rows that are made. -/
def rAB : List Row := [(kA, 1), (kB, 2)]

theorem less_ab : less kA kB = true := by
  rw [less_def, ByteArray.toList_eq, ByteArray.toList_eq]; decide
theorem less_ba : less kB kA = false := less_asymm less_ab
theorem put_b : ins kB 2 [] = [(kB, 2)] := rfl
theorem put_ab : ins kA 1 [(kB, 2)] = rAB := by simp [ins, less_ab, less_ba, rAB]
theorem srt_ab : Srt rAB := by simp [Srt, rAB, less_ab]
theorem drop_ab : del kA rAB = [(kB, 2)] := by simp [del, rAB, less_irrefl]
theorem num_ab : num kB rAB = 2 := by simp [num, rAB, less_ab, less_irrefl]
theorem isAt_ab : isAt kB rAB = true := by simp [isAt, rAB, less_ab, less_irrefl]
theorem key_a : keyB kA = true := by decide
theorem key_b : keyB kB = true := by decide
theorem key_c : keyB kC = true := by decide
theorem wrong_ab : wrong rAB = 0 := by
  refine right_wrong ⟨srt_ab, fun x hx => ?_, fun x hx => ?_, fun x hx => ?_⟩ <;> (simp [rAB] at hx; rcases hx with rfl | rfl <;> first | exact key_a | exact key_b | decide)
theorem small_ab : Small rAB := fun x hx => by
  simp [rAB] at hx; rcases hx with rfl | rfl <;> decide

end Go.Proofs.YtmfieleonhgeoacGreatDoor

namespace Go.Proofs.YtmfieleonhgeoacGreatDoor
open Go.RowKit

set_option maxHeartbeats 400000 in
theorem same_calls (l : List Row) (ba bb : Option Addr) (ca cb : Nat) (w : World) (hl : l.length ≤ maxLen) (ha : Seg w ba l) (hb : Seg w bb l) :
    Calls Tryz.prog 12 #[.slice ba l.length ca, .slice bb l.length cb] w fun e w' => e = .returned (.bool true) ∧ Below w.heap.size w w' := by
  unfold maxLen at hl
  by_cases h0 : l = []
  · subst h0
    go_enter Tryz.func12, Tryz.ntmps12
    go_wp2
    go_loop [13] (fun i => i = .int .i64 0) (fun _ => 0)
    case atStart => rfl
    case round =>
      obtain rfl := hrel
      go_wp2
      go_ret
      exact ⟨rfl, Below.refl _ _⟩
  rcases ha with h | ⟨b1, o1, rfl, h1⟩
  · exact absurd h h0
  rcases hb with h | ⟨b2, o2, rfl, h2⟩
  · exact absurd h h0
  clear h0
  obtain ⟨n, hn⟩ : ∃ n, n = l.length := ⟨_, rfl⟩
  rw [← hn] at hl ⊢
  have HN : Hid (n = l.length) := hn
  clear hn
  have H1 : Hid (Cells w b1 o1 l) := h1
  have H2 : Hid (Cells w b2 o2 l) := h2
  clear h1 h2
  go_enter Tryz.func12, Tryz.ntmps12
  go_wp2
  go_loopw [13] (fun i wr => ∃ k : Nat, k ≤ n ∧ i = .int .i64 k ∧ ∃ q, wr = w.drewN q) (fun i _ => n - (intOf i).toNat)
  case atStart => exact ⟨0, Nat.zero_le _, rfl, 0, rfl⟩
  case round =>
    obtain ⟨k, hk, rfl, q, rfl⟩ := hrel
    by_cases hlt : k < n
    · obtain ⟨c1, d1⟩ := H1.out k (by rw [← HN.out]; exact hlt)
      obtain ⟨c2, d2⟩ := H2.out k (by rw [← HN.out]; exact hlt)
      generalize (l.getD k default).1 = kk at *
      generalize (l.getD k default).2 = nn at *
      have hi : (k : Int) < (n : Int) := by omega
      go_wp2
      go_quiet (fail)
      go_wp2
      go_roundw
      case rel => exact ⟨k + 1, by omega, by go_num, _, rfl⟩
      case measure => simp [intOf]; omega
    · go_wp2
      go_ret
      exact ⟨rfl, below_drewN (Below.refl _ _) q⟩
end Go.Proofs.YtmfieleonhgeoacGreatDoor

namespace Go.Proofs.YtmfieleonhgeoacGreatDoor
open Go.RowKit

theorem same_holds (l : List Row) (ba bb : Option Addr) (na nb ca cb : Nat) (w : World) (ha : Holds w ba na ca l) (hb : Holds w bb nb cb l) :
    Calls Tryz.prog 12 #[.slice ba na ca, .slice bb nb cb] w fun e w' => e = .returned (.bool true) ∧ Below w.heap.size w w' := by
  have h1 := ha.len
  have h2 := hb.len
  subst h1 h2
  exact same_calls l ba bb ca cb w (Nat.le_trans ha.hdr.le ha.hdr.max) ha.seg hb.seg

theorem ins_bound {k : ByteArray} {m : Int} {l : List Row} {n n' : Nat} (h : n = l.length) (h' : n' = (ins k m l).length) : n' ≤ n + 1 := by
  have := ins_length k m l; omega
theorem del_bound {k : ByteArray} {l : List Row} {n n' : Nat} (h : n = l.length) (h' : n' = (del k l).length) : n' ≤ n := by
  have := del_length k l; omega

end Go.Proofs.YtmfieleonhgeoacGreatDoor

namespace Go.Proofs.YtmfieleonhgeoacGreatDoor
open Go.RowKit

theorem refWrong_holds (l : List Row) (ba : Option Addr) (na ca : Nat) (w : World) (hsm : Small l) (ha : Holds w ba na ca l) :
    Calls Tryz.prog 6 #[.slice ba na ca] w fun e w' => e = .returned (.int .i64 (wrong l)) ∧ Below w.heap.size w w' := by
  have h1 := ha.len
  subst h1
  exact refWrong_calls l ba ca w (Nat.le_trans ha.hdr.le ha.hdr.max) hsm ha.seg

end Go.Proofs.YtmfieleonhgeoacGreatDoor

namespace Go.Proofs.YtmfieleonhgeoacGreatDoor
open Go.RowKit

theorem own_engTold {w w' : World} {e : Eng} {x : Ending} (h : OwnTold w w' w.heap.size e x) : EngTold w w' e x := by
  obtain ⟨cb, cn, cc, v1, v2, v3, rfl, he, hb⟩ := h
  obtain ⟨db, dc, sb, sc, eb, ec, rfl, rfl, rfl, hl⟩ := he.lies
  exact ⟨_, rfl, ⟨_, _, _, _, _, _, _, _, _, _, _, _, rfl, hl⟩, hb⟩
theorem keep15 {A w1 w2 : World} {b c d : Nat} {x0 x1 x2 x3 x4 y0 y1 y2 y3 y4 z0 z1 z2 z3 z4 : Value}
    (h : w1.cell? ⟨b, 0, none⟩ = some x0 ∧ w1.cell? ⟨b, 1, none⟩ = some x1 ∧ w1.cell? ⟨b, 2, none⟩ = some x2 ∧ w1.cell? ⟨b, 3, none⟩ = some x3 ∧ w1.cell? ⟨b, 4, none⟩ = some x4 ∧ w1.cell? ⟨c, 0, none⟩ = some y0 ∧ w1.cell? ⟨c, 1, none⟩ = some y1 ∧ w1.cell? ⟨c, 2, none⟩ = some y2 ∧ w1.cell? ⟨c, 3, none⟩ = some y3 ∧ w1.cell? ⟨c, 4, none⟩ = some y4 ∧ w1.cell? ⟨d, 0, none⟩ = some z0 ∧ w1.cell? ⟨d, 1, none⟩ = some z1 ∧ w1.cell? ⟨d, 2, none⟩ = some z2 ∧ w1.cell? ⟨d, 3, none⟩ = some z3 ∧ w1.cell? ⟨d, 4, none⟩ = some z4 ∧ Below A.heap.size A w1) (hb : Below w1.heap.size w1 w2) :
    w2.cell? ⟨b, 0, none⟩ = some x0 ∧ w2.cell? ⟨b, 1, none⟩ = some x1 ∧ w2.cell? ⟨b, 2, none⟩ = some x2 ∧ w2.cell? ⟨b, 3, none⟩ = some x3 ∧ w2.cell? ⟨b, 4, none⟩ = some x4 ∧ w2.cell? ⟨c, 0, none⟩ = some y0 ∧ w2.cell? ⟨c, 1, none⟩ = some y1 ∧ w2.cell? ⟨c, 2, none⟩ = some y2 ∧ w2.cell? ⟨c, 3, none⟩ = some y3 ∧ w2.cell? ⟨c, 4, none⟩ = some y4 ∧ w2.cell? ⟨d, 0, none⟩ = some z0 ∧ w2.cell? ⟨d, 1, none⟩ = some z1 ∧ w2.cell? ⟨d, 2, none⟩ = some z2 ∧ w2.cell? ⟨d, 3, none⟩ = some z3 ∧ w2.cell? ⟨d, 4, none⟩ = some z4 ∧ Below A.heap.size A w2 := by
  obtain ⟨h0, h1, h2, h3, h4, k0, k1, k2, k3, k4, m0, m1, m2, m3, m4, hz⟩ := h
  exact ⟨kept_cell hb h0, kept_cell hb h1, kept_cell hb h2, kept_cell hb h3, kept_cell hb h4, kept_cell hb k0, kept_cell hb k1, kept_cell hb k2, kept_cell hb k3, kept_cell hb k4, kept_cell hb m0, kept_cell hb m1, kept_cell hb m2, kept_cell hb m3, kept_cell hb m4, below_deep hz hb⟩
theorem held15 {p0 p1 p2 p3 p4 p5 p6 p7 p8 p9 q0 q1 q2 q3 q4 : Prop} {B : Nat} {A w' : World} (h : p0 ∧ p1 ∧ p2 ∧ p3 ∧ p4 ∧ p5 ∧ p6 ∧ p7 ∧ p8 ∧ p9 ∧ q0 ∧ q1 ∧ q2 ∧ q3 ∧ q4 ∧ Below B A w') : Below B A w' := h.2.2.2.2.2.2.2.2.2.2.2.2.2.2.2
theorem keep8 {A w1 w2 : World} {b c : Nat} {x0 x1 x2 x3 x4 y0 y1 y2 : Value}
    (h : w1.cell? ⟨b, 0, none⟩ = some x0 ∧ w1.cell? ⟨b, 1, none⟩ = some x1 ∧ w1.cell? ⟨b, 2, none⟩ = some x2 ∧ w1.cell? ⟨b, 3, none⟩ = some x3 ∧ w1.cell? ⟨b, 4, none⟩ = some x4 ∧ w1.cell? ⟨c, 0, none⟩ = some y0 ∧ w1.cell? ⟨c, 1, none⟩ = some y1 ∧ w1.cell? ⟨c, 2, none⟩ = some y2 ∧ Below A.heap.size A w1) (hb : Below w1.heap.size w1 w2) :
    w2.cell? ⟨b, 0, none⟩ = some x0 ∧ w2.cell? ⟨b, 1, none⟩ = some x1 ∧ w2.cell? ⟨b, 2, none⟩ = some x2 ∧ w2.cell? ⟨b, 3, none⟩ = some x3 ∧ w2.cell? ⟨b, 4, none⟩ = some x4 ∧ w2.cell? ⟨c, 0, none⟩ = some y0 ∧ w2.cell? ⟨c, 1, none⟩ = some y1 ∧ w2.cell? ⟨c, 2, none⟩ = some y2 ∧ Below A.heap.size A w2 := by
  obtain ⟨h0, h1, h2, h3, h4, k0, k1, k2, hz⟩ := h
  exact ⟨kept_cell hb h0, kept_cell hb h1, kept_cell hb h2, kept_cell hb h3, kept_cell hb h4, kept_cell hb k0, kept_cell hb k1, kept_cell hb k2, below_deep hz hb⟩
theorem held8 {p0 p1 p2 p3 p4 p5 p6 p7 : Prop} {B : Nat} {A w' : World} (h : p0 ∧ p1 ∧ p2 ∧ p3 ∧ p4 ∧ p5 ∧ p6 ∧ p7 ∧ Below B A w') : Below B A w' := h.2.2.2.2.2.2.2.2

end Go.Proofs.YtmfieleonhgeoacGreatDoor
