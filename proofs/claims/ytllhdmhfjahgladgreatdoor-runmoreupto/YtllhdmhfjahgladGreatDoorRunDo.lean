/-
  The program's Add of plans: 'behind', and Add.
  The program's Add of plans.
  Needs of the program's plans, walked.
  Where a text is first among texts, told by its place; what is written in rows of an engine that the call owns.
  What hinders a deed, and Ready, of the program's, walked.
  The closures of 'do', walked: what a key had, and what a deed sees of it.
-/
import Derived.Test.YtllhdmhfjahgladGreatDoorPlanOwn
import Derived.Test.YtllhdmhfjahgladGreatDoorPlanKeys
import Derived.Test.YtllhdmhfjahgladGreatDoorRefGoE
import Derived.Test.YtllhdmhfjahgladGreatDoorDeedRun
import Derived.Deep.DeepCutAuto
namespace Go.Proofs.YtllhdmhfjahgladGreatDoor
open Go.RowKit

theorem below_rowB {B : Nat} {w wr w6 : World} {o : Obj} {e s n : Nat} {v : Value} {xs : List Value} (h : Below B w wr) (hB : B ≤ wr.heap.size) (ho : wr.ownsRow B e s v n xs) (hg : (wr.alloc o).grownBy w6 v.ownBlock) {blk : Nat} (hb : B ≤ blk) (j : Nat) (u : Value) : Below B w (w6.setCell ⟨blk, j, none⟩ u) :=
  ((h.alloc hB o).grown hg (le_box hB) (fun k hk => (ho.lt k hk).1)).setCell (p := ⟨blk, j, none⟩) hb u
theorem box_rowB {B : Nat} {W w6 : World} {e s n b blk : Nat} {v : Value} {xs : List Value} {cs : Array Value} {t : TypeId} (hz : Box W b cs t) (ho : W.ownsRow B e s v n xs) (hne : t ≠ e) (hg : W.grownBy w6 v.ownBlock) (hb : b ≠ blk) (j : Nat) (u : Value) : Box (w6.setCell ⟨blk, j, none⟩ u) b cs t :=
  (hz.grown hg (own_ne ho hz hne)).far ⟨blk, j, none⟩ hb u
theorem below_lowerB {B C : Nat} {w w' : World} (h : Below C w w') (hBC : B ≤ C) : Below B w w' := ⟨h.os, h.tape, h.output, h.size, fun k hk => h.block k (Nat.lt_of_lt_of_le hk hBC)⟩
/-- Blocks of other types are as they were. -/
def KeepsB (w w' : World) : Prop := ∀ (b : Nat) (cs : Array Value) (t : TypeId), Box w b cs t → t ≠ 63 → t ≠ 3 → t ≠ 51 → Box w' b cs t
end Go.Proofs.YtllhdmhfjahgladGreatDoor

namespace Go.Proofs.YtllhdmhfjahgladGreatDoor
open Go.RowKit

end Go.Proofs.YtllhdmhfjahgladGreatDoor

namespace Go.Proofs.YtllhdmhfjahgladGreatDoor
open Go.RowKit Go.Shelf

theorem four_end {wr w2 : World} {blk : Nat} {y0 y : Int} {m0 h0 mm hh : Bool} {x0 n2 : Int} (h : Four w2 blk y0 m0 h0 x0) (hb : Below wr.heap.size wr w2) (hB : wr.heap.size ≤ blk) :
    Four ((((w2.setCell ⟨blk, 0, none⟩ (.int .i64 y)).setCell ⟨blk, 1, none⟩ (.bool mm)).setCell ⟨blk, 2, none⟩ (.bool hh)).setCell ⟨blk, 3, none⟩ (.int .i64 n2)) blk y mm hh n2 ∧ Below wr.heap.size wr ((((w2.setCell ⟨blk, 0, none⟩ (.int .i64 y)).setCell ⟨blk, 1, none⟩ (.bool mm)).setCell ⟨blk, 2, none⟩ (.bool hh)).setCell ⟨blk, 3, none⟩ (.int .i64 n2)) :=
  ⟨h.put y mm hh n2, four_below hb hB⟩

set_option maxHeartbeats 16000000 in
set_option maxRecDepth 100000 in
theorem planNeeds_calls {r0 : List Row} {D : List Deed3} {m : Nat} {dq : Nat → Bool} {bq : ByteArray → Int} {e : Eng} (G : Good r0 D m dq bq e) (hD : D.length ≤ 1954687338211) (p : Nat) (hp : m + p < D.length) (v : Value) (w : World) (hv : EngIn w v e) :
    Calls Tryz.prog 52 #[v, .int .i64 p] w fun x w' => IntsTold w w' (ints (needsE e p)) x := by
  obtain ⟨cb, cn, cc, db, dn, dc, sb, sn, sc, eb, en, ec, rfl, hl⟩ := hv
  have hle := G.le
  have hpl : p < e.deeds.length := by rw [G.len]; omega
  have hpn : p < dn := by rw [hl.de.len]; exact hpl
  have hz0 : 0 ≤ e.base := by rw [G.base]; omega
  have hz1 : e.base ≤ 1954687338211 := by rw [G.base]; omega
  have hp1 : p ≤ 1954687338211 := by omega
  have hpi : (p : Int) < (dn : Int) := by omega
  have hRD : RightDD (e.deeds.getD p default) := by rw [G.deed]; exact rights_at G.right hp
  have HFIT := hid (G.fit hD)
  have HRD := hid hRD
  have HKL := hid (keysD_len hRD)
  have HSEEN : Hid (∀ k, (before e.chains k (e.base + p)).made = false → 0 ≤ (before e.chains k (e.base + p)).by_ ∧ (before e.chains k (e.base + p)).by_ ≤ 1954687338211) := fun k hm => by
    have hs := G.seen (n := p) (by omega) k
    rw [← G.at_] at hs
    obtain ⟨i, _, h2, _, _, hv⟩ := hs.no hm
    rw [hv]
    show 0 ≤ (i : Int) ∧ (i : Int) ≤ 1954687338211
    omega
  have HFIN := hid (needs_prog G hp)
  have HBX := hid (Box.new w #[.slice cb cn cc, .slice db dn dc, .slice sb sn sc, .slice eb en ec, .int .i64 e.base] 33)
  have HBA := hid (grew w (.cells #[.slice cb cn cc, .slice db dn dc, .slice sb sn sc, .slice eb en ec, .int .i64 e.base] 33))
  have HL := hid (hl.below HBA.out)
  have hdm := Nat.le_trans hl.de.hdr.le hl.de.hdr.max
  unfold maxLen at hdm
  have HNK : Hid (∀ k, needK e p k = if (before e.chains k (e.base + p)).made = true then [] else [(before e.chains k (e.base + p)).by_ - e.base]) := fun _ => rfl
  clear G hD hp hle hl hRD hpl
  go_enter Tryz.func52, Tryz.ntmps52
  go_upto_region 1 with fail
  generalize w.alloc (.cells #[.slice cb cn cc, .slice db dn dc, .slice sb sn sc, .slice eb en ec, .int .i64 e.base] 33) = A at *
  have t1 : decide ((p : Int) < 0) = false := by simp
  have t2 : decide ((dn : Int) ≤ (p : Int)) = false := by simp; omega
  have t3 : decide (dn ≤ p) = false := by simp; omega
  have x1 := HBX.out.cells5.2.1
  have hxl : w.heap.size < A.heap.size := HBX.out.lt
  obtain ⟨b1, o1, rfl, hrun⟩ : ∃ b1 o1, db = some ⟨b1, o1, none⟩ ∧ ∀ i, i < dn → DeedHere A b1 (o1 + i * 3) (e.deeds.getD i default) := by
    rcases HL.out.de.run with h | h
    · omega
    · exact h
  obtain ⟨rb, rn, rc, wb, wn, wc, xb, xn, xc, k0, k1, k2, hdi, hs1, hs2⟩ := hrun p hpn
  have hb1 : b1 < A.heap.size := by simpa using World.block_lt_of_cell? _ _ k0
  have PK := hid (planKeys_calls (e.deeds.getD p default) rb rn rc wb wn wc xb xn xc A hdi HRD.out)
  clear hrun hdi hs1 hs2
  go_wp2_with fail
  refine PK.out.mono ?_
  rintro x w1 ⟨kb, kn, kc, rfl, hk1, hb1'⟩
  have HB1 := hid hb1'
  have HKT := hid hk1
  have HKN := hid (Texts.count hk1)
  have hkn : kn ≤ 10 := by rw [Texts.count hk1]; exact HKL.out
  clear hk1 hb1' PK k0 k1 k2 x1 t1 t2 t3 hxl
  generalize keysD (e.deeds.getD p default) = K at *
  go_wp2
  go_loopw [5, 25] (fun ov i wr => ∃ q r : Nat, q ≤ kn ∧ r ≤ q ∧ i = .int .i64 q ∧ Hid ((needP e p (K.take q)).length = r) ∧ Hid (wr.ownsRow w1.heap.size 3 1 ov r (intsC (needP e p (K.take q)))) ∧ Hid (Below w1.heap.size w1 wr)) (fun _ i _ => kn - (intOf i).toNat)
  case atStart => exact ⟨0, 0, Nat.zero_le _, Nat.le_refl _, rfl, rfl, World.ownsRow_nil _ _ _ _, Below.refl _ _⟩
  case round =>
    obtain ⟨q, r, hq, hr, rfl, HR, HO, HBR⟩ := hrel
    have HBAR := hid (below_deep HB1.out HBR.out)
    by_cases hql : q < kn
    · have hqK : q < K.length := by rw [← HKN.out]; exact hql
      have hiq : (q : Int) < (kn : Int) := by omega
      obtain ⟨b2, o2, rfl, hr2⟩ : ∃ b2 o2, kb = some ⟨b2, o2, none⟩ ∧ Run wr b2 o2 (strs K) := by
        rcases (HKT.out.below (by decide) HBR.out).run with h | h
        · omega
        · exact h
      have d0 := hr2 q _ (strs_at hqK)
      have hb2w : b2 < wr.heap.size := by simpa using World.block_lt_of_cell? _ _ d0
      have HXR := hid (HBX.out.below HBAR.out)
      have HLR := hid (HL.out.below HBAR.out)
      have hxr : w.heap.size < wr.heap.size := HXR.out.lt
      have HTK : Hid (needP e p (K.take (q + 1)) = needP e p (K.take q) ++ needK e p (K.getD q default)) := by
        show _ = _
        rw [take_snoc_getD hqK, needP_snoc]
      have HSK := hid (HSEEN.out (K.getD q default))
      have HNKq := hid (HNK.out (K.getD q default))
      have PNU := hid (fun W => number_calls6 cb cn cc (some ⟨b1, o1, none⟩) dn dc sb sn sc eb en ec e.base p W hz0 hz1 (by omega) (by omega))
      have PBE := hid (fun W hc => before_calls e.chains cb cn cc (K.getD q default) (e.base + p) W HFIT.out hc)
      clear hr2
      generalize needP e p (K.take q) = F at *
      generalize K.getD q default = k at *
      go_upto_region 7 with fail
      go_cut [8] (fun pv wx => ∃ blk y mm hh n2, pv = .pointer (some ⟨blk, 0, none⟩) ∧ Hid (before e.chains k (e.base + p) = (y, mm, hh, n2)) ∧ Hid (Four wx blk y mm hh n2) ∧ Hid (Below wr.heap.size wr wx))
      case first =>
        have HK : Hid (∀ w', Below wr.heap.size wr w' → (w'.cell? ⟨w.heap.size, 0, none⟩ = some (.slice cb cn cc) ∧ w'.cell? ⟨w.heap.size, 1, none⟩ = some (.slice (some ⟨b1, o1, none⟩) dn dc) ∧ w'.cell? ⟨w.heap.size, 2, none⟩ = some (.slice sb sn sc) ∧ w'.cell? ⟨w.heap.size, 3, none⟩ = some (.slice eb en ec) ∧ w'.cell? ⟨w.heap.size, 4, none⟩ = some (.int .i64 e.base) ∧ Below wr.heap.size wr w')) := fun w' hb => ⟨(HXR.out.below hb).cell 0 _ rfl, (HXR.out.below hb).cell 1 _ rfl, (HXR.out.below hb).cell 2 _ rfl, (HXR.out.below hb).cell 3 _ rfl, (HXR.out.below hb).cell 4 _ rfl, hb⟩
        go_region_held3 (fun w' => w'.cell? ⟨w.heap.size, 0, none⟩ = some (.slice cb cn cc) ∧ w'.cell? ⟨w.heap.size, 1, none⟩ = some (.slice (some ⟨b1, o1, none⟩) dn dc) ∧ w'.cell? ⟨w.heap.size, 2, none⟩ = some (.slice sb sn sc) ∧ w'.cell? ⟨w.heap.size, 3, none⟩ = some (.slice eb en ec) ∧ w'.cell? ⟨w.heap.size, 4, none⟩ = some (.int .i64 e.base) ∧ Below wr.heap.size wr w')
          (first
            | exact HK.out _ (step_drew (Below.refl _ _))
            | exact HK.out _ (step_box (hold5 (by assumption)) _)
            | exact HK.out _ (by assumption)
            | exact HK.out _ (step_box (by assumption) _)
            | exact HK.out _ (four_below (hold5 (by assumption)) (by omega))
            | exact HK.out _ (four_below (step_box (hold5 (by assumption)) _) (by omega)))
          (first
            | (go_at_call 39; refine (PBE.out _ (HLR.out.ch.below (hold5 (by assumption)))).mono ?_; rintro x w3 ⟨y, mm, hh, n2, hbf, rfl, hb3⟩; have hb3' := below_deep (hold5 (by assumption)) hb3; have hsz3 := hb3'.size; (first | (have FF : Four w3 wr.heap.size 0 false false 0 := ((Four.box wr.drew 0 false false 0 56).below hb2).below hb3; have FR : Free4 w3 wr.heap.size := ((Free4.box wr.drew _ _).below hb2 (by show _ < (wr.drew.alloc _).heap.size; rw [World.size_alloc]; exact Nat.lt_succ_self _)).below hb3 ((Four.box wr.drew 0 false false 0 56).below hb2).lt; obtain ⟨g0, g1, g2, g3⟩ := FF; obtain ⟨e0, e1, e2, e3⟩ := FR; have hbl : wr.heap.size < w3.heap.size := by simpa using World.block_lt_of_cell? _ _ g0) | (have FF := (Four.box w2 0 false false 0 56).below hb3; have FR := (Free4.box w2 #[.int .i64 0, .bool false, .bool false, .int .i64 0] 56).below hb3 (by rw [World.size_alloc]; exact Nat.lt_succ_self _); have hsz2 := hb2'.size; obtain ⟨g0, g1, g2, g3⟩ := FF; obtain ⟨e0, e1, e2, e3⟩ := FR; have hbl : w2.heap.size < w3.heap.size := by simpa using World.block_lt_of_cell? _ _ g0) | skip))
            | (go_at_call 71; refine (PNU.out _).mono ?_; rintro x w2 ⟨rfl, hb2⟩; have hb2' := below_deep (hold5 (by assumption)) hb2))
        all_goals go_wp2
        all_goals go_meet
        all_goals first
          | exact ⟨_, y, mm, hh, n2, rfl, hbf, Four.box w3 y mm hh n2 _, step_box hb3' _⟩
          | exact ⟨_, y, mm, hh, n2, rfl, hbf, (four_end ⟨g0, g1, g2, g3⟩ hb3' (by omega)).1, (four_end ⟨g0, g1, g2, g3⟩ hb3' (by omega)).2⟩
      case rest =>
        obtain ⟨blk, y, mm, hh, n2, rfl, HBF, HFO, HBC⟩ := hcut
        have HB3 := hid (below_deep HBR.out HBC.out)
        have HO3 := hid (owns_keep HO.out HBC.out)
        have e4 := (HXR.out.below HBC.out).cell 4 _ rfl
        have hxc : w.heap.size < wc.heap.size := (HXR.out.below HBC.out).lt
        obtain ⟨g0, g1, g2, g3⟩ := HFO.out
        have hbc : blk < wc.heap.size := HFO.out.lt
        clear d0 PNU PBE
        rw [HBF.out] at HSK HNKq
        simp only [Ver.made, Ver.by_] at HSK HNKq
        cases mm with
        | true =>
          have HTK2 : Hid (needP e p (K.take (q + 1)) = F) := by show _ = _; rw [HTK.out, HNKq.out]; simp
          go_wp2
          go_roundw
          case rel => exact ⟨q + 1, r, by omega, by omega, by go_num, (by show _ = _; rw [HTK2.out]; exact HR.out), (by rw [HTK2.out]; exact HO3), HB3⟩
          case measure => simp [intOf]; omega
        | false =>
          have hy := HSK.out rfl
          have hsub : IntKind.i64.wrap (y - e.base) = y - e.base := by rw [IntKind.wrap_i64]; omega
          have HTK2 : Hid (needP e p (K.take (q + 1)) = F ++ [y - e.base]) := by show _ = _; rw [HTK.out, HNKq.out]; simp
          have HC1 := hid (lies_one wc #[.int .i64 (y - e.base)] 3 1 rfl)
          have HOA := hid (HO3.out.alloc (.cells #[.int .i64 (y - e.base)] 3))
          have HBY : Hid ((r + 1) * 8 ≤ 140737488355328) := by show _ ≤ _; omega
          have HSZ := hid (step_box HB3.out (.cells #[.int .i64 (y - e.base)] 3))
          go_wp2_with (at_builtin; refine wpList_onto _ rfl _ _ 25 3 1 8 _ Tryz.underlying25 intInfo rfl (by decide) (by decide) rfl w1.heap.size _ r _ rfl HOA.out _ 1 _ _ rfl HC1.out (intsC_one [y - e.base]) HBY.out HSZ.out.size ?_)
          intro v5 w5 hown5 hg5
          have HB5 := hid (step_row HSZ.out HOA.out hg5)
          have HO5 : Hid (w5.ownsRow w1.heap.size 3 1 v5 (r + 1) (intsC (F ++ [y - e.base]))) := by
            show World.ownsRow _ _ _ _ _ _ _
            rw [intsC_append]; exact hown5
          clear hown5 hg5
          go_wp2
          go_roundw
          case rel => exact ⟨q + 1, r + 1, by omega, by omega, by go_num, (by show _ = _; rw [HTK2.out, List.length_append, HR.out]; rfl), (by rw [HTK2.out]; exact HO5), HB5⟩
          case measure => simp [intOf]; omega
    · obtain rfl : q = kn := by omega
      rw [List.take_of_length_le (by rw [← HKN.out]; exact Nat.le_refl _)] at HO HR
      generalize needP e p K = F at *
      by_cases hr0 : r = 0
      · subst hr0
        have hF : F = [] := List.eq_nil_of_length_eq_zero HR.out
        subst hF
        obtain ⟨ob, oc, rfl, hol⟩ := Lies.owned HO.out
        have HOL : Hid (Ints wr ob 0 oc (ints (needsE e p))) := by
          have hn : ints (needsE e p) = [] := by
            have := HFIN.out.symm
            simpa [Lib.compact, Lib.compactUpTo] using this
          show Lies _ _ _ _ _ _
          rw [hn]; exact hol
        have PS := hid (Any.slices_Sort_int_none lays189 ob oc wr)
        have PC := hid (Any.slices_Compact_int_empty laysB20 ob oc wr)
        clear hol
        go_wp2_with fail
        refine PS.out.mono ?_
        rintro x w5 ⟨rfl, rfl⟩
        go_wp2_with fail
        refine PC.out.mono ?_
        rintro x w6 ⟨rfl, rfl⟩
        go_wp2
        go_ret
        exact ⟨_, _, _, rfl, HOL.out, below_deep HBA.out HBAR.out⟩
      · obtain ⟨g, gc, hve⟩ : ∃ g gc, u5 = .slice (some ⟨g, 0, none⟩) r gc := by
          rcases HO.out.2 with ⟨_, h0⟩ | ⟨g, cap, cur, h', _⟩
          · omega
          · exact ⟨g, cap, h'⟩
        subst hve
        have hrr : r ≤ 4000000 := by omega
        have hgB := (HO.out.lt g rfl).1
        have PS := hid (sort_calls F w1.heap.size g r gc wr HO.out hrr)
        clear hr0
        go_wp2_with fail
        refine PS.out.mono ?_
        rintro x w5 ⟨rfl, hown5, hg5⟩
        have HB5 := hid (HBR.out.grown hg5 HBR.out.size (fun a ha => by cases ha; exact hgB))
        have PC := hid (compact_calls _ w1.heap.size g r gc w5 hown5 hrr)
        rw [HFIN.out] at PC
        clear hown5 hg5 PS
        generalize (ints (needsE e p)).length = nl at *
        go_wp2_with fail
        refine PC.out.mono ?_
        rintro x w6 ⟨rfl, hown6, hb6⟩
        obtain ⟨ob, oc, hoe, hol⟩ := Lies.owned hown6
        simp only [Value.slice.injEq, true_and] at hoe
        obtain ⟨e1, e2⟩ := hoe
        have HOL : Hid (Ints w6 (some ⟨g, 0, none⟩) nl gc (ints (needsE e p))) := by
          show Lies _ _ _ _ _ _
          rw [e1, e2]; exact hol
        have HB6 := hid (hb6 _ HB5.out)
        clear hown6 hb6 hol e1 e2
        go_wp2
        go_ret
        exact ⟨_, _, _, rfl, HOL.out, below_deep HBA.out (below_deep HB1.out HB6.out)⟩
end Go.Proofs.YtllhdmhfjahgladGreatDoor

namespace Go.Proofs.YtllhdmhfjahgladGreatDoor
open Go.RowKit

def IndexIs (l : List ByteArray) (k : ByteArray) (x : Int) : Prop := (x = -1 ∧ has l k = false) ∨ ∃ j : Nat, j < l.length ∧ x = j ∧ l.getD j default = k
theorem indexAt_calls (l : List ByteArray) (base : Option Addr) (n c : Nat) (k : ByteArray) (w : World) (ha : Texts w base n c l) :
    Calls Tryz.prog 42 #[.slice base n c, .string k] w fun e w' => (∃ x : Int, e = .returned (.int .i64 x) ∧ IndexIs l k x) ∧ w = w' := by
  have HN := hid (Texts.count ha)
  have hm := Nat.le_trans ha.hdr.le ha.hdr.max
  unfold maxLen at hm
  by_cases h0 : n = 0
  · subst h0
    have hl : l = [] := List.eq_nil_of_length_eq_zero (by have := HN.out; omega)
    subst hl
    clear ha
    go_enter Tryz.func42, Tryz.ntmps42
    go_wp2
    go_loop [8] (fun i => i = .int .i64 0) (fun _ => 0)
    case atStart => rfl
    case round =>
      obtain rfl := hrel
      go_wp2
      go_ret
      exact ⟨⟨-1, rfl, .inl ⟨rfl, rfl⟩⟩, rfl⟩
  rcases ha.run with h | ⟨b, o, rfl, h1⟩
  · exact absurd h h0
  have HC := hid h1
  clear h1 h0 ha
  go_enter Tryz.func42, Tryz.ntmps42
  go_wp2
  go_loop [8] (fun i => ∃ j : Nat, j ≤ n ∧ i = .int .i64 j ∧ Hid (has (l.take j) k = false)) (fun i => n - (intOf i).toNat)
  case atStart => exact ⟨0, Nat.zero_le _, rfl, rfl⟩
  case round =>
    obtain ⟨j, hj, rfl, HH⟩ := hrel
    by_cases hlt : j < n
    · have hjl : j < l.length := by rw [← HN.out]; exact hlt
      have HJL := hid hjl
      have c1 := HC.out j _ (strs_at hjl)
      have hi : (j : Int) < (n : Int) := by omega
      have HT := hid (has_snoc (l.take j) (l.getD j default) k)
      rw [← take_snoc_getD hjl, HH.out] at HT
      obtain ⟨x, hx0⟩ : ∃ x, l.getD j default = x := ⟨_, rfl⟩
      have HX := hid hx0
      rw [hx0] at c1 HT
      clear hx0
      by_cases hx : k = x
      · have hs := streq_true hx
        have HF : Hid (l.getD j default = k) := by show _ = _; rw [HX.out, hx]
        clear hx
        go_wp2
        go_ret
        exact ⟨⟨j, rfl, .inr ⟨j, HJL.out, rfl, HF.out⟩⟩, rfl⟩
      · have hs := streq_false hx
        have HF : Hid (has (l.take (j + 1)) k = false) := by
          show _ = _
          rw [HT.out]; simpa using fun e => hx e.symm
        clear hx
        go_wp2
        go_round
        case rel => exact ⟨j + 1, by omega, by go_num, HF⟩
        case measure => simp [intOf]; omega
    · go_wp2
      go_ret
      refine ⟨⟨-1, rfl, .inl ⟨rfl, ?_⟩⟩, rfl⟩
      have : l.take j = l := List.take_of_length_le (by rw [← HN.out]; omega)
      rw [← this, HH.out]

/-! ### One number, one end of an engine's own is written -/
theorem ownedSet_ints {W : World} {B g n c p : Nat} {S : List Int} (h : W.ownsRow B 3 1 (.slice (some ⟨g, 0, none⟩) n c) n (intsC S)) (x : Int) : W.grownBy (W.setCell ⟨g, p, none⟩ (.int .i64 x)) (Value.slice (some ⟨g, 0, none⟩) n c).ownBlock := (World.ownsRow.stored h p (.int .i64 x)).2
theorem own_setState {W : World} {B g n sc p : Nat} {cb : Option Addr} {cn cc : Nat} {v1 v3 : Value} {e : Eng} (h : EngOwn W B cb cn cc v1 (.slice (some ⟨g, 0, none⟩) n sc) v3 e) (hn : n = e.state.length) (x : Int) :
    EngOwn (W.setCell ⟨g, p, none⟩ (.int .i64 x)) B cb cn cc v1 (.slice (some ⟨g, 0, none⟩) n sc) v3 ⟨e.chains, e.deeds, e.state.set p x, e.ends, e.base⟩ := by
  subst hn
  obtain ⟨hc, ⟨T, ho, hT⟩, hst, hen⟩ := h
  have hg := ownedSet_ints (p := p) hst x
  refine ⟨hc.grown hst (by decide) (by decide) hg, ⟨T, ho.kept hg (rows_apart ho hst (by decide)), hT.grown hst (by decide) (by decide) hg⟩, ?_, hen.kept hg (rows_apart hen hst (by decide))⟩
  show World.ownsRow _ _ _ _ _ (e.state.set p x).length _
  rw [List.length_set]
  exact ints_stored hst p x
theorem five_grown {W : World} {B g n c : Nat} {xs : List Value} (h : W.ownsRow B 51 5 (.slice (some ⟨g, 0, none⟩) n c) n xs) (o : Nat) (f : Bool) (x0 x1 x2 x3 : Int) : W.grownBy (fiveAt W g o f x0 x1 x2 x3) (Value.slice (some ⟨g, 0, none⟩) n c).ownBlock := by
  have s0 := World.ownsRow.stored h o (.bool f)
  have s1 := World.ownsRow.stored s0.1 (o + 1) (.int .i64 x0)
  have s2 := World.ownsRow.stored s1.1 (o + 2) (.int .i64 x1)
  have s3 := World.ownsRow.stored s2.1 (o + 3) (.int .i64 x2)
  have s4 := World.ownsRow.stored s3.1 (o + 4) (.int .i64 x3)
  exact grown_trans (grown_trans (grown_trans (grown_trans s0.2 s1.2) s2.2) s3.2) s4.2
theorem own_setEnds {W : World} {B g n ec p : Nat} {cb : Option Addr} {cn cc : Nat} {v1 v2 : Value} {e : Eng} (h : EngOwn W B cb cn cc v1 v2 (.slice (some ⟨g, 0, none⟩) n ec) e) (hn : n = e.ends.length) (hp : p < e.ends.length) (x : End3) :
    EngOwn (fiveAt W g (p * 5) x.1 (x.2 0) (x.2 1) (x.2 2) (x.2 3)) B cb cn cc v1 v2 (.slice (some ⟨g, 0, none⟩) n ec) ⟨e.chains, e.deeds, e.state, e.ends.set p x, e.base⟩ := by
  subst hn
  obtain ⟨hc, ⟨T, ho, hT⟩, hst, hen⟩ := h
  have hg := five_grown hen (p * 5) x.1 (x.2 0) (x.2 1) (x.2 2) (x.2 3)
  refine ⟨hc.grown hen (by decide) (by decide) hg, ⟨T, ho.kept hg (rows_apart ho hen (by decide)), hT.grown hen (by decide) (by decide) hg⟩, hst.kept hg (rows_apart hst hen (by decide)), ?_⟩
  show World.ownsRow _ _ _ _ _ (e.ends.set p x).length _
  rw [List.length_set]
  exact ends_stored hen hp x
/-- An engine whose chains are others. -/
theorem EngOwn.chains {w : World} {B : Nat} {cb : Option Addr} {cn cc : Nat} {v1 v2 v3 : Value} {e : Eng} (h : EngOwn w B cb cn cc v1 v2 v3 e) {cb' : Option Addr} {cn' cc' : Nat} {L : List Chn} (hc : ChK w cb' cn' cc' L) : EngOwn w B cb' cn' cc' v1 v2 v3 ⟨L, e.deeds, e.state, e.ends, e.base⟩ := ⟨hc, h.de, h.st, h.en⟩
end Go.Proofs.YtllhdmhfjahgladGreatDoor

namespace Go.Proofs.YtllhdmhfjahgladGreatDoor
open Go.RowKit

theorem hind_ret {e : Eng} {at_ q : Int} (h : hindE e at_ = q) : Ending.returned (.int .i64 q) = .returned (.int .i64 (hindE e at_)) := by rw [h]

set_option maxHeartbeats 4000000 in
set_option maxRecDepth 100000 in
theorem hindered_calls {r0 : List Row} {D : List Deed3} {m : Nat} {dq : Nat → Bool} {bq : ByteArray → Int} {e : Eng} (G : Good r0 D m dq bq e) (hD : D.length ≤ 1954687338211) (at_ : Int) (v : Value) (w : World) (hv : EngIn w v e) :
    Calls Tryz.prog 30 #[v, .int .i64 at_] w fun x w' => x = .returned (.int .i64 (hindE e at_)) ∧ Below w.heap.size w w' := by
  obtain ⟨cb, cn, cc, db, dn, dc, sb, sn, sc, eb, en, ec, rfl, hl⟩ := hv
  have hle := G.le
  have HG := hid G
  have HDM := hid hD
  have HDL := hid hl.de.len
  have HDN : Hid (dn = D.length - m) := by show _ = _; rw [hl.de.len, G.len]
  have hdn : dn ≤ 1954687338211 := by rw [HDN.out]; omega
  obtain rfl : sn = dn := by rw [Ints.count hl.st, G.slen, ← hl.de.len]
  obtain rfl : en = sn := by rw [Ends.count hl.en, G.elen, ← hl.de.len]
  have HSC := hid (Ints.count hl.st)
  have HBX := hid (Box.new w #[.slice cb cn cc, .slice db en dc, .slice sb en sc, .slice eb en ec, .int .i64 e.base] 33)
  have HB0 := hid (grew w (.cells #[.slice cb cn cc, .slice db en dc, .slice sb en sc, .slice eb en ec, .int .i64 e.base] 33))
  have HL := hid (hl.below HB0.out)
  clear G hD hl hle
  go_enter Tryz.func30, Tryz.ntmps30
  go_upto_region 1 with fail
  generalize w.alloc (.cells #[.slice cb cn cc, .slice db en dc, .slice sb en sc, .slice eb en ec, .int .i64 e.base] 33) = A at *
  obtain ⟨x0, x1, x2, x3, x4⟩ := HBX.out.cells5
  have hxl : w.heap.size < A.heap.size := HBX.out.lt
  by_cases hneg : at_ < 0
  · have HT : Hid (hindE e at_ = 6) := by show _ = _; unfold hindE; rw [if_pos (.inl hneg)]
    have t1 : decide (at_ < 0) = true := by simpa using hneg
    clear hneg
    go_wp2
    go_ret
    exact ⟨hind_ret HT.out, HB0.out⟩
  obtain ⟨p, rfl⟩ : ∃ p : Nat, at_ = (p : Int) := ⟨at_.toNat, by omega⟩
  have t1 : decide ((p : Int) < 0) = false := by simp
  by_cases hbig : en ≤ p
  · have HT : Hid (hindE e p = 6) := by show _ = _; unfold hindE; rw [if_pos (.inr (by rw [← HDL.out]; omega))]
    have t2 : decide ((en : Int) ≤ (p : Int)) = true := by simp; omega
    have t3 : decide (en ≤ p) = true := by simp; omega
    clear hneg
    go_wp2
    go_ret
    exact ⟨hind_ret HT.out, HB0.out⟩
  have t2 : decide ((en : Int) ≤ (p : Int)) = false := by simp; omega
  have t3 : decide (en ≤ p) = false := by simp; omega
  have hpn : p < en := by omega
  have hpi : (p : Int) < (en : Int) := by omega
  have hsp : p < e.state.length := by rw [← HSC.out]; exact hpn
  obtain ⟨b1, o1, rfl, hrun⟩ : ∃ b1 o1, sb = some ⟨b1, o1, none⟩ ∧ Run A b1 o1 (intsC e.state) := by
    rcases HL.out.st.run with h | h
    · omega
    · exact h
  have k0 := hrun p _ (intsC_at hsp)
  have hb1 : b1 < A.heap.size := by simpa using World.block_lt_of_cell? _ _ k0
  have HIN : Hid (¬ ((p : Int) < 0 ∨ (e.deeds.length : Int) ≤ p)) := by show ¬ _; rw [← HDL.out]; omega
  have HTN : Hid ((p : Int).toNat = p) := Int.toNat_natCast p
  have HPD : Hid (m + p < D.length) := by show _ < _; have := HDN.out; have := HG.out.le; omega
  have HSI := hid (HG.out.state_is HPD.out)
  clear hrun hneg hbig hsp
  by_cases hdone : e.state.getD p 0 = 1
  · have HT : Hid (hindE e p = 11) := by show _ = _; unfold hindE; rw [if_neg HIN.out, HTN.out, if_pos hdone]
    rw [hdone] at k0
    clear hdone
    go_wp2
    go_ret
    exact ⟨hind_ret HT.out, HB0.out⟩
  have HND : Hid (¬ e.state.getD p 0 = 1) := hdone
  have h0 : e.state.getD p 0 = 0 := by
    have := HSI.out
    split at this
    · exact absurd this hdone
    · exact this
  rw [h0] at k0
  have PN := hid (planNeeds_calls HG.out HDM.out p HPD.out _ A ⟨_, _, _, _, _, _, _, _, _, _, _, _, rfl, HL.out⟩)
  clear hdone h0
  go_wp2_with fail
  refine PN.out.mono ?_
  rintro x w1 ⟨nb, nn, nc, rfl, hn1, hb1'⟩
  have HB1 := hid (below_deep HB0.out hb1')
  have hnn : nn = (needsE e p).length := by rw [Ints.count hn1]; simp [ints]
  have hnm := Nat.le_trans hn1.hdr.le hn1.hdr.max
  unfold maxLen at hnm
  have HNN := hid hnn
  clear hn1 hb1' PN hnn k0 x0 x1 x2 x3 x4 hxl hb1
  by_cases hw : 0 < nn
  · have hne : needsE e p ≠ [] := fun h => by rw [HNN.out, h] at hw; cases hw
    have HT : Hid (hindE e p = 10) := by show _ = _; unfold hindE; rw [if_neg HIN.out, HTN.out, if_neg HND.out, if_pos hne]
    have t4 : decide (0 < (nn : Int)) = true := by simp; omega
    clear hne
    go_wp2
    go_ret
    exact ⟨hind_ret HT.out, HB1.out⟩
  have hn0 : needsE e p = [] := List.eq_nil_of_length_eq_zero (by rw [← HNN.out]; omega)
  have HT : Hid (hindE e p = 0) := by show _ = _; unfold hindE; rw [if_neg HIN.out, HTN.out, if_neg HND.out, if_neg (by rw [hn0]; simp)]
  obtain rfl : nn = 0 := by omega
  clear hw hn0
  go_wp2
  go_ret
  exact ⟨hind_ret HT.out, HB1.out⟩

set_option maxHeartbeats 8000000 in
set_option maxRecDepth 100000 in
theorem runReady_calls {r0 : List Row} {D : List Deed3} {m : Nat} {dq : Nat → Bool} {bq : ByteArray → Int} {e : Eng} (G : Good r0 D m dq bq e) (hD : D.length ≤ 1954687338211) (v : Value) (w : World) (hv : EngIn w v e) :
    Calls Tryz.prog 15 #[v] w fun x w' => IntsTold w w' (ints (readyE e)) x := by
  obtain ⟨cb, cn, cc, db, dn, dc, sb, sn, sc, eb, en, ec, rfl, hl⟩ := hv
  have HDL := hid hl.de.len
  have hdn : dn ≤ 1954687338211 := by rw [hl.de.len, G.len]; omega
  have HHI := hid (fun (p : Int) v w hv => hindered_calls G hD p v w hv)
  have HBX := hid (Box.new w #[.slice cb cn cc, .slice db dn dc, .slice sb sn sc, .slice eb en ec, .int .i64 e.base] 33)
  have HBA := hid (grew w (.cells #[.slice cb cn cc, .slice db dn dc, .slice sb sn sc, .slice eb en ec, .int .i64 e.base] 33))
  have HL := hid (hl.below HBA.out)
  have HFIN := hid (ready_to G)
  clear G hD hl
  go_enter Tryz.func15, Tryz.ntmps15
  go_wp2
  generalize w.alloc (.cells #[.slice cb cn cc, .slice db dn dc, .slice sb sn sc, .slice eb en ec, .int .i64 e.base] 33) = A at *
  go_loopw [3, 8] (fun ov i wr => ∃ j r : Nat, j ≤ dn ∧ r ≤ j ∧ i = .int .i64 j ∧ Hid ((readyTo e j).length = r) ∧ Hid (wr.ownsRow A.heap.size 3 1 ov r (intsC (ints (readyTo e j)))) ∧ Hid (Below A.heap.size A wr)) (fun _ i _ => dn - (intOf i).toNat)
  case atStart => exact ⟨0, 0, Nat.zero_le _, Nat.le_refl _, rfl, rfl, World.ownsRow_nil _ _ _ _, Below.refl _ _⟩
  case round =>
    obtain ⟨j, r, hj, hr, rfl, HR, HO, HBR⟩ := hrel
    by_cases hlt : j < dn
    · have hi : (j : Int) < (dn : Int) := by omega
      obtain ⟨c0, c1, c2, c3, c4⟩ := (HBX.out.below HBR.out).cells5
      have hlw : w.heap.size < wr.heap.size := (HBX.out.below HBR.out).lt
      have HTS := hid (readyTo_succ e j)
      have HND := hid (HHI.out j _ wr ⟨cb, cn, cc, db, dn, dc, sb, sn, sc, eb, en, ec, rfl, HL.out.below HBR.out⟩)
      generalize readyTo e j = F at *
      generalize hindE e (j : Int) = q at *
      go_wp2_with fail
      refine HND.out.mono ?_
      rintro x w1 ⟨rfl, hb1⟩
      have HB1 := hid (below_deep HBR.out hb1)
      have HO1 := hid (owns_keep HO.out hb1)
      clear hb1 HND c0 c1 c2 c3 c4 hlw
      by_cases h0 : q = 0
      · have HFJ : Hid (readyTo e (j + 1) = F ++ [j]) := by show _ = _; rw [HTS.out, if_pos h0]
        subst h0
        have HC1 := hid (lies_one w1 #[.int .i64 (j : Int)] 3 1 rfl)
        have HOX := hid (HO1.out.alloc (.cells #[.int .i64 (j : Int)] 3))
        have HBX2 := hid (step_box HB1.out (.cells #[.int .i64 (j : Int)] 3))
        have HBY : Hid ((r + 1) * 8 ≤ 140737488355328) := by show _ ≤ _; omega
        have HSZ := hid HBX2.out.size
        go_wp2_with (at_builtin; refine wpList_onto _ rfl _ _ 25 3 1 8 _ Tryz.underlying25 intInfo rfl (by decide) (by decide) rfl A.heap.size _ r _ rfl HOX.out _ 1 _ _ rfl HC1.out (intsC_one [(j : Int)]) HBY.out HSZ.out ?_)
        intro v3 w3 hown3 hg3
        have HB3 := hid (step_row HBX2.out HOX.out hg3)
        have HO3 : Hid (w3.ownsRow A.heap.size 3 1 v3 (r + 1) (intsC (ints (F ++ [j])))) := by
          show World.ownsRow _ _ _ _ _ _ _
          rw [ints_snoc, intsC_append]; exact hown3
        clear hown3 hg3
        go_wp2
        go_roundw
        case rel => exact ⟨j + 1, r + 1, by omega, by omega, by go_num, (by show _ = _; rw [HFJ.out, List.length_append, HR.out]; rfl), (by rw [HFJ.out]; exact HO3), HB3⟩
        case measure => simp [intOf]; omega
      · have t : (q == 0) = false := by simpa using h0
        have HFJ : Hid (readyTo e (j + 1) = F) := by show _ = _; rw [HTS.out, if_neg h0, List.append_nil]
        clear h0
        go_wp2
        go_roundw
        case rel => exact ⟨j + 1, r, by omega, by omega, by go_num, (by show _ = _; rw [HFJ.out]; exact HR.out), (by rw [HFJ.out]; exact HO1), HB1⟩
        case measure => simp [intOf]; omega
    · obtain rfl : j = dn := by omega
      rw [HDL.out, HFIN.out] at HO
      obtain ⟨ob, oc, rfl, hol⟩ := Lies.owned HO.out
      have HOL : Hid (Ints wr ob r oc (ints (readyE e))) := hol
      clear hol
      go_wp2
      go_ret
      exact ⟨_, _, _, rfl, HOL.out, below_deep HBA.out HBR.out⟩
end Go.Proofs.YtllhdmhfjahgladGreatDoor

namespace Go.Proofs.YtllhdmhfjahgladGreatDoor
open Go.RowKit

theorem doBef_in : Entered 38 := fun _ _ => by kernel_rfl
theorem doSees_in : Entered 40 := fun _ _ => by kernel_rfl
theorem doBef_results (tmps : Array Value) (b : Nat) (w : World) {y : Int} {m h : Bool} {x : Int} (h4 : tmps.getD 4 undef = .pointer (some ⟨b, 0, none⟩)) (k : Four w b y m h x) :
    (results Tryz.f38 tmps).run Tryz.prog w = .ok (.agg #[.int .i64 y, .bool m, .bool h, .int .i64 x]) w := by
  have h4' : tmps[4]?.getD undef = .pointer (some ⟨b, 0, none⟩) := by simpa using h4
  simp [results, Tryz.results38, go_sem, h4', k.c0, k.c1, k.c2, k.c3]

set_option maxHeartbeats 2000000 in
set_option maxRecDepth 100000 in
theorem doBef_calls (L : List Chn) (base : Option Addr) (n c : Nat) (k : ByteArray) (by_ : Int) (sb bb : Nat) (w : World) (hf : FitC L) (ha : ChainsIn w base n c L) (h1 : w.cell? ⟨sb, 0, none⟩ = some (.slice base n c)) (h2 : w.cell? ⟨bb, 0, none⟩ = some (.int .i64 by_)) :
    Calls Tryz.prog 38 #[.string k, .pointer (some ⟨sb, 0, none⟩), .pointer (some ⟨bb, 0, none⟩)] w fun x w' => VerTold w w' (before L k by_) x := by
  have HG := hid (grew w (.cells #[.int .i64 0, .bool false, .bool false, .int .i64 0] 56))
  have PB := hid (before_calls L base n c k by_ _ hf (ha.below HG.out))
  have hsb : sb < w.heap.size := by simpa using World.block_lt_of_cell? _ _ h1
  have hbb : bb < w.heap.size := by simpa using World.block_lt_of_cell? _ _ h2
  clear hf ha
  go_enter Tryz.func38, Tryz.ntmps38
  go_wp2_with fail
  refine PB.out.mono ?_
  rintro x w1 ⟨y, mm, hh, n2, hbf, rfl, hb1⟩
  have HBF := hid hbf
  have HFO := hid ((Four.box w 0 false false 0 56).below hb1)
  have hfr := (Free4.box w #[.int .i64 0, .bool false, .bool false, .int .i64 0] 56).below hb1 (by simp)
  obtain ⟨g0, g1, g2, g3⟩ := HFO.out
  obtain ⟨f0, f1, f2, f3⟩ := hfr
  have HB := hid (below_deep HG.out hb1)
  clear hbf hb1 PB
  go_wp2
  (try simp only [Exit.inBlock, Exit.then])
  refine bodyPost_ret (doBef_results _ w.heap.size _ rfl (HFO.out.put _ _ _ _)) rfl ?_
  exact ⟨_, _, _, _, HBF.out, rfl, four_below HB.out (Nat.le_refl _)⟩

theorem sees_ret {v : Ver} {y n : Int} {m h : Bool} (hv : v = (y, m, h, n)) : Ending.returned (.tuple #[.int .i64 n, .bool h]) = .returned (.tuple #[.int .i64 v.n, .bool v.has_]) := by rw [hv]

set_option maxHeartbeats 2000000 in
set_option maxRecDepth 100000 in
theorem doSees_calls (L : List Chn) (base : Option Addr) (n c : Nat) (k : ByteArray) (by_ : Int) (sb bb fb : Nat) (w : World) (hf : FitC L) (ha : ChainsIn w base n c L) (h1 : w.cell? ⟨sb, 0, none⟩ = some (.slice base n c)) (h2 : w.cell? ⟨bb, 0, none⟩ = some (.int .i64 by_))
    (h3 : w.cell? ⟨fb, 0, none⟩ = some (.func (.func 38) #[] #[.pointer (some ⟨sb, 0, none⟩), .pointer (some ⟨bb, 0, none⟩)])) :
    Calls Tryz.prog 40 #[.string k, .pointer (some ⟨fb, 0, none⟩)] w fun x w' => x = .returned (.tuple #[.int .i64 (before L k by_).n, .bool (before L k by_).has_]) ∧ Below w.heap.size w w' := by
  have PB := hid (doBef_calls L base n c k by_ sb bb w hf ha h1 h2)
  have hcf := doBef_in
  unfold Entered at hcf
  have hfb : fb < w.heap.size := by simpa using World.block_lt_of_cell? _ _ h3
  clear hf ha h1 h2
  go_enter Tryz.func40, Tryz.ntmps40
  go_wp2_with fail
  refine PB.out.mono ?_
  rintro x w1 ⟨y, mm, hh, n2, hbf, rfl, hb1⟩
  have HBF := hid hbf
  have HB := hid (below_deep hb1 (grew w1 (.cells #[.int .i64 y, .bool mm, .bool hh, .int .i64 n2] 56)))
  clear hbf hb1 PB
  go_wp2
  go_region
  all_goals
    go_wp2
    go_ret2
    exact ⟨sees_ret HBF.out, below_drewN HB.out _⟩

/-- What a key that is written has at last, as 'do' tells it: what Run made of it, or what it had. -/
theorem set_made {r0 : List Row} {D : List Deed3} {m : Nat} {dq : Nat → Bool} {bq : ByteArray → Int} {e : Eng} (G : Good r0 D m dq bq e) {p : Nat} (hp : m + p < D.length) (hn : needsE e p = []) {r : Nat → Int} {mk : Made} {f : Bool} (hx : exec (fun k => num k (seesE e p)) (e.deeds.getD p default).2.2 0 zeroR zeroM = (r, mk, f)) {k : ByteArray} (hk : k ∈ (e.deeds.getD p default).2.1) :
    (∀ j : Nat, j < (keysOf (madeL f mk (e.deeds.getD p default).2.1)).length → (keysOf (madeL f mk (e.deeds.getD p default).2.1)).getD j default = k → ∃ o, ((madeL f mk (e.deeds.getD p default).2.1).getD j default).2 = o ∧ isAt k (doD (seesE e p) (e.deeds.getD p default)) = o.isSome ∧ num k (doD (seesE e p) (e.deeds.getD p default)) = o.getD 0) ∧
    (has (keysOf (madeL f mk (e.deeds.getD p default).2.1)) k = false → (before e.chains k (e.base + p)).made = true ∧ (before e.chains k (e.base + p)).has_ = isAt k (doD (seesE e p) (e.deeds.getD p default)) ∧ (before e.chains k (e.base + p)).n = num k (doD (seesE e p) (e.deeds.getD p default))) := by
  have hs := (sees_is G hp hn).1
  have hd : RightDD (e.deeds.getD p default) := by rw [G.deed]; exact rights_at G.right hp
  have hex : exD (seesE e p) (e.deeds.getD p default) = (r, mk, f) := hx
  refine ⟨fun j hj hjk => ?_, fun hh => ?_⟩
  · rw [keysOf_length] at hj
    rw [keysOf_getD hj] at hjk
    refine ⟨_, rfl, ?_⟩
    exact made_some hs hd hex hj (Prod.ext hjk rfl)
  · obtain ⟨e1, e2⟩ := made_none hs hd hex hk hh
    obtain ⟨b1, b2, b3⟩ := sees_bef G hp hn (k := k) (keysD_mem.2 (.inr hk))
    exact ⟨b1, b2.trans e1.symm, b3.trans e2.symm⟩
/-- A deed's end, and what it sees, in Run's own words. -/
theorem run_end {e : Eng} {p : Nat} {r : Nat → Int} {mk : Made} {f : Bool} (hx : exec (fun k => num k (seesE e p)) (e.deeds.getD p default).2.2 0 zeroR zeroM = (r, mk, f)) : endD (seesE e p) (e.deeds.getD p default) = (f, r) := by
  have hex : exD (seesE e p) (e.deeds.getD p default) = (r, mk, f) := hx
  unfold endD
  rw [hex]
theorem num_told {h : Bool} {n : Int} {R : List Row} {k : ByteArray} (h1 : h = isAt k R) (h2 : n = num k R) : (if h = true then n else 0) = num k R := by
  subst h1; subst h2; exact seen_num k R
end Go.Proofs.YtllhdmhfjahgladGreatDoor
