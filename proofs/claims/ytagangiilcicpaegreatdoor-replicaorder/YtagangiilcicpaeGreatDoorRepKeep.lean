/-
  Needs of the program's plans, walked.
  Where a text is first among texts, told by its place; what is written in rows of an engine that the call owns.
  An entry kept behind others: the program's 'keep'.
-/
import Derived.Test.YtagangiilcicpaeGreatDoorPlanAdd
import Derived.Test.YtagangiilcicpaeGreatDoorRepFinds
import Derived.Test.YtagangiilcicpaeGreatDoorPlanAddE
import Derived.Test.YtagangiilcicpaeGreatDoorOpenBatches
import Derived.Test.YtagangiilcicpaeGreatDoorDeedRun
import Derived.Test.YtagangiilcicpaeGreatDoorRepOwn
namespace Go.Proofs.YtagangiilcicpaeGreatDoor
open Go.RowKit Go.Shelf

theorem four_end {wr w2 : World} {blk : Nat} {y0 y : Int} {m0 h0 mm hh : Bool} {x0 n2 : Int} (h : Four w2 blk y0 m0 h0 x0) (hb : Below wr.heap.size wr w2) (hB : wr.heap.size ≤ blk) :
    Four ((((w2.setCell ⟨blk, 0, none⟩ (.int .i64 y)).setCell ⟨blk, 1, none⟩ (.bool mm)).setCell ⟨blk, 2, none⟩ (.bool hh)).setCell ⟨blk, 3, none⟩ (.int .i64 n2)) blk y mm hh n2 ∧ Below wr.heap.size wr ((((w2.setCell ⟨blk, 0, none⟩ (.int .i64 y)).setCell ⟨blk, 1, none⟩ (.bool mm)).setCell ⟨blk, 2, none⟩ (.bool hh)).setCell ⟨blk, 3, none⟩ (.int .i64 n2)) :=
  ⟨h.put y mm hh n2, four_below hb hB⟩

set_option maxHeartbeats 16000000 in
set_option maxRecDepth 100000 in
theorem planNeeds_calls {r0 : List Row} {D : List Deed3} {m : Nat} {dq : Nat → Bool} {bq : ByteArray → Int} {e : Eng} (G : Good r0 D m dq bq e) (hD : D.length ≤ 1954687338211) (p : Nat) (hp : m + p < D.length) (v : Value) (w : World) (hv : EngIn w v e) :
    Calls Tryz.prog 128 #[v, .int .i64 p] w fun x w' => IntsTold w w' (ints (needsE e p)) x := by
  obtain ⟨cb, cn, cc, db, dn, dc, sb, sn, sc, eb, en, ec, rfl, hl⟩ := hv
  have hle := G.le
  have hpl : p < e.deeds.length := by rw [G.len]; omega
  have hpn : p < dn := by rw [hl.de.len]; exact hpl
  have hz0 : 0 ≤ e.base := by rw [G.base]; omega
  have hz1 : e.base ≤ 1954687338211 := by rw [G.base]; omega
  have hp1 : p ≤ 1954687338211 := by omega
  have hpi : (p : Int) < (dn : Int) := by omega
  have hRD : RightDD (e.deeds.getD p default) := by rw [G.deed]; exact rights_at G.right hp
  have HFIT := hid (G.fit hD)
  have HRD := hid hRD
  have HKL := hid (keysD_len hRD)
  have HSEEN : Hid (∀ k, (before e.chains k (e.base + p)).made = false → 0 ≤ (before e.chains k (e.base + p)).by_ ∧ (before e.chains k (e.base + p)).by_ ≤ 1954687338211) := fun k hm => by
    have hs := G.seen (n := p) (by omega) k
    rw [← G.at_] at hs
    obtain ⟨i, _, h2, _, _, hv⟩ := hs.no hm
    rw [hv]
    show 0 ≤ (i : Int) ∧ (i : Int) ≤ 1954687338211
    omega
  have HFIN := hid (needs_prog G hp)
  have HBX := hid (Box.new w #[.slice cb cn cc, .slice db dn dc, .slice sb sn sc, .slice eb en ec, .int .i64 e.base] 40)
  have HBA := hid (grew w (.cells #[.slice cb cn cc, .slice db dn dc, .slice sb sn sc, .slice eb en ec, .int .i64 e.base] 40))
  have HL := hid (hl.below HBA.out)
  have hdm := Nat.le_trans hl.de.hdr.le hl.de.hdr.max
  unfold maxLen at hdm
  have HNK : Hid (∀ k, needK e p k = if (before e.chains k (e.base + p)).made = true then [] else [(before e.chains k (e.base + p)).by_ - e.base]) := fun _ => rfl
  clear G hD hp hle hl hRD hpl
  go_enter Tryz.func128, Tryz.ntmps128
  go_upto_region 1 with fail
  generalize w.alloc (.cells #[.slice cb cn cc, .slice db dn dc, .slice sb sn sc, .slice eb en ec, .int .i64 e.base] 40) = A at *
  have t1 : decide ((p : Int) < 0) = false := by simp
  have t2 : decide ((dn : Int) ≤ (p : Int)) = false := by simp; omega
  have t3 : decide (dn ≤ p) = false := by simp; omega
  have x1 := HBX.out.cells5.2.1
  have hxl : w.heap.size < A.heap.size := HBX.out.lt
  obtain ⟨b1, o1, rfl, hrun⟩ : ∃ b1 o1, db = some ⟨b1, o1, none⟩ ∧ ∀ i, i < dn → DeedHere A b1 (o1 + i * 3) (e.deeds.getD i default) := by
    rcases HL.out.de.run with h | h
    · omega
    · exact h
  obtain ⟨rb, rn, rc, wb, wn, wc, xb, xn, xc, k0, k1, k2, hdi, hs1, hs2⟩ := hrun p hpn
  have hb1 : b1 < A.heap.size := by simpa using World.block_lt_of_cell? _ _ k0
  have PK := hid (planKeys_calls (e.deeds.getD p default) rb rn rc wb wn wc xb xn xc A hdi HRD.out)
  clear hrun hdi hs1 hs2
  go_wp2_with fail
  refine PK.out.mono ?_
  rintro x w1 ⟨kb, kn, kc, rfl, hk1, hb1'⟩
  have HB1 := hid hb1'
  have HKT := hid hk1
  have HKN := hid (Texts.count hk1)
  have hkn : kn ≤ 10 := by rw [Texts.count hk1]; exact HKL.out
  clear hk1 hb1' PK k0 k1 k2 x1 t1 t2 t3 hxl
  generalize keysD (e.deeds.getD p default) = K at *
  go_wp2
  go_loopw [5, 25] (fun ov i wr => ∃ q r : Nat, q ≤ kn ∧ r ≤ q ∧ i = .int .i64 q ∧ Hid ((needP e p (K.take q)).length = r) ∧ Hid (wr.ownsRow w1.heap.size 3 1 ov r (intsC (needP e p (K.take q)))) ∧ Hid (Below w1.heap.size w1 wr)) (fun _ i _ => kn - (intOf i).toNat)
  case atStart => exact ⟨0, 0, Nat.zero_le _, Nat.le_refl _, rfl, rfl, World.ownsRow_nil _ _ _ _, Below.refl _ _⟩
  case round =>
    obtain ⟨q, r, hq, hr, rfl, HR, HO, HBR⟩ := hrel
    have HBAR := hid (below_deep HB1.out HBR.out)
    by_cases hql : q < kn
    · have hqK : q < K.length := by rw [← HKN.out]; exact hql
      have hiq : (q : Int) < (kn : Int) := by omega
      obtain ⟨b2, o2, rfl, hr2⟩ : ∃ b2 o2, kb = some ⟨b2, o2, none⟩ ∧ Run wr b2 o2 (strs K) := by
        rcases (HKT.out.below (by decide) HBR.out).run with h | h
        · omega
        · exact h
      have d0 := hr2 q _ (strs_at hqK)
      have hb2w : b2 < wr.heap.size := by simpa using World.block_lt_of_cell? _ _ d0
      have HXR := hid (HBX.out.below HBAR.out)
      have HLR := hid (HL.out.below HBAR.out)
      have hxr : w.heap.size < wr.heap.size := HXR.out.lt
      have HTK : Hid (needP e p (K.take (q + 1)) = needP e p (K.take q) ++ needK e p (K.getD q default)) := by
        show _ = _
        rw [take_snoc_getD hqK, needP_snoc]
      have HSK := hid (HSEEN.out (K.getD q default))
      have HNKq := hid (HNK.out (K.getD q default))
      have PNU := hid (fun W => number_calls6 cb cn cc (some ⟨b1, o1, none⟩) dn dc sb sn sc eb en ec e.base p W hz0 hz1 (by omega) (by omega))
      have PBE := hid (fun W hc => before_calls e.chains cb cn cc (K.getD q default) (e.base + p) W HFIT.out hc)
      clear hr2
      generalize needP e p (K.take q) = F at *
      generalize K.getD q default = k at *
      go_upto_region 7 with fail
      go_cut [8] (fun pv wx => ∃ blk y mm hh n2, pv = .pointer (some ⟨blk, 0, none⟩) ∧ Hid (before e.chains k (e.base + p) = (y, mm, hh, n2)) ∧ Hid (Four wx blk y mm hh n2) ∧ Hid (Below wr.heap.size wr wx))
      case first =>
        have HK : Hid (∀ w', Below wr.heap.size wr w' → (w'.cell? ⟨w.heap.size, 0, none⟩ = some (.slice cb cn cc) ∧ w'.cell? ⟨w.heap.size, 1, none⟩ = some (.slice (some ⟨b1, o1, none⟩) dn dc) ∧ w'.cell? ⟨w.heap.size, 2, none⟩ = some (.slice sb sn sc) ∧ w'.cell? ⟨w.heap.size, 3, none⟩ = some (.slice eb en ec) ∧ w'.cell? ⟨w.heap.size, 4, none⟩ = some (.int .i64 e.base) ∧ Below wr.heap.size wr w')) := fun w' hb => ⟨(HXR.out.below hb).cell 0 _ rfl, (HXR.out.below hb).cell 1 _ rfl, (HXR.out.below hb).cell 2 _ rfl, (HXR.out.below hb).cell 3 _ rfl, (HXR.out.below hb).cell 4 _ rfl, hb⟩
        go_region_held3 (fun w' => w'.cell? ⟨w.heap.size, 0, none⟩ = some (.slice cb cn cc) ∧ w'.cell? ⟨w.heap.size, 1, none⟩ = some (.slice (some ⟨b1, o1, none⟩) dn dc) ∧ w'.cell? ⟨w.heap.size, 2, none⟩ = some (.slice sb sn sc) ∧ w'.cell? ⟨w.heap.size, 3, none⟩ = some (.slice eb en ec) ∧ w'.cell? ⟨w.heap.size, 4, none⟩ = some (.int .i64 e.base) ∧ Below wr.heap.size wr w')
          (first
            | exact HK.out _ (step_drew (Below.refl _ _))
            | exact HK.out _ (step_box (hold5 (by assumption)) _)
            | exact HK.out _ (by assumption)
            | exact HK.out _ (step_box (by assumption) _)
            | exact HK.out _ (four_below (hold5 (by assumption)) (by omega))
            | exact HK.out _ (four_below (step_box (hold5 (by assumption)) _) (by omega)))
          (first
            | (go_at_call 130; refine (PBE.out _ (HLR.out.ch.below (hold5 (by assumption)))).mono ?_; rintro x w3 ⟨y, mm, hh, n2, hbf, rfl, hb3⟩; have hb3' := below_deep (hold5 (by assumption)) hb3; have hsz3 := hb3'.size; (first | (have FF : Four w3 wr.heap.size 0 false false 0 := ((Four.box wr.drew 0 false false 0 116).below hb2).below hb3; have FR : Free4 w3 wr.heap.size := ((Free4.box wr.drew _ _).below hb2 (by show _ < (wr.drew.alloc _).heap.size; rw [World.size_alloc]; exact Nat.lt_succ_self _)).below hb3 ((Four.box wr.drew 0 false false 0 116).below hb2).lt; obtain ⟨g0, g1, g2, g3⟩ := FF; obtain ⟨e0, e1, e2, e3⟩ := FR; have hbl : wr.heap.size < w3.heap.size := by simpa using World.block_lt_of_cell? _ _ g0) | (have FF := (Four.box w2 0 false false 0 116).below hb3; have FR := (Free4.box w2 #[.int .i64 0, .bool false, .bool false, .int .i64 0] 116).below hb3 (by rw [World.size_alloc]; exact Nat.lt_succ_self _); have hsz2 := hb2'.size; obtain ⟨g0, g1, g2, g3⟩ := FF; obtain ⟨e0, e1, e2, e3⟩ := FR; have hbl : w2.heap.size < w3.heap.size := by simpa using World.block_lt_of_cell? _ _ g0) | skip))
            | (go_at_call 134; refine (PNU.out _).mono ?_; rintro x w2 ⟨rfl, hb2⟩; have hb2' := below_deep (hold5 (by assumption)) hb2))
        all_goals go_wp2
        all_goals go_meet
        all_goals first
          | exact ⟨_, y, mm, hh, n2, rfl, hbf, Four.box w3 y mm hh n2 _, step_box hb3' _⟩
          | exact ⟨_, y, mm, hh, n2, rfl, hbf, (four_end ⟨g0, g1, g2, g3⟩ hb3' (by omega)).1, (four_end ⟨g0, g1, g2, g3⟩ hb3' (by omega)).2⟩
      case rest =>
        obtain ⟨blk, y, mm, hh, n2, rfl, HBF, HFO, HBC⟩ := hcut
        have HB3 := hid (below_deep HBR.out HBC.out)
        have HO3 := hid (owns_keep HO.out HBC.out)
        have e4 := (HXR.out.below HBC.out).cell 4 _ rfl
        have hxc : w.heap.size < wc.heap.size := (HXR.out.below HBC.out).lt
        obtain ⟨g0, g1, g2, g3⟩ := HFO.out
        have hbc : blk < wc.heap.size := HFO.out.lt
        clear d0 PNU PBE
        rw [HBF.out] at HSK HNKq
        simp only [Ver.made, Ver.by_] at HSK HNKq
        cases mm with
        | true =>
          have HTK2 : Hid (needP e p (K.take (q + 1)) = F) := by show _ = _; rw [HTK.out, HNKq.out]; simp
          go_wp2
          go_roundw
          case rel => exact ⟨q + 1, r, by omega, by omega, by go_num, (by show _ = _; rw [HTK2.out]; exact HR.out), (by rw [HTK2.out]; exact HO3), HB3⟩
          case measure => simp [intOf]; omega
        | false =>
          have hy := HSK.out rfl
          have hsub : IntKind.i64.wrap (y - e.base) = y - e.base := by rw [IntKind.wrap_i64]; omega
          have HTK2 : Hid (needP e p (K.take (q + 1)) = F ++ [y - e.base]) := by show _ = _; rw [HTK.out, HNKq.out]; simp
          have HC1 := hid (lies_one wc #[.int .i64 (y - e.base)] 3 1 rfl)
          have HOA := hid (HO3.out.alloc (.cells #[.int .i64 (y - e.base)] 3))
          have HBY : Hid ((r + 1) * 8 ≤ 140737488355328) := by show _ ≤ _; omega
          have HSZ := hid (step_box HB3.out (.cells #[.int .i64 (y - e.base)] 3))
          go_wp2_with (at_builtin; refine wpList_onto _ rfl _ _ 36 3 1 8 _ Tryz.underlying36 intInfo rfl (by decide) (by decide) rfl w1.heap.size _ r _ rfl HOA.out _ 1 _ _ rfl HC1.out (intsC_one [y - e.base]) HBY.out HSZ.out.size ?_)
          intro v5 w5 hown5 hg5
          have HB5 := hid (step_row HSZ.out HOA.out hg5)
          have HO5 : Hid (w5.ownsRow w1.heap.size 3 1 v5 (r + 1) (intsC (F ++ [y - e.base]))) := by
            show World.ownsRow _ _ _ _ _ _ _
            rw [intsC_append]; exact hown5
          clear hown5 hg5
          go_wp2
          go_roundw
          case rel => exact ⟨q + 1, r + 1, by omega, by omega, by go_num, (by show _ = _; rw [HTK2.out, List.length_append, HR.out]; rfl), (by rw [HTK2.out]; exact HO5), HB5⟩
          case measure => simp [intOf]; omega
    · obtain rfl : q = kn := by omega
      rw [List.take_of_length_le (by rw [← HKN.out]; exact Nat.le_refl _)] at HO HR
      generalize needP e p K = F at *
      by_cases hr0 : r = 0
      · subst hr0
        have hF : F = [] := List.eq_nil_of_length_eq_zero HR.out
        subst hF
        obtain ⟨ob, oc, rfl, hol⟩ := Lies.owned HO.out
        have HOL : Hid (Ints wr ob 0 oc (ints (needsE e p))) := by
          have hn : ints (needsE e p) = [] := by
            have := HFIN.out.symm
            simpa [Lib.compact, Lib.compactUpTo] using this
          show Lies _ _ _ _ _ _
          rw [hn]; exact hol
        have PS := hid (Any.slices_Sort_int_none lays189 ob oc wr)
        have PC := hid (Any.slices_Compact_int_empty laysB20 ob oc wr)
        clear hol
        go_wp2_with fail
        refine PS.out.mono ?_
        rintro x w5 ⟨rfl, rfl⟩
        go_wp2_with fail
        refine PC.out.mono ?_
        rintro x w6 ⟨rfl, rfl⟩
        go_wp2
        go_ret
        exact ⟨_, _, _, rfl, HOL.out, below_deep HBA.out HBAR.out⟩
      · obtain ⟨g, gc, hve⟩ : ∃ g gc, u5 = .slice (some ⟨g, 0, none⟩) r gc := by
          rcases HO.out.2 with ⟨_, h0⟩ | ⟨g, cap, cur, h', _⟩
          · omega
          · exact ⟨g, cap, h'⟩
        subst hve
        have hrr : r ≤ 4000000 := by omega
        have hgB := (HO.out.lt g rfl).1
        have PS := hid (sort_calls F w1.heap.size g r gc wr HO.out hrr)
        clear hr0
        go_wp2_with fail
        refine PS.out.mono ?_
        rintro x w5 ⟨rfl, hown5, hg5⟩
        have HB5 := hid (HBR.out.grown hg5 HBR.out.size (fun a ha => by cases ha; exact hgB))
        have PC := hid (compact_calls _ w1.heap.size g r gc w5 hown5 hrr)
        rw [HFIN.out] at PC
        clear hown5 hg5 PS
        generalize (ints (needsE e p)).length = nl at *
        go_wp2_with fail
        refine PC.out.mono ?_
        rintro x w6 ⟨rfl, hown6, hb6⟩
        obtain ⟨ob, oc, hoe, hol⟩ := Lies.owned hown6
        simp only [Value.slice.injEq, true_and] at hoe
        obtain ⟨e1, e2⟩ := hoe
        have HOL : Hid (Ints w6 (some ⟨g, 0, none⟩) nl gc (ints (needsE e p))) := by
          show Lies _ _ _ _ _ _
          rw [e1, e2]; exact hol
        have HB6 := hid (hb6 _ HB5.out)
        clear hown6 hb6 hol e1 e2
        go_wp2
        go_ret
        exact ⟨_, _, _, rfl, HOL.out, below_deep HBA.out (below_deep HB1.out HB6.out)⟩
end Go.Proofs.YtagangiilcicpaeGreatDoor

namespace Go.Proofs.YtagangiilcicpaeGreatDoor
open Go.RowKit

def IndexIs (l : List ByteArray) (k : ByteArray) (x : Int) : Prop := (x = -1 ∧ has l k = false) ∨ ∃ j : Nat, j < l.length ∧ x = j ∧ l.getD j default = k
theorem indexAt_calls (l : List ByteArray) (base : Option Addr) (n c : Nat) (k : ByteArray) (w : World) (ha : Texts w base n c l) :
    Calls Tryz.prog 126 #[.slice base n c, .string k] w fun e w' => (∃ x : Int, e = .returned (.int .i64 x) ∧ IndexIs l k x) ∧ w = w' := by
  have HN := hid (Texts.count ha)
  have hm := Nat.le_trans ha.hdr.le ha.hdr.max
  unfold maxLen at hm
  by_cases h0 : n = 0
  · subst h0
    have hl : l = [] := List.eq_nil_of_length_eq_zero (by have := HN.out; omega)
    subst hl
    clear ha
    go_enter Tryz.func126, Tryz.ntmps126
    go_wp2
    go_loop [8] (fun i => i = .int .i64 0) (fun _ => 0)
    case atStart => rfl
    case round =>
      obtain rfl := hrel
      go_wp2
      go_ret
      exact ⟨⟨-1, rfl, .inl ⟨rfl, rfl⟩⟩, rfl⟩
  rcases ha.run with h | ⟨b, o, rfl, h1⟩
  · exact absurd h h0
  have HC := hid h1
  clear h1 h0 ha
  go_enter Tryz.func126, Tryz.ntmps126
  go_wp2
  go_loop [8] (fun i => ∃ j : Nat, j ≤ n ∧ i = .int .i64 j ∧ Hid (has (l.take j) k = false)) (fun i => n - (intOf i).toNat)
  case atStart => exact ⟨0, Nat.zero_le _, rfl, rfl⟩
  case round =>
    obtain ⟨j, hj, rfl, HH⟩ := hrel
    by_cases hlt : j < n
    · have hjl : j < l.length := by rw [← HN.out]; exact hlt
      have HJL := hid hjl
      have c1 := HC.out j _ (strs_at hjl)
      have hi : (j : Int) < (n : Int) := by omega
      have HT := hid (has_snoc (l.take j) (l.getD j default) k)
      rw [← take_snoc_getD hjl, HH.out] at HT
      obtain ⟨x, hx0⟩ : ∃ x, l.getD j default = x := ⟨_, rfl⟩
      have HX := hid hx0
      rw [hx0] at c1 HT
      clear hx0
      by_cases hx : k = x
      · have hs := streq_true hx
        have HF : Hid (l.getD j default = k) := by show _ = _; rw [HX.out, hx]
        clear hx
        go_wp2
        go_ret
        exact ⟨⟨j, rfl, .inr ⟨j, HJL.out, rfl, HF.out⟩⟩, rfl⟩
      · have hs := streq_false hx
        have HF : Hid (has (l.take (j + 1)) k = false) := by
          show _ = _
          rw [HT.out]; simpa using fun e => hx e.symm
        clear hx
        go_wp2
        go_round
        case rel => exact ⟨j + 1, by omega, by go_num, HF⟩
        case measure => simp [intOf]; omega
    · go_wp2
      go_ret
      refine ⟨⟨-1, rfl, .inl ⟨rfl, ?_⟩⟩, rfl⟩
      have : l.take j = l := List.take_of_length_le (by rw [← HN.out]; omega)
      rw [← this, HH.out]

/-! ### One number, one end of an engine's own is written -/
theorem ownedSet_ints {W : World} {B g n c p : Nat} {S : List Int} (h : W.ownsRow B 3 1 (.slice (some ⟨g, 0, none⟩) n c) n (intsC S)) (x : Int) : W.grownBy (W.setCell ⟨g, p, none⟩ (.int .i64 x)) (Value.slice (some ⟨g, 0, none⟩) n c).ownBlock := (World.ownsRow.stored h p (.int .i64 x)).2
theorem own_setState {W : World} {B g n sc p : Nat} {cb : Option Addr} {cn cc : Nat} {v1 v3 : Value} {e : Eng} (h : EngOwn W B cb cn cc v1 (.slice (some ⟨g, 0, none⟩) n sc) v3 e) (hn : n = e.state.length) (x : Int) :
    EngOwn (W.setCell ⟨g, p, none⟩ (.int .i64 x)) B cb cn cc v1 (.slice (some ⟨g, 0, none⟩) n sc) v3 ⟨e.chains, e.deeds, e.state.set p x, e.ends, e.base⟩ := by
  subst hn
  obtain ⟨hc, ⟨T, ho, hT⟩, hst, hen⟩ := h
  have hg := ownedSet_ints (p := p) hst x
  refine ⟨hc.grown hst (by decide) (by decide) hg, ⟨T, ho.kept hg (rows_apart ho hst (by decide)), hT.grown hst (by decide) (by decide) hg⟩, ?_, hen.kept hg (rows_apart hen hst (by decide))⟩
  show World.ownsRow _ _ _ _ _ (e.state.set p x).length _
  rw [List.length_set]
  exact ints_stored hst p x
theorem five_grown {W : World} {B g n c : Nat} {xs : List Value} (h : W.ownsRow B 121 5 (.slice (some ⟨g, 0, none⟩) n c) n xs) (o : Nat) (f : Bool) (x0 x1 x2 x3 : Int) : W.grownBy (fiveAt W g o f x0 x1 x2 x3) (Value.slice (some ⟨g, 0, none⟩) n c).ownBlock := by
  have s0 := World.ownsRow.stored h o (.bool f)
  have s1 := World.ownsRow.stored s0.1 (o + 1) (.int .i64 x0)
  have s2 := World.ownsRow.stored s1.1 (o + 2) (.int .i64 x1)
  have s3 := World.ownsRow.stored s2.1 (o + 3) (.int .i64 x2)
  have s4 := World.ownsRow.stored s3.1 (o + 4) (.int .i64 x3)
  exact grown_trans (grown_trans (grown_trans (grown_trans s0.2 s1.2) s2.2) s3.2) s4.2
theorem own_setEnds {W : World} {B g n ec p : Nat} {cb : Option Addr} {cn cc : Nat} {v1 v2 : Value} {e : Eng} (h : EngOwn W B cb cn cc v1 v2 (.slice (some ⟨g, 0, none⟩) n ec) e) (hn : n = e.ends.length) (hp : p < e.ends.length) (x : End3) :
    EngOwn (fiveAt W g (p * 5) x.1 (x.2 0) (x.2 1) (x.2 2) (x.2 3)) B cb cn cc v1 v2 (.slice (some ⟨g, 0, none⟩) n ec) ⟨e.chains, e.deeds, e.state, e.ends.set p x, e.base⟩ := by
  subst hn
  obtain ⟨hc, ⟨T, ho, hT⟩, hst, hen⟩ := h
  have hg := five_grown hen (p * 5) x.1 (x.2 0) (x.2 1) (x.2 2) (x.2 3)
  refine ⟨hc.grown hen (by decide) (by decide) hg, ⟨T, ho.kept hg (rows_apart ho hen (by decide)), hT.grown hen (by decide) (by decide) hg⟩, hst.kept hg (rows_apart hst hen (by decide)), ?_⟩
  show World.ownsRow _ _ _ _ _ (e.ends.set p x).length _
  rw [List.length_set]
  exact ends_stored hen hp x
/-- An engine whose chains are others. -/
theorem EngOwn.chains {w : World} {B : Nat} {cb : Option Addr} {cn cc : Nat} {v1 v2 v3 : Value} {e : Eng} (h : EngOwn w B cb cn cc v1 v2 v3 e) {cb' : Option Addr} {cn' cc' : Nat} {L : List Chn} (hc : ChK w cb' cn' cc' L) : EngOwn w B cb' cn' cc' v1 v2 v3 ⟨L, e.deeds, e.state, e.ends, e.base⟩ := ⟨hc, h.de, h.st, h.en⟩
end Go.Proofs.YtagangiilcicpaeGreatDoor

namespace Go.Proofs.YtagangiilcicpaeGreatDoor
open Go.RowKit

/-- What is written into a row of entries leaves an engine that the call owns as it is. -/
theorem EngOwn.grownE {w w' : World} {B B' n : Nat} {v : Value} {xs : List Value} {cb : Option Addr} {cn cc : Nat} {v1 v2 v3 : Value} {e : Eng} (h : EngOwn w B' cb cn cc v1 v2 v3 e) (ho : w.ownsRow B 24 2 v n xs) (hg : w.grownBy w' v.ownBlock) : EngOwn w' B' cb cn cc v1 v2 v3 e := by
  obtain ⟨hc, ⟨T, h2, hT⟩, hst, hen⟩ := h
  exact ⟨hc.grown ho (by decide) (by decide) hg, ⟨T, h2.kept hg (rows_apart h2 ho (by decide)), hT.grown ho (by decide) (by decide) hg⟩, hst.kept hg (rows_apart hst ho (by decide)), hen.kept hg (rows_apart hen ho (by decide))⟩
theorem Box.grownE {w w' : World} {B n b : Nat} {v : Value} {xs : List Value} {cs : Array Value} {t : TypeId} (h : Box w b cs t) (hne : 24 ≠ t) (ho : w.ownsRow B 24 2 v n xs) (hg : w.grownBy w' v.ownBlock) : Box w' b cs t := (hg.block b h.lt (own_ne ho h (Ne.symm hne))).trans h
/-- What stays as it is when a row of entries is written. -/
structure KeepsE (B : Nat) (w w' : World) : Prop where
  eng : ∀ (B' : Nat) (cb : Option Addr) (cn cc : Nat) (v1 v2 v3 : Value) (e : Eng), EngOwn w B' cb cn cc v1 v2 v3 e → EngOwn w' B' cb cn cc v1 v2 v3 e
  box : ∀ (b : Nat) (cs : Array Value) (t : TypeId), 24 ≠ t → Box w b cs t → Box w' b cs t
  below : Below B w w'
/-- How 'keep' ends. -/
def KeptTold (B : Nat) (w w' : World) (n : Nat) (L : List Ent) (x : Ending) : Prop := ∃ ab ac S, x = .returned (.slice ab n ac) ∧ EarlyOwn w' B ab n ac S L ∧ KeepsE B w w'
theorem kept_told {B n ac1 : Nat} {ab1 : Option Addr} {v6 : Value} {w w5 w6 : World} {S S5 : List ESlot} {L : List Ent} {e : Ent} (h : EarlyOwn w B ab1 n ac1 S L) (hB : B ≤ w.heap.size) (hb5 : Below w.heap.size w w5) (hs5 : ESlotsK w5 S5 [e])
    (h6 : w6.ownsRow B 24 2 v6 (n + 1) (flat eslotC S ++ flat eslotC S5)) (hg : w5.grownBy w6 (Value.slice ab1 n ac1).ownBlock) : KeptTold B w w6 (n + 1) (L ++ [e]) (.returned v6) := by
  obtain ⟨ab2, ac2, rfl, hl⟩ := Lies.owned h6
  have ho5 := owns_keep h.row hb5
  obtain ⟨s, rfl⟩ : ∃ s, S5 = [s] := by
    have := hs5.1
    match S5, this with
    | [s], _ => exact ⟨s, rfl⟩
  have hsk : ESlotK w5 s e := hs5.2 0 (Nat.lt_succ_self 0)
  refine ⟨ab2, ac2, S ++ [s], rfl, ⟨by rw [flat_append]; exact h6, ((h.slots.below hb5).grown ho5 hg).snoc (hsk.grown ho5 hg)⟩, ⟨fun B' cb cn cc v1 v2 v3 e he => (he.below hb5).grownE ho5 hg, fun b cs t hne hb => (hb.below hb5).grownE hne ho5 hg, ?_⟩⟩
  exact (below_lowerB hb5 hB).grown hg (Nat.le_trans hB hb5.size) (fun k hk => (ho5.lt k hk).1)

set_option maxHeartbeats 16000000 in
set_option maxRecDepth 100000 in
theorem keep_calls {B : Nat} {ab : Option Addr} {an ac : Nat} {S : List ESlot} {L : List Ent} {e : Ent} (ev : Value) (w : World) (h : EarlyOwn w B ab an ac S L) (hB : B ≤ w.heap.size) (hn : an ≤ 1000) (hev : EntV w ev e) (he : RightEnt e) :
    Calls Tryz.prog 39 #[.slice ab an ac, ev] w fun x w' => KeptTold B w w' (an + 1) (L ++ [e]) x := by
  obtain ⟨qb, qn, qc, rfl, hq⟩ := hev
  have HE := hid h
  have HX0 := hid (Box.new w #[.int .i64 e.1, .slice qb qn qc] 24)
  have HG0 := hid (grew w (.cells #[.int .i64 e.1, .slice qb qn qc] 24))
  have HQ := hid hq
  have HR := hid he
  have N : Hid ((an + 1) * 32 ≤ 140737488355328) := by show _ ≤ _; omega
  have HBB := hid hB
  clear h hq hB hn he
  go_enter Tryz.func39, Tryz.ntmps39
  go_upto_region 1 with fail
  generalize w.alloc (.cells #[.int .i64 e.1, .slice qb qn qc] 24) = A at *
  have HG1 := hid (grew A (.cells #[.int .i64 e.1, .slice qb qn qc] 24))
  have HBA := hid (below_deep HG0.out HG1.out)
  have HEN : Hid (EntsIn (A.alloc (.cells #[.int .i64 e.1, .slice qb qn qc] 24)) (some ⟨A.heap.size, 0, none⟩) 1 1 [e]) := by
    refine ⟨rfl, ⟨Nat.le_refl _, by unfold maxLen; omega, fun h => by cases h⟩, .inr ⟨_, _, rfl, fun i hi => ?_⟩⟩
    obtain rfl : i = 0 := by omega
    exact ⟨qb, qn, qc, box_cell _ _ _ 0 _ rfl, box_cell _ _ _ 1 _ rfl, HQ.out.below HBA.out⟩
  have PO := hid (logOwn_callsO [e] (some ⟨A.heap.size, 0, none⟩) 1 1 _ (by decide) (few_ents (fun x hx => by obtain rfl := List.mem_singleton.1 hx; exact HR.out)) HEN.out)
  have x0 := HX0.out.cell 0 _ rfl
  have x1 := HX0.out.cell 1 _ rfl
  have hl0 : w.heap.size < A.heap.size := HX0.out.lt
  go_wp2_with fail
  refine PO.out.mono ?_
  rintro _ w5 ⟨v5, S5, rfl, ho5, hs5, hb5⟩
  have HB5 := hid (below_deep HBA.out hb5)
  have HS5 := hid hs5
  obtain ⟨ab5, ac5, rfl, hl5⟩ := Lies.owned ho5
  have HL5 := hid hl5
  have O5 := hid (flatE_one S5)
  have HO5 := hid (owns_keep HE.out.row HB5.out)
  have SZ5 := hid (Nat.le_trans HBB.out HB5.out.size)
  clear ho5 hs5 hb5 hl5 PO x0 x1 hl0 HX0 HG0 HG1 HBA HEN HQ HR
  go_wp2_with (at_builtin; refine wpList_onto _ rfl _ _ 33 24 2 32 _ Tryz.underlying33 entInfoR rfl (by decide) (by decide) rfl B _ an (flat eslotC S) rfl HO5.out _ 1 _ _ rfl HL5.out O5.out N.out SZ5.out ?_)
  all_goals
    intro v6 w6 hown6 hg6
    have HT := hid (kept_told HE.out HBB.out HB5.out HS5.out hown6 hg6)
    clear hown6 hg6
    go_wp2
    go_ret
    exact HT.out
end Go.Proofs.YtagangiilcicpaeGreatDoor
