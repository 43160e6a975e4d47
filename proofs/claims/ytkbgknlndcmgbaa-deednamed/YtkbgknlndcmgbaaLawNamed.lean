/-
  The walk of the statement DeedNamed: the call returns true and changes nothing that was there.
-/
import Derived.Test.YtkbgknlndcmgbaaNamedKeep
import Derived.Test.YtkbgknlndcmgbaaLawTells
namespace Go.Proofs.Ytkbgknlndcmgbaa
open Go.RowKit

theorem getD_in {α : Type} [Inhabited α] {l : List α} {i : Nat} (h : i < l.length) : l.getD i default = l[i] := by simp [List.getD, h]
theorem held3 {a b : Prop} {B : Nat} {A w' : World} (h : a ∧ b ∧ Below B A w') : Below B A w' := h.2.2
theorem two_keep {A w1 w2 : World} {b B : Nat} {x y : Value} (h : w1.cell? ⟨b, 0, none⟩ = some x ∧ w1.cell? ⟨b, 1, none⟩ = some y ∧ Below B A w1) (hb : Below B w1 w2) (hB : b < B) : w2.cell? ⟨b, 0, none⟩ = some x ∧ w2.cell? ⟨b, 1, none⟩ = some y ∧ Below B A w2 :=
  ⟨by rw [hb.cell (p := ⟨b, 0, none⟩) hB]; exact h.1, by rw [hb.cell (p := ⟨b, 1, none⟩) hB]; exact h.2.1, h.2.2.trans hb⟩

set_option maxHeartbeats 8000000 in
set_option maxRecDepth 100000 in
theorem deedNamed_calls (R W : List ByteArray) (C : List Ins) (l : List Row) (rb : Option Addr) (rn rc : Nat) (wb : Option Addr) (wn wc : Nat) (cb : Option Addr) (cn cc : Nat) (lb : Option Addr) (ln lc : Nat) (other : ByteArray) (x : Int) (w : World)
    (hd : DeedIn w rb rn rc wb wn wc cb cn cc R W C) (hr : SmallT R) (hw : SmallT W) (hh : Holds w lb ln lc l) (hsm : Small l) (ho : other.size ≤ maxLen) :
    Calls Try.prog 7 #[.agg #[.slice rb rn rc, .slice wb wn wc, .slice cb cn cc], .slice lb ln lc, .string other, .int .i64 x] w fun e w' => e = .returned (.bool true) ∧ Below w.heap.size w w' := by
  have hmf : ∀ (fn : Fn) (first cap : Array Value) (w : World), (Instr.makeFunc fn first cap).run Try.prog w = .ok (.func fn first cap) w := fun _ _ _ _ => rfl
  have hmm := @run_makeMap Try.prog
  have HD := hid hd
  have HSR := hid hr
  have HSW := hid hw
  have HH := hid hh
  have HSM := hid hsm
  have HO := hid ho
  clear hd hr hw hh hsm ho
  go_enter Try.func7, Try.ntmps7
  go_wp2_with fail
  refine (dalive_calls _).mono ?_
  rintro e w1 ⟨rfl, hb1⟩
  have d0 := kept_cell hb1 (box_past _ (box_past _ (box_past _ (box_cell w _ 41 0 (.slice rb rn rc) rfl))))
  have d1 := kept_cell hb1 (box_past _ (box_past _ (box_past _ (box_cell w _ 41 1 (.slice wb wn wc) rfl))))
  have d2 := kept_cell hb1 (box_past _ (box_past _ (box_past _ (box_cell w _ 41 2 (.slice cb cn cc) rfl))))
  have d3 := kept_cell hb1 (box_past _ (box_past _ (box_cell (w.alloc _) _ 23 0 (.slice lb ln lc) rfl)))
  have d4 := kept_cell hb1 (box_past _ (box_cell ((w.alloc _).alloc _) _ 9 0 (.string other) rfl))
  rw [World.size_alloc] at d3 d4
  rw [World.size_alloc] at d4
  have HB1 := hid (below_deep (below_deep (below_deep (below_deep (below_deep (Below.refl _ w) (grew _ _)) (grew _ _)) (grew _ _)) (grew _ _)) hb1)
  clear hb1
  go_wp2_with fail
  refine (wrongDeed_calls R W C rb rn rc wb wn wc cb cn cc w1 (HD.out.below HB1.out) HSR.out HSW.out).mono ?_
  rintro e w2 ⟨rfl, hb2⟩
  have HB2 := hid (below_deep HB1.out hb2)
  by_cases hz : wDeed R W C = 0
  · rw [hz]
    have e0 := kept_cell hb2 d0
    have e1 := kept_cell hb2 d1
    have e2 := kept_cell hb2 d2
    have e3 := kept_cell hb2 d3
    have e4 := kept_cell hb2 d4
    clear d0 d1 d2 d3 d4 hb2
    go_wp2_with fail
    refine (refWrong_holds l lb ln lc w2 HSM.out (HH.out.below HB2.out)).mono ?_
    rintro e w3 ⟨rfl, hb3⟩
    have HB3 := hid (below_deep HB2.out hb3)
    by_cases hz2 : wrong l = 0
    · rw [hz2]
      have HRT := hid (right_deed hz)
      have HRZ := hid hz
      have HRR := hid (right_of hz2).srt
      have f0 := kept_cell hb3 e0
      have f1 := kept_cell hb3 e1
      have f2 := kept_cell hb3 e2
      have f3 := kept_cell hb3 e3
      have f4 := kept_cell hb3 e4
      have hrn : rn ≤ 5 := by rw [Texts.count HD.out.tr]; exact wKeys_len HRT.out.r
      have hwn : wn ≤ 5 := by rw [Texts.count HD.out.tw]; exact wKeys_len HRT.out.w
      clear e0 e1 e2 e3 e4 hb3 hz hz2
      go_wp2
      have HS0 : Hid ((fun w' => w'.cell? ⟨w.heap.size, 0, none⟩ = some (.slice rb rn rc) ∧ w'.cell? ⟨w.heap.size, 1, none⟩ = some (.slice wb wn wc) ∧ Below (w3.heap.size + 2) ((w3.alloc (.map #[] 0)).alloc (.cells #[.map (some w3.heap.size)] 57)) w') ((w3.alloc (.map #[] 0)).alloc (.cells #[.map (some w3.heap.size)] 57)).drew) :=
        ⟨box_past _ (box_past _ f0), box_past _ (box_past _ f1), (Below.refl _ _).drew⟩
      have HS1 : Hid ((fun w' => w'.cell? ⟨w.heap.size, 0, none⟩ = some (.slice rb rn rc) ∧ w'.cell? ⟨w.heap.size, 1, none⟩ = some (.slice wb wn wc) ∧ Below (w3.heap.size + 2) ((w3.alloc (.map #[] 0)).alloc (.cells #[.map (some w3.heap.size)] 57)) w') (((w3.alloc (.map #[] 0)).alloc (.cells #[.map (some w3.heap.size)] 57)).alloc (.cells #[] 9)).drew) :=
        ⟨box_past _ (box_past _ (box_past _ f0)), box_past _ (box_past _ (box_past _ f1)), ((Below.refl _ _).alloc (by simp) _).drew⟩
      have HBA := hid (below_deep (below_deep HB3.out (grew w3 (.map #[] 0))) (grew _ (.cells #[.map (some w3.heap.size)] 57)))
      have HA5 : Hid (((w3.alloc (.map #[] 0)).alloc (.cells #[.map (some w3.heap.size)] 57)).heap.size = w3.heap.size + 2) := by show _ = _; rw [World.size_alloc, World.size_alloc]
      have HOWN : Hid ((((w3.alloc (.map #[] 0)).alloc (.cells #[.map (some w3.heap.size)] 57)).alloc (.cells #[] 9)).drew.ownsRow (w3.heap.size + 2) 9 1 (.slice (some ⟨w3.heap.size + 1 + 1, 0, none⟩) 0 0) 0 []) := by
        have := World.ownsRow_made (base := w3.heap.size + 2) (size := 1) (e := 9) ((w3.alloc (.map #[] 0)).alloc (.cells #[.map (some w3.heap.size)] 57)) #[] 0 (Nat.le_of_eq HA5.out.symm) (Nat.zero_le _) rfl
        rw [HA5.out] at this
        exact this
      have hle3 := HB3.out.size
      have HLE : Hid (w.heap.size ≤ w3.heap.size + 2) := by show _ ≤ _; omega
      have HLT : Hid (w.heap.size < w3.heap.size + 2) := by show _ < _; omega
      have N1 : Hid ((0 + rn) * 16 ≤ 140737488355328) := by show _ ≤ _; omega
      have hlen : (0 + rn + wn) ≤ 4611686018427387903 := by omega
      have N2 : Hid ((0 + rn + wn) * 16 ≤ 140737488355328) := by show _ ≤ _; omega
      go_region_held3 (fun w' => w'.cell? ⟨w.heap.size, 0, none⟩ = some (.slice rb rn rc) ∧ w'.cell? ⟨w.heap.size, 1, none⟩ = some (.slice wb wn wc) ∧ Below (w3.heap.size + 2) ((w3.alloc (.map #[] 0)).alloc (.cells #[.map (some w3.heap.size)] 57)) w')
        (first
          | exact HS0.out
          | exact HS1.out
          | exact two_keep (by assumption) (by assumption) HLT.out)
        (first
          | (refine step_onto _ rfl _ _ 38 9 1 16 _ Try.underlying38 strInfo rfl (by decide) (by decide) rfl (w3.heap.size + 2) _ 0 [] rfl ?_ rb rn rc _ rfl ?_ (strs_one R) N1.out ?_ ?_; exact HOWN.out; exact (HD.out.below (HBA.out.trans (HS1.out.2.2.mono HLE.out))).tr; exact Nat.le_trans (Nat.le_of_eq HA5.out.symm) HS1.out.2.2.size; intro b4 c4 w4 hl4 hf4 ho4 hb4)
          | (refine step_onto _ rfl _ _ 38 9 1 16 _ Try.underlying38 strInfo rfl (by decide) (by decide) rfl (w3.heap.size + 2) _ (0 + rn) ([] ++ strs R) rfl ?_ wb wn wc _ rfl ?_ (strs_one W) N2.out ?_ ?_; exact ho4; exact (HD.out.below (HBA.out.trans ((HS1.out.2.2.trans hb4).mono HLE.out))).tw; exact Nat.le_trans (Nat.le_of_eq HA5.out.symm) (HS1.out.2.2.trans hb4).size; intro b5 c5 w5 hl5 hf5 ho5 hb5))
      have hb45 := hb4.trans hb5
      simp only [Nat.zero_add, List.nil_append] at hl5 ⊢
      have HNK : Hid (NK w3 w5 b5 (rn + wn) c5 0 (R ++ W)) := by
        have hbx : Below (w3.heap.size + 2) ((w3.alloc (.map #[] 0)).alloc (.cells #[.map (some w3.heap.size)] 57)) w5 := HS1.out.2.2.trans hb45
        refine ⟨?_, ?_, ?_, ?_⟩
        · rw [List.take_zero, nameMap_nil]
          exact ((MapIs.made w3).alloc _).below hbx (by omega)
        · rw [hbx.cell (p := ⟨w3.heap.size + 1, 0, none⟩) (by simp), World.cell?_alloc_at _ _ _ _ (by simp)]; rfl
        · show Lies _ _ _ _ _ _
          rw [strs_append]; exact hl5
        · exact (below_deep (grew w3 (.map #[] 0)) (grew _ (.cells #[.map (some w3.heap.size)] 57))).trans (hbx.mono (by omega))
      have HF5 := hid hf5
      clear hl4 hf4 ho4 hb4 hl5 hf5 ho5 hb5 hb45 HS0 HS1 HOWN N1 N2 HBA HA5 HLE HLT
      go_wp2
      go_loopw [44] (fun i wr => ∃ j : Nat, j ≤ rn + wn ∧ i = .int .i64 j ∧ Hid (NK w3 wr b5 (rn + wn) c5 j (R ++ W))) (fun i _ => rn + wn - (intOf i).toNat)
      case atStart => exact ⟨0, Nat.zero_le _, rfl, HNK⟩
      case round =>
        obtain ⟨j, hj, rfl, HK⟩ := hrel
        have hcnt : (R ++ W).length = rn + wn := by have := Texts.count HK.out.txt; omega
        by_cases hlt : j < rn + wn
        · have hjl : j < (R ++ W).length := by omega
          have hi : (j : Int) < (rn : Int) + (wn : Int) := by omega
          have hxs : ((R ++ W).getD j default).size ≤ maxLen := by
            have : (R ++ W).getD j default ∈ R ++ W := by rw [getD_in hjl]; exact List.getElem_mem _
            rcases List.mem_append.1 this with h | h
            · exact HSR.out _ h
            · exact HSW.out _ h
          have HXS := hid hxs
          have hpl := HK.out.place
          have HM := hid HK.out.map
          have HQ : Hid (j < maxLen) := by show _ < _; unfold maxLen; omega
          have HPUT := hid (fun w2 hm hg => NK.put (w2 := w2) HK.out hjl HF5.out hm hg)
          rcases HK.out.txt.run with h | ⟨b, o, rfl, h1⟩
          · omega
          have c1 := h1 j _ (strs_at hjl)
          clear h1 hxs
          generalize (R ++ W).getD j default = y at *
          go_wp2_with (at_mapUpdate; refine wpList_put _ rfl _ _ _ 57 rfl 4 Try.underlying57 w3.heap.size j (nameMap ((R ++ W).take j)) rfl HM.out HQ.out y HXS.out (.bool true) rfl rfl ?_)
          intro w6 hm6 hg6
          have HNX := hid (HPUT.out w6 hm6 hg6)
          clear hm6 hg6
          go_wp2
          go_roundw
          case rel => exact ⟨j + 1, by omega, by go_num, HNX⟩
          case measure => simp [intOf]; omega
        · obtain rfl : j = rn + wn := by omega
          generalize wr = wa at *
          have HM := hid HK.out.map
          rw [List.take_of_length_le (by omega)] at HM
          have g0 := kept_cell HK.out.old f0
          have g1 := kept_cell HK.out.old f1
          have g2 := kept_cell HK.out.old f2
          have g3 := kept_cell HK.out.old f3
          have g4 := kept_cell HK.out.old f4
          have g5 := HK.out.place
          have HB6 := hid (below_deep HB3.out HK.out.old)
          have hsr := HK.out.old.size
          have l0 : w.heap.size < wa.heap.size := by simpa using World.block_lt_of_cell? _ _ g0
          have l1 : w.heap.size + 1 < wa.heap.size := by simpa using World.block_lt_of_cell? _ _ g3
          have l2 : w.heap.size + 1 + 1 < wa.heap.size := by simpa using World.block_lt_of_cell? _ _ g4
          have l3 : w3.heap.size + 1 < wa.heap.size := by simpa using World.block_lt_of_cell? _ _ g5
          have HT1 : Hid (∀ k, k ∈ R → Tells (wa.alloc (.cells #[.bool false] 4)) 30 #[.pointer (some ⟨wa.heap.size, 0, none⟩), .pointer (some ⟨w3.heap.size + 1, 0, none⟩), .pointer (some ⟨w.heap.size + 1, 0, none⟩)] k (num k l)) := by
            intro k hk w0 hb0
            have hbr := below_deep (grew wa (.cells #[.bool false] 4)) hb0
            refine (named1_calls l lb ln lc k (nameMap (R ++ W)) wa.heap.size (w3.heap.size + 1) w3.heap.size (rn + wn) (w.heap.size + 1) w0 (HSR.out k hk) HRR.out (HH.out.below (below_deep HB6.out hbr)) (kept_cell hb0 (box_cell wa _ _ 0 _ rfl)) ?_ (kept_cell hbr g5) (kept_cell hbr g3) (HM.out.deep hbr) (nameMap_yes (List.mem_append_left _ hk))).mono ?_
            · rw [hb0.frozen (p := ⟨wa.heap.size, 0, none⟩) (by simp), World.frozen?_alloc_at _ _ _ _ rfl]
            · rintro e w' ⟨rfl, hb⟩
              exact ⟨⟨_, _, rfl, seen_num k l⟩, hb⟩
          have HRUN := hid (run_calls R W C rb rn rc wb wn wc cb cn cc 30 _ (fun k => num k l) _ (HD.out.below (below_deep HB6.out (grew wa (.cells #[.bool false] 4)))) HSR.out HSW.out HRZ.out named1_in HT1.out)
          clear f0 f1 f2 f3 f4
          go_wp2_with fail
          refine HRUN.out.mono ?_
          rintro e w7 ⟨r, m, f, vb, vn, vc, kb, kn, kc, hex, rfl, hv1, hv2, hb7⟩
          have hb7' := below_deep (grew wa (.cells #[.bool false] 4)) hb7
          have a0 := kept_cell hb7' g0
          have a1 := kept_cell hb7' g1
          have a2 := kept_cell hb7' g2
          have a3 := kept_cell hb7' g3
          have a4 := kept_cell hb7' g4
          have a5 := kept_cell hb7' g5
          have a6 := kept_cell hb7 (box_cell wa _ 4 0 (.bool false) rfl)
          have HM7 := hid (HM.out.deep hb7')
          have HB7 := hid (below_deep HB6.out hb7')
          have hv1' : Lies w7 4 vb vn vc (verCells (toldV f m W)) := hv1
          have hv2' : Texts w7 kb kn kc (keysOf (toldV f m W)) := hv2
          have hs7 := hb7'.size
          have hvn : vn = kn := by
            have h1 := hv1'.len
            have h2 := hv2'.len
            rw [verCells_length] at h1
            simp only [keysOf, strs, List.length_map] at h2
            omega
          have HEX := hid hex
          have HV2 := hid hv2'
          have HVF : Hid (f = true → vn = 0) := by
            intro e
            have h1 := hv1'.len
            rw [e] at h1
            simp [toldV, verCells] at h1
            omega
          have m0 : w.heap.size < w7.heap.size := by omega
          have m1 : w.heap.size + 1 < w7.heap.size := by omega
          have m2 : w.heap.size + 1 + 1 < w7.heap.size := by omega
          have m3 : w3.heap.size + 1 < w7.heap.size := by omega
          have m4 : wa.heap.size < w7.heap.size := by simpa using World.block_lt_of_cell? _ _ a6
          subst hvn
          clear hv1 hv2 hv1' hv2' hb7 hb7' g0 g1 g2 g3 g4 g5 hex HT1 HRUN HM HK
          go_wp2_with fail
          have HA7 : Hid ((w7.alloc (.cells #[.bool f, .int .i64 (r 0), .int .i64 (r 1), .int .i64 (r 2), .int .i64 (r 3)] 47)).heap.size = w7.heap.size + 1) := by show _ = _; rw [World.size_alloc]
          have HST : Hid (HK2 (w7.alloc (.cells #[.bool f, .int .i64 (r 0), .int .i64 (r 1), .int .i64 (r 2), .int .i64 (r 3)] 47)) ((w7.alloc (.cells #[.bool f, .int .i64 (r 0), .int .i64 (r 1), .int .i64 (r 2), .int .i64 (r 3)] 47)).alloc (.map #[] 0)) (w7.heap.size + 1) 0 (keysOf (toldV f m W))) := by
            refine ⟨?_, (Below.refl _ _).alloc (Nat.le_of_eq HA7.out.symm) _⟩
            have := MapIs.made (w7.alloc (.cells #[.bool f, .int .i64 (r 0), .int .i64 (r 1), .int .i64 (r 2), .int .i64 (r 3)] 47))
            rw [HA7.out] at this
            rw [List.take_zero, nameMap_nil]; exact this
          have hkl : (keysOf (toldV f m W)).length = vn := (Texts.count HV2.out).symm
          have hk5 : vn ≤ 5 := by
            rw [← hkl]
            cases hf : f
            · simp only [toldV, Bool.false_eq_true, if_false]
              rw [keysOf_vers]
              exact Nat.le_trans (List.length_filter_le _ _) (wKeys_len HRT.out.w)
            · simp [toldV, keysOf]
          have HND := hid (told_nodup (f := f) (m := m) (wKeys_nodup HRT.out.w))
          have HIN := hid (fun k => told_in (f := f) (m := m) (W := W) (k := k))
          have HWT := hid (HD.out.below HB7.out).tw
          have HWN := hid (Texts.count HD.out.tw)
          generalize hK : keysOf (toldV f m W) = K at *
          have HKE := hid hK
          clear hK
          have HKL := hid hkl
          clear hkl
          go_loopw [61] (fun i wr => ∃ j : Nat, j ≤ vn ∧ i = .int .i64 j ∧ Hid (HK2 (w7.alloc (.cells #[.bool f, .int .i64 (r 0), .int .i64 (r 1), .int .i64 (r 2), .int .i64 (r 3)] 47)) wr (w7.heap.size + 1) j K)) (fun i _ => vn - (intOf i).toNat)
          case atStart => exact ⟨0, Nat.zero_le _, rfl, HST⟩
          case round =>
            obtain ⟨j, hj, rfl, HK⟩ := hrel
            have n1 := below_cell HK.out.old (by omega) (box_past _ a1)
            have hszr : w7.heap.size + 1 < wr.heap.size := HK.out.map.lt
            by_cases hlt : j < vn
            · have hjl : j < K.length := by rw [HKL.out]; exact hlt
              have hi : (j : Int) < (vn : Int) := by omega
              have hkin : K.getD j default ∈ W := HIN.out _ (by rw [getD_in hjl]; exact List.getElem_mem _)
              have HKS := hid (HSW.out _ hkin)
              have HHAS := hid (has_iff.2 hkin)
              have hget := HK.out.map.get Try.underlying57 (boolZero wr) _ HKS.out
              rw [nameMap_getD, fresh_key HND.out hjl] at hget
              have HPUT := hid (fun w2 hm hg => HK2.put (w2 := w2) HK.out hjl hm hg)
              have HMP := hid HK.out.map
              have HQ : Hid (j < maxLen) := by show _ < _; unfold maxLen; omega
              have kr := HV2.out.run
              rcases kr with h | ⟨kb1, ko, rfl, hk1⟩
              · omega
              have hkb : kb1 < w7.heap.size := hk1.lt (by rw [strs_length]; omega)
              have kc1 := below_cell (w' := wr) HK.out.old (by omega) (box_past _ (hk1 j _ (strs_at hjl)))
              have hwpos : 0 < W.length := List.length_pos_of_mem hkin
              rcases HWT.out.run with h | ⟨wb1, wo, rfl, hw1⟩
              · have := HWN.out; omega
              have hwb : wb1 < w7.heap.size := hw1.lt (by rw [strs_length]; omega)
              have HWC : Hid (∀ t, t < W.length → wr.cell? ⟨wb1, wo + t, none⟩ = some (.string (W.getD t default))) := fun t ht => below_cell HK.out.old (by omega) (box_past _ (hw1 t _ (strs_at ht)))
              clear hk1 hw1 hkin
              generalize K.getD j default = kk at *
              go_wp2_with fail
              go_loop [19, 68] (fun b i => ∃ t : Nat, t ≤ wn ∧ i = .int .i64 t ∧ b = .bool (has (W.take t) kk)) (fun _ i => wn - (intOf i).toNat)
              case atStart => exact ⟨0, Nat.zero_le _, rfl, rfl⟩
              case round =>
                obtain ⟨t, ht, rfl, rfl⟩ := hrel
                by_cases htl : t < wn
                · have htl' : t < W.length := by rw [← HWN.out]; exact htl
                  have wc1 := HWC.out t htl'
                  have hti : (t : Int) < (wn : Int) := by omega
                  have HSN := hid (has_snoc (W.take t) (W.getD t default) kk)
                  rw [← take_snoc_getD htl'] at HSN
                  generalize has (W.take t) kk = hb at *
                  generalize W.getD t default = y at *
                  cases hb with
                  | true =>
                    go_wp2
                    go_round
                    case rel => exact ⟨t + 1, by omega, by go_num, by rw [HSN.out]; rfl⟩
                    case measure => simp [intOf]; omega
                  | false =>
                    by_cases hy : y = kk
                    · have hst := streq_true hy
                      have HY : Hid (decide (y = kk) = true) := by show _ = _; simpa using hy
                      clear hy
                      go_wp2
                      go_round
                      case rel => exact ⟨t + 1, by omega, by go_num, by rw [HSN.out, HY.out]; rfl⟩
                      case measure => simp [intOf]; omega
                    · have hst := streq_false hy
                      have HY : Hid (decide (y = kk) = false) := by show _ = _; simpa using hy
                      clear hy
                      go_wp2
                      go_round
                      case rel => exact ⟨t + 1, by omega, by go_num, by rw [HSN.out, HY.out]; rfl⟩
                      case measure => simp [intOf]; omega
                · obtain rfl : t = wn := by omega
                  rw [List.take_of_length_le (by rw [← HWN.out]; exact Nat.le_refl _), HHAS.out]
                  go_wp2_with (at_mapUpdate; refine wpList_put _ rfl _ _ _ 57 rfl 4 Try.underlying57 (w7.heap.size + 1) j (nameMap (K.take j)) rfl HMP.out HQ.out kk HKS.out (.bool true) rfl rfl ?_)
                  intro w8 hm8 hg8
                  have HNX := hid (HPUT.out w8 hm8 hg8)
                  clear hm8 hg8
                  go_wp2
                  go_roundw
                  case rel => exact ⟨j + 1, by omega, by go_num, HNX⟩
                  case measure => simp [intOf]; omega
            · obtain rfl : j = vn := by omega
              generalize wr = wc9 at *
              have n0 := below_cell HK.out.old (by omega) (box_past _ a0)
              have n2 := below_cell HK.out.old (by omega) (box_past _ a2)
              have n3 := below_cell HK.out.old (by omega) (box_past _ a3)
              have n4 := below_cell HK.out.old (by omega) (box_past _ a4)
              have n5 := below_cell HK.out.old (by omega) (box_past _ a5)
              have n6 := below_cell HK.out.old (by omega) (box_past _ a6)
              have q0 := below_cell HK.out.old (by omega) (box_cell w7 _ 47 0 (.bool f) rfl)
              have q1 := below_cell HK.out.old (by omega) (box_cell w7 _ 47 1 (.int .i64 (r 0)) rfl)
              have q2 := below_cell HK.out.old (by omega) (box_cell w7 _ 47 2 (.int .i64 (r 1)) rfl)
              have q3 := below_cell HK.out.old (by omega) (box_cell w7 _ 47 3 (.int .i64 (r 2)) rfl)
              have q4 := below_cell HK.out.old (by omega) (box_cell w7 _ 47 4 (.int .i64 (r 3)) rfl)
              have hb97 : Below w7.heap.size w7 wc9 := (grew w7 _).trans (HK.out.old.mono (by omega))
              have HB9 := hid (below_deep HB7.out hb97)
              have HV9 := hid (HV2.out.below (by decide) hb97)
              have hget := (HM7.out.deep hb97).get Try.underlying57 (boolZero wc9) other HO.out
              rw [nameMap_getD] at hget
              clear a0 a1 a2 a3 a4 a5 a6 hb97 HK
              cases ho : has (R ++ W) other with
              | true =>
                rw [ho] at hget
                cases hf : f with
                | true =>
                  obtain rfl : j = 0 := HVF.out hf
                  rw [hf] at q0
                  clear hf HVF
                  go_wp2
                  go_ret
                  exact ⟨rfl, HB9.out⟩
                | false =>
                  rw [hf] at q0
                  clear hf HVF
                  go_wp2
                  go_ret
                  exact ⟨rfl, HB9.out⟩
              | false =>
                rw [ho] at hget
                have HT2 : Hid (∀ k, k ∈ R → Tells wc9 31 #[.pointer (some ⟨w.heap.size + 1 + 1, 0, none⟩), .pointer (some ⟨w.heap.size + 1 + 1 + 1, 0, none⟩), .pointer (some ⟨w.heap.size + 1, 0, none⟩)] k (num k l)) := by
                  intro k hk w0 hb0
                  have hne : k ≠ other := fun e => by
                    have : has (R ++ W) other = true := has_iff.2 (List.mem_append_left _ (e ▸ hk))
                    rw [ho] at this; cases this
                  refine (named2_calls l lb ln lc k other (w.heap.size + 1 + 1) (w.heap.size + 1 + 1 + 1) (w.heap.size + 1) w0 hne HRR.out (HH.out.below (below_deep HB9.out hb0)) (kept_cell hb0 n4) (kept_cell hb0 n3)).mono ?_
                  rintro e w' ⟨rfl, hb⟩
                  exact ⟨⟨_, _, rfl, seen_num k l⟩, hb⟩
                have HRUN := hid (run_calls R W C rb rn rc wb wn wc cb cn cc 31 _ (fun k => num k l) _ (HD.out.below HB9.out) HSR.out HSW.out HRZ.out named2_in HT2.out)
                clear ho
                cases hf : f with
                | true =>
                  obtain rfl : j = 0 := HVF.out hf
                  rw [hf] at q0 HEX HKE
                  clear hf HVF
                  go_wp2_with fail
                  refine HRUN.out.mono ?_
                  rintro e w9 ⟨r', m', f', vb', vn', vc', kb', kn', kc', hex, rfl, hv1, hv2, hb9⟩
                  have hx : (r', m', f') = (r, m, true) := hex.symm.trans HEX.out
                  simp only [Prod.mk.injEq] at hx
                  obtain ⟨hx1, hx2, hx3⟩ := hx
                  subst hx1
                  subst hx2
                  subst hx3
                  have hv2' : Texts w9 kb' kn' kc' K := by rw [← HKE.out]; exact hv2
                  have hkn : kn' = 0 := (Texts.count hv2').trans HKL.out
                  have hvn : vn' = kn' := by
                    simp only [if_true] at hv1 hv2
                    have h1 := hv1.len
                    have h2 := hv2.len
                    rw [verCells_length] at h1
                    simp only [keysOf, strs, List.length_map] at h2
                    omega
                  subst hvn
                  subst hkn
                  have p0 := kept_cell hb9 q0
                  have p1 := kept_cell hb9 q1
                  have p2 := kept_cell hb9 q2
                  have p3 := kept_cell hb9 q3
                  have p4 := kept_cell hb9 q4
                  have hl9 : w7.heap.size < w9.heap.size := by simpa using World.block_lt_of_cell? _ _ p0
                  have harr := regsEq
                  have HSAME := hid (fun W9 (hb : Below w9.heap.size w9 W9) => sameTexts_calls K K kb _ kc kb' _ kc' W9 ((HV9.out.below (by decide) hb9).below (by decide) hb) (hv2'.below (by decide) hb))
                  simp only [decide_true] at HSAME
                  have HBZ := hid (below_deep HB9.out hb9)
                  clear hv1 hv2 hv2' hb9 hex q0 q1 q2 q3 q4
                  go_wp2_with fail
                  refine (HSAME.out _ (grew _ _)).mono ?_
                  rintro e w10 ⟨rfl, qq, rfl⟩
                  go_wp2
                  go_ret
                  exact ⟨rfl, below_drewN (below_deep HBZ.out (grew _ _)) _⟩
                | false =>
                  rw [hf] at q0 HEX HKE
                  clear hf HVF
                  go_wp2_with fail
                  refine HRUN.out.mono ?_
                  rintro e w9 ⟨r', m', f', vb', vn', vc', kb', kn', kc', hex, rfl, hv1, hv2, hb9⟩
                  have hx : (r', m', f') = (r, m, false) := hex.symm.trans HEX.out
                  simp only [Prod.mk.injEq] at hx
                  obtain ⟨hx1, hx2, hx3⟩ := hx
                  subst hx1
                  subst hx2
                  subst hx3
                  have hv2' : Texts w9 kb' kn' kc' K := by rw [← HKE.out]; exact hv2
                  have hkn : kn' = j := (Texts.count hv2').trans HKL.out
                  have hvn : vn' = kn' := by
                    simp only [Bool.false_eq_true, if_false] at hv1 hv2
                    have h1 := hv1.len
                    have h2 := hv2.len
                    rw [verCells_length] at h1
                    simp only [keysOf, strs, List.length_map] at h2
                    omega
                  subst hvn
                  subst hkn
                  have p0 := kept_cell hb9 q0
                  have p1 := kept_cell hb9 q1
                  have p2 := kept_cell hb9 q2
                  have p3 := kept_cell hb9 q3
                  have p4 := kept_cell hb9 q4
                  have hl9 : w7.heap.size < w9.heap.size := by simpa using World.block_lt_of_cell? _ _ p0
                  have harr := regsEq
                  have HSAME := hid (fun W9 (hb : Below w9.heap.size w9 W9) => sameTexts_calls K K kb _ kc kb' _ kc' W9 ((HV9.out.below (by decide) hb9).below (by decide) hb) (hv2'.below (by decide) hb))
                  simp only [decide_true] at HSAME
                  have HBZ := hid (below_deep HB9.out hb9)
                  clear hv1 hv2 hv2' hb9 hex q0 q1 q2 q3 q4
                  go_wp2_with fail
                  refine (HSAME.out _ (grew _ _)).mono ?_
                  rintro e w10 ⟨rfl, qq, rfl⟩
                  go_wp2
                  go_ret
                  exact ⟨rfl, below_drewN (below_deep HBZ.out (grew _ _)) _⟩
    · have t := ne_true hz2
      clear hz2
      generalize wrong l = q at *
      go_wp2
      go_ret
      exact ⟨rfl, HB3.out⟩
  · have t := ne_true hz
    clear hz
    generalize wDeed R W C = q at *
    go_wp2
    go_ret
    exact ⟨rfl, HB2.out⟩
end Go.Proofs.Ytkbgknlndcmgbaa
