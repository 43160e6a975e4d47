/-
  The walk of the statement ChainAhead: the call returns true and changes nothing that was there.
-/
import Derived.Test.YtfchjhdgnibnnabChainAlive
import Derived.Test.YtfchjhdgnibnnabRefRight
import Derived.Test.YtfchjhdgnibnnabChainMore
namespace Go.Proofs.Ytfchjhdgnibnnab
open Go.RowKit

theorem addC_fit {L : List Chn} {k : ByteArray} {by_ : Int} (h : RightC L) (hk : keyB k = true) (hl : ∀ v ∈ vsOf k L, v.by_ < by_) : FitC (addC k by_ L) := by
  refine ⟨(addC_srt h.srt).1, fun c hc => ?_, fun c hc => ?_, fun c hc => ?_⟩
  · rcases (addC_srt h.srt).2 c hc with e | ⟨c', hc', e⟩
    · rw [e]; exact hk
    · rw [e]; exact h.key c' hc'
  · rcases addC_mem h.srt hc with hc | rfl
    · exact h.rise c hc
    · exact rise_snoc (vsOf_rise h k) hl
  · rcases addC_mem h.srt hc with hc | rfl
    · exact h.fit.few c hc
    · have := ver_few (vsOf_rise h k) (vsOf_ver h k)
      simp only [List.length_append, List.length_cons, List.length_nil]
      omega
theorem setC_fit {L : List Chn} {k : ByteArray} {v : Ver} (h : FitC L) : FitC (setC k v L) := by
  refine ⟨setC_srt h.srt, fun c hc => ?_, fun c hc => ?_, fun c hc => ?_⟩
  · obtain ⟨c', hc', e, _⟩ := setC_mem hc; rw [e]; exact h.key c' hc'
  · obtain ⟨c', hc', _, e | e⟩ := setC_mem hc
    · rw [e]; exact h.rise c' hc'
    · rw [e]; exact setV_rise (h.rise c' hc')
  · obtain ⟨c', hc', _, e | e⟩ := setC_mem hc
    · rw [e]; exact h.few c' hc'
    · rw [e, setV_len]; exact h.few c' hc'
/-- The last one of a chain is ahead: all are. -/
theorem all_ahead {l : List Ver} {by_ : Int} (h : Rise l) (hl : 0 < l.length) (hlast : (l.getD (l.length - 1) default).by_ < by_) : ∀ v ∈ l, v.by_ < by_ := fun v hv => by
  obtain ⟨i, hi, rfl⟩ := mem_at hv
  by_cases e : i = l.length - 1
  · rw [e]; exact hlast
  · have := rise_lt h (i := i) (j := l.length - 1) (by omega) (by omega)
    omega
theorem vsOf_ahead {L : List Chn} {k : ByteArray} {by_ : Int} (h : RightC L) (hl : ∀ i, i < L.length → (L.getD i default).1 = k → ((L.getD i default).2.getD ((L.getD i default).2.length - 1) default).by_ < by_) : ∀ v ∈ vsOf k L, v.by_ < by_ := by
  by_cases e : vsOf k L = []
  · rw [e]; intro v hv; cases hv
  · have hm := vsOf_mem e
    obtain ⟨i, hi, hx⟩ := mem_at hm
    have h1 := hl i hi (by rw [hx])
    rw [hx] at h1
    exact all_ahead (vsOf_rise h k) (List.length_pos_iff.2 e) h1
/-- The five cells of a region's loads, and that memory has grown. -/
theorem four_keep {A w1 w2 : World} {b : Nat} {y x : Int} {m h : Bool} (k : w1.cell? ⟨b, 0, none⟩ = some (.int .i64 y) ∧ w1.cell? ⟨b, 1, none⟩ = some (.bool m) ∧ w1.cell? ⟨b, 2, none⟩ = some (.bool h) ∧ w1.cell? ⟨b, 3, none⟩ = some (.int .i64 x) ∧ Below A.heap.size A w1) (hb : Below w1.heap.size w1 w2) :
    w2.cell? ⟨b, 0, none⟩ = some (.int .i64 y) ∧ w2.cell? ⟨b, 1, none⟩ = some (.bool m) ∧ w2.cell? ⟨b, 2, none⟩ = some (.bool h) ∧ w2.cell? ⟨b, 3, none⟩ = some (.int .i64 x) ∧ Below A.heap.size A w2 :=
  ⟨kept_cell hb k.1, kept_cell hb k.2.1, kept_cell hb k.2.2.1, kept_cell hb k.2.2.2.1, below_deep k.2.2.2.2 hb⟩
theorem verField1 (y : Int) (m h : Bool) (x : Int) (w : World) : (Instr.field 45 (.agg #[.int .i64 y, .bool m, .bool h, .int .i64 x]) 1).run Try.prog w = .ok (.bool m) w := by kernel_rfl
theorem held5B {a b c d : Prop} {B : Nat} {A w' : World} (h : a ∧ b ∧ c ∧ d ∧ Below B A w') : Below B A w' := h.2.2.2.2

set_option maxHeartbeats 8000000 in
set_option maxRecDepth 100000 in
theorem chainAhead_calls (L : List Chn) (base : Option Addr) (n c : Nat) (k : ByteArray) (by_ x : Int) (o : ByteArray) (at_ : Int) (w : World) (ha : ChainsIn w base n c L) (hk : k.size ≤ maxLen) (hoz : o.size ≤ maxLen) :
    Calls Try.prog 5 #[.slice base n c, .string k, .int .i64 by_, .int .i64 x, .string o, .int .i64 at_] w fun e w' => e = .returned (.bool true) ∧ Below w.heap.size w w' := by
  have HA := hid ha
  have HKEY := hid (fun W => refKey_calls k W hk)
  have HOKEY := hid (fun W => refKey_calls o W hoz)
  have HKZ := hid hk
  have HLN := hid ha.len
  clear ha hk hoz
  go_enter Try.func5, Try.ntmps5
  go_wp2_with fail
  refine (calive_calls w).mono ?_
  rintro e w1 ⟨rfl, hb1⟩
  have HB1 := hid hb1
  have HRC := hid (refRightC_calls L base n c w1 (HA.out.below hb1))
  clear hb1
  go_wp2_with fail
  refine HRC.out.mono ?_
  rintro e w2 ⟨q, rfl, hq, hb2⟩
  have HB2 := hid (below_deep HB1.out hb2)
  have HQ := hid hq
  clear hb2 hq HRC
  cases q with
  | false =>
    go_wp2
    go_ret
    exact ⟨rfl, HB2.out⟩
  | true =>
  have HR := hid (HQ.out.1 rfl)
  clear HQ
  have hcn : n ≤ 387420489 := by rw [HLN.out]; exact HR.out.fit.count
  cases hkb : keyB k with
  | false =>
    rw [hkb] at HKEY
    clear hkb
    go_wp2_with fail
    refine (HKEY.out _).mono ?_
    rintro e w3 ⟨rfl, rfl⟩
    go_wp2
    go_ret
    exact ⟨rfl, HB2.out⟩
  | true =>
  rw [hkb] at HKEY
  have HKB := hid hkb
  clear hkb
  go_wp2_with fail
  refine (HKEY.out _).mono ?_
  rintro e w3 ⟨rfl, rfl⟩
  cases hob : keyB o with
  | false =>
    rw [hob] at HOKEY
    clear hob
    go_wp2_with fail
    refine (HOKEY.out _).mono ?_
    rintro e w3 ⟨rfl, rfl⟩
    go_wp2
    go_ret
    exact ⟨rfl, HB2.out⟩
  | true =>
  rw [hob] at HOKEY
  clear hob
  go_wp2_with fail
  refine (HOKEY.out _).mono ?_
  rintro e w3 ⟨rfl, rfl⟩
  by_cases h1 : by_ < 0
  · have d1 : decide (by_ < 0) = true := by simpa using h1
    go_wp2
    go_ret
    exact ⟨rfl, HB2.out⟩
  have d1 : decide (by_ < 0) = false := by simpa using h1
  by_cases h2 : 1000000 < by_
  · have d2 : decide (1000000 < by_) = true := by simpa using h2
    go_wp2
    go_ret
    exact ⟨rfl, HB2.out⟩
  have d2 : decide (1000000 < by_) = false := by simpa using h2
  by_cases h3 : at_ < 0
  · have d3 : decide (at_ < 0) = true := by simpa using h3
    go_wp2
    go_ret
    exact ⟨rfl, HB2.out⟩
  have d3 : decide (at_ < 0) = false := by simpa using h3
  by_cases h4 : 2000000 < at_
  · have d4 : decide (2000000 < at_) = true := by simpa using h4
    go_wp2
    go_ret
    exact ⟨rfl, HB2.out⟩
  have d4 : decide (2000000 < at_) = false := by simpa using h4
  cases hbo : (o.toList == k.toList) with
  | true =>
    by_cases h5 : by_ < at_
    · have d5 : decide (by_ < at_) = true := by simpa using h5
      go_wp2
      go_ret
      exact ⟨rfl, HB2.out⟩
    have d5 : decide (by_ < at_) = false := by simpa using h5
    have HOK : Hid (o = k → at_ ≤ by_) := fun _ => by omega
    clear h3 h4 h5
    go_wp2
    go_loopw [61] (fun i wr => ∃ j : Nat, j ≤ n ∧ i = .int .i64 j ∧ Hid (∀ i, i < j → (L.getD i default).1 = k → ((L.getD i default).2.getD ((L.getD i default).2.length - 1) default).by_ < by_) ∧ Hid (Below w.heap.size w wr)) (fun i _ => n - (intOf i).toNat)
    case atStart => exact ⟨0, Nat.zero_le _, rfl, fun i hi => absurd hi (Nat.not_lt_zero _), HB2⟩
    case round =>
      obtain ⟨j, hj, rfl, HJ, HBR⟩ := hrel
      by_cases hlt : j < n
      · have hjl : j < L.length := by rw [← HLN.out]; exact hlt
        have hi : (j : Int) < (n : Int) := by omega
        rcases (HA.out.below HBR.out).run with h | ⟨b, of, rfl, hrun⟩
        · omega
        obtain ⟨vb, vn, vc, c0, c1, hvv, hkz⟩ := hrun j hlt
        have hbw : b < wr.heap.size := by simpa using World.block_lt_of_cell? _ _ c0
        have HVC := hid (Vers.count hvv)
        have hne := HR.out.some_ _ (memC hjl)
        have hvn : 0 < vn := by rw [Vers.count hvv]; exact List.length_pos_iff.2 hne
        have hfew := HR.out.fit.few _ (memC hjl)
        rw [← Vers.count hvv] at hfew
        obtain ⟨m, rfl⟩ : ∃ m, vn = m + 1 := ⟨vn - 1, by omega⟩
        have HVL : Hid ((L.getD j default).2.length - 1 = m) := by show _ = _; rw [← HVC.out]; omega
        rcases hvv.run with h | ⟨b2, o2, rfl, hvr⟩
        · omega
        obtain ⟨v0, _⟩ := Vers.cells hvr (i := m) (by rw [← HVC.out]; omega)
        have hbv : b2 < wr.heap.size := by simpa using World.block_lt_of_cell? _ _ v0
        have HNX : Hid (((L.getD j default).1 = k → ((L.getD j default).2.getD m default).by_ < by_) → ∀ i, i < j + 1 → (L.getD i default).1 = k → ((L.getD i default).2.getD ((L.getD i default).2.length - 1) default).by_ < by_) := fun h0 i hi he => by
          rcases Nat.lt_succ_iff_lt_or_eq.1 hi with h | rfl
          · exact HJ.out i h he
          · rw [HVL.out]; exact h0 he
        have hwr : IntKind.i64.wrap (m : Int) = (m : Int) := by rw [IntKind.wrap_i64]; omega
        have hmi : (m : Int) < (m : Int) + 1 := by omega
        obtain ⟨key, hkey⟩ : ∃ key, (L.getD j default).1 = key := ⟨_, rfl⟩
        obtain ⟨ly, hly⟩ : ∃ ly, ((L.getD j default).2.getD m default).by_ = ly := ⟨_, rfl⟩
        rw [hkey] at c0 HNX
        rw [hly] at v0 HNX
        clear hvv hkz hrun hvr hne hkey hly HVL HVC
        by_cases he : key = k
        · subst he
          have t1 : (key.toList == key.toList) = true := by simp
          by_cases hl : by_ ≤ ly
          · have d5 : decide (by_ ≤ ly) = true := by simpa using hl
            go_wp2
            go_ret
            exact ⟨rfl, below_deep HBR.out (grew _ _)⟩
          · have d5 : decide (by_ ≤ ly) = false := by simpa using hl
            have HN2 := hid (HNX.out (fun _ => by omega))
            clear HNX
            go_wp2
            go_roundw
            case rel => exact ⟨j + 1, by omega, by go_num, HN2, below_deep HBR.out (grew _ _)⟩
            case measure => simp [intOf]; omega
        · have t1 : (key.toList == k.toList) = false := by simpa using fun e => he (toList_inj e)
          have HN2 := hid (HNX.out (fun e => absurd e he))
          clear HNX he
          go_wp2
          go_roundw
          case rel => exact ⟨j + 1, by omega, by go_num, HN2, below_deep HBR.out (grew _ _)⟩
          case measure => simp [intOf]; omega
      · obtain rfl : j = n := by omega
        generalize wr = wa at *
        have HFA := hid (addC_fit HR.out HKB.out (vsOf_ahead HR.out (by rw [← HLN.out]; exact HJ.out)))
        have HFS := hid (setC_fit (k := k) (v := (by_, true, true, x)) HFA.out)
        have HE1 := hid (add_other (by_ := by_) HR.out.srt HOK.out)
        have HE2 : Hid (before (setC k (by_, true, true, x) (addC k by_ L)) o at_ = before L o at_) := by
          show _ = _
          rw [set_other_ver (v := (by_, true, true, x)) HOK.out, HE1.out]
        have HE3 := hid (add_own (k := k) (by_ := by_) HR.out.srt)
        have HE4 := hid (set_own (k := k) (v := (by_, true, true, x)) HR.out.srt)
        simp only [Ver.by_] at HE4
        have HAA := hid (HA.out.below HBR.out)
        have PAD := hid (addC_calls L base j c k by_ wa HR.out.fit HAA.out HKZ.out)
        clear HJ HA HKEY HOKEY
        go_wp2_with fail
        refine PAD.out.mono ?_
        rintro e w3 ⟨b3, n3, c3, rfl, h3, hb3⟩
        have HB3 := hid (below_deep HBR.out hb3)
        have HX3 := hid h3
        have HA3 := hid (HAA.out.below hb3)
        have PSE := hid (setC_calls (addC k by_ L) b3 n3 c3 k by_ true true x w3 HFA.out h3 HKZ.out)
        clear h3 hb3 PAD HAA
        go_wp2_with fail
        refine PSE.out.mono ?_
        rintro e w4 ⟨b4, n4, c4, rfl, h4, hb4⟩
        have HB4 := hid (below_deep HB3.out hb4)
        have HX4 := hid (HX3.out.below hb4)
        have HY4 := hid h4
        have PB := hid (before_calls L base j c o at_ w4 HR.out.fit (HA3.out.below hb4))
        clear h4 hb4 PSE HX3 HA3
        go_wp2_with fail
        refine PB.out.mono ?_
        rintro e w5 ⟨ya, ma, hha, xa, hea, rfl, hb5⟩
        have HB5 := hid (below_deep HB4.out hb5)
        have HG5 := hid (grew w5 (.cells #[.int .i64 ya, .bool ma, .bool hha, .int .i64 xa] 45))
        have HX5 := hid ((HX4.out.below hb5).below HG5.out)
        have HY5 := hid ((HY4.out.below hb5).below HG5.out)
        have HB6 := hid (below_deep HB5.out HG5.out)
        have HS0 : Hid ((fun w' => w'.cell? ⟨w5.heap.size, 0, none⟩ = some (.int .i64 ya) ∧ w'.cell? ⟨w5.heap.size, 1, none⟩ = some (.bool ma) ∧ w'.cell? ⟨w5.heap.size, 2, none⟩ = some (.bool hha) ∧ w'.cell? ⟨w5.heap.size, 3, none⟩ = some (.int .i64 xa) ∧ Below (w5.alloc (.cells #[.int .i64 ya, .bool ma, .bool hha, .int .i64 xa] 45)).heap.size (w5.alloc (.cells #[.int .i64 ya, .bool ma, .bool hha, .int .i64 xa] 45)) w') (w5.alloc (.cells #[.int .i64 ya, .bool ma, .bool hha, .int .i64 xa] 45)).drew) :=
          ⟨box_cell w5 #[.int .i64 ya, .bool ma, .bool hha, .int .i64 xa] _ 0 _ rfl, box_cell w5 #[.int .i64 ya, .bool ma, .bool hha, .int .i64 xa] _ 1 _ rfl, box_cell w5 #[.int .i64 ya, .bool ma, .bool hha, .int .i64 xa] _ 2 _ rfl, box_cell w5 #[.int .i64 ya, .bool ma, .bool hha, .int .i64 xa] _ 3 _ rfl, (Below.refl _ _).drew⟩
        have P1 := hid (fun W h => before_calls (addC k by_ L) b3 n3 c3 o at_ W HFA.out h)
        have P2 := hid (fun W h => before_calls (setC k (by_, true, true, x) (addC k by_ L)) b4 n4 c4 o at_ W HFS.out h)
        have P3 := hid (fun W h => before_calls (addC k by_ L) b3 n3 c3 k (by_ + 1) W HFA.out h)
        have P4 := hid (fun W h => before_calls (setC k (by_, true, true, x) (addC k by_ L)) b4 n4 c4 k (by_ + 1) W HFS.out h)
        rw [HE1.out, hea] at P1
        rw [HE2.out, hea] at P2
        rw [HE3.out] at P3
        rw [HE4.out] at P4
        clear hb5 hea PB HX4 HY4
        have t1 : (ya == ya) = true := by simp
        have t2 : (ma == ma) = true := by simp
        have t3 : (hha == hha) = true := by simp
        have t4 : (xa == xa) = true := by simp
        have t5 : (by_ == by_) = true := by simp
        have t6 : (x == x) = true := by simp
        have hfld := verField1
        have hwr1 : IntKind.i64.wrap (by_ + 1) = by_ + 1 := by rw [IntKind.wrap_i64]; omega
        go_wp2
        go_region_held3 (fun w' => w'.cell? ⟨w5.heap.size, 0, none⟩ = some (.int .i64 ya) ∧ w'.cell? ⟨w5.heap.size, 1, none⟩ = some (.bool ma) ∧ w'.cell? ⟨w5.heap.size, 2, none⟩ = some (.bool hha) ∧ w'.cell? ⟨w5.heap.size, 3, none⟩ = some (.int .i64 xa) ∧ Below (w5.alloc (.cells #[.int .i64 ya, .bool ma, .bool hha, .int .i64 xa] 45)).heap.size (w5.alloc (.cells #[.int .i64 ya, .bool ma, .bool hha, .int .i64 xa] 45)) w')
          (first
            | exact HS0.out
            | exact four_keep (by assumption) (by assumption))
          (first
            | (go_at_call_of 18 (Value.slice b3 n3 c3); go_at_call_of 18 (Value.string o); refine (P1.out _ ?_).mono ?_; exact HX5.out.below (held5B (by assumption)); rintro e w6 ⟨y6, m6, h6, x6, he6, rfl, hb6⟩; simp only [Prod.mk.injEq] at he6; obtain ⟨rfl, rfl, rfl, rfl⟩ := he6)
            | (go_at_call_of 18 (Value.slice b4 n4 c4); go_at_call_of 18 (Value.string o); refine (P2.out _ ?_).mono ?_; exact HY5.out.below (held5B (by assumption)); rintro e w7 ⟨y7, m7, h7, x7, he7, rfl, hb7⟩; simp only [Prod.mk.injEq] at he7; obtain ⟨rfl, rfl, rfl, rfl⟩ := he7)
            | (go_at_call_of 18 (Value.slice b3 n3 c3); refine (P3.out _ ?_).mono ?_; exact HX5.out.below (held5B (by assumption)); rintro e w8 ⟨y8, m8, h8, x8, he8, rfl, hb8⟩; simp only [newV, Prod.mk.injEq] at he8; obtain ⟨rfl, rfl, rfl, rfl⟩ := he8)
            | (go_at_call_of 18 (Value.slice b4 n4 c4); refine (P4.out _ ?_).mono ?_; exact HY5.out.below (held5B (by assumption)); rintro e w9 ⟨y9, m9, h9, x9, he9, rfl, hb9⟩; simp only [Prod.mk.injEq] at he9; obtain ⟨rfl, rfl, rfl, rfl⟩ := he9))
        have HB9 := hid (below_deep HB6.out (below_deep (below_deep (below_deep (below_deep (Below.refl _ _).drew hb6) hb7) hb8) hb9))
        go_wp2
        go_ret
        exact ⟨rfl, HB9.out⟩
  | false =>
    have HOK : Hid (o = k → at_ ≤ by_) := fun e => by rw [e] at hbo; simp at hbo
    clear h3 h4
    go_wp2
    go_loopw [61] (fun i wr => ∃ j : Nat, j ≤ n ∧ i = .int .i64 j ∧ Hid (∀ i, i < j → (L.getD i default).1 = k → ((L.getD i default).2.getD ((L.getD i default).2.length - 1) default).by_ < by_) ∧ Hid (Below w.heap.size w wr)) (fun i _ => n - (intOf i).toNat)
    case atStart => exact ⟨0, Nat.zero_le _, rfl, fun i hi => absurd hi (Nat.not_lt_zero _), HB2⟩
    case round =>
      obtain ⟨j, hj, rfl, HJ, HBR⟩ := hrel
      by_cases hlt : j < n
      · have hjl : j < L.length := by rw [← HLN.out]; exact hlt
        have hi : (j : Int) < (n : Int) := by omega
        rcases (HA.out.below HBR.out).run with h | ⟨b, of, rfl, hrun⟩
        · omega
        obtain ⟨vb, vn, vc, c0, c1, hvv, hkz⟩ := hrun j hlt
        have hbw : b < wr.heap.size := by simpa using World.block_lt_of_cell? _ _ c0
        have HVC := hid (Vers.count hvv)
        have hne := HR.out.some_ _ (memC hjl)
        have hvn : 0 < vn := by rw [Vers.count hvv]; exact List.length_pos_iff.2 hne
        have hfew := HR.out.fit.few _ (memC hjl)
        rw [← Vers.count hvv] at hfew
        obtain ⟨m, rfl⟩ : ∃ m, vn = m + 1 := ⟨vn - 1, by omega⟩
        have HVL : Hid ((L.getD j default).2.length - 1 = m) := by show _ = _; rw [← HVC.out]; omega
        rcases hvv.run with h | ⟨b2, o2, rfl, hvr⟩
        · omega
        obtain ⟨v0, _⟩ := Vers.cells hvr (i := m) (by rw [← HVC.out]; omega)
        have hbv : b2 < wr.heap.size := by simpa using World.block_lt_of_cell? _ _ v0
        have HNX : Hid (((L.getD j default).1 = k → ((L.getD j default).2.getD m default).by_ < by_) → ∀ i, i < j + 1 → (L.getD i default).1 = k → ((L.getD i default).2.getD ((L.getD i default).2.length - 1) default).by_ < by_) := fun h0 i hi he => by
          rcases Nat.lt_succ_iff_lt_or_eq.1 hi with h | rfl
          · exact HJ.out i h he
          · rw [HVL.out]; exact h0 he
        have hwr : IntKind.i64.wrap (m : Int) = (m : Int) := by rw [IntKind.wrap_i64]; omega
        have hmi : (m : Int) < (m : Int) + 1 := by omega
        obtain ⟨key, hkey⟩ : ∃ key, (L.getD j default).1 = key := ⟨_, rfl⟩
        obtain ⟨ly, hly⟩ : ∃ ly, ((L.getD j default).2.getD m default).by_ = ly := ⟨_, rfl⟩
        rw [hkey] at c0 HNX
        rw [hly] at v0 HNX
        clear hvv hkz hrun hvr hne hkey hly HVL HVC
        by_cases he : key = k
        · subst he
          have t1 : (key.toList == key.toList) = true := by simp
          by_cases hl : by_ ≤ ly
          · have d5 : decide (by_ ≤ ly) = true := by simpa using hl
            go_wp2
            go_ret
            exact ⟨rfl, below_deep HBR.out (grew _ _)⟩
          · have d5 : decide (by_ ≤ ly) = false := by simpa using hl
            have HN2 := hid (HNX.out (fun _ => by omega))
            clear HNX
            go_wp2
            go_roundw
            case rel => exact ⟨j + 1, by omega, by go_num, HN2, below_deep HBR.out (grew _ _)⟩
            case measure => simp [intOf]; omega
        · have t1 : (key.toList == k.toList) = false := by simpa using fun e => he (toList_inj e)
          have HN2 := hid (HNX.out (fun e => absurd e he))
          clear HNX he
          go_wp2
          go_roundw
          case rel => exact ⟨j + 1, by omega, by go_num, HN2, below_deep HBR.out (grew _ _)⟩
          case measure => simp [intOf]; omega
      · obtain rfl : j = n := by omega
        generalize wr = wa at *
        have HFA := hid (addC_fit HR.out HKB.out (vsOf_ahead HR.out (by rw [← HLN.out]; exact HJ.out)))
        have HFS := hid (setC_fit (k := k) (v := (by_, true, true, x)) HFA.out)
        have HE1 := hid (add_other (by_ := by_) HR.out.srt HOK.out)
        have HE2 : Hid (before (setC k (by_, true, true, x) (addC k by_ L)) o at_ = before L o at_) := by
          show _ = _
          rw [set_other_ver (v := (by_, true, true, x)) HOK.out, HE1.out]
        have HE3 := hid (add_own (k := k) (by_ := by_) HR.out.srt)
        have HE4 := hid (set_own (k := k) (v := (by_, true, true, x)) HR.out.srt)
        simp only [Ver.by_] at HE4
        have HAA := hid (HA.out.below HBR.out)
        have PAD := hid (addC_calls L base j c k by_ wa HR.out.fit HAA.out HKZ.out)
        clear HJ HA HKEY HOKEY
        go_wp2_with fail
        refine PAD.out.mono ?_
        rintro e w3 ⟨b3, n3, c3, rfl, h3, hb3⟩
        have HB3 := hid (below_deep HBR.out hb3)
        have HX3 := hid h3
        have HA3 := hid (HAA.out.below hb3)
        have PSE := hid (setC_calls (addC k by_ L) b3 n3 c3 k by_ true true x w3 HFA.out h3 HKZ.out)
        clear h3 hb3 PAD HAA
        go_wp2_with fail
        refine PSE.out.mono ?_
        rintro e w4 ⟨b4, n4, c4, rfl, h4, hb4⟩
        have HB4 := hid (below_deep HB3.out hb4)
        have HX4 := hid (HX3.out.below hb4)
        have HY4 := hid h4
        have PB := hid (before_calls L base j c o at_ w4 HR.out.fit (HA3.out.below hb4))
        clear h4 hb4 PSE HX3 HA3
        go_wp2_with fail
        refine PB.out.mono ?_
        rintro e w5 ⟨ya, ma, hha, xa, hea, rfl, hb5⟩
        have HB5 := hid (below_deep HB4.out hb5)
        have HG5 := hid (grew w5 (.cells #[.int .i64 ya, .bool ma, .bool hha, .int .i64 xa] 45))
        have HX5 := hid ((HX4.out.below hb5).below HG5.out)
        have HY5 := hid ((HY4.out.below hb5).below HG5.out)
        have HB6 := hid (below_deep HB5.out HG5.out)
        have HS0 : Hid ((fun w' => w'.cell? ⟨w5.heap.size, 0, none⟩ = some (.int .i64 ya) ∧ w'.cell? ⟨w5.heap.size, 1, none⟩ = some (.bool ma) ∧ w'.cell? ⟨w5.heap.size, 2, none⟩ = some (.bool hha) ∧ w'.cell? ⟨w5.heap.size, 3, none⟩ = some (.int .i64 xa) ∧ Below (w5.alloc (.cells #[.int .i64 ya, .bool ma, .bool hha, .int .i64 xa] 45)).heap.size (w5.alloc (.cells #[.int .i64 ya, .bool ma, .bool hha, .int .i64 xa] 45)) w') (w5.alloc (.cells #[.int .i64 ya, .bool ma, .bool hha, .int .i64 xa] 45)).drew) :=
          ⟨box_cell w5 #[.int .i64 ya, .bool ma, .bool hha, .int .i64 xa] _ 0 _ rfl, box_cell w5 #[.int .i64 ya, .bool ma, .bool hha, .int .i64 xa] _ 1 _ rfl, box_cell w5 #[.int .i64 ya, .bool ma, .bool hha, .int .i64 xa] _ 2 _ rfl, box_cell w5 #[.int .i64 ya, .bool ma, .bool hha, .int .i64 xa] _ 3 _ rfl, (Below.refl _ _).drew⟩
        have P1 := hid (fun W h => before_calls (addC k by_ L) b3 n3 c3 o at_ W HFA.out h)
        have P2 := hid (fun W h => before_calls (setC k (by_, true, true, x) (addC k by_ L)) b4 n4 c4 o at_ W HFS.out h)
        have P3 := hid (fun W h => before_calls (addC k by_ L) b3 n3 c3 k (by_ + 1) W HFA.out h)
        have P4 := hid (fun W h => before_calls (setC k (by_, true, true, x) (addC k by_ L)) b4 n4 c4 k (by_ + 1) W HFS.out h)
        rw [HE1.out, hea] at P1
        rw [HE2.out, hea] at P2
        rw [HE3.out] at P3
        rw [HE4.out] at P4
        clear hb5 hea PB HX4 HY4
        have t1 : (ya == ya) = true := by simp
        have t2 : (ma == ma) = true := by simp
        have t3 : (hha == hha) = true := by simp
        have t4 : (xa == xa) = true := by simp
        have t5 : (by_ == by_) = true := by simp
        have t6 : (x == x) = true := by simp
        have hfld := verField1
        have hwr1 : IntKind.i64.wrap (by_ + 1) = by_ + 1 := by rw [IntKind.wrap_i64]; omega
        go_wp2
        go_region_held3 (fun w' => w'.cell? ⟨w5.heap.size, 0, none⟩ = some (.int .i64 ya) ∧ w'.cell? ⟨w5.heap.size, 1, none⟩ = some (.bool ma) ∧ w'.cell? ⟨w5.heap.size, 2, none⟩ = some (.bool hha) ∧ w'.cell? ⟨w5.heap.size, 3, none⟩ = some (.int .i64 xa) ∧ Below (w5.alloc (.cells #[.int .i64 ya, .bool ma, .bool hha, .int .i64 xa] 45)).heap.size (w5.alloc (.cells #[.int .i64 ya, .bool ma, .bool hha, .int .i64 xa] 45)) w')
          (first
            | exact HS0.out
            | exact four_keep (by assumption) (by assumption))
          (first
            | (go_at_call_of 18 (Value.slice b3 n3 c3); go_at_call_of 18 (Value.string o); refine (P1.out _ ?_).mono ?_; exact HX5.out.below (held5B (by assumption)); rintro e w6 ⟨y6, m6, h6, x6, he6, rfl, hb6⟩; simp only [Prod.mk.injEq] at he6; obtain ⟨rfl, rfl, rfl, rfl⟩ := he6)
            | (go_at_call_of 18 (Value.slice b4 n4 c4); go_at_call_of 18 (Value.string o); refine (P2.out _ ?_).mono ?_; exact HY5.out.below (held5B (by assumption)); rintro e w7 ⟨y7, m7, h7, x7, he7, rfl, hb7⟩; simp only [Prod.mk.injEq] at he7; obtain ⟨rfl, rfl, rfl, rfl⟩ := he7)
            | (go_at_call_of 18 (Value.slice b3 n3 c3); refine (P3.out _ ?_).mono ?_; exact HX5.out.below (held5B (by assumption)); rintro e w8 ⟨y8, m8, h8, x8, he8, rfl, hb8⟩; simp only [newV, Prod.mk.injEq] at he8; obtain ⟨rfl, rfl, rfl, rfl⟩ := he8)
            | (go_at_call_of 18 (Value.slice b4 n4 c4); refine (P4.out _ ?_).mono ?_; exact HY5.out.below (held5B (by assumption)); rintro e w9 ⟨y9, m9, h9, x9, he9, rfl, hb9⟩; simp only [Prod.mk.injEq] at he9; obtain ⟨rfl, rfl, rfl, rfl⟩ := he9))
        have HB9 := hid (below_deep HB6.out (below_deep (below_deep (below_deep (below_deep (Below.refl _ _).drew hb6) hb7) hb8) hb9))
        go_wp2
        go_ret
        exact ⟨rfl, HB9.out⟩
end Go.Proofs.Ytfchjhdgnibnnab
