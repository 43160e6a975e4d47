/-
  The walk of the statement DeedTells: the call returns true and changes nothing that was there.
-/
import Derived.Test.YtkbgknlndcmgbaaRefDo
import Derived.Test.YtkbgknlndcmgbaaRefWrong
import Derived.Test.YtkbgknlndcmgbaaLawTells
namespace Go.Proofs.Ytkbgknlndcmgbaa
open Go.RowKit

theorem six_keep {A w1 w2 : World} {b c : Nat} {x0 x1 x2 y0 y1 y2 : Value} (h : w1.cell? ⟨b, 0, none⟩ = some x0 ∧ w1.cell? ⟨b, 1, none⟩ = some x1 ∧ w1.cell? ⟨b, 2, none⟩ = some x2 ∧ w1.cell? ⟨c, 0, none⟩ = some y0 ∧ w1.cell? ⟨c, 1, none⟩ = some y1 ∧ w1.cell? ⟨c, 2, none⟩ = some y2 ∧ Below A.heap.size A w1) (hb : Below w1.heap.size w1 w2) :
    w2.cell? ⟨b, 0, none⟩ = some x0 ∧ w2.cell? ⟨b, 1, none⟩ = some x1 ∧ w2.cell? ⟨b, 2, none⟩ = some x2 ∧ w2.cell? ⟨c, 0, none⟩ = some y0 ∧ w2.cell? ⟨c, 1, none⟩ = some y1 ∧ w2.cell? ⟨c, 2, none⟩ = some y2 ∧ Below A.heap.size A w2 := by
  obtain ⟨h0, h1, h2, h3, h4, h5, h6⟩ := h
  exact ⟨kept_cell hb h0, kept_cell hb h1, kept_cell hb h2, kept_cell hb h3, kept_cell hb h4, kept_cell hb h5, below_deep h6 hb⟩
theorem tri_keep {A w1 w2 : World} {b0 o0 b1 o1 b2 o2 : Nat} {x0 x1 x2 : Value} (h : w1.cell? ⟨b0, o0, none⟩ = some x0 ∧ w1.cell? ⟨b1, o1, none⟩ = some x1 ∧ w1.cell? ⟨b2, o2, none⟩ = some x2 ∧ Below A.heap.size A w1) (hb : Below w1.heap.size w1 w2) :
    w2.cell? ⟨b0, o0, none⟩ = some x0 ∧ w2.cell? ⟨b1, o1, none⟩ = some x1 ∧ w2.cell? ⟨b2, o2, none⟩ = some x2 ∧ Below A.heap.size A w2 :=
  ⟨kept_cell hb h.1, kept_cell hb h.2.1, kept_cell hb h.2.2.1, below_deep h.2.2.2 hb⟩
theorem held4B {a b c : Prop} {B : Nat} {A w' : World} (h : a ∧ b ∧ c ∧ Below B A w') : Below B A w' := h.2.2.2
theorem keysOf_getD (V : List (ByteArray × Option Int)) (j : Nat) : (keysOf V).getD j default = (V.getD j default).1 := by
  unfold keysOf
  by_cases h : j < V.length
  · simp [List.getD, h]
  · simp [List.getD, h]; rfl
theorem held7 {a b c d e f : Prop} {B : Nat} {A w' : World} (h : a ∧ b ∧ c ∧ d ∧ e ∧ f ∧ Below B A w') : Below B A w' := h.2.2.2.2.2.2

set_option maxHeartbeats 8000000 in
set_option maxRecDepth 100000 in
theorem deedTells_calls (R W : List ByteArray) (C : List Ins) (R' W' : List ByteArray) (C' : List Ins) (l : List Row) (rb : Option Addr) (rn rc : Nat) (wb : Option Addr) (wn wc : Nat) (cb : Option Addr) (cn cc : Nat) (rb' : Option Addr) (rn' rc' : Nat) (wb' : Option Addr) (wn' wc' : Nat) (cb' : Option Addr) (cn' cc' : Nat) (lb : Option Addr) (ln lc : Nat) (w : World)
    (hd : DeedIn w rb rn rc wb wn wc cb cn cc R W C) (hd' : DeedIn w rb' rn' rc' wb' wn' wc' cb' cn' cc' R' W' C') (hr : SmallT R) (hw : SmallT W) (hh : Holds w lb ln lc l) (hsm : Small l)
    (h1 : rn * 16 ≤ 140737488355328) (h2 : wn * 16 ≤ 140737488355328) (h3 : cn * 48 ≤ 140737488355328) (hn : (ln + 40) * 24 ≤ 140737488355328) :
    Calls Try.prog 6 #[.agg #[.slice rb rn rc, .slice wb wn wc, .slice cb cn cc], .agg #[.slice rb' rn' rc', .slice wb' wn' wc', .slice cb' cn' cc'], .slice lb ln lc] w fun e w' => e = .returned (.bool true) ∧ Below w.heap.size w w' := by
  have hmf : ∀ (fn : Fn) (first cap : Array Value) (w : World), (Instr.makeFunc fn first cap).run Try.prog w = .ok (.func fn first cap) w := fun _ _ _ _ => rfl
  have HD := hid hd
  have HD' := hid hd'
  have HSR := hid hr
  have HSW := hid hw
  have HH := hid hh
  have HSM := hid hsm
  have H1 := hid h1
  have H2 := hid h2
  have H3 := hid h3
  have HN := hid hn
  clear hd hd' hr hw hh hsm h1 h2 h3 hn
  go_enter Try.func6, Try.ntmps6
  go_wp2
  obtain ⟨A, hA⟩ : ∃ A, A = ((w.alloc (.cells #[.slice rb rn rc, .slice wb wn wc, .slice cb cn cc] 41)).alloc (.cells #[.slice rb' rn' rc', .slice wb' wn' wc', .slice cb' cn' cc'] 41)).alloc (.cells #[.slice lb ln lc] 23) := ⟨_, rfl⟩
  have HBA : Hid (Below w.heap.size w A) := by show Below _ _ _; rw [hA]; exact below_deep (below_deep (grew _ _) (grew _ _)) (grew _ _)
  have x0 : A.cell? ⟨w.heap.size, 0, none⟩ = some (.slice rb rn rc) := by rw [hA]; exact box_past _ (box_past _ (box_cell w _ _ 0 _ rfl))
  have x1 : A.cell? ⟨w.heap.size, 1, none⟩ = some (.slice wb wn wc) := by rw [hA]; exact box_past _ (box_past _ (box_cell w _ _ 1 _ rfl))
  have x2 : A.cell? ⟨w.heap.size, 2, none⟩ = some (.slice cb cn cc) := by rw [hA]; exact box_past _ (box_past _ (box_cell w _ _ 2 _ rfl))
  have y : ∀ j v, (#[Value.slice rb' rn' rc', .slice wb' wn' wc', .slice cb' cn' cc'])[j]? = some v → A.cell? ⟨w.heap.size + 1, j, none⟩ = some v := fun j v h => by
    have := box_past (.cells #[.slice lb ln lc] 23) (box_cell (w.alloc (.cells #[.slice rb rn rc, .slice wb wn wc, .slice cb cn cc] 41)) _ 41 j v h)
    rw [World.size_alloc] at this; rw [hA]; exact this
  have y0 := y 0 _ rfl
  have y1 := y 1 _ rfl
  have y2 := y 2 _ rfl
  have z0 : A.cell? ⟨w.heap.size + 1 + 1, 0, none⟩ = some (.slice lb ln lc) := by
    have := box_cell ((w.alloc (.cells #[.slice rb rn rc, .slice wb wn wc, .slice cb cn cc] 41)).alloc (.cells #[.slice rb' rn' rc', .slice wb' wn' wc', .slice cb' cn' cc'] 41)) #[.slice lb ln lc] 23 0 (.slice lb ln lc) rfl
    rw [World.size_alloc, World.size_alloc] at this; rw [hA]; exact this
  rw [← hA]
  have HDA := hid (HD.out.below HBA.out)
  have HDA' := hid (HD'.out.below HBA.out)
  clear hA y
  have HS0 : Hid ((fun w' => w'.cell? ⟨w.heap.size, 0, none⟩ = some (.slice rb rn rc) ∧ w'.cell? ⟨w.heap.size, 1, none⟩ = some (.slice wb wn wc) ∧ w'.cell? ⟨w.heap.size, 2, none⟩ = some (.slice cb cn cc) ∧ w'.cell? ⟨w.heap.size + 1, 0, none⟩ = some (.slice rb' rn' rc') ∧ w'.cell? ⟨w.heap.size + 1, 1, none⟩ = some (.slice wb' wn' wc') ∧ w'.cell? ⟨w.heap.size + 1, 2, none⟩ = some (.slice cb' cn' cc') ∧ Below A.heap.size A w') A.drew) :=
    ⟨x0, x1, x2, y0, y1, y2, (Below.refl _ _).drew⟩
  have HWD := hid (fun W1 (hb : Below A.heap.size A W1) => wrongDeed_calls R W C rb rn rc wb wn wc cb cn cc W1 (HDA.out.below hb) HSR.out HSW.out)
  have HRD := hid (fun W1 (hb : Below A.heap.size A W1) => refWrongDeed_calls R W C rb rn rc wb wn wc cb cn cc W1 (HDA.out.below hb) HSR.out HSW.out)
  have HSD := hid (fun W1 (hb : Below A.heap.size A W1) => same_calls2 R W C R' W' C' rb rn rc wb wn wc cb cn cc rb' rn' rc' wb' wn' wc' cb' cn' cc' W1 (HDA.out.below hb) (HDA'.out.below hb))
  have HFD := hid (fun W1 (hb : Below A.heap.size A W1) => refSameDeed_calls R W C R' W' C' rb rn rc wb wn wc cb cn cc rb' rn' rc' wb' wn' wc' cb' cn' cc' W1 (HDA.out.below hb) (HDA'.out.below hb))
  generalize hqd : wDeed R W C = qd at *
  have HQD := hid hqd
  clear hqd
  generalize (decide (R = R') && (decide (W = W') && decide (C = C'))) = sm at *
  have tq : (qd != qd) = false := by simp
  have tq2 : (qd == qd) = true := by simp
  have ts : (sm != sm) = false := by simp
  have ts2 : (sm == sm) = true := by simp
  go_region_held3 (fun w' => w'.cell? ⟨w.heap.size, 0, none⟩ = some (.slice rb rn rc) ∧ w'.cell? ⟨w.heap.size, 1, none⟩ = some (.slice wb wn wc) ∧ w'.cell? ⟨w.heap.size, 2, none⟩ = some (.slice cb cn cc) ∧ w'.cell? ⟨w.heap.size + 1, 0, none⟩ = some (.slice rb' rn' rc') ∧ w'.cell? ⟨w.heap.size + 1, 1, none⟩ = some (.slice wb' wn' wc') ∧ w'.cell? ⟨w.heap.size + 1, 2, none⟩ = some (.slice cb' cn' cc') ∧ Below A.heap.size A w')
    (first
      | exact HS0.out
      | exact six_keep (by assumption) (by assumption))
    (first
      | (go_at_call 21; refine (HWD.out _ ?_).mono ?_; exact held7 (by assumption); rintro e w2 ⟨rfl, hb2⟩)
      | (go_at_call 22; refine (HRD.out _ ?_).mono ?_; exact held7 (by assumption); rintro e w3 ⟨rfl, hb3⟩)
      | (go_at_call 23; refine (HSD.out _ ?_).mono ?_; exact held7 (by assumption); rintro e w4 ⟨rfl, hb4⟩)
      | (go_at_call 25; refine (own_calls R W C rb rn rc wb wn wc cb cn cc _ ?_ H1.out H2.out H3.out).mono ?_; exact HDA.out.below (held7 (by assumption)); rintro e w6 ⟨rb6, rc6, wb6, wc6, cb6, cc6, rfl, hd6, hb6⟩)
      | (go_at_call 24; refine (refSameDeed_calls R W C R W C rb6 rn rc6 wb6 wn wc6 cb6 cn cc6 rb rn rc wb wn wc cb cn cc _ ?_ ?_).mono ?_; exact hd6; exact HDA.out.below (held7 (by assumption)); simp only [decide_true, Bool.and_true]; rintro e w7 ⟨rfl, hb7⟩)
      | (go_at_call 24; refine (HFD.out _ ?_).mono ?_; exact held7 (by assumption); rintro e w5 ⟨rfl, hb5⟩))
  have hbB := below_deep (below_deep (below_deep (below_deep (below_deep (below_deep (Below.refl A.heap.size A).drew hb2) hb3) hb4) hb5) hb6) hb7
  have HB7 := hid (below_deep HBA.out hbB)
  have u0 := kept_cell hbB x0
  have u1 := kept_cell hbB x1
  have u2 := kept_cell hbB x2
  have u5 := kept_cell hbB z0
  have HRD7 := hid (HRD.out w7 hbB)
  clear hb2 hb3 hb4 hb5 hb6 hb7 hd6 HWD HRD HSD HFD HS0 x0 x1 x2 y0 y1 y2 z0
  go_wp2_with fail
  refine HRD7.out.mono ?_
  rintro e w8 ⟨rfl, hb8⟩
  have HB8 := hid (below_deep HB7.out hb8)
  by_cases hz : qd = 0
  · subst hz
    have a0 := kept_cell hb8 u0
    have a1 := kept_cell hb8 u1
    have a2 := kept_cell hb8 u2
    have a5 := kept_cell hb8 u5
    clear u0 u1 u2 u5 hb8
    go_wp2_with fail
    refine (refWrong_holds l lb ln lc w8 HSM.out (HH.out.below HB8.out)).mono ?_
    rintro e w9 ⟨rfl, hb9⟩
    have HB9 := hid (below_deep HB8.out hb9)
    by_cases hz2 : wrong l = 0
    · rw [hz2]
      have HRT := hid (right_deed HQD.out)
      have HRR := hid (right_of hz2).srt
      have c0 := kept_cell hb9 a0
      have c1 := kept_cell hb9 a1
      have c2 := kept_cell hb9 a2
      have c5 := kept_cell hb9 a5
      clear a0 a1 a2 a5 hb9 hz2
      have HT1 : Hid (∀ k, k ∈ R → Tells w9 27 #[.pointer (some ⟨w.heap.size + 1 + 1, 0, none⟩)] k (num k l)) := by
        intro k _ w0 hb0
        refine (tellsView_calls l lb ln lc k (w.heap.size + 1 + 1) w0 HRR.out (HH.out.below (below_deep HB9.out hb0)) (kept_cell hb0 c5)).mono ?_
        rintro e w' ⟨rfl, hb⟩
        exact ⟨⟨_, _, rfl, seen_num k l⟩, hb⟩
      have HRUN := hid (run_calls R W C rb rn rc wb wn wc cb cn cc 27 _ (fun k => num k l) w9 (HD.out.below HB9.out) HSR.out HSW.out HQD.out tellsView_in HT1.out)
      go_wp2_with fail
      refine HRUN.out.mono ?_
      rintro e w10 ⟨r, m, f, vb, vn, vc, kb, kn, kc, hex, rfl, hv1, hv2, hb10⟩
      have hv1' : Lies w10 4 vb vn vc (verCells (toldV f m W)) := hv1
      have hv2' : Texts w10 kb kn kc (keysOf (toldV f m W)) := hv2
      have hvn : vn = kn := by
        have h1 := hv1'.len
        have h2 := hv2'.len
        rw [verCells_length] at h1
        simp only [keysOf, strs, List.length_map] at h2
        omega
      subst hvn
      have HVL : Hid ((toldV f m W).length = vn) := by
        show _ = _
        have h1 := hv1'.len
        rw [verCells_length] at h1
        omega
      have e0 := kept_cell hb10 c0
      have e1 := kept_cell hb10 c1
      have e2 := kept_cell hb10 c2
      have e5 := kept_cell hb10 c5
      have HB10 := hid (below_deep HB9.out hb10)
      have HEX := hid hex
      have HV1 := hid hv1'
      have HV2 := hid hv2'
      have m0 : w.heap.size < w10.heap.size := by simpa using World.block_lt_of_cell? _ _ e0
      have m5 : w.heap.size + 1 + 1 < w10.heap.size := by simpa using World.block_lt_of_cell? _ _ e5
      clear c0 c1 c2 c5 hv1 hv2 hv1' hv2' hb10 hex HT1 HRUN
      have HDO := hid (fun W1 (hb : Below w10.heap.size w10 W1) => refDo_calls R W C l rb rn rc wb wn wc cb cn cc lb ln lc W1 (HD.out.below (below_deep HB10.out hb)) HRT.out (HH.out.below (below_deep HB10.out hb)) HRR.out (Nat.le_trans (Nat.mul_le_mul_right 24 (by omega)) HN.out))
      go_wp2_with fail
      refine (HDO.out _ (grew _ _)).mono ?_
      rintro e w11 ⟨nb, nn, nc, L, r', m', f', hex', rfl, hL, hLt, hLf, hb11⟩
      have hx : (r', m', f') = (r, m, f) := hex'.symm.trans HEX.out
      simp only [Prod.mk.injEq] at hx
      obtain ⟨hx1, hx2, hx3⟩ := hx
      subst hx1
      subst hx2
      subst hx3
      have g0 := kept_cell hb11 (box_cell w10 _ 47 0 (.bool f') rfl)
      have g1 := kept_cell hb11 (box_cell w10 _ 47 1 (.int .i64 (r' 0)) rfl)
      have g2 := kept_cell hb11 (box_cell w10 _ 47 2 (.int .i64 (r' 1)) rfl)
      have g3 := kept_cell hb11 (box_cell w10 _ 47 3 (.int .i64 (r' 2)) rfl)
      have g4 := kept_cell hb11 (box_cell w10 _ 47 4 (.int .i64 (r' 3)) rfl)
      have hb1011 := below_deep (grew w10 _) hb11
      have g5 := kept_cell hb1011 e5
      have m10 : w10.heap.size < w11.heap.size := by simpa using World.block_lt_of_cell? _ _ g0
      have m11 : w.heap.size + 1 + 1 < w11.heap.size := by omega
      have HB11 := hid (below_deep HB10.out hb1011)
      have HV1a := hid (HV1.out.below (by decide) hb1011)
      have HV2a := hid (HV2.out.below (by decide) hb1011)
      have HWANT : Hid (L = (toldV f' m' W).foldl putOne l) := by
        show _ = _
        cases hf : f' with
        | true => rw [hLt hf]; rfl
        | false =>
          exact (putAll_one (W := W) HRR.out (hLf hf) (fun k hk => exec_keys (fun k => num k l) W C 0 zeroR zeroM (right_keys HRT.out) (fun k h => by simp [zeroM] at h) k (by rw [HEX.out]; exact hk))).symm
      have HL := hid hL
      have harr := regsEq
      clear hL hLt hLf hb11 hb1011 hex' e0 e1 e2 e5
      go_wp2_with fail
      have hv5 : vn ≤ 5 := by
        have h1 := HVL.out
        have h2 : (toldV f' m' W).length ≤ 5 := by
          cases f'
          · simp only [toldV, Bool.false_eq_true, if_false]
            exact Nat.le_trans (List.length_filterMap_le _ _) (wKeys_len HRT.out.w)
          · simp [toldV]
        omega
      have HVK := hid (fun j => (keysOf_getD (toldV f' m' W) j))
      generalize toldV f' m' W = V at *
      have HXZ := hid (HH.out.below (below_deep HB11.out (grew w11 (.cells #[.bool f', .int .i64 (r' 0), .int .i64 (r' 1), .int .i64 (r' 2), .int .i64 (r' 3)] 47))))
      go_loopw [12, 70] (fun xv i wr => ∃ (j n2 c2 : Nat) (b2 : Option Addr), j ≤ vn ∧ xv = .slice b2 n2 c2 ∧ i = .int .i64 j ∧ n2 ≤ ln + j ∧ Hid (Holds wr b2 n2 c2 ((V.take j).foldl putOne l)) ∧ Hid (Below (w11.alloc (.cells #[.bool f', .int .i64 (r' 0), .int .i64 (r' 1), .int .i64 (r' 2), .int .i64 (r' 3)] 47)).heap.size (w11.alloc (.cells #[.bool f', .int .i64 (r' 0), .int .i64 (r' 1), .int .i64 (r' 2), .int .i64 (r' 3)] 47)) wr)) (fun _ i _ => vn - (intOf i).toNat)
      case atStart => exact ⟨0, ln, lc, lb, Nat.zero_le _, rfl, rfl, Nat.le_refl _, HXZ, Below.refl _ _⟩
      case round =>
        obtain ⟨j, n2, c2, b2, hj, rfl, rfl, hn2, HX, HBR⟩ := hrel
        have hbz := below_deep (grew w11 (.cells #[.bool f', .int .i64 (r' 0), .int .i64 (r' 1), .int .i64 (r' 2), .int .i64 (r' 3)] 47)) HBR.out
        by_cases hlt : j < vn
        · have hjl : j < V.length := by rw [HVL.out]; exact hlt
          have hi : (j : Int) < (vn : Int) := by omega
          have HSRT := hid (over_foldl (V.take j) l l (fun _ => none) (Over.start HRR.out)).srt
          have HBY : Hid ((n2 + 1) * 24 ≤ 140737488355328) := Nat.le_trans (Nat.mul_le_mul_right 24 (by omega)) HN.out
          rcases HV1a.out.run with h | ⟨vbb, vo, rfl, hq1⟩
          · omega
          rcases HV2a.out.run with h | ⟨kbb, ko, rfl, hq2⟩
          · omega
          have hat := verCells_at V j hjl
          have kc1 := kept_cell hbz (hq2 j _ (strs_at (by simpa [keysOf] using hjl)))
          rw [HVK.out j] at kc1
          have HFO : Hid ((V.take (j + 1)).foldl putOne l = putOne ((V.take j).foldl putOne l) (V.getD j default)) := by
            show _ = _
            rw [take_snoc_getD hjl, List.foldl_append]; rfl
          have v0 : ∀ i u, (verCell (V.getD j default).2)[i]? = some u → wr.cell? ⟨vbb, vo + j * 4 + i, none⟩ = some u := fun i u hu => by
            have := kept_cell hbz (hq1 _ _ (hat i u hu))
            rw [← Nat.add_assoc] at this; exact this
          have hvb : vbb < wr.heap.size := by
            have := hq1.lt (by rw [verCells_length]; omega)
            have := hbz.size
            omega
          have hkb : kbb < wr.heap.size := by simpa using World.block_lt_of_cell? _ _ kc1
          clear hq1 hq2 hat
          rcases hx : V.getD j default with ⟨key, o⟩
          rw [hx] at v0 kc1 HFO
          clear hx
          simp only at kc1
          cases o with
          | none =>
            have c0 := v0 0 _ rfl
            have c1 := v0 1 _ rfl
            have c2' := v0 2 _ rfl
            have c3 := v0 3 _ rfl
            rw [Nat.add_zero] at c0
            clear v0
            have HS0 : Hid ((fun w' => w'.cell? ⟨kbb, ko + j, none⟩ = some (.string key) ∧ w'.cell? ⟨wr.heap.size, 2, none⟩ = some (.bool false) ∧ w'.cell? ⟨wr.heap.size, 3, none⟩ = some (.int .i64 0) ∧ Below (wr.alloc (.cells #[.int .i64 0, .bool true, .bool false, .int .i64 0] 55)).heap.size (wr.alloc (.cells #[.int .i64 0, .bool true, .bool false, .int .i64 0] 55)) w') (wr.alloc (.cells #[.int .i64 0, .bool true, .bool false, .int .i64 0] 55)).drew) := ⟨box_past _ kc1, box_cell wr #[.int .i64 0, .bool true, .bool false, .int .i64 0] _ 2 _ rfl, box_cell wr #[.int .i64 0, .bool true, .bool false, .int .i64 0] _ 3 _ rfl, (Below.refl _ _).drew⟩
            have HXY := hid (HX.out.below (grew wr (.cells #[.int .i64 0, .bool true, .bool false, .int .i64 0] 55)))
            have HNX2 : Hid ((V.take (j + 1)).foldl putOne l = del key ((V.take j).foldl putOne l)) := by
              show _ = _
              rw [HFO.out]; rfl
            go_wp2
            go_region_held3 (fun w' => w'.cell? ⟨kbb, ko + j, none⟩ = some (.string key) ∧ w'.cell? ⟨wr.heap.size, 2, none⟩ = some (.bool false) ∧ w'.cell? ⟨wr.heap.size, 3, none⟩ = some (.int .i64 0) ∧ Below (wr.alloc (.cells #[.int .i64 0, .bool true, .bool false, .int .i64 0] 55)).heap.size (wr.alloc (.cells #[.int .i64 0, .bool true, .bool false, .int .i64 0] 55)) w')
              (first
                | exact HS0.out
                | exact tri_keep (by assumption) (by assumption))
              (first
                | (go_at_call 18; refine (refPut_false ((V.take j).foldl putOne l) b2 n2 c2 key 0 _ HBY.out HSRT.out ?_).mono ?_; exact HXY.out.below (held4B (by assumption)); rintro e w13 ⟨b3, n3, c3, rfl, h3, hb13⟩))
            have HX3 : Hid (Holds w13 b3 n3 c3 ((V.take (j + 1)).foldl putOne l)) := by show Holds _ _ _ _ _; rw [HNX2.out]; exact h3
            have hl3 : n3 ≤ ln + (j + 1) := by
              have h4 : n3 = (del key ((V.take j).foldl putOne l)).length := h3.len
              have h5 := del_length key ((V.take j).foldl putOne l)
              have h6 := HX.out.len
              omega
            have HB13 := hid (below_deep HBR.out (below_deep (grew wr (.cells #[.int .i64 0, .bool true, .bool false, .int .i64 0] 55)) ((Below.refl _ _).drew.trans hb13)))
            clear h3 hb13
            go_wp2
            go_roundw
            case rel => exact ⟨j + 1, n3, c3, b3, by omega, rfl, by go_num, hl3, HX3, HB13⟩
            case measure => simp [intOf]; omega
          | some n =>
            have c0 := v0 0 _ rfl
            have c1 := v0 1 _ rfl
            have c2' := v0 2 _ rfl
            have c3 := v0 3 _ rfl
            rw [Nat.add_zero] at c0
            clear v0
            have HS0 : Hid ((fun w' => w'.cell? ⟨kbb, ko + j, none⟩ = some (.string key) ∧ w'.cell? ⟨wr.heap.size, 2, none⟩ = some (.bool true) ∧ w'.cell? ⟨wr.heap.size, 3, none⟩ = some (.int .i64 n) ∧ Below (wr.alloc (.cells #[.int .i64 0, .bool true, .bool true, .int .i64 n] 55)).heap.size (wr.alloc (.cells #[.int .i64 0, .bool true, .bool true, .int .i64 n] 55)) w') (wr.alloc (.cells #[.int .i64 0, .bool true, .bool true, .int .i64 n] 55)).drew) := ⟨box_past _ kc1, box_cell wr #[.int .i64 0, .bool true, .bool true, .int .i64 n] _ 2 _ rfl, box_cell wr #[.int .i64 0, .bool true, .bool true, .int .i64 n] _ 3 _ rfl, (Below.refl _ _).drew⟩
            have HXY := hid (HX.out.below (grew wr (.cells #[.int .i64 0, .bool true, .bool true, .int .i64 n] 55)))
            have HNX2 : Hid ((V.take (j + 1)).foldl putOne l = ins key n ((V.take j).foldl putOne l)) := by
              show _ = _
              rw [HFO.out]; rfl
            go_wp2
            go_region_held3 (fun w' => w'.cell? ⟨kbb, ko + j, none⟩ = some (.string key) ∧ w'.cell? ⟨wr.heap.size, 2, none⟩ = some (.bool true) ∧ w'.cell? ⟨wr.heap.size, 3, none⟩ = some (.int .i64 n) ∧ Below (wr.alloc (.cells #[.int .i64 0, .bool true, .bool true, .int .i64 n] 55)).heap.size (wr.alloc (.cells #[.int .i64 0, .bool true, .bool true, .int .i64 n] 55)) w')
              (first
                | exact HS0.out
                | exact tri_keep (by assumption) (by assumption))
              (first
                | (go_at_call 18; refine (refPut_true ((V.take j).foldl putOne l) b2 n2 c2 key n _ HBY.out HSRT.out ?_).mono ?_; exact HXY.out.below (held4B (by assumption)); rintro e w13 ⟨b3, n3, c3, rfl, h3, hb13⟩))
            have HX3 : Hid (Holds w13 b3 n3 c3 ((V.take (j + 1)).foldl putOne l)) := by show Holds _ _ _ _ _; rw [HNX2.out]; exact h3
            have hl3 : n3 ≤ ln + (j + 1) := by
              have h4 : n3 = (ins key n ((V.take j).foldl putOne l)).length := h3.len
              have h5 := ins_length key n ((V.take j).foldl putOne l)
              have h6 := HX.out.len
              omega
            have HB13 := hid (below_deep HBR.out (below_deep (grew wr (.cells #[.int .i64 0, .bool true, .bool true, .int .i64 n] 55)) ((Below.refl _ _).drew.trans hb13)))
            clear h3 hb13
            go_wp2
            go_roundw
            case rel => exact ⟨j + 1, n3, c3, b3, by omega, rfl, by go_num, hl3, HX3, HB13⟩
            case measure => simp [intOf]; omega
        · obtain rfl : j = vn := by omega
          have HFIN := hid (same_holds ((V.take j).foldl putOne l) b2 nb n2 nn c2 nc wr HX.out (by
            rw [List.take_of_length_le (by rw [HVL.out]; exact Nat.le_refl _), ← HWANT.out]; exact HL.out.below hbz))
          have HBF := hid (below_deep HB11.out hbz)
          clear hbz
          go_wp2_with fail
          refine HFIN.out.mono ?_
          rintro e w14 ⟨rfl, hb14⟩
          go_wp2
          go_ret
          exact ⟨rfl, below_deep HBF.out hb14⟩
    · have t := ne_true hz2
      clear hz2
      generalize wrong l = q at *
      go_wp2
      go_ret
      exact ⟨rfl, HB9.out⟩
  · have t := ne_true hz
    clear hz
    go_wp2
    go_ret
    exact ⟨rfl, HB8.out⟩
end Go.Proofs.Ytkbgknlndcmgbaa
