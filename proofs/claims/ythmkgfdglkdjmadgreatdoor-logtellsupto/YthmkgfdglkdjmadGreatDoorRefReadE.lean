/-
  Parse of entries, the document's own, walked.
-/
import Derived.Test.YthmkgfdglkdjmadGreatDoorLogRead
import Derived.Test.YthmkgfdglkdjmadGreatDoorRefParse
import Derived.Deep.RegionHeld3
import Derived.Deep.DeepCutAuto
namespace Go.Proofs.YthmkgfdglkdjmadGreatDoor
open Go.RowKit

theorem refReadE_results (tmps : Array Value) (b : Nat) (w : World) {a : Option Addr} {n c : Nat} {m e : Int} (h2 : tmps.getD 2 undef = .pointer (some ⟨b, 0, none⟩)) (h3 : tmps.getD 3 undef = .int .i64 e) (k0 : w.cell? ⟨b, 0, none⟩ = some (.int .i64 m)) (k1 : w.cell? ⟨b, 1, none⟩ = some (.slice a n c)) :
    (results Tryz.f29 tmps).run Tryz.prog w = .ok (.tuple #[.agg #[.int .i64 m, .slice a n c], .int .i64 e]) w := by
  have h2' : tmps[2]?.getD undef = .pointer (some ⟨b, 0, none⟩) := by simpa using h2
  have h3' : tmps[3]?.getD undef = .int .i64 e := by simpa using h3
  simp [results, Tryz.results29, go_sem, h2', h3', k0, k1]
theorem held3c {a b c : Prop} (h : a ∧ b ∧ c) : c := h.2.2

set_option maxHeartbeats 16000000 in
set_option maxRecDepth 100000 in
theorem refReadE_calls (l : T) (b : Option Addr) (n c : Nat) (w : World) (hG : GroundN w) (hn : n ≤ 1048576) (h : BytesIn w b n c l) :
    Calls Tryz.prog 29 #[.slice b n c] w fun e w' => EntTold w (readE l) e w' := by
  have HN := hid (BytesIn.count h)
  have hc := h.hdr.le
  have hcm := h.hdr.max
  unfold maxLen at hcm
  have HB := hid h
  have HG := hid hG
  clear h hG
  by_cases h3 : n < 3
  · have HQ : Hid (readE l = (8, noEnt)) := by show _ = _; unfold readE; rw [if_pos (by rw [← HN.out]; exact h3)]
    have h3' : (n : Int) < 3 := by omega
    go_enter Tryz.func29, Tryz.ntmps29
    go_wp2
    refine bodyPost_ret (refReadE_results _ w.heap.size _ rfl rfl (box_cell w _ _ 0 _ rfl) (box_cell w _ _ 1 _ rfl)) rfl ?_
    exact ⟨_, _, _, by rw [HQ.out]; rfl, by rw [HQ.out]; exact deeds_nil _, grew _ _⟩
  obtain ⟨b1, o1, rfl, hr1⟩ : ∃ b1 o1, b = some ⟨b1, o1, none⟩ ∧ Run w b1 o1 (bytesC l) := by
    rcases HB.out.run with h | h
    · omega
    · exact h
  obtain ⟨k, rfl⟩ : ∃ k, n = k + 2 := ⟨n - 2, by omega⟩
  have hk1 : 1 ≤ k := by omega
  have h3' : ¬ (((k + 2 : Nat) : Int) < 3) := by omega
  have hlen : l.length = k + 2 := HN.out.symm
  have HBX := hid (Box.new w #[.int .i64 0, .slice none 0 0] 61)
  have HBA := hid (grew w (.cells #[.int .i64 0, .slice none 0 0] 61))
  have HAT : Hid (∀ W, Below w.heap.size w W → ∀ i, i < k + 2 → W.cell? ⟨b1, o1 + i, none⟩ = some (.int .u8 ((l.getD i 0).toNat : Int))) := fun W hW i hi => by
    have := hr1 i _ (bytesC_at (by omega))
    exact kept_cell hW this
  have hb1l : b1 < w.heap.size := hr1.lt (by rw [bytesC_length]; omega)
  clear hr1
  go_enter Tryz.func29, Tryz.ntmps29
  go_upto_region 4 with fail
  generalize w.alloc (.cells #[.int .i64 0, .slice none 0 0] 61) = A at *
  have HS := hid (fun W (hW : Below A.heap.size A W) => refSum_calls (l.take (k)) (some ⟨b1, o1, none⟩) k c W (bytes_cut (i := 0) (j := k) (HB.out.below (by decide) (below_deep HBA.out hW)) (Nat.zero_le _) (by omega) (by omega)))
  have HK : Hid (∀ W, Below A.heap.size A W → (W.cell? ⟨b1, o1 + (k), none⟩ = some (.int .u8 ((l.getD (k) 0).toNat : Int)) ∧ W.cell? ⟨b1, o1 + (k + 1), none⟩ = some (.int .u8 ((l.getD (k + 1) 0).toNat : Int)) ∧ Below A.heap.size A W)) := fun W hW => ⟨HAT.out W (below_deep HBA.out hW) _ (by omega), HAT.out W (below_deep HBA.out hW) _ (by omega), hW⟩
  have i0 : (0 : Int) ≤ (k : Int) := by omega
  have i1 : (k : Int) ≤ (c : Int) := by omega
  have i2 : (k : Int) < (k : Int) + 2 := by omega
  have i3 : (0 : Int) ≤ (k : Int) + 1 := by omega
  have i4 : (k : Int) + 1 < (k : Int) + 2 := by omega
  have i5 : IntKind.i64.wrap ((k : Int) + 1) = (k : Int) + 1 := by rw [IntKind.wrap_i64]; omega
  have i6 : ((k + 1 : Nat) : Int) = (k : Int) + 1 := by omega
  have hy1 := (l.getD (k) 0).toNat_lt
  have hy2 := (l.getD (k + 1) 0).toNat_lt
  have hal : b1 < A.heap.size := Nat.lt_of_lt_of_le hb1l HBA.out.size
  have HSO : Hid (sumOk l = decide (sumT (l.take (k)) = 256 * (l.getD (k) 0).toNat + (l.getD (k + 1) 0).toNat)) := by
    show _ = _
    unfold sumOk
    rw [show l.length - 2 = k by omega, show l.length - 1 = k + 1 by omega]
  generalize (l.getD (k) 0).toNat = y1 at *
  generalize (l.getD (k + 1) 0).toNat = y2 at *
  have hsl := sumT_lt (l.take (k))
  generalize sumT (l.take (k)) = t at *
  have w1 : IntKind.i64.wrap (y1 : Int) = (y1 : Int) := by rw [IntKind.wrap_i64]; omega
  have w2 : IntKind.i64.wrap (256 * (y1 : Int)) = 256 * (y1 : Int) := by rw [IntKind.wrap_i64]; omega
  have w3 : IntKind.i64.wrap (y2 : Int) = (y2 : Int) := by rw [IntKind.wrap_i64]; omega
  have w4 : IntKind.i64.wrap (256 * (y1 : Int) + (y2 : Int)) = 256 * (y1 : Int) + (y2 : Int) := by rw [IntKind.wrap_i64]; omega
  go_region_held3 (fun w' => w'.cell? ⟨b1, o1 + (k), none⟩ = some (.int .u8 (y1 : Int)) ∧ w'.cell? ⟨b1, o1 + (k + 1), none⟩ = some (.int .u8 (y2 : Int)) ∧ Below A.heap.size A w')
    (first
      | exact HK.out _ (step_drew (Below.refl _ _))
      | exact HK.out _ (by assumption))
    (first
      | (go_at_call 23; refine (HS.out _ ?_).mono ?_; (exact held3c (by assumption)); rintro e w1 ⟨rfl, rfl⟩))
  have HB1 := hid (below_deep HBA.out (step_drew (Below.refl A.heap.size A)))
  have HX := hid (HBX.out.drew)
  clear HK HS i0 i1 i2 i3 i4 i5 i6 w1 w2 w3 w4 hal HBX HBA
  generalize A.drew = A1 at *
  have HRE : Hid (readE l = if sumOk l = false then (2, noEnt) else if 1 < k ∧ (l.getD (k - 1) 0).toNat ≠ 10 then (2, noEnt) else
      if (readLines (linesT [] ((l.take k).drop 1))).1 = 0 then (if wrongE ((l.getD 0 0).toNat, (readLines (linesT [] ((l.take k).drop 1))).2) = 0 then (0, ((l.getD 0 0).toNat, (readLines (linesT [] ((l.take k).drop 1))).2)) else (wrongE ((l.getD 0 0).toNat, (readLines (linesT [] ((l.take k).drop 1))).2), noEnt)) else ((readLines (linesT [] ((l.take k).drop 1))).1, noEnt)) := by
    show _ = _
    unfold readE
    rw [if_neg (by omega), show l.length - 2 = k by omega, show l.length - 3 = k - 1 by omega]
    have e : (3 < l.length ∧ l.getD (k - 1) 0 ≠ 10) ↔ (1 < k ∧ (l.getD (k - 1) 0).toNat ≠ 10) := by
      have e10 : l.getD (k - 1) 0 ≠ 10 ↔ (l.getD (k - 1) 0).toNat ≠ 10 := ⟨fun h h2 => h (UInt8.toNat_inj.1 h2), fun h h2 => h (by rw [h2]; rfl)⟩
      rw [e10]
      constructor
      · rintro ⟨h1, h2⟩; exact ⟨by omega, h2⟩
      · rintro ⟨h1, h2⟩; exact ⟨by omega, h2⟩
    simp only [e]
  cases hso : sumOk l with
  | false =>
    have HQ : Hid (readE l = (2, noEnt)) := by show _ = _; rw [HRE.out, if_pos hso]
    have t1 : ((t : Int) != 256 * (y1 : Int) + (y2 : Int)) = true := by
      have := HSO.out
      rw [hso] at this
      have h2 := of_decide_eq_false this.symm
      rw [bne_iff_ne]; omega
    obtain ⟨x0, x1, hxl, f0, f1⟩ := box2 HX.out
    have HC := hid (two_cells (x := .int .i64 0) (y := .slice none 0 0) x0 x1)
    clear HRE
    go_wp2
    refine bodyPost_ret (refReadE_results _ w.heap.size _ rfl rfl HC.out.1 HC.out.2) rfl ?_
    exact ⟨_, _, _, by rw [HQ.out]; rfl, by rw [HQ.out]; exact deeds_nil _, two_below HB1.out (Nat.le_refl _)⟩
  | true =>
    have t1 : ((t : Int) != 256 * (y1 : Int) + (y2 : Int)) = false := by
      have := HSO.out
      rw [hso] at this
      have h2 := of_decide_eq_true this.symm
      rw [bne_eq_false_iff_eq]; omega
    have HRE2 := hid HRE.out
    rw [if_neg (by rw [hso]; simp)] at HRE2
    clear HRE HSO hso
    have hxk : 1 < k → A1.cell? ⟨b1, o1 + (k - 1), none⟩ = some (.int .u8 ((l.getD (k - 1) 0).toNat : Int)) := fun _ => HAT.out A1 HB1.out _ (by omega)
    have hbA : b1 < A1.heap.size := Nat.lt_of_lt_of_le hb1l HB1.out.size
    go_upto_region 6 with fail
    generalize (l.getD (k - 1) 0).toNat = y3 at *
    go_cut [46] (fun cv wx => ∃ bb : Bool, cv = .bool bb ∧ Hid (bb = true ↔ 1 < k ∧ y3 ≠ 10) ∧ wx = A1)
    case first =>
      by_cases hk : 1 < k
      · have i1 : (k : Int) > 1 := by omega
        have i2 : ((k : Int) - 1).toNat = k - 1 := by omega
        have i3 : (0 : Int) ≤ (k : Int) - 1 := by omega
        have i4 : (k : Int) - 1 < (k : Int) + 2 := by omega
        have i5 : IntKind.i64.wrap ((k : Int) - 1) = (k : Int) - 1 := by rw [IntKind.wrap_i64]; omega
        have hx1 := hxk hk
        go_wp2
        go_meet
        case rel => exact ⟨_, rfl, by show _ ↔ _; rw [bne_iff_ne]; exact ⟨fun h => ⟨hk, by omega⟩, fun h => by have := h.2; omega⟩, rfl⟩
      · have i1 : ¬ (k : Int) > 1 := by omega
        go_wp2
        go_meet
        case rel => exact ⟨false, rfl, ⟨fun h => (by cases h), fun h => absurd h.1 hk⟩, rfl⟩
    case rest =>
      obtain ⟨bb, rfl, HBB, rfl⟩ := hcut
      clear hxk
      cases bb with
      | true =>
        have HQ : Hid (readE l = (2, noEnt)) := by show _ = _; rw [HRE2.out, if_pos (HBB.out.1 rfl)]
        obtain ⟨x0, x1, hxl, f0, f1⟩ := box2 HX.out
        have HC := hid (two_cells (x := .int .i64 0) (y := .slice none 0 0) x0 x1)
        clear HRE2
        go_wp2
        refine bodyPost_ret (refReadE_results _ w.heap.size _ rfl rfl HC.out.1 HC.out.2) rfl ?_
        exact ⟨_, _, _, by rw [HQ.out]; rfl, by rw [HQ.out]; exact deeds_nil _, two_below HB1.out (Nat.le_refl _)⟩
      | false =>
        have HRE3 := hid HRE2.out
        rw [if_neg (fun h => by cases HBB.out.2 h)] at HRE3
        clear HRE2 HBB
        have hx0 : wc.cell? ⟨b1, o1, none⟩ = some (.int .u8 ((l.getD 0 0).toNat : Int)) := HAT.out wc HB1.out 0 (by omega)
        have hx8 := (l.getD 0 0).toNat_lt
        generalize (l.getD 0 0).toNat = x at *
        have wx : IntKind.i64.wrap (x : Int) = (x : Int) := by rw [IntKind.wrap_i64]; omega
        have HY0 := hid (Box.new wc #[.int .i64 (x : Int), .slice none 0 0] 61)
        have HG5 := hid (grew wc (.cells #[.int .i64 (x : Int), .slice none 0 0] 61))
        have hwb : w.heap.size < wc.heap.size := HX.out.lt
        go_upto_region 11 with fail
        have HX5 := hid (HX.out.below HG5.out)
        have HB5 := hid (below_deep HB1.out HG5.out)
        have h5l : wc.heap.size < (wc.alloc (.cells #[.int .i64 (x : Int), .slice none 0 0] 61)).heap.size := by rw [World.size_alloc]; omega
        have hne5 : w.heap.size ≠ wc.heap.size := by omega
        have hw5 : w.heap.size ≤ wc.heap.size := by omega
        have HRD0 := hid (RowD.nil (wc.alloc (.cells #[.int .i64 (x : Int), .slice none 0 0] 61)) (wc.alloc (.cells #[.int .i64 (x : Int), .slice none 0 0] 61)).heap.size)
        clear HX HB1 HG5 hx0 hbA
        generalize wc.alloc (.cells #[.int .i64 (x : Int), .slice none 0 0] 61) = A5 at *
        generalize wc.heap.size = b5 at *
        have HL0 := hid (lines_start l (by omega))
        go_loopw [6, 7] (fun fv iv wr => ∃ (i f : Nat) (D : List Deed3) (pv : Value), fv = .int .i64 f ∧ iv = .int .i64 i ∧ i ≤ k ∧ D.length ≤ i ∧ Hid (LinesTo l i f D) ∧ Hid (RowD wr A5.heap.size pv D) ∧ Hid (Box wr b5 #[.int .i64 (x : Int), pv] 61) ∧ Hid (Box wr w.heap.size #[.int .i64 0, .slice none 0 0] 61) ∧ Hid (Below w.heap.size w wr) ∧ Hid (A5.heap.size ≤ wr.heap.size)) (fun _ iv _ => k - (intOf iv).toNat)
        case atStart => exact ⟨1, 1, [], _, rfl, rfl, hk1, Nat.zero_le _, HL0, HRD0, HY0, HX5, HB5, Nat.le_refl _⟩
        case round =>
          clear HL0 HRD0 HY0 HX5 HB5
          obtain ⟨i, f, D, pv, rfl, rfl, hik, hDi, HL, HR, HY, HX, HBR, HSZ⟩ := hrel
          have hlo := HL.out.lo
          have hfi := HL.out.hi
          by_cases hlt : i < k
          · have j1 : (i : Int) < (k : Int) := by omega
            have j2 : (0 : Int) ≤ (i : Int) := by omega
            have j3 : (i : Int) < (k : Int) + 2 := by omega
            have hxi := HAT.out wr HBR.out i (by omega)
            have hbr := Nat.lt_of_lt_of_le hb1l HBR.out.size
            by_cases h10 : l.getD i 0 = 10
            · have HFE := hid (lines_feed HL.out (by omega) h10)
              have HWR := hid (lines_wrong HL.out hlt (by omega) h10)
              rw [h10] at hxi
              have hli : ((l.take i).drop f).length ≤ 1048576 := by rw [List.length_drop, List.length_take]; omega
              have hbp := bytes_cut (i := f) (j := i) (HB.out.below (by decide) HBR.out) hfi (by omega) (by omega)
              have hconv := bytes_text hbp 63 9 5 Tryz.underlying63 Tryz.underlying5 Tryz.underlying9
              have HPA := hid (refParse_calls (ofT ((l.take i).drop f)) wr (HG.out.below HBR.out) (by rw [ofT_size]; unfold maxLen; omega))
              rw [keyT_ofT] at HPA
              have HRT := hid (readT_right (s := (l.take i).drop f))
              have k1 : (0 : Int) ≤ (f : Int) := by omega
              have k2 : (f : Int) ≤ (i : Int) := by omega
              have k3 : (i : Int) ≤ (c : Int) := by omega
              have k4 : ¬ (c = f) := by omega
              clear hbp hli
              generalize ofT ((l.take i).drop f) = X at *
              generalize readT ((l.take i).drop f) = r at *
              go_wp2_with fail
              refine HPA.out.mono ?_
              rintro e w2 ⟨rb, rn, rc, wb, wn, wcc, cb, cn, cc, rfl, hdi, hb2, hf1, hf2, hf3⟩
              have HB2 := hid hb2
              have HDI := hid hdi
              have HF := hid (And.intro hf1 (And.intro hf2 hf3))
              clear hdi hb2 hf1 hf2 hf3 HPA hconv hxi
              go_upto_region 15 with fail
              have HGD := hid (grew w2 (.cells #[.slice rb rn rc, .slice wb wn wcc, .slice cb cn cc] 75))
              have HWB := hid (below_deep HB2.out HGD.out)
              have HBD := hid (Box.new w2 #[.slice rb rn rc, .slice wb wn wcc, .slice cb cn cc] 75)
              have HDI6 := hid (HDI.out.below HGD.out)
              have HX6 := hid (HX.out.below HWB.out)
              have HY6 := hid (HY.out.below HWB.out)
              have HB6 := hid (below_deep HBR.out HWB.out)
              clear HGD HB2 HDI HX HY
              generalize w2.alloc (.cells #[.slice rb rn rc, .slice wb wn wcc, .slice cb cn cc] 75) = A6 at *
              generalize w2.heap.size = bd at *
              by_cases hq : r.1 = 0
              · have HL2 := hid (HFE.out hq)
                have HRT2 := hid (HRT.out hq)
                clear HFE HWR HRT HL
                obtain ⟨q, d⟩ := r
                simp only at hq HL2 HRT2 HDI6 ⊢
                subst hq
                obtain ⟨T, hoT, hTF⟩ := HR.out.ex
                have hpb : some b5 ≠ pv.ownBlock := fun e => by have := (hoT.lt b5 e.symm).1; omega
                have hpx : some w.heap.size ≠ pv.ownBlock := fun e => by have := (hoT.lt _ e.symm).1; omega
                have HO3 := hid ((owns_keep hoT HWB.out).alloc (.cells #[.slice rb rn rc, .slice wb wn wcc, .slice cb cn cc] 75))
                have L3 := hid (lies_one A6 #[.slice rb rn rc, .slice wb wn wcc, .slice cb cn cc] 75 3 rfl)
                have O3 := hid (dslotC_one ((rb, rn, rc), (wb, wn, wcc), (cb, cn, cc)))
                have N3 : Hid ((D.length + 1) * 72 ≤ 140737488355328) := by show _ ≤ _; omega
                have SZ3 := hid (Nat.le_trans HSZ.out (step_box HWB.out (.cells #[.slice rb rn rc, .slice wb wn wcc, .slice cb cn cc] 75)).size)
                have HS3 : Hid (DSlotIs A6 ((rb, rn, rc), (wb, wn, wcc), (cb, cn, cc)) d) := ⟨HDI6.out, small_keys HRT2.out.r, small_keys HRT2.out.w⟩
                have HGA := hid (grew A6 (.cells #[.slice rb rn rc, .slice wb wn wcc, .slice cb cn cc] 75))
                have HOT := hid hoT
                have HTF := hid hTF
                clear hoT hTF HR
                have y1 := HY6.out.cell 1 _ rfl
                have yl := HY6.out.lt
                have z0 := HBD.out.cell 0 _ rfl
                have z1 := HBD.out.cell 1 _ rfl
                have z2 := HBD.out.cell 2 _ rfl
                have zl := HBD.out.lt
                go_wp2_with (at_builtin; refine wpList_onto2 _ rfl _ _ 24 75 3 72 _ Tryz.underlying24 deedInfo rfl (by decide) (by decide) rfl A5.heap.size _ D.length (flat dslotC T) rfl HO3.out _ 0 1 _ _ rfl L3.out O3.out (by decide) N3.out SZ3.out ?_)
                intro v6 w6 h6 hg6 hm6
                have HR6 := hid (RowD.grown _ HOT.out HTF.out HSZ.out HWB.out HS3.out HF.out.1 HF.out.2.1 HF.out.2.2 h6 hg6 hm6)
                have HX7 := hid ((HX6.out.below HGA.out).grown hg6 hpx)
                have HY7 := hid ((HY6.out.below HGA.out).grown hg6 hpb)
                have HB7 := hid ((below_deep HB6.out HGA.out).grown hg6 (below_deep HB6.out HGA.out).size (fun g e => by have := (HO3.out.lt g e).1; omega))
                have HS7 := hid (Nat.le_trans SZ3.out hg6.size)
                obtain ⟨b6, c6, rfl, -⟩ := Lies.owned h6
                clear h6 hg6 hm6 HO3 L3 SZ3 HS3 HOT HTF y1 yl z0 z1 z2 zl HX6 HY6 HBD HDI6 hpb hpx HWB HGA
                have y1 := HY7.out.cell 1 _ rfl
                have yl := HY7.out.lt
                have yf := HY7.out.free 1
                have HY8 : Hid (Box (w6.setCell ⟨b5, 1, none⟩ (.slice b6 (D.length + 1) c6)) b5 #[.int .i64 (x : Int), .slice b6 (D.length + 1) c6] 61) := HY7.out.set 1 _
                have HX8 := hid (HX7.out.far ⟨b5, 1, none⟩ hne5 (.slice b6 (D.length + 1) c6))
                have HR8 := hid (HR6.out.set h5l 1 (.slice b6 (D.length + 1) c6))
                have HB8 := hid (HB7.out.setCell (p := ⟨b5, 1, none⟩) hw5 (.slice b6 (D.length + 1) c6))
                have HS8 : Hid (A5.heap.size ≤ (w6.setCell ⟨b5, 1, none⟩ (.slice b6 (D.length + 1) c6)).heap.size) := Nat.le_trans HS7.out (Off.set w6 b5 1 _).size
                go_wp2
                go_roundw
                case rel => exact ⟨i + 1, i + 1, D ++ [d], _, by go_num, by go_num, hlt, by simp; omega, HL2, HR8, HY8, HX8, HB8, HS8⟩
                case measure => simp [intOf]; omega
              · have HE := hid (HWR.out hq)
                have HQ : Hid (readE l = (r.1, noEnt)) := by show _ = _; rw [HRE3.out, HE.out, if_neg hq]
                have t4 := ne_true hq
                obtain ⟨x0, x1, hxl, f0, f1⟩ := box2 HX6.out
                have HC := hid (two_cells (x := .int .i64 0) (y := .slice none 0 0) x0 x1)
                clear HFE HWR HRT HRE3
                generalize r.1 = q at *
                go_wp2
                refine bodyPost_ret (refReadE_results _ w.heap.size _ rfl rfl HC.out.1 HC.out.2) rfl ?_
                exact ⟨_, _, _, by rw [HQ.out]; rfl, by rw [HQ.out]; exact deeds_nil _, two_below HB6.out (Nat.le_refl _)⟩
            · have HL2 := hid (lines_on HL.out (by omega) h10)
              have t4 : (((l.getD i 0).toNat : Int) != 10) = true := by
                rw [bne_iff_ne]
                intro e
                exact h10 (UInt8.toNat_inj.1 (by have : (l.getD i 0).toNat = 10 := by omega
                                                 rw [this]; rfl))
              generalize (l.getD i 0).toNat = y at *
              go_wp2
              go_roundw
              case rel => exact ⟨i + 1, f, D, pv, rfl, by go_num, hlt, by omega, HL2, HR, HY, HX, HBR, HSZ⟩
              case measure => simp [intOf]; omega
          · obtain rfl : i = k := by omega
            have HRE4 : Hid (readE l = if wrongE ((x : Int), D) = 0 then (0, ((x : Int), D)) else (wrongE ((x : Int), D), noEnt)) := by
              show _ = _
              rw [HRE3.out, HL.out.read, if_pos rfl]
            obtain ⟨db, dc, rfl, hdn⟩ := HR.out.new
            have HDN := hid hdn
            have HLW := hid (refWrongE_calls ((x : Int), D) (.agg #[.int .i64 (x : Int), .slice db D.length dc]) wr ⟨db, D.length, dc, rfl, hdn.deeds⟩)
            obtain ⟨y0, y1, yl, -, -⟩ := box2 HY.out
            clear HRE3 hdn HR HL
            generalize wrongE ((x : Int), D) = p at *
            go_wp2_with fail
            refine HLW.out.mono ?_
            rintro e w6 ⟨rfl, hb6⟩
            have HB6 := hid (below_deep HBR.out hb6)
            have HY6 := hid (HY.out.below hb6)
            have HX6 := hid (HX.out.below hb6)
            have HD6 := hid (HDN.out.below hb6)
            clear hb6 HLW y0 y1 yl HY HX HDN
            obtain ⟨x0, x1, hxl, f0, f1⟩ := box2 HX6.out
            by_cases hp : p = 0
            · subst hp
              have HQ : Hid (readE l = (0, ((x : Int), D))) := by show _ = _; rw [HRE4.out, if_pos rfl]
              have HC := hid (two_cells (x := .int .i64 (x : Int)) (y := .slice db D.length dc) x0 x1)
              obtain ⟨y0, y1, yl, -, -⟩ := box2 HY6.out
              have hbs : w.heap.size < A5.heap.size := by omega
              clear HRE4
              go_wp2
              refine bodyPost_ret (refReadE_results _ w.heap.size _ rfl rfl HC.out.1 HC.out.2) rfl ?_
              exact ⟨_, _, _, by rw [HQ.out], by rw [HQ.out]; exact ((HD6.out.set (p := ⟨w.heap.size, 0, none⟩) hbs _).set (p := ⟨w.heap.size, 1, none⟩) hbs _).deeds, two_below HB6.out (Nat.le_refl _)⟩
            · have HQ : Hid (readE l = (p, noEnt)) := by show _ = _; rw [HRE4.out, if_neg hp]
              have t4 := ne_true hp
              have HC := hid (two_cells (x := .int .i64 0) (y := .slice none 0 0) x0 x1)
              clear HRE4
              go_wp2
              refine bodyPost_ret (refReadE_results _ w.heap.size _ rfl rfl HC.out.1 HC.out.2) rfl ?_
              exact ⟨_, _, _, by rw [HQ.out]; rfl, by rw [HQ.out]; exact deeds_nil _, two_below HB6.out (Nat.le_refl _)⟩
end Go.Proofs.YthmkgfdglkdjmadGreatDoor
