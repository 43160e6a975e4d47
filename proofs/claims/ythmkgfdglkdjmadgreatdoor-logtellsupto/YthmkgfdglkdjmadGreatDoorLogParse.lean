/-
  Bytes of the program: a right entry's bytes, walked.
  Lines read one by one, and Parse of the program, walked.
-/
import Derived.Test.YthmkgfdglkdjmadGreatDoorLogSum
import Derived.Test.YthmkgfdglkdjmadGreatDoorRefBytes
import Derived.Test.YthmkgfdglkdjmadGreatDoorTextWrite
import Derived.Lib.AppendStr
import Derived.Test.YthmkgfdglkdjmadGreatDoorPlanOwn
import Derived.Test.YthmkgfdglkdjmadGreatDoorOntoApart
import Derived.Test.YthmkgfdglkdjmadGreatDoorTextParse
namespace Go.Proofs.YthmkgfdglkdjmadGreatDoor
open Go.RowKit

set_option maxHeartbeats 2000000 in
theorem sumBytes_calls (l : T) (b : Option Addr) (n c : Nat) (w : World) (h : BytesIn w b n c l) :
    Calls Tryz.prog 46 #[.slice b n c] w fun e w' => e = .returned (.slice (some ⟨w.heap.size, 0, none⟩) 2 2) ∧ BytesIn w' (some ⟨w.heap.size, 0, none⟩) 2 2 (sumB (sumT l)) ∧ w.heap.size < w'.heap.size ∧ Below w.heap.size w w' := by
  have HS := hid (logSum_calls l b n c w h)
  have hsl := sumT_lt l
  have HG := hid (grew w (.cells #[.int .u8 ((sumT l : Nat) / 256 : Int), .int .u8 ((sumT l : Nat) % 256 : Int)] 5))
  have HB := hid (bytes_sum w hsl)
  generalize sumT l = t at *
  go_enter Tryz.func46, Tryz.ntmps46
  go_wp2_with fail
  refine HS.out.mono ?_
  rintro e w1 ⟨rfl, rfl⟩
  go_wp2
  go_ret
  exact ⟨rfl, HB.out, by rw [World.size_alloc]; omega, HG.out⟩

/-- A text is appended to bytes of the call's own. -/
theorem wpList_text_on (w : World) {ops : Array Oper} {rest : List Oper} {o : Oper} {a : Act} {Q : Exit → Act → World → Prop} (hgd : o.guard = none) (s x : Operand) (t u e : Nat)
    (ht : Tryz.prog.underlying t = some (.slice e)) (hu : Tryz.prog.underlying u = some .string) (hinfo : (Tryz.prog.info? e).map (fun i => (i.zero, i.size, i.bytes)) = some (some (.int .u8 0), 1, 1))
    (ho : o.op = .call { callee := .builtin .append, args := #[s, x], argTypes := #[t, u] })
    (B : Nat) (v : Value) (n : Nat) (l : T) (hs : a.eval s = v) (hown : w.ownsRow B e 1 v n (bytesC l)) (str : ByteArray) (hx : a.eval x = .string str) (hby : n + str.size ≤ 140737488355328) (hB : B ≤ w.heap.size)
    (h : ∀ v' w', w'.ownsRow B e 1 v' (n + str.size) (bytesC (l ++ keyT str)) → w.grownBy w' v.ownBlock → wpList Tryz.prog ops Q rest (a.put o.dst v') w') : wpList Tryz.prog ops Q (o :: rest) a w := by
  obtain ⟨i0, hi, hz0, hz1, hz2⟩ := info_parts hinfo
  exact Lib.wpList_append_own_string w hgd s x t u ho B e i0 ht hu hi hz0 hz1 hz2 v n (bytesC l) hs hown str hx (by unfold maxLen; omega) hby hB (fun v' w' h1 h2 _ => h v' w' (by rw [bytesC_append]; exact h1) h2)
theorem bytes_owned {w w' : World} {v : Value} {n : Nat} {l : T} (h : w'.ownsRow w.heap.size 5 1 v n (bytesC l)) (hn : 0 < n) (hb : Below w.heap.size w w') : BytesTold w w' l (.returned v) := by
  obtain ⟨b, c, rfl, hl⟩ := Lies.owned h
  rcases h.2 with ⟨_, h0⟩ | ⟨g, cap, cur, e, hbg, _⟩
  · omega
  · simp only [Value.slice.injEq] at e
    obtain ⟨rfl, -, rfl⟩ := e
    exact ⟨g, n, c, rfl, hbg, hl, hb⟩

set_option maxHeartbeats 8000000 in
set_option maxRecDepth 100000 in
theorem logBytes_calls (x : Ent) (v : Value) (w : World) (hG : Ground w) (hv : EntV w v x) (hr : RightEnt x) :
    Calls Tryz.prog 26 #[v] w fun e w' => BytesTold w w' (bytesE x) e := by
  have HV := hid hv
  obtain ⟨db, dn, dc, rfl, hd⟩ := hv
  have hwe := wrongE_right.2 hr
  obtain ⟨m, D⟩ := x
  obtain ⟨hm0, hm1, hl6, hri⟩ := hr
  simp only at hd hm0 hm1 hl6 hri ⊢
  have HLN := hid hd.len
  have hdn : dn ≤ 6 := by rw [hd.len]; exact hl6
  have HRI : Hid (∀ i, i < dn → RightDD (D.getD i default)) := fun i hi => rights_at hri (by rw [hd.len] at hi; exact hi)
  have HB0 := hid (grew w (.cells #[.int .i64 m, .slice db dn dc] 61))
  have HW := hid (logWrong_calls (m, D) _ _ (HV.out.below HB0.out))
  simp only [hwe] at HW
  obtain ⟨q, rfl⟩ : ∃ q : Nat, m = q := ⟨m.toNat, by omega⟩
  have hq : q ≤ 11 := by omega
  have hqt : (UInt8.ofNat q).toNat = q := by rw [UInt8.toNat_ofNat']; omega
  have x0 : (w.alloc (.cells #[.int .i64 (q : Int), .slice db dn dc] 61)).cell? ⟨w.heap.size, 0, none⟩ = some (.int .i64 (q : Int)) := box_cell w _ _ 0 _ rfl
  have x1 : (w.alloc (.cells #[.int .i64 (q : Int), .slice db dn dc] 61)).cell? ⟨w.heap.size, 1, none⟩ = some (.slice db dn dc) := box_cell w _ _ 1 _ rfl
  have HX := hid (And.intro x0 x1)
  have HDW := hid hd
  have HGD := hid hG
  clear hd hG hri hwe HV
  go_enter Tryz.func26, Tryz.ntmps26
  go_wp2_with fail
  refine HW.out.mono ?_
  rintro e w1 ⟨rfl, hb1⟩
  have HB1 := hid (below_deep HB0.out hb1)
  have y0 := kept_cell hb1 HX.out.1
  have y1 := kept_cell hb1 HX.out.2
  have hlw := Nat.lt_of_lt_of_le (World.block_lt_of_cell? _ _ HX.out.1) hb1.size
  simp only at hlw
  clear hb1 HB0 HX x0 x1 HW
  have z1 := box_past (.cells #[.int .u8 (q : Int)] 5) y1
  have HGA := hid (grew w1 (.cells #[.int .u8 (q : Int)] 5))
  have HOW : Hid ((w1.alloc (.cells #[.int .u8 (q : Int)] 5)).ownsRow w.heap.size 5 1 (.slice (some ⟨w1.heap.size, 0, none⟩) 1 1) 1 (bytesC (dataE ((q : Int), D.take 0)))) := by
    have h := World.ownsRow_lit (base := w.heap.size) (e := 5) (size := 1) w1 #[.int .u8 (q : Int)] 1 (Nat.le_of_lt hlw) (by unfold maxLen; omega) rfl
    have e : bytesC (dataE ((q : Int), D.take 0)) = [.int .u8 (q : Int)] := by
      have e2 : dataE ((q : Int), D.take 0) = [UInt8.ofNat q] := rfl
      rw [e2]
      simp only [bytesC, List.map_cons, List.map_nil, hqt]
    show World.ownsRow _ _ _ _ _ _ _
    rw [e]
    exact h
  go_wp2
  have HBA := hid (below_deep HB1.out HGA.out)
  clear y0 y1 z1 hlw HB1 HGA
  generalize w1.alloc (.cells #[.int .u8 (q : Int)] 5) = A1 at *
  go_loopw [3, 16] (fun z c wr => ∃ (j N : Nat) (pv : Value), pv = z ∧ j ≤ dn ∧ N ≤ 1 + 401 * j ∧ 0 < N ∧ c = .int .i64 j ∧ Hid (wr.ownsRow w.heap.size 5 1 pv N (bytesC (dataE ((q : Int), D.take j)))) ∧ Hid (Below w.heap.size w wr)) (fun _ c _ => dn - (intOf c).toNat)
  case atStart => exact ⟨0, 1, _, rfl, Nat.zero_le _, Nat.le_refl _, Nat.zero_lt_one, rfl, HOW, HBA⟩
  case round =>
    clear HOW HBA
    obtain ⟨j, N, pv, hpv, hj, hN, hN0, rfl, HO, HBR⟩ := hrel
    subst hpv
    by_cases hlt : j < dn
    · have hjl : j < D.length := by rw [← HLN.out]; exact hlt
      have hi : (j : Int) < (dn : Int) := by omega
      rcases (HDW.out.below HBR.out).run with h | ⟨db1, dbo, rfl, hdr⟩
      · omega
      obtain ⟨rb, rn, rc, wb, wn, wc, cb, cn, cc, k0, k1, k2, hdi, hs1, hs2⟩ := hdr j hlt
      have hdb : db1 < wr.heap.size := by simpa using World.block_lt_of_cell? _ _ k0
      have HGW := hid (grew wr (.cells #[.slice rb rn rc, .slice wb wn wc, .slice cb cn cc] 75))
      have HRD := hid (HRI.out j hlt)
      have HW := hid (print_calls (D.getD j default).1 (D.getD j default).2.1 (D.getD j default).2.2 rb rn rc wb wn wc cb cn cc _ ((HGD.out.below HBR.out).below HGW.out) (hdi.below HGW.out) hs1 hs2 (right_wDeed HRD.out))
      have HNX := hid (data_next (m := (q : Int)) hjl)
      have hpl := print_len HRD.out
      have hps : (ofT (printT (D.getD j default).1 (D.getD j default).2.1 (D.getD j default).2.2)).size ≤ 400 := by rw [ofT_size]; exact hpl
      have HPK : Hid (keyT (ofT (printT (D.getD j default).1 (D.getD j default).2.1 (D.getD j default).2.2)) = printD (D.getD j default)) := by show _ = _; rw [keyT_ofT]; rfl
      clear hdi hs1 hs2 hdr hpl
      generalize ofT (printT (D.getD j default).1 (D.getD j default).2.1 (D.getD j default).2.2) = P at *
      generalize D.getD j default = d at *
      go_wp2_with fail
      refine HW.out.mono ?_
      rintro e w2 ⟨rfl, hb2⟩
      have HWR := hid (below_deep HGW.out hb2)
      have HO2 := hid (owns_keep HO.out HWR.out)
      have HB2 := hid (below_deep HBR.out HWR.out)
      have SZ2 := hid HB2.out.size
      have N2 : Hid (N + P.size ≤ 140737488355328) := by show _ ≤ _; omega
      clear hb2 HW k0 k1 k2
      go_wp2_with (at_builtin; refine wpList_text_on _ rfl _ _ 63 9 5 Tryz.underlying63 Tryz.underlying9 byteInfo rfl w.heap.size _ N _ rfl HO2.out P rfl N2.out SZ2.out ?_)
      intro v3 w3 ho3 hg3
      have HO3 := hid ho3
      have HB3 := hid (HB2.out.grown hg3 SZ2.out (fun k hk => (HO2.out.lt k hk).1))
      have SZ3 := hid HB3.out.size
      have N3 : Hid (N + P.size + 1 ≤ 140737488355328) := by show _ ≤ _; omega
      clear ho3 hg3 HO2 HB2 HO HWR SZ2 N2
      go_wp2_with (at_builtin; refine wpList_text_on _ rfl _ _ 63 9 5 Tryz.underlying63 Tryz.underlying9 byteInfo rfl w.heap.size _ (N + P.size) _ rfl HO3.out ⟨#[10]⟩ rfl N3.out SZ3.out ?_)
      intro v4 w4 ho4 hg4
      have HO4 : Hid (w4.ownsRow w.heap.size 5 1 v4 (N + P.size + 1) (bytesC (dataE ((q : Int), D.take (j + 1))))) := by
        show World.ownsRow _ _ _ _ _ _ _
        rw [HNX.out, ← HPK.out]
        rw [List.append_assoc]
        exact ho4
      have HB4 := hid (HB3.out.grown hg4 SZ3.out (fun k hk => (HO3.out.lt k hk).1))
      clear ho4 hg4 HO3 HB3 SZ3 N3
      go_wp2
      go_roundw
      case rel => exact ⟨j + 1, N + P.size + 1, _, rfl, hlt, by omega, by omega, by go_num, HO4, HB4⟩
      case measure => simp [intOf]; omega
    · obtain rfl : j = dn := by omega
      have HOD : Hid (wr.ownsRow w.heap.size 5 1 pv N (bytesC (dataE ((q : Int), D)))) := by
        have := HO.out
        rw [HLN.out, List.take_length] at this
        exact this
      clear HO
      obtain ⟨b1, c1, rfl, hl1⟩ := Lies.owned HOD.out
      have HSB := hid (sumBytes_calls (dataE ((q : Int), D)) _ _ _ wr hl1)
      have HBE : Hid (bytesC (bytesE ((q : Int), D)) = bytesC (dataE ((q : Int), D)) ++ bytesC (sumB (sumT (dataE ((q : Int), D))))) := by
        show _ = _
        rw [bytesE_is, bytesC_append]
      clear hl1
      generalize sumB (sumT (dataE ((q : Int), D))) = SB at *
      go_wp2_with fail
      refine HSB.out.mono ?_
      rintro e w2 ⟨rfl, hs2, hlt2, hb2⟩
      have HO2 := hid (owns_keep HOD.out hb2)
      have HB2 := hid (below_deep HBR.out hb2)
      have HS2 := hid hs2
      have O2 := hid (bytesC_one SB)
      have N2 : Hid ((N + 2) * 1 ≤ 140737488355328) := by show _ ≤ _; omega
      have SZ2 := hid HB2.out.size
      clear hs2 hlt2 hb2 HSB HOD
      go_wp2_with (at_builtin; refine wpList_onto _ rfl _ _ 63 5 1 1 _ Tryz.underlying63 byteInfo rfl (by decide) (by decide) rfl w.heap.size _ N (bytesC (dataE ((q : Int), D))) rfl HO2.out _ 2 _ _ rfl HS2.out O2.out N2.out SZ2.out ?_)
      intro v3 w3 ho3 hg3
      have HT : Hid (BytesTold w w3 (bytesE ((q : Int), D)) (.returned v3)) := bytes_owned (by rw [HBE.out]; exact ho3) (by omega) (HB2.out.grown hg3 SZ2.out (fun k hk => (HO2.out.lt k hk).1))
      clear ho3 hg3
      go_wp2
      go_ret
      exact HT.out
end Go.Proofs.YthmkgfdglkdjmadGreatDoor

namespace Go.Proofs.YthmkgfdglkdjmadGreatDoor
open Go.RowKit

def strLen : Value → Nat
  | .string z => z.size
  | _ => 0
theorem readT_right {s : T} (h : (readT s).1 = 0) : RightD (readT s).2.1 (readT s).2.2.1 (readT s).2.2.2 :=
  right_deed (print_read (s := s) (R := (readT s).2.1) (W := (readT s).2.2.1) (C := (readT s).2.2.2) (Prod.ext h rfl)).2.1
theorem small_keys {K : List ByteArray} (h : wKeys K = 0) : SmallT K := fun k hk => by
  have h1 := wKeys_key h hk
  simp only [keyB, Bool.and_eq_true, decide_eq_true_eq] at h1
  have := h1.1.2
  unfold maxLen
  omega
/-- What a reading of lines is told to be. -/
def LinesTold (w : World) (q : Int × List Deed3) (e : Ending) (w' : World) : Prop :=
  ∃ db dn dc, e = .returned (.tuple #[.slice db dn dc, .int .i64 q.1]) ∧ DeedsNew w' w.heap.size db dn dc q.2 ∧ Below w.heap.size w w'
theorem deeds_nil (w : World) : DeedsIn w none 0 0 [] := ⟨rfl, ⟨Nat.le_refl _, Nat.zero_le _, fun _ => rfl⟩, .inl rfl⟩

set_option maxHeartbeats 8000000 in
set_option maxRecDepth 100000 in
theorem parseLines_calls (s : ByteArray) (w : World) (hG : Ground w) (hs : s.size ≤ 1048576) (he : Ended (keyT s)) :
    Calls Tryz.prog 50 #[.string s] w fun e w' => LinesTold w (readLines (linesT [] (keyT s))) e w' := by
  have HG := hid hG
  have HST := hid (left_start he)
  have HWL := hid (keyT_len s)
  clear hG he
  generalize hwh : keyT s = whole at *
  have HWE := hid hwh
  clear hwh
  go_enter Tryz.func50, Tryz.ntmps50
  go_wp2
  go_loopw [0, 4] (fun z pv wr => ∃ (Z : ByteArray) (D : List Deed3) (u : Value), u = pv ∧ z = .string Z ∧ Hid (LinesLeft whole (keyT Z) D) ∧ Hid (RowD wr w.heap.size u D) ∧ Hid (Below w.heap.size w wr)) (fun z _ _ => strLen z)
  case atStart => exact ⟨s, [], _, rfl, rfl, by show LinesLeft _ _ _; rw [HWE.out]; exact HST.out, RowD.nil _ _, Below.refl _ _⟩
  case round =>
    clear HST
    obtain ⟨Z, D, u, hu, rfl, HL, HR, HBR⟩ := hrel
    subst hu
    have hZL := keyT_len Z
    have hfew := HL.out.few
    have hwl := HWL.out
    by_cases h0 : Z.size = 0
    · obtain rfl := size_nil h0
      have HE := hid (left_end HL.out)
      obtain ⟨b, c, rfl, hd⟩ := HR.out.new
      have HD := hid hd
      clear hd
      go_wp2
      go_ret2
      exact ⟨_, _, _, by rw [HE.out]; rfl, by rw [HE.out]; exact HD.out, HBR.out⟩
    · have t : (Z.toList == ([] : List UInt8)) = false := by
        have := streq_false (a := Z) (b := ⟨#[]⟩) (fun e => h0 (by rw [e]; rfl))
        simpa using this
      obtain ⟨i, hix, hil, hig, hin⟩ := index_feed (ended_feed HL.out.ends (fun e => by rw [e] at hZL; simp at hZL; omega))
      have hiz : i < Z.size := by omega
      have HCU := hid (cut_calls Z i wr (by unfold maxLen; omega) hix hiz)
      have HON := hid (left_on HL.out hil hig hin)
      have HWR := hid (left_wrong HL.out hil hig hin)
      have hli : ((keyT Z).take i).length = i := by rw [List.length_take]; omega
      have HPA := hid (fun W hg => parse_calls (ofT ((keyT Z).take i)) W hg (by rw [ofT_size, hli]; unfold maxLen; omega))
      rw [keyT_ofT] at HPA
      have HRT := hid (readT_right (s := (keyT Z).take i))
      have hdz : (ofT ((keyT Z).drop (i + 1))).size < Z.size := by rw [ofT_size, List.length_drop]; omega
      have HKD := hid (keyT_ofT ((keyT Z).drop (i + 1)))
      have hDl : D.length ≤ 1048576 := by omega
      clear hil hig hin hix hiz hli hfew hwl hZL h0
      unfold CutTold at HCU
      generalize ofT ((keyT Z).drop (i + 1)) = Y at *
      generalize ofT ((keyT Z).take i) = X at *
      generalize readT ((keyT Z).take i) = r at *
      go_wp2_with fail
      refine HCU.out.mono ?_
      rintro e w1 ⟨rfl, hb1⟩
      have HB1 := hid hb1
      have HP1 := hid (HPA.out w1 (HG.out.below (below_deep HBR.out hb1)))
      clear hb1 HCU HPA
      go_wp2_with fail
      refine HP1.out.mono ?_
      rintro e w2 ⟨rb, rn, rc, wb, wn, wc, cb, cn, cc, rfl, hdi, hb2, hf1, hf2, hf3⟩
      have HB2 := hid (below_deep HB1.out hb2)
      have HDI := hid hdi
      have HF := hid (And.intro hf1 (And.intro hf2 hf3))
      clear hdi hb2 hf1 hf2 hf3 HP1
      by_cases hq : r.1 = 0
      · have HON2 := hid (HON.out hq)
        have HRT2 := hid (HRT.out hq)
        clear HON HWR HRT
        obtain ⟨q, d⟩ := r
        simp only at hq HON2 HRT2 HDI ⊢
        subst hq
        obtain ⟨T, hoT, hTF⟩ := HR.out.ex
        have HGB := hid (grew w2 (.cells #[.slice rb rn rc, .slice wb wn wc, .slice cb cn cc] 75))
        have HWB := hid (below_deep HB2.out HGB.out)
        have HO3 := hid ((owns_keep hoT HWB.out).alloc (.cells #[.slice rb rn rc, .slice wb wn wc, .slice cb cn cc] 75))
        have L3 := hid (lies_one (w2.alloc (.cells #[.slice rb rn rc, .slice wb wn wc, .slice cb cn cc] 75)) #[.slice rb rn rc, .slice wb wn wc, .slice cb cn cc] 75 3 rfl)
        rw [World.size_alloc] at L3
        have O3 := hid (dslotC_one ((rb, rn, rc), (wb, wn, wc), (cb, cn, cc)))
        have N3 : Hid ((D.length + 1) * 72 ≤ 140737488355328) := by show _ ≤ _; omega
        have SZ3 := hid (Nat.le_trans HBR.out.size (step_box HWB.out (.cells #[.slice rb rn rc, .slice wb wn wc, .slice cb cn cc] 75)).size)
        have HS3 : Hid (DSlotIs (w2.alloc (.cells #[.slice rb rn rc, .slice wb wn wc, .slice cb cn cc] 75)) ((rb, rn, rc), (wb, wn, wc), (cb, cn, cc)) d) := ⟨HDI.out.below HGB.out, small_keys HRT2.out.r, small_keys HRT2.out.w⟩
        have HOT := hid hoT
        have HTF := hid hTF
        clear hoT hTF HR
        go_wp2_with (at_builtin; refine wpList_onto2 _ rfl _ _ 24 75 3 72 _ Tryz.underlying24 deedInfo rfl (by decide) (by decide) rfl w.heap.size _ D.length (flat dslotC T) rfl HO3.out _ 0 1 _ _ rfl L3.out O3.out (by decide) N3.out SZ3.out ?_)
        intro v6 w6 h6 hg6 hm6
        have HR6 := hid (RowD.grown _ HOT.out HTF.out HBR.out.size HWB.out HS3.out (fun a e => Nat.le_trans HB1.out.size (HF.out.1 a e)) (fun a e => Nat.le_trans HB1.out.size (HF.out.2.1 a e)) (fun a e => Nat.le_trans HB1.out.size (HF.out.2.2 a e)) h6 hg6 hm6)
        have HB6 := hid (step_row (step_box (below_deep HBR.out HWB.out) _) HO3.out hg6)
        clear h6 hg6 hm6 HO3 L3 SZ3 HS3 HOT HTF
        go_wp2
        go_roundw
        case rel => exact ⟨Y, _, _, rfl, rfl, by show LinesLeft _ _ _; rw [HKD.out]; exact HON2.out, HR6.out, HB6⟩
        case measure => exact hdz
      · have HE := hid (HWR.out hq)
        have t2 := ne_true hq
        generalize r.1 = q at *
        go_wp2
        go_ret2
        exact ⟨_, _, _, by rw [HE.out]; rfl, by rw [HE.out]; exact DeedsNew.nil _ _, below_deep HBR.out (below_deep HB2.out (grew _ _))⟩
end Go.Proofs.YthmkgfdglkdjmadGreatDoor
