/-
  The statement TextTurns answers true, whatever it is asked.
-/
import Derived.Test.YtddmdbjedainoabDoorTextAlive
import Derived.Test.YtddmdbjedainoabDoorRefWrong
import Derived.Test.YtddmdbjedainoabDoorRefSameDeed
namespace Go.Proofs.YtddmdbjedainoabDoor
open Go.RowKit

theorem readT_err (s : T) (h : (readT s).1 ≠ 0) : (readT s).2 = ([], [], []) := by
  by_cases h4 : 400 < s.length
  · rw [readT_long h4]
  · by_cases h2 : (spl2 [] s).length < 2
    · rw [readT_few (by omega) h2]
    · obtain ⟨a, b⟩ := readT_parts (s := s) (by omega) (by omega)
      by_cases h0 : (readP (spl2 [] s)).1 = 0
      · obtain ⟨b1, b2⟩ := b h0
        by_cases hw : wDeed (readP (spl2 [] s)).2.1 (readP (spl2 [] s)).2.2.1 (readP (spl2 [] s)).2.2.2 = 0
        · rw [b1 hw] at h; exact absurd h0 h
        · rw [b2 hw]
      · rw [(a h0).1]
theorem small_right {R : List ByteArray} (h : wKeys R = 0) : SmallT R := fun x hx => by
  have := key_len (wKeys_key h hx)
  rw [keyT_len] at this
  unfold maxLen; omega
/-- What a text that is read comes to. -/
theorem read_right {s : T} (h : (readT s).1 = 0) : printT (readT s).2.1 (readT s).2.2.1 (readT s).2.2.2 = s ∧ wDeed (readT s).2.1 (readT s).2.2.1 (readT s).2.2.2 = 0 := by
  have := print_read (s := s) (R := (readT s).2.1) (W := (readT s).2.2.1) (C := (readT s).2.2.2) (Prod.ext h rfl)
  exact ⟨this.1, this.2.1⟩

set_option maxRecDepth 100000 in
set_option maxHeartbeats 4000000 in
theorem textTurns_calls (s : ByteArray) (R W : List ByteArray) (C : List Ins) (rb : Option Addr) (rn rc : Nat) (wb : Option Addr) (wn wc : Nat) (cb : Option Addr) (cn cc : Nat) (w : World) (hG : Ground w) (hs : s.size ≤ maxLen) (hd : DeedIn w rb rn rc wb wn wc cb cn cc R W C) (hr : SmallT R) (hw : SmallT W) :
    Calls Tryd.prog 3 #[.string s, .agg #[.slice rb rn rc, .slice wb wn wc, .slice cb cn cc]] w fun e w' => e = .returned (.bool true) ∧ Below w.heap.size w w' := by
  have HB0 : Hid (Below w.heap.size w (w.alloc (.cells #[.slice rb rn rc, .slice wb wn wc, .slice cb cn cc] 25))) := grew _ _
  have HA0 := hid (three_new w (.slice rb rn rc) (.slice wb wn wc) (.slice cb cn cc) 25)
  have HAL := hid (lalive_calls _ (hG.below HB0.out))
  have HG := hid hG
  have HD := hid hd
  have HS := hid hs
  have HSM : Hid (SmallT R ∧ SmallT W) := ⟨hr, hw⟩
  clear hG hd hs hr hw
  go_enter Tryd.func3, Tryd.ntmps3
  go_wp2_with fail
  refine HAL.out.mono ?_
  rintro e w1 ⟨rfl, hb1⟩
  have HB1 := hid (below_deep HB0.out hb1)
  have HA1 := hid (HA0.out.below hb1)
  have HD1 := hid (HD.out.below HB1.out)
  have HRW := hid (refWrongDeed_calls R W C rb rn rc wb wn wc cb cn cc w1 HD1.out HSM.out.1 HSM.out.2)
  obtain ⟨a0, a1, a2, _⟩ := HA1.out
  clear hb1
  have HTAIL : Hid (∀ wx, Below w.heap.size w wx → DeedAt wx w.heap.size (.slice rb rn rc) (.slice wb wn wc) (.slice cb cn cc) → Calls Tryd.prog 7 #[.string s] wx fun e w' => PartsTold wx (readT (keyT s)) e w' ∧ DeedAt w' w.heap.size (.slice rb rn rc) (.slice wb wn wc) (.slice cb cn cc) ∧ Below w.heap.size w w' ∧ w.heap.size < wx.heap.size) := fun wx hb ha =>
    (parse_calls s wx (HG.out.below hb) HS.out).mono fun e w' h => by
      obtain ⟨_, _, _, _, _, _, _, _, _, _, _, hbx, _⟩ := id h
      exact ⟨h, ha.below hbx, below_deep hb hbx, ha.lt⟩
  go_wp2_with fail
  refine HRW.out.mono ?_
  rintro e w2 ⟨rfl, hb2⟩
  have HB2 := hid (below_deep HB1.out hb2)
  have HA2 := hid (HA1.out.below hb2)
  obtain ⟨x0, x1, x2, _⟩ := HA2.out
  have HD2 := hid (HD1.out.below hb2)
  clear hb2 a0 a1 a2
  by_cases hok : wDeed R W C = 0
  case neg =>
    have hd3 : (wDeed R W C == 0) = false := by simpa using hok
    clear hok
    go_wp2_with fail
    refine (HTAIL.out _ HB2.out HA2.out).mono ?_
    rintro e w3 ⟨hpt, hA3, hB3, hlt⟩
    obtain ⟨rb2, rn2, rc2, wb2, wn2, wc2, cb2, cn2, cc2, rfl, hdi, _, f1, f2, f3⟩ := hpt
    have off : ∀ {base : Option Addr}, Fresh w2.heap.size base → (∀ a, base = some a → w.heap.size ≠ a.block) := fun hf a e => by have := hf a e; omega
    have HDX : Hid (DeedIn (setThree w3 w.heap.size (.slice rb2 rn2 rc2) (.slice wb2 wn2 wc2) (.slice cb2 cn2 cc2)) rb2 rn2 rc2 wb2 wn2 wc2 cb2 cn2 cc2 (readT (keyT s)).2.1 (readT (keyT s)).2.2.1 (readT (keyT s)).2.2.2) := ⟨lies_offThree hdi.tr (off f1) _ _ _, lies_offThree hdi.tw (off f2) _ _ _, lies_offThree hdi.cd (off f3) _ _ _⟩
    have HAX := hid (hA3.all (.slice rb2 rn2 rc2) (.slice wb2 wn2 wc2) (.slice cb2 cn2 cc2))
    have HBX := hid (below_three hB3 (Nat.le_refl _) (.slice rb2 rn2 rc2) (.slice wb2 wn2 wc2) (.slice cb2 cn2 cc2))
    obtain ⟨y0, y1, y2, yf⟩ := hA3
    have yf0 := yf 0
    have yf1 := yf 1
    have yf2 := yf 2
    have HGX := hid (HG.out.below HBX.out)
    have HER := hid (readT_err (keyT s))
    have HRR := hid (read_right (s := keyT s))
    clear yf hdi f1 f2 f3 off hB3 hlt HTAIL
    by_cases hq : (readT (keyT s)).1 = 0
    case neg =>
      have hn := HER.out hq
      have hr0 := Texts.count HDX.out.tr
      have hw0 := Texts.count HDX.out.tw
      have hc0 := Codes.count HDX.out.cd
      rw [hn] at hr0 hw0 hc0
      simp only [List.length_nil] at hr0 hw0 hc0
      subst hr0 hw0 hc0
      have hq1 : ((readT (keyT s)).1 != 0) = true := by simpa using hq
      clear hn hq
      generalize (readT (keyT s)).1 = qe at *
      go_wp2
      go_ret
      exact ⟨rfl, HBX.out⟩
    case pos =>
      have hrr := HRR.out hq
      rw [hq]
      have hrd := right_deed hrr.2
      have HPS := hid (print_calls _ _ _ rb2 rn2 rc2 wb2 wn2 wc2 cb2 cn2 cc2 _ HGX.out HDX.out (small_right hrd.r) (small_right hrd.w) hrr.2)
      rw [hrr.1, ofT_keyT] at HPS
      have HWS : Hid (∀ wx, DeedIn wx rb2 rn2 rc2 wb2 wn2 wc2 cb2 cn2 cc2 (readT (keyT s)).2.1 (readT (keyT s)).2.2.1 (readT (keyT s)).2.2.2 → Calls Tryd.prog 5 #[.agg #[.slice rb2 rn2 rc2, .slice wb2 wn2 wc2, .slice cb2 cn2 cc2]] wx fun e w' => e = .returned (.int .i64 0) ∧ Below wx.heap.size wx w') := fun wx hx => by
        have := refWrongDeed_calls _ _ _ rb2 rn2 rc2 wb2 wn2 wc2 cb2 cn2 cc2 wx hx (small_right hrd.r) (small_right hrd.w)
        rw [hrr.2] at this
        exact this
      have hss := streq_true (rfl : s = s)
      clear hrr hrd hq
      unfold setThree at HPS
      go_wp2_with fail
      refine HPS.out.mono ?_
      rintro e w7 ⟨rfl, hb7⟩
      have HB7 := hid (below_deep HBX.out hb7)
      have HD7 := hid (HDX.out.below hb7)
      obtain ⟨z0, z1, z2, _⟩ := HAX.out.below hb7
      clear hb7
      go_wp2_with fail
      refine (HWS.out _ HD7.out).mono ?_
      rintro e w8 ⟨rfl, hb8⟩
      have HB8 := hid (below_deep HB7.out hb8)
      clear hb8
      go_wp2
      go_ret
      exact ⟨rfl, HB8.out⟩
  case pos =>
    have HPR := hid (print_calls R W C rb rn rc wb wn wc cb cn cc w2 (HG.out.below HB2.out) HD2.out HSM.out.1 HSM.out.2 hok)
    have HRB := hid (read_print hok)
    have HPL := hid (print_len (right_deed hok))
    rw [hok]
    obtain ⟨z, hz⟩ : ∃ z, z = ofT (printT R W C) := ⟨_, rfl⟩
    have HZ : Hid (keyT z = printT R W C) := by show _ = _; rw [hz, keyT_ofT]
    rw [← hz] at HPR
    have hzl : z.size ≤ 400 := by rw [hz, ofT_size]; exact HPL.out
    clear hok hz
    go_wp2_with fail
    refine HPR.out.mono ?_
    rintro e w3 ⟨rfl, hb3⟩
    have HB3 := hid (below_deep HB2.out hb3)
    have HA3 := hid (HA2.out.below hb3)
    have HD3 := hid (HD2.out.below hb3)
    have HPZ := hid (parse_calls z w3 (HG.out.below HB3.out) (by unfold maxLen; omega))
    rw [HZ.out, HRB.out] at HPZ
    clear hb3 x0 x1 x2
    go_wp2_with fail
    refine HPZ.out.mono ?_
    rintro e w4 ⟨rb', rn', rc', wb', wn', wc', cb', cn', cc', rfl, hdi4, hb4, _⟩
    simp only at hdi4
    have HBD := hid (grew w4 (.cells #[.slice rb' rn' rc', .slice wb' wn' wc', .slice cb' cn' cc'] 25))
    have HB4 := hid (below_deep (below_deep HB3.out hb4) HBD.out)
    have HA4 := hid ((HA3.out.below hb4).below HBD.out)
    have HSD := hid (refSameDeed_calls R W C R W C rb rn rc wb wn wc cb cn cc rb' rn' rc' wb' wn' wc' cb' cn' cc' _ ((HD3.out.below hb4).below HBD.out) (hdi4.below HBD.out))
    simp only [decide_true, Bool.and_true] at HSD
    obtain ⟨v0, v1, v2, _⟩ := HA3.out.below hb4
    have hlt4 := (HA3.out.below hb4).lt
    have hzd : decide ((z.size : Int) > 400) = false := by simpa using (by omega : (z.size : Int) ≤ 400)
    clear hdi4 hb4
    go_wp2_with fail
    refine HSD.out.mono ?_
    rintro e w5 ⟨rfl, hb5⟩
    have HB5 := hid (below_deep HB4.out hb5)
    have HA5 := hid (HA4.out.below hb5)
    clear hb5 v0 v1 v2
    go_wp2_with fail
    refine (HTAIL.out _ HB5.out HA5.out).mono ?_
    rintro e w6 ⟨hpt, hA3, hB3, hlt⟩
    obtain ⟨rb2, rn2, rc2, wb2, wn2, wc2, cb2, cn2, cc2, rfl, hdi, _, f1, f2, f3⟩ := hpt
    have off : ∀ {base : Option Addr}, Fresh w5.heap.size base → (∀ a, base = some a → w.heap.size ≠ a.block) := fun hf a e => by have := hf a e; omega
    have HDX : Hid (DeedIn (setThree w6 w.heap.size (.slice rb2 rn2 rc2) (.slice wb2 wn2 wc2) (.slice cb2 cn2 cc2)) rb2 rn2 rc2 wb2 wn2 wc2 cb2 cn2 cc2 (readT (keyT s)).2.1 (readT (keyT s)).2.2.1 (readT (keyT s)).2.2.2) := ⟨lies_offThree hdi.tr (off f1) _ _ _, lies_offThree hdi.tw (off f2) _ _ _, lies_offThree hdi.cd (off f3) _ _ _⟩
    have HAX := hid (hA3.all (.slice rb2 rn2 rc2) (.slice wb2 wn2 wc2) (.slice cb2 cn2 cc2))
    have HBX := hid (below_three hB3 (Nat.le_refl _) (.slice rb2 rn2 rc2) (.slice wb2 wn2 wc2) (.slice cb2 cn2 cc2))
    obtain ⟨y0, y1, y2, yf⟩ := hA3
    have yf0 := yf 0
    have yf1 := yf 1
    have yf2 := yf 2
    have HGX := hid (HG.out.below HBX.out)
    have HER := hid (readT_err (keyT s))
    have HRR := hid (read_right (s := keyT s))
    clear yf hdi f1 f2 f3 off hB3 hlt HTAIL
    by_cases hq : (readT (keyT s)).1 = 0
    case neg =>
      have hn := HER.out hq
      have hr0 := Texts.count HDX.out.tr
      have hw0 := Texts.count HDX.out.tw
      have hc0 := Codes.count HDX.out.cd
      rw [hn] at hr0 hw0 hc0
      simp only [List.length_nil] at hr0 hw0 hc0
      subst hr0 hw0 hc0
      have hq1 : ((readT (keyT s)).1 != 0) = true := by simpa using hq
      clear hn hq
      generalize (readT (keyT s)).1 = qe at *
      go_wp2
      go_ret
      exact ⟨rfl, HBX.out⟩
    case pos =>
      have hrr := HRR.out hq
      rw [hq]
      have hrd := right_deed hrr.2
      have HPS := hid (print_calls _ _ _ rb2 rn2 rc2 wb2 wn2 wc2 cb2 cn2 cc2 _ HGX.out HDX.out (small_right hrd.r) (small_right hrd.w) hrr.2)
      rw [hrr.1, ofT_keyT] at HPS
      have HWS : Hid (∀ wx, DeedIn wx rb2 rn2 rc2 wb2 wn2 wc2 cb2 cn2 cc2 (readT (keyT s)).2.1 (readT (keyT s)).2.2.1 (readT (keyT s)).2.2.2 → Calls Tryd.prog 5 #[.agg #[.slice rb2 rn2 rc2, .slice wb2 wn2 wc2, .slice cb2 cn2 cc2]] wx fun e w' => e = .returned (.int .i64 0) ∧ Below wx.heap.size wx w') := fun wx hx => by
        have := refWrongDeed_calls _ _ _ rb2 rn2 rc2 wb2 wn2 wc2 cb2 cn2 cc2 wx hx (small_right hrd.r) (small_right hrd.w)
        rw [hrr.2] at this
        exact this
      have hss := streq_true (rfl : s = s)
      clear hrr hrd hq
      unfold setThree at HPS
      go_wp2_with fail
      refine HPS.out.mono ?_
      rintro e w7 ⟨rfl, hb7⟩
      have HB7 := hid (below_deep HBX.out hb7)
      have HD7 := hid (HDX.out.below hb7)
      obtain ⟨z0, z1, z2, _⟩ := HAX.out.below hb7
      clear hb7
      go_wp2_with fail
      refine (HWS.out _ HD7.out).mono ?_
      rintro e w8 ⟨rfl, hb8⟩
      have HB8 := hid (below_deep HB7.out hb8)
      clear hb8
      go_wp2
      go_ret
      exact ⟨rfl, HB8.out⟩
end Go.Proofs.YtddmdbjedainoabDoor
