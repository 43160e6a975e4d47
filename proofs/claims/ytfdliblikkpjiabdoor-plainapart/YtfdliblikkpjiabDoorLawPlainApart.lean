/-
  The walk of the statement PlainApart: the call returns true and changes nothing that was there.
-/
import Derived.Test.YtfdliblikkpjiabDoorLawFails
import Derived.Test.YtfdliblikkpjiabDoorNamedKeep
namespace Go.Proofs.YtfdliblikkpjiabDoor
open Go.RowKit

/-- Have two lists something in common? -/
def meetB (A B : List ByteArray) : Bool := A.any (fun x => has B x)
theorem meetB_no {A B : List ByteArray} (h : meetB A B = false) : ∀ k, k ∈ A → k ∉ B := fun k ha hb => by
  have := List.any_eq_false.1 h k ha
  exact this (has_iff.2 hb)
theorem meetB_yes {A B : List ByteArray} {x : ByteArray} (ha : x ∈ A) (hb : x ∈ B) : meetB A B = true := List.any_eq_true.2 ⟨x, ha, has_iff.2 hb⟩

set_option maxHeartbeats 2000000 in
set_option maxRecDepth 100000 in
theorem meet_calls (A B : List ByteArray) (ab : Option Addr) (an ac : Nat) (bb : Option Addr) (bn bc : Nat) (w : World) (ha : Texts w ab an ac A) (hb : Texts w bb bn bc B) :
    Calls Tryd.prog 16 #[.slice ab an ac, .slice bb bn bc] w fun e w' => e = .returned (.bool (meetB A B)) ∧ Below w.heap.size w w' := by
  have HAN := hid (Texts.count ha)
  have HBN := hid (Texts.count hb)
  have ham := Nat.le_trans ha.hdr.le ha.hdr.max
  have hbm := Nat.le_trans hb.hdr.le hb.hdr.max
  unfold maxLen at ham hbm
  have HA := hid ha
  have HB := hid hb
  clear ha hb
  go_enter Tryd.func16, Tryd.ntmps16
  go_wp2
  go_loop [11] (fun i => ∃ j : Nat, j ≤ an ∧ i = .int .i64 j ∧ Hid (meetB (A.take j) B = false)) (fun i => an - (intOf i).toNat)
  case atStart => exact ⟨0, Nat.zero_le _, rfl, rfl⟩
  case round =>
    obtain ⟨j, hj, rfl, HM⟩ := hrel
    by_cases hlt : j < an
    · have hjl : j < A.length := by rw [← HAN.out]; exact hlt
      have hi : (j : Int) < (an : Int) := by omega
      rcases HA.out.run with h | ⟨b1, o1, rfl, h1⟩
      · omega
      have c1 := h1 j _ (strs_at hjl)
      have HTK := hid (take_snoc_getD hjl)
      have HIN : Hid (A.getD j default ∈ A) := by show _ ∈ _; simp [List.getD, hjl]
      clear h1
      generalize A.getD j default = x at *
      go_wp2
      go_loop [17] (fun i => ∃ t : Nat, t ≤ bn ∧ i = .int .i64 t ∧ Hid (has (B.take t) x = false)) (fun i => bn - (intOf i).toNat)
      case atStart => exact ⟨0, Nat.zero_le _, rfl, rfl⟩
      case round =>
        obtain ⟨t, ht, rfl, HX⟩ := hrel
        by_cases htl : t < bn
        · have htl' : t < B.length := by rw [← HBN.out]; exact htl
          have hti : (t : Int) < (bn : Int) := by omega
          rcases HB.out.run with h | ⟨b2, o2, rfl, h2⟩
          · omega
          have c2 := h2 t _ (strs_at htl')
          have HSN := hid (has_snoc (B.take t) (B.getD t default) x)
          rw [← take_snoc_getD htl'] at HSN
          have HIB : Hid (B.getD t default ∈ B) := by show _ ∈ _; simp [List.getD, htl']
          clear h2
          generalize B.getD t default = y at *
          by_cases hy : x = y
          · have hst := streq_true hy
            have HR : Hid (meetB A B = true) := meetB_yes (x := x) HIN.out (by rw [hy]; exact HIB.out)
            clear hy
            go_wp2
            go_ret
            exact ⟨by rw [HR.out]; rfl, Below.refl _ _⟩
          · have hst := streq_false hy
            have HN : Hid (has (B.take (t + 1)) x = false) := by
              show _ = _
              rw [HSN.out, HX.out]
              simpa using fun e : y = x => hy e.symm
            clear hy
            go_wp2
            go_round
            case rel => exact ⟨t + 1, by omega, by go_num, HN⟩
            case measure => simp [intOf]; omega
        · obtain rfl : t = bn := by omega
          have HN : Hid (meetB (A.take (j + 1)) B = false) := by
            have hx := HX.out
            rw [List.take_of_length_le (by rw [← HBN.out]; exact Nat.le_refl _)] at hx
            show _ = _
            unfold meetB at *
            rw [HTK.out, List.any_append, HM.out]
            simp [hx]
          go_wp2
          go_round
          case rel => exact ⟨j + 1, by omega, by go_num, HN⟩
          case measure => simp [intOf]; omega
    · obtain rfl : j = an := by omega
      have HR : Hid (meetB A B = false) := by
        have := HM.out
        rw [List.take_of_length_le (by rw [← HAN.out]; exact Nat.le_refl _)] at this
        exact this
      go_wp2
      go_ret
      exact ⟨by rw [HR.out]; rfl, Below.refl _ _⟩

set_option maxHeartbeats 1000000 in
theorem same_quiet (l : List Row) (ba bb : Option Addr) (n m ca cb : Nat) (w : World) (ha : Holds w ba n ca l) (hb : Holds w bb m cb l) :
    Calls Tryd.prog 14 #[.slice ba n ca, .slice bb m cb] w fun e w' => e = .returned (.bool true) ∧ ∃ q, w' = w.drewN q := by
  obtain rfl : n = m := by have := ha.len; have := hb.len; omega
  have hl := Nat.le_trans ha.hdr.le ha.hdr.max
  unfold maxLen at hl
  have HN := hid ha.len
  have HA := hid ha.seg
  have HB := hid hb.seg
  clear ha hb
  go_enter Tryd.func14, Tryd.ntmps14
  go_wp2
  go_loopw [13] (fun i wr => ∃ k : Nat, k ≤ n ∧ i = .int .i64 k ∧ ∃ q, wr = w.drewN q) (fun i _ => n - (intOf i).toNat)
  case atStart => exact ⟨0, Nat.zero_le _, rfl, 0, rfl⟩
  case round =>
    obtain ⟨k, hk, rfl, q, rfl⟩ := hrel
    by_cases hlt : k < n
    · have hkl : k < l.length := by rw [← HN.out]; exact hlt
      rcases HA.out with h | ⟨b1, o1, rfl, h1⟩
      · rw [h] at hkl; simp at hkl
      rcases HB.out with h | ⟨b2, o2, rfl, h2⟩
      · rw [h] at hkl; simp at hkl
      obtain ⟨c1, d1⟩ := h1 k hkl
      obtain ⟨c2, d2⟩ := h2 k hkl
      clear h1 h2
      generalize (l.getD k default).1 = kk at *
      generalize (l.getD k default).2 = nn at *
      have hi : (k : Int) < (n : Int) := by omega
      go_wp2
      go_quiet (fail)
      go_wp2
      go_roundw
      case rel => exact ⟨k + 1, by omega, by go_num, _, rfl⟩
      case measure => simp [intOf]; omega
    · go_wp2
      go_ret
      exact ⟨rfl, q, rfl⟩

set_option maxHeartbeats 8000000 in
set_option maxRecDepth 100000 in
theorem plainApart_calls (l : List Row) (d e : Deed3) (lb : Option Addr) (ln lc : Nat) (rb : Option Addr) (rn rc : Nat) (wb : Option Addr) (wn wc : Nat) (cb : Option Addr) (cn cc : Nat) (rb' : Option Addr) (rn' rc' : Nat) (wb' : Option Addr) (wn' wc' : Nat) (cb' : Option Addr) (cn' cc' : Nat) (w : World) (hG : GroundN w)
    (hh : Holds w lb ln lc l) (hsm : Small l) (hd : DeedIn w rb rn rc wb wn wc cb cn cc d.1 d.2.1 d.2.2) (hsR : SmallT d.1) (hsW : SmallT d.2.1) (he : DeedIn w rb' rn' rc' wb' wn' wc' cb' cn' cc' e.1 e.2.1 e.2.2) (hsR' : SmallT e.1) (hsW' : SmallT e.2.1) :
    Calls Tryd.prog 5 #[.slice lb ln lc, .agg #[.slice rb rn rc, .slice wb wn wc, .slice cb cn cc], .agg #[.slice rb' rn' rc', .slice wb' wn' wc', .slice cb' cn' cc']] w fun e w' => e = .returned (.bool true) ∧ Below w.heap.size w w' := by
  have HG0 := hid (below_deep (grew w (.cells #[.slice rb rn rc, .slice wb wn wc, .slice cb cn cc] 25)) (grew _ (.cells #[.slice rb' rn' rc', .slice wb' wn' wc', .slice cb' cn' cc'] 25)))
  have HA0 := hid ((three_new w (.slice rb rn rc) (.slice wb wn wc) (.slice cb cn cc) 25).below (grew _ (.cells #[.slice rb' rn' rc', .slice wb' wn' wc', .slice cb' cn' cc'] 25)))
  have HE0 := hid (three_new (w.alloc (.cells #[.slice rb rn rc, .slice wb wn wc, .slice cb cn cc] 25)) (.slice rb' rn' rc') (.slice wb' wn' wc') (.slice cb' cn' cc') 25)
  rw [World.size_alloc] at HE0
  have HAL := hid (palive_calls _ (hG.below HG0.out))
  have HH := hid hh
  have HSM := hid hsm
  have HD := hid hd
  have HE := hid he
  have HS1 := hid (And.intro hsR hsW)
  have HS2 := hid (And.intro hsR' hsW')
  have harr := regsEq
  clear hG hh hsm hd hsR hsW he hsR' hsW'
  go_enter Tryd.func5, Tryd.ntmps5
  go_wp2_with fail
  refine HAL.out.mono ?_
  rintro e w1 ⟨rfl, hb1⟩
  have HB1 := hid (below_deep HG0.out hb1)
  have HA1 := hid (HA0.out.below hb1)
  have HE1 := hid (HE0.out.below hb1)
  have HWR := hid (refWrong_holds l lb ln lc w1 HSM.out (HH.out.below HB1.out))
  clear hb1 HAL
  go_wp2_with fail
  refine HWR.out.mono ?_
  rintro e w2 ⟨rfl, hb2⟩
  have HB2 := hid (below_deep HB1.out hb2)
  have HA2 := hid (HA1.out.below hb2)
  have HE2 := hid (HE1.out.below hb2)
  clear hb2
  by_cases hz : wrong l = 0
  rotate_left
  · have t := ne_true hz
    clear hz
    generalize wrong l = q at *
    go_wp2
    go_ret
    exact ⟨rfl, HB2.out⟩
  rw [hz]
  have HR := hid (right_of hz)
  clear hz HWR
  obtain ⟨a0, a1, a2, _⟩ := HA2.out
  have HWD := hid (refWrongDeed_calls d.1 d.2.1 d.2.2 rb rn rc wb wn wc cb cn cc w2 (HD.out.below HB2.out) HS1.out.1 HS1.out.2)
  go_wp2_with fail
  refine HWD.out.mono ?_
  rintro e w3 ⟨rfl, hb3⟩
  have HB3 := hid (below_deep HB2.out hb3)
  have HA3 := hid (HA2.out.below hb3)
  have HE3 := hid (HE2.out.below hb3)
  clear hb3 a0 a1 a2
  by_cases hz2 : wDeed d.1 d.2.1 d.2.2 = 0
  rotate_left
  · have t := ne_true hz2
    clear hz2
    generalize wDeed d.1 d.2.1 d.2.2 = q at *
    go_wp2
    go_ret
    exact ⟨rfl, HB3.out⟩
  rw [hz2]
  have HRD : Hid (RightDD d) := right_deed hz2
  clear hz2 HWD
  obtain ⟨a0, a1, a2, _⟩ := HE3.out
  have HWE := hid (refWrongDeed_calls e.1 e.2.1 e.2.2 rb' rn' rc' wb' wn' wc' cb' cn' cc' w3 (HE.out.below HB3.out) HS2.out.1 HS2.out.2)
  go_wp2_with fail
  refine HWE.out.mono ?_
  rintro e4 w4 ⟨rfl, hb4⟩
  have HB4 := hid (below_deep HB3.out hb4)
  have HA4 := hid (HA3.out.below hb4)
  have HE4 := hid (HE3.out.below hb4)
  clear hb4 a0 a1 a2
  by_cases hz3 : wDeed e.1 e.2.1 e.2.2 = 0
  rotate_left
  · have t := ne_true hz3
    clear hz3
    generalize wDeed e.1 e.2.1 e.2.2 = q at *
    go_wp2
    go_ret
    exact ⟨rfl, HB4.out⟩
  rw [hz3]
  have HRE : Hid (RightDD e) := right_deed hz3
  clear hz3 HWE
  obtain ⟨a0, a1, a2, _⟩ := HA4.out
  obtain ⟨b0, b1, b2, _⟩ := HE4.out
  have HM1 := hid (meet_calls d.2.1 e.2.1 wb wn wc wb' wn' wc' w4 (HD.out.below HB4.out).tw (HE.out.below HB4.out).tw)
  go_wp2_with fail
  refine HM1.out.mono ?_
  rintro e5 w5 ⟨rfl, hb5⟩
  have HB5 := hid (below_deep HB4.out hb5)
  have HA5 := hid (HA4.out.below hb5)
  have HE5 := hid (HE4.out.below hb5)
  clear hb5 a0 a1 a2 b0 b1 b2 HM1
  cases hm1 : meetB d.2.1 e.2.1 with
  | true =>
    clear hm1
    go_wp2
    go_ret
    exact ⟨rfl, HB5.out⟩
  | false =>
  have HN1 := hid (meetB_no hm1)
  clear hm1
  obtain ⟨a0, a1, a2, _⟩ := HA5.out
  obtain ⟨b0, b1, b2, _⟩ := HE5.out
  have HM2 := hid (meet_calls d.2.1 e.1 wb wn wc rb' rn' rc' w5 (HD.out.below HB5.out).tw (HE.out.below HB5.out).tr)
  go_wp2_with fail
  refine HM2.out.mono ?_
  rintro e6 w6 ⟨rfl, hb6⟩
  have HB6 := hid (below_deep HB5.out hb6)
  have HA6 := hid (HA5.out.below hb6)
  have HE6 := hid (HE5.out.below hb6)
  clear hb6 a0 a1 a2 b0 b1 b2 HM2
  cases hm2 : meetB d.2.1 e.1 with
  | true =>
    clear hm2
    go_wp2
    go_ret
    exact ⟨rfl, HB6.out⟩
  | false =>
  have HN2 := hid (meetB_no hm2)
  clear hm2
  obtain ⟨a0, a1, a2, _⟩ := HA6.out
  obtain ⟨b0, b1, b2, _⟩ := HE6.out
  have HM3 := hid (meet_calls d.1 e.2.1 rb rn rc wb' wn' wc' w6 (HD.out.below HB6.out).tr (HE.out.below HB6.out).tw)
  go_wp2_with fail
  refine HM3.out.mono ?_
  rintro e7 w7 ⟨rfl, hb7⟩
  have HB7 := hid (below_deep HB6.out hb7)
  have HA7 := hid (HA6.out.below hb7)
  have HE7 := hid (HE6.out.below hb7)
  clear hb7 a0 a1 a2 b0 b1 b2 HM3
  cases hm3 : meetB d.1 e.2.1 with
  | true =>
    clear hm3
    go_wp2
    go_ret
    exact ⟨rfl, HB7.out⟩
  | false =>
  have HN3 := hid (meetB_no hm3)
  clear hm3
  have HROWS := hid (apart_rows HR.out.srt HRD.out HRE.out HN1.out HN2.out (fun k hk h => HN3.out k h hk))
  have HENDS := hid (apart_ends HR.out.srt HRD.out HRE.out HN2.out (fun k hk h => HN3.out k h hk))
  obtain ⟨a0, a1, a2, _⟩ := HA7.out
  obtain ⟨b0, b1, b2, _⟩ := HE7.out
  have HG7 := hid (grew w7 (.cells #[.slice rb rn rc, .slice wb wn wc, .slice cb cn cc, .slice rb' rn' rc', .slice wb' wn' wc', .slice cb' cn' cc'] 25))
  have HDS := hid (deeds_two w7 rb rn rc wb wn wc cb cn cc rb' rn' rc' wb' wn' wc' cb' cn' cc' d e (HD.out.below HB7.out) (HE.out.below HB7.out) HS1.out HS2.out)
  have HB7' := hid (below_deep HB7.out HG7.out)
  have HALL := hid (all_calls l [d, e] lb ln lc _ 2 2 _ (HH.out.below HB7'.out) HR.out HDS.out (fun x hx => by simp at hx; rcases hx with rfl | rfl; exact HRD.out; exact HRE.out) (by decide))
  go_wp2_with fail
  refine HALL.out.mono ?_
  rintro e8 w8 ⟨nb, nn, nc, eb, en, ec, rfl, h8, he8, hb8⟩
  have HX8 := hid h8
  have HF8 := hid he8
  have hb78 := below_deep HG7.out hb8
  have HB8 := hid (below_deep HB7.out hb78)
  have HA8 := hid (HA7.out.below hb78)
  have HE8 := hid (HE7.out.below hb78)
  clear h8 he8 hb8 hb78 a0 a1 a2 b0 b1 b2 HALL HDS
  obtain ⟨a0, a1, a2, _⟩ := HA8.out
  obtain ⟨b0, b1, b2, _⟩ := HE8.out
  have HG8 := hid (grew w8 (.cells #[.slice rb' rn' rc', .slice wb' wn' wc', .slice cb' cn' cc', .slice rb rn rc, .slice wb wn wc, .slice cb cn cc] 25))
  have HDS := hid (deeds_two w8 rb' rn' rc' wb' wn' wc' cb' cn' cc' rb rn rc wb wn wc cb cn cc e d (HE.out.below HB8.out) (HD.out.below HB8.out) HS2.out HS1.out)
  have HB8' := hid (below_deep HB8.out HG8.out)
  have HALL := hid (all_calls l [e, d] lb ln lc _ 2 2 _ (HH.out.below HB8'.out) HR.out HDS.out (fun x hx => by simp at hx; rcases hx with rfl | rfl; exact HRE.out; exact HRD.out) (by decide))
  go_wp2_with fail
  refine HALL.out.mono ?_
  rintro e9 w9 ⟨nb9, nn9, nc9, eb9, en9, ec9, rfl, h9, he9, hb9⟩
  have hb89 := below_deep HG8.out hb9
  have HB9 := hid (below_deep HB8.out hb89)
  have HQ := hid (fun n => same_quiet (doD (doD l d) e) nb nb9 nn nn9 nc nc9 (w9.drewN n) ((show Holds w8 nb nn nc (doD (doD l d) e) from HX8.out).below (below_drewN hb89 n)) ((show Holds w9 nb9 nn9 nc9 (doD (doD l d) e) from by rw [HROWS.out]; exact h9).below (below_drewN (Below.refl _ _) n)))
  have f8 := HF8.out.below (by decide) hb89
  have hen : endsD l [d, e] = [endD l d, endD l e] := by
    show [endD l d, endD (doD l d) e] = _
    rw [HENDS.out.1]
  have hen9 : endsD l [e, d] = [endD l e, endD l d] := by
    show [endD l e, endD (doD l e) d] = _
    rw [HENDS.out.2]
  rw [hen] at f8
  rw [hen9] at he9
  obtain rfl : en = 2 := Ends.count f8
  obtain rfl : en9 = 2 := Ends.count he9
  rcases f8.run with h | ⟨p1, o1, rfl, r1⟩
  · cases h
  rcases he9.run with h | ⟨p2, o2, rfl, r2⟩
  · cases h
  obtain ⟨x0, x1, x2, x3, x4⟩ := Ends.cells r1 (k := 0) (by simp)
  obtain ⟨y0, y1, y2, y3, y4⟩ := Ends.cells r1 (k := 1) (by simp)
  obtain ⟨u0, u1, u2, u3, u4⟩ := Ends.cells r2 (k := 0) (by simp)
  obtain ⟨v0, v1, v2, v3, v4⟩ := Ends.cells r2 (k := 1) (by simp)
  have ea : (([endD l d, endD l e] : List End3).getD 0 default) = endD l d := rfl
  have eb : (([endD l d, endD l e] : List End3).getD 1 default) = endD l e := rfl
  have ec' : (([endD l e, endD l d] : List End3).getD 0 default) = endD l e := rfl
  have ed : (([endD l e, endD l d] : List End3).getD 1 default) = endD l d := rfl
  rw [ea] at x0 x1 x2 x3 x4
  rw [eb] at y0 y1 y2 y3 y4
  rw [ec'] at u0 u1 u2 u3 u4
  rw [ed] at v0 v1 v2 v3 v4
  simp only [Nat.zero_mul, Nat.one_mul, Nat.add_zero] at x0 x1 x2 x3 x4 y0 y1 y2 y3 y4 u0 u1 u2 u3 u4 v0 v1 v2 v3 v4
  clear r1 r2 f8 he9 h9 hb9 hb89 hen hen9 ea eb ec' ed a0 a1 a2 b0 b1 b2 HALL HDS HROWS HENDS HX8 HF8
  generalize (endD l d).1 = fd at *
  generalize (endD l d).2 = rd at *
  generalize (endD l e).1 = fe at *
  generalize (endD l e).2 = re at *
  go_wp2
  go_quiet ((go_at_call 14; exact Calls.quiet_of (HQ.out _)))
  go_wp2
  go_ret
  exact ⟨rfl, below_drewN HB9.out _⟩
end Go.Proofs.YtfdliblikkpjiabDoor
