/-
  The walk of the statement ChainClear: the call returns true and changes nothing that was there.
-/
import Derived.Test.YtfchjhdgnibnnacChainAlive
import Derived.Test.YtfchjhdgnibnnacRefRight
namespace Go.Proofs.Ytfchjhdgnibnnac
open Go.RowKit

theorem sizeC_snoc (x : Chn) : ∀ L : List Chn, sizeC (L ++ [x]) = sizeC L + x.2.length
  | [] => by simp [sizeC]
  | c :: L => by simp [sizeC, sizeC_snoc x L]; omega
theorem sizeC_le {L : List Chn} (h : ∀ c ∈ L, c.2.length ≤ 1000003) : sizeC L ≤ L.length * 1000003 := by
  induction L with
  | nil => simp [sizeC]
  | cons c L ih =>
    have h1 := h c (by simp)
    have h2 := ih (fun x hx => h x (by simp [hx]))
    simp only [sizeC, List.length_cons]
    omega

set_option maxHeartbeats 1000000 in
theorem sizeC_calls (L : List Chn) (base : Option Addr) (n c : Nat) (w : World) (hf : FitC L) (ha : ChainsIn w base n c L) :
    Calls Try.prog 9 #[.slice base n c] w fun e w' => e = .returned (.int .i64 (sizeC L)) ∧ Below w.heap.size w w' := by
  have hcn : n ≤ 387420489 := by rw [ha.len]; exact hf.count
  have HA := hid ha
  have HLN := hid ha.len
  have HF := hid hf
  clear ha hf
  go_enter Try.func9, Try.ntmps9
  go_wp2
  go_loopw [3, 8] (fun s i wr => ∃ j t : Nat, j ≤ n ∧ t ≤ j * 1000003 ∧ i = .int .i64 j ∧ s = .int .i64 t ∧ Hid (t = sizeC (L.take j)) ∧ Hid (Below w.heap.size w wr)) (fun _ i _ => n - (intOf i).toNat)
  case atStart => exact ⟨0, 0, Nat.zero_le _, Nat.zero_le _, rfl, rfl, rfl, Below.refl _ _⟩
  case round =>
    obtain ⟨j, t, hj, htj, rfl, rfl, HT, HBR⟩ := hrel
    by_cases hlt : j < n
    · have hjl : j < L.length := by rw [← HLN.out]; exact hlt
      have hi : (j : Int) < (n : Int) := by omega
      rcases (HA.out.below HBR.out).run with h | ⟨b, o, rfl, hrun⟩
      · omega
      obtain ⟨vb, vn, vc, c0, c1, hvv, hkz⟩ := hrun j hlt
      have hbw : b < wr.heap.size := by simpa using World.block_lt_of_cell? _ _ c0
      have hfew := HF.out.few _ (memC hjl)
      have hvn := Vers.count hvv
      rw [← hvn] at hfew
      have HNX : Hid (t + vn = sizeC (L.take (j + 1))) := by
        show _ = _
        rw [take_snoc_getD hjl, sizeC_snoc, ← HT.out, hvn]
      generalize (L.getD j default).1 = key at *
      clear hvv hkz hrun hvn
      go_wp2
      go_roundw
      case rel => exact ⟨j + 1, t + vn, by omega, by omega, by go_num, by go_num, HNX, below_deep HBR.out (grew _ _)⟩
      case measure => simp [intOf]; omega
    · obtain rfl : j = n := by omega
      have HT2 : Hid (t = sizeC L) := by
        have := HT.out
        rw [List.take_of_length_le (by rw [← HLN.out]; exact Nat.le_refl _)] at this
        exact this
      go_wp2
      go_ret
      exact ⟨ret_int (show ((t : Nat) : Int) = ((sizeC L : Nat) : Int) by rw [HT2.out]), HBR.out⟩

set_option maxHeartbeats 4000000 in
set_option maxRecDepth 100000 in
theorem chainClear_calls (L : List Chn) (base : Option Addr) (n c : Nat) (by_ : Int) (k : ByteArray) (at_ : Int) (w : World) (ha : ChainsIn w base n c L) (hk : k.size ≤ maxLen) :
    Calls Try.prog 3 #[.slice base n c, .int .i64 by_, .string k, .int .i64 at_] w fun e w' => e = .returned (.bool true) ∧ Below w.heap.size w w' := by
  have HA := hid ha
  have HKEY := hid (fun W => refKey_calls k W hk)
  clear ha hk
  go_enter Try.func3, Try.ntmps3
  go_wp2_with fail
  refine (calive_calls w).mono ?_
  rintro e w1 ⟨rfl, hb1⟩
  have HB1 := hid hb1
  have HRC := hid (refRightC_calls L base n c w1 (HA.out.below hb1))
  clear hb1
  go_wp2_with fail
  refine HRC.out.mono ?_
  rintro e w2 ⟨q, rfl, hq, hb2⟩
  have HB2 := hid (below_deep HB1.out hb2)
  have HQ := hid hq
  clear hb2 hq HRC
  cases q with
  | false =>
    go_wp2
    go_ret
    exact ⟨rfl, HB2.out⟩
  | true =>
    have HR := hid (HQ.out.1 rfl)
    clear HQ
    cases hkb : keyB k with
    | false =>
      rw [hkb] at HKEY
      clear hkb
      go_wp2_with fail
      refine (HKEY.out _).mono ?_
      rintro e w3 ⟨rfl, rfl⟩
      go_wp2
      go_ret
      exact ⟨rfl, HB2.out⟩
    | true =>
      rw [hkb] at HKEY
      clear hkb
      go_wp2_with fail
      refine (HKEY.out _).mono ?_
      rintro e w3 ⟨rfl, rfl⟩
      by_cases h1 : by_ < 0
      · have d1 : decide (by_ < 0) = true := by simpa using h1
        go_wp2
        go_ret
        exact ⟨rfl, HB2.out⟩
      have d1 : decide (by_ < 0) = false := by simpa using h1
      by_cases h2 : 2000000 < by_
      · have d2 : decide (2000000 < by_) = true := by simpa using h2
        go_wp2
        go_ret
        exact ⟨rfl, HB2.out⟩
      have d2 : decide (2000000 < by_) = false := by simpa using h2
      by_cases h3 : at_ < by_
      · have d3 : decide (at_ < by_) = true := by simpa using h3
        go_wp2
        go_ret
        exact ⟨rfl, HB2.out⟩
      have d3 : decide (at_ < by_) = false := by simpa using h3
      by_cases h4 : 2000000 < at_
      · have d4 : decide (2000000 < at_) = true := by simpa using h4
        go_wp2
        go_ret
        exact ⟨rfl, HB2.out⟩
      have d4 : decide (2000000 < at_) = false := by simpa using h4
      have HM := hid (clear_before HR.out (by_ := by_) (at_ := at_) (by omega) k)
      have HSZ := hid (clear_size by_ L)
      clear h1 h2 h3 h4
      have HA2 := hid (HA.out.below HB2.out)
      have HCL := hid (clearC_calls L base n c by_ w2 HR.out.fit HA2.out)
      have HRM := hid (clearC_right (by_ := by_) HR.out)
      go_wp2_with fail
      refine HCL.out.mono ?_
      rintro e w3 ⟨b3, n3, c3, rfl, h3, hb3⟩
      have HB3 := hid (below_deep HB2.out hb3)
      have HX3 := hid h3
      have HA3 := hid (HA2.out.below hb3)
      have HBA := hid (before_calls L base n c k at_ w3 HR.out.fit HA3.out)
      clear h3 hb3 HCL
      go_wp2_with fail
      refine HBA.out.mono ?_
      rintro e w4 ⟨ya, ma, hha, xa, hea, rfl, hb4⟩
      rw [hea] at HM
      have HB4 := hid (below_deep HB3.out hb4)
      have HX4 := hid (HX3.out.below hb4)
      have HA4 := hid (HA3.out.below hb4)
      have HBB := hid (before_calls (clearC by_ L) b3 n3 c3 k at_ w4 HRM.out.fit HX4.out)
      clear hb4 hea HBA
      go_wp2_with fail
      refine HBB.out.mono ?_
      rintro e w5 ⟨yb, mb, hhb, xb, heb, rfl, hb5⟩
      rw [heb] at HM
      have HB5 := hid (below_deep HB4.out hb5)
      have HG5 := hid (below_deep (grew w5 (.cells #[.int .i64 ya, .bool ma, .bool hha, .int .i64 xa] 28)) (grew _ (.cells #[.int .i64 yb, .bool mb, .bool hhb, .int .i64 xb] 28)))
      have HX5 := hid ((HX4.out.below hb5).below HG5.out)
      have HA5 := hid ((HA4.out.below hb5).below HG5.out)
      have HB6 := hid (below_deep HB5.out HG5.out)
      have HRC2 := hid (refRightC_calls (clearC by_ L) b3 n3 c3 _ HX5.out)
      clear hb5 heb HBB
      by_cases ho : hha = false ∧ ma = true
      · obtain ⟨rfl, rfl⟩ := ho
        obtain ⟨rfl, rfl⟩ : mb = true ∧ hhb = false := by
          rcases HM.out with h | ⟨_, _, h⟩
          · simp only [Prod.mk.injEq] at h
            exact ⟨h.2.1.symm, h.2.2.1.symm⟩
          · simp only [ver0, Prod.mk.injEq] at h
            exact ⟨h.2.1, h.2.2.1⟩
        clear HM
        go_wp2_with fail
        refine HRC2.out.mono ?_
        rintro e w6 ⟨q, rfl, hq, hb6⟩
        obtain rfl : q = true := hq.2 HRM.out
        have HB7 := hid (below_deep HB6.out hb6)
        clear hq hb6
        go_wp2
        go_ret
        exact ⟨rfl, HB7.out⟩
      · have hE : (ya, ma, hha, xa) = ((yb, mb, hhb, xb) : Ver) := by
          rcases HM.out with h | ⟨h1, h2, _⟩
          · exact h
          · exact absurd ⟨h2, h1⟩ ho
        simp only [Prod.mk.injEq] at hE
        obtain ⟨rfl, rfl, rfl, rfl⟩ := hE
        clear HM
        have HS1 := hid (fun W h => sizeC_calls (clearC by_ L) b3 n3 c3 W HRM.out.fit h)
        have HS2 := hid (fun W h => sizeC_calls L base n c W HR.out.fit h)
        have e1 : (ya == ya) = true := by simp
        have e2 : (xa == xa) = true := by simp
        have e3 : (ma == ma) = true := by simp
        have e4 : (hha == hha) = true := by simp
        cases ma with
        | false =>
          cases hha with
          | false =>
            go_wp2_with fail
            refine HRC2.out.mono ?_
            rintro e w6 ⟨q, rfl, hq, hb6⟩
            obtain rfl : q = true := hq.2 HRM.out
            have HB7 := hid (below_deep HB6.out hb6)
            have P1 := hid (HS1.out w6 (HX5.out.below hb6))
            have HA6 := hid (HA5.out.below hb6)
            clear hq hb6
            go_wp2_with fail
            refine P1.out.mono ?_
            rintro e w7 ⟨rfl, hb7⟩
            have HB8 := hid (below_deep HB7.out hb7)
            have P2 := hid (HS2.out w7 (HA6.out.below hb7))
            clear hb7 P1
            go_wp2_with fail
            refine P2.out.mono ?_
            rintro e w8 ⟨rfl, hb8⟩
            have HB9 := hid (below_deep HB8.out hb8)
            have hle : ((sizeC (clearC by_ L) : Nat) : Int) ≤ ((sizeC L : Nat) : Int) := by have := HSZ.out; omega
            clear hb8 P2
            go_wp2
            go_ret
            exact ⟨rfl, HB9.out⟩
          | true =>
            go_wp2_with fail
            refine HRC2.out.mono ?_
            rintro e w6 ⟨q, rfl, hq, hb6⟩
            obtain rfl : q = true := hq.2 HRM.out
            have HB7 := hid (below_deep HB6.out hb6)
            have P1 := hid (HS1.out w6 (HX5.out.below hb6))
            have HA6 := hid (HA5.out.below hb6)
            clear hq hb6
            go_wp2_with fail
            refine P1.out.mono ?_
            rintro e w7 ⟨rfl, hb7⟩
            have HB8 := hid (below_deep HB7.out hb7)
            have P2 := hid (HS2.out w7 (HA6.out.below hb7))
            clear hb7 P1
            go_wp2_with fail
            refine P2.out.mono ?_
            rintro e w8 ⟨rfl, hb8⟩
            have HB9 := hid (below_deep HB8.out hb8)
            have hle : ((sizeC (clearC by_ L) : Nat) : Int) ≤ ((sizeC L : Nat) : Int) := by have := HSZ.out; omega
            clear hb8 P2
            go_wp2
            go_ret
            exact ⟨rfl, HB9.out⟩
        | true =>
          cases hha with
          | false => exact absurd ⟨rfl, rfl⟩ ho
          | true =>
            go_wp2_with fail
            refine HRC2.out.mono ?_
            rintro e w6 ⟨q, rfl, hq, hb6⟩
            obtain rfl : q = true := hq.2 HRM.out
            have HB7 := hid (below_deep HB6.out hb6)
            have P1 := hid (HS1.out w6 (HX5.out.below hb6))
            have HA6 := hid (HA5.out.below hb6)
            clear hq hb6
            go_wp2_with fail
            refine P1.out.mono ?_
            rintro e w7 ⟨rfl, hb7⟩
            have HB8 := hid (below_deep HB7.out hb7)
            have P2 := hid (HS2.out w7 (HA6.out.below hb7))
            clear hb7 P1
            go_wp2_with fail
            refine P2.out.mono ?_
            rintro e w8 ⟨rfl, hb8⟩
            have HB9 := hid (below_deep HB8.out hb8)
            have hle : ((sizeC (clearC by_ L) : Nat) : Int) ≤ ((sizeC L : Nat) : Int) := by have := HSZ.out; omega
            clear hb8 P2
            go_wp2
            go_ret
            exact ⟨rfl, HB9.out⟩
end Go.Proofs.Ytfchjhdgnibnnac
