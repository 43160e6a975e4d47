/-
  The document's own RightChains, walked.
-/
import Derived.Test.YtllhdmhfjahglacChainAt
import Derived.Deep.DeepCutAuto
namespace Go.Proofs.Ytllhdmhfjahglac
open Go.RowKit

/-- A version is right, and behind the one ahead of it. -/
def RightVAt (l : List Ver) (k : Nat) : Prop := RightV (l.getD k default) ∧ (0 < k → (l.getD (k - 1) default).by_ < (l.getD k default).by_)
def RightCAt (L : List Chn) (i : Nat) : Prop := keyB (L.getD i default).1 = true ∧ (0 < i → less (L.getD (i - 1) default).1 (L.getD i default).1 = true) ∧ (L.getD i default).2 ≠ [] ∧ ∀ k, k < (L.getD i default).2.length → RightVAt (L.getD i default).2 k
theorem memD {α : Type} [Inhabited α] {l : List α} {i : Nat} (h : i < l.length) : l.getD i default ∈ l := by simp [List.getD, h]
theorem mem_at {α : Type} [Inhabited α] {l : List α} {x : α} (h : x ∈ l) : ∃ i, i < l.length ∧ l.getD i default = x := by
  obtain ⟨i, hi, rfl⟩ := List.getElem_of_mem h
  exact ⟨i, hi, by simp [List.getD, hi]⟩
theorem rise_of {l : List Ver} (h : ∀ k, k < l.length → RightVAt l k) : Rise l := by
  unfold Rise
  rw [List.pairwise_iff_getElem]
  have key : ∀ d i (hi : i < l.length) (hj : i + d + 1 < l.length), l[i].by_ < l[i + d + 1].by_ := by
    intro d
    induction d with
    | zero =>
      intro i hi hj
      have := (h (i + 1) hj).2 (by omega)
      simpa [List.getD, hi, hj] using this
    | succ d ih =>
      intro i hi hj
      have h1 := ih i hi (by omega)
      have h2 := (h (i + (d + 1) + 1) hj).2 (by omega)
      have h3 : i + d + 1 < l.length := by omega
      simp only [Nat.add_sub_cancel] at h2
      rw [show i + (d + 1) = i + d + 1 from by omega] at h2
      simp only [List.getD, List.getElem?_eq_getElem h3, List.getElem?_eq_getElem (show i + d + 1 + 1 < l.length by omega), Option.getD_some] at h2
      exact Int.lt_trans h1 h2
  intro i j hi hj hij
  obtain ⟨d, rfl⟩ : ∃ d, j = i + d + 1 := ⟨j - i - 1, by omega⟩
  exact key d i hi hj
theorem srtC_of {L : List Chn} (h : ∀ i, i < L.length → RightCAt L i) : SrtC L := by
  unfold SrtC
  rw [List.pairwise_iff_getElem]
  have key : ∀ d i (hi : i < L.length) (hj : i + d + 1 < L.length), less L[i].1 L[i + d + 1].1 = true := by
    intro d
    induction d with
    | zero =>
      intro i hi hj
      have := (h (i + 1) hj).2.1 (by omega)
      simpa [List.getD, hi, hj] using this
    | succ d ih =>
      intro i hi hj
      have h1 := ih i hi (by omega)
      have h2 := (h (i + (d + 1) + 1) hj).2.1 (by omega)
      have h3 : i + d + 1 < L.length := by omega
      simp only [Nat.add_sub_cancel] at h2
      rw [show i + (d + 1) = i + d + 1 from by omega] at h2
      simp only [List.getD, List.getElem?_eq_getElem h3, List.getElem?_eq_getElem (show i + d + 1 + 1 < L.length by omega), Option.getD_some] at h2
      exact less_trans h1 h2
  intro i j hi hj hij
  obtain ⟨d, rfl⟩ : ∃ d, j = i + d + 1 := ⟨j - i - 1, by omega⟩
  exact key d i hi hj
theorem rightC_of {L : List Chn} (h : ∀ i, i < L.length → RightCAt L i) : RightC L := by
  refine ⟨srtC_of h, fun c hc => ?_, fun c hc => ?_, fun c hc => ?_, fun c hc v hv => ?_⟩
  · obtain ⟨i, hi, rfl⟩ := mem_at hc; exact (h i hi).1
  · obtain ⟨i, hi, rfl⟩ := mem_at hc; exact (h i hi).2.2.1
  · obtain ⟨i, hi, rfl⟩ := mem_at hc; exact rise_of (h i hi).2.2.2
  · obtain ⟨i, hi, rfl⟩ := mem_at hc
    obtain ⟨k, hk, rfl⟩ := mem_at hv
    exact ((h i hi).2.2.2 k hk).1
theorem rightC_at {L : List Chn} (h : RightC L) {i : Nat} (hi : i < L.length) : RightCAt L i := by
  have hm := memC hi
  refine ⟨h.key _ hm, fun h0 => srtC_lt h.srt (by omega) hi, h.some_ _ hm, fun k hk => ⟨h.ver _ hm _ (memD hk), fun h0 => rise_lt (h.rise _ hm) (by omega) hk⟩⟩
/-- What is first wrong with a version. -/
theorem ver_parts (y x : Int) (mm hh pr : Bool) :
    decide (y < -1) = true ∨ (decide (y < -1) = false ∧ decide (1000000 < y) = true) ∨ (decide (y < -1) = false ∧ decide (1000000 < y) = false ∧ pr = true) ∨
    (decide (y < -1) = false ∧ decide (1000000 < y) = false ∧ pr = false ∧ decide (x < -1073741824) = true) ∨
    (decide (y < -1) = false ∧ decide (1000000 < y) = false ∧ pr = false ∧ decide (x < -1073741824) = false ∧ decide (1073741824 < x) = true) ∨
    (decide (y < -1) = false ∧ decide (1000000 < y) = false ∧ pr = false ∧ decide (x < -1073741824) = false ∧ decide (1073741824 < x) = false ∧ hh = false ∧ (x != 0) = true) ∨
    (decide (y < -1) = false ∧ decide (1000000 < y) = false ∧ pr = false ∧ decide (x < -1073741824) = false ∧ decide (1073741824 < x) = false ∧ hh = true ∧ mm = false) ∨
    (decide (y < -1) = false ∧ decide (1000000 < y) = false ∧ pr = false ∧ decide (x < -1073741824) = false ∧ decide (1073741824 < x) = false ∧ hh = false ∧ (x != 0) = false ∧ mm = false) ∨
    (decide (y < -1) = false ∧ decide (1000000 < y) = false ∧ pr = false ∧ decide (x < -1073741824) = false ∧ decide (1073741824 < x) = false ∧ hh = false ∧ (x != 0) = false ∧ mm = true) ∨
    (decide (y < -1) = false ∧ decide (1000000 < y) = false ∧ pr = false ∧ decide (x < -1073741824) = false ∧ decide (1073741824 < x) = false ∧ hh = true ∧ mm = true) := by
  cases decide (y < -1) <;> cases decide (1000000 < y) <;> cases pr <;> cases decide (x < -1073741824) <;> cases decide (1073741824 < x) <;> cases hh <;> cases (x != 0) <;> cases mm <;> simp

theorem rightV_of {y x : Int} {mm hh : Bool} (h1 : decide (y < -1) = false) (h2 : decide (1000000 < y) = false) (h4 : decide (x < -1073741824) = false) (h5 : decide (1073741824 < x) = false) (h6 : hh = false → (x != 0) = false) (h7 : mm = false → hh = false) : RightV (y, mm, hh, x) := by
  simp only [decide_eq_false_iff_not] at h1 h2 h4 h5
  exact ⟨by show -1 ≤ y; omega, by show y ≤ 1000000; omega, by show -1073741824 ≤ x; omega, by show x ≤ 1073741824; omega, fun h => by simpa using h6 h, h7⟩
theorem rightV_not {y x : Int} {mm hh : Bool} (hv : RightV (y, mm, hh, x)) : decide (y < -1) = false ∧ decide (1000000 < y) = false ∧ decide (x < -1073741824) = false ∧ decide (1073741824 < x) = false ∧ (hh = false → (x != 0) = false) ∧ (hh = true → mm = true) := by
  have a1 : -1 ≤ y := hv.lo
  have a2 : y ≤ 1000000 := hv.hi
  have a3 : -1073741824 ≤ x := hv.nlo
  have a4 : x ≤ 1073741824 := hv.nhi
  refine ⟨by simp; omega, by simp; omega, by simp; omega, by simp; omega, fun h => by have : x = 0 := hv.zero h; simp [this], fun h => ?_⟩
  cases mm with
  | true => rfl
  | false => have : hh = false := hv.made rfl; rw [this] at h; cases h


/-- A test's answer: false just where p is so. -/
def Fails (b : Bool) (p : Prop) : Prop := b = false ↔ p
/-- What is right ahead of a chain's versions. -/
def HeadOk (L : List Chn) (i : Nat) : Prop := keyB (L.getD i default).1 = true ∧ (0 < i → less (L.getD (i - 1) default).1 (L.getD i default).1 = true) ∧ (L.getD i default).2 ≠ []

set_option maxHeartbeats 8000000 in
set_option maxRecDepth 100000 in
theorem refRightC_calls (L : List Chn) (base : Option Addr) (n c : Nat) (w : World) (ha : ChainsIn w base n c L) :
    Calls Try.prog 7 #[.slice base n c] w fun e w' => ∃ q : Bool, e = .returned (.bool q) ∧ (q = true ↔ RightC L) ∧ Below w.heap.size w w' := by
  have hdm := Nat.le_trans ha.hdr.le ha.hdr.max
  unfold maxLen at hdm
  have HA := hid ha
  have HLN := hid ha.len
  clear ha
  go_enter Try.func7, Try.ntmps7
  go_wp2
  go_loopw [9] (fun i wr => ∃ j : Nat, j ≤ n ∧ i = .int .i64 j ∧ Hid (∀ i, i < j → RightCAt L i) ∧ Hid (Below w.heap.size w wr)) (fun i _ => n - (intOf i).toNat)
  case atStart => exact ⟨0, Nat.zero_le _, rfl, fun i hi => absurd hi (Nat.not_lt_zero _), Below.refl _ _⟩
  case round =>
    obtain ⟨j, hj, rfl, HR, HBR⟩ := hrel
    by_cases hlt : j < n
    · have hjl : j < L.length := by rw [← HLN.out]; exact hlt
      have HJL := hid hjl
      have hi : (j : Int) < (n : Int) := by omega
      rcases (HA.out.below HBR.out).run with h | ⟨b, o, rfl, hrun⟩
      · omega
      obtain ⟨vb, vn, vc, c0, c1, hvv, hkz⟩ := hrun j hlt
      have hbw : b < wr.heap.size := by simpa using World.block_lt_of_cell? _ _ c0
      have hvm := Nat.le_trans hvv.hdr.le hvv.hdr.max
      unfold maxLen at hvm
      have HVC := hid (Vers.count hvv)
      obtain ⟨key, vs, hx⟩ : ∃ key vs, L.getD j default = (key, vs) := ⟨_, _, rfl⟩
      rw [hx] at c0 hvv hkz HVC
      simp only at c0 hvv hkz HVC
      have HXJ := hid hx
      have HVS : Hid ((L.getD j default).2 = vs) := by show _ = _; rw [hx]
      clear hx
      have HKEY := hid (fun W => refKey_calls key W hkz)
      have HRUN := hid hrun
      have HGW := hid (grew wr (.cells #[.string key, .slice vb vn vc] 69))
      have HBG := hid (below_deep HBR.out HGW.out)
      have HVG := hid (hvv.below (by decide) HGW.out)
      clear hvv hrun
      go_upto_region 4 with fail
      go_cut [38] (fun cv wx => ∃ bad : Bool, cv = .bool bad ∧ Hid (Fails bad (HeadOk L j)) ∧ ∃ q, wx = (wr.alloc (.cells #[.string key, .slice vb vn vc] 69)).drewN q)
      case first =>
        cases hkb : keyB key with
        | false =>
          rw [hkb] at HKEY
          have HQ : Hid (Fails true (HeadOk L j)) := ⟨(fun h => by cases h), (fun h => by have := h.1; rw [HXJ.out, hkb] at this; cases this)⟩
          clear hkb
          go_quiet ((go_at_call 8; exact Calls.quiet_of_same ((HKEY.out _).mono fun e w' h => ⟨h.1, h.2.symm⟩)))
          go_wp2
          go_meet
          case rel => exact ⟨_, rfl, HQ, _, rfl⟩
        | true =>
          rw [hkb] at HKEY
          have HKB := hid hkb
          clear hkb
          by_cases hj0 : j = 0
          · have dj : decide (0 < (j : Int)) = false := by simp; omega
            have dj2 : decide (0 < j) = false := by simp; omega
            have HJ0 := hid hj0
            clear hj0 HRUN
            by_cases h0 : vn = 0
            · have HQ : Hid (Fails true (HeadOk L j)) := ⟨(fun h => by cases h), (fun h => absurd (by rw [HVS.out]; exact List.eq_nil_of_length_eq_zero (by rw [← HVC.out]; exact h0)) h.2.2)⟩
              have he : ((vn : Int) == 0) = true := by simp; omega
              go_quiet ((go_at_call 8; exact Calls.quiet_of_same ((HKEY.out _).mono fun e w' h => ⟨h.1, h.2.symm⟩)))
              go_wp2
              go_meet
              case rel => exact ⟨_, rfl, HQ, _, rfl⟩
            · have HQ : Hid (Fails false (HeadOk L j)) := ⟨(fun _ => ⟨by rw [HXJ.out]; exact HKB.out, (fun h => absurd HJ0.out (by omega)), by rw [HVS.out]; exact fun e => h0 (by rw [HVC.out, e]; rfl)⟩), (fun _ => rfl)⟩
              have he : ((vn : Int) == 0) = false := by simp; omega
              go_quiet ((go_at_call 8; exact Calls.quiet_of_same ((HKEY.out _).mono fun e w' h => ⟨h.1, h.2.symm⟩)))
              go_wp2
              go_meet
              case rel => exact ⟨_, rfl, HQ, _, rfl⟩
          · obtain ⟨i, rfl⟩ : ∃ i, j = i + 1 := ⟨j - 1, by omega⟩
            obtain ⟨vb0, vn0, vc0, p0, _⟩ := HRUN.out i (by omega)
            have hwr : IntKind.i64.wrap (i : Int) = (i : Int) := by rw [IntKind.wrap_i64]; omega
            have hij : (i : Int) < (n : Int) := by omega
            obtain ⟨kj, hkj⟩ : ∃ kj, (L.getD i default).1 = kj := ⟨_, rfl⟩
            rw [hkj] at p0
            have HKJ := hid hkj
            clear hkj HRUN hj0
            cases hls : less kj key with
            | false =>
              have t1 : Op.bytesLess kj.toList key.toList = false := hls
              have HQ : Hid (Fails true (HeadOk L (i + 1))) := ⟨(fun h => by cases h), (fun h => by
                have := h.2.1 (by omega)
                rw [Nat.add_sub_cancel, HKJ.out, HXJ.out] at this
                simp only at this
                rw [hls] at this; cases this)⟩
              clear hls
              go_quiet ((go_at_call 8; exact Calls.quiet_of_same ((HKEY.out _).mono fun e w' h => ⟨h.1, h.2.symm⟩)))
              go_wp2
              go_meet
              case rel => exact ⟨_, rfl, HQ, _, rfl⟩
            | true =>
              have t1 : Op.bytesLess kj.toList key.toList = true := hls
              have HPR : Hid (0 < i + 1 → less (L.getD (i + 1 - 1) default).1 (L.getD (i + 1) default).1 = true) := fun _ => by
                rw [Nat.add_sub_cancel, HKJ.out, HXJ.out]; exact hls
              clear hls
              by_cases h0 : vn = 0
              · have HQ : Hid (Fails true (HeadOk L (i + 1))) := ⟨(fun h => by cases h), (fun h => absurd (by rw [HVS.out]; exact List.eq_nil_of_length_eq_zero (by rw [← HVC.out]; exact h0)) h.2.2)⟩
                have he : ((vn : Int) == 0) = true := by simp; omega
                go_quiet ((go_at_call 8; exact Calls.quiet_of_same ((HKEY.out _).mono fun e w' h => ⟨h.1, h.2.symm⟩)))
                go_wp2
                go_meet
                case rel => exact ⟨_, rfl, HQ, _, rfl⟩
              · have HQ : Hid (Fails false (HeadOk L (i + 1))) := ⟨(fun _ => ⟨by rw [HXJ.out]; exact HKB.out, HPR.out, by rw [HVS.out]; exact fun e => h0 (by rw [HVC.out, e]; rfl)⟩), (fun _ => rfl)⟩
                have he : ((vn : Int) == 0) = false := by simp; omega
                go_quiet ((go_at_call 8; exact Calls.quiet_of_same ((HKEY.out _).mono fun e w' h => ⟨h.1, h.2.symm⟩)))
                go_wp2
                go_meet
                case rel => exact ⟨_, rfl, HQ, _, rfl⟩
      case rest =>
        obtain ⟨bad, rfl, HHO, q0, rfl⟩ := hcut
        cases bad with
        | true =>
          go_wp2
          go_ret
          exact ⟨false, rfl, ⟨(fun h => by cases h), (fun h => by
            have h2 := rightC_at h HJL.out
            have := HHO.out.2 ⟨h2.1, h2.2.1, h2.2.2.1⟩
            cases this)⟩, below_drewN HBG.out _⟩
        | false =>
          clear HKEY HRUN
          generalize wr = wa at *
          go_wp2
          go_loopw [42] (fun i wr => ∃ k : Nat, k ≤ vn ∧ i = .int .i64 k ∧ Hid (∀ i, i < k → RightVAt vs i) ∧ Hid (Below (wa.alloc (.cells #[.string key, .slice vb vn vc] 69)).heap.size (wa.alloc (.cells #[.string key, .slice vb vn vc] 69)) wr)) (fun i _ => vn - (intOf i).toNat)
          case atStart => exact ⟨0, Nat.zero_le _, rfl, fun i hi => absurd hi (Nat.not_lt_zero _), below_drewN (Below.refl _ _) _⟩
          case round =>
            obtain ⟨k, hk, rfl, HIN, HBI⟩ := hrel
            by_cases hkn : k < vn
            · have hkl : k < vs.length := by rw [← HVC.out]; exact hkn
              have HKL := hid hkl
              have hki : (k : Int) < (vn : Int) := by omega
              have x1 := kept_cell HBI.out (box_cell wa #[.string key, .slice vb vn vc] 69 1 _ rfl)
              have hxl : wa.heap.size < wr.heap.size := by simpa using World.block_lt_of_cell? _ _ x1
              rcases (HVG.out.below (by decide) HBI.out).run with h | ⟨b2, o2, rfl, hvr⟩
              · omega
              obtain ⟨v0, v1, v2, v3⟩ := Vers.cells hvr hkl
              have hbv : b2 < wr.heap.size := by simpa using World.block_lt_of_cell? _ _ v0
              obtain ⟨y, mm, hh, x, hx⟩ : ∃ y mm hh x, vs.getD k default = (y, mm, hh, x) := ⟨_, _, _, _, rfl⟩
              rw [hx] at v0 v1 v2 v3
              simp only [Ver.by_, Ver.made, Ver.has_, Ver.n] at v0 v1 v2 v3
              have HX := hid hx
              have HVR := hid hvr
              clear hx hvr hkl
              go_upto_region 9 with fail
              go_cut [99] (fun cv wx => ∃ bad : Bool, cv = .bool bad ∧ Hid (Fails bad (RightVAt vs k)) ∧ ∃ q, wx = (wr.alloc (.cells #[.int .i64 y, .bool mm, .bool hh, .int .i64 x] 28)).drewN q)
              case first =>
                clear HHO HBG HVG HBI HIN HR HBR HA HLN HJL HXJ HVS HGW
                by_cases hk0 : k = 0
                · have dk : decide (0 < (k : Int)) = false := by simp; omega
                  have dk2 : decide (0 < k) = false := by simp; omega
                  have HK0 := hid hk0
                  clear hk0 HVR
                  rcases ver_parts y x mm hh false with d1 | ⟨d1, d2⟩ | ⟨d1, d2, d3⟩ | ⟨d1, d2, d3, d4⟩ | ⟨d1, d2, d3, d4, d5⟩ | ⟨d1, d2, d3, d4, d5, rfl, d6⟩ | ⟨d1, d2, d3, d4, d5, rfl, rfl⟩ | ⟨d1, d2, d3, d4, d5, rfl, d6, rfl⟩ | ⟨d1, d2, d3, d4, d5, rfl, d6, rfl⟩ | ⟨d1, d2, d3, d4, d5, rfl, rfl⟩
                  · have HQ : Hid (Fails true (RightVAt vs k)) := ⟨(fun h => by cases h), (fun hv => by have hv := hv.1; rw [HX.out] at hv; rw [(rightV_not hv).1] at d1; cases d1)⟩
                    clear HX
                    go_quiet (fail)
                    go_wp2
                    go_meet
                    case rel => exact ⟨_, rfl, HQ, _, rfl⟩
                  · have HQ : Hid (Fails true (RightVAt vs k)) := ⟨(fun h => by cases h), (fun hv => by have hv := hv.1; rw [HX.out] at hv; rw [(rightV_not hv).2.1] at d2; cases d2)⟩
                    clear HX
                    go_quiet (fail)
                    go_wp2
                    go_meet
                    case rel => exact ⟨_, rfl, HQ, _, rfl⟩
                  · cases d3
                  · have HQ : Hid (Fails true (RightVAt vs k)) := ⟨(fun h => by cases h), (fun hv => by have hv := hv.1; rw [HX.out] at hv; rw [(rightV_not hv).2.2.1] at d4; cases d4)⟩
                    clear HX
                    go_quiet (fail)
                    go_wp2
                    go_meet
                    case rel => exact ⟨_, rfl, HQ, _, rfl⟩
                  · have HQ : Hid (Fails true (RightVAt vs k)) := ⟨(fun h => by cases h), (fun hv => by have hv := hv.1; rw [HX.out] at hv; rw [(rightV_not hv).2.2.2.1] at d5; cases d5)⟩
                    clear HX
                    go_quiet (fail)
                    go_wp2
                    go_meet
                    case rel => exact ⟨_, rfl, HQ, _, rfl⟩
                  · have HQ : Hid (Fails true (RightVAt vs k)) := ⟨(fun h => by cases h), (fun hv => by have hv := hv.1; rw [HX.out] at hv; rw [(rightV_not hv).2.2.2.2.1 rfl] at d6; cases d6)⟩
                    clear HX
                    go_quiet (fail)
                    go_wp2
                    go_meet
                    case rel => exact ⟨_, rfl, HQ, _, rfl⟩
                  · have HQ : Hid (Fails true (RightVAt vs k)) := ⟨(fun h => by cases h), (fun hv => by have hv := hv.1; rw [HX.out] at hv; have := (rightV_not hv).2.2.2.2.2 rfl; cases this)⟩
                    clear HX
                    go_quiet (fail)
                    go_wp2
                    go_meet
                    case rel => exact ⟨_, rfl, HQ, _, rfl⟩
                  · have HQ : Hid (Fails false (RightVAt vs k)) := ⟨(fun _ => ⟨by rw [HX.out]; exact rightV_of d1 d2 d4 d5 (fun _ => d6) (fun _ => rfl), fun h => absurd HK0.out (by omega)⟩), (fun _ => rfl)⟩
                    clear HX
                    go_quiet (fail)
                    go_wp2
                    go_meet
                    case rel => exact ⟨_, rfl, HQ, _, rfl⟩
                  · have HQ : Hid (Fails false (RightVAt vs k)) := ⟨(fun _ => ⟨by rw [HX.out]; exact rightV_of d1 d2 d4 d5 (fun _ => d6) (fun h => by cases h), fun h => absurd HK0.out (by omega)⟩), (fun _ => rfl)⟩
                    clear HX
                    go_quiet (fail)
                    go_wp2
                    go_meet
                    case rel => exact ⟨_, rfl, HQ, _, rfl⟩
                  · have HQ : Hid (Fails false (RightVAt vs k)) := ⟨(fun _ => ⟨by rw [HX.out]; exact rightV_of d1 d2 d4 d5 (fun h => by cases h) (fun h => by cases h), fun h => absurd HK0.out (by omega)⟩), (fun _ => rfl)⟩
                    clear HX
                    go_quiet (fail)
                    go_wp2
                    go_meet
                    case rel => exact ⟨_, rfl, HQ, _, rfl⟩
                · obtain ⟨k, rfl⟩ : ∃ i, k = i + 1 := ⟨k - 1, by omega⟩
                  obtain ⟨p0, _⟩ := Vers.cells HVR.out (i := k) (by have := HKL.out; omega)
                  obtain ⟨y0, hy0⟩ : ∃ y0, (vs.getD k default).by_ = y0 := ⟨_, rfl⟩
                  rw [hy0] at p0
                  have HY0 : Hid ((vs.getD (k + 1 - 1) default).by_ = y0) := hy0
                  have hwr : IntKind.i64.wrap (k : Int) = (k : Int) := by rw [IntKind.wrap_i64]; omega
                  have hkj : (k : Int) < (vn : Int) := by omega
                  clear HVR hy0 hk0
                  rcases ver_parts y x mm hh (decide (y ≤ y0)) with d1 | ⟨d1, d2⟩ | ⟨d1, d2, d3⟩ | ⟨d1, d2, d3, d4⟩ | ⟨d1, d2, d3, d4, d5⟩ | ⟨d1, d2, d3, d4, d5, rfl, d6⟩ | ⟨d1, d2, d3, d4, d5, rfl, rfl⟩ | ⟨d1, d2, d3, d4, d5, rfl, d6, rfl⟩ | ⟨d1, d2, d3, d4, d5, rfl, d6, rfl⟩ | ⟨d1, d2, d3, d4, d5, rfl, rfl⟩
                  · have HQ : Hid (Fails true (RightVAt vs (k + 1))) := ⟨(fun h => by cases h), (fun hv => by have hv := hv.1; rw [HX.out] at hv; rw [(rightV_not hv).1] at d1; cases d1)⟩
                    clear HX HY0
                    go_quiet (fail)
                    go_wp2
                    go_meet
                    case rel => exact ⟨_, rfl, HQ, _, rfl⟩
                  · have HQ : Hid (Fails true (RightVAt vs (k + 1))) := ⟨(fun h => by cases h), (fun hv => by have hv := hv.1; rw [HX.out] at hv; rw [(rightV_not hv).2.1] at d2; cases d2)⟩
                    clear HX HY0
                    go_quiet (fail)
                    go_wp2
                    go_meet
                    case rel => exact ⟨_, rfl, HQ, _, rfl⟩
                  · have HQ : Hid (Fails true (RightVAt vs (k + 1))) := ⟨(fun h => by cases h), (fun hv => by have hv := hv.2 (by omega); rw [HY0.out, HX.out] at hv; simp only [decide_eq_true_eq] at d3; have hv : y0 < y := hv; omega)⟩
                    clear HX HY0
                    go_quiet (fail)
                    go_wp2
                    go_meet
                    case rel => exact ⟨_, rfl, HQ, _, rfl⟩
                  · have HQ : Hid (Fails true (RightVAt vs (k + 1))) := ⟨(fun h => by cases h), (fun hv => by have hv := hv.1; rw [HX.out] at hv; rw [(rightV_not hv).2.2.1] at d4; cases d4)⟩
                    clear HX HY0
                    go_quiet (fail)
                    go_wp2
                    go_meet
                    case rel => exact ⟨_, rfl, HQ, _, rfl⟩
                  · have HQ : Hid (Fails true (RightVAt vs (k + 1))) := ⟨(fun h => by cases h), (fun hv => by have hv := hv.1; rw [HX.out] at hv; rw [(rightV_not hv).2.2.2.1] at d5; cases d5)⟩
                    clear HX HY0
                    go_quiet (fail)
                    go_wp2
                    go_meet
                    case rel => exact ⟨_, rfl, HQ, _, rfl⟩
                  · have HQ : Hid (Fails true (RightVAt vs (k + 1))) := ⟨(fun h => by cases h), (fun hv => by have hv := hv.1; rw [HX.out] at hv; rw [(rightV_not hv).2.2.2.2.1 rfl] at d6; cases d6)⟩
                    clear HX HY0
                    go_quiet (fail)
                    go_wp2
                    go_meet
                    case rel => exact ⟨_, rfl, HQ, _, rfl⟩
                  · have HQ : Hid (Fails true (RightVAt vs (k + 1))) := ⟨(fun h => by cases h), (fun hv => by have hv := hv.1; rw [HX.out] at hv; have := (rightV_not hv).2.2.2.2.2 rfl; cases this)⟩
                    clear HX HY0
                    go_quiet (fail)
                    go_wp2
                    go_meet
                    case rel => exact ⟨_, rfl, HQ, _, rfl⟩
                  · have HQ : Hid (Fails false (RightVAt vs (k + 1))) := ⟨(fun _ => ⟨by rw [HX.out]; exact rightV_of d1 d2 d4 d5 (fun _ => d6) (fun _ => rfl), fun _ => by rw [HY0.out, HX.out]; simp only [decide_eq_false_iff_not] at d3; show y0 < y; omega⟩), (fun _ => rfl)⟩
                    clear HX HY0
                    go_quiet (fail)
                    go_wp2
                    go_meet
                    case rel => exact ⟨_, rfl, HQ, _, rfl⟩
                  · have HQ : Hid (Fails false (RightVAt vs (k + 1))) := ⟨(fun _ => ⟨by rw [HX.out]; exact rightV_of d1 d2 d4 d5 (fun _ => d6) (fun h => by cases h), fun _ => by rw [HY0.out, HX.out]; simp only [decide_eq_false_iff_not] at d3; show y0 < y; omega⟩), (fun _ => rfl)⟩
                    clear HX HY0
                    go_quiet (fail)
                    go_wp2
                    go_meet
                    case rel => exact ⟨_, rfl, HQ, _, rfl⟩
                  · have HQ : Hid (Fails false (RightVAt vs (k + 1))) := ⟨(fun _ => ⟨by rw [HX.out]; exact rightV_of d1 d2 d4 d5 (fun h => by cases h) (fun h => by cases h), fun _ => by rw [HY0.out, HX.out]; simp only [decide_eq_false_iff_not] at d3; show y0 < y; omega⟩), (fun _ => rfl)⟩
                    clear HX HY0
                    go_quiet (fail)
                    go_wp2
                    go_meet
                    case rel => exact ⟨_, rfl, HQ, _, rfl⟩
              case rest =>
                obtain ⟨bad, rfl, HVO, q1, rfl⟩ := hcut
                cases bad with
                | true =>
                  go_wp2
                  go_ret
                  exact ⟨false, rfl, ⟨(fun h => by cases h), (fun h => by
                    have h2 := (rightC_at h HJL.out).2.2.2 k (by rw [HVS.out]; exact HKL.out)
                    rw [HVS.out] at h2
                    have := HVO.out.2 h2
                    cases this)⟩, below_drewN (below_deep HBG.out (below_deep HBI.out (grew _ _))) _⟩
                | false =>
                  go_wp2
                  go_roundw
                  case rel => exact ⟨k + 1, by omega, by go_num, (fun i hi => by rcases Nat.lt_succ_iff_lt_or_eq.1 hi with h | rfl; exact HIN.out i h; exact HVO.out.1 rfl), below_drewN (below_deep HBI.out (grew _ _)) _⟩
                  case measure => simp [intOf]; omega
            · obtain rfl : k = vn := by omega
              have HC : Hid (RightCAt L j) := by
                obtain ⟨h1, h2, h3⟩ := HHO.out.1 rfl
                refine ⟨h1, h2, h3, ?_⟩
                rw [HVS.out, ← HVC.out]
                exact HIN.out
              go_wp2
              go_roundw
              case rel => exact ⟨j + 1, by omega, by go_num, (fun i hi => by rcases Nat.lt_succ_iff_lt_or_eq.1 hi with h | rfl; exact HR.out i h; exact HC.out), below_deep HBG.out HBI.out⟩
              case measure => simp [intOf]; omega
    · obtain rfl : j = n := by omega
      have HF : Hid (RightC L) := rightC_of (by rw [← HLN.out]; exact HR.out)
      go_wp2
      go_ret
      exact ⟨true, rfl, ⟨fun _ => HF.out, fun _ => rfl⟩, HBR.out⟩
end Go.Proofs.Ytllhdmhfjahglac
