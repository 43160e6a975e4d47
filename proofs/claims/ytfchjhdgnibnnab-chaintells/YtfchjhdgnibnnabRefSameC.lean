/-
  The document's own SameChains, walked: of two lists of the same chains it answers true.
-/
import Derived.Test.YtfchjhdgnibnnabChainAt
namespace Go.Proofs.Ytfchjhdgnibnnab
open Go.RowKit

set_option maxHeartbeats 2000000 in
theorem sameChains_calls (L : List Chn) (ab : Option Addr) (an ac : Nat) (bb : Option Addr) (bn bc : Nat) (w : World) (ha : ChainsIn w ab an ac L) (hb : ChainsIn w bb bn bc L) :
    Calls Try.prog 16 #[.slice ab an ac, .slice bb bn bc] w fun e w' => e = .returned (.bool true) ∧ Below w.heap.size w w' := by
  obtain rfl : an = bn := by rw [ha.len, hb.len]
  have hm := Nat.le_trans ha.hdr.le ha.hdr.max
  unfold maxLen at hm
  have HA := hid ha
  have HB := hid hb
  clear ha hb
  have hnn : ((an : Int) != (an : Int)) = false := by simp
  go_enter Try.func16, Try.ntmps16
  go_wp2
  go_loopw [14] (fun i wr => ∃ j : Nat, j ≤ an ∧ i = .int .i64 j ∧ ∃ q, wr = w.drewN q) (fun i _ => an - (intOf i).toNat)
  case atStart => exact ⟨0, Nat.zero_le _, rfl, 0, rfl⟩
  case round =>
    obtain ⟨j, hj, rfl, q, rfl⟩ := hrel
    by_cases hlt : j < an
    · have hi : (j : Int) < (an : Int) := by omega
      rcases HA.out.run with h | ⟨b1, o1, rfl, r1⟩
      · omega
      rcases HB.out.run with h | ⟨b2, o2, rfl, r2⟩
      · omega
      obtain ⟨vb, vn, vc, c0, c1, hv, _⟩ := r1 j hlt
      obtain ⟨ub, un, uc, d0, d1, hu, _⟩ := r2 j hlt
      obtain rfl : vn = un := by rw [Vers.count hv, Vers.count hu]
      have hvm := Nat.le_trans hv.hdr.le hv.hdr.max
      unfold maxLen at hvm
      have HVC := hid (Vers.count hv)
      generalize (L.getD j default).1 = kk at *
      have HV := hid hv
      have HU := hid hu
      have e1 : (kk.toList == kk.toList) = true := by simp
      have e2 : (kk.toList != kk.toList) = false := by simp
      have e3 : ((vn : Int) != (vn : Int)) = false := by simp
      clear r1 r2 hv hu
      go_wp2
      go_quiet (fail)
      go_wp2
      go_loopw [49] (fun i wr => ∃ t : Nat, t ≤ vn ∧ i = .int .i64 t ∧ ∃ q, wr = w.drewN q) (fun i _ => vn - (intOf i).toNat)
      case atStart => exact ⟨0, Nat.zero_le _, rfl, _, rfl⟩
      case round =>
        obtain ⟨t, ht, rfl, q2, rfl⟩ := hrel
        by_cases htn : t < vn
        · have hti : (t : Int) < (vn : Int) := by omega
          have htl : t < (L.getD j default).2.length := by rw [← HVC.out]; exact htn
          rcases HV.out.run with h | ⟨b3, o3, rfl, r3⟩
          · omega
          rcases HU.out.run with h | ⟨b4, o4, rfl, r4⟩
          · omega
          obtain ⟨x0, x1, x2, x3⟩ := Vers.cells r3 htl
          obtain ⟨z0, z1, z2, z3⟩ := Vers.cells r4 htl
          clear r3 r4
          obtain ⟨y, m, h, x, hx⟩ : ∃ y m h x, (L.getD j default).2.getD t default = (y, m, h, x) := ⟨_, _, _, _, rfl⟩
          rw [hx] at x0 x1 x2 x3 z0 z1 z2 z3
          simp only [Ver.by_, Ver.made, Ver.has_, Ver.n] at x0 x1 x2 x3 z0 z1 z2 z3
          clear hx
          have t1 : (y == y) = true := by simp
          have t2 : (m == m) = true := by simp
          have t3 : (h == h) = true := by simp
          have t4 : (x == x) = true := by simp
          go_wp2
          go_quiet (fail)
          go_wp2
          go_roundw
          case rel => exact ⟨t + 1, by omega, by go_num, _, rfl⟩
          case measure => simp [intOf]; omega
        · go_wp2
          go_roundw
          case rel => exact ⟨j + 1, by omega, by go_num, _, rfl⟩
          case measure => simp [intOf]; omega
    · go_wp2
      go_ret
      exact ⟨rfl, below_drewN (Below.refl _ _) q⟩
end Go.Proofs.Ytfchjhdgnibnnab
