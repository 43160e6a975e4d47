/-
  The document's SameEntries, of what is the same, walked.
-/
import Derived.Test.YthmkgfdglkdjmaeGreatDoorOpenEnts
import Derived.Test.YthmkgfdglkdjmaeGreatDoorRefSameE
namespace Go.Proofs.YthmkgfdglkdjmaeGreatDoor
open Go.RowKit

set_option maxHeartbeats 4000000 in
set_option maxRecDepth 100000 in
theorem sameEnts_calls (L : List Ent) (ab : Option Addr) (an ac : Nat) (bb : Option Addr) (bn bc : Nat) (w : World) (ha : EntsIn w ab an ac L) (hb : EntsIn w bb bn bc L) :
    Calls Tryz.prog 9 #[.slice ab an ac, .slice bb bn bc] w fun e w' => e = .returned (.bool true) ∧ Below w.heap.size w w' := by
  obtain rfl : an = bn := by rw [ha.len, hb.len]
  have hm := Nat.le_trans ha.hdr.le ha.hdr.max
  unfold maxLen at hm
  have HA := hid ha
  have HB := hid hb
  clear ha hb
  go_enter Tryz.func9, Tryz.ntmps9
  go_wp2
  go_loopw [13] (fun i wr => ∃ k : Nat, k ≤ an ∧ i = .int .i64 k ∧ Hid (Below w.heap.size w wr)) (fun i _ => an - (intOf i).toNat)
  case atStart => exact ⟨0, Nat.zero_le _, rfl, Below.refl _ _⟩
  case round =>
    obtain ⟨k, hk, rfl, HBR⟩ := hrel
    by_cases hlt : k < an
    · rcases HA.out.run with h | ⟨b1, o1, rfl, r1⟩
      · omega
      rcases HB.out.run with h | ⟨b2, o2, rfl, r2⟩
      · omega
      obtain ⟨db, dn, dc, a0, a1, hda⟩ := (r1 k hlt).below HBR.out
      obtain ⟨db', dn', dc', c0, c1, hdb⟩ := (r2 k hlt).below HBR.out
      clear r1 r2
      have hi : (k : Int) < (an : Int) := by omega
      have hb1 : b1 < wr.heap.size := by simpa using World.block_lt_of_cell? _ _ a0
      have hb2 : b2 < wr.heap.size := by simpa using World.block_lt_of_cell? _ _ c0
      have HDA := hid hda
      have HDB := hid hdb
      clear hda hdb
      generalize (L.getD k default).1 = m at *
      generalize (L.getD k default).2 = D at *
      have t : (m != m) = false := by simp
      have HK : Hid (∀ w', Below wr.heap.size wr w' → (w'.cell? ⟨b1, o1 + k * 2, none⟩ = some (.int .i64 m) ∧ w'.cell? ⟨b1, o1 + k * 2 + 1, none⟩ = some (.slice db dn dc) ∧ w'.cell? ⟨b2, o2 + k * 2, none⟩ = some (.int .i64 m) ∧ w'.cell? ⟨b2, o2 + k * 2 + 1, none⟩ = some (.slice db' dn' dc') ∧ Below wr.heap.size wr w')) := fun w' h => ⟨kept_cell h a0, kept_cell h a1, kept_cell h c0, kept_cell h c1, h⟩
      have HSD := hid (fun W hA hB => sameDeeds_calls D db dn dc db' dn' dc' W hA hB)
      clear a0 a1 c0 c1
      go_wp2
      go_region_held3 (fun w' => w'.cell? ⟨b1, o1 + k * 2, none⟩ = some (.int .i64 m) ∧ w'.cell? ⟨b1, o1 + k * 2 + 1, none⟩ = some (.slice db dn dc) ∧ w'.cell? ⟨b2, o2 + k * 2, none⟩ = some (.int .i64 m) ∧ w'.cell? ⟨b2, o2 + k * 2 + 1, none⟩ = some (.slice db' dn' dc') ∧ Below wr.heap.size wr w')
        (first
          | exact HK.out _ (step_drew (Below.refl _ _))
          | exact HK.out _ (by assumption))
        (first
          | (go_at_call 20; refine (HSD.out _ ?_ ?_).mono ?_; (exact HDA.out.below (hold4 (by assumption))); (exact HDB.out.below (hold4 (by assumption))); rintro e w1 ⟨rfl, hb1'⟩; have hbb := below_deep (step_drew (Below.refl wr.heap.size wr)) hb1'))
      have HB3 := hid (below_deep HBR.out hbb)
      clear hbb hb1' HK HSD
      go_wp2
      go_roundw
      case rel => exact ⟨k + 1, by omega, by go_num, HB3⟩
      case measure => simp [intOf]; omega
    · go_wp2
      go_ret
      exact ⟨rfl, HBR.out⟩
end Go.Proofs.YthmkgfdglkdjmaeGreatDoor
