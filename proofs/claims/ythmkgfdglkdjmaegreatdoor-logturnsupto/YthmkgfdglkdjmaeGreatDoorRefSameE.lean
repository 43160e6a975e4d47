/-
  The document's own SameInts, SameTexts, SameDeeds and SameEngine, of what is the same, walked.
-/
import Derived.Test.YthmkgfdglkdjmaeGreatDoorEngGood
import Derived.Test.YthmkgfdglkdjmaeGreatDoorRefNew
import Derived.Test.YthmkgfdglkdjmaeGreatDoorEndsAt
import Derived.Test.YthmkgfdglkdjmaeGreatDoorRefSameC
import Derived.Test.YthmkgfdglkdjmaeGreatDoorRepMath
import Derived.Deep.DeepCutAuto
namespace Go.Proofs.YthmkgfdglkdjmaeGreatDoor
open Go.RowKit

set_option maxHeartbeats 4000000 in
set_option maxRecDepth 100000 in
theorem sameDeeds_calls (D : List Deed3) (ab : Option Addr) (an ac : Nat) (bb : Option Addr) (bn bc : Nat) (w : World) (ha : DeedsIn w ab an ac D) (hb : DeedsIn w bb bn bc D) :
    Calls Tryz.prog 20 #[.slice ab an ac, .slice bb bn bc] w fun e w' => e = .returned (.bool true) ∧ Below w.heap.size w w' := by
  obtain rfl : an = bn := by rw [ha.len, hb.len]
  have hm := Nat.le_trans ha.hdr.le ha.hdr.max
  unfold maxLen at hm
  have HA := hid ha
  have HB := hid hb
  clear ha hb
  go_enter Tryz.func20, Tryz.ntmps20
  go_wp2
  go_loopw [13] (fun i wr => ∃ k : Nat, k ≤ an ∧ i = .int .i64 k ∧ Hid (Below w.heap.size w wr)) (fun i _ => an - (intOf i).toNat)
  case atStart => exact ⟨0, Nat.zero_le _, rfl, Below.refl _ _⟩
  case round =>
    obtain ⟨k, hk, rfl, HBR⟩ := hrel
    by_cases hlt : k < an
    · rcases HA.out.run with h | ⟨b1, o1, rfl, r1⟩
      · omega
      rcases HB.out.run with h | ⟨b2, o2, rfl, r2⟩
      · omega
      obtain ⟨rb, rn, rc, wb, wn, wc, cb, cn, cc, a0, a1, a2, hda, _, _⟩ := (r1 k hlt).below HBR.out
      obtain ⟨rb', rn', rc', wb', wn', wc', cb', cn', cc', c0, c1, c2, hdb, _, _⟩ := (r2 k hlt).below HBR.out
      clear r1 r2
      have hi : (k : Int) < (an : Int) := by omega
      have hb1 : b1 < wr.heap.size := by simpa using World.block_lt_of_cell? _ _ a0
      have hb2 : b2 < wr.heap.size := by simpa using World.block_lt_of_cell? _ _ c0
      have HDA := hid hda
      have HDB := hid hdb
      clear hda hdb
      have HK : Hid (∀ w', Below wr.heap.size wr w' → (w'.cell? ⟨b1, o1 + k * 3, none⟩ = some (.slice rb rn rc) ∧ w'.cell? ⟨b1, o1 + k * 3 + 1, none⟩ = some (.slice wb wn wc) ∧ w'.cell? ⟨b1, o1 + k * 3 + 2, none⟩ = some (.slice cb cn cc) ∧ w'.cell? ⟨b2, o2 + k * 3, none⟩ = some (.slice rb' rn' rc') ∧ w'.cell? ⟨b2, o2 + k * 3 + 1, none⟩ = some (.slice wb' wn' wc') ∧ w'.cell? ⟨b2, o2 + k * 3 + 2, none⟩ = some (.slice cb' cn' cc') ∧ Below wr.heap.size wr w')) := fun w' hb => ⟨kept_cell hb a0, kept_cell hb a1, kept_cell hb a2, kept_cell hb c0, kept_cell hb c1, kept_cell hb c2, hb⟩
      have HSD := hid (fun W hA hB => refSameDeed_calls (D.getD k default).1 (D.getD k default).2.1 (D.getD k default).2.2 (D.getD k default).1 (D.getD k default).2.1 (D.getD k default).2.2 rb rn rc wb wn wc cb cn cc rb' rn' rc' wb' wn' wc' cb' cn' cc' W hA hB)
      simp only [decide_true, Bool.and_true] at HSD
      clear a0 a1 a2 c0 c1 c2
      go_wp2
      go_region_held3 (fun w' => w'.cell? ⟨b1, o1 + k * 3, none⟩ = some (.slice rb rn rc) ∧ w'.cell? ⟨b1, o1 + k * 3 + 1, none⟩ = some (.slice wb wn wc) ∧ w'.cell? ⟨b1, o1 + k * 3 + 2, none⟩ = some (.slice cb cn cc) ∧ w'.cell? ⟨b2, o2 + k * 3, none⟩ = some (.slice rb' rn' rc') ∧ w'.cell? ⟨b2, o2 + k * 3 + 1, none⟩ = some (.slice wb' wn' wc') ∧ w'.cell? ⟨b2, o2 + k * 3 + 2, none⟩ = some (.slice cb' cn' cc') ∧ Below wr.heap.size wr w')
        (first
          | exact HK.out _ (step_drew (Below.refl _ _))
          | exact HK.out _ (by assumption))
        (first
          | (go_at_call 33; refine (HSD.out _ ?_ ?_).mono ?_; (exact HDA.out.below (hold6 (by assumption))); (exact HDB.out.below (hold6 (by assumption))); rintro e w1 ⟨rfl, hb1'⟩; have hbb := below_deep (step_drew (Below.refl wr.heap.size wr)) hb1'))
      have HB3 := hid (below_deep HBR.out hbb)
      clear hbb hb1' HK HSD
      go_wp2
      go_roundw
      case rel => exact ⟨k + 1, by omega, by go_num, HB3⟩
      case measure => simp [intOf]; omega
    · go_wp2
      go_ret
      exact ⟨rfl, HBR.out⟩

end Go.Proofs.YthmkgfdglkdjmaeGreatDoor
