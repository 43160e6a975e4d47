/-
  SameRows of the document's answer tells whether two lists of rows are one.
-/
import Derived.Test.YtnbekpblmkdnlaaGreatDoorChecked
import Derived.Test.YtnbekpblmkdnlaaGreatDoorAround
import Derived.WalkKit
import Derived.WalkSpells
import Derived.WalkLawsBesides
import Derived.Below
import Derived.LoopTactic
import Derived.Outline
import Derived.BigQuiet
import Derived.Deep.QuietTactic
namespace Go.Proofs.YtnbekpblmkdnlaaGreatDoor
open Go.RowKit

set_option maxHeartbeats 400000 in
theorem same_calls (l : List Row) (ba bb : Option Addr) (ca cb : Nat) (w : World) (hl : l.length ≤ maxLen) (ha : Seg w ba l) (hb : Seg w bb l) :
   Calls Tryz.prog 13 #[.slice ba l.length ca, .slice bb l.length cb] w fun e w' => e = .returned (.bool true) ∧ Below w.heap.size w w' := by
 unfold maxLen at hl
 by_cases h0 : l = []
 · subst h0
   go_enter Tryz.func13, Tryz.ntmps13
   go_wp2
   go_loop [13] (fun i => i = .int .i64 0) (fun _ => 0)
   case atStart => rfl
   case round =>
     obtain rfl := hrel
     go_wp2
     go_ret
     exact ⟨rfl, Below.refl _ _⟩
 rcases ha with h | ⟨b1, o1, rfl, h1⟩
 · exact absurd h h0
 rcases hb with h | ⟨b2, o2, rfl, h2⟩
 · exact absurd h h0
 clear h0
 obtain ⟨n, hn⟩ : ∃ n, n = l.length := ⟨_, rfl⟩
 rw [← hn] at hl ⊢
 have HN : Hid (n = l.length) := hn
 clear hn
 have H1 : Hid (Cells w b1 o1 l) := h1
 have H2 : Hid (Cells w b2 o2 l) := h2
 clear h1 h2
 go_enter Tryz.func13, Tryz.ntmps13
 go_wp2
 go_loopw [13] (fun i wr => ∃ k : Nat, k ≤ n ∧ i = .int .i64 k ∧ ∃ q, wr = w.drewN q) (fun i _ => n - (intOf i).toNat)
 case atStart => exact ⟨0, Nat.zero_le _, rfl, 0, rfl⟩
 case round =>
   obtain ⟨k, hk, rfl, q, rfl⟩ := hrel
   by_cases hlt : k < n
   · obtain ⟨c1, d1⟩ := H1.out k (by rw [← HN.out]; exact hlt)
     obtain ⟨c2, d2⟩ := H2.out k (by rw [← HN.out]; exact hlt)
     generalize (l.getD k default).1 = kk at *
     generalize (l.getD k default).2 = nn at *
     have hi : (k : Int) < (n : Int) := by omega
     go_wp2
     go_quiet (fail)
     go_wp2
     go_roundw
     case rel => exact ⟨k + 1, by omega, by go_num, _, rfl⟩
     case measure => simp [intOf]; omega
   · go_wp2
     go_ret
     exact ⟨rfl, below_drewN (Below.refl _ _) q⟩
end Go.Proofs.YtnbekpblmkdnlaaGreatDoor
