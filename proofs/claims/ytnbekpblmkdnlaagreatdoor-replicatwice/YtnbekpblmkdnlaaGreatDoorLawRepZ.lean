/-
  The statement ReplicaTwice of the program, walked.
-/
import Derived.Test.YtnbekpblmkdnlaaGreatDoorLawRepB
import Derived.Test.YtnbekpblmkdnlaaGreatDoorLawRepW
namespace Go.Proofs.YtnbekpblmkdnlaaGreatDoor
open Go.RowKit

theorem come_does : ComeDoes := fun _ _ _ _ _ h e he rv ev w0 w h0 hr hev => comeP_calls h e he rv ev w0 w (hr.in h0) (DeedsAt.toIn hev h0)
theorem replicaTwice_calls (L : List Ent) (Pl : List Int) (e : Ent) (lb : Option Addr) (ln lc : Nat) (pb : Option Addr) (pn pc : Nat) (ev : Value) (w : World) (hG : GroundN w) (hL : EntsIn w lb ln lc L) (hP : Ints w pb pn pc Pl) (hev : EntV w ev e) :
   Calls Tryz.prog 5 #[.slice lb ln lc, .slice pb pn pc, ev] w fun x w' => x = .returned (.bool true) ∧ Below w.heap.size w w' :=
 twice_calls come_does L Pl e lb ln lc pb pn pc ev w (fun W hb => alive10_calls w hG W hb) hL hP hev
end Go.Proofs.YtnbekpblmkdnlaaGreatDoor
