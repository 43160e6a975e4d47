/-
  The walk of the statement RowsApart: the call returns true and changes nothing that was there.
-/
import Derived.Test.YtnbekpblmkdnlaaGreatDoorAlive
import Derived.Test.YtnbekpblmkdnlaaGreatDoorSame
namespace Go.Proofs.YtnbekpblmkdnlaaGreatDoor
open Go.RowKit

theorem same_holds (l : List Row) (ba bb : Option Addr) (na nb ca cb : Nat) (w : World) (ha : Holds w ba na ca l) (hb : Holds w bb nb cb l) :
   Calls Tryz.prog 13 #[.slice ba na ca, .slice bb nb cb] w fun e w' => e = .returned (.bool true) ∧ Below w.heap.size w w' := by
 have h1 := ha.len
 have h2 := hb.len
 subst h1 h2
 exact same_calls l ba bb ca cb w (Nat.le_trans ha.hdr.le ha.hdr.max) ha.seg hb.seg

end Go.Proofs.YtnbekpblmkdnlaaGreatDoor
