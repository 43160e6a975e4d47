/-
  No cell of these rows narrows 'for every input' (looked for: loops, veiled, ifaces, maps, wideKeys, modest, calm, conditions, laid).
  DERIVED. THE GIVEN ROWS OF THIS SEAT. 3 by the template 'for every input the law returns true; each argument reads behind the call as it read before'; 0 by the template 'total and deterministic' (their statements: YtllhdmhfjahglacTotals.lean).
  GIVEN WITH THE SEED: the statements are not yours to turn. If you find one false, say at which input.
  Laid BY PROGRAM, IN A SANDBOX (cutbox-rows.mjs): the forced cells as the released guide's own fill.sh prints them over the translation 2559e0fc34293a42… (all of the seat's roots in one cut). By AI agents, Wed Nov 11 2026. No macro, syntax, notation, axiom, sorry.
-/
import Derived.Test.YtllhdmhfjahglacChecked
import GoSem.Claim
import GoSem.ClaimJoined
import GoSem.ClaimMapViews
import Derived.JoinedTies
import Derived.KernelRfl
namespace Go.Proofs.Ytllhdmhfjahglac
/- THE CELL 'sum', in the pinned program and in every row, IS THE sha256 OF THE DUMP (.gsa) THAT YtllhdmhfjahglacProg.lean LOADS. Nothing in Lean hashes anything: it is a label: what it is worth is what the hold of that sum in a sandbox is worth. -/
noncomputable def Try.pinned : Pinned := { name := "ytllhdmhfjahglac", sum := "2559e0fc34293a42a3c6141d762d5a6f9c4da887568396db39a6edc6cc67cbfe", checked := Try.checked }
namespace Rows
def none {H : Type} : Left H := { results := [], args := [] }

/-- 'rflaw5.ChainClear': WHATEVER THE INPUT: true; the input reads as it did. -/
def chainClearSpec : ChangeSpec := { name := "chainClear", fn := fun _ => fun
  | [d1, d2, d3, d4] => { results := [.lit (.bool true)], args := [d1, d2, d3, d4] }
  | _ => none }
def chainClearRow : OpenClaim := { program := "ytllhdmhfjahglac", sum := "2559e0fc34293a42a3c6141d762d5a6f9c4da887568396db39a6edc6cc67cbfe", func := "rankandfile/rflaw5.ChainClear", spec := "chainClear", inPlace := ["slices.overlaps[rankandfile/api.Chain]"], unfollowed := true, recurses := true, apart := false }
def ChainClearSaid : Prop := chainClearRow.holds Try.pinned (OpenSpec.ofChange chainClearSpec)

/-- ITS FALSE NEIGHBOUR: 'it returns false'. Refute it at one input. -/
def chainClearWrong : ChangeSpec := { name := "chainClear", fn := fun _ => fun
  | [d1, d2, d3, d4] => { results := [.lit (.bool false)], args := [d1, d2, d3, d4] }
  | _ => none }
def ChainClearWrongFalsely : Prop := chainClearRow.holds Try.pinned (OpenSpec.ofChange chainClearWrong)

/-- 'rflaw6.PlanTells': WHATEVER THE INPUT: true; the input reads as it did. -/
def planTellsSpec : ChangeSpec := { name := "planTells", fn := fun _ => fun
  | [d1, d2, d3, d4] => { results := [.lit (.bool true)], args := [d1, d2, d3, d4] }
  | _ => none }
def planTellsRow : OpenClaim := { program := "ytllhdmhfjahglac", sum := "2559e0fc34293a42a3c6141d762d5a6f9c4da887568396db39a6edc6cc67cbfe", func := "rankandfile/rflaw6.PlanTells", spec := "planTells", inPlace := ["slices.overlaps[rankandfile/api.Chain]"], unfollowed := true, recurses := true, apart := false }
def PlanTellsSaid : Prop := planTellsRow.holds Try.pinned (OpenSpec.ofChange planTellsSpec)

/-- ITS FALSE NEIGHBOUR: 'it returns false'. Refute it at one input. -/
def planTellsWrong : ChangeSpec := { name := "planTells", fn := fun _ => fun
  | [d1, d2, d3, d4] => { results := [.lit (.bool false)], args := [d1, d2, d3, d4] }
  | _ => none }
def PlanTellsWrongFalsely : Prop := planTellsRow.holds Try.pinned (OpenSpec.ofChange planTellsWrong)

/-- 'rflaw7.RunTells': WHATEVER THE INPUT: true; the input reads as it did. -/
def runTellsSpec : ChangeSpec := { name := "runTells", fn := fun _ => fun
  | [d1, d2, d3, d4] => { results := [.lit (.bool true)], args := [d1, d2, d3, d4] }
  | _ => none }
def runTellsRow : OpenClaim := { program := "ytllhdmhfjahglac", sum := "2559e0fc34293a42a3c6141d762d5a6f9c4da887568396db39a6edc6cc67cbfe", func := "rankandfile/rflaw7.RunTells", spec := "runTells", inPlace := ["slices.overlaps[rankandfile/api.Chain]"], unfollowed := true, recurses := true, apart := false }
def RunTellsSaid : Prop := runTellsRow.holds Try.pinned (OpenSpec.ofChange runTellsSpec)

/-- ITS FALSE NEIGHBOUR: 'it returns false'. Refute it at one input. -/
def runTellsWrong : ChangeSpec := { name := "runTells", fn := fun _ => fun
  | [d1, d2, d3, d4] => { results := [.lit (.bool false)], args := [d1, d2, d3, d4] }
  | _ => none }
def RunTellsWrongFalsely : Prop := runTellsRow.holds Try.pinned (OpenSpec.ofChange runTellsWrong)

/- THE SECOND FORM. 'bulk': how many values and letters a reading holds, each counted each time it is reached (what is shared counts as often as it is met; a slice's spare places count too). A statement '..UptoSaid' is the law's where the arguments, and the package variables that the reading takes, are together of bulk at most 1048576: NARROWER than '..Said'. Prove '..Said' where nothing that the law and all that it calls make is longer than what came in: it says more and counts as full. Else prove '..UptoSaid'. A law counts once. -/
mutual
def uptoBulk {H : Type} : DataW H → Nat
  | .lit (.string bytes) => bytes.length + 1
  | .lit _ => 1
  | .nil => 1
  | .ptr d => uptoBulk d + 1
  | .slice elems spare => uptoBulkAll elems + uptoBulkAll spare + 1
  | .agg parts => uptoBulkAll parts + 1
  | .iface _ d => uptoBulk d + 1
  | .map entries => uptoBulkEntries entries + 1
  | .held _ => 1
def uptoBulkAll {H : Type} : List (DataW H) → Nat
  | [] => 0
  | d :: r => uptoBulk d + uptoBulkAll r
def uptoBulkEntries {H : Type} : List (Lit × DataW H) → Nat
  | [] => 0
  | x :: r => uptoBulkEntry x + uptoBulkEntries r
def uptoBulkEntry {H : Type} : Lit × DataW H → Nat
  | (.string bytes, d) => bytes.length + uptoBulk d + 1
  | (_, d) => uptoBulk d + 1
 end
def uptoSmall : (H : Type) → List (DataW H) → Bool := fun _ ds => decide (uptoBulkAll ds ≤ 1048576)
def OpenSpec.upto (s : _root_.Go.ChangeSpec) : _root_.Go.OpenSpec := { _root_.Go.OpenSpec.ofChange s with cond := some uptoSmall }

/-- 'rflaw5.ChainClear', WHERE WHAT IT READS IS OF BULK AT MOST 1048576: true; the input reads as it did. -/
def chainClearUptoRow : OpenClaim := { program := "ytllhdmhfjahglac", sum := "2559e0fc34293a42a3c6141d762d5a6f9c4da887568396db39a6edc6cc67cbfe", func := "rankandfile/rflaw5.ChainClear", spec := "chainClear", inPlace := ["slices.overlaps[rankandfile/api.Chain]"], unfollowed := true, recurses := true, apart := false, narrowed := true }
def ChainClearUptoSaid : Prop := chainClearUptoRow.holds Try.pinned (OpenSpec.upto chainClearSpec)

/-- 'rflaw6.PlanTells', WHERE WHAT IT READS IS OF BULK AT MOST 1048576: true; the input reads as it did. -/
def planTellsUptoRow : OpenClaim := { program := "ytllhdmhfjahglac", sum := "2559e0fc34293a42a3c6141d762d5a6f9c4da887568396db39a6edc6cc67cbfe", func := "rankandfile/rflaw6.PlanTells", spec := "planTells", inPlace := ["slices.overlaps[rankandfile/api.Chain]"], unfollowed := true, recurses := true, apart := false, narrowed := true }
def PlanTellsUptoSaid : Prop := planTellsUptoRow.holds Try.pinned (OpenSpec.upto planTellsSpec)

/-- 'rflaw7.RunTells', WHERE WHAT IT READS IS OF BULK AT MOST 1048576: true; the input reads as it did. -/
def runTellsUptoRow : OpenClaim := { program := "ytllhdmhfjahglac", sum := "2559e0fc34293a42a3c6141d762d5a6f9c4da887568396db39a6edc6cc67cbfe", func := "rankandfile/rflaw7.RunTells", spec := "runTells", inPlace := ["slices.overlaps[rankandfile/api.Chain]"], unfollowed := true, recurses := true, apart := false, narrowed := true }
def RunTellsUptoSaid : Prop := runTellsUptoRow.holds Try.pinned (OpenSpec.upto runTellsSpec)

end Rows
end Go.Proofs.Ytllhdmhfjahglac
