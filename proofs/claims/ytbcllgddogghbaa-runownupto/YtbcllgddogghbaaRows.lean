/-
  No cell of these rows narrows 'for every input' (looked for: loops, veiled, ifaces, maps, wideKeys, modest, calm, conditions, laid).
  DERIVED. THE GIVEN ROWS OF THIS SEAT. 4 by the template 'for every input the law returns true; each argument reads behind the call as it read before'; 0 by the template 'total and deterministic' (their statements: YtbcllgddogghbaaTotals.lean).
  GIVEN WITH THE SEED: the statements are not yours to turn. If you find one false, say at which input.
  Laid BY PROGRAM, IN A SANDBOX (cutbox-rows.mjs): the forced cells as the released guide's own fill.sh prints them over the translation 1d4d7ba8e9809392… (all of the seat's roots in one cut). By AI agents, Wed Nov 11 2026. No macro, syntax, notation, axiom, sorry.
-/
import Derived.Test.YtbcllgddogghbaaChecked
import GoSem.Claim
import GoSem.ClaimJoined
import GoSem.ClaimMapViews
import Derived.JoinedTies
import Derived.KernelRfl
namespace Go.Proofs.Ytbcllgddogghbaa
/- THE CELL 'sum', in the pinned program and in every row, IS THE sha256 OF THE DUMP (.gsa) THAT YtbcllgddogghbaaProg.lean LOADS. Nothing in Lean hashes anything: it is a label: what it is worth is what the hold of that sum in a sandbox is worth. -/
noncomputable def Try.pinned : Pinned := { name := "ytbcllgddogghbaa", sum := "1d4d7ba8e98093922d52b35b07efc87133609c746007399c9653c451244de1e2", checked := Try.checked }
namespace Rows
def none {H : Type} : Left H := { results := [], args := [] }

/-- 'pontoonlaw08.RunTurns': WHATEVER THE INPUT: true; the input reads as it did. -/
def runTurnsSpec : ChangeSpec := { name := "runTurns", fn := fun _ => fun
  | [d1, d2] => { results := [.lit (.bool true)], args := [d1, d2] }
  | _ => none }
def runTurnsRow : OpenClaim := { program := "ytbcllgddogghbaa", sum := "1d4d7ba8e98093922d52b35b07efc87133609c746007399c9653c451244de1e2", func := "pontoon/pontoonlaw08.RunTurns", spec := "runTurns", unfollowed := true, recurses := true, apart := false }
def RunTurnsSaid : Prop := runTurnsRow.holds Try.pinned (OpenSpec.ofChange runTurnsSpec)

/-- ITS FALSE NEIGHBOUR: 'it returns false'. Refute it at one input. -/
def runTurnsWrong : ChangeSpec := { name := "runTurns", fn := fun _ => fun
  | [d1, d2] => { results := [.lit (.bool false)], args := [d1, d2] }
  | _ => none }
def RunTurnsWrongFalsely : Prop := runTurnsRow.holds Try.pinned (OpenSpec.ofChange runTurnsWrong)

/-- 'pontoonlaw08.RunGrows': WHATEVER THE INPUT: true; the input reads as it did. -/
def runGrowsSpec : ChangeSpec := { name := "runGrows", fn := fun _ => fun
  | [d1, d2, d3] => { results := [.lit (.bool true)], args := [d1, d2, d3] }
  | _ => none }
def runGrowsRow : OpenClaim := { program := "ytbcllgddogghbaa", sum := "1d4d7ba8e98093922d52b35b07efc87133609c746007399c9653c451244de1e2", func := "pontoon/pontoonlaw08.RunGrows", spec := "runGrows", unfollowed := true, recurses := true, apart := false }
def RunGrowsSaid : Prop := runGrowsRow.holds Try.pinned (OpenSpec.ofChange runGrowsSpec)

/-- ITS FALSE NEIGHBOUR: 'it returns false'. Refute it at one input. -/
def runGrowsWrong : ChangeSpec := { name := "runGrows", fn := fun _ => fun
  | [d1, d2, d3] => { results := [.lit (.bool false)], args := [d1, d2, d3] }
  | _ => none }
def RunGrowsWrongFalsely : Prop := runGrowsRow.holds Try.pinned (OpenSpec.ofChange runGrowsWrong)

/-- 'pontoonlaw08.RunFair': WHATEVER THE INPUT: true; the input reads as it did. -/
def runFairSpec : ChangeSpec := { name := "runFair", fn := fun _ => fun
  | [d] => { results := [.lit (.bool true)], args := [d] }
  | _ => none }
def runFairRow : OpenClaim := { program := "ytbcllgddogghbaa", sum := "1d4d7ba8e98093922d52b35b07efc87133609c746007399c9653c451244de1e2", func := "pontoon/pontoonlaw08.RunFair", spec := "runFair", unfollowed := true, recurses := true, apart := false }
def RunFairSaid : Prop := runFairRow.holds Try.pinned (OpenSpec.ofChange runFairSpec)

/-- ITS FALSE NEIGHBOUR: 'it returns false'. Refute it at one input. -/
def runFairWrong : ChangeSpec := { name := "runFair", fn := fun _ => fun
  | [d] => { results := [.lit (.bool false)], args := [d] }
  | _ => none }
def RunFairWrongFalsely : Prop := runFairRow.holds Try.pinned (OpenSpec.ofChange runFairWrong)

/-- 'pontoonlaw08.RunOwn': WHATEVER THE INPUT: true; the input reads as it did. -/
def runOwnSpec : ChangeSpec := { name := "runOwn", fn := fun _ => fun
  | [d] => { results := [.lit (.bool true)], args := [d] }
  | _ => none }
def runOwnRow : OpenClaim := { program := "ytbcllgddogghbaa", sum := "1d4d7ba8e98093922d52b35b07efc87133609c746007399c9653c451244de1e2", func := "pontoon/pontoonlaw08.RunOwn", spec := "runOwn", unfollowed := true, recurses := true, apart := false }
def RunOwnSaid : Prop := runOwnRow.holds Try.pinned (OpenSpec.ofChange runOwnSpec)

/-- ITS FALSE NEIGHBOUR: 'it returns false'. Refute it at one input. -/
def runOwnWrong : ChangeSpec := { name := "runOwn", fn := fun _ => fun
  | [d] => { results := [.lit (.bool false)], args := [d] }
  | _ => none }
def RunOwnWrongFalsely : Prop := runOwnRow.holds Try.pinned (OpenSpec.ofChange runOwnWrong)

/- THE SECOND FORM. 'bulk': how many values and letters a reading holds, each counted each time it is reached (what is shared counts as often as it is met; a slice's spare places count too). A statement '..UptoSaid' is the law's where the arguments, and the package variables that the reading takes, are together of bulk at most 1048576: NARROWER than '..Said'. Prove '..Said' where nothing that the law and all that it calls make is longer than what came in: it says more and counts as full. Else prove '..UptoSaid'. A law counts once. -/
mutual
def uptoBulk {H : Type} : DataW H → Nat
  | .lit (.string bytes) => bytes.length + 1
  | .lit _ => 1
  | .nil => 1
  | .ptr d => uptoBulk d + 1
  | .slice elems spare => uptoBulkAll elems + uptoBulkAll spare + 1
  | .agg parts => uptoBulkAll parts + 1
  | .iface _ d => uptoBulk d + 1
  | .map entries => uptoBulkEntries entries + 1
  | .held _ => 1
def uptoBulkAll {H : Type} : List (DataW H) → Nat
  | [] => 0
  | d :: r => uptoBulk d + uptoBulkAll r
def uptoBulkEntries {H : Type} : List (Lit × DataW H) → Nat
  | [] => 0
  | x :: r => uptoBulkEntry x + uptoBulkEntries r
def uptoBulkEntry {H : Type} : Lit × DataW H → Nat
  | (.string bytes, d) => bytes.length + uptoBulk d + 1
  | (_, d) => uptoBulk d + 1
 end
def uptoSmall : (H : Type) → List (DataW H) → Bool := fun _ ds => decide (uptoBulkAll ds ≤ 1048576)
def OpenSpec.upto (s : _root_.Go.ChangeSpec) : _root_.Go.OpenSpec := { _root_.Go.OpenSpec.ofChange s with cond := some uptoSmall }

/-- 'pontoonlaw08.RunTurns', WHERE WHAT IT READS IS OF BULK AT MOST 1048576: true; the input reads as it did. -/
def runTurnsUptoRow : OpenClaim := { program := "ytbcllgddogghbaa", sum := "1d4d7ba8e98093922d52b35b07efc87133609c746007399c9653c451244de1e2", func := "pontoon/pontoonlaw08.RunTurns", spec := "runTurns", unfollowed := true, recurses := true, apart := false, narrowed := true }
def RunTurnsUptoSaid : Prop := runTurnsUptoRow.holds Try.pinned (OpenSpec.upto runTurnsSpec)

/-- 'pontoonlaw08.RunGrows', WHERE WHAT IT READS IS OF BULK AT MOST 1048576: true; the input reads as it did. -/
def runGrowsUptoRow : OpenClaim := { program := "ytbcllgddogghbaa", sum := "1d4d7ba8e98093922d52b35b07efc87133609c746007399c9653c451244de1e2", func := "pontoon/pontoonlaw08.RunGrows", spec := "runGrows", unfollowed := true, recurses := true, apart := false, narrowed := true }
def RunGrowsUptoSaid : Prop := runGrowsUptoRow.holds Try.pinned (OpenSpec.upto runGrowsSpec)

/-- 'pontoonlaw08.RunFair', WHERE WHAT IT READS IS OF BULK AT MOST 1048576: true; the input reads as it did. -/
def runFairUptoRow : OpenClaim := { program := "ytbcllgddogghbaa", sum := "1d4d7ba8e98093922d52b35b07efc87133609c746007399c9653c451244de1e2", func := "pontoon/pontoonlaw08.RunFair", spec := "runFair", unfollowed := true, recurses := true, apart := false, narrowed := true }
def RunFairUptoSaid : Prop := runFairUptoRow.holds Try.pinned (OpenSpec.upto runFairSpec)

/-- 'pontoonlaw08.RunOwn', WHERE WHAT IT READS IS OF BULK AT MOST 1048576: true; the input reads as it did. -/
def runOwnUptoRow : OpenClaim := { program := "ytbcllgddogghbaa", sum := "1d4d7ba8e98093922d52b35b07efc87133609c746007399c9653c451244de1e2", func := "pontoon/pontoonlaw08.RunOwn", spec := "runOwn", unfollowed := true, recurses := true, apart := false, narrowed := true }
def RunOwnUptoSaid : Prop := runOwnUptoRow.holds Try.pinned (OpenSpec.upto runOwnSpec)

end Rows
end Go.Proofs.Ytbcllgddogghbaa
