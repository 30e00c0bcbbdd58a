/-
  No cell of these rows narrows 'for every input' (looked for: loops, veiled, ifaces, maps, wideKeys, modest, calm, conditions, laid).
  DERIVED. THE GIVEN ROWS OF THIS SEAT. 4 by the template 'for every input the law returns true; each argument reads behind the call as it read before'; 0 by the template 'total and deterministic' (their statements: YtmmdgffgnpnmeaaTotals.lean).
  GIVEN WITH THE SEED: the statements are not yours to turn. If you find one false, say at which input.
  Laid BY PROGRAM, IN A SANDBOX (cutbox-rows.mjs): the forced cells as the released guide's own fill.sh prints them over the translation c3b2df0f296a6371… (all of the seat's roots in one cut). By AI agents, Wed Nov 11 2026. No macro, syntax, notation, axiom, sorry.
-/
import Derived.Test.YtmmdgffgnpnmeaaChecked
import GoSem.Claim
import GoSem.ClaimJoined
import GoSem.ClaimMapViews
import Derived.JoinedTies
import Derived.KernelRfl
namespace Go.Proofs.Ytmmdgffgnpnmeaa
/- THE CELL 'sum', in the pinned program and in every row, IS THE sha256 OF THE DUMP (.gsa) THAT YtmmdgffgnpnmeaaProg.lean LOADS. Nothing in Lean hashes anything: it is a label: what it is worth is what the hold of that sum in a sandbox is worth. -/
noncomputable def Try.pinned : Pinned := { name := "ytmmdgffgnpnmeaa", sum := "c3b2df0f296a6371a632351808229abcc3c5aa243bd272b4dfe4c1dc12ec2ad8", checked := Try.checked }
namespace Rows
def none {H : Type} : Left H := { results := [], args := [] }

/-- 'pontoonlaw09.EdgeDoes': WHATEVER THE INPUT: true; the input reads as it did. -/
def edgeDoesSpec : ChangeSpec := { name := "edgeDoes", fn := fun _ => fun
  | [d1, d2] => { results := [.lit (.bool true)], args := [d1, d2] }
  | _ => none }
def edgeDoesRow : OpenClaim := { program := "ytmmdgffgnpnmeaa", sum := "c3b2df0f296a6371a632351808229abcc3c5aa243bd272b4dfe4c1dc12ec2ad8", func := "pontoon/pontoonlaw09.EdgeDoes", spec := "edgeDoes", unfollowed := true, recurses := true, apart := false }
def EdgeDoesSaid : Prop := edgeDoesRow.holds Try.pinned (OpenSpec.ofChange edgeDoesSpec)

/-- ITS FALSE NEIGHBOUR: 'it returns false'. Refute it at one input. -/
def edgeDoesWrong : ChangeSpec := { name := "edgeDoes", fn := fun _ => fun
  | [d1, d2] => { results := [.lit (.bool false)], args := [d1, d2] }
  | _ => none }
def EdgeDoesWrongFalsely : Prop := edgeDoesRow.holds Try.pinned (OpenSpec.ofChange edgeDoesWrong)

/-- 'pontoonlaw09.EdgeFrom': WHATEVER THE INPUT: true; the input reads as it did. -/
def edgeFromSpec : ChangeSpec := { name := "edgeFrom", fn := fun _ => fun
  | [d1, d2, d3] => { results := [.lit (.bool true)], args := [d1, d2, d3] }
  | _ => none }
def edgeFromRow : OpenClaim := { program := "ytmmdgffgnpnmeaa", sum := "c3b2df0f296a6371a632351808229abcc3c5aa243bd272b4dfe4c1dc12ec2ad8", func := "pontoon/pontoonlaw09.EdgeFrom", spec := "edgeFrom", unfollowed := true, recurses := true, apart := false }
def EdgeFromSaid : Prop := edgeFromRow.holds Try.pinned (OpenSpec.ofChange edgeFromSpec)

/-- ITS FALSE NEIGHBOUR: 'it returns false'. Refute it at one input. -/
def edgeFromWrong : ChangeSpec := { name := "edgeFrom", fn := fun _ => fun
  | [d1, d2, d3] => { results := [.lit (.bool false)], args := [d1, d2, d3] }
  | _ => none }
def EdgeFromWrongFalsely : Prop := edgeFromRow.holds Try.pinned (OpenSpec.ofChange edgeFromWrong)

/-- 'pontoonlaw09.EdgeOrder': WHATEVER THE INPUT: true; the input reads as it did. -/
def edgeOrderSpec : ChangeSpec := { name := "edgeOrder", fn := fun _ => fun
  | [d1, d2] => { results := [.lit (.bool true)], args := [d1, d2] }
  | _ => none }
def edgeOrderRow : OpenClaim := { program := "ytmmdgffgnpnmeaa", sum := "c3b2df0f296a6371a632351808229abcc3c5aa243bd272b4dfe4c1dc12ec2ad8", func := "pontoon/pontoonlaw09.EdgeOrder", spec := "edgeOrder", unfollowed := true, recurses := true, apart := false }
def EdgeOrderSaid : Prop := edgeOrderRow.holds Try.pinned (OpenSpec.ofChange edgeOrderSpec)

/-- ITS FALSE NEIGHBOUR: 'it returns false'. Refute it at one input. -/
def edgeOrderWrong : ChangeSpec := { name := "edgeOrder", fn := fun _ => fun
  | [d1, d2] => { results := [.lit (.bool false)], args := [d1, d2] }
  | _ => none }
def EdgeOrderWrongFalsely : Prop := edgeOrderRow.holds Try.pinned (OpenSpec.ofChange edgeOrderWrong)

/-- 'pontoonlaw09.EdgeNone': WHATEVER THE INPUT: true; the input reads as it did. -/
def edgeNoneSpec : ChangeSpec := { name := "edgeNone", fn := fun _ => fun
  | [d] => { results := [.lit (.bool true)], args := [d] }
  | _ => none }
def edgeNoneRow : OpenClaim := { program := "ytmmdgffgnpnmeaa", sum := "c3b2df0f296a6371a632351808229abcc3c5aa243bd272b4dfe4c1dc12ec2ad8", func := "pontoon/pontoonlaw09.EdgeNone", spec := "edgeNone", unfollowed := true, recurses := true, apart := false }
def EdgeNoneSaid : Prop := edgeNoneRow.holds Try.pinned (OpenSpec.ofChange edgeNoneSpec)

/-- ITS FALSE NEIGHBOUR: 'it returns false'. Refute it at one input. -/
def edgeNoneWrong : ChangeSpec := { name := "edgeNone", fn := fun _ => fun
  | [d] => { results := [.lit (.bool false)], args := [d] }
  | _ => none }
def EdgeNoneWrongFalsely : Prop := edgeNoneRow.holds Try.pinned (OpenSpec.ofChange edgeNoneWrong)

/- THE SECOND FORM. 'bulk': how many values and letters a reading holds, each counted each time it is reached (what is shared counts as often as it is met; a slice's spare places count too). A statement '..UptoSaid' is the law's where the arguments, and the package variables that the reading takes, are together of bulk at most 1048576: NARROWER than '..Said'. Prove '..Said' where nothing that the law and all that it calls make is longer than what came in: it says more and counts as full. Else prove '..UptoSaid'. A law counts once. -/
mutual
def uptoBulk {H : Type} : DataW H → Nat
  | .lit (.string bytes) => bytes.length + 1
  | .lit _ => 1
  | .nil => 1
  | .ptr d => uptoBulk d + 1
  | .slice elems spare => uptoBulkAll elems + uptoBulkAll spare + 1
  | .agg parts => uptoBulkAll parts + 1
  | .iface _ d => uptoBulk d + 1
  | .map entries => uptoBulkEntries entries + 1
  | .held _ => 1
def uptoBulkAll {H : Type} : List (DataW H) → Nat
  | [] => 0
  | d :: r => uptoBulk d + uptoBulkAll r
def uptoBulkEntries {H : Type} : List (Lit × DataW H) → Nat
  | [] => 0
  | x :: r => uptoBulkEntry x + uptoBulkEntries r
def uptoBulkEntry {H : Type} : Lit × DataW H → Nat
  | (.string bytes, d) => bytes.length + uptoBulk d + 1
  | (_, d) => uptoBulk d + 1
 end
def uptoSmall : (H : Type) → List (DataW H) → Bool := fun _ ds => decide (uptoBulkAll ds ≤ 1048576)
def OpenSpec.upto (s : _root_.Go.ChangeSpec) : _root_.Go.OpenSpec := { _root_.Go.OpenSpec.ofChange s with cond := some uptoSmall }

/-- 'pontoonlaw09.EdgeDoes', WHERE WHAT IT READS IS OF BULK AT MOST 1048576: true; the input reads as it did. -/
def edgeDoesUptoRow : OpenClaim := { program := "ytmmdgffgnpnmeaa", sum := "c3b2df0f296a6371a632351808229abcc3c5aa243bd272b4dfe4c1dc12ec2ad8", func := "pontoon/pontoonlaw09.EdgeDoes", spec := "edgeDoes", unfollowed := true, recurses := true, apart := false, narrowed := true }
def EdgeDoesUptoSaid : Prop := edgeDoesUptoRow.holds Try.pinned (OpenSpec.upto edgeDoesSpec)

/-- 'pontoonlaw09.EdgeFrom', WHERE WHAT IT READS IS OF BULK AT MOST 1048576: true; the input reads as it did. -/
def edgeFromUptoRow : OpenClaim := { program := "ytmmdgffgnpnmeaa", sum := "c3b2df0f296a6371a632351808229abcc3c5aa243bd272b4dfe4c1dc12ec2ad8", func := "pontoon/pontoonlaw09.EdgeFrom", spec := "edgeFrom", unfollowed := true, recurses := true, apart := false, narrowed := true }
def EdgeFromUptoSaid : Prop := edgeFromUptoRow.holds Try.pinned (OpenSpec.upto edgeFromSpec)

/-- 'pontoonlaw09.EdgeOrder', WHERE WHAT IT READS IS OF BULK AT MOST 1048576: true; the input reads as it did. -/
def edgeOrderUptoRow : OpenClaim := { program := "ytmmdgffgnpnmeaa", sum := "c3b2df0f296a6371a632351808229abcc3c5aa243bd272b4dfe4c1dc12ec2ad8", func := "pontoon/pontoonlaw09.EdgeOrder", spec := "edgeOrder", unfollowed := true, recurses := true, apart := false, narrowed := true }
def EdgeOrderUptoSaid : Prop := edgeOrderUptoRow.holds Try.pinned (OpenSpec.upto edgeOrderSpec)

/-- 'pontoonlaw09.EdgeNone', WHERE WHAT IT READS IS OF BULK AT MOST 1048576: true; the input reads as it did. -/
def edgeNoneUptoRow : OpenClaim := { program := "ytmmdgffgnpnmeaa", sum := "c3b2df0f296a6371a632351808229abcc3c5aa243bd272b4dfe4c1dc12ec2ad8", func := "pontoon/pontoonlaw09.EdgeNone", spec := "edgeNone", unfollowed := true, recurses := true, apart := false, narrowed := true }
def EdgeNoneUptoSaid : Prop := edgeNoneUptoRow.holds Try.pinned (OpenSpec.upto edgeNoneSpec)

end Rows
end Go.Proofs.Ytmmdgffgnpnmeaa
