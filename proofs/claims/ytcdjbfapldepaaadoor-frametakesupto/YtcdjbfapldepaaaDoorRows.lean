/-
  NARROWER THAN 'FOR EVERY INPUT', by the rows' own cells (each row's printed sentence says how): FrameMakes: laid · FrameTakes: laid · FrameBack: laid · FrameTorn: laid · FrameDamage: laid.
  DERIVED. THE GIVEN ROWS OF THIS SEAT. 5 by the template 'for every input the law returns true; each argument reads behind the call as it read before'; 0 by the template 'total and deterministic' (their statements: YtcdjbfapldepaaaDoorTotals.lean).
  GIVEN WITH THE SEED: the statements are not yours to turn. If you find one false, say at which input.
  Laid BY PROGRAM, IN A SANDBOX (cutbox-rows.mjs): the forced cells as the released guide's own fill.sh prints them over the translation 758567bc139e425a… (all of the seat's roots in one cut). By AI agents, Wed Nov 11 2026. No macro, syntax, notation, axiom, sorry.
-/
import Derived.Test.YtcdjbfapldepaaaDoorChecked
import GoSem.Claim
import GoSem.ClaimJoined
import GoSem.ClaimMapViews
import Derived.JoinedTies
import Derived.KernelRfl
namespace Go.Proofs.YtcdjbfapldepaaaDoor
/- THE CELL 'sum', in the pinned program and in every row, IS THE sha256 OF THE DUMP (.gsa) THAT YtcdjbfapldepaaaDoorProg.lean LOADS. Nothing in Lean hashes anything: it is a label: what it is worth is what the hold of that sum in a sandbox is worth. -/
noncomputable def Tryd.pinned : Pinned := { name := "ytcdjbfapldepaaadoor", sum := "758567bc139e425aa6b3a99d6e5716766e5013d4e69345547ba496b02053f346", checked := Tryd.checked }
namespace Rows
def none {H : Type} : Left H := { results := [], args := [] }

/- WHAT THE LISTED PACKAGE-LEVEL VARIABLES READ AS WHEN THE CALL BEGINS. Each datum BY PROGRAM (the guide's laid-datum.mjs) off the statement by which the dump's own 'gosem.cut.vars' lays the variable. In a bare row this is a premise. The card (YtcdjbfapldepaaaDoorCards.lean) ties it to the program's text. -/
def laid_pontoon_frame_lowBits {H : Type} : DataW H := .agg [.lit (.int .u32 0), .lit (.int .u32 4067132163), .lit (.int .u32 3778769143), .lit (.int .u32 324072436), .lit (.int .u32 3348797215), .lit (.int .u32 904991772), .lit (.int .u32 648144872), .lit (.int .u32 3570033899), .lit (.int .u32 2329499855), .lit (.int .u32 2024987596), .lit (.int .u32 1809983544), .lit (.int .u32 2575936315), .lit (.int .u32 1296289744), .lit (.int .u32 3207089363), .lit (.int .u32 2893594407), .lit (.int .u32 1578318884)]
def laid_pontoon_frame_highBits {H : Type} : DataW H := .agg [.lit (.int .u32 0), .lit (.int .u32 274646895), .lit (.int .u32 549293790), .lit (.int .u32 820201905), .lit (.int .u32 1098587580), .lit (.int .u32 1361435347), .lit (.int .u32 1640403810), .lit (.int .u32 1905808397), .lit (.int .u32 2197175160), .lit (.int .u32 2460548119), .lit (.int .u32 2722870694), .lit (.int .u32 2987750089), .lit (.int .u32 3280807620), .lit (.int .u32 3553878443), .lit (.int .u32 3811616794), .lit (.int .u32 4084100981)]

/-- 'pontoonlaw02.FrameMakes': WHATEVER THE INPUT: true; the input reads as it did. -/
def frameMakesSpec : ChangeSpec := { name := "frameMakes", fn := fun _ => fun
  | [d1, d2, d3] => { results := [.lit (.bool true)], args := [d1, d2, d3] }
  | _ => none }
def frameMakesRow : OpenClaim := { program := "ytcdjbfapldepaaadoor", sum := "758567bc139e425aa6b3a99d6e5716766e5013d4e69345547ba496b02053f346", func := "pontoon/pontoonlaw02.FrameMakes", spec := "frameMakes", named := ["pontoon/frame.lowBits", "pontoon/frame.highBits"], apart := false, laid := [("pontoon/frame.lowBits", laid_pontoon_frame_lowBits), ("pontoon/frame.highBits", laid_pontoon_frame_highBits)] }
def FrameMakesSaid : Prop := frameMakesRow.holds Tryd.pinned (OpenSpec.ofChange frameMakesSpec)

/-- ITS FALSE NEIGHBOUR: 'it returns false'. Refute it at one input. -/
def frameMakesWrong : ChangeSpec := { name := "frameMakes", fn := fun _ => fun
  | [d1, d2, d3] => { results := [.lit (.bool false)], args := [d1, d2, d3] }
  | _ => none }
def FrameMakesWrongFalsely : Prop := frameMakesRow.holds Tryd.pinned (OpenSpec.ofChange frameMakesWrong)

/-- 'pontoonlaw02.FrameTakes': WHATEVER THE INPUT: true; the input reads as it did. -/
def frameTakesSpec : ChangeSpec := { name := "frameTakes", fn := fun _ => fun
  | [d] => { results := [.lit (.bool true)], args := [d] }
  | _ => none }
def frameTakesRow : OpenClaim := { program := "ytcdjbfapldepaaadoor", sum := "758567bc139e425aa6b3a99d6e5716766e5013d4e69345547ba496b02053f346", func := "pontoon/pontoonlaw02.FrameTakes", spec := "frameTakes", unfollowed := true, recurses := true, named := ["pontoon/frame.lowBits", "pontoon/frame.highBits"], apart := false, laid := [("pontoon/frame.lowBits", laid_pontoon_frame_lowBits), ("pontoon/frame.highBits", laid_pontoon_frame_highBits)] }
def FrameTakesSaid : Prop := frameTakesRow.holds Tryd.pinned (OpenSpec.ofChange frameTakesSpec)

/-- ITS FALSE NEIGHBOUR: 'it returns false'. Refute it at one input. -/
def frameTakesWrong : ChangeSpec := { name := "frameTakes", fn := fun _ => fun
  | [d] => { results := [.lit (.bool false)], args := [d] }
  | _ => none }
def FrameTakesWrongFalsely : Prop := frameTakesRow.holds Tryd.pinned (OpenSpec.ofChange frameTakesWrong)

/-- 'pontoonlaw02.FrameBack': WHATEVER THE INPUT: true; the input reads as it did. -/
def frameBackSpec : ChangeSpec := { name := "frameBack", fn := fun _ => fun
  | [d1, d2] => { results := [.lit (.bool true)], args := [d1, d2] }
  | _ => none }
def frameBackRow : OpenClaim := { program := "ytcdjbfapldepaaadoor", sum := "758567bc139e425aa6b3a99d6e5716766e5013d4e69345547ba496b02053f346", func := "pontoon/pontoonlaw02.FrameBack", spec := "frameBack", unfollowed := true, recurses := true, named := ["pontoon/frame.lowBits", "pontoon/frame.highBits"], apart := false, laid := [("pontoon/frame.lowBits", laid_pontoon_frame_lowBits), ("pontoon/frame.highBits", laid_pontoon_frame_highBits)] }
def FrameBackSaid : Prop := frameBackRow.holds Tryd.pinned (OpenSpec.ofChange frameBackSpec)

/-- ITS FALSE NEIGHBOUR: 'it returns false'. Refute it at one input. -/
def frameBackWrong : ChangeSpec := { name := "frameBack", fn := fun _ => fun
  | [d1, d2] => { results := [.lit (.bool false)], args := [d1, d2] }
  | _ => none }
def FrameBackWrongFalsely : Prop := frameBackRow.holds Tryd.pinned (OpenSpec.ofChange frameBackWrong)

/-- 'pontoonlaw02.FrameTorn': WHATEVER THE INPUT: true; the input reads as it did. -/
def frameTornSpec : ChangeSpec := { name := "frameTorn", fn := fun _ => fun
  | [d1, d2] => { results := [.lit (.bool true)], args := [d1, d2] }
  | _ => none }
def frameTornRow : OpenClaim := { program := "ytcdjbfapldepaaadoor", sum := "758567bc139e425aa6b3a99d6e5716766e5013d4e69345547ba496b02053f346", func := "pontoon/pontoonlaw02.FrameTorn", spec := "frameTorn", unfollowed := true, recurses := true, named := ["pontoon/frame.lowBits", "pontoon/frame.highBits"], apart := false, laid := [("pontoon/frame.lowBits", laid_pontoon_frame_lowBits), ("pontoon/frame.highBits", laid_pontoon_frame_highBits)] }
def FrameTornSaid : Prop := frameTornRow.holds Tryd.pinned (OpenSpec.ofChange frameTornSpec)

/-- ITS FALSE NEIGHBOUR: 'it returns false'. Refute it at one input. -/
def frameTornWrong : ChangeSpec := { name := "frameTorn", fn := fun _ => fun
  | [d1, d2] => { results := [.lit (.bool false)], args := [d1, d2] }
  | _ => none }
def FrameTornWrongFalsely : Prop := frameTornRow.holds Tryd.pinned (OpenSpec.ofChange frameTornWrong)

/-- 'pontoonlaw02.FrameDamage': WHATEVER THE INPUT: true; the input reads as it did. -/
def frameDamageSpec : ChangeSpec := { name := "frameDamage", fn := fun _ => fun
  | [d1, d2, d3] => { results := [.lit (.bool true)], args := [d1, d2, d3] }
  | _ => none }
def frameDamageRow : OpenClaim := { program := "ytcdjbfapldepaaadoor", sum := "758567bc139e425aa6b3a99d6e5716766e5013d4e69345547ba496b02053f346", func := "pontoon/pontoonlaw02.FrameDamage", spec := "frameDamage", unfollowed := true, recurses := true, named := ["pontoon/frame.lowBits", "pontoon/frame.highBits"], apart := false, laid := [("pontoon/frame.lowBits", laid_pontoon_frame_lowBits), ("pontoon/frame.highBits", laid_pontoon_frame_highBits)] }
def FrameDamageSaid : Prop := frameDamageRow.holds Tryd.pinned (OpenSpec.ofChange frameDamageSpec)

/-- ITS FALSE NEIGHBOUR: 'it returns false'. Refute it at one input. -/
def frameDamageWrong : ChangeSpec := { name := "frameDamage", fn := fun _ => fun
  | [d1, d2, d3] => { results := [.lit (.bool false)], args := [d1, d2, d3] }
  | _ => none }
def FrameDamageWrongFalsely : Prop := frameDamageRow.holds Tryd.pinned (OpenSpec.ofChange frameDamageWrong)

/- THE SECOND FORM. 'bulk': how many values and letters a reading holds, each counted each time it is reached (what is shared counts as often as it is met; a slice's spare places count too). A statement '..UptoSaid' is the law's where the arguments, and the package variables that the reading takes, are together of bulk at most 1048576: NARROWER than '..Said'. Prove '..Said' where nothing that the law and all that it calls make is longer than what came in: it says more and counts as full. Else prove '..UptoSaid'. A law counts once. -/
mutual
def uptoBulk {H : Type} : DataW H → Nat
  | .lit (.string bytes) => bytes.length + 1
  | .lit _ => 1
  | .nil => 1
  | .ptr d => uptoBulk d + 1
  | .slice elems spare => uptoBulkAll elems + uptoBulkAll spare + 1
  | .agg parts => uptoBulkAll parts + 1
  | .iface _ d => uptoBulk d + 1
  | .map entries => uptoBulkEntries entries + 1
  | .held _ => 1
def uptoBulkAll {H : Type} : List (DataW H) → Nat
  | [] => 0
  | d :: r => uptoBulk d + uptoBulkAll r
def uptoBulkEntries {H : Type} : List (Lit × DataW H) → Nat
  | [] => 0
  | x :: r => uptoBulkEntry x + uptoBulkEntries r
def uptoBulkEntry {H : Type} : Lit × DataW H → Nat
  | (.string bytes, d) => bytes.length + uptoBulk d + 1
  | (_, d) => uptoBulk d + 1
 end
def uptoSmall : (H : Type) → List (DataW H) → Bool := fun _ ds => decide (uptoBulkAll ds ≤ 1048576)
def OpenSpec.upto (s : _root_.Go.ChangeSpec) : _root_.Go.OpenSpec := { _root_.Go.OpenSpec.ofChange s with cond := some uptoSmall }

/-- 'pontoonlaw02.FrameMakes', WHERE WHAT IT READS IS OF BULK AT MOST 1048576: true; the input reads as it did. -/
def frameMakesUptoRow : OpenClaim := { program := "ytcdjbfapldepaaadoor", sum := "758567bc139e425aa6b3a99d6e5716766e5013d4e69345547ba496b02053f346", func := "pontoon/pontoonlaw02.FrameMakes", spec := "frameMakes", named := ["pontoon/frame.lowBits", "pontoon/frame.highBits"], apart := false, laid := [("pontoon/frame.lowBits", laid_pontoon_frame_lowBits), ("pontoon/frame.highBits", laid_pontoon_frame_highBits)], narrowed := true }
def FrameMakesUptoSaid : Prop := frameMakesUptoRow.holds Tryd.pinned (OpenSpec.upto frameMakesSpec)

/-- 'pontoonlaw02.FrameTakes', WHERE WHAT IT READS IS OF BULK AT MOST 1048576: true; the input reads as it did. -/
def frameTakesUptoRow : OpenClaim := { program := "ytcdjbfapldepaaadoor", sum := "758567bc139e425aa6b3a99d6e5716766e5013d4e69345547ba496b02053f346", func := "pontoon/pontoonlaw02.FrameTakes", spec := "frameTakes", unfollowed := true, recurses := true, named := ["pontoon/frame.lowBits", "pontoon/frame.highBits"], apart := false, laid := [("pontoon/frame.lowBits", laid_pontoon_frame_lowBits), ("pontoon/frame.highBits", laid_pontoon_frame_highBits)], narrowed := true }
def FrameTakesUptoSaid : Prop := frameTakesUptoRow.holds Tryd.pinned (OpenSpec.upto frameTakesSpec)

/-- 'pontoonlaw02.FrameBack', WHERE WHAT IT READS IS OF BULK AT MOST 1048576: true; the input reads as it did. -/
def frameBackUptoRow : OpenClaim := { program := "ytcdjbfapldepaaadoor", sum := "758567bc139e425aa6b3a99d6e5716766e5013d4e69345547ba496b02053f346", func := "pontoon/pontoonlaw02.FrameBack", spec := "frameBack", unfollowed := true, recurses := true, named := ["pontoon/frame.lowBits", "pontoon/frame.highBits"], apart := false, laid := [("pontoon/frame.lowBits", laid_pontoon_frame_lowBits), ("pontoon/frame.highBits", laid_pontoon_frame_highBits)], narrowed := true }
def FrameBackUptoSaid : Prop := frameBackUptoRow.holds Tryd.pinned (OpenSpec.upto frameBackSpec)

/-- 'pontoonlaw02.FrameTorn', WHERE WHAT IT READS IS OF BULK AT MOST 1048576: true; the input reads as it did. -/
def frameTornUptoRow : OpenClaim := { program := "ytcdjbfapldepaaadoor", sum := "758567bc139e425aa6b3a99d6e5716766e5013d4e69345547ba496b02053f346", func := "pontoon/pontoonlaw02.FrameTorn", spec := "frameTorn", unfollowed := true, recurses := true, named := ["pontoon/frame.lowBits", "pontoon/frame.highBits"], apart := false, laid := [("pontoon/frame.lowBits", laid_pontoon_frame_lowBits), ("pontoon/frame.highBits", laid_pontoon_frame_highBits)], narrowed := true }
def FrameTornUptoSaid : Prop := frameTornUptoRow.holds Tryd.pinned (OpenSpec.upto frameTornSpec)

/-- 'pontoonlaw02.FrameDamage', WHERE WHAT IT READS IS OF BULK AT MOST 1048576: true; the input reads as it did. -/
def frameDamageUptoRow : OpenClaim := { program := "ytcdjbfapldepaaadoor", sum := "758567bc139e425aa6b3a99d6e5716766e5013d4e69345547ba496b02053f346", func := "pontoon/pontoonlaw02.FrameDamage", spec := "frameDamage", unfollowed := true, recurses := true, named := ["pontoon/frame.lowBits", "pontoon/frame.highBits"], apart := false, laid := [("pontoon/frame.lowBits", laid_pontoon_frame_lowBits), ("pontoon/frame.highBits", laid_pontoon_frame_highBits)], narrowed := true }
def FrameDamageUptoSaid : Prop := frameDamageUptoRow.holds Tryd.pinned (OpenSpec.upto frameDamageSpec)

end Rows
end Go.Proofs.YtcdjbfapldepaaaDoor
