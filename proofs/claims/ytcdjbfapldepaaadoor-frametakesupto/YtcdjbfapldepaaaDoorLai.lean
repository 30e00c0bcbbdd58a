/-
  A world in which the two tables hold what the program's text lays: the witness that the statements' conditions can be met. No condition.
-/
import Derived.Test.YtcdjbfapldepaaaDoorAgl
namespace Go.Proofs.YtcdjbfapldepaaaDoor
open Go.ChangeShapes Go.WideShapes Go.ChangeAt Go.RowKit

def layTab (l : List Nat) : Obj → Obj
  | .cells _ t frozen => .cells (l.map fun n : Nat => Value.int .u32 (n : Int)).toArray t frozen
  | o => o
noncomputable def laidWorld (os : Os) : World :=
  { World.holding Tryd.prog os ⟨#[], #[], []⟩ with heap := ((World.holding Tryd.prog os ⟨#[], #[], []⟩).heap.modify 0 (layTab low)).modify 1 (layTab high) }

end Go.Proofs.YtcdjbfapldepaaaDoor
