/-
  Which inputs an operator may have: the reference's inputs. The conditions: lengths.
-/
import Derived.Test.YtbcllgddogghbaaGmy
namespace Go.Proofs.Ytbcllgddogghbaa
open Go.RowKit

end Go.Proofs.Ytbcllgddogghbaa
