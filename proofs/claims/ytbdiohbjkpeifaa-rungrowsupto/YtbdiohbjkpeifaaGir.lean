/-
  Which inputs an operator may have: the reference's inputs. The conditions: lengths.
-/
import Derived.Test.YtbdiohbjkpeifaaGmy
namespace Go.Proofs.Ytbdiohbjkpeifaa
open Go.RowKit

end Go.Proofs.Ytbdiohbjkpeifaa
