/-
  Acquire, Renew, Release, Transfer and Alone of package lease. No conditions.
-/
import Derived.Test.YtegffdmlkbdcdaaLse
namespace Go.Proofs.Ytegffdmlkbdcdaa.Op
open Go.RowKit

end Go.Proofs.Ytegffdmlkbdcdaa.Op
