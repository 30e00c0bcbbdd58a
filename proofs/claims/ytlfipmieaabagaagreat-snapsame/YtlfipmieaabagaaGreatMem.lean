/-
  What Mem holds for other packages, here out of the texts of package pack. No conditions.
-/
import Derived.Test.YtlfipmieaabagaaGreatRows
import Derived.Test.YtlfipmieaabagaaGreatByt
import Derived.WalkKit
import Derived.WalkSpells
import Derived.WalkLawsBesides
import Derived.Lib.BitFns
import Derived.Laws.BytesArg
import Derived.Lib.Bytes
import Derived.Laws.BitsAllLaws
import Derived.Laws.AppendOwnNone
