/-
  Leases, plainly; which may be: Check of package lease, with what it calls. No conditions.
-/
import Derived.Test.YtegffdmlkbdcdaaAgs
import Derived.Test.YtegffdmlkbdcdaaOnl
import Derived.OwnWalk
import Derived.BigQuiet
import Derived.Deep.RegionHeld3
namespace Go.Proofs.Ytegffdmlkbdcdaa
open Go.RowKit

/-- A lease. -/
structure LE where
  own : Int
  last : Int
  ep : Int
  clk : Int
  til : Int
  solo : Bool
deriving DecidableEq
instance : Inhabited LE := ⟨⟨0, 0, 0, 0, 0, false⟩⟩
def LE.row (l : LE) : Array Value := #[.int .i64 l.own, .int .i64 l.last, .int .i64 l.ep, .int .i64 l.clk, .int .i64 l.til, .bool l.solo]
def LE.val (l : LE) : Value := .agg l.row
def regC (n : Int) : Bool := decide (0 ≤ n ∧ n < 2)
def numC (n : Int) : Bool := decide (0 ≤ n ∧ n ≤ 9007199254740992)
def okL (l : LE) : Prop := (l.own = -1 ∨ (0 ≤ l.own ∧ l.own < 2)) ∧ (l.last = -1 ∨ (0 ≤ l.last ∧ l.last < 2)) ∧ (0 ≤ l.ep ∧ l.ep ≤ 9007199254740992) ∧ (0 ≤ l.clk ∧ l.clk ≤ 9007199254740992) ∧ (0 ≤ l.til ∧ l.til ≤ 9007199254740992) ∧
  (l.own = -1 ∨ l.own = l.last) ∧ (l.last = -1 → l.ep = 0 ∧ l.solo = false) ∧ (l.last ≠ -1 → l.ep ≠ 0) ∧ (l.own = -1 → l.til ≤ l.clk)
instance (l : LE) : Decidable (okL l) := by unfold okL; infer_instance
def chkC (l : LE) : Int := if okL l then 0 else 1
theorem chk_yes {l : LE} (h : okL l) : chkC l = 0 := if_pos h
theorem chk_no {l : LE} (h : ¬ okL l) : chkC l = 1 := if_neg h
def laterC (c n : Int) : Int := c + min (max n 0) (9007199254740992 - c)
theorem later_le {c n : Int} (h0 : 0 ≤ c) (h1 : c ≤ 9007199254740992) : c ≤ laterC c n ∧ laterC c n ≤ 9007199254740992 := by unfold laterC; omega
theorem alloc_belowL (w : World) (o : Obj) : Below w.heap.size w (w.alloc o) := (Below.refl _ _).alloc (Nat.le_refl _) _

end Go.Proofs.Ytegffdmlkbdcdaa
