/-
  What the other calls of package lease do, plainly; claim, Held, Tick and grant walked. The conditions: where a number is added to, that the lease may be.
-/
import Derived.Test.YtegffdmlkbdcdaaLsc
namespace Go.Proofs.Ytegffdmlkbdcdaa.Op
open Go.RowKit

def heldC (l : LE) : Bool := decide (okL l ∧ l.own ≠ -1 ∧ l.clk < l.til)
def tickC (l : LE) (n : Int) : LE := if okL l then ⟨l.own, l.last, l.ep, laterC l.clk n, l.til, l.solo⟩ else l
def claimC (l : LE) (r e : Int) : Int := if okL l ∧ 0 ≤ r ∧ r < 2 then (if l.own = r ∧ l.ep = e then 0 else 132) else 1
def grantC (l : LE) (r : Int) : LE × Int × Int := if l.ep = 9007199254740992 then (l, 0, 6) else (⟨r, r, l.ep + 1, l.clk, laterC l.clk 16, l.solo && decide (l.last = r)⟩, l.ep + 1, 0)
def acqC (l : LE) (r : Int) : LE × Int × Int :=
  if okL l ∧ 0 ≤ r ∧ r < 2 then (if heldC l = true ∧ l.own ≠ r then (l, 0, 130) else if l.solo = true ∧ l.last ≠ r then (l, 0, 131) else grantC l r) else (l, 0, 1)
def renewC (l : LE) (r e : Int) : LE × Int := if claimC l r e = 0 then (⟨l.own, l.last, l.ep, l.clk, laterC l.clk 16, l.solo⟩, 0) else (l, claimC l r e)
def releaseC (l : LE) (r e : Int) : LE × Int := if claimC l r e = 0 then (⟨-1, l.last, l.ep, l.clk, l.clk, l.solo⟩, 0) else (l, claimC l r e)
def transC (l : LE) (r e t : Int) : LE × Int × Int :=
  if (0 ≤ t ∧ t < 2) ∧ t ≠ r then (if claimC l r e = 0 then (if l.solo = true then (l, 0, 131) else grantC l t) else (l, 0, claimC l r e)) else (l, 0, 1)
def aloneC (l : LE) (r e : Int) (s : Bool) : LE × Int := if claimC l r e = 0 then (⟨l.own, l.last, l.ep, l.clk, l.til, s⟩, 0) else (l, claimC l r e)
theorem claim_ok {l : LE} {r e : Int} (h : claimC l r e = 0) : okL l ∧ (0 ≤ r ∧ r < 2) ∧ l.own = r ∧ l.ep = e := by
  unfold claimC at h
  split at h
  · rename_i h1
    split at h
    · rename_i h2; exact ⟨h1.1, h1.2, h2.1, h2.2⟩
    · cases h
  · cases h

end Go.Proofs.Ytegffdmlkbdcdaa.Op
