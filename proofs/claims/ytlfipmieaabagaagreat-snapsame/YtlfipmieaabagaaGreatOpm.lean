/-
  Values, what passes, accumulators: the program's plain functions of package oper. The conditions: that numbers are of their types.
-/
import Derived.Test.YtlfipmieaabagaaGreatMem
import Derived.Test.YtlfipmieaabagaaGreatOnl
import Derived.Test.YtlfipmieaabagaaGreatSeg
import Derived.BigRegion
import Derived.BigQuiet
import Derived.WalkMore
import Derived.OwnWalk
namespace Go.Proofs.YtlfipmieaabagaaGreat.Op
open Go.RowKit

def I6 (n : Int) : Prop := -9223372036854775808 ≤ n ∧ n ≤ 9223372036854775807
theorem ne_eq {a b : Int} (h : a ≠ b) : (a == b) = false := by simpa using h
def restC (x a : Int) : Int := if a < 1 then 0 else if x.tmod a < 0 then x.tmod a + a else x.tmod a
theorem restC_bd {x a : Int} (h : 1 ≤ a) : 0 ≤ restC x a ∧ restC x a < a := by
  unfold restC
  rw [if_neg (by omega)]
  have h1 := Int.tmod_lt_of_pos x (show 0 < a by omega)
  have h2 : -a < x.tmod a := by
    have := Int.tmod_lt_of_pos (-x) (show 0 < a by omega)
    rw [Int.neg_tmod] at this
    omega
  split <;> omega

def mappedC (fn ar v : Int) : Int := if fn = 1 then wrap64 (v + ar) else if fn = 2 then wrap64 (v * ar) else if fn = 3 then wrap64 (-v) else if fn = 4 then bits .xor .i64 v ar else v
def keyedC (fn ar k v : Int) : Int := if fn = 2 then restC k ar else if fn = 3 then restC v ar else if fn = 4 then ar else k
def valueC (kd fn ar k v : Int) : Int × Int := if kd = 2 then (k, mappedC fn ar v) else if kd = 4 then (keyedC fn ar k v, v) else (k, v)
def holdsC (kd fn ar v : Int) : Bool := if kd = 3 then (if fn = 1 then decide (v < ar) else if fn = 2 then v == ar else if fn = 3 then bits .and .i64 v 1 != 0 else if fn = 4 then bits .and .i64 v ar != 0 else false) else true
def accC (fn cnt acc v : Int) : Int := if cnt < 1 then (if fn = 2 then 1 else v) else if fn = 1 then wrap64 (acc + v) else if fn = 2 then wrap64 (acc + 1) else if fn = 3 then max acc v else if fn = 4 then min acc v else v

end Go.Proofs.YtlfipmieaabagaaGreat.Op
