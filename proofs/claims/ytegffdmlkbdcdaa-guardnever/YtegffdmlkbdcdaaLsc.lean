/-
  Check of package lease: which leases may be. No conditions.
-/
import Derived.Test.YtegffdmlkbdcdaaLsb
namespace Go.Proofs.Ytegffdmlkbdcdaa.Op
open Go.RowKit

theorem reg_yes {n : Int} (h : 0 ≤ n ∧ n < 2) : regC n = true := decide_eq_true h
theorem reg_no {n : Int} (h : ¬ (0 ≤ n ∧ n < 2)) : regC n = false := decide_eq_false h
theorem num_yes {n : Int} (h : 0 ≤ n ∧ n ≤ 9007199254740992) : numC n = true := decide_eq_true h
theorem num_no {n : Int} (h : ¬ (0 ≤ n ∧ n ≤ 9007199254740992)) : numC n = false := decide_eq_false h
theorem below_drewL {n : Nat} {A B : World} (h : Below n A B) (k : Nat) : Below n A (B.drewN k) := ⟨h.os, h.tape, h.output, h.size, h.block⟩
theorem ne_neL {a b : Int} (h : a ≠ b) : (a != b) = true := by simpa using h
theorem reg_none : regC (-1) = false := by decide
end Go.Proofs.Ytegffdmlkbdcdaa.Op
