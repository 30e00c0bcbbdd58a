/-
  Leases, plainly; which may be: Check of package lease, with what it calls. No conditions.
-/
import Derived.Test.YthlkhjpobiohmaaAgs
import Derived.Test.YthlkhjpobiohmaaOnl
import Derived.OwnWalk
import Derived.BigQuiet
import Derived.Deep.RegionHeld3
namespace Go.Proofs.Ythlkhjpobiohmaa
open Go.RowKit

/-- A lease. -/
structure LE where
  own : Int
  last : Int
  ep : Int
  clk : Int
  til : Int
  solo : Bool
deriving DecidableEq
instance : Inhabited LE := ⟨⟨0, 0, 0, 0, 0, false⟩⟩
def LE.row (l : LE) : Array Value := #[.int .i64 l.own, .int .i64 l.last, .int .i64 l.ep, .int .i64 l.clk, .int .i64 l.til, .bool l.solo]
def LE.val (l : LE) : Value := .agg l.row
def regC (n : Int) : Bool := decide (0 ≤ n ∧ n < 2)
def numC (n : Int) : Bool := decide (0 ≤ n ∧ n ≤ 9007199254740992)
def okL (l : LE) : Prop := (l.own = -1 ∨ (0 ≤ l.own ∧ l.own < 2)) ∧ (l.last = -1 ∨ (0 ≤ l.last ∧ l.last < 2)) ∧ (0 ≤ l.ep ∧ l.ep ≤ 9007199254740992) ∧ (0 ≤ l.clk ∧ l.clk ≤ 9007199254740992) ∧ (0 ≤ l.til ∧ l.til ≤ 9007199254740992) ∧
  (l.own = -1 ∨ l.own = l.last) ∧ (l.last = -1 → l.ep = 0 ∧ l.solo = false) ∧ (l.last ≠ -1 → l.ep ≠ 0) ∧ (l.own = -1 → l.til ≤ l.clk)
instance (l : LE) : Decidable (okL l) := by unfold okL; infer_instance
def chkC (l : LE) : Int := if okL l then 0 else 1
theorem chk_yes {l : LE} (h : okL l) : chkC l = 0 := if_pos h
theorem chk_no {l : LE} (h : ¬ okL l) : chkC l = 1 := if_neg h
def laterC (c n : Int) : Int := c + min (max n 0) (9007199254740992 - c)
theorem later_le {c n : Int} (h0 : 0 ≤ c) (h1 : c ≤ 9007199254740992) : c ≤ laterC c n ∧ laterC c n ≤ 9007199254740992 := by unfold laterC; omega
theorem alloc_belowL (w : World) (o : Obj) : Below w.heap.size w (w.alloc o) := (Below.refl _ _).alloc (Nat.le_refl _) _

theorem isreg_any {W : World} {n : Int} : Calls Try.prog 33 #[.int .i64 n] W fun e w' => e = .returned (.bool (regC n)) ∧ w' = W := by
  by_cases h0 : 0 ≤ n
  · have d0 : decide (n ≥ 0) = true := decide_eq_true h0
    by_cases h1 : n < 2
    · have d1 : decide (n < 2) = true := decide_eq_true h1
      have HE : Hid (regC n = true) := hide (decide_eq_true ⟨h0, h1⟩)
      clear h0 h1
      go_enter Try.func33, Try.ntmps33
      go_wp2
      go_ret
      exact ⟨by rw [HE.out]; rfl, rfl⟩
    · have d1 : decide (n < 2) = false := decide_eq_false h1
      have HE : Hid (regC n = false) := hide (decide_eq_false (by omega))
      clear h0 h1
      go_enter Try.func33, Try.ntmps33
      go_wp2
      go_ret
      exact ⟨by rw [HE.out]; rfl, rfl⟩
  · have d0 : decide (n ≥ 0) = false := decide_eq_false h0
    have HE : Hid (regC n = false) := hide (decide_eq_false (by omega))
    clear h0
    go_enter Try.func33, Try.ntmps33
    go_wp2
    go_ret
    exact ⟨by rw [HE.out]; rfl, rfl⟩
theorem iscount_any {W : World} {n : Int} : Calls Try.prog 34 #[.int .i64 n] W fun e w' => e = .returned (.bool (numC n)) ∧ w' = W := by
  by_cases h0 : 0 ≤ n
  · have d0 : decide (n ≥ 0) = true := decide_eq_true h0
    by_cases h1 : n ≤ 9007199254740992
    · have d1 : decide (n ≤ 9007199254740992) = true := decide_eq_true h1
      have HE : Hid (numC n = true) := hide (decide_eq_true ⟨h0, h1⟩)
      clear h0 h1
      go_enter Try.func34, Try.ntmps34
      go_wp2
      go_ret
      exact ⟨by rw [HE.out]; rfl, rfl⟩
    · have d1 : decide (n ≤ 9007199254740992) = false := decide_eq_false h1
      have HE : Hid (numC n = false) := hide (decide_eq_false (by omega))
      clear h0 h1
      go_enter Try.func34, Try.ntmps34
      go_wp2
      go_ret
      exact ⟨by rw [HE.out]; rfl, rfl⟩
  · have d0 : decide (n ≥ 0) = false := decide_eq_false h0
    have HE : Hid (numC n = false) := hide (decide_eq_false (by omega))
    clear h0
    go_enter Try.func34, Try.ntmps34
    go_wp2
    go_ret
    exact ⟨by rw [HE.out]; rfl, rfl⟩
theorem later_any {W : World} {c n : Int} (h0 : 0 ≤ c) (h1 : c ≤ 9007199254740992) : Calls Try.prog 49 #[.int .i64 c, .int .i64 n] W fun e w' => e = .returned (.int .i64 (laterC c n)) ∧ w' = W := by
  have e1 : IntKind.i64.wrap (9007199254740992 - c) = 9007199254740992 - c := by rw [IntKind.wrap_i64]; omega
  have e2 : IntKind.i64.wrap (c + min (max n 0) (9007199254740992 - c)) = laterC c n := by
    have := later_le (n := n) h0 h1
    unfold laterC at *
    rw [IntKind.wrap_i64]; omega
  go_enter Try.func49, Try.ntmps49
  go_wp2
  go_ret
  exact ⟨by first | rw [e2] | rfl, rfl⟩
theorem new_any {W : World} : Calls Try.prog 14 #[] W fun e w' => e = .returned (LE.val ⟨-1, -1, 0, 0, 0, false⟩) ∧ Below W.heap.size W w' := by
  go_enter Try.func14, Try.ntmps14
  go_wp2
  refine bodyPost_ret (results_cell_row rfl _ _ W.heap.size 23 _ _ _ rfl (heap_alloc_new W _) Try.underlying23 rfl (by kernel_rfl)) rfl ?_
  exact ⟨rfl, alloc_belowL _ _⟩
end Go.Proofs.Ythlkhjpobiohmaa
