/-
  The reference's Ports and fields. No conditions.
-/
import Derived.Test.YtbcllgddogghbaaGfl
namespace Go.Proofs.Ytbcllgddogghbaa
open Go.RowKit

set_option maxRecDepth 100000 in
set_option maxHeartbeats 4000000 in
theorem rports_any {W : World} {kd pt fn ar : Int} {ip : Option Addr} {n ic : Nat} :
    Calls Try.prog 16 #[.agg #[.int .i64 kd, .int .i64 pt, .int .i64 fn, .int .i64 ar, .slice ip n ic]] W fun e w' => e = .returned (.int .i64 (portsC kd ar)) ∧ Below W.heap.size W w' := by
  by_cases h7 : kd = 7
  · subst h7
    by_cases a2 : 2 ≤ ar
    · have e2 : decide (ar ≥ 2) = true := decide_eq_true a2
      by_cases a4 : ar ≤ 4
      · have e4 : decide (ar ≤ 4) = true := decide_eq_true a4
        have HP : Hid (portsC 7 ar = ar) := hide (by simp [portsC, a2, a4])
        clear a2 a4
        go_enter Try.func16, Try.ntmps16
        go_wp2
        go_ret
        exact ⟨by rw [HP.out]; rfl, alloc_below _ _⟩
      · have e4 : decide (ar ≤ 4) = false := decide_eq_false a4
        have HP : Hid (portsC 7 ar = 0) := hide (by simp [portsC, a4])
        clear a2 a4
        go_enter Try.func16, Try.ntmps16
        go_wp2
        go_ret
        exact ⟨by rw [HP.out]; rfl, alloc_below _ _⟩
    · have e2 : decide (ar ≥ 2) = false := decide_eq_false a2
      have HP : Hid (portsC 7 ar = 0) := hide (by simp [portsC, a2])
      clear a2
      go_enter Try.func16, Try.ntmps16
      go_wp2
      go_ret
      exact ⟨by rw [HP.out]; rfl, alloc_below _ _⟩
  · have c7 := ne_eq h7
    by_cases h9 : kd = 9
    · subst h9
      have HP : Hid (portsC 9 ar = 0) := hide (by simp [portsC])
      clear h7
      go_enter Try.func16, Try.ntmps16
      go_wp2
      go_ret
      exact ⟨by rw [HP.out]; rfl, alloc_below _ _⟩
    · have c9 := ne_eq h9
      by_cases h1 : kd < 1
      · have e1 : decide (kd < 1) = true := decide_eq_true h1
        have HP : Hid (portsC kd ar = 0) := hide (by unfold portsC; rw [if_neg h7, if_neg (by omega)])
        clear h7 h9 h1
        go_enter Try.func16, Try.ntmps16
        go_wp2
        go_ret
        exact ⟨by rw [HP.out]; rfl, alloc_below _ _⟩
      · have e1 : decide (kd < 1) = false := decide_eq_false h1
        by_cases h8 : 9 < kd
        · have e8 : decide (9 < kd) = true := decide_eq_true h8
          have HP : Hid (portsC kd ar = 0) := hide (by unfold portsC; rw [if_neg h7, if_neg (by omega)])
          clear h7 h9 h1 h8
          go_enter Try.func16, Try.ntmps16
          go_wp2
          go_ret
          exact ⟨by rw [HP.out]; rfl, alloc_below _ _⟩
        · have e8 : decide (9 < kd) = false := decide_eq_false h8
          have HP : Hid (portsC kd ar = 1) := hide (by unfold portsC; rw [if_neg h7, if_pos (by omega)])
          clear h7 h9 h1 h8
          go_enter Try.func16, Try.ntmps16
          go_wp2
          go_ret
          exact ⟨by rw [HP.out]; rfl, alloc_below _ _⟩

end Go.Proofs.Ytbcllgddogghbaa
