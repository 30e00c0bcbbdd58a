/-
  The reference's leases: region, num, more, New, Check. The condition of more: that its first number is a time.
-/
import Derived.Test.YtegffdmlkbdcdaaLsc
namespace Go.Proofs.Ytegffdmlkbdcdaa.Op
open Go.RowKit

theorem rreg_any {W : World} {n : Int} : Calls Try.prog 54 #[.int .i64 n] W fun e w' => e = .returned (.bool (regC n)) ∧ w' = W := by
  by_cases h0 : 0 ≤ n
  · have d0 : decide (n ≥ 0) = true := decide_eq_true h0
    by_cases h1 : n < 2
    · have d1 : decide (n < 2) = true := decide_eq_true h1
      have HE : Hid (regC n = true) := hide (decide_eq_true ⟨h0, h1⟩)
      clear h0 h1
      go_enter Try.func54, Try.ntmps54
      go_wp2
      go_ret
      exact ⟨by rw [HE.out]; rfl, rfl⟩
    · have d1 : decide (n < 2) = false := decide_eq_false h1
      have HE : Hid (regC n = false) := hide (decide_eq_false (by omega))
      clear h0 h1
      go_enter Try.func54, Try.ntmps54
      go_wp2
      go_ret
      exact ⟨by rw [HE.out]; rfl, rfl⟩
  · have d0 : decide (n ≥ 0) = false := decide_eq_false h0
    have HE : Hid (regC n = false) := hide (decide_eq_false (by omega))
    clear h0
    go_enter Try.func54, Try.ntmps54
    go_wp2
    go_ret
    exact ⟨by rw [HE.out]; rfl, rfl⟩
theorem rnumb_any {W : World} {n : Int} : Calls Try.prog 55 #[.int .i64 n] W fun e w' => e = .returned (.bool (numC n)) ∧ w' = W := by
  by_cases h0 : 0 ≤ n
  · have d0 : decide (n ≥ 0) = true := decide_eq_true h0
    by_cases h1 : n ≤ 9007199254740992
    · have d1 : decide (n ≤ 9007199254740992) = true := decide_eq_true h1
      have HE : Hid (numC n = true) := hide (decide_eq_true ⟨h0, h1⟩)
      clear h0 h1
      go_enter Try.func55, Try.ntmps55
      go_wp2
      go_ret
      exact ⟨by rw [HE.out]; rfl, rfl⟩
    · have d1 : decide (n ≤ 9007199254740992) = false := decide_eq_false h1
      have HE : Hid (numC n = false) := hide (decide_eq_false (by omega))
      clear h0 h1
      go_enter Try.func55, Try.ntmps55
      go_wp2
      go_ret
      exact ⟨by rw [HE.out]; rfl, rfl⟩
  · have d0 : decide (n ≥ 0) = false := decide_eq_false h0
    have HE : Hid (numC n = false) := hide (decide_eq_false (by omega))
    clear h0
    go_enter Try.func55, Try.ntmps55
    go_wp2
    go_ret
    exact ⟨by rw [HE.out]; rfl, rfl⟩
theorem more_any {W : World} {c n : Int} (h0 : 0 ≤ c) (h1 : c ≤ 9007199254740992) (hn : 0 < n) : Calls Try.prog 49 #[.int .i64 c, .int .i64 n] W fun e w' => e = .returned (.int .i64 (laterC c n)) ∧ w' = W := by
  have e1 : IntKind.i64.wrap (9007199254740992 - c) = 9007199254740992 - c := by rw [IntKind.wrap_i64]; omega
  by_cases h : n > 9007199254740992 - c
  · have HQ : Hid (laterC c n = 9007199254740992) := hide (by unfold laterC; omega)
    have d1 : decide (n > 9007199254740992 - c) = true := decide_eq_true h
    clear h h0 h1 hn
    go_enter Try.func49, Try.ntmps49
    go_wp2
    go_ret
    exact ⟨by rw [HQ.out]; rfl, rfl⟩
  · have HQ : Hid (laterC c n = c + n) := hide (by unfold laterC; omega)
    have e2 : IntKind.i64.wrap (c + n) = c + n := by rw [IntKind.wrap_i64]; omega
    have d1 : decide (n > 9007199254740992 - c) = false := decide_eq_false h
    clear h h0 h1 hn
    go_enter Try.func49, Try.ntmps49
    go_wp2
    go_ret
    exact ⟨by rw [HQ.out]; rfl, rfl⟩
theorem rnew_any {W : World} : Calls Try.prog 17 #[] W fun e w' => e = .returned (LE.val ⟨-1, -1, 0, 0, 0, false⟩) ∧ Below W.heap.size W w' := by
  go_enter Try.func17, Try.ntmps17
  go_wp2
  refine bodyPost_ret (results_cell_row rfl _ _ W.heap.size 39 _ _ _ rfl (heap_alloc_new W _) Try.underlying39 rfl (by kernel_rfl)) rfl ?_
  exact ⟨rfl, alloc_belowL _ _⟩
end Go.Proofs.Ytegffdmlkbdcdaa.Op
