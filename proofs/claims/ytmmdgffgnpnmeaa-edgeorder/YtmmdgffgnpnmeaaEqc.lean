/-
  Which events may be: the program's and the reference's Check. No conditions.
-/
import Derived.Test.YtmmdgffgnpnmeaaEqm
namespace Go.Proofs.Ytmmdgffgnpnmeaa
open Go.RowKit

theorem below2 (w : World) (o1 o2 : Obj) : Below w.heap.size w ((w.alloc o1).alloc o2) := (alloc_below w o1).trans ((alloc_below _ o2).mono (by simp))
theorem ne_eq {a b : Int} (h : a ≠ b) : (a == b) = false := by simpa using h
set_option maxRecDepth 100000 in
set_option maxHeartbeats 2000000 in
theorem check_any {W : World} {kd ky vl id : Int} : Calls Try.prog 21 #[.agg #[.int .i64 kd, .int .i64 ky, .int .i64 vl, .int .i64 id]] W fun e w' => e = .returned (.int .i64 (checkE ⟨kd, ky, vl, id⟩)) ∧ Below W.heap.size W w' := by
  by_cases h1 : kd = 1
  · subst h1
    by_cases h2 : id = 0
    · have HQ : Hid (checkE ⟨1, ky, vl, id⟩ = 0) := hide (check_yes (.inl ⟨rfl, h2⟩))
      subst h2
      go_enter Try.func21, Try.ntmps21
      go_wp2
      go_ret
      exact ⟨by rw [HQ.out]; rfl, alloc_below _ _⟩
    · have HQ : Hid (checkE ⟨1, ky, vl, id⟩ = 1) := hide (check_no (by simp [fits]; omega))
      have e1 := ne_eq h2
      clear h2
      go_enter Try.func21, Try.ntmps21
      go_wp2
      go_ret
      exact ⟨by rw [HQ.out]; rfl, alloc_below _ _⟩
  · by_cases h2 : kd = 2
    · subst h2
      by_cases h3 : ky = 0
      · subst h3
        by_cases h4 : vl = 0
        · subst h4
          by_cases h5 : 1 ≤ id
          · have e5 : decide (id ≥ 1) = true := decide_eq_true h5
            by_cases h6 : id ≤ 9007199254740992
            · have HQ : Hid (checkE ⟨2, 0, 0, id⟩ = 0) := hide (check_yes (.inr ⟨rfl, rfl, rfl, h5, h6⟩))
              have e6 : decide (id ≤ 9007199254740992) = true := decide_eq_true h6
              clear h1 h5 h6
              go_enter Try.func21, Try.ntmps21
              go_wp2
              go_ret
              exact ⟨by rw [HQ.out]; rfl, alloc_below _ _⟩
            · have HQ : Hid (checkE ⟨2, 0, 0, id⟩ = 1) := hide (check_no (by simp [fits]; omega))
              have e6 : decide (id ≤ 9007199254740992) = false := decide_eq_false h6
              clear h1 h5 h6
              go_enter Try.func21, Try.ntmps21
              go_wp2
              go_ret
              exact ⟨by rw [HQ.out]; rfl, alloc_below _ _⟩
          · have HQ : Hid (checkE ⟨2, 0, 0, id⟩ = 1) := hide (check_no (by simp [fits]; omega))
            have e5 : decide (id ≥ 1) = false := decide_eq_false h5
            clear h1 h5
            go_enter Try.func21, Try.ntmps21
            go_wp2
            go_ret
            exact ⟨by rw [HQ.out]; rfl, alloc_below _ _⟩
        · have HQ : Hid (checkE ⟨2, 0, vl, id⟩ = 1) := hide (check_no (by simp [fits, h4]))
          have e1 := ne_eq h4
          go_enter Try.func21, Try.ntmps21
          go_wp2
          go_ret
          exact ⟨by rw [HQ.out]; rfl, alloc_below _ _⟩
      · have HQ : Hid (checkE ⟨2, ky, vl, id⟩ = 1) := hide (check_no (by simp [fits, h3]))
        have e1 := ne_eq h3
        go_enter Try.func21, Try.ntmps21
        go_wp2
        go_ret
        exact ⟨by rw [HQ.out]; rfl, alloc_below _ _⟩
    · have HQ : Hid (checkE ⟨kd, ky, vl, id⟩ = 1) := hide (check_no (by simp [fits, h1, h2]))
      have e1 := ne_eq h1
      have e2 := ne_eq h2
      clear h1 h2
      go_enter Try.func21, Try.ntmps21
      go_wp2
      go_ret
      exact ⟨by rw [HQ.out]; rfl, alloc_below _ _⟩
set_option maxRecDepth 100000 in
set_option maxHeartbeats 2000000 in
theorem rcheck_any {W : World} {kd ky vl id : Int} : Calls Try.prog 22 #[.agg #[.int .i64 kd, .int .i64 ky, .int .i64 vl, .int .i64 id]] W fun e w' => e = .returned (.int .i64 (checkE ⟨kd, ky, vl, id⟩)) ∧ Below W.heap.size W w' := by
  by_cases h1 : kd = 1
  · subst h1
    by_cases h2 : id = 0
    · have HQ : Hid (checkE ⟨1, ky, vl, id⟩ = 0) := hide (check_yes (.inl ⟨rfl, h2⟩))
      subst h2
      go_enter Try.func22, Try.ntmps22
      go_wp2
      go_ret
      exact ⟨by rw [HQ.out]; rfl, below2 _ _ _⟩
    · have HQ : Hid (checkE ⟨1, ky, vl, id⟩ = 1) := hide (check_no (by simp [fits]; omega))
      have e1 := ne_eq h2
      clear h2
      go_enter Try.func22, Try.ntmps22
      go_wp2
      go_ret
      exact ⟨by rw [HQ.out]; rfl, below2 _ _ _⟩
  · by_cases h2 : kd = 2
    · subst h2
      by_cases h3 : ky = 0
      · subst h3
        by_cases h4 : vl = 0
        · subst h4
          by_cases h5 : 1 ≤ id
          · have e5 : decide (id ≥ 1) = true := decide_eq_true h5
            by_cases h6 : id ≤ 9007199254740992
            · have HQ : Hid (checkE ⟨2, 0, 0, id⟩ = 0) := hide (check_yes (.inr ⟨rfl, rfl, rfl, h5, h6⟩))
              have e6 : decide (id ≤ 9007199254740992) = true := decide_eq_true h6
              clear h1 h5 h6
              go_enter Try.func22, Try.ntmps22
              go_wp2
              go_ret
              exact ⟨by rw [HQ.out]; rfl, below2 _ _ _⟩
            · have HQ : Hid (checkE ⟨2, 0, 0, id⟩ = 1) := hide (check_no (by simp [fits]; omega))
              have e6 : decide (id ≤ 9007199254740992) = false := decide_eq_false h6
              clear h1 h5 h6
              go_enter Try.func22, Try.ntmps22
              go_wp2
              go_ret
              exact ⟨by rw [HQ.out]; rfl, below2 _ _ _⟩
          · have HQ : Hid (checkE ⟨2, 0, 0, id⟩ = 1) := hide (check_no (by simp [fits]; omega))
            have e5 : decide (id ≥ 1) = false := decide_eq_false h5
            clear h1 h5
            go_enter Try.func22, Try.ntmps22
            go_wp2
            go_ret
            exact ⟨by rw [HQ.out]; rfl, below2 _ _ _⟩
        · have HQ : Hid (checkE ⟨2, 0, vl, id⟩ = 1) := hide (check_no (by simp [fits, h4]))
          have e1 := ne_eq h4
          go_enter Try.func22, Try.ntmps22
          go_wp2
          go_ret
          exact ⟨by rw [HQ.out]; rfl, below2 _ _ _⟩
      · have HQ : Hid (checkE ⟨2, ky, vl, id⟩ = 1) := hide (check_no (by simp [fits, h3]))
        have e1 := ne_eq h3
        go_enter Try.func22, Try.ntmps22
        go_wp2
        go_ret
        exact ⟨by rw [HQ.out]; rfl, below2 _ _ _⟩
    · have HQ : Hid (checkE ⟨kd, ky, vl, id⟩ = 1) := hide (check_no (by simp [fits, h1, h2]))
      have e1 := ne_eq h1
      have e2 := ne_eq h2
      clear h1 h2
      go_enter Try.func22, Try.ntmps22
      go_wp2
      go_ret
      exact ⟨by rw [HQ.out]; rfl, below2 _ _ _⟩
end Go.Proofs.Ytmmdgffgnpnmeaa
