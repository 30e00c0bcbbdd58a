/-
  The reference's Ports and fields. No conditions.
-/
import Derived.Test.YtlfipmieaabagaaGreatGfl
namespace Go.Proofs.YtlfipmieaabagaaGreat
open Go.RowKit

set_option maxRecDepth 100000 in
set_option maxHeartbeats 4000000 in
theorem rports_any {W : World} {kd pt fn ar : Int} {ip : Option Addr} {n ic : Nat} :
    Calls Tryz.prog 85 #[.agg #[.int .i64 kd, .int .i64 pt, .int .i64 fn, .int .i64 ar, .slice ip n ic]] W fun e w' => e = .returned (.int .i64 (portsC kd ar)) ∧ Below W.heap.size W w' := by
  by_cases h7 : kd = 7
  · subst h7
    by_cases a2 : 2 ≤ ar
    · have e2 : decide (ar ≥ 2) = true := decide_eq_true a2
      by_cases a4 : ar ≤ 4
      · have e4 : decide (ar ≤ 4) = true := decide_eq_true a4
        have HP : Hid (portsC 7 ar = ar) := hide (by simp [portsC, a2, a4])
        clear a2 a4
        go_enter Tryz.func85, Tryz.ntmps85
        go_wp2
        go_ret
        exact ⟨by rw [HP.out]; rfl, alloc_below _ _⟩
      · have e4 : decide (ar ≤ 4) = false := decide_eq_false a4
        have HP : Hid (portsC 7 ar = 0) := hide (by simp [portsC, a4])
        clear a2 a4
        go_enter Tryz.func85, Tryz.ntmps85
        go_wp2
        go_ret
        exact ⟨by rw [HP.out]; rfl, alloc_below _ _⟩
    · have e2 : decide (ar ≥ 2) = false := decide_eq_false a2
      have HP : Hid (portsC 7 ar = 0) := hide (by simp [portsC, a2])
      clear a2
      go_enter Tryz.func85, Tryz.ntmps85
      go_wp2
      go_ret
      exact ⟨by rw [HP.out]; rfl, alloc_below _ _⟩
  · have c7 := ne_eq h7
    by_cases h9 : kd = 9
    · subst h9
      have HP : Hid (portsC 9 ar = 0) := hide (by simp [portsC])
      clear h7
      go_enter Tryz.func85, Tryz.ntmps85
      go_wp2
      go_ret
      exact ⟨by rw [HP.out]; rfl, alloc_below _ _⟩
    · have c9 := ne_eq h9
      by_cases h1 : kd < 1
      · have e1 : decide (kd < 1) = true := decide_eq_true h1
        have HP : Hid (portsC kd ar = 0) := hide (by unfold portsC; rw [if_neg h7, if_neg (by omega)])
        clear h7 h9 h1
        go_enter Tryz.func85, Tryz.ntmps85
        go_wp2
        go_ret
        exact ⟨by rw [HP.out]; rfl, alloc_below _ _⟩
      · have e1 : decide (kd < 1) = false := decide_eq_false h1
        by_cases h8 : 9 < kd
        · have e8 : decide (9 < kd) = true := decide_eq_true h8
          have HP : Hid (portsC kd ar = 0) := hide (by unfold portsC; rw [if_neg h7, if_neg (by omega)])
          clear h7 h9 h1 h8
          go_enter Tryz.func85, Tryz.ntmps85
          go_wp2
          go_ret
          exact ⟨by rw [HP.out]; rfl, alloc_below _ _⟩
        · have e8 : decide (9 < kd) = false := decide_eq_false h8
          have HP : Hid (portsC kd ar = 1) := hide (by unfold portsC; rw [if_neg h7, if_pos (by omega)])
          clear h7 h9 h1 h8
          go_enter Tryz.func85, Tryz.ntmps85
          go_wp2
          go_ret
          exact ⟨by rw [HP.out]; rfl, alloc_below _ _⟩

set_option maxRecDepth 100000 in
set_option maxHeartbeats 8000000 in
theorem rfields_any {W : World} {kd pt fn ar parts : Int} {ip : Option Addr} {n ic : Nat} :
    Calls Tryz.prog 82 #[.agg #[.int .i64 kd, .int .i64 pt, .int .i64 fn, .int .i64 ar, .slice ip n ic], .int .i64 parts] W fun e w' => e = .returned (.bool (fieldsC kd pt fn ar parts)) ∧ Below W.heap.size W w' := by
  by_cases k1 : kd = 1
  · subst k1
    by_cases p0 : 0 ≤ pt
    · have e1 : decide (pt ≥ 0) = true := decide_eq_true p0
      by_cases p1 : pt < parts
      · have e2 : decide (pt < parts) = true := decide_eq_true p1
        by_cases hf : fn = 0
        · subst hf
          by_cases ha : ar = 0
          · subst ha
            have HP : Hid (fieldsC 1 pt 0 0 parts = true) := hide (by simp [fieldsC, p0, p1])
            clear p0 p1
            go_enter Tryz.func82, Tryz.ntmps82
            go_wp2
            go_ret
            exact ⟨by rw [HP.out]; rfl, alloc_below _ _⟩
          · have e3 := ne_eq ha
            have HP : Hid (fieldsC 1 pt 0 ar parts = false) := hide (by simp [fieldsC, ha])
            clear p0 p1 ha
            go_enter Tryz.func82, Tryz.ntmps82
            go_wp2
            go_ret
            exact ⟨by rw [HP.out]; rfl, alloc_below _ _⟩
        · have e3 := ne_eq hf
          have HP : Hid (fieldsC 1 pt fn ar parts = false) := hide (by simp [fieldsC, hf])
          clear p0 p1 hf
          go_enter Tryz.func82, Tryz.ntmps82
          go_wp2
          go_ret
          exact ⟨by rw [HP.out]; rfl, alloc_below _ _⟩
      · have e2 : decide (pt < parts) = false := decide_eq_false p1
        have HP : Hid (fieldsC 1 pt fn ar parts = false) := hide (by simp [fieldsC]; omega)
        clear p0 p1
        go_enter Tryz.func82, Tryz.ntmps82
        go_wp2
        go_ret
        exact ⟨by rw [HP.out]; rfl, alloc_below _ _⟩
    · have e1 : decide (pt ≥ 0) = false := decide_eq_false p0
      have HP : Hid (fieldsC 1 pt fn ar parts = false) := hide (by simp [fieldsC]; omega)
      clear p0
      go_enter Tryz.func82, Tryz.ntmps82
      go_wp2
      go_ret
      exact ⟨by rw [HP.out]; rfl, alloc_below _ _⟩
  have c1 := ne_eq k1
  have c1' : (kd != 1) = true := by simpa using k1
  by_cases h0 : pt = 0
  rotate_left
  · have e0 : (pt != 0) = true := by simpa using h0
    have HP : Hid (fieldsC kd pt fn ar parts = false) := hide (by simp [fieldsC, k1, h0])
    clear k1 h0
    go_enter Tryz.func82, Tryz.ntmps82
    go_wp2
    go_ret
    exact ⟨by rw [HP.out]; rfl, alloc_below _ _⟩
  subst h0
  have HQ : Hid (fieldsC kd 0 fn ar parts = fitC kd fn ar) := hide (by simp [fieldsC, k1])
  by_cases k2 : kd = 2
  · subst k2
    clear c1 c1'
    by_cases f1 : 1 ≤ fn
    · have e1 : decide (fn ≥ 1) = true := decide_eq_true f1
      by_cases f4 : fn ≤ 4
      · have e4 : decide (fn ≤ 4) = true := decide_eq_true f4
        by_cases h3 : fn = 3
        · subst h3
          by_cases ha : ar = 0
          · subst ha
            have HP : Hid (fitC 2 3 0 = true) := hide (by decide)
            clear e1 e4 f1 f4
            go_enter Tryz.func82, Tryz.ntmps82
            go_wp2
            go_ret
            exact ⟨by rw [HQ.out, HP.out]; rfl, alloc_below _ _⟩
          · have e5 := ne_eq ha
            have HP : Hid (fitC 2 3 ar = false) := hide (by simp [fitC, ha])
            clear e1 e4 f1 f4 ha
            go_enter Tryz.func82, Tryz.ntmps82
            go_wp2
            go_ret
            exact ⟨by rw [HQ.out, HP.out]; rfl, alloc_below _ _⟩
        · have e3 : (fn != 3) = true := by simpa using h3
          have HP : Hid (fitC 2 fn ar = true) := hide (by simp [fitC, f1, f4, h3])
          clear f1 f4 h3
          go_enter Tryz.func82, Tryz.ntmps82
          go_wp2
          go_ret
          exact ⟨by rw [HQ.out, HP.out]; rfl, alloc_below _ _⟩
      · have e4 : decide (fn ≤ 4) = false := decide_eq_false f4
        have HP : Hid (fitC 2 fn ar = false) := hide (by simp [fitC]; omega)
        clear f1 f4
        go_enter Tryz.func82, Tryz.ntmps82
        go_wp2
        go_ret
        exact ⟨by rw [HQ.out, HP.out]; rfl, alloc_below _ _⟩
    · have e1 : decide (fn ≥ 1) = false := decide_eq_false f1
      have HP : Hid (fitC 2 fn ar = false) := hide (by simp [fitC]; omega)
      clear f1
      go_enter Tryz.func82, Tryz.ntmps82
      go_wp2
      go_ret
      exact ⟨by rw [HQ.out, HP.out]; rfl, alloc_below _ _⟩
  by_cases k3 : kd = 3
  · subst k3
    clear c1 c1'
    by_cases f1 : 1 ≤ fn
    · have e1 : decide (fn ≥ 1) = true := decide_eq_true f1
      by_cases f4 : fn ≤ 4
      · have e4 : decide (fn ≤ 4) = true := decide_eq_true f4
        by_cases h3 : fn = 3
        · subst h3
          by_cases ha : ar = 0
          · subst ha
            have HP : Hid (fitC 3 3 0 = true) := hide (by decide)
            clear e1 e4 f1 f4
            go_enter Tryz.func82, Tryz.ntmps82
            go_wp2
            go_ret
            exact ⟨by rw [HQ.out, HP.out]; rfl, alloc_below _ _⟩
          · have e5 := ne_eq ha
            have HP : Hid (fitC 3 3 ar = false) := hide (by simp [fitC, ha])
            clear e1 e4 f1 f4 ha
            go_enter Tryz.func82, Tryz.ntmps82
            go_wp2
            go_ret
            exact ⟨by rw [HQ.out, HP.out]; rfl, alloc_below _ _⟩
        · have e3 : (fn != 3) = true := by simpa using h3
          have HP : Hid (fitC 3 fn ar = true) := hide (by simp [fitC, f1, f4, h3])
          clear f1 f4 h3
          go_enter Tryz.func82, Tryz.ntmps82
          go_wp2
          go_ret
          exact ⟨by rw [HQ.out, HP.out]; rfl, alloc_below _ _⟩
      · have e4 : decide (fn ≤ 4) = false := decide_eq_false f4
        have HP : Hid (fitC 3 fn ar = false) := hide (by simp [fitC]; omega)
        clear f1 f4
        go_enter Tryz.func82, Tryz.ntmps82
        go_wp2
        go_ret
        exact ⟨by rw [HQ.out, HP.out]; rfl, alloc_below _ _⟩
    · have e1 : decide (fn ≥ 1) = false := decide_eq_false f1
      have HP : Hid (fitC 3 fn ar = false) := hide (by simp [fitC]; omega)
      clear f1
      go_enter Tryz.func82, Tryz.ntmps82
      go_wp2
      go_ret
      exact ⟨by rw [HQ.out, HP.out]; rfl, alloc_below _ _⟩
  by_cases k4 : kd = 4
  · subst k4
    clear c1 c1' k1 k2 k3
    by_cases f2 : fn = 2
    · subst f2
      have HP : Hid (fitC 4 2 ar = decide (1 ≤ ar)) := hide (by simp [fitC, keyC])
      go_enter Tryz.func82, Tryz.ntmps82
      go_wp2
      go_ret
      exact ⟨by rw [HQ.out, HP.out]; rfl, alloc_below _ _⟩
    have g2 := ne_eq f2
    by_cases f3 : fn = 3
    · subst f3
      have HP : Hid (fitC 4 3 ar = decide (1 ≤ ar)) := hide (by simp [fitC, keyC])
      clear f2 g2
      go_enter Tryz.func82, Tryz.ntmps82
      go_wp2
      go_ret
      exact ⟨by rw [HQ.out, HP.out]; rfl, alloc_below _ _⟩
    have g3 := ne_eq f3
    by_cases f4 : fn = 4
    · subst f4
      have HP : Hid (fitC 4 4 ar = true) := hide (by simp [fitC, keyC])
      clear f2 f3 g2 g3
      go_enter Tryz.func82, Tryz.ntmps82
      go_wp2
      go_ret
      exact ⟨by rw [HQ.out, HP.out]; rfl, alloc_below _ _⟩
    have g4 := ne_eq f4
    by_cases f1 : fn = 1
    · subst f1
      have HP : Hid (fitC 4 1 ar = (ar == 0)) := hide (by simp [fitC, keyC])
      clear f2 f3 f4 g2 g3 g4
      go_enter Tryz.func82, Tryz.ntmps82
      go_wp2
      go_ret
      exact ⟨by rw [HQ.out, HP.out]; rfl, alloc_below _ _⟩
    · have g1 := ne_eq f1
      have HP : Hid (fitC 4 fn ar = false) := hide (by simp [fitC, keyC, f1, f2, f3, f4])
      clear f1 f2 f3 f4
      go_enter Tryz.func82, Tryz.ntmps82
      go_wp2
      go_ret
      exact ⟨by rw [HQ.out, HP.out]; rfl, alloc_below _ _⟩
  by_cases k5 : kd = 5
  · subst k5
    clear c1 c1'
    by_cases f1 : 1 ≤ fn
    · have e1 : decide (fn ≥ 1) = true := decide_eq_true f1
      by_cases f5 : fn ≤ 5
      · have e5 : decide (fn ≤ 5) = true := decide_eq_true f5
        by_cases ha : ar = 0
        · subst ha
          have HP : Hid (fitC 5 fn 0 = true) := hide (by simp [fitC, f1, f5])
          clear f1 f5
          go_enter Tryz.func82, Tryz.ntmps82
          go_wp2
          go_ret
          exact ⟨by rw [HQ.out, HP.out]; rfl, alloc_below _ _⟩
        · have e6 := ne_eq ha
          have HP : Hid (fitC 5 fn ar = false) := hide (by simp [fitC, ha])
          clear f1 f5 ha
          go_enter Tryz.func82, Tryz.ntmps82
          go_wp2
          go_ret
          exact ⟨by rw [HQ.out, HP.out]; rfl, alloc_below _ _⟩
      · have e5 : decide (fn ≤ 5) = false := decide_eq_false f5
        have HP : Hid (fitC 5 fn ar = false) := hide (by simp [fitC]; omega)
        clear f1 f5
        go_enter Tryz.func82, Tryz.ntmps82
        go_wp2
        go_ret
        exact ⟨by rw [HQ.out, HP.out]; rfl, alloc_below _ _⟩
    · have e1 : decide (fn ≥ 1) = false := decide_eq_false f1
      have HP : Hid (fitC 5 fn ar = false) := hide (by simp [fitC]; omega)
      clear f1
      go_enter Tryz.func82, Tryz.ntmps82
      go_wp2
      go_ret
      exact ⟨by rw [HQ.out, HP.out]; rfl, alloc_below _ _⟩
  by_cases k6 : kd = 6
  · subst k6
    clear c1 c1'
    by_cases f1 : 1 ≤ fn
    · have e1 : decide (fn ≥ 1) = true := decide_eq_true f1
      by_cases f5 : fn ≤ 5
      · have e5 : decide (fn ≤ 5) = true := decide_eq_true f5
        by_cases a1 : 1 ≤ ar
        · have e6 : decide (ar ≥ 1) = true := decide_eq_true a1
          have HP : Hid (fitC 6 fn ar = decide (ar ≤ 64)) := hide (by simp [fitC, f1, f5, a1])
          clear f1 f5 a1
          go_enter Tryz.func82, Tryz.ntmps82
          go_wp2
          go_ret
          exact ⟨by rw [HQ.out, HP.out]; rfl, alloc_below _ _⟩
        · have e6 : decide (ar ≥ 1) = false := decide_eq_false a1
          have HP : Hid (fitC 6 fn ar = false) := hide (by simp [fitC]; omega)
          clear f1 f5 a1
          go_enter Tryz.func82, Tryz.ntmps82
          go_wp2
          go_ret
          exact ⟨by rw [HQ.out, HP.out]; rfl, alloc_below _ _⟩
      · have e5 : decide (fn ≤ 5) = false := decide_eq_false f5
        have HP : Hid (fitC 6 fn ar = false) := hide (by simp [fitC]; omega)
        clear f1 f5
        go_enter Tryz.func82, Tryz.ntmps82
        go_wp2
        go_ret
        exact ⟨by rw [HQ.out, HP.out]; rfl, alloc_below _ _⟩
    · have e1 : decide (fn ≥ 1) = false := decide_eq_false f1
      have HP : Hid (fitC 6 fn ar = false) := hide (by simp [fitC]; omega)
      clear f1
      go_enter Tryz.func82, Tryz.ntmps82
      go_wp2
      go_ret
      exact ⟨by rw [HQ.out, HP.out]; rfl, alloc_below _ _⟩
  by_cases k7 : kd = 7
  · subst k7
    clear c1 c1'
    by_cases hf : fn = 0
    · subst hf
      by_cases a2 : 2 ≤ ar
      · have e2 : decide (ar ≥ 2) = true := decide_eq_true a2
        have HP : Hid (fitC 7 0 ar = decide (ar ≤ 4)) := hide (by simp [fitC, a2])
        clear a2
        go_enter Tryz.func82, Tryz.ntmps82
        go_wp2
        go_ret
        exact ⟨by rw [HQ.out, HP.out]; rfl, alloc_below _ _⟩
      · have e2 : decide (ar ≥ 2) = false := decide_eq_false a2
        have HP : Hid (fitC 7 0 ar = false) := hide (by simp [fitC]; omega)
        clear a2
        go_enter Tryz.func82, Tryz.ntmps82
        go_wp2
        go_ret
        exact ⟨by rw [HQ.out, HP.out]; rfl, alloc_below _ _⟩
    · have e1 := ne_eq hf
      have HP : Hid (fitC 7 fn ar = false) := hide (by simp [fitC, hf])
      clear hf
      go_enter Tryz.func82, Tryz.ntmps82
      go_wp2
      go_ret
      exact ⟨by rw [HQ.out, HP.out]; rfl, alloc_below _ _⟩
  have c2 := ne_eq k2
  have c3 := ne_eq k3
  have c4 := ne_eq k4
  have c5 := ne_eq k5
  have c6 := ne_eq k6
  have c7 := ne_eq k7
  by_cases hf : fn = 0
  · subst hf
    have HP : Hid (fitC kd 0 ar = (ar == 0)) := hide (by simp [fitC, k2, k3, k4, k5, k6, k7, Bool.beq_eq_decide_eq])
    clear k1 k2 k3 k4 k5 k6 k7
    go_enter Tryz.func82, Tryz.ntmps82
    go_wp2
    go_ret
    exact ⟨by rw [HQ.out, HP.out]; rfl, alloc_below _ _⟩
  · have e1 := ne_eq hf
    have HP : Hid (fitC kd fn ar = false) := hide (by simp [fitC, k2, k3, k4, k5, k6, k7, hf])
    clear k1 k2 k3 k4 k5 k6 k7 hf
    go_enter Tryz.func82, Tryz.ntmps82
    go_wp2
    go_ret
    exact ⟨by rw [HQ.out, HP.out]; rfl, alloc_below _ _⟩
end Go.Proofs.YtlfipmieaabagaaGreat
