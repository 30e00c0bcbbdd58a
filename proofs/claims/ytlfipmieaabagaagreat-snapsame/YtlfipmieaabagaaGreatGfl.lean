/-
  Which fields an operator may have: the program's functionFits, keyFits, fieldsFit; the reference's Ports and fields. No conditions but on the number of partitions.
-/
import Derived.Test.YtlfipmieaabagaaGreatGrm
namespace Go.Proofs.YtlfipmieaabagaaGreat
open Go.RowKit

def keyC (fn ar : Int) : Bool := if fn = 1 then ar == 0 else if fn = 2 ∨ fn = 3 then decide (1 ≤ ar) else fn == 4
def fitC (kd fn ar : Int) : Bool :=
  if kd = 2 ∨ kd = 3 then decide (1 ≤ fn ∧ fn ≤ 4 ∧ (fn ≠ 3 ∨ ar = 0))
  else if kd = 4 then keyC fn ar
  else if kd = 5 then decide (1 ≤ fn ∧ fn ≤ 5 ∧ ar = 0)
  else if kd = 6 then decide (1 ≤ fn ∧ fn ≤ 5 ∧ 1 ≤ ar ∧ ar ≤ 64)
  else if kd = 7 then decide (fn = 0 ∧ 2 ≤ ar ∧ ar ≤ 4)
  else decide (fn = 0 ∧ ar = 0)
def fieldsC (kd pt fn ar parts : Int) : Bool :=
  if kd = 1 then decide (0 ≤ pt ∧ pt < parts ∧ fn = 0 ∧ ar = 0) else pt == 0 && fitC kd fn ar
theorem bt {p q : Prop} [Decidable p] [Decidable q] (hp : p) (hq : q) : (decide p && decide q) = true := by simp [hp, hq]
theorem bf {p q : Prop} [Decidable p] [Decidable q] (h : ¬ (p ∧ q)) : (decide p && decide q) = false := by
  cases hb : (decide p && decide q) with
  | false => rfl
  | true => exact absurd (by simpa using hb) h

set_option maxRecDepth 100000 in
set_option maxHeartbeats 2000000 in
theorem key_any {W : World} {fn ar : Int} : Calls Tryz.prog 130 #[.int .i64 fn, .int .i64 ar] W fun e w' => e = .returned (.bool (keyC fn ar)) ∧ w' = W := by
  by_cases h1 : fn = 1
  · subst h1
    go_enter Tryz.func130, Tryz.ntmps130
    go_wp2
    go_ret
    exact ⟨by simp [keyC], rfl⟩
  by_cases h2 : fn = 2
  · subst h2
    go_enter Tryz.func130, Tryz.ntmps130
    go_wp2
    go_ret
    exact ⟨by simp [keyC], rfl⟩
  by_cases h3 : fn = 3
  · subst h3
    go_enter Tryz.func130, Tryz.ntmps130
    go_wp2
    go_ret
    exact ⟨by simp [keyC], rfl⟩
  · have e1 := ne_eq h1
    have e2 := ne_eq h2
    have e3 := ne_eq h3
    go_enter Tryz.func130, Tryz.ntmps130
    go_wp2
    go_ret
    exact ⟨by simp [keyC, h1, h2, h3], rfl⟩

set_option maxRecDepth 100000 in
set_option maxHeartbeats 4000000 in
theorem fit_any {W : World} {kd pt fn ar : Int} {ip : Option Addr} {n ic : Nat} :
    Calls Tryz.prog 129 #[.agg #[.int .i64 kd, .int .i64 pt, .int .i64 fn, .int .i64 ar, .slice ip n ic]] W fun e w' => e = .returned (.bool (fitC kd fn ar)) ∧ Below W.heap.size W w' := by
  by_cases k2 : kd = 2
  · subst k2
    by_cases hw : 1 ≤ fn ∧ fn ≤ 4
    · by_cases h3 : fn = 3
      · subst h3
        by_cases ha : ar = 0
        · subst ha
          have HP : Hid (fitC 2 3 0 = true) := hide (by decide)
          clear hw
          go_enter Tryz.func129, Tryz.ntmps129
          go_wp2_with fail
          refine within_any.mono ?_
          rintro _ _ ⟨rfl, rfl⟩
          go_wp2
          go_ret
          exact ⟨by rw [HP.out]; rfl, alloc_below _ _⟩
        · have e1 := ne_eq ha
          have HP : Hid (fitC 2 3 ar = false) := hide (by simp [fitC, ha])
          clear hw ha
          go_enter Tryz.func129, Tryz.ntmps129
          go_wp2_with fail
          refine within_any.mono ?_
          rintro _ _ ⟨rfl, rfl⟩
          go_wp2
          go_ret
          exact ⟨by rw [HP.out]; rfl, alloc_below _ _⟩
      · have e3 : (fn != 3) = true := by simpa using h3
        have w1 := bt hw.1 hw.2
        have HP : Hid (fitC 2 fn ar = true) := hide (by simp [fitC, hw, h3])
        clear hw h3
        go_enter Tryz.func129, Tryz.ntmps129
        go_wp2_with fail
        refine within_any.mono ?_
        rintro _ _ ⟨rfl, rfl⟩
        go_wp2
        go_ret
        exact ⟨by rw [HP.out]; rfl, alloc_below _ _⟩
    · have w1 := bf hw
      have HP : Hid (fitC 2 fn ar = false) := hide (by simp [fitC]; omega)
      clear hw
      go_enter Tryz.func129, Tryz.ntmps129
      go_wp2_with fail
      refine within_any.mono ?_
      rintro _ _ ⟨rfl, rfl⟩
      go_wp2
      go_ret
      exact ⟨by rw [HP.out]; rfl, alloc_below _ _⟩
  by_cases k3 : kd = 3
  · subst k3
    by_cases hw : 1 ≤ fn ∧ fn ≤ 4
    · by_cases h3 : fn = 3
      · subst h3
        by_cases ha : ar = 0
        · subst ha
          have HP : Hid (fitC 3 3 0 = true) := hide (by decide)
          clear hw
          go_enter Tryz.func129, Tryz.ntmps129
          go_wp2_with fail
          refine within_any.mono ?_
          rintro _ _ ⟨rfl, rfl⟩
          go_wp2
          go_ret
          exact ⟨by rw [HP.out]; rfl, alloc_below _ _⟩
        · have e1 := ne_eq ha
          have HP : Hid (fitC 3 3 ar = false) := hide (by simp [fitC, ha])
          clear hw ha
          go_enter Tryz.func129, Tryz.ntmps129
          go_wp2_with fail
          refine within_any.mono ?_
          rintro _ _ ⟨rfl, rfl⟩
          go_wp2
          go_ret
          exact ⟨by rw [HP.out]; rfl, alloc_below _ _⟩
      · have e3 : (fn != 3) = true := by simpa using h3
        have w1 := bt hw.1 hw.2
        have HP : Hid (fitC 3 fn ar = true) := hide (by simp [fitC, hw, h3])
        clear hw h3
        go_enter Tryz.func129, Tryz.ntmps129
        go_wp2_with fail
        refine within_any.mono ?_
        rintro _ _ ⟨rfl, rfl⟩
        go_wp2
        go_ret
        exact ⟨by rw [HP.out]; rfl, alloc_below _ _⟩
    · have w1 := bf hw
      have HP : Hid (fitC 3 fn ar = false) := hide (by simp [fitC]; omega)
      clear hw
      go_enter Tryz.func129, Tryz.ntmps129
      go_wp2_with fail
      refine within_any.mono ?_
      rintro _ _ ⟨rfl, rfl⟩
      go_wp2
      go_ret
      exact ⟨by rw [HP.out]; rfl, alloc_below _ _⟩
  by_cases k4 : kd = 4
  · subst k4
    have HP : Hid (fitC 4 fn ar = keyC fn ar) := hide (by simp [fitC])
    go_enter Tryz.func129, Tryz.ntmps129
    go_wp2_with fail
    refine key_any.mono ?_
    rintro _ _ ⟨rfl, rfl⟩
    go_wp2
    go_ret
    exact ⟨by rw [HP.out]; rfl, alloc_below _ _⟩
  by_cases k5 : kd = 5
  · subst k5
    by_cases hw : 1 ≤ fn ∧ fn ≤ 5
    · have w1 := bt hw.1 hw.2
      by_cases ha : ar = 0
      · subst ha
        have HP : Hid (fitC 5 fn 0 = true) := hide (by simp [fitC, hw])
        clear hw
        go_enter Tryz.func129, Tryz.ntmps129
        go_wp2_with fail
        refine within_any.mono ?_
        rintro _ _ ⟨rfl, rfl⟩
        go_wp2
        go_ret
        exact ⟨by rw [HP.out]; rfl, alloc_below _ _⟩
      · have e1 := ne_eq ha
        have HP : Hid (fitC 5 fn ar = false) := hide (by simp [fitC, ha])
        clear hw ha
        go_enter Tryz.func129, Tryz.ntmps129
        go_wp2_with fail
        refine within_any.mono ?_
        rintro _ _ ⟨rfl, rfl⟩
        go_wp2
        go_ret
        exact ⟨by rw [HP.out]; rfl, alloc_below _ _⟩
    · have w1 := bf hw
      have HP : Hid (fitC 5 fn ar = false) := hide (by simp [fitC]; omega)
      clear hw
      go_enter Tryz.func129, Tryz.ntmps129
      go_wp2_with fail
      refine within_any.mono ?_
      rintro _ _ ⟨rfl, rfl⟩
      go_wp2
      go_ret
      exact ⟨by rw [HP.out]; rfl, alloc_below _ _⟩
  by_cases k6 : kd = 6
  · subst k6
    by_cases hw : 1 ≤ fn ∧ fn ≤ 5
    · have w1 := bt hw.1 hw.2
      have HP : Hid (fitC 6 fn ar = (decide (1 ≤ ar) && decide (ar ≤ 64))) := hide (by simp [fitC, hw])
      clear hw
      go_enter Tryz.func129, Tryz.ntmps129
      go_wp2_with fail
      refine within_any.mono ?_
      rintro _ _ ⟨rfl, rfl⟩
      go_wp2_with fail
      refine within64_any.mono ?_
      rintro _ _ ⟨rfl, rfl⟩
      go_wp2
      go_ret
      exact ⟨by rw [HP.out]; rfl, alloc_below _ _⟩
    · have w1 := bf hw
      have HP : Hid (fitC 6 fn ar = false) := hide (by simp [fitC]; omega)
      clear hw
      go_enter Tryz.func129, Tryz.ntmps129
      go_wp2_with fail
      refine within_any.mono ?_
      rintro _ _ ⟨rfl, rfl⟩
      go_wp2
      go_ret
      exact ⟨by rw [HP.out]; rfl, alloc_below _ _⟩
  by_cases k7 : kd = 7
  · subst k7
    by_cases hf : fn = 0
    · subst hf
      have HP : Hid (fitC 7 0 ar = (decide (2 ≤ ar) && decide (ar ≤ 4))) := hide (by simp [fitC])
      go_enter Tryz.func129, Tryz.ntmps129
      go_wp2_with fail
      refine within64_any.mono ?_
      rintro _ _ ⟨rfl, rfl⟩
      go_wp2
      go_ret
      exact ⟨by rw [HP.out]; rfl, alloc_below _ _⟩
    · have e1 := ne_eq hf
      have HP : Hid (fitC 7 fn ar = false) := hide (by simp [fitC, hf])
      clear hf
      go_enter Tryz.func129, Tryz.ntmps129
      go_wp2
      go_ret
      exact ⟨by rw [HP.out]; rfl, alloc_below _ _⟩
  have c2 := ne_eq k2
  have c3 := ne_eq k3
  have c4 := ne_eq k4
  have c5 := ne_eq k5
  have c6 := ne_eq k6
  have c7 := ne_eq k7
  by_cases hf : fn = 0
  · subst hf
    by_cases ha : ar = 0
    · subst ha
      have HP : Hid (fitC kd 0 0 = true) := hide (by simp [fitC, k2, k3, k4, k5, k6, k7])
      clear k2 k3 k4 k5 k6 k7
      go_enter Tryz.func129, Tryz.ntmps129
      go_wp2
      go_ret
      exact ⟨by rw [HP.out]; rfl, alloc_below _ _⟩
    · have e1 := ne_eq ha
      have HP : Hid (fitC kd 0 ar = false) := hide (by simp [fitC, k2, k3, k4, k5, k6, k7, ha])
      clear k2 k3 k4 k5 k6 k7 ha
      go_enter Tryz.func129, Tryz.ntmps129
      go_wp2
      go_ret
      exact ⟨by rw [HP.out]; rfl, alloc_below _ _⟩
  · have e1 := ne_eq hf
    have HP : Hid (fitC kd fn ar = false) := hide (by simp [fitC, k2, k3, k4, k5, k6, k7, hf])
    clear k2 k3 k4 k5 k6 k7 hf
    go_enter Tryz.func129, Tryz.ntmps129
    go_wp2
    go_ret
    exact ⟨by rw [HP.out]; rfl, alloc_below _ _⟩

set_option maxRecDepth 100000 in
set_option maxHeartbeats 4000000 in
theorem fields_any {W : World} {kd pt fn ar parts : Int} {ip : Option Addr} {n ic : Nat} (hp1 : 1 ≤ parts) (hp2 : parts ≤ 4) :
    Calls Tryz.prog 118 #[.agg #[.int .i64 kd, .int .i64 pt, .int .i64 fn, .int .i64 ar, .slice ip n ic], .int .i64 parts] W fun e w' => e = .returned (.bool (fieldsC kd pt fn ar parts)) ∧ Below W.heap.size W w' := by
  by_cases k1 : kd = 1
  · subst k1
    by_cases hw : 0 ≤ pt ∧ pt ≤ parts - 1
    · have w1 := bt hw.1 hw.2
      by_cases hf : fn = 0
      · subst hf
        by_cases ha : ar = 0
        · subst ha
          have HP : Hid (fieldsC 1 pt 0 0 parts = true) := hide (by simp [fieldsC]; omega)
          clear hw
          go_enter Tryz.func118, Tryz.ntmps118
          go_wp2_with fail
          refine within_any.mono ?_
          rintro _ _ ⟨rfl, rfl⟩
          go_wp2
          go_ret
          exact ⟨by rw [HP.out]; rfl, alloc_below _ _⟩
        · have e1 := ne_eq ha
          have HP : Hid (fieldsC 1 pt 0 ar parts = false) := hide (by simp [fieldsC, ha])
          clear hw ha
          go_enter Tryz.func118, Tryz.ntmps118
          go_wp2_with fail
          refine within_any.mono ?_
          rintro _ _ ⟨rfl, rfl⟩
          go_wp2
          go_ret
          exact ⟨by rw [HP.out]; rfl, alloc_below _ _⟩
      · have e1 := ne_eq hf
        have HP : Hid (fieldsC 1 pt fn ar parts = false) := hide (by simp [fieldsC, hf])
        clear hw hf
        go_enter Tryz.func118, Tryz.ntmps118
        go_wp2_with fail
        refine within_any.mono ?_
        rintro _ _ ⟨rfl, rfl⟩
        go_wp2
        go_ret
        exact ⟨by rw [HP.out]; rfl, alloc_below _ _⟩
    · have w1 := bf hw
      have HP : Hid (fieldsC 1 pt fn ar parts = false) := hide (by simp [fieldsC]; omega)
      clear hw
      go_enter Tryz.func118, Tryz.ntmps118
      go_wp2_with fail
      refine within_any.mono ?_
      rintro _ _ ⟨rfl, rfl⟩
      go_wp2
      go_ret
      exact ⟨by rw [HP.out]; rfl, alloc_below _ _⟩
  · have c1 := ne_eq k1
    by_cases h0 : pt = 0
    · subst h0
      have HP : Hid (fieldsC kd 0 fn ar parts = fitC kd fn ar) := hide (by simp [fieldsC, k1])
      have hb0 := alloc_below W (.cells #[.int .i64 kd, .int .i64 0, .int .i64 fn, .int .i64 ar, .slice ip n ic] 95)
      have HF := hide (fit_any (W := W.alloc (.cells #[.int .i64 kd, .int .i64 0, .int .i64 fn, .int .i64 ar, .slice ip n ic] 95)) (kd := kd) (pt := 0) (fn := fn) (ar := ar) (ip := ip) (n := n) (ic := ic))
      clear k1
      go_enter Tryz.func118, Tryz.ntmps118
      go_wp2_with fail
      refine HF.out.mono ?_
      rintro _ w1 ⟨rfl, b1⟩
      have HB : Hid (Below W.heap.size W w1) := hide (hb0.trans (b1.mono (by simp)))
      clear b1 hb0 HF
      go_wp2
      go_ret
      exact ⟨by rw [HP.out]; rfl, HB.out⟩
    · have e1 := ne_eq h0
      have HP : Hid (fieldsC kd pt fn ar parts = false) := hide (by simp [fieldsC, k1, h0])
      clear k1 h0
      go_enter Tryz.func118, Tryz.ntmps118
      go_wp2
      go_ret
      exact ⟨by rw [HP.out]; rfl, alloc_below _ _⟩
end Go.Proofs.YtlfipmieaabagaaGreat
