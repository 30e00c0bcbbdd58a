/-
  How Open of the program's sink compares two names.
-/
import Derived.Test.YtboofnkajjnmeaaSks
namespace Go.Proofs.Ytboofnkajjnmeaa
open Go.RowKit Go.Shelf Go.Sort Go.Lib
attribute [local go_sem] Oper.semAt_some

def cmpC (a b : Int) : Int := if a < b then -1 else if b < a then 1 else 0
set_option maxRecDepth 100000 in
theorem cmp_any {W : World} {a b : Int} : Calls Try.prog 66 #[.int .i64 a, .int .i64 b] W fun e w' => e = .returned (.int .i64 (cmpC a b)) ∧ w' = W := by
  by_cases h1 : a < b
  · have HR : Hid (cmpC a b = -1) := hide (by unfold cmpC; rw [if_pos h1])
    have d1 : decide (a < b) = true := decide_eq_true h1
    rw [HR.out]
    clear h1
    go_enter Try.func66, Try.ntmps66
    go_wp2_with (go_at_call 86; refine isNaN_c.mono ?_; rintro _ _ ⟨rfl, rfl⟩)
    go_ret
    exact ⟨rfl, rfl⟩
  · have d1 : decide (a < b) = false := decide_eq_false h1
    by_cases h2 : b < a
    · have HR : Hid (cmpC a b = 1) := hide (by unfold cmpC; rw [if_neg h1, if_pos h2])
      have d2 : decide (a > b) = true := decide_eq_true h2
      rw [HR.out]
      clear h1 h2
      go_enter Try.func66, Try.ntmps66
      go_wp2_with (go_at_call 86; refine isNaN_c.mono ?_; rintro _ _ ⟨rfl, rfl⟩)
      go_ret
      exact ⟨rfl, rfl⟩
    · have HR : Hid (cmpC a b = 0) := hide (by unfold cmpC; rw [if_neg h1, if_neg h2])
      have d2 : decide (a > b) = false := decide_eq_false h2
      rw [HR.out]
      clear h1 h2
      go_enter Try.func66, Try.ntmps66
      go_wp2_with (go_at_call 86; refine isNaN_c.mono ?_; rintro _ _ ⟨rfl, rfl⟩)
      go_ret
      exact ⟨rfl, rfl⟩
def orC (a b : Int) : Int := if a = 0 then b else a
set_option maxHeartbeats 2000000 in
set_option maxRecDepth 100000 in
theorem or_any {W : World} {g : Nat} {a b : Int} (h0 : W.cell? ⟨g, 0, none⟩ = some (.int .i64 a)) (h1 : W.cell? ⟨g, 1, none⟩ = some (.int .i64 b)) : Calls Try.prog 65 #[.slice (some ⟨g, 0, none⟩) 2 2] W fun e w' => e = .returned (.int .i64 (orC a b)) ∧ w' = W := by
  go_enter Try.func65, Try.ntmps65
  go_wp2_with fail
  go_loopw [8] (fun i wr => wr = W ∧ (i = .int .i64 0 ∨ (i = .int .i64 1 ∧ a = 0) ∨ (i = .int .i64 2 ∧ a = 0 ∧ b = 0))) (fun i _ => 2 - (intOf i).toNat)
  case atStart => exact ⟨rfl, .inl rfl⟩
  case round =>
    obtain ⟨rfl, rfl | ⟨rfl, e0⟩ | ⟨rfl, e0, e1⟩⟩ := hrel
    · by_cases hq : a = 0
      · have d : (a != 0) = false := by simpa using hq
        go_wp2
        exact ⟨⟨trivial, .inr (.inl ⟨by first | rfl | go_num, hq⟩)⟩, by simp [intOf]⟩
      · have d : (a != 0) = true := by simpa using hq
        have HR : Hid (orC a b = a) := hide (if_neg hq)
        clear hq
        go_wp2
        go_ret
        exact ⟨by rw [HR.out]; rfl, rfl⟩
    · by_cases hq : b = 0
      · have d : (b != 0) = false := by simpa using hq
        go_wp2
        exact ⟨⟨trivial, .inr (.inr ⟨by first | rfl | go_num, e0, hq⟩)⟩, by simp [intOf]⟩
      · have d : (b != 0) = true := by simpa using hq
        have HR : Hid (orC a b = b) := hide (if_pos e0)
        clear hq e0
        go_wp2
        go_ret
        exact ⟨by rw [HR.out]; rfl, rfl⟩
    · have HR : Hid (orC a b = 0) := hide (by rw [e0, e1]; rfl)
      clear e0 e1
      go_wp2
      go_ret
      exact ⟨by rw [HR.out]; rfl, rfl⟩
end Go.Proofs.Ytboofnkajjnmeaa
