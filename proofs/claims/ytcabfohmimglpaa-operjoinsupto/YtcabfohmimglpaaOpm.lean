/-
  Values, what passes, accumulators: the program's plain functions of package oper. The conditions: that numbers are of their types.
-/
import Derived.Test.YtcabfohmimglpaaMem
import Derived.Test.YtcabfohmimglpaaOnl
import Derived.Test.YtcabfohmimglpaaSeg
import Derived.BigRegion
import Derived.BigQuiet
import Derived.WalkMore
import Derived.OwnWalk
namespace Go.Proofs.Ytcabfohmimglpaa
open Go.RowKit

def I6 (n : Int) : Prop := -9223372036854775808 ≤ n ∧ n ≤ 9223372036854775807
theorem ne_eq {a b : Int} (h : a ≠ b) : (a == b) = false := by simpa using h
def restC (x a : Int) : Int := if a < 1 then 0 else if x.tmod a < 0 then x.tmod a + a else x.tmod a
theorem restC_bd {x a : Int} (h : 1 ≤ a) : 0 ≤ restC x a ∧ restC x a < a := by
  unfold restC
  rw [if_neg (by omega)]
  have h1 := Int.tmod_lt_of_pos x (show 0 < a by omega)
  have h2 : -a < x.tmod a := by
    have := Int.tmod_lt_of_pos (-x) (show 0 < a by omega)
    rw [Int.neg_tmod] at this
    omega
  split <;> omega

set_option maxRecDepth 100000 in
set_option maxHeartbeats 2000000 in
theorem rest_any {W : World} {x a : Int} (_hx : I6 x) (ha : I6 a) : Calls Try.prog 21 #[.int .i64 x, .int .i64 a] W fun e w' => e = .returned (.int .i64 (restC x a)) ∧ w' = W := by
  by_cases h1 : a < 1
  · have d1 : decide (a < 1) = true := decide_eq_true h1
    have HR : Hid (restC x a = 0) := hide (by unfold restC; rw [if_pos h1])
    go_enter Try.func21, Try.ntmps21
    go_wp2
    go_ret
    exact ⟨by rw [HR.out]; rfl, rfl⟩
  · have d1 : decide (a < 1) = false := decide_eq_false h1
    have hne : a ≠ 0 := by omega
    have hb1 := Int.tmod_lt_of_pos x (show 0 < a by omega)
    have hb2 : -a < x.tmod a := by
      have := Int.tmod_lt_of_pos (-x) (show 0 < a by omega)
      rw [Int.neg_tmod] at this
      omega
    unfold I6 at ha
    by_cases h2 : x.tmod a < 0
    · have d2 : decide (x.tmod a < 0) = true := decide_eq_true h2
      have HR : Hid (restC x a = x.tmod a + a) := hide (by unfold restC; rw [if_neg h1, if_pos h2])
      go_enter Try.func21, Try.ntmps21
      go_wp2
      go_ret
      exact ⟨by rw [HR.out]; rfl, rfl⟩
    · have d2 : decide (x.tmod a < 0) = false := decide_eq_false h2
      have HR : Hid (restC x a = x.tmod a) := hide (by unfold restC; rw [if_neg h1, if_neg h2])
      go_enter Try.func21, Try.ntmps21
      go_wp2
      go_ret
      exact ⟨by rw [HR.out]; rfl, rfl⟩

def mappedC (fn ar v : Int) : Int := if fn = 1 then wrap64 (v + ar) else if fn = 2 then wrap64 (v * ar) else if fn = 3 then wrap64 (-v) else if fn = 4 then bits .xor .i64 v ar else v
def keyedC (fn ar k v : Int) : Int := if fn = 2 then restC k ar else if fn = 3 then restC v ar else if fn = 4 then ar else k
def valueC (kd fn ar k v : Int) : Int × Int := if kd = 2 then (k, mappedC fn ar v) else if kd = 4 then (keyedC fn ar k v, v) else (k, v)
def holdsC (kd fn ar v : Int) : Bool := if kd = 3 then (if fn = 1 then decide (v < ar) else if fn = 2 then v == ar else if fn = 3 then bits .and .i64 v 1 != 0 else if fn = 4 then bits .and .i64 v ar != 0 else false) else true
def accC (fn cnt acc v : Int) : Int := if cnt < 1 then (if fn = 2 then 1 else v) else if fn = 1 then wrap64 (acc + v) else if fn = 2 then wrap64 (acc + 1) else if fn = 3 then max acc v else if fn = 4 then min acc v else v

set_option maxRecDepth 100000 in
set_option maxHeartbeats 4000000 in
theorem mapped_any {W : World} {kd pt fn ar v : Int} {ip : Option Addr} {n ic : Nat} : Calls Try.prog 31 #[.agg #[.int .i64 kd, .int .i64 pt, .int .i64 fn, .int .i64 ar, .slice ip n ic], .int .i64 v] W fun e w' => e = .returned (.int .i64 (mappedC fn ar v)) ∧ Below W.heap.size W w' := by
  by_cases h1 : fn = 1
  · subst h1
    have HR : Hid (mappedC 1 ar v = wrap64 (v + ar)) := hide (by unfold mappedC; simp)
    rw [HR.out]
    go_enter Try.func31, Try.ntmps31
    go_wp2
    go_ret
    exact ⟨rfl, alloc_below _ _⟩
  · have e1 := ne_eq h1
    by_cases h2 : fn = 2
    · subst h2
      have HR : Hid (mappedC 2 ar v = wrap64 (v * ar)) := hide (by unfold mappedC; simp)
      rw [HR.out]
      go_enter Try.func31, Try.ntmps31
      go_wp2
      go_ret
      exact ⟨rfl, alloc_below _ _⟩
    · have e2 := ne_eq h2
      by_cases h3 : fn = 3
      · subst h3
        have HR : Hid (mappedC 3 ar v = wrap64 (-v)) := hide (by unfold mappedC; simp)
        rw [HR.out]
        go_enter Try.func31, Try.ntmps31
        go_wp2
        go_ret
        exact ⟨rfl, alloc_below _ _⟩
      · have e3 := ne_eq h3
        by_cases h4 : fn = 4
        · subst h4
          have HR : Hid (mappedC 4 ar v = bits .xor .i64 v ar) := hide (by unfold mappedC; simp)
          rw [HR.out]
          go_enter Try.func31, Try.ntmps31
          go_wp2
          go_ret
          exact ⟨rfl, alloc_below _ _⟩
        · have e4 := ne_eq h4
          have HR : Hid (mappedC fn ar v = v) := hide (by unfold mappedC; rw [if_neg h1, if_neg h2, if_neg h3, if_neg h4])
          rw [HR.out]
          clear h1 h2 h3 h4
          go_enter Try.func31, Try.ntmps31
          go_wp2
          go_ret
          exact ⟨rfl, alloc_below _ _⟩

set_option maxRecDepth 100000 in
set_option maxHeartbeats 4000000 in
theorem keyed_any {W : World} {kd pt fn ar ky vl : Int} {ip : Option Addr} {n ic : Nat} (hk : I6 ky) (hv : I6 vl) (ha : I6 ar) : Calls Try.prog 32 #[.agg #[.int .i64 kd, .int .i64 pt, .int .i64 fn, .int .i64 ar, .slice ip n ic], .agg #[.int .i64 ky, .int .i64 vl]] W fun e w' => e = .returned (.int .i64 (keyedC fn ar ky vl)) ∧ Below W.heap.size W w' := by
  have HB : Hid (Below W.heap.size W ((W.alloc (.cells #[.int .i64 kd, .int .i64 pt, .int .i64 fn, .int .i64 ar, .slice ip n ic] 24 (0, 0))).alloc (.cells #[.int .i64 ky, .int .i64 vl] 39 (0, 0)))) := hide ((alloc_below _ _).trans ((alloc_below _ _).mono (alloc_below _ _).size))
  by_cases h2 : fn = 2
  · subst h2
    have HR : Hid (keyedC 2 ar ky vl = restC ky ar) := hide (by unfold keyedC; simp)
    rw [HR.out]
    have HC := hide (rest_any (W := (W.alloc (.cells #[.int .i64 kd, .int .i64 pt, .int .i64 2, .int .i64 ar, .slice ip n ic] 24 (0, 0))).alloc (.cells #[.int .i64 ky, .int .i64 vl] 39 (0, 0))) hk ha)
    clear hk hv ha
    go_enter Try.func32, Try.ntmps32
    go_wp2_with fail
    refine HC.out.mono ?_
    rintro _ _ ⟨rfl, rfl⟩
    go_wp2
    go_ret
    exact ⟨rfl, HB.out⟩
  · have e2 := ne_eq h2
    by_cases h3 : fn = 3
    · subst h3
      have HR : Hid (keyedC 3 ar ky vl = restC vl ar) := hide (by unfold keyedC; simp)
      rw [HR.out]
      have HC := hide (rest_any (W := (W.alloc (.cells #[.int .i64 kd, .int .i64 pt, .int .i64 3, .int .i64 ar, .slice ip n ic] 24 (0, 0))).alloc (.cells #[.int .i64 ky, .int .i64 vl] 39 (0, 0))) hv ha)
      clear hk hv ha
      go_enter Try.func32, Try.ntmps32
      go_wp2_with fail
      refine HC.out.mono ?_
      rintro _ _ ⟨rfl, rfl⟩
      go_wp2
      go_ret
      exact ⟨rfl, HB.out⟩
    · have e3 := ne_eq h3
      by_cases h4 : fn = 4
      · subst h4
        have HR : Hid (keyedC 4 ar ky vl = ar) := hide (by unfold keyedC; simp)
        rw [HR.out]
        clear hk hv ha
        go_enter Try.func32, Try.ntmps32
        go_wp2
        go_ret
        exact ⟨rfl, HB.out⟩
      · have e4 := ne_eq h4
        have HR : Hid (keyedC fn ar ky vl = ky) := hide (by unfold keyedC; rw [if_neg h2, if_neg h3, if_neg h4])
        rw [HR.out]
        clear h2 h3 h4 hk hv ha
        go_enter Try.func32, Try.ntmps32
        go_wp2
        go_ret
        exact ⟨rfl, HB.out⟩

set_option maxRecDepth 100000 in
set_option maxHeartbeats 4000000 in
theorem holds_any {W : World} {kd pt fn ar ky vl : Int} {ip : Option Addr} {n ic : Nat} {rb : Bool} (hrb : holdsC kd fn ar vl = rb) : Calls Try.prog 19 #[.agg #[.int .i64 kd, .int .i64 pt, .int .i64 fn, .int .i64 ar, .slice ip n ic], .agg #[.int .i64 ky, .int .i64 vl]] W fun e w' => e = .returned (.bool rb) ∧ Below W.heap.size W w' := by
  have HB : Hid (Below W.heap.size W ((W.alloc (.cells #[.int .i64 kd, .int .i64 pt, .int .i64 fn, .int .i64 ar, .slice ip n ic] 24 (0, 0))).alloc (.cells #[.int .i64 ky, .int .i64 vl] 39 (0, 0)))) := hide ((alloc_below _ _).trans ((alloc_below _ _).mono (alloc_below _ _).size))
  by_cases hkd : kd = 3
  · subst hkd
    by_cases h1 : fn = 1
    · subst h1
      have hr : decide (vl < ar) = rb := by rw [← hrb]; unfold holdsC; simp
      subst hr
      clear hrb
      go_enter Try.func19, Try.ntmps19
      go_wp2
      go_ret
      exact ⟨rfl, HB.out⟩
    · have e1 := ne_eq h1
      by_cases h2 : fn = 2
      · subst h2
        have hr : (vl == ar) = rb := by rw [← hrb]; unfold holdsC; simp
        subst hr
        clear hrb
        go_enter Try.func19, Try.ntmps19
        go_wp2
        go_ret
        exact ⟨rfl, HB.out⟩
      · have e2 := ne_eq h2
        by_cases h3 : fn = 3
        · subst h3
          have hr : (bits .and .i64 vl 1 != 0) = rb := by rw [← hrb]; unfold holdsC; simp
          subst hr
          clear hrb
          go_enter Try.func19, Try.ntmps19
          go_wp2
          go_ret
          exact ⟨rfl, HB.out⟩
        · have e3 := ne_eq h3
          by_cases h4 : fn = 4
          · subst h4
            have hr : (bits .and .i64 vl ar != 0) = rb := by rw [← hrb]; unfold holdsC; simp
            subst hr
            clear hrb
            go_enter Try.func19, Try.ntmps19
            go_wp2
            go_ret
            exact ⟨rfl, HB.out⟩
          · have e4 := ne_eq h4
            have hr : false = rb := by rw [← hrb]; unfold holdsC; rw [if_pos rfl, if_neg h1, if_neg h2, if_neg h3, if_neg h4]
            subst hr
            clear hrb h1 h2 h3 h4
            go_enter Try.func19, Try.ntmps19
            go_wp2
            go_ret
            exact ⟨rfl, HB.out⟩
  · have e0 : (kd != 3) = true := by simpa using hkd
    have hr : true = rb := by rw [← hrb]; unfold holdsC; rw [if_neg hkd]
    subst hr
    clear hrb hkd
    go_enter Try.func19, Try.ntmps19
    go_wp2
    go_ret
    exact ⟨rfl, HB.out⟩

set_option maxRecDepth 100000 in
set_option maxHeartbeats 4000000 in
theorem firstAcc_any {W : World} {fn v : Int} : Calls Try.prog 38 #[.int .i64 fn, .int .i64 v] W fun e w' => e = .returned (.int .i64 (if fn = 2 then 1 else v)) ∧ w' = W := by
  by_cases h : fn = 2
  · rw [if_pos h]
    subst h
    go_enter Try.func38, Try.ntmps38
    go_wp2
    go_ret
    exact ⟨rfl, rfl⟩
  · rw [if_neg h]
    have e := ne_eq h
    clear h
    go_enter Try.func38, Try.ntmps38
    go_wp2
    go_ret
    exact ⟨rfl, rfl⟩

set_option maxRecDepth 100000 in
set_option maxHeartbeats 4000000 in
theorem acc_any {W : World} {fn key cnt acc v : Int} : Calls Try.prog 27 #[.int .i64 fn, .agg #[.int .i64 key, .int .i64 cnt, .int .i64 acc], .int .i64 v] W fun e w' => e = .returned (.int .i64 (accC fn cnt acc v)) ∧ Below W.heap.size W w' := by
  have HB : Hid (Below W.heap.size W (W.alloc (.cells #[.int .i64 key, .int .i64 cnt, .int .i64 acc] 43 (0, 0)))) := hide (alloc_below _ _)
  by_cases hc : cnt < 1
  · have d : decide (cnt < 1) = true := decide_eq_true hc
    have HR : Hid (accC fn cnt acc v = if fn = 2 then 1 else v) := hide (by unfold accC; rw [if_pos hc])
    rw [HR.out]
    obtain ⟨r, hr⟩ : ∃ r : Int, (if fn = 2 then 1 else v) = r := ⟨_, rfl⟩
    rw [hr]
    have HC := hide (firstAcc_any (W := W.alloc (.cells #[.int .i64 key, .int .i64 cnt, .int .i64 acc] 43 (0, 0))) (fn := fn) (v := v))
    rw [hr] at HC
    clear hr HR
    go_enter Try.func27, Try.ntmps27
    go_wp2_with fail
    refine HC.out.mono ?_
    rintro _ _ ⟨rfl, rfl⟩
    go_wp2
    go_ret
    exact ⟨rfl, HB.out⟩
  · have d : decide (cnt < 1) = false := decide_eq_false hc
    have HR0 : Hid (accC fn cnt acc v = if fn = 1 then wrap64 (acc + v) else if fn = 2 then wrap64 (acc + 1) else if fn = 3 then max acc v else if fn = 4 then min acc v else v) := hide (by unfold accC; rw [if_neg hc])
    rw [HR0.out]
    clear HR0
    by_cases h1 : fn = 1
    · subst h1
      rw [if_pos rfl]
      go_enter Try.func27, Try.ntmps27
      go_wp2
      go_ret
      exact ⟨rfl, HB.out⟩
    · have e1 := ne_eq h1
      by_cases h2 : fn = 2
      · subst h2
        rw [if_neg (by decide), if_pos rfl]
        go_enter Try.func27, Try.ntmps27
        go_wp2
        go_ret
        exact ⟨rfl, HB.out⟩
      · have e2 := ne_eq h2
        by_cases h3 : fn = 3
        · subst h3
          rw [if_neg (by decide), if_neg (by decide), if_pos rfl]
          go_enter Try.func27, Try.ntmps27
          go_wp2
          go_ret
          exact ⟨rfl, HB.out⟩
        · have e3 := ne_eq h3
          by_cases h4 : fn = 4
          · subst h4
            rw [if_neg (by decide), if_neg (by decide), if_neg (by decide), if_pos rfl]
            go_enter Try.func27, Try.ntmps27
            go_wp2
            go_ret
            exact ⟨rfl, HB.out⟩
          · have e4 := ne_eq h4
            rw [if_neg h1, if_neg h2, if_neg h3, if_neg h4]
            clear h1 h2 h3 h4
            go_enter Try.func27, Try.ntmps27
            go_wp2
            go_ret
            exact ⟨rfl, HB.out⟩
end Go.Proofs.Ytcabfohmimglpaa
