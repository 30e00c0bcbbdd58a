/-
  slices.Max and slices.Min of numbers. The condition: there are some.
-/
import Derived.Test.YtbcllgddogghbaaRrc
namespace Go.Proofs.Ytbcllgddogghbaa
open Go.RowKit Go.Shelf

def maxT (l : List Int) (k : Nat) : Int := (l.take k).foldl (fun a b => if a < b then b else a) (l.getD 0 0)
def minT (l : List Int) (k : Nat) : Int := (l.take k).foldl (fun a b => if b < a then b else a) (l.getD 0 0)
theorem getD_at {l : List Int} {k : Nat} (hk : k < l.length) : l.getD k 0 = l[k] := by rw [List.getD_eq_getElem?_getD, List.getElem?_eq_getElem hk]; rfl
theorem maxT_next {l : List Int} {k : Nat} (hk : k < l.length) : maxT l (k + 1) = if maxT l k < l.getD k 0 then l.getD k 0 else maxT l k := by
  unfold maxT
  rw [List.take_succ_eq_append_getElem hk, List.foldl_append, ← getD_at hk]
  rfl
theorem minT_next {l : List Int} {k : Nat} (hk : k < l.length) : minT l (k + 1) = if l.getD k 0 < minT l k then l.getD k 0 else minT l k := by
  unfold minT
  rw [List.take_succ_eq_append_getElem hk, List.foldl_append, ← getD_at hk]
  rfl
theorem maxT_bound {l : List Int} {c : Int} (h : ∀ i, i < l.length → l.getD i 0 ≤ c) (h0 : 0 < l.length) : ∀ k, k ≤ l.length → maxT l k ≤ c
  | 0, _ => h 0 h0
  | k + 1, hk => by
    have ih := maxT_bound h h0 k (by omega)
    rw [maxT_next (by omega)]
    have := h k (by omega)
    split <;> omega
theorem minT_bound {l : List Int} {c : Int} (h : ∀ i, i < l.length → c ≤ l.getD i 0) (h0 : 0 < l.length) : ∀ k, k ≤ l.length → c ≤ minT l k
  | 0, _ => h 0 h0
  | k + 1, hk => by
    have ih := minT_bound h h0 k (by omega)
    rw [minT_next (by omega)]
    have := h k (by omega)
    split <;> omega

set_option maxRecDepth 100000 in
set_option maxHeartbeats 4000000 in
theorem max_any {W : World} {p : Option Addr} {n c : Nat} {l : List Int} (h : Row .i64 W (.slice p n c) l) (h0 : 0 < n) :
    Calls Try.prog 17 #[.slice p n c] W fun e w' => e = .returned (.int .i64 (maxT l n)) ∧ w' = W := by
  obtain ⟨p', cap, e, g1, g2, g3, g4⟩ := h
  simp only [Value.slice.injEq] at e
  obtain ⟨rfl, rfl, rfl⟩ := e
  obtain ⟨b1, o1, rfl, hc⟩ := g4 h0
  have c0 := hc 0 h0
  rw [Nat.add_zero] at c0
  have HC := hide hc
  obtain ⟨x0, hx0⟩ : ∃ x0, l.getD 0 0 = x0 := ⟨_, rfl⟩
  rw [hx0] at c0
  have hm1 : maxT l 1 = x0 := by
    have h9 : maxT l 0 = x0 := hx0
    rw [maxT_next h0, h9, hx0, if_neg (by omega)]
  have HM1 := hide hm1
  have q0 : decide ((l.length : Int) < 1) = false := decide_eq_false (by omega)
  have q1 : decide (l.length < 1) = false := decide_eq_false (by omega)
  clear g3 g4 hc hx0 hm1
  go_enter Try.func17, Try.ntmps17
  go_wp2_with fail
  go_loopw [3, 4] (fun s i wq => ∃ (k : Nat) (m : Int), 1 ≤ k ∧ k ≤ l.length ∧ i = .int .i64 (k : Int) ∧ s = .int .i64 m ∧ Hid (maxT l k = m) ∧ wq = W) (fun _ i _ => l.length - (intOf i).toNat)
  case atStart => exact ⟨1, x0, Nat.le_refl _, h0, rfl, rfl, HM1, rfl⟩
  case round =>
    obtain ⟨k, m, hk1, hk, rfl, rfl, HM, rfl⟩ := hrel
    rename World => W
    clear HM1 c0
    by_cases hlt : k < l.length
    · have d1 := HC.out k hlt
      obtain ⟨x, hx⟩ : ∃ x, l.getD k 0 = x := ⟨_, rfl⟩
      rw [hx] at d1
      by_cases hc : m < x
      · have HM2 : Hid (maxT l (k + 1) = x) := hide (by rw [maxT_next hlt, HM.out, hx, if_pos hc])
        have e1 : decide (m < x) = true := decide_eq_true hc
        have e2 : decide (x < m) = false := decide_eq_false (by omega)
        clear hx
        go_wp2
        exact ⟨⟨k + 1, x, by omega, by omega, by first | rfl | go_num, rfl, HM2, trivial⟩, by simp [intOf]; omega⟩
      · have HM2 : Hid (maxT l (k + 1) = m) := hide (by rw [maxT_next hlt, HM.out, hx, if_neg hc])
        have e1 : decide (m < x) = false := decide_eq_false hc
        clear hx
        go_wp2
        exact ⟨⟨k + 1, m, by omega, by omega, by first | rfl | go_num, rfl, HM2, trivial⟩, by simp [intOf]; omega⟩
    · obtain rfl : k = l.length := by omega
      go_wp2
      go_ret
      exact ⟨by rw [HM.out]; rfl, rfl⟩

set_option maxRecDepth 100000 in
set_option maxHeartbeats 4000000 in
theorem min_any {W : World} {p : Option Addr} {n c : Nat} {l : List Int} (h : Row .i64 W (.slice p n c) l) (h0 : 0 < n) :
    Calls Try.prog 18 #[.slice p n c] W fun e w' => e = .returned (.int .i64 (minT l n)) ∧ w' = W := by
  obtain ⟨p', cap, e, g1, g2, g3, g4⟩ := h
  simp only [Value.slice.injEq] at e
  obtain ⟨rfl, rfl, rfl⟩ := e
  obtain ⟨b1, o1, rfl, hc⟩ := g4 h0
  have c0 := hc 0 h0
  rw [Nat.add_zero] at c0
  have HC := hide hc
  obtain ⟨x0, hx0⟩ : ∃ x0, l.getD 0 0 = x0 := ⟨_, rfl⟩
  rw [hx0] at c0
  have hm1 : minT l 1 = x0 := by
    have h9 : minT l 0 = x0 := hx0
    rw [minT_next h0, h9, hx0, if_neg (by omega)]
  have HN1 := hide hm1
  have q0 : decide ((l.length : Int) < 1) = false := decide_eq_false (by omega)
  have q1 : decide (l.length < 1) = false := decide_eq_false (by omega)
  clear g3 g4 hc hx0 hm1
  go_enter Try.func18, Try.ntmps18
  go_wp2_with fail
  go_loopw [3, 4] (fun s i wq => ∃ (k : Nat) (m : Int), 1 ≤ k ∧ k ≤ l.length ∧ i = .int .i64 (k : Int) ∧ s = .int .i64 m ∧ Hid (minT l k = m) ∧ wq = W) (fun _ i _ => l.length - (intOf i).toNat)
  case atStart => exact ⟨1, x0, Nat.le_refl _, h0, rfl, rfl, HN1, rfl⟩
  case round =>
    obtain ⟨k, m, hk1, hk, rfl, rfl, HM, rfl⟩ := hrel
    rename World => W
    clear HN1 c0
    by_cases hlt : k < l.length
    · have d1 := HC.out k hlt
      obtain ⟨x, hx⟩ : ∃ x, l.getD k 0 = x := ⟨_, rfl⟩
      rw [hx] at d1
      by_cases hc : x < m
      · have HM2 : Hid (minT l (k + 1) = x) := hide (by rw [minT_next hlt, HM.out, hx, if_pos hc])
        have e1 : decide (x < m) = true := decide_eq_true hc
        have e2 : decide (m < x) = false := decide_eq_false (by omega)
        clear hx
        go_wp2
        exact ⟨⟨k + 1, x, by omega, by omega, by first | rfl | go_num, rfl, HM2, trivial⟩, by simp [intOf]; omega⟩
      · have HM2 : Hid (minT l (k + 1) = m) := hide (by rw [minT_next hlt, HM.out, hx, if_neg hc])
        have e1 : decide (x < m) = false := decide_eq_false hc
        clear hx
        go_wp2
        exact ⟨⟨k + 1, m, by omega, by omega, by first | rfl | go_num, rfl, HM2, trivial⟩, by simp [intOf]; omega⟩
    · obtain rfl : k = l.length := by omega
      go_wp2
      go_ret
      exact ⟨by rw [HM.out]; rfl, rfl⟩
end Go.Proofs.Ytbcllgddogghbaa
