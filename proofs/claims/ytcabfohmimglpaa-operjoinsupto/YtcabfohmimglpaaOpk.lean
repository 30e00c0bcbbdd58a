/-
  A tree of greatest numbers, plainly and as the program has it: set, first. The conditions: lengths.
-/
import Derived.Test.YtcabfohmimglpaaOpp
namespace Go.Proofs.Ytcabfohmimglpaa
open Go.RowKit

/-- A tree over 2^K leaves: each inner place has the greater one of the two below it. -/
structure Peak (ps : List Int) (H K : Nat) : Prop where
  pow : H = 2 ^ K
  len : ps.length = 2 * H
  heap : ∀ i, 1 ≤ i → i < H → ps.getD i 0 = max (ps.getD (2 * i) 0) (ps.getD (2 * i + 1) 0)
theorem Peak.top {ps : List Int} {H K : Nat} (h : Peak ps H K) : ∀ (e a q : Nat), 1 ≤ a → (a + 1) * 2 ^ e ≤ 2 * H → a * 2 ^ e ≤ q → q < (a + 1) * 2 ^ e → ps.getD q 0 ≤ ps.getD a 0
  | 0, a, q, _, _, h2, h3 => by
    have : q = a := by simp at h2 h3; omega
    rw [this]
    exact Int.le_refl _
  | e + 1, a, q, h1, h0, h2, h3 => by
    have hp : 0 < 2 ^ e := Nat.pos_of_ne_zero (by simp)
    have e1 : a * 2 ^ (e + 1) = 2 * (a * 2 ^ e) := by rw [Nat.pow_succ]; rw [Nat.mul_comm (2 ^ e) 2, ← Nat.mul_assoc, Nat.mul_comm a 2, Nat.mul_assoc]
    have e2 : (a + 1) * 2 ^ (e + 1) = 2 * ((a + 1) * 2 ^ e) := by rw [Nat.pow_succ]; rw [Nat.mul_comm (2 ^ e) 2, ← Nat.mul_assoc, Nat.mul_comm (a + 1) 2, Nat.mul_assoc]
    have e3 : (2 * a) * 2 ^ e = 2 * (a * 2 ^ e) := Nat.mul_assoc _ _ _
    have e4 : (2 * a + 1) * 2 ^ e = 2 * (a * 2 ^ e) + 2 ^ e := by rw [Nat.add_mul, e3, Nat.one_mul]
    have e5 : (2 * a + 1 + 1) * 2 ^ e = 2 * (a * 2 ^ e) + 2 ^ e + 2 ^ e := by rw [Nat.add_mul, e4, Nat.one_mul]
    have e6 : (a + 1) * 2 ^ e = a * 2 ^ e + 2 ^ e := by rw [Nat.add_mul, Nat.one_mul]
    have hal : a + 1 ≤ (a + 1) * 2 ^ e := Nat.le_mul_of_pos_right _ hp
    have haH : a < H := by omega
    have hh := h.heap a h1 haH
    by_cases hq : q < (2 * a + 1) * 2 ^ e
    · have h9 := Peak.top h e (2 * a) q (by omega) (by omega) (by omega) hq
      have h8 := Int.le_max_left (ps.getD (2 * a) 0) (ps.getD (2 * a + 1) 0)
      omega
    · have h9 := Peak.top h e (2 * a + 1) q (by omega) (by omega) (by omega) (by omega)
      have h8 := Int.le_max_right (ps.getD (2 * a) 0) (ps.getD (2 * a + 1) 0)
      omega
theorem Peak.none {ps : List Int} {H K : Nat} (h : Peak ps H K) {t : Int} (ht : ps.getD 1 0 ≤ t) : ∀ j, j < H → ps.getD (H + j) 0 ≤ t := fun j hj => by
  have hp := h.pow
  have := h.top K 1 (H + j) (Nat.le_refl _) (by rw [← hp]; omega) (by rw [Nat.one_mul, ← hp]; omega) (by rw [← hp]; omega)
  omega
/-- Where the search stands: at height e, what is left of there is not greater, and there is something greater. -/
structure At (ps : List Int) (H : Nat) (t : Int) (a e : Nat) : Prop where
  one : 1 ≤ a
  lo : H ≤ a * 2 ^ e
  hi : (a + 1) * 2 ^ e ≤ 2 * H
  left : ∀ q, H ≤ q → q < a * 2 ^ e → ps.getD q 0 ≤ t
  more : t < ps.getD a 0
theorem At.start {ps : List Int} {H K : Nat} (h : Peak ps H K) {t : Int} (ht : t < ps.getD 1 0) : At ps H t 1 K :=
  ⟨Nat.le_refl _, by rw [Nat.one_mul, ← h.pow]; exact Nat.le_refl _, by rw [← h.pow]; omega, fun q h1 h2 => by rw [Nat.one_mul, ← h.pow] at h2; omega, ht⟩
theorem At.down {ps : List Int} {H K : Nat} (h : Peak ps H K) {t : Int} {a e : Nat} (ha : At ps H t a e) (hl : a < H) : ∃ e', e = e' + 1 ∧ (t < ps.getD (2 * a) 0 → At ps H t (2 * a) e') ∧ (ps.getD (2 * a) 0 ≤ t → At ps H t (2 * a + 1) e') := by
  cases e with
  | zero => have := ha.lo; simp at this; omega
  | succ e =>
    have hp : 0 < 2 ^ e := Nat.pos_of_ne_zero (by simp)
    have e1 : a * 2 ^ (e + 1) = 2 * (a * 2 ^ e) := by rw [Nat.pow_succ]; rw [Nat.mul_comm (2 ^ e) 2, ← Nat.mul_assoc, Nat.mul_comm a 2, Nat.mul_assoc]
    have e3 : (2 * a) * 2 ^ e = 2 * (a * 2 ^ e) := Nat.mul_assoc _ _ _
    have e4 : (2 * a + 1) * 2 ^ e = 2 * (a * 2 ^ e) + 2 ^ e := by rw [Nat.add_mul, e3, Nat.one_mul]
    have e5 : (2 * a + 1 + 1) * 2 ^ e = 2 * (a * 2 ^ e) + 2 ^ e + 2 ^ e := by rw [Nat.add_mul, e4, Nat.one_mul]
    have e6 : (a + 1) * 2 ^ (e + 1) = 2 * (a * 2 ^ e) + 2 ^ e + 2 ^ e := by rw [Nat.add_mul, e1, Nat.one_mul, Nat.pow_succ]; omega
    have h1 := ha.lo
    have h2 := ha.hi
    have h3 := ha.one
    have hh := h.heap a h3 hl
    have hm := ha.more
    refine ⟨e, rfl, fun hg => ⟨by omega, by omega, by omega, fun q q1 q2 => ha.left q q1 (by omega), hg⟩, fun hg => ⟨by omega, by omega, ?_, fun q q1 q2 => ?_, ?_⟩⟩
    · rw [e5]; rw [e6] at h2; omega
    · by_cases hq : q < (2 * a) * 2 ^ e
      · exact ha.left q q1 (by omega)
      · have := h.top e (2 * a) q (by omega) (by omega) (by omega) (by rw [e4]; omega)
        omega
    · omega
theorem At.end {ps : List Int} {H : Nat} {t : Int} {a e : Nat} (ha : At ps H t a e) (hl : H ≤ a) : e = 0 := by
  cases e with
  | zero => rfl
  | succ e =>
    have h2 := ha.hi
    have h3 := ha.one
    have hp : 0 < 2 ^ e := Nat.pos_of_ne_zero (by simp)
    have hal : a + 1 ≤ (a + 1) * 2 ^ e := Nat.le_mul_of_pos_right _ hp
    have e7 : (a + 1) * 2 ^ (e + 1) = 2 * ((a + 1) * 2 ^ e) := by rw [Nat.pow_succ]; rw [Nat.mul_comm (2 ^ e) 2, ← Nat.mul_assoc, Nat.mul_comm (a + 1) 2, Nat.mul_assoc]
    omega
end Go.Proofs.Ytcabfohmimglpaa
