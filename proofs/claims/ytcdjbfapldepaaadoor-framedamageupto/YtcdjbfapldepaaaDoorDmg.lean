/-
  Plain facts on bits that are turned one behind the other within some bytes: what a byte becomes, which byte is the first one that was touched. No condition; nothing of the program is named here.
-/
import Derived.Test.YtcdjbfapldepaaaDoorFrm
namespace Go.Proofs.YtcdjbfapldepaaaDoor

theorem turned_getD : ∀ (l : List Int) (E j : Nat), j < l.length → (turned l E).getD j 0 = (((l.getD j 0).toNat ^^^ (E / 2 ^ (8 * j) % 256) : Nat) : Int) := by
  intro l
  induction l with
  | nil => intro E j h; simp at h
  | cons a l ih =>
    intro E j h
    rw [turned_cons]
    cases j with
    | zero => simp
    | succ j =>
      have := ih (E / 256) j (by simpa using h)
      rw [List.getD_cons_succ, List.getD_cons_succ, this, show 8 * (j + 1) = 8 + 8 * j by omega, Nat.pow_add, ← Nat.div_div_eq_div_mul]

theorem list_ext_getD {l m : List Int} (h : l.length = m.length) (h' : ∀ j, j < l.length → l.getD j 0 = m.getD j 0) : l = m := by
  apply List.ext_getElem h
  intro j h1 h2
  have := h' j h1
  simpa [List.getD, List.getElem?_eq_getElem h1, List.getElem?_eq_getElem h2] using this

/-- The bits below 2^k, and the bit at k. -/
theorem add_xor {E k : Nat} (h : E < 2 ^ k) : E + 2 ^ k = E ^^^ 2 ^ k := by
  apply Nat.eq_of_testBit_eq
  intro i
  rw [Nat.add_comm, Nat.testBit_xor]
  by_cases hi : i < k
  · rw [Nat.testBit_two_pow_add_gt hi, Nat.testBit_two_pow_of_ne (by omega)]
    simp
  · by_cases hk : i = k
    · subst hk
      rw [Nat.testBit_two_pow_add_eq, Nat.testBit_two_pow_self, Nat.testBit_lt_two_pow h]
      rfl
    · have h1 : 2 ^ k + E < 2 ^ i := by
        have : 2 ^ (k + 1) ≤ 2 ^ i := Nat.pow_le_pow_right (by decide) (by omega)
        rw [Nat.pow_succ] at this
        omega
      rw [Nat.testBit_lt_two_pow h1, Nat.testBit_lt_two_pow (show E < 2 ^ i by omega), Nat.testBit_lt_two_pow (show 2 ^ k < 2 ^ i by omega)]
      rfl

/-- A byte of a number to which the bit at k was added. -/
theorem byte_add {E k j : Nat} (h : E < 2 ^ k) : (E + 2 ^ k) / 2 ^ (8 * j) % 256 = (E / 2 ^ (8 * j) % 256) ^^^ (if k / 8 = j then 2 ^ (k % 8) else 0) := by
  rw [add_xor h, Nat.xor_div_two_pow]
  have h8 : (256 : Nat) = 2 ^ 8 := rfl
  rw [h8, Nat.xor_mod_two_pow]
  congr 1
  by_cases hj : k / 8 = j
  · rw [if_pos hj, Nat.pow_div (by omega) (by decide), show k - 8 * j = k % 8 by omega, Nat.mod_eq_of_lt (Nat.pow_lt_pow_right (by decide) (by omega))]
  · rw [if_neg hj]
    by_cases hlt : 8 * j ≤ k
    · rw [Nat.pow_div hlt (by decide), show k - 8 * j = 8 + (k - 8 * j - 8) by omega, Nat.pow_add, Nat.mul_mod_right]
    · rw [Nat.div_eq_of_lt (Nat.pow_lt_pow_right (by decide) (by omega))]

theorem turned_add {l : List Int} {E k : Nat} (h : E < 2 ^ k) :
    turned l (E + 2 ^ k) = (turned l E).set (k / 8) ((((turned l E).getD (k / 8) 0).toNat ^^^ 2 ^ (k % 8) : Nat) : Int) := by
  apply list_ext_getD (by rw [turned_len, List.length_set, turned_len])
  intro j hj
  rw [turned_len] at hj
  rw [turned_getD _ _ _ hj, byte_add h]
  by_cases he : k / 8 = j
  · subst he
    rw [if_pos rfl]
    simp only [List.getD, List.getElem?_set_self (show k / 8 < (turned l E).length by rw [turned_len]; exact hj), Option.getD_some]
    have := turned_getD l E (k / 8) hj
    simp only [List.getD] at this
    rw [this, Int.toNat_natCast, Nat.xor_assoc]
  · rw [if_neg he, Nat.xor_zero]
    have := turned_getD l E j hj
    rw [← this]
    simp [List.getD, List.getElem?_set_ne he]
theorem turned_far {l : List Int} {E k : Nat} (h : E < 2 ^ k) (hk : l.length ≤ k / 8) : turned l (E + 2 ^ k) = turned l E := by
  apply list_ext_getD (by rw [turned_len, turned_len])
  intro j hj
  rw [turned_len] at hj
  rw [turned_getD _ _ _ hj, turned_getD _ _ _ hj, byte_add h, if_neg (by omega), Nat.xor_zero]

/-- t: the first byte of N that E touches; -1: none. -/
def First (N E : Nat) (t : Int) : Prop := (t = -1 ∧ E % 2 ^ (8 * N) = 0) ∨ (∃ m : Nat, t = (m : Int) ∧ m < N ∧ E % 2 ^ (8 * m) = 0 ∧ E % 2 ^ (8 * (m + 1)) ≠ 0)

theorem mod_le_pow {E a b : Nat} (h : a ≤ b) (hz : E % 2 ^ b = 0) : E % 2 ^ a = 0 := by
  have : (2 : Nat) ^ b = 2 ^ a * 2 ^ (b - a) := by rw [← Nat.pow_add]; congr 1; omega
  rw [this] at hz
  have := congrArg (· % 2 ^ a) hz
  simpa [Nat.mod_mul_right_mod] using this

theorem First.none_add {N E k : Nat} (h : First N E (-1)) (hE : E < 2 ^ k) (hk : k < 8 * N) : First N (E + 2 ^ k) ((k / 8 : Nat) : Int) := by
  rcases h with ⟨_, h⟩ | ⟨m, h, _⟩
  · have h0 : E = 0 := by
      rw [Nat.mod_eq_of_lt (Nat.lt_trans hE (Nat.pow_lt_pow_right (by decide) hk))] at h
      exact h
    subst h0
    rw [Nat.zero_add]
    refine .inr ⟨k / 8, rfl, by omega, ?_, ?_⟩
    · rw [show k = 8 * (k / 8) + k % 8 by omega, Nat.pow_add]
      conv => lhs; rw [show (8 * (k / 8) + k % 8) / 8 = k / 8 by omega]
      exact Nat.mul_mod_right _ _
    · rw [Nat.mod_eq_of_lt (Nat.pow_lt_pow_right (by decide) (by omega))]
      exact Nat.ne_of_gt (Nat.pow_pos (by decide))
  · omega
theorem First.add {N E k m : Nat} (h : First N E (m : Int)) (hE : E < 2 ^ k) : First N (E + 2 ^ k) (m : Int) := by
  rcases h with ⟨h, _⟩ | ⟨m', h, hm, h1, h2⟩
  · omega
  · obtain rfl : m = m' := by omega
    have hE0 : E ≠ 0 := by rintro rfl; simp at h2
    have hk : 8 * m ≤ k := by
      apply Classical.byContradiction
      intro hc
      apply hE0
      rw [Nat.mod_eq_of_lt (Nat.lt_of_lt_of_le hE (Nat.pow_le_pow_right (by decide) (by omega)))] at h1
      exact h1
    refine .inr ⟨m, rfl, hm, ?_, ?_⟩
    · rw [Nat.add_mod, h1, show k = 8 * m + (k - 8 * m) by omega, Nat.pow_add, Nat.mul_mod_right]
      rfl
    · by_cases hk2 : 8 * (m + 1) ≤ k
      · rw [show k = 8 * (m + 1) + (k - 8 * (m + 1)) by omega, Nat.pow_add, Nat.add_mul_mod_self_left]
        exact h2
      · rw [Nat.mod_eq_of_lt]
        · have := Nat.pow_pos (n := k) (show 0 < 2 by decide)
          omega
        · have : (2 : Nat) ^ (k + 1) ≤ 2 ^ (8 * (m + 1)) := Nat.pow_le_pow_right (by decide) (by omega)
          rw [Nat.pow_succ] at this
          omega
theorem First.far {N E k : Nat} {t : Int} (h : First N E t) (hk : 8 * N ≤ k) : First N (E + 2 ^ k) t := by
  have e : ∀ a, a ≤ 8 * N → (E + 2 ^ k) % 2 ^ a = E % 2 ^ a := fun a ha => by
    rw [show k = a + (k - a) by omega, Nat.pow_add, Nat.add_mul_mod_self_left]
  rcases h with ⟨h1, h2⟩ | ⟨m, h, hm, h1, h2⟩
  · exact .inl ⟨h1, by rw [e _ (Nat.le_refl _)]; exact h2⟩
  · exact .inr ⟨m, h, hm, by rw [e _ (by omega)]; exact h1, by rw [e _ (by omega)]; exact h2⟩

/-- The first i bits of m, moved up by s. -/
def part (m s i : Nat) : Nat := (m % 2 ^ i) * 2 ^ s
theorem part_zero (m s : Nat) : part m s 0 = 0 := by simp [part, Nat.mod_one]
theorem part_lt (m s i : Nat) : part m s i < 2 ^ (s + i) := by
  unfold part
  rw [Nat.add_comm, Nat.pow_add]
  exact Nat.mul_lt_mul_of_pos_right (Nat.mod_lt _ (Nat.pow_pos (by decide))) (Nat.pow_pos (by decide))
theorem part_succ (m s i : Nat) : part m s (i + 1) = part m s i + (if m / 2 ^ i % 2 = 1 then 2 ^ (s + i) else 0) := by
  unfold part
  rw [Nat.pow_succ, Nat.mod_mul, Nat.add_mul]
  congr 1
  by_cases h : m / 2 ^ i % 2 = 1
  · rw [if_pos h, h, Nat.mul_one, ← Nat.pow_add, Nat.add_comm]
  · rw [if_neg h, show m / 2 ^ i % 2 = 0 by omega, Nat.mul_zero, Nat.zero_mul]
theorem part_all {m : Nat} (s : Nat) (h : m < 4294967296) : Short (part m s 32) := ⟨m, s, h, by unfold part; rw [Nat.mod_eq_of_lt (by simpa using h)]⟩

end Go.Proofs.YtcdjbfapldepaaaDoor
