/-
  What is taken in turn, plainly: which list's turn it is, how many were taken of each, where it ends. No conditions.
-/
import Derived.Test.YtifldnpccgbnkaaGreatRum
namespace Go.Proofs.YtifldnpccgbnkaaGreat

def whoC (n t j : Nat) : Nat := (t + j) % n
def lenAt (ls : List (List RC)) (i : Nat) : Nat := (ls[i]!).length
def LongC (ls : List (List RC)) (t j : Nat) : Prop := j / ls.length < lenAt ls (whoC ls.length t j)
instance (ls : List (List RC)) (t j : Nat) : Decidable (LongC ls t j) := by unfold LongC; infer_instance
def recAt (ls : List (List RC)) (t j : Nat) : RC := (ls[whoC ls.length t j]!)[j / ls.length]!
structure Stop (ls : List (List RC)) (t N : Nat) : Prop where
  long : ∀ j, j < N → LongC ls t j
  ends : ¬ LongC ls t N
def takenC (ls : List (List RC)) (t N : Nat) : List RC := (List.range N).map (recAt ls t)
def countC (n t N i : Nat) : Nat := N / n + (if (if i < t then i + n - t else i - t) < N % n then 1 else 0)
theorem div_next {n N : Nat} (h : 0 < n) : ((N % n + 1 < n ∧ (N + 1) / n = N / n ∧ (N + 1) % n = N % n + 1) ∨ (N % n + 1 = n ∧ (N + 1) / n = N / n + 1 ∧ (N + 1) % n = 0)) := by
  have h1 := Nat.div_add_mod N n
  have h2 := Nat.mod_lt N h
  by_cases c : N % n + 1 < n
  · have := (Nat.div_mod_unique (a := N + 1) (b := n) (d := N / n) (c := N % n + 1) h).2 ⟨by omega, c⟩
    exact .inl ⟨c, this.1, this.2⟩
  · have e : n * (N / n + 1) = n * (N / n) + n := by rw [Nat.mul_add, Nat.mul_one]
    have := (Nat.div_mod_unique (a := N + 1) (b := n) (d := N / n + 1) (c := 0) h).2 ⟨by omega, h⟩
    exact .inr ⟨by omega, this.1, this.2⟩
theorem who_form {n t N : Nat} (ht : t < n) : whoC n t N = if t + N % n < n then t + N % n else t + N % n - n := by
  have h2 := Nat.mod_lt N (show 0 < n by omega)
  unfold whoC
  rw [Nat.add_mod, Nat.mod_eq_of_lt ht]
  split
  · rename_i h; exact Nat.mod_eq_of_lt h
  · rw [Nat.mod_eq_sub_mod (by omega), Nat.mod_eq_of_lt (by omega)]
theorem who_lt {n t N : Nat} (ht : t < n) : whoC n t N < n := Nat.mod_lt _ (by omega)
theorem who_next {n t N : Nat} : whoC n t (N + 1) = (whoC n t N + 1) % n := by
  unfold whoC
  rw [Nat.mod_add_mod]
  rfl
theorem who_zero {n t : Nat} (ht : t < n) : whoC n t 0 = t := by unfold whoC; exact Nat.mod_eq_of_lt ht
theorem count_who {n t N : Nat} (ht : t < n) : countC n t N (whoC n t N) = N / n := by
  have h2 := Nat.mod_lt N (show 0 < n by omega)
  have h3 := who_form (N := N) ht
  unfold countC
  split at h3 <;> split <;> split at * <;> omega
theorem count_next {n t N i : Nat} (ht : t < n) (hi : i < n) : countC n t (N + 1) i = countC n t N i + if i = whoC n t N then 1 else 0 := by
  have h2 := Nat.mod_lt N (show 0 < n by omega)
  have h3 := who_form (N := N) ht
  unfold countC
  rcases div_next (n := n) (N := N) (by omega) with ⟨h4, h5, h6⟩ | ⟨h4, h5, h6⟩ <;> rw [h5, h6] <;> split at h3 <;> rw [h3] <;> repeat' split
  all_goals omega
theorem count_zero {n t i : Nat} : countC n t 0 i = 0 := by
  unfold countC
  rw [if_neg (by simp)]
  simp
theorem count_near {n t N i k : Nat} : countC n t N i ≤ countC n t N k + 1 := by
  unfold countC
  repeat' split
  all_goals omega
theorem stop_eq {ls : List (List RC)} {t N : Nat} (ht : t < ls.length) (h : Stop ls t N) : N / ls.length = lenAt ls (whoC ls.length t N) := by
  have h1 := h.ends
  unfold LongC at h1
  by_cases c : N < ls.length
  · rw [Nat.div_eq_of_lt c] at h1 ⊢
    omega
  · have h2 := h.long (N - ls.length) (by omega)
    unfold LongC at h2
    have e1 : N / ls.length = (N - ls.length) / ls.length + 1 := by
      rw [Nat.div_eq_sub_div (by omega) (by omega)]
    have e2 : whoC ls.length t (N - ls.length) = whoC ls.length t N := by
      unfold whoC
      rw [show t + N = t + (N - ls.length) + ls.length by omega, Nat.add_mod_right]
    rw [e2] at h2
    omega
theorem stop_le {ls : List (List RC)} {t N j : Nat} (ht : t < ls.length) (h : Stop ls t N) (hj : j ≤ N) : j / ls.length ≤ lenAt ls (whoC ls.length t j) := by
  by_cases c : j < N
  · have := h.long j c
    unfold LongC at this
    omega
  · obtain rfl : j = N := by omega
    rw [stop_eq ht h]
    exact Nat.le_refl _
theorem stop_bound {ls : List (List RC)} {t j : Nat} (ht : t < ls.length) (h : ∀ i, i < j → LongC ls t i) : j ≤ ls.length * lenAt ls t := by
  apply Nat.le_of_not_lt
  intro c
  have h1 := h _ c
  unfold LongC at h1
  rw [Nat.mul_div_cancel_left _ (by omega)] at h1
  have e : whoC ls.length t (ls.length * lenAt ls t) = t := by
    unfold whoC
    rw [Nat.add_mul_mod_self_left, Nat.mod_eq_of_lt ht]
  rw [e] at h1
  omega
def turnN (ls : List (List RC)) (t : Nat) : Nat := ((List.range (ls.length * lenAt ls t + 1)).find? (fun j => decide (¬ LongC ls t j))).getD 0
theorem turn_stop {ls : List (List RC)} {t : Nat} (ht : t < ls.length) : Stop ls t (turnN ls t) := by
  unfold turnN
  cases h : (List.range (ls.length * lenAt ls t + 1)).find? (fun j => decide (¬ LongC ls t j)) with
  | none =>
    rw [List.find?_range_eq_none] at h
    have := stop_bound ht (j := ls.length * lenAt ls t + 1) (fun i hi => by have := h i hi; simpa using this)
    omega
  | some n =>
    rw [List.find?_range_eq_some] at h
    exact ⟨fun j hj => by have := h.2.2 j hj; simpa using this, by simpa using h.1⟩
theorem stop_one {ls : List (List RC)} {t N M : Nat} (h : Stop ls t N) (k : Stop ls t M) : N = M := by
  rcases Nat.lt_trichotomy N M with c | c | c
  · exact absurd (k.long N c) h.ends
  · exact c
  · exact absurd (h.long M c) k.ends
theorem taken_next {ls : List (List RC)} {t N : Nat} : takenC ls t (N + 1) = takenC ls t N ++ [recAt ls t N] := by
  unfold takenC
  rw [List.range_succ, List.map_append]
  rfl
theorem taken_len {ls : List (List RC)} {t N : Nat} : (takenC ls t N).length = N := by unfold takenC; simp
theorem count_len {ls : List (List RC)} {t N i : Nat} (ht : t < ls.length) (hi : i < ls.length) : ∀ j, (∀ k, k < j → LongC ls t k) → countC ls.length t j i ≤ lenAt ls i
  | 0, _ => by rw [count_zero]; exact Nat.zero_le _
  | j + 1, h => by
    have ih := count_len (N := N) ht hi j (fun k hk => h k (by omega))
    rw [count_next ht hi]
    split
    · rename_i e
      have h1 := h j (by omega)
      unfold LongC at h1
      rw [← e] at h1
      have := count_who (N := j) ht
      rw [← e] at this
      omega
    · omega
end Go.Proofs.YtifldnpccgbnkaaGreat
