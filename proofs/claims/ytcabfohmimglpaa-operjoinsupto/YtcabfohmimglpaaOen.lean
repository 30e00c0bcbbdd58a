/-
  The keys of records, each once and rising, plainly. Nothing is walked.
-/
import Derived.Test.YtcabfohmimglpaaOsr
namespace Go.Proofs.Ytcabfohmimglpaa
open Go.RowKit

theorem compact_rises (d : Array Int) (hs : ∀ i j, i ≤ j → j < d.size → d[i]! ≤ d[j]!) : ∀ m, m ≤ d.size → (Lib.compactUpTo d m).Pairwise (· < ·) ∧ (∀ x ∈ Lib.compactUpTo d m, ∃ i, i < m ∧ d[i]! = x) ∧ ∀ i, i < m → d[i]! ∈ Lib.compactUpTo d m
  | 0, _ => by
    have : Lib.compactUpTo d 0 = [] := rfl
    rw [this]
    exact ⟨List.Pairwise.nil, by simp, fun i hi => absurd hi (Nat.not_lt_zero i)⟩
  | m + 1, hm => by
    obtain ⟨h1, h2, h3⟩ := compact_rises d hs m (by omega)
    rw [Lib.compactUpTo_succ]
    by_cases hk : Lib.keeps d m = true
    · rw [if_pos hk]
      refine ⟨?_, fun x hx => ?_, fun i hi => ?_⟩
      · rw [List.pairwise_append]
        refine ⟨h1, List.pairwise_singleton _ _, fun x hx y hy => ?_⟩
        simp only [List.mem_singleton] at hy
        subst hy
        obtain ⟨i, hi, rfl⟩ := h2 x hx
        have hne : d[m]! ≠ d[m - 1]! := by
          intro e
          simp [Lib.keeps, e] at hk
          omega
        have h4 := hs i (m - 1) (by omega) (by omega)
        have h5 := hs (m - 1) m (by omega) (by omega)
        omega
      · rcases List.mem_append.1 hx with hx | hx
        · obtain ⟨i, hi, e⟩ := h2 x hx
          exact ⟨i, by omega, e⟩
        · simp only [List.mem_singleton] at hx
          exact ⟨m, by omega, hx.symm⟩
      · by_cases e : i = m
        · subst e; simp
        · exact List.mem_append_left _ (h3 i (by omega))
    · rw [if_neg hk, List.append_nil]
      have hne : 0 < m ∧ d[m]! = d[m - 1]! := by
        have hm0 : m ≠ 0 := by intro e; subst e; simp [Lib.keeps] at hk
        refine ⟨by omega, ?_⟩
        apply Classical.byContradiction
        intro e
        exact hk (Lib.keeps_pos e)
      refine ⟨h1, fun x hx => ?_, fun i hi => ?_⟩
      · obtain ⟨i, hi, e⟩ := h2 x hx
        exact ⟨i, by omega, e⟩
      · by_cases e : i = m
        · subst e
          rw [hne.2]
          exact h3 (i - 1) (by omega)
        · exact h3 i (by omega)
def keysC (ks : List Int) : List Int := Lib.compact (sortC ks)
theorem sortC_perm (ks : List Int) : (sortC ks).Perm ks := List.mergeSort_perm _ _
theorem sortC_sorted (ks : List Int) : (sortC ks).Pairwise (· ≤ ·) := by
  have := List.pairwise_mergeSort (le := fun (x y : Int) => decide (x ≤ y)) (fun a b c h1 h2 => by simp only [decide_eq_true_eq] at h1 h2 ⊢; omega) (fun a b => by simp only [Bool.or_eq_true, decide_eq_true_eq]; omega) ks
  exact this.imp (fun h => by simpa using h)
theorem keysC_facts (ks : List Int) : (keysC ks).Pairwise (· < ·) ∧ ∀ x, x ∈ keysC ks ↔ x ∈ ks := by
  have hs := sortC_sorted ks
  have hp := sortC_perm ks
  have hd : ∀ i j, i ≤ j → j < (sortC ks).toArray.size → (sortC ks).toArray[i]! ≤ (sortC ks).toArray[j]! := fun i j h1 h2 => by
    simp only [List.size_toArray] at h2
    rw [getElem!_pos _ i (by simp; omega), getElem!_pos _ j (by simp; omega)]
    simp only [List.getElem_toArray]
    by_cases e : i = j
    · subst e; exact Int.le_refl _
    · exact List.pairwise_iff_getElem.1 hs i j (by omega) (by omega) (by omega)
  obtain ⟨h1, h2, h3⟩ := compact_rises (sortC ks).toArray hd (sortC ks).length (by simp)
  refine ⟨h1, fun x => ⟨fun hx => ?_, fun hx => ?_⟩⟩
  · obtain ⟨i, hi, rfl⟩ := h2 x hx
    rw [← hp.mem_iff, getElem!_pos _ i (by simpa using hi)]
    simp
  · rw [← hp.mem_iff] at hx
    obtain ⟨i, hi, rfl⟩ := List.getElem_of_mem hx
    have := h3 i hi
    rw [getElem!_pos _ i (by simpa using hi)] at this
    exact (by simpa using this : (sortC ks)[i] ∈ Lib.compactUpTo (sortC ks).toArray (sortC ks).length)
end Go.Proofs.Ytcabfohmimglpaa
