/-
  Plainly: what Step makes of what may be kept may be kept; to which ports what goes out goes. Nothing is walked.
-/
import Derived.Test.YtkibiappjegogaaOsq
namespace Go.Proofs.Ytkibiappjegogaa
open Go.RowKit

theorem rise_pair : ∀ (l : List Int), (∀ j, 0 < j → j < l.length → l[j - 1]! < l[j]!) → l.Pairwise (· < ·)
  | [], _ => List.Pairwise.nil
  | [a], _ => by simp
  | a :: b :: l, h => by
    have ih := rise_pair (b :: l) (fun j h0 hj => by
      have := h (j + 1) (by omega) (by simpa using hj)
      obtain ⟨j', rfl⟩ : ∃ j', j = j' + 1 := ⟨j - 1, by omega⟩
      simpa using this)
    have hab : a < b := by simpa using h 1 (by omega) (by simp)
    refine List.Pairwise.cons (fun x hx => ?_) ih
    rcases List.mem_cons.1 hx with rfl | hx
    · exact hab
    · exact Int.lt_trans hab ((List.pairwise_cons.1 ih).1 x hx)
theorem pair_rise (l : List Int) (h : l.Pairwise (· < ·)) (j : Nat) (h0 : 0 < j) (hj : j < l.length) : l[j - 1]! < l[j]! := by
  rw [getElem!_pos l (j - 1) (by omega), getElem!_pos l j hj]
  exact List.pairwise_iff_getElem.1 h (j - 1) j (by omega) hj (by omega)
theorem map_get (ks : List KS) {j : Nat} (hj : j < ks.length) : (ks.map KS.key)[j]! = (ks[j]!).key := by
  rw [getElem!_pos _ j (by simpa using hj), getElem!_pos ks j hj]
  simp
def OKL (kd ar : Int) (ks : List KS) : Prop := (ks.map KS.key).Pairwise (· < ·) ∧ ∀ x ∈ ks, cntOK kd ar x.cnt
theorem keysOK_iff {kd ar : Int} {ks : List KS} (hk : keepsC kd = true) : keysOK kd ar ks ↔ OKL kd ar ks := by
  rw [keysOK_yes hk]
  constructor
  · intro h
    refine ⟨rise_pair _ (fun j h0 hj => ?_), fun x hx => ?_⟩
    · have hj' : j < ks.length := by simpa using hj
      rw [map_get ks hj', map_get ks (by omega)]
      have h1 := h j hj'
      unfold badK at h1
      have : ¬ (0 < j ∧ (ks[j]!).key ≤ (ks[j - 1]!).key) := fun e => h1 (.inl e)
      omega
    · obtain ⟨j, hj, rfl⟩ := List.getElem_of_mem hx
      have h1 := h j hj
      unfold badK at h1
      rw [getElem!_pos ks j hj] at h1
      by_cases c : cntOK kd ar ks[j].cnt
      · exact c
      · exact absurd (Or.inr c) h1
  · rintro ⟨h1, h2⟩ j hj (⟨h0, h3⟩ | h3)
    · have := pair_rise _ h1 j h0 (by simpa using hj)
      rw [map_get ks hj, map_get ks (by omega)] at this
      omega
    · exact h3 (h2 _ (by rw [getElem!_pos ks j hj]; exact List.getElem_mem _))
theorem cnt_next {kd ar c : Int} (hk : keepsC kd = true) (h0 : 0 ≤ c) (hs : staysC kd ar c = true) : cntOK kd ar (countC c) := by
  unfold keepsC at hk
  unfold staysC at hs
  unfold cntOK
  have h1 : 1 ≤ countC c ∧ countC c ≤ 9007199254740992 := by unfold countC; split <;> omega
  by_cases h6 : kd = 6
  · rw [if_pos h6]
    subst h6
    simp at hs
    exact ⟨h1.1, hs⟩
  · rw [if_neg h6]
    exact h1
theorem cnt_pos {kd ar c : Int} (h : cntOK kd ar c) : 1 ≤ c := by unfold cntOK at h; split at h <;> exact h.1
theorem stepK_ok {kd fn ar ky vl : Int} {ks : List KS} {i : Nat} {fd : Bool} (hk : keepsC kd = true) (h : OKL kd ar ks) (hf : Found1 ks ky i fd) : OKL kd ar (stepK kd fn ar ks ky vl i fd) := by
  obtain ⟨h1, h2⟩ := h
  cases fd with
  | true =>
    obtain ⟨hi, hkey⟩ := hf.yes rfl
    have hm : ks[i]! ∈ ks := by rw [getElem!_pos ks i hi]; exact List.getElem_mem _
    have hp := cnt_pos (h2 _ hm)
    unfold stepK hadK nowK
    rw [if_pos rfl]
    simp only [if_true]
    by_cases hs : staysC kd ar (ks[i]!).cnt = true
    · rw [if_pos hs]
      refine ⟨?_, fun x hx => ?_⟩
      · rw [List.map_set]
        have e1 : (ks.map KS.key).set i (ks[i]!).key = ks.map KS.key := by
          have : (ks[i]!).key = (ks.map KS.key)[i]'(by simpa using hi) := by rw [getElem!_pos ks i hi]; simp
          rw [this, List.set_getElem_self]
        show ((ks.map KS.key).set i (ks[i]!).key).Pairwise _
        rw [e1]
        exact h1
      · rcases List.mem_or_eq_of_mem_set hx with hx | rfl
        · exact h2 x hx
        · exact cnt_next hk (by omega) hs
    · rw [if_neg hs]
      have hsub : (ks.take i ++ ks.drop (i + 1)).Sublist ks := by
        have e : ks = ks.take i ++ ks.drop i := (List.take_append_drop i ks).symm
        have h3 : (ks.drop (i + 1)).Sublist (ks.drop i) := by rw [← List.drop_drop]; exact List.drop_sublist 1 _
        calc (ks.take i ++ ks.drop (i + 1)).Sublist (ks.take i ++ ks.drop i) := List.Sublist.append (List.Sublist.refl _) h3
          _ = ks := List.take_append_drop i ks
      exact ⟨h1.sublist (hsub.map _), fun x hx => h2 x (hsub.subset hx)⟩
  | false =>
    obtain ⟨n1, n2, n3⟩ := hf.no rfl
    unfold stepK hadK nowK
    simp only [Bool.false_eq_true, if_false]
    by_cases hs : staysC kd ar 0 = true
    · rw [if_pos hs]
      have hle := hf.le
      refine ⟨?_, fun x hx => ?_⟩
      · rw [List.map_append, List.map_cons, List.pairwise_append]
        have e : ks.map KS.key = (ks.take i).map KS.key ++ (ks.drop i).map KS.key := by rw [← List.map_append, List.take_append_drop]
        rw [e, List.pairwise_append] at h1
        obtain ⟨p1, p2, p3⟩ := h1
        have hlow : ∀ x ∈ (ks.take i).map KS.key, x < ky := fun x hx => by
          obtain ⟨y, hy, rfl⟩ := List.mem_map.1 hx
          have a1 := n2 y hy
          have a2 := n1 y (List.mem_of_mem_take hy)
          omega
        have hhigh : ∀ x ∈ (ks.drop i).map KS.key, ky < x := fun x hx => by
          by_cases hlt : i < ks.length
          · have a1 := n3 hlt
            have e2 : ks.drop i = ks[i] :: ks.drop (i + 1) := List.drop_eq_getElem_cons hlt
            rw [e2, List.map_cons] at p2 hx
            rw [getElem!_pos ks i hlt] at a1
            rcases List.mem_cons.1 hx with rfl | hx
            · exact a1
            · exact Int.lt_trans a1 ((List.pairwise_cons.1 p2).1 x hx)
          · rw [List.drop_of_length_le (by omega)] at hx; simp at hx
        refine ⟨p1, List.Pairwise.cons hhigh p2, fun a ha b hb => ?_⟩
        rcases List.mem_cons.1 hb with rfl | hb
        · exact hlow a ha
        · exact p3 a ha b hb
      · rcases List.mem_append.1 hx with hx | hx
        · exact h2 x (List.mem_of_mem_take hx)
        · rcases List.mem_cons.1 hx with rfl | hx
          · exact cnt_next hk (by decide) hs
          · exact h2 x (List.mem_of_mem_drop hx)
    · rw [if_neg hs]
      exact ⟨h1, h2⟩
/-- To which ports what goes out goes. -/
theorem outK_port {kd fn ar ky vl : Int} {ks : List KS} {i : Nat} {fd : Bool} : ∀ x ∈ outK kd fn ar ks ky vl i fd, x.port = 0 := by
  intro x hx
  unfold outK tellC at hx
  split at hx
  · cases hx
  · simp only [List.mem_singleton] at hx
    rw [hx]
end Go.Proofs.Ytkibiappjegogaa
