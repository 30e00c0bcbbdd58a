/-
  What was committed, done again: plainly.
-/
import Derived.Test.YtboofnkajjnmeaaSlc
namespace Go.Proofs.Ytboofnkajjnmeaa

theorem rais_self {s : SK} {e : Int} (h : ¬ s.reg < e) : raisC s e = s := if_neg h
theorem rais_at {s : SK} {e : Int} (h : ¬ e < s.reg) : (raisC s e).reg = e := by
  unfold raisC
  split
  · rfl
  · omega
theorem com_done {s : SK} {e i : Int} (h : comE s e i = 0) : posI e ∧ posI i ∧ doneC (comS s e i) e i = true := by
  by_cases hp : posI e ∧ posI i
  · by_cases hf : e < s.reg
    · unfold comE at h
      rw [if_pos hp, if_pos hf] at h
      exact absurd h (by decide)
    · have hr := rais_at hf
      unfold comE at h
      rw [if_pos hp, if_neg hf] at h
      refine ⟨hp.1, hp.2, ?_⟩
      unfold comS
      rw [if_pos hp, if_neg hf]
      unfold comE1 at h
      unfold comS1
      by_cases hd : doneC (raisC s e) e i = true
      · rw [if_pos hd]
        exact hd
      · rw [if_neg hd] at h ⊢
        cases hfi : findC (raisC s e) i with
        | none =>
          rw [hfi] at h
          exact absurd h (by show ¬ (4 : Int) = 0; decide)
        | some t =>
          rw [hfi] at h
          simp only at h ⊢
          rw [if_pos h]
          exact decide_eq_true ⟨hr.symm, (insI_mem i _).2 (.inl rfl)⟩
  · unfold comE at h
    rw [if_neg hp] at h
    exact absurd h (by decide)
theorem done_reg {s : SK} {e i : Int} (h : doneC s e i = true) : s.reg = e := (of_decide_eq_true h).1.symm
theorem com_again {s : SK} {e i : Int} (hp : posI e) (hi : posI i) (h : doneC s e i = true) : comE s e i = 0 ∧ comS s e i = s := by
  have hr := done_reg h
  have hs : raisC s e = s := rais_self (by omega)
  constructor
  · unfold comE comE1
    rw [if_pos ⟨hp, hi⟩, if_neg (by omega), hs, if_pos h]
  · unfold comS comS1
    rw [if_pos ⟨hp, hi⟩, if_neg (by omega), hs, if_pos h]
theorem abo_again {s : SK} {e i : Int} (hp : posI e) (hi : posI i) (h : doneC s e i = true) : aboE s e i = 5 ∧ aboS s e i = s := by
  have hr := done_reg h
  have hs : raisC s e = s := rais_self (by omega)
  constructor
  · unfold aboE aboE1
    rw [if_pos ⟨hp, hi⟩, if_neg (by omega), hs, if_pos h]
  · unfold aboS aboS1
    rw [if_pos ⟨hp, hi⟩, if_neg (by omega), hs, if_pos h]
theorem pre_again {s : SK} {t : TX} {parts : Int} (hm : mayC parts t) (h : doneC s t.ep t.id = true) : preE parts s t = 0 ∧ preS parts s t = s := by
  have hr := done_reg h
  have hs : raisC s t.ep = s := rais_self (by omega)
  constructor
  · unfold preE preE1
    rw [if_pos hm, if_neg (by omega), hs, if_pos h]
  · unfold preS preS1
    rw [if_pos hm, if_neg (by omega), hs, if_pos h]
/-- A call adds one name at most. -/
theorem rais_done (s : SK) (e : Int) : (raisC s e).done.length ≤ s.done.length := by
  unfold raisC
  split <;> simp
theorem com_len (s : SK) (e i : Int) : (comS s e i).done.length ≤ s.done.length + 1 := by
  have hr := rais_done s e
  unfold comS
  split
  · split
    · omega
    · unfold comS1
      split
      · omega
      · split
        · split
          · show (insI i _).length ≤ _
            rw [insI_len]
            omega
          · omega
        · omega
  · omega
theorem pre_len (parts : Int) (s : SK) (t : TX) : (preS parts s t).done.length ≤ s.done.length := by
  have hr := rais_done s t.ep
  unfold preS
  split
  · split
    · omega
    · unfold preS1
      split
      · exact hr
      · split
        · exact hr
        · split
          · split
            · exact hr
            · exact hr
          · exact hr
  · omega
theorem vec_rais (s : SK) (e : Int) : (raisC s e).vec = s.vec := by
  unfold raisC
  split <;> rfl
/-- What a sink of n partitions keeps has a vector of n. -/
theorem pre_vec (parts : Int) (s : SK) (t : TX) : (preS parts s t).vec.length = s.vec.length := by
  have hr := vec_rais s t.ep
  unfold preS
  split
  · split
    · rfl
    · unfold preS1
      split
      · rw [hr]
      · split
        · rw [hr]
        · split
          · split
            · rw [hr]
            · exact congrArg List.length hr
          · rw [hr]
  · rfl
theorem com_vec {s : SK} (h : okS s) (e i : Int) : (comS s e i).vec.length = s.vec.length := by
  have hr := vec_rais s e
  unfold comS
  split
  · split
    · rfl
    · unfold comS1
      split
      · rw [hr]
      · split
        · rename_i t hf
          split
          · have hm : t ∈ (raisC s e).pre := List.mem_of_find?_eq_some hf
            have hm2 : t ∈ s.pre := by
              unfold raisC at hm
              split at hm
              · simp at hm
              · exact hm
            have h9 := (h.may t hm2).1.2.2.2.2.2.1
            show t.vs.length = _
            omega
          · rw [hr]
        · rw [hr]
  · rfl
end Go.Proofs.Ytboofnkajjnmeaa
