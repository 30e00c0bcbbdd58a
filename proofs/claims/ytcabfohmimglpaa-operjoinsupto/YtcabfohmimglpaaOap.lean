/-
  Keys apart, plainly. Nothing is walked.
-/
import Derived.Test.YtcabfohmimglpaaOfo
namespace Go.Proofs.Ytcabfohmimglpaa
open Go.RowKit

theorem rise_ext : ∀ {l1 l2 : List Int}, l1.Pairwise (· < ·) → l2.Pairwise (· < ·) → (∀ x, x ∈ l1 ↔ x ∈ l2) → l1 = l2
  | [], [], _, _, _ => rfl
  | [], b :: _, _, _, h => absurd ((h b).2 (List.mem_cons_self ..)) (by simp)
  | a :: _, [], _, _, h => absurd ((h a).1 (List.mem_cons_self ..)) (by simp)
  | a :: l1, b :: l2, h1, h2, h => by
    rw [List.pairwise_cons] at h1 h2
    have hab : a = b := by
      have ha := (h a).1 (List.mem_cons_self ..)
      have hb := (h b).2 (List.mem_cons_self ..)
      rw [List.mem_cons] at ha hb
      rcases ha with ha | ha
      · exact ha
      · rcases hb with hb | hb
        · exact hb.symm
        · have := h1.1 b hb
          have := h2.1 a ha
          omega
    subst hab
    have : l1 = l2 := rise_ext h1.2 h2.2 (fun x => by
      have hx := h x
      rw [List.mem_cons, List.mem_cons] at hx
      constructor
      · intro hm
        rcases hx.1 (.inr hm) with e | e
        · have := h1.1 x hm; omega
        · exact e
      · intro hm
        rcases hx.2 (.inr hm) with e | e
        · have := h2.1 x hm; omega
        · exact e)
    rw [this]
def ofKey (k : Int) (r : RC) : Bool := r.key == k
def putOf (k : Int) (x : PU) : Bool := x.key == k
def keptOf (k : Int) (x : KS) : Bool := x.key == k
theorem step_own (kd fn ar : Int) {s t : ST} {k : Int} (h : s k = t k) (r : RC) (hr : r.key = k) : stepC kd fn ar s r k = stepC kd fn ar t r k ∧ outC kd fn ar s r = outC kd fn ar t r := by
  subst hr
  unfold stepC outC
  rw [if_pos rfl, if_pos rfl, h]
  exact ⟨rfl, rfl⟩
theorem step_other (kd fn ar : Int) {s : ST} {k : Int} (r : RC) (hr : r.key ≠ k) : stepC kd fn ar s r k = s k := by
  unfold stepC
  rw [if_neg (fun e => hr e.symm)]
theorem out_key (kd fn ar : Int) (s : ST) (r : RC) : ∀ x ∈ outC kd fn ar s r, x.key = r.key := by
  intro x hx
  unfold outC tellC at hx
  split at hx
  · cases hx
  · simp only [List.mem_singleton] at hx
    rw [hx]
theorem own_state (kd fn ar k : Int) : ∀ (rs : List RC) (s t : ST), s k = t k → stateC kd fn ar s rs k = stateC kd fn ar t (rs.filter (ofKey k)) k ∧ (outsC kd fn ar s rs).filter (putOf k) = outsC kd fn ar t (rs.filter (ofKey k))
  | [], s, t, h => ⟨h, rfl⟩
  | r :: rs, s, t, h => by
    by_cases c : r.key = k
    · have hf : ofKey k r = true := by simp [ofKey, c]
      obtain ⟨h1, h2⟩ := step_own kd fn ar h r c
      obtain ⟨i1, i2⟩ := own_state kd fn ar k rs _ _ h1
      rw [List.filter_cons, if_pos hf]
      refine ⟨i1, ?_⟩
      show (outC kd fn ar s r ++ outsC kd fn ar (stepC kd fn ar s r) rs).filter (putOf k) = outC kd fn ar t r ++ _
      rw [List.filter_append, i2, ← h2, List.filter_eq_self.2 (fun x hx => by simp [putOf, out_key kd fn ar s r x hx, c])]
    · have hf : ¬ ofKey k r = true := by simp [ofKey, c]
      have h1 := step_other kd fn ar (s := s) r c
      obtain ⟨i1, i2⟩ := own_state kd fn ar k rs (stepC kd fn ar s r) t (h1.trans h)
      rw [List.filter_cons, if_neg hf]
      refine ⟨i1, ?_⟩
      show (outC kd fn ar s r ++ outsC kd fn ar (stepC kd fn ar s r) rs).filter (putOf k) = _
      rw [List.filter_append, i2, List.filter_eq_nil_iff.2 (fun x hx => by simp [putOf, out_key kd fn ar s r x hx, c]), List.nil_append]
theorem own_keys (k : Int) (rs : List RC) : keysC ((rs.filter (ofKey k)).map RC.key) = (keysC (rs.map RC.key)).filter (fun x => x == k) := by
  obtain ⟨p1, m1⟩ := keysC_facts ((rs.filter (ofKey k)).map RC.key)
  obtain ⟨p2, m2⟩ := keysC_facts (rs.map RC.key)
  refine rise_ext p1 (p2.filter _) (fun x => ?_)
  rw [m1, List.mem_filter, m2]
  simp only [List.mem_map, List.mem_filter, ofKey, beq_iff_eq]
  constructor
  · rintro ⟨r, ⟨h1, h2⟩, rfl⟩
    exact ⟨⟨r, h1, rfl⟩, h2⟩
  · rintro ⟨⟨r, h1, rfl⟩, h2⟩
    exact ⟨r, ⟨h1, h2⟩, rfl⟩
theorem fin_own {s t : ST} {k : Int} (h : s k = t k) (ks : List Int) : (finC s ks).filter (keptOf k) = finC t (ks.filter (fun x => x == k)) := by
  induction ks with
  | nil => rfl
  | cons x ks ih =>
    unfold finC at ih ⊢
    by_cases c : x = k
    · subst c
      have e1 : ((x == x) = true) := by simp
      by_cases d : (s x).1 = 0
      · have d2 : (t x).1 = 0 := by rw [← h]; exact d
        simpa [List.filter_cons, d, d2] using ih
      · have d2 : ¬ (t x).1 = 0 := by rw [← h]; exact d
        simpa [List.filter_cons, d, d2, keptOf, h] using ih
    · by_cases d : (s x).1 = 0
      · simpa [List.filter_cons, d, c] using ih
      · simpa [List.filter_cons, d, c, keptOf] using ih
/-- Keys apart. -/
theorem apart (kd fn ar k : Int) (rs : List RC) : (outsC kd fn ar ST.none rs).filter (putOf k) = outsC kd fn ar ST.none (rs.filter (ofKey k)) ∧ (finC (stateC kd fn ar ST.none rs) (keysC (rs.map RC.key))).filter (keptOf k) = finC (stateC kd fn ar ST.none (rs.filter (ofKey k))) (keysC ((rs.filter (ofKey k)).map RC.key)) := by
  obtain ⟨h1, h2⟩ := own_state kd fn ar k rs ST.none ST.none rfl
  exact ⟨h2, by rw [own_keys, fin_own h1]⟩
end Go.Proofs.Ytcabfohmimglpaa
