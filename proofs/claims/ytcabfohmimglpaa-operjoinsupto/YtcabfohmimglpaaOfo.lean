/-
  What a fold or a window keeps and lets out, plainly. Nothing is walked.
-/
import Derived.Test.YtcabfohmimglpaaOli
namespace Go.Proofs.Ytcabfohmimglpaa
open Go.RowKit

/-- What is kept of each key: how many, and what they came to. -/
abbrev ST := Int → Int × Int
def ST.none : ST := fun _ => (0, 0)
def stepC (kd fn ar : Int) (s : ST) (r : RC) : ST := fun k => if k = r.key then (if staysC kd ar (s k).1 = true then (countC (s k).1, accC fn (s k).1 (s k).2 r.val) else (0, 0)) else s k
def outC (kd fn ar : Int) (s : ST) (r : RC) : List PU := tellC kd (staysC kd ar (s r.key).1) r.key (accC fn (s r.key).1 (s r.key).2 r.val)
def stateC (kd fn ar : Int) (s : ST) (rs : List RC) : ST := rs.foldl (stepC kd fn ar) s
def outsC (kd fn ar : Int) : ST → List RC → List PU
  | _, [] => []
  | s, r :: rs => outC kd fn ar s r ++ outsC kd fn ar (stepC kd fn ar s r) rs
theorem stateC_snoc (kd fn ar : Int) (s : ST) (rs : List RC) (r : RC) : stateC kd fn ar s (rs ++ [r]) = stepC kd fn ar (stateC kd fn ar s rs) r := by
  unfold stateC
  rw [List.foldl_append]
  rfl
theorem outsC_snoc (kd fn ar : Int) : ∀ (rs : List RC) (s : ST) (r : RC), outsC kd fn ar s (rs ++ [r]) = outsC kd fn ar s rs ++ outC kd fn ar (stateC kd fn ar s rs) r
  | [], s, r => by
    show outC kd fn ar s r ++ [] = [] ++ outC kd fn ar s r
    rw [List.append_nil, List.nil_append]
  | x :: rs, s, r => by
    show outC kd fn ar s x ++ outsC kd fn ar (stepC kd fn ar s x) (rs ++ [r]) = _
    rw [outsC_snoc kd fn ar rs (stepC kd fn ar s x) r, ← List.append_assoc]
    rfl
theorem outC_len (kd fn ar : Int) (s : ST) (r : RC) : (outC kd fn ar s r).length ≤ 1 := by
  unfold outC tellC
  split <;> simp
theorem outsC_len (kd fn ar : Int) : ∀ (rs : List RC) (s : ST), (outsC kd fn ar s rs).length ≤ rs.length
  | [], _ => Nat.le_refl _
  | r :: rs, s => by
    have h1 := outC_len kd fn ar s r
    have h2 := outsC_len kd fn ar rs (stepC kd fn ar s r)
    show (outC kd fn ar s r ++ outsC kd fn ar (stepC kd fn ar s r) rs).length ≤ rs.length + 1
    rw [List.length_append]
    omega
/-- Counts are what counts may be. -/
def ST.fair (s : ST) : Prop := ∀ k, 0 ≤ (s k).1 ∧ (s k).1 ≤ 9007199254740992
theorem fair_step {kd fn ar : Int} {s : ST} (h : ST.fair s) (r : RC) : ST.fair (stepC kd fn ar s r) := fun k => by
  have := h k
  unfold stepC
  split
  · split
    · show 0 ≤ countC _ ∧ countC _ ≤ _
      unfold countC
      split <;> omega
    · exact ⟨by decide, by decide⟩
  · exact this
theorem fair_state (kd fn ar : Int) : ∀ (rs : List RC) (s : ST), ST.fair s → ST.fair (stateC kd fn ar s rs)
  | [], _, h => h
  | r :: rs, s, h => fair_state kd fn ar rs (stepC kd fn ar s r) (fair_step h r)
/-- Entries that hold what is kept. -/
structure EntsAt (s : ST) (ks : List Int) (es : List EN) : Prop where
  keys : es.map EN.key = ks
  each : ∀ e ∈ es, e.first = 0 ∧ e.cnt = (s e.key).1 ∧ e.acc = (s e.key).2
def finC (s : ST) (ks : List Int) : List KS := (ks.filter (fun k => decide ((s k).1 ≠ 0))).map (fun k => ⟨k, (s k).1, (s k).2⟩)
theorem ents_fin {s : ST} : ∀ {es : List EN} {ks : List Int}, EntsAt s ks es → (es.filter EN.on).map EN.ks = finC s ks
  | [], ks, h => by
    have := h.keys
    subst this
    rfl
  | e :: es, ks, h => by
    have hk := h.keys
    subst hk
    have ih := ents_fin (s := s) (es := es) ⟨rfl, fun x hx => h.each x (List.mem_cons_of_mem _ hx)⟩
    obtain ⟨_, h2, h3⟩ := h.each e (List.mem_cons_self ..)
    unfold finC at ih ⊢
    rw [List.map_cons, List.filter_cons, List.filter_cons]
    by_cases c : (s e.key).1 = 0
    · have e1 : EN.on e = false := by simp [EN.on, h2, c]
      have e2 : decide ((s e.key).1 ≠ 0) = false := by simp [c]
      rw [e1, e2]
      exact ih
    · have e1 : EN.on e = true := by simp [EN.on, h2, c]
      have e2 : decide ((s e.key).1 ≠ 0) = true := by simp [c]
      rw [e1, e2]
      show EN.ks e :: _ = _ :: _
      rw [ih]
      simp only [EN.ks, h2, h3]
theorem ents_rise {s : ST} {es : List EN} {ks : List Int} (h : EntsAt s ks es) (hp : ks.Pairwise (· < ·)) : Rises es := fun i j hij hj => by
  have hk := h.keys
  subst hk
  rw [getElem!_pos es i (by omega), getElem!_pos es j hj]
  have := List.pairwise_iff_getElem.1 hp i j (by simp; omega) (by simpa using hj) hij
  simpa using this
theorem place_hit {s : ST} {es : List EN} {ks : List Int} {k : Int} {i : Nat} (h : EntsAt s ks es) (hpk : ks.Pairwise (· < ·)) (hm : k ∈ ks) (hp : Place es k i) : i < es.length ∧ (es[i]!).key = k := by
  obtain ⟨p1, p2, p3⟩ := hp
  rw [← h.keys, List.mem_map] at hm
  obtain ⟨e, he, hek⟩ := hm
  obtain ⟨j, hj, rfl⟩ := List.getElem_of_mem he
  have hji : i ≤ j := by
    apply Classical.byContradiction
    intro hn
    have := p2 j (by omega)
    rw [getElem!_pos es j hj] at this
    omega
  have hil : i < es.length := by omega
  by_cases e : i = j
  · subst e
    exact ⟨hil, by rw [getElem!_pos es i hil]; exact hek⟩
  · have h1 := ents_rise h hpk i j (by omega) hj
    have h2 := p3 i (Nat.le_refl _) hil
    rw [getElem!_pos es j hj, hek] at h1
    omega
theorem ents_set {kd fn ar : Int} {s : ST} {es : List EN} {ks : List Int} {i : Nat} {r : RC} {gp : Int} (h : EntsAt s ks es) (hp : ks.Pairwise (· < ·)) (hi : i < es.length) (hk : (es[i]!).key = r.key) {cn ac : Int} (h1 : (stepC kd fn ar s r r.key).1 = cn) (h2 : (stepC kd fn ar s r r.key).2 = ac) : EntsAt (stepC kd fn ar s r) ks (es.set i ⟨0, r.key, cn, ac, gp⟩) := by
  refine ⟨?_, fun e he => ?_⟩
  · rw [List.map_set, ← h.keys]
    show (es.map EN.key).set i r.key = es.map EN.key
    rw [← hk, getElem!_pos es i hi]
    have : (es[i]).key = (es.map EN.key)[i]'(by simpa using hi) := by simp
    rw [this, List.set_getElem_self]
  · obtain ⟨j, hj, rfl⟩ := List.getElem_of_mem he
    rw [List.length_set] at hj
    rw [List.getElem_set]
    by_cases e : i = j
    · rw [if_pos e]
      exact ⟨rfl, h1.symm, h2.symm⟩
    · rw [if_neg e]
      have hne : (es[j]).key ≠ r.key := by
        have hr := ents_rise h hp
        rw [← hk]
        intro e2
        rcases Nat.lt_or_gt_of_ne e with hlt | hlt
        · have := hr i j hlt hj
          rw [getElem!_pos es j hj] at this
          omega
        · have := hr j i hlt hi
          rw [getElem!_pos es j hj] at this
          omega
      have hs : stepC kd fn ar s r (es[j]).key = s (es[j]).key := by unfold stepC; rw [if_neg hne]
      rw [hs]
      exact h.each _ (List.getElem_mem hj)
theorem ents_start (ks : List Int) : EntsAt ST.none ks (ks.map (fun k => (⟨0, k, 0, 0, 0⟩ : EN))) := by
  refine ⟨by rw [List.map_map]; exact List.map_id'' (fun _ => rfl) _, fun e he => ?_⟩
  rw [List.mem_map] at he
  obtain ⟨k, _, rfl⟩ := he
  exact ⟨rfl, rfl, rfl⟩
end Go.Proofs.Ytcabfohmimglpaa
