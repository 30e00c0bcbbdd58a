/-
  A ledger of what was kept by rising keys, plainly: what holds of it while records go through it, and what it lists in the end. Nothing is walked.
-/
import Derived.Test.YtcabfohmimglpaaOfo
import Derived.Test.YtcabfohmimglpaaOgp
import Derived.Test.YtcabfohmimglpaaOli
namespace Go.Proofs.Ytcabfohmimglpaa
open Go.RowKit

/-- What is kept, by keys, rising. -/
structure SKp (s : ST) (ks : List KS) : Prop where
  rise : (ks.map KS.key).Pairwise (· < ·)
  each : ∀ x ∈ ks, s x.key = (x.cnt, x.acc) ∧ x.cnt ≠ 0
  all : ∀ k, (s k).1 ≠ 0 → ∃ x ∈ ks, x.key = k
/-- What list does. -/
def mrg : Nat → List KS → List Bool → List EN → List KS
  | _, [], _, fs => fs.map EN.ks
  | i, o :: os, gs, fs => (fs.takeWhile (fun f => f.gap == (i : Int))).map EN.ks ++ ((if gs.headD false = true then [] else [o]) ++ mrg (i + 1) os gs.tail (fs.dropWhile (fun f => f.gap == (i : Int))))
theorem mem_split {α : Type} (q : α → Bool) (l : List α) (x : α) : x ∈ l ↔ x ∈ l.takeWhile q ∨ x ∈ l.dropWhile q := by
  conv => lhs; rw [← List.takeWhile_append_dropWhile (p := q) (l := l)]
  exact List.mem_append
theorem mem_mrg : ∀ (os : List KS) (i : Nat) (gs : List Bool) (fs : List EN) (x : KS), x ∈ mrg i os gs fs ↔ (∃ j, j < os.length ∧ gs.getD j false = false ∧ os[j]! = x) ∨ ∃ f ∈ fs, f.ks = x
  | [], i, gs, fs, x => by
    unfold mrg
    rw [List.mem_map]
    exact ⟨fun h => .inr h, fun h => h.elim (fun ⟨j, hj, _⟩ => absurd hj (Nat.not_lt_zero j)) id⟩
  | o :: os, i, gs, fs, x => by
    have ih := mem_mrg os (i + 1) gs.tail (fs.dropWhile (fun f => f.gap == (i : Int))) x
    unfold mrg
    rw [List.mem_append, List.mem_append, ih, List.mem_map]
    have hh : gs.headD false = gs.getD 0 false := by cases gs <;> rfl
    have ht : ∀ j, gs.tail.getD j false = gs.getD (j + 1) false := fun j => by cases gs <;> rfl
    constructor
    · rintro (⟨f, hf, rfl⟩ | h | h)
      · exact .inr ⟨f, (mem_split _ _ _).2 (.inl hf), rfl⟩
      · by_cases hg : gs.headD false = true
        · rw [if_pos hg] at h; cases h
        · rw [if_neg hg] at h
          simp only [List.mem_singleton] at h
          exact .inl ⟨0, by simp, by rw [← hh]; simpa using hg, h.symm⟩
      · rcases h with ⟨j, h1, h2, h3⟩ | ⟨f, h1, h2⟩
        · exact .inl ⟨j + 1, by simpa using h1, by rw [← ht]; exact h2, by simpa using h3⟩
        · exact .inr ⟨f, (mem_split _ _ _).2 (.inr h1), h2⟩
    · rintro (⟨j, h1, h2, h3⟩ | ⟨f, h1, h2⟩)
      · cases j with
        | zero =>
          refine .inr (.inl ?_)
          rw [← hh] at h2
          rw [h2, if_neg (by decide)]
          have : o = x := by simpa using h3
          simp [this]
        | succ j => exact .inr (.inr (.inl ⟨j, by simpa using h1, by rw [ht]; exact h2, by simpa using h3⟩))
      · rcases (mem_split (fun f : EN => f.gap == (i : Int)) _ _).1 h1 with h | h
        · exact .inl ⟨f, h, h2⟩
        · exact .inr (.inr (.inr ⟨f, h, h2⟩))
theorem take_all {α : Type} (q : α → Bool) : ∀ (l : List α), ∀ x ∈ l.takeWhile q, q x = true
  | [], x, h => by cases h
  | y :: l, x, h => by
    by_cases hy : q y = true
    · rw [List.takeWhile_cons_of_pos hy] at h
      rcases List.mem_cons.1 h with rfl | h
      · exact hy
      · exact take_all q l x h
    · rw [List.takeWhile_cons_of_neg hy] at h
      cases h
/-- Behind those whose gap is i, all gaps are above i. -/
theorem drop_gap {i : Nat} : ∀ {fs : List EN}, fs.Pairwise (fun a b => a.gap ≤ b.gap) → (∀ f ∈ fs, (i : Int) ≤ f.gap) → ∀ f ∈ fs.dropWhile (fun f => f.gap == (i : Int)), ((i + 1 : Nat) : Int) ≤ f.gap
  | [], _, _, f, h => by cases h
  | e :: fs, hp, hg, f, h => by
    rw [List.pairwise_cons] at hp
    by_cases he : (e.gap == (i : Int)) = true
    · rw [List.dropWhile_cons, if_pos he] at h
      exact drop_gap hp.2 (fun f hf => hg f (List.mem_cons_of_mem _ hf)) f h
    · rw [List.dropWhile_cons, if_neg he] at h
      have h1 : ((i + 1 : Nat) : Int) ≤ e.gap := by
        have h2 := hg e (by simp)
        have h3 : e.gap ≠ (i : Int) := by simpa using he
        omega
      rcases List.mem_cons.1 h with rfl | h
      · exact h1
      · have := hp.1 f h
        omega
theorem drop_sub {α : Type} (q : α → Bool) (l : List α) : (l.dropWhile q).Sublist l := List.dropWhile_sublist q
theorem rise_mrg : ∀ (os : List KS) (i : Nat) (gs : List Bool) (fs : List EN), (fs.map EN.key).Pairwise (· < ·) → (os.map KS.key).Pairwise (· < ·) → (∀ f ∈ fs, (i : Int) ≤ f.gap) → fs.Pairwise (fun a b => a.gap ≤ b.gap) →
    (∀ f ∈ fs, ∀ j, j < os.length → gs.getD j false = false → (((i + j : Nat) : Int) < f.gap → (os[j]!).key < f.key) ∧ (f.gap ≤ ((i + j : Nat) : Int) → f.key < (os[j]!).key)) →
    ((mrg i os gs fs).map KS.key).Pairwise (· < ·)
  | [], i, gs, fs, h1, _, _, _, _ => by
    unfold mrg
    rw [List.map_map]
    exact h1
  | o :: os, i, gs, fs, h1, h2, h3, h4, h5 => by
    have hs := List.takeWhile_append_dropWhile (p := fun f : EN => f.gap == (i : Int)) (l := fs)
    obtain ⟨T, hT⟩ : ∃ T, fs.takeWhile (fun f => f.gap == (i : Int)) = T := ⟨_, rfl⟩
    obtain ⟨D, hD⟩ : ∃ D, fs.dropWhile (fun f => f.gap == (i : Int)) = D := ⟨_, rfl⟩
    have hDg := drop_gap h4 h3
    have hTg := take_all (fun f : EN => f.gap == (i : Int)) fs
    have hDs := drop_sub (fun f : EN => f.gap == (i : Int)) fs
    rw [hT] at hs hTg
    rw [hD] at hs hDg hDs
    rw [← hs, List.map_append, List.pairwise_append] at h1
    obtain ⟨r1, r2, r3⟩ := h1
    rw [List.map_cons, List.pairwise_cons] at h2
    have ht : ∀ j, gs.tail.getD j false = gs.getD (j + 1) false := fun j => by cases gs <;> rfl
    have hh : gs.headD false = gs.getD 0 false := by cases gs <;> rfl
    have hTm : ∀ f ∈ T, f ∈ fs := fun f hf => by rw [← hs]; exact List.mem_append_left _ hf
    have hDm : ∀ f ∈ D, f ∈ fs := fun f hf => by rw [← hs]; exact List.mem_append_right _ hf
    have ih := rise_mrg os (i + 1) gs.tail D r2 h2.2 hDg (h4.sublist hDs) (fun f hf j hj hg => by
      have h9 := h5 f (hDm f hf) (j + 1) (by simpa using hj) (by rw [← ht]; exact hg)
      have e1 : i + (j + 1) = i + 1 + j := by omega
      rw [e1] at h9
      simpa using h9)
    unfold mrg
    rw [hT, hD, List.map_append, List.map_append, List.pairwise_append]
    have hrest : ∀ y ∈ (mrg (i + 1) os gs.tail D).map KS.key, (∀ f ∈ T, f.key < y) ∧ (gs.headD false = false → o.key < y) := fun y hy => by
      rw [List.mem_map] at hy
      obtain ⟨x, hx, rfl⟩ := hy
      rw [mem_mrg] at hx
      rcases hx with ⟨j, j1, j2, rfl⟩ | ⟨f, f1, rfl⟩
      · refine ⟨fun f hf => ?_, fun _ => ?_⟩
        · have h9 := (h5 f (hTm f hf) (j + 1) (by simpa using j1) (by rw [← ht]; exact j2)).2 (by
            have h8 : f.gap = (i : Int) := by simpa using hTg f hf
            omega)
          simpa using h9
        · refine h2.1 _ ?_
          rw [List.mem_map]
          exact ⟨os[j]!, by rw [getElem!_pos os j j1]; exact List.getElem_mem _, rfl⟩
      · refine ⟨fun g hg => r3 _ (List.mem_map_of_mem hg) _ (List.mem_map_of_mem f1), fun hg => ?_⟩
        have h9 := (h5 f (hDm f f1) 0 (by simp) (by rw [← hh]; exact hg)).1 (by have := hDg f f1; omega)
        show o.key < f.key
        simpa using h9
    refine ⟨by rw [List.map_map]; exact r1, ?_, fun a ha b hb => ?_⟩
    · rw [List.pairwise_append]
      refine ⟨?_, ih, fun a ha b hb => ?_⟩
      · by_cases hg : gs.headD false = true
        · rw [if_pos hg]; exact List.Pairwise.nil
        · rw [if_neg hg]; exact List.pairwise_singleton _ _
      · by_cases hg : gs.headD false = true
        · rw [if_pos hg] at ha; cases ha
        · rw [if_neg hg] at ha
          simp only [List.map_cons, List.map_nil, List.mem_singleton] at ha
          rw [ha]
          exact (hrest b hb).2 (by simpa using hg)
    · rw [List.map_map, List.mem_map] at ha
      obtain ⟨f, hf, rfl⟩ := ha
      rw [List.mem_append] at hb
      rcases hb with hb | hb
      · by_cases hg : gs.headD false = true
        · rw [if_pos hg] at hb; cases hb
        · rw [if_neg hg] at hb
          simp only [List.map_cons, List.map_nil, List.mem_singleton] at hb
          rw [hb]
          have h9 := (h5 f (hTm f hf) 0 (by simp) (by rw [← hh]; simpa using hg)).2 (by
            have h8 : f.gap = (i : Int) := by simpa using hTg f hf
            omega)
          simpa [EN.ks] using h9
      · exact (hrest b hb).1 f hf
end Go.Proofs.Ytcabfohmimglpaa
