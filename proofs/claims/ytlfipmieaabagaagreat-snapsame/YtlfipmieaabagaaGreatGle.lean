/-
  Plainly: in a graph without a fault each port leads to an operator behind it, the sink is one, and there are as many ports as inputs. No walk.
-/
import Derived.Test.YtlfipmieaabagaaGreatGck
import Derived.Test.YtlfipmieaabagaaGreatGto
namespace Go.Proofs.YtlfipmieaabagaaGreat
open Go.RowKit

theorem scan_nz (parts : Int) : ∀ (os : List GO) (s : SS) (x : Nat × Int), (os.foldl (stepS parts) s).bad = some x → s.bad = some x ∨ x.2 ≠ 0
  | [], s, x, h => .inl h
  | o :: os, s, x, h => by
    rw [List.foldl_cons] at h
    rcases scan_nz parts os _ x h with h1 | h1
    · unfold stepS at h1
      cases hs : s.bad with
      | some y => rw [hs] at h1; simp only at h1; rw [hs] at h1; exact .inl h1
      | none =>
        rw [hs] at h1
        simp only at h1
        by_cases h0 : (oneC parts o s.a s.T).1 = 0
        · rw [if_pos h0] at h1; cases h1
        · rw [if_neg h0] at h1
          simp only [Option.some.injEq] at h1
          rw [← h1]
          exact .inr h0
    · exact .inr h1
structure Good (parts : Int) (os : List GO) : Prop where
  len : os.length ≤ 24
  scan : (scanS parts os).bad = none
  loose : ∀ n, n < os.length → looseP os n = false
  sinks : sinkN os = 1
theorem good_of {parts : Int} {os : List GO} (h : (checkC parts os).2 = 0) : Good parts os := by
  unfold checkC at h
  by_cases h1 : 1 ≤ parts ∧ parts ≤ 4
  · rw [if_pos h1] at h
    by_cases h2 : os.length ≤ 24
    · rw [if_pos h2] at h
      cases hs : (scanS parts os).bad with
      | some x =>
        rw [hs] at h
        simp only at h
        rcases scan_nz parts os ⟨none, [], []⟩ x hs with h3 | h3
        · cases h3
        · exact absurd h h3
      | none =>
        rw [hs] at h
        simp only at h
        cases hl : looseAt os with
        | some n => rw [hl] at h; simp at h
        | none =>
          rw [hl] at h
          simp only at h
          unfold looseAt at hl
          rw [List.find?_range_eq_none] at hl
          unfold endsC at h
          refine ⟨h2, hs, fun n hn => by have := hl n hn; simpa using this, ?_⟩
          split at h
          · split at h
            · assumption
            · cases h
          · cases h
    · rw [if_neg h2] at h; simp at h
  · rw [if_neg h1] at h; simp at h
theorem Good.edge {parts : Int} {os : List GO} (g : Good parts os) {k : Nat} (hk : k < os.length) {e : GE} (he : e ∈ (os[k]!).ins) : 0 ≤ e.f ∧ e.f < (k : Int) := by
  have hi := (one_zero (scan_good g.scan hk).2).2.2.1
  unfold insC at hi
  rw [Bool.and_eq_true, List.all_eq_true] at hi
  have := hi.2 e he
  unfold edgeC at this
  simp only [Bool.and_eq_true, decide_eq_true_eq] at this
  have hl : (os.take k).length = k := by simp; omega
  omega
theorem firstO_some {f : GO → Bool} {os : List GO} {n : Nat} (h : firstO f os = some n) : n < os.length ∧ f os[n]! = true ∧ ∀ j, j < n → f os[j]! = false := by
  unfold firstO at h
  rw [List.find?_range_eq_some] at h
  exact ⟨by simpa using h.2.1, h.1, fun j hj => by have := h.2.2 j hj; simpa using this⟩
theorem firstO_ex {f : GO → Bool} {os : List GO} {n : Nat} (hn : n < os.length) (h : f os[n]! = true) : ∃ k, firstO f os = some k := by
  cases hq : firstO f os with
  | some k => exact ⟨k, rfl⟩
  | none =>
    unfold firstO at hq
    rw [List.find?_range_eq_none] at hq
    have := hq n hn
    rw [h] at this
    cases this
theorem idxE_some {es : List GE} {e : GE} {i : Nat} (h : idxE es e = some i) : i < es.length ∧ es[i]! = e := by
  unfold idxE at h
  rw [List.find?_range_eq_some] at h
  exact ⟨by simpa using h.2.1, by simpa using h.1⟩
theorem idxE_ex {es : List GE} {e : GE} (h : e ∈ es) : ∃ i, idxE es e = some i := by
  cases hq : idxE es e with
  | some k => exact ⟨k, rfl⟩
  | none =>
    unfold idxE at hq
    rw [List.find?_range_eq_none] at hq
    obtain ⟨i, hi, rfl⟩ := List.getElem_of_mem h
    have := hq i hi
    rw [getElem!_pos es i hi] at this
    simp at this
/-- Each port leads to an operator behind it. -/
theorem Good.leads {parts : Int} {os : List GO} (g : Good parts os) {n p : Nat} (hn : n < os.length) (hp : (p : Int) < portsO os n) : ∃ k i : Nat, toC os ⟨(n : Int), (p : Int)⟩ = ((k : Int), (i : Int), true) ∧ n < k ∧ k < os.length ∧ i < (os[k]!).ins.length := by
  have hl := g.loose n hn
  have hm : (⟨(n : Int), (p : Int)⟩ : GE) ∈ flatC os := by
    by_cases h : (⟨(n : Int), (p : Int)⟩ : GE) ∈ flatC os
    · exact h
    · exfalso
      unfold looseP at hl
      rw [List.any_eq_false] at hl
      exact hl p (by simp; omega) (by rw [many_zero.2 h]; rfl)
  obtain ⟨j, hj, hm⟩ := mem_flat.1 hm
  obtain ⟨i0, hi0⟩ := idxE_ex hm
  obtain ⟨k, hk⟩ := firstO_ex (f := fromF ⟨(n : Int), (p : Int)⟩) hj (by unfold fromF; rw [hi0]; rfl)
  obtain ⟨k1, k2, _⟩ := firstO_some hk
  unfold fromF at k2
  obtain ⟨i, hi⟩ := Option.isSome_iff_exists.1 k2
  obtain ⟨i1, i2⟩ := idxE_some hi
  refine ⟨k, i, toC_hit hk hi, ?_, k1, i1⟩
  have := g.edge k1 (e := ⟨(n : Int), (p : Int)⟩) (by rw [← i2, getElem!_pos (os[k]!).ins i i1]; exact List.getElem_mem _)
  simp only at this
  omega
theorem filter_two {α : Type} {q : α → Bool} : ∀ {l : List α} {i j : Nat} (hi : i < l.length) (hj : j < l.length), i < j → q l[i] = true → q l[j] = true → 2 ≤ (l.filter q).length
  | [], i, _, hi, _, _, _, _ => by simp at hi
  | x :: l, 0, j + 1, _, hj, _, h1, h2 => by
    have hx : q x = true := h1
    have hj' : j < l.length := by simpa using hj
    have h2' : q l[j] = true := h2
    rw [List.filter_cons_of_pos hx, List.length_cons]
    have : 0 < (l.filter q).length := List.length_pos_of_mem (List.mem_filter.2 ⟨List.getElem_mem hj', h2'⟩)
    omega
  | x :: l, i + 1, j + 1, hi, hj, hij, h1, h2 => by
    have := filter_two (q := q) (l := l) (i := i) (j := j) (by simpa using hi) (by simpa using hj) (by omega) h1 h2
    have h3 : (l.filter q).length ≤ ((x :: l).filter q).length := by
      by_cases hx : q x = true
      · rw [List.filter_cons_of_pos hx, List.length_cons]; omega
      · rw [List.filter_cons_of_neg hx]; omega
    omega
/-- The sink is one. -/
theorem Good.sink {parts : Int} {os : List GO} (g : Good parts os) : ∃ s, firstO sinkF os = some s ∧ s < os.length ∧ ∀ n, n < os.length → (os[n]!).kind = 9 → n = s := by
  have hs := g.sinks
  unfold sinkN at hs
  have : 0 < (os.filter (fun o => o.kind == 9)).length := by omega
  obtain ⟨o, ho⟩ := List.exists_mem_of_length_pos this
  rw [List.mem_filter] at ho
  obtain ⟨j, hj, rfl⟩ := List.getElem_of_mem ho.1
  obtain ⟨s, hs2⟩ := firstO_ex (f := sinkF) hj (by rw [getElem!_pos os j hj]; exact ho.2)
  obtain ⟨s1, s2, s3⟩ := firstO_some hs2
  refine ⟨s, hs2, s1, fun n hn hk => ?_⟩
  rcases Nat.lt_trichotomy n s with h | h | h
  · have := s3 n h
    unfold sinkF at this
    rw [hk] at this
    cases this
  · exact h
  · have h9 := filter_two (q := fun o : GO => o.kind == 9) (l := os) s1 hn h (by rw [getElem!_pos os s s1] at s2; exact s2) (by rw [getElem!_pos os n hn] at hk; simp [hk])
    omega
theorem Good.ports {parts : Int} {os : List GO} (g : Good parts os) {n : Nat} (hn : n < os.length) (hk : (os[n]!).kind ≠ 9) : 1 ≤ portsO os n := by
  obtain ⟨_, _, _, hf, h1, h9⟩ := one_zero (scan_good g.scan hn).2
  unfold portsO portsC
  by_cases h7 : (os[n]!).kind = 7
  · rw [if_pos h7]
    unfold fieldsC at hf
    rw [if_neg (by omega)] at hf
    unfold fitC at hf
    rw [if_neg (by omega), if_neg (by omega), if_neg (by omega), if_neg (by omega), if_pos h7] at hf
    rw [Bool.and_eq_true, decide_eq_true_eq] at hf
    rw [if_pos hf.2.2]
    omega
  · rw [if_neg h7, if_pos (by omega)]
    omega
def sumP (os : List GO) : Nat → Int
  | 0 => 0
  | k + 1 => sumP os k + portsO os k
theorem sumP_bd (os : List GO) : ∀ k, 0 ≤ sumP os k ∧ sumP os k ≤ 4 * (k : Int)
  | 0 => by simp [sumP]
  | k + 1 => by
    have := sumP_bd os k
    have h2 : 0 ≤ portsO os k ∧ portsO os k ≤ 4 := portsC_le _ _
    simp only [sumP]
    omega
theorem from_le {parts : Int} {os : List GO} (h : (scanS parts os).bad = none) {n : Nat} : ((fromN os n).length : Int) ≤ portsO os n := by
  have hnd : (fromN os n).Nodup := (flat_nodup h).filter _
  have hpl : 0 ≤ portsO os n := (portsC_le _ _).1
  have h1 := nodup_len (l := fromN os n) (r := (List.range (portsO os n).toNat).map (fun p : Nat => (⟨(n : Int), (p : Int)⟩ : GE))) hnd (by
    intro e he
    unfold fromN at he
    rw [List.mem_filter, decide_eq_true_eq] at he
    have hg := edge_good h he.1
    rw [he.2, Int.toNat_natCast] at hg
    rw [List.mem_map]
    refine ⟨e.p.toNat, by simp; omega, ?_⟩
    obtain ⟨f, p⟩ := e
    simp only at he hg ⊢
    rw [he.2, Int.toNat_of_nonneg hg.2.2.1])
  rw [List.length_map, List.length_range] at h1
  omega
theorem filter_next (l : List GE) (hl : ∀ e ∈ l, 0 ≤ e.f) (k : Nat) : (l.filter (fun e => decide (e.f < ((k + 1 : Nat) : Int)))).length = (l.filter (fun e => decide (e.f < (k : Int)))).length + (l.filter (fun e => decide (e.f = (k : Int)))).length := by
  induction l with
  | nil => rfl
  | cons e l ih =>
    have ih := ih (fun x hx => hl x (by simp [hx]))
    have h0 := hl e (by simp)
    rcases Int.lt_trichotomy e.f (k : Int) with h | h | h
    · rw [List.filter_cons_of_pos (by simp; omega), List.filter_cons_of_pos (p := fun e : GE => decide (e.f < (k : Int))) (by simpa using h), List.filter_cons_of_neg (p := fun e : GE => decide (e.f = (k : Int))) (by simp; omega)]
      simp only [List.length_cons]
      omega
    · rw [List.filter_cons_of_pos (by simp; omega), List.filter_cons_of_neg (p := fun e : GE => decide (e.f < (k : Int))) (by simp; omega), List.filter_cons_of_pos (p := fun e : GE => decide (e.f = (k : Int))) (by simpa using h)]
      simp only [List.length_cons]
      omega
    · rw [List.filter_cons_of_neg (by simp; omega), List.filter_cons_of_neg (p := fun e : GE => decide (e.f < (k : Int))) (by simp; omega), List.filter_cons_of_neg (p := fun e : GE => decide (e.f = (k : Int))) (by simp; omega)]
      omega
/-- As many ports as inputs. -/
theorem Good.total {parts : Int} {os : List GO} (g : Good parts os) : sumP os os.length = ((flatC os).length : Int) := by
  have key : ∀ k, k ≤ os.length → sumP os k = (((flatC os).filter (fun e => decide (e.f < (k : Int)))).length : Int) := by
    intro k
    induction k with
    | zero =>
      intro _
      rw [List.filter_eq_nil_iff.2 (fun e he => by have := (edge_good g.scan he).1; simp; omega)]
      rfl
    | succ k ih =>
      intro hk
      rw [filter_next _ (fun e he => (edge_good g.scan he).1) k]
      have h1 := ih (by omega)
      have h2 : leftC os k ≤ 0 := by
        rcases Int.lt_or_le 0 (leftC os k) with h | h
        · have := (left_loose g.scan).1 h
          rw [g.loose k (by omega)] at this
          cases this
        · exact h
      have h3 := from_le (n := k) g.scan
      unfold leftC at h2
      have h4 : ((flatC os).filter (fun e => decide (e.f = (k : Int)))).length = (fromN os k).length := rfl
      simp only [sumP]
      omega
  rw [key os.length (Nat.le_refl _), List.filter_eq_self.2 (fun e he => by have := (edge_good g.scan he).2.1; simpa using this)]
theorem Good.four {parts : Int} {os : List GO} (g : Good parts os) : ∀ o ∈ os, o.ins.length ≤ 4 := by
  intro o ho
  obtain ⟨i, hi, rfl⟩ := List.getElem_of_mem ho
  have h1 := (one_zero (scan_good g.scan hi).2).2.2.1
  rw [getElem!_pos os i hi] at h1
  exact ins_four h1
end Go.Proofs.YtlfipmieaabagaaGreat
