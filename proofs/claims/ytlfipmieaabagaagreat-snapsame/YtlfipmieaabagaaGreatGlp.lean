/-
  What is left of each operator's ports, plainly, told edge by edge; the first that has one left. No conditions but that no fault was found.
-/
import Derived.Test.YtlfipmieaabagaaGreatGix
import Derived.Test.YtlfipmieaabagaaGreatGck
namespace Go.Proofs.YtlfipmieaabagaaGreat
open Go.RowKit Go.Shelf

def subN (os : List GO) (k i : Nat) : Nat := (((flatC os).take k).filter (fun e => decide (e.f = (i : Int)))).length
def startF (os : List GO) (k i : Nat) : Int := if i < k then portsO os i else 0
def leftF (os : List GO) (k i : Nat) : Int := startF os os.length i - (subN os k i : Int)
theorem tellG_edge : ∀ (os : List GO) (n k : Nat), k < (flatC os).length → ∃ m : Int, (tellG n os).getD k #[] = #[.int .i64 m, eV ((flatC os)[k]!)]
  | [], _, _, h => by cases h
  | o :: os, n, k, h => by
    have e0 : flatC (o :: os) = o.ins ++ flatC os := by simp [flatC]
    rw [e0] at h ⊢
    simp only [tellG]
    by_cases hk : k < o.ins.length
    · refine ⟨(n : Int), ?_⟩
      rw [List.getD_eq_getElem?_getD, List.getElem?_append_left (by simpa using hk), getElem!_pos (o.ins ++ flatC os) k h, List.getElem_append_left hk]
      simp [List.getElem?_map, List.getElem?_eq_getElem hk]
    · have hk2 : k - o.ins.length < (flatC os).length := by rw [List.length_append] at h; omega
      obtain ⟨m, hm⟩ := tellG_edge os (n + 1) (k - o.ins.length) hk2
      refine ⟨m, ?_⟩
      rw [List.getD_eq_getElem?_getD, List.getElem?_append_right (by simp; omega), ← List.getD_eq_getElem?_getD, List.length_map, hm, getElem!_pos (o.ins ++ flatC os) k h, List.getElem_append_right (by omega), getElem!_pos (flatC os) _ hk2]
theorem subN_next {os : List GO} {k : Nat} (hk : k < (flatC os).length) (i : Nat) : subN os (k + 1) i = subN os k i + (if ((flatC os)[k]!).f = (i : Int) then 1 else 0) := by
  unfold subN
  rw [List.take_succ_eq_append_getElem hk, List.filter_append, List.length_append, getElem!_pos (flatC os) k hk]
  congr 1
  by_cases h : ((flatC os)[k]).f = (i : Int)
  · rw [if_pos h, List.filter_cons_of_pos (by simpa using h)]; rfl
  · rw [if_neg h, List.filter_cons_of_neg (by simpa using h)]; rfl
theorem subN_le (os : List GO) (k i : Nat) : subN os k i ≤ (flatC os).length :=
  Nat.le_trans (List.length_filter_le _ _) (by simp; omega)
theorem flat_le : ∀ (os : List GO), (∀ o ∈ os, o.ins.length ≤ 4) → (flatC os).length ≤ os.length * 4
  | [], _ => Nat.le_refl _
  | o :: os, h => by
    have := flat_le os (fun x hx => h x (by simp [hx]))
    have := h o (by simp)
    simp only [flatC, List.flatMap_cons, List.length_append, List.length_cons] at *
    omega
theorem flat_96 {parts : Int} {os : List GO} (h : (scanS parts os).bad = none) (hl : os.length ≤ 24) : (flatC os).length ≤ 96 := by
  have := flat_le os (fun o ho => by
    obtain ⟨i, hi, rfl⟩ := List.getElem_of_mem ho
    have h1 := (one_zero (scan_good h hi).2).2.2.1
    rw [getElem!_pos os i hi] at h1
    exact ins_four h1)
  omega
theorem startF_bd (os : List GO) (k i : Nat) : 0 ≤ startF os k i ∧ startF os k i ≤ 4 := by
  unfold startF
  split
  · exact portsC_le _ _
  · omega
theorem startF_next (os : List GO) (k : Nat) : startF os (k + 1) = fun j => if j = k then portsO os k else startF os k j := by
  funext j
  unfold startF
  by_cases h : j = k
  · subst h; rw [if_pos (by omega), if_pos rfl]
  · rw [if_neg h]
    by_cases h2 : j < k
    · rw [if_pos h2, if_pos (by omega)]
    · rw [if_neg h2, if_neg (by omega)]
theorem leftF_zero (os : List GO) : leftF os 0 = startF os os.length := by
  funext i
  simp [leftF, subN]
theorem leftF_next {os : List GO} {k : Nat} (hk : k < (flatC os).length) {t : Nat} (ht : ((flatC os)[k]!).f = (t : Int)) : leftF os (k + 1) = fun j => if j = t then leftF os k t - 1 else leftF os k j := by
  funext j
  unfold leftF
  rw [subN_next hk, ht]
  by_cases h : j = t
  · subst h; rw [if_pos rfl, if_pos rfl]; omega
  · rw [if_neg h, if_neg (by omega)]; omega
theorem first_loose {parts : Int} {os : List GO} (h : (scanS parts os).bad = none) (hl : os.length ≤ 24) : firstUp (leftF os (flatC os).length) = looseAt os := by
  have key : ∀ i, 0 < leftF os (flatC os).length i ↔ i < os.length ∧ looseP os i = true := by
    intro i
    have e : subN os (flatC os).length i = (fromN os i).length := by unfold subN fromN; rw [List.take_length]
    by_cases hi : i < os.length
    · rw [← left_loose h]
      unfold leftF startF leftC
      rw [if_pos hi, e]
      exact ⟨fun x => ⟨hi, x⟩, fun x => x.2⟩
    · unfold leftF startF
      rw [if_neg hi]
      constructor
      · intro x; omega
      · intro x; exact absurd x.1 hi
  cases hq : looseAt os with
  | some n =>
    unfold looseAt at hq
    rw [List.find?_range_eq_some] at hq
    obtain ⟨h1, h2, h3⟩ := hq
    have hn : n < os.length := by simpa using h2
    unfold firstUp
    rw [List.find?_range_eq_some]
    refine ⟨decide_eq_true ((key n).2 ⟨hn, h1⟩), by simp; omega, fun j hj => ?_⟩
    rw [decide_eq_false]
    · rfl
    · intro x
      have h4 := h3 j hj
      rw [((key j).1 x).2] at h4
      cases h4
  | none =>
    unfold looseAt at hq
    rw [List.find?_range_eq_none] at hq
    unfold firstUp
    rw [List.find?_range_eq_none]
    intro j _
    rw [decide_eq_false]
    · rfl
    · intro x
      have h5 := (key j).1 x
      have h4 := hq j h5.1
      rw [h5.2] at h4
      cases h4
theorem LRep.set {W : World} {lb : Nat} {f : Nat → Int} (h : LRep W lb f) {i : Nat} (hi : i < 24) (v : Int) : LRep (W.setCell ⟨lb, i, none⟩ (.int .i64 v)) lb (fun j => if j = i then v else f j) := by
  obtain ⟨cs, h1, h2, h3⟩ := h
  refine ⟨cs.setIfInBounds i (.int .i64 v), heap_set_same h1 _ _, by simp [h2], fun j hj => ?_⟩
  rw [Array.getElem?_setIfInBounds]
  by_cases e : j = i
  · subst e; simp [h2, hj]
  · rw [if_neg (fun x => e x.symm)]; simp only [if_neg e]; exact h3 j hj
end Go.Proofs.YtlfipmieaabagaaGreat
