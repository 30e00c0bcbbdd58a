/-
  slices.Sort and slices.Compact of numbers in memory of one's own. The conditions: lengths.
-/
import Derived.Test.YtifldnpccgbnkaaGreatOly
import Derived.Test.YtifldnpccgbnkaaGreatOpl
import Derived.Lib.RowBridge
namespace Go.Proofs.YtifldnpccgbnkaaGreat.Op
open Go.RowKit Go.Shelf Go.Sort

theorem put_row_own {W : World} {base n cap g q : Nat} {xs : List Value} {e : TypeId} (h : W.ownsRow base e 1 (.slice (some ⟨g, 0, none⟩) n cap) n xs) {ys : List Int} (hy : ys.length = n) (os : Array Obj) :
    (grow (putRow (Value.int .i64) (Sort.ahead W q) g 0 ys.toArray) os).ownsRow base e 1 (.slice (some ⟨g, 0, none⟩) n cap) n (ys.map (Value.int .i64)) ∧ Only (· = g) W (grow (putRow (Value.int .i64) (Sort.ahead W q) g 0 ys.toArray) os) := by
  rcases h.2 with ⟨he, _⟩ | ⟨g', cap', cur, he, hb, hg, hn, hcm, hcur, htk⟩
  · cases he
  · simp only [Value.slice.injEq, Option.some.injEq, Addr.mk.injEq, and_true, true_and] at he
    obtain ⟨rfl, rfl⟩ := he
    have hlt := (Array.getElem?_eq_some_iff.1 hg).1
    have hg2 : (grow (putRow (Value.int .i64) (Sort.ahead W q) g 0 ys.toArray) os).heap[g]? = some (.cells (putCells (Value.int .i64) 0 ys.toArray cur) e (0, 0)) := by
      unfold grow putRow mapBlock Sort.ahead
      simp only
      rw [Array.getElem?_append_left (by simpa using hlt), Array.getElem?_modify, if_pos rfl, hg]
      rfl
    refine ⟨⟨by simp [hy], .inr ⟨g, cap, _, rfl, hb, hg2, hn, hcm, by simp [putCells, hcur], ?_⟩⟩, ⟨rfl, rfl, rfl, ?_, fun i hi hne => ?_⟩⟩
    · apply List.ext_getElem?
      intro t
      by_cases ht : t < n
      · rw [List.getElem?_take_of_lt (by omega), Array.getElem?_toList]
        have hc : t < cur.size := by omega
        unfold putCells
        rw [Array.getElem?_mapIdx, Array.getElem?_eq_getElem hc]
        simp only [Option.map_some, Nat.sub_zero, Nat.zero_le, true_and, Nat.zero_add]
        rw [if_pos (by simpa [hy] using ht), List.getElem?_map, List.getElem?_eq_getElem (by omega)]
        simp [hy, ht]
      · rw [List.getElem?_eq_none (by simp; omega), List.getElem?_eq_none (by simp; omega)]
    · unfold grow putRow mapBlock Sort.ahead
      simp
    · unfold grow putRow mapBlock Sort.ahead
      simp only
      rw [Array.getElem?_append_left (by simpa using hi), Array.getElem?_modify, if_neg (fun e => hne e.symm)]
theorem holds_own {W : World} {base n cap g : Nat} {ks : List Int} {e : TypeId} (h : W.ownsRow base e 1 (.slice (some ⟨g, 0, none⟩) n cap) n (ks.map (Value.int .i64))) : Holds (Value.int .i64) W g 0 ks.toArray := by
  intro j hj
  have hl : ks.length = n := (own_len h).symm
  simp only [List.size_toArray] at hj
  obtain ⟨b, o, hbo, _, _, _, hc⟩ := (own_row h).cellAt (by omega)
  simp only [Option.some.injEq, Addr.mk.injEq, and_true] at hbo
  obtain ⟨rfl, rfl⟩ := hbo
  refine ⟨?_, h.frozenAt _⟩
  rw [hc j (by omega)]
  congr 2
  rw [List.getD_eq_getElem?_getD, List.getElem?_eq_getElem hj]
  simp [hj]
def sortC (ks : List Int) : List Int := ks.mergeSort fun x y => decide (x ≤ y)
theorem sort_any {W : World} {base n cap g : Nat} {ks : List Int} {e : TypeId} (h : W.ownsRow base e 1 (.slice (some ⟨g, 0, none⟩) n cap) n (ks.map (Value.int .i64))) (hb : n < 4611686018427387904) :
    Calls Tryz.prog 93 #[.slice (some ⟨g, 0, none⟩) n cap] W fun r w' => r = .returned (.tuple #[]) ∧ w'.ownsRow base e 1 (.slice (some ⟨g, 0, none⟩) n cap) n ((sortC ks).map (Value.int .i64)) ∧ Only (· = g) W w' := by
  have hl : ks.length = n := (own_len h).symm
  subst hl
  refine (AnyM.slices_Sort_int Tryz.sortL g 0 cap ks W (holds_own h) (h.lt g rfl).2 hb).mono ?_
  rintro r w' ⟨rfl, q, os, rfl⟩
  obtain ⟨h1, h2⟩ := put_row_own (q := q) h (ys := sortC ks) (by unfold sortC; simp) os
  exact ⟨rfl, h1, h2⟩
theorem compact_any {W : World} {base n cap g : Nat} {ks : List Int} {e : TypeId} (h : W.ownsRow base e 1 (.slice (some ⟨g, 0, none⟩) n cap) n (ks.map (Value.int .i64))) (hb : n ≤ 9223372036854775807) :
    Calls Tryz.prog 94 #[.slice (some ⟨g, 0, none⟩) n cap] W fun r w' => r = .returned (.slice (some ⟨g, 0, none⟩) (Lib.compact ks).length cap) ∧ w'.ownsRow base e 1 (.slice (some ⟨g, 0, none⟩) (Lib.compact ks).length cap) (Lib.compact ks).length ((Lib.compact ks).map (Value.int .i64)) ∧ Only (· = g) W w' := by
  have hl : ks.length = n := (own_len h).symm
  subst hl
  have hcl : (Lib.compact ks).length ≤ ks.length := Lib.compact_length_le ks
  obtain ⟨_, _, ef, hnc, _⟩ := own_form h
  simp only [Value.slice.injEq, true_and] at ef
  obtain ⟨rfl, rfl⟩ := ef
  refine (AnyG.slices_Compact_int Tryz.compL g 0 cap ks W (holds_own h) hb hnc).mono ?_
  rintro r w' ⟨rfl, q, rfl⟩
  obtain ⟨h1, h2⟩ := put_row_own (q := q) h (ys := Lib.compact ks ++ List.replicate (ks.length - (Lib.compact ks).length) 0) (by simp; omega) #[]
  have hgr : ∀ w : World, grow w #[] = w := fun w => by unfold grow; simp
  rw [hgr] at h1 h2
  refine ⟨rfl, ?_, h2⟩
  rcases h1.2 with ⟨he, _⟩ | ⟨g', cap', cur, he, hb2, hg, hn, hcm, hcur, htk⟩
  · cases he
  · simp only [Value.slice.injEq, Option.some.injEq, Addr.mk.injEq, and_true, true_and] at he
    obtain ⟨rfl, rfl⟩ := he
    refine ⟨by simp, .inr ⟨g, cap, cur, rfl, hb2, hg, by omega, hcm, hcur, ?_⟩⟩
    have h3 := congrArg (List.take (Lib.compact ks).length) htk
    rw [List.take_take, Nat.mul_one, Nat.min_eq_left (by omega), List.map_append, List.take_append_of_le_length (by simp)] at h3
    rw [Nat.mul_one]
    exact h3.trans (List.take_of_length_le (by simp))
end Go.Proofs.YtifldnpccgbnkaaGreat.Op
/-
  The keys of records, each once and rising, plainly. Nothing is walked.
-/
namespace Go.Proofs.YtifldnpccgbnkaaGreat.Op
open Go.RowKit

theorem compact_rises (d : Array Int) (hs : ∀ i j, i ≤ j → j < d.size → d[i]! ≤ d[j]!) : ∀ m, m ≤ d.size → (Lib.compactUpTo d m).Pairwise (· < ·) ∧ (∀ x ∈ Lib.compactUpTo d m, ∃ i, i < m ∧ d[i]! = x) ∧ ∀ i, i < m → d[i]! ∈ Lib.compactUpTo d m
  | 0, _ => by
    have : Lib.compactUpTo d 0 = [] := rfl
    rw [this]
    exact ⟨List.Pairwise.nil, by simp, fun i hi => absurd hi (Nat.not_lt_zero i)⟩
  | m + 1, hm => by
    obtain ⟨h1, h2, h3⟩ := compact_rises d hs m (by omega)
    rw [Lib.compactUpTo_succ]
    by_cases hk : Lib.keeps d m = true
    · rw [if_pos hk]
      refine ⟨?_, fun x hx => ?_, fun i hi => ?_⟩
      · rw [List.pairwise_append]
        refine ⟨h1, List.pairwise_singleton _ _, fun x hx y hy => ?_⟩
        simp only [List.mem_singleton] at hy
        subst hy
        obtain ⟨i, hi, rfl⟩ := h2 x hx
        have hne : d[m]! ≠ d[m - 1]! := by
          intro e
          simp [Lib.keeps, e] at hk
          omega
        have h4 := hs i (m - 1) (by omega) (by omega)
        have h5 := hs (m - 1) m (by omega) (by omega)
        omega
      · rcases List.mem_append.1 hx with hx | hx
        · obtain ⟨i, hi, e⟩ := h2 x hx
          exact ⟨i, by omega, e⟩
        · simp only [List.mem_singleton] at hx
          exact ⟨m, by omega, hx.symm⟩
      · by_cases e : i = m
        · subst e; simp
        · exact List.mem_append_left _ (h3 i (by omega))
    · rw [if_neg hk, List.append_nil]
      have hne : 0 < m ∧ d[m]! = d[m - 1]! := by
        have hm0 : m ≠ 0 := by intro e; subst e; simp [Lib.keeps] at hk
        refine ⟨by omega, ?_⟩
        apply Classical.byContradiction
        intro e
        exact hk (Lib.keeps_pos e)
      refine ⟨h1, fun x hx => ?_, fun i hi => ?_⟩
      · obtain ⟨i, hi, e⟩ := h2 x hx
        exact ⟨i, by omega, e⟩
      · by_cases e : i = m
        · subst e
          rw [hne.2]
          exact h3 (i - 1) (by omega)
        · exact h3 i (by omega)
def keysC (ks : List Int) : List Int := Lib.compact (sortC ks)
theorem sortC_perm (ks : List Int) : (sortC ks).Perm ks := List.mergeSort_perm _ _
theorem sortC_sorted (ks : List Int) : (sortC ks).Pairwise (· ≤ ·) := by
  have := List.pairwise_mergeSort (le := fun (x y : Int) => decide (x ≤ y)) (fun a b c h1 h2 => by simp only [decide_eq_true_eq] at h1 h2 ⊢; omega) (fun a b => by simp only [Bool.or_eq_true, decide_eq_true_eq]; omega) ks
  exact this.imp (fun h => by simpa using h)
theorem keysC_facts (ks : List Int) : (keysC ks).Pairwise (· < ·) ∧ ∀ x, x ∈ keysC ks ↔ x ∈ ks := by
  have hs := sortC_sorted ks
  have hp := sortC_perm ks
  have hd : ∀ i j, i ≤ j → j < (sortC ks).toArray.size → (sortC ks).toArray[i]! ≤ (sortC ks).toArray[j]! := fun i j h1 h2 => by
    simp only [List.size_toArray] at h2
    rw [getElem!_pos _ i (by simp; omega), getElem!_pos _ j (by simp; omega)]
    simp only [List.getElem_toArray]
    by_cases e : i = j
    · subst e; exact Int.le_refl _
    · exact List.pairwise_iff_getElem.1 hs i j (by omega) (by omega) (by omega)
  obtain ⟨h1, h2, h3⟩ := compact_rises (sortC ks).toArray hd (sortC ks).length (by simp)
  refine ⟨h1, fun x => ⟨fun hx => ?_, fun hx => ?_⟩⟩
  · obtain ⟨i, hi, rfl⟩ := h2 x hx
    rw [← hp.mem_iff, getElem!_pos _ i (by simpa using hi)]
    simp
  · rw [← hp.mem_iff] at hx
    obtain ⟨i, hi, rfl⟩ := List.getElem_of_mem hx
    have := h3 i hi
    rw [getElem!_pos _ i (by simpa using hi)] at this
    exact (by simpa using this : (sortC ks)[i] ∈ Lib.compactUpTo (sortC ks).toArray (sortC ks).length)
end Go.Proofs.YtifldnpccgbnkaaGreat.Op
