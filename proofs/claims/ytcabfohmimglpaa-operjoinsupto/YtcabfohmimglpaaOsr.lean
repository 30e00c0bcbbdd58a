/-
  slices.Sort and slices.Compact of numbers in memory of one's own. The conditions: lengths.
-/
import Derived.Test.YtcabfohmimglpaaOly
import Derived.Test.YtcabfohmimglpaaOpl
import Derived.Lib.RowBridge
namespace Go.Proofs.Ytcabfohmimglpaa
open Go.RowKit Go.Shelf Go.Sort

theorem put_row_own {W : World} {base n cap g q : Nat} {xs : List Value} {e : TypeId} (h : W.ownsRow base e 1 (.slice (some ⟨g, 0, none⟩) n cap) n xs) {ys : List Int} (hy : ys.length = n) (os : Array Obj) :
    (grow (putRow (Value.int .i64) (Sort.ahead W q) g 0 ys.toArray) os).ownsRow base e 1 (.slice (some ⟨g, 0, none⟩) n cap) n (ys.map (Value.int .i64)) ∧ Only (· = g) W (grow (putRow (Value.int .i64) (Sort.ahead W q) g 0 ys.toArray) os) := by
  rcases h.2 with ⟨he, _⟩ | ⟨g', cap', cur, he, hb, hg, hn, hcm, hcur, htk⟩
  · cases he
  · simp only [Value.slice.injEq, Option.some.injEq, Addr.mk.injEq, and_true, true_and] at he
    obtain ⟨rfl, rfl⟩ := he
    have hlt := (Array.getElem?_eq_some_iff.1 hg).1
    have hg2 : (grow (putRow (Value.int .i64) (Sort.ahead W q) g 0 ys.toArray) os).heap[g]? = some (.cells (putCells (Value.int .i64) 0 ys.toArray cur) e (0, 0)) := by
      unfold grow putRow mapBlock Sort.ahead
      simp only
      rw [Array.getElem?_append_left (by simpa using hlt), Array.getElem?_modify, if_pos rfl, hg]
      rfl
    refine ⟨⟨by simp [hy], .inr ⟨g, cap, _, rfl, hb, hg2, hn, hcm, by simp [putCells, hcur], ?_⟩⟩, ⟨rfl, rfl, rfl, ?_, fun i hi hne => ?_⟩⟩
    · apply List.ext_getElem?
      intro t
      by_cases ht : t < n
      · rw [List.getElem?_take_of_lt (by omega), Array.getElem?_toList]
        have hc : t < cur.size := by omega
        unfold putCells
        rw [Array.getElem?_mapIdx, Array.getElem?_eq_getElem hc]
        simp only [Option.map_some, Nat.sub_zero, Nat.zero_le, true_and, Nat.zero_add]
        rw [if_pos (by simpa [hy] using ht), List.getElem?_map, List.getElem?_eq_getElem (by omega)]
        simp [hy, ht]
      · rw [List.getElem?_eq_none (by simp; omega), List.getElem?_eq_none (by simp; omega)]
    · unfold grow putRow mapBlock Sort.ahead
      simp
    · unfold grow putRow mapBlock Sort.ahead
      simp only
      rw [Array.getElem?_append_left (by simpa using hi), Array.getElem?_modify, if_neg (fun e => hne e.symm)]
theorem holds_own {W : World} {base n cap g : Nat} {ks : List Int} {e : TypeId} (h : W.ownsRow base e 1 (.slice (some ⟨g, 0, none⟩) n cap) n (ks.map (Value.int .i64))) : Holds (Value.int .i64) W g 0 ks.toArray := by
  intro j hj
  have hl : ks.length = n := (own_len h).symm
  simp only [List.size_toArray] at hj
  obtain ⟨b, o, hbo, _, _, _, hc⟩ := (own_row h).cellAt (by omega)
  simp only [Option.some.injEq, Addr.mk.injEq, and_true] at hbo
  obtain ⟨rfl, rfl⟩ := hbo
  refine ⟨?_, h.frozenAt _⟩
  rw [hc j (by omega)]
  congr 2
  rw [List.getD_eq_getElem?_getD, List.getElem?_eq_getElem hj]
  simp [hj]
def sortC (ks : List Int) : List Int := ks.mergeSort fun x y => decide (x ≤ y)
theorem sort_any {W : World} {base n cap g : Nat} {ks : List Int} {e : TypeId} (h : W.ownsRow base e 1 (.slice (some ⟨g, 0, none⟩) n cap) n (ks.map (Value.int .i64))) (hb : n < 4611686018427387904) :
    Calls Try.prog 33 #[.slice (some ⟨g, 0, none⟩) n cap] W fun r w' => r = .returned (.tuple #[]) ∧ w'.ownsRow base e 1 (.slice (some ⟨g, 0, none⟩) n cap) n ((sortC ks).map (Value.int .i64)) ∧ Only (· = g) W w' := by
  have hl : ks.length = n := (own_len h).symm
  subst hl
  refine (AnyM.slices_Sort_int Try.sortL g 0 cap ks W (holds_own h) (h.lt g rfl).2 hb).mono ?_
  rintro r w' ⟨rfl, q, os, rfl⟩
  obtain ⟨h1, h2⟩ := put_row_own (q := q) h (ys := sortC ks) (by unfold sortC; simp) os
  exact ⟨rfl, h1, h2⟩
theorem compact_any {W : World} {base n cap g : Nat} {ks : List Int} {e : TypeId} (h : W.ownsRow base e 1 (.slice (some ⟨g, 0, none⟩) n cap) n (ks.map (Value.int .i64))) (hb : n ≤ 9223372036854775807) :
    Calls Try.prog 34 #[.slice (some ⟨g, 0, none⟩) n cap] W fun r w' => r = .returned (.slice (some ⟨g, 0, none⟩) (Lib.compact ks).length cap) ∧ w'.ownsRow base e 1 (.slice (some ⟨g, 0, none⟩) (Lib.compact ks).length cap) (Lib.compact ks).length ((Lib.compact ks).map (Value.int .i64)) ∧ Only (· = g) W w' := by
  have hl : ks.length = n := (own_len h).symm
  subst hl
  have hcl : (Lib.compact ks).length ≤ ks.length := Lib.compact_length_le ks
  obtain ⟨_, _, ef, hnc, _⟩ := own_form h
  simp only [Value.slice.injEq, true_and] at ef
  obtain ⟨rfl, rfl⟩ := ef
  refine (AnyG.slices_Compact_int Try.compL g 0 cap ks W (holds_own h) hb hnc).mono ?_
  rintro r w' ⟨rfl, q, rfl⟩
  obtain ⟨h1, h2⟩ := put_row_own (q := q) h (ys := Lib.compact ks ++ List.replicate (ks.length - (Lib.compact ks).length) 0) (by simp; omega) #[]
  have hgr : ∀ w : World, grow w #[] = w := fun w => by unfold grow; simp
  rw [hgr] at h1 h2
  refine ⟨rfl, ?_, h2⟩
  rcases h1.2 with ⟨he, _⟩ | ⟨g', cap', cur, he, hb2, hg, hn, hcm, hcur, htk⟩
  · cases he
  · simp only [Value.slice.injEq, Option.some.injEq, Addr.mk.injEq, and_true, true_and] at he
    obtain ⟨rfl, rfl⟩ := he
    refine ⟨by simp, .inr ⟨g, cap, cur, rfl, hb2, hg, by omega, hcm, hcur, ?_⟩⟩
    have h3 := congrArg (List.take (Lib.compact ks).length) htk
    rw [List.take_take, Nat.mul_one, Nat.min_eq_left (by omega), List.map_append, List.take_append_of_le_length (by simp)] at h3
    rw [Nat.mul_one]
    exact h3.trans (List.take_of_length_le (by simp))
end Go.Proofs.Ytcabfohmimglpaa
