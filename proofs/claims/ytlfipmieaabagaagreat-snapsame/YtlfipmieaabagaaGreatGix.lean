/-
  How many ports each operator has left, as they lie in memory; slices.IndexFunc over them. No conditions.
-/
import Derived.Test.YtlfipmieaabagaaGreatGit
namespace Go.Proofs.YtlfipmieaabagaaGreat
open Go.RowKit Go.Shelf

def LRep (W : World) (lb : Nat) (f : Nat → Int) : Prop := ∃ cs : Array Value, W.heap[lb]? = some (.cells cs 203 (0, 0)) ∧ cs.size = 24 ∧ ∀ i, i < 24 → cs[i]? = some (.int .i64 (f i))
theorem LRep.cell {W : World} {lb : Nat} {f : Nat → Int} (h : LRep W lb f) {i : Nat} (hi : i < 24) : W.cell? ⟨lb, i, none⟩ = some (.int .i64 (f i)) := by
  obtain ⟨cs, h1, _, h3⟩ := h
  simp [World.cell?, h1, h3 i hi]
theorem LRep.below {W W' : World} {lb : Nat} {f : Nat → Int} (h : LRep W lb f) (hb : Below W.heap.size W W') : LRep W' lb f := by
  obtain ⟨cs, h1, h2⟩ := h
  exact ⟨cs, below_box hb h1, h2⟩
theorem LRep.free {W : World} {lb : Nat} {f : Nat → Int} (h : LRep W lb f) {i : Nat} : W.frozen? ⟨lb, i, none⟩ = false := by
  obtain ⟨cs, h1, _, _⟩ := h
  simp [World.frozen?, h1]
def firstUp (f : Nat → Int) : Option Nat := (List.range 24).find? (fun n => decide (0 < f n))

theorem up_any {W : World} {n : Int} : Calls Tryz.prog 122 #[.int .i64 n] W fun e w' => e = .returned (.bool (decide (n > 0))) ∧ w' = W := by
  go_enter Tryz.func122, Tryz.ntmps122
  go_wp2
  go_ret
  exact ⟨rfl, rfl⟩

set_option maxRecDepth 100000 in
set_option maxHeartbeats 4000000 in
theorem index_any {W : World} {lb : Nat} {f : Nat → Int} (h : LRep W lb f) : Calls Tryz.prog 121 #[.slice (some ⟨lb, 0, none⟩) 24 24, .func (.func 122) #[] #[]] W fun e w' => e = .returned (.int .i64 (match firstUp f with | some n => (n : Int) | none => -1)) ∧ w' = W := by
  have H := hide h
  clear h
  obtain ⟨rc, hrc⟩ : ∃ rc : Int, (match firstUp f with | some n => (n : Int) | none => -1) = rc := ⟨_, rfl⟩
  rw [hrc]
  have HRC := hide hrc
  clear hrc
  go_enter Tryz.func121, Tryz.ntmps121
  go_wp2_with fail
  go_loopw [8] (fun i wr => ∃ (k : Nat), k ≤ 24 ∧ i = .int .i64 (k : Int) ∧ wr = W ∧ Hid (∀ j, j < k → f j ≤ 0)) (fun i _ => 24 - (intOf i).toNat)
  case atStart => exact ⟨0, Nat.zero_le _, rfl, rfl, hide (fun j hj => absurd hj (Nat.not_lt_zero j))⟩
  case round =>
    obtain ⟨k, hk, rfl, rfl, HN⟩ := hrel
    rename World => W
    by_cases hlt : k < 24
    · have c0 := H.out.cell hlt
      obtain ⟨v, hv⟩ : ∃ v, f k = v := ⟨_, rfl⟩
      rw [hv] at c0
      have HV := hide hv
      clear hv
      go_wp2_with fail
      refine up_any.mono ?_
      rintro _ _ ⟨rfl, rfl⟩
      rename World => W
      by_cases c : 0 < v
      · have e1 : decide (v > 0) = true := decide_eq_true c
        have HQ : Hid (firstUp f = some k) := by
          refine hide ?_
          unfold firstUp
          rw [List.find?_range_eq_some]
          exact ⟨by rw [HV.out]; exact decide_eq_true c, by simpa using hlt, fun j hj => by rw [decide_eq_false (by have := HN.out j hj; omega)]; rfl⟩
        rw [e1]
        clear c e1
        go_wp2
        go_ret
        exact ⟨by rw [← HRC.out, HQ.out]; rfl, rfl⟩
      · have e1 : decide (v > 0) = false := decide_eq_false c
        have HN2 : Hid (∀ j, j < k + 1 → f j ≤ 0) := by
          refine hide (fun j hj => ?_)
          by_cases e : j = k
          · subst e; rw [HV.out]; omega
          · exact HN.out j (by omega)
        rw [e1]
        clear c e1
        go_wp2
        exact ⟨⟨k + 1, by omega, by go_num, trivial, HN2⟩, by simp [intOf]; omega⟩
    · obtain rfl : k = 24 := by omega
      have HQ : Hid (firstUp f = none) := by
        refine hide ?_
        unfold firstUp
        rw [List.find?_range_eq_none]
        exact fun j hj => by rw [decide_eq_false (by have := HN.out j hj; omega)]; rfl
      go_wp2
      go_ret
      exact ⟨by rw [← HRC.out, HQ.out]; rfl, rfl⟩
end Go.Proofs.YtlfipmieaabagaaGreat
