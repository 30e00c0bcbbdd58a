/-
  Plain, Clone, Read of none.
-/
import Derived.Test.YtboofnkajjnmeaaSld
namespace Go.Proofs.Ytboofnkajjnmeaa
open Go.RowKit Go.Maps Go.Shelf

set_option maxRecDepth 100000 in
theorem clone_bad {W : World} {v : Value} (h : Bad W v) : Calls Try.prog 13 #[v] W fun e w' => e = .returned (.pointer none) ∧ w' = W := by
  have HM := hide (made_no h)
  obtain ⟨p, rfl⟩ := h.form
  clear h
  go_enter Try.func13, Try.ntmps13
  go_wp2_with fail
  refine HM.out.mono ?_
  rintro _ _ ⟨rfl, rfl⟩
  go_wp2
  go_ret
  exact ⟨rfl, rfl⟩
set_option maxRecDepth 100000 in
theorem read_bad {W : World} {v : Value} {a b : Int} (h : Bad W v) : Calls Try.prog 28 #[v, .int .i64 a, .int .i64 b] W fun e w' => e = .returned (.tuple #[.slice none 0 0, .int .i64 2]) ∧ Below W.heap.size W w' := by
  obtain ⟨X, hX⟩ : ∃ X, X = W.alloc (.cells #[.int .i64 b] 3 (0, 0)) := ⟨_, rfl⟩
  have HB : Hid (Below W.heap.size W X) := hide (by rw [hX]; exact alloc_below _ _)
  have HM := hide (made_no (h.later HB.out))
  obtain ⟨p, rfl⟩ := h.form
  clear h
  go_enter Try.func28, Try.ntmps28
  go_upto_region 1 with fail
  rw [← hX]
  clear hX
  go_wp2_with fail
  refine HM.out.mono ?_
  rintro _ _ ⟨rfl, rfl⟩
  rename World => X
  go_wp2
  go_ret2
  exact ⟨rfl, HB.out⟩
set_option maxRecDepth 100000 in
set_option maxHeartbeats 1000000 in
theorem plain_bad {W : World} {v : Value} (h : Bad W v) : Calls Try.prog 15 #[v] W fun e w' => e = .returned (.agg #[.int .i64 0, .slice none 0 0, .slice none 0 0, .slice none 0 0, .slice none 0 0]) ∧ Below W.heap.size W w' := by
  obtain ⟨X, hX⟩ : ∃ X, X = W.alloc (.cells #[.int .i64 0, .slice none 0 0, .slice none 0 0, .slice none 0 0, .slice none 0 0] 43 (0, 0)) := ⟨_, rfl⟩
  have HB : Hid (Below W.heap.size W X) := hide (by rw [hX]; exact alloc_below _ _)
  have HR : Hid (X.heap[W.heap.size]? = some (.cells #[.int .i64 0, .slice none 0 0, .slice none 0 0, .slice none 0 0, .slice none 0 0] 43 (0, 0))) := hide (by rw [hX]; exact heap_alloc_new W _)
  have HM := hide (made_no (h.later HB.out))
  obtain ⟨rB, hrB⟩ : ∃ rB, W.heap.size = rB := ⟨_, rfl⟩
  have HZ : Hid (W.heap.size ≤ rB) := hide (by omega)
  rw [hrB] at HR
  obtain ⟨p, rfl⟩ := h.form
  clear h
  go_enter Try.func15, Try.ntmps15
  go_upto_region 1 with fail
  rw [← hX]
  try rw [hrB]
  clear hX hrB
  go_wp2_with fail
  refine HM.out.mono ?_
  rintro _ _ ⟨rfl, rfl⟩
  rename World => X
  have z0 := frB HR.out (i := 0)
  have z1 := frB HR.out (i := 1)
  have z2 := frB HR.out (i := 2)
  have z3 := frB HR.out (i := 3)
  have z4 := frB HR.out (i := 4)
  have x0 := cellB HR.out (i := 0) rfl
  have x1 := cellB HR.out (i := 1) rfl
  have x2 := cellB HR.out (i := 2) rfl
  have x3 := cellB HR.out (i := 3) rfl
  have x4 := cellB HR.out (i := 4) rfl
  go_wp2
  have hE := five_own HR.out (.int .i64 0) (.slice none 0 0) (.slice none 0 0) (.slice none 0 0) (.slice none 0 0)
  have hO := only_five X rB (.int .i64 0) (.slice none 0 0) (.slice none 0 0) (.slice none 0 0) (.slice none 0 0)
  refine bodyPost_ret (results_cell_one rfl _ _ rB 43 _ _ _ rfl hE Try.underlying43 rfl (by kernel_rfl)) rfl ?_
  exact ⟨rfl, HB.out.trans (hO.below HB.out.size (fun i e => by have e' : i = rB := e; have := HZ.out; omega))⟩
end Go.Proofs.Ytboofnkajjnmeaa
