/-
  The law's live. No conditions.
-/
import Derived.Test.YthlkhjpobiohmaaLsg
namespace Go.Proofs.Ythlkhjpobiohmaa
open Go.RowKit

theorem alloc_box {B : Nat} {A w : World} (h : Below B A w) (hB : B ≤ w.heap.size) (o : Obj) : Below B A (w.alloc o) ∧ (w.alloc o).heap[w.heap.size]? = some o ∧ Below w.heap.size w (w.alloc o) :=
  ⟨below_next h (alloc_below _ _) hB, heap_alloc_new w o, alloc_below _ _⟩
set_option maxRecDepth 100000 in
set_option maxHeartbeats 4000000 in
theorem live_any {W : World} : Calls Try.prog 7 #[] W fun e w' => e = .returned (.bool true) ∧ Below W.heap.size W w' := by
  have E1 : Hid (acqC ⟨-1, -1, 0, 0, 0, false⟩ 0 = (⟨0, 0, 1, 0, 16, false⟩, 1, 0)) := hide (by decide)
  have E2 : Hid (acqC ⟨0, 0, 1, 0, 16, false⟩ 1 = (⟨0, 0, 1, 0, 16, false⟩, 0, 130)) := hide (by decide)
  have E3 : Hid (tickC ⟨0, 0, 1, 0, 16, false⟩ 16 = ⟨0, 0, 1, 16, 16, false⟩) := hide (by decide)
  have E4 : Hid (acqC ⟨0, 0, 1, 16, 16, false⟩ 1 = (⟨1, 1, 2, 16, 32, false⟩, 2, 0)) := hide (by decide)
  have E5 : Hid (renewC ⟨1, 1, 2, 16, 32, false⟩ 0 1 = (⟨1, 1, 2, 16, 32, false⟩, 132)) := hide (by decide)
  have E6 : Hid (heldC ⟨1, 1, 2, 16, 32, false⟩ = true) := hide (by decide)
  obtain ⟨B, hB⟩ : ∃ B, W.heap.size = B := ⟨_, rfl⟩
  have HB0 := hide hB
  rw [hB]
  clear hB
  go_enter Try.func7, Try.ntmps7
  go_wp2_with fail
  refine new_any.mono ?_
  rintro _ w1 ⟨rfl, b1⟩
  rw [HB0.out] at b1
  simp only [LE.val, LE.row]
  have HB1 := hide b1
  have hz1 : B ≤ w1.heap.size := by have := b1.size; have := HB0.out; omega
  clear b1
  go_wp2_with fail
  refine acquire_any.mono ?_
  rw [E1.out]
  simp only [LE.val, LE.row]
  rintro _ w2 ⟨rfl, b2⟩
  have HB2 := hide (below_next HB1.out b2 hz1)
  have hz2 : B ≤ w2.heap.size := by have := b2.size; omega
  clear b2 HB1 hz1
  go_upto_region 2 with fail
  obtain ⟨X1, hX1⟩ : ∃ X, X = w2.alloc (.cells #[.int .i64 0, .int .i64 0, .int .i64 1, .int .i64 0, .int .i64 16, .bool false] 23 (0, 0)) := ⟨_, rfl⟩
  rw [← hX1]
  obtain ⟨c1, c2, c3⟩ := alloc_box HB2.out hz2 (.cells #[.int .i64 0, .int .i64 0, .int .i64 1, .int .i64 0, .int .i64 16, .bool false] 23 (0, 0))
  rw [← hX1] at c1 c2
  obtain ⟨bB, hbB⟩ : ∃ bB, w2.heap.size = bB := ⟨_, rfl⟩
  rw [hbB] at c2 ⊢
  have HBX := hide c2
  have HB3 := hide c1
  have HLB : Hid (B ≤ bB) := hide (by rw [← hbB]; exact hz2)
  clear c1 c2 c3 hX1 hbB HB2 hz2
  obtain ⟨_, _, _, _, _, _, u0, u1, u2, u3, u4, u5⟩ := six HBX.out
  go_wp2_with fail
  refine acquire_any.mono ?_
  rw [E2.out]
  simp only [LE.val, LE.row]
  rintro _ w3 ⟨rfl, b3⟩
  have HB4 := hide (below_next HB3.out b3 (by have := box_lt HBX.out; have := HLB.out; omega))
  have HBX3 := hide (below_box b3 HBX.out)
  clear b3 HB3 HBX u0 u1 u2 u3 u4 u5
  go_upto_region 3 with fail
  obtain ⟨X2, hX2⟩ : ∃ X, X = w3.alloc (.cells #[.int .i64 0, .int .i64 0, .int .i64 1, .int .i64 0, .int .i64 16, .bool false] 23 (0, 0)) := ⟨_, rfl⟩
  rw [← hX2]
  obtain ⟨c1, c2, c3⟩ := alloc_box HB4.out (by have := box_lt HBX3.out; have := HLB.out; omega) (.cells #[.int .i64 0, .int .i64 0, .int .i64 1, .int .i64 0, .int .i64 16, .bool false] 23 (0, 0))
  rw [← hX2] at c1 c3
  have HBX4 := hide (below_box c3 HBX3.out)
  have HB5 := hide c1
  obtain ⟨yB, hyB⟩ : ∃ yB, w3.heap.size = yB := ⟨_, rfl⟩
  try rw [hyB]
  clear c1 c2 c3 hX2 hyB HB4 HBX3
  obtain ⟨_, _, _, _, _, _, u0, u1, u2, u3, u4, u5⟩ := six HBX4.out
  go_wp2_with fail
  refine tick_any.mono ?_
  rw [E3.out]
  simp only [LE.val, LE.row]
  rintro _ w4 ⟨rfl, b4⟩
  have HB6 := hide (below_next HB5.out b4 (by have := box_lt HBX4.out; have := HLB.out; omega))
  have HBX5 := hide (below_box b4 HBX4.out)
  clear b4 HB5 HBX4 u0 u1 u2 u3 u4 u5
  go_wp2_with fail
  refine acquire_any.mono ?_
  rw [E4.out]
  simp only [LE.val, LE.row]
  rintro _ w5 ⟨rfl, b5⟩
  have HB7 := hide (below_next HB6.out b5 (by have := box_lt HBX5.out; have := HLB.out; omega))
  have HBX6 := hide (below_box b5 HBX5.out)
  clear b5 HB6 HBX5
  obtain ⟨f0, f1, f2, f3, f4, f5, u0, u1, u2, u3, u4, u5⟩ := six HBX6.out
  go_upto_region 4 with fail
  obtain ⟨X3, hX3⟩ : ∃ X, X = set6 w5 bB (.int .i64 1) (.int .i64 1) (.int .i64 2) (.int .i64 16) (.int .i64 32) (.bool false) := ⟨_, rfl⟩
  unfold set6 at hX3
  rw [← hX3]
  have o3 : Only (· = bB) w5 X3 := by rw [hX3]; exact only_set6 _ _ _ _ _ _ _ _
  have HBX7 : Hid (X3.heap[bB]? = some (.cells #[.int .i64 1, .int .i64 1, .int .i64 2, .int .i64 16, .int .i64 32, .bool false] 23 (0, 0))) := hide (by rw [hX3]; exact heap_set6 HBX6.out _ _ _ _ _ _)
  have HB8 := hide (HB7.out.trans (o3.below (by have := box_lt HBX6.out; have := HLB.out; omega) (fun i e => by have e' : i = bB := e; have := HLB.out; omega)))
  clear hX3 o3 HBX6 HB7 f0 f1 f2 f3 f4 f5 u0 u1 u2 u3 u4 u5
  obtain ⟨_, _, _, _, _, _, u0, u1, u2, u3, u4, u5⟩ := six HBX7.out
  go_wp2_with fail
  refine renew_any.mono ?_
  rw [E5.out]
  simp only [LE.val, LE.row]
  rintro _ w6 ⟨rfl, b6⟩
  have HB9 := hide (below_next HB8.out b6 (by have := box_lt HBX7.out; have := HLB.out; omega))
  have HBX8 := hide (below_box b6 HBX7.out)
  clear b6 HB8 HBX7 u0 u1 u2 u3 u4 u5
  go_upto_region 5 with fail
  obtain ⟨X4, hX4⟩ : ∃ X, X = w6.alloc (.cells #[.int .i64 1, .int .i64 1, .int .i64 2, .int .i64 16, .int .i64 32, .bool false] 23 (0, 0)) := ⟨_, rfl⟩
  rw [← hX4]
  obtain ⟨c1, c2, c3⟩ := alloc_box HB9.out (by have := box_lt HBX8.out; have := HLB.out; omega) (.cells #[.int .i64 1, .int .i64 1, .int .i64 2, .int .i64 16, .int .i64 32, .bool false] 23 (0, 0))
  rw [← hX4] at c1 c3
  have HBX9 := hide (below_box c3 HBX8.out)
  have HBA := hide c1
  clear c1 c2 c3 hX4 HB9 HBX8
  obtain ⟨_, _, _, _, _, _, u0, u1, u2, u3, u4, u5⟩ := six HBX9.out
  go_wp2_with fail
  refine held_any.mono ?_
  rw [E6.out]
  rintro _ w7 ⟨rfl, b7⟩
  have HBC := hide (below_next HBA.out b7 (by have := box_lt HBX9.out; have := HLB.out; omega))
  clear b7
  go_wp2
  go_ret
  exact ⟨rfl, HBC.out⟩
end Go.Proofs.Ythlkhjpobiohmaa
