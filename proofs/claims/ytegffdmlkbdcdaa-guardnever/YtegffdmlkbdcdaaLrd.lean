/-
  The reference's Acquire and Transfer. No conditions.
-/
import Derived.Test.YtegffdmlkbdcdaaLrc
namespace Go.Proofs.Ytegffdmlkbdcdaa.Op
open Go.RowKit

theorem drew1_heap {w : World} {b : Nat} {o : Obj} (h : w.heap[b]? = some o) : w.drew.heap[b]? = some o := h
theorem below_drew1 {n : Nat} {A B : World} (h : Below n A B) : Below n A B.drew := ⟨h.os, h.tape, h.output, h.size, h.block⟩
theorem grant_full {l : LE} {r : Int} (h : l.ep = 9007199254740992) : grantC l r = (l, 0, 6) := if_pos h
theorem grant_more {l : LE} {r : Int} (h : l.ep ≠ 9007199254740992) : (grantC l r).2.1 = (grantC l r).1.ep ∧ (grantC l r).2.2 = 0 := by
  unfold grantC
  rw [if_neg h]
  exact ⟨rfl, rfl⟩
set_option maxRecDepth 100000 in
set_option maxHeartbeats 2000000 in
theorem racq_1 {W : World} {o la ep ck tl : Int} {so : Bool} {r : Int} (hk : ¬ okL ⟨o, la, ep, ck, tl, so⟩) :
    Calls Try.prog 50 #[.agg #[.int .i64 o, .int .i64 la, .int .i64 ep, .int .i64 ck, .int .i64 tl, .bool so], .int .i64 r] W fun e w' => e = .returned (.tuple #[LE.val (acqC ⟨o, la, ep, ck, tl, so⟩ r).1, .int .i64 (acqC ⟨o, la, ep, ck, tl, so⟩ r).2.1, .int .i64 (acqC ⟨o, la, ep, ck, tl, so⟩ r).2.2]) ∧ Below W.heap.size W w' := by
  have HQ : Hid (acqC ⟨o, la, ep, ck, tl, so⟩ r = (⟨o, la, ep, ck, tl, so⟩, 0, 1)) := hide (if_neg (fun h => hk h.1))
  have HC : Hid (chkC ⟨o, la, ep, ck, tl, so⟩ = 1) := hide (chk_no hk)
  obtain ⟨V0, hV0⟩ : ∃ V0, V0 = W.alloc (.cells #[.int .i64 o, .int .i64 la, .int .i64 ep, .int .i64 ck, .int .i64 tl, .bool so] 39 (0, 0)) := ⟨_, rfl⟩
  obtain ⟨V, hV⟩ : ∃ V, V = V0.alloc (.cells #[.int .i64 0, .int .i64 0, .int .i64 0, .int .i64 0, .int .i64 0, .bool false] 39 (0, 0)) := ⟨_, rfl⟩
  have bV0 : Below W.heap.size W V0 := by rw [hV0]; exact alloc_below _ _
  have bV1 : Below V0.heap.size V0 V := by rw [hV]; exact alloc_below _ _
  have v0 : V0.heap[W.heap.size]? = some (.cells #[.int .i64 o, .int .i64 la, .int .i64 ep, .int .i64 ck, .int .i64 tl, .bool so] 39 (0, 0)) := by rw [hV0]; exact heap_alloc_new W _
  have v1 : V.heap[V0.heap.size]? = some (.cells #[.int .i64 0, .int .i64 0, .int .i64 0, .int .i64 0, .int .i64 0, .bool false] 39 (0, 0)) := by rw [hV]; exact heap_alloc_new V0 _
  have v2 := below_box bV1 v0
  have hlt := box_lt v0
  have hs0 : V0.heap.size = W.heap.size + 1 := by rw [hV0]; simp
  obtain ⟨bB, hbB⟩ : ∃ bB, W.heap.size = bB := ⟨_, rfl⟩
  obtain ⟨rB, hrB⟩ : ∃ rB, V0.heap.size = rB := ⟨_, rfl⟩
  have hrb : bB + 1 = rB := by omega
  rw [hbB, hrB] at hlt
  rw [hbB] at v2
  rw [hrB] at v1
  have HBW0 : Hid (Below bB W V) := hide (by rw [← hbB]; exact below_next bV0 bV1 bV0.size)
  have HBX0 := hide v2
  have HRS0 := hide v1
  have HBB := hide hbB
  have HLT := hide hlt
  have HSZ0 := hide (box_lt v1)
  clear v0 v1 v2 bV0 bV1
  go_enter Try.func50, Try.ntmps50
  go_upto_region 1 with fail
  try rw [hbB]
  try rw [hrb]
  rw [← hV0, ← hV]
  try rw [hrB]
  clear hV0 hV hbB hrB hs0 hrb hlt
  obtain ⟨_, _, _, _, _, _, u0, u1, u2, u3, u4, u5⟩ := six HBX0.out
  go_wp2_with fail
  refine (rcheck_any).mono ?_
  rw [HC.out]
  rintro _ w1 ⟨rfl, b1⟩
  have HBX1 := hide (below_box b1 HBX0.out)
  have HRS1 := hide (below_box b1 HRS0.out)
  have HBW1 := hide (below_next HBW0.out b1 (by have := HLT.out; have := HSZ0.out; omega))
  have HSZ1 := hide (box_lt HRS1.out)
  clear b1 HBX0 HRS0 HBW0 HSZ0 u0 u1 u2 u3 u4 u5
  obtain ⟨_, _, _, _, _, _, u0, u1, u2, u3, u4, u5⟩ := six HBX1.out
  obtain ⟨f0, f1, f2, f3, f4, f5, r0, r1, r2, r3, r4, r5⟩ := six HRS1.out
  go_wp2
  have hE := heap_set6 HRS1.out (.int .i64 o) (.int .i64 la) (.int .i64 ep) (.int .i64 ck) (.int .i64 tl) (.bool so)
  refine bodyPost_ret (results_cell_three rfl _ _ rB 39 _ _ _ rfl hE Try.underlying39 rfl (by kernel_rfl)) rfl ?_
  refine ⟨by rw [HQ.out]; rfl, ?_⟩
  rw [HBB.out]
  exact HBW1.out.trans ((only_set6 _ rB _ _ _ _ _ _).below (by have := HLT.out; have := HSZ1.out; omega) (fun i e => by have e' : i = rB := e; have := HLT.out; omega))

set_option maxRecDepth 100000 in
set_option maxHeartbeats 2000000 in
theorem racq_2 {W : World} {o la ep ck tl : Int} {so : Bool} {r : Int} (hk : okL ⟨o, la, ep, ck, tl, so⟩) (h1 : ¬ (0 ≤ r ∧ r < 2)) :
    Calls Try.prog 50 #[.agg #[.int .i64 o, .int .i64 la, .int .i64 ep, .int .i64 ck, .int .i64 tl, .bool so], .int .i64 r] W fun e w' => e = .returned (.tuple #[LE.val (acqC ⟨o, la, ep, ck, tl, so⟩ r).1, .int .i64 (acqC ⟨o, la, ep, ck, tl, so⟩ r).2.1, .int .i64 (acqC ⟨o, la, ep, ck, tl, so⟩ r).2.2]) ∧ Below W.heap.size W w' := by
  have HQ : Hid (acqC ⟨o, la, ep, ck, tl, so⟩ r = (⟨o, la, ep, ck, tl, so⟩, 0, 1)) := hide (if_neg (fun h => h1 h.2))
  have HC : Hid (chkC ⟨o, la, ep, ck, tl, so⟩ = 0) := hide (chk_yes hk)
  have e1 : regC r = false := reg_no h1
  obtain ⟨V0, hV0⟩ : ∃ V0, V0 = W.alloc (.cells #[.int .i64 o, .int .i64 la, .int .i64 ep, .int .i64 ck, .int .i64 tl, .bool so] 39 (0, 0)) := ⟨_, rfl⟩
  obtain ⟨V, hV⟩ : ∃ V, V = V0.alloc (.cells #[.int .i64 0, .int .i64 0, .int .i64 0, .int .i64 0, .int .i64 0, .bool false] 39 (0, 0)) := ⟨_, rfl⟩
  have bV0 : Below W.heap.size W V0 := by rw [hV0]; exact alloc_below _ _
  have bV1 : Below V0.heap.size V0 V := by rw [hV]; exact alloc_below _ _
  have v0 : V0.heap[W.heap.size]? = some (.cells #[.int .i64 o, .int .i64 la, .int .i64 ep, .int .i64 ck, .int .i64 tl, .bool so] 39 (0, 0)) := by rw [hV0]; exact heap_alloc_new W _
  have v1 : V.heap[V0.heap.size]? = some (.cells #[.int .i64 0, .int .i64 0, .int .i64 0, .int .i64 0, .int .i64 0, .bool false] 39 (0, 0)) := by rw [hV]; exact heap_alloc_new V0 _
  have v2 := below_box bV1 v0
  have hlt := box_lt v0
  have hs0 : V0.heap.size = W.heap.size + 1 := by rw [hV0]; simp
  obtain ⟨bB, hbB⟩ : ∃ bB, W.heap.size = bB := ⟨_, rfl⟩
  obtain ⟨rB, hrB⟩ : ∃ rB, V0.heap.size = rB := ⟨_, rfl⟩
  have hrb : bB + 1 = rB := by omega
  rw [hbB, hrB] at hlt
  rw [hbB] at v2
  rw [hrB] at v1
  have HBW0 : Hid (Below bB W V) := hide (by rw [← hbB]; exact below_next bV0 bV1 bV0.size)
  have HBX0 := hide v2
  have HRS0 := hide v1
  have HBB := hide hbB
  have HLT := hide hlt
  have HSZ0 := hide (box_lt v1)
  clear v0 v1 v2 bV0 bV1
  go_enter Try.func50, Try.ntmps50
  go_upto_region 1 with fail
  try rw [hbB]
  try rw [hrb]
  rw [← hV0, ← hV]
  try rw [hrB]
  clear hV0 hV hbB hrB hs0 hrb hlt
  obtain ⟨_, _, _, _, _, _, u0, u1, u2, u3, u4, u5⟩ := six HBX0.out
  go_wp2_with fail
  refine (rcheck_any).mono ?_
  rw [HC.out]
  rintro _ w1 ⟨rfl, b1⟩
  have HBX1 := hide (below_box b1 HBX0.out)
  have HRS1 := hide (below_box b1 HRS0.out)
  have HBW1 := hide (below_next HBW0.out b1 (by have := HLT.out; have := HSZ0.out; omega))
  have HSZ1 := hide (box_lt HRS1.out)
  clear b1 HBX0 HRS0 HBW0 HSZ0 u0 u1 u2 u3 u4 u5
  obtain ⟨_, _, _, _, _, _, u0, u1, u2, u3, u4, u5⟩ := six HBX1.out
  go_upto_region 2 with ((go_at_call 54; refine rreg_any.mono ?_; rw [e1]; rintro _ w1 ⟨rfl, rfl⟩))
  obtain ⟨f0, f1, f2, f3, f4, f5, r0, r1, r2, r3, r4, r5⟩ := six HRS1.out
  go_wp2
  have hE := heap_set6 HRS1.out (.int .i64 o) (.int .i64 la) (.int .i64 ep) (.int .i64 ck) (.int .i64 tl) (.bool so)
  refine bodyPost_ret (results_cell_three rfl _ _ rB 39 _ _ _ rfl hE Try.underlying39 rfl (by kernel_rfl)) rfl ?_
  refine ⟨by rw [HQ.out]; rfl, ?_⟩
  rw [HBB.out]
  exact HBW1.out.trans ((only_set6 _ rB _ _ _ _ _ _).below (by have := HLT.out; have := HSZ1.out; omega) (fun i e => by have e' : i = rB := e; have := HLT.out; omega))

set_option maxRecDepth 100000 in
set_option maxHeartbeats 2000000 in
theorem racq_3 {W : World} {o la ep ck tl : Int} {so : Bool} {r : Int} (hk : okL ⟨o, la, ep, ck, tl, so⟩) (h1 : 0 ≤ r ∧ r < 2) (h2 : heldC ⟨o, la, ep, ck, tl, so⟩ = true) (h3 : o ≠ r) :
    Calls Try.prog 50 #[.agg #[.int .i64 o, .int .i64 la, .int .i64 ep, .int .i64 ck, .int .i64 tl, .bool so], .int .i64 r] W fun e w' => e = .returned (.tuple #[LE.val (acqC ⟨o, la, ep, ck, tl, so⟩ r).1, .int .i64 (acqC ⟨o, la, ep, ck, tl, so⟩ r).2.1, .int .i64 (acqC ⟨o, la, ep, ck, tl, so⟩ r).2.2]) ∧ Below W.heap.size W w' := by
  have HQ : Hid (acqC ⟨o, la, ep, ck, tl, so⟩ r = (⟨o, la, ep, ck, tl, so⟩, 0, 130)) := hide ((if_pos ⟨hk, h1⟩).trans (if_pos ⟨h2, h3⟩))
  have HC : Hid (chkC ⟨o, la, ep, ck, tl, so⟩ = 0) := hide (chk_yes hk)
  have e1 : regC r = true := reg_yes h1
  have HH : Hid (heldC ⟨o, la, ep, ck, tl, so⟩ = true) := hide h2
  have d3 : (o == r) = false := ne_eqL h3
  have d4 : (o != r) = true := ne_neL h3
  clear h2
  obtain ⟨V0, hV0⟩ : ∃ V0, V0 = W.alloc (.cells #[.int .i64 o, .int .i64 la, .int .i64 ep, .int .i64 ck, .int .i64 tl, .bool so] 39 (0, 0)) := ⟨_, rfl⟩
  obtain ⟨V, hV⟩ : ∃ V, V = V0.alloc (.cells #[.int .i64 0, .int .i64 0, .int .i64 0, .int .i64 0, .int .i64 0, .bool false] 39 (0, 0)) := ⟨_, rfl⟩
  have bV0 : Below W.heap.size W V0 := by rw [hV0]; exact alloc_below _ _
  have bV1 : Below V0.heap.size V0 V := by rw [hV]; exact alloc_below _ _
  have v0 : V0.heap[W.heap.size]? = some (.cells #[.int .i64 o, .int .i64 la, .int .i64 ep, .int .i64 ck, .int .i64 tl, .bool so] 39 (0, 0)) := by rw [hV0]; exact heap_alloc_new W _
  have v1 : V.heap[V0.heap.size]? = some (.cells #[.int .i64 0, .int .i64 0, .int .i64 0, .int .i64 0, .int .i64 0, .bool false] 39 (0, 0)) := by rw [hV]; exact heap_alloc_new V0 _
  have v2 := below_box bV1 v0
  have hlt := box_lt v0
  have hs0 : V0.heap.size = W.heap.size + 1 := by rw [hV0]; simp
  obtain ⟨bB, hbB⟩ : ∃ bB, W.heap.size = bB := ⟨_, rfl⟩
  obtain ⟨rB, hrB⟩ : ∃ rB, V0.heap.size = rB := ⟨_, rfl⟩
  have hrb : bB + 1 = rB := by omega
  rw [hbB, hrB] at hlt
  rw [hbB] at v2
  rw [hrB] at v1
  have HBW0 : Hid (Below bB W V) := hide (by rw [← hbB]; exact below_next bV0 bV1 bV0.size)
  have HBX0 := hide v2
  have HRS0 := hide v1
  have HBB := hide hbB
  have HLT := hide hlt
  have HSZ0 := hide (box_lt v1)
  clear v0 v1 v2 bV0 bV1
  go_enter Try.func50, Try.ntmps50
  go_upto_region 1 with fail
  try rw [hbB]
  try rw [hrb]
  rw [← hV0, ← hV]
  try rw [hrB]
  clear hV0 hV hbB hrB hs0 hrb hlt
  obtain ⟨_, _, _, _, _, _, u0, u1, u2, u3, u4, u5⟩ := six HBX0.out
  go_wp2_with fail
  refine (rcheck_any).mono ?_
  rw [HC.out]
  rintro _ w1 ⟨rfl, b1⟩
  have HBX1 := hide (below_box b1 HBX0.out)
  have HRS1 := hide (below_box b1 HRS0.out)
  have HBW1 := hide (below_next HBW0.out b1 (by have := HLT.out; have := HSZ0.out; omega))
  have HSZ1 := hide (box_lt HRS1.out)
  clear b1 HBX0 HRS0 HBW0 HSZ0 u0 u1 u2 u3 u4 u5
  obtain ⟨_, _, _, _, _, _, u0, u1, u2, u3, u4, u5⟩ := six HBX1.out
  go_wp2_with ((go_at_call 54; refine rreg_any.mono ?_; rw [e1]; rintro _ w1 ⟨rfl, rfl⟩))
  refine (rheld_any).mono ?_
  rw [HH.out]
  rintro _ w2 ⟨rfl, b2⟩
  have HBX2 := hide (below_box b2 HBX1.out)
  have HRS2 := hide (below_box b2 HRS1.out)
  have HBW2 := hide (below_next HBW1.out b2 (by have := HLT.out; have := HSZ1.out; omega))
  have HSZ2 := hide (box_lt HRS2.out)
  clear b2 HBX1 HRS1 HBW1 HSZ1 u0 u1 u2 u3 u4 u5
  obtain ⟨_, _, _, _, _, _, u0, u1, u2, u3, u4, u5⟩ := six HBX2.out
  obtain ⟨f0, f1, f2, f3, f4, f5, r0, r1, r2, r3, r4, r5⟩ := six HRS2.out
  go_wp2
  have hE := heap_set6 HRS2.out (.int .i64 o) (.int .i64 la) (.int .i64 ep) (.int .i64 ck) (.int .i64 tl) (.bool so)
  refine bodyPost_ret (results_cell_three rfl _ _ rB 39 _ _ _ rfl hE Try.underlying39 rfl (by kernel_rfl)) rfl ?_
  refine ⟨by rw [HQ.out]; rfl, ?_⟩
  rw [HBB.out]
  exact HBW2.out.trans ((only_set6 _ rB _ _ _ _ _ _).below (by have := HLT.out; have := HSZ2.out; omega) (fun i e => by have e' : i = rB := e; have := HLT.out; omega))

set_option maxRecDepth 100000 in
set_option maxHeartbeats 2000000 in
theorem racq_4 {W : World} {o la ep ck tl : Int}  {r : Int} (hk : okL ⟨o, la, ep, ck, tl, true⟩) (h1 : 0 ≤ r ∧ r < 2) (h2 : heldC ⟨o, la, ep, ck, tl, true⟩ = false) (h4 : la ≠ r) :
    Calls Try.prog 50 #[.agg #[.int .i64 o, .int .i64 la, .int .i64 ep, .int .i64 ck, .int .i64 tl, .bool true], .int .i64 r] W fun e w' => e = .returned (.tuple #[LE.val (acqC ⟨o, la, ep, ck, tl, true⟩ r).1, .int .i64 (acqC ⟨o, la, ep, ck, tl, true⟩ r).2.1, .int .i64 (acqC ⟨o, la, ep, ck, tl, true⟩ r).2.2]) ∧ Below W.heap.size W w' := by
  have HQ : Hid (acqC ⟨o, la, ep, ck, tl, true⟩ r = (⟨o, la, ep, ck, tl, true⟩, 0, 131)) := hide ((if_pos ⟨hk, h1⟩).trans ((if_neg (fun h => by rw [h2] at h; cases h.1)).trans (if_pos ⟨rfl, h4⟩)))
  have HC : Hid (chkC ⟨o, la, ep, ck, tl, true⟩ = 0) := hide (chk_yes hk)
  have e1 : regC r = true := reg_yes h1
  have HH : Hid (heldC ⟨o, la, ep, ck, tl, true⟩ = false) := hide h2
  have d5 : (la == r) = false := ne_eqL h4
  have d6 : (la != r) = true := ne_neL h4
  clear h2
  obtain ⟨V0, hV0⟩ : ∃ V0, V0 = W.alloc (.cells #[.int .i64 o, .int .i64 la, .int .i64 ep, .int .i64 ck, .int .i64 tl, .bool true] 39 (0, 0)) := ⟨_, rfl⟩
  obtain ⟨V, hV⟩ : ∃ V, V = V0.alloc (.cells #[.int .i64 0, .int .i64 0, .int .i64 0, .int .i64 0, .int .i64 0, .bool false] 39 (0, 0)) := ⟨_, rfl⟩
  have bV0 : Below W.heap.size W V0 := by rw [hV0]; exact alloc_below _ _
  have bV1 : Below V0.heap.size V0 V := by rw [hV]; exact alloc_below _ _
  have v0 : V0.heap[W.heap.size]? = some (.cells #[.int .i64 o, .int .i64 la, .int .i64 ep, .int .i64 ck, .int .i64 tl, .bool true] 39 (0, 0)) := by rw [hV0]; exact heap_alloc_new W _
  have v1 : V.heap[V0.heap.size]? = some (.cells #[.int .i64 0, .int .i64 0, .int .i64 0, .int .i64 0, .int .i64 0, .bool false] 39 (0, 0)) := by rw [hV]; exact heap_alloc_new V0 _
  have v2 := below_box bV1 v0
  have hlt := box_lt v0
  have hs0 : V0.heap.size = W.heap.size + 1 := by rw [hV0]; simp
  obtain ⟨bB, hbB⟩ : ∃ bB, W.heap.size = bB := ⟨_, rfl⟩
  obtain ⟨rB, hrB⟩ : ∃ rB, V0.heap.size = rB := ⟨_, rfl⟩
  have hrb : bB + 1 = rB := by omega
  rw [hbB, hrB] at hlt
  rw [hbB] at v2
  rw [hrB] at v1
  have HBW0 : Hid (Below bB W V) := hide (by rw [← hbB]; exact below_next bV0 bV1 bV0.size)
  have HBX0 := hide v2
  have HRS0 := hide v1
  have HBB := hide hbB
  have HLT := hide hlt
  have HSZ0 := hide (box_lt v1)
  clear v0 v1 v2 bV0 bV1
  go_enter Try.func50, Try.ntmps50
  go_upto_region 1 with fail
  try rw [hbB]
  try rw [hrb]
  rw [← hV0, ← hV]
  try rw [hrB]
  clear hV0 hV hbB hrB hs0 hrb hlt
  obtain ⟨_, _, _, _, _, _, u0, u1, u2, u3, u4, u5⟩ := six HBX0.out
  go_wp2_with fail
  refine (rcheck_any).mono ?_
  rw [HC.out]
  rintro _ w1 ⟨rfl, b1⟩
  have HBX1 := hide (below_box b1 HBX0.out)
  have HRS1 := hide (below_box b1 HRS0.out)
  have HBW1 := hide (below_next HBW0.out b1 (by have := HLT.out; have := HSZ0.out; omega))
  have HSZ1 := hide (box_lt HRS1.out)
  clear b1 HBX0 HRS0 HBW0 HSZ0 u0 u1 u2 u3 u4 u5
  obtain ⟨_, _, _, _, _, _, u0, u1, u2, u3, u4, u5⟩ := six HBX1.out
  go_wp2_with ((go_at_call 54; refine rreg_any.mono ?_; rw [e1]; rintro _ w1 ⟨rfl, rfl⟩))
  refine (rheld_any).mono ?_
  rw [HH.out]
  rintro _ w2 ⟨rfl, b2⟩
  have HBX2 := hide (below_box b2 HBX1.out)
  have HRS2 := hide (below_box b2 HRS1.out)
  have HBW2 := hide (below_next HBW1.out b2 (by have := HLT.out; have := HSZ1.out; omega))
  have HSZ2 := hide (box_lt HRS2.out)
  clear b2 HBX1 HRS1 HBW1 HSZ1 u0 u1 u2 u3 u4 u5
  obtain ⟨_, _, _, _, _, _, u0, u1, u2, u3, u4, u5⟩ := six HBX2.out
  obtain ⟨f0, f1, f2, f3, f4, f5, r0, r1, r2, r3, r4, r5⟩ := six HRS2.out
  go_wp2
  have hE := heap_set6 HRS2.out (.int .i64 o) (.int .i64 la) (.int .i64 ep) (.int .i64 ck) (.int .i64 tl) (.bool true)
  refine bodyPost_ret (results_cell_three rfl _ _ rB 39 _ _ _ rfl hE Try.underlying39 rfl (by kernel_rfl)) rfl ?_
  refine ⟨by rw [HQ.out]; rfl, ?_⟩
  rw [HBB.out]
  exact HBW2.out.trans ((only_set6 _ rB _ _ _ _ _ _).below (by have := HLT.out; have := HSZ2.out; omega) (fun i e => by have e' : i = rB := e; have := HLT.out; omega))

set_option maxRecDepth 100000 in
set_option maxHeartbeats 2000000 in
theorem racq_5f {W : World} {o la ep ck tl : Int}  {r : Int} (hk : okL ⟨o, la, ep, ck, tl, false⟩) (h1 : 0 ≤ r ∧ r < 2) (h2 : heldC ⟨o, la, ep, ck, tl, false⟩ = false) (h9 : ep = 9007199254740992) :
    Calls Try.prog 50 #[.agg #[.int .i64 o, .int .i64 la, .int .i64 ep, .int .i64 ck, .int .i64 tl, .bool false], .int .i64 r] W fun e w' => e = .returned (.tuple #[LE.val (acqC ⟨o, la, ep, ck, tl, false⟩ r).1, .int .i64 (acqC ⟨o, la, ep, ck, tl, false⟩ r).2.1, .int .i64 (acqC ⟨o, la, ep, ck, tl, false⟩ r).2.2]) ∧ Below W.heap.size W w' := by
  have HQ : Hid (acqC ⟨o, la, ep, ck, tl, false⟩ r = (⟨o, la, ep, ck, tl, false⟩, 0, 6)) := hide ((if_pos ⟨hk, h1⟩).trans ((if_neg (fun h => by rw [h2] at h; cases h.1)).trans ((if_neg (fun h => by cases h.1)).trans (grant_full h9))))
  have HC : Hid (chkC ⟨o, la, ep, ck, tl, false⟩ = 0) := hide (chk_yes hk)
  have e1 : regC r = true := reg_yes h1
  have HH : Hid (heldC ⟨o, la, ep, ck, tl, false⟩ = false) := hide h2
  have d9 : (ep == 9007199254740992) = true := by simp [h9]
  clear h2 hk h9
  obtain ⟨V0, hV0⟩ : ∃ V0, V0 = W.alloc (.cells #[.int .i64 o, .int .i64 la, .int .i64 ep, .int .i64 ck, .int .i64 tl, .bool false] 39 (0, 0)) := ⟨_, rfl⟩
  obtain ⟨V, hV⟩ : ∃ V, V = V0.alloc (.cells #[.int .i64 0, .int .i64 0, .int .i64 0, .int .i64 0, .int .i64 0, .bool false] 39 (0, 0)) := ⟨_, rfl⟩
  have bV0 : Below W.heap.size W V0 := by rw [hV0]; exact alloc_below _ _
  have bV1 : Below V0.heap.size V0 V := by rw [hV]; exact alloc_below _ _
  have v0 : V0.heap[W.heap.size]? = some (.cells #[.int .i64 o, .int .i64 la, .int .i64 ep, .int .i64 ck, .int .i64 tl, .bool false] 39 (0, 0)) := by rw [hV0]; exact heap_alloc_new W _
  have v1 : V.heap[V0.heap.size]? = some (.cells #[.int .i64 0, .int .i64 0, .int .i64 0, .int .i64 0, .int .i64 0, .bool false] 39 (0, 0)) := by rw [hV]; exact heap_alloc_new V0 _
  have v2 := below_box bV1 v0
  have hlt := box_lt v0
  have hs0 : V0.heap.size = W.heap.size + 1 := by rw [hV0]; simp
  obtain ⟨bB, hbB⟩ : ∃ bB, W.heap.size = bB := ⟨_, rfl⟩
  obtain ⟨rB, hrB⟩ : ∃ rB, V0.heap.size = rB := ⟨_, rfl⟩
  have hrb : bB + 1 = rB := by omega
  rw [hbB, hrB] at hlt
  rw [hbB] at v2
  rw [hrB] at v1
  have HBW0 : Hid (Below bB W V) := hide (by rw [← hbB]; exact below_next bV0 bV1 bV0.size)
  have HBX0 := hide v2
  have HRS0 := hide v1
  have HBB := hide hbB
  have HLT := hide hlt
  have HSZ0 := hide (box_lt v1)
  clear v0 v1 v2 bV0 bV1
  go_enter Try.func50, Try.ntmps50
  go_upto_region 1 with fail
  try rw [hbB]
  try rw [hrb]
  rw [← hV0, ← hV]
  try rw [hrB]
  clear hV0 hV hbB hrB hs0 hrb hlt
  obtain ⟨_, _, _, _, _, _, u0, u1, u2, u3, u4, u5⟩ := six HBX0.out
  go_wp2_with fail
  refine (rcheck_any).mono ?_
  rw [HC.out]
  rintro _ w1 ⟨rfl, b1⟩
  have HBX1 := hide (below_box b1 HBX0.out)
  have HRS1 := hide (below_box b1 HRS0.out)
  have HBW1 := hide (below_next HBW0.out b1 (by have := HLT.out; have := HSZ0.out; omega))
  have HSZ1 := hide (box_lt HRS1.out)
  clear b1 HBX0 HRS0 HBW0 HSZ0 u0 u1 u2 u3 u4 u5
  obtain ⟨_, _, _, _, _, _, u0, u1, u2, u3, u4, u5⟩ := six HBX1.out
  go_wp2_with ((go_at_call 54; refine rreg_any.mono ?_; rw [e1]; rintro _ w1 ⟨rfl, rfl⟩))
  refine (rheld_any).mono ?_
  rw [HH.out]
  rintro _ w2 ⟨rfl, b2⟩
  have HBX2 := hide (below_box b2 HBX1.out)
  have HRS2 := hide (below_box b2 HRS1.out)
  have HBW2 := hide (below_next HBW1.out b2 (by have := HLT.out; have := HSZ1.out; omega))
  have HSZ2 := hide (box_lt HRS2.out)
  clear b2 HBX1 HRS1 HBW1 HSZ1 u0 u1 u2 u3 u4 u5
  obtain ⟨_, _, _, _, _, _, u0, u1, u2, u3, u4, u5⟩ := six HBX2.out
  obtain ⟨f0, f1, f2, f3, f4, f5, r0, r1, r2, r3, r4, r5⟩ := six HRS2.out
  go_wp2
  have hE := heap_set6 HRS2.out (.int .i64 o) (.int .i64 la) (.int .i64 ep) (.int .i64 ck) (.int .i64 tl) (.bool false)
  refine bodyPost_ret (results_cell_three rfl _ _ rB 39 _ _ _ rfl hE Try.underlying39 rfl (by kernel_rfl)) rfl ?_
  refine ⟨by rw [HQ.out]; rfl, ?_⟩
  rw [HBB.out]
  exact HBW2.out.trans ((only_set6 _ rB _ _ _ _ _ _).below (by have := HLT.out; have := HSZ2.out; omega) (fun i e => by have e' : i = rB := e; have := HLT.out; omega))

set_option maxRecDepth 100000 in
set_option maxHeartbeats 2000000 in
theorem racq_5g {W : World} {o la ep ck tl : Int}  {r : Int} (hk : okL ⟨o, la, ep, ck, tl, false⟩) (h1 : 0 ≤ r ∧ r < 2) (h2 : heldC ⟨o, la, ep, ck, tl, false⟩ = false) (h9 : ep ≠ 9007199254740992) :
    Calls Try.prog 50 #[.agg #[.int .i64 o, .int .i64 la, .int .i64 ep, .int .i64 ck, .int .i64 tl, .bool false], .int .i64 r] W fun e w' => e = .returned (.tuple #[LE.val (acqC ⟨o, la, ep, ck, tl, false⟩ r).1, .int .i64 (acqC ⟨o, la, ep, ck, tl, false⟩ r).2.1, .int .i64 (acqC ⟨o, la, ep, ck, tl, false⟩ r).2.2]) ∧ Below W.heap.size W w' := by
  obtain ⟨⟨g0, g1, g2, g3, g4, g5⟩, hg⟩ : ∃ q, (grantC ⟨o, la, ep, ck, tl, false⟩ r).1 = q := ⟨_, rfl⟩
  have hgg : grantC ⟨o, la, ep, ck, tl, false⟩ r = (⟨g0, g1, g2, g3, g4, g5⟩, g2, 0) := by
    have h := grant_more (l := ⟨o, la, ep, ck, tl, false⟩) (r := r) h9
    rw [hg] at h
    exact Prod.ext hg (Prod.ext h.1 h.2)
  have HQ : Hid (acqC ⟨o, la, ep, ck, tl, false⟩ r = (⟨g0, g1, g2, g3, g4, g5⟩, g2, 0)) := hide ((if_pos ⟨hk, h1⟩).trans ((if_neg (fun h => by rw [h2] at h; cases h.1)).trans ((if_neg (fun h => by cases h.1)).trans hgg)))
  have HC : Hid (chkC ⟨o, la, ep, ck, tl, false⟩ = 0) := hide (chk_yes hk)
  have e1 : regC r = true := reg_yes h1
  have HH : Hid (heldC ⟨o, la, ep, ck, tl, false⟩ = false) := hide h2
  have HG := hide hg
  have HKK := hide hk
  have HNE := hide h9
  have d9 : (ep == 9007199254740992) = false := ne_eqL h9
  clear hg hgg h2 hk h9
  obtain ⟨V0, hV0⟩ : ∃ V0, V0 = W.alloc (.cells #[.int .i64 o, .int .i64 la, .int .i64 ep, .int .i64 ck, .int .i64 tl, .bool false] 39 (0, 0)) := ⟨_, rfl⟩
  obtain ⟨V, hV⟩ : ∃ V, V = V0.alloc (.cells #[.int .i64 0, .int .i64 0, .int .i64 0, .int .i64 0, .int .i64 0, .bool false] 39 (0, 0)) := ⟨_, rfl⟩
  have bV0 : Below W.heap.size W V0 := by rw [hV0]; exact alloc_below _ _
  have bV1 : Below V0.heap.size V0 V := by rw [hV]; exact alloc_below _ _
  have v0 : V0.heap[W.heap.size]? = some (.cells #[.int .i64 o, .int .i64 la, .int .i64 ep, .int .i64 ck, .int .i64 tl, .bool false] 39 (0, 0)) := by rw [hV0]; exact heap_alloc_new W _
  have v1 : V.heap[V0.heap.size]? = some (.cells #[.int .i64 0, .int .i64 0, .int .i64 0, .int .i64 0, .int .i64 0, .bool false] 39 (0, 0)) := by rw [hV]; exact heap_alloc_new V0 _
  have v2 := below_box bV1 v0
  have hlt := box_lt v0
  have hs0 : V0.heap.size = W.heap.size + 1 := by rw [hV0]; simp
  obtain ⟨bB, hbB⟩ : ∃ bB, W.heap.size = bB := ⟨_, rfl⟩
  obtain ⟨rB, hrB⟩ : ∃ rB, V0.heap.size = rB := ⟨_, rfl⟩
  have hrb : bB + 1 = rB := by omega
  rw [hbB, hrB] at hlt
  rw [hbB] at v2
  rw [hrB] at v1
  have HBW0 : Hid (Below bB W V) := hide (by rw [← hbB]; exact below_next bV0 bV1 bV0.size)
  have HBX0 := hide v2
  have HRS0 := hide v1
  have HBB := hide hbB
  have HLT := hide hlt
  have HSZ0 := hide (box_lt v1)
  clear v0 v1 v2 bV0 bV1
  go_enter Try.func50, Try.ntmps50
  go_upto_region 1 with fail
  try rw [hbB]
  try rw [hrb]
  rw [← hV0, ← hV]
  try rw [hrB]
  clear hV0 hV hbB hrB hs0 hrb hlt
  obtain ⟨_, _, _, _, _, _, u0, u1, u2, u3, u4, u5⟩ := six HBX0.out
  go_wp2_with fail
  refine (rcheck_any).mono ?_
  rw [HC.out]
  rintro _ w1 ⟨rfl, b1⟩
  have HBX1 := hide (below_box b1 HBX0.out)
  have HRS1 := hide (below_box b1 HRS0.out)
  have HBW1 := hide (below_next HBW0.out b1 (by have := HLT.out; have := HSZ0.out; omega))
  have HSZ1 := hide (box_lt HRS1.out)
  clear b1 HBX0 HRS0 HBW0 HSZ0 u0 u1 u2 u3 u4 u5
  obtain ⟨_, _, _, _, _, _, u0, u1, u2, u3, u4, u5⟩ := six HBX1.out
  go_wp2_with ((go_at_call 54; refine rreg_any.mono ?_; rw [e1]; rintro _ w1 ⟨rfl, rfl⟩))
  refine (rheld_any).mono ?_
  rw [HH.out]
  rintro _ w2 ⟨rfl, b2⟩
  have HBX2 := hide (below_box b2 HBX1.out)
  have HRS2 := hide (below_box b2 HRS1.out)
  have HBW2 := hide (below_next HBW1.out b2 (by have := HLT.out; have := HSZ1.out; omega))
  have HSZ2 := hide (box_lt HRS2.out)
  clear b2 HBX1 HRS1 HBW1 HSZ1 u0 u1 u2 u3 u4 u5
  obtain ⟨_, _, _, _, _, _, u0, u1, u2, u3, u4, u5⟩ := six HBX2.out
  go_wp2_with fail
  refine (rgrant_any HKK.out HNE.out).mono ?_
  rw [HG.out]
  simp only [LE.val, LE.row]
  rintro _ w3 ⟨rfl, b3⟩
  have HBX3 := hide (below_box b3 HBX2.out)
  have HRS3 := hide (below_box b3 HRS2.out)
  have HBW3 := hide (below_next HBW2.out b3 (by have := HLT.out; have := HSZ2.out; omega))
  have HSZ3 := hide (box_lt HRS3.out)
  clear b3 HBX2 HRS2 HBW2 HSZ2 u0 u1 u2 u3 u4 u5
  obtain ⟨q0, q1, q2, q3, q4, q5, u0, u1, u2, u3, u4, u5⟩ := six HBX3.out
  go_upto_region 10 with fail
  clear q0 q1 q2 q3 q4 q5
  obtain ⟨X, hX⟩ : ∃ X, X = ((((((w3.setCell ⟨bB, 0, none⟩ (.int .i64 g0)).setCell ⟨bB, 1, none⟩ (.int .i64 g1)).setCell ⟨bB, 2, none⟩ (.int .i64 g2)).setCell ⟨bB, 3, none⟩ (.int .i64 g3)).setCell ⟨bB, 4, none⟩ (.int .i64 g4)).setCell ⟨bB, 5, none⟩ (.bool g5)) := ⟨_, rfl⟩
  have oX : Only (· = bB) w3 X := by rw [hX]; exact ((((((Only.set (F := (· = bB)) _ bB 0 (.int .i64 g0) rfl).trans (Only.set (F := (· = bB)) _ bB 1 (.int .i64 g1) rfl)).trans (Only.set (F := (· = bB)) _ bB 2 (.int .i64 g2) rfl)).trans (Only.set (F := (· = bB)) _ bB 3 (.int .i64 g3) rfl)).trans (Only.set (F := (· = bB)) _ bB 4 (.int .i64 g4) rfl)).trans (Only.set (F := (· = bB)) _ bB 5 (.bool g5) rfl))
  have HBX4 : Hid (X.heap[bB]? = some (.cells #[.int .i64 g0, .int .i64 g1, .int .i64 g2, .int .i64 g3, .int .i64 g4, .bool g5] 39 (0, 0))) := hide (by rw [hX]; exact (heap_set_sameL (heap_set_sameL (heap_set_sameL (heap_set_sameL (heap_set_sameL (heap_set_sameL HBX3.out 0 (.int .i64 g0)) 1 (.int .i64 g1)) 2 (.int .i64 g2)) 3 (.int .i64 g3)) 4 (.int .i64 g4)) 5 (.bool g5)))
  have HRS4 := hide (oX.obj HRS3.out (fun e => by have e' : rB = bB := e; have := HLT.out; omega))
  have HBW4 := hide (HBW3.out.trans (oX.below (by have := HLT.out; have := HSZ3.out; omega) (fun i e => by have e' : i = bB := e; omega)))
  have HSZ4 := hide (box_lt HRS4.out)
  rw [← hX]
  clear hX oX HBX3 HRS3 HBW3 HSZ3 u0 u1 u2 u3 u4 u5
  obtain ⟨_, _, _, _, _, _, u0, u1, u2, u3, u4, u5⟩ := six HBX4.out
  obtain ⟨f0, f1, f2, f3, f4, f5, r0, r1, r2, r3, r4, r5⟩ := six HRS4.out
  have hne1 : rB ≠ bB := by have := HLT.out; omega
  have hne2 : bB ≠ rB := by have := HLT.out; omega
  go_region_held3 (fun w' => w'.cell? ⟨bB, 0, none⟩ = some (.int .i64 g0) ∧ w'.cell? ⟨bB, 1, none⟩ = some (.int .i64 g1) ∧ w'.cell? ⟨bB, 2, none⟩ = some (.int .i64 g2) ∧ w'.cell? ⟨bB, 3, none⟩ = some (.int .i64 g3) ∧ w'.cell? ⟨bB, 4, none⟩ = some (.int .i64 g4) ∧ w'.cell? ⟨bB, 5, none⟩ = some (.bool g5)) (go_keep) (fail)
  go_wp2
  have hE := drew1_heap (heap_set6 HRS4.out (.int .i64 g0) (.int .i64 g1) (.int .i64 g2) (.int .i64 g3) (.int .i64 g4) (.bool g5))
  refine bodyPost_ret (results_cell_three rfl _ _ rB 39 _ _ _ rfl hE Try.underlying39 rfl (by kernel_rfl)) rfl ?_
  refine ⟨by rw [HQ.out]; rfl, ?_⟩
  rw [HBB.out]
  exact below_drew1 (HBW4.out.trans ((only_set6 _ rB _ _ _ _ _ _).below (by have := HLT.out; have := HSZ4.out; omega) (fun i e => by have e' : i = rB := e; have := HLT.out; omega)))

set_option maxRecDepth 100000 in
set_option maxHeartbeats 2000000 in
theorem racq_6f {W : World} {o la ep ck tl : Int}  {r : Int} (hk : okL ⟨o, la, ep, ck, tl, true⟩) (h1 : 0 ≤ r ∧ r < 2) (h2 : heldC ⟨o, la, ep, ck, tl, true⟩ = false) (h4 : la = r) (h9 : ep = 9007199254740992) :
    Calls Try.prog 50 #[.agg #[.int .i64 o, .int .i64 la, .int .i64 ep, .int .i64 ck, .int .i64 tl, .bool true], .int .i64 r] W fun e w' => e = .returned (.tuple #[LE.val (acqC ⟨o, la, ep, ck, tl, true⟩ r).1, .int .i64 (acqC ⟨o, la, ep, ck, tl, true⟩ r).2.1, .int .i64 (acqC ⟨o, la, ep, ck, tl, true⟩ r).2.2]) ∧ Below W.heap.size W w' := by
  have HQ : Hid (acqC ⟨o, la, ep, ck, tl, true⟩ r = (⟨o, la, ep, ck, tl, true⟩, 0, 6)) := hide ((if_pos ⟨hk, h1⟩).trans ((if_neg (fun h => by rw [h2] at h; cases h.1)).trans ((if_neg (fun h => h.2 h4)).trans (grant_full h9))))
  have HC : Hid (chkC ⟨o, la, ep, ck, tl, true⟩ = 0) := hide (chk_yes hk)
  have e1 : regC r = true := reg_yes h1
  have HH : Hid (heldC ⟨o, la, ep, ck, tl, true⟩ = false) := hide h2
  have d9 : (ep == 9007199254740992) = true := by simp [h9]
  clear h2 hk h9
  have d5 : (la == r) = true := by simp [h4]
  have d6 : (la != r) = false := by simp [h4]
  clear h4
  obtain ⟨V0, hV0⟩ : ∃ V0, V0 = W.alloc (.cells #[.int .i64 o, .int .i64 la, .int .i64 ep, .int .i64 ck, .int .i64 tl, .bool true] 39 (0, 0)) := ⟨_, rfl⟩
  obtain ⟨V, hV⟩ : ∃ V, V = V0.alloc (.cells #[.int .i64 0, .int .i64 0, .int .i64 0, .int .i64 0, .int .i64 0, .bool false] 39 (0, 0)) := ⟨_, rfl⟩
  have bV0 : Below W.heap.size W V0 := by rw [hV0]; exact alloc_below _ _
  have bV1 : Below V0.heap.size V0 V := by rw [hV]; exact alloc_below _ _
  have v0 : V0.heap[W.heap.size]? = some (.cells #[.int .i64 o, .int .i64 la, .int .i64 ep, .int .i64 ck, .int .i64 tl, .bool true] 39 (0, 0)) := by rw [hV0]; exact heap_alloc_new W _
  have v1 : V.heap[V0.heap.size]? = some (.cells #[.int .i64 0, .int .i64 0, .int .i64 0, .int .i64 0, .int .i64 0, .bool false] 39 (0, 0)) := by rw [hV]; exact heap_alloc_new V0 _
  have v2 := below_box bV1 v0
  have hlt := box_lt v0
  have hs0 : V0.heap.size = W.heap.size + 1 := by rw [hV0]; simp
  obtain ⟨bB, hbB⟩ : ∃ bB, W.heap.size = bB := ⟨_, rfl⟩
  obtain ⟨rB, hrB⟩ : ∃ rB, V0.heap.size = rB := ⟨_, rfl⟩
  have hrb : bB + 1 = rB := by omega
  rw [hbB, hrB] at hlt
  rw [hbB] at v2
  rw [hrB] at v1
  have HBW0 : Hid (Below bB W V) := hide (by rw [← hbB]; exact below_next bV0 bV1 bV0.size)
  have HBX0 := hide v2
  have HRS0 := hide v1
  have HBB := hide hbB
  have HLT := hide hlt
  have HSZ0 := hide (box_lt v1)
  clear v0 v1 v2 bV0 bV1
  go_enter Try.func50, Try.ntmps50
  go_upto_region 1 with fail
  try rw [hbB]
  try rw [hrb]
  rw [← hV0, ← hV]
  try rw [hrB]
  clear hV0 hV hbB hrB hs0 hrb hlt
  obtain ⟨_, _, _, _, _, _, u0, u1, u2, u3, u4, u5⟩ := six HBX0.out
  go_wp2_with fail
  refine (rcheck_any).mono ?_
  rw [HC.out]
  rintro _ w1 ⟨rfl, b1⟩
  have HBX1 := hide (below_box b1 HBX0.out)
  have HRS1 := hide (below_box b1 HRS0.out)
  have HBW1 := hide (below_next HBW0.out b1 (by have := HLT.out; have := HSZ0.out; omega))
  have HSZ1 := hide (box_lt HRS1.out)
  clear b1 HBX0 HRS0 HBW0 HSZ0 u0 u1 u2 u3 u4 u5
  obtain ⟨_, _, _, _, _, _, u0, u1, u2, u3, u4, u5⟩ := six HBX1.out
  go_wp2_with ((go_at_call 54; refine rreg_any.mono ?_; rw [e1]; rintro _ w1 ⟨rfl, rfl⟩))
  refine (rheld_any).mono ?_
  rw [HH.out]
  rintro _ w2 ⟨rfl, b2⟩
  have HBX2 := hide (below_box b2 HBX1.out)
  have HRS2 := hide (below_box b2 HRS1.out)
  have HBW2 := hide (below_next HBW1.out b2 (by have := HLT.out; have := HSZ1.out; omega))
  have HSZ2 := hide (box_lt HRS2.out)
  clear b2 HBX1 HRS1 HBW1 HSZ1 u0 u1 u2 u3 u4 u5
  obtain ⟨_, _, _, _, _, _, u0, u1, u2, u3, u4, u5⟩ := six HBX2.out
  obtain ⟨f0, f1, f2, f3, f4, f5, r0, r1, r2, r3, r4, r5⟩ := six HRS2.out
  go_wp2
  have hE := heap_set6 HRS2.out (.int .i64 o) (.int .i64 la) (.int .i64 ep) (.int .i64 ck) (.int .i64 tl) (.bool true)
  refine bodyPost_ret (results_cell_three rfl _ _ rB 39 _ _ _ rfl hE Try.underlying39 rfl (by kernel_rfl)) rfl ?_
  refine ⟨by rw [HQ.out]; rfl, ?_⟩
  rw [HBB.out]
  exact HBW2.out.trans ((only_set6 _ rB _ _ _ _ _ _).below (by have := HLT.out; have := HSZ2.out; omega) (fun i e => by have e' : i = rB := e; have := HLT.out; omega))

set_option maxRecDepth 100000 in
set_option maxHeartbeats 2000000 in
theorem racq_6g {W : World} {o la ep ck tl : Int}  {r : Int} (hk : okL ⟨o, la, ep, ck, tl, true⟩) (h1 : 0 ≤ r ∧ r < 2) (h2 : heldC ⟨o, la, ep, ck, tl, true⟩ = false) (h4 : la = r) (h9 : ep ≠ 9007199254740992) :
    Calls Try.prog 50 #[.agg #[.int .i64 o, .int .i64 la, .int .i64 ep, .int .i64 ck, .int .i64 tl, .bool true], .int .i64 r] W fun e w' => e = .returned (.tuple #[LE.val (acqC ⟨o, la, ep, ck, tl, true⟩ r).1, .int .i64 (acqC ⟨o, la, ep, ck, tl, true⟩ r).2.1, .int .i64 (acqC ⟨o, la, ep, ck, tl, true⟩ r).2.2]) ∧ Below W.heap.size W w' := by
  obtain ⟨⟨g0, g1, g2, g3, g4, g5⟩, hg⟩ : ∃ q, (grantC ⟨o, la, ep, ck, tl, true⟩ r).1 = q := ⟨_, rfl⟩
  have hgg : grantC ⟨o, la, ep, ck, tl, true⟩ r = (⟨g0, g1, g2, g3, g4, g5⟩, g2, 0) := by
    have h := grant_more (l := ⟨o, la, ep, ck, tl, true⟩) (r := r) h9
    rw [hg] at h
    exact Prod.ext hg (Prod.ext h.1 h.2)
  have HQ : Hid (acqC ⟨o, la, ep, ck, tl, true⟩ r = (⟨g0, g1, g2, g3, g4, g5⟩, g2, 0)) := hide ((if_pos ⟨hk, h1⟩).trans ((if_neg (fun h => by rw [h2] at h; cases h.1)).trans ((if_neg (fun h => h.2 h4)).trans hgg)))
  have HC : Hid (chkC ⟨o, la, ep, ck, tl, true⟩ = 0) := hide (chk_yes hk)
  have e1 : regC r = true := reg_yes h1
  have HH : Hid (heldC ⟨o, la, ep, ck, tl, true⟩ = false) := hide h2
  have HG := hide hg
  have HKK := hide hk
  have HNE := hide h9
  have d9 : (ep == 9007199254740992) = false := ne_eqL h9
  clear hg hgg h2 hk h9
  have d5 : (la == r) = true := by simp [h4]
  have d6 : (la != r) = false := by simp [h4]
  clear h4
  obtain ⟨V0, hV0⟩ : ∃ V0, V0 = W.alloc (.cells #[.int .i64 o, .int .i64 la, .int .i64 ep, .int .i64 ck, .int .i64 tl, .bool true] 39 (0, 0)) := ⟨_, rfl⟩
  obtain ⟨V, hV⟩ : ∃ V, V = V0.alloc (.cells #[.int .i64 0, .int .i64 0, .int .i64 0, .int .i64 0, .int .i64 0, .bool false] 39 (0, 0)) := ⟨_, rfl⟩
  have bV0 : Below W.heap.size W V0 := by rw [hV0]; exact alloc_below _ _
  have bV1 : Below V0.heap.size V0 V := by rw [hV]; exact alloc_below _ _
  have v0 : V0.heap[W.heap.size]? = some (.cells #[.int .i64 o, .int .i64 la, .int .i64 ep, .int .i64 ck, .int .i64 tl, .bool true] 39 (0, 0)) := by rw [hV0]; exact heap_alloc_new W _
  have v1 : V.heap[V0.heap.size]? = some (.cells #[.int .i64 0, .int .i64 0, .int .i64 0, .int .i64 0, .int .i64 0, .bool false] 39 (0, 0)) := by rw [hV]; exact heap_alloc_new V0 _
  have v2 := below_box bV1 v0
  have hlt := box_lt v0
  have hs0 : V0.heap.size = W.heap.size + 1 := by rw [hV0]; simp
  obtain ⟨bB, hbB⟩ : ∃ bB, W.heap.size = bB := ⟨_, rfl⟩
  obtain ⟨rB, hrB⟩ : ∃ rB, V0.heap.size = rB := ⟨_, rfl⟩
  have hrb : bB + 1 = rB := by omega
  rw [hbB, hrB] at hlt
  rw [hbB] at v2
  rw [hrB] at v1
  have HBW0 : Hid (Below bB W V) := hide (by rw [← hbB]; exact below_next bV0 bV1 bV0.size)
  have HBX0 := hide v2
  have HRS0 := hide v1
  have HBB := hide hbB
  have HLT := hide hlt
  have HSZ0 := hide (box_lt v1)
  clear v0 v1 v2 bV0 bV1
  go_enter Try.func50, Try.ntmps50
  go_upto_region 1 with fail
  try rw [hbB]
  try rw [hrb]
  rw [← hV0, ← hV]
  try rw [hrB]
  clear hV0 hV hbB hrB hs0 hrb hlt
  obtain ⟨_, _, _, _, _, _, u0, u1, u2, u3, u4, u5⟩ := six HBX0.out
  go_wp2_with fail
  refine (rcheck_any).mono ?_
  rw [HC.out]
  rintro _ w1 ⟨rfl, b1⟩
  have HBX1 := hide (below_box b1 HBX0.out)
  have HRS1 := hide (below_box b1 HRS0.out)
  have HBW1 := hide (below_next HBW0.out b1 (by have := HLT.out; have := HSZ0.out; omega))
  have HSZ1 := hide (box_lt HRS1.out)
  clear b1 HBX0 HRS0 HBW0 HSZ0 u0 u1 u2 u3 u4 u5
  obtain ⟨_, _, _, _, _, _, u0, u1, u2, u3, u4, u5⟩ := six HBX1.out
  go_wp2_with ((go_at_call 54; refine rreg_any.mono ?_; rw [e1]; rintro _ w1 ⟨rfl, rfl⟩))
  refine (rheld_any).mono ?_
  rw [HH.out]
  rintro _ w2 ⟨rfl, b2⟩
  have HBX2 := hide (below_box b2 HBX1.out)
  have HRS2 := hide (below_box b2 HRS1.out)
  have HBW2 := hide (below_next HBW1.out b2 (by have := HLT.out; have := HSZ1.out; omega))
  have HSZ2 := hide (box_lt HRS2.out)
  clear b2 HBX1 HRS1 HBW1 HSZ1 u0 u1 u2 u3 u4 u5
  obtain ⟨_, _, _, _, _, _, u0, u1, u2, u3, u4, u5⟩ := six HBX2.out
  go_wp2_with fail
  refine (rgrant_any HKK.out HNE.out).mono ?_
  rw [HG.out]
  simp only [LE.val, LE.row]
  rintro _ w3 ⟨rfl, b3⟩
  have HBX3 := hide (below_box b3 HBX2.out)
  have HRS3 := hide (below_box b3 HRS2.out)
  have HBW3 := hide (below_next HBW2.out b3 (by have := HLT.out; have := HSZ2.out; omega))
  have HSZ3 := hide (box_lt HRS3.out)
  clear b3 HBX2 HRS2 HBW2 HSZ2 u0 u1 u2 u3 u4 u5
  obtain ⟨q0, q1, q2, q3, q4, q5, u0, u1, u2, u3, u4, u5⟩ := six HBX3.out
  go_upto_region 10 with fail
  clear q0 q1 q2 q3 q4 q5
  obtain ⟨X, hX⟩ : ∃ X, X = ((((((w3.setCell ⟨bB, 0, none⟩ (.int .i64 g0)).setCell ⟨bB, 1, none⟩ (.int .i64 g1)).setCell ⟨bB, 2, none⟩ (.int .i64 g2)).setCell ⟨bB, 3, none⟩ (.int .i64 g3)).setCell ⟨bB, 4, none⟩ (.int .i64 g4)).setCell ⟨bB, 5, none⟩ (.bool g5)) := ⟨_, rfl⟩
  have oX : Only (· = bB) w3 X := by rw [hX]; exact ((((((Only.set (F := (· = bB)) _ bB 0 (.int .i64 g0) rfl).trans (Only.set (F := (· = bB)) _ bB 1 (.int .i64 g1) rfl)).trans (Only.set (F := (· = bB)) _ bB 2 (.int .i64 g2) rfl)).trans (Only.set (F := (· = bB)) _ bB 3 (.int .i64 g3) rfl)).trans (Only.set (F := (· = bB)) _ bB 4 (.int .i64 g4) rfl)).trans (Only.set (F := (· = bB)) _ bB 5 (.bool g5) rfl))
  have HBX4 : Hid (X.heap[bB]? = some (.cells #[.int .i64 g0, .int .i64 g1, .int .i64 g2, .int .i64 g3, .int .i64 g4, .bool g5] 39 (0, 0))) := hide (by rw [hX]; exact (heap_set_sameL (heap_set_sameL (heap_set_sameL (heap_set_sameL (heap_set_sameL (heap_set_sameL HBX3.out 0 (.int .i64 g0)) 1 (.int .i64 g1)) 2 (.int .i64 g2)) 3 (.int .i64 g3)) 4 (.int .i64 g4)) 5 (.bool g5)))
  have HRS4 := hide (oX.obj HRS3.out (fun e => by have e' : rB = bB := e; have := HLT.out; omega))
  have HBW4 := hide (HBW3.out.trans (oX.below (by have := HLT.out; have := HSZ3.out; omega) (fun i e => by have e' : i = bB := e; omega)))
  have HSZ4 := hide (box_lt HRS4.out)
  rw [← hX]
  clear hX oX HBX3 HRS3 HBW3 HSZ3 u0 u1 u2 u3 u4 u5
  obtain ⟨_, _, _, _, _, _, u0, u1, u2, u3, u4, u5⟩ := six HBX4.out
  obtain ⟨f0, f1, f2, f3, f4, f5, r0, r1, r2, r3, r4, r5⟩ := six HRS4.out
  have hne1 : rB ≠ bB := by have := HLT.out; omega
  have hne2 : bB ≠ rB := by have := HLT.out; omega
  go_region_held3 (fun w' => w'.cell? ⟨bB, 0, none⟩ = some (.int .i64 g0) ∧ w'.cell? ⟨bB, 1, none⟩ = some (.int .i64 g1) ∧ w'.cell? ⟨bB, 2, none⟩ = some (.int .i64 g2) ∧ w'.cell? ⟨bB, 3, none⟩ = some (.int .i64 g3) ∧ w'.cell? ⟨bB, 4, none⟩ = some (.int .i64 g4) ∧ w'.cell? ⟨bB, 5, none⟩ = some (.bool g5)) (go_keep) (fail)
  go_wp2
  have hE := drew1_heap (heap_set6 HRS4.out (.int .i64 g0) (.int .i64 g1) (.int .i64 g2) (.int .i64 g3) (.int .i64 g4) (.bool g5))
  refine bodyPost_ret (results_cell_three rfl _ _ rB 39 _ _ _ rfl hE Try.underlying39 rfl (by kernel_rfl)) rfl ?_
  refine ⟨by rw [HQ.out]; rfl, ?_⟩
  rw [HBB.out]
  exact below_drew1 (HBW4.out.trans ((only_set6 _ rB _ _ _ _ _ _).below (by have := HLT.out; have := HSZ4.out; omega) (fun i e => by have e' : i = rB := e; have := HLT.out; omega)))

set_option maxRecDepth 100000 in
set_option maxHeartbeats 2000000 in
theorem racq_7 {W : World} {o la ep ck tl : Int}  {r : Int} (hk : okL ⟨o, la, ep, ck, tl, true⟩) (h1 : 0 ≤ r ∧ r < 2) (h2 : heldC ⟨o, la, ep, ck, tl, true⟩ = true) (h3 : o = r) (h4 : la ≠ r) :
    Calls Try.prog 50 #[.agg #[.int .i64 o, .int .i64 la, .int .i64 ep, .int .i64 ck, .int .i64 tl, .bool true], .int .i64 r] W fun e w' => e = .returned (.tuple #[LE.val (acqC ⟨o, la, ep, ck, tl, true⟩ r).1, .int .i64 (acqC ⟨o, la, ep, ck, tl, true⟩ r).2.1, .int .i64 (acqC ⟨o, la, ep, ck, tl, true⟩ r).2.2]) ∧ Below W.heap.size W w' := by
  have HQ : Hid (acqC ⟨o, la, ep, ck, tl, true⟩ r = (⟨o, la, ep, ck, tl, true⟩, 0, 131)) := hide ((if_pos ⟨hk, h1⟩).trans ((if_neg (fun h => h.2 h3)).trans (if_pos ⟨rfl, h4⟩)))
  have HC : Hid (chkC ⟨o, la, ep, ck, tl, true⟩ = 0) := hide (chk_yes hk)
  have e1 : regC r = true := reg_yes h1
  have HH : Hid (heldC ⟨o, la, ep, ck, tl, true⟩ = true) := hide h2
  have d3 : (o == r) = true := by simp [h3]
  have d4 : (o != r) = false := by simp [h3]
  clear h3
  have d5 : (la == r) = false := ne_eqL h4
  have d6 : (la != r) = true := ne_neL h4
  clear h2
  obtain ⟨V0, hV0⟩ : ∃ V0, V0 = W.alloc (.cells #[.int .i64 o, .int .i64 la, .int .i64 ep, .int .i64 ck, .int .i64 tl, .bool true] 39 (0, 0)) := ⟨_, rfl⟩
  obtain ⟨V, hV⟩ : ∃ V, V = V0.alloc (.cells #[.int .i64 0, .int .i64 0, .int .i64 0, .int .i64 0, .int .i64 0, .bool false] 39 (0, 0)) := ⟨_, rfl⟩
  have bV0 : Below W.heap.size W V0 := by rw [hV0]; exact alloc_below _ _
  have bV1 : Below V0.heap.size V0 V := by rw [hV]; exact alloc_below _ _
  have v0 : V0.heap[W.heap.size]? = some (.cells #[.int .i64 o, .int .i64 la, .int .i64 ep, .int .i64 ck, .int .i64 tl, .bool true] 39 (0, 0)) := by rw [hV0]; exact heap_alloc_new W _
  have v1 : V.heap[V0.heap.size]? = some (.cells #[.int .i64 0, .int .i64 0, .int .i64 0, .int .i64 0, .int .i64 0, .bool false] 39 (0, 0)) := by rw [hV]; exact heap_alloc_new V0 _
  have v2 := below_box bV1 v0
  have hlt := box_lt v0
  have hs0 : V0.heap.size = W.heap.size + 1 := by rw [hV0]; simp
  obtain ⟨bB, hbB⟩ : ∃ bB, W.heap.size = bB := ⟨_, rfl⟩
  obtain ⟨rB, hrB⟩ : ∃ rB, V0.heap.size = rB := ⟨_, rfl⟩
  have hrb : bB + 1 = rB := by omega
  rw [hbB, hrB] at hlt
  rw [hbB] at v2
  rw [hrB] at v1
  have HBW0 : Hid (Below bB W V) := hide (by rw [← hbB]; exact below_next bV0 bV1 bV0.size)
  have HBX0 := hide v2
  have HRS0 := hide v1
  have HBB := hide hbB
  have HLT := hide hlt
  have HSZ0 := hide (box_lt v1)
  clear v0 v1 v2 bV0 bV1
  go_enter Try.func50, Try.ntmps50
  go_upto_region 1 with fail
  try rw [hbB]
  try rw [hrb]
  rw [← hV0, ← hV]
  try rw [hrB]
  clear hV0 hV hbB hrB hs0 hrb hlt
  obtain ⟨_, _, _, _, _, _, u0, u1, u2, u3, u4, u5⟩ := six HBX0.out
  go_wp2_with fail
  refine (rcheck_any).mono ?_
  rw [HC.out]
  rintro _ w1 ⟨rfl, b1⟩
  have HBX1 := hide (below_box b1 HBX0.out)
  have HRS1 := hide (below_box b1 HRS0.out)
  have HBW1 := hide (below_next HBW0.out b1 (by have := HLT.out; have := HSZ0.out; omega))
  have HSZ1 := hide (box_lt HRS1.out)
  clear b1 HBX0 HRS0 HBW0 HSZ0 u0 u1 u2 u3 u4 u5
  obtain ⟨_, _, _, _, _, _, u0, u1, u2, u3, u4, u5⟩ := six HBX1.out
  go_wp2_with ((go_at_call 54; refine rreg_any.mono ?_; rw [e1]; rintro _ w1 ⟨rfl, rfl⟩))
  refine (rheld_any).mono ?_
  rw [HH.out]
  rintro _ w2 ⟨rfl, b2⟩
  have HBX2 := hide (below_box b2 HBX1.out)
  have HRS2 := hide (below_box b2 HRS1.out)
  have HBW2 := hide (below_next HBW1.out b2 (by have := HLT.out; have := HSZ1.out; omega))
  have HSZ2 := hide (box_lt HRS2.out)
  clear b2 HBX1 HRS1 HBW1 HSZ1 u0 u1 u2 u3 u4 u5
  obtain ⟨_, _, _, _, _, _, u0, u1, u2, u3, u4, u5⟩ := six HBX2.out
  obtain ⟨f0, f1, f2, f3, f4, f5, r0, r1, r2, r3, r4, r5⟩ := six HRS2.out
  go_wp2
  have hE := heap_set6 HRS2.out (.int .i64 o) (.int .i64 la) (.int .i64 ep) (.int .i64 ck) (.int .i64 tl) (.bool true)
  refine bodyPost_ret (results_cell_three rfl _ _ rB 39 _ _ _ rfl hE Try.underlying39 rfl (by kernel_rfl)) rfl ?_
  refine ⟨by rw [HQ.out]; rfl, ?_⟩
  rw [HBB.out]
  exact HBW2.out.trans ((only_set6 _ rB _ _ _ _ _ _).below (by have := HLT.out; have := HSZ2.out; omega) (fun i e => by have e' : i = rB := e; have := HLT.out; omega))

set_option maxRecDepth 100000 in
set_option maxHeartbeats 2000000 in
theorem racq_8f {W : World} {o la ep ck tl : Int}  {r : Int} (hk : okL ⟨o, la, ep, ck, tl, false⟩) (h1 : 0 ≤ r ∧ r < 2) (h2 : heldC ⟨o, la, ep, ck, tl, false⟩ = true) (h3 : o = r) (h9 : ep = 9007199254740992) :
    Calls Try.prog 50 #[.agg #[.int .i64 o, .int .i64 la, .int .i64 ep, .int .i64 ck, .int .i64 tl, .bool false], .int .i64 r] W fun e w' => e = .returned (.tuple #[LE.val (acqC ⟨o, la, ep, ck, tl, false⟩ r).1, .int .i64 (acqC ⟨o, la, ep, ck, tl, false⟩ r).2.1, .int .i64 (acqC ⟨o, la, ep, ck, tl, false⟩ r).2.2]) ∧ Below W.heap.size W w' := by
  have HQ : Hid (acqC ⟨o, la, ep, ck, tl, false⟩ r = (⟨o, la, ep, ck, tl, false⟩, 0, 6)) := hide ((if_pos ⟨hk, h1⟩).trans ((if_neg (fun h => h.2 h3)).trans ((if_neg (fun h => by cases h.1)).trans (grant_full h9))))
  have HC : Hid (chkC ⟨o, la, ep, ck, tl, false⟩ = 0) := hide (chk_yes hk)
  have e1 : regC r = true := reg_yes h1
  have HH : Hid (heldC ⟨o, la, ep, ck, tl, false⟩ = true) := hide h2
  have d3 : (o == r) = true := by simp [h3]
  have d4 : (o != r) = false := by simp [h3]
  clear h3
  have d9 : (ep == 9007199254740992) = true := by simp [h9]
  clear h2 hk h9
  obtain ⟨V0, hV0⟩ : ∃ V0, V0 = W.alloc (.cells #[.int .i64 o, .int .i64 la, .int .i64 ep, .int .i64 ck, .int .i64 tl, .bool false] 39 (0, 0)) := ⟨_, rfl⟩
  obtain ⟨V, hV⟩ : ∃ V, V = V0.alloc (.cells #[.int .i64 0, .int .i64 0, .int .i64 0, .int .i64 0, .int .i64 0, .bool false] 39 (0, 0)) := ⟨_, rfl⟩
  have bV0 : Below W.heap.size W V0 := by rw [hV0]; exact alloc_below _ _
  have bV1 : Below V0.heap.size V0 V := by rw [hV]; exact alloc_below _ _
  have v0 : V0.heap[W.heap.size]? = some (.cells #[.int .i64 o, .int .i64 la, .int .i64 ep, .int .i64 ck, .int .i64 tl, .bool false] 39 (0, 0)) := by rw [hV0]; exact heap_alloc_new W _
  have v1 : V.heap[V0.heap.size]? = some (.cells #[.int .i64 0, .int .i64 0, .int .i64 0, .int .i64 0, .int .i64 0, .bool false] 39 (0, 0)) := by rw [hV]; exact heap_alloc_new V0 _
  have v2 := below_box bV1 v0
  have hlt := box_lt v0
  have hs0 : V0.heap.size = W.heap.size + 1 := by rw [hV0]; simp
  obtain ⟨bB, hbB⟩ : ∃ bB, W.heap.size = bB := ⟨_, rfl⟩
  obtain ⟨rB, hrB⟩ : ∃ rB, V0.heap.size = rB := ⟨_, rfl⟩
  have hrb : bB + 1 = rB := by omega
  rw [hbB, hrB] at hlt
  rw [hbB] at v2
  rw [hrB] at v1
  have HBW0 : Hid (Below bB W V) := hide (by rw [← hbB]; exact below_next bV0 bV1 bV0.size)
  have HBX0 := hide v2
  have HRS0 := hide v1
  have HBB := hide hbB
  have HLT := hide hlt
  have HSZ0 := hide (box_lt v1)
  clear v0 v1 v2 bV0 bV1
  go_enter Try.func50, Try.ntmps50
  go_upto_region 1 with fail
  try rw [hbB]
  try rw [hrb]
  rw [← hV0, ← hV]
  try rw [hrB]
  clear hV0 hV hbB hrB hs0 hrb hlt
  obtain ⟨_, _, _, _, _, _, u0, u1, u2, u3, u4, u5⟩ := six HBX0.out
  go_wp2_with fail
  refine (rcheck_any).mono ?_
  rw [HC.out]
  rintro _ w1 ⟨rfl, b1⟩
  have HBX1 := hide (below_box b1 HBX0.out)
  have HRS1 := hide (below_box b1 HRS0.out)
  have HBW1 := hide (below_next HBW0.out b1 (by have := HLT.out; have := HSZ0.out; omega))
  have HSZ1 := hide (box_lt HRS1.out)
  clear b1 HBX0 HRS0 HBW0 HSZ0 u0 u1 u2 u3 u4 u5
  obtain ⟨_, _, _, _, _, _, u0, u1, u2, u3, u4, u5⟩ := six HBX1.out
  go_wp2_with ((go_at_call 54; refine rreg_any.mono ?_; rw [e1]; rintro _ w1 ⟨rfl, rfl⟩))
  refine (rheld_any).mono ?_
  rw [HH.out]
  rintro _ w2 ⟨rfl, b2⟩
  have HBX2 := hide (below_box b2 HBX1.out)
  have HRS2 := hide (below_box b2 HRS1.out)
  have HBW2 := hide (below_next HBW1.out b2 (by have := HLT.out; have := HSZ1.out; omega))
  have HSZ2 := hide (box_lt HRS2.out)
  clear b2 HBX1 HRS1 HBW1 HSZ1 u0 u1 u2 u3 u4 u5
  obtain ⟨_, _, _, _, _, _, u0, u1, u2, u3, u4, u5⟩ := six HBX2.out
  obtain ⟨f0, f1, f2, f3, f4, f5, r0, r1, r2, r3, r4, r5⟩ := six HRS2.out
  go_wp2
  have hE := heap_set6 HRS2.out (.int .i64 o) (.int .i64 la) (.int .i64 ep) (.int .i64 ck) (.int .i64 tl) (.bool false)
  refine bodyPost_ret (results_cell_three rfl _ _ rB 39 _ _ _ rfl hE Try.underlying39 rfl (by kernel_rfl)) rfl ?_
  refine ⟨by rw [HQ.out]; rfl, ?_⟩
  rw [HBB.out]
  exact HBW2.out.trans ((only_set6 _ rB _ _ _ _ _ _).below (by have := HLT.out; have := HSZ2.out; omega) (fun i e => by have e' : i = rB := e; have := HLT.out; omega))

set_option maxRecDepth 100000 in
set_option maxHeartbeats 2000000 in
theorem racq_8g {W : World} {o la ep ck tl : Int}  {r : Int} (hk : okL ⟨o, la, ep, ck, tl, false⟩) (h1 : 0 ≤ r ∧ r < 2) (h2 : heldC ⟨o, la, ep, ck, tl, false⟩ = true) (h3 : o = r) (h9 : ep ≠ 9007199254740992) :
    Calls Try.prog 50 #[.agg #[.int .i64 o, .int .i64 la, .int .i64 ep, .int .i64 ck, .int .i64 tl, .bool false], .int .i64 r] W fun e w' => e = .returned (.tuple #[LE.val (acqC ⟨o, la, ep, ck, tl, false⟩ r).1, .int .i64 (acqC ⟨o, la, ep, ck, tl, false⟩ r).2.1, .int .i64 (acqC ⟨o, la, ep, ck, tl, false⟩ r).2.2]) ∧ Below W.heap.size W w' := by
  obtain ⟨⟨g0, g1, g2, g3, g4, g5⟩, hg⟩ : ∃ q, (grantC ⟨o, la, ep, ck, tl, false⟩ r).1 = q := ⟨_, rfl⟩
  have hgg : grantC ⟨o, la, ep, ck, tl, false⟩ r = (⟨g0, g1, g2, g3, g4, g5⟩, g2, 0) := by
    have h := grant_more (l := ⟨o, la, ep, ck, tl, false⟩) (r := r) h9
    rw [hg] at h
    exact Prod.ext hg (Prod.ext h.1 h.2)
  have HQ : Hid (acqC ⟨o, la, ep, ck, tl, false⟩ r = (⟨g0, g1, g2, g3, g4, g5⟩, g2, 0)) := hide ((if_pos ⟨hk, h1⟩).trans ((if_neg (fun h => h.2 h3)).trans ((if_neg (fun h => by cases h.1)).trans hgg)))
  have HC : Hid (chkC ⟨o, la, ep, ck, tl, false⟩ = 0) := hide (chk_yes hk)
  have e1 : regC r = true := reg_yes h1
  have HH : Hid (heldC ⟨o, la, ep, ck, tl, false⟩ = true) := hide h2
  have d3 : (o == r) = true := by simp [h3]
  have d4 : (o != r) = false := by simp [h3]
  clear h3
  have HG := hide hg
  have HKK := hide hk
  have HNE := hide h9
  have d9 : (ep == 9007199254740992) = false := ne_eqL h9
  clear hg hgg h2 hk h9
  obtain ⟨V0, hV0⟩ : ∃ V0, V0 = W.alloc (.cells #[.int .i64 o, .int .i64 la, .int .i64 ep, .int .i64 ck, .int .i64 tl, .bool false] 39 (0, 0)) := ⟨_, rfl⟩
  obtain ⟨V, hV⟩ : ∃ V, V = V0.alloc (.cells #[.int .i64 0, .int .i64 0, .int .i64 0, .int .i64 0, .int .i64 0, .bool false] 39 (0, 0)) := ⟨_, rfl⟩
  have bV0 : Below W.heap.size W V0 := by rw [hV0]; exact alloc_below _ _
  have bV1 : Below V0.heap.size V0 V := by rw [hV]; exact alloc_below _ _
  have v0 : V0.heap[W.heap.size]? = some (.cells #[.int .i64 o, .int .i64 la, .int .i64 ep, .int .i64 ck, .int .i64 tl, .bool false] 39 (0, 0)) := by rw [hV0]; exact heap_alloc_new W _
  have v1 : V.heap[V0.heap.size]? = some (.cells #[.int .i64 0, .int .i64 0, .int .i64 0, .int .i64 0, .int .i64 0, .bool false] 39 (0, 0)) := by rw [hV]; exact heap_alloc_new V0 _
  have v2 := below_box bV1 v0
  have hlt := box_lt v0
  have hs0 : V0.heap.size = W.heap.size + 1 := by rw [hV0]; simp
  obtain ⟨bB, hbB⟩ : ∃ bB, W.heap.size = bB := ⟨_, rfl⟩
  obtain ⟨rB, hrB⟩ : ∃ rB, V0.heap.size = rB := ⟨_, rfl⟩
  have hrb : bB + 1 = rB := by omega
  rw [hbB, hrB] at hlt
  rw [hbB] at v2
  rw [hrB] at v1
  have HBW0 : Hid (Below bB W V) := hide (by rw [← hbB]; exact below_next bV0 bV1 bV0.size)
  have HBX0 := hide v2
  have HRS0 := hide v1
  have HBB := hide hbB
  have HLT := hide hlt
  have HSZ0 := hide (box_lt v1)
  clear v0 v1 v2 bV0 bV1
  go_enter Try.func50, Try.ntmps50
  go_upto_region 1 with fail
  try rw [hbB]
  try rw [hrb]
  rw [← hV0, ← hV]
  try rw [hrB]
  clear hV0 hV hbB hrB hs0 hrb hlt
  obtain ⟨_, _, _, _, _, _, u0, u1, u2, u3, u4, u5⟩ := six HBX0.out
  go_wp2_with fail
  refine (rcheck_any).mono ?_
  rw [HC.out]
  rintro _ w1 ⟨rfl, b1⟩
  have HBX1 := hide (below_box b1 HBX0.out)
  have HRS1 := hide (below_box b1 HRS0.out)
  have HBW1 := hide (below_next HBW0.out b1 (by have := HLT.out; have := HSZ0.out; omega))
  have HSZ1 := hide (box_lt HRS1.out)
  clear b1 HBX0 HRS0 HBW0 HSZ0 u0 u1 u2 u3 u4 u5
  obtain ⟨_, _, _, _, _, _, u0, u1, u2, u3, u4, u5⟩ := six HBX1.out
  go_wp2_with ((go_at_call 54; refine rreg_any.mono ?_; rw [e1]; rintro _ w1 ⟨rfl, rfl⟩))
  refine (rheld_any).mono ?_
  rw [HH.out]
  rintro _ w2 ⟨rfl, b2⟩
  have HBX2 := hide (below_box b2 HBX1.out)
  have HRS2 := hide (below_box b2 HRS1.out)
  have HBW2 := hide (below_next HBW1.out b2 (by have := HLT.out; have := HSZ1.out; omega))
  have HSZ2 := hide (box_lt HRS2.out)
  clear b2 HBX1 HRS1 HBW1 HSZ1 u0 u1 u2 u3 u4 u5
  obtain ⟨_, _, _, _, _, _, u0, u1, u2, u3, u4, u5⟩ := six HBX2.out
  go_wp2_with fail
  refine (rgrant_any HKK.out HNE.out).mono ?_
  rw [HG.out]
  simp only [LE.val, LE.row]
  rintro _ w3 ⟨rfl, b3⟩
  have HBX3 := hide (below_box b3 HBX2.out)
  have HRS3 := hide (below_box b3 HRS2.out)
  have HBW3 := hide (below_next HBW2.out b3 (by have := HLT.out; have := HSZ2.out; omega))
  have HSZ3 := hide (box_lt HRS3.out)
  clear b3 HBX2 HRS2 HBW2 HSZ2 u0 u1 u2 u3 u4 u5
  obtain ⟨q0, q1, q2, q3, q4, q5, u0, u1, u2, u3, u4, u5⟩ := six HBX3.out
  go_upto_region 10 with fail
  clear q0 q1 q2 q3 q4 q5
  obtain ⟨X, hX⟩ : ∃ X, X = ((((((w3.setCell ⟨bB, 0, none⟩ (.int .i64 g0)).setCell ⟨bB, 1, none⟩ (.int .i64 g1)).setCell ⟨bB, 2, none⟩ (.int .i64 g2)).setCell ⟨bB, 3, none⟩ (.int .i64 g3)).setCell ⟨bB, 4, none⟩ (.int .i64 g4)).setCell ⟨bB, 5, none⟩ (.bool g5)) := ⟨_, rfl⟩
  have oX : Only (· = bB) w3 X := by rw [hX]; exact ((((((Only.set (F := (· = bB)) _ bB 0 (.int .i64 g0) rfl).trans (Only.set (F := (· = bB)) _ bB 1 (.int .i64 g1) rfl)).trans (Only.set (F := (· = bB)) _ bB 2 (.int .i64 g2) rfl)).trans (Only.set (F := (· = bB)) _ bB 3 (.int .i64 g3) rfl)).trans (Only.set (F := (· = bB)) _ bB 4 (.int .i64 g4) rfl)).trans (Only.set (F := (· = bB)) _ bB 5 (.bool g5) rfl))
  have HBX4 : Hid (X.heap[bB]? = some (.cells #[.int .i64 g0, .int .i64 g1, .int .i64 g2, .int .i64 g3, .int .i64 g4, .bool g5] 39 (0, 0))) := hide (by rw [hX]; exact (heap_set_sameL (heap_set_sameL (heap_set_sameL (heap_set_sameL (heap_set_sameL (heap_set_sameL HBX3.out 0 (.int .i64 g0)) 1 (.int .i64 g1)) 2 (.int .i64 g2)) 3 (.int .i64 g3)) 4 (.int .i64 g4)) 5 (.bool g5)))
  have HRS4 := hide (oX.obj HRS3.out (fun e => by have e' : rB = bB := e; have := HLT.out; omega))
  have HBW4 := hide (HBW3.out.trans (oX.below (by have := HLT.out; have := HSZ3.out; omega) (fun i e => by have e' : i = bB := e; omega)))
  have HSZ4 := hide (box_lt HRS4.out)
  rw [← hX]
  clear hX oX HBX3 HRS3 HBW3 HSZ3 u0 u1 u2 u3 u4 u5
  obtain ⟨_, _, _, _, _, _, u0, u1, u2, u3, u4, u5⟩ := six HBX4.out
  obtain ⟨f0, f1, f2, f3, f4, f5, r0, r1, r2, r3, r4, r5⟩ := six HRS4.out
  have hne1 : rB ≠ bB := by have := HLT.out; omega
  have hne2 : bB ≠ rB := by have := HLT.out; omega
  go_region_held3 (fun w' => w'.cell? ⟨bB, 0, none⟩ = some (.int .i64 g0) ∧ w'.cell? ⟨bB, 1, none⟩ = some (.int .i64 g1) ∧ w'.cell? ⟨bB, 2, none⟩ = some (.int .i64 g2) ∧ w'.cell? ⟨bB, 3, none⟩ = some (.int .i64 g3) ∧ w'.cell? ⟨bB, 4, none⟩ = some (.int .i64 g4) ∧ w'.cell? ⟨bB, 5, none⟩ = some (.bool g5)) (go_keep) (fail)
  go_wp2
  have hE := drew1_heap (heap_set6 HRS4.out (.int .i64 g0) (.int .i64 g1) (.int .i64 g2) (.int .i64 g3) (.int .i64 g4) (.bool g5))
  refine bodyPost_ret (results_cell_three rfl _ _ rB 39 _ _ _ rfl hE Try.underlying39 rfl (by kernel_rfl)) rfl ?_
  refine ⟨by rw [HQ.out]; rfl, ?_⟩
  rw [HBB.out]
  exact below_drew1 (HBW4.out.trans ((only_set6 _ rB _ _ _ _ _ _).below (by have := HLT.out; have := HSZ4.out; omega) (fun i e => by have e' : i = rB := e; have := HLT.out; omega)))

set_option maxRecDepth 100000 in
set_option maxHeartbeats 2000000 in
theorem racq_9f {W : World} {o la ep ck tl : Int}  {r : Int} (hk : okL ⟨o, la, ep, ck, tl, true⟩) (h1 : 0 ≤ r ∧ r < 2) (h2 : heldC ⟨o, la, ep, ck, tl, true⟩ = true) (h3 : o = r) (h4 : la = r) (h9 : ep = 9007199254740992) :
    Calls Try.prog 50 #[.agg #[.int .i64 o, .int .i64 la, .int .i64 ep, .int .i64 ck, .int .i64 tl, .bool true], .int .i64 r] W fun e w' => e = .returned (.tuple #[LE.val (acqC ⟨o, la, ep, ck, tl, true⟩ r).1, .int .i64 (acqC ⟨o, la, ep, ck, tl, true⟩ r).2.1, .int .i64 (acqC ⟨o, la, ep, ck, tl, true⟩ r).2.2]) ∧ Below W.heap.size W w' := by
  have HQ : Hid (acqC ⟨o, la, ep, ck, tl, true⟩ r = (⟨o, la, ep, ck, tl, true⟩, 0, 6)) := hide ((if_pos ⟨hk, h1⟩).trans ((if_neg (fun h => h.2 h3)).trans ((if_neg (fun h => h.2 h4)).trans (grant_full h9))))
  have HC : Hid (chkC ⟨o, la, ep, ck, tl, true⟩ = 0) := hide (chk_yes hk)
  have e1 : regC r = true := reg_yes h1
  have HH : Hid (heldC ⟨o, la, ep, ck, tl, true⟩ = true) := hide h2
  have d3 : (o == r) = true := by simp [h3]
  have d4 : (o != r) = false := by simp [h3]
  clear h3
  have d9 : (ep == 9007199254740992) = true := by simp [h9]
  clear h2 hk h9
  have d5 : (la == r) = true := by simp [h4]
  have d6 : (la != r) = false := by simp [h4]
  clear h4
  obtain ⟨V0, hV0⟩ : ∃ V0, V0 = W.alloc (.cells #[.int .i64 o, .int .i64 la, .int .i64 ep, .int .i64 ck, .int .i64 tl, .bool true] 39 (0, 0)) := ⟨_, rfl⟩
  obtain ⟨V, hV⟩ : ∃ V, V = V0.alloc (.cells #[.int .i64 0, .int .i64 0, .int .i64 0, .int .i64 0, .int .i64 0, .bool false] 39 (0, 0)) := ⟨_, rfl⟩
  have bV0 : Below W.heap.size W V0 := by rw [hV0]; exact alloc_below _ _
  have bV1 : Below V0.heap.size V0 V := by rw [hV]; exact alloc_below _ _
  have v0 : V0.heap[W.heap.size]? = some (.cells #[.int .i64 o, .int .i64 la, .int .i64 ep, .int .i64 ck, .int .i64 tl, .bool true] 39 (0, 0)) := by rw [hV0]; exact heap_alloc_new W _
  have v1 : V.heap[V0.heap.size]? = some (.cells #[.int .i64 0, .int .i64 0, .int .i64 0, .int .i64 0, .int .i64 0, .bool false] 39 (0, 0)) := by rw [hV]; exact heap_alloc_new V0 _
  have v2 := below_box bV1 v0
  have hlt := box_lt v0
  have hs0 : V0.heap.size = W.heap.size + 1 := by rw [hV0]; simp
  obtain ⟨bB, hbB⟩ : ∃ bB, W.heap.size = bB := ⟨_, rfl⟩
  obtain ⟨rB, hrB⟩ : ∃ rB, V0.heap.size = rB := ⟨_, rfl⟩
  have hrb : bB + 1 = rB := by omega
  rw [hbB, hrB] at hlt
  rw [hbB] at v2
  rw [hrB] at v1
  have HBW0 : Hid (Below bB W V) := hide (by rw [← hbB]; exact below_next bV0 bV1 bV0.size)
  have HBX0 := hide v2
  have HRS0 := hide v1
  have HBB := hide hbB
  have HLT := hide hlt
  have HSZ0 := hide (box_lt v1)
  clear v0 v1 v2 bV0 bV1
  go_enter Try.func50, Try.ntmps50
  go_upto_region 1 with fail
  try rw [hbB]
  try rw [hrb]
  rw [← hV0, ← hV]
  try rw [hrB]
  clear hV0 hV hbB hrB hs0 hrb hlt
  obtain ⟨_, _, _, _, _, _, u0, u1, u2, u3, u4, u5⟩ := six HBX0.out
  go_wp2_with fail
  refine (rcheck_any).mono ?_
  rw [HC.out]
  rintro _ w1 ⟨rfl, b1⟩
  have HBX1 := hide (below_box b1 HBX0.out)
  have HRS1 := hide (below_box b1 HRS0.out)
  have HBW1 := hide (below_next HBW0.out b1 (by have := HLT.out; have := HSZ0.out; omega))
  have HSZ1 := hide (box_lt HRS1.out)
  clear b1 HBX0 HRS0 HBW0 HSZ0 u0 u1 u2 u3 u4 u5
  obtain ⟨_, _, _, _, _, _, u0, u1, u2, u3, u4, u5⟩ := six HBX1.out
  go_wp2_with ((go_at_call 54; refine rreg_any.mono ?_; rw [e1]; rintro _ w1 ⟨rfl, rfl⟩))
  refine (rheld_any).mono ?_
  rw [HH.out]
  rintro _ w2 ⟨rfl, b2⟩
  have HBX2 := hide (below_box b2 HBX1.out)
  have HRS2 := hide (below_box b2 HRS1.out)
  have HBW2 := hide (below_next HBW1.out b2 (by have := HLT.out; have := HSZ1.out; omega))
  have HSZ2 := hide (box_lt HRS2.out)
  clear b2 HBX1 HRS1 HBW1 HSZ1 u0 u1 u2 u3 u4 u5
  obtain ⟨_, _, _, _, _, _, u0, u1, u2, u3, u4, u5⟩ := six HBX2.out
  obtain ⟨f0, f1, f2, f3, f4, f5, r0, r1, r2, r3, r4, r5⟩ := six HRS2.out
  go_wp2
  have hE := heap_set6 HRS2.out (.int .i64 o) (.int .i64 la) (.int .i64 ep) (.int .i64 ck) (.int .i64 tl) (.bool true)
  refine bodyPost_ret (results_cell_three rfl _ _ rB 39 _ _ _ rfl hE Try.underlying39 rfl (by kernel_rfl)) rfl ?_
  refine ⟨by rw [HQ.out]; rfl, ?_⟩
  rw [HBB.out]
  exact HBW2.out.trans ((only_set6 _ rB _ _ _ _ _ _).below (by have := HLT.out; have := HSZ2.out; omega) (fun i e => by have e' : i = rB := e; have := HLT.out; omega))

set_option maxRecDepth 100000 in
set_option maxHeartbeats 2000000 in
theorem racq_9g {W : World} {o la ep ck tl : Int}  {r : Int} (hk : okL ⟨o, la, ep, ck, tl, true⟩) (h1 : 0 ≤ r ∧ r < 2) (h2 : heldC ⟨o, la, ep, ck, tl, true⟩ = true) (h3 : o = r) (h4 : la = r) (h9 : ep ≠ 9007199254740992) :
    Calls Try.prog 50 #[.agg #[.int .i64 o, .int .i64 la, .int .i64 ep, .int .i64 ck, .int .i64 tl, .bool true], .int .i64 r] W fun e w' => e = .returned (.tuple #[LE.val (acqC ⟨o, la, ep, ck, tl, true⟩ r).1, .int .i64 (acqC ⟨o, la, ep, ck, tl, true⟩ r).2.1, .int .i64 (acqC ⟨o, la, ep, ck, tl, true⟩ r).2.2]) ∧ Below W.heap.size W w' := by
  obtain ⟨⟨g0, g1, g2, g3, g4, g5⟩, hg⟩ : ∃ q, (grantC ⟨o, la, ep, ck, tl, true⟩ r).1 = q := ⟨_, rfl⟩
  have hgg : grantC ⟨o, la, ep, ck, tl, true⟩ r = (⟨g0, g1, g2, g3, g4, g5⟩, g2, 0) := by
    have h := grant_more (l := ⟨o, la, ep, ck, tl, true⟩) (r := r) h9
    rw [hg] at h
    exact Prod.ext hg (Prod.ext h.1 h.2)
  have HQ : Hid (acqC ⟨o, la, ep, ck, tl, true⟩ r = (⟨g0, g1, g2, g3, g4, g5⟩, g2, 0)) := hide ((if_pos ⟨hk, h1⟩).trans ((if_neg (fun h => h.2 h3)).trans ((if_neg (fun h => h.2 h4)).trans hgg)))
  have HC : Hid (chkC ⟨o, la, ep, ck, tl, true⟩ = 0) := hide (chk_yes hk)
  have e1 : regC r = true := reg_yes h1
  have HH : Hid (heldC ⟨o, la, ep, ck, tl, true⟩ = true) := hide h2
  have d3 : (o == r) = true := by simp [h3]
  have d4 : (o != r) = false := by simp [h3]
  clear h3
  have HG := hide hg
  have HKK := hide hk
  have HNE := hide h9
  have d9 : (ep == 9007199254740992) = false := ne_eqL h9
  clear hg hgg h2 hk h9
  have d5 : (la == r) = true := by simp [h4]
  have d6 : (la != r) = false := by simp [h4]
  clear h4
  obtain ⟨V0, hV0⟩ : ∃ V0, V0 = W.alloc (.cells #[.int .i64 o, .int .i64 la, .int .i64 ep, .int .i64 ck, .int .i64 tl, .bool true] 39 (0, 0)) := ⟨_, rfl⟩
  obtain ⟨V, hV⟩ : ∃ V, V = V0.alloc (.cells #[.int .i64 0, .int .i64 0, .int .i64 0, .int .i64 0, .int .i64 0, .bool false] 39 (0, 0)) := ⟨_, rfl⟩
  have bV0 : Below W.heap.size W V0 := by rw [hV0]; exact alloc_below _ _
  have bV1 : Below V0.heap.size V0 V := by rw [hV]; exact alloc_below _ _
  have v0 : V0.heap[W.heap.size]? = some (.cells #[.int .i64 o, .int .i64 la, .int .i64 ep, .int .i64 ck, .int .i64 tl, .bool true] 39 (0, 0)) := by rw [hV0]; exact heap_alloc_new W _
  have v1 : V.heap[V0.heap.size]? = some (.cells #[.int .i64 0, .int .i64 0, .int .i64 0, .int .i64 0, .int .i64 0, .bool false] 39 (0, 0)) := by rw [hV]; exact heap_alloc_new V0 _
  have v2 := below_box bV1 v0
  have hlt := box_lt v0
  have hs0 : V0.heap.size = W.heap.size + 1 := by rw [hV0]; simp
  obtain ⟨bB, hbB⟩ : ∃ bB, W.heap.size = bB := ⟨_, rfl⟩
  obtain ⟨rB, hrB⟩ : ∃ rB, V0.heap.size = rB := ⟨_, rfl⟩
  have hrb : bB + 1 = rB := by omega
  rw [hbB, hrB] at hlt
  rw [hbB] at v2
  rw [hrB] at v1
  have HBW0 : Hid (Below bB W V) := hide (by rw [← hbB]; exact below_next bV0 bV1 bV0.size)
  have HBX0 := hide v2
  have HRS0 := hide v1
  have HBB := hide hbB
  have HLT := hide hlt
  have HSZ0 := hide (box_lt v1)
  clear v0 v1 v2 bV0 bV1
  go_enter Try.func50, Try.ntmps50
  go_upto_region 1 with fail
  try rw [hbB]
  try rw [hrb]
  rw [← hV0, ← hV]
  try rw [hrB]
  clear hV0 hV hbB hrB hs0 hrb hlt
  obtain ⟨_, _, _, _, _, _, u0, u1, u2, u3, u4, u5⟩ := six HBX0.out
  go_wp2_with fail
  refine (rcheck_any).mono ?_
  rw [HC.out]
  rintro _ w1 ⟨rfl, b1⟩
  have HBX1 := hide (below_box b1 HBX0.out)
  have HRS1 := hide (below_box b1 HRS0.out)
  have HBW1 := hide (below_next HBW0.out b1 (by have := HLT.out; have := HSZ0.out; omega))
  have HSZ1 := hide (box_lt HRS1.out)
  clear b1 HBX0 HRS0 HBW0 HSZ0 u0 u1 u2 u3 u4 u5
  obtain ⟨_, _, _, _, _, _, u0, u1, u2, u3, u4, u5⟩ := six HBX1.out
  go_wp2_with ((go_at_call 54; refine rreg_any.mono ?_; rw [e1]; rintro _ w1 ⟨rfl, rfl⟩))
  refine (rheld_any).mono ?_
  rw [HH.out]
  rintro _ w2 ⟨rfl, b2⟩
  have HBX2 := hide (below_box b2 HBX1.out)
  have HRS2 := hide (below_box b2 HRS1.out)
  have HBW2 := hide (below_next HBW1.out b2 (by have := HLT.out; have := HSZ1.out; omega))
  have HSZ2 := hide (box_lt HRS2.out)
  clear b2 HBX1 HRS1 HBW1 HSZ1 u0 u1 u2 u3 u4 u5
  obtain ⟨_, _, _, _, _, _, u0, u1, u2, u3, u4, u5⟩ := six HBX2.out
  go_wp2_with fail
  refine (rgrant_any HKK.out HNE.out).mono ?_
  rw [HG.out]
  simp only [LE.val, LE.row]
  rintro _ w3 ⟨rfl, b3⟩
  have HBX3 := hide (below_box b3 HBX2.out)
  have HRS3 := hide (below_box b3 HRS2.out)
  have HBW3 := hide (below_next HBW2.out b3 (by have := HLT.out; have := HSZ2.out; omega))
  have HSZ3 := hide (box_lt HRS3.out)
  clear b3 HBX2 HRS2 HBW2 HSZ2 u0 u1 u2 u3 u4 u5
  obtain ⟨q0, q1, q2, q3, q4, q5, u0, u1, u2, u3, u4, u5⟩ := six HBX3.out
  go_upto_region 10 with fail
  clear q0 q1 q2 q3 q4 q5
  obtain ⟨X, hX⟩ : ∃ X, X = ((((((w3.setCell ⟨bB, 0, none⟩ (.int .i64 g0)).setCell ⟨bB, 1, none⟩ (.int .i64 g1)).setCell ⟨bB, 2, none⟩ (.int .i64 g2)).setCell ⟨bB, 3, none⟩ (.int .i64 g3)).setCell ⟨bB, 4, none⟩ (.int .i64 g4)).setCell ⟨bB, 5, none⟩ (.bool g5)) := ⟨_, rfl⟩
  have oX : Only (· = bB) w3 X := by rw [hX]; exact ((((((Only.set (F := (· = bB)) _ bB 0 (.int .i64 g0) rfl).trans (Only.set (F := (· = bB)) _ bB 1 (.int .i64 g1) rfl)).trans (Only.set (F := (· = bB)) _ bB 2 (.int .i64 g2) rfl)).trans (Only.set (F := (· = bB)) _ bB 3 (.int .i64 g3) rfl)).trans (Only.set (F := (· = bB)) _ bB 4 (.int .i64 g4) rfl)).trans (Only.set (F := (· = bB)) _ bB 5 (.bool g5) rfl))
  have HBX4 : Hid (X.heap[bB]? = some (.cells #[.int .i64 g0, .int .i64 g1, .int .i64 g2, .int .i64 g3, .int .i64 g4, .bool g5] 39 (0, 0))) := hide (by rw [hX]; exact (heap_set_sameL (heap_set_sameL (heap_set_sameL (heap_set_sameL (heap_set_sameL (heap_set_sameL HBX3.out 0 (.int .i64 g0)) 1 (.int .i64 g1)) 2 (.int .i64 g2)) 3 (.int .i64 g3)) 4 (.int .i64 g4)) 5 (.bool g5)))
  have HRS4 := hide (oX.obj HRS3.out (fun e => by have e' : rB = bB := e; have := HLT.out; omega))
  have HBW4 := hide (HBW3.out.trans (oX.below (by have := HLT.out; have := HSZ3.out; omega) (fun i e => by have e' : i = bB := e; omega)))
  have HSZ4 := hide (box_lt HRS4.out)
  rw [← hX]
  clear hX oX HBX3 HRS3 HBW3 HSZ3 u0 u1 u2 u3 u4 u5
  obtain ⟨_, _, _, _, _, _, u0, u1, u2, u3, u4, u5⟩ := six HBX4.out
  obtain ⟨f0, f1, f2, f3, f4, f5, r0, r1, r2, r3, r4, r5⟩ := six HRS4.out
  have hne1 : rB ≠ bB := by have := HLT.out; omega
  have hne2 : bB ≠ rB := by have := HLT.out; omega
  go_region_held3 (fun w' => w'.cell? ⟨bB, 0, none⟩ = some (.int .i64 g0) ∧ w'.cell? ⟨bB, 1, none⟩ = some (.int .i64 g1) ∧ w'.cell? ⟨bB, 2, none⟩ = some (.int .i64 g2) ∧ w'.cell? ⟨bB, 3, none⟩ = some (.int .i64 g3) ∧ w'.cell? ⟨bB, 4, none⟩ = some (.int .i64 g4) ∧ w'.cell? ⟨bB, 5, none⟩ = some (.bool g5)) (go_keep) (fail)
  go_wp2
  have hE := drew1_heap (heap_set6 HRS4.out (.int .i64 g0) (.int .i64 g1) (.int .i64 g2) (.int .i64 g3) (.int .i64 g4) (.bool g5))
  refine bodyPost_ret (results_cell_three rfl _ _ rB 39 _ _ _ rfl hE Try.underlying39 rfl (by kernel_rfl)) rfl ?_
  refine ⟨by rw [HQ.out]; rfl, ?_⟩
  rw [HBB.out]
  exact below_drew1 (HBW4.out.trans ((only_set6 _ rB _ _ _ _ _ _).below (by have := HLT.out; have := HSZ4.out; omega) (fun i e => by have e' : i = rB := e; have := HLT.out; omega)))

theorem racquire_any {W : World} {o la ep ck tl : Int} {so : Bool} {r : Int} : Calls Try.prog 50 #[.agg #[.int .i64 o, .int .i64 la, .int .i64 ep, .int .i64 ck, .int .i64 tl, .bool so], .int .i64 r] W fun e w' => e = .returned (.tuple #[LE.val (acqC ⟨o, la, ep, ck, tl, so⟩ r).1, .int .i64 (acqC ⟨o, la, ep, ck, tl, so⟩ r).2.1, .int .i64 (acqC ⟨o, la, ep, ck, tl, so⟩ r).2.2]) ∧ Below W.heap.size W w' := by
  by_cases hk : okL ⟨o, la, ep, ck, tl, so⟩
  · by_cases h1 : 0 ≤ r ∧ r < 2
    · cases h2 : heldC ⟨o, la, ep, ck, tl, so⟩ with
      | true =>
        by_cases h3 : o = r
        · cases so with
          | false =>
            by_cases h9 : ep = 9007199254740992
            · exact racq_8f hk h1 h2 h3 h9
            · exact racq_8g hk h1 h2 h3 h9
          | true =>
            by_cases h4 : la = r
            · by_cases h9 : ep = 9007199254740992
              · exact racq_9f hk h1 h2 h3 h4 h9
              · exact racq_9g hk h1 h2 h3 h4 h9
            · exact racq_7 hk h1 h2 h3 h4
        · exact racq_3 hk h1 h2 h3
      | false =>
        cases so with
        | false =>
          by_cases h9 : ep = 9007199254740992
          · exact racq_5f hk h1 h2 h9
          · exact racq_5g hk h1 h2 h9
        | true =>
          by_cases h4 : la = r
          · by_cases h9 : ep = 9007199254740992
            · exact racq_6f hk h1 h2 h4 h9
            · exact racq_6g hk h1 h2 h4 h9
          · exact racq_4 hk h1 h2 h4
    · exact racq_2 hk h1
  · exact racq_1 hk
theorem trans_bad {l : LE} {r p t : Int} (h : ¬ okL l ∨ ¬ (0 ≤ r ∧ r < 2) ∨ ¬ (0 ≤ t ∧ t < 2) ∨ t = r) : transC l r p t = (l, 0, 1) := by
  unfold transC
  split
  · rename_i h1
    have hc : claimC l r p = 1 := if_neg (fun h2 => by
      rcases h with h | h | h | h
      · exact h h2.1
      · exact h h2.2
      · exact h h1.1
      · exact h1.2 h)
    rw [hc, if_neg (by decide)]
  · rfl
set_option maxRecDepth 100000 in
set_option maxHeartbeats 2000000 in
theorem rtrans_1 {W : World} {o la ep ck tl : Int} {so : Bool} {r p t : Int} (hk : ¬ okL ⟨o, la, ep, ck, tl, so⟩) :
    Calls Try.prog 53 #[.agg #[.int .i64 o, .int .i64 la, .int .i64 ep, .int .i64 ck, .int .i64 tl, .bool so], .int .i64 r, .int .i64 p, .int .i64 t] W fun e w' => e = .returned (.tuple #[LE.val (transC ⟨o, la, ep, ck, tl, so⟩ r p t).1, .int .i64 (transC ⟨o, la, ep, ck, tl, so⟩ r p t).2.1, .int .i64 (transC ⟨o, la, ep, ck, tl, so⟩ r p t).2.2]) ∧ Below W.heap.size W w' := by
  have HQ : Hid (transC ⟨o, la, ep, ck, tl, so⟩ r p t = (⟨o, la, ep, ck, tl, so⟩, 0, 1)) := hide (trans_bad (.inl hk))
  have HC : Hid (chkC ⟨o, la, ep, ck, tl, so⟩ = 1) := hide (chk_no hk)
  obtain ⟨V0, hV0⟩ : ∃ V0, V0 = W.alloc (.cells #[.int .i64 o, .int .i64 la, .int .i64 ep, .int .i64 ck, .int .i64 tl, .bool so] 39 (0, 0)) := ⟨_, rfl⟩
  obtain ⟨V, hV⟩ : ∃ V, V = V0.alloc (.cells #[.int .i64 0, .int .i64 0, .int .i64 0, .int .i64 0, .int .i64 0, .bool false] 39 (0, 0)) := ⟨_, rfl⟩
  have bV0 : Below W.heap.size W V0 := by rw [hV0]; exact alloc_below _ _
  have bV1 : Below V0.heap.size V0 V := by rw [hV]; exact alloc_below _ _
  have v0 : V0.heap[W.heap.size]? = some (.cells #[.int .i64 o, .int .i64 la, .int .i64 ep, .int .i64 ck, .int .i64 tl, .bool so] 39 (0, 0)) := by rw [hV0]; exact heap_alloc_new W _
  have v1 : V.heap[V0.heap.size]? = some (.cells #[.int .i64 0, .int .i64 0, .int .i64 0, .int .i64 0, .int .i64 0, .bool false] 39 (0, 0)) := by rw [hV]; exact heap_alloc_new V0 _
  have v2 := below_box bV1 v0
  have hlt := box_lt v0
  have hs0 : V0.heap.size = W.heap.size + 1 := by rw [hV0]; simp
  obtain ⟨bB, hbB⟩ : ∃ bB, W.heap.size = bB := ⟨_, rfl⟩
  obtain ⟨rB, hrB⟩ : ∃ rB, V0.heap.size = rB := ⟨_, rfl⟩
  have hrb : bB + 1 = rB := by omega
  rw [hbB, hrB] at hlt
  rw [hbB] at v2
  rw [hrB] at v1
  have HBW0 : Hid (Below bB W V) := hide (by rw [← hbB]; exact below_next bV0 bV1 bV0.size)
  have HBX0 := hide v2
  have HRS0 := hide v1
  have HBB := hide hbB
  have HLT := hide hlt
  have HSZ0 := hide (box_lt v1)
  clear v0 v1 v2 bV0 bV1
  go_enter Try.func53, Try.ntmps53
  go_upto_region 1 with fail
  try rw [hbB]
  try rw [hrb]
  rw [← hV0, ← hV]
  try rw [hrB]
  clear hV0 hV hbB hrB hs0 hrb hlt
  obtain ⟨_, _, _, _, _, _, u0, u1, u2, u3, u4, u5⟩ := six HBX0.out
  go_wp2_with fail
  refine (rcheck_any).mono ?_
  rw [HC.out]
  rintro _ w1 ⟨rfl, b1⟩
  have HBX1 := hide (below_box b1 HBX0.out)
  have HRS1 := hide (below_box b1 HRS0.out)
  have HBW1 := hide (below_next HBW0.out b1 (by have := HLT.out; have := HSZ0.out; omega))
  have HSZ1 := hide (box_lt HRS1.out)
  clear b1 HBX0 HRS0 HBW0 HSZ0 u0 u1 u2 u3 u4 u5
  obtain ⟨_, _, _, _, _, _, u0, u1, u2, u3, u4, u5⟩ := six HBX1.out
  obtain ⟨f0, f1, f2, f3, f4, f5, r0, r1, r2, r3, r4, r5⟩ := six HRS1.out
  go_wp2
  have hE := heap_set6 HRS1.out (.int .i64 o) (.int .i64 la) (.int .i64 ep) (.int .i64 ck) (.int .i64 tl) (.bool so)
  refine bodyPost_ret (results_cell_three rfl _ _ rB 39 _ _ _ rfl hE Try.underlying39 rfl (by kernel_rfl)) rfl ?_
  refine ⟨by rw [HQ.out]; rfl, ?_⟩
  rw [HBB.out]
  exact HBW1.out.trans ((only_set6 _ rB _ _ _ _ _ _).below (by have := HLT.out; have := HSZ1.out; omega) (fun i e => by have e' : i = rB := e; have := HLT.out; omega))

set_option maxRecDepth 100000 in
set_option maxHeartbeats 2000000 in
theorem rtrans_2 {W : World} {o la ep ck tl : Int} {so : Bool} {r p t : Int} (hk : okL ⟨o, la, ep, ck, tl, so⟩) (h1 : ¬ (0 ≤ r ∧ r < 2)) :
    Calls Try.prog 53 #[.agg #[.int .i64 o, .int .i64 la, .int .i64 ep, .int .i64 ck, .int .i64 tl, .bool so], .int .i64 r, .int .i64 p, .int .i64 t] W fun e w' => e = .returned (.tuple #[LE.val (transC ⟨o, la, ep, ck, tl, so⟩ r p t).1, .int .i64 (transC ⟨o, la, ep, ck, tl, so⟩ r p t).2.1, .int .i64 (transC ⟨o, la, ep, ck, tl, so⟩ r p t).2.2]) ∧ Below W.heap.size W w' := by
  have HQ : Hid (transC ⟨o, la, ep, ck, tl, so⟩ r p t = (⟨o, la, ep, ck, tl, so⟩, 0, 1)) := hide (trans_bad (.inr (.inl h1)))
  have HC : Hid (chkC ⟨o, la, ep, ck, tl, so⟩ = 0) := hide (chk_yes hk)
  have e1 : regC r = false := reg_no h1
  obtain ⟨V0, hV0⟩ : ∃ V0, V0 = W.alloc (.cells #[.int .i64 o, .int .i64 la, .int .i64 ep, .int .i64 ck, .int .i64 tl, .bool so] 39 (0, 0)) := ⟨_, rfl⟩
  obtain ⟨V, hV⟩ : ∃ V, V = V0.alloc (.cells #[.int .i64 0, .int .i64 0, .int .i64 0, .int .i64 0, .int .i64 0, .bool false] 39 (0, 0)) := ⟨_, rfl⟩
  have bV0 : Below W.heap.size W V0 := by rw [hV0]; exact alloc_below _ _
  have bV1 : Below V0.heap.size V0 V := by rw [hV]; exact alloc_below _ _
  have v0 : V0.heap[W.heap.size]? = some (.cells #[.int .i64 o, .int .i64 la, .int .i64 ep, .int .i64 ck, .int .i64 tl, .bool so] 39 (0, 0)) := by rw [hV0]; exact heap_alloc_new W _
  have v1 : V.heap[V0.heap.size]? = some (.cells #[.int .i64 0, .int .i64 0, .int .i64 0, .int .i64 0, .int .i64 0, .bool false] 39 (0, 0)) := by rw [hV]; exact heap_alloc_new V0 _
  have v2 := below_box bV1 v0
  have hlt := box_lt v0
  have hs0 : V0.heap.size = W.heap.size + 1 := by rw [hV0]; simp
  obtain ⟨bB, hbB⟩ : ∃ bB, W.heap.size = bB := ⟨_, rfl⟩
  obtain ⟨rB, hrB⟩ : ∃ rB, V0.heap.size = rB := ⟨_, rfl⟩
  have hrb : bB + 1 = rB := by omega
  rw [hbB, hrB] at hlt
  rw [hbB] at v2
  rw [hrB] at v1
  have HBW0 : Hid (Below bB W V) := hide (by rw [← hbB]; exact below_next bV0 bV1 bV0.size)
  have HBX0 := hide v2
  have HRS0 := hide v1
  have HBB := hide hbB
  have HLT := hide hlt
  have HSZ0 := hide (box_lt v1)
  clear v0 v1 v2 bV0 bV1
  go_enter Try.func53, Try.ntmps53
  go_upto_region 1 with fail
  try rw [hbB]
  try rw [hrb]
  rw [← hV0, ← hV]
  try rw [hrB]
  clear hV0 hV hbB hrB hs0 hrb hlt
  obtain ⟨_, _, _, _, _, _, u0, u1, u2, u3, u4, u5⟩ := six HBX0.out
  go_wp2_with fail
  refine (rcheck_any).mono ?_
  rw [HC.out]
  rintro _ w1 ⟨rfl, b1⟩
  have HBX1 := hide (below_box b1 HBX0.out)
  have HRS1 := hide (below_box b1 HRS0.out)
  have HBW1 := hide (below_next HBW0.out b1 (by have := HLT.out; have := HSZ0.out; omega))
  have HSZ1 := hide (box_lt HRS1.out)
  clear b1 HBX0 HRS0 HBW0 HSZ0 u0 u1 u2 u3 u4 u5
  obtain ⟨_, _, _, _, _, _, u0, u1, u2, u3, u4, u5⟩ := six HBX1.out
  go_upto_region 2 with ((go_at_call 54; refine rreg_any.mono ?_; (try rw [e1]); (try rw [e2]); rintro _ w1 ⟨rfl, rfl⟩))
  obtain ⟨f0, f1, f2, f3, f4, f5, r0, r1, r2, r3, r4, r5⟩ := six HRS1.out
  go_wp2
  have hE := heap_set6 HRS1.out (.int .i64 o) (.int .i64 la) (.int .i64 ep) (.int .i64 ck) (.int .i64 tl) (.bool so)
  refine bodyPost_ret (results_cell_three rfl _ _ rB 39 _ _ _ rfl hE Try.underlying39 rfl (by kernel_rfl)) rfl ?_
  refine ⟨by rw [HQ.out]; rfl, ?_⟩
  rw [HBB.out]
  exact HBW1.out.trans ((only_set6 _ rB _ _ _ _ _ _).below (by have := HLT.out; have := HSZ1.out; omega) (fun i e => by have e' : i = rB := e; have := HLT.out; omega))

set_option maxRecDepth 100000 in
set_option maxHeartbeats 2000000 in
theorem rtrans_3 {W : World} {o la ep ck tl : Int} {so : Bool} {r p t : Int} (hk : okL ⟨o, la, ep, ck, tl, so⟩) (h1 : 0 ≤ r ∧ r < 2) (h2 : ¬ (0 ≤ t ∧ t < 2)) :
    Calls Try.prog 53 #[.agg #[.int .i64 o, .int .i64 la, .int .i64 ep, .int .i64 ck, .int .i64 tl, .bool so], .int .i64 r, .int .i64 p, .int .i64 t] W fun e w' => e = .returned (.tuple #[LE.val (transC ⟨o, la, ep, ck, tl, so⟩ r p t).1, .int .i64 (transC ⟨o, la, ep, ck, tl, so⟩ r p t).2.1, .int .i64 (transC ⟨o, la, ep, ck, tl, so⟩ r p t).2.2]) ∧ Below W.heap.size W w' := by
  have HQ : Hid (transC ⟨o, la, ep, ck, tl, so⟩ r p t = (⟨o, la, ep, ck, tl, so⟩, 0, 1)) := hide (trans_bad (.inr (.inr (.inl h2))))
  have HC : Hid (chkC ⟨o, la, ep, ck, tl, so⟩ = 0) := hide (chk_yes hk)
  have e1 : regC r = true := reg_yes h1
  have e2 : regC t = false := reg_no h2
  obtain ⟨V0, hV0⟩ : ∃ V0, V0 = W.alloc (.cells #[.int .i64 o, .int .i64 la, .int .i64 ep, .int .i64 ck, .int .i64 tl, .bool so] 39 (0, 0)) := ⟨_, rfl⟩
  obtain ⟨V, hV⟩ : ∃ V, V = V0.alloc (.cells #[.int .i64 0, .int .i64 0, .int .i64 0, .int .i64 0, .int .i64 0, .bool false] 39 (0, 0)) := ⟨_, rfl⟩
  have bV0 : Below W.heap.size W V0 := by rw [hV0]; exact alloc_below _ _
  have bV1 : Below V0.heap.size V0 V := by rw [hV]; exact alloc_below _ _
  have v0 : V0.heap[W.heap.size]? = some (.cells #[.int .i64 o, .int .i64 la, .int .i64 ep, .int .i64 ck, .int .i64 tl, .bool so] 39 (0, 0)) := by rw [hV0]; exact heap_alloc_new W _
  have v1 : V.heap[V0.heap.size]? = some (.cells #[.int .i64 0, .int .i64 0, .int .i64 0, .int .i64 0, .int .i64 0, .bool false] 39 (0, 0)) := by rw [hV]; exact heap_alloc_new V0 _
  have v2 := below_box bV1 v0
  have hlt := box_lt v0
  have hs0 : V0.heap.size = W.heap.size + 1 := by rw [hV0]; simp
  obtain ⟨bB, hbB⟩ : ∃ bB, W.heap.size = bB := ⟨_, rfl⟩
  obtain ⟨rB, hrB⟩ : ∃ rB, V0.heap.size = rB := ⟨_, rfl⟩
  have hrb : bB + 1 = rB := by omega
  rw [hbB, hrB] at hlt
  rw [hbB] at v2
  rw [hrB] at v1
  have HBW0 : Hid (Below bB W V) := hide (by rw [← hbB]; exact below_next bV0 bV1 bV0.size)
  have HBX0 := hide v2
  have HRS0 := hide v1
  have HBB := hide hbB
  have HLT := hide hlt
  have HSZ0 := hide (box_lt v1)
  clear v0 v1 v2 bV0 bV1
  go_enter Try.func53, Try.ntmps53
  go_upto_region 1 with fail
  try rw [hbB]
  try rw [hrb]
  rw [← hV0, ← hV]
  try rw [hrB]
  clear hV0 hV hbB hrB hs0 hrb hlt
  obtain ⟨_, _, _, _, _, _, u0, u1, u2, u3, u4, u5⟩ := six HBX0.out
  go_wp2_with fail
  refine (rcheck_any).mono ?_
  rw [HC.out]
  rintro _ w1 ⟨rfl, b1⟩
  have HBX1 := hide (below_box b1 HBX0.out)
  have HRS1 := hide (below_box b1 HRS0.out)
  have HBW1 := hide (below_next HBW0.out b1 (by have := HLT.out; have := HSZ0.out; omega))
  have HSZ1 := hide (box_lt HRS1.out)
  clear b1 HBX0 HRS0 HBW0 HSZ0 u0 u1 u2 u3 u4 u5
  obtain ⟨_, _, _, _, _, _, u0, u1, u2, u3, u4, u5⟩ := six HBX1.out
  go_upto_region 2 with ((go_at_call 54; refine rreg_any.mono ?_; (try rw [e1]); (try rw [e2]); rintro _ w1 ⟨rfl, rfl⟩))
  obtain ⟨f0, f1, f2, f3, f4, f5, r0, r1, r2, r3, r4, r5⟩ := six HRS1.out
  go_wp2
  have hE := heap_set6 HRS1.out (.int .i64 o) (.int .i64 la) (.int .i64 ep) (.int .i64 ck) (.int .i64 tl) (.bool so)
  refine bodyPost_ret (results_cell_three rfl _ _ rB 39 _ _ _ rfl hE Try.underlying39 rfl (by kernel_rfl)) rfl ?_
  refine ⟨by rw [HQ.out]; rfl, ?_⟩
  rw [HBB.out]
  exact HBW1.out.trans ((only_set6 _ rB _ _ _ _ _ _).below (by have := HLT.out; have := HSZ1.out; omega) (fun i e => by have e' : i = rB := e; have := HLT.out; omega))

set_option maxRecDepth 100000 in
set_option maxHeartbeats 2000000 in
theorem rtrans_4 {W : World} {o la ep ck tl : Int} {so : Bool} {r p t : Int} (hk : okL ⟨o, la, ep, ck, tl, so⟩) (h1 : 0 ≤ r ∧ r < 2) (h2 : 0 ≤ t ∧ t < 2) (h3 : t = r) :
    Calls Try.prog 53 #[.agg #[.int .i64 o, .int .i64 la, .int .i64 ep, .int .i64 ck, .int .i64 tl, .bool so], .int .i64 r, .int .i64 p, .int .i64 t] W fun e w' => e = .returned (.tuple #[LE.val (transC ⟨o, la, ep, ck, tl, so⟩ r p t).1, .int .i64 (transC ⟨o, la, ep, ck, tl, so⟩ r p t).2.1, .int .i64 (transC ⟨o, la, ep, ck, tl, so⟩ r p t).2.2]) ∧ Below W.heap.size W w' := by
  have HQ : Hid (transC ⟨o, la, ep, ck, tl, so⟩ r p t = (⟨o, la, ep, ck, tl, so⟩, 0, 1)) := hide (trans_bad (.inr (.inr (.inr h3))))
  have HC : Hid (chkC ⟨o, la, ep, ck, tl, so⟩ = 0) := hide (chk_yes hk)
  have e1 : regC r = true := reg_yes h1
  have e2 : regC t = true := reg_yes h2
  have d3 : (t == r) = true := by simp [h3]
  clear h3
  obtain ⟨V0, hV0⟩ : ∃ V0, V0 = W.alloc (.cells #[.int .i64 o, .int .i64 la, .int .i64 ep, .int .i64 ck, .int .i64 tl, .bool so] 39 (0, 0)) := ⟨_, rfl⟩
  obtain ⟨V, hV⟩ : ∃ V, V = V0.alloc (.cells #[.int .i64 0, .int .i64 0, .int .i64 0, .int .i64 0, .int .i64 0, .bool false] 39 (0, 0)) := ⟨_, rfl⟩
  have bV0 : Below W.heap.size W V0 := by rw [hV0]; exact alloc_below _ _
  have bV1 : Below V0.heap.size V0 V := by rw [hV]; exact alloc_below _ _
  have v0 : V0.heap[W.heap.size]? = some (.cells #[.int .i64 o, .int .i64 la, .int .i64 ep, .int .i64 ck, .int .i64 tl, .bool so] 39 (0, 0)) := by rw [hV0]; exact heap_alloc_new W _
  have v1 : V.heap[V0.heap.size]? = some (.cells #[.int .i64 0, .int .i64 0, .int .i64 0, .int .i64 0, .int .i64 0, .bool false] 39 (0, 0)) := by rw [hV]; exact heap_alloc_new V0 _
  have v2 := below_box bV1 v0
  have hlt := box_lt v0
  have hs0 : V0.heap.size = W.heap.size + 1 := by rw [hV0]; simp
  obtain ⟨bB, hbB⟩ : ∃ bB, W.heap.size = bB := ⟨_, rfl⟩
  obtain ⟨rB, hrB⟩ : ∃ rB, V0.heap.size = rB := ⟨_, rfl⟩
  have hrb : bB + 1 = rB := by omega
  rw [hbB, hrB] at hlt
  rw [hbB] at v2
  rw [hrB] at v1
  have HBW0 : Hid (Below bB W V) := hide (by rw [← hbB]; exact below_next bV0 bV1 bV0.size)
  have HBX0 := hide v2
  have HRS0 := hide v1
  have HBB := hide hbB
  have HLT := hide hlt
  have HSZ0 := hide (box_lt v1)
  clear v0 v1 v2 bV0 bV1
  go_enter Try.func53, Try.ntmps53
  go_upto_region 1 with fail
  try rw [hbB]
  try rw [hrb]
  rw [← hV0, ← hV]
  try rw [hrB]
  clear hV0 hV hbB hrB hs0 hrb hlt
  obtain ⟨_, _, _, _, _, _, u0, u1, u2, u3, u4, u5⟩ := six HBX0.out
  go_wp2_with fail
  refine (rcheck_any).mono ?_
  rw [HC.out]
  rintro _ w1 ⟨rfl, b1⟩
  have HBX1 := hide (below_box b1 HBX0.out)
  have HRS1 := hide (below_box b1 HRS0.out)
  have HBW1 := hide (below_next HBW0.out b1 (by have := HLT.out; have := HSZ0.out; omega))
  have HSZ1 := hide (box_lt HRS1.out)
  clear b1 HBX0 HRS0 HBW0 HSZ0 u0 u1 u2 u3 u4 u5
  obtain ⟨_, _, _, _, _, _, u0, u1, u2, u3, u4, u5⟩ := six HBX1.out
  go_upto_region 2 with ((go_at_call 54; refine rreg_any.mono ?_; (try rw [e1]); (try rw [e2]); rintro _ w1 ⟨rfl, rfl⟩))
  obtain ⟨f0, f1, f2, f3, f4, f5, r0, r1, r2, r3, r4, r5⟩ := six HRS1.out
  go_wp2
  have hE := heap_set6 HRS1.out (.int .i64 o) (.int .i64 la) (.int .i64 ep) (.int .i64 ck) (.int .i64 tl) (.bool so)
  refine bodyPost_ret (results_cell_three rfl _ _ rB 39 _ _ _ rfl hE Try.underlying39 rfl (by kernel_rfl)) rfl ?_
  refine ⟨by rw [HQ.out]; rfl, ?_⟩
  rw [HBB.out]
  exact HBW1.out.trans ((only_set6 _ rB _ _ _ _ _ _).below (by have := HLT.out; have := HSZ1.out; omega) (fun i e => by have e' : i = rB := e; have := HLT.out; omega))

theorem claim_lost {l : LE} {r p : Int} (hk : okL l) (h1 : 0 ≤ r ∧ r < 2) (hc : claimC l r p ≠ 0) : claimC l r p = 132 := by
  unfold claimC at hc ⊢
  rw [if_pos ⟨hk, h1⟩] at hc ⊢
  split at hc
  · exact absurd rfl hc
  · rename_i h
    rw [if_neg h]
set_option maxRecDepth 100000 in
set_option maxHeartbeats 2000000 in
theorem rtrans_5 {W : World} {o la ep ck tl : Int} {so : Bool} {r p t : Int} (hk : okL ⟨o, la, ep, ck, tl, so⟩) (h1 : 0 ≤ r ∧ r < 2) (h2 : 0 ≤ t ∧ t < 2) (h3 : t ≠ r) (hc : claimC ⟨o, la, ep, ck, tl, so⟩ r p ≠ 0) :
    Calls Try.prog 53 #[.agg #[.int .i64 o, .int .i64 la, .int .i64 ep, .int .i64 ck, .int .i64 tl, .bool so], .int .i64 r, .int .i64 p, .int .i64 t] W fun e w' => e = .returned (.tuple #[LE.val (transC ⟨o, la, ep, ck, tl, so⟩ r p t).1, .int .i64 (transC ⟨o, la, ep, ck, tl, so⟩ r p t).2.1, .int .i64 (transC ⟨o, la, ep, ck, tl, so⟩ r p t).2.2]) ∧ Below W.heap.size W w' := by
  have HM : Hid (claimC ⟨o, la, ep, ck, tl, so⟩ r p = 132) := hide (claim_lost hk h1 hc)
  have HQ : Hid (transC ⟨o, la, ep, ck, tl, so⟩ r p t = (⟨o, la, ep, ck, tl, so⟩, 0, 132)) := hide ((if_pos ⟨h2, h3⟩).trans ((if_neg hc).trans (by rw [HM.out])))
  clear hc
  have HC : Hid (chkC ⟨o, la, ep, ck, tl, so⟩ = 0) := hide (chk_yes hk)
  have e1 : regC r = true := reg_yes h1
  have e2 : regC t = true := reg_yes h2
  have d3 : (t == r) = false := ne_eqL h3
  obtain ⟨V0, hV0⟩ : ∃ V0, V0 = W.alloc (.cells #[.int .i64 o, .int .i64 la, .int .i64 ep, .int .i64 ck, .int .i64 tl, .bool so] 39 (0, 0)) := ⟨_, rfl⟩
  obtain ⟨V, hV⟩ : ∃ V, V = V0.alloc (.cells #[.int .i64 0, .int .i64 0, .int .i64 0, .int .i64 0, .int .i64 0, .bool false] 39 (0, 0)) := ⟨_, rfl⟩
  have bV0 : Below W.heap.size W V0 := by rw [hV0]; exact alloc_below _ _
  have bV1 : Below V0.heap.size V0 V := by rw [hV]; exact alloc_below _ _
  have v0 : V0.heap[W.heap.size]? = some (.cells #[.int .i64 o, .int .i64 la, .int .i64 ep, .int .i64 ck, .int .i64 tl, .bool so] 39 (0, 0)) := by rw [hV0]; exact heap_alloc_new W _
  have v1 : V.heap[V0.heap.size]? = some (.cells #[.int .i64 0, .int .i64 0, .int .i64 0, .int .i64 0, .int .i64 0, .bool false] 39 (0, 0)) := by rw [hV]; exact heap_alloc_new V0 _
  have v2 := below_box bV1 v0
  have hlt := box_lt v0
  have hs0 : V0.heap.size = W.heap.size + 1 := by rw [hV0]; simp
  obtain ⟨bB, hbB⟩ : ∃ bB, W.heap.size = bB := ⟨_, rfl⟩
  obtain ⟨rB, hrB⟩ : ∃ rB, V0.heap.size = rB := ⟨_, rfl⟩
  have hrb : bB + 1 = rB := by omega
  rw [hbB, hrB] at hlt
  rw [hbB] at v2
  rw [hrB] at v1
  have HBW0 : Hid (Below bB W V) := hide (by rw [← hbB]; exact below_next bV0 bV1 bV0.size)
  have HBX0 := hide v2
  have HRS0 := hide v1
  have HBB := hide hbB
  have HLT := hide hlt
  have HSZ0 := hide (box_lt v1)
  clear v0 v1 v2 bV0 bV1
  go_enter Try.func53, Try.ntmps53
  go_upto_region 1 with fail
  try rw [hbB]
  try rw [hrb]
  rw [← hV0, ← hV]
  try rw [hrB]
  clear hV0 hV hbB hrB hs0 hrb hlt
  obtain ⟨_, _, _, _, _, _, u0, u1, u2, u3, u4, u5⟩ := six HBX0.out
  go_wp2_with fail
  refine (rcheck_any).mono ?_
  rw [HC.out]
  rintro _ w1 ⟨rfl, b1⟩
  have HBX1 := hide (below_box b1 HBX0.out)
  have HRS1 := hide (below_box b1 HRS0.out)
  have HBW1 := hide (below_next HBW0.out b1 (by have := HLT.out; have := HSZ0.out; omega))
  have HSZ1 := hide (box_lt HRS1.out)
  clear b1 HBX0 HRS0 HBW0 HSZ0 u0 u1 u2 u3 u4 u5
  obtain ⟨_, _, _, _, _, _, u0, u1, u2, u3, u4, u5⟩ := six HBX1.out
  go_wp2_with ((go_at_call 54; refine rreg_any.mono ?_; (try rw [e1]); (try rw [e2]); rintro _ w1 ⟨rfl, rfl⟩))
  refine (rclaim_any).mono ?_
  rw [HM.out]
  rintro _ w2 ⟨rfl, b2⟩
  have HBX2 := hide (below_box b2 HBX1.out)
  have HRS2 := hide (below_box b2 HRS1.out)
  have HBW2 := hide (below_next HBW1.out b2 (by have := HLT.out; have := HSZ1.out; omega))
  have HSZ2 := hide (box_lt HRS2.out)
  clear b2 HBX1 HRS1 HBW1 HSZ1 u0 u1 u2 u3 u4 u5
  obtain ⟨_, _, _, _, _, _, u0, u1, u2, u3, u4, u5⟩ := six HBX2.out
  obtain ⟨f0, f1, f2, f3, f4, f5, r0, r1, r2, r3, r4, r5⟩ := six HRS2.out
  go_wp2
  have hE := heap_set6 HRS2.out (.int .i64 o) (.int .i64 la) (.int .i64 ep) (.int .i64 ck) (.int .i64 tl) (.bool so)
  refine bodyPost_ret (results_cell_three rfl _ _ rB 39 _ _ _ rfl hE Try.underlying39 rfl (by kernel_rfl)) rfl ?_
  refine ⟨by rw [HQ.out]; rfl, ?_⟩
  rw [HBB.out]
  exact HBW2.out.trans ((only_set6 _ rB _ _ _ _ _ _).below (by have := HLT.out; have := HSZ2.out; omega) (fun i e => by have e' : i = rB := e; have := HLT.out; omega))

set_option maxRecDepth 100000 in
set_option maxHeartbeats 2000000 in
theorem rtrans_6 {W : World} {o la ep ck tl : Int}  {r p t : Int} (hk : okL ⟨o, la, ep, ck, tl, true⟩) (h1 : 0 ≤ r ∧ r < 2) (h2 : 0 ≤ t ∧ t < 2) (h3 : t ≠ r) (hc : claimC ⟨o, la, ep, ck, tl, true⟩ r p = 0) :
    Calls Try.prog 53 #[.agg #[.int .i64 o, .int .i64 la, .int .i64 ep, .int .i64 ck, .int .i64 tl, .bool true], .int .i64 r, .int .i64 p, .int .i64 t] W fun e w' => e = .returned (.tuple #[LE.val (transC ⟨o, la, ep, ck, tl, true⟩ r p t).1, .int .i64 (transC ⟨o, la, ep, ck, tl, true⟩ r p t).2.1, .int .i64 (transC ⟨o, la, ep, ck, tl, true⟩ r p t).2.2]) ∧ Below W.heap.size W w' := by
  have HM : Hid (claimC ⟨o, la, ep, ck, tl, true⟩ r p = 0) := hide hc
  have HQ : Hid (transC ⟨o, la, ep, ck, tl, true⟩ r p t = (⟨o, la, ep, ck, tl, true⟩, 0, 131)) := hide ((if_pos ⟨h2, h3⟩).trans ((if_pos hc).trans (if_pos rfl)))
  clear hc
  have HC : Hid (chkC ⟨o, la, ep, ck, tl, true⟩ = 0) := hide (chk_yes hk)
  have e1 : regC r = true := reg_yes h1
  have e2 : regC t = true := reg_yes h2
  have d3 : (t == r) = false := ne_eqL h3
  obtain ⟨V0, hV0⟩ : ∃ V0, V0 = W.alloc (.cells #[.int .i64 o, .int .i64 la, .int .i64 ep, .int .i64 ck, .int .i64 tl, .bool true] 39 (0, 0)) := ⟨_, rfl⟩
  obtain ⟨V, hV⟩ : ∃ V, V = V0.alloc (.cells #[.int .i64 0, .int .i64 0, .int .i64 0, .int .i64 0, .int .i64 0, .bool false] 39 (0, 0)) := ⟨_, rfl⟩
  have bV0 : Below W.heap.size W V0 := by rw [hV0]; exact alloc_below _ _
  have bV1 : Below V0.heap.size V0 V := by rw [hV]; exact alloc_below _ _
  have v0 : V0.heap[W.heap.size]? = some (.cells #[.int .i64 o, .int .i64 la, .int .i64 ep, .int .i64 ck, .int .i64 tl, .bool true] 39 (0, 0)) := by rw [hV0]; exact heap_alloc_new W _
  have v1 : V.heap[V0.heap.size]? = some (.cells #[.int .i64 0, .int .i64 0, .int .i64 0, .int .i64 0, .int .i64 0, .bool false] 39 (0, 0)) := by rw [hV]; exact heap_alloc_new V0 _
  have v2 := below_box bV1 v0
  have hlt := box_lt v0
  have hs0 : V0.heap.size = W.heap.size + 1 := by rw [hV0]; simp
  obtain ⟨bB, hbB⟩ : ∃ bB, W.heap.size = bB := ⟨_, rfl⟩
  obtain ⟨rB, hrB⟩ : ∃ rB, V0.heap.size = rB := ⟨_, rfl⟩
  have hrb : bB + 1 = rB := by omega
  rw [hbB, hrB] at hlt
  rw [hbB] at v2
  rw [hrB] at v1
  have HBW0 : Hid (Below bB W V) := hide (by rw [← hbB]; exact below_next bV0 bV1 bV0.size)
  have HBX0 := hide v2
  have HRS0 := hide v1
  have HBB := hide hbB
  have HLT := hide hlt
  have HSZ0 := hide (box_lt v1)
  clear v0 v1 v2 bV0 bV1
  go_enter Try.func53, Try.ntmps53
  go_upto_region 1 with fail
  try rw [hbB]
  try rw [hrb]
  rw [← hV0, ← hV]
  try rw [hrB]
  clear hV0 hV hbB hrB hs0 hrb hlt
  obtain ⟨_, _, _, _, _, _, u0, u1, u2, u3, u4, u5⟩ := six HBX0.out
  go_wp2_with fail
  refine (rcheck_any).mono ?_
  rw [HC.out]
  rintro _ w1 ⟨rfl, b1⟩
  have HBX1 := hide (below_box b1 HBX0.out)
  have HRS1 := hide (below_box b1 HRS0.out)
  have HBW1 := hide (below_next HBW0.out b1 (by have := HLT.out; have := HSZ0.out; omega))
  have HSZ1 := hide (box_lt HRS1.out)
  clear b1 HBX0 HRS0 HBW0 HSZ0 u0 u1 u2 u3 u4 u5
  obtain ⟨_, _, _, _, _, _, u0, u1, u2, u3, u4, u5⟩ := six HBX1.out
  go_wp2_with ((go_at_call 54; refine rreg_any.mono ?_; (try rw [e1]); (try rw [e2]); rintro _ w1 ⟨rfl, rfl⟩))
  refine (rclaim_any).mono ?_
  rw [HM.out]
  rintro _ w2 ⟨rfl, b2⟩
  have HBX2 := hide (below_box b2 HBX1.out)
  have HRS2 := hide (below_box b2 HRS1.out)
  have HBW2 := hide (below_next HBW1.out b2 (by have := HLT.out; have := HSZ1.out; omega))
  have HSZ2 := hide (box_lt HRS2.out)
  clear b2 HBX1 HRS1 HBW1 HSZ1 u0 u1 u2 u3 u4 u5
  obtain ⟨_, _, _, _, _, _, u0, u1, u2, u3, u4, u5⟩ := six HBX2.out
  obtain ⟨f0, f1, f2, f3, f4, f5, r0, r1, r2, r3, r4, r5⟩ := six HRS2.out
  go_wp2
  have hE := heap_set6 HRS2.out (.int .i64 o) (.int .i64 la) (.int .i64 ep) (.int .i64 ck) (.int .i64 tl) (.bool true)
  refine bodyPost_ret (results_cell_three rfl _ _ rB 39 _ _ _ rfl hE Try.underlying39 rfl (by kernel_rfl)) rfl ?_
  refine ⟨by rw [HQ.out]; rfl, ?_⟩
  rw [HBB.out]
  exact HBW2.out.trans ((only_set6 _ rB _ _ _ _ _ _).below (by have := HLT.out; have := HSZ2.out; omega) (fun i e => by have e' : i = rB := e; have := HLT.out; omega))

set_option maxRecDepth 100000 in
set_option maxHeartbeats 2000000 in
theorem rtrans_7 {W : World} {o la ep ck tl : Int}  {r p t : Int} (hk : okL ⟨o, la, ep, ck, tl, false⟩) (h1 : 0 ≤ r ∧ r < 2) (h2 : 0 ≤ t ∧ t < 2) (h3 : t ≠ r) (hc : claimC ⟨o, la, ep, ck, tl, false⟩ r p = 0) (h9 : ep = 9007199254740992) :
    Calls Try.prog 53 #[.agg #[.int .i64 o, .int .i64 la, .int .i64 ep, .int .i64 ck, .int .i64 tl, .bool false], .int .i64 r, .int .i64 p, .int .i64 t] W fun e w' => e = .returned (.tuple #[LE.val (transC ⟨o, la, ep, ck, tl, false⟩ r p t).1, .int .i64 (transC ⟨o, la, ep, ck, tl, false⟩ r p t).2.1, .int .i64 (transC ⟨o, la, ep, ck, tl, false⟩ r p t).2.2]) ∧ Below W.heap.size W w' := by
  have HM : Hid (claimC ⟨o, la, ep, ck, tl, false⟩ r p = 0) := hide hc
  have HQ : Hid (transC ⟨o, la, ep, ck, tl, false⟩ r p t = (⟨o, la, ep, ck, tl, false⟩, 0, 6)) := hide ((if_pos ⟨h2, h3⟩).trans ((if_pos hc).trans ((if_neg (by simp)).trans (grant_full h9))))
  have d9 : (ep == 9007199254740992) = true := by simp [h9]
  clear hc h9
  have HC : Hid (chkC ⟨o, la, ep, ck, tl, false⟩ = 0) := hide (chk_yes hk)
  have e1 : regC r = true := reg_yes h1
  have e2 : regC t = true := reg_yes h2
  have d3 : (t == r) = false := ne_eqL h3
  obtain ⟨V0, hV0⟩ : ∃ V0, V0 = W.alloc (.cells #[.int .i64 o, .int .i64 la, .int .i64 ep, .int .i64 ck, .int .i64 tl, .bool false] 39 (0, 0)) := ⟨_, rfl⟩
  obtain ⟨V, hV⟩ : ∃ V, V = V0.alloc (.cells #[.int .i64 0, .int .i64 0, .int .i64 0, .int .i64 0, .int .i64 0, .bool false] 39 (0, 0)) := ⟨_, rfl⟩
  have bV0 : Below W.heap.size W V0 := by rw [hV0]; exact alloc_below _ _
  have bV1 : Below V0.heap.size V0 V := by rw [hV]; exact alloc_below _ _
  have v0 : V0.heap[W.heap.size]? = some (.cells #[.int .i64 o, .int .i64 la, .int .i64 ep, .int .i64 ck, .int .i64 tl, .bool false] 39 (0, 0)) := by rw [hV0]; exact heap_alloc_new W _
  have v1 : V.heap[V0.heap.size]? = some (.cells #[.int .i64 0, .int .i64 0, .int .i64 0, .int .i64 0, .int .i64 0, .bool false] 39 (0, 0)) := by rw [hV]; exact heap_alloc_new V0 _
  have v2 := below_box bV1 v0
  have hlt := box_lt v0
  have hs0 : V0.heap.size = W.heap.size + 1 := by rw [hV0]; simp
  obtain ⟨bB, hbB⟩ : ∃ bB, W.heap.size = bB := ⟨_, rfl⟩
  obtain ⟨rB, hrB⟩ : ∃ rB, V0.heap.size = rB := ⟨_, rfl⟩
  have hrb : bB + 1 = rB := by omega
  rw [hbB, hrB] at hlt
  rw [hbB] at v2
  rw [hrB] at v1
  have HBW0 : Hid (Below bB W V) := hide (by rw [← hbB]; exact below_next bV0 bV1 bV0.size)
  have HBX0 := hide v2
  have HRS0 := hide v1
  have HBB := hide hbB
  have HLT := hide hlt
  have HSZ0 := hide (box_lt v1)
  clear v0 v1 v2 bV0 bV1
  go_enter Try.func53, Try.ntmps53
  go_upto_region 1 with fail
  try rw [hbB]
  try rw [hrb]
  rw [← hV0, ← hV]
  try rw [hrB]
  clear hV0 hV hbB hrB hs0 hrb hlt
  obtain ⟨_, _, _, _, _, _, u0, u1, u2, u3, u4, u5⟩ := six HBX0.out
  go_wp2_with fail
  refine (rcheck_any).mono ?_
  rw [HC.out]
  rintro _ w1 ⟨rfl, b1⟩
  have HBX1 := hide (below_box b1 HBX0.out)
  have HRS1 := hide (below_box b1 HRS0.out)
  have HBW1 := hide (below_next HBW0.out b1 (by have := HLT.out; have := HSZ0.out; omega))
  have HSZ1 := hide (box_lt HRS1.out)
  clear b1 HBX0 HRS0 HBW0 HSZ0 u0 u1 u2 u3 u4 u5
  obtain ⟨_, _, _, _, _, _, u0, u1, u2, u3, u4, u5⟩ := six HBX1.out
  go_wp2_with ((go_at_call 54; refine rreg_any.mono ?_; (try rw [e1]); (try rw [e2]); rintro _ w1 ⟨rfl, rfl⟩))
  refine (rclaim_any).mono ?_
  rw [HM.out]
  rintro _ w2 ⟨rfl, b2⟩
  have HBX2 := hide (below_box b2 HBX1.out)
  have HRS2 := hide (below_box b2 HRS1.out)
  have HBW2 := hide (below_next HBW1.out b2 (by have := HLT.out; have := HSZ1.out; omega))
  have HSZ2 := hide (box_lt HRS2.out)
  clear b2 HBX1 HRS1 HBW1 HSZ1 u0 u1 u2 u3 u4 u5
  obtain ⟨_, _, _, _, _, _, u0, u1, u2, u3, u4, u5⟩ := six HBX2.out
  obtain ⟨f0, f1, f2, f3, f4, f5, r0, r1, r2, r3, r4, r5⟩ := six HRS2.out
  go_wp2
  have hE := heap_set6 HRS2.out (.int .i64 o) (.int .i64 la) (.int .i64 ep) (.int .i64 ck) (.int .i64 tl) (.bool false)
  refine bodyPost_ret (results_cell_three rfl _ _ rB 39 _ _ _ rfl hE Try.underlying39 rfl (by kernel_rfl)) rfl ?_
  refine ⟨by rw [HQ.out]; rfl, ?_⟩
  rw [HBB.out]
  exact HBW2.out.trans ((only_set6 _ rB _ _ _ _ _ _).below (by have := HLT.out; have := HSZ2.out; omega) (fun i e => by have e' : i = rB := e; have := HLT.out; omega))

set_option maxRecDepth 100000 in
set_option maxHeartbeats 2000000 in
theorem rtrans_8 {W : World} {o la ep ck tl : Int}  {r p t : Int} (hk : okL ⟨o, la, ep, ck, tl, false⟩) (h1 : 0 ≤ r ∧ r < 2) (h2 : 0 ≤ t ∧ t < 2) (h3 : t ≠ r) (hc : claimC ⟨o, la, ep, ck, tl, false⟩ r p = 0) (h9 : ep ≠ 9007199254740992) :
    Calls Try.prog 53 #[.agg #[.int .i64 o, .int .i64 la, .int .i64 ep, .int .i64 ck, .int .i64 tl, .bool false], .int .i64 r, .int .i64 p, .int .i64 t] W fun e w' => e = .returned (.tuple #[LE.val (transC ⟨o, la, ep, ck, tl, false⟩ r p t).1, .int .i64 (transC ⟨o, la, ep, ck, tl, false⟩ r p t).2.1, .int .i64 (transC ⟨o, la, ep, ck, tl, false⟩ r p t).2.2]) ∧ Below W.heap.size W w' := by
  have HM : Hid (claimC ⟨o, la, ep, ck, tl, false⟩ r p = 0) := hide hc
  obtain ⟨⟨g0, g1, g2, g3, g4, g5⟩, hg⟩ : ∃ q, (grantC ⟨o, la, ep, ck, tl, false⟩ t).1 = q := ⟨_, rfl⟩
  have hgg : grantC ⟨o, la, ep, ck, tl, false⟩ t = (⟨g0, g1, g2, g3, g4, g5⟩, g2, 0) := by
    have h := grant_more (l := ⟨o, la, ep, ck, tl, false⟩) (r := t) h9
    rw [hg] at h
    exact Prod.ext hg (Prod.ext h.1 h.2)
  have HQ : Hid (transC ⟨o, la, ep, ck, tl, false⟩ r p t = (⟨g0, g1, g2, g3, g4, g5⟩, g2, 0)) := hide ((if_pos ⟨h2, h3⟩).trans ((if_pos hc).trans ((if_neg (by simp)).trans hgg)))
  have HG := hide hg
  have HKK := hide hk
  have HNE := hide h9
  have d9 : (ep == 9007199254740992) = false := ne_eqL h9
  clear hc h9 hg hgg
  have HC : Hid (chkC ⟨o, la, ep, ck, tl, false⟩ = 0) := hide (chk_yes hk)
  have e1 : regC r = true := reg_yes h1
  have e2 : regC t = true := reg_yes h2
  have d3 : (t == r) = false := ne_eqL h3
  obtain ⟨V0, hV0⟩ : ∃ V0, V0 = W.alloc (.cells #[.int .i64 o, .int .i64 la, .int .i64 ep, .int .i64 ck, .int .i64 tl, .bool false] 39 (0, 0)) := ⟨_, rfl⟩
  obtain ⟨V, hV⟩ : ∃ V, V = V0.alloc (.cells #[.int .i64 0, .int .i64 0, .int .i64 0, .int .i64 0, .int .i64 0, .bool false] 39 (0, 0)) := ⟨_, rfl⟩
  have bV0 : Below W.heap.size W V0 := by rw [hV0]; exact alloc_below _ _
  have bV1 : Below V0.heap.size V0 V := by rw [hV]; exact alloc_below _ _
  have v0 : V0.heap[W.heap.size]? = some (.cells #[.int .i64 o, .int .i64 la, .int .i64 ep, .int .i64 ck, .int .i64 tl, .bool false] 39 (0, 0)) := by rw [hV0]; exact heap_alloc_new W _
  have v1 : V.heap[V0.heap.size]? = some (.cells #[.int .i64 0, .int .i64 0, .int .i64 0, .int .i64 0, .int .i64 0, .bool false] 39 (0, 0)) := by rw [hV]; exact heap_alloc_new V0 _
  have v2 := below_box bV1 v0
  have hlt := box_lt v0
  have hs0 : V0.heap.size = W.heap.size + 1 := by rw [hV0]; simp
  obtain ⟨bB, hbB⟩ : ∃ bB, W.heap.size = bB := ⟨_, rfl⟩
  obtain ⟨rB, hrB⟩ : ∃ rB, V0.heap.size = rB := ⟨_, rfl⟩
  have hrb : bB + 1 = rB := by omega
  rw [hbB, hrB] at hlt
  rw [hbB] at v2
  rw [hrB] at v1
  have HBW0 : Hid (Below bB W V) := hide (by rw [← hbB]; exact below_next bV0 bV1 bV0.size)
  have HBX0 := hide v2
  have HRS0 := hide v1
  have HBB := hide hbB
  have HLT := hide hlt
  have HSZ0 := hide (box_lt v1)
  clear v0 v1 v2 bV0 bV1
  go_enter Try.func53, Try.ntmps53
  go_upto_region 1 with fail
  try rw [hbB]
  try rw [hrb]
  rw [← hV0, ← hV]
  try rw [hrB]
  clear hV0 hV hbB hrB hs0 hrb hlt
  obtain ⟨_, _, _, _, _, _, u0, u1, u2, u3, u4, u5⟩ := six HBX0.out
  go_wp2_with fail
  refine (rcheck_any).mono ?_
  rw [HC.out]
  rintro _ w1 ⟨rfl, b1⟩
  have HBX1 := hide (below_box b1 HBX0.out)
  have HRS1 := hide (below_box b1 HRS0.out)
  have HBW1 := hide (below_next HBW0.out b1 (by have := HLT.out; have := HSZ0.out; omega))
  have HSZ1 := hide (box_lt HRS1.out)
  clear b1 HBX0 HRS0 HBW0 HSZ0 u0 u1 u2 u3 u4 u5
  obtain ⟨_, _, _, _, _, _, u0, u1, u2, u3, u4, u5⟩ := six HBX1.out
  go_wp2_with ((go_at_call 54; refine rreg_any.mono ?_; (try rw [e1]); (try rw [e2]); rintro _ w1 ⟨rfl, rfl⟩))
  refine (rclaim_any).mono ?_
  rw [HM.out]
  rintro _ w2 ⟨rfl, b2⟩
  have HBX2 := hide (below_box b2 HBX1.out)
  have HRS2 := hide (below_box b2 HRS1.out)
  have HBW2 := hide (below_next HBW1.out b2 (by have := HLT.out; have := HSZ1.out; omega))
  have HSZ2 := hide (box_lt HRS2.out)
  clear b2 HBX1 HRS1 HBW1 HSZ1 u0 u1 u2 u3 u4 u5
  obtain ⟨_, _, _, _, _, _, u0, u1, u2, u3, u4, u5⟩ := six HBX2.out
  go_wp2_with fail
  refine (rgrant_any HKK.out HNE.out).mono ?_
  rw [HG.out]
  simp only [LE.val, LE.row]
  rintro _ w3 ⟨rfl, b3⟩
  have HBX3 := hide (below_box b3 HBX2.out)
  have HRS3 := hide (below_box b3 HRS2.out)
  have HBW3 := hide (below_next HBW2.out b3 (by have := HLT.out; have := HSZ2.out; omega))
  have HSZ3 := hide (box_lt HRS3.out)
  clear b3 HBX2 HRS2 HBW2 HSZ2 u0 u1 u2 u3 u4 u5
  obtain ⟨q0, q1, q2, q3, q4, q5, u0, u1, u2, u3, u4, u5⟩ := six HBX3.out
  go_upto_region 10 with fail
  clear q0 q1 q2 q3 q4 q5
  obtain ⟨X, hX⟩ : ∃ X, X = ((((((w3.setCell ⟨bB, 0, none⟩ (.int .i64 g0)).setCell ⟨bB, 1, none⟩ (.int .i64 g1)).setCell ⟨bB, 2, none⟩ (.int .i64 g2)).setCell ⟨bB, 3, none⟩ (.int .i64 g3)).setCell ⟨bB, 4, none⟩ (.int .i64 g4)).setCell ⟨bB, 5, none⟩ (.bool g5)) := ⟨_, rfl⟩
  have oX : Only (· = bB) w3 X := by rw [hX]; exact ((((((Only.set (F := (· = bB)) _ bB 0 (.int .i64 g0) rfl).trans (Only.set (F := (· = bB)) _ bB 1 (.int .i64 g1) rfl)).trans (Only.set (F := (· = bB)) _ bB 2 (.int .i64 g2) rfl)).trans (Only.set (F := (· = bB)) _ bB 3 (.int .i64 g3) rfl)).trans (Only.set (F := (· = bB)) _ bB 4 (.int .i64 g4) rfl)).trans (Only.set (F := (· = bB)) _ bB 5 (.bool g5) rfl))
  have HBX4 : Hid (X.heap[bB]? = some (.cells #[.int .i64 g0, .int .i64 g1, .int .i64 g2, .int .i64 g3, .int .i64 g4, .bool g5] 39 (0, 0))) := hide (by rw [hX]; exact (heap_set_sameL (heap_set_sameL (heap_set_sameL (heap_set_sameL (heap_set_sameL (heap_set_sameL HBX3.out 0 (.int .i64 g0)) 1 (.int .i64 g1)) 2 (.int .i64 g2)) 3 (.int .i64 g3)) 4 (.int .i64 g4)) 5 (.bool g5)))
  have HRS4 := hide (oX.obj HRS3.out (fun e => by have e' : rB = bB := e; have := HLT.out; omega))
  have HBW4 := hide (HBW3.out.trans (oX.below (by have := HLT.out; have := HSZ3.out; omega) (fun i e => by have e' : i = bB := e; omega)))
  have HSZ4 := hide (box_lt HRS4.out)
  rw [← hX]
  clear hX oX HBX3 HRS3 HBW3 HSZ3 u0 u1 u2 u3 u4 u5
  obtain ⟨_, _, _, _, _, _, u0, u1, u2, u3, u4, u5⟩ := six HBX4.out
  obtain ⟨f0, f1, f2, f3, f4, f5, r0, r1, r2, r3, r4, r5⟩ := six HRS4.out
  have hne1 : rB ≠ bB := by have := HLT.out; omega
  have hne2 : bB ≠ rB := by have := HLT.out; omega
  go_region_held3 (fun w' => w'.cell? ⟨bB, 0, none⟩ = some (.int .i64 g0) ∧ w'.cell? ⟨bB, 1, none⟩ = some (.int .i64 g1) ∧ w'.cell? ⟨bB, 2, none⟩ = some (.int .i64 g2) ∧ w'.cell? ⟨bB, 3, none⟩ = some (.int .i64 g3) ∧ w'.cell? ⟨bB, 4, none⟩ = some (.int .i64 g4) ∧ w'.cell? ⟨bB, 5, none⟩ = some (.bool g5)) (go_keep) (fail)
  go_wp2
  have hE := drew1_heap (heap_set6 HRS4.out (.int .i64 g0) (.int .i64 g1) (.int .i64 g2) (.int .i64 g3) (.int .i64 g4) (.bool g5))
  refine bodyPost_ret (results_cell_three rfl _ _ rB 39 _ _ _ rfl hE Try.underlying39 rfl (by kernel_rfl)) rfl ?_
  refine ⟨by rw [HQ.out]; rfl, ?_⟩
  rw [HBB.out]
  exact below_drew1 (HBW4.out.trans ((only_set6 _ rB _ _ _ _ _ _).below (by have := HLT.out; have := HSZ4.out; omega) (fun i e => by have e' : i = rB := e; have := HLT.out; omega)))

theorem rtransfer_any {W : World} {o la ep ck tl : Int} {so : Bool} {r p t : Int} : Calls Try.prog 53 #[.agg #[.int .i64 o, .int .i64 la, .int .i64 ep, .int .i64 ck, .int .i64 tl, .bool so], .int .i64 r, .int .i64 p, .int .i64 t] W fun e w' => e = .returned (.tuple #[LE.val (transC ⟨o, la, ep, ck, tl, so⟩ r p t).1, .int .i64 (transC ⟨o, la, ep, ck, tl, so⟩ r p t).2.1, .int .i64 (transC ⟨o, la, ep, ck, tl, so⟩ r p t).2.2]) ∧ Below W.heap.size W w' := by
  by_cases hk : okL ⟨o, la, ep, ck, tl, so⟩
  · by_cases h1 : 0 ≤ r ∧ r < 2
    · by_cases h2 : 0 ≤ t ∧ t < 2
      · by_cases h3 : t = r
        · exact rtrans_4 hk h1 h2 h3
        · by_cases hc : claimC ⟨o, la, ep, ck, tl, so⟩ r p = 0
          · cases so with
            | true => exact rtrans_6 hk h1 h2 h3 hc
            | false =>
              by_cases h9 : ep = 9007199254740992
              · exact rtrans_7 hk h1 h2 h3 hc h9
              · exact rtrans_8 hk h1 h2 h3 hc h9
          · exact rtrans_5 hk h1 h2 h3 hc
      · exact rtrans_3 hk h1 h2
    · exact rtrans_2 hk h1
  · exact rtrans_1 hk
end Go.Proofs.Ytegffdmlkbdcdaa.Op
