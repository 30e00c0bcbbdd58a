/-
  Acquire, Renew, Release, Transfer and Alone of package lease. No conditions.
-/
import Derived.Test.YthlkhjpobiohmaaLse
namespace Go.Proofs.Ythlkhjpobiohmaa
open Go.RowKit

set_option maxRecDepth 100000 in
set_option maxHeartbeats 2000000 in
theorem renew_1 {W : World} {o la ep ck tl : Int} {so : Bool} {r p : Int} (hc : claimC ⟨o, la, ep, ck, tl, so⟩ r p ≠ 0) :
    Calls Try.prog 23 #[.agg #[.int .i64 o, .int .i64 la, .int .i64 ep, .int .i64 ck, .int .i64 tl, .bool so], .int .i64 r, .int .i64 p] W fun e w' => e = .returned (.tuple #[LE.val (renewC ⟨o, la, ep, ck, tl, so⟩ r p).1, .int .i64 (renewC ⟨o, la, ep, ck, tl, so⟩ r p).2]) ∧ Below W.heap.size W w' := by
  obtain ⟨c, hcc⟩ : ∃ c, claimC ⟨o, la, ep, ck, tl, so⟩ r p = c := ⟨_, rfl⟩
  have HQ : Hid (renewC ⟨o, la, ep, ck, tl, so⟩ r p = (⟨o, la, ep, ck, tl, so⟩, c)) := hide ((if_neg hc).trans (by rw [hcc]))
  rw [hcc] at hc
  have HC := hide hcc
  have d1 : (c == 0) = false := ne_eqL hc
  have d2 : (c != 0) = true := ne_neL hc
  clear hcc hc
  obtain ⟨V0, hV0⟩ : ∃ V0, V0 = W.alloc (.cells #[.int .i64 o, .int .i64 la, .int .i64 ep, .int .i64 ck, .int .i64 tl, .bool so] 23 (0, 0)) := ⟨_, rfl⟩
  obtain ⟨V, hV⟩ : ∃ V, V = V0.alloc (.cells #[.int .i64 0, .int .i64 0, .int .i64 0, .int .i64 0, .int .i64 0, .bool false] 23 (0, 0)) := ⟨_, rfl⟩
  have bV0 : Below W.heap.size W V0 := by rw [hV0]; exact alloc_below _ _
  have bV1 : Below V0.heap.size V0 V := by rw [hV]; exact alloc_below _ _
  have v0 : V0.heap[W.heap.size]? = some (.cells #[.int .i64 o, .int .i64 la, .int .i64 ep, .int .i64 ck, .int .i64 tl, .bool so] 23 (0, 0)) := by rw [hV0]; exact heap_alloc_new W _
  have v1 : V.heap[V0.heap.size]? = some (.cells #[.int .i64 0, .int .i64 0, .int .i64 0, .int .i64 0, .int .i64 0, .bool false] 23 (0, 0)) := by rw [hV]; exact heap_alloc_new V0 _
  have v2 := below_box bV1 v0
  have hlt := box_lt v0
  have hs0 : V0.heap.size = W.heap.size + 1 := by rw [hV0]; simp
  obtain ⟨bB, hbB⟩ : ∃ bB, W.heap.size = bB := ⟨_, rfl⟩
  obtain ⟨rB, hrB⟩ : ∃ rB, V0.heap.size = rB := ⟨_, rfl⟩
  have hrb : bB + 1 = rB := by omega
  rw [hbB, hrB] at hlt
  rw [hbB] at v2
  rw [hrB] at v1
  have HBW0 : Hid (Below bB W V) := hide (by rw [← hbB]; exact below_next bV0 bV1 bV0.size)
  have HBX0 := hide v2
  have HRS0 := hide v1
  have HBB := hide hbB
  have HLT := hide hlt
  have HSZ0 := hide (box_lt v1)
  clear v0 v1 v2 bV0 bV1
  go_enter Try.func23, Try.ntmps23
  go_upto_region 1 with fail
  try rw [hbB]
  try rw [hrb]
  rw [← hV0, ← hV]
  try rw [hrB]
  clear hV0 hV hbB hrB hs0 hrb hlt
  obtain ⟨_, _, _, _, _, _, u0, u1, u2, u3, u4, u5⟩ := six HBX0.out
  go_wp2_with fail
  refine (claim_any).mono ?_
  rw [HC.out]
  rintro _ w1 ⟨rfl, b1⟩
  have HBX1 := hide (below_box b1 HBX0.out)
  have HRS1 := hide (below_box b1 HRS0.out)
  have HBW1 := hide (below_next HBW0.out b1 (by have := HLT.out; have := HSZ0.out; omega))
  have HSZ1 := hide (box_lt HRS1.out)
  clear b1 HBX0 HRS0 HBW0 HSZ0 u0 u1 u2 u3 u4 u5
  obtain ⟨_, _, _, _, _, _, u0, u1, u2, u3, u4, u5⟩ := six HBX1.out
  obtain ⟨f0, f1, f2, f3, f4, f5, r0, r1, r2, r3, r4, r5⟩ := six HRS1.out
  go_wp2
  have hE := heap_set6 HRS1.out (.int .i64 o) (.int .i64 la) (.int .i64 ep) (.int .i64 ck) (.int .i64 tl) (.bool so)
  refine bodyPost_ret (results_cell_two rfl _ _ rB 23 _ _ _ rfl hE Try.underlying23 rfl (by kernel_rfl)) rfl ?_
  refine ⟨by rw [HQ.out]; rfl, ?_⟩
  rw [HBB.out]
  exact HBW1.out.trans ((only_set6 _ rB _ _ _ _ _ _).below (by have := HLT.out; have := HSZ1.out; omega) (fun i e => by have e' : i = rB := e; have := HLT.out; omega))

set_option maxRecDepth 100000 in
set_option maxHeartbeats 2000000 in
theorem renew_2 {W : World} {o la ep ck tl : Int} {so : Bool} {r p : Int} (hc : claimC ⟨o, la, ep, ck, tl, so⟩ r p = 0) :
    Calls Try.prog 23 #[.agg #[.int .i64 o, .int .i64 la, .int .i64 ep, .int .i64 ck, .int .i64 tl, .bool so], .int .i64 r, .int .i64 p] W fun e w' => e = .returned (.tuple #[LE.val (renewC ⟨o, la, ep, ck, tl, so⟩ r p).1, .int .i64 (renewC ⟨o, la, ep, ck, tl, so⟩ r p).2]) ∧ Below W.heap.size W w' := by
  have HQ : Hid (renewC ⟨o, la, ep, ck, tl, so⟩ r p = (⟨o, la, ep, ck, laterC ck 16, so⟩, 0)) := hide (if_pos hc)
  have HC := hide hc
  have HK : Hid (0 ≤ ck ∧ ck ≤ 9007199254740992) := hide (by have := (claim_ok hc).1; unfold okL at this; simp only at this; omega)
  obtain ⟨lc, hlc⟩ : ∃ lc, laterC ck 16 = lc := ⟨_, rfl⟩
  rw [hlc] at HQ
  have HLC := hide hlc
  clear hlc hc
  obtain ⟨V0, hV0⟩ : ∃ V0, V0 = W.alloc (.cells #[.int .i64 o, .int .i64 la, .int .i64 ep, .int .i64 ck, .int .i64 tl, .bool so] 23 (0, 0)) := ⟨_, rfl⟩
  obtain ⟨V, hV⟩ : ∃ V, V = V0.alloc (.cells #[.int .i64 0, .int .i64 0, .int .i64 0, .int .i64 0, .int .i64 0, .bool false] 23 (0, 0)) := ⟨_, rfl⟩
  have bV0 : Below W.heap.size W V0 := by rw [hV0]; exact alloc_below _ _
  have bV1 : Below V0.heap.size V0 V := by rw [hV]; exact alloc_below _ _
  have v0 : V0.heap[W.heap.size]? = some (.cells #[.int .i64 o, .int .i64 la, .int .i64 ep, .int .i64 ck, .int .i64 tl, .bool so] 23 (0, 0)) := by rw [hV0]; exact heap_alloc_new W _
  have v1 : V.heap[V0.heap.size]? = some (.cells #[.int .i64 0, .int .i64 0, .int .i64 0, .int .i64 0, .int .i64 0, .bool false] 23 (0, 0)) := by rw [hV]; exact heap_alloc_new V0 _
  have v2 := below_box bV1 v0
  have hlt := box_lt v0
  have hs0 : V0.heap.size = W.heap.size + 1 := by rw [hV0]; simp
  obtain ⟨bB, hbB⟩ : ∃ bB, W.heap.size = bB := ⟨_, rfl⟩
  obtain ⟨rB, hrB⟩ : ∃ rB, V0.heap.size = rB := ⟨_, rfl⟩
  have hrb : bB + 1 = rB := by omega
  rw [hbB, hrB] at hlt
  rw [hbB] at v2
  rw [hrB] at v1
  have HBW0 : Hid (Below bB W V) := hide (by rw [← hbB]; exact below_next bV0 bV1 bV0.size)
  have HBX0 := hide v2
  have HRS0 := hide v1
  have HBB := hide hbB
  have HLT := hide hlt
  have HSZ0 := hide (box_lt v1)
  clear v0 v1 v2 bV0 bV1
  go_enter Try.func23, Try.ntmps23
  go_upto_region 1 with fail
  try rw [hbB]
  try rw [hrb]
  rw [← hV0, ← hV]
  try rw [hrB]
  clear hV0 hV hbB hrB hs0 hrb hlt
  obtain ⟨_, _, _, _, _, _, u0, u1, u2, u3, u4, u5⟩ := six HBX0.out
  go_wp2_with fail
  refine (claim_any).mono ?_
  rw [HC.out]
  rintro _ w1 ⟨rfl, b1⟩
  have HBX1 := hide (below_box b1 HBX0.out)
  have HRS1 := hide (below_box b1 HRS0.out)
  have HBW1 := hide (below_next HBW0.out b1 (by have := HLT.out; have := HSZ0.out; omega))
  have HSZ1 := hide (box_lt HRS1.out)
  clear b1 HBX0 HRS0 HBW0 HSZ0 u0 u1 u2 u3 u4 u5
  obtain ⟨_, _, _, _, _, _, u0, u1, u2, u3, u4, u5⟩ := six HBX1.out
  have hfz := (six HBX1.out).f4
  go_upto_region 5 with ((go_at_call 49; refine (later_any HK.out.1 HK.out.2).mono ?_; rw [HLC.out]; rintro _ w1 ⟨rfl, rfl⟩))
  obtain ⟨X, hX⟩ : ∃ X, X = (w1.setCell ⟨bB, 4, none⟩ (.int .i64 lc)) := ⟨_, rfl⟩
  have oX : Only (· = bB) w1 X := by rw [hX]; exact (Only.set (F := (· = bB)) _ bB 4 (.int .i64 lc) rfl)
  have HBX2 : Hid (X.heap[bB]? = some (.cells #[.int .i64 o, .int .i64 la, .int .i64 ep, .int .i64 ck, .int .i64 lc, .bool so] 23 (0, 0))) := hide (by rw [hX]; exact (heap_set_sameL HBX1.out 4 (.int .i64 lc)))
  have HRS2 := hide (oX.obj HRS1.out (fun e => by have e' : rB = bB := e; have := HLT.out; omega))
  have HBW2 := hide (HBW1.out.trans (oX.below (by have := HLT.out; have := HSZ1.out; omega) (fun i e => by have e' : i = bB := e; omega)))
  have HSZ2 := hide (box_lt HRS2.out)
  rw [← hX]
  clear hX oX HBX1 HRS1 HBW1 HSZ1 u0 u1 u2 u3 u4 u5
  obtain ⟨_, _, _, _, _, _, u0, u1, u2, u3, u4, u5⟩ := six HBX2.out
  obtain ⟨f0, f1, f2, f3, f4, f5, r0, r1, r2, r3, r4, r5⟩ := six HRS2.out
  go_wp2
  have hE := heap_set6 HRS2.out (.int .i64 o) (.int .i64 la) (.int .i64 ep) (.int .i64 ck) (.int .i64 lc) (.bool so)
  refine bodyPost_ret (results_cell_two rfl _ _ rB 23 _ _ _ rfl hE Try.underlying23 rfl (by kernel_rfl)) rfl ?_
  refine ⟨by rw [HQ.out]; rfl, ?_⟩
  rw [HBB.out]
  exact HBW2.out.trans ((only_set6 _ rB _ _ _ _ _ _).below (by have := HLT.out; have := HSZ2.out; omega) (fun i e => by have e' : i = rB := e; have := HLT.out; omega))

theorem renew_any {W : World} {o la ep ck tl : Int} {so : Bool} {r p : Int} : Calls Try.prog 23 #[.agg #[.int .i64 o, .int .i64 la, .int .i64 ep, .int .i64 ck, .int .i64 tl, .bool so], .int .i64 r, .int .i64 p] W fun e w' => e = .returned (.tuple #[LE.val (renewC ⟨o, la, ep, ck, tl, so⟩ r p).1, .int .i64 (renewC ⟨o, la, ep, ck, tl, so⟩ r p).2]) ∧ Below W.heap.size W w' := by
  by_cases hc : claimC ⟨o, la, ep, ck, tl, so⟩ r p = 0
  · exact renew_2 hc
  · exact renew_1 hc
set_option maxRecDepth 100000 in
set_option maxHeartbeats 2000000 in
theorem release_1 {W : World} {o la ep ck tl : Int} {so : Bool} {r p : Int} (hc : claimC ⟨o, la, ep, ck, tl, so⟩ r p ≠ 0) :
    Calls Try.prog 24 #[.agg #[.int .i64 o, .int .i64 la, .int .i64 ep, .int .i64 ck, .int .i64 tl, .bool so], .int .i64 r, .int .i64 p] W fun e w' => e = .returned (.tuple #[LE.val (releaseC ⟨o, la, ep, ck, tl, so⟩ r p).1, .int .i64 (releaseC ⟨o, la, ep, ck, tl, so⟩ r p).2]) ∧ Below W.heap.size W w' := by
  obtain ⟨c, hcc⟩ : ∃ c, claimC ⟨o, la, ep, ck, tl, so⟩ r p = c := ⟨_, rfl⟩
  have HQ : Hid (releaseC ⟨o, la, ep, ck, tl, so⟩ r p = (⟨o, la, ep, ck, tl, so⟩, c)) := hide ((if_neg hc).trans (by rw [hcc]))
  rw [hcc] at hc
  have HC := hide hcc
  have d1 : (c == 0) = false := ne_eqL hc
  have d2 : (c != 0) = true := ne_neL hc
  clear hcc hc
  obtain ⟨V0, hV0⟩ : ∃ V0, V0 = W.alloc (.cells #[.int .i64 o, .int .i64 la, .int .i64 ep, .int .i64 ck, .int .i64 tl, .bool so] 23 (0, 0)) := ⟨_, rfl⟩
  obtain ⟨V, hV⟩ : ∃ V, V = V0.alloc (.cells #[.int .i64 0, .int .i64 0, .int .i64 0, .int .i64 0, .int .i64 0, .bool false] 23 (0, 0)) := ⟨_, rfl⟩
  have bV0 : Below W.heap.size W V0 := by rw [hV0]; exact alloc_below _ _
  have bV1 : Below V0.heap.size V0 V := by rw [hV]; exact alloc_below _ _
  have v0 : V0.heap[W.heap.size]? = some (.cells #[.int .i64 o, .int .i64 la, .int .i64 ep, .int .i64 ck, .int .i64 tl, .bool so] 23 (0, 0)) := by rw [hV0]; exact heap_alloc_new W _
  have v1 : V.heap[V0.heap.size]? = some (.cells #[.int .i64 0, .int .i64 0, .int .i64 0, .int .i64 0, .int .i64 0, .bool false] 23 (0, 0)) := by rw [hV]; exact heap_alloc_new V0 _
  have v2 := below_box bV1 v0
  have hlt := box_lt v0
  have hs0 : V0.heap.size = W.heap.size + 1 := by rw [hV0]; simp
  obtain ⟨bB, hbB⟩ : ∃ bB, W.heap.size = bB := ⟨_, rfl⟩
  obtain ⟨rB, hrB⟩ : ∃ rB, V0.heap.size = rB := ⟨_, rfl⟩
  have hrb : bB + 1 = rB := by omega
  rw [hbB, hrB] at hlt
  rw [hbB] at v2
  rw [hrB] at v1
  have HBW0 : Hid (Below bB W V) := hide (by rw [← hbB]; exact below_next bV0 bV1 bV0.size)
  have HBX0 := hide v2
  have HRS0 := hide v1
  have HBB := hide hbB
  have HLT := hide hlt
  have HSZ0 := hide (box_lt v1)
  clear v0 v1 v2 bV0 bV1
  go_enter Try.func24, Try.ntmps24
  go_upto_region 1 with fail
  try rw [hbB]
  try rw [hrb]
  rw [← hV0, ← hV]
  try rw [hrB]
  clear hV0 hV hbB hrB hs0 hrb hlt
  obtain ⟨_, _, _, _, _, _, u0, u1, u2, u3, u4, u5⟩ := six HBX0.out
  go_wp2_with fail
  refine (claim_any).mono ?_
  rw [HC.out]
  rintro _ w1 ⟨rfl, b1⟩
  have HBX1 := hide (below_box b1 HBX0.out)
  have HRS1 := hide (below_box b1 HRS0.out)
  have HBW1 := hide (below_next HBW0.out b1 (by have := HLT.out; have := HSZ0.out; omega))
  have HSZ1 := hide (box_lt HRS1.out)
  clear b1 HBX0 HRS0 HBW0 HSZ0 u0 u1 u2 u3 u4 u5
  obtain ⟨_, _, _, _, _, _, u0, u1, u2, u3, u4, u5⟩ := six HBX1.out
  obtain ⟨f0, f1, f2, f3, f4, f5, r0, r1, r2, r3, r4, r5⟩ := six HRS1.out
  go_wp2
  have hE := heap_set6 HRS1.out (.int .i64 o) (.int .i64 la) (.int .i64 ep) (.int .i64 ck) (.int .i64 tl) (.bool so)
  refine bodyPost_ret (results_cell_two rfl _ _ rB 23 _ _ _ rfl hE Try.underlying23 rfl (by kernel_rfl)) rfl ?_
  refine ⟨by rw [HQ.out]; rfl, ?_⟩
  rw [HBB.out]
  exact HBW1.out.trans ((only_set6 _ rB _ _ _ _ _ _).below (by have := HLT.out; have := HSZ1.out; omega) (fun i e => by have e' : i = rB := e; have := HLT.out; omega))

set_option maxRecDepth 100000 in
set_option maxHeartbeats 2000000 in
theorem release_2 {W : World} {o la ep ck tl : Int} {so : Bool} {r p : Int} (hc : claimC ⟨o, la, ep, ck, tl, so⟩ r p = 0) :
    Calls Try.prog 24 #[.agg #[.int .i64 o, .int .i64 la, .int .i64 ep, .int .i64 ck, .int .i64 tl, .bool so], .int .i64 r, .int .i64 p] W fun e w' => e = .returned (.tuple #[LE.val (releaseC ⟨o, la, ep, ck, tl, so⟩ r p).1, .int .i64 (releaseC ⟨o, la, ep, ck, tl, so⟩ r p).2]) ∧ Below W.heap.size W w' := by
  have HQ : Hid (releaseC ⟨o, la, ep, ck, tl, so⟩ r p = (⟨-1, la, ep, ck, ck, so⟩, 0)) := hide (if_pos hc)
  have HC := hide hc
  clear hc
  obtain ⟨V0, hV0⟩ : ∃ V0, V0 = W.alloc (.cells #[.int .i64 o, .int .i64 la, .int .i64 ep, .int .i64 ck, .int .i64 tl, .bool so] 23 (0, 0)) := ⟨_, rfl⟩
  obtain ⟨V, hV⟩ : ∃ V, V = V0.alloc (.cells #[.int .i64 0, .int .i64 0, .int .i64 0, .int .i64 0, .int .i64 0, .bool false] 23 (0, 0)) := ⟨_, rfl⟩
  have bV0 : Below W.heap.size W V0 := by rw [hV0]; exact alloc_below _ _
  have bV1 : Below V0.heap.size V0 V := by rw [hV]; exact alloc_below _ _
  have v0 : V0.heap[W.heap.size]? = some (.cells #[.int .i64 o, .int .i64 la, .int .i64 ep, .int .i64 ck, .int .i64 tl, .bool so] 23 (0, 0)) := by rw [hV0]; exact heap_alloc_new W _
  have v1 : V.heap[V0.heap.size]? = some (.cells #[.int .i64 0, .int .i64 0, .int .i64 0, .int .i64 0, .int .i64 0, .bool false] 23 (0, 0)) := by rw [hV]; exact heap_alloc_new V0 _
  have v2 := below_box bV1 v0
  have hlt := box_lt v0
  have hs0 : V0.heap.size = W.heap.size + 1 := by rw [hV0]; simp
  obtain ⟨bB, hbB⟩ : ∃ bB, W.heap.size = bB := ⟨_, rfl⟩
  obtain ⟨rB, hrB⟩ : ∃ rB, V0.heap.size = rB := ⟨_, rfl⟩
  have hrb : bB + 1 = rB := by omega
  rw [hbB, hrB] at hlt
  rw [hbB] at v2
  rw [hrB] at v1
  have HBW0 : Hid (Below bB W V) := hide (by rw [← hbB]; exact below_next bV0 bV1 bV0.size)
  have HBX0 := hide v2
  have HRS0 := hide v1
  have HBB := hide hbB
  have HLT := hide hlt
  have HSZ0 := hide (box_lt v1)
  clear v0 v1 v2 bV0 bV1
  go_enter Try.func24, Try.ntmps24
  go_upto_region 1 with fail
  try rw [hbB]
  try rw [hrb]
  rw [← hV0, ← hV]
  try rw [hrB]
  clear hV0 hV hbB hrB hs0 hrb hlt
  obtain ⟨_, _, _, _, _, _, u0, u1, u2, u3, u4, u5⟩ := six HBX0.out
  go_wp2_with fail
  refine (claim_any).mono ?_
  rw [HC.out]
  rintro _ w1 ⟨rfl, b1⟩
  have HBX1 := hide (below_box b1 HBX0.out)
  have HRS1 := hide (below_box b1 HRS0.out)
  have HBW1 := hide (below_next HBW0.out b1 (by have := HLT.out; have := HSZ0.out; omega))
  have HSZ1 := hide (box_lt HRS1.out)
  clear b1 HBX0 HRS0 HBW0 HSZ0 u0 u1 u2 u3 u4 u5
  obtain ⟨_, _, _, _, _, _, u0, u1, u2, u3, u4, u5⟩ := six HBX1.out
  have hfz := (six HBX1.out).f4
  have hfz0 := (six HBX1.out).f0
  go_upto_region 5 with fail
  obtain ⟨X, hX⟩ : ∃ X, X = ((w1.setCell ⟨bB, 0, none⟩ (.int .i64 (-1))).setCell ⟨bB, 4, none⟩ (.int .i64 ck)) := ⟨_, rfl⟩
  have oX : Only (· = bB) w1 X := by rw [hX]; exact ((Only.set (F := (· = bB)) _ bB 0 (.int .i64 (-1)) rfl).trans (Only.set (F := (· = bB)) _ bB 4 (.int .i64 ck) rfl))
  have HBX2 : Hid (X.heap[bB]? = some (.cells #[.int .i64 (-1), .int .i64 la, .int .i64 ep, .int .i64 ck, .int .i64 ck, .bool so] 23 (0, 0))) := hide (by rw [hX]; exact (heap_set_sameL (heap_set_sameL HBX1.out 0 (.int .i64 (-1))) 4 (.int .i64 ck)))
  have HRS2 := hide (oX.obj HRS1.out (fun e => by have e' : rB = bB := e; have := HLT.out; omega))
  have HBW2 := hide (HBW1.out.trans (oX.below (by have := HLT.out; have := HSZ1.out; omega) (fun i e => by have e' : i = bB := e; omega)))
  have HSZ2 := hide (box_lt HRS2.out)
  rw [← hX]
  clear hX oX HBX1 HRS1 HBW1 HSZ1 u0 u1 u2 u3 u4 u5
  obtain ⟨_, _, _, _, _, _, u0, u1, u2, u3, u4, u5⟩ := six HBX2.out
  obtain ⟨f0, f1, f2, f3, f4, f5, r0, r1, r2, r3, r4, r5⟩ := six HRS2.out
  go_wp2
  have hE := heap_set6 HRS2.out (.int .i64 (-1)) (.int .i64 la) (.int .i64 ep) (.int .i64 ck) (.int .i64 ck) (.bool so)
  refine bodyPost_ret (results_cell_two rfl _ _ rB 23 _ _ _ rfl hE Try.underlying23 rfl (by kernel_rfl)) rfl ?_
  refine ⟨by rw [HQ.out]; rfl, ?_⟩
  rw [HBB.out]
  exact HBW2.out.trans ((only_set6 _ rB _ _ _ _ _ _).below (by have := HLT.out; have := HSZ2.out; omega) (fun i e => by have e' : i = rB := e; have := HLT.out; omega))

theorem release_any {W : World} {o la ep ck tl : Int} {so : Bool} {r p : Int} : Calls Try.prog 24 #[.agg #[.int .i64 o, .int .i64 la, .int .i64 ep, .int .i64 ck, .int .i64 tl, .bool so], .int .i64 r, .int .i64 p] W fun e w' => e = .returned (.tuple #[LE.val (releaseC ⟨o, la, ep, ck, tl, so⟩ r p).1, .int .i64 (releaseC ⟨o, la, ep, ck, tl, so⟩ r p).2]) ∧ Below W.heap.size W w' := by
  by_cases hc : claimC ⟨o, la, ep, ck, tl, so⟩ r p = 0
  · exact release_2 hc
  · exact release_1 hc
set_option maxRecDepth 100000 in
set_option maxHeartbeats 2000000 in
theorem alone_1 {W : World} {o la ep ck tl : Int} {so : Bool} {r p : Int} {s : Bool} (hc : claimC ⟨o, la, ep, ck, tl, so⟩ r p ≠ 0) :
    Calls Try.prog 26 #[.agg #[.int .i64 o, .int .i64 la, .int .i64 ep, .int .i64 ck, .int .i64 tl, .bool so], .int .i64 r, .int .i64 p, .bool s] W fun e w' => e = .returned (.tuple #[LE.val (aloneC ⟨o, la, ep, ck, tl, so⟩ r p s).1, .int .i64 (aloneC ⟨o, la, ep, ck, tl, so⟩ r p s).2]) ∧ Below W.heap.size W w' := by
  obtain ⟨c, hcc⟩ : ∃ c, claimC ⟨o, la, ep, ck, tl, so⟩ r p = c := ⟨_, rfl⟩
  have HQ : Hid (aloneC ⟨o, la, ep, ck, tl, so⟩ r p s = (⟨o, la, ep, ck, tl, so⟩, c)) := hide ((if_neg hc).trans (by rw [hcc]))
  rw [hcc] at hc
  have HC := hide hcc
  have d1 : (c == 0) = false := ne_eqL hc
  have d2 : (c != 0) = true := ne_neL hc
  clear hcc hc
  obtain ⟨V0, hV0⟩ : ∃ V0, V0 = W.alloc (.cells #[.int .i64 o, .int .i64 la, .int .i64 ep, .int .i64 ck, .int .i64 tl, .bool so] 23 (0, 0)) := ⟨_, rfl⟩
  obtain ⟨V, hV⟩ : ∃ V, V = V0.alloc (.cells #[.int .i64 0, .int .i64 0, .int .i64 0, .int .i64 0, .int .i64 0, .bool false] 23 (0, 0)) := ⟨_, rfl⟩
  have bV0 : Below W.heap.size W V0 := by rw [hV0]; exact alloc_below _ _
  have bV1 : Below V0.heap.size V0 V := by rw [hV]; exact alloc_below _ _
  have v0 : V0.heap[W.heap.size]? = some (.cells #[.int .i64 o, .int .i64 la, .int .i64 ep, .int .i64 ck, .int .i64 tl, .bool so] 23 (0, 0)) := by rw [hV0]; exact heap_alloc_new W _
  have v1 : V.heap[V0.heap.size]? = some (.cells #[.int .i64 0, .int .i64 0, .int .i64 0, .int .i64 0, .int .i64 0, .bool false] 23 (0, 0)) := by rw [hV]; exact heap_alloc_new V0 _
  have v2 := below_box bV1 v0
  have hlt := box_lt v0
  have hs0 : V0.heap.size = W.heap.size + 1 := by rw [hV0]; simp
  obtain ⟨bB, hbB⟩ : ∃ bB, W.heap.size = bB := ⟨_, rfl⟩
  obtain ⟨rB, hrB⟩ : ∃ rB, V0.heap.size = rB := ⟨_, rfl⟩
  have hrb : bB + 1 = rB := by omega
  rw [hbB, hrB] at hlt
  rw [hbB] at v2
  rw [hrB] at v1
  have HBW0 : Hid (Below bB W V) := hide (by rw [← hbB]; exact below_next bV0 bV1 bV0.size)
  have HBX0 := hide v2
  have HRS0 := hide v1
  have HBB := hide hbB
  have HLT := hide hlt
  have HSZ0 := hide (box_lt v1)
  clear v0 v1 v2 bV0 bV1
  go_enter Try.func26, Try.ntmps26
  go_upto_region 1 with fail
  try rw [hbB]
  try rw [hrb]
  rw [← hV0, ← hV]
  try rw [hrB]
  clear hV0 hV hbB hrB hs0 hrb hlt
  obtain ⟨_, _, _, _, _, _, u0, u1, u2, u3, u4, u5⟩ := six HBX0.out
  go_wp2_with fail
  refine (claim_any).mono ?_
  rw [HC.out]
  rintro _ w1 ⟨rfl, b1⟩
  have HBX1 := hide (below_box b1 HBX0.out)
  have HRS1 := hide (below_box b1 HRS0.out)
  have HBW1 := hide (below_next HBW0.out b1 (by have := HLT.out; have := HSZ0.out; omega))
  have HSZ1 := hide (box_lt HRS1.out)
  clear b1 HBX0 HRS0 HBW0 HSZ0 u0 u1 u2 u3 u4 u5
  obtain ⟨_, _, _, _, _, _, u0, u1, u2, u3, u4, u5⟩ := six HBX1.out
  obtain ⟨f0, f1, f2, f3, f4, f5, r0, r1, r2, r3, r4, r5⟩ := six HRS1.out
  go_wp2
  have hE := heap_set6 HRS1.out (.int .i64 o) (.int .i64 la) (.int .i64 ep) (.int .i64 ck) (.int .i64 tl) (.bool so)
  refine bodyPost_ret (results_cell_two rfl _ _ rB 23 _ _ _ rfl hE Try.underlying23 rfl (by kernel_rfl)) rfl ?_
  refine ⟨by rw [HQ.out]; rfl, ?_⟩
  rw [HBB.out]
  exact HBW1.out.trans ((only_set6 _ rB _ _ _ _ _ _).below (by have := HLT.out; have := HSZ1.out; omega) (fun i e => by have e' : i = rB := e; have := HLT.out; omega))

set_option maxRecDepth 100000 in
set_option maxHeartbeats 2000000 in
theorem alone_2 {W : World} {o la ep ck tl : Int} {so : Bool} {r p : Int} {s : Bool} (hc : claimC ⟨o, la, ep, ck, tl, so⟩ r p = 0) :
    Calls Try.prog 26 #[.agg #[.int .i64 o, .int .i64 la, .int .i64 ep, .int .i64 ck, .int .i64 tl, .bool so], .int .i64 r, .int .i64 p, .bool s] W fun e w' => e = .returned (.tuple #[LE.val (aloneC ⟨o, la, ep, ck, tl, so⟩ r p s).1, .int .i64 (aloneC ⟨o, la, ep, ck, tl, so⟩ r p s).2]) ∧ Below W.heap.size W w' := by
  have HQ : Hid (aloneC ⟨o, la, ep, ck, tl, so⟩ r p s = (⟨o, la, ep, ck, tl, s⟩, 0)) := hide (if_pos hc)
  have HC := hide hc
  clear hc
  obtain ⟨V0, hV0⟩ : ∃ V0, V0 = W.alloc (.cells #[.int .i64 o, .int .i64 la, .int .i64 ep, .int .i64 ck, .int .i64 tl, .bool so] 23 (0, 0)) := ⟨_, rfl⟩
  obtain ⟨V, hV⟩ : ∃ V, V = V0.alloc (.cells #[.int .i64 0, .int .i64 0, .int .i64 0, .int .i64 0, .int .i64 0, .bool false] 23 (0, 0)) := ⟨_, rfl⟩
  have bV0 : Below W.heap.size W V0 := by rw [hV0]; exact alloc_below _ _
  have bV1 : Below V0.heap.size V0 V := by rw [hV]; exact alloc_below _ _
  have v0 : V0.heap[W.heap.size]? = some (.cells #[.int .i64 o, .int .i64 la, .int .i64 ep, .int .i64 ck, .int .i64 tl, .bool so] 23 (0, 0)) := by rw [hV0]; exact heap_alloc_new W _
  have v1 : V.heap[V0.heap.size]? = some (.cells #[.int .i64 0, .int .i64 0, .int .i64 0, .int .i64 0, .int .i64 0, .bool false] 23 (0, 0)) := by rw [hV]; exact heap_alloc_new V0 _
  have v2 := below_box bV1 v0
  have hlt := box_lt v0
  have hs0 : V0.heap.size = W.heap.size + 1 := by rw [hV0]; simp
  obtain ⟨bB, hbB⟩ : ∃ bB, W.heap.size = bB := ⟨_, rfl⟩
  obtain ⟨rB, hrB⟩ : ∃ rB, V0.heap.size = rB := ⟨_, rfl⟩
  have hrb : bB + 1 = rB := by omega
  rw [hbB, hrB] at hlt
  rw [hbB] at v2
  rw [hrB] at v1
  have HBW0 : Hid (Below bB W V) := hide (by rw [← hbB]; exact below_next bV0 bV1 bV0.size)
  have HBX0 := hide v2
  have HRS0 := hide v1
  have HBB := hide hbB
  have HLT := hide hlt
  have HSZ0 := hide (box_lt v1)
  clear v0 v1 v2 bV0 bV1
  go_enter Try.func26, Try.ntmps26
  go_upto_region 1 with fail
  try rw [hbB]
  try rw [hrb]
  rw [← hV0, ← hV]
  try rw [hrB]
  clear hV0 hV hbB hrB hs0 hrb hlt
  obtain ⟨_, _, _, _, _, _, u0, u1, u2, u3, u4, u5⟩ := six HBX0.out
  go_wp2_with fail
  refine (claim_any).mono ?_
  rw [HC.out]
  rintro _ w1 ⟨rfl, b1⟩
  have HBX1 := hide (below_box b1 HBX0.out)
  have HRS1 := hide (below_box b1 HRS0.out)
  have HBW1 := hide (below_next HBW0.out b1 (by have := HLT.out; have := HSZ0.out; omega))
  have HSZ1 := hide (box_lt HRS1.out)
  clear b1 HBX0 HRS0 HBW0 HSZ0 u0 u1 u2 u3 u4 u5
  obtain ⟨_, _, _, _, _, _, u0, u1, u2, u3, u4, u5⟩ := six HBX1.out
  have hfz := (six HBX1.out).f5
  go_upto_region 5 with fail
  obtain ⟨X, hX⟩ : ∃ X, X = (w1.setCell ⟨bB, 5, none⟩ (.bool s)) := ⟨_, rfl⟩
  have oX : Only (· = bB) w1 X := by rw [hX]; exact (Only.set (F := (· = bB)) _ bB 5 (.bool s) rfl)
  have HBX2 : Hid (X.heap[bB]? = some (.cells #[.int .i64 o, .int .i64 la, .int .i64 ep, .int .i64 ck, .int .i64 tl, .bool s] 23 (0, 0))) := hide (by rw [hX]; exact (heap_set_sameL HBX1.out 5 (.bool s)))
  have HRS2 := hide (oX.obj HRS1.out (fun e => by have e' : rB = bB := e; have := HLT.out; omega))
  have HBW2 := hide (HBW1.out.trans (oX.below (by have := HLT.out; have := HSZ1.out; omega) (fun i e => by have e' : i = bB := e; omega)))
  have HSZ2 := hide (box_lt HRS2.out)
  rw [← hX]
  clear hX oX HBX1 HRS1 HBW1 HSZ1 u0 u1 u2 u3 u4 u5
  obtain ⟨_, _, _, _, _, _, u0, u1, u2, u3, u4, u5⟩ := six HBX2.out
  obtain ⟨f0, f1, f2, f3, f4, f5, r0, r1, r2, r3, r4, r5⟩ := six HRS2.out
  go_wp2
  have hE := heap_set6 HRS2.out (.int .i64 o) (.int .i64 la) (.int .i64 ep) (.int .i64 ck) (.int .i64 tl) (.bool s)
  refine bodyPost_ret (results_cell_two rfl _ _ rB 23 _ _ _ rfl hE Try.underlying23 rfl (by kernel_rfl)) rfl ?_
  refine ⟨by rw [HQ.out]; rfl, ?_⟩
  rw [HBB.out]
  exact HBW2.out.trans ((only_set6 _ rB _ _ _ _ _ _).below (by have := HLT.out; have := HSZ2.out; omega) (fun i e => by have e' : i = rB := e; have := HLT.out; omega))

theorem alone_any {W : World} {o la ep ck tl : Int} {so : Bool} {r p : Int} {s : Bool} : Calls Try.prog 26 #[.agg #[.int .i64 o, .int .i64 la, .int .i64 ep, .int .i64 ck, .int .i64 tl, .bool so], .int .i64 r, .int .i64 p, .bool s] W fun e w' => e = .returned (.tuple #[LE.val (aloneC ⟨o, la, ep, ck, tl, so⟩ r p s).1, .int .i64 (aloneC ⟨o, la, ep, ck, tl, so⟩ r p s).2]) ∧ Below W.heap.size W w' := by
  by_cases hc : claimC ⟨o, la, ep, ck, tl, so⟩ r p = 0
  · exact alone_2 hc
  · exact alone_1 hc
set_option maxRecDepth 100000 in
set_option maxHeartbeats 2000000 in
theorem acq_1 {W : World} {o la ep ck tl : Int} {so : Bool} {r : Int} (hk : ¬ okL ⟨o, la, ep, ck, tl, so⟩) :
    Calls Try.prog 21 #[.agg #[.int .i64 o, .int .i64 la, .int .i64 ep, .int .i64 ck, .int .i64 tl, .bool so], .int .i64 r] W fun e w' => e = .returned (.tuple #[LE.val (acqC ⟨o, la, ep, ck, tl, so⟩ r).1, .int .i64 (acqC ⟨o, la, ep, ck, tl, so⟩ r).2.1, .int .i64 (acqC ⟨o, la, ep, ck, tl, so⟩ r).2.2]) ∧ Below W.heap.size W w' := by
  have HQ : Hid (acqC ⟨o, la, ep, ck, tl, so⟩ r = (⟨o, la, ep, ck, tl, so⟩, 0, 1)) := hide (if_neg (fun h => hk h.1))
  have HC : Hid (chkC ⟨o, la, ep, ck, tl, so⟩ = 1) := hide (chk_no hk)
  obtain ⟨V0, hV0⟩ : ∃ V0, V0 = W.alloc (.cells #[.int .i64 o, .int .i64 la, .int .i64 ep, .int .i64 ck, .int .i64 tl, .bool so] 23 (0, 0)) := ⟨_, rfl⟩
  obtain ⟨V, hV⟩ : ∃ V, V = V0.alloc (.cells #[.int .i64 0, .int .i64 0, .int .i64 0, .int .i64 0, .int .i64 0, .bool false] 23 (0, 0)) := ⟨_, rfl⟩
  have bV0 : Below W.heap.size W V0 := by rw [hV0]; exact alloc_below _ _
  have bV1 : Below V0.heap.size V0 V := by rw [hV]; exact alloc_below _ _
  have v0 : V0.heap[W.heap.size]? = some (.cells #[.int .i64 o, .int .i64 la, .int .i64 ep, .int .i64 ck, .int .i64 tl, .bool so] 23 (0, 0)) := by rw [hV0]; exact heap_alloc_new W _
  have v1 : V.heap[V0.heap.size]? = some (.cells #[.int .i64 0, .int .i64 0, .int .i64 0, .int .i64 0, .int .i64 0, .bool false] 23 (0, 0)) := by rw [hV]; exact heap_alloc_new V0 _
  have v2 := below_box bV1 v0
  have hlt := box_lt v0
  have hs0 : V0.heap.size = W.heap.size + 1 := by rw [hV0]; simp
  obtain ⟨bB, hbB⟩ : ∃ bB, W.heap.size = bB := ⟨_, rfl⟩
  obtain ⟨rB, hrB⟩ : ∃ rB, V0.heap.size = rB := ⟨_, rfl⟩
  have hrb : bB + 1 = rB := by omega
  rw [hbB, hrB] at hlt
  rw [hbB] at v2
  rw [hrB] at v1
  have HBW0 : Hid (Below bB W V) := hide (by rw [← hbB]; exact below_next bV0 bV1 bV0.size)
  have HBX0 := hide v2
  have HRS0 := hide v1
  have HBB := hide hbB
  have HLT := hide hlt
  have HSZ0 := hide (box_lt v1)
  clear v0 v1 v2 bV0 bV1
  go_enter Try.func21, Try.ntmps21
  go_upto_region 1 with fail
  try rw [hbB]
  try rw [hrb]
  rw [← hV0, ← hV]
  try rw [hrB]
  clear hV0 hV hbB hrB hs0 hrb hlt
  obtain ⟨_, _, _, _, _, _, u0, u1, u2, u3, u4, u5⟩ := six HBX0.out
  go_wp2_with fail
  refine (check_any).mono ?_
  rw [HC.out]
  rintro _ w1 ⟨rfl, b1⟩
  have HBX1 := hide (below_box b1 HBX0.out)
  have HRS1 := hide (below_box b1 HRS0.out)
  have HBW1 := hide (below_next HBW0.out b1 (by have := HLT.out; have := HSZ0.out; omega))
  have HSZ1 := hide (box_lt HRS1.out)
  clear b1 HBX0 HRS0 HBW0 HSZ0 u0 u1 u2 u3 u4 u5
  obtain ⟨_, _, _, _, _, _, u0, u1, u2, u3, u4, u5⟩ := six HBX1.out
  obtain ⟨f0, f1, f2, f3, f4, f5, r0, r1, r2, r3, r4, r5⟩ := six HRS1.out
  go_wp2
  have hE := heap_set6 HRS1.out (.int .i64 o) (.int .i64 la) (.int .i64 ep) (.int .i64 ck) (.int .i64 tl) (.bool so)
  refine bodyPost_ret (results_cell_three rfl _ _ rB 23 _ _ _ rfl hE Try.underlying23 rfl (by kernel_rfl)) rfl ?_
  refine ⟨by rw [HQ.out]; rfl, ?_⟩
  rw [HBB.out]
  exact HBW1.out.trans ((only_set6 _ rB _ _ _ _ _ _).below (by have := HLT.out; have := HSZ1.out; omega) (fun i e => by have e' : i = rB := e; have := HLT.out; omega))

set_option maxRecDepth 100000 in
set_option maxHeartbeats 2000000 in
theorem acq_2 {W : World} {o la ep ck tl : Int} {so : Bool} {r : Int} (hk : okL ⟨o, la, ep, ck, tl, so⟩) (h1 : ¬ (0 ≤ r ∧ r < 2)) :
    Calls Try.prog 21 #[.agg #[.int .i64 o, .int .i64 la, .int .i64 ep, .int .i64 ck, .int .i64 tl, .bool so], .int .i64 r] W fun e w' => e = .returned (.tuple #[LE.val (acqC ⟨o, la, ep, ck, tl, so⟩ r).1, .int .i64 (acqC ⟨o, la, ep, ck, tl, so⟩ r).2.1, .int .i64 (acqC ⟨o, la, ep, ck, tl, so⟩ r).2.2]) ∧ Below W.heap.size W w' := by
  have HQ : Hid (acqC ⟨o, la, ep, ck, tl, so⟩ r = (⟨o, la, ep, ck, tl, so⟩, 0, 1)) := hide (if_neg (fun h => h1 h.2))
  have HC : Hid (chkC ⟨o, la, ep, ck, tl, so⟩ = 0) := hide (chk_yes hk)
  have e1 : regC r = false := reg_no h1
  obtain ⟨V0, hV0⟩ : ∃ V0, V0 = W.alloc (.cells #[.int .i64 o, .int .i64 la, .int .i64 ep, .int .i64 ck, .int .i64 tl, .bool so] 23 (0, 0)) := ⟨_, rfl⟩
  obtain ⟨V, hV⟩ : ∃ V, V = V0.alloc (.cells #[.int .i64 0, .int .i64 0, .int .i64 0, .int .i64 0, .int .i64 0, .bool false] 23 (0, 0)) := ⟨_, rfl⟩
  have bV0 : Below W.heap.size W V0 := by rw [hV0]; exact alloc_below _ _
  have bV1 : Below V0.heap.size V0 V := by rw [hV]; exact alloc_below _ _
  have v0 : V0.heap[W.heap.size]? = some (.cells #[.int .i64 o, .int .i64 la, .int .i64 ep, .int .i64 ck, .int .i64 tl, .bool so] 23 (0, 0)) := by rw [hV0]; exact heap_alloc_new W _
  have v1 : V.heap[V0.heap.size]? = some (.cells #[.int .i64 0, .int .i64 0, .int .i64 0, .int .i64 0, .int .i64 0, .bool false] 23 (0, 0)) := by rw [hV]; exact heap_alloc_new V0 _
  have v2 := below_box bV1 v0
  have hlt := box_lt v0
  have hs0 : V0.heap.size = W.heap.size + 1 := by rw [hV0]; simp
  obtain ⟨bB, hbB⟩ : ∃ bB, W.heap.size = bB := ⟨_, rfl⟩
  obtain ⟨rB, hrB⟩ : ∃ rB, V0.heap.size = rB := ⟨_, rfl⟩
  have hrb : bB + 1 = rB := by omega
  rw [hbB, hrB] at hlt
  rw [hbB] at v2
  rw [hrB] at v1
  have HBW0 : Hid (Below bB W V) := hide (by rw [← hbB]; exact below_next bV0 bV1 bV0.size)
  have HBX0 := hide v2
  have HRS0 := hide v1
  have HBB := hide hbB
  have HLT := hide hlt
  have HSZ0 := hide (box_lt v1)
  clear v0 v1 v2 bV0 bV1
  go_enter Try.func21, Try.ntmps21
  go_upto_region 1 with fail
  try rw [hbB]
  try rw [hrb]
  rw [← hV0, ← hV]
  try rw [hrB]
  clear hV0 hV hbB hrB hs0 hrb hlt
  obtain ⟨_, _, _, _, _, _, u0, u1, u2, u3, u4, u5⟩ := six HBX0.out
  go_wp2_with fail
  refine (check_any).mono ?_
  rw [HC.out]
  rintro _ w1 ⟨rfl, b1⟩
  have HBX1 := hide (below_box b1 HBX0.out)
  have HRS1 := hide (below_box b1 HRS0.out)
  have HBW1 := hide (below_next HBW0.out b1 (by have := HLT.out; have := HSZ0.out; omega))
  have HSZ1 := hide (box_lt HRS1.out)
  clear b1 HBX0 HRS0 HBW0 HSZ0 u0 u1 u2 u3 u4 u5
  obtain ⟨_, _, _, _, _, _, u0, u1, u2, u3, u4, u5⟩ := six HBX1.out
  go_upto_region 2 with ((go_at_call 33; refine isreg_any.mono ?_; rw [e1]; rintro _ w1 ⟨rfl, rfl⟩))
  obtain ⟨f0, f1, f2, f3, f4, f5, r0, r1, r2, r3, r4, r5⟩ := six HRS1.out
  go_wp2
  have hE := heap_set6 HRS1.out (.int .i64 o) (.int .i64 la) (.int .i64 ep) (.int .i64 ck) (.int .i64 tl) (.bool so)
  refine bodyPost_ret (results_cell_three rfl _ _ rB 23 _ _ _ rfl hE Try.underlying23 rfl (by kernel_rfl)) rfl ?_
  refine ⟨by rw [HQ.out]; rfl, ?_⟩
  rw [HBB.out]
  exact HBW1.out.trans ((only_set6 _ rB _ _ _ _ _ _).below (by have := HLT.out; have := HSZ1.out; omega) (fun i e => by have e' : i = rB := e; have := HLT.out; omega))

set_option maxRecDepth 100000 in
set_option maxHeartbeats 2000000 in
theorem acq_3 {W : World} {o la ep ck tl : Int} {so : Bool} {r : Int} (hk : okL ⟨o, la, ep, ck, tl, so⟩) (h1 : 0 ≤ r ∧ r < 2) (h2 : heldC ⟨o, la, ep, ck, tl, so⟩ = true) (h3 : o ≠ r) :
    Calls Try.prog 21 #[.agg #[.int .i64 o, .int .i64 la, .int .i64 ep, .int .i64 ck, .int .i64 tl, .bool so], .int .i64 r] W fun e w' => e = .returned (.tuple #[LE.val (acqC ⟨o, la, ep, ck, tl, so⟩ r).1, .int .i64 (acqC ⟨o, la, ep, ck, tl, so⟩ r).2.1, .int .i64 (acqC ⟨o, la, ep, ck, tl, so⟩ r).2.2]) ∧ Below W.heap.size W w' := by
  have HQ : Hid (acqC ⟨o, la, ep, ck, tl, so⟩ r = (⟨o, la, ep, ck, tl, so⟩, 0, 130)) := hide ((if_pos ⟨hk, h1⟩).trans (if_pos ⟨h2, h3⟩))
  have HC : Hid (chkC ⟨o, la, ep, ck, tl, so⟩ = 0) := hide (chk_yes hk)
  have e1 : regC r = true := reg_yes h1
  have HH : Hid (heldC ⟨o, la, ep, ck, tl, so⟩ = true) := hide h2
  have d3 : (o == r) = false := ne_eqL h3
  have d4 : (o != r) = true := ne_neL h3
  clear h2
  obtain ⟨V0, hV0⟩ : ∃ V0, V0 = W.alloc (.cells #[.int .i64 o, .int .i64 la, .int .i64 ep, .int .i64 ck, .int .i64 tl, .bool so] 23 (0, 0)) := ⟨_, rfl⟩
  obtain ⟨V, hV⟩ : ∃ V, V = V0.alloc (.cells #[.int .i64 0, .int .i64 0, .int .i64 0, .int .i64 0, .int .i64 0, .bool false] 23 (0, 0)) := ⟨_, rfl⟩
  have bV0 : Below W.heap.size W V0 := by rw [hV0]; exact alloc_below _ _
  have bV1 : Below V0.heap.size V0 V := by rw [hV]; exact alloc_below _ _
  have v0 : V0.heap[W.heap.size]? = some (.cells #[.int .i64 o, .int .i64 la, .int .i64 ep, .int .i64 ck, .int .i64 tl, .bool so] 23 (0, 0)) := by rw [hV0]; exact heap_alloc_new W _
  have v1 : V.heap[V0.heap.size]? = some (.cells #[.int .i64 0, .int .i64 0, .int .i64 0, .int .i64 0, .int .i64 0, .bool false] 23 (0, 0)) := by rw [hV]; exact heap_alloc_new V0 _
  have v2 := below_box bV1 v0
  have hlt := box_lt v0
  have hs0 : V0.heap.size = W.heap.size + 1 := by rw [hV0]; simp
  obtain ⟨bB, hbB⟩ : ∃ bB, W.heap.size = bB := ⟨_, rfl⟩
  obtain ⟨rB, hrB⟩ : ∃ rB, V0.heap.size = rB := ⟨_, rfl⟩
  have hrb : bB + 1 = rB := by omega
  rw [hbB, hrB] at hlt
  rw [hbB] at v2
  rw [hrB] at v1
  have HBW0 : Hid (Below bB W V) := hide (by rw [← hbB]; exact below_next bV0 bV1 bV0.size)
  have HBX0 := hide v2
  have HRS0 := hide v1
  have HBB := hide hbB
  have HLT := hide hlt
  have HSZ0 := hide (box_lt v1)
  clear v0 v1 v2 bV0 bV1
  go_enter Try.func21, Try.ntmps21
  go_upto_region 1 with fail
  try rw [hbB]
  try rw [hrb]
  rw [← hV0, ← hV]
  try rw [hrB]
  clear hV0 hV hbB hrB hs0 hrb hlt
  obtain ⟨_, _, _, _, _, _, u0, u1, u2, u3, u4, u5⟩ := six HBX0.out
  go_wp2_with fail
  refine (check_any).mono ?_
  rw [HC.out]
  rintro _ w1 ⟨rfl, b1⟩
  have HBX1 := hide (below_box b1 HBX0.out)
  have HRS1 := hide (below_box b1 HRS0.out)
  have HBW1 := hide (below_next HBW0.out b1 (by have := HLT.out; have := HSZ0.out; omega))
  have HSZ1 := hide (box_lt HRS1.out)
  clear b1 HBX0 HRS0 HBW0 HSZ0 u0 u1 u2 u3 u4 u5
  obtain ⟨_, _, _, _, _, _, u0, u1, u2, u3, u4, u5⟩ := six HBX1.out
  go_wp2_with ((go_at_call 33; refine isreg_any.mono ?_; rw [e1]; rintro _ w1 ⟨rfl, rfl⟩))
  refine (held_any).mono ?_
  rw [HH.out]
  rintro _ w2 ⟨rfl, b2⟩
  have HBX2 := hide (below_box b2 HBX1.out)
  have HRS2 := hide (below_box b2 HRS1.out)
  have HBW2 := hide (below_next HBW1.out b2 (by have := HLT.out; have := HSZ1.out; omega))
  have HSZ2 := hide (box_lt HRS2.out)
  clear b2 HBX1 HRS1 HBW1 HSZ1 u0 u1 u2 u3 u4 u5
  obtain ⟨_, _, _, _, _, _, u0, u1, u2, u3, u4, u5⟩ := six HBX2.out
  obtain ⟨f0, f1, f2, f3, f4, f5, r0, r1, r2, r3, r4, r5⟩ := six HRS2.out
  go_wp2
  have hE := heap_set6 HRS2.out (.int .i64 o) (.int .i64 la) (.int .i64 ep) (.int .i64 ck) (.int .i64 tl) (.bool so)
  refine bodyPost_ret (results_cell_three rfl _ _ rB 23 _ _ _ rfl hE Try.underlying23 rfl (by kernel_rfl)) rfl ?_
  refine ⟨by rw [HQ.out]; rfl, ?_⟩
  rw [HBB.out]
  exact HBW2.out.trans ((only_set6 _ rB _ _ _ _ _ _).below (by have := HLT.out; have := HSZ2.out; omega) (fun i e => by have e' : i = rB := e; have := HLT.out; omega))

set_option maxRecDepth 100000 in
set_option maxHeartbeats 2000000 in
theorem acq_4 {W : World} {o la ep ck tl : Int}  {r : Int} (hk : okL ⟨o, la, ep, ck, tl, true⟩) (h1 : 0 ≤ r ∧ r < 2) (h2 : heldC ⟨o, la, ep, ck, tl, true⟩ = false) (h4 : la ≠ r) :
    Calls Try.prog 21 #[.agg #[.int .i64 o, .int .i64 la, .int .i64 ep, .int .i64 ck, .int .i64 tl, .bool true], .int .i64 r] W fun e w' => e = .returned (.tuple #[LE.val (acqC ⟨o, la, ep, ck, tl, true⟩ r).1, .int .i64 (acqC ⟨o, la, ep, ck, tl, true⟩ r).2.1, .int .i64 (acqC ⟨o, la, ep, ck, tl, true⟩ r).2.2]) ∧ Below W.heap.size W w' := by
  have HQ : Hid (acqC ⟨o, la, ep, ck, tl, true⟩ r = (⟨o, la, ep, ck, tl, true⟩, 0, 131)) := hide ((if_pos ⟨hk, h1⟩).trans ((if_neg (fun h => by rw [h2] at h; cases h.1)).trans (if_pos ⟨rfl, h4⟩)))
  have HC : Hid (chkC ⟨o, la, ep, ck, tl, true⟩ = 0) := hide (chk_yes hk)
  have e1 : regC r = true := reg_yes h1
  have HH : Hid (heldC ⟨o, la, ep, ck, tl, true⟩ = false) := hide h2
  have d5 : (la == r) = false := ne_eqL h4
  have d6 : (la != r) = true := ne_neL h4
  clear h2
  obtain ⟨V0, hV0⟩ : ∃ V0, V0 = W.alloc (.cells #[.int .i64 o, .int .i64 la, .int .i64 ep, .int .i64 ck, .int .i64 tl, .bool true] 23 (0, 0)) := ⟨_, rfl⟩
  obtain ⟨V, hV⟩ : ∃ V, V = V0.alloc (.cells #[.int .i64 0, .int .i64 0, .int .i64 0, .int .i64 0, .int .i64 0, .bool false] 23 (0, 0)) := ⟨_, rfl⟩
  have bV0 : Below W.heap.size W V0 := by rw [hV0]; exact alloc_below _ _
  have bV1 : Below V0.heap.size V0 V := by rw [hV]; exact alloc_below _ _
  have v0 : V0.heap[W.heap.size]? = some (.cells #[.int .i64 o, .int .i64 la, .int .i64 ep, .int .i64 ck, .int .i64 tl, .bool true] 23 (0, 0)) := by rw [hV0]; exact heap_alloc_new W _
  have v1 : V.heap[V0.heap.size]? = some (.cells #[.int .i64 0, .int .i64 0, .int .i64 0, .int .i64 0, .int .i64 0, .bool false] 23 (0, 0)) := by rw [hV]; exact heap_alloc_new V0 _
  have v2 := below_box bV1 v0
  have hlt := box_lt v0
  have hs0 : V0.heap.size = W.heap.size + 1 := by rw [hV0]; simp
  obtain ⟨bB, hbB⟩ : ∃ bB, W.heap.size = bB := ⟨_, rfl⟩
  obtain ⟨rB, hrB⟩ : ∃ rB, V0.heap.size = rB := ⟨_, rfl⟩
  have hrb : bB + 1 = rB := by omega
  rw [hbB, hrB] at hlt
  rw [hbB] at v2
  rw [hrB] at v1
  have HBW0 : Hid (Below bB W V) := hide (by rw [← hbB]; exact below_next bV0 bV1 bV0.size)
  have HBX0 := hide v2
  have HRS0 := hide v1
  have HBB := hide hbB
  have HLT := hide hlt
  have HSZ0 := hide (box_lt v1)
  clear v0 v1 v2 bV0 bV1
  go_enter Try.func21, Try.ntmps21
  go_upto_region 1 with fail
  try rw [hbB]
  try rw [hrb]
  rw [← hV0, ← hV]
  try rw [hrB]
  clear hV0 hV hbB hrB hs0 hrb hlt
  obtain ⟨_, _, _, _, _, _, u0, u1, u2, u3, u4, u5⟩ := six HBX0.out
  go_wp2_with fail
  refine (check_any).mono ?_
  rw [HC.out]
  rintro _ w1 ⟨rfl, b1⟩
  have HBX1 := hide (below_box b1 HBX0.out)
  have HRS1 := hide (below_box b1 HRS0.out)
  have HBW1 := hide (below_next HBW0.out b1 (by have := HLT.out; have := HSZ0.out; omega))
  have HSZ1 := hide (box_lt HRS1.out)
  clear b1 HBX0 HRS0 HBW0 HSZ0 u0 u1 u2 u3 u4 u5
  obtain ⟨_, _, _, _, _, _, u0, u1, u2, u3, u4, u5⟩ := six HBX1.out
  go_wp2_with ((go_at_call 33; refine isreg_any.mono ?_; rw [e1]; rintro _ w1 ⟨rfl, rfl⟩))
  refine (held_any).mono ?_
  rw [HH.out]
  rintro _ w2 ⟨rfl, b2⟩
  have HBX2 := hide (below_box b2 HBX1.out)
  have HRS2 := hide (below_box b2 HRS1.out)
  have HBW2 := hide (below_next HBW1.out b2 (by have := HLT.out; have := HSZ1.out; omega))
  have HSZ2 := hide (box_lt HRS2.out)
  clear b2 HBX1 HRS1 HBW1 HSZ1 u0 u1 u2 u3 u4 u5
  obtain ⟨_, _, _, _, _, _, u0, u1, u2, u3, u4, u5⟩ := six HBX2.out
  obtain ⟨f0, f1, f2, f3, f4, f5, r0, r1, r2, r3, r4, r5⟩ := six HRS2.out
  go_wp2
  have hE := heap_set6 HRS2.out (.int .i64 o) (.int .i64 la) (.int .i64 ep) (.int .i64 ck) (.int .i64 tl) (.bool true)
  refine bodyPost_ret (results_cell_three rfl _ _ rB 23 _ _ _ rfl hE Try.underlying23 rfl (by kernel_rfl)) rfl ?_
  refine ⟨by rw [HQ.out]; rfl, ?_⟩
  rw [HBB.out]
  exact HBW2.out.trans ((only_set6 _ rB _ _ _ _ _ _).below (by have := HLT.out; have := HSZ2.out; omega) (fun i e => by have e' : i = rB := e; have := HLT.out; omega))

set_option maxRecDepth 100000 in
set_option maxHeartbeats 2000000 in
theorem acq_5 {W : World} {o la ep ck tl : Int}  {r : Int} (hk : okL ⟨o, la, ep, ck, tl, false⟩) (h1 : 0 ≤ r ∧ r < 2) (h2 : heldC ⟨o, la, ep, ck, tl, false⟩ = false) :
    Calls Try.prog 21 #[.agg #[.int .i64 o, .int .i64 la, .int .i64 ep, .int .i64 ck, .int .i64 tl, .bool false], .int .i64 r] W fun e w' => e = .returned (.tuple #[LE.val (acqC ⟨o, la, ep, ck, tl, false⟩ r).1, .int .i64 (acqC ⟨o, la, ep, ck, tl, false⟩ r).2.1, .int .i64 (acqC ⟨o, la, ep, ck, tl, false⟩ r).2.2]) ∧ Below W.heap.size W w' := by
  obtain ⟨⟨⟨g0, g1, g2, g3, g4, g5⟩, n, x⟩, hg⟩ : ∃ q, grantC ⟨o, la, ep, ck, tl, false⟩ r = q := ⟨_, rfl⟩
  have HQ : Hid (acqC ⟨o, la, ep, ck, tl, false⟩ r = (⟨g0, g1, g2, g3, g4, g5⟩, n, x)) := hide ((if_pos ⟨hk, h1⟩).trans ((if_neg (fun h => by rw [h2] at h; cases h.1)).trans ((if_neg (fun h => by cases h.1)).trans hg)))
  have HC : Hid (chkC ⟨o, la, ep, ck, tl, false⟩ = 0) := hide (chk_yes hk)
  have e1 : regC r = true := reg_yes h1
  have HH : Hid (heldC ⟨o, la, ep, ck, tl, false⟩ = false) := hide h2
  have HG := hide hg
  have HKK := hide hk
  clear hg h2 hk
  obtain ⟨V0, hV0⟩ : ∃ V0, V0 = W.alloc (.cells #[.int .i64 o, .int .i64 la, .int .i64 ep, .int .i64 ck, .int .i64 tl, .bool false] 23 (0, 0)) := ⟨_, rfl⟩
  obtain ⟨V, hV⟩ : ∃ V, V = V0.alloc (.cells #[.int .i64 0, .int .i64 0, .int .i64 0, .int .i64 0, .int .i64 0, .bool false] 23 (0, 0)) := ⟨_, rfl⟩
  have bV0 : Below W.heap.size W V0 := by rw [hV0]; exact alloc_below _ _
  have bV1 : Below V0.heap.size V0 V := by rw [hV]; exact alloc_below _ _
  have v0 : V0.heap[W.heap.size]? = some (.cells #[.int .i64 o, .int .i64 la, .int .i64 ep, .int .i64 ck, .int .i64 tl, .bool false] 23 (0, 0)) := by rw [hV0]; exact heap_alloc_new W _
  have v1 : V.heap[V0.heap.size]? = some (.cells #[.int .i64 0, .int .i64 0, .int .i64 0, .int .i64 0, .int .i64 0, .bool false] 23 (0, 0)) := by rw [hV]; exact heap_alloc_new V0 _
  have v2 := below_box bV1 v0
  have hlt := box_lt v0
  have hs0 : V0.heap.size = W.heap.size + 1 := by rw [hV0]; simp
  obtain ⟨bB, hbB⟩ : ∃ bB, W.heap.size = bB := ⟨_, rfl⟩
  obtain ⟨rB, hrB⟩ : ∃ rB, V0.heap.size = rB := ⟨_, rfl⟩
  have hrb : bB + 1 = rB := by omega
  rw [hbB, hrB] at hlt
  rw [hbB] at v2
  rw [hrB] at v1
  have HBW0 : Hid (Below bB W V) := hide (by rw [← hbB]; exact below_next bV0 bV1 bV0.size)
  have HBX0 := hide v2
  have HRS0 := hide v1
  have HBB := hide hbB
  have HLT := hide hlt
  have HSZ0 := hide (box_lt v1)
  clear v0 v1 v2 bV0 bV1
  go_enter Try.func21, Try.ntmps21
  go_upto_region 1 with fail
  try rw [hbB]
  try rw [hrb]
  rw [← hV0, ← hV]
  try rw [hrB]
  clear hV0 hV hbB hrB hs0 hrb hlt
  obtain ⟨_, _, _, _, _, _, u0, u1, u2, u3, u4, u5⟩ := six HBX0.out
  go_wp2_with fail
  refine (check_any).mono ?_
  rw [HC.out]
  rintro _ w1 ⟨rfl, b1⟩
  have HBX1 := hide (below_box b1 HBX0.out)
  have HRS1 := hide (below_box b1 HRS0.out)
  have HBW1 := hide (below_next HBW0.out b1 (by have := HLT.out; have := HSZ0.out; omega))
  have HSZ1 := hide (box_lt HRS1.out)
  clear b1 HBX0 HRS0 HBW0 HSZ0 u0 u1 u2 u3 u4 u5
  obtain ⟨_, _, _, _, _, _, u0, u1, u2, u3, u4, u5⟩ := six HBX1.out
  go_wp2_with ((go_at_call 33; refine isreg_any.mono ?_; rw [e1]; rintro _ w1 ⟨rfl, rfl⟩))
  refine (held_any).mono ?_
  rw [HH.out]
  rintro _ w2 ⟨rfl, b2⟩
  have HBX2 := hide (below_box b2 HBX1.out)
  have HRS2 := hide (below_box b2 HRS1.out)
  have HBW2 := hide (below_next HBW1.out b2 (by have := HLT.out; have := HSZ1.out; omega))
  have HSZ2 := hide (box_lt HRS2.out)
  clear b2 HBX1 HRS1 HBW1 HSZ1 u0 u1 u2 u3 u4 u5
  obtain ⟨_, _, _, _, _, _, u0, u1, u2, u3, u4, u5⟩ := six HBX2.out
  go_wp2_with fail
  refine (grant_any HKK.out).mono ?_
  rw [HG.out]
  simp only [LE.val, LE.row]
  rintro _ w3 ⟨rfl, b3⟩
  have HBX3 := hide (below_box b3 HBX2.out)
  have HRS3 := hide (below_box b3 HRS2.out)
  have HBW3 := hide (below_next HBW2.out b3 (by have := HLT.out; have := HSZ2.out; omega))
  have HSZ3 := hide (box_lt HRS3.out)
  clear b3 HBX2 HRS2 HBW2 HSZ2 u0 u1 u2 u3 u4 u5
  obtain ⟨f0, f1, f2, f3, f4, f5, r0, r1, r2, r3, r4, r5⟩ := six HRS3.out
  go_wp2
  have hE := heap_set6 HRS3.out (.int .i64 g0) (.int .i64 g1) (.int .i64 g2) (.int .i64 g3) (.int .i64 g4) (.bool g5)
  refine bodyPost_ret (results_cell_three rfl _ _ rB 23 _ _ _ rfl hE Try.underlying23 rfl (by kernel_rfl)) rfl ?_
  refine ⟨by rw [HQ.out]; rfl, ?_⟩
  rw [HBB.out]
  exact HBW3.out.trans ((only_set6 _ rB _ _ _ _ _ _).below (by have := HLT.out; have := HSZ3.out; omega) (fun i e => by have e' : i = rB := e; have := HLT.out; omega))

set_option maxRecDepth 100000 in
set_option maxHeartbeats 2000000 in
theorem acq_6 {W : World} {o la ep ck tl : Int}  {r : Int} (hk : okL ⟨o, la, ep, ck, tl, true⟩) (h1 : 0 ≤ r ∧ r < 2) (h2 : heldC ⟨o, la, ep, ck, tl, true⟩ = false) (h4 : la = r) :
    Calls Try.prog 21 #[.agg #[.int .i64 o, .int .i64 la, .int .i64 ep, .int .i64 ck, .int .i64 tl, .bool true], .int .i64 r] W fun e w' => e = .returned (.tuple #[LE.val (acqC ⟨o, la, ep, ck, tl, true⟩ r).1, .int .i64 (acqC ⟨o, la, ep, ck, tl, true⟩ r).2.1, .int .i64 (acqC ⟨o, la, ep, ck, tl, true⟩ r).2.2]) ∧ Below W.heap.size W w' := by
  obtain ⟨⟨⟨g0, g1, g2, g3, g4, g5⟩, n, x⟩, hg⟩ : ∃ q, grantC ⟨o, la, ep, ck, tl, true⟩ r = q := ⟨_, rfl⟩
  have HQ : Hid (acqC ⟨o, la, ep, ck, tl, true⟩ r = (⟨g0, g1, g2, g3, g4, g5⟩, n, x)) := hide ((if_pos ⟨hk, h1⟩).trans ((if_neg (fun h => by rw [h2] at h; cases h.1)).trans ((if_neg (fun h => h.2 h4)).trans hg)))
  have HC : Hid (chkC ⟨o, la, ep, ck, tl, true⟩ = 0) := hide (chk_yes hk)
  have e1 : regC r = true := reg_yes h1
  have HH : Hid (heldC ⟨o, la, ep, ck, tl, true⟩ = false) := hide h2
  have HG := hide hg
  have HKK := hide hk
  clear hg h2 hk
  have d5 : (la == r) = true := by simp [h4]
  have d6 : (la != r) = false := by simp [h4]
  clear h4
  obtain ⟨V0, hV0⟩ : ∃ V0, V0 = W.alloc (.cells #[.int .i64 o, .int .i64 la, .int .i64 ep, .int .i64 ck, .int .i64 tl, .bool true] 23 (0, 0)) := ⟨_, rfl⟩
  obtain ⟨V, hV⟩ : ∃ V, V = V0.alloc (.cells #[.int .i64 0, .int .i64 0, .int .i64 0, .int .i64 0, .int .i64 0, .bool false] 23 (0, 0)) := ⟨_, rfl⟩
  have bV0 : Below W.heap.size W V0 := by rw [hV0]; exact alloc_below _ _
  have bV1 : Below V0.heap.size V0 V := by rw [hV]; exact alloc_below _ _
  have v0 : V0.heap[W.heap.size]? = some (.cells #[.int .i64 o, .int .i64 la, .int .i64 ep, .int .i64 ck, .int .i64 tl, .bool true] 23 (0, 0)) := by rw [hV0]; exact heap_alloc_new W _
  have v1 : V.heap[V0.heap.size]? = some (.cells #[.int .i64 0, .int .i64 0, .int .i64 0, .int .i64 0, .int .i64 0, .bool false] 23 (0, 0)) := by rw [hV]; exact heap_alloc_new V0 _
  have v2 := below_box bV1 v0
  have hlt := box_lt v0
  have hs0 : V0.heap.size = W.heap.size + 1 := by rw [hV0]; simp
  obtain ⟨bB, hbB⟩ : ∃ bB, W.heap.size = bB := ⟨_, rfl⟩
  obtain ⟨rB, hrB⟩ : ∃ rB, V0.heap.size = rB := ⟨_, rfl⟩
  have hrb : bB + 1 = rB := by omega
  rw [hbB, hrB] at hlt
  rw [hbB] at v2
  rw [hrB] at v1
  have HBW0 : Hid (Below bB W V) := hide (by rw [← hbB]; exact below_next bV0 bV1 bV0.size)
  have HBX0 := hide v2
  have HRS0 := hide v1
  have HBB := hide hbB
  have HLT := hide hlt
  have HSZ0 := hide (box_lt v1)
  clear v0 v1 v2 bV0 bV1
  go_enter Try.func21, Try.ntmps21
  go_upto_region 1 with fail
  try rw [hbB]
  try rw [hrb]
  rw [← hV0, ← hV]
  try rw [hrB]
  clear hV0 hV hbB hrB hs0 hrb hlt
  obtain ⟨_, _, _, _, _, _, u0, u1, u2, u3, u4, u5⟩ := six HBX0.out
  go_wp2_with fail
  refine (check_any).mono ?_
  rw [HC.out]
  rintro _ w1 ⟨rfl, b1⟩
  have HBX1 := hide (below_box b1 HBX0.out)
  have HRS1 := hide (below_box b1 HRS0.out)
  have HBW1 := hide (below_next HBW0.out b1 (by have := HLT.out; have := HSZ0.out; omega))
  have HSZ1 := hide (box_lt HRS1.out)
  clear b1 HBX0 HRS0 HBW0 HSZ0 u0 u1 u2 u3 u4 u5
  obtain ⟨_, _, _, _, _, _, u0, u1, u2, u3, u4, u5⟩ := six HBX1.out
  go_wp2_with ((go_at_call 33; refine isreg_any.mono ?_; rw [e1]; rintro _ w1 ⟨rfl, rfl⟩))
  refine (held_any).mono ?_
  rw [HH.out]
  rintro _ w2 ⟨rfl, b2⟩
  have HBX2 := hide (below_box b2 HBX1.out)
  have HRS2 := hide (below_box b2 HRS1.out)
  have HBW2 := hide (below_next HBW1.out b2 (by have := HLT.out; have := HSZ1.out; omega))
  have HSZ2 := hide (box_lt HRS2.out)
  clear b2 HBX1 HRS1 HBW1 HSZ1 u0 u1 u2 u3 u4 u5
  obtain ⟨_, _, _, _, _, _, u0, u1, u2, u3, u4, u5⟩ := six HBX2.out
  go_wp2_with fail
  refine (grant_any HKK.out).mono ?_
  rw [HG.out]
  simp only [LE.val, LE.row]
  rintro _ w3 ⟨rfl, b3⟩
  have HBX3 := hide (below_box b3 HBX2.out)
  have HRS3 := hide (below_box b3 HRS2.out)
  have HBW3 := hide (below_next HBW2.out b3 (by have := HLT.out; have := HSZ2.out; omega))
  have HSZ3 := hide (box_lt HRS3.out)
  clear b3 HBX2 HRS2 HBW2 HSZ2 u0 u1 u2 u3 u4 u5
  obtain ⟨f0, f1, f2, f3, f4, f5, r0, r1, r2, r3, r4, r5⟩ := six HRS3.out
  go_wp2
  have hE := heap_set6 HRS3.out (.int .i64 g0) (.int .i64 g1) (.int .i64 g2) (.int .i64 g3) (.int .i64 g4) (.bool g5)
  refine bodyPost_ret (results_cell_three rfl _ _ rB 23 _ _ _ rfl hE Try.underlying23 rfl (by kernel_rfl)) rfl ?_
  refine ⟨by rw [HQ.out]; rfl, ?_⟩
  rw [HBB.out]
  exact HBW3.out.trans ((only_set6 _ rB _ _ _ _ _ _).below (by have := HLT.out; have := HSZ3.out; omega) (fun i e => by have e' : i = rB := e; have := HLT.out; omega))

set_option maxRecDepth 100000 in
set_option maxHeartbeats 2000000 in
theorem acq_7 {W : World} {o la ep ck tl : Int}  {r : Int} (hk : okL ⟨o, la, ep, ck, tl, true⟩) (h1 : 0 ≤ r ∧ r < 2) (h2 : heldC ⟨o, la, ep, ck, tl, true⟩ = true) (h3 : o = r) (h4 : la ≠ r) :
    Calls Try.prog 21 #[.agg #[.int .i64 o, .int .i64 la, .int .i64 ep, .int .i64 ck, .int .i64 tl, .bool true], .int .i64 r] W fun e w' => e = .returned (.tuple #[LE.val (acqC ⟨o, la, ep, ck, tl, true⟩ r).1, .int .i64 (acqC ⟨o, la, ep, ck, tl, true⟩ r).2.1, .int .i64 (acqC ⟨o, la, ep, ck, tl, true⟩ r).2.2]) ∧ Below W.heap.size W w' := by
  have HQ : Hid (acqC ⟨o, la, ep, ck, tl, true⟩ r = (⟨o, la, ep, ck, tl, true⟩, 0, 131)) := hide ((if_pos ⟨hk, h1⟩).trans ((if_neg (fun h => h.2 h3)).trans (if_pos ⟨rfl, h4⟩)))
  have HC : Hid (chkC ⟨o, la, ep, ck, tl, true⟩ = 0) := hide (chk_yes hk)
  have e1 : regC r = true := reg_yes h1
  have HH : Hid (heldC ⟨o, la, ep, ck, tl, true⟩ = true) := hide h2
  have d3 : (o == r) = true := by simp [h3]
  have d4 : (o != r) = false := by simp [h3]
  clear h3
  have d5 : (la == r) = false := ne_eqL h4
  have d6 : (la != r) = true := ne_neL h4
  clear h2
  obtain ⟨V0, hV0⟩ : ∃ V0, V0 = W.alloc (.cells #[.int .i64 o, .int .i64 la, .int .i64 ep, .int .i64 ck, .int .i64 tl, .bool true] 23 (0, 0)) := ⟨_, rfl⟩
  obtain ⟨V, hV⟩ : ∃ V, V = V0.alloc (.cells #[.int .i64 0, .int .i64 0, .int .i64 0, .int .i64 0, .int .i64 0, .bool false] 23 (0, 0)) := ⟨_, rfl⟩
  have bV0 : Below W.heap.size W V0 := by rw [hV0]; exact alloc_below _ _
  have bV1 : Below V0.heap.size V0 V := by rw [hV]; exact alloc_below _ _
  have v0 : V0.heap[W.heap.size]? = some (.cells #[.int .i64 o, .int .i64 la, .int .i64 ep, .int .i64 ck, .int .i64 tl, .bool true] 23 (0, 0)) := by rw [hV0]; exact heap_alloc_new W _
  have v1 : V.heap[V0.heap.size]? = some (.cells #[.int .i64 0, .int .i64 0, .int .i64 0, .int .i64 0, .int .i64 0, .bool false] 23 (0, 0)) := by rw [hV]; exact heap_alloc_new V0 _
  have v2 := below_box bV1 v0
  have hlt := box_lt v0
  have hs0 : V0.heap.size = W.heap.size + 1 := by rw [hV0]; simp
  obtain ⟨bB, hbB⟩ : ∃ bB, W.heap.size = bB := ⟨_, rfl⟩
  obtain ⟨rB, hrB⟩ : ∃ rB, V0.heap.size = rB := ⟨_, rfl⟩
  have hrb : bB + 1 = rB := by omega
  rw [hbB, hrB] at hlt
  rw [hbB] at v2
  rw [hrB] at v1
  have HBW0 : Hid (Below bB W V) := hide (by rw [← hbB]; exact below_next bV0 bV1 bV0.size)
  have HBX0 := hide v2
  have HRS0 := hide v1
  have HBB := hide hbB
  have HLT := hide hlt
  have HSZ0 := hide (box_lt v1)
  clear v0 v1 v2 bV0 bV1
  go_enter Try.func21, Try.ntmps21
  go_upto_region 1 with fail
  try rw [hbB]
  try rw [hrb]
  rw [← hV0, ← hV]
  try rw [hrB]
  clear hV0 hV hbB hrB hs0 hrb hlt
  obtain ⟨_, _, _, _, _, _, u0, u1, u2, u3, u4, u5⟩ := six HBX0.out
  go_wp2_with fail
  refine (check_any).mono ?_
  rw [HC.out]
  rintro _ w1 ⟨rfl, b1⟩
  have HBX1 := hide (below_box b1 HBX0.out)
  have HRS1 := hide (below_box b1 HRS0.out)
  have HBW1 := hide (below_next HBW0.out b1 (by have := HLT.out; have := HSZ0.out; omega))
  have HSZ1 := hide (box_lt HRS1.out)
  clear b1 HBX0 HRS0 HBW0 HSZ0 u0 u1 u2 u3 u4 u5
  obtain ⟨_, _, _, _, _, _, u0, u1, u2, u3, u4, u5⟩ := six HBX1.out
  go_wp2_with ((go_at_call 33; refine isreg_any.mono ?_; rw [e1]; rintro _ w1 ⟨rfl, rfl⟩))
  refine (held_any).mono ?_
  rw [HH.out]
  rintro _ w2 ⟨rfl, b2⟩
  have HBX2 := hide (below_box b2 HBX1.out)
  have HRS2 := hide (below_box b2 HRS1.out)
  have HBW2 := hide (below_next HBW1.out b2 (by have := HLT.out; have := HSZ1.out; omega))
  have HSZ2 := hide (box_lt HRS2.out)
  clear b2 HBX1 HRS1 HBW1 HSZ1 u0 u1 u2 u3 u4 u5
  obtain ⟨_, _, _, _, _, _, u0, u1, u2, u3, u4, u5⟩ := six HBX2.out
  obtain ⟨f0, f1, f2, f3, f4, f5, r0, r1, r2, r3, r4, r5⟩ := six HRS2.out
  go_wp2
  have hE := heap_set6 HRS2.out (.int .i64 o) (.int .i64 la) (.int .i64 ep) (.int .i64 ck) (.int .i64 tl) (.bool true)
  refine bodyPost_ret (results_cell_three rfl _ _ rB 23 _ _ _ rfl hE Try.underlying23 rfl (by kernel_rfl)) rfl ?_
  refine ⟨by rw [HQ.out]; rfl, ?_⟩
  rw [HBB.out]
  exact HBW2.out.trans ((only_set6 _ rB _ _ _ _ _ _).below (by have := HLT.out; have := HSZ2.out; omega) (fun i e => by have e' : i = rB := e; have := HLT.out; omega))

set_option maxRecDepth 100000 in
set_option maxHeartbeats 2000000 in
theorem acq_8 {W : World} {o la ep ck tl : Int}  {r : Int} (hk : okL ⟨o, la, ep, ck, tl, false⟩) (h1 : 0 ≤ r ∧ r < 2) (h2 : heldC ⟨o, la, ep, ck, tl, false⟩ = true) (h3 : o = r) :
    Calls Try.prog 21 #[.agg #[.int .i64 o, .int .i64 la, .int .i64 ep, .int .i64 ck, .int .i64 tl, .bool false], .int .i64 r] W fun e w' => e = .returned (.tuple #[LE.val (acqC ⟨o, la, ep, ck, tl, false⟩ r).1, .int .i64 (acqC ⟨o, la, ep, ck, tl, false⟩ r).2.1, .int .i64 (acqC ⟨o, la, ep, ck, tl, false⟩ r).2.2]) ∧ Below W.heap.size W w' := by
  obtain ⟨⟨⟨g0, g1, g2, g3, g4, g5⟩, n, x⟩, hg⟩ : ∃ q, grantC ⟨o, la, ep, ck, tl, false⟩ r = q := ⟨_, rfl⟩
  have HQ : Hid (acqC ⟨o, la, ep, ck, tl, false⟩ r = (⟨g0, g1, g2, g3, g4, g5⟩, n, x)) := hide ((if_pos ⟨hk, h1⟩).trans ((if_neg (fun h => h.2 h3)).trans ((if_neg (fun h => by cases h.1)).trans hg)))
  have HC : Hid (chkC ⟨o, la, ep, ck, tl, false⟩ = 0) := hide (chk_yes hk)
  have e1 : regC r = true := reg_yes h1
  have HH : Hid (heldC ⟨o, la, ep, ck, tl, false⟩ = true) := hide h2
  have d3 : (o == r) = true := by simp [h3]
  have d4 : (o != r) = false := by simp [h3]
  clear h3
  have HG := hide hg
  have HKK := hide hk
  clear hg h2 hk
  obtain ⟨V0, hV0⟩ : ∃ V0, V0 = W.alloc (.cells #[.int .i64 o, .int .i64 la, .int .i64 ep, .int .i64 ck, .int .i64 tl, .bool false] 23 (0, 0)) := ⟨_, rfl⟩
  obtain ⟨V, hV⟩ : ∃ V, V = V0.alloc (.cells #[.int .i64 0, .int .i64 0, .int .i64 0, .int .i64 0, .int .i64 0, .bool false] 23 (0, 0)) := ⟨_, rfl⟩
  have bV0 : Below W.heap.size W V0 := by rw [hV0]; exact alloc_below _ _
  have bV1 : Below V0.heap.size V0 V := by rw [hV]; exact alloc_below _ _
  have v0 : V0.heap[W.heap.size]? = some (.cells #[.int .i64 o, .int .i64 la, .int .i64 ep, .int .i64 ck, .int .i64 tl, .bool false] 23 (0, 0)) := by rw [hV0]; exact heap_alloc_new W _
  have v1 : V.heap[V0.heap.size]? = some (.cells #[.int .i64 0, .int .i64 0, .int .i64 0, .int .i64 0, .int .i64 0, .bool false] 23 (0, 0)) := by rw [hV]; exact heap_alloc_new V0 _
  have v2 := below_box bV1 v0
  have hlt := box_lt v0
  have hs0 : V0.heap.size = W.heap.size + 1 := by rw [hV0]; simp
  obtain ⟨bB, hbB⟩ : ∃ bB, W.heap.size = bB := ⟨_, rfl⟩
  obtain ⟨rB, hrB⟩ : ∃ rB, V0.heap.size = rB := ⟨_, rfl⟩
  have hrb : bB + 1 = rB := by omega
  rw [hbB, hrB] at hlt
  rw [hbB] at v2
  rw [hrB] at v1
  have HBW0 : Hid (Below bB W V) := hide (by rw [← hbB]; exact below_next bV0 bV1 bV0.size)
  have HBX0 := hide v2
  have HRS0 := hide v1
  have HBB := hide hbB
  have HLT := hide hlt
  have HSZ0 := hide (box_lt v1)
  clear v0 v1 v2 bV0 bV1
  go_enter Try.func21, Try.ntmps21
  go_upto_region 1 with fail
  try rw [hbB]
  try rw [hrb]
  rw [← hV0, ← hV]
  try rw [hrB]
  clear hV0 hV hbB hrB hs0 hrb hlt
  obtain ⟨_, _, _, _, _, _, u0, u1, u2, u3, u4, u5⟩ := six HBX0.out
  go_wp2_with fail
  refine (check_any).mono ?_
  rw [HC.out]
  rintro _ w1 ⟨rfl, b1⟩
  have HBX1 := hide (below_box b1 HBX0.out)
  have HRS1 := hide (below_box b1 HRS0.out)
  have HBW1 := hide (below_next HBW0.out b1 (by have := HLT.out; have := HSZ0.out; omega))
  have HSZ1 := hide (box_lt HRS1.out)
  clear b1 HBX0 HRS0 HBW0 HSZ0 u0 u1 u2 u3 u4 u5
  obtain ⟨_, _, _, _, _, _, u0, u1, u2, u3, u4, u5⟩ := six HBX1.out
  go_wp2_with ((go_at_call 33; refine isreg_any.mono ?_; rw [e1]; rintro _ w1 ⟨rfl, rfl⟩))
  refine (held_any).mono ?_
  rw [HH.out]
  rintro _ w2 ⟨rfl, b2⟩
  have HBX2 := hide (below_box b2 HBX1.out)
  have HRS2 := hide (below_box b2 HRS1.out)
  have HBW2 := hide (below_next HBW1.out b2 (by have := HLT.out; have := HSZ1.out; omega))
  have HSZ2 := hide (box_lt HRS2.out)
  clear b2 HBX1 HRS1 HBW1 HSZ1 u0 u1 u2 u3 u4 u5
  obtain ⟨_, _, _, _, _, _, u0, u1, u2, u3, u4, u5⟩ := six HBX2.out
  go_wp2_with fail
  refine (grant_any HKK.out).mono ?_
  rw [HG.out]
  simp only [LE.val, LE.row]
  rintro _ w3 ⟨rfl, b3⟩
  have HBX3 := hide (below_box b3 HBX2.out)
  have HRS3 := hide (below_box b3 HRS2.out)
  have HBW3 := hide (below_next HBW2.out b3 (by have := HLT.out; have := HSZ2.out; omega))
  have HSZ3 := hide (box_lt HRS3.out)
  clear b3 HBX2 HRS2 HBW2 HSZ2 u0 u1 u2 u3 u4 u5
  obtain ⟨f0, f1, f2, f3, f4, f5, r0, r1, r2, r3, r4, r5⟩ := six HRS3.out
  go_wp2
  have hE := heap_set6 HRS3.out (.int .i64 g0) (.int .i64 g1) (.int .i64 g2) (.int .i64 g3) (.int .i64 g4) (.bool g5)
  refine bodyPost_ret (results_cell_three rfl _ _ rB 23 _ _ _ rfl hE Try.underlying23 rfl (by kernel_rfl)) rfl ?_
  refine ⟨by rw [HQ.out]; rfl, ?_⟩
  rw [HBB.out]
  exact HBW3.out.trans ((only_set6 _ rB _ _ _ _ _ _).below (by have := HLT.out; have := HSZ3.out; omega) (fun i e => by have e' : i = rB := e; have := HLT.out; omega))

set_option maxRecDepth 100000 in
set_option maxHeartbeats 2000000 in
theorem acq_9 {W : World} {o la ep ck tl : Int}  {r : Int} (hk : okL ⟨o, la, ep, ck, tl, true⟩) (h1 : 0 ≤ r ∧ r < 2) (h2 : heldC ⟨o, la, ep, ck, tl, true⟩ = true) (h3 : o = r) (h4 : la = r) :
    Calls Try.prog 21 #[.agg #[.int .i64 o, .int .i64 la, .int .i64 ep, .int .i64 ck, .int .i64 tl, .bool true], .int .i64 r] W fun e w' => e = .returned (.tuple #[LE.val (acqC ⟨o, la, ep, ck, tl, true⟩ r).1, .int .i64 (acqC ⟨o, la, ep, ck, tl, true⟩ r).2.1, .int .i64 (acqC ⟨o, la, ep, ck, tl, true⟩ r).2.2]) ∧ Below W.heap.size W w' := by
  obtain ⟨⟨⟨g0, g1, g2, g3, g4, g5⟩, n, x⟩, hg⟩ : ∃ q, grantC ⟨o, la, ep, ck, tl, true⟩ r = q := ⟨_, rfl⟩
  have HQ : Hid (acqC ⟨o, la, ep, ck, tl, true⟩ r = (⟨g0, g1, g2, g3, g4, g5⟩, n, x)) := hide ((if_pos ⟨hk, h1⟩).trans ((if_neg (fun h => h.2 h3)).trans ((if_neg (fun h => h.2 h4)).trans hg)))
  have HC : Hid (chkC ⟨o, la, ep, ck, tl, true⟩ = 0) := hide (chk_yes hk)
  have e1 : regC r = true := reg_yes h1
  have HH : Hid (heldC ⟨o, la, ep, ck, tl, true⟩ = true) := hide h2
  have d3 : (o == r) = true := by simp [h3]
  have d4 : (o != r) = false := by simp [h3]
  clear h3
  have HG := hide hg
  have HKK := hide hk
  clear hg h2 hk
  have d5 : (la == r) = true := by simp [h4]
  have d6 : (la != r) = false := by simp [h4]
  clear h4
  obtain ⟨V0, hV0⟩ : ∃ V0, V0 = W.alloc (.cells #[.int .i64 o, .int .i64 la, .int .i64 ep, .int .i64 ck, .int .i64 tl, .bool true] 23 (0, 0)) := ⟨_, rfl⟩
  obtain ⟨V, hV⟩ : ∃ V, V = V0.alloc (.cells #[.int .i64 0, .int .i64 0, .int .i64 0, .int .i64 0, .int .i64 0, .bool false] 23 (0, 0)) := ⟨_, rfl⟩
  have bV0 : Below W.heap.size W V0 := by rw [hV0]; exact alloc_below _ _
  have bV1 : Below V0.heap.size V0 V := by rw [hV]; exact alloc_below _ _
  have v0 : V0.heap[W.heap.size]? = some (.cells #[.int .i64 o, .int .i64 la, .int .i64 ep, .int .i64 ck, .int .i64 tl, .bool true] 23 (0, 0)) := by rw [hV0]; exact heap_alloc_new W _
  have v1 : V.heap[V0.heap.size]? = some (.cells #[.int .i64 0, .int .i64 0, .int .i64 0, .int .i64 0, .int .i64 0, .bool false] 23 (0, 0)) := by rw [hV]; exact heap_alloc_new V0 _
  have v2 := below_box bV1 v0
  have hlt := box_lt v0
  have hs0 : V0.heap.size = W.heap.size + 1 := by rw [hV0]; simp
  obtain ⟨bB, hbB⟩ : ∃ bB, W.heap.size = bB := ⟨_, rfl⟩
  obtain ⟨rB, hrB⟩ : ∃ rB, V0.heap.size = rB := ⟨_, rfl⟩
  have hrb : bB + 1 = rB := by omega
  rw [hbB, hrB] at hlt
  rw [hbB] at v2
  rw [hrB] at v1
  have HBW0 : Hid (Below bB W V) := hide (by rw [← hbB]; exact below_next bV0 bV1 bV0.size)
  have HBX0 := hide v2
  have HRS0 := hide v1
  have HBB := hide hbB
  have HLT := hide hlt
  have HSZ0 := hide (box_lt v1)
  clear v0 v1 v2 bV0 bV1
  go_enter Try.func21, Try.ntmps21
  go_upto_region 1 with fail
  try rw [hbB]
  try rw [hrb]
  rw [← hV0, ← hV]
  try rw [hrB]
  clear hV0 hV hbB hrB hs0 hrb hlt
  obtain ⟨_, _, _, _, _, _, u0, u1, u2, u3, u4, u5⟩ := six HBX0.out
  go_wp2_with fail
  refine (check_any).mono ?_
  rw [HC.out]
  rintro _ w1 ⟨rfl, b1⟩
  have HBX1 := hide (below_box b1 HBX0.out)
  have HRS1 := hide (below_box b1 HRS0.out)
  have HBW1 := hide (below_next HBW0.out b1 (by have := HLT.out; have := HSZ0.out; omega))
  have HSZ1 := hide (box_lt HRS1.out)
  clear b1 HBX0 HRS0 HBW0 HSZ0 u0 u1 u2 u3 u4 u5
  obtain ⟨_, _, _, _, _, _, u0, u1, u2, u3, u4, u5⟩ := six HBX1.out
  go_wp2_with ((go_at_call 33; refine isreg_any.mono ?_; rw [e1]; rintro _ w1 ⟨rfl, rfl⟩))
  refine (held_any).mono ?_
  rw [HH.out]
  rintro _ w2 ⟨rfl, b2⟩
  have HBX2 := hide (below_box b2 HBX1.out)
  have HRS2 := hide (below_box b2 HRS1.out)
  have HBW2 := hide (below_next HBW1.out b2 (by have := HLT.out; have := HSZ1.out; omega))
  have HSZ2 := hide (box_lt HRS2.out)
  clear b2 HBX1 HRS1 HBW1 HSZ1 u0 u1 u2 u3 u4 u5
  obtain ⟨_, _, _, _, _, _, u0, u1, u2, u3, u4, u5⟩ := six HBX2.out
  go_wp2_with fail
  refine (grant_any HKK.out).mono ?_
  rw [HG.out]
  simp only [LE.val, LE.row]
  rintro _ w3 ⟨rfl, b3⟩
  have HBX3 := hide (below_box b3 HBX2.out)
  have HRS3 := hide (below_box b3 HRS2.out)
  have HBW3 := hide (below_next HBW2.out b3 (by have := HLT.out; have := HSZ2.out; omega))
  have HSZ3 := hide (box_lt HRS3.out)
  clear b3 HBX2 HRS2 HBW2 HSZ2 u0 u1 u2 u3 u4 u5
  obtain ⟨f0, f1, f2, f3, f4, f5, r0, r1, r2, r3, r4, r5⟩ := six HRS3.out
  go_wp2
  have hE := heap_set6 HRS3.out (.int .i64 g0) (.int .i64 g1) (.int .i64 g2) (.int .i64 g3) (.int .i64 g4) (.bool g5)
  refine bodyPost_ret (results_cell_three rfl _ _ rB 23 _ _ _ rfl hE Try.underlying23 rfl (by kernel_rfl)) rfl ?_
  refine ⟨by rw [HQ.out]; rfl, ?_⟩
  rw [HBB.out]
  exact HBW3.out.trans ((only_set6 _ rB _ _ _ _ _ _).below (by have := HLT.out; have := HSZ3.out; omega) (fun i e => by have e' : i = rB := e; have := HLT.out; omega))

theorem acquire_any {W : World} {o la ep ck tl : Int} {so : Bool} {r : Int} : Calls Try.prog 21 #[.agg #[.int .i64 o, .int .i64 la, .int .i64 ep, .int .i64 ck, .int .i64 tl, .bool so], .int .i64 r] W fun e w' => e = .returned (.tuple #[LE.val (acqC ⟨o, la, ep, ck, tl, so⟩ r).1, .int .i64 (acqC ⟨o, la, ep, ck, tl, so⟩ r).2.1, .int .i64 (acqC ⟨o, la, ep, ck, tl, so⟩ r).2.2]) ∧ Below W.heap.size W w' := by
  by_cases hk : okL ⟨o, la, ep, ck, tl, so⟩
  · by_cases h1 : 0 ≤ r ∧ r < 2
    · cases h2 : heldC ⟨o, la, ep, ck, tl, so⟩ with
      | true =>
        by_cases h3 : o = r
        · cases so with
          | false => exact acq_8 hk h1 h2 h3
          | true =>
            by_cases h4 : la = r
            · exact acq_9 hk h1 h2 h3 h4
            · exact acq_7 hk h1 h2 h3 h4
        · exact acq_3 hk h1 h2 h3
      | false =>
        cases so with
        | false => exact acq_5 hk h1 h2
        | true =>
          by_cases h4 : la = r
          · exact acq_6 hk h1 h2 h4
          · exact acq_4 hk h1 h2 h4
    · exact acq_2 hk h1
  · exact acq_1 hk
set_option maxRecDepth 100000 in
set_option maxHeartbeats 2000000 in
theorem trans_1 {W : World} {o la ep ck tl : Int} {so : Bool} {r p t : Int} (h1 : ¬ (0 ≤ t ∧ t < 2)) :
    Calls Try.prog 25 #[.agg #[.int .i64 o, .int .i64 la, .int .i64 ep, .int .i64 ck, .int .i64 tl, .bool so], .int .i64 r, .int .i64 p, .int .i64 t] W fun e w' => e = .returned (.tuple #[LE.val (transC ⟨o, la, ep, ck, tl, so⟩ r p t).1, .int .i64 (transC ⟨o, la, ep, ck, tl, so⟩ r p t).2.1, .int .i64 (transC ⟨o, la, ep, ck, tl, so⟩ r p t).2.2]) ∧ Below W.heap.size W w' := by
  have HQ : Hid (transC ⟨o, la, ep, ck, tl, so⟩ r p t = (⟨o, la, ep, ck, tl, so⟩, 0, 1)) := hide (if_neg (fun h => h1 h.1))
  have e1 : regC t = false := reg_no h1
  obtain ⟨V0, hV0⟩ : ∃ V0, V0 = W.alloc (.cells #[.int .i64 o, .int .i64 la, .int .i64 ep, .int .i64 ck, .int .i64 tl, .bool so] 23 (0, 0)) := ⟨_, rfl⟩
  obtain ⟨V, hV⟩ : ∃ V, V = V0.alloc (.cells #[.int .i64 0, .int .i64 0, .int .i64 0, .int .i64 0, .int .i64 0, .bool false] 23 (0, 0)) := ⟨_, rfl⟩
  have bV0 : Below W.heap.size W V0 := by rw [hV0]; exact alloc_below _ _
  have bV1 : Below V0.heap.size V0 V := by rw [hV]; exact alloc_below _ _
  have v0 : V0.heap[W.heap.size]? = some (.cells #[.int .i64 o, .int .i64 la, .int .i64 ep, .int .i64 ck, .int .i64 tl, .bool so] 23 (0, 0)) := by rw [hV0]; exact heap_alloc_new W _
  have v1 : V.heap[V0.heap.size]? = some (.cells #[.int .i64 0, .int .i64 0, .int .i64 0, .int .i64 0, .int .i64 0, .bool false] 23 (0, 0)) := by rw [hV]; exact heap_alloc_new V0 _
  have v2 := below_box bV1 v0
  have hlt := box_lt v0
  have hs0 : V0.heap.size = W.heap.size + 1 := by rw [hV0]; simp
  obtain ⟨bB, hbB⟩ : ∃ bB, W.heap.size = bB := ⟨_, rfl⟩
  obtain ⟨rB, hrB⟩ : ∃ rB, V0.heap.size = rB := ⟨_, rfl⟩
  have hrb : bB + 1 = rB := by omega
  rw [hbB, hrB] at hlt
  rw [hbB] at v2
  rw [hrB] at v1
  have HBW0 : Hid (Below bB W V) := hide (by rw [← hbB]; exact below_next bV0 bV1 bV0.size)
  have HBX0 := hide v2
  have HRS0 := hide v1
  have HBB := hide hbB
  have HLT := hide hlt
  have HSZ0 := hide (box_lt v1)
  clear v0 v1 v2 bV0 bV1
  go_enter Try.func25, Try.ntmps25
  go_upto_region 1 with fail
  try rw [hbB]
  try rw [hrb]
  rw [← hV0, ← hV]
  try rw [hrB]
  clear hV0 hV hbB hrB hs0 hrb hlt
  obtain ⟨_, _, _, _, _, _, u0, u1, u2, u3, u4, u5⟩ := six HBX0.out
  go_upto_region 2 with ((go_at_call 33; refine isreg_any.mono ?_; rw [e1]; rintro _ V ⟨rfl, rfl⟩))
  obtain ⟨f0, f1, f2, f3, f4, f5, r0, r1, r2, r3, r4, r5⟩ := six HRS0.out
  go_wp2
  have hE := heap_set6 HRS0.out (.int .i64 o) (.int .i64 la) (.int .i64 ep) (.int .i64 ck) (.int .i64 tl) (.bool so)
  refine bodyPost_ret (results_cell_three rfl _ _ rB 23 _ _ _ rfl hE Try.underlying23 rfl (by kernel_rfl)) rfl ?_
  refine ⟨by rw [HQ.out]; rfl, ?_⟩
  rw [HBB.out]
  exact HBW0.out.trans ((only_set6 _ rB _ _ _ _ _ _).below (by have := HLT.out; have := HSZ0.out; omega) (fun i e => by have e' : i = rB := e; have := HLT.out; omega))

set_option maxRecDepth 100000 in
set_option maxHeartbeats 2000000 in
theorem trans_2 {W : World} {o la ep ck tl : Int} {so : Bool} {r p t : Int} (h1 : 0 ≤ t ∧ t < 2) (h2 : t = r) :
    Calls Try.prog 25 #[.agg #[.int .i64 o, .int .i64 la, .int .i64 ep, .int .i64 ck, .int .i64 tl, .bool so], .int .i64 r, .int .i64 p, .int .i64 t] W fun e w' => e = .returned (.tuple #[LE.val (transC ⟨o, la, ep, ck, tl, so⟩ r p t).1, .int .i64 (transC ⟨o, la, ep, ck, tl, so⟩ r p t).2.1, .int .i64 (transC ⟨o, la, ep, ck, tl, so⟩ r p t).2.2]) ∧ Below W.heap.size W w' := by
  have HQ : Hid (transC ⟨o, la, ep, ck, tl, so⟩ r p t = (⟨o, la, ep, ck, tl, so⟩, 0, 1)) := hide (if_neg (fun h => h.2 h2))
  have e1 : regC t = true := reg_yes h1
  have d3 : (t == r) = true := by simp [h2]
  obtain ⟨V0, hV0⟩ : ∃ V0, V0 = W.alloc (.cells #[.int .i64 o, .int .i64 la, .int .i64 ep, .int .i64 ck, .int .i64 tl, .bool so] 23 (0, 0)) := ⟨_, rfl⟩
  obtain ⟨V, hV⟩ : ∃ V, V = V0.alloc (.cells #[.int .i64 0, .int .i64 0, .int .i64 0, .int .i64 0, .int .i64 0, .bool false] 23 (0, 0)) := ⟨_, rfl⟩
  have bV0 : Below W.heap.size W V0 := by rw [hV0]; exact alloc_below _ _
  have bV1 : Below V0.heap.size V0 V := by rw [hV]; exact alloc_below _ _
  have v0 : V0.heap[W.heap.size]? = some (.cells #[.int .i64 o, .int .i64 la, .int .i64 ep, .int .i64 ck, .int .i64 tl, .bool so] 23 (0, 0)) := by rw [hV0]; exact heap_alloc_new W _
  have v1 : V.heap[V0.heap.size]? = some (.cells #[.int .i64 0, .int .i64 0, .int .i64 0, .int .i64 0, .int .i64 0, .bool false] 23 (0, 0)) := by rw [hV]; exact heap_alloc_new V0 _
  have v2 := below_box bV1 v0
  have hlt := box_lt v0
  have hs0 : V0.heap.size = W.heap.size + 1 := by rw [hV0]; simp
  obtain ⟨bB, hbB⟩ : ∃ bB, W.heap.size = bB := ⟨_, rfl⟩
  obtain ⟨rB, hrB⟩ : ∃ rB, V0.heap.size = rB := ⟨_, rfl⟩
  have hrb : bB + 1 = rB := by omega
  rw [hbB, hrB] at hlt
  rw [hbB] at v2
  rw [hrB] at v1
  have HBW0 : Hid (Below bB W V) := hide (by rw [← hbB]; exact below_next bV0 bV1 bV0.size)
  have HBX0 := hide v2
  have HRS0 := hide v1
  have HBB := hide hbB
  have HLT := hide hlt
  have HSZ0 := hide (box_lt v1)
  clear v0 v1 v2 bV0 bV1
  go_enter Try.func25, Try.ntmps25
  go_upto_region 1 with fail
  try rw [hbB]
  try rw [hrb]
  rw [← hV0, ← hV]
  try rw [hrB]
  clear hV0 hV hbB hrB hs0 hrb hlt
  obtain ⟨_, _, _, _, _, _, u0, u1, u2, u3, u4, u5⟩ := six HBX0.out
  go_upto_region 2 with ((go_at_call 33; refine isreg_any.mono ?_; rw [e1]; rintro _ V ⟨rfl, rfl⟩))
  obtain ⟨f0, f1, f2, f3, f4, f5, r0, r1, r2, r3, r4, r5⟩ := six HRS0.out
  go_wp2
  have hE := heap_set6 HRS0.out (.int .i64 o) (.int .i64 la) (.int .i64 ep) (.int .i64 ck) (.int .i64 tl) (.bool so)
  refine bodyPost_ret (results_cell_three rfl _ _ rB 23 _ _ _ rfl hE Try.underlying23 rfl (by kernel_rfl)) rfl ?_
  refine ⟨by rw [HQ.out]; rfl, ?_⟩
  rw [HBB.out]
  exact HBW0.out.trans ((only_set6 _ rB _ _ _ _ _ _).below (by have := HLT.out; have := HSZ0.out; omega) (fun i e => by have e' : i = rB := e; have := HLT.out; omega))

set_option maxRecDepth 100000 in
set_option maxHeartbeats 2000000 in
theorem trans_3 {W : World} {o la ep ck tl : Int} {so : Bool} {r p t : Int} (h1 : 0 ≤ t ∧ t < 2) (h2 : t ≠ r) (hc : claimC ⟨o, la, ep, ck, tl, so⟩ r p ≠ 0) :
    Calls Try.prog 25 #[.agg #[.int .i64 o, .int .i64 la, .int .i64 ep, .int .i64 ck, .int .i64 tl, .bool so], .int .i64 r, .int .i64 p, .int .i64 t] W fun e w' => e = .returned (.tuple #[LE.val (transC ⟨o, la, ep, ck, tl, so⟩ r p t).1, .int .i64 (transC ⟨o, la, ep, ck, tl, so⟩ r p t).2.1, .int .i64 (transC ⟨o, la, ep, ck, tl, so⟩ r p t).2.2]) ∧ Below W.heap.size W w' := by
  obtain ⟨c, hcc⟩ : ∃ c, claimC ⟨o, la, ep, ck, tl, so⟩ r p = c := ⟨_, rfl⟩
  have HQ : Hid (transC ⟨o, la, ep, ck, tl, so⟩ r p t = (⟨o, la, ep, ck, tl, so⟩, 0, c)) := hide ((if_pos ⟨h1, h2⟩).trans ((if_neg hc).trans (by rw [hcc])))
  rw [hcc] at hc
  have HC := hide hcc
  have d1 : (c == 0) = false := ne_eqL hc
  have d2 : (c != 0) = true := ne_neL hc
  clear hcc hc
  have e1 : regC t = true := reg_yes h1
  have d3 : (t == r) = false := ne_eqL h2
  obtain ⟨V0, hV0⟩ : ∃ V0, V0 = W.alloc (.cells #[.int .i64 o, .int .i64 la, .int .i64 ep, .int .i64 ck, .int .i64 tl, .bool so] 23 (0, 0)) := ⟨_, rfl⟩
  obtain ⟨V, hV⟩ : ∃ V, V = V0.alloc (.cells #[.int .i64 0, .int .i64 0, .int .i64 0, .int .i64 0, .int .i64 0, .bool false] 23 (0, 0)) := ⟨_, rfl⟩
  have bV0 : Below W.heap.size W V0 := by rw [hV0]; exact alloc_below _ _
  have bV1 : Below V0.heap.size V0 V := by rw [hV]; exact alloc_below _ _
  have v0 : V0.heap[W.heap.size]? = some (.cells #[.int .i64 o, .int .i64 la, .int .i64 ep, .int .i64 ck, .int .i64 tl, .bool so] 23 (0, 0)) := by rw [hV0]; exact heap_alloc_new W _
  have v1 : V.heap[V0.heap.size]? = some (.cells #[.int .i64 0, .int .i64 0, .int .i64 0, .int .i64 0, .int .i64 0, .bool false] 23 (0, 0)) := by rw [hV]; exact heap_alloc_new V0 _
  have v2 := below_box bV1 v0
  have hlt := box_lt v0
  have hs0 : V0.heap.size = W.heap.size + 1 := by rw [hV0]; simp
  obtain ⟨bB, hbB⟩ : ∃ bB, W.heap.size = bB := ⟨_, rfl⟩
  obtain ⟨rB, hrB⟩ : ∃ rB, V0.heap.size = rB := ⟨_, rfl⟩
  have hrb : bB + 1 = rB := by omega
  rw [hbB, hrB] at hlt
  rw [hbB] at v2
  rw [hrB] at v1
  have HBW0 : Hid (Below bB W V) := hide (by rw [← hbB]; exact below_next bV0 bV1 bV0.size)
  have HBX0 := hide v2
  have HRS0 := hide v1
  have HBB := hide hbB
  have HLT := hide hlt
  have HSZ0 := hide (box_lt v1)
  clear v0 v1 v2 bV0 bV1
  go_enter Try.func25, Try.ntmps25
  go_upto_region 1 with fail
  try rw [hbB]
  try rw [hrb]
  rw [← hV0, ← hV]
  try rw [hrB]
  clear hV0 hV hbB hrB hs0 hrb hlt
  obtain ⟨_, _, _, _, _, _, u0, u1, u2, u3, u4, u5⟩ := six HBX0.out
  go_wp2_with ((go_at_call 33; refine isreg_any.mono ?_; rw [e1]; rintro _ V ⟨rfl, rfl⟩))
  refine (claim_any).mono ?_
  rw [HC.out]
  rintro _ w1 ⟨rfl, b1⟩
  have HBX1 := hide (below_box b1 HBX0.out)
  have HRS1 := hide (below_box b1 HRS0.out)
  have HBW1 := hide (below_next HBW0.out b1 (by have := HLT.out; have := HSZ0.out; omega))
  have HSZ1 := hide (box_lt HRS1.out)
  clear b1 HBX0 HRS0 HBW0 HSZ0 u0 u1 u2 u3 u4 u5
  obtain ⟨_, _, _, _, _, _, u0, u1, u2, u3, u4, u5⟩ := six HBX1.out
  obtain ⟨f0, f1, f2, f3, f4, f5, r0, r1, r2, r3, r4, r5⟩ := six HRS1.out
  go_wp2
  have hE := heap_set6 HRS1.out (.int .i64 o) (.int .i64 la) (.int .i64 ep) (.int .i64 ck) (.int .i64 tl) (.bool so)
  refine bodyPost_ret (results_cell_three rfl _ _ rB 23 _ _ _ rfl hE Try.underlying23 rfl (by kernel_rfl)) rfl ?_
  refine ⟨by rw [HQ.out]; rfl, ?_⟩
  rw [HBB.out]
  exact HBW1.out.trans ((only_set6 _ rB _ _ _ _ _ _).below (by have := HLT.out; have := HSZ1.out; omega) (fun i e => by have e' : i = rB := e; have := HLT.out; omega))

set_option maxRecDepth 100000 in
set_option maxHeartbeats 2000000 in
theorem trans_4 {W : World} {o la ep ck tl : Int}  {r p t : Int} (h1 : 0 ≤ t ∧ t < 2) (h2 : t ≠ r) (hc : claimC ⟨o, la, ep, ck, tl, true⟩ r p = 0) :
    Calls Try.prog 25 #[.agg #[.int .i64 o, .int .i64 la, .int .i64 ep, .int .i64 ck, .int .i64 tl, .bool true], .int .i64 r, .int .i64 p, .int .i64 t] W fun e w' => e = .returned (.tuple #[LE.val (transC ⟨o, la, ep, ck, tl, true⟩ r p t).1, .int .i64 (transC ⟨o, la, ep, ck, tl, true⟩ r p t).2.1, .int .i64 (transC ⟨o, la, ep, ck, tl, true⟩ r p t).2.2]) ∧ Below W.heap.size W w' := by
  have HQ : Hid (transC ⟨o, la, ep, ck, tl, true⟩ r p t = (⟨o, la, ep, ck, tl, true⟩, 0, 131)) := hide ((if_pos ⟨h1, h2⟩).trans ((if_pos hc).trans (if_pos rfl)))
  have HC := hide hc
  clear hc
  have e1 : regC t = true := reg_yes h1
  have d3 : (t == r) = false := ne_eqL h2
  obtain ⟨V0, hV0⟩ : ∃ V0, V0 = W.alloc (.cells #[.int .i64 o, .int .i64 la, .int .i64 ep, .int .i64 ck, .int .i64 tl, .bool true] 23 (0, 0)) := ⟨_, rfl⟩
  obtain ⟨V, hV⟩ : ∃ V, V = V0.alloc (.cells #[.int .i64 0, .int .i64 0, .int .i64 0, .int .i64 0, .int .i64 0, .bool false] 23 (0, 0)) := ⟨_, rfl⟩
  have bV0 : Below W.heap.size W V0 := by rw [hV0]; exact alloc_below _ _
  have bV1 : Below V0.heap.size V0 V := by rw [hV]; exact alloc_below _ _
  have v0 : V0.heap[W.heap.size]? = some (.cells #[.int .i64 o, .int .i64 la, .int .i64 ep, .int .i64 ck, .int .i64 tl, .bool true] 23 (0, 0)) := by rw [hV0]; exact heap_alloc_new W _
  have v1 : V.heap[V0.heap.size]? = some (.cells #[.int .i64 0, .int .i64 0, .int .i64 0, .int .i64 0, .int .i64 0, .bool false] 23 (0, 0)) := by rw [hV]; exact heap_alloc_new V0 _
  have v2 := below_box bV1 v0
  have hlt := box_lt v0
  have hs0 : V0.heap.size = W.heap.size + 1 := by rw [hV0]; simp
  obtain ⟨bB, hbB⟩ : ∃ bB, W.heap.size = bB := ⟨_, rfl⟩
  obtain ⟨rB, hrB⟩ : ∃ rB, V0.heap.size = rB := ⟨_, rfl⟩
  have hrb : bB + 1 = rB := by omega
  rw [hbB, hrB] at hlt
  rw [hbB] at v2
  rw [hrB] at v1
  have HBW0 : Hid (Below bB W V) := hide (by rw [← hbB]; exact below_next bV0 bV1 bV0.size)
  have HBX0 := hide v2
  have HRS0 := hide v1
  have HBB := hide hbB
  have HLT := hide hlt
  have HSZ0 := hide (box_lt v1)
  clear v0 v1 v2 bV0 bV1
  go_enter Try.func25, Try.ntmps25
  go_upto_region 1 with fail
  try rw [hbB]
  try rw [hrb]
  rw [← hV0, ← hV]
  try rw [hrB]
  clear hV0 hV hbB hrB hs0 hrb hlt
  obtain ⟨_, _, _, _, _, _, u0, u1, u2, u3, u4, u5⟩ := six HBX0.out
  go_wp2_with ((go_at_call 33; refine isreg_any.mono ?_; rw [e1]; rintro _ V ⟨rfl, rfl⟩))
  refine (claim_any).mono ?_
  rw [HC.out]
  rintro _ w1 ⟨rfl, b1⟩
  have HBX1 := hide (below_box b1 HBX0.out)
  have HRS1 := hide (below_box b1 HRS0.out)
  have HBW1 := hide (below_next HBW0.out b1 (by have := HLT.out; have := HSZ0.out; omega))
  have HSZ1 := hide (box_lt HRS1.out)
  clear b1 HBX0 HRS0 HBW0 HSZ0 u0 u1 u2 u3 u4 u5
  obtain ⟨_, _, _, _, _, _, u0, u1, u2, u3, u4, u5⟩ := six HBX1.out
  obtain ⟨f0, f1, f2, f3, f4, f5, r0, r1, r2, r3, r4, r5⟩ := six HRS1.out
  go_wp2
  have hE := heap_set6 HRS1.out (.int .i64 o) (.int .i64 la) (.int .i64 ep) (.int .i64 ck) (.int .i64 tl) (.bool true)
  refine bodyPost_ret (results_cell_three rfl _ _ rB 23 _ _ _ rfl hE Try.underlying23 rfl (by kernel_rfl)) rfl ?_
  refine ⟨by rw [HQ.out]; rfl, ?_⟩
  rw [HBB.out]
  exact HBW1.out.trans ((only_set6 _ rB _ _ _ _ _ _).below (by have := HLT.out; have := HSZ1.out; omega) (fun i e => by have e' : i = rB := e; have := HLT.out; omega))

set_option maxRecDepth 100000 in
set_option maxHeartbeats 2000000 in
theorem trans_5 {W : World} {o la ep ck tl : Int}  {r p t : Int} (h1 : 0 ≤ t ∧ t < 2) (h2 : t ≠ r) (hc : claimC ⟨o, la, ep, ck, tl, false⟩ r p = 0) :
    Calls Try.prog 25 #[.agg #[.int .i64 o, .int .i64 la, .int .i64 ep, .int .i64 ck, .int .i64 tl, .bool false], .int .i64 r, .int .i64 p, .int .i64 t] W fun e w' => e = .returned (.tuple #[LE.val (transC ⟨o, la, ep, ck, tl, false⟩ r p t).1, .int .i64 (transC ⟨o, la, ep, ck, tl, false⟩ r p t).2.1, .int .i64 (transC ⟨o, la, ep, ck, tl, false⟩ r p t).2.2]) ∧ Below W.heap.size W w' := by
  obtain ⟨⟨⟨g0, g1, g2, g3, g4, g5⟩, n, x⟩, hg⟩ : ∃ q, grantC ⟨o, la, ep, ck, tl, false⟩ t = q := ⟨_, rfl⟩
  have HQ : Hid (transC ⟨o, la, ep, ck, tl, false⟩ r p t = (⟨g0, g1, g2, g3, g4, g5⟩, n, x)) := hide ((if_pos ⟨h1, h2⟩).trans ((if_pos hc).trans ((if_neg (by simp)).trans hg)))
  have HC := hide hc
  have HG := hide hg
  have HKK := hide (claim_ok hc).1
  clear hc hg
  have e1 : regC t = true := reg_yes h1
  have d3 : (t == r) = false := ne_eqL h2
  obtain ⟨V0, hV0⟩ : ∃ V0, V0 = W.alloc (.cells #[.int .i64 o, .int .i64 la, .int .i64 ep, .int .i64 ck, .int .i64 tl, .bool false] 23 (0, 0)) := ⟨_, rfl⟩
  obtain ⟨V, hV⟩ : ∃ V, V = V0.alloc (.cells #[.int .i64 0, .int .i64 0, .int .i64 0, .int .i64 0, .int .i64 0, .bool false] 23 (0, 0)) := ⟨_, rfl⟩
  have bV0 : Below W.heap.size W V0 := by rw [hV0]; exact alloc_below _ _
  have bV1 : Below V0.heap.size V0 V := by rw [hV]; exact alloc_below _ _
  have v0 : V0.heap[W.heap.size]? = some (.cells #[.int .i64 o, .int .i64 la, .int .i64 ep, .int .i64 ck, .int .i64 tl, .bool false] 23 (0, 0)) := by rw [hV0]; exact heap_alloc_new W _
  have v1 : V.heap[V0.heap.size]? = some (.cells #[.int .i64 0, .int .i64 0, .int .i64 0, .int .i64 0, .int .i64 0, .bool false] 23 (0, 0)) := by rw [hV]; exact heap_alloc_new V0 _
  have v2 := below_box bV1 v0
  have hlt := box_lt v0
  have hs0 : V0.heap.size = W.heap.size + 1 := by rw [hV0]; simp
  obtain ⟨bB, hbB⟩ : ∃ bB, W.heap.size = bB := ⟨_, rfl⟩
  obtain ⟨rB, hrB⟩ : ∃ rB, V0.heap.size = rB := ⟨_, rfl⟩
  have hrb : bB + 1 = rB := by omega
  rw [hbB, hrB] at hlt
  rw [hbB] at v2
  rw [hrB] at v1
  have HBW0 : Hid (Below bB W V) := hide (by rw [← hbB]; exact below_next bV0 bV1 bV0.size)
  have HBX0 := hide v2
  have HRS0 := hide v1
  have HBB := hide hbB
  have HLT := hide hlt
  have HSZ0 := hide (box_lt v1)
  clear v0 v1 v2 bV0 bV1
  go_enter Try.func25, Try.ntmps25
  go_upto_region 1 with fail
  try rw [hbB]
  try rw [hrb]
  rw [← hV0, ← hV]
  try rw [hrB]
  clear hV0 hV hbB hrB hs0 hrb hlt
  obtain ⟨_, _, _, _, _, _, u0, u1, u2, u3, u4, u5⟩ := six HBX0.out
  go_wp2_with ((go_at_call 33; refine isreg_any.mono ?_; rw [e1]; rintro _ V ⟨rfl, rfl⟩))
  refine (claim_any).mono ?_
  rw [HC.out]
  rintro _ w1 ⟨rfl, b1⟩
  have HBX1 := hide (below_box b1 HBX0.out)
  have HRS1 := hide (below_box b1 HRS0.out)
  have HBW1 := hide (below_next HBW0.out b1 (by have := HLT.out; have := HSZ0.out; omega))
  have HSZ1 := hide (box_lt HRS1.out)
  clear b1 HBX0 HRS0 HBW0 HSZ0 u0 u1 u2 u3 u4 u5
  obtain ⟨_, _, _, _, _, _, u0, u1, u2, u3, u4, u5⟩ := six HBX1.out
  go_wp2_with fail
  refine (grant_any HKK.out).mono ?_
  rw [HG.out]
  simp only [LE.val, LE.row]
  rintro _ w2 ⟨rfl, b2⟩
  have HBX2 := hide (below_box b2 HBX1.out)
  have HRS2 := hide (below_box b2 HRS1.out)
  have HBW2 := hide (below_next HBW1.out b2 (by have := HLT.out; have := HSZ1.out; omega))
  have HSZ2 := hide (box_lt HRS2.out)
  clear b2 HBX1 HRS1 HBW1 HSZ1 u0 u1 u2 u3 u4 u5
  obtain ⟨f0, f1, f2, f3, f4, f5, r0, r1, r2, r3, r4, r5⟩ := six HRS2.out
  go_wp2
  have hE := heap_set6 HRS2.out (.int .i64 g0) (.int .i64 g1) (.int .i64 g2) (.int .i64 g3) (.int .i64 g4) (.bool g5)
  refine bodyPost_ret (results_cell_three rfl _ _ rB 23 _ _ _ rfl hE Try.underlying23 rfl (by kernel_rfl)) rfl ?_
  refine ⟨by rw [HQ.out]; rfl, ?_⟩
  rw [HBB.out]
  exact HBW2.out.trans ((only_set6 _ rB _ _ _ _ _ _).below (by have := HLT.out; have := HSZ2.out; omega) (fun i e => by have e' : i = rB := e; have := HLT.out; omega))

theorem transfer_any {W : World} {o la ep ck tl : Int} {so : Bool} {r p t : Int} : Calls Try.prog 25 #[.agg #[.int .i64 o, .int .i64 la, .int .i64 ep, .int .i64 ck, .int .i64 tl, .bool so], .int .i64 r, .int .i64 p, .int .i64 t] W fun e w' => e = .returned (.tuple #[LE.val (transC ⟨o, la, ep, ck, tl, so⟩ r p t).1, .int .i64 (transC ⟨o, la, ep, ck, tl, so⟩ r p t).2.1, .int .i64 (transC ⟨o, la, ep, ck, tl, so⟩ r p t).2.2]) ∧ Below W.heap.size W w' := by
  by_cases h1 : 0 ≤ t ∧ t < 2
  · by_cases h2 : t = r
    · exact trans_2 h1 h2
    · by_cases hc : claimC ⟨o, la, ep, ck, tl, so⟩ r p = 0
      · cases so with
        | true => exact trans_4 h1 h2 hc
        | false => exact trans_5 h1 h2 hc
      · exact trans_3 h1 h2 hc
  · exact trans_1 h1
end Go.Proofs.Ythlkhjpobiohmaa
