/-
  sound, Believes, Left, Due and Tick of package guard, and of its reference. No conditions.
-/
import Derived.Test.YtegffdmlkbdcdaaGdb
import Derived.Test.YtegffdmlkbdcdaaGdc
namespace Go.Proofs.Ytegffdmlkbdcdaa
open Go.RowKit

def belG (g : GE) : Bool := decide ((sndG g).ep ≠ 0 ∧ (sndG g).ck < (sndG g).un)
def leftG (g : GE) : Int := if belG g = true then g.un - g.ck else 0
def dueG (g : GE) : Bool := decide (leftG g ≤ 6) && mayG (sndG g)
def tickG (g : GE) (n : Int) : GE := ⟨laterC (sndG g).ck n, (sndG g).ep, (sndG g).un, (sndG g).se, (sndG g).ki, (sndG g).ak⟩
theorem bel_ok {g : GE} (h : belG g = true) : okG g ∧ g.ep ≠ 0 ∧ g.ck < g.un := by
  have h1 := of_decide_eq_true h
  by_cases hk : okG g
  · rw [snd_same hk] at h1
    exact ⟨hk, h1⟩
  · unfold sndG at h1
    rw [if_neg hk] at h1
    exact absurd rfl h1.1
theorem bel_snd (g : GE) : belG (sndG g) = belG g := by unfold belG; rw [snd_same (snd_ok g)]
theorem left_snd (g : GE) : leftG (sndG g) = leftG g := by
  unfold leftG
  rw [bel_snd]
  by_cases h : belG g = true
  · rw [if_pos h, if_pos h, snd_same (bel_ok h).1]
  · rw [if_neg h, if_neg h]
theorem left_none {g : GE} (h : (sndG g).ep = 0) : leftG g = 0 := by
  unfold leftG
  rw [if_neg (fun hb => by have := of_decide_eq_true hb; exact this.1 h)]
set_option maxRecDepth 100000 in
set_option maxHeartbeats 2000000 in
theorem snd_1 {W : World} {ck ep un se ki ak : Int}  (hk : okG ⟨ck, ep, un, se, ki, ak⟩) :
    Calls Try.prog 25 #[.agg #[.int .i64 ck, .int .i64 ep, .int .i64 un, .int .i64 se, .int .i64 ki, .int .i64 ak]] W fun e w' => e = .returned (GE.val (sndG ⟨ck, ep, un, se, ki, ak⟩)) ∧ Below W.heap.size W w' := by
  have HQ : Hid (sndG ⟨ck, ep, un, se, ki, ak⟩ = ⟨ck, ep, un, se, ki, ak⟩) := hide (if_pos hk)
  have HC : Hid (chkG ⟨ck, ep, un, se, ki, ak⟩ = 0) := hide (if_pos hk)
  clear hk
  obtain ⟨V0, hV0⟩ : ∃ V0, V0 = W.alloc (.cells #[.int .i64 ck, .int .i64 ep, .int .i64 un, .int .i64 se, .int .i64 ki, .int .i64 ak] 23 (0, 0)) := ⟨_, rfl⟩
  obtain ⟨V, hV⟩ : ∃ V, V = V0.alloc (.cells #[.int .i64 0, .int .i64 0, .int .i64 0, .int .i64 0, .int .i64 0, .int .i64 0] 23 (0, 0)) := ⟨_, rfl⟩
  have bV0 : Below W.heap.size W V0 := by rw [hV0]; exact alloc_below _ _
  have bV1 : Below V0.heap.size V0 V := by rw [hV]; exact alloc_below _ _
  have v0 : V0.heap[W.heap.size]? = some (.cells #[.int .i64 ck, .int .i64 ep, .int .i64 un, .int .i64 se, .int .i64 ki, .int .i64 ak] 23 (0, 0)) := by rw [hV0]; exact heap_alloc_new W _
  have v1 : V.heap[V0.heap.size]? = some (.cells #[.int .i64 0, .int .i64 0, .int .i64 0, .int .i64 0, .int .i64 0, .int .i64 0] 23 (0, 0)) := by rw [hV]; exact heap_alloc_new V0 _
  have v2 := below_box bV1 v0
  have hlt := box_lt v0
  have hs0 : V0.heap.size = W.heap.size + 1 := by rw [hV0]; simp
  obtain ⟨bB, hbB⟩ : ∃ bB, W.heap.size = bB := ⟨_, rfl⟩
  obtain ⟨rB, hrB⟩ : ∃ rB, V0.heap.size = rB := ⟨_, rfl⟩
  have hrb : bB + 1 = rB := by omega
  rw [hbB, hrB] at hlt
  rw [hbB] at v2
  rw [hrB] at v1
  have HBW0 : Hid (Below bB W V) := hide (by rw [← hbB]; exact below_next bV0 bV1 bV0.size)
  have HBX0 := hide v2
  have HRS0 := hide v1
  have HBB := hide hbB
  have HLT := hide hlt
  have HSZ0 := hide (box_lt v1)
  clear v0 v1 v2 bV0 bV1
  go_enter Try.func25, Try.ntmps25
  go_upto_region 1 with fail
  try rw [hbB]
  try rw [hrb]
  rw [← hV0, ← hV]
  try rw [hrB]
  clear hV0 hV hbB hrB hs0 hrb hlt
  obtain ⟨_, _, _, _, _, _, u0, u1, u2, u3, u4, u5⟩ := six HBX0.out
  go_wp2_with fail
  refine (gcheck_any).mono ?_
  rw [HC.out]
  rintro _ w1 ⟨rfl, b1⟩
  have HBX1 := hide (below_box b1 HBX0.out)
  have HRS1 := hide (below_box b1 HRS0.out)
  have HBW1 := hide (below_next HBW0.out b1 (by have := HLT.out; have := HSZ0.out; omega))
  have HSZ1 := hide (box_lt HRS1.out)
  clear b1 HBX0 HRS0 HBW0 HSZ0 u0 u1 u2 u3 u4 u5
  obtain ⟨_, _, _, _, _, _, u0, u1, u2, u3, u4, u5⟩ := six HBX1.out
  obtain ⟨f0, f1, f2, f3, f4, f5, r0, r1, r2, r3, r4, r5⟩ := six HRS1.out
  go_wp2
  have hE := heap_set6 HRS1.out (.int .i64 ck) (.int .i64 ep) (.int .i64 un) (.int .i64 se) (.int .i64 ki) (.int .i64 ak)
  refine bodyPost_ret (results_cell_row rfl _ _ rB 23 _ _ _ rfl hE Try.underlying23 rfl (by kernel_rfl)) rfl ?_
  refine ⟨by rw [HQ.out]; rfl, ?_⟩
  rw [HBB.out]
  exact HBW1.out.trans ((only_set6 _ rB _ _ _ _ _ _).below (by have := HLT.out; have := HSZ1.out; omega) (fun i e => by have e' : i = rB := e; have := HLT.out; omega))

set_option maxRecDepth 100000 in
set_option maxHeartbeats 2000000 in
theorem snd_2 {W : World} {ck ep un se ki ak : Int}  (hk : ¬ okG ⟨ck, ep, un, se, ki, ak⟩) :
    Calls Try.prog 25 #[.agg #[.int .i64 ck, .int .i64 ep, .int .i64 un, .int .i64 se, .int .i64 ki, .int .i64 ak]] W fun e w' => e = .returned (GE.val (sndG ⟨ck, ep, un, se, ki, ak⟩)) ∧ Below W.heap.size W w' := by
  have HQ : Hid (sndG ⟨ck, ep, un, se, ki, ak⟩ = zeroG) := hide (if_neg hk)
  have HC : Hid (chkG ⟨ck, ep, un, se, ki, ak⟩ = 1) := hide (if_neg hk)
  clear hk
  obtain ⟨V0, hV0⟩ : ∃ V0, V0 = W.alloc (.cells #[.int .i64 ck, .int .i64 ep, .int .i64 un, .int .i64 se, .int .i64 ki, .int .i64 ak] 23 (0, 0)) := ⟨_, rfl⟩
  obtain ⟨V, hV⟩ : ∃ V, V = V0.alloc (.cells #[.int .i64 0, .int .i64 0, .int .i64 0, .int .i64 0, .int .i64 0, .int .i64 0] 23 (0, 0)) := ⟨_, rfl⟩
  have bV0 : Below W.heap.size W V0 := by rw [hV0]; exact alloc_below _ _
  have bV1 : Below V0.heap.size V0 V := by rw [hV]; exact alloc_below _ _
  have v0 : V0.heap[W.heap.size]? = some (.cells #[.int .i64 ck, .int .i64 ep, .int .i64 un, .int .i64 se, .int .i64 ki, .int .i64 ak] 23 (0, 0)) := by rw [hV0]; exact heap_alloc_new W _
  have v1 : V.heap[V0.heap.size]? = some (.cells #[.int .i64 0, .int .i64 0, .int .i64 0, .int .i64 0, .int .i64 0, .int .i64 0] 23 (0, 0)) := by rw [hV]; exact heap_alloc_new V0 _
  have v2 := below_box bV1 v0
  have hlt := box_lt v0
  have hs0 : V0.heap.size = W.heap.size + 1 := by rw [hV0]; simp
  obtain ⟨bB, hbB⟩ : ∃ bB, W.heap.size = bB := ⟨_, rfl⟩
  obtain ⟨rB, hrB⟩ : ∃ rB, V0.heap.size = rB := ⟨_, rfl⟩
  have hrb : bB + 1 = rB := by omega
  rw [hbB, hrB] at hlt
  rw [hbB] at v2
  rw [hrB] at v1
  have HBW0 : Hid (Below bB W V) := hide (by rw [← hbB]; exact below_next bV0 bV1 bV0.size)
  have HBX0 := hide v2
  have HRS0 := hide v1
  have HBB := hide hbB
  have HLT := hide hlt
  have HSZ0 := hide (box_lt v1)
  clear v0 v1 v2 bV0 bV1
  go_enter Try.func25, Try.ntmps25
  go_upto_region 1 with fail
  try rw [hbB]
  try rw [hrb]
  rw [← hV0, ← hV]
  try rw [hrB]
  clear hV0 hV hbB hrB hs0 hrb hlt
  obtain ⟨_, _, _, _, _, _, u0, u1, u2, u3, u4, u5⟩ := six HBX0.out
  go_wp2_with fail
  refine (gcheck_any).mono ?_
  rw [HC.out]
  rintro _ w1 ⟨rfl, b1⟩
  have HBX1 := hide (below_box b1 HBX0.out)
  have HRS1 := hide (below_box b1 HRS0.out)
  have HBW1 := hide (below_next HBW0.out b1 (by have := HLT.out; have := HSZ0.out; omega))
  have HSZ1 := hide (box_lt HRS1.out)
  clear b1 HBX0 HRS0 HBW0 HSZ0 u0 u1 u2 u3 u4 u5
  obtain ⟨_, _, _, _, _, _, u0, u1, u2, u3, u4, u5⟩ := six HBX1.out
  go_wp2_with fail
  refine (gnew_any).mono ?_
  simp only [GE.val, GE.row, zeroG]
  rintro _ w2 ⟨rfl, b2⟩
  have HBX2 := hide (below_box b2 HBX1.out)
  have HRS2 := hide (below_box b2 HRS1.out)
  have HBW2 := hide (below_next HBW1.out b2 (by have := HLT.out; have := HSZ1.out; omega))
  have HSZ2 := hide (box_lt HRS2.out)
  clear b2 HBX1 HRS1 HBW1 HSZ1 u0 u1 u2 u3 u4 u5
  obtain ⟨f0, f1, f2, f3, f4, f5, r0, r1, r2, r3, r4, r5⟩ := six HRS2.out
  go_wp2
  have hE := heap_set6 HRS2.out (.int .i64 0) (.int .i64 0) (.int .i64 0) (.int .i64 0) (.int .i64 0) (.int .i64 0)
  refine bodyPost_ret (results_cell_row rfl _ _ rB 23 _ _ _ rfl hE Try.underlying23 rfl (by kernel_rfl)) rfl ?_
  refine ⟨by rw [HQ.out]; rfl, ?_⟩
  rw [HBB.out]
  exact HBW2.out.trans ((only_set6 _ rB _ _ _ _ _ _).below (by have := HLT.out; have := HSZ2.out; omega) (fun i e => by have e' : i = rB := e; have := HLT.out; omega))

theorem snd_any {W : World} {ck ep un se ki ak : Int} : Calls Try.prog 25 #[.agg #[.int .i64 ck, .int .i64 ep, .int .i64 un, .int .i64 se, .int .i64 ki, .int .i64 ak]] W fun e w' => e = .returned (GE.val (sndG ⟨ck, ep, un, se, ki, ak⟩)) ∧ Below W.heap.size W w' := by
  by_cases hk : okG ⟨ck, ep, un, se, ki, ak⟩
  · exact snd_1 hk
  · exact snd_2 hk
set_option maxRecDepth 100000 in
set_option maxHeartbeats 2000000 in
theorem may_1 {W : World} {ck ep un se ki ak : Int}  (hk : okG ⟨ck, ep, un, se, ki, ak⟩) :
    Calls Try.prog 26 #[.agg #[.int .i64 ck, .int .i64 ep, .int .i64 un, .int .i64 se, .int .i64 ki, .int .i64 ak]] W fun e w' => e = .returned (GE.val (sndG ⟨ck, ep, un, se, ki, ak⟩)) ∧ Below W.heap.size W w' := by
  have HQ : Hid (sndG ⟨ck, ep, un, se, ki, ak⟩ = ⟨ck, ep, un, se, ki, ak⟩) := hide (if_pos hk)
  have HC : Hid (chkG ⟨ck, ep, un, se, ki, ak⟩ = 0) := hide (if_pos hk)
  clear hk
  obtain ⟨V0, hV0⟩ : ∃ V0, V0 = W.alloc (.cells #[.int .i64 ck, .int .i64 ep, .int .i64 un, .int .i64 se, .int .i64 ki, .int .i64 ak] 23 (0, 0)) := ⟨_, rfl⟩
  obtain ⟨V, hV⟩ : ∃ V, V = V0.alloc (.cells #[.int .i64 0, .int .i64 0, .int .i64 0, .int .i64 0, .int .i64 0, .int .i64 0] 23 (0, 0)) := ⟨_, rfl⟩
  have bV0 : Below W.heap.size W V0 := by rw [hV0]; exact alloc_below _ _
  have bV1 : Below V0.heap.size V0 V := by rw [hV]; exact alloc_below _ _
  have v0 : V0.heap[W.heap.size]? = some (.cells #[.int .i64 ck, .int .i64 ep, .int .i64 un, .int .i64 se, .int .i64 ki, .int .i64 ak] 23 (0, 0)) := by rw [hV0]; exact heap_alloc_new W _
  have v1 : V.heap[V0.heap.size]? = some (.cells #[.int .i64 0, .int .i64 0, .int .i64 0, .int .i64 0, .int .i64 0, .int .i64 0] 23 (0, 0)) := by rw [hV]; exact heap_alloc_new V0 _
  have v2 := below_box bV1 v0
  have hlt := box_lt v0
  have hs0 : V0.heap.size = W.heap.size + 1 := by rw [hV0]; simp
  obtain ⟨bB, hbB⟩ : ∃ bB, W.heap.size = bB := ⟨_, rfl⟩
  obtain ⟨rB, hrB⟩ : ∃ rB, V0.heap.size = rB := ⟨_, rfl⟩
  have hrb : bB + 1 = rB := by omega
  rw [hbB, hrB] at hlt
  rw [hbB] at v2
  rw [hrB] at v1
  have HBW0 : Hid (Below bB W V) := hide (by rw [← hbB]; exact below_next bV0 bV1 bV0.size)
  have HBX0 := hide v2
  have HRS0 := hide v1
  have HBB := hide hbB
  have HLT := hide hlt
  have HSZ0 := hide (box_lt v1)
  clear v0 v1 v2 bV0 bV1
  go_enter Try.func26, Try.ntmps26
  go_upto_region 1 with fail
  try rw [hbB]
  try rw [hrb]
  rw [← hV0, ← hV]
  try rw [hrB]
  clear hV0 hV hbB hrB hs0 hrb hlt
  obtain ⟨_, _, _, _, _, _, u0, u1, u2, u3, u4, u5⟩ := six HBX0.out
  go_wp2_with fail
  refine (rgcheck_any).mono ?_
  rw [HC.out]
  rintro _ w1 ⟨rfl, b1⟩
  have HBX1 := hide (below_box b1 HBX0.out)
  have HRS1 := hide (below_box b1 HRS0.out)
  have HBW1 := hide (below_next HBW0.out b1 (by have := HLT.out; have := HSZ0.out; omega))
  have HSZ1 := hide (box_lt HRS1.out)
  clear b1 HBX0 HRS0 HBW0 HSZ0 u0 u1 u2 u3 u4 u5
  obtain ⟨_, _, _, _, _, _, u0, u1, u2, u3, u4, u5⟩ := six HBX1.out
  obtain ⟨f0, f1, f2, f3, f4, f5, r0, r1, r2, r3, r4, r5⟩ := six HRS1.out
  go_wp2
  have hE := heap_set6 HRS1.out (.int .i64 ck) (.int .i64 ep) (.int .i64 un) (.int .i64 se) (.int .i64 ki) (.int .i64 ak)
  refine bodyPost_ret (results_cell_row rfl _ _ rB 23 _ _ _ rfl hE Try.underlying23 rfl (by kernel_rfl)) rfl ?_
  refine ⟨by rw [HQ.out]; rfl, ?_⟩
  rw [HBB.out]
  exact HBW1.out.trans ((only_set6 _ rB _ _ _ _ _ _).below (by have := HLT.out; have := HSZ1.out; omega) (fun i e => by have e' : i = rB := e; have := HLT.out; omega))

set_option maxRecDepth 100000 in
set_option maxHeartbeats 2000000 in
theorem may_2 {W : World} {ck ep un se ki ak : Int}  (hk : ¬ okG ⟨ck, ep, un, se, ki, ak⟩) :
    Calls Try.prog 26 #[.agg #[.int .i64 ck, .int .i64 ep, .int .i64 un, .int .i64 se, .int .i64 ki, .int .i64 ak]] W fun e w' => e = .returned (GE.val (sndG ⟨ck, ep, un, se, ki, ak⟩)) ∧ Below W.heap.size W w' := by
  have HQ : Hid (sndG ⟨ck, ep, un, se, ki, ak⟩ = zeroG) := hide (if_neg hk)
  have HC : Hid (chkG ⟨ck, ep, un, se, ki, ak⟩ = 1) := hide (if_neg hk)
  clear hk
  obtain ⟨V0, hV0⟩ : ∃ V0, V0 = W.alloc (.cells #[.int .i64 ck, .int .i64 ep, .int .i64 un, .int .i64 se, .int .i64 ki, .int .i64 ak] 23 (0, 0)) := ⟨_, rfl⟩
  obtain ⟨V, hV⟩ : ∃ V, V = V0.alloc (.cells #[.int .i64 0, .int .i64 0, .int .i64 0, .int .i64 0, .int .i64 0, .int .i64 0] 23 (0, 0)) := ⟨_, rfl⟩
  have bV0 : Below W.heap.size W V0 := by rw [hV0]; exact alloc_below _ _
  have bV1 : Below V0.heap.size V0 V := by rw [hV]; exact alloc_below _ _
  have v0 : V0.heap[W.heap.size]? = some (.cells #[.int .i64 ck, .int .i64 ep, .int .i64 un, .int .i64 se, .int .i64 ki, .int .i64 ak] 23 (0, 0)) := by rw [hV0]; exact heap_alloc_new W _
  have v1 : V.heap[V0.heap.size]? = some (.cells #[.int .i64 0, .int .i64 0, .int .i64 0, .int .i64 0, .int .i64 0, .int .i64 0] 23 (0, 0)) := by rw [hV]; exact heap_alloc_new V0 _
  have v2 := below_box bV1 v0
  have hlt := box_lt v0
  have hs0 : V0.heap.size = W.heap.size + 1 := by rw [hV0]; simp
  obtain ⟨bB, hbB⟩ : ∃ bB, W.heap.size = bB := ⟨_, rfl⟩
  obtain ⟨rB, hrB⟩ : ∃ rB, V0.heap.size = rB := ⟨_, rfl⟩
  have hrb : bB + 1 = rB := by omega
  rw [hbB, hrB] at hlt
  rw [hbB] at v2
  rw [hrB] at v1
  have HBW0 : Hid (Below bB W V) := hide (by rw [← hbB]; exact below_next bV0 bV1 bV0.size)
  have HBX0 := hide v2
  have HRS0 := hide v1
  have HBB := hide hbB
  have HLT := hide hlt
  have HSZ0 := hide (box_lt v1)
  clear v0 v1 v2 bV0 bV1
  go_enter Try.func26, Try.ntmps26
  go_upto_region 1 with fail
  try rw [hbB]
  try rw [hrb]
  rw [← hV0, ← hV]
  try rw [hrB]
  clear hV0 hV hbB hrB hs0 hrb hlt
  obtain ⟨_, _, _, _, _, _, u0, u1, u2, u3, u4, u5⟩ := six HBX0.out
  go_wp2_with fail
  refine (rgcheck_any).mono ?_
  rw [HC.out]
  rintro _ w1 ⟨rfl, b1⟩
  have HBX1 := hide (below_box b1 HBX0.out)
  have HRS1 := hide (below_box b1 HRS0.out)
  have HBW1 := hide (below_next HBW0.out b1 (by have := HLT.out; have := HSZ0.out; omega))
  have HSZ1 := hide (box_lt HRS1.out)
  clear b1 HBX0 HRS0 HBW0 HSZ0 u0 u1 u2 u3 u4 u5
  obtain ⟨_, _, _, _, _, _, u0, u1, u2, u3, u4, u5⟩ := six HBX1.out
  obtain ⟨f0, f1, f2, f3, f4, f5, r0, r1, r2, r3, r4, r5⟩ := six HRS1.out
  go_wp2
  have hE := heap_set6 HRS1.out (.int .i64 0) (.int .i64 0) (.int .i64 0) (.int .i64 0) (.int .i64 0) (.int .i64 0)
  refine bodyPost_ret (results_cell_row rfl _ _ rB 23 _ _ _ rfl hE Try.underlying23 rfl (by kernel_rfl)) rfl ?_
  refine ⟨by rw [HQ.out]; rfl, ?_⟩
  rw [HBB.out]
  exact HBW1.out.trans ((only_set6 _ rB _ _ _ _ _ _).below (by have := HLT.out; have := HSZ1.out; omega) (fun i e => by have e' : i = rB := e; have := HLT.out; omega))

theorem may_any {W : World} {ck ep un se ki ak : Int} : Calls Try.prog 26 #[.agg #[.int .i64 ck, .int .i64 ep, .int .i64 un, .int .i64 se, .int .i64 ki, .int .i64 ak]] W fun e w' => e = .returned (GE.val (sndG ⟨ck, ep, un, se, ki, ak⟩)) ∧ Below W.heap.size W w' := by
  by_cases hk : okG ⟨ck, ep, un, se, ki, ak⟩
  · exact may_1 hk
  · exact may_2 hk
set_option maxRecDepth 100000 in
set_option maxHeartbeats 2000000 in
theorem bel_1 {W : World} {ck ep un se ki ak : Int}  (h : (sndG ⟨ck, ep, un, se, ki, ak⟩).ep = 0) :
    Calls Try.prog 10 #[.agg #[.int .i64 ck, .int .i64 ep, .int .i64 un, .int .i64 se, .int .i64 ki, .int .i64 ak]] W fun e w' => e = .returned (.bool (belG ⟨ck, ep, un, se, ki, ak⟩)) ∧ Below W.heap.size W w' := by
  have HQ : Hid (belG ⟨ck, ep, un, se, ki, ak⟩ = false) := hide (decide_eq_false (fun q => q.1 h))
  obtain ⟨⟨c, x, u, s, k, a⟩, hs⟩ : ∃ q, sndG ⟨ck, ep, un, se, ki, ak⟩ = q := ⟨_, rfl⟩
  rw [hs] at h
  simp only at h
  have HS := hide hs
  clear hs
  have d1 : (x != 0) = false := by simp [h]
  have d2 : (x == 0) = true := by simpa using h
  clear h
  obtain ⟨V, hV⟩ : ∃ V, V = W.alloc (.cells #[.int .i64 ck, .int .i64 ep, .int .i64 un, .int .i64 se, .int .i64 ki, .int .i64 ak] 23 (0, 0)) := ⟨_, rfl⟩
  have HV : Hid (V.heap[W.heap.size]? = some (.cells #[.int .i64 ck, .int .i64 ep, .int .i64 un, .int .i64 se, .int .i64 ki, .int .i64 ak] 23 (0, 0))) := hide (by rw [hV]; exact heap_alloc_new W _)
  have HBV : Hid (Below W.heap.size W V) := hide (by rw [hV]; exact alloc_below _ _)
  obtain ⟨bB, hbB⟩ : ∃ bB, W.heap.size = bB := ⟨_, rfl⟩
  rw [hbB] at HV HBV
  have HBB := hide hbB
  go_enter Try.func10, Try.ntmps10
  go_upto_region 1 with fail
  rw [← hV]
  try rw [hbB]
  clear hV hbB
  obtain ⟨_, _, _, _, _, _, u0, u1, u2, u3, u4, u5⟩ := six HV.out
  go_wp2_with fail
  refine (snd_any).mono ?_
  rw [HS.out]
  simp only [GE.val, GE.row]
  rintro _ w1 ⟨rfl, bb⟩
  have HV1 := hide (below_box bb HV.out)
  have HBV1 := hide (below_next HBV.out bb (Nat.le_of_lt (box_lt HV.out)))
  clear bb HV HBV u0 u1 u2 u3 u4 u5
  obtain ⟨_, _, _, _, _, _, u0, u1, u2, u3, u4, u5⟩ := six HV1.out
  go_upto_region 2 with fail
  obtain ⟨X, hX⟩ : ∃ X, X = ((((((w1.setCell ⟨bB, 0, none⟩ (.int .i64 c)).setCell ⟨bB, 1, none⟩ (.int .i64 x)).setCell ⟨bB, 2, none⟩ (.int .i64 u)).setCell ⟨bB, 3, none⟩ (.int .i64 s)).setCell ⟨bB, 4, none⟩ (.int .i64 k)).setCell ⟨bB, 5, none⟩ (.int .i64 a)) := ⟨_, rfl⟩
  have HV2 : Hid (X.heap[bB]? = some (.cells #[.int .i64 c, .int .i64 x, .int .i64 u, .int .i64 s, .int .i64 k, .int .i64 a] 23 (0, 0))) := hide (by rw [hX]; exact heap_set6 HV1.out (.int .i64 c) (.int .i64 x) (.int .i64 u) (.int .i64 s) (.int .i64 k) (.int .i64 a))
  have HBV2 := hide (HBV1.out.trans (show Below bB w1 X by rw [hX]; exact (only_set6 w1 bB (.int .i64 c) (.int .i64 x) (.int .i64 u) (.int .i64 s) (.int .i64 k) (.int .i64 a)).below (Nat.le_of_lt (box_lt HV1.out)) (fun i e => by have e' : i = bB := e; omega)))
  rw [← hX]
  clear hX HV1 HBV1 u0 u1 u2 u3 u4 u5
  obtain ⟨_, _, _, _, _, _, u0, u1, u2, u3, u4, u5⟩ := six HV2.out
  go_wp2
  go_ret
  exact ⟨by first | rw [HQ.out]; rfl | rfl, by rw [HBB.out]; exact HBV2.out⟩

set_option maxRecDepth 100000 in
set_option maxHeartbeats 2000000 in
theorem bel_2 {W : World} {ck ep un se ki ak : Int}  (h : (sndG ⟨ck, ep, un, se, ki, ak⟩).ep ≠ 0) (h2 : (sndG ⟨ck, ep, un, se, ki, ak⟩).ck < (sndG ⟨ck, ep, un, se, ki, ak⟩).un) :
    Calls Try.prog 10 #[.agg #[.int .i64 ck, .int .i64 ep, .int .i64 un, .int .i64 se, .int .i64 ki, .int .i64 ak]] W fun e w' => e = .returned (.bool (belG ⟨ck, ep, un, se, ki, ak⟩)) ∧ Below W.heap.size W w' := by
  have HQ : Hid (belG ⟨ck, ep, un, se, ki, ak⟩ = true) := hide (decide_eq_true ⟨h, h2⟩)
  obtain ⟨⟨c, x, u, s, k, a⟩, hs⟩ : ∃ q, sndG ⟨ck, ep, un, se, ki, ak⟩ = q := ⟨_, rfl⟩
  rw [hs] at h h2
  simp only at h h2
  have HS := hide hs
  clear hs
  have d1 : (x != 0) = true := ne_neG h
  have d2 : (x == 0) = false := ne_eqL h
  have d3 : decide (c < u) = true := decide_eq_true h2
  clear h h2
  obtain ⟨V, hV⟩ : ∃ V, V = W.alloc (.cells #[.int .i64 ck, .int .i64 ep, .int .i64 un, .int .i64 se, .int .i64 ki, .int .i64 ak] 23 (0, 0)) := ⟨_, rfl⟩
  have HV : Hid (V.heap[W.heap.size]? = some (.cells #[.int .i64 ck, .int .i64 ep, .int .i64 un, .int .i64 se, .int .i64 ki, .int .i64 ak] 23 (0, 0))) := hide (by rw [hV]; exact heap_alloc_new W _)
  have HBV : Hid (Below W.heap.size W V) := hide (by rw [hV]; exact alloc_below _ _)
  obtain ⟨bB, hbB⟩ : ∃ bB, W.heap.size = bB := ⟨_, rfl⟩
  rw [hbB] at HV HBV
  have HBB := hide hbB
  go_enter Try.func10, Try.ntmps10
  go_upto_region 1 with fail
  rw [← hV]
  try rw [hbB]
  clear hV hbB
  obtain ⟨_, _, _, _, _, _, u0, u1, u2, u3, u4, u5⟩ := six HV.out
  go_wp2_with fail
  refine (snd_any).mono ?_
  rw [HS.out]
  simp only [GE.val, GE.row]
  rintro _ w1 ⟨rfl, bb⟩
  have HV1 := hide (below_box bb HV.out)
  have HBV1 := hide (below_next HBV.out bb (Nat.le_of_lt (box_lt HV.out)))
  clear bb HV HBV u0 u1 u2 u3 u4 u5
  obtain ⟨_, _, _, _, _, _, u0, u1, u2, u3, u4, u5⟩ := six HV1.out
  go_upto_region 2 with fail
  obtain ⟨X, hX⟩ : ∃ X, X = ((((((w1.setCell ⟨bB, 0, none⟩ (.int .i64 c)).setCell ⟨bB, 1, none⟩ (.int .i64 x)).setCell ⟨bB, 2, none⟩ (.int .i64 u)).setCell ⟨bB, 3, none⟩ (.int .i64 s)).setCell ⟨bB, 4, none⟩ (.int .i64 k)).setCell ⟨bB, 5, none⟩ (.int .i64 a)) := ⟨_, rfl⟩
  have HV2 : Hid (X.heap[bB]? = some (.cells #[.int .i64 c, .int .i64 x, .int .i64 u, .int .i64 s, .int .i64 k, .int .i64 a] 23 (0, 0))) := hide (by rw [hX]; exact heap_set6 HV1.out (.int .i64 c) (.int .i64 x) (.int .i64 u) (.int .i64 s) (.int .i64 k) (.int .i64 a))
  have HBV2 := hide (HBV1.out.trans (show Below bB w1 X by rw [hX]; exact (only_set6 w1 bB (.int .i64 c) (.int .i64 x) (.int .i64 u) (.int .i64 s) (.int .i64 k) (.int .i64 a)).below (Nat.le_of_lt (box_lt HV1.out)) (fun i e => by have e' : i = bB := e; omega)))
  rw [← hX]
  clear hX HV1 HBV1 u0 u1 u2 u3 u4 u5
  obtain ⟨_, _, _, _, _, _, u0, u1, u2, u3, u4, u5⟩ := six HV2.out
  go_wp2
  go_ret
  exact ⟨by first | rw [HQ.out]; rfl | rfl, by rw [HBB.out]; exact HBV2.out⟩

set_option maxRecDepth 100000 in
set_option maxHeartbeats 2000000 in
theorem bel_3 {W : World} {ck ep un se ki ak : Int}  (h : (sndG ⟨ck, ep, un, se, ki, ak⟩).ep ≠ 0) (h2 : ¬ (sndG ⟨ck, ep, un, se, ki, ak⟩).ck < (sndG ⟨ck, ep, un, se, ki, ak⟩).un) :
    Calls Try.prog 10 #[.agg #[.int .i64 ck, .int .i64 ep, .int .i64 un, .int .i64 se, .int .i64 ki, .int .i64 ak]] W fun e w' => e = .returned (.bool (belG ⟨ck, ep, un, se, ki, ak⟩)) ∧ Below W.heap.size W w' := by
  have HQ : Hid (belG ⟨ck, ep, un, se, ki, ak⟩ = false) := hide (decide_eq_false (fun q => h2 q.2))
  obtain ⟨⟨c, x, u, s, k, a⟩, hs⟩ : ∃ q, sndG ⟨ck, ep, un, se, ki, ak⟩ = q := ⟨_, rfl⟩
  rw [hs] at h h2
  simp only at h h2
  have HS := hide hs
  clear hs
  have d1 : (x != 0) = true := ne_neG h
  have d2 : (x == 0) = false := ne_eqL h
  have d3 : decide (c < u) = false := decide_eq_false h2
  clear h h2
  obtain ⟨V, hV⟩ : ∃ V, V = W.alloc (.cells #[.int .i64 ck, .int .i64 ep, .int .i64 un, .int .i64 se, .int .i64 ki, .int .i64 ak] 23 (0, 0)) := ⟨_, rfl⟩
  have HV : Hid (V.heap[W.heap.size]? = some (.cells #[.int .i64 ck, .int .i64 ep, .int .i64 un, .int .i64 se, .int .i64 ki, .int .i64 ak] 23 (0, 0))) := hide (by rw [hV]; exact heap_alloc_new W _)
  have HBV : Hid (Below W.heap.size W V) := hide (by rw [hV]; exact alloc_below _ _)
  obtain ⟨bB, hbB⟩ : ∃ bB, W.heap.size = bB := ⟨_, rfl⟩
  rw [hbB] at HV HBV
  have HBB := hide hbB
  go_enter Try.func10, Try.ntmps10
  go_upto_region 1 with fail
  rw [← hV]
  try rw [hbB]
  clear hV hbB
  obtain ⟨_, _, _, _, _, _, u0, u1, u2, u3, u4, u5⟩ := six HV.out
  go_wp2_with fail
  refine (snd_any).mono ?_
  rw [HS.out]
  simp only [GE.val, GE.row]
  rintro _ w1 ⟨rfl, bb⟩
  have HV1 := hide (below_box bb HV.out)
  have HBV1 := hide (below_next HBV.out bb (Nat.le_of_lt (box_lt HV.out)))
  clear bb HV HBV u0 u1 u2 u3 u4 u5
  obtain ⟨_, _, _, _, _, _, u0, u1, u2, u3, u4, u5⟩ := six HV1.out
  go_upto_region 2 with fail
  obtain ⟨X, hX⟩ : ∃ X, X = ((((((w1.setCell ⟨bB, 0, none⟩ (.int .i64 c)).setCell ⟨bB, 1, none⟩ (.int .i64 x)).setCell ⟨bB, 2, none⟩ (.int .i64 u)).setCell ⟨bB, 3, none⟩ (.int .i64 s)).setCell ⟨bB, 4, none⟩ (.int .i64 k)).setCell ⟨bB, 5, none⟩ (.int .i64 a)) := ⟨_, rfl⟩
  have HV2 : Hid (X.heap[bB]? = some (.cells #[.int .i64 c, .int .i64 x, .int .i64 u, .int .i64 s, .int .i64 k, .int .i64 a] 23 (0, 0))) := hide (by rw [hX]; exact heap_set6 HV1.out (.int .i64 c) (.int .i64 x) (.int .i64 u) (.int .i64 s) (.int .i64 k) (.int .i64 a))
  have HBV2 := hide (HBV1.out.trans (show Below bB w1 X by rw [hX]; exact (only_set6 w1 bB (.int .i64 c) (.int .i64 x) (.int .i64 u) (.int .i64 s) (.int .i64 k) (.int .i64 a)).below (Nat.le_of_lt (box_lt HV1.out)) (fun i e => by have e' : i = bB := e; omega)))
  rw [← hX]
  clear hX HV1 HBV1 u0 u1 u2 u3 u4 u5
  obtain ⟨_, _, _, _, _, _, u0, u1, u2, u3, u4, u5⟩ := six HV2.out
  go_wp2
  go_ret
  exact ⟨by first | rw [HQ.out]; rfl | rfl, by rw [HBB.out]; exact HBV2.out⟩

theorem bel_any {W : World} {ck ep un se ki ak : Int} : Calls Try.prog 10 #[.agg #[.int .i64 ck, .int .i64 ep, .int .i64 un, .int .i64 se, .int .i64 ki, .int .i64 ak]] W fun e w' => e = .returned (.bool (belG ⟨ck, ep, un, se, ki, ak⟩)) ∧ Below W.heap.size W w' := by
  by_cases h : (sndG ⟨ck, ep, un, se, ki, ak⟩).ep = 0
  · exact bel_1 h
  · by_cases h2 : (sndG ⟨ck, ep, un, se, ki, ak⟩).ck < (sndG ⟨ck, ep, un, se, ki, ak⟩).un
    · exact bel_2 h h2
    · exact bel_3 h h2
set_option maxRecDepth 100000 in
set_option maxHeartbeats 2000000 in
theorem rbel_1 {W : World} {ck ep un se ki ak : Int}  (h : (sndG ⟨ck, ep, un, se, ki, ak⟩).ep = 0) :
    Calls Try.prog 11 #[.agg #[.int .i64 ck, .int .i64 ep, .int .i64 un, .int .i64 se, .int .i64 ki, .int .i64 ak]] W fun e w' => e = .returned (.bool (belG ⟨ck, ep, un, se, ki, ak⟩)) ∧ Below W.heap.size W w' := by
  have HQ : Hid (belG ⟨ck, ep, un, se, ki, ak⟩ = false) := hide (decide_eq_false (fun q => q.1 h))
  obtain ⟨⟨c, x, u, s, k, a⟩, hs⟩ : ∃ q, sndG ⟨ck, ep, un, se, ki, ak⟩ = q := ⟨_, rfl⟩
  rw [hs] at h
  simp only at h
  have HS := hide hs
  clear hs
  have d1 : (x != 0) = false := by simp [h]
  have d2 : (x == 0) = true := by simpa using h
  clear h
  obtain ⟨V, hV⟩ : ∃ V, V = W.alloc (.cells #[.int .i64 ck, .int .i64 ep, .int .i64 un, .int .i64 se, .int .i64 ki, .int .i64 ak] 23 (0, 0)) := ⟨_, rfl⟩
  have HV : Hid (V.heap[W.heap.size]? = some (.cells #[.int .i64 ck, .int .i64 ep, .int .i64 un, .int .i64 se, .int .i64 ki, .int .i64 ak] 23 (0, 0))) := hide (by rw [hV]; exact heap_alloc_new W _)
  have HBV : Hid (Below W.heap.size W V) := hide (by rw [hV]; exact alloc_below _ _)
  obtain ⟨bB, hbB⟩ : ∃ bB, W.heap.size = bB := ⟨_, rfl⟩
  rw [hbB] at HV HBV
  have HBB := hide hbB
  go_enter Try.func11, Try.ntmps11
  go_upto_region 1 with fail
  rw [← hV]
  try rw [hbB]
  clear hV hbB
  obtain ⟨_, _, _, _, _, _, u0, u1, u2, u3, u4, u5⟩ := six HV.out
  go_wp2_with fail
  refine (may_any).mono ?_
  rw [HS.out]
  simp only [GE.val, GE.row]
  rintro _ w1 ⟨rfl, bb⟩
  have HV1 := hide (below_box bb HV.out)
  have HBV1 := hide (below_next HBV.out bb (Nat.le_of_lt (box_lt HV.out)))
  clear bb HV HBV u0 u1 u2 u3 u4 u5
  obtain ⟨_, _, _, _, _, _, u0, u1, u2, u3, u4, u5⟩ := six HV1.out
  go_upto_region 2 with fail
  obtain ⟨X, hX⟩ : ∃ X, X = ((((((w1.setCell ⟨bB, 0, none⟩ (.int .i64 c)).setCell ⟨bB, 1, none⟩ (.int .i64 x)).setCell ⟨bB, 2, none⟩ (.int .i64 u)).setCell ⟨bB, 3, none⟩ (.int .i64 s)).setCell ⟨bB, 4, none⟩ (.int .i64 k)).setCell ⟨bB, 5, none⟩ (.int .i64 a)) := ⟨_, rfl⟩
  have HV2 : Hid (X.heap[bB]? = some (.cells #[.int .i64 c, .int .i64 x, .int .i64 u, .int .i64 s, .int .i64 k, .int .i64 a] 23 (0, 0))) := hide (by rw [hX]; exact heap_set6 HV1.out (.int .i64 c) (.int .i64 x) (.int .i64 u) (.int .i64 s) (.int .i64 k) (.int .i64 a))
  have HBV2 := hide (HBV1.out.trans (show Below bB w1 X by rw [hX]; exact (only_set6 w1 bB (.int .i64 c) (.int .i64 x) (.int .i64 u) (.int .i64 s) (.int .i64 k) (.int .i64 a)).below (Nat.le_of_lt (box_lt HV1.out)) (fun i e => by have e' : i = bB := e; omega)))
  rw [← hX]
  clear hX HV1 HBV1 u0 u1 u2 u3 u4 u5
  obtain ⟨_, _, _, _, _, _, u0, u1, u2, u3, u4, u5⟩ := six HV2.out
  go_wp2
  go_ret
  exact ⟨by first | rw [HQ.out]; rfl | rfl, by rw [HBB.out]; exact HBV2.out⟩

set_option maxRecDepth 100000 in
set_option maxHeartbeats 2000000 in
theorem rbel_2 {W : World} {ck ep un se ki ak : Int}  (h : (sndG ⟨ck, ep, un, se, ki, ak⟩).ep ≠ 0) (h2 : (sndG ⟨ck, ep, un, se, ki, ak⟩).ck < (sndG ⟨ck, ep, un, se, ki, ak⟩).un) :
    Calls Try.prog 11 #[.agg #[.int .i64 ck, .int .i64 ep, .int .i64 un, .int .i64 se, .int .i64 ki, .int .i64 ak]] W fun e w' => e = .returned (.bool (belG ⟨ck, ep, un, se, ki, ak⟩)) ∧ Below W.heap.size W w' := by
  have HQ : Hid (belG ⟨ck, ep, un, se, ki, ak⟩ = true) := hide (decide_eq_true ⟨h, h2⟩)
  obtain ⟨⟨c, x, u, s, k, a⟩, hs⟩ : ∃ q, sndG ⟨ck, ep, un, se, ki, ak⟩ = q := ⟨_, rfl⟩
  rw [hs] at h h2
  simp only at h h2
  have HS := hide hs
  clear hs
  have d1 : (x != 0) = true := ne_neG h
  have d2 : (x == 0) = false := ne_eqL h
  have d3 : decide (c < u) = true := decide_eq_true h2
  clear h h2
  obtain ⟨V, hV⟩ : ∃ V, V = W.alloc (.cells #[.int .i64 ck, .int .i64 ep, .int .i64 un, .int .i64 se, .int .i64 ki, .int .i64 ak] 23 (0, 0)) := ⟨_, rfl⟩
  have HV : Hid (V.heap[W.heap.size]? = some (.cells #[.int .i64 ck, .int .i64 ep, .int .i64 un, .int .i64 se, .int .i64 ki, .int .i64 ak] 23 (0, 0))) := hide (by rw [hV]; exact heap_alloc_new W _)
  have HBV : Hid (Below W.heap.size W V) := hide (by rw [hV]; exact alloc_below _ _)
  obtain ⟨bB, hbB⟩ : ∃ bB, W.heap.size = bB := ⟨_, rfl⟩
  rw [hbB] at HV HBV
  have HBB := hide hbB
  go_enter Try.func11, Try.ntmps11
  go_upto_region 1 with fail
  rw [← hV]
  try rw [hbB]
  clear hV hbB
  obtain ⟨_, _, _, _, _, _, u0, u1, u2, u3, u4, u5⟩ := six HV.out
  go_wp2_with fail
  refine (may_any).mono ?_
  rw [HS.out]
  simp only [GE.val, GE.row]
  rintro _ w1 ⟨rfl, bb⟩
  have HV1 := hide (below_box bb HV.out)
  have HBV1 := hide (below_next HBV.out bb (Nat.le_of_lt (box_lt HV.out)))
  clear bb HV HBV u0 u1 u2 u3 u4 u5
  obtain ⟨_, _, _, _, _, _, u0, u1, u2, u3, u4, u5⟩ := six HV1.out
  go_upto_region 2 with fail
  obtain ⟨X, hX⟩ : ∃ X, X = ((((((w1.setCell ⟨bB, 0, none⟩ (.int .i64 c)).setCell ⟨bB, 1, none⟩ (.int .i64 x)).setCell ⟨bB, 2, none⟩ (.int .i64 u)).setCell ⟨bB, 3, none⟩ (.int .i64 s)).setCell ⟨bB, 4, none⟩ (.int .i64 k)).setCell ⟨bB, 5, none⟩ (.int .i64 a)) := ⟨_, rfl⟩
  have HV2 : Hid (X.heap[bB]? = some (.cells #[.int .i64 c, .int .i64 x, .int .i64 u, .int .i64 s, .int .i64 k, .int .i64 a] 23 (0, 0))) := hide (by rw [hX]; exact heap_set6 HV1.out (.int .i64 c) (.int .i64 x) (.int .i64 u) (.int .i64 s) (.int .i64 k) (.int .i64 a))
  have HBV2 := hide (HBV1.out.trans (show Below bB w1 X by rw [hX]; exact (only_set6 w1 bB (.int .i64 c) (.int .i64 x) (.int .i64 u) (.int .i64 s) (.int .i64 k) (.int .i64 a)).below (Nat.le_of_lt (box_lt HV1.out)) (fun i e => by have e' : i = bB := e; omega)))
  rw [← hX]
  clear hX HV1 HBV1 u0 u1 u2 u3 u4 u5
  obtain ⟨_, _, _, _, _, _, u0, u1, u2, u3, u4, u5⟩ := six HV2.out
  go_wp2
  go_ret
  exact ⟨by first | rw [HQ.out]; rfl | rfl, by rw [HBB.out]; exact HBV2.out⟩

set_option maxRecDepth 100000 in
set_option maxHeartbeats 2000000 in
theorem rbel_3 {W : World} {ck ep un se ki ak : Int}  (h : (sndG ⟨ck, ep, un, se, ki, ak⟩).ep ≠ 0) (h2 : ¬ (sndG ⟨ck, ep, un, se, ki, ak⟩).ck < (sndG ⟨ck, ep, un, se, ki, ak⟩).un) :
    Calls Try.prog 11 #[.agg #[.int .i64 ck, .int .i64 ep, .int .i64 un, .int .i64 se, .int .i64 ki, .int .i64 ak]] W fun e w' => e = .returned (.bool (belG ⟨ck, ep, un, se, ki, ak⟩)) ∧ Below W.heap.size W w' := by
  have HQ : Hid (belG ⟨ck, ep, un, se, ki, ak⟩ = false) := hide (decide_eq_false (fun q => h2 q.2))
  obtain ⟨⟨c, x, u, s, k, a⟩, hs⟩ : ∃ q, sndG ⟨ck, ep, un, se, ki, ak⟩ = q := ⟨_, rfl⟩
  rw [hs] at h h2
  simp only at h h2
  have HS := hide hs
  clear hs
  have d1 : (x != 0) = true := ne_neG h
  have d2 : (x == 0) = false := ne_eqL h
  have d3 : decide (c < u) = false := decide_eq_false h2
  clear h h2
  obtain ⟨V, hV⟩ : ∃ V, V = W.alloc (.cells #[.int .i64 ck, .int .i64 ep, .int .i64 un, .int .i64 se, .int .i64 ki, .int .i64 ak] 23 (0, 0)) := ⟨_, rfl⟩
  have HV : Hid (V.heap[W.heap.size]? = some (.cells #[.int .i64 ck, .int .i64 ep, .int .i64 un, .int .i64 se, .int .i64 ki, .int .i64 ak] 23 (0, 0))) := hide (by rw [hV]; exact heap_alloc_new W _)
  have HBV : Hid (Below W.heap.size W V) := hide (by rw [hV]; exact alloc_below _ _)
  obtain ⟨bB, hbB⟩ : ∃ bB, W.heap.size = bB := ⟨_, rfl⟩
  rw [hbB] at HV HBV
  have HBB := hide hbB
  go_enter Try.func11, Try.ntmps11
  go_upto_region 1 with fail
  rw [← hV]
  try rw [hbB]
  clear hV hbB
  obtain ⟨_, _, _, _, _, _, u0, u1, u2, u3, u4, u5⟩ := six HV.out
  go_wp2_with fail
  refine (may_any).mono ?_
  rw [HS.out]
  simp only [GE.val, GE.row]
  rintro _ w1 ⟨rfl, bb⟩
  have HV1 := hide (below_box bb HV.out)
  have HBV1 := hide (below_next HBV.out bb (Nat.le_of_lt (box_lt HV.out)))
  clear bb HV HBV u0 u1 u2 u3 u4 u5
  obtain ⟨_, _, _, _, _, _, u0, u1, u2, u3, u4, u5⟩ := six HV1.out
  go_upto_region 2 with fail
  obtain ⟨X, hX⟩ : ∃ X, X = ((((((w1.setCell ⟨bB, 0, none⟩ (.int .i64 c)).setCell ⟨bB, 1, none⟩ (.int .i64 x)).setCell ⟨bB, 2, none⟩ (.int .i64 u)).setCell ⟨bB, 3, none⟩ (.int .i64 s)).setCell ⟨bB, 4, none⟩ (.int .i64 k)).setCell ⟨bB, 5, none⟩ (.int .i64 a)) := ⟨_, rfl⟩
  have HV2 : Hid (X.heap[bB]? = some (.cells #[.int .i64 c, .int .i64 x, .int .i64 u, .int .i64 s, .int .i64 k, .int .i64 a] 23 (0, 0))) := hide (by rw [hX]; exact heap_set6 HV1.out (.int .i64 c) (.int .i64 x) (.int .i64 u) (.int .i64 s) (.int .i64 k) (.int .i64 a))
  have HBV2 := hide (HBV1.out.trans (show Below bB w1 X by rw [hX]; exact (only_set6 w1 bB (.int .i64 c) (.int .i64 x) (.int .i64 u) (.int .i64 s) (.int .i64 k) (.int .i64 a)).below (Nat.le_of_lt (box_lt HV1.out)) (fun i e => by have e' : i = bB := e; omega)))
  rw [← hX]
  clear hX HV1 HBV1 u0 u1 u2 u3 u4 u5
  obtain ⟨_, _, _, _, _, _, u0, u1, u2, u3, u4, u5⟩ := six HV2.out
  go_wp2
  go_ret
  exact ⟨by first | rw [HQ.out]; rfl | rfl, by rw [HBB.out]; exact HBV2.out⟩

theorem rbel_any {W : World} {ck ep un se ki ak : Int} : Calls Try.prog 11 #[.agg #[.int .i64 ck, .int .i64 ep, .int .i64 un, .int .i64 se, .int .i64 ki, .int .i64 ak]] W fun e w' => e = .returned (.bool (belG ⟨ck, ep, un, se, ki, ak⟩)) ∧ Below W.heap.size W w' := by
  by_cases h : (sndG ⟨ck, ep, un, se, ki, ak⟩).ep = 0
  · exact rbel_1 h
  · by_cases h2 : (sndG ⟨ck, ep, un, se, ki, ak⟩).ck < (sndG ⟨ck, ep, un, se, ki, ak⟩).un
    · exact rbel_2 h h2
    · exact rbel_3 h h2
set_option maxRecDepth 100000 in
set_option maxHeartbeats 2000000 in
theorem left_1 {W : World} {ck ep un se ki ak : Int}  (h : belG ⟨ck, ep, un, se, ki, ak⟩ = false) :
    Calls Try.prog 12 #[.agg #[.int .i64 ck, .int .i64 ep, .int .i64 un, .int .i64 se, .int .i64 ki, .int .i64 ak]] W fun e w' => e = .returned (.int .i64 (leftG ⟨ck, ep, un, se, ki, ak⟩)) ∧ Below W.heap.size W w' := by
  have HQ : Hid (leftG ⟨ck, ep, un, se, ki, ak⟩ = 0) := hide (if_neg (by rw [h]; simp))
  have HB := hide h
  clear h
  obtain ⟨V, hV⟩ : ∃ V, V = W.alloc (.cells #[.int .i64 ck, .int .i64 ep, .int .i64 un, .int .i64 se, .int .i64 ki, .int .i64 ak] 23 (0, 0)) := ⟨_, rfl⟩
  have HV : Hid (V.heap[W.heap.size]? = some (.cells #[.int .i64 ck, .int .i64 ep, .int .i64 un, .int .i64 se, .int .i64 ki, .int .i64 ak] 23 (0, 0))) := hide (by rw [hV]; exact heap_alloc_new W _)
  have HBV : Hid (Below W.heap.size W V) := hide (by rw [hV]; exact alloc_below _ _)
  obtain ⟨bB, hbB⟩ : ∃ bB, W.heap.size = bB := ⟨_, rfl⟩
  rw [hbB] at HV HBV
  have HBB := hide hbB
  go_enter Try.func12, Try.ntmps12
  go_upto_region 1 with fail
  rw [← hV]
  try rw [hbB]
  clear hV hbB
  obtain ⟨_, _, _, _, _, _, u0, u1, u2, u3, u4, u5⟩ := six HV.out
  go_wp2_with fail
  refine (bel_any).mono ?_
  rw [HB.out]
  rintro _ w1 ⟨rfl, bb⟩
  have HV1 := hide (below_box bb HV.out)
  have HBV1 := hide (below_next HBV.out bb (Nat.le_of_lt (box_lt HV.out)))
  clear bb HV HBV u0 u1 u2 u3 u4 u5
  obtain ⟨_, _, _, _, _, _, u0, u1, u2, u3, u4, u5⟩ := six HV1.out
  go_wp2
  go_ret
  exact ⟨by first | rw [HQ.out]; rfl | rfl, by rw [HBB.out]; exact HBV1.out⟩

set_option maxRecDepth 100000 in
set_option maxHeartbeats 2000000 in
theorem left_2 {W : World} {ck ep un se ki ak : Int}  (h : belG ⟨ck, ep, un, se, ki, ak⟩ = true) :
    Calls Try.prog 12 #[.agg #[.int .i64 ck, .int .i64 ep, .int .i64 un, .int .i64 se, .int .i64 ki, .int .i64 ak]] W fun e w' => e = .returned (.int .i64 (leftG ⟨ck, ep, un, se, ki, ak⟩)) ∧ Below W.heap.size W w' := by
  have HQ : Hid (leftG ⟨ck, ep, un, se, ki, ak⟩ = un - ck) := hide (if_pos h)
  have e1 : IntKind.i64.wrap (un - ck) = un - ck := by have := (bel_ok h).1; unfold okG at this; simp only at this; rw [IntKind.wrap_i64]; omega
  have HB := hide h
  clear h
  obtain ⟨V, hV⟩ : ∃ V, V = W.alloc (.cells #[.int .i64 ck, .int .i64 ep, .int .i64 un, .int .i64 se, .int .i64 ki, .int .i64 ak] 23 (0, 0)) := ⟨_, rfl⟩
  have HV : Hid (V.heap[W.heap.size]? = some (.cells #[.int .i64 ck, .int .i64 ep, .int .i64 un, .int .i64 se, .int .i64 ki, .int .i64 ak] 23 (0, 0))) := hide (by rw [hV]; exact heap_alloc_new W _)
  have HBV : Hid (Below W.heap.size W V) := hide (by rw [hV]; exact alloc_below _ _)
  obtain ⟨bB, hbB⟩ : ∃ bB, W.heap.size = bB := ⟨_, rfl⟩
  rw [hbB] at HV HBV
  have HBB := hide hbB
  go_enter Try.func12, Try.ntmps12
  go_upto_region 1 with fail
  rw [← hV]
  try rw [hbB]
  clear hV hbB
  obtain ⟨_, _, _, _, _, _, u0, u1, u2, u3, u4, u5⟩ := six HV.out
  go_wp2_with fail
  refine (bel_any).mono ?_
  rw [HB.out]
  rintro _ w1 ⟨rfl, bb⟩
  have HV1 := hide (below_box bb HV.out)
  have HBV1 := hide (below_next HBV.out bb (Nat.le_of_lt (box_lt HV.out)))
  clear bb HV HBV u0 u1 u2 u3 u4 u5
  obtain ⟨_, _, _, _, _, _, u0, u1, u2, u3, u4, u5⟩ := six HV1.out
  go_wp2
  go_ret
  exact ⟨by first | rw [HQ.out]; rfl | rfl, by rw [HBB.out]; exact HBV1.out⟩

theorem left_any {W : World} {ck ep un se ki ak : Int} : Calls Try.prog 12 #[.agg #[.int .i64 ck, .int .i64 ep, .int .i64 un, .int .i64 se, .int .i64 ki, .int .i64 ak]] W fun e w' => e = .returned (.int .i64 (leftG ⟨ck, ep, un, se, ki, ak⟩)) ∧ Below W.heap.size W w' := by
  cases h : belG ⟨ck, ep, un, se, ki, ak⟩ with
  | true => exact left_2 h
  | false => exact left_1 h
set_option maxRecDepth 100000 in
set_option maxHeartbeats 2000000 in
theorem rleft_1 {W : World} {ck ep un se ki ak : Int}  (h : belG ⟨ck, ep, un, se, ki, ak⟩ = false) :
    Calls Try.prog 13 #[.agg #[.int .i64 ck, .int .i64 ep, .int .i64 un, .int .i64 se, .int .i64 ki, .int .i64 ak]] W fun e w' => e = .returned (.int .i64 (leftG ⟨ck, ep, un, se, ki, ak⟩)) ∧ Below W.heap.size W w' := by
  have HQ : Hid (leftG ⟨ck, ep, un, se, ki, ak⟩ = 0) := hide (if_neg (by rw [h]; simp))
  have HB := hide h
  clear h
  obtain ⟨V, hV⟩ : ∃ V, V = W.alloc (.cells #[.int .i64 ck, .int .i64 ep, .int .i64 un, .int .i64 se, .int .i64 ki, .int .i64 ak] 23 (0, 0)) := ⟨_, rfl⟩
  have HV : Hid (V.heap[W.heap.size]? = some (.cells #[.int .i64 ck, .int .i64 ep, .int .i64 un, .int .i64 se, .int .i64 ki, .int .i64 ak] 23 (0, 0))) := hide (by rw [hV]; exact heap_alloc_new W _)
  have HBV : Hid (Below W.heap.size W V) := hide (by rw [hV]; exact alloc_below _ _)
  obtain ⟨bB, hbB⟩ : ∃ bB, W.heap.size = bB := ⟨_, rfl⟩
  rw [hbB] at HV HBV
  have HBB := hide hbB
  go_enter Try.func13, Try.ntmps13
  go_upto_region 1 with fail
  rw [← hV]
  try rw [hbB]
  clear hV hbB
  obtain ⟨_, _, _, _, _, _, u0, u1, u2, u3, u4, u5⟩ := six HV.out
  go_wp2_with fail
  refine (rbel_any).mono ?_
  rw [HB.out]
  rintro _ w1 ⟨rfl, bb⟩
  have HV1 := hide (below_box bb HV.out)
  have HBV1 := hide (below_next HBV.out bb (Nat.le_of_lt (box_lt HV.out)))
  clear bb HV HBV u0 u1 u2 u3 u4 u5
  obtain ⟨_, _, _, _, _, _, u0, u1, u2, u3, u4, u5⟩ := six HV1.out
  go_wp2
  go_ret
  exact ⟨by first | rw [HQ.out]; rfl | rfl, by rw [HBB.out]; exact HBV1.out⟩

set_option maxRecDepth 100000 in
set_option maxHeartbeats 2000000 in
theorem rleft_2 {W : World} {ck ep un se ki ak : Int}  (h : belG ⟨ck, ep, un, se, ki, ak⟩ = true) :
    Calls Try.prog 13 #[.agg #[.int .i64 ck, .int .i64 ep, .int .i64 un, .int .i64 se, .int .i64 ki, .int .i64 ak]] W fun e w' => e = .returned (.int .i64 (leftG ⟨ck, ep, un, se, ki, ak⟩)) ∧ Below W.heap.size W w' := by
  have HQ : Hid (leftG ⟨ck, ep, un, se, ki, ak⟩ = un - ck) := hide (if_pos h)
  have e1 : IntKind.i64.wrap (un - ck) = un - ck := by have := (bel_ok h).1; unfold okG at this; simp only at this; rw [IntKind.wrap_i64]; omega
  have HB := hide h
  clear h
  obtain ⟨V, hV⟩ : ∃ V, V = W.alloc (.cells #[.int .i64 ck, .int .i64 ep, .int .i64 un, .int .i64 se, .int .i64 ki, .int .i64 ak] 23 (0, 0)) := ⟨_, rfl⟩
  have HV : Hid (V.heap[W.heap.size]? = some (.cells #[.int .i64 ck, .int .i64 ep, .int .i64 un, .int .i64 se, .int .i64 ki, .int .i64 ak] 23 (0, 0))) := hide (by rw [hV]; exact heap_alloc_new W _)
  have HBV : Hid (Below W.heap.size W V) := hide (by rw [hV]; exact alloc_below _ _)
  obtain ⟨bB, hbB⟩ : ∃ bB, W.heap.size = bB := ⟨_, rfl⟩
  rw [hbB] at HV HBV
  have HBB := hide hbB
  go_enter Try.func13, Try.ntmps13
  go_upto_region 1 with fail
  rw [← hV]
  try rw [hbB]
  clear hV hbB
  obtain ⟨_, _, _, _, _, _, u0, u1, u2, u3, u4, u5⟩ := six HV.out
  go_wp2_with fail
  refine (rbel_any).mono ?_
  rw [HB.out]
  rintro _ w1 ⟨rfl, bb⟩
  have HV1 := hide (below_box bb HV.out)
  have HBV1 := hide (below_next HBV.out bb (Nat.le_of_lt (box_lt HV.out)))
  clear bb HV HBV u0 u1 u2 u3 u4 u5
  obtain ⟨_, _, _, _, _, _, u0, u1, u2, u3, u4, u5⟩ := six HV1.out
  go_wp2
  go_ret
  exact ⟨by first | rw [HQ.out]; rfl | rfl, by rw [HBB.out]; exact HBV1.out⟩

theorem rleft_any {W : World} {ck ep un se ki ak : Int} : Calls Try.prog 13 #[.agg #[.int .i64 ck, .int .i64 ep, .int .i64 un, .int .i64 se, .int .i64 ki, .int .i64 ak]] W fun e w' => e = .returned (.int .i64 (leftG ⟨ck, ep, un, se, ki, ak⟩)) ∧ Below W.heap.size W w' := by
  cases h : belG ⟨ck, ep, un, se, ki, ak⟩ with
  | true => exact rleft_2 h
  | false => exact rleft_1 h
set_option maxRecDepth 100000 in
set_option maxHeartbeats 2000000 in
theorem due_1 {W : World} {ck ep un se ki ak : Int}  (h : 6 < leftG ⟨ck, ep, un, se, ki, ak⟩) :
    Calls Try.prog 14 #[.agg #[.int .i64 ck, .int .i64 ep, .int .i64 un, .int .i64 se, .int .i64 ki, .int .i64 ak]] W fun e w' => e = .returned (.bool (dueG ⟨ck, ep, un, se, ki, ak⟩)) ∧ Below W.heap.size W w' := by
  have HQ : Hid (dueG ⟨ck, ep, un, se, ki, ak⟩ = false) := hide (by unfold dueG; rw [decide_eq_false (by omega)]; rfl)
  obtain ⟨l, hl⟩ : ∃ l, leftG ⟨ck, ep, un, se, ki, ak⟩ = l := ⟨_, rfl⟩
  rw [hl] at h
  have d1 : decide (l ≤ 6) = false := decide_eq_false (by omega)
  have HL := hide hl
  clear h hl
  obtain ⟨V, hV⟩ : ∃ V, V = W.alloc (.cells #[.int .i64 ck, .int .i64 ep, .int .i64 un, .int .i64 se, .int .i64 ki, .int .i64 ak] 23 (0, 0)) := ⟨_, rfl⟩
  have HV : Hid (V.heap[W.heap.size]? = some (.cells #[.int .i64 ck, .int .i64 ep, .int .i64 un, .int .i64 se, .int .i64 ki, .int .i64 ak] 23 (0, 0))) := hide (by rw [hV]; exact heap_alloc_new W _)
  have HBV : Hid (Below W.heap.size W V) := hide (by rw [hV]; exact alloc_below _ _)
  obtain ⟨bB, hbB⟩ : ∃ bB, W.heap.size = bB := ⟨_, rfl⟩
  rw [hbB] at HV HBV
  have HBB := hide hbB
  go_enter Try.func14, Try.ntmps14
  go_upto_region 1 with fail
  rw [← hV]
  try rw [hbB]
  clear hV hbB
  obtain ⟨_, _, _, _, _, _, u0, u1, u2, u3, u4, u5⟩ := six HV.out
  go_wp2_with fail
  refine (left_any).mono ?_
  rw [HL.out]
  rintro _ w1 ⟨rfl, bb⟩
  have HV1 := hide (below_box bb HV.out)
  have HBV1 := hide (below_next HBV.out bb (Nat.le_of_lt (box_lt HV.out)))
  clear bb HV HBV u0 u1 u2 u3 u4 u5
  obtain ⟨_, _, _, _, _, _, u0, u1, u2, u3, u4, u5⟩ := six HV1.out
  go_wp2
  go_ret
  exact ⟨by first | rw [HQ.out]; rfl | rfl, by rw [HBB.out]; exact HBV1.out⟩

set_option maxRecDepth 100000 in
set_option maxHeartbeats 2000000 in
theorem due_2 {W : World} {ck ep un se ki ak : Int}  (h : leftG ⟨ck, ep, un, se, ki, ak⟩ ≤ 6) :
    Calls Try.prog 14 #[.agg #[.int .i64 ck, .int .i64 ep, .int .i64 un, .int .i64 se, .int .i64 ki, .int .i64 ak]] W fun e w' => e = .returned (.bool (dueG ⟨ck, ep, un, se, ki, ak⟩)) ∧ Below W.heap.size W w' := by
  obtain ⟨⟨c, x, u, s, k, a⟩, hs⟩ : ∃ q, sndG ⟨ck, ep, un, se, ki, ak⟩ = q := ⟨_, rfl⟩
  have hok : okG ⟨c, x, u, s, k, a⟩ := by rw [← hs]; exact snd_ok _
  have HOK := hide hok
  have HS := hide hs
  have HQ : Hid (dueG ⟨ck, ep, un, se, ki, ak⟩ = mayG ⟨c, x, u, s, k, a⟩) := hide (by unfold dueG; rw [decide_eq_true h, hs]; rfl)
  obtain ⟨l, hl⟩ : ∃ l, leftG ⟨ck, ep, un, se, ki, ak⟩ = l := ⟨_, rfl⟩
  rw [hl] at h
  have d1 : decide (l ≤ 6) = true := decide_eq_true h
  obtain ⟨m, hm⟩ : ∃ m, mayG ⟨c, x, u, s, k, a⟩ = m := ⟨_, rfl⟩
  rw [hm] at HQ
  have HM := hide hm
  have HL := hide hl
  clear h hl hs hok hm
  obtain ⟨V, hV⟩ : ∃ V, V = W.alloc (.cells #[.int .i64 ck, .int .i64 ep, .int .i64 un, .int .i64 se, .int .i64 ki, .int .i64 ak] 23 (0, 0)) := ⟨_, rfl⟩
  have HV : Hid (V.heap[W.heap.size]? = some (.cells #[.int .i64 ck, .int .i64 ep, .int .i64 un, .int .i64 se, .int .i64 ki, .int .i64 ak] 23 (0, 0))) := hide (by rw [hV]; exact heap_alloc_new W _)
  have HBV : Hid (Below W.heap.size W V) := hide (by rw [hV]; exact alloc_below _ _)
  obtain ⟨bB, hbB⟩ : ∃ bB, W.heap.size = bB := ⟨_, rfl⟩
  rw [hbB] at HV HBV
  have HBB := hide hbB
  go_enter Try.func14, Try.ntmps14
  go_upto_region 1 with fail
  rw [← hV]
  try rw [hbB]
  clear hV hbB
  obtain ⟨_, _, _, _, _, _, u0, u1, u2, u3, u4, u5⟩ := six HV.out
  go_wp2_with fail
  refine (left_any).mono ?_
  rw [HL.out]
  rintro _ w1 ⟨rfl, bb⟩
  have HV1 := hide (below_box bb HV.out)
  have HBV1 := hide (below_next HBV.out bb (Nat.le_of_lt (box_lt HV.out)))
  clear bb HV HBV u0 u1 u2 u3 u4 u5
  obtain ⟨_, _, _, _, _, _, u0, u1, u2, u3, u4, u5⟩ := six HV1.out
  go_wp2_with fail
  refine (snd_any).mono ?_
  rw [HS.out]
  simp only [GE.val, GE.row]
  rintro _ w2 ⟨rfl, bb⟩
  have HV2 := hide (below_box bb HV1.out)
  have HBV2 := hide (below_next HBV1.out bb (Nat.le_of_lt (box_lt HV1.out)))
  clear bb HV1 HBV1 u0 u1 u2 u3 u4 u5
  obtain ⟨_, _, _, _, _, _, u0, u1, u2, u3, u4, u5⟩ := six HV2.out
  go_wp2_with fail
  refine (mayask_any HOK.out.1 HOK.out.2.2.2.2.1).mono ?_
  rw [HM.out]
  rintro _ w3 ⟨rfl, bb⟩
  have HV3 := hide (below_box bb HV2.out)
  have HBV3 := hide (below_next HBV2.out bb (Nat.le_of_lt (box_lt HV2.out)))
  clear bb HV2 HBV2 u0 u1 u2 u3 u4 u5
  obtain ⟨_, _, _, _, _, _, u0, u1, u2, u3, u4, u5⟩ := six HV3.out
  go_wp2
  go_ret
  exact ⟨by first | rw [HQ.out]; rfl | rfl, by rw [HBB.out]; exact HBV3.out⟩

theorem due_any {W : World} {ck ep un se ki ak : Int} : Calls Try.prog 14 #[.agg #[.int .i64 ck, .int .i64 ep, .int .i64 un, .int .i64 se, .int .i64 ki, .int .i64 ak]] W fun e w' => e = .returned (.bool (dueG ⟨ck, ep, un, se, ki, ak⟩)) ∧ Below W.heap.size W w' := by
  by_cases h : leftG ⟨ck, ep, un, se, ki, ak⟩ ≤ 6
  · exact due_2 h
  · exact due_1 (by omega)
set_option maxRecDepth 100000 in
set_option maxHeartbeats 2000000 in
theorem rdue_00 {W : World} {ck ep un se ki ak : Int}  {c x u s k a : Int} (hs : sndG ⟨ck, ep, un, se, ki, ak⟩ = ⟨c, x, u, s, k, a⟩) (h : x = 0) (h2 : k = 0) :
    Calls Try.prog 15 #[.agg #[.int .i64 ck, .int .i64 ep, .int .i64 un, .int .i64 se, .int .i64 ki, .int .i64 ak]] W fun e w' => e = .returned (.bool (dueG ⟨ck, ep, un, se, ki, ak⟩)) ∧ Below W.heap.size W w' := by
  have HQ : Hid (dueG ⟨ck, ep, un, se, ki, ak⟩ = true) := hide (by unfold dueG; rw [hs]; rw [left_none (g := ⟨ck, ep, un, se, ki, ak⟩) (by rw [hs]; exact h)]; simp; unfold mayG; simp only [decide_eq_true_eq]; exact (.inl h2))
  have hok : okG ⟨c, x, u, s, k, a⟩ := by rw [← hs]; exact snd_ok _
  have HS := hide hs
  have d1 : (x == 0) = true := by simpa using h
  have d2 : (k == 0) = true := by simpa using h2
  clear hs h hok h2
  obtain ⟨V, hV⟩ : ∃ V, V = W.alloc (.cells #[.int .i64 ck, .int .i64 ep, .int .i64 un, .int .i64 se, .int .i64 ki, .int .i64 ak] 23 (0, 0)) := ⟨_, rfl⟩
  have HV : Hid (V.heap[W.heap.size]? = some (.cells #[.int .i64 ck, .int .i64 ep, .int .i64 un, .int .i64 se, .int .i64 ki, .int .i64 ak] 23 (0, 0))) := hide (by rw [hV]; exact heap_alloc_new W _)
  have HBV : Hid (Below W.heap.size W V) := hide (by rw [hV]; exact alloc_below _ _)
  obtain ⟨bB, hbB⟩ : ∃ bB, W.heap.size = bB := ⟨_, rfl⟩
  rw [hbB] at HV HBV
  have HBB := hide hbB
  go_enter Try.func15, Try.ntmps15
  go_upto_region 1 with fail
  rw [← hV]
  try rw [hbB]
  clear hV hbB
  obtain ⟨_, _, _, _, _, _, u0, u1, u2, u3, u4, u5⟩ := six HV.out
  go_wp2_with fail
  refine (may_any).mono ?_
  rw [HS.out]
  simp only [GE.val, GE.row]
  rintro _ w1 ⟨rfl, bb⟩
  have HV1 := hide (below_box bb HV.out)
  have HBV1 := hide (below_next HBV.out bb (Nat.le_of_lt (box_lt HV.out)))
  clear bb HV HBV u0 u1 u2 u3 u4 u5
  obtain ⟨_, _, _, _, _, _, u0, u1, u2, u3, u4, u5⟩ := six HV1.out
  go_upto_region 2 with fail
  obtain ⟨X, hX⟩ : ∃ X, X = ((((((w1.setCell ⟨bB, 0, none⟩ (.int .i64 c)).setCell ⟨bB, 1, none⟩ (.int .i64 x)).setCell ⟨bB, 2, none⟩ (.int .i64 u)).setCell ⟨bB, 3, none⟩ (.int .i64 s)).setCell ⟨bB, 4, none⟩ (.int .i64 k)).setCell ⟨bB, 5, none⟩ (.int .i64 a)) := ⟨_, rfl⟩
  have HV2 : Hid (X.heap[bB]? = some (.cells #[.int .i64 c, .int .i64 x, .int .i64 u, .int .i64 s, .int .i64 k, .int .i64 a] 23 (0, 0))) := hide (by rw [hX]; exact heap_set6 HV1.out (.int .i64 c) (.int .i64 x) (.int .i64 u) (.int .i64 s) (.int .i64 k) (.int .i64 a))
  have HBV2 := hide (HBV1.out.trans (show Below bB w1 X by rw [hX]; exact (only_set6 w1 bB (.int .i64 c) (.int .i64 x) (.int .i64 u) (.int .i64 s) (.int .i64 k) (.int .i64 a)).below (Nat.le_of_lt (box_lt HV1.out)) (fun i e => by have e' : i = bB := e; omega)))
  rw [← hX]
  clear hX HV1 HBV1 u0 u1 u2 u3 u4 u5
  obtain ⟨_, _, _, _, _, _, u0, u1, u2, u3, u4, u5⟩ := six HV2.out
  go_wp2
  go_ret
  exact ⟨by first | rw [HQ.out]; rfl | rfl, by rw [HBB.out]; exact HBV2.out⟩

set_option maxRecDepth 100000 in
set_option maxHeartbeats 2000000 in
theorem rdue_01 {W : World} {ck ep un se ki ak : Int}  {c x u s k a : Int} (hs : sndG ⟨ck, ep, un, se, ki, ak⟩ = ⟨c, x, u, s, k, a⟩) (h : x = 0) (h2 : k ≠ 0) (h3 : 4 ≤ c - a) :
    Calls Try.prog 15 #[.agg #[.int .i64 ck, .int .i64 ep, .int .i64 un, .int .i64 se, .int .i64 ki, .int .i64 ak]] W fun e w' => e = .returned (.bool (dueG ⟨ck, ep, un, se, ki, ak⟩)) ∧ Below W.heap.size W w' := by
  have HQ : Hid (dueG ⟨ck, ep, un, se, ki, ak⟩ = true) := hide (by unfold dueG; rw [hs]; rw [left_none (g := ⟨ck, ep, un, se, ki, ak⟩) (by rw [hs]; exact h)]; simp; unfold mayG; simp only [decide_eq_true_eq]; exact (.inr h3))
  have hok : okG ⟨c, x, u, s, k, a⟩ := by rw [← hs]; exact snd_ok _
  have e1 : IntKind.i64.wrap (c - a) = c - a := by unfold okG at hok; simp only at hok; rw [IntKind.wrap_i64]; omega
  have HS := hide hs
  have d1 : (x == 0) = true := by simpa using h
  have d2 : (k == 0) = false := ne_eqL h2
  have d3 : decide (c - a ≥ 4) = true := decide_eq_true h3
  clear hs h hok h2 h3
  obtain ⟨V, hV⟩ : ∃ V, V = W.alloc (.cells #[.int .i64 ck, .int .i64 ep, .int .i64 un, .int .i64 se, .int .i64 ki, .int .i64 ak] 23 (0, 0)) := ⟨_, rfl⟩
  have HV : Hid (V.heap[W.heap.size]? = some (.cells #[.int .i64 ck, .int .i64 ep, .int .i64 un, .int .i64 se, .int .i64 ki, .int .i64 ak] 23 (0, 0))) := hide (by rw [hV]; exact heap_alloc_new W _)
  have HBV : Hid (Below W.heap.size W V) := hide (by rw [hV]; exact alloc_below _ _)
  obtain ⟨bB, hbB⟩ : ∃ bB, W.heap.size = bB := ⟨_, rfl⟩
  rw [hbB] at HV HBV
  have HBB := hide hbB
  go_enter Try.func15, Try.ntmps15
  go_upto_region 1 with fail
  rw [← hV]
  try rw [hbB]
  clear hV hbB
  obtain ⟨_, _, _, _, _, _, u0, u1, u2, u3, u4, u5⟩ := six HV.out
  go_wp2_with fail
  refine (may_any).mono ?_
  rw [HS.out]
  simp only [GE.val, GE.row]
  rintro _ w1 ⟨rfl, bb⟩
  have HV1 := hide (below_box bb HV.out)
  have HBV1 := hide (below_next HBV.out bb (Nat.le_of_lt (box_lt HV.out)))
  clear bb HV HBV u0 u1 u2 u3 u4 u5
  obtain ⟨_, _, _, _, _, _, u0, u1, u2, u3, u4, u5⟩ := six HV1.out
  go_upto_region 2 with fail
  obtain ⟨X, hX⟩ : ∃ X, X = ((((((w1.setCell ⟨bB, 0, none⟩ (.int .i64 c)).setCell ⟨bB, 1, none⟩ (.int .i64 x)).setCell ⟨bB, 2, none⟩ (.int .i64 u)).setCell ⟨bB, 3, none⟩ (.int .i64 s)).setCell ⟨bB, 4, none⟩ (.int .i64 k)).setCell ⟨bB, 5, none⟩ (.int .i64 a)) := ⟨_, rfl⟩
  have HV2 : Hid (X.heap[bB]? = some (.cells #[.int .i64 c, .int .i64 x, .int .i64 u, .int .i64 s, .int .i64 k, .int .i64 a] 23 (0, 0))) := hide (by rw [hX]; exact heap_set6 HV1.out (.int .i64 c) (.int .i64 x) (.int .i64 u) (.int .i64 s) (.int .i64 k) (.int .i64 a))
  have HBV2 := hide (HBV1.out.trans (show Below bB w1 X by rw [hX]; exact (only_set6 w1 bB (.int .i64 c) (.int .i64 x) (.int .i64 u) (.int .i64 s) (.int .i64 k) (.int .i64 a)).below (Nat.le_of_lt (box_lt HV1.out)) (fun i e => by have e' : i = bB := e; omega)))
  rw [← hX]
  clear hX HV1 HBV1 u0 u1 u2 u3 u4 u5
  obtain ⟨_, _, _, _, _, _, u0, u1, u2, u3, u4, u5⟩ := six HV2.out
  go_wp2
  go_ret
  exact ⟨by first | rw [HQ.out]; rfl | rfl, by rw [HBB.out]; exact HBV2.out⟩

set_option maxRecDepth 100000 in
set_option maxHeartbeats 2000000 in
theorem rdue_02 {W : World} {ck ep un se ki ak : Int}  {c x u s k a : Int} (hs : sndG ⟨ck, ep, un, se, ki, ak⟩ = ⟨c, x, u, s, k, a⟩) (h : x = 0) (h2 : k ≠ 0) (h3 : ¬ 4 ≤ c - a) :
    Calls Try.prog 15 #[.agg #[.int .i64 ck, .int .i64 ep, .int .i64 un, .int .i64 se, .int .i64 ki, .int .i64 ak]] W fun e w' => e = .returned (.bool (dueG ⟨ck, ep, un, se, ki, ak⟩)) ∧ Below W.heap.size W w' := by
  have HQ : Hid (dueG ⟨ck, ep, un, se, ki, ak⟩ = false) := hide (by unfold dueG; rw [hs]; rw [left_none (g := ⟨ck, ep, un, se, ki, ak⟩) (by rw [hs]; exact h)]; simp; unfold mayG; simp only [decide_eq_false_iff_not, not_or]; exact ⟨h2, by omega⟩)
  have hok : okG ⟨c, x, u, s, k, a⟩ := by rw [← hs]; exact snd_ok _
  have e1 : IntKind.i64.wrap (c - a) = c - a := by unfold okG at hok; simp only at hok; rw [IntKind.wrap_i64]; omega
  have HS := hide hs
  have d1 : (x == 0) = true := by simpa using h
  have d2 : (k == 0) = false := ne_eqL h2
  have d3 : decide (c - a ≥ 4) = false := decide_eq_false h3
  clear hs h hok h2 h3
  obtain ⟨V, hV⟩ : ∃ V, V = W.alloc (.cells #[.int .i64 ck, .int .i64 ep, .int .i64 un, .int .i64 se, .int .i64 ki, .int .i64 ak] 23 (0, 0)) := ⟨_, rfl⟩
  have HV : Hid (V.heap[W.heap.size]? = some (.cells #[.int .i64 ck, .int .i64 ep, .int .i64 un, .int .i64 se, .int .i64 ki, .int .i64 ak] 23 (0, 0))) := hide (by rw [hV]; exact heap_alloc_new W _)
  have HBV : Hid (Below W.heap.size W V) := hide (by rw [hV]; exact alloc_below _ _)
  obtain ⟨bB, hbB⟩ : ∃ bB, W.heap.size = bB := ⟨_, rfl⟩
  rw [hbB] at HV HBV
  have HBB := hide hbB
  go_enter Try.func15, Try.ntmps15
  go_upto_region 1 with fail
  rw [← hV]
  try rw [hbB]
  clear hV hbB
  obtain ⟨_, _, _, _, _, _, u0, u1, u2, u3, u4, u5⟩ := six HV.out
  go_wp2_with fail
  refine (may_any).mono ?_
  rw [HS.out]
  simp only [GE.val, GE.row]
  rintro _ w1 ⟨rfl, bb⟩
  have HV1 := hide (below_box bb HV.out)
  have HBV1 := hide (below_next HBV.out bb (Nat.le_of_lt (box_lt HV.out)))
  clear bb HV HBV u0 u1 u2 u3 u4 u5
  obtain ⟨_, _, _, _, _, _, u0, u1, u2, u3, u4, u5⟩ := six HV1.out
  go_upto_region 2 with fail
  obtain ⟨X, hX⟩ : ∃ X, X = ((((((w1.setCell ⟨bB, 0, none⟩ (.int .i64 c)).setCell ⟨bB, 1, none⟩ (.int .i64 x)).setCell ⟨bB, 2, none⟩ (.int .i64 u)).setCell ⟨bB, 3, none⟩ (.int .i64 s)).setCell ⟨bB, 4, none⟩ (.int .i64 k)).setCell ⟨bB, 5, none⟩ (.int .i64 a)) := ⟨_, rfl⟩
  have HV2 : Hid (X.heap[bB]? = some (.cells #[.int .i64 c, .int .i64 x, .int .i64 u, .int .i64 s, .int .i64 k, .int .i64 a] 23 (0, 0))) := hide (by rw [hX]; exact heap_set6 HV1.out (.int .i64 c) (.int .i64 x) (.int .i64 u) (.int .i64 s) (.int .i64 k) (.int .i64 a))
  have HBV2 := hide (HBV1.out.trans (show Below bB w1 X by rw [hX]; exact (only_set6 w1 bB (.int .i64 c) (.int .i64 x) (.int .i64 u) (.int .i64 s) (.int .i64 k) (.int .i64 a)).below (Nat.le_of_lt (box_lt HV1.out)) (fun i e => by have e' : i = bB := e; omega)))
  rw [← hX]
  clear hX HV1 HBV1 u0 u1 u2 u3 u4 u5
  obtain ⟨_, _, _, _, _, _, u0, u1, u2, u3, u4, u5⟩ := six HV2.out
  go_wp2
  go_ret
  exact ⟨by first | rw [HQ.out]; rfl | rfl, by rw [HBB.out]; exact HBV2.out⟩

set_option maxRecDepth 100000 in
set_option maxHeartbeats 2000000 in
theorem rdue_10 {W : World} {ck ep un se ki ak : Int}  {c x u s k a : Int} (hs : sndG ⟨ck, ep, un, se, ki, ak⟩ = ⟨c, x, u, s, k, a⟩) (h : x ≠ 0) (h1 : leftG ⟨ck, ep, un, se, ki, ak⟩ ≤ 6) (h2 : k = 0) :
    Calls Try.prog 15 #[.agg #[.int .i64 ck, .int .i64 ep, .int .i64 un, .int .i64 se, .int .i64 ki, .int .i64 ak]] W fun e w' => e = .returned (.bool (dueG ⟨ck, ep, un, se, ki, ak⟩)) ∧ Below W.heap.size W w' := by
  have HQ : Hid (dueG ⟨ck, ep, un, se, ki, ak⟩ = true) := hide (by unfold dueG; rw [hs]; rw [decide_eq_true h1]; simp; unfold mayG; simp only [decide_eq_true_eq]; exact (.inl h2))
  have hok : okG ⟨c, x, u, s, k, a⟩ := by rw [← hs]; exact snd_ok _
  have hls : leftG ⟨c, x, u, s, k, a⟩ = leftG ⟨ck, ep, un, se, ki, ak⟩ := by rw [← hs]; exact left_snd _
  obtain ⟨l, hl⟩ : ∃ l, leftG ⟨ck, ep, un, se, ki, ak⟩ = l := ⟨_, rfl⟩
  rw [hl] at h1 hls
  have HL := hide hls
  have d4 : decide (l ≤ 6) = true := decide_eq_true h1
  have HS := hide hs
  have d1 : (x == 0) = false := ne_eqL h
  have d2 : (k == 0) = true := by simpa using h2
  clear hs h hok h1 hl hls h2
  obtain ⟨V, hV⟩ : ∃ V, V = W.alloc (.cells #[.int .i64 ck, .int .i64 ep, .int .i64 un, .int .i64 se, .int .i64 ki, .int .i64 ak] 23 (0, 0)) := ⟨_, rfl⟩
  have HV : Hid (V.heap[W.heap.size]? = some (.cells #[.int .i64 ck, .int .i64 ep, .int .i64 un, .int .i64 se, .int .i64 ki, .int .i64 ak] 23 (0, 0))) := hide (by rw [hV]; exact heap_alloc_new W _)
  have HBV : Hid (Below W.heap.size W V) := hide (by rw [hV]; exact alloc_below _ _)
  obtain ⟨bB, hbB⟩ : ∃ bB, W.heap.size = bB := ⟨_, rfl⟩
  rw [hbB] at HV HBV
  have HBB := hide hbB
  go_enter Try.func15, Try.ntmps15
  go_upto_region 1 with fail
  rw [← hV]
  try rw [hbB]
  clear hV hbB
  obtain ⟨_, _, _, _, _, _, u0, u1, u2, u3, u4, u5⟩ := six HV.out
  go_wp2_with fail
  refine (may_any).mono ?_
  rw [HS.out]
  simp only [GE.val, GE.row]
  rintro _ w1 ⟨rfl, bb⟩
  have HV1 := hide (below_box bb HV.out)
  have HBV1 := hide (below_next HBV.out bb (Nat.le_of_lt (box_lt HV.out)))
  clear bb HV HBV u0 u1 u2 u3 u4 u5
  obtain ⟨_, _, _, _, _, _, u0, u1, u2, u3, u4, u5⟩ := six HV1.out
  go_upto_region 2 with fail
  obtain ⟨X, hX⟩ : ∃ X, X = ((((((w1.setCell ⟨bB, 0, none⟩ (.int .i64 c)).setCell ⟨bB, 1, none⟩ (.int .i64 x)).setCell ⟨bB, 2, none⟩ (.int .i64 u)).setCell ⟨bB, 3, none⟩ (.int .i64 s)).setCell ⟨bB, 4, none⟩ (.int .i64 k)).setCell ⟨bB, 5, none⟩ (.int .i64 a)) := ⟨_, rfl⟩
  have HV2 : Hid (X.heap[bB]? = some (.cells #[.int .i64 c, .int .i64 x, .int .i64 u, .int .i64 s, .int .i64 k, .int .i64 a] 23 (0, 0))) := hide (by rw [hX]; exact heap_set6 HV1.out (.int .i64 c) (.int .i64 x) (.int .i64 u) (.int .i64 s) (.int .i64 k) (.int .i64 a))
  have HBV2 := hide (HBV1.out.trans (show Below bB w1 X by rw [hX]; exact (only_set6 w1 bB (.int .i64 c) (.int .i64 x) (.int .i64 u) (.int .i64 s) (.int .i64 k) (.int .i64 a)).below (Nat.le_of_lt (box_lt HV1.out)) (fun i e => by have e' : i = bB := e; omega)))
  rw [← hX]
  clear hX HV1 HBV1 u0 u1 u2 u3 u4 u5
  obtain ⟨_, _, _, _, _, _, u0, u1, u2, u3, u4, u5⟩ := six HV2.out
  go_wp2_with fail
  refine (rleft_any).mono ?_
  rw [HL.out]
  rintro _ w3 ⟨rfl, bb⟩
  have HV3 := hide (below_box bb HV2.out)
  have HBV3 := hide (below_next HBV2.out bb (Nat.le_of_lt (box_lt HV2.out)))
  clear bb HV2 HBV2 u0 u1 u2 u3 u4 u5
  obtain ⟨_, _, _, _, _, _, u0, u1, u2, u3, u4, u5⟩ := six HV3.out
  go_wp2
  go_ret
  exact ⟨by first | rw [HQ.out]; rfl | rfl, by rw [HBB.out]; exact HBV3.out⟩

set_option maxRecDepth 100000 in
set_option maxHeartbeats 2000000 in
theorem rdue_11 {W : World} {ck ep un se ki ak : Int}  {c x u s k a : Int} (hs : sndG ⟨ck, ep, un, se, ki, ak⟩ = ⟨c, x, u, s, k, a⟩) (h : x ≠ 0) (h1 : leftG ⟨ck, ep, un, se, ki, ak⟩ ≤ 6) (h2 : k ≠ 0) (h3 : 4 ≤ c - a) :
    Calls Try.prog 15 #[.agg #[.int .i64 ck, .int .i64 ep, .int .i64 un, .int .i64 se, .int .i64 ki, .int .i64 ak]] W fun e w' => e = .returned (.bool (dueG ⟨ck, ep, un, se, ki, ak⟩)) ∧ Below W.heap.size W w' := by
  have HQ : Hid (dueG ⟨ck, ep, un, se, ki, ak⟩ = true) := hide (by unfold dueG; rw [hs]; rw [decide_eq_true h1]; simp; unfold mayG; simp only [decide_eq_true_eq]; exact (.inr h3))
  have hok : okG ⟨c, x, u, s, k, a⟩ := by rw [← hs]; exact snd_ok _
  have hls : leftG ⟨c, x, u, s, k, a⟩ = leftG ⟨ck, ep, un, se, ki, ak⟩ := by rw [← hs]; exact left_snd _
  obtain ⟨l, hl⟩ : ∃ l, leftG ⟨ck, ep, un, se, ki, ak⟩ = l := ⟨_, rfl⟩
  rw [hl] at h1 hls
  have HL := hide hls
  have d4 : decide (l ≤ 6) = true := decide_eq_true h1
  have e1 : IntKind.i64.wrap (c - a) = c - a := by unfold okG at hok; simp only at hok; rw [IntKind.wrap_i64]; omega
  have HS := hide hs
  have d1 : (x == 0) = false := ne_eqL h
  have d2 : (k == 0) = false := ne_eqL h2
  have d3 : decide (c - a ≥ 4) = true := decide_eq_true h3
  clear hs h hok h1 hl hls h2 h3
  obtain ⟨V, hV⟩ : ∃ V, V = W.alloc (.cells #[.int .i64 ck, .int .i64 ep, .int .i64 un, .int .i64 se, .int .i64 ki, .int .i64 ak] 23 (0, 0)) := ⟨_, rfl⟩
  have HV : Hid (V.heap[W.heap.size]? = some (.cells #[.int .i64 ck, .int .i64 ep, .int .i64 un, .int .i64 se, .int .i64 ki, .int .i64 ak] 23 (0, 0))) := hide (by rw [hV]; exact heap_alloc_new W _)
  have HBV : Hid (Below W.heap.size W V) := hide (by rw [hV]; exact alloc_below _ _)
  obtain ⟨bB, hbB⟩ : ∃ bB, W.heap.size = bB := ⟨_, rfl⟩
  rw [hbB] at HV HBV
  have HBB := hide hbB
  go_enter Try.func15, Try.ntmps15
  go_upto_region 1 with fail
  rw [← hV]
  try rw [hbB]
  clear hV hbB
  obtain ⟨_, _, _, _, _, _, u0, u1, u2, u3, u4, u5⟩ := six HV.out
  go_wp2_with fail
  refine (may_any).mono ?_
  rw [HS.out]
  simp only [GE.val, GE.row]
  rintro _ w1 ⟨rfl, bb⟩
  have HV1 := hide (below_box bb HV.out)
  have HBV1 := hide (below_next HBV.out bb (Nat.le_of_lt (box_lt HV.out)))
  clear bb HV HBV u0 u1 u2 u3 u4 u5
  obtain ⟨_, _, _, _, _, _, u0, u1, u2, u3, u4, u5⟩ := six HV1.out
  go_upto_region 2 with fail
  obtain ⟨X, hX⟩ : ∃ X, X = ((((((w1.setCell ⟨bB, 0, none⟩ (.int .i64 c)).setCell ⟨bB, 1, none⟩ (.int .i64 x)).setCell ⟨bB, 2, none⟩ (.int .i64 u)).setCell ⟨bB, 3, none⟩ (.int .i64 s)).setCell ⟨bB, 4, none⟩ (.int .i64 k)).setCell ⟨bB, 5, none⟩ (.int .i64 a)) := ⟨_, rfl⟩
  have HV2 : Hid (X.heap[bB]? = some (.cells #[.int .i64 c, .int .i64 x, .int .i64 u, .int .i64 s, .int .i64 k, .int .i64 a] 23 (0, 0))) := hide (by rw [hX]; exact heap_set6 HV1.out (.int .i64 c) (.int .i64 x) (.int .i64 u) (.int .i64 s) (.int .i64 k) (.int .i64 a))
  have HBV2 := hide (HBV1.out.trans (show Below bB w1 X by rw [hX]; exact (only_set6 w1 bB (.int .i64 c) (.int .i64 x) (.int .i64 u) (.int .i64 s) (.int .i64 k) (.int .i64 a)).below (Nat.le_of_lt (box_lt HV1.out)) (fun i e => by have e' : i = bB := e; omega)))
  rw [← hX]
  clear hX HV1 HBV1 u0 u1 u2 u3 u4 u5
  obtain ⟨_, _, _, _, _, _, u0, u1, u2, u3, u4, u5⟩ := six HV2.out
  go_wp2_with fail
  refine (rleft_any).mono ?_
  rw [HL.out]
  rintro _ w3 ⟨rfl, bb⟩
  have HV3 := hide (below_box bb HV2.out)
  have HBV3 := hide (below_next HBV2.out bb (Nat.le_of_lt (box_lt HV2.out)))
  clear bb HV2 HBV2 u0 u1 u2 u3 u4 u5
  obtain ⟨_, _, _, _, _, _, u0, u1, u2, u3, u4, u5⟩ := six HV3.out
  go_wp2
  go_ret
  exact ⟨by first | rw [HQ.out]; rfl | rfl, by rw [HBB.out]; exact HBV3.out⟩

set_option maxRecDepth 100000 in
set_option maxHeartbeats 2000000 in
theorem rdue_12 {W : World} {ck ep un se ki ak : Int}  {c x u s k a : Int} (hs : sndG ⟨ck, ep, un, se, ki, ak⟩ = ⟨c, x, u, s, k, a⟩) (h : x ≠ 0) (h1 : leftG ⟨ck, ep, un, se, ki, ak⟩ ≤ 6) (h2 : k ≠ 0) (h3 : ¬ 4 ≤ c - a) :
    Calls Try.prog 15 #[.agg #[.int .i64 ck, .int .i64 ep, .int .i64 un, .int .i64 se, .int .i64 ki, .int .i64 ak]] W fun e w' => e = .returned (.bool (dueG ⟨ck, ep, un, se, ki, ak⟩)) ∧ Below W.heap.size W w' := by
  have HQ : Hid (dueG ⟨ck, ep, un, se, ki, ak⟩ = false) := hide (by unfold dueG; rw [hs]; rw [decide_eq_true h1]; simp; unfold mayG; simp only [decide_eq_false_iff_not, not_or]; exact ⟨h2, by omega⟩)
  have hok : okG ⟨c, x, u, s, k, a⟩ := by rw [← hs]; exact snd_ok _
  have hls : leftG ⟨c, x, u, s, k, a⟩ = leftG ⟨ck, ep, un, se, ki, ak⟩ := by rw [← hs]; exact left_snd _
  obtain ⟨l, hl⟩ : ∃ l, leftG ⟨ck, ep, un, se, ki, ak⟩ = l := ⟨_, rfl⟩
  rw [hl] at h1 hls
  have HL := hide hls
  have d4 : decide (l ≤ 6) = true := decide_eq_true h1
  have e1 : IntKind.i64.wrap (c - a) = c - a := by unfold okG at hok; simp only at hok; rw [IntKind.wrap_i64]; omega
  have HS := hide hs
  have d1 : (x == 0) = false := ne_eqL h
  have d2 : (k == 0) = false := ne_eqL h2
  have d3 : decide (c - a ≥ 4) = false := decide_eq_false h3
  clear hs h hok h1 hl hls h2 h3
  obtain ⟨V, hV⟩ : ∃ V, V = W.alloc (.cells #[.int .i64 ck, .int .i64 ep, .int .i64 un, .int .i64 se, .int .i64 ki, .int .i64 ak] 23 (0, 0)) := ⟨_, rfl⟩
  have HV : Hid (V.heap[W.heap.size]? = some (.cells #[.int .i64 ck, .int .i64 ep, .int .i64 un, .int .i64 se, .int .i64 ki, .int .i64 ak] 23 (0, 0))) := hide (by rw [hV]; exact heap_alloc_new W _)
  have HBV : Hid (Below W.heap.size W V) := hide (by rw [hV]; exact alloc_below _ _)
  obtain ⟨bB, hbB⟩ : ∃ bB, W.heap.size = bB := ⟨_, rfl⟩
  rw [hbB] at HV HBV
  have HBB := hide hbB
  go_enter Try.func15, Try.ntmps15
  go_upto_region 1 with fail
  rw [← hV]
  try rw [hbB]
  clear hV hbB
  obtain ⟨_, _, _, _, _, _, u0, u1, u2, u3, u4, u5⟩ := six HV.out
  go_wp2_with fail
  refine (may_any).mono ?_
  rw [HS.out]
  simp only [GE.val, GE.row]
  rintro _ w1 ⟨rfl, bb⟩
  have HV1 := hide (below_box bb HV.out)
  have HBV1 := hide (below_next HBV.out bb (Nat.le_of_lt (box_lt HV.out)))
  clear bb HV HBV u0 u1 u2 u3 u4 u5
  obtain ⟨_, _, _, _, _, _, u0, u1, u2, u3, u4, u5⟩ := six HV1.out
  go_upto_region 2 with fail
  obtain ⟨X, hX⟩ : ∃ X, X = ((((((w1.setCell ⟨bB, 0, none⟩ (.int .i64 c)).setCell ⟨bB, 1, none⟩ (.int .i64 x)).setCell ⟨bB, 2, none⟩ (.int .i64 u)).setCell ⟨bB, 3, none⟩ (.int .i64 s)).setCell ⟨bB, 4, none⟩ (.int .i64 k)).setCell ⟨bB, 5, none⟩ (.int .i64 a)) := ⟨_, rfl⟩
  have HV2 : Hid (X.heap[bB]? = some (.cells #[.int .i64 c, .int .i64 x, .int .i64 u, .int .i64 s, .int .i64 k, .int .i64 a] 23 (0, 0))) := hide (by rw [hX]; exact heap_set6 HV1.out (.int .i64 c) (.int .i64 x) (.int .i64 u) (.int .i64 s) (.int .i64 k) (.int .i64 a))
  have HBV2 := hide (HBV1.out.trans (show Below bB w1 X by rw [hX]; exact (only_set6 w1 bB (.int .i64 c) (.int .i64 x) (.int .i64 u) (.int .i64 s) (.int .i64 k) (.int .i64 a)).below (Nat.le_of_lt (box_lt HV1.out)) (fun i e => by have e' : i = bB := e; omega)))
  rw [← hX]
  clear hX HV1 HBV1 u0 u1 u2 u3 u4 u5
  obtain ⟨_, _, _, _, _, _, u0, u1, u2, u3, u4, u5⟩ := six HV2.out
  go_wp2_with fail
  refine (rleft_any).mono ?_
  rw [HL.out]
  rintro _ w3 ⟨rfl, bb⟩
  have HV3 := hide (below_box bb HV2.out)
  have HBV3 := hide (below_next HBV2.out bb (Nat.le_of_lt (box_lt HV2.out)))
  clear bb HV2 HBV2 u0 u1 u2 u3 u4 u5
  obtain ⟨_, _, _, _, _, _, u0, u1, u2, u3, u4, u5⟩ := six HV3.out
  go_wp2
  go_ret
  exact ⟨by first | rw [HQ.out]; rfl | rfl, by rw [HBB.out]; exact HBV3.out⟩

set_option maxRecDepth 100000 in
set_option maxHeartbeats 2000000 in
theorem rdue_20 {W : World} {ck ep un se ki ak : Int}  {c x u s k a : Int} (hs : sndG ⟨ck, ep, un, se, ki, ak⟩ = ⟨c, x, u, s, k, a⟩) (h : x ≠ 0) (h1 : ¬ leftG ⟨ck, ep, un, se, ki, ak⟩ ≤ 6) :
    Calls Try.prog 15 #[.agg #[.int .i64 ck, .int .i64 ep, .int .i64 un, .int .i64 se, .int .i64 ki, .int .i64 ak]] W fun e w' => e = .returned (.bool (dueG ⟨ck, ep, un, se, ki, ak⟩)) ∧ Below W.heap.size W w' := by
  have HQ : Hid (dueG ⟨ck, ep, un, se, ki, ak⟩ = false) := hide (by unfold dueG; rw [hs]; rw [decide_eq_false h1]; rfl)
  have hok : okG ⟨c, x, u, s, k, a⟩ := by rw [← hs]; exact snd_ok _
  have hls : leftG ⟨c, x, u, s, k, a⟩ = leftG ⟨ck, ep, un, se, ki, ak⟩ := by rw [← hs]; exact left_snd _
  obtain ⟨l, hl⟩ : ∃ l, leftG ⟨ck, ep, un, se, ki, ak⟩ = l := ⟨_, rfl⟩
  rw [hl] at h1 hls
  have HL := hide hls
  have d4 : decide (l ≤ 6) = false := decide_eq_false h1
  have HS := hide hs
  have d1 : (x == 0) = false := ne_eqL h
  clear hs h hok h1 hl hls
  obtain ⟨V, hV⟩ : ∃ V, V = W.alloc (.cells #[.int .i64 ck, .int .i64 ep, .int .i64 un, .int .i64 se, .int .i64 ki, .int .i64 ak] 23 (0, 0)) := ⟨_, rfl⟩
  have HV : Hid (V.heap[W.heap.size]? = some (.cells #[.int .i64 ck, .int .i64 ep, .int .i64 un, .int .i64 se, .int .i64 ki, .int .i64 ak] 23 (0, 0))) := hide (by rw [hV]; exact heap_alloc_new W _)
  have HBV : Hid (Below W.heap.size W V) := hide (by rw [hV]; exact alloc_below _ _)
  obtain ⟨bB, hbB⟩ : ∃ bB, W.heap.size = bB := ⟨_, rfl⟩
  rw [hbB] at HV HBV
  have HBB := hide hbB
  go_enter Try.func15, Try.ntmps15
  go_upto_region 1 with fail
  rw [← hV]
  try rw [hbB]
  clear hV hbB
  obtain ⟨_, _, _, _, _, _, u0, u1, u2, u3, u4, u5⟩ := six HV.out
  go_wp2_with fail
  refine (may_any).mono ?_
  rw [HS.out]
  simp only [GE.val, GE.row]
  rintro _ w1 ⟨rfl, bb⟩
  have HV1 := hide (below_box bb HV.out)
  have HBV1 := hide (below_next HBV.out bb (Nat.le_of_lt (box_lt HV.out)))
  clear bb HV HBV u0 u1 u2 u3 u4 u5
  obtain ⟨_, _, _, _, _, _, u0, u1, u2, u3, u4, u5⟩ := six HV1.out
  go_upto_region 2 with fail
  obtain ⟨X, hX⟩ : ∃ X, X = ((((((w1.setCell ⟨bB, 0, none⟩ (.int .i64 c)).setCell ⟨bB, 1, none⟩ (.int .i64 x)).setCell ⟨bB, 2, none⟩ (.int .i64 u)).setCell ⟨bB, 3, none⟩ (.int .i64 s)).setCell ⟨bB, 4, none⟩ (.int .i64 k)).setCell ⟨bB, 5, none⟩ (.int .i64 a)) := ⟨_, rfl⟩
  have HV2 : Hid (X.heap[bB]? = some (.cells #[.int .i64 c, .int .i64 x, .int .i64 u, .int .i64 s, .int .i64 k, .int .i64 a] 23 (0, 0))) := hide (by rw [hX]; exact heap_set6 HV1.out (.int .i64 c) (.int .i64 x) (.int .i64 u) (.int .i64 s) (.int .i64 k) (.int .i64 a))
  have HBV2 := hide (HBV1.out.trans (show Below bB w1 X by rw [hX]; exact (only_set6 w1 bB (.int .i64 c) (.int .i64 x) (.int .i64 u) (.int .i64 s) (.int .i64 k) (.int .i64 a)).below (Nat.le_of_lt (box_lt HV1.out)) (fun i e => by have e' : i = bB := e; omega)))
  rw [← hX]
  clear hX HV1 HBV1 u0 u1 u2 u3 u4 u5
  obtain ⟨_, _, _, _, _, _, u0, u1, u2, u3, u4, u5⟩ := six HV2.out
  go_wp2_with fail
  refine (rleft_any).mono ?_
  rw [HL.out]
  rintro _ w3 ⟨rfl, bb⟩
  have HV3 := hide (below_box bb HV2.out)
  have HBV3 := hide (below_next HBV2.out bb (Nat.le_of_lt (box_lt HV2.out)))
  clear bb HV2 HBV2 u0 u1 u2 u3 u4 u5
  obtain ⟨_, _, _, _, _, _, u0, u1, u2, u3, u4, u5⟩ := six HV3.out
  go_wp2
  go_ret
  exact ⟨by first | rw [HQ.out]; rfl | rfl, by rw [HBB.out]; exact HBV3.out⟩

theorem rdue_any {W : World} {ck ep un se ki ak : Int} : Calls Try.prog 15 #[.agg #[.int .i64 ck, .int .i64 ep, .int .i64 un, .int .i64 se, .int .i64 ki, .int .i64 ak]] W fun e w' => e = .returned (.bool (dueG ⟨ck, ep, un, se, ki, ak⟩)) ∧ Below W.heap.size W w' := by
  obtain ⟨⟨c, x, u, s, k, a⟩, hs⟩ : ∃ q, sndG ⟨ck, ep, un, se, ki, ak⟩ = q := ⟨_, rfl⟩
  by_cases h : x = 0
  · by_cases h2 : k = 0
    · exact rdue_00 hs h h2
    · by_cases h3 : 4 ≤ c - a
      · exact rdue_01 hs h h2 h3
      · exact rdue_02 hs h h2 h3
  · by_cases h1 : leftG ⟨ck, ep, un, se, ki, ak⟩ ≤ 6
    · by_cases h2 : k = 0
      · exact rdue_10 hs h h1 h2
      · by_cases h3 : 4 ≤ c - a
        · exact rdue_11 hs h h1 h2 h3
        · exact rdue_12 hs h h1 h2 h3
    · exact rdue_20 hs h h1
end Go.Proofs.Ytegffdmlkbdcdaa
