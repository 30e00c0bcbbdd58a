/-
  Granted of package guard, and of its reference. No conditions.
-/
import Derived.Test.YtegffdmlkbdcdaaGdf
namespace Go.Proofs.Ytegffdmlkbdcdaa
open Go.RowKit

set_option maxRecDepth 100000 in
set_option maxHeartbeats 2000000 in
theorem grn_w {W : World} {ck ep un se ki ak : Int} {c x u s k a : Int} {n e : Int} (hs : sndG ⟨ck, ep, un, se, ki, ak⟩ = ⟨c, x, u, s, k, a⟩) (hw : awG ⟨c, x, u, s, k, a⟩ n = false) :
    Calls Try.prog 22 #[.agg #[.int .i64 ck, .int .i64 ep, .int .i64 un, .int .i64 se, .int .i64 ki, .int .i64 ak], .int .i64 n, .int .i64 e] W fun z w' => z = .returned (.tuple #[GE.val (grnG ⟨ck, ep, un, se, ki, ak⟩ n e).1, .bool (grnG ⟨ck, ep, un, se, ki, ak⟩ n e).2]) ∧ Below W.heap.size W w' := by
  have HQ : Hid (grnG ⟨ck, ep, un, se, ki, ak⟩ n e = (⟨c, x, u, s, k, a⟩, false)) := hide (by unfold grnG; rw [hs]; exact if_pos (by have := of_decide_eq_false hw; by_cases q : k = 0; exact .inl q; exact .inr (.inl (fun r => this ⟨q, r⟩))))
  have HW := hide hw
  have HS := hide hs
  clear hs hw
  obtain ⟨V0, hV0⟩ : ∃ V0, V0 = W.alloc (.cells #[.int .i64 ck, .int .i64 ep, .int .i64 un, .int .i64 se, .int .i64 ki, .int .i64 ak] 23 (0, 0)) := ⟨_, rfl⟩
  obtain ⟨V, hV⟩ : ∃ V, V = V0.alloc (.cells #[.int .i64 0, .int .i64 0, .int .i64 0, .int .i64 0, .int .i64 0, .int .i64 0] 23 (0, 0)) := ⟨_, rfl⟩
  have bV0 : Below W.heap.size W V0 := by rw [hV0]; exact alloc_below _ _
  have bV1 : Below V0.heap.size V0 V := by rw [hV]; exact alloc_below _ _
  have v0 : V0.heap[W.heap.size]? = some (.cells #[.int .i64 ck, .int .i64 ep, .int .i64 un, .int .i64 se, .int .i64 ki, .int .i64 ak] 23 (0, 0)) := by rw [hV0]; exact heap_alloc_new W _
  have v1 : V.heap[V0.heap.size]? = some (.cells #[.int .i64 0, .int .i64 0, .int .i64 0, .int .i64 0, .int .i64 0, .int .i64 0] 23 (0, 0)) := by rw [hV]; exact heap_alloc_new V0 _
  have v2 := below_box bV1 v0
  have hlt := box_lt v0
  have hs0 : V0.heap.size = W.heap.size + 1 := by rw [hV0]; simp
  obtain ⟨bB, hbB⟩ : ∃ bB, W.heap.size = bB := ⟨_, rfl⟩
  obtain ⟨rB, hrB⟩ : ∃ rB, V0.heap.size = rB := ⟨_, rfl⟩
  have hrb : bB + 1 = rB := by omega
  rw [hbB, hrB] at hlt
  rw [hbB] at v2
  rw [hrB] at v1
  have HBW0 : Hid (Below bB W V) := hide (by rw [← hbB]; exact below_next bV0 bV1 bV0.size)
  have HBX0 := hide v2
  have HRS0 := hide v1
  have HBB := hide hbB
  have HLT := hide hlt
  have HSZ0 := hide (box_lt v1)
  clear v0 v1 v2 bV0 bV1
  go_enter Try.func22, Try.ntmps22
  go_upto_region 1 with fail
  try rw [hbB]
  try rw [hrb]
  rw [← hV0, ← hV]
  try rw [hrB]
  clear hV0 hV hbB hrB hs0 hrb hlt
  obtain ⟨_, _, _, _, _, _, u0, u1, u2, u3, u4, u5⟩ := six HBX0.out
  go_wp2_with fail
  refine (snd_any).mono ?_
  rw [HS.out]
  simp only [GE.val, GE.row]
  rintro _ w1 ⟨rfl, b1⟩
  have HBX1 := hide (below_box b1 HBX0.out)
  have HRS1 := hide (below_box b1 HRS0.out)
  have HBW1 := hide (below_next HBW0.out b1 (by have := HLT.out; have := HSZ0.out; omega))
  have HSZ1 := hide (box_lt HRS1.out)
  clear b1 HBX0 HRS0 HBW0 HSZ0 u0 u1 u2 u3 u4 u5
  obtain ⟨_, _, _, _, _, _, u0, u1, u2, u3, u4, u5⟩ := six HBX1.out
  go_upto_region 2 with fail
  obtain ⟨X, hX⟩ : ∃ X, X = ((((((w1.setCell ⟨bB, 0, none⟩ (.int .i64 c)).setCell ⟨bB, 1, none⟩ (.int .i64 x)).setCell ⟨bB, 2, none⟩ (.int .i64 u)).setCell ⟨bB, 3, none⟩ (.int .i64 s)).setCell ⟨bB, 4, none⟩ (.int .i64 k)).setCell ⟨bB, 5, none⟩ (.int .i64 a)) := ⟨_, rfl⟩
  have oX : Only (· = bB) w1 X := by rw [hX]; exact ((((((Only.set (F := (· = bB)) _ bB 0 (.int .i64 c) rfl).trans (Only.set (F := (· = bB)) _ bB 1 (.int .i64 x) rfl)).trans (Only.set (F := (· = bB)) _ bB 2 (.int .i64 u) rfl)).trans (Only.set (F := (· = bB)) _ bB 3 (.int .i64 s) rfl)).trans (Only.set (F := (· = bB)) _ bB 4 (.int .i64 k) rfl)).trans (Only.set (F := (· = bB)) _ bB 5 (.int .i64 a) rfl))
  have HBX2 : Hid (X.heap[bB]? = some (.cells #[.int .i64 c, .int .i64 x, .int .i64 u, .int .i64 s, .int .i64 k, .int .i64 a] 23 (0, 0))) := hide (by rw [hX]; exact (heap_set_sameL (heap_set_sameL (heap_set_sameL (heap_set_sameL (heap_set_sameL (heap_set_sameL HBX1.out 0 (.int .i64 c)) 1 (.int .i64 x)) 2 (.int .i64 u)) 3 (.int .i64 s)) 4 (.int .i64 k)) 5 (.int .i64 a)))
  have HRS2 := hide (oX.obj HRS1.out (fun e => by have e' : rB = bB := e; have := HLT.out; omega))
  have HBW2 := hide (HBW1.out.trans (oX.below (by have := HLT.out; have := HSZ1.out; omega) (fun i e => by have e' : i = bB := e; omega)))
  have HSZ2 := hide (box_lt HRS2.out)
  rw [← hX]
  clear hX oX HBX1 HRS1 HBW1 HSZ1 u0 u1 u2 u3 u4 u5
  obtain ⟨_, _, _, _, _, _, u0, u1, u2, u3, u4, u5⟩ := six HBX2.out
  go_wp2_with fail
  refine (awaits_any).mono ?_
  rw [HW.out]
  rintro _ w3 ⟨rfl, b3⟩
  have HBX3 := hide (below_box b3 HBX2.out)
  have HRS3 := hide (below_box b3 HRS2.out)
  have HBW3 := hide (below_next HBW2.out b3 (by have := HLT.out; have := HSZ2.out; omega))
  have HSZ3 := hide (box_lt HRS3.out)
  clear b3 HBX2 HRS2 HBW2 HSZ2 u0 u1 u2 u3 u4 u5
  obtain ⟨_, _, _, _, _, _, u0, u1, u2, u3, u4, u5⟩ := six HBX3.out
  obtain ⟨f0, f1, f2, f3, f4, f5, r0, r1, r2, r3, r4, r5⟩ := six HRS3.out
  go_wp2
  have hE := heap_set6 HRS3.out (.int .i64 c) (.int .i64 x) (.int .i64 u) (.int .i64 s) (.int .i64 k) (.int .i64 a)
  refine bodyPost_ret (results_cell_two rfl _ _ rB 23 _ _ _ rfl hE Try.underlying23 rfl (by kernel_rfl)) rfl ?_
  refine ⟨by rw [HQ.out]; rfl, ?_⟩
  rw [HBB.out]
  exact HBW3.out.trans ((only_set6 _ rB _ _ _ _ _ _).below (by have := HLT.out; have := HSZ3.out; omega) (fun i e => by have e' : i = rB := e; have := HLT.out; omega))

set_option maxRecDepth 100000 in
set_option maxHeartbeats 2000000 in
theorem grn_e {W : World} {ck ep un se ki ak : Int} {c x u s k a : Int} {n e : Int} (hs : sndG ⟨ck, ep, un, se, ki, ak⟩ = ⟨c, x, u, s, k, a⟩) (hw : awG ⟨c, x, u, s, k, a⟩ n = true) (h3 : e < 1) :
    Calls Try.prog 22 #[.agg #[.int .i64 ck, .int .i64 ep, .int .i64 un, .int .i64 se, .int .i64 ki, .int .i64 ak], .int .i64 n, .int .i64 e] W fun z w' => z = .returned (.tuple #[GE.val (grnG ⟨ck, ep, un, se, ki, ak⟩ n e).1, .bool (grnG ⟨ck, ep, un, se, ki, ak⟩ n e).2]) ∧ Below W.heap.size W w' := by
  have HQ : Hid (grnG ⟨ck, ep, un, se, ki, ak⟩ n e = (⟨c, x, u, s, k, a⟩, false)) := hide (by unfold grnG; rw [hs]; exact if_pos (.inr (.inr (.inl h3))))
  have HW := hide hw
  have d3 : decide (e < 1) = true := decide_eq_true h3
  have HS := hide hs
  clear hs hw h3
  obtain ⟨V0, hV0⟩ : ∃ V0, V0 = W.alloc (.cells #[.int .i64 ck, .int .i64 ep, .int .i64 un, .int .i64 se, .int .i64 ki, .int .i64 ak] 23 (0, 0)) := ⟨_, rfl⟩
  obtain ⟨V, hV⟩ : ∃ V, V = V0.alloc (.cells #[.int .i64 0, .int .i64 0, .int .i64 0, .int .i64 0, .int .i64 0, .int .i64 0] 23 (0, 0)) := ⟨_, rfl⟩
  have bV0 : Below W.heap.size W V0 := by rw [hV0]; exact alloc_below _ _
  have bV1 : Below V0.heap.size V0 V := by rw [hV]; exact alloc_below _ _
  have v0 : V0.heap[W.heap.size]? = some (.cells #[.int .i64 ck, .int .i64 ep, .int .i64 un, .int .i64 se, .int .i64 ki, .int .i64 ak] 23 (0, 0)) := by rw [hV0]; exact heap_alloc_new W _
  have v1 : V.heap[V0.heap.size]? = some (.cells #[.int .i64 0, .int .i64 0, .int .i64 0, .int .i64 0, .int .i64 0, .int .i64 0] 23 (0, 0)) := by rw [hV]; exact heap_alloc_new V0 _
  have v2 := below_box bV1 v0
  have hlt := box_lt v0
  have hs0 : V0.heap.size = W.heap.size + 1 := by rw [hV0]; simp
  obtain ⟨bB, hbB⟩ : ∃ bB, W.heap.size = bB := ⟨_, rfl⟩
  obtain ⟨rB, hrB⟩ : ∃ rB, V0.heap.size = rB := ⟨_, rfl⟩
  have hrb : bB + 1 = rB := by omega
  rw [hbB, hrB] at hlt
  rw [hbB] at v2
  rw [hrB] at v1
  have HBW0 : Hid (Below bB W V) := hide (by rw [← hbB]; exact below_next bV0 bV1 bV0.size)
  have HBX0 := hide v2
  have HRS0 := hide v1
  have HBB := hide hbB
  have HLT := hide hlt
  have HSZ0 := hide (box_lt v1)
  clear v0 v1 v2 bV0 bV1
  go_enter Try.func22, Try.ntmps22
  go_upto_region 1 with fail
  try rw [hbB]
  try rw [hrb]
  rw [← hV0, ← hV]
  try rw [hrB]
  clear hV0 hV hbB hrB hs0 hrb hlt
  obtain ⟨_, _, _, _, _, _, u0, u1, u2, u3, u4, u5⟩ := six HBX0.out
  go_wp2_with fail
  refine (snd_any).mono ?_
  rw [HS.out]
  simp only [GE.val, GE.row]
  rintro _ w1 ⟨rfl, b1⟩
  have HBX1 := hide (below_box b1 HBX0.out)
  have HRS1 := hide (below_box b1 HRS0.out)
  have HBW1 := hide (below_next HBW0.out b1 (by have := HLT.out; have := HSZ0.out; omega))
  have HSZ1 := hide (box_lt HRS1.out)
  clear b1 HBX0 HRS0 HBW0 HSZ0 u0 u1 u2 u3 u4 u5
  obtain ⟨_, _, _, _, _, _, u0, u1, u2, u3, u4, u5⟩ := six HBX1.out
  go_upto_region 2 with fail
  obtain ⟨X, hX⟩ : ∃ X, X = ((((((w1.setCell ⟨bB, 0, none⟩ (.int .i64 c)).setCell ⟨bB, 1, none⟩ (.int .i64 x)).setCell ⟨bB, 2, none⟩ (.int .i64 u)).setCell ⟨bB, 3, none⟩ (.int .i64 s)).setCell ⟨bB, 4, none⟩ (.int .i64 k)).setCell ⟨bB, 5, none⟩ (.int .i64 a)) := ⟨_, rfl⟩
  have oX : Only (· = bB) w1 X := by rw [hX]; exact ((((((Only.set (F := (· = bB)) _ bB 0 (.int .i64 c) rfl).trans (Only.set (F := (· = bB)) _ bB 1 (.int .i64 x) rfl)).trans (Only.set (F := (· = bB)) _ bB 2 (.int .i64 u) rfl)).trans (Only.set (F := (· = bB)) _ bB 3 (.int .i64 s) rfl)).trans (Only.set (F := (· = bB)) _ bB 4 (.int .i64 k) rfl)).trans (Only.set (F := (· = bB)) _ bB 5 (.int .i64 a) rfl))
  have HBX2 : Hid (X.heap[bB]? = some (.cells #[.int .i64 c, .int .i64 x, .int .i64 u, .int .i64 s, .int .i64 k, .int .i64 a] 23 (0, 0))) := hide (by rw [hX]; exact (heap_set_sameL (heap_set_sameL (heap_set_sameL (heap_set_sameL (heap_set_sameL (heap_set_sameL HBX1.out 0 (.int .i64 c)) 1 (.int .i64 x)) 2 (.int .i64 u)) 3 (.int .i64 s)) 4 (.int .i64 k)) 5 (.int .i64 a)))
  have HRS2 := hide (oX.obj HRS1.out (fun e => by have e' : rB = bB := e; have := HLT.out; omega))
  have HBW2 := hide (HBW1.out.trans (oX.below (by have := HLT.out; have := HSZ1.out; omega) (fun i e => by have e' : i = bB := e; omega)))
  have HSZ2 := hide (box_lt HRS2.out)
  rw [← hX]
  clear hX oX HBX1 HRS1 HBW1 HSZ1 u0 u1 u2 u3 u4 u5
  obtain ⟨_, _, _, _, _, _, u0, u1, u2, u3, u4, u5⟩ := six HBX2.out
  go_wp2_with fail
  refine (awaits_any).mono ?_
  rw [HW.out]
  rintro _ w3 ⟨rfl, b3⟩
  have HBX3 := hide (below_box b3 HBX2.out)
  have HRS3 := hide (below_box b3 HRS2.out)
  have HBW3 := hide (below_next HBW2.out b3 (by have := HLT.out; have := HSZ2.out; omega))
  have HSZ3 := hide (box_lt HRS3.out)
  clear b3 HBX2 HRS2 HBW2 HSZ2 u0 u1 u2 u3 u4 u5
  obtain ⟨_, _, _, _, _, _, u0, u1, u2, u3, u4, u5⟩ := six HBX3.out
  obtain ⟨f0, f1, f2, f3, f4, f5, r0, r1, r2, r3, r4, r5⟩ := six HRS3.out
  go_wp2
  have hE := heap_set6 HRS3.out (.int .i64 c) (.int .i64 x) (.int .i64 u) (.int .i64 s) (.int .i64 k) (.int .i64 a)
  refine bodyPost_ret (results_cell_two rfl _ _ rB 23 _ _ _ rfl hE Try.underlying23 rfl (by kernel_rfl)) rfl ?_
  refine ⟨by rw [HQ.out]; rfl, ?_⟩
  rw [HBB.out]
  exact HBW3.out.trans ((only_set6 _ rB _ _ _ _ _ _).below (by have := HLT.out; have := HSZ3.out; omega) (fun i e => by have e' : i = rB := e; have := HLT.out; omega))

set_option maxRecDepth 100000 in
set_option maxHeartbeats 2000000 in
theorem grn_g {W : World} {ck ep un se ki ak : Int} {c x u s k a : Int} {n e : Int} (hs : sndG ⟨ck, ep, un, se, ki, ak⟩ = ⟨c, x, u, s, k, a⟩) (hw : awG ⟨c, x, u, s, k, a⟩ n = true) (h3 : ¬ e < 1) (h4 : 9007199254740992 < e) :
    Calls Try.prog 22 #[.agg #[.int .i64 ck, .int .i64 ep, .int .i64 un, .int .i64 se, .int .i64 ki, .int .i64 ak], .int .i64 n, .int .i64 e] W fun z w' => z = .returned (.tuple #[GE.val (grnG ⟨ck, ep, un, se, ki, ak⟩ n e).1, .bool (grnG ⟨ck, ep, un, se, ki, ak⟩ n e).2]) ∧ Below W.heap.size W w' := by
  have HQ : Hid (grnG ⟨ck, ep, un, se, ki, ak⟩ n e = (⟨c, x, u, s, k, a⟩, false)) := hide (by unfold grnG; rw [hs]; exact if_pos (.inr (.inr (.inr (.inl h4)))))
  have HW := hide hw
  have d3 : decide (e < 1) = false := decide_eq_false h3
  have d4 : decide (e > 9007199254740992) = true := decide_eq_true h4
  have HS := hide hs
  clear hs hw h3 h4
  obtain ⟨V0, hV0⟩ : ∃ V0, V0 = W.alloc (.cells #[.int .i64 ck, .int .i64 ep, .int .i64 un, .int .i64 se, .int .i64 ki, .int .i64 ak] 23 (0, 0)) := ⟨_, rfl⟩
  obtain ⟨V, hV⟩ : ∃ V, V = V0.alloc (.cells #[.int .i64 0, .int .i64 0, .int .i64 0, .int .i64 0, .int .i64 0, .int .i64 0] 23 (0, 0)) := ⟨_, rfl⟩
  have bV0 : Below W.heap.size W V0 := by rw [hV0]; exact alloc_below _ _
  have bV1 : Below V0.heap.size V0 V := by rw [hV]; exact alloc_below _ _
  have v0 : V0.heap[W.heap.size]? = some (.cells #[.int .i64 ck, .int .i64 ep, .int .i64 un, .int .i64 se, .int .i64 ki, .int .i64 ak] 23 (0, 0)) := by rw [hV0]; exact heap_alloc_new W _
  have v1 : V.heap[V0.heap.size]? = some (.cells #[.int .i64 0, .int .i64 0, .int .i64 0, .int .i64 0, .int .i64 0, .int .i64 0] 23 (0, 0)) := by rw [hV]; exact heap_alloc_new V0 _
  have v2 := below_box bV1 v0
  have hlt := box_lt v0
  have hs0 : V0.heap.size = W.heap.size + 1 := by rw [hV0]; simp
  obtain ⟨bB, hbB⟩ : ∃ bB, W.heap.size = bB := ⟨_, rfl⟩
  obtain ⟨rB, hrB⟩ : ∃ rB, V0.heap.size = rB := ⟨_, rfl⟩
  have hrb : bB + 1 = rB := by omega
  rw [hbB, hrB] at hlt
  rw [hbB] at v2
  rw [hrB] at v1
  have HBW0 : Hid (Below bB W V) := hide (by rw [← hbB]; exact below_next bV0 bV1 bV0.size)
  have HBX0 := hide v2
  have HRS0 := hide v1
  have HBB := hide hbB
  have HLT := hide hlt
  have HSZ0 := hide (box_lt v1)
  clear v0 v1 v2 bV0 bV1
  go_enter Try.func22, Try.ntmps22
  go_upto_region 1 with fail
  try rw [hbB]
  try rw [hrb]
  rw [← hV0, ← hV]
  try rw [hrB]
  clear hV0 hV hbB hrB hs0 hrb hlt
  obtain ⟨_, _, _, _, _, _, u0, u1, u2, u3, u4, u5⟩ := six HBX0.out
  go_wp2_with fail
  refine (snd_any).mono ?_
  rw [HS.out]
  simp only [GE.val, GE.row]
  rintro _ w1 ⟨rfl, b1⟩
  have HBX1 := hide (below_box b1 HBX0.out)
  have HRS1 := hide (below_box b1 HRS0.out)
  have HBW1 := hide (below_next HBW0.out b1 (by have := HLT.out; have := HSZ0.out; omega))
  have HSZ1 := hide (box_lt HRS1.out)
  clear b1 HBX0 HRS0 HBW0 HSZ0 u0 u1 u2 u3 u4 u5
  obtain ⟨_, _, _, _, _, _, u0, u1, u2, u3, u4, u5⟩ := six HBX1.out
  go_upto_region 2 with fail
  obtain ⟨X, hX⟩ : ∃ X, X = ((((((w1.setCell ⟨bB, 0, none⟩ (.int .i64 c)).setCell ⟨bB, 1, none⟩ (.int .i64 x)).setCell ⟨bB, 2, none⟩ (.int .i64 u)).setCell ⟨bB, 3, none⟩ (.int .i64 s)).setCell ⟨bB, 4, none⟩ (.int .i64 k)).setCell ⟨bB, 5, none⟩ (.int .i64 a)) := ⟨_, rfl⟩
  have oX : Only (· = bB) w1 X := by rw [hX]; exact ((((((Only.set (F := (· = bB)) _ bB 0 (.int .i64 c) rfl).trans (Only.set (F := (· = bB)) _ bB 1 (.int .i64 x) rfl)).trans (Only.set (F := (· = bB)) _ bB 2 (.int .i64 u) rfl)).trans (Only.set (F := (· = bB)) _ bB 3 (.int .i64 s) rfl)).trans (Only.set (F := (· = bB)) _ bB 4 (.int .i64 k) rfl)).trans (Only.set (F := (· = bB)) _ bB 5 (.int .i64 a) rfl))
  have HBX2 : Hid (X.heap[bB]? = some (.cells #[.int .i64 c, .int .i64 x, .int .i64 u, .int .i64 s, .int .i64 k, .int .i64 a] 23 (0, 0))) := hide (by rw [hX]; exact (heap_set_sameL (heap_set_sameL (heap_set_sameL (heap_set_sameL (heap_set_sameL (heap_set_sameL HBX1.out 0 (.int .i64 c)) 1 (.int .i64 x)) 2 (.int .i64 u)) 3 (.int .i64 s)) 4 (.int .i64 k)) 5 (.int .i64 a)))
  have HRS2 := hide (oX.obj HRS1.out (fun e => by have e' : rB = bB := e; have := HLT.out; omega))
  have HBW2 := hide (HBW1.out.trans (oX.below (by have := HLT.out; have := HSZ1.out; omega) (fun i e => by have e' : i = bB := e; omega)))
  have HSZ2 := hide (box_lt HRS2.out)
  rw [← hX]
  clear hX oX HBX1 HRS1 HBW1 HSZ1 u0 u1 u2 u3 u4 u5
  obtain ⟨_, _, _, _, _, _, u0, u1, u2, u3, u4, u5⟩ := six HBX2.out
  go_wp2_with fail
  refine (awaits_any).mono ?_
  rw [HW.out]
  rintro _ w3 ⟨rfl, b3⟩
  have HBX3 := hide (below_box b3 HBX2.out)
  have HRS3 := hide (below_box b3 HRS2.out)
  have HBW3 := hide (below_next HBW2.out b3 (by have := HLT.out; have := HSZ2.out; omega))
  have HSZ3 := hide (box_lt HRS3.out)
  clear b3 HBX2 HRS2 HBW2 HSZ2 u0 u1 u2 u3 u4 u5
  obtain ⟨_, _, _, _, _, _, u0, u1, u2, u3, u4, u5⟩ := six HBX3.out
  obtain ⟨f0, f1, f2, f3, f4, f5, r0, r1, r2, r3, r4, r5⟩ := six HRS3.out
  go_wp2
  have hE := heap_set6 HRS3.out (.int .i64 c) (.int .i64 x) (.int .i64 u) (.int .i64 s) (.int .i64 k) (.int .i64 a)
  refine bodyPost_ret (results_cell_two rfl _ _ rB 23 _ _ _ rfl hE Try.underlying23 rfl (by kernel_rfl)) rfl ?_
  refine ⟨by rw [HQ.out]; rfl, ?_⟩
  rw [HBB.out]
  exact HBW3.out.trans ((only_set6 _ rB _ _ _ _ _ _).below (by have := HLT.out; have := HSZ3.out; omega) (fun i e => by have e' : i = rB := e; have := HLT.out; omega))

set_option maxRecDepth 100000 in
set_option maxHeartbeats 2000000 in
theorem grn_x {W : World} {ck ep un se ki ak : Int} {c x u s k a : Int} {n e : Int} (hs : sndG ⟨ck, ep, un, se, ki, ak⟩ = ⟨c, x, u, s, k, a⟩) (hw : awG ⟨c, x, u, s, k, a⟩ n = true) (h3 : ¬ e < 1) (h4 : ¬ 9007199254740992 < e) (h5 : k = 2) (h6 : e ≠ x) :
    Calls Try.prog 22 #[.agg #[.int .i64 ck, .int .i64 ep, .int .i64 un, .int .i64 se, .int .i64 ki, .int .i64 ak], .int .i64 n, .int .i64 e] W fun z w' => z = .returned (.tuple #[GE.val (grnG ⟨ck, ep, un, se, ki, ak⟩ n e).1, .bool (grnG ⟨ck, ep, un, se, ki, ak⟩ n e).2]) ∧ Below W.heap.size W w' := by
  have HQ : Hid (grnG ⟨ck, ep, un, se, ki, ak⟩ n e = (⟨c, x, u, s, k, a⟩, false)) := hide (by unfold grnG; rw [hs]; exact if_pos (.inr (.inr (.inr (.inr ⟨h5, h6⟩)))))
  have HW := hide hw
  have d3 : decide (e < 1) = false := decide_eq_false h3
  have d4 : decide (e > 9007199254740992) = false := decide_eq_false h4
  have d5 : (k == 2) = true := by simpa using h5
  have d6 : (e != x) = true := ne_neG h6
  have d6e : (e == x) = false := ne_eqL h6
  have HS := hide hs
  clear hs hw h3 h4 h5 h6
  obtain ⟨V0, hV0⟩ : ∃ V0, V0 = W.alloc (.cells #[.int .i64 ck, .int .i64 ep, .int .i64 un, .int .i64 se, .int .i64 ki, .int .i64 ak] 23 (0, 0)) := ⟨_, rfl⟩
  obtain ⟨V, hV⟩ : ∃ V, V = V0.alloc (.cells #[.int .i64 0, .int .i64 0, .int .i64 0, .int .i64 0, .int .i64 0, .int .i64 0] 23 (0, 0)) := ⟨_, rfl⟩
  have bV0 : Below W.heap.size W V0 := by rw [hV0]; exact alloc_below _ _
  have bV1 : Below V0.heap.size V0 V := by rw [hV]; exact alloc_below _ _
  have v0 : V0.heap[W.heap.size]? = some (.cells #[.int .i64 ck, .int .i64 ep, .int .i64 un, .int .i64 se, .int .i64 ki, .int .i64 ak] 23 (0, 0)) := by rw [hV0]; exact heap_alloc_new W _
  have v1 : V.heap[V0.heap.size]? = some (.cells #[.int .i64 0, .int .i64 0, .int .i64 0, .int .i64 0, .int .i64 0, .int .i64 0] 23 (0, 0)) := by rw [hV]; exact heap_alloc_new V0 _
  have v2 := below_box bV1 v0
  have hlt := box_lt v0
  have hs0 : V0.heap.size = W.heap.size + 1 := by rw [hV0]; simp
  obtain ⟨bB, hbB⟩ : ∃ bB, W.heap.size = bB := ⟨_, rfl⟩
  obtain ⟨rB, hrB⟩ : ∃ rB, V0.heap.size = rB := ⟨_, rfl⟩
  have hrb : bB + 1 = rB := by omega
  rw [hbB, hrB] at hlt
  rw [hbB] at v2
  rw [hrB] at v1
  have HBW0 : Hid (Below bB W V) := hide (by rw [← hbB]; exact below_next bV0 bV1 bV0.size)
  have HBX0 := hide v2
  have HRS0 := hide v1
  have HBB := hide hbB
  have HLT := hide hlt
  have HSZ0 := hide (box_lt v1)
  clear v0 v1 v2 bV0 bV1
  go_enter Try.func22, Try.ntmps22
  go_upto_region 1 with fail
  try rw [hbB]
  try rw [hrb]
  rw [← hV0, ← hV]
  try rw [hrB]
  clear hV0 hV hbB hrB hs0 hrb hlt
  obtain ⟨_, _, _, _, _, _, u0, u1, u2, u3, u4, u5⟩ := six HBX0.out
  go_wp2_with fail
  refine (snd_any).mono ?_
  rw [HS.out]
  simp only [GE.val, GE.row]
  rintro _ w1 ⟨rfl, b1⟩
  have HBX1 := hide (below_box b1 HBX0.out)
  have HRS1 := hide (below_box b1 HRS0.out)
  have HBW1 := hide (below_next HBW0.out b1 (by have := HLT.out; have := HSZ0.out; omega))
  have HSZ1 := hide (box_lt HRS1.out)
  clear b1 HBX0 HRS0 HBW0 HSZ0 u0 u1 u2 u3 u4 u5
  obtain ⟨_, _, _, _, _, _, u0, u1, u2, u3, u4, u5⟩ := six HBX1.out
  go_upto_region 2 with fail
  obtain ⟨X, hX⟩ : ∃ X, X = ((((((w1.setCell ⟨bB, 0, none⟩ (.int .i64 c)).setCell ⟨bB, 1, none⟩ (.int .i64 x)).setCell ⟨bB, 2, none⟩ (.int .i64 u)).setCell ⟨bB, 3, none⟩ (.int .i64 s)).setCell ⟨bB, 4, none⟩ (.int .i64 k)).setCell ⟨bB, 5, none⟩ (.int .i64 a)) := ⟨_, rfl⟩
  have oX : Only (· = bB) w1 X := by rw [hX]; exact ((((((Only.set (F := (· = bB)) _ bB 0 (.int .i64 c) rfl).trans (Only.set (F := (· = bB)) _ bB 1 (.int .i64 x) rfl)).trans (Only.set (F := (· = bB)) _ bB 2 (.int .i64 u) rfl)).trans (Only.set (F := (· = bB)) _ bB 3 (.int .i64 s) rfl)).trans (Only.set (F := (· = bB)) _ bB 4 (.int .i64 k) rfl)).trans (Only.set (F := (· = bB)) _ bB 5 (.int .i64 a) rfl))
  have HBX2 : Hid (X.heap[bB]? = some (.cells #[.int .i64 c, .int .i64 x, .int .i64 u, .int .i64 s, .int .i64 k, .int .i64 a] 23 (0, 0))) := hide (by rw [hX]; exact (heap_set_sameL (heap_set_sameL (heap_set_sameL (heap_set_sameL (heap_set_sameL (heap_set_sameL HBX1.out 0 (.int .i64 c)) 1 (.int .i64 x)) 2 (.int .i64 u)) 3 (.int .i64 s)) 4 (.int .i64 k)) 5 (.int .i64 a)))
  have HRS2 := hide (oX.obj HRS1.out (fun e => by have e' : rB = bB := e; have := HLT.out; omega))
  have HBW2 := hide (HBW1.out.trans (oX.below (by have := HLT.out; have := HSZ1.out; omega) (fun i e => by have e' : i = bB := e; omega)))
  have HSZ2 := hide (box_lt HRS2.out)
  rw [← hX]
  clear hX oX HBX1 HRS1 HBW1 HSZ1 u0 u1 u2 u3 u4 u5
  obtain ⟨_, _, _, _, _, _, u0, u1, u2, u3, u4, u5⟩ := six HBX2.out
  go_wp2_with fail
  refine (awaits_any).mono ?_
  rw [HW.out]
  rintro _ w3 ⟨rfl, b3⟩
  have HBX3 := hide (below_box b3 HBX2.out)
  have HRS3 := hide (below_box b3 HRS2.out)
  have HBW3 := hide (below_next HBW2.out b3 (by have := HLT.out; have := HSZ2.out; omega))
  have HSZ3 := hide (box_lt HRS3.out)
  clear b3 HBX2 HRS2 HBW2 HSZ2 u0 u1 u2 u3 u4 u5
  obtain ⟨_, _, _, _, _, _, u0, u1, u2, u3, u4, u5⟩ := six HBX3.out
  obtain ⟨f0, f1, f2, f3, f4, f5, r0, r1, r2, r3, r4, r5⟩ := six HRS3.out
  go_wp2
  have hE := heap_set6 HRS3.out (.int .i64 c) (.int .i64 x) (.int .i64 u) (.int .i64 s) (.int .i64 k) (.int .i64 a)
  refine bodyPost_ret (results_cell_two rfl _ _ rB 23 _ _ _ rfl hE Try.underlying23 rfl (by kernel_rfl)) rfl ?_
  refine ⟨by rw [HQ.out]; rfl, ?_⟩
  rw [HBB.out]
  exact HBW3.out.trans ((only_set6 _ rB _ _ _ _ _ _).below (by have := HLT.out; have := HSZ3.out; omega) (fun i e => by have e' : i = rB := e; have := HLT.out; omega))

set_option maxRecDepth 100000 in
set_option maxHeartbeats 2000000 in
theorem grn_r1 {W : World} {ck ep un se ki ak : Int} {c x u s k a : Int} {n e : Int} (hs : sndG ⟨ck, ep, un, se, ki, ak⟩ = ⟨c, x, u, s, k, a⟩) (hw : awG ⟨c, x, u, s, k, a⟩ n = true) (h3 : ¬ e < 1) (h4 : ¬ 9007199254740992 < e) (h5 : k = 2) (h6 : e = x) (h7 : laterC a 12 < u) :
    Calls Try.prog 22 #[.agg #[.int .i64 ck, .int .i64 ep, .int .i64 un, .int .i64 se, .int .i64 ki, .int .i64 ak], .int .i64 n, .int .i64 e] W fun z w' => z = .returned (.tuple #[GE.val (grnG ⟨ck, ep, un, se, ki, ak⟩ n e).1, .bool (grnG ⟨ck, ep, un, se, ki, ak⟩ n e).2]) ∧ Below W.heap.size W w' := by
  have hok : okG ⟨c, x, u, s, k, a⟩ := by rw [← hs]; exact snd_ok _
  have HOK := hide hok
  obtain ⟨l, hl⟩ : ∃ l, laterC a 12 = l := ⟨_, rfl⟩
  rw [hl] at h7
  have HQ : Hid (grnG ⟨ck, ep, un, se, ki, ak⟩ n e = (⟨c, e, u, s, 0, 0⟩, true)) := hide (by unfold grnG; rw [hs]; unfold grnS; rw [if_neg (fun q => by have w := of_decide_eq_true hw; rcases q with q | q | q | q | q; exact w.1 q; exact q w.2; exact h3 q; exact h4 q; exact q.2 h6)]; simp only [hl]; rw [if_pos h5, if_pos h7])
  have HW := hide hw
  have d3 : decide (e < 1) = false := decide_eq_false h3
  have d4 : decide (e > 9007199254740992) = false := decide_eq_false h4
  have d5 : (k == 2) = true := by simpa using h5
  have d6 : (e != x) = false := by simp [h6]
  have d6e : (e == x) = true := by simpa using h6
  have HL := hide hl
  have HS := hide hs
  clear hs hok hl hw h3 h4 h5 h6
  obtain ⟨V0, hV0⟩ : ∃ V0, V0 = W.alloc (.cells #[.int .i64 ck, .int .i64 ep, .int .i64 un, .int .i64 se, .int .i64 ki, .int .i64 ak] 23 (0, 0)) := ⟨_, rfl⟩
  obtain ⟨V, hV⟩ : ∃ V, V = V0.alloc (.cells #[.int .i64 0, .int .i64 0, .int .i64 0, .int .i64 0, .int .i64 0, .int .i64 0] 23 (0, 0)) := ⟨_, rfl⟩
  have bV0 : Below W.heap.size W V0 := by rw [hV0]; exact alloc_below _ _
  have bV1 : Below V0.heap.size V0 V := by rw [hV]; exact alloc_below _ _
  have v0 : V0.heap[W.heap.size]? = some (.cells #[.int .i64 ck, .int .i64 ep, .int .i64 un, .int .i64 se, .int .i64 ki, .int .i64 ak] 23 (0, 0)) := by rw [hV0]; exact heap_alloc_new W _
  have v1 : V.heap[V0.heap.size]? = some (.cells #[.int .i64 0, .int .i64 0, .int .i64 0, .int .i64 0, .int .i64 0, .int .i64 0] 23 (0, 0)) := by rw [hV]; exact heap_alloc_new V0 _
  have v2 := below_box bV1 v0
  have hlt := box_lt v0
  have hs0 : V0.heap.size = W.heap.size + 1 := by rw [hV0]; simp
  obtain ⟨bB, hbB⟩ : ∃ bB, W.heap.size = bB := ⟨_, rfl⟩
  obtain ⟨rB, hrB⟩ : ∃ rB, V0.heap.size = rB := ⟨_, rfl⟩
  have hrb : bB + 1 = rB := by omega
  rw [hbB, hrB] at hlt
  rw [hbB] at v2
  rw [hrB] at v1
  have HBW0 : Hid (Below bB W V) := hide (by rw [← hbB]; exact below_next bV0 bV1 bV0.size)
  have HBX0 := hide v2
  have HRS0 := hide v1
  have HBB := hide hbB
  have HLT := hide hlt
  have HSZ0 := hide (box_lt v1)
  clear v0 v1 v2 bV0 bV1
  go_enter Try.func22, Try.ntmps22
  go_upto_region 1 with fail
  try rw [hbB]
  try rw [hrb]
  rw [← hV0, ← hV]
  try rw [hrB]
  clear hV0 hV hbB hrB hs0 hrb hlt
  obtain ⟨_, _, _, _, _, _, u0, u1, u2, u3, u4, u5⟩ := six HBX0.out
  go_wp2_with fail
  refine (snd_any).mono ?_
  rw [HS.out]
  simp only [GE.val, GE.row]
  rintro _ w1 ⟨rfl, b1⟩
  have HBX1 := hide (below_box b1 HBX0.out)
  have HRS1 := hide (below_box b1 HRS0.out)
  have HBW1 := hide (below_next HBW0.out b1 (by have := HLT.out; have := HSZ0.out; omega))
  have HSZ1 := hide (box_lt HRS1.out)
  clear b1 HBX0 HRS0 HBW0 HSZ0 u0 u1 u2 u3 u4 u5
  obtain ⟨_, _, _, _, _, _, u0, u1, u2, u3, u4, u5⟩ := six HBX1.out
  go_upto_region 2 with fail
  obtain ⟨X, hX⟩ : ∃ X, X = ((((((w1.setCell ⟨bB, 0, none⟩ (.int .i64 c)).setCell ⟨bB, 1, none⟩ (.int .i64 x)).setCell ⟨bB, 2, none⟩ (.int .i64 u)).setCell ⟨bB, 3, none⟩ (.int .i64 s)).setCell ⟨bB, 4, none⟩ (.int .i64 k)).setCell ⟨bB, 5, none⟩ (.int .i64 a)) := ⟨_, rfl⟩
  have oX : Only (· = bB) w1 X := by rw [hX]; exact ((((((Only.set (F := (· = bB)) _ bB 0 (.int .i64 c) rfl).trans (Only.set (F := (· = bB)) _ bB 1 (.int .i64 x) rfl)).trans (Only.set (F := (· = bB)) _ bB 2 (.int .i64 u) rfl)).trans (Only.set (F := (· = bB)) _ bB 3 (.int .i64 s) rfl)).trans (Only.set (F := (· = bB)) _ bB 4 (.int .i64 k) rfl)).trans (Only.set (F := (· = bB)) _ bB 5 (.int .i64 a) rfl))
  have HBX2 : Hid (X.heap[bB]? = some (.cells #[.int .i64 c, .int .i64 x, .int .i64 u, .int .i64 s, .int .i64 k, .int .i64 a] 23 (0, 0))) := hide (by rw [hX]; exact (heap_set_sameL (heap_set_sameL (heap_set_sameL (heap_set_sameL (heap_set_sameL (heap_set_sameL HBX1.out 0 (.int .i64 c)) 1 (.int .i64 x)) 2 (.int .i64 u)) 3 (.int .i64 s)) 4 (.int .i64 k)) 5 (.int .i64 a)))
  have HRS2 := hide (oX.obj HRS1.out (fun e => by have e' : rB = bB := e; have := HLT.out; omega))
  have HBW2 := hide (HBW1.out.trans (oX.below (by have := HLT.out; have := HSZ1.out; omega) (fun i e => by have e' : i = bB := e; omega)))
  have HSZ2 := hide (box_lt HRS2.out)
  rw [← hX]
  clear hX oX HBX1 HRS1 HBW1 HSZ1 u0 u1 u2 u3 u4 u5
  obtain ⟨_, _, _, _, _, _, u0, u1, u2, u3, u4, u5⟩ := six HBX2.out
  go_wp2_with fail
  refine (awaits_any).mono ?_
  rw [HW.out]
  rintro _ w3 ⟨rfl, b3⟩
  have HBX3 := hide (below_box b3 HBX2.out)
  have HRS3 := hide (below_box b3 HRS2.out)
  have HBW3 := hide (below_next HBW2.out b3 (by have := HLT.out; have := HSZ2.out; omega))
  have HSZ3 := hide (box_lt HRS3.out)
  clear b3 HBX2 HRS2 HBW2 HSZ2 u0 u1 u2 u3 u4 u5
  obtain ⟨_, _, _, _, _, _, u0, u1, u2, u3, u4, u5⟩ := six HBX3.out
  go_upto_region 11 with (go_at_call 40; refine (glater_any HOK.out.2.2.2.2.1.1 HOK.out.2.2.2.2.1.2).mono ?_; rw [HL.out]; rintro _ wq ⟨rfl, hq⟩; have hq := hq.symm; subst hq)
  obtain ⟨Y, hY⟩ : ∃ Y, Y = ((w3.setCell ⟨bB, 1, none⟩ (.int .i64 e)).setCell ⟨bB, 2, none⟩ (.int .i64 u)) := ⟨_, rfl⟩
  have oY : Only (· = bB) w3 Y := by rw [hY]; exact ((Only.set (F := (· = bB)) _ bB 1 (.int .i64 e) rfl).trans (Only.set (F := (· = bB)) _ bB 2 (.int .i64 u) rfl))
  have HBX4 : Hid (Y.heap[bB]? = some (.cells #[.int .i64 c, .int .i64 e, .int .i64 u, .int .i64 s, .int .i64 k, .int .i64 a] 23 (0, 0))) := hide (by rw [hY]; exact (heap_set_sameL (heap_set_sameL HBX3.out 1 (.int .i64 e)) 2 (.int .i64 u)))
  have HRS4 := hide (oY.obj HRS3.out (fun e => by have e' : rB = bB := e; have := HLT.out; omega))
  have HBW4 := hide (HBW3.out.trans (oY.below (by have := HLT.out; have := HSZ3.out; omega) (fun i e => by have e' : i = bB := e; omega)))
  have HSZ4 := hide (box_lt HRS4.out)
  rw [← hY]
  clear hY oY HBX3 HRS3 HBW3 HSZ3 u0 u1 u2 u3 u4 u5
  obtain ⟨_, _, _, _, _, _, u0, u1, u2, u3, u4, u5⟩ := six HBX4.out
  go_wp2_with fail
  refine (ans_any).mono ?_
  simp only [GE.val, GE.row, ansG]
  rintro _ w5 ⟨rfl, b5⟩
  have HBX5 := hide (below_box b5 HBX4.out)
  have HRS5 := hide (below_box b5 HRS4.out)
  have HBW5 := hide (below_next HBW4.out b5 (by have := HLT.out; have := HSZ4.out; omega))
  have HSZ5 := hide (box_lt HRS5.out)
  clear b5 HBX4 HRS4 HBW4 HSZ4 u0 u1 u2 u3 u4 u5
  obtain ⟨f0, f1, f2, f3, f4, f5, r0, r1, r2, r3, r4, r5⟩ := six HRS5.out
  go_wp2
  have hE := heap_set6 HRS5.out (.int .i64 c) (.int .i64 e) (.int .i64 u) (.int .i64 s) (.int .i64 0) (.int .i64 0)
  refine bodyPost_ret (results_cell_two rfl _ _ rB 23 _ _ _ rfl hE Try.underlying23 rfl (by kernel_rfl)) rfl ?_
  refine ⟨by rw [HQ.out]; rfl, ?_⟩
  rw [HBB.out]
  exact HBW5.out.trans ((only_set6 _ rB _ _ _ _ _ _).below (by have := HLT.out; have := HSZ5.out; omega) (fun i e => by have e' : i = rB := e; have := HLT.out; omega))

set_option maxRecDepth 100000 in
set_option maxHeartbeats 2000000 in
theorem grn_r2 {W : World} {ck ep un se ki ak : Int} {c x u s k a : Int} {n e : Int} (hs : sndG ⟨ck, ep, un, se, ki, ak⟩ = ⟨c, x, u, s, k, a⟩) (hw : awG ⟨c, x, u, s, k, a⟩ n = true) (h3 : ¬ e < 1) (h4 : ¬ 9007199254740992 < e) (h5 : k = 2) (h6 : e = x) (h7 : ¬ laterC a 12 < u) :
    Calls Try.prog 22 #[.agg #[.int .i64 ck, .int .i64 ep, .int .i64 un, .int .i64 se, .int .i64 ki, .int .i64 ak], .int .i64 n, .int .i64 e] W fun z w' => z = .returned (.tuple #[GE.val (grnG ⟨ck, ep, un, se, ki, ak⟩ n e).1, .bool (grnG ⟨ck, ep, un, se, ki, ak⟩ n e).2]) ∧ Below W.heap.size W w' := by
  have hok : okG ⟨c, x, u, s, k, a⟩ := by rw [← hs]; exact snd_ok _
  have HOK := hide hok
  obtain ⟨l, hl⟩ : ∃ l, laterC a 12 = l := ⟨_, rfl⟩
  rw [hl] at h7
  have HQ : Hid (grnG ⟨ck, ep, un, se, ki, ak⟩ n e = (⟨c, e, l, s, 0, 0⟩, true)) := hide (by unfold grnG; rw [hs]; unfold grnS; rw [if_neg (fun q => by have w := of_decide_eq_true hw; rcases q with q | q | q | q | q; exact w.1 q; exact q w.2; exact h3 q; exact h4 q; exact q.2 h6)]; simp only [hl]; rw [if_pos h5, if_neg h7])
  have HW := hide hw
  have d3 : decide (e < 1) = false := decide_eq_false h3
  have d4 : decide (e > 9007199254740992) = false := decide_eq_false h4
  have d5 : (k == 2) = true := by simpa using h5
  have d6 : (e != x) = false := by simp [h6]
  have d6e : (e == x) = true := by simpa using h6
  have h7n : u ≤ l := by omega
  have HL := hide hl
  have HS := hide hs
  clear hs hok hl hw h3 h4 h5 h6
  obtain ⟨V0, hV0⟩ : ∃ V0, V0 = W.alloc (.cells #[.int .i64 ck, .int .i64 ep, .int .i64 un, .int .i64 se, .int .i64 ki, .int .i64 ak] 23 (0, 0)) := ⟨_, rfl⟩
  obtain ⟨V, hV⟩ : ∃ V, V = V0.alloc (.cells #[.int .i64 0, .int .i64 0, .int .i64 0, .int .i64 0, .int .i64 0, .int .i64 0] 23 (0, 0)) := ⟨_, rfl⟩
  have bV0 : Below W.heap.size W V0 := by rw [hV0]; exact alloc_below _ _
  have bV1 : Below V0.heap.size V0 V := by rw [hV]; exact alloc_below _ _
  have v0 : V0.heap[W.heap.size]? = some (.cells #[.int .i64 ck, .int .i64 ep, .int .i64 un, .int .i64 se, .int .i64 ki, .int .i64 ak] 23 (0, 0)) := by rw [hV0]; exact heap_alloc_new W _
  have v1 : V.heap[V0.heap.size]? = some (.cells #[.int .i64 0, .int .i64 0, .int .i64 0, .int .i64 0, .int .i64 0, .int .i64 0] 23 (0, 0)) := by rw [hV]; exact heap_alloc_new V0 _
  have v2 := below_box bV1 v0
  have hlt := box_lt v0
  have hs0 : V0.heap.size = W.heap.size + 1 := by rw [hV0]; simp
  obtain ⟨bB, hbB⟩ : ∃ bB, W.heap.size = bB := ⟨_, rfl⟩
  obtain ⟨rB, hrB⟩ : ∃ rB, V0.heap.size = rB := ⟨_, rfl⟩
  have hrb : bB + 1 = rB := by omega
  rw [hbB, hrB] at hlt
  rw [hbB] at v2
  rw [hrB] at v1
  have HBW0 : Hid (Below bB W V) := hide (by rw [← hbB]; exact below_next bV0 bV1 bV0.size)
  have HBX0 := hide v2
  have HRS0 := hide v1
  have HBB := hide hbB
  have HLT := hide hlt
  have HSZ0 := hide (box_lt v1)
  clear v0 v1 v2 bV0 bV1
  go_enter Try.func22, Try.ntmps22
  go_upto_region 1 with fail
  try rw [hbB]
  try rw [hrb]
  rw [← hV0, ← hV]
  try rw [hrB]
  clear hV0 hV hbB hrB hs0 hrb hlt
  obtain ⟨_, _, _, _, _, _, u0, u1, u2, u3, u4, u5⟩ := six HBX0.out
  go_wp2_with fail
  refine (snd_any).mono ?_
  rw [HS.out]
  simp only [GE.val, GE.row]
  rintro _ w1 ⟨rfl, b1⟩
  have HBX1 := hide (below_box b1 HBX0.out)
  have HRS1 := hide (below_box b1 HRS0.out)
  have HBW1 := hide (below_next HBW0.out b1 (by have := HLT.out; have := HSZ0.out; omega))
  have HSZ1 := hide (box_lt HRS1.out)
  clear b1 HBX0 HRS0 HBW0 HSZ0 u0 u1 u2 u3 u4 u5
  obtain ⟨_, _, _, _, _, _, u0, u1, u2, u3, u4, u5⟩ := six HBX1.out
  go_upto_region 2 with fail
  obtain ⟨X, hX⟩ : ∃ X, X = ((((((w1.setCell ⟨bB, 0, none⟩ (.int .i64 c)).setCell ⟨bB, 1, none⟩ (.int .i64 x)).setCell ⟨bB, 2, none⟩ (.int .i64 u)).setCell ⟨bB, 3, none⟩ (.int .i64 s)).setCell ⟨bB, 4, none⟩ (.int .i64 k)).setCell ⟨bB, 5, none⟩ (.int .i64 a)) := ⟨_, rfl⟩
  have oX : Only (· = bB) w1 X := by rw [hX]; exact ((((((Only.set (F := (· = bB)) _ bB 0 (.int .i64 c) rfl).trans (Only.set (F := (· = bB)) _ bB 1 (.int .i64 x) rfl)).trans (Only.set (F := (· = bB)) _ bB 2 (.int .i64 u) rfl)).trans (Only.set (F := (· = bB)) _ bB 3 (.int .i64 s) rfl)).trans (Only.set (F := (· = bB)) _ bB 4 (.int .i64 k) rfl)).trans (Only.set (F := (· = bB)) _ bB 5 (.int .i64 a) rfl))
  have HBX2 : Hid (X.heap[bB]? = some (.cells #[.int .i64 c, .int .i64 x, .int .i64 u, .int .i64 s, .int .i64 k, .int .i64 a] 23 (0, 0))) := hide (by rw [hX]; exact (heap_set_sameL (heap_set_sameL (heap_set_sameL (heap_set_sameL (heap_set_sameL (heap_set_sameL HBX1.out 0 (.int .i64 c)) 1 (.int .i64 x)) 2 (.int .i64 u)) 3 (.int .i64 s)) 4 (.int .i64 k)) 5 (.int .i64 a)))
  have HRS2 := hide (oX.obj HRS1.out (fun e => by have e' : rB = bB := e; have := HLT.out; omega))
  have HBW2 := hide (HBW1.out.trans (oX.below (by have := HLT.out; have := HSZ1.out; omega) (fun i e => by have e' : i = bB := e; omega)))
  have HSZ2 := hide (box_lt HRS2.out)
  rw [← hX]
  clear hX oX HBX1 HRS1 HBW1 HSZ1 u0 u1 u2 u3 u4 u5
  obtain ⟨_, _, _, _, _, _, u0, u1, u2, u3, u4, u5⟩ := six HBX2.out
  go_wp2_with fail
  refine (awaits_any).mono ?_
  rw [HW.out]
  rintro _ w3 ⟨rfl, b3⟩
  have HBX3 := hide (below_box b3 HBX2.out)
  have HRS3 := hide (below_box b3 HRS2.out)
  have HBW3 := hide (below_next HBW2.out b3 (by have := HLT.out; have := HSZ2.out; omega))
  have HSZ3 := hide (box_lt HRS3.out)
  clear b3 HBX2 HRS2 HBW2 HSZ2 u0 u1 u2 u3 u4 u5
  obtain ⟨_, _, _, _, _, _, u0, u1, u2, u3, u4, u5⟩ := six HBX3.out
  go_upto_region 11 with (go_at_call 40; refine (glater_any HOK.out.2.2.2.2.1.1 HOK.out.2.2.2.2.1.2).mono ?_; rw [HL.out]; rintro _ wq ⟨rfl, hq⟩; have hq := hq.symm; subst hq)
  obtain ⟨Y, hY⟩ : ∃ Y, Y = ((w3.setCell ⟨bB, 1, none⟩ (.int .i64 e)).setCell ⟨bB, 2, none⟩ (.int .i64 l)) := ⟨_, rfl⟩
  have oY : Only (· = bB) w3 Y := by rw [hY]; exact ((Only.set (F := (· = bB)) _ bB 1 (.int .i64 e) rfl).trans (Only.set (F := (· = bB)) _ bB 2 (.int .i64 l) rfl))
  have HBX4 : Hid (Y.heap[bB]? = some (.cells #[.int .i64 c, .int .i64 e, .int .i64 l, .int .i64 s, .int .i64 k, .int .i64 a] 23 (0, 0))) := hide (by rw [hY]; exact (heap_set_sameL (heap_set_sameL HBX3.out 1 (.int .i64 e)) 2 (.int .i64 l)))
  have HRS4 := hide (oY.obj HRS3.out (fun e => by have e' : rB = bB := e; have := HLT.out; omega))
  have HBW4 := hide (HBW3.out.trans (oY.below (by have := HLT.out; have := HSZ3.out; omega) (fun i e => by have e' : i = bB := e; omega)))
  have HSZ4 := hide (box_lt HRS4.out)
  rw [← hY]
  clear hY oY HBX3 HRS3 HBW3 HSZ3 u0 u1 u2 u3 u4 u5
  obtain ⟨_, _, _, _, _, _, u0, u1, u2, u3, u4, u5⟩ := six HBX4.out
  go_wp2_with fail
  refine (ans_any).mono ?_
  simp only [GE.val, GE.row, ansG]
  rintro _ w5 ⟨rfl, b5⟩
  have HBX5 := hide (below_box b5 HBX4.out)
  have HRS5 := hide (below_box b5 HRS4.out)
  have HBW5 := hide (below_next HBW4.out b5 (by have := HLT.out; have := HSZ4.out; omega))
  have HSZ5 := hide (box_lt HRS5.out)
  clear b5 HBX4 HRS4 HBW4 HSZ4 u0 u1 u2 u3 u4 u5
  obtain ⟨f0, f1, f2, f3, f4, f5, r0, r1, r2, r3, r4, r5⟩ := six HRS5.out
  go_wp2
  have hE := heap_set6 HRS5.out (.int .i64 c) (.int .i64 e) (.int .i64 l) (.int .i64 s) (.int .i64 0) (.int .i64 0)
  refine bodyPost_ret (results_cell_two rfl _ _ rB 23 _ _ _ rfl hE Try.underlying23 rfl (by kernel_rfl)) rfl ?_
  refine ⟨by rw [HQ.out]; rfl, ?_⟩
  rw [HBB.out]
  exact HBW5.out.trans ((only_set6 _ rB _ _ _ _ _ _).below (by have := HLT.out; have := HSZ5.out; omega) (fun i e => by have e' : i = rB := e; have := HLT.out; omega))

set_option maxRecDepth 100000 in
set_option maxHeartbeats 2000000 in
theorem grn_a {W : World} {ck ep un se ki ak : Int} {c x u s k a : Int} {n e : Int} (hs : sndG ⟨ck, ep, un, se, ki, ak⟩ = ⟨c, x, u, s, k, a⟩) (hw : awG ⟨c, x, u, s, k, a⟩ n = true) (h3 : ¬ e < 1) (h4 : ¬ 9007199254740992 < e) (h5 : k ≠ 2) :
    Calls Try.prog 22 #[.agg #[.int .i64 ck, .int .i64 ep, .int .i64 un, .int .i64 se, .int .i64 ki, .int .i64 ak], .int .i64 n, .int .i64 e] W fun z w' => z = .returned (.tuple #[GE.val (grnG ⟨ck, ep, un, se, ki, ak⟩ n e).1, .bool (grnG ⟨ck, ep, un, se, ki, ak⟩ n e).2]) ∧ Below W.heap.size W w' := by
  have hok : okG ⟨c, x, u, s, k, a⟩ := by rw [← hs]; exact snd_ok _
  have HOK := hide hok
  obtain ⟨l, hl⟩ : ∃ l, laterC a 12 = l := ⟨_, rfl⟩
  have HQ : Hid (grnG ⟨ck, ep, un, se, ki, ak⟩ n e = (⟨c, e, l, s, 0, 0⟩, true)) := hide (by unfold grnG; rw [hs]; unfold grnS; rw [if_neg (fun q => by have w := of_decide_eq_true hw; rcases q with q | q | q | q | q; exact w.1 q; exact q w.2; exact h3 q; exact h4 q; exact h5 q.1)]; simp only [hl]; rw [if_neg h5])
  have HW := hide hw
  have d3 : decide (e < 1) = false := decide_eq_false h3
  have d4 : decide (e > 9007199254740992) = false := decide_eq_false h4
  have d5 : (k == 2) = false := ne_eqL h5
  have HL := hide hl
  have HS := hide hs
  clear hs hok hl hw h3 h4 h5
  obtain ⟨V0, hV0⟩ : ∃ V0, V0 = W.alloc (.cells #[.int .i64 ck, .int .i64 ep, .int .i64 un, .int .i64 se, .int .i64 ki, .int .i64 ak] 23 (0, 0)) := ⟨_, rfl⟩
  obtain ⟨V, hV⟩ : ∃ V, V = V0.alloc (.cells #[.int .i64 0, .int .i64 0, .int .i64 0, .int .i64 0, .int .i64 0, .int .i64 0] 23 (0, 0)) := ⟨_, rfl⟩
  have bV0 : Below W.heap.size W V0 := by rw [hV0]; exact alloc_below _ _
  have bV1 : Below V0.heap.size V0 V := by rw [hV]; exact alloc_below _ _
  have v0 : V0.heap[W.heap.size]? = some (.cells #[.int .i64 ck, .int .i64 ep, .int .i64 un, .int .i64 se, .int .i64 ki, .int .i64 ak] 23 (0, 0)) := by rw [hV0]; exact heap_alloc_new W _
  have v1 : V.heap[V0.heap.size]? = some (.cells #[.int .i64 0, .int .i64 0, .int .i64 0, .int .i64 0, .int .i64 0, .int .i64 0] 23 (0, 0)) := by rw [hV]; exact heap_alloc_new V0 _
  have v2 := below_box bV1 v0
  have hlt := box_lt v0
  have hs0 : V0.heap.size = W.heap.size + 1 := by rw [hV0]; simp
  obtain ⟨bB, hbB⟩ : ∃ bB, W.heap.size = bB := ⟨_, rfl⟩
  obtain ⟨rB, hrB⟩ : ∃ rB, V0.heap.size = rB := ⟨_, rfl⟩
  have hrb : bB + 1 = rB := by omega
  rw [hbB, hrB] at hlt
  rw [hbB] at v2
  rw [hrB] at v1
  have HBW0 : Hid (Below bB W V) := hide (by rw [← hbB]; exact below_next bV0 bV1 bV0.size)
  have HBX0 := hide v2
  have HRS0 := hide v1
  have HBB := hide hbB
  have HLT := hide hlt
  have HSZ0 := hide (box_lt v1)
  clear v0 v1 v2 bV0 bV1
  go_enter Try.func22, Try.ntmps22
  go_upto_region 1 with fail
  try rw [hbB]
  try rw [hrb]
  rw [← hV0, ← hV]
  try rw [hrB]
  clear hV0 hV hbB hrB hs0 hrb hlt
  obtain ⟨_, _, _, _, _, _, u0, u1, u2, u3, u4, u5⟩ := six HBX0.out
  go_wp2_with fail
  refine (snd_any).mono ?_
  rw [HS.out]
  simp only [GE.val, GE.row]
  rintro _ w1 ⟨rfl, b1⟩
  have HBX1 := hide (below_box b1 HBX0.out)
  have HRS1 := hide (below_box b1 HRS0.out)
  have HBW1 := hide (below_next HBW0.out b1 (by have := HLT.out; have := HSZ0.out; omega))
  have HSZ1 := hide (box_lt HRS1.out)
  clear b1 HBX0 HRS0 HBW0 HSZ0 u0 u1 u2 u3 u4 u5
  obtain ⟨_, _, _, _, _, _, u0, u1, u2, u3, u4, u5⟩ := six HBX1.out
  go_upto_region 2 with fail
  obtain ⟨X, hX⟩ : ∃ X, X = ((((((w1.setCell ⟨bB, 0, none⟩ (.int .i64 c)).setCell ⟨bB, 1, none⟩ (.int .i64 x)).setCell ⟨bB, 2, none⟩ (.int .i64 u)).setCell ⟨bB, 3, none⟩ (.int .i64 s)).setCell ⟨bB, 4, none⟩ (.int .i64 k)).setCell ⟨bB, 5, none⟩ (.int .i64 a)) := ⟨_, rfl⟩
  have oX : Only (· = bB) w1 X := by rw [hX]; exact ((((((Only.set (F := (· = bB)) _ bB 0 (.int .i64 c) rfl).trans (Only.set (F := (· = bB)) _ bB 1 (.int .i64 x) rfl)).trans (Only.set (F := (· = bB)) _ bB 2 (.int .i64 u) rfl)).trans (Only.set (F := (· = bB)) _ bB 3 (.int .i64 s) rfl)).trans (Only.set (F := (· = bB)) _ bB 4 (.int .i64 k) rfl)).trans (Only.set (F := (· = bB)) _ bB 5 (.int .i64 a) rfl))
  have HBX2 : Hid (X.heap[bB]? = some (.cells #[.int .i64 c, .int .i64 x, .int .i64 u, .int .i64 s, .int .i64 k, .int .i64 a] 23 (0, 0))) := hide (by rw [hX]; exact (heap_set_sameL (heap_set_sameL (heap_set_sameL (heap_set_sameL (heap_set_sameL (heap_set_sameL HBX1.out 0 (.int .i64 c)) 1 (.int .i64 x)) 2 (.int .i64 u)) 3 (.int .i64 s)) 4 (.int .i64 k)) 5 (.int .i64 a)))
  have HRS2 := hide (oX.obj HRS1.out (fun e => by have e' : rB = bB := e; have := HLT.out; omega))
  have HBW2 := hide (HBW1.out.trans (oX.below (by have := HLT.out; have := HSZ1.out; omega) (fun i e => by have e' : i = bB := e; omega)))
  have HSZ2 := hide (box_lt HRS2.out)
  rw [← hX]
  clear hX oX HBX1 HRS1 HBW1 HSZ1 u0 u1 u2 u3 u4 u5
  obtain ⟨_, _, _, _, _, _, u0, u1, u2, u3, u4, u5⟩ := six HBX2.out
  go_wp2_with fail
  refine (awaits_any).mono ?_
  rw [HW.out]
  rintro _ w3 ⟨rfl, b3⟩
  have HBX3 := hide (below_box b3 HBX2.out)
  have HRS3 := hide (below_box b3 HRS2.out)
  have HBW3 := hide (below_next HBW2.out b3 (by have := HLT.out; have := HSZ2.out; omega))
  have HSZ3 := hide (box_lt HRS3.out)
  clear b3 HBX2 HRS2 HBW2 HSZ2 u0 u1 u2 u3 u4 u5
  obtain ⟨_, _, _, _, _, _, u0, u1, u2, u3, u4, u5⟩ := six HBX3.out
  go_upto_region 11 with (go_at_call 40; refine (glater_any HOK.out.2.2.2.2.1.1 HOK.out.2.2.2.2.1.2).mono ?_; rw [HL.out]; rintro _ wq ⟨rfl, hq⟩; have hq := hq.symm; subst hq)
  obtain ⟨Y, hY⟩ : ∃ Y, Y = ((w3.setCell ⟨bB, 1, none⟩ (.int .i64 e)).setCell ⟨bB, 2, none⟩ (.int .i64 l)) := ⟨_, rfl⟩
  have oY : Only (· = bB) w3 Y := by rw [hY]; exact ((Only.set (F := (· = bB)) _ bB 1 (.int .i64 e) rfl).trans (Only.set (F := (· = bB)) _ bB 2 (.int .i64 l) rfl))
  have HBX4 : Hid (Y.heap[bB]? = some (.cells #[.int .i64 c, .int .i64 e, .int .i64 l, .int .i64 s, .int .i64 k, .int .i64 a] 23 (0, 0))) := hide (by rw [hY]; exact (heap_set_sameL (heap_set_sameL HBX3.out 1 (.int .i64 e)) 2 (.int .i64 l)))
  have HRS4 := hide (oY.obj HRS3.out (fun e => by have e' : rB = bB := e; have := HLT.out; omega))
  have HBW4 := hide (HBW3.out.trans (oY.below (by have := HLT.out; have := HSZ3.out; omega) (fun i e => by have e' : i = bB := e; omega)))
  have HSZ4 := hide (box_lt HRS4.out)
  rw [← hY]
  clear hY oY HBX3 HRS3 HBW3 HSZ3 u0 u1 u2 u3 u4 u5
  obtain ⟨_, _, _, _, _, _, u0, u1, u2, u3, u4, u5⟩ := six HBX4.out
  go_wp2_with fail
  refine (ans_any).mono ?_
  simp only [GE.val, GE.row, ansG]
  rintro _ w5 ⟨rfl, b5⟩
  have HBX5 := hide (below_box b5 HBX4.out)
  have HRS5 := hide (below_box b5 HRS4.out)
  have HBW5 := hide (below_next HBW4.out b5 (by have := HLT.out; have := HSZ4.out; omega))
  have HSZ5 := hide (box_lt HRS5.out)
  clear b5 HBX4 HRS4 HBW4 HSZ4 u0 u1 u2 u3 u4 u5
  obtain ⟨f0, f1, f2, f3, f4, f5, r0, r1, r2, r3, r4, r5⟩ := six HRS5.out
  go_wp2
  have hE := heap_set6 HRS5.out (.int .i64 c) (.int .i64 e) (.int .i64 l) (.int .i64 s) (.int .i64 0) (.int .i64 0)
  refine bodyPost_ret (results_cell_two rfl _ _ rB 23 _ _ _ rfl hE Try.underlying23 rfl (by kernel_rfl)) rfl ?_
  refine ⟨by rw [HQ.out]; rfl, ?_⟩
  rw [HBB.out]
  exact HBW5.out.trans ((only_set6 _ rB _ _ _ _ _ _).below (by have := HLT.out; have := HSZ5.out; omega) (fun i e => by have e' : i = rB := e; have := HLT.out; omega))

theorem grn_any {W : World} {ck ep un se ki ak : Int} {n e : Int} : Calls Try.prog 22 #[.agg #[.int .i64 ck, .int .i64 ep, .int .i64 un, .int .i64 se, .int .i64 ki, .int .i64 ak], .int .i64 n, .int .i64 e] W fun z w' => z = .returned (.tuple #[GE.val (grnG ⟨ck, ep, un, se, ki, ak⟩ n e).1, .bool (grnG ⟨ck, ep, un, se, ki, ak⟩ n e).2]) ∧ Below W.heap.size W w' := by
  obtain ⟨⟨c, x, u, s, k, a⟩, hs⟩ : ∃ q, sndG ⟨ck, ep, un, se, ki, ak⟩ = q := ⟨_, rfl⟩
  cases hw : awG ⟨c, x, u, s, k, a⟩ n with
  | false => exact grn_w hs hw
  | true =>
    by_cases h3 : e < 1
    · exact grn_e hs hw h3
    · by_cases h4 : 9007199254740992 < e
      · exact grn_g hs hw h3 h4
      · by_cases h5 : k = 2
        · by_cases h6 : e = x
          · by_cases h7 : laterC a 12 < u
            · exact grn_r1 hs hw h3 h4 h5 h6 h7
            · exact grn_r2 hs hw h3 h4 h5 h6 h7
          · exact grn_x hs hw h3 h4 h5 h6
        · exact grn_a hs hw h3 h4 h5
set_option maxRecDepth 100000 in
set_option maxHeartbeats 2000000 in
theorem rgrn_k {W : World} {ck ep un se ki ak : Int} {c x u s k a : Int} {n e : Int} (hs : sndG ⟨ck, ep, un, se, ki, ak⟩ = ⟨c, x, u, s, k, a⟩) (h1 : k = 0) :
    Calls Try.prog 30 #[.agg #[.int .i64 ck, .int .i64 ep, .int .i64 un, .int .i64 se, .int .i64 ki, .int .i64 ak], .int .i64 n, .int .i64 e] W fun z w' => z = .returned (.tuple #[GE.val (grnG ⟨ck, ep, un, se, ki, ak⟩ n e).1, .bool (grnG ⟨ck, ep, un, se, ki, ak⟩ n e).2]) ∧ Below W.heap.size W w' := by
  have HQ : Hid (grnG ⟨ck, ep, un, se, ki, ak⟩ n e = (⟨c, x, u, s, k, a⟩, false)) := hide (by unfold grnG; rw [hs]; exact if_pos (.inl h1))
  have d1 : (k == 0) = true := by simpa using h1
  have HS := hide hs
  clear hs h1
  obtain ⟨V0, hV0⟩ : ∃ V0, V0 = W.alloc (.cells #[.int .i64 ck, .int .i64 ep, .int .i64 un, .int .i64 se, .int .i64 ki, .int .i64 ak] 23 (0, 0)) := ⟨_, rfl⟩
  obtain ⟨V, hV⟩ : ∃ V, V = V0.alloc (.cells #[.int .i64 0, .int .i64 0, .int .i64 0, .int .i64 0, .int .i64 0, .int .i64 0] 23 (0, 0)) := ⟨_, rfl⟩
  have bV0 : Below W.heap.size W V0 := by rw [hV0]; exact alloc_below _ _
  have bV1 : Below V0.heap.size V0 V := by rw [hV]; exact alloc_below _ _
  have v0 : V0.heap[W.heap.size]? = some (.cells #[.int .i64 ck, .int .i64 ep, .int .i64 un, .int .i64 se, .int .i64 ki, .int .i64 ak] 23 (0, 0)) := by rw [hV0]; exact heap_alloc_new W _
  have v1 : V.heap[V0.heap.size]? = some (.cells #[.int .i64 0, .int .i64 0, .int .i64 0, .int .i64 0, .int .i64 0, .int .i64 0] 23 (0, 0)) := by rw [hV]; exact heap_alloc_new V0 _
  have v2 := below_box bV1 v0
  have hlt := box_lt v0
  have hs0 : V0.heap.size = W.heap.size + 1 := by rw [hV0]; simp
  obtain ⟨bB, hbB⟩ : ∃ bB, W.heap.size = bB := ⟨_, rfl⟩
  obtain ⟨rB, hrB⟩ : ∃ rB, V0.heap.size = rB := ⟨_, rfl⟩
  have hrb : bB + 1 = rB := by omega
  rw [hbB, hrB] at hlt
  rw [hbB] at v2
  rw [hrB] at v1
  have HBW0 : Hid (Below bB W V) := hide (by rw [← hbB]; exact below_next bV0 bV1 bV0.size)
  have HBX0 := hide v2
  have HRS0 := hide v1
  have HBB := hide hbB
  have HLT := hide hlt
  have HSZ0 := hide (box_lt v1)
  clear v0 v1 v2 bV0 bV1
  go_enter Try.func30, Try.ntmps30
  go_upto_region 1 with fail
  try rw [hbB]
  try rw [hrb]
  rw [← hV0, ← hV]
  try rw [hrB]
  clear hV0 hV hbB hrB hs0 hrb hlt
  obtain ⟨_, _, _, _, _, _, u0, u1, u2, u3, u4, u5⟩ := six HBX0.out
  go_wp2_with fail
  refine (may_any).mono ?_
  rw [HS.out]
  simp only [GE.val, GE.row]
  rintro _ w1 ⟨rfl, b1⟩
  have HBX1 := hide (below_box b1 HBX0.out)
  have HRS1 := hide (below_box b1 HRS0.out)
  have HBW1 := hide (below_next HBW0.out b1 (by have := HLT.out; have := HSZ0.out; omega))
  have HSZ1 := hide (box_lt HRS1.out)
  clear b1 HBX0 HRS0 HBW0 HSZ0 u0 u1 u2 u3 u4 u5
  obtain ⟨_, _, _, _, _, _, u0, u1, u2, u3, u4, u5⟩ := six HBX1.out
  go_upto_region 2 with fail
  obtain ⟨X, hX⟩ : ∃ X, X = ((((((w1.setCell ⟨bB, 0, none⟩ (.int .i64 c)).setCell ⟨bB, 1, none⟩ (.int .i64 x)).setCell ⟨bB, 2, none⟩ (.int .i64 u)).setCell ⟨bB, 3, none⟩ (.int .i64 s)).setCell ⟨bB, 4, none⟩ (.int .i64 k)).setCell ⟨bB, 5, none⟩ (.int .i64 a)) := ⟨_, rfl⟩
  have oX : Only (· = bB) w1 X := by rw [hX]; exact ((((((Only.set (F := (· = bB)) _ bB 0 (.int .i64 c) rfl).trans (Only.set (F := (· = bB)) _ bB 1 (.int .i64 x) rfl)).trans (Only.set (F := (· = bB)) _ bB 2 (.int .i64 u) rfl)).trans (Only.set (F := (· = bB)) _ bB 3 (.int .i64 s) rfl)).trans (Only.set (F := (· = bB)) _ bB 4 (.int .i64 k) rfl)).trans (Only.set (F := (· = bB)) _ bB 5 (.int .i64 a) rfl))
  have HBX2 : Hid (X.heap[bB]? = some (.cells #[.int .i64 c, .int .i64 x, .int .i64 u, .int .i64 s, .int .i64 k, .int .i64 a] 23 (0, 0))) := hide (by rw [hX]; exact (heap_set_sameL (heap_set_sameL (heap_set_sameL (heap_set_sameL (heap_set_sameL (heap_set_sameL HBX1.out 0 (.int .i64 c)) 1 (.int .i64 x)) 2 (.int .i64 u)) 3 (.int .i64 s)) 4 (.int .i64 k)) 5 (.int .i64 a)))
  have HRS2 := hide (oX.obj HRS1.out (fun e => by have e' : rB = bB := e; have := HLT.out; omega))
  have HBW2 := hide (HBW1.out.trans (oX.below (by have := HLT.out; have := HSZ1.out; omega) (fun i e => by have e' : i = bB := e; omega)))
  have HSZ2 := hide (box_lt HRS2.out)
  rw [← hX]
  clear hX oX HBX1 HRS1 HBW1 HSZ1 u0 u1 u2 u3 u4 u5
  obtain ⟨_, _, _, _, _, _, u0, u1, u2, u3, u4, u5⟩ := six HBX2.out
  obtain ⟨f0, f1, f2, f3, f4, f5, r0, r1, r2, r3, r4, r5⟩ := six HRS2.out
  go_wp2
  have hE := heap_set6 HRS2.out (.int .i64 c) (.int .i64 x) (.int .i64 u) (.int .i64 s) (.int .i64 k) (.int .i64 a)
  refine bodyPost_ret (results_cell_two rfl _ _ rB 23 _ _ _ rfl hE Try.underlying23 rfl (by kernel_rfl)) rfl ?_
  refine ⟨by rw [HQ.out]; rfl, ?_⟩
  rw [HBB.out]
  exact HBW2.out.trans ((only_set6 _ rB _ _ _ _ _ _).below (by have := HLT.out; have := HSZ2.out; omega) (fun i e => by have e' : i = rB := e; have := HLT.out; omega))

set_option maxRecDepth 100000 in
set_option maxHeartbeats 2000000 in
theorem rgrn_n {W : World} {ck ep un se ki ak : Int} {c x u s k a : Int} {n e : Int} (hs : sndG ⟨ck, ep, un, se, ki, ak⟩ = ⟨c, x, u, s, k, a⟩) (h1 : k ≠ 0) (h2 : n ≠ s) :
    Calls Try.prog 30 #[.agg #[.int .i64 ck, .int .i64 ep, .int .i64 un, .int .i64 se, .int .i64 ki, .int .i64 ak], .int .i64 n, .int .i64 e] W fun z w' => z = .returned (.tuple #[GE.val (grnG ⟨ck, ep, un, se, ki, ak⟩ n e).1, .bool (grnG ⟨ck, ep, un, se, ki, ak⟩ n e).2]) ∧ Below W.heap.size W w' := by
  have HQ : Hid (grnG ⟨ck, ep, un, se, ki, ak⟩ n e = (⟨c, x, u, s, k, a⟩, false)) := hide (by unfold grnG; rw [hs]; exact if_pos (.inr (.inl h2)))
  have d1 : (k == 0) = false := ne_eqL h1
  have d2 : (n != s) = true := ne_neG h2
  have d2e : (n == s) = false := ne_eqL h2
  have HS := hide hs
  clear hs h1 h2
  obtain ⟨V0, hV0⟩ : ∃ V0, V0 = W.alloc (.cells #[.int .i64 ck, .int .i64 ep, .int .i64 un, .int .i64 se, .int .i64 ki, .int .i64 ak] 23 (0, 0)) := ⟨_, rfl⟩
  obtain ⟨V, hV⟩ : ∃ V, V = V0.alloc (.cells #[.int .i64 0, .int .i64 0, .int .i64 0, .int .i64 0, .int .i64 0, .int .i64 0] 23 (0, 0)) := ⟨_, rfl⟩
  have bV0 : Below W.heap.size W V0 := by rw [hV0]; exact alloc_below _ _
  have bV1 : Below V0.heap.size V0 V := by rw [hV]; exact alloc_below _ _
  have v0 : V0.heap[W.heap.size]? = some (.cells #[.int .i64 ck, .int .i64 ep, .int .i64 un, .int .i64 se, .int .i64 ki, .int .i64 ak] 23 (0, 0)) := by rw [hV0]; exact heap_alloc_new W _
  have v1 : V.heap[V0.heap.size]? = some (.cells #[.int .i64 0, .int .i64 0, .int .i64 0, .int .i64 0, .int .i64 0, .int .i64 0] 23 (0, 0)) := by rw [hV]; exact heap_alloc_new V0 _
  have v2 := below_box bV1 v0
  have hlt := box_lt v0
  have hs0 : V0.heap.size = W.heap.size + 1 := by rw [hV0]; simp
  obtain ⟨bB, hbB⟩ : ∃ bB, W.heap.size = bB := ⟨_, rfl⟩
  obtain ⟨rB, hrB⟩ : ∃ rB, V0.heap.size = rB := ⟨_, rfl⟩
  have hrb : bB + 1 = rB := by omega
  rw [hbB, hrB] at hlt
  rw [hbB] at v2
  rw [hrB] at v1
  have HBW0 : Hid (Below bB W V) := hide (by rw [← hbB]; exact below_next bV0 bV1 bV0.size)
  have HBX0 := hide v2
  have HRS0 := hide v1
  have HBB := hide hbB
  have HLT := hide hlt
  have HSZ0 := hide (box_lt v1)
  clear v0 v1 v2 bV0 bV1
  go_enter Try.func30, Try.ntmps30
  go_upto_region 1 with fail
  try rw [hbB]
  try rw [hrb]
  rw [← hV0, ← hV]
  try rw [hrB]
  clear hV0 hV hbB hrB hs0 hrb hlt
  obtain ⟨_, _, _, _, _, _, u0, u1, u2, u3, u4, u5⟩ := six HBX0.out
  go_wp2_with fail
  refine (may_any).mono ?_
  rw [HS.out]
  simp only [GE.val, GE.row]
  rintro _ w1 ⟨rfl, b1⟩
  have HBX1 := hide (below_box b1 HBX0.out)
  have HRS1 := hide (below_box b1 HRS0.out)
  have HBW1 := hide (below_next HBW0.out b1 (by have := HLT.out; have := HSZ0.out; omega))
  have HSZ1 := hide (box_lt HRS1.out)
  clear b1 HBX0 HRS0 HBW0 HSZ0 u0 u1 u2 u3 u4 u5
  obtain ⟨_, _, _, _, _, _, u0, u1, u2, u3, u4, u5⟩ := six HBX1.out
  go_upto_region 2 with fail
  obtain ⟨X, hX⟩ : ∃ X, X = ((((((w1.setCell ⟨bB, 0, none⟩ (.int .i64 c)).setCell ⟨bB, 1, none⟩ (.int .i64 x)).setCell ⟨bB, 2, none⟩ (.int .i64 u)).setCell ⟨bB, 3, none⟩ (.int .i64 s)).setCell ⟨bB, 4, none⟩ (.int .i64 k)).setCell ⟨bB, 5, none⟩ (.int .i64 a)) := ⟨_, rfl⟩
  have oX : Only (· = bB) w1 X := by rw [hX]; exact ((((((Only.set (F := (· = bB)) _ bB 0 (.int .i64 c) rfl).trans (Only.set (F := (· = bB)) _ bB 1 (.int .i64 x) rfl)).trans (Only.set (F := (· = bB)) _ bB 2 (.int .i64 u) rfl)).trans (Only.set (F := (· = bB)) _ bB 3 (.int .i64 s) rfl)).trans (Only.set (F := (· = bB)) _ bB 4 (.int .i64 k) rfl)).trans (Only.set (F := (· = bB)) _ bB 5 (.int .i64 a) rfl))
  have HBX2 : Hid (X.heap[bB]? = some (.cells #[.int .i64 c, .int .i64 x, .int .i64 u, .int .i64 s, .int .i64 k, .int .i64 a] 23 (0, 0))) := hide (by rw [hX]; exact (heap_set_sameL (heap_set_sameL (heap_set_sameL (heap_set_sameL (heap_set_sameL (heap_set_sameL HBX1.out 0 (.int .i64 c)) 1 (.int .i64 x)) 2 (.int .i64 u)) 3 (.int .i64 s)) 4 (.int .i64 k)) 5 (.int .i64 a)))
  have HRS2 := hide (oX.obj HRS1.out (fun e => by have e' : rB = bB := e; have := HLT.out; omega))
  have HBW2 := hide (HBW1.out.trans (oX.below (by have := HLT.out; have := HSZ1.out; omega) (fun i e => by have e' : i = bB := e; omega)))
  have HSZ2 := hide (box_lt HRS2.out)
  rw [← hX]
  clear hX oX HBX1 HRS1 HBW1 HSZ1 u0 u1 u2 u3 u4 u5
  obtain ⟨_, _, _, _, _, _, u0, u1, u2, u3, u4, u5⟩ := six HBX2.out
  obtain ⟨f0, f1, f2, f3, f4, f5, r0, r1, r2, r3, r4, r5⟩ := six HRS2.out
  go_wp2
  have hE := heap_set6 HRS2.out (.int .i64 c) (.int .i64 x) (.int .i64 u) (.int .i64 s) (.int .i64 k) (.int .i64 a)
  refine bodyPost_ret (results_cell_two rfl _ _ rB 23 _ _ _ rfl hE Try.underlying23 rfl (by kernel_rfl)) rfl ?_
  refine ⟨by rw [HQ.out]; rfl, ?_⟩
  rw [HBB.out]
  exact HBW2.out.trans ((only_set6 _ rB _ _ _ _ _ _).below (by have := HLT.out; have := HSZ2.out; omega) (fun i e => by have e' : i = rB := e; have := HLT.out; omega))

set_option maxRecDepth 100000 in
set_option maxHeartbeats 2000000 in
theorem rgrn_e {W : World} {ck ep un se ki ak : Int} {c x u s k a : Int} {n e : Int} (hs : sndG ⟨ck, ep, un, se, ki, ak⟩ = ⟨c, x, u, s, k, a⟩) (h1 : k ≠ 0) (h2 : n = s) (h3 : e < 1) :
    Calls Try.prog 30 #[.agg #[.int .i64 ck, .int .i64 ep, .int .i64 un, .int .i64 se, .int .i64 ki, .int .i64 ak], .int .i64 n, .int .i64 e] W fun z w' => z = .returned (.tuple #[GE.val (grnG ⟨ck, ep, un, se, ki, ak⟩ n e).1, .bool (grnG ⟨ck, ep, un, se, ki, ak⟩ n e).2]) ∧ Below W.heap.size W w' := by
  have HQ : Hid (grnG ⟨ck, ep, un, se, ki, ak⟩ n e = (⟨c, x, u, s, k, a⟩, false)) := hide (by unfold grnG; rw [hs]; exact if_pos (.inr (.inr (.inl h3))))
  have d1 : (k == 0) = false := ne_eqL h1
  have d2 : (n != s) = false := by simp [h2]
  have d2e : (n == s) = true := by simpa using h2
  have d3 : decide (e < 1) = true := decide_eq_true h3
  have HS := hide hs
  clear hs h1 h2 h3
  obtain ⟨V0, hV0⟩ : ∃ V0, V0 = W.alloc (.cells #[.int .i64 ck, .int .i64 ep, .int .i64 un, .int .i64 se, .int .i64 ki, .int .i64 ak] 23 (0, 0)) := ⟨_, rfl⟩
  obtain ⟨V, hV⟩ : ∃ V, V = V0.alloc (.cells #[.int .i64 0, .int .i64 0, .int .i64 0, .int .i64 0, .int .i64 0, .int .i64 0] 23 (0, 0)) := ⟨_, rfl⟩
  have bV0 : Below W.heap.size W V0 := by rw [hV0]; exact alloc_below _ _
  have bV1 : Below V0.heap.size V0 V := by rw [hV]; exact alloc_below _ _
  have v0 : V0.heap[W.heap.size]? = some (.cells #[.int .i64 ck, .int .i64 ep, .int .i64 un, .int .i64 se, .int .i64 ki, .int .i64 ak] 23 (0, 0)) := by rw [hV0]; exact heap_alloc_new W _
  have v1 : V.heap[V0.heap.size]? = some (.cells #[.int .i64 0, .int .i64 0, .int .i64 0, .int .i64 0, .int .i64 0, .int .i64 0] 23 (0, 0)) := by rw [hV]; exact heap_alloc_new V0 _
  have v2 := below_box bV1 v0
  have hlt := box_lt v0
  have hs0 : V0.heap.size = W.heap.size + 1 := by rw [hV0]; simp
  obtain ⟨bB, hbB⟩ : ∃ bB, W.heap.size = bB := ⟨_, rfl⟩
  obtain ⟨rB, hrB⟩ : ∃ rB, V0.heap.size = rB := ⟨_, rfl⟩
  have hrb : bB + 1 = rB := by omega
  rw [hbB, hrB] at hlt
  rw [hbB] at v2
  rw [hrB] at v1
  have HBW0 : Hid (Below bB W V) := hide (by rw [← hbB]; exact below_next bV0 bV1 bV0.size)
  have HBX0 := hide v2
  have HRS0 := hide v1
  have HBB := hide hbB
  have HLT := hide hlt
  have HSZ0 := hide (box_lt v1)
  clear v0 v1 v2 bV0 bV1
  go_enter Try.func30, Try.ntmps30
  go_upto_region 1 with fail
  try rw [hbB]
  try rw [hrb]
  rw [← hV0, ← hV]
  try rw [hrB]
  clear hV0 hV hbB hrB hs0 hrb hlt
  obtain ⟨_, _, _, _, _, _, u0, u1, u2, u3, u4, u5⟩ := six HBX0.out
  go_wp2_with fail
  refine (may_any).mono ?_
  rw [HS.out]
  simp only [GE.val, GE.row]
  rintro _ w1 ⟨rfl, b1⟩
  have HBX1 := hide (below_box b1 HBX0.out)
  have HRS1 := hide (below_box b1 HRS0.out)
  have HBW1 := hide (below_next HBW0.out b1 (by have := HLT.out; have := HSZ0.out; omega))
  have HSZ1 := hide (box_lt HRS1.out)
  clear b1 HBX0 HRS0 HBW0 HSZ0 u0 u1 u2 u3 u4 u5
  obtain ⟨_, _, _, _, _, _, u0, u1, u2, u3, u4, u5⟩ := six HBX1.out
  go_upto_region 2 with fail
  obtain ⟨X, hX⟩ : ∃ X, X = ((((((w1.setCell ⟨bB, 0, none⟩ (.int .i64 c)).setCell ⟨bB, 1, none⟩ (.int .i64 x)).setCell ⟨bB, 2, none⟩ (.int .i64 u)).setCell ⟨bB, 3, none⟩ (.int .i64 s)).setCell ⟨bB, 4, none⟩ (.int .i64 k)).setCell ⟨bB, 5, none⟩ (.int .i64 a)) := ⟨_, rfl⟩
  have oX : Only (· = bB) w1 X := by rw [hX]; exact ((((((Only.set (F := (· = bB)) _ bB 0 (.int .i64 c) rfl).trans (Only.set (F := (· = bB)) _ bB 1 (.int .i64 x) rfl)).trans (Only.set (F := (· = bB)) _ bB 2 (.int .i64 u) rfl)).trans (Only.set (F := (· = bB)) _ bB 3 (.int .i64 s) rfl)).trans (Only.set (F := (· = bB)) _ bB 4 (.int .i64 k) rfl)).trans (Only.set (F := (· = bB)) _ bB 5 (.int .i64 a) rfl))
  have HBX2 : Hid (X.heap[bB]? = some (.cells #[.int .i64 c, .int .i64 x, .int .i64 u, .int .i64 s, .int .i64 k, .int .i64 a] 23 (0, 0))) := hide (by rw [hX]; exact (heap_set_sameL (heap_set_sameL (heap_set_sameL (heap_set_sameL (heap_set_sameL (heap_set_sameL HBX1.out 0 (.int .i64 c)) 1 (.int .i64 x)) 2 (.int .i64 u)) 3 (.int .i64 s)) 4 (.int .i64 k)) 5 (.int .i64 a)))
  have HRS2 := hide (oX.obj HRS1.out (fun e => by have e' : rB = bB := e; have := HLT.out; omega))
  have HBW2 := hide (HBW1.out.trans (oX.below (by have := HLT.out; have := HSZ1.out; omega) (fun i e => by have e' : i = bB := e; omega)))
  have HSZ2 := hide (box_lt HRS2.out)
  rw [← hX]
  clear hX oX HBX1 HRS1 HBW1 HSZ1 u0 u1 u2 u3 u4 u5
  obtain ⟨_, _, _, _, _, _, u0, u1, u2, u3, u4, u5⟩ := six HBX2.out
  obtain ⟨f0, f1, f2, f3, f4, f5, r0, r1, r2, r3, r4, r5⟩ := six HRS2.out
  go_wp2
  have hE := heap_set6 HRS2.out (.int .i64 c) (.int .i64 x) (.int .i64 u) (.int .i64 s) (.int .i64 k) (.int .i64 a)
  refine bodyPost_ret (results_cell_two rfl _ _ rB 23 _ _ _ rfl hE Try.underlying23 rfl (by kernel_rfl)) rfl ?_
  refine ⟨by rw [HQ.out]; rfl, ?_⟩
  rw [HBB.out]
  exact HBW2.out.trans ((only_set6 _ rB _ _ _ _ _ _).below (by have := HLT.out; have := HSZ2.out; omega) (fun i e => by have e' : i = rB := e; have := HLT.out; omega))

set_option maxRecDepth 100000 in
set_option maxHeartbeats 2000000 in
theorem rgrn_g {W : World} {ck ep un se ki ak : Int} {c x u s k a : Int} {n e : Int} (hs : sndG ⟨ck, ep, un, se, ki, ak⟩ = ⟨c, x, u, s, k, a⟩) (h1 : k ≠ 0) (h2 : n = s) (h3 : ¬ e < 1) (h4 : 9007199254740992 < e) :
    Calls Try.prog 30 #[.agg #[.int .i64 ck, .int .i64 ep, .int .i64 un, .int .i64 se, .int .i64 ki, .int .i64 ak], .int .i64 n, .int .i64 e] W fun z w' => z = .returned (.tuple #[GE.val (grnG ⟨ck, ep, un, se, ki, ak⟩ n e).1, .bool (grnG ⟨ck, ep, un, se, ki, ak⟩ n e).2]) ∧ Below W.heap.size W w' := by
  have HQ : Hid (grnG ⟨ck, ep, un, se, ki, ak⟩ n e = (⟨c, x, u, s, k, a⟩, false)) := hide (by unfold grnG; rw [hs]; exact if_pos (.inr (.inr (.inr (.inl h4)))))
  have d1 : (k == 0) = false := ne_eqL h1
  have d2 : (n != s) = false := by simp [h2]
  have d2e : (n == s) = true := by simpa using h2
  have d3 : decide (e < 1) = false := decide_eq_false h3
  have d4 : decide (e > 9007199254740992) = true := decide_eq_true h4
  have HS := hide hs
  clear hs h1 h2 h3 h4
  obtain ⟨V0, hV0⟩ : ∃ V0, V0 = W.alloc (.cells #[.int .i64 ck, .int .i64 ep, .int .i64 un, .int .i64 se, .int .i64 ki, .int .i64 ak] 23 (0, 0)) := ⟨_, rfl⟩
  obtain ⟨V, hV⟩ : ∃ V, V = V0.alloc (.cells #[.int .i64 0, .int .i64 0, .int .i64 0, .int .i64 0, .int .i64 0, .int .i64 0] 23 (0, 0)) := ⟨_, rfl⟩
  have bV0 : Below W.heap.size W V0 := by rw [hV0]; exact alloc_below _ _
  have bV1 : Below V0.heap.size V0 V := by rw [hV]; exact alloc_below _ _
  have v0 : V0.heap[W.heap.size]? = some (.cells #[.int .i64 ck, .int .i64 ep, .int .i64 un, .int .i64 se, .int .i64 ki, .int .i64 ak] 23 (0, 0)) := by rw [hV0]; exact heap_alloc_new W _
  have v1 : V.heap[V0.heap.size]? = some (.cells #[.int .i64 0, .int .i64 0, .int .i64 0, .int .i64 0, .int .i64 0, .int .i64 0] 23 (0, 0)) := by rw [hV]; exact heap_alloc_new V0 _
  have v2 := below_box bV1 v0
  have hlt := box_lt v0
  have hs0 : V0.heap.size = W.heap.size + 1 := by rw [hV0]; simp
  obtain ⟨bB, hbB⟩ : ∃ bB, W.heap.size = bB := ⟨_, rfl⟩
  obtain ⟨rB, hrB⟩ : ∃ rB, V0.heap.size = rB := ⟨_, rfl⟩
  have hrb : bB + 1 = rB := by omega
  rw [hbB, hrB] at hlt
  rw [hbB] at v2
  rw [hrB] at v1
  have HBW0 : Hid (Below bB W V) := hide (by rw [← hbB]; exact below_next bV0 bV1 bV0.size)
  have HBX0 := hide v2
  have HRS0 := hide v1
  have HBB := hide hbB
  have HLT := hide hlt
  have HSZ0 := hide (box_lt v1)
  clear v0 v1 v2 bV0 bV1
  go_enter Try.func30, Try.ntmps30
  go_upto_region 1 with fail
  try rw [hbB]
  try rw [hrb]
  rw [← hV0, ← hV]
  try rw [hrB]
  clear hV0 hV hbB hrB hs0 hrb hlt
  obtain ⟨_, _, _, _, _, _, u0, u1, u2, u3, u4, u5⟩ := six HBX0.out
  go_wp2_with fail
  refine (may_any).mono ?_
  rw [HS.out]
  simp only [GE.val, GE.row]
  rintro _ w1 ⟨rfl, b1⟩
  have HBX1 := hide (below_box b1 HBX0.out)
  have HRS1 := hide (below_box b1 HRS0.out)
  have HBW1 := hide (below_next HBW0.out b1 (by have := HLT.out; have := HSZ0.out; omega))
  have HSZ1 := hide (box_lt HRS1.out)
  clear b1 HBX0 HRS0 HBW0 HSZ0 u0 u1 u2 u3 u4 u5
  obtain ⟨_, _, _, _, _, _, u0, u1, u2, u3, u4, u5⟩ := six HBX1.out
  go_upto_region 2 with fail
  obtain ⟨X, hX⟩ : ∃ X, X = ((((((w1.setCell ⟨bB, 0, none⟩ (.int .i64 c)).setCell ⟨bB, 1, none⟩ (.int .i64 x)).setCell ⟨bB, 2, none⟩ (.int .i64 u)).setCell ⟨bB, 3, none⟩ (.int .i64 s)).setCell ⟨bB, 4, none⟩ (.int .i64 k)).setCell ⟨bB, 5, none⟩ (.int .i64 a)) := ⟨_, rfl⟩
  have oX : Only (· = bB) w1 X := by rw [hX]; exact ((((((Only.set (F := (· = bB)) _ bB 0 (.int .i64 c) rfl).trans (Only.set (F := (· = bB)) _ bB 1 (.int .i64 x) rfl)).trans (Only.set (F := (· = bB)) _ bB 2 (.int .i64 u) rfl)).trans (Only.set (F := (· = bB)) _ bB 3 (.int .i64 s) rfl)).trans (Only.set (F := (· = bB)) _ bB 4 (.int .i64 k) rfl)).trans (Only.set (F := (· = bB)) _ bB 5 (.int .i64 a) rfl))
  have HBX2 : Hid (X.heap[bB]? = some (.cells #[.int .i64 c, .int .i64 x, .int .i64 u, .int .i64 s, .int .i64 k, .int .i64 a] 23 (0, 0))) := hide (by rw [hX]; exact (heap_set_sameL (heap_set_sameL (heap_set_sameL (heap_set_sameL (heap_set_sameL (heap_set_sameL HBX1.out 0 (.int .i64 c)) 1 (.int .i64 x)) 2 (.int .i64 u)) 3 (.int .i64 s)) 4 (.int .i64 k)) 5 (.int .i64 a)))
  have HRS2 := hide (oX.obj HRS1.out (fun e => by have e' : rB = bB := e; have := HLT.out; omega))
  have HBW2 := hide (HBW1.out.trans (oX.below (by have := HLT.out; have := HSZ1.out; omega) (fun i e => by have e' : i = bB := e; omega)))
  have HSZ2 := hide (box_lt HRS2.out)
  rw [← hX]
  clear hX oX HBX1 HRS1 HBW1 HSZ1 u0 u1 u2 u3 u4 u5
  obtain ⟨_, _, _, _, _, _, u0, u1, u2, u3, u4, u5⟩ := six HBX2.out
  obtain ⟨f0, f1, f2, f3, f4, f5, r0, r1, r2, r3, r4, r5⟩ := six HRS2.out
  go_wp2
  have hE := heap_set6 HRS2.out (.int .i64 c) (.int .i64 x) (.int .i64 u) (.int .i64 s) (.int .i64 k) (.int .i64 a)
  refine bodyPost_ret (results_cell_two rfl _ _ rB 23 _ _ _ rfl hE Try.underlying23 rfl (by kernel_rfl)) rfl ?_
  refine ⟨by rw [HQ.out]; rfl, ?_⟩
  rw [HBB.out]
  exact HBW2.out.trans ((only_set6 _ rB _ _ _ _ _ _).below (by have := HLT.out; have := HSZ2.out; omega) (fun i e => by have e' : i = rB := e; have := HLT.out; omega))

set_option maxRecDepth 100000 in
set_option maxHeartbeats 2000000 in
theorem rgrn_x {W : World} {ck ep un se ki ak : Int} {c x u s k a : Int} {n e : Int} (hs : sndG ⟨ck, ep, un, se, ki, ak⟩ = ⟨c, x, u, s, k, a⟩) (h1 : k ≠ 0) (h2 : n = s) (h3 : ¬ e < 1) (h4 : ¬ 9007199254740992 < e) (h5 : k = 2) (h6 : e ≠ x) :
    Calls Try.prog 30 #[.agg #[.int .i64 ck, .int .i64 ep, .int .i64 un, .int .i64 se, .int .i64 ki, .int .i64 ak], .int .i64 n, .int .i64 e] W fun z w' => z = .returned (.tuple #[GE.val (grnG ⟨ck, ep, un, se, ki, ak⟩ n e).1, .bool (grnG ⟨ck, ep, un, se, ki, ak⟩ n e).2]) ∧ Below W.heap.size W w' := by
  have HQ : Hid (grnG ⟨ck, ep, un, se, ki, ak⟩ n e = (⟨c, x, u, s, k, a⟩, false)) := hide (by unfold grnG; rw [hs]; exact if_pos (.inr (.inr (.inr (.inr ⟨h5, h6⟩)))))
  have d1 : (k == 0) = false := ne_eqL h1
  have d2 : (n != s) = false := by simp [h2]
  have d2e : (n == s) = true := by simpa using h2
  have d3 : decide (e < 1) = false := decide_eq_false h3
  have d4 : decide (e > 9007199254740992) = false := decide_eq_false h4
  have d5 : (k == 2) = true := by simpa using h5
  have d6 : (e != x) = true := ne_neG h6
  have d6e : (e == x) = false := ne_eqL h6
  have HS := hide hs
  clear hs h1 h2 h3 h4 h5 h6
  obtain ⟨V0, hV0⟩ : ∃ V0, V0 = W.alloc (.cells #[.int .i64 ck, .int .i64 ep, .int .i64 un, .int .i64 se, .int .i64 ki, .int .i64 ak] 23 (0, 0)) := ⟨_, rfl⟩
  obtain ⟨V, hV⟩ : ∃ V, V = V0.alloc (.cells #[.int .i64 0, .int .i64 0, .int .i64 0, .int .i64 0, .int .i64 0, .int .i64 0] 23 (0, 0)) := ⟨_, rfl⟩
  have bV0 : Below W.heap.size W V0 := by rw [hV0]; exact alloc_below _ _
  have bV1 : Below V0.heap.size V0 V := by rw [hV]; exact alloc_below _ _
  have v0 : V0.heap[W.heap.size]? = some (.cells #[.int .i64 ck, .int .i64 ep, .int .i64 un, .int .i64 se, .int .i64 ki, .int .i64 ak] 23 (0, 0)) := by rw [hV0]; exact heap_alloc_new W _
  have v1 : V.heap[V0.heap.size]? = some (.cells #[.int .i64 0, .int .i64 0, .int .i64 0, .int .i64 0, .int .i64 0, .int .i64 0] 23 (0, 0)) := by rw [hV]; exact heap_alloc_new V0 _
  have v2 := below_box bV1 v0
  have hlt := box_lt v0
  have hs0 : V0.heap.size = W.heap.size + 1 := by rw [hV0]; simp
  obtain ⟨bB, hbB⟩ : ∃ bB, W.heap.size = bB := ⟨_, rfl⟩
  obtain ⟨rB, hrB⟩ : ∃ rB, V0.heap.size = rB := ⟨_, rfl⟩
  have hrb : bB + 1 = rB := by omega
  rw [hbB, hrB] at hlt
  rw [hbB] at v2
  rw [hrB] at v1
  have HBW0 : Hid (Below bB W V) := hide (by rw [← hbB]; exact below_next bV0 bV1 bV0.size)
  have HBX0 := hide v2
  have HRS0 := hide v1
  have HBB := hide hbB
  have HLT := hide hlt
  have HSZ0 := hide (box_lt v1)
  clear v0 v1 v2 bV0 bV1
  go_enter Try.func30, Try.ntmps30
  go_upto_region 1 with fail
  try rw [hbB]
  try rw [hrb]
  rw [← hV0, ← hV]
  try rw [hrB]
  clear hV0 hV hbB hrB hs0 hrb hlt
  obtain ⟨_, _, _, _, _, _, u0, u1, u2, u3, u4, u5⟩ := six HBX0.out
  go_wp2_with fail
  refine (may_any).mono ?_
  rw [HS.out]
  simp only [GE.val, GE.row]
  rintro _ w1 ⟨rfl, b1⟩
  have HBX1 := hide (below_box b1 HBX0.out)
  have HRS1 := hide (below_box b1 HRS0.out)
  have HBW1 := hide (below_next HBW0.out b1 (by have := HLT.out; have := HSZ0.out; omega))
  have HSZ1 := hide (box_lt HRS1.out)
  clear b1 HBX0 HRS0 HBW0 HSZ0 u0 u1 u2 u3 u4 u5
  obtain ⟨_, _, _, _, _, _, u0, u1, u2, u3, u4, u5⟩ := six HBX1.out
  go_upto_region 2 with fail
  obtain ⟨X, hX⟩ : ∃ X, X = ((((((w1.setCell ⟨bB, 0, none⟩ (.int .i64 c)).setCell ⟨bB, 1, none⟩ (.int .i64 x)).setCell ⟨bB, 2, none⟩ (.int .i64 u)).setCell ⟨bB, 3, none⟩ (.int .i64 s)).setCell ⟨bB, 4, none⟩ (.int .i64 k)).setCell ⟨bB, 5, none⟩ (.int .i64 a)) := ⟨_, rfl⟩
  have oX : Only (· = bB) w1 X := by rw [hX]; exact ((((((Only.set (F := (· = bB)) _ bB 0 (.int .i64 c) rfl).trans (Only.set (F := (· = bB)) _ bB 1 (.int .i64 x) rfl)).trans (Only.set (F := (· = bB)) _ bB 2 (.int .i64 u) rfl)).trans (Only.set (F := (· = bB)) _ bB 3 (.int .i64 s) rfl)).trans (Only.set (F := (· = bB)) _ bB 4 (.int .i64 k) rfl)).trans (Only.set (F := (· = bB)) _ bB 5 (.int .i64 a) rfl))
  have HBX2 : Hid (X.heap[bB]? = some (.cells #[.int .i64 c, .int .i64 x, .int .i64 u, .int .i64 s, .int .i64 k, .int .i64 a] 23 (0, 0))) := hide (by rw [hX]; exact (heap_set_sameL (heap_set_sameL (heap_set_sameL (heap_set_sameL (heap_set_sameL (heap_set_sameL HBX1.out 0 (.int .i64 c)) 1 (.int .i64 x)) 2 (.int .i64 u)) 3 (.int .i64 s)) 4 (.int .i64 k)) 5 (.int .i64 a)))
  have HRS2 := hide (oX.obj HRS1.out (fun e => by have e' : rB = bB := e; have := HLT.out; omega))
  have HBW2 := hide (HBW1.out.trans (oX.below (by have := HLT.out; have := HSZ1.out; omega) (fun i e => by have e' : i = bB := e; omega)))
  have HSZ2 := hide (box_lt HRS2.out)
  rw [← hX]
  clear hX oX HBX1 HRS1 HBW1 HSZ1 u0 u1 u2 u3 u4 u5
  obtain ⟨_, _, _, _, _, _, u0, u1, u2, u3, u4, u5⟩ := six HBX2.out
  obtain ⟨f0, f1, f2, f3, f4, f5, r0, r1, r2, r3, r4, r5⟩ := six HRS2.out
  go_wp2
  have hE := heap_set6 HRS2.out (.int .i64 c) (.int .i64 x) (.int .i64 u) (.int .i64 s) (.int .i64 k) (.int .i64 a)
  refine bodyPost_ret (results_cell_two rfl _ _ rB 23 _ _ _ rfl hE Try.underlying23 rfl (by kernel_rfl)) rfl ?_
  refine ⟨by rw [HQ.out]; rfl, ?_⟩
  rw [HBB.out]
  exact HBW2.out.trans ((only_set6 _ rB _ _ _ _ _ _).below (by have := HLT.out; have := HSZ2.out; omega) (fun i e => by have e' : i = rB := e; have := HLT.out; omega))

set_option maxRecDepth 100000 in
set_option maxHeartbeats 2000000 in
theorem rgrn_r1m {W : World} {ck ep un se ki ak : Int} {c x u s k a : Int} {n e : Int} (hs : sndG ⟨ck, ep, un, se, ki, ak⟩ = ⟨c, x, u, s, k, a⟩) (h1 : k ≠ 0) (h2 : n = s) (h3 : ¬ e < 1) (h4 : ¬ 9007199254740992 < e) (h5 : k = 2) (h6 : e = x) (h7 : laterC a 12 < u) (h8 : 9007199254740992 < a + 12) :
    Calls Try.prog 30 #[.agg #[.int .i64 ck, .int .i64 ep, .int .i64 un, .int .i64 se, .int .i64 ki, .int .i64 ak], .int .i64 n, .int .i64 e] W fun z w' => z = .returned (.tuple #[GE.val (grnG ⟨ck, ep, un, se, ki, ak⟩ n e).1, .bool (grnG ⟨ck, ep, un, se, ki, ak⟩ n e).2]) ∧ Below W.heap.size W w' := by
  have hok : okG ⟨c, x, u, s, k, a⟩ := by rw [← hs]; exact snd_ok _
  have HOK := hide hok
  obtain ⟨l, hl⟩ : ∃ l, laterC a 12 = l := ⟨_, rfl⟩
  rw [hl] at h7
  have HQ : Hid (grnG ⟨ck, ep, un, se, ki, ak⟩ n e = (⟨c, e, u, s, 0, 0⟩, true)) := hide (by unfold grnG; rw [hs]; unfold grnS; rw [if_neg (fun q => by rcases q with q | q | q | q | q; exact h1 q; exact q h2; exact h3 q; exact h4 q; exact q.2 h6)]; simp only [hl]; rw [if_pos h5, if_pos h7])
  have d1 : (k == 0) = false := ne_eqL h1
  have d2 : (n != s) = false := by simp [h2]
  have d2e : (n == s) = true := by simpa using h2
  have d3 : decide (e < 1) = false := decide_eq_false h3
  have d4 : decide (e > 9007199254740992) = false := decide_eq_false h4
  have d5 : (k == 2) = true := by simpa using h5
  have d6 : (e != x) = false := by simp [h6]
  have d6e : (e == x) = true := by simpa using h6
  have e1 : IntKind.i64.wrap (a + 12) = a + 12 := by unfold okG at hok; simp only at hok; rw [IntKind.wrap_i64]; omega
  have hl2 : 9007199254740992 = l := by rw [← hl]; unfold okG at hok; simp only at hok; unfold laterC; omega
  subst hl2
  have HL := hide hl
  have HS := hide hs
  clear hs hok hl h1 h2 h3 h4 h5 h6
  obtain ⟨V0, hV0⟩ : ∃ V0, V0 = W.alloc (.cells #[.int .i64 ck, .int .i64 ep, .int .i64 un, .int .i64 se, .int .i64 ki, .int .i64 ak] 23 (0, 0)) := ⟨_, rfl⟩
  obtain ⟨V, hV⟩ : ∃ V, V = V0.alloc (.cells #[.int .i64 0, .int .i64 0, .int .i64 0, .int .i64 0, .int .i64 0, .int .i64 0] 23 (0, 0)) := ⟨_, rfl⟩
  have bV0 : Below W.heap.size W V0 := by rw [hV0]; exact alloc_below _ _
  have bV1 : Below V0.heap.size V0 V := by rw [hV]; exact alloc_below _ _
  have v0 : V0.heap[W.heap.size]? = some (.cells #[.int .i64 ck, .int .i64 ep, .int .i64 un, .int .i64 se, .int .i64 ki, .int .i64 ak] 23 (0, 0)) := by rw [hV0]; exact heap_alloc_new W _
  have v1 : V.heap[V0.heap.size]? = some (.cells #[.int .i64 0, .int .i64 0, .int .i64 0, .int .i64 0, .int .i64 0, .int .i64 0] 23 (0, 0)) := by rw [hV]; exact heap_alloc_new V0 _
  have v2 := below_box bV1 v0
  have hlt := box_lt v0
  have hs0 : V0.heap.size = W.heap.size + 1 := by rw [hV0]; simp
  obtain ⟨bB, hbB⟩ : ∃ bB, W.heap.size = bB := ⟨_, rfl⟩
  obtain ⟨rB, hrB⟩ : ∃ rB, V0.heap.size = rB := ⟨_, rfl⟩
  have hrb : bB + 1 = rB := by omega
  rw [hbB, hrB] at hlt
  rw [hbB] at v2
  rw [hrB] at v1
  have HBW0 : Hid (Below bB W V) := hide (by rw [← hbB]; exact below_next bV0 bV1 bV0.size)
  have HBX0 := hide v2
  have HRS0 := hide v1
  have HBB := hide hbB
  have HLT := hide hlt
  have HSZ0 := hide (box_lt v1)
  clear v0 v1 v2 bV0 bV1
  go_enter Try.func30, Try.ntmps30
  go_upto_region 1 with fail
  try rw [hbB]
  try rw [hrb]
  rw [← hV0, ← hV]
  try rw [hrB]
  clear hV0 hV hbB hrB hs0 hrb hlt
  obtain ⟨_, _, _, _, _, _, u0, u1, u2, u3, u4, u5⟩ := six HBX0.out
  go_wp2_with fail
  refine (may_any).mono ?_
  rw [HS.out]
  simp only [GE.val, GE.row]
  rintro _ w1 ⟨rfl, b1⟩
  have HBX1 := hide (below_box b1 HBX0.out)
  have HRS1 := hide (below_box b1 HRS0.out)
  have HBW1 := hide (below_next HBW0.out b1 (by have := HLT.out; have := HSZ0.out; omega))
  have HSZ1 := hide (box_lt HRS1.out)
  clear b1 HBX0 HRS0 HBW0 HSZ0 u0 u1 u2 u3 u4 u5
  obtain ⟨_, _, _, _, _, _, u0, u1, u2, u3, u4, u5⟩ := six HBX1.out
  go_upto_region 2 with fail
  obtain ⟨X, hX⟩ : ∃ X, X = ((((((w1.setCell ⟨bB, 0, none⟩ (.int .i64 c)).setCell ⟨bB, 1, none⟩ (.int .i64 x)).setCell ⟨bB, 2, none⟩ (.int .i64 u)).setCell ⟨bB, 3, none⟩ (.int .i64 s)).setCell ⟨bB, 4, none⟩ (.int .i64 k)).setCell ⟨bB, 5, none⟩ (.int .i64 a)) := ⟨_, rfl⟩
  have oX : Only (· = bB) w1 X := by rw [hX]; exact ((((((Only.set (F := (· = bB)) _ bB 0 (.int .i64 c) rfl).trans (Only.set (F := (· = bB)) _ bB 1 (.int .i64 x) rfl)).trans (Only.set (F := (· = bB)) _ bB 2 (.int .i64 u) rfl)).trans (Only.set (F := (· = bB)) _ bB 3 (.int .i64 s) rfl)).trans (Only.set (F := (· = bB)) _ bB 4 (.int .i64 k) rfl)).trans (Only.set (F := (· = bB)) _ bB 5 (.int .i64 a) rfl))
  have HBX2 : Hid (X.heap[bB]? = some (.cells #[.int .i64 c, .int .i64 x, .int .i64 u, .int .i64 s, .int .i64 k, .int .i64 a] 23 (0, 0))) := hide (by rw [hX]; exact (heap_set_sameL (heap_set_sameL (heap_set_sameL (heap_set_sameL (heap_set_sameL (heap_set_sameL HBX1.out 0 (.int .i64 c)) 1 (.int .i64 x)) 2 (.int .i64 u)) 3 (.int .i64 s)) 4 (.int .i64 k)) 5 (.int .i64 a)))
  have HRS2 := hide (oX.obj HRS1.out (fun e => by have e' : rB = bB := e; have := HLT.out; omega))
  have HBW2 := hide (HBW1.out.trans (oX.below (by have := HLT.out; have := HSZ1.out; omega) (fun i e => by have e' : i = bB := e; omega)))
  have HSZ2 := hide (box_lt HRS2.out)
  rw [← hX]
  clear hX oX HBX1 HRS1 HBW1 HSZ1 u0 u1 u2 u3 u4 u5
  obtain ⟨_, _, _, _, _, _, u0, u1, u2, u3, u4, u5⟩ := six HBX2.out
  obtain ⟨f0, f1, f2, f3, f4, f5, r0, r1, r2, r3, r4, r5⟩ := six HRS2.out
  go_wp2
  have hE := heap_set6 HRS2.out (.int .i64 c) (.int .i64 e) (.int .i64 u) (.int .i64 s) (.int .i64 0) (.int .i64 0)
  refine bodyPost_ret (results_cell_two rfl _ _ rB 23 _ _ _ rfl hE Try.underlying23 rfl (by kernel_rfl)) rfl ?_
  refine ⟨by rw [HQ.out]; rfl, ?_⟩
  rw [HBB.out]
  exact HBW2.out.trans ((only_set6 _ rB _ _ _ _ _ _).below (by have := HLT.out; have := HSZ2.out; omega) (fun i e => by have e' : i = rB := e; have := HLT.out; omega))

set_option maxRecDepth 100000 in
set_option maxHeartbeats 2000000 in
theorem rgrn_r2m {W : World} {ck ep un se ki ak : Int} {c x u s k a : Int} {n e : Int} (hs : sndG ⟨ck, ep, un, se, ki, ak⟩ = ⟨c, x, u, s, k, a⟩) (h1 : k ≠ 0) (h2 : n = s) (h3 : ¬ e < 1) (h4 : ¬ 9007199254740992 < e) (h5 : k = 2) (h6 : e = x) (h7 : ¬ laterC a 12 < u) (h8 : 9007199254740992 < a + 12) :
    Calls Try.prog 30 #[.agg #[.int .i64 ck, .int .i64 ep, .int .i64 un, .int .i64 se, .int .i64 ki, .int .i64 ak], .int .i64 n, .int .i64 e] W fun z w' => z = .returned (.tuple #[GE.val (grnG ⟨ck, ep, un, se, ki, ak⟩ n e).1, .bool (grnG ⟨ck, ep, un, se, ki, ak⟩ n e).2]) ∧ Below W.heap.size W w' := by
  have hok : okG ⟨c, x, u, s, k, a⟩ := by rw [← hs]; exact snd_ok _
  have HOK := hide hok
  obtain ⟨l, hl⟩ : ∃ l, laterC a 12 = l := ⟨_, rfl⟩
  rw [hl] at h7
  have HQ : Hid (grnG ⟨ck, ep, un, se, ki, ak⟩ n e = (⟨c, e, l, s, 0, 0⟩, true)) := hide (by unfold grnG; rw [hs]; unfold grnS; rw [if_neg (fun q => by rcases q with q | q | q | q | q; exact h1 q; exact q h2; exact h3 q; exact h4 q; exact q.2 h6)]; simp only [hl]; rw [if_pos h5, if_neg h7])
  have d1 : (k == 0) = false := ne_eqL h1
  have d2 : (n != s) = false := by simp [h2]
  have d2e : (n == s) = true := by simpa using h2
  have d3 : decide (e < 1) = false := decide_eq_false h3
  have d4 : decide (e > 9007199254740992) = false := decide_eq_false h4
  have d5 : (k == 2) = true := by simpa using h5
  have d6 : (e != x) = false := by simp [h6]
  have d6e : (e == x) = true := by simpa using h6
  have e1 : IntKind.i64.wrap (a + 12) = a + 12 := by unfold okG at hok; simp only at hok; rw [IntKind.wrap_i64]; omega
  have hl2 : 9007199254740992 = l := by rw [← hl]; unfold okG at hok; simp only at hok; unfold laterC; omega
  subst hl2
  have h7n : u ≤ 9007199254740992 := by omega
  have HL := hide hl
  have HS := hide hs
  clear hs hok hl h1 h2 h3 h4 h5 h6
  obtain ⟨V0, hV0⟩ : ∃ V0, V0 = W.alloc (.cells #[.int .i64 ck, .int .i64 ep, .int .i64 un, .int .i64 se, .int .i64 ki, .int .i64 ak] 23 (0, 0)) := ⟨_, rfl⟩
  obtain ⟨V, hV⟩ : ∃ V, V = V0.alloc (.cells #[.int .i64 0, .int .i64 0, .int .i64 0, .int .i64 0, .int .i64 0, .int .i64 0] 23 (0, 0)) := ⟨_, rfl⟩
  have bV0 : Below W.heap.size W V0 := by rw [hV0]; exact alloc_below _ _
  have bV1 : Below V0.heap.size V0 V := by rw [hV]; exact alloc_below _ _
  have v0 : V0.heap[W.heap.size]? = some (.cells #[.int .i64 ck, .int .i64 ep, .int .i64 un, .int .i64 se, .int .i64 ki, .int .i64 ak] 23 (0, 0)) := by rw [hV0]; exact heap_alloc_new W _
  have v1 : V.heap[V0.heap.size]? = some (.cells #[.int .i64 0, .int .i64 0, .int .i64 0, .int .i64 0, .int .i64 0, .int .i64 0] 23 (0, 0)) := by rw [hV]; exact heap_alloc_new V0 _
  have v2 := below_box bV1 v0
  have hlt := box_lt v0
  have hs0 : V0.heap.size = W.heap.size + 1 := by rw [hV0]; simp
  obtain ⟨bB, hbB⟩ : ∃ bB, W.heap.size = bB := ⟨_, rfl⟩
  obtain ⟨rB, hrB⟩ : ∃ rB, V0.heap.size = rB := ⟨_, rfl⟩
  have hrb : bB + 1 = rB := by omega
  rw [hbB, hrB] at hlt
  rw [hbB] at v2
  rw [hrB] at v1
  have HBW0 : Hid (Below bB W V) := hide (by rw [← hbB]; exact below_next bV0 bV1 bV0.size)
  have HBX0 := hide v2
  have HRS0 := hide v1
  have HBB := hide hbB
  have HLT := hide hlt
  have HSZ0 := hide (box_lt v1)
  clear v0 v1 v2 bV0 bV1
  go_enter Try.func30, Try.ntmps30
  go_upto_region 1 with fail
  try rw [hbB]
  try rw [hrb]
  rw [← hV0, ← hV]
  try rw [hrB]
  clear hV0 hV hbB hrB hs0 hrb hlt
  obtain ⟨_, _, _, _, _, _, u0, u1, u2, u3, u4, u5⟩ := six HBX0.out
  go_wp2_with fail
  refine (may_any).mono ?_
  rw [HS.out]
  simp only [GE.val, GE.row]
  rintro _ w1 ⟨rfl, b1⟩
  have HBX1 := hide (below_box b1 HBX0.out)
  have HRS1 := hide (below_box b1 HRS0.out)
  have HBW1 := hide (below_next HBW0.out b1 (by have := HLT.out; have := HSZ0.out; omega))
  have HSZ1 := hide (box_lt HRS1.out)
  clear b1 HBX0 HRS0 HBW0 HSZ0 u0 u1 u2 u3 u4 u5
  obtain ⟨_, _, _, _, _, _, u0, u1, u2, u3, u4, u5⟩ := six HBX1.out
  go_upto_region 2 with fail
  obtain ⟨X, hX⟩ : ∃ X, X = ((((((w1.setCell ⟨bB, 0, none⟩ (.int .i64 c)).setCell ⟨bB, 1, none⟩ (.int .i64 x)).setCell ⟨bB, 2, none⟩ (.int .i64 u)).setCell ⟨bB, 3, none⟩ (.int .i64 s)).setCell ⟨bB, 4, none⟩ (.int .i64 k)).setCell ⟨bB, 5, none⟩ (.int .i64 a)) := ⟨_, rfl⟩
  have oX : Only (· = bB) w1 X := by rw [hX]; exact ((((((Only.set (F := (· = bB)) _ bB 0 (.int .i64 c) rfl).trans (Only.set (F := (· = bB)) _ bB 1 (.int .i64 x) rfl)).trans (Only.set (F := (· = bB)) _ bB 2 (.int .i64 u) rfl)).trans (Only.set (F := (· = bB)) _ bB 3 (.int .i64 s) rfl)).trans (Only.set (F := (· = bB)) _ bB 4 (.int .i64 k) rfl)).trans (Only.set (F := (· = bB)) _ bB 5 (.int .i64 a) rfl))
  have HBX2 : Hid (X.heap[bB]? = some (.cells #[.int .i64 c, .int .i64 x, .int .i64 u, .int .i64 s, .int .i64 k, .int .i64 a] 23 (0, 0))) := hide (by rw [hX]; exact (heap_set_sameL (heap_set_sameL (heap_set_sameL (heap_set_sameL (heap_set_sameL (heap_set_sameL HBX1.out 0 (.int .i64 c)) 1 (.int .i64 x)) 2 (.int .i64 u)) 3 (.int .i64 s)) 4 (.int .i64 k)) 5 (.int .i64 a)))
  have HRS2 := hide (oX.obj HRS1.out (fun e => by have e' : rB = bB := e; have := HLT.out; omega))
  have HBW2 := hide (HBW1.out.trans (oX.below (by have := HLT.out; have := HSZ1.out; omega) (fun i e => by have e' : i = bB := e; omega)))
  have HSZ2 := hide (box_lt HRS2.out)
  rw [← hX]
  clear hX oX HBX1 HRS1 HBW1 HSZ1 u0 u1 u2 u3 u4 u5
  obtain ⟨_, _, _, _, _, _, u0, u1, u2, u3, u4, u5⟩ := six HBX2.out
  obtain ⟨f0, f1, f2, f3, f4, f5, r0, r1, r2, r3, r4, r5⟩ := six HRS2.out
  go_wp2
  have hE := heap_set6 HRS2.out (.int .i64 c) (.int .i64 e) (.int .i64 9007199254740992) (.int .i64 s) (.int .i64 0) (.int .i64 0)
  refine bodyPost_ret (results_cell_two rfl _ _ rB 23 _ _ _ rfl hE Try.underlying23 rfl (by kernel_rfl)) rfl ?_
  refine ⟨by rw [HQ.out]; rfl, ?_⟩
  rw [HBB.out]
  exact HBW2.out.trans ((only_set6 _ rB _ _ _ _ _ _).below (by have := HLT.out; have := HSZ2.out; omega) (fun i e => by have e' : i = rB := e; have := HLT.out; omega))

set_option maxRecDepth 100000 in
set_option maxHeartbeats 2000000 in
theorem rgrn_am {W : World} {ck ep un se ki ak : Int} {c x u s k a : Int} {n e : Int} (hs : sndG ⟨ck, ep, un, se, ki, ak⟩ = ⟨c, x, u, s, k, a⟩) (h1 : k ≠ 0) (h2 : n = s) (h3 : ¬ e < 1) (h4 : ¬ 9007199254740992 < e) (h5 : k ≠ 2) (h8 : 9007199254740992 < a + 12) :
    Calls Try.prog 30 #[.agg #[.int .i64 ck, .int .i64 ep, .int .i64 un, .int .i64 se, .int .i64 ki, .int .i64 ak], .int .i64 n, .int .i64 e] W fun z w' => z = .returned (.tuple #[GE.val (grnG ⟨ck, ep, un, se, ki, ak⟩ n e).1, .bool (grnG ⟨ck, ep, un, se, ki, ak⟩ n e).2]) ∧ Below W.heap.size W w' := by
  have hok : okG ⟨c, x, u, s, k, a⟩ := by rw [← hs]; exact snd_ok _
  have HOK := hide hok
  obtain ⟨l, hl⟩ : ∃ l, laterC a 12 = l := ⟨_, rfl⟩
  have HQ : Hid (grnG ⟨ck, ep, un, se, ki, ak⟩ n e = (⟨c, e, l, s, 0, 0⟩, true)) := hide (by unfold grnG; rw [hs]; unfold grnS; rw [if_neg (fun q => by rcases q with q | q | q | q | q; exact h1 q; exact q h2; exact h3 q; exact h4 q; exact h5 q.1)]; simp only [hl]; rw [if_neg h5])
  have d1 : (k == 0) = false := ne_eqL h1
  have d2 : (n != s) = false := by simp [h2]
  have d2e : (n == s) = true := by simpa using h2
  have d3 : decide (e < 1) = false := decide_eq_false h3
  have d4 : decide (e > 9007199254740992) = false := decide_eq_false h4
  have d5 : (k == 2) = false := ne_eqL h5
  have e1 : IntKind.i64.wrap (a + 12) = a + 12 := by unfold okG at hok; simp only at hok; rw [IntKind.wrap_i64]; omega
  have hl2 : 9007199254740992 = l := by rw [← hl]; unfold okG at hok; simp only at hok; unfold laterC; omega
  subst hl2
  have HL := hide hl
  have HS := hide hs
  clear hs hok hl h1 h2 h3 h4 h5
  obtain ⟨V0, hV0⟩ : ∃ V0, V0 = W.alloc (.cells #[.int .i64 ck, .int .i64 ep, .int .i64 un, .int .i64 se, .int .i64 ki, .int .i64 ak] 23 (0, 0)) := ⟨_, rfl⟩
  obtain ⟨V, hV⟩ : ∃ V, V = V0.alloc (.cells #[.int .i64 0, .int .i64 0, .int .i64 0, .int .i64 0, .int .i64 0, .int .i64 0] 23 (0, 0)) := ⟨_, rfl⟩
  have bV0 : Below W.heap.size W V0 := by rw [hV0]; exact alloc_below _ _
  have bV1 : Below V0.heap.size V0 V := by rw [hV]; exact alloc_below _ _
  have v0 : V0.heap[W.heap.size]? = some (.cells #[.int .i64 ck, .int .i64 ep, .int .i64 un, .int .i64 se, .int .i64 ki, .int .i64 ak] 23 (0, 0)) := by rw [hV0]; exact heap_alloc_new W _
  have v1 : V.heap[V0.heap.size]? = some (.cells #[.int .i64 0, .int .i64 0, .int .i64 0, .int .i64 0, .int .i64 0, .int .i64 0] 23 (0, 0)) := by rw [hV]; exact heap_alloc_new V0 _
  have v2 := below_box bV1 v0
  have hlt := box_lt v0
  have hs0 : V0.heap.size = W.heap.size + 1 := by rw [hV0]; simp
  obtain ⟨bB, hbB⟩ : ∃ bB, W.heap.size = bB := ⟨_, rfl⟩
  obtain ⟨rB, hrB⟩ : ∃ rB, V0.heap.size = rB := ⟨_, rfl⟩
  have hrb : bB + 1 = rB := by omega
  rw [hbB, hrB] at hlt
  rw [hbB] at v2
  rw [hrB] at v1
  have HBW0 : Hid (Below bB W V) := hide (by rw [← hbB]; exact below_next bV0 bV1 bV0.size)
  have HBX0 := hide v2
  have HRS0 := hide v1
  have HBB := hide hbB
  have HLT := hide hlt
  have HSZ0 := hide (box_lt v1)
  clear v0 v1 v2 bV0 bV1
  go_enter Try.func30, Try.ntmps30
  go_upto_region 1 with fail
  try rw [hbB]
  try rw [hrb]
  rw [← hV0, ← hV]
  try rw [hrB]
  clear hV0 hV hbB hrB hs0 hrb hlt
  obtain ⟨_, _, _, _, _, _, u0, u1, u2, u3, u4, u5⟩ := six HBX0.out
  go_wp2_with fail
  refine (may_any).mono ?_
  rw [HS.out]
  simp only [GE.val, GE.row]
  rintro _ w1 ⟨rfl, b1⟩
  have HBX1 := hide (below_box b1 HBX0.out)
  have HRS1 := hide (below_box b1 HRS0.out)
  have HBW1 := hide (below_next HBW0.out b1 (by have := HLT.out; have := HSZ0.out; omega))
  have HSZ1 := hide (box_lt HRS1.out)
  clear b1 HBX0 HRS0 HBW0 HSZ0 u0 u1 u2 u3 u4 u5
  obtain ⟨_, _, _, _, _, _, u0, u1, u2, u3, u4, u5⟩ := six HBX1.out
  go_upto_region 2 with fail
  obtain ⟨X, hX⟩ : ∃ X, X = ((((((w1.setCell ⟨bB, 0, none⟩ (.int .i64 c)).setCell ⟨bB, 1, none⟩ (.int .i64 x)).setCell ⟨bB, 2, none⟩ (.int .i64 u)).setCell ⟨bB, 3, none⟩ (.int .i64 s)).setCell ⟨bB, 4, none⟩ (.int .i64 k)).setCell ⟨bB, 5, none⟩ (.int .i64 a)) := ⟨_, rfl⟩
  have oX : Only (· = bB) w1 X := by rw [hX]; exact ((((((Only.set (F := (· = bB)) _ bB 0 (.int .i64 c) rfl).trans (Only.set (F := (· = bB)) _ bB 1 (.int .i64 x) rfl)).trans (Only.set (F := (· = bB)) _ bB 2 (.int .i64 u) rfl)).trans (Only.set (F := (· = bB)) _ bB 3 (.int .i64 s) rfl)).trans (Only.set (F := (· = bB)) _ bB 4 (.int .i64 k) rfl)).trans (Only.set (F := (· = bB)) _ bB 5 (.int .i64 a) rfl))
  have HBX2 : Hid (X.heap[bB]? = some (.cells #[.int .i64 c, .int .i64 x, .int .i64 u, .int .i64 s, .int .i64 k, .int .i64 a] 23 (0, 0))) := hide (by rw [hX]; exact (heap_set_sameL (heap_set_sameL (heap_set_sameL (heap_set_sameL (heap_set_sameL (heap_set_sameL HBX1.out 0 (.int .i64 c)) 1 (.int .i64 x)) 2 (.int .i64 u)) 3 (.int .i64 s)) 4 (.int .i64 k)) 5 (.int .i64 a)))
  have HRS2 := hide (oX.obj HRS1.out (fun e => by have e' : rB = bB := e; have := HLT.out; omega))
  have HBW2 := hide (HBW1.out.trans (oX.below (by have := HLT.out; have := HSZ1.out; omega) (fun i e => by have e' : i = bB := e; omega)))
  have HSZ2 := hide (box_lt HRS2.out)
  rw [← hX]
  clear hX oX HBX1 HRS1 HBW1 HSZ1 u0 u1 u2 u3 u4 u5
  obtain ⟨_, _, _, _, _, _, u0, u1, u2, u3, u4, u5⟩ := six HBX2.out
  obtain ⟨f0, f1, f2, f3, f4, f5, r0, r1, r2, r3, r4, r5⟩ := six HRS2.out
  go_wp2
  have hE := heap_set6 HRS2.out (.int .i64 c) (.int .i64 e) (.int .i64 9007199254740992) (.int .i64 s) (.int .i64 0) (.int .i64 0)
  refine bodyPost_ret (results_cell_two rfl _ _ rB 23 _ _ _ rfl hE Try.underlying23 rfl (by kernel_rfl)) rfl ?_
  refine ⟨by rw [HQ.out]; rfl, ?_⟩
  rw [HBB.out]
  exact HBW2.out.trans ((only_set6 _ rB _ _ _ _ _ _).below (by have := HLT.out; have := HSZ2.out; omega) (fun i e => by have e' : i = rB := e; have := HLT.out; omega))

set_option maxRecDepth 100000 in
set_option maxHeartbeats 2000000 in
theorem rgrn_r1s {W : World} {ck ep un se ki ak : Int} {c x u s k a : Int} {n e : Int} (hs : sndG ⟨ck, ep, un, se, ki, ak⟩ = ⟨c, x, u, s, k, a⟩) (h1 : k ≠ 0) (h2 : n = s) (h3 : ¬ e < 1) (h4 : ¬ 9007199254740992 < e) (h5 : k = 2) (h6 : e = x) (h7 : laterC a 12 < u) (h8 : ¬ 9007199254740992 < a + 12) :
    Calls Try.prog 30 #[.agg #[.int .i64 ck, .int .i64 ep, .int .i64 un, .int .i64 se, .int .i64 ki, .int .i64 ak], .int .i64 n, .int .i64 e] W fun z w' => z = .returned (.tuple #[GE.val (grnG ⟨ck, ep, un, se, ki, ak⟩ n e).1, .bool (grnG ⟨ck, ep, un, se, ki, ak⟩ n e).2]) ∧ Below W.heap.size W w' := by
  have hok : okG ⟨c, x, u, s, k, a⟩ := by rw [← hs]; exact snd_ok _
  have HOK := hide hok
  obtain ⟨l, hl⟩ : ∃ l, laterC a 12 = l := ⟨_, rfl⟩
  rw [hl] at h7
  have HQ : Hid (grnG ⟨ck, ep, un, se, ki, ak⟩ n e = (⟨c, e, u, s, 0, 0⟩, true)) := hide (by unfold grnG; rw [hs]; unfold grnS; rw [if_neg (fun q => by rcases q with q | q | q | q | q; exact h1 q; exact q h2; exact h3 q; exact h4 q; exact q.2 h6)]; simp only [hl]; rw [if_pos h5, if_pos h7])
  have d1 : (k == 0) = false := ne_eqL h1
  have d2 : (n != s) = false := by simp [h2]
  have d2e : (n == s) = true := by simpa using h2
  have d3 : decide (e < 1) = false := decide_eq_false h3
  have d4 : decide (e > 9007199254740992) = false := decide_eq_false h4
  have d5 : (k == 2) = true := by simpa using h5
  have d6 : (e != x) = false := by simp [h6]
  have d6e : (e == x) = true := by simpa using h6
  have e1 : IntKind.i64.wrap (a + 12) = a + 12 := by unfold okG at hok; simp only at hok; rw [IntKind.wrap_i64]; omega
  have hl2 : a + 12 = l := by rw [← hl]; unfold okG at hok; simp only at hok; unfold laterC; omega
  rw [hl2] at e1 h8
  have HL := hide hl
  have HS := hide hs
  clear hs hok hl h1 h2 h3 h4 h5 h6
  obtain ⟨V0, hV0⟩ : ∃ V0, V0 = W.alloc (.cells #[.int .i64 ck, .int .i64 ep, .int .i64 un, .int .i64 se, .int .i64 ki, .int .i64 ak] 23 (0, 0)) := ⟨_, rfl⟩
  obtain ⟨V, hV⟩ : ∃ V, V = V0.alloc (.cells #[.int .i64 0, .int .i64 0, .int .i64 0, .int .i64 0, .int .i64 0, .int .i64 0] 23 (0, 0)) := ⟨_, rfl⟩
  have bV0 : Below W.heap.size W V0 := by rw [hV0]; exact alloc_below _ _
  have bV1 : Below V0.heap.size V0 V := by rw [hV]; exact alloc_below _ _
  have v0 : V0.heap[W.heap.size]? = some (.cells #[.int .i64 ck, .int .i64 ep, .int .i64 un, .int .i64 se, .int .i64 ki, .int .i64 ak] 23 (0, 0)) := by rw [hV0]; exact heap_alloc_new W _
  have v1 : V.heap[V0.heap.size]? = some (.cells #[.int .i64 0, .int .i64 0, .int .i64 0, .int .i64 0, .int .i64 0, .int .i64 0] 23 (0, 0)) := by rw [hV]; exact heap_alloc_new V0 _
  have v2 := below_box bV1 v0
  have hlt := box_lt v0
  have hs0 : V0.heap.size = W.heap.size + 1 := by rw [hV0]; simp
  obtain ⟨bB, hbB⟩ : ∃ bB, W.heap.size = bB := ⟨_, rfl⟩
  obtain ⟨rB, hrB⟩ : ∃ rB, V0.heap.size = rB := ⟨_, rfl⟩
  have hrb : bB + 1 = rB := by omega
  rw [hbB, hrB] at hlt
  rw [hbB] at v2
  rw [hrB] at v1
  have HBW0 : Hid (Below bB W V) := hide (by rw [← hbB]; exact below_next bV0 bV1 bV0.size)
  have HBX0 := hide v2
  have HRS0 := hide v1
  have HBB := hide hbB
  have HLT := hide hlt
  have HSZ0 := hide (box_lt v1)
  clear v0 v1 v2 bV0 bV1
  go_enter Try.func30, Try.ntmps30
  go_upto_region 1 with fail
  try rw [hbB]
  try rw [hrb]
  rw [← hV0, ← hV]
  try rw [hrB]
  clear hV0 hV hbB hrB hs0 hrb hlt
  obtain ⟨_, _, _, _, _, _, u0, u1, u2, u3, u4, u5⟩ := six HBX0.out
  go_wp2_with fail
  refine (may_any).mono ?_
  rw [HS.out]
  simp only [GE.val, GE.row]
  rintro _ w1 ⟨rfl, b1⟩
  have HBX1 := hide (below_box b1 HBX0.out)
  have HRS1 := hide (below_box b1 HRS0.out)
  have HBW1 := hide (below_next HBW0.out b1 (by have := HLT.out; have := HSZ0.out; omega))
  have HSZ1 := hide (box_lt HRS1.out)
  clear b1 HBX0 HRS0 HBW0 HSZ0 u0 u1 u2 u3 u4 u5
  obtain ⟨_, _, _, _, _, _, u0, u1, u2, u3, u4, u5⟩ := six HBX1.out
  go_upto_region 2 with fail
  obtain ⟨X, hX⟩ : ∃ X, X = ((((((w1.setCell ⟨bB, 0, none⟩ (.int .i64 c)).setCell ⟨bB, 1, none⟩ (.int .i64 x)).setCell ⟨bB, 2, none⟩ (.int .i64 u)).setCell ⟨bB, 3, none⟩ (.int .i64 s)).setCell ⟨bB, 4, none⟩ (.int .i64 k)).setCell ⟨bB, 5, none⟩ (.int .i64 a)) := ⟨_, rfl⟩
  have oX : Only (· = bB) w1 X := by rw [hX]; exact ((((((Only.set (F := (· = bB)) _ bB 0 (.int .i64 c) rfl).trans (Only.set (F := (· = bB)) _ bB 1 (.int .i64 x) rfl)).trans (Only.set (F := (· = bB)) _ bB 2 (.int .i64 u) rfl)).trans (Only.set (F := (· = bB)) _ bB 3 (.int .i64 s) rfl)).trans (Only.set (F := (· = bB)) _ bB 4 (.int .i64 k) rfl)).trans (Only.set (F := (· = bB)) _ bB 5 (.int .i64 a) rfl))
  have HBX2 : Hid (X.heap[bB]? = some (.cells #[.int .i64 c, .int .i64 x, .int .i64 u, .int .i64 s, .int .i64 k, .int .i64 a] 23 (0, 0))) := hide (by rw [hX]; exact (heap_set_sameL (heap_set_sameL (heap_set_sameL (heap_set_sameL (heap_set_sameL (heap_set_sameL HBX1.out 0 (.int .i64 c)) 1 (.int .i64 x)) 2 (.int .i64 u)) 3 (.int .i64 s)) 4 (.int .i64 k)) 5 (.int .i64 a)))
  have HRS2 := hide (oX.obj HRS1.out (fun e => by have e' : rB = bB := e; have := HLT.out; omega))
  have HBW2 := hide (HBW1.out.trans (oX.below (by have := HLT.out; have := HSZ1.out; omega) (fun i e => by have e' : i = bB := e; omega)))
  have HSZ2 := hide (box_lt HRS2.out)
  rw [← hX]
  clear hX oX HBX1 HRS1 HBW1 HSZ1 u0 u1 u2 u3 u4 u5
  obtain ⟨_, _, _, _, _, _, u0, u1, u2, u3, u4, u5⟩ := six HBX2.out
  obtain ⟨f0, f1, f2, f3, f4, f5, r0, r1, r2, r3, r4, r5⟩ := six HRS2.out
  go_wp2
  have hE := heap_set6 HRS2.out (.int .i64 c) (.int .i64 e) (.int .i64 u) (.int .i64 s) (.int .i64 0) (.int .i64 0)
  refine bodyPost_ret (results_cell_two rfl _ _ rB 23 _ _ _ rfl hE Try.underlying23 rfl (by kernel_rfl)) rfl ?_
  refine ⟨by rw [HQ.out]; rfl, ?_⟩
  rw [HBB.out]
  exact HBW2.out.trans ((only_set6 _ rB _ _ _ _ _ _).below (by have := HLT.out; have := HSZ2.out; omega) (fun i e => by have e' : i = rB := e; have := HLT.out; omega))

set_option maxRecDepth 100000 in
set_option maxHeartbeats 2000000 in
theorem rgrn_r2s {W : World} {ck ep un se ki ak : Int} {c x u s k a : Int} {n e : Int} (hs : sndG ⟨ck, ep, un, se, ki, ak⟩ = ⟨c, x, u, s, k, a⟩) (h1 : k ≠ 0) (h2 : n = s) (h3 : ¬ e < 1) (h4 : ¬ 9007199254740992 < e) (h5 : k = 2) (h6 : e = x) (h7 : ¬ laterC a 12 < u) (h8 : ¬ 9007199254740992 < a + 12) :
    Calls Try.prog 30 #[.agg #[.int .i64 ck, .int .i64 ep, .int .i64 un, .int .i64 se, .int .i64 ki, .int .i64 ak], .int .i64 n, .int .i64 e] W fun z w' => z = .returned (.tuple #[GE.val (grnG ⟨ck, ep, un, se, ki, ak⟩ n e).1, .bool (grnG ⟨ck, ep, un, se, ki, ak⟩ n e).2]) ∧ Below W.heap.size W w' := by
  have hok : okG ⟨c, x, u, s, k, a⟩ := by rw [← hs]; exact snd_ok _
  have HOK := hide hok
  obtain ⟨l, hl⟩ : ∃ l, laterC a 12 = l := ⟨_, rfl⟩
  rw [hl] at h7
  have HQ : Hid (grnG ⟨ck, ep, un, se, ki, ak⟩ n e = (⟨c, e, l, s, 0, 0⟩, true)) := hide (by unfold grnG; rw [hs]; unfold grnS; rw [if_neg (fun q => by rcases q with q | q | q | q | q; exact h1 q; exact q h2; exact h3 q; exact h4 q; exact q.2 h6)]; simp only [hl]; rw [if_pos h5, if_neg h7])
  have d1 : (k == 0) = false := ne_eqL h1
  have d2 : (n != s) = false := by simp [h2]
  have d2e : (n == s) = true := by simpa using h2
  have d3 : decide (e < 1) = false := decide_eq_false h3
  have d4 : decide (e > 9007199254740992) = false := decide_eq_false h4
  have d5 : (k == 2) = true := by simpa using h5
  have d6 : (e != x) = false := by simp [h6]
  have d6e : (e == x) = true := by simpa using h6
  have e1 : IntKind.i64.wrap (a + 12) = a + 12 := by unfold okG at hok; simp only at hok; rw [IntKind.wrap_i64]; omega
  have hl2 : a + 12 = l := by rw [← hl]; unfold okG at hok; simp only at hok; unfold laterC; omega
  rw [hl2] at e1 h8
  have h7n : u ≤ l := by omega
  have HL := hide hl
  have HS := hide hs
  clear hs hok hl h1 h2 h3 h4 h5 h6
  obtain ⟨V0, hV0⟩ : ∃ V0, V0 = W.alloc (.cells #[.int .i64 ck, .int .i64 ep, .int .i64 un, .int .i64 se, .int .i64 ki, .int .i64 ak] 23 (0, 0)) := ⟨_, rfl⟩
  obtain ⟨V, hV⟩ : ∃ V, V = V0.alloc (.cells #[.int .i64 0, .int .i64 0, .int .i64 0, .int .i64 0, .int .i64 0, .int .i64 0] 23 (0, 0)) := ⟨_, rfl⟩
  have bV0 : Below W.heap.size W V0 := by rw [hV0]; exact alloc_below _ _
  have bV1 : Below V0.heap.size V0 V := by rw [hV]; exact alloc_below _ _
  have v0 : V0.heap[W.heap.size]? = some (.cells #[.int .i64 ck, .int .i64 ep, .int .i64 un, .int .i64 se, .int .i64 ki, .int .i64 ak] 23 (0, 0)) := by rw [hV0]; exact heap_alloc_new W _
  have v1 : V.heap[V0.heap.size]? = some (.cells #[.int .i64 0, .int .i64 0, .int .i64 0, .int .i64 0, .int .i64 0, .int .i64 0] 23 (0, 0)) := by rw [hV]; exact heap_alloc_new V0 _
  have v2 := below_box bV1 v0
  have hlt := box_lt v0
  have hs0 : V0.heap.size = W.heap.size + 1 := by rw [hV0]; simp
  obtain ⟨bB, hbB⟩ : ∃ bB, W.heap.size = bB := ⟨_, rfl⟩
  obtain ⟨rB, hrB⟩ : ∃ rB, V0.heap.size = rB := ⟨_, rfl⟩
  have hrb : bB + 1 = rB := by omega
  rw [hbB, hrB] at hlt
  rw [hbB] at v2
  rw [hrB] at v1
  have HBW0 : Hid (Below bB W V) := hide (by rw [← hbB]; exact below_next bV0 bV1 bV0.size)
  have HBX0 := hide v2
  have HRS0 := hide v1
  have HBB := hide hbB
  have HLT := hide hlt
  have HSZ0 := hide (box_lt v1)
  clear v0 v1 v2 bV0 bV1
  go_enter Try.func30, Try.ntmps30
  go_upto_region 1 with fail
  try rw [hbB]
  try rw [hrb]
  rw [← hV0, ← hV]
  try rw [hrB]
  clear hV0 hV hbB hrB hs0 hrb hlt
  obtain ⟨_, _, _, _, _, _, u0, u1, u2, u3, u4, u5⟩ := six HBX0.out
  go_wp2_with fail
  refine (may_any).mono ?_
  rw [HS.out]
  simp only [GE.val, GE.row]
  rintro _ w1 ⟨rfl, b1⟩
  have HBX1 := hide (below_box b1 HBX0.out)
  have HRS1 := hide (below_box b1 HRS0.out)
  have HBW1 := hide (below_next HBW0.out b1 (by have := HLT.out; have := HSZ0.out; omega))
  have HSZ1 := hide (box_lt HRS1.out)
  clear b1 HBX0 HRS0 HBW0 HSZ0 u0 u1 u2 u3 u4 u5
  obtain ⟨_, _, _, _, _, _, u0, u1, u2, u3, u4, u5⟩ := six HBX1.out
  go_upto_region 2 with fail
  obtain ⟨X, hX⟩ : ∃ X, X = ((((((w1.setCell ⟨bB, 0, none⟩ (.int .i64 c)).setCell ⟨bB, 1, none⟩ (.int .i64 x)).setCell ⟨bB, 2, none⟩ (.int .i64 u)).setCell ⟨bB, 3, none⟩ (.int .i64 s)).setCell ⟨bB, 4, none⟩ (.int .i64 k)).setCell ⟨bB, 5, none⟩ (.int .i64 a)) := ⟨_, rfl⟩
  have oX : Only (· = bB) w1 X := by rw [hX]; exact ((((((Only.set (F := (· = bB)) _ bB 0 (.int .i64 c) rfl).trans (Only.set (F := (· = bB)) _ bB 1 (.int .i64 x) rfl)).trans (Only.set (F := (· = bB)) _ bB 2 (.int .i64 u) rfl)).trans (Only.set (F := (· = bB)) _ bB 3 (.int .i64 s) rfl)).trans (Only.set (F := (· = bB)) _ bB 4 (.int .i64 k) rfl)).trans (Only.set (F := (· = bB)) _ bB 5 (.int .i64 a) rfl))
  have HBX2 : Hid (X.heap[bB]? = some (.cells #[.int .i64 c, .int .i64 x, .int .i64 u, .int .i64 s, .int .i64 k, .int .i64 a] 23 (0, 0))) := hide (by rw [hX]; exact (heap_set_sameL (heap_set_sameL (heap_set_sameL (heap_set_sameL (heap_set_sameL (heap_set_sameL HBX1.out 0 (.int .i64 c)) 1 (.int .i64 x)) 2 (.int .i64 u)) 3 (.int .i64 s)) 4 (.int .i64 k)) 5 (.int .i64 a)))
  have HRS2 := hide (oX.obj HRS1.out (fun e => by have e' : rB = bB := e; have := HLT.out; omega))
  have HBW2 := hide (HBW1.out.trans (oX.below (by have := HLT.out; have := HSZ1.out; omega) (fun i e => by have e' : i = bB := e; omega)))
  have HSZ2 := hide (box_lt HRS2.out)
  rw [← hX]
  clear hX oX HBX1 HRS1 HBW1 HSZ1 u0 u1 u2 u3 u4 u5
  obtain ⟨_, _, _, _, _, _, u0, u1, u2, u3, u4, u5⟩ := six HBX2.out
  obtain ⟨f0, f1, f2, f3, f4, f5, r0, r1, r2, r3, r4, r5⟩ := six HRS2.out
  go_wp2
  have hE := heap_set6 HRS2.out (.int .i64 c) (.int .i64 e) (.int .i64 l) (.int .i64 s) (.int .i64 0) (.int .i64 0)
  refine bodyPost_ret (results_cell_two rfl _ _ rB 23 _ _ _ rfl hE Try.underlying23 rfl (by kernel_rfl)) rfl ?_
  refine ⟨by rw [HQ.out]; rfl, ?_⟩
  rw [HBB.out]
  exact HBW2.out.trans ((only_set6 _ rB _ _ _ _ _ _).below (by have := HLT.out; have := HSZ2.out; omega) (fun i e => by have e' : i = rB := e; have := HLT.out; omega))

set_option maxRecDepth 100000 in
set_option maxHeartbeats 2000000 in
theorem rgrn_as {W : World} {ck ep un se ki ak : Int} {c x u s k a : Int} {n e : Int} (hs : sndG ⟨ck, ep, un, se, ki, ak⟩ = ⟨c, x, u, s, k, a⟩) (h1 : k ≠ 0) (h2 : n = s) (h3 : ¬ e < 1) (h4 : ¬ 9007199254740992 < e) (h5 : k ≠ 2) (h8 : ¬ 9007199254740992 < a + 12) :
    Calls Try.prog 30 #[.agg #[.int .i64 ck, .int .i64 ep, .int .i64 un, .int .i64 se, .int .i64 ki, .int .i64 ak], .int .i64 n, .int .i64 e] W fun z w' => z = .returned (.tuple #[GE.val (grnG ⟨ck, ep, un, se, ki, ak⟩ n e).1, .bool (grnG ⟨ck, ep, un, se, ki, ak⟩ n e).2]) ∧ Below W.heap.size W w' := by
  have hok : okG ⟨c, x, u, s, k, a⟩ := by rw [← hs]; exact snd_ok _
  have HOK := hide hok
  obtain ⟨l, hl⟩ : ∃ l, laterC a 12 = l := ⟨_, rfl⟩
  have HQ : Hid (grnG ⟨ck, ep, un, se, ki, ak⟩ n e = (⟨c, e, l, s, 0, 0⟩, true)) := hide (by unfold grnG; rw [hs]; unfold grnS; rw [if_neg (fun q => by rcases q with q | q | q | q | q; exact h1 q; exact q h2; exact h3 q; exact h4 q; exact h5 q.1)]; simp only [hl]; rw [if_neg h5])
  have d1 : (k == 0) = false := ne_eqL h1
  have d2 : (n != s) = false := by simp [h2]
  have d2e : (n == s) = true := by simpa using h2
  have d3 : decide (e < 1) = false := decide_eq_false h3
  have d4 : decide (e > 9007199254740992) = false := decide_eq_false h4
  have d5 : (k == 2) = false := ne_eqL h5
  have e1 : IntKind.i64.wrap (a + 12) = a + 12 := by unfold okG at hok; simp only at hok; rw [IntKind.wrap_i64]; omega
  have hl2 : a + 12 = l := by rw [← hl]; unfold okG at hok; simp only at hok; unfold laterC; omega
  rw [hl2] at e1 h8
  have HL := hide hl
  have HS := hide hs
  clear hs hok hl h1 h2 h3 h4 h5
  obtain ⟨V0, hV0⟩ : ∃ V0, V0 = W.alloc (.cells #[.int .i64 ck, .int .i64 ep, .int .i64 un, .int .i64 se, .int .i64 ki, .int .i64 ak] 23 (0, 0)) := ⟨_, rfl⟩
  obtain ⟨V, hV⟩ : ∃ V, V = V0.alloc (.cells #[.int .i64 0, .int .i64 0, .int .i64 0, .int .i64 0, .int .i64 0, .int .i64 0] 23 (0, 0)) := ⟨_, rfl⟩
  have bV0 : Below W.heap.size W V0 := by rw [hV0]; exact alloc_below _ _
  have bV1 : Below V0.heap.size V0 V := by rw [hV]; exact alloc_below _ _
  have v0 : V0.heap[W.heap.size]? = some (.cells #[.int .i64 ck, .int .i64 ep, .int .i64 un, .int .i64 se, .int .i64 ki, .int .i64 ak] 23 (0, 0)) := by rw [hV0]; exact heap_alloc_new W _
  have v1 : V.heap[V0.heap.size]? = some (.cells #[.int .i64 0, .int .i64 0, .int .i64 0, .int .i64 0, .int .i64 0, .int .i64 0] 23 (0, 0)) := by rw [hV]; exact heap_alloc_new V0 _
  have v2 := below_box bV1 v0
  have hlt := box_lt v0
  have hs0 : V0.heap.size = W.heap.size + 1 := by rw [hV0]; simp
  obtain ⟨bB, hbB⟩ : ∃ bB, W.heap.size = bB := ⟨_, rfl⟩
  obtain ⟨rB, hrB⟩ : ∃ rB, V0.heap.size = rB := ⟨_, rfl⟩
  have hrb : bB + 1 = rB := by omega
  rw [hbB, hrB] at hlt
  rw [hbB] at v2
  rw [hrB] at v1
  have HBW0 : Hid (Below bB W V) := hide (by rw [← hbB]; exact below_next bV0 bV1 bV0.size)
  have HBX0 := hide v2
  have HRS0 := hide v1
  have HBB := hide hbB
  have HLT := hide hlt
  have HSZ0 := hide (box_lt v1)
  clear v0 v1 v2 bV0 bV1
  go_enter Try.func30, Try.ntmps30
  go_upto_region 1 with fail
  try rw [hbB]
  try rw [hrb]
  rw [← hV0, ← hV]
  try rw [hrB]
  clear hV0 hV hbB hrB hs0 hrb hlt
  obtain ⟨_, _, _, _, _, _, u0, u1, u2, u3, u4, u5⟩ := six HBX0.out
  go_wp2_with fail
  refine (may_any).mono ?_
  rw [HS.out]
  simp only [GE.val, GE.row]
  rintro _ w1 ⟨rfl, b1⟩
  have HBX1 := hide (below_box b1 HBX0.out)
  have HRS1 := hide (below_box b1 HRS0.out)
  have HBW1 := hide (below_next HBW0.out b1 (by have := HLT.out; have := HSZ0.out; omega))
  have HSZ1 := hide (box_lt HRS1.out)
  clear b1 HBX0 HRS0 HBW0 HSZ0 u0 u1 u2 u3 u4 u5
  obtain ⟨_, _, _, _, _, _, u0, u1, u2, u3, u4, u5⟩ := six HBX1.out
  go_upto_region 2 with fail
  obtain ⟨X, hX⟩ : ∃ X, X = ((((((w1.setCell ⟨bB, 0, none⟩ (.int .i64 c)).setCell ⟨bB, 1, none⟩ (.int .i64 x)).setCell ⟨bB, 2, none⟩ (.int .i64 u)).setCell ⟨bB, 3, none⟩ (.int .i64 s)).setCell ⟨bB, 4, none⟩ (.int .i64 k)).setCell ⟨bB, 5, none⟩ (.int .i64 a)) := ⟨_, rfl⟩
  have oX : Only (· = bB) w1 X := by rw [hX]; exact ((((((Only.set (F := (· = bB)) _ bB 0 (.int .i64 c) rfl).trans (Only.set (F := (· = bB)) _ bB 1 (.int .i64 x) rfl)).trans (Only.set (F := (· = bB)) _ bB 2 (.int .i64 u) rfl)).trans (Only.set (F := (· = bB)) _ bB 3 (.int .i64 s) rfl)).trans (Only.set (F := (· = bB)) _ bB 4 (.int .i64 k) rfl)).trans (Only.set (F := (· = bB)) _ bB 5 (.int .i64 a) rfl))
  have HBX2 : Hid (X.heap[bB]? = some (.cells #[.int .i64 c, .int .i64 x, .int .i64 u, .int .i64 s, .int .i64 k, .int .i64 a] 23 (0, 0))) := hide (by rw [hX]; exact (heap_set_sameL (heap_set_sameL (heap_set_sameL (heap_set_sameL (heap_set_sameL (heap_set_sameL HBX1.out 0 (.int .i64 c)) 1 (.int .i64 x)) 2 (.int .i64 u)) 3 (.int .i64 s)) 4 (.int .i64 k)) 5 (.int .i64 a)))
  have HRS2 := hide (oX.obj HRS1.out (fun e => by have e' : rB = bB := e; have := HLT.out; omega))
  have HBW2 := hide (HBW1.out.trans (oX.below (by have := HLT.out; have := HSZ1.out; omega) (fun i e => by have e' : i = bB := e; omega)))
  have HSZ2 := hide (box_lt HRS2.out)
  rw [← hX]
  clear hX oX HBX1 HRS1 HBW1 HSZ1 u0 u1 u2 u3 u4 u5
  obtain ⟨_, _, _, _, _, _, u0, u1, u2, u3, u4, u5⟩ := six HBX2.out
  obtain ⟨f0, f1, f2, f3, f4, f5, r0, r1, r2, r3, r4, r5⟩ := six HRS2.out
  go_wp2
  have hE := heap_set6 HRS2.out (.int .i64 c) (.int .i64 e) (.int .i64 l) (.int .i64 s) (.int .i64 0) (.int .i64 0)
  refine bodyPost_ret (results_cell_two rfl _ _ rB 23 _ _ _ rfl hE Try.underlying23 rfl (by kernel_rfl)) rfl ?_
  refine ⟨by rw [HQ.out]; rfl, ?_⟩
  rw [HBB.out]
  exact HBW2.out.trans ((only_set6 _ rB _ _ _ _ _ _).below (by have := HLT.out; have := HSZ2.out; omega) (fun i e => by have e' : i = rB := e; have := HLT.out; omega))

theorem rgrn_any {W : World} {ck ep un se ki ak : Int} {n e : Int} : Calls Try.prog 30 #[.agg #[.int .i64 ck, .int .i64 ep, .int .i64 un, .int .i64 se, .int .i64 ki, .int .i64 ak], .int .i64 n, .int .i64 e] W fun z w' => z = .returned (.tuple #[GE.val (grnG ⟨ck, ep, un, se, ki, ak⟩ n e).1, .bool (grnG ⟨ck, ep, un, se, ki, ak⟩ n e).2]) ∧ Below W.heap.size W w' := by
  obtain ⟨⟨c, x, u, s, k, a⟩, hs⟩ : ∃ q, sndG ⟨ck, ep, un, se, ki, ak⟩ = q := ⟨_, rfl⟩
  by_cases h1 : k = 0
  · exact rgrn_k hs h1
  · by_cases h2 : n = s
    · by_cases h3 : e < 1
      · exact rgrn_e hs h1 h2 h3
      · by_cases h4 : 9007199254740992 < e
        · exact rgrn_g hs h1 h2 h3 h4
        · by_cases h8 : 9007199254740992 < a + 12
          · by_cases h5 : k = 2
            · by_cases h6 : e = x
              · by_cases h7 : laterC a 12 < u
                · exact rgrn_r1m hs h1 h2 h3 h4 h5 h6 h7 h8
                · exact rgrn_r2m hs h1 h2 h3 h4 h5 h6 h7 h8
              · exact rgrn_x hs h1 h2 h3 h4 h5 h6
            · exact rgrn_am hs h1 h2 h3 h4 h5 h8
          · by_cases h5 : k = 2
            · by_cases h6 : e = x
              · by_cases h7 : laterC a 12 < u
                · exact rgrn_r1s hs h1 h2 h3 h4 h5 h6 h7 h8
                · exact rgrn_r2s hs h1 h2 h3 h4 h5 h6 h7 h8
              · exact rgrn_x hs h1 h2 h3 h4 h5 h6
            · exact rgrn_as hs h1 h2 h3 h4 h5 h8
    · exact rgrn_n hs h1 h2
end Go.Proofs.Ytegffdmlkbdcdaa
