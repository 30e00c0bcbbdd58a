/-
  Ask and Granted of package guard, and of its reference. No conditions.
-/
import Derived.Test.YtegffdmlkbdcdaaGde
import Derived.Deep.RegionHeld3
namespace Go.Proofs.Ytegffdmlkbdcdaa
open Go.RowKit

def askS (g : GE) : GE × Int × Int × Int := if mayG g = false then (g, 0, 0, 140) else if g.se = 9007199254740992 then (g, 0, 0, 6) else
  (⟨g.ck, g.ep, g.un, g.se + 1, if g.ep = 0 then 1 else 2, g.ck⟩, g.se + 1, if g.ep = 0 then 1 else 2, 0)
def askG (g : GE) : GE × Int × Int × Int := askS (sndG g)
def grnS (g : GE) (n e : Int) : GE × Bool := if g.ki = 0 ∨ n ≠ g.se ∨ e < 1 ∨ 9007199254740992 < e ∨ (g.ki = 2 ∧ e ≠ g.ep) then (g, false) else
  (⟨g.ck, e, if g.ki = 2 then (if laterC g.ak 12 < g.un then g.un else laterC g.ak 12) else laterC g.ak 12, g.se, 0, 0⟩, true)
def grnG (g : GE) (n e : Int) : GE × Bool := grnS (sndG g) n e
set_option maxRecDepth 100000 in
set_option maxHeartbeats 2000000 in
theorem ask_mn {W : World} {ck ep un se ki ak : Int} {c x u s k a : Int} (hs : sndG ⟨ck, ep, un, se, ki, ak⟩ = ⟨c, x, u, s, k, a⟩) (hm : mayG ⟨c, x, u, s, k, a⟩ = false) :
    Calls Try.prog 20 #[.agg #[.int .i64 ck, .int .i64 ep, .int .i64 un, .int .i64 se, .int .i64 ki, .int .i64 ak]] W fun e w' => e = .returned (.tuple #[GE.val (askG ⟨ck, ep, un, se, ki, ak⟩).1, .int .i64 (askG ⟨ck, ep, un, se, ki, ak⟩).2.1, .int .i64 (askG ⟨ck, ep, un, se, ki, ak⟩).2.2.1, .int .i64 (askG ⟨ck, ep, un, se, ki, ak⟩).2.2.2]) ∧ Below W.heap.size W w' := by
  have hok : okG ⟨c, x, u, s, k, a⟩ := by rw [← hs]; exact snd_ok _
  have HOK := hide hok
  have HQ : Hid (askG ⟨ck, ep, un, se, ki, ak⟩ = (⟨c, x, u, s, k, a⟩, 0, 0, 140)) := hide (by unfold askG; rw [hs]; exact if_pos hm)
  have HM := hide hm
  have HS := hide hs
  clear hs hok hm
  obtain ⟨V0, hV0⟩ : ∃ V0, V0 = W.alloc (.cells #[.int .i64 ck, .int .i64 ep, .int .i64 un, .int .i64 se, .int .i64 ki, .int .i64 ak] 23 (0, 0)) := ⟨_, rfl⟩
  obtain ⟨V, hV⟩ : ∃ V, V = V0.alloc (.cells #[.int .i64 0, .int .i64 0, .int .i64 0, .int .i64 0, .int .i64 0, .int .i64 0] 23 (0, 0)) := ⟨_, rfl⟩
  have bV0 : Below W.heap.size W V0 := by rw [hV0]; exact alloc_below _ _
  have bV1 : Below V0.heap.size V0 V := by rw [hV]; exact alloc_below _ _
  have v0 : V0.heap[W.heap.size]? = some (.cells #[.int .i64 ck, .int .i64 ep, .int .i64 un, .int .i64 se, .int .i64 ki, .int .i64 ak] 23 (0, 0)) := by rw [hV0]; exact heap_alloc_new W _
  have v1 : V.heap[V0.heap.size]? = some (.cells #[.int .i64 0, .int .i64 0, .int .i64 0, .int .i64 0, .int .i64 0, .int .i64 0] 23 (0, 0)) := by rw [hV]; exact heap_alloc_new V0 _
  have v2 := below_box bV1 v0
  have hlt := box_lt v0
  have hs0 : V0.heap.size = W.heap.size + 1 := by rw [hV0]; simp
  obtain ⟨bB, hbB⟩ : ∃ bB, W.heap.size = bB := ⟨_, rfl⟩
  obtain ⟨rB, hrB⟩ : ∃ rB, V0.heap.size = rB := ⟨_, rfl⟩
  have hrb : bB + 1 = rB := by omega
  rw [hbB, hrB] at hlt
  rw [hbB] at v2
  rw [hrB] at v1
  have HBW0 : Hid (Below bB W V) := hide (by rw [← hbB]; exact below_next bV0 bV1 bV0.size)
  have HBX0 := hide v2
  have HRS0 := hide v1
  have HBB := hide hbB
  have HLT := hide hlt
  have HSZ0 := hide (box_lt v1)
  clear v0 v1 v2 bV0 bV1
  go_enter Try.func20, Try.ntmps20
  go_upto_region 1 with fail
  try rw [hbB]
  try rw [hrb]
  rw [← hV0, ← hV]
  try rw [hrB]
  clear hV0 hV hbB hrB hs0 hrb hlt
  obtain ⟨_, _, _, _, _, _, u0, u1, u2, u3, u4, u5⟩ := six HBX0.out
  go_wp2_with fail
  refine (snd_any).mono ?_
  rw [HS.out]
  simp only [GE.val, GE.row]
  rintro _ w1 ⟨rfl, b1⟩
  have HBX1 := hide (below_box b1 HBX0.out)
  have HRS1 := hide (below_box b1 HRS0.out)
  have HBW1 := hide (below_next HBW0.out b1 (by have := HLT.out; have := HSZ0.out; omega))
  have HSZ1 := hide (box_lt HRS1.out)
  clear b1 HBX0 HRS0 HBW0 HSZ0 u0 u1 u2 u3 u4 u5
  obtain ⟨_, _, _, _, _, _, u0, u1, u2, u3, u4, u5⟩ := six HBX1.out
  go_upto_region 2 with fail
  obtain ⟨X, hX⟩ : ∃ X, X = ((((((w1.setCell ⟨bB, 0, none⟩ (.int .i64 c)).setCell ⟨bB, 1, none⟩ (.int .i64 x)).setCell ⟨bB, 2, none⟩ (.int .i64 u)).setCell ⟨bB, 3, none⟩ (.int .i64 s)).setCell ⟨bB, 4, none⟩ (.int .i64 k)).setCell ⟨bB, 5, none⟩ (.int .i64 a)) := ⟨_, rfl⟩
  have oX : Only (· = bB) w1 X := by rw [hX]; exact ((((((Only.set (F := (· = bB)) _ bB 0 (.int .i64 c) rfl).trans (Only.set (F := (· = bB)) _ bB 1 (.int .i64 x) rfl)).trans (Only.set (F := (· = bB)) _ bB 2 (.int .i64 u) rfl)).trans (Only.set (F := (· = bB)) _ bB 3 (.int .i64 s) rfl)).trans (Only.set (F := (· = bB)) _ bB 4 (.int .i64 k) rfl)).trans (Only.set (F := (· = bB)) _ bB 5 (.int .i64 a) rfl))
  have HBX2 : Hid (X.heap[bB]? = some (.cells #[.int .i64 c, .int .i64 x, .int .i64 u, .int .i64 s, .int .i64 k, .int .i64 a] 23 (0, 0))) := hide (by rw [hX]; exact (heap_set_sameL (heap_set_sameL (heap_set_sameL (heap_set_sameL (heap_set_sameL (heap_set_sameL HBX1.out 0 (.int .i64 c)) 1 (.int .i64 x)) 2 (.int .i64 u)) 3 (.int .i64 s)) 4 (.int .i64 k)) 5 (.int .i64 a)))
  have HRS2 := hide (oX.obj HRS1.out (fun e => by have e' : rB = bB := e; have := HLT.out; omega))
  have HBW2 := hide (HBW1.out.trans (oX.below (by have := HLT.out; have := HSZ1.out; omega) (fun i e => by have e' : i = bB := e; omega)))
  have HSZ2 := hide (box_lt HRS2.out)
  rw [← hX]
  clear hX oX HBX1 HRS1 HBW1 HSZ1 u0 u1 u2 u3 u4 u5
  obtain ⟨_, _, _, _, _, _, u0, u1, u2, u3, u4, u5⟩ := six HBX2.out
  go_wp2_with fail
  refine (mayask_any HOK.out.1 HOK.out.2.2.2.2.1).mono ?_
  rw [HM.out]
  rintro _ w3 ⟨rfl, b3⟩
  have HBX3 := hide (below_box b3 HBX2.out)
  have HRS3 := hide (below_box b3 HRS2.out)
  have HBW3 := hide (below_next HBW2.out b3 (by have := HLT.out; have := HSZ2.out; omega))
  have HSZ3 := hide (box_lt HRS3.out)
  clear b3 HBX2 HRS2 HBW2 HSZ2 u0 u1 u2 u3 u4 u5
  obtain ⟨_, _, _, _, _, _, u0, u1, u2, u3, u4, u5⟩ := six HBX3.out
  obtain ⟨f0, f1, f2, f3, f4, f5, r0, r1, r2, r3, r4, r5⟩ := six HRS3.out
  go_wp2
  have hE := heap_set6 HRS3.out (.int .i64 c) (.int .i64 x) (.int .i64 u) (.int .i64 s) (.int .i64 k) (.int .i64 a)
  refine bodyPost_ret (results_cell_four rfl _ _ rB 23 _ _ _ rfl hE Try.underlying23 rfl (by kernel_rfl)) rfl ?_
  refine ⟨by rw [HQ.out]; rfl, ?_⟩
  rw [HBB.out]
  exact HBW3.out.trans ((only_set6 _ rB _ _ _ _ _ _).below (by have := HLT.out; have := HSZ3.out; omega) (fun i e => by have e' : i = rB := e; have := HLT.out; omega))

set_option maxRecDepth 100000 in
set_option maxHeartbeats 2000000 in
theorem ask_mf {W : World} {ck ep un se ki ak : Int} {c x u s k a : Int} (hs : sndG ⟨ck, ep, un, se, ki, ak⟩ = ⟨c, x, u, s, k, a⟩) (hm : mayG ⟨c, x, u, s, k, a⟩ = true) (hf : s = 9007199254740992) :
    Calls Try.prog 20 #[.agg #[.int .i64 ck, .int .i64 ep, .int .i64 un, .int .i64 se, .int .i64 ki, .int .i64 ak]] W fun e w' => e = .returned (.tuple #[GE.val (askG ⟨ck, ep, un, se, ki, ak⟩).1, .int .i64 (askG ⟨ck, ep, un, se, ki, ak⟩).2.1, .int .i64 (askG ⟨ck, ep, un, se, ki, ak⟩).2.2.1, .int .i64 (askG ⟨ck, ep, un, se, ki, ak⟩).2.2.2]) ∧ Below W.heap.size W w' := by
  have hok : okG ⟨c, x, u, s, k, a⟩ := by rw [← hs]; exact snd_ok _
  have HOK := hide hok
  have HQ : Hid (askG ⟨ck, ep, un, se, ki, ak⟩ = (⟨c, x, u, s, k, a⟩, 0, 0, 6)) := hide (by unfold askG; rw [hs]; exact (if_neg (by rw [hm]; simp)).trans (if_pos hf))
  have HM := hide hm
  have d4 : (s == 9007199254740992) = true := by simpa using hf
  have HS := hide hs
  clear hs hok hm hf
  obtain ⟨V0, hV0⟩ : ∃ V0, V0 = W.alloc (.cells #[.int .i64 ck, .int .i64 ep, .int .i64 un, .int .i64 se, .int .i64 ki, .int .i64 ak] 23 (0, 0)) := ⟨_, rfl⟩
  obtain ⟨V, hV⟩ : ∃ V, V = V0.alloc (.cells #[.int .i64 0, .int .i64 0, .int .i64 0, .int .i64 0, .int .i64 0, .int .i64 0] 23 (0, 0)) := ⟨_, rfl⟩
  have bV0 : Below W.heap.size W V0 := by rw [hV0]; exact alloc_below _ _
  have bV1 : Below V0.heap.size V0 V := by rw [hV]; exact alloc_below _ _
  have v0 : V0.heap[W.heap.size]? = some (.cells #[.int .i64 ck, .int .i64 ep, .int .i64 un, .int .i64 se, .int .i64 ki, .int .i64 ak] 23 (0, 0)) := by rw [hV0]; exact heap_alloc_new W _
  have v1 : V.heap[V0.heap.size]? = some (.cells #[.int .i64 0, .int .i64 0, .int .i64 0, .int .i64 0, .int .i64 0, .int .i64 0] 23 (0, 0)) := by rw [hV]; exact heap_alloc_new V0 _
  have v2 := below_box bV1 v0
  have hlt := box_lt v0
  have hs0 : V0.heap.size = W.heap.size + 1 := by rw [hV0]; simp
  obtain ⟨bB, hbB⟩ : ∃ bB, W.heap.size = bB := ⟨_, rfl⟩
  obtain ⟨rB, hrB⟩ : ∃ rB, V0.heap.size = rB := ⟨_, rfl⟩
  have hrb : bB + 1 = rB := by omega
  rw [hbB, hrB] at hlt
  rw [hbB] at v2
  rw [hrB] at v1
  have HBW0 : Hid (Below bB W V) := hide (by rw [← hbB]; exact below_next bV0 bV1 bV0.size)
  have HBX0 := hide v2
  have HRS0 := hide v1
  have HBB := hide hbB
  have HLT := hide hlt
  have HSZ0 := hide (box_lt v1)
  clear v0 v1 v2 bV0 bV1
  go_enter Try.func20, Try.ntmps20
  go_upto_region 1 with fail
  try rw [hbB]
  try rw [hrb]
  rw [← hV0, ← hV]
  try rw [hrB]
  clear hV0 hV hbB hrB hs0 hrb hlt
  obtain ⟨_, _, _, _, _, _, u0, u1, u2, u3, u4, u5⟩ := six HBX0.out
  go_wp2_with fail
  refine (snd_any).mono ?_
  rw [HS.out]
  simp only [GE.val, GE.row]
  rintro _ w1 ⟨rfl, b1⟩
  have HBX1 := hide (below_box b1 HBX0.out)
  have HRS1 := hide (below_box b1 HRS0.out)
  have HBW1 := hide (below_next HBW0.out b1 (by have := HLT.out; have := HSZ0.out; omega))
  have HSZ1 := hide (box_lt HRS1.out)
  clear b1 HBX0 HRS0 HBW0 HSZ0 u0 u1 u2 u3 u4 u5
  obtain ⟨_, _, _, _, _, _, u0, u1, u2, u3, u4, u5⟩ := six HBX1.out
  go_upto_region 2 with fail
  obtain ⟨X, hX⟩ : ∃ X, X = ((((((w1.setCell ⟨bB, 0, none⟩ (.int .i64 c)).setCell ⟨bB, 1, none⟩ (.int .i64 x)).setCell ⟨bB, 2, none⟩ (.int .i64 u)).setCell ⟨bB, 3, none⟩ (.int .i64 s)).setCell ⟨bB, 4, none⟩ (.int .i64 k)).setCell ⟨bB, 5, none⟩ (.int .i64 a)) := ⟨_, rfl⟩
  have oX : Only (· = bB) w1 X := by rw [hX]; exact ((((((Only.set (F := (· = bB)) _ bB 0 (.int .i64 c) rfl).trans (Only.set (F := (· = bB)) _ bB 1 (.int .i64 x) rfl)).trans (Only.set (F := (· = bB)) _ bB 2 (.int .i64 u) rfl)).trans (Only.set (F := (· = bB)) _ bB 3 (.int .i64 s) rfl)).trans (Only.set (F := (· = bB)) _ bB 4 (.int .i64 k) rfl)).trans (Only.set (F := (· = bB)) _ bB 5 (.int .i64 a) rfl))
  have HBX2 : Hid (X.heap[bB]? = some (.cells #[.int .i64 c, .int .i64 x, .int .i64 u, .int .i64 s, .int .i64 k, .int .i64 a] 23 (0, 0))) := hide (by rw [hX]; exact (heap_set_sameL (heap_set_sameL (heap_set_sameL (heap_set_sameL (heap_set_sameL (heap_set_sameL HBX1.out 0 (.int .i64 c)) 1 (.int .i64 x)) 2 (.int .i64 u)) 3 (.int .i64 s)) 4 (.int .i64 k)) 5 (.int .i64 a)))
  have HRS2 := hide (oX.obj HRS1.out (fun e => by have e' : rB = bB := e; have := HLT.out; omega))
  have HBW2 := hide (HBW1.out.trans (oX.below (by have := HLT.out; have := HSZ1.out; omega) (fun i e => by have e' : i = bB := e; omega)))
  have HSZ2 := hide (box_lt HRS2.out)
  rw [← hX]
  clear hX oX HBX1 HRS1 HBW1 HSZ1 u0 u1 u2 u3 u4 u5
  obtain ⟨_, _, _, _, _, _, u0, u1, u2, u3, u4, u5⟩ := six HBX2.out
  go_wp2_with fail
  refine (mayask_any HOK.out.1 HOK.out.2.2.2.2.1).mono ?_
  rw [HM.out]
  rintro _ w3 ⟨rfl, b3⟩
  have HBX3 := hide (below_box b3 HBX2.out)
  have HRS3 := hide (below_box b3 HRS2.out)
  have HBW3 := hide (below_next HBW2.out b3 (by have := HLT.out; have := HSZ2.out; omega))
  have HSZ3 := hide (box_lt HRS3.out)
  clear b3 HBX2 HRS2 HBW2 HSZ2 u0 u1 u2 u3 u4 u5
  obtain ⟨_, _, _, _, _, _, u0, u1, u2, u3, u4, u5⟩ := six HBX3.out
  obtain ⟨f0, f1, f2, f3, f4, f5, r0, r1, r2, r3, r4, r5⟩ := six HRS3.out
  go_wp2
  have hE := heap_set6 HRS3.out (.int .i64 c) (.int .i64 x) (.int .i64 u) (.int .i64 s) (.int .i64 k) (.int .i64 a)
  refine bodyPost_ret (results_cell_four rfl _ _ rB 23 _ _ _ rfl hE Try.underlying23 rfl (by kernel_rfl)) rfl ?_
  refine ⟨by rw [HQ.out]; rfl, ?_⟩
  rw [HBB.out]
  exact HBW3.out.trans ((only_set6 _ rB _ _ _ _ _ _).below (by have := HLT.out; have := HSZ3.out; omega) (fun i e => by have e' : i = rB := e; have := HLT.out; omega))

set_option maxRecDepth 100000 in
set_option maxHeartbeats 2000000 in
theorem ask_ma {W : World} {ck ep un se ki ak : Int} {c x u s k a : Int} (hs : sndG ⟨ck, ep, un, se, ki, ak⟩ = ⟨c, x, u, s, k, a⟩) (hm : mayG ⟨c, x, u, s, k, a⟩ = true) (hf : s ≠ 9007199254740992) (hx : x = 0) :
    Calls Try.prog 20 #[.agg #[.int .i64 ck, .int .i64 ep, .int .i64 un, .int .i64 se, .int .i64 ki, .int .i64 ak]] W fun e w' => e = .returned (.tuple #[GE.val (askG ⟨ck, ep, un, se, ki, ak⟩).1, .int .i64 (askG ⟨ck, ep, un, se, ki, ak⟩).2.1, .int .i64 (askG ⟨ck, ep, un, se, ki, ak⟩).2.2.1, .int .i64 (askG ⟨ck, ep, un, se, ki, ak⟩).2.2.2]) ∧ Below W.heap.size W w' := by
  have hok : okG ⟨c, x, u, s, k, a⟩ := by rw [← hs]; exact snd_ok _
  have HOK := hide hok
  obtain ⟨s1, hs1⟩ : ∃ s1, s + 1 = s1 := ⟨_, rfl⟩
  have e2 : IntKind.i64.wrap (s + 1) = s1 := by rw [← hs1]; unfold okG at hok; simp only at hok; rw [IntKind.wrap_i64]; omega
  have HQ : Hid (askG ⟨ck, ep, un, se, ki, ak⟩ = (⟨c, x, u, s1, 1, c⟩, s1, 1, 0)) := hide (by unfold askG; rw [hs]; unfold askS; rw [if_neg (by rw [hm]; simp), if_neg hf]; simp only [hs1]; rw [if_pos hx])
  have HM := hide hm
  have d4 : (s == 9007199254740992) = false := ne_eqL hf
  have d5 : (x == 0) = true := by simpa using hx
  have HS := hide hs
  clear hs hok hm hf hs1 hx
  obtain ⟨V0, hV0⟩ : ∃ V0, V0 = W.alloc (.cells #[.int .i64 ck, .int .i64 ep, .int .i64 un, .int .i64 se, .int .i64 ki, .int .i64 ak] 23 (0, 0)) := ⟨_, rfl⟩
  obtain ⟨V, hV⟩ : ∃ V, V = V0.alloc (.cells #[.int .i64 0, .int .i64 0, .int .i64 0, .int .i64 0, .int .i64 0, .int .i64 0] 23 (0, 0)) := ⟨_, rfl⟩
  have bV0 : Below W.heap.size W V0 := by rw [hV0]; exact alloc_below _ _
  have bV1 : Below V0.heap.size V0 V := by rw [hV]; exact alloc_below _ _
  have v0 : V0.heap[W.heap.size]? = some (.cells #[.int .i64 ck, .int .i64 ep, .int .i64 un, .int .i64 se, .int .i64 ki, .int .i64 ak] 23 (0, 0)) := by rw [hV0]; exact heap_alloc_new W _
  have v1 : V.heap[V0.heap.size]? = some (.cells #[.int .i64 0, .int .i64 0, .int .i64 0, .int .i64 0, .int .i64 0, .int .i64 0] 23 (0, 0)) := by rw [hV]; exact heap_alloc_new V0 _
  have v2 := below_box bV1 v0
  have hlt := box_lt v0
  have hs0 : V0.heap.size = W.heap.size + 1 := by rw [hV0]; simp
  obtain ⟨bB, hbB⟩ : ∃ bB, W.heap.size = bB := ⟨_, rfl⟩
  obtain ⟨rB, hrB⟩ : ∃ rB, V0.heap.size = rB := ⟨_, rfl⟩
  have hrb : bB + 1 = rB := by omega
  rw [hbB, hrB] at hlt
  rw [hbB] at v2
  rw [hrB] at v1
  have HBW0 : Hid (Below bB W V) := hide (by rw [← hbB]; exact below_next bV0 bV1 bV0.size)
  have HBX0 := hide v2
  have HRS0 := hide v1
  have HBB := hide hbB
  have HLT := hide hlt
  have HSZ0 := hide (box_lt v1)
  clear v0 v1 v2 bV0 bV1
  go_enter Try.func20, Try.ntmps20
  go_upto_region 1 with fail
  try rw [hbB]
  try rw [hrb]
  rw [← hV0, ← hV]
  try rw [hrB]
  clear hV0 hV hbB hrB hs0 hrb hlt
  obtain ⟨_, _, _, _, _, _, u0, u1, u2, u3, u4, u5⟩ := six HBX0.out
  go_wp2_with fail
  refine (snd_any).mono ?_
  rw [HS.out]
  simp only [GE.val, GE.row]
  rintro _ w1 ⟨rfl, b1⟩
  have HBX1 := hide (below_box b1 HBX0.out)
  have HRS1 := hide (below_box b1 HRS0.out)
  have HBW1 := hide (below_next HBW0.out b1 (by have := HLT.out; have := HSZ0.out; omega))
  have HSZ1 := hide (box_lt HRS1.out)
  clear b1 HBX0 HRS0 HBW0 HSZ0 u0 u1 u2 u3 u4 u5
  obtain ⟨_, _, _, _, _, _, u0, u1, u2, u3, u4, u5⟩ := six HBX1.out
  go_upto_region 2 with fail
  obtain ⟨X, hX⟩ : ∃ X, X = ((((((w1.setCell ⟨bB, 0, none⟩ (.int .i64 c)).setCell ⟨bB, 1, none⟩ (.int .i64 x)).setCell ⟨bB, 2, none⟩ (.int .i64 u)).setCell ⟨bB, 3, none⟩ (.int .i64 s)).setCell ⟨bB, 4, none⟩ (.int .i64 k)).setCell ⟨bB, 5, none⟩ (.int .i64 a)) := ⟨_, rfl⟩
  have oX : Only (· = bB) w1 X := by rw [hX]; exact ((((((Only.set (F := (· = bB)) _ bB 0 (.int .i64 c) rfl).trans (Only.set (F := (· = bB)) _ bB 1 (.int .i64 x) rfl)).trans (Only.set (F := (· = bB)) _ bB 2 (.int .i64 u) rfl)).trans (Only.set (F := (· = bB)) _ bB 3 (.int .i64 s) rfl)).trans (Only.set (F := (· = bB)) _ bB 4 (.int .i64 k) rfl)).trans (Only.set (F := (· = bB)) _ bB 5 (.int .i64 a) rfl))
  have HBX2 : Hid (X.heap[bB]? = some (.cells #[.int .i64 c, .int .i64 x, .int .i64 u, .int .i64 s, .int .i64 k, .int .i64 a] 23 (0, 0))) := hide (by rw [hX]; exact (heap_set_sameL (heap_set_sameL (heap_set_sameL (heap_set_sameL (heap_set_sameL (heap_set_sameL HBX1.out 0 (.int .i64 c)) 1 (.int .i64 x)) 2 (.int .i64 u)) 3 (.int .i64 s)) 4 (.int .i64 k)) 5 (.int .i64 a)))
  have HRS2 := hide (oX.obj HRS1.out (fun e => by have e' : rB = bB := e; have := HLT.out; omega))
  have HBW2 := hide (HBW1.out.trans (oX.below (by have := HLT.out; have := HSZ1.out; omega) (fun i e => by have e' : i = bB := e; omega)))
  have HSZ2 := hide (box_lt HRS2.out)
  rw [← hX]
  clear hX oX HBX1 HRS1 HBW1 HSZ1 u0 u1 u2 u3 u4 u5
  obtain ⟨_, _, _, _, _, _, u0, u1, u2, u3, u4, u5⟩ := six HBX2.out
  go_wp2_with fail
  refine (mayask_any HOK.out.1 HOK.out.2.2.2.2.1).mono ?_
  rw [HM.out]
  rintro _ w3 ⟨rfl, b3⟩
  have HBX3 := hide (below_box b3 HBX2.out)
  have HRS3 := hide (below_box b3 HRS2.out)
  have HBW3 := hide (below_next HBW2.out b3 (by have := HLT.out; have := HSZ2.out; omega))
  have HSZ3 := hide (box_lt HRS3.out)
  clear b3 HBX2 HRS2 HBW2 HSZ2 u0 u1 u2 u3 u4 u5
  obtain ⟨_, _, _, _, _, _, u0, u1, u2, u3, u4, u5⟩ := six HBX3.out
  go_upto_region 11 with fail
  obtain ⟨Y, hY⟩ : ∃ Y, Y = ((((w3.setCell ⟨bB, 3, none⟩ (.int .i64 s1)).setCell ⟨bB, 5, none⟩ (.int .i64 c)).setCell ⟨bB, 4, none⟩ (.int .i64 2)).setCell ⟨bB, 4, none⟩ (.int .i64 1)) := ⟨_, rfl⟩
  have oY : Only (· = bB) w3 Y := by rw [hY]; exact ((((Only.set (F := (· = bB)) _ bB 3 (.int .i64 s1) rfl).trans (Only.set (F := (· = bB)) _ bB 5 (.int .i64 c) rfl)).trans (Only.set (F := (· = bB)) _ bB 4 (.int .i64 2) rfl)).trans (Only.set (F := (· = bB)) _ bB 4 (.int .i64 1) rfl))
  have HBX4 : Hid (Y.heap[bB]? = some (.cells #[.int .i64 c, .int .i64 x, .int .i64 u, .int .i64 s1, .int .i64 1, .int .i64 c] 23 (0, 0))) := hide (by rw [hY]; exact (heap_set_sameL (heap_set_sameL (heap_set_sameL (heap_set_sameL HBX3.out 3 (.int .i64 s1)) 5 (.int .i64 c)) 4 (.int .i64 2)) 4 (.int .i64 1)))
  have HRS4 := hide (oY.obj HRS3.out (fun e => by have e' : rB = bB := e; have := HLT.out; omega))
  have HBW4 := hide (HBW3.out.trans (oY.below (by have := HLT.out; have := HSZ3.out; omega) (fun i e => by have e' : i = bB := e; omega)))
  have HSZ4 := hide (box_lt HRS4.out)
  rw [← hY]
  clear hY oY HBX3 HRS3 HBW3 HSZ3 u0 u1 u2 u3 u4 u5
  obtain ⟨_, _, _, _, _, _, u0, u1, u2, u3, u4, u5⟩ := six HBX4.out
  obtain ⟨f0, f1, f2, f3, f4, f5, r0, r1, r2, r3, r4, r5⟩ := six HRS4.out
  have hne1 : rB ≠ bB := by have := HLT.out; omega
  have hne2 : bB ≠ rB := by have := HLT.out; omega
  go_region_held3 (fun w' => w'.cell? ⟨bB, 0, none⟩ = some (.int .i64 c) ∧ w'.cell? ⟨bB, 1, none⟩ = some (.int .i64 x) ∧ w'.cell? ⟨bB, 2, none⟩ = some (.int .i64 u) ∧ w'.cell? ⟨bB, 3, none⟩ = some (.int .i64 s1) ∧ w'.cell? ⟨bB, 4, none⟩ = some (.int .i64 1) ∧ w'.cell? ⟨bB, 5, none⟩ = some (.int .i64 c)) (go_keep) (fail)
  go_wp2
  have hE := drew1_heap (heap_set6 HRS4.out (.int .i64 c) (.int .i64 x) (.int .i64 u) (.int .i64 s1) (.int .i64 1) (.int .i64 c))
  refine bodyPost_ret (results_cell_four rfl _ _ rB 23 _ _ _ rfl hE Try.underlying23 rfl (by kernel_rfl)) rfl ?_
  refine ⟨by rw [HQ.out]; rfl, ?_⟩
  rw [HBB.out]
  exact below_drew1 (HBW4.out.trans ((only_set6 _ rB _ _ _ _ _ _).below (by have := HLT.out; have := HSZ4.out; omega) (fun i e => by have e' : i = rB := e; have := HLT.out; omega)))

set_option maxRecDepth 100000 in
set_option maxHeartbeats 2000000 in
theorem ask_mr {W : World} {ck ep un se ki ak : Int} {c x u s k a : Int} (hs : sndG ⟨ck, ep, un, se, ki, ak⟩ = ⟨c, x, u, s, k, a⟩) (hm : mayG ⟨c, x, u, s, k, a⟩ = true) (hf : s ≠ 9007199254740992) (hx : x ≠ 0) :
    Calls Try.prog 20 #[.agg #[.int .i64 ck, .int .i64 ep, .int .i64 un, .int .i64 se, .int .i64 ki, .int .i64 ak]] W fun e w' => e = .returned (.tuple #[GE.val (askG ⟨ck, ep, un, se, ki, ak⟩).1, .int .i64 (askG ⟨ck, ep, un, se, ki, ak⟩).2.1, .int .i64 (askG ⟨ck, ep, un, se, ki, ak⟩).2.2.1, .int .i64 (askG ⟨ck, ep, un, se, ki, ak⟩).2.2.2]) ∧ Below W.heap.size W w' := by
  have hok : okG ⟨c, x, u, s, k, a⟩ := by rw [← hs]; exact snd_ok _
  have HOK := hide hok
  obtain ⟨s1, hs1⟩ : ∃ s1, s + 1 = s1 := ⟨_, rfl⟩
  have e2 : IntKind.i64.wrap (s + 1) = s1 := by rw [← hs1]; unfold okG at hok; simp only at hok; rw [IntKind.wrap_i64]; omega
  have HQ : Hid (askG ⟨ck, ep, un, se, ki, ak⟩ = (⟨c, x, u, s1, 2, c⟩, s1, 2, 0)) := hide (by unfold askG; rw [hs]; unfold askS; rw [if_neg (by rw [hm]; simp), if_neg hf]; simp only [hs1]; rw [if_neg hx])
  have HM := hide hm
  have d4 : (s == 9007199254740992) = false := ne_eqL hf
  have d5 : (x == 0) = false := ne_eqL hx
  have HS := hide hs
  clear hs hok hm hf hs1 hx
  obtain ⟨V0, hV0⟩ : ∃ V0, V0 = W.alloc (.cells #[.int .i64 ck, .int .i64 ep, .int .i64 un, .int .i64 se, .int .i64 ki, .int .i64 ak] 23 (0, 0)) := ⟨_, rfl⟩
  obtain ⟨V, hV⟩ : ∃ V, V = V0.alloc (.cells #[.int .i64 0, .int .i64 0, .int .i64 0, .int .i64 0, .int .i64 0, .int .i64 0] 23 (0, 0)) := ⟨_, rfl⟩
  have bV0 : Below W.heap.size W V0 := by rw [hV0]; exact alloc_below _ _
  have bV1 : Below V0.heap.size V0 V := by rw [hV]; exact alloc_below _ _
  have v0 : V0.heap[W.heap.size]? = some (.cells #[.int .i64 ck, .int .i64 ep, .int .i64 un, .int .i64 se, .int .i64 ki, .int .i64 ak] 23 (0, 0)) := by rw [hV0]; exact heap_alloc_new W _
  have v1 : V.heap[V0.heap.size]? = some (.cells #[.int .i64 0, .int .i64 0, .int .i64 0, .int .i64 0, .int .i64 0, .int .i64 0] 23 (0, 0)) := by rw [hV]; exact heap_alloc_new V0 _
  have v2 := below_box bV1 v0
  have hlt := box_lt v0
  have hs0 : V0.heap.size = W.heap.size + 1 := by rw [hV0]; simp
  obtain ⟨bB, hbB⟩ : ∃ bB, W.heap.size = bB := ⟨_, rfl⟩
  obtain ⟨rB, hrB⟩ : ∃ rB, V0.heap.size = rB := ⟨_, rfl⟩
  have hrb : bB + 1 = rB := by omega
  rw [hbB, hrB] at hlt
  rw [hbB] at v2
  rw [hrB] at v1
  have HBW0 : Hid (Below bB W V) := hide (by rw [← hbB]; exact below_next bV0 bV1 bV0.size)
  have HBX0 := hide v2
  have HRS0 := hide v1
  have HBB := hide hbB
  have HLT := hide hlt
  have HSZ0 := hide (box_lt v1)
  clear v0 v1 v2 bV0 bV1
  go_enter Try.func20, Try.ntmps20
  go_upto_region 1 with fail
  try rw [hbB]
  try rw [hrb]
  rw [← hV0, ← hV]
  try rw [hrB]
  clear hV0 hV hbB hrB hs0 hrb hlt
  obtain ⟨_, _, _, _, _, _, u0, u1, u2, u3, u4, u5⟩ := six HBX0.out
  go_wp2_with fail
  refine (snd_any).mono ?_
  rw [HS.out]
  simp only [GE.val, GE.row]
  rintro _ w1 ⟨rfl, b1⟩
  have HBX1 := hide (below_box b1 HBX0.out)
  have HRS1 := hide (below_box b1 HRS0.out)
  have HBW1 := hide (below_next HBW0.out b1 (by have := HLT.out; have := HSZ0.out; omega))
  have HSZ1 := hide (box_lt HRS1.out)
  clear b1 HBX0 HRS0 HBW0 HSZ0 u0 u1 u2 u3 u4 u5
  obtain ⟨_, _, _, _, _, _, u0, u1, u2, u3, u4, u5⟩ := six HBX1.out
  go_upto_region 2 with fail
  obtain ⟨X, hX⟩ : ∃ X, X = ((((((w1.setCell ⟨bB, 0, none⟩ (.int .i64 c)).setCell ⟨bB, 1, none⟩ (.int .i64 x)).setCell ⟨bB, 2, none⟩ (.int .i64 u)).setCell ⟨bB, 3, none⟩ (.int .i64 s)).setCell ⟨bB, 4, none⟩ (.int .i64 k)).setCell ⟨bB, 5, none⟩ (.int .i64 a)) := ⟨_, rfl⟩
  have oX : Only (· = bB) w1 X := by rw [hX]; exact ((((((Only.set (F := (· = bB)) _ bB 0 (.int .i64 c) rfl).trans (Only.set (F := (· = bB)) _ bB 1 (.int .i64 x) rfl)).trans (Only.set (F := (· = bB)) _ bB 2 (.int .i64 u) rfl)).trans (Only.set (F := (· = bB)) _ bB 3 (.int .i64 s) rfl)).trans (Only.set (F := (· = bB)) _ bB 4 (.int .i64 k) rfl)).trans (Only.set (F := (· = bB)) _ bB 5 (.int .i64 a) rfl))
  have HBX2 : Hid (X.heap[bB]? = some (.cells #[.int .i64 c, .int .i64 x, .int .i64 u, .int .i64 s, .int .i64 k, .int .i64 a] 23 (0, 0))) := hide (by rw [hX]; exact (heap_set_sameL (heap_set_sameL (heap_set_sameL (heap_set_sameL (heap_set_sameL (heap_set_sameL HBX1.out 0 (.int .i64 c)) 1 (.int .i64 x)) 2 (.int .i64 u)) 3 (.int .i64 s)) 4 (.int .i64 k)) 5 (.int .i64 a)))
  have HRS2 := hide (oX.obj HRS1.out (fun e => by have e' : rB = bB := e; have := HLT.out; omega))
  have HBW2 := hide (HBW1.out.trans (oX.below (by have := HLT.out; have := HSZ1.out; omega) (fun i e => by have e' : i = bB := e; omega)))
  have HSZ2 := hide (box_lt HRS2.out)
  rw [← hX]
  clear hX oX HBX1 HRS1 HBW1 HSZ1 u0 u1 u2 u3 u4 u5
  obtain ⟨_, _, _, _, _, _, u0, u1, u2, u3, u4, u5⟩ := six HBX2.out
  go_wp2_with fail
  refine (mayask_any HOK.out.1 HOK.out.2.2.2.2.1).mono ?_
  rw [HM.out]
  rintro _ w3 ⟨rfl, b3⟩
  have HBX3 := hide (below_box b3 HBX2.out)
  have HRS3 := hide (below_box b3 HRS2.out)
  have HBW3 := hide (below_next HBW2.out b3 (by have := HLT.out; have := HSZ2.out; omega))
  have HSZ3 := hide (box_lt HRS3.out)
  clear b3 HBX2 HRS2 HBW2 HSZ2 u0 u1 u2 u3 u4 u5
  obtain ⟨_, _, _, _, _, _, u0, u1, u2, u3, u4, u5⟩ := six HBX3.out
  go_upto_region 11 with fail
  obtain ⟨Y, hY⟩ : ∃ Y, Y = (((w3.setCell ⟨bB, 3, none⟩ (.int .i64 s1)).setCell ⟨bB, 5, none⟩ (.int .i64 c)).setCell ⟨bB, 4, none⟩ (.int .i64 2)) := ⟨_, rfl⟩
  have oY : Only (· = bB) w3 Y := by rw [hY]; exact (((Only.set (F := (· = bB)) _ bB 3 (.int .i64 s1) rfl).trans (Only.set (F := (· = bB)) _ bB 5 (.int .i64 c) rfl)).trans (Only.set (F := (· = bB)) _ bB 4 (.int .i64 2) rfl))
  have HBX4 : Hid (Y.heap[bB]? = some (.cells #[.int .i64 c, .int .i64 x, .int .i64 u, .int .i64 s1, .int .i64 2, .int .i64 c] 23 (0, 0))) := hide (by rw [hY]; exact (heap_set_sameL (heap_set_sameL (heap_set_sameL HBX3.out 3 (.int .i64 s1)) 5 (.int .i64 c)) 4 (.int .i64 2)))
  have HRS4 := hide (oY.obj HRS3.out (fun e => by have e' : rB = bB := e; have := HLT.out; omega))
  have HBW4 := hide (HBW3.out.trans (oY.below (by have := HLT.out; have := HSZ3.out; omega) (fun i e => by have e' : i = bB := e; omega)))
  have HSZ4 := hide (box_lt HRS4.out)
  rw [← hY]
  clear hY oY HBX3 HRS3 HBW3 HSZ3 u0 u1 u2 u3 u4 u5
  obtain ⟨_, _, _, _, _, _, u0, u1, u2, u3, u4, u5⟩ := six HBX4.out
  obtain ⟨f0, f1, f2, f3, f4, f5, r0, r1, r2, r3, r4, r5⟩ := six HRS4.out
  have hne1 : rB ≠ bB := by have := HLT.out; omega
  have hne2 : bB ≠ rB := by have := HLT.out; omega
  go_region_held3 (fun w' => w'.cell? ⟨bB, 0, none⟩ = some (.int .i64 c) ∧ w'.cell? ⟨bB, 1, none⟩ = some (.int .i64 x) ∧ w'.cell? ⟨bB, 2, none⟩ = some (.int .i64 u) ∧ w'.cell? ⟨bB, 3, none⟩ = some (.int .i64 s1) ∧ w'.cell? ⟨bB, 4, none⟩ = some (.int .i64 2) ∧ w'.cell? ⟨bB, 5, none⟩ = some (.int .i64 c)) (go_keep) (fail)
  go_wp2
  have hE := drew1_heap (heap_set6 HRS4.out (.int .i64 c) (.int .i64 x) (.int .i64 u) (.int .i64 s1) (.int .i64 2) (.int .i64 c))
  refine bodyPost_ret (results_cell_four rfl _ _ rB 23 _ _ _ rfl hE Try.underlying23 rfl (by kernel_rfl)) rfl ?_
  refine ⟨by rw [HQ.out]; rfl, ?_⟩
  rw [HBB.out]
  exact below_drew1 (HBW4.out.trans ((only_set6 _ rB _ _ _ _ _ _).below (by have := HLT.out; have := HSZ4.out; omega) (fun i e => by have e' : i = rB := e; have := HLT.out; omega)))

theorem ask_any {W : World} {ck ep un se ki ak : Int} : Calls Try.prog 20 #[.agg #[.int .i64 ck, .int .i64 ep, .int .i64 un, .int .i64 se, .int .i64 ki, .int .i64 ak]] W fun e w' => e = .returned (.tuple #[GE.val (askG ⟨ck, ep, un, se, ki, ak⟩).1, .int .i64 (askG ⟨ck, ep, un, se, ki, ak⟩).2.1, .int .i64 (askG ⟨ck, ep, un, se, ki, ak⟩).2.2.1, .int .i64 (askG ⟨ck, ep, un, se, ki, ak⟩).2.2.2]) ∧ Below W.heap.size W w' := by
  obtain ⟨⟨c, x, u, s, k, a⟩, hs⟩ : ∃ q, sndG ⟨ck, ep, un, se, ki, ak⟩ = q := ⟨_, rfl⟩
  cases hm : mayG ⟨c, x, u, s, k, a⟩ with
  | false => exact ask_mn hs hm
  | true =>
    by_cases hf : s = 9007199254740992
    · exact ask_mf hs hm hf
    · by_cases hx : x = 0
      · exact ask_ma hs hm hf hx
      · exact ask_mr hs hm hf hx
set_option maxRecDepth 100000 in
set_option maxHeartbeats 2000000 in
theorem rask_gn {W : World} {ck ep un se ki ak : Int} {c x u s k a : Int} (hs : sndG ⟨ck, ep, un, se, ki, ak⟩ = ⟨c, x, u, s, k, a⟩) (hk : k ≠ 0) (hg : ¬ 4 ≤ c - a) :
    Calls Try.prog 29 #[.agg #[.int .i64 ck, .int .i64 ep, .int .i64 un, .int .i64 se, .int .i64 ki, .int .i64 ak]] W fun e w' => e = .returned (.tuple #[GE.val (askG ⟨ck, ep, un, se, ki, ak⟩).1, .int .i64 (askG ⟨ck, ep, un, se, ki, ak⟩).2.1, .int .i64 (askG ⟨ck, ep, un, se, ki, ak⟩).2.2.1, .int .i64 (askG ⟨ck, ep, un, se, ki, ak⟩).2.2.2]) ∧ Below W.heap.size W w' := by
  have hok : okG ⟨c, x, u, s, k, a⟩ := by rw [← hs]; exact snd_ok _
  have HOK := hide hok
  have hm : mayG ⟨c, x, u, s, k, a⟩ = false := decide_eq_false (fun q => q.elim hk hg)
  have HQ : Hid (askG ⟨ck, ep, un, se, ki, ak⟩ = (⟨c, x, u, s, k, a⟩, 0, 0, 140)) := hide (by unfold askG; rw [hs]; exact if_pos hm)
  have e1 : IntKind.i64.wrap (c - a) = c - a := by unfold okG at hok; simp only at hok; rw [IntKind.wrap_i64]; omega
  have d1 : (k != 0) = true := ne_neG hk
  have d1e : (k == 0) = false := ne_eqL hk
  have d2 : decide (c - a < 4) = true := decide_eq_true (by omega)
  have HS := hide hs
  clear hs hok hm hk hg
  obtain ⟨V0, hV0⟩ : ∃ V0, V0 = W.alloc (.cells #[.int .i64 ck, .int .i64 ep, .int .i64 un, .int .i64 se, .int .i64 ki, .int .i64 ak] 23 (0, 0)) := ⟨_, rfl⟩
  obtain ⟨V, hV⟩ : ∃ V, V = V0.alloc (.cells #[.int .i64 0, .int .i64 0, .int .i64 0, .int .i64 0, .int .i64 0, .int .i64 0] 23 (0, 0)) := ⟨_, rfl⟩
  have bV0 : Below W.heap.size W V0 := by rw [hV0]; exact alloc_below _ _
  have bV1 : Below V0.heap.size V0 V := by rw [hV]; exact alloc_below _ _
  have v0 : V0.heap[W.heap.size]? = some (.cells #[.int .i64 ck, .int .i64 ep, .int .i64 un, .int .i64 se, .int .i64 ki, .int .i64 ak] 23 (0, 0)) := by rw [hV0]; exact heap_alloc_new W _
  have v1 : V.heap[V0.heap.size]? = some (.cells #[.int .i64 0, .int .i64 0, .int .i64 0, .int .i64 0, .int .i64 0, .int .i64 0] 23 (0, 0)) := by rw [hV]; exact heap_alloc_new V0 _
  have v2 := below_box bV1 v0
  have hlt := box_lt v0
  have hs0 : V0.heap.size = W.heap.size + 1 := by rw [hV0]; simp
  obtain ⟨bB, hbB⟩ : ∃ bB, W.heap.size = bB := ⟨_, rfl⟩
  obtain ⟨rB, hrB⟩ : ∃ rB, V0.heap.size = rB := ⟨_, rfl⟩
  have hrb : bB + 1 = rB := by omega
  rw [hbB, hrB] at hlt
  rw [hbB] at v2
  rw [hrB] at v1
  have HBW0 : Hid (Below bB W V) := hide (by rw [← hbB]; exact below_next bV0 bV1 bV0.size)
  have HBX0 := hide v2
  have HRS0 := hide v1
  have HBB := hide hbB
  have HLT := hide hlt
  have HSZ0 := hide (box_lt v1)
  clear v0 v1 v2 bV0 bV1
  go_enter Try.func29, Try.ntmps29
  go_upto_region 1 with fail
  try rw [hbB]
  try rw [hrb]
  rw [← hV0, ← hV]
  try rw [hrB]
  clear hV0 hV hbB hrB hs0 hrb hlt
  obtain ⟨_, _, _, _, _, _, u0, u1, u2, u3, u4, u5⟩ := six HBX0.out
  go_wp2_with fail
  refine (may_any).mono ?_
  rw [HS.out]
  simp only [GE.val, GE.row]
  rintro _ w1 ⟨rfl, b1⟩
  have HBX1 := hide (below_box b1 HBX0.out)
  have HRS1 := hide (below_box b1 HRS0.out)
  have HBW1 := hide (below_next HBW0.out b1 (by have := HLT.out; have := HSZ0.out; omega))
  have HSZ1 := hide (box_lt HRS1.out)
  clear b1 HBX0 HRS0 HBW0 HSZ0 u0 u1 u2 u3 u4 u5
  obtain ⟨_, _, _, _, _, _, u0, u1, u2, u3, u4, u5⟩ := six HBX1.out
  go_upto_region 2 with fail
  obtain ⟨X, hX⟩ : ∃ X, X = ((((((w1.setCell ⟨bB, 0, none⟩ (.int .i64 c)).setCell ⟨bB, 1, none⟩ (.int .i64 x)).setCell ⟨bB, 2, none⟩ (.int .i64 u)).setCell ⟨bB, 3, none⟩ (.int .i64 s)).setCell ⟨bB, 4, none⟩ (.int .i64 k)).setCell ⟨bB, 5, none⟩ (.int .i64 a)) := ⟨_, rfl⟩
  have oX : Only (· = bB) w1 X := by rw [hX]; exact ((((((Only.set (F := (· = bB)) _ bB 0 (.int .i64 c) rfl).trans (Only.set (F := (· = bB)) _ bB 1 (.int .i64 x) rfl)).trans (Only.set (F := (· = bB)) _ bB 2 (.int .i64 u) rfl)).trans (Only.set (F := (· = bB)) _ bB 3 (.int .i64 s) rfl)).trans (Only.set (F := (· = bB)) _ bB 4 (.int .i64 k) rfl)).trans (Only.set (F := (· = bB)) _ bB 5 (.int .i64 a) rfl))
  have HBX2 : Hid (X.heap[bB]? = some (.cells #[.int .i64 c, .int .i64 x, .int .i64 u, .int .i64 s, .int .i64 k, .int .i64 a] 23 (0, 0))) := hide (by rw [hX]; exact (heap_set_sameL (heap_set_sameL (heap_set_sameL (heap_set_sameL (heap_set_sameL (heap_set_sameL HBX1.out 0 (.int .i64 c)) 1 (.int .i64 x)) 2 (.int .i64 u)) 3 (.int .i64 s)) 4 (.int .i64 k)) 5 (.int .i64 a)))
  have HRS2 := hide (oX.obj HRS1.out (fun e => by have e' : rB = bB := e; have := HLT.out; omega))
  have HBW2 := hide (HBW1.out.trans (oX.below (by have := HLT.out; have := HSZ1.out; omega) (fun i e => by have e' : i = bB := e; omega)))
  have HSZ2 := hide (box_lt HRS2.out)
  rw [← hX]
  clear hX oX HBX1 HRS1 HBW1 HSZ1 u0 u1 u2 u3 u4 u5
  obtain ⟨_, _, _, _, _, _, u0, u1, u2, u3, u4, u5⟩ := six HBX2.out
  obtain ⟨f0, f1, f2, f3, f4, f5, r0, r1, r2, r3, r4, r5⟩ := six HRS2.out
  go_wp2
  have hE := heap_set6 HRS2.out (.int .i64 c) (.int .i64 x) (.int .i64 u) (.int .i64 s) (.int .i64 k) (.int .i64 a)
  refine bodyPost_ret (results_cell_four rfl _ _ rB 23 _ _ _ rfl hE Try.underlying23 rfl (by kernel_rfl)) rfl ?_
  refine ⟨by rw [HQ.out]; rfl, ?_⟩
  rw [HBB.out]
  exact HBW2.out.trans ((only_set6 _ rB _ _ _ _ _ _).below (by have := HLT.out; have := HSZ2.out; omega) (fun i e => by have e' : i = rB := e; have := HLT.out; omega))

set_option maxRecDepth 100000 in
set_option maxHeartbeats 2000000 in
theorem rask_kf {W : World} {ck ep un se ki ak : Int} {c x u s k a : Int} (hs : sndG ⟨ck, ep, un, se, ki, ak⟩ = ⟨c, x, u, s, k, a⟩) (hk : k = 0) (hf : s = 9007199254740992) :
    Calls Try.prog 29 #[.agg #[.int .i64 ck, .int .i64 ep, .int .i64 un, .int .i64 se, .int .i64 ki, .int .i64 ak]] W fun e w' => e = .returned (.tuple #[GE.val (askG ⟨ck, ep, un, se, ki, ak⟩).1, .int .i64 (askG ⟨ck, ep, un, se, ki, ak⟩).2.1, .int .i64 (askG ⟨ck, ep, un, se, ki, ak⟩).2.2.1, .int .i64 (askG ⟨ck, ep, un, se, ki, ak⟩).2.2.2]) ∧ Below W.heap.size W w' := by
  have hok : okG ⟨c, x, u, s, k, a⟩ := by rw [← hs]; exact snd_ok _
  have HOK := hide hok
  have hm : mayG ⟨c, x, u, s, k, a⟩ = true := decide_eq_true (.inl hk)
  have HQ : Hid (askG ⟨ck, ep, un, se, ki, ak⟩ = (⟨c, x, u, s, k, a⟩, 0, 0, 6)) := hide (by unfold askG; rw [hs]; exact (if_neg (by rw [hm]; simp)).trans (if_pos hf))
  have d1 : (k != 0) = false := by simp [hk]
  have d1e : (k == 0) = true := by simpa using hk
  have d4 : (s == 9007199254740992) = true := by simpa using hf
  have HS := hide hs
  clear hs hok hm hk hf
  obtain ⟨V0, hV0⟩ : ∃ V0, V0 = W.alloc (.cells #[.int .i64 ck, .int .i64 ep, .int .i64 un, .int .i64 se, .int .i64 ki, .int .i64 ak] 23 (0, 0)) := ⟨_, rfl⟩
  obtain ⟨V, hV⟩ : ∃ V, V = V0.alloc (.cells #[.int .i64 0, .int .i64 0, .int .i64 0, .int .i64 0, .int .i64 0, .int .i64 0] 23 (0, 0)) := ⟨_, rfl⟩
  have bV0 : Below W.heap.size W V0 := by rw [hV0]; exact alloc_below _ _
  have bV1 : Below V0.heap.size V0 V := by rw [hV]; exact alloc_below _ _
  have v0 : V0.heap[W.heap.size]? = some (.cells #[.int .i64 ck, .int .i64 ep, .int .i64 un, .int .i64 se, .int .i64 ki, .int .i64 ak] 23 (0, 0)) := by rw [hV0]; exact heap_alloc_new W _
  have v1 : V.heap[V0.heap.size]? = some (.cells #[.int .i64 0, .int .i64 0, .int .i64 0, .int .i64 0, .int .i64 0, .int .i64 0] 23 (0, 0)) := by rw [hV]; exact heap_alloc_new V0 _
  have v2 := below_box bV1 v0
  have hlt := box_lt v0
  have hs0 : V0.heap.size = W.heap.size + 1 := by rw [hV0]; simp
  obtain ⟨bB, hbB⟩ : ∃ bB, W.heap.size = bB := ⟨_, rfl⟩
  obtain ⟨rB, hrB⟩ : ∃ rB, V0.heap.size = rB := ⟨_, rfl⟩
  have hrb : bB + 1 = rB := by omega
  rw [hbB, hrB] at hlt
  rw [hbB] at v2
  rw [hrB] at v1
  have HBW0 : Hid (Below bB W V) := hide (by rw [← hbB]; exact below_next bV0 bV1 bV0.size)
  have HBX0 := hide v2
  have HRS0 := hide v1
  have HBB := hide hbB
  have HLT := hide hlt
  have HSZ0 := hide (box_lt v1)
  clear v0 v1 v2 bV0 bV1
  go_enter Try.func29, Try.ntmps29
  go_upto_region 1 with fail
  try rw [hbB]
  try rw [hrb]
  rw [← hV0, ← hV]
  try rw [hrB]
  clear hV0 hV hbB hrB hs0 hrb hlt
  obtain ⟨_, _, _, _, _, _, u0, u1, u2, u3, u4, u5⟩ := six HBX0.out
  go_wp2_with fail
  refine (may_any).mono ?_
  rw [HS.out]
  simp only [GE.val, GE.row]
  rintro _ w1 ⟨rfl, b1⟩
  have HBX1 := hide (below_box b1 HBX0.out)
  have HRS1 := hide (below_box b1 HRS0.out)
  have HBW1 := hide (below_next HBW0.out b1 (by have := HLT.out; have := HSZ0.out; omega))
  have HSZ1 := hide (box_lt HRS1.out)
  clear b1 HBX0 HRS0 HBW0 HSZ0 u0 u1 u2 u3 u4 u5
  obtain ⟨_, _, _, _, _, _, u0, u1, u2, u3, u4, u5⟩ := six HBX1.out
  go_upto_region 2 with fail
  obtain ⟨X, hX⟩ : ∃ X, X = ((((((w1.setCell ⟨bB, 0, none⟩ (.int .i64 c)).setCell ⟨bB, 1, none⟩ (.int .i64 x)).setCell ⟨bB, 2, none⟩ (.int .i64 u)).setCell ⟨bB, 3, none⟩ (.int .i64 s)).setCell ⟨bB, 4, none⟩ (.int .i64 k)).setCell ⟨bB, 5, none⟩ (.int .i64 a)) := ⟨_, rfl⟩
  have oX : Only (· = bB) w1 X := by rw [hX]; exact ((((((Only.set (F := (· = bB)) _ bB 0 (.int .i64 c) rfl).trans (Only.set (F := (· = bB)) _ bB 1 (.int .i64 x) rfl)).trans (Only.set (F := (· = bB)) _ bB 2 (.int .i64 u) rfl)).trans (Only.set (F := (· = bB)) _ bB 3 (.int .i64 s) rfl)).trans (Only.set (F := (· = bB)) _ bB 4 (.int .i64 k) rfl)).trans (Only.set (F := (· = bB)) _ bB 5 (.int .i64 a) rfl))
  have HBX2 : Hid (X.heap[bB]? = some (.cells #[.int .i64 c, .int .i64 x, .int .i64 u, .int .i64 s, .int .i64 k, .int .i64 a] 23 (0, 0))) := hide (by rw [hX]; exact (heap_set_sameL (heap_set_sameL (heap_set_sameL (heap_set_sameL (heap_set_sameL (heap_set_sameL HBX1.out 0 (.int .i64 c)) 1 (.int .i64 x)) 2 (.int .i64 u)) 3 (.int .i64 s)) 4 (.int .i64 k)) 5 (.int .i64 a)))
  have HRS2 := hide (oX.obj HRS1.out (fun e => by have e' : rB = bB := e; have := HLT.out; omega))
  have HBW2 := hide (HBW1.out.trans (oX.below (by have := HLT.out; have := HSZ1.out; omega) (fun i e => by have e' : i = bB := e; omega)))
  have HSZ2 := hide (box_lt HRS2.out)
  rw [← hX]
  clear hX oX HBX1 HRS1 HBW1 HSZ1 u0 u1 u2 u3 u4 u5
  obtain ⟨_, _, _, _, _, _, u0, u1, u2, u3, u4, u5⟩ := six HBX2.out
  obtain ⟨f0, f1, f2, f3, f4, f5, r0, r1, r2, r3, r4, r5⟩ := six HRS2.out
  go_wp2
  have hE := heap_set6 HRS2.out (.int .i64 c) (.int .i64 x) (.int .i64 u) (.int .i64 s) (.int .i64 k) (.int .i64 a)
  refine bodyPost_ret (results_cell_four rfl _ _ rB 23 _ _ _ rfl hE Try.underlying23 rfl (by kernel_rfl)) rfl ?_
  refine ⟨by rw [HQ.out]; rfl, ?_⟩
  rw [HBB.out]
  exact HBW2.out.trans ((only_set6 _ rB _ _ _ _ _ _).below (by have := HLT.out; have := HSZ2.out; omega) (fun i e => by have e' : i = rB := e; have := HLT.out; omega))

set_option maxRecDepth 100000 in
set_option maxHeartbeats 2000000 in
theorem rask_ka {W : World} {ck ep un se ki ak : Int} {c x u s k a : Int} (hs : sndG ⟨ck, ep, un, se, ki, ak⟩ = ⟨c, x, u, s, k, a⟩) (hk : k = 0) (hf : s ≠ 9007199254740992) (hx : x = 0) :
    Calls Try.prog 29 #[.agg #[.int .i64 ck, .int .i64 ep, .int .i64 un, .int .i64 se, .int .i64 ki, .int .i64 ak]] W fun e w' => e = .returned (.tuple #[GE.val (askG ⟨ck, ep, un, se, ki, ak⟩).1, .int .i64 (askG ⟨ck, ep, un, se, ki, ak⟩).2.1, .int .i64 (askG ⟨ck, ep, un, se, ki, ak⟩).2.2.1, .int .i64 (askG ⟨ck, ep, un, se, ki, ak⟩).2.2.2]) ∧ Below W.heap.size W w' := by
  have hok : okG ⟨c, x, u, s, k, a⟩ := by rw [← hs]; exact snd_ok _
  have HOK := hide hok
  have hm : mayG ⟨c, x, u, s, k, a⟩ = true := decide_eq_true (.inl hk)
  obtain ⟨s1, hs1⟩ : ∃ s1, s + 1 = s1 := ⟨_, rfl⟩
  have e2 : IntKind.i64.wrap (s + 1) = s1 := by rw [← hs1]; unfold okG at hok; simp only at hok; rw [IntKind.wrap_i64]; omega
  have HQ : Hid (askG ⟨ck, ep, un, se, ki, ak⟩ = (⟨c, x, u, s1, 1, c⟩, s1, 1, 0)) := hide (by unfold askG; rw [hs]; unfold askS; rw [if_neg (by rw [hm]; simp), if_neg hf]; simp only [hs1]; rw [if_pos hx])
  have d1 : (k != 0) = false := by simp [hk]
  have d1e : (k == 0) = true := by simpa using hk
  have d4 : (s == 9007199254740992) = false := ne_eqL hf
  have d5 : (x == 0) = true := by simpa using hx
  have HS := hide hs
  clear hs hok hm hk hf hs1 hx
  obtain ⟨V0, hV0⟩ : ∃ V0, V0 = W.alloc (.cells #[.int .i64 ck, .int .i64 ep, .int .i64 un, .int .i64 se, .int .i64 ki, .int .i64 ak] 23 (0, 0)) := ⟨_, rfl⟩
  obtain ⟨V, hV⟩ : ∃ V, V = V0.alloc (.cells #[.int .i64 0, .int .i64 0, .int .i64 0, .int .i64 0, .int .i64 0, .int .i64 0] 23 (0, 0)) := ⟨_, rfl⟩
  have bV0 : Below W.heap.size W V0 := by rw [hV0]; exact alloc_below _ _
  have bV1 : Below V0.heap.size V0 V := by rw [hV]; exact alloc_below _ _
  have v0 : V0.heap[W.heap.size]? = some (.cells #[.int .i64 ck, .int .i64 ep, .int .i64 un, .int .i64 se, .int .i64 ki, .int .i64 ak] 23 (0, 0)) := by rw [hV0]; exact heap_alloc_new W _
  have v1 : V.heap[V0.heap.size]? = some (.cells #[.int .i64 0, .int .i64 0, .int .i64 0, .int .i64 0, .int .i64 0, .int .i64 0] 23 (0, 0)) := by rw [hV]; exact heap_alloc_new V0 _
  have v2 := below_box bV1 v0
  have hlt := box_lt v0
  have hs0 : V0.heap.size = W.heap.size + 1 := by rw [hV0]; simp
  obtain ⟨bB, hbB⟩ : ∃ bB, W.heap.size = bB := ⟨_, rfl⟩
  obtain ⟨rB, hrB⟩ : ∃ rB, V0.heap.size = rB := ⟨_, rfl⟩
  have hrb : bB + 1 = rB := by omega
  rw [hbB, hrB] at hlt
  rw [hbB] at v2
  rw [hrB] at v1
  have HBW0 : Hid (Below bB W V) := hide (by rw [← hbB]; exact below_next bV0 bV1 bV0.size)
  have HBX0 := hide v2
  have HRS0 := hide v1
  have HBB := hide hbB
  have HLT := hide hlt
  have HSZ0 := hide (box_lt v1)
  clear v0 v1 v2 bV0 bV1
  go_enter Try.func29, Try.ntmps29
  go_upto_region 1 with fail
  try rw [hbB]
  try rw [hrb]
  rw [← hV0, ← hV]
  try rw [hrB]
  clear hV0 hV hbB hrB hs0 hrb hlt
  obtain ⟨_, _, _, _, _, _, u0, u1, u2, u3, u4, u5⟩ := six HBX0.out
  go_wp2_with fail
  refine (may_any).mono ?_
  rw [HS.out]
  simp only [GE.val, GE.row]
  rintro _ w1 ⟨rfl, b1⟩
  have HBX1 := hide (below_box b1 HBX0.out)
  have HRS1 := hide (below_box b1 HRS0.out)
  have HBW1 := hide (below_next HBW0.out b1 (by have := HLT.out; have := HSZ0.out; omega))
  have HSZ1 := hide (box_lt HRS1.out)
  clear b1 HBX0 HRS0 HBW0 HSZ0 u0 u1 u2 u3 u4 u5
  obtain ⟨_, _, _, _, _, _, u0, u1, u2, u3, u4, u5⟩ := six HBX1.out
  go_upto_region 2 with fail
  obtain ⟨X, hX⟩ : ∃ X, X = ((((((w1.setCell ⟨bB, 0, none⟩ (.int .i64 c)).setCell ⟨bB, 1, none⟩ (.int .i64 x)).setCell ⟨bB, 2, none⟩ (.int .i64 u)).setCell ⟨bB, 3, none⟩ (.int .i64 s)).setCell ⟨bB, 4, none⟩ (.int .i64 k)).setCell ⟨bB, 5, none⟩ (.int .i64 a)) := ⟨_, rfl⟩
  have oX : Only (· = bB) w1 X := by rw [hX]; exact ((((((Only.set (F := (· = bB)) _ bB 0 (.int .i64 c) rfl).trans (Only.set (F := (· = bB)) _ bB 1 (.int .i64 x) rfl)).trans (Only.set (F := (· = bB)) _ bB 2 (.int .i64 u) rfl)).trans (Only.set (F := (· = bB)) _ bB 3 (.int .i64 s) rfl)).trans (Only.set (F := (· = bB)) _ bB 4 (.int .i64 k) rfl)).trans (Only.set (F := (· = bB)) _ bB 5 (.int .i64 a) rfl))
  have HBX2 : Hid (X.heap[bB]? = some (.cells #[.int .i64 c, .int .i64 x, .int .i64 u, .int .i64 s, .int .i64 k, .int .i64 a] 23 (0, 0))) := hide (by rw [hX]; exact (heap_set_sameL (heap_set_sameL (heap_set_sameL (heap_set_sameL (heap_set_sameL (heap_set_sameL HBX1.out 0 (.int .i64 c)) 1 (.int .i64 x)) 2 (.int .i64 u)) 3 (.int .i64 s)) 4 (.int .i64 k)) 5 (.int .i64 a)))
  have HRS2 := hide (oX.obj HRS1.out (fun e => by have e' : rB = bB := e; have := HLT.out; omega))
  have HBW2 := hide (HBW1.out.trans (oX.below (by have := HLT.out; have := HSZ1.out; omega) (fun i e => by have e' : i = bB := e; omega)))
  have HSZ2 := hide (box_lt HRS2.out)
  rw [← hX]
  clear hX oX HBX1 HRS1 HBW1 HSZ1 u0 u1 u2 u3 u4 u5
  obtain ⟨_, _, _, _, _, _, u0, u1, u2, u3, u4, u5⟩ := six HBX2.out
  go_upto_region 11 with fail
  obtain ⟨Y, hY⟩ : ∃ Y, Y = ((((X.setCell ⟨bB, 3, none⟩ (.int .i64 s1)).setCell ⟨bB, 5, none⟩ (.int .i64 c)).setCell ⟨bB, 4, none⟩ (.int .i64 2)).setCell ⟨bB, 4, none⟩ (.int .i64 1)) := ⟨_, rfl⟩
  have oY : Only (· = bB) X Y := by rw [hY]; exact ((((Only.set (F := (· = bB)) _ bB 3 (.int .i64 s1) rfl).trans (Only.set (F := (· = bB)) _ bB 5 (.int .i64 c) rfl)).trans (Only.set (F := (· = bB)) _ bB 4 (.int .i64 2) rfl)).trans (Only.set (F := (· = bB)) _ bB 4 (.int .i64 1) rfl))
  have HBX4 : Hid (Y.heap[bB]? = some (.cells #[.int .i64 c, .int .i64 x, .int .i64 u, .int .i64 s1, .int .i64 1, .int .i64 c] 23 (0, 0))) := hide (by rw [hY]; exact (heap_set_sameL (heap_set_sameL (heap_set_sameL (heap_set_sameL HBX2.out 3 (.int .i64 s1)) 5 (.int .i64 c)) 4 (.int .i64 2)) 4 (.int .i64 1)))
  have HRS4 := hide (oY.obj HRS2.out (fun e => by have e' : rB = bB := e; have := HLT.out; omega))
  have HBW4 := hide (HBW2.out.trans (oY.below (by have := HLT.out; have := HSZ2.out; omega) (fun i e => by have e' : i = bB := e; omega)))
  have HSZ4 := hide (box_lt HRS4.out)
  rw [← hY]
  clear hY oY HBX2 HRS2 HBW2 HSZ2 u0 u1 u2 u3 u4 u5
  obtain ⟨_, _, _, _, _, _, u0, u1, u2, u3, u4, u5⟩ := six HBX4.out
  obtain ⟨f0, f1, f2, f3, f4, f5, r0, r1, r2, r3, r4, r5⟩ := six HRS4.out
  have hne1 : rB ≠ bB := by have := HLT.out; omega
  have hne2 : bB ≠ rB := by have := HLT.out; omega
  go_region_held3 (fun w' => w'.cell? ⟨bB, 0, none⟩ = some (.int .i64 c) ∧ w'.cell? ⟨bB, 1, none⟩ = some (.int .i64 x) ∧ w'.cell? ⟨bB, 2, none⟩ = some (.int .i64 u) ∧ w'.cell? ⟨bB, 3, none⟩ = some (.int .i64 s1) ∧ w'.cell? ⟨bB, 4, none⟩ = some (.int .i64 1) ∧ w'.cell? ⟨bB, 5, none⟩ = some (.int .i64 c)) (go_keep) (fail)
  go_wp2
  have hE := drew1_heap (heap_set6 HRS4.out (.int .i64 c) (.int .i64 x) (.int .i64 u) (.int .i64 s1) (.int .i64 1) (.int .i64 c))
  refine bodyPost_ret (results_cell_four rfl _ _ rB 23 _ _ _ rfl hE Try.underlying23 rfl (by kernel_rfl)) rfl ?_
  refine ⟨by rw [HQ.out]; rfl, ?_⟩
  rw [HBB.out]
  exact below_drew1 (HBW4.out.trans ((only_set6 _ rB _ _ _ _ _ _).below (by have := HLT.out; have := HSZ4.out; omega) (fun i e => by have e' : i = rB := e; have := HLT.out; omega)))

set_option maxRecDepth 100000 in
set_option maxHeartbeats 2000000 in
theorem rask_kr {W : World} {ck ep un se ki ak : Int} {c x u s k a : Int} (hs : sndG ⟨ck, ep, un, se, ki, ak⟩ = ⟨c, x, u, s, k, a⟩) (hk : k = 0) (hf : s ≠ 9007199254740992) (hx : x ≠ 0) :
    Calls Try.prog 29 #[.agg #[.int .i64 ck, .int .i64 ep, .int .i64 un, .int .i64 se, .int .i64 ki, .int .i64 ak]] W fun e w' => e = .returned (.tuple #[GE.val (askG ⟨ck, ep, un, se, ki, ak⟩).1, .int .i64 (askG ⟨ck, ep, un, se, ki, ak⟩).2.1, .int .i64 (askG ⟨ck, ep, un, se, ki, ak⟩).2.2.1, .int .i64 (askG ⟨ck, ep, un, se, ki, ak⟩).2.2.2]) ∧ Below W.heap.size W w' := by
  have hok : okG ⟨c, x, u, s, k, a⟩ := by rw [← hs]; exact snd_ok _
  have HOK := hide hok
  have hm : mayG ⟨c, x, u, s, k, a⟩ = true := decide_eq_true (.inl hk)
  obtain ⟨s1, hs1⟩ : ∃ s1, s + 1 = s1 := ⟨_, rfl⟩
  have e2 : IntKind.i64.wrap (s + 1) = s1 := by rw [← hs1]; unfold okG at hok; simp only at hok; rw [IntKind.wrap_i64]; omega
  have HQ : Hid (askG ⟨ck, ep, un, se, ki, ak⟩ = (⟨c, x, u, s1, 2, c⟩, s1, 2, 0)) := hide (by unfold askG; rw [hs]; unfold askS; rw [if_neg (by rw [hm]; simp), if_neg hf]; simp only [hs1]; rw [if_neg hx])
  have d1 : (k != 0) = false := by simp [hk]
  have d1e : (k == 0) = true := by simpa using hk
  have d4 : (s == 9007199254740992) = false := ne_eqL hf
  have d5 : (x == 0) = false := ne_eqL hx
  have HS := hide hs
  clear hs hok hm hk hf hs1 hx
  obtain ⟨V0, hV0⟩ : ∃ V0, V0 = W.alloc (.cells #[.int .i64 ck, .int .i64 ep, .int .i64 un, .int .i64 se, .int .i64 ki, .int .i64 ak] 23 (0, 0)) := ⟨_, rfl⟩
  obtain ⟨V, hV⟩ : ∃ V, V = V0.alloc (.cells #[.int .i64 0, .int .i64 0, .int .i64 0, .int .i64 0, .int .i64 0, .int .i64 0] 23 (0, 0)) := ⟨_, rfl⟩
  have bV0 : Below W.heap.size W V0 := by rw [hV0]; exact alloc_below _ _
  have bV1 : Below V0.heap.size V0 V := by rw [hV]; exact alloc_below _ _
  have v0 : V0.heap[W.heap.size]? = some (.cells #[.int .i64 ck, .int .i64 ep, .int .i64 un, .int .i64 se, .int .i64 ki, .int .i64 ak] 23 (0, 0)) := by rw [hV0]; exact heap_alloc_new W _
  have v1 : V.heap[V0.heap.size]? = some (.cells #[.int .i64 0, .int .i64 0, .int .i64 0, .int .i64 0, .int .i64 0, .int .i64 0] 23 (0, 0)) := by rw [hV]; exact heap_alloc_new V0 _
  have v2 := below_box bV1 v0
  have hlt := box_lt v0
  have hs0 : V0.heap.size = W.heap.size + 1 := by rw [hV0]; simp
  obtain ⟨bB, hbB⟩ : ∃ bB, W.heap.size = bB := ⟨_, rfl⟩
  obtain ⟨rB, hrB⟩ : ∃ rB, V0.heap.size = rB := ⟨_, rfl⟩
  have hrb : bB + 1 = rB := by omega
  rw [hbB, hrB] at hlt
  rw [hbB] at v2
  rw [hrB] at v1
  have HBW0 : Hid (Below bB W V) := hide (by rw [← hbB]; exact below_next bV0 bV1 bV0.size)
  have HBX0 := hide v2
  have HRS0 := hide v1
  have HBB := hide hbB
  have HLT := hide hlt
  have HSZ0 := hide (box_lt v1)
  clear v0 v1 v2 bV0 bV1
  go_enter Try.func29, Try.ntmps29
  go_upto_region 1 with fail
  try rw [hbB]
  try rw [hrb]
  rw [← hV0, ← hV]
  try rw [hrB]
  clear hV0 hV hbB hrB hs0 hrb hlt
  obtain ⟨_, _, _, _, _, _, u0, u1, u2, u3, u4, u5⟩ := six HBX0.out
  go_wp2_with fail
  refine (may_any).mono ?_
  rw [HS.out]
  simp only [GE.val, GE.row]
  rintro _ w1 ⟨rfl, b1⟩
  have HBX1 := hide (below_box b1 HBX0.out)
  have HRS1 := hide (below_box b1 HRS0.out)
  have HBW1 := hide (below_next HBW0.out b1 (by have := HLT.out; have := HSZ0.out; omega))
  have HSZ1 := hide (box_lt HRS1.out)
  clear b1 HBX0 HRS0 HBW0 HSZ0 u0 u1 u2 u3 u4 u5
  obtain ⟨_, _, _, _, _, _, u0, u1, u2, u3, u4, u5⟩ := six HBX1.out
  go_upto_region 2 with fail
  obtain ⟨X, hX⟩ : ∃ X, X = ((((((w1.setCell ⟨bB, 0, none⟩ (.int .i64 c)).setCell ⟨bB, 1, none⟩ (.int .i64 x)).setCell ⟨bB, 2, none⟩ (.int .i64 u)).setCell ⟨bB, 3, none⟩ (.int .i64 s)).setCell ⟨bB, 4, none⟩ (.int .i64 k)).setCell ⟨bB, 5, none⟩ (.int .i64 a)) := ⟨_, rfl⟩
  have oX : Only (· = bB) w1 X := by rw [hX]; exact ((((((Only.set (F := (· = bB)) _ bB 0 (.int .i64 c) rfl).trans (Only.set (F := (· = bB)) _ bB 1 (.int .i64 x) rfl)).trans (Only.set (F := (· = bB)) _ bB 2 (.int .i64 u) rfl)).trans (Only.set (F := (· = bB)) _ bB 3 (.int .i64 s) rfl)).trans (Only.set (F := (· = bB)) _ bB 4 (.int .i64 k) rfl)).trans (Only.set (F := (· = bB)) _ bB 5 (.int .i64 a) rfl))
  have HBX2 : Hid (X.heap[bB]? = some (.cells #[.int .i64 c, .int .i64 x, .int .i64 u, .int .i64 s, .int .i64 k, .int .i64 a] 23 (0, 0))) := hide (by rw [hX]; exact (heap_set_sameL (heap_set_sameL (heap_set_sameL (heap_set_sameL (heap_set_sameL (heap_set_sameL HBX1.out 0 (.int .i64 c)) 1 (.int .i64 x)) 2 (.int .i64 u)) 3 (.int .i64 s)) 4 (.int .i64 k)) 5 (.int .i64 a)))
  have HRS2 := hide (oX.obj HRS1.out (fun e => by have e' : rB = bB := e; have := HLT.out; omega))
  have HBW2 := hide (HBW1.out.trans (oX.below (by have := HLT.out; have := HSZ1.out; omega) (fun i e => by have e' : i = bB := e; omega)))
  have HSZ2 := hide (box_lt HRS2.out)
  rw [← hX]
  clear hX oX HBX1 HRS1 HBW1 HSZ1 u0 u1 u2 u3 u4 u5
  obtain ⟨_, _, _, _, _, _, u0, u1, u2, u3, u4, u5⟩ := six HBX2.out
  go_upto_region 11 with fail
  obtain ⟨Y, hY⟩ : ∃ Y, Y = (((X.setCell ⟨bB, 3, none⟩ (.int .i64 s1)).setCell ⟨bB, 5, none⟩ (.int .i64 c)).setCell ⟨bB, 4, none⟩ (.int .i64 2)) := ⟨_, rfl⟩
  have oY : Only (· = bB) X Y := by rw [hY]; exact (((Only.set (F := (· = bB)) _ bB 3 (.int .i64 s1) rfl).trans (Only.set (F := (· = bB)) _ bB 5 (.int .i64 c) rfl)).trans (Only.set (F := (· = bB)) _ bB 4 (.int .i64 2) rfl))
  have HBX4 : Hid (Y.heap[bB]? = some (.cells #[.int .i64 c, .int .i64 x, .int .i64 u, .int .i64 s1, .int .i64 2, .int .i64 c] 23 (0, 0))) := hide (by rw [hY]; exact (heap_set_sameL (heap_set_sameL (heap_set_sameL HBX2.out 3 (.int .i64 s1)) 5 (.int .i64 c)) 4 (.int .i64 2)))
  have HRS4 := hide (oY.obj HRS2.out (fun e => by have e' : rB = bB := e; have := HLT.out; omega))
  have HBW4 := hide (HBW2.out.trans (oY.below (by have := HLT.out; have := HSZ2.out; omega) (fun i e => by have e' : i = bB := e; omega)))
  have HSZ4 := hide (box_lt HRS4.out)
  rw [← hY]
  clear hY oY HBX2 HRS2 HBW2 HSZ2 u0 u1 u2 u3 u4 u5
  obtain ⟨_, _, _, _, _, _, u0, u1, u2, u3, u4, u5⟩ := six HBX4.out
  obtain ⟨f0, f1, f2, f3, f4, f5, r0, r1, r2, r3, r4, r5⟩ := six HRS4.out
  have hne1 : rB ≠ bB := by have := HLT.out; omega
  have hne2 : bB ≠ rB := by have := HLT.out; omega
  go_region_held3 (fun w' => w'.cell? ⟨bB, 0, none⟩ = some (.int .i64 c) ∧ w'.cell? ⟨bB, 1, none⟩ = some (.int .i64 x) ∧ w'.cell? ⟨bB, 2, none⟩ = some (.int .i64 u) ∧ w'.cell? ⟨bB, 3, none⟩ = some (.int .i64 s1) ∧ w'.cell? ⟨bB, 4, none⟩ = some (.int .i64 2) ∧ w'.cell? ⟨bB, 5, none⟩ = some (.int .i64 c)) (go_keep) (fail)
  go_wp2
  have hE := drew1_heap (heap_set6 HRS4.out (.int .i64 c) (.int .i64 x) (.int .i64 u) (.int .i64 s1) (.int .i64 2) (.int .i64 c))
  refine bodyPost_ret (results_cell_four rfl _ _ rB 23 _ _ _ rfl hE Try.underlying23 rfl (by kernel_rfl)) rfl ?_
  refine ⟨by rw [HQ.out]; rfl, ?_⟩
  rw [HBB.out]
  exact below_drew1 (HBW4.out.trans ((only_set6 _ rB _ _ _ _ _ _).below (by have := HLT.out; have := HSZ4.out; omega) (fun i e => by have e' : i = rB := e; have := HLT.out; omega)))

set_option maxRecDepth 100000 in
set_option maxHeartbeats 2000000 in
theorem rask_gf {W : World} {ck ep un se ki ak : Int} {c x u s k a : Int} (hs : sndG ⟨ck, ep, un, se, ki, ak⟩ = ⟨c, x, u, s, k, a⟩) (hk : k ≠ 0) (hg : 4 ≤ c - a) (hf : s = 9007199254740992) :
    Calls Try.prog 29 #[.agg #[.int .i64 ck, .int .i64 ep, .int .i64 un, .int .i64 se, .int .i64 ki, .int .i64 ak]] W fun e w' => e = .returned (.tuple #[GE.val (askG ⟨ck, ep, un, se, ki, ak⟩).1, .int .i64 (askG ⟨ck, ep, un, se, ki, ak⟩).2.1, .int .i64 (askG ⟨ck, ep, un, se, ki, ak⟩).2.2.1, .int .i64 (askG ⟨ck, ep, un, se, ki, ak⟩).2.2.2]) ∧ Below W.heap.size W w' := by
  have hok : okG ⟨c, x, u, s, k, a⟩ := by rw [← hs]; exact snd_ok _
  have HOK := hide hok
  have hm : mayG ⟨c, x, u, s, k, a⟩ = true := decide_eq_true (.inr hg)
  have HQ : Hid (askG ⟨ck, ep, un, se, ki, ak⟩ = (⟨c, x, u, s, k, a⟩, 0, 0, 6)) := hide (by unfold askG; rw [hs]; exact (if_neg (by rw [hm]; simp)).trans (if_pos hf))
  have e1 : IntKind.i64.wrap (c - a) = c - a := by unfold okG at hok; simp only at hok; rw [IntKind.wrap_i64]; omega
  have d1 : (k != 0) = true := ne_neG hk
  have d1e : (k == 0) = false := ne_eqL hk
  have d2 : decide (c - a < 4) = false := decide_eq_false (by omega)
  have d4 : (s == 9007199254740992) = true := by simpa using hf
  have HS := hide hs
  clear hs hok hm hk hg hf
  obtain ⟨V0, hV0⟩ : ∃ V0, V0 = W.alloc (.cells #[.int .i64 ck, .int .i64 ep, .int .i64 un, .int .i64 se, .int .i64 ki, .int .i64 ak] 23 (0, 0)) := ⟨_, rfl⟩
  obtain ⟨V, hV⟩ : ∃ V, V = V0.alloc (.cells #[.int .i64 0, .int .i64 0, .int .i64 0, .int .i64 0, .int .i64 0, .int .i64 0] 23 (0, 0)) := ⟨_, rfl⟩
  have bV0 : Below W.heap.size W V0 := by rw [hV0]; exact alloc_below _ _
  have bV1 : Below V0.heap.size V0 V := by rw [hV]; exact alloc_below _ _
  have v0 : V0.heap[W.heap.size]? = some (.cells #[.int .i64 ck, .int .i64 ep, .int .i64 un, .int .i64 se, .int .i64 ki, .int .i64 ak] 23 (0, 0)) := by rw [hV0]; exact heap_alloc_new W _
  have v1 : V.heap[V0.heap.size]? = some (.cells #[.int .i64 0, .int .i64 0, .int .i64 0, .int .i64 0, .int .i64 0, .int .i64 0] 23 (0, 0)) := by rw [hV]; exact heap_alloc_new V0 _
  have v2 := below_box bV1 v0
  have hlt := box_lt v0
  have hs0 : V0.heap.size = W.heap.size + 1 := by rw [hV0]; simp
  obtain ⟨bB, hbB⟩ : ∃ bB, W.heap.size = bB := ⟨_, rfl⟩
  obtain ⟨rB, hrB⟩ : ∃ rB, V0.heap.size = rB := ⟨_, rfl⟩
  have hrb : bB + 1 = rB := by omega
  rw [hbB, hrB] at hlt
  rw [hbB] at v2
  rw [hrB] at v1
  have HBW0 : Hid (Below bB W V) := hide (by rw [← hbB]; exact below_next bV0 bV1 bV0.size)
  have HBX0 := hide v2
  have HRS0 := hide v1
  have HBB := hide hbB
  have HLT := hide hlt
  have HSZ0 := hide (box_lt v1)
  clear v0 v1 v2 bV0 bV1
  go_enter Try.func29, Try.ntmps29
  go_upto_region 1 with fail
  try rw [hbB]
  try rw [hrb]
  rw [← hV0, ← hV]
  try rw [hrB]
  clear hV0 hV hbB hrB hs0 hrb hlt
  obtain ⟨_, _, _, _, _, _, u0, u1, u2, u3, u4, u5⟩ := six HBX0.out
  go_wp2_with fail
  refine (may_any).mono ?_
  rw [HS.out]
  simp only [GE.val, GE.row]
  rintro _ w1 ⟨rfl, b1⟩
  have HBX1 := hide (below_box b1 HBX0.out)
  have HRS1 := hide (below_box b1 HRS0.out)
  have HBW1 := hide (below_next HBW0.out b1 (by have := HLT.out; have := HSZ0.out; omega))
  have HSZ1 := hide (box_lt HRS1.out)
  clear b1 HBX0 HRS0 HBW0 HSZ0 u0 u1 u2 u3 u4 u5
  obtain ⟨_, _, _, _, _, _, u0, u1, u2, u3, u4, u5⟩ := six HBX1.out
  go_upto_region 2 with fail
  obtain ⟨X, hX⟩ : ∃ X, X = ((((((w1.setCell ⟨bB, 0, none⟩ (.int .i64 c)).setCell ⟨bB, 1, none⟩ (.int .i64 x)).setCell ⟨bB, 2, none⟩ (.int .i64 u)).setCell ⟨bB, 3, none⟩ (.int .i64 s)).setCell ⟨bB, 4, none⟩ (.int .i64 k)).setCell ⟨bB, 5, none⟩ (.int .i64 a)) := ⟨_, rfl⟩
  have oX : Only (· = bB) w1 X := by rw [hX]; exact ((((((Only.set (F := (· = bB)) _ bB 0 (.int .i64 c) rfl).trans (Only.set (F := (· = bB)) _ bB 1 (.int .i64 x) rfl)).trans (Only.set (F := (· = bB)) _ bB 2 (.int .i64 u) rfl)).trans (Only.set (F := (· = bB)) _ bB 3 (.int .i64 s) rfl)).trans (Only.set (F := (· = bB)) _ bB 4 (.int .i64 k) rfl)).trans (Only.set (F := (· = bB)) _ bB 5 (.int .i64 a) rfl))
  have HBX2 : Hid (X.heap[bB]? = some (.cells #[.int .i64 c, .int .i64 x, .int .i64 u, .int .i64 s, .int .i64 k, .int .i64 a] 23 (0, 0))) := hide (by rw [hX]; exact (heap_set_sameL (heap_set_sameL (heap_set_sameL (heap_set_sameL (heap_set_sameL (heap_set_sameL HBX1.out 0 (.int .i64 c)) 1 (.int .i64 x)) 2 (.int .i64 u)) 3 (.int .i64 s)) 4 (.int .i64 k)) 5 (.int .i64 a)))
  have HRS2 := hide (oX.obj HRS1.out (fun e => by have e' : rB = bB := e; have := HLT.out; omega))
  have HBW2 := hide (HBW1.out.trans (oX.below (by have := HLT.out; have := HSZ1.out; omega) (fun i e => by have e' : i = bB := e; omega)))
  have HSZ2 := hide (box_lt HRS2.out)
  rw [← hX]
  clear hX oX HBX1 HRS1 HBW1 HSZ1 u0 u1 u2 u3 u4 u5
  obtain ⟨_, _, _, _, _, _, u0, u1, u2, u3, u4, u5⟩ := six HBX2.out
  obtain ⟨f0, f1, f2, f3, f4, f5, r0, r1, r2, r3, r4, r5⟩ := six HRS2.out
  go_wp2
  have hE := heap_set6 HRS2.out (.int .i64 c) (.int .i64 x) (.int .i64 u) (.int .i64 s) (.int .i64 k) (.int .i64 a)
  refine bodyPost_ret (results_cell_four rfl _ _ rB 23 _ _ _ rfl hE Try.underlying23 rfl (by kernel_rfl)) rfl ?_
  refine ⟨by rw [HQ.out]; rfl, ?_⟩
  rw [HBB.out]
  exact HBW2.out.trans ((only_set6 _ rB _ _ _ _ _ _).below (by have := HLT.out; have := HSZ2.out; omega) (fun i e => by have e' : i = rB := e; have := HLT.out; omega))

set_option maxRecDepth 100000 in
set_option maxHeartbeats 2000000 in
theorem rask_ga {W : World} {ck ep un se ki ak : Int} {c x u s k a : Int} (hs : sndG ⟨ck, ep, un, se, ki, ak⟩ = ⟨c, x, u, s, k, a⟩) (hk : k ≠ 0) (hg : 4 ≤ c - a) (hf : s ≠ 9007199254740992) (hx : x = 0) :
    Calls Try.prog 29 #[.agg #[.int .i64 ck, .int .i64 ep, .int .i64 un, .int .i64 se, .int .i64 ki, .int .i64 ak]] W fun e w' => e = .returned (.tuple #[GE.val (askG ⟨ck, ep, un, se, ki, ak⟩).1, .int .i64 (askG ⟨ck, ep, un, se, ki, ak⟩).2.1, .int .i64 (askG ⟨ck, ep, un, se, ki, ak⟩).2.2.1, .int .i64 (askG ⟨ck, ep, un, se, ki, ak⟩).2.2.2]) ∧ Below W.heap.size W w' := by
  have hok : okG ⟨c, x, u, s, k, a⟩ := by rw [← hs]; exact snd_ok _
  have HOK := hide hok
  have hm : mayG ⟨c, x, u, s, k, a⟩ = true := decide_eq_true (.inr hg)
  obtain ⟨s1, hs1⟩ : ∃ s1, s + 1 = s1 := ⟨_, rfl⟩
  have e2 : IntKind.i64.wrap (s + 1) = s1 := by rw [← hs1]; unfold okG at hok; simp only at hok; rw [IntKind.wrap_i64]; omega
  have HQ : Hid (askG ⟨ck, ep, un, se, ki, ak⟩ = (⟨c, x, u, s1, 1, c⟩, s1, 1, 0)) := hide (by unfold askG; rw [hs]; unfold askS; rw [if_neg (by rw [hm]; simp), if_neg hf]; simp only [hs1]; rw [if_pos hx])
  have e1 : IntKind.i64.wrap (c - a) = c - a := by unfold okG at hok; simp only at hok; rw [IntKind.wrap_i64]; omega
  have d1 : (k != 0) = true := ne_neG hk
  have d1e : (k == 0) = false := ne_eqL hk
  have d2 : decide (c - a < 4) = false := decide_eq_false (by omega)
  have d4 : (s == 9007199254740992) = false := ne_eqL hf
  have d5 : (x == 0) = true := by simpa using hx
  have HS := hide hs
  clear hs hok hm hk hg hf hs1 hx
  obtain ⟨V0, hV0⟩ : ∃ V0, V0 = W.alloc (.cells #[.int .i64 ck, .int .i64 ep, .int .i64 un, .int .i64 se, .int .i64 ki, .int .i64 ak] 23 (0, 0)) := ⟨_, rfl⟩
  obtain ⟨V, hV⟩ : ∃ V, V = V0.alloc (.cells #[.int .i64 0, .int .i64 0, .int .i64 0, .int .i64 0, .int .i64 0, .int .i64 0] 23 (0, 0)) := ⟨_, rfl⟩
  have bV0 : Below W.heap.size W V0 := by rw [hV0]; exact alloc_below _ _
  have bV1 : Below V0.heap.size V0 V := by rw [hV]; exact alloc_below _ _
  have v0 : V0.heap[W.heap.size]? = some (.cells #[.int .i64 ck, .int .i64 ep, .int .i64 un, .int .i64 se, .int .i64 ki, .int .i64 ak] 23 (0, 0)) := by rw [hV0]; exact heap_alloc_new W _
  have v1 : V.heap[V0.heap.size]? = some (.cells #[.int .i64 0, .int .i64 0, .int .i64 0, .int .i64 0, .int .i64 0, .int .i64 0] 23 (0, 0)) := by rw [hV]; exact heap_alloc_new V0 _
  have v2 := below_box bV1 v0
  have hlt := box_lt v0
  have hs0 : V0.heap.size = W.heap.size + 1 := by rw [hV0]; simp
  obtain ⟨bB, hbB⟩ : ∃ bB, W.heap.size = bB := ⟨_, rfl⟩
  obtain ⟨rB, hrB⟩ : ∃ rB, V0.heap.size = rB := ⟨_, rfl⟩
  have hrb : bB + 1 = rB := by omega
  rw [hbB, hrB] at hlt
  rw [hbB] at v2
  rw [hrB] at v1
  have HBW0 : Hid (Below bB W V) := hide (by rw [← hbB]; exact below_next bV0 bV1 bV0.size)
  have HBX0 := hide v2
  have HRS0 := hide v1
  have HBB := hide hbB
  have HLT := hide hlt
  have HSZ0 := hide (box_lt v1)
  clear v0 v1 v2 bV0 bV1
  go_enter Try.func29, Try.ntmps29
  go_upto_region 1 with fail
  try rw [hbB]
  try rw [hrb]
  rw [← hV0, ← hV]
  try rw [hrB]
  clear hV0 hV hbB hrB hs0 hrb hlt
  obtain ⟨_, _, _, _, _, _, u0, u1, u2, u3, u4, u5⟩ := six HBX0.out
  go_wp2_with fail
  refine (may_any).mono ?_
  rw [HS.out]
  simp only [GE.val, GE.row]
  rintro _ w1 ⟨rfl, b1⟩
  have HBX1 := hide (below_box b1 HBX0.out)
  have HRS1 := hide (below_box b1 HRS0.out)
  have HBW1 := hide (below_next HBW0.out b1 (by have := HLT.out; have := HSZ0.out; omega))
  have HSZ1 := hide (box_lt HRS1.out)
  clear b1 HBX0 HRS0 HBW0 HSZ0 u0 u1 u2 u3 u4 u5
  obtain ⟨_, _, _, _, _, _, u0, u1, u2, u3, u4, u5⟩ := six HBX1.out
  go_upto_region 2 with fail
  obtain ⟨X, hX⟩ : ∃ X, X = ((((((w1.setCell ⟨bB, 0, none⟩ (.int .i64 c)).setCell ⟨bB, 1, none⟩ (.int .i64 x)).setCell ⟨bB, 2, none⟩ (.int .i64 u)).setCell ⟨bB, 3, none⟩ (.int .i64 s)).setCell ⟨bB, 4, none⟩ (.int .i64 k)).setCell ⟨bB, 5, none⟩ (.int .i64 a)) := ⟨_, rfl⟩
  have oX : Only (· = bB) w1 X := by rw [hX]; exact ((((((Only.set (F := (· = bB)) _ bB 0 (.int .i64 c) rfl).trans (Only.set (F := (· = bB)) _ bB 1 (.int .i64 x) rfl)).trans (Only.set (F := (· = bB)) _ bB 2 (.int .i64 u) rfl)).trans (Only.set (F := (· = bB)) _ bB 3 (.int .i64 s) rfl)).trans (Only.set (F := (· = bB)) _ bB 4 (.int .i64 k) rfl)).trans (Only.set (F := (· = bB)) _ bB 5 (.int .i64 a) rfl))
  have HBX2 : Hid (X.heap[bB]? = some (.cells #[.int .i64 c, .int .i64 x, .int .i64 u, .int .i64 s, .int .i64 k, .int .i64 a] 23 (0, 0))) := hide (by rw [hX]; exact (heap_set_sameL (heap_set_sameL (heap_set_sameL (heap_set_sameL (heap_set_sameL (heap_set_sameL HBX1.out 0 (.int .i64 c)) 1 (.int .i64 x)) 2 (.int .i64 u)) 3 (.int .i64 s)) 4 (.int .i64 k)) 5 (.int .i64 a)))
  have HRS2 := hide (oX.obj HRS1.out (fun e => by have e' : rB = bB := e; have := HLT.out; omega))
  have HBW2 := hide (HBW1.out.trans (oX.below (by have := HLT.out; have := HSZ1.out; omega) (fun i e => by have e' : i = bB := e; omega)))
  have HSZ2 := hide (box_lt HRS2.out)
  rw [← hX]
  clear hX oX HBX1 HRS1 HBW1 HSZ1 u0 u1 u2 u3 u4 u5
  obtain ⟨_, _, _, _, _, _, u0, u1, u2, u3, u4, u5⟩ := six HBX2.out
  go_upto_region 11 with fail
  obtain ⟨Y, hY⟩ : ∃ Y, Y = ((((X.setCell ⟨bB, 3, none⟩ (.int .i64 s1)).setCell ⟨bB, 5, none⟩ (.int .i64 c)).setCell ⟨bB, 4, none⟩ (.int .i64 2)).setCell ⟨bB, 4, none⟩ (.int .i64 1)) := ⟨_, rfl⟩
  have oY : Only (· = bB) X Y := by rw [hY]; exact ((((Only.set (F := (· = bB)) _ bB 3 (.int .i64 s1) rfl).trans (Only.set (F := (· = bB)) _ bB 5 (.int .i64 c) rfl)).trans (Only.set (F := (· = bB)) _ bB 4 (.int .i64 2) rfl)).trans (Only.set (F := (· = bB)) _ bB 4 (.int .i64 1) rfl))
  have HBX4 : Hid (Y.heap[bB]? = some (.cells #[.int .i64 c, .int .i64 x, .int .i64 u, .int .i64 s1, .int .i64 1, .int .i64 c] 23 (0, 0))) := hide (by rw [hY]; exact (heap_set_sameL (heap_set_sameL (heap_set_sameL (heap_set_sameL HBX2.out 3 (.int .i64 s1)) 5 (.int .i64 c)) 4 (.int .i64 2)) 4 (.int .i64 1)))
  have HRS4 := hide (oY.obj HRS2.out (fun e => by have e' : rB = bB := e; have := HLT.out; omega))
  have HBW4 := hide (HBW2.out.trans (oY.below (by have := HLT.out; have := HSZ2.out; omega) (fun i e => by have e' : i = bB := e; omega)))
  have HSZ4 := hide (box_lt HRS4.out)
  rw [← hY]
  clear hY oY HBX2 HRS2 HBW2 HSZ2 u0 u1 u2 u3 u4 u5
  obtain ⟨_, _, _, _, _, _, u0, u1, u2, u3, u4, u5⟩ := six HBX4.out
  obtain ⟨f0, f1, f2, f3, f4, f5, r0, r1, r2, r3, r4, r5⟩ := six HRS4.out
  have hne1 : rB ≠ bB := by have := HLT.out; omega
  have hne2 : bB ≠ rB := by have := HLT.out; omega
  go_region_held3 (fun w' => w'.cell? ⟨bB, 0, none⟩ = some (.int .i64 c) ∧ w'.cell? ⟨bB, 1, none⟩ = some (.int .i64 x) ∧ w'.cell? ⟨bB, 2, none⟩ = some (.int .i64 u) ∧ w'.cell? ⟨bB, 3, none⟩ = some (.int .i64 s1) ∧ w'.cell? ⟨bB, 4, none⟩ = some (.int .i64 1) ∧ w'.cell? ⟨bB, 5, none⟩ = some (.int .i64 c)) (go_keep) (fail)
  go_wp2
  have hE := drew1_heap (heap_set6 HRS4.out (.int .i64 c) (.int .i64 x) (.int .i64 u) (.int .i64 s1) (.int .i64 1) (.int .i64 c))
  refine bodyPost_ret (results_cell_four rfl _ _ rB 23 _ _ _ rfl hE Try.underlying23 rfl (by kernel_rfl)) rfl ?_
  refine ⟨by rw [HQ.out]; rfl, ?_⟩
  rw [HBB.out]
  exact below_drew1 (HBW4.out.trans ((only_set6 _ rB _ _ _ _ _ _).below (by have := HLT.out; have := HSZ4.out; omega) (fun i e => by have e' : i = rB := e; have := HLT.out; omega)))

set_option maxRecDepth 100000 in
set_option maxHeartbeats 2000000 in
theorem rask_gr {W : World} {ck ep un se ki ak : Int} {c x u s k a : Int} (hs : sndG ⟨ck, ep, un, se, ki, ak⟩ = ⟨c, x, u, s, k, a⟩) (hk : k ≠ 0) (hg : 4 ≤ c - a) (hf : s ≠ 9007199254740992) (hx : x ≠ 0) :
    Calls Try.prog 29 #[.agg #[.int .i64 ck, .int .i64 ep, .int .i64 un, .int .i64 se, .int .i64 ki, .int .i64 ak]] W fun e w' => e = .returned (.tuple #[GE.val (askG ⟨ck, ep, un, se, ki, ak⟩).1, .int .i64 (askG ⟨ck, ep, un, se, ki, ak⟩).2.1, .int .i64 (askG ⟨ck, ep, un, se, ki, ak⟩).2.2.1, .int .i64 (askG ⟨ck, ep, un, se, ki, ak⟩).2.2.2]) ∧ Below W.heap.size W w' := by
  have hok : okG ⟨c, x, u, s, k, a⟩ := by rw [← hs]; exact snd_ok _
  have HOK := hide hok
  have hm : mayG ⟨c, x, u, s, k, a⟩ = true := decide_eq_true (.inr hg)
  obtain ⟨s1, hs1⟩ : ∃ s1, s + 1 = s1 := ⟨_, rfl⟩
  have e2 : IntKind.i64.wrap (s + 1) = s1 := by rw [← hs1]; unfold okG at hok; simp only at hok; rw [IntKind.wrap_i64]; omega
  have HQ : Hid (askG ⟨ck, ep, un, se, ki, ak⟩ = (⟨c, x, u, s1, 2, c⟩, s1, 2, 0)) := hide (by unfold askG; rw [hs]; unfold askS; rw [if_neg (by rw [hm]; simp), if_neg hf]; simp only [hs1]; rw [if_neg hx])
  have e1 : IntKind.i64.wrap (c - a) = c - a := by unfold okG at hok; simp only at hok; rw [IntKind.wrap_i64]; omega
  have d1 : (k != 0) = true := ne_neG hk
  have d1e : (k == 0) = false := ne_eqL hk
  have d2 : decide (c - a < 4) = false := decide_eq_false (by omega)
  have d4 : (s == 9007199254740992) = false := ne_eqL hf
  have d5 : (x == 0) = false := ne_eqL hx
  have HS := hide hs
  clear hs hok hm hk hg hf hs1 hx
  obtain ⟨V0, hV0⟩ : ∃ V0, V0 = W.alloc (.cells #[.int .i64 ck, .int .i64 ep, .int .i64 un, .int .i64 se, .int .i64 ki, .int .i64 ak] 23 (0, 0)) := ⟨_, rfl⟩
  obtain ⟨V, hV⟩ : ∃ V, V = V0.alloc (.cells #[.int .i64 0, .int .i64 0, .int .i64 0, .int .i64 0, .int .i64 0, .int .i64 0] 23 (0, 0)) := ⟨_, rfl⟩
  have bV0 : Below W.heap.size W V0 := by rw [hV0]; exact alloc_below _ _
  have bV1 : Below V0.heap.size V0 V := by rw [hV]; exact alloc_below _ _
  have v0 : V0.heap[W.heap.size]? = some (.cells #[.int .i64 ck, .int .i64 ep, .int .i64 un, .int .i64 se, .int .i64 ki, .int .i64 ak] 23 (0, 0)) := by rw [hV0]; exact heap_alloc_new W _
  have v1 : V.heap[V0.heap.size]? = some (.cells #[.int .i64 0, .int .i64 0, .int .i64 0, .int .i64 0, .int .i64 0, .int .i64 0] 23 (0, 0)) := by rw [hV]; exact heap_alloc_new V0 _
  have v2 := below_box bV1 v0
  have hlt := box_lt v0
  have hs0 : V0.heap.size = W.heap.size + 1 := by rw [hV0]; simp
  obtain ⟨bB, hbB⟩ : ∃ bB, W.heap.size = bB := ⟨_, rfl⟩
  obtain ⟨rB, hrB⟩ : ∃ rB, V0.heap.size = rB := ⟨_, rfl⟩
  have hrb : bB + 1 = rB := by omega
  rw [hbB, hrB] at hlt
  rw [hbB] at v2
  rw [hrB] at v1
  have HBW0 : Hid (Below bB W V) := hide (by rw [← hbB]; exact below_next bV0 bV1 bV0.size)
  have HBX0 := hide v2
  have HRS0 := hide v1
  have HBB := hide hbB
  have HLT := hide hlt
  have HSZ0 := hide (box_lt v1)
  clear v0 v1 v2 bV0 bV1
  go_enter Try.func29, Try.ntmps29
  go_upto_region 1 with fail
  try rw [hbB]
  try rw [hrb]
  rw [← hV0, ← hV]
  try rw [hrB]
  clear hV0 hV hbB hrB hs0 hrb hlt
  obtain ⟨_, _, _, _, _, _, u0, u1, u2, u3, u4, u5⟩ := six HBX0.out
  go_wp2_with fail
  refine (may_any).mono ?_
  rw [HS.out]
  simp only [GE.val, GE.row]
  rintro _ w1 ⟨rfl, b1⟩
  have HBX1 := hide (below_box b1 HBX0.out)
  have HRS1 := hide (below_box b1 HRS0.out)
  have HBW1 := hide (below_next HBW0.out b1 (by have := HLT.out; have := HSZ0.out; omega))
  have HSZ1 := hide (box_lt HRS1.out)
  clear b1 HBX0 HRS0 HBW0 HSZ0 u0 u1 u2 u3 u4 u5
  obtain ⟨_, _, _, _, _, _, u0, u1, u2, u3, u4, u5⟩ := six HBX1.out
  go_upto_region 2 with fail
  obtain ⟨X, hX⟩ : ∃ X, X = ((((((w1.setCell ⟨bB, 0, none⟩ (.int .i64 c)).setCell ⟨bB, 1, none⟩ (.int .i64 x)).setCell ⟨bB, 2, none⟩ (.int .i64 u)).setCell ⟨bB, 3, none⟩ (.int .i64 s)).setCell ⟨bB, 4, none⟩ (.int .i64 k)).setCell ⟨bB, 5, none⟩ (.int .i64 a)) := ⟨_, rfl⟩
  have oX : Only (· = bB) w1 X := by rw [hX]; exact ((((((Only.set (F := (· = bB)) _ bB 0 (.int .i64 c) rfl).trans (Only.set (F := (· = bB)) _ bB 1 (.int .i64 x) rfl)).trans (Only.set (F := (· = bB)) _ bB 2 (.int .i64 u) rfl)).trans (Only.set (F := (· = bB)) _ bB 3 (.int .i64 s) rfl)).trans (Only.set (F := (· = bB)) _ bB 4 (.int .i64 k) rfl)).trans (Only.set (F := (· = bB)) _ bB 5 (.int .i64 a) rfl))
  have HBX2 : Hid (X.heap[bB]? = some (.cells #[.int .i64 c, .int .i64 x, .int .i64 u, .int .i64 s, .int .i64 k, .int .i64 a] 23 (0, 0))) := hide (by rw [hX]; exact (heap_set_sameL (heap_set_sameL (heap_set_sameL (heap_set_sameL (heap_set_sameL (heap_set_sameL HBX1.out 0 (.int .i64 c)) 1 (.int .i64 x)) 2 (.int .i64 u)) 3 (.int .i64 s)) 4 (.int .i64 k)) 5 (.int .i64 a)))
  have HRS2 := hide (oX.obj HRS1.out (fun e => by have e' : rB = bB := e; have := HLT.out; omega))
  have HBW2 := hide (HBW1.out.trans (oX.below (by have := HLT.out; have := HSZ1.out; omega) (fun i e => by have e' : i = bB := e; omega)))
  have HSZ2 := hide (box_lt HRS2.out)
  rw [← hX]
  clear hX oX HBX1 HRS1 HBW1 HSZ1 u0 u1 u2 u3 u4 u5
  obtain ⟨_, _, _, _, _, _, u0, u1, u2, u3, u4, u5⟩ := six HBX2.out
  go_upto_region 11 with fail
  obtain ⟨Y, hY⟩ : ∃ Y, Y = (((X.setCell ⟨bB, 3, none⟩ (.int .i64 s1)).setCell ⟨bB, 5, none⟩ (.int .i64 c)).setCell ⟨bB, 4, none⟩ (.int .i64 2)) := ⟨_, rfl⟩
  have oY : Only (· = bB) X Y := by rw [hY]; exact (((Only.set (F := (· = bB)) _ bB 3 (.int .i64 s1) rfl).trans (Only.set (F := (· = bB)) _ bB 5 (.int .i64 c) rfl)).trans (Only.set (F := (· = bB)) _ bB 4 (.int .i64 2) rfl))
  have HBX4 : Hid (Y.heap[bB]? = some (.cells #[.int .i64 c, .int .i64 x, .int .i64 u, .int .i64 s1, .int .i64 2, .int .i64 c] 23 (0, 0))) := hide (by rw [hY]; exact (heap_set_sameL (heap_set_sameL (heap_set_sameL HBX2.out 3 (.int .i64 s1)) 5 (.int .i64 c)) 4 (.int .i64 2)))
  have HRS4 := hide (oY.obj HRS2.out (fun e => by have e' : rB = bB := e; have := HLT.out; omega))
  have HBW4 := hide (HBW2.out.trans (oY.below (by have := HLT.out; have := HSZ2.out; omega) (fun i e => by have e' : i = bB := e; omega)))
  have HSZ4 := hide (box_lt HRS4.out)
  rw [← hY]
  clear hY oY HBX2 HRS2 HBW2 HSZ2 u0 u1 u2 u3 u4 u5
  obtain ⟨_, _, _, _, _, _, u0, u1, u2, u3, u4, u5⟩ := six HBX4.out
  obtain ⟨f0, f1, f2, f3, f4, f5, r0, r1, r2, r3, r4, r5⟩ := six HRS4.out
  have hne1 : rB ≠ bB := by have := HLT.out; omega
  have hne2 : bB ≠ rB := by have := HLT.out; omega
  go_region_held3 (fun w' => w'.cell? ⟨bB, 0, none⟩ = some (.int .i64 c) ∧ w'.cell? ⟨bB, 1, none⟩ = some (.int .i64 x) ∧ w'.cell? ⟨bB, 2, none⟩ = some (.int .i64 u) ∧ w'.cell? ⟨bB, 3, none⟩ = some (.int .i64 s1) ∧ w'.cell? ⟨bB, 4, none⟩ = some (.int .i64 2) ∧ w'.cell? ⟨bB, 5, none⟩ = some (.int .i64 c)) (go_keep) (fail)
  go_wp2
  have hE := drew1_heap (heap_set6 HRS4.out (.int .i64 c) (.int .i64 x) (.int .i64 u) (.int .i64 s1) (.int .i64 2) (.int .i64 c))
  refine bodyPost_ret (results_cell_four rfl _ _ rB 23 _ _ _ rfl hE Try.underlying23 rfl (by kernel_rfl)) rfl ?_
  refine ⟨by rw [HQ.out]; rfl, ?_⟩
  rw [HBB.out]
  exact below_drew1 (HBW4.out.trans ((only_set6 _ rB _ _ _ _ _ _).below (by have := HLT.out; have := HSZ4.out; omega) (fun i e => by have e' : i = rB := e; have := HLT.out; omega)))

theorem rask_any {W : World} {ck ep un se ki ak : Int} : Calls Try.prog 29 #[.agg #[.int .i64 ck, .int .i64 ep, .int .i64 un, .int .i64 se, .int .i64 ki, .int .i64 ak]] W fun e w' => e = .returned (.tuple #[GE.val (askG ⟨ck, ep, un, se, ki, ak⟩).1, .int .i64 (askG ⟨ck, ep, un, se, ki, ak⟩).2.1, .int .i64 (askG ⟨ck, ep, un, se, ki, ak⟩).2.2.1, .int .i64 (askG ⟨ck, ep, un, se, ki, ak⟩).2.2.2]) ∧ Below W.heap.size W w' := by
  obtain ⟨⟨c, x, u, s, k, a⟩, hs⟩ : ∃ q, sndG ⟨ck, ep, un, se, ki, ak⟩ = q := ⟨_, rfl⟩
  by_cases hk : k = 0
  · by_cases hf : s = 9007199254740992
    · exact rask_kf hs hk hf
    · by_cases hx : x = 0
      · exact rask_ka hs hk hf hx
      · exact rask_kr hs hk hf hx
  · by_cases hg : 4 ≤ c - a
    · by_cases hf : s = 9007199254740992
      · exact rask_gf hs hk hg hf
      · by_cases hx : x = 0
        · exact rask_ga hs hk hg hf hx
        · exact rask_gr hs hk hg hf hx
    · exact rask_gn hs hk hg
end Go.Proofs.Ytegffdmlkbdcdaa
