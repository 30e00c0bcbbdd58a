/-
  Tick, Yield, Above and Refused of package guard, and of its reference. No conditions.
-/
import Derived.Test.YtegffdmlkbdcdaaGdd
namespace Go.Proofs.Ytegffdmlkbdcdaa
open Go.RowKit

def yieS (s : GE) : GE := ⟨s.ck, 0, 0, s.se, 0, 0⟩
def yieG (g : GE) : GE := yieS (sndG g)
def abvS (s : GE) (e : Int) : GE := if s.ep ≠ 0 ∧ s.ep < e then yieS s else s
def abvG (g : GE) (e : Int) : GE := abvS (sndG g) e
def rfsS (s : GE) (n : Int) : GE × Bool := if s.ki = 0 ∨ n ≠ s.se then (s, false) else if s.ki = 2 then (yieS s, true) else (ansG s, true)
def rfsG (g : GE) (n : Int) : GE × Bool := rfsS (sndG g) n
theorem drew1_heap {w : World} {b : Nat} {o : Obj} (h : w.heap[b]? = some o) : w.drew.heap[b]? = some o := h
theorem below_drew1 {n : Nat} {A B : World} (h : Below n A B) : Below n A B.drew := ⟨h.os, h.tape, h.output, h.size, h.block⟩
set_option maxRecDepth 100000 in
set_option maxHeartbeats 2000000 in
theorem tick_any {W : World} {ck ep un se ki ak : Int} {n : Int}  :
    Calls Try.prog 21 #[.agg #[.int .i64 ck, .int .i64 ep, .int .i64 un, .int .i64 se, .int .i64 ki, .int .i64 ak], .int .i64 n] W fun e w' => e = .returned (GE.val (tickG ⟨ck, ep, un, se, ki, ak⟩ n)) ∧ Below W.heap.size W w' := by
  obtain ⟨⟨c, x, u, s, k, a⟩, hs⟩ : ∃ q, sndG ⟨ck, ep, un, se, ki, ak⟩ = q := ⟨_, rfl⟩
  have hok : okG ⟨c, x, u, s, k, a⟩ := by rw [← hs]; exact snd_ok _
  have HOK := hide hok
  have HS := hide hs
  obtain ⟨t, ht⟩ : ∃ t, laterC c n = t := ⟨_, rfl⟩
  have HQ : Hid (tickG ⟨ck, ep, un, se, ki, ak⟩ n = ⟨t, x, u, s, k, a⟩) := hide (by unfold tickG; rw [hs]; simp only; rw [ht])
  have HT := hide ht
  clear hs hok ht
  obtain ⟨V0, hV0⟩ : ∃ V0, V0 = W.alloc (.cells #[.int .i64 ck, .int .i64 ep, .int .i64 un, .int .i64 se, .int .i64 ki, .int .i64 ak] 23 (0, 0)) := ⟨_, rfl⟩
  obtain ⟨V, hV⟩ : ∃ V, V = V0.alloc (.cells #[.int .i64 0, .int .i64 0, .int .i64 0, .int .i64 0, .int .i64 0, .int .i64 0] 23 (0, 0)) := ⟨_, rfl⟩
  have bV0 : Below W.heap.size W V0 := by rw [hV0]; exact alloc_below _ _
  have bV1 : Below V0.heap.size V0 V := by rw [hV]; exact alloc_below _ _
  have v0 : V0.heap[W.heap.size]? = some (.cells #[.int .i64 ck, .int .i64 ep, .int .i64 un, .int .i64 se, .int .i64 ki, .int .i64 ak] 23 (0, 0)) := by rw [hV0]; exact heap_alloc_new W _
  have v1 : V.heap[V0.heap.size]? = some (.cells #[.int .i64 0, .int .i64 0, .int .i64 0, .int .i64 0, .int .i64 0, .int .i64 0] 23 (0, 0)) := by rw [hV]; exact heap_alloc_new V0 _
  have v2 := below_box bV1 v0
  have hlt := box_lt v0
  have hs0 : V0.heap.size = W.heap.size + 1 := by rw [hV0]; simp
  obtain ⟨bB, hbB⟩ : ∃ bB, W.heap.size = bB := ⟨_, rfl⟩
  obtain ⟨rB, hrB⟩ : ∃ rB, V0.heap.size = rB := ⟨_, rfl⟩
  have hrb : bB + 1 = rB := by omega
  rw [hbB, hrB] at hlt
  rw [hbB] at v2
  rw [hrB] at v1
  have HBW0 : Hid (Below bB W V) := hide (by rw [← hbB]; exact below_next bV0 bV1 bV0.size)
  have HBX0 := hide v2
  have HRS0 := hide v1
  have HBB := hide hbB
  have HLT := hide hlt
  have HSZ0 := hide (box_lt v1)
  clear v0 v1 v2 bV0 bV1
  go_enter Try.func21, Try.ntmps21
  go_upto_region 1 with fail
  try rw [hbB]
  try rw [hrb]
  rw [← hV0, ← hV]
  try rw [hrB]
  clear hV0 hV hbB hrB hs0 hrb hlt
  obtain ⟨_, _, _, _, _, _, u0, u1, u2, u3, u4, u5⟩ := six HBX0.out
  go_wp2_with fail
  refine (snd_any).mono ?_
  rw [HS.out]
  simp only [GE.val, GE.row]
  rintro _ w1 ⟨rfl, b1⟩
  have HBX1 := hide (below_box b1 HBX0.out)
  have HRS1 := hide (below_box b1 HRS0.out)
  have HBW1 := hide (below_next HBW0.out b1 (by have := HLT.out; have := HSZ0.out; omega))
  have HSZ1 := hide (box_lt HRS1.out)
  clear b1 HBX0 HRS0 HBW0 HSZ0 u0 u1 u2 u3 u4 u5
  obtain ⟨_, _, _, _, _, _, u0, u1, u2, u3, u4, u5⟩ := six HBX1.out
  go_upto_region 2 with fail
  obtain ⟨X, hX⟩ : ∃ X, X = ((((((w1.setCell ⟨bB, 0, none⟩ (.int .i64 c)).setCell ⟨bB, 1, none⟩ (.int .i64 x)).setCell ⟨bB, 2, none⟩ (.int .i64 u)).setCell ⟨bB, 3, none⟩ (.int .i64 s)).setCell ⟨bB, 4, none⟩ (.int .i64 k)).setCell ⟨bB, 5, none⟩ (.int .i64 a)) := ⟨_, rfl⟩
  have oX : Only (· = bB) w1 X := by rw [hX]; exact ((((((Only.set (F := (· = bB)) _ bB 0 (.int .i64 c) rfl).trans (Only.set (F := (· = bB)) _ bB 1 (.int .i64 x) rfl)).trans (Only.set (F := (· = bB)) _ bB 2 (.int .i64 u) rfl)).trans (Only.set (F := (· = bB)) _ bB 3 (.int .i64 s) rfl)).trans (Only.set (F := (· = bB)) _ bB 4 (.int .i64 k) rfl)).trans (Only.set (F := (· = bB)) _ bB 5 (.int .i64 a) rfl))
  have HBX2 : Hid (X.heap[bB]? = some (.cells #[.int .i64 c, .int .i64 x, .int .i64 u, .int .i64 s, .int .i64 k, .int .i64 a] 23 (0, 0))) := hide (by rw [hX]; exact (heap_set_sameL (heap_set_sameL (heap_set_sameL (heap_set_sameL (heap_set_sameL (heap_set_sameL HBX1.out 0 (.int .i64 c)) 1 (.int .i64 x)) 2 (.int .i64 u)) 3 (.int .i64 s)) 4 (.int .i64 k)) 5 (.int .i64 a)))
  have HRS2 := hide (oX.obj HRS1.out (fun e => by have e' : rB = bB := e; have := HLT.out; omega))
  have HBW2 := hide (HBW1.out.trans (oX.below (by have := HLT.out; have := HSZ1.out; omega) (fun i e => by have e' : i = bB := e; omega)))
  have HSZ2 := hide (box_lt HRS2.out)
  rw [← hX]
  clear hX oX HBX1 HRS1 HBW1 HSZ1 u0 u1 u2 u3 u4 u5
  obtain ⟨_, _, _, _, _, _, u0, u1, u2, u3, u4, u5⟩ := six HBX2.out
  go_upto_region 3 with (go_at_call 40; refine (glater_any HOK.out.1.1 HOK.out.1.2).mono ?_; rw [HT.out]; rintro _ wq ⟨rfl, hq⟩; have hq := hq.symm; subst hq)
  obtain ⟨Y, hY⟩ : ∃ Y, Y = (X.setCell ⟨bB, 0, none⟩ (.int .i64 t)) := ⟨_, rfl⟩
  have oY : Only (· = bB) X Y := by rw [hY]; exact (Only.set (F := (· = bB)) _ bB 0 (.int .i64 t) rfl)
  have HBX3 : Hid (Y.heap[bB]? = some (.cells #[.int .i64 t, .int .i64 x, .int .i64 u, .int .i64 s, .int .i64 k, .int .i64 a] 23 (0, 0))) := hide (by rw [hY]; exact (heap_set_sameL HBX2.out 0 (.int .i64 t)))
  have HRS3 := hide (oY.obj HRS2.out (fun e => by have e' : rB = bB := e; have := HLT.out; omega))
  have HBW3 := hide (HBW2.out.trans (oY.below (by have := HLT.out; have := HSZ2.out; omega) (fun i e => by have e' : i = bB := e; omega)))
  have HSZ3 := hide (box_lt HRS3.out)
  rw [← hY]
  clear hY oY HBX2 HRS2 HBW2 HSZ2 u0 u1 u2 u3 u4 u5
  obtain ⟨_, _, _, _, _, _, u0, u1, u2, u3, u4, u5⟩ := six HBX3.out
  obtain ⟨f0, f1, f2, f3, f4, f5, r0, r1, r2, r3, r4, r5⟩ := six HRS3.out
  go_wp2
  have hE := heap_set6 HRS3.out (.int .i64 t) (.int .i64 x) (.int .i64 u) (.int .i64 s) (.int .i64 k) (.int .i64 a)
  refine bodyPost_ret (results_cell_row rfl _ _ rB 23 _ _ _ rfl hE Try.underlying23 rfl (by kernel_rfl)) rfl ?_
  refine ⟨by rw [HQ.out]; rfl, ?_⟩
  rw [HBB.out]
  exact HBW3.out.trans ((only_set6 _ rB _ _ _ _ _ _).below (by have := HLT.out; have := HSZ3.out; omega) (fun i e => by have e' : i = rB := e; have := HLT.out; omega))

set_option maxRecDepth 100000 in
set_option maxHeartbeats 2000000 in
theorem rtick_0 {W : World} {ck ep un se ki ak : Int} {c x u s k a : Int} {n : Int} (hs : sndG ⟨ck, ep, un, se, ki, ak⟩ = ⟨c, x, u, s, k, a⟩) (h1 : 9007199254740992 - c < n) (h2 : 0 < 9007199254740992 - c) :
    Calls Try.prog 28 #[.agg #[.int .i64 ck, .int .i64 ep, .int .i64 un, .int .i64 se, .int .i64 ki, .int .i64 ak], .int .i64 n] W fun e w' => e = .returned (GE.val (tickG ⟨ck, ep, un, se, ki, ak⟩ n)) ∧ Below W.heap.size W w' := by
  have hok : okG ⟨c, x, u, s, k, a⟩ := by rw [← hs]; exact snd_ok _
  have HOK := hide hok
  have hc : 0 ≤ c ∧ c ≤ 9007199254740992 := hok.1
  obtain ⟨m, hm⟩ : ∃ m, 9007199254740992 - c = m := ⟨_, rfl⟩
  have e1 : IntKind.i64.wrap (9007199254740992 - c) = m := by rw [IntKind.wrap_i64]; omega
  obtain ⟨t, ht⟩ : ∃ t, laterC c n = t := ⟨_, rfl⟩
  have e2 : IntKind.i64.wrap (c + m) = t := by rw [← ht]; unfold laterC; rw [IntKind.wrap_i64]; omega
  have HQ : Hid (tickG ⟨ck, ep, un, se, ki, ak⟩ n = ⟨t, x, u, s, k, a⟩) := hide (by unfold tickG; rw [hs]; simp only [GE.mk.injEq, and_true]; exact ht)
  rw [hm] at h1 h2
  have d1 : decide (n > m) = true := decide_eq_true h1
  have d2 : decide (m > 0) = true := decide_eq_true h2
  have HS := hide hs
  clear hs hok h1 h2 hc hm ht
  obtain ⟨V0, hV0⟩ : ∃ V0, V0 = W.alloc (.cells #[.int .i64 ck, .int .i64 ep, .int .i64 un, .int .i64 se, .int .i64 ki, .int .i64 ak] 23 (0, 0)) := ⟨_, rfl⟩
  obtain ⟨V, hV⟩ : ∃ V, V = V0.alloc (.cells #[.int .i64 0, .int .i64 0, .int .i64 0, .int .i64 0, .int .i64 0, .int .i64 0] 23 (0, 0)) := ⟨_, rfl⟩
  have bV0 : Below W.heap.size W V0 := by rw [hV0]; exact alloc_below _ _
  have bV1 : Below V0.heap.size V0 V := by rw [hV]; exact alloc_below _ _
  have v0 : V0.heap[W.heap.size]? = some (.cells #[.int .i64 ck, .int .i64 ep, .int .i64 un, .int .i64 se, .int .i64 ki, .int .i64 ak] 23 (0, 0)) := by rw [hV0]; exact heap_alloc_new W _
  have v1 : V.heap[V0.heap.size]? = some (.cells #[.int .i64 0, .int .i64 0, .int .i64 0, .int .i64 0, .int .i64 0, .int .i64 0] 23 (0, 0)) := by rw [hV]; exact heap_alloc_new V0 _
  have v2 := below_box bV1 v0
  have hlt := box_lt v0
  have hs0 : V0.heap.size = W.heap.size + 1 := by rw [hV0]; simp
  obtain ⟨bB, hbB⟩ : ∃ bB, W.heap.size = bB := ⟨_, rfl⟩
  obtain ⟨rB, hrB⟩ : ∃ rB, V0.heap.size = rB := ⟨_, rfl⟩
  have hrb : bB + 1 = rB := by omega
  rw [hbB, hrB] at hlt
  rw [hbB] at v2
  rw [hrB] at v1
  have HBW0 : Hid (Below bB W V) := hide (by rw [← hbB]; exact below_next bV0 bV1 bV0.size)
  have HBX0 := hide v2
  have HRS0 := hide v1
  have HBB := hide hbB
  have HLT := hide hlt
  have HSZ0 := hide (box_lt v1)
  clear v0 v1 v2 bV0 bV1
  go_enter Try.func28, Try.ntmps28
  go_upto_region 1 with fail
  try rw [hbB]
  try rw [hrb]
  rw [← hV0, ← hV]
  try rw [hrB]
  clear hV0 hV hbB hrB hs0 hrb hlt
  obtain ⟨_, _, _, _, _, _, u0, u1, u2, u3, u4, u5⟩ := six HBX0.out
  go_wp2_with fail
  refine (may_any).mono ?_
  rw [HS.out]
  simp only [GE.val, GE.row]
  rintro _ w1 ⟨rfl, b1⟩
  have HBX1 := hide (below_box b1 HBX0.out)
  have HRS1 := hide (below_box b1 HRS0.out)
  have HBW1 := hide (below_next HBW0.out b1 (by have := HLT.out; have := HSZ0.out; omega))
  have HSZ1 := hide (box_lt HRS1.out)
  clear b1 HBX0 HRS0 HBW0 HSZ0 u0 u1 u2 u3 u4 u5
  obtain ⟨_, _, _, _, _, _, u0, u1, u2, u3, u4, u5⟩ := six HBX1.out
  go_upto_region 2 with fail
  obtain ⟨X, hX⟩ : ∃ X, X = ((((((w1.setCell ⟨bB, 0, none⟩ (.int .i64 c)).setCell ⟨bB, 1, none⟩ (.int .i64 x)).setCell ⟨bB, 2, none⟩ (.int .i64 u)).setCell ⟨bB, 3, none⟩ (.int .i64 s)).setCell ⟨bB, 4, none⟩ (.int .i64 k)).setCell ⟨bB, 5, none⟩ (.int .i64 a)) := ⟨_, rfl⟩
  have oX : Only (· = bB) w1 X := by rw [hX]; exact ((((((Only.set (F := (· = bB)) _ bB 0 (.int .i64 c) rfl).trans (Only.set (F := (· = bB)) _ bB 1 (.int .i64 x) rfl)).trans (Only.set (F := (· = bB)) _ bB 2 (.int .i64 u) rfl)).trans (Only.set (F := (· = bB)) _ bB 3 (.int .i64 s) rfl)).trans (Only.set (F := (· = bB)) _ bB 4 (.int .i64 k) rfl)).trans (Only.set (F := (· = bB)) _ bB 5 (.int .i64 a) rfl))
  have HBX2 : Hid (X.heap[bB]? = some (.cells #[.int .i64 c, .int .i64 x, .int .i64 u, .int .i64 s, .int .i64 k, .int .i64 a] 23 (0, 0))) := hide (by rw [hX]; exact (heap_set_sameL (heap_set_sameL (heap_set_sameL (heap_set_sameL (heap_set_sameL (heap_set_sameL HBX1.out 0 (.int .i64 c)) 1 (.int .i64 x)) 2 (.int .i64 u)) 3 (.int .i64 s)) 4 (.int .i64 k)) 5 (.int .i64 a)))
  have HRS2 := hide (oX.obj HRS1.out (fun e => by have e' : rB = bB := e; have := HLT.out; omega))
  have HBW2 := hide (HBW1.out.trans (oX.below (by have := HLT.out; have := HSZ1.out; omega) (fun i e => by have e' : i = bB := e; omega)))
  have HSZ2 := hide (box_lt HRS2.out)
  rw [← hX]
  clear hX oX HBX1 HRS1 HBW1 HSZ1 u0 u1 u2 u3 u4 u5
  obtain ⟨_, _, _, _, _, _, u0, u1, u2, u3, u4, u5⟩ := six HBX2.out
  go_upto_region 6 with fail
  obtain ⟨Y, hY⟩ : ∃ Y, Y = (X.setCell ⟨bB, 0, none⟩ (.int .i64 t)) := ⟨_, rfl⟩
  have oY : Only (· = bB) X Y := by rw [hY]; exact (Only.set (F := (· = bB)) _ bB 0 (.int .i64 t) rfl)
  have HBX3 : Hid (Y.heap[bB]? = some (.cells #[.int .i64 t, .int .i64 x, .int .i64 u, .int .i64 s, .int .i64 k, .int .i64 a] 23 (0, 0))) := hide (by rw [hY]; exact (heap_set_sameL HBX2.out 0 (.int .i64 t)))
  have HRS3 := hide (oY.obj HRS2.out (fun e => by have e' : rB = bB := e; have := HLT.out; omega))
  have HBW3 := hide (HBW2.out.trans (oY.below (by have := HLT.out; have := HSZ2.out; omega) (fun i e => by have e' : i = bB := e; omega)))
  have HSZ3 := hide (box_lt HRS3.out)
  rw [← hY]
  clear hY oY HBX2 HRS2 HBW2 HSZ2 u0 u1 u2 u3 u4 u5
  obtain ⟨_, _, _, _, _, _, u0, u1, u2, u3, u4, u5⟩ := six HBX3.out
  obtain ⟨f0, f1, f2, f3, f4, f5, r0, r1, r2, r3, r4, r5⟩ := six HRS3.out
  go_wp2
  have hE := heap_set6 HRS3.out (.int .i64 t) (.int .i64 x) (.int .i64 u) (.int .i64 s) (.int .i64 k) (.int .i64 a)
  refine bodyPost_ret (results_cell_row rfl _ _ rB 23 _ _ _ rfl hE Try.underlying23 rfl (by kernel_rfl)) rfl ?_
  refine ⟨by rw [HQ.out]; rfl, ?_⟩
  rw [HBB.out]
  exact HBW3.out.trans ((only_set6 _ rB _ _ _ _ _ _).below (by have := HLT.out; have := HSZ3.out; omega) (fun i e => by have e' : i = rB := e; have := HLT.out; omega))

set_option maxRecDepth 100000 in
set_option maxHeartbeats 2000000 in
theorem rtick_1 {W : World} {ck ep un se ki ak : Int} {c x u s k a : Int} {n : Int} (hs : sndG ⟨ck, ep, un, se, ki, ak⟩ = ⟨c, x, u, s, k, a⟩) (h1 : 9007199254740992 - c < n) (h2 : ¬ 0 < 9007199254740992 - c) :
    Calls Try.prog 28 #[.agg #[.int .i64 ck, .int .i64 ep, .int .i64 un, .int .i64 se, .int .i64 ki, .int .i64 ak], .int .i64 n] W fun e w' => e = .returned (GE.val (tickG ⟨ck, ep, un, se, ki, ak⟩ n)) ∧ Below W.heap.size W w' := by
  have hok : okG ⟨c, x, u, s, k, a⟩ := by rw [← hs]; exact snd_ok _
  have HOK := hide hok
  have hc : 0 ≤ c ∧ c ≤ 9007199254740992 := hok.1
  obtain ⟨m, hm⟩ : ∃ m, 9007199254740992 - c = m := ⟨_, rfl⟩
  have e1 : IntKind.i64.wrap (9007199254740992 - c) = m := by rw [IntKind.wrap_i64]; omega
  have HQ : Hid (tickG ⟨ck, ep, un, se, ki, ak⟩ n = ⟨c, x, u, s, k, a⟩) := hide (by unfold tickG; rw [hs]; simp only [GE.mk.injEq, and_true]; unfold laterC; omega)
  rw [hm] at h1 h2
  have d1 : decide (n > m) = true := decide_eq_true h1
  have d2 : decide (m > 0) = false := decide_eq_false h2
  have HS := hide hs
  clear hs hok h1 h2 hc hm
  obtain ⟨V0, hV0⟩ : ∃ V0, V0 = W.alloc (.cells #[.int .i64 ck, .int .i64 ep, .int .i64 un, .int .i64 se, .int .i64 ki, .int .i64 ak] 23 (0, 0)) := ⟨_, rfl⟩
  obtain ⟨V, hV⟩ : ∃ V, V = V0.alloc (.cells #[.int .i64 0, .int .i64 0, .int .i64 0, .int .i64 0, .int .i64 0, .int .i64 0] 23 (0, 0)) := ⟨_, rfl⟩
  have bV0 : Below W.heap.size W V0 := by rw [hV0]; exact alloc_below _ _
  have bV1 : Below V0.heap.size V0 V := by rw [hV]; exact alloc_below _ _
  have v0 : V0.heap[W.heap.size]? = some (.cells #[.int .i64 ck, .int .i64 ep, .int .i64 un, .int .i64 se, .int .i64 ki, .int .i64 ak] 23 (0, 0)) := by rw [hV0]; exact heap_alloc_new W _
  have v1 : V.heap[V0.heap.size]? = some (.cells #[.int .i64 0, .int .i64 0, .int .i64 0, .int .i64 0, .int .i64 0, .int .i64 0] 23 (0, 0)) := by rw [hV]; exact heap_alloc_new V0 _
  have v2 := below_box bV1 v0
  have hlt := box_lt v0
  have hs0 : V0.heap.size = W.heap.size + 1 := by rw [hV0]; simp
  obtain ⟨bB, hbB⟩ : ∃ bB, W.heap.size = bB := ⟨_, rfl⟩
  obtain ⟨rB, hrB⟩ : ∃ rB, V0.heap.size = rB := ⟨_, rfl⟩
  have hrb : bB + 1 = rB := by omega
  rw [hbB, hrB] at hlt
  rw [hbB] at v2
  rw [hrB] at v1
  have HBW0 : Hid (Below bB W V) := hide (by rw [← hbB]; exact below_next bV0 bV1 bV0.size)
  have HBX0 := hide v2
  have HRS0 := hide v1
  have HBB := hide hbB
  have HLT := hide hlt
  have HSZ0 := hide (box_lt v1)
  clear v0 v1 v2 bV0 bV1
  go_enter Try.func28, Try.ntmps28
  go_upto_region 1 with fail
  try rw [hbB]
  try rw [hrb]
  rw [← hV0, ← hV]
  try rw [hrB]
  clear hV0 hV hbB hrB hs0 hrb hlt
  obtain ⟨_, _, _, _, _, _, u0, u1, u2, u3, u4, u5⟩ := six HBX0.out
  go_wp2_with fail
  refine (may_any).mono ?_
  rw [HS.out]
  simp only [GE.val, GE.row]
  rintro _ w1 ⟨rfl, b1⟩
  have HBX1 := hide (below_box b1 HBX0.out)
  have HRS1 := hide (below_box b1 HRS0.out)
  have HBW1 := hide (below_next HBW0.out b1 (by have := HLT.out; have := HSZ0.out; omega))
  have HSZ1 := hide (box_lt HRS1.out)
  clear b1 HBX0 HRS0 HBW0 HSZ0 u0 u1 u2 u3 u4 u5
  obtain ⟨_, _, _, _, _, _, u0, u1, u2, u3, u4, u5⟩ := six HBX1.out
  go_upto_region 2 with fail
  obtain ⟨X, hX⟩ : ∃ X, X = ((((((w1.setCell ⟨bB, 0, none⟩ (.int .i64 c)).setCell ⟨bB, 1, none⟩ (.int .i64 x)).setCell ⟨bB, 2, none⟩ (.int .i64 u)).setCell ⟨bB, 3, none⟩ (.int .i64 s)).setCell ⟨bB, 4, none⟩ (.int .i64 k)).setCell ⟨bB, 5, none⟩ (.int .i64 a)) := ⟨_, rfl⟩
  have oX : Only (· = bB) w1 X := by rw [hX]; exact ((((((Only.set (F := (· = bB)) _ bB 0 (.int .i64 c) rfl).trans (Only.set (F := (· = bB)) _ bB 1 (.int .i64 x) rfl)).trans (Only.set (F := (· = bB)) _ bB 2 (.int .i64 u) rfl)).trans (Only.set (F := (· = bB)) _ bB 3 (.int .i64 s) rfl)).trans (Only.set (F := (· = bB)) _ bB 4 (.int .i64 k) rfl)).trans (Only.set (F := (· = bB)) _ bB 5 (.int .i64 a) rfl))
  have HBX2 : Hid (X.heap[bB]? = some (.cells #[.int .i64 c, .int .i64 x, .int .i64 u, .int .i64 s, .int .i64 k, .int .i64 a] 23 (0, 0))) := hide (by rw [hX]; exact (heap_set_sameL (heap_set_sameL (heap_set_sameL (heap_set_sameL (heap_set_sameL (heap_set_sameL HBX1.out 0 (.int .i64 c)) 1 (.int .i64 x)) 2 (.int .i64 u)) 3 (.int .i64 s)) 4 (.int .i64 k)) 5 (.int .i64 a)))
  have HRS2 := hide (oX.obj HRS1.out (fun e => by have e' : rB = bB := e; have := HLT.out; omega))
  have HBW2 := hide (HBW1.out.trans (oX.below (by have := HLT.out; have := HSZ1.out; omega) (fun i e => by have e' : i = bB := e; omega)))
  have HSZ2 := hide (box_lt HRS2.out)
  rw [← hX]
  clear hX oX HBX1 HRS1 HBW1 HSZ1 u0 u1 u2 u3 u4 u5
  obtain ⟨_, _, _, _, _, _, u0, u1, u2, u3, u4, u5⟩ := six HBX2.out
  go_upto_region 6 with fail
  obtain ⟨f0, f1, f2, f3, f4, f5, r0, r1, r2, r3, r4, r5⟩ := six HRS2.out
  go_wp2
  have hE := heap_set6 HRS2.out (.int .i64 c) (.int .i64 x) (.int .i64 u) (.int .i64 s) (.int .i64 k) (.int .i64 a)
  refine bodyPost_ret (results_cell_row rfl _ _ rB 23 _ _ _ rfl hE Try.underlying23 rfl (by kernel_rfl)) rfl ?_
  refine ⟨by rw [HQ.out]; rfl, ?_⟩
  rw [HBB.out]
  exact HBW2.out.trans ((only_set6 _ rB _ _ _ _ _ _).below (by have := HLT.out; have := HSZ2.out; omega) (fun i e => by have e' : i = rB := e; have := HLT.out; omega))

set_option maxRecDepth 100000 in
set_option maxHeartbeats 2000000 in
theorem rtick_2 {W : World} {ck ep un se ki ak : Int} {c x u s k a : Int} {n : Int} (hs : sndG ⟨ck, ep, un, se, ki, ak⟩ = ⟨c, x, u, s, k, a⟩) (h1 : ¬ 9007199254740992 - c < n) (h2 : 0 < n) :
    Calls Try.prog 28 #[.agg #[.int .i64 ck, .int .i64 ep, .int .i64 un, .int .i64 se, .int .i64 ki, .int .i64 ak], .int .i64 n] W fun e w' => e = .returned (GE.val (tickG ⟨ck, ep, un, se, ki, ak⟩ n)) ∧ Below W.heap.size W w' := by
  have hok : okG ⟨c, x, u, s, k, a⟩ := by rw [← hs]; exact snd_ok _
  have HOK := hide hok
  have hc : 0 ≤ c ∧ c ≤ 9007199254740992 := hok.1
  obtain ⟨m, hm⟩ : ∃ m, 9007199254740992 - c = m := ⟨_, rfl⟩
  have e1 : IntKind.i64.wrap (9007199254740992 - c) = m := by rw [IntKind.wrap_i64]; omega
  obtain ⟨t, ht⟩ : ∃ t, laterC c n = t := ⟨_, rfl⟩
  have e2 : IntKind.i64.wrap (c + n) = t := by rw [← ht]; unfold laterC; rw [IntKind.wrap_i64]; omega
  have HQ : Hid (tickG ⟨ck, ep, un, se, ki, ak⟩ n = ⟨t, x, u, s, k, a⟩) := hide (by unfold tickG; rw [hs]; simp only [GE.mk.injEq, and_true]; exact ht)
  rw [hm] at h1
  have d1 : decide (n > m) = false := decide_eq_false h1
  have d2 : decide (n > 0) = true := decide_eq_true h2
  have HS := hide hs
  clear hs hok h1 h2 hc hm ht
  obtain ⟨V0, hV0⟩ : ∃ V0, V0 = W.alloc (.cells #[.int .i64 ck, .int .i64 ep, .int .i64 un, .int .i64 se, .int .i64 ki, .int .i64 ak] 23 (0, 0)) := ⟨_, rfl⟩
  obtain ⟨V, hV⟩ : ∃ V, V = V0.alloc (.cells #[.int .i64 0, .int .i64 0, .int .i64 0, .int .i64 0, .int .i64 0, .int .i64 0] 23 (0, 0)) := ⟨_, rfl⟩
  have bV0 : Below W.heap.size W V0 := by rw [hV0]; exact alloc_below _ _
  have bV1 : Below V0.heap.size V0 V := by rw [hV]; exact alloc_below _ _
  have v0 : V0.heap[W.heap.size]? = some (.cells #[.int .i64 ck, .int .i64 ep, .int .i64 un, .int .i64 se, .int .i64 ki, .int .i64 ak] 23 (0, 0)) := by rw [hV0]; exact heap_alloc_new W _
  have v1 : V.heap[V0.heap.size]? = some (.cells #[.int .i64 0, .int .i64 0, .int .i64 0, .int .i64 0, .int .i64 0, .int .i64 0] 23 (0, 0)) := by rw [hV]; exact heap_alloc_new V0 _
  have v2 := below_box bV1 v0
  have hlt := box_lt v0
  have hs0 : V0.heap.size = W.heap.size + 1 := by rw [hV0]; simp
  obtain ⟨bB, hbB⟩ : ∃ bB, W.heap.size = bB := ⟨_, rfl⟩
  obtain ⟨rB, hrB⟩ : ∃ rB, V0.heap.size = rB := ⟨_, rfl⟩
  have hrb : bB + 1 = rB := by omega
  rw [hbB, hrB] at hlt
  rw [hbB] at v2
  rw [hrB] at v1
  have HBW0 : Hid (Below bB W V) := hide (by rw [← hbB]; exact below_next bV0 bV1 bV0.size)
  have HBX0 := hide v2
  have HRS0 := hide v1
  have HBB := hide hbB
  have HLT := hide hlt
  have HSZ0 := hide (box_lt v1)
  clear v0 v1 v2 bV0 bV1
  go_enter Try.func28, Try.ntmps28
  go_upto_region 1 with fail
  try rw [hbB]
  try rw [hrb]
  rw [← hV0, ← hV]
  try rw [hrB]
  clear hV0 hV hbB hrB hs0 hrb hlt
  obtain ⟨_, _, _, _, _, _, u0, u1, u2, u3, u4, u5⟩ := six HBX0.out
  go_wp2_with fail
  refine (may_any).mono ?_
  rw [HS.out]
  simp only [GE.val, GE.row]
  rintro _ w1 ⟨rfl, b1⟩
  have HBX1 := hide (below_box b1 HBX0.out)
  have HRS1 := hide (below_box b1 HRS0.out)
  have HBW1 := hide (below_next HBW0.out b1 (by have := HLT.out; have := HSZ0.out; omega))
  have HSZ1 := hide (box_lt HRS1.out)
  clear b1 HBX0 HRS0 HBW0 HSZ0 u0 u1 u2 u3 u4 u5
  obtain ⟨_, _, _, _, _, _, u0, u1, u2, u3, u4, u5⟩ := six HBX1.out
  go_upto_region 2 with fail
  obtain ⟨X, hX⟩ : ∃ X, X = ((((((w1.setCell ⟨bB, 0, none⟩ (.int .i64 c)).setCell ⟨bB, 1, none⟩ (.int .i64 x)).setCell ⟨bB, 2, none⟩ (.int .i64 u)).setCell ⟨bB, 3, none⟩ (.int .i64 s)).setCell ⟨bB, 4, none⟩ (.int .i64 k)).setCell ⟨bB, 5, none⟩ (.int .i64 a)) := ⟨_, rfl⟩
  have oX : Only (· = bB) w1 X := by rw [hX]; exact ((((((Only.set (F := (· = bB)) _ bB 0 (.int .i64 c) rfl).trans (Only.set (F := (· = bB)) _ bB 1 (.int .i64 x) rfl)).trans (Only.set (F := (· = bB)) _ bB 2 (.int .i64 u) rfl)).trans (Only.set (F := (· = bB)) _ bB 3 (.int .i64 s) rfl)).trans (Only.set (F := (· = bB)) _ bB 4 (.int .i64 k) rfl)).trans (Only.set (F := (· = bB)) _ bB 5 (.int .i64 a) rfl))
  have HBX2 : Hid (X.heap[bB]? = some (.cells #[.int .i64 c, .int .i64 x, .int .i64 u, .int .i64 s, .int .i64 k, .int .i64 a] 23 (0, 0))) := hide (by rw [hX]; exact (heap_set_sameL (heap_set_sameL (heap_set_sameL (heap_set_sameL (heap_set_sameL (heap_set_sameL HBX1.out 0 (.int .i64 c)) 1 (.int .i64 x)) 2 (.int .i64 u)) 3 (.int .i64 s)) 4 (.int .i64 k)) 5 (.int .i64 a)))
  have HRS2 := hide (oX.obj HRS1.out (fun e => by have e' : rB = bB := e; have := HLT.out; omega))
  have HBW2 := hide (HBW1.out.trans (oX.below (by have := HLT.out; have := HSZ1.out; omega) (fun i e => by have e' : i = bB := e; omega)))
  have HSZ2 := hide (box_lt HRS2.out)
  rw [← hX]
  clear hX oX HBX1 HRS1 HBW1 HSZ1 u0 u1 u2 u3 u4 u5
  obtain ⟨_, _, _, _, _, _, u0, u1, u2, u3, u4, u5⟩ := six HBX2.out
  go_upto_region 6 with fail
  obtain ⟨Y, hY⟩ : ∃ Y, Y = (X.setCell ⟨bB, 0, none⟩ (.int .i64 t)) := ⟨_, rfl⟩
  have oY : Only (· = bB) X Y := by rw [hY]; exact (Only.set (F := (· = bB)) _ bB 0 (.int .i64 t) rfl)
  have HBX3 : Hid (Y.heap[bB]? = some (.cells #[.int .i64 t, .int .i64 x, .int .i64 u, .int .i64 s, .int .i64 k, .int .i64 a] 23 (0, 0))) := hide (by rw [hY]; exact (heap_set_sameL HBX2.out 0 (.int .i64 t)))
  have HRS3 := hide (oY.obj HRS2.out (fun e => by have e' : rB = bB := e; have := HLT.out; omega))
  have HBW3 := hide (HBW2.out.trans (oY.below (by have := HLT.out; have := HSZ2.out; omega) (fun i e => by have e' : i = bB := e; omega)))
  have HSZ3 := hide (box_lt HRS3.out)
  rw [← hY]
  clear hY oY HBX2 HRS2 HBW2 HSZ2 u0 u1 u2 u3 u4 u5
  obtain ⟨_, _, _, _, _, _, u0, u1, u2, u3, u4, u5⟩ := six HBX3.out
  obtain ⟨f0, f1, f2, f3, f4, f5, r0, r1, r2, r3, r4, r5⟩ := six HRS3.out
  go_wp2
  have hE := heap_set6 HRS3.out (.int .i64 t) (.int .i64 x) (.int .i64 u) (.int .i64 s) (.int .i64 k) (.int .i64 a)
  refine bodyPost_ret (results_cell_row rfl _ _ rB 23 _ _ _ rfl hE Try.underlying23 rfl (by kernel_rfl)) rfl ?_
  refine ⟨by rw [HQ.out]; rfl, ?_⟩
  rw [HBB.out]
  exact HBW3.out.trans ((only_set6 _ rB _ _ _ _ _ _).below (by have := HLT.out; have := HSZ3.out; omega) (fun i e => by have e' : i = rB := e; have := HLT.out; omega))

set_option maxRecDepth 100000 in
set_option maxHeartbeats 2000000 in
theorem rtick_3 {W : World} {ck ep un se ki ak : Int} {c x u s k a : Int} {n : Int} (hs : sndG ⟨ck, ep, un, se, ki, ak⟩ = ⟨c, x, u, s, k, a⟩) (h1 : ¬ 9007199254740992 - c < n) (h2 : ¬ 0 < n) :
    Calls Try.prog 28 #[.agg #[.int .i64 ck, .int .i64 ep, .int .i64 un, .int .i64 se, .int .i64 ki, .int .i64 ak], .int .i64 n] W fun e w' => e = .returned (GE.val (tickG ⟨ck, ep, un, se, ki, ak⟩ n)) ∧ Below W.heap.size W w' := by
  have hok : okG ⟨c, x, u, s, k, a⟩ := by rw [← hs]; exact snd_ok _
  have HOK := hide hok
  have hc : 0 ≤ c ∧ c ≤ 9007199254740992 := hok.1
  obtain ⟨m, hm⟩ : ∃ m, 9007199254740992 - c = m := ⟨_, rfl⟩
  have e1 : IntKind.i64.wrap (9007199254740992 - c) = m := by rw [IntKind.wrap_i64]; omega
  have HQ : Hid (tickG ⟨ck, ep, un, se, ki, ak⟩ n = ⟨c, x, u, s, k, a⟩) := hide (by unfold tickG; rw [hs]; simp only [GE.mk.injEq, and_true]; unfold laterC; omega)
  rw [hm] at h1
  have d1 : decide (n > m) = false := decide_eq_false h1
  have d2 : decide (n > 0) = false := decide_eq_false h2
  have HS := hide hs
  clear hs hok h1 h2 hc hm
  obtain ⟨V0, hV0⟩ : ∃ V0, V0 = W.alloc (.cells #[.int .i64 ck, .int .i64 ep, .int .i64 un, .int .i64 se, .int .i64 ki, .int .i64 ak] 23 (0, 0)) := ⟨_, rfl⟩
  obtain ⟨V, hV⟩ : ∃ V, V = V0.alloc (.cells #[.int .i64 0, .int .i64 0, .int .i64 0, .int .i64 0, .int .i64 0, .int .i64 0] 23 (0, 0)) := ⟨_, rfl⟩
  have bV0 : Below W.heap.size W V0 := by rw [hV0]; exact alloc_below _ _
  have bV1 : Below V0.heap.size V0 V := by rw [hV]; exact alloc_below _ _
  have v0 : V0.heap[W.heap.size]? = some (.cells #[.int .i64 ck, .int .i64 ep, .int .i64 un, .int .i64 se, .int .i64 ki, .int .i64 ak] 23 (0, 0)) := by rw [hV0]; exact heap_alloc_new W _
  have v1 : V.heap[V0.heap.size]? = some (.cells #[.int .i64 0, .int .i64 0, .int .i64 0, .int .i64 0, .int .i64 0, .int .i64 0] 23 (0, 0)) := by rw [hV]; exact heap_alloc_new V0 _
  have v2 := below_box bV1 v0
  have hlt := box_lt v0
  have hs0 : V0.heap.size = W.heap.size + 1 := by rw [hV0]; simp
  obtain ⟨bB, hbB⟩ : ∃ bB, W.heap.size = bB := ⟨_, rfl⟩
  obtain ⟨rB, hrB⟩ : ∃ rB, V0.heap.size = rB := ⟨_, rfl⟩
  have hrb : bB + 1 = rB := by omega
  rw [hbB, hrB] at hlt
  rw [hbB] at v2
  rw [hrB] at v1
  have HBW0 : Hid (Below bB W V) := hide (by rw [← hbB]; exact below_next bV0 bV1 bV0.size)
  have HBX0 := hide v2
  have HRS0 := hide v1
  have HBB := hide hbB
  have HLT := hide hlt
  have HSZ0 := hide (box_lt v1)
  clear v0 v1 v2 bV0 bV1
  go_enter Try.func28, Try.ntmps28
  go_upto_region 1 with fail
  try rw [hbB]
  try rw [hrb]
  rw [← hV0, ← hV]
  try rw [hrB]
  clear hV0 hV hbB hrB hs0 hrb hlt
  obtain ⟨_, _, _, _, _, _, u0, u1, u2, u3, u4, u5⟩ := six HBX0.out
  go_wp2_with fail
  refine (may_any).mono ?_
  rw [HS.out]
  simp only [GE.val, GE.row]
  rintro _ w1 ⟨rfl, b1⟩
  have HBX1 := hide (below_box b1 HBX0.out)
  have HRS1 := hide (below_box b1 HRS0.out)
  have HBW1 := hide (below_next HBW0.out b1 (by have := HLT.out; have := HSZ0.out; omega))
  have HSZ1 := hide (box_lt HRS1.out)
  clear b1 HBX0 HRS0 HBW0 HSZ0 u0 u1 u2 u3 u4 u5
  obtain ⟨_, _, _, _, _, _, u0, u1, u2, u3, u4, u5⟩ := six HBX1.out
  go_upto_region 2 with fail
  obtain ⟨X, hX⟩ : ∃ X, X = ((((((w1.setCell ⟨bB, 0, none⟩ (.int .i64 c)).setCell ⟨bB, 1, none⟩ (.int .i64 x)).setCell ⟨bB, 2, none⟩ (.int .i64 u)).setCell ⟨bB, 3, none⟩ (.int .i64 s)).setCell ⟨bB, 4, none⟩ (.int .i64 k)).setCell ⟨bB, 5, none⟩ (.int .i64 a)) := ⟨_, rfl⟩
  have oX : Only (· = bB) w1 X := by rw [hX]; exact ((((((Only.set (F := (· = bB)) _ bB 0 (.int .i64 c) rfl).trans (Only.set (F := (· = bB)) _ bB 1 (.int .i64 x) rfl)).trans (Only.set (F := (· = bB)) _ bB 2 (.int .i64 u) rfl)).trans (Only.set (F := (· = bB)) _ bB 3 (.int .i64 s) rfl)).trans (Only.set (F := (· = bB)) _ bB 4 (.int .i64 k) rfl)).trans (Only.set (F := (· = bB)) _ bB 5 (.int .i64 a) rfl))
  have HBX2 : Hid (X.heap[bB]? = some (.cells #[.int .i64 c, .int .i64 x, .int .i64 u, .int .i64 s, .int .i64 k, .int .i64 a] 23 (0, 0))) := hide (by rw [hX]; exact (heap_set_sameL (heap_set_sameL (heap_set_sameL (heap_set_sameL (heap_set_sameL (heap_set_sameL HBX1.out 0 (.int .i64 c)) 1 (.int .i64 x)) 2 (.int .i64 u)) 3 (.int .i64 s)) 4 (.int .i64 k)) 5 (.int .i64 a)))
  have HRS2 := hide (oX.obj HRS1.out (fun e => by have e' : rB = bB := e; have := HLT.out; omega))
  have HBW2 := hide (HBW1.out.trans (oX.below (by have := HLT.out; have := HSZ1.out; omega) (fun i e => by have e' : i = bB := e; omega)))
  have HSZ2 := hide (box_lt HRS2.out)
  rw [← hX]
  clear hX oX HBX1 HRS1 HBW1 HSZ1 u0 u1 u2 u3 u4 u5
  obtain ⟨_, _, _, _, _, _, u0, u1, u2, u3, u4, u5⟩ := six HBX2.out
  go_upto_region 6 with fail
  obtain ⟨f0, f1, f2, f3, f4, f5, r0, r1, r2, r3, r4, r5⟩ := six HRS2.out
  go_wp2
  have hE := heap_set6 HRS2.out (.int .i64 c) (.int .i64 x) (.int .i64 u) (.int .i64 s) (.int .i64 k) (.int .i64 a)
  refine bodyPost_ret (results_cell_row rfl _ _ rB 23 _ _ _ rfl hE Try.underlying23 rfl (by kernel_rfl)) rfl ?_
  refine ⟨by rw [HQ.out]; rfl, ?_⟩
  rw [HBB.out]
  exact HBW2.out.trans ((only_set6 _ rB _ _ _ _ _ _).below (by have := HLT.out; have := HSZ2.out; omega) (fun i e => by have e' : i = rB := e; have := HLT.out; omega))

theorem rtick_any {W : World} {ck ep un se ki ak : Int} {n : Int} : Calls Try.prog 28 #[.agg #[.int .i64 ck, .int .i64 ep, .int .i64 un, .int .i64 se, .int .i64 ki, .int .i64 ak], .int .i64 n] W fun e w' => e = .returned (GE.val (tickG ⟨ck, ep, un, se, ki, ak⟩ n)) ∧ Below W.heap.size W w' := by
  obtain ⟨⟨c, x, u, s, k, a⟩, hs⟩ : ∃ q, sndG ⟨ck, ep, un, se, ki, ak⟩ = q := ⟨_, rfl⟩
  by_cases h1 : 9007199254740992 - c < n
  · by_cases h2 : 0 < 9007199254740992 - c
    · exact rtick_0 hs h1 h2
    · exact rtick_1 hs h1 h2
  · by_cases h2 : 0 < n
    · exact rtick_2 hs h1 h2
    · exact rtick_3 hs h1 h2
set_option maxRecDepth 100000 in
set_option maxHeartbeats 2000000 in
theorem yie_any {W : World} {ck ep un se ki ak : Int}   :
    Calls Try.prog 33 #[.agg #[.int .i64 ck, .int .i64 ep, .int .i64 un, .int .i64 se, .int .i64 ki, .int .i64 ak]] W fun e w' => e = .returned (GE.val (yieG ⟨ck, ep, un, se, ki, ak⟩)) ∧ Below W.heap.size W w' := by
  obtain ⟨⟨c, x, u, s, k, a⟩, hs⟩ : ∃ q, sndG ⟨ck, ep, un, se, ki, ak⟩ = q := ⟨_, rfl⟩
  have hok : okG ⟨c, x, u, s, k, a⟩ := by rw [← hs]; exact snd_ok _
  have HOK := hide hok
  have HS := hide hs
  have HQ : Hid (yieG ⟨ck, ep, un, se, ki, ak⟩ = ⟨c, 0, 0, s, 0, 0⟩) := hide (by unfold yieG; rw [hs]; rfl)
  clear hs hok
  obtain ⟨V0, hV0⟩ : ∃ V0, V0 = W.alloc (.cells #[.int .i64 ck, .int .i64 ep, .int .i64 un, .int .i64 se, .int .i64 ki, .int .i64 ak] 23 (0, 0)) := ⟨_, rfl⟩
  obtain ⟨V, hV⟩ : ∃ V, V = V0.alloc (.cells #[.int .i64 0, .int .i64 0, .int .i64 0, .int .i64 0, .int .i64 0, .int .i64 0] 23 (0, 0)) := ⟨_, rfl⟩
  have bV0 : Below W.heap.size W V0 := by rw [hV0]; exact alloc_below _ _
  have bV1 : Below V0.heap.size V0 V := by rw [hV]; exact alloc_below _ _
  have v0 : V0.heap[W.heap.size]? = some (.cells #[.int .i64 ck, .int .i64 ep, .int .i64 un, .int .i64 se, .int .i64 ki, .int .i64 ak] 23 (0, 0)) := by rw [hV0]; exact heap_alloc_new W _
  have v1 : V.heap[V0.heap.size]? = some (.cells #[.int .i64 0, .int .i64 0, .int .i64 0, .int .i64 0, .int .i64 0, .int .i64 0] 23 (0, 0)) := by rw [hV]; exact heap_alloc_new V0 _
  have v2 := below_box bV1 v0
  have hlt := box_lt v0
  have hs0 : V0.heap.size = W.heap.size + 1 := by rw [hV0]; simp
  obtain ⟨bB, hbB⟩ : ∃ bB, W.heap.size = bB := ⟨_, rfl⟩
  obtain ⟨rB, hrB⟩ : ∃ rB, V0.heap.size = rB := ⟨_, rfl⟩
  have hrb : bB + 1 = rB := by omega
  rw [hbB, hrB] at hlt
  rw [hbB] at v2
  rw [hrB] at v1
  have HBW0 : Hid (Below bB W V) := hide (by rw [← hbB]; exact below_next bV0 bV1 bV0.size)
  have HBX0 := hide v2
  have HRS0 := hide v1
  have HBB := hide hbB
  have HLT := hide hlt
  have HSZ0 := hide (box_lt v1)
  clear v0 v1 v2 bV0 bV1
  go_enter Try.func33, Try.ntmps33
  go_upto_region 1 with fail
  try rw [hbB]
  try rw [hrb]
  rw [← hV0, ← hV]
  try rw [hrB]
  clear hV0 hV hbB hrB hs0 hrb hlt
  obtain ⟨_, _, _, _, _, _, u0, u1, u2, u3, u4, u5⟩ := six HBX0.out
  go_wp2_with fail
  refine (snd_any).mono ?_
  rw [HS.out]
  simp only [GE.val, GE.row]
  rintro _ w1 ⟨rfl, b1⟩
  have HBX1 := hide (below_box b1 HBX0.out)
  have HRS1 := hide (below_box b1 HRS0.out)
  have HBW1 := hide (below_next HBW0.out b1 (by have := HLT.out; have := HSZ0.out; omega))
  have HSZ1 := hide (box_lt HRS1.out)
  clear b1 HBX0 HRS0 HBW0 HSZ0 u0 u1 u2 u3 u4 u5
  obtain ⟨_, _, _, _, _, _, u0, u1, u2, u3, u4, u5⟩ := six HBX1.out
  go_upto_region 2 with fail
  obtain ⟨X, hX⟩ : ∃ X, X = ((((((w1.setCell ⟨bB, 0, none⟩ (.int .i64 c)).setCell ⟨bB, 1, none⟩ (.int .i64 x)).setCell ⟨bB, 2, none⟩ (.int .i64 u)).setCell ⟨bB, 3, none⟩ (.int .i64 s)).setCell ⟨bB, 4, none⟩ (.int .i64 k)).setCell ⟨bB, 5, none⟩ (.int .i64 a)) := ⟨_, rfl⟩
  have oX : Only (· = bB) w1 X := by rw [hX]; exact ((((((Only.set (F := (· = bB)) _ bB 0 (.int .i64 c) rfl).trans (Only.set (F := (· = bB)) _ bB 1 (.int .i64 x) rfl)).trans (Only.set (F := (· = bB)) _ bB 2 (.int .i64 u) rfl)).trans (Only.set (F := (· = bB)) _ bB 3 (.int .i64 s) rfl)).trans (Only.set (F := (· = bB)) _ bB 4 (.int .i64 k) rfl)).trans (Only.set (F := (· = bB)) _ bB 5 (.int .i64 a) rfl))
  have HBX2 : Hid (X.heap[bB]? = some (.cells #[.int .i64 c, .int .i64 x, .int .i64 u, .int .i64 s, .int .i64 k, .int .i64 a] 23 (0, 0))) := hide (by rw [hX]; exact (heap_set_sameL (heap_set_sameL (heap_set_sameL (heap_set_sameL (heap_set_sameL (heap_set_sameL HBX1.out 0 (.int .i64 c)) 1 (.int .i64 x)) 2 (.int .i64 u)) 3 (.int .i64 s)) 4 (.int .i64 k)) 5 (.int .i64 a)))
  have HRS2 := hide (oX.obj HRS1.out (fun e => by have e' : rB = bB := e; have := HLT.out; omega))
  have HBW2 := hide (HBW1.out.trans (oX.below (by have := HLT.out; have := HSZ1.out; omega) (fun i e => by have e' : i = bB := e; omega)))
  have HSZ2 := hide (box_lt HRS2.out)
  rw [← hX]
  clear hX oX HBX1 HRS1 HBW1 HSZ1 u0 u1 u2 u3 u4 u5
  obtain ⟨_, _, _, _, _, _, u0, u1, u2, u3, u4, u5⟩ := six HBX2.out
  go_upto_region 3 with fail
  obtain ⟨Y, hY⟩ : ∃ Y, Y = ((X.setCell ⟨bB, 1, none⟩ (.int .i64 0)).setCell ⟨bB, 2, none⟩ (.int .i64 0)) := ⟨_, rfl⟩
  have oY : Only (· = bB) X Y := by rw [hY]; exact ((Only.set (F := (· = bB)) _ bB 1 (.int .i64 0) rfl).trans (Only.set (F := (· = bB)) _ bB 2 (.int .i64 0) rfl))
  have HBX3 : Hid (Y.heap[bB]? = some (.cells #[.int .i64 c, .int .i64 0, .int .i64 0, .int .i64 s, .int .i64 k, .int .i64 a] 23 (0, 0))) := hide (by rw [hY]; exact (heap_set_sameL (heap_set_sameL HBX2.out 1 (.int .i64 0)) 2 (.int .i64 0)))
  have HRS3 := hide (oY.obj HRS2.out (fun e => by have e' : rB = bB := e; have := HLT.out; omega))
  have HBW3 := hide (HBW2.out.trans (oY.below (by have := HLT.out; have := HSZ2.out; omega) (fun i e => by have e' : i = bB := e; omega)))
  have HSZ3 := hide (box_lt HRS3.out)
  rw [← hY]
  clear hY oY HBX2 HRS2 HBW2 HSZ2 u0 u1 u2 u3 u4 u5
  obtain ⟨_, _, _, _, _, _, u0, u1, u2, u3, u4, u5⟩ := six HBX3.out
  go_wp2_with fail
  refine (ans_any).mono ?_
  simp only [GE.val, GE.row, ansG]
  rintro _ w4 ⟨rfl, b4⟩
  have HBX4 := hide (below_box b4 HBX3.out)
  have HRS4 := hide (below_box b4 HRS3.out)
  have HBW4 := hide (below_next HBW3.out b4 (by have := HLT.out; have := HSZ3.out; omega))
  have HSZ4 := hide (box_lt HRS4.out)
  clear b4 HBX3 HRS3 HBW3 HSZ3 u0 u1 u2 u3 u4 u5
  obtain ⟨f0, f1, f2, f3, f4, f5, r0, r1, r2, r3, r4, r5⟩ := six HRS4.out
  go_wp2
  have hE := heap_set6 HRS4.out (.int .i64 c) (.int .i64 0) (.int .i64 0) (.int .i64 s) (.int .i64 0) (.int .i64 0)
  refine bodyPost_ret (results_cell_row rfl _ _ rB 23 _ _ _ rfl hE Try.underlying23 rfl (by kernel_rfl)) rfl ?_
  refine ⟨by rw [HQ.out]; rfl, ?_⟩
  rw [HBB.out]
  exact HBW4.out.trans ((only_set6 _ rB _ _ _ _ _ _).below (by have := HLT.out; have := HSZ4.out; omega) (fun i e => by have e' : i = rB := e; have := HLT.out; omega))

set_option maxRecDepth 100000 in
set_option maxHeartbeats 2000000 in
theorem ryie_any {W : World} {ck ep un se ki ak : Int}   :
    Calls Try.prog 34 #[.agg #[.int .i64 ck, .int .i64 ep, .int .i64 un, .int .i64 se, .int .i64 ki, .int .i64 ak]] W fun e w' => e = .returned (GE.val (yieG ⟨ck, ep, un, se, ki, ak⟩)) ∧ Below W.heap.size W w' := by
  obtain ⟨⟨c, x, u, s, k, a⟩, hs⟩ : ∃ q, sndG ⟨ck, ep, un, se, ki, ak⟩ = q := ⟨_, rfl⟩
  have hok : okG ⟨c, x, u, s, k, a⟩ := by rw [← hs]; exact snd_ok _
  have HOK := hide hok
  have HS := hide hs
  have HQ : Hid (yieG ⟨ck, ep, un, se, ki, ak⟩ = ⟨c, 0, 0, s, 0, 0⟩) := hide (by unfold yieG; rw [hs]; rfl)
  clear hs hok
  obtain ⟨V0, hV0⟩ : ∃ V0, V0 = W.alloc (.cells #[.int .i64 ck, .int .i64 ep, .int .i64 un, .int .i64 se, .int .i64 ki, .int .i64 ak] 23 (0, 0)) := ⟨_, rfl⟩
  obtain ⟨V, hV⟩ : ∃ V, V = V0.alloc (.cells #[.int .i64 0, .int .i64 0, .int .i64 0, .int .i64 0, .int .i64 0, .int .i64 0] 23 (0, 0)) := ⟨_, rfl⟩
  have bV0 : Below W.heap.size W V0 := by rw [hV0]; exact alloc_below _ _
  have bV1 : Below V0.heap.size V0 V := by rw [hV]; exact alloc_below _ _
  have v0 : V0.heap[W.heap.size]? = some (.cells #[.int .i64 ck, .int .i64 ep, .int .i64 un, .int .i64 se, .int .i64 ki, .int .i64 ak] 23 (0, 0)) := by rw [hV0]; exact heap_alloc_new W _
  have v1 : V.heap[V0.heap.size]? = some (.cells #[.int .i64 0, .int .i64 0, .int .i64 0, .int .i64 0, .int .i64 0, .int .i64 0] 23 (0, 0)) := by rw [hV]; exact heap_alloc_new V0 _
  have v2 := below_box bV1 v0
  have hlt := box_lt v0
  have hs0 : V0.heap.size = W.heap.size + 1 := by rw [hV0]; simp
  obtain ⟨bB, hbB⟩ : ∃ bB, W.heap.size = bB := ⟨_, rfl⟩
  obtain ⟨rB, hrB⟩ : ∃ rB, V0.heap.size = rB := ⟨_, rfl⟩
  have hrb : bB + 1 = rB := by omega
  rw [hbB, hrB] at hlt
  rw [hbB] at v2
  rw [hrB] at v1
  have HBW0 : Hid (Below bB W V) := hide (by rw [← hbB]; exact below_next bV0 bV1 bV0.size)
  have HBX0 := hide v2
  have HRS0 := hide v1
  have HBB := hide hbB
  have HLT := hide hlt
  have HSZ0 := hide (box_lt v1)
  clear v0 v1 v2 bV0 bV1
  go_enter Try.func34, Try.ntmps34
  go_upto_region 1 with fail
  try rw [hbB]
  try rw [hrb]
  rw [← hV0, ← hV]
  try rw [hrB]
  clear hV0 hV hbB hrB hs0 hrb hlt
  obtain ⟨_, _, _, _, _, _, u0, u1, u2, u3, u4, u5⟩ := six HBX0.out
  go_wp2_with fail
  refine (may_any).mono ?_
  rw [HS.out]
  simp only [GE.val, GE.row]
  rintro _ w1 ⟨rfl, b1⟩
  have HBX1 := hide (below_box b1 HBX0.out)
  have HRS1 := hide (below_box b1 HRS0.out)
  have HBW1 := hide (below_next HBW0.out b1 (by have := HLT.out; have := HSZ0.out; omega))
  have HSZ1 := hide (box_lt HRS1.out)
  clear b1 HBX0 HRS0 HBW0 HSZ0 u0 u1 u2 u3 u4 u5
  obtain ⟨_, _, _, _, _, _, u0, u1, u2, u3, u4, u5⟩ := six HBX1.out
  go_upto_region 2 with fail
  obtain ⟨X, hX⟩ : ∃ X, X = ((((((w1.setCell ⟨bB, 0, none⟩ (.int .i64 c)).setCell ⟨bB, 1, none⟩ (.int .i64 x)).setCell ⟨bB, 2, none⟩ (.int .i64 u)).setCell ⟨bB, 3, none⟩ (.int .i64 s)).setCell ⟨bB, 4, none⟩ (.int .i64 k)).setCell ⟨bB, 5, none⟩ (.int .i64 a)) := ⟨_, rfl⟩
  have oX : Only (· = bB) w1 X := by rw [hX]; exact ((((((Only.set (F := (· = bB)) _ bB 0 (.int .i64 c) rfl).trans (Only.set (F := (· = bB)) _ bB 1 (.int .i64 x) rfl)).trans (Only.set (F := (· = bB)) _ bB 2 (.int .i64 u) rfl)).trans (Only.set (F := (· = bB)) _ bB 3 (.int .i64 s) rfl)).trans (Only.set (F := (· = bB)) _ bB 4 (.int .i64 k) rfl)).trans (Only.set (F := (· = bB)) _ bB 5 (.int .i64 a) rfl))
  have HBX2 : Hid (X.heap[bB]? = some (.cells #[.int .i64 c, .int .i64 x, .int .i64 u, .int .i64 s, .int .i64 k, .int .i64 a] 23 (0, 0))) := hide (by rw [hX]; exact (heap_set_sameL (heap_set_sameL (heap_set_sameL (heap_set_sameL (heap_set_sameL (heap_set_sameL HBX1.out 0 (.int .i64 c)) 1 (.int .i64 x)) 2 (.int .i64 u)) 3 (.int .i64 s)) 4 (.int .i64 k)) 5 (.int .i64 a)))
  have HRS2 := hide (oX.obj HRS1.out (fun e => by have e' : rB = bB := e; have := HLT.out; omega))
  have HBW2 := hide (HBW1.out.trans (oX.below (by have := HLT.out; have := HSZ1.out; omega) (fun i e => by have e' : i = bB := e; omega)))
  have HSZ2 := hide (box_lt HRS2.out)
  rw [← hX]
  clear hX oX HBX1 HRS1 HBW1 HSZ1 u0 u1 u2 u3 u4 u5
  obtain ⟨_, _, _, _, _, _, u0, u1, u2, u3, u4, u5⟩ := six HBX2.out
  obtain ⟨f0, f1, f2, f3, f4, f5, r0, r1, r2, r3, r4, r5⟩ := six HRS2.out
  go_wp2
  have hE := heap_set6 HRS2.out (.int .i64 c) (.int .i64 0) (.int .i64 0) (.int .i64 s) (.int .i64 0) (.int .i64 0)
  refine bodyPost_ret (results_cell_row rfl _ _ rB 23 _ _ _ rfl hE Try.underlying23 rfl (by kernel_rfl)) rfl ?_
  refine ⟨by rw [HQ.out]; rfl, ?_⟩
  rw [HBB.out]
  exact HBW2.out.trans ((only_set6 _ rB _ _ _ _ _ _).below (by have := HLT.out; have := HSZ2.out; omega) (fun i e => by have e' : i = rB := e; have := HLT.out; omega))

set_option maxRecDepth 100000 in
set_option maxHeartbeats 2000000 in
theorem abv_0 {W : World} {ck ep un se ki ak : Int} {c x u s k a : Int} {n : Int} (hs : sndG ⟨ck, ep, un, se, ki, ak⟩ = ⟨c, x, u, s, k, a⟩) (h : x = 0) :
    Calls Try.prog 35 #[.agg #[.int .i64 ck, .int .i64 ep, .int .i64 un, .int .i64 se, .int .i64 ki, .int .i64 ak], .int .i64 n] W fun e w' => e = .returned (GE.val (abvG ⟨ck, ep, un, se, ki, ak⟩ n)) ∧ Below W.heap.size W w' := by
  have HQ : Hid (abvG ⟨ck, ep, un, se, ki, ak⟩ n = ⟨c, x, u, s, k, a⟩) := hide (by unfold abvG; rw [hs]; exact if_neg (fun q => q.1 h))
  have d1 : (x != 0) = false := by simp [h]
  have d2 : (x == 0) = true := by simpa using h
  have HS := hide hs
  clear hs h
  obtain ⟨V0, hV0⟩ : ∃ V0, V0 = W.alloc (.cells #[.int .i64 ck, .int .i64 ep, .int .i64 un, .int .i64 se, .int .i64 ki, .int .i64 ak] 23 (0, 0)) := ⟨_, rfl⟩
  obtain ⟨V, hV⟩ : ∃ V, V = V0.alloc (.cells #[.int .i64 0, .int .i64 0, .int .i64 0, .int .i64 0, .int .i64 0, .int .i64 0] 23 (0, 0)) := ⟨_, rfl⟩
  have bV0 : Below W.heap.size W V0 := by rw [hV0]; exact alloc_below _ _
  have bV1 : Below V0.heap.size V0 V := by rw [hV]; exact alloc_below _ _
  have v0 : V0.heap[W.heap.size]? = some (.cells #[.int .i64 ck, .int .i64 ep, .int .i64 un, .int .i64 se, .int .i64 ki, .int .i64 ak] 23 (0, 0)) := by rw [hV0]; exact heap_alloc_new W _
  have v1 : V.heap[V0.heap.size]? = some (.cells #[.int .i64 0, .int .i64 0, .int .i64 0, .int .i64 0, .int .i64 0, .int .i64 0] 23 (0, 0)) := by rw [hV]; exact heap_alloc_new V0 _
  have v2 := below_box bV1 v0
  have hlt := box_lt v0
  have hs0 : V0.heap.size = W.heap.size + 1 := by rw [hV0]; simp
  obtain ⟨bB, hbB⟩ : ∃ bB, W.heap.size = bB := ⟨_, rfl⟩
  obtain ⟨rB, hrB⟩ : ∃ rB, V0.heap.size = rB := ⟨_, rfl⟩
  have hrb : bB + 1 = rB := by omega
  rw [hbB, hrB] at hlt
  rw [hbB] at v2
  rw [hrB] at v1
  have HBW0 : Hid (Below bB W V) := hide (by rw [← hbB]; exact below_next bV0 bV1 bV0.size)
  have HBX0 := hide v2
  have HRS0 := hide v1
  have HBB := hide hbB
  have HLT := hide hlt
  have HSZ0 := hide (box_lt v1)
  clear v0 v1 v2 bV0 bV1
  go_enter Try.func35, Try.ntmps35
  go_upto_region 1 with fail
  try rw [hbB]
  try rw [hrb]
  rw [← hV0, ← hV]
  try rw [hrB]
  clear hV0 hV hbB hrB hs0 hrb hlt
  obtain ⟨_, _, _, _, _, _, u0, u1, u2, u3, u4, u5⟩ := six HBX0.out
  go_wp2_with fail
  refine (snd_any).mono ?_
  rw [HS.out]
  simp only [GE.val, GE.row]
  rintro _ w1 ⟨rfl, b1⟩
  have HBX1 := hide (below_box b1 HBX0.out)
  have HRS1 := hide (below_box b1 HRS0.out)
  have HBW1 := hide (below_next HBW0.out b1 (by have := HLT.out; have := HSZ0.out; omega))
  have HSZ1 := hide (box_lt HRS1.out)
  clear b1 HBX0 HRS0 HBW0 HSZ0 u0 u1 u2 u3 u4 u5
  obtain ⟨_, _, _, _, _, _, u0, u1, u2, u3, u4, u5⟩ := six HBX1.out
  go_upto_region 2 with fail
  obtain ⟨X, hX⟩ : ∃ X, X = ((((((w1.setCell ⟨bB, 0, none⟩ (.int .i64 c)).setCell ⟨bB, 1, none⟩ (.int .i64 x)).setCell ⟨bB, 2, none⟩ (.int .i64 u)).setCell ⟨bB, 3, none⟩ (.int .i64 s)).setCell ⟨bB, 4, none⟩ (.int .i64 k)).setCell ⟨bB, 5, none⟩ (.int .i64 a)) := ⟨_, rfl⟩
  have oX : Only (· = bB) w1 X := by rw [hX]; exact ((((((Only.set (F := (· = bB)) _ bB 0 (.int .i64 c) rfl).trans (Only.set (F := (· = bB)) _ bB 1 (.int .i64 x) rfl)).trans (Only.set (F := (· = bB)) _ bB 2 (.int .i64 u) rfl)).trans (Only.set (F := (· = bB)) _ bB 3 (.int .i64 s) rfl)).trans (Only.set (F := (· = bB)) _ bB 4 (.int .i64 k) rfl)).trans (Only.set (F := (· = bB)) _ bB 5 (.int .i64 a) rfl))
  have HBX2 : Hid (X.heap[bB]? = some (.cells #[.int .i64 c, .int .i64 x, .int .i64 u, .int .i64 s, .int .i64 k, .int .i64 a] 23 (0, 0))) := hide (by rw [hX]; exact (heap_set_sameL (heap_set_sameL (heap_set_sameL (heap_set_sameL (heap_set_sameL (heap_set_sameL HBX1.out 0 (.int .i64 c)) 1 (.int .i64 x)) 2 (.int .i64 u)) 3 (.int .i64 s)) 4 (.int .i64 k)) 5 (.int .i64 a)))
  have HRS2 := hide (oX.obj HRS1.out (fun e => by have e' : rB = bB := e; have := HLT.out; omega))
  have HBW2 := hide (HBW1.out.trans (oX.below (by have := HLT.out; have := HSZ1.out; omega) (fun i e => by have e' : i = bB := e; omega)))
  have HSZ2 := hide (box_lt HRS2.out)
  rw [← hX]
  clear hX oX HBX1 HRS1 HBW1 HSZ1 u0 u1 u2 u3 u4 u5
  obtain ⟨_, _, _, _, _, _, u0, u1, u2, u3, u4, u5⟩ := six HBX2.out
  obtain ⟨f0, f1, f2, f3, f4, f5, r0, r1, r2, r3, r4, r5⟩ := six HRS2.out
  go_wp2
  have hE := heap_set6 HRS2.out (.int .i64 c) (.int .i64 x) (.int .i64 u) (.int .i64 s) (.int .i64 k) (.int .i64 a)
  refine bodyPost_ret (results_cell_row rfl _ _ rB 23 _ _ _ rfl hE Try.underlying23 rfl (by kernel_rfl)) rfl ?_
  refine ⟨by rw [HQ.out]; rfl, ?_⟩
  rw [HBB.out]
  exact HBW2.out.trans ((only_set6 _ rB _ _ _ _ _ _).below (by have := HLT.out; have := HSZ2.out; omega) (fun i e => by have e' : i = rB := e; have := HLT.out; omega))

set_option maxRecDepth 100000 in
set_option maxHeartbeats 2000000 in
theorem abv_1 {W : World} {ck ep un se ki ak : Int} {c x u s k a : Int} {n : Int} (hs : sndG ⟨ck, ep, un, se, ki, ak⟩ = ⟨c, x, u, s, k, a⟩) (h : x ≠ 0) (h2 : ¬ x < n) :
    Calls Try.prog 35 #[.agg #[.int .i64 ck, .int .i64 ep, .int .i64 un, .int .i64 se, .int .i64 ki, .int .i64 ak], .int .i64 n] W fun e w' => e = .returned (GE.val (abvG ⟨ck, ep, un, se, ki, ak⟩ n)) ∧ Below W.heap.size W w' := by
  have HQ : Hid (abvG ⟨ck, ep, un, se, ki, ak⟩ n = ⟨c, x, u, s, k, a⟩) := hide (by unfold abvG; rw [hs]; exact if_neg (fun q => h2 q.2))
  have d1 : (x != 0) = true := ne_neG h
  have d2 : (x == 0) = false := ne_eqL h
  have d3 : decide (n > x) = false := decide_eq_false h2
  have HS := hide hs
  clear hs h h2
  obtain ⟨V0, hV0⟩ : ∃ V0, V0 = W.alloc (.cells #[.int .i64 ck, .int .i64 ep, .int .i64 un, .int .i64 se, .int .i64 ki, .int .i64 ak] 23 (0, 0)) := ⟨_, rfl⟩
  obtain ⟨V, hV⟩ : ∃ V, V = V0.alloc (.cells #[.int .i64 0, .int .i64 0, .int .i64 0, .int .i64 0, .int .i64 0, .int .i64 0] 23 (0, 0)) := ⟨_, rfl⟩
  have bV0 : Below W.heap.size W V0 := by rw [hV0]; exact alloc_below _ _
  have bV1 : Below V0.heap.size V0 V := by rw [hV]; exact alloc_below _ _
  have v0 : V0.heap[W.heap.size]? = some (.cells #[.int .i64 ck, .int .i64 ep, .int .i64 un, .int .i64 se, .int .i64 ki, .int .i64 ak] 23 (0, 0)) := by rw [hV0]; exact heap_alloc_new W _
  have v1 : V.heap[V0.heap.size]? = some (.cells #[.int .i64 0, .int .i64 0, .int .i64 0, .int .i64 0, .int .i64 0, .int .i64 0] 23 (0, 0)) := by rw [hV]; exact heap_alloc_new V0 _
  have v2 := below_box bV1 v0
  have hlt := box_lt v0
  have hs0 : V0.heap.size = W.heap.size + 1 := by rw [hV0]; simp
  obtain ⟨bB, hbB⟩ : ∃ bB, W.heap.size = bB := ⟨_, rfl⟩
  obtain ⟨rB, hrB⟩ : ∃ rB, V0.heap.size = rB := ⟨_, rfl⟩
  have hrb : bB + 1 = rB := by omega
  rw [hbB, hrB] at hlt
  rw [hbB] at v2
  rw [hrB] at v1
  have HBW0 : Hid (Below bB W V) := hide (by rw [← hbB]; exact below_next bV0 bV1 bV0.size)
  have HBX0 := hide v2
  have HRS0 := hide v1
  have HBB := hide hbB
  have HLT := hide hlt
  have HSZ0 := hide (box_lt v1)
  clear v0 v1 v2 bV0 bV1
  go_enter Try.func35, Try.ntmps35
  go_upto_region 1 with fail
  try rw [hbB]
  try rw [hrb]
  rw [← hV0, ← hV]
  try rw [hrB]
  clear hV0 hV hbB hrB hs0 hrb hlt
  obtain ⟨_, _, _, _, _, _, u0, u1, u2, u3, u4, u5⟩ := six HBX0.out
  go_wp2_with fail
  refine (snd_any).mono ?_
  rw [HS.out]
  simp only [GE.val, GE.row]
  rintro _ w1 ⟨rfl, b1⟩
  have HBX1 := hide (below_box b1 HBX0.out)
  have HRS1 := hide (below_box b1 HRS0.out)
  have HBW1 := hide (below_next HBW0.out b1 (by have := HLT.out; have := HSZ0.out; omega))
  have HSZ1 := hide (box_lt HRS1.out)
  clear b1 HBX0 HRS0 HBW0 HSZ0 u0 u1 u2 u3 u4 u5
  obtain ⟨_, _, _, _, _, _, u0, u1, u2, u3, u4, u5⟩ := six HBX1.out
  go_upto_region 2 with fail
  obtain ⟨X, hX⟩ : ∃ X, X = ((((((w1.setCell ⟨bB, 0, none⟩ (.int .i64 c)).setCell ⟨bB, 1, none⟩ (.int .i64 x)).setCell ⟨bB, 2, none⟩ (.int .i64 u)).setCell ⟨bB, 3, none⟩ (.int .i64 s)).setCell ⟨bB, 4, none⟩ (.int .i64 k)).setCell ⟨bB, 5, none⟩ (.int .i64 a)) := ⟨_, rfl⟩
  have oX : Only (· = bB) w1 X := by rw [hX]; exact ((((((Only.set (F := (· = bB)) _ bB 0 (.int .i64 c) rfl).trans (Only.set (F := (· = bB)) _ bB 1 (.int .i64 x) rfl)).trans (Only.set (F := (· = bB)) _ bB 2 (.int .i64 u) rfl)).trans (Only.set (F := (· = bB)) _ bB 3 (.int .i64 s) rfl)).trans (Only.set (F := (· = bB)) _ bB 4 (.int .i64 k) rfl)).trans (Only.set (F := (· = bB)) _ bB 5 (.int .i64 a) rfl))
  have HBX2 : Hid (X.heap[bB]? = some (.cells #[.int .i64 c, .int .i64 x, .int .i64 u, .int .i64 s, .int .i64 k, .int .i64 a] 23 (0, 0))) := hide (by rw [hX]; exact (heap_set_sameL (heap_set_sameL (heap_set_sameL (heap_set_sameL (heap_set_sameL (heap_set_sameL HBX1.out 0 (.int .i64 c)) 1 (.int .i64 x)) 2 (.int .i64 u)) 3 (.int .i64 s)) 4 (.int .i64 k)) 5 (.int .i64 a)))
  have HRS2 := hide (oX.obj HRS1.out (fun e => by have e' : rB = bB := e; have := HLT.out; omega))
  have HBW2 := hide (HBW1.out.trans (oX.below (by have := HLT.out; have := HSZ1.out; omega) (fun i e => by have e' : i = bB := e; omega)))
  have HSZ2 := hide (box_lt HRS2.out)
  rw [← hX]
  clear hX oX HBX1 HRS1 HBW1 HSZ1 u0 u1 u2 u3 u4 u5
  obtain ⟨_, _, _, _, _, _, u0, u1, u2, u3, u4, u5⟩ := six HBX2.out
  obtain ⟨f0, f1, f2, f3, f4, f5, r0, r1, r2, r3, r4, r5⟩ := six HRS2.out
  go_wp2
  have hE := heap_set6 HRS2.out (.int .i64 c) (.int .i64 x) (.int .i64 u) (.int .i64 s) (.int .i64 k) (.int .i64 a)
  refine bodyPost_ret (results_cell_row rfl _ _ rB 23 _ _ _ rfl hE Try.underlying23 rfl (by kernel_rfl)) rfl ?_
  refine ⟨by rw [HQ.out]; rfl, ?_⟩
  rw [HBB.out]
  exact HBW2.out.trans ((only_set6 _ rB _ _ _ _ _ _).below (by have := HLT.out; have := HSZ2.out; omega) (fun i e => by have e' : i = rB := e; have := HLT.out; omega))

set_option maxRecDepth 100000 in
set_option maxHeartbeats 2000000 in
theorem abv_2 {W : World} {ck ep un se ki ak : Int} {c x u s k a : Int} {n : Int} (hs : sndG ⟨ck, ep, un, se, ki, ak⟩ = ⟨c, x, u, s, k, a⟩) (h : x ≠ 0) (h2 : x < n) :
    Calls Try.prog 35 #[.agg #[.int .i64 ck, .int .i64 ep, .int .i64 un, .int .i64 se, .int .i64 ki, .int .i64 ak], .int .i64 n] W fun e w' => e = .returned (GE.val (abvG ⟨ck, ep, un, se, ki, ak⟩ n)) ∧ Below W.heap.size W w' := by
  have HQ : Hid (abvG ⟨ck, ep, un, se, ki, ak⟩ n = ⟨c, 0, 0, s, 0, 0⟩) := hide (by unfold abvG; rw [hs]; exact if_pos ⟨h, h2⟩)
  have HY : Hid (yieG ⟨c, x, u, s, k, a⟩ = ⟨c, 0, 0, s, 0, 0⟩) := hide (by unfold yieG; rw [snd_same (by rw [← hs]; exact snd_ok _)]; rfl)
  have d1 : (x != 0) = true := ne_neG h
  have d2 : (x == 0) = false := ne_eqL h
  have d3 : decide (n > x) = true := decide_eq_true h2
  have HS := hide hs
  clear hs h h2
  obtain ⟨V0, hV0⟩ : ∃ V0, V0 = W.alloc (.cells #[.int .i64 ck, .int .i64 ep, .int .i64 un, .int .i64 se, .int .i64 ki, .int .i64 ak] 23 (0, 0)) := ⟨_, rfl⟩
  obtain ⟨V, hV⟩ : ∃ V, V = V0.alloc (.cells #[.int .i64 0, .int .i64 0, .int .i64 0, .int .i64 0, .int .i64 0, .int .i64 0] 23 (0, 0)) := ⟨_, rfl⟩
  have bV0 : Below W.heap.size W V0 := by rw [hV0]; exact alloc_below _ _
  have bV1 : Below V0.heap.size V0 V := by rw [hV]; exact alloc_below _ _
  have v0 : V0.heap[W.heap.size]? = some (.cells #[.int .i64 ck, .int .i64 ep, .int .i64 un, .int .i64 se, .int .i64 ki, .int .i64 ak] 23 (0, 0)) := by rw [hV0]; exact heap_alloc_new W _
  have v1 : V.heap[V0.heap.size]? = some (.cells #[.int .i64 0, .int .i64 0, .int .i64 0, .int .i64 0, .int .i64 0, .int .i64 0] 23 (0, 0)) := by rw [hV]; exact heap_alloc_new V0 _
  have v2 := below_box bV1 v0
  have hlt := box_lt v0
  have hs0 : V0.heap.size = W.heap.size + 1 := by rw [hV0]; simp
  obtain ⟨bB, hbB⟩ : ∃ bB, W.heap.size = bB := ⟨_, rfl⟩
  obtain ⟨rB, hrB⟩ : ∃ rB, V0.heap.size = rB := ⟨_, rfl⟩
  have hrb : bB + 1 = rB := by omega
  rw [hbB, hrB] at hlt
  rw [hbB] at v2
  rw [hrB] at v1
  have HBW0 : Hid (Below bB W V) := hide (by rw [← hbB]; exact below_next bV0 bV1 bV0.size)
  have HBX0 := hide v2
  have HRS0 := hide v1
  have HBB := hide hbB
  have HLT := hide hlt
  have HSZ0 := hide (box_lt v1)
  clear v0 v1 v2 bV0 bV1
  go_enter Try.func35, Try.ntmps35
  go_upto_region 1 with fail
  try rw [hbB]
  try rw [hrb]
  rw [← hV0, ← hV]
  try rw [hrB]
  clear hV0 hV hbB hrB hs0 hrb hlt
  obtain ⟨_, _, _, _, _, _, u0, u1, u2, u3, u4, u5⟩ := six HBX0.out
  go_wp2_with fail
  refine (snd_any).mono ?_
  rw [HS.out]
  simp only [GE.val, GE.row]
  rintro _ w1 ⟨rfl, b1⟩
  have HBX1 := hide (below_box b1 HBX0.out)
  have HRS1 := hide (below_box b1 HRS0.out)
  have HBW1 := hide (below_next HBW0.out b1 (by have := HLT.out; have := HSZ0.out; omega))
  have HSZ1 := hide (box_lt HRS1.out)
  clear b1 HBX0 HRS0 HBW0 HSZ0 u0 u1 u2 u3 u4 u5
  obtain ⟨_, _, _, _, _, _, u0, u1, u2, u3, u4, u5⟩ := six HBX1.out
  go_upto_region 2 with fail
  obtain ⟨X, hX⟩ : ∃ X, X = ((((((w1.setCell ⟨bB, 0, none⟩ (.int .i64 c)).setCell ⟨bB, 1, none⟩ (.int .i64 x)).setCell ⟨bB, 2, none⟩ (.int .i64 u)).setCell ⟨bB, 3, none⟩ (.int .i64 s)).setCell ⟨bB, 4, none⟩ (.int .i64 k)).setCell ⟨bB, 5, none⟩ (.int .i64 a)) := ⟨_, rfl⟩
  have oX : Only (· = bB) w1 X := by rw [hX]; exact ((((((Only.set (F := (· = bB)) _ bB 0 (.int .i64 c) rfl).trans (Only.set (F := (· = bB)) _ bB 1 (.int .i64 x) rfl)).trans (Only.set (F := (· = bB)) _ bB 2 (.int .i64 u) rfl)).trans (Only.set (F := (· = bB)) _ bB 3 (.int .i64 s) rfl)).trans (Only.set (F := (· = bB)) _ bB 4 (.int .i64 k) rfl)).trans (Only.set (F := (· = bB)) _ bB 5 (.int .i64 a) rfl))
  have HBX2 : Hid (X.heap[bB]? = some (.cells #[.int .i64 c, .int .i64 x, .int .i64 u, .int .i64 s, .int .i64 k, .int .i64 a] 23 (0, 0))) := hide (by rw [hX]; exact (heap_set_sameL (heap_set_sameL (heap_set_sameL (heap_set_sameL (heap_set_sameL (heap_set_sameL HBX1.out 0 (.int .i64 c)) 1 (.int .i64 x)) 2 (.int .i64 u)) 3 (.int .i64 s)) 4 (.int .i64 k)) 5 (.int .i64 a)))
  have HRS2 := hide (oX.obj HRS1.out (fun e => by have e' : rB = bB := e; have := HLT.out; omega))
  have HBW2 := hide (HBW1.out.trans (oX.below (by have := HLT.out; have := HSZ1.out; omega) (fun i e => by have e' : i = bB := e; omega)))
  have HSZ2 := hide (box_lt HRS2.out)
  rw [← hX]
  clear hX oX HBX1 HRS1 HBW1 HSZ1 u0 u1 u2 u3 u4 u5
  obtain ⟨_, _, _, _, _, _, u0, u1, u2, u3, u4, u5⟩ := six HBX2.out
  go_wp2_with fail
  refine (yie_any).mono ?_
  rw [HY.out]
  simp only [GE.val, GE.row]
  rintro _ w3 ⟨rfl, b3⟩
  have HBX3 := hide (below_box b3 HBX2.out)
  have HRS3 := hide (below_box b3 HRS2.out)
  have HBW3 := hide (below_next HBW2.out b3 (by have := HLT.out; have := HSZ2.out; omega))
  have HSZ3 := hide (box_lt HRS3.out)
  clear b3 HBX2 HRS2 HBW2 HSZ2 u0 u1 u2 u3 u4 u5
  obtain ⟨f0, f1, f2, f3, f4, f5, r0, r1, r2, r3, r4, r5⟩ := six HRS3.out
  go_wp2
  have hE := heap_set6 HRS3.out (.int .i64 c) (.int .i64 0) (.int .i64 0) (.int .i64 s) (.int .i64 0) (.int .i64 0)
  refine bodyPost_ret (results_cell_row rfl _ _ rB 23 _ _ _ rfl hE Try.underlying23 rfl (by kernel_rfl)) rfl ?_
  refine ⟨by rw [HQ.out]; rfl, ?_⟩
  rw [HBB.out]
  exact HBW3.out.trans ((only_set6 _ rB _ _ _ _ _ _).below (by have := HLT.out; have := HSZ3.out; omega) (fun i e => by have e' : i = rB := e; have := HLT.out; omega))

theorem abv_any {W : World} {ck ep un se ki ak : Int} {n : Int} : Calls Try.prog 35 #[.agg #[.int .i64 ck, .int .i64 ep, .int .i64 un, .int .i64 se, .int .i64 ki, .int .i64 ak], .int .i64 n] W fun e w' => e = .returned (GE.val (abvG ⟨ck, ep, un, se, ki, ak⟩ n)) ∧ Below W.heap.size W w' := by
  obtain ⟨⟨c, x, u, s, k, a⟩, hs⟩ : ∃ q, sndG ⟨ck, ep, un, se, ki, ak⟩ = q := ⟨_, rfl⟩
  by_cases h : x = 0
  · exact abv_0 hs h
  · by_cases h2 : x < n
    · exact abv_2 hs h h2
    · exact abv_1 hs h h2
set_option maxRecDepth 100000 in
set_option maxHeartbeats 2000000 in
theorem rabv_0 {W : World} {ck ep un se ki ak : Int} {c x u s k a : Int} {n : Int} (hs : sndG ⟨ck, ep, un, se, ki, ak⟩ = ⟨c, x, u, s, k, a⟩) (h : x = 0) :
    Calls Try.prog 36 #[.agg #[.int .i64 ck, .int .i64 ep, .int .i64 un, .int .i64 se, .int .i64 ki, .int .i64 ak], .int .i64 n] W fun e w' => e = .returned (GE.val (abvG ⟨ck, ep, un, se, ki, ak⟩ n)) ∧ Below W.heap.size W w' := by
  have HQ : Hid (abvG ⟨ck, ep, un, se, ki, ak⟩ n = ⟨c, x, u, s, k, a⟩) := hide (by unfold abvG; rw [hs]; exact if_neg (fun q => q.1 h))
  have d1 : (x != 0) = false := by simp [h]
  have d2 : (x == 0) = true := by simpa using h
  have HS := hide hs
  clear hs h
  obtain ⟨V0, hV0⟩ : ∃ V0, V0 = W.alloc (.cells #[.int .i64 ck, .int .i64 ep, .int .i64 un, .int .i64 se, .int .i64 ki, .int .i64 ak] 23 (0, 0)) := ⟨_, rfl⟩
  obtain ⟨V, hV⟩ : ∃ V, V = V0.alloc (.cells #[.int .i64 0, .int .i64 0, .int .i64 0, .int .i64 0, .int .i64 0, .int .i64 0] 23 (0, 0)) := ⟨_, rfl⟩
  have bV0 : Below W.heap.size W V0 := by rw [hV0]; exact alloc_below _ _
  have bV1 : Below V0.heap.size V0 V := by rw [hV]; exact alloc_below _ _
  have v0 : V0.heap[W.heap.size]? = some (.cells #[.int .i64 ck, .int .i64 ep, .int .i64 un, .int .i64 se, .int .i64 ki, .int .i64 ak] 23 (0, 0)) := by rw [hV0]; exact heap_alloc_new W _
  have v1 : V.heap[V0.heap.size]? = some (.cells #[.int .i64 0, .int .i64 0, .int .i64 0, .int .i64 0, .int .i64 0, .int .i64 0] 23 (0, 0)) := by rw [hV]; exact heap_alloc_new V0 _
  have v2 := below_box bV1 v0
  have hlt := box_lt v0
  have hs0 : V0.heap.size = W.heap.size + 1 := by rw [hV0]; simp
  obtain ⟨bB, hbB⟩ : ∃ bB, W.heap.size = bB := ⟨_, rfl⟩
  obtain ⟨rB, hrB⟩ : ∃ rB, V0.heap.size = rB := ⟨_, rfl⟩
  have hrb : bB + 1 = rB := by omega
  rw [hbB, hrB] at hlt
  rw [hbB] at v2
  rw [hrB] at v1
  have HBW0 : Hid (Below bB W V) := hide (by rw [← hbB]; exact below_next bV0 bV1 bV0.size)
  have HBX0 := hide v2
  have HRS0 := hide v1
  have HBB := hide hbB
  have HLT := hide hlt
  have HSZ0 := hide (box_lt v1)
  clear v0 v1 v2 bV0 bV1
  go_enter Try.func36, Try.ntmps36
  go_upto_region 1 with fail
  try rw [hbB]
  try rw [hrb]
  rw [← hV0, ← hV]
  try rw [hrB]
  clear hV0 hV hbB hrB hs0 hrb hlt
  obtain ⟨_, _, _, _, _, _, u0, u1, u2, u3, u4, u5⟩ := six HBX0.out
  go_wp2_with fail
  refine (may_any).mono ?_
  rw [HS.out]
  simp only [GE.val, GE.row]
  rintro _ w1 ⟨rfl, b1⟩
  have HBX1 := hide (below_box b1 HBX0.out)
  have HRS1 := hide (below_box b1 HRS0.out)
  have HBW1 := hide (below_next HBW0.out b1 (by have := HLT.out; have := HSZ0.out; omega))
  have HSZ1 := hide (box_lt HRS1.out)
  clear b1 HBX0 HRS0 HBW0 HSZ0 u0 u1 u2 u3 u4 u5
  obtain ⟨_, _, _, _, _, _, u0, u1, u2, u3, u4, u5⟩ := six HBX1.out
  go_upto_region 2 with fail
  obtain ⟨X, hX⟩ : ∃ X, X = ((((((w1.setCell ⟨bB, 0, none⟩ (.int .i64 c)).setCell ⟨bB, 1, none⟩ (.int .i64 x)).setCell ⟨bB, 2, none⟩ (.int .i64 u)).setCell ⟨bB, 3, none⟩ (.int .i64 s)).setCell ⟨bB, 4, none⟩ (.int .i64 k)).setCell ⟨bB, 5, none⟩ (.int .i64 a)) := ⟨_, rfl⟩
  have oX : Only (· = bB) w1 X := by rw [hX]; exact ((((((Only.set (F := (· = bB)) _ bB 0 (.int .i64 c) rfl).trans (Only.set (F := (· = bB)) _ bB 1 (.int .i64 x) rfl)).trans (Only.set (F := (· = bB)) _ bB 2 (.int .i64 u) rfl)).trans (Only.set (F := (· = bB)) _ bB 3 (.int .i64 s) rfl)).trans (Only.set (F := (· = bB)) _ bB 4 (.int .i64 k) rfl)).trans (Only.set (F := (· = bB)) _ bB 5 (.int .i64 a) rfl))
  have HBX2 : Hid (X.heap[bB]? = some (.cells #[.int .i64 c, .int .i64 x, .int .i64 u, .int .i64 s, .int .i64 k, .int .i64 a] 23 (0, 0))) := hide (by rw [hX]; exact (heap_set_sameL (heap_set_sameL (heap_set_sameL (heap_set_sameL (heap_set_sameL (heap_set_sameL HBX1.out 0 (.int .i64 c)) 1 (.int .i64 x)) 2 (.int .i64 u)) 3 (.int .i64 s)) 4 (.int .i64 k)) 5 (.int .i64 a)))
  have HRS2 := hide (oX.obj HRS1.out (fun e => by have e' : rB = bB := e; have := HLT.out; omega))
  have HBW2 := hide (HBW1.out.trans (oX.below (by have := HLT.out; have := HSZ1.out; omega) (fun i e => by have e' : i = bB := e; omega)))
  have HSZ2 := hide (box_lt HRS2.out)
  rw [← hX]
  clear hX oX HBX1 HRS1 HBW1 HSZ1 u0 u1 u2 u3 u4 u5
  obtain ⟨_, _, _, _, _, _, u0, u1, u2, u3, u4, u5⟩ := six HBX2.out
  obtain ⟨f0, f1, f2, f3, f4, f5, r0, r1, r2, r3, r4, r5⟩ := six HRS2.out
  go_wp2
  have hE := heap_set6 HRS2.out (.int .i64 c) (.int .i64 x) (.int .i64 u) (.int .i64 s) (.int .i64 k) (.int .i64 a)
  refine bodyPost_ret (results_cell_row rfl _ _ rB 23 _ _ _ rfl hE Try.underlying23 rfl (by kernel_rfl)) rfl ?_
  refine ⟨by rw [HQ.out]; rfl, ?_⟩
  rw [HBB.out]
  exact HBW2.out.trans ((only_set6 _ rB _ _ _ _ _ _).below (by have := HLT.out; have := HSZ2.out; omega) (fun i e => by have e' : i = rB := e; have := HLT.out; omega))

set_option maxRecDepth 100000 in
set_option maxHeartbeats 2000000 in
theorem rabv_1 {W : World} {ck ep un se ki ak : Int} {c x u s k a : Int} {n : Int} (hs : sndG ⟨ck, ep, un, se, ki, ak⟩ = ⟨c, x, u, s, k, a⟩) (h : x ≠ 0) (h2 : ¬ x < n) :
    Calls Try.prog 36 #[.agg #[.int .i64 ck, .int .i64 ep, .int .i64 un, .int .i64 se, .int .i64 ki, .int .i64 ak], .int .i64 n] W fun e w' => e = .returned (GE.val (abvG ⟨ck, ep, un, se, ki, ak⟩ n)) ∧ Below W.heap.size W w' := by
  have HQ : Hid (abvG ⟨ck, ep, un, se, ki, ak⟩ n = ⟨c, x, u, s, k, a⟩) := hide (by unfold abvG; rw [hs]; exact if_neg (fun q => h2 q.2))
  have d1 : (x != 0) = true := ne_neG h
  have d2 : (x == 0) = false := ne_eqL h
  have d3 : decide (n > x) = false := decide_eq_false h2
  have HS := hide hs
  clear hs h h2
  obtain ⟨V0, hV0⟩ : ∃ V0, V0 = W.alloc (.cells #[.int .i64 ck, .int .i64 ep, .int .i64 un, .int .i64 se, .int .i64 ki, .int .i64 ak] 23 (0, 0)) := ⟨_, rfl⟩
  obtain ⟨V, hV⟩ : ∃ V, V = V0.alloc (.cells #[.int .i64 0, .int .i64 0, .int .i64 0, .int .i64 0, .int .i64 0, .int .i64 0] 23 (0, 0)) := ⟨_, rfl⟩
  have bV0 : Below W.heap.size W V0 := by rw [hV0]; exact alloc_below _ _
  have bV1 : Below V0.heap.size V0 V := by rw [hV]; exact alloc_below _ _
  have v0 : V0.heap[W.heap.size]? = some (.cells #[.int .i64 ck, .int .i64 ep, .int .i64 un, .int .i64 se, .int .i64 ki, .int .i64 ak] 23 (0, 0)) := by rw [hV0]; exact heap_alloc_new W _
  have v1 : V.heap[V0.heap.size]? = some (.cells #[.int .i64 0, .int .i64 0, .int .i64 0, .int .i64 0, .int .i64 0, .int .i64 0] 23 (0, 0)) := by rw [hV]; exact heap_alloc_new V0 _
  have v2 := below_box bV1 v0
  have hlt := box_lt v0
  have hs0 : V0.heap.size = W.heap.size + 1 := by rw [hV0]; simp
  obtain ⟨bB, hbB⟩ : ∃ bB, W.heap.size = bB := ⟨_, rfl⟩
  obtain ⟨rB, hrB⟩ : ∃ rB, V0.heap.size = rB := ⟨_, rfl⟩
  have hrb : bB + 1 = rB := by omega
  rw [hbB, hrB] at hlt
  rw [hbB] at v2
  rw [hrB] at v1
  have HBW0 : Hid (Below bB W V) := hide (by rw [← hbB]; exact below_next bV0 bV1 bV0.size)
  have HBX0 := hide v2
  have HRS0 := hide v1
  have HBB := hide hbB
  have HLT := hide hlt
  have HSZ0 := hide (box_lt v1)
  clear v0 v1 v2 bV0 bV1
  go_enter Try.func36, Try.ntmps36
  go_upto_region 1 with fail
  try rw [hbB]
  try rw [hrb]
  rw [← hV0, ← hV]
  try rw [hrB]
  clear hV0 hV hbB hrB hs0 hrb hlt
  obtain ⟨_, _, _, _, _, _, u0, u1, u2, u3, u4, u5⟩ := six HBX0.out
  go_wp2_with fail
  refine (may_any).mono ?_
  rw [HS.out]
  simp only [GE.val, GE.row]
  rintro _ w1 ⟨rfl, b1⟩
  have HBX1 := hide (below_box b1 HBX0.out)
  have HRS1 := hide (below_box b1 HRS0.out)
  have HBW1 := hide (below_next HBW0.out b1 (by have := HLT.out; have := HSZ0.out; omega))
  have HSZ1 := hide (box_lt HRS1.out)
  clear b1 HBX0 HRS0 HBW0 HSZ0 u0 u1 u2 u3 u4 u5
  obtain ⟨_, _, _, _, _, _, u0, u1, u2, u3, u4, u5⟩ := six HBX1.out
  go_upto_region 2 with fail
  obtain ⟨X, hX⟩ : ∃ X, X = ((((((w1.setCell ⟨bB, 0, none⟩ (.int .i64 c)).setCell ⟨bB, 1, none⟩ (.int .i64 x)).setCell ⟨bB, 2, none⟩ (.int .i64 u)).setCell ⟨bB, 3, none⟩ (.int .i64 s)).setCell ⟨bB, 4, none⟩ (.int .i64 k)).setCell ⟨bB, 5, none⟩ (.int .i64 a)) := ⟨_, rfl⟩
  have oX : Only (· = bB) w1 X := by rw [hX]; exact ((((((Only.set (F := (· = bB)) _ bB 0 (.int .i64 c) rfl).trans (Only.set (F := (· = bB)) _ bB 1 (.int .i64 x) rfl)).trans (Only.set (F := (· = bB)) _ bB 2 (.int .i64 u) rfl)).trans (Only.set (F := (· = bB)) _ bB 3 (.int .i64 s) rfl)).trans (Only.set (F := (· = bB)) _ bB 4 (.int .i64 k) rfl)).trans (Only.set (F := (· = bB)) _ bB 5 (.int .i64 a) rfl))
  have HBX2 : Hid (X.heap[bB]? = some (.cells #[.int .i64 c, .int .i64 x, .int .i64 u, .int .i64 s, .int .i64 k, .int .i64 a] 23 (0, 0))) := hide (by rw [hX]; exact (heap_set_sameL (heap_set_sameL (heap_set_sameL (heap_set_sameL (heap_set_sameL (heap_set_sameL HBX1.out 0 (.int .i64 c)) 1 (.int .i64 x)) 2 (.int .i64 u)) 3 (.int .i64 s)) 4 (.int .i64 k)) 5 (.int .i64 a)))
  have HRS2 := hide (oX.obj HRS1.out (fun e => by have e' : rB = bB := e; have := HLT.out; omega))
  have HBW2 := hide (HBW1.out.trans (oX.below (by have := HLT.out; have := HSZ1.out; omega) (fun i e => by have e' : i = bB := e; omega)))
  have HSZ2 := hide (box_lt HRS2.out)
  rw [← hX]
  clear hX oX HBX1 HRS1 HBW1 HSZ1 u0 u1 u2 u3 u4 u5
  obtain ⟨_, _, _, _, _, _, u0, u1, u2, u3, u4, u5⟩ := six HBX2.out
  obtain ⟨f0, f1, f2, f3, f4, f5, r0, r1, r2, r3, r4, r5⟩ := six HRS2.out
  go_wp2
  have hE := heap_set6 HRS2.out (.int .i64 c) (.int .i64 x) (.int .i64 u) (.int .i64 s) (.int .i64 k) (.int .i64 a)
  refine bodyPost_ret (results_cell_row rfl _ _ rB 23 _ _ _ rfl hE Try.underlying23 rfl (by kernel_rfl)) rfl ?_
  refine ⟨by rw [HQ.out]; rfl, ?_⟩
  rw [HBB.out]
  exact HBW2.out.trans ((only_set6 _ rB _ _ _ _ _ _).below (by have := HLT.out; have := HSZ2.out; omega) (fun i e => by have e' : i = rB := e; have := HLT.out; omega))

set_option maxRecDepth 100000 in
set_option maxHeartbeats 2000000 in
theorem rabv_2 {W : World} {ck ep un se ki ak : Int} {c x u s k a : Int} {n : Int} (hs : sndG ⟨ck, ep, un, se, ki, ak⟩ = ⟨c, x, u, s, k, a⟩) (h : x ≠ 0) (h2 : x < n) :
    Calls Try.prog 36 #[.agg #[.int .i64 ck, .int .i64 ep, .int .i64 un, .int .i64 se, .int .i64 ki, .int .i64 ak], .int .i64 n] W fun e w' => e = .returned (GE.val (abvG ⟨ck, ep, un, se, ki, ak⟩ n)) ∧ Below W.heap.size W w' := by
  have HQ : Hid (abvG ⟨ck, ep, un, se, ki, ak⟩ n = ⟨c, 0, 0, s, 0, 0⟩) := hide (by unfold abvG; rw [hs]; exact if_pos ⟨h, h2⟩)
  have HY : Hid (yieG ⟨c, x, u, s, k, a⟩ = ⟨c, 0, 0, s, 0, 0⟩) := hide (by unfold yieG; rw [snd_same (by rw [← hs]; exact snd_ok _)]; rfl)
  have d1 : (x != 0) = true := ne_neG h
  have d2 : (x == 0) = false := ne_eqL h
  have d3 : decide (n > x) = true := decide_eq_true h2
  have HS := hide hs
  clear hs h h2
  obtain ⟨V0, hV0⟩ : ∃ V0, V0 = W.alloc (.cells #[.int .i64 ck, .int .i64 ep, .int .i64 un, .int .i64 se, .int .i64 ki, .int .i64 ak] 23 (0, 0)) := ⟨_, rfl⟩
  obtain ⟨V, hV⟩ : ∃ V, V = V0.alloc (.cells #[.int .i64 0, .int .i64 0, .int .i64 0, .int .i64 0, .int .i64 0, .int .i64 0] 23 (0, 0)) := ⟨_, rfl⟩
  have bV0 : Below W.heap.size W V0 := by rw [hV0]; exact alloc_below _ _
  have bV1 : Below V0.heap.size V0 V := by rw [hV]; exact alloc_below _ _
  have v0 : V0.heap[W.heap.size]? = some (.cells #[.int .i64 ck, .int .i64 ep, .int .i64 un, .int .i64 se, .int .i64 ki, .int .i64 ak] 23 (0, 0)) := by rw [hV0]; exact heap_alloc_new W _
  have v1 : V.heap[V0.heap.size]? = some (.cells #[.int .i64 0, .int .i64 0, .int .i64 0, .int .i64 0, .int .i64 0, .int .i64 0] 23 (0, 0)) := by rw [hV]; exact heap_alloc_new V0 _
  have v2 := below_box bV1 v0
  have hlt := box_lt v0
  have hs0 : V0.heap.size = W.heap.size + 1 := by rw [hV0]; simp
  obtain ⟨bB, hbB⟩ : ∃ bB, W.heap.size = bB := ⟨_, rfl⟩
  obtain ⟨rB, hrB⟩ : ∃ rB, V0.heap.size = rB := ⟨_, rfl⟩
  have hrb : bB + 1 = rB := by omega
  rw [hbB, hrB] at hlt
  rw [hbB] at v2
  rw [hrB] at v1
  have HBW0 : Hid (Below bB W V) := hide (by rw [← hbB]; exact below_next bV0 bV1 bV0.size)
  have HBX0 := hide v2
  have HRS0 := hide v1
  have HBB := hide hbB
  have HLT := hide hlt
  have HSZ0 := hide (box_lt v1)
  clear v0 v1 v2 bV0 bV1
  go_enter Try.func36, Try.ntmps36
  go_upto_region 1 with fail
  try rw [hbB]
  try rw [hrb]
  rw [← hV0, ← hV]
  try rw [hrB]
  clear hV0 hV hbB hrB hs0 hrb hlt
  obtain ⟨_, _, _, _, _, _, u0, u1, u2, u3, u4, u5⟩ := six HBX0.out
  go_wp2_with fail
  refine (may_any).mono ?_
  rw [HS.out]
  simp only [GE.val, GE.row]
  rintro _ w1 ⟨rfl, b1⟩
  have HBX1 := hide (below_box b1 HBX0.out)
  have HRS1 := hide (below_box b1 HRS0.out)
  have HBW1 := hide (below_next HBW0.out b1 (by have := HLT.out; have := HSZ0.out; omega))
  have HSZ1 := hide (box_lt HRS1.out)
  clear b1 HBX0 HRS0 HBW0 HSZ0 u0 u1 u2 u3 u4 u5
  obtain ⟨_, _, _, _, _, _, u0, u1, u2, u3, u4, u5⟩ := six HBX1.out
  go_upto_region 2 with fail
  obtain ⟨X, hX⟩ : ∃ X, X = ((((((w1.setCell ⟨bB, 0, none⟩ (.int .i64 c)).setCell ⟨bB, 1, none⟩ (.int .i64 x)).setCell ⟨bB, 2, none⟩ (.int .i64 u)).setCell ⟨bB, 3, none⟩ (.int .i64 s)).setCell ⟨bB, 4, none⟩ (.int .i64 k)).setCell ⟨bB, 5, none⟩ (.int .i64 a)) := ⟨_, rfl⟩
  have oX : Only (· = bB) w1 X := by rw [hX]; exact ((((((Only.set (F := (· = bB)) _ bB 0 (.int .i64 c) rfl).trans (Only.set (F := (· = bB)) _ bB 1 (.int .i64 x) rfl)).trans (Only.set (F := (· = bB)) _ bB 2 (.int .i64 u) rfl)).trans (Only.set (F := (· = bB)) _ bB 3 (.int .i64 s) rfl)).trans (Only.set (F := (· = bB)) _ bB 4 (.int .i64 k) rfl)).trans (Only.set (F := (· = bB)) _ bB 5 (.int .i64 a) rfl))
  have HBX2 : Hid (X.heap[bB]? = some (.cells #[.int .i64 c, .int .i64 x, .int .i64 u, .int .i64 s, .int .i64 k, .int .i64 a] 23 (0, 0))) := hide (by rw [hX]; exact (heap_set_sameL (heap_set_sameL (heap_set_sameL (heap_set_sameL (heap_set_sameL (heap_set_sameL HBX1.out 0 (.int .i64 c)) 1 (.int .i64 x)) 2 (.int .i64 u)) 3 (.int .i64 s)) 4 (.int .i64 k)) 5 (.int .i64 a)))
  have HRS2 := hide (oX.obj HRS1.out (fun e => by have e' : rB = bB := e; have := HLT.out; omega))
  have HBW2 := hide (HBW1.out.trans (oX.below (by have := HLT.out; have := HSZ1.out; omega) (fun i e => by have e' : i = bB := e; omega)))
  have HSZ2 := hide (box_lt HRS2.out)
  rw [← hX]
  clear hX oX HBX1 HRS1 HBW1 HSZ1 u0 u1 u2 u3 u4 u5
  obtain ⟨_, _, _, _, _, _, u0, u1, u2, u3, u4, u5⟩ := six HBX2.out
  go_wp2_with fail
  refine (ryie_any).mono ?_
  rw [HY.out]
  simp only [GE.val, GE.row]
  rintro _ w3 ⟨rfl, b3⟩
  have HBX3 := hide (below_box b3 HBX2.out)
  have HRS3 := hide (below_box b3 HRS2.out)
  have HBW3 := hide (below_next HBW2.out b3 (by have := HLT.out; have := HSZ2.out; omega))
  have HSZ3 := hide (box_lt HRS3.out)
  clear b3 HBX2 HRS2 HBW2 HSZ2 u0 u1 u2 u3 u4 u5
  obtain ⟨f0, f1, f2, f3, f4, f5, r0, r1, r2, r3, r4, r5⟩ := six HRS3.out
  go_wp2
  have hE := heap_set6 HRS3.out (.int .i64 c) (.int .i64 0) (.int .i64 0) (.int .i64 s) (.int .i64 0) (.int .i64 0)
  refine bodyPost_ret (results_cell_row rfl _ _ rB 23 _ _ _ rfl hE Try.underlying23 rfl (by kernel_rfl)) rfl ?_
  refine ⟨by rw [HQ.out]; rfl, ?_⟩
  rw [HBB.out]
  exact HBW3.out.trans ((only_set6 _ rB _ _ _ _ _ _).below (by have := HLT.out; have := HSZ3.out; omega) (fun i e => by have e' : i = rB := e; have := HLT.out; omega))

theorem rabv_any {W : World} {ck ep un se ki ak : Int} {n : Int} : Calls Try.prog 36 #[.agg #[.int .i64 ck, .int .i64 ep, .int .i64 un, .int .i64 se, .int .i64 ki, .int .i64 ak], .int .i64 n] W fun e w' => e = .returned (GE.val (abvG ⟨ck, ep, un, se, ki, ak⟩ n)) ∧ Below W.heap.size W w' := by
  obtain ⟨⟨c, x, u, s, k, a⟩, hs⟩ : ∃ q, sndG ⟨ck, ep, un, se, ki, ak⟩ = q := ⟨_, rfl⟩
  by_cases h : x = 0
  · exact rabv_0 hs h
  · by_cases h2 : x < n
    · exact rabv_2 hs h h2
    · exact rabv_1 hs h h2
set_option maxRecDepth 100000 in
set_option maxHeartbeats 2000000 in
theorem rfs_0 {W : World} {ck ep un se ki ak : Int} {c x u s k a : Int} {n : Int} (hs : sndG ⟨ck, ep, un, se, ki, ak⟩ = ⟨c, x, u, s, k, a⟩) (h : k = 0) :
    Calls Try.prog 31 #[.agg #[.int .i64 ck, .int .i64 ep, .int .i64 un, .int .i64 se, .int .i64 ki, .int .i64 ak], .int .i64 n] W fun e w' => e = .returned (.tuple #[GE.val (rfsG ⟨ck, ep, un, se, ki, ak⟩ n).1, .bool (rfsG ⟨ck, ep, un, se, ki, ak⟩ n).2]) ∧ Below W.heap.size W w' := by
  have HQ : Hid (rfsG ⟨ck, ep, un, se, ki, ak⟩ n = (⟨c, x, u, s, k, a⟩, false)) := hide (by unfold rfsG; rw [hs]; exact if_pos (.inl h))
  have HAW : Hid (awG ⟨c, x, u, s, k, a⟩ n = false) := hide (decide_eq_false (fun q => q.1 h))
  have HS := hide hs
  clear hs h
  obtain ⟨V0, hV0⟩ : ∃ V0, V0 = W.alloc (.cells #[.int .i64 ck, .int .i64 ep, .int .i64 un, .int .i64 se, .int .i64 ki, .int .i64 ak] 23 (0, 0)) := ⟨_, rfl⟩
  obtain ⟨V, hV⟩ : ∃ V, V = V0.alloc (.cells #[.int .i64 0, .int .i64 0, .int .i64 0, .int .i64 0, .int .i64 0, .int .i64 0] 23 (0, 0)) := ⟨_, rfl⟩
  have bV0 : Below W.heap.size W V0 := by rw [hV0]; exact alloc_below _ _
  have bV1 : Below V0.heap.size V0 V := by rw [hV]; exact alloc_below _ _
  have v0 : V0.heap[W.heap.size]? = some (.cells #[.int .i64 ck, .int .i64 ep, .int .i64 un, .int .i64 se, .int .i64 ki, .int .i64 ak] 23 (0, 0)) := by rw [hV0]; exact heap_alloc_new W _
  have v1 : V.heap[V0.heap.size]? = some (.cells #[.int .i64 0, .int .i64 0, .int .i64 0, .int .i64 0, .int .i64 0, .int .i64 0] 23 (0, 0)) := by rw [hV]; exact heap_alloc_new V0 _
  have v2 := below_box bV1 v0
  have hlt := box_lt v0
  have hs0 : V0.heap.size = W.heap.size + 1 := by rw [hV0]; simp
  obtain ⟨bB, hbB⟩ : ∃ bB, W.heap.size = bB := ⟨_, rfl⟩
  obtain ⟨rB, hrB⟩ : ∃ rB, V0.heap.size = rB := ⟨_, rfl⟩
  have hrb : bB + 1 = rB := by omega
  rw [hbB, hrB] at hlt
  rw [hbB] at v2
  rw [hrB] at v1
  have HBW0 : Hid (Below bB W V) := hide (by rw [← hbB]; exact below_next bV0 bV1 bV0.size)
  have HBX0 := hide v2
  have HRS0 := hide v1
  have HBB := hide hbB
  have HLT := hide hlt
  have HSZ0 := hide (box_lt v1)
  clear v0 v1 v2 bV0 bV1
  go_enter Try.func31, Try.ntmps31
  go_upto_region 1 with fail
  try rw [hbB]
  try rw [hrb]
  rw [← hV0, ← hV]
  try rw [hrB]
  clear hV0 hV hbB hrB hs0 hrb hlt
  obtain ⟨_, _, _, _, _, _, u0, u1, u2, u3, u4, u5⟩ := six HBX0.out
  go_wp2_with fail
  refine (snd_any).mono ?_
  rw [HS.out]
  simp only [GE.val, GE.row]
  rintro _ w1 ⟨rfl, b1⟩
  have HBX1 := hide (below_box b1 HBX0.out)
  have HRS1 := hide (below_box b1 HRS0.out)
  have HBW1 := hide (below_next HBW0.out b1 (by have := HLT.out; have := HSZ0.out; omega))
  have HSZ1 := hide (box_lt HRS1.out)
  clear b1 HBX0 HRS0 HBW0 HSZ0 u0 u1 u2 u3 u4 u5
  obtain ⟨_, _, _, _, _, _, u0, u1, u2, u3, u4, u5⟩ := six HBX1.out
  go_upto_region 2 with fail
  obtain ⟨X, hX⟩ : ∃ X, X = ((((((w1.setCell ⟨bB, 0, none⟩ (.int .i64 c)).setCell ⟨bB, 1, none⟩ (.int .i64 x)).setCell ⟨bB, 2, none⟩ (.int .i64 u)).setCell ⟨bB, 3, none⟩ (.int .i64 s)).setCell ⟨bB, 4, none⟩ (.int .i64 k)).setCell ⟨bB, 5, none⟩ (.int .i64 a)) := ⟨_, rfl⟩
  have oX : Only (· = bB) w1 X := by rw [hX]; exact ((((((Only.set (F := (· = bB)) _ bB 0 (.int .i64 c) rfl).trans (Only.set (F := (· = bB)) _ bB 1 (.int .i64 x) rfl)).trans (Only.set (F := (· = bB)) _ bB 2 (.int .i64 u) rfl)).trans (Only.set (F := (· = bB)) _ bB 3 (.int .i64 s) rfl)).trans (Only.set (F := (· = bB)) _ bB 4 (.int .i64 k) rfl)).trans (Only.set (F := (· = bB)) _ bB 5 (.int .i64 a) rfl))
  have HBX2 : Hid (X.heap[bB]? = some (.cells #[.int .i64 c, .int .i64 x, .int .i64 u, .int .i64 s, .int .i64 k, .int .i64 a] 23 (0, 0))) := hide (by rw [hX]; exact (heap_set_sameL (heap_set_sameL (heap_set_sameL (heap_set_sameL (heap_set_sameL (heap_set_sameL HBX1.out 0 (.int .i64 c)) 1 (.int .i64 x)) 2 (.int .i64 u)) 3 (.int .i64 s)) 4 (.int .i64 k)) 5 (.int .i64 a)))
  have HRS2 := hide (oX.obj HRS1.out (fun e => by have e' : rB = bB := e; have := HLT.out; omega))
  have HBW2 := hide (HBW1.out.trans (oX.below (by have := HLT.out; have := HSZ1.out; omega) (fun i e => by have e' : i = bB := e; omega)))
  have HSZ2 := hide (box_lt HRS2.out)
  rw [← hX]
  clear hX oX HBX1 HRS1 HBW1 HSZ1 u0 u1 u2 u3 u4 u5
  obtain ⟨_, _, _, _, _, _, u0, u1, u2, u3, u4, u5⟩ := six HBX2.out
  go_wp2_with fail
  refine (awaits_any).mono ?_
  rw [HAW.out]
  rintro _ w3 ⟨rfl, b3⟩
  have HBX3 := hide (below_box b3 HBX2.out)
  have HRS3 := hide (below_box b3 HRS2.out)
  have HBW3 := hide (below_next HBW2.out b3 (by have := HLT.out; have := HSZ2.out; omega))
  have HSZ3 := hide (box_lt HRS3.out)
  clear b3 HBX2 HRS2 HBW2 HSZ2 u0 u1 u2 u3 u4 u5
  obtain ⟨_, _, _, _, _, _, u0, u1, u2, u3, u4, u5⟩ := six HBX3.out
  obtain ⟨f0, f1, f2, f3, f4, f5, r0, r1, r2, r3, r4, r5⟩ := six HRS3.out
  go_wp2
  have hE := heap_set6 HRS3.out (.int .i64 c) (.int .i64 x) (.int .i64 u) (.int .i64 s) (.int .i64 k) (.int .i64 a)
  refine bodyPost_ret (results_cell_two rfl _ _ rB 23 _ _ _ rfl hE Try.underlying23 rfl (by kernel_rfl)) rfl ?_
  refine ⟨by rw [HQ.out]; rfl, ?_⟩
  rw [HBB.out]
  exact HBW3.out.trans ((only_set6 _ rB _ _ _ _ _ _).below (by have := HLT.out; have := HSZ3.out; omega) (fun i e => by have e' : i = rB := e; have := HLT.out; omega))

set_option maxRecDepth 100000 in
set_option maxHeartbeats 2000000 in
theorem rfs_1 {W : World} {ck ep un se ki ak : Int} {c x u s k a : Int} {n : Int} (hs : sndG ⟨ck, ep, un, se, ki, ak⟩ = ⟨c, x, u, s, k, a⟩) (_h : k ≠ 0) (h2 : n ≠ s) :
    Calls Try.prog 31 #[.agg #[.int .i64 ck, .int .i64 ep, .int .i64 un, .int .i64 se, .int .i64 ki, .int .i64 ak], .int .i64 n] W fun e w' => e = .returned (.tuple #[GE.val (rfsG ⟨ck, ep, un, se, ki, ak⟩ n).1, .bool (rfsG ⟨ck, ep, un, se, ki, ak⟩ n).2]) ∧ Below W.heap.size W w' := by
  have HQ : Hid (rfsG ⟨ck, ep, un, se, ki, ak⟩ n = (⟨c, x, u, s, k, a⟩, false)) := hide (by unfold rfsG; rw [hs]; exact if_pos (.inr h2))
  have HAW : Hid (awG ⟨c, x, u, s, k, a⟩ n = false) := hide (decide_eq_false (fun q => h2 q.2))
  have HS := hide hs
  clear hs _h h2
  obtain ⟨V0, hV0⟩ : ∃ V0, V0 = W.alloc (.cells #[.int .i64 ck, .int .i64 ep, .int .i64 un, .int .i64 se, .int .i64 ki, .int .i64 ak] 23 (0, 0)) := ⟨_, rfl⟩
  obtain ⟨V, hV⟩ : ∃ V, V = V0.alloc (.cells #[.int .i64 0, .int .i64 0, .int .i64 0, .int .i64 0, .int .i64 0, .int .i64 0] 23 (0, 0)) := ⟨_, rfl⟩
  have bV0 : Below W.heap.size W V0 := by rw [hV0]; exact alloc_below _ _
  have bV1 : Below V0.heap.size V0 V := by rw [hV]; exact alloc_below _ _
  have v0 : V0.heap[W.heap.size]? = some (.cells #[.int .i64 ck, .int .i64 ep, .int .i64 un, .int .i64 se, .int .i64 ki, .int .i64 ak] 23 (0, 0)) := by rw [hV0]; exact heap_alloc_new W _
  have v1 : V.heap[V0.heap.size]? = some (.cells #[.int .i64 0, .int .i64 0, .int .i64 0, .int .i64 0, .int .i64 0, .int .i64 0] 23 (0, 0)) := by rw [hV]; exact heap_alloc_new V0 _
  have v2 := below_box bV1 v0
  have hlt := box_lt v0
  have hs0 : V0.heap.size = W.heap.size + 1 := by rw [hV0]; simp
  obtain ⟨bB, hbB⟩ : ∃ bB, W.heap.size = bB := ⟨_, rfl⟩
  obtain ⟨rB, hrB⟩ : ∃ rB, V0.heap.size = rB := ⟨_, rfl⟩
  have hrb : bB + 1 = rB := by omega
  rw [hbB, hrB] at hlt
  rw [hbB] at v2
  rw [hrB] at v1
  have HBW0 : Hid (Below bB W V) := hide (by rw [← hbB]; exact below_next bV0 bV1 bV0.size)
  have HBX0 := hide v2
  have HRS0 := hide v1
  have HBB := hide hbB
  have HLT := hide hlt
  have HSZ0 := hide (box_lt v1)
  clear v0 v1 v2 bV0 bV1
  go_enter Try.func31, Try.ntmps31
  go_upto_region 1 with fail
  try rw [hbB]
  try rw [hrb]
  rw [← hV0, ← hV]
  try rw [hrB]
  clear hV0 hV hbB hrB hs0 hrb hlt
  obtain ⟨_, _, _, _, _, _, u0, u1, u2, u3, u4, u5⟩ := six HBX0.out
  go_wp2_with fail
  refine (snd_any).mono ?_
  rw [HS.out]
  simp only [GE.val, GE.row]
  rintro _ w1 ⟨rfl, b1⟩
  have HBX1 := hide (below_box b1 HBX0.out)
  have HRS1 := hide (below_box b1 HRS0.out)
  have HBW1 := hide (below_next HBW0.out b1 (by have := HLT.out; have := HSZ0.out; omega))
  have HSZ1 := hide (box_lt HRS1.out)
  clear b1 HBX0 HRS0 HBW0 HSZ0 u0 u1 u2 u3 u4 u5
  obtain ⟨_, _, _, _, _, _, u0, u1, u2, u3, u4, u5⟩ := six HBX1.out
  go_upto_region 2 with fail
  obtain ⟨X, hX⟩ : ∃ X, X = ((((((w1.setCell ⟨bB, 0, none⟩ (.int .i64 c)).setCell ⟨bB, 1, none⟩ (.int .i64 x)).setCell ⟨bB, 2, none⟩ (.int .i64 u)).setCell ⟨bB, 3, none⟩ (.int .i64 s)).setCell ⟨bB, 4, none⟩ (.int .i64 k)).setCell ⟨bB, 5, none⟩ (.int .i64 a)) := ⟨_, rfl⟩
  have oX : Only (· = bB) w1 X := by rw [hX]; exact ((((((Only.set (F := (· = bB)) _ bB 0 (.int .i64 c) rfl).trans (Only.set (F := (· = bB)) _ bB 1 (.int .i64 x) rfl)).trans (Only.set (F := (· = bB)) _ bB 2 (.int .i64 u) rfl)).trans (Only.set (F := (· = bB)) _ bB 3 (.int .i64 s) rfl)).trans (Only.set (F := (· = bB)) _ bB 4 (.int .i64 k) rfl)).trans (Only.set (F := (· = bB)) _ bB 5 (.int .i64 a) rfl))
  have HBX2 : Hid (X.heap[bB]? = some (.cells #[.int .i64 c, .int .i64 x, .int .i64 u, .int .i64 s, .int .i64 k, .int .i64 a] 23 (0, 0))) := hide (by rw [hX]; exact (heap_set_sameL (heap_set_sameL (heap_set_sameL (heap_set_sameL (heap_set_sameL (heap_set_sameL HBX1.out 0 (.int .i64 c)) 1 (.int .i64 x)) 2 (.int .i64 u)) 3 (.int .i64 s)) 4 (.int .i64 k)) 5 (.int .i64 a)))
  have HRS2 := hide (oX.obj HRS1.out (fun e => by have e' : rB = bB := e; have := HLT.out; omega))
  have HBW2 := hide (HBW1.out.trans (oX.below (by have := HLT.out; have := HSZ1.out; omega) (fun i e => by have e' : i = bB := e; omega)))
  have HSZ2 := hide (box_lt HRS2.out)
  rw [← hX]
  clear hX oX HBX1 HRS1 HBW1 HSZ1 u0 u1 u2 u3 u4 u5
  obtain ⟨_, _, _, _, _, _, u0, u1, u2, u3, u4, u5⟩ := six HBX2.out
  go_wp2_with fail
  refine (awaits_any).mono ?_
  rw [HAW.out]
  rintro _ w3 ⟨rfl, b3⟩
  have HBX3 := hide (below_box b3 HBX2.out)
  have HRS3 := hide (below_box b3 HRS2.out)
  have HBW3 := hide (below_next HBW2.out b3 (by have := HLT.out; have := HSZ2.out; omega))
  have HSZ3 := hide (box_lt HRS3.out)
  clear b3 HBX2 HRS2 HBW2 HSZ2 u0 u1 u2 u3 u4 u5
  obtain ⟨_, _, _, _, _, _, u0, u1, u2, u3, u4, u5⟩ := six HBX3.out
  obtain ⟨f0, f1, f2, f3, f4, f5, r0, r1, r2, r3, r4, r5⟩ := six HRS3.out
  go_wp2
  have hE := heap_set6 HRS3.out (.int .i64 c) (.int .i64 x) (.int .i64 u) (.int .i64 s) (.int .i64 k) (.int .i64 a)
  refine bodyPost_ret (results_cell_two rfl _ _ rB 23 _ _ _ rfl hE Try.underlying23 rfl (by kernel_rfl)) rfl ?_
  refine ⟨by rw [HQ.out]; rfl, ?_⟩
  rw [HBB.out]
  exact HBW3.out.trans ((only_set6 _ rB _ _ _ _ _ _).below (by have := HLT.out; have := HSZ3.out; omega) (fun i e => by have e' : i = rB := e; have := HLT.out; omega))

set_option maxRecDepth 100000 in
set_option maxHeartbeats 2000000 in
theorem rfs_2 {W : World} {ck ep un se ki ak : Int} {c x u s k a : Int} {n : Int} (hs : sndG ⟨ck, ep, un, se, ki, ak⟩ = ⟨c, x, u, s, k, a⟩) (h : k ≠ 0) (h2 : n = s) (h3 : k = 2) :
    Calls Try.prog 31 #[.agg #[.int .i64 ck, .int .i64 ep, .int .i64 un, .int .i64 se, .int .i64 ki, .int .i64 ak], .int .i64 n] W fun e w' => e = .returned (.tuple #[GE.val (rfsG ⟨ck, ep, un, se, ki, ak⟩ n).1, .bool (rfsG ⟨ck, ep, un, se, ki, ak⟩ n).2]) ∧ Below W.heap.size W w' := by
  have HQ : Hid (rfsG ⟨ck, ep, un, se, ki, ak⟩ n = (⟨c, 0, 0, s, 0, 0⟩, true)) := hide (by unfold rfsG; rw [hs]; exact (if_neg (fun q => q.elim h (fun q => q h2))).trans (if_pos h3))
  have HY : Hid (yieG ⟨c, x, u, s, k, a⟩ = ⟨c, 0, 0, s, 0, 0⟩) := hide (by unfold yieG; rw [snd_same (by rw [← hs]; exact snd_ok _)]; rfl)
  have HAW : Hid (awG ⟨c, x, u, s, k, a⟩ n = true) := hide (decide_eq_true ⟨h, h2⟩)
  have d3 : (k == 2) = true := by simpa using h3
  have HS := hide hs
  clear hs h h2 h3
  obtain ⟨V0, hV0⟩ : ∃ V0, V0 = W.alloc (.cells #[.int .i64 ck, .int .i64 ep, .int .i64 un, .int .i64 se, .int .i64 ki, .int .i64 ak] 23 (0, 0)) := ⟨_, rfl⟩
  obtain ⟨V, hV⟩ : ∃ V, V = V0.alloc (.cells #[.int .i64 0, .int .i64 0, .int .i64 0, .int .i64 0, .int .i64 0, .int .i64 0] 23 (0, 0)) := ⟨_, rfl⟩
  have bV0 : Below W.heap.size W V0 := by rw [hV0]; exact alloc_below _ _
  have bV1 : Below V0.heap.size V0 V := by rw [hV]; exact alloc_below _ _
  have v0 : V0.heap[W.heap.size]? = some (.cells #[.int .i64 ck, .int .i64 ep, .int .i64 un, .int .i64 se, .int .i64 ki, .int .i64 ak] 23 (0, 0)) := by rw [hV0]; exact heap_alloc_new W _
  have v1 : V.heap[V0.heap.size]? = some (.cells #[.int .i64 0, .int .i64 0, .int .i64 0, .int .i64 0, .int .i64 0, .int .i64 0] 23 (0, 0)) := by rw [hV]; exact heap_alloc_new V0 _
  have v2 := below_box bV1 v0
  have hlt := box_lt v0
  have hs0 : V0.heap.size = W.heap.size + 1 := by rw [hV0]; simp
  obtain ⟨bB, hbB⟩ : ∃ bB, W.heap.size = bB := ⟨_, rfl⟩
  obtain ⟨rB, hrB⟩ : ∃ rB, V0.heap.size = rB := ⟨_, rfl⟩
  have hrb : bB + 1 = rB := by omega
  rw [hbB, hrB] at hlt
  rw [hbB] at v2
  rw [hrB] at v1
  have HBW0 : Hid (Below bB W V) := hide (by rw [← hbB]; exact below_next bV0 bV1 bV0.size)
  have HBX0 := hide v2
  have HRS0 := hide v1
  have HBB := hide hbB
  have HLT := hide hlt
  have HSZ0 := hide (box_lt v1)
  clear v0 v1 v2 bV0 bV1
  go_enter Try.func31, Try.ntmps31
  go_upto_region 1 with fail
  try rw [hbB]
  try rw [hrb]
  rw [← hV0, ← hV]
  try rw [hrB]
  clear hV0 hV hbB hrB hs0 hrb hlt
  obtain ⟨_, _, _, _, _, _, u0, u1, u2, u3, u4, u5⟩ := six HBX0.out
  go_wp2_with fail
  refine (snd_any).mono ?_
  rw [HS.out]
  simp only [GE.val, GE.row]
  rintro _ w1 ⟨rfl, b1⟩
  have HBX1 := hide (below_box b1 HBX0.out)
  have HRS1 := hide (below_box b1 HRS0.out)
  have HBW1 := hide (below_next HBW0.out b1 (by have := HLT.out; have := HSZ0.out; omega))
  have HSZ1 := hide (box_lt HRS1.out)
  clear b1 HBX0 HRS0 HBW0 HSZ0 u0 u1 u2 u3 u4 u5
  obtain ⟨_, _, _, _, _, _, u0, u1, u2, u3, u4, u5⟩ := six HBX1.out
  go_upto_region 2 with fail
  obtain ⟨X, hX⟩ : ∃ X, X = ((((((w1.setCell ⟨bB, 0, none⟩ (.int .i64 c)).setCell ⟨bB, 1, none⟩ (.int .i64 x)).setCell ⟨bB, 2, none⟩ (.int .i64 u)).setCell ⟨bB, 3, none⟩ (.int .i64 s)).setCell ⟨bB, 4, none⟩ (.int .i64 k)).setCell ⟨bB, 5, none⟩ (.int .i64 a)) := ⟨_, rfl⟩
  have oX : Only (· = bB) w1 X := by rw [hX]; exact ((((((Only.set (F := (· = bB)) _ bB 0 (.int .i64 c) rfl).trans (Only.set (F := (· = bB)) _ bB 1 (.int .i64 x) rfl)).trans (Only.set (F := (· = bB)) _ bB 2 (.int .i64 u) rfl)).trans (Only.set (F := (· = bB)) _ bB 3 (.int .i64 s) rfl)).trans (Only.set (F := (· = bB)) _ bB 4 (.int .i64 k) rfl)).trans (Only.set (F := (· = bB)) _ bB 5 (.int .i64 a) rfl))
  have HBX2 : Hid (X.heap[bB]? = some (.cells #[.int .i64 c, .int .i64 x, .int .i64 u, .int .i64 s, .int .i64 k, .int .i64 a] 23 (0, 0))) := hide (by rw [hX]; exact (heap_set_sameL (heap_set_sameL (heap_set_sameL (heap_set_sameL (heap_set_sameL (heap_set_sameL HBX1.out 0 (.int .i64 c)) 1 (.int .i64 x)) 2 (.int .i64 u)) 3 (.int .i64 s)) 4 (.int .i64 k)) 5 (.int .i64 a)))
  have HRS2 := hide (oX.obj HRS1.out (fun e => by have e' : rB = bB := e; have := HLT.out; omega))
  have HBW2 := hide (HBW1.out.trans (oX.below (by have := HLT.out; have := HSZ1.out; omega) (fun i e => by have e' : i = bB := e; omega)))
  have HSZ2 := hide (box_lt HRS2.out)
  rw [← hX]
  clear hX oX HBX1 HRS1 HBW1 HSZ1 u0 u1 u2 u3 u4 u5
  obtain ⟨_, _, _, _, _, _, u0, u1, u2, u3, u4, u5⟩ := six HBX2.out
  go_wp2_with fail
  refine (awaits_any).mono ?_
  rw [HAW.out]
  rintro _ w3 ⟨rfl, b3⟩
  have HBX3 := hide (below_box b3 HBX2.out)
  have HRS3 := hide (below_box b3 HRS2.out)
  have HBW3 := hide (below_next HBW2.out b3 (by have := HLT.out; have := HSZ2.out; omega))
  have HSZ3 := hide (box_lt HRS3.out)
  clear b3 HBX2 HRS2 HBW2 HSZ2 u0 u1 u2 u3 u4 u5
  obtain ⟨_, _, _, _, _, _, u0, u1, u2, u3, u4, u5⟩ := six HBX3.out
  go_wp2_with fail
  refine (yie_any).mono ?_
  rw [HY.out]
  simp only [GE.val, GE.row]
  rintro _ w4 ⟨rfl, b4⟩
  have HBX4 := hide (below_box b4 HBX3.out)
  have HRS4 := hide (below_box b4 HRS3.out)
  have HBW4 := hide (below_next HBW3.out b4 (by have := HLT.out; have := HSZ3.out; omega))
  have HSZ4 := hide (box_lt HRS4.out)
  clear b4 HBX3 HRS3 HBW3 HSZ3 u0 u1 u2 u3 u4 u5
  obtain ⟨f0, f1, f2, f3, f4, f5, r0, r1, r2, r3, r4, r5⟩ := six HRS4.out
  go_wp2
  have hE := heap_set6 HRS4.out (.int .i64 c) (.int .i64 0) (.int .i64 0) (.int .i64 s) (.int .i64 0) (.int .i64 0)
  refine bodyPost_ret (results_cell_two rfl _ _ rB 23 _ _ _ rfl hE Try.underlying23 rfl (by kernel_rfl)) rfl ?_
  refine ⟨by rw [HQ.out]; rfl, ?_⟩
  rw [HBB.out]
  exact HBW4.out.trans ((only_set6 _ rB _ _ _ _ _ _).below (by have := HLT.out; have := HSZ4.out; omega) (fun i e => by have e' : i = rB := e; have := HLT.out; omega))

set_option maxRecDepth 100000 in
set_option maxHeartbeats 2000000 in
theorem rfs_3 {W : World} {ck ep un se ki ak : Int} {c x u s k a : Int} {n : Int} (hs : sndG ⟨ck, ep, un, se, ki, ak⟩ = ⟨c, x, u, s, k, a⟩) (h : k ≠ 0) (h2 : n = s) (h3 : k ≠ 2) :
    Calls Try.prog 31 #[.agg #[.int .i64 ck, .int .i64 ep, .int .i64 un, .int .i64 se, .int .i64 ki, .int .i64 ak], .int .i64 n] W fun e w' => e = .returned (.tuple #[GE.val (rfsG ⟨ck, ep, un, se, ki, ak⟩ n).1, .bool (rfsG ⟨ck, ep, un, se, ki, ak⟩ n).2]) ∧ Below W.heap.size W w' := by
  have HQ : Hid (rfsG ⟨ck, ep, un, se, ki, ak⟩ n = (⟨c, x, u, s, 0, 0⟩, true)) := hide (by unfold rfsG; rw [hs]; exact (if_neg (fun q => q.elim h (fun q => q h2))).trans (if_neg h3))
  have HAW : Hid (awG ⟨c, x, u, s, k, a⟩ n = true) := hide (decide_eq_true ⟨h, h2⟩)
  have d3 : (k == 2) = false := ne_eqL h3
  have HS := hide hs
  clear hs h h2 h3
  obtain ⟨V0, hV0⟩ : ∃ V0, V0 = W.alloc (.cells #[.int .i64 ck, .int .i64 ep, .int .i64 un, .int .i64 se, .int .i64 ki, .int .i64 ak] 23 (0, 0)) := ⟨_, rfl⟩
  obtain ⟨V, hV⟩ : ∃ V, V = V0.alloc (.cells #[.int .i64 0, .int .i64 0, .int .i64 0, .int .i64 0, .int .i64 0, .int .i64 0] 23 (0, 0)) := ⟨_, rfl⟩
  have bV0 : Below W.heap.size W V0 := by rw [hV0]; exact alloc_below _ _
  have bV1 : Below V0.heap.size V0 V := by rw [hV]; exact alloc_below _ _
  have v0 : V0.heap[W.heap.size]? = some (.cells #[.int .i64 ck, .int .i64 ep, .int .i64 un, .int .i64 se, .int .i64 ki, .int .i64 ak] 23 (0, 0)) := by rw [hV0]; exact heap_alloc_new W _
  have v1 : V.heap[V0.heap.size]? = some (.cells #[.int .i64 0, .int .i64 0, .int .i64 0, .int .i64 0, .int .i64 0, .int .i64 0] 23 (0, 0)) := by rw [hV]; exact heap_alloc_new V0 _
  have v2 := below_box bV1 v0
  have hlt := box_lt v0
  have hs0 : V0.heap.size = W.heap.size + 1 := by rw [hV0]; simp
  obtain ⟨bB, hbB⟩ : ∃ bB, W.heap.size = bB := ⟨_, rfl⟩
  obtain ⟨rB, hrB⟩ : ∃ rB, V0.heap.size = rB := ⟨_, rfl⟩
  have hrb : bB + 1 = rB := by omega
  rw [hbB, hrB] at hlt
  rw [hbB] at v2
  rw [hrB] at v1
  have HBW0 : Hid (Below bB W V) := hide (by rw [← hbB]; exact below_next bV0 bV1 bV0.size)
  have HBX0 := hide v2
  have HRS0 := hide v1
  have HBB := hide hbB
  have HLT := hide hlt
  have HSZ0 := hide (box_lt v1)
  clear v0 v1 v2 bV0 bV1
  go_enter Try.func31, Try.ntmps31
  go_upto_region 1 with fail
  try rw [hbB]
  try rw [hrb]
  rw [← hV0, ← hV]
  try rw [hrB]
  clear hV0 hV hbB hrB hs0 hrb hlt
  obtain ⟨_, _, _, _, _, _, u0, u1, u2, u3, u4, u5⟩ := six HBX0.out
  go_wp2_with fail
  refine (snd_any).mono ?_
  rw [HS.out]
  simp only [GE.val, GE.row]
  rintro _ w1 ⟨rfl, b1⟩
  have HBX1 := hide (below_box b1 HBX0.out)
  have HRS1 := hide (below_box b1 HRS0.out)
  have HBW1 := hide (below_next HBW0.out b1 (by have := HLT.out; have := HSZ0.out; omega))
  have HSZ1 := hide (box_lt HRS1.out)
  clear b1 HBX0 HRS0 HBW0 HSZ0 u0 u1 u2 u3 u4 u5
  obtain ⟨_, _, _, _, _, _, u0, u1, u2, u3, u4, u5⟩ := six HBX1.out
  go_upto_region 2 with fail
  obtain ⟨X, hX⟩ : ∃ X, X = ((((((w1.setCell ⟨bB, 0, none⟩ (.int .i64 c)).setCell ⟨bB, 1, none⟩ (.int .i64 x)).setCell ⟨bB, 2, none⟩ (.int .i64 u)).setCell ⟨bB, 3, none⟩ (.int .i64 s)).setCell ⟨bB, 4, none⟩ (.int .i64 k)).setCell ⟨bB, 5, none⟩ (.int .i64 a)) := ⟨_, rfl⟩
  have oX : Only (· = bB) w1 X := by rw [hX]; exact ((((((Only.set (F := (· = bB)) _ bB 0 (.int .i64 c) rfl).trans (Only.set (F := (· = bB)) _ bB 1 (.int .i64 x) rfl)).trans (Only.set (F := (· = bB)) _ bB 2 (.int .i64 u) rfl)).trans (Only.set (F := (· = bB)) _ bB 3 (.int .i64 s) rfl)).trans (Only.set (F := (· = bB)) _ bB 4 (.int .i64 k) rfl)).trans (Only.set (F := (· = bB)) _ bB 5 (.int .i64 a) rfl))
  have HBX2 : Hid (X.heap[bB]? = some (.cells #[.int .i64 c, .int .i64 x, .int .i64 u, .int .i64 s, .int .i64 k, .int .i64 a] 23 (0, 0))) := hide (by rw [hX]; exact (heap_set_sameL (heap_set_sameL (heap_set_sameL (heap_set_sameL (heap_set_sameL (heap_set_sameL HBX1.out 0 (.int .i64 c)) 1 (.int .i64 x)) 2 (.int .i64 u)) 3 (.int .i64 s)) 4 (.int .i64 k)) 5 (.int .i64 a)))
  have HRS2 := hide (oX.obj HRS1.out (fun e => by have e' : rB = bB := e; have := HLT.out; omega))
  have HBW2 := hide (HBW1.out.trans (oX.below (by have := HLT.out; have := HSZ1.out; omega) (fun i e => by have e' : i = bB := e; omega)))
  have HSZ2 := hide (box_lt HRS2.out)
  rw [← hX]
  clear hX oX HBX1 HRS1 HBW1 HSZ1 u0 u1 u2 u3 u4 u5
  obtain ⟨_, _, _, _, _, _, u0, u1, u2, u3, u4, u5⟩ := six HBX2.out
  go_wp2_with fail
  refine (awaits_any).mono ?_
  rw [HAW.out]
  rintro _ w3 ⟨rfl, b3⟩
  have HBX3 := hide (below_box b3 HBX2.out)
  have HRS3 := hide (below_box b3 HRS2.out)
  have HBW3 := hide (below_next HBW2.out b3 (by have := HLT.out; have := HSZ2.out; omega))
  have HSZ3 := hide (box_lt HRS3.out)
  clear b3 HBX2 HRS2 HBW2 HSZ2 u0 u1 u2 u3 u4 u5
  obtain ⟨_, _, _, _, _, _, u0, u1, u2, u3, u4, u5⟩ := six HBX3.out
  go_wp2_with fail
  refine (ans_any).mono ?_
  simp only [GE.val, GE.row, ansG]
  rintro _ w4 ⟨rfl, b4⟩
  have HBX4 := hide (below_box b4 HBX3.out)
  have HRS4 := hide (below_box b4 HRS3.out)
  have HBW4 := hide (below_next HBW3.out b4 (by have := HLT.out; have := HSZ3.out; omega))
  have HSZ4 := hide (box_lt HRS4.out)
  clear b4 HBX3 HRS3 HBW3 HSZ3 u0 u1 u2 u3 u4 u5
  obtain ⟨f0, f1, f2, f3, f4, f5, r0, r1, r2, r3, r4, r5⟩ := six HRS4.out
  go_wp2
  have hE := heap_set6 HRS4.out (.int .i64 c) (.int .i64 x) (.int .i64 u) (.int .i64 s) (.int .i64 0) (.int .i64 0)
  refine bodyPost_ret (results_cell_two rfl _ _ rB 23 _ _ _ rfl hE Try.underlying23 rfl (by kernel_rfl)) rfl ?_
  refine ⟨by rw [HQ.out]; rfl, ?_⟩
  rw [HBB.out]
  exact HBW4.out.trans ((only_set6 _ rB _ _ _ _ _ _).below (by have := HLT.out; have := HSZ4.out; omega) (fun i e => by have e' : i = rB := e; have := HLT.out; omega))

theorem rfs_any {W : World} {ck ep un se ki ak : Int} {n : Int} : Calls Try.prog 31 #[.agg #[.int .i64 ck, .int .i64 ep, .int .i64 un, .int .i64 se, .int .i64 ki, .int .i64 ak], .int .i64 n] W fun e w' => e = .returned (.tuple #[GE.val (rfsG ⟨ck, ep, un, se, ki, ak⟩ n).1, .bool (rfsG ⟨ck, ep, un, se, ki, ak⟩ n).2]) ∧ Below W.heap.size W w' := by
  obtain ⟨⟨c, x, u, s, k, a⟩, hs⟩ : ∃ q, sndG ⟨ck, ep, un, se, ki, ak⟩ = q := ⟨_, rfl⟩
  by_cases h : k = 0
  · exact rfs_0 hs h
  · by_cases h2 : n = s
    · by_cases h3 : k = 2
      · exact rfs_2 hs h h2 h3
      · exact rfs_3 hs h h2 h3
    · exact rfs_1 hs h h2
set_option maxRecDepth 100000 in
set_option maxHeartbeats 2000000 in
theorem rrfs_0 {W : World} {ck ep un se ki ak : Int} {c x u s k a : Int} {n : Int} (hs : sndG ⟨ck, ep, un, se, ki, ak⟩ = ⟨c, x, u, s, k, a⟩) (h : k = 0) :
    Calls Try.prog 32 #[.agg #[.int .i64 ck, .int .i64 ep, .int .i64 un, .int .i64 se, .int .i64 ki, .int .i64 ak], .int .i64 n] W fun e w' => e = .returned (.tuple #[GE.val (rfsG ⟨ck, ep, un, se, ki, ak⟩ n).1, .bool (rfsG ⟨ck, ep, un, se, ki, ak⟩ n).2]) ∧ Below W.heap.size W w' := by
  have HQ : Hid (rfsG ⟨ck, ep, un, se, ki, ak⟩ n = (⟨c, x, u, s, k, a⟩, false)) := hide (by unfold rfsG; rw [hs]; exact if_pos (.inl h))
  have d1 : (k == 0) = true := by simpa using h
  have HS := hide hs
  clear hs h
  obtain ⟨V0, hV0⟩ : ∃ V0, V0 = W.alloc (.cells #[.int .i64 ck, .int .i64 ep, .int .i64 un, .int .i64 se, .int .i64 ki, .int .i64 ak] 23 (0, 0)) := ⟨_, rfl⟩
  obtain ⟨V, hV⟩ : ∃ V, V = V0.alloc (.cells #[.int .i64 0, .int .i64 0, .int .i64 0, .int .i64 0, .int .i64 0, .int .i64 0] 23 (0, 0)) := ⟨_, rfl⟩
  have bV0 : Below W.heap.size W V0 := by rw [hV0]; exact alloc_below _ _
  have bV1 : Below V0.heap.size V0 V := by rw [hV]; exact alloc_below _ _
  have v0 : V0.heap[W.heap.size]? = some (.cells #[.int .i64 ck, .int .i64 ep, .int .i64 un, .int .i64 se, .int .i64 ki, .int .i64 ak] 23 (0, 0)) := by rw [hV0]; exact heap_alloc_new W _
  have v1 : V.heap[V0.heap.size]? = some (.cells #[.int .i64 0, .int .i64 0, .int .i64 0, .int .i64 0, .int .i64 0, .int .i64 0] 23 (0, 0)) := by rw [hV]; exact heap_alloc_new V0 _
  have v2 := below_box bV1 v0
  have hlt := box_lt v0
  have hs0 : V0.heap.size = W.heap.size + 1 := by rw [hV0]; simp
  obtain ⟨bB, hbB⟩ : ∃ bB, W.heap.size = bB := ⟨_, rfl⟩
  obtain ⟨rB, hrB⟩ : ∃ rB, V0.heap.size = rB := ⟨_, rfl⟩
  have hrb : bB + 1 = rB := by omega
  rw [hbB, hrB] at hlt
  rw [hbB] at v2
  rw [hrB] at v1
  have HBW0 : Hid (Below bB W V) := hide (by rw [← hbB]; exact below_next bV0 bV1 bV0.size)
  have HBX0 := hide v2
  have HRS0 := hide v1
  have HBB := hide hbB
  have HLT := hide hlt
  have HSZ0 := hide (box_lt v1)
  clear v0 v1 v2 bV0 bV1
  go_enter Try.func32, Try.ntmps32
  go_upto_region 1 with fail
  try rw [hbB]
  try rw [hrb]
  rw [← hV0, ← hV]
  try rw [hrB]
  clear hV0 hV hbB hrB hs0 hrb hlt
  obtain ⟨_, _, _, _, _, _, u0, u1, u2, u3, u4, u5⟩ := six HBX0.out
  go_wp2_with fail
  refine (may_any).mono ?_
  rw [HS.out]
  simp only [GE.val, GE.row]
  rintro _ w1 ⟨rfl, b1⟩
  have HBX1 := hide (below_box b1 HBX0.out)
  have HRS1 := hide (below_box b1 HRS0.out)
  have HBW1 := hide (below_next HBW0.out b1 (by have := HLT.out; have := HSZ0.out; omega))
  have HSZ1 := hide (box_lt HRS1.out)
  clear b1 HBX0 HRS0 HBW0 HSZ0 u0 u1 u2 u3 u4 u5
  obtain ⟨_, _, _, _, _, _, u0, u1, u2, u3, u4, u5⟩ := six HBX1.out
  go_upto_region 2 with fail
  obtain ⟨X, hX⟩ : ∃ X, X = ((((((w1.setCell ⟨bB, 0, none⟩ (.int .i64 c)).setCell ⟨bB, 1, none⟩ (.int .i64 x)).setCell ⟨bB, 2, none⟩ (.int .i64 u)).setCell ⟨bB, 3, none⟩ (.int .i64 s)).setCell ⟨bB, 4, none⟩ (.int .i64 k)).setCell ⟨bB, 5, none⟩ (.int .i64 a)) := ⟨_, rfl⟩
  have oX : Only (· = bB) w1 X := by rw [hX]; exact ((((((Only.set (F := (· = bB)) _ bB 0 (.int .i64 c) rfl).trans (Only.set (F := (· = bB)) _ bB 1 (.int .i64 x) rfl)).trans (Only.set (F := (· = bB)) _ bB 2 (.int .i64 u) rfl)).trans (Only.set (F := (· = bB)) _ bB 3 (.int .i64 s) rfl)).trans (Only.set (F := (· = bB)) _ bB 4 (.int .i64 k) rfl)).trans (Only.set (F := (· = bB)) _ bB 5 (.int .i64 a) rfl))
  have HBX2 : Hid (X.heap[bB]? = some (.cells #[.int .i64 c, .int .i64 x, .int .i64 u, .int .i64 s, .int .i64 k, .int .i64 a] 23 (0, 0))) := hide (by rw [hX]; exact (heap_set_sameL (heap_set_sameL (heap_set_sameL (heap_set_sameL (heap_set_sameL (heap_set_sameL HBX1.out 0 (.int .i64 c)) 1 (.int .i64 x)) 2 (.int .i64 u)) 3 (.int .i64 s)) 4 (.int .i64 k)) 5 (.int .i64 a)))
  have HRS2 := hide (oX.obj HRS1.out (fun e => by have e' : rB = bB := e; have := HLT.out; omega))
  have HBW2 := hide (HBW1.out.trans (oX.below (by have := HLT.out; have := HSZ1.out; omega) (fun i e => by have e' : i = bB := e; omega)))
  have HSZ2 := hide (box_lt HRS2.out)
  rw [← hX]
  clear hX oX HBX1 HRS1 HBW1 HSZ1 u0 u1 u2 u3 u4 u5
  obtain ⟨_, _, _, _, _, _, u0, u1, u2, u3, u4, u5⟩ := six HBX2.out
  obtain ⟨f0, f1, f2, f3, f4, f5, r0, r1, r2, r3, r4, r5⟩ := six HRS2.out
  go_wp2
  have hE := heap_set6 HRS2.out (.int .i64 c) (.int .i64 x) (.int .i64 u) (.int .i64 s) (.int .i64 k) (.int .i64 a)
  refine bodyPost_ret (results_cell_two rfl _ _ rB 23 _ _ _ rfl hE Try.underlying23 rfl (by kernel_rfl)) rfl ?_
  refine ⟨by rw [HQ.out]; rfl, ?_⟩
  rw [HBB.out]
  exact HBW2.out.trans ((only_set6 _ rB _ _ _ _ _ _).below (by have := HLT.out; have := HSZ2.out; omega) (fun i e => by have e' : i = rB := e; have := HLT.out; omega))

set_option maxRecDepth 100000 in
set_option maxHeartbeats 2000000 in
theorem rrfs_1 {W : World} {ck ep un se ki ak : Int} {c x u s k a : Int} {n : Int} (hs : sndG ⟨ck, ep, un, se, ki, ak⟩ = ⟨c, x, u, s, k, a⟩) (h : k ≠ 0) (h2 : n ≠ s) :
    Calls Try.prog 32 #[.agg #[.int .i64 ck, .int .i64 ep, .int .i64 un, .int .i64 se, .int .i64 ki, .int .i64 ak], .int .i64 n] W fun e w' => e = .returned (.tuple #[GE.val (rfsG ⟨ck, ep, un, se, ki, ak⟩ n).1, .bool (rfsG ⟨ck, ep, un, se, ki, ak⟩ n).2]) ∧ Below W.heap.size W w' := by
  have HQ : Hid (rfsG ⟨ck, ep, un, se, ki, ak⟩ n = (⟨c, x, u, s, k, a⟩, false)) := hide (by unfold rfsG; rw [hs]; exact if_pos (.inr h2))
  have d1 : (k == 0) = false := ne_eqL h
  have d2 : (n != s) = true := ne_neG h2
  have d2e : (n == s) = false := ne_eqL h2
  have HS := hide hs
  clear hs h h2
  obtain ⟨V0, hV0⟩ : ∃ V0, V0 = W.alloc (.cells #[.int .i64 ck, .int .i64 ep, .int .i64 un, .int .i64 se, .int .i64 ki, .int .i64 ak] 23 (0, 0)) := ⟨_, rfl⟩
  obtain ⟨V, hV⟩ : ∃ V, V = V0.alloc (.cells #[.int .i64 0, .int .i64 0, .int .i64 0, .int .i64 0, .int .i64 0, .int .i64 0] 23 (0, 0)) := ⟨_, rfl⟩
  have bV0 : Below W.heap.size W V0 := by rw [hV0]; exact alloc_below _ _
  have bV1 : Below V0.heap.size V0 V := by rw [hV]; exact alloc_below _ _
  have v0 : V0.heap[W.heap.size]? = some (.cells #[.int .i64 ck, .int .i64 ep, .int .i64 un, .int .i64 se, .int .i64 ki, .int .i64 ak] 23 (0, 0)) := by rw [hV0]; exact heap_alloc_new W _
  have v1 : V.heap[V0.heap.size]? = some (.cells #[.int .i64 0, .int .i64 0, .int .i64 0, .int .i64 0, .int .i64 0, .int .i64 0] 23 (0, 0)) := by rw [hV]; exact heap_alloc_new V0 _
  have v2 := below_box bV1 v0
  have hlt := box_lt v0
  have hs0 : V0.heap.size = W.heap.size + 1 := by rw [hV0]; simp
  obtain ⟨bB, hbB⟩ : ∃ bB, W.heap.size = bB := ⟨_, rfl⟩
  obtain ⟨rB, hrB⟩ : ∃ rB, V0.heap.size = rB := ⟨_, rfl⟩
  have hrb : bB + 1 = rB := by omega
  rw [hbB, hrB] at hlt
  rw [hbB] at v2
  rw [hrB] at v1
  have HBW0 : Hid (Below bB W V) := hide (by rw [← hbB]; exact below_next bV0 bV1 bV0.size)
  have HBX0 := hide v2
  have HRS0 := hide v1
  have HBB := hide hbB
  have HLT := hide hlt
  have HSZ0 := hide (box_lt v1)
  clear v0 v1 v2 bV0 bV1
  go_enter Try.func32, Try.ntmps32
  go_upto_region 1 with fail
  try rw [hbB]
  try rw [hrb]
  rw [← hV0, ← hV]
  try rw [hrB]
  clear hV0 hV hbB hrB hs0 hrb hlt
  obtain ⟨_, _, _, _, _, _, u0, u1, u2, u3, u4, u5⟩ := six HBX0.out
  go_wp2_with fail
  refine (may_any).mono ?_
  rw [HS.out]
  simp only [GE.val, GE.row]
  rintro _ w1 ⟨rfl, b1⟩
  have HBX1 := hide (below_box b1 HBX0.out)
  have HRS1 := hide (below_box b1 HRS0.out)
  have HBW1 := hide (below_next HBW0.out b1 (by have := HLT.out; have := HSZ0.out; omega))
  have HSZ1 := hide (box_lt HRS1.out)
  clear b1 HBX0 HRS0 HBW0 HSZ0 u0 u1 u2 u3 u4 u5
  obtain ⟨_, _, _, _, _, _, u0, u1, u2, u3, u4, u5⟩ := six HBX1.out
  go_upto_region 2 with fail
  obtain ⟨X, hX⟩ : ∃ X, X = ((((((w1.setCell ⟨bB, 0, none⟩ (.int .i64 c)).setCell ⟨bB, 1, none⟩ (.int .i64 x)).setCell ⟨bB, 2, none⟩ (.int .i64 u)).setCell ⟨bB, 3, none⟩ (.int .i64 s)).setCell ⟨bB, 4, none⟩ (.int .i64 k)).setCell ⟨bB, 5, none⟩ (.int .i64 a)) := ⟨_, rfl⟩
  have oX : Only (· = bB) w1 X := by rw [hX]; exact ((((((Only.set (F := (· = bB)) _ bB 0 (.int .i64 c) rfl).trans (Only.set (F := (· = bB)) _ bB 1 (.int .i64 x) rfl)).trans (Only.set (F := (· = bB)) _ bB 2 (.int .i64 u) rfl)).trans (Only.set (F := (· = bB)) _ bB 3 (.int .i64 s) rfl)).trans (Only.set (F := (· = bB)) _ bB 4 (.int .i64 k) rfl)).trans (Only.set (F := (· = bB)) _ bB 5 (.int .i64 a) rfl))
  have HBX2 : Hid (X.heap[bB]? = some (.cells #[.int .i64 c, .int .i64 x, .int .i64 u, .int .i64 s, .int .i64 k, .int .i64 a] 23 (0, 0))) := hide (by rw [hX]; exact (heap_set_sameL (heap_set_sameL (heap_set_sameL (heap_set_sameL (heap_set_sameL (heap_set_sameL HBX1.out 0 (.int .i64 c)) 1 (.int .i64 x)) 2 (.int .i64 u)) 3 (.int .i64 s)) 4 (.int .i64 k)) 5 (.int .i64 a)))
  have HRS2 := hide (oX.obj HRS1.out (fun e => by have e' : rB = bB := e; have := HLT.out; omega))
  have HBW2 := hide (HBW1.out.trans (oX.below (by have := HLT.out; have := HSZ1.out; omega) (fun i e => by have e' : i = bB := e; omega)))
  have HSZ2 := hide (box_lt HRS2.out)
  rw [← hX]
  clear hX oX HBX1 HRS1 HBW1 HSZ1 u0 u1 u2 u3 u4 u5
  obtain ⟨_, _, _, _, _, _, u0, u1, u2, u3, u4, u5⟩ := six HBX2.out
  obtain ⟨f0, f1, f2, f3, f4, f5, r0, r1, r2, r3, r4, r5⟩ := six HRS2.out
  go_wp2
  have hE := heap_set6 HRS2.out (.int .i64 c) (.int .i64 x) (.int .i64 u) (.int .i64 s) (.int .i64 k) (.int .i64 a)
  refine bodyPost_ret (results_cell_two rfl _ _ rB 23 _ _ _ rfl hE Try.underlying23 rfl (by kernel_rfl)) rfl ?_
  refine ⟨by rw [HQ.out]; rfl, ?_⟩
  rw [HBB.out]
  exact HBW2.out.trans ((only_set6 _ rB _ _ _ _ _ _).below (by have := HLT.out; have := HSZ2.out; omega) (fun i e => by have e' : i = rB := e; have := HLT.out; omega))

set_option maxRecDepth 100000 in
set_option maxHeartbeats 2000000 in
theorem rrfs_2 {W : World} {ck ep un se ki ak : Int} {c x u s k a : Int} {n : Int} (hs : sndG ⟨ck, ep, un, se, ki, ak⟩ = ⟨c, x, u, s, k, a⟩) (h : k ≠ 0) (h2 : n = s) (h3 : k = 2) :
    Calls Try.prog 32 #[.agg #[.int .i64 ck, .int .i64 ep, .int .i64 un, .int .i64 se, .int .i64 ki, .int .i64 ak], .int .i64 n] W fun e w' => e = .returned (.tuple #[GE.val (rfsG ⟨ck, ep, un, se, ki, ak⟩ n).1, .bool (rfsG ⟨ck, ep, un, se, ki, ak⟩ n).2]) ∧ Below W.heap.size W w' := by
  have HQ : Hid (rfsG ⟨ck, ep, un, se, ki, ak⟩ n = (⟨c, 0, 0, s, 0, 0⟩, true)) := hide (by unfold rfsG; rw [hs]; exact (if_neg (fun q => q.elim h (fun q => q h2))).trans (if_pos h3))
  have HY : Hid (yieG ⟨c, x, u, s, k, a⟩ = ⟨c, 0, 0, s, 0, 0⟩) := hide (by unfold yieG; rw [snd_same (by rw [← hs]; exact snd_ok _)]; rfl)
  have d1 : (k == 0) = false := ne_eqL h
  have d2 : (n != s) = false := by simp [h2]
  have d2e : (n == s) = true := by simpa using h2
  have d3 : (k == 2) = true := by simpa using h3
  have HS := hide hs
  clear hs h h2 h3
  obtain ⟨V0, hV0⟩ : ∃ V0, V0 = W.alloc (.cells #[.int .i64 ck, .int .i64 ep, .int .i64 un, .int .i64 se, .int .i64 ki, .int .i64 ak] 23 (0, 0)) := ⟨_, rfl⟩
  obtain ⟨V, hV⟩ : ∃ V, V = V0.alloc (.cells #[.int .i64 0, .int .i64 0, .int .i64 0, .int .i64 0, .int .i64 0, .int .i64 0] 23 (0, 0)) := ⟨_, rfl⟩
  have bV0 : Below W.heap.size W V0 := by rw [hV0]; exact alloc_below _ _
  have bV1 : Below V0.heap.size V0 V := by rw [hV]; exact alloc_below _ _
  have v0 : V0.heap[W.heap.size]? = some (.cells #[.int .i64 ck, .int .i64 ep, .int .i64 un, .int .i64 se, .int .i64 ki, .int .i64 ak] 23 (0, 0)) := by rw [hV0]; exact heap_alloc_new W _
  have v1 : V.heap[V0.heap.size]? = some (.cells #[.int .i64 0, .int .i64 0, .int .i64 0, .int .i64 0, .int .i64 0, .int .i64 0] 23 (0, 0)) := by rw [hV]; exact heap_alloc_new V0 _
  have v2 := below_box bV1 v0
  have hlt := box_lt v0
  have hs0 : V0.heap.size = W.heap.size + 1 := by rw [hV0]; simp
  obtain ⟨bB, hbB⟩ : ∃ bB, W.heap.size = bB := ⟨_, rfl⟩
  obtain ⟨rB, hrB⟩ : ∃ rB, V0.heap.size = rB := ⟨_, rfl⟩
  have hrb : bB + 1 = rB := by omega
  rw [hbB, hrB] at hlt
  rw [hbB] at v2
  rw [hrB] at v1
  have HBW0 : Hid (Below bB W V) := hide (by rw [← hbB]; exact below_next bV0 bV1 bV0.size)
  have HBX0 := hide v2
  have HRS0 := hide v1
  have HBB := hide hbB
  have HLT := hide hlt
  have HSZ0 := hide (box_lt v1)
  clear v0 v1 v2 bV0 bV1
  go_enter Try.func32, Try.ntmps32
  go_upto_region 1 with fail
  try rw [hbB]
  try rw [hrb]
  rw [← hV0, ← hV]
  try rw [hrB]
  clear hV0 hV hbB hrB hs0 hrb hlt
  obtain ⟨_, _, _, _, _, _, u0, u1, u2, u3, u4, u5⟩ := six HBX0.out
  go_wp2_with fail
  refine (may_any).mono ?_
  rw [HS.out]
  simp only [GE.val, GE.row]
  rintro _ w1 ⟨rfl, b1⟩
  have HBX1 := hide (below_box b1 HBX0.out)
  have HRS1 := hide (below_box b1 HRS0.out)
  have HBW1 := hide (below_next HBW0.out b1 (by have := HLT.out; have := HSZ0.out; omega))
  have HSZ1 := hide (box_lt HRS1.out)
  clear b1 HBX0 HRS0 HBW0 HSZ0 u0 u1 u2 u3 u4 u5
  obtain ⟨_, _, _, _, _, _, u0, u1, u2, u3, u4, u5⟩ := six HBX1.out
  go_upto_region 2 with fail
  obtain ⟨X, hX⟩ : ∃ X, X = ((((((w1.setCell ⟨bB, 0, none⟩ (.int .i64 c)).setCell ⟨bB, 1, none⟩ (.int .i64 x)).setCell ⟨bB, 2, none⟩ (.int .i64 u)).setCell ⟨bB, 3, none⟩ (.int .i64 s)).setCell ⟨bB, 4, none⟩ (.int .i64 k)).setCell ⟨bB, 5, none⟩ (.int .i64 a)) := ⟨_, rfl⟩
  have oX : Only (· = bB) w1 X := by rw [hX]; exact ((((((Only.set (F := (· = bB)) _ bB 0 (.int .i64 c) rfl).trans (Only.set (F := (· = bB)) _ bB 1 (.int .i64 x) rfl)).trans (Only.set (F := (· = bB)) _ bB 2 (.int .i64 u) rfl)).trans (Only.set (F := (· = bB)) _ bB 3 (.int .i64 s) rfl)).trans (Only.set (F := (· = bB)) _ bB 4 (.int .i64 k) rfl)).trans (Only.set (F := (· = bB)) _ bB 5 (.int .i64 a) rfl))
  have HBX2 : Hid (X.heap[bB]? = some (.cells #[.int .i64 c, .int .i64 x, .int .i64 u, .int .i64 s, .int .i64 k, .int .i64 a] 23 (0, 0))) := hide (by rw [hX]; exact (heap_set_sameL (heap_set_sameL (heap_set_sameL (heap_set_sameL (heap_set_sameL (heap_set_sameL HBX1.out 0 (.int .i64 c)) 1 (.int .i64 x)) 2 (.int .i64 u)) 3 (.int .i64 s)) 4 (.int .i64 k)) 5 (.int .i64 a)))
  have HRS2 := hide (oX.obj HRS1.out (fun e => by have e' : rB = bB := e; have := HLT.out; omega))
  have HBW2 := hide (HBW1.out.trans (oX.below (by have := HLT.out; have := HSZ1.out; omega) (fun i e => by have e' : i = bB := e; omega)))
  have HSZ2 := hide (box_lt HRS2.out)
  rw [← hX]
  clear hX oX HBX1 HRS1 HBW1 HSZ1 u0 u1 u2 u3 u4 u5
  obtain ⟨_, _, _, _, _, _, u0, u1, u2, u3, u4, u5⟩ := six HBX2.out
  go_wp2_with fail
  refine (ryie_any).mono ?_
  rw [HY.out]
  simp only [GE.val, GE.row]
  rintro _ w3 ⟨rfl, b3⟩
  have HBX3 := hide (below_box b3 HBX2.out)
  have HRS3 := hide (below_box b3 HRS2.out)
  have HBW3 := hide (below_next HBW2.out b3 (by have := HLT.out; have := HSZ2.out; omega))
  have HSZ3 := hide (box_lt HRS3.out)
  clear b3 HBX2 HRS2 HBW2 HSZ2 u0 u1 u2 u3 u4 u5
  obtain ⟨f0, f1, f2, f3, f4, f5, r0, r1, r2, r3, r4, r5⟩ := six HRS3.out
  go_wp2
  have hE := heap_set6 HRS3.out (.int .i64 c) (.int .i64 0) (.int .i64 0) (.int .i64 s) (.int .i64 0) (.int .i64 0)
  refine bodyPost_ret (results_cell_two rfl _ _ rB 23 _ _ _ rfl hE Try.underlying23 rfl (by kernel_rfl)) rfl ?_
  refine ⟨by rw [HQ.out]; rfl, ?_⟩
  rw [HBB.out]
  exact HBW3.out.trans ((only_set6 _ rB _ _ _ _ _ _).below (by have := HLT.out; have := HSZ3.out; omega) (fun i e => by have e' : i = rB := e; have := HLT.out; omega))

set_option maxRecDepth 100000 in
set_option maxHeartbeats 2000000 in
theorem rrfs_3 {W : World} {ck ep un se ki ak : Int} {c x u s k a : Int} {n : Int} (hs : sndG ⟨ck, ep, un, se, ki, ak⟩ = ⟨c, x, u, s, k, a⟩) (h : k ≠ 0) (h2 : n = s) (h3 : k ≠ 2) :
    Calls Try.prog 32 #[.agg #[.int .i64 ck, .int .i64 ep, .int .i64 un, .int .i64 se, .int .i64 ki, .int .i64 ak], .int .i64 n] W fun e w' => e = .returned (.tuple #[GE.val (rfsG ⟨ck, ep, un, se, ki, ak⟩ n).1, .bool (rfsG ⟨ck, ep, un, se, ki, ak⟩ n).2]) ∧ Below W.heap.size W w' := by
  have HQ : Hid (rfsG ⟨ck, ep, un, se, ki, ak⟩ n = (⟨c, x, u, s, 0, 0⟩, true)) := hide (by unfold rfsG; rw [hs]; exact (if_neg (fun q => q.elim h (fun q => q h2))).trans (if_neg h3))
  have d1 : (k == 0) = false := ne_eqL h
  have d2 : (n != s) = false := by simp [h2]
  have d2e : (n == s) = true := by simpa using h2
  have d3 : (k == 2) = false := ne_eqL h3
  have HS := hide hs
  clear hs h h2 h3
  obtain ⟨V0, hV0⟩ : ∃ V0, V0 = W.alloc (.cells #[.int .i64 ck, .int .i64 ep, .int .i64 un, .int .i64 se, .int .i64 ki, .int .i64 ak] 23 (0, 0)) := ⟨_, rfl⟩
  obtain ⟨V, hV⟩ : ∃ V, V = V0.alloc (.cells #[.int .i64 0, .int .i64 0, .int .i64 0, .int .i64 0, .int .i64 0, .int .i64 0] 23 (0, 0)) := ⟨_, rfl⟩
  have bV0 : Below W.heap.size W V0 := by rw [hV0]; exact alloc_below _ _
  have bV1 : Below V0.heap.size V0 V := by rw [hV]; exact alloc_below _ _
  have v0 : V0.heap[W.heap.size]? = some (.cells #[.int .i64 ck, .int .i64 ep, .int .i64 un, .int .i64 se, .int .i64 ki, .int .i64 ak] 23 (0, 0)) := by rw [hV0]; exact heap_alloc_new W _
  have v1 : V.heap[V0.heap.size]? = some (.cells #[.int .i64 0, .int .i64 0, .int .i64 0, .int .i64 0, .int .i64 0, .int .i64 0] 23 (0, 0)) := by rw [hV]; exact heap_alloc_new V0 _
  have v2 := below_box bV1 v0
  have hlt := box_lt v0
  have hs0 : V0.heap.size = W.heap.size + 1 := by rw [hV0]; simp
  obtain ⟨bB, hbB⟩ : ∃ bB, W.heap.size = bB := ⟨_, rfl⟩
  obtain ⟨rB, hrB⟩ : ∃ rB, V0.heap.size = rB := ⟨_, rfl⟩
  have hrb : bB + 1 = rB := by omega
  rw [hbB, hrB] at hlt
  rw [hbB] at v2
  rw [hrB] at v1
  have HBW0 : Hid (Below bB W V) := hide (by rw [← hbB]; exact below_next bV0 bV1 bV0.size)
  have HBX0 := hide v2
  have HRS0 := hide v1
  have HBB := hide hbB
  have HLT := hide hlt
  have HSZ0 := hide (box_lt v1)
  clear v0 v1 v2 bV0 bV1
  go_enter Try.func32, Try.ntmps32
  go_upto_region 1 with fail
  try rw [hbB]
  try rw [hrb]
  rw [← hV0, ← hV]
  try rw [hrB]
  clear hV0 hV hbB hrB hs0 hrb hlt
  obtain ⟨_, _, _, _, _, _, u0, u1, u2, u3, u4, u5⟩ := six HBX0.out
  go_wp2_with fail
  refine (may_any).mono ?_
  rw [HS.out]
  simp only [GE.val, GE.row]
  rintro _ w1 ⟨rfl, b1⟩
  have HBX1 := hide (below_box b1 HBX0.out)
  have HRS1 := hide (below_box b1 HRS0.out)
  have HBW1 := hide (below_next HBW0.out b1 (by have := HLT.out; have := HSZ0.out; omega))
  have HSZ1 := hide (box_lt HRS1.out)
  clear b1 HBX0 HRS0 HBW0 HSZ0 u0 u1 u2 u3 u4 u5
  obtain ⟨_, _, _, _, _, _, u0, u1, u2, u3, u4, u5⟩ := six HBX1.out
  go_upto_region 2 with fail
  obtain ⟨X, hX⟩ : ∃ X, X = ((((((w1.setCell ⟨bB, 0, none⟩ (.int .i64 c)).setCell ⟨bB, 1, none⟩ (.int .i64 x)).setCell ⟨bB, 2, none⟩ (.int .i64 u)).setCell ⟨bB, 3, none⟩ (.int .i64 s)).setCell ⟨bB, 4, none⟩ (.int .i64 k)).setCell ⟨bB, 5, none⟩ (.int .i64 a)) := ⟨_, rfl⟩
  have oX : Only (· = bB) w1 X := by rw [hX]; exact ((((((Only.set (F := (· = bB)) _ bB 0 (.int .i64 c) rfl).trans (Only.set (F := (· = bB)) _ bB 1 (.int .i64 x) rfl)).trans (Only.set (F := (· = bB)) _ bB 2 (.int .i64 u) rfl)).trans (Only.set (F := (· = bB)) _ bB 3 (.int .i64 s) rfl)).trans (Only.set (F := (· = bB)) _ bB 4 (.int .i64 k) rfl)).trans (Only.set (F := (· = bB)) _ bB 5 (.int .i64 a) rfl))
  have HBX2 : Hid (X.heap[bB]? = some (.cells #[.int .i64 c, .int .i64 x, .int .i64 u, .int .i64 s, .int .i64 k, .int .i64 a] 23 (0, 0))) := hide (by rw [hX]; exact (heap_set_sameL (heap_set_sameL (heap_set_sameL (heap_set_sameL (heap_set_sameL (heap_set_sameL HBX1.out 0 (.int .i64 c)) 1 (.int .i64 x)) 2 (.int .i64 u)) 3 (.int .i64 s)) 4 (.int .i64 k)) 5 (.int .i64 a)))
  have HRS2 := hide (oX.obj HRS1.out (fun e => by have e' : rB = bB := e; have := HLT.out; omega))
  have HBW2 := hide (HBW1.out.trans (oX.below (by have := HLT.out; have := HSZ1.out; omega) (fun i e => by have e' : i = bB := e; omega)))
  have HSZ2 := hide (box_lt HRS2.out)
  rw [← hX]
  clear hX oX HBX1 HRS1 HBW1 HSZ1 u0 u1 u2 u3 u4 u5
  obtain ⟨_, _, _, _, _, _, u0, u1, u2, u3, u4, u5⟩ := six HBX2.out
  obtain ⟨f0, f1, f2, f3, f4, f5, r0, r1, r2, r3, r4, r5⟩ := six HRS2.out
  go_wp2
  have hE := heap_set6 HRS2.out (.int .i64 c) (.int .i64 x) (.int .i64 u) (.int .i64 s) (.int .i64 0) (.int .i64 0)
  refine bodyPost_ret (results_cell_two rfl _ _ rB 23 _ _ _ rfl hE Try.underlying23 rfl (by kernel_rfl)) rfl ?_
  refine ⟨by rw [HQ.out]; rfl, ?_⟩
  rw [HBB.out]
  exact HBW2.out.trans ((only_set6 _ rB _ _ _ _ _ _).below (by have := HLT.out; have := HSZ2.out; omega) (fun i e => by have e' : i = rB := e; have := HLT.out; omega))

theorem rrfs_any {W : World} {ck ep un se ki ak : Int} {n : Int} : Calls Try.prog 32 #[.agg #[.int .i64 ck, .int .i64 ep, .int .i64 un, .int .i64 se, .int .i64 ki, .int .i64 ak], .int .i64 n] W fun e w' => e = .returned (.tuple #[GE.val (rfsG ⟨ck, ep, un, se, ki, ak⟩ n).1, .bool (rfsG ⟨ck, ep, un, se, ki, ak⟩ n).2]) ∧ Below W.heap.size W w' := by
  obtain ⟨⟨c, x, u, s, k, a⟩, hs⟩ : ∃ q, sndG ⟨ck, ep, un, se, ki, ak⟩ = q := ⟨_, rfl⟩
  by_cases h : k = 0
  · exact rrfs_0 hs h
  · by_cases h2 : n = s
    · by_cases h3 : k = 2
      · exact rrfs_2 hs h h2 h3
      · exact rrfs_3 hs h h2 h3
    · exact rrfs_1 hs h h2
end Go.Proofs.Ytegffdmlkbdcdaa
