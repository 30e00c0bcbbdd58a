/-
  bounded, Check and sound of package guard: which guards may be. No conditions.
-/
import Derived.Test.YtegffdmlkbdcdaaGda
import Derived.Deep.RegionWith
namespace Go.Proofs.Ytegffdmlkbdcdaa
open Go.RowKit

def boundG (g : GE) : GE := ⟨witC g.ck 9007199254740992, witC g.ep 9007199254740992, witC g.un (if witC g.ep 9007199254740992 = 0 then 0 else laterC (witC g.ck 9007199254740992) 12), witC g.se 9007199254740992, witC g.ki (if witC g.se 9007199254740992 = 0 then 0 else if witC g.ep 9007199254740992 = 0 then 1 else 2),
  witC g.ak (if witC g.ki (if witC g.se 9007199254740992 = 0 then 0 else if witC g.ep 9007199254740992 = 0 then 1 else 2) = 0 then 0 else witC g.ck 9007199254740992)⟩
theorem wit_same {n l : Int} : witC n l = n ↔ (0 ≤ n ∧ n ≤ l) ∨ (l < 0 ∧ n = l) := by unfold witC; omega
theorem wit_fit {n : Int} : 0 ≤ witC n 9007199254740992 ∧ witC n 9007199254740992 ≤ 9007199254740992 := by unfold witC; omega
theorem bound_ok {g : GE} : boundG g = g ↔ okG g := by
  obtain ⟨ck, ep, un, se, ki, ak⟩ := g
  unfold boundG okG
  simp only [GE.mk.injEq]
  constructor
  · rintro ⟨h0, h1, h2, h3, h4, h5⟩
    rw [h0, h1] at h2
    rw [h1, h3] at h4
    rw [h1, h3, h4, h0] at h5
    rw [wit_same] at h0 h1 h3
    have a0 : 0 ≤ ck ∧ ck ≤ 9007199254740992 := by omega
    have a1 : 0 ≤ ep ∧ ep ≤ 9007199254740992 := by omega
    have a3 : 0 ≤ se ∧ se ≤ 9007199254740992 := by omega
    unfold witC laterC at *
    (repeat' split at *) <;> (refine ⟨by omega, by omega, by omega, by omega, by omega, by omega, by omega, by omega, by omega, by omega, by omega⟩)
  · rintro ⟨h0, h1, h2, h3, h4, h5, h6, h7, h8, h9, h10⟩
    have a0 : witC ck 9007199254740992 = ck := wit_same.2 (.inl h0)
    have a1 : witC ep 9007199254740992 = ep := wit_same.2 (.inl h1)
    have a3 : witC se 9007199254740992 = se := wit_same.2 (.inl h3)
    have a4 : witC ki (if se = 0 then 0 else if ep = 0 then 1 else 2) = ki := wit_same.2 (.inl (by (repeat' split) <;> omega))
    rw [a0, a1, a3, a4]
    refine ⟨rfl, rfl, wit_same.2 (.inl ?_), rfl, rfl, wit_same.2 (.inl ?_)⟩
    · unfold laterC; split <;> omega
    · split <;> omega
/-- What the statements of bounded keep. -/
structure BI (W : World) (bB rB : Nat) (x : GE) (wd : World) : Prop where
  box : wd.heap[bB]? = some (.cells #[.int .i64 x.ck, .int .i64 x.ep, .int .i64 x.un, .int .i64 x.se, .int .i64 x.ki, .int .i64 x.ak] 23 (0, 0))
  res : wd.heap[rB]? = some (.cells #[.int .i64 0, .int .i64 0, .int .i64 0, .int .i64 0, .int .i64 0, .int .i64 0] 23 (0, 0))
  below : Below bB W wd
set_option maxRecDepth 100000 in
set_option maxHeartbeats 2000000 in
theorem bounded_any {W : World} {ck ep un se ki ak : Int}   :
    Calls Try.prog 23 #[.agg #[.int .i64 ck, .int .i64 ep, .int .i64 un, .int .i64 se, .int .i64 ki, .int .i64 ak]] W fun e w' => e = .returned (GE.val (boundG ⟨ck, ep, un, se, ki, ak⟩)) ∧ Below W.heap.size W w' := by
  obtain ⟨c, hc0⟩ : ∃ c, witC ck 9007199254740992 = c := ⟨_, rfl⟩
  obtain ⟨x, hc1⟩ : ∃ x, witC ep 9007199254740992 = x := ⟨_, rfl⟩
  obtain ⟨ul, hul⟩ : ∃ ul, untG ⟨c, x, un, se, ki, ak⟩ = ul := ⟨_, rfl⟩
  obtain ⟨u, hc2⟩ : ∃ u, witC un ul = u := ⟨_, rfl⟩
  obtain ⟨s, hc3⟩ : ∃ s, witC se 9007199254740992 = s := ⟨_, rfl⟩
  obtain ⟨kl, hkl⟩ : ∃ kl, kinG ⟨c, x, u, s, ki, ak⟩ = kl := ⟨_, rfl⟩
  obtain ⟨k, hc4⟩ : ∃ k, witC ki kl = k := ⟨_, rfl⟩
  obtain ⟨al, hal⟩ : ∃ al, askedG ⟨c, x, u, s, k, ak⟩ = al := ⟨_, rfl⟩
  obtain ⟨a, hc5⟩ : ∃ a, witC ak al = a := ⟨_, rfl⟩
  have HQ : Hid (boundG ⟨ck, ep, un, se, ki, ak⟩ = ⟨c, x, u, s, k, a⟩) := hide (by
    unfold boundG
    simp only [hc0, hc1, hc3]
    have e2 : (if x = 0 then 0 else laterC c 12) = ul := hul
    have e4 : (if s = 0 then 0 else if x = 0 then 1 else 2) = kl := hkl
    rw [e4, hc4, e2, hc2]
    have e5 : (if k = 0 then 0 else c) = al := hal
    rw [e5, hc5])
  have HK : Hid (0 ≤ c ∧ c ≤ 9007199254740992) := hide (by rw [← hc0]; exact wit_fit)
  have HC0 := hide hc0
  have HC1 := hide hc1
  have HC2 := hide hc2
  have HC3 := hide hc3
  have HC4 := hide hc4
  have HC5 := hide hc5
  have HUL := hide hul
  have HKL := hide hkl
  have HAL := hide hal
  clear hc0 hc1 hc2 hc3 hc4 hc5 hul hkl hal
  obtain ⟨V0, hV0⟩ : ∃ V0, V0 = W.alloc (.cells #[.int .i64 ck, .int .i64 ep, .int .i64 un, .int .i64 se, .int .i64 ki, .int .i64 ak] 23 (0, 0)) := ⟨_, rfl⟩
  obtain ⟨V, hV⟩ : ∃ V, V = V0.alloc (.cells #[.int .i64 0, .int .i64 0, .int .i64 0, .int .i64 0, .int .i64 0, .int .i64 0] 23 (0, 0)) := ⟨_, rfl⟩
  have bV0 : Below W.heap.size W V0 := by rw [hV0]; exact alloc_below _ _
  have bV1 : Below V0.heap.size V0 V := by rw [hV]; exact alloc_below _ _
  have v0 : V0.heap[W.heap.size]? = some (.cells #[.int .i64 ck, .int .i64 ep, .int .i64 un, .int .i64 se, .int .i64 ki, .int .i64 ak] 23 (0, 0)) := by rw [hV0]; exact heap_alloc_new W _
  have v1 : V.heap[V0.heap.size]? = some (.cells #[.int .i64 0, .int .i64 0, .int .i64 0, .int .i64 0, .int .i64 0, .int .i64 0] 23 (0, 0)) := by rw [hV]; exact heap_alloc_new V0 _
  have v2 := below_box bV1 v0
  have hlt := box_lt v0
  have hs0 : V0.heap.size = W.heap.size + 1 := by rw [hV0]; simp
  obtain ⟨bB, hbB⟩ : ∃ bB, W.heap.size = bB := ⟨_, rfl⟩
  obtain ⟨rB, hrB⟩ : ∃ rB, V0.heap.size = rB := ⟨_, rfl⟩
  have hrb : bB + 1 = rB := by omega
  rw [hbB, hrB] at hlt
  rw [hbB] at v2
  rw [hrB] at v1
  have HBW0 : Hid (Below bB W V) := hide (by rw [← hbB]; exact below_next bV0 bV1 bV0.size)
  have HBX0 := hide v2
  have HRS0 := hide v1
  have HBB := hide hbB
  have HLT := hide hlt
  have HSZ0 := hide (box_lt v1)
  clear v0 v1 v2 bV0 bV1
  go_enter Try.func23, Try.ntmps23
  go_upto_region 1 with fail
  try rw [hbB]
  try rw [hrb]
  rw [← hV0, ← hV]
  try rw [hrB]
  clear hV0 hV hbB hrB hs0 hrb hlt
  obtain ⟨_, _, _, _, _, _, u0, u1, u2, u3, u4, u5⟩ := six HBX0.out
  have hfz := (six HBX0.out).f0
  have hfz1 := (six HBX0.out).f1
  go_upto_region 3 with (go_at_call 43; refine withinint64_any.mono ?_; (first | rw [HC0.out] | rw [HC1.out] | rw [HC2.out] | rw [HC3.out] | rw [HC5.out]); rintro _ wq ⟨rfl, hq⟩; have hq := hq.symm; subst hq)
  obtain ⟨X1, hX1⟩ : ∃ X1, X1 = ((V.setCell ⟨bB, 0, none⟩ (.int .i64 c)).setCell ⟨bB, 1, none⟩ (.int .i64 x)) := ⟨_, rfl⟩
  have oX1 : Only (· = bB) V X1 := by rw [hX1]; exact ((Only.set (F := (· = bB)) _ bB 0 (.int .i64 c) rfl).trans (Only.set (F := (· = bB)) _ bB 1 (.int .i64 x) rfl))
  have HBX1 : Hid (X1.heap[bB]? = some (.cells #[.int .i64 c, .int .i64 x, .int .i64 un, .int .i64 se, .int .i64 ki, .int .i64 ak] 23 (0, 0))) := hide (by rw [hX1]; exact (heap_set_sameL (heap_set_sameL HBX0.out 0 (.int .i64 c)) 1 (.int .i64 x)))
  have HRS1 := hide (oX1.obj HRS0.out (fun e => by have e' : rB = bB := e; have := HLT.out; omega))
  have HBW1 := hide (HBW0.out.trans (oX1.below (by have := HLT.out; have := HSZ0.out; omega) (fun i e => by have e' : i = bB := e; omega)))
  have HSZ1 := hide (box_lt HRS1.out)
  rw [← hX1]
  clear hX1 oX1 HBX0 HRS0 HBW0 HSZ0 u0 u1 u2 u3 u4 u5
  obtain ⟨_, _, _, _, _, _, u0, u1, u2, u3, u4, u5⟩ := six HBX1.out
  have HWW := HBW1
  clear HSZ1
  go_cut [] from 11 to 16 (fun wd => Hid (BI W bB rB ⟨c, x, u, se, ki, ak⟩ wd))
  case first =>
    have HB0 : Hid (BI W bB rB ⟨c, x, un, se, ki, ak⟩ X1) := hide ⟨HBX1.out, HRS1.out, HBW1.out⟩
    have hfz := (six HBX1.out).f2
    go_region_with (first
      | (go_at_call 44; refine (lastun_any HK.out).mono ?_; rw [HUL.out]; rintro _ y1 ⟨rfl, b0⟩; have b1 : Below X1.heap.size X1 y1 := (Below.refl _ X1).drew.trans b0; have HY := hide (below_box b1 HBX1.out); have HYR := hide (below_box b1 HRS1.out); have HYW := hide (below_next HBW1.out b1 (by have := HLT.out; have := box_lt HRS1.out; omega)); have hfy := (six HY.out).f2; clear b0 b1; obtain ⟨_, _, _, _, _, _, y0, y2, y3, y4, y5, y6⟩ := six HY.out)
      | (go_at_call 43; refine withinint64_any.mono ?_; (first | rw [HC0.out] | rw [HC1.out] | rw [HC2.out] | rw [HC3.out] | rw [HC5.out]); rintro _ wq ⟨rfl, hq⟩; have hq := hq.symm; subst hq))
    all_goals (go_wp2_with fail; go_meet; exact hide ⟨heap_set_sameL HY.out 2 _, (Only.set (F := (· = bB)) _ bB 2 _ rfl).obj HYR.out (fun e => by have e' : rB = bB := e; have := HLT.out; omega), HYW.out.trans ((Only.set (F := (· = bB)) _ bB 2 _ rfl).below (by have := HLT.out; have := box_lt HYR.out; omega) (fun i e => by have e' : i = bB := e; omega))⟩)
  case rest =>
  rename World => wd
  clear HBX1 HRS1 HBW1 HWW u0 u1 u2 u3 u4 u5
  obtain ⟨q0, q1, q2⟩ := hcut.out
  have HBX2 := hide q0
  have HRS2 := hide q1
  have HBW2 := hide q2
  have HSZ2 := hide (box_lt q1)
  clear hcut q0 q1 q2
  simp only at HBX2
  obtain ⟨_, _, _, _, _, _, u0, u1, u2, u3, u4, u5⟩ := six HBX2.out
  have hfz3 := (six HBX2.out).f3
  go_upto_region 5 with (go_at_call 43; refine withinint64_any.mono ?_; (first | rw [HC0.out] | rw [HC1.out] | rw [HC2.out] | rw [HC3.out] | rw [HC5.out]); rintro _ wq ⟨rfl, hq⟩; have hq := hq.symm; subst hq)
  obtain ⟨X3, hX3⟩ : ∃ X3, X3 = (wd.setCell ⟨bB, 3, none⟩ (.int .i64 s)) := ⟨_, rfl⟩
  have oX3 : Only (· = bB) wd X3 := by rw [hX3]; exact (Only.set (F := (· = bB)) _ bB 3 (.int .i64 s) rfl)
  have HBX3 : Hid (X3.heap[bB]? = some (.cells #[.int .i64 c, .int .i64 x, .int .i64 u, .int .i64 s, .int .i64 ki, .int .i64 ak] 23 (0, 0))) := hide (by rw [hX3]; exact (heap_set_sameL HBX2.out 3 (.int .i64 s)))
  have HRS3 := hide (oX3.obj HRS2.out (fun e => by have e' : rB = bB := e; have := HLT.out; omega))
  have HBW3 := hide (HBW2.out.trans (oX3.below (by have := HLT.out; have := HSZ2.out; omega) (fun i e => by have e' : i = bB := e; omega)))
  have HSZ3 := hide (box_lt HRS3.out)
  rw [← hX3]
  clear hX3 oX3 HBX2 HRS2 HBW2 HSZ2 u0 u1 u2 u3 u4 u5
  obtain ⟨_, _, _, _, _, _, u0, u1, u2, u3, u4, u5⟩ := six HBX3.out
  have HWW := HBW3
  clear HSZ3
  go_cut [] from 21 to 26 (fun wd => Hid (BI W bB rB ⟨c, x, u, s, k, ak⟩ wd))
  case first =>
    have HB0 : Hid (BI W bB rB ⟨c, x, u, s, ki, ak⟩ X3) := hide ⟨HBX3.out, HRS3.out, HBW3.out⟩
    have hfz := (six HBX3.out).f4
    go_region_with (first
      | (go_at_call 46; refine (lastki_any).mono ?_; rw [HKL.out]; rintro _ y1 ⟨rfl, b0⟩; have b1 : Below X3.heap.size X3 y1 := (Below.refl _ X3).drew.trans b0; have HY := hide (below_box b1 HBX3.out); have HYR := hide (below_box b1 HRS3.out); have HYW := hide (below_next HBW3.out b1 (by have := HLT.out; have := box_lt HRS3.out; omega)); have hfy := (six HY.out).f4; clear b0 b1; obtain ⟨_, _, _, _, _, _, y0, y2, y3, y4, y5, y6⟩ := six HY.out)
      | (go_at_call 45; refine withinint_any.mono ?_; rw [HC4.out]; rintro _ wq ⟨rfl, hq⟩; have hq := hq.symm; subst hq))
    all_goals (go_wp2_with fail; go_meet; exact hide ⟨heap_set_sameL HY.out 4 _, (Only.set (F := (· = bB)) _ bB 4 _ rfl).obj HYR.out (fun e => by have e' : rB = bB := e; have := HLT.out; omega), HYW.out.trans ((Only.set (F := (· = bB)) _ bB 4 _ rfl).below (by have := HLT.out; have := box_lt HYR.out; omega) (fun i e => by have e' : i = bB := e; omega))⟩)
  case rest =>
  rename World => wd
  clear HBX3 HRS3 HBW3 HWW u0 u1 u2 u3 u4 u5
  obtain ⟨q0, q1, q2⟩ := hcut.out
  have HBX4 := hide q0
  have HRS4 := hide q1
  have HBW4 := hide q2
  have HSZ4 := hide (box_lt q1)
  clear hcut q0 q1 q2
  simp only at HBX4
  obtain ⟨_, _, _, _, _, _, u0, u1, u2, u3, u4, u5⟩ := six HBX4.out
  go_upto_region 6 with fail
  have HWW := HBW4
  clear HSZ4
  go_cut [] from 27 to 32 (fun we => Hid (BI W bB rB ⟨c, x, u, s, k, a⟩ we))
  case first =>
    have HB0 : Hid (BI W bB rB ⟨c, x, u, s, k, ak⟩ wd) := hide ⟨HBX4.out, HRS4.out, HBW4.out⟩
    have hfz := (six HBX4.out).f5
    go_region_with (first
      | (go_at_call 47; refine (lastak_any).mono ?_; rw [HAL.out]; rintro _ y1 ⟨rfl, b0⟩; have b1 : Below wd.heap.size wd y1 := (Below.refl _ wd).drew.trans b0; have HY := hide (below_box b1 HBX4.out); have HYR := hide (below_box b1 HRS4.out); have HYW := hide (below_next HBW4.out b1 (by have := HLT.out; have := box_lt HRS4.out; omega)); have hfy := (six HY.out).f5; clear b0 b1; obtain ⟨_, _, _, _, _, _, y0, y2, y3, y4, y5, y6⟩ := six HY.out)
      | (go_at_call 43; refine withinint64_any.mono ?_; (first | rw [HC0.out] | rw [HC1.out] | rw [HC2.out] | rw [HC3.out] | rw [HC5.out]); rintro _ wq ⟨rfl, hq⟩; have hq := hq.symm; subst hq))
    all_goals (go_wp2_with fail; go_meet; exact hide ⟨heap_set_sameL HY.out 5 _, (Only.set (F := (· = bB)) _ bB 5 _ rfl).obj HYR.out (fun e => by have e' : rB = bB := e; have := HLT.out; omega), HYW.out.trans ((Only.set (F := (· = bB)) _ bB 5 _ rfl).below (by have := HLT.out; have := box_lt HYR.out; omega) (fun i e => by have e' : i = bB := e; omega))⟩)
  case rest =>
  rename World => we
  clear HBX4 HRS4 HBW4 HWW u0 u1 u2 u3 u4 u5
  obtain ⟨q0, q1, q2⟩ := hcut.out
  have HBX5 := hide q0
  have HRS5 := hide q1
  have HBW5 := hide q2
  have HSZ5 := hide (box_lt q1)
  clear hcut q0 q1 q2
  simp only at HBX5
  obtain ⟨_, _, _, _, _, _, u0, u1, u2, u3, u4, u5⟩ := six HBX5.out
  obtain ⟨f0, f1, f2, f3, f4, f5, r0, r1, r2, r3, r4, r5⟩ := six HRS5.out
  go_wp2
  have hE := heap_set6 HRS5.out (.int .i64 c) (.int .i64 x) (.int .i64 u) (.int .i64 s) (.int .i64 k) (.int .i64 a)
  refine bodyPost_ret (results_cell_row rfl _ _ rB 23 _ _ _ rfl hE Try.underlying23 rfl (by kernel_rfl)) rfl ?_
  refine ⟨by rw [HQ.out]; rfl, ?_⟩
  rw [HBB.out]
  exact HBW5.out.trans ((only_set6 _ rB _ _ _ _ _ _).below (by have := HLT.out; have := HSZ5.out; omega) (fun i e => by have e' : i = rB := e; have := HLT.out; omega))
set_option maxRecDepth 100000 in
set_option maxHeartbeats 2000000 in
theorem gchk_1 {W : World} {ck ep un se ki ak : Int}  (hk : okG ⟨ck, ep, un, se, ki, ak⟩) :
    Calls Try.prog 8 #[.agg #[.int .i64 ck, .int .i64 ep, .int .i64 un, .int .i64 se, .int .i64 ki, .int .i64 ak]] W fun e w' => e = .returned (.int .i64 (chkG ⟨ck, ep, un, se, ki, ak⟩)) ∧ Below W.heap.size W w' := by
  have HQ : Hid (chkG ⟨ck, ep, un, se, ki, ak⟩ = 0) := hide (if_pos hk)
  have HB : Hid (boundG ⟨ck, ep, un, se, ki, ak⟩ = ⟨ck, ep, un, se, ki, ak⟩) := hide (bound_ok.2 hk)
  clear hk
  obtain ⟨V, hV⟩ : ∃ V, V = W.alloc (.cells #[.int .i64 ck, .int .i64 ep, .int .i64 un, .int .i64 se, .int .i64 ki, .int .i64 ak] 23 (0, 0)) := ⟨_, rfl⟩
  have HV : Hid (V.heap[W.heap.size]? = some (.cells #[.int .i64 ck, .int .i64 ep, .int .i64 un, .int .i64 se, .int .i64 ki, .int .i64 ak] 23 (0, 0))) := hide (by rw [hV]; exact heap_alloc_new W _)
  have HBV : Hid (Below W.heap.size W V) := hide (by rw [hV]; exact alloc_below _ _)
  obtain ⟨bB, hbB⟩ : ∃ bB, W.heap.size = bB := ⟨_, rfl⟩
  rw [hbB] at HV HBV
  have HBB := hide hbB
  go_enter Try.func8, Try.ntmps8
  go_upto_region 1 with fail
  rw [← hV]
  try rw [hbB]
  clear hV hbB
  obtain ⟨_, _, _, _, _, _, u0, u1, u2, u3, u4, u5⟩ := six HV.out
  have B0 : Below V.heap.size V V.drew := (Below.refl _ V).drew
  have HV0 := hide (below_box B0 HV.out)
  go_region_held3 (fun w' => w'.cell? ⟨bB, 0, none⟩ = some (.int .i64 ck) ∧ w'.cell? ⟨bB, 1, none⟩ = some (.int .i64 ep) ∧ w'.cell? ⟨bB, 2, none⟩ = some (.int .i64 un) ∧ w'.cell? ⟨bB, 3, none⟩ = some (.int .i64 se) ∧ w'.cell? ⟨bB, 4, none⟩ = some (.int .i64 ki) ∧ w'.cell? ⟨bB, 5, none⟩ = some (.int .i64 ak)) (go_keep)
    ((go_at_call 23; refine bounded_any.mono ?_; rw [HB.out]; simp only [GE.val, GE.row]; rintro _ x1 ⟨rfl, d1⟩; have hx1 := below_box d1 HV0.out; obtain ⟨_, _, _, _, _, _, u0, u1, u2, u3, u4, u5⟩ := six hx1; have HX1 := hide (below_next (below_next HBV.out B0 (Nat.le_of_lt (box_lt HV.out))) d1 (Nat.le_of_lt (box_lt HV0.out))); clear d1 hx1))
  go_wp2
  go_ret
  exact ⟨by rw [HQ.out]; rfl, by rw [HBB.out]; exact HX1.out⟩

set_option maxRecDepth 100000 in
set_option maxHeartbeats 2000000 in
theorem gchk_n0 {W : World} {ck ep un se ki ak : Int}  {c x u s k a : Int} (hk : ¬ okG ⟨ck, ep, un, se, ki, ak⟩) (hb : boundG ⟨ck, ep, un, se, ki, ak⟩ = ⟨c, x, u, s, k, a⟩) (hn : ck ≠ c) :
    Calls Try.prog 8 #[.agg #[.int .i64 ck, .int .i64 ep, .int .i64 un, .int .i64 se, .int .i64 ki, .int .i64 ak]] W fun e w' => e = .returned (.int .i64 (chkG ⟨ck, ep, un, se, ki, ak⟩)) ∧ Below W.heap.size W w' := by
  have HQ : Hid (chkG ⟨ck, ep, un, se, ki, ak⟩ = 1) := hide (if_neg hk)
  have HB := hide hb
  have d1 : (ck == c) = false := ne_eqL hn
  have d2 : (ck != c) = true := ne_neG hn
  clear hk hn hb
  obtain ⟨V, hV⟩ : ∃ V, V = W.alloc (.cells #[.int .i64 ck, .int .i64 ep, .int .i64 un, .int .i64 se, .int .i64 ki, .int .i64 ak] 23 (0, 0)) := ⟨_, rfl⟩
  have HV : Hid (V.heap[W.heap.size]? = some (.cells #[.int .i64 ck, .int .i64 ep, .int .i64 un, .int .i64 se, .int .i64 ki, .int .i64 ak] 23 (0, 0))) := hide (by rw [hV]; exact heap_alloc_new W _)
  have HBV : Hid (Below W.heap.size W V) := hide (by rw [hV]; exact alloc_below _ _)
  obtain ⟨bB, hbB⟩ : ∃ bB, W.heap.size = bB := ⟨_, rfl⟩
  rw [hbB] at HV HBV
  have HBB := hide hbB
  go_enter Try.func8, Try.ntmps8
  go_upto_region 1 with fail
  rw [← hV]
  try rw [hbB]
  clear hV hbB
  obtain ⟨_, _, _, _, _, _, u0, u1, u2, u3, u4, u5⟩ := six HV.out
  have B0 : Below V.heap.size V V.drew := (Below.refl _ V).drew
  have HV0 := hide (below_box B0 HV.out)
  go_region_held3 (fun w' => w'.cell? ⟨bB, 0, none⟩ = some (.int .i64 ck) ∧ w'.cell? ⟨bB, 1, none⟩ = some (.int .i64 ep) ∧ w'.cell? ⟨bB, 2, none⟩ = some (.int .i64 un) ∧ w'.cell? ⟨bB, 3, none⟩ = some (.int .i64 se) ∧ w'.cell? ⟨bB, 4, none⟩ = some (.int .i64 ki) ∧ w'.cell? ⟨bB, 5, none⟩ = some (.int .i64 ak)) (go_keep)
    ((go_at_call 23; refine bounded_any.mono ?_; rw [HB.out]; simp only [GE.val, GE.row]; rintro _ x1 ⟨rfl, d1⟩; have hx1 := below_box d1 HV0.out; obtain ⟨_, _, _, _, _, _, u0, u1, u2, u3, u4, u5⟩ := six hx1; have HX1 := hide (below_next (below_next HBV.out B0 (Nat.le_of_lt (box_lt HV.out))) d1 (Nat.le_of_lt (box_lt HV0.out))); clear d1 hx1))
  go_wp2
  go_ret
  exact ⟨by rw [HQ.out]; rfl, by rw [HBB.out]; exact HX1.out⟩

set_option maxRecDepth 100000 in
set_option maxHeartbeats 2000000 in
theorem gchk_n1 {W : World} {ck ep un se ki ak : Int}  {x u s k a : Int} (hk : ¬ okG ⟨ck, ep, un, se, ki, ak⟩) (hb : boundG ⟨ck, ep, un, se, ki, ak⟩ = ⟨ck, x, u, s, k, a⟩) (hn : ep ≠ x) :
    Calls Try.prog 8 #[.agg #[.int .i64 ck, .int .i64 ep, .int .i64 un, .int .i64 se, .int .i64 ki, .int .i64 ak]] W fun e w' => e = .returned (.int .i64 (chkG ⟨ck, ep, un, se, ki, ak⟩)) ∧ Below W.heap.size W w' := by
  have HQ : Hid (chkG ⟨ck, ep, un, se, ki, ak⟩ = 1) := hide (if_neg hk)
  have HB := hide hb
  have d1 : (ep == x) = false := ne_eqL hn
  have d2 : (ep != x) = true := ne_neG hn
  clear hk hn hb
  obtain ⟨V, hV⟩ : ∃ V, V = W.alloc (.cells #[.int .i64 ck, .int .i64 ep, .int .i64 un, .int .i64 se, .int .i64 ki, .int .i64 ak] 23 (0, 0)) := ⟨_, rfl⟩
  have HV : Hid (V.heap[W.heap.size]? = some (.cells #[.int .i64 ck, .int .i64 ep, .int .i64 un, .int .i64 se, .int .i64 ki, .int .i64 ak] 23 (0, 0))) := hide (by rw [hV]; exact heap_alloc_new W _)
  have HBV : Hid (Below W.heap.size W V) := hide (by rw [hV]; exact alloc_below _ _)
  obtain ⟨bB, hbB⟩ : ∃ bB, W.heap.size = bB := ⟨_, rfl⟩
  rw [hbB] at HV HBV
  have HBB := hide hbB
  go_enter Try.func8, Try.ntmps8
  go_upto_region 1 with fail
  rw [← hV]
  try rw [hbB]
  clear hV hbB
  obtain ⟨_, _, _, _, _, _, u0, u1, u2, u3, u4, u5⟩ := six HV.out
  have B0 : Below V.heap.size V V.drew := (Below.refl _ V).drew
  have HV0 := hide (below_box B0 HV.out)
  go_region_held3 (fun w' => w'.cell? ⟨bB, 0, none⟩ = some (.int .i64 ck) ∧ w'.cell? ⟨bB, 1, none⟩ = some (.int .i64 ep) ∧ w'.cell? ⟨bB, 2, none⟩ = some (.int .i64 un) ∧ w'.cell? ⟨bB, 3, none⟩ = some (.int .i64 se) ∧ w'.cell? ⟨bB, 4, none⟩ = some (.int .i64 ki) ∧ w'.cell? ⟨bB, 5, none⟩ = some (.int .i64 ak)) (go_keep)
    ((go_at_call 23; refine bounded_any.mono ?_; rw [HB.out]; simp only [GE.val, GE.row]; rintro _ x1 ⟨rfl, d1⟩; have hx1 := below_box d1 HV0.out; obtain ⟨_, _, _, _, _, _, u0, u1, u2, u3, u4, u5⟩ := six hx1; have HX1 := hide (below_next (below_next HBV.out B0 (Nat.le_of_lt (box_lt HV.out))) d1 (Nat.le_of_lt (box_lt HV0.out))); clear d1 hx1))
  go_wp2
  go_ret
  exact ⟨by rw [HQ.out]; rfl, by rw [HBB.out]; exact HX1.out⟩

set_option maxRecDepth 100000 in
set_option maxHeartbeats 2000000 in
theorem gchk_n2 {W : World} {ck ep un se ki ak : Int}  {u s k a : Int} (hk : ¬ okG ⟨ck, ep, un, se, ki, ak⟩) (hb : boundG ⟨ck, ep, un, se, ki, ak⟩ = ⟨ck, ep, u, s, k, a⟩) (hn : un ≠ u) :
    Calls Try.prog 8 #[.agg #[.int .i64 ck, .int .i64 ep, .int .i64 un, .int .i64 se, .int .i64 ki, .int .i64 ak]] W fun e w' => e = .returned (.int .i64 (chkG ⟨ck, ep, un, se, ki, ak⟩)) ∧ Below W.heap.size W w' := by
  have HQ : Hid (chkG ⟨ck, ep, un, se, ki, ak⟩ = 1) := hide (if_neg hk)
  have HB := hide hb
  have d1 : (un == u) = false := ne_eqL hn
  have d2 : (un != u) = true := ne_neG hn
  clear hk hn hb
  obtain ⟨V, hV⟩ : ∃ V, V = W.alloc (.cells #[.int .i64 ck, .int .i64 ep, .int .i64 un, .int .i64 se, .int .i64 ki, .int .i64 ak] 23 (0, 0)) := ⟨_, rfl⟩
  have HV : Hid (V.heap[W.heap.size]? = some (.cells #[.int .i64 ck, .int .i64 ep, .int .i64 un, .int .i64 se, .int .i64 ki, .int .i64 ak] 23 (0, 0))) := hide (by rw [hV]; exact heap_alloc_new W _)
  have HBV : Hid (Below W.heap.size W V) := hide (by rw [hV]; exact alloc_below _ _)
  obtain ⟨bB, hbB⟩ : ∃ bB, W.heap.size = bB := ⟨_, rfl⟩
  rw [hbB] at HV HBV
  have HBB := hide hbB
  go_enter Try.func8, Try.ntmps8
  go_upto_region 1 with fail
  rw [← hV]
  try rw [hbB]
  clear hV hbB
  obtain ⟨_, _, _, _, _, _, u0, u1, u2, u3, u4, u5⟩ := six HV.out
  have B0 : Below V.heap.size V V.drew := (Below.refl _ V).drew
  have HV0 := hide (below_box B0 HV.out)
  go_region_held3 (fun w' => w'.cell? ⟨bB, 0, none⟩ = some (.int .i64 ck) ∧ w'.cell? ⟨bB, 1, none⟩ = some (.int .i64 ep) ∧ w'.cell? ⟨bB, 2, none⟩ = some (.int .i64 un) ∧ w'.cell? ⟨bB, 3, none⟩ = some (.int .i64 se) ∧ w'.cell? ⟨bB, 4, none⟩ = some (.int .i64 ki) ∧ w'.cell? ⟨bB, 5, none⟩ = some (.int .i64 ak)) (go_keep)
    ((go_at_call 23; refine bounded_any.mono ?_; rw [HB.out]; simp only [GE.val, GE.row]; rintro _ x1 ⟨rfl, d1⟩; have hx1 := below_box d1 HV0.out; obtain ⟨_, _, _, _, _, _, u0, u1, u2, u3, u4, u5⟩ := six hx1; have HX1 := hide (below_next (below_next HBV.out B0 (Nat.le_of_lt (box_lt HV.out))) d1 (Nat.le_of_lt (box_lt HV0.out))); clear d1 hx1))
  go_wp2
  go_ret
  exact ⟨by rw [HQ.out]; rfl, by rw [HBB.out]; exact HX1.out⟩

set_option maxRecDepth 100000 in
set_option maxHeartbeats 2000000 in
theorem gchk_n3 {W : World} {ck ep un se ki ak : Int}  {s k a : Int} (hk : ¬ okG ⟨ck, ep, un, se, ki, ak⟩) (hb : boundG ⟨ck, ep, un, se, ki, ak⟩ = ⟨ck, ep, un, s, k, a⟩) (hn : se ≠ s) :
    Calls Try.prog 8 #[.agg #[.int .i64 ck, .int .i64 ep, .int .i64 un, .int .i64 se, .int .i64 ki, .int .i64 ak]] W fun e w' => e = .returned (.int .i64 (chkG ⟨ck, ep, un, se, ki, ak⟩)) ∧ Below W.heap.size W w' := by
  have HQ : Hid (chkG ⟨ck, ep, un, se, ki, ak⟩ = 1) := hide (if_neg hk)
  have HB := hide hb
  have d1 : (se == s) = false := ne_eqL hn
  have d2 : (se != s) = true := ne_neG hn
  clear hk hn hb
  obtain ⟨V, hV⟩ : ∃ V, V = W.alloc (.cells #[.int .i64 ck, .int .i64 ep, .int .i64 un, .int .i64 se, .int .i64 ki, .int .i64 ak] 23 (0, 0)) := ⟨_, rfl⟩
  have HV : Hid (V.heap[W.heap.size]? = some (.cells #[.int .i64 ck, .int .i64 ep, .int .i64 un, .int .i64 se, .int .i64 ki, .int .i64 ak] 23 (0, 0))) := hide (by rw [hV]; exact heap_alloc_new W _)
  have HBV : Hid (Below W.heap.size W V) := hide (by rw [hV]; exact alloc_below _ _)
  obtain ⟨bB, hbB⟩ : ∃ bB, W.heap.size = bB := ⟨_, rfl⟩
  rw [hbB] at HV HBV
  have HBB := hide hbB
  go_enter Try.func8, Try.ntmps8
  go_upto_region 1 with fail
  rw [← hV]
  try rw [hbB]
  clear hV hbB
  obtain ⟨_, _, _, _, _, _, u0, u1, u2, u3, u4, u5⟩ := six HV.out
  have B0 : Below V.heap.size V V.drew := (Below.refl _ V).drew
  have HV0 := hide (below_box B0 HV.out)
  go_region_held3 (fun w' => w'.cell? ⟨bB, 0, none⟩ = some (.int .i64 ck) ∧ w'.cell? ⟨bB, 1, none⟩ = some (.int .i64 ep) ∧ w'.cell? ⟨bB, 2, none⟩ = some (.int .i64 un) ∧ w'.cell? ⟨bB, 3, none⟩ = some (.int .i64 se) ∧ w'.cell? ⟨bB, 4, none⟩ = some (.int .i64 ki) ∧ w'.cell? ⟨bB, 5, none⟩ = some (.int .i64 ak)) (go_keep)
    ((go_at_call 23; refine bounded_any.mono ?_; rw [HB.out]; simp only [GE.val, GE.row]; rintro _ x1 ⟨rfl, d1⟩; have hx1 := below_box d1 HV0.out; obtain ⟨_, _, _, _, _, _, u0, u1, u2, u3, u4, u5⟩ := six hx1; have HX1 := hide (below_next (below_next HBV.out B0 (Nat.le_of_lt (box_lt HV.out))) d1 (Nat.le_of_lt (box_lt HV0.out))); clear d1 hx1))
  go_wp2
  go_ret
  exact ⟨by rw [HQ.out]; rfl, by rw [HBB.out]; exact HX1.out⟩

set_option maxRecDepth 100000 in
set_option maxHeartbeats 2000000 in
theorem gchk_n4 {W : World} {ck ep un se ki ak : Int}  {k a : Int} (hk : ¬ okG ⟨ck, ep, un, se, ki, ak⟩) (hb : boundG ⟨ck, ep, un, se, ki, ak⟩ = ⟨ck, ep, un, se, k, a⟩) (hn : ki ≠ k) :
    Calls Try.prog 8 #[.agg #[.int .i64 ck, .int .i64 ep, .int .i64 un, .int .i64 se, .int .i64 ki, .int .i64 ak]] W fun e w' => e = .returned (.int .i64 (chkG ⟨ck, ep, un, se, ki, ak⟩)) ∧ Below W.heap.size W w' := by
  have HQ : Hid (chkG ⟨ck, ep, un, se, ki, ak⟩ = 1) := hide (if_neg hk)
  have HB := hide hb
  have d1 : (ki == k) = false := ne_eqL hn
  have d2 : (ki != k) = true := ne_neG hn
  clear hk hn hb
  obtain ⟨V, hV⟩ : ∃ V, V = W.alloc (.cells #[.int .i64 ck, .int .i64 ep, .int .i64 un, .int .i64 se, .int .i64 ki, .int .i64 ak] 23 (0, 0)) := ⟨_, rfl⟩
  have HV : Hid (V.heap[W.heap.size]? = some (.cells #[.int .i64 ck, .int .i64 ep, .int .i64 un, .int .i64 se, .int .i64 ki, .int .i64 ak] 23 (0, 0))) := hide (by rw [hV]; exact heap_alloc_new W _)
  have HBV : Hid (Below W.heap.size W V) := hide (by rw [hV]; exact alloc_below _ _)
  obtain ⟨bB, hbB⟩ : ∃ bB, W.heap.size = bB := ⟨_, rfl⟩
  rw [hbB] at HV HBV
  have HBB := hide hbB
  go_enter Try.func8, Try.ntmps8
  go_upto_region 1 with fail
  rw [← hV]
  try rw [hbB]
  clear hV hbB
  obtain ⟨_, _, _, _, _, _, u0, u1, u2, u3, u4, u5⟩ := six HV.out
  have B0 : Below V.heap.size V V.drew := (Below.refl _ V).drew
  have HV0 := hide (below_box B0 HV.out)
  go_region_held3 (fun w' => w'.cell? ⟨bB, 0, none⟩ = some (.int .i64 ck) ∧ w'.cell? ⟨bB, 1, none⟩ = some (.int .i64 ep) ∧ w'.cell? ⟨bB, 2, none⟩ = some (.int .i64 un) ∧ w'.cell? ⟨bB, 3, none⟩ = some (.int .i64 se) ∧ w'.cell? ⟨bB, 4, none⟩ = some (.int .i64 ki) ∧ w'.cell? ⟨bB, 5, none⟩ = some (.int .i64 ak)) (go_keep)
    ((go_at_call 23; refine bounded_any.mono ?_; rw [HB.out]; simp only [GE.val, GE.row]; rintro _ x1 ⟨rfl, d1⟩; have hx1 := below_box d1 HV0.out; obtain ⟨_, _, _, _, _, _, u0, u1, u2, u3, u4, u5⟩ := six hx1; have HX1 := hide (below_next (below_next HBV.out B0 (Nat.le_of_lt (box_lt HV.out))) d1 (Nat.le_of_lt (box_lt HV0.out))); clear d1 hx1))
  go_wp2
  go_ret
  exact ⟨by rw [HQ.out]; rfl, by rw [HBB.out]; exact HX1.out⟩

set_option maxRecDepth 100000 in
set_option maxHeartbeats 2000000 in
theorem gchk_n5 {W : World} {ck ep un se ki ak : Int}  {a : Int} (hk : ¬ okG ⟨ck, ep, un, se, ki, ak⟩) (hb : boundG ⟨ck, ep, un, se, ki, ak⟩ = ⟨ck, ep, un, se, ki, a⟩) (hn : ak ≠ a) :
    Calls Try.prog 8 #[.agg #[.int .i64 ck, .int .i64 ep, .int .i64 un, .int .i64 se, .int .i64 ki, .int .i64 ak]] W fun e w' => e = .returned (.int .i64 (chkG ⟨ck, ep, un, se, ki, ak⟩)) ∧ Below W.heap.size W w' := by
  have HQ : Hid (chkG ⟨ck, ep, un, se, ki, ak⟩ = 1) := hide (if_neg hk)
  have HB := hide hb
  have d1 : (ak == a) = false := ne_eqL hn
  have d2 : (ak != a) = true := ne_neG hn
  clear hk hn hb
  obtain ⟨V, hV⟩ : ∃ V, V = W.alloc (.cells #[.int .i64 ck, .int .i64 ep, .int .i64 un, .int .i64 se, .int .i64 ki, .int .i64 ak] 23 (0, 0)) := ⟨_, rfl⟩
  have HV : Hid (V.heap[W.heap.size]? = some (.cells #[.int .i64 ck, .int .i64 ep, .int .i64 un, .int .i64 se, .int .i64 ki, .int .i64 ak] 23 (0, 0))) := hide (by rw [hV]; exact heap_alloc_new W _)
  have HBV : Hid (Below W.heap.size W V) := hide (by rw [hV]; exact alloc_below _ _)
  obtain ⟨bB, hbB⟩ : ∃ bB, W.heap.size = bB := ⟨_, rfl⟩
  rw [hbB] at HV HBV
  have HBB := hide hbB
  go_enter Try.func8, Try.ntmps8
  go_upto_region 1 with fail
  rw [← hV]
  try rw [hbB]
  clear hV hbB
  obtain ⟨_, _, _, _, _, _, u0, u1, u2, u3, u4, u5⟩ := six HV.out
  have B0 : Below V.heap.size V V.drew := (Below.refl _ V).drew
  have HV0 := hide (below_box B0 HV.out)
  go_region_held3 (fun w' => w'.cell? ⟨bB, 0, none⟩ = some (.int .i64 ck) ∧ w'.cell? ⟨bB, 1, none⟩ = some (.int .i64 ep) ∧ w'.cell? ⟨bB, 2, none⟩ = some (.int .i64 un) ∧ w'.cell? ⟨bB, 3, none⟩ = some (.int .i64 se) ∧ w'.cell? ⟨bB, 4, none⟩ = some (.int .i64 ki) ∧ w'.cell? ⟨bB, 5, none⟩ = some (.int .i64 ak)) (go_keep)
    ((go_at_call 23; refine bounded_any.mono ?_; rw [HB.out]; simp only [GE.val, GE.row]; rintro _ x1 ⟨rfl, d1⟩; have hx1 := below_box d1 HV0.out; obtain ⟨_, _, _, _, _, _, u0, u1, u2, u3, u4, u5⟩ := six hx1; have HX1 := hide (below_next (below_next HBV.out B0 (Nat.le_of_lt (box_lt HV.out))) d1 (Nat.le_of_lt (box_lt HV0.out))); clear d1 hx1))
  go_wp2
  go_ret
  exact ⟨by rw [HQ.out]; rfl, by rw [HBB.out]; exact HX1.out⟩

theorem gcheck_any {W : World} {ck ep un se ki ak : Int} : Calls Try.prog 8 #[.agg #[.int .i64 ck, .int .i64 ep, .int .i64 un, .int .i64 se, .int .i64 ki, .int .i64 ak]] W fun e w' => e = .returned (.int .i64 (chkG ⟨ck, ep, un, se, ki, ak⟩)) ∧ Below W.heap.size W w' := by
  by_cases hk : okG ⟨ck, ep, un, se, ki, ak⟩
  · exact gchk_1 hk
  · obtain ⟨⟨c, x, u, s, k, a⟩, hb⟩ : ∃ q, boundG ⟨ck, ep, un, se, ki, ak⟩ = q := ⟨_, rfl⟩
    by_cases h0 : ck = c
    · subst h0
      by_cases h1 : ep = x
      · subst h1
        by_cases h2 : un = u
        · subst h2
          by_cases h3 : se = s
          · subst h3
            by_cases h4 : ki = k
            · subst h4
              by_cases h5 : ak = a
              · subst h5
                exact absurd (bound_ok.1 hb) hk
              · exact gchk_n5 hk hb h5
            · exact gchk_n4 hk hb h4
          · exact gchk_n3 hk hb h3
        · exact gchk_n2 hk hb h2
      · exact gchk_n1 hk hb h1
    · exact gchk_n0 hk hb h0
end Go.Proofs.Ytegffdmlkbdcdaa
