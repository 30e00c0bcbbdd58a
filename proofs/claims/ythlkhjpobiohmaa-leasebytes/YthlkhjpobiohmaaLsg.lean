/-
  What is asked of one arbiter: the law's asks. No conditions.
-/
import Derived.Test.YthlkhjpobiohmaaLsf
namespace Go.Proofs.Ythlkhjpobiohmaa
open Go.RowKit

/-- What is asked. -/
structure AK where
  act : Int
  reg : Int
  ep : Int
  own : Bool
  dst : Int
  n : Int
  solo : Bool
instance : Inhabited AK := ⟨⟨0, 0, 0, false, 0, 0, false⟩⟩
def AK.cells (a : AK) : List Value := [.int .i64 a.act, .int .i64 a.reg, .int .i64 a.ep, .bool a.own, .int .i64 a.dst, .int .i64 a.n, .bool a.solo]
def AK.epoch (a : AK) (l : LE) : Int := if a.own = true then l.ep else a.ep
def asksC (l : LE) (a : AK) : LE × Int × Int :=
  if a.act = 1 then acqC l a.reg
  else if a.act = 2 then ((renewC l a.reg (a.epoch l)).1, 0, (renewC l a.reg (a.epoch l)).2)
  else if a.act = 3 then ((releaseC l a.reg (a.epoch l)).1, 0, (releaseC l a.reg (a.epoch l)).2)
  else if a.act = 4 then transC l a.reg (a.epoch l) a.dst
  else if a.act = 5 then ((aloneC l a.reg (a.epoch l) a.solo).1, 0, (aloneC l a.reg (a.epoch l) a.solo).2)
  else (tickC l a.n, 0, 0)
structure Seven (W : World) (b : Nat) (d0 d1 d2 d3 d4 d5 d6 : Value) : Prop where
  u0 : W.cell? ⟨b, 0, none⟩ = some d0
  u1 : W.cell? ⟨b, 1, none⟩ = some d1
  u2 : W.cell? ⟨b, 2, none⟩ = some d2
  u3 : W.cell? ⟨b, 3, none⟩ = some d3
  u4 : W.cell? ⟨b, 4, none⟩ = some d4
  u5 : W.cell? ⟨b, 5, none⟩ = some d5
  u6 : W.cell? ⟨b, 6, none⟩ = some d6
theorem seven {W : World} {b : Nat} {t : TypeId} {d0 d1 d2 d3 d4 d5 d6 : Value} (h : W.heap[b]? = some (.cells #[d0, d1, d2, d3, d4, d5, d6] t (0, 0))) : Seven W b d0 d1 d2 d3 d4 d5 d6 := by
  constructor <;> simp [World.cell?, h]
set_option maxRecDepth 100000 in
set_option maxHeartbeats 2000000 in
theorem asks_acquire_true {W : World} {o la ep ck tl : Int} {so : Bool} {dr de dt dn : Int} {ds : Bool}  :
    Calls Try.prog 8 #[.agg #[.int .i64 o, .int .i64 la, .int .i64 ep, .int .i64 ck, .int .i64 tl, .bool so], .agg #[.int .i64 1, .int .i64 dr, .int .i64 de, .bool true, .int .i64 dt, .int .i64 dn, .bool ds]] W fun e w' => e = .returned (.tuple #[LE.val (asksC ⟨o, la, ep, ck, tl, so⟩ ⟨1, dr, de, true, dt, dn, ds⟩).1, .int .i64 (asksC ⟨o, la, ep, ck, tl, so⟩ ⟨1, dr, de, true, dt, dn, ds⟩).2.1, .int .i64 (asksC ⟨o, la, ep, ck, tl, so⟩ ⟨1, dr, de, true, dt, dn, ds⟩).2.2]) ∧ Below W.heap.size W w' := by
  obtain ⟨⟨⟨g0, g1, g2, g3, g4, g5⟩, n, x⟩, hg⟩ : ∃ q, acqC ⟨o, la, ep, ck, tl, so⟩ dr = q := ⟨_, rfl⟩
  have HQ : Hid (asksC ⟨o, la, ep, ck, tl, so⟩ ⟨1, dr, de, true, dt, dn, ds⟩ = (⟨g0, g1, g2, g3, g4, g5⟩, n, x)) := hide (by simp [asksC, hg])
  have HG := hide hg
  clear hg
  obtain ⟨V0, hV0⟩ : ∃ V0, V0 = W.alloc (.cells #[.int .i64 o, .int .i64 la, .int .i64 ep, .int .i64 ck, .int .i64 tl, .bool so] 23 (0, 0)) := ⟨_, rfl⟩
  obtain ⟨V1, hV1⟩ : ∃ V1, V1 = V0.alloc (.cells #[.int .i64 1, .int .i64 dr, .int .i64 de, .bool true, .int .i64 dt, .int .i64 dn, .bool ds] 27 (0, 0)) := ⟨_, rfl⟩
  obtain ⟨V, hV⟩ : ∃ V, V = V1.alloc (.cells #[.int .i64 0, .int .i64 0, .int .i64 0, .int .i64 0, .int .i64 0, .bool false] 23 (0, 0)) := ⟨_, rfl⟩
  have bV0 : Below W.heap.size W V0 := by rw [hV0]; exact alloc_below _ _
  have bV1 : Below V0.heap.size V0 V1 := by rw [hV1]; exact alloc_below _ _
  have bV2 : Below V1.heap.size V1 V := by rw [hV]; exact alloc_below _ _
  have v0 : V0.heap[W.heap.size]? = some (.cells #[.int .i64 o, .int .i64 la, .int .i64 ep, .int .i64 ck, .int .i64 tl, .bool so] 23 (0, 0)) := by rw [hV0]; exact heap_alloc_new W _
  have v1 : V1.heap[V0.heap.size]? = some (.cells #[.int .i64 1, .int .i64 dr, .int .i64 de, .bool true, .int .i64 dt, .int .i64 dn, .bool ds] 27 (0, 0)) := by rw [hV1]; exact heap_alloc_new V0 _
  have v2 : V.heap[V1.heap.size]? = some (.cells #[.int .i64 0, .int .i64 0, .int .i64 0, .int .i64 0, .int .i64 0, .bool false] 23 (0, 0)) := by rw [hV]; exact heap_alloc_new V1 _
  have v3 := below_box bV2 (below_box bV1 v0)
  have v4 := below_box bV2 v1
  have hs0 : V0.heap.size = W.heap.size + 1 := by rw [hV0]; simp
  have hs1 : V1.heap.size = W.heap.size + 1 + 1 := by rw [hV1]; simp [hs0]
  obtain ⟨bB, hbB⟩ : ∃ bB, W.heap.size = bB := ⟨_, rfl⟩
  obtain ⟨aB, haB⟩ : ∃ aB, V0.heap.size = aB := ⟨_, rfl⟩
  obtain ⟨rB, hrB⟩ : ∃ rB, V1.heap.size = rB := ⟨_, rfl⟩
  have hrb : bB + 1 = aB := by omega
  have hrc : aB + 1 = rB := by omega
  have hlt : bB < rB := by omega
  rw [hbB] at v3
  rw [haB] at v4
  rw [hrB] at v2
  have HBW0 : Hid (Below bB W V) := hide (by rw [← hbB]; exact below_next (below_next bV0 bV1 bV0.size) bV2 (Nat.le_trans bV0.size bV1.size))
  have HBX0 := hide v3
  have HAX0 := hide v4
  have HRS0 := hide v2
  have HBB := hide hbB
  have HLT := hide hlt
  have HSZ0 := hide (box_lt v2)
  clear v0 v1 v2 v3 v4 bV0 bV1 bV2 hlt
  go_enter Try.func8, Try.ntmps8
  go_upto_region 1 with fail
  rw [← hV0, ← hV1, ← hV]
  try rw [hbB]
  try rw [hrb]
  try rw [hrc]
  clear hV0 hV1 hV hbB haB hrB hs0 hs1 hrb hrc
  obtain ⟨_, _, _, _, _, _, u0, u1, u2, u3, u4, u5⟩ := six HBX0.out
  obtain ⟨a0, a1, a2, a3, a4, a5, a6⟩ := seven HAX0.out
  go_wp2_with fail
  refine (acquire_any).mono ?_
  rw [HG.out]
  simp only [LE.val, LE.row]
  rintro _ w1 ⟨rfl, b1⟩
  have HBX1 := hide (below_box b1 HBX0.out)
  have HRS1 := hide (below_box b1 HRS0.out)
  have HBW1 := hide (below_next HBW0.out b1 (by have := HLT.out; have := HSZ0.out; omega))
  have HSZ1 := hide (box_lt HRS1.out)
  clear b1 HBX0 HRS0 HBW0 HSZ0 u0 u1 u2 u3 u4 u5 a0 a1 a2 a3 a4 a5 a6
  obtain ⟨f0, f1, f2, f3, f4, f5, r0, r1, r2, r3, r4, r5⟩ := six HRS1.out
  go_wp2
  have hE := heap_set6 HRS1.out (.int .i64 g0) (.int .i64 g1) (.int .i64 g2) (.int .i64 g3) (.int .i64 g4) (.bool g5)
  refine bodyPost_ret (results_cell_three rfl _ _ rB 23 _ _ _ rfl hE Try.underlying23 rfl (by kernel_rfl)) rfl ?_
  refine ⟨by rw [HQ.out]; rfl, ?_⟩
  rw [HBB.out]
  exact HBW1.out.trans ((only_set6 _ rB _ _ _ _ _ _).below (by have := HLT.out; have := HSZ1.out; omega) (fun i e => by have e' : i = rB := e; have := HLT.out; omega))

set_option maxRecDepth 100000 in
set_option maxHeartbeats 2000000 in
theorem asks_renew_true {W : World} {o la ep ck tl : Int} {so : Bool} {dr de dt dn : Int} {ds : Bool}  :
    Calls Try.prog 8 #[.agg #[.int .i64 o, .int .i64 la, .int .i64 ep, .int .i64 ck, .int .i64 tl, .bool so], .agg #[.int .i64 2, .int .i64 dr, .int .i64 de, .bool true, .int .i64 dt, .int .i64 dn, .bool ds]] W fun e w' => e = .returned (.tuple #[LE.val (asksC ⟨o, la, ep, ck, tl, so⟩ ⟨2, dr, de, true, dt, dn, ds⟩).1, .int .i64 (asksC ⟨o, la, ep, ck, tl, so⟩ ⟨2, dr, de, true, dt, dn, ds⟩).2.1, .int .i64 (asksC ⟨o, la, ep, ck, tl, so⟩ ⟨2, dr, de, true, dt, dn, ds⟩).2.2]) ∧ Below W.heap.size W w' := by
  obtain ⟨⟨⟨g0, g1, g2, g3, g4, g5⟩, x⟩, hg⟩ : ∃ q, renewC ⟨o, la, ep, ck, tl, so⟩ dr ep = q := ⟨_, rfl⟩
  have HQ : Hid (asksC ⟨o, la, ep, ck, tl, so⟩ ⟨2, dr, de, true, dt, dn, ds⟩ = (⟨g0, g1, g2, g3, g4, g5⟩, 0, x)) := hide (by simp [asksC, AK.epoch, hg])
  have HG := hide hg
  clear hg
  obtain ⟨V0, hV0⟩ : ∃ V0, V0 = W.alloc (.cells #[.int .i64 o, .int .i64 la, .int .i64 ep, .int .i64 ck, .int .i64 tl, .bool so] 23 (0, 0)) := ⟨_, rfl⟩
  obtain ⟨V1, hV1⟩ : ∃ V1, V1 = V0.alloc (.cells #[.int .i64 2, .int .i64 dr, .int .i64 de, .bool true, .int .i64 dt, .int .i64 dn, .bool ds] 27 (0, 0)) := ⟨_, rfl⟩
  obtain ⟨V, hV⟩ : ∃ V, V = V1.alloc (.cells #[.int .i64 0, .int .i64 0, .int .i64 0, .int .i64 0, .int .i64 0, .bool false] 23 (0, 0)) := ⟨_, rfl⟩
  have bV0 : Below W.heap.size W V0 := by rw [hV0]; exact alloc_below _ _
  have bV1 : Below V0.heap.size V0 V1 := by rw [hV1]; exact alloc_below _ _
  have bV2 : Below V1.heap.size V1 V := by rw [hV]; exact alloc_below _ _
  have v0 : V0.heap[W.heap.size]? = some (.cells #[.int .i64 o, .int .i64 la, .int .i64 ep, .int .i64 ck, .int .i64 tl, .bool so] 23 (0, 0)) := by rw [hV0]; exact heap_alloc_new W _
  have v1 : V1.heap[V0.heap.size]? = some (.cells #[.int .i64 2, .int .i64 dr, .int .i64 de, .bool true, .int .i64 dt, .int .i64 dn, .bool ds] 27 (0, 0)) := by rw [hV1]; exact heap_alloc_new V0 _
  have v2 : V.heap[V1.heap.size]? = some (.cells #[.int .i64 0, .int .i64 0, .int .i64 0, .int .i64 0, .int .i64 0, .bool false] 23 (0, 0)) := by rw [hV]; exact heap_alloc_new V1 _
  have v3 := below_box bV2 (below_box bV1 v0)
  have v4 := below_box bV2 v1
  have hs0 : V0.heap.size = W.heap.size + 1 := by rw [hV0]; simp
  have hs1 : V1.heap.size = W.heap.size + 1 + 1 := by rw [hV1]; simp [hs0]
  obtain ⟨bB, hbB⟩ : ∃ bB, W.heap.size = bB := ⟨_, rfl⟩
  obtain ⟨aB, haB⟩ : ∃ aB, V0.heap.size = aB := ⟨_, rfl⟩
  obtain ⟨rB, hrB⟩ : ∃ rB, V1.heap.size = rB := ⟨_, rfl⟩
  have hrb : bB + 1 = aB := by omega
  have hrc : aB + 1 = rB := by omega
  have hlt : bB < rB := by omega
  rw [hbB] at v3
  rw [haB] at v4
  rw [hrB] at v2
  have HBW0 : Hid (Below bB W V) := hide (by rw [← hbB]; exact below_next (below_next bV0 bV1 bV0.size) bV2 (Nat.le_trans bV0.size bV1.size))
  have HBX0 := hide v3
  have HAX0 := hide v4
  have HRS0 := hide v2
  have HBB := hide hbB
  have HLT := hide hlt
  have HSZ0 := hide (box_lt v2)
  clear v0 v1 v2 v3 v4 bV0 bV1 bV2 hlt
  go_enter Try.func8, Try.ntmps8
  go_upto_region 1 with fail
  rw [← hV0, ← hV1, ← hV]
  try rw [hbB]
  try rw [hrb]
  try rw [hrc]
  clear hV0 hV1 hV hbB haB hrB hs0 hs1 hrb hrc
  obtain ⟨_, _, _, _, _, _, u0, u1, u2, u3, u4, u5⟩ := six HBX0.out
  obtain ⟨a0, a1, a2, a3, a4, a5, a6⟩ := seven HAX0.out
  go_wp2_with fail
  refine (renew_any).mono ?_
  rw [HG.out]
  simp only [LE.val, LE.row]
  rintro _ w1 ⟨rfl, b1⟩
  have HBX1 := hide (below_box b1 HBX0.out)
  have HRS1 := hide (below_box b1 HRS0.out)
  have HBW1 := hide (below_next HBW0.out b1 (by have := HLT.out; have := HSZ0.out; omega))
  have HSZ1 := hide (box_lt HRS1.out)
  clear b1 HBX0 HRS0 HBW0 HSZ0 u0 u1 u2 u3 u4 u5 a0 a1 a2 a3 a4 a5 a6
  go_upto_region 9 with fail
  obtain ⟨X, hX⟩ : ∃ X, X = w1.alloc (.cells #[.int .i64 g0, .int .i64 g1, .int .i64 g2, .int .i64 g3, .int .i64 g4, .bool g5] 23 (0, 0)) := ⟨_, rfl⟩
  rw [← hX]
  have bX : Below w1.heap.size w1 X := by rw [hX]; exact alloc_below _ _
  obtain ⟨tB, htB⟩ : ∃ tB, w1.heap.size = tB := ⟨_, rfl⟩
  have hn1 : X.heap[tB]? = some (.cells #[.int .i64 g0, .int .i64 g1, .int .i64 g2, .int .i64 g3, .int .i64 g4, .bool g5] 23 (0, 0)) := by rw [hX, ← htB]; exact heap_alloc_new w1 _
  have HRS2 := hide (below_box bX HRS1.out)
  have HBW2 := hide (below_next HBW1.out bX (by have := HLT.out; have := HSZ1.out; omega))
  have HSZ2 := hide (box_lt HRS2.out)
  try rw [htB]
  obtain ⟨_, _, _, _, _, _, v0, v1, v2, v3, v4, v5⟩ := six hn1
  clear hX bX hn1 htB
  obtain ⟨f0, f1, f2, f3, f4, f5, r0, r1, r2, r3, r4, r5⟩ := six HRS2.out
  go_wp2
  have hE := heap_set6 HRS2.out (.int .i64 g0) (.int .i64 g1) (.int .i64 g2) (.int .i64 g3) (.int .i64 g4) (.bool g5)
  refine bodyPost_ret (results_cell_three rfl _ _ rB 23 _ _ _ rfl hE Try.underlying23 rfl (by kernel_rfl)) rfl ?_
  refine ⟨by rw [HQ.out]; rfl, ?_⟩
  rw [HBB.out]
  exact HBW2.out.trans ((only_set6 _ rB _ _ _ _ _ _).below (by have := HLT.out; have := HSZ2.out; omega) (fun i e => by have e' : i = rB := e; have := HLT.out; omega))

set_option maxRecDepth 100000 in
set_option maxHeartbeats 2000000 in
theorem asks_release_true {W : World} {o la ep ck tl : Int} {so : Bool} {dr de dt dn : Int} {ds : Bool}  :
    Calls Try.prog 8 #[.agg #[.int .i64 o, .int .i64 la, .int .i64 ep, .int .i64 ck, .int .i64 tl, .bool so], .agg #[.int .i64 3, .int .i64 dr, .int .i64 de, .bool true, .int .i64 dt, .int .i64 dn, .bool ds]] W fun e w' => e = .returned (.tuple #[LE.val (asksC ⟨o, la, ep, ck, tl, so⟩ ⟨3, dr, de, true, dt, dn, ds⟩).1, .int .i64 (asksC ⟨o, la, ep, ck, tl, so⟩ ⟨3, dr, de, true, dt, dn, ds⟩).2.1, .int .i64 (asksC ⟨o, la, ep, ck, tl, so⟩ ⟨3, dr, de, true, dt, dn, ds⟩).2.2]) ∧ Below W.heap.size W w' := by
  obtain ⟨⟨⟨g0, g1, g2, g3, g4, g5⟩, x⟩, hg⟩ : ∃ q, releaseC ⟨o, la, ep, ck, tl, so⟩ dr ep = q := ⟨_, rfl⟩
  have HQ : Hid (asksC ⟨o, la, ep, ck, tl, so⟩ ⟨3, dr, de, true, dt, dn, ds⟩ = (⟨g0, g1, g2, g3, g4, g5⟩, 0, x)) := hide (by simp [asksC, AK.epoch, hg])
  have HG := hide hg
  clear hg
  obtain ⟨V0, hV0⟩ : ∃ V0, V0 = W.alloc (.cells #[.int .i64 o, .int .i64 la, .int .i64 ep, .int .i64 ck, .int .i64 tl, .bool so] 23 (0, 0)) := ⟨_, rfl⟩
  obtain ⟨V1, hV1⟩ : ∃ V1, V1 = V0.alloc (.cells #[.int .i64 3, .int .i64 dr, .int .i64 de, .bool true, .int .i64 dt, .int .i64 dn, .bool ds] 27 (0, 0)) := ⟨_, rfl⟩
  obtain ⟨V, hV⟩ : ∃ V, V = V1.alloc (.cells #[.int .i64 0, .int .i64 0, .int .i64 0, .int .i64 0, .int .i64 0, .bool false] 23 (0, 0)) := ⟨_, rfl⟩
  have bV0 : Below W.heap.size W V0 := by rw [hV0]; exact alloc_below _ _
  have bV1 : Below V0.heap.size V0 V1 := by rw [hV1]; exact alloc_below _ _
  have bV2 : Below V1.heap.size V1 V := by rw [hV]; exact alloc_below _ _
  have v0 : V0.heap[W.heap.size]? = some (.cells #[.int .i64 o, .int .i64 la, .int .i64 ep, .int .i64 ck, .int .i64 tl, .bool so] 23 (0, 0)) := by rw [hV0]; exact heap_alloc_new W _
  have v1 : V1.heap[V0.heap.size]? = some (.cells #[.int .i64 3, .int .i64 dr, .int .i64 de, .bool true, .int .i64 dt, .int .i64 dn, .bool ds] 27 (0, 0)) := by rw [hV1]; exact heap_alloc_new V0 _
  have v2 : V.heap[V1.heap.size]? = some (.cells #[.int .i64 0, .int .i64 0, .int .i64 0, .int .i64 0, .int .i64 0, .bool false] 23 (0, 0)) := by rw [hV]; exact heap_alloc_new V1 _
  have v3 := below_box bV2 (below_box bV1 v0)
  have v4 := below_box bV2 v1
  have hs0 : V0.heap.size = W.heap.size + 1 := by rw [hV0]; simp
  have hs1 : V1.heap.size = W.heap.size + 1 + 1 := by rw [hV1]; simp [hs0]
  obtain ⟨bB, hbB⟩ : ∃ bB, W.heap.size = bB := ⟨_, rfl⟩
  obtain ⟨aB, haB⟩ : ∃ aB, V0.heap.size = aB := ⟨_, rfl⟩
  obtain ⟨rB, hrB⟩ : ∃ rB, V1.heap.size = rB := ⟨_, rfl⟩
  have hrb : bB + 1 = aB := by omega
  have hrc : aB + 1 = rB := by omega
  have hlt : bB < rB := by omega
  rw [hbB] at v3
  rw [haB] at v4
  rw [hrB] at v2
  have HBW0 : Hid (Below bB W V) := hide (by rw [← hbB]; exact below_next (below_next bV0 bV1 bV0.size) bV2 (Nat.le_trans bV0.size bV1.size))
  have HBX0 := hide v3
  have HAX0 := hide v4
  have HRS0 := hide v2
  have HBB := hide hbB
  have HLT := hide hlt
  have HSZ0 := hide (box_lt v2)
  clear v0 v1 v2 v3 v4 bV0 bV1 bV2 hlt
  go_enter Try.func8, Try.ntmps8
  go_upto_region 1 with fail
  rw [← hV0, ← hV1, ← hV]
  try rw [hbB]
  try rw [hrb]
  try rw [hrc]
  clear hV0 hV1 hV hbB haB hrB hs0 hs1 hrb hrc
  obtain ⟨_, _, _, _, _, _, u0, u1, u2, u3, u4, u5⟩ := six HBX0.out
  obtain ⟨a0, a1, a2, a3, a4, a5, a6⟩ := seven HAX0.out
  go_wp2_with fail
  refine (release_any).mono ?_
  rw [HG.out]
  simp only [LE.val, LE.row]
  rintro _ w1 ⟨rfl, b1⟩
  have HBX1 := hide (below_box b1 HBX0.out)
  have HRS1 := hide (below_box b1 HRS0.out)
  have HBW1 := hide (below_next HBW0.out b1 (by have := HLT.out; have := HSZ0.out; omega))
  have HSZ1 := hide (box_lt HRS1.out)
  clear b1 HBX0 HRS0 HBW0 HSZ0 u0 u1 u2 u3 u4 u5 a0 a1 a2 a3 a4 a5 a6
  go_upto_region 12 with fail
  obtain ⟨X, hX⟩ : ∃ X, X = w1.alloc (.cells #[.int .i64 g0, .int .i64 g1, .int .i64 g2, .int .i64 g3, .int .i64 g4, .bool g5] 23 (0, 0)) := ⟨_, rfl⟩
  rw [← hX]
  have bX : Below w1.heap.size w1 X := by rw [hX]; exact alloc_below _ _
  obtain ⟨tB, htB⟩ : ∃ tB, w1.heap.size = tB := ⟨_, rfl⟩
  have hn1 : X.heap[tB]? = some (.cells #[.int .i64 g0, .int .i64 g1, .int .i64 g2, .int .i64 g3, .int .i64 g4, .bool g5] 23 (0, 0)) := by rw [hX, ← htB]; exact heap_alloc_new w1 _
  have HRS2 := hide (below_box bX HRS1.out)
  have HBW2 := hide (below_next HBW1.out bX (by have := HLT.out; have := HSZ1.out; omega))
  have HSZ2 := hide (box_lt HRS2.out)
  try rw [htB]
  obtain ⟨_, _, _, _, _, _, v0, v1, v2, v3, v4, v5⟩ := six hn1
  clear hX bX hn1 htB
  obtain ⟨f0, f1, f2, f3, f4, f5, r0, r1, r2, r3, r4, r5⟩ := six HRS2.out
  go_wp2
  have hE := heap_set6 HRS2.out (.int .i64 g0) (.int .i64 g1) (.int .i64 g2) (.int .i64 g3) (.int .i64 g4) (.bool g5)
  refine bodyPost_ret (results_cell_three rfl _ _ rB 23 _ _ _ rfl hE Try.underlying23 rfl (by kernel_rfl)) rfl ?_
  refine ⟨by rw [HQ.out]; rfl, ?_⟩
  rw [HBB.out]
  exact HBW2.out.trans ((only_set6 _ rB _ _ _ _ _ _).below (by have := HLT.out; have := HSZ2.out; omega) (fun i e => by have e' : i = rB := e; have := HLT.out; omega))

set_option maxRecDepth 100000 in
set_option maxHeartbeats 2000000 in
theorem asks_transfer_true {W : World} {o la ep ck tl : Int} {so : Bool} {dr de dt dn : Int} {ds : Bool}  :
    Calls Try.prog 8 #[.agg #[.int .i64 o, .int .i64 la, .int .i64 ep, .int .i64 ck, .int .i64 tl, .bool so], .agg #[.int .i64 4, .int .i64 dr, .int .i64 de, .bool true, .int .i64 dt, .int .i64 dn, .bool ds]] W fun e w' => e = .returned (.tuple #[LE.val (asksC ⟨o, la, ep, ck, tl, so⟩ ⟨4, dr, de, true, dt, dn, ds⟩).1, .int .i64 (asksC ⟨o, la, ep, ck, tl, so⟩ ⟨4, dr, de, true, dt, dn, ds⟩).2.1, .int .i64 (asksC ⟨o, la, ep, ck, tl, so⟩ ⟨4, dr, de, true, dt, dn, ds⟩).2.2]) ∧ Below W.heap.size W w' := by
  obtain ⟨⟨⟨g0, g1, g2, g3, g4, g5⟩, n, x⟩, hg⟩ : ∃ q, transC ⟨o, la, ep, ck, tl, so⟩ dr ep dt = q := ⟨_, rfl⟩
  have HQ : Hid (asksC ⟨o, la, ep, ck, tl, so⟩ ⟨4, dr, de, true, dt, dn, ds⟩ = (⟨g0, g1, g2, g3, g4, g5⟩, n, x)) := hide (by simp [asksC, AK.epoch, hg])
  have HG := hide hg
  clear hg
  obtain ⟨V0, hV0⟩ : ∃ V0, V0 = W.alloc (.cells #[.int .i64 o, .int .i64 la, .int .i64 ep, .int .i64 ck, .int .i64 tl, .bool so] 23 (0, 0)) := ⟨_, rfl⟩
  obtain ⟨V1, hV1⟩ : ∃ V1, V1 = V0.alloc (.cells #[.int .i64 4, .int .i64 dr, .int .i64 de, .bool true, .int .i64 dt, .int .i64 dn, .bool ds] 27 (0, 0)) := ⟨_, rfl⟩
  obtain ⟨V, hV⟩ : ∃ V, V = V1.alloc (.cells #[.int .i64 0, .int .i64 0, .int .i64 0, .int .i64 0, .int .i64 0, .bool false] 23 (0, 0)) := ⟨_, rfl⟩
  have bV0 : Below W.heap.size W V0 := by rw [hV0]; exact alloc_below _ _
  have bV1 : Below V0.heap.size V0 V1 := by rw [hV1]; exact alloc_below _ _
  have bV2 : Below V1.heap.size V1 V := by rw [hV]; exact alloc_below _ _
  have v0 : V0.heap[W.heap.size]? = some (.cells #[.int .i64 o, .int .i64 la, .int .i64 ep, .int .i64 ck, .int .i64 tl, .bool so] 23 (0, 0)) := by rw [hV0]; exact heap_alloc_new W _
  have v1 : V1.heap[V0.heap.size]? = some (.cells #[.int .i64 4, .int .i64 dr, .int .i64 de, .bool true, .int .i64 dt, .int .i64 dn, .bool ds] 27 (0, 0)) := by rw [hV1]; exact heap_alloc_new V0 _
  have v2 : V.heap[V1.heap.size]? = some (.cells #[.int .i64 0, .int .i64 0, .int .i64 0, .int .i64 0, .int .i64 0, .bool false] 23 (0, 0)) := by rw [hV]; exact heap_alloc_new V1 _
  have v3 := below_box bV2 (below_box bV1 v0)
  have v4 := below_box bV2 v1
  have hs0 : V0.heap.size = W.heap.size + 1 := by rw [hV0]; simp
  have hs1 : V1.heap.size = W.heap.size + 1 + 1 := by rw [hV1]; simp [hs0]
  obtain ⟨bB, hbB⟩ : ∃ bB, W.heap.size = bB := ⟨_, rfl⟩
  obtain ⟨aB, haB⟩ : ∃ aB, V0.heap.size = aB := ⟨_, rfl⟩
  obtain ⟨rB, hrB⟩ : ∃ rB, V1.heap.size = rB := ⟨_, rfl⟩
  have hrb : bB + 1 = aB := by omega
  have hrc : aB + 1 = rB := by omega
  have hlt : bB < rB := by omega
  rw [hbB] at v3
  rw [haB] at v4
  rw [hrB] at v2
  have HBW0 : Hid (Below bB W V) := hide (by rw [← hbB]; exact below_next (below_next bV0 bV1 bV0.size) bV2 (Nat.le_trans bV0.size bV1.size))
  have HBX0 := hide v3
  have HAX0 := hide v4
  have HRS0 := hide v2
  have HBB := hide hbB
  have HLT := hide hlt
  have HSZ0 := hide (box_lt v2)
  clear v0 v1 v2 v3 v4 bV0 bV1 bV2 hlt
  go_enter Try.func8, Try.ntmps8
  go_upto_region 1 with fail
  rw [← hV0, ← hV1, ← hV]
  try rw [hbB]
  try rw [hrb]
  try rw [hrc]
  clear hV0 hV1 hV hbB haB hrB hs0 hs1 hrb hrc
  obtain ⟨_, _, _, _, _, _, u0, u1, u2, u3, u4, u5⟩ := six HBX0.out
  obtain ⟨a0, a1, a2, a3, a4, a5, a6⟩ := seven HAX0.out
  go_wp2_with fail
  refine (transfer_any).mono ?_
  rw [HG.out]
  simp only [LE.val, LE.row]
  rintro _ w1 ⟨rfl, b1⟩
  have HBX1 := hide (below_box b1 HBX0.out)
  have HRS1 := hide (below_box b1 HRS0.out)
  have HBW1 := hide (below_next HBW0.out b1 (by have := HLT.out; have := HSZ0.out; omega))
  have HSZ1 := hide (box_lt HRS1.out)
  clear b1 HBX0 HRS0 HBW0 HSZ0 u0 u1 u2 u3 u4 u5 a0 a1 a2 a3 a4 a5 a6
  obtain ⟨f0, f1, f2, f3, f4, f5, r0, r1, r2, r3, r4, r5⟩ := six HRS1.out
  go_wp2
  have hE := heap_set6 HRS1.out (.int .i64 g0) (.int .i64 g1) (.int .i64 g2) (.int .i64 g3) (.int .i64 g4) (.bool g5)
  refine bodyPost_ret (results_cell_three rfl _ _ rB 23 _ _ _ rfl hE Try.underlying23 rfl (by kernel_rfl)) rfl ?_
  refine ⟨by rw [HQ.out]; rfl, ?_⟩
  rw [HBB.out]
  exact HBW1.out.trans ((only_set6 _ rB _ _ _ _ _ _).below (by have := HLT.out; have := HSZ1.out; omega) (fun i e => by have e' : i = rB := e; have := HLT.out; omega))

set_option maxRecDepth 100000 in
set_option maxHeartbeats 2000000 in
theorem asks_alone_true {W : World} {o la ep ck tl : Int} {so : Bool} {dr de dt dn : Int} {ds : Bool}  :
    Calls Try.prog 8 #[.agg #[.int .i64 o, .int .i64 la, .int .i64 ep, .int .i64 ck, .int .i64 tl, .bool so], .agg #[.int .i64 5, .int .i64 dr, .int .i64 de, .bool true, .int .i64 dt, .int .i64 dn, .bool ds]] W fun e w' => e = .returned (.tuple #[LE.val (asksC ⟨o, la, ep, ck, tl, so⟩ ⟨5, dr, de, true, dt, dn, ds⟩).1, .int .i64 (asksC ⟨o, la, ep, ck, tl, so⟩ ⟨5, dr, de, true, dt, dn, ds⟩).2.1, .int .i64 (asksC ⟨o, la, ep, ck, tl, so⟩ ⟨5, dr, de, true, dt, dn, ds⟩).2.2]) ∧ Below W.heap.size W w' := by
  obtain ⟨⟨⟨g0, g1, g2, g3, g4, g5⟩, x⟩, hg⟩ : ∃ q, aloneC ⟨o, la, ep, ck, tl, so⟩ dr ep ds = q := ⟨_, rfl⟩
  have HQ : Hid (asksC ⟨o, la, ep, ck, tl, so⟩ ⟨5, dr, de, true, dt, dn, ds⟩ = (⟨g0, g1, g2, g3, g4, g5⟩, 0, x)) := hide (by simp [asksC, AK.epoch, hg])
  have HG := hide hg
  clear hg
  obtain ⟨V0, hV0⟩ : ∃ V0, V0 = W.alloc (.cells #[.int .i64 o, .int .i64 la, .int .i64 ep, .int .i64 ck, .int .i64 tl, .bool so] 23 (0, 0)) := ⟨_, rfl⟩
  obtain ⟨V1, hV1⟩ : ∃ V1, V1 = V0.alloc (.cells #[.int .i64 5, .int .i64 dr, .int .i64 de, .bool true, .int .i64 dt, .int .i64 dn, .bool ds] 27 (0, 0)) := ⟨_, rfl⟩
  obtain ⟨V, hV⟩ : ∃ V, V = V1.alloc (.cells #[.int .i64 0, .int .i64 0, .int .i64 0, .int .i64 0, .int .i64 0, .bool false] 23 (0, 0)) := ⟨_, rfl⟩
  have bV0 : Below W.heap.size W V0 := by rw [hV0]; exact alloc_below _ _
  have bV1 : Below V0.heap.size V0 V1 := by rw [hV1]; exact alloc_below _ _
  have bV2 : Below V1.heap.size V1 V := by rw [hV]; exact alloc_below _ _
  have v0 : V0.heap[W.heap.size]? = some (.cells #[.int .i64 o, .int .i64 la, .int .i64 ep, .int .i64 ck, .int .i64 tl, .bool so] 23 (0, 0)) := by rw [hV0]; exact heap_alloc_new W _
  have v1 : V1.heap[V0.heap.size]? = some (.cells #[.int .i64 5, .int .i64 dr, .int .i64 de, .bool true, .int .i64 dt, .int .i64 dn, .bool ds] 27 (0, 0)) := by rw [hV1]; exact heap_alloc_new V0 _
  have v2 : V.heap[V1.heap.size]? = some (.cells #[.int .i64 0, .int .i64 0, .int .i64 0, .int .i64 0, .int .i64 0, .bool false] 23 (0, 0)) := by rw [hV]; exact heap_alloc_new V1 _
  have v3 := below_box bV2 (below_box bV1 v0)
  have v4 := below_box bV2 v1
  have hs0 : V0.heap.size = W.heap.size + 1 := by rw [hV0]; simp
  have hs1 : V1.heap.size = W.heap.size + 1 + 1 := by rw [hV1]; simp [hs0]
  obtain ⟨bB, hbB⟩ : ∃ bB, W.heap.size = bB := ⟨_, rfl⟩
  obtain ⟨aB, haB⟩ : ∃ aB, V0.heap.size = aB := ⟨_, rfl⟩
  obtain ⟨rB, hrB⟩ : ∃ rB, V1.heap.size = rB := ⟨_, rfl⟩
  have hrb : bB + 1 = aB := by omega
  have hrc : aB + 1 = rB := by omega
  have hlt : bB < rB := by omega
  rw [hbB] at v3
  rw [haB] at v4
  rw [hrB] at v2
  have HBW0 : Hid (Below bB W V) := hide (by rw [← hbB]; exact below_next (below_next bV0 bV1 bV0.size) bV2 (Nat.le_trans bV0.size bV1.size))
  have HBX0 := hide v3
  have HAX0 := hide v4
  have HRS0 := hide v2
  have HBB := hide hbB
  have HLT := hide hlt
  have HSZ0 := hide (box_lt v2)
  clear v0 v1 v2 v3 v4 bV0 bV1 bV2 hlt
  go_enter Try.func8, Try.ntmps8
  go_upto_region 1 with fail
  rw [← hV0, ← hV1, ← hV]
  try rw [hbB]
  try rw [hrb]
  try rw [hrc]
  clear hV0 hV1 hV hbB haB hrB hs0 hs1 hrb hrc
  obtain ⟨_, _, _, _, _, _, u0, u1, u2, u3, u4, u5⟩ := six HBX0.out
  obtain ⟨a0, a1, a2, a3, a4, a5, a6⟩ := seven HAX0.out
  go_wp2_with fail
  refine (alone_any).mono ?_
  rw [HG.out]
  simp only [LE.val, LE.row]
  rintro _ w1 ⟨rfl, b1⟩
  have HBX1 := hide (below_box b1 HBX0.out)
  have HRS1 := hide (below_box b1 HRS0.out)
  have HBW1 := hide (below_next HBW0.out b1 (by have := HLT.out; have := HSZ0.out; omega))
  have HSZ1 := hide (box_lt HRS1.out)
  clear b1 HBX0 HRS0 HBW0 HSZ0 u0 u1 u2 u3 u4 u5 a0 a1 a2 a3 a4 a5 a6
  go_upto_region 17 with fail
  obtain ⟨X, hX⟩ : ∃ X, X = w1.alloc (.cells #[.int .i64 g0, .int .i64 g1, .int .i64 g2, .int .i64 g3, .int .i64 g4, .bool g5] 23 (0, 0)) := ⟨_, rfl⟩
  rw [← hX]
  have bX : Below w1.heap.size w1 X := by rw [hX]; exact alloc_below _ _
  obtain ⟨tB, htB⟩ : ∃ tB, w1.heap.size = tB := ⟨_, rfl⟩
  have hn1 : X.heap[tB]? = some (.cells #[.int .i64 g0, .int .i64 g1, .int .i64 g2, .int .i64 g3, .int .i64 g4, .bool g5] 23 (0, 0)) := by rw [hX, ← htB]; exact heap_alloc_new w1 _
  have HRS2 := hide (below_box bX HRS1.out)
  have HBW2 := hide (below_next HBW1.out bX (by have := HLT.out; have := HSZ1.out; omega))
  have HSZ2 := hide (box_lt HRS2.out)
  try rw [htB]
  obtain ⟨_, _, _, _, _, _, v0, v1, v2, v3, v4, v5⟩ := six hn1
  clear hX bX hn1 htB
  obtain ⟨f0, f1, f2, f3, f4, f5, r0, r1, r2, r3, r4, r5⟩ := six HRS2.out
  go_wp2
  have hE := heap_set6 HRS2.out (.int .i64 g0) (.int .i64 g1) (.int .i64 g2) (.int .i64 g3) (.int .i64 g4) (.bool g5)
  refine bodyPost_ret (results_cell_three rfl _ _ rB 23 _ _ _ rfl hE Try.underlying23 rfl (by kernel_rfl)) rfl ?_
  refine ⟨by rw [HQ.out]; rfl, ?_⟩
  rw [HBB.out]
  exact HBW2.out.trans ((only_set6 _ rB _ _ _ _ _ _).below (by have := HLT.out; have := HSZ2.out; omega) (fun i e => by have e' : i = rB := e; have := HLT.out; omega))

set_option maxRecDepth 100000 in
set_option maxHeartbeats 2000000 in
theorem asks_tick_true {W : World} {o la ep ck tl : Int} {so : Bool} {dd dr de dt dn : Int} {ds : Bool} (h1 : dd ≠ 1) (h2 : dd ≠ 2) (h3 : dd ≠ 3) (h4 : dd ≠ 4) (h5 : dd ≠ 5) :
    Calls Try.prog 8 #[.agg #[.int .i64 o, .int .i64 la, .int .i64 ep, .int .i64 ck, .int .i64 tl, .bool so], .agg #[.int .i64 dd, .int .i64 dr, .int .i64 de, .bool true, .int .i64 dt, .int .i64 dn, .bool ds]] W fun e w' => e = .returned (.tuple #[LE.val (asksC ⟨o, la, ep, ck, tl, so⟩ ⟨dd, dr, de, true, dt, dn, ds⟩).1, .int .i64 (asksC ⟨o, la, ep, ck, tl, so⟩ ⟨dd, dr, de, true, dt, dn, ds⟩).2.1, .int .i64 (asksC ⟨o, la, ep, ck, tl, so⟩ ⟨dd, dr, de, true, dt, dn, ds⟩).2.2]) ∧ Below W.heap.size W w' := by
  obtain ⟨⟨g0, g1, g2, g3, g4, g5⟩, hg⟩ : ∃ q, tickC ⟨o, la, ep, ck, tl, so⟩ dn = q := ⟨_, rfl⟩
  have HQ : Hid (asksC ⟨o, la, ep, ck, tl, so⟩ ⟨dd, dr, de, true, dt, dn, ds⟩ = (⟨g0, g1, g2, g3, g4, g5⟩, 0, 0)) := hide (by simp [asksC, hg, h1, h2, h3, h4, h5])
  have HG := hide hg
  clear hg
  have d1 : (dd == 1) = false := ne_eqL h1
  have d2 : (dd == 2) = false := ne_eqL h2
  have d3 : (dd == 3) = false := ne_eqL h3
  have d4 : (dd == 4) = false := ne_eqL h4
  have d5 : (dd == 5) = false := ne_eqL h5
  clear h1 h2 h3 h4 h5
  obtain ⟨V0, hV0⟩ : ∃ V0, V0 = W.alloc (.cells #[.int .i64 o, .int .i64 la, .int .i64 ep, .int .i64 ck, .int .i64 tl, .bool so] 23 (0, 0)) := ⟨_, rfl⟩
  obtain ⟨V1, hV1⟩ : ∃ V1, V1 = V0.alloc (.cells #[.int .i64 dd, .int .i64 dr, .int .i64 de, .bool true, .int .i64 dt, .int .i64 dn, .bool ds] 27 (0, 0)) := ⟨_, rfl⟩
  obtain ⟨V, hV⟩ : ∃ V, V = V1.alloc (.cells #[.int .i64 0, .int .i64 0, .int .i64 0, .int .i64 0, .int .i64 0, .bool false] 23 (0, 0)) := ⟨_, rfl⟩
  have bV0 : Below W.heap.size W V0 := by rw [hV0]; exact alloc_below _ _
  have bV1 : Below V0.heap.size V0 V1 := by rw [hV1]; exact alloc_below _ _
  have bV2 : Below V1.heap.size V1 V := by rw [hV]; exact alloc_below _ _
  have v0 : V0.heap[W.heap.size]? = some (.cells #[.int .i64 o, .int .i64 la, .int .i64 ep, .int .i64 ck, .int .i64 tl, .bool so] 23 (0, 0)) := by rw [hV0]; exact heap_alloc_new W _
  have v1 : V1.heap[V0.heap.size]? = some (.cells #[.int .i64 dd, .int .i64 dr, .int .i64 de, .bool true, .int .i64 dt, .int .i64 dn, .bool ds] 27 (0, 0)) := by rw [hV1]; exact heap_alloc_new V0 _
  have v2 : V.heap[V1.heap.size]? = some (.cells #[.int .i64 0, .int .i64 0, .int .i64 0, .int .i64 0, .int .i64 0, .bool false] 23 (0, 0)) := by rw [hV]; exact heap_alloc_new V1 _
  have v3 := below_box bV2 (below_box bV1 v0)
  have v4 := below_box bV2 v1
  have hs0 : V0.heap.size = W.heap.size + 1 := by rw [hV0]; simp
  have hs1 : V1.heap.size = W.heap.size + 1 + 1 := by rw [hV1]; simp [hs0]
  obtain ⟨bB, hbB⟩ : ∃ bB, W.heap.size = bB := ⟨_, rfl⟩
  obtain ⟨aB, haB⟩ : ∃ aB, V0.heap.size = aB := ⟨_, rfl⟩
  obtain ⟨rB, hrB⟩ : ∃ rB, V1.heap.size = rB := ⟨_, rfl⟩
  have hrb : bB + 1 = aB := by omega
  have hrc : aB + 1 = rB := by omega
  have hlt : bB < rB := by omega
  rw [hbB] at v3
  rw [haB] at v4
  rw [hrB] at v2
  have HBW0 : Hid (Below bB W V) := hide (by rw [← hbB]; exact below_next (below_next bV0 bV1 bV0.size) bV2 (Nat.le_trans bV0.size bV1.size))
  have HBX0 := hide v3
  have HAX0 := hide v4
  have HRS0 := hide v2
  have HBB := hide hbB
  have HLT := hide hlt
  have HSZ0 := hide (box_lt v2)
  clear v0 v1 v2 v3 v4 bV0 bV1 bV2 hlt
  go_enter Try.func8, Try.ntmps8
  go_upto_region 1 with fail
  rw [← hV0, ← hV1, ← hV]
  try rw [hbB]
  try rw [hrb]
  try rw [hrc]
  clear hV0 hV1 hV hbB haB hrB hs0 hs1 hrb hrc
  obtain ⟨_, _, _, _, _, _, u0, u1, u2, u3, u4, u5⟩ := six HBX0.out
  obtain ⟨a0, a1, a2, a3, a4, a5, a6⟩ := seven HAX0.out
  go_wp2_with fail
  refine (tick_any).mono ?_
  rw [HG.out]
  simp only [LE.val, LE.row]
  rintro _ w1 ⟨rfl, b1⟩
  have HBX1 := hide (below_box b1 HBX0.out)
  have HRS1 := hide (below_box b1 HRS0.out)
  have HBW1 := hide (below_next HBW0.out b1 (by have := HLT.out; have := HSZ0.out; omega))
  have HSZ1 := hide (box_lt HRS1.out)
  clear b1 HBX0 HRS0 HBW0 HSZ0 u0 u1 u2 u3 u4 u5 a0 a1 a2 a3 a4 a5 a6
  obtain ⟨f0, f1, f2, f3, f4, f5, r0, r1, r2, r3, r4, r5⟩ := six HRS1.out
  go_wp2
  have hE := heap_set6 HRS1.out (.int .i64 g0) (.int .i64 g1) (.int .i64 g2) (.int .i64 g3) (.int .i64 g4) (.bool g5)
  refine bodyPost_ret (results_cell_three rfl _ _ rB 23 _ _ _ rfl hE Try.underlying23 rfl (by kernel_rfl)) rfl ?_
  refine ⟨by rw [HQ.out]; rfl, ?_⟩
  rw [HBB.out]
  exact HBW1.out.trans ((only_set6 _ rB _ _ _ _ _ _).below (by have := HLT.out; have := HSZ1.out; omega) (fun i e => by have e' : i = rB := e; have := HLT.out; omega))

set_option maxRecDepth 100000 in
set_option maxHeartbeats 2000000 in
theorem asks_acquire_false {W : World} {o la ep ck tl : Int} {so : Bool} {dr de dt dn : Int} {ds : Bool}  :
    Calls Try.prog 8 #[.agg #[.int .i64 o, .int .i64 la, .int .i64 ep, .int .i64 ck, .int .i64 tl, .bool so], .agg #[.int .i64 1, .int .i64 dr, .int .i64 de, .bool false, .int .i64 dt, .int .i64 dn, .bool ds]] W fun e w' => e = .returned (.tuple #[LE.val (asksC ⟨o, la, ep, ck, tl, so⟩ ⟨1, dr, de, false, dt, dn, ds⟩).1, .int .i64 (asksC ⟨o, la, ep, ck, tl, so⟩ ⟨1, dr, de, false, dt, dn, ds⟩).2.1, .int .i64 (asksC ⟨o, la, ep, ck, tl, so⟩ ⟨1, dr, de, false, dt, dn, ds⟩).2.2]) ∧ Below W.heap.size W w' := by
  obtain ⟨⟨⟨g0, g1, g2, g3, g4, g5⟩, n, x⟩, hg⟩ : ∃ q, acqC ⟨o, la, ep, ck, tl, so⟩ dr = q := ⟨_, rfl⟩
  have HQ : Hid (asksC ⟨o, la, ep, ck, tl, so⟩ ⟨1, dr, de, false, dt, dn, ds⟩ = (⟨g0, g1, g2, g3, g4, g5⟩, n, x)) := hide (by simp [asksC, hg])
  have HG := hide hg
  clear hg
  obtain ⟨V0, hV0⟩ : ∃ V0, V0 = W.alloc (.cells #[.int .i64 o, .int .i64 la, .int .i64 ep, .int .i64 ck, .int .i64 tl, .bool so] 23 (0, 0)) := ⟨_, rfl⟩
  obtain ⟨V1, hV1⟩ : ∃ V1, V1 = V0.alloc (.cells #[.int .i64 1, .int .i64 dr, .int .i64 de, .bool false, .int .i64 dt, .int .i64 dn, .bool ds] 27 (0, 0)) := ⟨_, rfl⟩
  obtain ⟨V, hV⟩ : ∃ V, V = V1.alloc (.cells #[.int .i64 0, .int .i64 0, .int .i64 0, .int .i64 0, .int .i64 0, .bool false] 23 (0, 0)) := ⟨_, rfl⟩
  have bV0 : Below W.heap.size W V0 := by rw [hV0]; exact alloc_below _ _
  have bV1 : Below V0.heap.size V0 V1 := by rw [hV1]; exact alloc_below _ _
  have bV2 : Below V1.heap.size V1 V := by rw [hV]; exact alloc_below _ _
  have v0 : V0.heap[W.heap.size]? = some (.cells #[.int .i64 o, .int .i64 la, .int .i64 ep, .int .i64 ck, .int .i64 tl, .bool so] 23 (0, 0)) := by rw [hV0]; exact heap_alloc_new W _
  have v1 : V1.heap[V0.heap.size]? = some (.cells #[.int .i64 1, .int .i64 dr, .int .i64 de, .bool false, .int .i64 dt, .int .i64 dn, .bool ds] 27 (0, 0)) := by rw [hV1]; exact heap_alloc_new V0 _
  have v2 : V.heap[V1.heap.size]? = some (.cells #[.int .i64 0, .int .i64 0, .int .i64 0, .int .i64 0, .int .i64 0, .bool false] 23 (0, 0)) := by rw [hV]; exact heap_alloc_new V1 _
  have v3 := below_box bV2 (below_box bV1 v0)
  have v4 := below_box bV2 v1
  have hs0 : V0.heap.size = W.heap.size + 1 := by rw [hV0]; simp
  have hs1 : V1.heap.size = W.heap.size + 1 + 1 := by rw [hV1]; simp [hs0]
  obtain ⟨bB, hbB⟩ : ∃ bB, W.heap.size = bB := ⟨_, rfl⟩
  obtain ⟨aB, haB⟩ : ∃ aB, V0.heap.size = aB := ⟨_, rfl⟩
  obtain ⟨rB, hrB⟩ : ∃ rB, V1.heap.size = rB := ⟨_, rfl⟩
  have hrb : bB + 1 = aB := by omega
  have hrc : aB + 1 = rB := by omega
  have hlt : bB < rB := by omega
  rw [hbB] at v3
  rw [haB] at v4
  rw [hrB] at v2
  have HBW0 : Hid (Below bB W V) := hide (by rw [← hbB]; exact below_next (below_next bV0 bV1 bV0.size) bV2 (Nat.le_trans bV0.size bV1.size))
  have HBX0 := hide v3
  have HAX0 := hide v4
  have HRS0 := hide v2
  have HBB := hide hbB
  have HLT := hide hlt
  have HSZ0 := hide (box_lt v2)
  clear v0 v1 v2 v3 v4 bV0 bV1 bV2 hlt
  go_enter Try.func8, Try.ntmps8
  go_upto_region 1 with fail
  rw [← hV0, ← hV1, ← hV]
  try rw [hbB]
  try rw [hrb]
  try rw [hrc]
  clear hV0 hV1 hV hbB haB hrB hs0 hs1 hrb hrc
  obtain ⟨_, _, _, _, _, _, u0, u1, u2, u3, u4, u5⟩ := six HBX0.out
  obtain ⟨a0, a1, a2, a3, a4, a5, a6⟩ := seven HAX0.out
  go_wp2_with fail
  refine (acquire_any).mono ?_
  rw [HG.out]
  simp only [LE.val, LE.row]
  rintro _ w1 ⟨rfl, b1⟩
  have HBX1 := hide (below_box b1 HBX0.out)
  have HRS1 := hide (below_box b1 HRS0.out)
  have HBW1 := hide (below_next HBW0.out b1 (by have := HLT.out; have := HSZ0.out; omega))
  have HSZ1 := hide (box_lt HRS1.out)
  clear b1 HBX0 HRS0 HBW0 HSZ0 u0 u1 u2 u3 u4 u5 a0 a1 a2 a3 a4 a5 a6
  obtain ⟨f0, f1, f2, f3, f4, f5, r0, r1, r2, r3, r4, r5⟩ := six HRS1.out
  go_wp2
  have hE := heap_set6 HRS1.out (.int .i64 g0) (.int .i64 g1) (.int .i64 g2) (.int .i64 g3) (.int .i64 g4) (.bool g5)
  refine bodyPost_ret (results_cell_three rfl _ _ rB 23 _ _ _ rfl hE Try.underlying23 rfl (by kernel_rfl)) rfl ?_
  refine ⟨by rw [HQ.out]; rfl, ?_⟩
  rw [HBB.out]
  exact HBW1.out.trans ((only_set6 _ rB _ _ _ _ _ _).below (by have := HLT.out; have := HSZ1.out; omega) (fun i e => by have e' : i = rB := e; have := HLT.out; omega))

set_option maxRecDepth 100000 in
set_option maxHeartbeats 2000000 in
theorem asks_renew_false {W : World} {o la ep ck tl : Int} {so : Bool} {dr de dt dn : Int} {ds : Bool}  :
    Calls Try.prog 8 #[.agg #[.int .i64 o, .int .i64 la, .int .i64 ep, .int .i64 ck, .int .i64 tl, .bool so], .agg #[.int .i64 2, .int .i64 dr, .int .i64 de, .bool false, .int .i64 dt, .int .i64 dn, .bool ds]] W fun e w' => e = .returned (.tuple #[LE.val (asksC ⟨o, la, ep, ck, tl, so⟩ ⟨2, dr, de, false, dt, dn, ds⟩).1, .int .i64 (asksC ⟨o, la, ep, ck, tl, so⟩ ⟨2, dr, de, false, dt, dn, ds⟩).2.1, .int .i64 (asksC ⟨o, la, ep, ck, tl, so⟩ ⟨2, dr, de, false, dt, dn, ds⟩).2.2]) ∧ Below W.heap.size W w' := by
  obtain ⟨⟨⟨g0, g1, g2, g3, g4, g5⟩, x⟩, hg⟩ : ∃ q, renewC ⟨o, la, ep, ck, tl, so⟩ dr de = q := ⟨_, rfl⟩
  have HQ : Hid (asksC ⟨o, la, ep, ck, tl, so⟩ ⟨2, dr, de, false, dt, dn, ds⟩ = (⟨g0, g1, g2, g3, g4, g5⟩, 0, x)) := hide (by simp [asksC, AK.epoch, hg])
  have HG := hide hg
  clear hg
  obtain ⟨V0, hV0⟩ : ∃ V0, V0 = W.alloc (.cells #[.int .i64 o, .int .i64 la, .int .i64 ep, .int .i64 ck, .int .i64 tl, .bool so] 23 (0, 0)) := ⟨_, rfl⟩
  obtain ⟨V1, hV1⟩ : ∃ V1, V1 = V0.alloc (.cells #[.int .i64 2, .int .i64 dr, .int .i64 de, .bool false, .int .i64 dt, .int .i64 dn, .bool ds] 27 (0, 0)) := ⟨_, rfl⟩
  obtain ⟨V, hV⟩ : ∃ V, V = V1.alloc (.cells #[.int .i64 0, .int .i64 0, .int .i64 0, .int .i64 0, .int .i64 0, .bool false] 23 (0, 0)) := ⟨_, rfl⟩
  have bV0 : Below W.heap.size W V0 := by rw [hV0]; exact alloc_below _ _
  have bV1 : Below V0.heap.size V0 V1 := by rw [hV1]; exact alloc_below _ _
  have bV2 : Below V1.heap.size V1 V := by rw [hV]; exact alloc_below _ _
  have v0 : V0.heap[W.heap.size]? = some (.cells #[.int .i64 o, .int .i64 la, .int .i64 ep, .int .i64 ck, .int .i64 tl, .bool so] 23 (0, 0)) := by rw [hV0]; exact heap_alloc_new W _
  have v1 : V1.heap[V0.heap.size]? = some (.cells #[.int .i64 2, .int .i64 dr, .int .i64 de, .bool false, .int .i64 dt, .int .i64 dn, .bool ds] 27 (0, 0)) := by rw [hV1]; exact heap_alloc_new V0 _
  have v2 : V.heap[V1.heap.size]? = some (.cells #[.int .i64 0, .int .i64 0, .int .i64 0, .int .i64 0, .int .i64 0, .bool false] 23 (0, 0)) := by rw [hV]; exact heap_alloc_new V1 _
  have v3 := below_box bV2 (below_box bV1 v0)
  have v4 := below_box bV2 v1
  have hs0 : V0.heap.size = W.heap.size + 1 := by rw [hV0]; simp
  have hs1 : V1.heap.size = W.heap.size + 1 + 1 := by rw [hV1]; simp [hs0]
  obtain ⟨bB, hbB⟩ : ∃ bB, W.heap.size = bB := ⟨_, rfl⟩
  obtain ⟨aB, haB⟩ : ∃ aB, V0.heap.size = aB := ⟨_, rfl⟩
  obtain ⟨rB, hrB⟩ : ∃ rB, V1.heap.size = rB := ⟨_, rfl⟩
  have hrb : bB + 1 = aB := by omega
  have hrc : aB + 1 = rB := by omega
  have hlt : bB < rB := by omega
  rw [hbB] at v3
  rw [haB] at v4
  rw [hrB] at v2
  have HBW0 : Hid (Below bB W V) := hide (by rw [← hbB]; exact below_next (below_next bV0 bV1 bV0.size) bV2 (Nat.le_trans bV0.size bV1.size))
  have HBX0 := hide v3
  have HAX0 := hide v4
  have HRS0 := hide v2
  have HBB := hide hbB
  have HLT := hide hlt
  have HSZ0 := hide (box_lt v2)
  clear v0 v1 v2 v3 v4 bV0 bV1 bV2 hlt
  go_enter Try.func8, Try.ntmps8
  go_upto_region 1 with fail
  rw [← hV0, ← hV1, ← hV]
  try rw [hbB]
  try rw [hrb]
  try rw [hrc]
  clear hV0 hV1 hV hbB haB hrB hs0 hs1 hrb hrc
  obtain ⟨_, _, _, _, _, _, u0, u1, u2, u3, u4, u5⟩ := six HBX0.out
  obtain ⟨a0, a1, a2, a3, a4, a5, a6⟩ := seven HAX0.out
  go_wp2_with fail
  refine (renew_any).mono ?_
  rw [HG.out]
  simp only [LE.val, LE.row]
  rintro _ w1 ⟨rfl, b1⟩
  have HBX1 := hide (below_box b1 HBX0.out)
  have HRS1 := hide (below_box b1 HRS0.out)
  have HBW1 := hide (below_next HBW0.out b1 (by have := HLT.out; have := HSZ0.out; omega))
  have HSZ1 := hide (box_lt HRS1.out)
  clear b1 HBX0 HRS0 HBW0 HSZ0 u0 u1 u2 u3 u4 u5 a0 a1 a2 a3 a4 a5 a6
  go_upto_region 9 with fail
  obtain ⟨X, hX⟩ : ∃ X, X = w1.alloc (.cells #[.int .i64 g0, .int .i64 g1, .int .i64 g2, .int .i64 g3, .int .i64 g4, .bool g5] 23 (0, 0)) := ⟨_, rfl⟩
  rw [← hX]
  have bX : Below w1.heap.size w1 X := by rw [hX]; exact alloc_below _ _
  obtain ⟨tB, htB⟩ : ∃ tB, w1.heap.size = tB := ⟨_, rfl⟩
  have hn1 : X.heap[tB]? = some (.cells #[.int .i64 g0, .int .i64 g1, .int .i64 g2, .int .i64 g3, .int .i64 g4, .bool g5] 23 (0, 0)) := by rw [hX, ← htB]; exact heap_alloc_new w1 _
  have HRS2 := hide (below_box bX HRS1.out)
  have HBW2 := hide (below_next HBW1.out bX (by have := HLT.out; have := HSZ1.out; omega))
  have HSZ2 := hide (box_lt HRS2.out)
  try rw [htB]
  obtain ⟨_, _, _, _, _, _, v0, v1, v2, v3, v4, v5⟩ := six hn1
  clear hX bX hn1 htB
  obtain ⟨f0, f1, f2, f3, f4, f5, r0, r1, r2, r3, r4, r5⟩ := six HRS2.out
  go_wp2
  have hE := heap_set6 HRS2.out (.int .i64 g0) (.int .i64 g1) (.int .i64 g2) (.int .i64 g3) (.int .i64 g4) (.bool g5)
  refine bodyPost_ret (results_cell_three rfl _ _ rB 23 _ _ _ rfl hE Try.underlying23 rfl (by kernel_rfl)) rfl ?_
  refine ⟨by rw [HQ.out]; rfl, ?_⟩
  rw [HBB.out]
  exact HBW2.out.trans ((only_set6 _ rB _ _ _ _ _ _).below (by have := HLT.out; have := HSZ2.out; omega) (fun i e => by have e' : i = rB := e; have := HLT.out; omega))

set_option maxRecDepth 100000 in
set_option maxHeartbeats 2000000 in
theorem asks_release_false {W : World} {o la ep ck tl : Int} {so : Bool} {dr de dt dn : Int} {ds : Bool}  :
    Calls Try.prog 8 #[.agg #[.int .i64 o, .int .i64 la, .int .i64 ep, .int .i64 ck, .int .i64 tl, .bool so], .agg #[.int .i64 3, .int .i64 dr, .int .i64 de, .bool false, .int .i64 dt, .int .i64 dn, .bool ds]] W fun e w' => e = .returned (.tuple #[LE.val (asksC ⟨o, la, ep, ck, tl, so⟩ ⟨3, dr, de, false, dt, dn, ds⟩).1, .int .i64 (asksC ⟨o, la, ep, ck, tl, so⟩ ⟨3, dr, de, false, dt, dn, ds⟩).2.1, .int .i64 (asksC ⟨o, la, ep, ck, tl, so⟩ ⟨3, dr, de, false, dt, dn, ds⟩).2.2]) ∧ Below W.heap.size W w' := by
  obtain ⟨⟨⟨g0, g1, g2, g3, g4, g5⟩, x⟩, hg⟩ : ∃ q, releaseC ⟨o, la, ep, ck, tl, so⟩ dr de = q := ⟨_, rfl⟩
  have HQ : Hid (asksC ⟨o, la, ep, ck, tl, so⟩ ⟨3, dr, de, false, dt, dn, ds⟩ = (⟨g0, g1, g2, g3, g4, g5⟩, 0, x)) := hide (by simp [asksC, AK.epoch, hg])
  have HG := hide hg
  clear hg
  obtain ⟨V0, hV0⟩ : ∃ V0, V0 = W.alloc (.cells #[.int .i64 o, .int .i64 la, .int .i64 ep, .int .i64 ck, .int .i64 tl, .bool so] 23 (0, 0)) := ⟨_, rfl⟩
  obtain ⟨V1, hV1⟩ : ∃ V1, V1 = V0.alloc (.cells #[.int .i64 3, .int .i64 dr, .int .i64 de, .bool false, .int .i64 dt, .int .i64 dn, .bool ds] 27 (0, 0)) := ⟨_, rfl⟩
  obtain ⟨V, hV⟩ : ∃ V, V = V1.alloc (.cells #[.int .i64 0, .int .i64 0, .int .i64 0, .int .i64 0, .int .i64 0, .bool false] 23 (0, 0)) := ⟨_, rfl⟩
  have bV0 : Below W.heap.size W V0 := by rw [hV0]; exact alloc_below _ _
  have bV1 : Below V0.heap.size V0 V1 := by rw [hV1]; exact alloc_below _ _
  have bV2 : Below V1.heap.size V1 V := by rw [hV]; exact alloc_below _ _
  have v0 : V0.heap[W.heap.size]? = some (.cells #[.int .i64 o, .int .i64 la, .int .i64 ep, .int .i64 ck, .int .i64 tl, .bool so] 23 (0, 0)) := by rw [hV0]; exact heap_alloc_new W _
  have v1 : V1.heap[V0.heap.size]? = some (.cells #[.int .i64 3, .int .i64 dr, .int .i64 de, .bool false, .int .i64 dt, .int .i64 dn, .bool ds] 27 (0, 0)) := by rw [hV1]; exact heap_alloc_new V0 _
  have v2 : V.heap[V1.heap.size]? = some (.cells #[.int .i64 0, .int .i64 0, .int .i64 0, .int .i64 0, .int .i64 0, .bool false] 23 (0, 0)) := by rw [hV]; exact heap_alloc_new V1 _
  have v3 := below_box bV2 (below_box bV1 v0)
  have v4 := below_box bV2 v1
  have hs0 : V0.heap.size = W.heap.size + 1 := by rw [hV0]; simp
  have hs1 : V1.heap.size = W.heap.size + 1 + 1 := by rw [hV1]; simp [hs0]
  obtain ⟨bB, hbB⟩ : ∃ bB, W.heap.size = bB := ⟨_, rfl⟩
  obtain ⟨aB, haB⟩ : ∃ aB, V0.heap.size = aB := ⟨_, rfl⟩
  obtain ⟨rB, hrB⟩ : ∃ rB, V1.heap.size = rB := ⟨_, rfl⟩
  have hrb : bB + 1 = aB := by omega
  have hrc : aB + 1 = rB := by omega
  have hlt : bB < rB := by omega
  rw [hbB] at v3
  rw [haB] at v4
  rw [hrB] at v2
  have HBW0 : Hid (Below bB W V) := hide (by rw [← hbB]; exact below_next (below_next bV0 bV1 bV0.size) bV2 (Nat.le_trans bV0.size bV1.size))
  have HBX0 := hide v3
  have HAX0 := hide v4
  have HRS0 := hide v2
  have HBB := hide hbB
  have HLT := hide hlt
  have HSZ0 := hide (box_lt v2)
  clear v0 v1 v2 v3 v4 bV0 bV1 bV2 hlt
  go_enter Try.func8, Try.ntmps8
  go_upto_region 1 with fail
  rw [← hV0, ← hV1, ← hV]
  try rw [hbB]
  try rw [hrb]
  try rw [hrc]
  clear hV0 hV1 hV hbB haB hrB hs0 hs1 hrb hrc
  obtain ⟨_, _, _, _, _, _, u0, u1, u2, u3, u4, u5⟩ := six HBX0.out
  obtain ⟨a0, a1, a2, a3, a4, a5, a6⟩ := seven HAX0.out
  go_wp2_with fail
  refine (release_any).mono ?_
  rw [HG.out]
  simp only [LE.val, LE.row]
  rintro _ w1 ⟨rfl, b1⟩
  have HBX1 := hide (below_box b1 HBX0.out)
  have HRS1 := hide (below_box b1 HRS0.out)
  have HBW1 := hide (below_next HBW0.out b1 (by have := HLT.out; have := HSZ0.out; omega))
  have HSZ1 := hide (box_lt HRS1.out)
  clear b1 HBX0 HRS0 HBW0 HSZ0 u0 u1 u2 u3 u4 u5 a0 a1 a2 a3 a4 a5 a6
  go_upto_region 12 with fail
  obtain ⟨X, hX⟩ : ∃ X, X = w1.alloc (.cells #[.int .i64 g0, .int .i64 g1, .int .i64 g2, .int .i64 g3, .int .i64 g4, .bool g5] 23 (0, 0)) := ⟨_, rfl⟩
  rw [← hX]
  have bX : Below w1.heap.size w1 X := by rw [hX]; exact alloc_below _ _
  obtain ⟨tB, htB⟩ : ∃ tB, w1.heap.size = tB := ⟨_, rfl⟩
  have hn1 : X.heap[tB]? = some (.cells #[.int .i64 g0, .int .i64 g1, .int .i64 g2, .int .i64 g3, .int .i64 g4, .bool g5] 23 (0, 0)) := by rw [hX, ← htB]; exact heap_alloc_new w1 _
  have HRS2 := hide (below_box bX HRS1.out)
  have HBW2 := hide (below_next HBW1.out bX (by have := HLT.out; have := HSZ1.out; omega))
  have HSZ2 := hide (box_lt HRS2.out)
  try rw [htB]
  obtain ⟨_, _, _, _, _, _, v0, v1, v2, v3, v4, v5⟩ := six hn1
  clear hX bX hn1 htB
  obtain ⟨f0, f1, f2, f3, f4, f5, r0, r1, r2, r3, r4, r5⟩ := six HRS2.out
  go_wp2
  have hE := heap_set6 HRS2.out (.int .i64 g0) (.int .i64 g1) (.int .i64 g2) (.int .i64 g3) (.int .i64 g4) (.bool g5)
  refine bodyPost_ret (results_cell_three rfl _ _ rB 23 _ _ _ rfl hE Try.underlying23 rfl (by kernel_rfl)) rfl ?_
  refine ⟨by rw [HQ.out]; rfl, ?_⟩
  rw [HBB.out]
  exact HBW2.out.trans ((only_set6 _ rB _ _ _ _ _ _).below (by have := HLT.out; have := HSZ2.out; omega) (fun i e => by have e' : i = rB := e; have := HLT.out; omega))

set_option maxRecDepth 100000 in
set_option maxHeartbeats 2000000 in
theorem asks_transfer_false {W : World} {o la ep ck tl : Int} {so : Bool} {dr de dt dn : Int} {ds : Bool}  :
    Calls Try.prog 8 #[.agg #[.int .i64 o, .int .i64 la, .int .i64 ep, .int .i64 ck, .int .i64 tl, .bool so], .agg #[.int .i64 4, .int .i64 dr, .int .i64 de, .bool false, .int .i64 dt, .int .i64 dn, .bool ds]] W fun e w' => e = .returned (.tuple #[LE.val (asksC ⟨o, la, ep, ck, tl, so⟩ ⟨4, dr, de, false, dt, dn, ds⟩).1, .int .i64 (asksC ⟨o, la, ep, ck, tl, so⟩ ⟨4, dr, de, false, dt, dn, ds⟩).2.1, .int .i64 (asksC ⟨o, la, ep, ck, tl, so⟩ ⟨4, dr, de, false, dt, dn, ds⟩).2.2]) ∧ Below W.heap.size W w' := by
  obtain ⟨⟨⟨g0, g1, g2, g3, g4, g5⟩, n, x⟩, hg⟩ : ∃ q, transC ⟨o, la, ep, ck, tl, so⟩ dr de dt = q := ⟨_, rfl⟩
  have HQ : Hid (asksC ⟨o, la, ep, ck, tl, so⟩ ⟨4, dr, de, false, dt, dn, ds⟩ = (⟨g0, g1, g2, g3, g4, g5⟩, n, x)) := hide (by simp [asksC, AK.epoch, hg])
  have HG := hide hg
  clear hg
  obtain ⟨V0, hV0⟩ : ∃ V0, V0 = W.alloc (.cells #[.int .i64 o, .int .i64 la, .int .i64 ep, .int .i64 ck, .int .i64 tl, .bool so] 23 (0, 0)) := ⟨_, rfl⟩
  obtain ⟨V1, hV1⟩ : ∃ V1, V1 = V0.alloc (.cells #[.int .i64 4, .int .i64 dr, .int .i64 de, .bool false, .int .i64 dt, .int .i64 dn, .bool ds] 27 (0, 0)) := ⟨_, rfl⟩
  obtain ⟨V, hV⟩ : ∃ V, V = V1.alloc (.cells #[.int .i64 0, .int .i64 0, .int .i64 0, .int .i64 0, .int .i64 0, .bool false] 23 (0, 0)) := ⟨_, rfl⟩
  have bV0 : Below W.heap.size W V0 := by rw [hV0]; exact alloc_below _ _
  have bV1 : Below V0.heap.size V0 V1 := by rw [hV1]; exact alloc_below _ _
  have bV2 : Below V1.heap.size V1 V := by rw [hV]; exact alloc_below _ _
  have v0 : V0.heap[W.heap.size]? = some (.cells #[.int .i64 o, .int .i64 la, .int .i64 ep, .int .i64 ck, .int .i64 tl, .bool so] 23 (0, 0)) := by rw [hV0]; exact heap_alloc_new W _
  have v1 : V1.heap[V0.heap.size]? = some (.cells #[.int .i64 4, .int .i64 dr, .int .i64 de, .bool false, .int .i64 dt, .int .i64 dn, .bool ds] 27 (0, 0)) := by rw [hV1]; exact heap_alloc_new V0 _
  have v2 : V.heap[V1.heap.size]? = some (.cells #[.int .i64 0, .int .i64 0, .int .i64 0, .int .i64 0, .int .i64 0, .bool false] 23 (0, 0)) := by rw [hV]; exact heap_alloc_new V1 _
  have v3 := below_box bV2 (below_box bV1 v0)
  have v4 := below_box bV2 v1
  have hs0 : V0.heap.size = W.heap.size + 1 := by rw [hV0]; simp
  have hs1 : V1.heap.size = W.heap.size + 1 + 1 := by rw [hV1]; simp [hs0]
  obtain ⟨bB, hbB⟩ : ∃ bB, W.heap.size = bB := ⟨_, rfl⟩
  obtain ⟨aB, haB⟩ : ∃ aB, V0.heap.size = aB := ⟨_, rfl⟩
  obtain ⟨rB, hrB⟩ : ∃ rB, V1.heap.size = rB := ⟨_, rfl⟩
  have hrb : bB + 1 = aB := by omega
  have hrc : aB + 1 = rB := by omega
  have hlt : bB < rB := by omega
  rw [hbB] at v3
  rw [haB] at v4
  rw [hrB] at v2
  have HBW0 : Hid (Below bB W V) := hide (by rw [← hbB]; exact below_next (below_next bV0 bV1 bV0.size) bV2 (Nat.le_trans bV0.size bV1.size))
  have HBX0 := hide v3
  have HAX0 := hide v4
  have HRS0 := hide v2
  have HBB := hide hbB
  have HLT := hide hlt
  have HSZ0 := hide (box_lt v2)
  clear v0 v1 v2 v3 v4 bV0 bV1 bV2 hlt
  go_enter Try.func8, Try.ntmps8
  go_upto_region 1 with fail
  rw [← hV0, ← hV1, ← hV]
  try rw [hbB]
  try rw [hrb]
  try rw [hrc]
  clear hV0 hV1 hV hbB haB hrB hs0 hs1 hrb hrc
  obtain ⟨_, _, _, _, _, _, u0, u1, u2, u3, u4, u5⟩ := six HBX0.out
  obtain ⟨a0, a1, a2, a3, a4, a5, a6⟩ := seven HAX0.out
  go_wp2_with fail
  refine (transfer_any).mono ?_
  rw [HG.out]
  simp only [LE.val, LE.row]
  rintro _ w1 ⟨rfl, b1⟩
  have HBX1 := hide (below_box b1 HBX0.out)
  have HRS1 := hide (below_box b1 HRS0.out)
  have HBW1 := hide (below_next HBW0.out b1 (by have := HLT.out; have := HSZ0.out; omega))
  have HSZ1 := hide (box_lt HRS1.out)
  clear b1 HBX0 HRS0 HBW0 HSZ0 u0 u1 u2 u3 u4 u5 a0 a1 a2 a3 a4 a5 a6
  obtain ⟨f0, f1, f2, f3, f4, f5, r0, r1, r2, r3, r4, r5⟩ := six HRS1.out
  go_wp2
  have hE := heap_set6 HRS1.out (.int .i64 g0) (.int .i64 g1) (.int .i64 g2) (.int .i64 g3) (.int .i64 g4) (.bool g5)
  refine bodyPost_ret (results_cell_three rfl _ _ rB 23 _ _ _ rfl hE Try.underlying23 rfl (by kernel_rfl)) rfl ?_
  refine ⟨by rw [HQ.out]; rfl, ?_⟩
  rw [HBB.out]
  exact HBW1.out.trans ((only_set6 _ rB _ _ _ _ _ _).below (by have := HLT.out; have := HSZ1.out; omega) (fun i e => by have e' : i = rB := e; have := HLT.out; omega))

set_option maxRecDepth 100000 in
set_option maxHeartbeats 2000000 in
theorem asks_alone_false {W : World} {o la ep ck tl : Int} {so : Bool} {dr de dt dn : Int} {ds : Bool}  :
    Calls Try.prog 8 #[.agg #[.int .i64 o, .int .i64 la, .int .i64 ep, .int .i64 ck, .int .i64 tl, .bool so], .agg #[.int .i64 5, .int .i64 dr, .int .i64 de, .bool false, .int .i64 dt, .int .i64 dn, .bool ds]] W fun e w' => e = .returned (.tuple #[LE.val (asksC ⟨o, la, ep, ck, tl, so⟩ ⟨5, dr, de, false, dt, dn, ds⟩).1, .int .i64 (asksC ⟨o, la, ep, ck, tl, so⟩ ⟨5, dr, de, false, dt, dn, ds⟩).2.1, .int .i64 (asksC ⟨o, la, ep, ck, tl, so⟩ ⟨5, dr, de, false, dt, dn, ds⟩).2.2]) ∧ Below W.heap.size W w' := by
  obtain ⟨⟨⟨g0, g1, g2, g3, g4, g5⟩, x⟩, hg⟩ : ∃ q, aloneC ⟨o, la, ep, ck, tl, so⟩ dr de ds = q := ⟨_, rfl⟩
  have HQ : Hid (asksC ⟨o, la, ep, ck, tl, so⟩ ⟨5, dr, de, false, dt, dn, ds⟩ = (⟨g0, g1, g2, g3, g4, g5⟩, 0, x)) := hide (by simp [asksC, AK.epoch, hg])
  have HG := hide hg
  clear hg
  obtain ⟨V0, hV0⟩ : ∃ V0, V0 = W.alloc (.cells #[.int .i64 o, .int .i64 la, .int .i64 ep, .int .i64 ck, .int .i64 tl, .bool so] 23 (0, 0)) := ⟨_, rfl⟩
  obtain ⟨V1, hV1⟩ : ∃ V1, V1 = V0.alloc (.cells #[.int .i64 5, .int .i64 dr, .int .i64 de, .bool false, .int .i64 dt, .int .i64 dn, .bool ds] 27 (0, 0)) := ⟨_, rfl⟩
  obtain ⟨V, hV⟩ : ∃ V, V = V1.alloc (.cells #[.int .i64 0, .int .i64 0, .int .i64 0, .int .i64 0, .int .i64 0, .bool false] 23 (0, 0)) := ⟨_, rfl⟩
  have bV0 : Below W.heap.size W V0 := by rw [hV0]; exact alloc_below _ _
  have bV1 : Below V0.heap.size V0 V1 := by rw [hV1]; exact alloc_below _ _
  have bV2 : Below V1.heap.size V1 V := by rw [hV]; exact alloc_below _ _
  have v0 : V0.heap[W.heap.size]? = some (.cells #[.int .i64 o, .int .i64 la, .int .i64 ep, .int .i64 ck, .int .i64 tl, .bool so] 23 (0, 0)) := by rw [hV0]; exact heap_alloc_new W _
  have v1 : V1.heap[V0.heap.size]? = some (.cells #[.int .i64 5, .int .i64 dr, .int .i64 de, .bool false, .int .i64 dt, .int .i64 dn, .bool ds] 27 (0, 0)) := by rw [hV1]; exact heap_alloc_new V0 _
  have v2 : V.heap[V1.heap.size]? = some (.cells #[.int .i64 0, .int .i64 0, .int .i64 0, .int .i64 0, .int .i64 0, .bool false] 23 (0, 0)) := by rw [hV]; exact heap_alloc_new V1 _
  have v3 := below_box bV2 (below_box bV1 v0)
  have v4 := below_box bV2 v1
  have hs0 : V0.heap.size = W.heap.size + 1 := by rw [hV0]; simp
  have hs1 : V1.heap.size = W.heap.size + 1 + 1 := by rw [hV1]; simp [hs0]
  obtain ⟨bB, hbB⟩ : ∃ bB, W.heap.size = bB := ⟨_, rfl⟩
  obtain ⟨aB, haB⟩ : ∃ aB, V0.heap.size = aB := ⟨_, rfl⟩
  obtain ⟨rB, hrB⟩ : ∃ rB, V1.heap.size = rB := ⟨_, rfl⟩
  have hrb : bB + 1 = aB := by omega
  have hrc : aB + 1 = rB := by omega
  have hlt : bB < rB := by omega
  rw [hbB] at v3
  rw [haB] at v4
  rw [hrB] at v2
  have HBW0 : Hid (Below bB W V) := hide (by rw [← hbB]; exact below_next (below_next bV0 bV1 bV0.size) bV2 (Nat.le_trans bV0.size bV1.size))
  have HBX0 := hide v3
  have HAX0 := hide v4
  have HRS0 := hide v2
  have HBB := hide hbB
  have HLT := hide hlt
  have HSZ0 := hide (box_lt v2)
  clear v0 v1 v2 v3 v4 bV0 bV1 bV2 hlt
  go_enter Try.func8, Try.ntmps8
  go_upto_region 1 with fail
  rw [← hV0, ← hV1, ← hV]
  try rw [hbB]
  try rw [hrb]
  try rw [hrc]
  clear hV0 hV1 hV hbB haB hrB hs0 hs1 hrb hrc
  obtain ⟨_, _, _, _, _, _, u0, u1, u2, u3, u4, u5⟩ := six HBX0.out
  obtain ⟨a0, a1, a2, a3, a4, a5, a6⟩ := seven HAX0.out
  go_wp2_with fail
  refine (alone_any).mono ?_
  rw [HG.out]
  simp only [LE.val, LE.row]
  rintro _ w1 ⟨rfl, b1⟩
  have HBX1 := hide (below_box b1 HBX0.out)
  have HRS1 := hide (below_box b1 HRS0.out)
  have HBW1 := hide (below_next HBW0.out b1 (by have := HLT.out; have := HSZ0.out; omega))
  have HSZ1 := hide (box_lt HRS1.out)
  clear b1 HBX0 HRS0 HBW0 HSZ0 u0 u1 u2 u3 u4 u5 a0 a1 a2 a3 a4 a5 a6
  go_upto_region 17 with fail
  obtain ⟨X, hX⟩ : ∃ X, X = w1.alloc (.cells #[.int .i64 g0, .int .i64 g1, .int .i64 g2, .int .i64 g3, .int .i64 g4, .bool g5] 23 (0, 0)) := ⟨_, rfl⟩
  rw [← hX]
  have bX : Below w1.heap.size w1 X := by rw [hX]; exact alloc_below _ _
  obtain ⟨tB, htB⟩ : ∃ tB, w1.heap.size = tB := ⟨_, rfl⟩
  have hn1 : X.heap[tB]? = some (.cells #[.int .i64 g0, .int .i64 g1, .int .i64 g2, .int .i64 g3, .int .i64 g4, .bool g5] 23 (0, 0)) := by rw [hX, ← htB]; exact heap_alloc_new w1 _
  have HRS2 := hide (below_box bX HRS1.out)
  have HBW2 := hide (below_next HBW1.out bX (by have := HLT.out; have := HSZ1.out; omega))
  have HSZ2 := hide (box_lt HRS2.out)
  try rw [htB]
  obtain ⟨_, _, _, _, _, _, v0, v1, v2, v3, v4, v5⟩ := six hn1
  clear hX bX hn1 htB
  obtain ⟨f0, f1, f2, f3, f4, f5, r0, r1, r2, r3, r4, r5⟩ := six HRS2.out
  go_wp2
  have hE := heap_set6 HRS2.out (.int .i64 g0) (.int .i64 g1) (.int .i64 g2) (.int .i64 g3) (.int .i64 g4) (.bool g5)
  refine bodyPost_ret (results_cell_three rfl _ _ rB 23 _ _ _ rfl hE Try.underlying23 rfl (by kernel_rfl)) rfl ?_
  refine ⟨by rw [HQ.out]; rfl, ?_⟩
  rw [HBB.out]
  exact HBW2.out.trans ((only_set6 _ rB _ _ _ _ _ _).below (by have := HLT.out; have := HSZ2.out; omega) (fun i e => by have e' : i = rB := e; have := HLT.out; omega))

set_option maxRecDepth 100000 in
set_option maxHeartbeats 2000000 in
theorem asks_tick_false {W : World} {o la ep ck tl : Int} {so : Bool} {dd dr de dt dn : Int} {ds : Bool} (h1 : dd ≠ 1) (h2 : dd ≠ 2) (h3 : dd ≠ 3) (h4 : dd ≠ 4) (h5 : dd ≠ 5) :
    Calls Try.prog 8 #[.agg #[.int .i64 o, .int .i64 la, .int .i64 ep, .int .i64 ck, .int .i64 tl, .bool so], .agg #[.int .i64 dd, .int .i64 dr, .int .i64 de, .bool false, .int .i64 dt, .int .i64 dn, .bool ds]] W fun e w' => e = .returned (.tuple #[LE.val (asksC ⟨o, la, ep, ck, tl, so⟩ ⟨dd, dr, de, false, dt, dn, ds⟩).1, .int .i64 (asksC ⟨o, la, ep, ck, tl, so⟩ ⟨dd, dr, de, false, dt, dn, ds⟩).2.1, .int .i64 (asksC ⟨o, la, ep, ck, tl, so⟩ ⟨dd, dr, de, false, dt, dn, ds⟩).2.2]) ∧ Below W.heap.size W w' := by
  obtain ⟨⟨g0, g1, g2, g3, g4, g5⟩, hg⟩ : ∃ q, tickC ⟨o, la, ep, ck, tl, so⟩ dn = q := ⟨_, rfl⟩
  have HQ : Hid (asksC ⟨o, la, ep, ck, tl, so⟩ ⟨dd, dr, de, false, dt, dn, ds⟩ = (⟨g0, g1, g2, g3, g4, g5⟩, 0, 0)) := hide (by simp [asksC, hg, h1, h2, h3, h4, h5])
  have HG := hide hg
  clear hg
  have d1 : (dd == 1) = false := ne_eqL h1
  have d2 : (dd == 2) = false := ne_eqL h2
  have d3 : (dd == 3) = false := ne_eqL h3
  have d4 : (dd == 4) = false := ne_eqL h4
  have d5 : (dd == 5) = false := ne_eqL h5
  clear h1 h2 h3 h4 h5
  obtain ⟨V0, hV0⟩ : ∃ V0, V0 = W.alloc (.cells #[.int .i64 o, .int .i64 la, .int .i64 ep, .int .i64 ck, .int .i64 tl, .bool so] 23 (0, 0)) := ⟨_, rfl⟩
  obtain ⟨V1, hV1⟩ : ∃ V1, V1 = V0.alloc (.cells #[.int .i64 dd, .int .i64 dr, .int .i64 de, .bool false, .int .i64 dt, .int .i64 dn, .bool ds] 27 (0, 0)) := ⟨_, rfl⟩
  obtain ⟨V, hV⟩ : ∃ V, V = V1.alloc (.cells #[.int .i64 0, .int .i64 0, .int .i64 0, .int .i64 0, .int .i64 0, .bool false] 23 (0, 0)) := ⟨_, rfl⟩
  have bV0 : Below W.heap.size W V0 := by rw [hV0]; exact alloc_below _ _
  have bV1 : Below V0.heap.size V0 V1 := by rw [hV1]; exact alloc_below _ _
  have bV2 : Below V1.heap.size V1 V := by rw [hV]; exact alloc_below _ _
  have v0 : V0.heap[W.heap.size]? = some (.cells #[.int .i64 o, .int .i64 la, .int .i64 ep, .int .i64 ck, .int .i64 tl, .bool so] 23 (0, 0)) := by rw [hV0]; exact heap_alloc_new W _
  have v1 : V1.heap[V0.heap.size]? = some (.cells #[.int .i64 dd, .int .i64 dr, .int .i64 de, .bool false, .int .i64 dt, .int .i64 dn, .bool ds] 27 (0, 0)) := by rw [hV1]; exact heap_alloc_new V0 _
  have v2 : V.heap[V1.heap.size]? = some (.cells #[.int .i64 0, .int .i64 0, .int .i64 0, .int .i64 0, .int .i64 0, .bool false] 23 (0, 0)) := by rw [hV]; exact heap_alloc_new V1 _
  have v3 := below_box bV2 (below_box bV1 v0)
  have v4 := below_box bV2 v1
  have hs0 : V0.heap.size = W.heap.size + 1 := by rw [hV0]; simp
  have hs1 : V1.heap.size = W.heap.size + 1 + 1 := by rw [hV1]; simp [hs0]
  obtain ⟨bB, hbB⟩ : ∃ bB, W.heap.size = bB := ⟨_, rfl⟩
  obtain ⟨aB, haB⟩ : ∃ aB, V0.heap.size = aB := ⟨_, rfl⟩
  obtain ⟨rB, hrB⟩ : ∃ rB, V1.heap.size = rB := ⟨_, rfl⟩
  have hrb : bB + 1 = aB := by omega
  have hrc : aB + 1 = rB := by omega
  have hlt : bB < rB := by omega
  rw [hbB] at v3
  rw [haB] at v4
  rw [hrB] at v2
  have HBW0 : Hid (Below bB W V) := hide (by rw [← hbB]; exact below_next (below_next bV0 bV1 bV0.size) bV2 (Nat.le_trans bV0.size bV1.size))
  have HBX0 := hide v3
  have HAX0 := hide v4
  have HRS0 := hide v2
  have HBB := hide hbB
  have HLT := hide hlt
  have HSZ0 := hide (box_lt v2)
  clear v0 v1 v2 v3 v4 bV0 bV1 bV2 hlt
  go_enter Try.func8, Try.ntmps8
  go_upto_region 1 with fail
  rw [← hV0, ← hV1, ← hV]
  try rw [hbB]
  try rw [hrb]
  try rw [hrc]
  clear hV0 hV1 hV hbB haB hrB hs0 hs1 hrb hrc
  obtain ⟨_, _, _, _, _, _, u0, u1, u2, u3, u4, u5⟩ := six HBX0.out
  obtain ⟨a0, a1, a2, a3, a4, a5, a6⟩ := seven HAX0.out
  go_wp2_with fail
  refine (tick_any).mono ?_
  rw [HG.out]
  simp only [LE.val, LE.row]
  rintro _ w1 ⟨rfl, b1⟩
  have HBX1 := hide (below_box b1 HBX0.out)
  have HRS1 := hide (below_box b1 HRS0.out)
  have HBW1 := hide (below_next HBW0.out b1 (by have := HLT.out; have := HSZ0.out; omega))
  have HSZ1 := hide (box_lt HRS1.out)
  clear b1 HBX0 HRS0 HBW0 HSZ0 u0 u1 u2 u3 u4 u5 a0 a1 a2 a3 a4 a5 a6
  obtain ⟨f0, f1, f2, f3, f4, f5, r0, r1, r2, r3, r4, r5⟩ := six HRS1.out
  go_wp2
  have hE := heap_set6 HRS1.out (.int .i64 g0) (.int .i64 g1) (.int .i64 g2) (.int .i64 g3) (.int .i64 g4) (.bool g5)
  refine bodyPost_ret (results_cell_three rfl _ _ rB 23 _ _ _ rfl hE Try.underlying23 rfl (by kernel_rfl)) rfl ?_
  refine ⟨by rw [HQ.out]; rfl, ?_⟩
  rw [HBB.out]
  exact HBW1.out.trans ((only_set6 _ rB _ _ _ _ _ _).below (by have := HLT.out; have := HSZ1.out; omega) (fun i e => by have e' : i = rB := e; have := HLT.out; omega))

theorem asks_any {W : World} {o la ep ck tl : Int} {so : Bool} {dd dr de dt dn : Int} {dw ds : Bool} : Calls Try.prog 8 #[.agg #[.int .i64 o, .int .i64 la, .int .i64 ep, .int .i64 ck, .int .i64 tl, .bool so], .agg #[.int .i64 dd, .int .i64 dr, .int .i64 de, .bool dw, .int .i64 dt, .int .i64 dn, .bool ds]] W fun e w' => e = .returned (.tuple #[LE.val (asksC ⟨o, la, ep, ck, tl, so⟩ ⟨dd, dr, de, dw, dt, dn, ds⟩).1, .int .i64 (asksC ⟨o, la, ep, ck, tl, so⟩ ⟨dd, dr, de, dw, dt, dn, ds⟩).2.1, .int .i64 (asksC ⟨o, la, ep, ck, tl, so⟩ ⟨dd, dr, de, dw, dt, dn, ds⟩).2.2]) ∧ Below W.heap.size W w' := by
  by_cases h1 : dd = 1
  · subst h1; cases dw with | true => exact asks_acquire_true | false => exact asks_acquire_false
  · by_cases h2 : dd = 2
    · subst h2; cases dw with | true => exact asks_renew_true | false => exact asks_renew_false
    · by_cases h3 : dd = 3
      · subst h3; cases dw with | true => exact asks_release_true | false => exact asks_release_false
      · by_cases h4 : dd = 4
        · subst h4; cases dw with | true => exact asks_transfer_true | false => exact asks_transfer_false
        · by_cases h5 : dd = 5
          · subst h5; cases dw with | true => exact asks_alone_true | false => exact asks_alone_false
          · cases dw with | true => exact asks_tick_true h1 h2 h3 h4 h5 | false => exact asks_tick_false h1 h2 h3 h4 h5
end Go.Proofs.Ythlkhjpobiohmaa
