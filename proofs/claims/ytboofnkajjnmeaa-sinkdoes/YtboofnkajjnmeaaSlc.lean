/-
  The name in an operation of the laws. No conditions.
-/
import Derived.Test.YtboofnkajjnmeaaSlb
namespace Go.Proofs.Ytboofnkajjnmeaa
open Go.RowKit Go.Maps Go.Shelf

set_option maxRecDepth 100000 in
set_option maxHeartbeats 1000000 in
theorem key_any {W : World} {dd ep id bg : Int} {rp vp : Option Addr} {rn rc vn vc : Nat} :
    Calls Try.prog 22 #[.agg #[.int .i64 dd, .int .i64 ep, .int .i64 id, .int .i64 bg, .slice rp rn rc, .slice vp vn vc]] W fun e w' => e = .returned (.agg #[.int .i64 ep, .int .i64 id]) ∧ Below W.heap.size W w' := by
  obtain ⟨X, hX⟩ : ∃ X, X = (W.alloc (.cells #[.int .i64 dd, .int .i64 ep, .int .i64 id, .int .i64 bg, .slice rp rn rc, .slice vp vn vc] 36 (0, 0))).alloc (.cells #[.int .i64 0, .int .i64 0] 55 (0, 0)) := ⟨_, rfl⟩
  have HB : Hid (Below W.heap.size W X) := hide (by rw [hX]; exact (alloc_below _ _).trans ((alloc_below _ _).mono (by simp)))
  have H1 : Hid (X.heap[W.heap.size]? = some (.cells #[.int .i64 dd, .int .i64 ep, .int .i64 id, .int .i64 bg, .slice rp rn rc, .slice vp vn vc] 36 (0, 0))) := hide (by rw [hX]; exact below_box (alloc_below _ _) (heap_alloc_new W _))
  have H2 : Hid (X.heap[W.heap.size + 1]? = some (.cells #[.int .i64 0, .int .i64 0] 55 (0, 0))) := hide (by rw [hX]; have := heap_alloc_new (W.alloc (.cells #[.int .i64 dd, .int .i64 ep, .int .i64 id, .int .i64 bg, .slice rp rn rc, .slice vp vn vc] 36 (0, 0))) (.cells #[.int .i64 0, .int .i64 0] 55 (0, 0)); rwa [World.size_alloc] at this)
  obtain ⟨oB, hoB⟩ : ∃ oB, W.heap.size = oB := ⟨_, rfl⟩
  have HK : Hid (W.heap.size ≤ oB + 1) := hide (by omega)
  rw [hoB] at H1 H2
  go_enter Try.func22, Try.ntmps22
  go_upto_region 1 with fail
  rw [← hX]
  try rw [hoB]
  clear hX hoB
  have y1 := cellB H1.out (i := 1) rfl
  have y2 := cellB H1.out (i := 2) rfl
  have z0 := frB H2.out (i := 0)
  have z1 := frB H2.out (i := 1)
  have x0 := cellB H2.out (i := 0) rfl
  have x1 := cellB H2.out (i := 1) rfl
  go_wp2
  have hE := two_own H2.out (.int .i64 ep) (.int .i64 id)
  have hO : Only (· = oB + 1) X ((X.setCell ⟨oB + 1, 0, none⟩ (.int .i64 ep)).setCell ⟨oB + 1, 1, none⟩ (.int .i64 id)) := (Only.set (F := (· = oB + 1)) X (oB + 1) 0 _ rfl).trans (Only.set (F := (· = oB + 1)) _ (oB + 1) 1 _ rfl)
  refine bodyPost_ret (results_cell_one rfl _ _ (oB + 1) 55 _ _ _ rfl hE Try.underlying55 rfl (by kernel_rfl)) rfl ?_
  exact ⟨rfl, HB.out.trans (hO.below HB.out.size (fun i e => by have e' : i = oB + 1 := e; have := HK.out; omega))⟩
end Go.Proofs.Ytboofnkajjnmeaa
