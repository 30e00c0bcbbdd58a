/-
  live of package oper's laws. Nothing is asked.
-/
import Derived.Test.YtcabfohmimglpaaOsp
import Derived.Test.YtcabfohmimglpaaOap
namespace Go.Proofs.Ytcabfohmimglpaa
open Go.RowKit

def rs3 : List RC := [⟨1, 5⟩, ⟨2, 9⟩, ⟨1, 6⟩]
theorem keys3 : keysC (rs3.map RC.key) = [1, 2] :=
  rise_ext (keysC_facts _).1 (by simp) (fun x => by
    rw [(keysC_facts _).2]
    simp [rs3]
    omega)
theorem fin3 : finC (stateC 6 1 2 ST.none rs3) (keysC (rs3.map RC.key)) = [⟨2, 1, 9⟩] := by
  rw [keys3]
  rfl
theorem outs3 : outsC 6 1 2 ST.none rs3 = [⟨0, 1, 11⟩] := by
  simp [outsC, rs3, outC, tellC, stepC, staysC, countC, accC, ST.none, wrap64]

set_option maxRecDepth 100000 in
set_option maxHeartbeats 8000000 in
theorem live_any {W : World} : Calls Try.prog 4 #[] W fun e w' => e = .returned (.bool true) ∧ Below W.heap.size W w' := by
  obtain ⟨sB, hsB⟩ : ∃ sB, W.heap.size = sB := ⟨_, rfl⟩
  obtain ⟨V1, hV1⟩ : ∃ V, V = W.alloc (.cells #[.int .i64 0, .int .i64 0] 37 (0, 0)) := ⟨_, rfl⟩
  obtain ⟨V2, hV2⟩ : ∃ V, V = V1.alloc (.cells #[.int .i64 6, .int .i64 0, .int .i64 1, .int .i64 2, .slice (some ⟨sB, 0, none⟩) 1 1] 24 (0, 0)) := ⟨_, rfl⟩
  obtain ⟨V, hV⟩ : ∃ V, V = V2.alloc (.cells #[.int .i64 1, .int .i64 5, .int .i64 2, .int .i64 9, .int .i64 1, .int .i64 6] 39 (0, 0)) := ⟨_, rfl⟩
  have s1 : V1.heap.size = W.heap.size + 1 := by rw [hV1]; simp
  have s2 : V2.heap.size = W.heap.size + 1 + 1 := by rw [hV2]; simp [s1]
  have a1 : Below W.heap.size W V1 := by rw [hV1]; exact alloc_below _ _
  have a2 : Below V1.heap.size V1 V2 := by rw [hV2]; exact alloc_below _ _
  have a3 : Below V2.heap.size V2 V := by rw [hV]; exact alloc_below _ _
  have bV : Below W.heap.size W V := (a1.trans (a2.mono a1.size)).trans (a3.mono (Nat.le_trans a1.size a2.size))
  have u : V.heap[sB + 1 + 1]? = some (.cells #[.int .i64 1, .int .i64 5, .int .i64 2, .int .i64 9, .int .i64 1, .int .i64 6] 39 (0, 0)) := by rw [hV, ← hsB, ← s2]; exact heap_alloc_new V2 _
  have eV : V = ((W.alloc (.cells #[.int .i64 0, .int .i64 0] 37 (0, 0))).alloc (.cells #[.int .i64 6, .int .i64 0, .int .i64 1, .int .i64 2, .slice (some ⟨sB, 0, none⟩) 1 1] 24 (0, 0))).alloc (.cells #[.int .i64 1, .int .i64 5, .int .i64 2, .int .i64 9, .int .i64 1, .int .i64 6] 39 (0, 0)) := by rw [hV, hV2, hV1]
  have hR : RRow V (some ⟨sB + 1 + 1, 0, none⟩) 3 rs3 := ⟨by decide, by decide, fun i hi => ⟨sB + 1 + 1, 0, rfl, fun j hj => by
    have hi3 : i < 3 := hi
    have : i = 0 ∨ i = 1 ∨ i = 2 := by omega
    have : j = 0 ∨ j = 1 := by omega
    rcases ‹i = 0 ∨ i = 1 ∨ i = 2› with rfl | rfl | rfl <;> rcases ‹j = 0 ∨ j = 1› with rfl | rfl <;> simp [World.cell?, u] <;> rfl⟩⟩
  have HC := hide (all_keeps (kd := 6) (pt := 0) (fn := 1) (ar := 2) (tn := 0) (ip := some ⟨sB, 0, none⟩) (n := 1) (ic := 1) (m := 3) rfl hR rfl (by decide) (fun r hr => by
    have : r = ⟨1, 5⟩ ∨ r = ⟨2, 9⟩ ∨ r = ⟨1, 6⟩ := by simpa [rs3] using hr
    rcases this with rfl | rfl | rfl <;> exact ⟨by decide, by decide⟩))
  rw [fin3, outs3] at HC
  have HBV := hide bV
  clear hV hV1 hV2 s1 s2 a1 a2 a3 bV u hR V1 V2
  go_enter Try.func4, Try.ntmps4
  go_wp2_with fail
  try rw [hsB]
  rw [← eV]
  clear eV hsB
  refine HC.out.mono ?_
  rintro _ w1 ⟨pk, ck, K, po, co, N, rfl, h1, h2, o1, o2, b1⟩
  obtain rfl : 1 = K := h1
  obtain rfl : 1 = N := h2
  have ab := alloc_below w1 (.cells #[.slice pk 1 ck, .int .i64 0] 29 (0, 0))
  obtain ⟨Y, hY⟩ : ∃ Y, Y = w1.alloc (.cells #[.slice pk 1 ck, .int .i64 0] 29 (0, 0)) := ⟨_, rfl⟩
  have uY : Y.heap[w1.heap.size]? = some (.cells #[.slice pk 1 ck, .int .i64 0] 29 (0, 0)) := by rw [hY]; exact heap_alloc_new _ _
  rw [← hY] at ab
  obtain ⟨g, rfl, c0, c1, c2⟩ := pu_cells (k := 0) (ownsRow_later o2 ab) rfl (by decide) rfl
  obtain ⟨g', rfl, d0, d1, d2⟩ := ks_cells (k := 0) (ownsRow_later o1 ab) rfl (by decide) rfl
  obtain ⟨_, _, ef, i1, i2⟩ := own_form o1
  simp only [Value.slice.injEq, true_and] at ef
  obtain ⟨rfl, rfl⟩ := ef
  obtain ⟨_, _, ef, i3, i4⟩ := own_form o2
  simp only [Value.slice.injEq, true_and] at ef
  obtain ⟨rfl, rfl⟩ := ef
  have HBF : Hid (Below W.heap.size W Y) := hide ((HBV.out.trans (b1.mono HBV.out.size)).trans (ab.mono (Nat.le_trans HBV.out.size b1.size)))
  obtain ⟨yb, hyb⟩ : ∃ yb, w1.heap.size = yb := ⟨_, rfl⟩
  rw [hyb] at uY
  have e0 : Y.cell? ⟨yb, 0, none⟩ = some (.slice (some ⟨g', 0, none⟩) 1 ck) := by simp [World.cell?, uY]
  have e1 : Y.cell? ⟨yb, 1, none⟩ = some (.int .i64 0) := by simp [World.cell?, uY]
  simp only [Nat.zero_mul, Nat.zero_add] at c0 c1 c2 d0 d1 d2
  clear uY ab o1 o2 b1 HC HBV
  go_upto_region 3 with fail
  rw [← hY]
  try rw [hyb]
  clear hY hyb
  go_wp2
  go_ret
  exact ⟨rfl, HBF.out⟩
end Go.Proofs.Ytcabfohmimglpaa
