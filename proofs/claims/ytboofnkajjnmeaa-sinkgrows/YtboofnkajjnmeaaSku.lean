/-
  How Open of the program's sink compares two names: the closure.
-/
import Derived.Shelf.SlSortCmp.WholeK
import Derived.Shelf.SlSortCmp.NoneTotal
import Derived.Test.YtboofnkajjnmeaaSkt
namespace Go.Proofs.Ytboofnkajjnmeaa
open Go.RowKit Go.Shelf Go.Sort Go.Lib

/-- By epoch, then by Id. -/
def nmCmp (x y : Int × Int) : Int := orC (cmpC x.1 y.1) (cmpC x.2 y.2)
set_option maxRecDepth 100000 in
set_option maxHeartbeats 2000000 in
theorem openF_any {W : World} {x y : Int × Int} :
    Calls Try.prog 64 #[.agg (nmC x).toArray, .agg (nmC y).toArray] W fun e w' => e = .returned (.int .i64 (nmCmp x y)) ∧ ∃ q os', w' = grow (W.drewN q) os' := by
  obtain ⟨a, b⟩ := x
  obtain ⟨c, d⟩ := y
  unfold nmC nmCmp
  simp only
  obtain ⟨V, hV⟩ : ∃ V, V = W.alloc (.cells #[.int .i64 a, .int .i64 b] 55 (0, 0)) := ⟨_, rfl⟩
  have HA : Hid (V.heap[W.heap.size]? = some (.cells #[.int .i64 a, .int .i64 b] 55 (0, 0))) := hide (by rw [hV]; exact heap_alloc_new W _)
  have HBA : Hid (Below W.heap.size W V) := hide (by rw [hV]; exact alloc_below _ _)
  obtain ⟨bA, hbA⟩ : ∃ bA, W.heap.size = bA := ⟨_, rfl⟩
  rw [hbA] at HA HBA
  have HZbA := hide hbA
  obtain ⟨Z, hZ⟩ : ∃ Z, Z = V.alloc (.cells #[.int .i64 c, .int .i64 d] 55 (0, 0)) := ⟨_, rfl⟩
  have HB : Hid (Z.heap[V.heap.size]? = some (.cells #[.int .i64 c, .int .i64 d] 55 (0, 0))) := hide (by rw [hZ]; exact heap_alloc_new V _)
  have HBB : Hid (Below V.heap.size V Z) := hide (by rw [hZ]; exact alloc_below _ _)
  obtain ⟨bB, hbB⟩ : ∃ bB, V.heap.size = bB := ⟨_, rfl⟩
  rw [hbB] at HB HBB
  have HZbB := hide hbB
  have hbb : bB = bA + 1 := by rw [← hbB, hV]; simp; exact HZbA.out
  rw [hbb] at HB HBB HZbB hbB
  have HG : Hid (Z = grow W #[.cells #[.int .i64 a, .int .i64 b] 55 (0, 0), .cells #[.int .i64 c, .int .i64 d] 55 (0, 0)]) := hide (by rw [hZ, hV, alloc_eq_grow, alloc_eq_grow, grow_grow]; rfl)
  have HA2 := hide (below_box (by rw [hZ]; exact alloc_below _ _) HA.out : Z.heap[bA]? = _)
  go_enter Try.func64, Try.ntmps64
  go_upto_region 1 with fail
  rw [← hV]
  try rw [hbA]
  rw [← hZ]
  try rw [hbB]
  clear hV hbA hZ hbB hbb
  have u0 := cellB HA2.out (i := 0) rfl
  have u1 := cellB HA2.out (i := 1) rfl
  have v0 := cellB HB.out (i := 0) rfl
  have v1 := cellB HB.out (i := 1) rfl
  refine wp_region_held_drew (S := fun w9 => Below Z.heap.size Z w9) (by kernel_rfl) (Below.refl _ Z).drew (fun hHeld => ?_)
  refine wpAnyH_take (i := 0) (oi := _) (v := ?_) rfl (by kernel_rfl) (by kernel_rfl) (by kernel_rfl) (fun _ _ _ h => h) (Or.inl ⟨by kernel_rfl, ?_⟩) (by assumption) ?_
  rotate_left
  · intro w hSw
    have l0 := cell_later hSw u0
    have l1 := cell_later hSw u1
    have m0 := cell_later hSw v0
    have m1 := cell_later hSw v1
    go_simp
    all_goals with_reducible rfl
  simp only [Act.put]
  refine wpAnyH_take (i := 1) (oi := _) (v := ?_) rfl (by kernel_rfl) (by kernel_rfl) (by kernel_rfl) (fun _ _ _ h => h) (Or.inl ⟨by kernel_rfl, ?_⟩) (by assumption) ?_
  rotate_left
  · intro w hSw
    have l0 := cell_later hSw u0
    have l1 := cell_later hSw u1
    have m0 := cell_later hSw v0
    have m1 := cell_later hSw v1
    go_simp
    all_goals with_reducible rfl
  simp only [Act.put]
  refine wpAnyH_take (i := 2) (oi := _) (v := ?_) rfl (by kernel_rfl) (by kernel_rfl) (by kernel_rfl) (fun _ _ _ h => h) (Or.inl ⟨by kernel_rfl, ?_⟩) (by assumption) ?_
  rotate_left
  · intro w hSw
    have l0 := cell_later hSw u0
    have l1 := cell_later hSw u1
    have m0 := cell_later hSw v0
    have m1 := cell_later hSw v1
    go_simp
    all_goals with_reducible rfl
  simp only [Act.put]
  refine wpAnyH_take (i := 3) (oi := _) (v := ?_) rfl (by kernel_rfl) (by kernel_rfl) (by kernel_rfl) (fun _ _ _ h => h) (Or.inl ⟨by kernel_rfl, ?_⟩) (by assumption) ?_
  rotate_left
  · intro w hSw
    have l0 := cell_later hSw u0
    have l1 := cell_later hSw u1
    have m0 := cell_later hSw v0
    have m1 := cell_later hSw v1
    go_simp
    all_goals with_reducible rfl
  simp only [Act.put]
  refine wpAnyH_take (i := 5) (oi := _) (v := ?_) rfl (by kernel_rfl) (by kernel_rfl) (by kernel_rfl) (fun _ _ _ h => h) (Or.inl ⟨by kernel_rfl, ?_⟩) (by assumption) ?_
  rotate_left
  · intro w hSw
    have l0 := cell_later hSw u0
    have l1 := cell_later hSw u1
    have m0 := cell_later hSw v0
    have m1 := cell_later hSw v1
    go_simp
    all_goals with_reducible rfl
  simp only [Act.put]
  refine wpAnyH_take (i := 6) (oi := _) (v := ?_) rfl (by kernel_rfl) (by kernel_rfl) (by kernel_rfl) (fun _ _ _ h => h) (Or.inl ⟨by kernel_rfl, ?_⟩) (by assumption) ?_
  rotate_left
  · intro w hSw
    have l0 := cell_later hSw u0
    have l1 := cell_later hSw u1
    have m0 := cell_later hSw v0
    have m1 := cell_later hSw v1
    go_simp
    all_goals with_reducible rfl
  simp only [Act.put]
  refine wpAnyH_take (i := 7) (oi := _) (v := ?_) rfl (by kernel_rfl) (by kernel_rfl) (by kernel_rfl) (fun _ _ _ h => h) (Or.inl ⟨by kernel_rfl, ?_⟩) (by assumption) ?_
  rotate_left
  · intro w hSw
    have l0 := cell_later hSw u0
    have l1 := cell_later hSw u1
    have m0 := cell_later hSw v0
    have m1 := cell_later hSw v1
    go_simp
    all_goals with_reducible rfl
  simp only [Act.put]
  refine wpAnyH_take (i := 8) (oi := _) (v := ?_) rfl (by kernel_rfl) (by kernel_rfl) (by kernel_rfl) (fun _ _ _ h => h) (Or.inl ⟨by kernel_rfl, ?_⟩) (by assumption) ?_
  rotate_left
  · intro w hSw
    have l0 := cell_later hSw u0
    have l1 := cell_later hSw u1
    have m0 := cell_later hSw v0
    have m1 := cell_later hSw v1
    go_simp
    all_goals with_reducible rfl
  simp only [Act.put]
  refine wpAnyH_ready (rs := [4]) (by kernel_rfl) (by simp) ?_
  refine AllReadyH.cons (o := _) rfl (fun K hK => ?_) AllReadyH.nil
  go_simp
  refine cmp_any.mono ?_
  rintro _ _ ⟨rfl, rfl⟩
  go_wp2_with fail
  refine hK.out _ _ ((Below.refl _ Z).drew) (fun hHeld => ?_)
  clear hK
  refine wpAnyH_ready (rs := [9]) (by kernel_rfl) (by simp) ?_
  refine AllReadyH.cons (o := _) rfl (fun K hK => ?_) AllReadyH.nil
  go_simp
  refine cmp_any.mono ?_
  rintro _ _ ⟨rfl, rfl⟩
  go_wp2_with fail
  refine hK.out _ _ ((Below.refl _ Z).drew) (fun hHeld => ?_)
  clear hK
  refine wpAnyH_ready (rs := [10]) (by kernel_rfl) (by simp) ?_
  refine AllReadyH.cons (o := _) rfl (fun K hK => ?_) AllReadyH.nil
  go_simp
  refine hK.out _ _ ((alloc_below Z _).drew) (fun hHeld => ?_)
  clear hK
  refine wpAnyH_ready (rs := [11]) (by kernel_rfl) (by simp) ?_
  refine AllReadyH.cons (o := _) rfl (fun K hK => ?_) AllReadyH.nil
  go_simp
  refine (or_any (W := (Z.alloc (.cells #[.int .i64 (cmpC a c), .int .i64 (cmpC b d)] 3 (0, 0))).drew) (cellB (i := 0) (show (Z.alloc (.cells #[.int .i64 (cmpC a c), .int .i64 (cmpC b d)] 3 (0, 0))).heap[Z.heap.size]? = _ from heap_alloc_new Z _) rfl) (cellB (i := 1) (show (Z.alloc (.cells #[.int .i64 (cmpC a c), .int .i64 (cmpC b d)] 3 (0, 0))).heap[Z.heap.size]? = _ from heap_alloc_new Z _) rfl)).mono ?_
  rintro _ _ ⟨rfl, rfl⟩
  go_wp2_with fail
  refine hK.out _ _ ((alloc_below Z _).drew) (fun hHeld => ?_)
  clear hK
  refine wpAnyH_ready (rs := [12]) (by kernel_rfl) (by simp) ?_
  refine AllReadyH.cons (o := _) rfl (fun K hK => ?_) AllReadyH.nil
  go_simp
  refine hK.out _ _ ((alloc_below Z _).drew) (fun hHeld => ?_)
  clear hK
  refine wpAnyH_done (by kernel_rfl) ?_ _
  go_wp2
  go_ret
  exact ⟨rfl, 1, _, by rw [HG.out, alloc_eq_grow, grow_grow]; rfl⟩
end Go.Proofs.Ytboofnkajjnmeaa
