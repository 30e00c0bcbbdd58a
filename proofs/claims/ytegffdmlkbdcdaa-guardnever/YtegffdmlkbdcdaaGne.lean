/-
  A letter comes to a region: refused, or granted. The condition: that the play lies there.
-/
import Derived.Test.YtegffdmlkbdcdaaGnd
import Derived.Deep.CutRange
import Derived.Deep.CutBlock
namespace Go.Proofs.Ytegffdmlkbdcdaa
open Go.ChangeShapes Go.WideShapes Go.ChangeAt Go.RowKit

set_option maxRecDepth 100000 in
set_option maxHeartbeats 8000000 in
theorem com_rfs0 {W : World} {B pB mA mB n cap : Nat} {sp : Option Addr} {W0 : World} {c0 c1 c2 c3 c4 c5 d0 d1 d2 d3 d4 d5 a0 b0 a1 b1 l0 l1 l2 l3 l4 ck : Int} {h0 h1 so : Bool} {f0 f1 : Int → Int × Int} {bag : List LT} {xs xe : Int} (hP : PRep B W0 pB mA mB n ⟨⟨⟨c0, c1, c2, c3, c4, c5⟩, a0, b0, h0, f0⟩, ⟨⟨d0, d1, d2, d3, d4, d5⟩, a1, b1, h1, f1⟩, ⟨l0, l1, l2, l3, l4, so⟩, bag, ck⟩ sp cap W)  :
    Calls Try.prog 39 #[.pointer (some ⟨pB, 0, none⟩), .agg #[.int .i64 0, .bool true, .int .i64 0, .int .i64 xs, .int .i64 xe]] W fun e w' => e = .returned (.tuple #[]) ∧ ∃ sp' cap', PRep B W0 pB mA mB n (comC ⟨⟨⟨c0, c1, c2, c3, c4, c5⟩, a0, b0, h0, f0⟩, ⟨⟨d0, d1, d2, d3, d4, d5⟩, a1, b1, h1, f1⟩, ⟨l0, l1, l2, l3, l4, so⟩, bag, ck⟩ ⟨0, true, 0, xs, xe⟩) sp' cap' w' := by
  obtain ⟨⟨⟨g0, g1, g2, g3, g4, g5⟩, q⟩, hr⟩ : ∃ z, rfsG ⟨c0, c1, c2, c3, c4, c5⟩ xs = z := ⟨_, rfl⟩
  have HR := hide hr
  have HQ : Hid (comC ⟨⟨⟨c0, c1, c2, c3, c4, c5⟩, a0, b0, h0, f0⟩, ⟨⟨d0, d1, d2, d3, d4, d5⟩, a1, b1, h1, f1⟩, ⟨l0, l1, l2, l3, l4, so⟩, bag, ck⟩ ⟨0, true, 0, xs, xe⟩ = ⟨⟨⟨g0, g1, g2, g3, g4, g5⟩, a0, b0, h0, f0⟩, ⟨⟨d0, d1, d2, d3, d4, d5⟩, a1, b1, h1, f1⟩, ⟨l0, l1, l2, l3, l4, so⟩, bag, ck⟩) := hide (by
    have e : rfsG (PL.at ⟨⟨⟨c0, c1, c2, c3, c4, c5⟩, a0, b0, h0, f0⟩, ⟨⟨d0, d1, d2, d3, d4, d5⟩, a1, b1, h1, f1⟩, ⟨l0, l1, l2, l3, l4, so⟩, bag, ck⟩ 0).g xs = (⟨g0, g1, g2, g3, g4, g5⟩, q) := hr
    unfold comC
    rw [if_pos rfl, if_pos rfl]
    simp only
    rw [e]
    rfl)
  rw [HQ.out]
  clear hr
  obtain ⟨V, hV⟩ : ∃ V, V = W.alloc (.cells #[.int .i64 0, .bool true, .int .i64 0, .int .i64 xs, .int .i64 xe] 64 (0, 0)) := ⟨_, rfl⟩
  have bV : Below W.heap.size W V := by rw [hV]; exact alloc_below _ _
  have hx : V.heap[W.heap.size]? = some (.cells #[.int .i64 0, .bool true, .int .i64 0, .int .i64 xs, .int .i64 xe] 64 (0, 0)) := by rw [hV]; exact heap_alloc_new W _
  obtain ⟨xB, hxB⟩ : ∃ xB, W.heap.size = xB := ⟨_, rfl⟩
  have hlt : pB < xB := by rw [← hxB]; exact box_lt hP.box
  have HLT : Hid (pB < xB) := hide hlt
  rw [hxB] at hx
  have HX0 := hide hx
  have HP0 := hide (hP.later bV)
  clear hx bV hP hlt
  go_enter Try.func39, Try.ntmps39
  go_upto_region 1 with fail
  rw [← hV]
  try rw [hxB]
  clear hV hxB
  obtain ⟨_, _, _, _, _, x0, x1, x2, x3, x4⟩ := five HX0.out
  go_upto_region 4 with fail
  have u0 := cellB (i := 0) (v := .int .i64 c0) HP0.out.box rfl
  have u1 := cellB (i := 1) (v := .int .i64 c1) HP0.out.box rfl
  have u2 := cellB (i := 2) (v := .int .i64 c2) HP0.out.box rfl
  have u3 := cellB (i := 3) (v := .int .i64 c3) HP0.out.box rfl
  have u4 := cellB (i := 4) (v := .int .i64 c4) HP0.out.box rfl
  have u5 := cellB (i := 5) (v := .int .i64 c5) HP0.out.box rfl
  have z0 := frB (i := 0) HP0.out.box
  have z1 := frB (i := 1) HP0.out.box
  have z2 := frB (i := 2) HP0.out.box
  have z3 := frB (i := 3) HP0.out.box
  have z4 := frB (i := 4) HP0.out.box
  have z5 := frB (i := 5) HP0.out.box
  have hne1 : pB ≠ xB := by have := HLT.out; omega
  have hne2 : xB ≠ pB := hne1.symm
  have B0 : Below V.heap.size V V.drew := (Below.refl _ V).drew
  have HP1 := hide (HP0.out.later B0)
  have HX1 := hide (below_box B0 HX0.out)
  refine wp_region_held_drew (S := fun w' => w'.cell? ⟨xB, 3, none⟩ = some (.int .i64 xs)) (by kernel_rfl) x3 (fun hHeld => ?_)
  refine wpAnyH_take (i := 0) (oi := _) (v := ?_) rfl (by kernel_rfl) (by kernel_rfl) (by kernel_rfl) (fun _ _ _ h => h) (Or.inl ⟨by kernel_rfl, ?_⟩) (by assumption) ?_
  rotate_left
  · intro w hSw
    (try dsimp only at hSw)
    go_simp
    all_goals with_reducible rfl
  simp only [Act.put]
  refine wpAnyH_take (i := 1) (oi := _) (v := ?_) rfl (by kernel_rfl) (by kernel_rfl) (by kernel_rfl) (fun _ _ _ h => h) (Or.inl ⟨by kernel_rfl, ?_⟩) (by assumption) ?_
  rotate_left
  · intro w hSw
    (try dsimp only at hSw)
    go_simp
    all_goals with_reducible rfl
  simp only [Act.put]
  refine wpAnyH_take (i := 2) (oi := _) (v := ?_) rfl (by kernel_rfl) (by kernel_rfl) (by kernel_rfl) (fun _ _ _ h => h) (Or.inl ⟨by kernel_rfl, ?_⟩) (by assumption) ?_
  rotate_left
  · intro w hSw
    (try dsimp only at hSw)
    go_simp
    all_goals with_reducible rfl
  simp only [Act.put]
  refine wpAnyH_take (i := 3) (oi := _) (v := ?_) rfl (by kernel_rfl) (by kernel_rfl) (by kernel_rfl) (fun _ _ _ h => h) (Or.inl ⟨by kernel_rfl, ?_⟩) (by assumption) ?_
  rotate_left
  · intro w hSw
    (try dsimp only at hSw)
    go_simp
    all_goals with_reducible rfl
  simp only [Act.put]
  refine wpAnyH_take (i := 4) (oi := _) (v := ?_) rfl (by kernel_rfl) (by kernel_rfl) (by kernel_rfl) (fun _ _ _ h => h) (Or.inl ⟨by kernel_rfl, ?_⟩) (by assumption) ?_
  rotate_left
  · intro w hSw
    (try dsimp only at hSw)
    go_simp
    all_goals with_reducible rfl
  simp only [Act.put]
  refine wpAnyH_take (i := 5) (oi := _) (v := ?_) rfl (by kernel_rfl) (by kernel_rfl) (by kernel_rfl) (fun _ _ _ h => h) (Or.inl ⟨by kernel_rfl, ?_⟩) (by assumption) ?_
  rotate_left
  · intro w hSw
    (try dsimp only at hSw)
    go_simp
    all_goals with_reducible rfl
  simp only [Act.put]
  refine wpAnyH_take (i := 6) (oi := _) (v := ?_) rfl (by kernel_rfl) (by kernel_rfl) (by kernel_rfl) (fun _ _ _ h => h) (Or.inl ⟨by kernel_rfl, ?_⟩) (by assumption) ?_
  rotate_left
  · intro w hSw
    (try dsimp only at hSw)
    go_simp
    all_goals with_reducible rfl
  simp only [Act.put]
  refine wpAnyH_take (i := 8) (oi := _) (v := ?_) rfl (by kernel_rfl) (by kernel_rfl) (by kernel_rfl) (fun _ _ _ h => h) (Or.inl ⟨by kernel_rfl, ?_⟩) (by assumption) ?_
  rotate_left
  · intro w hSw
    (try dsimp only at hSw)
    go_simp
    all_goals with_reducible rfl
  simp only [Act.put]
  refine wpAnyH_take (i := 9) (oi := _) (v := ?_) rfl (by kernel_rfl) (by kernel_rfl) (by kernel_rfl) (fun _ _ _ h => h) (Or.inl ⟨by kernel_rfl, ?_⟩) (by assumption) ?_
  rotate_left
  · intro w hSw
    (try dsimp only at hSw)
    go_simp
    all_goals with_reducible rfl
  simp only [Act.put]
  refine wpAnyH_take (i := 14) (oi := _) (v := ?_) rfl (by kernel_rfl) (by kernel_rfl) (by kernel_rfl) (fun _ _ _ h => h) (Or.inl ⟨by kernel_rfl, ?_⟩) (by assumption) ?_
  rotate_left
  · intro w hSw
    (try dsimp only at hSw)
    go_simp
    all_goals with_reducible rfl
  simp only [Act.put]
  refine wpAnyH_take (i := 15) (oi := _) (v := ?_) rfl (by kernel_rfl) (by kernel_rfl) (by kernel_rfl) (fun _ _ _ h => h) (Or.inl ⟨by kernel_rfl, ?_⟩) (by assumption) ?_
  rotate_left
  · intro w hSw
    (try dsimp only at hSw)
    go_simp
    all_goals with_reducible rfl
  simp only [Act.put]
  refine wpAnyH_ready (rs := [7]) (by kernel_rfl) (by simp) ?_
  refine AllReadyH.cons (o := _) rfl (fun K hK => ?_) AllReadyH.nil
  go_simp
  refine hK.out _ _ hHeld (fun hHeld => ?_)
  clear hK
  refine wpAnyH_ready (rs := [10]) (by kernel_rfl) (by simp) ?_
  refine AllReadyH.cons (o := _) rfl (fun K hK => ?_) AllReadyH.nil
  go_simp
  refine rfs_any.mono ?_
  rw [HR.out]
  simp only [GE.val, GE.row]
  rintro _ y1 ⟨rfl, b1⟩
  have HP2 := hide (HP1.out.later b1)
  have HX2 := hide (below_box b1 HX1.out)
  clear b1 hHeld x0 x1 x2 x3 x4 u0 z0 u1 z1 u2 z2 u3 z3 u4 z4 u5 z5
  obtain ⟨_, _, _, _, _, x0, x1, x2, x3, x4⟩ := five HX2.out
  have u0 := cellB (i := 0) (v := .int .i64 c0) HP2.out.box rfl
  have u1 := cellB (i := 1) (v := .int .i64 c1) HP2.out.box rfl
  have u2 := cellB (i := 2) (v := .int .i64 c2) HP2.out.box rfl
  have u3 := cellB (i := 3) (v := .int .i64 c3) HP2.out.box rfl
  have u4 := cellB (i := 4) (v := .int .i64 c4) HP2.out.box rfl
  have u5 := cellB (i := 5) (v := .int .i64 c5) HP2.out.box rfl
  have z0 := frB (i := 0) HP2.out.box
  have z1 := frB (i := 1) HP2.out.box
  have z2 := frB (i := 2) HP2.out.box
  have z3 := frB (i := 3) HP2.out.box
  have z4 := frB (i := 4) HP2.out.box
  have z5 := frB (i := 5) HP2.out.box
  go_wp2_with fail
  refine hK.out _ _ x3 (fun hHeld => ?_)
  clear hK
  refine wpAnyH_take (i := 11) (oi := _) (v := ?_) rfl (by kernel_rfl) (by kernel_rfl) (by kernel_rfl) (fun _ _ _ h => h) (Or.inl ⟨by kernel_rfl, ?_⟩) (by assumption) ?_
  rotate_left
  · intro w hSw
    (try dsimp only at hSw)
    go_simp
    all_goals with_reducible rfl
  simp only [Act.put]
  refine wpAnyH_take (i := 12) (oi := _) (v := ?_) rfl (by kernel_rfl) (by kernel_rfl) (by kernel_rfl) (fun _ _ _ h => h) (Or.inl ⟨by kernel_rfl, ?_⟩) (by assumption) ?_
  rotate_left
  · intro w hSw
    (try dsimp only at hSw)
    go_simp
    all_goals with_reducible rfl
  simp only [Act.put]
  refine wpAnyH_take (i := 13) (oi := _) (v := ?_) rfl (by kernel_rfl) (by kernel_rfl) (by kernel_rfl) (fun _ _ _ h => h) (Or.inl ⟨by kernel_rfl, ?_⟩) (by assumption) ?_
  rotate_left
  · intro w hSw
    (try dsimp only at hSw)
    go_simp
    all_goals with_reducible rfl
  simp only [Act.put]
  refine wpAnyH_take (i := 16) (oi := _) (v := ?_) rfl (by kernel_rfl) (by kernel_rfl) (by kernel_rfl) (fun _ _ _ h => h) (Or.inl ⟨by kernel_rfl, ?_⟩) (by assumption) ?_
  rotate_left
  · intro w hSw
    (try dsimp only at hSw)
    go_simp
    all_goals with_reducible rfl
  simp only [Act.put]
  refine wpAnyH_ready (rs := [17]) (by kernel_rfl) (by simp) ?_
  refine AllReadyH.cons (o := _) rfl (fun K hK => ?_) AllReadyH.nil
  go_simp
  refine hK.out _ _ (by go_keep) (fun hHeld => ?_)
  clear hK
  refine wpAnyH_done (by kernel_rfl) ?_ _
  go_wp2
  refine bodyPost_ret (results_none rfl _ _ _) rfl ?_
  exact ⟨rfl, sp, cap, HP2.out.put (q := ⟨⟨⟨g0, g1, g2, g3, g4, g5⟩, a0, b0, h0, f0⟩, ⟨⟨d0, d1, d2, d3, d4, d5⟩, a1, b1, h1, f1⟩, ⟨l0, l1, l2, l3, l4, so⟩, bag, ck⟩) (((((((Only.refl (· = pB) y1).trans (Only.set _ pB 0 (.int .i64 g0) rfl)).trans (Only.set _ pB 1 (.int .i64 g1) rfl)).trans (Only.set _ pB 2 (.int .i64 g2) rfl)).trans (Only.set _ pB 3 (.int .i64 g3) rfl)).trans (Only.set _ pB 4 (.int .i64 g4) rfl)).trans (Only.set _ pB 5 (.int .i64 g5) rfl)) (heap_set_sameL (heap_set_sameL (heap_set_sameL (heap_set_sameL (heap_set_sameL (heap_set_sameL HP2.out.box 0 (.int .i64 g0)) 1 (.int .i64 g1)) 2 (.int .i64 g2)) 3 (.int .i64 g3)) 4 (.int .i64 g4)) 5 (.int .i64 g5)) rfl rfl rfl⟩
set_option maxRecDepth 100000 in
set_option maxHeartbeats 8000000 in
theorem com_rfs1 {W : World} {B pB mA mB n cap : Nat} {sp : Option Addr} {W0 : World} {c0 c1 c2 c3 c4 c5 d0 d1 d2 d3 d4 d5 a0 b0 a1 b1 l0 l1 l2 l3 l4 ck : Int} {h0 h1 so : Bool} {f0 f1 : Int → Int × Int} {bag : List LT} {xs xe : Int} (hP : PRep B W0 pB mA mB n ⟨⟨⟨c0, c1, c2, c3, c4, c5⟩, a0, b0, h0, f0⟩, ⟨⟨d0, d1, d2, d3, d4, d5⟩, a1, b1, h1, f1⟩, ⟨l0, l1, l2, l3, l4, so⟩, bag, ck⟩ sp cap W)  :
    Calls Try.prog 39 #[.pointer (some ⟨pB, 0, none⟩), .agg #[.int .i64 1, .bool true, .int .i64 0, .int .i64 xs, .int .i64 xe]] W fun e w' => e = .returned (.tuple #[]) ∧ ∃ sp' cap', PRep B W0 pB mA mB n (comC ⟨⟨⟨c0, c1, c2, c3, c4, c5⟩, a0, b0, h0, f0⟩, ⟨⟨d0, d1, d2, d3, d4, d5⟩, a1, b1, h1, f1⟩, ⟨l0, l1, l2, l3, l4, so⟩, bag, ck⟩ ⟨1, true, 0, xs, xe⟩) sp' cap' w' := by
  obtain ⟨⟨⟨g0, g1, g2, g3, g4, g5⟩, q⟩, hr⟩ : ∃ z, rfsG ⟨d0, d1, d2, d3, d4, d5⟩ xs = z := ⟨_, rfl⟩
  have HR := hide hr
  have HQ : Hid (comC ⟨⟨⟨c0, c1, c2, c3, c4, c5⟩, a0, b0, h0, f0⟩, ⟨⟨d0, d1, d2, d3, d4, d5⟩, a1, b1, h1, f1⟩, ⟨l0, l1, l2, l3, l4, so⟩, bag, ck⟩ ⟨1, true, 0, xs, xe⟩ = ⟨⟨⟨c0, c1, c2, c3, c4, c5⟩, a0, b0, h0, f0⟩, ⟨⟨g0, g1, g2, g3, g4, g5⟩, a1, b1, h1, f1⟩, ⟨l0, l1, l2, l3, l4, so⟩, bag, ck⟩) := hide (by
    have e : rfsG (PL.at ⟨⟨⟨c0, c1, c2, c3, c4, c5⟩, a0, b0, h0, f0⟩, ⟨⟨d0, d1, d2, d3, d4, d5⟩, a1, b1, h1, f1⟩, ⟨l0, l1, l2, l3, l4, so⟩, bag, ck⟩ 1).g xs = (⟨g0, g1, g2, g3, g4, g5⟩, q) := hr
    unfold comC
    rw [if_pos rfl, if_pos rfl]
    simp only
    rw [e]
    rfl)
  rw [HQ.out]
  clear hr
  obtain ⟨V, hV⟩ : ∃ V, V = W.alloc (.cells #[.int .i64 1, .bool true, .int .i64 0, .int .i64 xs, .int .i64 xe] 64 (0, 0)) := ⟨_, rfl⟩
  have bV : Below W.heap.size W V := by rw [hV]; exact alloc_below _ _
  have hx : V.heap[W.heap.size]? = some (.cells #[.int .i64 1, .bool true, .int .i64 0, .int .i64 xs, .int .i64 xe] 64 (0, 0)) := by rw [hV]; exact heap_alloc_new W _
  obtain ⟨xB, hxB⟩ : ∃ xB, W.heap.size = xB := ⟨_, rfl⟩
  have hlt : pB < xB := by rw [← hxB]; exact box_lt hP.box
  have HLT : Hid (pB < xB) := hide hlt
  rw [hxB] at hx
  have HX0 := hide hx
  have HP0 := hide (hP.later bV)
  clear hx bV hP hlt
  go_enter Try.func39, Try.ntmps39
  go_upto_region 1 with fail
  rw [← hV]
  try rw [hxB]
  clear hV hxB
  obtain ⟨_, _, _, _, _, x0, x1, x2, x3, x4⟩ := five HX0.out
  go_upto_region 4 with fail
  have u6 := cellB (i := 6) (v := .int .i64 d0) HP0.out.box rfl
  have u7 := cellB (i := 7) (v := .int .i64 d1) HP0.out.box rfl
  have u8 := cellB (i := 8) (v := .int .i64 d2) HP0.out.box rfl
  have u9 := cellB (i := 9) (v := .int .i64 d3) HP0.out.box rfl
  have u10 := cellB (i := 10) (v := .int .i64 d4) HP0.out.box rfl
  have u11 := cellB (i := 11) (v := .int .i64 d5) HP0.out.box rfl
  have z6 := frB (i := 6) HP0.out.box
  have z7 := frB (i := 7) HP0.out.box
  have z8 := frB (i := 8) HP0.out.box
  have z9 := frB (i := 9) HP0.out.box
  have z10 := frB (i := 10) HP0.out.box
  have z11 := frB (i := 11) HP0.out.box
  have hne1 : pB ≠ xB := by have := HLT.out; omega
  have hne2 : xB ≠ pB := hne1.symm
  have B0 : Below V.heap.size V V.drew := (Below.refl _ V).drew
  have HP1 := hide (HP0.out.later B0)
  have HX1 := hide (below_box B0 HX0.out)
  refine wp_region_held_drew (S := fun w' => w'.cell? ⟨xB, 3, none⟩ = some (.int .i64 xs)) (by kernel_rfl) x3 (fun hHeld => ?_)
  refine wpAnyH_take (i := 0) (oi := _) (v := ?_) rfl (by kernel_rfl) (by kernel_rfl) (by kernel_rfl) (fun _ _ _ h => h) (Or.inl ⟨by kernel_rfl, ?_⟩) (by assumption) ?_
  rotate_left
  · intro w hSw
    (try dsimp only at hSw)
    go_simp
    all_goals with_reducible rfl
  simp only [Act.put]
  refine wpAnyH_take (i := 1) (oi := _) (v := ?_) rfl (by kernel_rfl) (by kernel_rfl) (by kernel_rfl) (fun _ _ _ h => h) (Or.inl ⟨by kernel_rfl, ?_⟩) (by assumption) ?_
  rotate_left
  · intro w hSw
    (try dsimp only at hSw)
    go_simp
    all_goals with_reducible rfl
  simp only [Act.put]
  refine wpAnyH_take (i := 2) (oi := _) (v := ?_) rfl (by kernel_rfl) (by kernel_rfl) (by kernel_rfl) (fun _ _ _ h => h) (Or.inl ⟨by kernel_rfl, ?_⟩) (by assumption) ?_
  rotate_left
  · intro w hSw
    (try dsimp only at hSw)
    go_simp
    all_goals with_reducible rfl
  simp only [Act.put]
  refine wpAnyH_take (i := 3) (oi := _) (v := ?_) rfl (by kernel_rfl) (by kernel_rfl) (by kernel_rfl) (fun _ _ _ h => h) (Or.inl ⟨by kernel_rfl, ?_⟩) (by assumption) ?_
  rotate_left
  · intro w hSw
    (try dsimp only at hSw)
    go_simp
    all_goals with_reducible rfl
  simp only [Act.put]
  refine wpAnyH_take (i := 4) (oi := _) (v := ?_) rfl (by kernel_rfl) (by kernel_rfl) (by kernel_rfl) (fun _ _ _ h => h) (Or.inl ⟨by kernel_rfl, ?_⟩) (by assumption) ?_
  rotate_left
  · intro w hSw
    (try dsimp only at hSw)
    go_simp
    all_goals with_reducible rfl
  simp only [Act.put]
  refine wpAnyH_take (i := 5) (oi := _) (v := ?_) rfl (by kernel_rfl) (by kernel_rfl) (by kernel_rfl) (fun _ _ _ h => h) (Or.inl ⟨by kernel_rfl, ?_⟩) (by assumption) ?_
  rotate_left
  · intro w hSw
    (try dsimp only at hSw)
    go_simp
    all_goals with_reducible rfl
  simp only [Act.put]
  refine wpAnyH_take (i := 6) (oi := _) (v := ?_) rfl (by kernel_rfl) (by kernel_rfl) (by kernel_rfl) (fun _ _ _ h => h) (Or.inl ⟨by kernel_rfl, ?_⟩) (by assumption) ?_
  rotate_left
  · intro w hSw
    (try dsimp only at hSw)
    go_simp
    all_goals with_reducible rfl
  simp only [Act.put]
  refine wpAnyH_take (i := 8) (oi := _) (v := ?_) rfl (by kernel_rfl) (by kernel_rfl) (by kernel_rfl) (fun _ _ _ h => h) (Or.inl ⟨by kernel_rfl, ?_⟩) (by assumption) ?_
  rotate_left
  · intro w hSw
    (try dsimp only at hSw)
    go_simp
    all_goals with_reducible rfl
  simp only [Act.put]
  refine wpAnyH_take (i := 9) (oi := _) (v := ?_) rfl (by kernel_rfl) (by kernel_rfl) (by kernel_rfl) (fun _ _ _ h => h) (Or.inl ⟨by kernel_rfl, ?_⟩) (by assumption) ?_
  rotate_left
  · intro w hSw
    (try dsimp only at hSw)
    go_simp
    all_goals with_reducible rfl
  simp only [Act.put]
  refine wpAnyH_take (i := 14) (oi := _) (v := ?_) rfl (by kernel_rfl) (by kernel_rfl) (by kernel_rfl) (fun _ _ _ h => h) (Or.inl ⟨by kernel_rfl, ?_⟩) (by assumption) ?_
  rotate_left
  · intro w hSw
    (try dsimp only at hSw)
    go_simp
    all_goals with_reducible rfl
  simp only [Act.put]
  refine wpAnyH_take (i := 15) (oi := _) (v := ?_) rfl (by kernel_rfl) (by kernel_rfl) (by kernel_rfl) (fun _ _ _ h => h) (Or.inl ⟨by kernel_rfl, ?_⟩) (by assumption) ?_
  rotate_left
  · intro w hSw
    (try dsimp only at hSw)
    go_simp
    all_goals with_reducible rfl
  simp only [Act.put]
  refine wpAnyH_ready (rs := [7]) (by kernel_rfl) (by simp) ?_
  refine AllReadyH.cons (o := _) rfl (fun K hK => ?_) AllReadyH.nil
  go_simp
  refine hK.out _ _ hHeld (fun hHeld => ?_)
  clear hK
  refine wpAnyH_ready (rs := [10]) (by kernel_rfl) (by simp) ?_
  refine AllReadyH.cons (o := _) rfl (fun K hK => ?_) AllReadyH.nil
  go_simp
  refine rfs_any.mono ?_
  rw [HR.out]
  simp only [GE.val, GE.row]
  rintro _ y1 ⟨rfl, b1⟩
  have HP2 := hide (HP1.out.later b1)
  have HX2 := hide (below_box b1 HX1.out)
  clear b1 hHeld x0 x1 x2 x3 x4 u6 z6 u7 z7 u8 z8 u9 z9 u10 z10 u11 z11
  obtain ⟨_, _, _, _, _, x0, x1, x2, x3, x4⟩ := five HX2.out
  have u6 := cellB (i := 6) (v := .int .i64 d0) HP2.out.box rfl
  have u7 := cellB (i := 7) (v := .int .i64 d1) HP2.out.box rfl
  have u8 := cellB (i := 8) (v := .int .i64 d2) HP2.out.box rfl
  have u9 := cellB (i := 9) (v := .int .i64 d3) HP2.out.box rfl
  have u10 := cellB (i := 10) (v := .int .i64 d4) HP2.out.box rfl
  have u11 := cellB (i := 11) (v := .int .i64 d5) HP2.out.box rfl
  have z6 := frB (i := 6) HP2.out.box
  have z7 := frB (i := 7) HP2.out.box
  have z8 := frB (i := 8) HP2.out.box
  have z9 := frB (i := 9) HP2.out.box
  have z10 := frB (i := 10) HP2.out.box
  have z11 := frB (i := 11) HP2.out.box
  go_wp2_with fail
  refine hK.out _ _ x3 (fun hHeld => ?_)
  clear hK
  refine wpAnyH_take (i := 11) (oi := _) (v := ?_) rfl (by kernel_rfl) (by kernel_rfl) (by kernel_rfl) (fun _ _ _ h => h) (Or.inl ⟨by kernel_rfl, ?_⟩) (by assumption) ?_
  rotate_left
  · intro w hSw
    (try dsimp only at hSw)
    go_simp
    all_goals with_reducible rfl
  simp only [Act.put]
  refine wpAnyH_take (i := 12) (oi := _) (v := ?_) rfl (by kernel_rfl) (by kernel_rfl) (by kernel_rfl) (fun _ _ _ h => h) (Or.inl ⟨by kernel_rfl, ?_⟩) (by assumption) ?_
  rotate_left
  · intro w hSw
    (try dsimp only at hSw)
    go_simp
    all_goals with_reducible rfl
  simp only [Act.put]
  refine wpAnyH_take (i := 13) (oi := _) (v := ?_) rfl (by kernel_rfl) (by kernel_rfl) (by kernel_rfl) (fun _ _ _ h => h) (Or.inl ⟨by kernel_rfl, ?_⟩) (by assumption) ?_
  rotate_left
  · intro w hSw
    (try dsimp only at hSw)
    go_simp
    all_goals with_reducible rfl
  simp only [Act.put]
  refine wpAnyH_take (i := 16) (oi := _) (v := ?_) rfl (by kernel_rfl) (by kernel_rfl) (by kernel_rfl) (fun _ _ _ h => h) (Or.inl ⟨by kernel_rfl, ?_⟩) (by assumption) ?_
  rotate_left
  · intro w hSw
    (try dsimp only at hSw)
    go_simp
    all_goals with_reducible rfl
  simp only [Act.put]
  refine wpAnyH_ready (rs := [17]) (by kernel_rfl) (by simp) ?_
  refine AllReadyH.cons (o := _) rfl (fun K hK => ?_) AllReadyH.nil
  go_simp
  refine hK.out _ _ (by go_keep) (fun hHeld => ?_)
  clear hK
  refine wpAnyH_done (by kernel_rfl) ?_ _
  go_wp2
  refine bodyPost_ret (results_none rfl _ _ _) rfl ?_
  exact ⟨rfl, sp, cap, HP2.out.put (q := ⟨⟨⟨c0, c1, c2, c3, c4, c5⟩, a0, b0, h0, f0⟩, ⟨⟨g0, g1, g2, g3, g4, g5⟩, a1, b1, h1, f1⟩, ⟨l0, l1, l2, l3, l4, so⟩, bag, ck⟩) (((((((Only.refl (· = pB) y1).trans (Only.set _ pB 6 (.int .i64 g0) rfl)).trans (Only.set _ pB 7 (.int .i64 g1) rfl)).trans (Only.set _ pB 8 (.int .i64 g2) rfl)).trans (Only.set _ pB 9 (.int .i64 g3) rfl)).trans (Only.set _ pB 10 (.int .i64 g4) rfl)).trans (Only.set _ pB 11 (.int .i64 g5) rfl)) (heap_set_sameL (heap_set_sameL (heap_set_sameL (heap_set_sameL (heap_set_sameL (heap_set_sameL HP2.out.box 6 (.int .i64 g0)) 7 (.int .i64 g1)) 8 (.int .i64 g2)) 9 (.int .i64 g3)) 10 (.int .i64 g4)) 11 (.int .i64 g5)) rfl rfl rfl⟩
theorem PRep.only {B : Nat} {W : World} {pB mA mB n : Nat} {p : PL} {sp : Option Addr} {cap : Nat} {wd w' : World} (h : PRep B W pB mA mB n p sp cap wd) {xB vB : Nat} (ho : Only (· = vB) wd w') (h1 : pB < xB) (h2 : xB < vB) (hv : ∃ cs, wd.heap[vB]? = some (.cells cs 23 (0, 0))) : PRep B W pB mA mB n p sp cap w' := by
  obtain ⟨cs, hv⟩ := hv
  refine ⟨ho.obj h.box (fun e => by have e' : pB = vB := e; omega), ownsRow_only h.bag ho (bag_box h.bag hv (by decide)), h.ma.only ho (map_box h.ma hv), h.mb.only ho (map_box h.mb hv), h.ne, h.below.trans (ho.below (Nat.le_trans h.ne.2.1 (Nat.le_of_lt (box_lt h.box))) (fun i e => by have e' : i = vB := e; have := h.ne; omega))⟩
/-- Behind a grant: the play, the letter, the guard. -/
structure CI (B : Nat) (W0 : World) (pB mA mB n : Nat) (p : PL) (sp : Option Addr) (cap xB : Nat) (xr : Array Value) (vB : Nat) (g : GE) (wd : World) : Prop where
  rep : PRep B W0 pB mA mB n p sp cap wd
  xbox : wd.heap[xB]? = some (.cells xr 64 (0, 0))
  vbox : wd.heap[vB]? = some (.cells #[.int .i64 g.ck, .int .i64 g.ep, .int .i64 g.un, .int .i64 g.se, .int .i64 g.ki, .int .i64 g.ak] 23 (0, 0))
  lt : pB < xB ∧ xB < vB
theorem grn_num {g x : GE} {n e : Int} (h : grnG g n e = (x, true)) : 0 ≤ n ∧ n ≤ 9007199254740992 := by
  have hk := snd_ok g
  unfold grnG grnS at h
  split at h
  · simp at h
  · rename_i hn
    unfold okG at hk
    have : n = (sndG g).se := by by_cases q : n = (sndG g).se; exact q; exact absurd (.inr (.inl q)) hn
    omega
set_option maxRecDepth 100000 in
set_option maxHeartbeats 8000000 in
theorem com_grn0t {W : World} {B pB mA mB n cap : Nat} {sp : Option Addr} {W0 : World} {c0 c1 c2 c3 c4 c5 d0 d1 d2 d3 d4 d5 a0 b0 a1 b1 l0 l1 l2 l3 l4 ck : Int} {h0 h1 so : Bool} {f0 f1 : Int → Int × Int} {bag : List LT} {xs xe xk g0 g1 g2 g3 g4 g5 : Int} (hP : PRep B W0 pB mA mB n ⟨⟨⟨c0, c1, c2, c3, c4, c5⟩, a0, b0, h0, f0⟩, ⟨⟨d0, d1, d2, d3, d4, d5⟩, a1, b1, h1, f1⟩, ⟨l0, l1, l2, l3, l4, so⟩, bag, ck⟩ sp cap W) (hk : xk ≠ 0) (hr : grnG ⟨c0, c1, c2, c3, c4, c5⟩ xs xe = (⟨g0, g1, g2, g3, g4, g5⟩, true)) :
    Calls Try.prog 39 #[.pointer (some ⟨pB, 0, none⟩), .agg #[.int .i64 0, .bool true, .int .i64 xk, .int .i64 xs, .int .i64 xe]] W fun e w' => e = .returned (.tuple #[]) ∧ ∃ sp' cap', PRep B W0 pB mA mB n (comC ⟨⟨⟨c0, c1, c2, c3, c4, c5⟩, a0, b0, h0, f0⟩, ⟨⟨d0, d1, d2, d3, d4, d5⟩, a1, b1, h1, f1⟩, ⟨l0, l1, l2, l3, l4, so⟩, bag, ck⟩ ⟨0, true, xk, xs, xe⟩) sp' cap' w' := by
  have HR := hide hr
  have HQ : Hid (comC ⟨⟨⟨c0, c1, c2, c3, c4, c5⟩, a0, b0, h0, f0⟩, ⟨⟨d0, d1, d2, d3, d4, d5⟩, a1, b1, h1, f1⟩, ⟨l0, l1, l2, l3, l4, so⟩, bag, ck⟩ ⟨0, true, xk, xs, xe⟩ = ⟨⟨⟨g0, g1, g2, g3, g4, g5⟩, (f0 xs).1, (f0 xs).2, true, f0⟩, ⟨⟨d0, d1, d2, d3, d4, d5⟩, a1, b1, h1, f1⟩, ⟨l0, l1, l2, l3, l4, so⟩, bag, ck⟩) := hide (by
    have e : grnG (PL.at ⟨⟨⟨c0, c1, c2, c3, c4, c5⟩, a0, b0, h0, f0⟩, ⟨⟨d0, d1, d2, d3, d4, d5⟩, a1, b1, h1, f1⟩, ⟨l0, l1, l2, l3, l4, so⟩, bag, ck⟩ 0).g xs xe = (⟨g0, g1, g2, g3, g4, g5⟩, true) := hr
    unfold comC
    rw [if_pos rfl, if_neg hk]
    simp only
    rw [e]
    rfl)
  rw [HQ.out]
  have hd : (xk == 0) = false := ne_eqL hk
  have hnum := grn_num hr
  have HNUM := hide hnum
  clear hnum
  clear hr hk
  obtain ⟨V, hV⟩ : ∃ V, V = W.alloc (.cells #[.int .i64 0, .bool true, .int .i64 xk, .int .i64 xs, .int .i64 xe] 64 (0, 0)) := ⟨_, rfl⟩
  have bV : Below W.heap.size W V := by rw [hV]; exact alloc_below _ _
  have hx : V.heap[W.heap.size]? = some (.cells #[.int .i64 0, .bool true, .int .i64 xk, .int .i64 xs, .int .i64 xe] 64 (0, 0)) := by rw [hV]; exact heap_alloc_new W _
  obtain ⟨xB, hxB⟩ : ∃ xB, W.heap.size = xB := ⟨_, rfl⟩
  have hlt : pB < xB := by rw [← hxB]; exact box_lt hP.box
  have HLT : Hid (pB < xB) := hide hlt
  rw [hxB] at hx
  have HX0 := hide hx
  have HP0 := hide (hP.later bV)
  clear hx bV hP hlt
  go_enter Try.func39, Try.ntmps39
  go_upto_region 1 with fail
  rw [← hV]
  try rw [hxB]
  clear hV hxB
  obtain ⟨_, _, _, _, _, x0, x1, x2, x3, x4⟩ := five HX0.out
  go_upto_region 5 with fail
  have u0 := cellB (i := 0) (v := .int .i64 c0) HP0.out.box rfl
  have u1 := cellB (i := 1) (v := .int .i64 c1) HP0.out.box rfl
  have u2 := cellB (i := 2) (v := .int .i64 c2) HP0.out.box rfl
  have u3 := cellB (i := 3) (v := .int .i64 c3) HP0.out.box rfl
  have u4 := cellB (i := 4) (v := .int .i64 c4) HP0.out.box rfl
  have u5 := cellB (i := 5) (v := .int .i64 c5) HP0.out.box rfl
  have B0 : Below V.heap.size V V.drew := (Below.refl _ V).drew
  have HP1 := hide (HP0.out.later B0)
  have HX1 := hide (below_box B0 HX0.out)
  go_cut [5, 6] from 34 to 47 (fun s5 s6 wd => ∃ vB, s5 = .pointer (some ⟨vB, 0, none⟩) ∧ s6 = .bool true ∧ Hid (CI B W0 pB mA mB n ⟨⟨⟨c0, c1, c2, c3, c4, c5⟩, a0, b0, h0, f0⟩, ⟨⟨d0, d1, d2, d3, d4, d5⟩, a1, b1, h1, f1⟩, ⟨l0, l1, l2, l3, l4, so⟩, bag, ck⟩ sp cap xB #[.int .i64 0, .bool true, .int .i64 xk, .int .i64 xs, .int .i64 xe] vB ⟨g0, g1, g2, g3, g4, g5⟩ wd))
  case first =>
    refine wp_region_held_drew (S := fun w' => w'.cell? ⟨xB, 3, none⟩ = some (.int .i64 xs) ∧ w'.cell? ⟨xB, 4, none⟩ = some (.int .i64 xe) ∧ (w'.cell? ⟨pB, 0, none⟩ = some (.int .i64 c0) ∧ w'.cell? ⟨pB, 1, none⟩ = some (.int .i64 c1) ∧ w'.cell? ⟨pB, 2, none⟩ = some (.int .i64 c2) ∧ w'.cell? ⟨pB, 3, none⟩ = some (.int .i64 c3) ∧ w'.cell? ⟨pB, 4, none⟩ = some (.int .i64 c4) ∧ w'.cell? ⟨pB, 5, none⟩ = some (.int .i64 c5))) (by kernel_rfl) ⟨x3, x4, ⟨u0, u1, u2, u3, u4, u5⟩⟩ (fun hHeld => ?_)
    refine wpAnyH_take (i := 0) (oi := _) (v := ?_) rfl (by kernel_rfl) (by kernel_rfl) (by kernel_rfl) (fun _ _ _ h => h) (Or.inl ⟨by kernel_rfl, ?_⟩) (by assumption) ?_
    rotate_left
    · intro w hSw
      (try dsimp only at hSw)
      go_simp
      all_goals with_reducible rfl
    simp only [Act.put]
    refine wpAnyH_take (i := 1) (oi := _) (v := ?_) rfl (by kernel_rfl) (by kernel_rfl) (by kernel_rfl) (fun _ _ _ h => h) (Or.inl ⟨by kernel_rfl, ?_⟩) (by assumption) ?_
    rotate_left
    · intro w hSw
      (try dsimp only at hSw)
      go_simp
      all_goals with_reducible rfl
    simp only [Act.put]
    refine wpAnyH_take (i := 2) (oi := _) (v := ?_) rfl (by kernel_rfl) (by kernel_rfl) (by kernel_rfl) (fun _ _ _ h => h) (Or.inl ⟨by kernel_rfl, ?_⟩) (by assumption) ?_
    rotate_left
    · intro w hSw
      (try dsimp only at hSw)
      go_simp
      all_goals with_reducible rfl
    simp only [Act.put]
    refine wpAnyH_take (i := 3) (oi := _) (v := ?_) rfl (by kernel_rfl) (by kernel_rfl) (by kernel_rfl) (fun _ _ _ h => h) (Or.inl ⟨by kernel_rfl, ?_⟩) (by assumption) ?_
    rotate_left
    · intro w hSw
      (try dsimp only at hSw)
      go_simp
      all_goals with_reducible rfl
    simp only [Act.put]
    refine wpAnyH_take (i := 4) (oi := _) (v := ?_) rfl (by kernel_rfl) (by kernel_rfl) (by kernel_rfl) (fun _ _ _ h => h) (Or.inl ⟨by kernel_rfl, ?_⟩) (by assumption) ?_
    rotate_left
    · intro w hSw
      (try dsimp only at hSw)
      go_simp
      all_goals with_reducible rfl
    simp only [Act.put]
    refine wpAnyH_take (i := 5) (oi := _) (v := ?_) rfl (by kernel_rfl) (by kernel_rfl) (by kernel_rfl) (fun _ _ _ h => h) (Or.inl ⟨by kernel_rfl, ?_⟩) (by assumption) ?_
    rotate_left
    · intro w hSw
      (try dsimp only at hSw)
      go_simp
      all_goals with_reducible rfl
    simp only [Act.put]
    refine wpAnyH_take (i := 6) (oi := _) (v := ?_) rfl (by kernel_rfl) (by kernel_rfl) (by kernel_rfl) (fun _ _ _ h => h) (Or.inl ⟨by kernel_rfl, ?_⟩) (by assumption) ?_
    rotate_left
    · intro w hSw
      (try dsimp only at hSw)
      go_simp
      all_goals with_reducible rfl
    simp only [Act.put]
    refine wpAnyH_take (i := 7) (oi := _) (v := ?_) rfl (by kernel_rfl) (by kernel_rfl) (by kernel_rfl) (fun _ _ _ h => h) (Or.inl ⟨by kernel_rfl, ?_⟩) (by assumption) ?_
    rotate_left
    · intro w hSw
      (try dsimp only at hSw)
      go_simp
      all_goals with_reducible rfl
    simp only [Act.put]
    refine wpAnyH_take (i := 8) (oi := _) (v := ?_) rfl (by kernel_rfl) (by kernel_rfl) (by kernel_rfl) (fun _ _ _ h => h) (Or.inl ⟨by kernel_rfl, ?_⟩) (by assumption) ?_
    rotate_left
    · intro w hSw
      (try dsimp only at hSw)
      go_simp
      all_goals with_reducible rfl
    simp only [Act.put]
    refine wpAnyH_take (i := 9) (oi := _) (v := ?_) rfl (by kernel_rfl) (by kernel_rfl) (by kernel_rfl) (fun _ _ _ h => h) (Or.inl ⟨by kernel_rfl, ?_⟩) (by assumption) ?_
    rotate_left
    · intro w hSw
      (try dsimp only at hSw)
      go_simp
      all_goals with_reducible rfl
    simp only [Act.put]
    refine wpAnyH_ready (rs := [10, 14]) (by kernel_rfl) (by simp) ?_
    refine AllReadyH.cons (o := _) rfl (fun K hK => ?_) (AllReadyH.cons (o := _) rfl (fun K hK => ?_) AllReadyH.nil)
    · go_simp
      refine grn_any.mono ?_
      rw [HR.out]
      simp only [GE.val, GE.row]
      rintro _ y1 ⟨rfl, b1⟩
      have HP2 := hide (HP1.out.later b1)
      have HX2 := hide (below_box b1 HX1.out)
      clear b1 hHeld x0 x1 x2 x3 x4 u0 u1 u2 u3 u4 u5
      obtain ⟨_, _, _, _, _, x0, x1, x2, x3, x4⟩ := five HX2.out
      have u0 := cellB (i := 0) (v := .int .i64 c0) HP2.out.box rfl
      have u1 := cellB (i := 1) (v := .int .i64 c1) HP2.out.box rfl
      have u2 := cellB (i := 2) (v := .int .i64 c2) HP2.out.box rfl
      have u3 := cellB (i := 3) (v := .int .i64 c3) HP2.out.box rfl
      have u4 := cellB (i := 4) (v := .int .i64 c4) HP2.out.box rfl
      have u5 := cellB (i := 5) (v := .int .i64 c5) HP2.out.box rfl
      go_wp2_with fail
      refine hK.out _ _ ⟨x3, x4, ⟨u0, u1, u2, u3, u4, u5⟩⟩ (fun hHeld => ?_)
      clear hK
      refine wpAnyH_take (i := 11) (oi := _) (v := ?_) rfl (by kernel_rfl) (by kernel_rfl) (by kernel_rfl) (fun _ _ _ h => h) (Or.inl ⟨by kernel_rfl, ?_⟩) (by assumption) ?_
      rotate_left
      · intro w hSw
        (try dsimp only at hSw)
        go_simp
        all_goals with_reducible rfl
      simp only [Act.put]
      refine wpAnyH_take (i := 12) (oi := _) (v := ?_) rfl (by kernel_rfl) (by kernel_rfl) (by kernel_rfl) (fun _ _ _ h => h) (Or.inl ⟨by kernel_rfl, ?_⟩) (by assumption) ?_
      rotate_left
      · intro w hSw
        (try dsimp only at hSw)
        go_simp
        all_goals with_reducible rfl
      simp only [Act.put]
      refine wpAnyH_take (i := 13) (oi := _) (v := ?_) rfl (by kernel_rfl) (by kernel_rfl) (by kernel_rfl) (fun _ _ _ h => h) (Or.inl ⟨by kernel_rfl, ?_⟩) (by assumption) ?_
      rotate_left
      · intro w hSw
        (try dsimp only at hSw)
        go_simp
        all_goals with_reducible rfl
      simp only [Act.put]
      refine wpAnyH_ready (rs := [14]) (by kernel_rfl) (by simp) ?_
      refine AllReadyH.cons (o := _) rfl (fun K hK => ?_) AllReadyH.nil
      go_simp
      refine hK.out _ _ (by go_keep) (fun hHeld => ?_)
      clear hK
      refine wpAnyH_ready (rs := [15]) (by kernel_rfl) (by simp) ?_
      refine AllReadyH.cons (o := _) rfl (fun K hK => ?_) AllReadyH.nil
      go_simp
      refine hK.out _ _ (by go_keep) (fun hHeld => ?_)
      clear hK
      refine wpAnyH_ready (rs := [16]) (by kernel_rfl) (by simp) ?_
      refine AllReadyH.cons (o := _) rfl (fun K hK => ?_) AllReadyH.nil
      go_simp
      refine hK.out _ _ (by go_keep) (fun hHeld => ?_)
      clear hK
      refine wpAnyH_done (by kernel_rfl) ?_ _
      have HC : Hid (CI B W0 pB mA mB n ⟨⟨⟨c0, c1, c2, c3, c4, c5⟩, a0, b0, h0, f0⟩, ⟨⟨d0, d1, d2, d3, d4, d5⟩, a1, b1, h1, f1⟩, ⟨l0, l1, l2, l3, l4, so⟩, bag, ck⟩ sp cap xB #[.int .i64 0, .bool true, .int .i64 xk, .int .i64 xs, .int .i64 xe] y1.heap.size ⟨g0, g1, g2, g3, g4, g5⟩ (y1.alloc (.cells #[.int .i64 g0, .int .i64 g1, .int .i64 g2, .int .i64 g3, .int .i64 g4, .int .i64 g5] 23 (0, 0)))) := hide ⟨HP2.out.later (alloc_below _ _), below_box (alloc_below _ _) HX2.out, heap_alloc_new y1 _, ⟨HLT.out, box_lt HX2.out⟩⟩
      go_wp2_with fail
      go_meet
      case rel => exact ⟨_, rfl, rfl, HC⟩
    · go_simp
      refine hK.out _ _ (by go_keep) (fun hHeld => ?_)
      clear hK
      obtain ⟨X1, hX1⟩ : ∃ X1, X1 = V.alloc (.cells #[.int .i64 0, .int .i64 0, .int .i64 0, .int .i64 0, .int .i64 0, .int .i64 0] 23 (0, 0)) := ⟨_, rfl⟩
      have bX : Below V.heap.size V X1 := by rw [hX1]; exact alloc_below _ _
      have hv : X1.heap[V.heap.size]? = some (.cells #[.int .i64 0, .int .i64 0, .int .i64 0, .int .i64 0, .int .i64 0, .int .i64 0] 23 (0, 0)) := by rw [hX1]; exact heap_alloc_new V _
      obtain ⟨vB, hvB⟩ : ∃ vB, V.heap.size = vB := ⟨_, rfl⟩
      have HNV : Hid (pB < xB ∧ xB < vB) := hide ⟨HLT.out, by rw [← hvB]; exact box_lt HX0.out⟩
      rw [hvB] at hv
      have B1 : Below X1.heap.size X1 X1.drew := (Below.refl _ X1).drew
      have HP3 := hide ((HP0.out.later bX).later B1)
      have HX3 := hide (below_box B1 (below_box bX HX0.out))
      have HV3 := hide (below_box B1 hv)
      rw [← hX1] at hHeld
      rw [← hX1]
      try rw [hvB]
      clear hX1 hvB hv bX B1
      refine wpAnyH_ready (rs := [10]) (by kernel_rfl) (by simp) ?_
      refine AllReadyH.cons (o := _) rfl (fun K hK => ?_) AllReadyH.nil
      go_simp
      refine grn_any.mono ?_
      rw [HR.out]
      simp only [GE.val, GE.row]
      rintro _ y1 ⟨rfl, b1⟩
      have HP2 := hide (HP3.out.later b1)
      have HX2 := hide (below_box b1 HX3.out)
      have HV2 := hide (below_box b1 HV3.out)
      clear b1 hHeld x0 x1 x2 x3 x4 u0 u1 u2 u3 u4 u5
      obtain ⟨_, _, _, _, _, x0, x1, x2, x3, x4⟩ := five HX2.out
      have u0 := cellB (i := 0) (v := .int .i64 c0) HP2.out.box rfl
      have u1 := cellB (i := 1) (v := .int .i64 c1) HP2.out.box rfl
      have u2 := cellB (i := 2) (v := .int .i64 c2) HP2.out.box rfl
      have u3 := cellB (i := 3) (v := .int .i64 c3) HP2.out.box rfl
      have u4 := cellB (i := 4) (v := .int .i64 c4) HP2.out.box rfl
      have u5 := cellB (i := 5) (v := .int .i64 c5) HP2.out.box rfl
      obtain ⟨_, _, _, _, _, _, v0, v1, v2, v3, v4, v5⟩ := six HV2.out
      have hnv : vB ≠ pB := by have := HNV.out; omega
      have hnx : vB ≠ xB := by have := HNV.out; omega
      have hnv2 := hnv.symm
      have hnx2 := hnx.symm
      go_wp2_with fail
      refine hK.out _ _ ⟨x3, x4, ⟨u0, u1, u2, u3, u4, u5⟩⟩ (fun hHeld => ?_)
      clear hK
      refine wpAnyH_take (i := 11) (oi := _) (v := ?_) rfl (by kernel_rfl) (by kernel_rfl) (by kernel_rfl) (fun _ _ _ h => h) (Or.inl ⟨by kernel_rfl, ?_⟩) (by assumption) ?_
      rotate_left
      · intro w hSw
        (try dsimp only at hSw)
        go_simp
        all_goals with_reducible rfl
      simp only [Act.put]
      refine wpAnyH_take (i := 12) (oi := _) (v := ?_) rfl (by kernel_rfl) (by kernel_rfl) (by kernel_rfl) (fun _ _ _ h => h) (Or.inl ⟨by kernel_rfl, ?_⟩) (by assumption) ?_
      rotate_left
      · intro w hSw
        (try dsimp only at hSw)
        go_simp
        all_goals with_reducible rfl
      simp only [Act.put]
      refine wpAnyH_take (i := 13) (oi := _) (v := ?_) rfl (by kernel_rfl) (by kernel_rfl) (by kernel_rfl) (fun _ _ _ h => h) (Or.inl ⟨by kernel_rfl, ?_⟩) (by assumption) ?_
      rotate_left
      · intro w hSw
        (try dsimp only at hSw)
        go_simp
        all_goals with_reducible rfl
      simp only [Act.put]
      refine wpAnyH_ready (rs := [15]) (by kernel_rfl) (by simp) ?_
      refine AllReadyH.cons (o := _) rfl (fun K hK => ?_) AllReadyH.nil
      go_simp
      refine hK.out _ _ (by go_keep) (fun hHeld => ?_)
      clear hK
      refine wpAnyH_ready (rs := [16]) (by kernel_rfl) (by simp) ?_
      refine AllReadyH.cons (o := _) rfl (fun K hK => ?_) AllReadyH.nil
      go_simp
      refine hK.out _ _ (by go_keep) (fun hHeld => ?_)
      clear hK
      refine wpAnyH_done (by kernel_rfl) ?_ _
      have oV : Only (· = vB) y1 (set6 y1 vB (.int .i64 g0) (.int .i64 g1) (.int .i64 g2) (.int .i64 g3) (.int .i64 g4) (.int .i64 g5)) := only_set6 y1 vB (.int .i64 g0) (.int .i64 g1) (.int .i64 g2) (.int .i64 g3) (.int .i64 g4) (.int .i64 g5)
      have HC : Hid (CI B W0 pB mA mB n ⟨⟨⟨c0, c1, c2, c3, c4, c5⟩, a0, b0, h0, f0⟩, ⟨⟨d0, d1, d2, d3, d4, d5⟩, a1, b1, h1, f1⟩, ⟨l0, l1, l2, l3, l4, so⟩, bag, ck⟩ sp cap xB #[.int .i64 0, .bool true, .int .i64 xk, .int .i64 xs, .int .i64 xe] vB ⟨g0, g1, g2, g3, g4, g5⟩ (set6 y1 vB (.int .i64 g0) (.int .i64 g1) (.int .i64 g2) (.int .i64 g3) (.int .i64 g4) (.int .i64 g5))) := hide ⟨HP2.out.only oV HNV.out.1 HNV.out.2 ⟨_, HV2.out⟩, oV.obj HX2.out (fun e => by have e' : xB = vB := e; have := HNV.out; omega), heap_set6 HV2.out (.int .i64 g0) (.int .i64 g1) (.int .i64 g2) (.int .i64 g3) (.int .i64 g4) (.int .i64 g5), HNV.out⟩
      unfold set6 at HC
      go_wp2_with fail
      go_meet
      case rel => exact ⟨_, rfl, rfl, HC⟩
  case rest =>
  rename World => X
  obtain ⟨vB, rfl, rfl, HC⟩ := hcut
  clear HP0 HX0 HP1 HX1 B0 x0 x1 x2 x3 x4 u0 u1 u2 u3 u4 u5
  have hne1 : pB ≠ xB := by have := HC.out.lt; omega
  have hne2 : xB ≠ pB := hne1.symm
  have hne3 : pB ≠ vB := by have := HC.out.lt; omega
  have hne4 : vB ≠ pB := hne3.symm
  obtain ⟨_, _, _, _, _, x0, x1, x2, x3, x4⟩ := five HC.out.xbox
  have u20 := cellB (i := 20) (v := .map (some mA)) HC.out.rep.box rfl
  have u22 := cellB (i := 22) (v := .int .i64 a0) HC.out.rep.box rfl
  have u23 := cellB (i := 23) (v := .int .i64 b0) HC.out.rep.box rfl
  have u26 := cellB (i := 26) (v := .bool h0) HC.out.rep.box rfl
  have z22 := frB (i := 22) HC.out.rep.box
  have z23 := frB (i := 23) HC.out.rep.box
  have z26 := frB (i := 26) HC.out.rep.box
  have hlk := (HC.out.rep.ma.later ((Below.refl _ X).drew)).look HNUM.out.1 HNUM.out.2
  go_upto_region 7 with fail
  refine wp_region_held_drew (S := fun w' => w'.cell? ⟨xB, 3, none⟩ = some (.int .i64 xs)) (by kernel_rfl) x3 (fun hHeld => ?_)
  refine wpAnyH_take (i := 0) (oi := _) (v := ?_) rfl (by kernel_rfl) (by kernel_rfl) (by kernel_rfl) (fun _ _ _ h => h) (Or.inl ⟨by kernel_rfl, ?_⟩) (by assumption) ?_
  rotate_left
  · intro w hSw
    (try dsimp only at hSw)
    go_simp
    all_goals with_reducible rfl
  simp only [Act.put]
  refine wpAnyH_take (i := 1) (oi := _) (v := ?_) rfl (by kernel_rfl) (by kernel_rfl) (by kernel_rfl) (fun _ _ _ h => h) (Or.inl ⟨by kernel_rfl, ?_⟩) (by assumption) ?_
  rotate_left
  · intro w hSw
    (try dsimp only at hSw)
    go_simp
    all_goals with_reducible rfl
  simp only [Act.put]
  refine wpAnyH_take (i := 2) (oi := _) (v := ?_) rfl (by kernel_rfl) (by kernel_rfl) (by kernel_rfl) (fun _ _ _ h => h) (Or.inl ⟨by kernel_rfl, ?_⟩) (by assumption) ?_
  rotate_left
  · intro w hSw
    (try dsimp only at hSw)
    go_simp
    all_goals with_reducible rfl
  simp only [Act.put]
  refine wpAnyH_take (i := 3) (oi := _) (v := ?_) rfl (by kernel_rfl) (by kernel_rfl) (by kernel_rfl) (fun _ _ _ h => h) (Or.inl ⟨by kernel_rfl, ?_⟩) (by assumption) ?_
  rotate_left
  · intro w hSw
    (try dsimp only at hSw)
    go_simp
    all_goals with_reducible rfl
  simp only [Act.put]
  refine wpAnyH_take (i := 4) (oi := _) (v := ?_) rfl (by kernel_rfl) (by kernel_rfl) (by kernel_rfl) (fun _ _ _ h => h) (Or.inl ⟨by kernel_rfl, ?_⟩) (by assumption) ?_
  rotate_left
  · intro w hSw
    (try dsimp only at hSw)
    go_simp
    all_goals with_reducible rfl
  simp only [Act.put]
  refine wpAnyH_take (i := 5) (oi := _) (v := ?_) rfl (by kernel_rfl) (by kernel_rfl) (by kernel_rfl) (fun _ _ _ h => h) (Or.inl ⟨by kernel_rfl, ?_⟩) (by assumption) ?_
  rotate_left
  · intro w hSw
    (try dsimp only at hSw)
    go_simp
    all_goals with_reducible rfl
  simp only [Act.put]
  refine wpAnyH_take (i := 6) (oi := _) (v := ?_) rfl (by kernel_rfl) (by kernel_rfl) (by kernel_rfl) (fun _ _ _ h => h) (Or.inl ⟨by kernel_rfl, ?_⟩) (by assumption) ?_
  rotate_left
  · intro w hSw
    (try dsimp only at hSw)
    go_simp
    all_goals with_reducible rfl
  simp only [Act.put]
  refine wpAnyH_take (i := 7) (oi := _) (v := ?_) rfl (by kernel_rfl) (by kernel_rfl) (by kernel_rfl) (fun _ _ _ h => h) (Or.inl ⟨by kernel_rfl, ?_⟩) (by assumption) ?_
  rotate_left
  · intro w hSw
    (try dsimp only at hSw)
    go_simp
    all_goals with_reducible rfl
  simp only [Act.put]
  refine wpAnyH_take (i := 8) (oi := _) (v := ?_) rfl (by kernel_rfl) (by kernel_rfl) (by kernel_rfl) (fun _ _ _ h => h) (Or.inl ⟨by kernel_rfl, ?_⟩) (by assumption) ?_
  rotate_left
  · intro w hSw
    (try dsimp only at hSw)
    go_simp
    all_goals with_reducible rfl
  simp only [Act.put]
  refine wpAnyH_take (i := 10) (oi := _) (v := ?_) rfl (by kernel_rfl) (by kernel_rfl) (by kernel_rfl) (fun _ _ _ h => h) (Or.inl ⟨by kernel_rfl, ?_⟩) (by assumption) ?_
  rotate_left
  · intro w hSw
    (try dsimp only at hSw)
    go_simp
    all_goals with_reducible rfl
  simp only [Act.put]
  refine wpAnyH_take (i := 11) (oi := _) (v := ?_) rfl (by kernel_rfl) (by kernel_rfl) (by kernel_rfl) (fun _ _ _ h => h) (Or.inl ⟨by kernel_rfl, ?_⟩) (by assumption) ?_
  rotate_left
  · intro w hSw
    (try dsimp only at hSw)
    go_simp
    all_goals with_reducible rfl
  simp only [Act.put]
  refine wpAnyH_take (i := 13) (oi := _) (v := ?_) rfl (by kernel_rfl) (by kernel_rfl) (by kernel_rfl) (fun _ _ _ h => h) (Or.inl ⟨by kernel_rfl, ?_⟩) (by assumption) ?_
  rotate_left
  · intro w hSw
    (try dsimp only at hSw)
    go_simp
    all_goals with_reducible rfl
  simp only [Act.put]
  refine wpAnyH_take (i := 14) (oi := _) (v := ?_) rfl (by kernel_rfl) (by kernel_rfl) (by kernel_rfl) (fun _ _ _ h => h) (Or.inl ⟨by kernel_rfl, ?_⟩) (by assumption) ?_
  rotate_left
  · intro w hSw
    (try dsimp only at hSw)
    go_simp
    all_goals with_reducible rfl
  simp only [Act.put]
  refine wpAnyH_take (i := 17) (oi := _) (v := ?_) rfl (by kernel_rfl) (by kernel_rfl) (by kernel_rfl) (fun _ _ _ h => h) (Or.inl ⟨by kernel_rfl, ?_⟩) (by assumption) ?_
  rotate_left
  · intro w hSw
    (try dsimp only at hSw)
    go_simp
    all_goals with_reducible rfl
  simp only [Act.put]
  refine wpAnyH_take (i := 18) (oi := _) (v := ?_) rfl (by kernel_rfl) (by kernel_rfl) (by kernel_rfl) (fun _ _ _ h => h) (Or.inl ⟨by kernel_rfl, ?_⟩) (by assumption) ?_
  rotate_left
  · intro w hSw
    (try dsimp only at hSw)
    go_simp
    all_goals with_reducible rfl
  simp only [Act.put]
  refine wpAnyH_ready (rs := [9]) (by kernel_rfl) (by simp) ?_
  refine AllReadyH.cons (o := _) rfl (fun K hK => ?_) AllReadyH.nil
  go_simp
  refine hK.out _ _ hHeld (fun hHeld => ?_)
  clear hK
  refine wpAnyH_ready (rs := [12]) (by kernel_rfl) (by simp) ?_
  refine AllReadyH.cons (o := _) rfl (fun K hK => ?_) AllReadyH.nil
  go_simp
  refine hK.out _ _ hHeld (fun hHeld => ?_)
  clear hK
  refine wpAnyH_take (i := 15) (oi := _) (v := ?_) rfl (by kernel_rfl) (by kernel_rfl) (by kernel_rfl) (fun _ _ _ h => h) (Or.inl ⟨by kernel_rfl, ?_⟩) (by assumption) ?_
  rotate_left
  · intro w hSw
    (try dsimp only at hSw)
    go_simp
    all_goals with_reducible rfl
  simp only [Act.put]
  refine wpAnyH_ready (rs := [16]) (by kernel_rfl) (by simp) ?_
  refine AllReadyH.cons (o := _) rfl (fun K hK => ?_) AllReadyH.nil
  go_simp
  refine hK.out _ _ (by go_keep) (fun hHeld => ?_)
  clear hK
  refine wpAnyH_take (i := 19) (oi := _) (v := ?_) rfl (by kernel_rfl) (by kernel_rfl) (by kernel_rfl) (fun _ _ _ h => h) (Or.inl ⟨by kernel_rfl, ?_⟩) (by assumption) ?_
  rotate_left
  · intro w hSw
    (try dsimp only at hSw)
    go_simp
    all_goals with_reducible rfl
  simp only [Act.put]
  refine wpAnyH_ready (rs := [20]) (by kernel_rfl) (by simp) ?_
  refine AllReadyH.cons (o := _) rfl (fun K hK => ?_) AllReadyH.nil
  go_simp
  refine hK.out _ _ (by go_keep) (fun hHeld => ?_)
  clear hK
  refine wpAnyH_done (by kernel_rfl) ?_ _
  obtain ⟨Y, hY⟩ : ∃ Y, Y = (((X.setCell ⟨pB, 22, none⟩ (.int .i64 (f0 xs).1)).setCell ⟨pB, 23, none⟩ (.int .i64 (f0 xs).2)).setCell ⟨pB, 26, none⟩ (.bool true)) := ⟨_, rfl⟩
  have oY : Only (· = pB) X Y := by rw [hY]; exact ((((Only.refl (· = pB) X).trans (Only.set _ pB 22 (.int .i64 (f0 xs).1) rfl)).trans (Only.set _ pB 23 (.int .i64 (f0 xs).2) rfl)).trans (Only.set _ pB 26 (.bool true) rfl))
  have HP5 : Hid (PRep B W0 pB mA mB n ⟨⟨⟨c0, c1, c2, c3, c4, c5⟩, (f0 xs).1, (f0 xs).2, true, f0⟩, ⟨⟨d0, d1, d2, d3, d4, d5⟩, a1, b1, h1, f1⟩, ⟨l0, l1, l2, l3, l4, so⟩, bag, ck⟩ sp cap Y) := hide (HC.out.rep.put oY (by rw [hY]; exact (heap_set_sameL (heap_set_sameL (heap_set_sameL HC.out.rep.box 22 (.int .i64 (f0 xs).1)) 23 (.int .i64 (f0 xs).2)) 26 (.bool true))) rfl rfl rfl)
  have HV5 := hide (oY.obj HC.out.vbox (fun e => by have e' : vB = pB := e; omega))
  rw [← hY]
  clear hY oY hlk hHeld HC x0 x1 x2 x3 x4 u20 u22 z22 u23 z23 u26 z26
  obtain ⟨_, _, _, _, _, _, v0, v1, v2, v3, v4, v5⟩ := six HV5.out
  try simp only at v0 v1 v2 v3 v4 v5
  have u0 := cellB (i := 0) (v := .int .i64 c0) HP5.out.box rfl
  have u1 := cellB (i := 1) (v := .int .i64 c1) HP5.out.box rfl
  have u2 := cellB (i := 2) (v := .int .i64 c2) HP5.out.box rfl
  have u3 := cellB (i := 3) (v := .int .i64 c3) HP5.out.box rfl
  have u4 := cellB (i := 4) (v := .int .i64 c4) HP5.out.box rfl
  have u5 := cellB (i := 5) (v := .int .i64 c5) HP5.out.box rfl
  have z0 := frB (i := 0) HP5.out.box
  have z1 := frB (i := 1) HP5.out.box
  have z2 := frB (i := 2) HP5.out.box
  have z3 := frB (i := 3) HP5.out.box
  have z4 := frB (i := 4) HP5.out.box
  have z5 := frB (i := 5) HP5.out.box
  go_upto_region 8 with fail
  refine wp_region_held_drew (S := fun w' => w'.cell? ⟨vB, 0, none⟩ = some (.int .i64 g0) ∧ w'.cell? ⟨vB, 1, none⟩ = some (.int .i64 g1) ∧ w'.cell? ⟨vB, 2, none⟩ = some (.int .i64 g2) ∧ w'.cell? ⟨vB, 3, none⟩ = some (.int .i64 g3) ∧ w'.cell? ⟨vB, 4, none⟩ = some (.int .i64 g4) ∧ w'.cell? ⟨vB, 5, none⟩ = some (.int .i64 g5)) (by kernel_rfl) ⟨v0, v1, v2, v3, v4, v5⟩ (fun hHeld => ?_)
  refine wpAnyH_take (i := 0) (oi := _) (v := ?_) rfl (by kernel_rfl) (by kernel_rfl) (by kernel_rfl) (fun _ _ _ h => h) (Or.inl ⟨by kernel_rfl, ?_⟩) (by assumption) ?_
  rotate_left
  · intro w hSw
    (try dsimp only at hSw)
    go_simp
    all_goals with_reducible rfl
  simp only [Act.put]
  refine wpAnyH_take (i := 1) (oi := _) (v := ?_) rfl (by kernel_rfl) (by kernel_rfl) (by kernel_rfl) (fun _ _ _ h => h) (Or.inl ⟨by kernel_rfl, ?_⟩) (by assumption) ?_
  rotate_left
  · intro w hSw
    (try dsimp only at hSw)
    go_simp
    all_goals with_reducible rfl
  simp only [Act.put]
  refine wpAnyH_take (i := 2) (oi := _) (v := ?_) rfl (by kernel_rfl) (by kernel_rfl) (by kernel_rfl) (fun _ _ _ h => h) (Or.inl ⟨by kernel_rfl, ?_⟩) (by assumption) ?_
  rotate_left
  · intro w hSw
    (try dsimp only at hSw)
    go_simp
    all_goals with_reducible rfl
  simp only [Act.put]
  refine wpAnyH_take (i := 3) (oi := _) (v := ?_) rfl (by kernel_rfl) (by kernel_rfl) (by kernel_rfl) (fun _ _ _ h => h) (Or.inl ⟨by kernel_rfl, ?_⟩) (by assumption) ?_
  rotate_left
  · intro w hSw
    (try dsimp only at hSw)
    go_simp
    all_goals with_reducible rfl
  simp only [Act.put]
  refine wpAnyH_take (i := 4) (oi := _) (v := ?_) rfl (by kernel_rfl) (by kernel_rfl) (by kernel_rfl) (fun _ _ _ h => h) (Or.inl ⟨by kernel_rfl, ?_⟩) (by assumption) ?_
  rotate_left
  · intro w hSw
    (try dsimp only at hSw)
    go_simp
    all_goals with_reducible rfl
  simp only [Act.put]
  refine wpAnyH_take (i := 5) (oi := _) (v := ?_) rfl (by kernel_rfl) (by kernel_rfl) (by kernel_rfl) (fun _ _ _ h => h) (Or.inl ⟨by kernel_rfl, ?_⟩) (by assumption) ?_
  rotate_left
  · intro w hSw
    (try dsimp only at hSw)
    go_simp
    all_goals with_reducible rfl
  simp only [Act.put]
  refine wpAnyH_ready (rs := [6]) (by kernel_rfl) (by simp) ?_
  refine AllReadyH.cons (o := _) rfl (fun K hK => ?_) AllReadyH.nil
  go_simp
  refine hK.out _ _ (by go_keep) (fun hHeld => ?_)
  clear hK
  refine wpAnyH_done (by kernel_rfl) ?_ _
  go_wp2
  refine bodyPost_ret (results_none rfl _ _ _) rfl ?_
  have HF := HP5.out.put (q := ⟨⟨⟨g0, g1, g2, g3, g4, g5⟩, (f0 xs).1, (f0 xs).2, true, f0⟩, ⟨⟨d0, d1, d2, d3, d4, d5⟩, a1, b1, h1, f1⟩, ⟨l0, l1, l2, l3, l4, so⟩, bag, ck⟩) (((((((Only.refl (· = pB) Y).trans (Only.set _ pB 0 (.int .i64 g0) rfl)).trans (Only.set _ pB 1 (.int .i64 g1) rfl)).trans (Only.set _ pB 2 (.int .i64 g2) rfl)).trans (Only.set _ pB 3 (.int .i64 g3) rfl)).trans (Only.set _ pB 4 (.int .i64 g4) rfl)).trans (Only.set _ pB 5 (.int .i64 g5) rfl)) (heap_set_sameL (heap_set_sameL (heap_set_sameL (heap_set_sameL (heap_set_sameL (heap_set_sameL HP5.out.box 0 (.int .i64 g0)) 1 (.int .i64 g1)) 2 (.int .i64 g2)) 3 (.int .i64 g3)) 4 (.int .i64 g4)) 5 (.int .i64 g5)) rfl rfl rfl
  exact ⟨rfl, sp, cap, HF.later ((Below.refl _ _).drew.drew)⟩
set_option maxRecDepth 100000 in
set_option maxHeartbeats 8000000 in
theorem com_grn0f {W : World} {B pB mA mB n cap : Nat} {sp : Option Addr} {W0 : World} {c0 c1 c2 c3 c4 c5 d0 d1 d2 d3 d4 d5 a0 b0 a1 b1 l0 l1 l2 l3 l4 ck : Int} {h0 h1 so : Bool} {f0 f1 : Int → Int × Int} {bag : List LT} {xs xe xk g0 g1 g2 g3 g4 g5 : Int} (hP : PRep B W0 pB mA mB n ⟨⟨⟨c0, c1, c2, c3, c4, c5⟩, a0, b0, h0, f0⟩, ⟨⟨d0, d1, d2, d3, d4, d5⟩, a1, b1, h1, f1⟩, ⟨l0, l1, l2, l3, l4, so⟩, bag, ck⟩ sp cap W) (hk : xk ≠ 0) (hr : grnG ⟨c0, c1, c2, c3, c4, c5⟩ xs xe = (⟨g0, g1, g2, g3, g4, g5⟩, false)) :
    Calls Try.prog 39 #[.pointer (some ⟨pB, 0, none⟩), .agg #[.int .i64 0, .bool true, .int .i64 xk, .int .i64 xs, .int .i64 xe]] W fun e w' => e = .returned (.tuple #[]) ∧ ∃ sp' cap', PRep B W0 pB mA mB n (comC ⟨⟨⟨c0, c1, c2, c3, c4, c5⟩, a0, b0, h0, f0⟩, ⟨⟨d0, d1, d2, d3, d4, d5⟩, a1, b1, h1, f1⟩, ⟨l0, l1, l2, l3, l4, so⟩, bag, ck⟩ ⟨0, true, xk, xs, xe⟩) sp' cap' w' := by
  have HR := hide hr
  have HQ : Hid (comC ⟨⟨⟨c0, c1, c2, c3, c4, c5⟩, a0, b0, h0, f0⟩, ⟨⟨d0, d1, d2, d3, d4, d5⟩, a1, b1, h1, f1⟩, ⟨l0, l1, l2, l3, l4, so⟩, bag, ck⟩ ⟨0, true, xk, xs, xe⟩ = ⟨⟨⟨g0, g1, g2, g3, g4, g5⟩, a0, b0, h0, f0⟩, ⟨⟨d0, d1, d2, d3, d4, d5⟩, a1, b1, h1, f1⟩, ⟨l0, l1, l2, l3, l4, so⟩, bag, ck⟩) := hide (by
    have e : grnG (PL.at ⟨⟨⟨c0, c1, c2, c3, c4, c5⟩, a0, b0, h0, f0⟩, ⟨⟨d0, d1, d2, d3, d4, d5⟩, a1, b1, h1, f1⟩, ⟨l0, l1, l2, l3, l4, so⟩, bag, ck⟩ 0).g xs xe = (⟨g0, g1, g2, g3, g4, g5⟩, false) := hr
    unfold comC
    rw [if_pos rfl, if_neg hk]
    simp only
    rw [e]
    rfl)
  rw [HQ.out]
  have hd : (xk == 0) = false := ne_eqL hk
  clear hr hk
  obtain ⟨V, hV⟩ : ∃ V, V = W.alloc (.cells #[.int .i64 0, .bool true, .int .i64 xk, .int .i64 xs, .int .i64 xe] 64 (0, 0)) := ⟨_, rfl⟩
  have bV : Below W.heap.size W V := by rw [hV]; exact alloc_below _ _
  have hx : V.heap[W.heap.size]? = some (.cells #[.int .i64 0, .bool true, .int .i64 xk, .int .i64 xs, .int .i64 xe] 64 (0, 0)) := by rw [hV]; exact heap_alloc_new W _
  obtain ⟨xB, hxB⟩ : ∃ xB, W.heap.size = xB := ⟨_, rfl⟩
  have hlt : pB < xB := by rw [← hxB]; exact box_lt hP.box
  have HLT : Hid (pB < xB) := hide hlt
  rw [hxB] at hx
  have HX0 := hide hx
  have HP0 := hide (hP.later bV)
  clear hx bV hP hlt
  go_enter Try.func39, Try.ntmps39
  go_upto_region 1 with fail
  rw [← hV]
  try rw [hxB]
  clear hV hxB
  obtain ⟨_, _, _, _, _, x0, x1, x2, x3, x4⟩ := five HX0.out
  go_upto_region 5 with fail
  have u0 := cellB (i := 0) (v := .int .i64 c0) HP0.out.box rfl
  have u1 := cellB (i := 1) (v := .int .i64 c1) HP0.out.box rfl
  have u2 := cellB (i := 2) (v := .int .i64 c2) HP0.out.box rfl
  have u3 := cellB (i := 3) (v := .int .i64 c3) HP0.out.box rfl
  have u4 := cellB (i := 4) (v := .int .i64 c4) HP0.out.box rfl
  have u5 := cellB (i := 5) (v := .int .i64 c5) HP0.out.box rfl
  have B0 : Below V.heap.size V V.drew := (Below.refl _ V).drew
  have HP1 := hide (HP0.out.later B0)
  have HX1 := hide (below_box B0 HX0.out)
  go_cut [5, 6] from 34 to 47 (fun s5 s6 wd => ∃ vB, s5 = .pointer (some ⟨vB, 0, none⟩) ∧ s6 = .bool false ∧ Hid (CI B W0 pB mA mB n ⟨⟨⟨c0, c1, c2, c3, c4, c5⟩, a0, b0, h0, f0⟩, ⟨⟨d0, d1, d2, d3, d4, d5⟩, a1, b1, h1, f1⟩, ⟨l0, l1, l2, l3, l4, so⟩, bag, ck⟩ sp cap xB #[.int .i64 0, .bool true, .int .i64 xk, .int .i64 xs, .int .i64 xe] vB ⟨g0, g1, g2, g3, g4, g5⟩ wd))
  case first =>
    refine wp_region_held_drew (S := fun w' => w'.cell? ⟨xB, 3, none⟩ = some (.int .i64 xs) ∧ w'.cell? ⟨xB, 4, none⟩ = some (.int .i64 xe) ∧ (w'.cell? ⟨pB, 0, none⟩ = some (.int .i64 c0) ∧ w'.cell? ⟨pB, 1, none⟩ = some (.int .i64 c1) ∧ w'.cell? ⟨pB, 2, none⟩ = some (.int .i64 c2) ∧ w'.cell? ⟨pB, 3, none⟩ = some (.int .i64 c3) ∧ w'.cell? ⟨pB, 4, none⟩ = some (.int .i64 c4) ∧ w'.cell? ⟨pB, 5, none⟩ = some (.int .i64 c5))) (by kernel_rfl) ⟨x3, x4, ⟨u0, u1, u2, u3, u4, u5⟩⟩ (fun hHeld => ?_)
    refine wpAnyH_take (i := 0) (oi := _) (v := ?_) rfl (by kernel_rfl) (by kernel_rfl) (by kernel_rfl) (fun _ _ _ h => h) (Or.inl ⟨by kernel_rfl, ?_⟩) (by assumption) ?_
    rotate_left
    · intro w hSw
      (try dsimp only at hSw)
      go_simp
      all_goals with_reducible rfl
    simp only [Act.put]
    refine wpAnyH_take (i := 1) (oi := _) (v := ?_) rfl (by kernel_rfl) (by kernel_rfl) (by kernel_rfl) (fun _ _ _ h => h) (Or.inl ⟨by kernel_rfl, ?_⟩) (by assumption) ?_
    rotate_left
    · intro w hSw
      (try dsimp only at hSw)
      go_simp
      all_goals with_reducible rfl
    simp only [Act.put]
    refine wpAnyH_take (i := 2) (oi := _) (v := ?_) rfl (by kernel_rfl) (by kernel_rfl) (by kernel_rfl) (fun _ _ _ h => h) (Or.inl ⟨by kernel_rfl, ?_⟩) (by assumption) ?_
    rotate_left
    · intro w hSw
      (try dsimp only at hSw)
      go_simp
      all_goals with_reducible rfl
    simp only [Act.put]
    refine wpAnyH_take (i := 3) (oi := _) (v := ?_) rfl (by kernel_rfl) (by kernel_rfl) (by kernel_rfl) (fun _ _ _ h => h) (Or.inl ⟨by kernel_rfl, ?_⟩) (by assumption) ?_
    rotate_left
    · intro w hSw
      (try dsimp only at hSw)
      go_simp
      all_goals with_reducible rfl
    simp only [Act.put]
    refine wpAnyH_take (i := 4) (oi := _) (v := ?_) rfl (by kernel_rfl) (by kernel_rfl) (by kernel_rfl) (fun _ _ _ h => h) (Or.inl ⟨by kernel_rfl, ?_⟩) (by assumption) ?_
    rotate_left
    · intro w hSw
      (try dsimp only at hSw)
      go_simp
      all_goals with_reducible rfl
    simp only [Act.put]
    refine wpAnyH_take (i := 5) (oi := _) (v := ?_) rfl (by kernel_rfl) (by kernel_rfl) (by kernel_rfl) (fun _ _ _ h => h) (Or.inl ⟨by kernel_rfl, ?_⟩) (by assumption) ?_
    rotate_left
    · intro w hSw
      (try dsimp only at hSw)
      go_simp
      all_goals with_reducible rfl
    simp only [Act.put]
    refine wpAnyH_take (i := 6) (oi := _) (v := ?_) rfl (by kernel_rfl) (by kernel_rfl) (by kernel_rfl) (fun _ _ _ h => h) (Or.inl ⟨by kernel_rfl, ?_⟩) (by assumption) ?_
    rotate_left
    · intro w hSw
      (try dsimp only at hSw)
      go_simp
      all_goals with_reducible rfl
    simp only [Act.put]
    refine wpAnyH_take (i := 7) (oi := _) (v := ?_) rfl (by kernel_rfl) (by kernel_rfl) (by kernel_rfl) (fun _ _ _ h => h) (Or.inl ⟨by kernel_rfl, ?_⟩) (by assumption) ?_
    rotate_left
    · intro w hSw
      (try dsimp only at hSw)
      go_simp
      all_goals with_reducible rfl
    simp only [Act.put]
    refine wpAnyH_take (i := 8) (oi := _) (v := ?_) rfl (by kernel_rfl) (by kernel_rfl) (by kernel_rfl) (fun _ _ _ h => h) (Or.inl ⟨by kernel_rfl, ?_⟩) (by assumption) ?_
    rotate_left
    · intro w hSw
      (try dsimp only at hSw)
      go_simp
      all_goals with_reducible rfl
    simp only [Act.put]
    refine wpAnyH_take (i := 9) (oi := _) (v := ?_) rfl (by kernel_rfl) (by kernel_rfl) (by kernel_rfl) (fun _ _ _ h => h) (Or.inl ⟨by kernel_rfl, ?_⟩) (by assumption) ?_
    rotate_left
    · intro w hSw
      (try dsimp only at hSw)
      go_simp
      all_goals with_reducible rfl
    simp only [Act.put]
    refine wpAnyH_ready (rs := [10, 14]) (by kernel_rfl) (by simp) ?_
    refine AllReadyH.cons (o := _) rfl (fun K hK => ?_) (AllReadyH.cons (o := _) rfl (fun K hK => ?_) AllReadyH.nil)
    · go_simp
      refine grn_any.mono ?_
      rw [HR.out]
      simp only [GE.val, GE.row]
      rintro _ y1 ⟨rfl, b1⟩
      have HP2 := hide (HP1.out.later b1)
      have HX2 := hide (below_box b1 HX1.out)
      clear b1 hHeld x0 x1 x2 x3 x4 u0 u1 u2 u3 u4 u5
      obtain ⟨_, _, _, _, _, x0, x1, x2, x3, x4⟩ := five HX2.out
      have u0 := cellB (i := 0) (v := .int .i64 c0) HP2.out.box rfl
      have u1 := cellB (i := 1) (v := .int .i64 c1) HP2.out.box rfl
      have u2 := cellB (i := 2) (v := .int .i64 c2) HP2.out.box rfl
      have u3 := cellB (i := 3) (v := .int .i64 c3) HP2.out.box rfl
      have u4 := cellB (i := 4) (v := .int .i64 c4) HP2.out.box rfl
      have u5 := cellB (i := 5) (v := .int .i64 c5) HP2.out.box rfl
      go_wp2_with fail
      refine hK.out _ _ ⟨x3, x4, ⟨u0, u1, u2, u3, u4, u5⟩⟩ (fun hHeld => ?_)
      clear hK
      refine wpAnyH_take (i := 11) (oi := _) (v := ?_) rfl (by kernel_rfl) (by kernel_rfl) (by kernel_rfl) (fun _ _ _ h => h) (Or.inl ⟨by kernel_rfl, ?_⟩) (by assumption) ?_
      rotate_left
      · intro w hSw
        (try dsimp only at hSw)
        go_simp
        all_goals with_reducible rfl
      simp only [Act.put]
      refine wpAnyH_take (i := 12) (oi := _) (v := ?_) rfl (by kernel_rfl) (by kernel_rfl) (by kernel_rfl) (fun _ _ _ h => h) (Or.inl ⟨by kernel_rfl, ?_⟩) (by assumption) ?_
      rotate_left
      · intro w hSw
        (try dsimp only at hSw)
        go_simp
        all_goals with_reducible rfl
      simp only [Act.put]
      refine wpAnyH_take (i := 13) (oi := _) (v := ?_) rfl (by kernel_rfl) (by kernel_rfl) (by kernel_rfl) (fun _ _ _ h => h) (Or.inl ⟨by kernel_rfl, ?_⟩) (by assumption) ?_
      rotate_left
      · intro w hSw
        (try dsimp only at hSw)
        go_simp
        all_goals with_reducible rfl
      simp only [Act.put]
      refine wpAnyH_ready (rs := [14]) (by kernel_rfl) (by simp) ?_
      refine AllReadyH.cons (o := _) rfl (fun K hK => ?_) AllReadyH.nil
      go_simp
      refine hK.out _ _ (by go_keep) (fun hHeld => ?_)
      clear hK
      refine wpAnyH_ready (rs := [15]) (by kernel_rfl) (by simp) ?_
      refine AllReadyH.cons (o := _) rfl (fun K hK => ?_) AllReadyH.nil
      go_simp
      refine hK.out _ _ (by go_keep) (fun hHeld => ?_)
      clear hK
      refine wpAnyH_ready (rs := [16]) (by kernel_rfl) (by simp) ?_
      refine AllReadyH.cons (o := _) rfl (fun K hK => ?_) AllReadyH.nil
      go_simp
      refine hK.out _ _ (by go_keep) (fun hHeld => ?_)
      clear hK
      refine wpAnyH_done (by kernel_rfl) ?_ _
      have HC : Hid (CI B W0 pB mA mB n ⟨⟨⟨c0, c1, c2, c3, c4, c5⟩, a0, b0, h0, f0⟩, ⟨⟨d0, d1, d2, d3, d4, d5⟩, a1, b1, h1, f1⟩, ⟨l0, l1, l2, l3, l4, so⟩, bag, ck⟩ sp cap xB #[.int .i64 0, .bool true, .int .i64 xk, .int .i64 xs, .int .i64 xe] y1.heap.size ⟨g0, g1, g2, g3, g4, g5⟩ (y1.alloc (.cells #[.int .i64 g0, .int .i64 g1, .int .i64 g2, .int .i64 g3, .int .i64 g4, .int .i64 g5] 23 (0, 0)))) := hide ⟨HP2.out.later (alloc_below _ _), below_box (alloc_below _ _) HX2.out, heap_alloc_new y1 _, ⟨HLT.out, box_lt HX2.out⟩⟩
      go_wp2_with fail
      go_meet
      case rel => exact ⟨_, rfl, rfl, HC⟩
    · go_simp
      refine hK.out _ _ (by go_keep) (fun hHeld => ?_)
      clear hK
      obtain ⟨X1, hX1⟩ : ∃ X1, X1 = V.alloc (.cells #[.int .i64 0, .int .i64 0, .int .i64 0, .int .i64 0, .int .i64 0, .int .i64 0] 23 (0, 0)) := ⟨_, rfl⟩
      have bX : Below V.heap.size V X1 := by rw [hX1]; exact alloc_below _ _
      have hv : X1.heap[V.heap.size]? = some (.cells #[.int .i64 0, .int .i64 0, .int .i64 0, .int .i64 0, .int .i64 0, .int .i64 0] 23 (0, 0)) := by rw [hX1]; exact heap_alloc_new V _
      obtain ⟨vB, hvB⟩ : ∃ vB, V.heap.size = vB := ⟨_, rfl⟩
      have HNV : Hid (pB < xB ∧ xB < vB) := hide ⟨HLT.out, by rw [← hvB]; exact box_lt HX0.out⟩
      rw [hvB] at hv
      have B1 : Below X1.heap.size X1 X1.drew := (Below.refl _ X1).drew
      have HP3 := hide ((HP0.out.later bX).later B1)
      have HX3 := hide (below_box B1 (below_box bX HX0.out))
      have HV3 := hide (below_box B1 hv)
      rw [← hX1] at hHeld
      rw [← hX1]
      try rw [hvB]
      clear hX1 hvB hv bX B1
      refine wpAnyH_ready (rs := [10]) (by kernel_rfl) (by simp) ?_
      refine AllReadyH.cons (o := _) rfl (fun K hK => ?_) AllReadyH.nil
      go_simp
      refine grn_any.mono ?_
      rw [HR.out]
      simp only [GE.val, GE.row]
      rintro _ y1 ⟨rfl, b1⟩
      have HP2 := hide (HP3.out.later b1)
      have HX2 := hide (below_box b1 HX3.out)
      have HV2 := hide (below_box b1 HV3.out)
      clear b1 hHeld x0 x1 x2 x3 x4 u0 u1 u2 u3 u4 u5
      obtain ⟨_, _, _, _, _, x0, x1, x2, x3, x4⟩ := five HX2.out
      have u0 := cellB (i := 0) (v := .int .i64 c0) HP2.out.box rfl
      have u1 := cellB (i := 1) (v := .int .i64 c1) HP2.out.box rfl
      have u2 := cellB (i := 2) (v := .int .i64 c2) HP2.out.box rfl
      have u3 := cellB (i := 3) (v := .int .i64 c3) HP2.out.box rfl
      have u4 := cellB (i := 4) (v := .int .i64 c4) HP2.out.box rfl
      have u5 := cellB (i := 5) (v := .int .i64 c5) HP2.out.box rfl
      obtain ⟨_, _, _, _, _, _, v0, v1, v2, v3, v4, v5⟩ := six HV2.out
      have hnv : vB ≠ pB := by have := HNV.out; omega
      have hnx : vB ≠ xB := by have := HNV.out; omega
      have hnv2 := hnv.symm
      have hnx2 := hnx.symm
      go_wp2_with fail
      refine hK.out _ _ ⟨x3, x4, ⟨u0, u1, u2, u3, u4, u5⟩⟩ (fun hHeld => ?_)
      clear hK
      refine wpAnyH_take (i := 11) (oi := _) (v := ?_) rfl (by kernel_rfl) (by kernel_rfl) (by kernel_rfl) (fun _ _ _ h => h) (Or.inl ⟨by kernel_rfl, ?_⟩) (by assumption) ?_
      rotate_left
      · intro w hSw
        (try dsimp only at hSw)
        go_simp
        all_goals with_reducible rfl
      simp only [Act.put]
      refine wpAnyH_take (i := 12) (oi := _) (v := ?_) rfl (by kernel_rfl) (by kernel_rfl) (by kernel_rfl) (fun _ _ _ h => h) (Or.inl ⟨by kernel_rfl, ?_⟩) (by assumption) ?_
      rotate_left
      · intro w hSw
        (try dsimp only at hSw)
        go_simp
        all_goals with_reducible rfl
      simp only [Act.put]
      refine wpAnyH_take (i := 13) (oi := _) (v := ?_) rfl (by kernel_rfl) (by kernel_rfl) (by kernel_rfl) (fun _ _ _ h => h) (Or.inl ⟨by kernel_rfl, ?_⟩) (by assumption) ?_
      rotate_left
      · intro w hSw
        (try dsimp only at hSw)
        go_simp
        all_goals with_reducible rfl
      simp only [Act.put]
      refine wpAnyH_ready (rs := [15]) (by kernel_rfl) (by simp) ?_
      refine AllReadyH.cons (o := _) rfl (fun K hK => ?_) AllReadyH.nil
      go_simp
      refine hK.out _ _ (by go_keep) (fun hHeld => ?_)
      clear hK
      refine wpAnyH_ready (rs := [16]) (by kernel_rfl) (by simp) ?_
      refine AllReadyH.cons (o := _) rfl (fun K hK => ?_) AllReadyH.nil
      go_simp
      refine hK.out _ _ (by go_keep) (fun hHeld => ?_)
      clear hK
      refine wpAnyH_done (by kernel_rfl) ?_ _
      have oV : Only (· = vB) y1 (set6 y1 vB (.int .i64 g0) (.int .i64 g1) (.int .i64 g2) (.int .i64 g3) (.int .i64 g4) (.int .i64 g5)) := only_set6 y1 vB (.int .i64 g0) (.int .i64 g1) (.int .i64 g2) (.int .i64 g3) (.int .i64 g4) (.int .i64 g5)
      have HC : Hid (CI B W0 pB mA mB n ⟨⟨⟨c0, c1, c2, c3, c4, c5⟩, a0, b0, h0, f0⟩, ⟨⟨d0, d1, d2, d3, d4, d5⟩, a1, b1, h1, f1⟩, ⟨l0, l1, l2, l3, l4, so⟩, bag, ck⟩ sp cap xB #[.int .i64 0, .bool true, .int .i64 xk, .int .i64 xs, .int .i64 xe] vB ⟨g0, g1, g2, g3, g4, g5⟩ (set6 y1 vB (.int .i64 g0) (.int .i64 g1) (.int .i64 g2) (.int .i64 g3) (.int .i64 g4) (.int .i64 g5))) := hide ⟨HP2.out.only oV HNV.out.1 HNV.out.2 ⟨_, HV2.out⟩, oV.obj HX2.out (fun e => by have e' : xB = vB := e; have := HNV.out; omega), heap_set6 HV2.out (.int .i64 g0) (.int .i64 g1) (.int .i64 g2) (.int .i64 g3) (.int .i64 g4) (.int .i64 g5), HNV.out⟩
      unfold set6 at HC
      go_wp2_with fail
      go_meet
      case rel => exact ⟨_, rfl, rfl, HC⟩
  case rest =>
  rename World => X
  obtain ⟨vB, rfl, rfl, HC⟩ := hcut
  clear HP0 HX0 HP1 HX1 B0 x0 x1 x2 x3 x4 u0 u1 u2 u3 u4 u5
  have hne1 : pB ≠ xB := by have := HC.out.lt; omega
  have hne2 : xB ≠ pB := hne1.symm
  have hne3 : pB ≠ vB := by have := HC.out.lt; omega
  have hne4 : vB ≠ pB := hne3.symm
  have HP5 := hide HC.out.rep
  have HV5 := hide HC.out.vbox
  obtain ⟨Y, hY⟩ : ∃ Y, Y = X := ⟨_, rfl⟩
  rw [← hY] at HP5 HV5 ⊢
  clear hY HC
  obtain ⟨_, _, _, _, _, _, v0, v1, v2, v3, v4, v5⟩ := six HV5.out
  try simp only at v0 v1 v2 v3 v4 v5
  have u0 := cellB (i := 0) (v := .int .i64 c0) HP5.out.box rfl
  have u1 := cellB (i := 1) (v := .int .i64 c1) HP5.out.box rfl
  have u2 := cellB (i := 2) (v := .int .i64 c2) HP5.out.box rfl
  have u3 := cellB (i := 3) (v := .int .i64 c3) HP5.out.box rfl
  have u4 := cellB (i := 4) (v := .int .i64 c4) HP5.out.box rfl
  have u5 := cellB (i := 5) (v := .int .i64 c5) HP5.out.box rfl
  have z0 := frB (i := 0) HP5.out.box
  have z1 := frB (i := 1) HP5.out.box
  have z2 := frB (i := 2) HP5.out.box
  have z3 := frB (i := 3) HP5.out.box
  have z4 := frB (i := 4) HP5.out.box
  have z5 := frB (i := 5) HP5.out.box
  go_upto_region 8 with fail
  refine wp_region_held_drew (S := fun w' => w'.cell? ⟨vB, 0, none⟩ = some (.int .i64 g0) ∧ w'.cell? ⟨vB, 1, none⟩ = some (.int .i64 g1) ∧ w'.cell? ⟨vB, 2, none⟩ = some (.int .i64 g2) ∧ w'.cell? ⟨vB, 3, none⟩ = some (.int .i64 g3) ∧ w'.cell? ⟨vB, 4, none⟩ = some (.int .i64 g4) ∧ w'.cell? ⟨vB, 5, none⟩ = some (.int .i64 g5)) (by kernel_rfl) ⟨v0, v1, v2, v3, v4, v5⟩ (fun hHeld => ?_)
  refine wpAnyH_take (i := 0) (oi := _) (v := ?_) rfl (by kernel_rfl) (by kernel_rfl) (by kernel_rfl) (fun _ _ _ h => h) (Or.inl ⟨by kernel_rfl, ?_⟩) (by assumption) ?_
  rotate_left
  · intro w hSw
    (try dsimp only at hSw)
    go_simp
    all_goals with_reducible rfl
  simp only [Act.put]
  refine wpAnyH_take (i := 1) (oi := _) (v := ?_) rfl (by kernel_rfl) (by kernel_rfl) (by kernel_rfl) (fun _ _ _ h => h) (Or.inl ⟨by kernel_rfl, ?_⟩) (by assumption) ?_
  rotate_left
  · intro w hSw
    (try dsimp only at hSw)
    go_simp
    all_goals with_reducible rfl
  simp only [Act.put]
  refine wpAnyH_take (i := 2) (oi := _) (v := ?_) rfl (by kernel_rfl) (by kernel_rfl) (by kernel_rfl) (fun _ _ _ h => h) (Or.inl ⟨by kernel_rfl, ?_⟩) (by assumption) ?_
  rotate_left
  · intro w hSw
    (try dsimp only at hSw)
    go_simp
    all_goals with_reducible rfl
  simp only [Act.put]
  refine wpAnyH_take (i := 3) (oi := _) (v := ?_) rfl (by kernel_rfl) (by kernel_rfl) (by kernel_rfl) (fun _ _ _ h => h) (Or.inl ⟨by kernel_rfl, ?_⟩) (by assumption) ?_
  rotate_left
  · intro w hSw
    (try dsimp only at hSw)
    go_simp
    all_goals with_reducible rfl
  simp only [Act.put]
  refine wpAnyH_take (i := 4) (oi := _) (v := ?_) rfl (by kernel_rfl) (by kernel_rfl) (by kernel_rfl) (fun _ _ _ h => h) (Or.inl ⟨by kernel_rfl, ?_⟩) (by assumption) ?_
  rotate_left
  · intro w hSw
    (try dsimp only at hSw)
    go_simp
    all_goals with_reducible rfl
  simp only [Act.put]
  refine wpAnyH_take (i := 5) (oi := _) (v := ?_) rfl (by kernel_rfl) (by kernel_rfl) (by kernel_rfl) (fun _ _ _ h => h) (Or.inl ⟨by kernel_rfl, ?_⟩) (by assumption) ?_
  rotate_left
  · intro w hSw
    (try dsimp only at hSw)
    go_simp
    all_goals with_reducible rfl
  simp only [Act.put]
  refine wpAnyH_ready (rs := [6]) (by kernel_rfl) (by simp) ?_
  refine AllReadyH.cons (o := _) rfl (fun K hK => ?_) AllReadyH.nil
  go_simp
  refine hK.out _ _ (by go_keep) (fun hHeld => ?_)
  clear hK
  refine wpAnyH_done (by kernel_rfl) ?_ _
  go_wp2
  refine bodyPost_ret (results_none rfl _ _ _) rfl ?_
  have HF := HP5.out.put (q := ⟨⟨⟨g0, g1, g2, g3, g4, g5⟩, a0, b0, h0, f0⟩, ⟨⟨d0, d1, d2, d3, d4, d5⟩, a1, b1, h1, f1⟩, ⟨l0, l1, l2, l3, l4, so⟩, bag, ck⟩) (((((((Only.refl (· = pB) Y).trans (Only.set _ pB 0 (.int .i64 g0) rfl)).trans (Only.set _ pB 1 (.int .i64 g1) rfl)).trans (Only.set _ pB 2 (.int .i64 g2) rfl)).trans (Only.set _ pB 3 (.int .i64 g3) rfl)).trans (Only.set _ pB 4 (.int .i64 g4) rfl)).trans (Only.set _ pB 5 (.int .i64 g5) rfl)) (heap_set_sameL (heap_set_sameL (heap_set_sameL (heap_set_sameL (heap_set_sameL (heap_set_sameL HP5.out.box 0 (.int .i64 g0)) 1 (.int .i64 g1)) 2 (.int .i64 g2)) 3 (.int .i64 g3)) 4 (.int .i64 g4)) 5 (.int .i64 g5)) rfl rfl rfl
  exact ⟨rfl, sp, cap, HF.later ((Below.refl _ _).drew)⟩
set_option maxRecDepth 100000 in
set_option maxHeartbeats 8000000 in
theorem com_grn1t {W : World} {B pB mA mB n cap : Nat} {sp : Option Addr} {W0 : World} {c0 c1 c2 c3 c4 c5 d0 d1 d2 d3 d4 d5 a0 b0 a1 b1 l0 l1 l2 l3 l4 ck : Int} {h0 h1 so : Bool} {f0 f1 : Int → Int × Int} {bag : List LT} {xs xe xk g0 g1 g2 g3 g4 g5 : Int} (hP : PRep B W0 pB mA mB n ⟨⟨⟨c0, c1, c2, c3, c4, c5⟩, a0, b0, h0, f0⟩, ⟨⟨d0, d1, d2, d3, d4, d5⟩, a1, b1, h1, f1⟩, ⟨l0, l1, l2, l3, l4, so⟩, bag, ck⟩ sp cap W) (hk : xk ≠ 0) (hr : grnG ⟨d0, d1, d2, d3, d4, d5⟩ xs xe = (⟨g0, g1, g2, g3, g4, g5⟩, true)) :
    Calls Try.prog 39 #[.pointer (some ⟨pB, 0, none⟩), .agg #[.int .i64 1, .bool true, .int .i64 xk, .int .i64 xs, .int .i64 xe]] W fun e w' => e = .returned (.tuple #[]) ∧ ∃ sp' cap', PRep B W0 pB mA mB n (comC ⟨⟨⟨c0, c1, c2, c3, c4, c5⟩, a0, b0, h0, f0⟩, ⟨⟨d0, d1, d2, d3, d4, d5⟩, a1, b1, h1, f1⟩, ⟨l0, l1, l2, l3, l4, so⟩, bag, ck⟩ ⟨1, true, xk, xs, xe⟩) sp' cap' w' := by
  have HR := hide hr
  have HQ : Hid (comC ⟨⟨⟨c0, c1, c2, c3, c4, c5⟩, a0, b0, h0, f0⟩, ⟨⟨d0, d1, d2, d3, d4, d5⟩, a1, b1, h1, f1⟩, ⟨l0, l1, l2, l3, l4, so⟩, bag, ck⟩ ⟨1, true, xk, xs, xe⟩ = ⟨⟨⟨c0, c1, c2, c3, c4, c5⟩, a0, b0, h0, f0⟩, ⟨⟨g0, g1, g2, g3, g4, g5⟩, (f1 xs).1, (f1 xs).2, true, f1⟩, ⟨l0, l1, l2, l3, l4, so⟩, bag, ck⟩) := hide (by
    have e : grnG (PL.at ⟨⟨⟨c0, c1, c2, c3, c4, c5⟩, a0, b0, h0, f0⟩, ⟨⟨d0, d1, d2, d3, d4, d5⟩, a1, b1, h1, f1⟩, ⟨l0, l1, l2, l3, l4, so⟩, bag, ck⟩ 1).g xs xe = (⟨g0, g1, g2, g3, g4, g5⟩, true) := hr
    unfold comC
    rw [if_pos rfl, if_neg hk]
    simp only
    rw [e]
    rfl)
  rw [HQ.out]
  have hd : (xk == 0) = false := ne_eqL hk
  have hnum := grn_num hr
  have HNUM := hide hnum
  clear hnum
  clear hr hk
  obtain ⟨V, hV⟩ : ∃ V, V = W.alloc (.cells #[.int .i64 1, .bool true, .int .i64 xk, .int .i64 xs, .int .i64 xe] 64 (0, 0)) := ⟨_, rfl⟩
  have bV : Below W.heap.size W V := by rw [hV]; exact alloc_below _ _
  have hx : V.heap[W.heap.size]? = some (.cells #[.int .i64 1, .bool true, .int .i64 xk, .int .i64 xs, .int .i64 xe] 64 (0, 0)) := by rw [hV]; exact heap_alloc_new W _
  obtain ⟨xB, hxB⟩ : ∃ xB, W.heap.size = xB := ⟨_, rfl⟩
  have hlt : pB < xB := by rw [← hxB]; exact box_lt hP.box
  have HLT : Hid (pB < xB) := hide hlt
  rw [hxB] at hx
  have HX0 := hide hx
  have HP0 := hide (hP.later bV)
  clear hx bV hP hlt
  go_enter Try.func39, Try.ntmps39
  go_upto_region 1 with fail
  rw [← hV]
  try rw [hxB]
  clear hV hxB
  obtain ⟨_, _, _, _, _, x0, x1, x2, x3, x4⟩ := five HX0.out
  go_upto_region 5 with fail
  have u6 := cellB (i := 6) (v := .int .i64 d0) HP0.out.box rfl
  have u7 := cellB (i := 7) (v := .int .i64 d1) HP0.out.box rfl
  have u8 := cellB (i := 8) (v := .int .i64 d2) HP0.out.box rfl
  have u9 := cellB (i := 9) (v := .int .i64 d3) HP0.out.box rfl
  have u10 := cellB (i := 10) (v := .int .i64 d4) HP0.out.box rfl
  have u11 := cellB (i := 11) (v := .int .i64 d5) HP0.out.box rfl
  have B0 : Below V.heap.size V V.drew := (Below.refl _ V).drew
  have HP1 := hide (HP0.out.later B0)
  have HX1 := hide (below_box B0 HX0.out)
  go_cut [5, 6] from 34 to 47 (fun s5 s6 wd => ∃ vB, s5 = .pointer (some ⟨vB, 0, none⟩) ∧ s6 = .bool true ∧ Hid (CI B W0 pB mA mB n ⟨⟨⟨c0, c1, c2, c3, c4, c5⟩, a0, b0, h0, f0⟩, ⟨⟨d0, d1, d2, d3, d4, d5⟩, a1, b1, h1, f1⟩, ⟨l0, l1, l2, l3, l4, so⟩, bag, ck⟩ sp cap xB #[.int .i64 1, .bool true, .int .i64 xk, .int .i64 xs, .int .i64 xe] vB ⟨g0, g1, g2, g3, g4, g5⟩ wd))
  case first =>
    refine wp_region_held_drew (S := fun w' => w'.cell? ⟨xB, 3, none⟩ = some (.int .i64 xs) ∧ w'.cell? ⟨xB, 4, none⟩ = some (.int .i64 xe) ∧ (w'.cell? ⟨pB, 6, none⟩ = some (.int .i64 d0) ∧ w'.cell? ⟨pB, 7, none⟩ = some (.int .i64 d1) ∧ w'.cell? ⟨pB, 8, none⟩ = some (.int .i64 d2) ∧ w'.cell? ⟨pB, 9, none⟩ = some (.int .i64 d3) ∧ w'.cell? ⟨pB, 10, none⟩ = some (.int .i64 d4) ∧ w'.cell? ⟨pB, 11, none⟩ = some (.int .i64 d5))) (by kernel_rfl) ⟨x3, x4, ⟨u6, u7, u8, u9, u10, u11⟩⟩ (fun hHeld => ?_)
    refine wpAnyH_take (i := 0) (oi := _) (v := ?_) rfl (by kernel_rfl) (by kernel_rfl) (by kernel_rfl) (fun _ _ _ h => h) (Or.inl ⟨by kernel_rfl, ?_⟩) (by assumption) ?_
    rotate_left
    · intro w hSw
      (try dsimp only at hSw)
      go_simp
      all_goals with_reducible rfl
    simp only [Act.put]
    refine wpAnyH_take (i := 1) (oi := _) (v := ?_) rfl (by kernel_rfl) (by kernel_rfl) (by kernel_rfl) (fun _ _ _ h => h) (Or.inl ⟨by kernel_rfl, ?_⟩) (by assumption) ?_
    rotate_left
    · intro w hSw
      (try dsimp only at hSw)
      go_simp
      all_goals with_reducible rfl
    simp only [Act.put]
    refine wpAnyH_take (i := 2) (oi := _) (v := ?_) rfl (by kernel_rfl) (by kernel_rfl) (by kernel_rfl) (fun _ _ _ h => h) (Or.inl ⟨by kernel_rfl, ?_⟩) (by assumption) ?_
    rotate_left
    · intro w hSw
      (try dsimp only at hSw)
      go_simp
      all_goals with_reducible rfl
    simp only [Act.put]
    refine wpAnyH_take (i := 3) (oi := _) (v := ?_) rfl (by kernel_rfl) (by kernel_rfl) (by kernel_rfl) (fun _ _ _ h => h) (Or.inl ⟨by kernel_rfl, ?_⟩) (by assumption) ?_
    rotate_left
    · intro w hSw
      (try dsimp only at hSw)
      go_simp
      all_goals with_reducible rfl
    simp only [Act.put]
    refine wpAnyH_take (i := 4) (oi := _) (v := ?_) rfl (by kernel_rfl) (by kernel_rfl) (by kernel_rfl) (fun _ _ _ h => h) (Or.inl ⟨by kernel_rfl, ?_⟩) (by assumption) ?_
    rotate_left
    · intro w hSw
      (try dsimp only at hSw)
      go_simp
      all_goals with_reducible rfl
    simp only [Act.put]
    refine wpAnyH_take (i := 5) (oi := _) (v := ?_) rfl (by kernel_rfl) (by kernel_rfl) (by kernel_rfl) (fun _ _ _ h => h) (Or.inl ⟨by kernel_rfl, ?_⟩) (by assumption) ?_
    rotate_left
    · intro w hSw
      (try dsimp only at hSw)
      go_simp
      all_goals with_reducible rfl
    simp only [Act.put]
    refine wpAnyH_take (i := 6) (oi := _) (v := ?_) rfl (by kernel_rfl) (by kernel_rfl) (by kernel_rfl) (fun _ _ _ h => h) (Or.inl ⟨by kernel_rfl, ?_⟩) (by assumption) ?_
    rotate_left
    · intro w hSw
      (try dsimp only at hSw)
      go_simp
      all_goals with_reducible rfl
    simp only [Act.put]
    refine wpAnyH_take (i := 7) (oi := _) (v := ?_) rfl (by kernel_rfl) (by kernel_rfl) (by kernel_rfl) (fun _ _ _ h => h) (Or.inl ⟨by kernel_rfl, ?_⟩) (by assumption) ?_
    rotate_left
    · intro w hSw
      (try dsimp only at hSw)
      go_simp
      all_goals with_reducible rfl
    simp only [Act.put]
    refine wpAnyH_take (i := 8) (oi := _) (v := ?_) rfl (by kernel_rfl) (by kernel_rfl) (by kernel_rfl) (fun _ _ _ h => h) (Or.inl ⟨by kernel_rfl, ?_⟩) (by assumption) ?_
    rotate_left
    · intro w hSw
      (try dsimp only at hSw)
      go_simp
      all_goals with_reducible rfl
    simp only [Act.put]
    refine wpAnyH_take (i := 9) (oi := _) (v := ?_) rfl (by kernel_rfl) (by kernel_rfl) (by kernel_rfl) (fun _ _ _ h => h) (Or.inl ⟨by kernel_rfl, ?_⟩) (by assumption) ?_
    rotate_left
    · intro w hSw
      (try dsimp only at hSw)
      go_simp
      all_goals with_reducible rfl
    simp only [Act.put]
    refine wpAnyH_ready (rs := [10, 14]) (by kernel_rfl) (by simp) ?_
    refine AllReadyH.cons (o := _) rfl (fun K hK => ?_) (AllReadyH.cons (o := _) rfl (fun K hK => ?_) AllReadyH.nil)
    · go_simp
      refine grn_any.mono ?_
      rw [HR.out]
      simp only [GE.val, GE.row]
      rintro _ y1 ⟨rfl, b1⟩
      have HP2 := hide (HP1.out.later b1)
      have HX2 := hide (below_box b1 HX1.out)
      clear b1 hHeld x0 x1 x2 x3 x4 u6 u7 u8 u9 u10 u11
      obtain ⟨_, _, _, _, _, x0, x1, x2, x3, x4⟩ := five HX2.out
      have u6 := cellB (i := 6) (v := .int .i64 d0) HP2.out.box rfl
      have u7 := cellB (i := 7) (v := .int .i64 d1) HP2.out.box rfl
      have u8 := cellB (i := 8) (v := .int .i64 d2) HP2.out.box rfl
      have u9 := cellB (i := 9) (v := .int .i64 d3) HP2.out.box rfl
      have u10 := cellB (i := 10) (v := .int .i64 d4) HP2.out.box rfl
      have u11 := cellB (i := 11) (v := .int .i64 d5) HP2.out.box rfl
      go_wp2_with fail
      refine hK.out _ _ ⟨x3, x4, ⟨u6, u7, u8, u9, u10, u11⟩⟩ (fun hHeld => ?_)
      clear hK
      refine wpAnyH_take (i := 11) (oi := _) (v := ?_) rfl (by kernel_rfl) (by kernel_rfl) (by kernel_rfl) (fun _ _ _ h => h) (Or.inl ⟨by kernel_rfl, ?_⟩) (by assumption) ?_
      rotate_left
      · intro w hSw
        (try dsimp only at hSw)
        go_simp
        all_goals with_reducible rfl
      simp only [Act.put]
      refine wpAnyH_take (i := 12) (oi := _) (v := ?_) rfl (by kernel_rfl) (by kernel_rfl) (by kernel_rfl) (fun _ _ _ h => h) (Or.inl ⟨by kernel_rfl, ?_⟩) (by assumption) ?_
      rotate_left
      · intro w hSw
        (try dsimp only at hSw)
        go_simp
        all_goals with_reducible rfl
      simp only [Act.put]
      refine wpAnyH_take (i := 13) (oi := _) (v := ?_) rfl (by kernel_rfl) (by kernel_rfl) (by kernel_rfl) (fun _ _ _ h => h) (Or.inl ⟨by kernel_rfl, ?_⟩) (by assumption) ?_
      rotate_left
      · intro w hSw
        (try dsimp only at hSw)
        go_simp
        all_goals with_reducible rfl
      simp only [Act.put]
      refine wpAnyH_ready (rs := [14]) (by kernel_rfl) (by simp) ?_
      refine AllReadyH.cons (o := _) rfl (fun K hK => ?_) AllReadyH.nil
      go_simp
      refine hK.out _ _ (by go_keep) (fun hHeld => ?_)
      clear hK
      refine wpAnyH_ready (rs := [15]) (by kernel_rfl) (by simp) ?_
      refine AllReadyH.cons (o := _) rfl (fun K hK => ?_) AllReadyH.nil
      go_simp
      refine hK.out _ _ (by go_keep) (fun hHeld => ?_)
      clear hK
      refine wpAnyH_ready (rs := [16]) (by kernel_rfl) (by simp) ?_
      refine AllReadyH.cons (o := _) rfl (fun K hK => ?_) AllReadyH.nil
      go_simp
      refine hK.out _ _ (by go_keep) (fun hHeld => ?_)
      clear hK
      refine wpAnyH_done (by kernel_rfl) ?_ _
      have HC : Hid (CI B W0 pB mA mB n ⟨⟨⟨c0, c1, c2, c3, c4, c5⟩, a0, b0, h0, f0⟩, ⟨⟨d0, d1, d2, d3, d4, d5⟩, a1, b1, h1, f1⟩, ⟨l0, l1, l2, l3, l4, so⟩, bag, ck⟩ sp cap xB #[.int .i64 1, .bool true, .int .i64 xk, .int .i64 xs, .int .i64 xe] y1.heap.size ⟨g0, g1, g2, g3, g4, g5⟩ (y1.alloc (.cells #[.int .i64 g0, .int .i64 g1, .int .i64 g2, .int .i64 g3, .int .i64 g4, .int .i64 g5] 23 (0, 0)))) := hide ⟨HP2.out.later (alloc_below _ _), below_box (alloc_below _ _) HX2.out, heap_alloc_new y1 _, ⟨HLT.out, box_lt HX2.out⟩⟩
      go_wp2_with fail
      go_meet
      case rel => exact ⟨_, rfl, rfl, HC⟩
    · go_simp
      refine hK.out _ _ (by go_keep) (fun hHeld => ?_)
      clear hK
      obtain ⟨X1, hX1⟩ : ∃ X1, X1 = V.alloc (.cells #[.int .i64 0, .int .i64 0, .int .i64 0, .int .i64 0, .int .i64 0, .int .i64 0] 23 (0, 0)) := ⟨_, rfl⟩
      have bX : Below V.heap.size V X1 := by rw [hX1]; exact alloc_below _ _
      have hv : X1.heap[V.heap.size]? = some (.cells #[.int .i64 0, .int .i64 0, .int .i64 0, .int .i64 0, .int .i64 0, .int .i64 0] 23 (0, 0)) := by rw [hX1]; exact heap_alloc_new V _
      obtain ⟨vB, hvB⟩ : ∃ vB, V.heap.size = vB := ⟨_, rfl⟩
      have HNV : Hid (pB < xB ∧ xB < vB) := hide ⟨HLT.out, by rw [← hvB]; exact box_lt HX0.out⟩
      rw [hvB] at hv
      have B1 : Below X1.heap.size X1 X1.drew := (Below.refl _ X1).drew
      have HP3 := hide ((HP0.out.later bX).later B1)
      have HX3 := hide (below_box B1 (below_box bX HX0.out))
      have HV3 := hide (below_box B1 hv)
      rw [← hX1] at hHeld
      rw [← hX1]
      try rw [hvB]
      clear hX1 hvB hv bX B1
      refine wpAnyH_ready (rs := [10]) (by kernel_rfl) (by simp) ?_
      refine AllReadyH.cons (o := _) rfl (fun K hK => ?_) AllReadyH.nil
      go_simp
      refine grn_any.mono ?_
      rw [HR.out]
      simp only [GE.val, GE.row]
      rintro _ y1 ⟨rfl, b1⟩
      have HP2 := hide (HP3.out.later b1)
      have HX2 := hide (below_box b1 HX3.out)
      have HV2 := hide (below_box b1 HV3.out)
      clear b1 hHeld x0 x1 x2 x3 x4 u6 u7 u8 u9 u10 u11
      obtain ⟨_, _, _, _, _, x0, x1, x2, x3, x4⟩ := five HX2.out
      have u6 := cellB (i := 6) (v := .int .i64 d0) HP2.out.box rfl
      have u7 := cellB (i := 7) (v := .int .i64 d1) HP2.out.box rfl
      have u8 := cellB (i := 8) (v := .int .i64 d2) HP2.out.box rfl
      have u9 := cellB (i := 9) (v := .int .i64 d3) HP2.out.box rfl
      have u10 := cellB (i := 10) (v := .int .i64 d4) HP2.out.box rfl
      have u11 := cellB (i := 11) (v := .int .i64 d5) HP2.out.box rfl
      obtain ⟨_, _, _, _, _, _, v0, v1, v2, v3, v4, v5⟩ := six HV2.out
      have hnv : vB ≠ pB := by have := HNV.out; omega
      have hnx : vB ≠ xB := by have := HNV.out; omega
      have hnv2 := hnv.symm
      have hnx2 := hnx.symm
      go_wp2_with fail
      refine hK.out _ _ ⟨x3, x4, ⟨u6, u7, u8, u9, u10, u11⟩⟩ (fun hHeld => ?_)
      clear hK
      refine wpAnyH_take (i := 11) (oi := _) (v := ?_) rfl (by kernel_rfl) (by kernel_rfl) (by kernel_rfl) (fun _ _ _ h => h) (Or.inl ⟨by kernel_rfl, ?_⟩) (by assumption) ?_
      rotate_left
      · intro w hSw
        (try dsimp only at hSw)
        go_simp
        all_goals with_reducible rfl
      simp only [Act.put]
      refine wpAnyH_take (i := 12) (oi := _) (v := ?_) rfl (by kernel_rfl) (by kernel_rfl) (by kernel_rfl) (fun _ _ _ h => h) (Or.inl ⟨by kernel_rfl, ?_⟩) (by assumption) ?_
      rotate_left
      · intro w hSw
        (try dsimp only at hSw)
        go_simp
        all_goals with_reducible rfl
      simp only [Act.put]
      refine wpAnyH_take (i := 13) (oi := _) (v := ?_) rfl (by kernel_rfl) (by kernel_rfl) (by kernel_rfl) (fun _ _ _ h => h) (Or.inl ⟨by kernel_rfl, ?_⟩) (by assumption) ?_
      rotate_left
      · intro w hSw
        (try dsimp only at hSw)
        go_simp
        all_goals with_reducible rfl
      simp only [Act.put]
      refine wpAnyH_ready (rs := [15]) (by kernel_rfl) (by simp) ?_
      refine AllReadyH.cons (o := _) rfl (fun K hK => ?_) AllReadyH.nil
      go_simp
      refine hK.out _ _ (by go_keep) (fun hHeld => ?_)
      clear hK
      refine wpAnyH_ready (rs := [16]) (by kernel_rfl) (by simp) ?_
      refine AllReadyH.cons (o := _) rfl (fun K hK => ?_) AllReadyH.nil
      go_simp
      refine hK.out _ _ (by go_keep) (fun hHeld => ?_)
      clear hK
      refine wpAnyH_done (by kernel_rfl) ?_ _
      have oV : Only (· = vB) y1 (set6 y1 vB (.int .i64 g0) (.int .i64 g1) (.int .i64 g2) (.int .i64 g3) (.int .i64 g4) (.int .i64 g5)) := only_set6 y1 vB (.int .i64 g0) (.int .i64 g1) (.int .i64 g2) (.int .i64 g3) (.int .i64 g4) (.int .i64 g5)
      have HC : Hid (CI B W0 pB mA mB n ⟨⟨⟨c0, c1, c2, c3, c4, c5⟩, a0, b0, h0, f0⟩, ⟨⟨d0, d1, d2, d3, d4, d5⟩, a1, b1, h1, f1⟩, ⟨l0, l1, l2, l3, l4, so⟩, bag, ck⟩ sp cap xB #[.int .i64 1, .bool true, .int .i64 xk, .int .i64 xs, .int .i64 xe] vB ⟨g0, g1, g2, g3, g4, g5⟩ (set6 y1 vB (.int .i64 g0) (.int .i64 g1) (.int .i64 g2) (.int .i64 g3) (.int .i64 g4) (.int .i64 g5))) := hide ⟨HP2.out.only oV HNV.out.1 HNV.out.2 ⟨_, HV2.out⟩, oV.obj HX2.out (fun e => by have e' : xB = vB := e; have := HNV.out; omega), heap_set6 HV2.out (.int .i64 g0) (.int .i64 g1) (.int .i64 g2) (.int .i64 g3) (.int .i64 g4) (.int .i64 g5), HNV.out⟩
      unfold set6 at HC
      go_wp2_with fail
      go_meet
      case rel => exact ⟨_, rfl, rfl, HC⟩
  case rest =>
  rename World => X
  obtain ⟨vB, rfl, rfl, HC⟩ := hcut
  clear HP0 HX0 HP1 HX1 B0 x0 x1 x2 x3 x4 u6 u7 u8 u9 u10 u11
  have hne1 : pB ≠ xB := by have := HC.out.lt; omega
  have hne2 : xB ≠ pB := hne1.symm
  have hne3 : pB ≠ vB := by have := HC.out.lt; omega
  have hne4 : vB ≠ pB := hne3.symm
  obtain ⟨_, _, _, _, _, x0, x1, x2, x3, x4⟩ := five HC.out.xbox
  have u21 := cellB (i := 21) (v := .map (some mB)) HC.out.rep.box rfl
  have u24 := cellB (i := 24) (v := .int .i64 a1) HC.out.rep.box rfl
  have u25 := cellB (i := 25) (v := .int .i64 b1) HC.out.rep.box rfl
  have u27 := cellB (i := 27) (v := .bool h1) HC.out.rep.box rfl
  have z24 := frB (i := 24) HC.out.rep.box
  have z25 := frB (i := 25) HC.out.rep.box
  have z27 := frB (i := 27) HC.out.rep.box
  have hlk := (HC.out.rep.mb.later ((Below.refl _ X).drew)).look HNUM.out.1 HNUM.out.2
  go_upto_region 7 with fail
  refine wp_region_held_drew (S := fun w' => w'.cell? ⟨xB, 3, none⟩ = some (.int .i64 xs)) (by kernel_rfl) x3 (fun hHeld => ?_)
  refine wpAnyH_take (i := 0) (oi := _) (v := ?_) rfl (by kernel_rfl) (by kernel_rfl) (by kernel_rfl) (fun _ _ _ h => h) (Or.inl ⟨by kernel_rfl, ?_⟩) (by assumption) ?_
  rotate_left
  · intro w hSw
    (try dsimp only at hSw)
    go_simp
    all_goals with_reducible rfl
  simp only [Act.put]
  refine wpAnyH_take (i := 1) (oi := _) (v := ?_) rfl (by kernel_rfl) (by kernel_rfl) (by kernel_rfl) (fun _ _ _ h => h) (Or.inl ⟨by kernel_rfl, ?_⟩) (by assumption) ?_
  rotate_left
  · intro w hSw
    (try dsimp only at hSw)
    go_simp
    all_goals with_reducible rfl
  simp only [Act.put]
  refine wpAnyH_take (i := 2) (oi := _) (v := ?_) rfl (by kernel_rfl) (by kernel_rfl) (by kernel_rfl) (fun _ _ _ h => h) (Or.inl ⟨by kernel_rfl, ?_⟩) (by assumption) ?_
  rotate_left
  · intro w hSw
    (try dsimp only at hSw)
    go_simp
    all_goals with_reducible rfl
  simp only [Act.put]
  refine wpAnyH_take (i := 3) (oi := _) (v := ?_) rfl (by kernel_rfl) (by kernel_rfl) (by kernel_rfl) (fun _ _ _ h => h) (Or.inl ⟨by kernel_rfl, ?_⟩) (by assumption) ?_
  rotate_left
  · intro w hSw
    (try dsimp only at hSw)
    go_simp
    all_goals with_reducible rfl
  simp only [Act.put]
  refine wpAnyH_take (i := 4) (oi := _) (v := ?_) rfl (by kernel_rfl) (by kernel_rfl) (by kernel_rfl) (fun _ _ _ h => h) (Or.inl ⟨by kernel_rfl, ?_⟩) (by assumption) ?_
  rotate_left
  · intro w hSw
    (try dsimp only at hSw)
    go_simp
    all_goals with_reducible rfl
  simp only [Act.put]
  refine wpAnyH_take (i := 5) (oi := _) (v := ?_) rfl (by kernel_rfl) (by kernel_rfl) (by kernel_rfl) (fun _ _ _ h => h) (Or.inl ⟨by kernel_rfl, ?_⟩) (by assumption) ?_
  rotate_left
  · intro w hSw
    (try dsimp only at hSw)
    go_simp
    all_goals with_reducible rfl
  simp only [Act.put]
  refine wpAnyH_take (i := 6) (oi := _) (v := ?_) rfl (by kernel_rfl) (by kernel_rfl) (by kernel_rfl) (fun _ _ _ h => h) (Or.inl ⟨by kernel_rfl, ?_⟩) (by assumption) ?_
  rotate_left
  · intro w hSw
    (try dsimp only at hSw)
    go_simp
    all_goals with_reducible rfl
  simp only [Act.put]
  refine wpAnyH_take (i := 7) (oi := _) (v := ?_) rfl (by kernel_rfl) (by kernel_rfl) (by kernel_rfl) (fun _ _ _ h => h) (Or.inl ⟨by kernel_rfl, ?_⟩) (by assumption) ?_
  rotate_left
  · intro w hSw
    (try dsimp only at hSw)
    go_simp
    all_goals with_reducible rfl
  simp only [Act.put]
  refine wpAnyH_take (i := 8) (oi := _) (v := ?_) rfl (by kernel_rfl) (by kernel_rfl) (by kernel_rfl) (fun _ _ _ h => h) (Or.inl ⟨by kernel_rfl, ?_⟩) (by assumption) ?_
  rotate_left
  · intro w hSw
    (try dsimp only at hSw)
    go_simp
    all_goals with_reducible rfl
  simp only [Act.put]
  refine wpAnyH_take (i := 10) (oi := _) (v := ?_) rfl (by kernel_rfl) (by kernel_rfl) (by kernel_rfl) (fun _ _ _ h => h) (Or.inl ⟨by kernel_rfl, ?_⟩) (by assumption) ?_
  rotate_left
  · intro w hSw
    (try dsimp only at hSw)
    go_simp
    all_goals with_reducible rfl
  simp only [Act.put]
  refine wpAnyH_take (i := 11) (oi := _) (v := ?_) rfl (by kernel_rfl) (by kernel_rfl) (by kernel_rfl) (fun _ _ _ h => h) (Or.inl ⟨by kernel_rfl, ?_⟩) (by assumption) ?_
  rotate_left
  · intro w hSw
    (try dsimp only at hSw)
    go_simp
    all_goals with_reducible rfl
  simp only [Act.put]
  refine wpAnyH_take (i := 13) (oi := _) (v := ?_) rfl (by kernel_rfl) (by kernel_rfl) (by kernel_rfl) (fun _ _ _ h => h) (Or.inl ⟨by kernel_rfl, ?_⟩) (by assumption) ?_
  rotate_left
  · intro w hSw
    (try dsimp only at hSw)
    go_simp
    all_goals with_reducible rfl
  simp only [Act.put]
  refine wpAnyH_take (i := 14) (oi := _) (v := ?_) rfl (by kernel_rfl) (by kernel_rfl) (by kernel_rfl) (fun _ _ _ h => h) (Or.inl ⟨by kernel_rfl, ?_⟩) (by assumption) ?_
  rotate_left
  · intro w hSw
    (try dsimp only at hSw)
    go_simp
    all_goals with_reducible rfl
  simp only [Act.put]
  refine wpAnyH_take (i := 17) (oi := _) (v := ?_) rfl (by kernel_rfl) (by kernel_rfl) (by kernel_rfl) (fun _ _ _ h => h) (Or.inl ⟨by kernel_rfl, ?_⟩) (by assumption) ?_
  rotate_left
  · intro w hSw
    (try dsimp only at hSw)
    go_simp
    all_goals with_reducible rfl
  simp only [Act.put]
  refine wpAnyH_take (i := 18) (oi := _) (v := ?_) rfl (by kernel_rfl) (by kernel_rfl) (by kernel_rfl) (fun _ _ _ h => h) (Or.inl ⟨by kernel_rfl, ?_⟩) (by assumption) ?_
  rotate_left
  · intro w hSw
    (try dsimp only at hSw)
    go_simp
    all_goals with_reducible rfl
  simp only [Act.put]
  refine wpAnyH_ready (rs := [9]) (by kernel_rfl) (by simp) ?_
  refine AllReadyH.cons (o := _) rfl (fun K hK => ?_) AllReadyH.nil
  go_simp
  refine hK.out _ _ hHeld (fun hHeld => ?_)
  clear hK
  refine wpAnyH_ready (rs := [12]) (by kernel_rfl) (by simp) ?_
  refine AllReadyH.cons (o := _) rfl (fun K hK => ?_) AllReadyH.nil
  go_simp
  refine hK.out _ _ hHeld (fun hHeld => ?_)
  clear hK
  refine wpAnyH_take (i := 15) (oi := _) (v := ?_) rfl (by kernel_rfl) (by kernel_rfl) (by kernel_rfl) (fun _ _ _ h => h) (Or.inl ⟨by kernel_rfl, ?_⟩) (by assumption) ?_
  rotate_left
  · intro w hSw
    (try dsimp only at hSw)
    go_simp
    all_goals with_reducible rfl
  simp only [Act.put]
  refine wpAnyH_ready (rs := [16]) (by kernel_rfl) (by simp) ?_
  refine AllReadyH.cons (o := _) rfl (fun K hK => ?_) AllReadyH.nil
  go_simp
  refine hK.out _ _ (by go_keep) (fun hHeld => ?_)
  clear hK
  refine wpAnyH_take (i := 19) (oi := _) (v := ?_) rfl (by kernel_rfl) (by kernel_rfl) (by kernel_rfl) (fun _ _ _ h => h) (Or.inl ⟨by kernel_rfl, ?_⟩) (by assumption) ?_
  rotate_left
  · intro w hSw
    (try dsimp only at hSw)
    go_simp
    all_goals with_reducible rfl
  simp only [Act.put]
  refine wpAnyH_ready (rs := [20]) (by kernel_rfl) (by simp) ?_
  refine AllReadyH.cons (o := _) rfl (fun K hK => ?_) AllReadyH.nil
  go_simp
  refine hK.out _ _ (by go_keep) (fun hHeld => ?_)
  clear hK
  refine wpAnyH_done (by kernel_rfl) ?_ _
  obtain ⟨Y, hY⟩ : ∃ Y, Y = (((X.setCell ⟨pB, 24, none⟩ (.int .i64 (f1 xs).1)).setCell ⟨pB, 25, none⟩ (.int .i64 (f1 xs).2)).setCell ⟨pB, 27, none⟩ (.bool true)) := ⟨_, rfl⟩
  have oY : Only (· = pB) X Y := by rw [hY]; exact ((((Only.refl (· = pB) X).trans (Only.set _ pB 24 (.int .i64 (f1 xs).1) rfl)).trans (Only.set _ pB 25 (.int .i64 (f1 xs).2) rfl)).trans (Only.set _ pB 27 (.bool true) rfl))
  have HP5 : Hid (PRep B W0 pB mA mB n ⟨⟨⟨c0, c1, c2, c3, c4, c5⟩, a0, b0, h0, f0⟩, ⟨⟨d0, d1, d2, d3, d4, d5⟩, (f1 xs).1, (f1 xs).2, true, f1⟩, ⟨l0, l1, l2, l3, l4, so⟩, bag, ck⟩ sp cap Y) := hide (HC.out.rep.put oY (by rw [hY]; exact (heap_set_sameL (heap_set_sameL (heap_set_sameL HC.out.rep.box 24 (.int .i64 (f1 xs).1)) 25 (.int .i64 (f1 xs).2)) 27 (.bool true))) rfl rfl rfl)
  have HV5 := hide (oY.obj HC.out.vbox (fun e => by have e' : vB = pB := e; omega))
  rw [← hY]
  clear hY oY hlk hHeld HC x0 x1 x2 x3 x4 u21 u24 z24 u25 z25 u27 z27
  obtain ⟨_, _, _, _, _, _, v0, v1, v2, v3, v4, v5⟩ := six HV5.out
  try simp only at v0 v1 v2 v3 v4 v5
  have u6 := cellB (i := 6) (v := .int .i64 d0) HP5.out.box rfl
  have u7 := cellB (i := 7) (v := .int .i64 d1) HP5.out.box rfl
  have u8 := cellB (i := 8) (v := .int .i64 d2) HP5.out.box rfl
  have u9 := cellB (i := 9) (v := .int .i64 d3) HP5.out.box rfl
  have u10 := cellB (i := 10) (v := .int .i64 d4) HP5.out.box rfl
  have u11 := cellB (i := 11) (v := .int .i64 d5) HP5.out.box rfl
  have z6 := frB (i := 6) HP5.out.box
  have z7 := frB (i := 7) HP5.out.box
  have z8 := frB (i := 8) HP5.out.box
  have z9 := frB (i := 9) HP5.out.box
  have z10 := frB (i := 10) HP5.out.box
  have z11 := frB (i := 11) HP5.out.box
  go_upto_region 8 with fail
  refine wp_region_held_drew (S := fun w' => w'.cell? ⟨vB, 0, none⟩ = some (.int .i64 g0) ∧ w'.cell? ⟨vB, 1, none⟩ = some (.int .i64 g1) ∧ w'.cell? ⟨vB, 2, none⟩ = some (.int .i64 g2) ∧ w'.cell? ⟨vB, 3, none⟩ = some (.int .i64 g3) ∧ w'.cell? ⟨vB, 4, none⟩ = some (.int .i64 g4) ∧ w'.cell? ⟨vB, 5, none⟩ = some (.int .i64 g5)) (by kernel_rfl) ⟨v0, v1, v2, v3, v4, v5⟩ (fun hHeld => ?_)
  refine wpAnyH_take (i := 0) (oi := _) (v := ?_) rfl (by kernel_rfl) (by kernel_rfl) (by kernel_rfl) (fun _ _ _ h => h) (Or.inl ⟨by kernel_rfl, ?_⟩) (by assumption) ?_
  rotate_left
  · intro w hSw
    (try dsimp only at hSw)
    go_simp
    all_goals with_reducible rfl
  simp only [Act.put]
  refine wpAnyH_take (i := 1) (oi := _) (v := ?_) rfl (by kernel_rfl) (by kernel_rfl) (by kernel_rfl) (fun _ _ _ h => h) (Or.inl ⟨by kernel_rfl, ?_⟩) (by assumption) ?_
  rotate_left
  · intro w hSw
    (try dsimp only at hSw)
    go_simp
    all_goals with_reducible rfl
  simp only [Act.put]
  refine wpAnyH_take (i := 2) (oi := _) (v := ?_) rfl (by kernel_rfl) (by kernel_rfl) (by kernel_rfl) (fun _ _ _ h => h) (Or.inl ⟨by kernel_rfl, ?_⟩) (by assumption) ?_
  rotate_left
  · intro w hSw
    (try dsimp only at hSw)
    go_simp
    all_goals with_reducible rfl
  simp only [Act.put]
  refine wpAnyH_take (i := 3) (oi := _) (v := ?_) rfl (by kernel_rfl) (by kernel_rfl) (by kernel_rfl) (fun _ _ _ h => h) (Or.inl ⟨by kernel_rfl, ?_⟩) (by assumption) ?_
  rotate_left
  · intro w hSw
    (try dsimp only at hSw)
    go_simp
    all_goals with_reducible rfl
  simp only [Act.put]
  refine wpAnyH_take (i := 4) (oi := _) (v := ?_) rfl (by kernel_rfl) (by kernel_rfl) (by kernel_rfl) (fun _ _ _ h => h) (Or.inl ⟨by kernel_rfl, ?_⟩) (by assumption) ?_
  rotate_left
  · intro w hSw
    (try dsimp only at hSw)
    go_simp
    all_goals with_reducible rfl
  simp only [Act.put]
  refine wpAnyH_take (i := 5) (oi := _) (v := ?_) rfl (by kernel_rfl) (by kernel_rfl) (by kernel_rfl) (fun _ _ _ h => h) (Or.inl ⟨by kernel_rfl, ?_⟩) (by assumption) ?_
  rotate_left
  · intro w hSw
    (try dsimp only at hSw)
    go_simp
    all_goals with_reducible rfl
  simp only [Act.put]
  refine wpAnyH_ready (rs := [6]) (by kernel_rfl) (by simp) ?_
  refine AllReadyH.cons (o := _) rfl (fun K hK => ?_) AllReadyH.nil
  go_simp
  refine hK.out _ _ (by go_keep) (fun hHeld => ?_)
  clear hK
  refine wpAnyH_done (by kernel_rfl) ?_ _
  go_wp2
  refine bodyPost_ret (results_none rfl _ _ _) rfl ?_
  have HF := HP5.out.put (q := ⟨⟨⟨c0, c1, c2, c3, c4, c5⟩, a0, b0, h0, f0⟩, ⟨⟨g0, g1, g2, g3, g4, g5⟩, (f1 xs).1, (f1 xs).2, true, f1⟩, ⟨l0, l1, l2, l3, l4, so⟩, bag, ck⟩) (((((((Only.refl (· = pB) Y).trans (Only.set _ pB 6 (.int .i64 g0) rfl)).trans (Only.set _ pB 7 (.int .i64 g1) rfl)).trans (Only.set _ pB 8 (.int .i64 g2) rfl)).trans (Only.set _ pB 9 (.int .i64 g3) rfl)).trans (Only.set _ pB 10 (.int .i64 g4) rfl)).trans (Only.set _ pB 11 (.int .i64 g5) rfl)) (heap_set_sameL (heap_set_sameL (heap_set_sameL (heap_set_sameL (heap_set_sameL (heap_set_sameL HP5.out.box 6 (.int .i64 g0)) 7 (.int .i64 g1)) 8 (.int .i64 g2)) 9 (.int .i64 g3)) 10 (.int .i64 g4)) 11 (.int .i64 g5)) rfl rfl rfl
  exact ⟨rfl, sp, cap, HF.later ((Below.refl _ _).drew.drew)⟩
set_option maxRecDepth 100000 in
set_option maxHeartbeats 8000000 in
theorem com_grn1f {W : World} {B pB mA mB n cap : Nat} {sp : Option Addr} {W0 : World} {c0 c1 c2 c3 c4 c5 d0 d1 d2 d3 d4 d5 a0 b0 a1 b1 l0 l1 l2 l3 l4 ck : Int} {h0 h1 so : Bool} {f0 f1 : Int → Int × Int} {bag : List LT} {xs xe xk g0 g1 g2 g3 g4 g5 : Int} (hP : PRep B W0 pB mA mB n ⟨⟨⟨c0, c1, c2, c3, c4, c5⟩, a0, b0, h0, f0⟩, ⟨⟨d0, d1, d2, d3, d4, d5⟩, a1, b1, h1, f1⟩, ⟨l0, l1, l2, l3, l4, so⟩, bag, ck⟩ sp cap W) (hk : xk ≠ 0) (hr : grnG ⟨d0, d1, d2, d3, d4, d5⟩ xs xe = (⟨g0, g1, g2, g3, g4, g5⟩, false)) :
    Calls Try.prog 39 #[.pointer (some ⟨pB, 0, none⟩), .agg #[.int .i64 1, .bool true, .int .i64 xk, .int .i64 xs, .int .i64 xe]] W fun e w' => e = .returned (.tuple #[]) ∧ ∃ sp' cap', PRep B W0 pB mA mB n (comC ⟨⟨⟨c0, c1, c2, c3, c4, c5⟩, a0, b0, h0, f0⟩, ⟨⟨d0, d1, d2, d3, d4, d5⟩, a1, b1, h1, f1⟩, ⟨l0, l1, l2, l3, l4, so⟩, bag, ck⟩ ⟨1, true, xk, xs, xe⟩) sp' cap' w' := by
  have HR := hide hr
  have HQ : Hid (comC ⟨⟨⟨c0, c1, c2, c3, c4, c5⟩, a0, b0, h0, f0⟩, ⟨⟨d0, d1, d2, d3, d4, d5⟩, a1, b1, h1, f1⟩, ⟨l0, l1, l2, l3, l4, so⟩, bag, ck⟩ ⟨1, true, xk, xs, xe⟩ = ⟨⟨⟨c0, c1, c2, c3, c4, c5⟩, a0, b0, h0, f0⟩, ⟨⟨g0, g1, g2, g3, g4, g5⟩, a1, b1, h1, f1⟩, ⟨l0, l1, l2, l3, l4, so⟩, bag, ck⟩) := hide (by
    have e : grnG (PL.at ⟨⟨⟨c0, c1, c2, c3, c4, c5⟩, a0, b0, h0, f0⟩, ⟨⟨d0, d1, d2, d3, d4, d5⟩, a1, b1, h1, f1⟩, ⟨l0, l1, l2, l3, l4, so⟩, bag, ck⟩ 1).g xs xe = (⟨g0, g1, g2, g3, g4, g5⟩, false) := hr
    unfold comC
    rw [if_pos rfl, if_neg hk]
    simp only
    rw [e]
    rfl)
  rw [HQ.out]
  have hd : (xk == 0) = false := ne_eqL hk
  clear hr hk
  obtain ⟨V, hV⟩ : ∃ V, V = W.alloc (.cells #[.int .i64 1, .bool true, .int .i64 xk, .int .i64 xs, .int .i64 xe] 64 (0, 0)) := ⟨_, rfl⟩
  have bV : Below W.heap.size W V := by rw [hV]; exact alloc_below _ _
  have hx : V.heap[W.heap.size]? = some (.cells #[.int .i64 1, .bool true, .int .i64 xk, .int .i64 xs, .int .i64 xe] 64 (0, 0)) := by rw [hV]; exact heap_alloc_new W _
  obtain ⟨xB, hxB⟩ : ∃ xB, W.heap.size = xB := ⟨_, rfl⟩
  have hlt : pB < xB := by rw [← hxB]; exact box_lt hP.box
  have HLT : Hid (pB < xB) := hide hlt
  rw [hxB] at hx
  have HX0 := hide hx
  have HP0 := hide (hP.later bV)
  clear hx bV hP hlt
  go_enter Try.func39, Try.ntmps39
  go_upto_region 1 with fail
  rw [← hV]
  try rw [hxB]
  clear hV hxB
  obtain ⟨_, _, _, _, _, x0, x1, x2, x3, x4⟩ := five HX0.out
  go_upto_region 5 with fail
  have u6 := cellB (i := 6) (v := .int .i64 d0) HP0.out.box rfl
  have u7 := cellB (i := 7) (v := .int .i64 d1) HP0.out.box rfl
  have u8 := cellB (i := 8) (v := .int .i64 d2) HP0.out.box rfl
  have u9 := cellB (i := 9) (v := .int .i64 d3) HP0.out.box rfl
  have u10 := cellB (i := 10) (v := .int .i64 d4) HP0.out.box rfl
  have u11 := cellB (i := 11) (v := .int .i64 d5) HP0.out.box rfl
  have B0 : Below V.heap.size V V.drew := (Below.refl _ V).drew
  have HP1 := hide (HP0.out.later B0)
  have HX1 := hide (below_box B0 HX0.out)
  go_cut [5, 6] from 34 to 47 (fun s5 s6 wd => ∃ vB, s5 = .pointer (some ⟨vB, 0, none⟩) ∧ s6 = .bool false ∧ Hid (CI B W0 pB mA mB n ⟨⟨⟨c0, c1, c2, c3, c4, c5⟩, a0, b0, h0, f0⟩, ⟨⟨d0, d1, d2, d3, d4, d5⟩, a1, b1, h1, f1⟩, ⟨l0, l1, l2, l3, l4, so⟩, bag, ck⟩ sp cap xB #[.int .i64 1, .bool true, .int .i64 xk, .int .i64 xs, .int .i64 xe] vB ⟨g0, g1, g2, g3, g4, g5⟩ wd))
  case first =>
    refine wp_region_held_drew (S := fun w' => w'.cell? ⟨xB, 3, none⟩ = some (.int .i64 xs) ∧ w'.cell? ⟨xB, 4, none⟩ = some (.int .i64 xe) ∧ (w'.cell? ⟨pB, 6, none⟩ = some (.int .i64 d0) ∧ w'.cell? ⟨pB, 7, none⟩ = some (.int .i64 d1) ∧ w'.cell? ⟨pB, 8, none⟩ = some (.int .i64 d2) ∧ w'.cell? ⟨pB, 9, none⟩ = some (.int .i64 d3) ∧ w'.cell? ⟨pB, 10, none⟩ = some (.int .i64 d4) ∧ w'.cell? ⟨pB, 11, none⟩ = some (.int .i64 d5))) (by kernel_rfl) ⟨x3, x4, ⟨u6, u7, u8, u9, u10, u11⟩⟩ (fun hHeld => ?_)
    refine wpAnyH_take (i := 0) (oi := _) (v := ?_) rfl (by kernel_rfl) (by kernel_rfl) (by kernel_rfl) (fun _ _ _ h => h) (Or.inl ⟨by kernel_rfl, ?_⟩) (by assumption) ?_
    rotate_left
    · intro w hSw
      (try dsimp only at hSw)
      go_simp
      all_goals with_reducible rfl
    simp only [Act.put]
    refine wpAnyH_take (i := 1) (oi := _) (v := ?_) rfl (by kernel_rfl) (by kernel_rfl) (by kernel_rfl) (fun _ _ _ h => h) (Or.inl ⟨by kernel_rfl, ?_⟩) (by assumption) ?_
    rotate_left
    · intro w hSw
      (try dsimp only at hSw)
      go_simp
      all_goals with_reducible rfl
    simp only [Act.put]
    refine wpAnyH_take (i := 2) (oi := _) (v := ?_) rfl (by kernel_rfl) (by kernel_rfl) (by kernel_rfl) (fun _ _ _ h => h) (Or.inl ⟨by kernel_rfl, ?_⟩) (by assumption) ?_
    rotate_left
    · intro w hSw
      (try dsimp only at hSw)
      go_simp
      all_goals with_reducible rfl
    simp only [Act.put]
    refine wpAnyH_take (i := 3) (oi := _) (v := ?_) rfl (by kernel_rfl) (by kernel_rfl) (by kernel_rfl) (fun _ _ _ h => h) (Or.inl ⟨by kernel_rfl, ?_⟩) (by assumption) ?_
    rotate_left
    · intro w hSw
      (try dsimp only at hSw)
      go_simp
      all_goals with_reducible rfl
    simp only [Act.put]
    refine wpAnyH_take (i := 4) (oi := _) (v := ?_) rfl (by kernel_rfl) (by kernel_rfl) (by kernel_rfl) (fun _ _ _ h => h) (Or.inl ⟨by kernel_rfl, ?_⟩) (by assumption) ?_
    rotate_left
    · intro w hSw
      (try dsimp only at hSw)
      go_simp
      all_goals with_reducible rfl
    simp only [Act.put]
    refine wpAnyH_take (i := 5) (oi := _) (v := ?_) rfl (by kernel_rfl) (by kernel_rfl) (by kernel_rfl) (fun _ _ _ h => h) (Or.inl ⟨by kernel_rfl, ?_⟩) (by assumption) ?_
    rotate_left
    · intro w hSw
      (try dsimp only at hSw)
      go_simp
      all_goals with_reducible rfl
    simp only [Act.put]
    refine wpAnyH_take (i := 6) (oi := _) (v := ?_) rfl (by kernel_rfl) (by kernel_rfl) (by kernel_rfl) (fun _ _ _ h => h) (Or.inl ⟨by kernel_rfl, ?_⟩) (by assumption) ?_
    rotate_left
    · intro w hSw
      (try dsimp only at hSw)
      go_simp
      all_goals with_reducible rfl
    simp only [Act.put]
    refine wpAnyH_take (i := 7) (oi := _) (v := ?_) rfl (by kernel_rfl) (by kernel_rfl) (by kernel_rfl) (fun _ _ _ h => h) (Or.inl ⟨by kernel_rfl, ?_⟩) (by assumption) ?_
    rotate_left
    · intro w hSw
      (try dsimp only at hSw)
      go_simp
      all_goals with_reducible rfl
    simp only [Act.put]
    refine wpAnyH_take (i := 8) (oi := _) (v := ?_) rfl (by kernel_rfl) (by kernel_rfl) (by kernel_rfl) (fun _ _ _ h => h) (Or.inl ⟨by kernel_rfl, ?_⟩) (by assumption) ?_
    rotate_left
    · intro w hSw
      (try dsimp only at hSw)
      go_simp
      all_goals with_reducible rfl
    simp only [Act.put]
    refine wpAnyH_take (i := 9) (oi := _) (v := ?_) rfl (by kernel_rfl) (by kernel_rfl) (by kernel_rfl) (fun _ _ _ h => h) (Or.inl ⟨by kernel_rfl, ?_⟩) (by assumption) ?_
    rotate_left
    · intro w hSw
      (try dsimp only at hSw)
      go_simp
      all_goals with_reducible rfl
    simp only [Act.put]
    refine wpAnyH_ready (rs := [10, 14]) (by kernel_rfl) (by simp) ?_
    refine AllReadyH.cons (o := _) rfl (fun K hK => ?_) (AllReadyH.cons (o := _) rfl (fun K hK => ?_) AllReadyH.nil)
    · go_simp
      refine grn_any.mono ?_
      rw [HR.out]
      simp only [GE.val, GE.row]
      rintro _ y1 ⟨rfl, b1⟩
      have HP2 := hide (HP1.out.later b1)
      have HX2 := hide (below_box b1 HX1.out)
      clear b1 hHeld x0 x1 x2 x3 x4 u6 u7 u8 u9 u10 u11
      obtain ⟨_, _, _, _, _, x0, x1, x2, x3, x4⟩ := five HX2.out
      have u6 := cellB (i := 6) (v := .int .i64 d0) HP2.out.box rfl
      have u7 := cellB (i := 7) (v := .int .i64 d1) HP2.out.box rfl
      have u8 := cellB (i := 8) (v := .int .i64 d2) HP2.out.box rfl
      have u9 := cellB (i := 9) (v := .int .i64 d3) HP2.out.box rfl
      have u10 := cellB (i := 10) (v := .int .i64 d4) HP2.out.box rfl
      have u11 := cellB (i := 11) (v := .int .i64 d5) HP2.out.box rfl
      go_wp2_with fail
      refine hK.out _ _ ⟨x3, x4, ⟨u6, u7, u8, u9, u10, u11⟩⟩ (fun hHeld => ?_)
      clear hK
      refine wpAnyH_take (i := 11) (oi := _) (v := ?_) rfl (by kernel_rfl) (by kernel_rfl) (by kernel_rfl) (fun _ _ _ h => h) (Or.inl ⟨by kernel_rfl, ?_⟩) (by assumption) ?_
      rotate_left
      · intro w hSw
        (try dsimp only at hSw)
        go_simp
        all_goals with_reducible rfl
      simp only [Act.put]
      refine wpAnyH_take (i := 12) (oi := _) (v := ?_) rfl (by kernel_rfl) (by kernel_rfl) (by kernel_rfl) (fun _ _ _ h => h) (Or.inl ⟨by kernel_rfl, ?_⟩) (by assumption) ?_
      rotate_left
      · intro w hSw
        (try dsimp only at hSw)
        go_simp
        all_goals with_reducible rfl
      simp only [Act.put]
      refine wpAnyH_take (i := 13) (oi := _) (v := ?_) rfl (by kernel_rfl) (by kernel_rfl) (by kernel_rfl) (fun _ _ _ h => h) (Or.inl ⟨by kernel_rfl, ?_⟩) (by assumption) ?_
      rotate_left
      · intro w hSw
        (try dsimp only at hSw)
        go_simp
        all_goals with_reducible rfl
      simp only [Act.put]
      refine wpAnyH_ready (rs := [14]) (by kernel_rfl) (by simp) ?_
      refine AllReadyH.cons (o := _) rfl (fun K hK => ?_) AllReadyH.nil
      go_simp
      refine hK.out _ _ (by go_keep) (fun hHeld => ?_)
      clear hK
      refine wpAnyH_ready (rs := [15]) (by kernel_rfl) (by simp) ?_
      refine AllReadyH.cons (o := _) rfl (fun K hK => ?_) AllReadyH.nil
      go_simp
      refine hK.out _ _ (by go_keep) (fun hHeld => ?_)
      clear hK
      refine wpAnyH_ready (rs := [16]) (by kernel_rfl) (by simp) ?_
      refine AllReadyH.cons (o := _) rfl (fun K hK => ?_) AllReadyH.nil
      go_simp
      refine hK.out _ _ (by go_keep) (fun hHeld => ?_)
      clear hK
      refine wpAnyH_done (by kernel_rfl) ?_ _
      have HC : Hid (CI B W0 pB mA mB n ⟨⟨⟨c0, c1, c2, c3, c4, c5⟩, a0, b0, h0, f0⟩, ⟨⟨d0, d1, d2, d3, d4, d5⟩, a1, b1, h1, f1⟩, ⟨l0, l1, l2, l3, l4, so⟩, bag, ck⟩ sp cap xB #[.int .i64 1, .bool true, .int .i64 xk, .int .i64 xs, .int .i64 xe] y1.heap.size ⟨g0, g1, g2, g3, g4, g5⟩ (y1.alloc (.cells #[.int .i64 g0, .int .i64 g1, .int .i64 g2, .int .i64 g3, .int .i64 g4, .int .i64 g5] 23 (0, 0)))) := hide ⟨HP2.out.later (alloc_below _ _), below_box (alloc_below _ _) HX2.out, heap_alloc_new y1 _, ⟨HLT.out, box_lt HX2.out⟩⟩
      go_wp2_with fail
      go_meet
      case rel => exact ⟨_, rfl, rfl, HC⟩
    · go_simp
      refine hK.out _ _ (by go_keep) (fun hHeld => ?_)
      clear hK
      obtain ⟨X1, hX1⟩ : ∃ X1, X1 = V.alloc (.cells #[.int .i64 0, .int .i64 0, .int .i64 0, .int .i64 0, .int .i64 0, .int .i64 0] 23 (0, 0)) := ⟨_, rfl⟩
      have bX : Below V.heap.size V X1 := by rw [hX1]; exact alloc_below _ _
      have hv : X1.heap[V.heap.size]? = some (.cells #[.int .i64 0, .int .i64 0, .int .i64 0, .int .i64 0, .int .i64 0, .int .i64 0] 23 (0, 0)) := by rw [hX1]; exact heap_alloc_new V _
      obtain ⟨vB, hvB⟩ : ∃ vB, V.heap.size = vB := ⟨_, rfl⟩
      have HNV : Hid (pB < xB ∧ xB < vB) := hide ⟨HLT.out, by rw [← hvB]; exact box_lt HX0.out⟩
      rw [hvB] at hv
      have B1 : Below X1.heap.size X1 X1.drew := (Below.refl _ X1).drew
      have HP3 := hide ((HP0.out.later bX).later B1)
      have HX3 := hide (below_box B1 (below_box bX HX0.out))
      have HV3 := hide (below_box B1 hv)
      rw [← hX1] at hHeld
      rw [← hX1]
      try rw [hvB]
      clear hX1 hvB hv bX B1
      refine wpAnyH_ready (rs := [10]) (by kernel_rfl) (by simp) ?_
      refine AllReadyH.cons (o := _) rfl (fun K hK => ?_) AllReadyH.nil
      go_simp
      refine grn_any.mono ?_
      rw [HR.out]
      simp only [GE.val, GE.row]
      rintro _ y1 ⟨rfl, b1⟩
      have HP2 := hide (HP3.out.later b1)
      have HX2 := hide (below_box b1 HX3.out)
      have HV2 := hide (below_box b1 HV3.out)
      clear b1 hHeld x0 x1 x2 x3 x4 u6 u7 u8 u9 u10 u11
      obtain ⟨_, _, _, _, _, x0, x1, x2, x3, x4⟩ := five HX2.out
      have u6 := cellB (i := 6) (v := .int .i64 d0) HP2.out.box rfl
      have u7 := cellB (i := 7) (v := .int .i64 d1) HP2.out.box rfl
      have u8 := cellB (i := 8) (v := .int .i64 d2) HP2.out.box rfl
      have u9 := cellB (i := 9) (v := .int .i64 d3) HP2.out.box rfl
      have u10 := cellB (i := 10) (v := .int .i64 d4) HP2.out.box rfl
      have u11 := cellB (i := 11) (v := .int .i64 d5) HP2.out.box rfl
      obtain ⟨_, _, _, _, _, _, v0, v1, v2, v3, v4, v5⟩ := six HV2.out
      have hnv : vB ≠ pB := by have := HNV.out; omega
      have hnx : vB ≠ xB := by have := HNV.out; omega
      have hnv2 := hnv.symm
      have hnx2 := hnx.symm
      go_wp2_with fail
      refine hK.out _ _ ⟨x3, x4, ⟨u6, u7, u8, u9, u10, u11⟩⟩ (fun hHeld => ?_)
      clear hK
      refine wpAnyH_take (i := 11) (oi := _) (v := ?_) rfl (by kernel_rfl) (by kernel_rfl) (by kernel_rfl) (fun _ _ _ h => h) (Or.inl ⟨by kernel_rfl, ?_⟩) (by assumption) ?_
      rotate_left
      · intro w hSw
        (try dsimp only at hSw)
        go_simp
        all_goals with_reducible rfl
      simp only [Act.put]
      refine wpAnyH_take (i := 12) (oi := _) (v := ?_) rfl (by kernel_rfl) (by kernel_rfl) (by kernel_rfl) (fun _ _ _ h => h) (Or.inl ⟨by kernel_rfl, ?_⟩) (by assumption) ?_
      rotate_left
      · intro w hSw
        (try dsimp only at hSw)
        go_simp
        all_goals with_reducible rfl
      simp only [Act.put]
      refine wpAnyH_take (i := 13) (oi := _) (v := ?_) rfl (by kernel_rfl) (by kernel_rfl) (by kernel_rfl) (fun _ _ _ h => h) (Or.inl ⟨by kernel_rfl, ?_⟩) (by assumption) ?_
      rotate_left
      · intro w hSw
        (try dsimp only at hSw)
        go_simp
        all_goals with_reducible rfl
      simp only [Act.put]
      refine wpAnyH_ready (rs := [15]) (by kernel_rfl) (by simp) ?_
      refine AllReadyH.cons (o := _) rfl (fun K hK => ?_) AllReadyH.nil
      go_simp
      refine hK.out _ _ (by go_keep) (fun hHeld => ?_)
      clear hK
      refine wpAnyH_ready (rs := [16]) (by kernel_rfl) (by simp) ?_
      refine AllReadyH.cons (o := _) rfl (fun K hK => ?_) AllReadyH.nil
      go_simp
      refine hK.out _ _ (by go_keep) (fun hHeld => ?_)
      clear hK
      refine wpAnyH_done (by kernel_rfl) ?_ _
      have oV : Only (· = vB) y1 (set6 y1 vB (.int .i64 g0) (.int .i64 g1) (.int .i64 g2) (.int .i64 g3) (.int .i64 g4) (.int .i64 g5)) := only_set6 y1 vB (.int .i64 g0) (.int .i64 g1) (.int .i64 g2) (.int .i64 g3) (.int .i64 g4) (.int .i64 g5)
      have HC : Hid (CI B W0 pB mA mB n ⟨⟨⟨c0, c1, c2, c3, c4, c5⟩, a0, b0, h0, f0⟩, ⟨⟨d0, d1, d2, d3, d4, d5⟩, a1, b1, h1, f1⟩, ⟨l0, l1, l2, l3, l4, so⟩, bag, ck⟩ sp cap xB #[.int .i64 1, .bool true, .int .i64 xk, .int .i64 xs, .int .i64 xe] vB ⟨g0, g1, g2, g3, g4, g5⟩ (set6 y1 vB (.int .i64 g0) (.int .i64 g1) (.int .i64 g2) (.int .i64 g3) (.int .i64 g4) (.int .i64 g5))) := hide ⟨HP2.out.only oV HNV.out.1 HNV.out.2 ⟨_, HV2.out⟩, oV.obj HX2.out (fun e => by have e' : xB = vB := e; have := HNV.out; omega), heap_set6 HV2.out (.int .i64 g0) (.int .i64 g1) (.int .i64 g2) (.int .i64 g3) (.int .i64 g4) (.int .i64 g5), HNV.out⟩
      unfold set6 at HC
      go_wp2_with fail
      go_meet
      case rel => exact ⟨_, rfl, rfl, HC⟩
  case rest =>
  rename World => X
  obtain ⟨vB, rfl, rfl, HC⟩ := hcut
  clear HP0 HX0 HP1 HX1 B0 x0 x1 x2 x3 x4 u6 u7 u8 u9 u10 u11
  have hne1 : pB ≠ xB := by have := HC.out.lt; omega
  have hne2 : xB ≠ pB := hne1.symm
  have hne3 : pB ≠ vB := by have := HC.out.lt; omega
  have hne4 : vB ≠ pB := hne3.symm
  have HP5 := hide HC.out.rep
  have HV5 := hide HC.out.vbox
  obtain ⟨Y, hY⟩ : ∃ Y, Y = X := ⟨_, rfl⟩
  rw [← hY] at HP5 HV5 ⊢
  clear hY HC
  obtain ⟨_, _, _, _, _, _, v0, v1, v2, v3, v4, v5⟩ := six HV5.out
  try simp only at v0 v1 v2 v3 v4 v5
  have u6 := cellB (i := 6) (v := .int .i64 d0) HP5.out.box rfl
  have u7 := cellB (i := 7) (v := .int .i64 d1) HP5.out.box rfl
  have u8 := cellB (i := 8) (v := .int .i64 d2) HP5.out.box rfl
  have u9 := cellB (i := 9) (v := .int .i64 d3) HP5.out.box rfl
  have u10 := cellB (i := 10) (v := .int .i64 d4) HP5.out.box rfl
  have u11 := cellB (i := 11) (v := .int .i64 d5) HP5.out.box rfl
  have z6 := frB (i := 6) HP5.out.box
  have z7 := frB (i := 7) HP5.out.box
  have z8 := frB (i := 8) HP5.out.box
  have z9 := frB (i := 9) HP5.out.box
  have z10 := frB (i := 10) HP5.out.box
  have z11 := frB (i := 11) HP5.out.box
  go_upto_region 8 with fail
  refine wp_region_held_drew (S := fun w' => w'.cell? ⟨vB, 0, none⟩ = some (.int .i64 g0) ∧ w'.cell? ⟨vB, 1, none⟩ = some (.int .i64 g1) ∧ w'.cell? ⟨vB, 2, none⟩ = some (.int .i64 g2) ∧ w'.cell? ⟨vB, 3, none⟩ = some (.int .i64 g3) ∧ w'.cell? ⟨vB, 4, none⟩ = some (.int .i64 g4) ∧ w'.cell? ⟨vB, 5, none⟩ = some (.int .i64 g5)) (by kernel_rfl) ⟨v0, v1, v2, v3, v4, v5⟩ (fun hHeld => ?_)
  refine wpAnyH_take (i := 0) (oi := _) (v := ?_) rfl (by kernel_rfl) (by kernel_rfl) (by kernel_rfl) (fun _ _ _ h => h) (Or.inl ⟨by kernel_rfl, ?_⟩) (by assumption) ?_
  rotate_left
  · intro w hSw
    (try dsimp only at hSw)
    go_simp
    all_goals with_reducible rfl
  simp only [Act.put]
  refine wpAnyH_take (i := 1) (oi := _) (v := ?_) rfl (by kernel_rfl) (by kernel_rfl) (by kernel_rfl) (fun _ _ _ h => h) (Or.inl ⟨by kernel_rfl, ?_⟩) (by assumption) ?_
  rotate_left
  · intro w hSw
    (try dsimp only at hSw)
    go_simp
    all_goals with_reducible rfl
  simp only [Act.put]
  refine wpAnyH_take (i := 2) (oi := _) (v := ?_) rfl (by kernel_rfl) (by kernel_rfl) (by kernel_rfl) (fun _ _ _ h => h) (Or.inl ⟨by kernel_rfl, ?_⟩) (by assumption) ?_
  rotate_left
  · intro w hSw
    (try dsimp only at hSw)
    go_simp
    all_goals with_reducible rfl
  simp only [Act.put]
  refine wpAnyH_take (i := 3) (oi := _) (v := ?_) rfl (by kernel_rfl) (by kernel_rfl) (by kernel_rfl) (fun _ _ _ h => h) (Or.inl ⟨by kernel_rfl, ?_⟩) (by assumption) ?_
  rotate_left
  · intro w hSw
    (try dsimp only at hSw)
    go_simp
    all_goals with_reducible rfl
  simp only [Act.put]
  refine wpAnyH_take (i := 4) (oi := _) (v := ?_) rfl (by kernel_rfl) (by kernel_rfl) (by kernel_rfl) (fun _ _ _ h => h) (Or.inl ⟨by kernel_rfl, ?_⟩) (by assumption) ?_
  rotate_left
  · intro w hSw
    (try dsimp only at hSw)
    go_simp
    all_goals with_reducible rfl
  simp only [Act.put]
  refine wpAnyH_take (i := 5) (oi := _) (v := ?_) rfl (by kernel_rfl) (by kernel_rfl) (by kernel_rfl) (fun _ _ _ h => h) (Or.inl ⟨by kernel_rfl, ?_⟩) (by assumption) ?_
  rotate_left
  · intro w hSw
    (try dsimp only at hSw)
    go_simp
    all_goals with_reducible rfl
  simp only [Act.put]
  refine wpAnyH_ready (rs := [6]) (by kernel_rfl) (by simp) ?_
  refine AllReadyH.cons (o := _) rfl (fun K hK => ?_) AllReadyH.nil
  go_simp
  refine hK.out _ _ (by go_keep) (fun hHeld => ?_)
  clear hK
  refine wpAnyH_done (by kernel_rfl) ?_ _
  go_wp2
  refine bodyPost_ret (results_none rfl _ _ _) rfl ?_
  have HF := HP5.out.put (q := ⟨⟨⟨c0, c1, c2, c3, c4, c5⟩, a0, b0, h0, f0⟩, ⟨⟨g0, g1, g2, g3, g4, g5⟩, a1, b1, h1, f1⟩, ⟨l0, l1, l2, l3, l4, so⟩, bag, ck⟩) (((((((Only.refl (· = pB) Y).trans (Only.set _ pB 6 (.int .i64 g0) rfl)).trans (Only.set _ pB 7 (.int .i64 g1) rfl)).trans (Only.set _ pB 8 (.int .i64 g2) rfl)).trans (Only.set _ pB 9 (.int .i64 g3) rfl)).trans (Only.set _ pB 10 (.int .i64 g4) rfl)).trans (Only.set _ pB 11 (.int .i64 g5) rfl)) (heap_set_sameL (heap_set_sameL (heap_set_sameL (heap_set_sameL (heap_set_sameL (heap_set_sameL HP5.out.box 6 (.int .i64 g0)) 7 (.int .i64 g1)) 8 (.int .i64 g2)) 9 (.int .i64 g3)) 10 (.int .i64 g4)) 11 (.int .i64 g5)) rfl rfl rfl
  exact ⟨rfl, sp, cap, HF.later ((Below.refl _ _).drew)⟩
end Go.Proofs.Ytegffdmlkbdcdaa
