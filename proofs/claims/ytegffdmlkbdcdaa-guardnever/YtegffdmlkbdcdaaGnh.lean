/-
  A move, more of them (Gnh). The conditions: that the play lies there, and that its numbers are not near the greatest.
-/
import Derived.Test.YtegffdmlkbdcdaaGng
namespace Go.Proofs.Ytegffdmlkbdcdaa
open Go.ChangeShapes Go.WideShapes Go.ChangeAt Go.RowKit

set_option maxRecDepth 100000 in
set_option maxHeartbeats 8000000 in
theorem mov_end03 {W : World} {B pB mA mB n cap : Nat} {sp : Option Addr} {W0 : World} {c0 c1 c2 c3 c4 c5 d0 d1 d2 d3 d4 d5 a0 b0 a1 b1 l0 l1 l2 l3 l4 ck : Int} {h0 h1 so : Bool} {f0 f1 : Int → Int × Int} {bag : List LT} {mr mn mw : Int} {mt : Bool} (hP : PRep B W0 pB mA mB n ⟨⟨⟨c0, c1, c2, c3, c4, c5⟩, a0, b0, h0, f0⟩, ⟨⟨d0, d1, d2, d3, d4, d5⟩, a1, b1, h1, f1⟩, ⟨l0, l1, l2, l3, l4, so⟩, bag, ck⟩ sp cap W) (hr : bits .and .i64 mr 1 = 0) (hbig : bag.length ≤ 1000) (he : c1 ≠ 0) :
    Calls Try.prog 18 #[.pointer (some ⟨pB, 0, none⟩), .agg #[.int .i64 3, .int .i64 mr, .int .i64 mn, .int .i64 mw, .bool mt]] W fun e w' => e = .returned (.tuple #[]) ∧ ∃ sp' cap', PRep B W0 pB mA mB n (endP ⟨⟨⟨c0, c1, c2, c3, c4, c5⟩, a0, b0, h0, f0⟩, ⟨⟨d0, d1, d2, d3, d4, d5⟩, a1, b1, h1, f1⟩, ⟨l0, l1, l2, l3, l4, so⟩, bag, ck⟩ 0 3) sp' cap' w' := by
  obtain ⟨⟨g0, g1, g2, g3, g4, g5⟩, hg⟩ : ∃ z, yieG ⟨c0, c1, c2, c3, c4, c5⟩ = z := ⟨_, rfl⟩
  have HR := hide hg
  have HQ : Hid (endP ⟨⟨⟨c0, c1, c2, c3, c4, c5⟩, a0, b0, h0, f0⟩, ⟨⟨d0, d1, d2, d3, d4, d5⟩, a1, b1, h1, f1⟩, ⟨l0, l1, l2, l3, l4, so⟩, bag, ck⟩ 0 3 = ⟨⟨⟨g0, g1, g2, g3, g4, g5⟩, a0, b0, h0, f0⟩, ⟨⟨d0, d1, d2, d3, d4, d5⟩, a1, b1, h1, f1⟩, ⟨l0, l1, l2, l3, l4, so⟩, (bag ++ [(⟨0, false, 3, 0, c1⟩ : LT)]), ck⟩) := hide (by
    have e : yieG (PL.at ⟨⟨⟨c0, c1, c2, c3, c4, c5⟩, a0, b0, h0, f0⟩, ⟨⟨d0, d1, d2, d3, d4, d5⟩, a1, b1, h1, f1⟩, ⟨l0, l1, l2, l3, l4, so⟩, bag, ck⟩ 0).g = ⟨g0, g1, g2, g3, g4, g5⟩ := hg
    unfold endP
    rw [e]
    exact if_neg he)
  rw [HQ.out]
  have hd : (c1 == 0) = false := ne_eqL he
  have HBIG := hide hbig
  clear hg he hbig
  obtain ⟨V, hV⟩ : ∃ V, V = W.alloc (.cells #[.int .i64 3, .int .i64 mr, .int .i64 mn, .int .i64 mw, .bool mt] 52 (0, 0)) := ⟨_, rfl⟩
  have bV : Below W.heap.size W V := by rw [hV]; exact alloc_below _ _
  have hx : V.heap[W.heap.size]? = some (.cells #[.int .i64 3, .int .i64 mr, .int .i64 mn, .int .i64 mw, .bool mt] 52 (0, 0)) := by rw [hV]; exact heap_alloc_new W _
  obtain ⟨xB, hxB⟩ : ∃ xB, W.heap.size = xB := ⟨_, rfl⟩
  have HLT : Hid (pB < xB) := hide (by rw [← hxB]; exact box_lt hP.box)
  rw [hxB] at hx
  have HX0 := hide hx
  have HP0 := hide (hP.later bV)
  clear hx bV hP
  go_enter Try.func18, Try.ntmps18
  go_upto_region 1 with fail
  rw [← hV]
  try rw [hxB]
  clear hV hxB
  obtain ⟨_, _, _, _, _, x0, x1, x2, x3, x4⟩ := five HX0.out
  have u0 := cellB (i := 0) (v := .int .i64 c0) HP0.out.box rfl
  have u1 := cellB (i := 1) (v := .int .i64 c1) HP0.out.box rfl
  have u2 := cellB (i := 2) (v := .int .i64 c2) HP0.out.box rfl
  have u3 := cellB (i := 3) (v := .int .i64 c3) HP0.out.box rfl
  have u4 := cellB (i := 4) (v := .int .i64 c4) HP0.out.box rfl
  have u5 := cellB (i := 5) (v := .int .i64 c5) HP0.out.box rfl
  go_upto_region 21 with fail
  obtain ⟨Q, hQ⟩ : ∃ Q, Q = V := ⟨_, rfl⟩
  rw [← hQ] at HP0
  rw [← hQ]
  clear hQ u0 u1 u2 u3 u4 u5 x0 x1 x2 x3 x4
  obtain ⟨j0, hj0, hj1, hj2, hj3⟩ := info_partsL Try.infoLT
  go_cut [] from 120 to 138 (fun wd => ∃ p6 c6, PRep B W0 pB mA mB n (⟨⟨⟨c0, c1, c2, c3, c4, c5⟩, a0, b0, h0, f0⟩, ⟨⟨d0, d1, d2, d3, d4, d5⟩, a1, b1, h1, f1⟩, ⟨l0, l1, l2, l3, l4, so⟩, (bag ++ [(⟨0, false, 3, 0, c1⟩ : LT)]), ck⟩) p6 c6 wd)
  case first =>
    have u18 := cellB (i := 18) (v := .slice sp bag.length cap) HP0.out.box rfl
    have u1 := cellB (i := 1) (v := .int .i64 c1) HP0.out.box rfl
    refine wp_region_held_drew (S := fun w' => w'.cell? ⟨pB, 1, none⟩ = some (.int .i64 c1)) (by kernel_rfl) u1 (fun hHeld => ?_)
    refine wpAnyH_take (i := 0) (oi := _) (v := ?_) rfl (by kernel_rfl) (by kernel_rfl) (by kernel_rfl) (fun _ _ _ h => h) (Or.inl ⟨by kernel_rfl, ?_⟩) (by assumption) ?_
    rotate_left
    · intro w hSw
      (try dsimp only at hSw)
      go_simp
      all_goals with_reducible rfl
    simp only [Act.put]
    refine wpAnyH_take (i := 1) (oi := _) (v := ?_) rfl (by kernel_rfl) (by kernel_rfl) (by kernel_rfl) (fun _ _ _ h => h) (Or.inl ⟨by kernel_rfl, ?_⟩) (by assumption) ?_
    rotate_left
    · intro w hSw
      (try dsimp only at hSw)
      go_simp
      all_goals with_reducible rfl
    simp only [Act.put]
    refine wpAnyH_take (i := 2) (oi := _) (v := ?_) rfl (by kernel_rfl) (by kernel_rfl) (by kernel_rfl) (fun _ _ _ h => h) (Or.inl ⟨by kernel_rfl, ?_⟩) (by assumption) ?_
    rotate_left
    · intro w hSw
      (try dsimp only at hSw)
      go_simp
      all_goals with_reducible rfl
    simp only [Act.put]
    refine wpAnyH_take (i := 3) (oi := _) (v := ?_) rfl (by kernel_rfl) (by kernel_rfl) (by kernel_rfl) (fun _ _ _ h => h) (Or.inl ⟨by kernel_rfl, ?_⟩) (by assumption) ?_
    rotate_left
    · intro w hSw
      (try dsimp only at hSw)
      go_simp
      all_goals with_reducible rfl
    simp only [Act.put]
    refine wpAnyH_take (i := 5) (oi := _) (v := ?_) rfl (by kernel_rfl) (by kernel_rfl) (by kernel_rfl) (fun _ _ _ h => h) (Or.inl ⟨by kernel_rfl, ?_⟩) (by assumption) ?_
    rotate_left
    · intro w hSw
      (try dsimp only at hSw)
      go_simp
      all_goals with_reducible rfl
    simp only [Act.put]
    refine wpAnyH_take (i := 6) (oi := _) (v := ?_) rfl (by kernel_rfl) (by kernel_rfl) (by kernel_rfl) (fun _ _ _ h => h) (Or.inl ⟨by kernel_rfl, ?_⟩) (by assumption) ?_
    rotate_left
    · intro w hSw
      (try dsimp only at hSw)
      go_simp
      all_goals with_reducible rfl
    simp only [Act.put]
    refine wpAnyH_take (i := 7) (oi := _) (v := ?_) rfl (by kernel_rfl) (by kernel_rfl) (by kernel_rfl) (fun _ _ _ h => h) (Or.inl ⟨by kernel_rfl, ?_⟩) (by assumption) ?_
    rotate_left
    · intro w hSw
      (try dsimp only at hSw)
      go_simp
      all_goals with_reducible rfl
    simp only [Act.put]
    refine wpAnyH_take (i := 8) (oi := _) (v := ?_) rfl (by kernel_rfl) (by kernel_rfl) (by kernel_rfl) (fun _ _ _ h => h) (Or.inl ⟨by kernel_rfl, ?_⟩) (by assumption) ?_
    rotate_left
    · intro w hSw
      (try dsimp only at hSw)
      go_simp
      all_goals with_reducible rfl
    simp only [Act.put]
    refine wpAnyH_take (i := 9) (oi := _) (v := ?_) rfl (by kernel_rfl) (by kernel_rfl) (by kernel_rfl) (fun _ _ _ h => h) (Or.inl ⟨by kernel_rfl, ?_⟩) (by assumption) ?_
    rotate_left
    · intro w hSw
      (try dsimp only at hSw)
      go_simp
      all_goals with_reducible rfl
    simp only [Act.put]
    refine wpAnyH_take (i := 10) (oi := _) (v := ?_) rfl (by kernel_rfl) (by kernel_rfl) (by kernel_rfl) (fun _ _ _ h => h) (Or.inl ⟨by kernel_rfl, ?_⟩) (by assumption) ?_
    rotate_left
    · intro w hSw
      (try dsimp only at hSw)
      go_simp
      all_goals with_reducible rfl
    simp only [Act.put]
    refine wpAnyH_take (i := 11) (oi := _) (v := ?_) rfl (by kernel_rfl) (by kernel_rfl) (by kernel_rfl) (fun _ _ _ h => h) (Or.inl ⟨by kernel_rfl, ?_⟩) (by assumption) ?_
    rotate_left
    · intro w hSw
      (try dsimp only at hSw)
      go_simp
      all_goals with_reducible rfl
    simp only [Act.put]
    refine wpAnyH_take (i := 12) (oi := _) (v := ?_) rfl (by kernel_rfl) (by kernel_rfl) (by kernel_rfl) (fun _ _ _ h => h) (Or.inl ⟨by kernel_rfl, ?_⟩) (by assumption) ?_
    rotate_left
    · intro w hSw
      (try dsimp only at hSw)
      go_simp
      all_goals with_reducible rfl
    simp only [Act.put]
    refine wpAnyH_take (i := 13) (oi := _) (v := ?_) rfl (by kernel_rfl) (by kernel_rfl) (by kernel_rfl) (fun _ _ _ h => h) (Or.inl ⟨by kernel_rfl, ?_⟩) (by assumption) ?_
    rotate_left
    · intro w hSw
      (try dsimp only at hSw)
      go_simp
      all_goals with_reducible rfl
    simp only [Act.put]
    refine wpAnyH_take (i := 14) (oi := _) (v := ?_) rfl (by kernel_rfl) (by kernel_rfl) (by kernel_rfl) (fun _ _ _ h => h) (Or.inl ⟨by kernel_rfl, ?_⟩) (by assumption) ?_
    rotate_left
    · intro w hSw
      (try dsimp only at hSw)
      go_simp
      all_goals with_reducible rfl
    simp only [Act.put]
    refine wpAnyH_ready (rs := [4, 15]) (by kernel_rfl) (by simp) ?_
    refine AllReadyH.cons (o := _) rfl (fun K hK => ?_) (AllReadyH.cons (o := _) rfl (fun K hK => ?_) AllReadyH.nil)
    · go_simp
      refine hK.out _ _ hHeld (fun hHeld => ?_)
      clear hK
      refine wpAnyH_ready (rs := [15]) (by kernel_rfl) (by simp) ?_
      refine AllReadyH.cons (o := _) rfl (fun K hK => ?_) AllReadyH.nil
      go_simp
      refine hK.out _ _ (cellB (i := 1) (v := .int .i64 c1) (below_box (alloc_below _ _) HP0.out.box) rfl) (fun hHeld => ?_)
      clear hK
      obtain ⟨R, hR⟩ : ∃ R, R = Q.alloc (.cells #[.int .i64 0, .bool false, .int .i64 3, .int .i64 0, .int .i64 c1] 64 (0, 0)) := ⟨_, rfl⟩
      have bR : Below Q.heap.size Q R := by rw [hR]; exact alloc_below _ _
      obtain ⟨nB, hnB⟩ : ∃ nB, Q.heap.size = nB := ⟨_, rfl⟩
      have HSG : Hid (Seg R 5 (.slice (some ⟨nB, 0, none⟩) 1 1) 1 [.int .i64 0, .bool false, .int .i64 3, .int .i64 0, .int .i64 c1]) := hide (by rw [hR, ← hnB]; exact Seg.news (heap_alloc_new Q _) (by simp [Value.oneCell']) rfl (Nat.le_refl _) (by decide))
      have HP8 := hide (HP0.out.later bR)

      rw [← hR] at hHeld
      rw [← hR]
      try rw [hnB]
      clear hR hnB bR
      refine wpAnyH_ready (rs := [16]) (by kernel_rfl) (by simp) ?_
      refine AllReadyH.cons (o := _) rfl (fun K hK => ?_) AllReadyH.nil
      refine step_append_cells rfl (.tmp 124) (.tmp 135) 42 rfl B 64 j0 (.agg #[.int .i64 0, .bool false, .int .i64 0, .int .i64 0, .int .i64 0]) 5 40 Try.underlying42 hj0 hj1 hj2 hj3 rfl (by decide) (.slice sp bag.length cap) bag.length _ rfl HP8.out.bag.drew (.slice (some ⟨nB, 0, none⟩) 1 1) 1 _ rfl HSG.out (by have := HBIG.out; unfold maxLen; omega) (by have := HBIG.out; omega) (Nat.le_trans HP8.out.ne.2.1 (Nat.le_of_lt (box_lt HP8.out.box))) ?_
      intro p6 c6 w6 o6 g6
      have HP9 := hide (HP8.out.later ((Below.refl _ R).drew))
      have HF := hide (HP9.out.app (y := (⟨0, false, 3, 0, c1⟩ : LT)) o6 g6)
      have ho6 : Only (fun i => (Value.slice sp bag.length cap).ownBlock = some i) R.drew w6 := Only.of_grown g6 (fun k e => e)
      have hb6 := ho6.obj HP9.out.box (fun e => bag_box HP9.out.bag HP9.out.box (by decide) _ e rfl)
      clear o6 g6 ho6 hHeld
      have w18 := cellB (i := 18) (v := .slice sp bag.length cap) hb6 rfl
      have y18 := frB (i := 18) hb6
      refine hK.out _ _ (cellB (i := 1) (v := .int .i64 c1) hb6 rfl) (fun hHeld => ?_)
      clear hK
      refine wpAnyH_take (i := 17) (oi := _) (v := ?_) rfl (by kernel_rfl) (by kernel_rfl) (by kernel_rfl) (fun _ _ _ h => h) (Or.inl ⟨by kernel_rfl, ?_⟩) (by assumption) ?_
      rotate_left
      · intro w hSw
        (try dsimp only at hSw)
        go_simp
        all_goals with_reducible rfl
      simp only [Act.put]
      refine wpAnyH_take (i := 18) (oi := _) (v := ?_) rfl (by kernel_rfl) (by kernel_rfl) (by kernel_rfl) (fun _ _ _ h => h) (Or.inl ⟨by kernel_rfl, ?_⟩) (by assumption) ?_
      rotate_left
      · intro w hSw
        (try dsimp only at hSw)
        go_simp
        all_goals with_reducible rfl
      simp only [Act.put]
      refine wpAnyH_ready (rs := [19]) (by kernel_rfl) (by simp) ?_
      refine AllReadyH.cons (o := _) rfl (fun K hK => ?_) AllReadyH.nil
      go_simp
      refine hK.out _ _ (cellB (i := 1) (v := .int .i64 c1) (heap_set_sameL hb6 18 _) rfl) (fun hHeld => ?_)
      clear hK
      refine wpAnyH_done (by kernel_rfl) ?_ _
      go_wp2_with fail
      go_meet
      case rel => exact ⟨p6, c6, HF.out⟩
    · go_simp
      refine hK.out _ _ (cellB (i := 1) (v := .int .i64 c1) (below_box (alloc_below _ _) HP0.out.box) rfl) (fun hHeld => ?_)
      clear hK
      obtain ⟨R, hR⟩ : ∃ R, R = Q.alloc (.cells #[.int .i64 0, .bool false, .int .i64 3, .int .i64 0, .int .i64 c1] 64 (0, 0)) := ⟨_, rfl⟩
      have bR : Below Q.heap.size Q R := by rw [hR]; exact alloc_below _ _
      obtain ⟨nB, hnB⟩ : ∃ nB, Q.heap.size = nB := ⟨_, rfl⟩
      have HSG : Hid (Seg R 5 (.slice (some ⟨nB, 0, none⟩) 1 1) 1 [.int .i64 0, .bool false, .int .i64 3, .int .i64 0, .int .i64 c1]) := hide (by rw [hR, ← hnB]; exact Seg.news (heap_alloc_new Q _) (by simp [Value.oneCell']) rfl (Nat.le_refl _) (by decide))
      have HP8 := hide (HP0.out.later bR)

      rw [← hR] at hHeld
      rw [← hR]
      try rw [hnB]
      clear hR hnB bR
      have v18 := cellB (i := 18) (v := .slice sp bag.length cap) HP8.out.box rfl
      refine wpAnyH_ready (rs := [4]) (by kernel_rfl) (by simp) ?_
      refine AllReadyH.cons (o := _) rfl (fun K hK => ?_) AllReadyH.nil
      go_simp
      refine hK.out _ _ hHeld (fun hHeld => ?_)
      clear hK
      refine wpAnyH_ready (rs := [16]) (by kernel_rfl) (by simp) ?_
      refine AllReadyH.cons (o := _) rfl (fun K hK => ?_) AllReadyH.nil
      refine step_append_cells rfl (.tmp 124) (.tmp 135) 42 rfl B 64 j0 (.agg #[.int .i64 0, .bool false, .int .i64 0, .int .i64 0, .int .i64 0]) 5 40 Try.underlying42 hj0 hj1 hj2 hj3 rfl (by decide) (.slice sp bag.length cap) bag.length _ rfl HP8.out.bag.drew (.slice (some ⟨nB, 0, none⟩) 1 1) 1 _ rfl HSG.out (by have := HBIG.out; unfold maxLen; omega) (by have := HBIG.out; omega) (Nat.le_trans HP8.out.ne.2.1 (Nat.le_of_lt (box_lt HP8.out.box))) ?_
      intro p6 c6 w6 o6 g6
      have HP9 := hide (HP8.out.later ((Below.refl _ R).drew))
      have HF := hide (HP9.out.app (y := (⟨0, false, 3, 0, c1⟩ : LT)) o6 g6)
      have ho6 : Only (fun i => (Value.slice sp bag.length cap).ownBlock = some i) R.drew w6 := Only.of_grown g6 (fun k e => e)
      have hb6 := ho6.obj HP9.out.box (fun e => bag_box HP9.out.bag HP9.out.box (by decide) _ e rfl)
      clear o6 g6 ho6 hHeld
      have w18 := cellB (i := 18) (v := .slice sp bag.length cap) hb6 rfl
      have y18 := frB (i := 18) hb6
      refine hK.out _ _ (cellB (i := 1) (v := .int .i64 c1) hb6 rfl) (fun hHeld => ?_)
      clear hK
      refine wpAnyH_take (i := 17) (oi := _) (v := ?_) rfl (by kernel_rfl) (by kernel_rfl) (by kernel_rfl) (fun _ _ _ h => h) (Or.inl ⟨by kernel_rfl, ?_⟩) (by assumption) ?_
      rotate_left
      · intro w hSw
        (try dsimp only at hSw)
        go_simp
        all_goals with_reducible rfl
      simp only [Act.put]
      refine wpAnyH_take (i := 18) (oi := _) (v := ?_) rfl (by kernel_rfl) (by kernel_rfl) (by kernel_rfl) (fun _ _ _ h => h) (Or.inl ⟨by kernel_rfl, ?_⟩) (by assumption) ?_
      rotate_left
      · intro w hSw
        (try dsimp only at hSw)
        go_simp
        all_goals with_reducible rfl
      simp only [Act.put]
      refine wpAnyH_ready (rs := [19]) (by kernel_rfl) (by simp) ?_
      refine AllReadyH.cons (o := _) rfl (fun K hK => ?_) AllReadyH.nil
      go_simp
      refine hK.out _ _ (cellB (i := 1) (v := .int .i64 c1) (heap_set_sameL hb6 18 _) rfl) (fun hHeld => ?_)
      clear hK
      refine wpAnyH_done (by kernel_rfl) ?_ _
      go_wp2_with fail
      go_meet
      case rel => exact ⟨p6, c6, HF.out⟩
  case rest =>
  rename World => X
  obtain ⟨p6, c6, hPX⟩ := hcut
  have HPX := hide hPX
  clear hPX
  have u0 := cellB (i := 0) (v := .int .i64 c0) HPX.out.box rfl
  have u1 := cellB (i := 1) (v := .int .i64 c1) HPX.out.box rfl
  have u2 := cellB (i := 2) (v := .int .i64 c2) HPX.out.box rfl
  have u3 := cellB (i := 3) (v := .int .i64 c3) HPX.out.box rfl
  have u4 := cellB (i := 4) (v := .int .i64 c4) HPX.out.box rfl
  have u5 := cellB (i := 5) (v := .int .i64 c5) HPX.out.box rfl
  have z0 := frB (i := 0) HPX.out.box
  have z1 := frB (i := 1) HPX.out.box
  have z2 := frB (i := 2) HPX.out.box
  have z3 := frB (i := 3) HPX.out.box
  have z4 := frB (i := 4) HPX.out.box
  have z5 := frB (i := 5) HPX.out.box
  have B0 : Below X.heap.size X X.drew := (Below.refl _ X).drew
  have HP1 := hide (HPX.out.later B0)
  go_upto_region 22 with fail
  refine wp_region_held_drew (S := fun _ => True) (by kernel_rfl) trivial (fun hHeld => ?_)
  refine wpAnyH_take (i := 0) (oi := _) (v := ?_) rfl (by kernel_rfl) (by kernel_rfl) (by kernel_rfl) (fun _ _ _ h => h) (Or.inl ⟨by kernel_rfl, ?_⟩) (by assumption) ?_
  rotate_left
  · intro w hSw
    (try dsimp only at hSw)
    go_simp
    all_goals with_reducible rfl
  simp only [Act.put]
  refine wpAnyH_take (i := 1) (oi := _) (v := ?_) rfl (by kernel_rfl) (by kernel_rfl) (by kernel_rfl) (fun _ _ _ h => h) (Or.inl ⟨by kernel_rfl, ?_⟩) (by assumption) ?_
  rotate_left
  · intro w hSw
    (try dsimp only at hSw)
    go_simp
    all_goals with_reducible rfl
  simp only [Act.put]
  refine wpAnyH_take (i := 2) (oi := _) (v := ?_) rfl (by kernel_rfl) (by kernel_rfl) (by kernel_rfl) (fun _ _ _ h => h) (Or.inl ⟨by kernel_rfl, ?_⟩) (by assumption) ?_
  rotate_left
  · intro w hSw
    (try dsimp only at hSw)
    go_simp
    all_goals with_reducible rfl
  simp only [Act.put]
  refine wpAnyH_take (i := 3) (oi := _) (v := ?_) rfl (by kernel_rfl) (by kernel_rfl) (by kernel_rfl) (fun _ _ _ h => h) (Or.inl ⟨by kernel_rfl, ?_⟩) (by assumption) ?_
  rotate_left
  · intro w hSw
    (try dsimp only at hSw)
    go_simp
    all_goals with_reducible rfl
  simp only [Act.put]
  refine wpAnyH_take (i := 4) (oi := _) (v := ?_) rfl (by kernel_rfl) (by kernel_rfl) (by kernel_rfl) (fun _ _ _ h => h) (Or.inl ⟨by kernel_rfl, ?_⟩) (by assumption) ?_
  rotate_left
  · intro w hSw
    (try dsimp only at hSw)
    go_simp
    all_goals with_reducible rfl
  simp only [Act.put]
  refine wpAnyH_take (i := 5) (oi := _) (v := ?_) rfl (by kernel_rfl) (by kernel_rfl) (by kernel_rfl) (fun _ _ _ h => h) (Or.inl ⟨by kernel_rfl, ?_⟩) (by assumption) ?_
  rotate_left
  · intro w hSw
    (try dsimp only at hSw)
    go_simp
    all_goals with_reducible rfl
  simp only [Act.put]
  refine wpAnyH_take (i := 6) (oi := _) (v := ?_) rfl (by kernel_rfl) (by kernel_rfl) (by kernel_rfl) (fun _ _ _ h => h) (Or.inl ⟨by kernel_rfl, ?_⟩) (by assumption) ?_
  rotate_left
  · intro w hSw
    (try dsimp only at hSw)
    go_simp
    all_goals with_reducible rfl
  simp only [Act.put]
  refine wpAnyH_take (i := 9) (oi := _) (v := ?_) rfl (by kernel_rfl) (by kernel_rfl) (by kernel_rfl) (fun _ _ _ h => h) (Or.inl ⟨by kernel_rfl, ?_⟩) (by assumption) ?_
  rotate_left
  · intro w hSw
    (try dsimp only at hSw)
    go_simp
    all_goals with_reducible rfl
  simp only [Act.put]
  refine wpAnyH_take (i := 10) (oi := _) (v := ?_) rfl (by kernel_rfl) (by kernel_rfl) (by kernel_rfl) (fun _ _ _ h => h) (Or.inl ⟨by kernel_rfl, ?_⟩) (by assumption) ?_
  rotate_left
  · intro w hSw
    (try dsimp only at hSw)
    go_simp
    all_goals with_reducible rfl
  simp only [Act.put]
  refine wpAnyH_ready (rs := [7]) (by kernel_rfl) (by simp) ?_
  refine AllReadyH.cons (o := _) rfl (fun K hK => ?_) AllReadyH.nil
  go_simp
  refine hK.out _ _ trivial (fun hHeld => ?_)
  clear hK
  refine wpAnyH_ready (rs := [8]) (by kernel_rfl) (by simp) ?_
  refine AllReadyH.cons (o := _) rfl (fun K hK => ?_) AllReadyH.nil
  go_simp
  refine yie_any.mono ?_
  rw [HR.out]
  simp only [GE.val, GE.row]
  rintro _ y1 ⟨rfl, b1⟩
  have HP2 := hide (HP1.out.later b1)
  clear b1 hHeld u0 z0 u1 z1 u2 z2 u3 z3 u4 z4 u5 z5
  have u0 := cellB (i := 0) (v := .int .i64 c0) HP2.out.box rfl
  have u1 := cellB (i := 1) (v := .int .i64 c1) HP2.out.box rfl
  have u2 := cellB (i := 2) (v := .int .i64 c2) HP2.out.box rfl
  have u3 := cellB (i := 3) (v := .int .i64 c3) HP2.out.box rfl
  have u4 := cellB (i := 4) (v := .int .i64 c4) HP2.out.box rfl
  have u5 := cellB (i := 5) (v := .int .i64 c5) HP2.out.box rfl
  have z0 := frB (i := 0) HP2.out.box
  have z1 := frB (i := 1) HP2.out.box
  have z2 := frB (i := 2) HP2.out.box
  have z3 := frB (i := 3) HP2.out.box
  have z4 := frB (i := 4) HP2.out.box
  have z5 := frB (i := 5) HP2.out.box
  go_wp2_with fail
  refine hK.out _ _ trivial (fun hHeld => ?_)
  clear hK
  refine wpAnyH_take (i := 11) (oi := _) (v := ?_) rfl (by kernel_rfl) (by kernel_rfl) (by kernel_rfl) (fun _ _ _ h => h) (Or.inl ⟨by kernel_rfl, ?_⟩) (by assumption) ?_
  rotate_left
  · intro w hSw
    (try dsimp only at hSw)
    go_simp
    all_goals with_reducible rfl
  simp only [Act.put]
  refine wpAnyH_ready (rs := [12]) (by kernel_rfl) (by simp) ?_
  refine AllReadyH.cons (o := _) rfl (fun K hK => ?_) AllReadyH.nil
  go_simp
  refine hK.out _ _ trivial (fun hHeld => ?_)
  clear hK
  refine wpAnyH_done (by kernel_rfl) ?_ _
  go_wp2
  refine bodyPost_end (results_none rfl _ _ _) rfl ?_
  exact ⟨rfl, p6, c6, HP2.out.put (q := ⟨⟨⟨g0, g1, g2, g3, g4, g5⟩, a0, b0, h0, f0⟩, ⟨⟨d0, d1, d2, d3, d4, d5⟩, a1, b1, h1, f1⟩, ⟨l0, l1, l2, l3, l4, so⟩, (bag ++ [(⟨0, false, 3, 0, c1⟩ : LT)]), ck⟩) (((((((Only.refl (· = pB) y1).trans (Only.set _ pB 0 (.int .i64 g0) rfl)).trans (Only.set _ pB 1 (.int .i64 g1) rfl)).trans (Only.set _ pB 2 (.int .i64 g2) rfl)).trans (Only.set _ pB 3 (.int .i64 g3) rfl)).trans (Only.set _ pB 4 (.int .i64 g4) rfl)).trans (Only.set _ pB 5 (.int .i64 g5) rfl)) (heap_set_sameL (heap_set_sameL (heap_set_sameL (heap_set_sameL (heap_set_sameL (heap_set_sameL HP2.out.box 0 (.int .i64 g0)) 1 (.int .i64 g1)) 2 (.int .i64 g2)) 3 (.int .i64 g3)) 4 (.int .i64 g4)) 5 (.int .i64 g5)) rfl rfl rfl⟩
set_option maxRecDepth 100000 in
set_option maxHeartbeats 8000000 in
theorem mov_end13 {W : World} {B pB mA mB n cap : Nat} {sp : Option Addr} {W0 : World} {c0 c1 c2 c3 c4 c5 d0 d1 d2 d3 d4 d5 a0 b0 a1 b1 l0 l1 l2 l3 l4 ck : Int} {h0 h1 so : Bool} {f0 f1 : Int → Int × Int} {bag : List LT} {mr mn mw : Int} {mt : Bool} (hP : PRep B W0 pB mA mB n ⟨⟨⟨c0, c1, c2, c3, c4, c5⟩, a0, b0, h0, f0⟩, ⟨⟨d0, d1, d2, d3, d4, d5⟩, a1, b1, h1, f1⟩, ⟨l0, l1, l2, l3, l4, so⟩, bag, ck⟩ sp cap W) (hr : bits .and .i64 mr 1 = 1) (hbig : bag.length ≤ 1000) (he : d1 ≠ 0) :
    Calls Try.prog 18 #[.pointer (some ⟨pB, 0, none⟩), .agg #[.int .i64 3, .int .i64 mr, .int .i64 mn, .int .i64 mw, .bool mt]] W fun e w' => e = .returned (.tuple #[]) ∧ ∃ sp' cap', PRep B W0 pB mA mB n (endP ⟨⟨⟨c0, c1, c2, c3, c4, c5⟩, a0, b0, h0, f0⟩, ⟨⟨d0, d1, d2, d3, d4, d5⟩, a1, b1, h1, f1⟩, ⟨l0, l1, l2, l3, l4, so⟩, bag, ck⟩ 1 3) sp' cap' w' := by
  obtain ⟨⟨g0, g1, g2, g3, g4, g5⟩, hg⟩ : ∃ z, yieG ⟨d0, d1, d2, d3, d4, d5⟩ = z := ⟨_, rfl⟩
  have HR := hide hg
  have HQ : Hid (endP ⟨⟨⟨c0, c1, c2, c3, c4, c5⟩, a0, b0, h0, f0⟩, ⟨⟨d0, d1, d2, d3, d4, d5⟩, a1, b1, h1, f1⟩, ⟨l0, l1, l2, l3, l4, so⟩, bag, ck⟩ 1 3 = ⟨⟨⟨c0, c1, c2, c3, c4, c5⟩, a0, b0, h0, f0⟩, ⟨⟨g0, g1, g2, g3, g4, g5⟩, a1, b1, h1, f1⟩, ⟨l0, l1, l2, l3, l4, so⟩, (bag ++ [(⟨1, false, 3, 0, d1⟩ : LT)]), ck⟩) := hide (by
    have e : yieG (PL.at ⟨⟨⟨c0, c1, c2, c3, c4, c5⟩, a0, b0, h0, f0⟩, ⟨⟨d0, d1, d2, d3, d4, d5⟩, a1, b1, h1, f1⟩, ⟨l0, l1, l2, l3, l4, so⟩, bag, ck⟩ 1).g = ⟨g0, g1, g2, g3, g4, g5⟩ := hg
    unfold endP
    rw [e]
    exact if_neg he)
  rw [HQ.out]
  have hd : (d1 == 0) = false := ne_eqL he
  have HBIG := hide hbig
  clear hg he hbig
  obtain ⟨V, hV⟩ : ∃ V, V = W.alloc (.cells #[.int .i64 3, .int .i64 mr, .int .i64 mn, .int .i64 mw, .bool mt] 52 (0, 0)) := ⟨_, rfl⟩
  have bV : Below W.heap.size W V := by rw [hV]; exact alloc_below _ _
  have hx : V.heap[W.heap.size]? = some (.cells #[.int .i64 3, .int .i64 mr, .int .i64 mn, .int .i64 mw, .bool mt] 52 (0, 0)) := by rw [hV]; exact heap_alloc_new W _
  obtain ⟨xB, hxB⟩ : ∃ xB, W.heap.size = xB := ⟨_, rfl⟩
  have HLT : Hid (pB < xB) := hide (by rw [← hxB]; exact box_lt hP.box)
  rw [hxB] at hx
  have HX0 := hide hx
  have HP0 := hide (hP.later bV)
  clear hx bV hP
  go_enter Try.func18, Try.ntmps18
  go_upto_region 1 with fail
  rw [← hV]
  try rw [hxB]
  clear hV hxB
  obtain ⟨_, _, _, _, _, x0, x1, x2, x3, x4⟩ := five HX0.out
  have u6 := cellB (i := 6) (v := .int .i64 d0) HP0.out.box rfl
  have u7 := cellB (i := 7) (v := .int .i64 d1) HP0.out.box rfl
  have u8 := cellB (i := 8) (v := .int .i64 d2) HP0.out.box rfl
  have u9 := cellB (i := 9) (v := .int .i64 d3) HP0.out.box rfl
  have u10 := cellB (i := 10) (v := .int .i64 d4) HP0.out.box rfl
  have u11 := cellB (i := 11) (v := .int .i64 d5) HP0.out.box rfl
  go_upto_region 21 with fail
  obtain ⟨Q, hQ⟩ : ∃ Q, Q = V := ⟨_, rfl⟩
  rw [← hQ] at HP0
  rw [← hQ]
  clear hQ u6 u7 u8 u9 u10 u11 x0 x1 x2 x3 x4
  obtain ⟨j0, hj0, hj1, hj2, hj3⟩ := info_partsL Try.infoLT
  go_cut [] from 120 to 138 (fun wd => ∃ p6 c6, PRep B W0 pB mA mB n (⟨⟨⟨c0, c1, c2, c3, c4, c5⟩, a0, b0, h0, f0⟩, ⟨⟨d0, d1, d2, d3, d4, d5⟩, a1, b1, h1, f1⟩, ⟨l0, l1, l2, l3, l4, so⟩, (bag ++ [(⟨1, false, 3, 0, d1⟩ : LT)]), ck⟩) p6 c6 wd)
  case first =>
    have u18 := cellB (i := 18) (v := .slice sp bag.length cap) HP0.out.box rfl
    have u7 := cellB (i := 7) (v := .int .i64 d1) HP0.out.box rfl
    refine wp_region_held_drew (S := fun w' => w'.cell? ⟨pB, 7, none⟩ = some (.int .i64 d1)) (by kernel_rfl) u7 (fun hHeld => ?_)
    refine wpAnyH_take (i := 0) (oi := _) (v := ?_) rfl (by kernel_rfl) (by kernel_rfl) (by kernel_rfl) (fun _ _ _ h => h) (Or.inl ⟨by kernel_rfl, ?_⟩) (by assumption) ?_
    rotate_left
    · intro w hSw
      (try dsimp only at hSw)
      go_simp
      all_goals with_reducible rfl
    simp only [Act.put]
    refine wpAnyH_take (i := 1) (oi := _) (v := ?_) rfl (by kernel_rfl) (by kernel_rfl) (by kernel_rfl) (fun _ _ _ h => h) (Or.inl ⟨by kernel_rfl, ?_⟩) (by assumption) ?_
    rotate_left
    · intro w hSw
      (try dsimp only at hSw)
      go_simp
      all_goals with_reducible rfl
    simp only [Act.put]
    refine wpAnyH_take (i := 2) (oi := _) (v := ?_) rfl (by kernel_rfl) (by kernel_rfl) (by kernel_rfl) (fun _ _ _ h => h) (Or.inl ⟨by kernel_rfl, ?_⟩) (by assumption) ?_
    rotate_left
    · intro w hSw
      (try dsimp only at hSw)
      go_simp
      all_goals with_reducible rfl
    simp only [Act.put]
    refine wpAnyH_take (i := 3) (oi := _) (v := ?_) rfl (by kernel_rfl) (by kernel_rfl) (by kernel_rfl) (fun _ _ _ h => h) (Or.inl ⟨by kernel_rfl, ?_⟩) (by assumption) ?_
    rotate_left
    · intro w hSw
      (try dsimp only at hSw)
      go_simp
      all_goals with_reducible rfl
    simp only [Act.put]
    refine wpAnyH_take (i := 5) (oi := _) (v := ?_) rfl (by kernel_rfl) (by kernel_rfl) (by kernel_rfl) (fun _ _ _ h => h) (Or.inl ⟨by kernel_rfl, ?_⟩) (by assumption) ?_
    rotate_left
    · intro w hSw
      (try dsimp only at hSw)
      go_simp
      all_goals with_reducible rfl
    simp only [Act.put]
    refine wpAnyH_take (i := 6) (oi := _) (v := ?_) rfl (by kernel_rfl) (by kernel_rfl) (by kernel_rfl) (fun _ _ _ h => h) (Or.inl ⟨by kernel_rfl, ?_⟩) (by assumption) ?_
    rotate_left
    · intro w hSw
      (try dsimp only at hSw)
      go_simp
      all_goals with_reducible rfl
    simp only [Act.put]
    refine wpAnyH_take (i := 7) (oi := _) (v := ?_) rfl (by kernel_rfl) (by kernel_rfl) (by kernel_rfl) (fun _ _ _ h => h) (Or.inl ⟨by kernel_rfl, ?_⟩) (by assumption) ?_
    rotate_left
    · intro w hSw
      (try dsimp only at hSw)
      go_simp
      all_goals with_reducible rfl
    simp only [Act.put]
    refine wpAnyH_take (i := 8) (oi := _) (v := ?_) rfl (by kernel_rfl) (by kernel_rfl) (by kernel_rfl) (fun _ _ _ h => h) (Or.inl ⟨by kernel_rfl, ?_⟩) (by assumption) ?_
    rotate_left
    · intro w hSw
      (try dsimp only at hSw)
      go_simp
      all_goals with_reducible rfl
    simp only [Act.put]
    refine wpAnyH_take (i := 9) (oi := _) (v := ?_) rfl (by kernel_rfl) (by kernel_rfl) (by kernel_rfl) (fun _ _ _ h => h) (Or.inl ⟨by kernel_rfl, ?_⟩) (by assumption) ?_
    rotate_left
    · intro w hSw
      (try dsimp only at hSw)
      go_simp
      all_goals with_reducible rfl
    simp only [Act.put]
    refine wpAnyH_take (i := 10) (oi := _) (v := ?_) rfl (by kernel_rfl) (by kernel_rfl) (by kernel_rfl) (fun _ _ _ h => h) (Or.inl ⟨by kernel_rfl, ?_⟩) (by assumption) ?_
    rotate_left
    · intro w hSw
      (try dsimp only at hSw)
      go_simp
      all_goals with_reducible rfl
    simp only [Act.put]
    refine wpAnyH_take (i := 11) (oi := _) (v := ?_) rfl (by kernel_rfl) (by kernel_rfl) (by kernel_rfl) (fun _ _ _ h => h) (Or.inl ⟨by kernel_rfl, ?_⟩) (by assumption) ?_
    rotate_left
    · intro w hSw
      (try dsimp only at hSw)
      go_simp
      all_goals with_reducible rfl
    simp only [Act.put]
    refine wpAnyH_take (i := 12) (oi := _) (v := ?_) rfl (by kernel_rfl) (by kernel_rfl) (by kernel_rfl) (fun _ _ _ h => h) (Or.inl ⟨by kernel_rfl, ?_⟩) (by assumption) ?_
    rotate_left
    · intro w hSw
      (try dsimp only at hSw)
      go_simp
      all_goals with_reducible rfl
    simp only [Act.put]
    refine wpAnyH_take (i := 13) (oi := _) (v := ?_) rfl (by kernel_rfl) (by kernel_rfl) (by kernel_rfl) (fun _ _ _ h => h) (Or.inl ⟨by kernel_rfl, ?_⟩) (by assumption) ?_
    rotate_left
    · intro w hSw
      (try dsimp only at hSw)
      go_simp
      all_goals with_reducible rfl
    simp only [Act.put]
    refine wpAnyH_take (i := 14) (oi := _) (v := ?_) rfl (by kernel_rfl) (by kernel_rfl) (by kernel_rfl) (fun _ _ _ h => h) (Or.inl ⟨by kernel_rfl, ?_⟩) (by assumption) ?_
    rotate_left
    · intro w hSw
      (try dsimp only at hSw)
      go_simp
      all_goals with_reducible rfl
    simp only [Act.put]
    refine wpAnyH_ready (rs := [4, 15]) (by kernel_rfl) (by simp) ?_
    refine AllReadyH.cons (o := _) rfl (fun K hK => ?_) (AllReadyH.cons (o := _) rfl (fun K hK => ?_) AllReadyH.nil)
    · go_simp
      refine hK.out _ _ hHeld (fun hHeld => ?_)
      clear hK
      refine wpAnyH_ready (rs := [15]) (by kernel_rfl) (by simp) ?_
      refine AllReadyH.cons (o := _) rfl (fun K hK => ?_) AllReadyH.nil
      go_simp
      refine hK.out _ _ (cellB (i := 7) (v := .int .i64 d1) (below_box (alloc_below _ _) HP0.out.box) rfl) (fun hHeld => ?_)
      clear hK
      obtain ⟨R, hR⟩ : ∃ R, R = Q.alloc (.cells #[.int .i64 1, .bool false, .int .i64 3, .int .i64 0, .int .i64 d1] 64 (0, 0)) := ⟨_, rfl⟩
      have bR : Below Q.heap.size Q R := by rw [hR]; exact alloc_below _ _
      obtain ⟨nB, hnB⟩ : ∃ nB, Q.heap.size = nB := ⟨_, rfl⟩
      have HSG : Hid (Seg R 5 (.slice (some ⟨nB, 0, none⟩) 1 1) 1 [.int .i64 1, .bool false, .int .i64 3, .int .i64 0, .int .i64 d1]) := hide (by rw [hR, ← hnB]; exact Seg.news (heap_alloc_new Q _) (by simp [Value.oneCell']) rfl (Nat.le_refl _) (by decide))
      have HP8 := hide (HP0.out.later bR)

      rw [← hR] at hHeld
      rw [← hR]
      try rw [hnB]
      clear hR hnB bR
      refine wpAnyH_ready (rs := [16]) (by kernel_rfl) (by simp) ?_
      refine AllReadyH.cons (o := _) rfl (fun K hK => ?_) AllReadyH.nil
      refine step_append_cells rfl (.tmp 124) (.tmp 135) 42 rfl B 64 j0 (.agg #[.int .i64 0, .bool false, .int .i64 0, .int .i64 0, .int .i64 0]) 5 40 Try.underlying42 hj0 hj1 hj2 hj3 rfl (by decide) (.slice sp bag.length cap) bag.length _ rfl HP8.out.bag.drew (.slice (some ⟨nB, 0, none⟩) 1 1) 1 _ rfl HSG.out (by have := HBIG.out; unfold maxLen; omega) (by have := HBIG.out; omega) (Nat.le_trans HP8.out.ne.2.1 (Nat.le_of_lt (box_lt HP8.out.box))) ?_
      intro p6 c6 w6 o6 g6
      have HP9 := hide (HP8.out.later ((Below.refl _ R).drew))
      have HF := hide (HP9.out.app (y := (⟨1, false, 3, 0, d1⟩ : LT)) o6 g6)
      have ho6 : Only (fun i => (Value.slice sp bag.length cap).ownBlock = some i) R.drew w6 := Only.of_grown g6 (fun k e => e)
      have hb6 := ho6.obj HP9.out.box (fun e => bag_box HP9.out.bag HP9.out.box (by decide) _ e rfl)
      clear o6 g6 ho6 hHeld
      have w18 := cellB (i := 18) (v := .slice sp bag.length cap) hb6 rfl
      have y18 := frB (i := 18) hb6
      refine hK.out _ _ (cellB (i := 7) (v := .int .i64 d1) hb6 rfl) (fun hHeld => ?_)
      clear hK
      refine wpAnyH_take (i := 17) (oi := _) (v := ?_) rfl (by kernel_rfl) (by kernel_rfl) (by kernel_rfl) (fun _ _ _ h => h) (Or.inl ⟨by kernel_rfl, ?_⟩) (by assumption) ?_
      rotate_left
      · intro w hSw
        (try dsimp only at hSw)
        go_simp
        all_goals with_reducible rfl
      simp only [Act.put]
      refine wpAnyH_take (i := 18) (oi := _) (v := ?_) rfl (by kernel_rfl) (by kernel_rfl) (by kernel_rfl) (fun _ _ _ h => h) (Or.inl ⟨by kernel_rfl, ?_⟩) (by assumption) ?_
      rotate_left
      · intro w hSw
        (try dsimp only at hSw)
        go_simp
        all_goals with_reducible rfl
      simp only [Act.put]
      refine wpAnyH_ready (rs := [19]) (by kernel_rfl) (by simp) ?_
      refine AllReadyH.cons (o := _) rfl (fun K hK => ?_) AllReadyH.nil
      go_simp
      refine hK.out _ _ (cellB (i := 7) (v := .int .i64 d1) (heap_set_sameL hb6 18 _) rfl) (fun hHeld => ?_)
      clear hK
      refine wpAnyH_done (by kernel_rfl) ?_ _
      go_wp2_with fail
      go_meet
      case rel => exact ⟨p6, c6, HF.out⟩
    · go_simp
      refine hK.out _ _ (cellB (i := 7) (v := .int .i64 d1) (below_box (alloc_below _ _) HP0.out.box) rfl) (fun hHeld => ?_)
      clear hK
      obtain ⟨R, hR⟩ : ∃ R, R = Q.alloc (.cells #[.int .i64 1, .bool false, .int .i64 3, .int .i64 0, .int .i64 d1] 64 (0, 0)) := ⟨_, rfl⟩
      have bR : Below Q.heap.size Q R := by rw [hR]; exact alloc_below _ _
      obtain ⟨nB, hnB⟩ : ∃ nB, Q.heap.size = nB := ⟨_, rfl⟩
      have HSG : Hid (Seg R 5 (.slice (some ⟨nB, 0, none⟩) 1 1) 1 [.int .i64 1, .bool false, .int .i64 3, .int .i64 0, .int .i64 d1]) := hide (by rw [hR, ← hnB]; exact Seg.news (heap_alloc_new Q _) (by simp [Value.oneCell']) rfl (Nat.le_refl _) (by decide))
      have HP8 := hide (HP0.out.later bR)

      rw [← hR] at hHeld
      rw [← hR]
      try rw [hnB]
      clear hR hnB bR
      have v18 := cellB (i := 18) (v := .slice sp bag.length cap) HP8.out.box rfl
      refine wpAnyH_ready (rs := [4]) (by kernel_rfl) (by simp) ?_
      refine AllReadyH.cons (o := _) rfl (fun K hK => ?_) AllReadyH.nil
      go_simp
      refine hK.out _ _ hHeld (fun hHeld => ?_)
      clear hK
      refine wpAnyH_ready (rs := [16]) (by kernel_rfl) (by simp) ?_
      refine AllReadyH.cons (o := _) rfl (fun K hK => ?_) AllReadyH.nil
      refine step_append_cells rfl (.tmp 124) (.tmp 135) 42 rfl B 64 j0 (.agg #[.int .i64 0, .bool false, .int .i64 0, .int .i64 0, .int .i64 0]) 5 40 Try.underlying42 hj0 hj1 hj2 hj3 rfl (by decide) (.slice sp bag.length cap) bag.length _ rfl HP8.out.bag.drew (.slice (some ⟨nB, 0, none⟩) 1 1) 1 _ rfl HSG.out (by have := HBIG.out; unfold maxLen; omega) (by have := HBIG.out; omega) (Nat.le_trans HP8.out.ne.2.1 (Nat.le_of_lt (box_lt HP8.out.box))) ?_
      intro p6 c6 w6 o6 g6
      have HP9 := hide (HP8.out.later ((Below.refl _ R).drew))
      have HF := hide (HP9.out.app (y := (⟨1, false, 3, 0, d1⟩ : LT)) o6 g6)
      have ho6 : Only (fun i => (Value.slice sp bag.length cap).ownBlock = some i) R.drew w6 := Only.of_grown g6 (fun k e => e)
      have hb6 := ho6.obj HP9.out.box (fun e => bag_box HP9.out.bag HP9.out.box (by decide) _ e rfl)
      clear o6 g6 ho6 hHeld
      have w18 := cellB (i := 18) (v := .slice sp bag.length cap) hb6 rfl
      have y18 := frB (i := 18) hb6
      refine hK.out _ _ (cellB (i := 7) (v := .int .i64 d1) hb6 rfl) (fun hHeld => ?_)
      clear hK
      refine wpAnyH_take (i := 17) (oi := _) (v := ?_) rfl (by kernel_rfl) (by kernel_rfl) (by kernel_rfl) (fun _ _ _ h => h) (Or.inl ⟨by kernel_rfl, ?_⟩) (by assumption) ?_
      rotate_left
      · intro w hSw
        (try dsimp only at hSw)
        go_simp
        all_goals with_reducible rfl
      simp only [Act.put]
      refine wpAnyH_take (i := 18) (oi := _) (v := ?_) rfl (by kernel_rfl) (by kernel_rfl) (by kernel_rfl) (fun _ _ _ h => h) (Or.inl ⟨by kernel_rfl, ?_⟩) (by assumption) ?_
      rotate_left
      · intro w hSw
        (try dsimp only at hSw)
        go_simp
        all_goals with_reducible rfl
      simp only [Act.put]
      refine wpAnyH_ready (rs := [19]) (by kernel_rfl) (by simp) ?_
      refine AllReadyH.cons (o := _) rfl (fun K hK => ?_) AllReadyH.nil
      go_simp
      refine hK.out _ _ (cellB (i := 7) (v := .int .i64 d1) (heap_set_sameL hb6 18 _) rfl) (fun hHeld => ?_)
      clear hK
      refine wpAnyH_done (by kernel_rfl) ?_ _
      go_wp2_with fail
      go_meet
      case rel => exact ⟨p6, c6, HF.out⟩
  case rest =>
  rename World => X
  obtain ⟨p6, c6, hPX⟩ := hcut
  have HPX := hide hPX
  clear hPX
  have u6 := cellB (i := 6) (v := .int .i64 d0) HPX.out.box rfl
  have u7 := cellB (i := 7) (v := .int .i64 d1) HPX.out.box rfl
  have u8 := cellB (i := 8) (v := .int .i64 d2) HPX.out.box rfl
  have u9 := cellB (i := 9) (v := .int .i64 d3) HPX.out.box rfl
  have u10 := cellB (i := 10) (v := .int .i64 d4) HPX.out.box rfl
  have u11 := cellB (i := 11) (v := .int .i64 d5) HPX.out.box rfl
  have z6 := frB (i := 6) HPX.out.box
  have z7 := frB (i := 7) HPX.out.box
  have z8 := frB (i := 8) HPX.out.box
  have z9 := frB (i := 9) HPX.out.box
  have z10 := frB (i := 10) HPX.out.box
  have z11 := frB (i := 11) HPX.out.box
  have B0 : Below X.heap.size X X.drew := (Below.refl _ X).drew
  have HP1 := hide (HPX.out.later B0)
  go_upto_region 22 with fail
  refine wp_region_held_drew (S := fun _ => True) (by kernel_rfl) trivial (fun hHeld => ?_)
  refine wpAnyH_take (i := 0) (oi := _) (v := ?_) rfl (by kernel_rfl) (by kernel_rfl) (by kernel_rfl) (fun _ _ _ h => h) (Or.inl ⟨by kernel_rfl, ?_⟩) (by assumption) ?_
  rotate_left
  · intro w hSw
    (try dsimp only at hSw)
    go_simp
    all_goals with_reducible rfl
  simp only [Act.put]
  refine wpAnyH_take (i := 1) (oi := _) (v := ?_) rfl (by kernel_rfl) (by kernel_rfl) (by kernel_rfl) (fun _ _ _ h => h) (Or.inl ⟨by kernel_rfl, ?_⟩) (by assumption) ?_
  rotate_left
  · intro w hSw
    (try dsimp only at hSw)
    go_simp
    all_goals with_reducible rfl
  simp only [Act.put]
  refine wpAnyH_take (i := 2) (oi := _) (v := ?_) rfl (by kernel_rfl) (by kernel_rfl) (by kernel_rfl) (fun _ _ _ h => h) (Or.inl ⟨by kernel_rfl, ?_⟩) (by assumption) ?_
  rotate_left
  · intro w hSw
    (try dsimp only at hSw)
    go_simp
    all_goals with_reducible rfl
  simp only [Act.put]
  refine wpAnyH_take (i := 3) (oi := _) (v := ?_) rfl (by kernel_rfl) (by kernel_rfl) (by kernel_rfl) (fun _ _ _ h => h) (Or.inl ⟨by kernel_rfl, ?_⟩) (by assumption) ?_
  rotate_left
  · intro w hSw
    (try dsimp only at hSw)
    go_simp
    all_goals with_reducible rfl
  simp only [Act.put]
  refine wpAnyH_take (i := 4) (oi := _) (v := ?_) rfl (by kernel_rfl) (by kernel_rfl) (by kernel_rfl) (fun _ _ _ h => h) (Or.inl ⟨by kernel_rfl, ?_⟩) (by assumption) ?_
  rotate_left
  · intro w hSw
    (try dsimp only at hSw)
    go_simp
    all_goals with_reducible rfl
  simp only [Act.put]
  refine wpAnyH_take (i := 5) (oi := _) (v := ?_) rfl (by kernel_rfl) (by kernel_rfl) (by kernel_rfl) (fun _ _ _ h => h) (Or.inl ⟨by kernel_rfl, ?_⟩) (by assumption) ?_
  rotate_left
  · intro w hSw
    (try dsimp only at hSw)
    go_simp
    all_goals with_reducible rfl
  simp only [Act.put]
  refine wpAnyH_take (i := 6) (oi := _) (v := ?_) rfl (by kernel_rfl) (by kernel_rfl) (by kernel_rfl) (fun _ _ _ h => h) (Or.inl ⟨by kernel_rfl, ?_⟩) (by assumption) ?_
  rotate_left
  · intro w hSw
    (try dsimp only at hSw)
    go_simp
    all_goals with_reducible rfl
  simp only [Act.put]
  refine wpAnyH_take (i := 9) (oi := _) (v := ?_) rfl (by kernel_rfl) (by kernel_rfl) (by kernel_rfl) (fun _ _ _ h => h) (Or.inl ⟨by kernel_rfl, ?_⟩) (by assumption) ?_
  rotate_left
  · intro w hSw
    (try dsimp only at hSw)
    go_simp
    all_goals with_reducible rfl
  simp only [Act.put]
  refine wpAnyH_take (i := 10) (oi := _) (v := ?_) rfl (by kernel_rfl) (by kernel_rfl) (by kernel_rfl) (fun _ _ _ h => h) (Or.inl ⟨by kernel_rfl, ?_⟩) (by assumption) ?_
  rotate_left
  · intro w hSw
    (try dsimp only at hSw)
    go_simp
    all_goals with_reducible rfl
  simp only [Act.put]
  refine wpAnyH_ready (rs := [7]) (by kernel_rfl) (by simp) ?_
  refine AllReadyH.cons (o := _) rfl (fun K hK => ?_) AllReadyH.nil
  go_simp
  refine hK.out _ _ trivial (fun hHeld => ?_)
  clear hK
  refine wpAnyH_ready (rs := [8]) (by kernel_rfl) (by simp) ?_
  refine AllReadyH.cons (o := _) rfl (fun K hK => ?_) AllReadyH.nil
  go_simp
  refine yie_any.mono ?_
  rw [HR.out]
  simp only [GE.val, GE.row]
  rintro _ y1 ⟨rfl, b1⟩
  have HP2 := hide (HP1.out.later b1)
  clear b1 hHeld u6 z6 u7 z7 u8 z8 u9 z9 u10 z10 u11 z11
  have u6 := cellB (i := 6) (v := .int .i64 d0) HP2.out.box rfl
  have u7 := cellB (i := 7) (v := .int .i64 d1) HP2.out.box rfl
  have u8 := cellB (i := 8) (v := .int .i64 d2) HP2.out.box rfl
  have u9 := cellB (i := 9) (v := .int .i64 d3) HP2.out.box rfl
  have u10 := cellB (i := 10) (v := .int .i64 d4) HP2.out.box rfl
  have u11 := cellB (i := 11) (v := .int .i64 d5) HP2.out.box rfl
  have z6 := frB (i := 6) HP2.out.box
  have z7 := frB (i := 7) HP2.out.box
  have z8 := frB (i := 8) HP2.out.box
  have z9 := frB (i := 9) HP2.out.box
  have z10 := frB (i := 10) HP2.out.box
  have z11 := frB (i := 11) HP2.out.box
  go_wp2_with fail
  refine hK.out _ _ trivial (fun hHeld => ?_)
  clear hK
  refine wpAnyH_take (i := 11) (oi := _) (v := ?_) rfl (by kernel_rfl) (by kernel_rfl) (by kernel_rfl) (fun _ _ _ h => h) (Or.inl ⟨by kernel_rfl, ?_⟩) (by assumption) ?_
  rotate_left
  · intro w hSw
    (try dsimp only at hSw)
    go_simp
    all_goals with_reducible rfl
  simp only [Act.put]
  refine wpAnyH_ready (rs := [12]) (by kernel_rfl) (by simp) ?_
  refine AllReadyH.cons (o := _) rfl (fun K hK => ?_) AllReadyH.nil
  go_simp
  refine hK.out _ _ trivial (fun hHeld => ?_)
  clear hK
  refine wpAnyH_done (by kernel_rfl) ?_ _
  go_wp2
  refine bodyPost_end (results_none rfl _ _ _) rfl ?_
  exact ⟨rfl, p6, c6, HP2.out.put (q := ⟨⟨⟨c0, c1, c2, c3, c4, c5⟩, a0, b0, h0, f0⟩, ⟨⟨g0, g1, g2, g3, g4, g5⟩, a1, b1, h1, f1⟩, ⟨l0, l1, l2, l3, l4, so⟩, (bag ++ [(⟨1, false, 3, 0, d1⟩ : LT)]), ck⟩) (((((((Only.refl (· = pB) y1).trans (Only.set _ pB 6 (.int .i64 g0) rfl)).trans (Only.set _ pB 7 (.int .i64 g1) rfl)).trans (Only.set _ pB 8 (.int .i64 g2) rfl)).trans (Only.set _ pB 9 (.int .i64 g3) rfl)).trans (Only.set _ pB 10 (.int .i64 g4) rfl)).trans (Only.set _ pB 11 (.int .i64 g5) rfl)) (heap_set_sameL (heap_set_sameL (heap_set_sameL (heap_set_sameL (heap_set_sameL (heap_set_sameL HP2.out.box 6 (.int .i64 g0)) 7 (.int .i64 g1)) 8 (.int .i64 g2)) 9 (.int .i64 g3)) 10 (.int .i64 g4)) 11 (.int .i64 g5)) rfl rfl rfl⟩
end Go.Proofs.Ytegffdmlkbdcdaa
