/-
  A move, more of them (Gnj). The conditions: that the play lies there, and that its numbers are not near the greatest.
-/
import Derived.Test.YtegffdmlkbdcdaaGng
namespace Go.Proofs.Ytegffdmlkbdcdaa
open Go.ChangeShapes Go.WideShapes Go.ChangeAt Go.RowKit

set_option maxRecDepth 100000 in
set_option maxHeartbeats 8000000 in
theorem mov_ask0k {W : World} {B pB mA mB n cap : Nat} {sp : Option Addr} {W0 : World} {c0 c1 c2 c3 c4 c5 d0 d1 d2 d3 d4 d5 a0 b0 a1 b1 l0 l1 l2 l3 l4 ck : Int} {h0 h1 so : Bool} {f0 f1 : Int → Int × Int} {bag : List LT} {mr mn mw ak2 ak3 g0 g1 g2 g3 g4 g5 : Int} {mt : Bool} (hP : PRep B W0 pB mA mB n ⟨⟨⟨c0, c1, c2, c3, c4, c5⟩, a0, b0, h0, f0⟩, ⟨⟨d0, d1, d2, d3, d4, d5⟩, a1, b1, h1, f1⟩, ⟨l0, l1, l2, l3, l4, so⟩, bag, ck⟩ sp cap W) (hr : bits .and .i64 mr 1 = 0) (hbig : bag.length ≤ 1000) (hnn : n ≤ 1000) (hg : askG ⟨c0, c1, c2, c3, c4, c5⟩ = (⟨g0, g1, g2, g3, g4, g5⟩, ak2, ak3, 0)) :
    Calls Try.prog 18 #[.pointer (some ⟨pB, 0, none⟩), .agg #[.int .i64 2, .int .i64 mr, .int .i64 mn, .int .i64 mw, .bool mt]] W fun e w' => e = .returned (.tuple #[]) ∧ ∃ sp' cap', PRep B W0 pB mA mB (n + 1) (askP ⟨⟨⟨c0, c1, c2, c3, c4, c5⟩, a0, b0, h0, f0⟩, ⟨⟨d0, d1, d2, d3, d4, d5⟩, a1, b1, h1, f1⟩, ⟨l0, l1, l2, l3, l4, so⟩, bag, ck⟩ 0) sp' cap' w' := by
  have HR := hide hg
  have HQ : Hid (askP ⟨⟨⟨c0, c1, c2, c3, c4, c5⟩, a0, b0, h0, f0⟩, ⟨⟨d0, d1, d2, d3, d4, d5⟩, a1, b1, h1, f1⟩, ⟨l0, l1, l2, l3, l4, so⟩, bag, ck⟩ 0 = ⟨⟨⟨g0, g1, g2, g3, g4, g5⟩, a0, b0, h0, (updF f0 ak2 (ck, g0))⟩, ⟨⟨d0, d1, d2, d3, d4, d5⟩, a1, b1, h1, f1⟩, ⟨l0, l1, l2, l3, l4, so⟩, (bag ++ [(⟨0, false, ak3, ak2, g1⟩ : LT)]), ck⟩) := hide (by
    have e : askG (PL.at ⟨⟨⟨c0, c1, c2, c3, c4, c5⟩, a0, b0, h0, f0⟩, ⟨⟨d0, d1, d2, d3, d4, d5⟩, a1, b1, h1, f1⟩, ⟨l0, l1, l2, l3, l4, so⟩, bag, ck⟩ 0).g = (⟨g0, g1, g2, g3, g4, g5⟩, ak2, ak3, 0) := hg
    unfold askP
    rw [e]
    exact if_pos rfl)
  rw [HQ.out]
  have hnum := ask_num hg
  have HNUM := hide hnum
  clear hnum
  have HBIG := hide hbig
  have HNN := hide hnn
  clear hg hbig hnn
  obtain ⟨V, hV⟩ : ∃ V, V = W.alloc (.cells #[.int .i64 2, .int .i64 mr, .int .i64 mn, .int .i64 mw, .bool mt] 52 (0, 0)) := ⟨_, rfl⟩
  have bV : Below W.heap.size W V := by rw [hV]; exact alloc_below _ _
  have hx : V.heap[W.heap.size]? = some (.cells #[.int .i64 2, .int .i64 mr, .int .i64 mn, .int .i64 mw, .bool mt] 52 (0, 0)) := by rw [hV]; exact heap_alloc_new W _
  obtain ⟨xB, hxB⟩ : ∃ xB, W.heap.size = xB := ⟨_, rfl⟩
  have HLT : Hid (pB < xB) := hide (by rw [← hxB]; exact box_lt hP.box)
  rw [hxB] at hx
  have HX0 := hide hx
  have HP0 := hide (hP.later bV)
  clear hx bV hP
  go_enter Try.func18, Try.ntmps18
  go_upto_region 1 with fail
  rw [← hV]
  try rw [hxB]
  clear hV hxB
  obtain ⟨_, _, _, _, _, x0, x1, x2, x3, x4⟩ := five HX0.out
  have u0 := cellB (i := 0) (v := .int .i64 c0) HP0.out.box rfl
  have u1 := cellB (i := 1) (v := .int .i64 c1) HP0.out.box rfl
  have u2 := cellB (i := 2) (v := .int .i64 c2) HP0.out.box rfl
  have u3 := cellB (i := 3) (v := .int .i64 c3) HP0.out.box rfl
  have u4 := cellB (i := 4) (v := .int .i64 c4) HP0.out.box rfl
  have u5 := cellB (i := 5) (v := .int .i64 c5) HP0.out.box rfl
  go_wp2_with fail
  refine ask_any.mono ?_
  rw [HR.out]
  simp only [GE.val, GE.row]
  rintro _ y1 ⟨rfl, b1⟩
  have HP1 := hide (HP0.out.later b1)
  clear b1 HP0 u0 u1 u2 u3 u4 u5 x0 x1 x2 x3 x4
  go_upto_region 11 with fail
  obtain ⟨X, hX⟩ : ∃ X, X = y1.alloc (.cells #[.int .i64 g0, .int .i64 g1, .int .i64 g2, .int .i64 g3, .int .i64 g4, .int .i64 g5] 23 (0, 0)) := ⟨_, rfl⟩
  have bX : Below y1.heap.size y1 X := by rw [hX]; exact alloc_below _ _
  obtain ⟨vB, hvB⟩ : ∃ vB, y1.heap.size = vB := ⟨_, rfl⟩
  have HV1 : Hid (X.heap[vB]? = some (.cells #[.int .i64 g0, .int .i64 g1, .int .i64 g2, .int .i64 g3, .int .i64 g4, .int .i64 g5] 23 (0, 0))) := hide (by rw [hX, ← hvB]; exact heap_alloc_new y1 _)
  have HLV : Hid (pB < vB) := hide (by rw [← hvB]; exact box_lt HP1.out.box)
  have HP2 := hide (HP1.out.later bX)
  rw [← hX]
  try rw [hvB]
  clear hX bX hvB HP1
  obtain ⟨_, _, _, _, _, _, v0, v1, v2, v3, v4, v5⟩ := six HV1.out
  have hne1 : pB ≠ vB := by have := HLV.out; omega
  have hne2 : vB ≠ pB := hne1.symm
  have u19 := cellB (i := 19) (v := .int .i64 ck) HP2.out.box rfl
  have u20 := cellB (i := 20) (v := .map (some mA)) HP2.out.box rfl
  obtain ⟨X2, hup, hM2, oM⟩ := (HP2.out.ma.later ((Below.refl _ X).drew)).put (a := ck) (b := g0) HNUM.out.1 HNUM.out.2 (by have := HNN.out; unfold maxLen; omega)
  have oM2 : Only (· = mA) X X2 := ⟨oM.os, oM.tape, oM.output, oM.size, oM.block⟩
  have HP3 : Hid (PRep B W0 pB mA mB (n + 1) ⟨⟨⟨c0, c1, c2, c3, c4, c5⟩, a0, b0, h0, (updF f0 ak2 (ck, g0))⟩, ⟨⟨d0, d1, d2, d3, d4, d5⟩, a1, b1, h1, f1⟩, ⟨l0, l1, l2, l3, l4, so⟩, bag, ck⟩ sp cap X2) := hide (HP2.out.map0 oM2 hM2)
  have HV2 := hide (oM2.obj HV1.out (fun e => by have e' : vB = mA := e; exact map_box HP2.out.ma HV1.out e'.symm))
  go_upto_region 12 with fail
  go_cut [] from 71 to 84 (fun wd => PRep B W0 pB mA mB (n + 1) ⟨⟨⟨c0, c1, c2, c3, c4, c5⟩, a0, b0, h0, (updF f0 ak2 (ck, g0))⟩, ⟨⟨d0, d1, d2, d3, d4, d5⟩, a1, b1, h1, f1⟩, ⟨l0, l1, l2, l3, l4, so⟩, bag, ck⟩ sp cap wd ∧ wd.heap[vB]? = some (.cells #[.int .i64 g0, .int .i64 g1, .int .i64 g2, .int .i64 g3, .int .i64 g4, .int .i64 g5] 23 (0, 0)))
  case first =>
    refine wp_region_held_drew (S := fun w' => w'.cell? ⟨pB, 19, none⟩ = some (.int .i64 ck) ∧ w'.cell? ⟨pB, 20, none⟩ = some (.map (some mA)) ∧ w'.cell? ⟨vB, 0, none⟩ = some (.int .i64 g0)) (by kernel_rfl) ⟨u19, u20, v0⟩ (fun hHeld => ?_)
    refine wpAnyH_take (i := 0) (oi := _) (v := ?_) rfl (by kernel_rfl) (by kernel_rfl) (by kernel_rfl) (fun _ _ _ h => h) (Or.inl ⟨by kernel_rfl, ?_⟩) (by assumption) ?_
    rotate_left
    · intro w hSw
      (try dsimp only at hSw)
      go_simp
      all_goals with_reducible rfl
    simp only [Act.put]
    refine wpAnyH_take (i := 1) (oi := _) (v := ?_) rfl (by kernel_rfl) (by kernel_rfl) (by kernel_rfl) (fun _ _ _ h => h) (Or.inl ⟨by kernel_rfl, ?_⟩) (by assumption) ?_
    rotate_left
    · intro w hSw
      (try dsimp only at hSw)
      go_simp
      all_goals with_reducible rfl
    simp only [Act.put]
    refine wpAnyH_take (i := 2) (oi := _) (v := ?_) rfl (by kernel_rfl) (by kernel_rfl) (by kernel_rfl) (fun _ _ _ h => h) (Or.inl ⟨by kernel_rfl, ?_⟩) (by assumption) ?_
    rotate_left
    · intro w hSw
      (try dsimp only at hSw)
      go_simp
      all_goals with_reducible rfl
    simp only [Act.put]
    refine wpAnyH_take (i := 3) (oi := _) (v := ?_) rfl (by kernel_rfl) (by kernel_rfl) (by kernel_rfl) (fun _ _ _ h => h) (Or.inl ⟨by kernel_rfl, ?_⟩) (by assumption) ?_
    rotate_left
    · intro w hSw
      (try dsimp only at hSw)
      go_simp
      all_goals with_reducible rfl
    simp only [Act.put]
    refine wpAnyH_take (i := 4) (oi := _) (v := ?_) rfl (by kernel_rfl) (by kernel_rfl) (by kernel_rfl) (fun _ _ _ h => h) (Or.inl ⟨by kernel_rfl, ?_⟩) (by assumption) ?_
    rotate_left
    · intro w hSw
      (try dsimp only at hSw)
      go_simp
      all_goals with_reducible rfl
    simp only [Act.put]
    refine wpAnyH_take (i := 5) (oi := _) (v := ?_) rfl (by kernel_rfl) (by kernel_rfl) (by kernel_rfl) (fun _ _ _ h => h) (Or.inl ⟨by kernel_rfl, ?_⟩) (by assumption) ?_
    rotate_left
    · intro w hSw
      (try dsimp only at hSw)
      go_simp
      all_goals with_reducible rfl
    simp only [Act.put]
    refine wpAnyH_take (i := 6) (oi := _) (v := ?_) rfl (by kernel_rfl) (by kernel_rfl) (by kernel_rfl) (fun _ _ _ h => h) (Or.inl ⟨by kernel_rfl, ?_⟩) (by assumption) ?_
    rotate_left
    · intro w hSw
      (try dsimp only at hSw)
      go_simp
      all_goals with_reducible rfl
    simp only [Act.put]
    refine wpAnyH_take (i := 7) (oi := _) (v := ?_) rfl (by kernel_rfl) (by kernel_rfl) (by kernel_rfl) (fun _ _ _ h => h) (Or.inl ⟨by kernel_rfl, ?_⟩) (by assumption) ?_
    rotate_left
    · intro w hSw
      (try dsimp only at hSw)
      go_simp
      all_goals with_reducible rfl
    simp only [Act.put]
    refine wpAnyH_take (i := 8) (oi := _) (v := ?_) rfl (by kernel_rfl) (by kernel_rfl) (by kernel_rfl) (fun _ _ _ h => h) (Or.inl ⟨by kernel_rfl, ?_⟩) (by assumption) ?_
    rotate_left
    · intro w hSw
      (try dsimp only at hSw)
      go_simp
      all_goals with_reducible rfl
    simp only [Act.put]
    refine wpAnyH_take (i := 9) (oi := _) (v := ?_) rfl (by kernel_rfl) (by kernel_rfl) (by kernel_rfl) (fun _ _ _ h => h) (Or.inl ⟨by kernel_rfl, ?_⟩) (by assumption) ?_
    rotate_left
    · intro w hSw
      (try dsimp only at hSw)
      go_simp
      all_goals with_reducible rfl
    simp only [Act.put]
    refine wpAnyH_take (i := 10) (oi := _) (v := ?_) rfl (by kernel_rfl) (by kernel_rfl) (by kernel_rfl) (fun _ _ _ h => h) (Or.inl ⟨by kernel_rfl, ?_⟩) (by assumption) ?_
    rotate_left
    · intro w hSw
      (try dsimp only at hSw)
      go_simp
      all_goals with_reducible rfl
    simp only [Act.put]
    refine wpAnyH_take (i := 11) (oi := _) (v := ?_) rfl (by kernel_rfl) (by kernel_rfl) (by kernel_rfl) (fun _ _ _ h => h) (Or.inl ⟨by kernel_rfl, ?_⟩) (by assumption) ?_
    rotate_left
    · intro w hSw
      (try dsimp only at hSw)
      go_simp
      all_goals with_reducible rfl
    simp only [Act.put]
    refine wpAnyH_take (i := 12) (oi := _) (v := ?_) rfl (by kernel_rfl) (by kernel_rfl) (by kernel_rfl) (fun _ _ _ h => h) (Or.inl ⟨by kernel_rfl, ?_⟩) (by assumption) ?_
    rotate_left
    · intro w hSw
      (try dsimp only at hSw)
      go_simp
      all_goals with_reducible rfl
    simp only [Act.put]
    refine wpAnyH_take (i := 13) (oi := _) (v := ?_) rfl (by kernel_rfl) (by kernel_rfl) (by kernel_rfl) (fun _ _ _ h => h) (Or.inl ⟨by kernel_rfl, ?_⟩) (by assumption) ?_
    rotate_left
    · intro w hSw
      (try dsimp only at hSw)
      go_simp
      all_goals with_reducible rfl
    simp only [Act.put]
    refine wpAnyH_ready (rs := [14]) (by kernel_rfl) (by simp) ?_
    refine AllReadyH.cons (o := _) rfl (fun K hK => ?_) AllReadyH.nil
    go_simp
    refine hK.out _ _ ⟨cellB (i := 19) (v := .int .i64 ck) HP3.out.box rfl, cellB (i := 20) (v := .map (some mA)) HP3.out.box rfl, cellB (i := 0) (v := .int .i64 g0) HV2.out rfl⟩ (fun hHeld => ?_)
    clear hK
    refine wpAnyH_done (by kernel_rfl) ?_ _
    go_wp2_with fail
    go_meet
    case rel => exact ⟨HP3.out, HV2.out⟩
  case rest =>
  rename World => Q
  obtain ⟨hPQ, hVQ⟩ := hcut
  have HPQ := hide hPQ
  have HVQ := hide hVQ
  clear hPQ hVQ HP2 HP3 HV1 HV2 oM oM2 hM2 hup u19 u20 v0 v1 v2 v3 v4 v5
  go_upto_region 13 with fail
  obtain ⟨j0, hj0, hj1, hj2, hj3⟩ := info_partsL Try.infoLT
  go_cut [] from 85 to 99 (fun wd => ∃ p6 c6, PRep B W0 pB mA mB (n + 1) (⟨⟨⟨c0, c1, c2, c3, c4, c5⟩, a0, b0, h0, (updF f0 ak2 (ck, g0))⟩, ⟨⟨d0, d1, d2, d3, d4, d5⟩, a1, b1, h1, f1⟩, ⟨l0, l1, l2, l3, l4, so⟩, (bag ++ [(⟨0, false, ak3, ak2, g1⟩ : LT)]), ck⟩) p6 c6 wd ∧ wd.heap[vB]? = some (.cells #[.int .i64 g0, .int .i64 g1, .int .i64 g2, .int .i64 g3, .int .i64 g4, .int .i64 g5] 23 (0, 0)))
  case first =>
    have u18 := cellB (i := 18) (v := .slice sp bag.length cap) HPQ.out.box rfl
    have u1 := cellB (i := 1) (v := .int .i64 g1) HVQ.out rfl
    refine wp_region_held_drew (S := fun w' => w'.cell? ⟨vB, 1, none⟩ = some (.int .i64 g1)) (by kernel_rfl) u1 (fun hHeld => ?_)
    refine wpAnyH_take (i := 0) (oi := _) (v := ?_) rfl (by kernel_rfl) (by kernel_rfl) (by kernel_rfl) (fun _ _ _ h => h) (Or.inl ⟨by kernel_rfl, ?_⟩) (by assumption) ?_
    rotate_left
    · intro w hSw
      (try dsimp only at hSw)
      go_simp
      all_goals with_reducible rfl
    simp only [Act.put]
    refine wpAnyH_take (i := 1) (oi := _) (v := ?_) rfl (by kernel_rfl) (by kernel_rfl) (by kernel_rfl) (fun _ _ _ h => h) (Or.inl ⟨by kernel_rfl, ?_⟩) (by assumption) ?_
    rotate_left
    · intro w hSw
      (try dsimp only at hSw)
      go_simp
      all_goals with_reducible rfl
    simp only [Act.put]
    refine wpAnyH_take (i := 2) (oi := _) (v := ?_) rfl (by kernel_rfl) (by kernel_rfl) (by kernel_rfl) (fun _ _ _ h => h) (Or.inl ⟨by kernel_rfl, ?_⟩) (by assumption) ?_
    rotate_left
    · intro w hSw
      (try dsimp only at hSw)
      go_simp
      all_goals with_reducible rfl
    simp only [Act.put]
    refine wpAnyH_take (i := 3) (oi := _) (v := ?_) rfl (by kernel_rfl) (by kernel_rfl) (by kernel_rfl) (fun _ _ _ h => h) (Or.inl ⟨by kernel_rfl, ?_⟩) (by assumption) ?_
    rotate_left
    · intro w hSw
      (try dsimp only at hSw)
      go_simp
      all_goals with_reducible rfl
    simp only [Act.put]
    refine wpAnyH_take (i := 5) (oi := _) (v := ?_) rfl (by kernel_rfl) (by kernel_rfl) (by kernel_rfl) (fun _ _ _ h => h) (Or.inl ⟨by kernel_rfl, ?_⟩) (by assumption) ?_
    rotate_left
    · intro w hSw
      (try dsimp only at hSw)
      go_simp
      all_goals with_reducible rfl
    simp only [Act.put]
    refine wpAnyH_take (i := 6) (oi := _) (v := ?_) rfl (by kernel_rfl) (by kernel_rfl) (by kernel_rfl) (fun _ _ _ h => h) (Or.inl ⟨by kernel_rfl, ?_⟩) (by assumption) ?_
    rotate_left
    · intro w hSw
      (try dsimp only at hSw)
      go_simp
      all_goals with_reducible rfl
    simp only [Act.put]
    refine wpAnyH_take (i := 7) (oi := _) (v := ?_) rfl (by kernel_rfl) (by kernel_rfl) (by kernel_rfl) (fun _ _ _ h => h) (Or.inl ⟨by kernel_rfl, ?_⟩) (by assumption) ?_
    rotate_left
    · intro w hSw
      (try dsimp only at hSw)
      go_simp
      all_goals with_reducible rfl
    simp only [Act.put]
    refine wpAnyH_take (i := 8) (oi := _) (v := ?_) rfl (by kernel_rfl) (by kernel_rfl) (by kernel_rfl) (fun _ _ _ h => h) (Or.inl ⟨by kernel_rfl, ?_⟩) (by assumption) ?_
    rotate_left
    · intro w hSw
      (try dsimp only at hSw)
      go_simp
      all_goals with_reducible rfl
    simp only [Act.put]
    refine wpAnyH_take (i := 9) (oi := _) (v := ?_) rfl (by kernel_rfl) (by kernel_rfl) (by kernel_rfl) (fun _ _ _ h => h) (Or.inl ⟨by kernel_rfl, ?_⟩) (by assumption) ?_
    rotate_left
    · intro w hSw
      (try dsimp only at hSw)
      go_simp
      all_goals with_reducible rfl
    simp only [Act.put]
    refine wpAnyH_take (i := 10) (oi := _) (v := ?_) rfl (by kernel_rfl) (by kernel_rfl) (by kernel_rfl) (fun _ _ _ h => h) (Or.inl ⟨by kernel_rfl, ?_⟩) (by assumption) ?_
    rotate_left
    · intro w hSw
      (try dsimp only at hSw)
      go_simp
      all_goals with_reducible rfl
    simp only [Act.put]
    refine wpAnyH_ready (rs := [4, 11]) (by kernel_rfl) (by simp) ?_
    refine AllReadyH.cons (o := _) rfl (fun K hK => ?_) (AllReadyH.cons (o := _) rfl (fun K hK => ?_) AllReadyH.nil)
    · go_simp
      refine hK.out _ _ hHeld (fun hHeld => ?_)
      clear hK
      refine wpAnyH_ready (rs := [11]) (by kernel_rfl) (by simp) ?_
      refine AllReadyH.cons (o := _) rfl (fun K hK => ?_) AllReadyH.nil
      go_simp
      refine hK.out _ _ (cellB (i := 1) (v := .int .i64 g1) (below_box (alloc_below _ _) HVQ.out) rfl) (fun hHeld => ?_)
      clear hK
      obtain ⟨R, hR⟩ : ∃ R, R = Q.alloc (.cells #[.int .i64 0, .bool false, .int .i64 ak3, .int .i64 ak2, .int .i64 g1] 64 (0, 0)) := ⟨_, rfl⟩
      have bR : Below Q.heap.size Q R := by rw [hR]; exact alloc_below _ _
      obtain ⟨nB, hnB⟩ : ∃ nB, Q.heap.size = nB := ⟨_, rfl⟩
      have HSG : Hid (Seg R 5 (.slice (some ⟨nB, 0, none⟩) 1 1) 1 [.int .i64 0, .bool false, .int .i64 ak3, .int .i64 ak2, .int .i64 g1]) := hide (by rw [hR, ← hnB]; exact Seg.news (heap_alloc_new Q _) (by simp [Value.oneCell']) rfl (Nat.le_refl _) (by decide))
      have HP8 := hide (HPQ.out.later bR)
      have bRq : Below Q.heap.size Q R.drew := bR.trans ((Below.refl _ R).drew.mono bR.size)
      rw [← hR] at hHeld
      rw [← hR]
      try rw [hnB]
      clear hR hnB bR
      refine wpAnyH_ready (rs := [12]) (by kernel_rfl) (by simp) ?_
      refine AllReadyH.cons (o := _) rfl (fun K hK => ?_) AllReadyH.nil
      refine step_append_cells rfl (.tmp 89) (.tmp 96) 42 rfl B 64 j0 (.agg #[.int .i64 0, .bool false, .int .i64 0, .int .i64 0, .int .i64 0]) 5 40 Try.underlying42 hj0 hj1 hj2 hj3 rfl (by decide) (.slice sp bag.length cap) bag.length _ rfl HP8.out.bag.drew (.slice (some ⟨nB, 0, none⟩) 1 1) 1 _ rfl HSG.out (by have := HBIG.out; unfold maxLen; omega) (by have := HBIG.out; omega) (Nat.le_trans HP8.out.ne.2.1 (Nat.le_of_lt (box_lt HP8.out.box))) ?_
      intro p6 c6 w6 o6 g6
      have HP9 := hide (HP8.out.later ((Below.refl _ R).drew))
      have HF := hide (HP9.out.app (y := (⟨0, false, ak3, ak2, g1⟩ : LT)) o6 g6)
      have ho6 : Only (fun i => (Value.slice sp bag.length cap).ownBlock = some i) R.drew w6 := Only.of_grown g6 (fun k e => e)
      have hb6 := ho6.obj HP9.out.box (fun e => bag_box HP9.out.bag HP9.out.box (by decide) _ e rfl)
      have hv6 := ho6.obj (below_box bRq HVQ.out) (fun e => bag_box HP9.out.bag (below_box bRq HVQ.out) (by decide) _ e rfl)
      have hv7 := (Only.set (F := (· = pB)) w6 pB 18 (.slice p6 (bag.length + 1) c6) rfl).obj hv6 (fun e => by have e' : vB = pB := e; omega)
      clear o6 g6 ho6 hHeld
      have w18 := cellB (i := 18) (v := .slice sp bag.length cap) hb6 rfl
      have y18 := frB (i := 18) hb6
      refine hK.out _ _ (cellB (i := 1) (v := .int .i64 g1) hv6 rfl) (fun hHeld => ?_)
      clear hK
      refine wpAnyH_take (i := 13) (oi := _) (v := ?_) rfl (by kernel_rfl) (by kernel_rfl) (by kernel_rfl) (fun _ _ _ h => h) (Or.inl ⟨by kernel_rfl, ?_⟩) (by assumption) ?_
      rotate_left
      · intro w hSw
        (try dsimp only at hSw)
        go_simp
        all_goals with_reducible rfl
      simp only [Act.put]
      refine wpAnyH_take (i := 14) (oi := _) (v := ?_) rfl (by kernel_rfl) (by kernel_rfl) (by kernel_rfl) (fun _ _ _ h => h) (Or.inl ⟨by kernel_rfl, ?_⟩) (by assumption) ?_
      rotate_left
      · intro w hSw
        (try dsimp only at hSw)
        go_simp
        all_goals with_reducible rfl
      simp only [Act.put]
      refine wpAnyH_ready (rs := [15]) (by kernel_rfl) (by simp) ?_
      refine AllReadyH.cons (o := _) rfl (fun K hK => ?_) AllReadyH.nil
      go_simp
      refine hK.out _ _ (cellB (i := 1) (v := .int .i64 g1) hv7 rfl) (fun hHeld => ?_)
      clear hK
      refine wpAnyH_done (by kernel_rfl) ?_ _
      go_wp2_with fail
      go_meet
      case rel => exact ⟨p6, c6, HF.out, hv7⟩
    · go_simp
      refine hK.out _ _ (cellB (i := 1) (v := .int .i64 g1) (below_box (alloc_below _ _) HVQ.out) rfl) (fun hHeld => ?_)
      clear hK
      obtain ⟨R, hR⟩ : ∃ R, R = Q.alloc (.cells #[.int .i64 0, .bool false, .int .i64 ak3, .int .i64 ak2, .int .i64 g1] 64 (0, 0)) := ⟨_, rfl⟩
      have bR : Below Q.heap.size Q R := by rw [hR]; exact alloc_below _ _
      obtain ⟨nB, hnB⟩ : ∃ nB, Q.heap.size = nB := ⟨_, rfl⟩
      have HSG : Hid (Seg R 5 (.slice (some ⟨nB, 0, none⟩) 1 1) 1 [.int .i64 0, .bool false, .int .i64 ak3, .int .i64 ak2, .int .i64 g1]) := hide (by rw [hR, ← hnB]; exact Seg.news (heap_alloc_new Q _) (by simp [Value.oneCell']) rfl (Nat.le_refl _) (by decide))
      have HP8 := hide (HPQ.out.later bR)
      have bRq : Below Q.heap.size Q R.drew := bR.trans ((Below.refl _ R).drew.mono bR.size)
      rw [← hR] at hHeld
      rw [← hR]
      try rw [hnB]
      clear hR hnB bR
      have v18 := cellB (i := 18) (v := .slice sp bag.length cap) HP8.out.box rfl
      refine wpAnyH_ready (rs := [4]) (by kernel_rfl) (by simp) ?_
      refine AllReadyH.cons (o := _) rfl (fun K hK => ?_) AllReadyH.nil
      go_simp
      refine hK.out _ _ hHeld (fun hHeld => ?_)
      clear hK
      refine wpAnyH_ready (rs := [12]) (by kernel_rfl) (by simp) ?_
      refine AllReadyH.cons (o := _) rfl (fun K hK => ?_) AllReadyH.nil
      refine step_append_cells rfl (.tmp 89) (.tmp 96) 42 rfl B 64 j0 (.agg #[.int .i64 0, .bool false, .int .i64 0, .int .i64 0, .int .i64 0]) 5 40 Try.underlying42 hj0 hj1 hj2 hj3 rfl (by decide) (.slice sp bag.length cap) bag.length _ rfl HP8.out.bag.drew (.slice (some ⟨nB, 0, none⟩) 1 1) 1 _ rfl HSG.out (by have := HBIG.out; unfold maxLen; omega) (by have := HBIG.out; omega) (Nat.le_trans HP8.out.ne.2.1 (Nat.le_of_lt (box_lt HP8.out.box))) ?_
      intro p6 c6 w6 o6 g6
      have HP9 := hide (HP8.out.later ((Below.refl _ R).drew))
      have HF := hide (HP9.out.app (y := (⟨0, false, ak3, ak2, g1⟩ : LT)) o6 g6)
      have ho6 : Only (fun i => (Value.slice sp bag.length cap).ownBlock = some i) R.drew w6 := Only.of_grown g6 (fun k e => e)
      have hb6 := ho6.obj HP9.out.box (fun e => bag_box HP9.out.bag HP9.out.box (by decide) _ e rfl)
      have hv6 := ho6.obj (below_box bRq HVQ.out) (fun e => bag_box HP9.out.bag (below_box bRq HVQ.out) (by decide) _ e rfl)
      have hv7 := (Only.set (F := (· = pB)) w6 pB 18 (.slice p6 (bag.length + 1) c6) rfl).obj hv6 (fun e => by have e' : vB = pB := e; omega)
      clear o6 g6 ho6 hHeld
      have w18 := cellB (i := 18) (v := .slice sp bag.length cap) hb6 rfl
      have y18 := frB (i := 18) hb6
      refine hK.out _ _ (cellB (i := 1) (v := .int .i64 g1) hv6 rfl) (fun hHeld => ?_)
      clear hK
      refine wpAnyH_take (i := 13) (oi := _) (v := ?_) rfl (by kernel_rfl) (by kernel_rfl) (by kernel_rfl) (fun _ _ _ h => h) (Or.inl ⟨by kernel_rfl, ?_⟩) (by assumption) ?_
      rotate_left
      · intro w hSw
        (try dsimp only at hSw)
        go_simp
        all_goals with_reducible rfl
      simp only [Act.put]
      refine wpAnyH_take (i := 14) (oi := _) (v := ?_) rfl (by kernel_rfl) (by kernel_rfl) (by kernel_rfl) (fun _ _ _ h => h) (Or.inl ⟨by kernel_rfl, ?_⟩) (by assumption) ?_
      rotate_left
      · intro w hSw
        (try dsimp only at hSw)
        go_simp
        all_goals with_reducible rfl
      simp only [Act.put]
      refine wpAnyH_ready (rs := [15]) (by kernel_rfl) (by simp) ?_
      refine AllReadyH.cons (o := _) rfl (fun K hK => ?_) AllReadyH.nil
      go_simp
      refine hK.out _ _ (cellB (i := 1) (v := .int .i64 g1) hv7 rfl) (fun hHeld => ?_)
      clear hK
      refine wpAnyH_done (by kernel_rfl) ?_ _
      go_wp2_with fail
      go_meet
      case rel => exact ⟨p6, c6, HF.out, hv7⟩
  case rest =>
  rename World => X
  obtain ⟨p6, c6, hPX, hVX⟩ := hcut
  have HPX := hide hPX
  have HVX := hide hVX
  clear hPX hVX
  have HP5 := HPX
  have HV5 := HVX
  clear HPX HVX
  obtain ⟨_, _, _, _, _, _, v0, v1, v2, v3, v4, v5⟩ := six HV5.out
  have u0 := cellB (i := 0) (v := .int .i64 c0) HP5.out.box rfl
  have u1 := cellB (i := 1) (v := .int .i64 c1) HP5.out.box rfl
  have u2 := cellB (i := 2) (v := .int .i64 c2) HP5.out.box rfl
  have u3 := cellB (i := 3) (v := .int .i64 c3) HP5.out.box rfl
  have u4 := cellB (i := 4) (v := .int .i64 c4) HP5.out.box rfl
  have u5 := cellB (i := 5) (v := .int .i64 c5) HP5.out.box rfl
  have z0 := frB (i := 0) HP5.out.box
  have z1 := frB (i := 1) HP5.out.box
  have z2 := frB (i := 2) HP5.out.box
  have z3 := frB (i := 3) HP5.out.box
  have z4 := frB (i := 4) HP5.out.box
  have z5 := frB (i := 5) HP5.out.box
  go_upto_region 14 with fail
  refine wp_region_held_drew (S := fun w' => w'.cell? ⟨vB, 0, none⟩ = some (.int .i64 g0) ∧ w'.cell? ⟨vB, 1, none⟩ = some (.int .i64 g1) ∧ w'.cell? ⟨vB, 2, none⟩ = some (.int .i64 g2) ∧ w'.cell? ⟨vB, 3, none⟩ = some (.int .i64 g3) ∧ w'.cell? ⟨vB, 4, none⟩ = some (.int .i64 g4) ∧ w'.cell? ⟨vB, 5, none⟩ = some (.int .i64 g5)) (by kernel_rfl) ⟨v0, v1, v2, v3, v4, v5⟩ (fun hHeld => ?_)
  refine wpAnyH_take (i := 0) (oi := _) (v := ?_) rfl (by kernel_rfl) (by kernel_rfl) (by kernel_rfl) (fun _ _ _ h => h) (Or.inl ⟨by kernel_rfl, ?_⟩) (by assumption) ?_
  rotate_left
  · intro w hSw
    (try dsimp only at hSw)
    go_simp
    all_goals with_reducible rfl
  simp only [Act.put]
  refine wpAnyH_take (i := 1) (oi := _) (v := ?_) rfl (by kernel_rfl) (by kernel_rfl) (by kernel_rfl) (fun _ _ _ h => h) (Or.inl ⟨by kernel_rfl, ?_⟩) (by assumption) ?_
  rotate_left
  · intro w hSw
    (try dsimp only at hSw)
    go_simp
    all_goals with_reducible rfl
  simp only [Act.put]
  refine wpAnyH_take (i := 2) (oi := _) (v := ?_) rfl (by kernel_rfl) (by kernel_rfl) (by kernel_rfl) (fun _ _ _ h => h) (Or.inl ⟨by kernel_rfl, ?_⟩) (by assumption) ?_
  rotate_left
  · intro w hSw
    (try dsimp only at hSw)
    go_simp
    all_goals with_reducible rfl
  simp only [Act.put]
  refine wpAnyH_take (i := 3) (oi := _) (v := ?_) rfl (by kernel_rfl) (by kernel_rfl) (by kernel_rfl) (fun _ _ _ h => h) (Or.inl ⟨by kernel_rfl, ?_⟩) (by assumption) ?_
  rotate_left
  · intro w hSw
    (try dsimp only at hSw)
    go_simp
    all_goals with_reducible rfl
  simp only [Act.put]
  refine wpAnyH_take (i := 4) (oi := _) (v := ?_) rfl (by kernel_rfl) (by kernel_rfl) (by kernel_rfl) (fun _ _ _ h => h) (Or.inl ⟨by kernel_rfl, ?_⟩) (by assumption) ?_
  rotate_left
  · intro w hSw
    (try dsimp only at hSw)
    go_simp
    all_goals with_reducible rfl
  simp only [Act.put]
  refine wpAnyH_take (i := 5) (oi := _) (v := ?_) rfl (by kernel_rfl) (by kernel_rfl) (by kernel_rfl) (fun _ _ _ h => h) (Or.inl ⟨by kernel_rfl, ?_⟩) (by assumption) ?_
  rotate_left
  · intro w hSw
    (try dsimp only at hSw)
    go_simp
    all_goals with_reducible rfl
  simp only [Act.put]
  refine wpAnyH_ready (rs := [6]) (by kernel_rfl) (by simp) ?_
  refine AllReadyH.cons (o := _) rfl (fun K hK => ?_) AllReadyH.nil
  go_simp
  refine hK.out _ _ (by go_keep) (fun hHeld => ?_)
  clear hK
  refine wpAnyH_done (by kernel_rfl) ?_ _
  go_wp2
  refine bodyPost_end (results_none rfl _ _ _) rfl ?_
  have HF := HP5.out.put (q := ⟨⟨⟨g0, g1, g2, g3, g4, g5⟩, a0, b0, h0, (updF f0 ak2 (ck, g0))⟩, ⟨⟨d0, d1, d2, d3, d4, d5⟩, a1, b1, h1, f1⟩, ⟨l0, l1, l2, l3, l4, so⟩, (bag ++ [(⟨0, false, ak3, ak2, g1⟩ : LT)]), ck⟩) (((((((Only.refl (· = pB) X).trans (Only.set _ pB 0 (.int .i64 g0) rfl)).trans (Only.set _ pB 1 (.int .i64 g1) rfl)).trans (Only.set _ pB 2 (.int .i64 g2) rfl)).trans (Only.set _ pB 3 (.int .i64 g3) rfl)).trans (Only.set _ pB 4 (.int .i64 g4) rfl)).trans (Only.set _ pB 5 (.int .i64 g5) rfl)) (heap_set_sameL (heap_set_sameL (heap_set_sameL (heap_set_sameL (heap_set_sameL (heap_set_sameL HP5.out.box 0 (.int .i64 g0)) 1 (.int .i64 g1)) 2 (.int .i64 g2)) 3 (.int .i64 g3)) 4 (.int .i64 g4)) 5 (.int .i64 g5)) rfl rfl rfl
  exact ⟨rfl, p6, c6, HF.later ((Below.refl _ _).drew)⟩
set_option maxRecDepth 100000 in
set_option maxHeartbeats 8000000 in
theorem mov_ask1k {W : World} {B pB mA mB n cap : Nat} {sp : Option Addr} {W0 : World} {c0 c1 c2 c3 c4 c5 d0 d1 d2 d3 d4 d5 a0 b0 a1 b1 l0 l1 l2 l3 l4 ck : Int} {h0 h1 so : Bool} {f0 f1 : Int → Int × Int} {bag : List LT} {mr mn mw ak2 ak3 g0 g1 g2 g3 g4 g5 : Int} {mt : Bool} (hP : PRep B W0 pB mA mB n ⟨⟨⟨c0, c1, c2, c3, c4, c5⟩, a0, b0, h0, f0⟩, ⟨⟨d0, d1, d2, d3, d4, d5⟩, a1, b1, h1, f1⟩, ⟨l0, l1, l2, l3, l4, so⟩, bag, ck⟩ sp cap W) (hr : bits .and .i64 mr 1 = 1) (hbig : bag.length ≤ 1000) (hnn : n ≤ 1000) (hg : askG ⟨d0, d1, d2, d3, d4, d5⟩ = (⟨g0, g1, g2, g3, g4, g5⟩, ak2, ak3, 0)) :
    Calls Try.prog 18 #[.pointer (some ⟨pB, 0, none⟩), .agg #[.int .i64 2, .int .i64 mr, .int .i64 mn, .int .i64 mw, .bool mt]] W fun e w' => e = .returned (.tuple #[]) ∧ ∃ sp' cap', PRep B W0 pB mA mB (n + 1) (askP ⟨⟨⟨c0, c1, c2, c3, c4, c5⟩, a0, b0, h0, f0⟩, ⟨⟨d0, d1, d2, d3, d4, d5⟩, a1, b1, h1, f1⟩, ⟨l0, l1, l2, l3, l4, so⟩, bag, ck⟩ 1) sp' cap' w' := by
  have HR := hide hg
  have HQ : Hid (askP ⟨⟨⟨c0, c1, c2, c3, c4, c5⟩, a0, b0, h0, f0⟩, ⟨⟨d0, d1, d2, d3, d4, d5⟩, a1, b1, h1, f1⟩, ⟨l0, l1, l2, l3, l4, so⟩, bag, ck⟩ 1 = ⟨⟨⟨c0, c1, c2, c3, c4, c5⟩, a0, b0, h0, f0⟩, ⟨⟨g0, g1, g2, g3, g4, g5⟩, a1, b1, h1, (updF f1 ak2 (ck, g0))⟩, ⟨l0, l1, l2, l3, l4, so⟩, (bag ++ [(⟨1, false, ak3, ak2, g1⟩ : LT)]), ck⟩) := hide (by
    have e : askG (PL.at ⟨⟨⟨c0, c1, c2, c3, c4, c5⟩, a0, b0, h0, f0⟩, ⟨⟨d0, d1, d2, d3, d4, d5⟩, a1, b1, h1, f1⟩, ⟨l0, l1, l2, l3, l4, so⟩, bag, ck⟩ 1).g = (⟨g0, g1, g2, g3, g4, g5⟩, ak2, ak3, 0) := hg
    unfold askP
    rw [e]
    exact if_pos rfl)
  rw [HQ.out]
  have hnum := ask_num hg
  have HNUM := hide hnum
  clear hnum
  have HBIG := hide hbig
  have HNN := hide hnn
  clear hg hbig hnn
  obtain ⟨V, hV⟩ : ∃ V, V = W.alloc (.cells #[.int .i64 2, .int .i64 mr, .int .i64 mn, .int .i64 mw, .bool mt] 52 (0, 0)) := ⟨_, rfl⟩
  have bV : Below W.heap.size W V := by rw [hV]; exact alloc_below _ _
  have hx : V.heap[W.heap.size]? = some (.cells #[.int .i64 2, .int .i64 mr, .int .i64 mn, .int .i64 mw, .bool mt] 52 (0, 0)) := by rw [hV]; exact heap_alloc_new W _
  obtain ⟨xB, hxB⟩ : ∃ xB, W.heap.size = xB := ⟨_, rfl⟩
  have HLT : Hid (pB < xB) := hide (by rw [← hxB]; exact box_lt hP.box)
  rw [hxB] at hx
  have HX0 := hide hx
  have HP0 := hide (hP.later bV)
  clear hx bV hP
  go_enter Try.func18, Try.ntmps18
  go_upto_region 1 with fail
  rw [← hV]
  try rw [hxB]
  clear hV hxB
  obtain ⟨_, _, _, _, _, x0, x1, x2, x3, x4⟩ := five HX0.out
  have u6 := cellB (i := 6) (v := .int .i64 d0) HP0.out.box rfl
  have u7 := cellB (i := 7) (v := .int .i64 d1) HP0.out.box rfl
  have u8 := cellB (i := 8) (v := .int .i64 d2) HP0.out.box rfl
  have u9 := cellB (i := 9) (v := .int .i64 d3) HP0.out.box rfl
  have u10 := cellB (i := 10) (v := .int .i64 d4) HP0.out.box rfl
  have u11 := cellB (i := 11) (v := .int .i64 d5) HP0.out.box rfl
  go_wp2_with fail
  refine ask_any.mono ?_
  rw [HR.out]
  simp only [GE.val, GE.row]
  rintro _ y1 ⟨rfl, b1⟩
  have HP1 := hide (HP0.out.later b1)
  clear b1 HP0 u6 u7 u8 u9 u10 u11 x0 x1 x2 x3 x4
  go_upto_region 11 with fail
  obtain ⟨X, hX⟩ : ∃ X, X = y1.alloc (.cells #[.int .i64 g0, .int .i64 g1, .int .i64 g2, .int .i64 g3, .int .i64 g4, .int .i64 g5] 23 (0, 0)) := ⟨_, rfl⟩
  have bX : Below y1.heap.size y1 X := by rw [hX]; exact alloc_below _ _
  obtain ⟨vB, hvB⟩ : ∃ vB, y1.heap.size = vB := ⟨_, rfl⟩
  have HV1 : Hid (X.heap[vB]? = some (.cells #[.int .i64 g0, .int .i64 g1, .int .i64 g2, .int .i64 g3, .int .i64 g4, .int .i64 g5] 23 (0, 0))) := hide (by rw [hX, ← hvB]; exact heap_alloc_new y1 _)
  have HLV : Hid (pB < vB) := hide (by rw [← hvB]; exact box_lt HP1.out.box)
  have HP2 := hide (HP1.out.later bX)
  rw [← hX]
  try rw [hvB]
  clear hX bX hvB HP1
  obtain ⟨_, _, _, _, _, _, v0, v1, v2, v3, v4, v5⟩ := six HV1.out
  have hne1 : pB ≠ vB := by have := HLV.out; omega
  have hne2 : vB ≠ pB := hne1.symm
  have u19 := cellB (i := 19) (v := .int .i64 ck) HP2.out.box rfl
  have u21 := cellB (i := 21) (v := .map (some mB)) HP2.out.box rfl
  obtain ⟨X2, hup, hM2, oM⟩ := (HP2.out.mb.later ((Below.refl _ X).drew)).put (a := ck) (b := g0) HNUM.out.1 HNUM.out.2 (by have := HNN.out; unfold maxLen; omega)
  have oM2 : Only (· = mB) X X2 := ⟨oM.os, oM.tape, oM.output, oM.size, oM.block⟩
  have HP3 : Hid (PRep B W0 pB mA mB (n + 1) ⟨⟨⟨c0, c1, c2, c3, c4, c5⟩, a0, b0, h0, f0⟩, ⟨⟨d0, d1, d2, d3, d4, d5⟩, a1, b1, h1, (updF f1 ak2 (ck, g0))⟩, ⟨l0, l1, l2, l3, l4, so⟩, bag, ck⟩ sp cap X2) := hide (HP2.out.map1 oM2 hM2)
  have HV2 := hide (oM2.obj HV1.out (fun e => by have e' : vB = mB := e; exact map_box HP2.out.mb HV1.out e'.symm))
  go_upto_region 12 with fail
  go_cut [] from 71 to 84 (fun wd => PRep B W0 pB mA mB (n + 1) ⟨⟨⟨c0, c1, c2, c3, c4, c5⟩, a0, b0, h0, f0⟩, ⟨⟨d0, d1, d2, d3, d4, d5⟩, a1, b1, h1, (updF f1 ak2 (ck, g0))⟩, ⟨l0, l1, l2, l3, l4, so⟩, bag, ck⟩ sp cap wd ∧ wd.heap[vB]? = some (.cells #[.int .i64 g0, .int .i64 g1, .int .i64 g2, .int .i64 g3, .int .i64 g4, .int .i64 g5] 23 (0, 0)))
  case first =>
    refine wp_region_held_drew (S := fun w' => w'.cell? ⟨pB, 19, none⟩ = some (.int .i64 ck) ∧ w'.cell? ⟨pB, 21, none⟩ = some (.map (some mB)) ∧ w'.cell? ⟨vB, 0, none⟩ = some (.int .i64 g0)) (by kernel_rfl) ⟨u19, u21, v0⟩ (fun hHeld => ?_)
    refine wpAnyH_take (i := 0) (oi := _) (v := ?_) rfl (by kernel_rfl) (by kernel_rfl) (by kernel_rfl) (fun _ _ _ h => h) (Or.inl ⟨by kernel_rfl, ?_⟩) (by assumption) ?_
    rotate_left
    · intro w hSw
      (try dsimp only at hSw)
      go_simp
      all_goals with_reducible rfl
    simp only [Act.put]
    refine wpAnyH_take (i := 1) (oi := _) (v := ?_) rfl (by kernel_rfl) (by kernel_rfl) (by kernel_rfl) (fun _ _ _ h => h) (Or.inl ⟨by kernel_rfl, ?_⟩) (by assumption) ?_
    rotate_left
    · intro w hSw
      (try dsimp only at hSw)
      go_simp
      all_goals with_reducible rfl
    simp only [Act.put]
    refine wpAnyH_take (i := 2) (oi := _) (v := ?_) rfl (by kernel_rfl) (by kernel_rfl) (by kernel_rfl) (fun _ _ _ h => h) (Or.inl ⟨by kernel_rfl, ?_⟩) (by assumption) ?_
    rotate_left
    · intro w hSw
      (try dsimp only at hSw)
      go_simp
      all_goals with_reducible rfl
    simp only [Act.put]
    refine wpAnyH_take (i := 3) (oi := _) (v := ?_) rfl (by kernel_rfl) (by kernel_rfl) (by kernel_rfl) (fun _ _ _ h => h) (Or.inl ⟨by kernel_rfl, ?_⟩) (by assumption) ?_
    rotate_left
    · intro w hSw
      (try dsimp only at hSw)
      go_simp
      all_goals with_reducible rfl
    simp only [Act.put]
    refine wpAnyH_take (i := 4) (oi := _) (v := ?_) rfl (by kernel_rfl) (by kernel_rfl) (by kernel_rfl) (fun _ _ _ h => h) (Or.inl ⟨by kernel_rfl, ?_⟩) (by assumption) ?_
    rotate_left
    · intro w hSw
      (try dsimp only at hSw)
      go_simp
      all_goals with_reducible rfl
    simp only [Act.put]
    refine wpAnyH_take (i := 5) (oi := _) (v := ?_) rfl (by kernel_rfl) (by kernel_rfl) (by kernel_rfl) (fun _ _ _ h => h) (Or.inl ⟨by kernel_rfl, ?_⟩) (by assumption) ?_
    rotate_left
    · intro w hSw
      (try dsimp only at hSw)
      go_simp
      all_goals with_reducible rfl
    simp only [Act.put]
    refine wpAnyH_take (i := 6) (oi := _) (v := ?_) rfl (by kernel_rfl) (by kernel_rfl) (by kernel_rfl) (fun _ _ _ h => h) (Or.inl ⟨by kernel_rfl, ?_⟩) (by assumption) ?_
    rotate_left
    · intro w hSw
      (try dsimp only at hSw)
      go_simp
      all_goals with_reducible rfl
    simp only [Act.put]
    refine wpAnyH_take (i := 7) (oi := _) (v := ?_) rfl (by kernel_rfl) (by kernel_rfl) (by kernel_rfl) (fun _ _ _ h => h) (Or.inl ⟨by kernel_rfl, ?_⟩) (by assumption) ?_
    rotate_left
    · intro w hSw
      (try dsimp only at hSw)
      go_simp
      all_goals with_reducible rfl
    simp only [Act.put]
    refine wpAnyH_take (i := 8) (oi := _) (v := ?_) rfl (by kernel_rfl) (by kernel_rfl) (by kernel_rfl) (fun _ _ _ h => h) (Or.inl ⟨by kernel_rfl, ?_⟩) (by assumption) ?_
    rotate_left
    · intro w hSw
      (try dsimp only at hSw)
      go_simp
      all_goals with_reducible rfl
    simp only [Act.put]
    refine wpAnyH_take (i := 9) (oi := _) (v := ?_) rfl (by kernel_rfl) (by kernel_rfl) (by kernel_rfl) (fun _ _ _ h => h) (Or.inl ⟨by kernel_rfl, ?_⟩) (by assumption) ?_
    rotate_left
    · intro w hSw
      (try dsimp only at hSw)
      go_simp
      all_goals with_reducible rfl
    simp only [Act.put]
    refine wpAnyH_take (i := 10) (oi := _) (v := ?_) rfl (by kernel_rfl) (by kernel_rfl) (by kernel_rfl) (fun _ _ _ h => h) (Or.inl ⟨by kernel_rfl, ?_⟩) (by assumption) ?_
    rotate_left
    · intro w hSw
      (try dsimp only at hSw)
      go_simp
      all_goals with_reducible rfl
    simp only [Act.put]
    refine wpAnyH_take (i := 11) (oi := _) (v := ?_) rfl (by kernel_rfl) (by kernel_rfl) (by kernel_rfl) (fun _ _ _ h => h) (Or.inl ⟨by kernel_rfl, ?_⟩) (by assumption) ?_
    rotate_left
    · intro w hSw
      (try dsimp only at hSw)
      go_simp
      all_goals with_reducible rfl
    simp only [Act.put]
    refine wpAnyH_take (i := 12) (oi := _) (v := ?_) rfl (by kernel_rfl) (by kernel_rfl) (by kernel_rfl) (fun _ _ _ h => h) (Or.inl ⟨by kernel_rfl, ?_⟩) (by assumption) ?_
    rotate_left
    · intro w hSw
      (try dsimp only at hSw)
      go_simp
      all_goals with_reducible rfl
    simp only [Act.put]
    refine wpAnyH_take (i := 13) (oi := _) (v := ?_) rfl (by kernel_rfl) (by kernel_rfl) (by kernel_rfl) (fun _ _ _ h => h) (Or.inl ⟨by kernel_rfl, ?_⟩) (by assumption) ?_
    rotate_left
    · intro w hSw
      (try dsimp only at hSw)
      go_simp
      all_goals with_reducible rfl
    simp only [Act.put]
    refine wpAnyH_ready (rs := [14]) (by kernel_rfl) (by simp) ?_
    refine AllReadyH.cons (o := _) rfl (fun K hK => ?_) AllReadyH.nil
    go_simp
    refine hK.out _ _ ⟨cellB (i := 19) (v := .int .i64 ck) HP3.out.box rfl, cellB (i := 21) (v := .map (some mB)) HP3.out.box rfl, cellB (i := 0) (v := .int .i64 g0) HV2.out rfl⟩ (fun hHeld => ?_)
    clear hK
    refine wpAnyH_done (by kernel_rfl) ?_ _
    go_wp2_with fail
    go_meet
    case rel => exact ⟨HP3.out, HV2.out⟩
  case rest =>
  rename World => Q
  obtain ⟨hPQ, hVQ⟩ := hcut
  have HPQ := hide hPQ
  have HVQ := hide hVQ
  clear hPQ hVQ HP2 HP3 HV1 HV2 oM oM2 hM2 hup u19 u21 v0 v1 v2 v3 v4 v5
  go_upto_region 13 with fail
  obtain ⟨j0, hj0, hj1, hj2, hj3⟩ := info_partsL Try.infoLT
  go_cut [] from 85 to 99 (fun wd => ∃ p6 c6, PRep B W0 pB mA mB (n + 1) (⟨⟨⟨c0, c1, c2, c3, c4, c5⟩, a0, b0, h0, f0⟩, ⟨⟨d0, d1, d2, d3, d4, d5⟩, a1, b1, h1, (updF f1 ak2 (ck, g0))⟩, ⟨l0, l1, l2, l3, l4, so⟩, (bag ++ [(⟨1, false, ak3, ak2, g1⟩ : LT)]), ck⟩) p6 c6 wd ∧ wd.heap[vB]? = some (.cells #[.int .i64 g0, .int .i64 g1, .int .i64 g2, .int .i64 g3, .int .i64 g4, .int .i64 g5] 23 (0, 0)))
  case first =>
    have u18 := cellB (i := 18) (v := .slice sp bag.length cap) HPQ.out.box rfl
    have u1 := cellB (i := 1) (v := .int .i64 g1) HVQ.out rfl
    refine wp_region_held_drew (S := fun w' => w'.cell? ⟨vB, 1, none⟩ = some (.int .i64 g1)) (by kernel_rfl) u1 (fun hHeld => ?_)
    refine wpAnyH_take (i := 0) (oi := _) (v := ?_) rfl (by kernel_rfl) (by kernel_rfl) (by kernel_rfl) (fun _ _ _ h => h) (Or.inl ⟨by kernel_rfl, ?_⟩) (by assumption) ?_
    rotate_left
    · intro w hSw
      (try dsimp only at hSw)
      go_simp
      all_goals with_reducible rfl
    simp only [Act.put]
    refine wpAnyH_take (i := 1) (oi := _) (v := ?_) rfl (by kernel_rfl) (by kernel_rfl) (by kernel_rfl) (fun _ _ _ h => h) (Or.inl ⟨by kernel_rfl, ?_⟩) (by assumption) ?_
    rotate_left
    · intro w hSw
      (try dsimp only at hSw)
      go_simp
      all_goals with_reducible rfl
    simp only [Act.put]
    refine wpAnyH_take (i := 2) (oi := _) (v := ?_) rfl (by kernel_rfl) (by kernel_rfl) (by kernel_rfl) (fun _ _ _ h => h) (Or.inl ⟨by kernel_rfl, ?_⟩) (by assumption) ?_
    rotate_left
    · intro w hSw
      (try dsimp only at hSw)
      go_simp
      all_goals with_reducible rfl
    simp only [Act.put]
    refine wpAnyH_take (i := 3) (oi := _) (v := ?_) rfl (by kernel_rfl) (by kernel_rfl) (by kernel_rfl) (fun _ _ _ h => h) (Or.inl ⟨by kernel_rfl, ?_⟩) (by assumption) ?_
    rotate_left
    · intro w hSw
      (try dsimp only at hSw)
      go_simp
      all_goals with_reducible rfl
    simp only [Act.put]
    refine wpAnyH_take (i := 5) (oi := _) (v := ?_) rfl (by kernel_rfl) (by kernel_rfl) (by kernel_rfl) (fun _ _ _ h => h) (Or.inl ⟨by kernel_rfl, ?_⟩) (by assumption) ?_
    rotate_left
    · intro w hSw
      (try dsimp only at hSw)
      go_simp
      all_goals with_reducible rfl
    simp only [Act.put]
    refine wpAnyH_take (i := 6) (oi := _) (v := ?_) rfl (by kernel_rfl) (by kernel_rfl) (by kernel_rfl) (fun _ _ _ h => h) (Or.inl ⟨by kernel_rfl, ?_⟩) (by assumption) ?_
    rotate_left
    · intro w hSw
      (try dsimp only at hSw)
      go_simp
      all_goals with_reducible rfl
    simp only [Act.put]
    refine wpAnyH_take (i := 7) (oi := _) (v := ?_) rfl (by kernel_rfl) (by kernel_rfl) (by kernel_rfl) (fun _ _ _ h => h) (Or.inl ⟨by kernel_rfl, ?_⟩) (by assumption) ?_
    rotate_left
    · intro w hSw
      (try dsimp only at hSw)
      go_simp
      all_goals with_reducible rfl
    simp only [Act.put]
    refine wpAnyH_take (i := 8) (oi := _) (v := ?_) rfl (by kernel_rfl) (by kernel_rfl) (by kernel_rfl) (fun _ _ _ h => h) (Or.inl ⟨by kernel_rfl, ?_⟩) (by assumption) ?_
    rotate_left
    · intro w hSw
      (try dsimp only at hSw)
      go_simp
      all_goals with_reducible rfl
    simp only [Act.put]
    refine wpAnyH_take (i := 9) (oi := _) (v := ?_) rfl (by kernel_rfl) (by kernel_rfl) (by kernel_rfl) (fun _ _ _ h => h) (Or.inl ⟨by kernel_rfl, ?_⟩) (by assumption) ?_
    rotate_left
    · intro w hSw
      (try dsimp only at hSw)
      go_simp
      all_goals with_reducible rfl
    simp only [Act.put]
    refine wpAnyH_take (i := 10) (oi := _) (v := ?_) rfl (by kernel_rfl) (by kernel_rfl) (by kernel_rfl) (fun _ _ _ h => h) (Or.inl ⟨by kernel_rfl, ?_⟩) (by assumption) ?_
    rotate_left
    · intro w hSw
      (try dsimp only at hSw)
      go_simp
      all_goals with_reducible rfl
    simp only [Act.put]
    refine wpAnyH_ready (rs := [4, 11]) (by kernel_rfl) (by simp) ?_
    refine AllReadyH.cons (o := _) rfl (fun K hK => ?_) (AllReadyH.cons (o := _) rfl (fun K hK => ?_) AllReadyH.nil)
    · go_simp
      refine hK.out _ _ hHeld (fun hHeld => ?_)
      clear hK
      refine wpAnyH_ready (rs := [11]) (by kernel_rfl) (by simp) ?_
      refine AllReadyH.cons (o := _) rfl (fun K hK => ?_) AllReadyH.nil
      go_simp
      refine hK.out _ _ (cellB (i := 1) (v := .int .i64 g1) (below_box (alloc_below _ _) HVQ.out) rfl) (fun hHeld => ?_)
      clear hK
      obtain ⟨R, hR⟩ : ∃ R, R = Q.alloc (.cells #[.int .i64 1, .bool false, .int .i64 ak3, .int .i64 ak2, .int .i64 g1] 64 (0, 0)) := ⟨_, rfl⟩
      have bR : Below Q.heap.size Q R := by rw [hR]; exact alloc_below _ _
      obtain ⟨nB, hnB⟩ : ∃ nB, Q.heap.size = nB := ⟨_, rfl⟩
      have HSG : Hid (Seg R 5 (.slice (some ⟨nB, 0, none⟩) 1 1) 1 [.int .i64 1, .bool false, .int .i64 ak3, .int .i64 ak2, .int .i64 g1]) := hide (by rw [hR, ← hnB]; exact Seg.news (heap_alloc_new Q _) (by simp [Value.oneCell']) rfl (Nat.le_refl _) (by decide))
      have HP8 := hide (HPQ.out.later bR)
      have bRq : Below Q.heap.size Q R.drew := bR.trans ((Below.refl _ R).drew.mono bR.size)
      rw [← hR] at hHeld
      rw [← hR]
      try rw [hnB]
      clear hR hnB bR
      refine wpAnyH_ready (rs := [12]) (by kernel_rfl) (by simp) ?_
      refine AllReadyH.cons (o := _) rfl (fun K hK => ?_) AllReadyH.nil
      refine step_append_cells rfl (.tmp 89) (.tmp 96) 42 rfl B 64 j0 (.agg #[.int .i64 0, .bool false, .int .i64 0, .int .i64 0, .int .i64 0]) 5 40 Try.underlying42 hj0 hj1 hj2 hj3 rfl (by decide) (.slice sp bag.length cap) bag.length _ rfl HP8.out.bag.drew (.slice (some ⟨nB, 0, none⟩) 1 1) 1 _ rfl HSG.out (by have := HBIG.out; unfold maxLen; omega) (by have := HBIG.out; omega) (Nat.le_trans HP8.out.ne.2.1 (Nat.le_of_lt (box_lt HP8.out.box))) ?_
      intro p6 c6 w6 o6 g6
      have HP9 := hide (HP8.out.later ((Below.refl _ R).drew))
      have HF := hide (HP9.out.app (y := (⟨1, false, ak3, ak2, g1⟩ : LT)) o6 g6)
      have ho6 : Only (fun i => (Value.slice sp bag.length cap).ownBlock = some i) R.drew w6 := Only.of_grown g6 (fun k e => e)
      have hb6 := ho6.obj HP9.out.box (fun e => bag_box HP9.out.bag HP9.out.box (by decide) _ e rfl)
      have hv6 := ho6.obj (below_box bRq HVQ.out) (fun e => bag_box HP9.out.bag (below_box bRq HVQ.out) (by decide) _ e rfl)
      have hv7 := (Only.set (F := (· = pB)) w6 pB 18 (.slice p6 (bag.length + 1) c6) rfl).obj hv6 (fun e => by have e' : vB = pB := e; omega)
      clear o6 g6 ho6 hHeld
      have w18 := cellB (i := 18) (v := .slice sp bag.length cap) hb6 rfl
      have y18 := frB (i := 18) hb6
      refine hK.out _ _ (cellB (i := 1) (v := .int .i64 g1) hv6 rfl) (fun hHeld => ?_)
      clear hK
      refine wpAnyH_take (i := 13) (oi := _) (v := ?_) rfl (by kernel_rfl) (by kernel_rfl) (by kernel_rfl) (fun _ _ _ h => h) (Or.inl ⟨by kernel_rfl, ?_⟩) (by assumption) ?_
      rotate_left
      · intro w hSw
        (try dsimp only at hSw)
        go_simp
        all_goals with_reducible rfl
      simp only [Act.put]
      refine wpAnyH_take (i := 14) (oi := _) (v := ?_) rfl (by kernel_rfl) (by kernel_rfl) (by kernel_rfl) (fun _ _ _ h => h) (Or.inl ⟨by kernel_rfl, ?_⟩) (by assumption) ?_
      rotate_left
      · intro w hSw
        (try dsimp only at hSw)
        go_simp
        all_goals with_reducible rfl
      simp only [Act.put]
      refine wpAnyH_ready (rs := [15]) (by kernel_rfl) (by simp) ?_
      refine AllReadyH.cons (o := _) rfl (fun K hK => ?_) AllReadyH.nil
      go_simp
      refine hK.out _ _ (cellB (i := 1) (v := .int .i64 g1) hv7 rfl) (fun hHeld => ?_)
      clear hK
      refine wpAnyH_done (by kernel_rfl) ?_ _
      go_wp2_with fail
      go_meet
      case rel => exact ⟨p6, c6, HF.out, hv7⟩
    · go_simp
      refine hK.out _ _ (cellB (i := 1) (v := .int .i64 g1) (below_box (alloc_below _ _) HVQ.out) rfl) (fun hHeld => ?_)
      clear hK
      obtain ⟨R, hR⟩ : ∃ R, R = Q.alloc (.cells #[.int .i64 1, .bool false, .int .i64 ak3, .int .i64 ak2, .int .i64 g1] 64 (0, 0)) := ⟨_, rfl⟩
      have bR : Below Q.heap.size Q R := by rw [hR]; exact alloc_below _ _
      obtain ⟨nB, hnB⟩ : ∃ nB, Q.heap.size = nB := ⟨_, rfl⟩
      have HSG : Hid (Seg R 5 (.slice (some ⟨nB, 0, none⟩) 1 1) 1 [.int .i64 1, .bool false, .int .i64 ak3, .int .i64 ak2, .int .i64 g1]) := hide (by rw [hR, ← hnB]; exact Seg.news (heap_alloc_new Q _) (by simp [Value.oneCell']) rfl (Nat.le_refl _) (by decide))
      have HP8 := hide (HPQ.out.later bR)
      have bRq : Below Q.heap.size Q R.drew := bR.trans ((Below.refl _ R).drew.mono bR.size)
      rw [← hR] at hHeld
      rw [← hR]
      try rw [hnB]
      clear hR hnB bR
      have v18 := cellB (i := 18) (v := .slice sp bag.length cap) HP8.out.box rfl
      refine wpAnyH_ready (rs := [4]) (by kernel_rfl) (by simp) ?_
      refine AllReadyH.cons (o := _) rfl (fun K hK => ?_) AllReadyH.nil
      go_simp
      refine hK.out _ _ hHeld (fun hHeld => ?_)
      clear hK
      refine wpAnyH_ready (rs := [12]) (by kernel_rfl) (by simp) ?_
      refine AllReadyH.cons (o := _) rfl (fun K hK => ?_) AllReadyH.nil
      refine step_append_cells rfl (.tmp 89) (.tmp 96) 42 rfl B 64 j0 (.agg #[.int .i64 0, .bool false, .int .i64 0, .int .i64 0, .int .i64 0]) 5 40 Try.underlying42 hj0 hj1 hj2 hj3 rfl (by decide) (.slice sp bag.length cap) bag.length _ rfl HP8.out.bag.drew (.slice (some ⟨nB, 0, none⟩) 1 1) 1 _ rfl HSG.out (by have := HBIG.out; unfold maxLen; omega) (by have := HBIG.out; omega) (Nat.le_trans HP8.out.ne.2.1 (Nat.le_of_lt (box_lt HP8.out.box))) ?_
      intro p6 c6 w6 o6 g6
      have HP9 := hide (HP8.out.later ((Below.refl _ R).drew))
      have HF := hide (HP9.out.app (y := (⟨1, false, ak3, ak2, g1⟩ : LT)) o6 g6)
      have ho6 : Only (fun i => (Value.slice sp bag.length cap).ownBlock = some i) R.drew w6 := Only.of_grown g6 (fun k e => e)
      have hb6 := ho6.obj HP9.out.box (fun e => bag_box HP9.out.bag HP9.out.box (by decide) _ e rfl)
      have hv6 := ho6.obj (below_box bRq HVQ.out) (fun e => bag_box HP9.out.bag (below_box bRq HVQ.out) (by decide) _ e rfl)
      have hv7 := (Only.set (F := (· = pB)) w6 pB 18 (.slice p6 (bag.length + 1) c6) rfl).obj hv6 (fun e => by have e' : vB = pB := e; omega)
      clear o6 g6 ho6 hHeld
      have w18 := cellB (i := 18) (v := .slice sp bag.length cap) hb6 rfl
      have y18 := frB (i := 18) hb6
      refine hK.out _ _ (cellB (i := 1) (v := .int .i64 g1) hv6 rfl) (fun hHeld => ?_)
      clear hK
      refine wpAnyH_take (i := 13) (oi := _) (v := ?_) rfl (by kernel_rfl) (by kernel_rfl) (by kernel_rfl) (fun _ _ _ h => h) (Or.inl ⟨by kernel_rfl, ?_⟩) (by assumption) ?_
      rotate_left
      · intro w hSw
        (try dsimp only at hSw)
        go_simp
        all_goals with_reducible rfl
      simp only [Act.put]
      refine wpAnyH_take (i := 14) (oi := _) (v := ?_) rfl (by kernel_rfl) (by kernel_rfl) (by kernel_rfl) (fun _ _ _ h => h) (Or.inl ⟨by kernel_rfl, ?_⟩) (by assumption) ?_
      rotate_left
      · intro w hSw
        (try dsimp only at hSw)
        go_simp
        all_goals with_reducible rfl
      simp only [Act.put]
      refine wpAnyH_ready (rs := [15]) (by kernel_rfl) (by simp) ?_
      refine AllReadyH.cons (o := _) rfl (fun K hK => ?_) AllReadyH.nil
      go_simp
      refine hK.out _ _ (cellB (i := 1) (v := .int .i64 g1) hv7 rfl) (fun hHeld => ?_)
      clear hK
      refine wpAnyH_done (by kernel_rfl) ?_ _
      go_wp2_with fail
      go_meet
      case rel => exact ⟨p6, c6, HF.out, hv7⟩
  case rest =>
  rename World => X
  obtain ⟨p6, c6, hPX, hVX⟩ := hcut
  have HPX := hide hPX
  have HVX := hide hVX
  clear hPX hVX
  have HP5 := HPX
  have HV5 := HVX
  clear HPX HVX
  obtain ⟨_, _, _, _, _, _, v0, v1, v2, v3, v4, v5⟩ := six HV5.out
  have u6 := cellB (i := 6) (v := .int .i64 d0) HP5.out.box rfl
  have u7 := cellB (i := 7) (v := .int .i64 d1) HP5.out.box rfl
  have u8 := cellB (i := 8) (v := .int .i64 d2) HP5.out.box rfl
  have u9 := cellB (i := 9) (v := .int .i64 d3) HP5.out.box rfl
  have u10 := cellB (i := 10) (v := .int .i64 d4) HP5.out.box rfl
  have u11 := cellB (i := 11) (v := .int .i64 d5) HP5.out.box rfl
  have z6 := frB (i := 6) HP5.out.box
  have z7 := frB (i := 7) HP5.out.box
  have z8 := frB (i := 8) HP5.out.box
  have z9 := frB (i := 9) HP5.out.box
  have z10 := frB (i := 10) HP5.out.box
  have z11 := frB (i := 11) HP5.out.box
  go_upto_region 14 with fail
  refine wp_region_held_drew (S := fun w' => w'.cell? ⟨vB, 0, none⟩ = some (.int .i64 g0) ∧ w'.cell? ⟨vB, 1, none⟩ = some (.int .i64 g1) ∧ w'.cell? ⟨vB, 2, none⟩ = some (.int .i64 g2) ∧ w'.cell? ⟨vB, 3, none⟩ = some (.int .i64 g3) ∧ w'.cell? ⟨vB, 4, none⟩ = some (.int .i64 g4) ∧ w'.cell? ⟨vB, 5, none⟩ = some (.int .i64 g5)) (by kernel_rfl) ⟨v0, v1, v2, v3, v4, v5⟩ (fun hHeld => ?_)
  refine wpAnyH_take (i := 0) (oi := _) (v := ?_) rfl (by kernel_rfl) (by kernel_rfl) (by kernel_rfl) (fun _ _ _ h => h) (Or.inl ⟨by kernel_rfl, ?_⟩) (by assumption) ?_
  rotate_left
  · intro w hSw
    (try dsimp only at hSw)
    go_simp
    all_goals with_reducible rfl
  simp only [Act.put]
  refine wpAnyH_take (i := 1) (oi := _) (v := ?_) rfl (by kernel_rfl) (by kernel_rfl) (by kernel_rfl) (fun _ _ _ h => h) (Or.inl ⟨by kernel_rfl, ?_⟩) (by assumption) ?_
  rotate_left
  · intro w hSw
    (try dsimp only at hSw)
    go_simp
    all_goals with_reducible rfl
  simp only [Act.put]
  refine wpAnyH_take (i := 2) (oi := _) (v := ?_) rfl (by kernel_rfl) (by kernel_rfl) (by kernel_rfl) (fun _ _ _ h => h) (Or.inl ⟨by kernel_rfl, ?_⟩) (by assumption) ?_
  rotate_left
  · intro w hSw
    (try dsimp only at hSw)
    go_simp
    all_goals with_reducible rfl
  simp only [Act.put]
  refine wpAnyH_take (i := 3) (oi := _) (v := ?_) rfl (by kernel_rfl) (by kernel_rfl) (by kernel_rfl) (fun _ _ _ h => h) (Or.inl ⟨by kernel_rfl, ?_⟩) (by assumption) ?_
  rotate_left
  · intro w hSw
    (try dsimp only at hSw)
    go_simp
    all_goals with_reducible rfl
  simp only [Act.put]
  refine wpAnyH_take (i := 4) (oi := _) (v := ?_) rfl (by kernel_rfl) (by kernel_rfl) (by kernel_rfl) (fun _ _ _ h => h) (Or.inl ⟨by kernel_rfl, ?_⟩) (by assumption) ?_
  rotate_left
  · intro w hSw
    (try dsimp only at hSw)
    go_simp
    all_goals with_reducible rfl
  simp only [Act.put]
  refine wpAnyH_take (i := 5) (oi := _) (v := ?_) rfl (by kernel_rfl) (by kernel_rfl) (by kernel_rfl) (fun _ _ _ h => h) (Or.inl ⟨by kernel_rfl, ?_⟩) (by assumption) ?_
  rotate_left
  · intro w hSw
    (try dsimp only at hSw)
    go_simp
    all_goals with_reducible rfl
  simp only [Act.put]
  refine wpAnyH_ready (rs := [6]) (by kernel_rfl) (by simp) ?_
  refine AllReadyH.cons (o := _) rfl (fun K hK => ?_) AllReadyH.nil
  go_simp
  refine hK.out _ _ (by go_keep) (fun hHeld => ?_)
  clear hK
  refine wpAnyH_done (by kernel_rfl) ?_ _
  go_wp2
  refine bodyPost_end (results_none rfl _ _ _) rfl ?_
  have HF := HP5.out.put (q := ⟨⟨⟨c0, c1, c2, c3, c4, c5⟩, a0, b0, h0, f0⟩, ⟨⟨g0, g1, g2, g3, g4, g5⟩, a1, b1, h1, (updF f1 ak2 (ck, g0))⟩, ⟨l0, l1, l2, l3, l4, so⟩, (bag ++ [(⟨1, false, ak3, ak2, g1⟩ : LT)]), ck⟩) (((((((Only.refl (· = pB) X).trans (Only.set _ pB 6 (.int .i64 g0) rfl)).trans (Only.set _ pB 7 (.int .i64 g1) rfl)).trans (Only.set _ pB 8 (.int .i64 g2) rfl)).trans (Only.set _ pB 9 (.int .i64 g3) rfl)).trans (Only.set _ pB 10 (.int .i64 g4) rfl)).trans (Only.set _ pB 11 (.int .i64 g5) rfl)) (heap_set_sameL (heap_set_sameL (heap_set_sameL (heap_set_sameL (heap_set_sameL (heap_set_sameL HP5.out.box 6 (.int .i64 g0)) 7 (.int .i64 g1)) 8 (.int .i64 g2)) 9 (.int .i64 g3)) 10 (.int .i64 g4)) 11 (.int .i64 g5)) rfl rfl rfl
  exact ⟨rfl, p6, c6, HF.later ((Below.refl _ _).drew)⟩
set_option maxRecDepth 100000 in
set_option maxHeartbeats 8000000 in
theorem mov_ask0n {W : World} {B pB mA mB n cap : Nat} {sp : Option Addr} {W0 : World} {c0 c1 c2 c3 c4 c5 d0 d1 d2 d3 d4 d5 a0 b0 a1 b1 l0 l1 l2 l3 l4 ck : Int} {h0 h1 so : Bool} {f0 f1 : Int → Int × Int} {bag : List LT} {mr mn mw ak2 ak3 g0 g1 g2 g3 g4 g5 er : Int} {mt : Bool} (hP : PRep B W0 pB mA mB n ⟨⟨⟨c0, c1, c2, c3, c4, c5⟩, a0, b0, h0, f0⟩, ⟨⟨d0, d1, d2, d3, d4, d5⟩, a1, b1, h1, f1⟩, ⟨l0, l1, l2, l3, l4, so⟩, bag, ck⟩ sp cap W) (hr : bits .and .i64 mr 1 = 0) (hbig : bag.length ≤ 1000) (hnn : n ≤ 1000) (hg : askG ⟨c0, c1, c2, c3, c4, c5⟩ = (⟨g0, g1, g2, g3, g4, g5⟩, ak2, ak3, er)) (he : er ≠ 0) :
    Calls Try.prog 18 #[.pointer (some ⟨pB, 0, none⟩), .agg #[.int .i64 2, .int .i64 mr, .int .i64 mn, .int .i64 mw, .bool mt]] W fun e w' => e = .returned (.tuple #[]) ∧ ∃ sp' cap', PRep B W0 pB mA mB (n + 1) (askP ⟨⟨⟨c0, c1, c2, c3, c4, c5⟩, a0, b0, h0, f0⟩, ⟨⟨d0, d1, d2, d3, d4, d5⟩, a1, b1, h1, f1⟩, ⟨l0, l1, l2, l3, l4, so⟩, bag, ck⟩ 0) sp' cap' w' := by
  have HR := hide hg
  have HQ : Hid (askP ⟨⟨⟨c0, c1, c2, c3, c4, c5⟩, a0, b0, h0, f0⟩, ⟨⟨d0, d1, d2, d3, d4, d5⟩, a1, b1, h1, f1⟩, ⟨l0, l1, l2, l3, l4, so⟩, bag, ck⟩ 0 = ⟨⟨⟨g0, g1, g2, g3, g4, g5⟩, a0, b0, h0, f0⟩, ⟨⟨d0, d1, d2, d3, d4, d5⟩, a1, b1, h1, f1⟩, ⟨l0, l1, l2, l3, l4, so⟩, bag, ck⟩) := hide (by
    have e : askG (PL.at ⟨⟨⟨c0, c1, c2, c3, c4, c5⟩, a0, b0, h0, f0⟩, ⟨⟨d0, d1, d2, d3, d4, d5⟩, a1, b1, h1, f1⟩, ⟨l0, l1, l2, l3, l4, so⟩, bag, ck⟩ 0).g = (⟨g0, g1, g2, g3, g4, g5⟩, ak2, ak3, er) := hg
    unfold askP
    rw [e]
    exact if_neg he)
  rw [HQ.out]
  have hd : (er == 0) = false := ne_eqL he
  clear he
  have HBIG := hide hbig
  have HNN := hide hnn
  clear hg hbig hnn
  obtain ⟨V, hV⟩ : ∃ V, V = W.alloc (.cells #[.int .i64 2, .int .i64 mr, .int .i64 mn, .int .i64 mw, .bool mt] 52 (0, 0)) := ⟨_, rfl⟩
  have bV : Below W.heap.size W V := by rw [hV]; exact alloc_below _ _
  have hx : V.heap[W.heap.size]? = some (.cells #[.int .i64 2, .int .i64 mr, .int .i64 mn, .int .i64 mw, .bool mt] 52 (0, 0)) := by rw [hV]; exact heap_alloc_new W _
  obtain ⟨xB, hxB⟩ : ∃ xB, W.heap.size = xB := ⟨_, rfl⟩
  have HLT : Hid (pB < xB) := hide (by rw [← hxB]; exact box_lt hP.box)
  rw [hxB] at hx
  have HX0 := hide hx
  have HP0 := hide (hP.later bV)
  clear hx bV hP
  go_enter Try.func18, Try.ntmps18
  go_upto_region 1 with fail
  rw [← hV]
  try rw [hxB]
  clear hV hxB
  obtain ⟨_, _, _, _, _, x0, x1, x2, x3, x4⟩ := five HX0.out
  have u0 := cellB (i := 0) (v := .int .i64 c0) HP0.out.box rfl
  have u1 := cellB (i := 1) (v := .int .i64 c1) HP0.out.box rfl
  have u2 := cellB (i := 2) (v := .int .i64 c2) HP0.out.box rfl
  have u3 := cellB (i := 3) (v := .int .i64 c3) HP0.out.box rfl
  have u4 := cellB (i := 4) (v := .int .i64 c4) HP0.out.box rfl
  have u5 := cellB (i := 5) (v := .int .i64 c5) HP0.out.box rfl
  go_wp2_with fail
  refine ask_any.mono ?_
  rw [HR.out]
  simp only [GE.val, GE.row]
  rintro _ y1 ⟨rfl, b1⟩
  have HP1 := hide (HP0.out.later b1)
  clear b1 HP0 u0 u1 u2 u3 u4 u5 x0 x1 x2 x3 x4
  go_upto_region 11 with fail
  obtain ⟨X, hX⟩ : ∃ X, X = y1.alloc (.cells #[.int .i64 g0, .int .i64 g1, .int .i64 g2, .int .i64 g3, .int .i64 g4, .int .i64 g5] 23 (0, 0)) := ⟨_, rfl⟩
  have bX : Below y1.heap.size y1 X := by rw [hX]; exact alloc_below _ _
  obtain ⟨vB, hvB⟩ : ∃ vB, y1.heap.size = vB := ⟨_, rfl⟩
  have HV1 : Hid (X.heap[vB]? = some (.cells #[.int .i64 g0, .int .i64 g1, .int .i64 g2, .int .i64 g3, .int .i64 g4, .int .i64 g5] 23 (0, 0))) := hide (by rw [hX, ← hvB]; exact heap_alloc_new y1 _)
  have HLV : Hid (pB < vB) := hide (by rw [← hvB]; exact box_lt HP1.out.box)
  have HP2 := hide (HP1.out.later bX)
  rw [← hX]
  try rw [hvB]
  clear hX bX hvB HP1
  obtain ⟨_, _, _, _, _, _, v0, v1, v2, v3, v4, v5⟩ := six HV1.out
  have hne1 : pB ≠ vB := by have := HLV.out; omega
  have hne2 : vB ≠ pB := hne1.symm
  obtain ⟨p6, hp6⟩ : ∃ z, sp = z := ⟨_, rfl⟩
  obtain ⟨c6, hc6⟩ : ∃ z, cap = z := ⟨_, rfl⟩
  rw [hp6, hc6] at HP2
  have HP5 : Hid (PRep B W0 pB mA mB (n + 1) ⟨⟨⟨c0, c1, c2, c3, c4, c5⟩, a0, b0, h0, f0⟩, ⟨⟨d0, d1, d2, d3, d4, d5⟩, a1, b1, h1, f1⟩, ⟨l0, l1, l2, l3, l4, so⟩, bag, ck⟩ p6 c6 X) := hide ⟨HP2.out.box, HP2.out.bag, HP2.out.ma.mono (Nat.le_succ _), HP2.out.mb.mono (Nat.le_succ _), HP2.out.ne, HP2.out.below⟩
  have HV5 := HV1
  clear hp6 hc6 HP2 HV1 v0 v1 v2 v3 v4 v5
  obtain ⟨_, _, _, _, _, _, v0, v1, v2, v3, v4, v5⟩ := six HV5.out
  have u0 := cellB (i := 0) (v := .int .i64 c0) HP5.out.box rfl
  have u1 := cellB (i := 1) (v := .int .i64 c1) HP5.out.box rfl
  have u2 := cellB (i := 2) (v := .int .i64 c2) HP5.out.box rfl
  have u3 := cellB (i := 3) (v := .int .i64 c3) HP5.out.box rfl
  have u4 := cellB (i := 4) (v := .int .i64 c4) HP5.out.box rfl
  have u5 := cellB (i := 5) (v := .int .i64 c5) HP5.out.box rfl
  have z0 := frB (i := 0) HP5.out.box
  have z1 := frB (i := 1) HP5.out.box
  have z2 := frB (i := 2) HP5.out.box
  have z3 := frB (i := 3) HP5.out.box
  have z4 := frB (i := 4) HP5.out.box
  have z5 := frB (i := 5) HP5.out.box
  go_upto_region 14 with fail
  refine wp_region_held_drew (S := fun w' => w'.cell? ⟨vB, 0, none⟩ = some (.int .i64 g0) ∧ w'.cell? ⟨vB, 1, none⟩ = some (.int .i64 g1) ∧ w'.cell? ⟨vB, 2, none⟩ = some (.int .i64 g2) ∧ w'.cell? ⟨vB, 3, none⟩ = some (.int .i64 g3) ∧ w'.cell? ⟨vB, 4, none⟩ = some (.int .i64 g4) ∧ w'.cell? ⟨vB, 5, none⟩ = some (.int .i64 g5)) (by kernel_rfl) ⟨v0, v1, v2, v3, v4, v5⟩ (fun hHeld => ?_)
  refine wpAnyH_take (i := 0) (oi := _) (v := ?_) rfl (by kernel_rfl) (by kernel_rfl) (by kernel_rfl) (fun _ _ _ h => h) (Or.inl ⟨by kernel_rfl, ?_⟩) (by assumption) ?_
  rotate_left
  · intro w hSw
    (try dsimp only at hSw)
    go_simp
    all_goals with_reducible rfl
  simp only [Act.put]
  refine wpAnyH_take (i := 1) (oi := _) (v := ?_) rfl (by kernel_rfl) (by kernel_rfl) (by kernel_rfl) (fun _ _ _ h => h) (Or.inl ⟨by kernel_rfl, ?_⟩) (by assumption) ?_
  rotate_left
  · intro w hSw
    (try dsimp only at hSw)
    go_simp
    all_goals with_reducible rfl
  simp only [Act.put]
  refine wpAnyH_take (i := 2) (oi := _) (v := ?_) rfl (by kernel_rfl) (by kernel_rfl) (by kernel_rfl) (fun _ _ _ h => h) (Or.inl ⟨by kernel_rfl, ?_⟩) (by assumption) ?_
  rotate_left
  · intro w hSw
    (try dsimp only at hSw)
    go_simp
    all_goals with_reducible rfl
  simp only [Act.put]
  refine wpAnyH_take (i := 3) (oi := _) (v := ?_) rfl (by kernel_rfl) (by kernel_rfl) (by kernel_rfl) (fun _ _ _ h => h) (Or.inl ⟨by kernel_rfl, ?_⟩) (by assumption) ?_
  rotate_left
  · intro w hSw
    (try dsimp only at hSw)
    go_simp
    all_goals with_reducible rfl
  simp only [Act.put]
  refine wpAnyH_take (i := 4) (oi := _) (v := ?_) rfl (by kernel_rfl) (by kernel_rfl) (by kernel_rfl) (fun _ _ _ h => h) (Or.inl ⟨by kernel_rfl, ?_⟩) (by assumption) ?_
  rotate_left
  · intro w hSw
    (try dsimp only at hSw)
    go_simp
    all_goals with_reducible rfl
  simp only [Act.put]
  refine wpAnyH_take (i := 5) (oi := _) (v := ?_) rfl (by kernel_rfl) (by kernel_rfl) (by kernel_rfl) (fun _ _ _ h => h) (Or.inl ⟨by kernel_rfl, ?_⟩) (by assumption) ?_
  rotate_left
  · intro w hSw
    (try dsimp only at hSw)
    go_simp
    all_goals with_reducible rfl
  simp only [Act.put]
  refine wpAnyH_ready (rs := [6]) (by kernel_rfl) (by simp) ?_
  refine AllReadyH.cons (o := _) rfl (fun K hK => ?_) AllReadyH.nil
  go_simp
  refine hK.out _ _ (by go_keep) (fun hHeld => ?_)
  clear hK
  refine wpAnyH_done (by kernel_rfl) ?_ _
  go_wp2
  refine bodyPost_end (results_none rfl _ _ _) rfl ?_
  have HF := HP5.out.put (q := ⟨⟨⟨g0, g1, g2, g3, g4, g5⟩, a0, b0, h0, f0⟩, ⟨⟨d0, d1, d2, d3, d4, d5⟩, a1, b1, h1, f1⟩, ⟨l0, l1, l2, l3, l4, so⟩, bag, ck⟩) (((((((Only.refl (· = pB) X).trans (Only.set _ pB 0 (.int .i64 g0) rfl)).trans (Only.set _ pB 1 (.int .i64 g1) rfl)).trans (Only.set _ pB 2 (.int .i64 g2) rfl)).trans (Only.set _ pB 3 (.int .i64 g3) rfl)).trans (Only.set _ pB 4 (.int .i64 g4) rfl)).trans (Only.set _ pB 5 (.int .i64 g5) rfl)) (heap_set_sameL (heap_set_sameL (heap_set_sameL (heap_set_sameL (heap_set_sameL (heap_set_sameL HP5.out.box 0 (.int .i64 g0)) 1 (.int .i64 g1)) 2 (.int .i64 g2)) 3 (.int .i64 g3)) 4 (.int .i64 g4)) 5 (.int .i64 g5)) rfl rfl rfl
  exact ⟨rfl, p6, c6, HF.later ((Below.refl _ _).drew)⟩
set_option maxRecDepth 100000 in
set_option maxHeartbeats 8000000 in
theorem mov_ask1n {W : World} {B pB mA mB n cap : Nat} {sp : Option Addr} {W0 : World} {c0 c1 c2 c3 c4 c5 d0 d1 d2 d3 d4 d5 a0 b0 a1 b1 l0 l1 l2 l3 l4 ck : Int} {h0 h1 so : Bool} {f0 f1 : Int → Int × Int} {bag : List LT} {mr mn mw ak2 ak3 g0 g1 g2 g3 g4 g5 er : Int} {mt : Bool} (hP : PRep B W0 pB mA mB n ⟨⟨⟨c0, c1, c2, c3, c4, c5⟩, a0, b0, h0, f0⟩, ⟨⟨d0, d1, d2, d3, d4, d5⟩, a1, b1, h1, f1⟩, ⟨l0, l1, l2, l3, l4, so⟩, bag, ck⟩ sp cap W) (hr : bits .and .i64 mr 1 = 1) (hbig : bag.length ≤ 1000) (hnn : n ≤ 1000) (hg : askG ⟨d0, d1, d2, d3, d4, d5⟩ = (⟨g0, g1, g2, g3, g4, g5⟩, ak2, ak3, er)) (he : er ≠ 0) :
    Calls Try.prog 18 #[.pointer (some ⟨pB, 0, none⟩), .agg #[.int .i64 2, .int .i64 mr, .int .i64 mn, .int .i64 mw, .bool mt]] W fun e w' => e = .returned (.tuple #[]) ∧ ∃ sp' cap', PRep B W0 pB mA mB (n + 1) (askP ⟨⟨⟨c0, c1, c2, c3, c4, c5⟩, a0, b0, h0, f0⟩, ⟨⟨d0, d1, d2, d3, d4, d5⟩, a1, b1, h1, f1⟩, ⟨l0, l1, l2, l3, l4, so⟩, bag, ck⟩ 1) sp' cap' w' := by
  have HR := hide hg
  have HQ : Hid (askP ⟨⟨⟨c0, c1, c2, c3, c4, c5⟩, a0, b0, h0, f0⟩, ⟨⟨d0, d1, d2, d3, d4, d5⟩, a1, b1, h1, f1⟩, ⟨l0, l1, l2, l3, l4, so⟩, bag, ck⟩ 1 = ⟨⟨⟨c0, c1, c2, c3, c4, c5⟩, a0, b0, h0, f0⟩, ⟨⟨g0, g1, g2, g3, g4, g5⟩, a1, b1, h1, f1⟩, ⟨l0, l1, l2, l3, l4, so⟩, bag, ck⟩) := hide (by
    have e : askG (PL.at ⟨⟨⟨c0, c1, c2, c3, c4, c5⟩, a0, b0, h0, f0⟩, ⟨⟨d0, d1, d2, d3, d4, d5⟩, a1, b1, h1, f1⟩, ⟨l0, l1, l2, l3, l4, so⟩, bag, ck⟩ 1).g = (⟨g0, g1, g2, g3, g4, g5⟩, ak2, ak3, er) := hg
    unfold askP
    rw [e]
    exact if_neg he)
  rw [HQ.out]
  have hd : (er == 0) = false := ne_eqL he
  clear he
  have HBIG := hide hbig
  have HNN := hide hnn
  clear hg hbig hnn
  obtain ⟨V, hV⟩ : ∃ V, V = W.alloc (.cells #[.int .i64 2, .int .i64 mr, .int .i64 mn, .int .i64 mw, .bool mt] 52 (0, 0)) := ⟨_, rfl⟩
  have bV : Below W.heap.size W V := by rw [hV]; exact alloc_below _ _
  have hx : V.heap[W.heap.size]? = some (.cells #[.int .i64 2, .int .i64 mr, .int .i64 mn, .int .i64 mw, .bool mt] 52 (0, 0)) := by rw [hV]; exact heap_alloc_new W _
  obtain ⟨xB, hxB⟩ : ∃ xB, W.heap.size = xB := ⟨_, rfl⟩
  have HLT : Hid (pB < xB) := hide (by rw [← hxB]; exact box_lt hP.box)
  rw [hxB] at hx
  have HX0 := hide hx
  have HP0 := hide (hP.later bV)
  clear hx bV hP
  go_enter Try.func18, Try.ntmps18
  go_upto_region 1 with fail
  rw [← hV]
  try rw [hxB]
  clear hV hxB
  obtain ⟨_, _, _, _, _, x0, x1, x2, x3, x4⟩ := five HX0.out
  have u6 := cellB (i := 6) (v := .int .i64 d0) HP0.out.box rfl
  have u7 := cellB (i := 7) (v := .int .i64 d1) HP0.out.box rfl
  have u8 := cellB (i := 8) (v := .int .i64 d2) HP0.out.box rfl
  have u9 := cellB (i := 9) (v := .int .i64 d3) HP0.out.box rfl
  have u10 := cellB (i := 10) (v := .int .i64 d4) HP0.out.box rfl
  have u11 := cellB (i := 11) (v := .int .i64 d5) HP0.out.box rfl
  go_wp2_with fail
  refine ask_any.mono ?_
  rw [HR.out]
  simp only [GE.val, GE.row]
  rintro _ y1 ⟨rfl, b1⟩
  have HP1 := hide (HP0.out.later b1)
  clear b1 HP0 u6 u7 u8 u9 u10 u11 x0 x1 x2 x3 x4
  go_upto_region 11 with fail
  obtain ⟨X, hX⟩ : ∃ X, X = y1.alloc (.cells #[.int .i64 g0, .int .i64 g1, .int .i64 g2, .int .i64 g3, .int .i64 g4, .int .i64 g5] 23 (0, 0)) := ⟨_, rfl⟩
  have bX : Below y1.heap.size y1 X := by rw [hX]; exact alloc_below _ _
  obtain ⟨vB, hvB⟩ : ∃ vB, y1.heap.size = vB := ⟨_, rfl⟩
  have HV1 : Hid (X.heap[vB]? = some (.cells #[.int .i64 g0, .int .i64 g1, .int .i64 g2, .int .i64 g3, .int .i64 g4, .int .i64 g5] 23 (0, 0))) := hide (by rw [hX, ← hvB]; exact heap_alloc_new y1 _)
  have HLV : Hid (pB < vB) := hide (by rw [← hvB]; exact box_lt HP1.out.box)
  have HP2 := hide (HP1.out.later bX)
  rw [← hX]
  try rw [hvB]
  clear hX bX hvB HP1
  obtain ⟨_, _, _, _, _, _, v0, v1, v2, v3, v4, v5⟩ := six HV1.out
  have hne1 : pB ≠ vB := by have := HLV.out; omega
  have hne2 : vB ≠ pB := hne1.symm
  obtain ⟨p6, hp6⟩ : ∃ z, sp = z := ⟨_, rfl⟩
  obtain ⟨c6, hc6⟩ : ∃ z, cap = z := ⟨_, rfl⟩
  rw [hp6, hc6] at HP2
  have HP5 : Hid (PRep B W0 pB mA mB (n + 1) ⟨⟨⟨c0, c1, c2, c3, c4, c5⟩, a0, b0, h0, f0⟩, ⟨⟨d0, d1, d2, d3, d4, d5⟩, a1, b1, h1, f1⟩, ⟨l0, l1, l2, l3, l4, so⟩, bag, ck⟩ p6 c6 X) := hide ⟨HP2.out.box, HP2.out.bag, HP2.out.ma.mono (Nat.le_succ _), HP2.out.mb.mono (Nat.le_succ _), HP2.out.ne, HP2.out.below⟩
  have HV5 := HV1
  clear hp6 hc6 HP2 HV1 v0 v1 v2 v3 v4 v5
  obtain ⟨_, _, _, _, _, _, v0, v1, v2, v3, v4, v5⟩ := six HV5.out
  have u6 := cellB (i := 6) (v := .int .i64 d0) HP5.out.box rfl
  have u7 := cellB (i := 7) (v := .int .i64 d1) HP5.out.box rfl
  have u8 := cellB (i := 8) (v := .int .i64 d2) HP5.out.box rfl
  have u9 := cellB (i := 9) (v := .int .i64 d3) HP5.out.box rfl
  have u10 := cellB (i := 10) (v := .int .i64 d4) HP5.out.box rfl
  have u11 := cellB (i := 11) (v := .int .i64 d5) HP5.out.box rfl
  have z6 := frB (i := 6) HP5.out.box
  have z7 := frB (i := 7) HP5.out.box
  have z8 := frB (i := 8) HP5.out.box
  have z9 := frB (i := 9) HP5.out.box
  have z10 := frB (i := 10) HP5.out.box
  have z11 := frB (i := 11) HP5.out.box
  go_upto_region 14 with fail
  refine wp_region_held_drew (S := fun w' => w'.cell? ⟨vB, 0, none⟩ = some (.int .i64 g0) ∧ w'.cell? ⟨vB, 1, none⟩ = some (.int .i64 g1) ∧ w'.cell? ⟨vB, 2, none⟩ = some (.int .i64 g2) ∧ w'.cell? ⟨vB, 3, none⟩ = some (.int .i64 g3) ∧ w'.cell? ⟨vB, 4, none⟩ = some (.int .i64 g4) ∧ w'.cell? ⟨vB, 5, none⟩ = some (.int .i64 g5)) (by kernel_rfl) ⟨v0, v1, v2, v3, v4, v5⟩ (fun hHeld => ?_)
  refine wpAnyH_take (i := 0) (oi := _) (v := ?_) rfl (by kernel_rfl) (by kernel_rfl) (by kernel_rfl) (fun _ _ _ h => h) (Or.inl ⟨by kernel_rfl, ?_⟩) (by assumption) ?_
  rotate_left
  · intro w hSw
    (try dsimp only at hSw)
    go_simp
    all_goals with_reducible rfl
  simp only [Act.put]
  refine wpAnyH_take (i := 1) (oi := _) (v := ?_) rfl (by kernel_rfl) (by kernel_rfl) (by kernel_rfl) (fun _ _ _ h => h) (Or.inl ⟨by kernel_rfl, ?_⟩) (by assumption) ?_
  rotate_left
  · intro w hSw
    (try dsimp only at hSw)
    go_simp
    all_goals with_reducible rfl
  simp only [Act.put]
  refine wpAnyH_take (i := 2) (oi := _) (v := ?_) rfl (by kernel_rfl) (by kernel_rfl) (by kernel_rfl) (fun _ _ _ h => h) (Or.inl ⟨by kernel_rfl, ?_⟩) (by assumption) ?_
  rotate_left
  · intro w hSw
    (try dsimp only at hSw)
    go_simp
    all_goals with_reducible rfl
  simp only [Act.put]
  refine wpAnyH_take (i := 3) (oi := _) (v := ?_) rfl (by kernel_rfl) (by kernel_rfl) (by kernel_rfl) (fun _ _ _ h => h) (Or.inl ⟨by kernel_rfl, ?_⟩) (by assumption) ?_
  rotate_left
  · intro w hSw
    (try dsimp only at hSw)
    go_simp
    all_goals with_reducible rfl
  simp only [Act.put]
  refine wpAnyH_take (i := 4) (oi := _) (v := ?_) rfl (by kernel_rfl) (by kernel_rfl) (by kernel_rfl) (fun _ _ _ h => h) (Or.inl ⟨by kernel_rfl, ?_⟩) (by assumption) ?_
  rotate_left
  · intro w hSw
    (try dsimp only at hSw)
    go_simp
    all_goals with_reducible rfl
  simp only [Act.put]
  refine wpAnyH_take (i := 5) (oi := _) (v := ?_) rfl (by kernel_rfl) (by kernel_rfl) (by kernel_rfl) (fun _ _ _ h => h) (Or.inl ⟨by kernel_rfl, ?_⟩) (by assumption) ?_
  rotate_left
  · intro w hSw
    (try dsimp only at hSw)
    go_simp
    all_goals with_reducible rfl
  simp only [Act.put]
  refine wpAnyH_ready (rs := [6]) (by kernel_rfl) (by simp) ?_
  refine AllReadyH.cons (o := _) rfl (fun K hK => ?_) AllReadyH.nil
  go_simp
  refine hK.out _ _ (by go_keep) (fun hHeld => ?_)
  clear hK
  refine wpAnyH_done (by kernel_rfl) ?_ _
  go_wp2
  refine bodyPost_end (results_none rfl _ _ _) rfl ?_
  have HF := HP5.out.put (q := ⟨⟨⟨c0, c1, c2, c3, c4, c5⟩, a0, b0, h0, f0⟩, ⟨⟨g0, g1, g2, g3, g4, g5⟩, a1, b1, h1, f1⟩, ⟨l0, l1, l2, l3, l4, so⟩, bag, ck⟩) (((((((Only.refl (· = pB) X).trans (Only.set _ pB 6 (.int .i64 g0) rfl)).trans (Only.set _ pB 7 (.int .i64 g1) rfl)).trans (Only.set _ pB 8 (.int .i64 g2) rfl)).trans (Only.set _ pB 9 (.int .i64 g3) rfl)).trans (Only.set _ pB 10 (.int .i64 g4) rfl)).trans (Only.set _ pB 11 (.int .i64 g5) rfl)) (heap_set_sameL (heap_set_sameL (heap_set_sameL (heap_set_sameL (heap_set_sameL (heap_set_sameL HP5.out.box 6 (.int .i64 g0)) 7 (.int .i64 g1)) 8 (.int .i64 g2)) 9 (.int .i64 g3)) 10 (.int .i64 g4)) 11 (.int .i64 g5)) rfl rfl rfl
  exact ⟨rfl, p6, c6, HF.later ((Below.refl _ _).drew)⟩
end Go.Proofs.Ytegffdmlkbdcdaa
