/-
  GuardDoes walked: what any guard says, and becomes by any call, is the document's. The condition: that the calls lie there.
-/
import Derived.Test.YtegffdmlkbdcdaaGdk
namespace Go.Proofs.Ytegffdmlkbdcdaa
open Go.ChangeShapes Go.WideShapes Go.ChangeAt Go.RowKit

theorem SI.later {B : Nat} {W wr w' : World} {g : GE} (h : SI B W g wr) (b : Below wr.heap.size wr w') : SI B W g w' := ⟨below_box b h.box, below_next h.below b (Nat.le_of_lt (box_lt h.box))⟩
set_option maxRecDepth 100000 in
set_option maxHeartbeats 16000000 in
theorem does_walk {W : World} {ck ep un se ki ak : Int} {lp : Option Addr} {lc n : Nat} {os : List CA} (hrow : CRow W lp lc os) (hn : os.length = n) (hb : n ≤ 4611686018427387904) :
    Calls Try.prog 3 #[.agg #[.int .i64 ck, .int .i64 ep, .int .i64 un, .int .i64 se, .int .i64 ki, .int .i64 ak], .slice lp n lc] W fun e w' => e = .returned (.bool true) ∧ Below W.heap.size W w' := by
  have i1 := hrow.le
  have i2 := hrow.top
  rw [hn] at i1
  have HROW := hide hrow
  have HN := hide hn
  clear hrow hn
  obtain ⟨V, hV⟩ : ∃ V, V = W.alloc (.cells #[.int .i64 ck, .int .i64 ep, .int .i64 un, .int .i64 se, .int .i64 ki, .int .i64 ak] 23 (0, 0)) := ⟨_, rfl⟩
  have hv : V.heap[W.heap.size]? = some (.cells #[.int .i64 ck, .int .i64 ep, .int .i64 un, .int .i64 se, .int .i64 ki, .int .i64 ak] 23 (0, 0)) := by rw [hV]; exact heap_alloc_new W _
  have hbv : Below W.heap.size W V := by rw [hV]; exact alloc_below _ _
  obtain ⟨B, hB⟩ : ∃ B, W.heap.size = B := ⟨_, rfl⟩
  have HBB := hide hB
  rw [hB] at hv hbv
  have HI0 : Hid (SI B W ⟨ck, ep, un, se, ki, ak⟩ V) := hide ⟨hv, hbv⟩
  rw [hB]
  go_enter Try.func3, Try.ntmps3
  go_upto_region 1 with fail
  rw [← hV]
  try rw [hB]
  clear hV hB hv hbv
  obtain ⟨_, _, _, _, _, _, u0, u1, u2, u3, u4, u5⟩ := six HI0.out.box
  simp only at u0 u1 u2 u3 u4 u5
  go_wp2_with fail
  refine begun_any.mono ?_
  rintro _ w1 ⟨rfl, b1⟩
  have HI1 : Hid (SI B W ⟨ck, ep, un, se, ki, ak⟩ w1) := hide ⟨below_box b1 HI0.out.box, below_next HI0.out.below b1 (Nat.le_of_lt (box_lt HI0.out.box))⟩
  clear b1 HI0 u0 u1 u2 u3 u4 u5
  go_wp2_with fail
  refine gnew_any.mono ?_
  simp only [GE.val, GE.row, zeroG]
  rintro _ w2 ⟨rfl, b1⟩
  have HI2 : Hid (SI B W ⟨ck, ep, un, se, ki, ak⟩ w2) := hide (HI1.out.later b1)
  have hw1 : IntKind.i64.wrap ((n : Int) + 1) = (n : Int) + 1 := by rw [IntKind.wrap_i64]; omega
  clear b1 HI1
  go_wp2_with fail
  go_loopw [5, 6, 17] (fun a c i wr => ∃ (k : Nat) (l : GE), k ≤ n + 1 ∧ i = .int .i64 (k : Int) ∧ Hid (SI B W l wr)) (fun _ _ i _ => n + 1 - (intOf i).toNat)
  case atStart => exact ⟨0, ⟨ck, ep, un, se, ki, ak⟩, Nat.zero_le _, rfl, HI2⟩
  case round =>
    obtain ⟨k, ⟨l0, l1, l2, l3, l4, l5⟩, hk, rfl, HI⟩ := hrel
    clear HI2
    obtain ⟨_, _, _, _, _, _, u0, u1, u2, u3, u4, u5⟩ := six HI.out.box
    simp only at u0 u1 u2 u3 u4 u5
    by_cases hlt : k < n + 1
    · have hc : decide ((k : Int) < (n : Int) + 1) = true := decide_eq_true (by omega)
      go_upto_region 6 with fail
      obtain ⟨cc, hcc⟩ : ∃ cc, chkG ⟨l0, l1, l2, l3, l4, l5⟩ = cc := ⟨_, rfl⟩
      obtain ⟨bl, hbl⟩ : ∃ bl, belG ⟨l0, l1, l2, l3, l4, l5⟩ = bl := ⟨_, rfl⟩
      obtain ⟨lf, hlf⟩ : ∃ lf, leftG ⟨l0, l1, l2, l3, l4, l5⟩ = lf := ⟨_, rfl⟩
      obtain ⟨du, hdu⟩ : ∃ du, dueG ⟨l0, l1, l2, l3, l4, l5⟩ = du := ⟨_, rfl⟩
      have HC := hide hcc
      have HBL := hide hbl
      have HLF := hide hlf
      have HDU := hide hdu
      clear hcc hbl hlf hdu
      have HI10 : Hid (SI B W ⟨l0, l1, l2, l3, l4, l5⟩ wr.drew) := hide ⟨HI.out.box, HI.out.below.trans ((Below.refl _ wr).drew.mono (Nat.le_of_lt (box_lt HI.out.box)))⟩
      refine wp_region_held_drew (S := fun w' => (w'.cell? ⟨B, 0, none⟩ = some (.int .i64 l0) ∧ w'.cell? ⟨B, 1, none⟩ = some (.int .i64 l1) ∧ w'.cell? ⟨B, 2, none⟩ = some (.int .i64 l2) ∧ w'.cell? ⟨B, 3, none⟩ = some (.int .i64 l3) ∧ w'.cell? ⟨B, 4, none⟩ = some (.int .i64 l4) ∧ w'.cell? ⟨B, 5, none⟩ = some (.int .i64 l5))) (by kernel_rfl) ⟨u0, u1, u2, u3, u4, u5⟩ (fun hHeld => ?_)
      refine wpAnyH_take (i := 0) (oi := _) (v := ?_) rfl (by kernel_rfl) (by kernel_rfl) (by kernel_rfl) (fun _ _ _ h => h) (Or.inl ⟨by kernel_rfl, ?_⟩) (by assumption) ?_
      rotate_left
      · intro w hSw
        (try dsimp only at hSw)
        go_simp
        all_goals with_reducible rfl
      simp only [Act.put]
      refine wpAnyH_take (i := 2) (oi := _) (v := ?_) rfl (by kernel_rfl) (by kernel_rfl) (by kernel_rfl) (fun _ _ _ h => h) (Or.inl ⟨by kernel_rfl, ?_⟩) (by assumption) ?_
      rotate_left
      · intro w hSw
        (try dsimp only at hSw)
        go_simp
        all_goals with_reducible rfl
      simp only [Act.put]
      refine wpAnyH_ready (rs := [1]) (by kernel_rfl) (by simp) ?_
      refine AllReadyH.cons (o := _) rfl (fun K hK => ?_) AllReadyH.nil
      go_simp
      refine gcheck_any.mono ?_
      rw [HC.out]
      rintro _ y11 ⟨rfl, b1⟩
      have HI11 := hide (HI10.out.later b1)
      clear b1 hHeld HI10 u0 u1 u2 u3 u4 u5
      obtain ⟨_, _, _, _, _, _, u0, u1, u2, u3, u4, u5⟩ := six HI11.out.box
      simp only at u0 u1 u2 u3 u4 u5
      go_wp2_with fail
      refine hK.out _ _ ⟨u0, u1, u2, u3, u4, u5⟩ (fun hHeld => ?_)
      clear hK
      refine wpAnyH_ready (rs := [3]) (by kernel_rfl) (by simp) ?_
      refine AllReadyH.cons (o := _) rfl (fun K hK => ?_) AllReadyH.nil
      go_simp
      refine rgcheck_any.mono ?_
      rw [HC.out]
      rintro _ y12 ⟨rfl, b1⟩
      have HI12 := hide (HI11.out.later b1)
      clear b1 hHeld HI11 u0 u1 u2 u3 u4 u5
      obtain ⟨_, _, _, _, _, _, u0, u1, u2, u3, u4, u5⟩ := six HI12.out.box
      simp only at u0 u1 u2 u3 u4 u5
      go_wp2_with fail
      refine hK.out _ _ ⟨u0, u1, u2, u3, u4, u5⟩ (fun hHeld => ?_)
      clear hK
      refine wpAnyH_take (i := 4) (oi := _) (v := ?_) rfl (by kernel_rfl) (by kernel_rfl) (by kernel_rfl) (fun _ _ _ h => h) (Or.inl ⟨by kernel_rfl, ?_⟩) (by assumption) ?_
      rotate_left
      · intro w hSw
        (try dsimp only at hSw)
        go_simp
        all_goals with_reducible rfl
      simp only [Act.put]
      refine wpAnyH_take (i := 5) (oi := _) (v := ?_) rfl (by kernel_rfl) (by kernel_rfl) (by kernel_rfl) (fun _ _ _ h => h) (Or.inl ⟨by kernel_rfl, ?_⟩) (by assumption) ?_
      rotate_left
      · intro w hSw
        (try dsimp only at hSw)
        go_simp
        all_goals with_reducible rfl
      simp only [Act.put]
      refine wpAnyH_take (i := 6) (oi := _) (v := ?_) rfl (by kernel_rfl) (by kernel_rfl) (by kernel_rfl) (fun _ _ _ h => h) (Or.inl ⟨by kernel_rfl, ?_⟩) (by assumption) ?_
      rotate_left
      · intro w hSw
        (try dsimp only at hSw)
        go_simp
        all_goals with_reducible rfl
      simp only [Act.put]
      refine wpAnyH_take (i := 8) (oi := _) (v := ?_) rfl (by kernel_rfl) (by kernel_rfl) (by kernel_rfl) (fun _ _ _ h => h) (Or.inl ⟨by kernel_rfl, ?_⟩) (by assumption) ?_
      rotate_left
      · intro w hSw
        (try dsimp only at hSw)
        go_simp
        all_goals with_reducible rfl
      simp only [Act.put]
      refine wpAnyH_ready (rs := [7]) (by kernel_rfl) (by simp) ?_
      refine AllReadyH.cons (o := _) rfl (fun K hK => ?_) AllReadyH.nil
      go_simp
      refine bel_any.mono ?_
      rw [HBL.out]
      rintro _ y13 ⟨rfl, b1⟩
      have HI13 := hide (HI12.out.later b1)
      clear b1 hHeld HI12 u0 u1 u2 u3 u4 u5
      obtain ⟨_, _, _, _, _, _, u0, u1, u2, u3, u4, u5⟩ := six HI13.out.box
      simp only at u0 u1 u2 u3 u4 u5
      go_wp2_with fail
      refine hK.out _ _ ⟨u0, u1, u2, u3, u4, u5⟩ (fun hHeld => ?_)
      clear hK
      refine wpAnyH_ready (rs := [9]) (by kernel_rfl) (by simp) ?_
      refine AllReadyH.cons (o := _) rfl (fun K hK => ?_) AllReadyH.nil
      go_simp
      refine rbel_any.mono ?_
      rw [HBL.out]
      rintro _ y14 ⟨rfl, b1⟩
      have HI14 := hide (HI13.out.later b1)
      clear b1 hHeld HI13 u0 u1 u2 u3 u4 u5
      obtain ⟨_, _, _, _, _, _, u0, u1, u2, u3, u4, u5⟩ := six HI14.out.box
      simp only at u0 u1 u2 u3 u4 u5
      go_wp2_with fail
      refine hK.out _ _ ⟨u0, u1, u2, u3, u4, u5⟩ (fun hHeld => ?_)
      clear hK
      refine wpAnyH_take (i := 10) (oi := _) (v := ?_) rfl (by kernel_rfl) (by kernel_rfl) (by kernel_rfl) (fun _ _ _ h => h) (Or.inl ⟨by kernel_rfl, ?_⟩) (by assumption) ?_
      rotate_left
      · intro w hSw
        (try dsimp only at hSw)
        go_simp
        all_goals with_reducible rfl
      simp only [Act.put]
      refine wpAnyH_take (i := 11) (oi := _) (v := ?_) rfl (by kernel_rfl) (by kernel_rfl) (by kernel_rfl) (fun _ _ _ h => h) (Or.inl ⟨by kernel_rfl, ?_⟩) (by assumption) ?_
      rotate_left
      · intro w hSw
        (try dsimp only at hSw)
        go_simp
        all_goals with_reducible rfl
      simp only [Act.put]
      refine wpAnyH_take (i := 12) (oi := _) (v := ?_) rfl (by kernel_rfl) (by kernel_rfl) (by kernel_rfl) (fun _ _ _ h => h) (Or.inl ⟨by kernel_rfl, ?_⟩) (by assumption) ?_
      rotate_left
      · intro w hSw
        (try dsimp only at hSw)
        go_simp
        all_goals with_reducible rfl
      simp only [Act.put]
      refine wpAnyH_take (i := 13) (oi := _) (v := ?_) rfl (by kernel_rfl) (by kernel_rfl) (by kernel_rfl) (fun _ _ _ h => h) (Or.inl ⟨by kernel_rfl, ?_⟩) (by assumption) ?_
      rotate_left
      · intro w hSw
        (try dsimp only at hSw)
        go_simp
        all_goals with_reducible rfl
      simp only [Act.put]
      refine wpAnyH_take (i := 15) (oi := _) (v := ?_) rfl (by kernel_rfl) (by kernel_rfl) (by kernel_rfl) (fun _ _ _ h => h) (Or.inl ⟨by kernel_rfl, ?_⟩) (by assumption) ?_
      rotate_left
      · intro w hSw
        (try dsimp only at hSw)
        go_simp
        all_goals with_reducible rfl
      simp only [Act.put]
      refine wpAnyH_ready (rs := [14]) (by kernel_rfl) (by simp) ?_
      refine AllReadyH.cons (o := _) rfl (fun K hK => ?_) AllReadyH.nil
      go_simp
      refine left_any.mono ?_
      rw [HLF.out]
      rintro _ y15 ⟨rfl, b1⟩
      have HI15 := hide (HI14.out.later b1)
      clear b1 hHeld HI14 u0 u1 u2 u3 u4 u5
      obtain ⟨_, _, _, _, _, _, u0, u1, u2, u3, u4, u5⟩ := six HI15.out.box
      simp only at u0 u1 u2 u3 u4 u5
      go_wp2_with fail
      refine hK.out _ _ ⟨u0, u1, u2, u3, u4, u5⟩ (fun hHeld => ?_)
      clear hK
      refine wpAnyH_ready (rs := [16]) (by kernel_rfl) (by simp) ?_
      refine AllReadyH.cons (o := _) rfl (fun K hK => ?_) AllReadyH.nil
      go_simp
      refine rleft_any.mono ?_
      rw [HLF.out]
      rintro _ y16 ⟨rfl, b1⟩
      have HI16 := hide (HI15.out.later b1)
      clear b1 hHeld HI15 u0 u1 u2 u3 u4 u5
      obtain ⟨_, _, _, _, _, _, u0, u1, u2, u3, u4, u5⟩ := six HI16.out.box
      simp only at u0 u1 u2 u3 u4 u5
      go_wp2_with fail
      refine hK.out _ _ ⟨u0, u1, u2, u3, u4, u5⟩ (fun hHeld => ?_)
      clear hK
      refine wpAnyH_take (i := 17) (oi := _) (v := ?_) rfl (by kernel_rfl) (by kernel_rfl) (by kernel_rfl) (fun _ _ _ h => h) (Or.inl ⟨by kernel_rfl, ?_⟩) (by assumption) ?_
      rotate_left
      · intro w hSw
        (try dsimp only at hSw)
        go_simp
        all_goals with_reducible rfl
      simp only [Act.put]
      refine wpAnyH_take (i := 18) (oi := _) (v := ?_) rfl (by kernel_rfl) (by kernel_rfl) (by kernel_rfl) (fun _ _ _ h => h) (Or.inl ⟨by kernel_rfl, ?_⟩) (by assumption) ?_
      rotate_left
      · intro w hSw
        (try dsimp only at hSw)
        go_simp
        all_goals with_reducible rfl
      simp only [Act.put]
      refine wpAnyH_take (i := 19) (oi := _) (v := ?_) rfl (by kernel_rfl) (by kernel_rfl) (by kernel_rfl) (fun _ _ _ h => h) (Or.inl ⟨by kernel_rfl, ?_⟩) (by assumption) ?_
      rotate_left
      · intro w hSw
        (try dsimp only at hSw)
        go_simp
        all_goals with_reducible rfl
      simp only [Act.put]
      refine wpAnyH_take (i := 20) (oi := _) (v := ?_) rfl (by kernel_rfl) (by kernel_rfl) (by kernel_rfl) (fun _ _ _ h => h) (Or.inl ⟨by kernel_rfl, ?_⟩) (by assumption) ?_
      rotate_left
      · intro w hSw
        (try dsimp only at hSw)
        go_simp
        all_goals with_reducible rfl
      simp only [Act.put]
      refine wpAnyH_take (i := 22) (oi := _) (v := ?_) rfl (by kernel_rfl) (by kernel_rfl) (by kernel_rfl) (fun _ _ _ h => h) (Or.inl ⟨by kernel_rfl, ?_⟩) (by assumption) ?_
      rotate_left
      · intro w hSw
        (try dsimp only at hSw)
        go_simp
        all_goals with_reducible rfl
      simp only [Act.put]
      refine wpAnyH_ready (rs := [21]) (by kernel_rfl) (by simp) ?_
      refine AllReadyH.cons (o := _) rfl (fun K hK => ?_) AllReadyH.nil
      go_simp
      refine due_any.mono ?_
      rw [HDU.out]
      rintro _ y17 ⟨rfl, b1⟩
      have HI17 := hide (HI16.out.later b1)
      clear b1 hHeld HI16 u0 u1 u2 u3 u4 u5
      obtain ⟨_, _, _, _, _, _, u0, u1, u2, u3, u4, u5⟩ := six HI17.out.box
      simp only at u0 u1 u2 u3 u4 u5
      go_wp2_with fail
      refine hK.out _ _ ⟨u0, u1, u2, u3, u4, u5⟩ (fun hHeld => ?_)
      clear hK
      refine wpAnyH_ready (rs := [23]) (by kernel_rfl) (by simp) ?_
      refine AllReadyH.cons (o := _) rfl (fun K hK => ?_) AllReadyH.nil
      go_simp
      refine rdue_any.mono ?_
      rw [HDU.out]
      rintro _ y18 ⟨rfl, b1⟩
      have HI18 := hide (HI17.out.later b1)
      clear b1 hHeld HI17 u0 u1 u2 u3 u4 u5
      obtain ⟨_, _, _, _, _, _, u0, u1, u2, u3, u4, u5⟩ := six HI18.out.box
      simp only at u0 u1 u2 u3 u4 u5
      go_wp2_with fail
      refine hK.out _ _ ⟨u0, u1, u2, u3, u4, u5⟩ (fun hHeld => ?_)
      clear hK
      refine wpAnyH_take (i := 24) (oi := _) (v := ?_) rfl (by kernel_rfl) (by kernel_rfl) (by kernel_rfl) (fun _ _ _ h => h) (Or.inl ⟨by kernel_rfl, ?_⟩) (by assumption) ?_
      rotate_left
      · intro w hSw
        (try dsimp only at hSw)
        go_simp
        all_goals with_reducible rfl
      simp only [Act.put]
      refine wpAnyH_take (i := 25) (oi := _) (v := ?_) rfl (by kernel_rfl) (by kernel_rfl) (by kernel_rfl) (fun _ _ _ h => h) (Or.inl ⟨by kernel_rfl, ?_⟩) (by assumption) ?_
      rotate_left
      · intro w hSw
        (try dsimp only at hSw)
        go_simp
        all_goals with_reducible rfl
      simp only [Act.put]
      refine wpAnyH_done (by kernel_rfl) ?_ _
      clear hHeld HI
      have HI := HI18
      clear HI18
      by_cases hlt1 : k < n
      · have hc2 : decide ((k : Int) < (n : Int)) = true := decide_eq_true (by omega)
        clear hc
        have hlt2 : k < os.length := by rw [HN.out]; exact hlt1
        obtain ⟨⟨dd, dn, ds, dw, de⟩, hx⟩ : ∃ x, os[k]! = x := ⟨_, rfl⟩
        obtain ⟨g, oo, rfl, a0, a1, a2, a3, a4⟩ := CRow.at HROW.out hlt2 hx
        have hgB : g < B := by rw [← HBB.out]; exact World.block_lt_of_cell? W _ a0
        have hne : g ≠ B := by omega
        have hne2 : B ≠ g := by omega
        have bw2 := HI.out.below
        rw [← HBB.out] at bw2
        have b0 := cell_laterL bw2 a0
        have b1 := cell_laterL bw2 a1
        have b2 := cell_laterL bw2 a2
        have b3 := cell_laterL bw2 a3
        have b4 := cell_laterL bw2 a4
        clear hx hlt2 bw2 hgB a0 a1 a2 a3 a4
        obtain ⟨⟨g0, g1, g2, g3, g4, g5⟩, hg⟩ : ∃ q, doesC ⟨l0, l1, l2, l3, l4, l5⟩ ⟨dd, dn, ds, dw, de⟩ = q := ⟨_, rfl⟩
        have HG := hide hg
        clear hg
        go_upto_region 10 with fail
        refine wp_region_held_drew (S := fun w' => w'.cell? ⟨g, oo + k * 5, none⟩ = some (.int .i64 dd) ∧ w'.cell? ⟨g, oo + k * 5 + 1, none⟩ = some (.int .i64 dn) ∧ w'.cell? ⟨g, oo + k * 5 + 2, none⟩ = some (.int .i64 ds) ∧ w'.cell? ⟨g, oo + k * 5 + 3, none⟩ = some (.bool dw) ∧ w'.cell? ⟨g, oo + k * 5 + 4, none⟩ = some (.int .i64 de)) (by kernel_rfl) ⟨b0, b1, b2, b3, b4⟩ (fun hHeld => ?_)
        refine wpAnyH_take (i := 1) (oi := _) (v := ?_) rfl (by kernel_rfl) (by kernel_rfl) (by kernel_rfl) (fun _ _ _ h => h) (Or.inl ⟨by kernel_rfl, ?_⟩) (by assumption) ?_
        rotate_left
        · intro w hSw
          (try dsimp only at hSw)
          go_simp
          all_goals with_reducible rfl
        simp only [Act.put]
        refine wpAnyH_take (i := 2) (oi := _) (v := ?_) rfl (by kernel_rfl) (by kernel_rfl) (by kernel_rfl) (fun _ _ _ h => h) (Or.inl ⟨by kernel_rfl, ?_⟩) (by assumption) ?_
        rotate_left
        · intro w hSw
          (try dsimp only at hSw)
          go_simp
          all_goals with_reducible rfl
        simp only [Act.put]
        refine wpAnyH_take (i := 3) (oi := _) (v := ?_) rfl (by kernel_rfl) (by kernel_rfl) (by kernel_rfl) (fun _ _ _ h => h) (Or.inl ⟨by kernel_rfl, ?_⟩) (by assumption) ?_
        rotate_left
        · intro w hSw
          (try dsimp only at hSw)
          go_simp
          all_goals with_reducible rfl
        simp only [Act.put]
        refine wpAnyH_take (i := 4) (oi := _) (v := ?_) rfl (by kernel_rfl) (by kernel_rfl) (by kernel_rfl) (fun _ _ _ h => h) (Or.inl ⟨by kernel_rfl, ?_⟩) (by assumption) ?_
        rotate_left
        · intro w hSw
          (try dsimp only at hSw)
          go_simp
          all_goals with_reducible rfl
        simp only [Act.put]
        refine wpAnyH_ready (rs := [0]) (by kernel_rfl) (by simp) ?_
        refine AllReadyH.cons (o := _) rfl (fun K hK => ?_) AllReadyH.nil
        go_simp
        refine hK.out _ _ hHeld (fun hHeld => ?_)
        clear hK
        refine wpAnyH_ready (rs := [5]) (by kernel_rfl) (by simp) ?_
        refine AllReadyH.cons (o := _) rfl (fun K hK => ?_) AllReadyH.nil
        go_simp
        refine does_any.mono ?_
        rw [HG.out]
        simp only [GE.val, GE.row]
        rintro _ y2 ⟨rfl, bb⟩
        have HC0' := cell_laterL (((Below.refl _ y18).drew).trans bb) b0
        have HC1' := cell_laterL (((Below.refl _ y18).drew).trans bb) b1
        have HC2' := cell_laterL (((Below.refl _ y18).drew).trans bb) b2
        have HC3' := cell_laterL (((Below.refl _ y18).drew).trans bb) b3
        have HC4' := cell_laterL (((Below.refl _ y18).drew).trans bb) b4
        have bb2 : Below y18.heap.size y18 y2 := (Below.refl _ y18).drew.trans bb
        have HI19 := hide (HI.out.later bb2)
        clear bb bb2 HI b0 b1 b2 b3 b4 hHeld u0 u1 u2 u3 u4 u5
        go_wp2_with fail
        have h19 : _ ∧ _ ∧ _ ∧ _ ∧ _ := ⟨HC0', HC1', HC2', HC3', HC4'⟩
        refine hK.out _ _ h19 (fun hHeld => ?_)
        clear hK
        refine wpAnyH_take (i := 6) (oi := _) (v := ?_) rfl (by kernel_rfl) (by kernel_rfl) (by kernel_rfl) (fun _ _ _ h => h) (Or.inl ⟨by kernel_rfl, ?_⟩) (by assumption) ?_
        rotate_left
        · intro w hSw
          (try dsimp only at hSw)
          go_simp
          all_goals with_reducible rfl
        simp only [Act.put]
        refine wpAnyH_take (i := 7) (oi := _) (v := ?_) rfl (by kernel_rfl) (by kernel_rfl) (by kernel_rfl) (fun _ _ _ h => h) (Or.inl ⟨by kernel_rfl, ?_⟩) (by assumption) ?_
        rotate_left
        · intro w hSw
          (try dsimp only at hSw)
          go_simp
          all_goals with_reducible rfl
        simp only [Act.put]
        refine wpAnyH_take (i := 8) (oi := _) (v := ?_) rfl (by kernel_rfl) (by kernel_rfl) (by kernel_rfl) (fun _ _ _ h => h) (Or.inl ⟨by kernel_rfl, ?_⟩) (by assumption) ?_
        rotate_left
        · intro w hSw
          (try dsimp only at hSw)
          go_simp
          all_goals with_reducible rfl
        simp only [Act.put]
        obtain ⟨q0, q1, q2, q3, q4⟩ := hHeld
        have hHeld2 := And.intro q0 (And.intro q1 (And.intro q2 (And.intro q3 q4)))
        obtain ⟨_, _, _, _, _, _, u0, u1, u2, u3, u4, u5⟩ := six HI19.out.box
        simp only at u0 u1 u2 u3 u4 u5
        refine wpAnyH_ready (rs := [9]) (by kernel_rfl) (by simp) ?_
        refine AllReadyH.cons (o := _) rfl (fun K hK => ?_) AllReadyH.nil
        go_simp
        obtain ⟨Z, hZ⟩ : ∃ Z, Z = ((((((y2.setCell ⟨B, 0, none⟩ (.int .i64 g0)).setCell ⟨B, 1, none⟩ (.int .i64 g1)).setCell ⟨B, 2, none⟩ (.int .i64 g2)).setCell ⟨B, 3, none⟩ (.int .i64 g3)).setCell ⟨B, 4, none⟩ (.int .i64 g4)).setCell ⟨B, 5, none⟩ (.int .i64 g5)) := ⟨_, rfl⟩
        have oZ : Only (· = B) y2 Z := by rw [hZ]; exact only_set6 y2 B (.int .i64 g0) (.int .i64 g1) (.int .i64 g2) (.int .i64 g3) (.int .i64 g4) (.int .i64 g5)
        have HNI : Hid (SI B W ⟨g0, g1, g2, g3, g4, g5⟩ Z) := hide ⟨by rw [hZ]; exact heap_set6 HI19.out.box (.int .i64 g0) (.int .i64 g1) (.int .i64 g2) (.int .i64 g3) (.int .i64 g4) (.int .i64 g5), HI19.out.below.trans (oZ.below (Nat.le_of_lt (box_lt HI19.out.box)) (fun i e => by have e' : i = B := e; omega))⟩
        have z0 := oZ.cell q0 hne
        have z1 := oZ.cell q1 hne
        have z2 := oZ.cell q2 hne
        have z3 := oZ.cell q3 hne
        have z4 := oZ.cell q4 hne
        rw [← hZ]
        clear hZ oZ hHeld2 q0 q1 q2 q3 q4 u0 u1 u2 u3 u4 u5 HI19
        refine hK.out _ _ ⟨z0, z1, z2, z3, z4⟩ (fun hHeld => ?_)
        clear hK
        refine wpAnyH_ready (rs := [10]) (by kernel_rfl) (by simp) ?_
        refine AllReadyH.cons (o := _) rfl (fun K hK => ?_) AllReadyH.nil
        go_simp
        refine hK.out _ _ hHeld (fun hHeld => ?_)
        clear hK
        refine wpAnyH_done (by kernel_rfl) ?_ _
        clear hHeld z0 z1 z2 z3 z4
        obtain ⟨_, _, _, _, _, _, u0, u1, u2, u3, u4, u5⟩ := six HNI.out.box
        simp only at u0 u1 u2 u3 u4 u5
        go_wp2
        go_round
        case rel => exact ⟨k + 1, ⟨g0, g1, g2, g3, g4, g5⟩, by omega, by first | rfl | go_num, HNI⟩
        case measure => simp [intOf]; omega
      · obtain rfl : k = n := by omega
        have hc2 : decide ((k : Int) < (k : Int)) = false := decide_eq_false (by omega)
        go_wp2
        go_round
        case rel => exact ⟨k + 1, ⟨l0, l1, l2, l3, l4, l5⟩, by omega, by first | rfl | go_num, HI⟩
        case measure => simp [intOf]
    · obtain rfl : k = n + 1 := by omega
      have HBW : Hid (Below B W wr) := hide HI.out.below
      clear HI u0 u1 u2 u3 u4 u5
      go_wp2
      go_ret
      exact ⟨rfl, HBW.out⟩
end Go.Proofs.Ytegffdmlkbdcdaa
