/-
  grant of package lease. The condition: that the lease may be.
-/
import Derived.Test.YthlkhjpobiohmaaLsd
namespace Go.Proofs.Ythlkhjpobiohmaa
open Go.RowKit

theorem drew2_heap {w : World} {b : Nat} {o : Obj} (h : w.heap[b]? = some o) : w.drew.drew.heap[b]? = some o := h
theorem below_drew2 {n : Nat} {A B : World} (h : Below n A B) : Below n A B.drew.drew := ⟨h.os, h.tape, h.output, h.size, h.block⟩

set_option maxRecDepth 100000 in
set_option maxHeartbeats 2000000 in
theorem grant_1 {W : World} {o la ep ck tl : Int} {so : Bool} {r : Int} (h1 : ep = 9007199254740992) :
    Calls Try.prog 48 #[.agg #[.int .i64 o, .int .i64 la, .int .i64 ep, .int .i64 ck, .int .i64 tl, .bool so], .int .i64 r] W fun e w' => e = .returned (.tuple #[LE.val (grantC ⟨o, la, ep, ck, tl, so⟩ r).1, .int .i64 (grantC ⟨o, la, ep, ck, tl, so⟩ r).2.1, .int .i64 (grantC ⟨o, la, ep, ck, tl, so⟩ r).2.2]) ∧ Below W.heap.size W w' := by
  have HQ : Hid (grantC ⟨o, la, ep, ck, tl, so⟩ r = (⟨o, la, ep, ck, tl, so⟩, 0, 6)) := hide (if_pos h1)
  subst h1
  obtain ⟨V0, hV0⟩ : ∃ V0, V0 = W.alloc (.cells #[.int .i64 o, .int .i64 la, .int .i64 9007199254740992, .int .i64 ck, .int .i64 tl, .bool so] 23 (0, 0)) := ⟨_, rfl⟩
  obtain ⟨V, hV⟩ : ∃ V, V = V0.alloc (.cells #[.int .i64 0, .int .i64 0, .int .i64 0, .int .i64 0, .int .i64 0, .bool false] 23 (0, 0)) := ⟨_, rfl⟩
  have bV0 : Below W.heap.size W V0 := by rw [hV0]; exact alloc_below _ _
  have bV1 : Below V0.heap.size V0 V := by rw [hV]; exact alloc_below _ _
  have v0 : V0.heap[W.heap.size]? = some (.cells #[.int .i64 o, .int .i64 la, .int .i64 9007199254740992, .int .i64 ck, .int .i64 tl, .bool so] 23 (0, 0)) := by rw [hV0]; exact heap_alloc_new W _
  have v1 : V.heap[V0.heap.size]? = some (.cells #[.int .i64 0, .int .i64 0, .int .i64 0, .int .i64 0, .int .i64 0, .bool false] 23 (0, 0)) := by rw [hV]; exact heap_alloc_new V0 _
  have v2 := below_box bV1 v0
  have hlt := box_lt v0
  have hs0 : V0.heap.size = W.heap.size + 1 := by rw [hV0]; simp
  obtain ⟨bB, hbB⟩ : ∃ bB, W.heap.size = bB := ⟨_, rfl⟩
  obtain ⟨rB, hrB⟩ : ∃ rB, V0.heap.size = rB := ⟨_, rfl⟩
  have hrb : bB + 1 = rB := by omega
  rw [hbB, hrB] at hlt
  rw [hbB] at v2
  rw [hrB] at v1
  have HBW0 : Hid (Below bB W V) := hide (by rw [← hbB]; exact below_next bV0 bV1 bV0.size)
  have HBX0 := hide v2
  have HRS0 := hide v1
  have HBB := hide hbB
  have HLT := hide hlt
  have HSZ0 := hide (box_lt v1)
  clear v0 v1 v2 bV0 bV1
  go_enter Try.func48, Try.ntmps48
  go_upto_region 1 with fail
  try rw [hbB]
  try rw [hrb]
  rw [← hV0, ← hV]
  try rw [hrB]
  clear hV0 hV hbB hrB hs0 hrb hlt
  obtain ⟨_, _, _, _, _, _, u0, u1, u2, u3, u4, u5⟩ := six HBX0.out
  obtain ⟨f0, f1, f2, f3, f4, f5, r0, r1, r2, r3, r4, r5⟩ := six HRS0.out
  go_wp2
  have hE := heap_set6 HRS0.out (.int .i64 o) (.int .i64 la) (.int .i64 9007199254740992) (.int .i64 ck) (.int .i64 tl) (.bool so)
  refine bodyPost_ret (results_cell_three rfl _ _ rB 23 _ _ _ rfl hE Try.underlying23 rfl (by kernel_rfl)) rfl ?_
  refine ⟨by rw [HQ.out]; rfl, ?_⟩
  rw [HBB.out]
  exact HBW0.out.trans ((only_set6 _ rB _ _ _ _ _ _).below (by have := HLT.out; have := HSZ0.out; omega) (fun i e => by have e' : i = rB := e; have := HLT.out; omega))

set_option maxRecDepth 100000 in
set_option maxHeartbeats 2000000 in
theorem grant_2 {W : World} {o la ep ck tl : Int}  {r : Int} (hk : okL ⟨o, la, ep, ck, tl, false⟩) (h1 : ep ≠ 9007199254740992) :
    Calls Try.prog 48 #[.agg #[.int .i64 o, .int .i64 la, .int .i64 ep, .int .i64 ck, .int .i64 tl, .bool false], .int .i64 r] W fun e w' => e = .returned (.tuple #[LE.val (grantC ⟨o, la, ep, ck, tl, false⟩ r).1, .int .i64 (grantC ⟨o, la, ep, ck, tl, false⟩ r).2.1, .int .i64 (grantC ⟨o, la, ep, ck, tl, false⟩ r).2.2]) ∧ Below W.heap.size W w' := by
  have HK : Hid (0 ≤ ck ∧ ck ≤ 9007199254740992) := hide (by have := hk; unfold okL at this; simp only at this; omega)
  have hew : IntKind.i64.wrap (ep + 1) = ep + 1 := by have := hk; unfold okL at this; simp only at this; rw [IntKind.wrap_i64]; omega
  obtain ⟨lc, hlc⟩ : ∃ lc, laterC ck 16 = lc := ⟨_, rfl⟩
  obtain ⟨ne, hne⟩ : ∃ ne, ep + 1 = ne := ⟨_, rfl⟩
  have HQ : Hid (grantC ⟨o, la, ep, ck, tl, false⟩ r = (⟨r, r, ne, ck, lc, false⟩, ne, 0)) := hide (by unfold grantC; rw [if_neg h1]; simp only [hlc, hne, Bool.false_and])
  have hew2 : IntKind.i64.wrap (ep + 1) = ne := hew.trans hne
  have HLC := hide hlc
  have d0 : (ep == 9007199254740992) = false := ne_eqL h1
  clear hlc h1 hk hew hne
  obtain ⟨V0, hV0⟩ : ∃ V0, V0 = W.alloc (.cells #[.int .i64 o, .int .i64 la, .int .i64 ep, .int .i64 ck, .int .i64 tl, .bool false] 23 (0, 0)) := ⟨_, rfl⟩
  obtain ⟨V, hV⟩ : ∃ V, V = V0.alloc (.cells #[.int .i64 0, .int .i64 0, .int .i64 0, .int .i64 0, .int .i64 0, .bool false] 23 (0, 0)) := ⟨_, rfl⟩
  have bV0 : Below W.heap.size W V0 := by rw [hV0]; exact alloc_below _ _
  have bV1 : Below V0.heap.size V0 V := by rw [hV]; exact alloc_below _ _
  have v0 : V0.heap[W.heap.size]? = some (.cells #[.int .i64 o, .int .i64 la, .int .i64 ep, .int .i64 ck, .int .i64 tl, .bool false] 23 (0, 0)) := by rw [hV0]; exact heap_alloc_new W _
  have v1 : V.heap[V0.heap.size]? = some (.cells #[.int .i64 0, .int .i64 0, .int .i64 0, .int .i64 0, .int .i64 0, .bool false] 23 (0, 0)) := by rw [hV]; exact heap_alloc_new V0 _
  have v2 := below_box bV1 v0
  have hlt := box_lt v0
  have hs0 : V0.heap.size = W.heap.size + 1 := by rw [hV0]; simp
  obtain ⟨bB, hbB⟩ : ∃ bB, W.heap.size = bB := ⟨_, rfl⟩
  obtain ⟨rB, hrB⟩ : ∃ rB, V0.heap.size = rB := ⟨_, rfl⟩
  have hrb : bB + 1 = rB := by omega
  rw [hbB, hrB] at hlt
  rw [hbB] at v2
  rw [hrB] at v1
  have HBW0 : Hid (Below bB W V) := hide (by rw [← hbB]; exact below_next bV0 bV1 bV0.size)
  have HBX0 := hide v2
  have HRS0 := hide v1
  have HBB := hide hbB
  have HLT := hide hlt
  have HSZ0 := hide (box_lt v1)
  clear v0 v1 v2 bV0 bV1
  go_enter Try.func48, Try.ntmps48
  go_upto_region 1 with fail
  try rw [hbB]
  try rw [hrb]
  rw [← hV0, ← hV]
  try rw [hrB]
  clear hV0 hV hbB hrB hs0 hrb hlt
  obtain ⟨_, _, _, _, _, _, u0, u1, u2, u3, u4, u5⟩ := six HBX0.out
  go_upto_region 3 with fail
  refine wp_region_held_drew (S := fun w' => w'.cell? ⟨bB, 1, none⟩ = some (.int .i64 la) ∧ w'.cell? ⟨bB, 2, none⟩ = some (.int .i64 ep) ∧ w'.cell? ⟨bB, 3, none⟩ = some (.int .i64 ck) ∧ w'.cell? ⟨bB, 5, none⟩ = some (.bool false)) (by kernel_rfl) ⟨u1, u2, u3, u5⟩ (fun hHeld => ?_)
  refine wpAnyH_take (i := 0) (oi := _) (v := ?_) rfl (by kernel_rfl) (by kernel_rfl) (by kernel_rfl) (fun _ _ _ h => h) (Or.inl ⟨by kernel_rfl, ?_⟩) (by assumption) ?_
  rotate_left
  · intro w hSw
    (try dsimp only at hSw)
    go_simp
    all_goals with_reducible rfl
  simp only [Act.put]
  refine wpAnyH_take (i := 1) (oi := _) (v := ?_) rfl (by kernel_rfl) (by kernel_rfl) (by kernel_rfl) (fun _ _ _ h => h) (Or.inl ⟨by kernel_rfl, ?_⟩) (by assumption) ?_
  rotate_left
  · intro w hSw
    (try dsimp only at hSw)
    go_simp
    all_goals with_reducible rfl
  simp only [Act.put]
  refine wpAnyH_take (i := 2) (oi := _) (v := ?_) rfl (by kernel_rfl) (by kernel_rfl) (by kernel_rfl) (fun _ _ _ h => h) (Or.inl ⟨by kernel_rfl, ?_⟩) (by assumption) ?_
  rotate_left
  · intro w hSw
    (try dsimp only at hSw)
    go_simp
    all_goals with_reducible rfl
  simp only [Act.put]
  refine wpAnyH_take (i := 3) (oi := _) (v := ?_) rfl (by kernel_rfl) (by kernel_rfl) (by kernel_rfl) (fun _ _ _ h => h) (Or.inl ⟨by kernel_rfl, ?_⟩) (by assumption) ?_
  rotate_left
  · intro w hSw
    (try dsimp only at hSw)
    go_simp
    all_goals with_reducible rfl
  simp only [Act.put]
  refine wpAnyH_take (i := 4) (oi := _) (v := ?_) rfl (by kernel_rfl) (by kernel_rfl) (by kernel_rfl) (fun _ _ _ h => h) (Or.inl ⟨by kernel_rfl, ?_⟩) (by assumption) ?_
  rotate_left
  · intro w hSw
    (try dsimp only at hSw)
    go_simp
    all_goals with_reducible rfl
  simp only [Act.put]
  refine wpAnyH_take (i := 5) (oi := _) (v := ?_) rfl (by kernel_rfl) (by kernel_rfl) (by kernel_rfl) (fun _ _ _ h => h) (Or.inl ⟨by kernel_rfl, ?_⟩) (by assumption) ?_
  rotate_left
  · intro w hSw
    (try dsimp only at hSw)
    go_simp
    all_goals with_reducible rfl
  simp only [Act.put]
  refine wpAnyH_take (i := 6) (oi := _) (v := ?_) rfl (by kernel_rfl) (by kernel_rfl) (by kernel_rfl) (fun _ _ _ h => h) (Or.inl ⟨by kernel_rfl, ?_⟩) (by assumption) ?_
  rotate_left
  · intro w hSw
    (try dsimp only at hSw)
    go_simp
    all_goals with_reducible rfl
  simp only [Act.put]
  refine wpAnyH_take (i := 7) (oi := _) (v := ?_) rfl (by kernel_rfl) (by kernel_rfl) (by kernel_rfl) (fun _ _ _ h => h) (Or.inl ⟨by kernel_rfl, ?_⟩) (by assumption) ?_
  rotate_left
  · intro w hSw
    (try dsimp only at hSw)
    go_simp
    all_goals with_reducible rfl
  simp only [Act.put]
  refine wpAnyH_take (i := 8) (oi := _) (v := ?_) rfl (by kernel_rfl) (by kernel_rfl) (by kernel_rfl) (fun _ _ _ h => h) (Or.inl ⟨by kernel_rfl, ?_⟩) (by assumption) ?_
  rotate_left
  · intro w hSw
    (try dsimp only at hSw)
    go_simp
    all_goals with_reducible rfl
  simp only [Act.put]
  refine wpAnyH_take (i := 10) (oi := _) (v := ?_) rfl (by kernel_rfl) (by kernel_rfl) (by kernel_rfl) (fun _ _ _ h => h) (Or.inl ⟨by kernel_rfl, ?_⟩) (by assumption) ?_
  rotate_left
  · intro w hSw
    (try dsimp only at hSw)
    go_simp
    all_goals with_reducible rfl
  simp only [Act.put]
  refine wpAnyH_take (i := 11) (oi := _) (v := ?_) rfl (by kernel_rfl) (by kernel_rfl) (by kernel_rfl) (fun _ _ _ h => h) (Or.inl ⟨by kernel_rfl, ?_⟩) (by assumption) ?_
  rotate_left
  · intro w hSw
    (try dsimp only at hSw)
    go_simp
    all_goals with_reducible rfl
  simp only [Act.put]
  refine wpAnyH_ready (rs := [9, 19]) (by kernel_rfl) (by simp) ?_
  refine AllReadyH.cons (o := _) rfl (fun K hK => ?_) (AllReadyH.cons (o := _) rfl (fun K hK => ?_) AllReadyH.nil)
  · go_simp
    refine (later_any HK.out.1 HK.out.2).mono ?_
    rw [HLC.out]
    rintro _ _ ⟨rfl, rfl⟩
    go_wp2_with fail
    refine hK.out _ _ hHeld (fun hHeld => ?_)
    clear hK
    refine wpAnyH_take (i := 12) (oi := _) (v := ?_) rfl (by kernel_rfl) (by kernel_rfl) (by kernel_rfl) (fun _ _ _ h => h) (Or.inl ⟨by kernel_rfl, ?_⟩) (by assumption) ?_
    rotate_left
    · intro w hSw
      (try dsimp only at hSw)
      go_simp
      all_goals with_reducible rfl
    simp only [Act.put]
    refine wpAnyH_take (i := 13) (oi := _) (v := undef) rfl (by kernel_rfl) (by kernel_rfl) (by kernel_rfl) (fun _ _ _ h => h) (Or.inr ⟨by kernel_rfl, rfl⟩) (by assumption) ?_
    simp only [Act.put]
    refine wpAnyH_take (i := 14) (oi := _) (v := undef) rfl (by kernel_rfl) (by kernel_rfl) (by kernel_rfl) (fun _ _ _ h => h) (Or.inr ⟨by kernel_rfl, rfl⟩) (by assumption) ?_
    simp only [Act.put]
    refine wpAnyH_take (i := 15) (oi := _) (v := undef) rfl (by kernel_rfl) (by kernel_rfl) (by kernel_rfl) (fun _ _ _ h => h) (Or.inr ⟨by kernel_rfl, rfl⟩) (by assumption) ?_
    simp only [Act.put]
    refine wpAnyH_take (i := 16) (oi := _) (v := undef) rfl (by kernel_rfl) (by kernel_rfl) (by kernel_rfl) (fun _ _ _ h => h) (Or.inr ⟨by kernel_rfl, rfl⟩) (by assumption) ?_
    simp only [Act.put]
    refine wpAnyH_take (i := 17) (oi := _) (v := ?_) rfl (by kernel_rfl) (by kernel_rfl) (by kernel_rfl) (fun _ _ _ h => h) (Or.inl ⟨by kernel_rfl, ?_⟩) (by assumption) ?_
    rotate_left
    · intro w hSw
      (try dsimp only at hSw)
      go_simp
      all_goals with_reducible rfl
    simp only [Act.put]
    refine wpAnyH_take (i := 18) (oi := _) (v := ?_) rfl (by kernel_rfl) (by kernel_rfl) (by kernel_rfl) (fun _ _ _ h => h) (Or.inl ⟨by kernel_rfl, ?_⟩) (by assumption) ?_
    rotate_left
    · intro w hSw
      (try dsimp only at hSw)
      go_simp
      all_goals with_reducible rfl
    simp only [Act.put]
    refine wpAnyH_ready (rs := [19]) (by kernel_rfl) (by simp) ?_
    refine AllReadyH.cons (o := _) rfl (fun K hK => ?_) AllReadyH.nil
    go_simp
    refine hK.out _ _ (by go_keep) (fun hHeld => ?_)
    clear hK
    refine wpAnyH_ready (rs := [20]) (by kernel_rfl) (by simp) ?_
    refine AllReadyH.cons (o := _) rfl (fun K hK => ?_) AllReadyH.nil
    go_simp
    refine hK.out _ _ (by go_keep) (fun hHeld => ?_)
    clear hK
    refine wpAnyH_done (by kernel_rfl) ?_ _
    go_upto_region 4 with fail
    obtain ⟨X, hX⟩ : ∃ X, X = V.alloc (.cells #[.int .i64 r, .int .i64 r, .int .i64 ne, .int .i64 ck, .int .i64 lc, .bool false] 23 (0, 0)) := ⟨_, rfl⟩
    rw [← hX]
    have bX : Below V.heap.size V X := by rw [hX]; exact alloc_below _ _
    obtain ⟨tB, htB⟩ : ∃ tB, V.heap.size = tB := ⟨_, rfl⟩
    have hn1 : X.heap[tB]? = some (.cells #[.int .i64 r, .int .i64 r, .int .i64 ne, .int .i64 ck, .int .i64 lc, .bool false] 23 (0, 0)) := by rw [hX, ← htB]; exact heap_alloc_new V _
    have HRS1 := hide (below_box bX HRS0.out)
    have HTR : Hid (rB < tB) := hide (by rw [← htB]; exact HSZ0.out)
    have HBW1 := hide (below_next HBW0.out bX (by have := HLT.out; have := HSZ0.out; omega))
    try rw [htB]
    have HN1 := hide hn1
    clear u0 u1 u2 u3 u4 u5 hX bX hn1 htB hHeld
    have HSX := hide (box_lt HRS1.out)
    obtain ⟨_, _, _, _, _, _, v0, v1, v2, v3, v4, v5⟩ := six HN1.out
    obtain ⟨f0, f1, f2, f3, f4, f5, r0, r1, r2, r3, r4, r5⟩ := six HRS1.out
    have hne1 : rB ≠ tB := by have := HTR.out; omega
    have hne2 : tB ≠ rB := by have := HTR.out; omega
    go_region_held3 (fun w' => w'.cell? ⟨tB, 0, none⟩ = some (.int .i64 r) ∧ w'.cell? ⟨tB, 1, none⟩ = some (.int .i64 r) ∧ w'.cell? ⟨tB, 2, none⟩ = some (.int .i64 ne) ∧ w'.cell? ⟨tB, 3, none⟩ = some (.int .i64 ck) ∧ w'.cell? ⟨tB, 4, none⟩ = some (.int .i64 lc) ∧ w'.cell? ⟨tB, 5, none⟩ = some (.bool false)) (go_keep) (fail)
    go_wp2
    have hE := heap_set6 HRS1.out (.int .i64 r) (.int .i64 r) (.int .i64 ne) (.int .i64 ck) (.int .i64 lc) (.bool false)
    have hE2 := drew2_heap hE
    clear hE
    refine bodyPost_ret (results_cell_three rfl _ _ rB 23 _ _ _ rfl hE2 Try.underlying23 rfl (by kernel_rfl)) rfl ?_
    refine ⟨by rw [HQ.out]; rfl, ?_⟩
    rw [HBB.out]
    exact below_drew2 (HBW1.out.trans ((only_set6 _ rB _ _ _ _ _ _).below (by have := HLT.out; have := HSX.out; omega) (fun i e => by have e' : i = rB := e; have := HLT.out; omega)))
  · go_simp
    refine hK.out _ _ (by go_keep) (fun hHeld => ?_)
    clear hK
    refine wpAnyH_ready (rs := [9]) (by kernel_rfl) (by simp) ?_
    refine AllReadyH.cons (o := _) rfl (fun K hK => ?_) AllReadyH.nil
    go_simp
    refine (later_any HK.out.1 HK.out.2).mono ?_
    rw [HLC.out]
    rintro _ _ ⟨rfl, rfl⟩
    go_wp2_with fail
    refine hK.out _ _ hHeld (fun hHeld => ?_)
    clear hK
    refine wpAnyH_take (i := 12) (oi := _) (v := ?_) rfl (by kernel_rfl) (by kernel_rfl) (by kernel_rfl) (fun _ _ _ h => h) (Or.inl ⟨by kernel_rfl, ?_⟩) (by assumption) ?_
    rotate_left
    · intro w hSw
      (try dsimp only at hSw)
      go_simp
      all_goals with_reducible rfl
    simp only [Act.put]
    refine wpAnyH_take (i := 13) (oi := _) (v := undef) rfl (by kernel_rfl) (by kernel_rfl) (by kernel_rfl) (fun _ _ _ h => h) (Or.inr ⟨by kernel_rfl, rfl⟩) (by assumption) ?_
    simp only [Act.put]
    refine wpAnyH_take (i := 14) (oi := _) (v := undef) rfl (by kernel_rfl) (by kernel_rfl) (by kernel_rfl) (fun _ _ _ h => h) (Or.inr ⟨by kernel_rfl, rfl⟩) (by assumption) ?_
    simp only [Act.put]
    refine wpAnyH_take (i := 15) (oi := _) (v := undef) rfl (by kernel_rfl) (by kernel_rfl) (by kernel_rfl) (fun _ _ _ h => h) (Or.inr ⟨by kernel_rfl, rfl⟩) (by assumption) ?_
    simp only [Act.put]
    refine wpAnyH_take (i := 16) (oi := _) (v := undef) rfl (by kernel_rfl) (by kernel_rfl) (by kernel_rfl) (fun _ _ _ h => h) (Or.inr ⟨by kernel_rfl, rfl⟩) (by assumption) ?_
    simp only [Act.put]
    refine wpAnyH_take (i := 17) (oi := _) (v := ?_) rfl (by kernel_rfl) (by kernel_rfl) (by kernel_rfl) (fun _ _ _ h => h) (Or.inl ⟨by kernel_rfl, ?_⟩) (by assumption) ?_
    rotate_left
    · intro w hSw
      (try dsimp only at hSw)
      go_simp
      all_goals with_reducible rfl
    simp only [Act.put]
    refine wpAnyH_take (i := 18) (oi := _) (v := ?_) rfl (by kernel_rfl) (by kernel_rfl) (by kernel_rfl) (fun _ _ _ h => h) (Or.inl ⟨by kernel_rfl, ?_⟩) (by assumption) ?_
    rotate_left
    · intro w hSw
      (try dsimp only at hSw)
      go_simp
      all_goals with_reducible rfl
    simp only [Act.put]
    refine wpAnyH_ready (rs := [20]) (by kernel_rfl) (by simp) ?_
    refine AllReadyH.cons (o := _) rfl (fun K hK => ?_) AllReadyH.nil
    go_simp
    refine hK.out _ _ (by go_keep) (fun hHeld => ?_)
    clear hK
    refine wpAnyH_done (by kernel_rfl) ?_ _
    go_upto_region 4 with fail
    obtain ⟨X, hX⟩ : ∃ X, X = V.alloc (.cells #[.int .i64 r, .int .i64 r, .int .i64 ne, .int .i64 ck, .int .i64 lc, .bool false] 23 (0, 0)) := ⟨_, rfl⟩
    rw [← hX]
    have bX : Below V.heap.size V X := by rw [hX]; exact alloc_below _ _
    obtain ⟨tB, htB⟩ : ∃ tB, V.heap.size = tB := ⟨_, rfl⟩
    have hn1 : X.heap[tB]? = some (.cells #[.int .i64 r, .int .i64 r, .int .i64 ne, .int .i64 ck, .int .i64 lc, .bool false] 23 (0, 0)) := by rw [hX, ← htB]; exact heap_alloc_new V _
    have HRS1 := hide (below_box bX HRS0.out)
    have HTR : Hid (rB < tB) := hide (by rw [← htB]; exact HSZ0.out)
    have HBW1 := hide (below_next HBW0.out bX (by have := HLT.out; have := HSZ0.out; omega))
    try rw [htB]
    have HN1 := hide hn1
    clear u0 u1 u2 u3 u4 u5 hX bX hn1 htB hHeld
    have HSX := hide (box_lt HRS1.out)
    obtain ⟨_, _, _, _, _, _, v0, v1, v2, v3, v4, v5⟩ := six HN1.out
    obtain ⟨f0, f1, f2, f3, f4, f5, r0, r1, r2, r3, r4, r5⟩ := six HRS1.out
    have hne1 : rB ≠ tB := by have := HTR.out; omega
    have hne2 : tB ≠ rB := by have := HTR.out; omega
    go_region_held3 (fun w' => w'.cell? ⟨tB, 0, none⟩ = some (.int .i64 r) ∧ w'.cell? ⟨tB, 1, none⟩ = some (.int .i64 r) ∧ w'.cell? ⟨tB, 2, none⟩ = some (.int .i64 ne) ∧ w'.cell? ⟨tB, 3, none⟩ = some (.int .i64 ck) ∧ w'.cell? ⟨tB, 4, none⟩ = some (.int .i64 lc) ∧ w'.cell? ⟨tB, 5, none⟩ = some (.bool false)) (go_keep) (fail)
    go_wp2
    have hE := heap_set6 HRS1.out (.int .i64 r) (.int .i64 r) (.int .i64 ne) (.int .i64 ck) (.int .i64 lc) (.bool false)
    have hE2 := drew2_heap hE
    clear hE
    refine bodyPost_ret (results_cell_three rfl _ _ rB 23 _ _ _ rfl hE2 Try.underlying23 rfl (by kernel_rfl)) rfl ?_
    refine ⟨by rw [HQ.out]; rfl, ?_⟩
    rw [HBB.out]
    exact below_drew2 (HBW1.out.trans ((only_set6 _ rB _ _ _ _ _ _).below (by have := HLT.out; have := HSX.out; omega) (fun i e => by have e' : i = rB := e; have := HLT.out; omega)))

set_option maxRecDepth 100000 in
set_option maxHeartbeats 2000000 in
theorem grant_3 {W : World} {o la ep ck tl : Int}  {r : Int} (hk : okL ⟨o, la, ep, ck, tl, true⟩) (h1 : ep ≠ 9007199254740992) (h2 : la = r) :
    Calls Try.prog 48 #[.agg #[.int .i64 o, .int .i64 la, .int .i64 ep, .int .i64 ck, .int .i64 tl, .bool true], .int .i64 r] W fun e w' => e = .returned (.tuple #[LE.val (grantC ⟨o, la, ep, ck, tl, true⟩ r).1, .int .i64 (grantC ⟨o, la, ep, ck, tl, true⟩ r).2.1, .int .i64 (grantC ⟨o, la, ep, ck, tl, true⟩ r).2.2]) ∧ Below W.heap.size W w' := by
  have HK : Hid (0 ≤ ck ∧ ck ≤ 9007199254740992) := hide (by have := hk; unfold okL at this; simp only at this; omega)
  have hew : IntKind.i64.wrap (ep + 1) = ep + 1 := by have := hk; unfold okL at this; simp only at this; rw [IntKind.wrap_i64]; omega
  obtain ⟨lc, hlc⟩ : ∃ lc, laterC ck 16 = lc := ⟨_, rfl⟩
  obtain ⟨ne, hne⟩ : ∃ ne, ep + 1 = ne := ⟨_, rfl⟩
  have HQ : Hid (grantC ⟨o, la, ep, ck, tl, true⟩ r = (⟨r, r, ne, ck, lc, true⟩, ne, 0)) := hide (by unfold grantC; rw [if_neg h1]; simp only [hlc, hne, h2, decide_true, Bool.true_and])
  have hew2 : IntKind.i64.wrap (ep + 1) = ne := hew.trans hne
  have HLC := hide hlc
  have d0 : (ep == 9007199254740992) = false := ne_eqL h1
  subst h2
  clear hlc h1 hk hew hne
  obtain ⟨V0, hV0⟩ : ∃ V0, V0 = W.alloc (.cells #[.int .i64 o, .int .i64 la, .int .i64 ep, .int .i64 ck, .int .i64 tl, .bool true] 23 (0, 0)) := ⟨_, rfl⟩
  obtain ⟨V, hV⟩ : ∃ V, V = V0.alloc (.cells #[.int .i64 0, .int .i64 0, .int .i64 0, .int .i64 0, .int .i64 0, .bool false] 23 (0, 0)) := ⟨_, rfl⟩
  have bV0 : Below W.heap.size W V0 := by rw [hV0]; exact alloc_below _ _
  have bV1 : Below V0.heap.size V0 V := by rw [hV]; exact alloc_below _ _
  have v0 : V0.heap[W.heap.size]? = some (.cells #[.int .i64 o, .int .i64 la, .int .i64 ep, .int .i64 ck, .int .i64 tl, .bool true] 23 (0, 0)) := by rw [hV0]; exact heap_alloc_new W _
  have v1 : V.heap[V0.heap.size]? = some (.cells #[.int .i64 0, .int .i64 0, .int .i64 0, .int .i64 0, .int .i64 0, .bool false] 23 (0, 0)) := by rw [hV]; exact heap_alloc_new V0 _
  have v2 := below_box bV1 v0
  have hlt := box_lt v0
  have hs0 : V0.heap.size = W.heap.size + 1 := by rw [hV0]; simp
  obtain ⟨bB, hbB⟩ : ∃ bB, W.heap.size = bB := ⟨_, rfl⟩
  obtain ⟨rB, hrB⟩ : ∃ rB, V0.heap.size = rB := ⟨_, rfl⟩
  have hrb : bB + 1 = rB := by omega
  rw [hbB, hrB] at hlt
  rw [hbB] at v2
  rw [hrB] at v1
  have HBW0 : Hid (Below bB W V) := hide (by rw [← hbB]; exact below_next bV0 bV1 bV0.size)
  have HBX0 := hide v2
  have HRS0 := hide v1
  have HBB := hide hbB
  have HLT := hide hlt
  have HSZ0 := hide (box_lt v1)
  clear v0 v1 v2 bV0 bV1
  go_enter Try.func48, Try.ntmps48
  go_upto_region 1 with fail
  try rw [hbB]
  try rw [hrb]
  rw [← hV0, ← hV]
  try rw [hrB]
  clear hV0 hV hbB hrB hs0 hrb hlt
  obtain ⟨_, _, _, _, _, _, u0, u1, u2, u3, u4, u5⟩ := six HBX0.out
  go_upto_region 3 with fail
  refine wp_region_held_drew (S := fun w' => w'.cell? ⟨bB, 1, none⟩ = some (.int .i64 la) ∧ w'.cell? ⟨bB, 2, none⟩ = some (.int .i64 ep) ∧ w'.cell? ⟨bB, 3, none⟩ = some (.int .i64 ck) ∧ w'.cell? ⟨bB, 5, none⟩ = some (.bool true)) (by kernel_rfl) ⟨u1, u2, u3, u5⟩ (fun hHeld => ?_)
  refine wpAnyH_take (i := 0) (oi := _) (v := ?_) rfl (by kernel_rfl) (by kernel_rfl) (by kernel_rfl) (fun _ _ _ h => h) (Or.inl ⟨by kernel_rfl, ?_⟩) (by assumption) ?_
  rotate_left
  · intro w hSw
    (try dsimp only at hSw)
    go_simp
    all_goals with_reducible rfl
  simp only [Act.put]
  refine wpAnyH_take (i := 1) (oi := _) (v := ?_) rfl (by kernel_rfl) (by kernel_rfl) (by kernel_rfl) (fun _ _ _ h => h) (Or.inl ⟨by kernel_rfl, ?_⟩) (by assumption) ?_
  rotate_left
  · intro w hSw
    (try dsimp only at hSw)
    go_simp
    all_goals with_reducible rfl
  simp only [Act.put]
  refine wpAnyH_take (i := 2) (oi := _) (v := ?_) rfl (by kernel_rfl) (by kernel_rfl) (by kernel_rfl) (fun _ _ _ h => h) (Or.inl ⟨by kernel_rfl, ?_⟩) (by assumption) ?_
  rotate_left
  · intro w hSw
    (try dsimp only at hSw)
    go_simp
    all_goals with_reducible rfl
  simp only [Act.put]
  refine wpAnyH_take (i := 3) (oi := _) (v := ?_) rfl (by kernel_rfl) (by kernel_rfl) (by kernel_rfl) (fun _ _ _ h => h) (Or.inl ⟨by kernel_rfl, ?_⟩) (by assumption) ?_
  rotate_left
  · intro w hSw
    (try dsimp only at hSw)
    go_simp
    all_goals with_reducible rfl
  simp only [Act.put]
  refine wpAnyH_take (i := 4) (oi := _) (v := ?_) rfl (by kernel_rfl) (by kernel_rfl) (by kernel_rfl) (fun _ _ _ h => h) (Or.inl ⟨by kernel_rfl, ?_⟩) (by assumption) ?_
  rotate_left
  · intro w hSw
    (try dsimp only at hSw)
    go_simp
    all_goals with_reducible rfl
  simp only [Act.put]
  refine wpAnyH_take (i := 5) (oi := _) (v := ?_) rfl (by kernel_rfl) (by kernel_rfl) (by kernel_rfl) (fun _ _ _ h => h) (Or.inl ⟨by kernel_rfl, ?_⟩) (by assumption) ?_
  rotate_left
  · intro w hSw
    (try dsimp only at hSw)
    go_simp
    all_goals with_reducible rfl
  simp only [Act.put]
  refine wpAnyH_take (i := 6) (oi := _) (v := ?_) rfl (by kernel_rfl) (by kernel_rfl) (by kernel_rfl) (fun _ _ _ h => h) (Or.inl ⟨by kernel_rfl, ?_⟩) (by assumption) ?_
  rotate_left
  · intro w hSw
    (try dsimp only at hSw)
    go_simp
    all_goals with_reducible rfl
  simp only [Act.put]
  refine wpAnyH_take (i := 7) (oi := _) (v := ?_) rfl (by kernel_rfl) (by kernel_rfl) (by kernel_rfl) (fun _ _ _ h => h) (Or.inl ⟨by kernel_rfl, ?_⟩) (by assumption) ?_
  rotate_left
  · intro w hSw
    (try dsimp only at hSw)
    go_simp
    all_goals with_reducible rfl
  simp only [Act.put]
  refine wpAnyH_take (i := 8) (oi := _) (v := ?_) rfl (by kernel_rfl) (by kernel_rfl) (by kernel_rfl) (fun _ _ _ h => h) (Or.inl ⟨by kernel_rfl, ?_⟩) (by assumption) ?_
  rotate_left
  · intro w hSw
    (try dsimp only at hSw)
    go_simp
    all_goals with_reducible rfl
  simp only [Act.put]
  refine wpAnyH_take (i := 10) (oi := _) (v := ?_) rfl (by kernel_rfl) (by kernel_rfl) (by kernel_rfl) (fun _ _ _ h => h) (Or.inl ⟨by kernel_rfl, ?_⟩) (by assumption) ?_
  rotate_left
  · intro w hSw
    (try dsimp only at hSw)
    go_simp
    all_goals with_reducible rfl
  simp only [Act.put]
  refine wpAnyH_take (i := 11) (oi := _) (v := ?_) rfl (by kernel_rfl) (by kernel_rfl) (by kernel_rfl) (fun _ _ _ h => h) (Or.inl ⟨by kernel_rfl, ?_⟩) (by assumption) ?_
  rotate_left
  · intro w hSw
    (try dsimp only at hSw)
    go_simp
    all_goals with_reducible rfl
  simp only [Act.put]
  refine wpAnyH_ready (rs := [9, 19]) (by kernel_rfl) (by simp) ?_
  refine AllReadyH.cons (o := _) rfl (fun K hK => ?_) (AllReadyH.cons (o := _) rfl (fun K hK => ?_) AllReadyH.nil)
  · go_simp
    refine (later_any HK.out.1 HK.out.2).mono ?_
    rw [HLC.out]
    rintro _ _ ⟨rfl, rfl⟩
    go_wp2_with fail
    refine hK.out _ _ hHeld (fun hHeld => ?_)
    clear hK
    refine wpAnyH_take (i := 12) (oi := _) (v := ?_) rfl (by kernel_rfl) (by kernel_rfl) (by kernel_rfl) (fun _ _ _ h => h) (Or.inl ⟨by kernel_rfl, ?_⟩) (by assumption) ?_
    rotate_left
    · intro w hSw
      (try dsimp only at hSw)
      go_simp
      all_goals with_reducible rfl
    simp only [Act.put]
    refine wpAnyH_take (i := 13) (oi := _) (v := ?_) rfl (by kernel_rfl) (by kernel_rfl) (by kernel_rfl) (fun _ _ _ h => h) (Or.inl ⟨by kernel_rfl, ?_⟩) (by assumption) ?_
    rotate_left
    · intro w hSw
      (try dsimp only at hSw)
      go_simp
      all_goals with_reducible rfl
    simp only [Act.put]
    refine wpAnyH_take (i := 14) (oi := _) (v := ?_) rfl (by kernel_rfl) (by kernel_rfl) (by kernel_rfl) (fun _ _ _ h => h) (Or.inl ⟨by kernel_rfl, ?_⟩) (by assumption) ?_
    rotate_left
    · intro w hSw
      (try dsimp only at hSw)
      go_simp
      all_goals with_reducible rfl
    simp only [Act.put]
    refine wpAnyH_take (i := 15) (oi := _) (v := ?_) rfl (by kernel_rfl) (by kernel_rfl) (by kernel_rfl) (fun _ _ _ h => h) (Or.inl ⟨by kernel_rfl, ?_⟩) (by assumption) ?_
    rotate_left
    · intro w hSw
      (try dsimp only at hSw)
      go_simp
      all_goals with_reducible rfl
    simp only [Act.put]
    refine wpAnyH_take (i := 16) (oi := _) (v := ?_) rfl (by kernel_rfl) (by kernel_rfl) (by kernel_rfl) (fun _ _ _ h => h) (Or.inl ⟨by kernel_rfl, ?_⟩) (by assumption) ?_
    rotate_left
    · intro w hSw
      (try dsimp only at hSw)
      go_simp
      all_goals with_reducible rfl
    simp only [Act.put]
    refine wpAnyH_take (i := 17) (oi := _) (v := ?_) rfl (by kernel_rfl) (by kernel_rfl) (by kernel_rfl) (fun _ _ _ h => h) (Or.inl ⟨by kernel_rfl, ?_⟩) (by assumption) ?_
    rotate_left
    · intro w hSw
      (try dsimp only at hSw)
      go_simp
      all_goals with_reducible rfl
    simp only [Act.put]
    refine wpAnyH_take (i := 18) (oi := _) (v := ?_) rfl (by kernel_rfl) (by kernel_rfl) (by kernel_rfl) (fun _ _ _ h => h) (Or.inl ⟨by kernel_rfl, ?_⟩) (by assumption) ?_
    rotate_left
    · intro w hSw
      (try dsimp only at hSw)
      go_simp
      all_goals with_reducible rfl
    simp only [Act.put]
    refine wpAnyH_ready (rs := [19]) (by kernel_rfl) (by simp) ?_
    refine AllReadyH.cons (o := _) rfl (fun K hK => ?_) AllReadyH.nil
    go_simp
    refine hK.out _ _ (by go_keep) (fun hHeld => ?_)
    clear hK
    refine wpAnyH_ready (rs := [20]) (by kernel_rfl) (by simp) ?_
    refine AllReadyH.cons (o := _) rfl (fun K hK => ?_) AllReadyH.nil
    go_simp
    refine hK.out _ _ (by go_keep) (fun hHeld => ?_)
    clear hK
    refine wpAnyH_done (by kernel_rfl) ?_ _
    go_upto_region 4 with fail
    obtain ⟨X, hX⟩ : ∃ X, X = V.alloc (.cells #[.int .i64 la, .int .i64 la, .int .i64 ne, .int .i64 ck, .int .i64 lc, .bool true] 23 (0, 0)) := ⟨_, rfl⟩
    rw [← hX]
    have bX : Below V.heap.size V X := by rw [hX]; exact alloc_below _ _
    obtain ⟨tB, htB⟩ : ∃ tB, V.heap.size = tB := ⟨_, rfl⟩
    have hn1 : X.heap[tB]? = some (.cells #[.int .i64 la, .int .i64 la, .int .i64 ne, .int .i64 ck, .int .i64 lc, .bool true] 23 (0, 0)) := by rw [hX, ← htB]; exact heap_alloc_new V _
    have HRS1 := hide (below_box bX HRS0.out)
    have HTR : Hid (rB < tB) := hide (by rw [← htB]; exact HSZ0.out)
    have HBW1 := hide (below_next HBW0.out bX (by have := HLT.out; have := HSZ0.out; omega))
    try rw [htB]
    have HN1 := hide hn1
    clear u0 u1 u2 u3 u4 u5 hX bX hn1 htB hHeld
    have HSX := hide (box_lt HRS1.out)
    obtain ⟨_, _, _, _, _, _, v0, v1, v2, v3, v4, v5⟩ := six HN1.out
    obtain ⟨f0, f1, f2, f3, f4, f5, r0, r1, r2, r3, r4, r5⟩ := six HRS1.out
    have hne1 : rB ≠ tB := by have := HTR.out; omega
    have hne2 : tB ≠ rB := by have := HTR.out; omega
    go_region_held3 (fun w' => w'.cell? ⟨tB, 0, none⟩ = some (.int .i64 la) ∧ w'.cell? ⟨tB, 1, none⟩ = some (.int .i64 la) ∧ w'.cell? ⟨tB, 2, none⟩ = some (.int .i64 ne) ∧ w'.cell? ⟨tB, 3, none⟩ = some (.int .i64 ck) ∧ w'.cell? ⟨tB, 4, none⟩ = some (.int .i64 lc) ∧ w'.cell? ⟨tB, 5, none⟩ = some (.bool true)) (go_keep) (fail)
    go_wp2
    have hE := heap_set6 HRS1.out (.int .i64 la) (.int .i64 la) (.int .i64 ne) (.int .i64 ck) (.int .i64 lc) (.bool true)
    have hE2 := drew2_heap hE
    clear hE
    refine bodyPost_ret (results_cell_three rfl _ _ rB 23 _ _ _ rfl hE2 Try.underlying23 rfl (by kernel_rfl)) rfl ?_
    refine ⟨by rw [HQ.out]; rfl, ?_⟩
    rw [HBB.out]
    exact below_drew2 (HBW1.out.trans ((only_set6 _ rB _ _ _ _ _ _).below (by have := HLT.out; have := HSX.out; omega) (fun i e => by have e' : i = rB := e; have := HLT.out; omega)))
  · go_simp
    refine hK.out _ _ (by go_keep) (fun hHeld => ?_)
    clear hK
    refine wpAnyH_ready (rs := [9]) (by kernel_rfl) (by simp) ?_
    refine AllReadyH.cons (o := _) rfl (fun K hK => ?_) AllReadyH.nil
    go_simp
    refine (later_any HK.out.1 HK.out.2).mono ?_
    rw [HLC.out]
    rintro _ _ ⟨rfl, rfl⟩
    go_wp2_with fail
    refine hK.out _ _ hHeld (fun hHeld => ?_)
    clear hK
    refine wpAnyH_take (i := 12) (oi := _) (v := ?_) rfl (by kernel_rfl) (by kernel_rfl) (by kernel_rfl) (fun _ _ _ h => h) (Or.inl ⟨by kernel_rfl, ?_⟩) (by assumption) ?_
    rotate_left
    · intro w hSw
      (try dsimp only at hSw)
      go_simp
      all_goals with_reducible rfl
    simp only [Act.put]
    refine wpAnyH_take (i := 13) (oi := _) (v := ?_) rfl (by kernel_rfl) (by kernel_rfl) (by kernel_rfl) (fun _ _ _ h => h) (Or.inl ⟨by kernel_rfl, ?_⟩) (by assumption) ?_
    rotate_left
    · intro w hSw
      (try dsimp only at hSw)
      go_simp
      all_goals with_reducible rfl
    simp only [Act.put]
    refine wpAnyH_take (i := 14) (oi := _) (v := ?_) rfl (by kernel_rfl) (by kernel_rfl) (by kernel_rfl) (fun _ _ _ h => h) (Or.inl ⟨by kernel_rfl, ?_⟩) (by assumption) ?_
    rotate_left
    · intro w hSw
      (try dsimp only at hSw)
      go_simp
      all_goals with_reducible rfl
    simp only [Act.put]
    refine wpAnyH_take (i := 15) (oi := _) (v := ?_) rfl (by kernel_rfl) (by kernel_rfl) (by kernel_rfl) (fun _ _ _ h => h) (Or.inl ⟨by kernel_rfl, ?_⟩) (by assumption) ?_
    rotate_left
    · intro w hSw
      (try dsimp only at hSw)
      go_simp
      all_goals with_reducible rfl
    simp only [Act.put]
    refine wpAnyH_take (i := 16) (oi := _) (v := ?_) rfl (by kernel_rfl) (by kernel_rfl) (by kernel_rfl) (fun _ _ _ h => h) (Or.inl ⟨by kernel_rfl, ?_⟩) (by assumption) ?_
    rotate_left
    · intro w hSw
      (try dsimp only at hSw)
      go_simp
      all_goals with_reducible rfl
    simp only [Act.put]
    refine wpAnyH_take (i := 17) (oi := _) (v := ?_) rfl (by kernel_rfl) (by kernel_rfl) (by kernel_rfl) (fun _ _ _ h => h) (Or.inl ⟨by kernel_rfl, ?_⟩) (by assumption) ?_
    rotate_left
    · intro w hSw
      (try dsimp only at hSw)
      go_simp
      all_goals with_reducible rfl
    simp only [Act.put]
    refine wpAnyH_take (i := 18) (oi := _) (v := ?_) rfl (by kernel_rfl) (by kernel_rfl) (by kernel_rfl) (fun _ _ _ h => h) (Or.inl ⟨by kernel_rfl, ?_⟩) (by assumption) ?_
    rotate_left
    · intro w hSw
      (try dsimp only at hSw)
      go_simp
      all_goals with_reducible rfl
    simp only [Act.put]
    refine wpAnyH_ready (rs := [20]) (by kernel_rfl) (by simp) ?_
    refine AllReadyH.cons (o := _) rfl (fun K hK => ?_) AllReadyH.nil
    go_simp
    refine hK.out _ _ (by go_keep) (fun hHeld => ?_)
    clear hK
    refine wpAnyH_done (by kernel_rfl) ?_ _
    go_upto_region 4 with fail
    obtain ⟨X, hX⟩ : ∃ X, X = V.alloc (.cells #[.int .i64 la, .int .i64 la, .int .i64 ne, .int .i64 ck, .int .i64 lc, .bool true] 23 (0, 0)) := ⟨_, rfl⟩
    rw [← hX]
    have bX : Below V.heap.size V X := by rw [hX]; exact alloc_below _ _
    obtain ⟨tB, htB⟩ : ∃ tB, V.heap.size = tB := ⟨_, rfl⟩
    have hn1 : X.heap[tB]? = some (.cells #[.int .i64 la, .int .i64 la, .int .i64 ne, .int .i64 ck, .int .i64 lc, .bool true] 23 (0, 0)) := by rw [hX, ← htB]; exact heap_alloc_new V _
    have HRS1 := hide (below_box bX HRS0.out)
    have HTR : Hid (rB < tB) := hide (by rw [← htB]; exact HSZ0.out)
    have HBW1 := hide (below_next HBW0.out bX (by have := HLT.out; have := HSZ0.out; omega))
    try rw [htB]
    have HN1 := hide hn1
    clear u0 u1 u2 u3 u4 u5 hX bX hn1 htB hHeld
    have HSX := hide (box_lt HRS1.out)
    obtain ⟨_, _, _, _, _, _, v0, v1, v2, v3, v4, v5⟩ := six HN1.out
    obtain ⟨f0, f1, f2, f3, f4, f5, r0, r1, r2, r3, r4, r5⟩ := six HRS1.out
    have hne1 : rB ≠ tB := by have := HTR.out; omega
    have hne2 : tB ≠ rB := by have := HTR.out; omega
    go_region_held3 (fun w' => w'.cell? ⟨tB, 0, none⟩ = some (.int .i64 la) ∧ w'.cell? ⟨tB, 1, none⟩ = some (.int .i64 la) ∧ w'.cell? ⟨tB, 2, none⟩ = some (.int .i64 ne) ∧ w'.cell? ⟨tB, 3, none⟩ = some (.int .i64 ck) ∧ w'.cell? ⟨tB, 4, none⟩ = some (.int .i64 lc) ∧ w'.cell? ⟨tB, 5, none⟩ = some (.bool true)) (go_keep) (fail)
    go_wp2
    have hE := heap_set6 HRS1.out (.int .i64 la) (.int .i64 la) (.int .i64 ne) (.int .i64 ck) (.int .i64 lc) (.bool true)
    have hE2 := drew2_heap hE
    clear hE
    refine bodyPost_ret (results_cell_three rfl _ _ rB 23 _ _ _ rfl hE2 Try.underlying23 rfl (by kernel_rfl)) rfl ?_
    refine ⟨by rw [HQ.out]; rfl, ?_⟩
    rw [HBB.out]
    exact below_drew2 (HBW1.out.trans ((only_set6 _ rB _ _ _ _ _ _).below (by have := HLT.out; have := HSX.out; omega) (fun i e => by have e' : i = rB := e; have := HLT.out; omega)))

set_option maxRecDepth 100000 in
set_option maxHeartbeats 2000000 in
theorem grant_4 {W : World} {o la ep ck tl : Int}  {r : Int} (hk : okL ⟨o, la, ep, ck, tl, true⟩) (h1 : ep ≠ 9007199254740992) (h2 : la ≠ r) :
    Calls Try.prog 48 #[.agg #[.int .i64 o, .int .i64 la, .int .i64 ep, .int .i64 ck, .int .i64 tl, .bool true], .int .i64 r] W fun e w' => e = .returned (.tuple #[LE.val (grantC ⟨o, la, ep, ck, tl, true⟩ r).1, .int .i64 (grantC ⟨o, la, ep, ck, tl, true⟩ r).2.1, .int .i64 (grantC ⟨o, la, ep, ck, tl, true⟩ r).2.2]) ∧ Below W.heap.size W w' := by
  have HK : Hid (0 ≤ ck ∧ ck ≤ 9007199254740992) := hide (by have := hk; unfold okL at this; simp only at this; omega)
  have hew : IntKind.i64.wrap (ep + 1) = ep + 1 := by have := hk; unfold okL at this; simp only at this; rw [IntKind.wrap_i64]; omega
  obtain ⟨lc, hlc⟩ : ∃ lc, laterC ck 16 = lc := ⟨_, rfl⟩
  obtain ⟨ne, hne⟩ : ∃ ne, ep + 1 = ne := ⟨_, rfl⟩
  have HQ : Hid (grantC ⟨o, la, ep, ck, tl, true⟩ r = (⟨r, r, ne, ck, lc, false⟩, ne, 0)) := hide (by unfold grantC; rw [if_neg h1]; simp only [hlc, hne, decide_eq_false h2, Bool.and_false])
  have hew2 : IntKind.i64.wrap (ep + 1) = ne := hew.trans hne
  have HLC := hide hlc
  have d0 : (ep == 9007199254740992) = false := ne_eqL h1
  have d2 : (la == r) = false := ne_eqL h2
  clear hlc h1 hk hew hne
  obtain ⟨V0, hV0⟩ : ∃ V0, V0 = W.alloc (.cells #[.int .i64 o, .int .i64 la, .int .i64 ep, .int .i64 ck, .int .i64 tl, .bool true] 23 (0, 0)) := ⟨_, rfl⟩
  obtain ⟨V, hV⟩ : ∃ V, V = V0.alloc (.cells #[.int .i64 0, .int .i64 0, .int .i64 0, .int .i64 0, .int .i64 0, .bool false] 23 (0, 0)) := ⟨_, rfl⟩
  have bV0 : Below W.heap.size W V0 := by rw [hV0]; exact alloc_below _ _
  have bV1 : Below V0.heap.size V0 V := by rw [hV]; exact alloc_below _ _
  have v0 : V0.heap[W.heap.size]? = some (.cells #[.int .i64 o, .int .i64 la, .int .i64 ep, .int .i64 ck, .int .i64 tl, .bool true] 23 (0, 0)) := by rw [hV0]; exact heap_alloc_new W _
  have v1 : V.heap[V0.heap.size]? = some (.cells #[.int .i64 0, .int .i64 0, .int .i64 0, .int .i64 0, .int .i64 0, .bool false] 23 (0, 0)) := by rw [hV]; exact heap_alloc_new V0 _
  have v2 := below_box bV1 v0
  have hlt := box_lt v0
  have hs0 : V0.heap.size = W.heap.size + 1 := by rw [hV0]; simp
  obtain ⟨bB, hbB⟩ : ∃ bB, W.heap.size = bB := ⟨_, rfl⟩
  obtain ⟨rB, hrB⟩ : ∃ rB, V0.heap.size = rB := ⟨_, rfl⟩
  have hrb : bB + 1 = rB := by omega
  rw [hbB, hrB] at hlt
  rw [hbB] at v2
  rw [hrB] at v1
  have HBW0 : Hid (Below bB W V) := hide (by rw [← hbB]; exact below_next bV0 bV1 bV0.size)
  have HBX0 := hide v2
  have HRS0 := hide v1
  have HBB := hide hbB
  have HLT := hide hlt
  have HSZ0 := hide (box_lt v1)
  clear v0 v1 v2 bV0 bV1
  go_enter Try.func48, Try.ntmps48
  go_upto_region 1 with fail
  try rw [hbB]
  try rw [hrb]
  rw [← hV0, ← hV]
  try rw [hrB]
  clear hV0 hV hbB hrB hs0 hrb hlt
  obtain ⟨_, _, _, _, _, _, u0, u1, u2, u3, u4, u5⟩ := six HBX0.out
  go_upto_region 3 with fail
  refine wp_region_held_drew (S := fun w' => w'.cell? ⟨bB, 1, none⟩ = some (.int .i64 la) ∧ w'.cell? ⟨bB, 2, none⟩ = some (.int .i64 ep) ∧ w'.cell? ⟨bB, 3, none⟩ = some (.int .i64 ck) ∧ w'.cell? ⟨bB, 5, none⟩ = some (.bool true)) (by kernel_rfl) ⟨u1, u2, u3, u5⟩ (fun hHeld => ?_)
  refine wpAnyH_take (i := 0) (oi := _) (v := ?_) rfl (by kernel_rfl) (by kernel_rfl) (by kernel_rfl) (fun _ _ _ h => h) (Or.inl ⟨by kernel_rfl, ?_⟩) (by assumption) ?_
  rotate_left
  · intro w hSw
    (try dsimp only at hSw)
    go_simp
    all_goals with_reducible rfl
  simp only [Act.put]
  refine wpAnyH_take (i := 1) (oi := _) (v := ?_) rfl (by kernel_rfl) (by kernel_rfl) (by kernel_rfl) (fun _ _ _ h => h) (Or.inl ⟨by kernel_rfl, ?_⟩) (by assumption) ?_
  rotate_left
  · intro w hSw
    (try dsimp only at hSw)
    go_simp
    all_goals with_reducible rfl
  simp only [Act.put]
  refine wpAnyH_take (i := 2) (oi := _) (v := ?_) rfl (by kernel_rfl) (by kernel_rfl) (by kernel_rfl) (fun _ _ _ h => h) (Or.inl ⟨by kernel_rfl, ?_⟩) (by assumption) ?_
  rotate_left
  · intro w hSw
    (try dsimp only at hSw)
    go_simp
    all_goals with_reducible rfl
  simp only [Act.put]
  refine wpAnyH_take (i := 3) (oi := _) (v := ?_) rfl (by kernel_rfl) (by kernel_rfl) (by kernel_rfl) (fun _ _ _ h => h) (Or.inl ⟨by kernel_rfl, ?_⟩) (by assumption) ?_
  rotate_left
  · intro w hSw
    (try dsimp only at hSw)
    go_simp
    all_goals with_reducible rfl
  simp only [Act.put]
  refine wpAnyH_take (i := 4) (oi := _) (v := ?_) rfl (by kernel_rfl) (by kernel_rfl) (by kernel_rfl) (fun _ _ _ h => h) (Or.inl ⟨by kernel_rfl, ?_⟩) (by assumption) ?_
  rotate_left
  · intro w hSw
    (try dsimp only at hSw)
    go_simp
    all_goals with_reducible rfl
  simp only [Act.put]
  refine wpAnyH_take (i := 5) (oi := _) (v := ?_) rfl (by kernel_rfl) (by kernel_rfl) (by kernel_rfl) (fun _ _ _ h => h) (Or.inl ⟨by kernel_rfl, ?_⟩) (by assumption) ?_
  rotate_left
  · intro w hSw
    (try dsimp only at hSw)
    go_simp
    all_goals with_reducible rfl
  simp only [Act.put]
  refine wpAnyH_take (i := 6) (oi := _) (v := ?_) rfl (by kernel_rfl) (by kernel_rfl) (by kernel_rfl) (fun _ _ _ h => h) (Or.inl ⟨by kernel_rfl, ?_⟩) (by assumption) ?_
  rotate_left
  · intro w hSw
    (try dsimp only at hSw)
    go_simp
    all_goals with_reducible rfl
  simp only [Act.put]
  refine wpAnyH_take (i := 7) (oi := _) (v := ?_) rfl (by kernel_rfl) (by kernel_rfl) (by kernel_rfl) (fun _ _ _ h => h) (Or.inl ⟨by kernel_rfl, ?_⟩) (by assumption) ?_
  rotate_left
  · intro w hSw
    (try dsimp only at hSw)
    go_simp
    all_goals with_reducible rfl
  simp only [Act.put]
  refine wpAnyH_take (i := 8) (oi := _) (v := ?_) rfl (by kernel_rfl) (by kernel_rfl) (by kernel_rfl) (fun _ _ _ h => h) (Or.inl ⟨by kernel_rfl, ?_⟩) (by assumption) ?_
  rotate_left
  · intro w hSw
    (try dsimp only at hSw)
    go_simp
    all_goals with_reducible rfl
  simp only [Act.put]
  refine wpAnyH_take (i := 10) (oi := _) (v := ?_) rfl (by kernel_rfl) (by kernel_rfl) (by kernel_rfl) (fun _ _ _ h => h) (Or.inl ⟨by kernel_rfl, ?_⟩) (by assumption) ?_
  rotate_left
  · intro w hSw
    (try dsimp only at hSw)
    go_simp
    all_goals with_reducible rfl
  simp only [Act.put]
  refine wpAnyH_take (i := 11) (oi := _) (v := ?_) rfl (by kernel_rfl) (by kernel_rfl) (by kernel_rfl) (fun _ _ _ h => h) (Or.inl ⟨by kernel_rfl, ?_⟩) (by assumption) ?_
  rotate_left
  · intro w hSw
    (try dsimp only at hSw)
    go_simp
    all_goals with_reducible rfl
  simp only [Act.put]
  refine wpAnyH_ready (rs := [9, 19]) (by kernel_rfl) (by simp) ?_
  refine AllReadyH.cons (o := _) rfl (fun K hK => ?_) (AllReadyH.cons (o := _) rfl (fun K hK => ?_) AllReadyH.nil)
  · go_simp
    refine (later_any HK.out.1 HK.out.2).mono ?_
    rw [HLC.out]
    rintro _ _ ⟨rfl, rfl⟩
    go_wp2_with fail
    refine hK.out _ _ hHeld (fun hHeld => ?_)
    clear hK
    refine wpAnyH_take (i := 12) (oi := _) (v := ?_) rfl (by kernel_rfl) (by kernel_rfl) (by kernel_rfl) (fun _ _ _ h => h) (Or.inl ⟨by kernel_rfl, ?_⟩) (by assumption) ?_
    rotate_left
    · intro w hSw
      (try dsimp only at hSw)
      go_simp
      all_goals with_reducible rfl
    simp only [Act.put]
    refine wpAnyH_take (i := 13) (oi := _) (v := ?_) rfl (by kernel_rfl) (by kernel_rfl) (by kernel_rfl) (fun _ _ _ h => h) (Or.inl ⟨by kernel_rfl, ?_⟩) (by assumption) ?_
    rotate_left
    · intro w hSw
      (try dsimp only at hSw)
      go_simp
      all_goals with_reducible rfl
    simp only [Act.put]
    refine wpAnyH_take (i := 14) (oi := _) (v := ?_) rfl (by kernel_rfl) (by kernel_rfl) (by kernel_rfl) (fun _ _ _ h => h) (Or.inl ⟨by kernel_rfl, ?_⟩) (by assumption) ?_
    rotate_left
    · intro w hSw
      (try dsimp only at hSw)
      go_simp
      all_goals with_reducible rfl
    simp only [Act.put]
    refine wpAnyH_take (i := 15) (oi := _) (v := ?_) rfl (by kernel_rfl) (by kernel_rfl) (by kernel_rfl) (fun _ _ _ h => h) (Or.inl ⟨by kernel_rfl, ?_⟩) (by assumption) ?_
    rotate_left
    · intro w hSw
      (try dsimp only at hSw)
      go_simp
      all_goals with_reducible rfl
    simp only [Act.put]
    refine wpAnyH_take (i := 16) (oi := _) (v := ?_) rfl (by kernel_rfl) (by kernel_rfl) (by kernel_rfl) (fun _ _ _ h => h) (Or.inl ⟨by kernel_rfl, ?_⟩) (by assumption) ?_
    rotate_left
    · intro w hSw
      (try dsimp only at hSw)
      go_simp
      all_goals with_reducible rfl
    simp only [Act.put]
    refine wpAnyH_take (i := 17) (oi := _) (v := ?_) rfl (by kernel_rfl) (by kernel_rfl) (by kernel_rfl) (fun _ _ _ h => h) (Or.inl ⟨by kernel_rfl, ?_⟩) (by assumption) ?_
    rotate_left
    · intro w hSw
      (try dsimp only at hSw)
      go_simp
      all_goals with_reducible rfl
    simp only [Act.put]
    refine wpAnyH_take (i := 18) (oi := _) (v := ?_) rfl (by kernel_rfl) (by kernel_rfl) (by kernel_rfl) (fun _ _ _ h => h) (Or.inl ⟨by kernel_rfl, ?_⟩) (by assumption) ?_
    rotate_left
    · intro w hSw
      (try dsimp only at hSw)
      go_simp
      all_goals with_reducible rfl
    simp only [Act.put]
    refine wpAnyH_ready (rs := [19]) (by kernel_rfl) (by simp) ?_
    refine AllReadyH.cons (o := _) rfl (fun K hK => ?_) AllReadyH.nil
    go_simp
    refine hK.out _ _ (by go_keep) (fun hHeld => ?_)
    clear hK
    refine wpAnyH_ready (rs := [20]) (by kernel_rfl) (by simp) ?_
    refine AllReadyH.cons (o := _) rfl (fun K hK => ?_) AllReadyH.nil
    go_simp
    refine hK.out _ _ (by go_keep) (fun hHeld => ?_)
    clear hK
    refine wpAnyH_done (by kernel_rfl) ?_ _
    go_upto_region 4 with fail
    obtain ⟨X, hX⟩ : ∃ X, X = V.alloc (.cells #[.int .i64 r, .int .i64 r, .int .i64 ne, .int .i64 ck, .int .i64 lc, .bool false] 23 (0, 0)) := ⟨_, rfl⟩
    rw [← hX]
    have bX : Below V.heap.size V X := by rw [hX]; exact alloc_below _ _
    obtain ⟨tB, htB⟩ : ∃ tB, V.heap.size = tB := ⟨_, rfl⟩
    have hn1 : X.heap[tB]? = some (.cells #[.int .i64 r, .int .i64 r, .int .i64 ne, .int .i64 ck, .int .i64 lc, .bool false] 23 (0, 0)) := by rw [hX, ← htB]; exact heap_alloc_new V _
    have HRS1 := hide (below_box bX HRS0.out)
    have HTR : Hid (rB < tB) := hide (by rw [← htB]; exact HSZ0.out)
    have HBW1 := hide (below_next HBW0.out bX (by have := HLT.out; have := HSZ0.out; omega))
    try rw [htB]
    have HN1 := hide hn1
    clear u0 u1 u2 u3 u4 u5 hX bX hn1 htB hHeld
    have HSX := hide (box_lt HRS1.out)
    obtain ⟨_, _, _, _, _, _, v0, v1, v2, v3, v4, v5⟩ := six HN1.out
    obtain ⟨f0, f1, f2, f3, f4, f5, r0, r1, r2, r3, r4, r5⟩ := six HRS1.out
    have hne1 : rB ≠ tB := by have := HTR.out; omega
    have hne2 : tB ≠ rB := by have := HTR.out; omega
    go_region_held3 (fun w' => w'.cell? ⟨tB, 0, none⟩ = some (.int .i64 r) ∧ w'.cell? ⟨tB, 1, none⟩ = some (.int .i64 r) ∧ w'.cell? ⟨tB, 2, none⟩ = some (.int .i64 ne) ∧ w'.cell? ⟨tB, 3, none⟩ = some (.int .i64 ck) ∧ w'.cell? ⟨tB, 4, none⟩ = some (.int .i64 lc) ∧ w'.cell? ⟨tB, 5, none⟩ = some (.bool false)) (go_keep) (fail)
    go_wp2
    have hE := heap_set6 HRS1.out (.int .i64 r) (.int .i64 r) (.int .i64 ne) (.int .i64 ck) (.int .i64 lc) (.bool false)
    have hE2 := drew2_heap hE
    clear hE
    refine bodyPost_ret (results_cell_three rfl _ _ rB 23 _ _ _ rfl hE2 Try.underlying23 rfl (by kernel_rfl)) rfl ?_
    refine ⟨by rw [HQ.out]; rfl, ?_⟩
    rw [HBB.out]
    exact below_drew2 (HBW1.out.trans ((only_set6 _ rB _ _ _ _ _ _).below (by have := HLT.out; have := HSX.out; omega) (fun i e => by have e' : i = rB := e; have := HLT.out; omega)))
  · go_simp
    refine hK.out _ _ (by go_keep) (fun hHeld => ?_)
    clear hK
    refine wpAnyH_ready (rs := [9]) (by kernel_rfl) (by simp) ?_
    refine AllReadyH.cons (o := _) rfl (fun K hK => ?_) AllReadyH.nil
    go_simp
    refine (later_any HK.out.1 HK.out.2).mono ?_
    rw [HLC.out]
    rintro _ _ ⟨rfl, rfl⟩
    go_wp2_with fail
    refine hK.out _ _ hHeld (fun hHeld => ?_)
    clear hK
    refine wpAnyH_take (i := 12) (oi := _) (v := ?_) rfl (by kernel_rfl) (by kernel_rfl) (by kernel_rfl) (fun _ _ _ h => h) (Or.inl ⟨by kernel_rfl, ?_⟩) (by assumption) ?_
    rotate_left
    · intro w hSw
      (try dsimp only at hSw)
      go_simp
      all_goals with_reducible rfl
    simp only [Act.put]
    refine wpAnyH_take (i := 13) (oi := _) (v := ?_) rfl (by kernel_rfl) (by kernel_rfl) (by kernel_rfl) (fun _ _ _ h => h) (Or.inl ⟨by kernel_rfl, ?_⟩) (by assumption) ?_
    rotate_left
    · intro w hSw
      (try dsimp only at hSw)
      go_simp
      all_goals with_reducible rfl
    simp only [Act.put]
    refine wpAnyH_take (i := 14) (oi := _) (v := ?_) rfl (by kernel_rfl) (by kernel_rfl) (by kernel_rfl) (fun _ _ _ h => h) (Or.inl ⟨by kernel_rfl, ?_⟩) (by assumption) ?_
    rotate_left
    · intro w hSw
      (try dsimp only at hSw)
      go_simp
      all_goals with_reducible rfl
    simp only [Act.put]
    refine wpAnyH_take (i := 15) (oi := _) (v := ?_) rfl (by kernel_rfl) (by kernel_rfl) (by kernel_rfl) (fun _ _ _ h => h) (Or.inl ⟨by kernel_rfl, ?_⟩) (by assumption) ?_
    rotate_left
    · intro w hSw
      (try dsimp only at hSw)
      go_simp
      all_goals with_reducible rfl
    simp only [Act.put]
    refine wpAnyH_take (i := 16) (oi := _) (v := ?_) rfl (by kernel_rfl) (by kernel_rfl) (by kernel_rfl) (fun _ _ _ h => h) (Or.inl ⟨by kernel_rfl, ?_⟩) (by assumption) ?_
    rotate_left
    · intro w hSw
      (try dsimp only at hSw)
      go_simp
      all_goals with_reducible rfl
    simp only [Act.put]
    refine wpAnyH_take (i := 17) (oi := _) (v := ?_) rfl (by kernel_rfl) (by kernel_rfl) (by kernel_rfl) (fun _ _ _ h => h) (Or.inl ⟨by kernel_rfl, ?_⟩) (by assumption) ?_
    rotate_left
    · intro w hSw
      (try dsimp only at hSw)
      go_simp
      all_goals with_reducible rfl
    simp only [Act.put]
    refine wpAnyH_take (i := 18) (oi := _) (v := ?_) rfl (by kernel_rfl) (by kernel_rfl) (by kernel_rfl) (fun _ _ _ h => h) (Or.inl ⟨by kernel_rfl, ?_⟩) (by assumption) ?_
    rotate_left
    · intro w hSw
      (try dsimp only at hSw)
      go_simp
      all_goals with_reducible rfl
    simp only [Act.put]
    refine wpAnyH_ready (rs := [20]) (by kernel_rfl) (by simp) ?_
    refine AllReadyH.cons (o := _) rfl (fun K hK => ?_) AllReadyH.nil
    go_simp
    refine hK.out _ _ (by go_keep) (fun hHeld => ?_)
    clear hK
    refine wpAnyH_done (by kernel_rfl) ?_ _
    go_upto_region 4 with fail
    obtain ⟨X, hX⟩ : ∃ X, X = V.alloc (.cells #[.int .i64 r, .int .i64 r, .int .i64 ne, .int .i64 ck, .int .i64 lc, .bool false] 23 (0, 0)) := ⟨_, rfl⟩
    rw [← hX]
    have bX : Below V.heap.size V X := by rw [hX]; exact alloc_below _ _
    obtain ⟨tB, htB⟩ : ∃ tB, V.heap.size = tB := ⟨_, rfl⟩
    have hn1 : X.heap[tB]? = some (.cells #[.int .i64 r, .int .i64 r, .int .i64 ne, .int .i64 ck, .int .i64 lc, .bool false] 23 (0, 0)) := by rw [hX, ← htB]; exact heap_alloc_new V _
    have HRS1 := hide (below_box bX HRS0.out)
    have HTR : Hid (rB < tB) := hide (by rw [← htB]; exact HSZ0.out)
    have HBW1 := hide (below_next HBW0.out bX (by have := HLT.out; have := HSZ0.out; omega))
    try rw [htB]
    have HN1 := hide hn1
    clear u0 u1 u2 u3 u4 u5 hX bX hn1 htB hHeld
    have HSX := hide (box_lt HRS1.out)
    obtain ⟨_, _, _, _, _, _, v0, v1, v2, v3, v4, v5⟩ := six HN1.out
    obtain ⟨f0, f1, f2, f3, f4, f5, r0, r1, r2, r3, r4, r5⟩ := six HRS1.out
    have hne1 : rB ≠ tB := by have := HTR.out; omega
    have hne2 : tB ≠ rB := by have := HTR.out; omega
    go_region_held3 (fun w' => w'.cell? ⟨tB, 0, none⟩ = some (.int .i64 r) ∧ w'.cell? ⟨tB, 1, none⟩ = some (.int .i64 r) ∧ w'.cell? ⟨tB, 2, none⟩ = some (.int .i64 ne) ∧ w'.cell? ⟨tB, 3, none⟩ = some (.int .i64 ck) ∧ w'.cell? ⟨tB, 4, none⟩ = some (.int .i64 lc) ∧ w'.cell? ⟨tB, 5, none⟩ = some (.bool false)) (go_keep) (fail)
    go_wp2
    have hE := heap_set6 HRS1.out (.int .i64 r) (.int .i64 r) (.int .i64 ne) (.int .i64 ck) (.int .i64 lc) (.bool false)
    have hE2 := drew2_heap hE
    clear hE
    refine bodyPost_ret (results_cell_three rfl _ _ rB 23 _ _ _ rfl hE2 Try.underlying23 rfl (by kernel_rfl)) rfl ?_
    refine ⟨by rw [HQ.out]; rfl, ?_⟩
    rw [HBB.out]
    exact below_drew2 (HBW1.out.trans ((only_set6 _ rB _ _ _ _ _ _).below (by have := HLT.out; have := HSX.out; omega) (fun i e => by have e' : i = rB := e; have := HLT.out; omega)))

theorem grant_any {W : World} {o la ep ck tl : Int} {so : Bool} {r : Int} (hk : okL ⟨o, la, ep, ck, tl, so⟩) : Calls Try.prog 48 #[.agg #[.int .i64 o, .int .i64 la, .int .i64 ep, .int .i64 ck, .int .i64 tl, .bool so], .int .i64 r] W fun e w' => e = .returned (.tuple #[LE.val (grantC ⟨o, la, ep, ck, tl, so⟩ r).1, .int .i64 (grantC ⟨o, la, ep, ck, tl, so⟩ r).2.1, .int .i64 (grantC ⟨o, la, ep, ck, tl, so⟩ r).2.2]) ∧ Below W.heap.size W w' := by
  by_cases h1 : ep = 9007199254740992
  · exact grant_1 h1
  · cases so with
    | false => exact grant_2 hk h1
    | true =>
      by_cases h2 : la = r
      · exact grant_3 hk h1 h2
      · exact grant_4 hk h1 h2
end Go.Proofs.Ythlkhjpobiohmaa
