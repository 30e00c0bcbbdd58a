/-
  The reference's Held, Tick, grant, mine, Renew, Release, Alone. The condition of grant: that the lease may be, and that its epoch is not the greatest.
-/
import Derived.Test.YtegffdmlkbdcdaaLrb
import Derived.Test.YtegffdmlkbdcdaaLsf
namespace Go.Proofs.Ytegffdmlkbdcdaa.Op
open Go.RowKit

set_option maxRecDepth 100000 in
theorem rheld_1 {W : World} {o la ep ck tl : Int} {so : Bool}  (hk : ¬ okL ⟨o, la, ep, ck, tl, so⟩) :
    Calls Try.prog 56 #[.agg #[.int .i64 o, .int .i64 la, .int .i64 ep, .int .i64 ck, .int .i64 tl, .bool so]] W fun e w' => e = .returned (.bool (heldC ⟨o, la, ep, ck, tl, so⟩)) ∧ Below W.heap.size W w' := by
  have HQ : Hid (heldC ⟨o, la, ep, ck, tl, so⟩ = false) := hide (by unfold heldC; refine decide_eq_false (fun h => ?_); obtain ⟨k1, k2, k3⟩ := h; first | exact hk k1 | exact k2 h1 | exact absurd k3 h2)
  have HC : Hid (chkC ⟨o, la, ep, ck, tl, so⟩ = 1) := hide (chk_no hk)
  obtain ⟨V, hV⟩ : ∃ V, V = W.alloc (.cells #[.int .i64 o, .int .i64 la, .int .i64 ep, .int .i64 ck, .int .i64 tl, .bool so] 39 (0, 0)) := ⟨_, rfl⟩
  have HV : Hid (V.heap[W.heap.size]? = some (.cells #[.int .i64 o, .int .i64 la, .int .i64 ep, .int .i64 ck, .int .i64 tl, .bool so] 39 (0, 0))) := hide (by rw [hV]; exact heap_alloc_new W _)
  have HBV : Hid (Below W.heap.size W V) := hide (by rw [hV]; exact alloc_below _ _)
  obtain ⟨bB, hbB⟩ : ∃ bB, W.heap.size = bB := ⟨_, rfl⟩
  rw [hbB] at HV HBV
  have HBB := hide hbB
  go_enter Try.func56, Try.ntmps56
  go_upto_region 1 with fail
  rw [← hV]
  try rw [hbB]
  clear hV hbB
  obtain ⟨_, _, _, _, _, _, u0, u1, u2, u3, u4, u5⟩ := six HV.out
  go_wp2_with fail
  refine (rcheck_any).mono ?_
  rw [HC.out]
  rintro _ w1 ⟨rfl, bb⟩
  have HV1 := hide (below_box bb HV.out)
  have HBV1 := hide (below_next HBV.out bb (Nat.le_of_lt (box_lt HV.out)))
  clear bb HV HBV u0 u1 u2 u3 u4 u5
  obtain ⟨_, _, _, _, _, _, u0, u1, u2, u3, u4, u5⟩ := six HV1.out
  go_wp2
  go_ret
  exact ⟨by first | rw [HQ.out]; rfl | rfl, by rw [HBB.out]; exact HBV1.out⟩

set_option maxRecDepth 100000 in
theorem rheld_2 {W : World} {o la ep ck tl : Int} {so : Bool}  (hk : okL ⟨o, la, ep, ck, tl, so⟩) (h1 : o = -1) :
    Calls Try.prog 56 #[.agg #[.int .i64 o, .int .i64 la, .int .i64 ep, .int .i64 ck, .int .i64 tl, .bool so]] W fun e w' => e = .returned (.bool (heldC ⟨o, la, ep, ck, tl, so⟩)) ∧ Below W.heap.size W w' := by
  have HQ : Hid (heldC ⟨o, la, ep, ck, tl, so⟩ = false) := hide (by unfold heldC; refine decide_eq_false (fun h => ?_); obtain ⟨k1, k2, k3⟩ := h; first | exact hk k1 | exact k2 h1 | exact absurd k3 h2)
  have HC : Hid (chkC ⟨o, la, ep, ck, tl, so⟩ = 0) := hide (chk_yes hk)
  subst h1
  obtain ⟨V, hV⟩ : ∃ V, V = W.alloc (.cells #[.int .i64 (-1), .int .i64 la, .int .i64 ep, .int .i64 ck, .int .i64 tl, .bool so] 39 (0, 0)) := ⟨_, rfl⟩
  have HV : Hid (V.heap[W.heap.size]? = some (.cells #[.int .i64 (-1), .int .i64 la, .int .i64 ep, .int .i64 ck, .int .i64 tl, .bool so] 39 (0, 0))) := hide (by rw [hV]; exact heap_alloc_new W _)
  have HBV : Hid (Below W.heap.size W V) := hide (by rw [hV]; exact alloc_below _ _)
  obtain ⟨bB, hbB⟩ : ∃ bB, W.heap.size = bB := ⟨_, rfl⟩
  rw [hbB] at HV HBV
  have HBB := hide hbB
  go_enter Try.func56, Try.ntmps56
  go_upto_region 1 with fail
  rw [← hV]
  try rw [hbB]
  clear hV hbB
  obtain ⟨_, _, _, _, _, _, u0, u1, u2, u3, u4, u5⟩ := six HV.out
  go_wp2_with fail
  refine (rcheck_any).mono ?_
  rw [HC.out]
  rintro _ w1 ⟨rfl, bb⟩
  have HV1 := hide (below_box bb HV.out)
  have HBV1 := hide (below_next HBV.out bb (Nat.le_of_lt (box_lt HV.out)))
  clear bb HV HBV u0 u1 u2 u3 u4 u5
  obtain ⟨_, _, _, _, _, _, u0, u1, u2, u3, u4, u5⟩ := six HV1.out
  go_wp2
  go_ret
  exact ⟨by first | rw [HQ.out]; rfl | rfl, by rw [HBB.out]; exact HBV1.out⟩

set_option maxRecDepth 100000 in
theorem rheld_3 {W : World} {o la ep ck tl : Int} {so : Bool}  (hk : okL ⟨o, la, ep, ck, tl, so⟩) (h1 : o ≠ -1) (h2 : ¬ ck < tl) :
    Calls Try.prog 56 #[.agg #[.int .i64 o, .int .i64 la, .int .i64 ep, .int .i64 ck, .int .i64 tl, .bool so]] W fun e w' => e = .returned (.bool (heldC ⟨o, la, ep, ck, tl, so⟩)) ∧ Below W.heap.size W w' := by
  have HQ : Hid (heldC ⟨o, la, ep, ck, tl, so⟩ = false) := hide (by unfold heldC; refine decide_eq_false (fun h => ?_); obtain ⟨k1, k2, k3⟩ := h; first | exact hk k1 | exact k2 h1 | exact absurd k3 h2)
  have HC : Hid (chkC ⟨o, la, ep, ck, tl, so⟩ = 0) := hide (chk_yes hk)
  have d1 : (o == -1) = false := ne_eqL h1
  have d1n : (o != -1) = true := ne_neL h1
  have d2 : decide (tl > ck) = false := decide_eq_false h2
  obtain ⟨V, hV⟩ : ∃ V, V = W.alloc (.cells #[.int .i64 o, .int .i64 la, .int .i64 ep, .int .i64 ck, .int .i64 tl, .bool so] 39 (0, 0)) := ⟨_, rfl⟩
  have HV : Hid (V.heap[W.heap.size]? = some (.cells #[.int .i64 o, .int .i64 la, .int .i64 ep, .int .i64 ck, .int .i64 tl, .bool so] 39 (0, 0))) := hide (by rw [hV]; exact heap_alloc_new W _)
  have HBV : Hid (Below W.heap.size W V) := hide (by rw [hV]; exact alloc_below _ _)
  obtain ⟨bB, hbB⟩ : ∃ bB, W.heap.size = bB := ⟨_, rfl⟩
  rw [hbB] at HV HBV
  have HBB := hide hbB
  go_enter Try.func56, Try.ntmps56
  go_upto_region 1 with fail
  rw [← hV]
  try rw [hbB]
  clear hV hbB
  obtain ⟨_, _, _, _, _, _, u0, u1, u2, u3, u4, u5⟩ := six HV.out
  go_wp2_with fail
  refine (rcheck_any).mono ?_
  rw [HC.out]
  rintro _ w1 ⟨rfl, bb⟩
  have HV1 := hide (below_box bb HV.out)
  have HBV1 := hide (below_next HBV.out bb (Nat.le_of_lt (box_lt HV.out)))
  clear bb HV HBV u0 u1 u2 u3 u4 u5
  obtain ⟨_, _, _, _, _, _, u0, u1, u2, u3, u4, u5⟩ := six HV1.out
  go_wp2
  go_ret
  exact ⟨by first | rw [HQ.out]; rfl | rfl, by rw [HBB.out]; exact HBV1.out⟩

set_option maxRecDepth 100000 in
theorem rheld_4 {W : World} {o la ep ck tl : Int} {so : Bool}  (hk : okL ⟨o, la, ep, ck, tl, so⟩) (h1 : o ≠ -1) (h2 : ck < tl) :
    Calls Try.prog 56 #[.agg #[.int .i64 o, .int .i64 la, .int .i64 ep, .int .i64 ck, .int .i64 tl, .bool so]] W fun e w' => e = .returned (.bool (heldC ⟨o, la, ep, ck, tl, so⟩)) ∧ Below W.heap.size W w' := by
  have HQ : Hid (heldC ⟨o, la, ep, ck, tl, so⟩ = true) := hide (by unfold heldC; exact decide_eq_true ⟨hk, h1, h2⟩)
  have HC : Hid (chkC ⟨o, la, ep, ck, tl, so⟩ = 0) := hide (chk_yes hk)
  have d1 : (o == -1) = false := ne_eqL h1
  have d1n : (o != -1) = true := ne_neL h1
  have d2 : decide (tl > ck) = true := decide_eq_true h2
  obtain ⟨V, hV⟩ : ∃ V, V = W.alloc (.cells #[.int .i64 o, .int .i64 la, .int .i64 ep, .int .i64 ck, .int .i64 tl, .bool so] 39 (0, 0)) := ⟨_, rfl⟩
  have HV : Hid (V.heap[W.heap.size]? = some (.cells #[.int .i64 o, .int .i64 la, .int .i64 ep, .int .i64 ck, .int .i64 tl, .bool so] 39 (0, 0))) := hide (by rw [hV]; exact heap_alloc_new W _)
  have HBV : Hid (Below W.heap.size W V) := hide (by rw [hV]; exact alloc_below _ _)
  obtain ⟨bB, hbB⟩ : ∃ bB, W.heap.size = bB := ⟨_, rfl⟩
  rw [hbB] at HV HBV
  have HBB := hide hbB
  go_enter Try.func56, Try.ntmps56
  go_upto_region 1 with fail
  rw [← hV]
  try rw [hbB]
  clear hV hbB
  obtain ⟨_, _, _, _, _, _, u0, u1, u2, u3, u4, u5⟩ := six HV.out
  go_wp2_with fail
  refine (rcheck_any).mono ?_
  rw [HC.out]
  rintro _ w1 ⟨rfl, bb⟩
  have HV1 := hide (below_box bb HV.out)
  have HBV1 := hide (below_next HBV.out bb (Nat.le_of_lt (box_lt HV.out)))
  clear bb HV HBV u0 u1 u2 u3 u4 u5
  obtain ⟨_, _, _, _, _, _, u0, u1, u2, u3, u4, u5⟩ := six HV1.out
  go_wp2
  go_ret
  exact ⟨by first | rw [HQ.out]; rfl | rfl, by rw [HBB.out]; exact HBV1.out⟩

theorem rheld_any {W : World} {o la ep ck tl : Int} {so : Bool} : Calls Try.prog 56 #[.agg #[.int .i64 o, .int .i64 la, .int .i64 ep, .int .i64 ck, .int .i64 tl, .bool so]] W fun e w' => e = .returned (.bool (heldC ⟨o, la, ep, ck, tl, so⟩)) ∧ Below W.heap.size W w' := by
  by_cases hk : okL ⟨o, la, ep, ck, tl, so⟩
  · by_cases h1 : o = -1
    · exact rheld_2 hk h1
    · by_cases h2 : ck < tl
      · exact rheld_4 hk h1 h2
      · exact rheld_3 hk h1 h2
  · exact rheld_1 hk
set_option maxRecDepth 100000 in
theorem rclaim_1 {W : World} {o la ep ck tl : Int} {so : Bool} {r p : Int} (hk : ¬ okL ⟨o, la, ep, ck, tl, so⟩) :
    Calls Try.prog 58 #[.agg #[.int .i64 o, .int .i64 la, .int .i64 ep, .int .i64 ck, .int .i64 tl, .bool so], .int .i64 r, .int .i64 p] W fun e w' => e = .returned (.int .i64 (claimC ⟨o, la, ep, ck, tl, so⟩ r p)) ∧ Below W.heap.size W w' := by
  have HQ : Hid (claimC ⟨o, la, ep, ck, tl, so⟩ r p = 1) := hide (if_neg (fun h => hk h.1))
  have HC : Hid (chkC ⟨o, la, ep, ck, tl, so⟩ = 1) := hide (chk_no hk)
  obtain ⟨V, hV⟩ : ∃ V, V = W.alloc (.cells #[.int .i64 o, .int .i64 la, .int .i64 ep, .int .i64 ck, .int .i64 tl, .bool so] 39 (0, 0)) := ⟨_, rfl⟩
  have HV : Hid (V.heap[W.heap.size]? = some (.cells #[.int .i64 o, .int .i64 la, .int .i64 ep, .int .i64 ck, .int .i64 tl, .bool so] 39 (0, 0))) := hide (by rw [hV]; exact heap_alloc_new W _)
  have HBV : Hid (Below W.heap.size W V) := hide (by rw [hV]; exact alloc_below _ _)
  obtain ⟨bB, hbB⟩ : ∃ bB, W.heap.size = bB := ⟨_, rfl⟩
  rw [hbB] at HV HBV
  have HBB := hide hbB
  go_enter Try.func58, Try.ntmps58
  go_upto_region 1 with fail
  rw [← hV]
  try rw [hbB]
  clear hV hbB
  obtain ⟨_, _, _, _, _, _, u0, u1, u2, u3, u4, u5⟩ := six HV.out
  go_wp2_with fail
  refine (rcheck_any).mono ?_
  rw [HC.out]
  rintro _ w1 ⟨rfl, bb⟩
  have HV1 := hide (below_box bb HV.out)
  have HBV1 := hide (below_next HBV.out bb (Nat.le_of_lt (box_lt HV.out)))
  clear bb HV HBV u0 u1 u2 u3 u4 u5
  obtain ⟨_, _, _, _, _, _, u0, u1, u2, u3, u4, u5⟩ := six HV1.out
  go_wp2
  go_ret
  exact ⟨by first | rw [HQ.out]; rfl | rfl, by rw [HBB.out]; exact HBV1.out⟩

set_option maxRecDepth 100000 in
theorem rclaim_2 {W : World} {o la ep ck tl : Int} {so : Bool} {r p : Int} (hk : okL ⟨o, la, ep, ck, tl, so⟩) (h1 : ¬ (0 ≤ r ∧ r < 2)) :
    Calls Try.prog 58 #[.agg #[.int .i64 o, .int .i64 la, .int .i64 ep, .int .i64 ck, .int .i64 tl, .bool so], .int .i64 r, .int .i64 p] W fun e w' => e = .returned (.int .i64 (claimC ⟨o, la, ep, ck, tl, so⟩ r p)) ∧ Below W.heap.size W w' := by
  have HQ : Hid (claimC ⟨o, la, ep, ck, tl, so⟩ r p = 1) := hide (if_neg (fun h => h1 h.2))
  have HC : Hid (chkC ⟨o, la, ep, ck, tl, so⟩ = 0) := hide (chk_yes hk)
  have e1 : regC r = false := reg_no h1
  obtain ⟨V, hV⟩ : ∃ V, V = W.alloc (.cells #[.int .i64 o, .int .i64 la, .int .i64 ep, .int .i64 ck, .int .i64 tl, .bool so] 39 (0, 0)) := ⟨_, rfl⟩
  have HV : Hid (V.heap[W.heap.size]? = some (.cells #[.int .i64 o, .int .i64 la, .int .i64 ep, .int .i64 ck, .int .i64 tl, .bool so] 39 (0, 0))) := hide (by rw [hV]; exact heap_alloc_new W _)
  have HBV : Hid (Below W.heap.size W V) := hide (by rw [hV]; exact alloc_below _ _)
  obtain ⟨bB, hbB⟩ : ∃ bB, W.heap.size = bB := ⟨_, rfl⟩
  rw [hbB] at HV HBV
  have HBB := hide hbB
  go_enter Try.func58, Try.ntmps58
  go_upto_region 1 with fail
  rw [← hV]
  try rw [hbB]
  clear hV hbB
  obtain ⟨_, _, _, _, _, _, u0, u1, u2, u3, u4, u5⟩ := six HV.out
  go_wp2_with fail
  refine (rcheck_any).mono ?_
  rw [HC.out]
  rintro _ w1 ⟨rfl, bb⟩
  have HV1 := hide (below_box bb HV.out)
  have HBV1 := hide (below_next HBV.out bb (Nat.le_of_lt (box_lt HV.out)))
  clear bb HV HBV u0 u1 u2 u3 u4 u5
  obtain ⟨_, _, _, _, _, _, u0, u1, u2, u3, u4, u5⟩ := six HV1.out
  go_wp2_with (first | (go_at_call 54; refine rreg_any.mono ?_; rw [e1]; rintro _ w1 ⟨rfl, rfl⟩))
  go_ret
  exact ⟨by first | rw [HQ.out]; rfl | rfl, by rw [HBB.out]; exact HBV1.out⟩

set_option maxRecDepth 100000 in
theorem rclaim_3 {W : World} {o la ep ck tl : Int} {so : Bool} {r p : Int} (hk : okL ⟨o, la, ep, ck, tl, so⟩) (h1 : 0 ≤ r ∧ r < 2) (h2 : o ≠ r) :
    Calls Try.prog 58 #[.agg #[.int .i64 o, .int .i64 la, .int .i64 ep, .int .i64 ck, .int .i64 tl, .bool so], .int .i64 r, .int .i64 p] W fun e w' => e = .returned (.int .i64 (claimC ⟨o, la, ep, ck, tl, so⟩ r p)) ∧ Below W.heap.size W w' := by
  have HQ : Hid (claimC ⟨o, la, ep, ck, tl, so⟩ r p = 132) := hide ((if_pos ⟨hk, h1⟩).trans (if_neg (fun h => h2 h.1)))
  have HC : Hid (chkC ⟨o, la, ep, ck, tl, so⟩ = 0) := hide (chk_yes hk)
  have e1 : regC r = true := reg_yes h1
  have d2 : (o == r) = false := ne_eqL h2
  have d3 : (o != r) = true := ne_neL h2
  obtain ⟨V, hV⟩ : ∃ V, V = W.alloc (.cells #[.int .i64 o, .int .i64 la, .int .i64 ep, .int .i64 ck, .int .i64 tl, .bool so] 39 (0, 0)) := ⟨_, rfl⟩
  have HV : Hid (V.heap[W.heap.size]? = some (.cells #[.int .i64 o, .int .i64 la, .int .i64 ep, .int .i64 ck, .int .i64 tl, .bool so] 39 (0, 0))) := hide (by rw [hV]; exact heap_alloc_new W _)
  have HBV : Hid (Below W.heap.size W V) := hide (by rw [hV]; exact alloc_below _ _)
  obtain ⟨bB, hbB⟩ : ∃ bB, W.heap.size = bB := ⟨_, rfl⟩
  rw [hbB] at HV HBV
  have HBB := hide hbB
  go_enter Try.func58, Try.ntmps58
  go_upto_region 1 with fail
  rw [← hV]
  try rw [hbB]
  clear hV hbB
  obtain ⟨_, _, _, _, _, _, u0, u1, u2, u3, u4, u5⟩ := six HV.out
  go_wp2_with fail
  refine (rcheck_any).mono ?_
  rw [HC.out]
  rintro _ w1 ⟨rfl, bb⟩
  have HV1 := hide (below_box bb HV.out)
  have HBV1 := hide (below_next HBV.out bb (Nat.le_of_lt (box_lt HV.out)))
  clear bb HV HBV u0 u1 u2 u3 u4 u5
  obtain ⟨_, _, _, _, _, _, u0, u1, u2, u3, u4, u5⟩ := six HV1.out
  go_wp2_with (first | (go_at_call 54; refine rreg_any.mono ?_; rw [e1]; rintro _ w1 ⟨rfl, rfl⟩))
  go_ret
  exact ⟨by rw [HQ.out]; rfl, by rw [HBB.out]; exact HBV1.out⟩

set_option maxRecDepth 100000 in
theorem rclaim_4 {W : World} {o la ep ck tl : Int} {so : Bool} {r p : Int} (hk : okL ⟨o, la, ep, ck, tl, so⟩) (h1 : 0 ≤ r ∧ r < 2) (h2 : o = r) (h3 : ep ≠ p) :
    Calls Try.prog 58 #[.agg #[.int .i64 o, .int .i64 la, .int .i64 ep, .int .i64 ck, .int .i64 tl, .bool so], .int .i64 r, .int .i64 p] W fun e w' => e = .returned (.int .i64 (claimC ⟨o, la, ep, ck, tl, so⟩ r p)) ∧ Below W.heap.size W w' := by
  have HQ : Hid (claimC ⟨o, la, ep, ck, tl, so⟩ r p = 132) := hide ((if_pos ⟨hk, h1⟩).trans (if_neg (fun h => h3 h.2)))
  have HC : Hid (chkC ⟨o, la, ep, ck, tl, so⟩ = 0) := hide (chk_yes hk)
  have e1 : regC r = true := reg_yes h1
  have d2 : (ep == p) = false := ne_eqL h3
  have d3 : (ep != p) = true := ne_neL h3
  subst h2
  obtain ⟨V, hV⟩ : ∃ V, V = W.alloc (.cells #[.int .i64 o, .int .i64 la, .int .i64 ep, .int .i64 ck, .int .i64 tl, .bool so] 39 (0, 0)) := ⟨_, rfl⟩
  have HV : Hid (V.heap[W.heap.size]? = some (.cells #[.int .i64 o, .int .i64 la, .int .i64 ep, .int .i64 ck, .int .i64 tl, .bool so] 39 (0, 0))) := hide (by rw [hV]; exact heap_alloc_new W _)
  have HBV : Hid (Below W.heap.size W V) := hide (by rw [hV]; exact alloc_below _ _)
  obtain ⟨bB, hbB⟩ : ∃ bB, W.heap.size = bB := ⟨_, rfl⟩
  rw [hbB] at HV HBV
  have HBB := hide hbB
  go_enter Try.func58, Try.ntmps58
  go_upto_region 1 with fail
  rw [← hV]
  try rw [hbB]
  clear hV hbB
  obtain ⟨_, _, _, _, _, _, u0, u1, u2, u3, u4, u5⟩ := six HV.out
  go_wp2_with fail
  refine (rcheck_any).mono ?_
  rw [HC.out]
  rintro _ w1 ⟨rfl, bb⟩
  have HV1 := hide (below_box bb HV.out)
  have HBV1 := hide (below_next HBV.out bb (Nat.le_of_lt (box_lt HV.out)))
  clear bb HV HBV u0 u1 u2 u3 u4 u5
  obtain ⟨_, _, _, _, _, _, u0, u1, u2, u3, u4, u5⟩ := six HV1.out
  go_wp2_with (first | (go_at_call 54; refine rreg_any.mono ?_; rw [e1]; rintro _ w1 ⟨rfl, rfl⟩))
  go_ret
  exact ⟨by rw [HQ.out]; rfl, by rw [HBB.out]; exact HBV1.out⟩

set_option maxRecDepth 100000 in
theorem rclaim_5 {W : World} {o la ep ck tl : Int} {so : Bool} {r p : Int} (hk : okL ⟨o, la, ep, ck, tl, so⟩) (h1 : 0 ≤ r ∧ r < 2) (h2 : o = r) (h3 : ep = p) :
    Calls Try.prog 58 #[.agg #[.int .i64 o, .int .i64 la, .int .i64 ep, .int .i64 ck, .int .i64 tl, .bool so], .int .i64 r, .int .i64 p] W fun e w' => e = .returned (.int .i64 (claimC ⟨o, la, ep, ck, tl, so⟩ r p)) ∧ Below W.heap.size W w' := by
  have HQ : Hid (claimC ⟨o, la, ep, ck, tl, so⟩ r p = 0) := hide ((if_pos ⟨hk, h1⟩).trans (if_pos ⟨h2, h3⟩))
  have HC : Hid (chkC ⟨o, la, ep, ck, tl, so⟩ = 0) := hide (chk_yes hk)
  have e1 : regC r = true := reg_yes h1
  subst h2
  subst h3
  obtain ⟨V, hV⟩ : ∃ V, V = W.alloc (.cells #[.int .i64 o, .int .i64 la, .int .i64 ep, .int .i64 ck, .int .i64 tl, .bool so] 39 (0, 0)) := ⟨_, rfl⟩
  have HV : Hid (V.heap[W.heap.size]? = some (.cells #[.int .i64 o, .int .i64 la, .int .i64 ep, .int .i64 ck, .int .i64 tl, .bool so] 39 (0, 0))) := hide (by rw [hV]; exact heap_alloc_new W _)
  have HBV : Hid (Below W.heap.size W V) := hide (by rw [hV]; exact alloc_below _ _)
  obtain ⟨bB, hbB⟩ : ∃ bB, W.heap.size = bB := ⟨_, rfl⟩
  rw [hbB] at HV HBV
  have HBB := hide hbB
  go_enter Try.func58, Try.ntmps58
  go_upto_region 1 with fail
  rw [← hV]
  try rw [hbB]
  clear hV hbB
  obtain ⟨_, _, _, _, _, _, u0, u1, u2, u3, u4, u5⟩ := six HV.out
  go_wp2_with fail
  refine (rcheck_any).mono ?_
  rw [HC.out]
  rintro _ w1 ⟨rfl, bb⟩
  have HV1 := hide (below_box bb HV.out)
  have HBV1 := hide (below_next HBV.out bb (Nat.le_of_lt (box_lt HV.out)))
  clear bb HV HBV u0 u1 u2 u3 u4 u5
  obtain ⟨_, _, _, _, _, _, u0, u1, u2, u3, u4, u5⟩ := six HV1.out
  go_wp2_with (first | (go_at_call 54; refine rreg_any.mono ?_; rw [e1]; rintro _ w1 ⟨rfl, rfl⟩))
  go_ret
  exact ⟨by rw [HQ.out]; rfl, by rw [HBB.out]; exact HBV1.out⟩

theorem rclaim_any {W : World} {o la ep ck tl : Int} {so : Bool} {r p : Int} : Calls Try.prog 58 #[.agg #[.int .i64 o, .int .i64 la, .int .i64 ep, .int .i64 ck, .int .i64 tl, .bool so], .int .i64 r, .int .i64 p] W fun e w' => e = .returned (.int .i64 (claimC ⟨o, la, ep, ck, tl, so⟩ r p)) ∧ Below W.heap.size W w' := by
  by_cases hk : okL ⟨o, la, ep, ck, tl, so⟩
  · by_cases h1 : 0 ≤ r ∧ r < 2
    · by_cases h2 : o = r
      · by_cases h3 : ep = p
        · exact rclaim_5 hk h1 h2 h3
        · exact rclaim_4 hk h1 h2 h3
      · exact rclaim_3 hk h1 h2
    · exact rclaim_2 hk h1
  · exact rclaim_1 hk
set_option maxRecDepth 100000 in
set_option maxHeartbeats 2000000 in
theorem rtick_1 {W : World} {o la ep ck tl : Int} {so : Bool} {n : Int} (hk : ¬ okL ⟨o, la, ep, ck, tl, so⟩) :
    Calls Try.prog 37 #[.agg #[.int .i64 o, .int .i64 la, .int .i64 ep, .int .i64 ck, .int .i64 tl, .bool so], .int .i64 n] W fun e w' => e = .returned (LE.val (tickC ⟨o, la, ep, ck, tl, so⟩ n)) ∧ Below W.heap.size W w' := by
  have HQ : Hid (tickC ⟨o, la, ep, ck, tl, so⟩ n = ⟨o, la, ep, ck, tl, so⟩) := hide (if_neg hk)
  have HC : Hid (chkC ⟨o, la, ep, ck, tl, so⟩ = 1) := hide (chk_no hk)
  obtain ⟨V0, hV0⟩ : ∃ V0, V0 = W.alloc (.cells #[.int .i64 o, .int .i64 la, .int .i64 ep, .int .i64 ck, .int .i64 tl, .bool so] 39 (0, 0)) := ⟨_, rfl⟩
  obtain ⟨V, hV⟩ : ∃ V, V = V0.alloc (.cells #[.int .i64 0, .int .i64 0, .int .i64 0, .int .i64 0, .int .i64 0, .bool false] 39 (0, 0)) := ⟨_, rfl⟩
  have bV0 : Below W.heap.size W V0 := by rw [hV0]; exact alloc_below _ _
  have bV1 : Below V0.heap.size V0 V := by rw [hV]; exact alloc_below _ _
  have v0 : V0.heap[W.heap.size]? = some (.cells #[.int .i64 o, .int .i64 la, .int .i64 ep, .int .i64 ck, .int .i64 tl, .bool so] 39 (0, 0)) := by rw [hV0]; exact heap_alloc_new W _
  have v1 : V.heap[V0.heap.size]? = some (.cells #[.int .i64 0, .int .i64 0, .int .i64 0, .int .i64 0, .int .i64 0, .bool false] 39 (0, 0)) := by rw [hV]; exact heap_alloc_new V0 _
  have v2 := below_box bV1 v0
  have hlt := box_lt v0
  have hs0 : V0.heap.size = W.heap.size + 1 := by rw [hV0]; simp
  obtain ⟨bB, hbB⟩ : ∃ bB, W.heap.size = bB := ⟨_, rfl⟩
  obtain ⟨rB, hrB⟩ : ∃ rB, V0.heap.size = rB := ⟨_, rfl⟩
  have hrb : bB + 1 = rB := by omega
  rw [hbB, hrB] at hlt
  rw [hbB] at v2
  rw [hrB] at v1
  have HBW0 : Hid (Below bB W V) := hide (by rw [← hbB]; exact below_next bV0 bV1 bV0.size)
  have HBX0 := hide v2
  have HRS0 := hide v1
  have HBB := hide hbB
  have HLT := hide hlt
  have HSZ0 := hide (box_lt v1)
  clear v0 v1 v2 bV0 bV1
  go_enter Try.func37, Try.ntmps37
  go_upto_region 1 with fail
  try rw [hbB]
  try rw [hrb]
  rw [← hV0, ← hV]
  try rw [hrB]
  clear hV0 hV hbB hrB hs0 hrb hlt
  obtain ⟨_, _, _, _, _, _, u0, u1, u2, u3, u4, u5⟩ := six HBX0.out
  go_wp2_with fail
  refine (rcheck_any).mono ?_
  rw [HC.out]
  rintro _ w1 ⟨rfl, b1⟩
  have HBX1 := hide (below_box b1 HBX0.out)
  have HRS1 := hide (below_box b1 HRS0.out)
  have HBW1 := hide (below_next HBW0.out b1 (by have := HLT.out; have := HSZ0.out; omega))
  have HSZ1 := hide (box_lt HRS1.out)
  clear b1 HBX0 HRS0 HBW0 HSZ0 u0 u1 u2 u3 u4 u5
  obtain ⟨_, _, _, _, _, _, u0, u1, u2, u3, u4, u5⟩ := six HBX1.out
  obtain ⟨f0, f1, f2, f3, f4, f5, r0, r1, r2, r3, r4, r5⟩ := six HRS1.out
  go_wp2
  have hE := heap_set6 HRS1.out (.int .i64 o) (.int .i64 la) (.int .i64 ep) (.int .i64 ck) (.int .i64 tl) (.bool so)
  refine bodyPost_ret (results_cell_row rfl _ _ rB 39 _ _ _ rfl hE Try.underlying39 rfl (by kernel_rfl)) rfl ?_
  refine ⟨by rw [HQ.out]; rfl, ?_⟩
  rw [HBB.out]
  exact HBW1.out.trans ((only_set6 _ rB _ _ _ _ _ _).below (by have := HLT.out; have := HSZ1.out; omega) (fun i e => by have e' : i = rB := e; have := HLT.out; omega))

set_option maxRecDepth 100000 in
set_option maxHeartbeats 2000000 in
theorem rtick_2 {W : World} {o la ep ck tl : Int} {so : Bool} {n : Int} (hk : okL ⟨o, la, ep, ck, tl, so⟩) (hn : 0 < n) :
    Calls Try.prog 37 #[.agg #[.int .i64 o, .int .i64 la, .int .i64 ep, .int .i64 ck, .int .i64 tl, .bool so], .int .i64 n] W fun e w' => e = .returned (LE.val (tickC ⟨o, la, ep, ck, tl, so⟩ n)) ∧ Below W.heap.size W w' := by
  have HQ : Hid (tickC ⟨o, la, ep, ck, tl, so⟩ n = ⟨o, la, ep, laterC ck n, tl, so⟩) := hide (if_pos hk)
  have HC : Hid (chkC ⟨o, la, ep, ck, tl, so⟩ = 0) := hide (chk_yes hk)
  have HK : Hid (0 ≤ ck ∧ ck ≤ 9007199254740992) := hide (by have := hk; unfold okL at this; simp only at this; omega)
  obtain ⟨lc, hlc⟩ : ∃ lc, laterC ck n = lc := ⟨_, rfl⟩
  rw [hlc] at HQ
  have HLC := hide hlc
  have HN := hide hn
  have d1 : decide (n > 0) = true := decide_eq_true hn
  clear hlc hn
  obtain ⟨V0, hV0⟩ : ∃ V0, V0 = W.alloc (.cells #[.int .i64 o, .int .i64 la, .int .i64 ep, .int .i64 ck, .int .i64 tl, .bool so] 39 (0, 0)) := ⟨_, rfl⟩
  obtain ⟨V, hV⟩ : ∃ V, V = V0.alloc (.cells #[.int .i64 0, .int .i64 0, .int .i64 0, .int .i64 0, .int .i64 0, .bool false] 39 (0, 0)) := ⟨_, rfl⟩
  have bV0 : Below W.heap.size W V0 := by rw [hV0]; exact alloc_below _ _
  have bV1 : Below V0.heap.size V0 V := by rw [hV]; exact alloc_below _ _
  have v0 : V0.heap[W.heap.size]? = some (.cells #[.int .i64 o, .int .i64 la, .int .i64 ep, .int .i64 ck, .int .i64 tl, .bool so] 39 (0, 0)) := by rw [hV0]; exact heap_alloc_new W _
  have v1 : V.heap[V0.heap.size]? = some (.cells #[.int .i64 0, .int .i64 0, .int .i64 0, .int .i64 0, .int .i64 0, .bool false] 39 (0, 0)) := by rw [hV]; exact heap_alloc_new V0 _
  have v2 := below_box bV1 v0
  have hlt := box_lt v0
  have hs0 : V0.heap.size = W.heap.size + 1 := by rw [hV0]; simp
  obtain ⟨bB, hbB⟩ : ∃ bB, W.heap.size = bB := ⟨_, rfl⟩
  obtain ⟨rB, hrB⟩ : ∃ rB, V0.heap.size = rB := ⟨_, rfl⟩
  have hrb : bB + 1 = rB := by omega
  rw [hbB, hrB] at hlt
  rw [hbB] at v2
  rw [hrB] at v1
  have HBW0 : Hid (Below bB W V) := hide (by rw [← hbB]; exact below_next bV0 bV1 bV0.size)
  have HBX0 := hide v2
  have HRS0 := hide v1
  have HBB := hide hbB
  have HLT := hide hlt
  have HSZ0 := hide (box_lt v1)
  clear v0 v1 v2 bV0 bV1
  go_enter Try.func37, Try.ntmps37
  go_upto_region 1 with fail
  try rw [hbB]
  try rw [hrb]
  rw [← hV0, ← hV]
  try rw [hrB]
  clear hV0 hV hbB hrB hs0 hrb hlt
  obtain ⟨_, _, _, _, _, _, u0, u1, u2, u3, u4, u5⟩ := six HBX0.out
  go_wp2_with fail
  refine (rcheck_any).mono ?_
  rw [HC.out]
  rintro _ w1 ⟨rfl, b1⟩
  have HBX1 := hide (below_box b1 HBX0.out)
  have HRS1 := hide (below_box b1 HRS0.out)
  have HBW1 := hide (below_next HBW0.out b1 (by have := HLT.out; have := HSZ0.out; omega))
  have HSZ1 := hide (box_lt HRS1.out)
  clear b1 HBX0 HRS0 HBW0 HSZ0 u0 u1 u2 u3 u4 u5
  obtain ⟨_, _, _, _, _, _, u0, u1, u2, u3, u4, u5⟩ := six HBX1.out
  have hfz := (six HBX1.out).f3
  go_upto_region 3 with ((go_at_call 49; refine (more_any HK.out.1 HK.out.2 HN.out).mono ?_; rw [HLC.out]; rintro _ w1 ⟨rfl, rfl⟩))
  obtain ⟨X, hX⟩ : ∃ X, X = (w1.setCell ⟨bB, 3, none⟩ (.int .i64 lc)) := ⟨_, rfl⟩
  have oX : Only (· = bB) w1 X := by rw [hX]; exact (Only.set (F := (· = bB)) _ bB 3 (.int .i64 lc) rfl)
  have HBX2 : Hid (X.heap[bB]? = some (.cells #[.int .i64 o, .int .i64 la, .int .i64 ep, .int .i64 lc, .int .i64 tl, .bool so] 39 (0, 0))) := hide (by rw [hX]; exact (heap_set_sameL HBX1.out 3 (.int .i64 lc)))
  have HRS2 := hide (oX.obj HRS1.out (fun e => by have e' : rB = bB := e; have := HLT.out; omega))
  have HBW2 := hide (HBW1.out.trans (oX.below (by have := HLT.out; have := HSZ1.out; omega) (fun i e => by have e' : i = bB := e; omega)))
  have HSZ2 := hide (box_lt HRS2.out)
  rw [← hX]
  clear hX oX HBX1 HRS1 HBW1 HSZ1 u0 u1 u2 u3 u4 u5
  obtain ⟨_, _, _, _, _, _, u0, u1, u2, u3, u4, u5⟩ := six HBX2.out
  obtain ⟨f0, f1, f2, f3, f4, f5, r0, r1, r2, r3, r4, r5⟩ := six HRS2.out
  go_wp2
  have hE := heap_set6 HRS2.out (.int .i64 o) (.int .i64 la) (.int .i64 ep) (.int .i64 lc) (.int .i64 tl) (.bool so)
  refine bodyPost_ret (results_cell_row rfl _ _ rB 39 _ _ _ rfl hE Try.underlying39 rfl (by kernel_rfl)) rfl ?_
  refine ⟨by rw [HQ.out]; rfl, ?_⟩
  rw [HBB.out]
  exact HBW2.out.trans ((only_set6 _ rB _ _ _ _ _ _).below (by have := HLT.out; have := HSZ2.out; omega) (fun i e => by have e' : i = rB := e; have := HLT.out; omega))

set_option maxRecDepth 100000 in
set_option maxHeartbeats 2000000 in
theorem rtick_3 {W : World} {o la ep ck tl : Int} {so : Bool} {n : Int} (hk : okL ⟨o, la, ep, ck, tl, so⟩) (hn : ¬ 0 < n) :
    Calls Try.prog 37 #[.agg #[.int .i64 o, .int .i64 la, .int .i64 ep, .int .i64 ck, .int .i64 tl, .bool so], .int .i64 n] W fun e w' => e = .returned (LE.val (tickC ⟨o, la, ep, ck, tl, so⟩ n)) ∧ Below W.heap.size W w' := by
  have HQ : Hid (tickC ⟨o, la, ep, ck, tl, so⟩ n = ⟨o, la, ep, ck, tl, so⟩) := hide ((if_pos hk).trans (by have h := hk; unfold okL at h; simp only at h; rw [show laterC ck n = ck by unfold laterC; omega]))
  have HC : Hid (chkC ⟨o, la, ep, ck, tl, so⟩ = 0) := hide (chk_yes hk)
  have d1 : decide (n > 0) = false := decide_eq_false hn
  clear hn
  obtain ⟨V0, hV0⟩ : ∃ V0, V0 = W.alloc (.cells #[.int .i64 o, .int .i64 la, .int .i64 ep, .int .i64 ck, .int .i64 tl, .bool so] 39 (0, 0)) := ⟨_, rfl⟩
  obtain ⟨V, hV⟩ : ∃ V, V = V0.alloc (.cells #[.int .i64 0, .int .i64 0, .int .i64 0, .int .i64 0, .int .i64 0, .bool false] 39 (0, 0)) := ⟨_, rfl⟩
  have bV0 : Below W.heap.size W V0 := by rw [hV0]; exact alloc_below _ _
  have bV1 : Below V0.heap.size V0 V := by rw [hV]; exact alloc_below _ _
  have v0 : V0.heap[W.heap.size]? = some (.cells #[.int .i64 o, .int .i64 la, .int .i64 ep, .int .i64 ck, .int .i64 tl, .bool so] 39 (0, 0)) := by rw [hV0]; exact heap_alloc_new W _
  have v1 : V.heap[V0.heap.size]? = some (.cells #[.int .i64 0, .int .i64 0, .int .i64 0, .int .i64 0, .int .i64 0, .bool false] 39 (0, 0)) := by rw [hV]; exact heap_alloc_new V0 _
  have v2 := below_box bV1 v0
  have hlt := box_lt v0
  have hs0 : V0.heap.size = W.heap.size + 1 := by rw [hV0]; simp
  obtain ⟨bB, hbB⟩ : ∃ bB, W.heap.size = bB := ⟨_, rfl⟩
  obtain ⟨rB, hrB⟩ : ∃ rB, V0.heap.size = rB := ⟨_, rfl⟩
  have hrb : bB + 1 = rB := by omega
  rw [hbB, hrB] at hlt
  rw [hbB] at v2
  rw [hrB] at v1
  have HBW0 : Hid (Below bB W V) := hide (by rw [← hbB]; exact below_next bV0 bV1 bV0.size)
  have HBX0 := hide v2
  have HRS0 := hide v1
  have HBB := hide hbB
  have HLT := hide hlt
  have HSZ0 := hide (box_lt v1)
  clear v0 v1 v2 bV0 bV1
  go_enter Try.func37, Try.ntmps37
  go_upto_region 1 with fail
  try rw [hbB]
  try rw [hrb]
  rw [← hV0, ← hV]
  try rw [hrB]
  clear hV0 hV hbB hrB hs0 hrb hlt
  obtain ⟨_, _, _, _, _, _, u0, u1, u2, u3, u4, u5⟩ := six HBX0.out
  go_wp2_with fail
  refine (rcheck_any).mono ?_
  rw [HC.out]
  rintro _ w1 ⟨rfl, b1⟩
  have HBX1 := hide (below_box b1 HBX0.out)
  have HRS1 := hide (below_box b1 HRS0.out)
  have HBW1 := hide (below_next HBW0.out b1 (by have := HLT.out; have := HSZ0.out; omega))
  have HSZ1 := hide (box_lt HRS1.out)
  clear b1 HBX0 HRS0 HBW0 HSZ0 u0 u1 u2 u3 u4 u5
  obtain ⟨_, _, _, _, _, _, u0, u1, u2, u3, u4, u5⟩ := six HBX1.out
  obtain ⟨f0, f1, f2, f3, f4, f5, r0, r1, r2, r3, r4, r5⟩ := six HRS1.out
  go_wp2
  have hE := heap_set6 HRS1.out (.int .i64 o) (.int .i64 la) (.int .i64 ep) (.int .i64 ck) (.int .i64 tl) (.bool so)
  refine bodyPost_ret (results_cell_row rfl _ _ rB 39 _ _ _ rfl hE Try.underlying39 rfl (by kernel_rfl)) rfl ?_
  refine ⟨by rw [HQ.out]; rfl, ?_⟩
  rw [HBB.out]
  exact HBW1.out.trans ((only_set6 _ rB _ _ _ _ _ _).below (by have := HLT.out; have := HSZ1.out; omega) (fun i e => by have e' : i = rB := e; have := HLT.out; omega))

theorem rtick_any {W : World} {o la ep ck tl : Int} {so : Bool} {n : Int} : Calls Try.prog 37 #[.agg #[.int .i64 o, .int .i64 la, .int .i64 ep, .int .i64 ck, .int .i64 tl, .bool so], .int .i64 n] W fun e w' => e = .returned (LE.val (tickC ⟨o, la, ep, ck, tl, so⟩ n)) ∧ Below W.heap.size W w' := by
  by_cases hk : okL ⟨o, la, ep, ck, tl, so⟩
  · by_cases hn : 0 < n
    · exact rtick_2 hk hn
    · exact rtick_3 hk hn
  · exact rtick_1 hk
set_option maxRecDepth 100000 in
set_option maxHeartbeats 2000000 in
theorem rgrant_1 {W : World} {o la ep ck tl : Int} {so : Bool} {r : Int} (hk : okL ⟨o, la, ep, ck, tl, so⟩) (h1 : ep ≠ 9007199254740992) (h2 : la = r) :
    Calls Try.prog 57 #[.agg #[.int .i64 o, .int .i64 la, .int .i64 ep, .int .i64 ck, .int .i64 tl, .bool so], .int .i64 r] W fun e w' => e = .returned (LE.val (grantC ⟨o, la, ep, ck, tl, so⟩ r).1) ∧ Below W.heap.size W w' := by
  have HK : Hid (0 ≤ ck ∧ ck ≤ 9007199254740992) := hide (by have := hk; unfold okL at this; simp only at this; omega)
  have hew : IntKind.i64.wrap (ep + 1) = ep + 1 := by have := hk; unfold okL at this; simp only at this; rw [IntKind.wrap_i64]; omega
  obtain ⟨lc, hlc⟩ : ∃ lc, laterC ck 16 = lc := ⟨_, rfl⟩
  obtain ⟨ne, hne⟩ : ∃ ne, ep + 1 = ne := ⟨_, rfl⟩
  have HQ : Hid ((grantC ⟨o, la, ep, ck, tl, so⟩ r).1 = ⟨r, r, ne, ck, lc, so⟩) := hide (by unfold grantC; rw [if_neg h1]; simp only [hlc, hne, h2, decide_true, Bool.and_true])
  have hew2 : IntKind.i64.wrap (ep + 1) = ne := hew.trans hne
  have HLC := hide hlc
  have d2 : (la != r) = false := by simp [h2]
  have d3 : (la == r) = true := by simp [h2]
  clear hlc h1 hk hew hne h2
  obtain ⟨V0, hV0⟩ : ∃ V0, V0 = W.alloc (.cells #[.int .i64 o, .int .i64 la, .int .i64 ep, .int .i64 ck, .int .i64 tl, .bool so] 39 (0, 0)) := ⟨_, rfl⟩
  obtain ⟨V, hV⟩ : ∃ V, V = V0.alloc (.cells #[.int .i64 0, .int .i64 0, .int .i64 0, .int .i64 0, .int .i64 0, .bool false] 39 (0, 0)) := ⟨_, rfl⟩
  have bV0 : Below W.heap.size W V0 := by rw [hV0]; exact alloc_below _ _
  have bV1 : Below V0.heap.size V0 V := by rw [hV]; exact alloc_below _ _
  have v0 : V0.heap[W.heap.size]? = some (.cells #[.int .i64 o, .int .i64 la, .int .i64 ep, .int .i64 ck, .int .i64 tl, .bool so] 39 (0, 0)) := by rw [hV0]; exact heap_alloc_new W _
  have v1 : V.heap[V0.heap.size]? = some (.cells #[.int .i64 0, .int .i64 0, .int .i64 0, .int .i64 0, .int .i64 0, .bool false] 39 (0, 0)) := by rw [hV]; exact heap_alloc_new V0 _
  have v2 := below_box bV1 v0
  have hlt := box_lt v0
  have hs0 : V0.heap.size = W.heap.size + 1 := by rw [hV0]; simp
  obtain ⟨bB, hbB⟩ : ∃ bB, W.heap.size = bB := ⟨_, rfl⟩
  obtain ⟨rB, hrB⟩ : ∃ rB, V0.heap.size = rB := ⟨_, rfl⟩
  have hrb : bB + 1 = rB := by omega
  rw [hbB, hrB] at hlt
  rw [hbB] at v2
  rw [hrB] at v1
  have HBW0 : Hid (Below bB W V) := hide (by rw [← hbB]; exact below_next bV0 bV1 bV0.size)
  have HBX0 := hide v2
  have HRS0 := hide v1
  have HBB := hide hbB
  have HLT := hide hlt
  have HSZ0 := hide (box_lt v1)
  clear v0 v1 v2 bV0 bV1
  go_enter Try.func57, Try.ntmps57
  go_upto_region 1 with fail
  try rw [hbB]
  try rw [hrb]
  rw [← hV0, ← hV]
  try rw [hrB]
  clear hV0 hV hbB hrB hs0 hrb hlt
  obtain ⟨_, _, _, _, _, _, u0, u1, u2, u3, u4, u5⟩ := six HBX0.out
  obtain ⟨q0, q1, q2, q3, q4, q5, _, _, _, _, _, _⟩ := six HBX0.out
  go_upto_region 5 with fail
  clear q0 q1 q2 q3 q4 q5
  obtain ⟨X, hX⟩ : ∃ X, X = (((V.setCell ⟨bB, 0, none⟩ (.int .i64 r)).setCell ⟨bB, 1, none⟩ (.int .i64 r)).setCell ⟨bB, 2, none⟩ (.int .i64 ne)) := ⟨_, rfl⟩
  have oX : Only (· = bB) V X := by rw [hX]; exact (((Only.set (F := (· = bB)) _ bB 0 (.int .i64 r) rfl).trans (Only.set (F := (· = bB)) _ bB 1 (.int .i64 r) rfl)).trans (Only.set (F := (· = bB)) _ bB 2 (.int .i64 ne) rfl))
  have HBX1 : Hid (X.heap[bB]? = some (.cells #[.int .i64 r, .int .i64 r, .int .i64 ne, .int .i64 ck, .int .i64 tl, .bool so] 39 (0, 0))) := hide (by rw [hX]; exact (heap_set_sameL (heap_set_sameL (heap_set_sameL HBX0.out 0 (.int .i64 r)) 1 (.int .i64 r)) 2 (.int .i64 ne)))
  have HRS1 := hide (oX.obj HRS0.out (fun e => by have e' : rB = bB := e; have := HLT.out; omega))
  have HBW1 := hide (HBW0.out.trans (oX.below (by have := HLT.out; have := HSZ0.out; omega) (fun i e => by have e' : i = bB := e; omega)))
  have HSZ1 := hide (box_lt HRS1.out)
  rw [← hX]
  clear hX oX HBX0 HRS0 HBW0 HSZ0 u0 u1 u2 u3 u4 u5
  obtain ⟨_, _, _, _, _, _, u0, u1, u2, u3, u4, u5⟩ := six HBX1.out
  have q4 := (six HBX1.out).f4
  go_upto_region 6 with ((go_at_call 49; refine (more_any HK.out.1 HK.out.2 (by decide)).mono ?_; rw [HLC.out]; rintro _ X ⟨rfl, rfl⟩))
  obtain ⟨Y, hY⟩ : ∃ Y, Y = (X.setCell ⟨bB, 4, none⟩ (.int .i64 lc)) := ⟨_, rfl⟩
  have oY : Only (· = bB) X Y := by rw [hY]; exact (Only.set (F := (· = bB)) _ bB 4 (.int .i64 lc) rfl)
  have HBX2 : Hid (Y.heap[bB]? = some (.cells #[.int .i64 r, .int .i64 r, .int .i64 ne, .int .i64 ck, .int .i64 lc, .bool so] 39 (0, 0))) := hide (by rw [hY]; exact (heap_set_sameL HBX1.out 4 (.int .i64 lc)))
  have HRS2 := hide (oY.obj HRS1.out (fun e => by have e' : rB = bB := e; have := HLT.out; omega))
  have HBW2 := hide (HBW1.out.trans (oY.below (by have := HLT.out; have := HSZ1.out; omega) (fun i e => by have e' : i = bB := e; omega)))
  have HSZ2 := hide (box_lt HRS2.out)
  rw [← hY]
  clear hY oY HBX1 HRS1 HBW1 HSZ1 u0 u1 u2 u3 u4 u5
  obtain ⟨_, _, _, _, _, _, u0, u1, u2, u3, u4, u5⟩ := six HBX2.out
  obtain ⟨f0, f1, f2, f3, f4, f5, r0, r1, r2, r3, r4, r5⟩ := six HRS2.out
  go_wp2
  have hE := heap_set6 HRS2.out (.int .i64 r) (.int .i64 r) (.int .i64 ne) (.int .i64 ck) (.int .i64 lc) (.bool so)
  refine bodyPost_ret (results_cell_row rfl _ _ rB 39 _ _ _ rfl hE Try.underlying39 rfl (by kernel_rfl)) rfl ?_
  refine ⟨by rw [HQ.out]; rfl, ?_⟩
  rw [HBB.out]
  exact HBW2.out.trans ((only_set6 _ rB _ _ _ _ _ _).below (by have := HLT.out; have := HSZ2.out; omega) (fun i e => by have e' : i = rB := e; have := HLT.out; omega))

set_option maxRecDepth 100000 in
set_option maxHeartbeats 2000000 in
theorem rgrant_2 {W : World} {o la ep ck tl : Int} {so : Bool} {r : Int} (hk : okL ⟨o, la, ep, ck, tl, so⟩) (h1 : ep ≠ 9007199254740992) (h2 : la ≠ r) :
    Calls Try.prog 57 #[.agg #[.int .i64 o, .int .i64 la, .int .i64 ep, .int .i64 ck, .int .i64 tl, .bool so], .int .i64 r] W fun e w' => e = .returned (LE.val (grantC ⟨o, la, ep, ck, tl, so⟩ r).1) ∧ Below W.heap.size W w' := by
  have HK : Hid (0 ≤ ck ∧ ck ≤ 9007199254740992) := hide (by have := hk; unfold okL at this; simp only at this; omega)
  have hew : IntKind.i64.wrap (ep + 1) = ep + 1 := by have := hk; unfold okL at this; simp only at this; rw [IntKind.wrap_i64]; omega
  obtain ⟨lc, hlc⟩ : ∃ lc, laterC ck 16 = lc := ⟨_, rfl⟩
  obtain ⟨ne, hne⟩ : ∃ ne, ep + 1 = ne := ⟨_, rfl⟩
  have HQ : Hid ((grantC ⟨o, la, ep, ck, tl, so⟩ r).1 = ⟨r, r, ne, ck, lc, false⟩) := hide (by unfold grantC; rw [if_neg h1]; simp only [hlc, hne, decide_eq_false h2, Bool.and_false])
  have hew2 : IntKind.i64.wrap (ep + 1) = ne := hew.trans hne
  have HLC := hide hlc
  have d2 : (la != r) = true := ne_neL h2
  have d3 : (la == r) = false := ne_eqL h2
  clear hlc h1 hk hew hne h2
  obtain ⟨V0, hV0⟩ : ∃ V0, V0 = W.alloc (.cells #[.int .i64 o, .int .i64 la, .int .i64 ep, .int .i64 ck, .int .i64 tl, .bool so] 39 (0, 0)) := ⟨_, rfl⟩
  obtain ⟨V, hV⟩ : ∃ V, V = V0.alloc (.cells #[.int .i64 0, .int .i64 0, .int .i64 0, .int .i64 0, .int .i64 0, .bool false] 39 (0, 0)) := ⟨_, rfl⟩
  have bV0 : Below W.heap.size W V0 := by rw [hV0]; exact alloc_below _ _
  have bV1 : Below V0.heap.size V0 V := by rw [hV]; exact alloc_below _ _
  have v0 : V0.heap[W.heap.size]? = some (.cells #[.int .i64 o, .int .i64 la, .int .i64 ep, .int .i64 ck, .int .i64 tl, .bool so] 39 (0, 0)) := by rw [hV0]; exact heap_alloc_new W _
  have v1 : V.heap[V0.heap.size]? = some (.cells #[.int .i64 0, .int .i64 0, .int .i64 0, .int .i64 0, .int .i64 0, .bool false] 39 (0, 0)) := by rw [hV]; exact heap_alloc_new V0 _
  have v2 := below_box bV1 v0
  have hlt := box_lt v0
  have hs0 : V0.heap.size = W.heap.size + 1 := by rw [hV0]; simp
  obtain ⟨bB, hbB⟩ : ∃ bB, W.heap.size = bB := ⟨_, rfl⟩
  obtain ⟨rB, hrB⟩ : ∃ rB, V0.heap.size = rB := ⟨_, rfl⟩
  have hrb : bB + 1 = rB := by omega
  rw [hbB, hrB] at hlt
  rw [hbB] at v2
  rw [hrB] at v1
  have HBW0 : Hid (Below bB W V) := hide (by rw [← hbB]; exact below_next bV0 bV1 bV0.size)
  have HBX0 := hide v2
  have HRS0 := hide v1
  have HBB := hide hbB
  have HLT := hide hlt
  have HSZ0 := hide (box_lt v1)
  clear v0 v1 v2 bV0 bV1
  go_enter Try.func57, Try.ntmps57
  go_upto_region 1 with fail
  try rw [hbB]
  try rw [hrb]
  rw [← hV0, ← hV]
  try rw [hrB]
  clear hV0 hV hbB hrB hs0 hrb hlt
  obtain ⟨_, _, _, _, _, _, u0, u1, u2, u3, u4, u5⟩ := six HBX0.out
  obtain ⟨q0, q1, q2, q3, q4, q5, _, _, _, _, _, _⟩ := six HBX0.out
  go_upto_region 5 with fail
  clear q0 q1 q2 q3 q4 q5
  obtain ⟨X, hX⟩ : ∃ X, X = ((((V.setCell ⟨bB, 5, none⟩ (.bool false)).setCell ⟨bB, 0, none⟩ (.int .i64 r)).setCell ⟨bB, 1, none⟩ (.int .i64 r)).setCell ⟨bB, 2, none⟩ (.int .i64 ne)) := ⟨_, rfl⟩
  have oX : Only (· = bB) V X := by rw [hX]; exact ((((Only.set (F := (· = bB)) _ bB 5 (.bool false) rfl).trans (Only.set (F := (· = bB)) _ bB 0 (.int .i64 r) rfl)).trans (Only.set (F := (· = bB)) _ bB 1 (.int .i64 r) rfl)).trans (Only.set (F := (· = bB)) _ bB 2 (.int .i64 ne) rfl))
  have HBX1 : Hid (X.heap[bB]? = some (.cells #[.int .i64 r, .int .i64 r, .int .i64 ne, .int .i64 ck, .int .i64 tl, .bool false] 39 (0, 0))) := hide (by rw [hX]; exact (heap_set_sameL (heap_set_sameL (heap_set_sameL (heap_set_sameL HBX0.out 5 (.bool false)) 0 (.int .i64 r)) 1 (.int .i64 r)) 2 (.int .i64 ne)))
  have HRS1 := hide (oX.obj HRS0.out (fun e => by have e' : rB = bB := e; have := HLT.out; omega))
  have HBW1 := hide (HBW0.out.trans (oX.below (by have := HLT.out; have := HSZ0.out; omega) (fun i e => by have e' : i = bB := e; omega)))
  have HSZ1 := hide (box_lt HRS1.out)
  rw [← hX]
  clear hX oX HBX0 HRS0 HBW0 HSZ0 u0 u1 u2 u3 u4 u5
  obtain ⟨_, _, _, _, _, _, u0, u1, u2, u3, u4, u5⟩ := six HBX1.out
  have q4 := (six HBX1.out).f4
  go_upto_region 6 with ((go_at_call 49; refine (more_any HK.out.1 HK.out.2 (by decide)).mono ?_; rw [HLC.out]; rintro _ X ⟨rfl, rfl⟩))
  obtain ⟨Y, hY⟩ : ∃ Y, Y = (X.setCell ⟨bB, 4, none⟩ (.int .i64 lc)) := ⟨_, rfl⟩
  have oY : Only (· = bB) X Y := by rw [hY]; exact (Only.set (F := (· = bB)) _ bB 4 (.int .i64 lc) rfl)
  have HBX2 : Hid (Y.heap[bB]? = some (.cells #[.int .i64 r, .int .i64 r, .int .i64 ne, .int .i64 ck, .int .i64 lc, .bool false] 39 (0, 0))) := hide (by rw [hY]; exact (heap_set_sameL HBX1.out 4 (.int .i64 lc)))
  have HRS2 := hide (oY.obj HRS1.out (fun e => by have e' : rB = bB := e; have := HLT.out; omega))
  have HBW2 := hide (HBW1.out.trans (oY.below (by have := HLT.out; have := HSZ1.out; omega) (fun i e => by have e' : i = bB := e; omega)))
  have HSZ2 := hide (box_lt HRS2.out)
  rw [← hY]
  clear hY oY HBX1 HRS1 HBW1 HSZ1 u0 u1 u2 u3 u4 u5
  obtain ⟨_, _, _, _, _, _, u0, u1, u2, u3, u4, u5⟩ := six HBX2.out
  obtain ⟨f0, f1, f2, f3, f4, f5, r0, r1, r2, r3, r4, r5⟩ := six HRS2.out
  go_wp2
  have hE := heap_set6 HRS2.out (.int .i64 r) (.int .i64 r) (.int .i64 ne) (.int .i64 ck) (.int .i64 lc) (.bool false)
  refine bodyPost_ret (results_cell_row rfl _ _ rB 39 _ _ _ rfl hE Try.underlying39 rfl (by kernel_rfl)) rfl ?_
  refine ⟨by rw [HQ.out]; rfl, ?_⟩
  rw [HBB.out]
  exact HBW2.out.trans ((only_set6 _ rB _ _ _ _ _ _).below (by have := HLT.out; have := HSZ2.out; omega) (fun i e => by have e' : i = rB := e; have := HLT.out; omega))

theorem rgrant_any {W : World} {o la ep ck tl : Int} {so : Bool} {r : Int} (hk : okL ⟨o, la, ep, ck, tl, so⟩) (h1 : ep ≠ 9007199254740992) : Calls Try.prog 57 #[.agg #[.int .i64 o, .int .i64 la, .int .i64 ep, .int .i64 ck, .int .i64 tl, .bool so], .int .i64 r] W fun e w' => e = .returned (LE.val (grantC ⟨o, la, ep, ck, tl, so⟩ r).1) ∧ Below W.heap.size W w' := by
  by_cases h2 : la = r
  · exact rgrant_1 hk h1 h2
  · exact rgrant_2 hk h1 h2
set_option maxRecDepth 100000 in
set_option maxHeartbeats 2000000 in
theorem rrenew_1 {W : World} {o la ep ck tl : Int} {so : Bool} {r p : Int} (hc : claimC ⟨o, la, ep, ck, tl, so⟩ r p ≠ 0) :
    Calls Try.prog 51 #[.agg #[.int .i64 o, .int .i64 la, .int .i64 ep, .int .i64 ck, .int .i64 tl, .bool so], .int .i64 r, .int .i64 p] W fun e w' => e = .returned (.tuple #[LE.val (renewC ⟨o, la, ep, ck, tl, so⟩ r p).1, .int .i64 (renewC ⟨o, la, ep, ck, tl, so⟩ r p).2]) ∧ Below W.heap.size W w' := by
  obtain ⟨c, hcc⟩ : ∃ c, claimC ⟨o, la, ep, ck, tl, so⟩ r p = c := ⟨_, rfl⟩
  have HQ : Hid (renewC ⟨o, la, ep, ck, tl, so⟩ r p = (⟨o, la, ep, ck, tl, so⟩, c)) := hide ((if_neg hc).trans (by rw [hcc]))
  rw [hcc] at hc
  have HC := hide hcc
  have d1 : (c == 0) = false := ne_eqL hc
  have d2 : (c != 0) = true := ne_neL hc
  clear hcc hc
  obtain ⟨V0, hV0⟩ : ∃ V0, V0 = W.alloc (.cells #[.int .i64 o, .int .i64 la, .int .i64 ep, .int .i64 ck, .int .i64 tl, .bool so] 39 (0, 0)) := ⟨_, rfl⟩
  obtain ⟨V, hV⟩ : ∃ V, V = V0.alloc (.cells #[.int .i64 0, .int .i64 0, .int .i64 0, .int .i64 0, .int .i64 0, .bool false] 39 (0, 0)) := ⟨_, rfl⟩
  have bV0 : Below W.heap.size W V0 := by rw [hV0]; exact alloc_below _ _
  have bV1 : Below V0.heap.size V0 V := by rw [hV]; exact alloc_below _ _
  have v0 : V0.heap[W.heap.size]? = some (.cells #[.int .i64 o, .int .i64 la, .int .i64 ep, .int .i64 ck, .int .i64 tl, .bool so] 39 (0, 0)) := by rw [hV0]; exact heap_alloc_new W _
  have v1 : V.heap[V0.heap.size]? = some (.cells #[.int .i64 0, .int .i64 0, .int .i64 0, .int .i64 0, .int .i64 0, .bool false] 39 (0, 0)) := by rw [hV]; exact heap_alloc_new V0 _
  have v2 := below_box bV1 v0
  have hlt := box_lt v0
  have hs0 : V0.heap.size = W.heap.size + 1 := by rw [hV0]; simp
  obtain ⟨bB, hbB⟩ : ∃ bB, W.heap.size = bB := ⟨_, rfl⟩
  obtain ⟨rB, hrB⟩ : ∃ rB, V0.heap.size = rB := ⟨_, rfl⟩
  have hrb : bB + 1 = rB := by omega
  rw [hbB, hrB] at hlt
  rw [hbB] at v2
  rw [hrB] at v1
  have HBW0 : Hid (Below bB W V) := hide (by rw [← hbB]; exact below_next bV0 bV1 bV0.size)
  have HBX0 := hide v2
  have HRS0 := hide v1
  have HBB := hide hbB
  have HLT := hide hlt
  have HSZ0 := hide (box_lt v1)
  clear v0 v1 v2 bV0 bV1
  go_enter Try.func51, Try.ntmps51
  go_upto_region 1 with fail
  try rw [hbB]
  try rw [hrb]
  rw [← hV0, ← hV]
  try rw [hrB]
  clear hV0 hV hbB hrB hs0 hrb hlt
  obtain ⟨_, _, _, _, _, _, u0, u1, u2, u3, u4, u5⟩ := six HBX0.out
  go_wp2_with fail
  refine (rclaim_any).mono ?_
  rw [HC.out]
  rintro _ w1 ⟨rfl, b1⟩
  have HBX1 := hide (below_box b1 HBX0.out)
  have HRS1 := hide (below_box b1 HRS0.out)
  have HBW1 := hide (below_next HBW0.out b1 (by have := HLT.out; have := HSZ0.out; omega))
  have HSZ1 := hide (box_lt HRS1.out)
  clear b1 HBX0 HRS0 HBW0 HSZ0 u0 u1 u2 u3 u4 u5
  obtain ⟨_, _, _, _, _, _, u0, u1, u2, u3, u4, u5⟩ := six HBX1.out
  obtain ⟨f0, f1, f2, f3, f4, f5, r0, r1, r2, r3, r4, r5⟩ := six HRS1.out
  go_wp2
  have hE := heap_set6 HRS1.out (.int .i64 o) (.int .i64 la) (.int .i64 ep) (.int .i64 ck) (.int .i64 tl) (.bool so)
  refine bodyPost_ret (results_cell_two rfl _ _ rB 39 _ _ _ rfl hE Try.underlying39 rfl (by kernel_rfl)) rfl ?_
  refine ⟨by rw [HQ.out]; rfl, ?_⟩
  rw [HBB.out]
  exact HBW1.out.trans ((only_set6 _ rB _ _ _ _ _ _).below (by have := HLT.out; have := HSZ1.out; omega) (fun i e => by have e' : i = rB := e; have := HLT.out; omega))

set_option maxRecDepth 100000 in
set_option maxHeartbeats 2000000 in
theorem rrenew_2 {W : World} {o la ep ck tl : Int} {so : Bool} {r p : Int} (hc : claimC ⟨o, la, ep, ck, tl, so⟩ r p = 0) :
    Calls Try.prog 51 #[.agg #[.int .i64 o, .int .i64 la, .int .i64 ep, .int .i64 ck, .int .i64 tl, .bool so], .int .i64 r, .int .i64 p] W fun e w' => e = .returned (.tuple #[LE.val (renewC ⟨o, la, ep, ck, tl, so⟩ r p).1, .int .i64 (renewC ⟨o, la, ep, ck, tl, so⟩ r p).2]) ∧ Below W.heap.size W w' := by
  have HQ : Hid (renewC ⟨o, la, ep, ck, tl, so⟩ r p = (⟨o, la, ep, ck, laterC ck 16, so⟩, 0)) := hide (if_pos hc)
  have HC := hide hc
  have HK : Hid (0 ≤ ck ∧ ck ≤ 9007199254740992) := hide (by have := (claim_ok hc).1; unfold okL at this; simp only at this; omega)
  obtain ⟨lc, hlc⟩ : ∃ lc, laterC ck 16 = lc := ⟨_, rfl⟩
  rw [hlc] at HQ
  have HLC := hide hlc
  clear hlc hc
  obtain ⟨V0, hV0⟩ : ∃ V0, V0 = W.alloc (.cells #[.int .i64 o, .int .i64 la, .int .i64 ep, .int .i64 ck, .int .i64 tl, .bool so] 39 (0, 0)) := ⟨_, rfl⟩
  obtain ⟨V, hV⟩ : ∃ V, V = V0.alloc (.cells #[.int .i64 0, .int .i64 0, .int .i64 0, .int .i64 0, .int .i64 0, .bool false] 39 (0, 0)) := ⟨_, rfl⟩
  have bV0 : Below W.heap.size W V0 := by rw [hV0]; exact alloc_below _ _
  have bV1 : Below V0.heap.size V0 V := by rw [hV]; exact alloc_below _ _
  have v0 : V0.heap[W.heap.size]? = some (.cells #[.int .i64 o, .int .i64 la, .int .i64 ep, .int .i64 ck, .int .i64 tl, .bool so] 39 (0, 0)) := by rw [hV0]; exact heap_alloc_new W _
  have v1 : V.heap[V0.heap.size]? = some (.cells #[.int .i64 0, .int .i64 0, .int .i64 0, .int .i64 0, .int .i64 0, .bool false] 39 (0, 0)) := by rw [hV]; exact heap_alloc_new V0 _
  have v2 := below_box bV1 v0
  have hlt := box_lt v0
  have hs0 : V0.heap.size = W.heap.size + 1 := by rw [hV0]; simp
  obtain ⟨bB, hbB⟩ : ∃ bB, W.heap.size = bB := ⟨_, rfl⟩
  obtain ⟨rB, hrB⟩ : ∃ rB, V0.heap.size = rB := ⟨_, rfl⟩
  have hrb : bB + 1 = rB := by omega
  rw [hbB, hrB] at hlt
  rw [hbB] at v2
  rw [hrB] at v1
  have HBW0 : Hid (Below bB W V) := hide (by rw [← hbB]; exact below_next bV0 bV1 bV0.size)
  have HBX0 := hide v2
  have HRS0 := hide v1
  have HBB := hide hbB
  have HLT := hide hlt
  have HSZ0 := hide (box_lt v1)
  clear v0 v1 v2 bV0 bV1
  go_enter Try.func51, Try.ntmps51
  go_upto_region 1 with fail
  try rw [hbB]
  try rw [hrb]
  rw [← hV0, ← hV]
  try rw [hrB]
  clear hV0 hV hbB hrB hs0 hrb hlt
  obtain ⟨_, _, _, _, _, _, u0, u1, u2, u3, u4, u5⟩ := six HBX0.out
  go_wp2_with fail
  refine (rclaim_any).mono ?_
  rw [HC.out]
  rintro _ w1 ⟨rfl, b1⟩
  have HBX1 := hide (below_box b1 HBX0.out)
  have HRS1 := hide (below_box b1 HRS0.out)
  have HBW1 := hide (below_next HBW0.out b1 (by have := HLT.out; have := HSZ0.out; omega))
  have HSZ1 := hide (box_lt HRS1.out)
  clear b1 HBX0 HRS0 HBW0 HSZ0 u0 u1 u2 u3 u4 u5
  obtain ⟨_, _, _, _, _, _, u0, u1, u2, u3, u4, u5⟩ := six HBX1.out
  have hfz := (six HBX1.out).f4
  go_upto_region 5 with ((go_at_call 49; refine (more_any HK.out.1 HK.out.2 (by decide)).mono ?_; rw [HLC.out]; rintro _ w1 ⟨rfl, rfl⟩))
  obtain ⟨X, hX⟩ : ∃ X, X = (w1.setCell ⟨bB, 4, none⟩ (.int .i64 lc)) := ⟨_, rfl⟩
  have oX : Only (· = bB) w1 X := by rw [hX]; exact (Only.set (F := (· = bB)) _ bB 4 (.int .i64 lc) rfl)
  have HBX2 : Hid (X.heap[bB]? = some (.cells #[.int .i64 o, .int .i64 la, .int .i64 ep, .int .i64 ck, .int .i64 lc, .bool so] 39 (0, 0))) := hide (by rw [hX]; exact (heap_set_sameL HBX1.out 4 (.int .i64 lc)))
  have HRS2 := hide (oX.obj HRS1.out (fun e => by have e' : rB = bB := e; have := HLT.out; omega))
  have HBW2 := hide (HBW1.out.trans (oX.below (by have := HLT.out; have := HSZ1.out; omega) (fun i e => by have e' : i = bB := e; omega)))
  have HSZ2 := hide (box_lt HRS2.out)
  rw [← hX]
  clear hX oX HBX1 HRS1 HBW1 HSZ1 u0 u1 u2 u3 u4 u5
  obtain ⟨_, _, _, _, _, _, u0, u1, u2, u3, u4, u5⟩ := six HBX2.out
  obtain ⟨f0, f1, f2, f3, f4, f5, r0, r1, r2, r3, r4, r5⟩ := six HRS2.out
  go_wp2
  have hE := heap_set6 HRS2.out (.int .i64 o) (.int .i64 la) (.int .i64 ep) (.int .i64 ck) (.int .i64 lc) (.bool so)
  refine bodyPost_ret (results_cell_two rfl _ _ rB 39 _ _ _ rfl hE Try.underlying39 rfl (by kernel_rfl)) rfl ?_
  refine ⟨by rw [HQ.out]; rfl, ?_⟩
  rw [HBB.out]
  exact HBW2.out.trans ((only_set6 _ rB _ _ _ _ _ _).below (by have := HLT.out; have := HSZ2.out; omega) (fun i e => by have e' : i = rB := e; have := HLT.out; omega))

theorem rrenew_any {W : World} {o la ep ck tl : Int} {so : Bool} {r p : Int} : Calls Try.prog 51 #[.agg #[.int .i64 o, .int .i64 la, .int .i64 ep, .int .i64 ck, .int .i64 tl, .bool so], .int .i64 r, .int .i64 p] W fun e w' => e = .returned (.tuple #[LE.val (renewC ⟨o, la, ep, ck, tl, so⟩ r p).1, .int .i64 (renewC ⟨o, la, ep, ck, tl, so⟩ r p).2]) ∧ Below W.heap.size W w' := by
  by_cases hc : claimC ⟨o, la, ep, ck, tl, so⟩ r p = 0
  · exact rrenew_2 hc
  · exact rrenew_1 hc
set_option maxRecDepth 100000 in
set_option maxHeartbeats 2000000 in
theorem rrelease_1 {W : World} {o la ep ck tl : Int} {so : Bool} {r p : Int} (hc : claimC ⟨o, la, ep, ck, tl, so⟩ r p ≠ 0) :
    Calls Try.prog 52 #[.agg #[.int .i64 o, .int .i64 la, .int .i64 ep, .int .i64 ck, .int .i64 tl, .bool so], .int .i64 r, .int .i64 p] W fun e w' => e = .returned (.tuple #[LE.val (releaseC ⟨o, la, ep, ck, tl, so⟩ r p).1, .int .i64 (releaseC ⟨o, la, ep, ck, tl, so⟩ r p).2]) ∧ Below W.heap.size W w' := by
  obtain ⟨c, hcc⟩ : ∃ c, claimC ⟨o, la, ep, ck, tl, so⟩ r p = c := ⟨_, rfl⟩
  have HQ : Hid (releaseC ⟨o, la, ep, ck, tl, so⟩ r p = (⟨o, la, ep, ck, tl, so⟩, c)) := hide ((if_neg hc).trans (by rw [hcc]))
  rw [hcc] at hc
  have HC := hide hcc
  have d1 : (c == 0) = false := ne_eqL hc
  have d2 : (c != 0) = true := ne_neL hc
  clear hcc hc
  obtain ⟨V0, hV0⟩ : ∃ V0, V0 = W.alloc (.cells #[.int .i64 o, .int .i64 la, .int .i64 ep, .int .i64 ck, .int .i64 tl, .bool so] 39 (0, 0)) := ⟨_, rfl⟩
  obtain ⟨V, hV⟩ : ∃ V, V = V0.alloc (.cells #[.int .i64 0, .int .i64 0, .int .i64 0, .int .i64 0, .int .i64 0, .bool false] 39 (0, 0)) := ⟨_, rfl⟩
  have bV0 : Below W.heap.size W V0 := by rw [hV0]; exact alloc_below _ _
  have bV1 : Below V0.heap.size V0 V := by rw [hV]; exact alloc_below _ _
  have v0 : V0.heap[W.heap.size]? = some (.cells #[.int .i64 o, .int .i64 la, .int .i64 ep, .int .i64 ck, .int .i64 tl, .bool so] 39 (0, 0)) := by rw [hV0]; exact heap_alloc_new W _
  have v1 : V.heap[V0.heap.size]? = some (.cells #[.int .i64 0, .int .i64 0, .int .i64 0, .int .i64 0, .int .i64 0, .bool false] 39 (0, 0)) := by rw [hV]; exact heap_alloc_new V0 _
  have v2 := below_box bV1 v0
  have hlt := box_lt v0
  have hs0 : V0.heap.size = W.heap.size + 1 := by rw [hV0]; simp
  obtain ⟨bB, hbB⟩ : ∃ bB, W.heap.size = bB := ⟨_, rfl⟩
  obtain ⟨rB, hrB⟩ : ∃ rB, V0.heap.size = rB := ⟨_, rfl⟩
  have hrb : bB + 1 = rB := by omega
  rw [hbB, hrB] at hlt
  rw [hbB] at v2
  rw [hrB] at v1
  have HBW0 : Hid (Below bB W V) := hide (by rw [← hbB]; exact below_next bV0 bV1 bV0.size)
  have HBX0 := hide v2
  have HRS0 := hide v1
  have HBB := hide hbB
  have HLT := hide hlt
  have HSZ0 := hide (box_lt v1)
  clear v0 v1 v2 bV0 bV1
  go_enter Try.func52, Try.ntmps52
  go_upto_region 1 with fail
  try rw [hbB]
  try rw [hrb]
  rw [← hV0, ← hV]
  try rw [hrB]
  clear hV0 hV hbB hrB hs0 hrb hlt
  obtain ⟨_, _, _, _, _, _, u0, u1, u2, u3, u4, u5⟩ := six HBX0.out
  go_wp2_with fail
  refine (rclaim_any).mono ?_
  rw [HC.out]
  rintro _ w1 ⟨rfl, b1⟩
  have HBX1 := hide (below_box b1 HBX0.out)
  have HRS1 := hide (below_box b1 HRS0.out)
  have HBW1 := hide (below_next HBW0.out b1 (by have := HLT.out; have := HSZ0.out; omega))
  have HSZ1 := hide (box_lt HRS1.out)
  clear b1 HBX0 HRS0 HBW0 HSZ0 u0 u1 u2 u3 u4 u5
  obtain ⟨_, _, _, _, _, _, u0, u1, u2, u3, u4, u5⟩ := six HBX1.out
  obtain ⟨f0, f1, f2, f3, f4, f5, r0, r1, r2, r3, r4, r5⟩ := six HRS1.out
  go_wp2
  have hE := heap_set6 HRS1.out (.int .i64 o) (.int .i64 la) (.int .i64 ep) (.int .i64 ck) (.int .i64 tl) (.bool so)
  refine bodyPost_ret (results_cell_two rfl _ _ rB 39 _ _ _ rfl hE Try.underlying39 rfl (by kernel_rfl)) rfl ?_
  refine ⟨by rw [HQ.out]; rfl, ?_⟩
  rw [HBB.out]
  exact HBW1.out.trans ((only_set6 _ rB _ _ _ _ _ _).below (by have := HLT.out; have := HSZ1.out; omega) (fun i e => by have e' : i = rB := e; have := HLT.out; omega))

set_option maxRecDepth 100000 in
set_option maxHeartbeats 2000000 in
theorem rrelease_2 {W : World} {o la ep ck tl : Int} {so : Bool} {r p : Int} (hc : claimC ⟨o, la, ep, ck, tl, so⟩ r p = 0) :
    Calls Try.prog 52 #[.agg #[.int .i64 o, .int .i64 la, .int .i64 ep, .int .i64 ck, .int .i64 tl, .bool so], .int .i64 r, .int .i64 p] W fun e w' => e = .returned (.tuple #[LE.val (releaseC ⟨o, la, ep, ck, tl, so⟩ r p).1, .int .i64 (releaseC ⟨o, la, ep, ck, tl, so⟩ r p).2]) ∧ Below W.heap.size W w' := by
  have HQ : Hid (releaseC ⟨o, la, ep, ck, tl, so⟩ r p = (⟨-1, la, ep, ck, ck, so⟩, 0)) := hide (if_pos hc)
  have HC := hide hc
  clear hc
  obtain ⟨V0, hV0⟩ : ∃ V0, V0 = W.alloc (.cells #[.int .i64 o, .int .i64 la, .int .i64 ep, .int .i64 ck, .int .i64 tl, .bool so] 39 (0, 0)) := ⟨_, rfl⟩
  obtain ⟨V, hV⟩ : ∃ V, V = V0.alloc (.cells #[.int .i64 0, .int .i64 0, .int .i64 0, .int .i64 0, .int .i64 0, .bool false] 39 (0, 0)) := ⟨_, rfl⟩
  have bV0 : Below W.heap.size W V0 := by rw [hV0]; exact alloc_below _ _
  have bV1 : Below V0.heap.size V0 V := by rw [hV]; exact alloc_below _ _
  have v0 : V0.heap[W.heap.size]? = some (.cells #[.int .i64 o, .int .i64 la, .int .i64 ep, .int .i64 ck, .int .i64 tl, .bool so] 39 (0, 0)) := by rw [hV0]; exact heap_alloc_new W _
  have v1 : V.heap[V0.heap.size]? = some (.cells #[.int .i64 0, .int .i64 0, .int .i64 0, .int .i64 0, .int .i64 0, .bool false] 39 (0, 0)) := by rw [hV]; exact heap_alloc_new V0 _
  have v2 := below_box bV1 v0
  have hlt := box_lt v0
  have hs0 : V0.heap.size = W.heap.size + 1 := by rw [hV0]; simp
  obtain ⟨bB, hbB⟩ : ∃ bB, W.heap.size = bB := ⟨_, rfl⟩
  obtain ⟨rB, hrB⟩ : ∃ rB, V0.heap.size = rB := ⟨_, rfl⟩
  have hrb : bB + 1 = rB := by omega
  rw [hbB, hrB] at hlt
  rw [hbB] at v2
  rw [hrB] at v1
  have HBW0 : Hid (Below bB W V) := hide (by rw [← hbB]; exact below_next bV0 bV1 bV0.size)
  have HBX0 := hide v2
  have HRS0 := hide v1
  have HBB := hide hbB
  have HLT := hide hlt
  have HSZ0 := hide (box_lt v1)
  clear v0 v1 v2 bV0 bV1
  go_enter Try.func52, Try.ntmps52
  go_upto_region 1 with fail
  try rw [hbB]
  try rw [hrb]
  rw [← hV0, ← hV]
  try rw [hrB]
  clear hV0 hV hbB hrB hs0 hrb hlt
  obtain ⟨_, _, _, _, _, _, u0, u1, u2, u3, u4, u5⟩ := six HBX0.out
  go_wp2_with fail
  refine (rclaim_any).mono ?_
  rw [HC.out]
  rintro _ w1 ⟨rfl, b1⟩
  have HBX1 := hide (below_box b1 HBX0.out)
  have HRS1 := hide (below_box b1 HRS0.out)
  have HBW1 := hide (below_next HBW0.out b1 (by have := HLT.out; have := HSZ0.out; omega))
  have HSZ1 := hide (box_lt HRS1.out)
  clear b1 HBX0 HRS0 HBW0 HSZ0 u0 u1 u2 u3 u4 u5
  obtain ⟨_, _, _, _, _, _, u0, u1, u2, u3, u4, u5⟩ := six HBX1.out
  have hfz := (six HBX1.out).f4
  have hfz0 := (six HBX1.out).f0
  go_upto_region 5 with fail
  obtain ⟨X, hX⟩ : ∃ X, X = ((w1.setCell ⟨bB, 0, none⟩ (.int .i64 (-1))).setCell ⟨bB, 4, none⟩ (.int .i64 ck)) := ⟨_, rfl⟩
  have oX : Only (· = bB) w1 X := by rw [hX]; exact ((Only.set (F := (· = bB)) _ bB 0 (.int .i64 (-1)) rfl).trans (Only.set (F := (· = bB)) _ bB 4 (.int .i64 ck) rfl))
  have HBX2 : Hid (X.heap[bB]? = some (.cells #[.int .i64 (-1), .int .i64 la, .int .i64 ep, .int .i64 ck, .int .i64 ck, .bool so] 39 (0, 0))) := hide (by rw [hX]; exact (heap_set_sameL (heap_set_sameL HBX1.out 0 (.int .i64 (-1))) 4 (.int .i64 ck)))
  have HRS2 := hide (oX.obj HRS1.out (fun e => by have e' : rB = bB := e; have := HLT.out; omega))
  have HBW2 := hide (HBW1.out.trans (oX.below (by have := HLT.out; have := HSZ1.out; omega) (fun i e => by have e' : i = bB := e; omega)))
  have HSZ2 := hide (box_lt HRS2.out)
  rw [← hX]
  clear hX oX HBX1 HRS1 HBW1 HSZ1 u0 u1 u2 u3 u4 u5
  obtain ⟨_, _, _, _, _, _, u0, u1, u2, u3, u4, u5⟩ := six HBX2.out
  obtain ⟨f0, f1, f2, f3, f4, f5, r0, r1, r2, r3, r4, r5⟩ := six HRS2.out
  go_wp2
  have hE := heap_set6 HRS2.out (.int .i64 (-1)) (.int .i64 la) (.int .i64 ep) (.int .i64 ck) (.int .i64 ck) (.bool so)
  refine bodyPost_ret (results_cell_two rfl _ _ rB 39 _ _ _ rfl hE Try.underlying39 rfl (by kernel_rfl)) rfl ?_
  refine ⟨by rw [HQ.out]; rfl, ?_⟩
  rw [HBB.out]
  exact HBW2.out.trans ((only_set6 _ rB _ _ _ _ _ _).below (by have := HLT.out; have := HSZ2.out; omega) (fun i e => by have e' : i = rB := e; have := HLT.out; omega))

theorem rrelease_any {W : World} {o la ep ck tl : Int} {so : Bool} {r p : Int} : Calls Try.prog 52 #[.agg #[.int .i64 o, .int .i64 la, .int .i64 ep, .int .i64 ck, .int .i64 tl, .bool so], .int .i64 r, .int .i64 p] W fun e w' => e = .returned (.tuple #[LE.val (releaseC ⟨o, la, ep, ck, tl, so⟩ r p).1, .int .i64 (releaseC ⟨o, la, ep, ck, tl, so⟩ r p).2]) ∧ Below W.heap.size W w' := by
  by_cases hc : claimC ⟨o, la, ep, ck, tl, so⟩ r p = 0
  · exact rrelease_2 hc
  · exact rrelease_1 hc
end Go.Proofs.Ytegffdmlkbdcdaa.Op
