/-
  The reference's Check of leases. No conditions.
-/
import Derived.Test.YtegffdmlkbdcdaaLra
namespace Go.Proofs.Ytegffdmlkbdcdaa.Op
open Go.RowKit

set_option maxRecDepth 100000 in
theorem rchk_b {W : World} {o la ep ck tl : Int} {so : Bool} (h1 : ¬ (0 ≤ o ∧ o < 2)) (h1m : o ≠ -1) :
    Calls Try.prog 48 #[.agg #[.int .i64 o, .int .i64 la, .int .i64 ep, .int .i64 ck, .int .i64 tl, .bool so]] W fun e w' => e = .returned (.int .i64 (chkC ⟨o, la, ep, ck, tl, so⟩)) ∧ Below W.heap.size W w' := by
  have HQ : Hid (chkC ⟨o, la, ep, ck, tl, so⟩ = 1) := hide (chk_no (by unfold okL; simp only; omega))
  have e1 : regC o = false := reg_no h1
  have d1 : (o == -1) = false := ne_eqL h1m
  clear h1 h1m
  have d1n : (o != -1) = true := ne_neL (by simpa using d1)
  go_enter Try.func48, Try.ntmps48
  go_wp2_with (first | (go_at_call 54; refine rreg_any.mono ?_; (try rw [e1]); (try rw [e2]); rintro _ _ ⟨rfl, rfl⟩) | (go_at_call 55; refine rnumb_any.mono ?_; (try rw [e3]); (try rw [e4]); (try rw [e5]); rintro _ _ ⟨rfl, rfl⟩))
  all_goals go_ret
  all_goals exact ⟨by rw [HQ.out]; rfl, alloc_below _ _⟩

set_option maxRecDepth 100000 in
theorem rchk_ob {W : World} {o la ep ck tl : Int} {so : Bool} (h1 : 0 ≤ o ∧ o < 2) (h2 : ¬ (0 ≤ la ∧ la < 2)) (h2m : la ≠ -1) :
    Calls Try.prog 48 #[.agg #[.int .i64 o, .int .i64 la, .int .i64 ep, .int .i64 ck, .int .i64 tl, .bool so]] W fun e w' => e = .returned (.int .i64 (chkC ⟨o, la, ep, ck, tl, so⟩)) ∧ Below W.heap.size W w' := by
  have HQ : Hid (chkC ⟨o, la, ep, ck, tl, so⟩ = 1) := hide (chk_no (by unfold okL; simp only; omega))
  have e1 : regC o = true := reg_yes h1
  have d1 : (o == -1) = false := ne_eqL (by omega)
  have e2 : regC la = false := reg_no h2
  have d2 : (la == -1) = false := ne_eqL h2m
  clear h1
  clear h2 h2m
  have d1n : (o != -1) = true := ne_neL (by simpa using d1)
  have d2n : (la != -1) = true := ne_neL (by simpa using d2)
  go_enter Try.func48, Try.ntmps48
  go_wp2_with (first | (go_at_call 54; refine rreg_any.mono ?_; (try rw [e1]); (try rw [e2]); rintro _ _ ⟨rfl, rfl⟩) | (go_at_call 55; refine rnumb_any.mono ?_; (try rw [e3]); (try rw [e4]); (try rw [e5]); rintro _ _ ⟨rfl, rfl⟩))
  all_goals go_ret
  all_goals exact ⟨by rw [HQ.out]; rfl, alloc_below _ _⟩

set_option maxRecDepth 100000 in
theorem rchk_oo0 {W : World} {o la ep ck tl : Int} {so : Bool} (h1 : 0 ≤ o ∧ o < 2) (h2 : 0 ≤ la ∧ la < 2)  (h3 : ¬ (0 ≤ ep ∧ ep ≤ 9007199254740992)) :
    Calls Try.prog 48 #[.agg #[.int .i64 o, .int .i64 la, .int .i64 ep, .int .i64 ck, .int .i64 tl, .bool so]] W fun e w' => e = .returned (.int .i64 (chkC ⟨o, la, ep, ck, tl, so⟩)) ∧ Below W.heap.size W w' := by
  have HQ : Hid (chkC ⟨o, la, ep, ck, tl, so⟩ = 1) := hide (chk_no (by unfold okL; simp only; omega))
  have e1 : regC o = true := reg_yes h1
  have d1 : (o == -1) = false := ne_eqL (by omega)
  have e2 : regC la = true := reg_yes h2
  have d2 : (la == -1) = false := ne_eqL (by omega)
  have e3 : numC ep = false := num_no h3
  clear h1
  clear h2
  clear h3
  have d1n : (o != -1) = true := ne_neL (by simpa using d1)
  have d2n : (la != -1) = true := ne_neL (by simpa using d2)
  go_enter Try.func48, Try.ntmps48
  go_wp2_with (first | (go_at_call 54; refine rreg_any.mono ?_; (try rw [e1]); (try rw [e2]); rintro _ _ ⟨rfl, rfl⟩) | (go_at_call 55; refine rnumb_any.mono ?_; (try rw [e3]); (try rw [e4]); (try rw [e5]); rintro _ _ ⟨rfl, rfl⟩))
  all_goals go_ret
  all_goals exact ⟨by rw [HQ.out]; rfl, alloc_below _ _⟩

set_option maxRecDepth 100000 in
theorem rchk_oo1 {W : World} {o la ep ck tl : Int} {so : Bool} (h1 : 0 ≤ o ∧ o < 2) (h2 : 0 ≤ la ∧ la < 2) (h3 : 0 ≤ ep ∧ ep ≤ 9007199254740992) (h4 : ¬ (0 ≤ ck ∧ ck ≤ 9007199254740992)) :
    Calls Try.prog 48 #[.agg #[.int .i64 o, .int .i64 la, .int .i64 ep, .int .i64 ck, .int .i64 tl, .bool so]] W fun e w' => e = .returned (.int .i64 (chkC ⟨o, la, ep, ck, tl, so⟩)) ∧ Below W.heap.size W w' := by
  have HQ : Hid (chkC ⟨o, la, ep, ck, tl, so⟩ = 1) := hide (chk_no (by unfold okL; simp only; omega))
  have e1 : regC o = true := reg_yes h1
  have d1 : (o == -1) = false := ne_eqL (by omega)
  have e2 : regC la = true := reg_yes h2
  have d2 : (la == -1) = false := ne_eqL (by omega)
  have e3 : numC ep = true := num_yes h3
  have e4 : numC ck = false := num_no h4
  clear h1
  clear h2
  clear h3 h4
  have d1n : (o != -1) = true := ne_neL (by simpa using d1)
  have d2n : (la != -1) = true := ne_neL (by simpa using d2)
  go_enter Try.func48, Try.ntmps48
  go_wp2_with (first | (go_at_call 54; refine rreg_any.mono ?_; (try rw [e1]); (try rw [e2]); rintro _ _ ⟨rfl, rfl⟩) | (go_at_call 55; refine rnumb_any.mono ?_; (try rw [e3]); (try rw [e4]); (try rw [e5]); rintro _ _ ⟨rfl, rfl⟩))
  all_goals go_ret
  all_goals exact ⟨by rw [HQ.out]; rfl, alloc_below _ _⟩

set_option maxRecDepth 100000 in
theorem rchk_oo2 {W : World} {o la ep ck tl : Int} {so : Bool} (h1 : 0 ≤ o ∧ o < 2) (h2 : 0 ≤ la ∧ la < 2) (h3 : 0 ≤ ep ∧ ep ≤ 9007199254740992) (h4 : 0 ≤ ck ∧ ck ≤ 9007199254740992) (h5 : ¬ (0 ≤ tl ∧ tl ≤ 9007199254740992)) :
    Calls Try.prog 48 #[.agg #[.int .i64 o, .int .i64 la, .int .i64 ep, .int .i64 ck, .int .i64 tl, .bool so]] W fun e w' => e = .returned (.int .i64 (chkC ⟨o, la, ep, ck, tl, so⟩)) ∧ Below W.heap.size W w' := by
  have HQ : Hid (chkC ⟨o, la, ep, ck, tl, so⟩ = 1) := hide (chk_no (by unfold okL; simp only; omega))
  have e1 : regC o = true := reg_yes h1
  have d1 : (o == -1) = false := ne_eqL (by omega)
  have e2 : regC la = true := reg_yes h2
  have d2 : (la == -1) = false := ne_eqL (by omega)
  have e3 : numC ep = true := num_yes h3
  have e4 : numC ck = true := num_yes h4
  have e5 : numC tl = false := num_no h5
  clear h1
  clear h2
  clear h3 h4 h5
  have d1n : (o != -1) = true := ne_neL (by simpa using d1)
  have d2n : (la != -1) = true := ne_neL (by simpa using d2)
  go_enter Try.func48, Try.ntmps48
  go_wp2_with (first | (go_at_call 54; refine rreg_any.mono ?_; (try rw [e1]); (try rw [e2]); rintro _ _ ⟨rfl, rfl⟩) | (go_at_call 55; refine rnumb_any.mono ?_; (try rw [e3]); (try rw [e4]); (try rw [e5]); rintro _ _ ⟨rfl, rfl⟩))
  all_goals go_ret
  all_goals exact ⟨by rw [HQ.out]; rfl, alloc_below _ _⟩

set_option maxRecDepth 100000 in
theorem rchk_om0 {W : World} {o ep ck tl : Int} {so : Bool} (h1 : 0 ≤ o ∧ o < 2)   (h3 : ¬ (0 ≤ ep ∧ ep ≤ 9007199254740992)) :
    Calls Try.prog 48 #[.agg #[.int .i64 o, .int .i64 (-1), .int .i64 ep, .int .i64 ck, .int .i64 tl, .bool so]] W fun e w' => e = .returned (.int .i64 (chkC ⟨o, (-1), ep, ck, tl, so⟩)) ∧ Below W.heap.size W w' := by
  have HQ : Hid (chkC ⟨o, (-1), ep, ck, tl, so⟩ = 1) := hide (chk_no (by unfold okL; simp only; omega))
  have e1 : regC o = true := reg_yes h1
  have d1 : (o == -1) = false := ne_eqL (by omega)
  have e2 : regC (-1) = false := reg_none
  have e3 : numC ep = false := num_no h3
  clear h1
  clear h3
  have d1n : (o != -1) = true := ne_neL (by simpa using d1)
  go_enter Try.func48, Try.ntmps48
  go_wp2_with (first | (go_at_call 54; refine rreg_any.mono ?_; (try rw [e1]); (try rw [e2]); rintro _ _ ⟨rfl, rfl⟩) | (go_at_call 55; refine rnumb_any.mono ?_; (try rw [e3]); (try rw [e4]); (try rw [e5]); rintro _ _ ⟨rfl, rfl⟩))
  all_goals go_ret
  all_goals exact ⟨by rw [HQ.out]; rfl, alloc_below _ _⟩

set_option maxRecDepth 100000 in
theorem rchk_om1 {W : World} {o ep ck tl : Int} {so : Bool} (h1 : 0 ≤ o ∧ o < 2)  (h3 : 0 ≤ ep ∧ ep ≤ 9007199254740992) (h4 : ¬ (0 ≤ ck ∧ ck ≤ 9007199254740992)) :
    Calls Try.prog 48 #[.agg #[.int .i64 o, .int .i64 (-1), .int .i64 ep, .int .i64 ck, .int .i64 tl, .bool so]] W fun e w' => e = .returned (.int .i64 (chkC ⟨o, (-1), ep, ck, tl, so⟩)) ∧ Below W.heap.size W w' := by
  have HQ : Hid (chkC ⟨o, (-1), ep, ck, tl, so⟩ = 1) := hide (chk_no (by unfold okL; simp only; omega))
  have e1 : regC o = true := reg_yes h1
  have d1 : (o == -1) = false := ne_eqL (by omega)
  have e2 : regC (-1) = false := reg_none
  have e3 : numC ep = true := num_yes h3
  have e4 : numC ck = false := num_no h4
  clear h1
  clear h3 h4
  have d1n : (o != -1) = true := ne_neL (by simpa using d1)
  go_enter Try.func48, Try.ntmps48
  go_wp2_with (first | (go_at_call 54; refine rreg_any.mono ?_; (try rw [e1]); (try rw [e2]); rintro _ _ ⟨rfl, rfl⟩) | (go_at_call 55; refine rnumb_any.mono ?_; (try rw [e3]); (try rw [e4]); (try rw [e5]); rintro _ _ ⟨rfl, rfl⟩))
  all_goals go_ret
  all_goals exact ⟨by rw [HQ.out]; rfl, alloc_below _ _⟩

set_option maxRecDepth 100000 in
theorem rchk_om2 {W : World} {o ep ck tl : Int} {so : Bool} (h1 : 0 ≤ o ∧ o < 2)  (h3 : 0 ≤ ep ∧ ep ≤ 9007199254740992) (h4 : 0 ≤ ck ∧ ck ≤ 9007199254740992) (h5 : ¬ (0 ≤ tl ∧ tl ≤ 9007199254740992)) :
    Calls Try.prog 48 #[.agg #[.int .i64 o, .int .i64 (-1), .int .i64 ep, .int .i64 ck, .int .i64 tl, .bool so]] W fun e w' => e = .returned (.int .i64 (chkC ⟨o, (-1), ep, ck, tl, so⟩)) ∧ Below W.heap.size W w' := by
  have HQ : Hid (chkC ⟨o, (-1), ep, ck, tl, so⟩ = 1) := hide (chk_no (by unfold okL; simp only; omega))
  have e1 : regC o = true := reg_yes h1
  have d1 : (o == -1) = false := ne_eqL (by omega)
  have e2 : regC (-1) = false := reg_none
  have e3 : numC ep = true := num_yes h3
  have e4 : numC ck = true := num_yes h4
  have e5 : numC tl = false := num_no h5
  clear h1
  clear h3 h4 h5
  have d1n : (o != -1) = true := ne_neL (by simpa using d1)
  go_enter Try.func48, Try.ntmps48
  go_wp2_with (first | (go_at_call 54; refine rreg_any.mono ?_; (try rw [e1]); (try rw [e2]); rintro _ _ ⟨rfl, rfl⟩) | (go_at_call 55; refine rnumb_any.mono ?_; (try rw [e3]); (try rw [e4]); (try rw [e5]); rintro _ _ ⟨rfl, rfl⟩))
  all_goals go_ret
  all_goals exact ⟨by rw [HQ.out]; rfl, alloc_below _ _⟩

set_option maxRecDepth 100000 in
theorem rchk_mb {W : World} {la ep ck tl : Int} {so : Bool}  (h2 : ¬ (0 ≤ la ∧ la < 2)) (h2m : la ≠ -1) :
    Calls Try.prog 48 #[.agg #[.int .i64 (-1), .int .i64 la, .int .i64 ep, .int .i64 ck, .int .i64 tl, .bool so]] W fun e w' => e = .returned (.int .i64 (chkC ⟨(-1), la, ep, ck, tl, so⟩)) ∧ Below W.heap.size W w' := by
  have HQ : Hid (chkC ⟨(-1), la, ep, ck, tl, so⟩ = 1) := hide (chk_no (by unfold okL; simp only; omega))
  have e1 : regC (-1) = false := reg_none
  have e2 : regC la = false := reg_no h2
  have d2 : (la == -1) = false := ne_eqL h2m
  clear h2 h2m
  have d2n : (la != -1) = true := ne_neL (by simpa using d2)
  go_enter Try.func48, Try.ntmps48
  go_wp2_with (first | (go_at_call 54; refine rreg_any.mono ?_; (try rw [e1]); (try rw [e2]); rintro _ _ ⟨rfl, rfl⟩) | (go_at_call 55; refine rnumb_any.mono ?_; (try rw [e3]); (try rw [e4]); (try rw [e5]); rintro _ _ ⟨rfl, rfl⟩))
  all_goals go_ret
  all_goals exact ⟨by rw [HQ.out]; rfl, alloc_below _ _⟩

set_option maxRecDepth 100000 in
theorem rchk_mo0 {W : World} {la ep ck tl : Int} {so : Bool}  (h2 : 0 ≤ la ∧ la < 2)  (h3 : ¬ (0 ≤ ep ∧ ep ≤ 9007199254740992)) :
    Calls Try.prog 48 #[.agg #[.int .i64 (-1), .int .i64 la, .int .i64 ep, .int .i64 ck, .int .i64 tl, .bool so]] W fun e w' => e = .returned (.int .i64 (chkC ⟨(-1), la, ep, ck, tl, so⟩)) ∧ Below W.heap.size W w' := by
  have HQ : Hid (chkC ⟨(-1), la, ep, ck, tl, so⟩ = 1) := hide (chk_no (by unfold okL; simp only; omega))
  have e1 : regC (-1) = false := reg_none
  have e2 : regC la = true := reg_yes h2
  have d2 : (la == -1) = false := ne_eqL (by omega)
  have e3 : numC ep = false := num_no h3
  clear h2
  clear h3
  have d2n : (la != -1) = true := ne_neL (by simpa using d2)
  go_enter Try.func48, Try.ntmps48
  go_wp2_with (first | (go_at_call 54; refine rreg_any.mono ?_; (try rw [e1]); (try rw [e2]); rintro _ _ ⟨rfl, rfl⟩) | (go_at_call 55; refine rnumb_any.mono ?_; (try rw [e3]); (try rw [e4]); (try rw [e5]); rintro _ _ ⟨rfl, rfl⟩))
  all_goals go_ret
  all_goals exact ⟨by rw [HQ.out]; rfl, alloc_below _ _⟩

set_option maxRecDepth 100000 in
theorem rchk_mo1 {W : World} {la ep ck tl : Int} {so : Bool}  (h2 : 0 ≤ la ∧ la < 2) (h3 : 0 ≤ ep ∧ ep ≤ 9007199254740992) (h4 : ¬ (0 ≤ ck ∧ ck ≤ 9007199254740992)) :
    Calls Try.prog 48 #[.agg #[.int .i64 (-1), .int .i64 la, .int .i64 ep, .int .i64 ck, .int .i64 tl, .bool so]] W fun e w' => e = .returned (.int .i64 (chkC ⟨(-1), la, ep, ck, tl, so⟩)) ∧ Below W.heap.size W w' := by
  have HQ : Hid (chkC ⟨(-1), la, ep, ck, tl, so⟩ = 1) := hide (chk_no (by unfold okL; simp only; omega))
  have e1 : regC (-1) = false := reg_none
  have e2 : regC la = true := reg_yes h2
  have d2 : (la == -1) = false := ne_eqL (by omega)
  have e3 : numC ep = true := num_yes h3
  have e4 : numC ck = false := num_no h4
  clear h2
  clear h3 h4
  have d2n : (la != -1) = true := ne_neL (by simpa using d2)
  go_enter Try.func48, Try.ntmps48
  go_wp2_with (first | (go_at_call 54; refine rreg_any.mono ?_; (try rw [e1]); (try rw [e2]); rintro _ _ ⟨rfl, rfl⟩) | (go_at_call 55; refine rnumb_any.mono ?_; (try rw [e3]); (try rw [e4]); (try rw [e5]); rintro _ _ ⟨rfl, rfl⟩))
  all_goals go_ret
  all_goals exact ⟨by rw [HQ.out]; rfl, alloc_below _ _⟩

set_option maxRecDepth 100000 in
theorem rchk_mo2 {W : World} {la ep ck tl : Int} {so : Bool}  (h2 : 0 ≤ la ∧ la < 2) (h3 : 0 ≤ ep ∧ ep ≤ 9007199254740992) (h4 : 0 ≤ ck ∧ ck ≤ 9007199254740992) (h5 : ¬ (0 ≤ tl ∧ tl ≤ 9007199254740992)) :
    Calls Try.prog 48 #[.agg #[.int .i64 (-1), .int .i64 la, .int .i64 ep, .int .i64 ck, .int .i64 tl, .bool so]] W fun e w' => e = .returned (.int .i64 (chkC ⟨(-1), la, ep, ck, tl, so⟩)) ∧ Below W.heap.size W w' := by
  have HQ : Hid (chkC ⟨(-1), la, ep, ck, tl, so⟩ = 1) := hide (chk_no (by unfold okL; simp only; omega))
  have e1 : regC (-1) = false := reg_none
  have e2 : regC la = true := reg_yes h2
  have d2 : (la == -1) = false := ne_eqL (by omega)
  have e3 : numC ep = true := num_yes h3
  have e4 : numC ck = true := num_yes h4
  have e5 : numC tl = false := num_no h5
  clear h2
  clear h3 h4 h5
  have d2n : (la != -1) = true := ne_neL (by simpa using d2)
  go_enter Try.func48, Try.ntmps48
  go_wp2_with (first | (go_at_call 54; refine rreg_any.mono ?_; (try rw [e1]); (try rw [e2]); rintro _ _ ⟨rfl, rfl⟩) | (go_at_call 55; refine rnumb_any.mono ?_; (try rw [e3]); (try rw [e4]); (try rw [e5]); rintro _ _ ⟨rfl, rfl⟩))
  all_goals go_ret
  all_goals exact ⟨by rw [HQ.out]; rfl, alloc_below _ _⟩

set_option maxRecDepth 100000 in
theorem rchk_mm0 {W : World} {ep ck tl : Int} {so : Bool}    (h3 : ¬ (0 ≤ ep ∧ ep ≤ 9007199254740992)) :
    Calls Try.prog 48 #[.agg #[.int .i64 (-1), .int .i64 (-1), .int .i64 ep, .int .i64 ck, .int .i64 tl, .bool so]] W fun e w' => e = .returned (.int .i64 (chkC ⟨(-1), (-1), ep, ck, tl, so⟩)) ∧ Below W.heap.size W w' := by
  have HQ : Hid (chkC ⟨(-1), (-1), ep, ck, tl, so⟩ = 1) := hide (chk_no (by unfold okL; simp only; omega))
  have e1 : regC (-1) = false := reg_none
  have e2 : regC (-1) = false := reg_none
  have e3 : numC ep = false := num_no h3
  clear h3
  go_enter Try.func48, Try.ntmps48
  go_wp2_with (first | (go_at_call 54; refine rreg_any.mono ?_; (try rw [e1]); (try rw [e2]); rintro _ _ ⟨rfl, rfl⟩) | (go_at_call 55; refine rnumb_any.mono ?_; (try rw [e3]); (try rw [e4]); (try rw [e5]); rintro _ _ ⟨rfl, rfl⟩))
  all_goals go_ret
  all_goals exact ⟨by rw [HQ.out]; rfl, alloc_below _ _⟩

set_option maxRecDepth 100000 in
theorem rchk_mm1 {W : World} {ep ck tl : Int} {so : Bool}   (h3 : 0 ≤ ep ∧ ep ≤ 9007199254740992) (h4 : ¬ (0 ≤ ck ∧ ck ≤ 9007199254740992)) :
    Calls Try.prog 48 #[.agg #[.int .i64 (-1), .int .i64 (-1), .int .i64 ep, .int .i64 ck, .int .i64 tl, .bool so]] W fun e w' => e = .returned (.int .i64 (chkC ⟨(-1), (-1), ep, ck, tl, so⟩)) ∧ Below W.heap.size W w' := by
  have HQ : Hid (chkC ⟨(-1), (-1), ep, ck, tl, so⟩ = 1) := hide (chk_no (by unfold okL; simp only; omega))
  have e1 : regC (-1) = false := reg_none
  have e2 : regC (-1) = false := reg_none
  have e3 : numC ep = true := num_yes h3
  have e4 : numC ck = false := num_no h4
  clear h3 h4
  go_enter Try.func48, Try.ntmps48
  go_wp2_with (first | (go_at_call 54; refine rreg_any.mono ?_; (try rw [e1]); (try rw [e2]); rintro _ _ ⟨rfl, rfl⟩) | (go_at_call 55; refine rnumb_any.mono ?_; (try rw [e3]); (try rw [e4]); (try rw [e5]); rintro _ _ ⟨rfl, rfl⟩))
  all_goals go_ret
  all_goals exact ⟨by rw [HQ.out]; rfl, alloc_below _ _⟩

set_option maxRecDepth 100000 in
theorem rchk_mm2 {W : World} {ep ck tl : Int} {so : Bool}   (h3 : 0 ≤ ep ∧ ep ≤ 9007199254740992) (h4 : 0 ≤ ck ∧ ck ≤ 9007199254740992) (h5 : ¬ (0 ≤ tl ∧ tl ≤ 9007199254740992)) :
    Calls Try.prog 48 #[.agg #[.int .i64 (-1), .int .i64 (-1), .int .i64 ep, .int .i64 ck, .int .i64 tl, .bool so]] W fun e w' => e = .returned (.int .i64 (chkC ⟨(-1), (-1), ep, ck, tl, so⟩)) ∧ Below W.heap.size W w' := by
  have HQ : Hid (chkC ⟨(-1), (-1), ep, ck, tl, so⟩ = 1) := hide (chk_no (by unfold okL; simp only; omega))
  have e1 : regC (-1) = false := reg_none
  have e2 : regC (-1) = false := reg_none
  have e3 : numC ep = true := num_yes h3
  have e4 : numC ck = true := num_yes h4
  have e5 : numC tl = false := num_no h5
  clear h3 h4 h5
  go_enter Try.func48, Try.ntmps48
  go_wp2_with (first | (go_at_call 54; refine rreg_any.mono ?_; (try rw [e1]); (try rw [e2]); rintro _ _ ⟨rfl, rfl⟩) | (go_at_call 55; refine rnumb_any.mono ?_; (try rw [e3]); (try rw [e4]); (try rw [e5]); rintro _ _ ⟨rfl, rfl⟩))
  all_goals go_ret
  all_goals exact ⟨by rw [HQ.out]; rfl, alloc_below _ _⟩

set_option maxRecDepth 100000 in
theorem rchk_om {W : World} {o ep ck tl : Int} {so : Bool} (h1 : 0 ≤ o ∧ o < 2)  (h3 : 0 ≤ ep ∧ ep ≤ 9007199254740992) (h4 : 0 ≤ ck ∧ ck ≤ 9007199254740992) (h5 : 0 ≤ tl ∧ tl ≤ 9007199254740992)  :
    Calls Try.prog 48 #[.agg #[.int .i64 o, .int .i64 (-1), .int .i64 ep, .int .i64 ck, .int .i64 tl, .bool so]] W fun e w' => e = .returned (.int .i64 (chkC ⟨o, (-1), ep, ck, tl, so⟩)) ∧ Below W.heap.size W w' := by
  have HQ : Hid (chkC ⟨o, (-1), ep, ck, tl, so⟩ = 1) := hide (chk_no (by unfold okL; simp only; first | omega | (simp; done) | (simp; omega) | (refine ⟨by omega, by omega, by omega, by omega, by omega, by omega, fun h => ?_, fun h => ?_, fun h => ?_⟩ <;> first | omega | (simp; done))))
  have e1 : regC o = true := reg_yes h1
  have d1 : (o == -1) = false := ne_eqL (by omega)
  have e2 : regC (-1) = false := reg_none
  have e3 : numC ep = true := num_yes h3
  have e4 : numC ck = true := num_yes h4
  have e5 : numC tl = true := num_yes h5
  have d1n : (o != -1) = true := ne_neL (by simpa using d1)
  go_enter Try.func48, Try.ntmps48
  go_wp2_with (first | (go_at_call 54; refine rreg_any.mono ?_; (try rw [e1]); (try rw [e2]); rintro _ _ ⟨rfl, rfl⟩) | (go_at_call 55; refine rnumb_any.mono ?_; (try rw [e3]); (try rw [e4]); (try rw [e5]); rintro _ _ ⟨rfl, rfl⟩))
  all_goals go_ret
  all_goals exact ⟨by rw [HQ.out]; rfl, alloc_below _ _⟩

set_option maxRecDepth 100000 in
theorem rchk_mm3 {W : World} {ep ck tl : Int} {so : Bool}   (h3 : 0 ≤ ep ∧ ep ≤ 9007199254740992) (h4 : 0 ≤ ck ∧ ck ≤ 9007199254740992) (h5 : 0 ≤ tl ∧ tl ≤ 9007199254740992) (h6 : ep ≠ 0) :
    Calls Try.prog 48 #[.agg #[.int .i64 (-1), .int .i64 (-1), .int .i64 ep, .int .i64 ck, .int .i64 tl, .bool so]] W fun e w' => e = .returned (.int .i64 (chkC ⟨(-1), (-1), ep, ck, tl, so⟩)) ∧ Below W.heap.size W w' := by
  have HQ : Hid (chkC ⟨(-1), (-1), ep, ck, tl, so⟩ = 1) := hide (chk_no (by unfold okL; simp only; first | omega | (simp; done) | (simp; omega) | (refine ⟨by omega, by omega, by omega, by omega, by omega, by omega, fun h => ?_, fun h => ?_, fun h => ?_⟩ <;> first | omega | (simp; done))))
  have e1 : regC (-1) = false := reg_none
  have e2 : regC (-1) = false := reg_none
  have e3 : numC ep = true := num_yes h3
  have e4 : numC ck = true := num_yes h4
  have e5 : numC tl = true := num_yes h5
  have d6 : (ep == 0) = false := ne_eqL h6
  have d6n : (ep != 0) = true := ne_neL (by simpa using d6)
  go_enter Try.func48, Try.ntmps48
  go_wp2_with (first | (go_at_call 54; refine rreg_any.mono ?_; (try rw [e1]); (try rw [e2]); rintro _ _ ⟨rfl, rfl⟩) | (go_at_call 55; refine rnumb_any.mono ?_; (try rw [e3]); (try rw [e4]); (try rw [e5]); rintro _ _ ⟨rfl, rfl⟩))
  all_goals go_ret
  all_goals exact ⟨by rw [HQ.out]; rfl, alloc_below _ _⟩

set_option maxRecDepth 100000 in
theorem rchk_mm4 {W : World} {ck tl : Int}    (h4 : 0 ≤ ck ∧ ck ≤ 9007199254740992) (h5 : 0 ≤ tl ∧ tl ≤ 9007199254740992)  :
    Calls Try.prog 48 #[.agg #[.int .i64 (-1), .int .i64 (-1), .int .i64 0, .int .i64 ck, .int .i64 tl, .bool true]] W fun e w' => e = .returned (.int .i64 (chkC ⟨(-1), (-1), 0, ck, tl, true⟩)) ∧ Below W.heap.size W w' := by
  have HQ : Hid (chkC ⟨(-1), (-1), 0, ck, tl, true⟩ = 1) := hide (chk_no (by unfold okL; simp only; first | omega | (simp; done) | (simp; omega) | (refine ⟨by omega, by omega, by omega, by omega, by omega, by omega, fun h => ?_, fun h => ?_, fun h => ?_⟩ <;> first | omega | (simp; done))))
  have e1 : regC (-1) = false := reg_none
  have e2 : regC (-1) = false := reg_none
  have e3 : numC 0 = true := by decide
  have e4 : numC ck = true := num_yes h4
  have e5 : numC tl = true := num_yes h5
  go_enter Try.func48, Try.ntmps48
  go_wp2_with (first | (go_at_call 54; refine rreg_any.mono ?_; (try rw [e1]); (try rw [e2]); rintro _ _ ⟨rfl, rfl⟩) | (go_at_call 55; refine rnumb_any.mono ?_; (try rw [e3]); (try rw [e4]); (try rw [e5]); rintro _ _ ⟨rfl, rfl⟩))
  all_goals go_ret
  all_goals exact ⟨by rw [HQ.out]; rfl, alloc_below _ _⟩

set_option maxRecDepth 100000 in
theorem rchk_mm5 {W : World} {ck tl : Int}    (h4 : 0 ≤ ck ∧ ck ≤ 9007199254740992) (h5 : 0 ≤ tl ∧ tl ≤ 9007199254740992) (h7 : ck < tl) :
    Calls Try.prog 48 #[.agg #[.int .i64 (-1), .int .i64 (-1), .int .i64 0, .int .i64 ck, .int .i64 tl, .bool false]] W fun e w' => e = .returned (.int .i64 (chkC ⟨(-1), (-1), 0, ck, tl, false⟩)) ∧ Below W.heap.size W w' := by
  have HQ : Hid (chkC ⟨(-1), (-1), 0, ck, tl, false⟩ = 1) := hide (chk_no (by unfold okL; simp only; first | omega | (simp; done) | (simp; omega) | (refine ⟨by omega, by omega, by omega, by omega, by omega, by omega, fun h => ?_, fun h => ?_, fun h => ?_⟩ <;> first | omega | (simp; done))))
  have e1 : regC (-1) = false := reg_none
  have e2 : regC (-1) = false := reg_none
  have e3 : numC 0 = true := by decide
  have e4 : numC ck = true := num_yes h4
  have e5 : numC tl = true := num_yes h5
  have d7 : decide (tl > ck) = true := decide_eq_true h7
  go_enter Try.func48, Try.ntmps48
  go_wp2_with (first | (go_at_call 54; refine rreg_any.mono ?_; (try rw [e1]); (try rw [e2]); rintro _ _ ⟨rfl, rfl⟩) | (go_at_call 55; refine rnumb_any.mono ?_; (try rw [e3]); (try rw [e4]); (try rw [e5]); rintro _ _ ⟨rfl, rfl⟩))
  all_goals go_ret
  all_goals exact ⟨by rw [HQ.out]; rfl, alloc_below _ _⟩

set_option maxRecDepth 100000 in
theorem rchk_mm6 {W : World} {ck tl : Int}    (h4 : 0 ≤ ck ∧ ck ≤ 9007199254740992) (h5 : 0 ≤ tl ∧ tl ≤ 9007199254740992) (h7 : tl ≤ ck) :
    Calls Try.prog 48 #[.agg #[.int .i64 (-1), .int .i64 (-1), .int .i64 0, .int .i64 ck, .int .i64 tl, .bool false]] W fun e w' => e = .returned (.int .i64 (chkC ⟨(-1), (-1), 0, ck, tl, false⟩)) ∧ Below W.heap.size W w' := by
  have HQ : Hid (chkC ⟨(-1), (-1), 0, ck, tl, false⟩ = 0) := hide (chk_yes (by unfold okL; simp only; first | omega | (simp; done) | (simp; omega) | (refine ⟨by omega, by omega, by omega, by omega, by omega, by omega, fun h => ?_, fun h => ?_, fun h => ?_⟩ <;> first | omega | (simp; done))))
  have e1 : regC (-1) = false := reg_none
  have e2 : regC (-1) = false := reg_none
  have e3 : numC 0 = true := by decide
  have e4 : numC ck = true := num_yes h4
  have e5 : numC tl = true := num_yes h5
  have d7 : decide (tl > ck) = false := decide_eq_false (by omega)
  go_enter Try.func48, Try.ntmps48
  go_wp2_with (first | (go_at_call 54; refine rreg_any.mono ?_; (try rw [e1]); (try rw [e2]); rintro _ _ ⟨rfl, rfl⟩) | (go_at_call 55; refine rnumb_any.mono ?_; (try rw [e3]); (try rw [e4]); (try rw [e5]); rintro _ _ ⟨rfl, rfl⟩))
  all_goals go_ret
  all_goals exact ⟨by rw [HQ.out]; rfl, alloc_below _ _⟩

set_option maxRecDepth 100000 in
theorem rchk_oo3 {W : World} {o la ck tl : Int} {so : Bool} (h1 : 0 ≤ o ∧ o < 2) (h2 : 0 ≤ la ∧ la < 2)  (h4 : 0 ≤ ck ∧ ck ≤ 9007199254740992) (h5 : 0 ≤ tl ∧ tl ≤ 9007199254740992)  :
    Calls Try.prog 48 #[.agg #[.int .i64 o, .int .i64 la, .int .i64 0, .int .i64 ck, .int .i64 tl, .bool so]] W fun e w' => e = .returned (.int .i64 (chkC ⟨o, la, 0, ck, tl, so⟩)) ∧ Below W.heap.size W w' := by
  have HQ : Hid (chkC ⟨o, la, 0, ck, tl, so⟩ = 1) := hide (chk_no (by unfold okL; simp only; first | omega | (simp; done) | (simp; omega) | (refine ⟨by omega, by omega, by omega, by omega, by omega, by omega, fun h => ?_, fun h => ?_, fun h => ?_⟩ <;> first | omega | (simp; done))))
  have e1 : regC o = true := reg_yes h1
  have d1 : (o == -1) = false := ne_eqL (by omega)
  have e2 : regC la = true := reg_yes h2
  have d2 : (la == -1) = false := ne_eqL (by omega)
  have e3 : numC 0 = true := by decide
  have e4 : numC ck = true := num_yes h4
  have e5 : numC tl = true := num_yes h5
  have d1n : (o != -1) = true := ne_neL (by simpa using d1)
  have d2n : (la != -1) = true := ne_neL (by simpa using d2)
  go_enter Try.func48, Try.ntmps48
  go_wp2_with (first | (go_at_call 54; refine rreg_any.mono ?_; (try rw [e1]); (try rw [e2]); rintro _ _ ⟨rfl, rfl⟩) | (go_at_call 55; refine rnumb_any.mono ?_; (try rw [e3]); (try rw [e4]); (try rw [e5]); rintro _ _ ⟨rfl, rfl⟩))
  all_goals go_ret
  all_goals exact ⟨by rw [HQ.out]; rfl, alloc_below _ _⟩

set_option maxRecDepth 100000 in
theorem rchk_mo3 {W : World} {la ck tl : Int} {so : Bool}  (h2 : 0 ≤ la ∧ la < 2)  (h4 : 0 ≤ ck ∧ ck ≤ 9007199254740992) (h5 : 0 ≤ tl ∧ tl ≤ 9007199254740992)  :
    Calls Try.prog 48 #[.agg #[.int .i64 (-1), .int .i64 la, .int .i64 0, .int .i64 ck, .int .i64 tl, .bool so]] W fun e w' => e = .returned (.int .i64 (chkC ⟨(-1), la, 0, ck, tl, so⟩)) ∧ Below W.heap.size W w' := by
  have HQ : Hid (chkC ⟨(-1), la, 0, ck, tl, so⟩ = 1) := hide (chk_no (by unfold okL; simp only; first | omega | (simp; done) | (simp; omega) | (refine ⟨by omega, by omega, by omega, by omega, by omega, by omega, fun h => ?_, fun h => ?_, fun h => ?_⟩ <;> first | omega | (simp; done))))
  have e1 : regC (-1) = false := reg_none
  have e2 : regC la = true := reg_yes h2
  have d2 : (la == -1) = false := ne_eqL (by omega)
  have e3 : numC 0 = true := by decide
  have e4 : numC ck = true := num_yes h4
  have e5 : numC tl = true := num_yes h5
  have d2n : (la != -1) = true := ne_neL (by simpa using d2)
  go_enter Try.func48, Try.ntmps48
  go_wp2_with (first | (go_at_call 54; refine rreg_any.mono ?_; (try rw [e1]); (try rw [e2]); rintro _ _ ⟨rfl, rfl⟩) | (go_at_call 55; refine rnumb_any.mono ?_; (try rw [e3]); (try rw [e4]); (try rw [e5]); rintro _ _ ⟨rfl, rfl⟩))
  all_goals go_ret
  all_goals exact ⟨by rw [HQ.out]; rfl, alloc_below _ _⟩

set_option maxRecDepth 100000 in
theorem rchk_oo4 {W : World} {o la ep ck tl : Int} {so : Bool} (h1 : 0 ≤ o ∧ o < 2) (h2 : 0 ≤ la ∧ la < 2) (h3 : 0 ≤ ep ∧ ep ≤ 9007199254740992) (h4 : 0 ≤ ck ∧ ck ≤ 9007199254740992) (h5 : 0 ≤ tl ∧ tl ≤ 9007199254740992) (h6 : ep ≠ 0) (h7 : o ≠ la) :
    Calls Try.prog 48 #[.agg #[.int .i64 o, .int .i64 la, .int .i64 ep, .int .i64 ck, .int .i64 tl, .bool so]] W fun e w' => e = .returned (.int .i64 (chkC ⟨o, la, ep, ck, tl, so⟩)) ∧ Below W.heap.size W w' := by
  have HQ : Hid (chkC ⟨o, la, ep, ck, tl, so⟩ = 1) := hide (chk_no (by unfold okL; simp only; first | omega | (simp; done) | (simp; omega) | (refine ⟨by omega, by omega, by omega, by omega, by omega, by omega, fun h => ?_, fun h => ?_, fun h => ?_⟩ <;> first | omega | (simp; done))))
  have e1 : regC o = true := reg_yes h1
  have d1 : (o == -1) = false := ne_eqL (by omega)
  have e2 : regC la = true := reg_yes h2
  have d2 : (la == -1) = false := ne_eqL (by omega)
  have e3 : numC ep = true := num_yes h3
  have e4 : numC ck = true := num_yes h4
  have e5 : numC tl = true := num_yes h5
  have d6 : (ep == 0) = false := ne_eqL h6
  have d7 : (o == la) = false := ne_eqL h7
  have d8 : (o != la) = true := ne_neL h7
  have d9 : (o != -1) = true := ne_neL (by omega)
  have d1n : (o != -1) = true := ne_neL (by simpa using d1)
  have d2n : (la != -1) = true := ne_neL (by simpa using d2)
  have d6n : (ep != 0) = true := ne_neL (by simpa using d6)
  go_enter Try.func48, Try.ntmps48
  go_wp2_with (first | (go_at_call 54; refine rreg_any.mono ?_; (try rw [e1]); (try rw [e2]); rintro _ _ ⟨rfl, rfl⟩) | (go_at_call 55; refine rnumb_any.mono ?_; (try rw [e3]); (try rw [e4]); (try rw [e5]); rintro _ _ ⟨rfl, rfl⟩))
  all_goals go_ret
  all_goals exact ⟨by rw [HQ.out]; rfl, alloc_below _ _⟩

set_option maxRecDepth 100000 in
theorem rchk_oo5 {W : World} {o ep ck tl : Int} {so : Bool} (h1 : 0 ≤ o ∧ o < 2) (h3 : 0 ≤ ep ∧ ep ≤ 9007199254740992) (h4 : 0 ≤ ck ∧ ck ≤ 9007199254740992) (h5 : 0 ≤ tl ∧ tl ≤ 9007199254740992) (h6 : ep ≠ 0) :
    Calls Try.prog 48 #[.agg #[.int .i64 o, .int .i64 o, .int .i64 ep, .int .i64 ck, .int .i64 tl, .bool so]] W fun e w' => e = .returned (.int .i64 (chkC ⟨o, o, ep, ck, tl, so⟩)) ∧ Below W.heap.size W w' := by
  have HQ : Hid (chkC ⟨o, o, ep, ck, tl, so⟩ = 0) := hide (chk_yes (by unfold okL; simp only; first | omega | (simp; done) | (simp; omega) | (refine ⟨by omega, by omega, by omega, by omega, by omega, by omega, fun h => ?_, fun h => ?_, fun h => ?_⟩ <;> first | omega | (simp; done))))
  have e1 : regC o = true := reg_yes h1
  have d1 : (o == -1) = false := ne_eqL (by omega)
  have e2 : regC o = true := reg_yes h1
  have e3 : numC ep = true := num_yes h3
  have e4 : numC ck = true := num_yes h4
  have e5 : numC tl = true := num_yes h5
  have d6 : (ep == 0) = false := ne_eqL h6
  have d1n : (o != -1) = true := ne_neL (by simpa using d1)
  have d6n : (ep != 0) = true := ne_neL (by simpa using d6)
  go_enter Try.func48, Try.ntmps48
  go_wp2_with (first | (go_at_call 54; refine rreg_any.mono ?_; (try rw [e1]); (try rw [e2]); rintro _ _ ⟨rfl, rfl⟩) | (go_at_call 55; refine rnumb_any.mono ?_; (try rw [e3]); (try rw [e4]); (try rw [e5]); rintro _ _ ⟨rfl, rfl⟩))
  all_goals go_ret
  all_goals exact ⟨by rw [HQ.out]; rfl, alloc_below _ _⟩

set_option maxRecDepth 100000 in
theorem rchk_mo4 {W : World} {la ep ck tl : Int} {so : Bool}  (h2 : 0 ≤ la ∧ la < 2) (h3 : 0 ≤ ep ∧ ep ≤ 9007199254740992) (h4 : 0 ≤ ck ∧ ck ≤ 9007199254740992) (h5 : 0 ≤ tl ∧ tl ≤ 9007199254740992) (h6 : ep ≠ 0) (h7 : ck < tl) :
    Calls Try.prog 48 #[.agg #[.int .i64 (-1), .int .i64 la, .int .i64 ep, .int .i64 ck, .int .i64 tl, .bool so]] W fun e w' => e = .returned (.int .i64 (chkC ⟨(-1), la, ep, ck, tl, so⟩)) ∧ Below W.heap.size W w' := by
  have HQ : Hid (chkC ⟨(-1), la, ep, ck, tl, so⟩ = 1) := hide (chk_no (by unfold okL; simp only; first | omega | (simp; done) | (simp; omega) | (refine ⟨by omega, by omega, by omega, by omega, by omega, by omega, fun h => ?_, fun h => ?_, fun h => ?_⟩ <;> first | omega | (simp; done))))
  have e1 : regC (-1) = false := reg_none
  have e2 : regC la = true := reg_yes h2
  have d2 : (la == -1) = false := ne_eqL (by omega)
  have e3 : numC ep = true := num_yes h3
  have e4 : numC ck = true := num_yes h4
  have e5 : numC tl = true := num_yes h5
  have d6 : (ep == 0) = false := ne_eqL h6
  have d7 : decide (tl > ck) = true := decide_eq_true h7
  have d2n : (la != -1) = true := ne_neL (by simpa using d2)
  have d6n : (ep != 0) = true := ne_neL (by simpa using d6)
  go_enter Try.func48, Try.ntmps48
  go_wp2_with (first | (go_at_call 54; refine rreg_any.mono ?_; (try rw [e1]); (try rw [e2]); rintro _ _ ⟨rfl, rfl⟩) | (go_at_call 55; refine rnumb_any.mono ?_; (try rw [e3]); (try rw [e4]); (try rw [e5]); rintro _ _ ⟨rfl, rfl⟩))
  all_goals go_ret
  all_goals exact ⟨by rw [HQ.out]; rfl, alloc_below _ _⟩

set_option maxRecDepth 100000 in
theorem rchk_mo5 {W : World} {la ep ck tl : Int} {so : Bool}  (h2 : 0 ≤ la ∧ la < 2) (h3 : 0 ≤ ep ∧ ep ≤ 9007199254740992) (h4 : 0 ≤ ck ∧ ck ≤ 9007199254740992) (h5 : 0 ≤ tl ∧ tl ≤ 9007199254740992) (h6 : ep ≠ 0) (h7 : tl ≤ ck) :
    Calls Try.prog 48 #[.agg #[.int .i64 (-1), .int .i64 la, .int .i64 ep, .int .i64 ck, .int .i64 tl, .bool so]] W fun e w' => e = .returned (.int .i64 (chkC ⟨(-1), la, ep, ck, tl, so⟩)) ∧ Below W.heap.size W w' := by
  have HQ : Hid (chkC ⟨(-1), la, ep, ck, tl, so⟩ = 0) := hide (chk_yes (by unfold okL; simp only; first | omega | (simp; done) | (simp; omega) | (refine ⟨by omega, by omega, by omega, by omega, by omega, by omega, fun h => ?_, fun h => ?_, fun h => ?_⟩ <;> first | omega | (simp; done))))
  have e1 : regC (-1) = false := reg_none
  have e2 : regC la = true := reg_yes h2
  have d2 : (la == -1) = false := ne_eqL (by omega)
  have e3 : numC ep = true := num_yes h3
  have e4 : numC ck = true := num_yes h4
  have e5 : numC tl = true := num_yes h5
  have d6 : (ep == 0) = false := ne_eqL h6
  have d7 : decide (tl > ck) = false := decide_eq_false (by omega)
  have d2n : (la != -1) = true := ne_neL (by simpa using d2)
  have d6n : (ep != 0) = true := ne_neL (by simpa using d6)
  go_enter Try.func48, Try.ntmps48
  go_wp2_with (first | (go_at_call 54; refine rreg_any.mono ?_; (try rw [e1]); (try rw [e2]); rintro _ _ ⟨rfl, rfl⟩) | (go_at_call 55; refine rnumb_any.mono ?_; (try rw [e3]); (try rw [e4]); (try rw [e5]); rintro _ _ ⟨rfl, rfl⟩))
  all_goals go_ret
  all_goals exact ⟨by rw [HQ.out]; rfl, alloc_below _ _⟩

theorem rcheck_any {W : World} {o la ep ck tl : Int} {so : Bool} : Calls Try.prog 48 #[.agg #[.int .i64 o, .int .i64 la, .int .i64 ep, .int .i64 ck, .int .i64 tl, .bool so]] W fun e w' => e = .returned (.int .i64 (chkC ⟨o, la, ep, ck, tl, so⟩)) ∧ Below W.heap.size W w' := by
  by_cases h1 : 0 ≤ o ∧ o < 2
  · by_cases h2 : 0 ≤ la ∧ la < 2
    · by_cases h3 : 0 ≤ ep ∧ ep ≤ 9007199254740992
      · by_cases h4 : 0 ≤ ck ∧ ck ≤ 9007199254740992
        · by_cases h5 : 0 ≤ tl ∧ tl ≤ 9007199254740992
          · by_cases h6 : ep = 0
            · subst h6; exact rchk_oo3 h1 h2 h4 h5
            · by_cases h7 : o = la
              · subst h7; exact rchk_oo5 h1 h3 h4 h5 h6
              · exact rchk_oo4 h1 h2 h3 h4 h5 h6 h7
          · exact rchk_oo2 h1 h2 h3 h4 h5
        · exact rchk_oo1 h1 h2 h3 h4
      · exact rchk_oo0 h1 h2 h3
    · by_cases h2m : la = -1
      · subst h2m
        by_cases h3 : 0 ≤ ep ∧ ep ≤ 9007199254740992
        · by_cases h4 : 0 ≤ ck ∧ ck ≤ 9007199254740992
          · by_cases h5 : 0 ≤ tl ∧ tl ≤ 9007199254740992
            · exact rchk_om h1 h3 h4 h5
            · exact rchk_om2 h1 h3 h4 h5
          · exact rchk_om1 h1 h3 h4
        · exact rchk_om0 h1 h3
      · exact rchk_ob h1 h2 h2m
  · by_cases h1m : o = -1
    · subst h1m
      by_cases h2 : 0 ≤ la ∧ la < 2
      · by_cases h3 : 0 ≤ ep ∧ ep ≤ 9007199254740992
        · by_cases h4 : 0 ≤ ck ∧ ck ≤ 9007199254740992
          · by_cases h5 : 0 ≤ tl ∧ tl ≤ 9007199254740992
            · by_cases h6 : ep = 0
              · subst h6; exact rchk_mo3 h2 h4 h5
              · by_cases h7 : ck < tl
                · exact rchk_mo4 h2 h3 h4 h5 h6 h7
                · exact rchk_mo5 h2 h3 h4 h5 h6 (by omega)
            · exact rchk_mo2 h2 h3 h4 h5
          · exact rchk_mo1 h2 h3 h4
        · exact rchk_mo0 h2 h3
      · by_cases h2m : la = -1
        · subst h2m
          by_cases h3 : 0 ≤ ep ∧ ep ≤ 9007199254740992
          · by_cases h4 : 0 ≤ ck ∧ ck ≤ 9007199254740992
            · by_cases h5 : 0 ≤ tl ∧ tl ≤ 9007199254740992
              · by_cases h6 : ep = 0
                · subst h6
                  cases so with
                  | true => exact rchk_mm4 h4 h5
                  | false =>
                    by_cases h7 : ck < tl
                    · exact rchk_mm5 h4 h5 h7
                    · exact rchk_mm6 h4 h5 (by omega)
                · exact rchk_mm3 h3 h4 h5 h6
              · exact rchk_mm2 h3 h4 h5
            · exact rchk_mm1 h3 h4
          · exact rchk_mm0 h3
        · exact rchk_mb h2 h2m
    · exact rchk_b h1 h1m
end Go.Proofs.Ytegffdmlkbdcdaa.Op
