/-
  Check of package lease: which leases may be. No conditions.
-/
import Derived.Test.YthlkhjpobiohmaaLsb
namespace Go.Proofs.Ythlkhjpobiohmaa
open Go.RowKit

theorem reg_yes {n : Int} (h : 0 ≤ n ∧ n < 2) : regC n = true := decide_eq_true h
theorem reg_no {n : Int} (h : ¬ (0 ≤ n ∧ n < 2)) : regC n = false := decide_eq_false h
theorem num_yes {n : Int} (h : 0 ≤ n ∧ n ≤ 9007199254740992) : numC n = true := decide_eq_true h
theorem num_no {n : Int} (h : ¬ (0 ≤ n ∧ n ≤ 9007199254740992)) : numC n = false := decide_eq_false h
theorem below_drewL {n : Nat} {A B : World} (h : Below n A B) (k : Nat) : Below n A (B.drewN k) := ⟨h.os, h.tape, h.output, h.size, h.block⟩
theorem ne_neL {a b : Int} (h : a ≠ b) : (a != b) = true := by simpa using h
theorem reg_none : regC (-1) = false := by decide
set_option maxRecDepth 100000 in
theorem chk_b {W : World} {o la ep ck tl : Int} {so : Bool} (h1 : ¬ (0 ≤ o ∧ o < 2)) (h1m : o ≠ -1) :
    Calls Try.prog 12 #[.agg #[.int .i64 o, .int .i64 la, .int .i64 ep, .int .i64 ck, .int .i64 tl, .bool so]] W fun e w' => e = .returned (.int .i64 (chkC ⟨o, la, ep, ck, tl, so⟩)) ∧ Below W.heap.size W w' := by
  have HQ : Hid (chkC ⟨o, la, ep, ck, tl, so⟩ = 1) := hide (chk_no (by unfold okL; simp only; omega))
  have e1 : regC o = false := reg_no h1
  have d1 : (o == -1) = false := ne_eqL h1m
  clear h1 h1m
  go_enter Try.func12, Try.ntmps12
  go_wp2_with (first | (go_at_call 33; refine isreg_any.mono ?_; (try rw [e1]); (try rw [e2]); rintro _ _ ⟨rfl, rfl⟩) | (go_at_call 34; refine iscount_any.mono ?_; (try rw [e3]); (try rw [e4]); (try rw [e5]); rintro _ _ ⟨rfl, rfl⟩))
  go_ret
  exact ⟨by rw [HQ.out]; rfl, alloc_below _ _⟩

set_option maxRecDepth 100000 in
theorem chk_ob {W : World} {o la ep ck tl : Int} {so : Bool} (h1 : 0 ≤ o ∧ o < 2) (h2 : ¬ (0 ≤ la ∧ la < 2)) (h2m : la ≠ -1) :
    Calls Try.prog 12 #[.agg #[.int .i64 o, .int .i64 la, .int .i64 ep, .int .i64 ck, .int .i64 tl, .bool so]] W fun e w' => e = .returned (.int .i64 (chkC ⟨o, la, ep, ck, tl, so⟩)) ∧ Below W.heap.size W w' := by
  have HQ : Hid (chkC ⟨o, la, ep, ck, tl, so⟩ = 1) := hide (chk_no (by unfold okL; simp only; omega))
  have e1 : regC o = true := reg_yes h1
  have d1 : (o == -1) = false := ne_eqL (by omega)
  have e2 : regC la = false := reg_no h2
  have d2 : (la == -1) = false := ne_eqL h2m
  clear h1
  clear h2 h2m
  go_enter Try.func12, Try.ntmps12
  go_wp2_with (first | (go_at_call 33; refine isreg_any.mono ?_; (try rw [e1]); (try rw [e2]); rintro _ _ ⟨rfl, rfl⟩) | (go_at_call 34; refine iscount_any.mono ?_; (try rw [e3]); (try rw [e4]); (try rw [e5]); rintro _ _ ⟨rfl, rfl⟩))
  go_ret
  exact ⟨by rw [HQ.out]; rfl, alloc_below _ _⟩

set_option maxRecDepth 100000 in
theorem chk_oo0 {W : World} {o la ep ck tl : Int} {so : Bool} (h1 : 0 ≤ o ∧ o < 2) (h2 : 0 ≤ la ∧ la < 2)  (h3 : ¬ (0 ≤ ep ∧ ep ≤ 9007199254740992)) :
    Calls Try.prog 12 #[.agg #[.int .i64 o, .int .i64 la, .int .i64 ep, .int .i64 ck, .int .i64 tl, .bool so]] W fun e w' => e = .returned (.int .i64 (chkC ⟨o, la, ep, ck, tl, so⟩)) ∧ Below W.heap.size W w' := by
  have HQ : Hid (chkC ⟨o, la, ep, ck, tl, so⟩ = 1) := hide (chk_no (by unfold okL; simp only; omega))
  have e1 : regC o = true := reg_yes h1
  have d1 : (o == -1) = false := ne_eqL (by omega)
  have e2 : regC la = true := reg_yes h2
  have d2 : (la == -1) = false := ne_eqL (by omega)
  have e3 : numC ep = false := num_no h3
  clear h1
  clear h2
  clear h3
  go_enter Try.func12, Try.ntmps12
  go_wp2_with (first | (go_at_call 33; refine isreg_any.mono ?_; (try rw [e1]); (try rw [e2]); rintro _ _ ⟨rfl, rfl⟩) | (go_at_call 34; refine iscount_any.mono ?_; (try rw [e3]); (try rw [e4]); (try rw [e5]); rintro _ _ ⟨rfl, rfl⟩))
  go_ret
  exact ⟨by rw [HQ.out]; rfl, alloc_below _ _⟩

set_option maxRecDepth 100000 in
theorem chk_oo1 {W : World} {o la ep ck tl : Int} {so : Bool} (h1 : 0 ≤ o ∧ o < 2) (h2 : 0 ≤ la ∧ la < 2) (h3 : 0 ≤ ep ∧ ep ≤ 9007199254740992) (h4 : ¬ (0 ≤ ck ∧ ck ≤ 9007199254740992)) :
    Calls Try.prog 12 #[.agg #[.int .i64 o, .int .i64 la, .int .i64 ep, .int .i64 ck, .int .i64 tl, .bool so]] W fun e w' => e = .returned (.int .i64 (chkC ⟨o, la, ep, ck, tl, so⟩)) ∧ Below W.heap.size W w' := by
  have HQ : Hid (chkC ⟨o, la, ep, ck, tl, so⟩ = 1) := hide (chk_no (by unfold okL; simp only; omega))
  have e1 : regC o = true := reg_yes h1
  have d1 : (o == -1) = false := ne_eqL (by omega)
  have e2 : regC la = true := reg_yes h2
  have d2 : (la == -1) = false := ne_eqL (by omega)
  have e3 : numC ep = true := num_yes h3
  have e4 : numC ck = false := num_no h4
  clear h1
  clear h2
  clear h3 h4
  go_enter Try.func12, Try.ntmps12
  go_wp2_with (first | (go_at_call 33; refine isreg_any.mono ?_; (try rw [e1]); (try rw [e2]); rintro _ _ ⟨rfl, rfl⟩) | (go_at_call 34; refine iscount_any.mono ?_; (try rw [e3]); (try rw [e4]); (try rw [e5]); rintro _ _ ⟨rfl, rfl⟩))
  go_ret
  exact ⟨by rw [HQ.out]; rfl, alloc_below _ _⟩

set_option maxRecDepth 100000 in
theorem chk_oo2 {W : World} {o la ep ck tl : Int} {so : Bool} (h1 : 0 ≤ o ∧ o < 2) (h2 : 0 ≤ la ∧ la < 2) (h3 : 0 ≤ ep ∧ ep ≤ 9007199254740992) (h4 : 0 ≤ ck ∧ ck ≤ 9007199254740992) (h5 : ¬ (0 ≤ tl ∧ tl ≤ 9007199254740992)) :
    Calls Try.prog 12 #[.agg #[.int .i64 o, .int .i64 la, .int .i64 ep, .int .i64 ck, .int .i64 tl, .bool so]] W fun e w' => e = .returned (.int .i64 (chkC ⟨o, la, ep, ck, tl, so⟩)) ∧ Below W.heap.size W w' := by
  have HQ : Hid (chkC ⟨o, la, ep, ck, tl, so⟩ = 1) := hide (chk_no (by unfold okL; simp only; omega))
  have e1 : regC o = true := reg_yes h1
  have d1 : (o == -1) = false := ne_eqL (by omega)
  have e2 : regC la = true := reg_yes h2
  have d2 : (la == -1) = false := ne_eqL (by omega)
  have e3 : numC ep = true := num_yes h3
  have e4 : numC ck = true := num_yes h4
  have e5 : numC tl = false := num_no h5
  clear h1
  clear h2
  clear h3 h4 h5
  go_enter Try.func12, Try.ntmps12
  go_wp2_with (first | (go_at_call 33; refine isreg_any.mono ?_; (try rw [e1]); (try rw [e2]); rintro _ _ ⟨rfl, rfl⟩) | (go_at_call 34; refine iscount_any.mono ?_; (try rw [e3]); (try rw [e4]); (try rw [e5]); rintro _ _ ⟨rfl, rfl⟩))
  go_ret
  exact ⟨by rw [HQ.out]; rfl, alloc_below _ _⟩

set_option maxRecDepth 100000 in
theorem chk_om0 {W : World} {o ep ck tl : Int} {so : Bool} (h1 : 0 ≤ o ∧ o < 2)   (h3 : ¬ (0 ≤ ep ∧ ep ≤ 9007199254740992)) :
    Calls Try.prog 12 #[.agg #[.int .i64 o, .int .i64 (-1), .int .i64 ep, .int .i64 ck, .int .i64 tl, .bool so]] W fun e w' => e = .returned (.int .i64 (chkC ⟨o, (-1), ep, ck, tl, so⟩)) ∧ Below W.heap.size W w' := by
  have HQ : Hid (chkC ⟨o, (-1), ep, ck, tl, so⟩ = 1) := hide (chk_no (by unfold okL; simp only; omega))
  have e1 : regC o = true := reg_yes h1
  have d1 : (o == -1) = false := ne_eqL (by omega)
  have e2 : regC (-1) = false := reg_none
  have e3 : numC ep = false := num_no h3
  clear h1
  clear h3
  go_enter Try.func12, Try.ntmps12
  go_wp2_with (first | (go_at_call 33; refine isreg_any.mono ?_; (try rw [e1]); (try rw [e2]); rintro _ _ ⟨rfl, rfl⟩) | (go_at_call 34; refine iscount_any.mono ?_; (try rw [e3]); (try rw [e4]); (try rw [e5]); rintro _ _ ⟨rfl, rfl⟩))
  go_ret
  exact ⟨by rw [HQ.out]; rfl, alloc_below _ _⟩

set_option maxRecDepth 100000 in
theorem chk_om1 {W : World} {o ep ck tl : Int} {so : Bool} (h1 : 0 ≤ o ∧ o < 2)  (h3 : 0 ≤ ep ∧ ep ≤ 9007199254740992) (h4 : ¬ (0 ≤ ck ∧ ck ≤ 9007199254740992)) :
    Calls Try.prog 12 #[.agg #[.int .i64 o, .int .i64 (-1), .int .i64 ep, .int .i64 ck, .int .i64 tl, .bool so]] W fun e w' => e = .returned (.int .i64 (chkC ⟨o, (-1), ep, ck, tl, so⟩)) ∧ Below W.heap.size W w' := by
  have HQ : Hid (chkC ⟨o, (-1), ep, ck, tl, so⟩ = 1) := hide (chk_no (by unfold okL; simp only; omega))
  have e1 : regC o = true := reg_yes h1
  have d1 : (o == -1) = false := ne_eqL (by omega)
  have e2 : regC (-1) = false := reg_none
  have e3 : numC ep = true := num_yes h3
  have e4 : numC ck = false := num_no h4
  clear h1
  clear h3 h4
  go_enter Try.func12, Try.ntmps12
  go_wp2_with (first | (go_at_call 33; refine isreg_any.mono ?_; (try rw [e1]); (try rw [e2]); rintro _ _ ⟨rfl, rfl⟩) | (go_at_call 34; refine iscount_any.mono ?_; (try rw [e3]); (try rw [e4]); (try rw [e5]); rintro _ _ ⟨rfl, rfl⟩))
  go_ret
  exact ⟨by rw [HQ.out]; rfl, alloc_below _ _⟩

set_option maxRecDepth 100000 in
theorem chk_om2 {W : World} {o ep ck tl : Int} {so : Bool} (h1 : 0 ≤ o ∧ o < 2)  (h3 : 0 ≤ ep ∧ ep ≤ 9007199254740992) (h4 : 0 ≤ ck ∧ ck ≤ 9007199254740992) (h5 : ¬ (0 ≤ tl ∧ tl ≤ 9007199254740992)) :
    Calls Try.prog 12 #[.agg #[.int .i64 o, .int .i64 (-1), .int .i64 ep, .int .i64 ck, .int .i64 tl, .bool so]] W fun e w' => e = .returned (.int .i64 (chkC ⟨o, (-1), ep, ck, tl, so⟩)) ∧ Below W.heap.size W w' := by
  have HQ : Hid (chkC ⟨o, (-1), ep, ck, tl, so⟩ = 1) := hide (chk_no (by unfold okL; simp only; omega))
  have e1 : regC o = true := reg_yes h1
  have d1 : (o == -1) = false := ne_eqL (by omega)
  have e2 : regC (-1) = false := reg_none
  have e3 : numC ep = true := num_yes h3
  have e4 : numC ck = true := num_yes h4
  have e5 : numC tl = false := num_no h5
  clear h1
  clear h3 h4 h5
  go_enter Try.func12, Try.ntmps12
  go_wp2_with (first | (go_at_call 33; refine isreg_any.mono ?_; (try rw [e1]); (try rw [e2]); rintro _ _ ⟨rfl, rfl⟩) | (go_at_call 34; refine iscount_any.mono ?_; (try rw [e3]); (try rw [e4]); (try rw [e5]); rintro _ _ ⟨rfl, rfl⟩))
  go_ret
  exact ⟨by rw [HQ.out]; rfl, alloc_below _ _⟩

set_option maxRecDepth 100000 in
theorem chk_mb {W : World} {la ep ck tl : Int} {so : Bool}  (h2 : ¬ (0 ≤ la ∧ la < 2)) (h2m : la ≠ -1) :
    Calls Try.prog 12 #[.agg #[.int .i64 (-1), .int .i64 la, .int .i64 ep, .int .i64 ck, .int .i64 tl, .bool so]] W fun e w' => e = .returned (.int .i64 (chkC ⟨(-1), la, ep, ck, tl, so⟩)) ∧ Below W.heap.size W w' := by
  have HQ : Hid (chkC ⟨(-1), la, ep, ck, tl, so⟩ = 1) := hide (chk_no (by unfold okL; simp only; omega))
  have e1 : regC (-1) = false := reg_none
  have e2 : regC la = false := reg_no h2
  have d2 : (la == -1) = false := ne_eqL h2m
  clear h2 h2m
  go_enter Try.func12, Try.ntmps12
  go_wp2_with (first | (go_at_call 33; refine isreg_any.mono ?_; (try rw [e1]); (try rw [e2]); rintro _ _ ⟨rfl, rfl⟩) | (go_at_call 34; refine iscount_any.mono ?_; (try rw [e3]); (try rw [e4]); (try rw [e5]); rintro _ _ ⟨rfl, rfl⟩))
  go_ret
  exact ⟨by rw [HQ.out]; rfl, alloc_below _ _⟩

set_option maxRecDepth 100000 in
theorem chk_mo0 {W : World} {la ep ck tl : Int} {so : Bool}  (h2 : 0 ≤ la ∧ la < 2)  (h3 : ¬ (0 ≤ ep ∧ ep ≤ 9007199254740992)) :
    Calls Try.prog 12 #[.agg #[.int .i64 (-1), .int .i64 la, .int .i64 ep, .int .i64 ck, .int .i64 tl, .bool so]] W fun e w' => e = .returned (.int .i64 (chkC ⟨(-1), la, ep, ck, tl, so⟩)) ∧ Below W.heap.size W w' := by
  have HQ : Hid (chkC ⟨(-1), la, ep, ck, tl, so⟩ = 1) := hide (chk_no (by unfold okL; simp only; omega))
  have e1 : regC (-1) = false := reg_none
  have e2 : regC la = true := reg_yes h2
  have d2 : (la == -1) = false := ne_eqL (by omega)
  have e3 : numC ep = false := num_no h3
  clear h2
  clear h3
  go_enter Try.func12, Try.ntmps12
  go_wp2_with (first | (go_at_call 33; refine isreg_any.mono ?_; (try rw [e1]); (try rw [e2]); rintro _ _ ⟨rfl, rfl⟩) | (go_at_call 34; refine iscount_any.mono ?_; (try rw [e3]); (try rw [e4]); (try rw [e5]); rintro _ _ ⟨rfl, rfl⟩))
  go_ret
  exact ⟨by rw [HQ.out]; rfl, alloc_below _ _⟩

set_option maxRecDepth 100000 in
theorem chk_mo1 {W : World} {la ep ck tl : Int} {so : Bool}  (h2 : 0 ≤ la ∧ la < 2) (h3 : 0 ≤ ep ∧ ep ≤ 9007199254740992) (h4 : ¬ (0 ≤ ck ∧ ck ≤ 9007199254740992)) :
    Calls Try.prog 12 #[.agg #[.int .i64 (-1), .int .i64 la, .int .i64 ep, .int .i64 ck, .int .i64 tl, .bool so]] W fun e w' => e = .returned (.int .i64 (chkC ⟨(-1), la, ep, ck, tl, so⟩)) ∧ Below W.heap.size W w' := by
  have HQ : Hid (chkC ⟨(-1), la, ep, ck, tl, so⟩ = 1) := hide (chk_no (by unfold okL; simp only; omega))
  have e1 : regC (-1) = false := reg_none
  have e2 : regC la = true := reg_yes h2
  have d2 : (la == -1) = false := ne_eqL (by omega)
  have e3 : numC ep = true := num_yes h3
  have e4 : numC ck = false := num_no h4
  clear h2
  clear h3 h4
  go_enter Try.func12, Try.ntmps12
  go_wp2_with (first | (go_at_call 33; refine isreg_any.mono ?_; (try rw [e1]); (try rw [e2]); rintro _ _ ⟨rfl, rfl⟩) | (go_at_call 34; refine iscount_any.mono ?_; (try rw [e3]); (try rw [e4]); (try rw [e5]); rintro _ _ ⟨rfl, rfl⟩))
  go_ret
  exact ⟨by rw [HQ.out]; rfl, alloc_below _ _⟩

set_option maxRecDepth 100000 in
theorem chk_mo2 {W : World} {la ep ck tl : Int} {so : Bool}  (h2 : 0 ≤ la ∧ la < 2) (h3 : 0 ≤ ep ∧ ep ≤ 9007199254740992) (h4 : 0 ≤ ck ∧ ck ≤ 9007199254740992) (h5 : ¬ (0 ≤ tl ∧ tl ≤ 9007199254740992)) :
    Calls Try.prog 12 #[.agg #[.int .i64 (-1), .int .i64 la, .int .i64 ep, .int .i64 ck, .int .i64 tl, .bool so]] W fun e w' => e = .returned (.int .i64 (chkC ⟨(-1), la, ep, ck, tl, so⟩)) ∧ Below W.heap.size W w' := by
  have HQ : Hid (chkC ⟨(-1), la, ep, ck, tl, so⟩ = 1) := hide (chk_no (by unfold okL; simp only; omega))
  have e1 : regC (-1) = false := reg_none
  have e2 : regC la = true := reg_yes h2
  have d2 : (la == -1) = false := ne_eqL (by omega)
  have e3 : numC ep = true := num_yes h3
  have e4 : numC ck = true := num_yes h4
  have e5 : numC tl = false := num_no h5
  clear h2
  clear h3 h4 h5
  go_enter Try.func12, Try.ntmps12
  go_wp2_with (first | (go_at_call 33; refine isreg_any.mono ?_; (try rw [e1]); (try rw [e2]); rintro _ _ ⟨rfl, rfl⟩) | (go_at_call 34; refine iscount_any.mono ?_; (try rw [e3]); (try rw [e4]); (try rw [e5]); rintro _ _ ⟨rfl, rfl⟩))
  go_ret
  exact ⟨by rw [HQ.out]; rfl, alloc_below _ _⟩

set_option maxRecDepth 100000 in
theorem chk_mm0 {W : World} {ep ck tl : Int} {so : Bool}    (h3 : ¬ (0 ≤ ep ∧ ep ≤ 9007199254740992)) :
    Calls Try.prog 12 #[.agg #[.int .i64 (-1), .int .i64 (-1), .int .i64 ep, .int .i64 ck, .int .i64 tl, .bool so]] W fun e w' => e = .returned (.int .i64 (chkC ⟨(-1), (-1), ep, ck, tl, so⟩)) ∧ Below W.heap.size W w' := by
  have HQ : Hid (chkC ⟨(-1), (-1), ep, ck, tl, so⟩ = 1) := hide (chk_no (by unfold okL; simp only; omega))
  have e1 : regC (-1) = false := reg_none
  have e2 : regC (-1) = false := reg_none
  have e3 : numC ep = false := num_no h3
  clear h3
  go_enter Try.func12, Try.ntmps12
  go_wp2_with (first | (go_at_call 33; refine isreg_any.mono ?_; (try rw [e1]); (try rw [e2]); rintro _ _ ⟨rfl, rfl⟩) | (go_at_call 34; refine iscount_any.mono ?_; (try rw [e3]); (try rw [e4]); (try rw [e5]); rintro _ _ ⟨rfl, rfl⟩))
  go_ret
  exact ⟨by rw [HQ.out]; rfl, alloc_below _ _⟩

set_option maxRecDepth 100000 in
theorem chk_mm1 {W : World} {ep ck tl : Int} {so : Bool}   (h3 : 0 ≤ ep ∧ ep ≤ 9007199254740992) (h4 : ¬ (0 ≤ ck ∧ ck ≤ 9007199254740992)) :
    Calls Try.prog 12 #[.agg #[.int .i64 (-1), .int .i64 (-1), .int .i64 ep, .int .i64 ck, .int .i64 tl, .bool so]] W fun e w' => e = .returned (.int .i64 (chkC ⟨(-1), (-1), ep, ck, tl, so⟩)) ∧ Below W.heap.size W w' := by
  have HQ : Hid (chkC ⟨(-1), (-1), ep, ck, tl, so⟩ = 1) := hide (chk_no (by unfold okL; simp only; omega))
  have e1 : regC (-1) = false := reg_none
  have e2 : regC (-1) = false := reg_none
  have e3 : numC ep = true := num_yes h3
  have e4 : numC ck = false := num_no h4
  clear h3 h4
  go_enter Try.func12, Try.ntmps12
  go_wp2_with (first | (go_at_call 33; refine isreg_any.mono ?_; (try rw [e1]); (try rw [e2]); rintro _ _ ⟨rfl, rfl⟩) | (go_at_call 34; refine iscount_any.mono ?_; (try rw [e3]); (try rw [e4]); (try rw [e5]); rintro _ _ ⟨rfl, rfl⟩))
  go_ret
  exact ⟨by rw [HQ.out]; rfl, alloc_below _ _⟩

set_option maxRecDepth 100000 in
theorem chk_mm2 {W : World} {ep ck tl : Int} {so : Bool}   (h3 : 0 ≤ ep ∧ ep ≤ 9007199254740992) (h4 : 0 ≤ ck ∧ ck ≤ 9007199254740992) (h5 : ¬ (0 ≤ tl ∧ tl ≤ 9007199254740992)) :
    Calls Try.prog 12 #[.agg #[.int .i64 (-1), .int .i64 (-1), .int .i64 ep, .int .i64 ck, .int .i64 tl, .bool so]] W fun e w' => e = .returned (.int .i64 (chkC ⟨(-1), (-1), ep, ck, tl, so⟩)) ∧ Below W.heap.size W w' := by
  have HQ : Hid (chkC ⟨(-1), (-1), ep, ck, tl, so⟩ = 1) := hide (chk_no (by unfold okL; simp only; omega))
  have e1 : regC (-1) = false := reg_none
  have e2 : regC (-1) = false := reg_none
  have e3 : numC ep = true := num_yes h3
  have e4 : numC ck = true := num_yes h4
  have e5 : numC tl = false := num_no h5
  clear h3 h4 h5
  go_enter Try.func12, Try.ntmps12
  go_wp2_with (first | (go_at_call 33; refine isreg_any.mono ?_; (try rw [e1]); (try rw [e2]); rintro _ _ ⟨rfl, rfl⟩) | (go_at_call 34; refine iscount_any.mono ?_; (try rw [e3]); (try rw [e4]); (try rw [e5]); rintro _ _ ⟨rfl, rfl⟩))
  go_ret
  exact ⟨by rw [HQ.out]; rfl, alloc_below _ _⟩

set_option maxRecDepth 100000 in
theorem chk_om {W : World} {o ep ck tl : Int} {so : Bool} (h1 : 0 ≤ o ∧ o < 2)  (h3 : 0 ≤ ep ∧ ep ≤ 9007199254740992) (h4 : 0 ≤ ck ∧ ck ≤ 9007199254740992) (h5 : 0 ≤ tl ∧ tl ≤ 9007199254740992)  :
    Calls Try.prog 12 #[.agg #[.int .i64 o, .int .i64 (-1), .int .i64 ep, .int .i64 ck, .int .i64 tl, .bool so]] W fun e w' => e = .returned (.int .i64 (chkC ⟨o, (-1), ep, ck, tl, so⟩)) ∧ Below W.heap.size W w' := by
  have HQ : Hid (chkC ⟨o, (-1), ep, ck, tl, so⟩ = 1) := hide (chk_no (by unfold okL; simp only; first | omega | (simp; done) | (simp; omega) | (refine ⟨by omega, by omega, by omega, by omega, by omega, by omega, fun h => ?_, fun h => ?_, fun h => ?_⟩ <;> first | omega | (simp; done))))
  have e1 : regC o = true := reg_yes h1
  have d1 : (o == -1) = false := ne_eqL (by omega)
  have e2 : regC (-1) = false := reg_none
  have e3 : numC ep = true := num_yes h3
  have e4 : numC ck = true := num_yes h4
  have e5 : numC tl = true := num_yes h5
  obtain ⟨V, hV⟩ : ∃ V, V = W.alloc (.cells #[.int .i64 o, .int .i64 (-1), .int .i64 ep, .int .i64 ck, .int .i64 tl, .bool so] 23 (0, 0)) := ⟨_, rfl⟩
  have HV : Hid (V.heap[W.heap.size]? = some (.cells #[.int .i64 o, .int .i64 (-1), .int .i64 ep, .int .i64 ck, .int .i64 tl, .bool so] 23 (0, 0))) := hide (by rw [hV]; exact heap_alloc_new W _)
  have HBV : Hid (Below W.heap.size W V) := hide (by rw [hV]; exact alloc_below _ _)
  obtain ⟨bB, hbB⟩ : ∃ bB, W.heap.size = bB := ⟨_, rfl⟩
  rw [hbB] at HV HBV
  have HBB := hide hbB
  go_enter Try.func12, Try.ntmps12
  go_upto_region 6 with (first | (go_at_call 33; refine isreg_any.mono ?_; (try rw [e1]); (try rw [e2]); rintro _ _ ⟨rfl, rfl⟩) | (go_at_call 34; refine iscount_any.mono ?_; (try rw [e3]); (try rw [e4]); (try rw [e5]); rintro _ _ ⟨rfl, rfl⟩))
  rw [← hV]
  try rw [hbB]
  clear hV hbB
  obtain ⟨_, _, _, _, _, _, u0, u1, u2, u3, u4, u5⟩ := six HV.out
  have B0 : Below V.heap.size V V.drew := (Below.refl _ V).drew
  have HV0 := hide (below_box B0 HV.out)
  go_region_held3 (fun w' => w'.cell? ⟨bB, 0, none⟩ = some (.int .i64 o) ∧ w'.cell? ⟨bB, 1, none⟩ = some (.int .i64 (-1)) ∧ w'.cell? ⟨bB, 2, none⟩ = some (.int .i64 ep) ∧ w'.cell? ⟨bB, 3, none⟩ = some (.int .i64 ck) ∧ w'.cell? ⟨bB, 4, none⟩ = some (.int .i64 tl) ∧ w'.cell? ⟨bB, 5, none⟩ = some (.bool so)) (go_keep)
    ((go_at_call 35; refine unused_any.mono ?_; rintro _ x1 ⟨rfl, d1⟩; have hx1 := below_box d1 HV0.out; obtain ⟨_, _, _, _, _, _, u0, u1, u2, u3, u4, u5⟩ := six hx1; have HX1 := hide (below_next (below_next HBV.out B0 (Nat.le_of_lt (box_lt HV.out))) d1 (Nat.le_of_lt (box_lt HV0.out))); clear d1 hx1; simp only [LE.val, LE.row]))
  go_wp2
  go_ret
  exact ⟨by rw [HQ.out]; rfl, by rw [HBB.out]; exact HX1.out⟩

set_option maxRecDepth 100000 in
theorem chk_mm3 {W : World} {ep ck tl : Int} {so : Bool}   (h3 : 0 ≤ ep ∧ ep ≤ 9007199254740992) (h4 : 0 ≤ ck ∧ ck ≤ 9007199254740992) (h5 : 0 ≤ tl ∧ tl ≤ 9007199254740992) (h6 : ep ≠ 0) :
    Calls Try.prog 12 #[.agg #[.int .i64 (-1), .int .i64 (-1), .int .i64 ep, .int .i64 ck, .int .i64 tl, .bool so]] W fun e w' => e = .returned (.int .i64 (chkC ⟨(-1), (-1), ep, ck, tl, so⟩)) ∧ Below W.heap.size W w' := by
  have HQ : Hid (chkC ⟨(-1), (-1), ep, ck, tl, so⟩ = 1) := hide (chk_no (by unfold okL; simp only; first | omega | (simp; done) | (simp; omega) | (refine ⟨by omega, by omega, by omega, by omega, by omega, by omega, fun h => ?_, fun h => ?_, fun h => ?_⟩ <;> first | omega | (simp; done))))
  have e1 : regC (-1) = false := reg_none
  have e2 : regC (-1) = false := reg_none
  have e3 : numC ep = true := num_yes h3
  have e4 : numC ck = true := num_yes h4
  have e5 : numC tl = true := num_yes h5
  have d6 : (ep == 0) = false := ne_eqL h6
  obtain ⟨V, hV⟩ : ∃ V, V = W.alloc (.cells #[.int .i64 (-1), .int .i64 (-1), .int .i64 ep, .int .i64 ck, .int .i64 tl, .bool so] 23 (0, 0)) := ⟨_, rfl⟩
  have HV : Hid (V.heap[W.heap.size]? = some (.cells #[.int .i64 (-1), .int .i64 (-1), .int .i64 ep, .int .i64 ck, .int .i64 tl, .bool so] 23 (0, 0))) := hide (by rw [hV]; exact heap_alloc_new W _)
  have HBV : Hid (Below W.heap.size W V) := hide (by rw [hV]; exact alloc_below _ _)
  obtain ⟨bB, hbB⟩ : ∃ bB, W.heap.size = bB := ⟨_, rfl⟩
  rw [hbB] at HV HBV
  have HBB := hide hbB
  go_enter Try.func12, Try.ntmps12
  go_upto_region 6 with (first | (go_at_call 33; refine isreg_any.mono ?_; (try rw [e1]); (try rw [e2]); rintro _ _ ⟨rfl, rfl⟩) | (go_at_call 34; refine iscount_any.mono ?_; (try rw [e3]); (try rw [e4]); (try rw [e5]); rintro _ _ ⟨rfl, rfl⟩))
  rw [← hV]
  try rw [hbB]
  clear hV hbB
  obtain ⟨_, _, _, _, _, _, u0, u1, u2, u3, u4, u5⟩ := six HV.out
  have B0 : Below V.heap.size V V.drew := (Below.refl _ V).drew
  have HV0 := hide (below_box B0 HV.out)
  go_region_held3 (fun w' => w'.cell? ⟨bB, 0, none⟩ = some (.int .i64 (-1)) ∧ w'.cell? ⟨bB, 1, none⟩ = some (.int .i64 (-1)) ∧ w'.cell? ⟨bB, 2, none⟩ = some (.int .i64 ep) ∧ w'.cell? ⟨bB, 3, none⟩ = some (.int .i64 ck) ∧ w'.cell? ⟨bB, 4, none⟩ = some (.int .i64 tl) ∧ w'.cell? ⟨bB, 5, none⟩ = some (.bool so)) (go_keep)
    ((go_at_call 35; refine unused_any.mono ?_; rintro _ x1 ⟨rfl, d1⟩; have hx1 := below_box d1 HV0.out; obtain ⟨_, _, _, _, _, _, u0, u1, u2, u3, u4, u5⟩ := six hx1; have HX1 := hide (below_next (below_next HBV.out B0 (Nat.le_of_lt (box_lt HV.out))) d1 (Nat.le_of_lt (box_lt HV0.out))); clear d1 hx1; simp only [LE.val, LE.row]))
  go_wp2
  go_ret
  exact ⟨by rw [HQ.out]; rfl, by rw [HBB.out]; exact HX1.out⟩

set_option maxRecDepth 100000 in
theorem chk_mm4 {W : World} {ck tl : Int}    (h4 : 0 ≤ ck ∧ ck ≤ 9007199254740992) (h5 : 0 ≤ tl ∧ tl ≤ 9007199254740992)  :
    Calls Try.prog 12 #[.agg #[.int .i64 (-1), .int .i64 (-1), .int .i64 0, .int .i64 ck, .int .i64 tl, .bool true]] W fun e w' => e = .returned (.int .i64 (chkC ⟨(-1), (-1), 0, ck, tl, true⟩)) ∧ Below W.heap.size W w' := by
  have HQ : Hid (chkC ⟨(-1), (-1), 0, ck, tl, true⟩ = 1) := hide (chk_no (by unfold okL; simp only; first | omega | (simp; done) | (simp; omega) | (refine ⟨by omega, by omega, by omega, by omega, by omega, by omega, fun h => ?_, fun h => ?_, fun h => ?_⟩ <;> first | omega | (simp; done))))
  have e1 : regC (-1) = false := reg_none
  have e2 : regC (-1) = false := reg_none
  have e3 : numC 0 = true := by decide
  have e4 : numC ck = true := num_yes h4
  have e5 : numC tl = true := num_yes h5
  obtain ⟨V, hV⟩ : ∃ V, V = W.alloc (.cells #[.int .i64 (-1), .int .i64 (-1), .int .i64 0, .int .i64 ck, .int .i64 tl, .bool true] 23 (0, 0)) := ⟨_, rfl⟩
  have HV : Hid (V.heap[W.heap.size]? = some (.cells #[.int .i64 (-1), .int .i64 (-1), .int .i64 0, .int .i64 ck, .int .i64 tl, .bool true] 23 (0, 0))) := hide (by rw [hV]; exact heap_alloc_new W _)
  have HBV : Hid (Below W.heap.size W V) := hide (by rw [hV]; exact alloc_below _ _)
  obtain ⟨bB, hbB⟩ : ∃ bB, W.heap.size = bB := ⟨_, rfl⟩
  rw [hbB] at HV HBV
  have HBB := hide hbB
  go_enter Try.func12, Try.ntmps12
  go_upto_region 6 with (first | (go_at_call 33; refine isreg_any.mono ?_; (try rw [e1]); (try rw [e2]); rintro _ _ ⟨rfl, rfl⟩) | (go_at_call 34; refine iscount_any.mono ?_; (try rw [e3]); (try rw [e4]); (try rw [e5]); rintro _ _ ⟨rfl, rfl⟩))
  rw [← hV]
  try rw [hbB]
  clear hV hbB
  obtain ⟨_, _, _, _, _, _, u0, u1, u2, u3, u4, u5⟩ := six HV.out
  have B0 : Below V.heap.size V V.drew := (Below.refl _ V).drew
  have HV0 := hide (below_box B0 HV.out)
  go_region_held3 (fun w' => w'.cell? ⟨bB, 0, none⟩ = some (.int .i64 (-1)) ∧ w'.cell? ⟨bB, 1, none⟩ = some (.int .i64 (-1)) ∧ w'.cell? ⟨bB, 2, none⟩ = some (.int .i64 0) ∧ w'.cell? ⟨bB, 3, none⟩ = some (.int .i64 ck) ∧ w'.cell? ⟨bB, 4, none⟩ = some (.int .i64 tl) ∧ w'.cell? ⟨bB, 5, none⟩ = some (.bool true)) (go_keep)
    ((go_at_call 35; refine unused_any.mono ?_; rintro _ x1 ⟨rfl, d1⟩; have hx1 := below_box d1 HV0.out; obtain ⟨_, _, _, _, _, _, u0, u1, u2, u3, u4, u5⟩ := six hx1; have HX1 := hide (below_next (below_next HBV.out B0 (Nat.le_of_lt (box_lt HV.out))) d1 (Nat.le_of_lt (box_lt HV0.out))); clear d1 hx1; simp only [LE.val, LE.row]))
  go_wp2
  go_ret
  exact ⟨by rw [HQ.out]; rfl, by rw [HBB.out]; exact HX1.out⟩

set_option maxRecDepth 100000 in
theorem chk_mm5 {W : World} {ck tl : Int}    (h4 : 0 ≤ ck ∧ ck ≤ 9007199254740992) (h5 : 0 ≤ tl ∧ tl ≤ 9007199254740992) (h7 : ck < tl) :
    Calls Try.prog 12 #[.agg #[.int .i64 (-1), .int .i64 (-1), .int .i64 0, .int .i64 ck, .int .i64 tl, .bool false]] W fun e w' => e = .returned (.int .i64 (chkC ⟨(-1), (-1), 0, ck, tl, false⟩)) ∧ Below W.heap.size W w' := by
  have HQ : Hid (chkC ⟨(-1), (-1), 0, ck, tl, false⟩ = 1) := hide (chk_no (by unfold okL; simp only; first | omega | (simp; done) | (simp; omega) | (refine ⟨by omega, by omega, by omega, by omega, by omega, by omega, fun h => ?_, fun h => ?_, fun h => ?_⟩ <;> first | omega | (simp; done))))
  have e1 : regC (-1) = false := reg_none
  have e2 : regC (-1) = false := reg_none
  have e3 : numC 0 = true := by decide
  have e4 : numC ck = true := num_yes h4
  have e5 : numC tl = true := num_yes h5
  have d7 : decide (tl > ck) = true := decide_eq_true h7
  obtain ⟨V, hV⟩ : ∃ V, V = W.alloc (.cells #[.int .i64 (-1), .int .i64 (-1), .int .i64 0, .int .i64 ck, .int .i64 tl, .bool false] 23 (0, 0)) := ⟨_, rfl⟩
  have HV : Hid (V.heap[W.heap.size]? = some (.cells #[.int .i64 (-1), .int .i64 (-1), .int .i64 0, .int .i64 ck, .int .i64 tl, .bool false] 23 (0, 0))) := hide (by rw [hV]; exact heap_alloc_new W _)
  have HBV : Hid (Below W.heap.size W V) := hide (by rw [hV]; exact alloc_below _ _)
  obtain ⟨bB, hbB⟩ : ∃ bB, W.heap.size = bB := ⟨_, rfl⟩
  rw [hbB] at HV HBV
  have HBB := hide hbB
  go_enter Try.func12, Try.ntmps12
  go_upto_region 6 with (first | (go_at_call 33; refine isreg_any.mono ?_; (try rw [e1]); (try rw [e2]); rintro _ _ ⟨rfl, rfl⟩) | (go_at_call 34; refine iscount_any.mono ?_; (try rw [e3]); (try rw [e4]); (try rw [e5]); rintro _ _ ⟨rfl, rfl⟩))
  rw [← hV]
  try rw [hbB]
  clear hV hbB
  obtain ⟨_, _, _, _, _, _, u0, u1, u2, u3, u4, u5⟩ := six HV.out
  have B0 : Below V.heap.size V V.drew := (Below.refl _ V).drew
  have HV0 := hide (below_box B0 HV.out)
  go_region_held3 (fun w' => w'.cell? ⟨bB, 0, none⟩ = some (.int .i64 (-1)) ∧ w'.cell? ⟨bB, 1, none⟩ = some (.int .i64 (-1)) ∧ w'.cell? ⟨bB, 2, none⟩ = some (.int .i64 0) ∧ w'.cell? ⟨bB, 3, none⟩ = some (.int .i64 ck) ∧ w'.cell? ⟨bB, 4, none⟩ = some (.int .i64 tl) ∧ w'.cell? ⟨bB, 5, none⟩ = some (.bool false)) (go_keep)
    ((go_at_call 35; refine unused_any.mono ?_; rintro _ x1 ⟨rfl, d1⟩; have hx1 := below_box d1 HV0.out; obtain ⟨_, _, _, _, _, _, u0, u1, u2, u3, u4, u5⟩ := six hx1; have HX1 := hide (below_next (below_next HBV.out B0 (Nat.le_of_lt (box_lt HV.out))) d1 (Nat.le_of_lt (box_lt HV0.out))); clear d1 hx1; simp only [LE.val, LE.row]))
  go_wp2
  go_ret
  exact ⟨by rw [HQ.out]; rfl, by rw [HBB.out]; exact HX1.out⟩

set_option maxRecDepth 100000 in
theorem chk_mm6 {W : World} {ck tl : Int}    (h4 : 0 ≤ ck ∧ ck ≤ 9007199254740992) (h5 : 0 ≤ tl ∧ tl ≤ 9007199254740992) (h7 : tl ≤ ck) :
    Calls Try.prog 12 #[.agg #[.int .i64 (-1), .int .i64 (-1), .int .i64 0, .int .i64 ck, .int .i64 tl, .bool false]] W fun e w' => e = .returned (.int .i64 (chkC ⟨(-1), (-1), 0, ck, tl, false⟩)) ∧ Below W.heap.size W w' := by
  have HQ : Hid (chkC ⟨(-1), (-1), 0, ck, tl, false⟩ = 0) := hide (chk_yes (by unfold okL; simp only; first | omega | (simp; done) | (simp; omega) | (refine ⟨by omega, by omega, by omega, by omega, by omega, by omega, fun h => ?_, fun h => ?_, fun h => ?_⟩ <;> first | omega | (simp; done))))
  have e1 : regC (-1) = false := reg_none
  have e2 : regC (-1) = false := reg_none
  have e3 : numC 0 = true := by decide
  have e4 : numC ck = true := num_yes h4
  have e5 : numC tl = true := num_yes h5
  have d7 : decide (tl > ck) = false := decide_eq_false (by omega)
  obtain ⟨V, hV⟩ : ∃ V, V = W.alloc (.cells #[.int .i64 (-1), .int .i64 (-1), .int .i64 0, .int .i64 ck, .int .i64 tl, .bool false] 23 (0, 0)) := ⟨_, rfl⟩
  have HV : Hid (V.heap[W.heap.size]? = some (.cells #[.int .i64 (-1), .int .i64 (-1), .int .i64 0, .int .i64 ck, .int .i64 tl, .bool false] 23 (0, 0))) := hide (by rw [hV]; exact heap_alloc_new W _)
  have HBV : Hid (Below W.heap.size W V) := hide (by rw [hV]; exact alloc_below _ _)
  obtain ⟨bB, hbB⟩ : ∃ bB, W.heap.size = bB := ⟨_, rfl⟩
  rw [hbB] at HV HBV
  have HBB := hide hbB
  go_enter Try.func12, Try.ntmps12
  go_upto_region 6 with (first | (go_at_call 33; refine isreg_any.mono ?_; (try rw [e1]); (try rw [e2]); rintro _ _ ⟨rfl, rfl⟩) | (go_at_call 34; refine iscount_any.mono ?_; (try rw [e3]); (try rw [e4]); (try rw [e5]); rintro _ _ ⟨rfl, rfl⟩))
  rw [← hV]
  try rw [hbB]
  clear hV hbB
  obtain ⟨_, _, _, _, _, _, u0, u1, u2, u3, u4, u5⟩ := six HV.out
  have B0 : Below V.heap.size V V.drew := (Below.refl _ V).drew
  have HV0 := hide (below_box B0 HV.out)
  go_region_held3 (fun w' => w'.cell? ⟨bB, 0, none⟩ = some (.int .i64 (-1)) ∧ w'.cell? ⟨bB, 1, none⟩ = some (.int .i64 (-1)) ∧ w'.cell? ⟨bB, 2, none⟩ = some (.int .i64 0) ∧ w'.cell? ⟨bB, 3, none⟩ = some (.int .i64 ck) ∧ w'.cell? ⟨bB, 4, none⟩ = some (.int .i64 tl) ∧ w'.cell? ⟨bB, 5, none⟩ = some (.bool false)) (go_keep)
    ((go_at_call 35; refine unused_any.mono ?_; rintro _ x1 ⟨rfl, d1⟩; have hx1 := below_box d1 HV0.out; obtain ⟨_, _, _, _, _, _, u0, u1, u2, u3, u4, u5⟩ := six hx1; have HX1 := hide (below_next (below_next HBV.out B0 (Nat.le_of_lt (box_lt HV.out))) d1 (Nat.le_of_lt (box_lt HV0.out))); clear d1 hx1; simp only [LE.val, LE.row]))
  go_wp2
  go_ret
  exact ⟨by rw [HQ.out]; rfl, by rw [HBB.out]; exact HX1.out⟩

set_option maxRecDepth 100000 in
theorem chk_oo3 {W : World} {o la ck tl : Int} {so : Bool} (h1 : 0 ≤ o ∧ o < 2) (h2 : 0 ≤ la ∧ la < 2)  (h4 : 0 ≤ ck ∧ ck ≤ 9007199254740992) (h5 : 0 ≤ tl ∧ tl ≤ 9007199254740992)  :
    Calls Try.prog 12 #[.agg #[.int .i64 o, .int .i64 la, .int .i64 0, .int .i64 ck, .int .i64 tl, .bool so]] W fun e w' => e = .returned (.int .i64 (chkC ⟨o, la, 0, ck, tl, so⟩)) ∧ Below W.heap.size W w' := by
  have HQ : Hid (chkC ⟨o, la, 0, ck, tl, so⟩ = 1) := hide (chk_no (by unfold okL; simp only; first | omega | (simp; done) | (simp; omega) | (refine ⟨by omega, by omega, by omega, by omega, by omega, by omega, fun h => ?_, fun h => ?_, fun h => ?_⟩ <;> first | omega | (simp; done))))
  have e1 : regC o = true := reg_yes h1
  have d1 : (o == -1) = false := ne_eqL (by omega)
  have e2 : regC la = true := reg_yes h2
  have d2 : (la == -1) = false := ne_eqL (by omega)
  have e3 : numC 0 = true := by decide
  have e4 : numC ck = true := num_yes h4
  have e5 : numC tl = true := num_yes h5
  obtain ⟨V, hV⟩ : ∃ V, V = W.alloc (.cells #[.int .i64 o, .int .i64 la, .int .i64 0, .int .i64 ck, .int .i64 tl, .bool so] 23 (0, 0)) := ⟨_, rfl⟩
  have HV : Hid (V.heap[W.heap.size]? = some (.cells #[.int .i64 o, .int .i64 la, .int .i64 0, .int .i64 ck, .int .i64 tl, .bool so] 23 (0, 0))) := hide (by rw [hV]; exact heap_alloc_new W _)
  have HBV : Hid (Below W.heap.size W V) := hide (by rw [hV]; exact alloc_below _ _)
  obtain ⟨bB, hbB⟩ : ∃ bB, W.heap.size = bB := ⟨_, rfl⟩
  rw [hbB] at HV HBV
  have HBB := hide hbB
  go_enter Try.func12, Try.ntmps12
  go_upto_region 6 with (first | (go_at_call 33; refine isreg_any.mono ?_; (try rw [e1]); (try rw [e2]); rintro _ _ ⟨rfl, rfl⟩) | (go_at_call 34; refine iscount_any.mono ?_; (try rw [e3]); (try rw [e4]); (try rw [e5]); rintro _ _ ⟨rfl, rfl⟩))
  rw [← hV]
  try rw [hbB]
  clear hV hbB
  obtain ⟨_, _, _, _, _, _, u0, u1, u2, u3, u4, u5⟩ := six HV.out
  go_big_quiet (fail)
  go_wp2
  go_ret
  refine ⟨by rw [HQ.out]; rfl, ?_⟩
  rw [HBB.out]
  exact below_drewL HBV.out _

set_option maxRecDepth 100000 in
theorem chk_mo3 {W : World} {la ck tl : Int} {so : Bool}  (h2 : 0 ≤ la ∧ la < 2)  (h4 : 0 ≤ ck ∧ ck ≤ 9007199254740992) (h5 : 0 ≤ tl ∧ tl ≤ 9007199254740992)  :
    Calls Try.prog 12 #[.agg #[.int .i64 (-1), .int .i64 la, .int .i64 0, .int .i64 ck, .int .i64 tl, .bool so]] W fun e w' => e = .returned (.int .i64 (chkC ⟨(-1), la, 0, ck, tl, so⟩)) ∧ Below W.heap.size W w' := by
  have HQ : Hid (chkC ⟨(-1), la, 0, ck, tl, so⟩ = 1) := hide (chk_no (by unfold okL; simp only; first | omega | (simp; done) | (simp; omega) | (refine ⟨by omega, by omega, by omega, by omega, by omega, by omega, fun h => ?_, fun h => ?_, fun h => ?_⟩ <;> first | omega | (simp; done))))
  have e1 : regC (-1) = false := reg_none
  have e2 : regC la = true := reg_yes h2
  have d2 : (la == -1) = false := ne_eqL (by omega)
  have e3 : numC 0 = true := by decide
  have e4 : numC ck = true := num_yes h4
  have e5 : numC tl = true := num_yes h5
  obtain ⟨V, hV⟩ : ∃ V, V = W.alloc (.cells #[.int .i64 (-1), .int .i64 la, .int .i64 0, .int .i64 ck, .int .i64 tl, .bool so] 23 (0, 0)) := ⟨_, rfl⟩
  have HV : Hid (V.heap[W.heap.size]? = some (.cells #[.int .i64 (-1), .int .i64 la, .int .i64 0, .int .i64 ck, .int .i64 tl, .bool so] 23 (0, 0))) := hide (by rw [hV]; exact heap_alloc_new W _)
  have HBV : Hid (Below W.heap.size W V) := hide (by rw [hV]; exact alloc_below _ _)
  obtain ⟨bB, hbB⟩ : ∃ bB, W.heap.size = bB := ⟨_, rfl⟩
  rw [hbB] at HV HBV
  have HBB := hide hbB
  go_enter Try.func12, Try.ntmps12
  go_upto_region 6 with (first | (go_at_call 33; refine isreg_any.mono ?_; (try rw [e1]); (try rw [e2]); rintro _ _ ⟨rfl, rfl⟩) | (go_at_call 34; refine iscount_any.mono ?_; (try rw [e3]); (try rw [e4]); (try rw [e5]); rintro _ _ ⟨rfl, rfl⟩))
  rw [← hV]
  try rw [hbB]
  clear hV hbB
  obtain ⟨_, _, _, _, _, _, u0, u1, u2, u3, u4, u5⟩ := six HV.out
  go_big_quiet (fail)
  go_wp2
  go_ret
  refine ⟨by rw [HQ.out]; rfl, ?_⟩
  rw [HBB.out]
  exact below_drewL HBV.out _

set_option maxRecDepth 100000 in
theorem chk_oo4 {W : World} {o la ep ck tl : Int} {so : Bool} (h1 : 0 ≤ o ∧ o < 2) (h2 : 0 ≤ la ∧ la < 2) (h3 : 0 ≤ ep ∧ ep ≤ 9007199254740992) (h4 : 0 ≤ ck ∧ ck ≤ 9007199254740992) (h5 : 0 ≤ tl ∧ tl ≤ 9007199254740992) (h6 : ep ≠ 0) (h7 : o ≠ la) :
    Calls Try.prog 12 #[.agg #[.int .i64 o, .int .i64 la, .int .i64 ep, .int .i64 ck, .int .i64 tl, .bool so]] W fun e w' => e = .returned (.int .i64 (chkC ⟨o, la, ep, ck, tl, so⟩)) ∧ Below W.heap.size W w' := by
  have HQ : Hid (chkC ⟨o, la, ep, ck, tl, so⟩ = 1) := hide (chk_no (by unfold okL; simp only; first | omega | (simp; done) | (simp; omega) | (refine ⟨by omega, by omega, by omega, by omega, by omega, by omega, fun h => ?_, fun h => ?_, fun h => ?_⟩ <;> first | omega | (simp; done))))
  have e1 : regC o = true := reg_yes h1
  have d1 : (o == -1) = false := ne_eqL (by omega)
  have e2 : regC la = true := reg_yes h2
  have d2 : (la == -1) = false := ne_eqL (by omega)
  have e3 : numC ep = true := num_yes h3
  have e4 : numC ck = true := num_yes h4
  have e5 : numC tl = true := num_yes h5
  have d6 : (ep == 0) = false := ne_eqL h6
  have d7 : (o == la) = false := ne_eqL h7
  have d8 : (o != la) = true := ne_neL h7
  have d9 : (o != -1) = true := ne_neL (by omega)
  obtain ⟨V, hV⟩ : ∃ V, V = W.alloc (.cells #[.int .i64 o, .int .i64 la, .int .i64 ep, .int .i64 ck, .int .i64 tl, .bool so] 23 (0, 0)) := ⟨_, rfl⟩
  have HV : Hid (V.heap[W.heap.size]? = some (.cells #[.int .i64 o, .int .i64 la, .int .i64 ep, .int .i64 ck, .int .i64 tl, .bool so] 23 (0, 0))) := hide (by rw [hV]; exact heap_alloc_new W _)
  have HBV : Hid (Below W.heap.size W V) := hide (by rw [hV]; exact alloc_below _ _)
  obtain ⟨bB, hbB⟩ : ∃ bB, W.heap.size = bB := ⟨_, rfl⟩
  rw [hbB] at HV HBV
  have HBB := hide hbB
  go_enter Try.func12, Try.ntmps12
  go_upto_region 6 with (first | (go_at_call 33; refine isreg_any.mono ?_; (try rw [e1]); (try rw [e2]); rintro _ _ ⟨rfl, rfl⟩) | (go_at_call 34; refine iscount_any.mono ?_; (try rw [e3]); (try rw [e4]); (try rw [e5]); rintro _ _ ⟨rfl, rfl⟩))
  rw [← hV]
  try rw [hbB]
  clear hV hbB
  obtain ⟨_, _, _, _, _, _, u0, u1, u2, u3, u4, u5⟩ := six HV.out
  go_big_quiet (fail)
  go_wp2
  go_ret
  refine ⟨by rw [HQ.out]; rfl, ?_⟩
  rw [HBB.out]
  exact below_drewL HBV.out _

set_option maxRecDepth 100000 in
theorem chk_oo5 {W : World} {o ep ck tl : Int} {so : Bool} (h1 : 0 ≤ o ∧ o < 2) (h3 : 0 ≤ ep ∧ ep ≤ 9007199254740992) (h4 : 0 ≤ ck ∧ ck ≤ 9007199254740992) (h5 : 0 ≤ tl ∧ tl ≤ 9007199254740992) (h6 : ep ≠ 0) :
    Calls Try.prog 12 #[.agg #[.int .i64 o, .int .i64 o, .int .i64 ep, .int .i64 ck, .int .i64 tl, .bool so]] W fun e w' => e = .returned (.int .i64 (chkC ⟨o, o, ep, ck, tl, so⟩)) ∧ Below W.heap.size W w' := by
  have HQ : Hid (chkC ⟨o, o, ep, ck, tl, so⟩ = 0) := hide (chk_yes (by unfold okL; simp only; first | omega | (simp; done) | (simp; omega) | (refine ⟨by omega, by omega, by omega, by omega, by omega, by omega, fun h => ?_, fun h => ?_, fun h => ?_⟩ <;> first | omega | (simp; done))))
  have e1 : regC o = true := reg_yes h1
  have d1 : (o == -1) = false := ne_eqL (by omega)
  have e2 : regC o = true := reg_yes h1
  have e3 : numC ep = true := num_yes h3
  have e4 : numC ck = true := num_yes h4
  have e5 : numC tl = true := num_yes h5
  have d6 : (ep == 0) = false := ne_eqL h6
  obtain ⟨V, hV⟩ : ∃ V, V = W.alloc (.cells #[.int .i64 o, .int .i64 o, .int .i64 ep, .int .i64 ck, .int .i64 tl, .bool so] 23 (0, 0)) := ⟨_, rfl⟩
  have HV : Hid (V.heap[W.heap.size]? = some (.cells #[.int .i64 o, .int .i64 o, .int .i64 ep, .int .i64 ck, .int .i64 tl, .bool so] 23 (0, 0))) := hide (by rw [hV]; exact heap_alloc_new W _)
  have HBV : Hid (Below W.heap.size W V) := hide (by rw [hV]; exact alloc_below _ _)
  obtain ⟨bB, hbB⟩ : ∃ bB, W.heap.size = bB := ⟨_, rfl⟩
  rw [hbB] at HV HBV
  have HBB := hide hbB
  go_enter Try.func12, Try.ntmps12
  go_upto_region 6 with (first | (go_at_call 33; refine isreg_any.mono ?_; (try rw [e1]); (try rw [e2]); rintro _ _ ⟨rfl, rfl⟩) | (go_at_call 34; refine iscount_any.mono ?_; (try rw [e3]); (try rw [e4]); (try rw [e5]); rintro _ _ ⟨rfl, rfl⟩))
  rw [← hV]
  try rw [hbB]
  clear hV hbB
  obtain ⟨_, _, _, _, _, _, u0, u1, u2, u3, u4, u5⟩ := six HV.out
  go_big_quiet (fail)
  go_wp2
  go_ret
  refine ⟨by rw [HQ.out]; rfl, ?_⟩
  rw [HBB.out]
  exact below_drewL HBV.out _

set_option maxRecDepth 100000 in
theorem chk_mo4 {W : World} {la ep ck tl : Int} {so : Bool}  (h2 : 0 ≤ la ∧ la < 2) (h3 : 0 ≤ ep ∧ ep ≤ 9007199254740992) (h4 : 0 ≤ ck ∧ ck ≤ 9007199254740992) (h5 : 0 ≤ tl ∧ tl ≤ 9007199254740992) (h6 : ep ≠ 0) (h7 : ck < tl) :
    Calls Try.prog 12 #[.agg #[.int .i64 (-1), .int .i64 la, .int .i64 ep, .int .i64 ck, .int .i64 tl, .bool so]] W fun e w' => e = .returned (.int .i64 (chkC ⟨(-1), la, ep, ck, tl, so⟩)) ∧ Below W.heap.size W w' := by
  have HQ : Hid (chkC ⟨(-1), la, ep, ck, tl, so⟩ = 1) := hide (chk_no (by unfold okL; simp only; first | omega | (simp; done) | (simp; omega) | (refine ⟨by omega, by omega, by omega, by omega, by omega, by omega, fun h => ?_, fun h => ?_, fun h => ?_⟩ <;> first | omega | (simp; done))))
  have e1 : regC (-1) = false := reg_none
  have e2 : regC la = true := reg_yes h2
  have d2 : (la == -1) = false := ne_eqL (by omega)
  have e3 : numC ep = true := num_yes h3
  have e4 : numC ck = true := num_yes h4
  have e5 : numC tl = true := num_yes h5
  have d6 : (ep == 0) = false := ne_eqL h6
  have d7 : decide (tl > ck) = true := decide_eq_true h7
  obtain ⟨V, hV⟩ : ∃ V, V = W.alloc (.cells #[.int .i64 (-1), .int .i64 la, .int .i64 ep, .int .i64 ck, .int .i64 tl, .bool so] 23 (0, 0)) := ⟨_, rfl⟩
  have HV : Hid (V.heap[W.heap.size]? = some (.cells #[.int .i64 (-1), .int .i64 la, .int .i64 ep, .int .i64 ck, .int .i64 tl, .bool so] 23 (0, 0))) := hide (by rw [hV]; exact heap_alloc_new W _)
  have HBV : Hid (Below W.heap.size W V) := hide (by rw [hV]; exact alloc_below _ _)
  obtain ⟨bB, hbB⟩ : ∃ bB, W.heap.size = bB := ⟨_, rfl⟩
  rw [hbB] at HV HBV
  have HBB := hide hbB
  go_enter Try.func12, Try.ntmps12
  go_upto_region 6 with (first | (go_at_call 33; refine isreg_any.mono ?_; (try rw [e1]); (try rw [e2]); rintro _ _ ⟨rfl, rfl⟩) | (go_at_call 34; refine iscount_any.mono ?_; (try rw [e3]); (try rw [e4]); (try rw [e5]); rintro _ _ ⟨rfl, rfl⟩))
  rw [← hV]
  try rw [hbB]
  clear hV hbB
  obtain ⟨_, _, _, _, _, _, u0, u1, u2, u3, u4, u5⟩ := six HV.out
  go_big_quiet (fail)
  go_wp2
  go_ret
  refine ⟨by rw [HQ.out]; rfl, ?_⟩
  rw [HBB.out]
  exact below_drewL HBV.out _

set_option maxRecDepth 100000 in
theorem chk_mo5 {W : World} {la ep ck tl : Int} {so : Bool}  (h2 : 0 ≤ la ∧ la < 2) (h3 : 0 ≤ ep ∧ ep ≤ 9007199254740992) (h4 : 0 ≤ ck ∧ ck ≤ 9007199254740992) (h5 : 0 ≤ tl ∧ tl ≤ 9007199254740992) (h6 : ep ≠ 0) (h7 : tl ≤ ck) :
    Calls Try.prog 12 #[.agg #[.int .i64 (-1), .int .i64 la, .int .i64 ep, .int .i64 ck, .int .i64 tl, .bool so]] W fun e w' => e = .returned (.int .i64 (chkC ⟨(-1), la, ep, ck, tl, so⟩)) ∧ Below W.heap.size W w' := by
  have HQ : Hid (chkC ⟨(-1), la, ep, ck, tl, so⟩ = 0) := hide (chk_yes (by unfold okL; simp only; first | omega | (simp; done) | (simp; omega) | (refine ⟨by omega, by omega, by omega, by omega, by omega, by omega, fun h => ?_, fun h => ?_, fun h => ?_⟩ <;> first | omega | (simp; done))))
  have e1 : regC (-1) = false := reg_none
  have e2 : regC la = true := reg_yes h2
  have d2 : (la == -1) = false := ne_eqL (by omega)
  have e3 : numC ep = true := num_yes h3
  have e4 : numC ck = true := num_yes h4
  have e5 : numC tl = true := num_yes h5
  have d6 : (ep == 0) = false := ne_eqL h6
  have d7 : decide (tl > ck) = false := decide_eq_false (by omega)
  obtain ⟨V, hV⟩ : ∃ V, V = W.alloc (.cells #[.int .i64 (-1), .int .i64 la, .int .i64 ep, .int .i64 ck, .int .i64 tl, .bool so] 23 (0, 0)) := ⟨_, rfl⟩
  have HV : Hid (V.heap[W.heap.size]? = some (.cells #[.int .i64 (-1), .int .i64 la, .int .i64 ep, .int .i64 ck, .int .i64 tl, .bool so] 23 (0, 0))) := hide (by rw [hV]; exact heap_alloc_new W _)
  have HBV : Hid (Below W.heap.size W V) := hide (by rw [hV]; exact alloc_below _ _)
  obtain ⟨bB, hbB⟩ : ∃ bB, W.heap.size = bB := ⟨_, rfl⟩
  rw [hbB] at HV HBV
  have HBB := hide hbB
  go_enter Try.func12, Try.ntmps12
  go_upto_region 6 with (first | (go_at_call 33; refine isreg_any.mono ?_; (try rw [e1]); (try rw [e2]); rintro _ _ ⟨rfl, rfl⟩) | (go_at_call 34; refine iscount_any.mono ?_; (try rw [e3]); (try rw [e4]); (try rw [e5]); rintro _ _ ⟨rfl, rfl⟩))
  rw [← hV]
  try rw [hbB]
  clear hV hbB
  obtain ⟨_, _, _, _, _, _, u0, u1, u2, u3, u4, u5⟩ := six HV.out
  go_big_quiet (fail)
  go_wp2
  go_ret
  refine ⟨by rw [HQ.out]; rfl, ?_⟩
  rw [HBB.out]
  exact below_drewL HBV.out _

theorem check_any {W : World} {o la ep ck tl : Int} {so : Bool} : Calls Try.prog 12 #[.agg #[.int .i64 o, .int .i64 la, .int .i64 ep, .int .i64 ck, .int .i64 tl, .bool so]] W fun e w' => e = .returned (.int .i64 (chkC ⟨o, la, ep, ck, tl, so⟩)) ∧ Below W.heap.size W w' := by
  by_cases h1 : 0 ≤ o ∧ o < 2
  · by_cases h2 : 0 ≤ la ∧ la < 2
    · by_cases h3 : 0 ≤ ep ∧ ep ≤ 9007199254740992
      · by_cases h4 : 0 ≤ ck ∧ ck ≤ 9007199254740992
        · by_cases h5 : 0 ≤ tl ∧ tl ≤ 9007199254740992
          · by_cases h6 : ep = 0
            · subst h6; exact chk_oo3 h1 h2 h4 h5
            · by_cases h7 : o = la
              · subst h7; exact chk_oo5 h1 h3 h4 h5 h6
              · exact chk_oo4 h1 h2 h3 h4 h5 h6 h7
          · exact chk_oo2 h1 h2 h3 h4 h5
        · exact chk_oo1 h1 h2 h3 h4
      · exact chk_oo0 h1 h2 h3
    · by_cases h2m : la = -1
      · subst h2m
        by_cases h3 : 0 ≤ ep ∧ ep ≤ 9007199254740992
        · by_cases h4 : 0 ≤ ck ∧ ck ≤ 9007199254740992
          · by_cases h5 : 0 ≤ tl ∧ tl ≤ 9007199254740992
            · exact chk_om h1 h3 h4 h5
            · exact chk_om2 h1 h3 h4 h5
          · exact chk_om1 h1 h3 h4
        · exact chk_om0 h1 h3
      · exact chk_ob h1 h2 h2m
  · by_cases h1m : o = -1
    · subst h1m
      by_cases h2 : 0 ≤ la ∧ la < 2
      · by_cases h3 : 0 ≤ ep ∧ ep ≤ 9007199254740992
        · by_cases h4 : 0 ≤ ck ∧ ck ≤ 9007199254740992
          · by_cases h5 : 0 ≤ tl ∧ tl ≤ 9007199254740992
            · by_cases h6 : ep = 0
              · subst h6; exact chk_mo3 h2 h4 h5
              · by_cases h7 : ck < tl
                · exact chk_mo4 h2 h3 h4 h5 h6 h7
                · exact chk_mo5 h2 h3 h4 h5 h6 (by omega)
            · exact chk_mo2 h2 h3 h4 h5
          · exact chk_mo1 h2 h3 h4
        · exact chk_mo0 h2 h3
      · by_cases h2m : la = -1
        · subst h2m
          by_cases h3 : 0 ≤ ep ∧ ep ≤ 9007199254740992
          · by_cases h4 : 0 ≤ ck ∧ ck ≤ 9007199254740992
            · by_cases h5 : 0 ≤ tl ∧ tl ≤ 9007199254740992
              · by_cases h6 : ep = 0
                · subst h6
                  cases so with
                  | true => exact chk_mm4 h4 h5
                  | false =>
                    by_cases h7 : ck < tl
                    · exact chk_mm5 h4 h5 h7
                    · exact chk_mm6 h4 h5 (by omega)
                · exact chk_mm3 h3 h4 h5 h6
              · exact chk_mm2 h3 h4 h5
            · exact chk_mm1 h3 h4
          · exact chk_mm0 h3
        · exact chk_mb h2 h2m
    · exact chk_b h1 h1m
end Go.Proofs.Ythlkhjpobiohmaa
