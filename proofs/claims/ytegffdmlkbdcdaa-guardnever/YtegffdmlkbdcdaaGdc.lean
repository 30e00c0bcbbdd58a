/-
  The reference's num and Check of a guard. No conditions.
-/
import Derived.Test.YtegffdmlkbdcdaaGda
namespace Go.Proofs.Ytegffdmlkbdcdaa
open Go.RowKit

theorem grnum_any {W : World} {n : Int} : Calls Try.prog 24 #[.int .i64 n] W fun e w' => e = .returned (.bool (numC n)) ∧ w' = W := by
  by_cases h0 : 0 ≤ n
  · have d0 : decide (n ≥ 0) = true := decide_eq_true h0
    by_cases h1 : n ≤ 9007199254740992
    · have d1 : decide (n ≤ 9007199254740992) = true := decide_eq_true h1
      have HE : Hid (numC n = true) := hide (decide_eq_true ⟨h0, h1⟩)
      clear h0 h1
      go_enter Try.func24, Try.ntmps24
      go_wp2
      go_ret
      exact ⟨by rw [HE.out]; rfl, rfl⟩
    · have d1 : decide (n ≤ 9007199254740992) = false := decide_eq_false h1
      have HE : Hid (numC n = false) := hide (decide_eq_false (by omega))
      clear h0 h1
      go_enter Try.func24, Try.ntmps24
      go_wp2
      go_ret
      exact ⟨by rw [HE.out]; rfl, rfl⟩
  · have d0 : decide (n ≥ 0) = false := decide_eq_false h0
    have HE : Hid (numC n = false) := hide (decide_eq_false (by omega))
    clear h0
    go_enter Try.func24, Try.ntmps24
    go_wp2
    go_ret
    exact ⟨by rw [HE.out]; rfl, rfl⟩
set_option maxRecDepth 100000 in
set_option maxHeartbeats 2000000 in
theorem rchk_0 {W : World} {ck ep un se ki ak : Int}  (hnck : 0 ≤ ck ∧ ck ≤ 9007199254740992) (hnep : 0 ≤ ep ∧ ep ≤ 9007199254740992) (hnun : 0 ≤ un ∧ un ≤ 9007199254740992) (hnse : 0 ≤ se ∧ se ≤ 9007199254740992) (hnak : 0 ≤ ak ∧ ak ≤ 9007199254740992) (he : ep = 0) (hu : un = 0) (hg : 12 < un - ck) :
    Calls Try.prog 9 #[.agg #[.int .i64 ck, .int .i64 ep, .int .i64 un, .int .i64 se, .int .i64 ki, .int .i64 ak]] W fun e w' => e = .returned (.int .i64 (chkG ⟨ck, ep, un, se, ki, ak⟩)) ∧ Below W.heap.size W w' := by
  have HQ : Hid (chkG ⟨ck, ep, un, se, ki, ak⟩ = 1) := hide (if_neg (by unfold okG; simp only; omega))
  have ew : IntKind.i64.wrap (un - ck) = un - ck := by rw [IntKind.wrap_i64]; omega
  have enck : numC ck = true := decide_eq_true hnck
  have enep : numC ep = true := decide_eq_true hnep
  have enun : numC un = true := decide_eq_true hnun
  have ense : numC se = true := decide_eq_true hnse
  have enak : numC ak = true := decide_eq_true hnak
  have de0 : (ep == 0) = true := by simp [he]
  have de1 : (ep != 0) = false := by simp [he]
  have du0 : (un == 0) = true := by simp [hu]
  have du1 : (un != 0) = false := by simp [hu]
  have dg0 : decide (un - ck > 12) = true := decide_eq_true hg
  clear hnck hnep hnun hnse hnak he hu hg
  obtain ⟨V, hV⟩ : ∃ V, V = W.alloc (.cells #[.int .i64 ck, .int .i64 ep, .int .i64 un, .int .i64 se, .int .i64 ki, .int .i64 ak] 23 (0, 0)) := ⟨_, rfl⟩
  have HV : Hid (V.heap[W.heap.size]? = some (.cells #[.int .i64 ck, .int .i64 ep, .int .i64 un, .int .i64 se, .int .i64 ki, .int .i64 ak] 23 (0, 0))) := hide (by rw [hV]; exact heap_alloc_new W _)
  have HBV : Hid (Below W.heap.size W V) := hide (by rw [hV]; exact alloc_below _ _)
  obtain ⟨bB, hbB⟩ : ∃ bB, W.heap.size = bB := ⟨_, rfl⟩
  rw [hbB] at HV HBV
  have HBB := hide hbB
  go_enter Try.func9, Try.ntmps9
  go_upto_region 1 with fail
  rw [← hV]
  try rw [hbB]
  clear hV hbB
  obtain ⟨_, _, _, _, _, _, u0, u1, u2, u3, u4, u5⟩ := six HV.out
  go_wp2_with (go_at_call 24; refine grnum_any.mono ?_; (first | rw [enck] | rw [enep] | rw [enun] | rw [ense] | rw [enak]); rintro _ wq ⟨rfl, hq⟩; have hq := hq.symm; subst hq)
  go_ret
  exact ⟨by first | rw [HQ.out]; rfl | rfl, by rw [HBB.out]; exact HBV.out⟩

set_option maxRecDepth 100000 in
set_option maxHeartbeats 2000000 in
theorem rchk_1 {W : World} {ck ep un se ki ak : Int}  (hnck : 0 ≤ ck ∧ ck ≤ 9007199254740992) (hnep : 0 ≤ ep ∧ ep ≤ 9007199254740992) (hnun : 0 ≤ un ∧ un ≤ 9007199254740992) (hnse : 0 ≤ se ∧ se ≤ 9007199254740992) (hnak : 0 ≤ ak ∧ ak ≤ 9007199254740992) (he : ep = 0) (hu : un = 0) (hg : ¬ (12 < un - ck)) (hk0 : ki < 0) :
    Calls Try.prog 9 #[.agg #[.int .i64 ck, .int .i64 ep, .int .i64 un, .int .i64 se, .int .i64 ki, .int .i64 ak]] W fun e w' => e = .returned (.int .i64 (chkG ⟨ck, ep, un, se, ki, ak⟩)) ∧ Below W.heap.size W w' := by
  have HQ : Hid (chkG ⟨ck, ep, un, se, ki, ak⟩ = 1) := hide (if_neg (by unfold okG; simp only; omega))
  have ew : IntKind.i64.wrap (un - ck) = un - ck := by rw [IntKind.wrap_i64]; omega
  have enck : numC ck = true := decide_eq_true hnck
  have enep : numC ep = true := decide_eq_true hnep
  have enun : numC un = true := decide_eq_true hnun
  have ense : numC se = true := decide_eq_true hnse
  have enak : numC ak = true := decide_eq_true hnak
  have de0 : (ep == 0) = true := by simp [he]
  have de1 : (ep != 0) = false := by simp [he]
  have du0 : (un == 0) = true := by simp [hu]
  have du1 : (un != 0) = false := by simp [hu]
  have dg0 : decide (un - ck > 12) = false := decide_eq_false hg
  have dk00 : decide (ki < 0) = true := decide_eq_true hk0
  clear hnck hnep hnun hnse hnak he hu hg hk0
  obtain ⟨V, hV⟩ : ∃ V, V = W.alloc (.cells #[.int .i64 ck, .int .i64 ep, .int .i64 un, .int .i64 se, .int .i64 ki, .int .i64 ak] 23 (0, 0)) := ⟨_, rfl⟩
  have HV : Hid (V.heap[W.heap.size]? = some (.cells #[.int .i64 ck, .int .i64 ep, .int .i64 un, .int .i64 se, .int .i64 ki, .int .i64 ak] 23 (0, 0))) := hide (by rw [hV]; exact heap_alloc_new W _)
  have HBV : Hid (Below W.heap.size W V) := hide (by rw [hV]; exact alloc_below _ _)
  obtain ⟨bB, hbB⟩ : ∃ bB, W.heap.size = bB := ⟨_, rfl⟩
  rw [hbB] at HV HBV
  have HBB := hide hbB
  go_enter Try.func9, Try.ntmps9
  go_upto_region 1 with fail
  rw [← hV]
  try rw [hbB]
  clear hV hbB
  obtain ⟨_, _, _, _, _, _, u0, u1, u2, u3, u4, u5⟩ := six HV.out
  go_wp2_with (go_at_call 24; refine grnum_any.mono ?_; (first | rw [enck] | rw [enep] | rw [enun] | rw [ense] | rw [enak]); rintro _ wq ⟨rfl, hq⟩; have hq := hq.symm; subst hq)
  go_ret
  exact ⟨by first | rw [HQ.out]; rfl | rfl, by rw [HBB.out]; exact HBV.out⟩

set_option maxRecDepth 100000 in
set_option maxHeartbeats 2000000 in
theorem rchk_2 {W : World} {ck ep un se ki ak : Int}  (hnck : 0 ≤ ck ∧ ck ≤ 9007199254740992) (hnep : 0 ≤ ep ∧ ep ≤ 9007199254740992) (hnun : 0 ≤ un ∧ un ≤ 9007199254740992) (hnse : 0 ≤ se ∧ se ≤ 9007199254740992) (hnak : 0 ≤ ak ∧ ak ≤ 9007199254740992) (he : ep = 0) (hu : un = 0) (hg : ¬ (12 < un - ck)) (hk0 : ¬ (ki < 0)) (hk2 : 2 < ki) :
    Calls Try.prog 9 #[.agg #[.int .i64 ck, .int .i64 ep, .int .i64 un, .int .i64 se, .int .i64 ki, .int .i64 ak]] W fun e w' => e = .returned (.int .i64 (chkG ⟨ck, ep, un, se, ki, ak⟩)) ∧ Below W.heap.size W w' := by
  have HQ : Hid (chkG ⟨ck, ep, un, se, ki, ak⟩ = 1) := hide (if_neg (by unfold okG; simp only; omega))
  have ew : IntKind.i64.wrap (un - ck) = un - ck := by rw [IntKind.wrap_i64]; omega
  have enck : numC ck = true := decide_eq_true hnck
  have enep : numC ep = true := decide_eq_true hnep
  have enun : numC un = true := decide_eq_true hnun
  have ense : numC se = true := decide_eq_true hnse
  have enak : numC ak = true := decide_eq_true hnak
  have de0 : (ep == 0) = true := by simp [he]
  have de1 : (ep != 0) = false := by simp [he]
  have du0 : (un == 0) = true := by simp [hu]
  have du1 : (un != 0) = false := by simp [hu]
  have dg0 : decide (un - ck > 12) = false := decide_eq_false hg
  have dk00 : decide (ki < 0) = false := decide_eq_false hk0
  have dk20 : decide (ki > 2) = true := decide_eq_true hk2
  clear hnck hnep hnun hnse hnak he hu hg hk0 hk2
  obtain ⟨V, hV⟩ : ∃ V, V = W.alloc (.cells #[.int .i64 ck, .int .i64 ep, .int .i64 un, .int .i64 se, .int .i64 ki, .int .i64 ak] 23 (0, 0)) := ⟨_, rfl⟩
  have HV : Hid (V.heap[W.heap.size]? = some (.cells #[.int .i64 ck, .int .i64 ep, .int .i64 un, .int .i64 se, .int .i64 ki, .int .i64 ak] 23 (0, 0))) := hide (by rw [hV]; exact heap_alloc_new W _)
  have HBV : Hid (Below W.heap.size W V) := hide (by rw [hV]; exact alloc_below _ _)
  obtain ⟨bB, hbB⟩ : ∃ bB, W.heap.size = bB := ⟨_, rfl⟩
  rw [hbB] at HV HBV
  have HBB := hide hbB
  go_enter Try.func9, Try.ntmps9
  go_upto_region 1 with fail
  rw [← hV]
  try rw [hbB]
  clear hV hbB
  obtain ⟨_, _, _, _, _, _, u0, u1, u2, u3, u4, u5⟩ := six HV.out
  go_wp2_with (go_at_call 24; refine grnum_any.mono ?_; (first | rw [enck] | rw [enep] | rw [enun] | rw [ense] | rw [enak]); rintro _ wq ⟨rfl, hq⟩; have hq := hq.symm; subst hq)
  go_ret
  exact ⟨by first | rw [HQ.out]; rfl | rfl, by rw [HBB.out]; exact HBV.out⟩

set_option maxRecDepth 100000 in
set_option maxHeartbeats 2000000 in
theorem rchk_3 {W : World} {ck ep un se ki ak : Int}  (hnck : 0 ≤ ck ∧ ck ≤ 9007199254740992) (hnep : 0 ≤ ep ∧ ep ≤ 9007199254740992) (hnun : 0 ≤ un ∧ un ≤ 9007199254740992) (hnse : 0 ≤ se ∧ se ≤ 9007199254740992) (hnak : 0 ≤ ak ∧ ak ≤ 9007199254740992) (he : ep = 0) (hu : un = 0) (hg : ¬ (12 < un - ck)) (hk0 : ¬ (ki < 0)) (hk2 : ¬ (2 < ki)) (hk : ki = 0) (ha : ak = 0) :
    Calls Try.prog 9 #[.agg #[.int .i64 ck, .int .i64 ep, .int .i64 un, .int .i64 se, .int .i64 ki, .int .i64 ak]] W fun e w' => e = .returned (.int .i64 (chkG ⟨ck, ep, un, se, ki, ak⟩)) ∧ Below W.heap.size W w' := by
  have HQ : Hid (chkG ⟨ck, ep, un, se, ki, ak⟩ = 0) := hide (if_pos (by unfold okG; simp only; omega))
  have ew : IntKind.i64.wrap (un - ck) = un - ck := by rw [IntKind.wrap_i64]; omega
  have enck : numC ck = true := decide_eq_true hnck
  have enep : numC ep = true := decide_eq_true hnep
  have enun : numC un = true := decide_eq_true hnun
  have ense : numC se = true := decide_eq_true hnse
  have enak : numC ak = true := decide_eq_true hnak
  have de0 : (ep == 0) = true := by simp [he]
  have de1 : (ep != 0) = false := by simp [he]
  have du0 : (un == 0) = true := by simp [hu]
  have du1 : (un != 0) = false := by simp [hu]
  have dg0 : decide (un - ck > 12) = false := decide_eq_false hg
  have dk00 : decide (ki < 0) = false := decide_eq_false hk0
  have dk20 : decide (ki > 2) = false := decide_eq_false hk2
  have dk0 : (ki == 0) = true := by simp [hk]
  have dk1 : (ki != 0) = false := by simp [hk]
  have da0 : (ak == 0) = true := by simp [ha]
  have da1 : (ak != 0) = false := by simp [ha]
  have dkk : (ki == 2) = false := by simp [hk]
  clear hnck hnep hnun hnse hnak he hu hg hk0 hk2 hk ha
  obtain ⟨V, hV⟩ : ∃ V, V = W.alloc (.cells #[.int .i64 ck, .int .i64 ep, .int .i64 un, .int .i64 se, .int .i64 ki, .int .i64 ak] 23 (0, 0)) := ⟨_, rfl⟩
  have HV : Hid (V.heap[W.heap.size]? = some (.cells #[.int .i64 ck, .int .i64 ep, .int .i64 un, .int .i64 se, .int .i64 ki, .int .i64 ak] 23 (0, 0))) := hide (by rw [hV]; exact heap_alloc_new W _)
  have HBV : Hid (Below W.heap.size W V) := hide (by rw [hV]; exact alloc_below _ _)
  obtain ⟨bB, hbB⟩ : ∃ bB, W.heap.size = bB := ⟨_, rfl⟩
  rw [hbB] at HV HBV
  have HBB := hide hbB
  go_enter Try.func9, Try.ntmps9
  go_upto_region 1 with fail
  rw [← hV]
  try rw [hbB]
  clear hV hbB
  obtain ⟨_, _, _, _, _, _, u0, u1, u2, u3, u4, u5⟩ := six HV.out
  go_wp2_with (go_at_call 24; refine grnum_any.mono ?_; (first | rw [enck] | rw [enep] | rw [enun] | rw [ense] | rw [enak]); rintro _ wq ⟨rfl, hq⟩; have hq := hq.symm; subst hq)
  go_ret
  exact ⟨by first | rw [HQ.out]; rfl | rfl, by rw [HBB.out]; exact HBV.out⟩

set_option maxRecDepth 100000 in
set_option maxHeartbeats 2000000 in
theorem rchk_4 {W : World} {ck ep un se ki ak : Int}  (hnck : 0 ≤ ck ∧ ck ≤ 9007199254740992) (hnep : 0 ≤ ep ∧ ep ≤ 9007199254740992) (hnun : 0 ≤ un ∧ un ≤ 9007199254740992) (hnse : 0 ≤ se ∧ se ≤ 9007199254740992) (hnak : 0 ≤ ak ∧ ak ≤ 9007199254740992) (he : ep = 0) (hu : un = 0) (hg : ¬ (12 < un - ck)) (hk0 : ¬ (ki < 0)) (hk2 : ¬ (2 < ki)) (hk : ki = 0) (ha : ¬ (ak = 0)) :
    Calls Try.prog 9 #[.agg #[.int .i64 ck, .int .i64 ep, .int .i64 un, .int .i64 se, .int .i64 ki, .int .i64 ak]] W fun e w' => e = .returned (.int .i64 (chkG ⟨ck, ep, un, se, ki, ak⟩)) ∧ Below W.heap.size W w' := by
  have HQ : Hid (chkG ⟨ck, ep, un, se, ki, ak⟩ = 1) := hide (if_neg (by unfold okG; simp only; omega))
  have ew : IntKind.i64.wrap (un - ck) = un - ck := by rw [IntKind.wrap_i64]; omega
  have enck : numC ck = true := decide_eq_true hnck
  have enep : numC ep = true := decide_eq_true hnep
  have enun : numC un = true := decide_eq_true hnun
  have ense : numC se = true := decide_eq_true hnse
  have enak : numC ak = true := decide_eq_true hnak
  have de0 : (ep == 0) = true := by simp [he]
  have de1 : (ep != 0) = false := by simp [he]
  have du0 : (un == 0) = true := by simp [hu]
  have du1 : (un != 0) = false := by simp [hu]
  have dg0 : decide (un - ck > 12) = false := decide_eq_false hg
  have dk00 : decide (ki < 0) = false := decide_eq_false hk0
  have dk20 : decide (ki > 2) = false := decide_eq_false hk2
  have dk0 : (ki == 0) = true := by simp [hk]
  have dk1 : (ki != 0) = false := by simp [hk]
  have da0 : (ak == 0) = false := by simp [ha]
  have da1 : (ak != 0) = true := by simp [ha]
  have dkk : (ki == 2) = false := by simp [hk]
  clear hnck hnep hnun hnse hnak he hu hg hk0 hk2 hk ha
  obtain ⟨V, hV⟩ : ∃ V, V = W.alloc (.cells #[.int .i64 ck, .int .i64 ep, .int .i64 un, .int .i64 se, .int .i64 ki, .int .i64 ak] 23 (0, 0)) := ⟨_, rfl⟩
  have HV : Hid (V.heap[W.heap.size]? = some (.cells #[.int .i64 ck, .int .i64 ep, .int .i64 un, .int .i64 se, .int .i64 ki, .int .i64 ak] 23 (0, 0))) := hide (by rw [hV]; exact heap_alloc_new W _)
  have HBV : Hid (Below W.heap.size W V) := hide (by rw [hV]; exact alloc_below _ _)
  obtain ⟨bB, hbB⟩ : ∃ bB, W.heap.size = bB := ⟨_, rfl⟩
  rw [hbB] at HV HBV
  have HBB := hide hbB
  go_enter Try.func9, Try.ntmps9
  go_upto_region 1 with fail
  rw [← hV]
  try rw [hbB]
  clear hV hbB
  obtain ⟨_, _, _, _, _, _, u0, u1, u2, u3, u4, u5⟩ := six HV.out
  go_wp2_with (go_at_call 24; refine grnum_any.mono ?_; (first | rw [enck] | rw [enep] | rw [enun] | rw [ense] | rw [enak]); rintro _ wq ⟨rfl, hq⟩; have hq := hq.symm; subst hq)
  go_ret
  exact ⟨by first | rw [HQ.out]; rfl | rfl, by rw [HBB.out]; exact HBV.out⟩

set_option maxRecDepth 100000 in
set_option maxHeartbeats 2000000 in
theorem rchk_5 {W : World} {ck ep un se ki ak : Int}  (hnck : 0 ≤ ck ∧ ck ≤ 9007199254740992) (hnep : 0 ≤ ep ∧ ep ≤ 9007199254740992) (hnun : 0 ≤ un ∧ un ≤ 9007199254740992) (hnse : 0 ≤ se ∧ se ≤ 9007199254740992) (hnak : 0 ≤ ak ∧ ak ≤ 9007199254740992) (he : ep = 0) (hu : un = 0) (hg : ¬ (12 < un - ck)) (hk0 : ¬ (ki < 0)) (hk2 : ¬ (2 < ki)) (hk : ¬ (ki = 0)) (hs : se = 0) :
    Calls Try.prog 9 #[.agg #[.int .i64 ck, .int .i64 ep, .int .i64 un, .int .i64 se, .int .i64 ki, .int .i64 ak]] W fun e w' => e = .returned (.int .i64 (chkG ⟨ck, ep, un, se, ki, ak⟩)) ∧ Below W.heap.size W w' := by
  have HQ : Hid (chkG ⟨ck, ep, un, se, ki, ak⟩ = 1) := hide (if_neg (by unfold okG; simp only; omega))
  have ew : IntKind.i64.wrap (un - ck) = un - ck := by rw [IntKind.wrap_i64]; omega
  have enck : numC ck = true := decide_eq_true hnck
  have enep : numC ep = true := decide_eq_true hnep
  have enun : numC un = true := decide_eq_true hnun
  have ense : numC se = true := decide_eq_true hnse
  have enak : numC ak = true := decide_eq_true hnak
  have de0 : (ep == 0) = true := by simp [he]
  have de1 : (ep != 0) = false := by simp [he]
  have du0 : (un == 0) = true := by simp [hu]
  have du1 : (un != 0) = false := by simp [hu]
  have dg0 : decide (un - ck > 12) = false := decide_eq_false hg
  have dk00 : decide (ki < 0) = false := decide_eq_false hk0
  have dk20 : decide (ki > 2) = false := decide_eq_false hk2
  have dk0 : (ki == 0) = false := by simp [hk]
  have dk1 : (ki != 0) = true := by simp [hk]
  have ds0 : (se == 0) = true := by simp [hs]
  have ds1 : (se != 0) = false := by simp [hs]
  clear hnck hnep hnun hnse hnak he hu hg hk0 hk2 hk hs
  obtain ⟨V, hV⟩ : ∃ V, V = W.alloc (.cells #[.int .i64 ck, .int .i64 ep, .int .i64 un, .int .i64 se, .int .i64 ki, .int .i64 ak] 23 (0, 0)) := ⟨_, rfl⟩
  have HV : Hid (V.heap[W.heap.size]? = some (.cells #[.int .i64 ck, .int .i64 ep, .int .i64 un, .int .i64 se, .int .i64 ki, .int .i64 ak] 23 (0, 0))) := hide (by rw [hV]; exact heap_alloc_new W _)
  have HBV : Hid (Below W.heap.size W V) := hide (by rw [hV]; exact alloc_below _ _)
  obtain ⟨bB, hbB⟩ : ∃ bB, W.heap.size = bB := ⟨_, rfl⟩
  rw [hbB] at HV HBV
  have HBB := hide hbB
  go_enter Try.func9, Try.ntmps9
  go_upto_region 1 with fail
  rw [← hV]
  try rw [hbB]
  clear hV hbB
  obtain ⟨_, _, _, _, _, _, u0, u1, u2, u3, u4, u5⟩ := six HV.out
  go_wp2_with (go_at_call 24; refine grnum_any.mono ?_; (first | rw [enck] | rw [enep] | rw [enun] | rw [ense] | rw [enak]); rintro _ wq ⟨rfl, hq⟩; have hq := hq.symm; subst hq)
  go_ret
  exact ⟨by first | rw [HQ.out]; rfl | rfl, by rw [HBB.out]; exact HBV.out⟩

set_option maxRecDepth 100000 in
set_option maxHeartbeats 2000000 in
theorem rchk_6 {W : World} {ck ep un se ki ak : Int}  (hnck : 0 ≤ ck ∧ ck ≤ 9007199254740992) (hnep : 0 ≤ ep ∧ ep ≤ 9007199254740992) (hnun : 0 ≤ un ∧ un ≤ 9007199254740992) (hnse : 0 ≤ se ∧ se ≤ 9007199254740992) (hnak : 0 ≤ ak ∧ ak ≤ 9007199254740992) (he : ep = 0) (hu : un = 0) (hg : ¬ (12 < un - ck)) (hk0 : ¬ (ki < 0)) (hk2 : ¬ (2 < ki)) (hk : ¬ (ki = 0)) (hs : ¬ (se = 0)) (hac : ck < ak) :
    Calls Try.prog 9 #[.agg #[.int .i64 ck, .int .i64 ep, .int .i64 un, .int .i64 se, .int .i64 ki, .int .i64 ak]] W fun e w' => e = .returned (.int .i64 (chkG ⟨ck, ep, un, se, ki, ak⟩)) ∧ Below W.heap.size W w' := by
  have HQ : Hid (chkG ⟨ck, ep, un, se, ki, ak⟩ = 1) := hide (if_neg (by unfold okG; simp only; omega))
  have ew : IntKind.i64.wrap (un - ck) = un - ck := by rw [IntKind.wrap_i64]; omega
  have enck : numC ck = true := decide_eq_true hnck
  have enep : numC ep = true := decide_eq_true hnep
  have enun : numC un = true := decide_eq_true hnun
  have ense : numC se = true := decide_eq_true hnse
  have enak : numC ak = true := decide_eq_true hnak
  have de0 : (ep == 0) = true := by simp [he]
  have de1 : (ep != 0) = false := by simp [he]
  have du0 : (un == 0) = true := by simp [hu]
  have du1 : (un != 0) = false := by simp [hu]
  have dg0 : decide (un - ck > 12) = false := decide_eq_false hg
  have dk00 : decide (ki < 0) = false := decide_eq_false hk0
  have dk20 : decide (ki > 2) = false := decide_eq_false hk2
  have dk0 : (ki == 0) = false := by simp [hk]
  have dk1 : (ki != 0) = true := by simp [hk]
  have ds0 : (se == 0) = false := by simp [hs]
  have ds1 : (se != 0) = true := by simp [hs]
  have dac0 : decide (ak > ck) = true := decide_eq_true hac
  clear hnck hnep hnun hnse hnak he hu hg hk0 hk2 hk hs hac
  obtain ⟨V, hV⟩ : ∃ V, V = W.alloc (.cells #[.int .i64 ck, .int .i64 ep, .int .i64 un, .int .i64 se, .int .i64 ki, .int .i64 ak] 23 (0, 0)) := ⟨_, rfl⟩
  have HV : Hid (V.heap[W.heap.size]? = some (.cells #[.int .i64 ck, .int .i64 ep, .int .i64 un, .int .i64 se, .int .i64 ki, .int .i64 ak] 23 (0, 0))) := hide (by rw [hV]; exact heap_alloc_new W _)
  have HBV : Hid (Below W.heap.size W V) := hide (by rw [hV]; exact alloc_below _ _)
  obtain ⟨bB, hbB⟩ : ∃ bB, W.heap.size = bB := ⟨_, rfl⟩
  rw [hbB] at HV HBV
  have HBB := hide hbB
  go_enter Try.func9, Try.ntmps9
  go_upto_region 1 with fail
  rw [← hV]
  try rw [hbB]
  clear hV hbB
  obtain ⟨_, _, _, _, _, _, u0, u1, u2, u3, u4, u5⟩ := six HV.out
  go_wp2_with (go_at_call 24; refine grnum_any.mono ?_; (first | rw [enck] | rw [enep] | rw [enun] | rw [ense] | rw [enak]); rintro _ wq ⟨rfl, hq⟩; have hq := hq.symm; subst hq)
  go_ret
  exact ⟨by first | rw [HQ.out]; rfl | rfl, by rw [HBB.out]; exact HBV.out⟩

set_option maxRecDepth 100000 in
set_option maxHeartbeats 2000000 in
theorem rchk_7 {W : World} {ck ep un se ki ak : Int}  (hnck : 0 ≤ ck ∧ ck ≤ 9007199254740992) (hnep : 0 ≤ ep ∧ ep ≤ 9007199254740992) (hnun : 0 ≤ un ∧ un ≤ 9007199254740992) (hnse : 0 ≤ se ∧ se ≤ 9007199254740992) (hnak : 0 ≤ ak ∧ ak ≤ 9007199254740992) (he : ep = 0) (hu : un = 0) (hg : ¬ (12 < un - ck)) (hk0 : ¬ (ki < 0)) (hk2 : ¬ (2 < ki)) (hk : ¬ (ki = 0)) (hs : ¬ (se = 0)) (hac : ¬ (ck < ak)) (hkk : ki = 2) :
    Calls Try.prog 9 #[.agg #[.int .i64 ck, .int .i64 ep, .int .i64 un, .int .i64 se, .int .i64 ki, .int .i64 ak]] W fun e w' => e = .returned (.int .i64 (chkG ⟨ck, ep, un, se, ki, ak⟩)) ∧ Below W.heap.size W w' := by
  have HQ : Hid (chkG ⟨ck, ep, un, se, ki, ak⟩ = 1) := hide (if_neg (by unfold okG; simp only; omega))
  have ew : IntKind.i64.wrap (un - ck) = un - ck := by rw [IntKind.wrap_i64]; omega
  have enck : numC ck = true := decide_eq_true hnck
  have enep : numC ep = true := decide_eq_true hnep
  have enun : numC un = true := decide_eq_true hnun
  have ense : numC se = true := decide_eq_true hnse
  have enak : numC ak = true := decide_eq_true hnak
  have de0 : (ep == 0) = true := by simp [he]
  have de1 : (ep != 0) = false := by simp [he]
  have du0 : (un == 0) = true := by simp [hu]
  have du1 : (un != 0) = false := by simp [hu]
  have dg0 : decide (un - ck > 12) = false := decide_eq_false hg
  have dk00 : decide (ki < 0) = false := decide_eq_false hk0
  have dk20 : decide (ki > 2) = false := decide_eq_false hk2
  have dk0 : (ki == 0) = false := by simp [hk]
  have dk1 : (ki != 0) = true := by simp [hk]
  have ds0 : (se == 0) = false := by simp [hs]
  have ds1 : (se != 0) = true := by simp [hs]
  have dac0 : decide (ak > ck) = false := decide_eq_false hac
  have dkk0 : (ki == 2) = true := by simp [hkk]
  have dkk1 : (ki != 2) = false := by simp [hkk]
  clear hnck hnep hnun hnse hnak he hu hg hk0 hk2 hk hs hac hkk
  obtain ⟨V, hV⟩ : ∃ V, V = W.alloc (.cells #[.int .i64 ck, .int .i64 ep, .int .i64 un, .int .i64 se, .int .i64 ki, .int .i64 ak] 23 (0, 0)) := ⟨_, rfl⟩
  have HV : Hid (V.heap[W.heap.size]? = some (.cells #[.int .i64 ck, .int .i64 ep, .int .i64 un, .int .i64 se, .int .i64 ki, .int .i64 ak] 23 (0, 0))) := hide (by rw [hV]; exact heap_alloc_new W _)
  have HBV : Hid (Below W.heap.size W V) := hide (by rw [hV]; exact alloc_below _ _)
  obtain ⟨bB, hbB⟩ : ∃ bB, W.heap.size = bB := ⟨_, rfl⟩
  rw [hbB] at HV HBV
  have HBB := hide hbB
  go_enter Try.func9, Try.ntmps9
  go_upto_region 1 with fail
  rw [← hV]
  try rw [hbB]
  clear hV hbB
  obtain ⟨_, _, _, _, _, _, u0, u1, u2, u3, u4, u5⟩ := six HV.out
  go_wp2_with (go_at_call 24; refine grnum_any.mono ?_; (first | rw [enck] | rw [enep] | rw [enun] | rw [ense] | rw [enak]); rintro _ wq ⟨rfl, hq⟩; have hq := hq.symm; subst hq)
  go_ret
  exact ⟨by first | rw [HQ.out]; rfl | rfl, by rw [HBB.out]; exact HBV.out⟩

set_option maxRecDepth 100000 in
set_option maxHeartbeats 2000000 in
theorem rchk_8 {W : World} {ck ep un se ki ak : Int}  (hnck : 0 ≤ ck ∧ ck ≤ 9007199254740992) (hnep : 0 ≤ ep ∧ ep ≤ 9007199254740992) (hnun : 0 ≤ un ∧ un ≤ 9007199254740992) (hnse : 0 ≤ se ∧ se ≤ 9007199254740992) (hnak : 0 ≤ ak ∧ ak ≤ 9007199254740992) (he : ep = 0) (hu : un = 0) (hg : ¬ (12 < un - ck)) (hk0 : ¬ (ki < 0)) (hk2 : ¬ (2 < ki)) (hk : ¬ (ki = 0)) (hs : ¬ (se = 0)) (hac : ¬ (ck < ak)) (hkk : ¬ (ki = 2)) :
    Calls Try.prog 9 #[.agg #[.int .i64 ck, .int .i64 ep, .int .i64 un, .int .i64 se, .int .i64 ki, .int .i64 ak]] W fun e w' => e = .returned (.int .i64 (chkG ⟨ck, ep, un, se, ki, ak⟩)) ∧ Below W.heap.size W w' := by
  have HQ : Hid (chkG ⟨ck, ep, un, se, ki, ak⟩ = 0) := hide (if_pos (by unfold okG; simp only; omega))
  have ew : IntKind.i64.wrap (un - ck) = un - ck := by rw [IntKind.wrap_i64]; omega
  have enck : numC ck = true := decide_eq_true hnck
  have enep : numC ep = true := decide_eq_true hnep
  have enun : numC un = true := decide_eq_true hnun
  have ense : numC se = true := decide_eq_true hnse
  have enak : numC ak = true := decide_eq_true hnak
  have de0 : (ep == 0) = true := by simp [he]
  have de1 : (ep != 0) = false := by simp [he]
  have du0 : (un == 0) = true := by simp [hu]
  have du1 : (un != 0) = false := by simp [hu]
  have dg0 : decide (un - ck > 12) = false := decide_eq_false hg
  have dk00 : decide (ki < 0) = false := decide_eq_false hk0
  have dk20 : decide (ki > 2) = false := decide_eq_false hk2
  have dk0 : (ki == 0) = false := by simp [hk]
  have dk1 : (ki != 0) = true := by simp [hk]
  have ds0 : (se == 0) = false := by simp [hs]
  have ds1 : (se != 0) = true := by simp [hs]
  have dac0 : decide (ak > ck) = false := decide_eq_false hac
  have dkk0 : (ki == 2) = false := by simp [hkk]
  have dkk1 : (ki != 2) = true := by simp [hkk]
  clear hnck hnep hnun hnse hnak he hu hg hk0 hk2 hk hs hac hkk
  obtain ⟨V, hV⟩ : ∃ V, V = W.alloc (.cells #[.int .i64 ck, .int .i64 ep, .int .i64 un, .int .i64 se, .int .i64 ki, .int .i64 ak] 23 (0, 0)) := ⟨_, rfl⟩
  have HV : Hid (V.heap[W.heap.size]? = some (.cells #[.int .i64 ck, .int .i64 ep, .int .i64 un, .int .i64 se, .int .i64 ki, .int .i64 ak] 23 (0, 0))) := hide (by rw [hV]; exact heap_alloc_new W _)
  have HBV : Hid (Below W.heap.size W V) := hide (by rw [hV]; exact alloc_below _ _)
  obtain ⟨bB, hbB⟩ : ∃ bB, W.heap.size = bB := ⟨_, rfl⟩
  rw [hbB] at HV HBV
  have HBB := hide hbB
  go_enter Try.func9, Try.ntmps9
  go_upto_region 1 with fail
  rw [← hV]
  try rw [hbB]
  clear hV hbB
  obtain ⟨_, _, _, _, _, _, u0, u1, u2, u3, u4, u5⟩ := six HV.out
  go_wp2_with (go_at_call 24; refine grnum_any.mono ?_; (first | rw [enck] | rw [enep] | rw [enun] | rw [ense] | rw [enak]); rintro _ wq ⟨rfl, hq⟩; have hq := hq.symm; subst hq)
  go_ret
  exact ⟨by first | rw [HQ.out]; rfl | rfl, by rw [HBB.out]; exact HBV.out⟩

set_option maxRecDepth 100000 in
set_option maxHeartbeats 2000000 in
theorem rchk_9 {W : World} {ck ep un se ki ak : Int}  (hnck : 0 ≤ ck ∧ ck ≤ 9007199254740992) (hnep : 0 ≤ ep ∧ ep ≤ 9007199254740992) (hnun : 0 ≤ un ∧ un ≤ 9007199254740992) (hnse : 0 ≤ se ∧ se ≤ 9007199254740992) (hnak : 0 ≤ ak ∧ ak ≤ 9007199254740992) (he : ep = 0) (hu : ¬ (un = 0)) :
    Calls Try.prog 9 #[.agg #[.int .i64 ck, .int .i64 ep, .int .i64 un, .int .i64 se, .int .i64 ki, .int .i64 ak]] W fun e w' => e = .returned (.int .i64 (chkG ⟨ck, ep, un, se, ki, ak⟩)) ∧ Below W.heap.size W w' := by
  have HQ : Hid (chkG ⟨ck, ep, un, se, ki, ak⟩ = 1) := hide (if_neg (by unfold okG; simp only; omega))
  have enck : numC ck = true := decide_eq_true hnck
  have enep : numC ep = true := decide_eq_true hnep
  have enun : numC un = true := decide_eq_true hnun
  have ense : numC se = true := decide_eq_true hnse
  have enak : numC ak = true := decide_eq_true hnak
  have de0 : (ep == 0) = true := by simp [he]
  have de1 : (ep != 0) = false := by simp [he]
  have du0 : (un == 0) = false := by simp [hu]
  have du1 : (un != 0) = true := by simp [hu]
  clear hnck hnep hnun hnse hnak he hu
  obtain ⟨V, hV⟩ : ∃ V, V = W.alloc (.cells #[.int .i64 ck, .int .i64 ep, .int .i64 un, .int .i64 se, .int .i64 ki, .int .i64 ak] 23 (0, 0)) := ⟨_, rfl⟩
  have HV : Hid (V.heap[W.heap.size]? = some (.cells #[.int .i64 ck, .int .i64 ep, .int .i64 un, .int .i64 se, .int .i64 ki, .int .i64 ak] 23 (0, 0))) := hide (by rw [hV]; exact heap_alloc_new W _)
  have HBV : Hid (Below W.heap.size W V) := hide (by rw [hV]; exact alloc_below _ _)
  obtain ⟨bB, hbB⟩ : ∃ bB, W.heap.size = bB := ⟨_, rfl⟩
  rw [hbB] at HV HBV
  have HBB := hide hbB
  go_enter Try.func9, Try.ntmps9
  go_upto_region 1 with fail
  rw [← hV]
  try rw [hbB]
  clear hV hbB
  obtain ⟨_, _, _, _, _, _, u0, u1, u2, u3, u4, u5⟩ := six HV.out
  go_wp2_with (go_at_call 24; refine grnum_any.mono ?_; (first | rw [enck] | rw [enep] | rw [enun] | rw [ense] | rw [enak]); rintro _ wq ⟨rfl, hq⟩; have hq := hq.symm; subst hq)
  go_ret
  exact ⟨by first | rw [HQ.out]; rfl | rfl, by rw [HBB.out]; exact HBV.out⟩

set_option maxRecDepth 100000 in
set_option maxHeartbeats 2000000 in
theorem rchk_10 {W : World} {ck ep un se ki ak : Int}  (hnck : 0 ≤ ck ∧ ck ≤ 9007199254740992) (hnep : 0 ≤ ep ∧ ep ≤ 9007199254740992) (hnun : 0 ≤ un ∧ un ≤ 9007199254740992) (hnse : 0 ≤ se ∧ se ≤ 9007199254740992) (hnak : 0 ≤ ak ∧ ak ≤ 9007199254740992) (he : ¬ (ep = 0)) (hg : 12 < un - ck) :
    Calls Try.prog 9 #[.agg #[.int .i64 ck, .int .i64 ep, .int .i64 un, .int .i64 se, .int .i64 ki, .int .i64 ak]] W fun e w' => e = .returned (.int .i64 (chkG ⟨ck, ep, un, se, ki, ak⟩)) ∧ Below W.heap.size W w' := by
  have HQ : Hid (chkG ⟨ck, ep, un, se, ki, ak⟩ = 1) := hide (if_neg (by unfold okG; simp only; omega))
  have ew : IntKind.i64.wrap (un - ck) = un - ck := by rw [IntKind.wrap_i64]; omega
  have enck : numC ck = true := decide_eq_true hnck
  have enep : numC ep = true := decide_eq_true hnep
  have enun : numC un = true := decide_eq_true hnun
  have ense : numC se = true := decide_eq_true hnse
  have enak : numC ak = true := decide_eq_true hnak
  have de0 : (ep == 0) = false := by simp [he]
  have de1 : (ep != 0) = true := by simp [he]
  have dg0 : decide (un - ck > 12) = true := decide_eq_true hg
  clear hnck hnep hnun hnse hnak he hg
  obtain ⟨V, hV⟩ : ∃ V, V = W.alloc (.cells #[.int .i64 ck, .int .i64 ep, .int .i64 un, .int .i64 se, .int .i64 ki, .int .i64 ak] 23 (0, 0)) := ⟨_, rfl⟩
  have HV : Hid (V.heap[W.heap.size]? = some (.cells #[.int .i64 ck, .int .i64 ep, .int .i64 un, .int .i64 se, .int .i64 ki, .int .i64 ak] 23 (0, 0))) := hide (by rw [hV]; exact heap_alloc_new W _)
  have HBV : Hid (Below W.heap.size W V) := hide (by rw [hV]; exact alloc_below _ _)
  obtain ⟨bB, hbB⟩ : ∃ bB, W.heap.size = bB := ⟨_, rfl⟩
  rw [hbB] at HV HBV
  have HBB := hide hbB
  go_enter Try.func9, Try.ntmps9
  go_upto_region 1 with fail
  rw [← hV]
  try rw [hbB]
  clear hV hbB
  obtain ⟨_, _, _, _, _, _, u0, u1, u2, u3, u4, u5⟩ := six HV.out
  go_wp2_with (go_at_call 24; refine grnum_any.mono ?_; (first | rw [enck] | rw [enep] | rw [enun] | rw [ense] | rw [enak]); rintro _ wq ⟨rfl, hq⟩; have hq := hq.symm; subst hq)
  go_ret
  exact ⟨by first | rw [HQ.out]; rfl | rfl, by rw [HBB.out]; exact HBV.out⟩

set_option maxRecDepth 100000 in
set_option maxHeartbeats 2000000 in
theorem rchk_11 {W : World} {ck ep un se ki ak : Int}  (hnck : 0 ≤ ck ∧ ck ≤ 9007199254740992) (hnep : 0 ≤ ep ∧ ep ≤ 9007199254740992) (hnun : 0 ≤ un ∧ un ≤ 9007199254740992) (hnse : 0 ≤ se ∧ se ≤ 9007199254740992) (hnak : 0 ≤ ak ∧ ak ≤ 9007199254740992) (he : ¬ (ep = 0)) (hg : ¬ (12 < un - ck)) (hk0 : ki < 0) :
    Calls Try.prog 9 #[.agg #[.int .i64 ck, .int .i64 ep, .int .i64 un, .int .i64 se, .int .i64 ki, .int .i64 ak]] W fun e w' => e = .returned (.int .i64 (chkG ⟨ck, ep, un, se, ki, ak⟩)) ∧ Below W.heap.size W w' := by
  have HQ : Hid (chkG ⟨ck, ep, un, se, ki, ak⟩ = 1) := hide (if_neg (by unfold okG; simp only; omega))
  have ew : IntKind.i64.wrap (un - ck) = un - ck := by rw [IntKind.wrap_i64]; omega
  have enck : numC ck = true := decide_eq_true hnck
  have enep : numC ep = true := decide_eq_true hnep
  have enun : numC un = true := decide_eq_true hnun
  have ense : numC se = true := decide_eq_true hnse
  have enak : numC ak = true := decide_eq_true hnak
  have de0 : (ep == 0) = false := by simp [he]
  have de1 : (ep != 0) = true := by simp [he]
  have dg0 : decide (un - ck > 12) = false := decide_eq_false hg
  have dk00 : decide (ki < 0) = true := decide_eq_true hk0
  clear hnck hnep hnun hnse hnak he hg hk0
  obtain ⟨V, hV⟩ : ∃ V, V = W.alloc (.cells #[.int .i64 ck, .int .i64 ep, .int .i64 un, .int .i64 se, .int .i64 ki, .int .i64 ak] 23 (0, 0)) := ⟨_, rfl⟩
  have HV : Hid (V.heap[W.heap.size]? = some (.cells #[.int .i64 ck, .int .i64 ep, .int .i64 un, .int .i64 se, .int .i64 ki, .int .i64 ak] 23 (0, 0))) := hide (by rw [hV]; exact heap_alloc_new W _)
  have HBV : Hid (Below W.heap.size W V) := hide (by rw [hV]; exact alloc_below _ _)
  obtain ⟨bB, hbB⟩ : ∃ bB, W.heap.size = bB := ⟨_, rfl⟩
  rw [hbB] at HV HBV
  have HBB := hide hbB
  go_enter Try.func9, Try.ntmps9
  go_upto_region 1 with fail
  rw [← hV]
  try rw [hbB]
  clear hV hbB
  obtain ⟨_, _, _, _, _, _, u0, u1, u2, u3, u4, u5⟩ := six HV.out
  go_wp2_with (go_at_call 24; refine grnum_any.mono ?_; (first | rw [enck] | rw [enep] | rw [enun] | rw [ense] | rw [enak]); rintro _ wq ⟨rfl, hq⟩; have hq := hq.symm; subst hq)
  go_ret
  exact ⟨by first | rw [HQ.out]; rfl | rfl, by rw [HBB.out]; exact HBV.out⟩

set_option maxRecDepth 100000 in
set_option maxHeartbeats 2000000 in
theorem rchk_12 {W : World} {ck ep un se ki ak : Int}  (hnck : 0 ≤ ck ∧ ck ≤ 9007199254740992) (hnep : 0 ≤ ep ∧ ep ≤ 9007199254740992) (hnun : 0 ≤ un ∧ un ≤ 9007199254740992) (hnse : 0 ≤ se ∧ se ≤ 9007199254740992) (hnak : 0 ≤ ak ∧ ak ≤ 9007199254740992) (he : ¬ (ep = 0)) (hg : ¬ (12 < un - ck)) (hk0 : ¬ (ki < 0)) (hk2 : 2 < ki) :
    Calls Try.prog 9 #[.agg #[.int .i64 ck, .int .i64 ep, .int .i64 un, .int .i64 se, .int .i64 ki, .int .i64 ak]] W fun e w' => e = .returned (.int .i64 (chkG ⟨ck, ep, un, se, ki, ak⟩)) ∧ Below W.heap.size W w' := by
  have HQ : Hid (chkG ⟨ck, ep, un, se, ki, ak⟩ = 1) := hide (if_neg (by unfold okG; simp only; omega))
  have ew : IntKind.i64.wrap (un - ck) = un - ck := by rw [IntKind.wrap_i64]; omega
  have enck : numC ck = true := decide_eq_true hnck
  have enep : numC ep = true := decide_eq_true hnep
  have enun : numC un = true := decide_eq_true hnun
  have ense : numC se = true := decide_eq_true hnse
  have enak : numC ak = true := decide_eq_true hnak
  have de0 : (ep == 0) = false := by simp [he]
  have de1 : (ep != 0) = true := by simp [he]
  have dg0 : decide (un - ck > 12) = false := decide_eq_false hg
  have dk00 : decide (ki < 0) = false := decide_eq_false hk0
  have dk20 : decide (ki > 2) = true := decide_eq_true hk2
  clear hnck hnep hnun hnse hnak he hg hk0 hk2
  obtain ⟨V, hV⟩ : ∃ V, V = W.alloc (.cells #[.int .i64 ck, .int .i64 ep, .int .i64 un, .int .i64 se, .int .i64 ki, .int .i64 ak] 23 (0, 0)) := ⟨_, rfl⟩
  have HV : Hid (V.heap[W.heap.size]? = some (.cells #[.int .i64 ck, .int .i64 ep, .int .i64 un, .int .i64 se, .int .i64 ki, .int .i64 ak] 23 (0, 0))) := hide (by rw [hV]; exact heap_alloc_new W _)
  have HBV : Hid (Below W.heap.size W V) := hide (by rw [hV]; exact alloc_below _ _)
  obtain ⟨bB, hbB⟩ : ∃ bB, W.heap.size = bB := ⟨_, rfl⟩
  rw [hbB] at HV HBV
  have HBB := hide hbB
  go_enter Try.func9, Try.ntmps9
  go_upto_region 1 with fail
  rw [← hV]
  try rw [hbB]
  clear hV hbB
  obtain ⟨_, _, _, _, _, _, u0, u1, u2, u3, u4, u5⟩ := six HV.out
  go_wp2_with (go_at_call 24; refine grnum_any.mono ?_; (first | rw [enck] | rw [enep] | rw [enun] | rw [ense] | rw [enak]); rintro _ wq ⟨rfl, hq⟩; have hq := hq.symm; subst hq)
  go_ret
  exact ⟨by first | rw [HQ.out]; rfl | rfl, by rw [HBB.out]; exact HBV.out⟩

set_option maxRecDepth 100000 in
set_option maxHeartbeats 2000000 in
theorem rchk_13 {W : World} {ck ep un se ki ak : Int}  (hnck : 0 ≤ ck ∧ ck ≤ 9007199254740992) (hnep : 0 ≤ ep ∧ ep ≤ 9007199254740992) (hnun : 0 ≤ un ∧ un ≤ 9007199254740992) (hnse : 0 ≤ se ∧ se ≤ 9007199254740992) (hnak : 0 ≤ ak ∧ ak ≤ 9007199254740992) (he : ¬ (ep = 0)) (hg : ¬ (12 < un - ck)) (hk0 : ¬ (ki < 0)) (hk2 : ¬ (2 < ki)) (hk : ki = 0) (ha : ak = 0) :
    Calls Try.prog 9 #[.agg #[.int .i64 ck, .int .i64 ep, .int .i64 un, .int .i64 se, .int .i64 ki, .int .i64 ak]] W fun e w' => e = .returned (.int .i64 (chkG ⟨ck, ep, un, se, ki, ak⟩)) ∧ Below W.heap.size W w' := by
  have HQ : Hid (chkG ⟨ck, ep, un, se, ki, ak⟩ = 0) := hide (if_pos (by unfold okG; simp only; omega))
  have ew : IntKind.i64.wrap (un - ck) = un - ck := by rw [IntKind.wrap_i64]; omega
  have enck : numC ck = true := decide_eq_true hnck
  have enep : numC ep = true := decide_eq_true hnep
  have enun : numC un = true := decide_eq_true hnun
  have ense : numC se = true := decide_eq_true hnse
  have enak : numC ak = true := decide_eq_true hnak
  have de0 : (ep == 0) = false := by simp [he]
  have de1 : (ep != 0) = true := by simp [he]
  have dg0 : decide (un - ck > 12) = false := decide_eq_false hg
  have dk00 : decide (ki < 0) = false := decide_eq_false hk0
  have dk20 : decide (ki > 2) = false := decide_eq_false hk2
  have dk0 : (ki == 0) = true := by simp [hk]
  have dk1 : (ki != 0) = false := by simp [hk]
  have da0 : (ak == 0) = true := by simp [ha]
  have da1 : (ak != 0) = false := by simp [ha]
  have dkk : (ki == 2) = false := by simp [hk]
  clear hnck hnep hnun hnse hnak he hg hk0 hk2 hk ha
  obtain ⟨V, hV⟩ : ∃ V, V = W.alloc (.cells #[.int .i64 ck, .int .i64 ep, .int .i64 un, .int .i64 se, .int .i64 ki, .int .i64 ak] 23 (0, 0)) := ⟨_, rfl⟩
  have HV : Hid (V.heap[W.heap.size]? = some (.cells #[.int .i64 ck, .int .i64 ep, .int .i64 un, .int .i64 se, .int .i64 ki, .int .i64 ak] 23 (0, 0))) := hide (by rw [hV]; exact heap_alloc_new W _)
  have HBV : Hid (Below W.heap.size W V) := hide (by rw [hV]; exact alloc_below _ _)
  obtain ⟨bB, hbB⟩ : ∃ bB, W.heap.size = bB := ⟨_, rfl⟩
  rw [hbB] at HV HBV
  have HBB := hide hbB
  go_enter Try.func9, Try.ntmps9
  go_upto_region 1 with fail
  rw [← hV]
  try rw [hbB]
  clear hV hbB
  obtain ⟨_, _, _, _, _, _, u0, u1, u2, u3, u4, u5⟩ := six HV.out
  go_wp2_with (go_at_call 24; refine grnum_any.mono ?_; (first | rw [enck] | rw [enep] | rw [enun] | rw [ense] | rw [enak]); rintro _ wq ⟨rfl, hq⟩; have hq := hq.symm; subst hq)
  go_ret
  exact ⟨by first | rw [HQ.out]; rfl | rfl, by rw [HBB.out]; exact HBV.out⟩

set_option maxRecDepth 100000 in
set_option maxHeartbeats 2000000 in
theorem rchk_14 {W : World} {ck ep un se ki ak : Int}  (hnck : 0 ≤ ck ∧ ck ≤ 9007199254740992) (hnep : 0 ≤ ep ∧ ep ≤ 9007199254740992) (hnun : 0 ≤ un ∧ un ≤ 9007199254740992) (hnse : 0 ≤ se ∧ se ≤ 9007199254740992) (hnak : 0 ≤ ak ∧ ak ≤ 9007199254740992) (he : ¬ (ep = 0)) (hg : ¬ (12 < un - ck)) (hk0 : ¬ (ki < 0)) (hk2 : ¬ (2 < ki)) (hk : ki = 0) (ha : ¬ (ak = 0)) :
    Calls Try.prog 9 #[.agg #[.int .i64 ck, .int .i64 ep, .int .i64 un, .int .i64 se, .int .i64 ki, .int .i64 ak]] W fun e w' => e = .returned (.int .i64 (chkG ⟨ck, ep, un, se, ki, ak⟩)) ∧ Below W.heap.size W w' := by
  have HQ : Hid (chkG ⟨ck, ep, un, se, ki, ak⟩ = 1) := hide (if_neg (by unfold okG; simp only; omega))
  have ew : IntKind.i64.wrap (un - ck) = un - ck := by rw [IntKind.wrap_i64]; omega
  have enck : numC ck = true := decide_eq_true hnck
  have enep : numC ep = true := decide_eq_true hnep
  have enun : numC un = true := decide_eq_true hnun
  have ense : numC se = true := decide_eq_true hnse
  have enak : numC ak = true := decide_eq_true hnak
  have de0 : (ep == 0) = false := by simp [he]
  have de1 : (ep != 0) = true := by simp [he]
  have dg0 : decide (un - ck > 12) = false := decide_eq_false hg
  have dk00 : decide (ki < 0) = false := decide_eq_false hk0
  have dk20 : decide (ki > 2) = false := decide_eq_false hk2
  have dk0 : (ki == 0) = true := by simp [hk]
  have dk1 : (ki != 0) = false := by simp [hk]
  have da0 : (ak == 0) = false := by simp [ha]
  have da1 : (ak != 0) = true := by simp [ha]
  have dkk : (ki == 2) = false := by simp [hk]
  clear hnck hnep hnun hnse hnak he hg hk0 hk2 hk ha
  obtain ⟨V, hV⟩ : ∃ V, V = W.alloc (.cells #[.int .i64 ck, .int .i64 ep, .int .i64 un, .int .i64 se, .int .i64 ki, .int .i64 ak] 23 (0, 0)) := ⟨_, rfl⟩
  have HV : Hid (V.heap[W.heap.size]? = some (.cells #[.int .i64 ck, .int .i64 ep, .int .i64 un, .int .i64 se, .int .i64 ki, .int .i64 ak] 23 (0, 0))) := hide (by rw [hV]; exact heap_alloc_new W _)
  have HBV : Hid (Below W.heap.size W V) := hide (by rw [hV]; exact alloc_below _ _)
  obtain ⟨bB, hbB⟩ : ∃ bB, W.heap.size = bB := ⟨_, rfl⟩
  rw [hbB] at HV HBV
  have HBB := hide hbB
  go_enter Try.func9, Try.ntmps9
  go_upto_region 1 with fail
  rw [← hV]
  try rw [hbB]
  clear hV hbB
  obtain ⟨_, _, _, _, _, _, u0, u1, u2, u3, u4, u5⟩ := six HV.out
  go_wp2_with (go_at_call 24; refine grnum_any.mono ?_; (first | rw [enck] | rw [enep] | rw [enun] | rw [ense] | rw [enak]); rintro _ wq ⟨rfl, hq⟩; have hq := hq.symm; subst hq)
  go_ret
  exact ⟨by first | rw [HQ.out]; rfl | rfl, by rw [HBB.out]; exact HBV.out⟩

set_option maxRecDepth 100000 in
set_option maxHeartbeats 2000000 in
theorem rchk_15 {W : World} {ck ep un se ki ak : Int}  (hnck : 0 ≤ ck ∧ ck ≤ 9007199254740992) (hnep : 0 ≤ ep ∧ ep ≤ 9007199254740992) (hnun : 0 ≤ un ∧ un ≤ 9007199254740992) (hnse : 0 ≤ se ∧ se ≤ 9007199254740992) (hnak : 0 ≤ ak ∧ ak ≤ 9007199254740992) (he : ¬ (ep = 0)) (hg : ¬ (12 < un - ck)) (hk0 : ¬ (ki < 0)) (hk2 : ¬ (2 < ki)) (hk : ¬ (ki = 0)) (hs : se = 0) :
    Calls Try.prog 9 #[.agg #[.int .i64 ck, .int .i64 ep, .int .i64 un, .int .i64 se, .int .i64 ki, .int .i64 ak]] W fun e w' => e = .returned (.int .i64 (chkG ⟨ck, ep, un, se, ki, ak⟩)) ∧ Below W.heap.size W w' := by
  have HQ : Hid (chkG ⟨ck, ep, un, se, ki, ak⟩ = 1) := hide (if_neg (by unfold okG; simp only; omega))
  have ew : IntKind.i64.wrap (un - ck) = un - ck := by rw [IntKind.wrap_i64]; omega
  have enck : numC ck = true := decide_eq_true hnck
  have enep : numC ep = true := decide_eq_true hnep
  have enun : numC un = true := decide_eq_true hnun
  have ense : numC se = true := decide_eq_true hnse
  have enak : numC ak = true := decide_eq_true hnak
  have de0 : (ep == 0) = false := by simp [he]
  have de1 : (ep != 0) = true := by simp [he]
  have dg0 : decide (un - ck > 12) = false := decide_eq_false hg
  have dk00 : decide (ki < 0) = false := decide_eq_false hk0
  have dk20 : decide (ki > 2) = false := decide_eq_false hk2
  have dk0 : (ki == 0) = false := by simp [hk]
  have dk1 : (ki != 0) = true := by simp [hk]
  have ds0 : (se == 0) = true := by simp [hs]
  have ds1 : (se != 0) = false := by simp [hs]
  clear hnck hnep hnun hnse hnak he hg hk0 hk2 hk hs
  obtain ⟨V, hV⟩ : ∃ V, V = W.alloc (.cells #[.int .i64 ck, .int .i64 ep, .int .i64 un, .int .i64 se, .int .i64 ki, .int .i64 ak] 23 (0, 0)) := ⟨_, rfl⟩
  have HV : Hid (V.heap[W.heap.size]? = some (.cells #[.int .i64 ck, .int .i64 ep, .int .i64 un, .int .i64 se, .int .i64 ki, .int .i64 ak] 23 (0, 0))) := hide (by rw [hV]; exact heap_alloc_new W _)
  have HBV : Hid (Below W.heap.size W V) := hide (by rw [hV]; exact alloc_below _ _)
  obtain ⟨bB, hbB⟩ : ∃ bB, W.heap.size = bB := ⟨_, rfl⟩
  rw [hbB] at HV HBV
  have HBB := hide hbB
  go_enter Try.func9, Try.ntmps9
  go_upto_region 1 with fail
  rw [← hV]
  try rw [hbB]
  clear hV hbB
  obtain ⟨_, _, _, _, _, _, u0, u1, u2, u3, u4, u5⟩ := six HV.out
  go_wp2_with (go_at_call 24; refine grnum_any.mono ?_; (first | rw [enck] | rw [enep] | rw [enun] | rw [ense] | rw [enak]); rintro _ wq ⟨rfl, hq⟩; have hq := hq.symm; subst hq)
  go_ret
  exact ⟨by first | rw [HQ.out]; rfl | rfl, by rw [HBB.out]; exact HBV.out⟩

set_option maxRecDepth 100000 in
set_option maxHeartbeats 2000000 in
theorem rchk_16 {W : World} {ck ep un se ki ak : Int}  (hnck : 0 ≤ ck ∧ ck ≤ 9007199254740992) (hnep : 0 ≤ ep ∧ ep ≤ 9007199254740992) (hnun : 0 ≤ un ∧ un ≤ 9007199254740992) (hnse : 0 ≤ se ∧ se ≤ 9007199254740992) (hnak : 0 ≤ ak ∧ ak ≤ 9007199254740992) (he : ¬ (ep = 0)) (hg : ¬ (12 < un - ck)) (hk0 : ¬ (ki < 0)) (hk2 : ¬ (2 < ki)) (hk : ¬ (ki = 0)) (hs : ¬ (se = 0)) (hac : ck < ak) :
    Calls Try.prog 9 #[.agg #[.int .i64 ck, .int .i64 ep, .int .i64 un, .int .i64 se, .int .i64 ki, .int .i64 ak]] W fun e w' => e = .returned (.int .i64 (chkG ⟨ck, ep, un, se, ki, ak⟩)) ∧ Below W.heap.size W w' := by
  have HQ : Hid (chkG ⟨ck, ep, un, se, ki, ak⟩ = 1) := hide (if_neg (by unfold okG; simp only; omega))
  have ew : IntKind.i64.wrap (un - ck) = un - ck := by rw [IntKind.wrap_i64]; omega
  have enck : numC ck = true := decide_eq_true hnck
  have enep : numC ep = true := decide_eq_true hnep
  have enun : numC un = true := decide_eq_true hnun
  have ense : numC se = true := decide_eq_true hnse
  have enak : numC ak = true := decide_eq_true hnak
  have de0 : (ep == 0) = false := by simp [he]
  have de1 : (ep != 0) = true := by simp [he]
  have dg0 : decide (un - ck > 12) = false := decide_eq_false hg
  have dk00 : decide (ki < 0) = false := decide_eq_false hk0
  have dk20 : decide (ki > 2) = false := decide_eq_false hk2
  have dk0 : (ki == 0) = false := by simp [hk]
  have dk1 : (ki != 0) = true := by simp [hk]
  have ds0 : (se == 0) = false := by simp [hs]
  have ds1 : (se != 0) = true := by simp [hs]
  have dac0 : decide (ak > ck) = true := decide_eq_true hac
  clear hnck hnep hnun hnse hnak he hg hk0 hk2 hk hs hac
  obtain ⟨V, hV⟩ : ∃ V, V = W.alloc (.cells #[.int .i64 ck, .int .i64 ep, .int .i64 un, .int .i64 se, .int .i64 ki, .int .i64 ak] 23 (0, 0)) := ⟨_, rfl⟩
  have HV : Hid (V.heap[W.heap.size]? = some (.cells #[.int .i64 ck, .int .i64 ep, .int .i64 un, .int .i64 se, .int .i64 ki, .int .i64 ak] 23 (0, 0))) := hide (by rw [hV]; exact heap_alloc_new W _)
  have HBV : Hid (Below W.heap.size W V) := hide (by rw [hV]; exact alloc_below _ _)
  obtain ⟨bB, hbB⟩ : ∃ bB, W.heap.size = bB := ⟨_, rfl⟩
  rw [hbB] at HV HBV
  have HBB := hide hbB
  go_enter Try.func9, Try.ntmps9
  go_upto_region 1 with fail
  rw [← hV]
  try rw [hbB]
  clear hV hbB
  obtain ⟨_, _, _, _, _, _, u0, u1, u2, u3, u4, u5⟩ := six HV.out
  go_wp2_with (go_at_call 24; refine grnum_any.mono ?_; (first | rw [enck] | rw [enep] | rw [enun] | rw [ense] | rw [enak]); rintro _ wq ⟨rfl, hq⟩; have hq := hq.symm; subst hq)
  go_ret
  exact ⟨by first | rw [HQ.out]; rfl | rfl, by rw [HBB.out]; exact HBV.out⟩

set_option maxRecDepth 100000 in
set_option maxHeartbeats 2000000 in
theorem rchk_17 {W : World} {ck ep un se ki ak : Int}  (hnck : 0 ≤ ck ∧ ck ≤ 9007199254740992) (hnep : 0 ≤ ep ∧ ep ≤ 9007199254740992) (hnun : 0 ≤ un ∧ un ≤ 9007199254740992) (hnse : 0 ≤ se ∧ se ≤ 9007199254740992) (hnak : 0 ≤ ak ∧ ak ≤ 9007199254740992) (he : ¬ (ep = 0)) (hg : ¬ (12 < un - ck)) (hk0 : ¬ (ki < 0)) (hk2 : ¬ (2 < ki)) (hk : ¬ (ki = 0)) (hs : ¬ (se = 0)) (hac : ¬ (ck < ak)) (hkk : ki = 2) :
    Calls Try.prog 9 #[.agg #[.int .i64 ck, .int .i64 ep, .int .i64 un, .int .i64 se, .int .i64 ki, .int .i64 ak]] W fun e w' => e = .returned (.int .i64 (chkG ⟨ck, ep, un, se, ki, ak⟩)) ∧ Below W.heap.size W w' := by
  have HQ : Hid (chkG ⟨ck, ep, un, se, ki, ak⟩ = 0) := hide (if_pos (by unfold okG; simp only; omega))
  have ew : IntKind.i64.wrap (un - ck) = un - ck := by rw [IntKind.wrap_i64]; omega
  have enck : numC ck = true := decide_eq_true hnck
  have enep : numC ep = true := decide_eq_true hnep
  have enun : numC un = true := decide_eq_true hnun
  have ense : numC se = true := decide_eq_true hnse
  have enak : numC ak = true := decide_eq_true hnak
  have de0 : (ep == 0) = false := by simp [he]
  have de1 : (ep != 0) = true := by simp [he]
  have dg0 : decide (un - ck > 12) = false := decide_eq_false hg
  have dk00 : decide (ki < 0) = false := decide_eq_false hk0
  have dk20 : decide (ki > 2) = false := decide_eq_false hk2
  have dk0 : (ki == 0) = false := by simp [hk]
  have dk1 : (ki != 0) = true := by simp [hk]
  have ds0 : (se == 0) = false := by simp [hs]
  have ds1 : (se != 0) = true := by simp [hs]
  have dac0 : decide (ak > ck) = false := decide_eq_false hac
  have dkk0 : (ki == 2) = true := by simp [hkk]
  have dkk1 : (ki != 2) = false := by simp [hkk]
  clear hnck hnep hnun hnse hnak he hg hk0 hk2 hk hs hac hkk
  obtain ⟨V, hV⟩ : ∃ V, V = W.alloc (.cells #[.int .i64 ck, .int .i64 ep, .int .i64 un, .int .i64 se, .int .i64 ki, .int .i64 ak] 23 (0, 0)) := ⟨_, rfl⟩
  have HV : Hid (V.heap[W.heap.size]? = some (.cells #[.int .i64 ck, .int .i64 ep, .int .i64 un, .int .i64 se, .int .i64 ki, .int .i64 ak] 23 (0, 0))) := hide (by rw [hV]; exact heap_alloc_new W _)
  have HBV : Hid (Below W.heap.size W V) := hide (by rw [hV]; exact alloc_below _ _)
  obtain ⟨bB, hbB⟩ : ∃ bB, W.heap.size = bB := ⟨_, rfl⟩
  rw [hbB] at HV HBV
  have HBB := hide hbB
  go_enter Try.func9, Try.ntmps9
  go_upto_region 1 with fail
  rw [← hV]
  try rw [hbB]
  clear hV hbB
  obtain ⟨_, _, _, _, _, _, u0, u1, u2, u3, u4, u5⟩ := six HV.out
  go_wp2_with (go_at_call 24; refine grnum_any.mono ?_; (first | rw [enck] | rw [enep] | rw [enun] | rw [ense] | rw [enak]); rintro _ wq ⟨rfl, hq⟩; have hq := hq.symm; subst hq)
  go_ret
  exact ⟨by first | rw [HQ.out]; rfl | rfl, by rw [HBB.out]; exact HBV.out⟩

set_option maxRecDepth 100000 in
set_option maxHeartbeats 2000000 in
theorem rchk_18 {W : World} {ck ep un se ki ak : Int}  (hnck : 0 ≤ ck ∧ ck ≤ 9007199254740992) (hnep : 0 ≤ ep ∧ ep ≤ 9007199254740992) (hnun : 0 ≤ un ∧ un ≤ 9007199254740992) (hnse : 0 ≤ se ∧ se ≤ 9007199254740992) (hnak : 0 ≤ ak ∧ ak ≤ 9007199254740992) (he : ¬ (ep = 0)) (hg : ¬ (12 < un - ck)) (hk0 : ¬ (ki < 0)) (hk2 : ¬ (2 < ki)) (hk : ¬ (ki = 0)) (hs : ¬ (se = 0)) (hac : ¬ (ck < ak)) (hkk : ¬ (ki = 2)) :
    Calls Try.prog 9 #[.agg #[.int .i64 ck, .int .i64 ep, .int .i64 un, .int .i64 se, .int .i64 ki, .int .i64 ak]] W fun e w' => e = .returned (.int .i64 (chkG ⟨ck, ep, un, se, ki, ak⟩)) ∧ Below W.heap.size W w' := by
  have HQ : Hid (chkG ⟨ck, ep, un, se, ki, ak⟩ = 0) := hide (if_pos (by unfold okG; simp only; omega))
  have ew : IntKind.i64.wrap (un - ck) = un - ck := by rw [IntKind.wrap_i64]; omega
  have enck : numC ck = true := decide_eq_true hnck
  have enep : numC ep = true := decide_eq_true hnep
  have enun : numC un = true := decide_eq_true hnun
  have ense : numC se = true := decide_eq_true hnse
  have enak : numC ak = true := decide_eq_true hnak
  have de0 : (ep == 0) = false := by simp [he]
  have de1 : (ep != 0) = true := by simp [he]
  have dg0 : decide (un - ck > 12) = false := decide_eq_false hg
  have dk00 : decide (ki < 0) = false := decide_eq_false hk0
  have dk20 : decide (ki > 2) = false := decide_eq_false hk2
  have dk0 : (ki == 0) = false := by simp [hk]
  have dk1 : (ki != 0) = true := by simp [hk]
  have ds0 : (se == 0) = false := by simp [hs]
  have ds1 : (se != 0) = true := by simp [hs]
  have dac0 : decide (ak > ck) = false := decide_eq_false hac
  have dkk0 : (ki == 2) = false := by simp [hkk]
  have dkk1 : (ki != 2) = true := by simp [hkk]
  clear hnck hnep hnun hnse hnak he hg hk0 hk2 hk hs hac hkk
  obtain ⟨V, hV⟩ : ∃ V, V = W.alloc (.cells #[.int .i64 ck, .int .i64 ep, .int .i64 un, .int .i64 se, .int .i64 ki, .int .i64 ak] 23 (0, 0)) := ⟨_, rfl⟩
  have HV : Hid (V.heap[W.heap.size]? = some (.cells #[.int .i64 ck, .int .i64 ep, .int .i64 un, .int .i64 se, .int .i64 ki, .int .i64 ak] 23 (0, 0))) := hide (by rw [hV]; exact heap_alloc_new W _)
  have HBV : Hid (Below W.heap.size W V) := hide (by rw [hV]; exact alloc_below _ _)
  obtain ⟨bB, hbB⟩ : ∃ bB, W.heap.size = bB := ⟨_, rfl⟩
  rw [hbB] at HV HBV
  have HBB := hide hbB
  go_enter Try.func9, Try.ntmps9
  go_upto_region 1 with fail
  rw [← hV]
  try rw [hbB]
  clear hV hbB
  obtain ⟨_, _, _, _, _, _, u0, u1, u2, u3, u4, u5⟩ := six HV.out
  go_wp2_with (go_at_call 24; refine grnum_any.mono ?_; (first | rw [enck] | rw [enep] | rw [enun] | rw [ense] | rw [enak]); rintro _ wq ⟨rfl, hq⟩; have hq := hq.symm; subst hq)
  go_ret
  exact ⟨by first | rw [HQ.out]; rfl | rfl, by rw [HBB.out]; exact HBV.out⟩

set_option maxRecDepth 100000 in
set_option maxHeartbeats 2000000 in
theorem rchk_19 {W : World} {ck ep un se ki ak : Int}  (hnck : 0 ≤ ck ∧ ck ≤ 9007199254740992) (hnep : 0 ≤ ep ∧ ep ≤ 9007199254740992) (hnun : 0 ≤ un ∧ un ≤ 9007199254740992) (hnse : 0 ≤ se ∧ se ≤ 9007199254740992) (hnak : ¬ (0 ≤ ak ∧ ak ≤ 9007199254740992)) :
    Calls Try.prog 9 #[.agg #[.int .i64 ck, .int .i64 ep, .int .i64 un, .int .i64 se, .int .i64 ki, .int .i64 ak]] W fun e w' => e = .returned (.int .i64 (chkG ⟨ck, ep, un, se, ki, ak⟩)) ∧ Below W.heap.size W w' := by
  have HQ : Hid (chkG ⟨ck, ep, un, se, ki, ak⟩ = 1) := hide (if_neg (by unfold okG; simp only; omega))
  have enck : numC ck = true := decide_eq_true hnck
  have enep : numC ep = true := decide_eq_true hnep
  have enun : numC un = true := decide_eq_true hnun
  have ense : numC se = true := decide_eq_true hnse
  have enak : numC ak = false := decide_eq_false hnak
  clear hnck hnep hnun hnse hnak
  obtain ⟨V, hV⟩ : ∃ V, V = W.alloc (.cells #[.int .i64 ck, .int .i64 ep, .int .i64 un, .int .i64 se, .int .i64 ki, .int .i64 ak] 23 (0, 0)) := ⟨_, rfl⟩
  have HV : Hid (V.heap[W.heap.size]? = some (.cells #[.int .i64 ck, .int .i64 ep, .int .i64 un, .int .i64 se, .int .i64 ki, .int .i64 ak] 23 (0, 0))) := hide (by rw [hV]; exact heap_alloc_new W _)
  have HBV : Hid (Below W.heap.size W V) := hide (by rw [hV]; exact alloc_below _ _)
  obtain ⟨bB, hbB⟩ : ∃ bB, W.heap.size = bB := ⟨_, rfl⟩
  rw [hbB] at HV HBV
  have HBB := hide hbB
  go_enter Try.func9, Try.ntmps9
  go_upto_region 1 with fail
  rw [← hV]
  try rw [hbB]
  clear hV hbB
  obtain ⟨_, _, _, _, _, _, u0, u1, u2, u3, u4, u5⟩ := six HV.out
  go_wp2_with (go_at_call 24; refine grnum_any.mono ?_; (first | rw [enck] | rw [enep] | rw [enun] | rw [ense] | rw [enak]); rintro _ wq ⟨rfl, hq⟩; have hq := hq.symm; subst hq)
  go_ret
  exact ⟨by first | rw [HQ.out]; rfl | rfl, by rw [HBB.out]; exact HBV.out⟩

set_option maxRecDepth 100000 in
set_option maxHeartbeats 2000000 in
theorem rchk_20 {W : World} {ck ep un se ki ak : Int}  (hnck : 0 ≤ ck ∧ ck ≤ 9007199254740992) (hnep : 0 ≤ ep ∧ ep ≤ 9007199254740992) (hnun : 0 ≤ un ∧ un ≤ 9007199254740992) (hnse : ¬ (0 ≤ se ∧ se ≤ 9007199254740992)) :
    Calls Try.prog 9 #[.agg #[.int .i64 ck, .int .i64 ep, .int .i64 un, .int .i64 se, .int .i64 ki, .int .i64 ak]] W fun e w' => e = .returned (.int .i64 (chkG ⟨ck, ep, un, se, ki, ak⟩)) ∧ Below W.heap.size W w' := by
  have HQ : Hid (chkG ⟨ck, ep, un, se, ki, ak⟩ = 1) := hide (if_neg (by unfold okG; simp only; omega))
  have enck : numC ck = true := decide_eq_true hnck
  have enep : numC ep = true := decide_eq_true hnep
  have enun : numC un = true := decide_eq_true hnun
  have ense : numC se = false := decide_eq_false hnse
  clear hnck hnep hnun hnse
  obtain ⟨V, hV⟩ : ∃ V, V = W.alloc (.cells #[.int .i64 ck, .int .i64 ep, .int .i64 un, .int .i64 se, .int .i64 ki, .int .i64 ak] 23 (0, 0)) := ⟨_, rfl⟩
  have HV : Hid (V.heap[W.heap.size]? = some (.cells #[.int .i64 ck, .int .i64 ep, .int .i64 un, .int .i64 se, .int .i64 ki, .int .i64 ak] 23 (0, 0))) := hide (by rw [hV]; exact heap_alloc_new W _)
  have HBV : Hid (Below W.heap.size W V) := hide (by rw [hV]; exact alloc_below _ _)
  obtain ⟨bB, hbB⟩ : ∃ bB, W.heap.size = bB := ⟨_, rfl⟩
  rw [hbB] at HV HBV
  have HBB := hide hbB
  go_enter Try.func9, Try.ntmps9
  go_upto_region 1 with fail
  rw [← hV]
  try rw [hbB]
  clear hV hbB
  obtain ⟨_, _, _, _, _, _, u0, u1, u2, u3, u4, u5⟩ := six HV.out
  go_wp2_with (go_at_call 24; refine grnum_any.mono ?_; (first | rw [enck] | rw [enep] | rw [enun] | rw [ense] | rw [enak]); rintro _ wq ⟨rfl, hq⟩; have hq := hq.symm; subst hq)
  go_ret
  exact ⟨by first | rw [HQ.out]; rfl | rfl, by rw [HBB.out]; exact HBV.out⟩

set_option maxRecDepth 100000 in
set_option maxHeartbeats 2000000 in
theorem rchk_21 {W : World} {ck ep un se ki ak : Int}  (hnck : 0 ≤ ck ∧ ck ≤ 9007199254740992) (hnep : 0 ≤ ep ∧ ep ≤ 9007199254740992) (hnun : ¬ (0 ≤ un ∧ un ≤ 9007199254740992)) :
    Calls Try.prog 9 #[.agg #[.int .i64 ck, .int .i64 ep, .int .i64 un, .int .i64 se, .int .i64 ki, .int .i64 ak]] W fun e w' => e = .returned (.int .i64 (chkG ⟨ck, ep, un, se, ki, ak⟩)) ∧ Below W.heap.size W w' := by
  have HQ : Hid (chkG ⟨ck, ep, un, se, ki, ak⟩ = 1) := hide (if_neg (by unfold okG; simp only; omega))
  have enck : numC ck = true := decide_eq_true hnck
  have enep : numC ep = true := decide_eq_true hnep
  have enun : numC un = false := decide_eq_false hnun
  clear hnck hnep hnun
  obtain ⟨V, hV⟩ : ∃ V, V = W.alloc (.cells #[.int .i64 ck, .int .i64 ep, .int .i64 un, .int .i64 se, .int .i64 ki, .int .i64 ak] 23 (0, 0)) := ⟨_, rfl⟩
  have HV : Hid (V.heap[W.heap.size]? = some (.cells #[.int .i64 ck, .int .i64 ep, .int .i64 un, .int .i64 se, .int .i64 ki, .int .i64 ak] 23 (0, 0))) := hide (by rw [hV]; exact heap_alloc_new W _)
  have HBV : Hid (Below W.heap.size W V) := hide (by rw [hV]; exact alloc_below _ _)
  obtain ⟨bB, hbB⟩ : ∃ bB, W.heap.size = bB := ⟨_, rfl⟩
  rw [hbB] at HV HBV
  have HBB := hide hbB
  go_enter Try.func9, Try.ntmps9
  go_upto_region 1 with fail
  rw [← hV]
  try rw [hbB]
  clear hV hbB
  obtain ⟨_, _, _, _, _, _, u0, u1, u2, u3, u4, u5⟩ := six HV.out
  go_wp2_with (go_at_call 24; refine grnum_any.mono ?_; (first | rw [enck] | rw [enep] | rw [enun] | rw [ense] | rw [enak]); rintro _ wq ⟨rfl, hq⟩; have hq := hq.symm; subst hq)
  go_ret
  exact ⟨by first | rw [HQ.out]; rfl | rfl, by rw [HBB.out]; exact HBV.out⟩

set_option maxRecDepth 100000 in
set_option maxHeartbeats 2000000 in
theorem rchk_22 {W : World} {ck ep un se ki ak : Int}  (hnck : 0 ≤ ck ∧ ck ≤ 9007199254740992) (hnep : ¬ (0 ≤ ep ∧ ep ≤ 9007199254740992)) :
    Calls Try.prog 9 #[.agg #[.int .i64 ck, .int .i64 ep, .int .i64 un, .int .i64 se, .int .i64 ki, .int .i64 ak]] W fun e w' => e = .returned (.int .i64 (chkG ⟨ck, ep, un, se, ki, ak⟩)) ∧ Below W.heap.size W w' := by
  have HQ : Hid (chkG ⟨ck, ep, un, se, ki, ak⟩ = 1) := hide (if_neg (by unfold okG; simp only; omega))
  have enck : numC ck = true := decide_eq_true hnck
  have enep : numC ep = false := decide_eq_false hnep
  clear hnck hnep
  obtain ⟨V, hV⟩ : ∃ V, V = W.alloc (.cells #[.int .i64 ck, .int .i64 ep, .int .i64 un, .int .i64 se, .int .i64 ki, .int .i64 ak] 23 (0, 0)) := ⟨_, rfl⟩
  have HV : Hid (V.heap[W.heap.size]? = some (.cells #[.int .i64 ck, .int .i64 ep, .int .i64 un, .int .i64 se, .int .i64 ki, .int .i64 ak] 23 (0, 0))) := hide (by rw [hV]; exact heap_alloc_new W _)
  have HBV : Hid (Below W.heap.size W V) := hide (by rw [hV]; exact alloc_below _ _)
  obtain ⟨bB, hbB⟩ : ∃ bB, W.heap.size = bB := ⟨_, rfl⟩
  rw [hbB] at HV HBV
  have HBB := hide hbB
  go_enter Try.func9, Try.ntmps9
  go_upto_region 1 with fail
  rw [← hV]
  try rw [hbB]
  clear hV hbB
  obtain ⟨_, _, _, _, _, _, u0, u1, u2, u3, u4, u5⟩ := six HV.out
  go_wp2_with (go_at_call 24; refine grnum_any.mono ?_; (first | rw [enck] | rw [enep] | rw [enun] | rw [ense] | rw [enak]); rintro _ wq ⟨rfl, hq⟩; have hq := hq.symm; subst hq)
  go_ret
  exact ⟨by first | rw [HQ.out]; rfl | rfl, by rw [HBB.out]; exact HBV.out⟩

set_option maxRecDepth 100000 in
set_option maxHeartbeats 2000000 in
theorem rchk_23 {W : World} {ck ep un se ki ak : Int}  (hnck : ¬ (0 ≤ ck ∧ ck ≤ 9007199254740992)) :
    Calls Try.prog 9 #[.agg #[.int .i64 ck, .int .i64 ep, .int .i64 un, .int .i64 se, .int .i64 ki, .int .i64 ak]] W fun e w' => e = .returned (.int .i64 (chkG ⟨ck, ep, un, se, ki, ak⟩)) ∧ Below W.heap.size W w' := by
  have HQ : Hid (chkG ⟨ck, ep, un, se, ki, ak⟩ = 1) := hide (if_neg (by unfold okG; simp only; omega))
  have enck : numC ck = false := decide_eq_false hnck
  clear hnck
  obtain ⟨V, hV⟩ : ∃ V, V = W.alloc (.cells #[.int .i64 ck, .int .i64 ep, .int .i64 un, .int .i64 se, .int .i64 ki, .int .i64 ak] 23 (0, 0)) := ⟨_, rfl⟩
  have HV : Hid (V.heap[W.heap.size]? = some (.cells #[.int .i64 ck, .int .i64 ep, .int .i64 un, .int .i64 se, .int .i64 ki, .int .i64 ak] 23 (0, 0))) := hide (by rw [hV]; exact heap_alloc_new W _)
  have HBV : Hid (Below W.heap.size W V) := hide (by rw [hV]; exact alloc_below _ _)
  obtain ⟨bB, hbB⟩ : ∃ bB, W.heap.size = bB := ⟨_, rfl⟩
  rw [hbB] at HV HBV
  have HBB := hide hbB
  go_enter Try.func9, Try.ntmps9
  go_upto_region 1 with fail
  rw [← hV]
  try rw [hbB]
  clear hV hbB
  obtain ⟨_, _, _, _, _, _, u0, u1, u2, u3, u4, u5⟩ := six HV.out
  go_wp2_with (go_at_call 24; refine grnum_any.mono ?_; (first | rw [enck] | rw [enep] | rw [enun] | rw [ense] | rw [enak]); rintro _ wq ⟨rfl, hq⟩; have hq := hq.symm; subst hq)
  go_ret
  exact ⟨by first | rw [HQ.out]; rfl | rfl, by rw [HBB.out]; exact HBV.out⟩

theorem rgcheck_any {W : World} {ck ep un se ki ak : Int} : Calls Try.prog 9 #[.agg #[.int .i64 ck, .int .i64 ep, .int .i64 un, .int .i64 se, .int .i64 ki, .int .i64 ak]] W fun e w' => e = .returned (.int .i64 (chkG ⟨ck, ep, un, se, ki, ak⟩)) ∧ Below W.heap.size W w' := by
  by_cases hnck : 0 ≤ ck ∧ ck ≤ 9007199254740992
  · by_cases hnep : 0 ≤ ep ∧ ep ≤ 9007199254740992
    · by_cases hnun : 0 ≤ un ∧ un ≤ 9007199254740992
      · by_cases hnse : 0 ≤ se ∧ se ≤ 9007199254740992
        · by_cases hnak : 0 ≤ ak ∧ ak ≤ 9007199254740992
          · by_cases he : ep = 0
            · by_cases hu : un = 0
              · by_cases hg : 12 < un - ck
                · exact rchk_0 hnck hnep hnun hnse hnak he hu hg
                · by_cases hk0 : ki < 0
                  · exact rchk_1 hnck hnep hnun hnse hnak he hu hg hk0
                  · by_cases hk2 : 2 < ki
                    · exact rchk_2 hnck hnep hnun hnse hnak he hu hg hk0 hk2
                    · by_cases hk : ki = 0
                      · by_cases ha : ak = 0
                        · exact rchk_3 hnck hnep hnun hnse hnak he hu hg hk0 hk2 hk ha
                        · exact rchk_4 hnck hnep hnun hnse hnak he hu hg hk0 hk2 hk ha
                      · by_cases hs : se = 0
                        · exact rchk_5 hnck hnep hnun hnse hnak he hu hg hk0 hk2 hk hs
                        · by_cases hac : ck < ak
                          · exact rchk_6 hnck hnep hnun hnse hnak he hu hg hk0 hk2 hk hs hac
                          · by_cases hkk : ki = 2
                            · exact rchk_7 hnck hnep hnun hnse hnak he hu hg hk0 hk2 hk hs hac hkk
                            · exact rchk_8 hnck hnep hnun hnse hnak he hu hg hk0 hk2 hk hs hac hkk
              · exact rchk_9 hnck hnep hnun hnse hnak he hu
            · by_cases hg : 12 < un - ck
              · exact rchk_10 hnck hnep hnun hnse hnak he hg
              · by_cases hk0 : ki < 0
                · exact rchk_11 hnck hnep hnun hnse hnak he hg hk0
                · by_cases hk2 : 2 < ki
                  · exact rchk_12 hnck hnep hnun hnse hnak he hg hk0 hk2
                  · by_cases hk : ki = 0
                    · by_cases ha : ak = 0
                      · exact rchk_13 hnck hnep hnun hnse hnak he hg hk0 hk2 hk ha
                      · exact rchk_14 hnck hnep hnun hnse hnak he hg hk0 hk2 hk ha
                    · by_cases hs : se = 0
                      · exact rchk_15 hnck hnep hnun hnse hnak he hg hk0 hk2 hk hs
                      · by_cases hac : ck < ak
                        · exact rchk_16 hnck hnep hnun hnse hnak he hg hk0 hk2 hk hs hac
                        · by_cases hkk : ki = 2
                          · exact rchk_17 hnck hnep hnun hnse hnak he hg hk0 hk2 hk hs hac hkk
                          · exact rchk_18 hnck hnep hnun hnse hnak he hg hk0 hk2 hk hs hac hkk
          · exact rchk_19 hnck hnep hnun hnse hnak
        · exact rchk_20 hnck hnep hnun hnse
      · exact rchk_21 hnck hnep hnun
    · exact rchk_22 hnck hnep
  · exact rchk_23 hnck
end Go.Proofs.Ytegffdmlkbdcdaa
