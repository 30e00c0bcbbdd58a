/-
  Bytes of package lease, and the reference's. No conditions.
-/
import Derived.Test.YthlkhjpobiohmaaLba
import Derived.Test.YthlkhjpobiohmaaLsd
namespace Go.Proofs.Ythlkhjpobiohmaa
open Go.RowKit

theorem ints6 (w : World) (x0 x1 x2 x3 x4 x5 : Int) (t : TypeId) : Row .i64 (w.alloc (.cells #[.int .i64 x0, .int .i64 x1, .int .i64 x2, .int .i64 x3, .int .i64 x4, .int .i64 x5] t)) (.slice (some ⟨w.heap.size, 0, none⟩) 6 6) [x0, x1, x2, x3, x4, x5] := by
  refine ⟨some ⟨w.heap.size, 0, none⟩, 6, rfl, Nat.le_refl _, by decide, (by intro h; cases h), fun _ => ⟨w.heap.size, 0, rfl, fun i hi => ?_⟩⟩
  have hi' : i < 6 := hi
  rcases i with _ | _ | _ | _ | _ | _ | i
  all_goals first | omega | simp
set_option maxRecDepth 100000 in
theorem bytes_1 {W : World} {o la ep ck tl : Int} {so : Bool} (hk : ¬ okL ⟨o, la, ep, ck, tl, so⟩) : Calls Try.prog 16 #[.agg #[.int .i64 o, .int .i64 la, .int .i64 ep, .int .i64 ck, .int .i64 tl, .bool so]] W fun e w' => ∃ p n c, e = .returned (.tuple #[.slice p n c, .int .i64 (chkC ⟨o, la, ep, ck, tl, so⟩)]) ∧ Row .u8 w' (.slice p n c) (bytesL ⟨o, la, ep, ck, tl, so⟩) ∧ Below W.heap.size W w' := by
  have HC : Hid (chkC ⟨o, la, ep, ck, tl, so⟩ = 1) := hide (chk_no hk)
  have HQ : Hid (bytesL ⟨o, la, ep, ck, tl, so⟩ = []) := hide (if_neg hk)
  obtain ⟨V, hV⟩ : ∃ V, V = W.alloc (.cells #[.int .i64 o, .int .i64 la, .int .i64 ep, .int .i64 ck, .int .i64 tl, .bool so] 23 (0, 0)) := ⟨_, rfl⟩
  have HV : Hid (V.heap[W.heap.size]? = some (.cells #[.int .i64 o, .int .i64 la, .int .i64 ep, .int .i64 ck, .int .i64 tl, .bool so] 23 (0, 0))) := hide (by rw [hV]; exact heap_alloc_new W _)
  have HBV : Hid (Below W.heap.size W V) := hide (by rw [hV]; exact alloc_below _ _)
  obtain ⟨bB, hbB⟩ : ∃ bB, W.heap.size = bB := ⟨_, rfl⟩
  rw [hbB] at HV HBV
  have HBB := hide hbB
  go_enter Try.func16, Try.ntmps16
  go_upto_region 1 with fail
  rw [← hV]
  try rw [hbB]
  clear hV hbB
  obtain ⟨_, _, _, _, _, _, u0, u1, u2, u3, u4, u5⟩ := six HV.out
  go_wp2_with fail
  refine (check_any).mono ?_
  rw [HC.out]
  rintro _ w1 ⟨rfl, bb⟩
  have HV1 := hide (below_box bb HV.out)
  have HBV1 := hide (below_next HBV.out bb (Nat.le_of_lt (box_lt HV.out)))
  clear bb HV HBV u0 u1 u2 u3 u4 u5
  obtain ⟨_, _, _, _, _, _, u0, u1, u2, u3, u4, u5⟩ := six HV1.out
  go_wp2
  go_ret2
  refine ⟨none, 0, 0, by rw [HC.out]; rfl, by rw [HQ.out]; exact Row.nil _ _, ?_⟩
  rw [HBB.out]
  exact HBV1.out
set_option maxRecDepth 100000 in
theorem bytes_2true {W : World} {o la ep ck tl : Int} (hk : okL ⟨o, la, ep, ck, tl, true⟩) : Calls Try.prog 16 #[.agg #[.int .i64 o, .int .i64 la, .int .i64 ep, .int .i64 ck, .int .i64 tl, .bool true]] W fun e w' => ∃ p n c, e = .returned (.tuple #[.slice p n c, .int .i64 (chkC ⟨o, la, ep, ck, tl, true⟩)]) ∧ Row .u8 w' (.slice p n c) (bytesL ⟨o, la, ep, ck, tl, true⟩) ∧ Below W.heap.size W w' := by
  have HC : Hid (chkC ⟨o, la, ep, ck, tl, true⟩ = 0) := hide (chk_yes hk)
  have HQ : Hid (bytesL ⟨o, la, ep, ck, tl, true⟩ = forms [o, la, ep, ck, tl, 1]) := hide (if_pos hk)
  have HI : Hid (I64 [o, la, ep, ck, tl, 1]) := hide (numsL_i64 hk)
  obtain ⟨V, hV⟩ : ∃ V, V = W.alloc (.cells #[.int .i64 o, .int .i64 la, .int .i64 ep, .int .i64 ck, .int .i64 tl, .bool true] 23 (0, 0)) := ⟨_, rfl⟩
  have HV : Hid (V.heap[W.heap.size]? = some (.cells #[.int .i64 o, .int .i64 la, .int .i64 ep, .int .i64 ck, .int .i64 tl, .bool true] 23 (0, 0))) := hide (by rw [hV]; exact heap_alloc_new W _)
  have HBV : Hid (Below W.heap.size W V) := hide (by rw [hV]; exact alloc_below _ _)
  obtain ⟨bB, hbB⟩ : ∃ bB, W.heap.size = bB := ⟨_, rfl⟩
  rw [hbB] at HV HBV
  have HBB := hide hbB
  go_enter Try.func16, Try.ntmps16
  go_upto_region 1 with fail
  rw [← hV]
  try rw [hbB]
  clear hV hbB
  obtain ⟨_, _, _, _, _, _, u0, u1, u2, u3, u4, u5⟩ := six HV.out
  go_wp2_with fail
  refine (check_any).mono ?_
  rw [HC.out]
  rintro _ w1 ⟨rfl, bb⟩
  have HV1 := hide (below_box bb HV.out)
  have HBV1 := hide (below_next HBV.out bb (Nat.le_of_lt (box_lt HV.out)))
  clear bb HV HBV u0 u1 u2 u3 u4 u5
  obtain ⟨_, _, _, _, _, _, u0, u1, u2, u3, u4, u5⟩ := six HV1.out
  go_wp2_with fail
  refine (int_any (Row.nil _ _) (ints6 w1 o la ep ck tl 1 _) HI.out (by simp)).mono ?_
  rintro _ w2 ⟨v2, rfl, hown, b2⟩
  have HR2 := hide (own_row hown)
  have HB2 := hide (below_next (below_next HBV1.out (alloc_below w1 _) (Nat.le_of_lt (box_lt HV1.out))) b2 (by have := box_lt HV1.out; simp; omega))
  obtain ⟨p, cp, rfl, _⟩ := own_row hown
  clear hown b2
  go_wp2
  go_ret2
  refine ⟨p, _, cp, by rw [HC.out]; rfl, by rw [HQ.out]; exact HR2.out, ?_⟩
  rw [HBB.out]
  exact HB2.out
set_option maxRecDepth 100000 in
theorem bytes_2false {W : World} {o la ep ck tl : Int} (hk : okL ⟨o, la, ep, ck, tl, false⟩) : Calls Try.prog 16 #[.agg #[.int .i64 o, .int .i64 la, .int .i64 ep, .int .i64 ck, .int .i64 tl, .bool false]] W fun e w' => ∃ p n c, e = .returned (.tuple #[.slice p n c, .int .i64 (chkC ⟨o, la, ep, ck, tl, false⟩)]) ∧ Row .u8 w' (.slice p n c) (bytesL ⟨o, la, ep, ck, tl, false⟩) ∧ Below W.heap.size W w' := by
  have HC : Hid (chkC ⟨o, la, ep, ck, tl, false⟩ = 0) := hide (chk_yes hk)
  have HQ : Hid (bytesL ⟨o, la, ep, ck, tl, false⟩ = forms [o, la, ep, ck, tl, 0]) := hide (if_pos hk)
  have HI : Hid (I64 [o, la, ep, ck, tl, 0]) := hide (numsL_i64 hk)
  obtain ⟨V, hV⟩ : ∃ V, V = W.alloc (.cells #[.int .i64 o, .int .i64 la, .int .i64 ep, .int .i64 ck, .int .i64 tl, .bool false] 23 (0, 0)) := ⟨_, rfl⟩
  have HV : Hid (V.heap[W.heap.size]? = some (.cells #[.int .i64 o, .int .i64 la, .int .i64 ep, .int .i64 ck, .int .i64 tl, .bool false] 23 (0, 0))) := hide (by rw [hV]; exact heap_alloc_new W _)
  have HBV : Hid (Below W.heap.size W V) := hide (by rw [hV]; exact alloc_below _ _)
  obtain ⟨bB, hbB⟩ : ∃ bB, W.heap.size = bB := ⟨_, rfl⟩
  rw [hbB] at HV HBV
  have HBB := hide hbB
  go_enter Try.func16, Try.ntmps16
  go_upto_region 1 with fail
  rw [← hV]
  try rw [hbB]
  clear hV hbB
  obtain ⟨_, _, _, _, _, _, u0, u1, u2, u3, u4, u5⟩ := six HV.out
  go_wp2_with fail
  refine (check_any).mono ?_
  rw [HC.out]
  rintro _ w1 ⟨rfl, bb⟩
  have HV1 := hide (below_box bb HV.out)
  have HBV1 := hide (below_next HBV.out bb (Nat.le_of_lt (box_lt HV.out)))
  clear bb HV HBV u0 u1 u2 u3 u4 u5
  obtain ⟨_, _, _, _, _, _, u0, u1, u2, u3, u4, u5⟩ := six HV1.out
  go_wp2_with fail
  refine (int_any (Row.nil _ _) (ints6 w1 o la ep ck tl 0 _) HI.out (by simp)).mono ?_
  rintro _ w2 ⟨v2, rfl, hown, b2⟩
  have HR2 := hide (own_row hown)
  have HB2 := hide (below_next (below_next HBV1.out (alloc_below w1 _) (Nat.le_of_lt (box_lt HV1.out))) b2 (by have := box_lt HV1.out; simp; omega))
  obtain ⟨p, cp, rfl, _⟩ := own_row hown
  clear hown b2
  go_wp2
  go_ret2
  refine ⟨p, _, cp, by rw [HC.out]; rfl, by rw [HQ.out]; exact HR2.out, ?_⟩
  rw [HBB.out]
  exact HB2.out
theorem bytes_any {W : World} {o la ep ck tl : Int} {so : Bool} : Calls Try.prog 16 #[.agg #[.int .i64 o, .int .i64 la, .int .i64 ep, .int .i64 ck, .int .i64 tl, .bool so]] W fun e w' => ∃ p n c, e = .returned (.tuple #[.slice p n c, .int .i64 (chkC ⟨o, la, ep, ck, tl, so⟩)]) ∧ Row .u8 w' (.slice p n c) (bytesL ⟨o, la, ep, ck, tl, so⟩) ∧ Below W.heap.size W w' := by
  by_cases hk : okL ⟨o, la, ep, ck, tl, so⟩
  · cases so with
    | true => exact bytes_2true hk
    | false => exact bytes_2false hk
  · exact bytes_1 hk
set_option maxRecDepth 100000 in
theorem rbytes_1 {W : World} {o la ep ck tl : Int} {so : Bool} (hk : ¬ okL ⟨o, la, ep, ck, tl, so⟩) : Calls Try.prog 17 #[.agg #[.int .i64 o, .int .i64 la, .int .i64 ep, .int .i64 ck, .int .i64 tl, .bool so]] W fun e w' => ∃ p n c, e = .returned (.tuple #[.slice p n c, .int .i64 (chkC ⟨o, la, ep, ck, tl, so⟩)]) ∧ Row .u8 w' (.slice p n c) (bytesL ⟨o, la, ep, ck, tl, so⟩) ∧ Below W.heap.size W w' := by
  have HC : Hid (chkC ⟨o, la, ep, ck, tl, so⟩ = 1) := hide (chk_no hk)
  have HQ : Hid (bytesL ⟨o, la, ep, ck, tl, so⟩ = []) := hide (if_neg hk)
  obtain ⟨V, hV⟩ : ∃ V, V = W.alloc (.cells #[.int .i64 o, .int .i64 la, .int .i64 ep, .int .i64 ck, .int .i64 tl, .bool so] 23 (0, 0)) := ⟨_, rfl⟩
  have HV : Hid (V.heap[W.heap.size]? = some (.cells #[.int .i64 o, .int .i64 la, .int .i64 ep, .int .i64 ck, .int .i64 tl, .bool so] 23 (0, 0))) := hide (by rw [hV]; exact heap_alloc_new W _)
  have HBV : Hid (Below W.heap.size W V) := hide (by rw [hV]; exact alloc_below _ _)
  obtain ⟨bB, hbB⟩ : ∃ bB, W.heap.size = bB := ⟨_, rfl⟩
  rw [hbB] at HV HBV
  have HBB := hide hbB
  go_enter Try.func17, Try.ntmps17
  go_upto_region 1 with fail
  rw [← hV]
  try rw [hbB]
  clear hV hbB
  obtain ⟨_, _, _, _, _, _, u0, u1, u2, u3, u4, u5⟩ := six HV.out
  go_wp2_with fail
  refine (rcheck_any).mono ?_
  rw [HC.out]
  rintro _ w1 ⟨rfl, bb⟩
  have HV1 := hide (below_box bb HV.out)
  have HBV1 := hide (below_next HBV.out bb (Nat.le_of_lt (box_lt HV.out)))
  clear bb HV HBV u0 u1 u2 u3 u4 u5
  obtain ⟨_, _, _, _, _, _, u0, u1, u2, u3, u4, u5⟩ := six HV1.out
  go_wp2
  go_ret2
  refine ⟨none, 0, 0, by rw [HC.out]; rfl, by rw [HQ.out]; exact Row.nil _ _, ?_⟩
  rw [HBB.out]
  exact HBV1.out
set_option maxRecDepth 100000 in
theorem rbytes_2true {W : World} {o la ep ck tl : Int} (hk : okL ⟨o, la, ep, ck, tl, true⟩) : Calls Try.prog 17 #[.agg #[.int .i64 o, .int .i64 la, .int .i64 ep, .int .i64 ck, .int .i64 tl, .bool true]] W fun e w' => ∃ p n c, e = .returned (.tuple #[.slice p n c, .int .i64 (chkC ⟨o, la, ep, ck, tl, true⟩)]) ∧ Row .u8 w' (.slice p n c) (bytesL ⟨o, la, ep, ck, tl, true⟩) ∧ Below W.heap.size W w' := by
  have HC : Hid (chkC ⟨o, la, ep, ck, tl, true⟩ = 0) := hide (chk_yes hk)
  have HQ : Hid (bytesL ⟨o, la, ep, ck, tl, true⟩ = forms [o, la, ep, ck, tl, 1]) := hide (if_pos hk)
  have HI : Hid (I64 [o, la, ep, ck, tl, 1]) := hide (numsL_i64 hk)
  obtain ⟨V, hV⟩ : ∃ V, V = W.alloc (.cells #[.int .i64 o, .int .i64 la, .int .i64 ep, .int .i64 ck, .int .i64 tl, .bool true] 23 (0, 0)) := ⟨_, rfl⟩
  have HV : Hid (V.heap[W.heap.size]? = some (.cells #[.int .i64 o, .int .i64 la, .int .i64 ep, .int .i64 ck, .int .i64 tl, .bool true] 23 (0, 0))) := hide (by rw [hV]; exact heap_alloc_new W _)
  have HBV : Hid (Below W.heap.size W V) := hide (by rw [hV]; exact alloc_below _ _)
  obtain ⟨bB, hbB⟩ : ∃ bB, W.heap.size = bB := ⟨_, rfl⟩
  rw [hbB] at HV HBV
  have HBB := hide hbB
  go_enter Try.func17, Try.ntmps17
  go_upto_region 1 with fail
  rw [← hV]
  try rw [hbB]
  clear hV hbB
  obtain ⟨_, _, _, _, _, _, u0, u1, u2, u3, u4, u5⟩ := six HV.out
  go_wp2_with fail
  refine (rcheck_any).mono ?_
  rw [HC.out]
  rintro _ w1 ⟨rfl, bb⟩
  have HV1 := hide (below_box bb HV.out)
  have HBV1 := hide (below_next HBV.out bb (Nat.le_of_lt (box_lt HV.out)))
  clear bb HV HBV u0 u1 u2 u3 u4 u5
  obtain ⟨_, _, _, _, _, _, u0, u1, u2, u3, u4, u5⟩ := six HV1.out
  go_wp2_with fail
  refine (rint_any (Row.nil _ _) (ints6 w1 o la ep ck tl 1 _) HI.out (by simp)).mono ?_
  rintro _ w2 ⟨v2, rfl, hown, b2⟩
  have HR2 := hide (own_row hown)
  have HB2 := hide (below_next (below_next HBV1.out (alloc_below w1 _) (Nat.le_of_lt (box_lt HV1.out))) b2 (by have := box_lt HV1.out; simp; omega))
  obtain ⟨p, cp, rfl, _⟩ := own_row hown
  clear hown b2
  go_wp2
  go_ret2
  refine ⟨p, _, cp, by rw [HC.out]; rfl, by rw [HQ.out]; exact HR2.out, ?_⟩
  rw [HBB.out]
  exact HB2.out
set_option maxRecDepth 100000 in
theorem rbytes_2false {W : World} {o la ep ck tl : Int} (hk : okL ⟨o, la, ep, ck, tl, false⟩) : Calls Try.prog 17 #[.agg #[.int .i64 o, .int .i64 la, .int .i64 ep, .int .i64 ck, .int .i64 tl, .bool false]] W fun e w' => ∃ p n c, e = .returned (.tuple #[.slice p n c, .int .i64 (chkC ⟨o, la, ep, ck, tl, false⟩)]) ∧ Row .u8 w' (.slice p n c) (bytesL ⟨o, la, ep, ck, tl, false⟩) ∧ Below W.heap.size W w' := by
  have HC : Hid (chkC ⟨o, la, ep, ck, tl, false⟩ = 0) := hide (chk_yes hk)
  have HQ : Hid (bytesL ⟨o, la, ep, ck, tl, false⟩ = forms [o, la, ep, ck, tl, 0]) := hide (if_pos hk)
  have HI : Hid (I64 [o, la, ep, ck, tl, 0]) := hide (numsL_i64 hk)
  obtain ⟨V, hV⟩ : ∃ V, V = W.alloc (.cells #[.int .i64 o, .int .i64 la, .int .i64 ep, .int .i64 ck, .int .i64 tl, .bool false] 23 (0, 0)) := ⟨_, rfl⟩
  have HV : Hid (V.heap[W.heap.size]? = some (.cells #[.int .i64 o, .int .i64 la, .int .i64 ep, .int .i64 ck, .int .i64 tl, .bool false] 23 (0, 0))) := hide (by rw [hV]; exact heap_alloc_new W _)
  have HBV : Hid (Below W.heap.size W V) := hide (by rw [hV]; exact alloc_below _ _)
  obtain ⟨bB, hbB⟩ : ∃ bB, W.heap.size = bB := ⟨_, rfl⟩
  rw [hbB] at HV HBV
  have HBB := hide hbB
  go_enter Try.func17, Try.ntmps17
  go_upto_region 1 with fail
  rw [← hV]
  try rw [hbB]
  clear hV hbB
  obtain ⟨_, _, _, _, _, _, u0, u1, u2, u3, u4, u5⟩ := six HV.out
  go_wp2_with fail
  refine (rcheck_any).mono ?_
  rw [HC.out]
  rintro _ w1 ⟨rfl, bb⟩
  have HV1 := hide (below_box bb HV.out)
  have HBV1 := hide (below_next HBV.out bb (Nat.le_of_lt (box_lt HV.out)))
  clear bb HV HBV u0 u1 u2 u3 u4 u5
  obtain ⟨_, _, _, _, _, _, u0, u1, u2, u3, u4, u5⟩ := six HV1.out
  go_wp2_with fail
  refine (rint_any (Row.nil _ _) (ints6 w1 o la ep ck tl 0 _) HI.out (by simp)).mono ?_
  rintro _ w2 ⟨v2, rfl, hown, b2⟩
  have HR2 := hide (own_row hown)
  have HB2 := hide (below_next (below_next HBV1.out (alloc_below w1 _) (Nat.le_of_lt (box_lt HV1.out))) b2 (by have := box_lt HV1.out; simp; omega))
  obtain ⟨p, cp, rfl, _⟩ := own_row hown
  clear hown b2
  go_wp2
  go_ret2
  refine ⟨p, _, cp, by rw [HC.out]; rfl, by rw [HQ.out]; exact HR2.out, ?_⟩
  rw [HBB.out]
  exact HB2.out
theorem rbytes_any {W : World} {o la ep ck tl : Int} {so : Bool} : Calls Try.prog 17 #[.agg #[.int .i64 o, .int .i64 la, .int .i64 ep, .int .i64 ck, .int .i64 tl, .bool so]] W fun e w' => ∃ p n c, e = .returned (.tuple #[.slice p n c, .int .i64 (chkC ⟨o, la, ep, ck, tl, so⟩)]) ∧ Row .u8 w' (.slice p n c) (bytesL ⟨o, la, ep, ck, tl, so⟩) ∧ Below W.heap.size W w' := by
  by_cases hk : okL ⟨o, la, ep, ck, tl, so⟩
  · cases so with
    | true => exact rbytes_2true hk
    | false => exact rbytes_2false hk
  · exact rbytes_1 hk
end Go.Proofs.Ythlkhjpobiohmaa
