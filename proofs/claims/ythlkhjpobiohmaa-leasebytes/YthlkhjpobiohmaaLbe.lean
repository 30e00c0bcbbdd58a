/-
  LeaseBytes walked: any lease's bytes, and what any bytes say; there and back. The conditions: that the bytes lie there, and that they are fewer than 2^47.
-/
import Derived.Test.YthlkhjpobiohmaaLbb
import Derived.Test.YthlkhjpobiohmaaLbc
import Derived.Test.YthlkhjpobiohmaaLbd
import Derived.Test.YthlkhjpobiohmaaLsh
namespace Go.Proofs.Ythlkhjpobiohmaa
open Go.RowKit

set_option maxRecDepth 100000 in
set_option maxHeartbeats 4000000 in
theorem lbytes_walk {W : World} {o la ep ck tl : Int} {so : Bool} {p : Option Addr} {n c : Nat} {l : List Int} (h : Row .u8 W (.slice p n c) l) (hu : U8 l) (hbig : l.length ≤ 140737488355328) :
    Calls Try.prog 4 #[.agg #[.int .i64 o, .int .i64 la, .int .i64 ep, .int .i64 ck, .int .i64 tl, .bool so], .slice p n c] W fun e w' => e = .returned (.bool true) ∧ Below W.heap.size W w' := by
  obtain ⟨V, hV⟩ : ∃ V, V = W.alloc (.cells #[.int .i64 o, .int .i64 la, .int .i64 ep, .int .i64 ck, .int .i64 tl, .bool so] 23 (0, 0)) := ⟨_, rfl⟩
  have hbv : Below W.heap.size W V := by rw [hV]; exact alloc_below _ _
  have hv : V.heap[W.heap.size]? = some (.cells #[.int .i64 o, .int .i64 la, .int .i64 ep, .int .i64 ck, .int .i64 tl, .bool so] 23 (0, 0)) := by rw [hV]; exact heap_alloc_new W _
  have HR := hide (Row.below h hbv)
  obtain ⟨bB, hbB⟩ : ∃ bB, W.heap.size = bB := ⟨_, rfl⟩
  rw [hbB] at hv hbv
  have HV0 := hide hv
  have HB0 := hide hbv
  have HBB := hide hbB
  have HU8 := hide hu
  have HBIG := hide hbig
  obtain ⟨ch, hch⟩ : ∃ ch, chkC ⟨o, la, ep, ck, tl, so⟩ = ch := ⟨_, rfl⟩
  have HCH := hide hch
  obtain ⟨⟨⟨q0, q1, q2, q3, q4, q5⟩, er⟩, hq⟩ : ∃ q, parseL l = q := ⟨_, rfl⟩
  have HQ := hide hq
  have HE0 : Hid (ch = 0 → okL ⟨o, la, ep, ck, tl, so⟩) := hide (fun e => Classical.byContradiction fun hne => by have := chk_no hne; omega)
  clear h hu hbig hv hbv hch hq
  go_enter Try.func4, Try.ntmps4
  go_upto_region 1 with fail
  rw [← hV]
  try rw [hbB]
  clear hV hbB
  go_wp2_with fail
  refine live_any.mono ?_
  rintro _ w1 ⟨rfl, b1⟩
  have HV1 := hide (below_box b1 HV0.out)
  have HB1 := hide (below_next HB0.out b1 (Nat.le_of_lt (box_lt HV0.out)))
  replace HR := hide (Row.below HR.out b1)
  clear b1 HV0 HB0
  obtain ⟨_, _, _, _, _, _, u0, u1, u2, u3, u4, u5⟩ := six HV1.out
  go_wp2_with fail
  refine bytes_any.mono ?_
  rw [HCH.out]
  rintro _ w2 ⟨p2, n2, c2, rfl, r2, b2⟩
  clear u0 u1 u2 u3 u4 u5
  have HR2 := hide r2
  clear r2
  have HV2 := hide (below_box b2 HV1.out)
  have HB2 := hide (below_next HB1.out b2 (Nat.le_of_lt (box_lt HV1.out)))
  replace HR := hide (Row.below HR.out b2)
  clear b2 HV1 HB1
  obtain ⟨_, _, _, _, _, _, u0, u1, u2, u3, u4, u5⟩ := six HV2.out
  go_wp2_with fail
  refine rbytes_any.mono ?_
  rw [HCH.out]
  rintro _ w3 ⟨p3, n3, c3, rfl, r3, b3⟩
  clear u0 u1 u2 u3 u4 u5
  have HR3 := hide r3
  clear r3
  have HV3 := hide (below_box b3 HV2.out)
  have HB3 := hide (below_next HB2.out b3 (Nat.le_of_lt (box_lt HV2.out)))
  replace HR := hide (Row.below HR.out b3)
  replace HR2 := hide (Row.below HR2.out b3)
  clear b3 HV2 HB2
  go_wp2_with fail
  refine (parse_any HR.out HU8.out HBIG.out).mono ?_
  rw [HQ.out]
  simp only [LE.val, LE.row]
  rintro _ w4 ⟨rfl, bb⟩
  have HV4 := hide (below_box bb HV3.out)
  have HB4 := hide (below_next HB3.out bb (Nat.le_of_lt (box_lt HV3.out)))
  replace HR := hide (Row.below HR.out bb)
  replace HR2 := hide (Row.below HR2.out bb)
  replace HR3 := hide (Row.below HR3.out bb)
  clear bb HV3 HB3
  go_upto_region 6 with fail
  obtain ⟨X1, hX⟩ : ∃ X, X = w4.alloc (.cells #[.int .i64 q0, .int .i64 q1, .int .i64 q2, .int .i64 q3, .int .i64 q4, .bool q5] 23 (0, 0)) := ⟨_, rfl⟩
  rw [← hX]
  have bX : Below w4.heap.size w4 X1 := by rw [hX]; exact alloc_below _ _
  obtain ⟨xB, hxB⟩ : ∃ xB, w4.heap.size = xB := ⟨_, rfl⟩
  have HxB : Hid (X1.heap[xB]? = some (.cells #[.int .i64 q0, .int .i64 q1, .int .i64 q2, .int .i64 q3, .int .i64 q4, .bool q5] 23 (0, 0))) := hide (by rw [hX, ← hxB]; exact heap_alloc_new w4 _)
  have HV5 := hide (below_box bX HV4.out)
  have HB5 := hide (below_next HB4.out bX (Nat.le_of_lt (box_lt HV4.out)))
  replace HR := hide (Row.below HR.out bX)
  replace HR2 := hide (Row.below HR2.out bX)
  replace HR3 := hide (Row.below HR3.out bX)
  clear hX bX HV4 HB4
  try rw [hxB]
  clear hxB
  go_wp2_with fail
  refine (rparse_any HR.out HU8.out).mono ?_
  rw [HQ.out]
  simp only [LE.val, LE.row]
  rintro _ w5 ⟨rfl, bb⟩
  replace HxB := hide (below_box bb HxB.out)
  have HV6 := hide (below_box bb HV5.out)
  have HB6 := hide (below_next HB5.out bb (Nat.le_of_lt (box_lt HV5.out)))
  replace HR2 := hide (Row.below HR2.out bb)
  replace HR3 := hide (Row.below HR3.out bb)
  clear bb HV5 HB5
  go_upto_region 7 with fail
  obtain ⟨X2, hX⟩ : ∃ X, X = w5.alloc (.cells #[.int .i64 q0, .int .i64 q1, .int .i64 q2, .int .i64 q3, .int .i64 q4, .bool q5] 23 (0, 0)) := ⟨_, rfl⟩
  rw [← hX]
  have bX : Below w5.heap.size w5 X2 := by rw [hX]; exact alloc_below _ _
  obtain ⟨yB, hxB⟩ : ∃ xB, w5.heap.size = xB := ⟨_, rfl⟩
  have HyB : Hid (X2.heap[yB]? = some (.cells #[.int .i64 q0, .int .i64 q1, .int .i64 q2, .int .i64 q3, .int .i64 q4, .bool q5] 23 (0, 0))) := hide (by rw [hX, ← hxB]; exact heap_alloc_new w5 _)
  replace HxB := hide (below_box bX HxB.out)
  have HV7 := hide (below_box bX HV6.out)
  have HB7 := hide (below_next HB6.out bX (Nat.le_of_lt (box_lt HV6.out)))
  replace HR2 := hide (Row.below HR2.out bX)
  replace HR3 := hide (Row.below HR3.out bX)
  clear hX bX HV6 HB6
  try rw [hxB]
  clear hxB
  obtain ⟨_, _, _, _, _, _, x0, x1, x2, x3, x4, x5⟩ := six HxB.out
  obtain ⟨_, _, _, _, _, _, y0, y1, y2, y3, y4, y5⟩ := six HyB.out
  go_wp2_with fail
  refine (equal_any HR2.out HR3.out (bytesL_u8 _) (bytesL_u8 _)).mono ?_
  rw [decide_eq_true (rfl : bytesL ⟨o, la, ep, ck, tl, so⟩ = bytesL ⟨o, la, ep, ck, tl, so⟩)]
  rintro _ X2 ⟨rfl, rfl⟩
  by_cases hc : ch = 0
  · have HOK := hide (HE0.out hc)
    have HPB := hide (parse_back (HE0.out hc))
    subst hc
    go_wp2_with fail
    refine (parse_any HR2.out (bytesL_u8 _) (by have := bytesL_len ⟨o, la, ep, ck, tl, so⟩; omega)).mono ?_
    rw [HPB.out]
    simp only [LE.val, LE.row]
    rintro _ w8 ⟨rfl, bb⟩
    clear x0 x1 x2 x3 x4 x5 y0 y1 y2 y3 y4 y5
    have HV8 := hide (below_box bb HV7.out)
    have HB8 := hide (below_next HB7.out bb (Nat.le_of_lt (box_lt HV7.out)))
    clear bb HV7 HB7
    go_upto_region 11 with fail
    obtain ⟨X3, hX⟩ : ∃ X, X = w8.alloc (.cells #[.int .i64 o, .int .i64 la, .int .i64 ep, .int .i64 ck, .int .i64 tl, .bool so] 23 (0, 0)) := ⟨_, rfl⟩
    rw [← hX]
    have bX : Below w8.heap.size w8 X3 := by rw [hX]; exact alloc_below _ _
    obtain ⟨zB, hxB⟩ : ∃ xB, w8.heap.size = xB := ⟨_, rfl⟩
    have HzB : Hid (X3.heap[zB]? = some (.cells #[.int .i64 o, .int .i64 la, .int .i64 ep, .int .i64 ck, .int .i64 tl, .bool so] 23 (0, 0))) := hide (by rw [hX, ← hxB]; exact heap_alloc_new w8 _)
    have HV9 := hide (below_box bX HV8.out)
    have HB9 := hide (below_next HB8.out bX (Nat.le_of_lt (box_lt HV8.out)))
    clear hX bX HV8 HB8
    try rw [hxB]
    clear hxB
    obtain ⟨_, _, _, _, _, _, u0, u1, u2, u3, u4, u5⟩ := six HV9.out
    obtain ⟨_, _, _, _, _, _, z0, z1, z2, z3, z4, z5⟩ := six HzB.out
    go_wp2
    go_ret
    refine ⟨rfl, ?_⟩
    rw [HBB.out]
    exact HB9.out
  · have hc1 : (ch == 0) = false := ne_eqL hc
    clear hc
    go_wp2
    go_ret
    refine ⟨rfl, ?_⟩
    rw [HBB.out]
    exact HB7.out
end Go.Proofs.Ythlkhjpobiohmaa
