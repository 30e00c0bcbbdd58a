/-
  What the other calls of package lease do, plainly; claim, Held, Tick and grant walked. The conditions: where a number is added to, that the lease may be.
-/
import Derived.Test.YthlkhjpobiohmaaLsc
namespace Go.Proofs.Ythlkhjpobiohmaa
open Go.RowKit

def heldC (l : LE) : Bool := decide (okL l ∧ l.own ≠ -1 ∧ l.clk < l.til)
def tickC (l : LE) (n : Int) : LE := if okL l then ⟨l.own, l.last, l.ep, laterC l.clk n, l.til, l.solo⟩ else l
def claimC (l : LE) (r e : Int) : Int := if okL l ∧ 0 ≤ r ∧ r < 2 then (if l.own = r ∧ l.ep = e then 0 else 132) else 1
def grantC (l : LE) (r : Int) : LE × Int × Int := if l.ep = 9007199254740992 then (l, 0, 6) else (⟨r, r, l.ep + 1, l.clk, laterC l.clk 16, l.solo && decide (l.last = r)⟩, l.ep + 1, 0)
def acqC (l : LE) (r : Int) : LE × Int × Int :=
  if okL l ∧ 0 ≤ r ∧ r < 2 then (if heldC l = true ∧ l.own ≠ r then (l, 0, 130) else if l.solo = true ∧ l.last ≠ r then (l, 0, 131) else grantC l r) else (l, 0, 1)
def renewC (l : LE) (r e : Int) : LE × Int := if claimC l r e = 0 then (⟨l.own, l.last, l.ep, l.clk, laterC l.clk 16, l.solo⟩, 0) else (l, claimC l r e)
def releaseC (l : LE) (r e : Int) : LE × Int := if claimC l r e = 0 then (⟨-1, l.last, l.ep, l.clk, l.clk, l.solo⟩, 0) else (l, claimC l r e)
def transC (l : LE) (r e t : Int) : LE × Int × Int :=
  if (0 ≤ t ∧ t < 2) ∧ t ≠ r then (if claimC l r e = 0 then (if l.solo = true then (l, 0, 131) else grantC l t) else (l, 0, claimC l r e)) else (l, 0, 1)
def aloneC (l : LE) (r e : Int) (s : Bool) : LE × Int := if claimC l r e = 0 then (⟨l.own, l.last, l.ep, l.clk, l.til, s⟩, 0) else (l, claimC l r e)
theorem claim_ok {l : LE} {r e : Int} (h : claimC l r e = 0) : okL l ∧ (0 ≤ r ∧ r < 2) ∧ l.own = r ∧ l.ep = e := by
  unfold claimC at h
  split at h
  · rename_i h1
    split at h
    · rename_i h2; exact ⟨h1.1, h1.2, h2.1, h2.2⟩
    · cases h
  · cases h

set_option maxRecDepth 100000 in
theorem claim_1 {W : World} {o la ep ck tl : Int} {so : Bool} {r p : Int} (hk : ¬ okL ⟨o, la, ep, ck, tl, so⟩) :
    Calls Try.prog 50 #[.agg #[.int .i64 o, .int .i64 la, .int .i64 ep, .int .i64 ck, .int .i64 tl, .bool so], .int .i64 r, .int .i64 p] W fun e w' => e = .returned (.int .i64 (claimC ⟨o, la, ep, ck, tl, so⟩ r p)) ∧ Below W.heap.size W w' := by
  have HQ : Hid (claimC ⟨o, la, ep, ck, tl, so⟩ r p = 1) := hide (if_neg (fun h => hk h.1))
  have HC : Hid (chkC ⟨o, la, ep, ck, tl, so⟩ = 1) := hide (chk_no hk)
  obtain ⟨V, hV⟩ : ∃ V, V = W.alloc (.cells #[.int .i64 o, .int .i64 la, .int .i64 ep, .int .i64 ck, .int .i64 tl, .bool so] 23 (0, 0)) := ⟨_, rfl⟩
  have HV : Hid (V.heap[W.heap.size]? = some (.cells #[.int .i64 o, .int .i64 la, .int .i64 ep, .int .i64 ck, .int .i64 tl, .bool so] 23 (0, 0))) := hide (by rw [hV]; exact heap_alloc_new W _)
  have HBV : Hid (Below W.heap.size W V) := hide (by rw [hV]; exact alloc_below _ _)
  obtain ⟨bB, hbB⟩ : ∃ bB, W.heap.size = bB := ⟨_, rfl⟩
  rw [hbB] at HV HBV
  have HBB := hide hbB
  go_enter Try.func50, Try.ntmps50
  go_upto_region 1 with fail
  rw [← hV]
  try rw [hbB]
  clear hV hbB
  obtain ⟨_, _, _, _, _, _, u0, u1, u2, u3, u4, u5⟩ := six HV.out
  go_wp2_with fail
  refine (check_any).mono ?_
  rw [HC.out]
  rintro _ w1 ⟨rfl, bb⟩
  have HV1 := hide (below_box bb HV.out)
  have HBV1 := hide (below_next HBV.out bb (Nat.le_of_lt (box_lt HV.out)))
  clear bb HV HBV u0 u1 u2 u3 u4 u5
  obtain ⟨_, _, _, _, _, _, u0, u1, u2, u3, u4, u5⟩ := six HV1.out
  go_wp2
  go_ret
  exact ⟨by first | rw [HQ.out]; rfl | rfl, by rw [HBB.out]; exact HBV1.out⟩

set_option maxRecDepth 100000 in
theorem claim_2 {W : World} {o la ep ck tl : Int} {so : Bool} {r p : Int} (hk : okL ⟨o, la, ep, ck, tl, so⟩) (h1 : ¬ (0 ≤ r ∧ r < 2)) :
    Calls Try.prog 50 #[.agg #[.int .i64 o, .int .i64 la, .int .i64 ep, .int .i64 ck, .int .i64 tl, .bool so], .int .i64 r, .int .i64 p] W fun e w' => e = .returned (.int .i64 (claimC ⟨o, la, ep, ck, tl, so⟩ r p)) ∧ Below W.heap.size W w' := by
  have HQ : Hid (claimC ⟨o, la, ep, ck, tl, so⟩ r p = 1) := hide (if_neg (fun h => h1 h.2))
  have HC : Hid (chkC ⟨o, la, ep, ck, tl, so⟩ = 0) := hide (chk_yes hk)
  have e1 : regC r = false := reg_no h1
  obtain ⟨V, hV⟩ : ∃ V, V = W.alloc (.cells #[.int .i64 o, .int .i64 la, .int .i64 ep, .int .i64 ck, .int .i64 tl, .bool so] 23 (0, 0)) := ⟨_, rfl⟩
  have HV : Hid (V.heap[W.heap.size]? = some (.cells #[.int .i64 o, .int .i64 la, .int .i64 ep, .int .i64 ck, .int .i64 tl, .bool so] 23 (0, 0))) := hide (by rw [hV]; exact heap_alloc_new W _)
  have HBV : Hid (Below W.heap.size W V) := hide (by rw [hV]; exact alloc_below _ _)
  obtain ⟨bB, hbB⟩ : ∃ bB, W.heap.size = bB := ⟨_, rfl⟩
  rw [hbB] at HV HBV
  have HBB := hide hbB
  go_enter Try.func50, Try.ntmps50
  go_upto_region 1 with fail
  rw [← hV]
  try rw [hbB]
  clear hV hbB
  obtain ⟨_, _, _, _, _, _, u0, u1, u2, u3, u4, u5⟩ := six HV.out
  go_wp2_with fail
  refine (check_any).mono ?_
  rw [HC.out]
  rintro _ w1 ⟨rfl, bb⟩
  have HV1 := hide (below_box bb HV.out)
  have HBV1 := hide (below_next HBV.out bb (Nat.le_of_lt (box_lt HV.out)))
  clear bb HV HBV u0 u1 u2 u3 u4 u5
  obtain ⟨_, _, _, _, _, _, u0, u1, u2, u3, u4, u5⟩ := six HV1.out
  go_wp2_with (first | (go_at_call 33; refine isreg_any.mono ?_; rw [e1]; rintro _ w1 ⟨rfl, rfl⟩))
  go_ret
  exact ⟨by first | rw [HQ.out]; rfl | rfl, by rw [HBB.out]; exact HBV1.out⟩

set_option maxRecDepth 100000 in
theorem claim_3 {W : World} {o la ep ck tl : Int} {so : Bool} {r p : Int} (hk : okL ⟨o, la, ep, ck, tl, so⟩) (h1 : 0 ≤ r ∧ r < 2) (h2 : o ≠ r) :
    Calls Try.prog 50 #[.agg #[.int .i64 o, .int .i64 la, .int .i64 ep, .int .i64 ck, .int .i64 tl, .bool so], .int .i64 r, .int .i64 p] W fun e w' => e = .returned (.int .i64 (claimC ⟨o, la, ep, ck, tl, so⟩ r p)) ∧ Below W.heap.size W w' := by
  have HQ : Hid (claimC ⟨o, la, ep, ck, tl, so⟩ r p = 132) := hide ((if_pos ⟨hk, h1⟩).trans (if_neg (fun h => h2 h.1)))
  have HC : Hid (chkC ⟨o, la, ep, ck, tl, so⟩ = 0) := hide (chk_yes hk)
  have e1 : regC r = true := reg_yes h1
  have d2 : (o == r) = false := ne_eqL h2
  have d3 : (o != r) = true := ne_neL h2
  obtain ⟨V, hV⟩ : ∃ V, V = W.alloc (.cells #[.int .i64 o, .int .i64 la, .int .i64 ep, .int .i64 ck, .int .i64 tl, .bool so] 23 (0, 0)) := ⟨_, rfl⟩
  have HV : Hid (V.heap[W.heap.size]? = some (.cells #[.int .i64 o, .int .i64 la, .int .i64 ep, .int .i64 ck, .int .i64 tl, .bool so] 23 (0, 0))) := hide (by rw [hV]; exact heap_alloc_new W _)
  have HBV : Hid (Below W.heap.size W V) := hide (by rw [hV]; exact alloc_below _ _)
  obtain ⟨bB, hbB⟩ : ∃ bB, W.heap.size = bB := ⟨_, rfl⟩
  rw [hbB] at HV HBV
  have HBB := hide hbB
  go_enter Try.func50, Try.ntmps50
  go_upto_region 1 with fail
  rw [← hV]
  try rw [hbB]
  clear hV hbB
  obtain ⟨_, _, _, _, _, _, u0, u1, u2, u3, u4, u5⟩ := six HV.out
  go_wp2_with fail
  refine (check_any).mono ?_
  rw [HC.out]
  rintro _ w1 ⟨rfl, bb⟩
  have HV1 := hide (below_box bb HV.out)
  have HBV1 := hide (below_next HBV.out bb (Nat.le_of_lt (box_lt HV.out)))
  clear bb HV HBV u0 u1 u2 u3 u4 u5
  obtain ⟨_, _, _, _, _, _, u0, u1, u2, u3, u4, u5⟩ := six HV1.out
  go_upto_region 5 with (first | (go_at_call 33; refine isreg_any.mono ?_; rw [e1]; rintro _ w1 ⟨rfl, rfl⟩))
  obtain ⟨X, hX⟩ : ∃ X, X = w1.alloc (.cells #[.int .i64 r, .int .i64 la, .int .i64 p, .int .i64 ck, .int .i64 tl, .bool so] 23 (0, 0)) := ⟨_, rfl⟩
  rw [← hX]
  have bX : Below w1.heap.size w1 X := by rw [hX]; exact alloc_below _ _
  obtain ⟨tB, htB⟩ : ∃ tB, w1.heap.size = tB := ⟨_, rfl⟩
  have hn1 : X.heap[tB]? = some (.cells #[.int .i64 r, .int .i64 la, .int .i64 p, .int .i64 ck, .int .i64 tl, .bool so] 23 (0, 0)) := by rw [hX, ← htB]; exact heap_alloc_new w1 _
  have HV2 := hide (below_box bX HV1.out)
  have HBX : Hid (Below bB W X) := hide (below_next HBV1.out bX (Nat.le_of_lt (box_lt HV1.out)))
  try rw [htB]
  clear u0 u1 u2 u3 u4 u5 HBV1 HV1
  obtain ⟨_, _, _, _, _, _, u0, u1, u2, u3, u4, u5⟩ := six HV2.out
  obtain ⟨_, _, _, _, _, _, v0, v1, v2, v3, v4, v5⟩ := six hn1
  clear hX bX hn1 htB
  go_wp2
  go_ret
  exact ⟨by rw [HQ.out]; rfl, by rw [HBB.out]; exact HBX.out⟩

set_option maxRecDepth 100000 in
theorem claim_4 {W : World} {o la ep ck tl : Int} {so : Bool} {r p : Int} (hk : okL ⟨o, la, ep, ck, tl, so⟩) (h1 : 0 ≤ r ∧ r < 2) (h2 : o = r) (h3 : ep ≠ p) :
    Calls Try.prog 50 #[.agg #[.int .i64 o, .int .i64 la, .int .i64 ep, .int .i64 ck, .int .i64 tl, .bool so], .int .i64 r, .int .i64 p] W fun e w' => e = .returned (.int .i64 (claimC ⟨o, la, ep, ck, tl, so⟩ r p)) ∧ Below W.heap.size W w' := by
  have HQ : Hid (claimC ⟨o, la, ep, ck, tl, so⟩ r p = 132) := hide ((if_pos ⟨hk, h1⟩).trans (if_neg (fun h => h3 h.2)))
  have HC : Hid (chkC ⟨o, la, ep, ck, tl, so⟩ = 0) := hide (chk_yes hk)
  have e1 : regC r = true := reg_yes h1
  have d2 : (ep == p) = false := ne_eqL h3
  have d3 : (ep != p) = true := ne_neL h3
  subst h2
  obtain ⟨V, hV⟩ : ∃ V, V = W.alloc (.cells #[.int .i64 o, .int .i64 la, .int .i64 ep, .int .i64 ck, .int .i64 tl, .bool so] 23 (0, 0)) := ⟨_, rfl⟩
  have HV : Hid (V.heap[W.heap.size]? = some (.cells #[.int .i64 o, .int .i64 la, .int .i64 ep, .int .i64 ck, .int .i64 tl, .bool so] 23 (0, 0))) := hide (by rw [hV]; exact heap_alloc_new W _)
  have HBV : Hid (Below W.heap.size W V) := hide (by rw [hV]; exact alloc_below _ _)
  obtain ⟨bB, hbB⟩ : ∃ bB, W.heap.size = bB := ⟨_, rfl⟩
  rw [hbB] at HV HBV
  have HBB := hide hbB
  go_enter Try.func50, Try.ntmps50
  go_upto_region 1 with fail
  rw [← hV]
  try rw [hbB]
  clear hV hbB
  obtain ⟨_, _, _, _, _, _, u0, u1, u2, u3, u4, u5⟩ := six HV.out
  go_wp2_with fail
  refine (check_any).mono ?_
  rw [HC.out]
  rintro _ w1 ⟨rfl, bb⟩
  have HV1 := hide (below_box bb HV.out)
  have HBV1 := hide (below_next HBV.out bb (Nat.le_of_lt (box_lt HV.out)))
  clear bb HV HBV u0 u1 u2 u3 u4 u5
  obtain ⟨_, _, _, _, _, _, u0, u1, u2, u3, u4, u5⟩ := six HV1.out
  go_upto_region 5 with (first | (go_at_call 33; refine isreg_any.mono ?_; rw [e1]; rintro _ w1 ⟨rfl, rfl⟩))
  obtain ⟨X, hX⟩ : ∃ X, X = w1.alloc (.cells #[.int .i64 o, .int .i64 la, .int .i64 p, .int .i64 ck, .int .i64 tl, .bool so] 23 (0, 0)) := ⟨_, rfl⟩
  rw [← hX]
  have bX : Below w1.heap.size w1 X := by rw [hX]; exact alloc_below _ _
  obtain ⟨tB, htB⟩ : ∃ tB, w1.heap.size = tB := ⟨_, rfl⟩
  have hn1 : X.heap[tB]? = some (.cells #[.int .i64 o, .int .i64 la, .int .i64 p, .int .i64 ck, .int .i64 tl, .bool so] 23 (0, 0)) := by rw [hX, ← htB]; exact heap_alloc_new w1 _
  have HV2 := hide (below_box bX HV1.out)
  have HBX : Hid (Below bB W X) := hide (below_next HBV1.out bX (Nat.le_of_lt (box_lt HV1.out)))
  try rw [htB]
  clear u0 u1 u2 u3 u4 u5 HBV1 HV1
  obtain ⟨_, _, _, _, _, _, u0, u1, u2, u3, u4, u5⟩ := six HV2.out
  obtain ⟨_, _, _, _, _, _, v0, v1, v2, v3, v4, v5⟩ := six hn1
  clear hX bX hn1 htB
  go_wp2
  go_ret
  exact ⟨by rw [HQ.out]; rfl, by rw [HBB.out]; exact HBX.out⟩

set_option maxRecDepth 100000 in
theorem claim_5 {W : World} {o la ep ck tl : Int} {so : Bool} {r p : Int} (hk : okL ⟨o, la, ep, ck, tl, so⟩) (h1 : 0 ≤ r ∧ r < 2) (h2 : o = r) (h3 : ep = p) :
    Calls Try.prog 50 #[.agg #[.int .i64 o, .int .i64 la, .int .i64 ep, .int .i64 ck, .int .i64 tl, .bool so], .int .i64 r, .int .i64 p] W fun e w' => e = .returned (.int .i64 (claimC ⟨o, la, ep, ck, tl, so⟩ r p)) ∧ Below W.heap.size W w' := by
  have HQ : Hid (claimC ⟨o, la, ep, ck, tl, so⟩ r p = 0) := hide ((if_pos ⟨hk, h1⟩).trans (if_pos ⟨h2, h3⟩))
  have HC : Hid (chkC ⟨o, la, ep, ck, tl, so⟩ = 0) := hide (chk_yes hk)
  have e1 : regC r = true := reg_yes h1
  subst h2
  subst h3
  obtain ⟨V, hV⟩ : ∃ V, V = W.alloc (.cells #[.int .i64 o, .int .i64 la, .int .i64 ep, .int .i64 ck, .int .i64 tl, .bool so] 23 (0, 0)) := ⟨_, rfl⟩
  have HV : Hid (V.heap[W.heap.size]? = some (.cells #[.int .i64 o, .int .i64 la, .int .i64 ep, .int .i64 ck, .int .i64 tl, .bool so] 23 (0, 0))) := hide (by rw [hV]; exact heap_alloc_new W _)
  have HBV : Hid (Below W.heap.size W V) := hide (by rw [hV]; exact alloc_below _ _)
  obtain ⟨bB, hbB⟩ : ∃ bB, W.heap.size = bB := ⟨_, rfl⟩
  rw [hbB] at HV HBV
  have HBB := hide hbB
  go_enter Try.func50, Try.ntmps50
  go_upto_region 1 with fail
  rw [← hV]
  try rw [hbB]
  clear hV hbB
  obtain ⟨_, _, _, _, _, _, u0, u1, u2, u3, u4, u5⟩ := six HV.out
  go_wp2_with fail
  refine (check_any).mono ?_
  rw [HC.out]
  rintro _ w1 ⟨rfl, bb⟩
  have HV1 := hide (below_box bb HV.out)
  have HBV1 := hide (below_next HBV.out bb (Nat.le_of_lt (box_lt HV.out)))
  clear bb HV HBV u0 u1 u2 u3 u4 u5
  obtain ⟨_, _, _, _, _, _, u0, u1, u2, u3, u4, u5⟩ := six HV1.out
  go_upto_region 5 with (first | (go_at_call 33; refine isreg_any.mono ?_; rw [e1]; rintro _ w1 ⟨rfl, rfl⟩))
  obtain ⟨X, hX⟩ : ∃ X, X = w1.alloc (.cells #[.int .i64 o, .int .i64 la, .int .i64 ep, .int .i64 ck, .int .i64 tl, .bool so] 23 (0, 0)) := ⟨_, rfl⟩
  rw [← hX]
  have bX : Below w1.heap.size w1 X := by rw [hX]; exact alloc_below _ _
  obtain ⟨tB, htB⟩ : ∃ tB, w1.heap.size = tB := ⟨_, rfl⟩
  have hn1 : X.heap[tB]? = some (.cells #[.int .i64 o, .int .i64 la, .int .i64 ep, .int .i64 ck, .int .i64 tl, .bool so] 23 (0, 0)) := by rw [hX, ← htB]; exact heap_alloc_new w1 _
  have HV2 := hide (below_box bX HV1.out)
  have HBX : Hid (Below bB W X) := hide (below_next HBV1.out bX (Nat.le_of_lt (box_lt HV1.out)))
  try rw [htB]
  clear u0 u1 u2 u3 u4 u5 HBV1 HV1
  obtain ⟨_, _, _, _, _, _, u0, u1, u2, u3, u4, u5⟩ := six HV2.out
  obtain ⟨_, _, _, _, _, _, v0, v1, v2, v3, v4, v5⟩ := six hn1
  clear hX bX hn1 htB
  go_wp2
  go_ret
  exact ⟨by rw [HQ.out]; rfl, by rw [HBB.out]; exact HBX.out⟩

theorem claim_any {W : World} {o la ep ck tl : Int} {so : Bool} {r p : Int} : Calls Try.prog 50 #[.agg #[.int .i64 o, .int .i64 la, .int .i64 ep, .int .i64 ck, .int .i64 tl, .bool so], .int .i64 r, .int .i64 p] W fun e w' => e = .returned (.int .i64 (claimC ⟨o, la, ep, ck, tl, so⟩ r p)) ∧ Below W.heap.size W w' := by
  by_cases hk : okL ⟨o, la, ep, ck, tl, so⟩
  · by_cases h1 : 0 ≤ r ∧ r < 2
    · by_cases h2 : o = r
      · by_cases h3 : ep = p
        · exact claim_5 hk h1 h2 h3
        · exact claim_4 hk h1 h2 h3
      · exact claim_3 hk h1 h2
    · exact claim_2 hk h1
  · exact claim_1 hk
set_option maxRecDepth 100000 in
theorem held_1 {W : World} {o la ep ck tl : Int} {so : Bool}  (hk : ¬ okL ⟨o, la, ep, ck, tl, so⟩) :
    Calls Try.prog 10 #[.agg #[.int .i64 o, .int .i64 la, .int .i64 ep, .int .i64 ck, .int .i64 tl, .bool so]] W fun e w' => e = .returned (.bool (heldC ⟨o, la, ep, ck, tl, so⟩)) ∧ Below W.heap.size W w' := by
  have HQ : Hid (heldC ⟨o, la, ep, ck, tl, so⟩ = false) := hide (by unfold heldC; refine decide_eq_false (fun h => ?_); obtain ⟨k1, k2, k3⟩ := h; first | exact hk k1 | exact k2 h1 | exact absurd k3 h2)
  have HC : Hid (chkC ⟨o, la, ep, ck, tl, so⟩ = 1) := hide (chk_no hk)
  obtain ⟨V, hV⟩ : ∃ V, V = W.alloc (.cells #[.int .i64 o, .int .i64 la, .int .i64 ep, .int .i64 ck, .int .i64 tl, .bool so] 23 (0, 0)) := ⟨_, rfl⟩
  have HV : Hid (V.heap[W.heap.size]? = some (.cells #[.int .i64 o, .int .i64 la, .int .i64 ep, .int .i64 ck, .int .i64 tl, .bool so] 23 (0, 0))) := hide (by rw [hV]; exact heap_alloc_new W _)
  have HBV : Hid (Below W.heap.size W V) := hide (by rw [hV]; exact alloc_below _ _)
  obtain ⟨bB, hbB⟩ : ∃ bB, W.heap.size = bB := ⟨_, rfl⟩
  rw [hbB] at HV HBV
  have HBB := hide hbB
  go_enter Try.func10, Try.ntmps10
  go_upto_region 1 with fail
  rw [← hV]
  try rw [hbB]
  clear hV hbB
  obtain ⟨_, _, _, _, _, _, u0, u1, u2, u3, u4, u5⟩ := six HV.out
  go_wp2_with fail
  refine (check_any).mono ?_
  rw [HC.out]
  rintro _ w1 ⟨rfl, bb⟩
  have HV1 := hide (below_box bb HV.out)
  have HBV1 := hide (below_next HBV.out bb (Nat.le_of_lt (box_lt HV.out)))
  clear bb HV HBV u0 u1 u2 u3 u4 u5
  obtain ⟨_, _, _, _, _, _, u0, u1, u2, u3, u4, u5⟩ := six HV1.out
  go_wp2
  go_ret
  exact ⟨by first | rw [HQ.out]; rfl | rfl, by rw [HBB.out]; exact HBV1.out⟩

set_option maxRecDepth 100000 in
theorem held_2 {W : World} {o la ep ck tl : Int} {so : Bool}  (hk : okL ⟨o, la, ep, ck, tl, so⟩) (h1 : o = -1) :
    Calls Try.prog 10 #[.agg #[.int .i64 o, .int .i64 la, .int .i64 ep, .int .i64 ck, .int .i64 tl, .bool so]] W fun e w' => e = .returned (.bool (heldC ⟨o, la, ep, ck, tl, so⟩)) ∧ Below W.heap.size W w' := by
  have HQ : Hid (heldC ⟨o, la, ep, ck, tl, so⟩ = false) := hide (by unfold heldC; refine decide_eq_false (fun h => ?_); obtain ⟨k1, k2, k3⟩ := h; first | exact hk k1 | exact k2 h1 | exact absurd k3 h2)
  have HC : Hid (chkC ⟨o, la, ep, ck, tl, so⟩ = 0) := hide (chk_yes hk)
  subst h1
  obtain ⟨V, hV⟩ : ∃ V, V = W.alloc (.cells #[.int .i64 (-1), .int .i64 la, .int .i64 ep, .int .i64 ck, .int .i64 tl, .bool so] 23 (0, 0)) := ⟨_, rfl⟩
  have HV : Hid (V.heap[W.heap.size]? = some (.cells #[.int .i64 (-1), .int .i64 la, .int .i64 ep, .int .i64 ck, .int .i64 tl, .bool so] 23 (0, 0))) := hide (by rw [hV]; exact heap_alloc_new W _)
  have HBV : Hid (Below W.heap.size W V) := hide (by rw [hV]; exact alloc_below _ _)
  obtain ⟨bB, hbB⟩ : ∃ bB, W.heap.size = bB := ⟨_, rfl⟩
  rw [hbB] at HV HBV
  have HBB := hide hbB
  go_enter Try.func10, Try.ntmps10
  go_upto_region 1 with fail
  rw [← hV]
  try rw [hbB]
  clear hV hbB
  obtain ⟨_, _, _, _, _, _, u0, u1, u2, u3, u4, u5⟩ := six HV.out
  go_wp2_with fail
  refine (check_any).mono ?_
  rw [HC.out]
  rintro _ w1 ⟨rfl, bb⟩
  have HV1 := hide (below_box bb HV.out)
  have HBV1 := hide (below_next HBV.out bb (Nat.le_of_lt (box_lt HV.out)))
  clear bb HV HBV u0 u1 u2 u3 u4 u5
  obtain ⟨_, _, _, _, _, _, u0, u1, u2, u3, u4, u5⟩ := six HV1.out
  go_wp2
  go_ret
  exact ⟨by first | rw [HQ.out]; rfl | rfl, by rw [HBB.out]; exact HBV1.out⟩

set_option maxRecDepth 100000 in
theorem held_3 {W : World} {o la ep ck tl : Int} {so : Bool}  (hk : okL ⟨o, la, ep, ck, tl, so⟩) (h1 : o ≠ -1) (h2 : ¬ ck < tl) :
    Calls Try.prog 10 #[.agg #[.int .i64 o, .int .i64 la, .int .i64 ep, .int .i64 ck, .int .i64 tl, .bool so]] W fun e w' => e = .returned (.bool (heldC ⟨o, la, ep, ck, tl, so⟩)) ∧ Below W.heap.size W w' := by
  have HQ : Hid (heldC ⟨o, la, ep, ck, tl, so⟩ = false) := hide (by unfold heldC; refine decide_eq_false (fun h => ?_); obtain ⟨k1, k2, k3⟩ := h; first | exact hk k1 | exact k2 h1 | exact absurd k3 h2)
  have HC : Hid (chkC ⟨o, la, ep, ck, tl, so⟩ = 0) := hide (chk_yes hk)
  have d1 : (o == -1) = false := ne_eqL h1
  have d1n : (o != -1) = true := ne_neL h1
  have d2 : decide (tl > ck) = false := decide_eq_false h2
  obtain ⟨V, hV⟩ : ∃ V, V = W.alloc (.cells #[.int .i64 o, .int .i64 la, .int .i64 ep, .int .i64 ck, .int .i64 tl, .bool so] 23 (0, 0)) := ⟨_, rfl⟩
  have HV : Hid (V.heap[W.heap.size]? = some (.cells #[.int .i64 o, .int .i64 la, .int .i64 ep, .int .i64 ck, .int .i64 tl, .bool so] 23 (0, 0))) := hide (by rw [hV]; exact heap_alloc_new W _)
  have HBV : Hid (Below W.heap.size W V) := hide (by rw [hV]; exact alloc_below _ _)
  obtain ⟨bB, hbB⟩ : ∃ bB, W.heap.size = bB := ⟨_, rfl⟩
  rw [hbB] at HV HBV
  have HBB := hide hbB
  go_enter Try.func10, Try.ntmps10
  go_upto_region 1 with fail
  rw [← hV]
  try rw [hbB]
  clear hV hbB
  obtain ⟨_, _, _, _, _, _, u0, u1, u2, u3, u4, u5⟩ := six HV.out
  go_wp2_with fail
  refine (check_any).mono ?_
  rw [HC.out]
  rintro _ w1 ⟨rfl, bb⟩
  have HV1 := hide (below_box bb HV.out)
  have HBV1 := hide (below_next HBV.out bb (Nat.le_of_lt (box_lt HV.out)))
  clear bb HV HBV u0 u1 u2 u3 u4 u5
  obtain ⟨_, _, _, _, _, _, u0, u1, u2, u3, u4, u5⟩ := six HV1.out
  go_wp2
  go_ret
  exact ⟨by first | rw [HQ.out]; rfl | rfl, by rw [HBB.out]; exact HBV1.out⟩

set_option maxRecDepth 100000 in
theorem held_4 {W : World} {o la ep ck tl : Int} {so : Bool}  (hk : okL ⟨o, la, ep, ck, tl, so⟩) (h1 : o ≠ -1) (h2 : ck < tl) :
    Calls Try.prog 10 #[.agg #[.int .i64 o, .int .i64 la, .int .i64 ep, .int .i64 ck, .int .i64 tl, .bool so]] W fun e w' => e = .returned (.bool (heldC ⟨o, la, ep, ck, tl, so⟩)) ∧ Below W.heap.size W w' := by
  have HQ : Hid (heldC ⟨o, la, ep, ck, tl, so⟩ = true) := hide (by unfold heldC; exact decide_eq_true ⟨hk, h1, h2⟩)
  have HC : Hid (chkC ⟨o, la, ep, ck, tl, so⟩ = 0) := hide (chk_yes hk)
  have d1 : (o == -1) = false := ne_eqL h1
  have d1n : (o != -1) = true := ne_neL h1
  have d2 : decide (tl > ck) = true := decide_eq_true h2
  obtain ⟨V, hV⟩ : ∃ V, V = W.alloc (.cells #[.int .i64 o, .int .i64 la, .int .i64 ep, .int .i64 ck, .int .i64 tl, .bool so] 23 (0, 0)) := ⟨_, rfl⟩
  have HV : Hid (V.heap[W.heap.size]? = some (.cells #[.int .i64 o, .int .i64 la, .int .i64 ep, .int .i64 ck, .int .i64 tl, .bool so] 23 (0, 0))) := hide (by rw [hV]; exact heap_alloc_new W _)
  have HBV : Hid (Below W.heap.size W V) := hide (by rw [hV]; exact alloc_below _ _)
  obtain ⟨bB, hbB⟩ : ∃ bB, W.heap.size = bB := ⟨_, rfl⟩
  rw [hbB] at HV HBV
  have HBB := hide hbB
  go_enter Try.func10, Try.ntmps10
  go_upto_region 1 with fail
  rw [← hV]
  try rw [hbB]
  clear hV hbB
  obtain ⟨_, _, _, _, _, _, u0, u1, u2, u3, u4, u5⟩ := six HV.out
  go_wp2_with fail
  refine (check_any).mono ?_
  rw [HC.out]
  rintro _ w1 ⟨rfl, bb⟩
  have HV1 := hide (below_box bb HV.out)
  have HBV1 := hide (below_next HBV.out bb (Nat.le_of_lt (box_lt HV.out)))
  clear bb HV HBV u0 u1 u2 u3 u4 u5
  obtain ⟨_, _, _, _, _, _, u0, u1, u2, u3, u4, u5⟩ := six HV1.out
  go_wp2
  go_ret
  exact ⟨by first | rw [HQ.out]; rfl | rfl, by rw [HBB.out]; exact HBV1.out⟩

theorem held_any {W : World} {o la ep ck tl : Int} {so : Bool} : Calls Try.prog 10 #[.agg #[.int .i64 o, .int .i64 la, .int .i64 ep, .int .i64 ck, .int .i64 tl, .bool so]] W fun e w' => e = .returned (.bool (heldC ⟨o, la, ep, ck, tl, so⟩)) ∧ Below W.heap.size W w' := by
  by_cases hk : okL ⟨o, la, ep, ck, tl, so⟩
  · by_cases h1 : o = -1
    · exact held_2 hk h1
    · by_cases h2 : ck < tl
      · exact held_4 hk h1 h2
      · exact held_3 hk h1 h2
  · exact held_1 hk
set_option maxRecDepth 100000 in
theorem tick_1 {W : World} {o la ep ck tl : Int} {so : Bool} {n : Int} (hk : ¬ okL ⟨o, la, ep, ck, tl, so⟩) :
    Calls Try.prog 22 #[.agg #[.int .i64 o, .int .i64 la, .int .i64 ep, .int .i64 ck, .int .i64 tl, .bool so], .int .i64 n] W fun e w' => e = .returned (LE.val (tickC ⟨o, la, ep, ck, tl, so⟩ n)) ∧ Below W.heap.size W w' := by
  have HQ : Hid (tickC ⟨o, la, ep, ck, tl, so⟩ n = ⟨o, la, ep, ck, tl, so⟩) := hide (if_neg hk)
  have HC : Hid (chkC ⟨o, la, ep, ck, tl, so⟩ = 1) := hide (chk_no hk)
  obtain ⟨V0, hV0⟩ : ∃ V0, V0 = W.alloc (.cells #[.int .i64 o, .int .i64 la, .int .i64 ep, .int .i64 ck, .int .i64 tl, .bool so] 23 (0, 0)) := ⟨_, rfl⟩
  obtain ⟨V, hV⟩ : ∃ V, V = V0.alloc (.cells #[.int .i64 0, .int .i64 0, .int .i64 0, .int .i64 0, .int .i64 0, .bool false] 23 (0, 0)) := ⟨_, rfl⟩
  have bV0 : Below W.heap.size W V0 := by rw [hV0]; exact alloc_below _ _
  have bV1 : Below V0.heap.size V0 V := by rw [hV]; exact alloc_below _ _
  have v0 : V0.heap[W.heap.size]? = some (.cells #[.int .i64 o, .int .i64 la, .int .i64 ep, .int .i64 ck, .int .i64 tl, .bool so] 23 (0, 0)) := by rw [hV0]; exact heap_alloc_new W _
  have v1 : V.heap[V0.heap.size]? = some (.cells #[.int .i64 0, .int .i64 0, .int .i64 0, .int .i64 0, .int .i64 0, .bool false] 23 (0, 0)) := by rw [hV]; exact heap_alloc_new V0 _
  have v2 := below_box bV1 v0
  have hlt := box_lt v0
  have hs0 : V0.heap.size = W.heap.size + 1 := by rw [hV0]; simp
  obtain ⟨bB, hbB⟩ : ∃ bB, W.heap.size = bB := ⟨_, rfl⟩
  obtain ⟨rB, hrB⟩ : ∃ rB, V0.heap.size = rB := ⟨_, rfl⟩
  have hrb : bB + 1 = rB := by omega
  rw [hbB, hrB] at hlt
  rw [hbB] at v2
  rw [hrB] at v1
  have HBW0 : Hid (Below bB W V) := hide (by rw [← hbB]; exact below_next bV0 bV1 bV0.size)
  have HBX0 := hide v2
  have HRS0 := hide v1
  have HBB := hide hbB
  have HLT := hide hlt
  have HSZ0 := hide (box_lt v1)
  clear v0 v1 v2 bV0 bV1
  go_enter Try.func22, Try.ntmps22
  go_upto_region 1 with fail
  try rw [hbB]
  try rw [hrb]
  rw [← hV0, ← hV]
  try rw [hrB]
  clear hV0 hV hbB hrB hs0 hrb hlt
  obtain ⟨_, _, _, _, _, _, u0, u1, u2, u3, u4, u5⟩ := six HBX0.out
  go_wp2_with fail
  refine (check_any).mono ?_
  rw [HC.out]
  rintro _ w1 ⟨rfl, b1⟩
  have HBX1 := hide (below_box b1 HBX0.out)
  have HRS1 := hide (below_box b1 HRS0.out)
  have HBW1 := hide (below_next HBW0.out b1 (by have := HLT.out; have := HSZ0.out; omega))
  have HSZ1 := hide (box_lt HRS1.out)
  clear b1 HBX0 HRS0 HBW0 HSZ0 u0 u1 u2 u3 u4 u5
  obtain ⟨_, _, _, _, _, _, u0, u1, u2, u3, u4, u5⟩ := six HBX1.out
  obtain ⟨f0, f1, f2, f3, f4, f5, r0, r1, r2, r3, r4, r5⟩ := six HRS1.out
  go_wp2
  have hE := heap_set6 HRS1.out (.int .i64 o) (.int .i64 la) (.int .i64 ep) (.int .i64 ck) (.int .i64 tl) (.bool so)
  refine bodyPost_ret (results_cell_row rfl _ _ rB 23 _ _ _ rfl hE Try.underlying23 rfl (by kernel_rfl)) rfl ?_
  refine ⟨by rw [HQ.out]; rfl, ?_⟩
  rw [HBB.out]
  exact HBW1.out.trans ((only_set6 _ rB _ _ _ _ _ _).below (by have := HLT.out; have := HSZ1.out; omega) (fun i e => by have e' : i = rB := e; have := HLT.out; omega))

set_option maxRecDepth 100000 in
theorem tick_2 {W : World} {o la ep ck tl : Int} {so : Bool} {n : Int} (hk : okL ⟨o, la, ep, ck, tl, so⟩) :
    Calls Try.prog 22 #[.agg #[.int .i64 o, .int .i64 la, .int .i64 ep, .int .i64 ck, .int .i64 tl, .bool so], .int .i64 n] W fun e w' => e = .returned (LE.val (tickC ⟨o, la, ep, ck, tl, so⟩ n)) ∧ Below W.heap.size W w' := by
  have HQ : Hid (tickC ⟨o, la, ep, ck, tl, so⟩ n = ⟨o, la, ep, laterC ck n, tl, so⟩) := hide (if_pos hk)
  have HC : Hid (chkC ⟨o, la, ep, ck, tl, so⟩ = 0) := hide (chk_yes hk)
  have HK : Hid (0 ≤ ck ∧ ck ≤ 9007199254740992) := hide (by have := hk; unfold okL at this; simp only at this; omega)
  obtain ⟨lc, hlc⟩ : ∃ lc, laterC ck n = lc := ⟨_, rfl⟩
  rw [hlc] at HQ
  have HLC := hide hlc
  clear hlc
  obtain ⟨V0, hV0⟩ : ∃ V0, V0 = W.alloc (.cells #[.int .i64 o, .int .i64 la, .int .i64 ep, .int .i64 ck, .int .i64 tl, .bool so] 23 (0, 0)) := ⟨_, rfl⟩
  obtain ⟨V, hV⟩ : ∃ V, V = V0.alloc (.cells #[.int .i64 0, .int .i64 0, .int .i64 0, .int .i64 0, .int .i64 0, .bool false] 23 (0, 0)) := ⟨_, rfl⟩
  have bV0 : Below W.heap.size W V0 := by rw [hV0]; exact alloc_below _ _
  have bV1 : Below V0.heap.size V0 V := by rw [hV]; exact alloc_below _ _
  have v0 : V0.heap[W.heap.size]? = some (.cells #[.int .i64 o, .int .i64 la, .int .i64 ep, .int .i64 ck, .int .i64 tl, .bool so] 23 (0, 0)) := by rw [hV0]; exact heap_alloc_new W _
  have v1 : V.heap[V0.heap.size]? = some (.cells #[.int .i64 0, .int .i64 0, .int .i64 0, .int .i64 0, .int .i64 0, .bool false] 23 (0, 0)) := by rw [hV]; exact heap_alloc_new V0 _
  have v2 := below_box bV1 v0
  have hlt := box_lt v0
  have hs0 : V0.heap.size = W.heap.size + 1 := by rw [hV0]; simp
  obtain ⟨bB, hbB⟩ : ∃ bB, W.heap.size = bB := ⟨_, rfl⟩
  obtain ⟨rB, hrB⟩ : ∃ rB, V0.heap.size = rB := ⟨_, rfl⟩
  have hrb : bB + 1 = rB := by omega
  rw [hbB, hrB] at hlt
  rw [hbB] at v2
  rw [hrB] at v1
  have HBW0 : Hid (Below bB W V) := hide (by rw [← hbB]; exact below_next bV0 bV1 bV0.size)
  have HBX0 := hide v2
  have HRS0 := hide v1
  have HBB := hide hbB
  have HLT := hide hlt
  have HSZ0 := hide (box_lt v1)
  clear v0 v1 v2 bV0 bV1
  go_enter Try.func22, Try.ntmps22
  go_upto_region 1 with fail
  try rw [hbB]
  try rw [hrb]
  rw [← hV0, ← hV]
  try rw [hrB]
  clear hV0 hV hbB hrB hs0 hrb hlt
  obtain ⟨_, _, _, _, _, _, u0, u1, u2, u3, u4, u5⟩ := six HBX0.out
  go_wp2_with fail
  refine (check_any).mono ?_
  rw [HC.out]
  rintro _ w1 ⟨rfl, b1⟩
  have HBX1 := hide (below_box b1 HBX0.out)
  have HRS1 := hide (below_box b1 HRS0.out)
  have HBW1 := hide (below_next HBW0.out b1 (by have := HLT.out; have := HSZ0.out; omega))
  have HSZ1 := hide (box_lt HRS1.out)
  clear b1 HBX0 HRS0 HBW0 HSZ0 u0 u1 u2 u3 u4 u5
  obtain ⟨_, _, _, _, _, _, u0, u1, u2, u3, u4, u5⟩ := six HBX1.out
  have hfz := (six HBX1.out).f3
  go_upto_region 3 with ((go_at_call 49; refine (later_any HK.out.1 HK.out.2).mono ?_; rw [HLC.out]; rintro _ w1 ⟨rfl, rfl⟩))
  obtain ⟨X, hX⟩ : ∃ X, X = (w1.setCell ⟨bB, 3, none⟩ (.int .i64 lc)) := ⟨_, rfl⟩
  have oX : Only (· = bB) w1 X := by rw [hX]; exact (Only.set (F := (· = bB)) _ bB 3 (.int .i64 lc) rfl)
  have HBX2 : Hid (X.heap[bB]? = some (.cells #[.int .i64 o, .int .i64 la, .int .i64 ep, .int .i64 lc, .int .i64 tl, .bool so] 23 (0, 0))) := hide (by rw [hX]; exact (heap_set_sameL HBX1.out 3 (.int .i64 lc)))
  have HRS2 := hide (oX.obj HRS1.out (fun e => by have e' : rB = bB := e; have := HLT.out; omega))
  have HBW2 := hide (HBW1.out.trans (oX.below (by have := HLT.out; have := HSZ1.out; omega) (fun i e => by have e' : i = bB := e; omega)))
  have HSZ2 := hide (box_lt HRS2.out)
  rw [← hX]
  clear hX oX HBX1 HRS1 HBW1 HSZ1 u0 u1 u2 u3 u4 u5
  obtain ⟨_, _, _, _, _, _, u0, u1, u2, u3, u4, u5⟩ := six HBX2.out
  obtain ⟨f0, f1, f2, f3, f4, f5, r0, r1, r2, r3, r4, r5⟩ := six HRS2.out
  go_wp2
  have hE := heap_set6 HRS2.out (.int .i64 o) (.int .i64 la) (.int .i64 ep) (.int .i64 lc) (.int .i64 tl) (.bool so)
  refine bodyPost_ret (results_cell_row rfl _ _ rB 23 _ _ _ rfl hE Try.underlying23 rfl (by kernel_rfl)) rfl ?_
  refine ⟨by rw [HQ.out]; rfl, ?_⟩
  rw [HBB.out]
  exact HBW2.out.trans ((only_set6 _ rB _ _ _ _ _ _).below (by have := HLT.out; have := HSZ2.out; omega) (fun i e => by have e' : i = rB := e; have := HLT.out; omega))

theorem tick_any {W : World} {o la ep ck tl : Int} {so : Bool} {n : Int} : Calls Try.prog 22 #[.agg #[.int .i64 o, .int .i64 la, .int .i64 ep, .int .i64 ck, .int .i64 tl, .bool so], .int .i64 n] W fun e w' => e = .returned (LE.val (tickC ⟨o, la, ep, ck, tl, so⟩ n)) ∧ Below W.heap.size W w' := by
  by_cases hk : okL ⟨o, la, ep, ck, tl, so⟩
  · exact tick_2 hk
  · exact tick_1 hk
end Go.Proofs.Ythlkhjpobiohmaa
