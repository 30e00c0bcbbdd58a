/-
 Which transactions are the same: same of the program, SameTxn of the reference. The conditions: that their lists lie there.
-/
import Derived.Test.YtboofnkajjnmeaaSkc
namespace Go.Proofs.Ytboofnkajjnmeaa
open Go.RowKit

set_option maxRecDepth 100000 in
set_option maxHeartbeats 8000000 in
theorem rsametxn_all {W : World} {e1 i1 g1 e2 i2 g2 : Int} {rp1 vp1 rp2 vp2 : Option Addr} {rn1 rc1 vn1 vc1 rn2 rc2 vn2 vc2 : Nat} {rs1 rs2 : List RC} {vs1 vs2 : List Int} (hr1 : RRow W rp1 rc1 rs1) (hv1 : NRow W vp1 vc1 vs1) (hr2 : RRow W rp2 rc2 rs2) (hv2 : NRow W vp2 vc2 vs2) (hrn1 : rs1.length = rn1) (hvn1 : vs1.length = vn1) (hrn2 : rs2.length = rn2) (hvn2 : vs2.length = vn2) {rb : Bool} (hrb : decide ((⟨e1, i1, g1, rs1, vs1⟩ : TX) = ⟨e2, i2, g2, rs2, vs2⟩) = rb) :
  Calls Try.prog 32 #[.agg #[.int .i64 e1, .int .i64 i1, .int .i64 g1, .slice rp1 rn1 rc1, .slice vp1 vn1 vc1], .agg #[.int .i64 e2, .int .i64 i2, .int .i64 g2, .slice rp2 rn2 rc2, .slice vp2 vn2 vc2]] W fun e w' => e = .returned (.bool rb) ∧ Below W.heap.size W w' := by
 ·
  by_cases c0 : e1 = e2
  ·
   by_cases c1 : i1 = i2
   ·
    by_cases c2 : g1 = g2
    ·
     by_cases c3 : rs1 = rs2
     ·
      by_cases c4 : vs1 = vs2
      ·
       have HR : Hid (rb = true) := hide (by
         rw [← hrb]
         exact decide_eq_true (by rw [c0, c1, c2, c3, c4]))
       obtain rfl := c0
       obtain rfl := c1
       obtain rfl := c2
       have C3 := hide c3; have C4 := hide c4; clear hrb c3 c4; have HR1 := hide hr1; have HV1 := hide hv1; have HR2 := hide hr2; have HV2 := hide hv2; have HRN1 := hide hrn1; have HVN1 := hide hvn1; have HRN2 := hide hrn2; have HVN2 := hide hvn2; clear hr1 hv1 hr2 hv2 hrn1 hvn1 hrn2 hvn2
       obtain ⟨V, hV⟩ : ∃ V, V = W.alloc (.cells #[.int .i64 e1, .int .i64 i1, .int .i64 g1, .slice rp1 rn1 rc1, .slice vp1 vn1 vc1] 34 (0, 0)) := ⟨_, rfl⟩
       have HV : Hid (V.heap[W.heap.size]? = some (.cells #[.int .i64 e1, .int .i64 i1, .int .i64 g1, .slice rp1 rn1 rc1, .slice vp1 vn1 vc1] 34 (0, 0))) := hide (by rw [hV]; exact heap_alloc_new W _)
       have HBV : Hid (Below W.heap.size W V) := hide (by rw [hV]; exact alloc_below _ _)
       obtain ⟨bB, hbB⟩ : ∃ bB, W.heap.size = bB := ⟨_, rfl⟩
       rw [hbB] at HV HBV
       have HZbB := hide hbB
       obtain ⟨X, hX⟩ : ∃ X, X = V.alloc (.cells #[.int .i64 e1, .int .i64 i1, .int .i64 g1, .slice rp2 rn2 rc2, .slice vp2 vn2 vc2] 34 (0, 0)) := ⟨_, rfl⟩
       have HX : Hid (X.heap[V.heap.size]? = some (.cells #[.int .i64 e1, .int .i64 i1, .int .i64 g1, .slice rp2 rn2 rc2, .slice vp2 vn2 vc2] 34 (0, 0))) := hide (by rw [hX]; exact heap_alloc_new V _)
       have HBX : Hid (Below V.heap.size V X) := hide (by rw [hX]; exact alloc_below _ _)
       obtain ⟨cB, hcB⟩ : ∃ cB, V.heap.size = cB := ⟨_, rfl⟩
       rw [hcB] at HX HBX
       have HZcB := hide hcB
       have HA2 := hide (below_box (show Below V.heap.size V X by rw [hX]; exact alloc_below _ _) HV.out)
       have HBW : Hid (Below W.heap.size W X) := hide (by rw [hX, hV]; exact (alloc_below _ _).trans ((alloc_below _ _).mono (by simp)))
       have hs0 : V.heap.size = bB + 1 := by rw [hV, ← hbB]; simp
       have hrb : bB + 1 = cB := by omega
       clear HV HBV HBX
       go_enter Try.func32, Try.ntmps32
       go_upto_region 1 with fail
       try rw [hbB]
       try rw [hrb]
       rw [← hV, ← hX]
       try rw [hcB]
       clear hV hX hbB hcB hs0 hrb; have u0 := cellB HA2.out (i := 0) rfl; have u1 := cellB HA2.out (i := 1) rfl; have u2 := cellB HA2.out (i := 2) rfl; have u3 := cellB HA2.out (i := 3) rfl; have u4 := cellB HA2.out (i := 4) rfl; have v0 := cellB HX.out (i := 0) rfl; have v1 := cellB HX.out (i := 1) rfl; have v2 := cellB HX.out (i := 2) rfl; have v3 := cellB HX.out (i := 3) rfl; have v4 := cellB HX.out (i := 4) rfl
       go_wp2_with fail
       refine (samerec_all (RRow.later HR1.out HBW.out) (RRow.later HR2.out HBW.out) HRN1.out HRN2.out (decide_eq_true C3.out)).mono ?_
       rintro _ w1 ⟨rfl, b1⟩
       have HBW1 := hide (below_next HBW.out b1 HBW.out.size); have HA3 := hide (below_box b1 HA2.out); have HX3 := hide (below_box b1 HX.out); clear b1 u0 v0 u1 v1 u2 v2 u3 v3 u4 v4; have u0 := cellB HA3.out (i := 0) rfl; have u1 := cellB HA3.out (i := 1) rfl; have u2 := cellB HA3.out (i := 2) rfl; have u3 := cellB HA3.out (i := 3) rfl; have u4 := cellB HA3.out (i := 4) rfl; have v0 := cellB HX3.out (i := 0) rfl; have v1 := cellB HX3.out (i := 1) rfl; have v2 := cellB HX3.out (i := 2) rfl; have v3 := cellB HX3.out (i := 3) rfl; have v4 := cellB HX3.out (i := 4) rfl
       go_wp2_with fail
       refine (sameint_all (NRow.later HV1.out HBW1.out) (NRow.later HV2.out HBW1.out) HVN1.out HVN2.out (decide_eq_true C4.out)).mono ?_
       rintro _ w2 ⟨rfl, b2⟩
       have HBE := hide (below_next HBW1.out b2 HBW1.out.size); clear b2; go_wp2; go_ret
       exact ⟨by rw [HR.out]; rfl, HBE.out⟩
      ·
       have HR : Hid (rb = false) := hide (by
         rw [← hrb]
         exact decide_eq_false (fun h => c4 (by simp only [TX.mk.injEq] at h; exact h.2.2.2.2)))
       obtain rfl := c0
       obtain rfl := c1
       obtain rfl := c2
       have C3 := hide c3; have C4 := hide c4; clear hrb c3 c4; have HR1 := hide hr1; have HV1 := hide hv1; have HR2 := hide hr2; have HV2 := hide hv2; have HRN1 := hide hrn1; have HVN1 := hide hvn1; have HRN2 := hide hrn2; have HVN2 := hide hvn2; clear hr1 hv1 hr2 hv2 hrn1 hvn1 hrn2 hvn2
       obtain ⟨V, hV⟩ : ∃ V, V = W.alloc (.cells #[.int .i64 e1, .int .i64 i1, .int .i64 g1, .slice rp1 rn1 rc1, .slice vp1 vn1 vc1] 34 (0, 0)) := ⟨_, rfl⟩
       have HV : Hid (V.heap[W.heap.size]? = some (.cells #[.int .i64 e1, .int .i64 i1, .int .i64 g1, .slice rp1 rn1 rc1, .slice vp1 vn1 vc1] 34 (0, 0))) := hide (by rw [hV]; exact heap_alloc_new W _)
       have HBV : Hid (Below W.heap.size W V) := hide (by rw [hV]; exact alloc_below _ _)
       obtain ⟨bB, hbB⟩ : ∃ bB, W.heap.size = bB := ⟨_, rfl⟩
       rw [hbB] at HV HBV
       have HZbB := hide hbB
       obtain ⟨X, hX⟩ : ∃ X, X = V.alloc (.cells #[.int .i64 e1, .int .i64 i1, .int .i64 g1, .slice rp2 rn2 rc2, .slice vp2 vn2 vc2] 34 (0, 0)) := ⟨_, rfl⟩
       have HX : Hid (X.heap[V.heap.size]? = some (.cells #[.int .i64 e1, .int .i64 i1, .int .i64 g1, .slice rp2 rn2 rc2, .slice vp2 vn2 vc2] 34 (0, 0))) := hide (by rw [hX]; exact heap_alloc_new V _)
       have HBX : Hid (Below V.heap.size V X) := hide (by rw [hX]; exact alloc_below _ _)
       obtain ⟨cB, hcB⟩ : ∃ cB, V.heap.size = cB := ⟨_, rfl⟩
       rw [hcB] at HX HBX
       have HZcB := hide hcB
       have HA2 := hide (below_box (show Below V.heap.size V X by rw [hX]; exact alloc_below _ _) HV.out)
       have HBW : Hid (Below W.heap.size W X) := hide (by rw [hX, hV]; exact (alloc_below _ _).trans ((alloc_below _ _).mono (by simp)))
       have hs0 : V.heap.size = bB + 1 := by rw [hV, ← hbB]; simp
       have hrb : bB + 1 = cB := by omega
       clear HV HBV HBX
       go_enter Try.func32, Try.ntmps32
       go_upto_region 1 with fail
       try rw [hbB]
       try rw [hrb]
       rw [← hV, ← hX]
       try rw [hcB]
       clear hV hX hbB hcB hs0 hrb; have u0 := cellB HA2.out (i := 0) rfl; have u1 := cellB HA2.out (i := 1) rfl; have u2 := cellB HA2.out (i := 2) rfl; have u3 := cellB HA2.out (i := 3) rfl; have u4 := cellB HA2.out (i := 4) rfl; have v0 := cellB HX.out (i := 0) rfl; have v1 := cellB HX.out (i := 1) rfl; have v2 := cellB HX.out (i := 2) rfl; have v3 := cellB HX.out (i := 3) rfl; have v4 := cellB HX.out (i := 4) rfl
       go_wp2_with fail
       refine (samerec_all (RRow.later HR1.out HBW.out) (RRow.later HR2.out HBW.out) HRN1.out HRN2.out (decide_eq_true C3.out)).mono ?_
       rintro _ w1 ⟨rfl, b1⟩
       have HBW1 := hide (below_next HBW.out b1 HBW.out.size); have HA3 := hide (below_box b1 HA2.out); have HX3 := hide (below_box b1 HX.out); clear b1 u0 v0 u1 v1 u2 v2 u3 v3 u4 v4; have u0 := cellB HA3.out (i := 0) rfl; have u1 := cellB HA3.out (i := 1) rfl; have u2 := cellB HA3.out (i := 2) rfl; have u3 := cellB HA3.out (i := 3) rfl; have u4 := cellB HA3.out (i := 4) rfl; have v0 := cellB HX3.out (i := 0) rfl; have v1 := cellB HX3.out (i := 1) rfl; have v2 := cellB HX3.out (i := 2) rfl; have v3 := cellB HX3.out (i := 3) rfl; have v4 := cellB HX3.out (i := 4) rfl
       go_wp2_with fail
       refine (sameint_all (NRow.later HV1.out HBW1.out) (NRow.later HV2.out HBW1.out) HVN1.out HVN2.out (decide_eq_false C4.out)).mono ?_
       rintro _ w2 ⟨rfl, b2⟩
       have HBE := hide (below_next HBW1.out b2 HBW1.out.size); clear b2; go_wp2; go_ret
       exact ⟨by rw [HR.out]; rfl, HBE.out⟩
     ·
      have HR : Hid (rb = false) := hide (by
        rw [← hrb]
        exact decide_eq_false (fun h => c3 (by simp only [TX.mk.injEq] at h; exact h.2.2.2.1)))
      obtain rfl := c0
      obtain rfl := c1
      obtain rfl := c2
      have C3 := hide c3; clear hrb c3; have HR1 := hide hr1; have HV1 := hide hv1; have HR2 := hide hr2; have HV2 := hide hv2; have HRN1 := hide hrn1; have HVN1 := hide hvn1; have HRN2 := hide hrn2; have HVN2 := hide hvn2; clear hr1 hv1 hr2 hv2 hrn1 hvn1 hrn2 hvn2
      obtain ⟨V, hV⟩ : ∃ V, V = W.alloc (.cells #[.int .i64 e1, .int .i64 i1, .int .i64 g1, .slice rp1 rn1 rc1, .slice vp1 vn1 vc1] 34 (0, 0)) := ⟨_, rfl⟩
      have HV : Hid (V.heap[W.heap.size]? = some (.cells #[.int .i64 e1, .int .i64 i1, .int .i64 g1, .slice rp1 rn1 rc1, .slice vp1 vn1 vc1] 34 (0, 0))) := hide (by rw [hV]; exact heap_alloc_new W _)
      have HBV : Hid (Below W.heap.size W V) := hide (by rw [hV]; exact alloc_below _ _)
      obtain ⟨bB, hbB⟩ : ∃ bB, W.heap.size = bB := ⟨_, rfl⟩
      rw [hbB] at HV HBV
      have HZbB := hide hbB
      obtain ⟨X, hX⟩ : ∃ X, X = V.alloc (.cells #[.int .i64 e1, .int .i64 i1, .int .i64 g1, .slice rp2 rn2 rc2, .slice vp2 vn2 vc2] 34 (0, 0)) := ⟨_, rfl⟩
      have HX : Hid (X.heap[V.heap.size]? = some (.cells #[.int .i64 e1, .int .i64 i1, .int .i64 g1, .slice rp2 rn2 rc2, .slice vp2 vn2 vc2] 34 (0, 0))) := hide (by rw [hX]; exact heap_alloc_new V _)
      have HBX : Hid (Below V.heap.size V X) := hide (by rw [hX]; exact alloc_below _ _)
      obtain ⟨cB, hcB⟩ : ∃ cB, V.heap.size = cB := ⟨_, rfl⟩
      rw [hcB] at HX HBX
      have HZcB := hide hcB
      have HA2 := hide (below_box (show Below V.heap.size V X by rw [hX]; exact alloc_below _ _) HV.out)
      have HBW : Hid (Below W.heap.size W X) := hide (by rw [hX, hV]; exact (alloc_below _ _).trans ((alloc_below _ _).mono (by simp)))
      have hs0 : V.heap.size = bB + 1 := by rw [hV, ← hbB]; simp
      have hrb : bB + 1 = cB := by omega
      clear HV HBV HBX
      go_enter Try.func32, Try.ntmps32
      go_upto_region 1 with fail
      try rw [hbB]
      try rw [hrb]
      rw [← hV, ← hX]
      try rw [hcB]
      clear hV hX hbB hcB hs0 hrb; have u0 := cellB HA2.out (i := 0) rfl; have u1 := cellB HA2.out (i := 1) rfl; have u2 := cellB HA2.out (i := 2) rfl; have u3 := cellB HA2.out (i := 3) rfl; have u4 := cellB HA2.out (i := 4) rfl; have v0 := cellB HX.out (i := 0) rfl; have v1 := cellB HX.out (i := 1) rfl; have v2 := cellB HX.out (i := 2) rfl; have v3 := cellB HX.out (i := 3) rfl; have v4 := cellB HX.out (i := 4) rfl
      go_wp2_with fail
      refine (samerec_all (RRow.later HR1.out HBW.out) (RRow.later HR2.out HBW.out) HRN1.out HRN2.out (decide_eq_false C3.out)).mono ?_
      rintro _ w1 ⟨rfl, b1⟩
      have HBE := hide (below_next HBW.out b1 HBW.out.size); clear b1; go_wp2; go_ret
      exact ⟨by rw [HR.out]; rfl, HBE.out⟩
    ·
     have HR : Hid (rb = false) := hide (by
       rw [← hrb]
       exact decide_eq_false (fun h => c2 (by simp only [TX.mk.injEq] at h; exact h.2.2.1)))
     obtain rfl := c0
     obtain rfl := c1
     have q2 := ne_eq c2; clear hrb c2; have HR1 := hide hr1; have HV1 := hide hv1; have HR2 := hide hr2; have HV2 := hide hv2; have HRN1 := hide hrn1; have HVN1 := hide hvn1; have HRN2 := hide hrn2; have HVN2 := hide hvn2; clear hr1 hv1 hr2 hv2 hrn1 hvn1 hrn2 hvn2
     obtain ⟨V, hV⟩ : ∃ V, V = W.alloc (.cells #[.int .i64 e1, .int .i64 i1, .int .i64 g1, .slice rp1 rn1 rc1, .slice vp1 vn1 vc1] 34 (0, 0)) := ⟨_, rfl⟩
     have HV : Hid (V.heap[W.heap.size]? = some (.cells #[.int .i64 e1, .int .i64 i1, .int .i64 g1, .slice rp1 rn1 rc1, .slice vp1 vn1 vc1] 34 (0, 0))) := hide (by rw [hV]; exact heap_alloc_new W _)
     have HBV : Hid (Below W.heap.size W V) := hide (by rw [hV]; exact alloc_below _ _)
     obtain ⟨bB, hbB⟩ : ∃ bB, W.heap.size = bB := ⟨_, rfl⟩
     rw [hbB] at HV HBV
     have HZbB := hide hbB
     obtain ⟨X, hX⟩ : ∃ X, X = V.alloc (.cells #[.int .i64 e1, .int .i64 i1, .int .i64 g2, .slice rp2 rn2 rc2, .slice vp2 vn2 vc2] 34 (0, 0)) := ⟨_, rfl⟩
     have HX : Hid (X.heap[V.heap.size]? = some (.cells #[.int .i64 e1, .int .i64 i1, .int .i64 g2, .slice rp2 rn2 rc2, .slice vp2 vn2 vc2] 34 (0, 0))) := hide (by rw [hX]; exact heap_alloc_new V _)
     have HBX : Hid (Below V.heap.size V X) := hide (by rw [hX]; exact alloc_below _ _)
     obtain ⟨cB, hcB⟩ : ∃ cB, V.heap.size = cB := ⟨_, rfl⟩
     rw [hcB] at HX HBX
     have HZcB := hide hcB
     have HA2 := hide (below_box (show Below V.heap.size V X by rw [hX]; exact alloc_below _ _) HV.out)
     have HBW : Hid (Below W.heap.size W X) := hide (by rw [hX, hV]; exact (alloc_below _ _).trans ((alloc_below _ _).mono (by simp)))
     have hs0 : V.heap.size = bB + 1 := by rw [hV, ← hbB]; simp
     have hrb : bB + 1 = cB := by omega
     clear HV HBV HBX
     go_enter Try.func32, Try.ntmps32
     go_upto_region 1 with fail
     try rw [hbB]
     try rw [hrb]
     rw [← hV, ← hX]
     try rw [hcB]
     clear hV hX hbB hcB hs0 hrb; have u0 := cellB HA2.out (i := 0) rfl; have u1 := cellB HA2.out (i := 1) rfl; have u2 := cellB HA2.out (i := 2) rfl; have u3 := cellB HA2.out (i := 3) rfl; have u4 := cellB HA2.out (i := 4) rfl; have v0 := cellB HX.out (i := 0) rfl; have v1 := cellB HX.out (i := 1) rfl; have v2 := cellB HX.out (i := 2) rfl; have v3 := cellB HX.out (i := 3) rfl; have v4 := cellB HX.out (i := 4) rfl; have HBE := HBW; go_wp2; go_ret
     exact ⟨by rw [HR.out]; rfl, HBE.out⟩
   ·
    have HR : Hid (rb = false) := hide (by
      rw [← hrb]
      exact decide_eq_false (fun h => c1 (by simp only [TX.mk.injEq] at h; exact h.2.1)))
    obtain rfl := c0
    have q1 := ne_eq c1; clear hrb c1; have HR1 := hide hr1; have HV1 := hide hv1; have HR2 := hide hr2; have HV2 := hide hv2; have HRN1 := hide hrn1; have HVN1 := hide hvn1; have HRN2 := hide hrn2; have HVN2 := hide hvn2; clear hr1 hv1 hr2 hv2 hrn1 hvn1 hrn2 hvn2
    obtain ⟨V, hV⟩ : ∃ V, V = W.alloc (.cells #[.int .i64 e1, .int .i64 i1, .int .i64 g1, .slice rp1 rn1 rc1, .slice vp1 vn1 vc1] 34 (0, 0)) := ⟨_, rfl⟩
    have HV : Hid (V.heap[W.heap.size]? = some (.cells #[.int .i64 e1, .int .i64 i1, .int .i64 g1, .slice rp1 rn1 rc1, .slice vp1 vn1 vc1] 34 (0, 0))) := hide (by rw [hV]; exact heap_alloc_new W _)
    have HBV : Hid (Below W.heap.size W V) := hide (by rw [hV]; exact alloc_below _ _)
    obtain ⟨bB, hbB⟩ : ∃ bB, W.heap.size = bB := ⟨_, rfl⟩
    rw [hbB] at HV HBV
    have HZbB := hide hbB
    obtain ⟨X, hX⟩ : ∃ X, X = V.alloc (.cells #[.int .i64 e1, .int .i64 i2, .int .i64 g2, .slice rp2 rn2 rc2, .slice vp2 vn2 vc2] 34 (0, 0)) := ⟨_, rfl⟩
    have HX : Hid (X.heap[V.heap.size]? = some (.cells #[.int .i64 e1, .int .i64 i2, .int .i64 g2, .slice rp2 rn2 rc2, .slice vp2 vn2 vc2] 34 (0, 0))) := hide (by rw [hX]; exact heap_alloc_new V _)
    have HBX : Hid (Below V.heap.size V X) := hide (by rw [hX]; exact alloc_below _ _)
    obtain ⟨cB, hcB⟩ : ∃ cB, V.heap.size = cB := ⟨_, rfl⟩
    rw [hcB] at HX HBX
    have HZcB := hide hcB
    have HA2 := hide (below_box (show Below V.heap.size V X by rw [hX]; exact alloc_below _ _) HV.out)
    have HBW : Hid (Below W.heap.size W X) := hide (by rw [hX, hV]; exact (alloc_below _ _).trans ((alloc_below _ _).mono (by simp)))
    have hs0 : V.heap.size = bB + 1 := by rw [hV, ← hbB]; simp
    have hrb : bB + 1 = cB := by omega
    clear HV HBV HBX
    go_enter Try.func32, Try.ntmps32
    go_upto_region 1 with fail
    try rw [hbB]
    try rw [hrb]
    rw [← hV, ← hX]
    try rw [hcB]
    clear hV hX hbB hcB hs0 hrb; have u0 := cellB HA2.out (i := 0) rfl; have u1 := cellB HA2.out (i := 1) rfl; have u2 := cellB HA2.out (i := 2) rfl; have u3 := cellB HA2.out (i := 3) rfl; have u4 := cellB HA2.out (i := 4) rfl; have v0 := cellB HX.out (i := 0) rfl; have v1 := cellB HX.out (i := 1) rfl; have v2 := cellB HX.out (i := 2) rfl; have v3 := cellB HX.out (i := 3) rfl; have v4 := cellB HX.out (i := 4) rfl; have HBE := HBW; go_wp2; go_ret
    exact ⟨by rw [HR.out]; rfl, HBE.out⟩
  ·
   have HR : Hid (rb = false) := hide (by
     rw [← hrb]
     exact decide_eq_false (fun h => c0 (by simp only [TX.mk.injEq] at h; exact h.1)))
   have q0 := ne_eq c0; clear hrb c0; have HR1 := hide hr1; have HV1 := hide hv1; have HR2 := hide hr2; have HV2 := hide hv2; have HRN1 := hide hrn1; have HVN1 := hide hvn1; have HRN2 := hide hrn2; have HVN2 := hide hvn2; clear hr1 hv1 hr2 hv2 hrn1 hvn1 hrn2 hvn2
   obtain ⟨V, hV⟩ : ∃ V, V = W.alloc (.cells #[.int .i64 e1, .int .i64 i1, .int .i64 g1, .slice rp1 rn1 rc1, .slice vp1 vn1 vc1] 34 (0, 0)) := ⟨_, rfl⟩
   have HV : Hid (V.heap[W.heap.size]? = some (.cells #[.int .i64 e1, .int .i64 i1, .int .i64 g1, .slice rp1 rn1 rc1, .slice vp1 vn1 vc1] 34 (0, 0))) := hide (by rw [hV]; exact heap_alloc_new W _)
   have HBV : Hid (Below W.heap.size W V) := hide (by rw [hV]; exact alloc_below _ _)
   obtain ⟨bB, hbB⟩ : ∃ bB, W.heap.size = bB := ⟨_, rfl⟩
   rw [hbB] at HV HBV
   have HZbB := hide hbB
   obtain ⟨X, hX⟩ : ∃ X, X = V.alloc (.cells #[.int .i64 e2, .int .i64 i2, .int .i64 g2, .slice rp2 rn2 rc2, .slice vp2 vn2 vc2] 34 (0, 0)) := ⟨_, rfl⟩
   have HX : Hid (X.heap[V.heap.size]? = some (.cells #[.int .i64 e2, .int .i64 i2, .int .i64 g2, .slice rp2 rn2 rc2, .slice vp2 vn2 vc2] 34 (0, 0))) := hide (by rw [hX]; exact heap_alloc_new V _)
   have HBX : Hid (Below V.heap.size V X) := hide (by rw [hX]; exact alloc_below _ _)
   obtain ⟨cB, hcB⟩ : ∃ cB, V.heap.size = cB := ⟨_, rfl⟩
   rw [hcB] at HX HBX
   have HZcB := hide hcB
   have HA2 := hide (below_box (show Below V.heap.size V X by rw [hX]; exact alloc_below _ _) HV.out)
   have HBW : Hid (Below W.heap.size W X) := hide (by rw [hX, hV]; exact (alloc_below _ _).trans ((alloc_below _ _).mono (by simp)))
   have hs0 : V.heap.size = bB + 1 := by rw [hV, ← hbB]; simp
   have hrb : bB + 1 = cB := by omega
   clear HV HBV HBX
   go_enter Try.func32, Try.ntmps32
   go_upto_region 1 with fail
   try rw [hbB]
   try rw [hrb]
   rw [← hV, ← hX]
   try rw [hcB]
   clear hV hX hbB hcB hs0 hrb; have u0 := cellB HA2.out (i := 0) rfl; have u1 := cellB HA2.out (i := 1) rfl; have u2 := cellB HA2.out (i := 2) rfl; have u3 := cellB HA2.out (i := 3) rfl; have u4 := cellB HA2.out (i := 4) rfl; have v0 := cellB HX.out (i := 0) rfl; have v1 := cellB HX.out (i := 1) rfl; have v2 := cellB HX.out (i := 2) rfl; have v3 := cellB HX.out (i := 3) rfl; have v4 := cellB HX.out (i := 4) rfl; have HBE := HBW; go_wp2; go_ret
   exact ⟨by rw [HR.out]; rfl, HBE.out⟩
attribute [local irreducible] wpQuiet in
set_option maxRecDepth 100000 in
set_option maxHeartbeats 8000000 in
theorem sametxn_all {W : World} {e1 i1 g1 e2 i2 g2 : Int} {rp1 vp1 rp2 vp2 : Option Addr} {rn1 rc1 vn1 vc1 rn2 rc2 vn2 vc2 : Nat} {rs1 rs2 : List RC} {vs1 vs2 : List Int} (hr1 : RRow W rp1 rc1 rs1) (hv1 : NRow W vp1 vc1 vs1) (hr2 : RRow W rp2 rc2 rs2) (hv2 : NRow W vp2 vc2 vs2) (hrn1 : rs1.length = rn1) (hvn1 : vs1.length = vn1) (hrn2 : rs2.length = rn2) (hvn2 : vs2.length = vn2) {rb : Bool} (hrb : decide ((⟨e1, i1, g1, rs1, vs1⟩ : TX) = ⟨e2, i2, g2, rs2, vs2⟩) = rb) :
  Calls Try.prog 51 #[.agg #[.int .i64 e1, .int .i64 i1, .int .i64 g1, .slice rp1 rn1 rc1, .slice vp1 vn1 vc1], .agg #[.int .i64 e2, .int .i64 i2, .int .i64 g2, .slice rp2 rn2 rc2, .slice vp2 vn2 vc2]] W fun e w' => e = .returned (.bool rb) ∧ Below W.heap.size W w' := by
 ·
  by_cases c0 : e1 = e2
  ·
   by_cases c1 : i1 = i2
   ·
    by_cases c2 : g1 = g2
    ·
     by_cases c3 : rs1 = rs2
     ·
      by_cases c4 : vs1 = vs2
      ·
       have HR : Hid (rb = true) := hide (by
         rw [← hrb]
         exact decide_eq_true (by rw [c0, c1, c2, c3, c4]))
       obtain rfl := c0
       obtain rfl := c1
       obtain rfl := c2
       have C3 := hide c3; have C4 := hide c4; clear hrb c3 c4; have HR1 := hide hr1; have HV1 := hide hv1; have HR2 := hide hr2; have HV2 := hide hv2; have HRN1 := hide hrn1; have HVN1 := hide hvn1; have HRN2 := hide hrn2; have HVN2 := hide hvn2; clear hr1 hv1 hr2 hv2 hrn1 hvn1 hrn2 hvn2
       obtain ⟨V, hV⟩ : ∃ V, V = W.alloc (.cells #[.int .i64 e1, .int .i64 i1, .int .i64 g1, .slice rp1 rn1 rc1, .slice vp1 vn1 vc1] 34 (0, 0)) := ⟨_, rfl⟩
       have HV : Hid (V.heap[W.heap.size]? = some (.cells #[.int .i64 e1, .int .i64 i1, .int .i64 g1, .slice rp1 rn1 rc1, .slice vp1 vn1 vc1] 34 (0, 0))) := hide (by rw [hV]; exact heap_alloc_new W _)
       have HBV : Hid (Below W.heap.size W V) := hide (by rw [hV]; exact alloc_below _ _)
       obtain ⟨bB, hbB⟩ : ∃ bB, W.heap.size = bB := ⟨_, rfl⟩
       rw [hbB] at HV HBV
       have HZbB := hide hbB
       obtain ⟨X, hX⟩ : ∃ X, X = V.alloc (.cells #[.int .i64 e1, .int .i64 i1, .int .i64 g1, .slice rp2 rn2 rc2, .slice vp2 vn2 vc2] 34 (0, 0)) := ⟨_, rfl⟩
       have HX : Hid (X.heap[V.heap.size]? = some (.cells #[.int .i64 e1, .int .i64 i1, .int .i64 g1, .slice rp2 rn2 rc2, .slice vp2 vn2 vc2] 34 (0, 0))) := hide (by rw [hX]; exact heap_alloc_new V _)
       have HBX : Hid (Below V.heap.size V X) := hide (by rw [hX]; exact alloc_below _ _)
       obtain ⟨cB, hcB⟩ : ∃ cB, V.heap.size = cB := ⟨_, rfl⟩
       rw [hcB] at HX HBX
       have HZcB := hide hcB
       have HA2 := hide (below_box (show Below V.heap.size V X by rw [hX]; exact alloc_below _ _) HV.out)
       have HBW : Hid (Below W.heap.size W X) := hide (by rw [hX, hV]; exact (alloc_below _ _).trans ((alloc_below _ _).mono (by simp)))
       have hs0 : V.heap.size = bB + 1 := by rw [hV, ← hbB]; simp
       have hrb : bB + 1 = cB := by omega
       clear HV HBV HBX
       go_enter Try.func51, Try.ntmps51
       go_upto_region 1 with fail
       try rw [hbB]
       try rw [hrb]
       rw [← hV, ← hX]
       try rw [hcB]
       clear hV hX hbB hcB hs0 hrb; have u0 := cellB HA2.out (i := 0) rfl; have u1 := cellB HA2.out (i := 1) rfl; have u2 := cellB HA2.out (i := 2) rfl; have u3 := cellB HA2.out (i := 3) rfl; have u4 := cellB HA2.out (i := 4) rfl; have v0 := cellB HX.out (i := 0) rfl; have v1 := cellB HX.out (i := 1) rfl; have v2 := cellB HX.out (i := 2) rfl; have v3 := cellB HX.out (i := 3) rfl; have v4 := cellB HX.out (i := 4) rfl
       refine region_class (fun Y => Below X.heap.size X Y) (by kernel_rfl) (by kernel_rfl) (Below.refl _ X).drew ?_
       repeat
        first
         | (refine BigFrame.wpQuiet_skip (by rfl) ?_
            simp only [Act.put, List.setIfInBounds_toArray, List.set_cons_zero, List.set_cons_succ])
         | (refine BigFrame.wpQuiet_want (by rfl) (fun K hK => ?_)
            unfold Oper.quiet
            apply Exists.intro
            refine ⟨fun Y hY => ?_, hK _ ?_⟩
            · have hB := HBW.out.trans (hY.mono HBW.out.size)
              have l0 := cell_later hY u0
              have m0 := cell_later hY v0
              have l1 := cell_later hY u1
              have m1 := cell_later hY v1
              have l2 := cell_later hY u2
              have m2 := cell_later hY v2
              have l3 := cell_later hY u3
              have m3 := cell_later hY v3
              have l4 := cell_later hY u4
              have m4 := cell_later hY v4
              first
               | (go_simp; done)
               | (go_simp; exact rfl)
               | (go_simp
                  first
                  | (go_at_call 50; refine name_any.mono ?_; rintro e w3 ⟨rfl, hb3⟩; exact ⟨rfl, hY.trans (hb3.mono hY.size)⟩)
                  | (go_at_call 18; refine (eqrec_all (RRow.later HR1.out hB) (RRow.later HR2.out hB) HRN1.out HRN2.out (decide_eq_true C3.out)).mono ?_; rintro e w3 ⟨rfl, hb3⟩; exact ⟨rfl, hY.trans (hb3.mono hY.size)⟩)
                  | (go_at_call 33; refine (eqnum_all (NRow.later HV1.out hB) (NRow.later HV2.out hB) HVN1.out HVN2.out (decide_eq_true C4.out)).mono ?_; rintro e w3 ⟨rfl, hb3⟩; exact ⟨rfl, hY.trans (hb3.mono hY.size)⟩)
                 )
            clear hK K
            simp only [Act.put, List.setIfInBounds_toArray, List.set_cons_zero, List.set_cons_succ])
       refine wpQuiet_nil (fun Y hY => ?_)
       have HBE := hide (HBW.out.trans (hY.mono HBW.out.size)); clear hY; go_wp2; go_ret
       exact ⟨by rw [HR.out]; rfl, HBE.out⟩
      ·
       have HR : Hid (rb = false) := hide (by
         rw [← hrb]
         exact decide_eq_false (fun h => c4 (by simp only [TX.mk.injEq] at h; exact h.2.2.2.2)))
       obtain rfl := c0
       obtain rfl := c1
       obtain rfl := c2
       have C3 := hide c3; have C4 := hide c4; clear hrb c3 c4; have HR1 := hide hr1; have HV1 := hide hv1; have HR2 := hide hr2; have HV2 := hide hv2; have HRN1 := hide hrn1; have HVN1 := hide hvn1; have HRN2 := hide hrn2; have HVN2 := hide hvn2; clear hr1 hv1 hr2 hv2 hrn1 hvn1 hrn2 hvn2
       obtain ⟨V, hV⟩ : ∃ V, V = W.alloc (.cells #[.int .i64 e1, .int .i64 i1, .int .i64 g1, .slice rp1 rn1 rc1, .slice vp1 vn1 vc1] 34 (0, 0)) := ⟨_, rfl⟩
       have HV : Hid (V.heap[W.heap.size]? = some (.cells #[.int .i64 e1, .int .i64 i1, .int .i64 g1, .slice rp1 rn1 rc1, .slice vp1 vn1 vc1] 34 (0, 0))) := hide (by rw [hV]; exact heap_alloc_new W _)
       have HBV : Hid (Below W.heap.size W V) := hide (by rw [hV]; exact alloc_below _ _)
       obtain ⟨bB, hbB⟩ : ∃ bB, W.heap.size = bB := ⟨_, rfl⟩
       rw [hbB] at HV HBV
       have HZbB := hide hbB
       obtain ⟨X, hX⟩ : ∃ X, X = V.alloc (.cells #[.int .i64 e1, .int .i64 i1, .int .i64 g1, .slice rp2 rn2 rc2, .slice vp2 vn2 vc2] 34 (0, 0)) := ⟨_, rfl⟩
       have HX : Hid (X.heap[V.heap.size]? = some (.cells #[.int .i64 e1, .int .i64 i1, .int .i64 g1, .slice rp2 rn2 rc2, .slice vp2 vn2 vc2] 34 (0, 0))) := hide (by rw [hX]; exact heap_alloc_new V _)
       have HBX : Hid (Below V.heap.size V X) := hide (by rw [hX]; exact alloc_below _ _)
       obtain ⟨cB, hcB⟩ : ∃ cB, V.heap.size = cB := ⟨_, rfl⟩
       rw [hcB] at HX HBX
       have HZcB := hide hcB
       have HA2 := hide (below_box (show Below V.heap.size V X by rw [hX]; exact alloc_below _ _) HV.out)
       have HBW : Hid (Below W.heap.size W X) := hide (by rw [hX, hV]; exact (alloc_below _ _).trans ((alloc_below _ _).mono (by simp)))
       have hs0 : V.heap.size = bB + 1 := by rw [hV, ← hbB]; simp
       have hrb : bB + 1 = cB := by omega
       clear HV HBV HBX
       go_enter Try.func51, Try.ntmps51
       go_upto_region 1 with fail
       try rw [hbB]
       try rw [hrb]
       rw [← hV, ← hX]
       try rw [hcB]
       clear hV hX hbB hcB hs0 hrb; have u0 := cellB HA2.out (i := 0) rfl; have u1 := cellB HA2.out (i := 1) rfl; have u2 := cellB HA2.out (i := 2) rfl; have u3 := cellB HA2.out (i := 3) rfl; have u4 := cellB HA2.out (i := 4) rfl; have v0 := cellB HX.out (i := 0) rfl; have v1 := cellB HX.out (i := 1) rfl; have v2 := cellB HX.out (i := 2) rfl; have v3 := cellB HX.out (i := 3) rfl; have v4 := cellB HX.out (i := 4) rfl
       refine region_class (fun Y => Below X.heap.size X Y) (by kernel_rfl) (by kernel_rfl) (Below.refl _ X).drew ?_
       repeat
        first
         | (refine BigFrame.wpQuiet_skip (by rfl) ?_
            simp only [Act.put, List.setIfInBounds_toArray, List.set_cons_zero, List.set_cons_succ])
         | (refine BigFrame.wpQuiet_want (by rfl) (fun K hK => ?_)
            unfold Oper.quiet
            apply Exists.intro
            refine ⟨fun Y hY => ?_, hK _ ?_⟩
            · have hB := HBW.out.trans (hY.mono HBW.out.size)
              have l0 := cell_later hY u0
              have m0 := cell_later hY v0
              have l1 := cell_later hY u1
              have m1 := cell_later hY v1
              have l2 := cell_later hY u2
              have m2 := cell_later hY v2
              have l3 := cell_later hY u3
              have m3 := cell_later hY v3
              have l4 := cell_later hY u4
              have m4 := cell_later hY v4
              first
               | (go_simp; done)
               | (go_simp; exact rfl)
               | (go_simp
                  first
                  | (go_at_call 50; refine name_any.mono ?_; rintro e w3 ⟨rfl, hb3⟩; exact ⟨rfl, hY.trans (hb3.mono hY.size)⟩)
                  | (go_at_call 18; refine (eqrec_all (RRow.later HR1.out hB) (RRow.later HR2.out hB) HRN1.out HRN2.out (decide_eq_true C3.out)).mono ?_; rintro e w3 ⟨rfl, hb3⟩; exact ⟨rfl, hY.trans (hb3.mono hY.size)⟩)
                  | (go_at_call 33; refine (eqnum_all (NRow.later HV1.out hB) (NRow.later HV2.out hB) HVN1.out HVN2.out (decide_eq_false C4.out)).mono ?_; rintro e w3 ⟨rfl, hb3⟩; exact ⟨rfl, hY.trans (hb3.mono hY.size)⟩)
                 )
            clear hK K
            simp only [Act.put, List.setIfInBounds_toArray, List.set_cons_zero, List.set_cons_succ])
       refine wpQuiet_nil (fun Y hY => ?_)
       have HBE := hide (HBW.out.trans (hY.mono HBW.out.size)); clear hY; go_wp2; go_ret
       exact ⟨by rw [HR.out]; rfl, HBE.out⟩
     ·
      have HR : Hid (rb = false) := hide (by
        rw [← hrb]
        exact decide_eq_false (fun h => c3 (by simp only [TX.mk.injEq] at h; exact h.2.2.2.1)))
      obtain rfl := c0
      obtain rfl := c1
      obtain rfl := c2
      have C3 := hide c3; clear hrb c3; have HR1 := hide hr1; have HV1 := hide hv1; have HR2 := hide hr2; have HV2 := hide hv2; have HRN1 := hide hrn1; have HVN1 := hide hvn1; have HRN2 := hide hrn2; have HVN2 := hide hvn2; clear hr1 hv1 hr2 hv2 hrn1 hvn1 hrn2 hvn2
      obtain ⟨V, hV⟩ : ∃ V, V = W.alloc (.cells #[.int .i64 e1, .int .i64 i1, .int .i64 g1, .slice rp1 rn1 rc1, .slice vp1 vn1 vc1] 34 (0, 0)) := ⟨_, rfl⟩
      have HV : Hid (V.heap[W.heap.size]? = some (.cells #[.int .i64 e1, .int .i64 i1, .int .i64 g1, .slice rp1 rn1 rc1, .slice vp1 vn1 vc1] 34 (0, 0))) := hide (by rw [hV]; exact heap_alloc_new W _)
      have HBV : Hid (Below W.heap.size W V) := hide (by rw [hV]; exact alloc_below _ _)
      obtain ⟨bB, hbB⟩ : ∃ bB, W.heap.size = bB := ⟨_, rfl⟩
      rw [hbB] at HV HBV
      have HZbB := hide hbB
      obtain ⟨X, hX⟩ : ∃ X, X = V.alloc (.cells #[.int .i64 e1, .int .i64 i1, .int .i64 g1, .slice rp2 rn2 rc2, .slice vp2 vn2 vc2] 34 (0, 0)) := ⟨_, rfl⟩
      have HX : Hid (X.heap[V.heap.size]? = some (.cells #[.int .i64 e1, .int .i64 i1, .int .i64 g1, .slice rp2 rn2 rc2, .slice vp2 vn2 vc2] 34 (0, 0))) := hide (by rw [hX]; exact heap_alloc_new V _)
      have HBX : Hid (Below V.heap.size V X) := hide (by rw [hX]; exact alloc_below _ _)
      obtain ⟨cB, hcB⟩ : ∃ cB, V.heap.size = cB := ⟨_, rfl⟩
      rw [hcB] at HX HBX
      have HZcB := hide hcB
      have HA2 := hide (below_box (show Below V.heap.size V X by rw [hX]; exact alloc_below _ _) HV.out)
      have HBW : Hid (Below W.heap.size W X) := hide (by rw [hX, hV]; exact (alloc_below _ _).trans ((alloc_below _ _).mono (by simp)))
      have hs0 : V.heap.size = bB + 1 := by rw [hV, ← hbB]; simp
      have hrb : bB + 1 = cB := by omega
      clear HV HBV HBX
      go_enter Try.func51, Try.ntmps51
      go_upto_region 1 with fail
      try rw [hbB]
      try rw [hrb]
      rw [← hV, ← hX]
      try rw [hcB]
      clear hV hX hbB hcB hs0 hrb; have u0 := cellB HA2.out (i := 0) rfl; have u1 := cellB HA2.out (i := 1) rfl; have u2 := cellB HA2.out (i := 2) rfl; have u3 := cellB HA2.out (i := 3) rfl; have u4 := cellB HA2.out (i := 4) rfl; have v0 := cellB HX.out (i := 0) rfl; have v1 := cellB HX.out (i := 1) rfl; have v2 := cellB HX.out (i := 2) rfl; have v3 := cellB HX.out (i := 3) rfl; have v4 := cellB HX.out (i := 4) rfl
      refine region_class (fun Y => Below X.heap.size X Y) (by kernel_rfl) (by kernel_rfl) (Below.refl _ X).drew ?_
      repeat
       first
        | (refine BigFrame.wpQuiet_skip (by rfl) ?_
           simp only [Act.put, List.setIfInBounds_toArray, List.set_cons_zero, List.set_cons_succ])
        | (refine BigFrame.wpQuiet_want (by rfl) (fun K hK => ?_)
           unfold Oper.quiet
           apply Exists.intro
           refine ⟨fun Y hY => ?_, hK _ ?_⟩
           · have hB := HBW.out.trans (hY.mono HBW.out.size)
             have l0 := cell_later hY u0
             have m0 := cell_later hY v0
             have l1 := cell_later hY u1
             have m1 := cell_later hY v1
             have l2 := cell_later hY u2
             have m2 := cell_later hY v2
             have l3 := cell_later hY u3
             have m3 := cell_later hY v3
             have l4 := cell_later hY u4
             have m4 := cell_later hY v4
             first
              | (go_simp; done)
              | (go_simp; exact rfl)
              | (go_simp
                 first
                 | (go_at_call 50; refine name_any.mono ?_; rintro e w3 ⟨rfl, hb3⟩; exact ⟨rfl, hY.trans (hb3.mono hY.size)⟩)
                 | (go_at_call 18; refine (eqrec_all (RRow.later HR1.out hB) (RRow.later HR2.out hB) HRN1.out HRN2.out (decide_eq_false C3.out)).mono ?_; rintro e w3 ⟨rfl, hb3⟩; exact ⟨rfl, hY.trans (hb3.mono hY.size)⟩)
                )
           clear hK K
           simp only [Act.put, List.setIfInBounds_toArray, List.set_cons_zero, List.set_cons_succ])
      refine wpQuiet_nil (fun Y hY => ?_)
      have HBE := hide (HBW.out.trans (hY.mono HBW.out.size)); clear hY; go_wp2; go_ret
      exact ⟨by rw [HR.out]; rfl, HBE.out⟩
    ·
     have HR : Hid (rb = false) := hide (by
       rw [← hrb]
       exact decide_eq_false (fun h => c2 (by simp only [TX.mk.injEq] at h; exact h.2.2.1)))
     obtain rfl := c0
     obtain rfl := c1
     have q2 := ne_eq c2; clear hrb c2; have HR1 := hide hr1; have HV1 := hide hv1; have HR2 := hide hr2; have HV2 := hide hv2; have HRN1 := hide hrn1; have HVN1 := hide hvn1; have HRN2 := hide hrn2; have HVN2 := hide hvn2; clear hr1 hv1 hr2 hv2 hrn1 hvn1 hrn2 hvn2
     obtain ⟨V, hV⟩ : ∃ V, V = W.alloc (.cells #[.int .i64 e1, .int .i64 i1, .int .i64 g1, .slice rp1 rn1 rc1, .slice vp1 vn1 vc1] 34 (0, 0)) := ⟨_, rfl⟩
     have HV : Hid (V.heap[W.heap.size]? = some (.cells #[.int .i64 e1, .int .i64 i1, .int .i64 g1, .slice rp1 rn1 rc1, .slice vp1 vn1 vc1] 34 (0, 0))) := hide (by rw [hV]; exact heap_alloc_new W _)
     have HBV : Hid (Below W.heap.size W V) := hide (by rw [hV]; exact alloc_below _ _)
     obtain ⟨bB, hbB⟩ : ∃ bB, W.heap.size = bB := ⟨_, rfl⟩
     rw [hbB] at HV HBV
     have HZbB := hide hbB
     obtain ⟨X, hX⟩ : ∃ X, X = V.alloc (.cells #[.int .i64 e1, .int .i64 i1, .int .i64 g2, .slice rp2 rn2 rc2, .slice vp2 vn2 vc2] 34 (0, 0)) := ⟨_, rfl⟩
     have HX : Hid (X.heap[V.heap.size]? = some (.cells #[.int .i64 e1, .int .i64 i1, .int .i64 g2, .slice rp2 rn2 rc2, .slice vp2 vn2 vc2] 34 (0, 0))) := hide (by rw [hX]; exact heap_alloc_new V _)
     have HBX : Hid (Below V.heap.size V X) := hide (by rw [hX]; exact alloc_below _ _)
     obtain ⟨cB, hcB⟩ : ∃ cB, V.heap.size = cB := ⟨_, rfl⟩
     rw [hcB] at HX HBX
     have HZcB := hide hcB
     have HA2 := hide (below_box (show Below V.heap.size V X by rw [hX]; exact alloc_below _ _) HV.out)
     have HBW : Hid (Below W.heap.size W X) := hide (by rw [hX, hV]; exact (alloc_below _ _).trans ((alloc_below _ _).mono (by simp)))
     have hs0 : V.heap.size = bB + 1 := by rw [hV, ← hbB]; simp
     have hrb : bB + 1 = cB := by omega
     clear HV HBV HBX
     go_enter Try.func51, Try.ntmps51
     go_upto_region 1 with fail
     try rw [hbB]
     try rw [hrb]
     rw [← hV, ← hX]
     try rw [hcB]
     clear hV hX hbB hcB hs0 hrb; have u0 := cellB HA2.out (i := 0) rfl; have u1 := cellB HA2.out (i := 1) rfl; have u2 := cellB HA2.out (i := 2) rfl; have u3 := cellB HA2.out (i := 3) rfl; have u4 := cellB HA2.out (i := 4) rfl; have v0 := cellB HX.out (i := 0) rfl; have v1 := cellB HX.out (i := 1) rfl; have v2 := cellB HX.out (i := 2) rfl; have v3 := cellB HX.out (i := 3) rfl; have v4 := cellB HX.out (i := 4) rfl
     refine region_class (fun Y => Below X.heap.size X Y) (by kernel_rfl) (by kernel_rfl) (Below.refl _ X).drew ?_
     repeat
      first
       | (refine BigFrame.wpQuiet_skip (by rfl) ?_
          simp only [Act.put, List.setIfInBounds_toArray, List.set_cons_zero, List.set_cons_succ])
       | (refine BigFrame.wpQuiet_want (by rfl) (fun K hK => ?_)
          unfold Oper.quiet
          apply Exists.intro
          refine ⟨fun Y hY => ?_, hK _ ?_⟩
          · have hB := HBW.out.trans (hY.mono HBW.out.size)
            have l0 := cell_later hY u0
            have m0 := cell_later hY v0
            have l1 := cell_later hY u1
            have m1 := cell_later hY v1
            have l2 := cell_later hY u2
            have m2 := cell_later hY v2
            have l3 := cell_later hY u3
            have m3 := cell_later hY v3
            have l4 := cell_later hY u4
            have m4 := cell_later hY v4
            first
             | (go_simp; done)
             | (go_simp; exact rfl)
             | (go_simp
                first
                | (go_at_call 50; refine name_any.mono ?_; rintro e w3 ⟨rfl, hb3⟩; exact ⟨rfl, hY.trans (hb3.mono hY.size)⟩)
               )
          clear hK K
          simp only [Act.put, List.setIfInBounds_toArray, List.set_cons_zero, List.set_cons_succ])
     refine wpQuiet_nil (fun Y hY => ?_)
     have HBE := hide (HBW.out.trans (hY.mono HBW.out.size)); clear hY; go_wp2; go_ret
     exact ⟨by rw [HR.out]; rfl, HBE.out⟩
   ·
    have HR : Hid (rb = false) := hide (by
      rw [← hrb]
      exact decide_eq_false (fun h => c1 (by simp only [TX.mk.injEq] at h; exact h.2.1)))
    obtain rfl := c0
    have q1 := ne_eq c1; clear hrb c1; have HR1 := hide hr1; have HV1 := hide hv1; have HR2 := hide hr2; have HV2 := hide hv2; have HRN1 := hide hrn1; have HVN1 := hide hvn1; have HRN2 := hide hrn2; have HVN2 := hide hvn2; clear hr1 hv1 hr2 hv2 hrn1 hvn1 hrn2 hvn2
    obtain ⟨V, hV⟩ : ∃ V, V = W.alloc (.cells #[.int .i64 e1, .int .i64 i1, .int .i64 g1, .slice rp1 rn1 rc1, .slice vp1 vn1 vc1] 34 (0, 0)) := ⟨_, rfl⟩
    have HV : Hid (V.heap[W.heap.size]? = some (.cells #[.int .i64 e1, .int .i64 i1, .int .i64 g1, .slice rp1 rn1 rc1, .slice vp1 vn1 vc1] 34 (0, 0))) := hide (by rw [hV]; exact heap_alloc_new W _)
    have HBV : Hid (Below W.heap.size W V) := hide (by rw [hV]; exact alloc_below _ _)
    obtain ⟨bB, hbB⟩ : ∃ bB, W.heap.size = bB := ⟨_, rfl⟩
    rw [hbB] at HV HBV
    have HZbB := hide hbB
    obtain ⟨X, hX⟩ : ∃ X, X = V.alloc (.cells #[.int .i64 e1, .int .i64 i2, .int .i64 g2, .slice rp2 rn2 rc2, .slice vp2 vn2 vc2] 34 (0, 0)) := ⟨_, rfl⟩
    have HX : Hid (X.heap[V.heap.size]? = some (.cells #[.int .i64 e1, .int .i64 i2, .int .i64 g2, .slice rp2 rn2 rc2, .slice vp2 vn2 vc2] 34 (0, 0))) := hide (by rw [hX]; exact heap_alloc_new V _)
    have HBX : Hid (Below V.heap.size V X) := hide (by rw [hX]; exact alloc_below _ _)
    obtain ⟨cB, hcB⟩ : ∃ cB, V.heap.size = cB := ⟨_, rfl⟩
    rw [hcB] at HX HBX
    have HZcB := hide hcB
    have HA2 := hide (below_box (show Below V.heap.size V X by rw [hX]; exact alloc_below _ _) HV.out)
    have HBW : Hid (Below W.heap.size W X) := hide (by rw [hX, hV]; exact (alloc_below _ _).trans ((alloc_below _ _).mono (by simp)))
    have hs0 : V.heap.size = bB + 1 := by rw [hV, ← hbB]; simp
    have hrb : bB + 1 = cB := by omega
    clear HV HBV HBX
    go_enter Try.func51, Try.ntmps51
    go_upto_region 1 with fail
    try rw [hbB]
    try rw [hrb]
    rw [← hV, ← hX]
    try rw [hcB]
    clear hV hX hbB hcB hs0 hrb; have u0 := cellB HA2.out (i := 0) rfl; have u1 := cellB HA2.out (i := 1) rfl; have u2 := cellB HA2.out (i := 2) rfl; have u3 := cellB HA2.out (i := 3) rfl; have u4 := cellB HA2.out (i := 4) rfl; have v0 := cellB HX.out (i := 0) rfl; have v1 := cellB HX.out (i := 1) rfl; have v2 := cellB HX.out (i := 2) rfl; have v3 := cellB HX.out (i := 3) rfl; have v4 := cellB HX.out (i := 4) rfl
    refine region_class (fun Y => Below X.heap.size X Y) (by kernel_rfl) (by kernel_rfl) (Below.refl _ X).drew ?_
    repeat
     first
      | (refine BigFrame.wpQuiet_skip (by rfl) ?_
         simp only [Act.put, List.setIfInBounds_toArray, List.set_cons_zero, List.set_cons_succ])
      | (refine BigFrame.wpQuiet_want (by rfl) (fun K hK => ?_)
         unfold Oper.quiet
         apply Exists.intro
         refine ⟨fun Y hY => ?_, hK _ ?_⟩
         · have hB := HBW.out.trans (hY.mono HBW.out.size)
           have l0 := cell_later hY u0
           have m0 := cell_later hY v0
           have l1 := cell_later hY u1
           have m1 := cell_later hY v1
           have l2 := cell_later hY u2
           have m2 := cell_later hY v2
           have l3 := cell_later hY u3
           have m3 := cell_later hY v3
           have l4 := cell_later hY u4
           have m4 := cell_later hY v4
           first
            | (go_simp; done)
            | (go_simp; exact rfl)
            | (go_simp
               first
               | (go_at_call 50; refine name_any.mono ?_; rintro e w3 ⟨rfl, hb3⟩; exact ⟨rfl, hY.trans (hb3.mono hY.size)⟩)
              )
         clear hK K
         simp only [Act.put, List.setIfInBounds_toArray, List.set_cons_zero, List.set_cons_succ])
    refine wpQuiet_nil (fun Y hY => ?_)
    have HBE := hide (HBW.out.trans (hY.mono HBW.out.size)); clear hY; go_wp2; go_ret
    exact ⟨by rw [HR.out]; rfl, HBE.out⟩
  ·
   have HR : Hid (rb = false) := hide (by
     rw [← hrb]
     exact decide_eq_false (fun h => c0 (by simp only [TX.mk.injEq] at h; exact h.1)))
   have q0 := ne_eq c0; clear hrb c0; have HR1 := hide hr1; have HV1 := hide hv1; have HR2 := hide hr2; have HV2 := hide hv2; have HRN1 := hide hrn1; have HVN1 := hide hvn1; have HRN2 := hide hrn2; have HVN2 := hide hvn2; clear hr1 hv1 hr2 hv2 hrn1 hvn1 hrn2 hvn2
   obtain ⟨V, hV⟩ : ∃ V, V = W.alloc (.cells #[.int .i64 e1, .int .i64 i1, .int .i64 g1, .slice rp1 rn1 rc1, .slice vp1 vn1 vc1] 34 (0, 0)) := ⟨_, rfl⟩
   have HV : Hid (V.heap[W.heap.size]? = some (.cells #[.int .i64 e1, .int .i64 i1, .int .i64 g1, .slice rp1 rn1 rc1, .slice vp1 vn1 vc1] 34 (0, 0))) := hide (by rw [hV]; exact heap_alloc_new W _)
   have HBV : Hid (Below W.heap.size W V) := hide (by rw [hV]; exact alloc_below _ _)
   obtain ⟨bB, hbB⟩ : ∃ bB, W.heap.size = bB := ⟨_, rfl⟩
   rw [hbB] at HV HBV
   have HZbB := hide hbB
   obtain ⟨X, hX⟩ : ∃ X, X = V.alloc (.cells #[.int .i64 e2, .int .i64 i2, .int .i64 g2, .slice rp2 rn2 rc2, .slice vp2 vn2 vc2] 34 (0, 0)) := ⟨_, rfl⟩
   have HX : Hid (X.heap[V.heap.size]? = some (.cells #[.int .i64 e2, .int .i64 i2, .int .i64 g2, .slice rp2 rn2 rc2, .slice vp2 vn2 vc2] 34 (0, 0))) := hide (by rw [hX]; exact heap_alloc_new V _)
   have HBX : Hid (Below V.heap.size V X) := hide (by rw [hX]; exact alloc_below _ _)
   obtain ⟨cB, hcB⟩ : ∃ cB, V.heap.size = cB := ⟨_, rfl⟩
   rw [hcB] at HX HBX
   have HZcB := hide hcB
   have HA2 := hide (below_box (show Below V.heap.size V X by rw [hX]; exact alloc_below _ _) HV.out)
   have HBW : Hid (Below W.heap.size W X) := hide (by rw [hX, hV]; exact (alloc_below _ _).trans ((alloc_below _ _).mono (by simp)))
   have hs0 : V.heap.size = bB + 1 := by rw [hV, ← hbB]; simp
   have hrb : bB + 1 = cB := by omega
   clear HV HBV HBX
   go_enter Try.func51, Try.ntmps51
   go_upto_region 1 with fail
   try rw [hbB]
   try rw [hrb]
   rw [← hV, ← hX]
   try rw [hcB]
   clear hV hX hbB hcB hs0 hrb; have u0 := cellB HA2.out (i := 0) rfl; have u1 := cellB HA2.out (i := 1) rfl; have u2 := cellB HA2.out (i := 2) rfl; have u3 := cellB HA2.out (i := 3) rfl; have u4 := cellB HA2.out (i := 4) rfl; have v0 := cellB HX.out (i := 0) rfl; have v1 := cellB HX.out (i := 1) rfl; have v2 := cellB HX.out (i := 2) rfl; have v3 := cellB HX.out (i := 3) rfl; have v4 := cellB HX.out (i := 4) rfl
   refine region_class (fun Y => Below X.heap.size X Y) (by kernel_rfl) (by kernel_rfl) (Below.refl _ X).drew ?_
   repeat
    first
     | (refine BigFrame.wpQuiet_skip (by rfl) ?_
        simp only [Act.put, List.setIfInBounds_toArray, List.set_cons_zero, List.set_cons_succ])
     | (refine BigFrame.wpQuiet_want (by rfl) (fun K hK => ?_)
        unfold Oper.quiet
        apply Exists.intro
        refine ⟨fun Y hY => ?_, hK _ ?_⟩
        · have hB := HBW.out.trans (hY.mono HBW.out.size)
          have l0 := cell_later hY u0
          have m0 := cell_later hY v0
          have l1 := cell_later hY u1
          have m1 := cell_later hY v1
          have l2 := cell_later hY u2
          have m2 := cell_later hY v2
          have l3 := cell_later hY u3
          have m3 := cell_later hY v3
          have l4 := cell_later hY u4
          have m4 := cell_later hY v4
          first
           | (go_simp; done)
           | (go_simp; exact rfl)
           | (go_simp
              first
              | (go_at_call 50; refine name_any.mono ?_; rintro e w3 ⟨rfl, hb3⟩; exact ⟨rfl, hY.trans (hb3.mono hY.size)⟩)
             )
        clear hK K
        simp only [Act.put, List.setIfInBounds_toArray, List.set_cons_zero, List.set_cons_succ])
   refine wpQuiet_nil (fun Y hY => ?_)
   have HBE := hide (HBW.out.trans (hY.mono HBW.out.size)); clear hY; go_wp2; go_ret
   exact ⟨by rw [HR.out]; rfl, HBE.out⟩
end Go.Proofs.Ytboofnkajjnmeaa
