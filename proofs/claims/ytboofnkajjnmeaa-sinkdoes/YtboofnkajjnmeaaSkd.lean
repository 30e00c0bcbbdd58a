/-
 Which transactions may be: mayBe of the program, May of the reference. The conditions: that their lists lie there.
-/
import Derived.Test.YtboofnkajjnmeaaSkc
namespace Go.Proofs.Ytboofnkajjnmeaa
open Go.RowKit

set_option maxRecDepth 100000 in
set_option maxHeartbeats 2000000 in
theorem mayBe_any {W : World} {ep id bg : Int} {rp vp : Option Addr} {rn rc vn vc : Nat} {rs : List RC} {vs : List Int} {parts : Int} (hv : NRow W vp vc vs) (hrn : rs.length = rn) (hvn : vs.length = vn) {rb : Bool} (hrb : decide (mayC parts ⟨ep, id, bg, rs, vs⟩) = rb) :
  Calls Try.prog 49 #[.agg #[.int .i64 ep, .int .i64 id, .int .i64 bg, .slice rp rn rc, .slice vp vn vc], .int .i64 parts] W fun e w' => e = .returned (.bool rb) ∧ Below W.heap.size W w' := by
 ·
  by_cases c0 : posI ep
  ·
   by_cases c1 : posI id
   ·
    by_cases c2 : 0 ≤ bg
    ·
     by_cases c3 : bg ≤ 4096
     ·
      by_cases c4 : rn ≤ 4096
      ·
       by_cases c5 : vecI parts vs
       ·
        have HR : Hid (rb = true) := hide (by
          rw [← hrb]
          exact decide_eq_true ⟨c0, c1, c2, c3, by show rs.length ≤ 4096; omega, c5⟩)
        have C0 := hide c0; have C1 := hide c1; have C5 := hide c5
        have e2 : decide (bg ≥ 0) = true := decide_eq_true c2
        have e3 : decide (bg ≤ 4096) = true := decide_eq_true c3
        have e4 : decide ((rn : Int) ≤ 4096) = true := decide_eq_true (by omega)
        have e5 : decide (rn ≤ 4096) = true := decide_eq_true c4
        clear hrb hrn c0 c1 c2 c3 c4 c5; have HN := hide hv; have HVN := hide hvn; clear hv hvn
        obtain ⟨V, hV⟩ : ∃ V, V = W.alloc (.cells #[.int .i64 ep, .int .i64 id, .int .i64 bg, .slice rp rn rc, .slice vp vn vc] 34 (0, 0)) := ⟨_, rfl⟩
        have HV : Hid (V.heap[W.heap.size]? = some (.cells #[.int .i64 ep, .int .i64 id, .int .i64 bg, .slice rp rn rc, .slice vp vn vc] 34 (0, 0))) := hide (by rw [hV]; exact heap_alloc_new W _)
        have HBV : Hid (Below W.heap.size W V) := hide (by rw [hV]; exact alloc_below _ _)
        obtain ⟨bB, hbB⟩ : ∃ bB, W.heap.size = bB := ⟨_, rfl⟩
        rw [hbB] at HV HBV
        have HZbB := hide hbB
        go_enter Try.func49, Try.ntmps49
        go_upto_region 1 with fail
        rw [← hV]
        try rw [hbB]
        clear hV hbB; have u0 := cellB HV.out (i := 0) rfl; have u1 := cellB HV.out (i := 1) rfl; have u2 := cellB HV.out (i := 2) rfl; have u3 := cellB HV.out (i := 3) rfl; have u4 := cellB HV.out (i := 4) rfl
        go_wp2_with fail
        refine (name_any).mono ?_
        rintro _ w1 ⟨rfl, bb⟩
        have HV1 := hide (below_box bb HV.out); have HBV1 := hide (below_next HBV.out bb (Nat.le_of_lt (box_lt HV.out))); clear bb HV HBV u0 u1 u2 u3 u4; have u0 := cellB HV1.out (i := 0) rfl; have u1 := cellB HV1.out (i := 1) rfl; have u2 := cellB HV1.out (i := 2) rfl; have u3 := cellB HV1.out (i := 3) rfl; have u4 := cellB HV1.out (i := 4) rfl
        go_wp2_with fail
        refine (isName_any (decide_eq_true ⟨C0.out, C1.out⟩)).mono ?_
        rintro _ w2 ⟨rfl, bb⟩
        have HV2 := hide (below_box bb HV1.out); have HBV2 := hide (below_next HBV1.out bb (Nat.le_of_lt (box_lt HV1.out))); clear bb HV1 HBV1 u0 u1 u2 u3 u4; have u0 := cellB HV2.out (i := 0) rfl; have u1 := cellB HV2.out (i := 1) rfl; have u2 := cellB HV2.out (i := 2) rfl; have u3 := cellB HV2.out (i := 3) rfl; have u4 := cellB HV2.out (i := 4) rfl; have HN2 := hide (NRow.later HN.out (by rw [HZbB.out]; exact HBV2.out))
        go_wp2_with fail
        refine (isVector_any HN2.out HVN.out (decide_eq_true C5.out)).mono ?_
        rintro _ w3 ⟨rfl, bb⟩
        have HV3 := hide (below_box bb HV2.out); have HBV3 := hide (below_next HBV2.out bb (Nat.le_of_lt (box_lt HV2.out))); clear bb HV2 HBV2 u0 u1 u2 u3 u4; have u0 := cellB HV3.out (i := 0) rfl; have u1 := cellB HV3.out (i := 1) rfl; have u2 := cellB HV3.out (i := 2) rfl; have u3 := cellB HV3.out (i := 3) rfl; have u4 := cellB HV3.out (i := 4) rfl; go_wp2; go_ret
        exact ⟨by rw [HR.out]; rfl, by rw [HZbB.out]; exact HBV3.out⟩
       ·
        have HR : Hid (rb = false) := hide (by
          rw [← hrb]
          exact decide_eq_false (fun h => c5 h.2.2.2.2.2))
        have C0 := hide c0; have C1 := hide c1; have C5 := hide c5
        have e2 : decide (bg ≥ 0) = true := decide_eq_true c2
        have e3 : decide (bg ≤ 4096) = true := decide_eq_true c3
        have e4 : decide ((rn : Int) ≤ 4096) = true := decide_eq_true (by omega)
        have e5 : decide (rn ≤ 4096) = true := decide_eq_true c4
        clear hrb hrn c0 c1 c2 c3 c4 c5; have HN := hide hv; have HVN := hide hvn; clear hv hvn
        obtain ⟨V, hV⟩ : ∃ V, V = W.alloc (.cells #[.int .i64 ep, .int .i64 id, .int .i64 bg, .slice rp rn rc, .slice vp vn vc] 34 (0, 0)) := ⟨_, rfl⟩
        have HV : Hid (V.heap[W.heap.size]? = some (.cells #[.int .i64 ep, .int .i64 id, .int .i64 bg, .slice rp rn rc, .slice vp vn vc] 34 (0, 0))) := hide (by rw [hV]; exact heap_alloc_new W _)
        have HBV : Hid (Below W.heap.size W V) := hide (by rw [hV]; exact alloc_below _ _)
        obtain ⟨bB, hbB⟩ : ∃ bB, W.heap.size = bB := ⟨_, rfl⟩
        rw [hbB] at HV HBV
        have HZbB := hide hbB
        go_enter Try.func49, Try.ntmps49
        go_upto_region 1 with fail
        rw [← hV]
        try rw [hbB]
        clear hV hbB; have u0 := cellB HV.out (i := 0) rfl; have u1 := cellB HV.out (i := 1) rfl; have u2 := cellB HV.out (i := 2) rfl; have u3 := cellB HV.out (i := 3) rfl; have u4 := cellB HV.out (i := 4) rfl
        go_wp2_with fail
        refine (name_any).mono ?_
        rintro _ w1 ⟨rfl, bb⟩
        have HV1 := hide (below_box bb HV.out); have HBV1 := hide (below_next HBV.out bb (Nat.le_of_lt (box_lt HV.out))); clear bb HV HBV u0 u1 u2 u3 u4; have u0 := cellB HV1.out (i := 0) rfl; have u1 := cellB HV1.out (i := 1) rfl; have u2 := cellB HV1.out (i := 2) rfl; have u3 := cellB HV1.out (i := 3) rfl; have u4 := cellB HV1.out (i := 4) rfl
        go_wp2_with fail
        refine (isName_any (decide_eq_true ⟨C0.out, C1.out⟩)).mono ?_
        rintro _ w2 ⟨rfl, bb⟩
        have HV2 := hide (below_box bb HV1.out); have HBV2 := hide (below_next HBV1.out bb (Nat.le_of_lt (box_lt HV1.out))); clear bb HV1 HBV1 u0 u1 u2 u3 u4; have u0 := cellB HV2.out (i := 0) rfl; have u1 := cellB HV2.out (i := 1) rfl; have u2 := cellB HV2.out (i := 2) rfl; have u3 := cellB HV2.out (i := 3) rfl; have u4 := cellB HV2.out (i := 4) rfl; have HN2 := hide (NRow.later HN.out (by rw [HZbB.out]; exact HBV2.out))
        go_wp2_with fail
        refine (isVector_any HN2.out HVN.out (decide_eq_false C5.out)).mono ?_
        rintro _ w3 ⟨rfl, bb⟩
        have HV3 := hide (below_box bb HV2.out); have HBV3 := hide (below_next HBV2.out bb (Nat.le_of_lt (box_lt HV2.out))); clear bb HV2 HBV2 u0 u1 u2 u3 u4; have u0 := cellB HV3.out (i := 0) rfl; have u1 := cellB HV3.out (i := 1) rfl; have u2 := cellB HV3.out (i := 2) rfl; have u3 := cellB HV3.out (i := 3) rfl; have u4 := cellB HV3.out (i := 4) rfl; go_wp2; go_ret
        exact ⟨by rw [HR.out]; rfl, by rw [HZbB.out]; exact HBV3.out⟩
      ·
       have HR : Hid (rb = false) := hide (by
         rw [← hrb]
         exact decide_eq_false (fun h => c4 (by have h9 : rs.length ≤ 4096 := h.2.2.2.2.1; omega)))
       have C0 := hide c0; have C1 := hide c1
       have e2 : decide (bg ≥ 0) = true := decide_eq_true c2
       have e3 : decide (bg ≤ 4096) = true := decide_eq_true c3
       have e4 : decide ((rn : Int) ≤ 4096) = false := decide_eq_false (by omega)
       have e5 : decide (rn ≤ 4096) = false := decide_eq_false c4
       clear hrb hrn c0 c1 c2 c3 c4; have HN := hide hv; have HVN := hide hvn; clear hv hvn
       obtain ⟨V, hV⟩ : ∃ V, V = W.alloc (.cells #[.int .i64 ep, .int .i64 id, .int .i64 bg, .slice rp rn rc, .slice vp vn vc] 34 (0, 0)) := ⟨_, rfl⟩
       have HV : Hid (V.heap[W.heap.size]? = some (.cells #[.int .i64 ep, .int .i64 id, .int .i64 bg, .slice rp rn rc, .slice vp vn vc] 34 (0, 0))) := hide (by rw [hV]; exact heap_alloc_new W _)
       have HBV : Hid (Below W.heap.size W V) := hide (by rw [hV]; exact alloc_below _ _)
       obtain ⟨bB, hbB⟩ : ∃ bB, W.heap.size = bB := ⟨_, rfl⟩
       rw [hbB] at HV HBV
       have HZbB := hide hbB
       go_enter Try.func49, Try.ntmps49
       go_upto_region 1 with fail
       rw [← hV]
       try rw [hbB]
       clear hV hbB; have u0 := cellB HV.out (i := 0) rfl; have u1 := cellB HV.out (i := 1) rfl; have u2 := cellB HV.out (i := 2) rfl; have u3 := cellB HV.out (i := 3) rfl; have u4 := cellB HV.out (i := 4) rfl
       go_wp2_with fail
       refine (name_any).mono ?_
       rintro _ w1 ⟨rfl, bb⟩
       have HV1 := hide (below_box bb HV.out); have HBV1 := hide (below_next HBV.out bb (Nat.le_of_lt (box_lt HV.out))); clear bb HV HBV u0 u1 u2 u3 u4; have u0 := cellB HV1.out (i := 0) rfl; have u1 := cellB HV1.out (i := 1) rfl; have u2 := cellB HV1.out (i := 2) rfl; have u3 := cellB HV1.out (i := 3) rfl; have u4 := cellB HV1.out (i := 4) rfl
       go_wp2_with fail
       refine (isName_any (decide_eq_true ⟨C0.out, C1.out⟩)).mono ?_
       rintro _ w2 ⟨rfl, bb⟩
       have HV2 := hide (below_box bb HV1.out); have HBV2 := hide (below_next HBV1.out bb (Nat.le_of_lt (box_lt HV1.out))); clear bb HV1 HBV1 u0 u1 u2 u3 u4; have u0 := cellB HV2.out (i := 0) rfl; have u1 := cellB HV2.out (i := 1) rfl; have u2 := cellB HV2.out (i := 2) rfl; have u3 := cellB HV2.out (i := 3) rfl; have u4 := cellB HV2.out (i := 4) rfl; go_wp2; go_ret
       exact ⟨by rw [HR.out]; rfl, by rw [HZbB.out]; exact HBV2.out⟩
     ·
      have HR : Hid (rb = false) := hide (by
        rw [← hrb]
        exact decide_eq_false (fun h => c3 h.2.2.2.1))
      have C0 := hide c0; have C1 := hide c1
      have e2 : decide (bg ≥ 0) = true := decide_eq_true c2
      have e3 : decide (bg ≤ 4096) = false := decide_eq_false c3
      clear hrb hrn c0 c1 c2 c3; have HN := hide hv; have HVN := hide hvn; clear hv hvn
      obtain ⟨V, hV⟩ : ∃ V, V = W.alloc (.cells #[.int .i64 ep, .int .i64 id, .int .i64 bg, .slice rp rn rc, .slice vp vn vc] 34 (0, 0)) := ⟨_, rfl⟩
      have HV : Hid (V.heap[W.heap.size]? = some (.cells #[.int .i64 ep, .int .i64 id, .int .i64 bg, .slice rp rn rc, .slice vp vn vc] 34 (0, 0))) := hide (by rw [hV]; exact heap_alloc_new W _)
      have HBV : Hid (Below W.heap.size W V) := hide (by rw [hV]; exact alloc_below _ _)
      obtain ⟨bB, hbB⟩ : ∃ bB, W.heap.size = bB := ⟨_, rfl⟩
      rw [hbB] at HV HBV
      have HZbB := hide hbB
      go_enter Try.func49, Try.ntmps49
      go_upto_region 1 with fail
      rw [← hV]
      try rw [hbB]
      clear hV hbB; have u0 := cellB HV.out (i := 0) rfl; have u1 := cellB HV.out (i := 1) rfl; have u2 := cellB HV.out (i := 2) rfl; have u3 := cellB HV.out (i := 3) rfl; have u4 := cellB HV.out (i := 4) rfl
      go_wp2_with fail
      refine (name_any).mono ?_
      rintro _ w1 ⟨rfl, bb⟩
      have HV1 := hide (below_box bb HV.out); have HBV1 := hide (below_next HBV.out bb (Nat.le_of_lt (box_lt HV.out))); clear bb HV HBV u0 u1 u2 u3 u4; have u0 := cellB HV1.out (i := 0) rfl; have u1 := cellB HV1.out (i := 1) rfl; have u2 := cellB HV1.out (i := 2) rfl; have u3 := cellB HV1.out (i := 3) rfl; have u4 := cellB HV1.out (i := 4) rfl
      go_wp2_with fail
      refine (isName_any (decide_eq_true ⟨C0.out, C1.out⟩)).mono ?_
      rintro _ w2 ⟨rfl, bb⟩
      have HV2 := hide (below_box bb HV1.out); have HBV2 := hide (below_next HBV1.out bb (Nat.le_of_lt (box_lt HV1.out))); clear bb HV1 HBV1 u0 u1 u2 u3 u4; have u0 := cellB HV2.out (i := 0) rfl; have u1 := cellB HV2.out (i := 1) rfl; have u2 := cellB HV2.out (i := 2) rfl; have u3 := cellB HV2.out (i := 3) rfl; have u4 := cellB HV2.out (i := 4) rfl; go_wp2; go_ret
      exact ⟨by rw [HR.out]; rfl, by rw [HZbB.out]; exact HBV2.out⟩
    ·
     have HR : Hid (rb = false) := hide (by
       rw [← hrb]
       exact decide_eq_false (fun h => c2 h.2.2.1))
     have C0 := hide c0; have C1 := hide c1
     have e2 : decide (bg ≥ 0) = false := decide_eq_false c2
     clear hrb hrn c0 c1 c2; have HN := hide hv; have HVN := hide hvn; clear hv hvn
     obtain ⟨V, hV⟩ : ∃ V, V = W.alloc (.cells #[.int .i64 ep, .int .i64 id, .int .i64 bg, .slice rp rn rc, .slice vp vn vc] 34 (0, 0)) := ⟨_, rfl⟩
     have HV : Hid (V.heap[W.heap.size]? = some (.cells #[.int .i64 ep, .int .i64 id, .int .i64 bg, .slice rp rn rc, .slice vp vn vc] 34 (0, 0))) := hide (by rw [hV]; exact heap_alloc_new W _)
     have HBV : Hid (Below W.heap.size W V) := hide (by rw [hV]; exact alloc_below _ _)
     obtain ⟨bB, hbB⟩ : ∃ bB, W.heap.size = bB := ⟨_, rfl⟩
     rw [hbB] at HV HBV
     have HZbB := hide hbB
     go_enter Try.func49, Try.ntmps49
     go_upto_region 1 with fail
     rw [← hV]
     try rw [hbB]
     clear hV hbB; have u0 := cellB HV.out (i := 0) rfl; have u1 := cellB HV.out (i := 1) rfl; have u2 := cellB HV.out (i := 2) rfl; have u3 := cellB HV.out (i := 3) rfl; have u4 := cellB HV.out (i := 4) rfl
     go_wp2_with fail
     refine (name_any).mono ?_
     rintro _ w1 ⟨rfl, bb⟩
     have HV1 := hide (below_box bb HV.out); have HBV1 := hide (below_next HBV.out bb (Nat.le_of_lt (box_lt HV.out))); clear bb HV HBV u0 u1 u2 u3 u4; have u0 := cellB HV1.out (i := 0) rfl; have u1 := cellB HV1.out (i := 1) rfl; have u2 := cellB HV1.out (i := 2) rfl; have u3 := cellB HV1.out (i := 3) rfl; have u4 := cellB HV1.out (i := 4) rfl
     go_wp2_with fail
     refine (isName_any (decide_eq_true ⟨C0.out, C1.out⟩)).mono ?_
     rintro _ w2 ⟨rfl, bb⟩
     have HV2 := hide (below_box bb HV1.out); have HBV2 := hide (below_next HBV1.out bb (Nat.le_of_lt (box_lt HV1.out))); clear bb HV1 HBV1 u0 u1 u2 u3 u4; have u0 := cellB HV2.out (i := 0) rfl; have u1 := cellB HV2.out (i := 1) rfl; have u2 := cellB HV2.out (i := 2) rfl; have u3 := cellB HV2.out (i := 3) rfl; have u4 := cellB HV2.out (i := 4) rfl; go_wp2; go_ret
     exact ⟨by rw [HR.out]; rfl, by rw [HZbB.out]; exact HBV2.out⟩
   ·
    have HR : Hid (rb = false) := hide (by
      rw [← hrb]
      exact decide_eq_false (fun h => c1 h.2.1))
    have C0 := hide c0; have C1 := hide c1; clear hrb hrn c0 c1; have HN := hide hv; have HVN := hide hvn; clear hv hvn
    obtain ⟨V, hV⟩ : ∃ V, V = W.alloc (.cells #[.int .i64 ep, .int .i64 id, .int .i64 bg, .slice rp rn rc, .slice vp vn vc] 34 (0, 0)) := ⟨_, rfl⟩
    have HV : Hid (V.heap[W.heap.size]? = some (.cells #[.int .i64 ep, .int .i64 id, .int .i64 bg, .slice rp rn rc, .slice vp vn vc] 34 (0, 0))) := hide (by rw [hV]; exact heap_alloc_new W _)
    have HBV : Hid (Below W.heap.size W V) := hide (by rw [hV]; exact alloc_below _ _)
    obtain ⟨bB, hbB⟩ : ∃ bB, W.heap.size = bB := ⟨_, rfl⟩
    rw [hbB] at HV HBV
    have HZbB := hide hbB
    go_enter Try.func49, Try.ntmps49
    go_upto_region 1 with fail
    rw [← hV]
    try rw [hbB]
    clear hV hbB; have u0 := cellB HV.out (i := 0) rfl; have u1 := cellB HV.out (i := 1) rfl; have u2 := cellB HV.out (i := 2) rfl; have u3 := cellB HV.out (i := 3) rfl; have u4 := cellB HV.out (i := 4) rfl
    go_wp2_with fail
    refine (name_any).mono ?_
    rintro _ w1 ⟨rfl, bb⟩
    have HV1 := hide (below_box bb HV.out); have HBV1 := hide (below_next HBV.out bb (Nat.le_of_lt (box_lt HV.out))); clear bb HV HBV u0 u1 u2 u3 u4; have u0 := cellB HV1.out (i := 0) rfl; have u1 := cellB HV1.out (i := 1) rfl; have u2 := cellB HV1.out (i := 2) rfl; have u3 := cellB HV1.out (i := 3) rfl; have u4 := cellB HV1.out (i := 4) rfl
    go_wp2_with fail
    refine (isName_any (decide_eq_false (fun h => C1.out h.2))).mono ?_
    rintro _ w2 ⟨rfl, bb⟩
    have HV2 := hide (below_box bb HV1.out); have HBV2 := hide (below_next HBV1.out bb (Nat.le_of_lt (box_lt HV1.out))); clear bb HV1 HBV1 u0 u1 u2 u3 u4; have u0 := cellB HV2.out (i := 0) rfl; have u1 := cellB HV2.out (i := 1) rfl; have u2 := cellB HV2.out (i := 2) rfl; have u3 := cellB HV2.out (i := 3) rfl; have u4 := cellB HV2.out (i := 4) rfl; go_wp2; go_ret
    exact ⟨by rw [HR.out]; rfl, by rw [HZbB.out]; exact HBV2.out⟩
  ·
   have HR : Hid (rb = false) := hide (by
     rw [← hrb]
     exact decide_eq_false (fun h => c0 h.1))
   have C0 := hide c0; clear hrb hrn c0; have HN := hide hv; have HVN := hide hvn; clear hv hvn
   obtain ⟨V, hV⟩ : ∃ V, V = W.alloc (.cells #[.int .i64 ep, .int .i64 id, .int .i64 bg, .slice rp rn rc, .slice vp vn vc] 34 (0, 0)) := ⟨_, rfl⟩
   have HV : Hid (V.heap[W.heap.size]? = some (.cells #[.int .i64 ep, .int .i64 id, .int .i64 bg, .slice rp rn rc, .slice vp vn vc] 34 (0, 0))) := hide (by rw [hV]; exact heap_alloc_new W _)
   have HBV : Hid (Below W.heap.size W V) := hide (by rw [hV]; exact alloc_below _ _)
   obtain ⟨bB, hbB⟩ : ∃ bB, W.heap.size = bB := ⟨_, rfl⟩
   rw [hbB] at HV HBV
   have HZbB := hide hbB
   go_enter Try.func49, Try.ntmps49
   go_upto_region 1 with fail
   rw [← hV]
   try rw [hbB]
   clear hV hbB; have u0 := cellB HV.out (i := 0) rfl; have u1 := cellB HV.out (i := 1) rfl; have u2 := cellB HV.out (i := 2) rfl; have u3 := cellB HV.out (i := 3) rfl; have u4 := cellB HV.out (i := 4) rfl
   go_wp2_with fail
   refine (name_any).mono ?_
   rintro _ w1 ⟨rfl, bb⟩
   have HV1 := hide (below_box bb HV.out); have HBV1 := hide (below_next HBV.out bb (Nat.le_of_lt (box_lt HV.out))); clear bb HV HBV u0 u1 u2 u3 u4; have u0 := cellB HV1.out (i := 0) rfl; have u1 := cellB HV1.out (i := 1) rfl; have u2 := cellB HV1.out (i := 2) rfl; have u3 := cellB HV1.out (i := 3) rfl; have u4 := cellB HV1.out (i := 4) rfl
   go_wp2_with fail
   refine (isName_any (decide_eq_false (fun h => C0.out h.1))).mono ?_
   rintro _ w2 ⟨rfl, bb⟩
   have HV2 := hide (below_box bb HV1.out); have HBV2 := hide (below_next HBV1.out bb (Nat.le_of_lt (box_lt HV1.out))); clear bb HV1 HBV1 u0 u1 u2 u3 u4; have u0 := cellB HV2.out (i := 0) rfl; have u1 := cellB HV2.out (i := 1) rfl; have u2 := cellB HV2.out (i := 2) rfl; have u3 := cellB HV2.out (i := 3) rfl; have u4 := cellB HV2.out (i := 4) rfl; go_wp2; go_ret
   exact ⟨by rw [HR.out]; rfl, by rw [HZbB.out]; exact HBV2.out⟩
set_option maxRecDepth 100000 in
set_option maxHeartbeats 2000000 in
theorem rMay_any {W : World} {ep id bg : Int} {rp vp : Option Addr} {rn rc vn vc : Nat} {rs : List RC} {vs : List Int} {parts : Int} {b : Nat} (hB : W.cell? ⟨b, 0, none⟩ = some (.int .i64 parts)) (hv : NRow W vp vc vs) (hrn : rs.length = rn) (hvn : vs.length = vn) {rb : Bool} (hrb : decide (mayC parts ⟨ep, id, bg, rs, vs⟩) = rb) :
  Calls Try.prog 24 #[.pointer (some ⟨b, 0, none⟩), .agg #[.int .i64 ep, .int .i64 id, .int .i64 bg, .slice rp rn rc, .slice vp vn vc]] W fun e w' => e = .returned (.bool rb) ∧ Below W.heap.size W w' := by
 ·
  by_cases c0 : posI ep
  ·
   by_cases c1 : posI id
   ·
    by_cases c2 : 0 ≤ bg
    ·
     by_cases c3 : bg ≤ 4096
     ·
      by_cases c4 : rn ≤ 4096
      ·
       by_cases c5 : vecI parts vs
       ·
        have HR : Hid (rb = true) := hide (by
          rw [← hrb]
          exact decide_eq_true ⟨c0, c1, c2, c3, by show rs.length ≤ 4096; omega, c5⟩)
        have C0 := hide c0; have C1 := hide c1; have C5 := hide c5
        have e2 : decide (bg ≥ 0) = true := decide_eq_true c2
        have e3 : decide (bg ≤ 4096) = true := decide_eq_true c3
        have e4 : decide ((rn : Int) ≤ 4096) = true := decide_eq_true (by omega)
        have e5 : decide (rn ≤ 4096) = true := decide_eq_true c4
        clear hrb hrn c0 c1 c2 c3 c4 c5; have HN := hide hv; have HVN := hide hvn; clear hv hvn; have HPB := hide hB; clear hB
        obtain ⟨V, hV⟩ : ∃ V, V = W.alloc (.cells #[.int .i64 ep, .int .i64 id, .int .i64 bg, .slice rp rn rc, .slice vp vn vc] 34 (0, 0)) := ⟨_, rfl⟩
        have HV : Hid (V.heap[W.heap.size]? = some (.cells #[.int .i64 ep, .int .i64 id, .int .i64 bg, .slice rp rn rc, .slice vp vn vc] 34 (0, 0))) := hide (by rw [hV]; exact heap_alloc_new W _)
        have HBV : Hid (Below W.heap.size W V) := hide (by rw [hV]; exact alloc_below _ _)
        obtain ⟨bB, hbB⟩ : ∃ bB, W.heap.size = bB := ⟨_, rfl⟩
        rw [hbB] at HV HBV
        have HZbB := hide hbB
        go_enter Try.func24, Try.ntmps24
        go_upto_region 1 with fail
        rw [← hV]
        try rw [hbB]
        clear hV hbB; have u0 := cellB HV.out (i := 0) rfl; have u1 := cellB HV.out (i := 1) rfl; have u2 := cellB HV.out (i := 2) rfl; have u3 := cellB HV.out (i := 3) rfl; have u4 := cellB HV.out (i := 4) rfl
        go_wp2_with fail
        refine (pos_any (decide_eq_true C0.out)).mono ?_
        rintro _ _ ⟨rfl, rfl⟩
        go_wp2_with fail
        refine (pos_any (decide_eq_true C1.out)).mono ?_
        rintro _ _ ⟨rfl, rfl⟩
        have hb2 := HBV.out
        rw [← HZbB.out] at hb2
        have HB2 := hide hb2; clear hb2; have HN2 := hide (NRow.later HN.out HB2.out); have HPB2 := hide (cell_later HB2.out HPB.out)
        go_wp2_with fail
        refine (vector_any HPB2.out HN2.out HVN.out (decide_eq_true C5.out)).mono ?_
        rintro _ w3 ⟨rfl, bb⟩
        have HV3 := hide (below_box bb HV.out); have HBV3 := hide (below_next HBV.out bb (Nat.le_of_lt (box_lt HV.out))); clear bb HV HBV u0 u1 u2 u3 u4; have u0 := cellB HV3.out (i := 0) rfl; have u1 := cellB HV3.out (i := 1) rfl; have u2 := cellB HV3.out (i := 2) rfl; have u3 := cellB HV3.out (i := 3) rfl; have u4 := cellB HV3.out (i := 4) rfl; go_wp2; go_ret
        exact ⟨by rw [HR.out]; rfl, by rw [HZbB.out]; exact HBV3.out⟩
       ·
        have HR : Hid (rb = false) := hide (by
          rw [← hrb]
          exact decide_eq_false (fun h => c5 h.2.2.2.2.2))
        have C0 := hide c0; have C1 := hide c1; have C5 := hide c5
        have e2 : decide (bg ≥ 0) = true := decide_eq_true c2
        have e3 : decide (bg ≤ 4096) = true := decide_eq_true c3
        have e4 : decide ((rn : Int) ≤ 4096) = true := decide_eq_true (by omega)
        have e5 : decide (rn ≤ 4096) = true := decide_eq_true c4
        clear hrb hrn c0 c1 c2 c3 c4 c5; have HN := hide hv; have HVN := hide hvn; clear hv hvn; have HPB := hide hB; clear hB
        obtain ⟨V, hV⟩ : ∃ V, V = W.alloc (.cells #[.int .i64 ep, .int .i64 id, .int .i64 bg, .slice rp rn rc, .slice vp vn vc] 34 (0, 0)) := ⟨_, rfl⟩
        have HV : Hid (V.heap[W.heap.size]? = some (.cells #[.int .i64 ep, .int .i64 id, .int .i64 bg, .slice rp rn rc, .slice vp vn vc] 34 (0, 0))) := hide (by rw [hV]; exact heap_alloc_new W _)
        have HBV : Hid (Below W.heap.size W V) := hide (by rw [hV]; exact alloc_below _ _)
        obtain ⟨bB, hbB⟩ : ∃ bB, W.heap.size = bB := ⟨_, rfl⟩
        rw [hbB] at HV HBV
        have HZbB := hide hbB
        go_enter Try.func24, Try.ntmps24
        go_upto_region 1 with fail
        rw [← hV]
        try rw [hbB]
        clear hV hbB; have u0 := cellB HV.out (i := 0) rfl; have u1 := cellB HV.out (i := 1) rfl; have u2 := cellB HV.out (i := 2) rfl; have u3 := cellB HV.out (i := 3) rfl; have u4 := cellB HV.out (i := 4) rfl
        go_wp2_with fail
        refine (pos_any (decide_eq_true C0.out)).mono ?_
        rintro _ _ ⟨rfl, rfl⟩
        go_wp2_with fail
        refine (pos_any (decide_eq_true C1.out)).mono ?_
        rintro _ _ ⟨rfl, rfl⟩
        have hb2 := HBV.out
        rw [← HZbB.out] at hb2
        have HB2 := hide hb2; clear hb2; have HN2 := hide (NRow.later HN.out HB2.out); have HPB2 := hide (cell_later HB2.out HPB.out)
        go_wp2_with fail
        refine (vector_any HPB2.out HN2.out HVN.out (decide_eq_false C5.out)).mono ?_
        rintro _ w3 ⟨rfl, bb⟩
        have HV3 := hide (below_box bb HV.out); have HBV3 := hide (below_next HBV.out bb (Nat.le_of_lt (box_lt HV.out))); clear bb HV HBV u0 u1 u2 u3 u4; have u0 := cellB HV3.out (i := 0) rfl; have u1 := cellB HV3.out (i := 1) rfl; have u2 := cellB HV3.out (i := 2) rfl; have u3 := cellB HV3.out (i := 3) rfl; have u4 := cellB HV3.out (i := 4) rfl; go_wp2; go_ret
        exact ⟨by rw [HR.out]; rfl, by rw [HZbB.out]; exact HBV3.out⟩
      ·
       have HR : Hid (rb = false) := hide (by
         rw [← hrb]
         exact decide_eq_false (fun h => c4 (by have h9 : rs.length ≤ 4096 := h.2.2.2.2.1; omega)))
       have C0 := hide c0; have C1 := hide c1
       have e2 : decide (bg ≥ 0) = true := decide_eq_true c2
       have e3 : decide (bg ≤ 4096) = true := decide_eq_true c3
       have e4 : decide ((rn : Int) ≤ 4096) = false := decide_eq_false (by omega)
       have e5 : decide (rn ≤ 4096) = false := decide_eq_false c4
       clear hrb hrn c0 c1 c2 c3 c4; have HN := hide hv; have HVN := hide hvn; clear hv hvn; have HPB := hide hB; clear hB
       obtain ⟨V, hV⟩ : ∃ V, V = W.alloc (.cells #[.int .i64 ep, .int .i64 id, .int .i64 bg, .slice rp rn rc, .slice vp vn vc] 34 (0, 0)) := ⟨_, rfl⟩
       have HV : Hid (V.heap[W.heap.size]? = some (.cells #[.int .i64 ep, .int .i64 id, .int .i64 bg, .slice rp rn rc, .slice vp vn vc] 34 (0, 0))) := hide (by rw [hV]; exact heap_alloc_new W _)
       have HBV : Hid (Below W.heap.size W V) := hide (by rw [hV]; exact alloc_below _ _)
       obtain ⟨bB, hbB⟩ : ∃ bB, W.heap.size = bB := ⟨_, rfl⟩
       rw [hbB] at HV HBV
       have HZbB := hide hbB
       go_enter Try.func24, Try.ntmps24
       go_upto_region 1 with fail
       rw [← hV]
       try rw [hbB]
       clear hV hbB; have u0 := cellB HV.out (i := 0) rfl; have u1 := cellB HV.out (i := 1) rfl; have u2 := cellB HV.out (i := 2) rfl; have u3 := cellB HV.out (i := 3) rfl; have u4 := cellB HV.out (i := 4) rfl
       go_wp2_with fail
       refine (pos_any (decide_eq_true C0.out)).mono ?_
       rintro _ _ ⟨rfl, rfl⟩
       go_wp2_with fail
       refine (pos_any (decide_eq_true C1.out)).mono ?_
       rintro _ _ ⟨rfl, rfl⟩
       go_wp2
       go_ret
       exact ⟨by rw [HR.out]; rfl, by rw [HZbB.out]; exact HBV.out⟩
     ·
      have HR : Hid (rb = false) := hide (by
        rw [← hrb]
        exact decide_eq_false (fun h => c3 h.2.2.2.1))
      have C0 := hide c0; have C1 := hide c1
      have e2 : decide (bg ≥ 0) = true := decide_eq_true c2
      have e3 : decide (bg ≤ 4096) = false := decide_eq_false c3
      clear hrb hrn c0 c1 c2 c3; have HN := hide hv; have HVN := hide hvn; clear hv hvn; have HPB := hide hB; clear hB
      obtain ⟨V, hV⟩ : ∃ V, V = W.alloc (.cells #[.int .i64 ep, .int .i64 id, .int .i64 bg, .slice rp rn rc, .slice vp vn vc] 34 (0, 0)) := ⟨_, rfl⟩
      have HV : Hid (V.heap[W.heap.size]? = some (.cells #[.int .i64 ep, .int .i64 id, .int .i64 bg, .slice rp rn rc, .slice vp vn vc] 34 (0, 0))) := hide (by rw [hV]; exact heap_alloc_new W _)
      have HBV : Hid (Below W.heap.size W V) := hide (by rw [hV]; exact alloc_below _ _)
      obtain ⟨bB, hbB⟩ : ∃ bB, W.heap.size = bB := ⟨_, rfl⟩
      rw [hbB] at HV HBV
      have HZbB := hide hbB
      go_enter Try.func24, Try.ntmps24
      go_upto_region 1 with fail
      rw [← hV]
      try rw [hbB]
      clear hV hbB; have u0 := cellB HV.out (i := 0) rfl; have u1 := cellB HV.out (i := 1) rfl; have u2 := cellB HV.out (i := 2) rfl; have u3 := cellB HV.out (i := 3) rfl; have u4 := cellB HV.out (i := 4) rfl
      go_wp2_with fail
      refine (pos_any (decide_eq_true C0.out)).mono ?_
      rintro _ _ ⟨rfl, rfl⟩
      go_wp2_with fail
      refine (pos_any (decide_eq_true C1.out)).mono ?_
      rintro _ _ ⟨rfl, rfl⟩
      go_wp2
      go_ret
      exact ⟨by rw [HR.out]; rfl, by rw [HZbB.out]; exact HBV.out⟩
    ·
     have HR : Hid (rb = false) := hide (by
       rw [← hrb]
       exact decide_eq_false (fun h => c2 h.2.2.1))
     have C0 := hide c0; have C1 := hide c1
     have e2 : decide (bg ≥ 0) = false := decide_eq_false c2
     clear hrb hrn c0 c1 c2; have HN := hide hv; have HVN := hide hvn; clear hv hvn; have HPB := hide hB; clear hB
     obtain ⟨V, hV⟩ : ∃ V, V = W.alloc (.cells #[.int .i64 ep, .int .i64 id, .int .i64 bg, .slice rp rn rc, .slice vp vn vc] 34 (0, 0)) := ⟨_, rfl⟩
     have HV : Hid (V.heap[W.heap.size]? = some (.cells #[.int .i64 ep, .int .i64 id, .int .i64 bg, .slice rp rn rc, .slice vp vn vc] 34 (0, 0))) := hide (by rw [hV]; exact heap_alloc_new W _)
     have HBV : Hid (Below W.heap.size W V) := hide (by rw [hV]; exact alloc_below _ _)
     obtain ⟨bB, hbB⟩ : ∃ bB, W.heap.size = bB := ⟨_, rfl⟩
     rw [hbB] at HV HBV
     have HZbB := hide hbB
     go_enter Try.func24, Try.ntmps24
     go_upto_region 1 with fail
     rw [← hV]
     try rw [hbB]
     clear hV hbB; have u0 := cellB HV.out (i := 0) rfl; have u1 := cellB HV.out (i := 1) rfl; have u2 := cellB HV.out (i := 2) rfl; have u3 := cellB HV.out (i := 3) rfl; have u4 := cellB HV.out (i := 4) rfl
     go_wp2_with fail
     refine (pos_any (decide_eq_true C0.out)).mono ?_
     rintro _ _ ⟨rfl, rfl⟩
     go_wp2_with fail
     refine (pos_any (decide_eq_true C1.out)).mono ?_
     rintro _ _ ⟨rfl, rfl⟩
     go_wp2
     go_ret
     exact ⟨by rw [HR.out]; rfl, by rw [HZbB.out]; exact HBV.out⟩
   ·
    have HR : Hid (rb = false) := hide (by
      rw [← hrb]
      exact decide_eq_false (fun h => c1 h.2.1))
    have C0 := hide c0; have C1 := hide c1; clear hrb hrn c0 c1; have HN := hide hv; have HVN := hide hvn; clear hv hvn; have HPB := hide hB; clear hB
    obtain ⟨V, hV⟩ : ∃ V, V = W.alloc (.cells #[.int .i64 ep, .int .i64 id, .int .i64 bg, .slice rp rn rc, .slice vp vn vc] 34 (0, 0)) := ⟨_, rfl⟩
    have HV : Hid (V.heap[W.heap.size]? = some (.cells #[.int .i64 ep, .int .i64 id, .int .i64 bg, .slice rp rn rc, .slice vp vn vc] 34 (0, 0))) := hide (by rw [hV]; exact heap_alloc_new W _)
    have HBV : Hid (Below W.heap.size W V) := hide (by rw [hV]; exact alloc_below _ _)
    obtain ⟨bB, hbB⟩ : ∃ bB, W.heap.size = bB := ⟨_, rfl⟩
    rw [hbB] at HV HBV
    have HZbB := hide hbB
    go_enter Try.func24, Try.ntmps24
    go_upto_region 1 with fail
    rw [← hV]
    try rw [hbB]
    clear hV hbB; have u0 := cellB HV.out (i := 0) rfl; have u1 := cellB HV.out (i := 1) rfl; have u2 := cellB HV.out (i := 2) rfl; have u3 := cellB HV.out (i := 3) rfl; have u4 := cellB HV.out (i := 4) rfl
    go_wp2_with fail
    refine (pos_any (decide_eq_true C0.out)).mono ?_
    rintro _ _ ⟨rfl, rfl⟩
    go_wp2_with fail
    refine (pos_any (decide_eq_false C1.out)).mono ?_
    rintro _ _ ⟨rfl, rfl⟩
    go_wp2
    go_ret
    exact ⟨by rw [HR.out]; rfl, by rw [HZbB.out]; exact HBV.out⟩
  ·
   have HR : Hid (rb = false) := hide (by
     rw [← hrb]
     exact decide_eq_false (fun h => c0 h.1))
   have C0 := hide c0; clear hrb hrn c0; have HN := hide hv; have HVN := hide hvn; clear hv hvn; have HPB := hide hB; clear hB
   obtain ⟨V, hV⟩ : ∃ V, V = W.alloc (.cells #[.int .i64 ep, .int .i64 id, .int .i64 bg, .slice rp rn rc, .slice vp vn vc] 34 (0, 0)) := ⟨_, rfl⟩
   have HV : Hid (V.heap[W.heap.size]? = some (.cells #[.int .i64 ep, .int .i64 id, .int .i64 bg, .slice rp rn rc, .slice vp vn vc] 34 (0, 0))) := hide (by rw [hV]; exact heap_alloc_new W _)
   have HBV : Hid (Below W.heap.size W V) := hide (by rw [hV]; exact alloc_below _ _)
   obtain ⟨bB, hbB⟩ : ∃ bB, W.heap.size = bB := ⟨_, rfl⟩
   rw [hbB] at HV HBV
   have HZbB := hide hbB
   go_enter Try.func24, Try.ntmps24
   go_upto_region 1 with fail
   rw [← hV]
   try rw [hbB]
   clear hV hbB; have u0 := cellB HV.out (i := 0) rfl; have u1 := cellB HV.out (i := 1) rfl; have u2 := cellB HV.out (i := 2) rfl; have u3 := cellB HV.out (i := 3) rfl; have u4 := cellB HV.out (i := 4) rfl
   go_wp2_with fail
   refine (pos_any (decide_eq_false C0.out)).mono ?_
   rintro _ _ ⟨rfl, rfl⟩
   go_wp2
   go_ret
   exact ⟨by rw [HR.out]; rfl, by rw [HZbB.out]; exact HBV.out⟩
end Go.Proofs.Ytboofnkajjnmeaa
