/-
  Same of the reference: of any two graphs. No conditions.
-/
import Derived.Test.YtdngjpbefcbodaaGsm
import Derived.Deep.RegionHeld3
namespace Go.Proofs.Ytdngjpbefcbodaa
open Go.RowKit

set_option maxRecDepth 100000 in
set_option maxHeartbeats 8000000 in
theorem rsame_any {W : World} {pa pb : Int} {p1 p2 : Option Addr} {c1 c2 n1 n2 : Nat} {xs ys : List OV} (h1 : GRow W p1 c1 xs) (h2 : GRow W p2 c2 ys) (hn1 : xs.length = n1) (hn2 : ys.length = n2) {rb : Bool} (hrb : decide (pa = pb ∧ xs.map OV.o = ys.map OV.o) = rb) :
    Calls Try.prog 11 #[.agg #[.int .i64 pa, .slice p1 n1 c1], .agg #[.int .i64 pb, .slice p2 n2 c2]] W fun e w' => e = .returned (.bool rb) ∧ Below W.heap.size W w' := by
  have i1 := h1.le
  have i2 := h1.top
  have i3 := h2.le
  have i4 := h2.top
  rw [hn1] at i1
  rw [hn2] at i3
  have hb1 : Below W.heap.size W (W.alloc (.cells #[.int .i64 pa, .slice p1 n1 c1] 24 (0, 0))) := alloc_below _ _
  have hb : Below W.heap.size W ((W.alloc (.cells #[.int .i64 pa, .slice p1 n1 c1] 24 (0, 0))).alloc (.cells #[.int .i64 pb, .slice p2 n2 c2] 24 (0, 0))) := hb1.trans ((alloc_below _ _).mono hb1.size)
  have HB := hide hb
  have HRB := hide hrb
  by_cases hp : pa = pb
  rotate_left
  · have hr : rb = false := by rw [← hrb]; simp [hp]
    have e1 := ne_eq hp
    subst hr
    clear h1 h2 hb hb1 hrb hp
    go_enter Try.func11, Try.ntmps11
    go_wp2
    go_ret
    exact ⟨rfl, HB.out⟩
  by_cases hl : n1 = n2
  rotate_left
  · have hr : rb = false := by rw [← hrb]; exact decide_eq_false (fun h => ne_of_len (by rw [List.length_map, List.length_map, hn1, hn2]; exact hl) h.2)
    have hne : ((n1 : Int) != (n2 : Int)) = true := by simp; omega
    subst hr hp
    clear h1 h2 hb hb1 hrb hl
    go_enter Try.func11, Try.ntmps11
    go_wp2
    go_ret
    exact ⟨rfl, HB.out⟩
  subst hp hl
  have v1 : (W.alloc (.cells #[.int .i64 pa, .slice p1 n1 c1] 24 (0, 0))).heap[W.heap.size]? = some (.cells #[.int .i64 pa, .slice p1 n1 c1] 24 (0, 0)) := heap_alloc_new W _
  obtain ⟨V, hV⟩ : ∃ V, V = (W.alloc (.cells #[.int .i64 pa, .slice p1 n1 c1] 24 (0, 0))).alloc (.cells #[.int .i64 pa, .slice p2 n1 c2] 24 (0, 0)) := ⟨_, rfl⟩
  have u1 : V.heap[W.heap.size]? = some (.cells #[.int .i64 pa, .slice p1 n1 c1] 24 (0, 0)) := by rw [hV]; exact below_box (alloc_below _ _) v1
  have u2 : V.heap[W.heap.size + 1]? = some (.cells #[.int .i64 pa, .slice p2 n1 c2] 24 (0, 0)) := by
    have e : W.heap.size + 1 = (W.alloc (.cells #[.int .i64 pa, .slice p1 n1 c1] 24 (0, 0))).heap.size := by simp
    rw [hV, e]
    exact heap_alloc_new _ _
  rw [← hV] at hb HB
  obtain ⟨gB, hgB⟩ : ∃ gB, W.heap.size = gB := ⟨_, rfl⟩
  rw [hgB] at u1 u2
  have z1 : V.cell? ⟨gB, 1, none⟩ = some (.slice p1 n1 c1) := by simp [World.cell?, u1]
  have z2 : V.cell? ⟨gB + 1, 1, none⟩ = some (.slice p2 n1 c2) := by simp [World.cell?, u2]
  have H1 := hide (h1.below hb)
  have H2 := hide (h2.below hb)
  have HN1 := hide hn1
  have HN2 := hide hn2
  clear h1 h2 hn1 hn2 hrb hb hb1 v1 u1 u2
  go_enter Try.func11, Try.ntmps11
  go_upto_region 3 with fail
  rw [← hV]
  try rw [hgB]
  clear hV hgB
  go_wp2_with fail
  go_loopw [5] (fun i wr => ∃ k : Nat, k ≤ n1 ∧ i = .int .i64 (k : Int) ∧ Hid (∀ i, i < k → (xs.map OV.o)[i]! = (ys.map OV.o)[i]!) ∧ Hid (Below V.heap.size V wr)) (fun i _ => n1 - (intOf i).toNat)
  case atStart => exact ⟨0, Nat.zero_le _, rfl, hide (fun i hi => absurd hi (Nat.not_lt_zero i)), hide (Below.refl _ _)⟩
  case round =>
    obtain ⟨k, hk, rfl, HA, HBq⟩ := hrel
    rename World => wr
    have y1 := cell_later HBq.out z1
    have y2 := cell_later HBq.out z2
    by_cases hlt : k < n1
    · have hlt1 : k < xs.length := by rw [HN1.out]; exact hlt
      have hlt2 : k < ys.length := by rw [HN2.out]; exact hlt
      obtain ⟨g1, o1, rfl, hc1⟩ := (H1.out.below HBq.out).cell k hlt1
      obtain ⟨g2, o2, rfl, hc2⟩ := (H2.out.below HBq.out).cell k hlt2
      have hm1 : xs[k]! ∈ xs := by rw [getElem!_pos xs k hlt1]; exact List.getElem_mem _
      have hm2 : ys[k]! ∈ ys := by rw [getElem!_pos ys k hlt2]; exact List.getElem_mem _
      have E1 := hide ((H1.out.below HBq.out).ok _ hm1)
      have E2 := hide ((H2.out.below HBq.out).ok _ hm2)
      have HX := hide (getO xs hlt1)
      have HY := hide (getO ys hlt2)
      obtain ⟨x, hx⟩ : ∃ x, xs[k]! = x := ⟨_, rfl⟩
      obtain ⟨y, hy⟩ : ∃ x, ys[k]! = x := ⟨_, rfl⟩
      rw [hx] at hc1 HX E1
      rw [hy] at hc2 HY E2
      obtain ⟨⟨kd1, pt1, fn1, ar1, in1⟩, ip1, ic1⟩ := x
      obtain ⟨⟨kd2, pt2, fn2, ar2, in2⟩, ip2, ic2⟩ := y
      obtain ⟨l1, hl1⟩ : ∃ l, in1.length = l := ⟨_, rfl⟩
      obtain ⟨l2, hl2⟩ : ∃ l, in2.length = l := ⟨_, rfl⟩
      have a0 : wr.cell? ⟨g1, o1 + k * 5, none⟩ = some (.int .i64 kd1) := hc1 0 (by omega)
      have a1 : wr.cell? ⟨g1, o1 + k * 5 + 1, none⟩ = some (.int .i64 pt1) := hc1 1 (by omega)
      have a2 : wr.cell? ⟨g1, o1 + k * 5 + 2, none⟩ = some (.int .i64 fn1) := hc1 2 (by omega)
      have a3 : wr.cell? ⟨g1, o1 + k * 5 + 3, none⟩ = some (.int .i64 ar1) := hc1 3 (by omega)
      have a4 : wr.cell? ⟨g1, o1 + k * 5 + 4, none⟩ = some (.slice ip1 l1 ic1) := by rw [← hl1]; exact hc1 4 (by omega)
      have b0 : wr.cell? ⟨g2, o2 + k * 5, none⟩ = some (.int .i64 kd2) := hc2 0 (by omega)
      have b1 : wr.cell? ⟨g2, o2 + k * 5 + 1, none⟩ = some (.int .i64 pt2) := hc2 1 (by omega)
      have b2 : wr.cell? ⟨g2, o2 + k * 5 + 2, none⟩ = some (.int .i64 fn2) := hc2 2 (by omega)
      have b3 : wr.cell? ⟨g2, o2 + k * 5 + 3, none⟩ = some (.int .i64 ar2) := hc2 3 (by omega)
      have b4 : wr.cell? ⟨g2, o2 + k * 5 + 4, none⟩ = some (.slice ip2 l2 ic2) := by rw [← hl2]; exact hc2 4 (by omega)
      have HL1 := hide hl1
      have HL2 := hide hl2
      clear hx hy hlt1 hlt2 hc1 hc2 hm1 hm2 hl1 hl2
      go_upto_region 6 with fail
      go_region_held3 (fun w' => w'.cell? ⟨gB, 1, none⟩ = some (.slice (some ⟨g1, o1, none⟩) n1 c1) ∧ w'.cell? ⟨gB + 1, 1, none⟩ = some (.slice (some ⟨g2, o2, none⟩) n1 c2) ∧ w'.cell? ⟨g1, o1 + k * 5, none⟩ = some (.int .i64 kd1) ∧ w'.cell? ⟨g1, o1 + k * 5 + 1, none⟩ = some (.int .i64 pt1) ∧ w'.cell? ⟨g1, o1 + k * 5 + 2, none⟩ = some (.int .i64 fn1) ∧ w'.cell? ⟨g1, o1 + k * 5 + 3, none⟩ = some (.int .i64 ar1) ∧ w'.cell? ⟨g1, o1 + k * 5 + 4, none⟩ = some (.slice ip1 l1 ic1) ∧ w'.cell? ⟨g2, o2 + k * 5, none⟩ = some (.int .i64 kd2) ∧ w'.cell? ⟨g2, o2 + k * 5 + 1, none⟩ = some (.int .i64 pt2) ∧ w'.cell? ⟨g2, o2 + k * 5 + 2, none⟩ = some (.int .i64 fn2) ∧ w'.cell? ⟨g2, o2 + k * 5 + 3, none⟩ = some (.int .i64 ar2) ∧ w'.cell? ⟨g2, o2 + k * 5 + 4, none⟩ = some (.slice ip2 l2 ic2)) (go_keep) (fail)
      · obtain ⟨X, hX⟩ : ∃ X, X = ((wr.alloc (.cells #[.int .i64 kd1, .int .i64 pt1, .int .i64 fn1, .int .i64 ar1, .slice ip1 l1 ic1] 38 (0, 0))).alloc (.cells #[.int .i64 kd2, .int .i64 pt2, .int .i64 fn2, .int .i64 ar2, .slice ip2 l2 ic2] 38 (0, 0))).drew := ⟨_, rfl⟩
        have ab1 := alloc_below wr (.cells #[.int .i64 kd1, .int .i64 pt1, .int .i64 fn1, .int .i64 ar1, .slice ip1 l1 ic1] 38 (0, 0))
        have ab2 := alloc_below (wr.alloc (.cells #[.int .i64 kd1, .int .i64 pt1, .int .i64 fn1, .int .i64 ar1, .slice ip1 l1 ic1] 38 (0, 0))) (.cells #[.int .i64 kd2, .int .i64 pt2, .int .i64 fn2, .int .i64 ar2, .slice ip2 l2 ic2] 38 (0, 0))
        have hvB : (wr.alloc (.cells #[.int .i64 kd1, .int .i64 pt1, .int .i64 fn1, .int .i64 ar1, .slice ip1 l1 ic1] 38 (0, 0))).heap[wr.heap.size]? = some (.cells #[.int .i64 kd1, .int .i64 pt1, .int .i64 fn1, .int .i64 ar1, .slice ip1 l1 ic1] 38 (0, 0)) := heap_alloc_new wr _
        have hvC : ((wr.alloc (.cells #[.int .i64 kd1, .int .i64 pt1, .int .i64 fn1, .int .i64 ar1, .slice ip1 l1 ic1] 38 (0, 0))).alloc (.cells #[.int .i64 kd2, .int .i64 pt2, .int .i64 fn2, .int .i64 ar2, .slice ip2 l2 ic2] 38 (0, 0))).heap[wr.heap.size]? = some (.cells #[.int .i64 kd1, .int .i64 pt1, .int .i64 fn1, .int .i64 ar1, .slice ip1 l1 ic1] 38 (0, 0)) := below_box ab2 hvB
        have hvD : ((wr.alloc (.cells #[.int .i64 kd1, .int .i64 pt1, .int .i64 fn1, .int .i64 ar1, .slice ip1 l1 ic1] 38 (0, 0))).alloc (.cells #[.int .i64 kd2, .int .i64 pt2, .int .i64 fn2, .int .i64 ar2, .slice ip2 l2 ic2] 38 (0, 0))).heap[wr.heap.size + 1]? = some (.cells #[.int .i64 kd2, .int .i64 pt2, .int .i64 fn2, .int .i64 ar2, .slice ip2 l2 ic2] 38 (0, 0)) := by
          have e : wr.heap.size + 1 = (wr.alloc (.cells #[.int .i64 kd1, .int .i64 pt1, .int .i64 fn1, .int .i64 ar1, .slice ip1 l1 ic1] 38 (0, 0))).heap.size := by simp
          rw [e]
          exact heap_alloc_new _ _
        have hbX : Below wr.heap.size wr X := by rw [hX]; exact (ab1.trans (ab2.mono ab1.size)).drew
        have hv1 : X.heap[wr.heap.size]? = some (.cells #[.int .i64 kd1, .int .i64 pt1, .int .i64 fn1, .int .i64 ar1, .slice ip1 l1 ic1] 38 (0, 0)) := by rw [hX]; exact hvC
        have hv2 : X.heap[wr.heap.size + 1]? = some (.cells #[.int .i64 kd2, .int .i64 pt2, .int .i64 fn2, .int .i64 ar2, .slice ip2 l2 ic2] 38 (0, 0)) := by rw [hX]; exact hvD
        rw [← hX]
        have HVX := hide (HBq.out.trans (hbX.mono HBq.out.size))
        have HBX := hide (HB.out.trans (HVX.out.mono HB.out.size))
        have HE1 := hide (ERow.below E1.out hbX)
        have HE2 := hide (ERow.below E2.out hbX)
        obtain ⟨sB, hsB⟩ : ∃ sB, wr.heap.size = sB := ⟨_, rfl⟩
        rw [hsB] at hv1 hv2
        try rw [hsB]
        have s0 : X.cell? ⟨sB, 0, none⟩ = some (.int .i64 kd1) := by simp [World.cell?, hv1]
        have t0 : X.cell? ⟨sB + 1, 0, none⟩ = some (.int .i64 kd2) := by simp [World.cell?, hv2]
        have s1 : X.cell? ⟨sB, 1, none⟩ = some (.int .i64 pt1) := by simp [World.cell?, hv1]
        have t1 : X.cell? ⟨sB + 1, 1, none⟩ = some (.int .i64 pt2) := by simp [World.cell?, hv2]
        have s2 : X.cell? ⟨sB, 2, none⟩ = some (.int .i64 fn1) := by simp [World.cell?, hv1]
        have t2 : X.cell? ⟨sB + 1, 2, none⟩ = some (.int .i64 fn2) := by simp [World.cell?, hv2]
        have s3 : X.cell? ⟨sB, 3, none⟩ = some (.int .i64 ar1) := by simp [World.cell?, hv1]
        have t3 : X.cell? ⟨sB + 1, 3, none⟩ = some (.int .i64 ar2) := by simp [World.cell?, hv2]
        have s4 : X.cell? ⟨sB, 4, none⟩ = some (.slice ip1 l1 ic1) := by simp [World.cell?, hv1]
        have t4 : X.cell? ⟨sB + 1, 4, none⟩ = some (.slice ip2 l2 ic2) := by simp [World.cell?, hv2]
        clear hX ab1 ab2 hvB hvC hvD hbX hsB hv1 hv2 a0 a1 a2 a3 a4 b0 b1 b2 b3 b4 y1 y2
        by_cases hkd : kd1 = kd2
        rotate_left
        · have hr : rb = false := by rw [← HRB.out]; exact decide_eq_false (fun h => ne_of_at (i := k) (by rw [HX.out, HY.out]; intro h; simp only [GO.mk.injEq] at h; exact hkd h.1) h.2)
          subst hr
          have e1 : (kd1 != kd2) = true := by simpa using hkd
          clear hkd
          go_wp2
          go_ret
          exact ⟨rfl, HBX.out⟩
        by_cases hpt : pt1 = pt2
        rotate_left
        · have hr : rb = false := by rw [← HRB.out]; exact decide_eq_false (fun h => ne_of_at (i := k) (by rw [HX.out, HY.out]; intro h; simp only [GO.mk.injEq] at h; exact hpt h.2.1) h.2)
          subst hr
          have e1 : (pt1 != pt2) = true := by simpa using hpt
          clear hpt
          go_wp2
          go_ret
          exact ⟨rfl, HBX.out⟩
        by_cases hfn : fn1 = fn2
        rotate_left
        · have hr : rb = false := by rw [← HRB.out]; exact decide_eq_false (fun h => ne_of_at (i := k) (by rw [HX.out, HY.out]; intro h; simp only [GO.mk.injEq] at h; exact hfn h.2.2.1) h.2)
          subst hr
          have e1 : (fn1 != fn2) = true := by simpa using hfn
          clear hfn
          go_wp2
          go_ret
          exact ⟨rfl, HBX.out⟩
        by_cases har : ar1 = ar2
        rotate_left
        · have hr : rb = false := by rw [← HRB.out]; exact decide_eq_false (fun h => ne_of_at (i := k) (by rw [HX.out, HY.out]; intro h; simp only [GO.mk.injEq] at h; exact har h.2.2.2.1) h.2)
          subst hr
          have e1 : (ar1 != ar2) = true := by simpa using har
          clear har
          go_wp2
          go_ret
          exact ⟨rfl, HBX.out⟩
        subst hkd hpt hfn har
        by_cases hll : l1 = l2
        rotate_left
        · have hr : rb = false := by rw [← HRB.out]; exact decide_eq_false (fun h => ne_of_at (i := k) (by rw [HX.out, HY.out]; intro h; simp only [GO.mk.injEq] at h; exact (ne_of_len (by rw [HL1.out, HL2.out]; exact hll)) h.2.2.2.2) h.2)
          subst hr
          have e1 : ((l1 : Int) != (l2 : Int)) = true := by simp; omega
          clear hll
          go_wp2
          go_ret
          exact ⟨rfl, HBX.out⟩
        subst hll
        have hle1 := HE1.out.le
        have hle2 := HE2.out.le
        have htp1 := HE1.out.top
        have htp2 := HE2.out.top
        simp only at hle1 hle2 htp1 htp2
        rw [HL1.out] at hle1
        rw [HL2.out] at hle2
        go_wp2_with fail
        go_loopw [8] (fun i wi => ∃ j : Nat, j ≤ l1 ∧ i = .int .i64 (j : Int) ∧ Hid (∀ i, i < j → in1[i]! = in2[i]!) ∧ Hid (Below X.heap.size X wi)) (fun i _ => l1 - (intOf i).toNat)
        case atStart => exact ⟨0, Nat.zero_le _, rfl, hide (fun i hi => absurd hi (Nat.not_lt_zero i)), hide (Below.refl _ _)⟩
        case round =>
          obtain ⟨j, hj, rfl, HIJ, HBi⟩ := hrel
          rename World => wi
          have r4 := cell_later HBi.out s4
          have q4 := cell_later HBi.out t4
          have HBZ := hide (HBX.out.trans (HBi.out.mono HBX.out.size))
          by_cases hjt : j < l1
          · have hj1 : j < in1.length := by rw [HL1.out]; exact hjt
            have hj2 : j < in2.length := by rw [HL2.out]; exact hjt
            obtain ⟨m1, w1, hip1, d0, d1⟩ := (HE1.out.below HBi.out).cell j hj1
            obtain ⟨m2, w2, hip2, d2, d3⟩ := (HE2.out.below HBi.out).cell j hj2
            try simp only at hip1 hip2 d0 d1 d2 d3
            subst hip1 hip2
            obtain ⟨⟨f1, q1⟩, hx⟩ : ∃ x, in1[j]! = x := ⟨_, rfl⟩
            obtain ⟨⟨f2, q2⟩, hy⟩ : ∃ x, in2[j]! = x := ⟨_, rfl⟩
            rw [hx] at d0 d1
            rw [hy] at d2 d3
            simp only at d0 d1 d2 d3
            have HBN := hide (fun n => below_drewN HBZ.out n)
            by_cases hf : f1 = f2
            · by_cases hq : q1 = q2
              · subst hf hq
                have HJ2 : Hid (∀ i, i < j + 1 → in1[i]! = in2[i]!) := hide (fun i hi => by
                  rcases Nat.lt_succ_iff_lt_or_eq.1 hi with h | rfl
                  · exact HIJ.out i h
                  · rw [hx, hy])
                clear hx hy hj1 hj2
                go_upto_region 12 with fail
                go_big_quiet (fail)
                go_wp2
                exact ⟨⟨j + 1, by omega, by first | rfl | go_num, HJ2, hide (below_drewN HBi.out _)⟩, by simp [intOf]; omega⟩
              · subst hf
                have hr : rb = false := by rw [← HRB.out]; exact decide_eq_false (fun h => ne_of_at (i := k) (by rw [HX.out, HY.out]; intro h; simp only [GO.mk.injEq] at h; exact ne_of_at (i := j) (by rw [hx, hy]; simpa using hq) h.2.2.2.2) h.2)
                subst hr
                have e1 := ne_eq hq
                clear hx hy hj1 hj2 hq
                go_upto_region 12 with fail
                go_big_quiet (fail)
                go_wp2
                go_ret
                exact ⟨rfl, HBN.out _⟩
            · have hr : rb = false := by rw [← HRB.out]; exact decide_eq_false (fun h => ne_of_at (i := k) (by rw [HX.out, HY.out]; intro h; simp only [GO.mk.injEq] at h; exact ne_of_at (i := j) (by rw [hx, hy]; intro h; simp only [GE.mk.injEq] at h; exact hf h.1) h.2.2.2.2) h.2)
              subst hr
              have e1 := ne_eq hf
              clear hx hy hj1 hj2 hf
              go_upto_region 12 with fail
              go_big_quiet (fail)
              go_wp2
              go_ret
              exact ⟨rfl, HBN.out _⟩
          · obtain rfl : j = l1 := by omega
            have HA2 : Hid (∀ i, i < k + 1 → (xs.map OV.o)[i]! = (ys.map OV.o)[i]!) := hide (fun i hi => by
              rcases Nat.lt_succ_iff_lt_or_eq.1 hi with h | rfl
              · exact HA.out i h
              · rw [HX.out, HY.out]
                have h9 : in1 = in2 := eq_of_all (by rw [HL1.out, HL2.out]) (by rw [HL1.out]; exact HIJ.out)
                rw [h9])
            have HBW := hide (HVX.out.trans (HBi.out.mono HVX.out.size))
            go_wp2
            exact ⟨⟨k + 1, by omega, by first | rfl | go_num, HA2, HBW⟩, by simp [intOf]; omega⟩
      · obtain ⟨X, hX⟩ : ∃ X, X = ((wr.alloc (.cells #[.int .i64 kd2, .int .i64 pt2, .int .i64 fn2, .int .i64 ar2, .slice ip2 l2 ic2] 38 (0, 0))).alloc (.cells #[.int .i64 kd1, .int .i64 pt1, .int .i64 fn1, .int .i64 ar1, .slice ip1 l1 ic1] 38 (0, 0))).drew := ⟨_, rfl⟩
        have ab1 := alloc_below wr (.cells #[.int .i64 kd2, .int .i64 pt2, .int .i64 fn2, .int .i64 ar2, .slice ip2 l2 ic2] 38 (0, 0))
        have ab2 := alloc_below (wr.alloc (.cells #[.int .i64 kd2, .int .i64 pt2, .int .i64 fn2, .int .i64 ar2, .slice ip2 l2 ic2] 38 (0, 0))) (.cells #[.int .i64 kd1, .int .i64 pt1, .int .i64 fn1, .int .i64 ar1, .slice ip1 l1 ic1] 38 (0, 0))
        have hvB : (wr.alloc (.cells #[.int .i64 kd2, .int .i64 pt2, .int .i64 fn2, .int .i64 ar2, .slice ip2 l2 ic2] 38 (0, 0))).heap[wr.heap.size]? = some (.cells #[.int .i64 kd2, .int .i64 pt2, .int .i64 fn2, .int .i64 ar2, .slice ip2 l2 ic2] 38 (0, 0)) := heap_alloc_new wr _
        have hvC : ((wr.alloc (.cells #[.int .i64 kd2, .int .i64 pt2, .int .i64 fn2, .int .i64 ar2, .slice ip2 l2 ic2] 38 (0, 0))).alloc (.cells #[.int .i64 kd1, .int .i64 pt1, .int .i64 fn1, .int .i64 ar1, .slice ip1 l1 ic1] 38 (0, 0))).heap[wr.heap.size]? = some (.cells #[.int .i64 kd2, .int .i64 pt2, .int .i64 fn2, .int .i64 ar2, .slice ip2 l2 ic2] 38 (0, 0)) := below_box ab2 hvB
        have hvD : ((wr.alloc (.cells #[.int .i64 kd2, .int .i64 pt2, .int .i64 fn2, .int .i64 ar2, .slice ip2 l2 ic2] 38 (0, 0))).alloc (.cells #[.int .i64 kd1, .int .i64 pt1, .int .i64 fn1, .int .i64 ar1, .slice ip1 l1 ic1] 38 (0, 0))).heap[wr.heap.size + 1]? = some (.cells #[.int .i64 kd1, .int .i64 pt1, .int .i64 fn1, .int .i64 ar1, .slice ip1 l1 ic1] 38 (0, 0)) := by
          have e : wr.heap.size + 1 = (wr.alloc (.cells #[.int .i64 kd2, .int .i64 pt2, .int .i64 fn2, .int .i64 ar2, .slice ip2 l2 ic2] 38 (0, 0))).heap.size := by simp
          rw [e]
          exact heap_alloc_new _ _
        have hbX : Below wr.heap.size wr X := by rw [hX]; exact (ab1.trans (ab2.mono ab1.size)).drew
        have hv1 : X.heap[wr.heap.size]? = some (.cells #[.int .i64 kd2, .int .i64 pt2, .int .i64 fn2, .int .i64 ar2, .slice ip2 l2 ic2] 38 (0, 0)) := by rw [hX]; exact hvC
        have hv2 : X.heap[wr.heap.size + 1]? = some (.cells #[.int .i64 kd1, .int .i64 pt1, .int .i64 fn1, .int .i64 ar1, .slice ip1 l1 ic1] 38 (0, 0)) := by rw [hX]; exact hvD
        rw [← hX]
        have HVX := hide (HBq.out.trans (hbX.mono HBq.out.size))
        have HBX := hide (HB.out.trans (HVX.out.mono HB.out.size))
        have HE1 := hide (ERow.below E1.out hbX)
        have HE2 := hide (ERow.below E2.out hbX)
        obtain ⟨sB, hsB⟩ : ∃ sB, wr.heap.size = sB := ⟨_, rfl⟩
        rw [hsB] at hv1 hv2
        try rw [hsB]
        have s0 : X.cell? ⟨sB + 1, 0, none⟩ = some (.int .i64 kd1) := by simp [World.cell?, hv2]
        have t0 : X.cell? ⟨sB, 0, none⟩ = some (.int .i64 kd2) := by simp [World.cell?, hv1]
        have s1 : X.cell? ⟨sB + 1, 1, none⟩ = some (.int .i64 pt1) := by simp [World.cell?, hv2]
        have t1 : X.cell? ⟨sB, 1, none⟩ = some (.int .i64 pt2) := by simp [World.cell?, hv1]
        have s2 : X.cell? ⟨sB + 1, 2, none⟩ = some (.int .i64 fn1) := by simp [World.cell?, hv2]
        have t2 : X.cell? ⟨sB, 2, none⟩ = some (.int .i64 fn2) := by simp [World.cell?, hv1]
        have s3 : X.cell? ⟨sB + 1, 3, none⟩ = some (.int .i64 ar1) := by simp [World.cell?, hv2]
        have t3 : X.cell? ⟨sB, 3, none⟩ = some (.int .i64 ar2) := by simp [World.cell?, hv1]
        have s4 : X.cell? ⟨sB + 1, 4, none⟩ = some (.slice ip1 l1 ic1) := by simp [World.cell?, hv2]
        have t4 : X.cell? ⟨sB, 4, none⟩ = some (.slice ip2 l2 ic2) := by simp [World.cell?, hv1]
        clear hX ab1 ab2 hvB hvC hvD hbX hsB hv1 hv2 a0 a1 a2 a3 a4 b0 b1 b2 b3 b4 y1 y2
        by_cases hkd : kd1 = kd2
        rotate_left
        · have hr : rb = false := by rw [← HRB.out]; exact decide_eq_false (fun h => ne_of_at (i := k) (by rw [HX.out, HY.out]; intro h; simp only [GO.mk.injEq] at h; exact hkd h.1) h.2)
          subst hr
          have e1 : (kd1 != kd2) = true := by simpa using hkd
          clear hkd
          go_wp2
          go_ret
          exact ⟨rfl, HBX.out⟩
        by_cases hpt : pt1 = pt2
        rotate_left
        · have hr : rb = false := by rw [← HRB.out]; exact decide_eq_false (fun h => ne_of_at (i := k) (by rw [HX.out, HY.out]; intro h; simp only [GO.mk.injEq] at h; exact hpt h.2.1) h.2)
          subst hr
          have e1 : (pt1 != pt2) = true := by simpa using hpt
          clear hpt
          go_wp2
          go_ret
          exact ⟨rfl, HBX.out⟩
        by_cases hfn : fn1 = fn2
        rotate_left
        · have hr : rb = false := by rw [← HRB.out]; exact decide_eq_false (fun h => ne_of_at (i := k) (by rw [HX.out, HY.out]; intro h; simp only [GO.mk.injEq] at h; exact hfn h.2.2.1) h.2)
          subst hr
          have e1 : (fn1 != fn2) = true := by simpa using hfn
          clear hfn
          go_wp2
          go_ret
          exact ⟨rfl, HBX.out⟩
        by_cases har : ar1 = ar2
        rotate_left
        · have hr : rb = false := by rw [← HRB.out]; exact decide_eq_false (fun h => ne_of_at (i := k) (by rw [HX.out, HY.out]; intro h; simp only [GO.mk.injEq] at h; exact har h.2.2.2.1) h.2)
          subst hr
          have e1 : (ar1 != ar2) = true := by simpa using har
          clear har
          go_wp2
          go_ret
          exact ⟨rfl, HBX.out⟩
        subst hkd hpt hfn har
        by_cases hll : l1 = l2
        rotate_left
        · have hr : rb = false := by rw [← HRB.out]; exact decide_eq_false (fun h => ne_of_at (i := k) (by rw [HX.out, HY.out]; intro h; simp only [GO.mk.injEq] at h; exact (ne_of_len (by rw [HL1.out, HL2.out]; exact hll)) h.2.2.2.2) h.2)
          subst hr
          have e1 : ((l1 : Int) != (l2 : Int)) = true := by simp; omega
          clear hll
          go_wp2
          go_ret
          exact ⟨rfl, HBX.out⟩
        subst hll
        have hle1 := HE1.out.le
        have hle2 := HE2.out.le
        have htp1 := HE1.out.top
        have htp2 := HE2.out.top
        simp only at hle1 hle2 htp1 htp2
        rw [HL1.out] at hle1
        rw [HL2.out] at hle2
        go_wp2_with fail
        go_loopw [8] (fun i wi => ∃ j : Nat, j ≤ l1 ∧ i = .int .i64 (j : Int) ∧ Hid (∀ i, i < j → in1[i]! = in2[i]!) ∧ Hid (Below X.heap.size X wi)) (fun i _ => l1 - (intOf i).toNat)
        case atStart => exact ⟨0, Nat.zero_le _, rfl, hide (fun i hi => absurd hi (Nat.not_lt_zero i)), hide (Below.refl _ _)⟩
        case round =>
          obtain ⟨j, hj, rfl, HIJ, HBi⟩ := hrel
          rename World => wi
          have r4 := cell_later HBi.out s4
          have q4 := cell_later HBi.out t4
          have HBZ := hide (HBX.out.trans (HBi.out.mono HBX.out.size))
          by_cases hjt : j < l1
          · have hj1 : j < in1.length := by rw [HL1.out]; exact hjt
            have hj2 : j < in2.length := by rw [HL2.out]; exact hjt
            obtain ⟨m1, w1, hip1, d0, d1⟩ := (HE1.out.below HBi.out).cell j hj1
            obtain ⟨m2, w2, hip2, d2, d3⟩ := (HE2.out.below HBi.out).cell j hj2
            try simp only at hip1 hip2 d0 d1 d2 d3
            subst hip1 hip2
            obtain ⟨⟨f1, q1⟩, hx⟩ : ∃ x, in1[j]! = x := ⟨_, rfl⟩
            obtain ⟨⟨f2, q2⟩, hy⟩ : ∃ x, in2[j]! = x := ⟨_, rfl⟩
            rw [hx] at d0 d1
            rw [hy] at d2 d3
            simp only at d0 d1 d2 d3
            have HBN := hide (fun n => below_drewN HBZ.out n)
            by_cases hf : f1 = f2
            · by_cases hq : q1 = q2
              · subst hf hq
                have HJ2 : Hid (∀ i, i < j + 1 → in1[i]! = in2[i]!) := hide (fun i hi => by
                  rcases Nat.lt_succ_iff_lt_or_eq.1 hi with h | rfl
                  · exact HIJ.out i h
                  · rw [hx, hy])
                clear hx hy hj1 hj2
                go_upto_region 12 with fail
                go_big_quiet (fail)
                go_wp2
                exact ⟨⟨j + 1, by omega, by first | rfl | go_num, HJ2, hide (below_drewN HBi.out _)⟩, by simp [intOf]; omega⟩
              · subst hf
                have hr : rb = false := by rw [← HRB.out]; exact decide_eq_false (fun h => ne_of_at (i := k) (by rw [HX.out, HY.out]; intro h; simp only [GO.mk.injEq] at h; exact ne_of_at (i := j) (by rw [hx, hy]; simpa using hq) h.2.2.2.2) h.2)
                subst hr
                have e1 := ne_eq hq
                clear hx hy hj1 hj2 hq
                go_upto_region 12 with fail
                go_big_quiet (fail)
                go_wp2
                go_ret
                exact ⟨rfl, HBN.out _⟩
            · have hr : rb = false := by rw [← HRB.out]; exact decide_eq_false (fun h => ne_of_at (i := k) (by rw [HX.out, HY.out]; intro h; simp only [GO.mk.injEq] at h; exact ne_of_at (i := j) (by rw [hx, hy]; intro h; simp only [GE.mk.injEq] at h; exact hf h.1) h.2.2.2.2) h.2)
              subst hr
              have e1 := ne_eq hf
              clear hx hy hj1 hj2 hf
              go_upto_region 12 with fail
              go_big_quiet (fail)
              go_wp2
              go_ret
              exact ⟨rfl, HBN.out _⟩
          · obtain rfl : j = l1 := by omega
            have HA2 : Hid (∀ i, i < k + 1 → (xs.map OV.o)[i]! = (ys.map OV.o)[i]!) := hide (fun i hi => by
              rcases Nat.lt_succ_iff_lt_or_eq.1 hi with h | rfl
              · exact HA.out i h
              · rw [HX.out, HY.out]
                have h9 : in1 = in2 := eq_of_all (by rw [HL1.out, HL2.out]) (by rw [HL1.out]; exact HIJ.out)
                rw [h9])
            have HBW := hide (HVX.out.trans (HBi.out.mono HVX.out.size))
            go_wp2
            exact ⟨⟨k + 1, by omega, by first | rfl | go_num, HA2, HBW⟩, by simp [intOf]; omega⟩
    · obtain rfl : k = n1 := by omega
      have hr : rb = true := by rw [← HRB.out]; exact decide_eq_true (And.intro trivial (eq_of_all (by rw [List.length_map, List.length_map, HN1.out, HN2.out]) (fun i hi => HA.out i (by rw [List.length_map, HN1.out] at hi; exact hi))))
      subst hr
      have HBF := hide (HB.out.trans (HBq.out.mono HB.out.size))
      go_wp2
      go_ret
      exact ⟨rfl, HBF.out⟩
end Go.Proofs.Ytdngjpbefcbodaa
