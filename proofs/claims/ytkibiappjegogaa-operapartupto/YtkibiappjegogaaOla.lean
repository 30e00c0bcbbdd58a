/-
  OperApart walked. The conditions: lengths.
-/
import Derived.Test.YtkibiappjegogaaOlv
namespace Go.Proofs.Ytkibiappjegogaa
open Go.RowKit

theorem Try.infoRcd : (Try.prog.info? 38).map (fun i => (i.zero, i.size, i.bytes)) = some (some (.agg #[.int .i64 0, .int .i64 0]), 2, 16) := by kernel_rfl
theorem RRow.of_own {W : World} {base n cap : Nat} {p : Option Addr} {rs : List RC} (hn : rs.length = n) (h : W.ownsRow base 38 2 (.slice p n cap) n (rs.flatMap RC.cells)) : RRow W p cap rs := by
  obtain ⟨h1, h2, _, h4⟩ := own_list (cells := RC.cells) (fun o _ => o.len) hn h
  exact ⟨by omega, h2, h4⟩

set_option maxRecDepth 100000 in
set_option maxHeartbeats 16000000 in
theorem apart_walk {W : World} {kd pt fn ar key : Int} {ip p : Option Addr} {n ic c m : Nat} {rs : List RC} (h : RRow W p c rs) (hm : rs.length = m) (hb : m ≤ 1048576) (hri : ∀ r ∈ rs, I6 r.key) :
    Calls Try.prog 5 #[.agg #[.int .i64 kd, .int .i64 pt, .int .i64 fn, .int .i64 ar, .slice ip n ic], .slice p m c, .int .i64 key] W fun e w' => e = .returned (.bool true) ∧ Below W.heap.size W w' := by
  obtain ⟨j0, hj0, hj1, hj2, hj3⟩ := info_parts Try.infoRcd
  obtain ⟨q0, hq0, hq1, hq2, hq3⟩ := info_parts Try.infoPut
  obtain ⟨s0, hs0, hs1, hs2, hs3⟩ := info_parts Try.infoKeyS
  obtain ⟨V, hV⟩ : ∃ V, V = W.alloc (.cells #[.int .i64 kd, .int .i64 pt, .int .i64 fn, .int .i64 ar, .slice ip n ic] 35 (0, 0)) := ⟨_, rfl⟩
  have bV : Below W.heap.size W V := by rw [hV]; exact alloc_below _ _
  have u3 : V.heap[W.heap.size]? = some (.cells #[.int .i64 kd, .int .i64 pt, .int .i64 fn, .int .i64 ar, .slice ip n ic] 35 (0, 0)) := by rw [hV]; exact heap_alloc_new W _
  obtain ⟨sB, hsB⟩ : ∃ sB, W.heap.size = sB := ⟨_, rfl⟩
  rw [hsB] at u3
  have HBV := hide bV
  have HU3 := hide u3
  have HR := hide (h.below bV)
  have HM := hide hm
  have HRI := hide hri
  have hcm : m ≤ c := by rw [← hm]; exact h.le
  have hct := h.top
  clear h bV u3 hm hri
  go_enter Try.func5, Try.ntmps5
  go_upto_region 1 with fail
  rw [← hV]
  try rw [hsB]
  clear hV hsB
  go_wp2_with fail
  refine live_any.mono ?_
  rintro _ w1 ⟨rfl, b1⟩
  have y3 := below_box b1 HU3.out
  have x0 : w1.cell? ⟨sB, 0, none⟩ = some (.int .i64 kd) := by simp [World.cell?, y3]
  have HB1 := hide b1
  have HY3 := hide y3
  have HR1 := hide (HR.out.below b1)
  clear b1 y3 HR
  by_cases h5 : kd = 5
  · subst h5
    have hkp : keepsC 5 = true := rfl
    go_wp2_with fail
    go_loopw [7, 32] (fun o i wq => ∃ (k : Nat) (p1 : Option Addr) (c1 N : Nat), k ≤ m ∧ i = .int .i64 (k : Int) ∧ o = .slice p1 N c1 ∧ Hid (((rs.take k).filter (ofKey key)).length = N) ∧ Hid (wq.ownsRow w1.heap.size 38 2 (.slice p1 N c1) N (((rs.take k).filter (ofKey key)).flatMap RC.cells)) ∧ Hid (Below w1.heap.size w1 wq)) (fun _ i _ => m - (intOf i).toNat)
    case atStart => exact ⟨0, none, 0, 0, Nat.zero_le _, rfl, rfl, hide rfl, hide (World.ownsRow_nil _ _ _ _), hide (Below.refl _ _)⟩
    case round =>
      obtain ⟨k, p1, c1, N, hk, rfl, rfl, HN, HO, HB⟩ := hrel
      rename World => wr1
      by_cases hlt : k < m
      · have hltr : k < rs.length := by rw [HM.out]; exact hlt
        obtain ⟨x, hx⟩ : ∃ x, rs[k]! = x := ⟨_, rfl⟩
        obtain ⟨g2, o2, rfl, hc⟩ := (HR1.out.below HB.out).cell k hltr
        obtain ⟨ky, vl⟩ := x
        rw [hx] at hc
        have d0 : wr1.cell? ⟨g2, o2 + k * 2, none⟩ = some (.int .i64 ky) := hc 0 (by omega)
        have d1 : wr1.cell? ⟨g2, o2 + k * 2 + 1, none⟩ = some (.int .i64 vl) := hc 1 (by omega)
        clear hc
        have hxk : rs[k] = (⟨ky, vl⟩ : _) := by rw [getElem!_pos rs k hltr] at hx; exact hx
        have HXK : Hid (((rs.take (k + 1)).filter (ofKey key)) = ((rs.take k).filter (ofKey key)) ++ (if ky = key then [⟨ky, vl⟩] else [])) := by
          refine hide ?_
          rw [List.take_succ_eq_append_getElem hltr, List.filter_append, hxk]
          by_cases c : ky = key
          · simp [ofKey, c]
          · simp [ofKey, c]
        have hNk : N ≤ k := by
          rw [← HN.out]
          exact Nat.le_trans (List.length_filter_le _ _) (by rw [List.length_take]; omega)
        obtain ⟨X1, hX1⟩ : ∃ X, X = wr1.alloc (.cells #[.int .i64 ky, .int .i64 vl] 38 (0, 0)) := ⟨_, rfl⟩
        have bX1 : Below wr1.heap.size wr1 X1 := by rw [hX1]; exact alloc_below _ _
        have ux : X1.heap[wr1.heap.size]? = some (.cells #[.int .i64 ky, .int .i64 vl] 38 (0, 0)) := by rw [hX1]; exact heap_alloc_new _ _
        obtain ⟨nb, hnb⟩ : ∃ nb, wr1.heap.size = nb := ⟨_, rfl⟩
        rw [hnb] at ux
        have y0 : X1.cell? ⟨nb, 0, none⟩ = some (.int .i64 ky) := by simp [World.cell?, ux]
        have y1 : X1.cell? ⟨nb, 1, none⟩ = some (.int .i64 vl) := by simp [World.cell?, ux]
        have HBX : Hid (Below w1.heap.size w1 X1) := hide (HB.out.trans (bX1.mono HB.out.size))
        have HOX := hide (ownsRow_later HO.out bX1)
        have HLT : Hid (∀ i, (Value.slice p1 N c1).ownBlock = some i → w1.heap.size ≤ i) := hide (fun i e => (HO.out.lt i e).1)
        clear hx hxk ux bX1 HB HO hltr
        go_upto_region 9 with fail
        rw [← hX1]
        try rw [hnb]
        clear hX1 hnb d0 d1
        by_cases c : ky = key
        · have ek : (ky == key) = true := by simpa using c
          have ab := alloc_below X1 (.cells #[.int .i64 ky, .int .i64 vl] 38 (0, 0))
          have HRW := hide (ownsRow_later HOX.out ab)
          have HSG : Hid (Seg (X1.alloc (.cells #[.int .i64 ky, .int .i64 vl] 38 (0, 0))) 2 (.slice (some ⟨X1.heap.size, 0, none⟩) 1 1) 1 [.int .i64 ky, .int .i64 vl]) := hide (Seg.news (heap_alloc_new X1 _) (by simp [Value.oneCell']) rfl (Nat.le_refl _) (by decide))
          have HZB : Hid (w1.heap.size ≤ (X1.alloc (.cells #[.int .i64 ky, .int .i64 vl] 38 (0, 0))).heap.size) := hide (Nat.le_trans HBX.out.size ab.size)
          have HK1 : Hid (N + 1 ≤ maxLen) := by show _ ≤ _; unfold maxLen; omega
          have HK2 : Hid ((N + 1) * 16 ≤ 140737488355328) := hide (by omega)
          have HX2 : Hid (((rs.take (k + 1)).filter (ofKey key)) = ((rs.take k).filter (ofKey key)) ++ [⟨ky, vl⟩]) := hide (by rw [HXK.out, if_pos c])
          clear ab c HOX
          go_wp2_with (at_builtin; refine append_cells _ rfl (.tmp 40) (.tmp 42) 25 rfl w1.heap.size 38 j0 (.agg #[.int .i64 0, .int .i64 0]) 2 16 Try.underlying25 hj0 hj1 hj2 hj3 rfl (by decide) (.slice p1 N c1) N _ rfl HRW.out (.slice (some ⟨X1.heap.size, 0, none⟩) 1 1) 1 _ rfl HSG.out HK1.out HK2.out HZB.out ?_)
          intro p6 c6 w6 o6 g6
          have HN6 : Hid (Below w1.heap.size w1 w6) := hide (HBX.out.trans (((Only.alloc _ _ _).trans (Only.of_grown (F := fun i => (Value.slice p1 N c1).ownBlock = some i) g6 (fun k e => e))).below HBX.out.size HLT.out))
          have HO6 : Hid (w6.ownsRow w1.heap.size 38 2 (.slice p6 (N + 1) c6) (N + 1) (((rs.take (k + 1)).filter (ofKey key)).flatMap RC.cells)) := by
            refine hide ?_
            rw [HX2.out, List.flatMap_append]
            exact o6
          have HL6 : Hid (((rs.take (k + 1)).filter (ofKey key)).length = N + 1) := hide (by rw [HX2.out, List.length_append, HN.out]; rfl)
          clear o6 g6
          go_wp2
          exact ⟨⟨k + 1, p6, c6, N + 1, by omega, by go_num, rfl, HL6, HO6, HN6⟩, by simp [intOf]; omega⟩
        · have ek : (ky == key) = false := by simpa using c
          have HX2 : Hid (((rs.take (k + 1)).filter (ofKey key)) = ((rs.take k).filter (ofKey key))) := hide (by rw [HXK.out, if_neg c, List.append_nil])
          have HL6 : Hid (((rs.take (k + 1)).filter (ofKey key)).length = N) := hide (by rw [HX2.out]; exact HN.out)
          have HO6 : Hid (X1.ownsRow w1.heap.size 38 2 (.slice p1 N c1) N (((rs.take (k + 1)).filter (ofKey key)).flatMap RC.cells)) := by rw [HX2.out]; exact HOX
          clear c HOX
          go_wp2
          exact ⟨⟨k + 1, p1, c1, N, by omega, by go_num, rfl, HL6, HO6, HBX⟩, by simp [intOf]; omega⟩
      · obtain rfl : k = m := by omega
        have hT : rs.take k = rs := List.take_of_length_le (by rw [HM.out]; exact Nat.le_refl _)
        rw [hT] at HN HO
        clear hT hlt hk
        have fu := below_box HB.out HY3.out
        have f0 : wr1.cell? ⟨sB, 0, none⟩ = some (.int .i64 5) := by simp [World.cell?, fu]
        have f1 : wr1.cell? ⟨sB, 1, none⟩ = some (.int .i64 pt) := by simp [World.cell?, fu]
        have f2 : wr1.cell? ⟨sB, 2, none⟩ = some (.int .i64 fn) := by simp [World.cell?, fu]
        have f3 : wr1.cell? ⟨sB, 3, none⟩ = some (.int .i64 ar) := by simp [World.cell?, fu]
        have f4 : wr1.cell? ⟨sB, 4, none⟩ = some (.slice ip n ic) := by simp [World.cell?, fu]
        clear fu
        have HC1 := hide (all_keeps (kd := 5) (pt := pt) (fn := fn) (ar := ar) (tn := 0) (ip := ip) (n := n) (ic := ic) hkp (HR1.out.below HB.out) HM.out hb HRI.out)
        obtain ⟨os, hos⟩ : ∃ os, outsC 5 fn ar ST.none rs = os := ⟨_, rfl⟩
        obtain ⟨fs, hfs⟩ : ∃ fs, finC (stateC 5 fn ar ST.none rs) (keysC (rs.map RC.key)) = fs := ⟨_, rfl⟩
        obtain ⟨hap1, hap2⟩ := apart 5 fn ar key rs
        rw [hos] at hap1
        rw [hfs] at hap2
        have hosl := outsC_len 5 fn ar rs ST.none
        rw [hos, HM.out] at hosl
        have hfsl : fs.length ≤ k := by
          rw [← hfs]
          unfold finC
          rw [List.length_map]
          refine Nat.le_trans (List.length_filter_le _ _) ?_
          have h9 := keysC_len (rs.map RC.key)
          rw [List.length_map, HM.out] at h9
          exact h9
        rw [hos, hfs] at HC1
        have HA1 := hide hap1
        have HA2 := hide hap2
        have HNa := HN
        have HNle : Hid (N ≤ 1048576) := hide (by rw [← HN.out]; exact Nat.le_trans (List.length_filter_le _ _) (by rw [HM.out]; exact hb))
        obtain ⟨own, hown⟩ : ∃ own, rs.filter (ofKey key) = own := ⟨_, rfl⟩
        rw [hown] at HO HNa HA1 HA2
        have HRO : Hid (∀ r ∈ own, I6 r.key) := hide (fun r hr => HRI.out r (by rw [← hown] at hr; exact (List.mem_filter.1 hr).1))
        have HBa : Hid (Below V.heap.size V wr1) := hide (HB1.out.trans (HB.out.mono HB1.out.size))
        clear hap1 hap2 hos hfs HN HRI hown HR1
        go_wp2_with fail
        refine HC1.out.mono ?_
        rintro _ w5 ⟨pk, ck, K, po, co, N5, rfl, k1, k2, o1, o2, b5⟩
        obtain ⟨Y1, hY1⟩ : ∃ Y, Y = w5.alloc (.cells #[.slice pk K ck, .int .i64 0] 28 (0, 0)) := ⟨_, rfl⟩
        have ab1 : Below w5.heap.size w5 Y1 := by rw [hY1]; exact alloc_below _ _
        have uy1 : Y1.heap[w5.heap.size]? = some (.cells #[.slice pk K ck, .int .i64 0] 28 (0, 0)) := by rw [hY1]; exact heap_alloc_new _ _
        obtain ⟨yb1, hyb1⟩ : ∃ yb, w5.heap.size = yb := ⟨_, rfl⟩
        rw [hyb1] at uy1
        have HUY1 := hide uy1
        have bb1 : Below wr1.heap.size wr1 Y1 := b5.trans (ab1.mono b5.size)
        have HBb : Hid (Below V.heap.size V Y1) := hide (HBa.out.trans (bb1.mono HBa.out.size))
        have HOO1 := hide (ownsRow_later o2 ab1)
        have HKK1 := hide (ownsRow_later o1 ab1)
        have HLO : Hid (os.length = N5) := hide k2
        have HLK : Hid (fs.length = K) := hide k1
        have HC2 := hide (all_keeps (kd := 5) (pt := pt) (fn := fn) (ar := ar) (tn := 0) (ip := ip) (n := n) (ic := ic) hkp (RRow.of_own HNa.out (ownsRow_later HO.out bb1)) HNa.out HNle.out HRO.out)
        rw [← HA1.out, ← HA2.out] at HC2
        have hN5 : N5 ≤ 1048576 := by rw [← k2]; omega
        have hK5 : K ≤ 1048576 := by rw [← k1]; omega
        clear f0 f1 f2 f3 f4 k1 k2 o1 o2 b5 ab1 uy1 bb1 HC1 hosl hfsl HB HO
        have fu := below_box HBb.out HU3.out
        have f0 : Y1.cell? ⟨sB, 0, none⟩ = some (.int .i64 5) := by simp [World.cell?, fu]
        have f1 : Y1.cell? ⟨sB, 1, none⟩ = some (.int .i64 pt) := by simp [World.cell?, fu]
        have f2 : Y1.cell? ⟨sB, 2, none⟩ = some (.int .i64 fn) := by simp [World.cell?, fu]
        have f3 : Y1.cell? ⟨sB, 3, none⟩ = some (.int .i64 ar) := by simp [World.cell?, fu]
        have f4 : Y1.cell? ⟨sB, 4, none⟩ = some (.slice ip n ic) := by simp [World.cell?, fu]
        clear fu
        go_upto_region 13 with fail
        rw [← hY1]
        try rw [hyb1]
        clear hY1 hyb1
        go_wp2_with fail
        refine HC2.out.mono ?_
        rintro _ w7 ⟨pk2, ck2, K2, po2, co2, N7, rfl, k1, k2, o1, o2, b7⟩
        obtain ⟨Y2, hY2⟩ : ∃ Y, Y = w7.alloc (.cells #[.slice pk2 K2 ck2, .int .i64 0] 28 (0, 0)) := ⟨_, rfl⟩
        have ab2 : Below w7.heap.size w7 Y2 := by rw [hY2]; exact alloc_below _ _
        have uy2 : Y2.heap[w7.heap.size]? = some (.cells #[.slice pk2 K2 ck2, .int .i64 0] 28 (0, 0)) := by rw [hY2]; exact heap_alloc_new _ _
        obtain ⟨yb2, hyb2⟩ : ∃ yb, w7.heap.size = yb := ⟨_, rfl⟩
        rw [hyb2] at uy2
        have HUY2 := hide uy2
        have bb2 : Below Y1.heap.size Y1 Y2 := b7.trans (ab2.mono b7.size)
        have HBc : Hid (Below V.heap.size V Y2) := hide (HBb.out.trans (bb2.mono HBb.out.size))
        have HOO := hide (ownsRow_later HOO1.out bb2)
        have HKK2 := hide (ownsRow_later HKK1.out bb2)
        have HUY1b := hide (below_box bb2 HUY1.out)
        have HQ2 := hide (ownsRow_later o2 ab2)
        have HP2 := hide (ownsRow_later o1 ab2)
        have HN7 := hide k2
        have HK7 := hide k1
        obtain ⟨_, _, ef, i1, i2⟩ := own_form HOO.out
        simp only [Value.slice.injEq, true_and] at ef
        obtain ⟨rfl, rfl⟩ := ef
        obtain ⟨_, _, ef, i3, i4⟩ := own_form HKK2.out
        simp only [Value.slice.injEq, true_and] at ef
        obtain ⟨rfl, rfl⟩ := ef
        clear f0 f1 f2 f3 f4 k1 k2 o1 o2 b7 ab2 uy2 bb2 HC2 HOO1 HKK1
        go_upto_region 14 with fail
        rw [← hY2]
        try rw [hyb2]
        clear hY2 hyb2
        go_wp2_with fail
        go_loopw [14, 61] (fun o i wq => ∃ (k : Nat) (p1 : Option Addr) (c1 N : Nat), k ≤ N5 ∧ i = .int .i64 (k : Int) ∧ o = .slice p1 N c1 ∧ Hid (((os.take k).filter (putOf key)).length = N) ∧ Hid (wq.ownsRow Y2.heap.size 43 3 (.slice p1 N c1) N (((os.take k).filter (putOf key)).flatMap PU.cells)) ∧ Hid (Below Y2.heap.size Y2 wq)) (fun _ i _ => N5 - (intOf i).toNat)
        case atStart => exact ⟨0, none, 0, 0, Nat.zero_le _, rfl, rfl, hide rfl, hide (World.ownsRow_nil _ _ _ _), hide (Below.refl _ _)⟩
        case round =>
          obtain ⟨k, p1, c1, N, hk, rfl, rfl, HN, HO, HB⟩ := hrel
          rename World => wr2
          by_cases hlt : k < N5
          · have hltr : k < os.length := by rw [HLO.out]; exact hlt
            obtain ⟨x, hx⟩ : ∃ x, os[k]! = x := ⟨_, rfl⟩
            obtain ⟨g2, rfl, d0, d1, d2⟩ := pu_cells (ownsRow_later HOO.out HB.out) HLO.out hlt hx
            obtain ⟨x0, x1, x2⟩ := x
            dsimp only at d0 d1 d2
            have hxk : os[k] = (⟨x0, x1, x2⟩ : _) := by rw [getElem!_pos os k hltr] at hx; exact hx
            have HXK : Hid (((os.take (k + 1)).filter (putOf key)) = ((os.take k).filter (putOf key)) ++ (if x1 = key then [⟨x0, x1, x2⟩] else [])) := by
              refine hide ?_
              rw [List.take_succ_eq_append_getElem hltr, List.filter_append, hxk]
              by_cases c : x1 = key
              · simp [putOf, c]
              · simp [putOf, c]
            have hNk : N ≤ k := by
              rw [← HN.out]
              exact Nat.le_trans (List.length_filter_le _ _) (by rw [List.length_take]; omega)
            obtain ⟨X1, hX1⟩ : ∃ X, X = wr2.alloc (.cells #[.int .i64 x0, .int .i64 x1, .int .i64 x2] 43 (0, 0)) := ⟨_, rfl⟩
            have bX1 : Below wr2.heap.size wr2 X1 := by rw [hX1]; exact alloc_below _ _
            have ux : X1.heap[wr2.heap.size]? = some (.cells #[.int .i64 x0, .int .i64 x1, .int .i64 x2] 43 (0, 0)) := by rw [hX1]; exact heap_alloc_new _ _
            obtain ⟨nb, hnb⟩ : ∃ nb, wr2.heap.size = nb := ⟨_, rfl⟩
            rw [hnb] at ux
            have y0 : X1.cell? ⟨nb, 0, none⟩ = some (.int .i64 x0) := by simp [World.cell?, ux]
            have y1 : X1.cell? ⟨nb, 1, none⟩ = some (.int .i64 x1) := by simp [World.cell?, ux]
            have y2 : X1.cell? ⟨nb, 2, none⟩ = some (.int .i64 x2) := by simp [World.cell?, ux]
            have HBX : Hid (Below Y2.heap.size Y2 X1) := hide (HB.out.trans (bX1.mono HB.out.size))
            have HOX := hide (ownsRow_later HO.out bX1)
            have HLT : Hid (∀ i, (Value.slice p1 N c1).ownBlock = some i → Y2.heap.size ≤ i) := hide (fun i e => (HO.out.lt i e).1)
            clear hx hxk ux bX1 HB HO hltr
            go_upto_region 18 with fail
            rw [← hX1]
            try rw [hnb]
            clear hX1 hnb d0 d1 d2
            by_cases c : x1 = key
            · have ek : (x1 == key) = true := by simpa using c
              have ab := alloc_below X1 (.cells #[.int .i64 x0, .int .i64 x1, .int .i64 x2] 43 (0, 0))
              have HRW := hide (ownsRow_later HOX.out ab)
              have HSG : Hid (Seg (X1.alloc (.cells #[.int .i64 x0, .int .i64 x1, .int .i64 x2] 43 (0, 0))) 3 (.slice (some ⟨X1.heap.size, 0, none⟩) 1 1) 1 [.int .i64 x0, .int .i64 x1, .int .i64 x2]) := hide (Seg.news (heap_alloc_new X1 _) (by simp [Value.oneCell']) rfl (Nat.le_refl _) (by decide))
              have HZB : Hid (Y2.heap.size ≤ (X1.alloc (.cells #[.int .i64 x0, .int .i64 x1, .int .i64 x2] 43 (0, 0))).heap.size) := hide (Nat.le_trans HBX.out.size ab.size)
              have HK1 : Hid (N + 1 ≤ maxLen) := by show _ ≤ _; unfold maxLen; omega
              have HK2 : Hid ((N + 1) * 24 ≤ 140737488355328) := hide (by omega)
              have HX2 : Hid (((os.take (k + 1)).filter (putOf key)) = ((os.take k).filter (putOf key)) ++ [⟨x0, x1, x2⟩]) := hide (by rw [HXK.out, if_pos c])
              clear ab c HOX
              go_wp2_with (at_builtin; refine append_cells _ rfl (.tmp 70) (.tmp 72) 39 rfl Y2.heap.size 43 q0 (.agg #[.int .i64 0, .int .i64 0, .int .i64 0]) 3 24 Try.underlying39 hq0 hq1 hq2 hq3 rfl (by decide) (.slice p1 N c1) N _ rfl HRW.out (.slice (some ⟨X1.heap.size, 0, none⟩) 1 1) 1 _ rfl HSG.out HK1.out HK2.out HZB.out ?_)
              intro p6 c6 w6 o6 g6
              have HN6 : Hid (Below Y2.heap.size Y2 w6) := hide (HBX.out.trans (((Only.alloc _ _ _).trans (Only.of_grown (F := fun i => (Value.slice p1 N c1).ownBlock = some i) g6 (fun k e => e))).below HBX.out.size HLT.out))
              have HO6 : Hid (w6.ownsRow Y2.heap.size 43 3 (.slice p6 (N + 1) c6) (N + 1) (((os.take (k + 1)).filter (putOf key)).flatMap PU.cells)) := by
                refine hide ?_
                rw [HX2.out, List.flatMap_append]
                exact o6
              have HL6 : Hid (((os.take (k + 1)).filter (putOf key)).length = N + 1) := hide (by rw [HX2.out, List.length_append, HN.out]; rfl)
              clear o6 g6
              go_wp2
              exact ⟨⟨k + 1, p6, c6, N + 1, by omega, by go_num, rfl, HL6, HO6, HN6⟩, by simp [intOf]; omega⟩
            · have ek : (x1 == key) = false := by simpa using c
              have HX2 : Hid (((os.take (k + 1)).filter (putOf key)) = ((os.take k).filter (putOf key))) := hide (by rw [HXK.out, if_neg c, List.append_nil])
              have HL6 : Hid (((os.take (k + 1)).filter (putOf key)).length = N) := hide (by rw [HX2.out]; exact HN.out)
              have HO6 : Hid (X1.ownsRow Y2.heap.size 43 3 (.slice p1 N c1) N (((os.take (k + 1)).filter (putOf key)).flatMap PU.cells)) := by rw [HX2.out]; exact HOX
              clear c HOX
              go_wp2
              exact ⟨⟨k + 1, p1, c1, N, by omega, by go_num, rfl, HL6, HO6, HBX⟩, by simp [intOf]; omega⟩
          · obtain rfl : k = N5 := by omega
            have hT : os.take k = os := List.take_of_length_le (by rw [HLO.out]; exact Nat.le_refl _)
            rw [hT] at HN HO
            clear hT hlt hk
            have HN2 := HN
            have HO2 := HO
            have HB2 := HB
            have HKK := hide (ownsRow_later HKK2.out HB.out)
            have u1 := below_box HB.out HUY1b.out
            have t0 : wr2.cell? ⟨yb1, 0, none⟩ = some (.slice pk K ck) := by simp [World.cell?, u1]
            clear HN HO HB u1
            go_wp2_with fail
            clear t0
            go_loopw [17, 78] (fun o i wq => ∃ (k : Nat) (p1 : Option Addr) (c1 N : Nat), k ≤ K ∧ i = .int .i64 (k : Int) ∧ o = .slice p1 N c1 ∧ Hid (((fs.take k).filter (keptOf key)).length = N) ∧ Hid (wq.ownsRow wr2.heap.size 51 3 (.slice p1 N c1) N (((fs.take k).filter (keptOf key)).flatMap KS.cells)) ∧ Hid (Below wr2.heap.size wr2 wq)) (fun _ i _ => K - (intOf i).toNat)
            case atStart => exact ⟨0, none, 0, 0, Nat.zero_le _, rfl, rfl, hide rfl, hide (World.ownsRow_nil _ _ _ _), hide (Below.refl _ _)⟩
            case round =>
              obtain ⟨k, p1, c1, N, hk, rfl, rfl, HN, HO, HB⟩ := hrel
              rename World => wr3
              by_cases hlt : k < K
              · have hltr : k < fs.length := by rw [HLK.out]; exact hlt
                obtain ⟨x, hx⟩ : ∃ x, fs[k]! = x := ⟨_, rfl⟩
                obtain ⟨g2, rfl, d0, d1, d2⟩ := ks_cells (ownsRow_later HKK.out HB.out) HLK.out hlt hx
                obtain ⟨x0, x1, x2⟩ := x
                dsimp only at d0 d1 d2
                have hxk : fs[k] = (⟨x0, x1, x2⟩ : _) := by rw [getElem!_pos fs k hltr] at hx; exact hx
                have HXK : Hid (((fs.take (k + 1)).filter (keptOf key)) = ((fs.take k).filter (keptOf key)) ++ (if x0 = key then [⟨x0, x1, x2⟩] else [])) := by
                  refine hide ?_
                  rw [List.take_succ_eq_append_getElem hltr, List.filter_append, hxk]
                  by_cases c : x0 = key
                  · simp [keptOf, c]
                  · simp [keptOf, c]
                have hNk : N ≤ k := by
                  rw [← HN.out]
                  exact Nat.le_trans (List.length_filter_le _ _) (by rw [List.length_take]; omega)
                obtain ⟨X1, hX1⟩ : ∃ X, X = wr3.alloc (.cells #[.int .i64 x0, .int .i64 x1, .int .i64 x2] 51 (0, 0)) := ⟨_, rfl⟩
                have bX1 : Below wr3.heap.size wr3 X1 := by rw [hX1]; exact alloc_below _ _
                have ux : X1.heap[wr3.heap.size]? = some (.cells #[.int .i64 x0, .int .i64 x1, .int .i64 x2] 51 (0, 0)) := by rw [hX1]; exact heap_alloc_new _ _
                obtain ⟨nb, hnb⟩ : ∃ nb, wr3.heap.size = nb := ⟨_, rfl⟩
                rw [hnb] at ux
                have y0 : X1.cell? ⟨nb, 0, none⟩ = some (.int .i64 x0) := by simp [World.cell?, ux]
                have y1 : X1.cell? ⟨nb, 1, none⟩ = some (.int .i64 x1) := by simp [World.cell?, ux]
                have y2 : X1.cell? ⟨nb, 2, none⟩ = some (.int .i64 x2) := by simp [World.cell?, ux]
                have HBX : Hid (Below wr2.heap.size wr2 X1) := hide (HB.out.trans (bX1.mono HB.out.size))
                have HOX := hide (ownsRow_later HO.out bX1)
                have HLT : Hid (∀ i, (Value.slice p1 N c1).ownBlock = some i → wr2.heap.size ≤ i) := hide (fun i e => (HO.out.lt i e).1)
                clear hx hxk ux bX1 HB HO hltr
                go_upto_region 25 with fail
                rw [← hX1]
                try rw [hnb]
                clear hX1 hnb d0 d1 d2
                by_cases c : x0 = key
                · have ek : (x0 == key) = true := by simpa using c
                  have ab := alloc_below X1 (.cells #[.int .i64 x0, .int .i64 x1, .int .i64 x2] 51 (0, 0))
                  have HRW := hide (ownsRow_later HOX.out ab)
                  have HSG : Hid (Seg (X1.alloc (.cells #[.int .i64 x0, .int .i64 x1, .int .i64 x2] 51 (0, 0))) 3 (.slice (some ⟨X1.heap.size, 0, none⟩) 1 1) 1 [.int .i64 x0, .int .i64 x1, .int .i64 x2]) := hide (Seg.news (heap_alloc_new X1 _) (by simp [Value.oneCell']) rfl (Nat.le_refl _) (by decide))
                  have HZB : Hid (wr2.heap.size ≤ (X1.alloc (.cells #[.int .i64 x0, .int .i64 x1, .int .i64 x2] 51 (0, 0))).heap.size) := hide (Nat.le_trans HBX.out.size ab.size)
                  have HK1 : Hid (N + 1 ≤ maxLen) := by show _ ≤ _; unfold maxLen; omega
                  have HK2 : Hid ((N + 1) * 24 ≤ 140737488355328) := hide (by omega)
                  have HX2 : Hid (((fs.take (k + 1)).filter (keptOf key)) = ((fs.take k).filter (keptOf key)) ++ [⟨x0, x1, x2⟩]) := hide (by rw [HXK.out, if_pos c])
                  clear ab c HOX
                  go_wp2_with (at_builtin; refine append_cells _ rfl (.tmp 86) (.tmp 88) 26 rfl wr2.heap.size 51 s0 (.agg #[.int .i64 0, .int .i64 0, .int .i64 0]) 3 24 Try.underlying26 hs0 hs1 hs2 hs3 rfl (by decide) (.slice p1 N c1) N _ rfl HRW.out (.slice (some ⟨X1.heap.size, 0, none⟩) 1 1) 1 _ rfl HSG.out HK1.out HK2.out HZB.out ?_)
                  intro p6 c6 w6 o6 g6
                  have HN6 : Hid (Below wr2.heap.size wr2 w6) := hide (HBX.out.trans (((Only.alloc _ _ _).trans (Only.of_grown (F := fun i => (Value.slice p1 N c1).ownBlock = some i) g6 (fun k e => e))).below HBX.out.size HLT.out))
                  have HO6 : Hid (w6.ownsRow wr2.heap.size 51 3 (.slice p6 (N + 1) c6) (N + 1) (((fs.take (k + 1)).filter (keptOf key)).flatMap KS.cells)) := by
                    refine hide ?_
                    rw [HX2.out, List.flatMap_append]
                    exact o6
                  have HL6 : Hid (((fs.take (k + 1)).filter (keptOf key)).length = N + 1) := hide (by rw [HX2.out, List.length_append, HN.out]; rfl)
                  clear o6 g6
                  go_wp2
                  exact ⟨⟨k + 1, p6, c6, N + 1, by omega, by go_num, rfl, HL6, HO6, HN6⟩, by simp [intOf]; omega⟩
                · have ek : (x0 == key) = false := by simpa using c
                  have HX2 : Hid (((fs.take (k + 1)).filter (keptOf key)) = ((fs.take k).filter (keptOf key))) := hide (by rw [HXK.out, if_neg c, List.append_nil])
                  have HL6 : Hid (((fs.take (k + 1)).filter (keptOf key)).length = N) := hide (by rw [HX2.out]; exact HN.out)
                  have HO6 : Hid (X1.ownsRow wr2.heap.size 51 3 (.slice p1 N c1) N (((fs.take (k + 1)).filter (keptOf key)).flatMap KS.cells)) := by rw [HX2.out]; exact HOX
                  clear c HOX
                  go_wp2
                  exact ⟨⟨k + 1, p1, c1, N, by omega, by go_num, rfl, HL6, HO6, HBX⟩, by simp [intOf]; omega⟩
              · obtain rfl : k = K := by omega
                have hT : fs.take k = fs := List.take_of_length_le (by rw [HLK.out]; exact Nat.le_refl _)
                rw [hT] at HN HO
                clear hT hlt hk
                have e1 := HN2.out.symm.trans HN7.out
                subst e1
                have e2 := HN.out.symm.trans HK7.out
                subst e2
                have bd : Below Y2.heap.size Y2 wr3 := HB2.out.trans (HB.out.mono HB2.out.size)
                have HBd := hide bd
                have HSP := hide (samePuts_any (ownsRow_later HO2.out HB.out) (ownsRow_later HQ2.out bd) HN2.out)
                have HO3 := HO
                have HN3 := HN
                clear bd HN HO HB HO2 HQ2 HN2 HN7 HKK HOO
                go_wp2_with fail
                refine HSP.out.mono ?_
                rintro _ w9 ⟨rfl, b9⟩
                have bd9 : Below Y2.heap.size Y2 w9 := HBd.out.trans (b9.mono HBd.out.size)
                have HSM := hide (same_any (tn := 0) (ownsRow_later HO3.out b9) (ownsRow_later HP2.out bd9) HN3.out)
                have u2 := below_box bd9 HUY2.out
                have t0 : w9.cell? ⟨yb2, 0, none⟩ = some (.slice pk2 N ck2) := by simp [World.cell?, u2]
                have t1 : w9.cell? ⟨yb2, 1, none⟩ = some (.int .i64 0) := by simp [World.cell?, u2]
                have HB9 : Hid (Below V.heap.size V w9) := hide (HBc.out.trans (bd9.mono HBc.out.size))
                clear bd9 b9 u2 HSP HO3 HN3 HP2
                go_wp2_with fail
                refine HSM.out.mono ?_
                rintro _ wA ⟨rfl, bA⟩
                have HBF : Hid (Below W.heap.size W wA) := hide (HBV.out.trans ((HB9.out.trans (bA.mono HB9.out.size)).mono HBV.out.size))
                clear bA t0 t1
                go_wp2
                go_ret
                exact ⟨rfl, HBF.out⟩
  · by_cases h6 : kd = 6
    · subst h6
      have hkp : keepsC 6 = true := rfl
      go_wp2_with fail
      go_loopw [7, 32] (fun o i wq => ∃ (k : Nat) (p1 : Option Addr) (c1 N : Nat), k ≤ m ∧ i = .int .i64 (k : Int) ∧ o = .slice p1 N c1 ∧ Hid (((rs.take k).filter (ofKey key)).length = N) ∧ Hid (wq.ownsRow w1.heap.size 38 2 (.slice p1 N c1) N (((rs.take k).filter (ofKey key)).flatMap RC.cells)) ∧ Hid (Below w1.heap.size w1 wq)) (fun _ i _ => m - (intOf i).toNat)
      case atStart => exact ⟨0, none, 0, 0, Nat.zero_le _, rfl, rfl, hide rfl, hide (World.ownsRow_nil _ _ _ _), hide (Below.refl _ _)⟩
      case round =>
        obtain ⟨k, p1, c1, N, hk, rfl, rfl, HN, HO, HB⟩ := hrel
        rename World => wr1
        by_cases hlt : k < m
        · have hltr : k < rs.length := by rw [HM.out]; exact hlt
          obtain ⟨x, hx⟩ : ∃ x, rs[k]! = x := ⟨_, rfl⟩
          obtain ⟨g2, o2, rfl, hc⟩ := (HR1.out.below HB.out).cell k hltr
          obtain ⟨ky, vl⟩ := x
          rw [hx] at hc
          have d0 : wr1.cell? ⟨g2, o2 + k * 2, none⟩ = some (.int .i64 ky) := hc 0 (by omega)
          have d1 : wr1.cell? ⟨g2, o2 + k * 2 + 1, none⟩ = some (.int .i64 vl) := hc 1 (by omega)
          clear hc
          have hxk : rs[k] = (⟨ky, vl⟩ : _) := by rw [getElem!_pos rs k hltr] at hx; exact hx
          have HXK : Hid (((rs.take (k + 1)).filter (ofKey key)) = ((rs.take k).filter (ofKey key)) ++ (if ky = key then [⟨ky, vl⟩] else [])) := by
            refine hide ?_
            rw [List.take_succ_eq_append_getElem hltr, List.filter_append, hxk]
            by_cases c : ky = key
            · simp [ofKey, c]
            · simp [ofKey, c]
          have hNk : N ≤ k := by
            rw [← HN.out]
            exact Nat.le_trans (List.length_filter_le _ _) (by rw [List.length_take]; omega)
          obtain ⟨X1, hX1⟩ : ∃ X, X = wr1.alloc (.cells #[.int .i64 ky, .int .i64 vl] 38 (0, 0)) := ⟨_, rfl⟩
          have bX1 : Below wr1.heap.size wr1 X1 := by rw [hX1]; exact alloc_below _ _
          have ux : X1.heap[wr1.heap.size]? = some (.cells #[.int .i64 ky, .int .i64 vl] 38 (0, 0)) := by rw [hX1]; exact heap_alloc_new _ _
          obtain ⟨nb, hnb⟩ : ∃ nb, wr1.heap.size = nb := ⟨_, rfl⟩
          rw [hnb] at ux
          have y0 : X1.cell? ⟨nb, 0, none⟩ = some (.int .i64 ky) := by simp [World.cell?, ux]
          have y1 : X1.cell? ⟨nb, 1, none⟩ = some (.int .i64 vl) := by simp [World.cell?, ux]
          have HBX : Hid (Below w1.heap.size w1 X1) := hide (HB.out.trans (bX1.mono HB.out.size))
          have HOX := hide (ownsRow_later HO.out bX1)
          have HLT : Hid (∀ i, (Value.slice p1 N c1).ownBlock = some i → w1.heap.size ≤ i) := hide (fun i e => (HO.out.lt i e).1)
          clear hx hxk ux bX1 HB HO hltr
          go_upto_region 9 with fail
          rw [← hX1]
          try rw [hnb]
          clear hX1 hnb d0 d1
          by_cases c : ky = key
          · have ek : (ky == key) = true := by simpa using c
            have ab := alloc_below X1 (.cells #[.int .i64 ky, .int .i64 vl] 38 (0, 0))
            have HRW := hide (ownsRow_later HOX.out ab)
            have HSG : Hid (Seg (X1.alloc (.cells #[.int .i64 ky, .int .i64 vl] 38 (0, 0))) 2 (.slice (some ⟨X1.heap.size, 0, none⟩) 1 1) 1 [.int .i64 ky, .int .i64 vl]) := hide (Seg.news (heap_alloc_new X1 _) (by simp [Value.oneCell']) rfl (Nat.le_refl _) (by decide))
            have HZB : Hid (w1.heap.size ≤ (X1.alloc (.cells #[.int .i64 ky, .int .i64 vl] 38 (0, 0))).heap.size) := hide (Nat.le_trans HBX.out.size ab.size)
            have HK1 : Hid (N + 1 ≤ maxLen) := by show _ ≤ _; unfold maxLen; omega
            have HK2 : Hid ((N + 1) * 16 ≤ 140737488355328) := hide (by omega)
            have HX2 : Hid (((rs.take (k + 1)).filter (ofKey key)) = ((rs.take k).filter (ofKey key)) ++ [⟨ky, vl⟩]) := hide (by rw [HXK.out, if_pos c])
            clear ab c HOX
            go_wp2_with (at_builtin; refine append_cells _ rfl (.tmp 40) (.tmp 42) 25 rfl w1.heap.size 38 j0 (.agg #[.int .i64 0, .int .i64 0]) 2 16 Try.underlying25 hj0 hj1 hj2 hj3 rfl (by decide) (.slice p1 N c1) N _ rfl HRW.out (.slice (some ⟨X1.heap.size, 0, none⟩) 1 1) 1 _ rfl HSG.out HK1.out HK2.out HZB.out ?_)
            intro p6 c6 w6 o6 g6
            have HN6 : Hid (Below w1.heap.size w1 w6) := hide (HBX.out.trans (((Only.alloc _ _ _).trans (Only.of_grown (F := fun i => (Value.slice p1 N c1).ownBlock = some i) g6 (fun k e => e))).below HBX.out.size HLT.out))
            have HO6 : Hid (w6.ownsRow w1.heap.size 38 2 (.slice p6 (N + 1) c6) (N + 1) (((rs.take (k + 1)).filter (ofKey key)).flatMap RC.cells)) := by
              refine hide ?_
              rw [HX2.out, List.flatMap_append]
              exact o6
            have HL6 : Hid (((rs.take (k + 1)).filter (ofKey key)).length = N + 1) := hide (by rw [HX2.out, List.length_append, HN.out]; rfl)
            clear o6 g6
            go_wp2
            exact ⟨⟨k + 1, p6, c6, N + 1, by omega, by go_num, rfl, HL6, HO6, HN6⟩, by simp [intOf]; omega⟩
          · have ek : (ky == key) = false := by simpa using c
            have HX2 : Hid (((rs.take (k + 1)).filter (ofKey key)) = ((rs.take k).filter (ofKey key))) := hide (by rw [HXK.out, if_neg c, List.append_nil])
            have HL6 : Hid (((rs.take (k + 1)).filter (ofKey key)).length = N) := hide (by rw [HX2.out]; exact HN.out)
            have HO6 : Hid (X1.ownsRow w1.heap.size 38 2 (.slice p1 N c1) N (((rs.take (k + 1)).filter (ofKey key)).flatMap RC.cells)) := by rw [HX2.out]; exact HOX
            clear c HOX
            go_wp2
            exact ⟨⟨k + 1, p1, c1, N, by omega, by go_num, rfl, HL6, HO6, HBX⟩, by simp [intOf]; omega⟩
        · obtain rfl : k = m := by omega
          have hT : rs.take k = rs := List.take_of_length_le (by rw [HM.out]; exact Nat.le_refl _)
          rw [hT] at HN HO
          clear hT hlt hk
          have fu := below_box HB.out HY3.out
          have f0 : wr1.cell? ⟨sB, 0, none⟩ = some (.int .i64 6) := by simp [World.cell?, fu]
          have f1 : wr1.cell? ⟨sB, 1, none⟩ = some (.int .i64 pt) := by simp [World.cell?, fu]
          have f2 : wr1.cell? ⟨sB, 2, none⟩ = some (.int .i64 fn) := by simp [World.cell?, fu]
          have f3 : wr1.cell? ⟨sB, 3, none⟩ = some (.int .i64 ar) := by simp [World.cell?, fu]
          have f4 : wr1.cell? ⟨sB, 4, none⟩ = some (.slice ip n ic) := by simp [World.cell?, fu]
          clear fu
          have HC1 := hide (all_keeps (kd := 6) (pt := pt) (fn := fn) (ar := ar) (tn := 0) (ip := ip) (n := n) (ic := ic) hkp (HR1.out.below HB.out) HM.out hb HRI.out)
          obtain ⟨os, hos⟩ : ∃ os, outsC 6 fn ar ST.none rs = os := ⟨_, rfl⟩
          obtain ⟨fs, hfs⟩ : ∃ fs, finC (stateC 6 fn ar ST.none rs) (keysC (rs.map RC.key)) = fs := ⟨_, rfl⟩
          obtain ⟨hap1, hap2⟩ := apart 6 fn ar key rs
          rw [hos] at hap1
          rw [hfs] at hap2
          have hosl := outsC_len 6 fn ar rs ST.none
          rw [hos, HM.out] at hosl
          have hfsl : fs.length ≤ k := by
            rw [← hfs]
            unfold finC
            rw [List.length_map]
            refine Nat.le_trans (List.length_filter_le _ _) ?_
            have h9 := keysC_len (rs.map RC.key)
            rw [List.length_map, HM.out] at h9
            exact h9
          rw [hos, hfs] at HC1
          have HA1 := hide hap1
          have HA2 := hide hap2
          have HNa := HN
          have HNle : Hid (N ≤ 1048576) := hide (by rw [← HN.out]; exact Nat.le_trans (List.length_filter_le _ _) (by rw [HM.out]; exact hb))
          obtain ⟨own, hown⟩ : ∃ own, rs.filter (ofKey key) = own := ⟨_, rfl⟩
          rw [hown] at HO HNa HA1 HA2
          have HRO : Hid (∀ r ∈ own, I6 r.key) := hide (fun r hr => HRI.out r (by rw [← hown] at hr; exact (List.mem_filter.1 hr).1))
          have HBa : Hid (Below V.heap.size V wr1) := hide (HB1.out.trans (HB.out.mono HB1.out.size))
          clear hap1 hap2 hos hfs HN HRI hown HR1
          go_wp2_with fail
          refine HC1.out.mono ?_
          rintro _ w5 ⟨pk, ck, K, po, co, N5, rfl, k1, k2, o1, o2, b5⟩
          obtain ⟨Y1, hY1⟩ : ∃ Y, Y = w5.alloc (.cells #[.slice pk K ck, .int .i64 0] 28 (0, 0)) := ⟨_, rfl⟩
          have ab1 : Below w5.heap.size w5 Y1 := by rw [hY1]; exact alloc_below _ _
          have uy1 : Y1.heap[w5.heap.size]? = some (.cells #[.slice pk K ck, .int .i64 0] 28 (0, 0)) := by rw [hY1]; exact heap_alloc_new _ _
          obtain ⟨yb1, hyb1⟩ : ∃ yb, w5.heap.size = yb := ⟨_, rfl⟩
          rw [hyb1] at uy1
          have HUY1 := hide uy1
          have bb1 : Below wr1.heap.size wr1 Y1 := b5.trans (ab1.mono b5.size)
          have HBb : Hid (Below V.heap.size V Y1) := hide (HBa.out.trans (bb1.mono HBa.out.size))
          have HOO1 := hide (ownsRow_later o2 ab1)
          have HKK1 := hide (ownsRow_later o1 ab1)
          have HLO : Hid (os.length = N5) := hide k2
          have HLK : Hid (fs.length = K) := hide k1
          have HC2 := hide (all_keeps (kd := 6) (pt := pt) (fn := fn) (ar := ar) (tn := 0) (ip := ip) (n := n) (ic := ic) hkp (RRow.of_own HNa.out (ownsRow_later HO.out bb1)) HNa.out HNle.out HRO.out)
          rw [← HA1.out, ← HA2.out] at HC2
          have hN5 : N5 ≤ 1048576 := by rw [← k2]; omega
          have hK5 : K ≤ 1048576 := by rw [← k1]; omega
          clear f0 f1 f2 f3 f4 k1 k2 o1 o2 b5 ab1 uy1 bb1 HC1 hosl hfsl HB HO
          have fu := below_box HBb.out HU3.out
          have f0 : Y1.cell? ⟨sB, 0, none⟩ = some (.int .i64 6) := by simp [World.cell?, fu]
          have f1 : Y1.cell? ⟨sB, 1, none⟩ = some (.int .i64 pt) := by simp [World.cell?, fu]
          have f2 : Y1.cell? ⟨sB, 2, none⟩ = some (.int .i64 fn) := by simp [World.cell?, fu]
          have f3 : Y1.cell? ⟨sB, 3, none⟩ = some (.int .i64 ar) := by simp [World.cell?, fu]
          have f4 : Y1.cell? ⟨sB, 4, none⟩ = some (.slice ip n ic) := by simp [World.cell?, fu]
          clear fu
          go_upto_region 13 with fail
          rw [← hY1]
          try rw [hyb1]
          clear hY1 hyb1
          go_wp2_with fail
          refine HC2.out.mono ?_
          rintro _ w7 ⟨pk2, ck2, K2, po2, co2, N7, rfl, k1, k2, o1, o2, b7⟩
          obtain ⟨Y2, hY2⟩ : ∃ Y, Y = w7.alloc (.cells #[.slice pk2 K2 ck2, .int .i64 0] 28 (0, 0)) := ⟨_, rfl⟩
          have ab2 : Below w7.heap.size w7 Y2 := by rw [hY2]; exact alloc_below _ _
          have uy2 : Y2.heap[w7.heap.size]? = some (.cells #[.slice pk2 K2 ck2, .int .i64 0] 28 (0, 0)) := by rw [hY2]; exact heap_alloc_new _ _
          obtain ⟨yb2, hyb2⟩ : ∃ yb, w7.heap.size = yb := ⟨_, rfl⟩
          rw [hyb2] at uy2
          have HUY2 := hide uy2
          have bb2 : Below Y1.heap.size Y1 Y2 := b7.trans (ab2.mono b7.size)
          have HBc : Hid (Below V.heap.size V Y2) := hide (HBb.out.trans (bb2.mono HBb.out.size))
          have HOO := hide (ownsRow_later HOO1.out bb2)
          have HKK2 := hide (ownsRow_later HKK1.out bb2)
          have HUY1b := hide (below_box bb2 HUY1.out)
          have HQ2 := hide (ownsRow_later o2 ab2)
          have HP2 := hide (ownsRow_later o1 ab2)
          have HN7 := hide k2
          have HK7 := hide k1
          obtain ⟨_, _, ef, i1, i2⟩ := own_form HOO.out
          simp only [Value.slice.injEq, true_and] at ef
          obtain ⟨rfl, rfl⟩ := ef
          obtain ⟨_, _, ef, i3, i4⟩ := own_form HKK2.out
          simp only [Value.slice.injEq, true_and] at ef
          obtain ⟨rfl, rfl⟩ := ef
          clear f0 f1 f2 f3 f4 k1 k2 o1 o2 b7 ab2 uy2 bb2 HC2 HOO1 HKK1
          go_upto_region 14 with fail
          rw [← hY2]
          try rw [hyb2]
          clear hY2 hyb2
          go_wp2_with fail
          go_loopw [14, 61] (fun o i wq => ∃ (k : Nat) (p1 : Option Addr) (c1 N : Nat), k ≤ N5 ∧ i = .int .i64 (k : Int) ∧ o = .slice p1 N c1 ∧ Hid (((os.take k).filter (putOf key)).length = N) ∧ Hid (wq.ownsRow Y2.heap.size 43 3 (.slice p1 N c1) N (((os.take k).filter (putOf key)).flatMap PU.cells)) ∧ Hid (Below Y2.heap.size Y2 wq)) (fun _ i _ => N5 - (intOf i).toNat)
          case atStart => exact ⟨0, none, 0, 0, Nat.zero_le _, rfl, rfl, hide rfl, hide (World.ownsRow_nil _ _ _ _), hide (Below.refl _ _)⟩
          case round =>
            obtain ⟨k, p1, c1, N, hk, rfl, rfl, HN, HO, HB⟩ := hrel
            rename World => wr2
            by_cases hlt : k < N5
            · have hltr : k < os.length := by rw [HLO.out]; exact hlt
              obtain ⟨x, hx⟩ : ∃ x, os[k]! = x := ⟨_, rfl⟩
              obtain ⟨g2, rfl, d0, d1, d2⟩ := pu_cells (ownsRow_later HOO.out HB.out) HLO.out hlt hx
              obtain ⟨x0, x1, x2⟩ := x
              dsimp only at d0 d1 d2
              have hxk : os[k] = (⟨x0, x1, x2⟩ : _) := by rw [getElem!_pos os k hltr] at hx; exact hx
              have HXK : Hid (((os.take (k + 1)).filter (putOf key)) = ((os.take k).filter (putOf key)) ++ (if x1 = key then [⟨x0, x1, x2⟩] else [])) := by
                refine hide ?_
                rw [List.take_succ_eq_append_getElem hltr, List.filter_append, hxk]
                by_cases c : x1 = key
                · simp [putOf, c]
                · simp [putOf, c]
              have hNk : N ≤ k := by
                rw [← HN.out]
                exact Nat.le_trans (List.length_filter_le _ _) (by rw [List.length_take]; omega)
              obtain ⟨X1, hX1⟩ : ∃ X, X = wr2.alloc (.cells #[.int .i64 x0, .int .i64 x1, .int .i64 x2] 43 (0, 0)) := ⟨_, rfl⟩
              have bX1 : Below wr2.heap.size wr2 X1 := by rw [hX1]; exact alloc_below _ _
              have ux : X1.heap[wr2.heap.size]? = some (.cells #[.int .i64 x0, .int .i64 x1, .int .i64 x2] 43 (0, 0)) := by rw [hX1]; exact heap_alloc_new _ _
              obtain ⟨nb, hnb⟩ : ∃ nb, wr2.heap.size = nb := ⟨_, rfl⟩
              rw [hnb] at ux
              have y0 : X1.cell? ⟨nb, 0, none⟩ = some (.int .i64 x0) := by simp [World.cell?, ux]
              have y1 : X1.cell? ⟨nb, 1, none⟩ = some (.int .i64 x1) := by simp [World.cell?, ux]
              have y2 : X1.cell? ⟨nb, 2, none⟩ = some (.int .i64 x2) := by simp [World.cell?, ux]
              have HBX : Hid (Below Y2.heap.size Y2 X1) := hide (HB.out.trans (bX1.mono HB.out.size))
              have HOX := hide (ownsRow_later HO.out bX1)
              have HLT : Hid (∀ i, (Value.slice p1 N c1).ownBlock = some i → Y2.heap.size ≤ i) := hide (fun i e => (HO.out.lt i e).1)
              clear hx hxk ux bX1 HB HO hltr
              go_upto_region 18 with fail
              rw [← hX1]
              try rw [hnb]
              clear hX1 hnb d0 d1 d2
              by_cases c : x1 = key
              · have ek : (x1 == key) = true := by simpa using c
                have ab := alloc_below X1 (.cells #[.int .i64 x0, .int .i64 x1, .int .i64 x2] 43 (0, 0))
                have HRW := hide (ownsRow_later HOX.out ab)
                have HSG : Hid (Seg (X1.alloc (.cells #[.int .i64 x0, .int .i64 x1, .int .i64 x2] 43 (0, 0))) 3 (.slice (some ⟨X1.heap.size, 0, none⟩) 1 1) 1 [.int .i64 x0, .int .i64 x1, .int .i64 x2]) := hide (Seg.news (heap_alloc_new X1 _) (by simp [Value.oneCell']) rfl (Nat.le_refl _) (by decide))
                have HZB : Hid (Y2.heap.size ≤ (X1.alloc (.cells #[.int .i64 x0, .int .i64 x1, .int .i64 x2] 43 (0, 0))).heap.size) := hide (Nat.le_trans HBX.out.size ab.size)
                have HK1 : Hid (N + 1 ≤ maxLen) := by show _ ≤ _; unfold maxLen; omega
                have HK2 : Hid ((N + 1) * 24 ≤ 140737488355328) := hide (by omega)
                have HX2 : Hid (((os.take (k + 1)).filter (putOf key)) = ((os.take k).filter (putOf key)) ++ [⟨x0, x1, x2⟩]) := hide (by rw [HXK.out, if_pos c])
                clear ab c HOX
                go_wp2_with (at_builtin; refine append_cells _ rfl (.tmp 70) (.tmp 72) 39 rfl Y2.heap.size 43 q0 (.agg #[.int .i64 0, .int .i64 0, .int .i64 0]) 3 24 Try.underlying39 hq0 hq1 hq2 hq3 rfl (by decide) (.slice p1 N c1) N _ rfl HRW.out (.slice (some ⟨X1.heap.size, 0, none⟩) 1 1) 1 _ rfl HSG.out HK1.out HK2.out HZB.out ?_)
                intro p6 c6 w6 o6 g6
                have HN6 : Hid (Below Y2.heap.size Y2 w6) := hide (HBX.out.trans (((Only.alloc _ _ _).trans (Only.of_grown (F := fun i => (Value.slice p1 N c1).ownBlock = some i) g6 (fun k e => e))).below HBX.out.size HLT.out))
                have HO6 : Hid (w6.ownsRow Y2.heap.size 43 3 (.slice p6 (N + 1) c6) (N + 1) (((os.take (k + 1)).filter (putOf key)).flatMap PU.cells)) := by
                  refine hide ?_
                  rw [HX2.out, List.flatMap_append]
                  exact o6
                have HL6 : Hid (((os.take (k + 1)).filter (putOf key)).length = N + 1) := hide (by rw [HX2.out, List.length_append, HN.out]; rfl)
                clear o6 g6
                go_wp2
                exact ⟨⟨k + 1, p6, c6, N + 1, by omega, by go_num, rfl, HL6, HO6, HN6⟩, by simp [intOf]; omega⟩
              · have ek : (x1 == key) = false := by simpa using c
                have HX2 : Hid (((os.take (k + 1)).filter (putOf key)) = ((os.take k).filter (putOf key))) := hide (by rw [HXK.out, if_neg c, List.append_nil])
                have HL6 : Hid (((os.take (k + 1)).filter (putOf key)).length = N) := hide (by rw [HX2.out]; exact HN.out)
                have HO6 : Hid (X1.ownsRow Y2.heap.size 43 3 (.slice p1 N c1) N (((os.take (k + 1)).filter (putOf key)).flatMap PU.cells)) := by rw [HX2.out]; exact HOX
                clear c HOX
                go_wp2
                exact ⟨⟨k + 1, p1, c1, N, by omega, by go_num, rfl, HL6, HO6, HBX⟩, by simp [intOf]; omega⟩
            · obtain rfl : k = N5 := by omega
              have hT : os.take k = os := List.take_of_length_le (by rw [HLO.out]; exact Nat.le_refl _)
              rw [hT] at HN HO
              clear hT hlt hk
              have HN2 := HN
              have HO2 := HO
              have HB2 := HB
              have HKK := hide (ownsRow_later HKK2.out HB.out)
              have u1 := below_box HB.out HUY1b.out
              have t0 : wr2.cell? ⟨yb1, 0, none⟩ = some (.slice pk K ck) := by simp [World.cell?, u1]
              clear HN HO HB u1
              go_wp2_with fail
              clear t0
              go_loopw [17, 78] (fun o i wq => ∃ (k : Nat) (p1 : Option Addr) (c1 N : Nat), k ≤ K ∧ i = .int .i64 (k : Int) ∧ o = .slice p1 N c1 ∧ Hid (((fs.take k).filter (keptOf key)).length = N) ∧ Hid (wq.ownsRow wr2.heap.size 51 3 (.slice p1 N c1) N (((fs.take k).filter (keptOf key)).flatMap KS.cells)) ∧ Hid (Below wr2.heap.size wr2 wq)) (fun _ i _ => K - (intOf i).toNat)
              case atStart => exact ⟨0, none, 0, 0, Nat.zero_le _, rfl, rfl, hide rfl, hide (World.ownsRow_nil _ _ _ _), hide (Below.refl _ _)⟩
              case round =>
                obtain ⟨k, p1, c1, N, hk, rfl, rfl, HN, HO, HB⟩ := hrel
                rename World => wr3
                by_cases hlt : k < K
                · have hltr : k < fs.length := by rw [HLK.out]; exact hlt
                  obtain ⟨x, hx⟩ : ∃ x, fs[k]! = x := ⟨_, rfl⟩
                  obtain ⟨g2, rfl, d0, d1, d2⟩ := ks_cells (ownsRow_later HKK.out HB.out) HLK.out hlt hx
                  obtain ⟨x0, x1, x2⟩ := x
                  dsimp only at d0 d1 d2
                  have hxk : fs[k] = (⟨x0, x1, x2⟩ : _) := by rw [getElem!_pos fs k hltr] at hx; exact hx
                  have HXK : Hid (((fs.take (k + 1)).filter (keptOf key)) = ((fs.take k).filter (keptOf key)) ++ (if x0 = key then [⟨x0, x1, x2⟩] else [])) := by
                    refine hide ?_
                    rw [List.take_succ_eq_append_getElem hltr, List.filter_append, hxk]
                    by_cases c : x0 = key
                    · simp [keptOf, c]
                    · simp [keptOf, c]
                  have hNk : N ≤ k := by
                    rw [← HN.out]
                    exact Nat.le_trans (List.length_filter_le _ _) (by rw [List.length_take]; omega)
                  obtain ⟨X1, hX1⟩ : ∃ X, X = wr3.alloc (.cells #[.int .i64 x0, .int .i64 x1, .int .i64 x2] 51 (0, 0)) := ⟨_, rfl⟩
                  have bX1 : Below wr3.heap.size wr3 X1 := by rw [hX1]; exact alloc_below _ _
                  have ux : X1.heap[wr3.heap.size]? = some (.cells #[.int .i64 x0, .int .i64 x1, .int .i64 x2] 51 (0, 0)) := by rw [hX1]; exact heap_alloc_new _ _
                  obtain ⟨nb, hnb⟩ : ∃ nb, wr3.heap.size = nb := ⟨_, rfl⟩
                  rw [hnb] at ux
                  have y0 : X1.cell? ⟨nb, 0, none⟩ = some (.int .i64 x0) := by simp [World.cell?, ux]
                  have y1 : X1.cell? ⟨nb, 1, none⟩ = some (.int .i64 x1) := by simp [World.cell?, ux]
                  have y2 : X1.cell? ⟨nb, 2, none⟩ = some (.int .i64 x2) := by simp [World.cell?, ux]
                  have HBX : Hid (Below wr2.heap.size wr2 X1) := hide (HB.out.trans (bX1.mono HB.out.size))
                  have HOX := hide (ownsRow_later HO.out bX1)
                  have HLT : Hid (∀ i, (Value.slice p1 N c1).ownBlock = some i → wr2.heap.size ≤ i) := hide (fun i e => (HO.out.lt i e).1)
                  clear hx hxk ux bX1 HB HO hltr
                  go_upto_region 25 with fail
                  rw [← hX1]
                  try rw [hnb]
                  clear hX1 hnb d0 d1 d2
                  by_cases c : x0 = key
                  · have ek : (x0 == key) = true := by simpa using c
                    have ab := alloc_below X1 (.cells #[.int .i64 x0, .int .i64 x1, .int .i64 x2] 51 (0, 0))
                    have HRW := hide (ownsRow_later HOX.out ab)
                    have HSG : Hid (Seg (X1.alloc (.cells #[.int .i64 x0, .int .i64 x1, .int .i64 x2] 51 (0, 0))) 3 (.slice (some ⟨X1.heap.size, 0, none⟩) 1 1) 1 [.int .i64 x0, .int .i64 x1, .int .i64 x2]) := hide (Seg.news (heap_alloc_new X1 _) (by simp [Value.oneCell']) rfl (Nat.le_refl _) (by decide))
                    have HZB : Hid (wr2.heap.size ≤ (X1.alloc (.cells #[.int .i64 x0, .int .i64 x1, .int .i64 x2] 51 (0, 0))).heap.size) := hide (Nat.le_trans HBX.out.size ab.size)
                    have HK1 : Hid (N + 1 ≤ maxLen) := by show _ ≤ _; unfold maxLen; omega
                    have HK2 : Hid ((N + 1) * 24 ≤ 140737488355328) := hide (by omega)
                    have HX2 : Hid (((fs.take (k + 1)).filter (keptOf key)) = ((fs.take k).filter (keptOf key)) ++ [⟨x0, x1, x2⟩]) := hide (by rw [HXK.out, if_pos c])
                    clear ab c HOX
                    go_wp2_with (at_builtin; refine append_cells _ rfl (.tmp 86) (.tmp 88) 26 rfl wr2.heap.size 51 s0 (.agg #[.int .i64 0, .int .i64 0, .int .i64 0]) 3 24 Try.underlying26 hs0 hs1 hs2 hs3 rfl (by decide) (.slice p1 N c1) N _ rfl HRW.out (.slice (some ⟨X1.heap.size, 0, none⟩) 1 1) 1 _ rfl HSG.out HK1.out HK2.out HZB.out ?_)
                    intro p6 c6 w6 o6 g6
                    have HN6 : Hid (Below wr2.heap.size wr2 w6) := hide (HBX.out.trans (((Only.alloc _ _ _).trans (Only.of_grown (F := fun i => (Value.slice p1 N c1).ownBlock = some i) g6 (fun k e => e))).below HBX.out.size HLT.out))
                    have HO6 : Hid (w6.ownsRow wr2.heap.size 51 3 (.slice p6 (N + 1) c6) (N + 1) (((fs.take (k + 1)).filter (keptOf key)).flatMap KS.cells)) := by
                      refine hide ?_
                      rw [HX2.out, List.flatMap_append]
                      exact o6
                    have HL6 : Hid (((fs.take (k + 1)).filter (keptOf key)).length = N + 1) := hide (by rw [HX2.out, List.length_append, HN.out]; rfl)
                    clear o6 g6
                    go_wp2
                    exact ⟨⟨k + 1, p6, c6, N + 1, by omega, by go_num, rfl, HL6, HO6, HN6⟩, by simp [intOf]; omega⟩
                  · have ek : (x0 == key) = false := by simpa using c
                    have HX2 : Hid (((fs.take (k + 1)).filter (keptOf key)) = ((fs.take k).filter (keptOf key))) := hide (by rw [HXK.out, if_neg c, List.append_nil])
                    have HL6 : Hid (((fs.take (k + 1)).filter (keptOf key)).length = N) := hide (by rw [HX2.out]; exact HN.out)
                    have HO6 : Hid (X1.ownsRow wr2.heap.size 51 3 (.slice p1 N c1) N (((fs.take (k + 1)).filter (keptOf key)).flatMap KS.cells)) := by rw [HX2.out]; exact HOX
                    clear c HOX
                    go_wp2
                    exact ⟨⟨k + 1, p1, c1, N, by omega, by go_num, rfl, HL6, HO6, HBX⟩, by simp [intOf]; omega⟩
                · obtain rfl : k = K := by omega
                  have hT : fs.take k = fs := List.take_of_length_le (by rw [HLK.out]; exact Nat.le_refl _)
                  rw [hT] at HN HO
                  clear hT hlt hk
                  have e1 := HN2.out.symm.trans HN7.out
                  subst e1
                  have e2 := HN.out.symm.trans HK7.out
                  subst e2
                  have bd : Below Y2.heap.size Y2 wr3 := HB2.out.trans (HB.out.mono HB2.out.size)
                  have HBd := hide bd
                  have HSP := hide (samePuts_any (ownsRow_later HO2.out HB.out) (ownsRow_later HQ2.out bd) HN2.out)
                  have HO3 := HO
                  have HN3 := HN
                  clear bd HN HO HB HO2 HQ2 HN2 HN7 HKK HOO
                  go_wp2_with fail
                  refine HSP.out.mono ?_
                  rintro _ w9 ⟨rfl, b9⟩
                  have bd9 : Below Y2.heap.size Y2 w9 := HBd.out.trans (b9.mono HBd.out.size)
                  have HSM := hide (same_any (tn := 0) (ownsRow_later HO3.out b9) (ownsRow_later HP2.out bd9) HN3.out)
                  have u2 := below_box bd9 HUY2.out
                  have t0 : w9.cell? ⟨yb2, 0, none⟩ = some (.slice pk2 N ck2) := by simp [World.cell?, u2]
                  have t1 : w9.cell? ⟨yb2, 1, none⟩ = some (.int .i64 0) := by simp [World.cell?, u2]
                  have HB9 : Hid (Below V.heap.size V w9) := hide (HBc.out.trans (bd9.mono HBc.out.size))
                  clear bd9 b9 u2 HSP HO3 HN3 HP2
                  go_wp2_with fail
                  refine HSM.out.mono ?_
                  rintro _ wA ⟨rfl, bA⟩
                  have HBF : Hid (Below W.heap.size W wA) := hide (HBV.out.trans ((HB9.out.trans (bA.mono HB9.out.size)).mono HBV.out.size))
                  clear bA t0 t1
                  go_wp2
                  go_ret
                  exact ⟨rfl, HBF.out⟩
    · have e5 : (kd != 5) = true := by simpa using h5
      have e6 : (kd != 6) = true := by simpa using h6
      clear h5 h6
      go_wp2
      go_ret
      exact ⟨rfl, HBV.out.trans (HB1.out.mono HBV.out.size)⟩
end Go.Proofs.Ytkibiappjegogaa
