/-
  SinkNone walked. The conditions: that the operation's lists lie there.
-/
import Derived.Test.YtboofnkajjnmeaaSqi
import Derived.Test.YtboofnkajjnmeaaSqj
import Derived.Test.YtboofnkajjnmeaaSoa
namespace Go.Proofs.Ytboofnkajjnmeaa
open Go.RowKit Go.Maps Go.Shelf

theorem take1 {xs : List TP} {t : TX} (h : xs.map TP.t = [t]) : ∃ x, xs = [x] ∧ x.t = t := by
  match xs, h with
  | [x], h => exact ⟨x, rfl, by simpa using h⟩
set_option maxRecDepth 100000 in
set_option maxHeartbeats 16000000 in
theorem none_walk {W : World} {d ep id bg : Int} {rp vp : Option Addr} {rn rc vn vc : Nat} :
    Calls Try.prog 7 #[.agg #[.int .i64 d, .int .i64 ep, .int .i64 id, .int .i64 bg, .slice rp rn rc, .slice vp vn vc]] W fun e w' => e = .returned (.bool true) ∧ Below W.heap.size W w' := by
  obtain ⟨V0, hV0⟩ : ∃ V0, V0 = W.alloc (.cells #[.int .i64 d, .int .i64 ep, .int .i64 id, .int .i64 bg, .slice rp rn rc, .slice vp vn vc] 36 (0, 0)) := ⟨_, rfl⟩
  have HO : Hid (V0.heap[W.heap.size]? = some (.cells #[.int .i64 d, .int .i64 ep, .int .i64 id, .int .i64 bg, .slice rp rn rc, .slice vp vn vc] 36 (0, 0))) := hide (by rw [hV0]; exact heap_alloc_new W _)
  have HBO : Hid (Below W.heap.size W V0) := hide (by rw [hV0]; exact alloc_below _ _)
  obtain ⟨oB, hoB⟩ : ∃ oB, W.heap.size = oB := ⟨_, rfl⟩
  rw [hoB] at HO HBO
  have HZoB := hide hoB
  go_enter Try.func7, Try.ntmps7
  go_upto_region 1 with fail
  rw [← hV0]
  try rw [hoB]
  clear hV0 hoB
  have HBW0 : Hid (Below W.heap.size W V0) := hide (by rw [HZoB.out]; exact HBO.out)
  go_wp2_with fail
  refine live_any.mono ?_
  rintro _ w0 ⟨rfl, b0⟩
  have HB0 : Hid (Below W.heap.size W w0) := hide (HBW0.out.trans (b0.mono HBW0.out.size))
  have HO0 := hide (below_box b0 HO.out)
  clear b0
  go_upto_region 4 with fail
  obtain ⟨Z1, hZ1⟩ : ∃ Z1, Z1 = w0.alloc (.cells #[.int .i64 0, .slice none 0 0, .slice none 0 0, .slice none 0 0, .map none] 63 (0, 0)) := ⟨_, rfl⟩
  rw [← hZ1]
  have bz1 : Below w0.heap.size w0 Z1 := by rw [hZ1]; exact alloc_below _ _
  obtain ⟨zB, hzB⟩ : ∃ zB, w0.heap.size = zB := ⟨_, rfl⟩
  have hz1 : Z1.heap[zB]? = some (.cells #[.int .i64 0, .slice none 0 0, .slice none 0 0, .slice none 0 0, .map none] 63 (0, 0)) := by rw [hZ1, ← hzB]; exact heap_alloc_new w0 _
  have hs1 : Z1.heap.size = zB + 1 := by rw [hZ1, ← hzB]; simp
  try rw [hzB]
  obtain ⟨Z2, hZ2⟩ : ∃ Z2, Z2 = Z1.alloc (.cells #[.pointer none, .pointer (some ⟨zB, 0, none⟩)] 24 (0, 0)) := ⟨_, rfl⟩
  rw [← hZ2]
  have bz2 : Below Z1.heap.size Z1 Z2 := by rw [hZ2]; exact alloc_below _ _
  have hz2 : Z2.heap[zB + 1]? = some (.cells #[.pointer none, .pointer (some ⟨zB, 0, none⟩)] 24 (0, 0)) := by rw [hZ2, ← hs1]; exact heap_alloc_new Z1 _
  try rw [hs1]
  obtain ⟨sB, hsB⟩ : ∃ sB, zB + 1 = sB := ⟨_, rfl⟩
  rw [hsB] at hz2 ⊢
  have HZS : Hid (Z2.heap[zB]? = some (.cells #[.int .i64 0, .slice none 0 0, .slice none 0 0, .slice none 0 0, .map none] 63 (0, 0))) := hide (below_box bz2 hz1)
  have HSL := hide hz2
  have HO2 := hide (below_box bz2 (below_box bz1 HO0.out))
  have HB2 : Hid (Below W.heap.size W Z2) := hide (HB0.out.trans ((bz1.trans (bz2.mono bz1.size)).mono HB0.out.size))
  clear hZ1 hZ2 bz1 bz2 hz1 hz2 hs1 hzB hsB
  go_wp2_with fail
  go_loopw [23] (fun i wr => ∃ j : Nat, j ≤ 2 ∧ i = .int .i64 (j : Int) ∧ Hid (Below Z2.heap.size Z2 wr)) (fun i _ => 2 - (intOf i).toNat)
  case atStart => exact ⟨0, Nat.zero_le _, rfl, hide (Below.refl _ _)⟩
  case round =>
    obtain ⟨j, hj, rfl, HB⟩ := hrel
    rename World => wr
    by_cases hlt : j < 2
    · obtain ⟨p, a0, hbad⟩ : ∃ p, wr.cell? ⟨sB, j, none⟩ = some (.pointer p) ∧ Bad wr (.pointer p) := by
        have h9 := below_box HB.out HSL.out
        rcases (show j = 0 ∨ j = 1 by omega) with rfl | rfl
        · exact ⟨none, cellB h9 rfl, .inl rfl⟩
        · exact ⟨some ⟨zB, 0, none⟩, cellB h9 rfl, .inr ⟨zB, rfl, below_box HB.out HZS.out⟩⟩
      have HA0 := hide hbad
      have HOW0 := hide (below_box HB.out HO2.out)
      have HY0 : Hid (Below Z2.heap.size Z2 wr) := HB
      clear hbad
      have hlt9 := hlt
      go_wp2_with fail
      refine (alls_bad HA0.out).mono ?_
      rintro _ y1 ⟨lq, lc, rfl, b9⟩
      have HA1 := hide (HA0.out.later b9)
      have HOW1 := hide (below_box b9 HOW0.out)
      have HY1 : Hid (Below Z2.heap.size Z2 y1) := hide (HY0.out.trans (b9.mono HY0.out.size))
      clear b9
      clear a0
      go_wp2_with fail
      refine (read_bad HA1.out).mono ?_
      rintro _ y2 ⟨rfl, b9⟩
      have HA2 := hide (HA1.out.later b9)
      have HOW2 := hide (below_box b9 HOW1.out)
      have HY2 : Hid (Below Z2.heap.size Z2 y2) := hide (HY1.out.trans (b9.mono HY1.out.size))
      clear b9
      go_wp2_with fail
      refine (fence_bad HA2.out).mono ?_
      rintro _ y3 ⟨rfl, b9⟩
      have HA3 := hide (HA2.out.later b9)
      have HOW3 := hide (below_box b9 HOW2.out)
      have HY3 : Hid (Below Z2.heap.size Z2 y3) := hide (HY2.out.trans (b9.mono HY2.out.size))
      clear b9
      have u0 := cellB HOW3.out (i := 0) rfl
      have u1 := cellB HOW3.out (i := 1) rfl
      have u2 := cellB HOW3.out (i := 2) rfl
      have u3 := cellB HOW3.out (i := 3) rfl
      have u4 := cellB HOW3.out (i := 4) rfl
      have u5 := cellB HOW3.out (i := 5) rfl
      go_wp2_with fail
      refine (pre_zero HA3.out).mono ?_
      rintro _ y4 ⟨rfl, b9⟩
      have HA4 := hide (HA3.out.later b9)
      have HOW4 := hide (below_box b9 HOW3.out)
      have HY4 : Hid (Below Z2.heap.size Z2 y4) := hide (HY3.out.trans (b9.mono HY3.out.size))
      clear b9
      clear u0 u1 u2 u3 u4 u5
      have u0 := cellB HOW4.out (i := 0) rfl
      have u1 := cellB HOW4.out (i := 1) rfl
      have u2 := cellB HOW4.out (i := 2) rfl
      have u3 := cellB HOW4.out (i := 3) rfl
      have u4 := cellB HOW4.out (i := 4) rfl
      have u5 := cellB HOW4.out (i := 5) rfl
      go_wp2_with fail
      refine (key_any).mono ?_
      rintro _ y5 ⟨rfl, b9⟩
      have HA5 := hide (HA4.out.later b9)
      have HOW5 := hide (below_box b9 HOW4.out)
      have HY5 : Hid (Below Z2.heap.size Z2 y5) := hide (HY4.out.trans (b9.mono HY4.out.size))
      clear b9
      clear u0 u1 u2 u3 u4 u5
      go_wp2_with fail
      refine (com_zero HA5.out).mono ?_
      rintro _ y6 ⟨rfl, b9⟩
      have HA6 := hide (HA5.out.later b9)
      have HOW6 := hide (below_box b9 HOW5.out)
      have HY6 : Hid (Below Z2.heap.size Z2 y6) := hide (HY5.out.trans (b9.mono HY5.out.size))
      clear b9
      have u0 := cellB HOW6.out (i := 0) rfl
      have u1 := cellB HOW6.out (i := 1) rfl
      have u2 := cellB HOW6.out (i := 2) rfl
      have u3 := cellB HOW6.out (i := 3) rfl
      have u4 := cellB HOW6.out (i := 4) rfl
      have u5 := cellB HOW6.out (i := 5) rfl
      go_wp2_with fail
      refine (key_any).mono ?_
      rintro _ y7 ⟨rfl, b9⟩
      have HA7 := hide (HA6.out.later b9)
      have HOW7 := hide (below_box b9 HOW6.out)
      have HY7 : Hid (Below Z2.heap.size Z2 y7) := hide (HY6.out.trans (b9.mono HY6.out.size))
      clear b9
      clear u0 u1 u2 u3 u4 u5
      go_wp2_with fail
      refine (abo_zero HA7.out).mono ?_
      rintro _ y8 ⟨rfl, b9⟩
      have HA8 := hide (HA7.out.later b9)
      have HOW8 := hide (below_box b9 HOW7.out)
      have HY8 : Hid (Below Z2.heap.size Z2 y8) := hide (HY7.out.trans (b9.mono HY7.out.size))
      clear b9
      go_wp2_with fail
      refine (register_bad HA8.out).mono ?_
      rintro _ y9 ⟨rfl, b9⟩
      have HA9 := hide (HA8.out.later b9)
      have HOW9 := hide (below_box b9 HOW8.out)
      have HY9 : Hid (Below Z2.heap.size Z2 y9) := hide (HY8.out.trans (b9.mono HY8.out.size))
      clear b9
      go_wp2_with fail
      refine (len_bad HA9.out).mono ?_
      rintro _ y10 ⟨rfl, b9⟩
      have HA10 := hide (HA9.out.later b9)
      have HOW10 := hide (below_box b9 HOW9.out)
      have HY10 : Hid (Below Z2.heap.size Z2 y10) := hide (HY9.out.trans (b9.mono HY9.out.size))
      clear b9
      go_wp2_with fail
      refine (vector_bad HA10.out).mono ?_
      rintro _ y11 ⟨rfl, b9⟩
      have HA11 := hide (HA10.out.later b9)
      have HOW11 := hide (below_box b9 HOW10.out)
      have HY11 : Hid (Below Z2.heap.size Z2 y11) := hide (HY10.out.trans (b9.mono HY10.out.size))
      clear b9
      go_wp2_with fail
      refine (open_bad HA11.out).mono ?_
      rintro _ y12 ⟨rfl, b9⟩
      have HA12 := hide (HA11.out.later b9)
      have HOW12 := hide (below_box b9 HOW11.out)
      have HY12 : Hid (Below Z2.heap.size Z2 y12) := hide (HY11.out.trans (b9.mono HY11.out.size))
      clear b9
      have u0 := cellB HOW12.out (i := 0) rfl
      have u1 := cellB HOW12.out (i := 1) rfl
      have u2 := cellB HOW12.out (i := 2) rfl
      have u3 := cellB HOW12.out (i := 3) rfl
      have u4 := cellB HOW12.out (i := 4) rfl
      have u5 := cellB HOW12.out (i := 5) rfl
      go_wp2_with fail
      refine (key_any).mono ?_
      rintro _ y13 ⟨rfl, b9⟩
      have HA13 := hide (HA12.out.later b9)
      have HOW13 := hide (below_box b9 HOW12.out)
      have HY13 : Hid (Below Z2.heap.size Z2 y13) := hide (HY12.out.trans (b9.mono HY12.out.size))
      clear b9
      clear u0 u1 u2 u3 u4 u5
      go_wp2_with fail
      refine (done_bad HA13.out).mono ?_
      rintro _ y14 ⟨rfl, b9⟩
      have HA14 := hide (HA13.out.later b9)
      have HOW14 := hide (below_box b9 HOW13.out)
      have HY14 : Hid (Below Z2.heap.size Z2 y14) := hide (HY13.out.trans (b9.mono HY13.out.size))
      clear b9
      go_wp2_with fail
      refine (plain_bad HA14.out).mono ?_
      rintro _ y15 ⟨rfl, b9⟩
      have HA15 := hide (HA14.out.later b9)
      have HOW15 := hide (below_box b9 HOW14.out)
      have HY15 : Hid (Below Z2.heap.size Z2 y15) := hide (HY14.out.trans (b9.mono HY14.out.size))
      clear b9
      go_wp2_with fail
      refine (rsame_yes (q1 := q0) (q2 := q0) (q0_vis _) (q0_vis _) rfl).mono ?_
      rintro _ y16 ⟨rfl, b9⟩
      have HA16 := hide (HA15.out.later b9)
      have HOW16 := hide (below_box b9 HOW15.out)
      have HY16 : Hid (Below Z2.heap.size Z2 y16) := hide (HY15.out.trans (b9.mono HY15.out.size))
      clear b9
      go_wp2_with fail
      refine (clone_bad HA16.out).mono ?_
      rintro _ _ ⟨rfl, rfl⟩
      go_wp2
      exact ⟨⟨j + 1, hlt9, by first | rfl | go_num, HY16⟩, by simp [intOf]; omega⟩
    · obtain rfl : j = 2 := by omega
      have HBX : Hid (Below W.heap.size W wr) := hide (HB2.out.trans (HB.out.mono HB2.out.size))
      clear HB HB2
      go_wp2_with fail
      refine (new_ok (W := wr) (n := 1) (by omega) (by omega)).mono ?_
      rintro _ w1 ⟨k0, rfl, hp, hs, hb1⟩
      have HP1 : Hid (PS wr.heap.size w1 k0) := hide hp
      have HS1 : Hid (k0.sk = newS 1) := hide hs
      have HB1 : Hid (Below W.heap.size W w1) := hide (HBX.out.trans (hb1.mono HBX.out.size))
      clear hp hs hb1
      go_wp2_with fail
      have hnr : NRow (w1.alloc (.cells #[.int .i64 7, .int .i64 8] 2 (0, 0))) (some ⟨w1.heap.size, 0, none⟩) 2 [7, 8] := nums_new w1 [7, 8] (by decide)
      have ba := alloc_below w1 (.cells #[.int .i64 7, .int .i64 8] 2 (0, 0))
      refine (txn_any hnr rfl (by decide)).mono ?_
      rintro _ w2 ⟨p1, c1, q1, d1, rfl, o1, o2, b2⟩
      have HP2 := hide ((HP1.out.later ba).later b2)
      have HX2 := hide (clo_ok (ep := 1) (id := 1) (bg := 0) (HP1.out.later ba) o1 o2 rfl rfl)
      have HO1 := hide o1
      have HO2' := hide o2
      have HB3 : Hid (Below W.heap.size W w2) := hide (HB1.out.trans ((ba.trans (b2.mono ba.size)).mono HB1.out.size))
      clear hnr ba o1 o2 b2
      go_upto_region 13 with fail
      obtain ⟨Y, hY⟩ : ∃ Y, Y = w2.alloc (.cells #[.int .i64 1, .int .i64 1, .int .i64 0, .slice p1 2 c1, .slice q1 1 d1] 34 (0, 0)) := ⟨_, rfl⟩
      rw [← hY]
      have bY : Below w2.heap.size w2 Y := by rw [hY]; exact alloc_below _ _
      obtain ⟨mB, hmB⟩ : ∃ mB, w2.heap.size = mB := ⟨_, rfl⟩
      have HM : Hid (Y.heap[mB]? = some (.cells #[.int .i64 1, .int .i64 1, .int .i64 0, .slice p1 2 c1, .slice q1 1 d1] 34 (0, 0))) := hide (by rw [hY, ← hmB]; exact heap_alloc_new w2 _)
      have HPY := hide (HP2.out.later bY)
      have HXY : Hid ((⟨lt1, p1, c1, q1, d1⟩ : TP).ok Y ∧ ∀ i, (⟨lt1, p1, c1, q1, d1⟩ : TP).blk i → ¬ k0.blk i) := hide ⟨HX2.out.1.later bY, HX2.out.2⟩
      have HOY1 := hide (ownsRow_later HO1.out bY)
      have HOY2 := hide (ownsRow_later HO2'.out bY)
      have HBY : Hid (Below W.heap.size W Y) := hide (HB3.out.trans (bY.mono HB3.out.size))
      have HNM : Hid (¬ k0.blk mB) := hide (fun hi => by have := (HP2.out.lt hi).2; omega)
      have HMS : Hid (mB < Y.heap.size) := hide (box_lt HM.out)
      try rw [hmB]
      clear hY hmB bY HO1 HO2' HX2
      have u0 := cellB HM.out (i := 0) rfl
      have u1 := cellB HM.out (i := 1) rfl
      have u2 := cellB HM.out (i := 2) rfl
      have u3 := cellB HM.out (i := 3) rfl
      have u4 := cellB HM.out (i := 4) rfl
      go_wp2_with fail
      refine (pre_any (x := ⟨lt1, p1, c1, q1, d1⟩) HPY.out HXY.out.1 HXY.out.2 (by have h9 : k0.done = _ := congrArg SK.done HS1.out; rw [h9]; decide)).mono ?_
      rintro _ w3 ⟨rfl, hput⟩
      obtain ⟨k1, r1, r2, r3, r4, r5⟩ := hput
      have HE := (show preE k0.vec.length k0.sk lt1 = _ ∧ preS k0.vec.length k0.sk lt1 = _ by have h9 : k0.vec = _ := congrArg SK.vec HS1.out; rw [h9, HS1.out]; exact lv1)
      rw [HE.1]
      rw [HE.2] at r2
      have HP3 := hide r1
      have HS3 : Hid (k1.sk = ls1) := hide r2
      have HB4 : Hid (Below W.heap.size W w3) := hide (HBY.out.trans (r4.below HBY.out.size (fun i hi => Nat.le_trans HBX.out.size (HPY.out.lt hi).1)))
      have HM3 := hide (r4.obj HM.out (fun hi => HNM.out hi))
      obtain ⟨g1, cs1, hp1, hg1, hh1, hc1⟩ := own_at HOY1.out (by decide)
      obtain ⟨g2, cs2, hp2, hg2, hh2, hc2⟩ := own_at HOY2.out (by decide)
      have hn1 : ¬ k0.blk g1 := fun hi => by
        have h9 := own_block_base HOY1.out (b := g1) (by rw [hp1]; rfl)
        have := (HP1.out.lt hi).2
        simp at h9
        omega
      have hn2 : ¬ k0.blk g2 := fun hi => by
        have h9 := own_block_base HOY2.out (b := g2) (by rw [hp2]; rfl)
        have := (HP1.out.lt hi).2
        simp at h9
        omega
      have hY1 : g1 < Y.heap.size := box_lt hh1
      have hY2 : g2 < Y.heap.size := box_lt hh2
      have HN1 : Hid (¬ k1.blk g1 ∧ ¬ k1.blk g2) := hide ⟨fun hi => by rcases r5 g1 hi with h9 | h9; exact hn1 h9; omega, fun hi => by rcases r5 g2 hi with h9 | h9; exact hn2 h9; omega⟩
      have HG1 : Hid (w3.heap[g1]? = some (.cells cs1 49 (0, 0))) := hide (r4.obj hh1 hn1)
      have HG2 : Hid (w3.heap[g2]? = some (.cells cs2 2 (0, 0))) := hide (r4.obj hh2 hn2)
      have HGN : Hid (mB ≠ g1 ∧ mB ≠ g2 ∧ g1 ≠ g2) := hide ⟨fun e9 => by rw [← e9, HM.out] at hh1; simp at hh1, fun e9 => by rw [← e9, HM.out] at hh2; simp at hh2, fun e9 => by rw [e9, hh2] at hh1; simp at hh1⟩
      have HGW : Hid (W.heap.size ≤ g1 ∧ W.heap.size ≤ g2) := hide ⟨by have := HB1.out.size; simp at hg1; omega, by have := HB1.out.size; simp at hg2; omega⟩
      have HC1 : Hid (cs1[1]? = some (.int .i64 7)) := hide (hc1 1 (by decide))
      have HC2 : Hid (cs2[0]? = some (.int .i64 2)) := hide (hc2 0 (by decide))
      subst hp1 hp2
      rw [← r3]
      clear r1 r2 r3 r4 r5 HE hg1 hg2 hh1 hh2 hc1 hc2 hn1 hn2 hY1 hY2 u0 u1 u2 u3 u4
      have u3 := cellB HM3.out (i := 3) rfl
      have u4 := cellB HM3.out (i := 4) rfl
      go_upto_region 15 with fail
      have HX0 : Hid (Only (fun i => i = g1 ∨ i = g2) w3 w3.drew) := hide ((Only.refl _ w3).drew)
      refine wp_region_held_drew (S := fun w9 => Only (fun i => i = g1 ∨ i = g2) w3 w9) (by kernel_rfl) HX0.out (fun hHeld => ?_)
      refine wpAnyH_take (i := 0) (oi := _) (v := ?_) rfl (by kernel_rfl) (by kernel_rfl) (by kernel_rfl) (fun _ _ _ h => h) (Or.inl ⟨by kernel_rfl, ?_⟩) (by assumption) ?_
      rotate_left
      · intro w hSw
        have m3 := hSw.cell u3 (by have := HGN.out; rintro (e9 | e9); exact this.1 e9; exact this.2.1 e9)
        have m4 := hSw.cell u4 (by have := HGN.out; rintro (e9 | e9); exact this.1 e9; exact this.2.1 e9)
        go_simp
        all_goals with_reducible rfl
      simp only [Act.put]
      refine wpAnyH_take (i := 1) (oi := _) (v := ?_) rfl (by kernel_rfl) (by kernel_rfl) (by kernel_rfl) (fun _ _ _ h => h) (Or.inl ⟨by kernel_rfl, ?_⟩) (by assumption) ?_
      rotate_left
      · intro w hSw
        have m3 := hSw.cell u3 (by have := HGN.out; rintro (e9 | e9); exact this.1 e9; exact this.2.1 e9)
        have m4 := hSw.cell u4 (by have := HGN.out; rintro (e9 | e9); exact this.1 e9; exact this.2.1 e9)
        go_simp
        all_goals with_reducible rfl
      simp only [Act.put]
      refine wpAnyH_take (i := 2) (oi := _) (v := ?_) rfl (by kernel_rfl) (by kernel_rfl) (by kernel_rfl) (fun _ _ _ h => h) (Or.inl ⟨by kernel_rfl, ?_⟩) (by assumption) ?_
      rotate_left
      · intro w hSw
        have m3 := hSw.cell u3 (by have := HGN.out; rintro (e9 | e9); exact this.1 e9; exact this.2.1 e9)
        have m4 := hSw.cell u4 (by have := HGN.out; rintro (e9 | e9); exact this.1 e9; exact this.2.1 e9)
        go_simp
        all_goals with_reducible rfl
      simp only [Act.put]
      refine wpAnyH_take (i := 3) (oi := _) (v := ?_) rfl (by kernel_rfl) (by kernel_rfl) (by kernel_rfl) (fun _ _ _ h => h) (Or.inl ⟨by kernel_rfl, ?_⟩) (by assumption) ?_
      rotate_left
      · intro w hSw
        have m3 := hSw.cell u3 (by have := HGN.out; rintro (e9 | e9); exact this.1 e9; exact this.2.1 e9)
        have m4 := hSw.cell u4 (by have := HGN.out; rintro (e9 | e9); exact this.1 e9; exact this.2.1 e9)
        go_simp
        all_goals with_reducible rfl
      simp only [Act.put]
      refine wpAnyH_take (i := 4) (oi := _) (v := ?_) rfl (by kernel_rfl) (by kernel_rfl) (by kernel_rfl) (fun _ _ _ h => h) (Or.inl ⟨by kernel_rfl, ?_⟩) (by assumption) ?_
      rotate_left
      · intro w hSw
        have m3 := hSw.cell u3 (by have := HGN.out; rintro (e9 | e9); exact this.1 e9; exact this.2.1 e9)
        have m4 := hSw.cell u4 (by have := HGN.out; rintro (e9 | e9); exact this.1 e9; exact this.2.1 e9)
        go_simp
        all_goals with_reducible rfl
      simp only [Act.put]
      refine wpAnyH_take (i := 5) (oi := _) (v := ?_) rfl (by kernel_rfl) (by kernel_rfl) (by kernel_rfl) (fun _ _ _ h => h) (Or.inl ⟨by kernel_rfl, ?_⟩) (by assumption) ?_
      rotate_left
      · intro w hSw
        have m3 := hSw.cell u3 (by have := HGN.out; rintro (e9 | e9); exact this.1 e9; exact this.2.1 e9)
        have m4 := hSw.cell u4 (by have := HGN.out; rintro (e9 | e9); exact this.1 e9; exact this.2.1 e9)
        go_simp
        all_goals with_reducible rfl
      simp only [Act.put]
      refine wpAnyH_ready (rs := [6]) (by kernel_rfl) (by simp) ?_
      refine AllReadyH.cons (o := _) rfl (fun K hK => ?_) AllReadyH.nil
      have y1 : w3.drew.cell? ⟨g1, 1, none⟩ = some (.int .i64 7) := cellB (W := w3.drew) HG1.out HC1.out
      have z1 : w3.drew.frozen? ⟨g1, 1, none⟩ = false := frB (W := w3.drew) (i := 1) HG1.out
      go_simp
      obtain ⟨v1, hv1⟩ : ∃ v1, v1 = (w3.setCell ⟨g1, 1, none⟩ (.int .i64 99)).drew := ⟨_, rfl⟩
      have HX1 : Hid (Only (fun i => i = g1 ∨ i = g2) w3 v1) := hide (by rw [hv1]; exact (Only.set (F := fun i => i = g1 ∨ i = g2) w3 g1 1 _ (.inl rfl)).drew)
      have HV1 : Hid (v1.heap[g2]? = some (.cells cs2 2 (0, 0))) := hide (by rw [hv1]; exact (Only.set (F := (· = g1)) w3 g1 1 _ rfl).drew.obj HG2.out (fun e9 => HGN.out.2.2 e9.symm))
      rw [← hv1]
      clear y1 z1 hv1
      refine hK.out _ _ HX1.out (fun hHeld => ?_)
      clear hK
      refine wpAnyH_take (i := 7) (oi := _) (v := ?_) rfl (by kernel_rfl) (by kernel_rfl) (by kernel_rfl) (fun _ _ _ h => h) (Or.inl ⟨by kernel_rfl, ?_⟩) (by assumption) ?_
      rotate_left
      · intro w hSw
        have m3 := hSw.cell u3 (by have := HGN.out; rintro (e9 | e9); exact this.1 e9; exact this.2.1 e9)
        have m4 := hSw.cell u4 (by have := HGN.out; rintro (e9 | e9); exact this.1 e9; exact this.2.1 e9)
        go_simp
        all_goals with_reducible rfl
      simp only [Act.put]
      refine wpAnyH_ready (rs := [8]) (by kernel_rfl) (by simp) ?_
      refine AllReadyH.cons (o := _) rfl (fun K hK => ?_) AllReadyH.nil
      have y1 : v1.cell? ⟨g2, 0, none⟩ = some (.int .i64 2) := cellB HV1.out HC2.out
      have z1 : v1.frozen? ⟨g2, 0, none⟩ = false := frB (i := 0) HV1.out
      go_simp
      obtain ⟨w4, hw4⟩ : ∃ w4, w4 = v1.setCell ⟨g2, 0, none⟩ (.int .i64 99) := ⟨_, rfl⟩
      have HX2 : Hid (Only (fun i => i = g1 ∨ i = g2) w3 w4) := hide (by rw [hw4]; exact HX1.out.trans (Only.set (F := fun i => i = g1 ∨ i = g2) v1 g2 0 _ (.inr rfl)))
      rw [← hw4]
      clear y1 z1 hw4
      refine hK.out _ _ HX2.out (fun hHeld => ?_)
      clear hK
      refine wpAnyH_done (by kernel_rfl) ?_ _
      have hO4 := HX2.out
      have HP4 := hide (HP3.out.only hO4 (fun i hi e9 => by rcases e9 with rfl | rfl; exact HN1.out.1 hi; exact HN1.out.2 hi))
      have HB5 : Hid (Below W.heap.size W w4) := hide (HB4.out.trans (hO4.below HB4.out.size (fun i e9 => by have := HGW.out; rcases e9 with rfl | rfl; exact this.1; exact this.2)))
      clear hO4 u3 u4
      go_wp2_with fail
      refine (plain_any HP4.out (by have h9 : k1.done = _ := congrArg SK.done HS3.out; rw [h9]; decide)).mono ?_
      rintro _ w5 ⟨q, rfl, hq, hqs, b5⟩
      obtain ⟨qop, qoc, qvp, qvc, qdp, qdc, qpp, qpc, qreg, qout, qvec, qdone, qts⟩ := q
      have hqs2 := hqs.trans HS3.out
      simp only [QK.sk, ls1, SK.mk.injEq] at hqs2
      obtain ⟨rfl, rfl, rfl, rfl, hqts⟩ := hqs2
      obtain ⟨x, rfl, hxt⟩ := take1 hqts
      obtain ⟨xt, xrp, xrc, xvp, xvc⟩ := x
      simp only at hxt
      subst hxt
      have HP5 := hide (HP4.out.later b5)
      have HQ := hide hq
      have HB6 : Hid (Below W.heap.size W w5) := hide (HB5.out.trans (b5.mono HB5.out.size))
      clear hq hqs hqts b5
      rw [show QK.row ⟨qop, qoc, qvp, qvc, qdp, qdc, qpp, qpc, 1, [], [0], [], [⟨lt1, xrp, xrc, xvp, xvc⟩]⟩ = #[.int .i64 1, .slice qop 0 qoc, .slice qvp 1 qvc, .slice qdp 0 qdc, .slice qpp 1 qpc] from rfl]
      go_upto_region 17 with fail
      obtain ⟨Q, hQ⟩ : ∃ Q, Q = w5.alloc (.cells #[.int .i64 1, .slice qop 0 qoc, .slice qvp 1 qvc, .slice qdp 0 qdc, .slice qpp 1 qpc] 43 (0, 0)) := ⟨_, rfl⟩
      rw [← hQ]
      have bQ : Below w5.heap.size w5 Q := by rw [hQ]; exact alloc_below _ _
      obtain ⟨pB, hpB⟩ : ∃ pB, w5.heap.size = pB := ⟨_, rfl⟩
      have HQB : Hid (Q.heap[pB]? = some (.cells #[.int .i64 1, .slice qop 0 qoc, .slice qvp 1 qvc, .slice qdp 0 qdc, .slice qpp 1 qpc] 43 (0, 0))) := hide (by rw [hQ, ← hpB]; exact heap_alloc_new w5 _)
      have HPQ := hide (HP5.out.later bQ)
      have HQQ := hide (HQ.out.later bQ)
      have HBQ : Hid (Below W.heap.size W Q) := hide (HB6.out.trans (bQ.mono HB6.out.size))
      try rw [hpB]
      clear hQ hpB bQ HQ HP5
      obtain ⟨gp, csp, hpp, hgp, hhp, hcp⟩ := own_at HQQ.out.pre (show 0 < 5 by decide)
      have hxm : (⟨lt1, xrp, xrc, xvp, xvc⟩ : TP) ∈ [(⟨lt1, xrp, xrc, xvp, xvc⟩ : TP)] := List.mem_singleton.2 rfl
      have hxr := HQQ.out.ts _ hxm
      obtain ⟨g3, cs3, h3p, hg3, hh3, hc3⟩ := own_at hxr.r (show 0 < 4 by decide)
      obtain ⟨g4, cs4, h4p, hg4, hh4, hc4⟩ := own_at hxr.v (show 0 < 1 by decide)
      obtain ⟨g5, cs5, h5p, hg5, hh5, hc5⟩ := own_at HQQ.out.vec (show 0 < 1 by decide)
      simp only at hpp h3p h4p h5p
      subst hpp h3p h4p h5p
      have HXV : Hid ((⟨lt1, some ⟨g3, 0, none⟩, xrc, some ⟨g4, 0, none⟩, xvc⟩ : TP).ok Q) := hide hxr.ok
      have hc30 : csp[0]? = some (.int .i64 1) := hcp 0 (show 0 < 5 by decide)
      have hc31 : csp[1]? = some (.int .i64 1) := hcp 1 (show 1 < 5 by decide)
      have hc32 : csp[2]? = some (.int .i64 0) := hcp 2 (show 2 < 5 by decide)
      have hc33 : csp[3]? = some (.slice (some ⟨g3, 0, none⟩) 2 xrc) := hcp 3 (show 3 < 5 by decide)
      have hc34 : csp[4]? = some (.slice (some ⟨g4, 0, none⟩) 1 xvc) := hcp 4 (show 4 < 5 by decide)
      have q2 : Q.cell? ⟨pB, 2, none⟩ = some (.slice (some ⟨g5, 0, none⟩) 1 qvc) := cellB HQB.out rfl
      have q4 : Q.cell? ⟨pB, 4, none⟩ = some (.slice (some ⟨gp, 0, none⟩) 1 qpc) := cellB HQB.out rfl
      have t0 := cellB hhp hc30
      have t1 := cellB hhp hc31
      have t2 := cellB hhp hc32
      have t3 := cellB hhp hc33
      have t4 := cellB hhp hc34
      have HT := hide (show Q.cell? ⟨gp, 3, none⟩ = _ from t3)
      have HQ2 := hide q2
      have HQ4 := hide q4
      have HG3 := hide hh3
      have HG5 := hide hh5
      have HC3 : Hid (cs3[3]? = some (.int .i64 8)) := hide (hc3 3 (show 3 < 4 by decide))
      have HC5 : Hid (cs5[0]? = some (.int .i64 0)) := hide (hc5 0 (show 0 < 1 by decide))
      have HGG : Hid (pB ≠ g3 ∧ pB ≠ g5 ∧ gp ≠ g3 ∧ gp ≠ g5 ∧ g3 ≠ g5) := hide ⟨fun e9 => by rw [← e9, HQB.out] at hh3; simp at hh3, fun e9 => by rw [← e9, HQB.out] at hh5; simp at hh5, fun e9 => by rw [← e9, hhp] at hh3; simp at hh3, fun e9 => by rw [← e9, hhp] at hh5; simp at hh5, fun e9 => by rw [e9, hh5] at hh3; simp at hh3⟩
      have HGB : Hid (w4.heap.size ≤ g3 ∧ w4.heap.size ≤ g5) := hide ⟨hg3, hg5⟩
      clear hxm hxr hgp hhp hcp hg3 hh3 hc3 hg4 hh4 hc4 hg5 hh5 hc5 hc30 hc31 hc32 hc33 hc34
      have HX0 : Hid (Below Q.heap.size Q Q.drew) := hide (Below.refl _ Q).drew
      refine wp_region_held_drew (S := fun w9 => Below Q.heap.size Q w9) (by kernel_rfl) HX0.out (fun hHeld => ?_)
      refine wpAnyH_take (i := 0) (oi := _) (v := ?_) rfl (by kernel_rfl) (by kernel_rfl) (by kernel_rfl) (fun _ _ _ h => h) (Or.inl ⟨by kernel_rfl, ?_⟩) (by assumption) ?_
      rotate_left
      · intro w hSw
        have l0 := cell_later hSw t0
        have l1 := cell_later hSw t1
        have l2 := cell_later hSw t2
        have l3 := cell_later hSw t3
        have l4 := cell_later hSw t4
        have lq := cell_later hSw q4
        go_simp
        all_goals with_reducible rfl
      simp only [Act.put]
      refine wpAnyH_take (i := 1) (oi := _) (v := ?_) rfl (by kernel_rfl) (by kernel_rfl) (by kernel_rfl) (fun _ _ _ h => h) (Or.inl ⟨by kernel_rfl, ?_⟩) (by assumption) ?_
      rotate_left
      · intro w hSw
        have l0 := cell_later hSw t0
        have l1 := cell_later hSw t1
        have l2 := cell_later hSw t2
        have l3 := cell_later hSw t3
        have l4 := cell_later hSw t4
        have lq := cell_later hSw q4
        go_simp
        all_goals with_reducible rfl
      simp only [Act.put]
      refine wpAnyH_take (i := 2) (oi := _) (v := ?_) rfl (by kernel_rfl) (by kernel_rfl) (by kernel_rfl) (fun _ _ _ h => h) (Or.inl ⟨by kernel_rfl, ?_⟩) (by assumption) ?_
      rotate_left
      · intro w hSw
        have l0 := cell_later hSw t0
        have l1 := cell_later hSw t1
        have l2 := cell_later hSw t2
        have l3 := cell_later hSw t3
        have l4 := cell_later hSw t4
        have lq := cell_later hSw q4
        go_simp
        all_goals with_reducible rfl
      simp only [Act.put]
      refine wpAnyH_take (i := 3) (oi := _) (v := ?_) rfl (by kernel_rfl) (by kernel_rfl) (by kernel_rfl) (fun _ _ _ h => h) (Or.inl ⟨by kernel_rfl, ?_⟩) (by assumption) ?_
      rotate_left
      · intro w hSw
        have l0 := cell_later hSw t0
        have l1 := cell_later hSw t1
        have l2 := cell_later hSw t2
        have l3 := cell_later hSw t3
        have l4 := cell_later hSw t4
        have lq := cell_later hSw q4
        go_simp
        all_goals with_reducible rfl
      simp only [Act.put]
      refine wpAnyH_take (i := 4) (oi := _) (v := ?_) rfl (by kernel_rfl) (by kernel_rfl) (by kernel_rfl) (fun _ _ _ h => h) (Or.inl ⟨by kernel_rfl, ?_⟩) (by assumption) ?_
      rotate_left
      · intro w hSw
        have l0 := cell_later hSw t0
        have l1 := cell_later hSw t1
        have l2 := cell_later hSw t2
        have l3 := cell_later hSw t3
        have l4 := cell_later hSw t4
        have lq := cell_later hSw q4
        go_simp
        all_goals with_reducible rfl
      simp only [Act.put]
      refine wpAnyH_take (i := 5) (oi := _) (v := ?_) rfl (by kernel_rfl) (by kernel_rfl) (by kernel_rfl) (fun _ _ _ h => h) (Or.inl ⟨by kernel_rfl, ?_⟩) (by assumption) ?_
      rotate_left
      · intro w hSw
        have l0 := cell_later hSw t0
        have l1 := cell_later hSw t1
        have l2 := cell_later hSw t2
        have l3 := cell_later hSw t3
        have l4 := cell_later hSw t4
        have lq := cell_later hSw q4
        go_simp
        all_goals with_reducible rfl
      simp only [Act.put]
      refine wpAnyH_take (i := 6) (oi := _) (v := ?_) rfl (by kernel_rfl) (by kernel_rfl) (by kernel_rfl) (fun _ _ _ h => h) (Or.inl ⟨by kernel_rfl, ?_⟩) (by assumption) ?_
      rotate_left
      · intro w hSw
        have l0 := cell_later hSw t0
        have l1 := cell_later hSw t1
        have l2 := cell_later hSw t2
        have l3 := cell_later hSw t3
        have l4 := cell_later hSw t4
        have lq := cell_later hSw q4
        go_simp
        all_goals with_reducible rfl
      simp only [Act.put]
      refine wpAnyH_take (i := 7) (oi := _) (v := ?_) rfl (by kernel_rfl) (by kernel_rfl) (by kernel_rfl) (fun _ _ _ h => h) (Or.inl ⟨by kernel_rfl, ?_⟩) (by assumption) ?_
      rotate_left
      · intro w hSw
        have l0 := cell_later hSw t0
        have l1 := cell_later hSw t1
        have l2 := cell_later hSw t2
        have l3 := cell_later hSw t3
        have l4 := cell_later hSw t4
        have lq := cell_later hSw q4
        go_simp
        all_goals with_reducible rfl
      simp only [Act.put]
      refine wpAnyH_take (i := 8) (oi := _) (v := ?_) rfl (by kernel_rfl) (by kernel_rfl) (by kernel_rfl) (fun _ _ _ h => h) (Or.inl ⟨by kernel_rfl, ?_⟩) (by assumption) ?_
      rotate_left
      · intro w hSw
        have l0 := cell_later hSw t0
        have l1 := cell_later hSw t1
        have l2 := cell_later hSw t2
        have l3 := cell_later hSw t3
        have l4 := cell_later hSw t4
        have lq := cell_later hSw q4
        go_simp
        all_goals with_reducible rfl
      simp only [Act.put]
      refine wpAnyH_ready (rs := [9]) (by kernel_rfl) (by simp) ?_
      refine AllReadyH.cons (o := _) rfl (fun K hK => ?_) AllReadyH.nil
      go_simp
      obtain ⟨x1, hx1⟩ : ∃ x1, x1 = Q.drew.alloc (.cells #[.int .i64 7, .int .i64 8] 2 (0, 0)) := ⟨_, rfl⟩
      have hx2 : (Q.alloc (.cells #[.int .i64 7, .int .i64 8] 2 (0, 0))).drew = x1 := by rw [hx1]; rfl
      first | rw [← hx1] | rw [hx2]
      have hnr : NRow x1 (some ⟨Q.heap.size, 0, none⟩) 2 [7, 8] := by rw [hx1]; exact nums_new Q.drew [7, 8] (by decide)
      have HX1 : Hid (Below Q.heap.size Q x1) := hide (by rw [hx1]; exact HX0.out.trans ((alloc_below _ _).mono HX0.out.size))
      have HNR := hide hnr
      clear hx1 hx2 hnr
      refine hK.out _ _ HX1.out (fun hHeld => ?_)
      clear hK
      refine wpAnyH_ready (rs := [10]) (by kernel_rfl) (by simp) ?_
      refine AllReadyH.cons (o := _) rfl (fun K hK => ?_) AllReadyH.nil
      go_simp
      refine (txn_any HNR.out rfl (by decide)).mono ?_
      rintro _ x2 ⟨p7, c7, q7, d7, rfl, o1, o2, b0⟩
      have HX2 : Hid (Below Q.heap.size Q x2) := hide (HX1.out.trans (b0.mono HX1.out.size))
      have HR7 : Hid (RRow x2 p7 c7 [⟨0, 7⟩, ⟨0, 8⟩]) := hide (RRow.of_own rfl o1)
      have HN7 : Hid (NRow x2 q7 d7 [2]) := hide (NRow.of_own rfl o2)
      clear o1 o2 b0
      go_wp2_with fail
      refine hK.out _ _ HX2.out (fun hHeld => ?_)
      clear hK
      refine wpAnyH_ready (rs := [11]) (by kernel_rfl) (by simp) ?_
      refine AllReadyH.cons (o := _) rfl (fun K hK => ?_) AllReadyH.nil
      go_simp
      refine (rsametxn_all (HXV.out.later HX2.out).r (HXV.out.later HX2.out).v HR7.out HN7.out rfl rfl rfl rfl (rb := true) (decide_eq_true rfl)).mono ?_
      rintro _ x3 ⟨rfl, b0⟩
      have HX3 : Hid (Below Q.heap.size Q x3) := hide (HX2.out.trans (b0.mono HX2.out.size))
      clear b0
      go_wp2_with fail
      refine hK.out _ _ HX3.out (fun hHeld => ?_)
      clear hK
      refine wpAnyH_take (i := 12) (oi := _) (v := ?_) rfl (by kernel_rfl) (by kernel_rfl) (by kernel_rfl) (fun _ _ _ h => h) (Or.inl ⟨by kernel_rfl, ?_⟩) (by assumption) ?_
      rotate_left
      · intro w hSw
        have l0 := cell_later hSw t0
        have l1 := cell_later hSw t1
        have l2 := cell_later hSw t2
        have l3 := cell_later hSw t3
        have l4 := cell_later hSw t4
        have lq := cell_later hSw q4
        go_simp
        all_goals with_reducible rfl
      simp only [Act.put]
      refine wpAnyH_take (i := 13) (oi := _) (v := ?_) rfl (by kernel_rfl) (by kernel_rfl) (by kernel_rfl) (fun _ _ _ h => h) (Or.inl ⟨by kernel_rfl, ?_⟩) (by assumption) ?_
      rotate_left
      · intro w hSw
        have l0 := cell_later hSw t0
        have l1 := cell_later hSw t1
        have l2 := cell_later hSw t2
        have l3 := cell_later hSw t3
        have l4 := cell_later hSw t4
        have lq := cell_later hSw q4
        go_simp
        all_goals with_reducible rfl
      simp only [Act.put]
      refine wpAnyH_done (by kernel_rfl) ?_ _
      obtain ⟨X, rfl⟩ : ∃ X, X = x3 := ⟨_, rfl⟩
      have hX := HX3.out
      have HPX : Hid (PS _ X k1) := hide (HPQ.out.later hX)
      have HBX7 : Hid (Below W.heap.size W X) := hide (HBQ.out.trans (hX.mono HBQ.out.size))
      have HG3X := hide (below_box hX HG3.out)
      have HG5X := hide (below_box hX HG5.out)
      have HTX := hide (cell_later hX HT.out)
      have HQ2X := hide (cell_later hX HQ2.out)
      have HQ4X := hide (cell_later hX HQ4.out)
      clear hX q2 q4 t0 t1 t2 t3 t4
      have q2 := HQ2X.out
      have q4 := HQ4X.out
      have t3 := HTX.out
      go_upto_region 19 with fail
      have HX0 : Hid (Only (fun i => i = g3 ∨ i = g5) X X.drew) := hide ((Only.refl _ X).drew)
      refine wp_region_held_drew (S := fun w9 => Only (fun i => i = g3 ∨ i = g5) X w9) (by kernel_rfl) HX0.out (fun hHeld => ?_)
      refine wpAnyH_take (i := 0) (oi := _) (v := ?_) rfl (by kernel_rfl) (by kernel_rfl) (by kernel_rfl) (fun _ _ _ h => h) (Or.inl ⟨by kernel_rfl, ?_⟩) (by assumption) ?_
      rotate_left
      · intro w hSw
        have m2 := hSw.cell q2 (by have := HGG.out; rintro (e9 | e9); exact this.1 e9; exact this.2.1 e9)
        have m4 := hSw.cell q4 (by have := HGG.out; rintro (e9 | e9); exact this.1 e9; exact this.2.1 e9)
        have n3 := hSw.cell t3 (by have := HGG.out; rintro (e9 | e9); exact this.2.2.1 e9; exact this.2.2.2.1 e9)
        go_simp
        all_goals with_reducible rfl
      simp only [Act.put]
      refine wpAnyH_take (i := 1) (oi := _) (v := ?_) rfl (by kernel_rfl) (by kernel_rfl) (by kernel_rfl) (fun _ _ _ h => h) (Or.inl ⟨by kernel_rfl, ?_⟩) (by assumption) ?_
      rotate_left
      · intro w hSw
        have m2 := hSw.cell q2 (by have := HGG.out; rintro (e9 | e9); exact this.1 e9; exact this.2.1 e9)
        have m4 := hSw.cell q4 (by have := HGG.out; rintro (e9 | e9); exact this.1 e9; exact this.2.1 e9)
        have n3 := hSw.cell t3 (by have := HGG.out; rintro (e9 | e9); exact this.2.2.1 e9; exact this.2.2.2.1 e9)
        go_simp
        all_goals with_reducible rfl
      simp only [Act.put]
      refine wpAnyH_take (i := 2) (oi := _) (v := ?_) rfl (by kernel_rfl) (by kernel_rfl) (by kernel_rfl) (fun _ _ _ h => h) (Or.inl ⟨by kernel_rfl, ?_⟩) (by assumption) ?_
      rotate_left
      · intro w hSw
        have m2 := hSw.cell q2 (by have := HGG.out; rintro (e9 | e9); exact this.1 e9; exact this.2.1 e9)
        have m4 := hSw.cell q4 (by have := HGG.out; rintro (e9 | e9); exact this.1 e9; exact this.2.1 e9)
        have n3 := hSw.cell t3 (by have := HGG.out; rintro (e9 | e9); exact this.2.2.1 e9; exact this.2.2.2.1 e9)
        go_simp
        all_goals with_reducible rfl
      simp only [Act.put]
      refine wpAnyH_take (i := 3) (oi := _) (v := ?_) rfl (by kernel_rfl) (by kernel_rfl) (by kernel_rfl) (fun _ _ _ h => h) (Or.inl ⟨by kernel_rfl, ?_⟩) (by assumption) ?_
      rotate_left
      · intro w hSw
        have m2 := hSw.cell q2 (by have := HGG.out; rintro (e9 | e9); exact this.1 e9; exact this.2.1 e9)
        have m4 := hSw.cell q4 (by have := HGG.out; rintro (e9 | e9); exact this.1 e9; exact this.2.1 e9)
        have n3 := hSw.cell t3 (by have := HGG.out; rintro (e9 | e9); exact this.2.2.1 e9; exact this.2.2.2.1 e9)
        go_simp
        all_goals with_reducible rfl
      simp only [Act.put]
      refine wpAnyH_take (i := 4) (oi := _) (v := ?_) rfl (by kernel_rfl) (by kernel_rfl) (by kernel_rfl) (fun _ _ _ h => h) (Or.inl ⟨by kernel_rfl, ?_⟩) (by assumption) ?_
      rotate_left
      · intro w hSw
        have m2 := hSw.cell q2 (by have := HGG.out; rintro (e9 | e9); exact this.1 e9; exact this.2.1 e9)
        have m4 := hSw.cell q4 (by have := HGG.out; rintro (e9 | e9); exact this.1 e9; exact this.2.1 e9)
        have n3 := hSw.cell t3 (by have := HGG.out; rintro (e9 | e9); exact this.2.2.1 e9; exact this.2.2.2.1 e9)
        go_simp
        all_goals with_reducible rfl
      simp only [Act.put]
      refine wpAnyH_take (i := 5) (oi := _) (v := ?_) rfl (by kernel_rfl) (by kernel_rfl) (by kernel_rfl) (fun _ _ _ h => h) (Or.inl ⟨by kernel_rfl, ?_⟩) (by assumption) ?_
      rotate_left
      · intro w hSw
        have m2 := hSw.cell q2 (by have := HGG.out; rintro (e9 | e9); exact this.1 e9; exact this.2.1 e9)
        have m4 := hSw.cell q4 (by have := HGG.out; rintro (e9 | e9); exact this.1 e9; exact this.2.1 e9)
        have n3 := hSw.cell t3 (by have := HGG.out; rintro (e9 | e9); exact this.2.2.1 e9; exact this.2.2.2.1 e9)
        go_simp
        all_goals with_reducible rfl
      simp only [Act.put]
      refine wpAnyH_take (i := 6) (oi := _) (v := ?_) rfl (by kernel_rfl) (by kernel_rfl) (by kernel_rfl) (fun _ _ _ h => h) (Or.inl ⟨by kernel_rfl, ?_⟩) (by assumption) ?_
      rotate_left
      · intro w hSw
        have m2 := hSw.cell q2 (by have := HGG.out; rintro (e9 | e9); exact this.1 e9; exact this.2.1 e9)
        have m4 := hSw.cell q4 (by have := HGG.out; rintro (e9 | e9); exact this.1 e9; exact this.2.1 e9)
        have n3 := hSw.cell t3 (by have := HGG.out; rintro (e9 | e9); exact this.2.2.1 e9; exact this.2.2.2.1 e9)
        go_simp
        all_goals with_reducible rfl
      simp only [Act.put]
      refine wpAnyH_take (i := 7) (oi := _) (v := ?_) rfl (by kernel_rfl) (by kernel_rfl) (by kernel_rfl) (fun _ _ _ h => h) (Or.inl ⟨by kernel_rfl, ?_⟩) (by assumption) ?_
      rotate_left
      · intro w hSw
        have m2 := hSw.cell q2 (by have := HGG.out; rintro (e9 | e9); exact this.1 e9; exact this.2.1 e9)
        have m4 := hSw.cell q4 (by have := HGG.out; rintro (e9 | e9); exact this.1 e9; exact this.2.1 e9)
        have n3 := hSw.cell t3 (by have := HGG.out; rintro (e9 | e9); exact this.2.2.1 e9; exact this.2.2.2.1 e9)
        go_simp
        all_goals with_reducible rfl
      simp only [Act.put]
      refine wpAnyH_take (i := 8) (oi := _) (v := ?_) rfl (by kernel_rfl) (by kernel_rfl) (by kernel_rfl) (fun _ _ _ h => h) (Or.inl ⟨by kernel_rfl, ?_⟩) (by assumption) ?_
      rotate_left
      · intro w hSw
        have m2 := hSw.cell q2 (by have := HGG.out; rintro (e9 | e9); exact this.1 e9; exact this.2.1 e9)
        have m4 := hSw.cell q4 (by have := HGG.out; rintro (e9 | e9); exact this.1 e9; exact this.2.1 e9)
        have n3 := hSw.cell t3 (by have := HGG.out; rintro (e9 | e9); exact this.2.2.1 e9; exact this.2.2.2.1 e9)
        go_simp
        all_goals with_reducible rfl
      simp only [Act.put]
      refine wpAnyH_ready (rs := [9]) (by kernel_rfl) (by simp) ?_
      refine AllReadyH.cons (o := _) rfl (fun K hK => ?_) AllReadyH.nil
      have y1 : X.drew.cell? ⟨g3, 3, none⟩ = some (.int .i64 8) := cellB (W := X.drew) HG3X.out HC3.out
      have z1 : X.drew.frozen? ⟨g3, 3, none⟩ = false := frB (W := X.drew) (i := 3) HG3X.out
      go_simp
      obtain ⟨v1, hv1⟩ : ∃ v1, v1 = (X.setCell ⟨g3, 3, none⟩ (.int .i64 98)).drew := ⟨_, rfl⟩
      have HX1 : Hid (Only (fun i => i = g3 ∨ i = g5) X v1) := hide (by rw [hv1]; exact (Only.set (F := fun i => i = g3 ∨ i = g5) X g3 3 _ (.inl rfl)).drew)
      have HV1 : Hid (v1.heap[g5]? = some (.cells cs5 2 (0, 0))) := hide (by rw [hv1]; exact (Only.set (F := (· = g3)) X g3 3 _ rfl).drew.obj HG5X.out (fun e9 => HGG.out.2.2.2.2 e9.symm))
      rw [← hv1]
      clear y1 z1 hv1
      refine hK.out _ _ HX1.out (fun hHeld => ?_)
      clear hK
      refine wpAnyH_take (i := 10) (oi := _) (v := ?_) rfl (by kernel_rfl) (by kernel_rfl) (by kernel_rfl) (fun _ _ _ h => h) (Or.inl ⟨by kernel_rfl, ?_⟩) (by assumption) ?_
      rotate_left
      · intro w hSw
        have m2 := hSw.cell q2 (by have := HGG.out; rintro (e9 | e9); exact this.1 e9; exact this.2.1 e9)
        have m4 := hSw.cell q4 (by have := HGG.out; rintro (e9 | e9); exact this.1 e9; exact this.2.1 e9)
        have n3 := hSw.cell t3 (by have := HGG.out; rintro (e9 | e9); exact this.2.2.1 e9; exact this.2.2.2.1 e9)
        go_simp
        all_goals with_reducible rfl
      simp only [Act.put]
      refine wpAnyH_ready (rs := [11]) (by kernel_rfl) (by simp) ?_
      refine AllReadyH.cons (o := _) rfl (fun K hK => ?_) AllReadyH.nil
      have y1 : v1.cell? ⟨g5, 0, none⟩ = some (.int .i64 0) := cellB HV1.out HC5.out
      have z1 : v1.frozen? ⟨g5, 0, none⟩ = false := frB (i := 0) HV1.out
      go_simp
      obtain ⟨w7, hw7⟩ : ∃ w7, w7 = v1.setCell ⟨g5, 0, none⟩ (.int .i64 98) := ⟨_, rfl⟩
      have HX2 : Hid (Only (fun i => i = g3 ∨ i = g5) X w7) := hide (by rw [hw7]; exact HX1.out.trans (Only.set (F := fun i => i = g3 ∨ i = g5) v1 g5 0 _ (.inr rfl)))
      rw [← hw7]
      clear y1 z1 hw7
      refine hK.out _ _ HX2.out (fun hHeld => ?_)
      clear hK
      refine wpAnyH_done (by kernel_rfl) ?_ _
      have hO7 := HX2.out
      have HP7 := hide (HPX.out.only hO7 (fun i hi e9 => by have h8 := (HP4.out.lt hi).2; have := HGB.out; rcases e9 with rfl | rfl <;> omega))
      have HB7 : Hid (Below W.heap.size W w7) := hide (HBX7.out.trans (hO7.below HBX7.out.size (fun i e9 => by have := HGB.out; have := HB5.out.size; rcases e9 with rfl | rfl <;> omega)))
      clear hO7 q2 q4 t3
      go_wp2_with fail
      refine (commit_any HP7.out (by have h9 : k1.done = _ := congrArg SK.done HS3.out; rw [h9]; decide)).mono ?_
      rintro _ w8 ⟨rfl, hput⟩
      obtain ⟨k2, r1, r2, r3, r4, r5⟩ := hput
      have HE := (show comE k1.sk 1 1 = _ ∧ comS k1.sk 1 1 = _ by rw [HS3.out]; exact lv2)
      rw [HE.1]
      rw [HE.2] at r2
      have HP8 := hide r1
      have HS8 : Hid (k2.sk = ls2) := hide r2
      have HB8 : Hid (Below W.heap.size W w8) := hide (HB7.out.trans (r4.below HB7.out.size (fun i hi => Nat.le_trans HBX.out.size (HP7.out.lt hi).1)))
      rw [← r3]
      clear r1 r2 r3 r4 r5 HE
      have HKO : Hid (k2.out = [⟨0, 7⟩, ⟨0, 8⟩]) := hide (congrArg SK.out HS8.out)
      have HKV : Hid (k2.vec = [2]) := hide (congrArg SK.vec HS8.out)
      go_wp2_with fail
      refine (read_ok (j := 0) (m := 9) (L := 2) HP8.out (Nat.zero_le _) (by rw [HKO.out]; rfl)).mono ?_
      rintro _ w9 ⟨lp2, lc2, rfl, ho9, b9⟩
      rw [HKO.out] at ho9
      obtain ⟨g6, cs6, h6p, hg6, hh6, hc6⟩ := own_at ho9 (show 0 < 4 by decide)
      subst h6p
      have HP9 := hide (HP8.out.later b9)
      have HB9 : Hid (Below W.heap.size W w9) := hide (HB8.out.trans (b9.mono HB8.out.size))
      have y6 : w9.cell? ⟨g6, 1, none⟩ = some (.int .i64 7) := cellB hh6 (hc6 1 (show 1 < 4 by decide))
      have z6 : w9.frozen? ⟨g6, 1, none⟩ = false := frB (i := 1) hh6
      have HG6 := hide hg6
      clear ho9 hg6 hh6 hc6 b9
      go_upto_region 25 with fail
      obtain ⟨w10, hw10⟩ : ∃ w10, w10 = w9.setCell ⟨g6, 1, none⟩ (.int .i64 97) := ⟨_, rfl⟩
      rw [← hw10]
      have ho10 : Only (· = g6) w9 w10 := by rw [hw10]; exact Only.set (F := (· = g6)) w9 g6 1 _ rfl
      have HP10 := hide (HP9.out.only ho10 (fun i hi e9 => by have h8 := (HP8.out.lt hi).2; have := HG6.out; have e8 : i = g6 := e9; omega))
      have HB10 : Hid (Below W.heap.size W w10) := hide (HB9.out.trans (ho10.below HB9.out.size (fun i e9 => by have := HG6.out; have := HB8.out.size; have e8 : i = g6 := e9; omega)))
      clear hw10 ho10 y6 z6
      go_wp2_with fail
      refine (read_ok (j := 0) (m := 9) (L := 2) HP10.out (Nat.zero_le _) (by rw [HKO.out]; rfl)).mono ?_
      rintro _ w11 ⟨lp3, lc3, rfl, ho11, b11⟩
      have HP11 := hide (HP10.out.later b11)
      have HB11 : Hid (Below W.heap.size W w11) := hide (HB10.out.trans (b11.mono HB10.out.size))
      have HL11 : Hid (RRow w11 lp3 lc3 [⟨0, 7⟩, ⟨0, 8⟩]) := hide (RRow.of_own rfl (by rw [HKO.out] at ho11; exact ho11))
      clear ho11 b11
      go_wp2_with fail
      have hnr : NRow (w11.alloc (.cells #[.int .i64 7, .int .i64 8] 2 (0, 0))) (some ⟨w11.heap.size, 0, none⟩) 2 [7, 8] := nums_new w11 [7, 8] (by decide)
      have ba := alloc_below w11 (.cells #[.int .i64 7, .int .i64 8] 2 (0, 0))
      refine (txn_any hnr rfl (by decide)).mono ?_
      rintro _ w12 ⟨p12, c12, q12, d12, rfl, o1, _, b12⟩
      have HP12 := hide ((HP11.out.later ba).later b12)
      have HL12 := hide ((HL11.out.later ba).later b12)
      have HR12 : Hid (RRow w12 p12 c12 [⟨0, 7⟩, ⟨0, 8⟩]) := hide (RRow.of_own rfl o1)
      have HB12 : Hid (Below W.heap.size W w12) := hide (HB11.out.trans ((ba.trans (b12.mono ba.size)).mono HB11.out.size))
      clear hnr ba o1 b12
      have hfd : ∀ w : World, (Instr.field 34 (.agg #[.int .i64 1, .int .i64 1, .int .i64 0, .slice p12 2 c12, .slice q12 1 d12]) 3).run Try.prog w = .ok (.slice p12 2 c12) w := fun _ => by kernel_rfl
      go_wp2_with fail
      refine (eqrec_all HL12.out HR12.out rfl rfl (rb := true) (by decide)).mono ?_
      rintro _ w13 ⟨rfl, b13⟩
      have HP13 := hide (HP12.out.later b13)
      have HB13 : Hid (Below W.heap.size W w13) := hide (HB12.out.trans (b13.mono HB12.out.size))
      clear b13
      go_wp2_with fail
      refine (vector_call HP13.out).mono ?_
      rintro _ w14 ⟨p14, c14, rfl, o14, b14⟩
      rw [HKV.out] at o14
      have HV14 : Hid (NRow w14 p14 c14 [2]) := hide (NRow.of_own rfl o14)
      have HB14 : Hid (Below W.heap.size W w14) := hide (HB13.out.trans (b14.mono HB13.out.size))
      rw [show k2.vec.length = 1 by rw [HKV.out]; rfl]
      clear o14 b14
      go_wp2_with fail
      have hnr : NRow (w14.alloc (.cells #[.int .i64 2] 2 (0, 0))) (some ⟨w14.heap.size, 0, none⟩) 1 [2] := nums_new w14 [2] (by decide)
      have ba := alloc_below w14 (.cells #[.int .i64 2] 2 (0, 0))
      refine (eqnum_all (HV14.out.later ba) hnr rfl rfl (rb := true) (by decide)).mono ?_
      rintro _ w15 ⟨rfl, b15⟩
      have HB15 : Hid (Below W.heap.size W w15) := hide (HB14.out.trans ((ba.trans (b15.mono ba.size)).mono HB14.out.size))
      clear hnr ba b15
      go_wp2
      go_ret
      exact ⟨rfl, HB15.out⟩
end Go.Proofs.Ytboofnkajjnmeaa
