/-
  LeaseDoes walked: whatever is asked of any lease, the program answers as the document does. The condition: that what is asked lies there.
-/
import Derived.Test.YthlkhjpobiohmaaLre
import Derived.Test.YthlkhjpobiohmaaLsn
namespace Go.Proofs.Ythlkhjpobiohmaa
open Go.ChangeShapes Go.WideShapes Go.ChangeAt Go.RowKit

set_option maxRecDepth 100000 in
set_option maxHeartbeats 8000000 in
theorem does_walk {W : World} {o la ep ck tl : Int} {so : Bool} {lp : Option Addr} {lc n : Nat} {os : List AK} (hrow : ARow W lp lc os) (hn : os.length = n) :
    Calls Try.prog 3 #[.agg #[.int .i64 o, .int .i64 la, .int .i64 ep, .int .i64 ck, .int .i64 tl, .bool so], .slice lp n lc] W fun e w' => e = .returned (.bool true) ∧ Below W.heap.size W w' := by
  have i1 := hrow.le
  have i2 := hrow.top
  rw [hn] at i1
  have HROW := hide hrow
  have HN := hide hn
  clear hrow hn
  obtain ⟨V, hV⟩ : ∃ V, V = W.alloc (.cells #[.int .i64 o, .int .i64 la, .int .i64 ep, .int .i64 ck, .int .i64 tl, .bool so] 23 (0, 0)) := ⟨_, rfl⟩
  have hv : V.heap[W.heap.size]? = some (.cells #[.int .i64 o, .int .i64 la, .int .i64 ep, .int .i64 ck, .int .i64 tl, .bool so] 23 (0, 0)) := by rw [hV]; exact heap_alloc_new W _
  have hbv : Below W.heap.size W V := by rw [hV]; exact alloc_below _ _
  obtain ⟨B, hB⟩ : ∃ B, W.heap.size = B := ⟨_, rfl⟩
  have HBB := hide hB
  rw [hB] at hv hbv
  have HV := hide hv
  have HBV := hide hbv
  rw [hB]
  go_enter Try.func3, Try.ntmps3
  go_upto_region 1 with fail
  rw [← hV]
  try rw [hB]
  clear hV hB hv hbv
  go_wp2_with fail
  refine live_any.mono ?_
  rintro _ w1 ⟨rfl, b1⟩
  have HV1 := hide (below_box b1 HV.out)
  have HB1 := hide (below_next HBV.out b1 (Nat.le_of_lt (box_lt HV.out)))
  have HNI0 : Hid (NtI B W B ⟨o, la, ep, ck, tl, so⟩ w1) := hide ⟨HV1.out, HB1.out, Nat.le_refl _⟩
  clear b1 HV HBV HV1 HB1
  have HLB : Hid (B ≤ B) := hide (Nat.le_refl _)
  go_wp2_with fail
  go_loopw [17] (fun i wr => ∃ (k : Nat) (l : LE), k ≤ n ∧ i = .int .i64 (k : Int) ∧ Hid (NtI B W B l wr)) (fun i _ => n - (intOf i).toNat)
  case atStart => exact ⟨0, ⟨o, la, ep, ck, tl, so⟩, Nat.zero_le _, rfl, HNI0⟩
  case round =>
    obtain ⟨k, ⟨l0, l1, l2, l3, l4, l5⟩, hk, rfl, HI⟩ := hrel
    clear HNI0
    obtain ⟨hl, hbw, _⟩ := HI.out
    simp only at hl
    by_cases hlt : k < n
    · have hlt2 : k < os.length := by rw [HN.out]; exact hlt
      obtain ⟨⟨dd, dr, de, dw, dt, dn, ds⟩, hx⟩ : ∃ x, os[k]! = x := ⟨_, rfl⟩
      have bw2 := hbw
      rw [← HBB.out] at bw2
      obtain ⟨g, oo, rfl, a0, a1, a2, a3, a4, a5, a6⟩ := ARow.at (LRow.below AK.len HROW.out bw2) hlt2 hx
      have HL0 := hide hl
      have HB0 := hide hbw
      clear hx hlt2 bw2 hl hbw HI
      go_upto_region 6 with fail
      obtain ⟨X, hX⟩ : ∃ X, X = wr.alloc (.cells #[.int .i64 dd, .int .i64 dr, .int .i64 de, .bool dw, .int .i64 dt, .int .i64 dn, .bool ds] 27 (0, 0)) := ⟨_, rfl⟩
      rw [← hX]
      obtain ⟨c1, c2, c3⟩ := alloc_box HB0.out (by have := box_lt HL0.out; have := HLB.out; omega) (.cells #[.int .i64 dd, .int .i64 dr, .int .i64 de, .bool dw, .int .i64 dt, .int .i64 dn, .bool ds] 27 (0, 0))
      rw [← hX] at c1 c2 c3
      obtain ⟨aB, haB⟩ : ∃ aB, wr.heap.size = aB := ⟨_, rfl⟩
      rw [haB] at c2
      try rw [haB]
      have HL1 := hide (below_box c3 HL0.out)
      have HA1 := hide c2
      have HB1 := hide c1
      clear c1 c2 c3 hX haB HB0 HL0 a0 a1 a2 a3 a4 a5 a6
      obtain ⟨⟨⟨g0, g1, g2, g3, g4, g5⟩, m, x⟩, hg⟩ : ∃ q, asksC ⟨l0, l1, l2, l3, l4, l5⟩ ⟨dd, dr, de, dw, dt, dn, ds⟩ = q := ⟨_, rfl⟩
      have HG := hide hg
      clear hg
      obtain ⟨_, _, _, _, _, _, u0, u1, u2, u3, u4, u5⟩ := six HL1.out
      obtain ⟨a0, a1, a2, a3, a4, a5, a6⟩ := seven HA1.out
      go_wp2_with fail
      refine asks_any.mono ?_
      rw [HG.out]
      simp only [LE.val, LE.row]
      rintro _ w3 ⟨rfl, b3⟩
      have HL2 := hide (below_box b3 HL1.out)
      have HA2 := hide (below_box b3 HA1.out)
      have HB2 := hide (below_next HB1.out b3 (by have := box_lt HL1.out; have := HLB.out; omega))
      clear b3 HL1 HA1 HB1 u0 u1 u2 u3 u4 u5 a0 a1 a2 a3 a4 a5 a6
      go_upto_region 7 with fail
      obtain ⟨Z, hZ⟩ : ∃ Z, Z = w3.alloc (.cells #[.int .i64 g0, .int .i64 g1, .int .i64 g2, .int .i64 g3, .int .i64 g4, .bool g5] 23 (0, 0)) := ⟨_, rfl⟩
      rw [← hZ]
      obtain ⟨c1, c2, c3⟩ := alloc_box HB2.out (by have := box_lt HL2.out; have := HLB.out; omega) (.cells #[.int .i64 g0, .int .i64 g1, .int .i64 g2, .int .i64 g3, .int .i64 g4, .bool g5] 23 (0, 0))
      rw [← hZ] at c1 c2 c3
      obtain ⟨xB, hxB⟩ : ∃ xB, w3.heap.size = xB := ⟨_, rfl⟩
      rw [hxB] at c2
      try rw [hxB]
      have HL3 := hide (below_box c3 HL2.out)
      have HA3 := hide (below_box c3 HA2.out)
      have HX3 := hide c2
      have HB3 := hide c1
      clear c1 c2 c3 hZ hxB HB2 HL2 HA2
      obtain ⟨_, _, _, _, _, _, u0, u1, u2, u3, u4, u5⟩ := six HL3.out
      obtain ⟨a0, a1, a2, a3, a4, a5, a6⟩ := seven HA3.out
      go_wp2_with fail
      refine want_any.mono ?_
      rw [HG.out]
      simp only [LE.val, LE.row]
      rintro _ w4 ⟨rfl, b4⟩
      have HL4 := hide (below_box b4 HL3.out)
      have HX4 := hide (below_box b4 HX3.out)
      have HB4 := hide (below_next HB3.out b4 (by have := box_lt HL3.out; have := HLB.out; omega))
      clear b4 HL3 HA3 HX3 HB3 u0 u1 u2 u3 u4 u5 a0 a1 a2 a3 a4 a5 a6
      go_upto_region 8 with fail
      obtain ⟨Y, hY⟩ : ∃ Y, Y = w4.alloc (.cells #[.int .i64 g0, .int .i64 g1, .int .i64 g2, .int .i64 g3, .int .i64 g4, .bool g5] 23 (0, 0)) := ⟨_, rfl⟩
      rw [← hY]
      obtain ⟨c1, c2, c3⟩ := alloc_box HB4.out (by have := box_lt HL4.out; have := HLB.out; omega) (.cells #[.int .i64 g0, .int .i64 g1, .int .i64 g2, .int .i64 g3, .int .i64 g4, .bool g5] 23 (0, 0))
      rw [← hY] at c1 c2 c3
      obtain ⟨yB, hyB⟩ : ∃ yB, w4.heap.size = yB := ⟨_, rfl⟩
      rw [hyB] at c2
      try rw [hyB]
      have HL5 := hide (below_box c3 HL4.out)
      have HX5 := hide (below_box c3 HX4.out)
      have HY5 := hide c2
      have HB5 := hide c1
      clear c1 c2 c3 hY hyB HB4 HL4 HX4
      have B0 : Below Y.heap.size Y Y.drew := (Below.refl _ Y).drew
      have HL9 := hide (below_box B0 HL5.out)
      have HX9 := hide (below_box B0 HX5.out)
      have HY9 := hide (below_box B0 HY5.out)
      have HB9 := hide (below_next HB5.out B0 (by have := box_lt HL5.out; have := HLB.out; omega))
      obtain ⟨hh, hhh⟩ : ∃ hh, heldC ⟨g0, g1, g2, g3, g4, g5⟩ = hh := ⟨_, rfl⟩
      obtain ⟨cc, hcc⟩ : ∃ cc, chkC ⟨g0, g1, g2, g3, g4, g5⟩ = cc := ⟨_, rfl⟩
      have HH := hide hhh
      have HC := hide hcc
      clear hhh hcc
      obtain ⟨_, _, _, _, _, _, x0, x1, x2, x3, x4, x5⟩ := six HX9.out
      obtain ⟨_, _, _, _, _, _, y0, y1, y2, y3, y4, y5⟩ := six HY9.out
      go_region_held3 (fun w' => (w'.cell? ⟨xB, 0, none⟩ = some (.int .i64 g0) ∧ w'.cell? ⟨xB, 1, none⟩ = some (.int .i64 g1) ∧ w'.cell? ⟨xB, 2, none⟩ = some (.int .i64 g2) ∧ w'.cell? ⟨xB, 3, none⟩ = some (.int .i64 g3) ∧ w'.cell? ⟨xB, 4, none⟩ = some (.int .i64 g4) ∧ w'.cell? ⟨xB, 5, none⟩ = some (.bool g5)) ∧ (w'.cell? ⟨yB, 0, none⟩ = some (.int .i64 g0) ∧ w'.cell? ⟨yB, 1, none⟩ = some (.int .i64 g1) ∧ w'.cell? ⟨yB, 2, none⟩ = some (.int .i64 g2) ∧ w'.cell? ⟨yB, 3, none⟩ = some (.int .i64 g3) ∧ w'.cell? ⟨yB, 4, none⟩ = some (.int .i64 g4) ∧ w'.cell? ⟨yB, 5, none⟩ = some (.bool g5))) (go_keep)
        (first
          | (go_at_call 13; refine rcheck_any.mono ?_; rw [HC.out]; rintro _ z4 ⟨rfl, d4⟩; have HL13 := hide (below_box d4 HL12.out); have HX13 := hide (below_box d4 HX12.out); have HY13 := hide (below_box d4 HY12.out); have HB13 := hide (below_next HB12.out d4 (by have := box_lt HL12.out; have := HLB.out; omega)); obtain ⟨_, _, _, _, _, _, x0, x1, x2, x3, x4, x5⟩ := six HX13.out; obtain ⟨_, _, _, _, _, _, y0, y1, y2, y3, y4, y5⟩ := six HY13.out; clear d4)
          | (go_at_call 12; refine check_any.mono ?_; rw [HC.out]; rintro _ z3 ⟨rfl, d3⟩; have HL12 := hide (below_box d3 HL11.out); have HX12 := hide (below_box d3 HX11.out); have HY12 := hide (below_box d3 HY11.out); have HB12 := hide (below_next HB11.out d3 (by have := box_lt HL11.out; have := HLB.out; omega)); obtain ⟨_, _, _, _, _, _, x0, x1, x2, x3, x4, x5⟩ := six HX12.out; obtain ⟨_, _, _, _, _, _, y0, y1, y2, y3, y4, y5⟩ := six HY12.out; clear d3)
          | (go_at_call 11; refine rheld_any.mono ?_; rw [HH.out]; rintro _ z2 ⟨rfl, d2⟩; have HL11 := hide (below_box d2 HL10.out); have HX11 := hide (below_box d2 HX10.out); have HY11 := hide (below_box d2 HY10.out); have HB11 := hide (below_next HB10.out d2 (by have := box_lt HL10.out; have := HLB.out; omega)); obtain ⟨_, _, _, _, _, _, x0, x1, x2, x3, x4, x5⟩ := six HX11.out; obtain ⟨_, _, _, _, _, _, y0, y1, y2, y3, y4, y5⟩ := six HY11.out; clear d2)
          | (go_at_call 10; refine held_any.mono ?_; rw [HH.out]; rintro _ z1 ⟨rfl, d1⟩; have HL10 := hide (below_box d1 HL9.out); have HX10 := hide (below_box d1 HX9.out); have HY10 := hide (below_box d1 HY9.out); have HB10 := hide (below_next HB9.out d1 (by have := box_lt HL9.out; have := HLB.out; omega)); obtain ⟨_, _, _, _, _, _, x0, x1, x2, x3, x4, x5⟩ := six HX10.out; obtain ⟨_, _, _, _, _, _, y0, y1, y2, y3, y4, y5⟩ := six HY10.out; clear d1))
      clear x0 x1 x2 x3 x4 x5 y0 y1 y2 y3 y4 y5
      obtain ⟨f0, f1, f2, f3, f4, f5, u0, u1, u2, u3, u4, u5⟩ := six HL13.out
      obtain ⟨_, _, _, _, _, _, x0, x1, x2, x3, x4, x5⟩ := six HX13.out
      have HNI : Hid (NtI B W B ⟨g0, g1, g2, g3, g4, g5⟩ (set6 z4 B (.int .i64 g0) (.int .i64 g1) (.int .i64 g2) (.int .i64 g3) (.int .i64 g4) (.bool g5))) := hide ⟨heap_set6 HL13.out _ _ _ _ _ _, HB13.out.trans ((only_set6 _ B _ _ _ _ _ _).below (by have := box_lt HL13.out; have := HLB.out; omega) (fun i e => by have e' : i = B := e; have := HLB.out; omega)), HLB.out⟩
      unfold set6 at HNI
      go_wp2
      go_round
      case rel => exact ⟨k + 1, ⟨g0, g1, g2, g3, g4, g5⟩, by omega, by first | rfl | go_num, HNI⟩
      case measure => simp [intOf]; omega
    · obtain rfl : k = n := by omega
      have HBW := hide hbw
      have hsz : B ≤ wr.heap.size := by have := box_lt hl; have := HLB.out; omega
      clear HI hl hbw
      go_wp2_with fail
      refine new_any.mono ?_
      simp only [LE.val, LE.row]
      rintro _ w5 ⟨rfl, b5⟩
      have HB5 := hide (below_next HBW.out b5 hsz)
      have hsz5 : B ≤ w5.heap.size := by have := b5.size; omega
      clear b5
      go_wp2_with fail
      refine rnew_any.mono ?_
      simp only [LE.val, LE.row]
      rintro _ w6 ⟨rfl, b6⟩
      have HB6 := hide (below_next HB5.out b6 hsz5)
      clear b6
      go_wp2
      go_ret
      exact ⟨rfl, HB6.out⟩
end Go.Proofs.Ythlkhjpobiohmaa
