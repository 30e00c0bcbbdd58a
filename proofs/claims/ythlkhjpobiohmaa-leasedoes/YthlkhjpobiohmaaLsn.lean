/-
  LeaseNot: while one region holds the lease the other one is granted nothing, but by a transfer; and from when on the owner acts alone. The condition: that what is asked lies there.
-/
import Derived.Test.YthlkhjpobiohmaaLsi
namespace Go.Proofs.Ythlkhjpobiohmaa
open Go.ChangeShapes Go.WideShapes Go.ChangeAt Go.RowKit

theorem grant_fact {l x : LE} {r n : Int} (h : grantC l r = (x, n, 0)) : x.own = r := by
  unfold grantC at h
  split at h
  · simp at h
  · simp only [Prod.mk.injEq] at h
    rw [← h.1]
/-- What a lease that is granted says. -/
theorem not_fact {l x : LE} {a : AK} {n : Int} (h : asksC l a = (x, n, 0)) (hn : n ≠ 0) : (heldC l = true → x.own = l.own ∨ a.act = 4) ∧ (l.solo = true → x.own = l.last) ∧ (a.act = 4 → l.own = a.reg ∧ x.own = a.dst) := by
  unfold asksC at h
  split at h
  · rename_i h1
    unfold acqC at h
    split at h
    · split at h
      · simp at h
      · rename_i h2
        split at h
        · simp at h
        · rename_i h3
          have hx := grant_fact h
          refine ⟨fun hh => .inl ?_, fun hs => ?_, fun h4 => by omega⟩
          · rw [hx]; exact (Classical.byContradiction fun hne => h2 ⟨hh, fun e => hne e.symm⟩)
          · rw [hx]; exact (Classical.byContradiction fun hne => h3 ⟨hs, fun e => hne e.symm⟩)
    · simp at h
  · split at h
    · simp only [Prod.mk.injEq] at h; exact absurd h.2.1.symm hn
    · split at h
      · simp only [Prod.mk.injEq] at h; exact absurd h.2.1.symm hn
      · split at h
        · rename_i h4
          unfold transC at h
          split at h
          · split at h
            · rename_i hc
              split at h
              · simp at h
              · rename_i hs
                have hx := grant_fact h
                exact ⟨fun _ => .inr h4, fun k => absurd k hs, fun _ => ⟨(claim_ok hc).2.2.1, hx⟩⟩
            · simp only [Prod.mk.injEq] at h; exact absurd h.2.1.symm hn
          · simp at h
        · split at h
          · simp only [Prod.mk.injEq] at h; exact absurd h.2.1.symm hn
          · simp only [Prod.mk.injEq] at h; exact absurd h.2.1.symm hn
/-- What a round keeps. -/
def NtI (B : Nat) (W : World) (lB : Nat) (l : LE) (wr : World) : Prop := wr.heap[lB]? = some (.cells #[.int .i64 l.own, .int .i64 l.last, .int .i64 l.ep, .int .i64 l.clk, .int .i64 l.til, .bool l.solo] 23 (0, 0)) ∧ Below B W wr ∧ B ≤ lB
set_option maxRecDepth 100000 in
set_option maxHeartbeats 8000000 in
theorem not_walk {W : World} {lp : Option Addr} {lc n : Nat} {os : List AK} (hrow : ARow W lp lc os) (hn : os.length = n) :
    Calls Try.prog 6 #[.slice lp n lc] W fun e w' => e = .returned (.bool true) ∧ Below W.heap.size W w' := by
  have i1 := hrow.le
  have i2 := hrow.top
  rw [hn] at i1
  have HROW := hide hrow
  have HN := hide hn
  clear hrow hn
  obtain ⟨B, hB⟩ : ∃ B, W.heap.size = B := ⟨_, rfl⟩
  have HBB := hide hB
  rw [hB]
  clear hB
  go_enter Try.func6, Try.ntmps6
  go_wp2_with fail
  refine live_any.mono ?_
  rintro _ w1 ⟨rfl, b1⟩
  rw [HBB.out] at b1
  have HB1 := hide b1
  have hz1 : B ≤ w1.heap.size := by have := b1.size; have := HBB.out; omega
  clear b1
  go_wp2_with fail
  refine new_any.mono ?_
  simp only [LE.val, LE.row]
  rintro _ w2 ⟨rfl, b2⟩
  have HB2 := hide (below_next HB1.out b2 hz1)
  have hz2 : B ≤ w2.heap.size := by have := b2.size; omega
  clear b2 HB1 hz1
  go_upto_region 4 with fail
  obtain ⟨X1, hX1⟩ : ∃ X, X = w2.alloc (.cells #[.int .i64 (-1), .int .i64 (-1), .int .i64 0, .int .i64 0, .int .i64 0, .bool false] 23 (0, 0)) := ⟨_, rfl⟩
  rw [← hX1]
  obtain ⟨c1, c2, c3⟩ := alloc_box HB2.out hz2 (.cells #[.int .i64 (-1), .int .i64 (-1), .int .i64 0, .int .i64 0, .int .i64 0, .bool false] 23 (0, 0))
  rw [← hX1] at c1 c2
  obtain ⟨lB, hlB⟩ : ∃ lB, w2.heap.size = lB := ⟨_, rfl⟩
  rw [hlB] at c2 ⊢
  have HNI0 : Hid (NtI B W lB ⟨-1, -1, 0, 0, 0, false⟩ X1) := hide ⟨c2, c1, by omega⟩
  have HLB : Hid (B ≤ lB) := hide (by omega)
  clear c1 c2 c3 hX1 hlB HB2 hz2
  go_wp2_with fail
  go_loopw [14] (fun i wr => ∃ (k : Nat) (l : LE), k ≤ n ∧ i = .int .i64 (k : Int) ∧ Hid (NtI B W lB l wr)) (fun i _ => n - (intOf i).toNat)
  case atStart => exact ⟨0, ⟨-1, -1, 0, 0, 0, false⟩, Nat.zero_le _, rfl, HNI0⟩
  case round =>
    obtain ⟨k, ⟨l0, l1, l2, l3, l4, l5⟩, hk, rfl, HI⟩ := hrel
    clear HNI0
    obtain ⟨hl, hbw, _⟩ := HI.out
    simp only at hl
    by_cases hlt : k < n
    · have hlt2 : k < os.length := by rw [HN.out]; exact hlt
      obtain ⟨⟨dd, dr, de, dw, dt, dn, ds⟩, hx⟩ : ∃ x, os[k]! = x := ⟨_, rfl⟩
      have bw2 := hbw
      rw [← HBB.out] at bw2
      obtain ⟨g, oo, rfl, a0, a1, a2, a3, a4, a5, a6⟩ := ARow.at (LRow.below AK.len HROW.out bw2) hlt2 hx
      have HL0 := hide hl
      have HB0 := hide hbw
      clear hx hlt2 bw2 hl hbw HI
      go_upto_region 7 with fail
      obtain ⟨X, hX⟩ : ∃ X, X = wr.alloc (.cells #[.int .i64 dd, .int .i64 dr, .int .i64 de, .bool dw, .int .i64 dt, .int .i64 dn, .bool ds] 27 (0, 0)) := ⟨_, rfl⟩
      rw [← hX]
      obtain ⟨c1, c2, c3⟩ := alloc_box HB0.out (by have := box_lt HL0.out; have := HLB.out; omega) (.cells #[.int .i64 dd, .int .i64 dr, .int .i64 de, .bool dw, .int .i64 dt, .int .i64 dn, .bool ds] 27 (0, 0))
      rw [← hX] at c1 c2 c3
      obtain ⟨aB, haB⟩ : ∃ aB, wr.heap.size = aB := ⟨_, rfl⟩
      rw [haB] at c2
      try rw [haB]
      have HL1 := hide (below_box c3 HL0.out)
      have HA1 := hide c2
      have HB1 := hide c1
      clear c1 c2 c3 hX haB HB0 HL0 a0 a1 a2 a3 a4 a5 a6
      obtain ⟨⟨⟨g0, g1, g2, g3, g4, g5⟩, m, x⟩, hg⟩ : ∃ q, asksC ⟨l0, l1, l2, l3, l4, l5⟩ ⟨dd, dr, de, dw, dt, dn, ds⟩ = q := ⟨_, rfl⟩
      have HG := hide hg
      clear hg
      obtain ⟨_, _, _, _, _, _, u0, u1, u2, u3, u4, u5⟩ := six HL1.out
      obtain ⟨a0, a1, a2, a3, a4, a5, a6⟩ := seven HA1.out
      go_wp2_with fail
      refine asks_any.mono ?_
      rw [HG.out]
      simp only [LE.val, LE.row]
      rintro _ w3 ⟨rfl, b3⟩
      have HL2 := hide (below_box b3 HL1.out)
      have HA2 := hide (below_box b3 HA1.out)
      have HB2 := hide (below_next HB1.out b3 (by have := box_lt HL1.out; have := HLB.out; omega))
      clear b3 HL1 HA1 HB1 u0 u1 u2 u3 u4 u5 a0 a1 a2 a3 a4 a5 a6
      go_upto_region 8 with fail
      obtain ⟨Y, hY⟩ : ∃ Y, Y = w3.alloc (.cells #[.int .i64 g0, .int .i64 g1, .int .i64 g2, .int .i64 g3, .int .i64 g4, .bool g5] 23 (0, 0)) := ⟨_, rfl⟩
      rw [← hY]
      obtain ⟨c1, c2, c3⟩ := alloc_box HB2.out (by have := box_lt HL2.out; have := HLB.out; omega) (.cells #[.int .i64 g0, .int .i64 g1, .int .i64 g2, .int .i64 g3, .int .i64 g4, .bool g5] 23 (0, 0))
      rw [← hY] at c1 c2 c3
      obtain ⟨xB, hxB⟩ : ∃ xB, w3.heap.size = xB := ⟨_, rfl⟩
      rw [hxB] at c2
      try rw [hxB]
      have HL3 := hide (below_box c3 HL2.out)
      have HA3 := hide (below_box c3 HA2.out)
      have HX3 := hide c2
      have HB3 := hide c1
      clear c1 c2 c3 hY hxB HB2 HL2 HA2
      by_cases hx0 : x = 0
      · subst hx0
        by_cases hm : m = 0
        · subst hm
          obtain ⟨f0, f1, f2, f3, f4, f5, u0, u1, u2, u3, u4, u5⟩ := six HL3.out
          obtain ⟨_, _, _, _, _, _, x0, x1, x2, x3, x4, x5⟩ := six HX3.out
          have HNI : Hid (NtI B W lB ⟨g0, g1, g2, g3, g4, g5⟩ (set6 Y lB (.int .i64 g0) (.int .i64 g1) (.int .i64 g2) (.int .i64 g3) (.int .i64 g4) (.bool g5))) := hide ⟨heap_set6 HL3.out _ _ _ _ _ _, HB3.out.trans ((only_set6 _ lB _ _ _ _ _ _).below (by have := box_lt HL3.out; have := HLB.out; omega) (fun i e => by have e' : i = lB := e; have := HLB.out; omega)), HLB.out⟩
          unfold set6 at HNI
          go_wp2
          go_round
          case rel => exact ⟨k + 1, ⟨g0, g1, g2, g3, g4, g5⟩, by omega, by first | rfl | go_num, HNI⟩
          case measure => simp [intOf]; omega
        · have hm1 : (m == 0) = false := ne_eqL hm
          have hm2 : (m != 0) = true := ne_neL hm
          have HF := hide (not_fact HG.out hm)
          simp only at HF
          clear hm
          obtain ⟨hh, hhh⟩ : ∃ hh, heldC ⟨l0, l1, l2, l3, l4, l5⟩ = hh := ⟨_, rfl⟩
          rw [hhh] at HF
          have HH := hide hhh
          clear hhh
          obtain ⟨_, _, _, _, _, _, u0, u1, u2, u3, u4, u5⟩ := six HL3.out
          go_wp2_with fail
          refine held_any.mono ?_
          rw [HH.out]
          rintro _ w4 ⟨rfl, b4⟩
          have HL4 := hide (below_box b4 HL3.out)
          have HA4 := hide (below_box b4 HA3.out)
          have HX4 := hide (below_box b4 HX3.out)
          have HB4 := hide (below_next HB3.out b4 (by have := box_lt HL3.out; have := HLB.out; omega))
          clear b4 HL3 HA3 HX3 HB3 u0 u1 u2 u3 u4 u5
          obtain ⟨a0, a1, a2, a3, a4, a5, a6⟩ := seven HA4.out
          obtain ⟨F1, F2, F3⟩ := HF.out
          have HF1 := hide F1
          have HF2 := hide F2
          have HF3 := hide F3
          clear F1 F2 F3 HF
          cases hh with
          | true =>
            by_cases h5 : g0 = l0
            · have r1 : (g0 == l0) = true := by simp [h5]
              have r2 : (g0 != l0) = false := by simp [h5]
              clear h5
              cases l5 with
              | true =>
                have k := HF2.out rfl
                have p1 : (g0 == l1) = true := by simp [k]
                have p2 : (g0 != l1) = false := by simp [k]
                clear k
                by_cases h4 : dd = 4
                · obtain ⟨k1, k2⟩ := HF3.out h4
                  have q1 : (l0 == dr) = true := by simp [k1]
                  have q2 : (l0 != dr) = false := by simp [k1]
                  have q3 : (g0 == dt) = true := by simp [k2]
                  have q4 : (g0 != dt) = false := by simp [k2]
                  clear k1 k2
                  subst h4
                  obtain ⟨f0, f1, f2, f3, f4, f5, u0, u1, u2, u3, u4, u5⟩ := six HL4.out
                  obtain ⟨_, _, _, _, _, _, x0, x1, x2, x3, x4, x5⟩ := six HX4.out
                  have HNI : Hid (NtI B W lB ⟨g0, g1, g2, g3, g4, g5⟩ (set6 w4 lB (.int .i64 g0) (.int .i64 g1) (.int .i64 g2) (.int .i64 g3) (.int .i64 g4) (.bool g5))) := hide ⟨heap_set6 HL4.out _ _ _ _ _ _, HB4.out.trans ((only_set6 _ lB _ _ _ _ _ _).below (by have := box_lt HL4.out; have := HLB.out; omega) (fun i e => by have e' : i = lB := e; have := HLB.out; omega)), HLB.out⟩
                  unfold set6 at HNI
                  go_wp2
                  go_round
                  case rel => exact ⟨k + 1, ⟨g0, g1, g2, g3, g4, g5⟩, by omega, by first | rfl | go_num, HNI⟩
                  case measure => simp [intOf]; omega
                · have q1 : (dd == 4) = false := ne_eqL h4
                  have q2 : (dd != 4) = true := ne_neL h4
                  clear h4
                  obtain ⟨f0, f1, f2, f3, f4, f5, u0, u1, u2, u3, u4, u5⟩ := six HL4.out
                  obtain ⟨_, _, _, _, _, _, x0, x1, x2, x3, x4, x5⟩ := six HX4.out
                  have HNI : Hid (NtI B W lB ⟨g0, g1, g2, g3, g4, g5⟩ (set6 w4 lB (.int .i64 g0) (.int .i64 g1) (.int .i64 g2) (.int .i64 g3) (.int .i64 g4) (.bool g5))) := hide ⟨heap_set6 HL4.out _ _ _ _ _ _, HB4.out.trans ((only_set6 _ lB _ _ _ _ _ _).below (by have := box_lt HL4.out; have := HLB.out; omega) (fun i e => by have e' : i = lB := e; have := HLB.out; omega)), HLB.out⟩
                  unfold set6 at HNI
                  go_wp2
                  go_round
                  case rel => exact ⟨k + 1, ⟨g0, g1, g2, g3, g4, g5⟩, by omega, by first | rfl | go_num, HNI⟩
                  case measure => simp [intOf]; omega
              | false =>
                by_cases h4 : dd = 4
                · obtain ⟨k1, k2⟩ := HF3.out h4
                  have q1 : (l0 == dr) = true := by simp [k1]
                  have q2 : (l0 != dr) = false := by simp [k1]
                  have q3 : (g0 == dt) = true := by simp [k2]
                  have q4 : (g0 != dt) = false := by simp [k2]
                  clear k1 k2
                  subst h4
                  obtain ⟨f0, f1, f2, f3, f4, f5, u0, u1, u2, u3, u4, u5⟩ := six HL4.out
                  obtain ⟨_, _, _, _, _, _, x0, x1, x2, x3, x4, x5⟩ := six HX4.out
                  have HNI : Hid (NtI B W lB ⟨g0, g1, g2, g3, g4, g5⟩ (set6 w4 lB (.int .i64 g0) (.int .i64 g1) (.int .i64 g2) (.int .i64 g3) (.int .i64 g4) (.bool g5))) := hide ⟨heap_set6 HL4.out _ _ _ _ _ _, HB4.out.trans ((only_set6 _ lB _ _ _ _ _ _).below (by have := box_lt HL4.out; have := HLB.out; omega) (fun i e => by have e' : i = lB := e; have := HLB.out; omega)), HLB.out⟩
                  unfold set6 at HNI
                  go_wp2
                  go_round
                  case rel => exact ⟨k + 1, ⟨g0, g1, g2, g3, g4, g5⟩, by omega, by first | rfl | go_num, HNI⟩
                  case measure => simp [intOf]; omega
                · have q1 : (dd == 4) = false := ne_eqL h4
                  have q2 : (dd != 4) = true := ne_neL h4
                  clear h4
                  obtain ⟨f0, f1, f2, f3, f4, f5, u0, u1, u2, u3, u4, u5⟩ := six HL4.out
                  obtain ⟨_, _, _, _, _, _, x0, x1, x2, x3, x4, x5⟩ := six HX4.out
                  have HNI : Hid (NtI B W lB ⟨g0, g1, g2, g3, g4, g5⟩ (set6 w4 lB (.int .i64 g0) (.int .i64 g1) (.int .i64 g2) (.int .i64 g3) (.int .i64 g4) (.bool g5))) := hide ⟨heap_set6 HL4.out _ _ _ _ _ _, HB4.out.trans ((only_set6 _ lB _ _ _ _ _ _).below (by have := box_lt HL4.out; have := HLB.out; omega) (fun i e => by have e' : i = lB := e; have := HLB.out; omega)), HLB.out⟩
                  unfold set6 at HNI
                  go_wp2
                  go_round
                  case rel => exact ⟨k + 1, ⟨g0, g1, g2, g3, g4, g5⟩, by omega, by first | rfl | go_num, HNI⟩
                  case measure => simp [intOf]; omega
            · have r1 : (g0 == l0) = false := ne_eqL h5
              have r2 : (g0 != l0) = true := ne_neL h5
              have h4 : dd = 4 := (HF1.out rfl).resolve_left h5
              clear h5
              cases l5 with
              | true =>
                have k := HF2.out rfl
                have p1 : (g0 == l1) = true := by simp [k]
                have p2 : (g0 != l1) = false := by simp [k]
                clear k
                obtain ⟨k1, k2⟩ := HF3.out h4
                have q1 : (l0 == dr) = true := by simp [k1]
                have q2 : (l0 != dr) = false := by simp [k1]
                have q3 : (g0 == dt) = true := by simp [k2]
                have q4 : (g0 != dt) = false := by simp [k2]
                clear k1 k2
                subst h4
                obtain ⟨f0, f1, f2, f3, f4, f5, u0, u1, u2, u3, u4, u5⟩ := six HL4.out
                obtain ⟨_, _, _, _, _, _, x0, x1, x2, x3, x4, x5⟩ := six HX4.out
                have HNI : Hid (NtI B W lB ⟨g0, g1, g2, g3, g4, g5⟩ (set6 w4 lB (.int .i64 g0) (.int .i64 g1) (.int .i64 g2) (.int .i64 g3) (.int .i64 g4) (.bool g5))) := hide ⟨heap_set6 HL4.out _ _ _ _ _ _, HB4.out.trans ((only_set6 _ lB _ _ _ _ _ _).below (by have := box_lt HL4.out; have := HLB.out; omega) (fun i e => by have e' : i = lB := e; have := HLB.out; omega)), HLB.out⟩
                unfold set6 at HNI
                go_wp2
                go_round
                case rel => exact ⟨k + 1, ⟨g0, g1, g2, g3, g4, g5⟩, by omega, by first | rfl | go_num, HNI⟩
                case measure => simp [intOf]; omega
              | false =>
                obtain ⟨k1, k2⟩ := HF3.out h4
                have q1 : (l0 == dr) = true := by simp [k1]
                have q2 : (l0 != dr) = false := by simp [k1]
                have q3 : (g0 == dt) = true := by simp [k2]
                have q4 : (g0 != dt) = false := by simp [k2]
                clear k1 k2
                subst h4
                obtain ⟨f0, f1, f2, f3, f4, f5, u0, u1, u2, u3, u4, u5⟩ := six HL4.out
                obtain ⟨_, _, _, _, _, _, x0, x1, x2, x3, x4, x5⟩ := six HX4.out
                have HNI : Hid (NtI B W lB ⟨g0, g1, g2, g3, g4, g5⟩ (set6 w4 lB (.int .i64 g0) (.int .i64 g1) (.int .i64 g2) (.int .i64 g3) (.int .i64 g4) (.bool g5))) := hide ⟨heap_set6 HL4.out _ _ _ _ _ _, HB4.out.trans ((only_set6 _ lB _ _ _ _ _ _).below (by have := box_lt HL4.out; have := HLB.out; omega) (fun i e => by have e' : i = lB := e; have := HLB.out; omega)), HLB.out⟩
                unfold set6 at HNI
                go_wp2
                go_round
                case rel => exact ⟨k + 1, ⟨g0, g1, g2, g3, g4, g5⟩, by omega, by first | rfl | go_num, HNI⟩
                case measure => simp [intOf]; omega
          | false =>
            cases l5 with
            | true =>
              have k := HF2.out rfl
              have p1 : (g0 == l1) = true := by simp [k]
              have p2 : (g0 != l1) = false := by simp [k]
              clear k
              by_cases h4 : dd = 4
              · obtain ⟨k1, k2⟩ := HF3.out h4
                have q1 : (l0 == dr) = true := by simp [k1]
                have q2 : (l0 != dr) = false := by simp [k1]
                have q3 : (g0 == dt) = true := by simp [k2]
                have q4 : (g0 != dt) = false := by simp [k2]
                clear k1 k2
                subst h4
                obtain ⟨f0, f1, f2, f3, f4, f5, u0, u1, u2, u3, u4, u5⟩ := six HL4.out
                obtain ⟨_, _, _, _, _, _, x0, x1, x2, x3, x4, x5⟩ := six HX4.out
                have HNI : Hid (NtI B W lB ⟨g0, g1, g2, g3, g4, g5⟩ (set6 w4 lB (.int .i64 g0) (.int .i64 g1) (.int .i64 g2) (.int .i64 g3) (.int .i64 g4) (.bool g5))) := hide ⟨heap_set6 HL4.out _ _ _ _ _ _, HB4.out.trans ((only_set6 _ lB _ _ _ _ _ _).below (by have := box_lt HL4.out; have := HLB.out; omega) (fun i e => by have e' : i = lB := e; have := HLB.out; omega)), HLB.out⟩
                unfold set6 at HNI
                go_wp2
                go_round
                case rel => exact ⟨k + 1, ⟨g0, g1, g2, g3, g4, g5⟩, by omega, by first | rfl | go_num, HNI⟩
                case measure => simp [intOf]; omega
              · have q1 : (dd == 4) = false := ne_eqL h4
                have q2 : (dd != 4) = true := ne_neL h4
                clear h4
                obtain ⟨f0, f1, f2, f3, f4, f5, u0, u1, u2, u3, u4, u5⟩ := six HL4.out
                obtain ⟨_, _, _, _, _, _, x0, x1, x2, x3, x4, x5⟩ := six HX4.out
                have HNI : Hid (NtI B W lB ⟨g0, g1, g2, g3, g4, g5⟩ (set6 w4 lB (.int .i64 g0) (.int .i64 g1) (.int .i64 g2) (.int .i64 g3) (.int .i64 g4) (.bool g5))) := hide ⟨heap_set6 HL4.out _ _ _ _ _ _, HB4.out.trans ((only_set6 _ lB _ _ _ _ _ _).below (by have := box_lt HL4.out; have := HLB.out; omega) (fun i e => by have e' : i = lB := e; have := HLB.out; omega)), HLB.out⟩
                unfold set6 at HNI
                go_wp2
                go_round
                case rel => exact ⟨k + 1, ⟨g0, g1, g2, g3, g4, g5⟩, by omega, by first | rfl | go_num, HNI⟩
                case measure => simp [intOf]; omega
            | false =>
              by_cases h4 : dd = 4
              · obtain ⟨k1, k2⟩ := HF3.out h4
                have q1 : (l0 == dr) = true := by simp [k1]
                have q2 : (l0 != dr) = false := by simp [k1]
                have q3 : (g0 == dt) = true := by simp [k2]
                have q4 : (g0 != dt) = false := by simp [k2]
                clear k1 k2
                subst h4
                obtain ⟨f0, f1, f2, f3, f4, f5, u0, u1, u2, u3, u4, u5⟩ := six HL4.out
                obtain ⟨_, _, _, _, _, _, x0, x1, x2, x3, x4, x5⟩ := six HX4.out
                have HNI : Hid (NtI B W lB ⟨g0, g1, g2, g3, g4, g5⟩ (set6 w4 lB (.int .i64 g0) (.int .i64 g1) (.int .i64 g2) (.int .i64 g3) (.int .i64 g4) (.bool g5))) := hide ⟨heap_set6 HL4.out _ _ _ _ _ _, HB4.out.trans ((only_set6 _ lB _ _ _ _ _ _).below (by have := box_lt HL4.out; have := HLB.out; omega) (fun i e => by have e' : i = lB := e; have := HLB.out; omega)), HLB.out⟩
                unfold set6 at HNI
                go_wp2
                go_round
                case rel => exact ⟨k + 1, ⟨g0, g1, g2, g3, g4, g5⟩, by omega, by first | rfl | go_num, HNI⟩
                case measure => simp [intOf]; omega
              · have q1 : (dd == 4) = false := ne_eqL h4
                have q2 : (dd != 4) = true := ne_neL h4
                clear h4
                obtain ⟨f0, f1, f2, f3, f4, f5, u0, u1, u2, u3, u4, u5⟩ := six HL4.out
                obtain ⟨_, _, _, _, _, _, x0, x1, x2, x3, x4, x5⟩ := six HX4.out
                have HNI : Hid (NtI B W lB ⟨g0, g1, g2, g3, g4, g5⟩ (set6 w4 lB (.int .i64 g0) (.int .i64 g1) (.int .i64 g2) (.int .i64 g3) (.int .i64 g4) (.bool g5))) := hide ⟨heap_set6 HL4.out _ _ _ _ _ _, HB4.out.trans ((only_set6 _ lB _ _ _ _ _ _).below (by have := box_lt HL4.out; have := HLB.out; omega) (fun i e => by have e' : i = lB := e; have := HLB.out; omega)), HLB.out⟩
                unfold set6 at HNI
                go_wp2
                go_round
                case rel => exact ⟨k + 1, ⟨g0, g1, g2, g3, g4, g5⟩, by omega, by first | rfl | go_num, HNI⟩
                case measure => simp [intOf]; omega
      · have hx1 : (x == 0) = false := ne_eqL hx0
        clear hx0
        obtain ⟨f0, f1, f2, f3, f4, f5, u0, u1, u2, u3, u4, u5⟩ := six HL3.out
        obtain ⟨_, _, _, _, _, _, x0, x1, x2, x3, x4, x5⟩ := six HX3.out
        have HNI : Hid (NtI B W lB ⟨g0, g1, g2, g3, g4, g5⟩ (set6 Y lB (.int .i64 g0) (.int .i64 g1) (.int .i64 g2) (.int .i64 g3) (.int .i64 g4) (.bool g5))) := hide ⟨heap_set6 HL3.out _ _ _ _ _ _, HB3.out.trans ((only_set6 _ lB _ _ _ _ _ _).below (by have := box_lt HL3.out; have := HLB.out; omega) (fun i e => by have e' : i = lB := e; have := HLB.out; omega)), HLB.out⟩
        unfold set6 at HNI
        go_wp2
        go_round
        case rel => exact ⟨k + 1, ⟨g0, g1, g2, g3, g4, g5⟩, by omega, by first | rfl | go_num, HNI⟩
        case measure => simp [intOf]; omega
    · obtain rfl : k = n := by omega
      have HBW := hide hbw
      clear HI hl hbw
      go_wp2
      go_ret
      exact ⟨rfl, HBW.out⟩
end Go.Proofs.Ythlkhjpobiohmaa
