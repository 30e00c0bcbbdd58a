/-
  New of the reference's sink; Same of two plain sinks that are the same. The conditions: that they lie there; lengths.
-/
import Derived.Test.YtboofnkajjnmeaaSky
import Derived.Test.YtboofnkajjnmeaaSkf
namespace Go.Proofs.Ytboofnkajjnmeaa
open Go.RowKit Go.Maps Go.Shelf

structure RP (B : Nat) (W : World) (b n : Nat) (q : QK) : Prop where
  box : W.heap[b]? = some (.cells #[.int .i64 (n : Int), .int .i64 q.reg, .slice q.op q.out.length q.oc, .slice q.vp q.vec.length q.vc, .slice q.dp q.done.length q.dc, .slice q.pp q.ts.length q.pc] 75 (0, 0))
  own : QO B W q
  ge : B ≤ b
theorem RP.later {B : Nat} {W W' : World} {b n : Nat} {q : QK} (h : RP B W b n q) (hb : Below W.heap.size W W') : RP B W' b n q := ⟨below_box hb h.box, h.own.later hb, h.ge⟩
set_option maxRecDepth 100000 in
theorem rnew_ok {W : World} {n : Nat} (h1 : 1 ≤ n) (h2 : n ≤ 4) : Calls Try.prog 10 #[.int .i64 (n : Int)] W fun e w' => ∃ (b : Nat) (q : QK), e = .returned (.tuple #[.pointer (some ⟨b, 0, none⟩), .int .i64 0]) ∧ RP W.heap.size w' b n q ∧ q.sk = newS n ∧ Below W.heap.size W w' := by
  obtain ⟨ia, hia, his, hmk⟩ := make_nums h2
  have hm1 := hmk W
  have e1 : decide ((n : Int) < 1) = false := decide_eq_false (by omega)
  have e2 : decide ((n : Int) > 4) = false := decide_eq_false (by omega)
  clear hmk
  go_enter Try.func10, Try.ntmps10
  go_wp2
  go_ret2
  have hl : (List.replicate n (0 : Int)).length = n := by simp
  have b1 := alloc_below W (.cells ia 2 (0, 0))
  have hr : (W.alloc (.cells ia 2 (0, 0))).ownsRow W.heap.size 2 1 (.slice (some ⟨W.heap.size, 0, none⟩) n n) n ((List.replicate n (0 : Int)).flatMap intCells) := by
    rw [← hia]
    exact ⟨by simp [his], .inr ⟨W.heap.size, n, ia, rfl, Nat.le_refl _, heap_alloc_new W _, Nat.le_refl _, by unfold maxLen; omega, by simp [his], by rw [Nat.mul_one, List.take_of_length_le (by simp [his])]⟩⟩
  have b2 := alloc_below (W.alloc (.cells ia 2 (0, 0))) (.cells #[.int .i64 (n : Int), .int .i64 0, .slice none 0 0, .slice (some ⟨W.heap.size, 0, none⟩) n n, .slice none 0 0, .slice none 0 0] 75 (0, 0))
  refine ⟨W.heap.size + 1, ⟨none, 0, some ⟨W.heap.size, 0, none⟩, n, none, 0, none, 0, 0, [], List.replicate n 0, [], []⟩, rfl, ⟨?_, ⟨World.ownsRow_nil _ _ _ _, ?_, World.ownsRow_nil _ _ _ _, World.ownsRow_nil _ _ _ _, fun x hx => by simp at hx⟩, by omega⟩, rfl, b1.trans (b2.mono b1.size)⟩
  · have hx := heap_alloc_new (W.alloc (.cells ia 2 (0, 0))) (.cells #[.int .i64 (n : Int), .int .i64 0, .slice none 0 0, .slice (some ⟨W.heap.size, 0, none⟩) n n, .slice none 0 0, .slice none 0 0] 75 (0, 0))
    rw [World.size_alloc] at hx
    rw [hl]
    exact hx
  · rw [hl]
    exact ownsRow_later hr b2

structure QV (W : World) (q : QK) : Prop where
  out : RRow W q.op q.oc q.out
  vec : NRow W q.vp q.vc q.vec
  done : NRow W q.dp q.dc q.done
  pre : LRow TP.cells 5 W q.pp q.pc q.ts
  ts : ∀ x ∈ q.ts, x.ok W
theorem QO.vis {B : Nat} {W : World} {q : QK} (h : QO B W q) : QV W q := ⟨RRow.of_own rfl h.out, NRow.of_own rfl h.vec, NRow.of_own rfl h.done, LRow.of_own TP.len rfl h.pre, fun x hx => (h.ts x hx).ok⟩
theorem QV.later {W W' : World} {q : QK} (h : QV W q) (hb : Below W.heap.size W W') : QV W' q :=
  ⟨h.out.later hb, h.vec.later hb, h.done.later hb, h.pre.below TP.len hb, fun x hx => (h.ts x hx).later hb⟩
theorem QV.tl {W : World} {q : QK} (h : QV W q) : TL W q.pp q.pc q.ts := ⟨h.pre, h.ts⟩
set_option maxRecDepth 100000 in
set_option maxHeartbeats 4000000 in
theorem rsame_yes {W : World} {q1 q2 : QK} (h1 : QV W q1) (h2 : QV W q2) (he : q1.sk = q2.sk) :
    Calls Try.prog 25 #[.agg q1.row, .agg q2.row] W fun e w' => e = .returned (.bool true) ∧ Below W.heap.size W w' := by
  have HE : Hid (q1.reg = q2.reg ∧ q1.out = q2.out ∧ q1.vec = q2.vec ∧ q1.done = q2.done ∧ q1.ts.map TP.t = q2.ts.map TP.t) := hide (by
    unfold QK.sk at he
    simpa using he)
  have HTL : Hid (q1.ts.length = q2.ts.length) := hide (by simpa using congrArg List.length HE.out.2.2.2.2)
  have HQ1 := hide h1
  have HQ2 := hide h2
  have d0 : (q1.reg != q2.reg) = false := by rw [HE.out.1]; simp
  have d4 : ((q1.ts.length : Int) != (q2.ts.length : Int)) = false := by rw [HTL.out]; simp
  have i1 : q1.ts.length ≤ q1.pc := h1.pre.le
  have i2 : q1.pc ≤ 9223372036854775807 := h1.pre.top
  clear h1 h2 he
  unfold QK.row
  obtain ⟨V, hV⟩ : ∃ V, V = W.alloc (.cells #[.int .i64 q1.reg, .slice q1.op q1.out.length q1.oc, .slice q1.vp q1.vec.length q1.vc, .slice q1.dp q1.done.length q1.dc, .slice q1.pp q1.ts.length q1.pc] 43 (0, 0)) := ⟨_, rfl⟩
  have HA : Hid (V.heap[W.heap.size]? = some (.cells #[.int .i64 q1.reg, .slice q1.op q1.out.length q1.oc, .slice q1.vp q1.vec.length q1.vc, .slice q1.dp q1.done.length q1.dc, .slice q1.pp q1.ts.length q1.pc] 43 (0, 0))) := hide (by rw [hV]; exact heap_alloc_new W _)
  have HBA : Hid (Below W.heap.size W V) := hide (by rw [hV]; exact alloc_below _ _)
  obtain ⟨bA, hbA⟩ : ∃ bA, W.heap.size = bA := ⟨_, rfl⟩
  rw [hbA] at HA HBA
  have HZbA := hide hbA
  obtain ⟨Z, hZ⟩ : ∃ Z, Z = V.alloc (.cells #[.int .i64 q2.reg, .slice q2.op q2.out.length q2.oc, .slice q2.vp q2.vec.length q2.vc, .slice q2.dp q2.done.length q2.dc, .slice q2.pp q2.ts.length q2.pc] 43 (0, 0)) := ⟨_, rfl⟩
  have HB : Hid (Z.heap[V.heap.size]? = some (.cells #[.int .i64 q2.reg, .slice q2.op q2.out.length q2.oc, .slice q2.vp q2.vec.length q2.vc, .slice q2.dp q2.done.length q2.dc, .slice q2.pp q2.ts.length q2.pc] 43 (0, 0))) := hide (by rw [hZ]; exact heap_alloc_new V _)
  have HBB : Hid (Below V.heap.size V Z) := hide (by rw [hZ]; exact alloc_below _ _)
  obtain ⟨bB, hbB⟩ : ∃ bB, V.heap.size = bB := ⟨_, rfl⟩
  rw [hbB] at HB HBB
  have HZbB := hide hbB
  have hbb : bB = bA + 1 := by rw [← hbB, hV]; simp; exact HZbA.out
  rw [hbb] at HB HBB HZbB hbB
  have HA0 := hide (below_box (by rw [hZ]; exact alloc_below _ _) HA.out : Z.heap[bA]? = _)
  have HW0 : Hid (Below W.heap.size W Z) := hide (by rw [hZ, hV]; exact (alloc_below _ _).trans ((alloc_below _ _).mono (by simp)))
  have HB0 := HB
  go_enter Try.func25, Try.ntmps25
  go_upto_region 1 with fail
  rw [← hV]
  try rw [hbA]
  rw [← hZ]
  try rw [hbB]
  clear hV hbA hZ hbB hbb HA HB HBA HBB
  have a0 := cellB HA0.out (i := 0) rfl
  have b0 := cellB HB0.out (i := 0) rfl
  have a1 := cellB HA0.out (i := 1) rfl
  have b1 := cellB HB0.out (i := 1) rfl
  have a2 := cellB HA0.out (i := 2) rfl
  have b2 := cellB HB0.out (i := 2) rfl
  have a3 := cellB HA0.out (i := 3) rfl
  have b3 := cellB HB0.out (i := 3) rfl
  have a4 := cellB HA0.out (i := 4) rfl
  have b4 := cellB HB0.out (i := 4) rfl
  go_wp2_with fail
  refine (samerec_all (HQ1.out.out.later HW0.out) (HQ2.out.out.later HW0.out) rfl rfl (decide_eq_true HE.out.2.1)).mono ?_
  rintro _ w1 ⟨rfl, bb0⟩
  have HA1 := hide (below_box bb0 HA0.out)
  have HB1 := hide (below_box bb0 HB0.out)
  have HW1 : Hid (Below W.heap.size W w1) := hide (HW0.out.trans (bb0.mono HW0.out.size))
  clear bb0 a0 b0 a1 b1 a2 b2 a3 b3 a4 b4 HA0 HB0
  have a0 := cellB HA1.out (i := 0) rfl
  have b0 := cellB HB1.out (i := 0) rfl
  have a1 := cellB HA1.out (i := 1) rfl
  have b1 := cellB HB1.out (i := 1) rfl
  have a2 := cellB HA1.out (i := 2) rfl
  have b2 := cellB HB1.out (i := 2) rfl
  have a3 := cellB HA1.out (i := 3) rfl
  have b3 := cellB HB1.out (i := 3) rfl
  have a4 := cellB HA1.out (i := 4) rfl
  have b4 := cellB HB1.out (i := 4) rfl
  go_wp2_with fail
  refine (sameint_all (HQ1.out.vec.later HW1.out) (HQ2.out.vec.later HW1.out) rfl rfl (decide_eq_true HE.out.2.2.1)).mono ?_
  rintro _ w2 ⟨rfl, bb0⟩
  have HA2 := hide (below_box bb0 HA1.out)
  have HB2 := hide (below_box bb0 HB1.out)
  have HW2 : Hid (Below W.heap.size W w2) := hide (HW1.out.trans (bb0.mono HW1.out.size))
  clear bb0 a0 b0 a1 b1 a2 b2 a3 b3 a4 b4 HA1 HB1
  have a0 := cellB HA2.out (i := 0) rfl
  have b0 := cellB HB2.out (i := 0) rfl
  have a1 := cellB HA2.out (i := 1) rfl
  have b1 := cellB HB2.out (i := 1) rfl
  have a2 := cellB HA2.out (i := 2) rfl
  have b2 := cellB HB2.out (i := 2) rfl
  have a3 := cellB HA2.out (i := 3) rfl
  have b3 := cellB HB2.out (i := 3) rfl
  have a4 := cellB HA2.out (i := 4) rfl
  have b4 := cellB HB2.out (i := 4) rfl
  go_wp2_with fail
  refine (sameint_all (HQ1.out.done.later HW2.out) (HQ2.out.done.later HW2.out) rfl rfl (decide_eq_true HE.out.2.2.2.1)).mono ?_
  rintro _ w3 ⟨rfl, bb0⟩
  have HA3 := hide (below_box bb0 HA2.out)
  have HB3 := hide (below_box bb0 HB2.out)
  have HW3 : Hid (Below W.heap.size W w3) := hide (HW2.out.trans (bb0.mono HW2.out.size))
  clear bb0 a0 b0 a1 b1 a2 b2 a3 b3 a4 b4 HA2 HB2
  have a0 := cellB HA3.out (i := 0) rfl
  have b0 := cellB HB3.out (i := 0) rfl
  have a1 := cellB HA3.out (i := 1) rfl
  have b1 := cellB HB3.out (i := 1) rfl
  have a2 := cellB HA3.out (i := 2) rfl
  have b2 := cellB HB3.out (i := 2) rfl
  have a3 := cellB HA3.out (i := 3) rfl
  have b3 := cellB HB3.out (i := 3) rfl
  have a4 := cellB HA3.out (i := 4) rfl
  have b4 := cellB HB3.out (i := 4) rfl
  go_wp2_with fail
  obtain ⟨n, hn⟩ : ∃ n, q1.ts.length = n := ⟨_, rfl⟩
  have HN := hide hn
  go_loopw [5] (fun i wr => ∃ j : Nat, j ≤ n ∧ i = .int .i64 (j : Int) ∧ Hid (Below w3.heap.size w3 wr)) (fun i _ => n - (intOf i).toNat)
  case atStart => exact ⟨0, Nat.zero_le _, rfl, hide (Below.refl _ _)⟩
  case round =>
    obtain ⟨j, hj, rfl, HBR⟩ := hrel
    rename World => wr
    have a4 := cellB (below_box HBR.out HA3.out) (i := 4) rfl
    have b4 := cellB (below_box HBR.out HB3.out) (i := 4) rfl
    by_cases hlt : j < n
    · have hl1 : j < q1.ts.length := by rw [HN.out]; exact hlt
      have hl2 : j < q2.ts.length := by rw [← HTL.out, HN.out]; exact hlt
      obtain ⟨x, hx⟩ : ∃ x, q1.ts[j]! = x := ⟨_, rfl⟩
      obtain ⟨y, hy⟩ : ∃ y, q2.ts[j]! = y := ⟨_, rfl⟩
      have HXY : Hid (x.t = y.t) := hide (by
        have h9 := congrArg (fun l : List TX => l[j]?) HE.out.2.2.2.2
        simp only [List.getElem?_map] at h9
        rw [List.getElem?_eq_getElem hl1, List.getElem?_eq_getElem hl2] at h9
        rw [← hx, ← hy, getElem!_pos q1.ts j hl1, getElem!_pos q2.ts j hl2]
        simpa using h9)
      have HWR : Hid (Below W.heap.size W wr) := hide (HW3.out.trans (HBR.out.mono HW3.out.size))
      have le1 : q2.ts.length ≤ q2.pc := HQ2.out.pre.le
      have le2 : q2.pc ≤ 9223372036854775807 := HQ2.out.pre.top
      obtain ⟨g1, o1, hp1, c0, c1, c2, c3, c4, hk1⟩ := TL.at (HQ1.out.later HWR.out).tl hl1 hx
      obtain ⟨g2, o2, hp2, f0, f1, f2, f3, f4, hk2⟩ := TL.at (HQ2.out.later HWR.out).tl hl2 hy
      rw [hp1] at a4
      rw [hp2] at b4
      have HK1 := hide hk1
      have HK2 := hide hk2
      clear hx hy hk1 hk2 hp1 hp2
      go_upto_region 6 with fail
      refine region_class (fun X => Below wr.heap.size wr X) (by kernel_rfl) (by kernel_rfl) (Below.refl _ wr).drew ?_
      repeat
        first
          | (refine BigFrame.wpQuiet_skip (by rfl) ?_
             simp only [Act.put, List.setIfInBounds_toArray, List.set_cons_zero, List.set_cons_succ])
          | (refine BigFrame.wpQuiet_want (by rfl) (fun K hK => ?_)
             unfold Oper.quiet
             apply Exists.intro
             refine ⟨fun X hX => ?_, hK _ ?_⟩
             · have l1 := cell_later hX a4
               have l2 := cell_later hX b4
               have m0 := cell_later hX c0
               have n0 := cell_later hX f0
               have m1 := cell_later hX c1
               have n1 := cell_later hX f1
               have m2 := cell_later hX c2
               have n2 := cell_later hX f2
               have m3 := cell_later hX c3
               have n3 := cell_later hX f3
               have m4 := cell_later hX c4
               have n4 := cell_later hX f4
               first
                | (go_simp; done)
                | (go_simp; exact rfl)
                | (go_simp
                   first
                   | (go_at_call 32; refine (rsametxn_all (HK1.out.later hX).r (HK1.out.later hX).v (HK2.out.later hX).r (HK2.out.later hX).v rfl rfl rfl rfl (decide_eq_true HXY.out)).mono ?_; rintro e w3 ⟨rfl, hb3⟩; exact ⟨rfl, hX.trans (hb3.mono hX.size)⟩)
                  )
             clear hK K
             simp only [Act.put, List.setIfInBounds_toArray, List.set_cons_zero, List.set_cons_succ])
      refine wpQuiet_nil (fun X hX => ?_)
      have HX9 : Hid (Below w3.heap.size w3 X) := hide (HBR.out.trans (hX.mono HBR.out.size))
      clear hX a4 b4 c0 c1 c2 c3 c4 f0 f1 f2 f3 f4
      go_wp2
      exact ⟨⟨j + 1, hlt, by first | rfl | go_num, HX9⟩, by simp [intOf]; omega⟩
    · obtain rfl : j = n := by omega
      go_wp2
      go_ret
      exact ⟨rfl, HW3.out.trans (HBR.out.mono HW3.out.size)⟩
end Go.Proofs.Ytboofnkajjnmeaa
