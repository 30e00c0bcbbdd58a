/-
  Parse of the reference. The conditions: lengths.
-/
import Derived.Test.YtdngjpbefcbodaaGpa
namespace Go.Proofs.Ytdngjpbefcbodaa
open Go.RowKit

theorem row_lt {k : IntKind} {w : World} {v : Value} {l : List Int} (h : Row k w v l) : ∀ b, 0 < l.length → v.ownBlock = some b → b < w.heap.size := by
  intro b hp hb
  obtain ⟨p, cap, rfl, _, _, _, h4⟩ := h
  obtain ⟨b', o, rfl, hc⟩ := h4 hp
  obtain ⟨ob, hob, _⟩ := cells_of_cell (hc 0 hp)
  simp [Value.ownBlock] at hb
  subst hb
  exact (Array.getElem?_eq_some_iff.1 hob).1
set_option maxHeartbeats 400000 in
theorem ropen_any {w : World} {v : Value} {l : List Int} (h : Row .u8 w v l) (hu : U8 l) :
    Calls Try.prog 26 #[v] w fun r w' => r = .returned (.pointer (some ⟨w.heap.size, 0, none⟩)) ∧ RUnp (fun k => w.heap.size ≤ k) w' w.heap.size v l 0 ∧ w' = w.alloc (.cells #[v, .int .i64 0] 60) := by
  have H := hide h
  have HT := hide (row_lt h)
  obtain ⟨p, cap, rfl, g1, g2, g3, g4⟩ := h
  clear g3 g4
  go_enter Try.func26, Try.ntmps26
  go_wp2
  go_ret
  refine ⟨rfl, ⟨heap_alloc_new w _, H.out.below (alloc_below _ _), fun hp => ⟨fun hk => ?_, fun k hk e => ?_⟩, hu, fun h => absurd rfl h⟩, rfl⟩
  · have := HT.out _ hp hk; omega
  · have := HT.out _ hp hk; omega
theorem RUnp.turnC {F : Nat → Prop} {B : Nat} {W w' : World} {bu : Nat} {v : Value} {l : List Int} {e : Int} (h : RUnp (fun k => B ≤ k) W bu v l e) (ho : Only F W w') (hF : ∀ i, F i → B ≤ i) (hb : ¬ F bu) : RUnp (fun k => B ≤ k) w' bu v l e := by
  refine ⟨ho.obj h.block hb, ?_, h.apart, h.u8, h.err⟩
  obtain ⟨q, cq, hq, r1, r2, r3, r4⟩ := h.row
  refine ⟨q, cq, hq, r1, r2, r3, fun hp => ?_⟩
  obtain ⟨bb, oo, hqq, hcc⟩ := r4 hp
  refine ⟨bb, oo, hqq, fun j hj => ho.cell (hcc j hj) (fun e => ?_)⟩
  have hap := (h.apart (by omega)).2 bb (by rw [hq, hqq]; rfl)
  exact hap (hF _ e)
theorem rAny_any {W : World} {bu : Nat} {bx : Nat → Prop} {v : Value} {l l1 : List Int} {e e1 n : Int} (h : RUnp bx W bu v l e) (hr : anyR l e = (n, l1, e1)) :
    Calls Try.prog 27 #[.pointer (some ⟨bu, 0, none⟩)] W fun r w' => r = .returned (.int .i64 n) ∧ W.grownBy w' (some bu) ∧ ∃ p cap, RUnp bx w' bu (.slice p l1.length cap) l1 e1 := by
  have HC := hide (ruint_at h hr)
  clear h hr
  go_enter Try.func27, Try.ntmps27
  go_wp2_with fail
  refine HC.out.mono ?_
  rintro _ w1 ⟨rfl, g1, p1, c1, U1⟩
  have HG := hide g1
  have HU := hide U1
  clear g1 U1
  go_wp2
  go_ret
  exact ⟨rfl, HG.out, p1, c1, HU.out⟩

set_option maxRecDepth 100000 in
set_option maxHeartbeats 8000000 in
theorem rparse_any {W : World} {v : Value} {b : List Int} (hb : Row .u8 W v b) (hu : U8 b) {rp : Int} {ros : List GO} {rc : Int} (hr : parseG b = (rp, ros, rc)) :
    Calls Try.prog 9 #[v] W fun e w' => ∃ p' c' xs N, e = .returned (.tuple #[.agg #[.int .i64 rp, .slice p' N c'], .int .i64 rc]) ∧ xs.length = N ∧ xs.map OV.o = ros ∧ GOwn w' W.heap.size p' c' xs ∧ Below W.heap.size W w' := by
  obtain ⟨i0, hI0, hz0, hz1, hz2⟩ := info_parts Try.infoEdge
  obtain ⟨j0, hJ0, hy0, hy1, hy2⟩ := info_parts Try.infoOp
  obtain ⟨parts, l1, e1, h1⟩ : ∃ a q s, anyR b 0 = (a, q, s) := ⟨_, _, _, rfl⟩
  obtain ⟨cn, l2, e2, h2⟩ : ∃ a q s, cntR l1 e1 = (a, q, s) := ⟨_, _, _, rfl⟩
  obtain ⟨n, hn⟩ : ∃ m : Nat, cn = (m : Int) := ⟨cn.toNat, by have := cnt_bd l1 e1; rw [h2] at this; simp only at this; omega⟩
  subst hn
  have hn1 : n ≤ 1024 := by have := cnt_bd l1 e1; rw [h2] at this; simp only at this; omega
  obtain ⟨os, l3, e3, h3⟩ : ∃ a q s, loopG opR n l2 e2 = (a, q, s) := ⟨_, _, _, rfl⟩
  rw [parseG_eq h1 ((opsR_eq h2).trans h3)] at hr
  have HG0 := hide (Goes.start h3)
  have HHR := hide hr
  have hb0 := alloc_below W (.cells #[.int .i64 0, .slice none 0 0] 24 (0, 0))
  have hvr : (W.alloc (.cells #[.int .i64 0, .slice none 0 0] 24 (0, 0))).heap[W.heap.size]? = some (.cells #[.int .i64 0, .slice none 0 0] 24 (0, 0)) := heap_alloc_new W _
  obtain ⟨V, hV⟩ : ∃ V, V = W.alloc (.cells #[.int .i64 0, .slice none 0 0] 24 (0, 0)) := ⟨_, rfl⟩
  rw [← hV] at hb0 hvr
  have HVB := hide hb0
  have HOP := hide (ropen_any (hb.below hb0) hu)
  obtain ⟨pb, cb, rfl, i1, i2, _, _⟩ := id hb
  obtain ⟨rb, hgB⟩ : ∃ gB, W.heap.size = gB := ⟨_, rfl⟩
  rw [hgB] at hvr
  have HGB := hide hgB
  have hgV : rb < V.heap.size := (Array.getElem?_eq_some_iff.1 hvr).1
  have HH1 := hide h1
  have HH2 := hide h2
  clear hb hb0 hr h1 h2 h3
  go_enter Try.func9, Try.ntmps9
  go_wp2_with fail
  rw [← hV]
  try rw [hgB]
  clear hV hgB
  refine HOP.out.mono ?_
  rintro _ w1 ⟨rfl, U1, hw1⟩
  have B1 : Below V.heap.size V w1 := by rw [hw1]; exact alloc_below V _
  have hs1 : w1.heap.size = V.heap.size + 1 := by rw [hw1]; simp
  obtain ⟨B, hB⟩ : ∃ B, V.heap.size = B := ⟨_, rfl⟩
  rw [hB] at U1 hs1 hgV ⊢
  obtain ⟨bu, hbu⟩ : ∃ bu, bu = B := ⟨_, rfl⟩
  have U2 : RUnp (fun k => B ≤ k) w1 bu (.slice pb b.length cb) b 0 := by rw [hbu]; exact U1
  rw [← hbu]
  have hbu1 : bu ≤ B := Nat.le_of_eq hbu
  have hbu2 : B ≤ bu := Nat.le_of_eq hbu.symm
  clear hbu
  have o1 := below_box B1 hvr
  have HB1 := hide (HVB.out.trans (B1.mono HVB.out.size))
  have hWu : W.heap.size ≤ bu := by have := HGB.out; omega
  have hnr : bu ≠ rb := by omega
  have HRI := hide (rAny_any U2 HH1.out)
  have HWB : Hid (W.heap.size ≤ B) := hide (by omega)
  clear U1 U2 B1 HOP hvr HH1 hw1 hB
  go_wp2_with fail
  refine HRI.out.mono ?_
  rintro _ w2 ⟨rfl, g2, p2, c2, U2⟩
  have N2 := only_grown g2
  have o2 := N2.obj o1 (fun e => hnr e.symm)
  have HB2 : Hid (Below W.heap.size W w2) := hide (HB1.out.trans (N2.below HB1.out.size (fun i e => by have e' : i = bu := e; omega)))
  have HS2 : Hid (B < w2.heap.size) := hide (by have := N2.size; omega)
  have hb3 := alloc_below w2 (.cells #[.int .i64 parts, .slice none 0 0] 24 (0, 0))
  have hbx : (w2.alloc (.cells #[.int .i64 parts, .slice none 0 0] 24 (0, 0))).heap[w2.heap.size]? = some (.cells #[.int .i64 parts, .slice none 0 0] 24 (0, 0)) := heap_alloc_new w2 _
  obtain ⟨w3, hw3⟩ : ∃ w3, w3 = w2.alloc (.cells #[.int .i64 parts, .slice none 0 0] 24 (0, 0)) := ⟨_, rfl⟩
  rw [← hw3] at hb3 hbx
  have HUI := hide (ruint_at (U2.below hb3) HH2.out)
  have o3 := below_box hb3 o2
  have HB3 := hide (HB2.out.trans (hb3.mono HB2.out.size))
  obtain ⟨ob, hxB⟩ : ∃ xB, w2.heap.size = xB := ⟨_, rfl⟩
  rw [hxB] at hbx
  have hobB : B < ob := by have := HS2.out; omega
  have hne : bu ≠ ob := by omega
  have hro : rb ≠ ob := by
    have := (Array.getElem?_eq_some_iff.1 o2).1
    omega
  have HS3 : Hid (B < w3.heap.size) := hide (Nat.lt_of_lt_of_le HS2.out hb3.size)
  clear g2 N2 U2 o1 o2 hb3 HRI HB1 HB2 HS2 HH2 hs1
  go_wp2_with fail
  rw [← hw3]
  try rw [hxB]
  clear hw3 hxB
  refine HUI.out.mono ?_
  rintro _ w4 ⟨rfl, g4, p4, c4, U4⟩
  have N4 := only_grown g4
  have HB4 : Hid (Below W.heap.size W w4) := hide (HB3.out.trans (N4.below HB3.out.size (fun i e => by have e' : i = bu := e; omega)))
  have HS4 : Hid (B < w4.heap.size) := hide (Nat.lt_of_lt_of_le HS3.out N4.size)
  have HBX4 := hide (N4.obj hbx (fun e => hne e.symm))
  have HRX4 := hide (N4.obj o3 (fun e => hnr e.symm))
  have HU4 := hide U4
  clear g4 N4 U4 hbx o3 HUI HB3 HS3
  go_wp2_with fail
  go_loopw [7] (fun s wr => ∃ (i m : Nat) (acc : List OV) (l : List Int) (e : Int) (p1 : Option Addr) (c1 : Nat) (pv : Option Addr) (cv : Nat), i ≤ n ∧ s = .int .i64 (i : Int) ∧ m ≤ i ∧ Hid (acc.length = m) ∧ Hid (RUnp (fun k => B ≤ k) wr bu (.slice pv l.length cv) l e) ∧ Hid (wr.ownsRow (B + 1) 38 5 (.slice p1 m c1) m (acc.flatMap OV.cells)) ∧ Hid (∀ x ∈ acc, wr.ownsRow (B + 1) 40 2 (.slice x.ip x.o.ins.length x.ic) x.o.ins.length (x.o.ins.flatMap GE.cells)) ∧ Hid (wr.heap[ob]? = some (.cells #[.int .i64 parts, .slice p1 m c1] 24 (0, 0))) ∧ Hid (wr.heap[rb]? = some (.cells #[.int .i64 0, .slice none 0 0] 24 (0, 0))) ∧ Hid (Goes opR (n - i) (acc.map OV.o) l e os l3 e3) ∧ Hid (Below W.heap.size W wr) ∧ Hid (B < wr.heap.size)) (fun s _ => n - (intOf s).toNat)
  case atStart => exact ⟨0, 0, [], l2, e2, none, 0, p4, c4, Nat.zero_le _, rfl, Nat.le_refl _, hide rfl, HU4, hide (World.ownsRow_nil _ _ _ _), hide (fun x hx => absurd hx (by simp)), HBX4, HRX4, HG0, HB4, HS4⟩
  case round =>
    obtain ⟨i, m, acc, l, e, p1, c1, pw, cw, hi, rfl, hm, HAL, HU, HOW, HIN, HBX, HRX, HG, HON, HVS⟩ := hrel
    clear HU4 HBX4 HRX4 HG0 HB4 HS4
    rename World => wr
    by_cases hlt : i < n
    · by_cases he : e = 0
      · subst he
        obtain ⟨kk, a1, s1, ha1⟩ : ∃ a q s, anyR l 0 = (a, q, s) := ⟨_, _, _, rfl⟩
        obtain ⟨pp, a2, s2, ha2⟩ : ∃ a q s, anyR a1 s1 = (a, q, s) := ⟨_, _, _, rfl⟩
        obtain ⟨ff, a3, s3, ha3⟩ : ∃ a q s, anyR a2 s2 = (a, q, s) := ⟨_, _, _, rfl⟩
        obtain ⟨aa, a4, s4, ha4⟩ : ∃ a q s, anyR a3 s3 = (a, q, s) := ⟨_, _, _, rfl⟩
        obtain ⟨cn, a5, s5, ha5⟩ : ∃ a q s, cntR a4 s4 = (a, q, s) := ⟨_, _, _, rfl⟩
        obtain ⟨n2, hn2⟩ : ∃ m : Nat, cn = (m : Int) := ⟨cn.toNat, by have := cnt_bd a4 s4; rw [ha5] at this; simp only at this; omega⟩
        subst hn2
        have hn3 : n2 ≤ 1024 := by have := cnt_bd a4 s4; rw [ha5] at this; simp only at this; omega
        obtain ⟨ins, lf, ef, ha6⟩ : ∃ a q s, loopG edgeR n2 a5 s5 = (a, q, s) := ⟨_, _, _, rfl⟩
        have HGN0 : Hid (Goes opR (n - (i + 1)) (acc.map OV.o ++ [⟨kk, pp, ff, aa, ins⟩]) lf ef os l3 e3) := by
          have h := HG.out
          rw [show n - i = n - (i + 1) + 1 by omega] at h
          exact hide (h.next (opR_eq ha1 ha2 ha3 ha4 ((insR_eq ha5).trans ha6)))
        have HG6 := hide (Goes.start ha6)
        have hu1 := HU.out.c1
        have dd : decide ((i : Int) < (n : Int)) = true := decide_eq_true (by omega)
        have HC1 := hide (rAny_any HU.out ha1)
        have HA2 := hide ha2
        have HA3 := hide ha3
        have HA4 := hide ha4
        have HA5 := hide ha5
        clear ha1 ha2 ha3 ha4 ha5 ha6 HG HU
        go_wp2_with fail
        refine HC1.out.mono ?_
        rintro _ x1 ⟨rfl, g1, pa, ca, U1⟩
        have N1 := only_grown g1
        have b1 := alloc_below x1 (.cells #[.int .i64 kk, .int .i64 0, .int .i64 0, .int .i64 0, .slice none 0 0] 38 (0, 0))
        have v1 : (x1.alloc (.cells #[.int .i64 kk, .int .i64 0, .int .i64 0, .int .i64 0, .slice none 0 0] 38 (0, 0))).heap[x1.heap.size]? = some (.cells #[.int .i64 kk, .int .i64 0, .int .i64 0, .int .i64 0, .slice none 0 0] 38 (0, 0)) := heap_alloc_new x1 _
        obtain ⟨y1, hy1'⟩ : ∃ y1, y1 = x1.alloc (.cells #[.int .i64 kk, .int .i64 0, .int .i64 0, .int .i64 0, .slice none 0 0] 38 (0, 0)) := ⟨_, rfl⟩
        rw [← hy1'] at b1 v1
        have HC2 := hide (rAny_any (U1.below b1) HA2.out)
        have HN1 : Hid (Only (· = bu) wr y1) := hide (N1.trans (Only.fresh b1 _))
        obtain ⟨xb, hxb⟩ : ∃ xb, x1.heap.size = xb := ⟨_, rfl⟩
        rw [hxb] at v1
        have HXW : Hid (wr.heap.size ≤ xb) := hide (by have := N1.size; omega)
        have hxB2 : B < xb := by have := HVS.out; have := HXW.out; omega
        have hxbu : bu ≠ xb := by omega
        clear g1 N1 U1 b1 HC1 HA2 hu1 dd
        go_wp2_with fail
        rw [← hy1']
        try rw [hxb]
        clear hy1' hxb
        refine HC2.out.mono ?_
        rintro _ x2 ⟨rfl, g2, pa2, ca2, U2⟩
        have N2 := only_grown g2
        have u2 := N2.obj v1 (fun e => hxbu e.symm)
        have f1a : x2.cell? ⟨xb, 1, none⟩ = some (.int .i64 0) := by simp [World.cell?, u2]
        have f1b : x2.frozen? ⟨xb, 1, none⟩ = false := by simp [World.frozen?, u2]
        have v2 : (x2.setCell ⟨xb, 1, none⟩ (.int .i64 pp)).heap[xb]? = some (.cells #[.int .i64 kk, .int .i64 pp, .int .i64 0, .int .i64 0, .slice none 0 0] 38 (0, 0)) := heap_setCell_same x2 xb 1 _ _ _ u2
        obtain ⟨y2, hyy2⟩ : ∃ y, y = x2.setCell ⟨xb, 1, none⟩ (.int .i64 pp) := ⟨_, rfl⟩
        have ON2 : Only (· = xb) x2 y2 := by rw [hyy2]; exact Only.set x2 xb 1 _ rfl
        rw [← hyy2] at v2
        have HY2 := hide hyy2
        have UU2 := U2.turnC ON2 (fun i e => by have e' : i = xb := e; omega) (fun e => hxbu e)
        have HN2 : Hid (Only (· = bu) wr y2) := hide ((HN1.out.trans N2).step ON2 (fun i e => .inr (by have e' : i = xb := e; have := HXW.out; omega)))
        have HC3 := hide (rAny_any UU2 HA3.out)
        clear g2 N2 u2 hyy2 ON2 U2 UU2 v1 HN1 HC2 HA3
        go_wp2_with fail
        rw [← HY2.out]
        refine HC3.out.mono ?_
        rintro _ x3 ⟨rfl, g3, pa3, ca3, U3⟩
        have N3 := only_grown g3
        have u3 := N3.obj v2 (fun e => hxbu e.symm)
        have f2a : x3.cell? ⟨xb, 2, none⟩ = some (.int .i64 0) := by simp [World.cell?, u3]
        have f2b : x3.frozen? ⟨xb, 2, none⟩ = false := by simp [World.frozen?, u3]
        have v3 : (x3.setCell ⟨xb, 2, none⟩ (.int .i64 ff)).heap[xb]? = some (.cells #[.int .i64 kk, .int .i64 pp, .int .i64 ff, .int .i64 0, .slice none 0 0] 38 (0, 0)) := heap_setCell_same x3 xb 2 _ _ _ u3
        obtain ⟨y3, hyy3⟩ : ∃ y, y = x3.setCell ⟨xb, 2, none⟩ (.int .i64 ff) := ⟨_, rfl⟩
        have ON3 : Only (· = xb) x3 y3 := by rw [hyy3]; exact Only.set x3 xb 2 _ rfl
        rw [← hyy3] at v3
        have HY3 := hide hyy3
        have UU3 := U3.turnC ON3 (fun i e => by have e' : i = xb := e; omega) (fun e => hxbu e)
        have HN3 : Hid (Only (· = bu) wr y3) := hide ((HN2.out.trans N3).step ON3 (fun i e => .inr (by have e' : i = xb := e; have := HXW.out; omega)))
        have HC4 := hide (rAny_any UU3 HA4.out)
        clear g3 N3 u3 hyy3 ON3 U3 UU3 v2 HN2 HC3 HA4 HY2 f1a f1b
        go_wp2_with fail
        rw [← HY3.out]
        refine HC4.out.mono ?_
        rintro _ x4 ⟨rfl, g4, pa4, ca4, U4⟩
        have N4 := only_grown g4
        have u4 := N4.obj v3 (fun e => hxbu e.symm)
        have f3a : x4.cell? ⟨xb, 3, none⟩ = some (.int .i64 0) := by simp [World.cell?, u4]
        have f3b : x4.frozen? ⟨xb, 3, none⟩ = false := by simp [World.frozen?, u4]
        have v4 : (x4.setCell ⟨xb, 3, none⟩ (.int .i64 aa)).heap[xb]? = some (.cells #[.int .i64 kk, .int .i64 pp, .int .i64 ff, .int .i64 aa, .slice none 0 0] 38 (0, 0)) := heap_setCell_same x4 xb 3 _ _ _ u4
        obtain ⟨y4, hyy4⟩ : ∃ y, y = x4.setCell ⟨xb, 3, none⟩ (.int .i64 aa) := ⟨_, rfl⟩
        have ON4 : Only (· = xb) x4 y4 := by rw [hyy4]; exact Only.set x4 xb 3 _ rfl
        rw [← hyy4] at v4
        have HY4 := hide hyy4
        have UU4 := U4.turnC ON4 (fun i e => by have e' : i = xb := e; omega) (fun e => hxbu e)
        have HN4 : Hid (Only (· = bu) wr y4) := hide ((HN3.out.trans N4).step ON4 (fun i e => .inr (by have e' : i = xb := e; have := HXW.out; omega)))
        have HC5 := hide (ruint_at UU4 HA5.out)
        clear g4 N4 u4 hyy4 ON4 U4 UU4 v3 HN3 HC4 HA5 HY3 f2a f2b
        go_wp2_with fail
        rw [← HY4.out]
        refine HC5.out.mono ?_
        rintro _ x5 ⟨rfl, g5, pa5, ca5, U5⟩
        have N5 := only_grown g5
        have HXB5 := hide (N5.obj v4 (fun e => hxbu e.symm))
        have HN5 : Hid (Only (· = bu) wr x5) := hide (HN4.out.trans N5)
        have HU5 := hide U5
        obtain ⟨X, hX⟩ : ∃ X, wr.heap.size = X := ⟨_, rfl⟩
        have HX := hide hX
        have hBX : B < X := by have := HVS.out; omega
        have hXx : X ≤ xb := by have := HXW.out; omega
        have HSX5 : Hid (X < x5.heap.size) := hide (by have := (Array.getElem?_eq_some_iff.1 HXB5.out).1; omega)
        clear g5 N5 U5 v4 HN4 HC5 HY4 f3a f3b hX
        go_wp2_with fail
        go_loopw [10] (fun s wi => ∃ (j q : Nat) (ac : List GE) (l : List Int) (e : Int) (p2 : Option Addr) (c2 : Nat) (pv : Option Addr) (cv : Nat), j ≤ n2 ∧ s = .int .i64 (j : Int) ∧ q ≤ j ∧ Hid (ac.length = q) ∧ Hid (RUnp (fun k => B ≤ k) wi bu (.slice pv l.length cv) l e) ∧ Hid (wi.ownsRow X 40 2 (.slice p2 q c2) q (ac.flatMap GE.cells)) ∧ Hid (wi.heap[xb]? = some (.cells #[.int .i64 kk, .int .i64 pp, .int .i64 ff, .int .i64 aa, .slice p2 q c2] 38 (0, 0))) ∧ Hid (Goes edgeR (n2 - j) ac l e ins lf ef) ∧ Hid (Only (· = bu) wr wi) ∧ Hid (X < wi.heap.size)) (fun s _ => n2 - (intOf s).toNat)
        case atStart => exact ⟨0, 0, [], a5, s5, none, 0, pa5, ca5, Nat.zero_le _, rfl, Nat.le_refl _, hide rfl, HU5, hide (World.ownsRow_nil _ _ _ _), HXB5, HG6, HN5, HSX5⟩
        case round =>
          obtain ⟨j, q, ac, l, e, p2, c2, pv, cv, hj, rfl, hq, HAC, HU2, HOE, HXB, HG2, HNI, HSX⟩ := hrel
          clear HU5 HXB5 HG6 HN5 HSX5
          rename World => wi
          by_cases hjt : j < n2
          · by_cases he2 : e = 0
            · subst he2
              obtain ⟨ea, la, e1, ha⟩ : ∃ a q s, anyR l 0 = (a, q, s) := ⟨_, _, _, rfl⟩
              obtain ⟨eb, l2, e2, hb⟩ : ∃ a q s, anyR la e1 = (a, q, s) := ⟨_, _, _, rfl⟩
              have HGN : Hid (Goes edgeR (n2 - (j + 1)) (ac ++ [⟨ea, eb⟩]) l2 e2 ins lf ef) := by
                have h := HG2.out
                rw [show n2 - j = n2 - (j + 1) + 1 by omega] at h
                exact hide (h.next (edgeR_eq ha hb))
              have hu1 := HU2.out.c1
              have dd : decide ((j : Int) < (n2 : Int)) = true := decide_eq_true (by omega)
              have HK1 : Hid (q + 1 ≤ maxLen) := by show _ ≤ _; unfold maxLen; omega
              have HK2 : Hid ((q + 1) * 16 ≤ 140737488355328) := by show _ ≤ _; omega
              have HC1 := hide (rAny_any HU2.out ha)
              have HA2 := hide hb
              clear ha hb HG2
              go_wp2_with fail
              refine HC1.out.mono ?_
              rintro _ x1 ⟨rfl, g1, pa, ca, U1⟩
              have N1 := only_grown g1
              have b1 := alloc_below x1 (.cells #[.int .i64 ea, .int .i64 0] 40 (0, 0))
              have hv1 : (x1.alloc (.cells #[.int .i64 ea, .int .i64 0] 40 (0, 0))).heap[x1.heap.size]? = some (.cells #[.int .i64 ea, .int .i64 0] 40 (0, 0)) := heap_alloc_new x1 _
              obtain ⟨y1, hy1⟩ : ∃ y1, y1 = x1.alloc (.cells #[.int .i64 ea, .int .i64 0] 40 (0, 0)) := ⟨_, rfl⟩
              rw [← hy1] at b1 hv1
              have HC2 := hide (rAny_any (U1.below b1) HA2.out)
              have HN1 : Hid (Only (· = bu) wi y1) := hide (N1.trans (Only.fresh b1 _))
              obtain ⟨gb, hgb⟩ : ∃ gb, x1.heap.size = gb := ⟨_, rfl⟩
              rw [hgb] at hv1
              have HGW : Hid (wi.heap.size ≤ gb) := hide (by have := N1.size; omega)
              have hgX : X < gb := by have := HSX.out; have := N1.size; omega
              have hgbu : bu ≠ gb := by omega
              have hux := hu1
              clear g1 N1 U1 b1 HC1 HU2 hu1 hux dd
              go_wp2_with fail
              rw [← hy1]
              try rw [hgb]
              clear hy1 hgb
              refine HC2.out.mono ?_
              rintro _ x2 ⟨rfl, g2, pb, cb, U2⟩
              have N2 := only_grown g2
              have hv2 := N2.obj hv1 (fun e => hgbu e.symm)
              have HN2 : Hid (Only (· = bu) wi x2) := hide (HN1.out.trans N2)
              have s1 : x2.cell? ⟨gb, 1, none⟩ = some (.int .i64 0) := by simp [World.cell?, hv2]
              have s2 : x2.frozen? ⟨gb, 1, none⟩ = false := by simp [World.frozen?, hv2]
              have hs3 : (x2.setCell ⟨gb, 1, none⟩ (.int .i64 eb)).heap[gb]? = some (.cells #[.int .i64 ea, .int .i64 eb] 40 (0, 0)) := heap_setCell_same x2 gb 1 _ _ _ hv2
              obtain ⟨y2, hy2⟩ : ∃ y2, y2 = x2.setCell ⟨gb, 1, none⟩ (.int .i64 eb) := ⟨_, rfl⟩
              have ON2 : Only (· = gb) x2 y2 := by rw [hy2]; exact Only.set x2 gb 1 _ rfl
              rw [← hy2] at hs3
              have t0 : y2.cell? ⟨gb, 0, none⟩ = some (.int .i64 ea) := by simp [World.cell?, hs3]
              have t1 : y2.cell? ⟨gb, 1, none⟩ = some (.int .i64 eb) := by simp [World.cell?, hs3]
              have hXs := HSX.out
              have hN3 : Only (· = bu) wi y2 := HN2.out.step ON2 (fun i e => .inr (by
                have e' : i = gb := e
                have := HGW.out
                omega))
              have hgy : wi.heap.size ≤ gb := HGW.out
              have hx2 : y2.heap[xb]? = some (.cells #[.int .i64 kk, .int .i64 pp, .int .i64 ff, .int .i64 aa, .slice p2 q c2] 38 (0, 0)) := hN3.obj HXB.out (fun e => hxbu e.symm)
              have t2 : y2.cell? ⟨xb, 4, none⟩ = some (.slice p2 q c2) := by simp [World.cell?, hx2]
              have HU3 : Hid (RUnp (fun k => B ≤ k) y2 bu (.slice pb l2.length cb) l2 e2) := hide (U2.turnC ON2 (fun i e => by have e' : i = gb := e; omega) (fun e => hgbu e))
              have HO2 : Hid (y2.ownsRow X 40 2 (.slice p2 q c2) q (ac.flatMap GE.cells)) := hide (ownsRow_only HOE.out hN3 (fun b hb e => by have e' : b = bu := e; have := own_block_base HOE.out hb; omega))
              have HO3 := hide (ownsRow_later HO2.out (alloc_below y2 (.cells #[.int .i64 ea, .int .i64 eb] 40 (0, 0))))
              have HSG : Hid (Seg (y2.alloc (.cells #[.int .i64 ea, .int .i64 eb] 40 (0, 0))) 2 (.slice (some ⟨x2.heap.size, 0, none⟩) 1 1) 1 [.int .i64 ea, .int .i64 eb]) := by
                have hsz : x2.heap.size = y2.heap.size := by rw [hy2]; simp
                rw [hsz]
                exact hide (Seg.news (heap_alloc_new y2 _) (by simp [Value.oneCell']) rfl (Nat.le_refl _) (by decide))
              have HBB : Hid (X ≤ (y2.alloc (.cells #[.int .i64 ea, .int .i64 eb] 40 (0, 0))).heap.size) := hide (by have := hN3.size; simp; omega)
              have HXX := hide hx2
              have HN3 := hide hN3
              have HY2 := hide hy2
              rw [hy2] at t0 t1 t2 HO3 HSG HBB
              clear g2 N2 U2 hv1 hv2 hs3 ON2 hN3 hx2 HC2 HA2 HN1 HN2
              go_wp2_with (at_builtin; refine append_cells _ rfl (.tmp 67) (.tmp 69) 36 rfl X 40 i0 (.agg #[.int .i64 0, .int .i64 0]) 2 16 Try.underlying36 hI0 hz0 hz1 hz2 rfl (by decide) (.slice p2 q c2) q _ rfl HO3.out (.slice (some ⟨x2.heap.size, 0, none⟩) 1 1) 1 _ rfl HSG.out HK1.out HK2.out HBB.out ?_)
              intro p6 c6 w6 o6 g6
              rw [← HY2.out] at g6
              have hb2 : Only (fun i => (Value.slice p2 q c2).ownBlock = some i) y2 w6 := (Only.alloc _ _ _).trans (Only.of_grown g6 (fun k e => e))
              have hobn : ∀ i, (Value.slice p2 q c2).ownBlock = some i → i ≠ xb ∧ X ≤ i := fun i e => by
                obtain ⟨_, cur, h7⟩ := own_block_lt HO2.out e
                refine ⟨fun h => ?_, own_block_base HO2.out e⟩
                rw [h, HXX.out] at h7
                simp at h7
              have hx6 : w6.heap[xb]? = some (.cells #[.int .i64 kk, .int .i64 pp, .int .i64 ff, .int .i64 aa, .slice p2 q c2] 38 (0, 0)) := hb2.obj HXX.out (fun e => (hobn _ e).1 rfl)
              have f6 : w6.cell? ⟨xb, 4, none⟩ = some (.slice p2 q c2) := by simp [World.cell?, hx6]
              have f7 : w6.frozen? ⟨xb, 4, none⟩ = false := by simp [World.frozen?, hx6]
              have hset : Only (· = xb) w6 (w6.setCell ⟨xb, 4, none⟩ (.slice p6 (q + 1) c6)) := Only.set w6 xb 4 _ rfl
              have HX7 : Hid ((w6.setCell ⟨xb, 4, none⟩ (.slice p6 (q + 1) c6)).heap[xb]? = some (.cells #[.int .i64 kk, .int .i64 pp, .int .i64 ff, .int .i64 aa, .slice p6 (q + 1) c6] 38 (0, 0))) := hide (heap_setCell_same w6 xb 4 _ _ _ hx6)
              have HO7 : Hid ((w6.setCell ⟨xb, 4, none⟩ (.slice p6 (q + 1) c6)).ownsRow X 40 2 (.slice p6 (q + 1) c6) (q + 1) ((ac ++ [(⟨ea, eb⟩ : GE)]).flatMap GE.cells)) := by
                refine hide ?_
                rw [List.flatMap_append]
                refine ownsRow_only o6 hset (fun b hb e => ?_)
                have e' : b = xb := e
                obtain ⟨_, cur, h7⟩ := own_block_lt o6 hb
                rw [e', hx6] at h7
                simp at h7
              have hall : Only (fun i => X ≤ i) y2 (w6.setCell ⟨xb, 4, none⟩ (.slice p6 (q + 1) c6)) := (hb2.mono (fun i _ e => (hobn _ e).2)).trans (hset.mono (fun i _ e => by have e' : i = xb := e; omega))
              have HU7 : Hid (RUnp (fun k => B ≤ k) (w6.setCell ⟨xb, 4, none⟩ (.slice p6 (q + 1) c6)) bu (.slice pb l2.length cb) l2 e2) := hide (HU3.out.turnC hall (fun i e => by have e' : X ≤ i := e; omega) (fun e => by have e' : X ≤ bu := e; omega))
              have HN7 : Hid (Only (· = bu) wr (w6.setCell ⟨xb, 4, none⟩ (.slice p6 (q + 1) c6))) := hide ((HNI.out.trans HN3.out).step hall (fun i e => .inr (by have e' : X ≤ i := e; have := HX.out; omega)))
              have HS7 : Hid (X < (w6.setCell ⟨xb, 4, none⟩ (.slice p6 (q + 1) c6)).heap.size) := hide (by have := (Array.getElem?_eq_some_iff.1 HX7.out).1; omega)
              have HL7 : Hid ((ac ++ [(⟨ea, eb⟩ : GE)]).length = q + 1) := hide (by rw [List.length_append, HAC.out]; rfl)
              clear o6 g6 hb2 hobn hx6 hset hall t0 t1 t2 s1 s2
              go_wp2
              exact ⟨⟨j + 1, q + 1, ac ++ [⟨ea, eb⟩], l2, e2, p6, c6, pb, cb, by omega, by first | rfl | go_num | (congr 1; omega), by omega, HL7, HU7, HO7, HX7, HGN, HN7, HS7⟩, by simp [intOf]; omega⟩
            · obtain ⟨ho2, hl2, he2'⟩ := HG2.out.stop (.inr he2)
              subst ho2 hl2 he2'
              have hu1 := HU2.out.c1
              have dd : decide ((j : Int) < (n2 : Int)) = true := decide_eq_true (by omega)
              have ne1 := ne_eq he2
              clear he2
              have hob : wi.heap[ob]? = some (.cells #[.int .i64 parts, .slice p1 m c1] 24 (0, 0)) := HNI.out.obj HBX.out (fun e => hne e.symm)
              have hrbx : wi.heap[rb]? = some (.cells #[.int .i64 0, .slice none 0 0] 24 (0, 0)) := HNI.out.obj HRX.out (fun e => hnr e.symm)
              have q0 : wi.cell? ⟨ob, 1, none⟩ = some (.slice p1 m c1) := by simp [World.cell?, hob]
              have q1 : wi.cell? ⟨xb, 0, none⟩ = some (.int .i64 kk) := by simp [World.cell?, HXB.out]
              have q2 : wi.cell? ⟨xb, 1, none⟩ = some (.int .i64 pp) := by simp [World.cell?, HXB.out]
              have q3 : wi.cell? ⟨xb, 2, none⟩ = some (.int .i64 ff) := by simp [World.cell?, HXB.out]
              have q4 : wi.cell? ⟨xb, 3, none⟩ = some (.int .i64 aa) := by simp [World.cell?, HXB.out]
              have q5 : wi.cell? ⟨xb, 4, none⟩ = some (.slice p2 q c2) := by simp [World.cell?, HXB.out]
              have ha8 := alloc_below wi (.cells #[.int .i64 kk, .int .i64 pp, .int .i64 ff, .int .i64 aa, .slice p2 q c2] 38 (0, 0))
              have hrow1 : wi.ownsRow (B + 1) 38 5 (.slice p1 m c1) m (acc.flatMap OV.cells) := ownsRow_only HOW.out HNI.out (fun b hb e => by have e' : b = bu := e; have := own_block_base HOW.out hb; omega)
              have HO3 := hide (ownsRow_later hrow1 ha8)
              have HSG : Hid (Seg (wi.alloc (.cells #[.int .i64 kk, .int .i64 pp, .int .i64 ff, .int .i64 aa, .slice p2 q c2] 38 (0, 0))) 5 (.slice (some ⟨wi.heap.size, 0, none⟩) 1 1) 1 [.int .i64 kk, .int .i64 pp, .int .i64 ff, .int .i64 aa, .slice p2 q c2]) := hide (Seg.news (heap_alloc_new wi _) (by simp [Value.oneCell']) rfl (Nat.le_refl _) (by decide))
              have HK1 : Hid (m + 1 ≤ maxLen) := by show _ ≤ _; unfold maxLen; omega
              have HK2 : Hid ((m + 1) * 56 ≤ 140737488355328) := by show _ ≤ _; omega
              have HBB : Hid (B + 1 ≤ (wi.alloc (.cells #[.int .i64 kk, .int .i64 pp, .int .i64 ff, .int .i64 aa, .slice p2 q c2] 38 (0, 0))).heap.size) := hide (by have := HSX.out; simp; omega)
              have HIN1 : Hid (∀ x ∈ acc ++ [(⟨⟨kk, pp, ff, aa, ac⟩, p2, c2⟩ : OV)], wi.ownsRow (B + 1) 40 2 (.slice x.ip x.o.ins.length x.ic) x.o.ins.length (x.o.ins.flatMap GE.cells)) := by
                refine hide (fun x hx => ?_)
                rcases List.mem_append.1 hx with hx | hx
                · exact ownsRow_only (HIN.out x hx) HNI.out (fun b hb e => by have e' : b = bu := e; have := own_block_base (HIN.out x hx) hb; omega)
                · simp only [List.mem_cons, List.not_mem_nil, or_false] at hx
                  subst hx
                  simp only
                  rw [HAC.out]
                  exact ownsRow_base HOE.out (by omega)
              have HHO := hide hob
              have HHR2 := hide hrbx
              have HR1 := hide hrow1
              clear hob hrbx hrow1 ha8 HG2 HXB HOE
              go_wp2_with (at_builtin; refine append_cells _ rfl (.tmp 73) (.tmp 75) 22 rfl (B + 1) 38 j0 (.agg #[.int .i64 0, .int .i64 0, .int .i64 0, .int .i64 0, .slice none 0 0]) 5 56 Try.underlying22 hJ0 hy0 hy1 hy2 rfl (by decide) (.slice p1 m c1) m _ rfl HO3.out (.slice (some ⟨wi.heap.size, 0, none⟩) 1 1) 1 _ rfl HSG.out HK1.out HK2.out HBB.out ?_)
              intro p6 c6 w6 o6 g6
              have hg6 : Only (fun i => (Value.slice p1 m c1).ownBlock = some i) wi w6 := (Only.alloc _ _ _).trans (Only.of_grown g6 (fun k e => e))
              have hobn : ∀ i, (Value.slice p1 m c1).ownBlock = some i → i ≠ ob ∧ i ≠ rb ∧ B + 1 ≤ i := fun i e => by
                obtain ⟨_, cur, h7⟩ := own_block_lt HR1.out e
                refine ⟨fun h => ?_, fun h => ?_, own_block_base HR1.out e⟩
                · rw [h, HHO.out] at h7
                  simp at h7
                · rw [h, HHR2.out] at h7
                  simp at h7
              have hb6 : w6.heap[ob]? = some (.cells #[.int .i64 parts, .slice p1 m c1] 24 (0, 0)) := hg6.obj HHO.out (fun e => (hobn _ e).1 rfl)
              have hr6 : w6.heap[rb]? = some (.cells #[.int .i64 0, .slice none 0 0] 24 (0, 0)) := hg6.obj HHR2.out (fun e => (hobn _ e).2.1 rfl)
              have f6 : w6.cell? ⟨ob, 1, none⟩ = some (.slice p1 m c1) := by simp [World.cell?, hb6]
              have f7 : w6.frozen? ⟨ob, 1, none⟩ = false := by simp [World.frozen?, hb6]
              have hset : Only (· = ob) w6 (w6.setCell ⟨ob, 1, none⟩ (.slice p6 (m + 1) c6)) := Only.set w6 ob 1 _ rfl
              have HB7 : Hid ((w6.setCell ⟨ob, 1, none⟩ (.slice p6 (m + 1) c6)).heap[ob]? = some (.cells #[.int .i64 parts, .slice p6 (m + 1) c6] 24 (0, 0))) := hide (heap_setCell_same w6 ob 1 _ _ _ hb6)
              have HR7 : Hid ((w6.setCell ⟨ob, 1, none⟩ (.slice p6 (m + 1) c6)).heap[rb]? = some (.cells #[.int .i64 0, .slice none 0 0] 24 (0, 0))) := hide (hset.obj hr6 (fun e => hro e))
              have hkeep : ∀ {b n : Nat} {v : Value} {ys : List Value}, wi.ownsRow b 40 2 v n ys → (w6.setCell ⟨ob, 1, none⟩ (.slice p6 (m + 1) c6)).ownsRow b 40 2 v n ys := fun {b n v ys} h => by
                have h8 : w6.ownsRow b 40 2 v n ys := ownsRow_only h hg6 (fun g hg e => rows_apart h HR1.out (by decide) e hg)
                refine ownsRow_only h8 hset (fun g hg e => ?_)
                have e' : g = ob := e
                obtain ⟨_, cur, h7⟩ := own_block_lt h8 hg
                rw [e', hb6] at h7
                simp at h7
              have HO7 : Hid ((w6.setCell ⟨ob, 1, none⟩ (.slice p6 (m + 1) c6)).ownsRow (B + 1) 38 5 (.slice p6 (m + 1) c6) (m + 1) ((acc ++ [(⟨⟨kk, pp, ff, aa, ac⟩, p2, c2⟩ : OV)]).flatMap OV.cells)) := by
                refine hide ?_
                rw [List.flatMap_append]
                refine ownsRow_only (by simp only [List.flatMap_cons, List.flatMap_nil, List.append_nil, OV.cells]; rw [HAC.out]; exact o6) hset (fun b hb e => ?_)
                have e' : b = ob := e
                obtain ⟨_, cur, h7⟩ := own_block_lt o6 hb
                rw [e', hb6] at h7
                simp at h7
              have HI7 : Hid (∀ x ∈ acc ++ [(⟨⟨kk, pp, ff, aa, ac⟩, p2, c2⟩ : OV)], (w6.setCell ⟨ob, 1, none⟩ (.slice p6 (m + 1) c6)).ownsRow (B + 1) 40 2 (.slice x.ip x.o.ins.length x.ic) x.o.ins.length (x.o.ins.flatMap GE.cells)) := hide (fun x hx => hkeep (HIN1.out x hx))
              have hall : Only (fun i => B + 1 ≤ i) wi (w6.setCell ⟨ob, 1, none⟩ (.slice p6 (m + 1) c6)) := (hg6.mono (fun i _ e => (hobn _ e).2.2)).trans (hset.mono (fun i _ e => by have e' : i = ob := e; omega))
              have HU7 : Hid (RUnp (fun k => B ≤ k) (w6.setCell ⟨ob, 1, none⟩ (.slice p6 (m + 1) c6)) bu (.slice pv l.length cv) l e) := hide (HU2.out.turnC hall (fun i e => by have e' : B + 1 ≤ i := e; omega) (fun e => by have e' : B + 1 ≤ bu := e; omega))
              have HN7 : Hid (Below W.heap.size W (w6.setCell ⟨ob, 1, none⟩ (.slice p6 (m + 1) c6))) := hide ((HON.out.trans (HNI.out.below HON.out.size (fun i e => by have e' : i = bu := e; omega))).trans (hall.below (Nat.le_trans HON.out.size HNI.out.size) (fun i e => by have e' : B + 1 ≤ i := e; have := HWB.out; omega)))
              have HS7 : Hid (B < (w6.setCell ⟨ob, 1, none⟩ (.slice p6 (m + 1) c6)).heap.size) := hide (by have := (Array.getElem?_eq_some_iff.1 HB7.out).1; omega)
              have HL7 : Hid ((acc ++ [(⟨⟨kk, pp, ff, aa, ac⟩, p2, c2⟩ : OV)]).length = m + 1) := hide (by rw [List.length_append, HAL.out]; rfl)
              have HG7 : Hid (Goes opR (n - (i + 1)) ((acc ++ [(⟨⟨kk, pp, ff, aa, ac⟩, p2, c2⟩ : OV)]).map OV.o) l e os l3 e3) := by rw [List.map_append]; exact HGN0
              clear o6 g6 hg6 hobn hb6 hr6 hset hall hkeep q0 q1 q2 q3 q4 q5 HGN0
              go_wp2
              exact ⟨⟨i + 1, m + 1, acc ++ [⟨⟨kk, pp, ff, aa, ac⟩, p2, c2⟩], l, e, p6, c6, pv, cv, by omega, by first | rfl | go_num | (congr 1; omega), by omega, HL7, HU7, HO7, HI7, HB7, HR7, HG7, HN7, HS7⟩, by simp [intOf]; omega⟩
          · obtain ⟨ho2, hl2, he2'⟩ := HG2.out.stop (.inl (by omega))
            subst ho2 hl2 he2'
            have dd : decide ((j : Int) < (n2 : Int)) = false := decide_eq_false (by omega)
            have hob : wi.heap[ob]? = some (.cells #[.int .i64 parts, .slice p1 m c1] 24 (0, 0)) := HNI.out.obj HBX.out (fun e => hne e.symm)
            have hrbx : wi.heap[rb]? = some (.cells #[.int .i64 0, .slice none 0 0] 24 (0, 0)) := HNI.out.obj HRX.out (fun e => hnr e.symm)
            have q0 : wi.cell? ⟨ob, 1, none⟩ = some (.slice p1 m c1) := by simp [World.cell?, hob]
            have q1 : wi.cell? ⟨xb, 0, none⟩ = some (.int .i64 kk) := by simp [World.cell?, HXB.out]
            have q2 : wi.cell? ⟨xb, 1, none⟩ = some (.int .i64 pp) := by simp [World.cell?, HXB.out]
            have q3 : wi.cell? ⟨xb, 2, none⟩ = some (.int .i64 ff) := by simp [World.cell?, HXB.out]
            have q4 : wi.cell? ⟨xb, 3, none⟩ = some (.int .i64 aa) := by simp [World.cell?, HXB.out]
            have q5 : wi.cell? ⟨xb, 4, none⟩ = some (.slice p2 q c2) := by simp [World.cell?, HXB.out]
            have ha8 := alloc_below wi (.cells #[.int .i64 kk, .int .i64 pp, .int .i64 ff, .int .i64 aa, .slice p2 q c2] 38 (0, 0))
            have hrow1 : wi.ownsRow (B + 1) 38 5 (.slice p1 m c1) m (acc.flatMap OV.cells) := ownsRow_only HOW.out HNI.out (fun b hb e => by have e' : b = bu := e; have := own_block_base HOW.out hb; omega)
            have HO3 := hide (ownsRow_later hrow1 ha8)
            have HSG : Hid (Seg (wi.alloc (.cells #[.int .i64 kk, .int .i64 pp, .int .i64 ff, .int .i64 aa, .slice p2 q c2] 38 (0, 0))) 5 (.slice (some ⟨wi.heap.size, 0, none⟩) 1 1) 1 [.int .i64 kk, .int .i64 pp, .int .i64 ff, .int .i64 aa, .slice p2 q c2]) := hide (Seg.news (heap_alloc_new wi _) (by simp [Value.oneCell']) rfl (Nat.le_refl _) (by decide))
            have HK1 : Hid (m + 1 ≤ maxLen) := by show _ ≤ _; unfold maxLen; omega
            have HK2 : Hid ((m + 1) * 56 ≤ 140737488355328) := by show _ ≤ _; omega
            have HBB : Hid (B + 1 ≤ (wi.alloc (.cells #[.int .i64 kk, .int .i64 pp, .int .i64 ff, .int .i64 aa, .slice p2 q c2] 38 (0, 0))).heap.size) := hide (by have := HSX.out; simp; omega)
            have HIN1 : Hid (∀ x ∈ acc ++ [(⟨⟨kk, pp, ff, aa, ac⟩, p2, c2⟩ : OV)], wi.ownsRow (B + 1) 40 2 (.slice x.ip x.o.ins.length x.ic) x.o.ins.length (x.o.ins.flatMap GE.cells)) := by
              refine hide (fun x hx => ?_)
              rcases List.mem_append.1 hx with hx | hx
              · exact ownsRow_only (HIN.out x hx) HNI.out (fun b hb e => by have e' : b = bu := e; have := own_block_base (HIN.out x hx) hb; omega)
              · simp only [List.mem_cons, List.not_mem_nil, or_false] at hx
                subst hx
                simp only
                rw [HAC.out]
                exact ownsRow_base HOE.out (by omega)
            have HHO := hide hob
            have HHR2 := hide hrbx
            have HR1 := hide hrow1
            clear hob hrbx hrow1 ha8 HG2 HXB HOE
            go_wp2_with (at_builtin; refine append_cells _ rfl (.tmp 73) (.tmp 75) 22 rfl (B + 1) 38 j0 (.agg #[.int .i64 0, .int .i64 0, .int .i64 0, .int .i64 0, .slice none 0 0]) 5 56 Try.underlying22 hJ0 hy0 hy1 hy2 rfl (by decide) (.slice p1 m c1) m _ rfl HO3.out (.slice (some ⟨wi.heap.size, 0, none⟩) 1 1) 1 _ rfl HSG.out HK1.out HK2.out HBB.out ?_)
            intro p6 c6 w6 o6 g6
            have hg6 : Only (fun i => (Value.slice p1 m c1).ownBlock = some i) wi w6 := (Only.alloc _ _ _).trans (Only.of_grown g6 (fun k e => e))
            have hobn : ∀ i, (Value.slice p1 m c1).ownBlock = some i → i ≠ ob ∧ i ≠ rb ∧ B + 1 ≤ i := fun i e => by
              obtain ⟨_, cur, h7⟩ := own_block_lt HR1.out e
              refine ⟨fun h => ?_, fun h => ?_, own_block_base HR1.out e⟩
              · rw [h, HHO.out] at h7
                simp at h7
              · rw [h, HHR2.out] at h7
                simp at h7
            have hb6 : w6.heap[ob]? = some (.cells #[.int .i64 parts, .slice p1 m c1] 24 (0, 0)) := hg6.obj HHO.out (fun e => (hobn _ e).1 rfl)
            have hr6 : w6.heap[rb]? = some (.cells #[.int .i64 0, .slice none 0 0] 24 (0, 0)) := hg6.obj HHR2.out (fun e => (hobn _ e).2.1 rfl)
            have f6 : w6.cell? ⟨ob, 1, none⟩ = some (.slice p1 m c1) := by simp [World.cell?, hb6]
            have f7 : w6.frozen? ⟨ob, 1, none⟩ = false := by simp [World.frozen?, hb6]
            have hset : Only (· = ob) w6 (w6.setCell ⟨ob, 1, none⟩ (.slice p6 (m + 1) c6)) := Only.set w6 ob 1 _ rfl
            have HB7 : Hid ((w6.setCell ⟨ob, 1, none⟩ (.slice p6 (m + 1) c6)).heap[ob]? = some (.cells #[.int .i64 parts, .slice p6 (m + 1) c6] 24 (0, 0))) := hide (heap_setCell_same w6 ob 1 _ _ _ hb6)
            have HR7 : Hid ((w6.setCell ⟨ob, 1, none⟩ (.slice p6 (m + 1) c6)).heap[rb]? = some (.cells #[.int .i64 0, .slice none 0 0] 24 (0, 0))) := hide (hset.obj hr6 (fun e => hro e))
            have hkeep : ∀ {b n : Nat} {v : Value} {ys : List Value}, wi.ownsRow b 40 2 v n ys → (w6.setCell ⟨ob, 1, none⟩ (.slice p6 (m + 1) c6)).ownsRow b 40 2 v n ys := fun {b n v ys} h => by
              have h8 : w6.ownsRow b 40 2 v n ys := ownsRow_only h hg6 (fun g hg e => rows_apart h HR1.out (by decide) e hg)
              refine ownsRow_only h8 hset (fun g hg e => ?_)
              have e' : g = ob := e
              obtain ⟨_, cur, h7⟩ := own_block_lt h8 hg
              rw [e', hb6] at h7
              simp at h7
            have HO7 : Hid ((w6.setCell ⟨ob, 1, none⟩ (.slice p6 (m + 1) c6)).ownsRow (B + 1) 38 5 (.slice p6 (m + 1) c6) (m + 1) ((acc ++ [(⟨⟨kk, pp, ff, aa, ac⟩, p2, c2⟩ : OV)]).flatMap OV.cells)) := by
              refine hide ?_
              rw [List.flatMap_append]
              refine ownsRow_only (by simp only [List.flatMap_cons, List.flatMap_nil, List.append_nil, OV.cells]; rw [HAC.out]; exact o6) hset (fun b hb e => ?_)
              have e' : b = ob := e
              obtain ⟨_, cur, h7⟩ := own_block_lt o6 hb
              rw [e', hb6] at h7
              simp at h7
            have HI7 : Hid (∀ x ∈ acc ++ [(⟨⟨kk, pp, ff, aa, ac⟩, p2, c2⟩ : OV)], (w6.setCell ⟨ob, 1, none⟩ (.slice p6 (m + 1) c6)).ownsRow (B + 1) 40 2 (.slice x.ip x.o.ins.length x.ic) x.o.ins.length (x.o.ins.flatMap GE.cells)) := hide (fun x hx => hkeep (HIN1.out x hx))
            have hall : Only (fun i => B + 1 ≤ i) wi (w6.setCell ⟨ob, 1, none⟩ (.slice p6 (m + 1) c6)) := (hg6.mono (fun i _ e => (hobn _ e).2.2)).trans (hset.mono (fun i _ e => by have e' : i = ob := e; omega))
            have HU7 : Hid (RUnp (fun k => B ≤ k) (w6.setCell ⟨ob, 1, none⟩ (.slice p6 (m + 1) c6)) bu (.slice pv l.length cv) l e) := hide (HU2.out.turnC hall (fun i e => by have e' : B + 1 ≤ i := e; omega) (fun e => by have e' : B + 1 ≤ bu := e; omega))
            have HN7 : Hid (Below W.heap.size W (w6.setCell ⟨ob, 1, none⟩ (.slice p6 (m + 1) c6))) := hide ((HON.out.trans (HNI.out.below HON.out.size (fun i e => by have e' : i = bu := e; omega))).trans (hall.below (Nat.le_trans HON.out.size HNI.out.size) (fun i e => by have e' : B + 1 ≤ i := e; have := HWB.out; omega)))
            have HS7 : Hid (B < (w6.setCell ⟨ob, 1, none⟩ (.slice p6 (m + 1) c6)).heap.size) := hide (by have := (Array.getElem?_eq_some_iff.1 HB7.out).1; omega)
            have HL7 : Hid ((acc ++ [(⟨⟨kk, pp, ff, aa, ac⟩, p2, c2⟩ : OV)]).length = m + 1) := hide (by rw [List.length_append, HAL.out]; rfl)
            have HG7 : Hid (Goes opR (n - (i + 1)) ((acc ++ [(⟨⟨kk, pp, ff, aa, ac⟩, p2, c2⟩ : OV)]).map OV.o) l e os l3 e3) := by rw [List.map_append]; exact HGN0
            clear o6 g6 hg6 hobn hb6 hr6 hset hall hkeep q0 q1 q2 q3 q4 q5 HGN0
            go_wp2
            exact ⟨⟨i + 1, m + 1, acc ++ [⟨⟨kk, pp, ff, aa, ac⟩, p2, c2⟩], l, e, p6, c6, pv, cv, by omega, by first | rfl | go_num | (congr 1; omega), by omega, HL7, HU7, HO7, HI7, HB7, HR7, HG7, HN7, HS7⟩, by simp [intOf]; omega⟩
      · obtain ⟨ho0, hl0, he0⟩ := HG.out.stop (.inr he)
        subst hl0 he0
        have hu1 := HU.out.c1
        have dd : decide ((i : Int) < (n : Int)) = true := decide_eq_true (by omega)
        have ne1 := ne_eq he
        clear he
        have HCL := hide (rclose_any HU.out)
        obtain ⟨cc, hcc⟩ : ∃ cc, closes l e = cc := ⟨_, rfl⟩
        have hhr := HHR.out
        rw [← ho0, hcc] at hhr
        rw [hcc] at HCL
        have HGO : Hid (GOwn wr (B + 1) p1 c1 acc) := hide ⟨by rw [HAL.out]; exact HOW.out, HIN.out⟩
        have hck := rcheck_any (parts := parts) HGO.out.row
        rw [HAL.out] at hck
        obtain ⟨⟨k1, k2⟩, hkk⟩ : ∃ kk, checkC parts (acc.map OV.o) = kk := ⟨_, rfl⟩
        rw [hkk] at hck
        have HCK := hide hck
        have HKK := hide hkk
        have b0 : wr.cell? ⟨ob, 0, none⟩ = some (.int .i64 parts) := by simp [World.cell?, HBX.out]
        have b1 : wr.cell? ⟨ob, 1, none⟩ = some (.slice p1 m c1) := by simp [World.cell?, HBX.out]
        have hrb : rb < B := by have := HWB.out; have := HGB.out; omega
        clear hcc ho0 hck hkk HG HU HOW HIN HBX
        go_wp2_with fail
        refine HCL.out.mono ?_
        rintro _ wy ⟨rfl, rfl⟩
        clear HCL
        by_cases hc : cc = 0
        · subst hc
          unfold endG at hhr
          rw [if_pos rfl, HKK.out] at hhr
          simp only at hhr
          go_wp2_with fail
          refine HCK.out.mono ?_
          rintro _ w5 ⟨rfl, b5⟩
          have d0 := cell_later b5 b0
          have d1' := cell_later b5 b1
          have o5 := below_box b5 HRX.out
          have HG5 := hide (HGO.out.below b5)
          have HB5 := hide (HON.out.trans (b5.mono HON.out.size))
          clear b5 HCK b0 b1
          try simp only
          by_cases hk : k2 = 0
          · subst hk
            rw [if_pos rfl] at hhr
            simp only [Prod.mk.injEq] at hhr
            obtain ⟨rfl, rfl, rfl⟩ := hhr
            obtain ⟨f0, f1, f2, f3⟩ := graph_facts o5 (.int .i64 parts)
            have hset := only_set2 w5 rb (.int .i64 parts) (.slice p1 m c1)
            have HE := hide (set2 o5 (.int .i64 parts) (.slice p1 m c1))
            obtain ⟨WF, hWF⟩ : ∃ WF, WF = (w5.setCell ⟨rb, 0, none⟩ (.int .i64 parts)).setCell ⟨rb, 1, none⟩ (.slice p1 m c1) := ⟨_, rfl⟩
            rw [← hWF] at hset HE
            have HWF := hide hWF
            have HBF : Hid (Below W.heap.size W WF) := hide (HB5.out.trans (hset.below HB5.out.size (fun i e => by have e' : i = rb := e; have := HGB.out; omega)))
            have hkeep : ∀ {e s n : Nat} {v : Value} {ys : List Value}, w5.ownsRow (B + 1) e s v n ys → WF.ownsRow W.heap.size e s v n ys := fun h => ownsRow_base (ownsRow_only h hset (fun g hg e => by have e' : g = rb := e; have := own_block_base h hg; omega)) (Nat.le_trans HWB.out (Nat.le_succ B))
            have HGF : Hid (GOwn WF W.heap.size p1 c1 acc) := hide ⟨hkeep HG5.out.own, fun x hx => hkeep (HG5.out.ins x hx)⟩
            clear o5 hset hWF hkeep HG5 HB5 HGO HRX HON
            go_wp2
            rw [← HWF.out]
            refine bodyPost_ret (results_row_tmp rfl _ _ rb 24 _ _ _ rfl HE.out Try.underlying24 rfl (by kernel_rfl)) rfl ?_
            exact ⟨p1, c1, acc, m, rfl, HAL.out, rfl, HGF.out, HBF.out⟩
          · rw [if_neg hk] at hhr
            simp only [Prod.mk.injEq] at hhr
            obtain ⟨rfl, rfl, rfl⟩ := hhr
            have ne2 : (k2 != 0) = true := by simpa using hk
            obtain ⟨f0, f1, f2, f3⟩ := graph_facts o5 (.int .i64 0)
            have hset := only_set2 w5 rb (.int .i64 0) (.slice none 0 0)
            have HE := hide (set2 o5 (.int .i64 0) (.slice none 0 0))
            have HBF := hide (HB5.out.trans (hset.below HB5.out.size (fun i e => by have e' : i = rb := e; have := HGB.out; omega)))
            clear o5 hset HG5 HB5 HGO HRX HON hk
            go_wp2
            refine bodyPost_ret (results_row_tmp rfl _ _ rb 24 _ _ _ rfl HE.out Try.underlying24 rfl (by kernel_rfl)) rfl ?_
            exact ⟨none, 0, [], 0, rfl, rfl, rfl, ⟨World.ownsRow_nil _ _ _ _, fun x hx => absurd hx (by simp)⟩, HBF.out⟩
        · unfold endG at hhr
          rw [if_neg hc] at hhr
          simp only [Prod.mk.injEq] at hhr
          obtain ⟨rfl, rfl, rfl⟩ := hhr
          have ne2 : (cc != 0) = true := by simpa using hc
          obtain ⟨f0, f1, f2, f3⟩ := graph_facts HRX.out (.int .i64 0)
          have hset := only_set2 wy rb (.int .i64 0) (.slice none 0 0)
          have HE := hide (set2 HRX.out (.int .i64 0) (.slice none 0 0))
          have HBF := hide (HON.out.trans (hset.below HON.out.size (fun i e => by have e' : i = rb := e; have := HGB.out; omega)))
          clear hset HGO HRX HON hc HCK b0 b1
          go_wp2
          refine bodyPost_ret (results_row_tmp rfl _ _ rb 24 _ _ _ rfl HE.out Try.underlying24 rfl (by kernel_rfl)) rfl ?_
          exact ⟨none, 0, [], 0, rfl, rfl, rfl, ⟨World.ownsRow_nil _ _ _ _, fun x hx => absurd hx (by simp)⟩, HBF.out⟩
    · obtain ⟨ho0, hl0, he0⟩ := HG.out.stop (.inl (by omega))
      subst hl0 he0
      have dd : decide ((i : Int) < (n : Int)) = false := decide_eq_false (by omega)
      have HCL := hide (rclose_any HU.out)
      obtain ⟨cc, hcc⟩ : ∃ cc, closes l e = cc := ⟨_, rfl⟩
      have hhr := HHR.out
      rw [← ho0, hcc] at hhr
      rw [hcc] at HCL
      have HGO : Hid (GOwn wr (B + 1) p1 c1 acc) := hide ⟨by rw [HAL.out]; exact HOW.out, HIN.out⟩
      have hck := rcheck_any (parts := parts) HGO.out.row
      rw [HAL.out] at hck
      obtain ⟨⟨k1, k2⟩, hkk⟩ : ∃ kk, checkC parts (acc.map OV.o) = kk := ⟨_, rfl⟩
      rw [hkk] at hck
      have HCK := hide hck
      have HKK := hide hkk
      have b0 : wr.cell? ⟨ob, 0, none⟩ = some (.int .i64 parts) := by simp [World.cell?, HBX.out]
      have b1 : wr.cell? ⟨ob, 1, none⟩ = some (.slice p1 m c1) := by simp [World.cell?, HBX.out]
      have hrb : rb < B := by have := HWB.out; have := HGB.out; omega
      clear hcc ho0 hck hkk HG HU HOW HIN HBX
      go_wp2_with fail
      refine HCL.out.mono ?_
      rintro _ wy ⟨rfl, rfl⟩
      clear HCL
      by_cases hc : cc = 0
      · subst hc
        unfold endG at hhr
        rw [if_pos rfl, HKK.out] at hhr
        simp only at hhr
        go_wp2_with fail
        refine HCK.out.mono ?_
        rintro _ w5 ⟨rfl, b5⟩
        have d0 := cell_later b5 b0
        have d1' := cell_later b5 b1
        have o5 := below_box b5 HRX.out
        have HG5 := hide (HGO.out.below b5)
        have HB5 := hide (HON.out.trans (b5.mono HON.out.size))
        clear b5 HCK b0 b1
        try simp only
        by_cases hk : k2 = 0
        · subst hk
          rw [if_pos rfl] at hhr
          simp only [Prod.mk.injEq] at hhr
          obtain ⟨rfl, rfl, rfl⟩ := hhr
          obtain ⟨f0, f1, f2, f3⟩ := graph_facts o5 (.int .i64 parts)
          have hset := only_set2 w5 rb (.int .i64 parts) (.slice p1 m c1)
          have HE := hide (set2 o5 (.int .i64 parts) (.slice p1 m c1))
          obtain ⟨WF, hWF⟩ : ∃ WF, WF = (w5.setCell ⟨rb, 0, none⟩ (.int .i64 parts)).setCell ⟨rb, 1, none⟩ (.slice p1 m c1) := ⟨_, rfl⟩
          rw [← hWF] at hset HE
          have HWF := hide hWF
          have HBF : Hid (Below W.heap.size W WF) := hide (HB5.out.trans (hset.below HB5.out.size (fun i e => by have e' : i = rb := e; have := HGB.out; omega)))
          have hkeep : ∀ {e s n : Nat} {v : Value} {ys : List Value}, w5.ownsRow (B + 1) e s v n ys → WF.ownsRow W.heap.size e s v n ys := fun h => ownsRow_base (ownsRow_only h hset (fun g hg e => by have e' : g = rb := e; have := own_block_base h hg; omega)) (Nat.le_trans HWB.out (Nat.le_succ B))
          have HGF : Hid (GOwn WF W.heap.size p1 c1 acc) := hide ⟨hkeep HG5.out.own, fun x hx => hkeep (HG5.out.ins x hx)⟩
          clear o5 hset hWF hkeep HG5 HB5 HGO HRX HON
          go_wp2
          rw [← HWF.out]
          refine bodyPost_ret (results_row_tmp rfl _ _ rb 24 _ _ _ rfl HE.out Try.underlying24 rfl (by kernel_rfl)) rfl ?_
          exact ⟨p1, c1, acc, m, rfl, HAL.out, rfl, HGF.out, HBF.out⟩
        · rw [if_neg hk] at hhr
          simp only [Prod.mk.injEq] at hhr
          obtain ⟨rfl, rfl, rfl⟩ := hhr
          have ne2 : (k2 != 0) = true := by simpa using hk
          obtain ⟨f0, f1, f2, f3⟩ := graph_facts o5 (.int .i64 0)
          have hset := only_set2 w5 rb (.int .i64 0) (.slice none 0 0)
          have HE := hide (set2 o5 (.int .i64 0) (.slice none 0 0))
          have HBF := hide (HB5.out.trans (hset.below HB5.out.size (fun i e => by have e' : i = rb := e; have := HGB.out; omega)))
          clear o5 hset HG5 HB5 HGO HRX HON hk
          go_wp2
          refine bodyPost_ret (results_row_tmp rfl _ _ rb 24 _ _ _ rfl HE.out Try.underlying24 rfl (by kernel_rfl)) rfl ?_
          exact ⟨none, 0, [], 0, rfl, rfl, rfl, ⟨World.ownsRow_nil _ _ _ _, fun x hx => absurd hx (by simp)⟩, HBF.out⟩
      · unfold endG at hhr
        rw [if_neg hc] at hhr
        simp only [Prod.mk.injEq] at hhr
        obtain ⟨rfl, rfl, rfl⟩ := hhr
        have ne2 : (cc != 0) = true := by simpa using hc
        obtain ⟨f0, f1, f2, f3⟩ := graph_facts HRX.out (.int .i64 0)
        have hset := only_set2 wy rb (.int .i64 0) (.slice none 0 0)
        have HE := hide (set2 HRX.out (.int .i64 0) (.slice none 0 0))
        have HBF := hide (HON.out.trans (hset.below HON.out.size (fun i e => by have e' : i = rb := e; have := HGB.out; omega)))
        clear hset HGO HRX HON hc HCK b0 b1
        go_wp2
        refine bodyPost_ret (results_row_tmp rfl _ _ rb 24 _ _ _ rfl HE.out Try.underlying24 rfl (by kernel_rfl)) rfl ?_
        exact ⟨none, 0, [], 0, rfl, rfl, rfl, ⟨World.ownsRow_nil _ _ _ _, fun x hx => absurd hx (by simp)⟩, HBF.out⟩
end Go.Proofs.Ytdngjpbefcbodaa
