/-
  OperStays walked. The conditions: lengths, numbers of their types.
-/
import Derived.Test.YtkibiappjegogaaOsu
import Derived.Test.YtkibiappjegogaaOar
import Derived.Test.YtkibiappjegogaaOlv
import Derived.Test.YtkibiappjegogaaQui
namespace Go.Proofs.Ytkibiappjegogaa
open Go.RowKit

theorem turn_zero (kd : Int) (m : Nat) : turnOK kd 0 m := by unfold turnOK; rw [if_neg (by omega)]
theorem keys_zero (kd ar : Int) : keysOK kd ar [] := by
  unfold keysOK
  split
  · intro j hj; simp at hj
  · rfl
theorem nrow_nil (W : World) : KRow W none 0 [] := ⟨Nat.le_refl _, by decide, fun _ => rfl, fun i hi => by simp at hi⟩
structure PRow (W : World) (p : Option Addr) (cap : Nat) (ps : List PU) : Prop where
  le : ps.length ≤ cap
  top : cap ≤ 9223372036854775807
  cell : ∀ i, i < ps.length → ∃ g o, p = some ⟨g, o, none⟩ ∧ ∀ j, j < 3 → W.cell? ⟨g, o + i * 3 + j, none⟩ = (PU.cells ps[i]!)[j]?
theorem PRow.of_own {W : World} {base n cap : Nat} {p : Option Addr} {ps : List PU} (hn : ps.length = n) (h : W.ownsRow base 43 3 (.slice p n cap) n (ps.flatMap PU.cells)) : PRow W p cap ps := by
  obtain ⟨h1, h2, _, h4⟩ := own_list (cells := PU.cells) (fun o _ => o.len) hn h
  exact ⟨by omega, h2, h4⟩
theorem PRow.later {W W' : World} {p : Option Addr} {cap : Nat} {ps : List PU} (h : PRow W p cap ps) (hb : Below W.heap.size W W') : PRow W' p cap ps :=
  ⟨h.le, h.top, fun i hi => by
    obtain ⟨g, o, e, hc⟩ := h.cell i hi
    refine ⟨g, o, e, fun j hj => ?_⟩
    have h5 := hc j hj
    rw [List.getElem?_eq_getElem (by rw [PU.len]; exact hj)] at h5 ⊢
    exact cell_later hb h5⟩
/-- What a round over the records keeps: the state, in its box. -/
def StI (V : World) (B xB : Nat) (kd ar tn : Int) (m : Nat) (X : World) : Prop :=
  ∃ (p : Option Addr) (n c : Nat) (ks : List KS), X.heap[xB]? = some (.cells #[.slice p n c, .int .i64 tn] 28 (0, 0)) ∧ KRow X p c ks ∧ ks.length = n ∧ n ≤ m ∧ keysOK kd ar ks ∧ Below B V X
attribute [local irreducible] wpQuiet in
set_option maxRecDepth 100000 in
set_option maxHeartbeats 16000000 in
theorem stays_walk {W : World} {parts tn : Int} {gp lp sp : Option Addr} {gcap lc sc sn gl rl : Nat} {os : List Op.OV} {rs : List RC} {ks : List KS} (hg : Op.GRow W gp gcap os) (hgl : os.length = gl) (hgf : ∀ o ∈ os, I6 o.o.arg) (hr : RRow W lp lc rs) (hrl : rs.length = rl) (hrf : ∀ r ∈ rs, I6 r.key ∧ I6 r.val) (hk : KRow W sp sc ks) (hkn : ks.length = sn) (hbd : sn + rl ≤ 1048576) :
    Calls Try.prog 3 #[.agg #[.int .i64 parts, .slice gp gl gcap], .slice lp rl lc, .agg #[.slice sp sn sc, .int .i64 tn]] W fun e w' => e = .returned (.bool true) ∧ Below W.heap.size W w' := by
  obtain ⟨V1, hV1⟩ : ∃ V, V = W.alloc (.cells #[.int .i64 parts, .slice gp gl gcap] 24 (0, 0)) := ⟨_, rfl⟩
  obtain ⟨V, hV⟩ : ∃ V, V = V1.alloc (.cells #[.slice sp sn sc, .int .i64 tn] 28 (0, 0)) := ⟨_, rfl⟩
  obtain ⟨gB, hgB⟩ : ∃ gB, W.heap.size = gB := ⟨_, rfl⟩
  obtain ⟨sB, hsB⟩ : ∃ sB, gB + 1 = sB := ⟨_, rfl⟩
  have s1 : V1.heap.size = sB := by rw [hV1, ← hsB, ← hgB]; simp
  have b1 : Below W.heap.size W V1 := by rw [hV1]; exact alloc_below _ _
  have b2 : Below V1.heap.size V1 V := by rw [hV]; exact alloc_below _ _
  have u1 : V1.heap[gB]? = some (.cells #[.int .i64 parts, .slice gp gl gcap] 24 (0, 0)) := by rw [hV1, ← hgB]; exact heap_alloc_new W _
  have u2 : V.heap[sB]? = some (.cells #[.slice sp sn sc, .int .i64 tn] 28 (0, 0)) := by rw [hV, ← s1]; exact heap_alloc_new V1 _
  have bV : Below W.heap.size W V := b1.trans (b2.mono (by omega))
  obtain ⟨B, hB⟩ : ∃ B, V.heap.size = B := ⟨_, rfl⟩
  have HBE := hide hB
  have HFR : Hid (∀ X, Below B V X → X.heap[gB]? = some (.cells #[.int .i64 parts, .slice gp gl gcap] 24 (0, 0)) ∧ X.heap[sB]? = some (.cells #[.slice sp sn sc, .int .i64 tn] 28 (0, 0)) ∧ Op.GRow X gp gcap os ∧ RRow X lp lc rs ∧ KRow X sp sc ks ∧ Below W.heap.size W X) := hide (fun X hX => by
    rw [← hB] at hX
    exact ⟨below_box hX (below_box b2 u1), below_box hX u2, (hg.below bV).below hX, (hr.below bV).below hX, (hk.later bV).later hX, bV.trans (hX.mono bV.size)⟩)
  have HGL := hide hgl
  have HGF := hide hgf
  have HRL := hide hrl
  have HRF := hide hrf
  have HKN := hide hkn
  have i1 := hg.le
  have i2 := hg.top
  rw [hgl] at i1
  have i3 := hr.le
  have i4 := hr.top
  rw [hrl] at i3
  clear hg hgl hgf hr hrl hrf hk hkn b1 b2 u1 u2 bV
  go_enter Try.func3, Try.ntmps3
  go_upto_region 1 with fail
  rw [← hV1, ← hV]
  try rw [hgB]
  try rw [hsB]
  clear hV1 hV hgB hsB s1
  go_wp2_with fail
  refine live_any.mono ?_
  rintro _ w1 ⟨rfl, b1⟩
  rw [hB] at b1
  have HB1 := hide b1
  obtain ⟨f1, f2, f3, f4, f5, f6⟩ := HFR.out w1 b1
  have x0 : w1.cell? ⟨gB, 0, none⟩ = some (.int .i64 parts) := by simp [World.cell?, f1]
  have x1 : w1.cell? ⟨gB, 1, none⟩ = some (.slice gp gl gcap) := by simp [World.cell?, f1]
  have HG1 := hide f3
  have hs1 : B ≤ w1.heap.size := by rw [← hB]; exact b1.size
  clear b1 hB f1 f2 f3 f4 f5 f6
  obtain ⟨rc, hrc⟩ : ∃ rc, Op.checkC parts (os.map Op.OV.o) = rc := ⟨_, rfl⟩
  have HRC := hide hrc
  clear hrc
  go_wp2_with fail
  have hrk := Op.rcheck_any (parts := parts) HG1.out
  rw [HGL.out, HRC.out] at hrk
  refine hrk.mono ?_
  rintro _ w2 ⟨rfl, b2⟩
  have HB2 := hide (HB1.out.trans (b2.mono hs1))
  have hs2 : B ≤ w2.heap.size := Nat.le_trans hs1 b2.size
  clear b2 hrk x0 x1 HG1 HB1
  obtain ⟨ri, er⟩ := rc
  by_cases he : er = 0
  · have HPO : Hid (∀ n, n < gl → ((os[n]!).o).kind ≠ 9 → 1 ≤ Op.portsC ((os[n]!).o).kind ((os[n]!).o).arg) := by
      refine hide (fun n hn h9 => ?_)
      have good := Op.good_of (parts := parts) (os := os.map Op.OV.o) (by rw [HRC.out]; exact he)
      have hl : n < (os.map Op.OV.o).length := by rw [List.length_map, HGL.out]; exact hn
      have e1 : (os.map Op.OV.o)[n]! = (os[n]!).o := by rw [getElem!_pos _ n hl, getElem!_pos os n (by rw [HGL.out]; exact hn)]; simp
      have h2 := good.ports hl (by rw [e1]; exact h9)
      unfold Op.portsO at h2
      rw [e1] at h2
      exact h2
    subst he
    obtain ⟨f1, _, f3, _, _, _⟩ := HFR.out w2 HB2.out
    have x1 : w2.cell? ⟨gB, 1, none⟩ = some (.slice gp gl gcap) := by simp [World.cell?, f1]
    clear f1 f3
    go_wp2_with fail
    go_loopw [30] (fun i wr => ∃ k : Nat, k ≤ gl ∧ i = .int .i64 (k : Int) ∧ Hid (Below B V wr)) (fun i _ => gl - (intOf i).toNat)
    case atStart => exact ⟨0, Nat.zero_le _, rfl, HB2⟩
    case round =>
      obtain ⟨k, hk, rfl, HB3⟩ := hrel
      clear HB2 x1
      have hs3 : B ≤ wr.heap.size := by rw [← HBE.out]; exact HB3.out.size
      by_cases hlt : k < gl
      · have hlo : k < os.length := by rw [HGL.out]; exact hlt
        obtain ⟨z, hz⟩ : ∃ z, os[k]! = z := ⟨_, rfl⟩
        obtain ⟨g, o, rfl, hc⟩ := (HFR.out _ HB3.out).2.2.1.cell k hlo
        have HPK0 := HPO.out k hlt
        have har := HGF.out os[k]! (by rw [getElem!_pos os k hlo]; exact List.getElem_mem _)
        rw [hz] at hc HPK0 har
        obtain ⟨⟨kd, pt, fn, ar, ins⟩, ip, ic⟩ := z
        simp only at HPK0 har
        have HPK := hide HPK0
        have HAR := hide har
        obtain ⟨m, hm⟩ : ∃ m, ins.length = m := ⟨_, rfl⟩
        have a0 := hc 0 (by decide)
        have a1 := hc 1 (by decide)
        have a2 := hc 2 (by decide)
        have a3 := hc 3 (by decide)
        have a4 := hc 4 (by decide)
        simp only [Op.OV.cells, List.getElem?_cons_zero, List.getElem?_cons_succ, Nat.add_zero, hm] at a0 a1 a2 a3 a4
        clear hc hz hlo har HPK0 hm
        go_upto_region 10 with fail
        obtain ⟨Y1, hY1⟩ : ∃ Y1, Y1 = wr.alloc (.cells #[.int .i64 kd, .int .i64 pt, .int .i64 fn, .int .i64 ar, .slice ip m ic] 35 (0, 0)) := ⟨_, rfl⟩
        obtain ⟨Z, hZ⟩ : ∃ Z, Z = Y1.alloc (.cells #[.slice none 0 0, .int .i64 0] 28 (0, 0)) := ⟨_, rfl⟩
        rw [← hY1, ← hZ]
        obtain ⟨oB, hoB⟩ : ∃ oB, wr.heap.size = oB := ⟨_, rfl⟩
        obtain ⟨xB, hxB⟩ : ∃ xB, oB + 1 = xB := ⟨_, rfl⟩
        have s1 : Y1.heap.size = xB := by rw [hY1, ← hxB, ← hoB]; simp
        have bY1 : Below wr.heap.size wr Y1 := by rw [hY1]; exact alloc_below _ _
        have bZ : Below Y1.heap.size Y1 Z := by rw [hZ]; exact alloc_below _ _
        have h1' : Y1.heap[oB]? = some (.cells #[.int .i64 kd, .int .i64 pt, .int .i64 fn, .int .i64 ar, .slice ip m ic] 35 (0, 0)) := by rw [hY1, ← hoB]; exact heap_alloc_new wr _
        have h1 := below_box bZ h1'
        have h2 : Z.heap[xB]? = some (.cells #[.slice none 0 0, .int .i64 0] 28 (0, 0)) := by rw [hZ, ← s1]; exact heap_alloc_new Y1 _
        have hxs0 : B ≤ oB := by omega
        have bWZ : Below wr.heap.size wr Z := bY1.trans (bZ.mono (by omega))
        have HBZ0 := hide (HB3.out.trans (bWZ.mono hs3))
        have hsZ : wr.heap.size ≤ Z.heap.size := bWZ.size
        obtain ⟨_, t2, _, _, t5, _⟩ := HFR.out Z HBZ0.out
        have c0 : Z.cell? ⟨oB, 0, none⟩ = some (.int .i64 kd) := by simp [World.cell?, h1]
        have c1 : Z.cell? ⟨oB, 1, none⟩ = some (.int .i64 pt) := by simp [World.cell?, h1]
        have c2 : Z.cell? ⟨oB, 2, none⟩ = some (.int .i64 fn) := by simp [World.cell?, h1]
        have c3 : Z.cell? ⟨oB, 3, none⟩ = some (.int .i64 ar) := by simp [World.cell?, h1]
        have c4 : Z.cell? ⟨oB, 4, none⟩ = some (.slice ip m ic) := by simp [World.cell?, h1]
        have c5 : Z.cell? ⟨sB, 0, none⟩ = some (.slice sp sn sc) := by simp [World.cell?, t2]
        have c6 : Z.cell? ⟨sB, 1, none⟩ = some (.int .i64 tn) := by simp [World.cell?, t2]
        have HKS := hide t5
        have H1 := hide h1
        have H2 := hide h2
        try rw [hoB]
        try rw [hxB]
        have hox : oB < xB := by omega
        clear hY1 hZ hoB hxB s1 bY1 bZ h1' h1 h2 bWZ t2 t5 a0 a1 a2 a3 a4 HB3
        by_cases hok : turnOK kd tn m ∧ keysOK kd ar ks
        · go_wp2_with fail
          refine (ocheck_any HKS.out HKN.out (er := 0) (if_pos hok)).mono ?_
          rintro _ w4 ⟨rfl, b4⟩
          have HTO : Hid (turnOK kd tn m) := hide hok.1
          have HKO := hide hok.2
          have h1 := below_box b4 H1.out
          have h2 := below_box b4 H2.out
          have HB4 := hide (HBZ0.out.trans (b4.mono (by omega)))
          have hs4 : Z.heap.size ≤ w4.heap.size := b4.size
          have t2 := (HFR.out w4 HB4.out).2.1
          have d0 : w4.cell? ⟨xB, 0, none⟩ = some (.slice none 0 0) := by simp [World.cell?, h2]
          have d1 : w4.cell? ⟨xB, 1, none⟩ = some (.int .i64 0) := by simp [World.cell?, h2]
          have d2 : w4.frozen? ⟨xB, 0, none⟩ = false := by simp [World.frozen?, h2]
          have d3 : w4.frozen? ⟨xB, 1, none⟩ = false := by simp [World.frozen?, h2]
          have e5 : w4.cell? ⟨sB, 0, none⟩ = some (.slice sp sn sc) := by simp [World.cell?, t2]
          have e6 : w4.cell? ⟨sB, 1, none⟩ = some (.int .i64 tn) := by simp [World.cell?, t2]
          have hO : Only (· = xB) w4 ((w4.setCell ⟨xB, 0, none⟩ (.slice sp sn sc)).setCell ⟨xB, 1, none⟩ (.int .i64 tn)) := (Only.set (F := (· = xB)) w4 xB 0 _ rfl).trans (Only.set (F := (· = xB)) _ xB 1 _ rfl)
          have hBF := HB4.out.trans (hO.below (by omega) (fun b e => by have e' : b = xB := e; omega))
          have HST : Hid (StI V B xB kd ar tn (sn + 0) ((w4.setCell ⟨xB, 0, none⟩ (.slice sp sn sc)).setCell ⟨xB, 1, none⟩ (.int .i64 tn))) := hide ⟨sp, sn, sc, ks, heap_setS (heap_setS h2 0 _) 1 _, (HFR.out _ hBF).2.2.2.2.1, HKN.out, by omega, HKO.out, hBF⟩
          have HOZ := hide (hO.obj h1 (fun e => by have e' : oB = xB := e; omega))
          clear b4 h1 h2 t2 hO hBF c0 c1 c2 c3 c4 c5 c6 hok HKS
          go_wp2_with fail
          go_loopw [42] (fun i wq => ∃ j : Nat, j ≤ rl ∧ i = .int .i64 (j : Int) ∧ Hid (StI V B xB kd ar tn (sn + j) wq) ∧ Hid (wq.heap[oB]? = some (.cells #[.int .i64 kd, .int .i64 pt, .int .i64 fn, .int .i64 ar, .slice ip m ic] 35 (0, 0)))) (fun i _ => rl - (intOf i).toNat)
          case atStart => exact ⟨0, Nat.zero_le _, rfl, HST, HOZ⟩
          case round =>
            obtain ⟨j, hj, rfl, HI, HOQ⟩ := hrel
            rename World => wq
            clear HST HOZ
            obtain ⟨p, n, c, kx, hx1, hx2, hx3, hx4, hx5, hx6⟩ := HI.out
            have HX1 := hide hx1
            have HX2 := hide hx2
            have HX3 := hide hx3
            have HX5 := hide hx5
            have HX6 := hide hx6
            clear hx1 hx2 hx3 hx5 hx6 HI
            have hsq : B ≤ wq.heap.size := by rw [← HBE.out]; exact HX6.out.size
            by_cases hlt2 : j < rl
            · have hlr : j < rs.length := by rw [HRL.out]; exact hlt2
              obtain ⟨y, hy⟩ : ∃ y, rs[j]! = y := ⟨_, rfl⟩
              obtain ⟨g2, o2, rfl, hc2⟩ := (HFR.out _ HX6.out).2.2.2.1.cell j hlr
              rw [hy] at hc2
              have e0 := hc2 0 (by decide)
              have e1 := hc2 1 (by decide)
              have HYF : Hid (I6 y.key ∧ I6 y.val) := hide (HRF.out y (by rw [← hy, getElem!_pos rs j hlr]; exact List.getElem_mem _))
              obtain ⟨ky, vl⟩ := y
              simp only [RC.cells, List.getElem?_cons_zero, List.getElem?_cons_succ, Nat.add_zero] at e0 e1
              simp only at HYF
              clear hc2 hy hlr
              go_upto_region 15 with fail
              obtain ⟨Y, hY⟩ : ∃ Y, Y = wq.alloc (.cells #[.int .i64 ky, .int .i64 vl] 38 (0, 0)) := ⟨_, rfl⟩
              rw [← hY]
              have bY : Below wq.heap.size wq Y := by rw [hY]; exact alloc_below _ _
              obtain ⟨rB, hrB⟩ : ∃ rB, wq.heap.size = rB := ⟨_, rfl⟩
              have h3 : Y.heap[rB]? = some (.cells #[.int .i64 ky, .int .i64 vl] 38 (0, 0)) := by rw [hY, ← hrB]; exact heap_alloc_new wq _
              have h1 := below_box bY HOQ.out
              have h2 := below_box bY HX1.out
              have c0 : Y.cell? ⟨oB, 0, none⟩ = some (.int .i64 kd) := by simp [World.cell?, h1]
              have c1 : Y.cell? ⟨oB, 1, none⟩ = some (.int .i64 pt) := by simp [World.cell?, h1]
              have c2 : Y.cell? ⟨oB, 2, none⟩ = some (.int .i64 fn) := by simp [World.cell?, h1]
              have c3 : Y.cell? ⟨oB, 3, none⟩ = some (.int .i64 ar) := by simp [World.cell?, h1]
              have c4 : Y.cell? ⟨oB, 4, none⟩ = some (.slice ip m ic) := by simp [World.cell?, h1]
              have c5 : Y.cell? ⟨xB, 0, none⟩ = some (.slice p n c) := by simp [World.cell?, h2]
              have c6 : Y.cell? ⟨xB, 1, none⟩ = some (.int .i64 tn) := by simp [World.cell?, h2]
              have c7 : Y.cell? ⟨rB, 0, none⟩ = some (.int .i64 ky) := by simp [World.cell?, h3]
              have c8 : Y.cell? ⟨rB, 1, none⟩ = some (.int .i64 vl) := by simp [World.cell?, h3]
              have HK4 := hide (HX2.out.later bY)
              have HB4 := hide (HX6.out.trans (bY.mono hsq))
              have HO4 := hide h1
              have HXB := hide h2
              have hs4 : B ≤ Y.heap.size := Nat.le_trans hsq bY.size
              have hxs : xB < Y.heap.size := (Array.getElem?_eq_some_iff.1 h2).1
              rw [hrB]
              clear hY bY hrB h1 h2 h3 e0 e1
              go_wp2_with fail
              refine (step_any HK4.out HX3.out (by omega) HX5.out HYF.out.1 HYF.out.2 HAR.out HPK.out).mono ?_
              rintro _ w5 ⟨pk, ck, K, po, co, N, k5, ps, rfl, g1, g2', g3, g4, g5, g6, g7, g8⟩
              have HKL := hide g1
              have HK5 := hide g3
              have HNL := hide g4
              have HPP := hide g5
              have HROW5 := hide g6
              have HPR5 := hide (PRow.of_own g4 g7)
              have HB5 := hide (HB4.out.trans (g8.mono hs4))
              have HO5 := hide (below_box g8 HO4.out)
              have HX5' := hide (below_box g8 HXB.out)
              have hs5 : Y.heap.size ≤ w5.heap.size := g8.size
              obtain ⟨_, _, efn, f91, f92⟩ := own_form g7
              simp only [Value.slice.injEq, true_and] at efn
              obtain ⟨rfl, rfl⟩ := efn
              clear g1 g3 g4 g5 g6 g7 g8 c0 c1 c2 c3 c4 c5 c6 c7 c8 HK4 HB4 HO4 HXB
              go_upto_region 16 with fail
              obtain ⟨Y6, hY6⟩ : ∃ Y6, Y6 = w5.alloc (.cells #[.slice pk K ck, .int .i64 tn] 28 (0, 0)) := ⟨_, rfl⟩
              rw [← hY6]
              have bY6 : Below w5.heap.size w5 Y6 := by rw [hY6]; exact alloc_below _ _
              obtain ⟨yB, hyB⟩ : ∃ yB, w5.heap.size = yB := ⟨_, rfl⟩
              have h3 : Y6.heap[yB]? = some (.cells #[.slice pk K ck, .int .i64 tn] 28 (0, 0)) := by rw [hY6, ← hyB]; exact heap_alloc_new w5 _
              have h1 := below_box bY6 HO5.out
              have c0 : Y6.cell? ⟨oB, 0, none⟩ = some (.int .i64 kd) := by simp [World.cell?, h1]
              have c1 : Y6.cell? ⟨oB, 1, none⟩ = some (.int .i64 pt) := by simp [World.cell?, h1]
              have c2 : Y6.cell? ⟨oB, 2, none⟩ = some (.int .i64 fn) := by simp [World.cell?, h1]
              have c3 : Y6.cell? ⟨oB, 3, none⟩ = some (.int .i64 ar) := by simp [World.cell?, h1]
              have c4 : Y6.cell? ⟨oB, 4, none⟩ = some (.slice ip m ic) := by simp [World.cell?, h1]
              have c5 : Y6.cell? ⟨yB, 0, none⟩ = some (.slice pk K ck) := by simp [World.cell?, h3]
              have c6 : Y6.cell? ⟨yB, 1, none⟩ = some (.int .i64 tn) := by simp [World.cell?, h3]
              have hs6 : w5.heap.size ≤ Y6.heap.size := bY6.size
              have hsB5 : B ≤ w5.heap.size := by omega
              have HB6 := hide (HB5.out.trans (bY6.mono hsB5))
              have HROW6 := hide (ownsRow_later HROW5.out bY6)
              have HPR6 := hide (HPR5.out.later bY6)
              have HO6 := hide h1
              have HX6' := hide (below_box bY6 HX5'.out)
              have HY6 := hide h3
              rw [hyB]
              clear hY6 bY6 hyB h1 h3 HB5 HROW5 HPR5 HO5 HX5'
              go_wp2_with fail
              refine (ocheck_any (KRow.of_own HKL.out HROW6.out) HKL.out (er := 0) (if_pos ⟨HTO.out, HK5.out⟩)).mono ?_
              rintro _ w7 ⟨rfl, b7⟩
              have hs7 : Y6.heap.size ≤ w7.heap.size := b7.size
              have HB7 := hide (HB6.out.trans (b7.mono (by omega)))
              have HROW7 := hide (ownsRow_later HROW6.out b7)
              have HPR7 := hide (HPR6.out.later b7)
              have HO7 := hide (below_box b7 HO6.out)
              have HX7 := hide (below_box b7 HX6'.out)
              have HY7 := hide (below_box b7 HY6.out)
              clear b7 c0 c1 c2 c3 c4 c5 c6 HB6 HROW6 HPR6 HO6 HX6' HY6
              go_wp2_with fail
              go_loopw [59] (fun i wp => ∃ a : Nat, a ≤ N ∧ i = .int .i64 (a : Int) ∧ Hid (Below w7.heap.size w7 wp)) (fun i _ => N - (intOf i).toNat)
              case atStart => exact ⟨0, Nat.zero_le _, rfl, hide (Below.refl _ _)⟩
              case round =>
                obtain ⟨a, ha, rfl, HBp⟩ := hrel
                rename World => wp
                by_cases hlt3 : a < N
                · have hla : a < ps.length := by rw [HNL.out]; exact hlt3
                  obtain ⟨y, hy⟩ : ∃ y, ps[a]! = y := ⟨_, rfl⟩
                  obtain ⟨g3, o3, rfl, hc3⟩ := (HPR7.out.later HBp.out).cell a hla
                  rw [hy] at hc3
                  have e0 := hc3 0 (by decide)
                  have e1 := hc3 1 (by decide)
                  have e2 := hc3 2 (by decide)
                  have hpo := HPP.out y (by rw [← hy, getElem!_pos ps a hla]; exact List.getElem_mem _)
                  obtain ⟨pp, pk1, pv⟩ := y
                  simp only [PU.cells, List.getElem?_cons_zero, List.getElem?_cons_succ, Nat.add_zero] at e0 e1 e2
                  simp only at hpo
                  obtain ⟨PT, hPT⟩ : ∃ PT, Op.portsC kd ar = PT := ⟨_, rfl⟩
                  rw [hPT] at hpo
                  have HPT := hide hPT
                  have q1 : decide (pp < 0) = false := decide_eq_false (by omega)
                  have q2 : decide (pp ≥ PT) = false := decide_eq_false (by omega)
                  clear hc3 hy hla hPT hpo
                  go_upto_region 21 with fail
                  obtain ⟨Y, hY⟩ : ∃ Y, Y = wp.alloc (.cells #[.int .i64 pp, .int .i64 pk1, .int .i64 pv] 43 (0, 0)) := ⟨_, rfl⟩
                  rw [← hY]
                  have bY : Below wp.heap.size wp Y := by rw [hY]; exact alloc_below _ _
                  obtain ⟨qB, hqB⟩ : ∃ qB, wp.heap.size = qB := ⟨_, rfl⟩
                  have h3 : Y.heap[qB]? = some (.cells #[.int .i64 pp, .int .i64 pk1, .int .i64 pv] 43 (0, 0)) := by rw [hY, ← hqB]; exact heap_alloc_new wp _
                  have HB7' := hide (HBp.out.trans (bY.mono HBp.out.size))
                  have HSS : Hid (∀ X, Below Y.heap.size Y X → ((((X.cell? ⟨oB, 0, none⟩ = some (.int .i64 kd) ∧ X.cell? ⟨oB, 1, none⟩ = some (.int .i64 pt)) ∧ X.cell? ⟨oB, 2, none⟩ = some (.int .i64 fn) ∧ X.cell? ⟨oB, 3, none⟩ = some (.int .i64 ar)) ∧ X.cell? ⟨oB, 4, none⟩ = some (.slice ip m ic)) ∧ X.cell? ⟨qB, 0, none⟩ = some (.int .i64 pp))) := hide (fun X hX => by
                    have h1 := below_box (HB7'.out.trans (hX.mono HB7'.out.size)) HO7.out
                    have h2 := below_box hX h3
                    refine ⟨⟨⟨⟨?_, ?_⟩, ?_, ?_⟩, ?_⟩, ?_⟩ <;> simp [World.cell?, h1, h2])
                  rw [hqB]
                  clear hY bY hqB h3 e0 e1 e2
                  refine region_class (fun X => Below Y.heap.size Y X) (by kernel_rfl) (by kernel_rfl) (Below.refl _ Y).drew ?_
                  repeat
                    first
                      | (refine BigFrame.wpQuiet_skip (by rfl) ?_
                         simp only [Act.put, List.setIfInBounds_toArray, List.set_cons_zero, List.set_cons_succ])
                      | (refine BigFrame.wpQuiet_want (by rfl) (fun K hK => ?_)
                         unfold Oper.quiet
                         apply Exists.intro
                         refine ⟨fun X hX => ?_, hK _ ?_⟩
                         · obtain ⟨⟨⟨⟨o0, o1⟩, o2, o3⟩, o4⟩, z0⟩ := HSS.out _ hX
                           first
                            | (go_simp; done)
                            | (go_simp; exact rfl)
                            | (go_simp
                               first
                               | (go_at_call 10; refine Op.rports_any.mono ?_; rintro e w3 ⟨rfl, hb3⟩; rw [HPT.out]; exact ⟨rfl, hX.trans (hb3.mono hX.size)⟩))
                         clear hK K
                         simp only [Act.put, List.setIfInBounds_toArray, List.set_cons_zero, List.set_cons_succ])
                  refine wpQuiet_nil (fun X hX => ?_)
                  have HB8 := hide (HB7'.out.trans (hX.mono HB7'.out.size))
                  clear hX
                  clear HSS
                  go_wp2
                  exact ⟨⟨a + 1, by omega, by first | rfl | go_num, HB8⟩, by simp [intOf]; omega⟩
                · obtain rfl : a = N := by omega
                  have h1 := below_box HBp.out HX7.out
                  have h3 := below_box HBp.out HY7.out
                  have c5 : wp.cell? ⟨yB, 0, none⟩ = some (.slice pk K ck) := by simp [World.cell?, h3]
                  have c6 : wp.cell? ⟨yB, 1, none⟩ = some (.int .i64 tn) := by simp [World.cell?, h3]
                  have d0 : wp.cell? ⟨xB, 0, none⟩ = some (.slice p n c) := by simp [World.cell?, h1]
                  have d1 : wp.cell? ⟨xB, 1, none⟩ = some (.int .i64 tn) := by simp [World.cell?, h1]
                  have d2 : wp.frozen? ⟨xB, 0, none⟩ = false := by simp [World.frozen?, h1]
                  have d3 : wp.frozen? ⟨xB, 1, none⟩ = false := by simp [World.frozen?, h1]
                  have hO : Only (· = xB) wp ((wp.setCell ⟨xB, 0, none⟩ (.slice pk K ck)).setCell ⟨xB, 1, none⟩ (.int .i64 tn)) := (Only.set (F := (· = xB)) wp xB 0 _ rfl).trans (Only.set (F := (· = xB)) _ xB 1 _ rfl)
                  have hwp : B ≤ wp.heap.size := by have := HBp.out.size; omega
                  have HST2 : Hid (StI V B xB kd ar tn (sn + (j + 1)) ((wp.setCell ⟨xB, 0, none⟩ (.slice pk K ck)).setCell ⟨xB, 1, none⟩ (.int .i64 tn))) := hide ⟨pk, K, ck, k5, heap_setS (heap_setS h1 0 _) 1 _, KRow.of_own HKL.out (ownsRow_only (ownsRow_later HROW7.out HBp.out) hO (fun b hb e => by have e' : b = xB := e; have := own_block_base HROW7.out hb; omega)), HKL.out, by omega, HK5.out, (HB7.out.trans (HBp.out.mono (by omega))).trans (hO.below hwp (fun b e => by have e' : b = xB := e; omega))⟩
                  have HOQ2 := hide (hO.obj (below_box HBp.out HO7.out) (fun e => by have e' : oB = xB := e; omega))
                  clear hO h1 h3
                  go_wp2
                  exact ⟨⟨j + 1, by omega, by first | rfl | go_num, HST2, HOQ2⟩, by simp [intOf]; omega⟩
            · obtain rfl : j = rl := by omega
              go_wp2
              exact ⟨⟨k + 1, by omega, by first | rfl | go_num, HX6⟩, by simp [intOf]; omega⟩
        · go_wp2_with fail
          refine (ocheck_any HKS.out HKN.out (er := 70) (if_neg hok)).mono ?_
          rintro _ w4 ⟨rfl, b4⟩
          have HTO : Hid (turnOK kd 0 m) := hide (turn_zero _ _)
          have HB4 := hide (HBZ0.out.trans (b4.mono (by omega)))
          have HST : Hid (StI V B xB kd ar 0 (sn + 0) w4) := hide ⟨none, 0, 0, [], below_box b4 H2.out, nrow_nil _, rfl, by omega, keys_zero _ _, HB4.out⟩
          have HOZ := hide (below_box b4 H1.out)
          clear b4 c0 c1 c2 c3 c4 c5 c6 hok HKS
          go_wp2_with fail
          go_loopw [42] (fun i wq => ∃ j : Nat, j ≤ rl ∧ i = .int .i64 (j : Int) ∧ Hid (StI V B xB kd ar 0 (sn + j) wq) ∧ Hid (wq.heap[oB]? = some (.cells #[.int .i64 kd, .int .i64 pt, .int .i64 fn, .int .i64 ar, .slice ip m ic] 35 (0, 0)))) (fun i _ => rl - (intOf i).toNat)
          case atStart => exact ⟨0, Nat.zero_le _, rfl, HST, HOZ⟩
          case round =>
            obtain ⟨j, hj, rfl, HI, HOQ⟩ := hrel
            rename World => wq
            clear HST HOZ
            obtain ⟨p, n, c, kx, hx1, hx2, hx3, hx4, hx5, hx6⟩ := HI.out
            have HX1 := hide hx1
            have HX2 := hide hx2
            have HX3 := hide hx3
            have HX5 := hide hx5
            have HX6 := hide hx6
            clear hx1 hx2 hx3 hx5 hx6 HI
            have hsq : B ≤ wq.heap.size := by rw [← HBE.out]; exact HX6.out.size
            by_cases hlt2 : j < rl
            · have hlr : j < rs.length := by rw [HRL.out]; exact hlt2
              obtain ⟨y, hy⟩ : ∃ y, rs[j]! = y := ⟨_, rfl⟩
              obtain ⟨g2, o2, rfl, hc2⟩ := (HFR.out _ HX6.out).2.2.2.1.cell j hlr
              rw [hy] at hc2
              have e0 := hc2 0 (by decide)
              have e1 := hc2 1 (by decide)
              have HYF : Hid (I6 y.key ∧ I6 y.val) := hide (HRF.out y (by rw [← hy, getElem!_pos rs j hlr]; exact List.getElem_mem _))
              obtain ⟨ky, vl⟩ := y
              simp only [RC.cells, List.getElem?_cons_zero, List.getElem?_cons_succ, Nat.add_zero] at e0 e1
              simp only at HYF
              clear hc2 hy hlr
              go_upto_region 15 with fail
              obtain ⟨Y, hY⟩ : ∃ Y, Y = wq.alloc (.cells #[.int .i64 ky, .int .i64 vl] 38 (0, 0)) := ⟨_, rfl⟩
              rw [← hY]
              have bY : Below wq.heap.size wq Y := by rw [hY]; exact alloc_below _ _
              obtain ⟨rB, hrB⟩ : ∃ rB, wq.heap.size = rB := ⟨_, rfl⟩
              have h3 : Y.heap[rB]? = some (.cells #[.int .i64 ky, .int .i64 vl] 38 (0, 0)) := by rw [hY, ← hrB]; exact heap_alloc_new wq _
              have h1 := below_box bY HOQ.out
              have h2 := below_box bY HX1.out
              have c0 : Y.cell? ⟨oB, 0, none⟩ = some (.int .i64 kd) := by simp [World.cell?, h1]
              have c1 : Y.cell? ⟨oB, 1, none⟩ = some (.int .i64 pt) := by simp [World.cell?, h1]
              have c2 : Y.cell? ⟨oB, 2, none⟩ = some (.int .i64 fn) := by simp [World.cell?, h1]
              have c3 : Y.cell? ⟨oB, 3, none⟩ = some (.int .i64 ar) := by simp [World.cell?, h1]
              have c4 : Y.cell? ⟨oB, 4, none⟩ = some (.slice ip m ic) := by simp [World.cell?, h1]
              have c5 : Y.cell? ⟨xB, 0, none⟩ = some (.slice p n c) := by simp [World.cell?, h2]
              have c6 : Y.cell? ⟨xB, 1, none⟩ = some (.int .i64 0) := by simp [World.cell?, h2]
              have c7 : Y.cell? ⟨rB, 0, none⟩ = some (.int .i64 ky) := by simp [World.cell?, h3]
              have c8 : Y.cell? ⟨rB, 1, none⟩ = some (.int .i64 vl) := by simp [World.cell?, h3]
              have HK4 := hide (HX2.out.later bY)
              have HB4 := hide (HX6.out.trans (bY.mono hsq))
              have HO4 := hide h1
              have HXB := hide h2
              have hs4 : B ≤ Y.heap.size := Nat.le_trans hsq bY.size
              have hxs : xB < Y.heap.size := (Array.getElem?_eq_some_iff.1 h2).1
              rw [hrB]
              clear hY bY hrB h1 h2 h3 e0 e1
              go_wp2_with fail
              refine (step_any HK4.out HX3.out (by omega) HX5.out HYF.out.1 HYF.out.2 HAR.out HPK.out).mono ?_
              rintro _ w5 ⟨pk, ck, K, po, co, N, k5, ps, rfl, g1, g2', g3, g4, g5, g6, g7, g8⟩
              have HKL := hide g1
              have HK5 := hide g3
              have HNL := hide g4
              have HPP := hide g5
              have HROW5 := hide g6
              have HPR5 := hide (PRow.of_own g4 g7)
              have HB5 := hide (HB4.out.trans (g8.mono hs4))
              have HO5 := hide (below_box g8 HO4.out)
              have HX5' := hide (below_box g8 HXB.out)
              have hs5 : Y.heap.size ≤ w5.heap.size := g8.size
              obtain ⟨_, _, efn, f91, f92⟩ := own_form g7
              simp only [Value.slice.injEq, true_and] at efn
              obtain ⟨rfl, rfl⟩ := efn
              clear g1 g3 g4 g5 g6 g7 g8 c0 c1 c2 c3 c4 c5 c6 c7 c8 HK4 HB4 HO4 HXB
              go_upto_region 16 with fail
              obtain ⟨Y6, hY6⟩ : ∃ Y6, Y6 = w5.alloc (.cells #[.slice pk K ck, .int .i64 0] 28 (0, 0)) := ⟨_, rfl⟩
              rw [← hY6]
              have bY6 : Below w5.heap.size w5 Y6 := by rw [hY6]; exact alloc_below _ _
              obtain ⟨yB, hyB⟩ : ∃ yB, w5.heap.size = yB := ⟨_, rfl⟩
              have h3 : Y6.heap[yB]? = some (.cells #[.slice pk K ck, .int .i64 0] 28 (0, 0)) := by rw [hY6, ← hyB]; exact heap_alloc_new w5 _
              have h1 := below_box bY6 HO5.out
              have c0 : Y6.cell? ⟨oB, 0, none⟩ = some (.int .i64 kd) := by simp [World.cell?, h1]
              have c1 : Y6.cell? ⟨oB, 1, none⟩ = some (.int .i64 pt) := by simp [World.cell?, h1]
              have c2 : Y6.cell? ⟨oB, 2, none⟩ = some (.int .i64 fn) := by simp [World.cell?, h1]
              have c3 : Y6.cell? ⟨oB, 3, none⟩ = some (.int .i64 ar) := by simp [World.cell?, h1]
              have c4 : Y6.cell? ⟨oB, 4, none⟩ = some (.slice ip m ic) := by simp [World.cell?, h1]
              have c5 : Y6.cell? ⟨yB, 0, none⟩ = some (.slice pk K ck) := by simp [World.cell?, h3]
              have c6 : Y6.cell? ⟨yB, 1, none⟩ = some (.int .i64 0) := by simp [World.cell?, h3]
              have hs6 : w5.heap.size ≤ Y6.heap.size := bY6.size
              have hsB5 : B ≤ w5.heap.size := by omega
              have HB6 := hide (HB5.out.trans (bY6.mono hsB5))
              have HROW6 := hide (ownsRow_later HROW5.out bY6)
              have HPR6 := hide (HPR5.out.later bY6)
              have HO6 := hide h1
              have HX6' := hide (below_box bY6 HX5'.out)
              have HY6 := hide h3
              rw [hyB]
              clear hY6 bY6 hyB h1 h3 HB5 HROW5 HPR5 HO5 HX5'
              go_wp2_with fail
              refine (ocheck_any (KRow.of_own HKL.out HROW6.out) HKL.out (er := 0) (if_pos ⟨HTO.out, HK5.out⟩)).mono ?_
              rintro _ w7 ⟨rfl, b7⟩
              have hs7 : Y6.heap.size ≤ w7.heap.size := b7.size
              have HB7 := hide (HB6.out.trans (b7.mono (by omega)))
              have HROW7 := hide (ownsRow_later HROW6.out b7)
              have HPR7 := hide (HPR6.out.later b7)
              have HO7 := hide (below_box b7 HO6.out)
              have HX7 := hide (below_box b7 HX6'.out)
              have HY7 := hide (below_box b7 HY6.out)
              clear b7 c0 c1 c2 c3 c4 c5 c6 HB6 HROW6 HPR6 HO6 HX6' HY6
              go_wp2_with fail
              go_loopw [59] (fun i wp => ∃ a : Nat, a ≤ N ∧ i = .int .i64 (a : Int) ∧ Hid (Below w7.heap.size w7 wp)) (fun i _ => N - (intOf i).toNat)
              case atStart => exact ⟨0, Nat.zero_le _, rfl, hide (Below.refl _ _)⟩
              case round =>
                obtain ⟨a, ha, rfl, HBp⟩ := hrel
                rename World => wp
                by_cases hlt3 : a < N
                · have hla : a < ps.length := by rw [HNL.out]; exact hlt3
                  obtain ⟨y, hy⟩ : ∃ y, ps[a]! = y := ⟨_, rfl⟩
                  obtain ⟨g3, o3, rfl, hc3⟩ := (HPR7.out.later HBp.out).cell a hla
                  rw [hy] at hc3
                  have e0 := hc3 0 (by decide)
                  have e1 := hc3 1 (by decide)
                  have e2 := hc3 2 (by decide)
                  have hpo := HPP.out y (by rw [← hy, getElem!_pos ps a hla]; exact List.getElem_mem _)
                  obtain ⟨pp, pk1, pv⟩ := y
                  simp only [PU.cells, List.getElem?_cons_zero, List.getElem?_cons_succ, Nat.add_zero] at e0 e1 e2
                  simp only at hpo
                  obtain ⟨PT, hPT⟩ : ∃ PT, Op.portsC kd ar = PT := ⟨_, rfl⟩
                  rw [hPT] at hpo
                  have HPT := hide hPT
                  have q1 : decide (pp < 0) = false := decide_eq_false (by omega)
                  have q2 : decide (pp ≥ PT) = false := decide_eq_false (by omega)
                  clear hc3 hy hla hPT hpo
                  go_upto_region 21 with fail
                  obtain ⟨Y, hY⟩ : ∃ Y, Y = wp.alloc (.cells #[.int .i64 pp, .int .i64 pk1, .int .i64 pv] 43 (0, 0)) := ⟨_, rfl⟩
                  rw [← hY]
                  have bY : Below wp.heap.size wp Y := by rw [hY]; exact alloc_below _ _
                  obtain ⟨qB, hqB⟩ : ∃ qB, wp.heap.size = qB := ⟨_, rfl⟩
                  have h3 : Y.heap[qB]? = some (.cells #[.int .i64 pp, .int .i64 pk1, .int .i64 pv] 43 (0, 0)) := by rw [hY, ← hqB]; exact heap_alloc_new wp _
                  have HB7' := hide (HBp.out.trans (bY.mono HBp.out.size))
                  have HSS : Hid (∀ X, Below Y.heap.size Y X → ((((X.cell? ⟨oB, 0, none⟩ = some (.int .i64 kd) ∧ X.cell? ⟨oB, 1, none⟩ = some (.int .i64 pt)) ∧ X.cell? ⟨oB, 2, none⟩ = some (.int .i64 fn) ∧ X.cell? ⟨oB, 3, none⟩ = some (.int .i64 ar)) ∧ X.cell? ⟨oB, 4, none⟩ = some (.slice ip m ic)) ∧ X.cell? ⟨qB, 0, none⟩ = some (.int .i64 pp))) := hide (fun X hX => by
                    have h1 := below_box (HB7'.out.trans (hX.mono HB7'.out.size)) HO7.out
                    have h2 := below_box hX h3
                    refine ⟨⟨⟨⟨?_, ?_⟩, ?_, ?_⟩, ?_⟩, ?_⟩ <;> simp [World.cell?, h1, h2])
                  rw [hqB]
                  clear hY bY hqB h3 e0 e1 e2
                  refine region_class (fun X => Below Y.heap.size Y X) (by kernel_rfl) (by kernel_rfl) (Below.refl _ Y).drew ?_
                  repeat
                    first
                      | (refine BigFrame.wpQuiet_skip (by rfl) ?_
                         simp only [Act.put, List.setIfInBounds_toArray, List.set_cons_zero, List.set_cons_succ])
                      | (refine BigFrame.wpQuiet_want (by rfl) (fun K hK => ?_)
                         unfold Oper.quiet
                         apply Exists.intro
                         refine ⟨fun X hX => ?_, hK _ ?_⟩
                         · obtain ⟨⟨⟨⟨o0, o1⟩, o2, o3⟩, o4⟩, z0⟩ := HSS.out _ hX
                           first
                            | (go_simp; done)
                            | (go_simp; exact rfl)
                            | (go_simp
                               first
                               | (go_at_call 10; refine Op.rports_any.mono ?_; rintro e w3 ⟨rfl, hb3⟩; rw [HPT.out]; exact ⟨rfl, hX.trans (hb3.mono hX.size)⟩))
                         clear hK K
                         simp only [Act.put, List.setIfInBounds_toArray, List.set_cons_zero, List.set_cons_succ])
                  refine wpQuiet_nil (fun X hX => ?_)
                  have HB8 := hide (HB7'.out.trans (hX.mono HB7'.out.size))
                  clear hX
                  clear HSS
                  go_wp2
                  exact ⟨⟨a + 1, by omega, by first | rfl | go_num, HB8⟩, by simp [intOf]; omega⟩
                · obtain rfl : a = N := by omega
                  have h1 := below_box HBp.out HX7.out
                  have h3 := below_box HBp.out HY7.out
                  have c5 : wp.cell? ⟨yB, 0, none⟩ = some (.slice pk K ck) := by simp [World.cell?, h3]
                  have c6 : wp.cell? ⟨yB, 1, none⟩ = some (.int .i64 0) := by simp [World.cell?, h3]
                  have d0 : wp.cell? ⟨xB, 0, none⟩ = some (.slice p n c) := by simp [World.cell?, h1]
                  have d1 : wp.cell? ⟨xB, 1, none⟩ = some (.int .i64 0) := by simp [World.cell?, h1]
                  have d2 : wp.frozen? ⟨xB, 0, none⟩ = false := by simp [World.frozen?, h1]
                  have d3 : wp.frozen? ⟨xB, 1, none⟩ = false := by simp [World.frozen?, h1]
                  have hO : Only (· = xB) wp ((wp.setCell ⟨xB, 0, none⟩ (.slice pk K ck)).setCell ⟨xB, 1, none⟩ (.int .i64 0)) := (Only.set (F := (· = xB)) wp xB 0 _ rfl).trans (Only.set (F := (· = xB)) _ xB 1 _ rfl)
                  have hwp : B ≤ wp.heap.size := by have := HBp.out.size; omega
                  have HST2 : Hid (StI V B xB kd ar 0 (sn + (j + 1)) ((wp.setCell ⟨xB, 0, none⟩ (.slice pk K ck)).setCell ⟨xB, 1, none⟩ (.int .i64 0))) := hide ⟨pk, K, ck, k5, heap_setS (heap_setS h1 0 _) 1 _, KRow.of_own HKL.out (ownsRow_only (ownsRow_later HROW7.out HBp.out) hO (fun b hb e => by have e' : b = xB := e; have := own_block_base HROW7.out hb; omega)), HKL.out, by omega, HK5.out, (HB7.out.trans (HBp.out.mono (by omega))).trans (hO.below hwp (fun b e => by have e' : b = xB := e; omega))⟩
                  have HOQ2 := hide (hO.obj (below_box HBp.out HO7.out) (fun e => by have e' : oB = xB := e; omega))
                  clear hO h1 h3
                  go_wp2
                  exact ⟨⟨j + 1, by omega, by first | rfl | go_num, HST2, HOQ2⟩, by simp [intOf]; omega⟩
            · obtain rfl : j = rl := by omega
              go_wp2
              exact ⟨⟨k + 1, by omega, by first | rfl | go_num, HX6⟩, by simp [intOf]; omega⟩
      · obtain rfl : k = gl := by omega
        have HBF := hide (HFR.out _ HB3.out).2.2.2.2.2
        go_wp2
        go_ret
        exact ⟨rfl, HBF.out⟩
  · have q1 : (er != 0) = true := by simpa using he
    have HBF := hide (HFR.out _ HB2.out).2.2.2.2.2
    clear he
    go_wp2
    go_ret
    exact ⟨rfl, HBF.out⟩
end Go.Proofs.Ytkibiappjegogaa
