/-
  RunOwn: what is handed in is left as it is, and what is told is nobody's else. The condition: what is handed in holds at most 1048576 values.
-/
import Derived.Test.YtbcllgddogghbaaRlt
import Derived.Test.YtbcllgddogghbaaRsl
namespace Go.Proofs.Ytbcllgddogghbaa
open Go.RowKit Go.Shelf
/-- States of the law's graph. -/
theorem statesN {W : World} {b qc : Nat} {q p1 p2 : Option Addr} {c1 c2 : Nat} (ho : GRow W (some ⟨b + 3, 0, none⟩) 4 (mergeV b)) (hx : LL W q qc [⟨l123, p1, c1⟩, ⟨l9, p2, c2⟩]) :
    Calls Try.prog 21 #[.agg #[.int .i64 2, .slice (some ⟨b + 3, 0, none⟩) 4 4], .slice q 2 qc] W fun e w' => ∃ sb bb bc p c, W.heap.size ≤ sb ∧ W.heap.size ≤ bb ∧ (∀ i, (Value.slice p 1 c).ownBlock = some i → i ≠ sb ∧ i ≠ bb) ∧ e = .returned (.tuple #[.slice (some ⟨sb, 0, none⟩) 4 4, .int .i64 0]) ∧ w'.cell? ⟨sb, 7, none⟩ = some (.int .i64 1) ∧ w'.cell? ⟨sb, 8, none⟩ = some (.slice (some ⟨bb, 0, none⟩) 2 bc) ∧ 2 ≤ bc ∧ bc ≤ 9223372036854775807 ∧ w'.cell? ⟨bb, 0, none⟩ = some (.slice p 1 c) ∧ w'.ownsRow W.heap.size 40 2 (.slice p 1 c) 1 ([(⟨0, 3⟩ : RC)].flatMap RC.cells) ∧ Below W.heap.size W w' := by
  refine (states_ok (rf := rfM) (parts := 2) (n := 4) (L := 2) (dn := dnM) ho rfl hx rfl fault_merge fits_merge lens_small).mono ?_
  rintro _ w' ⟨sb, db, rv, rfl, hs, hd, hb⟩
  obtain ⟨x, hx2⟩ : ∃ x, rv[2]! = x := ⟨_, rfl⟩
  have hpl := hd.plain 2 (by decide)
  have hok := hd.ok 2 (by decide)
  rw [hx2] at hpl hok
  obtain ⟨_, e2, e3, _, _⟩ := hpl
  have e2' : x.turn = 1 := e2
  have e3' : x.bufs.map SV.rs = [[⟨0, 3⟩], []] := e3
  have hlen : x.bufs.length = 2 := by
    have := congrArg List.length e3'
    simpa using this
  have hbrow := hok.brow
  unfold RV.bv at hbrow
  obtain ⟨bb, hbp, hcell⟩ := own_cellR hbrow (show 0 < x.bufs.length by omega)
  obtain ⟨y, hy⟩ : ∃ y, x.bufs[0]! = y := ⟨_, rfl⟩
  have hy0 : x.bufs[0]'(by omega) = y := by rw [← hy, getElem!_pos x.bufs 0 (by omega)]
  have hyr : y.rs = [⟨0, 3⟩] := by
    have h9 : (x.bufs.map SV.rs)[0]'(by rw [List.length_map]; omega) = [⟨0, 3⟩] := by simp [e3']
    rw [List.getElem_map, hy0] at h9
    exact h9
  have hcell2 : w'.cell? ⟨bb, 0, none⟩ = some (.slice y.p y.rs.length y.c) := by
    rw [hcell, SV.flat, List.getD_eq_getElem?_getD, List.getElem?_map, List.getElem?_eq_getElem (by omega), hy0]
    rfl
  have hyo : y.own w' W.heap.size := hok.bown y (by rw [← hy0]; exact List.getElem_mem _)
  obtain ⟨_, _, ef, q1, q2⟩ := own_form hbrow
  simp only [Value.slice.injEq] at ef
  obtain ⟨_, _, rfl⟩ := ef
  obtain ⟨g', o', e, hc⟩ := (LRow.of_own RV.tlen hd.len hs).cell 2 (by have := hd.len; omega)
  simp only [Option.some.injEq, Addr.mk.injEq, and_true] at e
  obtain ⟨rfl, rfl⟩ := e
  rw [hx2] at hc
  obtain ⟨yrs, yp, yc⟩ := y
  simp only at hyr hcell2
  subst hyr
  refine ⟨sb, bb, x.bc, yp, yc, own_block_base hs (b := sb) rfl, own_block_base hbrow (b := bb) (by rw [hbp]; rfl), (fun i hi => ⟨fun e => rows_apart hyo hs (by decide) (g := sb) rfl (by rw [← e]; exact hi), fun e => rows_apart hyo hbrow (by decide) (g := bb) (by rw [hbp]; rfl) (by rw [← e]; exact hi)⟩), rfl, ?_, ?_, by omega, q2, hcell2, hyo, hb⟩
  · have := hc 1 (by decide)
    simp only [RV.task, e2'] at this
    exact this
  · have := hc 2 (by decide)
    simp only [RV.task, RV.bv, hlen, hbp] at this
    exact this
theorem own_at0 {W : World} {base n k c : Nat} {e : TypeId} {p : Option Addr} {xs : List Value} (h : W.ownsRow base e k (.slice p n c) n xs) (hn : 0 < n) : ∃ g, p = some ⟨g, 0, none⟩ := by
  rcases h.2 with ⟨_, h0⟩ | ⟨g, cap', cur, he, _⟩
  · omega
  · simp only [Value.slice.injEq, true_and] at he
    exact ⟨g, he.1⟩
/-- A field of a record of one's own is written. -/
theorem rec_field {W : World} {base g n c i : Nat} {ys : List RC} (h : W.ownsRow base 40 2 (.slice (some ⟨g, 0, none⟩) n c) n (ys.flatMap RC.cells)) (hl : ys.length = n) (hi : i < n) : W.cell? ⟨g, i * 2, none⟩ = some (.int .i64 (ys[i]!).key) ∧ W.cell? ⟨g, i * 2 + 1, none⟩ = some (.int .i64 (ys[i]!).val) ∧ (∀ o, W.frozen? ⟨g, o, none⟩ = false) ∧ (∀ v, (W.setCell ⟨g, i * 2, none⟩ (.int .i64 v)).ownsRow base 40 2 (.slice (some ⟨g, 0, none⟩) n c) n ((ys.set i ⟨v, (ys[i]!).val⟩).flatMap RC.cells)) ∧ (∀ v, (W.setCell ⟨g, i * 2 + 1, none⟩ (.int .i64 v)).ownsRow base 40 2 (.slice (some ⟨g, 0, none⟩) n c) n ((ys.set i ⟨(ys[i]!).key, v⟩).flatMap RC.cells)) := by
  obtain ⟨g', o', e, hc⟩ := (LRow.of_own RC.len hl h).cell i (by omega)
  simp only [Option.some.injEq, Addr.mk.injEq, and_true] at e
  obtain ⟨rfl, rfl⟩ := e
  simp only [Nat.zero_add] at hc
  refine ⟨hc 0 (by decide), hc 1 (by decide), fun o => h.frozenAt _, fun v => ?_, fun v => ?_⟩
  · have h9 := (h.stored (i * 2 + 0) (.int .i64 v)).1
    rw [flat_set (cells := RC.cells) ys (fun o _ => o.len) i 0 ⟨v, (ys[i]!).val⟩ (.int .i64 v) (by omega) (by decide) rfl]
    exact h9
  · have h9 := (h.stored (i * 2 + 1) (.int .i64 v)).1
    rw [flat_set (cells := RC.cells) ys (fun o _ => o.len) i 1 ⟨(ys[i]!).key, v⟩ (.int .i64 v) (by omega) (by decide) rfl]
    exact h9
/-- Turns from the first list on, of any lists. -/
theorem turns0 {W : World} {p : Option Addr} {cap n : Nat} {xs : List SV} (hx : LL W p cap xs) (hn : xs.length = n) (hw : weightL (xs.map SV.rs) + 1 ≤ 1048576) :
    Calls Try.prog 7 #[.int .i64 0, .slice p n cap] W fun e w' => ∃ (p1 : Option Addr) (N c1 g2 : Nat) (t : Int) (ys : List RC), e = .returned (.tuple #[.slice p1 N c1, .int .i64 t, .slice (some ⟨g2, 0, none⟩) n n]) ∧ ys.length = N ∧ N ≤ c1 ∧ c1 ≤ 9223372036854775807 ∧ w'.ownsRow W.heap.size 40 2 (.slice p1 N c1) N (ys.flatMap RC.cells) ∧ Below W.heap.size W w' := by
  have hml : (xs.map SV.rs).length = n := by rw [List.length_map]; exact hn
  have hnb : n ≤ 1048576 := by have := weight_len (xs.map SV.rs); omega
  by_cases h0 : 0 < n
  · refine (turns_any (t := 0) hx hn h0 (turn_stop (by omega)) hnb (turnN_small (by omega) hw)).mono ?_
    rintro _ w' ⟨p1, c1, g2, rfl, O1, _, B1⟩
    obtain ⟨_, _, ef, q1, q2⟩ := own_form O1
    simp only [Value.slice.injEq] at ef
    obtain ⟨rfl, _, rfl⟩ := ef
    exact ⟨p1, _, c1, g2, _, _, rfl, taken_len, q1, q2, O1, B1⟩
  · refine (turnsB_any (tt := 0) hx hn (.inr (by omega)) hnb).mono ?_
    rintro _ w' ⟨g2, rfl, _, B1⟩
    exact ⟨none, 0, 0, g2, _, [], rfl, rfl, Nat.le_refl _, by decide, World.ownsRow_nil _ _ _ _, B1⟩
end Go.Proofs.Ytbcllgddogghbaa
namespace Go.Proofs.Ytbcllgddogghbaa.runOwn
open Go.RowKit Go.Shelf Go.Proofs.Ytbcllgddogghbaa Go.ChangeShapes Go.WideShapes Go.ChangeAt

set_option maxRecDepth 100000 in
set_option maxHeartbeats 8000000 in
theorem walk {W : World} {p : Option Addr} {cap : Nat} {xs : List SV} (hx : LL W p cap xs) (_hfine : ∀ x ∈ xs, ∀ r ∈ x.rs, r.fine) (hw : weightL (xs.map SV.rs) + 1 ≤ 1048576) :
    Calls Try.prog 6 #[.slice p xs.length cap] W fun e w' => e = .returned (.bool true) ∧ Below W.heap.size W w' := by
  obtain ⟨i0, hI0, hz0, hz1, hz2⟩ := info_parts Try.infoRecs
  obtain ⟨n, hn⟩ : ∃ n, xs.length = n := ⟨_, rfl⟩
  have hml : (xs.map SV.rs).length = n := by rw [List.length_map]; exact hn
  have hnb : n ≤ 1048576 := by have := weight_len (xs.map SV.rs); omega
  have i1 := hx.row.le
  have i2 := hx.row.top
  rw [hn] at i1 ⊢
  have hlenb : ∀ x ∈ xs, x.rs.length ≤ 1048576 := fun x h => by have := weight_mem (xs.map SV.rs) x.rs (List.mem_map_of_mem h); omega
  have HLB := hide hlenb
  have HX := hide hx
  have HNX := hide hn
  have HW := hide hw
  have HT : Hid (∀ X, Below W.heap.size W X → Calls Try.prog 7 #[.int .i64 0, .slice p n cap] X fun e w' => ∃ (p1 : Option Addr) (N c1 g2 : Nat) (t : Int) (ys : List RC), e = .returned (.tuple #[.slice p1 N c1, .int .i64 t, .slice (some ⟨g2, 0, none⟩) n n]) ∧ ys.length = N ∧ N ≤ c1 ∧ c1 ≤ 9223372036854775807 ∧ w'.ownsRow X.heap.size 40 2 (.slice p1 N c1) N (ys.flatMap RC.cells) ∧ Below X.heap.size X w') := hide (fun X hX => turns0 (hx.later hX) hn hw)
  clear hx hn hlenb hml hw _hfine
  go_enter Try.func6, Try.ntmps6
  go_wp2_with fail
  refine begun_any.mono ?_
  rintro _ w1 ⟨rfl, B1⟩
  have HB1 := hide B1
  clear B1
  go_wp2_with fail
  go_loopw [3, 22] (fun s i wq => ∃ (k : Nat) (p3 : Option Addr) (c3 : Nat) (ys : List SV), k ≤ n ∧ i = .int .i64 (k : Int) ∧ s = .slice p3 k c3 ∧ Hid (ys.length = k) ∧ Hid (wq.ownsRow w1.heap.size 23 1 (.slice p3 k c3) k (ys.flatMap SV.cells)) ∧ Hid (∀ i, i < k → (ys[i]!).own wq w1.heap.size ∧ (ys[i]!).rs = (xs[i]!).rs) ∧ Hid (Below w1.heap.size w1 wq)) (fun _ i _ => n - (intOf i).toNat)
  case atStart => exact ⟨0, none, 0, [], Nat.zero_le _, rfl, rfl, hide rfl, hide (World.ownsRow_nil _ _ _ _), hide (fun i hi => absurd hi (Nat.not_lt_zero i)), hide (Below.refl _ _)⟩
  case round =>
    obtain ⟨k, p3, c3, ys, hk, rfl, rfl, HYL, HOW, HYS, HBq⟩ := hrel
    rename World => wq
    by_cases hlt : k < n
    · have hlt2 : k < xs.length := by rw [HNX.out]; exact hlt
      have hBW : Below W.heap.size W wq := HB1.out.trans (HBq.out.mono HB1.out.size)
      have hll := HX.out.later hBW
      obtain ⟨g, o, rfl, hcx⟩ := hll.at hlt2
      have hxm : xs[k]! ∈ xs := by rw [getElem!_pos xs k hlt2]; exact List.getElem_mem _
      have hrow := hll.ok _ hxm
      have hlb := HLB.out _ hxm
      obtain ⟨x, hxx⟩ : ∃ x, xs[k]! = x := ⟨_, rfl⟩
      rw [hxx] at hcx hrow hlb
      have HXX := hide hxx
      obtain ⟨rs, xp, xc⟩ := x
      simp only at hcx hlb
      have hrow2 : RRow wq xp xc rs := hrow
      obtain ⟨L, hL⟩ : ∃ L, rs.length = L := ⟨_, rfl⟩
      rw [hL] at hcx hlb
      have HCL := hide (recClone hrow2 hL (by omega))
      have HLL := hide hL
      clear hxm hrow hrow2 hll hxx hL hBW hlt2
      go_wp2_with fail
      refine HCL.out.mono ?_
      rintro _ w2 ⟨p', c', rfl, hO2, hB2⟩
      have hab := alloc_below w2 (.cells #[.slice p' L c'] 23 (0, 0))
      have HSG : Hid (Seg (w2.alloc (.cells #[.slice p' L c'] 23 (0, 0))) 1 (.slice (some ⟨w2.heap.size, 0, none⟩) 1 1) 1 [.slice p' L c']) := hide (Seg.news (heap_alloc_new w2 _) (by simp [Value.oneCell']) rfl (Nat.le_refl _) (by decide))
      have HRW := hide (ownsRow_later (ownsRow_later HOW.out hB2) hab)
      have hB2a := hB2.trans (hab.mono hB2.size)
      have HAB := hide hB2a
      have HNW := hide (ownsRow_later hO2 hab)
      have HK1 : Hid (k + 1 ≤ maxLen) := by show _ ≤ _; unfold maxLen; omega
      have HK2 : Hid ((k + 1) * 24 ≤ 140737488355328) := by show _ ≤ _; omega
      have HBS : Hid (w1.heap.size ≤ (w2.alloc (.cells #[.slice p' L c'] 23 (0, 0))).heap.size) := hide (Nat.le_trans HBq.out.size hB2a.size)
      clear hab hB2 hO2 hB2a HCL hcx
      go_wp2_with (at_builtin; refine append_cells _ rfl (.tmp 26) (.tmp 29) 22 rfl w1.heap.size 23 i0 (.slice none 0 0) 1 24 Try.underlying22 hI0 hz0 hz1 hz2 rfl (by decide) (.slice p3 k c3) k _ rfl HRW.out (.slice (some ⟨w2.heap.size, 0, none⟩) 1 1) 1 _ rfl HSG.out HK1.out HK2.out HBS.out ?_)
      intro p5 c5 w5 hown hgrow
      have ho5 := Only.of_grown (F := fun i => (Value.slice p3 k c3).ownBlock = some i) hgrow (fun k e => e)
      have HB5 : Hid (Below w1.heap.size w1 w5) := hide ((HBq.out.trans (HAB.out.mono HBq.out.size)).grown hgrow (Nat.le_trans HBq.out.size HAB.out.size) (fun i hi => own_block_base HRW.out hi))
      have HYL2 : Hid ((ys ++ [(⟨rs, p', c'⟩ : SV)]).length = k + 1) := hide (by rw [List.length_append, HYL.out]; rfl)
      have HO5 : Hid (w5.ownsRow w1.heap.size 23 1 (.slice p5 (k + 1) c5) (k + 1) ((ys ++ [(⟨rs, p', c'⟩ : SV)]).flatMap SV.cells)) := by
        refine hide ?_
        rw [List.flatMap_append]
        show w5.ownsRow w1.heap.size 23 1 (.slice p5 (k + 1) c5) (k + 1) (ys.flatMap SV.cells ++ [.slice p' rs.length c'])
        rw [HLL.out]
        exact hown
      have hsv : ∀ (y : SV) (b : Nat), y.own (w2.alloc (.cells #[.slice p' L c'] 23 (0, 0))) b → y.own w5 b := fun y b hy => ownsRow_only hy ho5 (fun c hc e => rows_apart HRW.out hy (by decide) hc e)
      have HYS2 : Hid (∀ i, i < k + 1 → ((ys ++ [(⟨rs, p', c'⟩ : SV)])[i]!).own w5 w1.heap.size ∧ ((ys ++ [(⟨rs, p', c'⟩ : SV)])[i]!).rs = (xs[i]!).rs) := by
        refine hide (fun i hi => ?_)
        by_cases e : i < k
        · rw [getElem!_pos (ys ++ [(⟨rs, p', c'⟩ : SV)]) i (by rw [List.length_append, HYL.out]; omega), List.getElem_append_left (by rw [HYL.out]; exact e), ← getElem!_pos ys i (by rw [HYL.out]; exact e)]
          have := HYS.out i e
          exact ⟨hsv _ _ (this.1.later HAB.out), this.2⟩
        · obtain rfl : i = k := by omega
          have e2 : (ys ++ [(⟨rs, p', c'⟩ : SV)])[i]! = ⟨rs, p', c'⟩ := by
            rw [getElem!_pos (ys ++ [(⟨rs, p', c'⟩ : SV)]) i (by rw [List.length_append, HYL.out]; simp), List.getElem_append_right (by rw [HYL.out]; exact Nat.le_refl _)]
            simp
          rw [e2, HXX.out]
          refine ⟨hsv _ _ ?_, rfl⟩
          show (w2.alloc (.cells #[.slice p' L c'] 23 (0, 0))).ownsRow w1.heap.size 40 2 (.slice p' rs.length c') rs.length _
          rw [HLL.out]
          exact ownsRow_base HNW.out HBq.out.size
      clear hown hgrow ho5 hsv
      go_wp2
      exact ⟨⟨k + 1, p5, c5, _, by omega, by first | rfl | go_num, rfl, HYL2, HO5, HYS2, HB5⟩, by simp [intOf]; omega⟩
    · obtain rfl : k = n := by omega
      have hBW : Below W.heap.size W wq := HB1.out.trans (HBq.out.mono HB1.out.size)
      have HBW := hide hBW
      have HT1 := hide (HT.out wq hBW)
      have HWL : Hid (LL wq p3 c3 ys) := hide ⟨LRow.of_own SV.len HYL.out HOW.out, fun y hy => by
        obtain ⟨i, hi, rfl⟩ := List.getElem_of_mem hy
        have := (HYS.out i (by have := HYL.out; omega)).1.ok
        rw [getElem!_pos ys i hi] at this
        exact this⟩
      have HSM : Hid (ys.map SV.rs = xs.map SV.rs) := by
        refine hide ?_
        apply List.ext_getElem
        · rw [List.length_map, List.length_map, HYL.out, HNX.out]
        · intro i h1 h2
          have hiy : i < ys.length := by simpa using h1
          have hix : i < xs.length := by simpa using h2
          have := (HYS.out i (by have := HYL.out; omega)).2
          rw [getElem!_pos ys i hiy, getElem!_pos xs i hix] at this
          rw [List.getElem_map, List.getElem_map]
          exact this
      clear hBW HT HOW HYS
      go_wp2_with fail
      refine HT1.out.mono ?_
      rintro _ w3 ⟨p4, N, c4, g4, t4, zs, rfl, hzl, hN1, hN2, O3, B3⟩
      have HO3 := hide O3
      have HB3 := hide B3
      have HZL := hide hzl
      clear O3 B3 HT1 hzl
      go_wp2_with fail
      go_loopw [40] (fun s wz => ∃ (j : Nat) (vs : List RC), j ≤ N ∧ s = .int .i64 (j : Int) ∧ Hid (vs.length = N) ∧ Hid (wz.ownsRow wq.heap.size 40 2 (.slice p4 N c4) N (vs.flatMap RC.cells)) ∧ Hid (Below wq.heap.size wq wz)) (fun s _ => N - (intOf s).toNat)
      case atStart => exact ⟨0, zs, Nat.zero_le _, rfl, HZL, HO3, HB3⟩
      case round =>
        obtain ⟨j, vs, hj, rfl, HVL, HOz, HBz⟩ := hrel
        rename World => wz
        by_cases hjl : j < N
        · obtain ⟨g5, rfl⟩ := own_at0 HOz.out (by omega)
          obtain ⟨a0, _, f0, st0, _⟩ := rec_field HOz.out HVL.out hjl
          have hf := f0 (j * 2)
          obtain ⟨ky, hky⟩ : ∃ ky, (vs[j]!).key = ky := ⟨_, rfl⟩
          rw [hky] at a0
          have HS0 := hide st0
          have hg5 := own_block_base HOz.out (b := g5) rfl
          have HBs : Hid (∀ v, Below wq.heap.size wq (wz.setCell ⟨g5, j * 2, none⟩ v)) := hide (fun v => HBz.out.setCell (p := ⟨g5, j * 2, none⟩) hg5 _)
          have HVS : Hid (∀ v, (vs.set j v).length = N) := hide (fun v => by rw [List.length_set]; exact HVL.out)
          clear f0 st0 hky
          go_wp2
          exact ⟨⟨j + 1, _, by omega, by first | rfl | go_num, hide (HVS.out _), hide (HS0.out _), hide (HBs.out _)⟩, by simp [intOf]; omega⟩
        · obtain rfl : j = N := by omega
          have HBWz := hide (HBW.out.trans (HBz.out.mono HBW.out.size))
          clear HO3 HB3
          go_wp2_with fail
          refine (recs_of rfl).mono ?_
          rintro _ x1 ⟨q1, d1, rfl, O4, B4⟩
          have HO4 := hide O4
          have HB4 := hide B4
          clear O4 B4
          go_wp2_with fail
          refine (recs_one rfl).mono ?_
          rintro _ x2 ⟨q2, d2, rfl, O5, B5⟩
          have HO42 := hide (ownsRow_later HO4.out B5)
          have HO5 := hide O5
          have HBz2 := hide (HB4.out.trans (B5.mono HB4.out.size))
          clear O5 B5 HO4 HB4
          go_wp2_with fail
          refine merge_any.mono ?_
          rintro _ x3 ⟨b3, rfl, G3, B3⟩
          have a4 := alloc_below x3 (.cells #[.slice q1 3 d1, .slice q2 1 d2] 23 (0, 0))
          have hLL : LL (x3.alloc (.cells #[.slice q1 3 d1, .slice q2 1 d2] 23 (0, 0))) (some ⟨x3.heap.size, 0, none⟩) 2 [⟨l123, q1, d1⟩, ⟨l9, q2, d2⟩] :=
            two_lists (heap_alloc_new x3 _) (ownsRow_later (ownsRow_later HO42.out B3) a4) (ownsRow_later (ownsRow_later HO5.out B3) a4) rfl rfl
          have HR := hide (runM (G3.below a4) hLL)
          have HB2a := hide (B3.trans (a4.mono B3.size))
          clear hLL a4 G3 B3
          go_wp2_with fail
          refine HR.out.mono ?_
          rintro _ x4 ⟨p6, c6, rfl, O6, B6⟩
          have hx24 : Below x2.heap.size x2 x4 := HB2a.out.trans (B6.mono HB2a.out.size)
          have HX24 := hide hx24
          have HO6 := hide O6
          have HX3s : Hid (x2.heap.size ≤ (x3.alloc (.cells #[.slice q1 3 d1, .slice q2 1 d2] 23 (0, 0))).heap.size) := hide HB2a.out.size
          clear hx24 O6 B6 HR
          go_wp2_with fail
          refine merge_any.mono ?_
          rintro _ x5 ⟨b5, rfl, G5, B5⟩
          have a6 := alloc_below x5 (.cells #[.slice q1 3 d1, .slice q2 1 d2] 23 (0, 0))
          have hLL : LL (x5.alloc (.cells #[.slice q1 3 d1, .slice q2 1 d2] 23 (0, 0))) (some ⟨x5.heap.size, 0, none⟩) 2 [⟨l123, q1, d1⟩, ⟨l9, q2, d2⟩] :=
            two_lists (heap_alloc_new x5 _) (ownsRow_later (ownsRow_later (ownsRow_later HO42.out HX24.out) B5) a6) (ownsRow_later (ownsRow_later (ownsRow_later HO5.out HX24.out) B5) a6) rfl rfl
          have HR := hide (statesN (G5.below a6) hLL)
          have HB46 := hide (B5.trans (a6.mono B5.size))
          clear hLL a6 G5 B5
          go_wp2_with fail
          refine HR.out.mono ?_
          rintro _ x7 ⟨sb, bb, bc, p7, c7, hsb, hbb, hne7, rfl, s1, s2, s3, s4, s5, O7, B7⟩
          have hb47 : Below x4.heap.size x4 x7 := HB46.out.trans (B7.mono HB46.out.size)
          have h46 := HB46.out.size
          have hl6 : ∀ i, (Value.slice p6 3 c6).ownBlock = some i → x2.heap.size ≤ i ∧ i < x4.heap.size := fun i e => ⟨Nat.le_trans HX3s.out (own_block_base HO6.out e), (own_block_lt HO6.out e).1⟩
          have hl7 : ∀ i, (Value.slice p7 1 c7).ownBlock = some i → x4.heap.size ≤ i := fun i e => Nat.le_trans h46 (own_block_base O7 e)
          have HL6 := hide hl6
          have HL7 := hide hl7
          have HNE := hide hne7
          have HO67 := hide (ownsRow_later HO6.out hb47)
          have HO7 := hide O7
          have HB27 := hide (HX24.out.trans (hb47.mono HX24.out.size))
          have S2 := hide s2
          have S5 := hide s5
          have HSB : Hid (x4.heap.size ≤ sb ∧ x4.heap.size ≤ bb) := hide ⟨Nat.le_trans h46 hsb, Nat.le_trans h46 hbb⟩
          have h42 := HX24.out.size
          obtain ⟨_, _, ef6, q61, q62⟩ := own_form HO6.out
          simp only [Value.slice.injEq] at ef6
          obtain ⟨rfl, _, rfl⟩ := ef6
          obtain ⟨_, _, ef7, q71, q72⟩ := own_form O7
          simp only [Value.slice.injEq] at ef7
          obtain ⟨rfl, _, rfl⟩ := ef7
          have HX4 := hide h42
          clear hb47 h46 hl6 hl7 hne7 O7 B7 s1 s2 s5 hsb hbb h42 HR HO6
          go_wp2_with fail
          go_loopw [74] (fun s wy => ∃ (i : Nat) (vs : List RC), i ≤ 3 ∧ s = .int .i64 (i : Int) ∧ Hid (vs.length = 3) ∧ Hid (wy.ownsRow (x3.alloc (.cells #[.slice q1 3 d1, .slice q2 1 d2] 23 (0, 0))).heap.size 40 2 (.slice p6 3 c6) 3 (vs.flatMap RC.cells)) ∧ Hid (Only (fun i => (Value.slice p6 3 c6).ownBlock = some i) x7 wy)) (fun s _ => 3 - (intOf s).toNat)
          case atStart => exact ⟨0, _, Nat.zero_le _, rfl, hide (rfl : [(⟨0, 1⟩ : RC), ⟨0, 9⟩, ⟨0, 2⟩].length = 3), HO67, hide (Only.refl _ _)⟩
          case round =>
            obtain ⟨i, vs, hi, rfl, HVL, HOy, HOn⟩ := hrel
            rename World => wy
            by_cases hil : i < 3
            · obtain ⟨g5, rfl⟩ := own_at0 HOy.out (by omega)
              obtain ⟨_, a1, f0, _, st1⟩ := rec_field HOy.out HVL.out hil
              have hf := f0 (i * 2 + 1)
              have HS1 := hide (st1 77)
              have HVS : Hid (∀ v, (vs.set i v).length = 3) := hide (fun v => by rw [List.length_set]; exact HVL.out)
              have HOn2 : Hid (Only (fun i => (Value.slice (some ⟨g5, 0, none⟩) 3 c6).ownBlock = some i) x7 (wy.setCell ⟨g5, i * 2 + 1, none⟩ (.int .i64 77))) := hide (HOn.out.trans (Only.set (F := fun i => (Value.slice (some ⟨g5, 0, none⟩) 3 c6).ownBlock = some i) wy g5 (i * 2 + 1) _ rfl))
              obtain ⟨vl, hvl⟩ : ∃ vl, (vs[i]!).val = vl := ⟨_, rfl⟩
              rw [hvl] at a1
              clear f0 st1 hvl
              go_wp2
              exact ⟨⟨i + 1, _, by omega, by first | rfl | go_num, hide (HVS.out _), HS1, HOn2⟩, by simp [intOf]; omega⟩
            · obtain rfl : i = 3 := by omega
              have e2 : wy.cell? ⟨sb, 8, none⟩ = some (.slice (some ⟨bb, 0, none⟩) 2 bc) := HOn.out.cell S2.out (fun e => by have h9 : sb < x4.heap.size := (HL6.out _ e).2; have := HSB.out.1; omega)
              have e5 : wy.cell? ⟨bb, 0, none⟩ = some (.slice p7 1 c7) := HOn.out.cell S5.out (fun e => by have h9 : bb < x4.heap.size := (HL6.out _ e).2; have := HSB.out.2; omega)
              have HO7y := hide (ownsRow_only HO7.out HOn.out (fun b hb e => by have := (HL6.out _ e).2; have := HL7.out _ hb; omega))
              have E2 := hide e2
              have E5 := hide e5
              clear HO67
              go_wp2_with fail
              go_loopw [89] (fun s wx => ∃ (i : Nat) (vs : List RC), i ≤ 1 ∧ s = .int .i64 (i : Int) ∧ Hid (vs.length = 1) ∧ Hid (wx.ownsRow (x5.alloc (.cells #[.slice q1 3 d1, .slice q2 1 d2] 23 (0, 0))).heap.size 40 2 (.slice p7 1 c7) 1 (vs.flatMap RC.cells)) ∧ Hid (Only (fun i => (Value.slice p7 1 c7).ownBlock = some i) wy wx)) (fun s _ => 1 - (intOf s).toNat)
              case atStart => exact ⟨0, _, Nat.zero_le _, rfl, hide (rfl : [(⟨0, 3⟩ : RC)].length = 1), HO7y, hide (Only.refl _ _)⟩
              case round =>
                obtain ⟨i, us, hi1, rfl, HUL, HOx, HOnx⟩ := hrel
                rename World => wx
                have e2x : wx.cell? ⟨sb, 8, none⟩ = some (.slice (some ⟨bb, 0, none⟩) 2 bc) := HOnx.out.cell E2.out (fun e => (HNE.out _ e).1 rfl)
                have e5x : wx.cell? ⟨bb, 0, none⟩ = some (.slice p7 1 c7) := HOnx.out.cell E5.out (fun e => (HNE.out _ e).2 rfl)
                clear e2 e5
                by_cases hil1 : i < 1
                · obtain ⟨g7, rfl⟩ := own_at0 HOx.out (by omega)
                  obtain ⟨_, a1, f0, _, st1⟩ := rec_field HOx.out HUL.out hil1
                  have hf := f0 (i * 2 + 1)
                  have HS1 := hide (st1 77)
                  have HVS : Hid (∀ v, (us.set i v).length = 1) := hide (fun v => by rw [List.length_set]; exact HUL.out)
                  have HOn2 : Hid (Only (fun i => (Value.slice (some ⟨g7, 0, none⟩) 1 c7).ownBlock = some i) wy (wx.setCell ⟨g7, i * 2 + 1, none⟩ (.int .i64 77))) := hide (HOnx.out.trans (Only.set (F := fun i => (Value.slice (some ⟨g7, 0, none⟩) 1 c7).ownBlock = some i) wx g7 (i * 2 + 1) _ rfl))
                  obtain ⟨vl, hvl⟩ : ∃ vl, (us[i]!).val = vl := ⟨_, rfl⟩
                  rw [hvl] at a1
                  clear f0 st1 hvl
                  go_wp2
                  exact ⟨⟨i + 1, _, by omega, by first | rfl | go_num, hide (HVS.out _), HS1, HOn2⟩, by simp [intOf]; omega⟩
                · obtain rfl : i = 1 := by omega
                  have hB2y : Below x2.heap.size x2 wy := HB27.out.trans (HOn.out.below HB27.out.size (fun i e => (HL6.out i e).1))
                  have hB2x : Below x2.heap.size x2 wx := hB2y.trans (HOnx.out.below hB2y.size (fun i e => Nat.le_trans HX4.out (HL7.out i e)))
                  have hBqx : Below wq.heap.size wq wx := HBz.out.trans ((HBz2.out.trans (hB2x.mono HBz2.out.size)).mono HBz.out.size)
                  have HBWx := hide (HBW.out.trans (hBqx.mono HBW.out.size))
                  have HSL := hide (samelists_any (HWL.out.later hBqx) (HX.out.later HBWx.out) HYL.out HSM.out)
                  have HA := hide (ownsRow_later HO42.out hB2x)
                  have HBB := hide (ownsRow_later HO5.out hB2x)
                  clear hB2y hB2x hBqx e2x e5x
                  go_wp2_with fail
                  refine HSL.out.mono ?_
                  rintro _ y1 ⟨rfl, D1⟩
                  have HA1 := hide (ownsRow_later HA.out D1)
                  have HBB1 := hide (ownsRow_later HBB.out D1)
                  have HD1 := hide (HBWx.out.trans (D1.mono HBWx.out.size))
                  clear D1 HSL HA HBB
                  go_wp2_with fail
                  refine (recs_of rfl).mono ?_
                  rintro _ y2 ⟨q8, d8, rfl, O8, D2⟩
                  have HEQ := hide (eqrc_any (L := 3) (LRow.of_own RC.len rfl (ownsRow_later HA1.out D2)) (LRow.of_own RC.len rfl O8) rfl)
                  have HBB2 := hide (ownsRow_later HBB1.out D2)
                  have HD2 := hide (HD1.out.trans (D2.mono HD1.out.size))
                  clear O8 D2 HA1 HBB1 HD1
                  go_wp2_with fail
                  refine HEQ.out.mono ?_
                  rintro _ y3 ⟨rfl, D3⟩
                  have HBB3 := hide (ownsRow_later HBB2.out D3)
                  have HD3 := hide (HD2.out.trans (D3.mono HD2.out.size))
                  clear D3 HEQ HBB2 HD2
                  go_wp2_with fail
                  refine (recs_one rfl).mono ?_
                  rintro _ y4 ⟨q9, d9, rfl, O9, D4⟩
                  have HEQ := hide (eqrc_any (L := 1) (LRow.of_own RC.len rfl (ownsRow_later HBB3.out D4)) (LRow.of_own RC.len rfl O9) rfl)
                  have HD4 := hide (HD3.out.trans (D4.mono HD3.out.size))
                  clear O9 D4 HBB3 HD3
                  go_wp2_with fail
                  refine HEQ.out.mono ?_
                  rintro _ y5 ⟨rfl, D5⟩
                  have HD5 := hide (HD4.out.trans (D5.mono HD4.out.size))
                  clear D5 HEQ HD4
                  go_wp2_with fail
                  refine begun_any.mono ?_
                  rintro _ y6 ⟨rfl, D6⟩
                  have HD6 := hide (HD5.out.trans (D6.mono HD5.out.size))
                  clear D6 HD5
                  go_wp2
                  go_ret
                  exact ⟨rfl, HD6.out⟩
theorem short {H : Type} {d0 : DataW H} (hk : Rows.uptoSmall H [d0] = true) : Rows.uptoBulk d0 ≤ 1048576 := by
  have h : Rows.uptoBulkAll [d0] ≤ 1048576 := of_decide_eq_true hk
  simp only [Rows.uptoBulkAll] at h
  omega

set_option maxRecDepth 100000 in
theorem contract (H : Type) (enc : TypeId × Value → H) (W : World) (base : Nat) (args : Array Value) (ds gs : List (DataW H)) (before : List MemPlace)
    (hval : ∀ (j : Nat) t v, Try.f6.params[j]? = some t → args[j]? = some v → Value.okWide Try.prog W .any base t v)
    (hW : DataW.Whole enc Try.prog Try.f6.params.toList Rows.runOwnSpec.vars false W args.toList ds gs before) (hk : Rows.uptoSmall H (ds ++ gs) = true) :
    Calls Try.prog 6 args W fun e W' => ∃ v, e = .returned v ∧ Rows.runOwnSpec.post enc Try.prog Try.f6 false true false false W args v W' := by
  have hW' := hW
  obtain ⟨p, q, hA0, hV, rfl, hfz, hnd⟩ := hW
  have hA : DataW.TrodAll enc Try.prog W 0 (fun _ => true) true Try.f6.params.toList args.toList ds p := hA0
  rw [Try.params6] at hA hval
  obtain ⟨v0, vs0, d0, ds0, p0, q0, hargs, rfl, rfl, h0, r0⟩ := trodAll_cons hA
  obtain ⟨rfl, rfl, rfl⟩ := trodAll_nil r0
  obtain rfl : args = #[v0] := by cases args; simp_all
  obtain ⟨rfl, rfl⟩ := trodVars_none hV
  obtain ⟨a0, len0, cap0, rfl⟩ := okWide_slice Try.underlying22 (hval 0 22 v0 rfl rfl)
  have k0 := h0
  have lt0 : ∀ x ∈ p0, x.block < W.heap.size := by obtain ⟨m, hm⟩ := k0; exact DataW.trod_lt m _ _ _ hm
  obtain ⟨f0, hf0⟩ := h0
  have hcc0 : (Value.slice a0 len0 cap0).cells.toList = [.slice a0 len0 cap0] := by simp [Value.cells]
  rw [hcc0] at hf0
  obtain ⟨pp0, pc0, xs0, ee0, R0, F0, B0⟩ := arg_lists hf0
  simp only [Value.slice.injEq] at ee0
  obtain ⟨rfl, rfl, rfl⟩ := ee0
  simp only [List.append_nil] at hk
  have s0 := short hk
  simp only at B0
  clear hA0
  refine (walk R0 F0 (by omega)).mono fun e W' ⟨he, bel⟩ => ?_
  subst he
  exact ⟨_, rfl, _, _, _, [], _, [], hW', trodAll_mk1 (shut_bool Try.underlying4 _), (trodAll_cons_mk (Below.trod Try.laidOut (by kernel_rfl) (of_decide_eq_true (by kernel_rfl)) k0 bel lt0) trodAll_mk0), rfl, bel.frame _, fun h => by cases h⟩

set_option maxRecDepth 100000 in
theorem lifted (os : Os) (started : os.Started) (H : Type) (enc : TypeId × Value → H) (F : Stop.Interp) :
    ReturnsInHanded {} Try.checked os 6 .any ((Rows.OpenSpec.upto Rows.runOwnSpec).pre6 enc Try.prog Try.f6 Rows.runOwnUptoRow.domain false) (((Rows.OpenSpec.upto Rows.runOwnSpec).at F).post enc Try.prog Try.f6 false true false false) := by
  refine returnsInHanded_of_cond (C := Try.checked) (s := Rows.OpenSpec.upto Rows.runOwnSpec) (k := Rows.uptoSmall) rfl Try.ownK started (by kernel_rfl) Try.func6
    (OpenSpec.witness (enc := enc) (C := Try.checked) (s := Rows.OpenSpec.upto Rows.runOwnSpec) (k := Rows.uptoSmall) rfl false ⟨#[], #[.slice none 0 0], []⟩ 8 (by kernel_rfl) (by kernel_rfl) (by kernel_rfl)
      (x := ([.nil], [], [])) (by kernel_rfl) rfl (by kernel_rfl)) ?_
  intro W base args ds gs before hval hW _ hk _
  exact contract H enc W base args ds gs before hval hW hk

set_option maxRecDepth 100000 in
theorem proved : Rows.RunOwnUptoSaid :=
  OpenClaim.holds_of_cond 6 Try.f6 rfl rfl rfl rfl rfl rfl rfl ⟨rfl, rfl, rfl, rfl, rfl⟩ rfl rfl rfl rfl rfl (by kernel_rfl) Try.func6 (by kernel_rfl)
    (of_decide_eq_true (by kernel_rfl)) (by unfold Func.isWrapper; first | (rw [if_pos (by decide +kernel)]; kernel_rfl) | (rw [if_neg (by decide +kernel)]; exact ⟨rfl, rfl⟩))
    (fun os started H enc _ F => lifted os started H enc F)

end Go.Proofs.Ytbcllgddogghbaa.runOwn
