/-
  The program's resultOf of a sink. The conditions: lengths.
-/
import Derived.Test.YtbcllgddogghbaaRsk
namespace Go.Proofs.Ytbcllgddogghbaa
open Go.RowKit Go.Shelf

def sinkC (_ : List (List RC)) : RS := ⟨[], [], 0, []⟩
set_option maxRecDepth 100000 in
set_option maxHeartbeats 8000000 in
theorem sinkR_any {o : GO} (hk : o.kind = 9) (hi : 0 < o.ins.length) : ResAt o sinkC := by
  intro W ip p ic cap n xs hx hn hno hn4 hlb _
  obtain ⟨kd, pt, fn, ar, ins⟩ := o
  simp only at hk hi hno
  subst hk
  obtain ⟨il, hil⟩ : ∃ il, ins.length = il := ⟨_, rfl⟩
  simp only [hil]
  rw [hil] at hno hi
  subst hno
  have i1 := hx.row.le
  have i2 := hx.row.top
  rw [hn] at i1
  obtain ⟨V, hV⟩ : ∃ V, V = (W.alloc (.cells #[.int .i64 9, .int .i64 pt, .int .i64 fn, .int .i64 ar, .slice ip n ic] 46 (0, 0))).alloc (.cells #[.slice none 0 0, .slice none 0 0, .int .i64 0, .slice none 0 0] 70 (0, 0)) := ⟨_, rfl⟩
  have a1 := alloc_below W (.cells #[.int .i64 9, .int .i64 pt, .int .i64 fn, .int .i64 ar, .slice ip n ic] 46 (0, 0))
  have a2 := alloc_below (W.alloc (.cells #[.int .i64 9, .int .i64 pt, .int .i64 fn, .int .i64 ar, .slice ip n ic] 46 (0, 0))) (.cells #[.slice none 0 0, .slice none 0 0, .int .i64 0, .slice none 0 0] 70 (0, 0))
  have hbV : Below W.heap.size W V := by rw [hV]; exact a1.trans (a2.mono a1.size)
  obtain ⟨oB, hoB⟩ : ∃ oB, W.heap.size = oB := ⟨_, rfl⟩
  have hop : V.heap[oB]? = some (.cells #[.int .i64 9, .int .i64 pt, .int .i64 fn, .int .i64 ar, .slice ip n ic] 46 (0, 0)) := by rw [hV, ← hoB]; exact below_box a2 (heap_alloc_new W _)
  have hres : V.heap[oB + 1]? = some (.cells #[.slice none 0 0, .slice none 0 0, .int .i64 0, .slice none 0 0] 70 (0, 0)) := by
    have e : oB + 1 = (W.alloc (.cells #[.int .i64 9, .int .i64 pt, .int .i64 fn, .int .i64 ar, .slice ip n ic] 46 (0, 0))).heap.size := by rw [← hoB]; simp
    rw [hV, e]
    exact heap_alloc_new _ _
  have hVs : oB + 2 ≤ V.heap.size := by rw [hV, ← hoB]; simp
  obtain ⟨g, o2, rfl, hc⟩ := (hx.later hbV).at (show 0 < xs.length by omega)
  have hxm : xs[0]! ∈ xs := by rw [getElem!_pos xs 0 (by omega)]; exact List.getElem_mem _
  have hrow : RRow V (xs[0]!).p (xs[0]!).c (xs[0]!).rs := (hx.later hbV).ok _ hxm
  obtain ⟨xp, hxp⟩ : ∃ xp, (xs[0]!).p = xp := ⟨_, rfl⟩
  obtain ⟨xc, hxc⟩ : ∃ xc, (xs[0]!).c = xc := ⟨_, rfl⟩
  obtain ⟨rs, hrs⟩ : ∃ rs, (xs[0]!).rs = rs := ⟨_, rfl⟩
  rw [hxp, hxc, hrs] at hc hrow
  obtain ⟨N, hN⟩ : ∃ N, rs.length = N := ⟨_, rfl⟩
  rw [hN] at hc
  have hc0 : V.cell? ⟨g, o2, none⟩ = some (.slice xp N xc) := hc
  have HA : Hid (∀ X, Below V.heap.size V X → Calls Try.prog 38 #[.agg #[.int .i64 9, .int .i64 pt, .int .i64 fn, .int .i64 ar, .slice ip n ic], .agg #[.slice none 0 0, .int .i64 0], .slice xp N xc] X fun e w' => e = .returned (.tuple #[.agg #[.slice none 0 0, .int .i64 0], .slice none 0 0]) ∧ Below X.heap.size X w') := hide (fun X hX => all_sink (RRow.later hrow hX) hN)
  have d0 : V.cell? ⟨oB, 0, none⟩ = some (.int .i64 9) := by simp [World.cell?, hop]
  have d1 : V.cell? ⟨oB, 1, none⟩ = some (.int .i64 pt) := by simp [World.cell?, hop]
  have d2 : V.cell? ⟨oB, 2, none⟩ = some (.int .i64 fn) := by simp [World.cell?, hop]
  have d3 : V.cell? ⟨oB, 3, none⟩ = some (.int .i64 ar) := by simp [World.cell?, hop]
  have d4 : V.cell? ⟨oB, 4, none⟩ = some (.slice ip n ic) := by simp [World.cell?, hop]
  have HBV := hide hbV
  have HRES := hide hres
  have HOP := hide hop
  have HOB := hide hoB
  clear hx hn hlb hbV hres hop a1 a2 hil hrow hxp hxc hrs hN hc hxm
  go_enter Try.func31, Try.ntmps31
  go_upto_region 5 with fail
  rw [← hV]
  clear hV
  have ab := alloc_below V (.cells #[.slice none 0 0, .int .i64 0] 57 (0, 0))
  have m0 := cell_later ab hc0
  have m1 := cell_later ab d0
  have m2 := cell_later ab d1
  have m3 := cell_later ab d2
  have m4 := cell_later ab d3
  have m5 := cell_later ab d4
  go_cut [9, 10] from 30 to 39 (fun s9 s10 wd => ∃ q, s9 = .pointer (some ⟨q, 0, none⟩) ∧ s10 = .slice none 0 0 ∧ Hid (wd.heap[q]? = some (.cells #[.slice none 0 0, .int .i64 0] 57 (0, 0))) ∧ Hid (Below V.heap.size V wd) ∧ Hid (V.heap.size ≤ q))
  case first =>
    go_region_with (go_at_call 38; refine (HA.out _ ?_).mono ?_; · first | exact (Below.refl _ V).drew | exact (alloc_below V _).drew
                    rintro _ w1 ⟨rfl, hB1⟩; try (obtain ⟨k0, k1, k2, k3⟩ := two_facts (below_box hB1 (heap_alloc_new V _)) (.slice none 0 0)))
    all_goals
      go_wp2_with fail
      go_meet
      case rel =>
        first
        | exact ⟨_, rfl, rfl, hide (heap_alloc_new w1 _), hide ((below_undrew hB1).trans ((alloc_below w1 _).mono hB1.size)), hide hB1.size⟩
        | exact ⟨_, rfl, rfl, hide (two_set (below_box (below_undrew hB1) (heap_alloc_new V _)) _ _), hide (((ab.trans ((below_undrew hB1).mono ab.size)).setCell (p := ⟨V.heap.size, 0, none⟩) (Nat.le_refl _) _).setCell (p := ⟨V.heap.size, 1, none⟩) (Nat.le_refl _) _), hide (Nat.le_refl _)⟩
  case rest =>
  obtain ⟨q, rfl, rfl, HQ, HBQ, HVQ⟩ := hcut
  rename World => w2
  clear HA ab m0 m1 m2 m3 m4 m5
  have y0 := below_box HBQ.out HOP.out
  have e0 : w2.cell? ⟨oB, 0, none⟩ = some (.int .i64 9) := by simp [World.cell?, y0]
  have e1 : w2.cell? ⟨oB, 1, none⟩ = some (.int .i64 pt) := by simp [World.cell?, y0]
  have e2 : w2.cell? ⟨oB, 2, none⟩ = some (.int .i64 fn) := by simp [World.cell?, y0]
  have e3 : w2.cell? ⟨oB, 3, none⟩ = some (.int .i64 ar) := by simp [World.cell?, y0]
  have e4 : w2.cell? ⟨oB, 4, none⟩ = some (.slice ip n ic) := by simp [World.cell?, y0]
  have q0 : w2.cell? ⟨q, 0, none⟩ = some (.slice none 0 0) := by simp [World.cell?, HQ.out]
  have q1 : w2.cell? ⟨q, 1, none⟩ = some (.int .i64 0) := by simp [World.cell?, HQ.out]
  have HR2 := hide (below_box HBQ.out HRES.out)
  clear y0 d0 d1 d2 d3 d4 hc0
  go_wp2_with fail
  go_region_with (first
    | (go_at_call 40; refine ports_sink.mono ?_; rintro _ w3 ⟨rfl, hB3⟩; have s0 := cell_later hB3 q0; have s1 := cell_later hB3 q1)
    | (go_at_call 39; refine byPorts_nil.mono ?_; rintro _ w4 ⟨rfl, hO4, hB4⟩; have t0 := cell_later hB4 s0; have t1 := cell_later hB4 s1; obtain ⟨f0, f1, f2, f3, f4, f5, f6, f7⟩ := res_facts (below_box hB4 (below_box (below_undrew hB3) HR2.out)) (.slice (some ⟨w3.heap.size, 0, none⟩) 0 0) (.slice none 0 0) (.int .i64 0)))
  all_goals
    have hb9 : Below V.heap.size V w4 := HBQ.out.trans ((below_undrew hB3).trans (hB4.mono hB3.size) |>.mono HBQ.out.size)
    have r4 := below_box hB4 (below_box (below_undrew hB3) HR2.out)
    have hBW4 : Below W.heap.size W w4 := HBV.out.trans (hb9.mono HBV.out.size)
    have hO5 := set4_only w4 (oB + 1) (.slice (some ⟨w3.heap.size, 0, none⟩) 0 0) (.slice none 0 0) (.int .i64 0) (.slice none 0 0)
    have HE := hide (set4_heap r4 (.slice (some ⟨w3.heap.size, 0, none⟩) 0 0) (.slice none 0 0) (.int .i64 0) (.slice none 0 0))
    have HBF : Hid (Below W.heap.size W (set4 w4 (oB + 1) (.slice (some ⟨w3.heap.size, 0, none⟩) 0 0) (.slice none 0 0) (.int .i64 0) (.slice none 0 0))) := hide (hBW4.trans (hO5.below hBW4.size (fun i e => by have e' : i = oB + 1 := e; have := HOB.out; omega)))
    have hle3 : W.heap.size ≤ w3.heap.size := Nat.le_trans HBV.out.size (Nat.le_trans HBQ.out.size hB3.size)
    have HP : Hid ((set4 w4 (oB + 1) (.slice (some ⟨w3.heap.size, 0, none⟩) 0 0) (.slice none 0 0) (.int .i64 0) (.slice none 0 0)).ownsRow W.heap.size 23 1 (.slice (some ⟨w3.heap.size, 0, none⟩) 0 0) 0 []) := hide (ownsRow_only (ownsRow_base hO4 hle3) hO5 (fun b hb e => by
      have e' : b = oB + 1 := e
      have h9 := own_block_base hO4 hb
      have := HBQ.out.size
      have := hB3.size
      simp at this
      omega))
    unfold set4 at HE HBF HP
    clear hb9 r4 hBW4 hO5 hO4 hB4 hB3
    go_wp2
    refine bodyPost_ret (results_cell_row rfl _ _ (oB + 1) 70 _ _ _ rfl HE.out Try.underlying70 rfl (by kernel_rfl)) rfl ?_
    exact ⟨⟨[], some ⟨w3.heap.size, 0, none⟩, 0, [], none, 0, 0, 0, [], none, 0⟩, rfl, ⟨HP.out, fun y hy => (by cases hy), World.ownsRow_nil _ _ _ _, World.ownsRow_nil _ _ _ _, fun y hy => (by cases hy), fun g _ h9 => (by simp [RV.bv, Value.ownBlock] at h9)⟩, rfl, HBF.out⟩
end Go.Proofs.Ytbcllgddogghbaa
