/-
  The program's resultOf of a sink. The conditions: lengths.
-/
import Derived.Test.YtifldnpccgbnkaaGreatRso
import Derived.Laws.ResultCell
import Derived.Deep.RegionHeld3
import Derived.Deep.CutRange
import Derived.Test.YtifldnpccgbnkaaGreatOpp
import Derived.Deep.RegionLaw
import Derived.Maps.AppendAt
namespace Go.Proofs.YtifldnpccgbnkaaGreat
open Go.RowKit Go.Shelf

theorem results_cell_two {P : Program} {fn : Func} {p u : Tmp} {ty : TypeId} (h : fn.results = #[.cell p ty, .tmp u]) (tmps : Array Value) (w : World) (g : Nat) (t : TypeId) (cs : Array Value) (fr : Nat × Nat) (d : TypeDesc)
    (hp : tmps.getD p undef = .pointer (some ⟨g, 0, none⟩)) (hg : w.heap[g]? = some (.cells cs t fr))
    (hu : P.underlying ty = some d) (hd : (match d with | .struct _ | .array _ _ => true | _ => false) = true) (hi : (P.info? ty).map (·.size) = some cs.size) :
    (results fn tmps).run P w = .ok (.tuple #[.agg cs, tmps.getD u undef]) w := by
  rw [results_cell_tmp h, hp]
  simp [asAddr, run_loadVar_row w g t ty cs fr d hg hu hd hi]

theorem below_undrew {n : Nat} {A B : World} (h : Below n A.drew B) : Below n A B := ⟨h.os, h.tape, h.output, h.size, h.block⟩
theorem two_facts {w : World} {b : Nat} {t : TypeId} {c0 c1 : Value} (h : w.heap[b]? = some (.cells #[c0, c1] t (0, 0))) (d0 : Value) :
    w.cell? ⟨b, 0, none⟩ = some c0 ∧ w.frozen? ⟨b, 0, none⟩ = false ∧ (w.setCell ⟨b, 0, none⟩ d0).cell? ⟨b, 1, none⟩ = some c1 ∧ (w.setCell ⟨b, 0, none⟩ d0).frozen? ⟨b, 1, none⟩ = false := by
  have h1 := heap_setCell_same w b 0 _ _ d0 h
  refine ⟨by simp [World.cell?, h], by simp [World.frozen?, h], ?_, ?_⟩
  · simp only [World.cell?]; rw [h1]; rfl
  · simp only [World.frozen?]; rw [h1]; rfl
theorem two_set {W : World} {b : Nat} {t : TypeId} {c0 c1 : Value} (h : W.heap[b]? = some (.cells #[c0, c1] t (0, 0))) (d0 d1 : Value) :
    ((W.setCell ⟨b, 0, none⟩ d0).setCell ⟨b, 1, none⟩ d1).heap[b]? = some (.cells #[d0, d1] t (0, 0)) :=
  heap_setCell_same _ b 1 _ _ d1 (heap_setCell_same W b 0 _ _ d0 h)
set_option maxRecDepth 100000 in
theorem keeps_sink {W : World} {pt fn ar : Int} {ip : Option Addr} {n ic : Nat} : Calls Tryz.prog 58 #[.agg #[.int .i64 9, .int .i64 pt, .int .i64 fn, .int .i64 ar, .slice ip n ic]] W fun e w' => e = .returned (.bool false) ∧ Below W.heap.size W w' := by
  have HB := hide (alloc_below W (.cells #[.int .i64 9, .int .i64 pt, .int .i64 fn, .int .i64 ar, .slice ip n ic] 55 (0, 0)))
  go_enter Tryz.func58, Tryz.ntmps58
  go_wp2
  go_ret
  exact ⟨rfl, HB.out⟩
set_option maxRecDepth 100000 in
set_option maxHeartbeats 2000000 in
theorem pass_sink {W : World} {pt fn ar ky vl : Int} {ip : Option Addr} {n ic : Nat} : Calls Tryz.prog 59 #[.slice none 0 0, .agg #[.int .i64 9, .int .i64 pt, .int .i64 fn, .int .i64 ar, .slice ip n ic], .agg #[.int .i64 ky, .int .i64 vl]] W fun e w' => e = .returned (.slice none 0 0) ∧ Below W.heap.size W w' := by
  have a1 := alloc_below W (.cells #[.int .i64 9, .int .i64 pt, .int .i64 fn, .int .i64 ar, .slice ip n ic] 55 (0, 0))
  have HB := hide (a1.trans ((alloc_below (W.alloc (.cells #[.int .i64 9, .int .i64 pt, .int .i64 fn, .int .i64 ar, .slice ip n ic] 55 (0, 0))) (.cells #[.int .i64 ky, .int .i64 vl] 71 (0, 0))).mono a1.size))
  clear a1
  go_enter Tryz.func59, Tryz.ntmps59
  go_wp2
  go_ret
  exact ⟨rfl, HB.out⟩
set_option maxRecDepth 100000 in
theorem ksClone_nil {W : World} : Calls Tryz.prog 77 #[.slice none 0 0] W fun e w' => e = .returned (.slice none 0 0) ∧ w' = W := by
  have q : ∀ (w : World) (a : Option Addr) (n c : Nat), (binOp .eql 56 (.slice a n c) (.slice none 0 0)).run Tryz.prog w = .ok (.bool a.isNone) w := fun w a n c => Lib.run_eql_slice_nil w _ _ a n c 0 0 Tryz.underlying56
  go_enter Tryz.func77, Tryz.ntmps77
  go_wp2
  go_ret
  exact ⟨rfl, rfl⟩
set_option maxRecDepth 100000 in
set_option maxHeartbeats 2000000 in
theorem oclone_nil {W : World} {tn : Int} : Calls Tryz.prog 60 #[.agg #[.slice none 0 0, .int .i64 tn]] W fun e w' => e = .returned (.agg #[.slice none 0 0, .int .i64 tn]) ∧ Below W.heap.size W w' := by
  have a1 := alloc_below W (.cells #[.slice none 0 0, .int .i64 tn] 58 (0, 0))
  have a2 := alloc_below (W.alloc (.cells #[.slice none 0 0, .int .i64 tn] 58 (0, 0))) (.cells #[.slice none 0 0, .int .i64 tn] 58 (0, 0))
  have HB := hide (a1.trans (a2.mono a1.size))
  have HE : Hid (((W.alloc (.cells #[.slice none 0 0, .int .i64 tn] 58 (0, 0))).alloc (.cells #[.slice none 0 0, .int .i64 tn] 58 (0, 0))).drew.heap[W.heap.size + 1]? = some (.cells #[.slice none 0 0, .int .i64 tn] 58 (0, 0))) := by
    have h := heap_alloc_new (W.alloc (.cells #[.slice none 0 0, .int .i64 tn] 58 (0, 0))) (.cells #[.slice none 0 0, .int .i64 tn] 58 (0, 0))
    rw [World.size_alloc] at h
    exact hide h
  clear a1 a2
  go_enter Tryz.func60, Tryz.ntmps60
  go_wp2_with fail
  go_region_with (go_at_call 77; refine ksClone_nil.mono ?_; rintro _ _ ⟨rfl, rfl⟩)
  all_goals
    go_wp2
    refine bodyPost_ret (results_cell_row rfl _ _ (W.heap.size + 1) 58 _ _ _ rfl HE.out Tryz.underlying58 rfl (by kernel_rfl)) rfl ?_
    exact ⟨rfl, HB.out.drew⟩
set_option maxRecDepth 100000 in
set_option maxHeartbeats 4000000 in
theorem all_sink {W : World} {p : Option Addr} {c N : Nat} {rs : List RC} {pt fn ar tn : Int} {ip : Option Addr} {n ic : Nat} (h : RRow W p c rs) (hN : rs.length = N) : Calls Tryz.prog 42 #[.agg #[.int .i64 9, .int .i64 pt, .int .i64 fn, .int .i64 ar, .slice ip n ic], .agg #[.slice none 0 0, .int .i64 tn], .slice p N c] W fun e w' => e = .returned (.tuple #[.agg #[.slice none 0 0, .int .i64 tn], .slice none 0 0]) ∧ Below W.heap.size W w' := by
  have i1 := h.le
  have i2 := h.top
  rw [hN] at i1
  obtain ⟨V, hV⟩ : ∃ V, V = ((W.alloc (.cells #[.int .i64 9, .int .i64 pt, .int .i64 fn, .int .i64 ar, .slice ip n ic] 55 (0, 0))).alloc (.cells #[.slice none 0 0, .int .i64 tn] 58 (0, 0))).alloc (.cells #[.slice none 0 0, .int .i64 0] 58 (0, 0)) := ⟨_, rfl⟩
  have a1 := alloc_below W (.cells #[.int .i64 9, .int .i64 pt, .int .i64 fn, .int .i64 ar, .slice ip n ic] 55 (0, 0))
  have a2 := alloc_below (W.alloc (.cells #[.int .i64 9, .int .i64 pt, .int .i64 fn, .int .i64 ar, .slice ip n ic] 55 (0, 0))) (.cells #[.slice none 0 0, .int .i64 tn] 58 (0, 0))
  have a3 := alloc_below ((W.alloc (.cells #[.int .i64 9, .int .i64 pt, .int .i64 fn, .int .i64 ar, .slice ip n ic] 55 (0, 0))).alloc (.cells #[.slice none 0 0, .int .i64 tn] 58 (0, 0))) (.cells #[.slice none 0 0, .int .i64 0] 58 (0, 0))
  have hbV : Below W.heap.size W V := by rw [hV]; exact a1.trans ((a2.mono a1.size).trans (a3.mono (Nat.le_trans a1.size a2.size)))
  obtain ⟨sB, hsB⟩ : ∃ sB, W.heap.size = sB := ⟨_, rfl⟩
  have x0 : V.heap[sB]? = some (.cells #[.int .i64 9, .int .i64 pt, .int .i64 fn, .int .i64 ar, .slice ip n ic] 55 (0, 0)) := by rw [hV, ← hsB]; exact below_box a3 (below_box a2 (heap_alloc_new W _))
  have x1 : V.heap[sB + 1]? = some (.cells #[.slice none 0 0, .int .i64 tn] 58 (0, 0)) := by
    have e : sB + 1 = (W.alloc (.cells #[.int .i64 9, .int .i64 pt, .int .i64 fn, .int .i64 ar, .slice ip n ic] 55 (0, 0))).heap.size := by rw [← hsB]; simp
    rw [hV, e]
    exact below_box a3 (heap_alloc_new _ _)
  have x2 : V.heap[sB + 2]? = some (.cells #[.slice none 0 0, .int .i64 0] 58 (0, 0)) := by
    have e : sB + 2 = ((W.alloc (.cells #[.int .i64 9, .int .i64 pt, .int .i64 fn, .int .i64 ar, .slice ip n ic] 55 (0, 0))).alloc (.cells #[.slice none 0 0, .int .i64 tn] 58 (0, 0))).heap.size := by rw [← hsB]; simp
    rw [hV, e]
    exact heap_alloc_new _ _
  have hVs : sB + 3 ≤ V.heap.size := by rw [hV, ← hsB]; simp
  have HX0 := hide x0
  have HX1 := hide x1
  have HX2 := hide x2
  have HBV := hide hbV
  have HR := hide (RRow.later h hbV)
  have HN := hide hN
  have HSB := hide hsB
  clear h hN x0 x1 x2 hbV a1 a2 a3
  go_enter Tryz.func42, Tryz.ntmps42
  go_wp2_with fail
  rw [← hV]
  clear hV
  refine keeps_sink.mono ?_
  rintro _ w1 ⟨rfl, hB1⟩
  have HB1 := hide hB1
  clear hB1
  go_wp2_with fail
  go_loopw [8, 22] (fun s i wq => ∃ k : Nat, k ≤ N ∧ i = .int .i64 (k : Int) ∧ s = .slice none 0 0 ∧ Hid (Below V.heap.size V wq)) (fun _ i _ => N - (intOf i).toNat)
  case atStart => exact ⟨0, Nat.zero_le _, rfl, rfl, HB1⟩
  case round =>
    obtain ⟨k, hk, rfl, rfl, HBq⟩ := hrel
    rename World => wq
    by_cases hlt : k < N
    · have hlt2 : k < rs.length := by rw [HN.out]; exact hlt
      obtain ⟨r, hr⟩ : ∃ r, rs[k]! = r := ⟨_, rfl⟩
      obtain ⟨g, o, rfl, c0, c1⟩ := (RRow.later HR.out HBq.out).at hlt2 hr
      obtain ⟨ky, vl⟩ := r
      simp only at c0 c1
      obtain ⟨wr, hwr⟩ : ∃ wr, wr = wq.alloc (.cells #[.int .i64 ky, .int .i64 vl] 71 (0, 0)) := ⟨_, rfl⟩
      have b1 : Below wq.heap.size wq wr := by rw [hwr]; exact alloc_below _ _
      have y0 := below_box b1 (below_box HBq.out HX0.out)
      have d0 : wr.cell? ⟨sB, 0, none⟩ = some (.int .i64 9) := by simp [World.cell?, y0]
      have d1 : wr.cell? ⟨sB, 1, none⟩ = some (.int .i64 pt) := by simp [World.cell?, y0]
      have d2 : wr.cell? ⟨sB, 2, none⟩ = some (.int .i64 fn) := by simp [World.cell?, y0]
      have d3 : wr.cell? ⟨sB, 3, none⟩ = some (.int .i64 ar) := by simp [World.cell?, y0]
      have d4 : wr.cell? ⟨sB, 4, none⟩ = some (.slice ip n ic) := by simp [World.cell?, y0]
      rw [hwr] at d0 d1 d2 d3 d4
      have HB2 : Hid (Below V.heap.size V wr) := hide (HBq.out.trans (b1.mono HBq.out.size))
      clear b1 y0 hr hlt2
      go_wp2_with fail
      rw [← hwr]
      clear hwr d0 d1 d2 d3 d4 c0 c1
      refine pass_sink.mono ?_
      rintro _ w3 ⟨rfl, hB3⟩
      have HB3 : Hid (Below V.heap.size V w3) := hide (HB2.out.trans (hB3.mono HB2.out.size))
      clear hB3
      go_wp2
      exact ⟨⟨k + 1, by omega, by first | rfl | go_num, rfl, HB3⟩, by simp [intOf]; omega⟩
    · obtain rfl : k = N := by omega
      have y1 := below_box HBq.out HX1.out
      have d0 : wq.cell? ⟨sB + 1, 0, none⟩ = some (.slice none 0 0) := by simp [World.cell?, y1]
      have d1 : wq.cell? ⟨sB + 1, 1, none⟩ = some (.int .i64 tn) := by simp [World.cell?, y1]
      clear y1
      go_wp2_with fail
      refine oclone_nil.mono ?_
      rintro _ w4 ⟨rfl, hB4⟩
      have y2 := below_box hB4 (below_box HBq.out HX2.out)
      obtain ⟨f0, f1, f2, f3⟩ := two_facts y2 (.slice none 0 0)
      have HE := hide (two_set y2 (.slice none 0 0) (.int .i64 tn))
      have hBW : Below W.heap.size W w4 := HBV.out.trans ((HBq.out.trans (hB4.mono HBq.out.size)).mono HBV.out.size)
      have HBF : Hid (Below W.heap.size W ((w4.setCell ⟨sB + 2, 0, none⟩ (.slice none 0 0)).setCell ⟨sB + 2, 1, none⟩ (.int .i64 tn))) := hide ((hBW.setCell (p := ⟨sB + 2, 0, none⟩) (by have := HSB.out; show W.heap.size ≤ sB + 2; omega) _).setCell (p := ⟨sB + 2, 1, none⟩) (by have := HSB.out; show W.heap.size ≤ sB + 2; omega) _)
      clear y2 hB4 hBW
      go_wp2
      refine bodyPost_ret (results_cell_two rfl _ _ (sB + 1 + 1) 58 _ _ _ rfl HE.out Tryz.underlying58 rfl (by kernel_rfl)) rfl ?_
      exact ⟨rfl, HBF.out⟩
set_option maxRecDepth 100000 in
set_option maxHeartbeats 4000000 in
theorem byPorts_nil {W : World} : Calls Tryz.prog 43 #[.slice none 0 0, .int .i64 0] W fun e w' => e = .returned (.slice (some ⟨W.heap.size, 0, none⟩) 0 0) ∧ w'.ownsRow W.heap.size 26 1 (.slice (some ⟨W.heap.size, 0, none⟩) 0 0) 0 [] ∧ Below W.heap.size W w' := by
  obtain ⟨i0, hI0, hz0, hz1, hz2⟩ := info_parts Tryz.infoRecs
  obtain ⟨w1, hrun, hown, hgr⟩ := run_make_full W W.heap.size 25 26 i0 (.slice none 0 0) 1 Tryz.underlying25 hI0 hz0 hz1 .i64 .i64 0 (by omega) (by unfold maxLen; omega) (Nat.le_refl _)
  rw [made_lists] at hown
  have hrun2 : (Instr.makeSlice 25 (.int .i64 0) (.int .i64 0)).run Tryz.prog W = .ok (.slice (some ⟨W.heap.size, 0, none⟩) 0 0) w1 := hrun
  have HO : Hid (w1.ownsRow W.heap.size 26 1 (.slice (some ⟨W.heap.size, 0, none⟩) 0 0) 0 []) := hide hown
  have HB : Hid (Below W.heap.size W w1) := hide ((Below.refl _ W).grown hgr (Nat.le_refl _) (fun k hk => by simp at hk))
  clear hrun hown hgr
  go_enter Tryz.func43, Tryz.ntmps43
  go_wp2_with fail
  go_loopw [12] (fun i wq => i = .int .i64 0 ∧ wq = w1) (fun _ _ => 0)
  case atStart => exact ⟨rfl, rfl⟩
  case round =>
    obtain ⟨rfl, rfl⟩ := hrel
    go_wp2
    go_ret
    exact ⟨rfl, HO.out, HB.out⟩
set_option maxRecDepth 100000 in
theorem ports_sink {W : World} {pt fn ar : Int} {ip : Option Addr} {n ic : Nat} :
    Calls Tryz.prog 44 #[.agg #[.int .i64 9, .int .i64 pt, .int .i64 fn, .int .i64 ar, .slice ip n ic]] W fun e w' => e = .returned (.int .i64 0) ∧ Below W.heap.size W w' := ports_any
end Go.Proofs.YtifldnpccgbnkaaGreat

/-
  The program's resultOf of a sink. The conditions: lengths.
-/
namespace Go.Proofs.YtifldnpccgbnkaaGreat
open Go.RowKit Go.Shelf

def sinkC (_ : List (List RC)) : RS := ⟨[], [], 0, []⟩
set_option maxRecDepth 100000 in
set_option maxHeartbeats 8000000 in
theorem sinkR_any {o : GO} (hk : o.kind = 9) (hi : 0 < o.ins.length) : ResAt o sinkC := by
  intro W ip p ic cap n xs hx hn hno hn4 hlb _
  obtain ⟨kd, pt, fn, ar, ins⟩ := o
  simp only at hk hi hno
  subst hk
  obtain ⟨il, hil⟩ : ∃ il, ins.length = il := ⟨_, rfl⟩
  simp only [hil]
  rw [hil] at hno hi
  subst hno
  have i1 := hx.row.le
  have i2 := hx.row.top
  rw [hn] at i1
  obtain ⟨V, hV⟩ : ∃ V, V = (W.alloc (.cells #[.int .i64 9, .int .i64 pt, .int .i64 fn, .int .i64 ar, .slice ip n ic] 55 (0, 0))).alloc (.cells #[.slice none 0 0, .slice none 0 0, .int .i64 0, .slice none 0 0] 62 (0, 0)) := ⟨_, rfl⟩
  have a1 := alloc_below W (.cells #[.int .i64 9, .int .i64 pt, .int .i64 fn, .int .i64 ar, .slice ip n ic] 55 (0, 0))
  have a2 := alloc_below (W.alloc (.cells #[.int .i64 9, .int .i64 pt, .int .i64 fn, .int .i64 ar, .slice ip n ic] 55 (0, 0))) (.cells #[.slice none 0 0, .slice none 0 0, .int .i64 0, .slice none 0 0] 62 (0, 0))
  have hbV : Below W.heap.size W V := by rw [hV]; exact a1.trans (a2.mono a1.size)
  obtain ⟨oB, hoB⟩ : ∃ oB, W.heap.size = oB := ⟨_, rfl⟩
  have hop : V.heap[oB]? = some (.cells #[.int .i64 9, .int .i64 pt, .int .i64 fn, .int .i64 ar, .slice ip n ic] 55 (0, 0)) := by rw [hV, ← hoB]; exact below_box a2 (heap_alloc_new W _)
  have hres : V.heap[oB + 1]? = some (.cells #[.slice none 0 0, .slice none 0 0, .int .i64 0, .slice none 0 0] 62 (0, 0)) := by
    have e : oB + 1 = (W.alloc (.cells #[.int .i64 9, .int .i64 pt, .int .i64 fn, .int .i64 ar, .slice ip n ic] 55 (0, 0))).heap.size := by rw [← hoB]; simp
    rw [hV, e]
    exact heap_alloc_new _ _
  have hVs : oB + 2 ≤ V.heap.size := by rw [hV, ← hoB]; simp
  obtain ⟨g, o2, rfl, hc⟩ := (hx.later hbV).at (show 0 < xs.length by omega)
  have hxm : xs[0]! ∈ xs := by rw [getElem!_pos xs 0 (by omega)]; exact List.getElem_mem _
  have hrow : RRow V (xs[0]!).p (xs[0]!).c (xs[0]!).rs := (hx.later hbV).ok _ hxm
  obtain ⟨xp, hxp⟩ : ∃ xp, (xs[0]!).p = xp := ⟨_, rfl⟩
  obtain ⟨xc, hxc⟩ : ∃ xc, (xs[0]!).c = xc := ⟨_, rfl⟩
  obtain ⟨rs, hrs⟩ : ∃ rs, (xs[0]!).rs = rs := ⟨_, rfl⟩
  rw [hxp, hxc, hrs] at hc hrow
  obtain ⟨N, hN⟩ : ∃ N, rs.length = N := ⟨_, rfl⟩
  rw [hN] at hc
  have hc0 : V.cell? ⟨g, o2, none⟩ = some (.slice xp N xc) := hc
  have HA : Hid (∀ X, Below V.heap.size V X → Calls Tryz.prog 42 #[.agg #[.int .i64 9, .int .i64 pt, .int .i64 fn, .int .i64 ar, .slice ip n ic], .agg #[.slice none 0 0, .int .i64 0], .slice xp N xc] X fun e w' => e = .returned (.tuple #[.agg #[.slice none 0 0, .int .i64 0], .slice none 0 0]) ∧ Below X.heap.size X w') := hide (fun X hX => all_sink (RRow.later hrow hX) hN)
  have d0 : V.cell? ⟨oB, 0, none⟩ = some (.int .i64 9) := by simp [World.cell?, hop]
  have d1 : V.cell? ⟨oB, 1, none⟩ = some (.int .i64 pt) := by simp [World.cell?, hop]
  have d2 : V.cell? ⟨oB, 2, none⟩ = some (.int .i64 fn) := by simp [World.cell?, hop]
  have d3 : V.cell? ⟨oB, 3, none⟩ = some (.int .i64 ar) := by simp [World.cell?, hop]
  have d4 : V.cell? ⟨oB, 4, none⟩ = some (.slice ip n ic) := by simp [World.cell?, hop]
  have HBV := hide hbV
  have HRES := hide hres
  have HOP := hide hop
  have HOB := hide hoB
  clear hx hn hlb hbV hres hop a1 a2 hil hrow hxp hxc hrs hN hc hxm
  go_enter Tryz.func31, Tryz.ntmps31
  go_upto_region 5 with fail
  rw [← hV]
  clear hV
  have ab := alloc_below V (.cells #[.slice none 0 0, .int .i64 0] 58 (0, 0))
  have m0 := cell_later ab hc0
  have m1 := cell_later ab d0
  have m2 := cell_later ab d1
  have m3 := cell_later ab d2
  have m4 := cell_later ab d3
  have m5 := cell_later ab d4
  go_cut [9, 10] from 30 to 39 (fun s9 s10 wd => ∃ q, s9 = .pointer (some ⟨q, 0, none⟩) ∧ s10 = .slice none 0 0 ∧ Hid (wd.heap[q]? = some (.cells #[.slice none 0 0, .int .i64 0] 58 (0, 0))) ∧ Hid (Below V.heap.size V wd) ∧ Hid (V.heap.size ≤ q))
  case first =>
    go_region_with (go_at_call 42; refine (HA.out _ ?_).mono ?_; · first | exact (Below.refl _ V).drew | exact (alloc_below V _).drew
                    rintro _ w1 ⟨rfl, hB1⟩; try (obtain ⟨k0, k1, k2, k3⟩ := two_facts (below_box hB1 (heap_alloc_new V _)) (.slice none 0 0)))
    all_goals
      go_wp2_with fail
      go_meet
      case rel =>
        first
        | exact ⟨_, rfl, rfl, hide (heap_alloc_new w1 _), hide ((below_undrew hB1).trans ((alloc_below w1 _).mono hB1.size)), hide hB1.size⟩
        | exact ⟨_, rfl, rfl, hide (two_set (below_box (below_undrew hB1) (heap_alloc_new V _)) _ _), hide (((ab.trans ((below_undrew hB1).mono ab.size)).setCell (p := ⟨V.heap.size, 0, none⟩) (Nat.le_refl _) _).setCell (p := ⟨V.heap.size, 1, none⟩) (Nat.le_refl _) _), hide (Nat.le_refl _)⟩
  case rest =>
  obtain ⟨q, rfl, rfl, HQ, HBQ, HVQ⟩ := hcut
  rename World => w2
  clear HA ab m0 m1 m2 m3 m4 m5
  have y0 := below_box HBQ.out HOP.out
  have e0 : w2.cell? ⟨oB, 0, none⟩ = some (.int .i64 9) := by simp [World.cell?, y0]
  have e1 : w2.cell? ⟨oB, 1, none⟩ = some (.int .i64 pt) := by simp [World.cell?, y0]
  have e2 : w2.cell? ⟨oB, 2, none⟩ = some (.int .i64 fn) := by simp [World.cell?, y0]
  have e3 : w2.cell? ⟨oB, 3, none⟩ = some (.int .i64 ar) := by simp [World.cell?, y0]
  have e4 : w2.cell? ⟨oB, 4, none⟩ = some (.slice ip n ic) := by simp [World.cell?, y0]
  have q0 : w2.cell? ⟨q, 0, none⟩ = some (.slice none 0 0) := by simp [World.cell?, HQ.out]
  have q1 : w2.cell? ⟨q, 1, none⟩ = some (.int .i64 0) := by simp [World.cell?, HQ.out]
  have HR2 := hide (below_box HBQ.out HRES.out)
  clear y0 d0 d1 d2 d3 d4 hc0
  go_wp2_with fail
  go_region_with (first
    | (go_at_call 44; refine ports_sink.mono ?_; rintro _ w3 ⟨rfl, hB3⟩; have s0 := cell_later hB3 q0; have s1 := cell_later hB3 q1)
    | (go_at_call 43; refine byPorts_nil.mono ?_; rintro _ w4 ⟨rfl, hO4, hB4⟩; have t0 := cell_later hB4 s0; have t1 := cell_later hB4 s1; obtain ⟨f0, f1, f2, f3, f4, f5, f6, f7⟩ := res_facts (below_box hB4 (below_box (below_undrew hB3) HR2.out)) (.slice (some ⟨w3.heap.size, 0, none⟩) 0 0) (.slice none 0 0) (.int .i64 0)))
  all_goals
    have hb9 : Below V.heap.size V w4 := HBQ.out.trans ((below_undrew hB3).trans (hB4.mono hB3.size) |>.mono HBQ.out.size)
    have r4 := below_box hB4 (below_box (below_undrew hB3) HR2.out)
    have hBW4 : Below W.heap.size W w4 := HBV.out.trans (hb9.mono HBV.out.size)
    have hO5 := set4_only w4 (oB + 1) (.slice (some ⟨w3.heap.size, 0, none⟩) 0 0) (.slice none 0 0) (.int .i64 0) (.slice none 0 0)
    have HE := hide (set4_heap r4 (.slice (some ⟨w3.heap.size, 0, none⟩) 0 0) (.slice none 0 0) (.int .i64 0) (.slice none 0 0))
    have HBF : Hid (Below W.heap.size W (set4 w4 (oB + 1) (.slice (some ⟨w3.heap.size, 0, none⟩) 0 0) (.slice none 0 0) (.int .i64 0) (.slice none 0 0))) := hide (hBW4.trans (hO5.below hBW4.size (fun i e => by have e' : i = oB + 1 := e; have := HOB.out; omega)))
    have hle3 : W.heap.size ≤ w3.heap.size := Nat.le_trans HBV.out.size (Nat.le_trans HBQ.out.size hB3.size)
    have HP : Hid ((set4 w4 (oB + 1) (.slice (some ⟨w3.heap.size, 0, none⟩) 0 0) (.slice none 0 0) (.int .i64 0) (.slice none 0 0)).ownsRow W.heap.size 26 1 (.slice (some ⟨w3.heap.size, 0, none⟩) 0 0) 0 []) := hide (ownsRow_only (ownsRow_base hO4 hle3) hO5 (fun b hb e => by
      have e' : b = oB + 1 := e
      have h9 := own_block_base hO4 hb
      have := HBQ.out.size
      have := hB3.size
      simp at this
      omega))
    unfold set4 at HE HBF HP
    clear hb9 r4 hBW4 hO5 hO4 hB4 hB3
    go_wp2
    refine bodyPost_ret (results_cell_row rfl _ _ (oB + 1) 62 _ _ _ rfl HE.out Tryz.underlying62 rfl (by kernel_rfl)) rfl ?_
    exact ⟨⟨[], some ⟨w3.heap.size, 0, none⟩, 0, [], none, 0, 0, 0, [], none, 0⟩, rfl, ⟨HP.out, fun y hy => (by cases hy), World.ownsRow_nil _ _ _ _, World.ownsRow_nil _ _ _ _, fun y hy => (by cases hy), fun g _ h9 => (by simp [RV.bv, Value.ownBlock] at h9)⟩, rfl, HBF.out⟩
end Go.Proofs.YtifldnpccgbnkaaGreat

/-
  All of the program, of an operator that keeps nothing. The conditions: lengths.
-/
namespace Go.Proofs.YtifldnpccgbnkaaGreat
open Go.RowKit Go.Shelf

def passAll (kd fn ar : Int) (rs : List RC) : List Op.PU := rs.flatMap (fun r => Op.passC kd fn ar r.key r.val)
theorem passAll_snoc (kd fn ar : Int) (rs : List RC) (r : RC) : passAll kd fn ar (rs ++ [r]) = passAll kd fn ar rs ++ Op.passC kd fn ar r.key r.val := by
  unfold passAll
  rw [List.flatMap_append]
  simp
theorem passC_one (kd fn ar ky vl : Int) : (Op.passC kd fn ar ky vl).length ≤ 1 := by
  unfold Op.passC
  split
  · split <;> simp
  · split <;> simp
theorem passAll_len (kd fn ar : Int) : ∀ rs : List RC, (passAll kd fn ar rs).length ≤ rs.length
  | [] => Nat.le_refl _
  | r :: rs => by
    have ih := passAll_len kd fn ar rs
    have h1 := passC_one kd fn ar r.key r.val
    show (Op.passC kd fn ar r.key r.val ++ passAll kd fn ar rs).length ≤ _
    rw [List.length_append, List.length_cons]
    omega
set_option maxRecDepth 100000 in
set_option maxHeartbeats 4000000 in
theorem all_pass {W : World} {p : Option Addr} {c N : Nat} {rs : List RC} {kd pt fn ar tn : Int} {ip : Option Addr} {n ic : Nat} (hkp : Op.keepsC kd = false) (ha : I6 ar) (h : RRow W p c rs) (hN : rs.length = N) (hb : N ≤ 1048576) (hri : ∀ r ∈ rs, r.fine) : Calls Tryz.prog 42 #[.agg #[.int .i64 kd, .int .i64 pt, .int .i64 fn, .int .i64 ar, .slice ip n ic], .agg #[.slice none 0 0, .int .i64 tn], .slice p N c] W fun e w' => ∃ po co M, e = .returned (.tuple #[.agg #[.slice none 0 0, .int .i64 tn], .slice po M co]) ∧ (passAll kd fn ar rs).length = M ∧ w'.ownsRow W.heap.size 103 3 (.slice po M co) M ((passAll kd fn ar rs).flatMap Op.PU.cells) ∧ Below W.heap.size W w' := by
  have i1 := h.le
  have i2 := h.top
  rw [hN] at i1
  obtain ⟨V, hV⟩ : ∃ V, V = ((W.alloc (.cells #[.int .i64 kd, .int .i64 pt, .int .i64 fn, .int .i64 ar, .slice ip n ic] 55 (0, 0))).alloc (.cells #[.slice none 0 0, .int .i64 tn] 58 (0, 0))).alloc (.cells #[.slice none 0 0, .int .i64 0] 58 (0, 0)) := ⟨_, rfl⟩
  have a1 := alloc_below W (.cells #[.int .i64 kd, .int .i64 pt, .int .i64 fn, .int .i64 ar, .slice ip n ic] 55 (0, 0))
  have a2 := alloc_below (W.alloc (.cells #[.int .i64 kd, .int .i64 pt, .int .i64 fn, .int .i64 ar, .slice ip n ic] 55 (0, 0))) (.cells #[.slice none 0 0, .int .i64 tn] 58 (0, 0))
  have a3 := alloc_below ((W.alloc (.cells #[.int .i64 kd, .int .i64 pt, .int .i64 fn, .int .i64 ar, .slice ip n ic] 55 (0, 0))).alloc (.cells #[.slice none 0 0, .int .i64 tn] 58 (0, 0))) (.cells #[.slice none 0 0, .int .i64 0] 58 (0, 0))
  have hbV : Below W.heap.size W V := by rw [hV]; exact a1.trans ((a2.mono a1.size).trans (a3.mono (Nat.le_trans a1.size a2.size)))
  obtain ⟨sB, hsB⟩ : ∃ sB, W.heap.size = sB := ⟨_, rfl⟩
  have x0 : V.heap[sB]? = some (.cells #[.int .i64 kd, .int .i64 pt, .int .i64 fn, .int .i64 ar, .slice ip n ic] 55 (0, 0)) := by rw [hV, ← hsB]; exact below_box a3 (below_box a2 (heap_alloc_new W _))
  have x1 : V.heap[sB + 1]? = some (.cells #[.slice none 0 0, .int .i64 tn] 58 (0, 0)) := by
    have e : sB + 1 = (W.alloc (.cells #[.int .i64 kd, .int .i64 pt, .int .i64 fn, .int .i64 ar, .slice ip n ic] 55 (0, 0))).heap.size := by rw [← hsB]; simp
    rw [hV, e]
    exact below_box a3 (heap_alloc_new _ _)
  have x2 : V.heap[sB + 2]? = some (.cells #[.slice none 0 0, .int .i64 0] 58 (0, 0)) := by
    have e : sB + 2 = ((W.alloc (.cells #[.int .i64 kd, .int .i64 pt, .int .i64 fn, .int .i64 ar, .slice ip n ic] 55 (0, 0))).alloc (.cells #[.slice none 0 0, .int .i64 tn] 58 (0, 0))).heap.size := by rw [← hsB]; simp
    rw [hV, e]
    exact heap_alloc_new _ _
  have hVs : sB + 3 ≤ V.heap.size := by rw [hV, ← hsB]; simp
  have HX0 := hide x0
  have HX1 := hide x1
  have HX2 := hide x2
  have HBV := hide hbV
  have HR := hide (RRow.later h hbV)
  have HN := hide hN
  have HSB := hide hsB
  have HRI := hide hri
  have c0 : V.cell? ⟨sB, 0, none⟩ = some (.int .i64 kd) := by simp [World.cell?, x0]
  have c1 : V.cell? ⟨sB, 1, none⟩ = some (.int .i64 pt) := by simp [World.cell?, x0]
  have c2 : V.cell? ⟨sB, 2, none⟩ = some (.int .i64 fn) := by simp [World.cell?, x0]
  have c3 : V.cell? ⟨sB, 3, none⟩ = some (.int .i64 ar) := by simp [World.cell?, x0]
  have c4 : V.cell? ⟨sB, 4, none⟩ = some (.slice ip n ic) := by simp [World.cell?, x0]
  clear h hN x0 x1 x2 hbV a1 a2 a3 hri
  go_enter Tryz.func42, Tryz.ntmps42
  go_upto_region 1 with fail
  rw [← hV]
  try rw [hsB]
  clear hV hsB
  go_wp2_with fail
  refine Op.keeps_any.mono ?_
  rintro _ w1 ⟨rfl, hB1⟩
  rw [hkp]
  have HB1 := hide hB1
  clear hB1 hkp c0 c1 c2 c3 c4
  go_wp2_with fail
  go_loopw [8, 22] (fun s i wq => ∃ (k : Nat) (po : Option Addr) (co M : Nat), k ≤ N ∧ i = .int .i64 (k : Int) ∧ s = .slice po M co ∧ Hid ((passAll kd fn ar (rs.take k)).length = M) ∧ Hid (wq.ownsRow V.heap.size 103 3 (.slice po M co) M ((passAll kd fn ar (rs.take k)).flatMap Op.PU.cells)) ∧ Hid (Below V.heap.size V wq)) (fun _ i _ => N - (intOf i).toNat)
  case atStart => exact ⟨0, none, 0, 0, Nat.zero_le _, rfl, rfl, hide (by rw [List.take_zero]; rfl), hide (by rw [List.take_zero]; exact World.ownsRow_nil _ _ _ _), HB1⟩
  case round =>
    obtain ⟨k, po, co, M, hk, rfl, rfl, HM, HO, HBq⟩ := hrel
    rename World => wq
    by_cases hlt : k < N
    · have hlt2 : k < rs.length := by rw [HN.out]; exact hlt
      obtain ⟨r, hr⟩ : ∃ r, rs[k]! = r := ⟨_, rfl⟩
      obtain ⟨g, o, rfl, c0, c1⟩ := (RRow.later HR.out HBq.out).at hlt2 hr
      have hrm : r ∈ rs := by rw [← hr, getElem!_pos rs k hlt2]; exact List.getElem_mem _
      have hfi := HRI.out r hrm
      have etk : rs.take (k + 1) = rs.take k ++ [r] := by rw [List.take_succ_eq_append_getElem hlt2, ← hr, getElem!_pos rs k hlt2]
      obtain ⟨ky, vl⟩ := r
      simp only at c0 c1
      obtain ⟨wr, hwr⟩ : ∃ wr, wr = wq.alloc (.cells #[.int .i64 ky, .int .i64 vl] 71 (0, 0)) := ⟨_, rfl⟩
      have b1 : Below wq.heap.size wq wr := by rw [hwr]; exact alloc_below _ _
      have y0 := below_box b1 (below_box HBq.out HX0.out)
      have d0 : wr.cell? ⟨sB, 0, none⟩ = some (.int .i64 kd) := by simp [World.cell?, y0]
      have d1 : wr.cell? ⟨sB, 1, none⟩ = some (.int .i64 pt) := by simp [World.cell?, y0]
      have d2 : wr.cell? ⟨sB, 2, none⟩ = some (.int .i64 fn) := by simp [World.cell?, y0]
      have d3 : wr.cell? ⟨sB, 3, none⟩ = some (.int .i64 ar) := by simp [World.cell?, y0]
      have d4 : wr.cell? ⟨sB, 4, none⟩ = some (.slice ip n ic) := by simp [World.cell?, y0]
      rw [hwr] at d0 d1 d2 d3 d4
      have HB2 : Hid (Below V.heap.size V wr) := hide (HBq.out.trans (b1.mono HBq.out.size))
      have hMk : M ≤ 1048576 := by
        have h9 := passAll_len kd fn ar (rs.take k)
        rw [HM.out, List.length_take] at h9
        omega
      have HP := hide (Op.pass_any (kd := kd) (pt := pt) (fn := fn) (ip := ip) (n := n) (ic := ic) (xs := passAll kd fn ar (rs.take k)) hfi.1 hfi.2 ha (ownsRow_later HO.out b1) HB2.out.size (by omega))
      obtain ⟨pl, hpl⟩ : ∃ pl, (Op.passC kd fn ar ky vl).length = pl := ⟨_, rfl⟩
      rw [hpl] at HP
      have HPL := hide hpl
      have HET := hide etk
      clear b1 y0 hr hlt2 hrm hfi hpl etk
      go_wp2_with fail
      rw [← hwr]
      clear hwr d0 d1 d2 d3 d4 c0 c1
      refine HP.out.mono ?_
      rintro _ w3 ⟨p3, c3, rfl, hO3, hn3⟩
      have HB3 : Hid (Below V.heap.size V w3) := hide (HB2.out.trans (hn3.below HB2.out.size (fun i e => own_block_base HO.out e)))
      have HO3 : Hid (w3.ownsRow V.heap.size 103 3 (.slice p3 (M + pl) c3) (M + pl) ((passAll kd fn ar (rs.take (k + 1))).flatMap Op.PU.cells)) := hide (by rw [HET.out, passAll_snoc]; exact hO3)
      have HM3 : Hid ((passAll kd fn ar (rs.take (k + 1))).length = M + pl) := hide (by rw [HET.out, passAll_snoc, List.length_append, HM.out, HPL.out])
      clear hO3 hn3 HP HO HM
      go_wp2
      exact ⟨⟨k + 1, p3, c3, M + pl, by omega, by first | rfl | go_num, by first | rfl | go_num, HM3, HO3, HB3⟩, by simp [intOf]; omega⟩
    · obtain rfl : k = N := by omega
      have y1 := below_box HBq.out HX1.out
      have d0 : wq.cell? ⟨sB + 1, 0, none⟩ = some (.slice none 0 0) := by simp [World.cell?, y1]
      have d1 : wq.cell? ⟨sB + 1, 1, none⟩ = some (.int .i64 tn) := by simp [World.cell?, y1]
      have HRS : Hid (rs.take k = rs) := hide (by rw [← HN.out, List.take_length])
      clear y1
      go_wp2_with fail
      refine oclone_nil.mono ?_
      rintro _ w4 ⟨rfl, hB4⟩
      have y2 := below_box hB4 (below_box HBq.out HX2.out)
      obtain ⟨f0, f1, f2, f3⟩ := two_facts y2 (.slice none 0 0)
      have HE := hide (two_set y2 (.slice none 0 0) (.int .i64 tn))
      have hBW : Below W.heap.size W w4 := HBV.out.trans ((HBq.out.trans (hB4.mono HBq.out.size)).mono HBV.out.size)
      have HBF : Hid (Below W.heap.size W ((w4.setCell ⟨sB + 2, 0, none⟩ (.slice none 0 0)).setCell ⟨sB + 2, 1, none⟩ (.int .i64 tn))) := hide ((hBW.setCell (p := ⟨sB + 2, 0, none⟩) (by have := HSB.out; show W.heap.size ≤ sB + 2; omega) _).setCell (p := ⟨sB + 2, 1, none⟩) (by have := HSB.out; show W.heap.size ≤ sB + 2; omega) _)
      have HOF : Hid (((w4.setCell ⟨sB + 2, 0, none⟩ (.slice none 0 0)).setCell ⟨sB + 2, 1, none⟩ (.int .i64 tn)).ownsRow W.heap.size 103 3 (.slice po M co) M ((passAll kd fn ar rs).flatMap Op.PU.cells)) := by
        have h9 := ownsRow_later HO.out hB4
        rw [HRS.out] at h9
        refine hide (ownsRow_only (ownsRow_base h9 HBV.out.size) ((Only.set (F := (· = sB + 2)) w4 (sB + 2) 0 _ rfl).trans (Only.set (F := (· = sB + 2)) _ (sB + 2) 1 _ rfl)) (fun b hb e => ?_))
        have e' : b = sB + 2 := e
        have := own_block_base h9 hb
        omega
      have HMF : Hid ((passAll kd fn ar rs).length = M) := hide (by rw [← HM.out, HRS.out])
      clear y2 hB4 hBW HO HM
      go_wp2
      refine bodyPost_ret (results_cell_two rfl _ _ (sB + 1 + 1) 58 _ _ _ rfl HE.out Tryz.underlying58 rfl (by kernel_rfl)) rfl ?_
      exact ⟨po, co, M, rfl, HMF.out, HOF.out, HBF.out⟩
end Go.Proofs.YtifldnpccgbnkaaGreat

/-
  The program's byPorts: what goes out, port by port. The conditions: lengths, and that each port is one of them.
-/
namespace Go.Proofs.YtifldnpccgbnkaaGreat
open Go.RowKit Go.Shelf

/-- append, one step of a region that draws its order: where the row lies then. -/
theorem step_append_at {P : Program} {ops : Array Oper} {o : Oper} {a : Act} {w : World} {K : Act → World → Prop} {Q : Exit → Act → World → Prop} {E : Prop} (hgd : o.guard = none) (s x : Operand) (t : TypeId)
    (ho : o.op = .call { callee := .builtin .append, args := #[s, x], argTypes := #[t, t] })
    (base : Nat) (e : TypeId) (i : TypeInfo) (z : Value) (size bytes : Nat) (ht : P.underlying t = some (.slice e)) (hi : P.info? e = some i) (hz : i.zero = some z)
    (hsize : i.size = size) (hby : i.bytes = bytes) (hzs : z.cells.size = size) (hsz : 0 < size)
    (v : Value) (n : Nat) (xs : List Value) (hs : a.eval s = v) (hown : w.ownsRow base e size v n xs)
    (ad : Addr) (m c : Nat) (news : List Value) (hx : a.eval x = .slice (some ad) m c) (hl : news.length = m * size) (hnews : ∀ j u, news[j]? = some u → w.cell? (ad.add j) = some u) (h1 : ∀ u ∈ news, u.oneCell' = true) (h63 : n + m ≤ maxLen) (hbytes : (n + m) * bytes ≤ 140737488355328) (hbase : base ≤ w.heap.size)
    (h : ∀ p' c' w', w'.ownsRow base e size (.slice p' (n + m) c') (n + m) (xs ++ news) → w.grownBy w' v.ownBlock → ((Value.slice p' (n + m) c').ownBlock = v.ownBlock ∨ (Value.slice p' (n + m) c').ownBlock = some w.heap.size) → K (a.put o.dst (.slice p' (n + m) c')) w') :
    if Region.wanted o (yielded ops a.tmps) = true then Oper.wp P o a w K Q else E := by
  have hw : Region.wanted o (yielded ops a.tmps) = true := by simp [Region.wanted, hgd]
  rw [if_pos hw]
  obtain ⟨v', w', hr, h2, h3, _, h4⟩ := run_append_own_at (P := P) w base t o.type e i z size bytes ht hi hz hsize hby hzs hsz v n xs hown ad m c news hl hnews h1 h63 hbytes hbase
  obtain ⟨p', c', rfl, _, _⟩ := own_form h2
  unfold Oper.wp execOp
  simp only [ho, resolve, invoke, builtin, Sem.run_bind, Sem.run_pure, Result.andThen_ok, List.map_toArray, List.map_cons, List.map_nil, hs, hx, hr]
  exact h p' c' w' h2 h3 h4
def recP (x : Op.PU) : RC := ⟨x.key, x.val⟩
def onlyP (p : Nat) (l : List Op.PU) : List RC := (l.filter (fun x => decide (x.port = (p : Int)))).map recP
theorem onlyP_snoc (p : Nat) (l : List Op.PU) (x : Op.PU) : onlyP p (l ++ [x]) = onlyP p l ++ (if x.port = (p : Int) then [recP x] else []) := by
  unfold onlyP
  rw [List.filter_append, List.map_append]
  congr 1
  by_cases h : x.port = (p : Int)
  · rw [if_pos h, List.filter_cons_of_pos (by simp [h])]; rfl
  · rw [if_neg h, List.filter_cons_of_neg (by simp [h])]; rfl
theorem onlyP_len (p : Nat) (l : List Op.PU) : (onlyP p l).length ≤ l.length := by
  unfold onlyP
  rw [List.length_map]
  exact List.length_filter_le _ _
/-- Lists of records in memory of their own, apart. -/
structure BP (W : World) (B g P : Nat) (ys : List SV) : Prop where
  len : ys.length = P
  row : W.ownsRow B 26 1 (.slice (some ⟨g, 0, none⟩) P P) P (ys.flatMap SV.cells)
  own : ∀ i, i < P → (ys[i]!).own W B
  apart : ∀ i j, i < P → j < P → i ≠ j → ∀ b, (Value.slice (ys[i]!).p (ys[i]!).rs.length (ys[i]!).c).ownBlock = some b → (Value.slice (ys[j]!).p (ys[j]!).rs.length (ys[j]!).c).ownBlock ≠ some b
theorem BP.later {W W' : World} {B g P : Nat} {ys : List SV} (h : BP W B g P ys) (hb : Below W.heap.size W W') : BP W' B g P ys :=
  ⟨h.len, ownsRow_later h.row hb, fun i hi => (h.own i hi).later hb, h.apart⟩
theorem BP.put {Y V w6 : World} {B g P i n : Nat} {ys : List SV} {y : SV} {r : RC} {p6 : Option Addr} {c6 : Nat} (h : BP Y B g P ys) (hi : i < P) (hy : ys[i]! = y) (hn : y.rs.length = n) (hV : Below Y.heap.size Y V)
    (o6 : w6.ownsRow B 71 2 (.slice p6 (n + 1) c6) (n + 1) (y.rs.flatMap RC.cells ++ r.cells)) (g6 : V.grownBy w6 (Value.slice y.p n y.c).ownBlock) (k6 : (Value.slice p6 (n + 1) c6).ownBlock = (Value.slice y.p n y.c).ownBlock ∨ (Value.slice p6 (n + 1) c6).ownBlock = some V.heap.size) :
    BP (w6.setCell ⟨g, i, none⟩ (.slice p6 (n + 1) c6)) B g P (ys.set i ⟨y.rs ++ [r], p6, c6⟩) := by
  subst hn
  have hl6 : (y.rs ++ [r]).length = y.rs.length + 1 := by simp
  have hV' := h.later hV
  have hyo := hV'.own i hi
  rw [hy] at hyo
  have ho6 := Only.of_grown (F := fun k => (Value.slice y.p y.rs.length y.c).ownBlock = some k) g6 (fun k e => e)
  have hrow6 : w6.ownsRow B 26 1 (.slice (some ⟨g, 0, none⟩) P P) P (ys.flatMap SV.cells) := ownsRow_only hV'.row ho6 (fun b hb e => rows_apart hyo hV'.row (by decide) hb e)
  have hst := SV.stored (i := i) hrow6 ⟨y.rs ++ [r], p6, c6⟩
  simp only [hl6] at hst
  have hnew : SV.own ⟨y.rs ++ [r], p6, c6⟩ w6 B := by
    show w6.ownsRow B 71 2 (.slice p6 (y.rs ++ [r]).length c6) (y.rs ++ [r]).length ((y.rs ++ [r]).flatMap RC.cells)
    rw [hl6, List.flatMap_append]
    simpa using o6
  have hoth : ∀ j, j < P → i ≠ j → (ys[j]!).own w6 B := fun j hj hne => ownsRow_only (hV'.own j hj) ho6 (fun b hb e => h.apart j i hj hi (Ne.symm hne) b hb (by rw [hy]; exact e))
  have holdb : ∀ j, j < P → ∀ b, (Value.slice (ys[j]!).p (ys[j]!).rs.length (ys[j]!).c).ownBlock = some b → b < Y.heap.size := fun j hj b hb => (own_block_lt (h.own j hj) hb).1
  have hVs := hV.size
  refine ⟨by rw [List.length_set]; exact h.len, hst, fun j hj => ?_, fun a b ha hb hne k hk => ?_⟩
  · rw [get_setSV (by rw [h.len]; exact hj)]
    by_cases e : i = j
    · rw [if_pos e]; exact hnew.set hrow6
    · rw [if_neg e]; exact (hoth j hj e).set hrow6
  · rw [get_setSV (by rw [h.len]; exact ha)] at hk
    rw [get_setSV (by rw [h.len]; exact hb)]
    by_cases ea : i = a
    · rw [if_pos ea] at hk
      rw [if_neg (by omega)]
      simp only [hl6] at hk
      intro e
      rcases k6 with k7 | k7
      · rw [k7] at hk
        exact h.apart b i hb hi (by omega) k e (by rw [hy]; exact hk)
      · rw [k7] at hk
        have := holdb b hb k e
        simp only [Option.some.injEq] at hk
        omega
    · rw [if_neg ea] at hk
      by_cases eb : i = b
      · rw [if_pos eb]
        simp only [hl6]
        intro e
        rcases k6 with k7 | k7
        · rw [k7] at e
          exact h.apart a i ha hi (Ne.symm ea) k hk (by rw [hy]; exact e)
        · rw [k7] at e
          have := holdb a ha k hk
          simp only [Option.some.injEq] at e
          omega
      · rw [if_neg eb]
        exact h.apart a b ha hb hne k hk
theorem bp_start {W : World} {B g P : Nat} (h : W.ownsRow B 26 1 (.slice (some ⟨g, 0, none⟩) P P) P ((List.replicate P (default : SV)).flatMap SV.cells)) : BP W B g P (List.replicate P default) := by
  have hd : ∀ i, i < P → (List.replicate P (default : SV))[i]! = default := fun i hi => by rw [getElem!_pos _ i (by simpa using hi), List.getElem_replicate]
  refine ⟨by simp, h, fun i hi => ?_, fun i j hi hj _ b hb => ?_⟩
  · rw [hd i hi]; exact World.ownsRow_nil _ _ _ _
  · rw [hd i hi] at hb
    have hb' : (Value.slice none 0 0).ownBlock = some b := hb
    simp [Value.ownBlock] at hb'

set_option maxRecDepth 100000 in
set_option maxHeartbeats 4000000 in
theorem byPorts_any {W : World} {p : Option Addr} {c N P : Nat} {puts : List Op.PU} (h : LRow Op.PU.cells 3 W p c puts) (hN : puts.length = N) (hb : N ≤ 1048576) (hP : P ≤ 4) (hp : ∀ x ∈ puts, 0 ≤ x.port ∧ x.port < (P : Int)) :
    Calls Tryz.prog 43 #[.slice p N c, .int .i64 (P : Int)] W fun e w' => ∃ g ys, e = .returned (.slice (some ⟨g, 0, none⟩) P P) ∧ BP w' W.heap.size g P ys ∧ (∀ i, i < P → (ys[i]!).rs = onlyP i puts) ∧ Below W.heap.size W w' := by
  obtain ⟨i0, hI0, hz0, hz1, hz2⟩ := info_parts Tryz.infoRecs
  obtain ⟨j0, hJ0, hy0, hy1, hy2⟩ := info_parts Tryz.infoRec
  have i1 := h.le
  have i2 := h.top
  rw [hN] at i1
  obtain ⟨w1, hrun, hown, hgr⟩ := run_make_full W W.heap.size 25 26 i0 (.slice none 0 0) 1 Tryz.underlying25 hI0 hz0 hz1 .i64 .i64 P (by rw [hz2]; omega) (by unfold maxLen; omega) (Nat.le_refl _)
  rw [made_lists] at hown
  have hb1 : Below W.heap.size W w1 := (Below.refl _ W).grown hgr (Nat.le_refl _) (fun k hk => by simp at hk)
  obtain ⟨g, hg⟩ : ∃ g, W.heap.size = g := ⟨_, rfl⟩
  rw [hg] at hrun
  have HBP0 : Hid (BP w1 W.heap.size g P (List.replicate P default)) := hide (bp_start (by rw [← hg]; exact hown))
  have HH := hide h
  have HN := hide hN
  have HP := hide hp
  have HB1 := hide hb1
  have hgB : W.heap.size ≤ g := by omega
  have HGB := hide hgB
  clear h hN hp hown hgr hb1 hg hgB
  go_enter Tryz.func43, Tryz.ntmps43
  go_wp2_with fail
  go_loopw [12] (fun s wq => ∃ (k : Nat) (ys : List SV), k ≤ N ∧ s = .int .i64 (k : Int) ∧ Hid (BP wq W.heap.size g P ys) ∧ Hid (∀ i, i < P → (ys[i]!).rs = onlyP i (puts.take k)) ∧ Hid (Below W.heap.size W wq)) (fun s _ => N - (intOf s).toNat)
  case atStart => exact ⟨0, _, Nat.zero_le _, rfl, HBP0, hide (fun i hi => by rw [getElem!_pos _ i (by simpa using hi), List.getElem_replicate, List.take_zero]; rfl), HB1⟩
  case round =>
    obtain ⟨k, ys, hk, rfl, HBP, HYS, HB⟩ := hrel
    rename World => wq
    clear HBP0 HB1 hrun
    by_cases hlt : k < N
    · have hlt2 : k < puts.length := by rw [HN.out]; exact hlt
      obtain ⟨x, hx⟩ : ∃ x, puts[k]! = x := ⟨_, rfl⟩
      have hxm : x ∈ puts := by rw [← hx, getElem!_pos puts k hlt2]; exact List.getElem_mem _
      have hpx := HP.out x hxm
      obtain ⟨g2, o2, rfl, hc⟩ := (LRow.below Op.PU.len HH.out HB.out).cell k hlt2
      rw [hx] at hc
      have etk : puts.take (k + 1) = puts.take k ++ [x] := by rw [List.take_succ_eq_append_getElem hlt2, ← hx, getElem!_pos puts k hlt2]
      obtain ⟨pt, ky, vl⟩ := x
      simp only at hpx
      obtain ⟨j, rfl⟩ : ∃ j : Nat, pt = (j : Int) := ⟨pt.toNat, by omega⟩
      have hj : j < P := by omega
      have d0 : wq.cell? ⟨g2, o2 + k * 3, none⟩ = some (.int .i64 (j : Int)) := hc 0 (by omega)
      have d1 : wq.cell? ⟨g2, o2 + k * 3 + 1, none⟩ = some (.int .i64 ky) := hc 1 (by omega)
      have d2 : wq.cell? ⟨g2, o2 + k * 3 + 2, none⟩ = some (.int .i64 vl) := hc 2 (by omega)
      obtain ⟨Y, hY⟩ : ∃ Y, Y = wq.alloc (.cells #[.int .i64 (j : Int), .int .i64 ky, .int .i64 vl] 103 (0, 0)) := ⟨_, rfl⟩
      have bY : Below wq.heap.size wq Y := by rw [hY]; exact alloc_below _ _
      have uY : Y.heap[wq.heap.size]? = some (.cells #[.int .i64 (j : Int), .int .i64 ky, .int .i64 vl] 103 (0, 0)) := by rw [hY]; exact heap_alloc_new _ _
      obtain ⟨xb, hxb⟩ : ∃ xb, wq.heap.size = xb := ⟨_, rfl⟩
      rw [hxb] at uY
      have e0 : Y.cell? ⟨xb, 0, none⟩ = some (.int .i64 (j : Int)) := by simp [World.cell?, uY]
      have e1 : Y.cell? ⟨xb, 1, none⟩ = some (.int .i64 ky) := by simp [World.cell?, uY]
      have e2 : Y.cell? ⟨xb, 2, none⟩ = some (.int .i64 vl) := by simp [World.cell?, uY]
      have hBPY := HBP.out.later bY
      obtain ⟨y, hy⟩ : ∃ y, ys[j]! = y := ⟨_, rfl⟩
      have hyo := hBPY.own j hj
      rw [hy] at hyo
      obtain ⟨g', e', h9⟩ := own_cellR hBPY.row hj
      simp only [Option.some.injEq, Addr.mk.injEq, and_true] at e'
      rw [← e'] at h9
      have e3 : Y.cell? ⟨g, j, none⟩ = some (.slice y.p y.rs.length y.c) := by
        rw [h9, SV.flat, List.getD_eq_getElem?_getD, List.getElem?_map, List.getElem?_eq_getElem (by rw [hBPY.len]; exact hj), ← hy, getElem!_pos ys j (by rw [hBPY.len]; exact hj)]
        rfl
      have hyr := HYS.out j hj
      rw [hy] at hyr
      obtain ⟨yrs, yp, yc⟩ := y
      simp only at hyr e3
      obtain ⟨n, hn⟩ : ∃ n, yrs.length = n := ⟨_, rfl⟩
      have hnb : n ≤ 1048576 := by
        have h8 := onlyP_len j (puts.take k)
        rw [← hyr, List.length_take] at h8
        omega
      have hyo2 : Y.ownsRow W.heap.size 71 2 (.slice yp n yc) n (yrs.flatMap RC.cells) := by
        have h8 : Y.ownsRow W.heap.size 71 2 (.slice yp yrs.length yc) yrs.length (yrs.flatMap RC.cells) := hyo
        rw [hn] at h8
        exact h8
      rw [hn] at e3
      have hab := alloc_below Y (.cells #[.int .i64 ky, .int .i64 vl] 71 (0, 0))
      have HAB := hide hab
      have HRW := hide (ownsRow_later hyo2 hab)
      have HK1 : Hid (n + 1 ≤ maxLen) := by show _ ≤ _; unfold maxLen; omega
      have HK2 : Hid ((n + 1) * 16 ≤ 140737488355328) := by show _ ≤ _; omega
      have HGE : Hid (W.heap.size ≤ (Y.alloc (.cells #[.int .i64 ky, .int .i64 vl] 71 (0, 0))).heap.size) := hide (Nat.le_trans HB.out.size (Nat.le_trans bY.size hab.size))
      have HNY := hide hyo2
      have HBPY := hide hBPY
      have HYJ := hide hy
      have HNN := hide hn
      have HBY := hide (HB.out.trans (bY.mono HB.out.size))
      have hxbY : xb < Y.heap.size := (Array.getElem?_eq_some_iff.1 uY).1
      have HUY := hide uY
      have HET := hide etk
      have hg2 : g < Y.heap.size := (own_block_lt hBPY.row (b := g) rfl).1
      have HFG : Hid (∀ w6, Only (fun i => (Value.slice yp n yc).ownBlock = some i) Y w6 → (∃ v, w6.cell? ⟨g, j, none⟩ = some v) ∧ w6.frozen? ⟨g, j, none⟩ = false ∧ w6.cell? ⟨xb, 0, none⟩ = some (.int .i64 (j : Int))) := hide (fun w6 ho => by
        have hr6 : w6.ownsRow W.heap.size 26 1 (.slice (some ⟨g, 0, none⟩) P P) P (ys.flatMap SV.cells) := ownsRow_only HBPY.out.row ho (fun b hb e => rows_apart HNY.out HBPY.out.row (by decide) hb e)
        obtain ⟨g', e', h9⟩ := own_cellR hr6 hj
        simp only [Option.some.injEq, Addr.mk.injEq, and_true] at e'
        rw [← e'] at h9
        refine ⟨⟨_, h9⟩, hr6.frozenAt _, ho.cell e0 (fun e => ?_)⟩
        obtain ⟨_, cur, h1⟩ := own_block_lt HNY.out (b := xb) e
        rw [HUY.out] at h1
        simp at h1)
      clear hc hx hxm hpx etk uY hBPY hy hyo hyo2 h9 e' hyr hn hab hlt2 bY
      go_upto_region 5 with fail
      rw [← hY]
      try rw [hxb]
      clear hY hxb d0 d1 d2
      go_region_law (refine step_append_at rfl (.tmp 23) (.tmp 26) 26 rfl W.heap.size 71 j0 (.agg #[.int .i64 0, .int .i64 0]) 2 16 Tryz.underlying26 hJ0 hy0 hy1 hy2 rfl (by decide) (.slice yp n yc) n _ (by simp [Act.eval]) HRW.out.drew ⟨Y.heap.size, 0, none⟩ 1 1 [.int .i64 ky, .int .i64 vl] (by simp [Act.eval]) rfl (World.news_of_block (heap_alloc_new Y _)) (by simp [Value.oneCell']) HK1.out HK2.out HGE.out ?_; intro p6 c6 w6 o6 g6 k6; have hoW : Only (fun i => (Value.slice yp n yc).ownBlock = some i) Y w6 := (Only.alloc (fun i => (Value.slice yp n yc).ownBlock = some i) Y _).drew.trans (Only.of_grown g6 (fun k e => e)); obtain ⟨⟨v6, c60⟩, f60, q60⟩ := HFG.out w6 hoW)
      all_goals
        have HPU := hide (BP.put (r := ⟨ky, vl⟩) HBPY.out hj HYJ.out HNN.out HAB.out.drew o6 g6 k6)
        have HBF : Hid (Below W.heap.size W (w6.setCell ⟨g, j, none⟩ (.slice p6 (n + 1) c6))) := hide ((HBY.out.trans (hoW.below HBY.out.size (fun i e => own_block_base HNY.out e))).setCell (p := ⟨g, j, none⟩) HGB.out _)
        have HYF : Hid (∀ i, i < P → ((ys.set j ⟨yrs ++ [⟨ky, vl⟩], p6, c6⟩)[i]!).rs = onlyP i (puts.take (k + 1))) := hide (fun i hi => by
          rw [get_setSV (by rw [HBPY.out.len]; exact hi), HET.out, onlyP_snoc]
          have h8 := HYS.out i hi
          by_cases e : j = i
          · rw [if_pos e, if_pos (by simp [e]), ← h8, ← e, HYJ.out]
            rfl
          · rw [if_neg e, if_neg (by simp only; omega), List.append_nil]
            exact h8)
        clear o6 g6 k6 hoW c60 f60 q60 HRW HAB HGE HK1 HK2 HFG HBPY HNY e0 e1 e2 e3
        go_wp2
        first
          | exact ⟨⟨k + 1, _, by omega, by first | rfl | go_num, HPU, HYF, HBF⟩, by simp [intOf]; omega⟩
          | exact ⟨⟨k + 1, _, by omega, by first | rfl | go_num, hide (HPU.out.later (Below.refl _ _).drew), HYF, hide HBF.out.drew⟩, by simp [intOf]; omega⟩
    · obtain rfl : k = N := by omega
      have HYF : Hid (∀ i, i < P → (ys[i]!).rs = onlyP i puts) := hide (fun i hi => by have := HYS.out i hi; rw [← HN.out, List.take_length] at this; exact this)
      go_wp2
      go_ret
      exact ⟨g, ys, rfl, HBP.out, HYF.out, HB.out⟩
end Go.Proofs.YtifldnpccgbnkaaGreat
