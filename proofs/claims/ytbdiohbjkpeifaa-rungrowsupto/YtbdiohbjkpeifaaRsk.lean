/-
  The program's resultOf of a sink. The conditions: lengths.
-/
import Derived.Test.YtbdiohbjkpeifaaRso
import Derived.Laws.ResultCell
import Derived.Deep.RegionHeld3
import Derived.Deep.CutRange
namespace Go.Proofs.Ytbdiohbjkpeifaa
open Go.RowKit Go.Shelf

theorem results_cell_two {P : Program} {fn : Func} {p u : Tmp} {ty : TypeId} (h : fn.results = #[.cell p ty, .tmp u]) (tmps : Array Value) (w : World) (g : Nat) (t : TypeId) (cs : Array Value) (fr : Nat × Nat) (d : TypeDesc)
    (hp : tmps.getD p undef = .pointer (some ⟨g, 0, none⟩)) (hg : w.heap[g]? = some (.cells cs t fr))
    (hu : P.underlying ty = some d) (hd : (match d with | .struct _ | .array _ _ => true | _ => false) = true) (hi : (P.info? ty).map (·.size) = some cs.size) :
    (results fn tmps).run P w = .ok (.tuple #[.agg cs, tmps.getD u undef]) w := by
  rw [results_cell_tmp h, hp]
  simp [asAddr, run_loadVar_row w g t ty cs fr d hg hu hd hi]

theorem below_undrew {n : Nat} {A B : World} (h : Below n A.drew B) : Below n A B := ⟨h.os, h.tape, h.output, h.size, h.block⟩
theorem two_facts {w : World} {b : Nat} {t : TypeId} {c0 c1 : Value} (h : w.heap[b]? = some (.cells #[c0, c1] t (0, 0))) (d0 : Value) :
    w.cell? ⟨b, 0, none⟩ = some c0 ∧ w.frozen? ⟨b, 0, none⟩ = false ∧ (w.setCell ⟨b, 0, none⟩ d0).cell? ⟨b, 1, none⟩ = some c1 ∧ (w.setCell ⟨b, 0, none⟩ d0).frozen? ⟨b, 1, none⟩ = false := by
  have h1 := heap_setCell_same w b 0 _ _ d0 h
  refine ⟨by simp [World.cell?, h], by simp [World.frozen?, h], ?_, ?_⟩
  · simp only [World.cell?]; rw [h1]; rfl
  · simp only [World.frozen?]; rw [h1]; rfl
theorem two_set {W : World} {b : Nat} {t : TypeId} {c0 c1 : Value} (h : W.heap[b]? = some (.cells #[c0, c1] t (0, 0))) (d0 d1 : Value) :
    ((W.setCell ⟨b, 0, none⟩ d0).setCell ⟨b, 1, none⟩ d1).heap[b]? = some (.cells #[d0, d1] t (0, 0)) :=
  heap_setCell_same _ b 1 _ _ d1 (heap_setCell_same W b 0 _ _ d0 h)
set_option maxRecDepth 100000 in
theorem keeps_sink {W : World} {pt fn ar : Int} {ip : Option Addr} {n ic : Nat} : Calls Try.prog 37 #[.agg #[.int .i64 9, .int .i64 pt, .int .i64 fn, .int .i64 ar, .slice ip n ic]] W fun e w' => e = .returned (.bool false) ∧ Below W.heap.size W w' := by
  have HB := hide (alloc_below W (.cells #[.int .i64 9, .int .i64 pt, .int .i64 fn, .int .i64 ar, .slice ip n ic] 40 (0, 0)))
  go_enter Try.func37, Try.ntmps37
  go_wp2
  go_ret
  exact ⟨rfl, HB.out⟩
set_option maxRecDepth 100000 in
set_option maxHeartbeats 2000000 in
theorem pass_sink {W : World} {pt fn ar ky vl : Int} {ip : Option Addr} {n ic : Nat} : Calls Try.prog 38 #[.slice none 0 0, .agg #[.int .i64 9, .int .i64 pt, .int .i64 fn, .int .i64 ar, .slice ip n ic], .agg #[.int .i64 ky, .int .i64 vl]] W fun e w' => e = .returned (.slice none 0 0) ∧ Below W.heap.size W w' := by
  have a1 := alloc_below W (.cells #[.int .i64 9, .int .i64 pt, .int .i64 fn, .int .i64 ar, .slice ip n ic] 40 (0, 0))
  have HB := hide (a1.trans ((alloc_below (W.alloc (.cells #[.int .i64 9, .int .i64 pt, .int .i64 fn, .int .i64 ar, .slice ip n ic] 40 (0, 0))) (.cells #[.int .i64 ky, .int .i64 vl] 33 (0, 0))).mono a1.size))
  clear a1
  go_enter Try.func38, Try.ntmps38
  go_wp2
  go_ret
  exact ⟨rfl, HB.out⟩
set_option maxRecDepth 100000 in
theorem ksClone_nil {W : World} : Calls Try.prog 55 #[.slice none 0 0] W fun e w' => e = .returned (.slice none 0 0) ∧ w' = W := by
  have q : ∀ (w : World) (a : Option Addr) (n c : Nat), (binOp .eql 47 (.slice a n c) (.slice none 0 0)).run Try.prog w = .ok (.bool a.isNone) w := fun w a n c => Lib.run_eql_slice_nil w _ _ a n c 0 0 Try.underlying47
  go_enter Try.func55, Try.ntmps55
  go_wp2
  go_ret
  exact ⟨rfl, rfl⟩
set_option maxRecDepth 100000 in
set_option maxHeartbeats 2000000 in
theorem oclone_nil {W : World} {tn : Int} : Calls Try.prog 39 #[.agg #[.slice none 0 0, .int .i64 tn]] W fun e w' => e = .returned (.agg #[.slice none 0 0, .int .i64 tn]) ∧ Below W.heap.size W w' := by
  have a1 := alloc_below W (.cells #[.slice none 0 0, .int .i64 tn] 49 (0, 0))
  have a2 := alloc_below (W.alloc (.cells #[.slice none 0 0, .int .i64 tn] 49 (0, 0))) (.cells #[.slice none 0 0, .int .i64 tn] 49 (0, 0))
  have HB := hide (a1.trans (a2.mono a1.size))
  have HE : Hid (((W.alloc (.cells #[.slice none 0 0, .int .i64 tn] 49 (0, 0))).alloc (.cells #[.slice none 0 0, .int .i64 tn] 49 (0, 0))).drew.heap[W.heap.size + 1]? = some (.cells #[.slice none 0 0, .int .i64 tn] 49 (0, 0))) := by
    have h := heap_alloc_new (W.alloc (.cells #[.slice none 0 0, .int .i64 tn] 49 (0, 0))) (.cells #[.slice none 0 0, .int .i64 tn] 49 (0, 0))
    rw [World.size_alloc] at h
    exact hide h
  clear a1 a2
  go_enter Try.func39, Try.ntmps39
  go_wp2_with fail
  go_region_with (go_at_call 55; refine ksClone_nil.mono ?_; rintro _ _ ⟨rfl, rfl⟩)
  all_goals
    go_wp2
    refine bodyPost_ret (results_cell_row rfl _ _ (W.heap.size + 1) 49 _ _ _ rfl HE.out Try.underlying49 rfl (by kernel_rfl)) rfl ?_
    exact ⟨rfl, HB.out.drew⟩
set_option maxRecDepth 100000 in
set_option maxHeartbeats 4000000 in
theorem all_sink {W : World} {p : Option Addr} {c N : Nat} {rs : List RC} {pt fn ar tn : Int} {ip : Option Addr} {n ic : Nat} (h : RRow W p c rs) (hN : rs.length = N) : Calls Try.prog 27 #[.agg #[.int .i64 9, .int .i64 pt, .int .i64 fn, .int .i64 ar, .slice ip n ic], .agg #[.slice none 0 0, .int .i64 tn], .slice p N c] W fun e w' => e = .returned (.tuple #[.agg #[.slice none 0 0, .int .i64 tn], .slice none 0 0]) ∧ Below W.heap.size W w' := by
  have i1 := h.le
  have i2 := h.top
  rw [hN] at i1
  obtain ⟨V, hV⟩ : ∃ V, V = ((W.alloc (.cells #[.int .i64 9, .int .i64 pt, .int .i64 fn, .int .i64 ar, .slice ip n ic] 40 (0, 0))).alloc (.cells #[.slice none 0 0, .int .i64 tn] 49 (0, 0))).alloc (.cells #[.slice none 0 0, .int .i64 0] 49 (0, 0)) := ⟨_, rfl⟩
  have a1 := alloc_below W (.cells #[.int .i64 9, .int .i64 pt, .int .i64 fn, .int .i64 ar, .slice ip n ic] 40 (0, 0))
  have a2 := alloc_below (W.alloc (.cells #[.int .i64 9, .int .i64 pt, .int .i64 fn, .int .i64 ar, .slice ip n ic] 40 (0, 0))) (.cells #[.slice none 0 0, .int .i64 tn] 49 (0, 0))
  have a3 := alloc_below ((W.alloc (.cells #[.int .i64 9, .int .i64 pt, .int .i64 fn, .int .i64 ar, .slice ip n ic] 40 (0, 0))).alloc (.cells #[.slice none 0 0, .int .i64 tn] 49 (0, 0))) (.cells #[.slice none 0 0, .int .i64 0] 49 (0, 0))
  have hbV : Below W.heap.size W V := by rw [hV]; exact a1.trans ((a2.mono a1.size).trans (a3.mono (Nat.le_trans a1.size a2.size)))
  obtain ⟨sB, hsB⟩ : ∃ sB, W.heap.size = sB := ⟨_, rfl⟩
  have x0 : V.heap[sB]? = some (.cells #[.int .i64 9, .int .i64 pt, .int .i64 fn, .int .i64 ar, .slice ip n ic] 40 (0, 0)) := by rw [hV, ← hsB]; exact below_box a3 (below_box a2 (heap_alloc_new W _))
  have x1 : V.heap[sB + 1]? = some (.cells #[.slice none 0 0, .int .i64 tn] 49 (0, 0)) := by
    have e : sB + 1 = (W.alloc (.cells #[.int .i64 9, .int .i64 pt, .int .i64 fn, .int .i64 ar, .slice ip n ic] 40 (0, 0))).heap.size := by rw [← hsB]; simp
    rw [hV, e]
    exact below_box a3 (heap_alloc_new _ _)
  have x2 : V.heap[sB + 2]? = some (.cells #[.slice none 0 0, .int .i64 0] 49 (0, 0)) := by
    have e : sB + 2 = ((W.alloc (.cells #[.int .i64 9, .int .i64 pt, .int .i64 fn, .int .i64 ar, .slice ip n ic] 40 (0, 0))).alloc (.cells #[.slice none 0 0, .int .i64 tn] 49 (0, 0))).heap.size := by rw [← hsB]; simp
    rw [hV, e]
    exact heap_alloc_new _ _
  have hVs : sB + 3 ≤ V.heap.size := by rw [hV, ← hsB]; simp
  have HX0 := hide x0
  have HX1 := hide x1
  have HX2 := hide x2
  have HBV := hide hbV
  have HR := hide (RRow.later h hbV)
  have HN := hide hN
  have HSB := hide hsB
  clear h hN x0 x1 x2 hbV a1 a2 a3
  go_enter Try.func27, Try.ntmps27
  go_wp2_with fail
  rw [← hV]
  clear hV
  refine keeps_sink.mono ?_
  rintro _ w1 ⟨rfl, hB1⟩
  have HB1 := hide hB1
  clear hB1
  go_wp2_with fail
  go_loopw [8, 22] (fun s i wq => ∃ k : Nat, k ≤ N ∧ i = .int .i64 (k : Int) ∧ s = .slice none 0 0 ∧ Hid (Below V.heap.size V wq)) (fun _ i _ => N - (intOf i).toNat)
  case atStart => exact ⟨0, Nat.zero_le _, rfl, rfl, HB1⟩
  case round =>
    obtain ⟨k, hk, rfl, rfl, HBq⟩ := hrel
    rename World => wq
    by_cases hlt : k < N
    · have hlt2 : k < rs.length := by rw [HN.out]; exact hlt
      obtain ⟨r, hr⟩ : ∃ r, rs[k]! = r := ⟨_, rfl⟩
      obtain ⟨g, o, rfl, c0, c1⟩ := (RRow.later HR.out HBq.out).at hlt2 hr
      obtain ⟨ky, vl⟩ := r
      simp only at c0 c1
      obtain ⟨wr, hwr⟩ : ∃ wr, wr = wq.alloc (.cells #[.int .i64 ky, .int .i64 vl] 33 (0, 0)) := ⟨_, rfl⟩
      have b1 : Below wq.heap.size wq wr := by rw [hwr]; exact alloc_below _ _
      have y0 := below_box b1 (below_box HBq.out HX0.out)
      have d0 : wr.cell? ⟨sB, 0, none⟩ = some (.int .i64 9) := by simp [World.cell?, y0]
      have d1 : wr.cell? ⟨sB, 1, none⟩ = some (.int .i64 pt) := by simp [World.cell?, y0]
      have d2 : wr.cell? ⟨sB, 2, none⟩ = some (.int .i64 fn) := by simp [World.cell?, y0]
      have d3 : wr.cell? ⟨sB, 3, none⟩ = some (.int .i64 ar) := by simp [World.cell?, y0]
      have d4 : wr.cell? ⟨sB, 4, none⟩ = some (.slice ip n ic) := by simp [World.cell?, y0]
      rw [hwr] at d0 d1 d2 d3 d4
      have HB2 : Hid (Below V.heap.size V wr) := hide (HBq.out.trans (b1.mono HBq.out.size))
      clear b1 y0 hr hlt2
      go_wp2_with fail
      rw [← hwr]
      clear hwr d0 d1 d2 d3 d4 c0 c1
      refine pass_sink.mono ?_
      rintro _ w3 ⟨rfl, hB3⟩
      have HB3 : Hid (Below V.heap.size V w3) := hide (HB2.out.trans (hB3.mono HB2.out.size))
      clear hB3
      go_wp2
      exact ⟨⟨k + 1, by omega, by first | rfl | go_num, rfl, HB3⟩, by simp [intOf]; omega⟩
    · obtain rfl : k = N := by omega
      have y1 := below_box HBq.out HX1.out
      have d0 : wq.cell? ⟨sB + 1, 0, none⟩ = some (.slice none 0 0) := by simp [World.cell?, y1]
      have d1 : wq.cell? ⟨sB + 1, 1, none⟩ = some (.int .i64 tn) := by simp [World.cell?, y1]
      clear y1
      go_wp2_with fail
      refine oclone_nil.mono ?_
      rintro _ w4 ⟨rfl, hB4⟩
      have y2 := below_box hB4 (below_box HBq.out HX2.out)
      obtain ⟨f0, f1, f2, f3⟩ := two_facts y2 (.slice none 0 0)
      have HE := hide (two_set y2 (.slice none 0 0) (.int .i64 tn))
      have hBW : Below W.heap.size W w4 := HBV.out.trans ((HBq.out.trans (hB4.mono HBq.out.size)).mono HBV.out.size)
      have HBF : Hid (Below W.heap.size W ((w4.setCell ⟨sB + 2, 0, none⟩ (.slice none 0 0)).setCell ⟨sB + 2, 1, none⟩ (.int .i64 tn))) := hide ((hBW.setCell (p := ⟨sB + 2, 0, none⟩) (by have := HSB.out; show W.heap.size ≤ sB + 2; omega) _).setCell (p := ⟨sB + 2, 1, none⟩) (by have := HSB.out; show W.heap.size ≤ sB + 2; omega) _)
      clear y2 hB4 hBW
      go_wp2
      refine bodyPost_ret (results_cell_two rfl _ _ (sB + 1 + 1) 49 _ _ _ rfl HE.out Try.underlying49 rfl (by kernel_rfl)) rfl ?_
      exact ⟨rfl, HBF.out⟩
set_option maxRecDepth 100000 in
set_option maxHeartbeats 4000000 in
theorem byPorts_nil {W : World} : Calls Try.prog 28 #[.slice none 0 0, .int .i64 0] W fun e w' => e = .returned (.slice (some ⟨W.heap.size, 0, none⟩) 0 0) ∧ w'.ownsRow W.heap.size 26 1 (.slice (some ⟨W.heap.size, 0, none⟩) 0 0) 0 [] ∧ Below W.heap.size W w' := by
  obtain ⟨i0, hI0, hz0, hz1, hz2⟩ := info_parts Try.infoRecs
  obtain ⟨w1, hrun, hown, hgr⟩ := run_make_full W W.heap.size 25 26 i0 (.slice none 0 0) 1 Try.underlying25 hI0 hz0 hz1 .i64 .i64 0 (by omega) (by unfold maxLen; omega) (Nat.le_refl _)
  rw [made_lists] at hown
  have hrun2 : (Instr.makeSlice 25 (.int .i64 0) (.int .i64 0)).run Try.prog W = .ok (.slice (some ⟨W.heap.size, 0, none⟩) 0 0) w1 := hrun
  have HO : Hid (w1.ownsRow W.heap.size 26 1 (.slice (some ⟨W.heap.size, 0, none⟩) 0 0) 0 []) := hide hown
  have HB : Hid (Below W.heap.size W w1) := hide ((Below.refl _ W).grown hgr (Nat.le_refl _) (fun k hk => by simp at hk))
  clear hrun hown hgr
  go_enter Try.func28, Try.ntmps28
  go_wp2_with fail
  go_loopw [12] (fun i wq => i = .int .i64 0 ∧ wq = w1) (fun _ _ => 0)
  case atStart => exact ⟨rfl, rfl⟩
  case round =>
    obtain ⟨rfl, rfl⟩ := hrel
    go_wp2
    go_ret
    exact ⟨rfl, HO.out, HB.out⟩
set_option maxRecDepth 100000 in
theorem ports_sink {W : World} {pt fn ar : Int} {ip : Option Addr} {n ic : Nat} :
    Calls Try.prog 29 #[.agg #[.int .i64 9, .int .i64 pt, .int .i64 fn, .int .i64 ar, .slice ip n ic]] W fun e w' => e = .returned (.int .i64 0) ∧ Below W.heap.size W w' := ports_any
end Go.Proofs.Ytbdiohbjkpeifaa
