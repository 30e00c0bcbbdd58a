/-
  All of the program, of an operator that keeps nothing. The conditions: lengths.
-/
import Derived.Test.YtcabfohmimglpaaOal
import Derived.Test.YtcabfohmimglpaaOpp
import Derived.Test.YtcabfohmimglpaaOar
import Derived.Laws.ResultCell
import Derived.Deep.RegionHeld3
import Derived.Deep.CutRange
namespace Go.Proofs.Ytcabfohmimglpaa
open Go.RowKit

theorem results_cell_two {P : Program} {fn : Func} {p u : Tmp} {ty : TypeId} (h : fn.results = #[.cell p ty, .tmp u]) (tmps : Array Value) (w : World) (g : Nat) (t : TypeId) (cs : Array Value) (fr : Nat × Nat) (d : TypeDesc)
    (hp : tmps.getD p undef = .pointer (some ⟨g, 0, none⟩)) (hg : w.heap[g]? = some (.cells cs t fr))
    (hu : P.underlying ty = some d) (hd : (match d with | .struct _ | .array _ _ => true | _ => false) = true) (hi : (P.info? ty).map (·.size) = some cs.size) :
    (results fn tmps).run P w = .ok (.tuple #[.agg cs, tmps.getD u undef]) w := by
  rw [results_cell_tmp h, hp]
  simp [asAddr, run_loadVar_row w g t ty cs fr d hg hu hd hi]

theorem below_undrew {n : Nat} {A B : World} (h : Below n A.drew B) : Below n A B := ⟨h.os, h.tape, h.output, h.size, h.block⟩
theorem two_facts {w : World} {b : Nat} {t : TypeId} {c0 c1 : Value} (h : w.heap[b]? = some (.cells #[c0, c1] t (0, 0))) (d0 : Value) :
    w.cell? ⟨b, 0, none⟩ = some c0 ∧ w.frozen? ⟨b, 0, none⟩ = false ∧ (w.setCell ⟨b, 0, none⟩ d0).cell? ⟨b, 1, none⟩ = some c1 ∧ (w.setCell ⟨b, 0, none⟩ d0).frozen? ⟨b, 1, none⟩ = false := by
  have h1 := heap_setCell_same w b 0 _ _ d0 h
  refine ⟨by simp [World.cell?, h], by simp [World.frozen?, h], ?_, ?_⟩
  · simp only [World.cell?]; rw [h1]; rfl
  · simp only [World.frozen?]; rw [h1]; rfl
theorem two_set {W : World} {b : Nat} {t : TypeId} {c0 c1 : Value} (h : W.heap[b]? = some (.cells #[c0, c1] t (0, 0))) (d0 d1 : Value) :
    ((W.setCell ⟨b, 0, none⟩ d0).setCell ⟨b, 1, none⟩ d1).heap[b]? = some (.cells #[d0, d1] t (0, 0)) :=
  heap_setCell_same _ b 1 _ _ d1 (heap_setCell_same W b 0 _ _ d0 h)
set_option maxRecDepth 100000 in
theorem ksClone_nil {W : World} : Calls Try.prog 22 #[.slice none 0 0] W fun e w' => e = .returned (.slice none 0 0) ∧ w' = W := by
  have q : ∀ (w : World) (a : Option Addr) (n c : Nat), (binOp .eql 27 (.slice a n c) (.slice none 0 0)).run Try.prog w = .ok (.bool a.isNone) w := fun w a n c => Lib.run_eql_slice_nil w _ _ a n c 0 0 Try.underlying27
  go_enter Try.func22, Try.ntmps22
  go_wp2
  go_ret
  exact ⟨rfl, rfl⟩
set_option maxRecDepth 100000 in
set_option maxHeartbeats 2000000 in
theorem oclone_nil {W : World} {tn : Int} : Calls Try.prog 10 #[.agg #[.slice none 0 0, .int .i64 tn]] W fun e w' => e = .returned (.agg #[.slice none 0 0, .int .i64 tn]) ∧ Below W.heap.size W w' := by
  have a1 := alloc_below W (.cells #[.slice none 0 0, .int .i64 tn] 29 (0, 0))
  have a2 := alloc_below (W.alloc (.cells #[.slice none 0 0, .int .i64 tn] 29 (0, 0))) (.cells #[.slice none 0 0, .int .i64 tn] 29 (0, 0))
  have HB := hide (a1.trans (a2.mono a1.size))
  have HE : Hid (((W.alloc (.cells #[.slice none 0 0, .int .i64 tn] 29 (0, 0))).alloc (.cells #[.slice none 0 0, .int .i64 tn] 29 (0, 0))).drew.heap[W.heap.size + 1]? = some (.cells #[.slice none 0 0, .int .i64 tn] 29 (0, 0))) := by
    have h := heap_alloc_new (W.alloc (.cells #[.slice none 0 0, .int .i64 tn] 29 (0, 0))) (.cells #[.slice none 0 0, .int .i64 tn] 29 (0, 0))
    rw [World.size_alloc] at h
    exact hide h
  clear a1 a2
  go_enter Try.func10, Try.ntmps10
  go_wp2_with fail
  go_region_with (go_at_call 22; refine ksClone_nil.mono ?_; rintro _ _ ⟨rfl, rfl⟩)
  all_goals
    go_wp2
    refine bodyPost_ret (results_cell_row rfl _ _ (W.heap.size + 1) 29 _ _ _ rfl HE.out Try.underlying29 rfl (by kernel_rfl)) rfl ?_
    exact ⟨rfl, HB.out.drew⟩
def passAll (kd fn ar : Int) (rs : List RC) : List PU := rs.flatMap (fun r => passC kd fn ar r.key r.val)
theorem passAll_snoc (kd fn ar : Int) (rs : List RC) (r : RC) : passAll kd fn ar (rs ++ [r]) = passAll kd fn ar rs ++ passC kd fn ar r.key r.val := by
  unfold passAll
  rw [List.flatMap_append]
  simp
theorem passC_one (kd fn ar ky vl : Int) : (passC kd fn ar ky vl).length ≤ 1 := by
  unfold passC
  split
  · split <;> simp
  · split <;> simp
theorem passAll_len (kd fn ar : Int) : ∀ rs : List RC, (passAll kd fn ar rs).length ≤ rs.length
  | [] => Nat.le_refl _
  | r :: rs => by
    have ih := passAll_len kd fn ar rs
    have h1 := passC_one kd fn ar r.key r.val
    show (passC kd fn ar r.key r.val ++ passAll kd fn ar rs).length ≤ _
    rw [List.length_append, List.length_cons]
    omega
set_option maxRecDepth 100000 in
set_option maxHeartbeats 4000000 in
theorem all_pass {W : World} {p : Option Addr} {c N : Nat} {rs : List RC} {kd pt fn ar tn : Int} {ip : Option Addr} {n ic : Nat} (hkp : keepsC kd = false) (ha : I6 ar) (h : RRow W p c rs) (hN : rs.length = N) (hb : N ≤ 1048576) (hri : ∀ r ∈ rs, r.fine) : Calls Try.prog 5 #[.agg #[.int .i64 kd, .int .i64 pt, .int .i64 fn, .int .i64 ar, .slice ip n ic], .agg #[.slice none 0 0, .int .i64 tn], .slice p N c] W fun e w' => ∃ po co M, e = .returned (.tuple #[.agg #[.slice none 0 0, .int .i64 tn], .slice po M co]) ∧ (passAll kd fn ar rs).length = M ∧ w'.ownsRow W.heap.size 41 3 (.slice po M co) M ((passAll kd fn ar rs).flatMap PU.cells) ∧ Below W.heap.size W w' := by
  have i1 := h.le
  have i2 := h.top
  rw [hN] at i1
  obtain ⟨V, hV⟩ : ∃ V, V = ((W.alloc (.cells #[.int .i64 kd, .int .i64 pt, .int .i64 fn, .int .i64 ar, .slice ip n ic] 24 (0, 0))).alloc (.cells #[.slice none 0 0, .int .i64 tn] 29 (0, 0))).alloc (.cells #[.slice none 0 0, .int .i64 0] 29 (0, 0)) := ⟨_, rfl⟩
  have a1 := alloc_below W (.cells #[.int .i64 kd, .int .i64 pt, .int .i64 fn, .int .i64 ar, .slice ip n ic] 24 (0, 0))
  have a2 := alloc_below (W.alloc (.cells #[.int .i64 kd, .int .i64 pt, .int .i64 fn, .int .i64 ar, .slice ip n ic] 24 (0, 0))) (.cells #[.slice none 0 0, .int .i64 tn] 29 (0, 0))
  have a3 := alloc_below ((W.alloc (.cells #[.int .i64 kd, .int .i64 pt, .int .i64 fn, .int .i64 ar, .slice ip n ic] 24 (0, 0))).alloc (.cells #[.slice none 0 0, .int .i64 tn] 29 (0, 0))) (.cells #[.slice none 0 0, .int .i64 0] 29 (0, 0))
  have hbV : Below W.heap.size W V := by rw [hV]; exact a1.trans ((a2.mono a1.size).trans (a3.mono (Nat.le_trans a1.size a2.size)))
  obtain ⟨sB, hsB⟩ : ∃ sB, W.heap.size = sB := ⟨_, rfl⟩
  have x0 : V.heap[sB]? = some (.cells #[.int .i64 kd, .int .i64 pt, .int .i64 fn, .int .i64 ar, .slice ip n ic] 24 (0, 0)) := by rw [hV, ← hsB]; exact below_box a3 (below_box a2 (heap_alloc_new W _))
  have x1 : V.heap[sB + 1]? = some (.cells #[.slice none 0 0, .int .i64 tn] 29 (0, 0)) := by
    have e : sB + 1 = (W.alloc (.cells #[.int .i64 kd, .int .i64 pt, .int .i64 fn, .int .i64 ar, .slice ip n ic] 24 (0, 0))).heap.size := by rw [← hsB]; simp
    rw [hV, e]
    exact below_box a3 (heap_alloc_new _ _)
  have x2 : V.heap[sB + 2]? = some (.cells #[.slice none 0 0, .int .i64 0] 29 (0, 0)) := by
    have e : sB + 2 = ((W.alloc (.cells #[.int .i64 kd, .int .i64 pt, .int .i64 fn, .int .i64 ar, .slice ip n ic] 24 (0, 0))).alloc (.cells #[.slice none 0 0, .int .i64 tn] 29 (0, 0))).heap.size := by rw [← hsB]; simp
    rw [hV, e]
    exact heap_alloc_new _ _
  have hVs : sB + 3 ≤ V.heap.size := by rw [hV, ← hsB]; simp
  have HX0 := hide x0
  have HX1 := hide x1
  have HX2 := hide x2
  have HBV := hide hbV
  have HR := hide (RRow.below h hbV)
  have HN := hide hN
  have HSB := hide hsB
  have HRI := hide hri
  have c0 : V.cell? ⟨sB, 0, none⟩ = some (.int .i64 kd) := by simp [World.cell?, x0]
  have c1 : V.cell? ⟨sB, 1, none⟩ = some (.int .i64 pt) := by simp [World.cell?, x0]
  have c2 : V.cell? ⟨sB, 2, none⟩ = some (.int .i64 fn) := by simp [World.cell?, x0]
  have c3 : V.cell? ⟨sB, 3, none⟩ = some (.int .i64 ar) := by simp [World.cell?, x0]
  have c4 : V.cell? ⟨sB, 4, none⟩ = some (.slice ip n ic) := by simp [World.cell?, x0]
  clear h hN x0 x1 x2 hbV a1 a2 a3 hri
  go_enter Try.func5, Try.ntmps5
  go_upto_region 1 with fail
  rw [← hV]
  try rw [hsB]
  clear hV hsB
  go_wp2_with fail
  refine keeps_any.mono ?_
  rintro _ w1 ⟨rfl, hB1⟩
  rw [hkp]
  have HB1 := hide hB1
  clear hB1 hkp c0 c1 c2 c3 c4
  go_wp2_with fail
  go_loopw [8, 22] (fun s i wq => ∃ (k : Nat) (po : Option Addr) (co M : Nat), k ≤ N ∧ i = .int .i64 (k : Int) ∧ s = .slice po M co ∧ Hid ((passAll kd fn ar (rs.take k)).length = M) ∧ Hid (wq.ownsRow V.heap.size 41 3 (.slice po M co) M ((passAll kd fn ar (rs.take k)).flatMap PU.cells)) ∧ Hid (Below V.heap.size V wq)) (fun _ i _ => N - (intOf i).toNat)
  case atStart => exact ⟨0, none, 0, 0, Nat.zero_le _, rfl, rfl, hide (by rw [List.take_zero]; rfl), hide (by rw [List.take_zero]; exact World.ownsRow_nil _ _ _ _), HB1⟩
  case round =>
    obtain ⟨k, po, co, M, hk, rfl, rfl, HM, HO, HBq⟩ := hrel
    rename World => wq
    by_cases hlt : k < N
    · have hlt2 : k < rs.length := by rw [HN.out]; exact hlt
      obtain ⟨r, hr⟩ : ∃ r, rs[k]! = r := ⟨_, rfl⟩
      obtain ⟨g, o, rfl, hc⟩ := (HR.out.below HBq.out).cell k hlt2
      have hrm : r ∈ rs := by rw [← hr, getElem!_pos rs k hlt2]; exact List.getElem_mem _
      have hfi := HRI.out r hrm
      have etk : rs.take (k + 1) = rs.take k ++ [r] := by rw [List.take_succ_eq_append_getElem hlt2, ← hr, getElem!_pos rs k hlt2]
      obtain ⟨ky, vl⟩ := r
      rw [hr] at hc
      have c0 : wq.cell? ⟨g, o + k * 2, none⟩ = some (.int .i64 ky) := hc 0 (by omega)
      have c1 : wq.cell? ⟨g, o + k * 2 + 1, none⟩ = some (.int .i64 vl) := hc 1 (by omega)
      clear hc
      obtain ⟨wr, hwr⟩ : ∃ wr, wr = wq.alloc (.cells #[.int .i64 ky, .int .i64 vl] 39 (0, 0)) := ⟨_, rfl⟩
      have b1 : Below wq.heap.size wq wr := by rw [hwr]; exact alloc_below _ _
      have y0 := below_box b1 (below_box HBq.out HX0.out)
      have d0 : wr.cell? ⟨sB, 0, none⟩ = some (.int .i64 kd) := by simp [World.cell?, y0]
      have d1 : wr.cell? ⟨sB, 1, none⟩ = some (.int .i64 pt) := by simp [World.cell?, y0]
      have d2 : wr.cell? ⟨sB, 2, none⟩ = some (.int .i64 fn) := by simp [World.cell?, y0]
      have d3 : wr.cell? ⟨sB, 3, none⟩ = some (.int .i64 ar) := by simp [World.cell?, y0]
      have d4 : wr.cell? ⟨sB, 4, none⟩ = some (.slice ip n ic) := by simp [World.cell?, y0]
      rw [hwr] at d0 d1 d2 d3 d4
      have HB2 : Hid (Below V.heap.size V wr) := hide (HBq.out.trans (b1.mono HBq.out.size))
      have hMk : M ≤ 1048576 := by
        have h9 := passAll_len kd fn ar (rs.take k)
        rw [HM.out, List.length_take] at h9
        omega
      have HP := hide (pass_any (kd := kd) (pt := pt) (fn := fn) (ip := ip) (n := n) (ic := ic) (xs := passAll kd fn ar (rs.take k)) hfi.1 hfi.2 ha (ownsRow_later HO.out b1) HB2.out.size (by omega))
      obtain ⟨pl, hpl⟩ : ∃ pl, (passC kd fn ar ky vl).length = pl := ⟨_, rfl⟩
      rw [hpl] at HP
      have HPL := hide hpl
      have HET := hide etk
      clear b1 y0 hr hlt2 hrm hfi hpl etk
      go_wp2_with fail
      rw [← hwr]
      clear hwr d0 d1 d2 d3 d4 c0 c1
      refine HP.out.mono ?_
      rintro _ w3 ⟨p3, c3, rfl, hO3, hn3⟩
      have HB3 : Hid (Below V.heap.size V w3) := hide (HB2.out.trans (hn3.below HB2.out.size (fun i e => own_block_base HO.out e)))
      have HO3 : Hid (w3.ownsRow V.heap.size 41 3 (.slice p3 (M + pl) c3) (M + pl) ((passAll kd fn ar (rs.take (k + 1))).flatMap PU.cells)) := hide (by rw [HET.out, passAll_snoc]; exact hO3)
      have HM3 : Hid ((passAll kd fn ar (rs.take (k + 1))).length = M + pl) := hide (by rw [HET.out, passAll_snoc, List.length_append, HM.out, HPL.out])
      clear hO3 hn3 HP HO HM
      go_wp2
      exact ⟨⟨k + 1, p3, c3, M + pl, by omega, by first | rfl | go_num, by first | rfl | go_num, HM3, HO3, HB3⟩, by simp [intOf]; omega⟩
    · obtain rfl : k = N := by omega
      have y1 := below_box HBq.out HX1.out
      have d0 : wq.cell? ⟨sB + 1, 0, none⟩ = some (.slice none 0 0) := by simp [World.cell?, y1]
      have d1 : wq.cell? ⟨sB + 1, 1, none⟩ = some (.int .i64 tn) := by simp [World.cell?, y1]
      have HRS : Hid (rs.take k = rs) := hide (by rw [← HN.out, List.take_length])
      clear y1
      go_wp2_with fail
      refine oclone_nil.mono ?_
      rintro _ w4 ⟨rfl, hB4⟩
      have y2 := below_box hB4 (below_box HBq.out HX2.out)
      obtain ⟨f0, f1, f2, f3⟩ := two_facts y2 (.slice none 0 0)
      have HE := hide (two_set y2 (.slice none 0 0) (.int .i64 tn))
      have hBW : Below W.heap.size W w4 := HBV.out.trans ((HBq.out.trans (hB4.mono HBq.out.size)).mono HBV.out.size)
      have HBF : Hid (Below W.heap.size W ((w4.setCell ⟨sB + 2, 0, none⟩ (.slice none 0 0)).setCell ⟨sB + 2, 1, none⟩ (.int .i64 tn))) := hide ((hBW.setCell (p := ⟨sB + 2, 0, none⟩) (by have := HSB.out; show W.heap.size ≤ sB + 2; omega) _).setCell (p := ⟨sB + 2, 1, none⟩) (by have := HSB.out; show W.heap.size ≤ sB + 2; omega) _)
      have HOF : Hid (((w4.setCell ⟨sB + 2, 0, none⟩ (.slice none 0 0)).setCell ⟨sB + 2, 1, none⟩ (.int .i64 tn)).ownsRow W.heap.size 41 3 (.slice po M co) M ((passAll kd fn ar rs).flatMap PU.cells)) := by
        have h9 := ownsRow_later HO.out hB4
        rw [HRS.out] at h9
        refine hide (ownsRow_only (ownsRow_base h9 HBV.out.size) ((Only.set (F := (· = sB + 2)) w4 (sB + 2) 0 _ rfl).trans (Only.set (F := (· = sB + 2)) _ (sB + 2) 1 _ rfl)) (fun b hb e => ?_))
        have e' : b = sB + 2 := e
        have := own_block_base h9 hb
        omega
      have HMF : Hid ((passAll kd fn ar rs).length = M) := hide (by rw [← HM.out, HRS.out])
      clear y2 hB4 hBW HO HM
      go_wp2
      refine bodyPost_ret (results_cell_two rfl _ _ (sB + 1 + 1) 29 _ _ _ rfl HE.out Try.underlying29 rfl (by kernel_rfl)) rfl ?_
      exact ⟨po, co, M, rfl, HMF.out, HOF.out, HBF.out⟩
end Go.Proofs.Ytcabfohmimglpaa
