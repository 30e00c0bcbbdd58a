/-
  ParseRecord and Parse: the program's and the reference's. The conditions: lengths.
-/
import Derived.Test.YtihbdlbnpkmafaaEvw
import Derived.Laws.ResultCell
namespace Go.Proofs.Ytihbdlbnpkmafaa
open Go.RowKit

theorem results_row_tmp {P : Program} {fn : Func} {p u : Tmp} {ty : TypeId} (h : fn.results = #[.cell p ty, .tmp u]) (tmps : Array Value) (w : World) (g : Nat) (t : TypeId) (cs : Array Value) (fr : Nat × Nat) (d : TypeDesc)
    (hp : tmps.getD p undef = .pointer (some ⟨g, 0, none⟩)) (hg : w.heap[g]? = some (.cells cs t fr))
    (hu : P.underlying ty = some d) (hd : (match d with | .struct _ | .array _ _ => true | _ => false) = true) (hi : (P.info? ty).map (·.size) = some cs.size) :
    (results fn tmps).run P w = .ok (.tuple #[.agg cs, tmps.getD u undef]) w := by
  rw [results_cell_tmp h, hp]
  simp [asAddr, run_loadVar_row w g t ty cs fr d hg hu hd hi]
theorem row_lt {k : IntKind} {w : World} {v : Value} {l : List Int} (h : Row k w v l) : ∀ b, 0 < l.length → v.ownBlock = some b → b < w.heap.size := by
  intro b hp hb
  obtain ⟨p, cap, rfl, _, _, _, h4⟩ := h
  obtain ⟨b', o, rfl, hc⟩ := h4 hp
  obtain ⟨ob, hob, _⟩ := cells_of_cell (hc 0 hp)
  simp [Value.ownBlock] at hb
  subst hb
  exact (Array.getElem?_eq_some_iff.1 hob).1
set_option maxHeartbeats 400000 in
theorem ropen_any {w : World} {v : Value} {l : List Int} (h : Row .u8 w v l) (hu : U8 l) :
    Calls Try.prog 25 #[v] w fun r w' => r = .returned (.pointer (some ⟨w.heap.size, 0, none⟩)) ∧ RUnp (fun k => w.heap.size ≤ k) w' w.heap.size v l 0 ∧ w' = w.alloc (.cells #[v, .int .i64 0] 52) := by
  have H := hide h
  have HT := hide (row_lt h)
  obtain ⟨p, cap, rfl, g1, g2, g3, g4⟩ := h
  clear g3 g4
  go_enter Try.func25, Try.ntmps25
  go_wp2
  go_ret
  refine ⟨rfl, ⟨heap_alloc_new w _, H.out.below (alloc_below _ _), fun hp => ⟨fun hk => ?_, fun k hk e => ?_⟩, hu, fun h => absurd rfl h⟩, rfl⟩
  · have := HT.out _ hp hk; omega
  · have := HT.out _ hp hk; omega
theorem prec_yes {b l2 : List Int} {e2 : Int} {r : RC} (h : recR b 0 = (r, l2, e2)) (hc : closes l2 e2 = 0) : precC b = (r, 0) := by
  unfold precC
  rw [h, if_pos hc]
theorem prec_no {b l2 : List Int} {e2 : Int} {r : RC} (h : recR b 0 = (r, l2, e2)) (hc : closes l2 e2 ≠ 0) : precC b = (⟨0, 0⟩, closes l2 e2) := by
  unfold precC
  rw [h, if_neg hc]

set_option maxRecDepth 100000 in
set_option maxHeartbeats 4000000 in
theorem prec_any {W : World} {v : Value} {b : List Int} (hb : Row .u8 W v b) (hu : U8 b) (hs : b.length ≤ 140737488355328) {r : RC} {c : Int} (hr : precC b = (r, c)) :
    Calls Try.prog 22 #[v] W fun e w' => e = .returned (.tuple #[.agg #[.int .i64 r.key, .int .i64 r.val], .int .i64 c]) ∧ Below W.heap.size W w' := by
  obtain ⟨⟨ky, vl⟩, l2, e2, h2⟩ : ∃ q l2 e2, recR b 0 = (q, l2, e2) := ⟨_, _, _, rfl⟩
  obtain ⟨cc, hcc⟩ : ∃ cc, closes l2 e2 = cc := ⟨_, rfl⟩
  have hb0 := alloc_below W (.cells #[.int .i64 0, .int .i64 0] 24 (0, 0))
  have hvr : (W.alloc (.cells #[.int .i64 0, .int .i64 0] 24 (0, 0))).heap[W.heap.size]? = some (.cells #[.int .i64 0, .int .i64 0] 24 (0, 0)) := heap_alloc_new W _
  obtain ⟨V, hV⟩ : ∃ V, V = W.alloc (.cells #[.int .i64 0, .int .i64 0] 24 (0, 0)) := ⟨_, rfl⟩
  rw [← hV] at hb0 hvr
  have HVB := hide hb0
  have HOP := hide (open_more (hb.below hb0) hu hs)
  obtain ⟨pb, cb, rfl, i1, i2, _, _⟩ := id hb
  obtain ⟨gB, hgB⟩ : ∃ gB, W.heap.size = gB := ⟨_, rfl⟩
  rw [hgB] at hvr
  have HGB := hide hgB
  have hgV : gB < V.heap.size := (Array.getElem?_eq_some_iff.1 hvr).1
  have HCC := hide hcc
  have HHR := hide hr
  have HH2 := hide h2
  clear hb hb0 hcc hr
  go_enter Try.func22, Try.ntmps22
  go_wp2_with fail
  rw [← hV]
  try rw [hgB]
  clear hV hgB
  refine HOP.out.mono ?_
  rintro _ w1 ⟨bu, v1, rfl, hbu, U1, B1, hbl, _⟩
  have o1 := below_boxE B1 hvr
  have HB1 := hide (HVB.out.trans (B1.mono HVB.out.size))
  have HTR := hide (trec_any U1 h2)
  have hw1 : W.heap.size ≤ bu := by have := HGB.out; omega
  have hne : bu ≠ gB := by omega
  clear U1 B1 hvr HOP h2
  go_wp2_with fail
  refine HTR.out.mono ?_
  rintro _ w2 ⟨rfl, N2, p2, c2, U2⟩
  have o2 := N2.obj o1 (fun e => hne e.symm)
  have HB2 : Hid (Below W.heap.size W w2) := hide (HB1.out.trans (N2.below HB1.out.size (fun i e => by have e' : i = bu := e; omega)))
  have hb3 := alloc_below w2 (.cells #[.int .i64 ky, .int .i64 vl] 24 (0, 0))
  have hbx : (w2.alloc (.cells #[.int .i64 ky, .int .i64 vl] 24 (0, 0))).heap[w2.heap.size]? = some (.cells #[.int .i64 ky, .int .i64 vl] 24 (0, 0)) := heap_alloc_new w2 _
  obtain ⟨w3, hw3⟩ : ∃ w3, w3 = w2.alloc (.cells #[.int .i64 ky, .int .i64 vl] 24 (0, 0)) := ⟨_, rfl⟩
  rw [← hw3] at hb3 hbx
  have U3 := U2.below hb3
  have o3 := below_boxE hb3 o2
  have HB3 := hide (HB2.out.trans (hb3.mono HB2.out.size))
  have HCL := hide (close_any U3)
  rw [HCC.out] at HCL
  obtain ⟨xB, hxB⟩ : ∃ xB, w2.heap.size = xB := ⟨_, rfl⟩
  rw [hxB] at hbx
  have z0 : w3.cell? ⟨xB, 0, none⟩ = some (.int .i64 ky) := by simp [World.cell?, hbx]
  have z1 : w3.cell? ⟨xB, 1, none⟩ = some (.int .i64 vl) := by simp [World.cell?, hbx]
  clear N2 U2 o1 o2 hb3 HTR hbx U3
  go_wp2_with fail
  rw [← hw3]
  try rw [hxB]
  clear hw3 hxB
  refine HCL.out.mono ?_
  rintro _ w4 ⟨rfl, rfl⟩
  clear HCL
  by_cases hc : cc = 0
  · subst hc
    have HQ := prec_yes HH2.out HCC.out
    rw [HHR.out] at HQ
    simp only [Prod.mk.injEq] at HQ
    obtain ⟨rfl, rfl⟩ := HQ
    obtain ⟨f0, f1, f2, f3⟩ := rec_facts o3 (.int .i64 ky)
    have HE := hide (set2 (d0 := .int .i64 ky) (d1 := .int .i64 vl) o3)
    have HBF := hide (HB3.out.trans ((only_set2 w4 gB (.int .i64 ky) (.int .i64 vl)).below HB3.out.size (fun i e => by have e' : i = gB := e; have := HGB.out; omega)))
    clear o3
    go_wp2
    refine bodyPost_ret (results_row_tmp rfl _ _ gB 24 _ _ _ rfl HE.out Try.underlying24 rfl (by kernel_rfl)) rfl ?_
    exact ⟨rfl, HBF.out⟩
  · have HQ := prec_no HH2.out (by rw [HCC.out]; exact hc)
    rw [HHR.out, HCC.out] at HQ
    simp only [Prod.mk.injEq] at HQ
    obtain ⟨rfl, rfl⟩ := HQ
    have ne1 : (c != 0) = true := by simpa using hc
    obtain ⟨f0, f1, f2, f3⟩ := rec_facts o3 (.int .i64 0)
    have HE := hide (set2 (d0 := .int .i64 0) (d1 := .int .i64 0) o3)
    have HBF := hide (HB3.out.trans ((only_set2 w4 gB (.int .i64 0) (.int .i64 0)).below HB3.out.size (fun i e => by have e' : i = gB := e; have := HGB.out; omega)))
    clear o3 hc
    go_wp2
    refine bodyPost_ret (results_row_tmp rfl _ _ gB 24 _ _ _ rfl HE.out Try.underlying24 rfl (by kernel_rfl)) rfl ?_
    exact ⟨rfl, HBF.out⟩

set_option maxRecDepth 100000 in
set_option maxHeartbeats 4000000 in
theorem rprec_any {W : World} {v : Value} {b : List Int} (hb : Row .u8 W v b) (hu : U8 b) {r : RC} {c : Int} (hr : precC b = (r, c)) :
    Calls Try.prog 23 #[v] W fun e w' => e = .returned (.tuple #[.agg #[.int .i64 r.key, .int .i64 r.val], .int .i64 c]) ∧ Below W.heap.size W w' := by
  obtain ⟨n1, l1, e1, h1⟩ : ∃ n1 l1 e1, anyR b 0 = (n1, l1, e1) := ⟨_, _, _, rfl⟩
  obtain ⟨n2, l2, e2, h3⟩ : ∃ n2 l2 e2, anyR l1 e1 = (n2, l2, e2) := ⟨_, _, _, rfl⟩
  have h2 : recR b 0 = (⟨n1, n2⟩, l2, e2) := by
    unfold recR
    rw [h1]
    simp only
    rw [h3]
  obtain ⟨cc, hcc⟩ : ∃ cc, closes l2 e2 = cc := ⟨_, rfl⟩
  have hb0 := alloc_below W (.cells #[.int .i64 0, .int .i64 0] 24 (0, 0))
  have hvr : (W.alloc (.cells #[.int .i64 0, .int .i64 0] 24 (0, 0))).heap[W.heap.size]? = some (.cells #[.int .i64 0, .int .i64 0] 24 (0, 0)) := heap_alloc_new W _
  obtain ⟨V, hV⟩ : ∃ V, V = W.alloc (.cells #[.int .i64 0, .int .i64 0] 24 (0, 0)) := ⟨_, rfl⟩
  rw [← hV] at hb0 hvr
  have HVB := hide hb0
  have HOP := hide (ropen_any (hb.below hb0) hu)
  obtain ⟨pb, cb, rfl, i1, i2, _, _⟩ := id hb
  obtain ⟨gB, hgB⟩ : ∃ gB, W.heap.size = gB := ⟨_, rfl⟩
  rw [hgB] at hvr
  have HGB := hide hgB
  have hgV : gB < V.heap.size := (Array.getElem?_eq_some_iff.1 hvr).1
  have HCC := hide hcc
  have HHR := hide hr
  have HH2 := hide h2
  clear hb hb0 hcc hr h2
  go_enter Try.func23, Try.ntmps23
  go_wp2_with fail
  rw [← hV]
  try rw [hgB]
  clear hV hgB
  refine HOP.out.mono ?_
  rintro _ w1 ⟨rfl, U1, hw1⟩
  have B1 : Below V.heap.size V w1 := by rw [hw1]; exact alloc_below _ _
  obtain ⟨bw, hbw⟩ : ∃ bw, V.heap.size = bw := ⟨_, rfl⟩
  rw [hbw] at U1 ⊢
  have o1 := below_boxE B1 hvr
  have HB1 := hide (HVB.out.trans (B1.mono HVB.out.size))
  have HTR := hide (ruint_at U1 h1)
  have hwb : W.heap.size ≤ bw := by have := HGB.out; omega
  have hne : bw ≠ gB := by omega
  clear U1 B1 hvr HOP h1 hw1
  go_wp2_with fail
  refine HTR.out.mono ?_
  rintro _ w2 ⟨rfl, g2, p2, c2, U2⟩
  have o2 := (only_grown g2).obj o1 (fun e => hne e.symm)
  have HB2 : Hid (Below W.heap.size W w2) := hide (HB1.out.trans ((only_grown g2).below HB1.out.size (fun i e => by have e' : i = bw := e; omega)))
  have hb3 := alloc_below w2 (.cells #[.int .i64 n1, .int .i64 0] 24 (0, 0))
  have hbx : (w2.alloc (.cells #[.int .i64 n1, .int .i64 0] 24 (0, 0))).heap[w2.heap.size]? = some (.cells #[.int .i64 n1, .int .i64 0] 24 (0, 0)) := heap_alloc_new w2 _
  obtain ⟨w3, hw3⟩ : ∃ w3, w3 = w2.alloc (.cells #[.int .i64 n1, .int .i64 0] 24 (0, 0)) := ⟨_, rfl⟩
  rw [← hw3] at hb3 hbx
  have U3 := U2.below hb3
  have o3 := below_boxE hb3 o2
  have HB3 := hide (HB2.out.trans (hb3.mono HB2.out.size))
  have HT2 := hide (ruint_at U3 h3)
  have hul := U2.lt
  have hol := (Array.getElem?_eq_some_iff.1 o2).1
  obtain ⟨xB, hxB⟩ : ∃ xB, w2.heap.size = xB := ⟨_, rfl⟩
  rw [hxB] at hbx
  have hnx : bw ≠ xB := by omega
  have hgx : gB ≠ xB := by omega
  have hwx : W.heap.size ≤ xB := by omega
  clear g2 U2 o1 o2 hb3 HTR U3 h3 hul hol
  go_wp2_with fail
  rw [← hw3]
  try rw [hxB]
  clear hw3 hxB
  refine HT2.out.mono ?_
  rintro _ w4 ⟨rfl, g4, p4, c4, U4⟩
  have o4 := (only_grown g4).obj o3 (fun e => hne e.symm)
  have q4 := (only_grown g4).obj hbx (fun e => hnx e.symm)
  have HB4 : Hid (Below W.heap.size W w4) := hide (HB3.out.trans ((only_grown g4).below HB3.out.size (fun i e => by have e' : i = bw := e; omega)))
  have s0 : w4.cell? ⟨xB, 1, none⟩ = some (.int .i64 0) := by simp [World.cell?, q4]
  have s1 : w4.frozen? ⟨xB, 1, none⟩ = false := by simp [World.frozen?, q4]
  obtain ⟨w5, hw5⟩ : ∃ w5, w5 = w4.setCell ⟨xB, 1, none⟩ (.int .i64 n2) := ⟨_, rfl⟩
  have hO5 : Only (· = xB) w4 w5 := by rw [hw5]; exact Only.set (F := (· = xB)) w4 xB 1 _ rfl
  have U5 := U4.turn hO5 (fun e => hnx e) (fun i e => .inr (by have e' : i = xB := e; rw [e']; exact noBytes_of (l := [n1, 0]) q4))
  have o5 := hO5.obj o4 (fun e => hgx e)
  have q5 : w5.heap[xB]? = some (.cells #[.int .i64 n1, .int .i64 n2] 24 (0, 0)) := by rw [hw5]; exact heap_setCell_same w4 xB 1 _ _ _ q4
  have HB5 : Hid (Below W.heap.size W w5) := hide (HB4.out.trans (hO5.below HB4.out.size (fun i e => by have e' : i = xB := e; omega)))
  have HCL := hide (rclose_any U5)
  rw [HCC.out] at HCL
  have z0 : w5.cell? ⟨xB, 0, none⟩ = some (.int .i64 n1) := by simp [World.cell?, q5]
  have z1 : w5.cell? ⟨xB, 1, none⟩ = some (.int .i64 n2) := by simp [World.cell?, q5]
  have HW5 := hide hw5
  clear g4 U4 o3 o4 q4 q5 hbx hO5 U5 HT2 hw5
  go_wp2_with fail
  rw [← HW5.out]
  refine HCL.out.mono ?_
  rintro _ w6 ⟨rfl, rfl⟩
  clear HCL s0 s1 HW5
  by_cases hc : cc = 0
  · subst hc
    have HQ := prec_yes HH2.out HCC.out
    rw [HHR.out] at HQ
    simp only [Prod.mk.injEq] at HQ
    obtain ⟨rfl, rfl⟩ := HQ
    obtain ⟨f0, f1, f2, f3⟩ := rec_facts o5 (.int .i64 n1)
    have HE := hide (set2 (d0 := .int .i64 n1) (d1 := .int .i64 n2) o5)
    have HBF := hide (HB5.out.trans ((only_set2 w6 gB (.int .i64 n1) (.int .i64 n2)).below HB5.out.size (fun i e => by have e' : i = gB := e; have := HGB.out; omega)))
    clear o5
    go_wp2
    refine bodyPost_ret (results_row_tmp rfl _ _ gB 24 _ _ _ rfl HE.out Try.underlying24 rfl (by kernel_rfl)) rfl ?_
    exact ⟨rfl, HBF.out⟩
  · have HQ := prec_no HH2.out (by rw [HCC.out]; exact hc)
    rw [HHR.out, HCC.out] at HQ
    simp only [Prod.mk.injEq] at HQ
    obtain ⟨rfl, rfl⟩ := HQ
    have ne1 : (c != 0) = true := by simpa using hc
    obtain ⟨f0, f1, f2, f3⟩ := rec_facts o5 (.int .i64 0)
    have HE := hide (set2 (d0 := .int .i64 0) (d1 := .int .i64 0) o5)
    have HBF := hide (HB5.out.trans ((only_set2 w6 gB (.int .i64 0) (.int .i64 0)).below HB5.out.size (fun i e => by have e' : i = gB := e; have := HGB.out; omega)))
    clear o5 hc
    go_wp2
    refine bodyPost_ret (results_row_tmp rfl _ _ gB 24 _ _ _ rfl HE.out Try.underlying24 rfl (by kernel_rfl)) rfl ?_
    exact ⟨rfl, HBF.out⟩
end Go.Proofs.Ytihbdlbnpkmafaa
