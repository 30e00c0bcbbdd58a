/-
  The law's begun: what the law's graph comes to of three records and one. No conditions.
-/
import Derived.Test.YtbcllgddogghbaaRmg
import Derived.Test.YtbcllgddogghbaaRrn
import Derived.Test.YtbcllgddogghbaaRsa
namespace Go.Proofs.Ytbcllgddogghbaa
open Go.RowKit Go.Shelf

theorem row_cells {k : IntKind} {W : World} {b : Nat} {l : List Int} {cs : Array Value} {t : TypeId} (hm : l.length ≤ 9223372036854775807) (h : W.heap[b]? = some (.cells cs t (0, 0))) (hc : cs.toList = l.map (Value.int k)) : Row k W (.slice (some ⟨b, 0, none⟩) l.length l.length) l := by
  refine ⟨_, _, rfl, Nat.le_refl _, hm, by simp, fun _ => ⟨b, 0, rfl, fun i hi => ?_⟩⟩
  simp only [World.cell?]
  rw [h]
  show cs[0 + i]? = _
  rw [Nat.zero_add, ← Array.getElem?_toList, hc, List.getElem?_map, List.getD_eq_getElem?_getD, List.getElem?_eq_getElem hi]
  rfl
theorem two_lists {W : World} {b B1 B2 n1 n2 c1 c2 : Nat} {p1 p2 : Option Addr} {l1 l2 : List RC} (h : W.heap[b]? = some (.cells #[.slice p1 n1 c1, .slice p2 n2 c2] 23 (0, 0))) (h1 : W.ownsRow B1 40 2 (.slice p1 n1 c1) n1 (l1.flatMap RC.cells)) (h2 : W.ownsRow B2 40 2 (.slice p2 n2 c2) n2 (l2.flatMap RC.cells)) (e1 : l1.length = n1) (e2 : l2.length = n2) : LL W (some ⟨b, 0, none⟩) 2 [⟨l1, p1, c1⟩, ⟨l2, p2, c2⟩] := by
  subst e1 e2
  refine ⟨⟨Nat.le_refl _, by decide, by simp, ?_⟩, ?_⟩
  · intro i hi
    have hi2 : i < 2 := hi
    refine ⟨b, 0, rfl, fun j hj => ?_⟩
    obtain rfl : j = 0 := by omega
    simp only [World.cell?]
    rw [h]
    rcases (by omega : i = 0 ∨ i = 1) with rfl | rfl <;> rfl
  · intro x hx
    simp only [List.mem_cons, List.not_mem_nil, or_false] at hx
    rcases hx with rfl | rfl
    · exact LRow.of_own RC.len rfl h1
    · exact LRow.of_own RC.len rfl h2
theorem lens_small {p1 p2 : Option Addr} {c1 c2 : Nat} : ∀ x ∈ [(⟨l123, p1, c1⟩ : SV), ⟨l9, p2, c2⟩], x.rs.length ≤ lenB := by
  intro x hx
  simp only [List.mem_cons, List.not_mem_nil, or_false] at hx
  rcases hx with rfl | rfl
  · show 3 ≤ lenB
    decide
  · show 1 ≤ lenB
    decide
/-- Run of the law's graph. -/
theorem runM {W : World} {b qc : Nat} {q p1 p2 : Option Addr} {c1 c2 : Nat} (ho : GRow W (some ⟨b + 3, 0, none⟩) 4 (mergeV b)) (hx : LL W q qc [⟨l123, p1, c1⟩, ⟨l9, p2, c2⟩]) :
    Calls Try.prog 12 #[.agg #[.int .i64 2, .slice (some ⟨b + 3, 0, none⟩) 4 4], .slice q 2 qc] W fun e w' => ∃ p c, e = .returned (.tuple #[.slice p 3 c, .int .i64 0]) ∧ w'.ownsRow W.heap.size 40 2 (.slice p 3 c) 3 ([(⟨0, 1⟩ : RC), ⟨0, 9⟩, ⟨0, 2⟩].flatMap RC.cells) ∧ Below W.heap.size W w' := by
  refine (run_ok (rf := rfM) (parts := 2) (n := 4) (L := 2) (s := 3) (f := 2) (j := 0) (dn := dnM.take 3) ho rfl hx rfl fault_merge sink_merge (by decide) (show 0 < 1 by decide) rfl (by decide) fits_merge3 (by decide) lens_small).mono ?_
  rintro _ w' ⟨y, rfl, hy, hr, hb⟩
  obtain ⟨rs, p, c⟩ := y
  have hr2 : rs = [(⟨0, 1⟩ : RC), ⟨0, 9⟩, ⟨0, 2⟩] := hr
  subst hr2
  exact ⟨p, c, rfl, hy, hb⟩
/-- States of the law's graph. -/
theorem statesM {W : World} {b qc : Nat} {q p1 p2 : Option Addr} {c1 c2 : Nat} (ho : GRow W (some ⟨b + 3, 0, none⟩) 4 (mergeV b)) (hx : LL W q qc [⟨l123, p1, c1⟩, ⟨l9, p2, c2⟩]) :
    Calls Try.prog 21 #[.agg #[.int .i64 2, .slice (some ⟨b + 3, 0, none⟩) 4 4], .slice q 2 qc] W fun e w' => ∃ sb bb bc p c, e = .returned (.tuple #[.slice (some ⟨sb, 0, none⟩) 4 4, .int .i64 0]) ∧ w'.cell? ⟨sb, 7, none⟩ = some (.int .i64 1) ∧ w'.cell? ⟨sb, 8, none⟩ = some (.slice (some ⟨bb, 0, none⟩) 2 bc) ∧ 2 ≤ bc ∧ bc ≤ 9223372036854775807 ∧ w'.cell? ⟨bb, 0, none⟩ = some (.slice p 1 c) ∧ w'.ownsRow W.heap.size 40 2 (.slice p 1 c) 1 ([(⟨0, 3⟩ : RC)].flatMap RC.cells) ∧ Below W.heap.size W w' := by
  refine (states_ok (rf := rfM) (parts := 2) (n := 4) (L := 2) (dn := dnM) ho rfl hx rfl fault_merge fits_merge lens_small).mono ?_
  rintro _ w' ⟨sb, db, rv, rfl, hs, hd, hb⟩
  obtain ⟨x, hx2⟩ : ∃ x, rv[2]! = x := ⟨_, rfl⟩
  have hpl := hd.plain 2 (by decide)
  have hok := hd.ok 2 (by decide)
  rw [hx2] at hpl hok
  obtain ⟨_, e2, e3, _, _⟩ := hpl
  have e2' : x.turn = 1 := e2
  have e3' : x.bufs.map SV.rs = [[⟨0, 3⟩], []] := e3
  have hlen : x.bufs.length = 2 := by
    have := congrArg List.length e3'
    simpa using this
  have hbrow := hok.brow
  unfold RV.bv at hbrow
  obtain ⟨bb, hbp, hcell⟩ := own_cellR hbrow (show 0 < x.bufs.length by omega)
  obtain ⟨y, hy⟩ : ∃ y, x.bufs[0]! = y := ⟨_, rfl⟩
  have hy0 : x.bufs[0]'(by omega) = y := by rw [← hy, getElem!_pos x.bufs 0 (by omega)]
  have hyr : y.rs = [⟨0, 3⟩] := by
    have h9 : (x.bufs.map SV.rs)[0]'(by rw [List.length_map]; omega) = [⟨0, 3⟩] := by simp [e3']
    rw [List.getElem_map, hy0] at h9
    exact h9
  have hcell2 : w'.cell? ⟨bb, 0, none⟩ = some (.slice y.p y.rs.length y.c) := by
    rw [hcell, SV.flat, List.getD_eq_getElem?_getD, List.getElem?_map, List.getElem?_eq_getElem (by omega), hy0]
    rfl
  have hyo : y.own w' W.heap.size := hok.bown y (by rw [← hy0]; exact List.getElem_mem _)
  obtain ⟨_, _, ef, q1, q2⟩ := own_form hbrow
  simp only [Value.slice.injEq] at ef
  obtain ⟨_, _, rfl⟩ := ef
  obtain ⟨g', o', e, hc⟩ := (LRow.of_own RV.tlen hd.len hs).cell 2 (by have := hd.len; omega)
  simp only [Option.some.injEq, Addr.mk.injEq, and_true] at e
  obtain ⟨rfl, rfl⟩ := e
  rw [hx2] at hc
  obtain ⟨yrs, yp, yc⟩ := y
  simp only at hyr hcell2
  subst hyr
  refine ⟨sb, bb, x.bc, yp, yc, rfl, ?_, ?_, by omega, q2, hcell2, hyo, hb⟩
  · have := hc 1 (by decide)
    simp only [RV.task, e2'] at this
    exact this
  · have := hc 2 (by decide)
    simp only [RV.task, RV.bv, hlen, hbp] at this
    exact this
theorem recs_of {W : World} {a b c : Int} {o : Obj} (ho : o = .cells #[.int .i64 a, .int .i64 b, .int .i64 c] 2 (0, 0)) : Calls Try.prog 19 #[.slice (some ⟨W.heap.size, 0, none⟩) 3 3] (W.alloc o) fun e w' => ∃ p c1, e = .returned (.slice p 3 c1) ∧ w'.ownsRow W.heap.size 40 2 (.slice p 3 c1) 3 ([(⟨0, a⟩ : RC), ⟨0, b⟩, ⟨0, c⟩].flatMap RC.cells) ∧ Below W.heap.size W w' := by
  subst ho
  refine (records_any (l := [a, b, c]) (row_cells (by simp) (heap_alloc_new W _) rfl) (by simp)).mono ?_
  rintro _ w' ⟨p1, c1, rfl, h1, h2⟩
  have hb := alloc_below W (.cells #[.int .i64 a, .int .i64 b, .int .i64 c] 2 (0, 0))
  exact ⟨p1, c1, rfl, ownsRow_base h1 hb.size, hb.trans (h2.mono hb.size)⟩
theorem recs_one {W : World} {a : Int} {o : Obj} (ho : o = .cells #[.int .i64 a] 2 (0, 0)) : Calls Try.prog 19 #[.slice (some ⟨W.heap.size, 0, none⟩) 1 1] (W.alloc o) fun e w' => ∃ p c1, e = .returned (.slice p 1 c1) ∧ w'.ownsRow W.heap.size 40 2 (.slice p 1 c1) 1 ([(⟨0, a⟩ : RC)].flatMap RC.cells) ∧ Below W.heap.size W w' := by
  subst ho
  refine (records_any (l := [a]) (row_cells (by simp) (heap_alloc_new W _) rfl) (by simp)).mono ?_
  rintro _ w' ⟨p1, c1, rfl, h1, h2⟩
  have hb := alloc_below W (.cells #[.int .i64 a] 2 (0, 0))
  exact ⟨p1, c1, rfl, ownsRow_base h1 hb.size, hb.trans (h2.mono hb.size)⟩

set_option maxRecDepth 100000 in
set_option maxHeartbeats 8000000 in
theorem begun_any {W : World} : Calls Try.prog 9 #[] W fun e w' => e = .returned (.bool true) ∧ Below W.heap.size W w' := by
  go_enter Try.func9, Try.ntmps9
  go_wp2_with fail
  refine merge_any.mono ?_
  rintro _ w1 ⟨b, rfl, G1, B1⟩
  have HG1 := hide G1
  have HB1 := hide B1
  clear G1 B1
  go_wp2_with fail
  refine (recs_of rfl).mono ?_
  rintro _ w2 ⟨p1, c1, rfl, O2, B2⟩
  have HO2 := hide O2
  have HB2 := hide B2
  clear O2 B2
  go_wp2_with fail
  refine (recs_one rfl).mono ?_
  rintro _ w3 ⟨p2, c2, rfl, O3, B3⟩
  have a4 := alloc_below w3 (.cells #[.slice p1 3 c1, .slice p2 1 c2] 23 (0, 0))
  have hLL : LL (w3.alloc (.cells #[.slice p1 3 c1, .slice p2 1 c2] 23 (0, 0))) (some ⟨w3.heap.size, 0, none⟩) 2 [⟨l123, p1, c1⟩, ⟨l9, p2, c2⟩] :=
    two_lists (heap_alloc_new w3 _) (ownsRow_later (ownsRow_later HO2.out B3) a4) (ownsRow_later O3 a4) rfl rfl
  have hG4 := ((HG1.out.below HB2.out).below B3).below a4
  have HR := hide (runM hG4 hLL)
  have hBW4 : Below W.heap.size W (w3.alloc (.cells #[.slice p1 3 c1, .slice p2 1 c2] 23 (0, 0))) := HB1.out.trans (((HB2.out.trans (B3.mono HB2.out.size)).trans (a4.mono (Nat.le_trans HB2.out.size B3.size))).mono HB1.out.size)
  have HBW4 := hide hBW4
  clear hLL hG4 hBW4 a4 O3 B3 HO2 HB1 HB2 HG1
  go_wp2_with fail
  refine HR.out.mono ?_
  rintro _ w5 ⟨p5, c5, rfl, O5, B5⟩
  have HO5 := hide O5
  have HBW5 := hide (HBW4.out.trans (B5.mono HBW4.out.size))
  clear O5 B5 HR
  go_wp2_with fail
  refine merge_any.mono ?_
  rintro _ x1 ⟨b', rfl, G1, B1⟩
  have HG1 := hide G1
  have HB1 := hide B1
  clear G1 B1
  go_wp2_with fail
  refine (recs_of rfl).mono ?_
  rintro _ x2 ⟨q1, d1, rfl, O2, B2⟩
  have HO2 := hide O2
  have HB2 := hide B2
  clear O2 B2
  go_wp2_with fail
  refine (recs_one rfl).mono ?_
  rintro _ x3 ⟨q2, d2, rfl, O3, B3⟩
  have a4 := alloc_below x3 (.cells #[.slice q1 3 d1, .slice q2 1 d2] 23 (0, 0))
  have hLL : LL (x3.alloc (.cells #[.slice q1 3 d1, .slice q2 1 d2] 23 (0, 0))) (some ⟨x3.heap.size, 0, none⟩) 2 [⟨l123, q1, d1⟩, ⟨l9, q2, d2⟩] :=
    two_lists (heap_alloc_new x3 _) (ownsRow_later (ownsRow_later HO2.out B3) a4) (ownsRow_later O3 a4) rfl rfl
  have hG4 := ((HG1.out.below HB2.out).below B3).below a4
  have HR := hide (statesM hG4 hLL)
  have hB54 : Below w5.heap.size w5 (x3.alloc (.cells #[.slice q1 3 d1, .slice q2 1 d2] 23 (0, 0))) := HB1.out.trans (((HB2.out.trans (B3.mono HB2.out.size)).trans (a4.mono (Nat.le_trans HB2.out.size B3.size))).mono HB1.out.size)
  have HB54 := hide hB54
  clear hLL hG4 hB54 a4 O3 B3 HO2 HB1 HB2 HG1
  go_wp2_with fail
  refine HR.out.mono ?_
  rintro _ w6 ⟨sb, bb, bc, p6, c6, rfl, s1, s2, s3, s4, s5, O6, B6⟩
  have hB56 : Below w5.heap.size w5 w6 := HB54.out.trans (B6.mono HB54.out.size)
  have HB56 := hide hB56
  have HO56 := hide (ownsRow_later HO5.out hB56)
  have S1 := hide s1
  have S2 := hide s2
  have S5 := hide s5
  clear O6 B6 hB56 HR s1 s2 s5
  go_wp2_with fail
  refine (recs_of rfl).mono ?_
  rintro _ w7 ⟨p7, c7, rfl, O7, B7⟩
  have HEQ := hide (eqrc_any (L := 3) (LRow.of_own RC.len rfl (ownsRow_later HO56.out B7)) (LRow.of_own RC.len rfl O7) rfl)
  have HB67 := hide B7
  clear O7 B7
  go_wp2_with fail
  refine HEQ.out.mono ?_
  rintro _ w8 ⟨rfl, B8⟩
  have hB68 : Below w6.heap.size w6 w8 := HB67.out.trans (B8.mono HB67.out.size)
  have t1 := cell_later hB68 S1.out
  have t2 := cell_later hB68 S2.out
  have t5 := cell_later hB68 S5.out
  have HBF : Hid (Below W.heap.size W w8) := hide (HBW5.out.trans ((HB56.out.trans (hB68.mono HB56.out.size)).mono HBW5.out.size))
  clear hB68 B8 HEQ
  go_wp2
  go_ret
  exact ⟨rfl, HBF.out⟩
end Go.Proofs.Ytbcllgddogghbaa
