/-
  OperStays, as the program is given: true for every graph, every list of records and every state, as far as the statement's own bound on the sizes of its arguments goes.
-/
import Derived.Test.YtkibiappjegogaaOsv
import Derived.Test.YtkibiappjegogaaGar
namespace Go.Proofs.Ytkibiappjegogaa.operStays
open Go.ChangeShapes Go.WideShapes Go.ChangeAt Go.RowKit

theorem Try.cellsKS : Try.prog.cellsOf 51 = 3 := by kernel_rfl
theorem Try.cellsOS : Try.prog.cellsOf 28 = 2 := by kernel_rfl
theorem Try.cellsKSs : Try.prog.cellsOf 26 = 1 := by kernel_rfl

theorem arg_ks {H : Type} {enc : TypeId × Value → H} {W : World} (fuel : Nat) (cs : List Value) (y : DataW H × List MemPlace) (hl : cs.length = 3) (h : DataW.trod enc Try.prog W 0 (fun _ => true) true fuel 51 cs = some y) :
    ∃ o : KS, cs = o.cells ∧ True ∧ 1 ≤ Rows.uptoBulk y.1 := by
  match cs, hl with
  | [c0, c1, c2], _ =>
    obtain ⟨xs, m, _, _, _, hxl, hfs⟩ := DataW.trod_struct Try.underlying51 h
    have hxl' : xs.length = 3 := hxl
    match xs, hxl' with
    | [y0, y1, y2], _ =>
      have g0 : DataW.trod enc Try.prog W 0 (fun _ => true) true m 2 (([c0, c1, c2].drop 0).take (Try.prog.cellsOf 2)) = [y0, y1, y2][0]? := hfs 0 _ rfl
      rw [Try.cellsI64] at g0
      replace g0 : DataW.trod enc Try.prog W 0 (fun _ => true) true m 2 [c0] = some y0 := g0
      obtain ⟨n0, e0, _, w0⟩ := DataW.trod_int Try.underlying2 g0
      have g1 : DataW.trod enc Try.prog W 0 (fun _ => true) true m 2 (([c0, c1, c2].drop 1).take (Try.prog.cellsOf 2)) = [y0, y1, y2][1]? := hfs 1 _ rfl
      rw [Try.cellsI64] at g1
      replace g1 : DataW.trod enc Try.prog W 0 (fun _ => true) true m 2 [c1] = some y1 := g1
      obtain ⟨n1, e1, _, w1⟩ := DataW.trod_int Try.underlying2 g1
      have g2 : DataW.trod enc Try.prog W 0 (fun _ => true) true m 2 (([c0, c1, c2].drop 2).take (Try.prog.cellsOf 2)) = [y0, y1, y2][2]? := hfs 2 _ rfl
      rw [Try.cellsI64] at g2
      replace g2 : DataW.trod enc Try.prog W 0 (fun _ => true) true m 2 [c2] = some y2 := g2
      obtain ⟨n2, e2, _, w2⟩ := DataW.trod_int Try.underlying2 g2
      simp only [List.cons.injEq, and_true] at e0 e1 e2
      subst e0 e1 e2
      exact ⟨⟨n0, n1, n2⟩, rfl, trivial, bulk_one _⟩
theorem sum_ones : ∀ (es : List KS), (es.map fun _ => 1).sum = es.length
  | [] => rfl
  | _ :: es => by simp only [List.map_cons, List.sum_cons, List.length_cons, sum_ones es]; omega
theorem arg_state {H : Type} {enc : TypeId × Value → H} {W : World} {fuel : Nat} {cs : Array Value} {x : DataW H × List MemPlace} (hs : cs.size = 2) (h : DataW.trod enc Try.prog W 0 (fun _ => true) true fuel 28 cs.toList = some x) :
    ∃ (tn : Int) (p : Option Addr) (cap : Nat) (ks : List KS), cs = #[.slice p ks.length cap, .int .i64 tn] ∧ KRow W p cap ks ∧ ks.length + 1 ≤ Rows.uptoBulk x.1 := by
  obtain ⟨cl⟩ := cs
  have hl : cl.length = 2 := by simpa using hs
  match cl, hl with
  | [c0, c1], _ =>
    obtain ⟨xs, m, _, hy, _, hxl, hfs⟩ := DataW.trod_struct Try.underlying28 h
    have hxl' : xs.length = 2 := hxl
    match xs, hxl' with
    | [y0, y1], _ =>
      have g0 : DataW.trod enc Try.prog W 0 (fun _ => true) true m 26 (([c0, c1].drop 0).take (Try.prog.cellsOf 26)) = [y0, y1][0]? := hfs 0 _ rfl
      rw [Try.cellsKSs] at g0
      replace g0 : DataW.trod enc Try.prog W 0 (fun _ => true) true m 26 [c0] = some y0 := g0
      have g1 : DataW.trod enc Try.prog W 0 (fun _ => true) true m 3 (([c0, c1].drop 1).take (Try.prog.cellsOf 3)) = [y0, y1][1]? := hfs 1 _ rfl
      rw [Try.cellsInt] at g1
      replace g1 : DataW.trod enc Try.prog W 0 (fun _ => true) true m 3 [c1] = some y1 := g1
      obtain ⟨n1, e1, _, w1⟩ := DataW.trod_int Try.underlying3 g1
      obtain ⟨p, cap, ks, h1, h2, h3, h4, h5, h6, h7, _⟩ := arg_list (cells := KS.cells) (wt := fun _ => 1) (R := fun _ : KS => True) (by decide) Try.underlying26 Try.cellsKS arg_ks g0
      simp only [List.cons.injEq, and_true] at e1
      subst e1 h1
      refine ⟨n1, p, cap, ks, rfl, ⟨h2, h3, h7, h5⟩, ?_⟩
      rw [hy]
      rw [sum_ones] at h6
      simp only [Rows.uptoBulk, Rows.uptoBulkAll, List.map_cons, List.map_nil]
      omega

theorem short {H : Type} {d0 d1 d2 : DataW H} (hk : Rows.uptoSmall H [d0, d1, d2] = true) : Rows.uptoBulk d1 + Rows.uptoBulk d2 ≤ 1048576 := by
  have h : Rows.uptoBulkAll [d0, d1, d2] ≤ 1048576 := of_decide_eq_true hk
  simp only [Rows.uptoBulkAll] at h
  omega

set_option maxRecDepth 100000 in
theorem contract (H : Type) (enc : TypeId × Value → H) (W : World) (base : Nat) (args : Array Value) (ds gs : List (DataW H)) (before : List MemPlace)
    (hval : ∀ (j : Nat) t v, Try.f3.params[j]? = some t → args[j]? = some v → Value.okWide Try.prog W .any base t v)
    (hW : DataW.Whole enc Try.prog Try.f3.params.toList Rows.operStaysSpec.vars false W args.toList ds gs before) (hk : Rows.uptoSmall H (ds ++ gs) = true) :
    Calls Try.prog 3 args W fun e W' => ∃ v, e = .returned v ∧ Rows.operStaysSpec.post enc Try.prog Try.f3 false true false false W args v W' := by
  have hW' := hW
  obtain ⟨p, q, hA0, hV, rfl, hfz, hnd⟩ := hW
  have hA : DataW.TrodAll enc Try.prog W 0 (fun _ => true) true Try.f3.params.toList args.toList ds p := hA0
  rw [Try.params3] at hA hval
  obtain ⟨v0, vs0, d0, ds0, p0, q0, hargs, rfl, rfl, h0, r0⟩ := trodAll_cons hA
  obtain ⟨v1, vs1, d1, ds1, p1, q1, rfl, rfl, rfl, h1, r1⟩ := trodAll_cons r0
  obtain ⟨v2, vs2, d2, ds2, p2, q2, rfl, rfl, rfl, h2, r2⟩ := trodAll_cons r1
  obtain ⟨rfl, rfl, rfl⟩ := trodAll_nil r2
  obtain rfl : args = #[v0, v1, v2] := by cases args; simp_all
  obtain ⟨rfl, rfl⟩ := trodVars_none hV
  obtain ⟨cs0, rfl, hcs0⟩ := okWide_struct Try.underlying24 (hval 0 24 v0 rfl rfl)
  rw [Op.Try.cellsGraph] at hcs0
  obtain ⟨a1, len1, cap1, rfl⟩ := okWide_slice Try.underlying25 (hval 1 25 v1 rfl rfl)
  obtain ⟨cs2, rfl, hcs2⟩ := okWide_struct Try.underlying28 (hval 2 28 v2 rfl rfl)
  rw [Try.cellsOS] at hcs2
  have k0 := h0
  have lt0 : ∀ x ∈ p0, x.block < W.heap.size := by obtain ⟨m, hm⟩ := k0; exact DataW.trod_lt m _ _ _ hm
  obtain ⟨f0, hf0⟩ := h0
  have hcc0 : (Value.agg cs0).cells.toList = cs0.toList := by simp [Value.cells]
  rw [hcc0] at hf0
  obtain ⟨parts, gp, gcap, os, rfl, _, G0, GF0, _⟩ := Op.arg_graph hcs0 hf0
  have k1 := h1
  have lt1 : ∀ x ∈ p1, x.block < W.heap.size := by obtain ⟨m, hm⟩ := k1; exact DataW.trod_lt m _ _ _ hm
  obtain ⟨f1, hf1⟩ := h1
  have hcc1 : (Value.slice a1 len1 cap1).cells.toList = [.slice a1 len1 cap1] := by simp [Value.cells]
  rw [hcc1] at hf1
  obtain ⟨pp1, pc1, xs1, ee1, R1, F1, B1⟩ := arg_recs hf1
  simp only [Value.slice.injEq] at ee1
  obtain ⟨rfl, rfl, rfl⟩ := ee1
  have k2 := h2
  have lt2 : ∀ x ∈ p2, x.block < W.heap.size := by obtain ⟨m, hm⟩ := k2; exact DataW.trod_lt m _ _ _ hm
  obtain ⟨f2, hf2⟩ := h2
  have hcc2 : (Value.agg cs2).cells.toList = cs2.toList := by simp [Value.cells]
  rw [hcc2] at hf2
  obtain ⟨tn, sp, sc, ks, rfl, K2, B2⟩ := arg_state hcs2 hf2
  simp only [List.append_nil] at hk
  have hs := short hk
  simp only at B1 B2
  clear hA0
  refine (stays_walk G0 rfl (fun o ho => ⟨(GF0 o ho).2.2.2.1.1, (GF0 o ho).2.2.2.1.2⟩) R1 rfl (fun r hr => ⟨(F1 r hr).1, (F1 r hr).2⟩) K2 rfl (by omega)).mono fun e W' ⟨he, bel⟩ => ?_
  subst he
  exact ⟨_, rfl, _, _, _, [], _, [], hW', trodAll_mk1 (shut_bool Try.underlying4 _), (trodAll_cons_mk (Below.trod Try.laidOut (by kernel_rfl) (of_decide_eq_true (by kernel_rfl)) k0 bel lt0) (trodAll_cons_mk (Below.trod Try.laidOut (by kernel_rfl) (of_decide_eq_true (by kernel_rfl)) k1 bel lt1) (trodAll_cons_mk (Below.trod Try.laidOut (by kernel_rfl) (of_decide_eq_true (by kernel_rfl)) k2 bel lt2) trodAll_mk0))), rfl, bel.frame _, fun h => by cases h⟩

set_option maxRecDepth 100000 in
theorem lifted (os : Os) (started : os.Started) (H : Type) (enc : TypeId × Value → H) (F : Stop.Interp) :
    ReturnsInHanded {} Try.checked os 3 .any ((Rows.OpenSpec.upto Rows.operStaysSpec).pre6 enc Try.prog Try.f3 Rows.operStaysUptoRow.domain false) (((Rows.OpenSpec.upto Rows.operStaysSpec).at F).post enc Try.prog Try.f3 false true false false) := by
  refine returnsInHanded_of_cond (C := Try.checked) (s := Rows.OpenSpec.upto Rows.operStaysSpec) (k := Rows.uptoSmall) rfl Try.ownK started (by kernel_rfl) Try.func3
    (OpenSpec.witness (enc := enc) (C := Try.checked) (s := Rows.OpenSpec.upto Rows.operStaysSpec) (k := Rows.uptoSmall) rfl false ⟨#[], #[.agg #[.int .i64 0, .slice none 0 0], .slice none 0 0, .agg #[.slice none 0 0, .int .i64 0]], []⟩ 8 (by kernel_rfl) (by kernel_rfl) (by kernel_rfl)
      (x := ([.agg [.lit (.int .i64 0), .nil], .nil, .agg [.nil, .lit (.int .i64 0)]], [], [])) (by kernel_rfl) rfl (by kernel_rfl)) ?_
  intro W base args ds gs before hval hW _ hk _
  exact contract H enc W base args ds gs before hval hW hk

set_option maxRecDepth 100000 in
theorem proved : Rows.OperStaysUptoSaid :=
  OpenClaim.holds_of_cond 3 Try.f3 rfl rfl rfl rfl rfl rfl rfl ⟨rfl, rfl, rfl, rfl, rfl⟩ rfl rfl rfl rfl rfl (by kernel_rfl) Try.func3 (by kernel_rfl)
    (of_decide_eq_true (by kernel_rfl)) (by unfold Func.isWrapper; first | (rw [if_pos (by decide +kernel)]; kernel_rfl) | (rw [if_neg (by decide +kernel)]; exact ⟨rfl, rfl⟩))
    (fun os started H enc _ F => lifted os started H enc F)

end Go.Proofs.Ytkibiappjegogaa.operStays
