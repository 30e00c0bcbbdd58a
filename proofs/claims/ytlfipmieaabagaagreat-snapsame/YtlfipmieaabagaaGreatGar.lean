/-
  How an argument that is a graph is opened: its operators and their inputs lie in memory. No condition.
-/
import Derived.Test.YtlfipmieaabagaaGreatArl
import Derived.Test.YtlfipmieaabagaaGreatGrm
namespace Go.Proofs.YtlfipmieaabagaaGreat
open Go.ChangeShapes Go.WideShapes Go.ChangeAt Go.RowKit

def I6 (n : Int) : Prop := -9223372036854775808 ≤ n ∧ n ≤ 9223372036854775807
def GE.fine (e : GE) : Prop := I6 e.f ∧ I6 e.p
def GO.fine (o : GO) : Prop := I6 o.kind ∧ I6 o.part ∧ I6 o.fn ∧ I6 o.arg ∧ ∀ e ∈ o.ins, e.fine
def GO.wt (o : GO) : Nat := o.ins.length + 1
def weightG (os : List GO) : Nat := (os.map GO.wt).sum
theorem Tryz.cellsEdge : Tryz.prog.cellsOf 119 = 2 := by kernel_rfl
theorem Tryz.cellsOp : Tryz.prog.cellsOf 95 = 5 := by kernel_rfl
theorem Tryz.cellsGraph : Tryz.prog.cellsOf 24 = 2 := by kernel_rfl
theorem Tryz.cellsInt : Tryz.prog.cellsOf 3 = 1 := by kernel_rfl
theorem Tryz.cellsI64 : Tryz.prog.cellsOf 2 = 1 := by kernel_rfl
theorem Tryz.cellsEdges : Tryz.prog.cellsOf 93 = 1 := by kernel_rfl
theorem Tryz.cellsOps : Tryz.prog.cellsOf 22 = 1 := by kernel_rfl

def GE.cells (e : GE) : List Value := [.int .i64 e.f, .int .i64 e.p]
theorem arg_edge {H : Type} {enc : TypeId × Value → H} {W : World} (fuel : Nat) (cs : List Value) (y : DataW H × List MemPlace) (hl : cs.length = 2) (h : DataW.trod enc Tryz.prog W 0 (fun _ => true) true fuel 119 cs = some y) :
    ∃ o : GE, cs = o.cells ∧ o.fine ∧ 1 ≤ Rows.uptoBulk y.1 := by
  match cs, hl with
  | [c0, c1], _ =>
    obtain ⟨xs, m, _, _, _, hxl, hfs⟩ := DataW.trod_struct Tryz.underlying119 h
    have hxl' : xs.length = 2 := hxl
    match xs, hxl' with
    | [y0, y1], _ =>
      have g0 : DataW.trod enc Tryz.prog W 0 (fun _ => true) true m 3 (([c0, c1].drop 0).take (Tryz.prog.cellsOf 3)) = [y0, y1][0]? := hfs 0 _ rfl
      rw [Tryz.cellsInt] at g0
      replace g0 : DataW.trod enc Tryz.prog W 0 (fun _ => true) true m 3 [c0] = some y0 := g0
      have g1 : DataW.trod enc Tryz.prog W 0 (fun _ => true) true m 3 (([c0, c1].drop 1).take (Tryz.prog.cellsOf 3)) = [y0, y1][1]? := hfs 1 _ rfl
      rw [Tryz.cellsInt] at g1
      replace g1 : DataW.trod enc Tryz.prog W 0 (fun _ => true) true m 3 [c1] = some y1 := g1
      obtain ⟨n0, e0, _, w0⟩ := DataW.trod_int Tryz.underlying3 g0
      obtain ⟨n1, e1, _, w1⟩ := DataW.trod_int Tryz.underlying3 g1
      simp only [List.cons.injEq, and_true] at e0 e1
      subst e0 e1
      have b0 := bounds_i64 w0
      have b1 := bounds_i64 w1
      exact ⟨⟨n0, n1⟩, rfl, ⟨⟨b0.1, by have := b0.2; omega⟩, ⟨b1.1, by have := b1.2; omega⟩⟩, bulk_one _⟩
theorem sum_ones : ∀ (es : List GE), (es.map fun _ => 1).sum = es.length
  | [] => rfl
  | _ :: es => by simp only [List.map_cons, List.sum_cons, List.length_cons, sum_ones es]; omega
theorem arg_edges {H : Type} {enc : TypeId × Value → H} {W : World} {fuel : Nat} {c : Value} {x : DataW H × List MemPlace} (h : DataW.trod enc Tryz.prog W 0 (fun _ => true) true fuel 93 [c] = some x) :
    ∃ (ip : Option Addr) (ic : Nat) (es : List GE), c = .slice ip es.length ic ∧ ERow W ip ic es ∧ (∀ e ∈ es, e.fine) ∧ es.length + 1 ≤ Rows.uptoBulk x.1 := by
  obtain ⟨p, cap, es, h1, h2, h3, h4, h5, h6, _⟩ := arg_list (cells := GE.cells) (wt := fun _ => 1) (R := GE.fine) (by decide) Tryz.underlying93 Tryz.cellsEdge arg_edge h
  refine ⟨p, cap, es, h1, ⟨h2, h3, fun i hi => ?_⟩, h4, ?_⟩
  · obtain ⟨g, k, e, hc⟩ := h5 i hi
    exact ⟨g, k, e, hc 0 (by decide), hc 1 (by decide)⟩
  · rw [sum_ones] at h6
    exact h6
theorem arg_op {H : Type} {enc : TypeId × Value → H} {W : World} (fuel : Nat) (cs : List Value) (y : DataW H × List MemPlace) (hl : cs.length = 5) (h : DataW.trod enc Tryz.prog W 0 (fun _ => true) true fuel 95 cs = some y) :
    ∃ o : OV, cs = o.cells ∧ (o.ok W ∧ o.o.fine) ∧ o.o.wt ≤ Rows.uptoBulk y.1 := by
  match cs, hl with
  | [c0, c1, c2, c3, c4], _ =>
    obtain ⟨xs, m, _, hy, _, hxl, hfs⟩ := DataW.trod_struct Tryz.underlying95 h
    have hxl' : xs.length = 5 := hxl
    match xs, hxl' with
    | [y0, y1, y2, y3, y4], _ =>
      have g0 : DataW.trod enc Tryz.prog W 0 (fun _ => true) true m 3 (([c0, c1, c2, c3, c4].drop 0).take (Tryz.prog.cellsOf 3)) = [y0, y1, y2, y3, y4][0]? := hfs 0 _ rfl
      rw [Tryz.cellsInt] at g0
      replace g0 : DataW.trod enc Tryz.prog W 0 (fun _ => true) true m 3 [c0] = some y0 := g0
      have g1 : DataW.trod enc Tryz.prog W 0 (fun _ => true) true m 3 (([c0, c1, c2, c3, c4].drop 1).take (Tryz.prog.cellsOf 3)) = [y0, y1, y2, y3, y4][1]? := hfs 1 _ rfl
      rw [Tryz.cellsInt] at g1
      replace g1 : DataW.trod enc Tryz.prog W 0 (fun _ => true) true m 3 [c1] = some y1 := g1
      have g2 : DataW.trod enc Tryz.prog W 0 (fun _ => true) true m 3 (([c0, c1, c2, c3, c4].drop 2).take (Tryz.prog.cellsOf 3)) = [y0, y1, y2, y3, y4][2]? := hfs 2 _ rfl
      rw [Tryz.cellsInt] at g2
      replace g2 : DataW.trod enc Tryz.prog W 0 (fun _ => true) true m 3 [c2] = some y2 := g2
      have g3 : DataW.trod enc Tryz.prog W 0 (fun _ => true) true m 2 (([c0, c1, c2, c3, c4].drop 3).take (Tryz.prog.cellsOf 2)) = [y0, y1, y2, y3, y4][3]? := hfs 3 _ rfl
      rw [Tryz.cellsI64] at g3
      replace g3 : DataW.trod enc Tryz.prog W 0 (fun _ => true) true m 2 [c3] = some y3 := g3
      have g4 : DataW.trod enc Tryz.prog W 0 (fun _ => true) true m 93 (([c0, c1, c2, c3, c4].drop 4).take (Tryz.prog.cellsOf 93)) = [y0, y1, y2, y3, y4][4]? := hfs 4 _ rfl
      rw [Tryz.cellsEdges] at g4
      replace g4 : DataW.trod enc Tryz.prog W 0 (fun _ => true) true m 93 [c4] = some y4 := g4
      obtain ⟨n0, e0, _, w0⟩ := DataW.trod_int Tryz.underlying3 g0
      obtain ⟨n1, e1, _, w1⟩ := DataW.trod_int Tryz.underlying3 g1
      obtain ⟨n2, e2, _, w2⟩ := DataW.trod_int Tryz.underlying3 g2
      obtain ⟨n3, e3, _, w3⟩ := DataW.trod_int Tryz.underlying2 g3
      obtain ⟨ip, ic, es, e4, R, F, B⟩ := arg_edges g4
      simp only [List.cons.injEq, and_true] at e0 e1 e2 e3
      subst e0 e1 e2 e3 e4
      have b0 := bounds_i64 w0
      have b1 := bounds_i64 w1
      have b2 := bounds_i64 w2
      have b3 := bounds_i64 w3
      refine ⟨⟨⟨n0, n1, n2, n3, es⟩, ip, ic⟩, rfl, ⟨R, ⟨b0.1, by have := b0.2; omega⟩, ⟨b1.1, by have := b1.2; omega⟩, ⟨b2.1, by have := b2.2; omega⟩, ⟨b3.1, by have := b3.2; omega⟩, F⟩, ?_⟩
      rw [hy]
      have := bulk_one y0.1
      simp only [GO.wt, Rows.uptoBulk, Rows.uptoBulkAll, List.map_cons, List.map_nil]
      omega
theorem arg_graph {H : Type} {enc : TypeId × Value → H} {W : World} {fuel : Nat} {cs : Array Value} {x : DataW H × List MemPlace} (hs : cs.size = 2) (h : DataW.trod enc Tryz.prog W 0 (fun _ => true) true fuel 24 cs.toList = some x) :
    ∃ (parts : Int) (p : Option Addr) (cap : Nat) (os : List OV), cs = #[.int .i64 parts, .slice p os.length cap] ∧ I6 parts ∧ GRow W p cap os ∧ (∀ o ∈ os, o.o.fine) ∧ weightG (os.map OV.o) + 1 ≤ Rows.uptoBulk x.1 := by
  obtain ⟨cl⟩ := cs
  have hl : cl.length = 2 := by simpa using hs
  match cl, hl with
  | [c0, c1], _ =>
    obtain ⟨xs, m, _, hy, _, hxl, hfs⟩ := DataW.trod_struct Tryz.underlying24 h
    have hxl' : xs.length = 2 := hxl
    match xs, hxl' with
    | [y0, y1], _ =>
      have g0 : DataW.trod enc Tryz.prog W 0 (fun _ => true) true m 3 (([c0, c1].drop 0).take (Tryz.prog.cellsOf 3)) = [y0, y1][0]? := hfs 0 _ rfl
      rw [Tryz.cellsInt] at g0
      replace g0 : DataW.trod enc Tryz.prog W 0 (fun _ => true) true m 3 [c0] = some y0 := g0
      have g1 : DataW.trod enc Tryz.prog W 0 (fun _ => true) true m 22 (([c0, c1].drop 1).take (Tryz.prog.cellsOf 22)) = [y0, y1][1]? := hfs 1 _ rfl
      rw [Tryz.cellsOps] at g1
      replace g1 : DataW.trod enc Tryz.prog W 0 (fun _ => true) true m 22 [c1] = some y1 := g1
      obtain ⟨n0, e0, _, w0⟩ := DataW.trod_int Tryz.underlying3 g0
      obtain ⟨p, cap, os, h1, h2, h3, h4, h5, h6, _⟩ := arg_list (cells := OV.cells) (wt := fun o => o.o.wt) (R := fun o : OV => o.ok W ∧ o.o.fine) (by decide) Tryz.underlying22 Tryz.cellsOp arg_op g1
      simp only [List.cons.injEq, and_true] at e0
      subst e0 h1
      have b0 := bounds_i64 w0
      refine ⟨n0, p, cap, os, rfl, ⟨b0.1, by have := b0.2; omega⟩, ⟨h2, h3, h5, fun o ho => (h4 o ho).1⟩, fun o ho => (h4 o ho).2, ?_⟩
      rw [hy]
      have e : (os.map fun o => o.o.wt).sum = weightG (os.map OV.o) := by unfold weightG; rw [List.map_map]; rfl
      rw [e] at h6
      have := bulk_one y0.1
      simp only [Rows.uptoBulk, Rows.uptoBulkAll, List.map_cons, List.map_nil]
      omega
end Go.Proofs.YtlfipmieaabagaaGreat
