/-
  How arguments of package oper's statements are opened: an operator, a list of records. No condition.
-/
import Derived.Test.YtcabfohmimglpaaArl
import Derived.Test.YtcabfohmimglpaaOeo
namespace Go.Proofs.Ytcabfohmimglpaa
open Go.ChangeShapes Go.WideShapes Go.ChangeAt Go.RowKit

theorem Try.cellsOp : Try.prog.cellsOf 24 = 5 := by kernel_rfl
theorem Try.cellsInt : Try.prog.cellsOf 3 = 1 := by kernel_rfl
theorem Try.cellsI64 : Try.prog.cellsOf 2 = 1 := by kernel_rfl
theorem Try.cellsEdges : Try.prog.cellsOf 22 = 1 := by kernel_rfl
theorem Try.cellsRec : Try.prog.cellsOf 39 = 2 := by kernel_rfl
def RC.fine (x : RC) : Prop := I6 x.key ∧ I6 x.val

theorem arg_op {H : Type} {enc : TypeId × Value → H} {W : World} {fuel : Nat} {cs : Array Value} {y : DataW H × List MemPlace} (hs : cs.size = 5) (h : DataW.trod enc Try.prog W 0 (fun _ => true) true fuel 24 cs.toList = some y) :
    ∃ (kd pt fn ar : Int) (ip : Option Addr) (n ic : Nat), cs = #[.int .i64 kd, .int .i64 pt, .int .i64 fn, .int .i64 ar, .slice ip n ic] ∧ I6 kd ∧ I6 pt ∧ I6 fn ∧ I6 ar := by
  obtain ⟨cl⟩ := cs
  have hl : cl.length = 5 := by simpa using hs
  match cl, hl with
  | [c0, c1, c2, c3, c4], _ =>
    obtain ⟨xs, m, _, hy, _, hxl, hfs⟩ := DataW.trod_struct Try.underlying24 h
    have hxl' : xs.length = 5 := hxl
    match xs, hxl' with
    | [y0, y1, y2, y3, y4], _ =>
      have g0 : DataW.trod enc Try.prog W 0 (fun _ => true) true m 3 (([c0, c1, c2, c3, c4].drop 0).take (Try.prog.cellsOf 3)) = [y0, y1, y2, y3, y4][0]? := hfs 0 _ rfl
      rw [Try.cellsInt] at g0
      replace g0 : DataW.trod enc Try.prog W 0 (fun _ => true) true m 3 [c0] = some y0 := g0
      have g1 : DataW.trod enc Try.prog W 0 (fun _ => true) true m 3 (([c0, c1, c2, c3, c4].drop 1).take (Try.prog.cellsOf 3)) = [y0, y1, y2, y3, y4][1]? := hfs 1 _ rfl
      rw [Try.cellsInt] at g1
      replace g1 : DataW.trod enc Try.prog W 0 (fun _ => true) true m 3 [c1] = some y1 := g1
      have g2 : DataW.trod enc Try.prog W 0 (fun _ => true) true m 3 (([c0, c1, c2, c3, c4].drop 2).take (Try.prog.cellsOf 3)) = [y0, y1, y2, y3, y4][2]? := hfs 2 _ rfl
      rw [Try.cellsInt] at g2
      replace g2 : DataW.trod enc Try.prog W 0 (fun _ => true) true m 3 [c2] = some y2 := g2
      have g3 : DataW.trod enc Try.prog W 0 (fun _ => true) true m 2 (([c0, c1, c2, c3, c4].drop 3).take (Try.prog.cellsOf 2)) = [y0, y1, y2, y3, y4][3]? := hfs 3 _ rfl
      rw [Try.cellsI64] at g3
      replace g3 : DataW.trod enc Try.prog W 0 (fun _ => true) true m 2 [c3] = some y3 := g3
      have g4 : DataW.trod enc Try.prog W 0 (fun _ => true) true m 22 (([c0, c1, c2, c3, c4].drop 4).take (Try.prog.cellsOf 22)) = [y0, y1, y2, y3, y4][4]? := hfs 4 _ rfl
      rw [Try.cellsEdges] at g4
      replace g4 : DataW.trod enc Try.prog W 0 (fun _ => true) true m 22 [c4] = some y4 := g4
      obtain ⟨n0, e0, _, w0⟩ := DataW.trod_int Try.underlying3 g0
      obtain ⟨n1, e1, _, w1⟩ := DataW.trod_int Try.underlying3 g1
      obtain ⟨n2, e2, _, w2⟩ := DataW.trod_int Try.underlying3 g2
      obtain ⟨n3, e3, _, w3⟩ := DataW.trod_int Try.underlying2 g3
      simp only [List.cons.injEq, and_true] at e0 e1 e2 e3
      subst e0 e1 e2 e3
      have b0 := bounds_i64 w0
      have b1 := bounds_i64 w1
      have b2 := bounds_i64 w2
      have b3 := bounds_i64 w3
      obtain ⟨ip, n, ic, e4⟩ : ∃ (ip : Option Addr) (n ic : Nat), c4 = .slice ip n ic := by
        rcases DataW.trod_slice Try.underlying22 g4 with ⟨h0, _⟩ | ⟨a, len, cap, elems, rest, m, _, h0, _⟩
        · simp at h0
          exact ⟨_, _, _, h0⟩
        · simp at h0
          exact ⟨_, _, _, h0⟩
      subst e4
      exact ⟨n0, n1, n2, n3, ip, n, ic, rfl, ⟨b0.1, by have := b0.2; omega⟩, ⟨b1.1, by have := b1.2; omega⟩, ⟨b2.1, by have := b2.2; omega⟩, ⟨b3.1, by have := b3.2; omega⟩⟩
theorem arg_rec {H : Type} {enc : TypeId × Value → H} {W : World} (fuel : Nat) (cs : List Value) (y : DataW H × List MemPlace) (hl : cs.length = 2) (h : DataW.trod enc Try.prog W 0 (fun _ => true) true fuel 39 cs = some y) :
    ∃ o : RC, cs = o.cells ∧ o.fine ∧ 1 ≤ Rows.uptoBulk y.1 := by
  match cs, hl with
  | [c0, c1], _ =>
    obtain ⟨xs, m, _, _, _, hxl, hfs⟩ := DataW.trod_struct Try.underlying39 h
    have hxl' : xs.length = 2 := hxl
    match xs, hxl' with
    | [y0, y1], _ =>
      have g0 : DataW.trod enc Try.prog W 0 (fun _ => true) true m 2 (([c0, c1].drop 0).take (Try.prog.cellsOf 2)) = [y0, y1][0]? := hfs 0 _ rfl
      rw [Try.cellsI64] at g0
      replace g0 : DataW.trod enc Try.prog W 0 (fun _ => true) true m 2 [c0] = some y0 := g0
      have g1 : DataW.trod enc Try.prog W 0 (fun _ => true) true m 2 (([c0, c1].drop 1).take (Try.prog.cellsOf 2)) = [y0, y1][1]? := hfs 1 _ rfl
      rw [Try.cellsI64] at g1
      replace g1 : DataW.trod enc Try.prog W 0 (fun _ => true) true m 2 [c1] = some y1 := g1
      obtain ⟨n0, e0, _, w0⟩ := DataW.trod_int Try.underlying2 g0
      obtain ⟨n1, e1, _, w1⟩ := DataW.trod_int Try.underlying2 g1
      simp only [List.cons.injEq, and_true] at e0 e1
      subst e0 e1
      have b0 := bounds_i64 w0
      have b1 := bounds_i64 w1
      exact ⟨⟨n0, n1⟩, rfl, ⟨⟨b0.1, by have := b0.2; omega⟩, ⟨b1.1, by have := b1.2; omega⟩⟩, bulk_one _⟩
theorem sum_onesR : ∀ (es : List RC), (es.map fun _ => 1).sum = es.length
  | [] => rfl
  | _ :: es => by simp only [List.map_cons, List.sum_cons, List.length_cons, sum_onesR es]; omega
theorem arg_recs {H : Type} {enc : TypeId × Value → H} {W : World} {fuel : Nat} {c : Value} {x : DataW H × List MemPlace} (h : DataW.trod enc Try.prog W 0 (fun _ => true) true fuel 25 [c] = some x) :
    ∃ (p : Option Addr) (cap : Nat) (es : List RC), c = .slice p es.length cap ∧ RRow W p cap es ∧ (∀ e ∈ es, e.fine) ∧ es.length + 1 ≤ Rows.uptoBulk x.1 := by
  obtain ⟨p, cap, es, h1, h2, h3, h4, h5, h6, h7, _⟩ := arg_list (cells := RC.cells) (wt := fun _ => 1) (R := RC.fine) (by decide) Try.underlying25 Try.cellsRec arg_rec h
  rw [sum_onesR] at h6
  exact ⟨p, cap, es, h1, ⟨h2, h3, h5⟩, h4, h6⟩
end Go.Proofs.Ytcabfohmimglpaa
