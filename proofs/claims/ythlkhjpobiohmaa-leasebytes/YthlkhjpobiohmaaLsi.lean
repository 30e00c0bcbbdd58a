/-
  Leases, and lists of what is asked, as arguments. No conditions.
-/
import Derived.Test.YthlkhjpobiohmaaLsh
import Derived.Test.YthlkhjpobiohmaaArl
import Derived.Test.YthlkhjpobiohmaaSeg
namespace Go.Proofs.Ythlkhjpobiohmaa
open Go.ChangeShapes Go.WideShapes Go.ChangeAt Go.RowKit

theorem cell_laterL {w w' : World} {a : Addr} {v : Value} (hb : Below w.heap.size w w') (h : w.cell? a = some v) : w'.cell? a = some v := by
  rw [World.cell?_of_block (hb.block a.block ?_)]
  · exact h
  · obtain ⟨o, ho, _⟩ := cells_of_cell h
    exact (Array.getElem?_eq_some_iff.1 ho).1
/-- A list that lies there, element by element. -/
structure LRow {α : Type} [Inhabited α] (cells : α → List Value) (n : Nat) (W : World) (p : Option Addr) (cap : Nat) (os : List α) : Prop where
  le : os.length ≤ cap
  top : cap ≤ 9223372036854775807
  nil : p = none → cap = 0
  cell : ∀ i, i < os.length → ∃ g o, p = some ⟨g, o, none⟩ ∧ ∀ j, j < n → W.cell? ⟨g, o + i * n + j, none⟩ = (cells os[i]!)[j]?
theorem LRow.below {α : Type} [Inhabited α] {cells : α → List Value} {n : Nat} {W W' : World} {p : Option Addr} {cap : Nat} {os : List α} (hl : ∀ o, (cells o).length = n) (h : LRow cells n W p cap os) (hb : Below W.heap.size W W') : LRow cells n W' p cap os :=
  ⟨h.le, h.top, h.nil, fun i hi => by
    obtain ⟨g, o, e, h1⟩ := h.cell i hi
    refine ⟨g, o, e, fun j hj => ?_⟩
    have h2 := h1 j hj
    rw [List.getElem?_eq_getElem (by rw [hl]; exact hj)] at h2 ⊢
    exact cell_laterL hb h2⟩
def I6L (n : Int) : Prop := -9223372036854775808 ≤ n ∧ n ≤ 9223372036854775807
def LE.cells (l : LE) : List Value := [.int .i64 l.own, .int .i64 l.last, .int .i64 l.ep, .int .i64 l.clk, .int .i64 l.til, .bool l.solo]
def LE.fine (l : LE) : Prop := I6L l.own ∧ I6L l.last ∧ I6L l.ep ∧ I6L l.clk ∧ I6L l.til
def AK.fine (a : AK) : Prop := I6L a.act ∧ I6L a.reg ∧ I6L a.ep ∧ I6L a.dst ∧ I6L a.n
theorem AK.len (a : AK) : a.cells.length = 7 := rfl
theorem Try.cellsIntL : Try.prog.cellsOf 3 = 1 := by kernel_rfl
theorem Try.cellsI64L : Try.prog.cellsOf 2 = 1 := by kernel_rfl
theorem Try.cellsBoolL : Try.prog.cellsOf 4 = 1 := by kernel_rfl
theorem Try.cellsLease : Try.prog.cellsOf 23 = 6 := by kernel_rfl
theorem Try.cellsAsk : Try.prog.cellsOf 27 = 7 := by kernel_rfl
theorem arg_ask {H : Type} {enc : TypeId × Value → H} {W : World} (fuel : Nat) (cs : List Value) (y : DataW H × List MemPlace) (hl : cs.length = 7) (h : DataW.trod enc Try.prog W 0 (fun _ => true) true fuel 27 cs = some y) :
    ∃ o : AK, cs = o.cells ∧ o.fine ∧ 1 ≤ Rows.uptoBulk y.1 := by
  match cs, hl with
  | [c0, c1, c2, c3, c4, c5, c6], _ =>
    obtain ⟨xs, m, _, _, _, hxl, hfs⟩ := DataW.trod_struct Try.underlying27 h
    have hxl' : xs.length = 7 := hxl
    match xs, hxl' with
    | [y0, y1, y2, y3, y4, y5, y6], _ =>
      have g0 : DataW.trod enc Try.prog W 0 (fun _ => true) true m 3 (([c0, c1, c2, c3, c4, c5, c6].drop 0).take (Try.prog.cellsOf 3)) = [y0, y1, y2, y3, y4, y5, y6][0]? := hfs 0 _ rfl
      rw [Try.cellsIntL] at g0
      replace g0 : DataW.trod enc Try.prog W 0 (fun _ => true) true m 3 [c0] = some y0 := g0
      have g1 : DataW.trod enc Try.prog W 0 (fun _ => true) true m 3 (([c0, c1, c2, c3, c4, c5, c6].drop 1).take (Try.prog.cellsOf 3)) = [y0, y1, y2, y3, y4, y5, y6][1]? := hfs 1 _ rfl
      rw [Try.cellsIntL] at g1
      replace g1 : DataW.trod enc Try.prog W 0 (fun _ => true) true m 3 [c1] = some y1 := g1
      have g2 : DataW.trod enc Try.prog W 0 (fun _ => true) true m 2 (([c0, c1, c2, c3, c4, c5, c6].drop 2).take (Try.prog.cellsOf 2)) = [y0, y1, y2, y3, y4, y5, y6][2]? := hfs 2 _ rfl
      rw [Try.cellsI64L] at g2
      replace g2 : DataW.trod enc Try.prog W 0 (fun _ => true) true m 2 [c2] = some y2 := g2
      have g3 : DataW.trod enc Try.prog W 0 (fun _ => true) true m 4 (([c0, c1, c2, c3, c4, c5, c6].drop 3).take (Try.prog.cellsOf 4)) = [y0, y1, y2, y3, y4, y5, y6][3]? := hfs 3 _ rfl
      rw [Try.cellsBoolL] at g3
      replace g3 : DataW.trod enc Try.prog W 0 (fun _ => true) true m 4 [c3] = some y3 := g3
      have g4 : DataW.trod enc Try.prog W 0 (fun _ => true) true m 3 (([c0, c1, c2, c3, c4, c5, c6].drop 4).take (Try.prog.cellsOf 3)) = [y0, y1, y2, y3, y4, y5, y6][4]? := hfs 4 _ rfl
      rw [Try.cellsIntL] at g4
      replace g4 : DataW.trod enc Try.prog W 0 (fun _ => true) true m 3 [c4] = some y4 := g4
      have g5 : DataW.trod enc Try.prog W 0 (fun _ => true) true m 2 (([c0, c1, c2, c3, c4, c5, c6].drop 5).take (Try.prog.cellsOf 2)) = [y0, y1, y2, y3, y4, y5, y6][5]? := hfs 5 _ rfl
      rw [Try.cellsI64L] at g5
      replace g5 : DataW.trod enc Try.prog W 0 (fun _ => true) true m 2 [c5] = some y5 := g5
      have g6 : DataW.trod enc Try.prog W 0 (fun _ => true) true m 4 (([c0, c1, c2, c3, c4, c5, c6].drop 6).take (Try.prog.cellsOf 4)) = [y0, y1, y2, y3, y4, y5, y6][6]? := hfs 6 _ rfl
      rw [Try.cellsBoolL] at g6
      replace g6 : DataW.trod enc Try.prog W 0 (fun _ => true) true m 4 [c6] = some y6 := g6
      obtain ⟨n0, e0, _, w0⟩ := DataW.trod_int Try.underlying3 g0
      have b0 := bounds_i64 w0
      obtain ⟨n1, e1, _, w1⟩ := DataW.trod_int Try.underlying3 g1
      have b1 := bounds_i64 w1
      obtain ⟨n2, e2, _, w2⟩ := DataW.trod_int Try.underlying2 g2
      have b2 := bounds_i64 w2
      obtain ⟨n3, e3, _⟩ := DataW.trod_bool Try.underlying4 g3
      obtain ⟨n4, e4, _, w4⟩ := DataW.trod_int Try.underlying3 g4
      have b4 := bounds_i64 w4
      obtain ⟨n5, e5, _, w5⟩ := DataW.trod_int Try.underlying2 g5
      have b5 := bounds_i64 w5
      obtain ⟨n6, e6, _⟩ := DataW.trod_bool Try.underlying4 g6
      simp only [List.cons.injEq, and_true] at e0 e1 e2 e3 e4 e5 e6
      subst e0 e1 e2 e3 e4 e5 e6
      exact ⟨⟨n0, n1, n2, n3, n4, n5, n6⟩, rfl, ⟨b0, b1, b2, b4, b5⟩, bulk_one _⟩
theorem arg_lease {H : Type} {enc : TypeId × Value → H} {W : World} (fuel : Nat) (cs : List Value) (y : DataW H × List MemPlace) (hl : cs.length = 6) (h : DataW.trod enc Try.prog W 0 (fun _ => true) true fuel 23 cs = some y) :
    ∃ o : LE, cs = o.cells ∧ o.fine ∧ 1 ≤ Rows.uptoBulk y.1 := by
  match cs, hl with
  | [c0, c1, c2, c3, c4, c5], _ =>
    obtain ⟨xs, m, _, _, _, hxl, hfs⟩ := DataW.trod_struct Try.underlying23 h
    have hxl' : xs.length = 6 := hxl
    match xs, hxl' with
    | [y0, y1, y2, y3, y4, y5], _ =>
      have g0 : DataW.trod enc Try.prog W 0 (fun _ => true) true m 3 (([c0, c1, c2, c3, c4, c5].drop 0).take (Try.prog.cellsOf 3)) = [y0, y1, y2, y3, y4, y5][0]? := hfs 0 _ rfl
      rw [Try.cellsIntL] at g0
      replace g0 : DataW.trod enc Try.prog W 0 (fun _ => true) true m 3 [c0] = some y0 := g0
      have g1 : DataW.trod enc Try.prog W 0 (fun _ => true) true m 3 (([c0, c1, c2, c3, c4, c5].drop 1).take (Try.prog.cellsOf 3)) = [y0, y1, y2, y3, y4, y5][1]? := hfs 1 _ rfl
      rw [Try.cellsIntL] at g1
      replace g1 : DataW.trod enc Try.prog W 0 (fun _ => true) true m 3 [c1] = some y1 := g1
      have g2 : DataW.trod enc Try.prog W 0 (fun _ => true) true m 2 (([c0, c1, c2, c3, c4, c5].drop 2).take (Try.prog.cellsOf 2)) = [y0, y1, y2, y3, y4, y5][2]? := hfs 2 _ rfl
      rw [Try.cellsI64L] at g2
      replace g2 : DataW.trod enc Try.prog W 0 (fun _ => true) true m 2 [c2] = some y2 := g2
      have g3 : DataW.trod enc Try.prog W 0 (fun _ => true) true m 2 (([c0, c1, c2, c3, c4, c5].drop 3).take (Try.prog.cellsOf 2)) = [y0, y1, y2, y3, y4, y5][3]? := hfs 3 _ rfl
      rw [Try.cellsI64L] at g3
      replace g3 : DataW.trod enc Try.prog W 0 (fun _ => true) true m 2 [c3] = some y3 := g3
      have g4 : DataW.trod enc Try.prog W 0 (fun _ => true) true m 2 (([c0, c1, c2, c3, c4, c5].drop 4).take (Try.prog.cellsOf 2)) = [y0, y1, y2, y3, y4, y5][4]? := hfs 4 _ rfl
      rw [Try.cellsI64L] at g4
      replace g4 : DataW.trod enc Try.prog W 0 (fun _ => true) true m 2 [c4] = some y4 := g4
      have g5 : DataW.trod enc Try.prog W 0 (fun _ => true) true m 4 (([c0, c1, c2, c3, c4, c5].drop 5).take (Try.prog.cellsOf 4)) = [y0, y1, y2, y3, y4, y5][5]? := hfs 5 _ rfl
      rw [Try.cellsBoolL] at g5
      replace g5 : DataW.trod enc Try.prog W 0 (fun _ => true) true m 4 [c5] = some y5 := g5
      obtain ⟨n0, e0, _, w0⟩ := DataW.trod_int Try.underlying3 g0
      have b0 := bounds_i64 w0
      obtain ⟨n1, e1, _, w1⟩ := DataW.trod_int Try.underlying3 g1
      have b1 := bounds_i64 w1
      obtain ⟨n2, e2, _, w2⟩ := DataW.trod_int Try.underlying2 g2
      have b2 := bounds_i64 w2
      obtain ⟨n3, e3, _, w3⟩ := DataW.trod_int Try.underlying2 g3
      have b3 := bounds_i64 w3
      obtain ⟨n4, e4, _, w4⟩ := DataW.trod_int Try.underlying2 g4
      have b4 := bounds_i64 w4
      obtain ⟨n5, e5, _⟩ := DataW.trod_bool Try.underlying4 g5
      simp only [List.cons.injEq, and_true] at e0 e1 e2 e3 e4 e5
      subst e0 e1 e2 e3 e4 e5
      exact ⟨⟨n0, n1, n2, n3, n4, n5⟩, rfl, ⟨b0, b1, b2, b3, b4⟩, bulk_one _⟩
theorem sum_onesA : ∀ (es : List AK), (es.map fun _ => 1).sum = es.length
  | [] => rfl
  | _ :: es => by simp only [List.map_cons, List.sum_cons, List.length_cons, sum_onesA es]; omega
abbrev ARow (W : World) (p : Option Addr) (cap : Nat) (os : List AK) : Prop := LRow AK.cells 7 W p cap os
theorem ARow.at {W : World} {p : Option Addr} {cap : Nat} {os : List AK} (h : ARow W p cap os) {i : Nat} (hi : i < os.length) {dd dr de dt dn : Int} {dw ds : Bool} (hx : os[i]! = ⟨dd, dr, de, dw, dt, dn, ds⟩) : ∃ g o, p = some ⟨g, o, none⟩ ∧ W.cell? ⟨g, o + i * 7, none⟩ = some (.int .i64 dd) ∧ W.cell? ⟨g, o + i * 7 + 1, none⟩ = some (.int .i64 dr) ∧ W.cell? ⟨g, o + i * 7 + 2, none⟩ = some (.int .i64 de) ∧ W.cell? ⟨g, o + i * 7 + 3, none⟩ = some (.bool dw) ∧ W.cell? ⟨g, o + i * 7 + 4, none⟩ = some (.int .i64 dt) ∧ W.cell? ⟨g, o + i * 7 + 5, none⟩ = some (.int .i64 dn) ∧ W.cell? ⟨g, o + i * 7 + 6, none⟩ = some (.bool ds) := by
  obtain ⟨g, o, e, hc⟩ := h.cell i hi
  rw [hx] at hc
  exact ⟨g, o, e, hc 0 (by decide), hc 1 (by decide), hc 2 (by decide), hc 3 (by decide), hc 4 (by decide), hc 5 (by decide), hc 6 (by decide)⟩
theorem arg_asks {H : Type} {enc : TypeId × Value → H} {W : World} {fuel : Nat} {c : Value} {x : DataW H × List MemPlace} (h : DataW.trod enc Try.prog W 0 (fun _ => true) true fuel 24 [c] = some x) :
    ∃ (p : Option Addr) (cap : Nat) (es : List AK), c = .slice p es.length cap ∧ ARow W p cap es ∧ (∀ e ∈ es, e.fine) ∧ es.length + 1 ≤ Rows.uptoBulk x.1 ∧ DatumOf x.1 es.length cap := by
  obtain ⟨p, cap, es, h1, h2, h3, h4, h5, h6, h7, h8⟩ := arg_list (cells := AK.cells) (wt := fun _ => 1) (R := AK.fine) (by decide) Try.underlying24 Try.cellsAsk arg_ask h
  rw [sum_onesA] at h6
  exact ⟨p, cap, es, h1, ⟨h2, h3, h7, h5⟩, h4, h6, h8⟩
end Go.Proofs.Ythlkhjpobiohmaa
