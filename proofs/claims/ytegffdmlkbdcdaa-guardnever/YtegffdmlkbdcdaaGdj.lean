/-
  Guards, lists of calls, lists of moves, as arguments. No conditions.
-/
import Derived.Test.YtegffdmlkbdcdaaGdh
import Derived.Test.YtegffdmlkbdcdaaArl
import Derived.Test.YtegffdmlkbdcdaaSeg
namespace Go.Proofs.Ytegffdmlkbdcdaa
open Go.ChangeShapes Go.WideShapes Go.ChangeAt Go.RowKit

theorem cell_laterL {w w' : World} {a : Addr} {v : Value} (hb : Below w.heap.size w w') (h : w.cell? a = some v) : w'.cell? a = some v := by
  rw [World.cell?_of_block (hb.block a.block ?_)]
  · exact h
  · obtain ⟨o, ho, _⟩ := cells_of_cell h
    exact (Array.getElem?_eq_some_iff.1 ho).1
/-- A list that lies there, element by element. -/
structure LRow {α : Type} [Inhabited α] (cells : α → List Value) (n : Nat) (W : World) (p : Option Addr) (cap : Nat) (os : List α) : Prop where
  le : os.length ≤ cap
  top : cap ≤ 9223372036854775807
  nil : p = none → cap = 0
  cell : ∀ i, i < os.length → ∃ g o, p = some ⟨g, o, none⟩ ∧ ∀ j, j < n → W.cell? ⟨g, o + i * n + j, none⟩ = (cells os[i]!)[j]?
theorem LRow.below {α : Type} [Inhabited α] {cells : α → List Value} {n : Nat} {W W' : World} {p : Option Addr} {cap : Nat} {os : List α} (hl : ∀ o, (cells o).length = n) (h : LRow cells n W p cap os) (hb : Below W.heap.size W W') : LRow cells n W' p cap os :=
  ⟨h.le, h.top, h.nil, fun i hi => by
    obtain ⟨g, o, e, h1⟩ := h.cell i hi
    refine ⟨g, o, e, fun j hj => ?_⟩
    have h2 := h1 j hj
    rw [List.getElem?_eq_getElem (by rw [hl]; exact hj)] at h2 ⊢
    exact cell_laterL hb h2⟩
def I6L (n : Int) : Prop := -9223372036854775808 ≤ n ∧ n ≤ 9223372036854775807
/-- A move. -/
structure MV where
  act : Int
  reg : Int
  n : Int
  which : Int
  twice : Bool
deriving DecidableEq
instance : Inhabited MV := ⟨⟨0, 0, 0, 0, false⟩⟩
def MV.cells (c : MV) : List Value := [.int .i64 c.act, .int .i64 c.reg, .int .i64 c.n, .int .i64 c.which, .bool c.twice]
def GE.cells (g : GE) : List Value := [.int .i64 g.ck, .int .i64 g.ep, .int .i64 g.un, .int .i64 g.se, .int .i64 g.ki, .int .i64 g.ak]
def GE.fine (l : GE) : Prop := I6L l.ck ∧ I6L l.ep ∧ I6L l.un ∧ I6L l.se ∧ I6L l.ki ∧ I6L l.ak
def CA.fine (a : CA) : Prop := I6L a.act ∧ I6L a.n ∧ I6L a.ser ∧ I6L a.ep
def MV.fine (a : MV) : Prop := I6L a.act ∧ I6L a.reg ∧ I6L a.n ∧ I6L a.which
theorem CA.len (a : CA) : a.cells.length = 5 := rfl
theorem MV.len (a : MV) : a.cells.length = 5 := rfl
theorem Try.cellsIntL : Try.prog.cellsOf 3 = 1 := by kernel_rfl
theorem Try.cellsI64L : Try.prog.cellsOf 2 = 1 := by kernel_rfl
theorem Try.cellsBoolL : Try.prog.cellsOf 4 = 1 := by kernel_rfl
theorem Try.cellsGuard : Try.prog.cellsOf 23 = 6 := by kernel_rfl
theorem Try.cellsCall : Try.prog.cellsOf 34 = 5 := by kernel_rfl
theorem Try.cellsMove : Try.prog.cellsOf 52 = 5 := by kernel_rfl
theorem arg_call {H : Type} {enc : TypeId × Value → H} {W : World} (fuel : Nat) (cs : List Value) (y : DataW H × List MemPlace) (hl : cs.length = 5) (h : DataW.trod enc Try.prog W 0 (fun _ => true) true fuel 34 cs = some y) :
    ∃ o : CA, cs = o.cells ∧ o.fine ∧ 1 ≤ Rows.uptoBulk y.1 := by
  match cs, hl with
  | [c0, c1, c2, c3, c4], _ =>
    obtain ⟨xs, m, _, _, _, hxl, hfs⟩ := DataW.trod_struct Try.underlying34 h
    have hxl' : xs.length = 5 := hxl
    match xs, hxl' with
    | [y0, y1, y2, y3, y4], _ =>
      have g0 : DataW.trod enc Try.prog W 0 (fun _ => true) true m 3 (([c0, c1, c2, c3, c4].drop 0).take (Try.prog.cellsOf 3)) = [y0, y1, y2, y3, y4][0]? := hfs 0 _ rfl
      rw [Try.cellsIntL] at g0
      replace g0 : DataW.trod enc Try.prog W 0 (fun _ => true) true m 3 [c0] = some y0 := g0
      have g1 : DataW.trod enc Try.prog W 0 (fun _ => true) true m 2 (([c0, c1, c2, c3, c4].drop 1).take (Try.prog.cellsOf 2)) = [y0, y1, y2, y3, y4][1]? := hfs 1 _ rfl
      rw [Try.cellsI64L] at g1
      replace g1 : DataW.trod enc Try.prog W 0 (fun _ => true) true m 2 [c1] = some y1 := g1
      have g2 : DataW.trod enc Try.prog W 0 (fun _ => true) true m 2 (([c0, c1, c2, c3, c4].drop 2).take (Try.prog.cellsOf 2)) = [y0, y1, y2, y3, y4][2]? := hfs 2 _ rfl
      rw [Try.cellsI64L] at g2
      replace g2 : DataW.trod enc Try.prog W 0 (fun _ => true) true m 2 [c2] = some y2 := g2
      have g3 : DataW.trod enc Try.prog W 0 (fun _ => true) true m 4 (([c0, c1, c2, c3, c4].drop 3).take (Try.prog.cellsOf 4)) = [y0, y1, y2, y3, y4][3]? := hfs 3 _ rfl
      rw [Try.cellsBoolL] at g3
      replace g3 : DataW.trod enc Try.prog W 0 (fun _ => true) true m 4 [c3] = some y3 := g3
      have g4 : DataW.trod enc Try.prog W 0 (fun _ => true) true m 2 (([c0, c1, c2, c3, c4].drop 4).take (Try.prog.cellsOf 2)) = [y0, y1, y2, y3, y4][4]? := hfs 4 _ rfl
      rw [Try.cellsI64L] at g4
      replace g4 : DataW.trod enc Try.prog W 0 (fun _ => true) true m 2 [c4] = some y4 := g4
      obtain ⟨n0, e0, _, w0⟩ := DataW.trod_int Try.underlying3 g0
      have b0 := bounds_i64 w0
      obtain ⟨n1, e1, _, w1⟩ := DataW.trod_int Try.underlying2 g1
      have b1 := bounds_i64 w1
      obtain ⟨n2, e2, _, w2⟩ := DataW.trod_int Try.underlying2 g2
      have b2 := bounds_i64 w2
      obtain ⟨n3, e3, _⟩ := DataW.trod_bool Try.underlying4 g3
      obtain ⟨n4, e4, _, w4⟩ := DataW.trod_int Try.underlying2 g4
      have b4 := bounds_i64 w4
      simp only [List.cons.injEq, and_true] at e0 e1 e2 e3 e4
      subst e0 e1 e2 e3 e4
      exact ⟨⟨n0, n1, n2, n3, n4⟩, rfl, ⟨b0, b1, b2, b4⟩, bulk_one _⟩
theorem arg_guard {H : Type} {enc : TypeId × Value → H} {W : World} (fuel : Nat) (cs : List Value) (y : DataW H × List MemPlace) (hl : cs.length = 6) (h : DataW.trod enc Try.prog W 0 (fun _ => true) true fuel 23 cs = some y) :
    ∃ o : GE, cs = o.cells ∧ o.fine ∧ 1 ≤ Rows.uptoBulk y.1 := by
  match cs, hl with
  | [c0, c1, c2, c3, c4, c5], _ =>
    obtain ⟨xs, m, _, _, _, hxl, hfs⟩ := DataW.trod_struct Try.underlying23 h
    have hxl' : xs.length = 6 := hxl
    match xs, hxl' with
    | [y0, y1, y2, y3, y4, y5], _ =>
      have g0 : DataW.trod enc Try.prog W 0 (fun _ => true) true m 2 (([c0, c1, c2, c3, c4, c5].drop 0).take (Try.prog.cellsOf 2)) = [y0, y1, y2, y3, y4, y5][0]? := hfs 0 _ rfl
      rw [Try.cellsI64L] at g0
      replace g0 : DataW.trod enc Try.prog W 0 (fun _ => true) true m 2 [c0] = some y0 := g0
      have g1 : DataW.trod enc Try.prog W 0 (fun _ => true) true m 2 (([c0, c1, c2, c3, c4, c5].drop 1).take (Try.prog.cellsOf 2)) = [y0, y1, y2, y3, y4, y5][1]? := hfs 1 _ rfl
      rw [Try.cellsI64L] at g1
      replace g1 : DataW.trod enc Try.prog W 0 (fun _ => true) true m 2 [c1] = some y1 := g1
      have g2 : DataW.trod enc Try.prog W 0 (fun _ => true) true m 2 (([c0, c1, c2, c3, c4, c5].drop 2).take (Try.prog.cellsOf 2)) = [y0, y1, y2, y3, y4, y5][2]? := hfs 2 _ rfl
      rw [Try.cellsI64L] at g2
      replace g2 : DataW.trod enc Try.prog W 0 (fun _ => true) true m 2 [c2] = some y2 := g2
      have g3 : DataW.trod enc Try.prog W 0 (fun _ => true) true m 2 (([c0, c1, c2, c3, c4, c5].drop 3).take (Try.prog.cellsOf 2)) = [y0, y1, y2, y3, y4, y5][3]? := hfs 3 _ rfl
      rw [Try.cellsI64L] at g3
      replace g3 : DataW.trod enc Try.prog W 0 (fun _ => true) true m 2 [c3] = some y3 := g3
      have g4 : DataW.trod enc Try.prog W 0 (fun _ => true) true m 3 (([c0, c1, c2, c3, c4, c5].drop 4).take (Try.prog.cellsOf 3)) = [y0, y1, y2, y3, y4, y5][4]? := hfs 4 _ rfl
      rw [Try.cellsIntL] at g4
      replace g4 : DataW.trod enc Try.prog W 0 (fun _ => true) true m 3 [c4] = some y4 := g4
      have g5 : DataW.trod enc Try.prog W 0 (fun _ => true) true m 2 (([c0, c1, c2, c3, c4, c5].drop 5).take (Try.prog.cellsOf 2)) = [y0, y1, y2, y3, y4, y5][5]? := hfs 5 _ rfl
      rw [Try.cellsI64L] at g5
      replace g5 : DataW.trod enc Try.prog W 0 (fun _ => true) true m 2 [c5] = some y5 := g5
      obtain ⟨n0, e0, _, w0⟩ := DataW.trod_int Try.underlying2 g0
      have b0 := bounds_i64 w0
      obtain ⟨n1, e1, _, w1⟩ := DataW.trod_int Try.underlying2 g1
      have b1 := bounds_i64 w1
      obtain ⟨n2, e2, _, w2⟩ := DataW.trod_int Try.underlying2 g2
      have b2 := bounds_i64 w2
      obtain ⟨n3, e3, _, w3⟩ := DataW.trod_int Try.underlying2 g3
      have b3 := bounds_i64 w3
      obtain ⟨n4, e4, _, w4⟩ := DataW.trod_int Try.underlying3 g4
      have b4 := bounds_i64 w4
      obtain ⟨n5, e5, _, w5⟩ := DataW.trod_int Try.underlying2 g5
      have b5 := bounds_i64 w5
      simp only [List.cons.injEq, and_true] at e0 e1 e2 e3 e4 e5
      subst e0 e1 e2 e3 e4 e5
      exact ⟨⟨n0, n1, n2, n3, n4, n5⟩, rfl, ⟨b0, b1, b2, b3, b4, b5⟩, bulk_one _⟩
theorem arg_move {H : Type} {enc : TypeId × Value → H} {W : World} (fuel : Nat) (cs : List Value) (y : DataW H × List MemPlace) (hl : cs.length = 5) (h : DataW.trod enc Try.prog W 0 (fun _ => true) true fuel 52 cs = some y) :
    ∃ o : MV, cs = o.cells ∧ o.fine ∧ 1 ≤ Rows.uptoBulk y.1 := by
  match cs, hl with
  | [c0, c1, c2, c3, c4], _ =>
    obtain ⟨xs, m, _, _, _, hxl, hfs⟩ := DataW.trod_struct Try.underlying52 h
    have hxl' : xs.length = 5 := hxl
    match xs, hxl' with
    | [y0, y1, y2, y3, y4], _ =>
      have g0 : DataW.trod enc Try.prog W 0 (fun _ => true) true m 3 (([c0, c1, c2, c3, c4].drop 0).take (Try.prog.cellsOf 3)) = [y0, y1, y2, y3, y4][0]? := hfs 0 _ rfl
      rw [Try.cellsIntL] at g0
      replace g0 : DataW.trod enc Try.prog W 0 (fun _ => true) true m 3 [c0] = some y0 := g0
      have g1 : DataW.trod enc Try.prog W 0 (fun _ => true) true m 3 (([c0, c1, c2, c3, c4].drop 1).take (Try.prog.cellsOf 3)) = [y0, y1, y2, y3, y4][1]? := hfs 1 _ rfl
      rw [Try.cellsIntL] at g1
      replace g1 : DataW.trod enc Try.prog W 0 (fun _ => true) true m 3 [c1] = some y1 := g1
      have g2 : DataW.trod enc Try.prog W 0 (fun _ => true) true m 3 (([c0, c1, c2, c3, c4].drop 2).take (Try.prog.cellsOf 3)) = [y0, y1, y2, y3, y4][2]? := hfs 2 _ rfl
      rw [Try.cellsIntL] at g2
      replace g2 : DataW.trod enc Try.prog W 0 (fun _ => true) true m 3 [c2] = some y2 := g2
      have g3 : DataW.trod enc Try.prog W 0 (fun _ => true) true m 3 (([c0, c1, c2, c3, c4].drop 3).take (Try.prog.cellsOf 3)) = [y0, y1, y2, y3, y4][3]? := hfs 3 _ rfl
      rw [Try.cellsIntL] at g3
      replace g3 : DataW.trod enc Try.prog W 0 (fun _ => true) true m 3 [c3] = some y3 := g3
      have g4 : DataW.trod enc Try.prog W 0 (fun _ => true) true m 4 (([c0, c1, c2, c3, c4].drop 4).take (Try.prog.cellsOf 4)) = [y0, y1, y2, y3, y4][4]? := hfs 4 _ rfl
      rw [Try.cellsBoolL] at g4
      replace g4 : DataW.trod enc Try.prog W 0 (fun _ => true) true m 4 [c4] = some y4 := g4
      obtain ⟨n0, e0, _, w0⟩ := DataW.trod_int Try.underlying3 g0
      have b0 := bounds_i64 w0
      obtain ⟨n1, e1, _, w1⟩ := DataW.trod_int Try.underlying3 g1
      have b1 := bounds_i64 w1
      obtain ⟨n2, e2, _, w2⟩ := DataW.trod_int Try.underlying3 g2
      have b2 := bounds_i64 w2
      obtain ⟨n3, e3, _, w3⟩ := DataW.trod_int Try.underlying3 g3
      have b3 := bounds_i64 w3
      obtain ⟨n4, e4, _⟩ := DataW.trod_bool Try.underlying4 g4
      simp only [List.cons.injEq, and_true] at e0 e1 e2 e3 e4
      subst e0 e1 e2 e3 e4
      exact ⟨⟨n0, n1, n2, n3, n4⟩, rfl, ⟨b0, b1, b2, b3⟩, bulk_one _⟩
theorem sum_onesCRow : ∀ (es : List CA), (es.map fun _ => 1).sum = es.length
  | [] => rfl
  | _ :: es => by simp only [List.map_cons, List.sum_cons, List.length_cons, sum_onesCRow es]; omega
abbrev CRow (W : World) (p : Option Addr) (cap : Nat) (os : List CA) : Prop := LRow CA.cells 5 W p cap os
theorem CRow.at {W : World} {p : Option Addr} {cap : Nat} {os : List CA} (h : CRow W p cap os) {i : Nat} (hi : i < os.length) {dd dn ds de : Int} {dw : Bool} (hx : os[i]! = ⟨dd, dn, ds, dw, de⟩) : ∃ g o, p = some ⟨g, o, none⟩ ∧ W.cell? ⟨g, o + i * 5, none⟩ = some (.int .i64 dd) ∧ W.cell? ⟨g, o + i * 5 + 1, none⟩ = some (.int .i64 dn) ∧ W.cell? ⟨g, o + i * 5 + 2, none⟩ = some (.int .i64 ds) ∧ W.cell? ⟨g, o + i * 5 + 3, none⟩ = some (.bool dw) ∧ W.cell? ⟨g, o + i * 5 + 4, none⟩ = some (.int .i64 de) := by
  obtain ⟨g, o, e, hc⟩ := h.cell i hi
  rw [hx] at hc
  exact ⟨g, o, e, hc 0 (by decide), hc 1 (by decide), hc 2 (by decide), hc 3 (by decide), hc 4 (by decide)⟩
theorem arg_CRow {H : Type} {enc : TypeId × Value → H} {W : World} {fuel : Nat} {c : Value} {x : DataW H × List MemPlace} (h : DataW.trod enc Try.prog W 0 (fun _ => true) true fuel 24 [c] = some x) :
    ∃ (p : Option Addr) (cap : Nat) (es : List CA), c = .slice p es.length cap ∧ CRow W p cap es ∧ (∀ e ∈ es, e.fine) ∧ es.length + 1 ≤ Rows.uptoBulk x.1 ∧ DatumOf x.1 es.length cap := by
  obtain ⟨p, cap, es, h1, h2, h3, h4, h5, h6, h7, h8⟩ := arg_list (cells := CA.cells) (wt := fun _ => 1) (R := CA.fine) (by decide) Try.underlying24 Try.cellsCall arg_call h
  rw [sum_onesCRow] at h6
  exact ⟨p, cap, es, h1, ⟨h2, h3, h7, h5⟩, h4, h6, h8⟩
theorem sum_onesMRow : ∀ (es : List MV), (es.map fun _ => 1).sum = es.length
  | [] => rfl
  | _ :: es => by simp only [List.map_cons, List.sum_cons, List.length_cons, sum_onesMRow es]; omega
abbrev MRow (W : World) (p : Option Addr) (cap : Nat) (os : List MV) : Prop := LRow MV.cells 5 W p cap os
theorem MRow.at {W : World} {p : Option Addr} {cap : Nat} {os : List MV} (h : MRow W p cap os) {i : Nat} (hi : i < os.length) {dd dr dn dw : Int} {dt : Bool} (hx : os[i]! = ⟨dd, dr, dn, dw, dt⟩) : ∃ g o, p = some ⟨g, o, none⟩ ∧ W.cell? ⟨g, o + i * 5, none⟩ = some (.int .i64 dd) ∧ W.cell? ⟨g, o + i * 5 + 1, none⟩ = some (.int .i64 dr) ∧ W.cell? ⟨g, o + i * 5 + 2, none⟩ = some (.int .i64 dn) ∧ W.cell? ⟨g, o + i * 5 + 3, none⟩ = some (.int .i64 dw) ∧ W.cell? ⟨g, o + i * 5 + 4, none⟩ = some (.bool dt) := by
  obtain ⟨g, o, e, hc⟩ := h.cell i hi
  rw [hx] at hc
  exact ⟨g, o, e, hc 0 (by decide), hc 1 (by decide), hc 2 (by decide), hc 3 (by decide), hc 4 (by decide)⟩
theorem arg_MRow {H : Type} {enc : TypeId × Value → H} {W : World} {fuel : Nat} {c : Value} {x : DataW H × List MemPlace} (h : DataW.trod enc Try.prog W 0 (fun _ => true) true fuel 36 [c] = some x) :
    ∃ (p : Option Addr) (cap : Nat) (es : List MV), c = .slice p es.length cap ∧ MRow W p cap es ∧ (∀ e ∈ es, e.fine) ∧ es.length + 1 ≤ Rows.uptoBulk x.1 ∧ DatumOf x.1 es.length cap := by
  obtain ⟨p, cap, es, h1, h2, h3, h4, h5, h6, h7, h8⟩ := arg_list (cells := MV.cells) (wt := fun _ => 1) (R := MV.fine) (by decide) Try.underlying36 Try.cellsMove arg_move h
  rw [sum_onesMRow] at h6
  exact ⟨p, cap, es, h1, ⟨h2, h3, h7, h5⟩, h4, h6, h8⟩
theorem alloc_boxG {B : Nat} {W w : World} (h : Below B W w) (hB : B ≤ w.heap.size) (o : Obj) : Below B W (w.alloc o) ∧ (w.alloc o).heap[w.heap.size]? = some o ∧ Below w.heap.size w (w.alloc o) :=
  ⟨below_next h (alloc_below w o) hB, heap_alloc_new w o, alloc_below w o⟩
end Go.Proofs.Ytegffdmlkbdcdaa
