/-
  Events and records, plainly and as they lie in memory; how arguments of them are opened. No conditions.
-/
import Derived.Test.YtmmdgffgnpnmeaaSeg
import Derived.Test.YtmmdgffgnpnmeaaArl
import Derived.Laws.Rows
namespace Go.Proofs.Ytmmdgffgnpnmeaa
open Go.ChangeShapes Go.WideShapes Go.ChangeAt Go.RowKit

structure RC where
  key : Int
  val : Int
  deriving DecidableEq
structure EV where
  kind : Int
  key : Int
  val : Int
  id : Int
  deriving DecidableEq
instance : Inhabited RC := ⟨⟨0, 0⟩⟩
instance : Inhabited EV := ⟨⟨0, 0, 0, 0⟩⟩
def RC.cells (x : RC) : List Value := [.int .i64 x.key, .int .i64 x.val]
def EV.cells (x : EV) : List Value := [.int .i64 x.kind, .int .i64 x.key, .int .i64 x.val, .int .i64 x.id]
def EV.rc (x : EV) : RC := ⟨x.key, x.val⟩
def I6 (n : Int) : Prop := -9223372036854775808 ≤ n ∧ n ≤ 9223372036854775807
def RC.fine (x : RC) : Prop := I6 x.key ∧ I6 x.val
def EV.fine (x : EV) : Prop := I6 x.kind ∧ I6 x.key ∧ I6 x.val ∧ I6 x.id
theorem RC.len (x : RC) : x.cells.length = 2 := rfl
theorem EV.len (x : EV) : x.cells.length = 4 := rfl
theorem RC.one (x : RC) : ∀ u ∈ x.cells, u.oneCell' = true := by
  intro u hu
  simp only [RC.cells, List.mem_cons, List.not_mem_nil, or_false] at hu
  rcases hu with rfl | rfl <;> rfl
theorem EV.one (x : EV) : ∀ u ∈ x.cells, u.oneCell' = true := by
  intro u hu
  simp only [EV.cells, List.mem_cons, List.not_mem_nil, or_false] at hu
  rcases hu with rfl | rfl | rfl | rfl <;> rfl
/-- A list of things of n cells each, as it lies. -/
structure LRow {α : Type} [Inhabited α] (cells : α → List Value) (n : Nat) (W : World) (p : Option Addr) (cap : Nat) (os : List α) : Prop where
  le : os.length ≤ cap
  top : cap ≤ 9223372036854775807
  nil : p = none → cap = 0
  cell : ∀ i, i < os.length → ∃ g o, p = some ⟨g, o, none⟩ ∧ ∀ j, j < n → W.cell? ⟨g, o + i * n + j, none⟩ = (cells os[i]!)[j]?
theorem LRow.below {α : Type} [Inhabited α] {cells : α → List Value} {n : Nat} {W W' : World} {p : Option Addr} {cap : Nat} {os : List α} (hl : ∀ o, (cells o).length = n) (h : LRow cells n W p cap os) (hb : Below W.heap.size W W') : LRow cells n W' p cap os :=
  ⟨h.le, h.top, h.nil, fun i hi => by
    obtain ⟨g, o, e, h1⟩ := h.cell i hi
    refine ⟨g, o, e, fun j hj => ?_⟩
    have h2 := h1 j hj
    rw [List.getElem?_eq_getElem (by rw [hl]; exact hj)] at h2 ⊢
    exact cell_later hb h2⟩
theorem LRow.of_own {α : Type} [Inhabited α] {cells : α → List Value} {size : Nat} {W : World} {base n cap : Nat} {e : TypeId} {p : Option Addr} {os : List α} (hl : ∀ o, (cells o).length = size) (hn : os.length = n) (h : W.ownsRow base e size (.slice p n cap) n (os.flatMap cells)) : LRow cells size W p cap os := by
  obtain ⟨h1, h2, h3, h4⟩ := own_list (cells := cells) (fun o _ => hl o) hn h
  exact ⟨by omega, h2, h3, h4⟩
theorem LRow.seg {α : Type} [Inhabited α] {cells : α → List Value} {size : Nat} {W : World} {p : Option Addr} {cap : Nat} {os : List α} (hs : 0 < size) (hl : ∀ o, (cells o).length = size) (h1 : ∀ o, ∀ u ∈ cells o, u.oneCell' = true) (h : LRow cells size W p cap os) : Seg W size (.slice p os.length cap) os.length (os.flatMap cells) :=
  Seg.of_list hs (fun o _ => hl o) (fun o _ => h1 o) h.le h.top h.nil h.cell
abbrev ERow (W : World) (p : Option Addr) (cap : Nat) (os : List EV) : Prop := LRow EV.cells 4 W p cap os
abbrev RRow (W : World) (p : Option Addr) (cap : Nat) (os : List RC) : Prop := LRow RC.cells 2 W p cap os
theorem ERow.later {W W' : World} {p : Option Addr} {cap : Nat} {os : List EV} (h : ERow W p cap os) (hb : Below W.heap.size W W') : ERow W' p cap os := LRow.below EV.len h hb
theorem RRow.later {W W' : World} {p : Option Addr} {cap : Nat} {os : List RC} (h : RRow W p cap os) (hb : Below W.heap.size W W') : RRow W' p cap os := LRow.below RC.len h hb
theorem ERow.at {W : World} {p : Option Addr} {cap : Nat} {os : List EV} (h : ERow W p cap os) {i : Nat} (hi : i < os.length) {x : EV} (hx : os[i]! = x) : ∃ g o, p = some ⟨g, o, none⟩ ∧ W.cell? ⟨g, o + i * 4, none⟩ = some (.int .i64 x.kind) ∧ W.cell? ⟨g, o + i * 4 + 1, none⟩ = some (.int .i64 x.key) ∧ W.cell? ⟨g, o + i * 4 + 2, none⟩ = some (.int .i64 x.val) ∧ W.cell? ⟨g, o + i * 4 + 3, none⟩ = some (.int .i64 x.id) := by
  obtain ⟨g, o, e, hc⟩ := h.cell i hi
  rw [hx] at hc
  exact ⟨g, o, e, hc 0 (by decide), hc 1 (by decide), hc 2 (by decide), hc 3 (by decide)⟩
theorem RRow.at {W : World} {p : Option Addr} {cap : Nat} {os : List RC} (h : RRow W p cap os) {i : Nat} (hi : i < os.length) {x : RC} (hx : os[i]! = x) : ∃ g o, p = some ⟨g, o, none⟩ ∧ W.cell? ⟨g, o + i * 2, none⟩ = some (.int .i64 x.key) ∧ W.cell? ⟨g, o + i * 2 + 1, none⟩ = some (.int .i64 x.val) := by
  obtain ⟨g, o, e, hc⟩ := h.cell i hi
  rw [hx] at hc
  exact ⟨g, o, e, hc 0 (by decide), hc 1 (by decide)⟩
theorem Try.cellsRec : Try.prog.cellsOf 32 = 2 := by kernel_rfl
theorem Try.cellsEv : Try.prog.cellsOf 34 = 4 := by kernel_rfl
theorem Try.cellsInt : Try.prog.cellsOf 3 = 1 := by kernel_rfl
theorem Try.cellsI64 : Try.prog.cellsOf 2 = 1 := by kernel_rfl
theorem Try.infoEv : (Try.prog.info? 34).map (fun i => (i.zero, i.size, i.bytes)) = some (some (.agg #[.int .i64 0, .int .i64 0, .int .i64 0, .int .i64 0]), 4, 32) := by kernel_rfl
theorem Try.infoRec : (Try.prog.info? 32).map (fun i => (i.zero, i.size, i.bytes)) = some (some (.agg #[.int .i64 0, .int .i64 0]), 2, 16) := by kernel_rfl

theorem arg_rec {H : Type} {enc : TypeId × Value → H} {W : World} (fuel : Nat) (cs : List Value) (y : DataW H × List MemPlace) (hl : cs.length = 2) (h : DataW.trod enc Try.prog W 0 (fun _ => true) true fuel 32 cs = some y) :
    ∃ o : RC, cs = o.cells ∧ o.fine := by
  match cs, hl with
  | [c0, c1], _ =>
    obtain ⟨xs, m, _, _, _, hxl, hfs⟩ := DataW.trod_struct Try.underlying32 h
    have hxl' : xs.length = 2 := hxl
    match xs, hxl' with
    | [y0, y1], _ =>
      have g0 : DataW.trod enc Try.prog W 0 (fun _ => true) true m 2 (([c0, c1].drop 0).take (Try.prog.cellsOf 2)) = [y0, y1][0]? := hfs 0 _ rfl
      rw [Try.cellsI64] at g0
      replace g0 : DataW.trod enc Try.prog W 0 (fun _ => true) true m 2 [c0] = some y0 := g0
      have g1 : DataW.trod enc Try.prog W 0 (fun _ => true) true m 2 (([c0, c1].drop 1).take (Try.prog.cellsOf 2)) = [y0, y1][1]? := hfs 1 _ rfl
      rw [Try.cellsI64] at g1
      replace g1 : DataW.trod enc Try.prog W 0 (fun _ => true) true m 2 [c1] = some y1 := g1
      obtain ⟨n0, e0, _, w0⟩ := DataW.trod_int Try.underlying2 g0
      obtain ⟨n1, e1, _, w1⟩ := DataW.trod_int Try.underlying2 g1
      simp only [List.cons.injEq, and_true] at e0 e1
      subst e0 e1
      have b0 := bounds_i64 w0
      have b1 := bounds_i64 w1
      exact ⟨⟨n0, n1⟩, rfl, ⟨⟨b0.1, by have := b0.2; omega⟩, ⟨b1.1, by have := b1.2; omega⟩⟩⟩
theorem arg_ev {H : Type} {enc : TypeId × Value → H} {W : World} (fuel : Nat) (cs : List Value) (y : DataW H × List MemPlace) (hl : cs.length = 4) (h : DataW.trod enc Try.prog W 0 (fun _ => true) true fuel 34 cs = some y) :
    ∃ o : EV, cs = o.cells ∧ o.fine ∧ 1 ≤ Rows.uptoBulk y.1 := by
  match cs, hl with
  | [c0, c1, c2, c3], _ =>
    obtain ⟨xs, m, _, _, _, hxl, hfs⟩ := DataW.trod_struct Try.underlying34 h
    have hxl' : xs.length = 3 := hxl
    match xs, hxl' with
    | [y0, y1, y2], _ =>
      have g0 : DataW.trod enc Try.prog W 0 (fun _ => true) true m 3 (([c0, c1, c2, c3].drop 0).take (Try.prog.cellsOf 3)) = [y0, y1, y2][0]? := hfs 0 _ rfl
      rw [Try.cellsInt] at g0
      replace g0 : DataW.trod enc Try.prog W 0 (fun _ => true) true m 3 [c0] = some y0 := g0
      have g1 : DataW.trod enc Try.prog W 0 (fun _ => true) true m 32 (([c0, c1, c2, c3].drop 1).take (Try.prog.cellsOf 32)) = [y0, y1, y2][1]? := hfs 1 _ rfl
      rw [Try.cellsRec] at g1
      replace g1 : DataW.trod enc Try.prog W 0 (fun _ => true) true m 32 [c1, c2] = some y1 := g1
      have g2 : DataW.trod enc Try.prog W 0 (fun _ => true) true m 2 (([c0, c1, c2, c3].drop 3).take (Try.prog.cellsOf 2)) = [y0, y1, y2][2]? := hfs 2 _ rfl
      rw [Try.cellsI64] at g2
      replace g2 : DataW.trod enc Try.prog W 0 (fun _ => true) true m 2 [c3] = some y2 := g2
      obtain ⟨n0, e0, _, w0⟩ := DataW.trod_int Try.underlying3 g0
      obtain ⟨r, e1, f1⟩ := arg_rec _ _ _ rfl g1
      obtain ⟨n3, e3, _, w3⟩ := DataW.trod_int Try.underlying2 g2
      unfold RC.cells at e1
      simp only [List.cons.injEq, and_true] at e0 e1 e3
      obtain ⟨e1, e2⟩ := e1
      subst e0 e1 e2 e3
      have b0 := bounds_i64 w0
      have b3 := bounds_i64 w3
      exact ⟨⟨n0, r.key, r.val, n3⟩, rfl, ⟨⟨b0.1, by have := b0.2; omega⟩, f1.1, f1.2, ⟨b3.1, by have := b3.2; omega⟩⟩, bulk_one _⟩
theorem sum_ones : ∀ (es : List EV), (es.map fun _ => 1).sum = es.length
  | [] => rfl
  | _ :: es => by simp only [List.map_cons, List.sum_cons, List.length_cons, sum_ones es]; omega
theorem arg_evs {H : Type} {enc : TypeId × Value → H} {W : World} {fuel : Nat} {c : Value} {x : DataW H × List MemPlace} (h : DataW.trod enc Try.prog W 0 (fun _ => true) true fuel 44 [c] = some x) :
    ∃ (p : Option Addr) (cap : Nat) (es : List EV), c = .slice p es.length cap ∧ ERow W p cap es ∧ (∀ e ∈ es, e.fine) ∧ es.length + 1 ≤ Rows.uptoBulk x.1 ∧ DatumOf x.1 es.length cap := by
  obtain ⟨p, cap, es, h1, h2, h3, h4, h5, h6, h7, h8⟩ := arg_list (cells := EV.cells) (wt := fun _ => 1) (R := EV.fine) (by decide) Try.underlying44 Try.cellsEv arg_ev h
  rw [sum_ones] at h6
  exact ⟨p, cap, es, h1, ⟨h2, h3, h7, h5⟩, h4, h6, h8⟩
end Go.Proofs.Ytmmdgffgnpnmeaa
