/-
  Graphs, plainly and as they lie in memory; how many ports an operator has. No conditions.
-/
import Derived.Test.YtkibiappjegogaaMem
import Derived.Test.YtkibiappjegogaaOnl
namespace Go.Proofs.Ytkibiappjegogaa.Op
open Go.RowKit

structure GE where
  f : Int
  p : Int
  deriving DecidableEq
structure GO where
  kind : Int
  part : Int
  fn : Int
  arg : Int
  ins : List GE
structure OV where
  o : GO
  ip : Option Addr
  ic : Nat
instance : Inhabited GE := ⟨⟨0, 0⟩⟩
instance : Inhabited GO := ⟨⟨0, 0, 0, 0, []⟩⟩
instance : Inhabited OV := ⟨⟨default, none, 0⟩⟩
def OV.cells (x : OV) : List Value := [.int .i64 x.o.kind, .int .i64 x.o.part, .int .i64 x.o.fn, .int .i64 x.o.arg, .slice x.ip x.o.ins.length x.ic]
def OV.val (x : OV) : Value := .agg #[.int .i64 x.o.kind, .int .i64 x.o.part, .int .i64 x.o.fn, .int .i64 x.o.arg, .slice x.ip x.o.ins.length x.ic]
/-- A list of inputs as it lies. -/
structure ERow (W : World) (p : Option Addr) (cap : Nat) (es : List GE) : Prop where
  le : es.length ≤ cap
  top : cap ≤ 9223372036854775807
  cell : ∀ i, i < es.length → ∃ g o, p = some ⟨g, o, none⟩ ∧ W.cell? ⟨g, o + i * 2, none⟩ = some (.int .i64 (es[i]!).f) ∧ W.cell? ⟨g, o + i * 2 + 1, none⟩ = some (.int .i64 (es[i]!).p)
def OV.ok (x : OV) (W : World) : Prop := ERow W x.ip x.ic x.o.ins
/-- A list of operators as it lies. -/
structure GRow (W : World) (p : Option Addr) (cap : Nat) (os : List OV) : Prop where
  le : os.length ≤ cap
  top : cap ≤ 9223372036854775807
  cell : ∀ i, i < os.length → ∃ g o, p = some ⟨g, o, none⟩ ∧ ∀ j, j < 5 → W.cell? ⟨g, o + i * 5 + j, none⟩ = (os[i]!).cells[j]?
  ok : ∀ x ∈ os, x.ok W
theorem ERow.below {W W' : World} {p : Option Addr} {cap : Nat} {es : List GE} (h : ERow W p cap es) (hb : Below W.heap.size W W') : ERow W' p cap es :=
  ⟨h.le, h.top, fun i hi => by
    obtain ⟨g, o, e, h1, h2⟩ := h.cell i hi
    exact ⟨g, o, e, cell_later hb h1, cell_later hb h2⟩⟩
theorem cell5 {W W' : World} {g o : Nat} {x : OV} (hb : Below W.heap.size W W') {j : Nat} (hj : j < 5) (h : W.cell? ⟨g, o + j, none⟩ = x.cells[j]?) : W'.cell? ⟨g, o + j, none⟩ = x.cells[j]? := by
  have hl : j < x.cells.length := hj
  rw [List.getElem?_eq_getElem hl] at h ⊢
  exact cell_later hb h
theorem GRow.below {W W' : World} {p : Option Addr} {cap : Nat} {os : List OV} (h : GRow W p cap os) (hb : Below W.heap.size W W') : GRow W' p cap os :=
  ⟨h.le, h.top, fun i hi => by
    obtain ⟨g, o, e, h1⟩ := h.cell i hi
    exact ⟨g, o, e, fun j hj => cell5 hb hj (h1 j hj)⟩, fun x hx => (h.ok x hx).below hb⟩

def portsC (kd ar : Int) : Int := if kd = 7 then (if 2 ≤ ar ∧ ar ≤ 4 then ar else 0) else if 1 ≤ kd ∧ kd ≤ 8 then 1 else 0
theorem ne_eq {a b : Int} (h : a ≠ b) : (a == b) = false := by simpa using h

end Go.Proofs.Ytkibiappjegogaa.Op
