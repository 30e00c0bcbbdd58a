/-
  A lease's block of memory; unused and Check of package lease. No conditions.
-/
import Derived.Test.YtegffdmlkbdcdaaLsa
import Derived.Deep.CutRange
import Derived.Deep.CutBlock
namespace Go.Proofs.Ytegffdmlkbdcdaa
open Go.RowKit

theorem heap_set_sameL {W : World} {b : Nat} {cs : Array Value} {t : TypeId} (h : W.heap[b]? = some (.cells cs t (0, 0))) (o : Nat) (v : Value) : (W.setCell ⟨b, o, none⟩ v).heap[b]? = some (.cells (cs.setIfInBounds o v) t (0, 0)) := by
  simp only [World.setCell]
  rw [Array.getElem?_modify, if_pos rfl, h]
  rfl
abbrev set6 (w : World) (b : Nat) (e0 e1 e2 e3 e4 e5 : Value) : World := (((((w.setCell ⟨b, 0, none⟩ e0).setCell ⟨b, 1, none⟩ e1).setCell ⟨b, 2, none⟩ e2).setCell ⟨b, 3, none⟩ e3).setCell ⟨b, 4, none⟩ e4).setCell ⟨b, 5, none⟩ e5
theorem heap_set6 {w : World} {b : Nat} {t : TypeId} {d0 d1 d2 d3 d4 d5 : Value} (h : w.heap[b]? = some (.cells #[d0, d1, d2, d3, d4, d5] t (0, 0))) (e0 e1 e2 e3 e4 e5 : Value) : (set6 w b e0 e1 e2 e3 e4 e5).heap[b]? = some (.cells #[e0, e1, e2, e3, e4, e5] t (0, 0)) :=
  heap_set_sameL (heap_set_sameL (heap_set_sameL (heap_set_sameL (heap_set_sameL (heap_set_sameL h 0 e0) 1 e1) 2 e2) 3 e3) 4 e4) 5 e5
theorem only_set6 (w : World) (b : Nat) (e0 e1 e2 e3 e4 e5 : Value) : Only (· = b) w (set6 w b e0 e1 e2 e3 e4 e5) :=
  (((((Only.set (F := (· = b)) w b 0 e0 rfl).trans (Only.set (F := (· = b)) _ b 1 e1 rfl)).trans (Only.set (F := (· = b)) _ b 2 e2 rfl)).trans (Only.set (F := (· = b)) _ b 3 e3 rfl)).trans (Only.set (F := (· = b)) _ b 4 e4 rfl)).trans (Only.set (F := (· = b)) _ b 5 e5 rfl)
/-- A block of six cells that may be written. -/
structure Six (W : World) (b : Nat) (d0 d1 d2 d3 d4 d5 : Value) : Prop where
  f0 : W.frozen? ⟨b, 0, none⟩ = false
  f1 : W.frozen? ⟨b, 1, none⟩ = false
  f2 : W.frozen? ⟨b, 2, none⟩ = false
  f3 : W.frozen? ⟨b, 3, none⟩ = false
  f4 : W.frozen? ⟨b, 4, none⟩ = false
  f5 : W.frozen? ⟨b, 5, none⟩ = false
  u0 : W.cell? ⟨b, 0, none⟩ = some d0
  u1 : W.cell? ⟨b, 1, none⟩ = some d1
  u2 : W.cell? ⟨b, 2, none⟩ = some d2
  u3 : W.cell? ⟨b, 3, none⟩ = some d3
  u4 : W.cell? ⟨b, 4, none⟩ = some d4
  u5 : W.cell? ⟨b, 5, none⟩ = some d5
theorem six {W : World} {b : Nat} {t : TypeId} {d0 d1 d2 d3 d4 d5 : Value} (h : W.heap[b]? = some (.cells #[d0, d1, d2, d3, d4, d5] t (0, 0))) : Six W b d0 d1 d2 d3 d4 d5 := by
  constructor <;> simp [World.frozen?, World.cell?, h]
theorem below_box {W X : World} (hb : Below W.heap.size W X) {b : Nat} {o : Obj} (h : W.heap[b]? = some o) : X.heap[b]? = some o := (hb.block b (Array.getElem?_eq_some_iff.1 h).1).trans h
theorem box_lt {W : World} {b : Nat} {o : Obj} (h : W.heap[b]? = some o) : b < W.heap.size := (Array.getElem?_eq_some_iff.1 h).1
theorem below_next {B : Nat} {A X Y : World} (h : Below B A X) (hb : Below X.heap.size X Y) (hB : B ≤ X.heap.size) : Below B A Y := h.trans (hb.mono hB)
theorem results_cell_three {P : Program} {fn : Func} {p u v : Tmp} {ty : TypeId} (h : fn.results = #[.cell p ty, .tmp u, .tmp v]) (tmps : Array Value) (w : World) (g : Nat) (t : TypeId) (cs : Array Value) (fr : Nat × Nat) (d : TypeDesc)
    (hp : tmps.getD p undef = .pointer (some ⟨g, 0, none⟩)) (hg : w.heap[g]? = some (.cells cs t fr))
    (hu : P.underlying ty = some d) (hd : (match d with | .struct _ | .array _ _ => true | _ => false) = true) (hi : (P.info? ty).map (·.size) = some cs.size) :
    (results fn tmps).run P w = .ok (.tuple #[.agg cs, tmps.getD u undef, tmps.getD v undef]) w := by
  have hp' : tmps[p]?.getD undef = .pointer (some ⟨g, 0, none⟩) := by simpa using hp
  have hl := run_loadVar_row (P := P) w g t ty cs fr d hg hu hd hi
  simp only [results, h]
  simp [Result.andThen, hp', asAddr, hl]
theorem results_cell_two {P : Program} {fn : Func} {p u : Tmp} {ty : TypeId} (h : fn.results = #[.cell p ty, .tmp u]) (tmps : Array Value) (w : World) (g : Nat) (t : TypeId) (cs : Array Value) (fr : Nat × Nat) (d : TypeDesc)
    (hp : tmps.getD p undef = .pointer (some ⟨g, 0, none⟩)) (hg : w.heap[g]? = some (.cells cs t fr))
    (hu : P.underlying ty = some d) (hd : (match d with | .struct _ | .array _ _ => true | _ => false) = true) (hi : (P.info? ty).map (·.size) = some cs.size) :
    (results fn tmps).run P w = .ok (.tuple #[.agg cs, tmps.getD u undef]) w := by
  rw [results_cell_tmp h, hp]
  simp [asAddr, run_loadVar_row w g t ty cs fr d hg hu hd hi]
theorem ne_eqL {a b : Int} (h : a ≠ b) : (a == b) = false := by simpa using h

end Go.Proofs.Ytegffdmlkbdcdaa
