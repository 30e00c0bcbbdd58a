/-
  slices.Clone of operators and of inputs; the program's Clone: a graph like it, in memory of its own. The conditions: lengths.
-/
import Derived.Test.YtifldnpccgbnkaaGreatSeg
import Derived.Test.YtifldnpccgbnkaaGreatGar
import Derived.Test.YtifldnpccgbnkaaGreatGof
import Derived.Lib.Bytes
import Derived.Laws.Rows
namespace Go.Proofs.YtifldnpccgbnkaaGreat
open Go.RowKit

theorem Tryz.infoOp : (Tryz.prog.info? 55).map (fun i => (i.zero, i.size, i.bytes)) = some (some (.agg #[.int .i64 0, .int .i64 0, .int .i64 0, .int .i64 0, .slice none 0 0]), 5, 56) := by kernel_rfl
theorem Tryz.infoEdge : (Tryz.prog.info? 52).map (fun i => (i.zero, i.size, i.bytes)) = some (some (.agg #[.int .i64 0, .int .i64 0]), 2, 16) := by kernel_rfl
theorem OV.len (x : OV) : x.cells.length = 5 := rfl
theorem GE.len (x : GE) : x.cells.length = 2 := rfl
theorem OV.one (x : OV) : ∀ u ∈ x.cells, u.oneCell' = true := by
  intro u hu
  simp only [OV.cells, List.mem_cons, List.not_mem_nil, or_false] at hu
  rcases hu with rfl | rfl | rfl | rfl | rfl <;> rfl
theorem GE.one (x : GE) : ∀ u ∈ x.cells, u.oneCell' = true := by
  intro u hu
  simp only [GE.cells, List.mem_cons, List.not_mem_nil, or_false] at hu
  rcases hu with rfl | rfl <;> rfl
theorem ERow.cells {W : World} {p : Option Addr} {cap : Nat} {es : List GE} (h : ERow W p cap es) : ∀ i, i < es.length → ∃ g k, p = some ⟨g, k, none⟩ ∧ ∀ j, j < 2 → W.cell? ⟨g, k + i * 2 + j, none⟩ = (GE.cells es[i]!)[j]? := by
  intro i hi
  obtain ⟨g, k, e, h1, h2⟩ := h.cell i hi
  refine ⟨g, k, e, fun j hj => ?_⟩
  have : j = 0 ∨ j = 1 := by omega
  rcases this with rfl | rfl
  · exact h1
  · exact h2
theorem ERow.of_own {W : World} {base n cap : Nat} {p : Option Addr} {es : List GE} (hn : es.length = n) (h : W.ownsRow base 52 2 (.slice p n cap) n (es.flatMap GE.cells)) : ERow W p cap es := by
  obtain ⟨h1, h2, _, h4⟩ := own_list (cells := GE.cells) (fun o _ => o.len) hn h
  refine ⟨by omega, h2, fun i hi => ?_⟩
  obtain ⟨g, k, e, hc⟩ := h4 i hi
  exact ⟨g, k, e, hc 0 (by decide), hc 1 (by decide)⟩

/-- A graph in memory of its own, from the block base on. -/
structure GOwn (W : World) (base : Nat) (p : Option Addr) (cap : Nat) (os : List OV) : Prop where
  own : W.ownsRow base 55 5 (.slice p os.length cap) os.length (os.flatMap OV.cells)
  ins : ∀ x ∈ os, W.ownsRow base 52 2 (.slice x.ip x.o.ins.length x.ic) x.o.ins.length (x.o.ins.flatMap GE.cells)
theorem GOwn.row {W : World} {base cap : Nat} {p : Option Addr} {os : List OV} (h : GOwn W base p cap os) : GRow W p cap os := by
  obtain ⟨h1, h2, _, h4⟩ := own_list (cells := OV.cells) (fun o _ => o.len) rfl h.own
  exact ⟨h1, h2, h4, fun x hx => ERow.of_own rfl (h.ins x hx)⟩
theorem GOwn.below {W W' : World} {base cap : Nat} {p : Option Addr} {os : List OV} (h : GOwn W base p cap os) (hb : Below W.heap.size W W') : GOwn W' base p cap os :=
  ⟨ownsRow_later h.own hb, fun x hx => ownsRow_later (h.ins x hx) hb⟩
/-- What the loop of Clone keeps: the first k operators' inputs are its own. -/
structure CRep (W V : World) (p : Option Addr) (cap k : Nat) (os : List OV) (xs : List OV) (n : Nat) : Prop where
  len : xs.length = n
  same : xs.map OV.o = os.map OV.o
  own : W.ownsRow V.heap.size 55 5 (.slice p n cap) n (xs.flatMap OV.cells)
  ins : ∀ i, i < k → W.ownsRow V.heap.size 52 2 (.slice (xs[i]!).ip (xs[i]!).o.ins.length (xs[i]!).ic) (xs[i]!).o.ins.length ((xs[i]!).o.ins.flatMap GE.cells)
  rest : ∀ i, k ≤ i → i < n → xs[i]! = os[i]!
  bel : Below V.heap.size V W
theorem map_set_o {xs : List OV} {k : Nat} {y : OV} (hk : k < xs.length) (h : y.o = (xs[k]!).o) : (xs.set k y).map OV.o = xs.map OV.o := by
  rw [List.map_set, h, getElem!_pos xs k hk]
  have : (xs[k]).o = (xs.map OV.o)[k]'(by simpa using hk) := by simp
  rw [this, List.set_getElem_self]
theorem set_get {α : Type} [Inhabited α] {xs : List α} {k i : Nat} {y : α} (hi : i < xs.length) : (xs.set k y)[i]! = if k = i then y else xs[i]! := by
  rw [getElem!_pos (xs.set k y) i (by simpa using hi), getElem!_pos xs i hi, List.getElem_set]
theorem rows_apart {W : World} {b1 b2 n1 n2 k1 k2 : Nat} {e1 e2 : TypeId} {v1 v2 : Value} {xs ys : List Value} (h1 : W.ownsRow b1 e1 k1 v1 n1 xs) (h2 : W.ownsRow b2 e2 k2 v2 n2 ys) (hne : e1 ≠ e2) {g : Nat} (hg : v2.ownBlock = some g) : v1.ownBlock ≠ some g := by
  intro h
  obtain ⟨_, c1, q1⟩ := own_block_lt h1 h
  obtain ⟨_, c2, q2⟩ := own_block_lt h2 hg
  rw [q1] at q2
  simp at q2
  exact hne q2.2

end Go.Proofs.YtifldnpccgbnkaaGreat
