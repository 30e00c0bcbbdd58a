/-
  A sink that stays what it was, whatever is asked again: the calls of SinkOnce. Plainly and in memory.
-/
import Derived.Test.YtboofnkajjnmeaaSle
import Derived.Deep.CutRange
namespace Go.Proofs.Ytboofnkajjnmeaa
open Go.RowKit Go.Maps Go.Shelf

structure SI (B : Nat) (Z : World) (k4 k : PK) (w : World) : Prop where
  ps : PS B w k
  sk : k.sk = k4.sk
  b : k.b = k4.b
  only : Only k4.blk Z w
  blk : ∀ i, k.blk i → k4.blk i ∨ Z.heap.size ≤ i
theorem SI.start {B : Nat} {Z : World} {k4 : PK} (h : PS B Z k4) : SI B Z k4 k4 Z := ⟨h, rfl, rfl, Only.fresh (Below.refl _ _) _, fun _ hi => .inl hi⟩
theorem SI.later {B : Nat} {Z : World} {k4 k : PK} {w w' : World} (h : SI B Z k4 k w) (hb : Below w.heap.size w w') : SI B Z k4 k w' :=
  ⟨h.ps.later hb, h.sk, h.b, h.only.trans (Only.fresh hb _), h.blk⟩
theorem SI.put {B : Nat} {Z : World} {k4 k : PK} {w w' : World} (h : SI B Z k4 k w) {s : SK} (hs : s = k4.sk) (hp : Put B w k s w') : ∃ k', SI B Z k4 k' w' := by
  obtain ⟨k', h1, h2, h3, h4, h5⟩ := hp
  refine ⟨k', h1, h2.trans hs, h3.trans h.b, h.only.step h4 h.blk, fun i hi => ?_⟩
  rcases h5 i hi with h9 | h9
  · exact h.blk i h9
  · exact .inr (Nat.le_trans h.only.size h9)
theorem SI.doneLen {B : Nat} {Z : World} {k4 k : PK} {w : World} (h : SI B Z k4 k w) : k.done = k4.done := congrArg SK.done h.sk
theorem SI.doneC {B : Nat} {Z : World} {k4 k : PK} {w : World} {e i : Int} (h : SI B Z k4 k w) (hd : doneC k4.sk e i = true) (hl : k4.done.length < 17592186044416) :
    Calls Try.prog 26 #[.pointer (some ⟨k4.b, 0, none⟩), .agg #[.int .i64 e, .int .i64 i]] w fun r w' => r = .returned (.bool true) ∧ Below w.heap.size w w' := by
  rw [← h.b]
  exact done_any h.ps (by rw [h.doneLen]; omega) (by rw [h.sk]; exact hd)
theorem QO.only {B : Nat} {W W' : World} {q : QK} {F : Nat → Prop} (h : QO B W q) (ho : Only F W W') (hF : ∀ i, F i → i < B) : QO B W' q :=
  have hn : ∀ {t : TypeId} {k n : Nat} {v : Value} {xs : List Value}, W.ownsRow B t k v n xs → W'.ownsRow B t k v n xs := fun hr => ownsRow_only hr ho (fun i hi hf => by have h1 := own_block_base hr hi; have h2 := hF i hf; omega)
  ⟨hn h.out, hn h.vec, hn h.done, hn h.pre, fun x hx => ⟨hn (h.ts x hx).r, hn (h.ts x hx).v⟩⟩
end Go.Proofs.Ytboofnkajjnmeaa

/-
 SinkOnce walked. The conditions: that the operations lie there; lengths.
-/
namespace Go.Proofs.Ytboofnkajjnmeaa
open Go.RowKit Go.Maps Go.Shelf

structure OP where
 d : Int
 x : TP
instance : Inhabited OP := ⟨⟨0, default⟩⟩
def OP.cells (o : OP) : List Value := [.int .i64 o.d, .int .i64 o.x.t.ep, .int .i64 o.x.t.id, .int .i64 o.x.t.beg, .slice o.x.rp o.x.t.rs.length o.x.rc, .slice o.x.vp o.x.t.vs.length o.x.vc]
theorem OP.len (o : OP) : o.cells.length = 6 := rfl
structure OL (W : World) (p : Option Addr) (c : Nat) (os : List OP) : Prop where
 row : LRow OP.cells 6 W p c os
 ok : ∀ o ∈ os, o.x.ok W ∧ ∀ i, o.x.blk i → i < W.heap.size
theorem OL.at {W : World} {p : Option Addr} {c : Nat} {os : List OP} (h : LRow OP.cells 6 W p c os) {i : Nat} (hi : i < os.length) {y : OP} (hy : os[i]! = y) : ∃ g o, p = some ⟨g, o, none⟩ ∧ W.cell? ⟨g, o + i * 6, none⟩ = some (.int .i64 y.d) ∧ W.cell? ⟨g, o + i * 6 + 1, none⟩ = some (.int .i64 y.x.t.ep) ∧ W.cell? ⟨g, o + i * 6 + 2, none⟩ = some (.int .i64 y.x.t.id) ∧ W.cell? ⟨g, o + i * 6 + 3, none⟩ = some (.int .i64 y.x.t.beg) ∧ W.cell? ⟨g, o + i * 6 + 4, none⟩ = some (.slice y.x.rp y.x.t.rs.length y.x.rc) ∧ W.cell? ⟨g, o + i * 6 + 5, none⟩ = some (.slice y.x.vp y.x.t.vs.length y.x.vc) := by
 obtain ⟨g, o, e, hc⟩ := h.cell i hi
 rw [hy] at hc
 exact ⟨g, o, e, hc 0 (by decide), hc 1 (by decide), hc 2 (by decide), hc 3 (by decide), hc 4 (by decide), hc 5 (by decide)⟩
end Go.Proofs.Ytboofnkajjnmeaa
