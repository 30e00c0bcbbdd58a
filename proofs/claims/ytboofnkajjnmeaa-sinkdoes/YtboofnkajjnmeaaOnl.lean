/-
  What is turned of memory: only blocks of a given lot, and new ones. Plain facts, over any worlds.
-/
import Derived.Test.YtboofnkajjnmeaaMem
import Derived.RangeFuncNested
import Derived.RangeFuncBound
import Derived.RangeFuncCalls
import Derived.RangeFuncLeaves
import Derived.RangeFuncBox
import Derived.Maps.OwnSet
import Derived.Maps.Ext
namespace Go.Proofs.Ytboofnkajjnmeaa
open Go.RowKit

theorem hide {p : Prop} (h : p) : Hid p := h

theorem alloc_below (w : World) (o : Obj) : Below w.heap.size w (w.alloc o) := (Below.refl _ w).alloc (Nat.le_refl _) _
theorem heap_alloc_new (w : World) (o : Obj) : (w.alloc o).heap[w.heap.size]? = some o := World.alloc_heap_new w o

structure Only (F : Nat → Prop) (w w' : World) : Prop where
  os : w'.os = w.os
  tape : w'.tape = w.tape
  output : w'.output = w.output
  size : w.heap.size ≤ w'.heap.size
  block : ∀ k, k < w.heap.size → ¬ F k → w'.heap[k]? = w.heap[k]?

theorem Only.refl (F : Nat → Prop) (w : World) : Only F w w := ⟨rfl, rfl, rfl, Nat.le_refl _, fun _ _ _ => rfl⟩
theorem Only.trans {F : Nat → Prop} {A B C : World} (h : Only F A B) (k : Only F B C) : Only F A C :=
  ⟨k.os.trans h.os, k.tape.trans h.tape, k.output.trans h.output, Nat.le_trans h.size k.size, fun i hi hF => (k.block i (Nat.lt_of_lt_of_le hi h.size) hF).trans (h.block i hi hF)⟩
theorem Only.mono {F G : Nat → Prop} {A B : World} (h : Only F A B) (hFG : ∀ i, i < A.heap.size → F i → G i) : Only G A B :=
  ⟨h.os, h.tape, h.output, h.size, fun i hi hG => h.block i hi (fun hF => hG (hFG i hi hF))⟩
theorem Only.step {F G : Nat → Prop} {A B C : World} (h : Only F A B) (k : Only G B C) (hG : ∀ i, G i → F i ∨ A.heap.size ≤ i) : Only F A C :=
  ⟨k.os.trans h.os, k.tape.trans h.tape, k.output.trans h.output, Nat.le_trans h.size k.size, fun i hi hF =>
    (k.block i (Nat.lt_of_lt_of_le hi h.size) (fun hg => by rcases hG i hg with h' | h'; exact hF h'; omega)).trans (h.block i hi hF)⟩
theorem Only.of_grown {A B : World} {row : Option Nat} (h : A.grownBy B row) {F : Nat → Prop} (hr : ∀ k, row = some k → F k) : Only F A B :=
  ⟨h.os, h.tape, h.output, h.size, fun i hi hF => h.block i hi (fun e => hF (hr i e.symm))⟩
theorem Only.of_below {A B : World} {n : Nat} (h : Below n A B) {F : Nat → Prop} (hr : ∀ k, n ≤ k → k < A.heap.size → F k) : Only F A B :=
  ⟨h.os, h.tape, h.output, h.size, fun i hi hF => h.block i (by by_cases hn : i < n; exact hn; exact absurd (hr i (by omega) hi) hF)⟩
theorem Only.fresh {A B : World} (h : Below A.heap.size A B) (F : Nat → Prop) : Only F A B := Only.of_below h (fun k h1 h2 => absurd h2 (by omega))
theorem Only.below {F : Nat → Prop} {A B : World} (h : Only F A B) {n : Nat} (hn : n ≤ A.heap.size) (hF : ∀ i, F i → n ≤ i) : Below n A B :=
  ⟨h.os, h.tape, h.output, h.size, fun i hi => h.block i (Nat.lt_of_lt_of_le hi hn) (fun hf => by have := hF i hf; omega)⟩
theorem Only.alloc (F : Nat → Prop) (w : World) (o : Obj) : Only F w (w.alloc o) := Only.of_grown (World.grownBy_alloc w o none) (by simp)
theorem Only.set {F : Nat → Prop} (w : World) (b o : Nat) (v : Value) (hb : F b) : Only F w (w.setCell ⟨b, o, none⟩ v) :=
  ⟨rfl, rfl, rfl, by simp, fun i _ hF => RowKit.Below.heap_setCell _ _ _ _ (fun e => hF (by subst e; exact hb))⟩
theorem Only.cell {F : Nat → Prop} {A B : World} (h : Only F A B) {a : Addr} {v : Value} (hc : A.cell? a = some v) (hF : ¬ F a.block) : B.cell? a = some v := by
  rw [World.cell?_of_block (h.block a.block ?_ hF)]
  · exact hc
  · obtain ⟨o, ho, _⟩ := cells_of_cell hc
    exact (Array.getElem?_eq_some_iff.1 ho).1
theorem Only.obj {F : Nat → Prop} {A B : World} (h : Only F A B) {b : Nat} {o : Obj} (hc : A.heap[b]? = some o) (hF : ¬ F b) : B.heap[b]? = some o :=
  (h.block b (Array.getElem?_eq_some_iff.1 hc).1 hF).trans hc

theorem Only.drew {F : Nat → Prop} {A B : World} (h : Only F A B) : Only F A B.drew := ⟨h.os, h.tape, h.output, h.size, h.block⟩

def Clear (F : Nat → Prop) (v : Value) : Prop := ∀ b, v.ownBlock = some b → ¬ F b
theorem Row.only {k : IntKind} {F : Nat → Prop} {A B : World} {v : Value} {l : List Int} (h : Row k A v l) (ho : Only F A B) (hc : Clear F v) : Row k B v l := by
  obtain ⟨p, cap, rfl, h1, h2, h3, h4⟩ := h
  refine ⟨p, cap, rfl, h1, h2, h3, fun hp => ?_⟩
  obtain ⟨b, o, rfl, hcl⟩ := h4 hp
  exact ⟨b, o, rfl, fun i hi => ho.cell (hcl i hi) (hc b rfl)⟩
theorem ownsRow_only {F : Nat → Prop} {A B : World} {base n k : Nat} {e : TypeId} {v : Value} {xs : List Value} (h : A.ownsRow base e k v n xs) (ho : Only F A B) (hc : Clear F v) : B.ownsRow base e k v n xs := by
  refine ⟨h.1, ?_⟩
  rcases h.2 with h' | ⟨g, cap, cur, hv, hg, hh, r⟩
  · exact .inl h'
  · subst hv
    exact .inr ⟨g, cap, cur, rfl, hg, ho.obj hh (hc g rfl), r⟩
theorem own_block_lt {A : World} {base n k : Nat} {e : TypeId} {v : Value} {xs : List Value} (h : A.ownsRow base e k v n xs) {b : Nat} (hb : v.ownBlock = some b) : b < A.heap.size ∧ ∃ cur, A.heap[b]? = some (.cells cur e (0, 0)) := by
  rcases h.2 with ⟨rfl, _⟩ | ⟨g, cap, cur, rfl, _, hh, _⟩
  · simp [Value.ownBlock] at hb
  · obtain rfl : g = b := by simpa [Value.ownBlock] using hb
    exact ⟨(Array.getElem?_eq_some_iff.1 hh).1, cur, hh⟩
theorem own_block_base {A : World} {base n k : Nat} {e : TypeId} {v : Value} {xs : List Value} (h : A.ownsRow base e k v n xs) {b : Nat} (hb : v.ownBlock = some b) : base ≤ b := by
  rcases h.2 with ⟨rfl, _⟩ | ⟨g, cap, cur, rfl, h0, hh, _⟩
  · simp [Value.ownBlock] at hb
  · obtain rfl : g = b := by simpa [Value.ownBlock] using hb
    exact h0

end Go.Proofs.Ytboofnkajjnmeaa
