/-
  A sink that stays what it was, whatever is asked again: the calls of SinkOnce. Plainly and in memory.
-/
import Derived.Test.YtboofnkajjnmeaaSle
namespace Go.Proofs.Ytboofnkajjnmeaa
open Go.RowKit Go.Maps Go.Shelf

/-- The sink k4, as it was in Z: now k, the same in what it keeps. -/
structure SI (B : Nat) (Z : World) (k4 k : PK) (w : World) : Prop where
  ps : PS B w k
  sk : k.sk = k4.sk
  b : k.b = k4.b
  only : Only k4.blk Z w
  blk : ∀ i, k.blk i → k4.blk i ∨ Z.heap.size ≤ i
theorem SI.start {B : Nat} {Z : World} {k4 : PK} (h : PS B Z k4) : SI B Z k4 k4 Z := ⟨h, rfl, rfl, Only.fresh (Below.refl _ _) _, fun _ hi => .inl hi⟩
theorem SI.later {B : Nat} {Z : World} {k4 k : PK} {w w' : World} (h : SI B Z k4 k w) (hb : Below w.heap.size w w') : SI B Z k4 k w' :=
  ⟨h.ps.later hb, h.sk, h.b, h.only.trans (Only.fresh hb _), h.blk⟩
theorem SI.put {B : Nat} {Z : World} {k4 k : PK} {w w' : World} (h : SI B Z k4 k w) {s : SK} (hs : s = k4.sk) (hp : Put B w k s w') : ∃ k', SI B Z k4 k' w' := by
  obtain ⟨k', h1, h2, h3, h4, h5⟩ := hp
  refine ⟨k', h1, h2.trans hs, h3.trans h.b, h.only.step h4 h.blk, fun i hi => ?_⟩
  rcases h5 i hi with h9 | h9
  · exact h.blk i h9
  · exact .inr (Nat.le_trans h.only.size h9)
theorem SI.doneLen {B : Nat} {Z : World} {k4 k : PK} {w : World} (h : SI B Z k4 k w) : k.done = k4.done := congrArg SK.done h.sk
theorem SI.vecLen {B : Nat} {Z : World} {k4 k : PK} {w : World} (h : SI B Z k4 k w) : k.vec = k4.vec := congrArg SK.vec h.sk
theorem SI.doneC {B : Nat} {Z : World} {k4 k : PK} {w : World} {e i : Int} (h : SI B Z k4 k w) (hd : doneC k4.sk e i = true) (hl : k4.done.length < 4398046511104) :
    Calls Try.prog 26 #[.pointer (some ⟨k4.b, 0, none⟩), .agg #[.int .i64 e, .int .i64 i]] w fun r w' => r = .returned (.bool true) ∧ Below w.heap.size w w' := by
  rw [← h.b]
  exact done_any h.ps (by rw [h.doneLen]; omega) (by rw [h.sk]; exact hd)
theorem SI.commitC {B : Nat} {Z : World} {k4 k : PK} {w : World} {e i : Int} (h : SI B Z k4 k w) (hp : posI e) (hi : posI i) (hd : Go.Proofs.Ytboofnkajjnmeaa.doneC k4.sk e i = true) (hl : k4.done.length < 4398046511104) :
    Calls Try.prog 21 #[.pointer (some ⟨k4.b, 0, none⟩), .agg #[.int .i64 e, .int .i64 i]] w fun r w' => r = .returned (.int .i64 0) ∧ ∃ k', SI B Z k4 k' w' := by
  have h9 := com_again hp hi hd
  rw [← h.b]
  refine (commit_any h.ps (by rw [h.doneLen]; exact hl)).mono ?_
  rintro _ w' ⟨rfl, hput⟩
  rw [h.sk] at hput ⊢
  exact ⟨by rw [h9.1], h.put h9.2 hput⟩
theorem SI.abortC {B : Nat} {Z : World} {k4 k : PK} {w : World} {e i : Int} (h : SI B Z k4 k w) (hp : posI e) (hi : posI i) (hd : Go.Proofs.Ytboofnkajjnmeaa.doneC k4.sk e i = true) (hl : k4.done.length < 4398046511104) :
    Calls Try.prog 23 #[.pointer (some ⟨k4.b, 0, none⟩), .agg #[.int .i64 e, .int .i64 i]] w fun r w' => r = .returned (.int .i64 5) ∧ ∃ k', SI B Z k4 k' w' := by
  have h9 := abo_again hp hi hd
  rw [← h.b]
  refine (abort_any h.ps (by rw [h.doneLen]; exact hl)).mono ?_
  rintro _ w' ⟨rfl, hput⟩
  rw [h.sk] at hput ⊢
  exact ⟨by rw [h9.1], h.put h9.2 hput⟩
theorem SI.preC {B : Nat} {Z : World} {k4 k : PK} {w : World} {x : TP} (h : SI B Z k4 k w) (hm : mayC k4.vec.length x.t) (hd : Go.Proofs.Ytboofnkajjnmeaa.doneC k4.sk x.t.ep x.t.id = true) (hl : k4.done.length < 4398046511104) (hx : x.ok Z) (hxb : ∀ i, x.blk i → ¬ k4.blk i ∧ i < Z.heap.size) :
    Calls Try.prog 20 #[.pointer (some ⟨k4.b, 0, none⟩), .agg x.row] w fun r w' => r = .returned (.int .i64 0) ∧ ∃ k', SI B Z k4 k' w' := by
  have h9 := pre_again hm hd
  rw [← h.b]
  refine (pre_any h.ps (hx.only h.only (fun i hi hb => (hxb i hi).1 hb)) (fun i hi hb => ?_) (by rw [h.doneLen]; omega)).mono ?_
  · have h8 := hxb i hi
    rcases h.blk i hb with h7 | h7
    · exact h8.1 h7
    · omega
  · rintro _ w' ⟨rfl, hput⟩
    rw [h.sk, h.vecLen] at hput
    rw [h.sk, h.vecLen]
    exact ⟨by rw [h9.1], h.put h9.2 hput⟩
theorem SI.plainC {B : Nat} {Z : World} {k4 k : PK} {w : World} (h : SI B Z k4 k w) (hl : k4.done.length < 4398046511104) :
    Calls Try.prog 15 #[.pointer (some ⟨k4.b, 0, none⟩)] w fun r w' => ∃ q : QK, r = .returned (.agg q.row) ∧ QO w.heap.size w' q ∧ q.sk = k4.sk ∧ Below w.heap.size w w' := by
  rw [← h.b]
  refine (plain_any h.ps (by rw [h.doneLen]; exact hl)).mono ?_
  rintro _ w' ⟨q, rfl, h1, h2, h3⟩
  exact ⟨q, rfl, h1, h2.trans h.sk, h3⟩
theorem QO.only {B : Nat} {W W' : World} {q : QK} {F : Nat → Prop} (h : QO B W q) (ho : Only F W W') (hF : ∀ i, F i → i < B) : QO B W' q :=
  have hn : ∀ {t : TypeId} {k n : Nat} {v : Value} {xs : List Value}, W.ownsRow B t k v n xs → W'.ownsRow B t k v n xs := fun hr => ownsRow_only hr ho (fun i hi hf => by have h1 := own_block_base hr hi; have h2 := hF i hf; omega)
  ⟨hn h.out, hn h.vec, hn h.done, hn h.pre, fun x hx => ⟨hn (h.ts x hx).r, hn (h.ts x hx).v⟩⟩
end Go.Proofs.Ytboofnkajjnmeaa
