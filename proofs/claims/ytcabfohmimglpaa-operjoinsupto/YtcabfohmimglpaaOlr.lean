/-
  A ledger one part of which is written to. Nothing is walked.
-/
import Derived.Test.YtcabfohmimglpaaOgp
namespace Go.Proofs.Ytcabfohmimglpaa
open Go.RowKit

theorem row_keeps {W W' : World} {b1 b2 n1 n2 k1 k2 c g : Nat} {e1 e2 : TypeId} {v1 : Value} {xs ys : List Value} (h : W.ownsRow b1 e1 k1 v1 n1 xs) (hr : W.ownsRow b2 e2 k2 (.slice (some ⟨g, 0, none⟩) n2 c) n2 ys) (hne : e1 ≠ e2) (ho : Only (· = g) W W') : W'.ownsRow b1 e1 k1 v1 n1 xs :=
  ownsRow_only h ho (fun b hb e => by
    have e' : b = g := e
    subst e'
    obtain ⟨_, c1, q1⟩ := own_block_lt h hb
    obtain ⟨_, c2, q2⟩ := own_block_lt hr (b := b) rfl
    rw [q1] at q2
    simp at q2
    exact hne q2.2)
theorem box_keeps {W W' : World} {b2 n2 k2 c g lb : Nat} {e1 e2 : TypeId} {cs : Array Value} {ys : List Value} (h : W.heap[lb]? = some (.cells cs e1 (0, 0))) (hr : W.ownsRow b2 e2 k2 (.slice (some ⟨g, 0, none⟩) n2 c) n2 ys) (hne : e1 ≠ e2) (ho : Only (· = g) W W') : W'.heap[lb]? = some (.cells cs e1 (0, 0)) :=
  ho.obj h (fun e => by
    have e' : lb = g := e
    subst e'
    obtain ⟨_, c2, q2⟩ := own_block_lt hr (b := lb) rfl
    rw [h] at q2
    simp at q2
    exact hne q2.2)
theorem LRep.newLeft {W W' : World} {base lb : Nat} {A : LA} {L : LG} {ps : List Int} (h : LRep W base lb A L) (ho : Only (· = A.gl) W W') (hr : W'.ownsRow base 2 1 (.slice (some ⟨A.gl, 0, none⟩) (2 * L.lh) A.cl) (2 * L.lh) (ps.map (Value.int .i64))) (hp : Peak ps L.lh L.lk) : LRep W' base lb A { L with left := ps } :=
  ⟨box_keeps h.box h.left (by decide) ho, row_keeps h.old h.left (by decide) ho, row_keeps h.gone h.left (by decide) ho, row_keeps h.tw h.left (by decide) ho, hr, row_keeps h.es h.left (by decide) ho,
    ownsRow_only h.fr ho (fun b hb e => by have e' : b = A.gl := e; simp [Value.ownBlock] at hb; exact h.apart (by omega)), h.apart, hp, h.pf⟩
theorem LRep.newFresh {W W' : World} {base lb : Nat} {A : LA} {L : LG} {ps : List Int} (h : LRep W base lb A L) (ho : Only (· = A.gf) W W') (hr : W'.ownsRow base 2 1 (.slice (some ⟨A.gf, 0, none⟩) (2 * L.fh) A.cf) (2 * L.fh) (ps.map (Value.int .i64))) (hp : Peak ps L.fh L.fk) : LRep W' base lb A { L with fr := ps } :=
  ⟨box_keeps h.box h.fr (by decide) ho, row_keeps h.old h.fr (by decide) ho, row_keeps h.gone h.fr (by decide) ho, row_keeps h.tw h.fr (by decide) ho,
    ownsRow_only h.left ho (fun b hb e => by have e' : b = A.gf := e; simp [Value.ownBlock] at hb; exact h.apart (by omega)), row_keeps h.es h.fr (by decide) ho, hr, h.apart, h.pl, hp⟩
theorem LRep.newOld {W W' : World} {base lb g : Nat} {A : LA} {L : LG} {os : List KS} (h : LRep W base lb A L) (hg : A.po = some ⟨g, 0, none⟩) (hl : os.length = L.old.length) (ho : Only (· = g) W W') (hr : W'.ownsRow base 43 3 (.slice A.po L.old.length A.co) L.old.length (os.flatMap KS.cells)) : LRep W' base lb A { L with old := os } := by
  have ho1 := h.old
  rw [hg] at ho1
  refine ⟨?_, ?_, ?_, ?_, row_keeps h.left ho1 (by decide) ho, row_keeps h.es ho1 (by decide) ho, row_keeps h.fr ho1 (by decide) ho, h.apart, h.pl, h.pf⟩
  · simp only; rw [hl]; exact box_keeps h.box ho1 (by decide) ho
  · simp only; rw [hl]; exact hr
  · simp only; rw [hl]; exact row_keeps h.gone ho1 (by decide) ho
  · simp only; rw [hl]; exact row_keeps h.tw ho1 (by decide) ho
theorem LRep.newGone {W W' : World} {base lb g : Nat} {A : LA} {L : LG} {gs : List Bool} (h : LRep W base lb A L) (hg : A.pg = some ⟨g, 0, none⟩) (ho : Only (· = g) W W') (hr : W'.ownsRow base 4 1 (.slice A.pg L.old.length A.cg) L.old.length (gs.map Value.bool)) : LRep W' base lb A { L with gone := gs } := by
  have ho1 := h.gone
  rw [hg] at ho1
  exact ⟨box_keeps h.box ho1 (by decide) ho, row_keeps h.old ho1 (by decide) ho, hr, row_keeps h.tw ho1 (by decide) ho, row_keeps h.left ho1 (by decide) ho, row_keeps h.es ho1 (by decide) ho, row_keeps h.fr ho1 (by decide) ho, h.apart, h.pl, h.pf⟩
theorem LRep.newEs {W W' : World} {base lb g : Nat} {A : LA} {L : LG} {es : List EN} (h : LRep W base lb A L) (hg : A.pe = some ⟨g, 0, none⟩) (hl : es.length = L.es.length) (ho : Only (· = g) W W') (hr : W'.ownsRow base 74 5 (.slice A.pe L.es.length A.ce) L.es.length (es.flatMap EN.cells)) : LRep W' base lb A { L with es := es } := by
  have ho1 := h.es
  rw [hg] at ho1
  refine ⟨?_, row_keeps h.old ho1 (by decide) ho, row_keeps h.gone ho1 (by decide) ho, row_keeps h.tw ho1 (by decide) ho, row_keeps h.left ho1 (by decide) ho, ?_, row_keeps h.fr ho1 (by decide) ho, h.apart, h.pl, h.pf⟩
  · simp only; rw [hl]; exact box_keeps h.box ho1 (by decide) ho
  · simp only; rw [hl]; exact hr
end Go.Proofs.Ytcabfohmimglpaa
