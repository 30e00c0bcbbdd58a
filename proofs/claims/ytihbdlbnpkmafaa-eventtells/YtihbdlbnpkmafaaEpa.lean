/-
  What parted's loop keeps. Nothing is walked.
-/
import Derived.Test.YtihbdlbnpkmafaaErc
namespace Go.Proofs.Ytihbdlbnpkmafaa
open Go.RowKit Go.Shelf

abbrev Ep : Type := Int × List RC
theorem Try.infoEpoch : (Try.prog.info? 56).map (fun i => (i.zero, i.size, i.bytes)) = some (some (.agg #[.int .i64 0, .slice none 0 0]), 2, 32) := by kernel_rfl
def paCells (es : List Ep) (vs : List Value) : List Value := (es.zip vs).flatMap fun x => [.int .i64 x.1.1, x.2]
/-- Each epoch's records lie in memory of their own. -/
def PaL (base : Nat) (S : Nat → Prop) (X : World) (es : List Ep) (vs : List Value) : Prop := vs.length = es.length ∧ ∀ (j : Nat) (e : Ep) (v : Value), es[j]? = some e → vs[j]? = some v → ∃ p c, v = .slice p e.2.length c ∧ X.ownsRow base 24 2 (.slice p e.2.length c) e.2.length (e.2.flatMap RC.cells) ∧ ∀ b, v.ownBlock = some b → ¬ S b
theorem PaL.nil (base : Nat) (S : Nat → Prop) (X : World) : PaL base S X [] [] := ⟨rfl, fun j e v h _ => by simp at h⟩
theorem PaL.step {base : Nat} {S S' F : Nat → Prop} {X X' : World} {es : List Ep} {vs : List Value} (h : PaL base S X es vs) (ho : Only F X X') (hF : ∀ i, F i → S i ∨ ∃ cs t f, X.heap[i]? = some (.cells cs t f) ∧ t ≠ 24) (hs : ∀ b, b < X.heap.size → ¬ S b → ¬ S' b) : PaL base S' X' es vs := by
  refine ⟨h.1, fun j e v h1 h2 => ?_⟩
  obtain ⟨p, c, rfl, h3, h4⟩ := h.2 j e v h1 h2
  refine ⟨p, c, rfl, ownsRow_only h3 ho (fun b hb hf => ?_), fun b hb => hs b (own_block_lt h3 hb).1 (h4 b hb)⟩
  rcases hF b hf with hf | ⟨cs, t, f, h5, h6⟩
  · exact h4 b hb hf
  · obtain ⟨_, cur, h7⟩ := own_block_lt h3 hb
    rw [h7] at h5
    simp only [Option.some.injEq, Obj.cells.injEq] at h5
    exact h6 h5.2.1.symm
theorem PaL.snoc {base : Nat} {S : Nat → Prop} {X : World} {es : List Ep} {vs : List Value} (h : PaL base S X es vs) {e : Ep} {v : Value} (hv : ∃ p c, v = .slice p e.2.length c ∧ X.ownsRow base 24 2 (.slice p e.2.length c) e.2.length (e.2.flatMap RC.cells) ∧ ∀ b, v.ownBlock = some b → ¬ S b) : PaL base S X (es ++ [e]) (vs ++ [v]) := by
  refine ⟨by simp [h.1], fun j e' v' h1 h2 => ?_⟩
  by_cases hj : j < es.length
  · rw [List.getElem?_append_left hj] at h1
    rw [List.getElem?_append_left (by rw [h.1]; exact hj)] at h2
    exact h.2 j e' v' h1 h2
  · rw [List.getElem?_append_right (by omega)] at h1
    rw [List.getElem?_append_right (by rw [h.1]; omega), h.1] at h2
    have hj0 : j - es.length = 0 := by
      have := (List.getElem?_eq_some_iff.1 h1).1
      simp at this
      omega
    rw [hj0] at h1 h2
    simp only [List.getElem?_cons_zero, Option.some.injEq] at h1 h2
    subst h1 h2
    exact hv
theorem paCells_snoc {es : List Ep} {vs : List Value} (h : vs.length = es.length) (e : Ep) (v : Value) : paCells (es ++ [e]) (vs ++ [v]) = paCells es vs ++ [.int .i64 e.1, v] := by
  unfold paCells
  rw [List.zip_append h.symm, List.flatMap_append]
  rfl
/-- What the loop of parted keeps. -/
def PaI (V : World) (oB : Nat) (eps : List Ep) : Jt := fun S k X =>
  ∃ p c vs, Boxed X oB 65 (.slice p k c) ∧ ¬ S oB ∧ X.ownsRow (V.heap.size + 2) 56 2 (.slice p k c) k (paCells (eps.take k) vs) ∧ (∀ b, (Value.slice p k c).ownBlock = some b → ¬ S b) ∧ Only (· = oB) V X ∧ (∀ i, S i → V.heap.size ≤ i) ∧ PaL (V.heap.size + 2) S X (eps.take k) vs
theorem PaI.rob (V : World) (oB : Nat) (eps : List Ep) : Robust (PaI V oB eps) := by
  rintro S k X X' ⟨p, c, vs, h1, h2, h3, h4, h5, h6, h7⟩ ho
  exact ⟨p, c, vs, ho.obj h1 h2, h2, ownsRow_only h3 ho (fun b hb e => h4 b hb e), h4, h5.step ho (fun i e => .inr (h6 i e)), h6, h7.step ho (fun i h => .inl h) (fun _ _ h => h)⟩
theorem PaI.grw (V : World) (oB : Nat) (eps : List Ep) : Grows (PaI V oB eps) := by
  rintro S S' k X X' ⟨p, c, vs, h1, h2, h3, h4, h5, h6, h7⟩ hb hs
  have hn : ∀ b, b < X.heap.size → ¬ S b → ¬ S' b := fun b hlt hn h => by
    rcases hs b h with h | h
    · exact hn h
    · omega
  refine ⟨p, c, vs, below_box hb h1, hn _ (Array.getElem?_eq_some_iff.1 (show X.heap[oB]? = _ from h1)).1 h2, ownsRow_later h3 hb, fun b h => hn b (own_block_lt h3 h).1 (h4 b h), h5.trans (Only.fresh hb _), fun i h => ?_, h7.step (Only.fresh hb S) (fun i h => .inl h) hn⟩
  rcases hs i h with h | h
  · exact h6 i h
  · have := h5.size; omega
theorem PaI.put {V : World} {oB : Nat} {eps : List Ep} {S : Nat → Prop} {k : Nat} {X : World} (h : PaI V oB eps S k X) {r : Nat} {o' : Obj} (hr : r = V.heap.size ∨ r = V.heap.size + 1) (hor : oB < V.heap.size) : PaI V oB eps S k (X.putObj r o') := by
  obtain ⟨p, c, vs, h1, h2, h3, h4, h5, h6, h7⟩ := h
  refine ⟨p, c, vs, put_onlyS.obj h1 (fun e => by have e' : oB = r := e; omega), h2, ownsRow_only h3 put_onlyS (fun b hb e => by have e' : b = r := e; have := own_block_base h3 hb; omega), h4, h5.step put_onlyS (fun i e => .inr (by have e' : i = r := e; omega)), h6, ⟨h7.1, fun j e v g1 g2 => ?_⟩⟩
  obtain ⟨p, c, rfl, g3, g4⟩ := h7.2 j e v g1 g2
  exact ⟨p, c, rfl, ownsRow_only g3 put_onlyS (fun b hb e => by have e' : b = r := e; have := own_block_base g3 hb; omega), g4⟩
/-- What lies in cells still lies there when a loop's state has changed. -/
theorem cell_put {Z X : World} {r : Nat} {l : Loop} (ho : Only (· = r) Z X) (hl : Z.heap[r]? = some (.loop l)) {g o : Nat} {v : Value} (h : Z.cell? ⟨g, o, none⟩ = some v) : X.cell? ⟨g, o, none⟩ = some v := by
  by_cases hg : g = r
  · subst hg
    simp [World.cell?, hl] at h
  · have hlt : g < Z.heap.size := by
      by_cases hlt : g < Z.heap.size
      · exact hlt
      · simp [World.cell?, Array.getElem?_eq_none (Nat.le_of_not_lt hlt)] at h
    have e := ho.block g hlt hg
    simp only [World.cell?] at h ⊢
    rw [e]
    exact h
theorem RRow.put {Z X : World} {r : Nat} {l : Loop} (ho : Only (· = r) Z X) (hl : Z.heap[r]? = some (.loop l)) {p : Option Addr} {c : Nat} {rs : List RC} (h : RRow Z p c rs) : RRow X p c rs :=
  ⟨h.le, h.top, h.nil, fun i hi => by
    obtain ⟨g, o, e, h1⟩ := h.cell i hi
    refine ⟨g, o, e, fun j hj => ?_⟩
    have h2 := h1 j hj
    rw [List.getElem?_eq_getElem (by rw [RC.len]; exact hj)] at h2 ⊢
    exact cell_put ho hl h2⟩
end Go.Proofs.Ytihbdlbnpkmafaa
