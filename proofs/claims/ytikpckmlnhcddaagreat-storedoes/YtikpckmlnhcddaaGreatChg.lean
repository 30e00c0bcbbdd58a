/-
  What a file is behind a pending write more, behind bytes laid over its content, behind bytes put to its end. The conditions: the file lies as files do.
-/
import Derived.Test.YtikpckmlnhcddaaGreatSet
import Derived.Test.YtikpckmlnhcddaaGreatCpy
namespace Go.Proofs.YtikpckmlnhcddaaGreat
open Go.RowKit

theorem ownsRow_later {A B : World} {base n k : Nat} {e : TypeId} {v : Value} {xs : List Value} (h : A.ownsRow base e k v n xs) (hb : Below A.heap.size A B) : B.ownsRow base e k v n xs :=
  ownsRow_only h (Only.fresh hb fun _ => False) (fun _ _ h => h)
theorem rows_other {A B : World} {row : Option Nat} {base base' n n' k k' : Nat} {e e' : TypeId} {v v' : Value} {xs ys : List Value} (h : A.ownsRow base e k v n xs) (h' : A.ownsRow base' e' k' v' n' ys) (hne : e ≠ e') (hr : row = v'.ownBlock) (hg : A.grownBy B row) : B.ownsRow base e k v n xs :=
  ownsRow_only (F := fun i => v'.ownBlock = some i) h (Only.of_grown hg (fun i e => by rw [← hr]; exact e)) (fun b hb hb' => by
    obtain ⟨_, c1, h1⟩ := own_block_lt h hb
    obtain ⟨_, c2, h2⟩ := own_block_lt h' hb'
    rw [h1] at h2
    simp at h2
    exact hne h2.2)

theorem FRep.copied {W w' : World} {f : MF} (h : FRep W f) (hs : ∀ x ∈ f.ws, Apart f.cv x.cov) {c : List Int} (hl : c.length = f.c.length) (hu : U8 c) (hown : w'.ownsRow 0 5 1 f.cv f.c.length (c.map (Value.int .u8))) (hg : W.grownBy w' f.cv.ownBlock) :
    Chg W w' f { f with c := c } := by
  refine ⟨Only.of_grown hg (fun k e => .inr (.inl e)), ⟨?_, by rw [← hl] at hown; exact hown, rows_other h.pen h.con (by decide) rfl hg, fun x hx => ⟨?_, (h.cov x hx).2⟩, hu⟩, rfl, rfl, fun b hb => .inl hb, fun b hb => .inl hb, fun b hb => .inl hb, hs⟩
  · exact (hg.block f.fb (Array.getElem?_eq_some_iff.1 h.box).1 (fun e => h.not_uint8 e.symm)).trans h.box
  · exact ownsRow_only (F := fun i => f.cv.ownBlock = some i) (h.cov x hx).1 (Only.of_grown hg (fun i e => e)) (fun b hb hb' => hs x hx b hb' hb)

theorem FRep.appended {W w' : World} {f : MF} (h : FRep W f) (hs : ∀ x ∈ f.ws, Apart f.cv x.cov) {v : Value} {c : List Int} (hu : U8 c) (hown : w'.ownsRow 0 5 1 v c.length (c.map (Value.int .u8))) (hg : W.grownBy w' f.cv.ownBlock)
    (hat : v.ownBlock = f.cv.ownBlock ∨ v.ownBlock = some W.heap.size) : Chg W (w'.setCell ⟨f.fb, 0, none⟩ v) f { f with c := c, cv := v } := by
  have hbox : w'.heap[f.fb]? = some (.cells #[f.cv, f.pv] 80 (0, 0)) := (hg.block f.fb (Array.getElem?_eq_some_iff.1 h.box).1 (fun e => h.not_uint8 e.symm)).trans h.box
  have ho : Only (· = f.fb) w' (w'.setCell ⟨f.fb, 0, none⟩ v) := Only.set _ _ _ _ rfl
  have hpen := rows_other h.pen h.con (by decide) rfl hg
  have hcov : ∀ x ∈ f.ws, w'.ownsRow 0 5 1 x.cov x.p.cl.length (x.p.cl.map (Value.int .u8)) := fun x hx =>
    ownsRow_only (F := fun i => f.cv.ownBlock = some i) (h.cov x hx).1 (Only.of_grown hg (fun i e => e)) (fun b hb hb' => hs x hx b hb' hb)
  have hlt : ∀ x ∈ f.ws, ∀ b, x.cov.ownBlock = some b → b < W.heap.size := fun x hx b hb => (own_block_lt (h.cov x hx).1 hb).1
  have notfb : ∀ {n k : Nat} {e : TypeId} {u : Value} {xs : List Value}, w'.ownsRow 0 e k u n xs → e ≠ 80 → u.ownBlock ≠ some f.fb := fun hr hne e => by
    obtain ⟨_, cur, hc⟩ := own_block_lt hr e
    rw [hbox] at hc
    simp at hc
    exact hne hc.2.symm
  refine ⟨(Only.of_grown hg (fun k e => .inr (.inl e))).step ho (fun i e => .inl (.inl e)), ⟨by rw [heap_set_same hbox]; rfl, ownsRow_only hown ho (fun b hb e => ?_), ownsRow_only hpen ho (fun b hb e => ?_), fun x hx => ⟨ownsRow_only (hcov x hx) ho (fun b hb e => ?_), (h.cov x hx).2⟩, hu⟩, rfl, rfl, fun b hb => ?_, fun b hb => .inl hb, fun b hb => .inl hb, fun x hx b hb hxb => ?_⟩
  · subst e; exact notfb hown (by decide) hb
  · subst e; exact notfb hpen (by decide) hb
  · subst e; exact notfb (hcov x hx) (by decide) hb
  · rcases hat with h1 | h1
    · exact .inl (by rw [← h1]; exact hb)
    · rw [h1] at hb; exact .inr (by simp at hb; omega)
  · rcases hat with h1 | h1
    · exact hs x hx b (by rw [← h1]; exact hb) hxb
    · rw [h1] at hb
      have := hlt x hx b hxb
      simp at hb; omega

/-- A pending write more. -/
theorem FRep.pushed {W w1 w2 : World} {f : MF} {o : Obj} (h : FRep W f) (hs : ∀ x ∈ f.ws, Apart f.cv x.cov) (hb : Below W.heap.size W w1) {cov : Value} {p : PW} (hu : U8 p.cl) (hown : w1.ownsRow W.heap.size 5 1 cov p.cl.length (p.cl.map (Value.int .u8)))
    (hg : (w1.alloc o).grownBy w2 f.pv.ownBlock) {pv : Value} (hpv : w2.ownsRow 0 93 4 pv (f.ws.length + 1) (f.ws.flatMap MW.cells ++ MW.cells ⟨p, cov⟩)) (hat : f.pv.ownBlock = pv.ownBlock ∨ ∃ g, pv.ownBlock = some g ∧ W.heap.size ≤ g) :
    Chg W (w2.setCell ⟨f.fb, 1, none⟩ pv) f { f with ws := f.ws ++ [⟨p, cov⟩], pv := pv } := by
  have hsz := hb.size
  have hb' : Below W.heap.size W (w1.alloc o) := hb.trans ((alloc_below w1 o).mono hb.size)
  have box1 : (w1.alloc o).heap[f.fb]? = some (.cells #[f.cv, f.pv] 80 (0, 0)) := (hb'.block f.fb (Array.getElem?_eq_some_iff.1 h.box).1).trans h.box
  have hpen1 := ownsRow_later h.pen hb'
  have hbox : w2.heap[f.fb]? = some (.cells #[f.cv, f.pv] 80 (0, 0)) := (hg.block f.fb (Array.getElem?_eq_some_iff.1 box1).1 (fun e => h.not_write e.symm)).trans box1
  have ho : Only (· = f.fb) w2 (w2.setCell ⟨f.fb, 1, none⟩ pv) := Only.set _ _ _ _ rfl
  have hcon := rows_other (ownsRow_later h.con hb') hpen1 (by decide) rfl hg
  have hcov : ∀ x ∈ f.ws, w2.ownsRow 0 5 1 x.cov x.p.cl.length (x.p.cl.map (Value.int .u8)) := fun x hx => rows_other (ownsRow_later (h.cov x hx).1 hb') hpen1 (by decide) rfl hg
  have hnew : w2.ownsRow W.heap.size 5 1 cov p.cl.length (p.cl.map (Value.int .u8)) := rows_other (ownsRow_later hown (alloc_below w1 o)) hpen1 (by decide) rfl hg
  have hnew0 : w2.ownsRow 0 5 1 cov p.cl.length (p.cl.map (Value.int .u8)) := own_base hnew (Nat.zero_le _)
  have notfb : ∀ {n k : Nat} {e : TypeId} {u : Value} {xs : List Value}, w2.ownsRow 0 e k u n xs → e ≠ 80 → u.ownBlock ≠ some f.fb := fun hr hne e => by
    obtain ⟨_, cur, hc⟩ := own_block_lt hr e
    rw [hbox] at hc
    simp at hc
    exact hne hc.2.symm
  refine ⟨?_, ⟨by rw [heap_set_same hbox]; rfl, ownsRow_only hcon ho (fun b hb e => ?_), ?_, fun x hx => ?_, h.u8⟩, rfl, rfl, fun b hb => .inl hb, fun b hb => ?_, fun b hb => ?_, fun x hx => ?_⟩
  · exact ((Only.fresh hb' _).trans (Only.of_grown hg (fun k e => .inr (.inr e)))).step ho (fun i e => .inl (.inl e))
  · subst e; exact notfb hcon (by decide) hb
  · have := ownsRow_only hpv ho (fun b hb e => by subst e; exact notfb hpv (by decide) hb)
    simpa using this
  · simp at hx
    rcases hx with hx | rfl
    · exact ⟨ownsRow_only (hcov x hx) ho (fun b hb e => by subst e; exact notfb (hcov x hx) (by decide) hb), (h.cov x hx).2⟩
    · exact ⟨ownsRow_only hnew0 ho (fun b hb e => by subst e; exact notfb hnew0 (by decide) hb), hu⟩
  · rcases hat with h1 | ⟨g, h1, h2⟩
    · exact .inl (by rw [h1]; exact hb)
    · rw [h1] at hb; exact .inr (by simp at hb; omega)
  · obtain ⟨x, hx, hxb⟩ := hb
    simp at hx
    rcases hx with hx | rfl
    · exact .inl ⟨x, hx, hxb⟩
    · exact .inr (own_block_base hnew hxb)
  · simp at hx
    rcases hx with hx | rfl
    · exact hs x hx
    · intro b hb hxb
      have h1 := own_block_base hnew hxb
      have h2 := (own_block_lt h.con hb).1
      omega

end Go.Proofs.YtikpckmlnhcddaaGreat
