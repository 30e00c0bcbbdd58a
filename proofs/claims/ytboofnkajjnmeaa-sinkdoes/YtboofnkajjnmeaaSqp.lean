/-
  SinkGrows, plainly and walked. The conditions: that the operations lie there; lengths.
-/
import Derived.Test.YtboofnkajjnmeaaSqo
namespace Go.Proofs.Ytboofnkajjnmeaa
open Go.RowKit Go.Maps Go.Shelf

theorem above_self : ∀ l : List Int, aboveC l l = true
  | [] => rfl
  | a :: l => by
    unfold aboveC
    rw [above_self l]
    simp
def Grow (s s' : SK) : Prop := (∃ t, s'.out = s.out ++ t) ∧ aboveC s'.vec s.vec = true ∧ s.reg ≤ s'.reg
theorem Grow.rfl' (s : SK) : Grow s s := ⟨⟨[], by simp⟩, above_self _, Int.le_refl _⟩
theorem Grow.same {s s' : SK} (h1 : s'.out = s.out) (h2 : s'.vec = s.vec) (h3 : s.reg ≤ s'.reg) : Grow s s' := ⟨⟨[], by rw [h1]; simp⟩, by rw [h2]; exact above_self _, h3⟩
theorem rais_out (s : SK) (e : Int) : (raisC s e).out = s.out := by
  unfold raisC
  split <;> rfl
theorem grow_rais (s : SK) (e : Int) : Grow s (raisC s e) := Grow.same (rais_out s e) (vec_rais s e) (by rw [rais_max]; omega)
theorem grow_fen (s : SK) (e : Int) : Grow s (fenS s e) := by
  unfold fenS
  split
  · exact grow_rais s e
  · exact Grow.rfl' s
theorem grow_pre (p : Int) (s : SK) (t : TX) : Grow s (preS p s t) := by
  have hr := grow_rais s t.ep
  unfold preS
  split
  · split
    · exact Grow.rfl' s
    · unfold preS1
      split
      · exact hr
      · split
        · exact hr
        · split
          · split
            · exact hr
            · exact hr
          · exact hr
  · exact Grow.rfl' s
theorem grow_com (s : SK) (e i : Int) : Grow s (comS s e i) := by
  have hr := grow_rais s e
  unfold comS
  split
  · split
    · exact Grow.rfl' s
    · unfold comS1
      split
      · exact hr
      · split
        · split
          · rename_i t _ hs
            refine ⟨⟨t.rs.drop ((raisC s e).out.length - t.beg.toNat), ?_⟩, ?_, ?_⟩
            · show (raisC s e).out ++ t.rs.drop ((raisC s e).out.length - t.beg.toNat) = s.out ++ t.rs.drop ((raisC s e).out.length - t.beg.toNat)
              rw [rais_out]
            · have h9 := (suit_zero hs).2.1
              rw [vec_rais] at h9
              exact h9
            · exact hr.2.2
          · exact hr
        · exact hr
  · exact Grow.rfl' s
theorem grow_abo (s : SK) (e i : Int) : Grow s (aboS s e i) := by
  have hr := grow_rais s e
  unfold aboS
  split
  · split
    · exact Grow.rfl' s
    · unfold aboS1
      split
      · exact hr
      · exact hr
  · exact Grow.rfl' s
theorem grow_do (n : Nat) (s : SK) (o : OP) : Grow s (doS n s o) := by
  unfold doS
  split
  · exact grow_fen _ _
  · split
    · exact grow_pre _ _ _
    · split
      · exact grow_com _ _ _
      · split
        · exact grow_abo _ _ _
        · exact Grow.rfl' s
theorem do_len (n : Nat) (s : SK) (o : OP) : (doS n s o).done.length ≤ s.done.length + 1 := by
  have h1 := fen_len s o.x.t.ep
  have h2 := pre_len n s o.x.t
  have h3 := com_len s o.x.t.ep o.x.t.id
  have h4 := abo_len s o.x.t.ep o.x.t.id
  unfold doS
  split
  · omega
  · split
    · omega
    · split
      · omega
      · split <;> omega
theorem RP.rs {B : Nat} {W : World} {b n : Nat} {q : QK} (h : RP B W b n q) : RS W b n q ∧ ∀ i, q.blk i → B ≤ i := by
  have key : ∀ {t : TypeId} {k m c : Nat} {p : Option Addr} {xs : List Value}, W.ownsRow B t k (.slice p m c) m xs → t ≠ 75 → ∀ i, InC p c i → B ≤ i ∧ i < W.heap.size ∧ i ≠ b := fun hr ht i hi => by
    have h1 := own_new hr i hi
    refine ⟨h1.1, h1.2, fun e => ?_⟩
    obtain ⟨a, ha, _, hb⟩ := hi
    obtain ⟨_, c2, e2⟩ := own_block_lt hr (b := i) (by rw [ha, hb]; rfl)
    rw [e, h.box] at e2
    simp at e2
    exact ht e2.2.symm
  have all : ∀ i, q.blk i → B ≤ i ∧ i < W.heap.size ∧ i ≠ b := fun i hi => by
    rcases hi with hi | hi | hi | hi | ⟨x, hx, hi⟩
    · exact key h.own.out (by decide) i hi
    · exact key h.own.vec (by decide) i hi
    · exact key h.own.done (by decide) i hi
    · exact key h.own.pre (by decide) i hi
    · rcases hi with hi | hi
      · exact key (h.own.ts x hx).r (by decide) i hi
      · exact key (h.own.ts x hx).v (by decide) i hi
  exact ⟨⟨h.box, h.own.vis, fun i hi => (all i hi).2.1, fun hi => (all b hi).2.2 rfl⟩, fun i hi => (all i hi).1⟩
end Go.Proofs.Ytboofnkajjnmeaa
