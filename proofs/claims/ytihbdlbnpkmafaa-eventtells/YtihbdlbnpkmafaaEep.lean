/-
  What Epochs tells: each barrier's id with the records ahead of it, and at last 0 with those behind the last, if there are any. The conditions: that the events lie there; lengths.
-/
import Derived.Test.YtihbdlbnpkmafaaErt
import Derived.Test.YtihbdlbnpkmafaaRgv
import Derived.Test.YtihbdlbnpkmafaaEtd
import Derived.Maps.OwnIn
namespace Go.Proofs.Ytihbdlbnpkmafaa
open Go.RowKit Go.Shelf
attribute [local go_sem] Oper.semAt_some

def epS : List EV → List RC → List (Int × List RC)
  | [], s => if s.length = 0 then [] else [(0, s)]
  | e :: ks, s => if isR e then epS ks (s ++ [e.rc]) else (e.id, s) :: epS ks []
def epochsL (ks : List EV) : List (Int × List RC) := epS ks []
def TvE (ks : List EV) (k : Nat) (x : Array Value) (W : World) : Prop := ∃ id rs p c, (epochsL ks)[k]? = some (id, rs) ∧ x = #[.int .i64 id, .slice p rs.length c] ∧ RRow W p c rs
/-- Where the loop of Epochs stands behind k events: so much is told, so much is gathered. -/
def EpAt (ks : List EV) (k : Nat) (dn : List (Int × List RC)) (s : List RC) : Prop := epochsL ks = dn ++ epS (ks.drop k) s ∧ s.length ≤ k
theorem EpAt.start (ks : List EV) : EpAt ks 0 [] [] := ⟨rfl, Nat.le_refl _⟩
theorem drop_consE {ks : List EV} {k : Nat} (hk : k < ks.length) {x : EV} (hx : ks[k]! = x) : ks.drop k = x :: ks.drop (k + 1) := by
  rw [List.drop_eq_getElem_cons hk, ← hx, getElem!_pos ks k hk]
theorem EpAt.rec {ks : List EV} {k : Nat} {dn : List (Int × List RC)} {s : List RC} (h : EpAt ks k dn s) (hk : k < ks.length) {x : EV} (hx : ks[k]! = x) (hr : isR x = true) : EpAt ks (k + 1) dn (s ++ [x.rc]) := by
  refine ⟨?_, by have := h.2; simp; omega⟩
  rw [h.1, drop_consE hk hx]
  conv => lhs; rw [epS, if_pos hr]
theorem EpAt.bar {ks : List EV} {k : Nat} {dn : List (Int × List RC)} {s : List RC} (h : EpAt ks k dn s) (hk : k < ks.length) {x : EV} (hx : ks[k]! = x) (hr : isR x = false) : EpAt ks (k + 1) (dn ++ [(x.id, s)]) [] ∧ (epochsL ks)[dn.length]? = some (x.id, s) ∧ dn.length < (epochsL ks).length := by
  have h1 : epochsL ks = dn ++ (x.id, s) :: epS (ks.drop (k + 1)) [] := by
    rw [h.1, drop_consE hk hx]
    conv => lhs; rw [epS, if_neg (by simp [hr])]
  refine ⟨⟨by rw [h1]; simp, Nat.zero_le _⟩, ?_, ?_⟩
  · rw [h1]; simp
  · rw [h1]; simp
theorem EpAt.end {ks : List EV} {k : Nat} {dn : List (Int × List RC)} {s : List RC} (h : EpAt ks k dn s) (hk : ks.length ≤ k) : (s.length = 0 → dn.length = (epochsL ks).length) ∧ (s.length ≠ 0 → (epochsL ks)[dn.length]? = some (0, s) ∧ dn.length + 1 = (epochsL ks).length) := by
  have h1 := h.1
  rw [List.drop_eq_nil_of_le hk] at h1
  unfold epS at h1
  refine ⟨fun h0 => ?_, fun h0 => ?_⟩
  · rw [h1, if_pos h0]; simp
  · rw [h1, if_neg h0]; simp
/-- What the loop of Epochs keeps. -/
def EpI (J : Jt) (ks : List EV) (B yB sB : Nat) (yo : Obj) : Jt := fun S k X =>
  ∃ (T : Nat → Prop) (dn : List (Int × List RC)) (s : List RC) (p : Option Addr) (c : Nat), EpAt ks k dn s ∧ J T dn.length X ∧ (∀ i, S i → T i) ∧ (T yB ∧ T sB ∧ T B ∧ T (B + 1)) ∧ (∀ b, (Value.slice p s.length c).ownBlock = some b → T b ∧ ¬ S b) ∧
    X.heap[yB]? = some yo ∧ Boxed X sB 54 (.slice p s.length c) ∧ ¬ S yB ∧ ¬ S sB ∧ X.ownsRow (B + 2) 24 2 (.slice p s.length c) s.length (s.flatMap RC.cells)
def EpX (Jx : Jt) (N B : Nat) (c : Code) : Jt := fun S _ X => c = .ret ∧ ∃ T k', k' ≤ N ∧ Jx T k' X ∧ (∀ i, S i → T i) ∧ T B ∧ T (B + 1)
theorem EpI.rob {J : Jt} (hr : Robust J) (ks : List EV) (B yB sB : Nat) (yo : Obj) : Robust (EpI J ks B yB sB yo) := by
  rintro S k X X' ⟨T, dn, s, p, c, h1, h2, h3, h4, h5, h6, h7, h8, h9, h10⟩ ho
  exact ⟨T, dn, s, p, c, h1, hr _ _ _ _ h2 (ho.mono (fun i _ h => h3 i h)), h3, h4, h5, ho.obj h6 h8, ho.obj h7 h9, h8, h9, ownsRow_only h10 ho (fun b hb e => (h5 b hb).2 e)⟩
theorem EpI.grw {J : Jt} (hg : Grows J) (ks : List EV) (B yB sB : Nat) (yo : Obj) : Grows (EpI J ks B yB sB yo) := by
  rintro S S' k X X' ⟨T, dn, s, p, c, h1, h2, h3, h4, h5, h6, h7, h8, h9, h10⟩ hb hs
  have hn : ∀ b, b < X.heap.size → ¬ S b → ¬ S' b := fun b hlt hn h => by
    rcases hs b h with h | h
    · exact hn h
    · omega
  refine ⟨fun i => T i ∨ S' i, dn, s, p, c, h1, hg _ _ _ _ _ h2 hb (fun i h => ?_), fun i h => .inr h, ⟨.inl h4.1, .inl h4.2.1, .inl h4.2.2.1, .inl h4.2.2.2⟩, fun b h => ⟨.inl (h5 b h).1, hn b ?_ (h5 b h).2⟩, below_box hb h6, below_box hb h7, hn _ (Array.getElem?_eq_some_iff.1 h6).1 h8, hn _ (Array.getElem?_eq_some_iff.1 (show X.heap[sB]? = _ from h7)).1 h9, ownsRow_later h10 hb⟩
  · rcases h with h | h
    · exact .inl h
    · rcases hs i h with h | h
      · exact .inl (h3 i h)
      · exact .inr h
  · exact (own_block_lt h10 h).1
theorem EpI.put {J : Jt} (hr : Robust J) {ks : List EV} {B yB sB : Nat} {yo : Obj} (hy : yB < B) (hsb : sB < B) {S : Nat → Prop} {k : Nat} {X : World} {D : Nat} {o' : Obj} (hD : D = B ∨ D = B + 1) (h : EpI J ks B yB sB yo S k X) : EpI J ks B yB sB yo S k (X.putObj D o') := by
  obtain ⟨T, dn, s, p, c, h1, h2, h3, h4, h5, h6, h7, h8, h9, h10⟩ := h
  have hTD : T D := by rcases hD with rfl | rfl <;> first | exact h4.2.2.1 | exact h4.2.2.2
  exact ⟨T, dn, s, p, c, h1, hr _ _ _ _ h2 (put_onlyS.mono (fun i _ h => by have h' : i = D := h; rw [h']; exact hTD)), h3, h4, h5, put_onlyS.obj h6 (fun e => by have e' : yB = D := e; omega), put_onlyS.obj h7 (fun e => by have e' : sB = D := e; omega), h8, h9, ownsRow_only h10 put_onlyS (fun b hb e => by have e' : b = D := e; have := own_block_base h10 hb; omega)⟩
theorem EpX.rob {Jx : Jt} (hr : Robust Jx) (N B : Nat) (c : Code) : Robust (EpX Jx N B c) := by
  rintro S k X X' ⟨h1, T, k', h2, h3, h4, h5⟩ ho
  exact ⟨h1, T, k', h2, hr _ _ _ _ h3 (ho.mono (fun i _ h => h4 i h)), h4, h5⟩
theorem EpX.grw {Jx : Jt} (hg : Grows Jx) (N B : Nat) (c : Code) : Grows (EpX Jx N B c) := by
  rintro S S' k X X' ⟨h1, T, k', h2, h3, h4, h5, h6⟩ hb hs
  refine ⟨h1, fun i => T i ∨ S' i, k', h2, hg _ _ _ _ _ h3 hb (fun i h => ?_), fun i h => .inr h, .inl h5, .inl h6⟩
  rcases h with h | h
  · exact .inl h
  · rcases hs i h with h | h
    · exact .inl (h4 i h)
    · exact .inr h
theorem EpX.put {Jx : Jt} (hr : Robust Jx) {N B : Nat} {c : Code} {S : Nat → Prop} {k : Nat} {X : World} {D : Nat} {o' : Obj} (hD : D = B ∨ D = B + 1) (h : EpX Jx N B c S k X) : EpX Jx N B c S k (X.putObj D o') := by
  obtain ⟨h1, T, k', h2, h3, h4, h5, h6⟩ := h
  have hTD : T D := by rcases hD with rfl | rfl <;> first | exact h5 | exact h6
  exact ⟨h1, T, k', h2, hr _ _ _ _ h3 (put_onlyS.mono (fun i _ h => by have h' : i = D := h; rw [h']; exact hTD)), h4, h5, h6⟩
end Go.Proofs.Ytihbdlbnpkmafaa
