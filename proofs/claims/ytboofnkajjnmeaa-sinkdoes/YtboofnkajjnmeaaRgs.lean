/-
  A loop over a function that tells a list and has memory of its own: whatever the function owns (S) the loop's rounds leave alone, and what the loop keeps hangs on none of it. Nothing of a package.
-/
import Derived.RangeFuncNested
import Derived.RangeFuncBound
import Derived.RangeFuncCalls
import Derived.RangeFuncLeaves
import Derived.RangeFuncBox
import Derived.Shelf.Abstract
import Derived.Shelf.RegionOpen
import Derived.WalkKit
import Derived.OwnWalkIn
import Derived.TacticsInMore
import Derived.LoopNIn
import Derived.LoopIn
import Derived.Scope
import Derived.Test.YtboofnkajjnmeaaOnl
import Derived.Test.YtboofnkajjnmeaaSeg
namespace Go.Proofs.Ytboofnkajjnmeaa
open Go.RowKit Go.Shelf
attribute [local go_sem] Oper.semAt_some

theorem below_box {W W' : World} {b : Nat} {o : Obj} (hb : Below W.heap.size W W') (h : W.heap[b]? = some o) : W'.heap[b]? = some o :=
  (hb.block b (Array.getElem?_eq_some_iff.1 h).1).trans h
def Kept (S : Nat → Prop) (W W' : World) : Prop := ∀ i, S i → W'.heap[i]? = W.heap[i]?
abbrev Jt : Type := (Nat → Prop) → Nat → World → Prop
def Robust (J : Jt) : Prop := ∀ S k W W', J S k W → Only S W W' → J S k W'
def Grows (J : Jt) : Prop := ∀ S S' k W W', J S k W → Below W.heap.size W W' → (∀ i, S' i → S i ∨ (W.heap.size ≤ i ∧ i < W'.heap.size)) → J S' k W'
def TellsS (m gf : Nat) (lb : Array Value) (xs : List (Array Value)) (Rd : World → Prop) : Prop :=
  ∀ (l : Nat) (J Jx : Jt), (∀ S k W, J S k W → Rd W) → Robust J → Grows J → Robust Jx → Grows Jx →
    (∀ S k W, J S k W → k < xs.length → YieldAt Fence.wide (m - 1) Try.prog l (xs.getD k #[]) W fun e W' => Kept S W W' ∧ W.heap.size ≤ W'.heap.size ∧ ((e = .returned (.bool true) ∧ J S (k + 1) W') ∨ (e = .returned (.bool false) ∧ Jx S (k + 1) W'))) →
    ∀ W, J (fun _ => False) 0 W → CallsIn Fence.wide m Try.prog gf (#[.func (.yield l) #[] #[]] ++ lb) W fun e W' => (∃ v, e = .returned v) ∧ ((∃ S, J S xs.length W') ∨ ∃ S k, k ≤ xs.length ∧ Jx S k W')
def roundEndS (B : Nat) (I : Jt) (Ix : Code → Jt) (S : Nat → Prop) (k : Nat) (W : World) : Exit → Act → World → Prop
  | .normal, _, W' => Kept (fun i => S i ∨ i = B ∨ i = B + 1) W W' ∧ W.heap.size ≤ W'.heap.size ∧ I S (k + 1) W'
  | .ret, _, W' => Kept (fun i => S i ∨ i = B ∨ i = B + 1) W W' ∧ W.heap.size ≤ W'.heap.size ∧ Ix .ret S (k + 1) W'
  | .exit id, _, W' => Kept (fun i => S i ∨ i = B ∨ i = B + 1) W W' ∧ W.heap.size ≤ W'.heap.size ∧ Ix (.exit id) S (k + 1) W'
  | .goto t, _, W' => Kept (fun i => S i ∨ i = B ∨ i = B + 1) W W' ∧ W.heap.size ≤ W'.heap.size ∧ Ix (.goto t) S (k + 1) W'
  | .panic _, _, _ => False
  | .outgrown, _, _ => False
theorem put_onlyS {W : World} {l : Nat} {o' : Obj} : Only (· = l) W (W.putObj l o') := Only.of_grown (F := (· = l)) (grownBy_putObj' W l o') (fun k e => by simpa using e.symm)

theorem range_listS {n : Nat} (hn : 2 ≤ n) {g : Operand} {ps : Array Tmp} {assign body : Code} {Q : Exit → Act → World → Prop} {a : Act} {w : World} {gf : Nat} {lb : Array Value} {xs : List (Array Value)} {Rd : World → Prop}
    (hseq : TellsS (n - 1) gf lb xs Rd) (hg : a.eval g = .func (.func gf) #[] lb) (eg : ∀ args w, (callFunc gf args).run Try.prog w = .ok (.enter gf args) w) (hps : ∀ k, k < xs.length → (xs.getD k #[]).size = ps.size)
    (I : Jt) (Ix : Code → Jt) (hIr : Robust I) (hIg : Grows I) (hXr : ∀ c, Robust (Ix c)) (hXg : ∀ c, Grows (Ix c))
    (hIp : ∀ S k W o', I S k W → I S k (W.putObj (w.heap.size + 1) o'))
    (hXp : ∀ c S k W o', Ix c S k W → Ix c S k (W.putObj (w.heap.size + 1) o'))
    (hIn : ∀ S k W, I S k W → Rd W) (h0 : ∀ r, I (fun _ => False) 0 ((w.alloc (.deferred (some []))).alloc (.loop r))) (a₁ : Array Value → World → Act) (W₁ : Array Value → World → World) (hW₁ : ∀ k W, Below W.heap.size W (W₁ (xs.getD k #[]) W))
    (hassign : ∀ (l k : Nat) (W : World) (K : Act → World → Prop), k < xs.length → K (a₁ (xs.getD k #[]) W) (W₁ (xs.getD k #[]) W) →
      assign.wpIn (Fence.wide.inRound l) (n - 1 - 1) Try.prog (Exit.then K (fun _ _ _ => False)) { tmps := (ps.zip (xs.getD k #[])).foldl (fun t (p, v) => t.setIfInBounds p v) a.tmps, defers := [] } W)
    (hbody : ∀ (l k : Nat) (S : Nat → Prop) (W X : World), I S k X → k < xs.length → w.heap.size + 2 ≤ W.heap.size → Only (· = w.heap.size + 1) (W₁ (xs.getD k #[]) W) X → ¬ S w.heap.size → ¬ S (w.heap.size + 1) → (∀ i, S i → i < X.heap.size) → body.wpIn (Fence.wide.inRound l) (n - 1 - 1) Try.prog (roundEndS w.heap.size I Ix S k X) (a₁ (xs.getD k #[]) W) X)
    (hdone : ∀ (D : Nat) (S : Nat → Prop) (W : World), D = w.heap.size → I S xs.length W → W.heap[D]? = some (.deferred (some [])) → Q .normal { a with defers := { target := .collected D, args := #[] } :: a.defers } W)
    (hstop : ∀ (D : Nat) (c : Code) (S : Nat → Prop) (k : Nat) (W : World), D = w.heap.size → k ≤ xs.length → Ix c S k W → W.heap[D]? = some (.deferred (some [])) → c.wpIn Fence.wide n Try.prog Q { a with defers := { target := .collected D, args := #[] } :: a.defers } W) :
    (Code.rangeFunc g ps assign body).wpIn Fence.wide n Try.prog Q a w := by
  refine wpIn_rangeFunc fun fn hfn => ?_
  obtain ⟨R, hR⟩ : ∃ R : LoopState → Option Code → Loop, R = fun st pe => { state := st, pending := pe, fn, tmps := a.tmps, params := ps, assign, body, defers := w.heap.size } := ⟨_, rfl⟩
  obtain ⟨W1, hW1⟩ : ∃ W1, W1 = (w.alloc (.deferred (some []))).alloc (.loop (R .ready none)) := ⟨_, rfl⟩
  have hD1 : W1.heap[w.heap.size]? = some (.deferred (some [])) := by
    rw [hW1]; exact ((alloc_below _ _).block _ (by simp)).trans (heap_alloc_new w _)
  have hL1 : W1.heap[w.heap.size + 1]? = some (.loop (R .ready none)) := by
    rw [hW1]; have := heap_alloc_new (w.alloc (.deferred (some []))) (.loop (R .ready none)); rwa [World.size_alloc] at this
  refine ⟨w.heap.size + 1, [{ target := .collected w.heap.size, args := #[] }], W1, { target := .fn (.func gf) lb, args := #[.func (.yield (w.heap.size + 1)) #[] #[]] }, W1, gf,
    #[.func (.yield (w.heap.size + 1)) #[] #[]] ++ lb, W1, ?_, ?_, ?_, ?_, fun _ => by omega, ?_⟩
  · rw [hW1, hR]
    exact run_enterLoop_outer _ _ _ _ _
  · simp only [resolve, hg]
    simp [go_sem]
  · intro f' _
    trivial
  · simp [invoke, eg]
  have hSlt : ∀ {S S' : Nat → Prop} {W W' : World} {b : Nat}, ¬ S b → b < W.heap.size → (∀ i, S' i → S i ∨ (W.heap.size ≤ i ∧ i < W'.heap.size)) → ¬ S' b := fun hn hb h hs => by
    rcases h _ hs with h1 | h1
    · exact hn h1
    · omega
  refine (hseq (w.heap.size + 1) (fun S k W => I S k W ∧ W.heap[w.heap.size + 1]? = some (.loop (R .ready none)) ∧ W.heap[w.heap.size]? = some (.deferred (some [])) ∧ ¬ S w.heap.size ∧ ¬ S (w.heap.size + 1) ∧ ∀ i, S i → i < W.heap.size)
    (fun S k W => ∃ c, Ix c S k W ∧ W.heap[w.heap.size + 1]? = some (.loop (R .done (some c))) ∧ W.heap[w.heap.size]? = some (.deferred (some [])) ∧ ¬ S w.heap.size ∧ ¬ S (w.heap.size + 1)) (fun S k W h => hIn S k W h.1) ?_ ?_ ?_ ?_ ?_ W1 ⟨by rw [hW1]; exact h0 _, hL1, hD1, fun e => e, fun e => e, fun _ e => e.elim⟩).mono ?_
  · rintro S k W W' ⟨h1, h2, h3, h4, h5, h6⟩ ho
    exact ⟨hIr S k W W' h1 ho, ho.obj h2 h5, ho.obj h3 h4, h4, h5, fun i hi => Nat.lt_of_lt_of_le (h6 i hi) ho.size⟩
  · rintro S S' k W W' ⟨h1, h2, h3, h4, h5, h6⟩ hb hs
    refine ⟨hIg S S' k W W' h1 hb hs, below_box hb h2, below_box hb h3, hSlt h4 (Array.getElem?_eq_some_iff.1 h3).1 hs, hSlt h5 (Array.getElem?_eq_some_iff.1 h2).1 hs, fun i hi => ?_⟩
    rcases hs i hi with h | h
    · exact Nat.lt_of_lt_of_le (h6 i h) hb.size
    · exact h.2
  · rintro S k W W' ⟨c, h1, h2, h3, h4, h5⟩ ho
    exact ⟨c, hXr c S k W W' h1 ho, ho.obj h2 h5, ho.obj h3 h4, h4, h5⟩
  · rintro S S' k W W' ⟨c, h1, h2, h3, h4, h5⟩ hb hs
    exact ⟨c, hXg c S S' k W W' h1 hb hs, below_box hb h2, below_box hb h3, hSlt h4 (Array.getElem?_eq_some_iff.1 h3).1 hs, hSlt h5 (Array.getElem?_eq_some_iff.1 h2).1 hs⟩
  · rintro S k W ⟨hi, hl, hd, hS0, hS1, hS2⟩ hk
    have hy := run_yield (P := Try.prog) (w := W) (args := xs.getD k #[]) hl (by rw [hR]; simp only; rw [hps k hk])
    rw [hR] at hy
    have hltL := (Array.getElem?_eq_some_iff.1 hl).1
    have hlA : (W₁ (xs.getD k #[]) W).heap[w.heap.size + 1]? = some (.loop (R .ready none)) := ((hW₁ k W).block _ hltL).trans hl
    have hdA : (W₁ (xs.getD k #[]) W).heap[w.heap.size]? = some (.deferred (some [])) := ((hW₁ k W).block _ (Array.getElem?_eq_some_iff.1 hd).1).trans hd
    have hiA : I S k (W₁ (xs.getD k #[]) W) := hIg S S k _ _ hi (hW₁ k W) (fun i h => .inl h)
    refine ⟨fn, _, assign, body, hy, roundIn_of_wpIn hfn (hassign _ k W _ hk ⟨_, run_beginRound hlA (by rw [hR]), ?_⟩)⟩
    obtain ⟨W2, hW2⟩ : ∃ W2, W2 = (W₁ (xs.getD k #[]) W).putObj (w.heap.size + 1) (.loop { R .ready none with state := .busy }) := ⟨_, rfl⟩
    rw [← hW2]
    have hl2 : W2.heap[w.heap.size + 1]? = some (.loop { R .ready none with state := .busy }) := by rw [hW2]; exact World.putObj_heap_same (Array.getElem?_eq_some_iff.1 hlA).1
    have hd2 : W2.heap[w.heap.size]? = some (.deferred (some [])) := by rw [hW2]; exact (World.putObj_heap_other (by omega)).trans hdA
    have hi2 : I S k W2 := by rw [hW2]; exact hIp _ _ _ _ hiA
    have hoX : Only (· = w.heap.size + 1) (W₁ (xs.getD k #[]) W) W2 := by rw [hW2]; exact put_onlyS
    have hS3 : ∀ i, S i → i < W2.heap.size := fun i h => Nat.lt_of_lt_of_le (hS2 i h) (Nat.le_trans (hW₁ k W).size hoX.size)
    have hkW : Kept S W W2 := fun i h => by
      rw [hoX.block i (Nat.lt_of_lt_of_le (hS2 i h) (hW₁ k W).size) (fun e => hS1 (by have e' : i = w.heap.size + 1 := e; rw [← e']; exact h)), (hW₁ k W).block i (hS2 i h)]
    refine wpIn_mono (hbody _ k S W W2 hi2 hk (by omega) hoX hS0 hS1 hS3) ?_
    intro e a3 W3 hend
    have fin : ∀ (jump : Option Code), Kept (fun i => S i ∨ i = w.heap.size ∨ i = w.heap.size + 1) W2 W3 → W2.heap.size ≤ W3.heap.size → ∃ v w', (Instr.endRound (w.heap.size + 1) jump).run Try.prog W3 = .ok v w' ∧ v = .bool jump.isNone ∧ w' = W3.putObj (w.heap.size + 1) (.loop (R (if jump.isNone then .ready else .done) jump)) ∧ W3.heap[w.heap.size + 1]? = some (.loop { R .ready none with state := .busy }) ∧ W3.heap[w.heap.size]? = some (.deferred (some [])) ∧ Kept S W w' ∧ W.heap.size ≤ w'.heap.size := by
      intro jump hk3 hz3
      have hl3 := (hk3 _ (.inr (.inr rfl))).trans hl2
      have hd3 := (hk3 _ (.inr (.inl rfl))).trans hd2
      have hend := run_endRound (P := Try.prog) jump hl3
      refine ⟨_, _, hend, ?_, ?_, hl3, hd3, ?_, ?_⟩
      · cases jump <;> rfl
      · rw [hR]
      · intro i h
        rw [World.putObj_heap_other (fun e => hS1 (by rw [← e]; exact h)), hk3 i (.inl h), hkW i h]
      · have := hoX.size
        have := (hW₁ k W).size
        simp
        omega
    have stop : ∀ (c : Code), Kept (fun i => S i ∨ i = w.heap.size ∨ i = w.heap.size + 1) W2 W3 → W2.heap.size ≤ W3.heap.size → Ix c S (k + 1) W3 → ∃ v w', (Instr.endRound (w.heap.size + 1) (some c)).run Try.prog W3 = .ok v w' ∧ (Kept S W w' ∧ W.heap.size ≤ w'.heap.size ∧ ((Ending.returned v = .returned (.bool true) ∧ I S (k + 1) w' ∧ w'.heap[w.heap.size + 1]? = some (.loop (R .ready none)) ∧ w'.heap[w.heap.size]? = some (.deferred (some [])) ∧ ¬ S w.heap.size ∧ ¬ S (w.heap.size + 1) ∧ ∀ i, S i → i < w'.heap.size) ∨ (Ending.returned v = .returned (.bool false) ∧ ∃ c, Ix c S (k + 1) w' ∧ w'.heap[w.heap.size + 1]? = some (.loop (R .done (some c))) ∧ w'.heap[w.heap.size]? = some (.deferred (some [])) ∧ ¬ S w.heap.size ∧ ¬ S (w.heap.size + 1)))) := by
      intro c hk3 hz3 hx
      obtain ⟨v, w', r1, rfl, rfl, r4, r5, r6, r7⟩ := fin (some c) hk3 hz3
      refine ⟨_, _, r1, r6, r7, .inr ⟨rfl, c, hXp _ _ _ _ _ hx, ?_, (World.putObj_heap_other (by omega)).trans r5, hS0, hS1⟩⟩
      rw [World.putObj_heap_same (Array.getElem?_eq_some_iff.1 r4).1]
      rfl
    cases e with
    | normal =>
      obtain ⟨hk3, hz3, hi3⟩ := hend
      obtain ⟨v, w', r1, rfl, rfl, r4, r5, r6, r7⟩ := fin none hk3 hz3
      refine ⟨_, _, r1, r6, r7, .inl ⟨rfl, hIp _ _ _ _ hi3, ?_, (World.putObj_heap_other (by omega)).trans r5, hS0, hS1, fun i h => Nat.lt_of_lt_of_le (hS2 i h) r7⟩⟩
      rw [World.putObj_heap_same (Array.getElem?_eq_some_iff.1 r4).1]
      rfl
    | ret => exact stop .ret hend.1 hend.2.1 hend.2.2
    | exit id => exact stop (.exit id) hend.1 hend.2.1 hend.2.2
    | goto t => exact stop (.goto t) hend.1 hend.2.1 hend.2.2
    | panic c => exact hend.elim
    | outgrown => exact hend.elim
  · rintro e W2 ⟨⟨r, rfl⟩, ⟨S, hi, hl, hd, _⟩ | ⟨S, k, hk, c, hx, hl, hd, _⟩⟩
    · have hend := run_endLoop (P := Try.prog) hl (by rw [hR]; simp)
      rw [hR] at hend
      exact ⟨none, _, hend, hdone _ S _ rfl (hIp _ _ _ _ hi) ((World.putObj_heap_other (by omega)).trans hd)⟩
    · have hend := run_endLoop (P := Try.prog) hl (by rw [hR]; simp)
      rw [hR] at hend
      exact ⟨some c, _, hend, hstop _ c S k _ rfl hk (hXp _ _ _ _ _ hx) ((World.putObj_heap_other (by omega)).trans hd)⟩
end Go.Proofs.Ytboofnkajjnmeaa
