/-
  A loop over a function that tells a list, one by one (as Rng and Rng2, with nothing of any package). The conditions: what the loop keeps is not turned by its own records, nor by new memory.
-/
import Derived.RangeFuncNested
import Derived.RangeFuncBound
import Derived.RangeFuncCalls
import Derived.RangeFuncLeaves
import Derived.RangeFuncBox
import Derived.Shelf.Abstract
import Derived.Shelf.RegionOpen
import Derived.WalkKit
import Derived.OwnWalkIn
import Derived.TacticsInMore
import Derived.LoopNIn
import Derived.LoopIn
import Derived.Scope
import Derived.Test.YtlfipmieaabagaaGreatGen
namespace Go.Proofs.YtlfipmieaabagaaGreat
open Go.RowKit Go.Shelf
attribute [local go_sem] Oper.semAt_some

theorem wpIn_scope_wide {n : Nat} {P : Program} {c : Code} {Q : Exit → Act → World → Prop} {a : Act} {w : World} (h : c.wpIn Fence.wide n P (Exit.noGoto Q) a w) : (Code.scope c).wpIn Fence.wide n P Q a w :=
  wpIn_wide.2 (wp_scope_straight (wpIn_wide.1 h))

/-- The function tells the list xs, one by one, as long as it is told to go on, in worlds of which Rd holds. -/
def Tells (m gf : Nat) (lb : Array Value) (xs : List (Array Value)) (Rd : World → Prop) : Prop :=
  ∀ (l : Nat) (J Jx : Nat → World → Prop), (∀ k W, J k W → Rd W) →
    (∀ k W, J k W → k < xs.length → YieldAt Fence.wide (m - 1) Tryz.prog l (xs.getD k #[]) W fun e W' => (e = .returned (.bool true) ∧ J (k + 1) W') ∨ (e = .returned (.bool false) ∧ Jx (k + 1) W')) →
    ∀ W, J 0 W → CallsIn Fence.wide m Tryz.prog gf (#[.func (.yield l) #[] #[]] ++ lb) W fun e W' => (∃ v, e = .returned v) ∧ (J xs.length W' ∨ ∃ k, k ≤ xs.length ∧ Jx k W')

/-- How a round may end. -/
def roundEnd (B : Nat) (I : Nat → World → Prop) (Ix : Code → Nat → World → Prop) (k : Nat) (W : World) : Exit → Act → World → Prop
  | .normal, _, W' => KeepsFrom B W W' ∧ I (k + 1) W'
  | .ret, _, W' => KeepsFrom B W W' ∧ Ix .ret (k + 1) W'
  | .exit id, _, W' => KeepsFrom B W W' ∧ Ix (.exit id) (k + 1) W'
  | .goto t, _, W' => KeepsFrom B W W' ∧ Ix (.goto t) (k + 1) W'
  | .panic _, _, _ => False
  | .outgrown, _, _ => False

theorem range_list {n : Nat} (hn : 2 ≤ n) {g : Operand} {ps : Array Tmp} {assign body : Code} {Q : Exit → Act → World → Prop} {a : Act} {w : World} {gf : Nat} {lb : Array Value} {xs : List (Array Value)} {Rd : World → Prop}
    (hseq : Tells (n - 1) gf lb xs Rd) (hg : a.eval g = .func (.func gf) #[] lb) (eg : ∀ args w, (callFunc gf args).run Tryz.prog w = .ok (.enter gf args) w) (hps : ∀ k, k < xs.length → (xs.getD k #[]).size = ps.size)
    (I : Nat → World → Prop) (Ix : Code → Nat → World → Prop)
    (hIg : ∀ W W', I 0 W → Below W.heap.size W W' → I 0 W')
    (hIp : ∀ k W l o o', I k W → w.heap.size ≤ l → W.heap[l]? = some o → o.isCells = false → I k (W.putObj l o'))
    (hXp : ∀ c k W l o o', Ix c k W → w.heap.size ≤ l → W.heap[l]? = some o → o.isCells = false → Ix c k (W.putObj l o'))
    (hIr : ∀ k W, I k W → Rd W) (h0 : I 0 w) (a₁ : Array Value → Act)
    (hassign : ∀ (l k : Nat) (W : World) (K : Act → World → Prop), k < xs.length → K (a₁ (xs.getD k #[])) W →
      assign.wpIn (Fence.wide.inRound l) (n - 1 - 1) Tryz.prog (Exit.then K (fun _ _ _ => False)) { tmps := (ps.zip (xs.getD k #[])).foldl (fun t (p, v) => t.setIfInBounds p v) a.tmps, defers := [] } W)
    (hbody : ∀ (l k : Nat) (W : World), I k W → k < xs.length → w.heap.size + 2 ≤ W.heap.size → body.wpIn (Fence.wide.inRound l) (n - 1 - 1) Tryz.prog (roundEnd w.heap.size I Ix k W) (a₁ (xs.getD k #[])) W)
    (hdone : ∀ (D : Nat) (W : World), w.heap.size ≤ D → I xs.length W → W.heap[D]? = some (.deferred (some [])) → Q .normal { a with defers := { target := .collected D, args := #[] } :: a.defers } W)
    (hstop : ∀ (D : Nat) (c : Code) (k : Nat) (W : World), w.heap.size ≤ D → k ≤ xs.length → Ix c k W → W.heap[D]? = some (.deferred (some [])) → c.wpIn Fence.wide n Tryz.prog Q { a with defers := { target := .collected D, args := #[] } :: a.defers } W) :
    (Code.rangeFunc g ps assign body).wpIn Fence.wide n Tryz.prog Q a w := by
  refine wpIn_rangeFunc fun fn hfn => ?_
  obtain ⟨R, hR⟩ : ∃ R : LoopState → Option Code → Loop, R = fun st pe => { state := st, pending := pe, fn, tmps := a.tmps, params := ps, assign, body, defers := w.heap.size } := ⟨_, rfl⟩
  obtain ⟨W1, hW1⟩ : ∃ W1, W1 = (w.alloc (.deferred (some []))).alloc (.loop (R .ready none)) := ⟨_, rfl⟩
  have hD1 : W1.heap[w.heap.size]? = some (.deferred (some [])) := by
    rw [hW1]; exact ((alloc_below _ _).block _ (by simp)).trans (heap_alloc_new w _)
  have hL1 : W1.heap[w.heap.size + 1]? = some (.loop (R .ready none)) := by
    rw [hW1]; have := heap_alloc_new (w.alloc (.deferred (some []))) (.loop (R .ready none)); rwa [World.size_alloc] at this
  have hB1 : Below w.heap.size w W1 := by rw [hW1]; exact (alloc_below _ _).alloc (by simp) _
  refine ⟨w.heap.size + 1, [{ target := .collected w.heap.size, args := #[] }], W1, { target := .fn (.func gf) lb, args := #[.func (.yield (w.heap.size + 1)) #[] #[]] }, W1, gf,
    #[.func (.yield (w.heap.size + 1)) #[] #[]] ++ lb, W1, ?_, ?_, ?_, ?_, fun _ => by omega, ?_⟩
  · rw [hW1, hR]
    exact run_enterLoop_outer _ _ _ _ _
  · simp only [resolve, hg]
    simp [go_sem]
  · intro f' _
    trivial
  · simp [invoke, eg]
  refine (hseq (w.heap.size + 1) (fun k W => I k W ∧ W.heap[w.heap.size + 1]? = some (.loop (R .ready none)) ∧ W.heap[w.heap.size]? = some (.deferred (some [])))
    (fun k W => ∃ c, Ix c k W ∧ W.heap[w.heap.size + 1]? = some (.loop (R .done (some c))) ∧ W.heap[w.heap.size]? = some (.deferred (some []))) (fun k W h => hIr k W h.1) ?_ W1 ⟨hIg _ _ h0 hB1, hL1, hD1⟩).mono ?_
  · rintro k W ⟨hi, hl, hd⟩ hk
    have hy := run_yield (P := Tryz.prog) (w := W) (args := xs.getD k #[]) hl (by rw [hR]; simp only; rw [hps k hk])
    rw [hR] at hy
    refine ⟨fn, _, assign, body, hy, roundIn_of_wpIn hfn (hassign _ k W _ hk ⟨_, run_beginRound hl (by rw [hR]), ?_⟩)⟩
    obtain ⟨W2, hW2⟩ : ∃ W2, W2 = W.putObj (w.heap.size + 1) (.loop { R .ready none with state := .busy }) := ⟨_, rfl⟩
    rw [← hW2]
    have hl2 : W2.heap[w.heap.size + 1]? = some (.loop { R .ready none with state := .busy }) := by rw [hW2]; exact World.putObj_heap_same (Array.getElem?_eq_some_iff.1 hl).1
    have hd2 : W2.heap[w.heap.size]? = some (.deferred (some [])) := by rw [hW2]; exact (World.putObj_heap_other (by omega)).trans hd
    have hi2 : I k W2 := by rw [hW2]; exact hIp _ _ _ _ _ hi (by omega) hl rfl
    have hs2 : w.heap.size + 2 ≤ W2.heap.size := (Array.getElem?_eq_some_iff.1 hl2).1
    refine wpIn_mono (hbody _ k W2 hi2 hk hs2) ?_
    intro e a3 W3 hend
    have fin : ∀ (jump : Option Code) , KeepsFrom w.heap.size W2 W3 → ∃ v w', (Instr.endRound (w.heap.size + 1) jump).run Tryz.prog W3 = .ok v w' ∧ v = .bool jump.isNone ∧ w' = W3.putObj (w.heap.size + 1) (.loop (R (if jump.isNone then .ready else .done) jump)) ∧ W3.heap[w.heap.size + 1]? = some (.loop { R .ready none with state := .busy }) ∧ W3.heap[w.heap.size]? = some (.deferred (some [])) := by
      intro jump hk3
      have hl3 := hk3.same _ _ (by omega) hl2 rfl
      have hd3 := hk3.same _ _ (Nat.le_refl _) hd2 rfl
      have hend := run_endRound (P := Tryz.prog) jump hl3
      refine ⟨_, _, hend, ?_, ?_, hl3, hd3⟩
      · cases jump <;> rfl
      · rw [hR]
    have stop : ∀ (c : Code), KeepsFrom w.heap.size W2 W3 → Ix c (k + 1) W3 → ∃ v w', (Instr.endRound (w.heap.size + 1) (some c)).run Tryz.prog W3 = .ok v w' ∧ ((Ending.returned v = .returned (.bool true) ∧ I (k + 1) w' ∧ w'.heap[w.heap.size + 1]? = some (.loop (R .ready none)) ∧ w'.heap[w.heap.size]? = some (.deferred (some []))) ∨ (Ending.returned v = .returned (.bool false) ∧ ∃ c, Ix c (k + 1) w' ∧ w'.heap[w.heap.size + 1]? = some (.loop (R .done (some c))) ∧ w'.heap[w.heap.size]? = some (.deferred (some [])))) := by
      intro c hk3 hx
      obtain ⟨v, w', r1, rfl, rfl, r4, r5⟩ := fin (some c) hk3
      refine ⟨_, _, r1, .inr ⟨rfl, c, hXp _ _ _ _ _ _ hx (by omega) r4 rfl, ?_, (World.putObj_heap_other (by omega)).trans r5⟩⟩
      rw [World.putObj_heap_same (Array.getElem?_eq_some_iff.1 r4).1]
      rfl
    cases e with
    | normal =>
      obtain ⟨hk3, hi3⟩ := hend
      obtain ⟨v, w', r1, rfl, rfl, r4, r5⟩ := fin none hk3
      refine ⟨_, _, r1, .inl ⟨rfl, hIp _ _ _ _ _ hi3 (by omega) r4 rfl, ?_, (World.putObj_heap_other (by omega)).trans r5⟩⟩
      rw [World.putObj_heap_same (Array.getElem?_eq_some_iff.1 r4).1]
      rfl
    | ret => exact stop .ret hend.1 hend.2
    | exit id => exact stop (.exit id) hend.1 hend.2
    | goto t => exact stop (.goto t) hend.1 hend.2
    | panic c => exact hend.elim
    | outgrown => exact hend.elim
  · rintro e W2 ⟨⟨r, rfl⟩, ⟨hi, hl, hd⟩ | ⟨k, hk, c, hx, hl, hd⟩⟩
    · have hend := run_endLoop (P := Tryz.prog) hl (by rw [hR]; simp)
      rw [hR] at hend
      exact ⟨none, _, hend, hdone _ _ (Nat.le_refl _) (hIp _ _ _ _ _ hi (by omega) hl rfl) ((World.putObj_heap_other (by omega)).trans hd)⟩
    · have hend := run_endLoop (P := Tryz.prog) hl (by rw [hR]; simp)
      rw [hR] at hend
      exact ⟨some c, _, hend, hstop _ c k _ (Nat.le_refl _) hk (hXp _ _ _ _ _ _ hx (by omega) hl rfl) ((World.putObj_heap_other (by omega)).trans hd)⟩

theorem range_list2 {n : Nat} (hn : 2 ≤ n) {g : Operand} {ps : Array Tmp} {assign body : Code} {Q : Exit → Act → World → Prop} {a : Act} {w : World} {gf : Nat} {lb : Array Value} {xs : List (Array Value)} {Rd : World → Prop}
    (hseq : Tells (n - 1) gf lb xs Rd) (hg : a.eval g = .func (.func gf) #[] lb) (eg : ∀ args w, (callFunc gf args).run Tryz.prog w = .ok (.enter gf args) w) (hps : ∀ k, k < xs.length → (xs.getD k #[]).size = ps.size)
    (I : Nat → World → Prop) (Ix : Code → Nat → World → Prop)
    (hIg : ∀ k W W', I k W → Below W.heap.size W W' → I k W')
    (hIp : ∀ k W l o o', I k W → w.heap.size ≤ l → W.heap[l]? = some o → o.isCells = false → I k (W.putObj l o'))
    (hXp : ∀ c k W l o o', Ix c k W → w.heap.size ≤ l → W.heap[l]? = some o → o.isCells = false → Ix c k (W.putObj l o'))
    (hIr : ∀ k W, I k W → Rd W) (h0 : I 0 w) (a₁ : Array Value → World → Act) (W₁ : Array Value → World → World) (hW₁ : ∀ k W, Below W.heap.size W (W₁ (xs.getD k #[]) W))
    (hassign : ∀ (l k : Nat) (W : World) (K : Act → World → Prop), k < xs.length → K (a₁ (xs.getD k #[]) W) (W₁ (xs.getD k #[]) W) →
      assign.wpIn (Fence.wide.inRound l) (n - 1 - 1) Tryz.prog (Exit.then K (fun _ _ _ => False)) { tmps := (ps.zip (xs.getD k #[])).foldl (fun t (p, v) => t.setIfInBounds p v) a.tmps, defers := [] } W)
    (hbody : ∀ (l k : Nat) (W X : World), I k X → k < xs.length → w.heap.size + 2 ≤ W.heap.size → Only (· = l) (W₁ (xs.getD k #[]) W) X → l < W.heap.size → w.heap.size ≤ l → body.wpIn (Fence.wide.inRound l) (n - 1 - 1) Tryz.prog (roundEnd w.heap.size I Ix k X) (a₁ (xs.getD k #[]) W) X)
    (hdone : ∀ (D : Nat) (W : World), w.heap.size ≤ D → I xs.length W → W.heap[D]? = some (.deferred (some [])) → Q .normal { a with defers := { target := .collected D, args := #[] } :: a.defers } W)
    (hstop : ∀ (D : Nat) (c : Code) (k : Nat) (W : World), w.heap.size ≤ D → k ≤ xs.length → Ix c k W → W.heap[D]? = some (.deferred (some [])) → c.wpIn Fence.wide n Tryz.prog Q { a with defers := { target := .collected D, args := #[] } :: a.defers } W) :
    (Code.rangeFunc g ps assign body).wpIn Fence.wide n Tryz.prog Q a w := by
  refine wpIn_rangeFunc fun fn hfn => ?_
  obtain ⟨R, hR⟩ : ∃ R : LoopState → Option Code → Loop, R = fun st pe => { state := st, pending := pe, fn, tmps := a.tmps, params := ps, assign, body, defers := w.heap.size } := ⟨_, rfl⟩
  obtain ⟨W1, hW1⟩ : ∃ W1, W1 = (w.alloc (.deferred (some []))).alloc (.loop (R .ready none)) := ⟨_, rfl⟩
  have hD1 : W1.heap[w.heap.size]? = some (.deferred (some [])) := by
    rw [hW1]; exact ((alloc_below _ _).block _ (by simp)).trans (heap_alloc_new w _)
  have hL1 : W1.heap[w.heap.size + 1]? = some (.loop (R .ready none)) := by
    rw [hW1]; have := heap_alloc_new (w.alloc (.deferred (some []))) (.loop (R .ready none)); rwa [World.size_alloc] at this
  have hB1 : Below w.heap.size w W1 := by rw [hW1]; exact (alloc_below _ _).alloc (by simp) _
  refine ⟨w.heap.size + 1, [{ target := .collected w.heap.size, args := #[] }], W1, { target := .fn (.func gf) lb, args := #[.func (.yield (w.heap.size + 1)) #[] #[]] }, W1, gf,
    #[.func (.yield (w.heap.size + 1)) #[] #[]] ++ lb, W1, ?_, ?_, ?_, ?_, fun _ => by omega, ?_⟩
  · rw [hW1, hR]
    exact run_enterLoop_outer _ _ _ _ _
  · simp only [resolve, hg]
    simp [go_sem]
  · intro f' _
    trivial
  · simp [invoke, eg]
  refine (hseq (w.heap.size + 1) (fun k W => I k W ∧ W.heap[w.heap.size + 1]? = some (.loop (R .ready none)) ∧ W.heap[w.heap.size]? = some (.deferred (some [])))
    (fun k W => ∃ c, Ix c k W ∧ W.heap[w.heap.size + 1]? = some (.loop (R .done (some c))) ∧ W.heap[w.heap.size]? = some (.deferred (some []))) (fun k W h => hIr k W h.1) ?_ W1 ⟨hIg _ _ _ h0 hB1, hL1, hD1⟩).mono ?_
  · rintro k W ⟨hi, hl, hd⟩ hk
    have hy := run_yield (P := Tryz.prog) (w := W) (args := xs.getD k #[]) hl (by rw [hR]; simp only; rw [hps k hk])
    rw [hR] at hy
    have hltL := (Array.getElem?_eq_some_iff.1 hl).1
    have hlA : (W₁ (xs.getD k #[]) W).heap[w.heap.size + 1]? = some (.loop (R .ready none)) := ((hW₁ k W).block _ hltL).trans hl
    have hdA : (W₁ (xs.getD k #[]) W).heap[w.heap.size]? = some (.deferred (some [])) := ((hW₁ k W).block _ (Array.getElem?_eq_some_iff.1 hd).1).trans hd
    have hiA : I k (W₁ (xs.getD k #[]) W) := hIg _ _ _ hi (hW₁ k W)
    refine ⟨fn, _, assign, body, hy, roundIn_of_wpIn hfn (hassign _ k W _ hk ⟨_, run_beginRound hlA (by rw [hR]), ?_⟩)⟩
    obtain ⟨W2, hW2⟩ : ∃ W2, W2 = (W₁ (xs.getD k #[]) W).putObj (w.heap.size + 1) (.loop { R .ready none with state := .busy }) := ⟨_, rfl⟩
    rw [← hW2]
    have hl2 : W2.heap[w.heap.size + 1]? = some (.loop { R .ready none with state := .busy }) := by rw [hW2]; exact World.putObj_heap_same (Array.getElem?_eq_some_iff.1 hlA).1
    have hd2 : W2.heap[w.heap.size]? = some (.deferred (some [])) := by rw [hW2]; exact (World.putObj_heap_other (by omega)).trans hdA
    have hi2 : I k W2 := by rw [hW2]; exact hIp _ _ _ _ _ hiA (by omega) hlA rfl
    have hoX : Only (· = w.heap.size + 1) (W₁ (xs.getD k #[]) W) W2 := by rw [hW2]; exact Only.of_grown (grownBy_putObj' _ _ _) (fun k e => by simpa using e.symm)
    refine wpIn_mono (hbody _ k W W2 hi2 hk (by omega) hoX hltL (by omega)) ?_
    intro e a3 W3 hend
    have fin : ∀ (jump : Option Code) , KeepsFrom w.heap.size W2 W3 → ∃ v w', (Instr.endRound (w.heap.size + 1) jump).run Tryz.prog W3 = .ok v w' ∧ v = .bool jump.isNone ∧ w' = W3.putObj (w.heap.size + 1) (.loop (R (if jump.isNone then .ready else .done) jump)) ∧ W3.heap[w.heap.size + 1]? = some (.loop { R .ready none with state := .busy }) ∧ W3.heap[w.heap.size]? = some (.deferred (some [])) := by
      intro jump hk3
      have hl3 := hk3.same _ _ (by omega) hl2 rfl
      have hd3 := hk3.same _ _ (Nat.le_refl _) hd2 rfl
      have hend := run_endRound (P := Tryz.prog) jump hl3
      refine ⟨_, _, hend, ?_, ?_, hl3, hd3⟩
      · cases jump <;> rfl
      · rw [hR]
    have stop : ∀ (c : Code), KeepsFrom w.heap.size W2 W3 → Ix c (k + 1) W3 → ∃ v w', (Instr.endRound (w.heap.size + 1) (some c)).run Tryz.prog W3 = .ok v w' ∧ ((Ending.returned v = .returned (.bool true) ∧ I (k + 1) w' ∧ w'.heap[w.heap.size + 1]? = some (.loop (R .ready none)) ∧ w'.heap[w.heap.size]? = some (.deferred (some []))) ∨ (Ending.returned v = .returned (.bool false) ∧ ∃ c, Ix c (k + 1) w' ∧ w'.heap[w.heap.size + 1]? = some (.loop (R .done (some c))) ∧ w'.heap[w.heap.size]? = some (.deferred (some [])))) := by
      intro c hk3 hx
      obtain ⟨v, w', r1, rfl, rfl, r4, r5⟩ := fin (some c) hk3
      refine ⟨_, _, r1, .inr ⟨rfl, c, hXp _ _ _ _ _ _ hx (by omega) r4 rfl, ?_, (World.putObj_heap_other (by omega)).trans r5⟩⟩
      rw [World.putObj_heap_same (Array.getElem?_eq_some_iff.1 r4).1]
      rfl
    cases e with
    | normal =>
      obtain ⟨hk3, hi3⟩ := hend
      obtain ⟨v, w', r1, rfl, rfl, r4, r5⟩ := fin none hk3
      refine ⟨_, _, r1, .inl ⟨rfl, hIp _ _ _ _ _ hi3 (by omega) r4 rfl, ?_, (World.putObj_heap_other (by omega)).trans r5⟩⟩
      rw [World.putObj_heap_same (Array.getElem?_eq_some_iff.1 r4).1]
      rfl
    | ret => exact stop .ret hend.1 hend.2
    | exit id => exact stop (.exit id) hend.1 hend.2
    | goto t => exact stop (.goto t) hend.1 hend.2
    | panic c => exact hend.elim
    | outgrown => exact hend.elim
  · rintro e W2 ⟨⟨r, rfl⟩, ⟨hi, hl, hd⟩ | ⟨k, hk, c, hx, hl, hd⟩⟩
    · have hend := run_endLoop (P := Tryz.prog) hl (by rw [hR]; simp)
      rw [hR] at hend
      exact ⟨none, _, hend, hdone _ _ (Nat.le_refl _) (hIp _ _ _ _ _ hi (by omega) hl rfl) ((World.putObj_heap_other (by omega)).trans hd)⟩
    · have hend := run_endLoop (P := Tryz.prog) hl (by rw [hR]; simp)
      rw [hR] at hend
      exact ⟨some c, _, hend, hstop _ c k _ (Nat.le_refl _) hk (hXp _ _ _ _ _ _ hx (by omega) hl rfl) ((World.putObj_heap_other (by omega)).trans hd)⟩
/-- As Tells, of a function that takes memory between what it tells: what is kept must bear new memory. -/
def TellsB (m gf : Nat) (lb : Array Value) (xs : List (Array Value)) (Rd : World → Prop) : Prop :=
  ∀ (l : Nat) (J Jx : Nat → World → Prop), (∀ k W, J k W → Rd W) → (∀ k W W', J k W → Below W.heap.size W W' → J k W') →
    (∀ k W, J k W → k < xs.length → YieldAt Fence.wide (m - 1) Tryz.prog l (xs.getD k #[]) W fun e W' => (e = .returned (.bool true) ∧ J (k + 1) W') ∨ (e = .returned (.bool false) ∧ Jx (k + 1) W')) →
    ∀ W, J 0 W → CallsIn Fence.wide m Tryz.prog gf (#[.func (.yield l) #[] #[]] ++ lb) W fun e W' => (∃ v, e = .returned v) ∧ (J xs.length W' ∨ ∃ k, k ≤ xs.length ∧ Jx k W')
theorem range_list3 {n : Nat} (hn : 2 ≤ n) {g : Operand} {ps : Array Tmp} {assign body : Code} {Q : Exit → Act → World → Prop} {a : Act} {w : World} {gf : Nat} {lb : Array Value} {xs : List (Array Value)} {Rd : World → Prop}
    (hseq : TellsB (n - 1) gf lb xs Rd) (hg : a.eval g = .func (.func gf) #[] lb) (eg : ∀ args w, (callFunc gf args).run Tryz.prog w = .ok (.enter gf args) w) (hps : ∀ k, k < xs.length → (xs.getD k #[]).size = ps.size)
    (I : Nat → World → Prop) (Ix : Code → Nat → World → Prop)
    (hIg : ∀ k W W', I k W → Below W.heap.size W W' → I k W')
    (hIp : ∀ k W l o o', I k W → w.heap.size ≤ l → W.heap[l]? = some o → o.isCells = false → I k (W.putObj l o'))
    (hXp : ∀ c k W l o o', Ix c k W → w.heap.size ≤ l → W.heap[l]? = some o → o.isCells = false → Ix c k (W.putObj l o'))
    (hIr : ∀ k W, I k W → Rd W) (h0 : I 0 w) (a₁ : Array Value → World → Act) (W₁ : Array Value → World → World) (hW₁ : ∀ k W, Below W.heap.size W (W₁ (xs.getD k #[]) W))
    (hassign : ∀ (l k : Nat) (W : World) (K : Act → World → Prop), k < xs.length → K (a₁ (xs.getD k #[]) W) (W₁ (xs.getD k #[]) W) →
      assign.wpIn (Fence.wide.inRound l) (n - 1 - 1) Tryz.prog (Exit.then K (fun _ _ _ => False)) { tmps := (ps.zip (xs.getD k #[])).foldl (fun t (p, v) => t.setIfInBounds p v) a.tmps, defers := [] } W)
    (hbody : ∀ (l k : Nat) (W X : World), I k X → k < xs.length → w.heap.size + 2 ≤ W.heap.size → Only (· = l) (W₁ (xs.getD k #[]) W) X → l < W.heap.size → w.heap.size ≤ l → body.wpIn (Fence.wide.inRound l) (n - 1 - 1) Tryz.prog (roundEnd w.heap.size I Ix k X) (a₁ (xs.getD k #[]) W) X)
    (hdone : ∀ (D : Nat) (W : World), w.heap.size ≤ D → I xs.length W → W.heap[D]? = some (.deferred (some [])) → Q .normal { a with defers := { target := .collected D, args := #[] } :: a.defers } W)
    (hstop : ∀ (D : Nat) (c : Code) (k : Nat) (W : World), w.heap.size ≤ D → k ≤ xs.length → Ix c k W → W.heap[D]? = some (.deferred (some [])) → c.wpIn Fence.wide n Tryz.prog Q { a with defers := { target := .collected D, args := #[] } :: a.defers } W) :
    (Code.rangeFunc g ps assign body).wpIn Fence.wide n Tryz.prog Q a w := by
  refine wpIn_rangeFunc fun fn hfn => ?_
  obtain ⟨R, hR⟩ : ∃ R : LoopState → Option Code → Loop, R = fun st pe => { state := st, pending := pe, fn, tmps := a.tmps, params := ps, assign, body, defers := w.heap.size } := ⟨_, rfl⟩
  obtain ⟨W1, hW1⟩ : ∃ W1, W1 = (w.alloc (.deferred (some []))).alloc (.loop (R .ready none)) := ⟨_, rfl⟩
  have hD1 : W1.heap[w.heap.size]? = some (.deferred (some [])) := by
    rw [hW1]; exact ((alloc_below _ _).block _ (by simp)).trans (heap_alloc_new w _)
  have hL1 : W1.heap[w.heap.size + 1]? = some (.loop (R .ready none)) := by
    rw [hW1]; have := heap_alloc_new (w.alloc (.deferred (some []))) (.loop (R .ready none)); rwa [World.size_alloc] at this
  have hB1 : Below w.heap.size w W1 := by rw [hW1]; exact (alloc_below _ _).alloc (by simp) _
  refine ⟨w.heap.size + 1, [{ target := .collected w.heap.size, args := #[] }], W1, { target := .fn (.func gf) lb, args := #[.func (.yield (w.heap.size + 1)) #[] #[]] }, W1, gf,
    #[.func (.yield (w.heap.size + 1)) #[] #[]] ++ lb, W1, ?_, ?_, ?_, ?_, fun _ => by omega, ?_⟩
  · rw [hW1, hR]
    exact run_enterLoop_outer _ _ _ _ _
  · simp only [resolve, hg]
    simp [go_sem]
  · intro f' _
    trivial
  · simp [invoke, eg]
  refine (hseq (w.heap.size + 1) (fun k W => I k W ∧ W.heap[w.heap.size + 1]? = some (.loop (R .ready none)) ∧ W.heap[w.heap.size]? = some (.deferred (some [])))
    (fun k W => ∃ c, Ix c k W ∧ W.heap[w.heap.size + 1]? = some (.loop (R .done (some c))) ∧ W.heap[w.heap.size]? = some (.deferred (some []))) (fun k W h => hIr k W h.1) (fun k W W' h hb => ⟨hIg k W W' h.1 hb, below_box hb h.2.1, below_box hb h.2.2⟩) ?_ W1 ⟨hIg _ _ _ h0 hB1, hL1, hD1⟩).mono ?_
  · rintro k W ⟨hi, hl, hd⟩ hk
    have hy := run_yield (P := Tryz.prog) (w := W) (args := xs.getD k #[]) hl (by rw [hR]; simp only; rw [hps k hk])
    rw [hR] at hy
    have hltL := (Array.getElem?_eq_some_iff.1 hl).1
    have hlA : (W₁ (xs.getD k #[]) W).heap[w.heap.size + 1]? = some (.loop (R .ready none)) := ((hW₁ k W).block _ hltL).trans hl
    have hdA : (W₁ (xs.getD k #[]) W).heap[w.heap.size]? = some (.deferred (some [])) := ((hW₁ k W).block _ (Array.getElem?_eq_some_iff.1 hd).1).trans hd
    have hiA : I k (W₁ (xs.getD k #[]) W) := hIg _ _ _ hi (hW₁ k W)
    refine ⟨fn, _, assign, body, hy, roundIn_of_wpIn hfn (hassign _ k W _ hk ⟨_, run_beginRound hlA (by rw [hR]), ?_⟩)⟩
    obtain ⟨W2, hW2⟩ : ∃ W2, W2 = (W₁ (xs.getD k #[]) W).putObj (w.heap.size + 1) (.loop { R .ready none with state := .busy }) := ⟨_, rfl⟩
    rw [← hW2]
    have hl2 : W2.heap[w.heap.size + 1]? = some (.loop { R .ready none with state := .busy }) := by rw [hW2]; exact World.putObj_heap_same (Array.getElem?_eq_some_iff.1 hlA).1
    have hd2 : W2.heap[w.heap.size]? = some (.deferred (some [])) := by rw [hW2]; exact (World.putObj_heap_other (by omega)).trans hdA
    have hi2 : I k W2 := by rw [hW2]; exact hIp _ _ _ _ _ hiA (by omega) hlA rfl
    have hoX : Only (· = w.heap.size + 1) (W₁ (xs.getD k #[]) W) W2 := by rw [hW2]; exact Only.of_grown (grownBy_putObj' _ _ _) (fun k e => by simpa using e.symm)
    refine wpIn_mono (hbody _ k W W2 hi2 hk (by omega) hoX hltL (by omega)) ?_
    intro e a3 W3 hend
    have fin : ∀ (jump : Option Code) , KeepsFrom w.heap.size W2 W3 → ∃ v w', (Instr.endRound (w.heap.size + 1) jump).run Tryz.prog W3 = .ok v w' ∧ v = .bool jump.isNone ∧ w' = W3.putObj (w.heap.size + 1) (.loop (R (if jump.isNone then .ready else .done) jump)) ∧ W3.heap[w.heap.size + 1]? = some (.loop { R .ready none with state := .busy }) ∧ W3.heap[w.heap.size]? = some (.deferred (some [])) := by
      intro jump hk3
      have hl3 := hk3.same _ _ (by omega) hl2 rfl
      have hd3 := hk3.same _ _ (Nat.le_refl _) hd2 rfl
      have hend := run_endRound (P := Tryz.prog) jump hl3
      refine ⟨_, _, hend, ?_, ?_, hl3, hd3⟩
      · cases jump <;> rfl
      · rw [hR]
    have stop : ∀ (c : Code), KeepsFrom w.heap.size W2 W3 → Ix c (k + 1) W3 → ∃ v w', (Instr.endRound (w.heap.size + 1) (some c)).run Tryz.prog W3 = .ok v w' ∧ ((Ending.returned v = .returned (.bool true) ∧ I (k + 1) w' ∧ w'.heap[w.heap.size + 1]? = some (.loop (R .ready none)) ∧ w'.heap[w.heap.size]? = some (.deferred (some []))) ∨ (Ending.returned v = .returned (.bool false) ∧ ∃ c, Ix c (k + 1) w' ∧ w'.heap[w.heap.size + 1]? = some (.loop (R .done (some c))) ∧ w'.heap[w.heap.size]? = some (.deferred (some [])))) := by
      intro c hk3 hx
      obtain ⟨v, w', r1, rfl, rfl, r4, r5⟩ := fin (some c) hk3
      refine ⟨_, _, r1, .inr ⟨rfl, c, hXp _ _ _ _ _ _ hx (by omega) r4 rfl, ?_, (World.putObj_heap_other (by omega)).trans r5⟩⟩
      rw [World.putObj_heap_same (Array.getElem?_eq_some_iff.1 r4).1]
      rfl
    cases e with
    | normal =>
      obtain ⟨hk3, hi3⟩ := hend
      obtain ⟨v, w', r1, rfl, rfl, r4, r5⟩ := fin none hk3
      refine ⟨_, _, r1, .inl ⟨rfl, hIp _ _ _ _ _ hi3 (by omega) r4 rfl, ?_, (World.putObj_heap_other (by omega)).trans r5⟩⟩
      rw [World.putObj_heap_same (Array.getElem?_eq_some_iff.1 r4).1]
      rfl
    | ret => exact stop .ret hend.1 hend.2
    | exit id => exact stop (.exit id) hend.1 hend.2
    | goto t => exact stop (.goto t) hend.1 hend.2
    | panic c => exact hend.elim
    | outgrown => exact hend.elim
  · rintro e W2 ⟨⟨r, rfl⟩, ⟨hi, hl, hd⟩ | ⟨k, hk, c, hx, hl, hd⟩⟩
    · have hend := run_endLoop (P := Tryz.prog) hl (by rw [hR]; simp)
      rw [hR] at hend
      exact ⟨none, _, hend, hdone _ _ (Nat.le_refl _) (hIp _ _ _ _ _ hi (by omega) hl rfl) ((World.putObj_heap_other (by omega)).trans hd)⟩
    · have hend := run_endLoop (P := Tryz.prog) hl (by rw [hR]; simp)
      rw [hR] at hend
      exact ⟨some c, _, hend, hstop _ c k _ (Nat.le_refl _) hk (hXp _ _ _ _ _ _ hx (by omega) hl rfl) ((World.putObj_heap_other (by omega)).trans hd)⟩
end Go.Proofs.YtlfipmieaabagaaGreat
