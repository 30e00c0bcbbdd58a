/-
  A loop over a function that tells a list and has memory of its own: whatever the function owns (S) the loop's rounds leave alone, and what the loop keeps hangs on none of it. Nothing of a package.
-/
import Derived.RangeFuncNested
import Derived.RangeFuncBound
import Derived.RangeFuncCalls
import Derived.RangeFuncLeaves
import Derived.RangeFuncBox
import Derived.Shelf.Abstract
import Derived.Shelf.RegionOpen
import Derived.WalkKit
import Derived.OwnWalkIn
import Derived.TacticsInMore
import Derived.LoopNIn
import Derived.LoopIn
import Derived.Scope
import Derived.Test.YtifldnpccgbnkaaGreatOnl
import Derived.Test.YtifldnpccgbnkaaGreatSeg
import Derived.Test.YtifldnpccgbnkaaGreatGof
import Derived.Test.YtifldnpccgbnkaaGreatRum
import Derived.Test.YtifldnpccgbnkaaGreatRso
import Derived.Lib.Bytes
import Derived.Laws.EntriesVeiled
import Derived.Maps.OwnIn
import Derived.Sort.CutIn
import Derived.BigQuiet
namespace Go.Proofs.YtifldnpccgbnkaaGreat
open Go.RowKit Go.Shelf
attribute [local go_sem] Oper.semAt_some

def Kept (S : Nat → Prop) (W W' : World) : Prop := ∀ i, S i → W'.heap[i]? = W.heap[i]?
abbrev Jt : Type := (Nat → Prop) → Nat → World → Prop
/-- What is kept hangs on no block of S. -/
def Robust (J : Jt) : Prop := ∀ S k W W', J S k W → Only S W W' → J S k W'
/-- New memory may go to S. -/
def Grows (J : Jt) : Prop := ∀ S S' k W W', J S k W → Below W.heap.size W W' → (∀ i, S' i → S i ∨ (W.heap.size ≤ i ∧ i < W'.heap.size)) → J S' k W'
/-- The function tells the list xs, one by one, as long as it is told to go on, in worlds of which Rd holds. -/
def TellsS (m gf : Nat) (lb : Array Value) (xs : List (Array Value)) (Rd : World → Prop) : Prop :=
  ∀ (l : Nat) (J Jx : Jt), (∀ S k W, J S k W → Rd W) → Robust J → Grows J → Robust Jx → Grows Jx →
    (∀ S k W, J S k W → k < xs.length → YieldAt Fence.wide (m - 1) Tryz.prog l (xs.getD k #[]) W fun e W' => Kept S W W' ∧ W.heap.size ≤ W'.heap.size ∧ ((e = .returned (.bool true) ∧ J S (k + 1) W') ∨ (e = .returned (.bool false) ∧ Jx S (k + 1) W'))) →
    ∀ W, J (fun _ => False) 0 W → CallsIn Fence.wide m Tryz.prog gf (#[.func (.yield l) #[] #[]] ++ lb) W fun e W' => (∃ v, e = .returned v) ∧ ((∃ S, J S xs.length W') ∨ ∃ S k, k ≤ xs.length ∧ Jx S k W')
/-- How a round may end. -/
def roundEndS (B : Nat) (I : Jt) (Ix : Code → Jt) (S : Nat → Prop) (k : Nat) (W : World) : Exit → Act → World → Prop
  | .normal, _, W' => Kept (fun i => S i ∨ i = B ∨ i = B + 1) W W' ∧ W.heap.size ≤ W'.heap.size ∧ I S (k + 1) W'
  | .ret, _, W' => Kept (fun i => S i ∨ i = B ∨ i = B + 1) W W' ∧ W.heap.size ≤ W'.heap.size ∧ Ix .ret S (k + 1) W'
  | .exit id, _, W' => Kept (fun i => S i ∨ i = B ∨ i = B + 1) W W' ∧ W.heap.size ≤ W'.heap.size ∧ Ix (.exit id) S (k + 1) W'
  | .goto t, _, W' => Kept (fun i => S i ∨ i = B ∨ i = B + 1) W W' ∧ W.heap.size ≤ W'.heap.size ∧ Ix (.goto t) S (k + 1) W'
  | .panic _, _, _ => False
  | .outgrown, _, _ => False
theorem put_onlyS {W : World} {l : Nat} {o' : Obj} : Only (· = l) W (W.putObj l o') := Only.of_grown (F := (· = l)) (grownBy_putObj' W l o') (fun k e => by simpa using e.symm)

theorem range_listS {n : Nat} (hn : 2 ≤ n) {g : Operand} {ps : Array Tmp} {assign body : Code} {Q : Exit → Act → World → Prop} {a : Act} {w : World} {gf : Nat} {lb : Array Value} {xs : List (Array Value)} {Rd : World → Prop}
    (hseq : TellsS (n - 1) gf lb xs Rd) (hg : a.eval g = .func (.func gf) #[] lb) (eg : ∀ args w, (callFunc gf args).run Tryz.prog w = .ok (.enter gf args) w) (hps : ∀ k, k < xs.length → (xs.getD k #[]).size = ps.size)
    (I : Jt) (Ix : Code → Jt) (hIr : Robust I) (hIg : Grows I) (hXr : ∀ c, Robust (Ix c)) (hXg : ∀ c, Grows (Ix c))
    (hIp : ∀ S k W o', I S k W → I S k (W.putObj (w.heap.size + 1) o'))
    (hXp : ∀ c S k W o', Ix c S k W → Ix c S k (W.putObj (w.heap.size + 1) o'))
    (hIn : ∀ S k W, I S k W → Rd W) (h0 : ∀ r, I (fun _ => False) 0 ((w.alloc (.deferred (some []))).alloc (.loop r))) (a₁ : Array Value → World → Act) (W₁ : Array Value → World → World) (hW₁ : ∀ k W, Below W.heap.size W (W₁ (xs.getD k #[]) W))
    (hassign : ∀ (l k : Nat) (W : World) (K : Act → World → Prop), k < xs.length → K (a₁ (xs.getD k #[]) W) (W₁ (xs.getD k #[]) W) →
      assign.wpIn (Fence.wide.inRound l) (n - 1 - 1) Tryz.prog (Exit.then K (fun _ _ _ => False)) { tmps := (ps.zip (xs.getD k #[])).foldl (fun t (p, v) => t.setIfInBounds p v) a.tmps, defers := [] } W)
    (hbody : ∀ (l k : Nat) (S : Nat → Prop) (W X : World), I S k X → k < xs.length → w.heap.size + 2 ≤ W.heap.size → Only (· = w.heap.size + 1) (W₁ (xs.getD k #[]) W) X → ¬ S w.heap.size → ¬ S (w.heap.size + 1) → (∀ i, S i → i < X.heap.size) → body.wpIn (Fence.wide.inRound l) (n - 1 - 1) Tryz.prog (roundEndS w.heap.size I Ix S k X) (a₁ (xs.getD k #[]) W) X)
    (hdone : ∀ (D : Nat) (S : Nat → Prop) (W : World), D = w.heap.size → I S xs.length W → W.heap[D]? = some (.deferred (some [])) → Q .normal { a with defers := { target := .collected D, args := #[] } :: a.defers } W)
    (hstop : ∀ (D : Nat) (c : Code) (S : Nat → Prop) (k : Nat) (W : World), D = w.heap.size → k ≤ xs.length → Ix c S k W → W.heap[D]? = some (.deferred (some [])) → c.wpIn Fence.wide n Tryz.prog Q { a with defers := { target := .collected D, args := #[] } :: a.defers } W) :
    (Code.rangeFunc g ps assign body).wpIn Fence.wide n Tryz.prog Q a w := by
  refine wpIn_rangeFunc fun fn hfn => ?_
  obtain ⟨R, hR⟩ : ∃ R : LoopState → Option Code → Loop, R = fun st pe => { state := st, pending := pe, fn, tmps := a.tmps, params := ps, assign, body, defers := w.heap.size } := ⟨_, rfl⟩
  obtain ⟨W1, hW1⟩ : ∃ W1, W1 = (w.alloc (.deferred (some []))).alloc (.loop (R .ready none)) := ⟨_, rfl⟩
  have hD1 : W1.heap[w.heap.size]? = some (.deferred (some [])) := by
    rw [hW1]; exact ((alloc_below _ _).block _ (by simp)).trans (heap_alloc_new w _)
  have hL1 : W1.heap[w.heap.size + 1]? = some (.loop (R .ready none)) := by
    rw [hW1]; have := heap_alloc_new (w.alloc (.deferred (some []))) (.loop (R .ready none)); rwa [World.size_alloc] at this
  refine ⟨w.heap.size + 1, [{ target := .collected w.heap.size, args := #[] }], W1, { target := .fn (.func gf) lb, args := #[.func (.yield (w.heap.size + 1)) #[] #[]] }, W1, gf,
    #[.func (.yield (w.heap.size + 1)) #[] #[]] ++ lb, W1, ?_, ?_, ?_, ?_, fun _ => by omega, ?_⟩
  · rw [hW1, hR]
    exact run_enterLoop_outer _ _ _ _ _
  · simp only [resolve, hg]
    simp [go_sem]
  · intro f' _
    trivial
  · simp [invoke, eg]
  have hSlt : ∀ {S S' : Nat → Prop} {W W' : World} {b : Nat}, ¬ S b → b < W.heap.size → (∀ i, S' i → S i ∨ (W.heap.size ≤ i ∧ i < W'.heap.size)) → ¬ S' b := fun hn hb h hs => by
    rcases h _ hs with h1 | h1
    · exact hn h1
    · omega
  refine (hseq (w.heap.size + 1) (fun S k W => I S k W ∧ W.heap[w.heap.size + 1]? = some (.loop (R .ready none)) ∧ W.heap[w.heap.size]? = some (.deferred (some [])) ∧ ¬ S w.heap.size ∧ ¬ S (w.heap.size + 1) ∧ ∀ i, S i → i < W.heap.size)
    (fun S k W => ∃ c, Ix c S k W ∧ W.heap[w.heap.size + 1]? = some (.loop (R .done (some c))) ∧ W.heap[w.heap.size]? = some (.deferred (some [])) ∧ ¬ S w.heap.size ∧ ¬ S (w.heap.size + 1)) (fun S k W h => hIn S k W h.1) ?_ ?_ ?_ ?_ ?_ W1 ⟨by rw [hW1]; exact h0 _, hL1, hD1, fun e => e, fun e => e, fun _ e => e.elim⟩).mono ?_
  · rintro S k W W' ⟨h1, h2, h3, h4, h5, h6⟩ ho
    exact ⟨hIr S k W W' h1 ho, ho.obj h2 h5, ho.obj h3 h4, h4, h5, fun i hi => Nat.lt_of_lt_of_le (h6 i hi) ho.size⟩
  · rintro S S' k W W' ⟨h1, h2, h3, h4, h5, h6⟩ hb hs
    refine ⟨hIg S S' k W W' h1 hb hs, below_box hb h2, below_box hb h3, hSlt h4 (Array.getElem?_eq_some_iff.1 h3).1 hs, hSlt h5 (Array.getElem?_eq_some_iff.1 h2).1 hs, fun i hi => ?_⟩
    rcases hs i hi with h | h
    · exact Nat.lt_of_lt_of_le (h6 i h) hb.size
    · exact h.2
  · rintro S k W W' ⟨c, h1, h2, h3, h4, h5⟩ ho
    exact ⟨c, hXr c S k W W' h1 ho, ho.obj h2 h5, ho.obj h3 h4, h4, h5⟩
  · rintro S S' k W W' ⟨c, h1, h2, h3, h4, h5⟩ hb hs
    exact ⟨c, hXg c S S' k W W' h1 hb hs, below_box hb h2, below_box hb h3, hSlt h4 (Array.getElem?_eq_some_iff.1 h3).1 hs, hSlt h5 (Array.getElem?_eq_some_iff.1 h2).1 hs⟩
  · rintro S k W ⟨hi, hl, hd, hS0, hS1, hS2⟩ hk
    have hy := run_yield (P := Tryz.prog) (w := W) (args := xs.getD k #[]) hl (by rw [hR]; simp only; rw [hps k hk])
    rw [hR] at hy
    have hltL := (Array.getElem?_eq_some_iff.1 hl).1
    have hlA : (W₁ (xs.getD k #[]) W).heap[w.heap.size + 1]? = some (.loop (R .ready none)) := ((hW₁ k W).block _ hltL).trans hl
    have hdA : (W₁ (xs.getD k #[]) W).heap[w.heap.size]? = some (.deferred (some [])) := ((hW₁ k W).block _ (Array.getElem?_eq_some_iff.1 hd).1).trans hd
    have hiA : I S k (W₁ (xs.getD k #[]) W) := hIg S S k _ _ hi (hW₁ k W) (fun i h => .inl h)
    refine ⟨fn, _, assign, body, hy, roundIn_of_wpIn hfn (hassign _ k W _ hk ⟨_, run_beginRound hlA (by rw [hR]), ?_⟩)⟩
    obtain ⟨W2, hW2⟩ : ∃ W2, W2 = (W₁ (xs.getD k #[]) W).putObj (w.heap.size + 1) (.loop { R .ready none with state := .busy }) := ⟨_, rfl⟩
    rw [← hW2]
    have hl2 : W2.heap[w.heap.size + 1]? = some (.loop { R .ready none with state := .busy }) := by rw [hW2]; exact World.putObj_heap_same (Array.getElem?_eq_some_iff.1 hlA).1
    have hd2 : W2.heap[w.heap.size]? = some (.deferred (some [])) := by rw [hW2]; exact (World.putObj_heap_other (by omega)).trans hdA
    have hi2 : I S k W2 := by rw [hW2]; exact hIp _ _ _ _ hiA
    have hoX : Only (· = w.heap.size + 1) (W₁ (xs.getD k #[]) W) W2 := by rw [hW2]; exact put_onlyS
    have hS3 : ∀ i, S i → i < W2.heap.size := fun i h => Nat.lt_of_lt_of_le (hS2 i h) (Nat.le_trans (hW₁ k W).size hoX.size)
    have hkW : Kept S W W2 := fun i h => by
      rw [hoX.block i (Nat.lt_of_lt_of_le (hS2 i h) (hW₁ k W).size) (fun e => hS1 (by have e' : i = w.heap.size + 1 := e; rw [← e']; exact h)), (hW₁ k W).block i (hS2 i h)]
    refine wpIn_mono (hbody _ k S W W2 hi2 hk (by omega) hoX hS0 hS1 hS3) ?_
    intro e a3 W3 hend
    have fin : ∀ (jump : Option Code), Kept (fun i => S i ∨ i = w.heap.size ∨ i = w.heap.size + 1) W2 W3 → W2.heap.size ≤ W3.heap.size → ∃ v w', (Instr.endRound (w.heap.size + 1) jump).run Tryz.prog W3 = .ok v w' ∧ v = .bool jump.isNone ∧ w' = W3.putObj (w.heap.size + 1) (.loop (R (if jump.isNone then .ready else .done) jump)) ∧ W3.heap[w.heap.size + 1]? = some (.loop { R .ready none with state := .busy }) ∧ W3.heap[w.heap.size]? = some (.deferred (some [])) ∧ Kept S W w' ∧ W.heap.size ≤ w'.heap.size := by
      intro jump hk3 hz3
      have hl3 := (hk3 _ (.inr (.inr rfl))).trans hl2
      have hd3 := (hk3 _ (.inr (.inl rfl))).trans hd2
      have hend := run_endRound (P := Tryz.prog) jump hl3
      refine ⟨_, _, hend, ?_, ?_, hl3, hd3, ?_, ?_⟩
      · cases jump <;> rfl
      · rw [hR]
      · intro i h
        rw [World.putObj_heap_other (fun e => hS1 (by rw [← e]; exact h)), hk3 i (.inl h), hkW i h]
      · have := hoX.size
        have := (hW₁ k W).size
        simp
        omega
    have stop : ∀ (c : Code), Kept (fun i => S i ∨ i = w.heap.size ∨ i = w.heap.size + 1) W2 W3 → W2.heap.size ≤ W3.heap.size → Ix c S (k + 1) W3 → ∃ v w', (Instr.endRound (w.heap.size + 1) (some c)).run Tryz.prog W3 = .ok v w' ∧ (Kept S W w' ∧ W.heap.size ≤ w'.heap.size ∧ ((Ending.returned v = .returned (.bool true) ∧ I S (k + 1) w' ∧ w'.heap[w.heap.size + 1]? = some (.loop (R .ready none)) ∧ w'.heap[w.heap.size]? = some (.deferred (some [])) ∧ ¬ S w.heap.size ∧ ¬ S (w.heap.size + 1) ∧ ∀ i, S i → i < w'.heap.size) ∨ (Ending.returned v = .returned (.bool false) ∧ ∃ c, Ix c S (k + 1) w' ∧ w'.heap[w.heap.size + 1]? = some (.loop (R .done (some c))) ∧ w'.heap[w.heap.size]? = some (.deferred (some [])) ∧ ¬ S w.heap.size ∧ ¬ S (w.heap.size + 1)))) := by
      intro c hk3 hz3 hx
      obtain ⟨v, w', r1, rfl, rfl, r4, r5, r6, r7⟩ := fin (some c) hk3 hz3
      refine ⟨_, _, r1, r6, r7, .inr ⟨rfl, c, hXp _ _ _ _ _ hx, ?_, (World.putObj_heap_other (by omega)).trans r5, hS0, hS1⟩⟩
      rw [World.putObj_heap_same (Array.getElem?_eq_some_iff.1 r4).1]
      rfl
    cases e with
    | normal =>
      obtain ⟨hk3, hz3, hi3⟩ := hend
      obtain ⟨v, w', r1, rfl, rfl, r4, r5, r6, r7⟩ := fin none hk3 hz3
      refine ⟨_, _, r1, r6, r7, .inl ⟨rfl, hIp _ _ _ _ hi3, ?_, (World.putObj_heap_other (by omega)).trans r5, hS0, hS1, fun i h => Nat.lt_of_lt_of_le (hS2 i h) r7⟩⟩
      rw [World.putObj_heap_same (Array.getElem?_eq_some_iff.1 r4).1]
      rfl
    | ret => exact stop .ret hend.1 hend.2.1 hend.2.2
    | exit id => exact stop (.exit id) hend.1 hend.2.1 hend.2.2
    | goto t => exact stop (.goto t) hend.1 hend.2.1 hend.2.2
    | panic c => exact hend.elim
    | outgrown => exact hend.elim
  · rintro e W2 ⟨⟨r, rfl⟩, ⟨S, hi, hl, hd, _⟩ | ⟨S, k, hk, c, hx, hl, hd, _⟩⟩
    · have hend := run_endLoop (P := Tryz.prog) hl (by rw [hR]; simp)
      rw [hR] at hend
      exact ⟨none, _, hend, hdone _ S _ rfl (hIp _ _ _ _ hi) ((World.putObj_heap_other (by omega)).trans hd)⟩
    · have hend := run_endLoop (P := Tryz.prog) hl (by rw [hR]; simp)
      rw [hR] at hend
      exact ⟨some c, _, hend, hstop _ c S k _ rfl hk (hXp _ _ _ _ _ hx) ((World.putObj_heap_other (by omega)).trans hd)⟩
end Go.Proofs.YtifldnpccgbnkaaGreat

/-
  What Out tells, and what the law's told makes of it. The conditions: that the records lie there; lengths.
-/
namespace Go.Proofs.YtifldnpccgbnkaaGreat
open Go.RowKit Go.Shelf
attribute [local go_sem] Oper.semAt_some

def tellR (es : List RC) : List (Array Value) := (List.range es.length).map fun (k : Nat) => #[.int .i64 (k : Int), .agg #[.int .i64 (es[k]!).key, .int .i64 (es[k]!).val]]
theorem tellR_len (es : List RC) : (tellR es).length = es.length := by unfold tellR; simp
theorem tellR_get {es : List RC} {k : Nat} (hk : k < es.length) {x : RC} (hx : es[k]! = x) : (tellR es).getD k #[] = #[.int .i64 (k : Int), .agg #[.int .i64 x.key, .int .i64 x.val]] := by
  unfold tellR
  rw [List.getD_eq_getElem?_getD, List.getElem?_map, List.getElem?_range hk]
  simp only [Option.map_some, Option.getD_some, hx]
theorem enOut : ∀ args w, (callFunc 25 args).run Tryz.prog w = .ok (.enter 25 args) w := enters_of Tryz.func25 (by kernel_rfl) rfl
def KOut (kb L cap : Nat) (p : Option Addr) (es : List RC) (W : World) : Prop := W.cell? ⟨kb, 0, none⟩ = some (.slice p L cap) ∧ RRow W p cap es
theorem KOut.later {kb L cap : Nat} {p : Option Addr} {es : List RC} {W W' : World} (h : KOut kb L cap p es W) (hb : Below W.heap.size W W') : KOut kb L cap p es W' := ⟨cell_later hb h.1, RRow.later h.2 hb⟩
set_option maxRecDepth 100000 in
set_option maxHeartbeats 4000000 in
theorem out_tells (q : Nat) (hq : 1 ≤ q) {kb L cap : Nat} {p : Option Addr} {es : List RC} (hL : es.length = L) :
    TellsS q 25 #[.pointer (some ⟨kb, 0, none⟩)] (tellR es) (KOut kb L cap p es) := by
  intro l J Jx hr hrob hgr hrx hgx hY W h0
  have HR := hide hr
  have HGR := hide hgr
  have HY := hide hY
  have H0 := hide h0
  have HL := hide hL
  obtain ⟨hcell, hrow⟩ := hr _ 0 W h0
  have i3 := hrow.le
  have i4 := hrow.top
  rw [hL] at i3
  clear hr hY h0 hrob hgr hrx hgx hrow hL
  show CallsIn Fence.wide q Tryz.prog 25 #[.func (.yield l) #[] #[], .pointer (some ⟨kb, 0, none⟩)] W _
  refine callsIn_of_wp Tryz.func25 rfl trivial ?_ rfl
  simp only [Tryz.ntmps25, List.size_toArray, List.length_cons, List.length_nil, Nat.reduceAdd, Nat.reduceSub, Array.replicate_succ, Array.replicate_zero, List.push_toArray, List.append_toArray, List.nil_append, List.cons_append]
  gi_wp2
  gi_loopw [7] (fun i wr => ∃ m : Nat, m ≤ L ∧ i = .int .i64 (m : Int) ∧ Hid (J (fun _ => False) m wr)) (fun i _ => L - (intOf i).toNat)
  case atStart => exact ⟨0, Nat.zero_le _, rfl, H0⟩
  case round =>
    obtain ⟨m, hm, rfl, HJ⟩ := hrel
    clear H0 hcell
    by_cases hlt : m < L
    · have hlt2 : m < es.length := by rw [HL.out]; exact hlt
      have hGr := (HR.out _ _ wr HJ.out).2
      obtain ⟨x, hx⟩ : ∃ x, es[m]! = x := ⟨_, rfl⟩
      obtain ⟨g, o, rfl, d0, d1⟩ := hGr.at hlt2 hx
      have y2 := tellR_get hlt2 hx
      obtain ⟨ky, vl⟩ := x
      simp only at d0 d1 y2
      have hJ2 := HGR.out (fun _ => False) (fun _ => False) _ _ _ HJ.out (alloc_below wr (.cells #[.int .i64 ky, .int .i64 vl] 71 (0, 0))) (fun _ e => e.elim)
      obtain ⟨fn', tmps, assign, body, hyy, hRd⟩ := HY.out _ _ _ hJ2 (by rw [tellR_len]; exact hlt2)
      rw [y2] at hyy
      have HRd := hide hRd
      clear hRd y2 hGr hx hlt2 hJ2
      gi_wp2
      refine HRd.out.mono ?_
      rintro e W3 ⟨_, _, ⟨rfl, hJ3⟩ | ⟨rfl, hJ3⟩⟩
      · have J3 : Hid (J (fun _ => False) (m + 1) W3) := hide hJ3
        clear HRd hyy hJ3 d0 d1
        gi_wp2
        go_roundw
        case rel => exact ⟨m + 1, by omega, by first | rfl | go_num, J3⟩
        case measure => simp [intOf]; omega
      · have J3 := hide hJ3
        clear HRd hyy hJ3 d0 d1
        gi_wp2
        refine bodyPost_ret (results_none rfl _ _ _) rfl ?_
        exact ⟨⟨_, rfl⟩, .inr ⟨_, _, by rw [tellR_len, HL.out]; omega, J3.out⟩⟩
    · obtain rfl : m = L := by omega
      have HJE : Hid (J (fun _ => False) (tellR es).length wr) := by
        have h := HJ.out
        rw [tellR_len, HL.out]
        exact hide h
      gi_wp2
      refine bodyPost_end (results_none rfl _ _ _) rfl ?_
      exact ⟨⟨_, rfl⟩, .inl ⟨_, HJE.out⟩⟩

def aggT : Value → Array Value
  | .agg a => a
  | _ => #[]
theorem take_snocR {es : List RC} {k : Nat} (hk : k < es.length) {x : RC} (hx : es[k]! = x) : es.take (k + 1) = es.take k ++ [x] := by
  rw [List.take_succ_eq_append_getElem hk, ← hx, getElem!_pos es k hk]
/-- What the loop of told keeps. -/
def TdR (V : World) (oB : Nat) (es : List RC) : Jt := fun S k X =>
  ∃ p c, Boxed X oB 26 (.slice p k c) ∧ ¬ S oB ∧ X.ownsRow (V.heap.size + 2) 71 2 (.slice p k c) k ((es.take k).flatMap RC.cells) ∧ (∀ b, (Value.slice p k c).ownBlock = some b → ¬ S b) ∧ Only (· = oB) V X ∧ ∀ i, S i → V.heap.size ≤ i
theorem TdR.rob (V : World) (oB : Nat) (es : List RC) : Robust (TdR V oB es) := by
  rintro S k X X' ⟨p, c, h1, h2, h3, h4, h5, h6⟩ ho
  exact ⟨p, c, ho.obj h1 h2, h2, ownsRow_only h3 ho (fun b hb e => h4 b hb e), h4, h5.step ho (fun i h => .inr (h6 i h)), h6⟩
theorem TdR.grw (V : World) (oB : Nat) (es : List RC) : Grows (TdR V oB es) := by
  rintro S S' k X X' ⟨p, c, h1, h2, h3, h4, h5, h6⟩ hb hs
  have hz := h5.size
  refine ⟨p, c, below_box hb h1, fun h => ?_, ownsRow_later h3 hb, fun b hbk h => ?_, h5.trans (Only.fresh hb _), fun i h => ?_⟩
  · have := (Array.getElem?_eq_some_iff.1 (show X.heap[oB]? = _ from h1)).1
    rcases hs _ h with h | h
    · exact h2 h
    · omega
  · have := (own_block_lt h3 hbk).1
    rcases hs _ h with h | h
    · exact h4 b hbk h
    · omega
  · rcases hs _ h with h | h
    · exact h6 i h
    · omega
theorem TdR.put {V : World} {oB : Nat} {es : List RC} {S : Nat → Prop} {k : Nat} {X : World} (h : TdR V oB es S k X) {r : Nat} {o' : Obj} (hr : r = V.heap.size ∨ r = V.heap.size + 1) (hor : oB < V.heap.size) : TdR V oB es S k (X.putObj r o') := by
  obtain ⟨p, c, h1, h2, h3, h4, h5, h6⟩ := h
  exact ⟨p, c, put_onlyS.obj h1 (fun e => by have e' : oB = r := e; omega), h2, ownsRow_only h3 put_onlyS (fun b hb e => by
    have e' : b = r := e
    have := own_block_base h3 hb
    omega), h4, h5.step put_onlyS (fun i e => .inr (by have e' : i = r := e; omega)), h6⟩
theorem run_loadVar_cell {P : Program} (w : World) (g : Nat) (ty : TypeId) (v : Value) (d : TypeDesc) (hg : w.cell? ⟨g, 0, none⟩ = some v) (hu : P.underlying ty = some d) (hd : (match d with | .struct _ | .array _ _ => true | _ => false) = false) :
    (loadVar ty ⟨g, 0, none⟩).run P w = .ok v w := by
  have h1 : (isAgg ty).run P w = .ok false w := by
    unfold isAgg
    rw [Sem.run_bind, run_underlying hu w]
    cases d <;> simp_all
  simp [loadVar, h1, go_sem, hg]
theorem results_cells2 {P : Program} {fn : Func} {p u : Tmp} {ty t2 : TypeId} (h : fn.results = #[.cell p ty, .cell u t2]) (tmps : Array Value) (w : World) (g g2 : Nat) (v v2 : Value) (d d2 : TypeDesc)
    (hp : tmps.getD p undef = .pointer (some ⟨g, 0, none⟩)) (hu : tmps.getD u undef = .pointer (some ⟨g2, 0, none⟩)) (hg : w.cell? ⟨g, 0, none⟩ = some v) (hg2 : w.cell? ⟨g2, 0, none⟩ = some v2)
    (hd : P.underlying ty = some d) (hd2 : P.underlying t2 = some d2) (h1 : (match d with | .struct _ | .array _ _ => true | _ => false) = false) (h2 : (match d2 with | .struct _ | .array _ _ => true | _ => false) = false) :
    (results fn tmps).run P w = .ok (.tuple #[v, v2]) w := by
  have hp' : tmps[p]?.getD undef = .pointer (some ⟨g, 0, none⟩) := by simpa using hp
  have hu' : tmps[u]?.getD undef = .pointer (some ⟨g2, 0, none⟩) := by simpa using hu
  have hl1 := run_loadVar_cell (P := P) w g ty v d hg hd h1
  have hl2 := run_loadVar_cell (P := P) w g2 t2 v2 d2 hg2 hd2 h2
  simp only [results, h]
  simp [Result.andThen, hp', hu', asAddr, hl1, hl2]
set_option maxRecDepth 100000 in
set_option maxHeartbeats 4000000 in
theorem told_in (n : Nat) (hn : 5 ≤ n) {W : World} {kb L cap : Nat} {p' : Option Addr} {es : List RC} (hK : KOut kb L cap p' es W) (hL : es.length = L) (hb : L * 16 ≤ 140737488355328) :
    CallsIn Fence.wide n Tryz.prog 13 #[.func (.func 25) #[] #[.pointer (some ⟨kb, 0, none⟩)]] W fun e w' => ∃ p c, e = .returned (.tuple #[.slice p L c, .bool true]) ∧ w'.ownsRow W.heap.size 71 2 (.slice p L c) L (es.flatMap RC.cells) ∧ Below W.heap.size W w' := by
  obtain ⟨i0, hI0, hz0, hz1, hz2⟩ := info_parts Tryz.infoRec
  have HLL := hide hL
  clear hL
  obtain ⟨V2, hV2⟩ : ∃ V2, V2 = (W.alloc (.cells #[.slice none 0 0] 26 (0, 0))).alloc (.cells #[.bool false] 4 (0, 0)) := ⟨_, rfl⟩
  obtain ⟨V, hV⟩ : ∃ V, V = V2.alloc (.cells #[.slice none 0 0] 26 (0, 0)) := ⟨_, rfl⟩
  obtain ⟨rB, hrB⟩ : ∃ rB, W.heap.size = rB := ⟨_, rfl⟩
  obtain ⟨qB, hqB⟩ : ∃ qB, rB + 1 = qB := ⟨_, rfl⟩
  obtain ⟨oB, hoB⟩ : ∃ oB, qB + 1 = oB := ⟨_, rfl⟩
  have b1 := alloc_below W (.cells #[.slice none 0 0] 26 (0, 0))
  have s2 : V2.heap.size = oB := by rw [hV2, ← hoB, ← hqB, ← hrB]; simp
  have bV2 : Below W.heap.size W V2 := by rw [hV2]; exact b1.trans ((alloc_below _ _).mono b1.size)
  have bV3 : Below V2.heap.size V2 V := by rw [hV]; exact alloc_below _ _
  have bV : Below W.heap.size W V := bV2.trans (bV3.mono bV2.size)
  have hVo : oB < V.heap.size := by rw [hV]; simp [s2]
  have hbr : V.heap[rB]? = some (.cells #[.slice none 0 0] 26 (0, 0)) := below_box bV3 (by rw [hV2, ← hrB]; exact below_box (alloc_below _ _) (heap_alloc_new W _))
  have hbq : V.heap[qB]? = some (.cells #[.bool false] 4 (0, 0)) := below_box bV3 (by
    have h := heap_alloc_new (W.alloc (.cells #[.slice none 0 0] 26 (0, 0))) (.cells #[.bool false] 4 (0, 0))
    rw [World.size_alloc, hrB, hqB] at h
    rw [hV2]
    exact h)
  have hbo : V.heap[oB]? = some (.cells #[.slice none 0 0] 26 (0, 0)) := by rw [hV, ← s2]; exact heap_alloc_new V2 _
  have HKW := hide hK
  have HVB := hide bV
  have HBO := hide hbo
  have HBR := hide hbr
  have HBQ := hide hbq
  have HTL := hide (tellR_len es)
  have hWr : W.heap.size ≤ rB := by omega
  have hrq : rB < qB := by omega
  have hqo : qB < oB := by omega
  refine callsIn_of_wp_marks Tryz.func13 rfl trivial ?_ rfl
  simp only [Tryz.ntmps13, List.size_toArray, List.length_cons, List.length_nil, Nat.reduceAdd, Nat.reduceSub, Array.replicate_succ, Array.replicate_zero, List.push_toArray, List.append_toArray, List.nil_append, List.cons_append]
  gi_wp2_with fail
  rw [← hV2, ← hV]
  try rw [hrB]
  try rw [hqB]
  try rw [hoB]
  clear hV hV2 bV bV2 bV3 hbo hbr hbq b1 s2 hK hrB hqB hoB
  refine range_listS (by omega) (out_tells (n - 1) (by omega) (kb := kb) (cap := cap) (p := p') HLL.out) rfl enOut ?size (TdR V oB es) (fun _ _ _ _ => False) ?rob ?grw ?xrob ?xgrw ?puts ?xputs ?reads ?start
    (fun x X => { tmps := #[.func (.func 25) #[] #[.pointer (some ⟨kb, 0, none⟩)], undef, .pointer (some ⟨rB, 0, none⟩), .pointer (some ⟨qB, 0, none⟩), .pointer (some ⟨oB, 0, none⟩), x.getD 0 undef, .pointer (some ⟨X.heap.size, 0, none⟩), .func (.func 25) #[] #[.pointer (some ⟨kb, 0, none⟩)], x.getD 0 undef, x.getD 1 undef, undef, undef, undef, undef, undef, undef, undef, undef, undef], defers := [] }) (fun x X => X.alloc (.cells (aggT (x.getD 1 undef)) 71 (0, 0))) (fun k X => alloc_below X _) ?assign ?body ?done ?stop
  case size =>
    intro k hk
    rw [HTL.out] at hk
    rw [tellR_get hk rfl]
    rfl
  case rob => exact TdR.rob V oB es
  case grw => exact TdR.grw V oB es
  case xrob => exact fun _ _ _ _ _ h _ => h
  case xgrw => exact fun _ _ _ _ _ _ h _ _ => h
  case puts =>
    intro S k X o' h1
    exact TdR.put h1 (.inr rfl) (by omega)
  case xputs => exact fun _ _ _ _ _ h => h
  case reads =>
    intro S k X h1
    obtain ⟨_, _, _, _, _, _, h5, _⟩ := h1
    exact HKW.out.later (HVB.out.trans (h5.below HVB.out.size (fun i e => by have e' : i = oB := e; omega)))
  case start =>
    intro r
    have hb2 : Below V.heap.size V ((V.alloc (.deferred (some []))).alloc (.loop r)) := (alloc_below V _).trans ((alloc_below _ _).mono (by simp))
    exact ⟨none, 0, below_box hb2 HBO.out, fun e => e, World.ownsRow_nil _ _ _ _, fun b h => by simp [Value.ownBlock] at h, Only.fresh hb2 _, fun i e => e.elim⟩
  case assign =>
    intro l' k X K hk hK
    rw [HTL.out] at hk
    obtain ⟨e, he⟩ : ∃ e, es[k]! = e := ⟨_, rfl⟩
    rw [tellR_get hk he] at hK ⊢
    obtain ⟨ky, vl⟩ := e
    simp only [aggT, Array.getD_eq_getD_getElem?, List.getElem?_toArray, List.getElem?_cons_zero, List.getElem?_cons_succ, Option.getD_some] at hK
    clear he
    gi_wp2
    exact hK
  case body =>
    rintro l' k S Z X hI hk hsz hoX hS0 hS1 hS2
    rw [HTL.out] at hk
    obtain ⟨e, he⟩ : ∃ e, es[k]! = e := ⟨_, rfl⟩
    rw [tellR_get hk he] at hoX ⊢
    have HT := hide (take_snocR hk he)
    have HK := hide hk
    obtain ⟨ky, vl⟩ := e
    simp only [aggT, Array.getD_eq_getD_getElem?, List.getElem?_toArray, List.getElem?_cons_zero, List.getElem?_cons_succ, Option.getD_some] at hoX ⊢
    have hpb : X.heap[Z.heap.size]? = some (.cells #[.int .i64 ky, .int .i64 vl] 71 (0, 0)) := hoX.obj (heap_alloc_new Z _) (fun e => by have e' : Z.heap.size = V.heap.size + 1 := e; omega)
    have x0 : X.cell? ⟨Z.heap.size, 0, none⟩ = some (.int .i64 ky) := by simp [World.cell?, hpb]
    have x1 : X.cell? ⟨Z.heap.size, 1, none⟩ = some (.int .i64 vl) := by simp [World.cell?, hpb]
    have hZX : V.heap.size + 2 ≤ X.heap.size := by have := hoX.size; simp at this; omega
    obtain ⟨p, c, h1, h2, h3, h4, h5, h6⟩ := hI
    have co := h1.cell
    obtain ⟨_, _, ef, ec1, ec2⟩ := own_form h3
    simp only [Value.slice.injEq, true_and] at ef
    obtain ⟨rfl, rfl⟩ := ef
    have hkL : k < L := by rw [← HLL.out]; exact hk
    have qk : ((k : Int) != (k : Int)) = false := by simp
    have HRW := hide (ownsRow_later h3 (alloc_below X (.cells #[.int .i64 ky, .int .i64 vl] 71 (0, 0))))
    have HK1' : Hid (k + 1 ≤ maxLen) := by show _ ≤ _; unfold maxLen; omega
    have HK2' : Hid ((k + 1) * 16 ≤ 140737488355328) := by show _ ≤ _; omega
    have HBB' : Hid (V.heap.size + 2 ≤ (X.alloc (.cells #[.int .i64 ky, .int .i64 vl] 71 (0, 0))).heap.size) := hide (by simp; omega)
    have H1 := hide h1
    have H2 := hide h2
    have H3 := hide h3
    have H4 := hide h4
    have H5 := hide h5
    have H6 := hide h6
    clear h1 h2 h3 h4 h5 h6 hoX hpb he
    gi_wp2_with (gi_at_builtin; refine wpListIn_append_own_at _ rfl (.tmp 14) (.tmp 16) 26 rfl (V.heap.size + 2) 71 i0 (.agg #[.int .i64 0, .int .i64 0]) 2 16 Tryz.underlying26 hI0 hz0 hz1 hz2 rfl (by decide) (.slice p k c) k _ rfl HRW.out ⟨X.heap.size, 0, none⟩ 1 1 [.int .i64 ky, .int .i64 vl] rfl rfl (World.news_of_block (heap_alloc_new X _)) (by simp [Value.oneCell']) HK1'.out HK2'.out HBB'.out ?_)
    intro v4 w4 hown hgrow _ hwhere
    obtain ⟨p4, c4, rfl, _, _⟩ := own_form hown
    have hoW : Only (fun i => (Value.slice p k c).ownBlock = some i) X w4 := (Only.alloc _ _ _).trans (Only.of_grown hgrow (fun k e => e))
    have hnoB : ∀ i, (Value.slice p k c).ownBlock = some i → V.heap.size + 2 ≤ i := fun i e => own_block_base H3.out e
    have hbx4 : Boxed w4 oB 26 (.slice p k c) := hoW.obj H1.out (fun e => by have := hnoB _ e; omega)
    have co4 := hbx4.cell
    have cf4 := hbx4.frozen
    have hoF : Only (fun i => (Value.slice p k c).ownBlock = some i ∨ i = oB) X (w4.setCell ⟨oB, 0, none⟩ (.slice p4 (k + 1) c4)) := (hoW.mono (fun i _ e => .inl e)).trans (Only.set (F := fun i => (Value.slice p k c).ownBlock = some i ∨ i = oB) w4 oB 0 _ (.inr rfl))
    have HKP : Hid (Kept (fun i => S i ∨ i = V.heap.size ∨ i = V.heap.size + 1) X (w4.setCell ⟨oB, 0, none⟩ (.slice p4 (k + 1) c4))) := by
      refine hide (fun i hi => hoF.block i ?_ ?_)
      · rcases hi with h | h | h
        · exact hS2 i h
        · omega
        · omega
      · rintro (e | e)
        · rcases hi with h | h | h
          · exact H4.out i e h
          · have := hnoB _ e; omega
          · have := hnoB _ e; omega
        · rcases hi with h | h | h
          · exact H2.out (by rw [← e]; exact h)
          · omega
          · omega
    have HSZ : Hid (X.heap.size ≤ (w4.setCell ⟨oB, 0, none⟩ (.slice p4 (k + 1) c4)).heap.size) := hide hoF.size
    have HTD : Hid (TdR V oB es S (k + 1) (w4.setCell ⟨oB, 0, none⟩ (.slice p4 (k + 1) c4))) := by
      refine hide ⟨p4, c4, hbx4.set _, H2.out, ?_, fun b hb hs => ?_, H5.out.step hoF (fun i e => ?_), H6.out⟩
      · rw [HT.out, List.flatMap_append]
        have e1 : [(⟨ky, vl⟩ : RC)].flatMap RC.cells = [.int .i64 ky, .int .i64 vl] := rfl
        rw [e1]
        exact ownsRow_only hown (Only.set (F := (· = oB)) w4 oB 0 _ rfl) (fun b hb e => by have e' : b = oB := e; have := own_block_base hown hb; omega)
      · rcases hwhere with h | h
        · rw [h] at hb; exact H4.out b hb hs
        · rw [h] at hb
          simp only [Option.some.injEq] at hb
          have := hS2 b hs
          omega
      · rcases e with e | e
        · exact .inr (by have := hnoB _ e; omega)
        · exact .inl e
    clear hown hgrow hwhere hoW hnoB hbx4 hoF
    gi_wp2
    exact ⟨HKP.out, HSZ.out, HTD.out⟩
  case done =>
    rintro D S X hD hI hK
    rw [HTL.out] at hI
    obtain ⟨p, c, h1, h2, h3, h4, h5, h6⟩ := hI
    have hLr : es.length = L := HLL.out
    rw [hLr] at h1 h3
    rw [← hLr, List.take_length, hLr] at h3
    have co := h1.cell
    have hr5 := h5.obj HBR.out (fun e => by have e' : rB = oB := e; omega)
    have hq5 := h5.obj HBQ.out (fun e => by have e' : qB = oB := e; omega)
    have f0 : X.cell? ⟨rB, 0, none⟩ = some (.slice none 0 0) := by simp [World.cell?, hr5]
    have f1 : X.frozen? ⟨rB, 0, none⟩ = false := by simp [World.frozen?, hr5]
    obtain ⟨Y, hY⟩ : ∃ Y, Y = X.setCell ⟨rB, 0, none⟩ (.slice p L c) := ⟨_, rfl⟩
    have hoY : Only (· = rB) X Y := by rw [hY]; exact Only.set (F := (· = rB)) X rB 0 _ rfl
    have hqY := hoY.obj hq5 (fun e => by have e' : qB = rB := e; omega)
    have hrY : Y.heap[rB]? = some (.cells #[.slice p L c] 26 (0, 0)) := by rw [hY]; exact heap_setCell_same X rB 0 _ _ _ hr5
    have f2 : (X.setCell ⟨rB, 0, none⟩ (.slice p L c)).cell? ⟨qB, 0, none⟩ = some (.bool false) := by rw [← hY]; simp [World.cell?, hqY]
    have f3 : (X.setCell ⟨rB, 0, none⟩ (.slice p L c)).frozen? ⟨qB, 0, none⟩ = false := by rw [← hY]; simp [World.frozen?, hqY]
    obtain ⟨Z, hZ⟩ : ∃ Z, Z = Y.setCell ⟨qB, 0, none⟩ (.bool true) := ⟨_, rfl⟩
    have hoZ : Only (· = qB) Y Z := by rw [hZ]; exact Only.set (F := (· = qB)) Y qB 0 _ rfl
    have hrZ := hoZ.obj hrY (fun e => by have e' : rB = qB := e; omega)
    have hqZ : Z.heap[qB]? = some (.cells #[.bool true] 4 (0, 0)) := by rw [hZ]; exact heap_setCell_same Y qB 0 _ _ _ hqY
    have HKZ : Hid (Z.heap[D]? = some (.deferred (some []))) := hide (hoZ.obj (hoY.obj hK (fun e => by have e' : D = rB := e; omega)) (fun e => by have e' : D = qB := e; omega))
    have HRW : Hid (Z.ownsRow (V.heap.size + 2) 71 2 (.slice p L c) L (es.flatMap RC.cells)) := hide (ownsRow_only (ownsRow_only h3 hoY (fun b hb e => by have e' : b = rB := e; have := own_block_base h3 hb; omega)) hoZ (fun b hb e => by have e' : b = qB := e; have := own_block_base h3 hb; omega))
    have HBX : Hid (Below W.heap.size W Z) := hide (((HVB.out.trans (h5.below HVB.out.size (fun i e => by have e' : i = oB := e; omega))).trans (hoY.below (Nat.le_trans HVB.out.size h5.size) (fun i e => by have e' : i = rB := e; omega))).trans (hoZ.below (Nat.le_trans HVB.out.size (Nat.le_trans h5.size hoY.size)) (fun i e => by have e' : i = qB := e; omega)))
    have HRZ := hide hrZ
    have HQZ := hide hqZ
    have hZe : Z = (X.setCell ⟨rB, 0, none⟩ (.slice p L c)).setCell ⟨qB, 0, none⟩ (.bool true) := by rw [hZ, hY]
    clear h1 h2 h3 h4 h5 h6 hK hoY hqY hrY hoZ hrZ hqZ hr5 hq5 hZ hY
    gi_wp2
    rw [← hZe]
    refine ⟨by simp, .inl ⟨_, _, rfl, run_takeDeferred HKZ.out, ?_⟩⟩
    have hpr := (put_onlyS (W := Z) (l := D) (o' := .deferred none)).obj HRZ.out (fun e => by have e' : rB = D := e; omega)
    have hpq := (put_onlyS (W := Z) (l := D) (o' := .deferred none)).obj HQZ.out (fun e => by have e' : qB = D := e; omega)
    refine ⟨_, results_cells2 rfl _ _ rB qB (.slice p L c) (.bool true) _ _ rfl rfl (by simp [World.cell?, hpr]) (by simp [World.cell?, hpq]) Tryz.underlying26 Tryz.underlying4 rfl rfl, p, c, rfl, ?_, ?_⟩
    · exact ownsRow_base (ownsRow_only HRW.out put_onlyS (fun b hb e => by have e' : b = D := e; have := own_block_base HRW.out hb; omega)) (by have := HVB.out.size; omega)
    · exact HBX.out.trans (put_onlyS.below HBX.out.size (fun i e => by have e' : i = D := e; have := HVB.out.size; omega))
  case stop =>
    exact fun _ _ _ _ _ _ _ h _ => h.elim
theorem told_any {W : World} {kb L cap : Nat} {p' : Option Addr} {es : List RC} (hK : KOut kb L cap p' es W) (hL : es.length = L) (hb : L * 16 ≤ 140737488355328) :
    Calls Tryz.prog 13 #[.func (.func 25) #[] #[.pointer (some ⟨kb, 0, none⟩)]] W fun e w' => ∃ p c, e = .returned (.tuple #[.slice p L c, .bool true]) ∧ w'.ownsRow W.heap.size 71 2 (.slice p L c) L (es.flatMap RC.cells) ∧ Below W.heap.size W w' :=
  callsIn_wide.1 (told_in 5 (Nat.le_refl _) hK hL hb)
set_option maxRecDepth 100000 in
set_option maxHeartbeats 1000000 in
theorem out_any {W : World} {gv pv : Value} {parts : Int} {p9 : Option Addr} {n9 c9 : Nat} {es : List RC} {L : Nat} {er : Int} (hgv : gv = .agg #[.int .i64 parts, .slice p9 n9 c9]) (hrun : ∀ X, Below W.heap.size W X → Calls Tryz.prog 4 #[gv, pv] X fun e w' => ∃ yp yc, e = .returned (.tuple #[.slice yp L yc, .int .i64 er]) ∧ RRow w' yp yc es ∧ Below X.heap.size X w') (hL : es.length = L) :
    Calls Tryz.prog 14 #[gv, pv] W fun e w' => ∃ kb p' c', e = .returned (.func (.func 25) #[] #[.pointer (some ⟨kb, 0, none⟩)]) ∧ KOut kb L c' p' es w' ∧ Below W.heap.size W w' := by
  obtain ⟨V, hV⟩ : ∃ V, V = W.alloc (.cells #[.int .i64 parts, .slice p9 n9 c9] 24 (0, 0)) := ⟨_, rfl⟩
  have hbV : Below W.heap.size W V := by rw [hV]; exact alloc_below _ _
  obtain ⟨gB, hgB⟩ : ∃ gB, W.heap.size = gB := ⟨_, rfl⟩
  subst hgv
  have HR := hide (hrun V hbV)
  have HBV := hide hbV
  have HLL := hide hL
  clear hrun hbV hL
  go_enter Tryz.func14, Tryz.ntmps14
  go_wp2_with fail
  rw [← hV]
  try rw [hgB]
  clear hV hgB
  refine HR.out.mono ?_
  rintro _ w1 ⟨p', c', rfl, R1, B1⟩
  have hb2 := alloc_below w1 (.cells #[.slice p' L c'] 26 (0, 0))
  have hbx := heap_alloc_new w1 (.cells #[.slice p' L c'] 26 (0, 0))
  have HE := hide (RRow.later R1 hb2)
  have HB := hide ((HBV.out.trans (B1.mono HBV.out.size)).trans (hb2.mono (Nat.le_trans HBV.out.size B1.size)))
  have HX : Hid ((w1.alloc (.cells #[.slice p' L c'] 26 (0, 0))).cell? ⟨w1.heap.size, 0, none⟩ = some (.slice p' L c')) := hide (by simp only [World.cell?]; rw [hbx]; rfl)
  clear R1 B1 hb2 hbx HR
  go_wp2
  go_ret
  exact ⟨w1.heap.size, p', c', rfl, ⟨HX.out, HE.out⟩, HB.out⟩
end Go.Proofs.YtifldnpccgbnkaaGreat
