/-
  A loop over a function that gives some list; the iterator over the names in the sink's map. Nothing of a package but the map.
-/
import Derived.Test.YtboofnkajjnmeaaSkq
import Derived.RangeFuncGives
import Derived.Sort.MapsRangeIn
import Derived.Sort.KeysCollected
import Derived.Shelf.AbstractIn
namespace Go.Proofs.Ytboofnkajjnmeaa
open Go.ChangeShapes Go.WideShapes Go.ChangeAt Go.RowKit Go.Maps Go.Sort Go.Shelf
attribute [local go_sem] Oper.semAt_some

theorem alloc_grown (W : World) (o : Obj) : W.grownBy (W.alloc o) none :=
  ⟨rfl, rfl, rfl, by simp, fun k hk _ => Below.heap_alloc _ _ k hk⟩

theorem range_given {α : Type} {n : Nat} (hn : 2 ≤ n) {g : Operand} {ps : Array Tmp} {assign body : Code} {Q : Exit → Act → World → Prop} {a : Act} {w : World} {gf : Nat} {lb : Array Value} {enc : α → Value} {S : List α → Prop} {N : Nat}
    (hseq : SeqGives Fence.wide (n - 1) Try.prog gf lb enc S N w) (hg : a.eval g = .func (.func gf) #[] lb) (eg : ∀ args w, (callFunc gf args).run Try.prog w = .ok (.enter gf args) w) (hps : ps.size = 1)
    (I : List α → World → Prop) (hIa : AbidesFrom w.heap.size I)
    (hIp : ∀ ss W o', I ss W → I ss (W.putObj (w.heap.size + 1) o'))
    (h0 : ∀ r, I [] ((w.alloc (.deferred (some []))).alloc (.loop r))) (a₁ : α → World → Act) (W₁ : α → World → World) (hW₁ : ∀ (x : α) (W : World), W.grownBy (W₁ x W) none)
    (hassign : ∀ (l : Nat) (x : α) (W : World) (K : Act → World → Prop), K (a₁ x W) (W₁ x W) →
      assign.wpIn (Fence.wide.inRound l) (n - 1 - 1) Try.prog (Exit.then K (fun _ _ _ => False)) { tmps := (ps.zip #[enc x]).foldl (fun t (p, v) => t.setIfInBounds p v) a.tmps, defers := [] } W)
    (hbody : ∀ (l : Nat) (pre : List α) (x : α) (W X : World), I pre X → pre.length < N → w.heap.size + 2 ≤ W.heap.size → Only (· = w.heap.size + 1) (W₁ x W) X →
      body.wpIn (Fence.wide.inRound l) (n - 1 - 1) Try.prog (fun e _ X' => e = .normal ∧ I (pre ++ [x]) X' ∧ KeepsWalks X X' ∧ Kept (fun i => i = w.heap.size ∨ i = w.heap.size + 1) X X') (a₁ x W) X)
    (hdone : ∀ (D : Nat) (ss : List α) (W : World), D = w.heap.size → S ss → I ss W → W.heap[D]? = some (.deferred (some [])) → Q .normal { a with defers := { target := .collected D, args := #[] } :: a.defers } W) :
    (Code.rangeFunc g ps assign body).wpIn Fence.wide n Try.prog Q a w := by
  refine wpIn_rangeFunc fun fn hfn => ?_
  obtain ⟨R, hR⟩ : ∃ R : LoopState → Option Code → Loop, R = fun st pe => { state := st, pending := pe, fn, tmps := a.tmps, params := ps, assign, body, defers := w.heap.size } := ⟨_, rfl⟩
  obtain ⟨W1, hW1⟩ : ∃ W1, W1 = (w.alloc (.deferred (some []))).alloc (.loop (R .ready none)) := ⟨_, rfl⟩
  have hB1 : Below w.heap.size w W1 := by rw [hW1]; exact (alloc_below _ _).trans ((alloc_below _ _).mono (by simp))
  have hs1 : W1.heap.size = w.heap.size + 2 := by rw [hW1]; simp
  have hD1 : W1.heap[w.heap.size]? = some (.deferred (some [])) := by
    rw [hW1]; exact ((alloc_below _ _).block _ (by simp)).trans (heap_alloc_new w _)
  have hL1 : W1.heap[w.heap.size + 1]? = some (.loop (R .ready none)) := by
    rw [hW1]; have := heap_alloc_new (w.alloc (.deferred (some []))) (.loop (R .ready none)); rwa [World.size_alloc] at this
  refine ⟨w.heap.size + 1, [{ target := .collected w.heap.size, args := #[] }], W1, { target := .fn (.func gf) lb, args := #[.func (.yield (w.heap.size + 1)) #[] #[]] }, W1, gf,
    #[.func (.yield (w.heap.size + 1)) #[] #[]] ++ lb, W1, ?_, ?_, ?_, ?_, fun _ => by omega, ?_⟩
  · rw [hW1, hR]
    exact run_enterLoop_outer _ _ _ _ _
  · simp only [resolve, hg]
    simp [go_sem]
  · intro f' _
    trivial
  · simp [invoke, eg]
  refine (hseq (w.heap.size + 1) (fun ss W => I ss W ∧ W.heap[w.heap.size + 1]? = some (.loop (R .ready none)) ∧ W.heap[w.heap.size]? = some (.deferred (some [])) ∧ w.heap.size + 2 ≤ W.heap.size) W1 hB1 ?_ ?_ ⟨by rw [hW1]; exact h0 _, hL1, hD1, by omega⟩).mono ?_
  · rintro ss W W' row ⟨h1, h2, h3, h4⟩ hgr hrow
    have hrow' : ∀ r, row = some r → ∃ o : Obj, W.heap[r]? = some o ∧ o.isWalk = true := fun r e => (hrow r e).2
    exact ⟨hIa ss W W' row h1 hgr (fun r e => ⟨by have := (hrow r e).1; omega, (hrow r e).2⟩), (grownBy_keeps hgr hrow' h2 rfl).trans h2, (grownBy_keeps hgr hrow' h3 rfl).trans h3, Nat.le_trans h4 hgr.size⟩
  · rintro pre x W ⟨hi, hl, hd, hsz⟩ hk
    have hy := run_yield (P := Try.prog) (w := W) (args := #[enc x]) hl (by rw [hR]; simp only; rw [hps]; rfl)
    rw [hR] at hy
    have hgA := hW₁ x W
    have hltL := (Array.getElem?_eq_some_iff.1 hl).1
    have hltD := (Array.getElem?_eq_some_iff.1 hd).1
    have hlA : (W₁ x W).heap[w.heap.size + 1]? = some (.loop (R .ready none)) := (hgA.block _ hltL (by simp)).trans hl
    have hdA : (W₁ x W).heap[w.heap.size]? = some (.deferred (some [])) := (hgA.block _ hltD (by simp)).trans hd
    have hiA : I pre (W₁ x W) := hIa pre _ _ none hi hgA (fun r e => by cases e)
    refine ⟨fn, _, assign, body, hy, roundIn_of_wpIn hfn (hassign _ x W _ ⟨_, run_beginRound hlA (by rw [hR]), ?_⟩)⟩
    obtain ⟨W2, hW2⟩ : ∃ W2, W2 = (W₁ x W).putObj (w.heap.size + 1) (.loop { R .ready none with state := .busy }) := ⟨_, rfl⟩
    rw [← hW2]
    have hl2 : W2.heap[w.heap.size + 1]? = some (.loop { R .ready none with state := .busy }) := by rw [hW2]; exact World.putObj_heap_same (Array.getElem?_eq_some_iff.1 hlA).1
    have hd2 : W2.heap[w.heap.size]? = some (.deferred (some [])) := by rw [hW2]; exact (World.putObj_heap_other (by omega)).trans hdA
    have hi2 : I pre W2 := by rw [hW2]; exact hIp _ _ _ hiA
    have hoX : Only (· = w.heap.size + 1) (W₁ x W) W2 := by rw [hW2]; exact put_onlyS
    have hkw : KeepsWalks W W2 := (KeepsWalks.of_grownBy hgA (fun _ _ e => nomatch e)).trans (by rw [hW2]; exact KeepsWalks.putObj _ hlA rfl)
    refine wpIn_mono (hbody _ pre x W W2 hi2 hk hsz hoX) ?_
    rintro e a3 W3 ⟨rfl, hi3, hk3, hp3⟩
    have hl3 := (hp3 _ (.inr rfl)).trans hl2
    have hd3 := (hp3 _ (.inl rfl)).trans hd2
    have hend := run_endRound (P := Try.prog) none hl3
    rw [hR] at hend
    refine ⟨_, _, hend, rfl, ⟨hIp _ _ _ hi3, ?_, (World.putObj_heap_other (by omega)).trans hd3, ?_⟩, hkw.trans (hk3.trans (KeepsWalks.putObj _ hl3 rfl))⟩
    · rw [World.putObj_heap_same (Array.getElem?_eq_some_iff.1 hl3).1, hR]
      rfl
    · have := hk3.size
      have := hkw.size
      simp
      omega
  · rintro e W2 ⟨⟨r, rfl⟩, ss, hS, hi, hl, hd, _⟩
    have hend := run_endLoop (P := Try.prog) hl (by rw [hR]; simp)
    rw [hR] at hend
    exact ⟨none, _, hend, hdone _ ss _ rfl hS (hIp _ _ _ hi) ((World.putObj_heap_other (by omega)).trans hd)⟩

def nmV (p : Int × Int) : Value := keyV p.1 p.2
def TP.nm (x : TP) : Int × Int := (x.t.ep, x.t.id)
structure Gone (D : DataW Value) (xs : List TP) (left : Lit → Bool) (pre : List (Int × Int)) : Prop where
  nd : pre.Nodup
  mem : ∀ p ∈ pre, ∃ x ∈ xs, p = x.nm
  all : ∀ x ∈ xs, Maps.has D (keyL x.t.ep x.t.id) = true → (x.nm ∈ pre ↔ left (keyL x.t.ep x.t.id) = false)
theorem Gone.start {D : DataW Value} {xs : List TP} : Gone D xs (Maps.has D) [] := ⟨List.nodup_nil, fun p h => by simp at h, fun x _ hh => by simp [hh]⟩
theorem nm_lit {xs : List TP} {reg : Int} (hN : Named xs reg) {x y : TP} (hx : x ∈ xs) (hy : y ∈ xs) : (keyL x.t.ep x.t.id).sameKey (keyL y.t.ep y.t.id) = decide (x.nm = y.nm) := by
  obtain ⟨_, a1, a2⟩ := hN.ep x hx
  obtain ⟨_, b1, b2⟩ := hN.ep y hy
  rw [sameK (wf_i a1) (wf_i a2) (wf_i b1) (wf_i b2)]
  simp [TP.nm]
theorem Gone.step {D : DataW Value} {xs : List TP} {left : Lit → Bool} {pre : List (Int × Int)} {reg : Int} (hN : Named xs reg) (h : Gone D xs left pre) {x : TP} (hx : x ∈ xs) (hh : Maps.has D (keyL x.t.ep x.t.id) = true) (hl : left (keyL x.t.ep x.t.id) = true) :
    Gone D xs (fun z => left z && !z.sameKey (keyL x.t.ep x.t.id)) (pre ++ [x.nm]) := by
  have hnew : x.nm ∉ pre := fun e => by have := (h.all x hx hh).1 e; rw [hl] at this; cases this
  refine ⟨List.nodup_append.2 ⟨h.nd, by simp, fun a ha b hb => by simp at hb; subst hb; exact fun e => hnew (e ▸ ha)⟩, fun p hp => ?_, fun y hy hhy => ?_⟩
  · rw [List.mem_append] at hp
    rcases hp with hp | hp
    · exact h.mem p hp
    · exact ⟨x, hx, by simpa using hp⟩
  · rw [List.mem_append, h.all y hy hhy, nm_lit hN hy hx]
    by_cases he : y.nm = x.nm
    · simp [he]
    · simp [he]
theorem Gone.perm {D : DataW Value} {xs : List TP} {left : Lit → Bool} {pre : List (Int × Int)} {reg : Int} (hN : Named xs reg) (h : Gone D xs left pre) (hD : ∀ x ∈ xs, Maps.has D (keyL x.t.ep x.t.id) = true) (hl : ∀ z, left z = false) : pre.Perm (xs.map TP.nm) := by
  refine (List.perm_ext_iff_of_nodup h.nd ?_).2 fun p => ?_
  · show (xs.map TP.nm).Nodup
    refine List.pairwise_map.2 (hN.apart.imp fun {a b} hne e => hne ?_)
    simp only [TP.nm, Prod.mk.injEq] at e
    exact e.2
  · rw [List.mem_map]
    constructor
    · intro hp
      obtain ⟨x, hx, e⟩ := h.mem p hp
      exact ⟨x, hx, e.symm⟩
    · rintro ⟨x, hx, rfl⟩
      exact (h.all x hx (hD x hx)).2 (hl _)
theorem has_ent {xs : List TP} {L : List (Lit × DataW Value)} {reg : Int} (hN : Named xs reg) (hL : L.Perm (xs.map ent)) : ∀ x ∈ xs, Maps.has (.map L) (keyL x.t.ep x.t.id) = true := by
  intro x hx
  rw [has_eq, List.any_eq_true]
  refine ⟨ent x, hL.mem_iff.2 (List.mem_map.2 ⟨x, hx, rfl⟩), ?_⟩
  show (keyL x.t.ep x.t.id).sameKey _ = true
  rw [nm_lit hN hx hx]
  simp
theorem ent_has {xs : List TP} {L : List (Lit × DataW Value)} {reg : Int} (hN : Named xs reg) (hL : L.Perm (xs.map ent)) {kl : Lit} {key : Value} (hk : keyOf Try.prog 55 key = some kl) (h : Maps.has (.map L) kl = true) : ∃ x ∈ xs, key = nmV x.nm ∧ kl = keyL x.t.ep x.t.id := by
  rw [has_eq, List.any_eq_true] at h
  obtain ⟨p, hp, hs⟩ := h
  obtain ⟨x, hx, rfl⟩ := List.mem_map.1 (hL.mem_iff.1 hp)
  obtain ⟨_, a1, a2⟩ := hN.ep x hx
  have e : keyL x.t.ep x.t.id = kl := WideAt.sameKey_eq hs
  subst e
  exact ⟨x, hx, keyT.inj hk (keyOf_txn (wf_i a1) (wf_i a2)), rfl⟩

set_option maxRecDepth 100000 in
set_option maxHeartbeats 2000000 in
theorem keys1_in (n : Nat) (hn : 1 ≤ n) (l Bm mb nn : Nat) {xs : List TP} {reg : Int} (hN : Named xs reg) (J : List (Int × Int) → World → Prop)
    (hY : ∀ pre x W, J pre W → pre.length < xs.length → YieldAt Fence.wide (n - 1) Try.prog l #[nmV x] W fun e W' => e = .returned (.bool true) ∧ J (pre ++ [x]) W' ∧ KeepsWalks W W')
    (W : World) (hJ : AbidesFrom W.heap.size J) (hm : W.cell? ⟨Bm, 0, none⟩ = some (.map (some mb))) (hown : MapT W mb nn xs) (h0 : J [] W) :
    CallsIn Fence.wide n Try.prog 85 #[.func (.yield l) #[] #[], .pointer (some ⟨Bm, 0, none⟩)] W fun e W' => (∃ v, e = .returned v) ∧ ∃ ss : List (Int × Int), ss.Perm (xs.map TP.nm) ∧ J ss W' := by
  obtain ⟨L, hL, hown⟩ := hown
  have HH := hide (has_ent hN hL)
  have HE := hide (fun (kl : Lit) (key : Value) => ent_has (kl := kl) (key := key) hN hL)
  have HZ : Hid (Maps.size (DataW.map L) = xs.length) := hide (by have := hL.length_eq; simpa [Maps.size] using this)
  obtain ⟨D0, hD0⟩ : ∃ D0, D0 = DataW.map L := ⟨_, rfl⟩
  rw [← hD0] at HH HE HZ hown
  clear hL hD0
  refine callsIn_of_wp Try.func85 rfl trivial ?_ rfl
  simp only [Try.ntmps85, List.size_toArray, List.length_cons, List.length_nil, Nat.reduceAdd, Nat.reduceSub, Array.replicate_succ, Array.replicate_zero, List.push_toArray, List.append_toArray, List.nil_append, List.cons_append]
  gi_wp2_with (first
    | (gi_at_range; refine wpListIn_range_own _ rfl _ 61 rfl 55 34 keyT Try.underlying61 _ mb nn _ rfl hown ?_; intro w0 hrg0 hg0 hs0)
    | gi_in)
  go_frame
  gi_loopw [3] (fun _ wr => ∃ (left : Lit → Bool) (cnt : Nat) (ss : List (Int × Int)), wr.ranges Try.prog 55 valR mb W.heap.size nn D0 left cnt ∧ ss.length + cnt ≤ xs.length ∧ Gone D0 xs left ss ∧ J ss wr)
    (fun _ wr => wr.rangeLeft mb W.heap.size)
  case atStart =>
    exact ⟨_, _, [], hrg0, by rw [HZ.out]; simp, Gone.start, hJ [] W w0 none h0 hg0 (fun r e => by cases e)⟩
  case round =>
    obtain ⟨left, cnt, ss, hrg, hcs, hC, hJs⟩ := hrel
    gi_wp2_with (first
      | (gi_at_next; refine wpListIn_next_ranges _ rfl _ rfl 55 keyT valR id id (fun key kl hk => ⟨key, rfl⟩) (fun v _ _ => ⟨v, rfl⟩) mb W.heap.size nn _ _ _ rfl hrg ?_ ?_)
      | gi_in)
    · intro hc0 hl0
      gi_wp2
      go_end0
      exact ⟨⟨_, rfl⟩, ss, hC.perm hN HH.out hl0, hJs⟩
    · intro key c kl yd yp w2 cnt2 hkey hlk hv hat hrg2 hlt hg2 hs2 hen
      obtain ⟨x, hx, e1, rfl⟩ := HE.out kl key hkey (has_true_of_atKey hat)
      have e1' : key = .agg #[.int .i64 x.t.ep, .int .i64 x.t.id] := e1
      subst e1'
      obtain ⟨e0, he0⟩ : ∃ e0, x.t.ep = e0 := ⟨_, rfl⟩
      obtain ⟨i0, hi0⟩ : ∃ i0, x.t.id = i0 := ⟨_, rfl⟩
      simp only [he0, hi0] at hen ⊢
      obtain ⟨w3, hw3⟩ : ∃ w3, w3 = w2.alloc (.cells #[.int .i64 e0, .int .i64 i0] 55 (0, 0)) := ⟨_, rfl⟩
      have hg3 : w2.grownBy w3 none := by rw [hw3]; exact alloc_grown _ _
      have hJ2 : J ss w2 := hJ ss wr w2 (some W.heap.size) hJs hg2 (fun r e => by cases e; exact ⟨Nat.le_refl _, hrg.iter_walk⟩)
      have hJ3 : J ss w3 := hJ ss w2 w3 none hJ2 hg3 (fun r e => by cases e)
      obtain ⟨fn, tmps, assign, body, hy, hR⟩ := hY ss x.nm w3 hJ3 (by omega)
      have e2 : nmV x.nm = .agg #[.int .i64 e0, .int .i64 i0] := by rw [← he0, ← hi0]; rfl
      rw [e2] at hy
      have HRG : Hid (w3.ranges Try.prog 55 valR mb W.heap.size nn D0 (fun z => left z && !z.sameKey (keyL x.t.ep x.t.id)) cnt2) := hide (hrg2.of_walks (KeepsWalks.of_grownBy hg3 (fun _ _ e => nomatch e)))
      have HRW := hide hR
      have HLT := hide hlt
      have HG := hide (hC.step hN hx (has_true_of_atKey hat) hlk)
      have HRL := hide hrg.left_eq
      clear hs2 hg2 hrg2 hJ2 hJ3 hg3 hR hlt hat hv hkey hrg hJs e1 e2 hC
      subst hw3
      gi_wp2
      refine HRW.out.mono ?_
      rintro e W3 ⟨rfl, hJ3, hk3⟩
      gi_wp2
      have hrg3 := HRG.out.of_walks hk3
      have HLT' : Hid (cnt2 < cnt) := HLT
      go_roundw
      case rel => exact ⟨_, cnt2, ss ++ [x.nm], hrg3, by have := HLT'.out; simp; omega, HG.out, hJ3⟩
      case measure => rw [hrg3.left_eq, HRL.out]; exact HLT'.out

end Go.Proofs.Ytboofnkajjnmeaa
