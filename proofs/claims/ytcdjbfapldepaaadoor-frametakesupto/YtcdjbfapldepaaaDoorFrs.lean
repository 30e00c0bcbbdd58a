/-
  What the function does that frame.framesOf hands back: it tells the frames with which bytes begin, one by one, as long as the loop's body goes on; over any world that holds the tables. The conditions: the bytes read as bytes, at most 2^47 of them; what the loop keeps is not turned by new memory.
-/
import Derived.RangeFuncNested
import Derived.RangeFuncBound
import Derived.RangeFuncCalls
import Derived.RangeFuncLeaves
import Derived.RangeFuncBox
import Derived.Shelf.Abstract
import Derived.Shelf.RegionOpen
import Derived.WalkKit
import Derived.OwnWalkIn
import Derived.TacticsInMore
import Derived.LoopNIn
import Derived.LoopIn
import Derived.Scope
import Derived.Maps.AppendAt
import Derived.Test.YtcdjbfapldepaaaDoorMak
namespace Go.Proofs.YtcdjbfapldepaaaDoor
open Go.RowKit Go.Shelf
attribute [local go_sem] Oper.semAt_some

theorem wpIn_scope_wide {n : Nat} {P : Program} {c : Code} {Q : Exit → Act → World → Prop} {a : Act} {w : World} (h : c.wpIn Fence.wide n P (Exit.noGoto Q) a w) : (Code.scope c).wpIn Fence.wide n P Q a w :=
  wpIn_wide.2 (wp_scope_straight (wpIn_wide.1 h))

set_option maxHeartbeats 1000000 in
theorem framesOf_any {v : Value} {w : World} (p : Option Addr) (n cap : Nat) (hv : v = .slice p n cap) :
    Calls Tryd.prog 29 #[v] w fun e w' => e = .returned (.func (.func 31) #[] #[.pointer (some ⟨w.heap.size, 0, none⟩)]) ∧ w' = w.alloc (.cells #[v] 22) := by
  subst hv
  go_enter Tryd.func29, Tryd.ntmps29
  go_wp2
  go_ret
  exact ⟨rfl, rfl⟩

set_option maxRecDepth 100000 in
set_option maxHeartbeats 4000000 in
theorem frames1_in (n : Nat) (hn : 1 ≤ n) (l Bk B : Nat) (v : Value) (b : List Int) (hu : U8 b) (hbig : b.length ≤ 140737488355328) (J : List (List Int) → World → Prop)
    (hJg : ∀ pre W W', J pre W → Below W.heap.size W W' → J pre W')
    (hJr : ∀ pre W, J pre W → Boxed W Bk 22 v ∧ Row .u8 W v b ∧ Tabs W ∧ B ≤ W.heap.size)
    (hY : ∀ pre x u W, J pre W → W.ownsRow B 5 1 u x.length (x.map (Value.int .u8)) → (∃ r, loads b = pre ++ x :: r) → YieldAt Fence.wide (n - 1) Tryd.prog l #[.int .i64 ((flen pre + (12 + x.length) : Nat) : Int), u] W fun e W' =>
      e = .returned (.bool true) ∧ J (pre ++ [x]) W')
    (W : World) (h0 : J [] W) :
    CallsIn Fence.wide n Tryd.prog 31 #[.func (.yield l) #[] #[], .pointer (some ⟨Bk, 0, none⟩)] W fun e W' => (∃ v, e = .returned v) ∧ J (loads b) W' := by
  have HY : Hid (∀ pre x u W, J pre W → W.ownsRow B 5 1 u x.length (x.map (Value.int .u8)) → (∃ r, loads b = pre ++ x :: r) → YieldAt Fence.wide (n - 1) Tryd.prog l #[.int .i64 ((flen pre + (12 + x.length) : Nat) : Int), u] W fun e W' =>
      e = .returned (.bool true) ∧ J (pre ++ [x]) W') := hY
  have HG : Hid (∀ pre W W', J pre W → Below W.heap.size W W' → J pre W') := hJg
  have HR : Hid (∀ pre W, J pre W → Boxed W Bk 22 v ∧ Row .u8 W v b ∧ Tabs W ∧ B ≤ W.heap.size) := hJr
  have HU : Hid (U8 b) := hu
  obtain ⟨p, cap, rfl, g1, g2, _⟩ := id (hJr _ _ h0).2.1
  have H0 : Hid (J [] W) := h0
  clear hY hJg hJr hu h0
  refine callsIn_of_wp Tryd.func31 rfl trivial ?_ rfl
  simp only [Tryd.ntmps31, List.size_toArray, List.length_cons, List.length_nil, Nat.reduceAdd, Nat.reduceSub, Array.replicate_succ, Array.replicate_zero, List.push_toArray, List.append_toArray, List.nil_append, List.cons_append]
  gi_wp2
  refine wpIn_scope_wide ?_
  gi_wp2
  refine wpIn_label ?_
  gi_wp2
  gi_loopw [3] (fun i wr => ∃ pre : List (List Int), flen pre ≤ b.length ∧ i = .int .i64 ((flen pre : Nat) : Int) ∧ Hid (loads b = pre ++ after b (flen pre)) ∧ Hid (J pre wr)) (fun i _ => b.length - (intOf i).toNat)
  case atStart => exact ⟨[], by simp [flen_nil], rfl, by show _ = _; rw [flen_nil, after_zero]; rfl, H0⟩
  case round =>
    obtain ⟨pre, hk, rfl, HP, HJ⟩ := hrel
    clear H0
    generalize hke : flen pre = k at hk HP
    have HK : Hid (flen pre = k) := hke
    obtain ⟨hbox, hrow, htab, hsz⟩ := HR.out pre wr HJ.out
    have hcell := hbox.cell
    have HRW : Hid (Row .u8 wr (.slice p b.length cap) b) := hrow
    have HTB : Hid (Tabs wr) := htab
    clear hbox hrow htab hke
    by_cases hlt : k < b.length
    · obtain ⟨x, m, er, hf⟩ : ∃ x m er, takeL (b.drop k) = (x, m, er) := ⟨_, _, _, rfl⟩
      have HF : Hid (takeL (b.drop k) = (x, m, er)) := hf
      have hlen : b.length - k ≤ 140737488355328 := by omega
      have k3 : ¬ cap = k := by omega
      clear hf
      gi_wp2_with fail
      refine ⟨trivial, (callsIn_wide.2 (take_at (HRW.out.cut hk) (HU.out.drop k) HTB.out (by rw [List.length_drop]; omega) HF.out)).mono ?_⟩
      rintro r w2 ⟨u, rfl, hown, hb2⟩
      have J2 : Hid (J pre w2) := HG.out pre wr w2 HJ.out hb2
      have O2 : Hid (w2.ownsRow B 5 1 u x.length (x.map (Value.int .u8))) := own_base hown hsz
      clear hown hb2 HRW HTB HJ hcell
      by_cases h0 : er = 0
      · subst h0
        obtain ⟨hm, hkm, _, hstep⟩ := after_ok HF.out
        have HST : Hid (after b k = x :: after b (k + m)) := hstep
        have HM : Hid (m = 12 + x.length) := hm
        clear hstep
        obtain ⟨fn, tmps, assign, body, hy, hRd⟩ := HY.out pre x u w2 J2.out O2.out ⟨after b (k + m), by rw [HP.out, HST.out]⟩
        rw [HK.out, ← HM.out] at hy
        simp only [Int.natCast_add] at hy
        have HRd : Hid (RoundIn Fence.wide (n - 1) Tryd.prog l fn tmps assign body w2 fun e W' => e = .returned (.bool true) ∧ J (pre ++ [x]) W') := hRd
        have HP' : Hid (loads b = (pre ++ [x]) ++ after b (k + m)) := by show _ = _; rw [HP.out, HST.out]; simp
        have HK' : Hid (flen (pre ++ [x]) = k + m) := by show _ = _; rw [flen_snoc, HK.out, HM.out]
        have hm0 : 0 < m := by omega
        clear hRd HST HF J2 O2 HP hm
        gi_wp2
        refine HRd.out.mono ?_
        rintro e W3 ⟨rfl, hJ3⟩
        have J3 : Hid (J (pre ++ [x]) W3) := hJ3
        clear HRd hy hJ3
        gi_wp2
        go_roundw
        case rel => exact ⟨pre ++ [x], by rw [HK'.out]; exact hkm, by rw [HK'.out]; exact congrArg (Value.int .i64) (by omega), by rw [HK'.out]; exact HP', J3⟩
        case measure => simp [intOf]; omega
      · have hn : (er == 0) = false := by simpa using h0
        have HE : Hid (loads b = pre) := by show _ = _; rw [HP.out, after_err HF.out h0]; simp
        clear h0 HF HP O2
        gi_wp2
        simp only [Exit.noGoto]
        refine bodyPost_end (results_none rfl _ _ _) rfl ?_
        exact ⟨⟨_, rfl⟩, by rw [HE.out]; exact J2.out⟩
    · have HE : Hid (loads b = pre) := by show _ = _; rw [HP.out, after_end (by omega)]; simp
      clear HRW HTB HP
      gi_wp2
      simp only [Exit.noGoto]
      refine bodyPost_end (results_none rfl _ _ _) rfl ?_
      exact ⟨⟨_, rfl⟩, by rw [HE.out]; exact HJ.out⟩

/-- A loop over what framesOf hands back, each of whose rounds goes on to its end: an invariant of the loop's own, told the load's memory in each round. -/
theorem range_frames {n : Nat} (hn : 2 ≤ n) {g : Operand} {ps : Array Tmp} {assign body : Code} {Q : Exit → Act → World → Prop} {a : Act} {w : World} (Bk B : Nat) (v : Value) (b : List Int) (hu : U8 b) (hbig : b.length ≤ 140737488355328)
    (hg : a.eval g = .func (.func 31) #[] #[.pointer (some ⟨Bk, 0, none⟩)]) (hps : ps.size = 2) (I : List (List Int) → World → Prop)
    (hIg : ∀ pre W W', I pre W → Below W.heap.size W W' → I pre W')
    (hIp : ∀ pre W l o o', I pre W → w.heap.size ≤ l → W.heap[l]? = some o → o.isCells = false → I pre (W.putObj l o'))
    (hIr : ∀ pre W, I pre W → Boxed W Bk 22 v ∧ Row .u8 W v b ∧ Tabs W ∧ B ≤ W.heap.size) (h0 : I [] w) (a₁ : Int → Value → Act)
    (hassign : ∀ (l : Nat) (z : Int) (u : Value) (W : World) (K : Act → World → Prop), K (a₁ z u) W →
      assign.wpIn (Fence.wide.inRound l) (n - 1 - 1) Tryd.prog (Exit.then K (fun _ _ _ => False)) { tmps := (ps.zip #[.int .i64 z, u]).foldl (fun t (p, v) => t.setIfInBounds p v) a.tmps, defers := [] } W)
    (hbody : ∀ (l : Nat) (pre : List (List Int)) (x : List Int) (u : Value) (W : World), I pre W → W.ownsRow B 5 1 u x.length (x.map (Value.int .u8)) → (∃ r, loads b = pre ++ x :: r) →
      body.wpIn (Fence.wide.inRound l) (n - 1 - 1) Tryd.prog (fun e _ W' => e = .normal ∧ KeepsFrom w.heap.size W W' ∧ I (pre ++ [x]) W') (a₁ ((flen pre + (12 + x.length) : Nat) : Int) u) W)
    (hdone : ∀ (D : Nat) (W : World), w.heap.size ≤ D → I (loads b) W → W.heap[D]? = some (.deferred (some [])) → Q .normal { a with defers := { target := .collected D, args := #[] } :: a.defers } W) :
    (Code.rangeFunc g ps assign body).wpIn Fence.wide n Tryd.prog Q a w := by
  refine wpIn_rangeFunc fun fn hfn => ?_
  obtain ⟨R, hR⟩ : ∃ R : LoopState → Loop, R = fun st => { state := st, pending := none, fn, tmps := a.tmps, params := ps, assign, body, defers := w.heap.size } := ⟨_, rfl⟩
  obtain ⟨W1, hW1⟩ : ∃ W1, W1 = (w.alloc (.deferred (some []))).alloc (.loop (R .ready)) := ⟨_, rfl⟩
  have hD1 : W1.heap[w.heap.size]? = some (.deferred (some [])) := by
    rw [hW1]; exact below_box (alloc_below _ _) (heap_alloc_new w _)
  have hL1 : W1.heap[w.heap.size + 1]? = some (.loop (R .ready)) := by
    rw [hW1, heap_alloc2_new]
  have hB1 : Below w.heap.size w W1 := by rw [hW1]; exact (alloc_below _ _).alloc (by simp) _
  refine ⟨w.heap.size + 1, [{ target := .collected w.heap.size, args := #[] }], W1, { target := .fn (.func 31) #[.pointer (some ⟨Bk, 0, none⟩)], args := #[.func (.yield (w.heap.size + 1)) #[] #[]] }, W1, 31,
    #[.func (.yield (w.heap.size + 1)) #[] #[], .pointer (some ⟨Bk, 0, none⟩)], W1, ?_, ?_, ?_, ?_, fun _ => by omega, ?_⟩
  · rw [hW1, hR]
    exact run_enterLoop_outer _ _ _ _ _
  · simp only [resolve, hg]
    simp [go_sem]
  · intro f' _
    trivial
  · simp [invoke, go_sem]
  refine (frames1_in (n - 1) (by omega) (w.heap.size + 1) Bk B v b hu hbig (fun pre W => I pre W ∧ W.heap[w.heap.size + 1]? = some (.loop (R .ready)) ∧ W.heap[w.heap.size]? = some (.deferred (some [])))
    (fun pre W W' h hb => ⟨hIg _ _ _ h.1 hb, below_box hb h.2.1, below_box hb h.2.2⟩) (fun pre W h => hIr pre W h.1) ?_ W1 ⟨hIg _ _ _ h0 hB1, hL1, hD1⟩).mono ?_
  · rintro pre x u W ⟨hi, hl, hd⟩ hown hpre
    have hy := run_yield (P := Tryd.prog) (w := W) (args := #[.int .i64 ((flen pre + (12 + x.length) : Nat) : Int), u]) hl (by rw [hR]; simp [hps])
    rw [hR] at hy
    refine ⟨fn, _, assign, body, hy, roundIn_of_wpIn hfn (hassign _ _ u W _ ⟨_, run_beginRound hl (by rw [hR]), ?_⟩)⟩
    obtain ⟨W2, hW2⟩ : ∃ W2, W2 = W.putObj (w.heap.size + 1) (.loop { R .ready with state := .busy }) := ⟨_, rfl⟩
    rw [← hW2]
    have hl2 : W2.heap[w.heap.size + 1]? = some (.loop { R .ready with state := .busy }) := by rw [hW2]; exact World.putObj_heap_same (Array.getElem?_eq_some_iff.1 hl).1
    have hd2 : W2.heap[w.heap.size]? = some (.deferred (some [])) := by rw [hW2]; exact (World.putObj_heap_other (by omega)).trans hd
    have hi2 : I pre W2 := by rw [hW2]; exact hIp _ _ _ _ _ hi (by omega) hl rfl
    have ho2 : W2.ownsRow B 5 1 u x.length (x.map (Value.int .u8)) := by rw [hW2]; exact ownsRow_putObj hown _ hl rfl
    refine wpIn_mono (hbody _ pre x u W2 hi2 ho2 hpre) ?_
    rintro e a3 W3 ⟨rfl, hk3, hi3⟩
    have hl3 := hk3.same _ _ (by omega) hl2 rfl
    have hd3 := hk3.same _ _ (Nat.le_refl _) hd2 rfl
    have hend := run_endRound (P := Tryd.prog) none hl3
    refine ⟨_, _, hend, rfl, hIp _ _ _ _ _ hi3 (by omega) hl3 rfl, ?_, (World.putObj_heap_other (by omega)).trans hd3⟩
    rw [World.putObj_heap_same (Array.getElem?_eq_some_iff.1 hl3).1, hR]
    rfl
  · rintro e W2 ⟨⟨r, rfl⟩, hi, hl, hd⟩
    have hend := run_endLoop (P := Tryd.prog) hl (by rw [hR]; simp)
    rw [hR] at hend
    exact ⟨none, _, hend, hdone _ _ (Nat.le_refl _) (hIp _ _ _ _ _ hi (by omega) hl rfl) ((World.putObj_heap_other (by omega)).trans hd)⟩

end Go.Proofs.YtcdjbfapldepaaaDoor
