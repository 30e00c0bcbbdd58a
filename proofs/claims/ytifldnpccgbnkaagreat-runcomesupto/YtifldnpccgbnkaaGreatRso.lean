/-
  What an operator comes to, plainly and as it lies in memory; the program's resultOf of a union. The conditions: lengths.
-/
import Derived.Test.YtifldnpccgbnkaaGreatRtb
import Derived.Deep.Cut
import Derived.Deep.CutBlock
import Derived.Laws.Rows
namespace Go.Proofs.YtifldnpccgbnkaaGreat
open Go.RowKit Go.Shelf

/-- What an operator comes to, plainly: its ports, the keys as they lie, the turn, the buffers. -/
structure RS where
  ports : List (List RC)
  keys : List Value
  turn : Int
  bufs : List (List RC)
structure RV where
  ports : List SV
  pp : Option Addr
  pc : Nat
  keys : List Value
  kp : Option Addr
  kn : Nat
  kc : Nat
  turn : Int
  bufs : List SV
  bp : Option Addr
  bc : Nat
instance : Inhabited RS := ⟨⟨[], [], 0, []⟩⟩
instance : Inhabited RV := ⟨⟨[], none, 0, [], none, 0, 0, 0, [], none, 0⟩⟩
def RV.pv (x : RV) : Value := .slice x.pp x.ports.length x.pc
def RV.kv (x : RV) : Value := .slice x.kp x.kn x.kc
def RV.bv (x : RV) : Value := .slice x.bp x.bufs.length x.bc
def RV.cells (x : RV) : List Value := [x.pv, x.kv, .int .i64 x.turn, x.bv]
def RV.val (x : RV) : Value := .agg #[x.pv, x.kv, .int .i64 x.turn, x.bv]
def RV.plain (x : RV) : RS := ⟨x.ports.map SV.rs, x.keys, x.turn, x.bufs.map SV.rs⟩
theorem RV.len (x : RV) : x.cells.length = 4 := rfl
structure RV.ok (x : RV) (W : World) (base : Nat) : Prop where
  prow : W.ownsRow base 26 1 x.pv x.ports.length (x.ports.flatMap SV.cells)
  pown : ∀ y ∈ x.ports, y.own W base
  krow : W.ownsRow base 105 3 x.kv x.kn x.keys
  brow : W.ownsRow base 26 1 x.bv x.bufs.length (x.bufs.flatMap SV.cells)
  bown : ∀ y ∈ x.bufs, y.own W base
  apart : ∀ g, x.pv.ownBlock = some g → x.bv.ownBlock ≠ some g
theorem RV.ok.later {x : RV} {W W' : World} {base : Nat} (h : x.ok W base) (hb : Below W.heap.size W W') : x.ok W' base :=
  ⟨ownsRow_later h.prow hb, fun y hy => (h.pown y hy).later hb, ownsRow_later h.krow hb, ownsRow_later h.brow hb, fun y hy => (h.bown y hy).later hb, h.apart⟩
theorem RV.ok.base {x : RV} {W : World} {base base' : Nat} (h : x.ok W base) (hb : base' ≤ base) : x.ok W base' :=
  ⟨ownsRow_base h.prow hb, fun y hy => (h.pown y hy).base hb, ownsRow_base h.krow hb, ownsRow_base h.brow hb, fun y hy => (h.bown y hy).base hb, h.apart⟩
theorem own_one {W : World} {v : Value} {e : TypeId} {base : Nat} (hb : base ≤ W.heap.size) : (W.alloc (.cells #[v] e (0, 0))).ownsRow base e 1 (.slice (some ⟨W.heap.size, 0, none⟩) 1 1) 1 [v] :=
  ⟨rfl, .inr ⟨W.heap.size, 1, #[v], rfl, hb, heap_alloc_new W _, Nat.le_refl _, by unfold maxLen; omega, rfl, rfl⟩⟩
theorem res_facts {w : World} {b : Nat} {t : TypeId} {c0 c1 c2 c3 : Value} (h : w.heap[b]? = some (.cells #[c0, c1, c2, c3] t (0, 0))) (d0 d1 d2 : Value) :
    w.cell? ⟨b, 0, none⟩ = some c0 ∧ w.frozen? ⟨b, 0, none⟩ = false ∧ (w.setCell ⟨b, 0, none⟩ d0).cell? ⟨b, 1, none⟩ = some c1 ∧ (w.setCell ⟨b, 0, none⟩ d0).frozen? ⟨b, 1, none⟩ = false ∧
    ((w.setCell ⟨b, 0, none⟩ d0).setCell ⟨b, 1, none⟩ d1).cell? ⟨b, 2, none⟩ = some c2 ∧ ((w.setCell ⟨b, 0, none⟩ d0).setCell ⟨b, 1, none⟩ d1).frozen? ⟨b, 2, none⟩ = false ∧
    (((w.setCell ⟨b, 0, none⟩ d0).setCell ⟨b, 1, none⟩ d1).setCell ⟨b, 2, none⟩ d2).cell? ⟨b, 3, none⟩ = some c3 ∧ (((w.setCell ⟨b, 0, none⟩ d0).setCell ⟨b, 1, none⟩ d1).setCell ⟨b, 2, none⟩ d2).frozen? ⟨b, 3, none⟩ = false := by
  have h1 := heap_setCell_same w b 0 _ _ d0 h
  have h2 := heap_setCell_same _ b 1 _ _ d1 h1
  have h3 := heap_setCell_same _ b 2 _ _ d2 h2
  refine ⟨by simp [World.cell?, h], by simp [World.frozen?, h], ?_, ?_, ?_, ?_, ?_, ?_⟩
  · simp only [World.cell?]; rw [h1]; rfl
  · simp only [World.frozen?]; rw [h1]; rfl
  · simp only [World.cell?]; rw [h2]; rfl
  · simp only [World.frozen?]; rw [h2]; rfl
  · simp only [World.cell?]; rw [h3]; rfl
  · simp only [World.frozen?]; rw [h3]; rfl
def set4 (W : World) (b : Nat) (d0 d1 d2 d3 : Value) : World := (((W.setCell ⟨b, 0, none⟩ d0).setCell ⟨b, 1, none⟩ d1).setCell ⟨b, 2, none⟩ d2).setCell ⟨b, 3, none⟩ d3
theorem set4_heap {W : World} {b : Nat} {t : TypeId} {c0 c1 c2 c3 : Value} (h : W.heap[b]? = some (.cells #[c0, c1, c2, c3] t (0, 0))) (d0 d1 d2 d3 : Value) :
    (set4 W b d0 d1 d2 d3).heap[b]? = some (.cells #[d0, d1, d2, d3] t (0, 0)) :=
  heap_setCell_same _ b 3 _ _ d3 (heap_setCell_same _ b 2 _ _ d2 (heap_setCell_same _ b 1 _ _ d1 (heap_setCell_same W b 0 _ _ d0 h)))
theorem set4_only (W : World) (b : Nat) (d0 d1 d2 d3 : Value) : Only (· = b) W (set4 W b d0 d1 d2 d3) :=
  (Only.set (F := (· = b)) W b 0 d0 rfl).trans ((Only.set (F := (· = b)) _ b 1 d1 rfl).trans ((Only.set (F := (· = b)) _ b 2 d2 rfl).trans (Only.set (F := (· = b)) _ b 3 d3 rfl)))
def lenB : Nat := 1048576
theorem turnN_le {ls : List (List RC)} {t : Nat} (ht : t < ls.length) : turnN ls t ≤ ls.length * lenAt ls t := stop_bound ht (turn_stop ht).long
/-- What a union comes to. -/
def unionC (ls : List (List RC)) : RS := ⟨[takenC ls 0 (turnN ls 0)], [], ((whoC ls.length 0 (turnN ls 0) : Nat) : Int), (List.range ls.length).map fun i => (ls[i]!).drop (countC ls.length 0 (turnN ls 0) i)⟩
/-- The contract of resultOf for an operator. -/
def ResAt (o : GO) (f : List (List RC) → RS) : Prop := ∀ (W : World) (ip p : Option Addr) (ic cap n : Nat) (xs : List SV), LL W p cap xs → xs.length = n → n = o.ins.length → n ≤ 4 → (∀ x ∈ xs, x.rs.length ≤ lenB) → (∀ x ∈ xs, ∀ r ∈ x.rs, r.fine) →
  Calls Tryz.prog 31 #[.agg #[.int .i64 o.kind, .int .i64 o.part, .int .i64 o.fn, .int .i64 o.arg, .slice ip o.ins.length ic], .slice p n cap] W fun e w' => ∃ x : RV, e = .returned x.val ∧ x.ok w' W.heap.size ∧ x.plain = f (xs.map SV.rs) ∧ Below W.heap.size W w'

set_option maxRecDepth 100000 in
set_option maxHeartbeats 8000000 in
theorem union_any {o : GO} (hk : o.kind = 8) (hi : 0 < o.ins.length) : ResAt o unionC := by
  intro W ip p ic cap n xs hx hn hno hn4 hlb _
  obtain ⟨kd, pt, fn, ar, ins⟩ := o
  simp only at hk hi hno
  subst hk
  obtain ⟨il, hil⟩ : ∃ il, ins.length = il := ⟨_, rfl⟩
  simp only [hil]
  rw [hil] at hno hi
  subst hno
  have hml : (xs.map SV.rs).length = n := by rw [List.length_map]; exact hn
  have hst := turn_stop (ls := xs.map SV.rs) (t := 0) (by omega)
  have hNle := turnN_le (ls := xs.map SV.rs) (t := 0) (by omega)
  obtain ⟨N, hN⟩ : ∃ N, turnN (xs.map SV.rs) 0 = N := ⟨_, rfl⟩
  rw [hN] at hst hNle
  have hlenx : ∀ i, i < n → (xs[i]!).rs.length ≤ lenB := fun i h => hlb _ (by rw [getElem!_pos xs i (by omega)]; exact List.getElem_mem _)
  have hN2 : N ≤ 4398046511104 := by
    rw [hml, lenAt_map (by omega)] at hNle
    have h1 := hlenx 0 hi
    unfold lenB at h1
    have h2 : n * (xs[0]!).rs.length ≤ 4 * 1048576 := Nat.mul_le_mul hn4 h1
    omega
  obtain ⟨V, hV⟩ : ∃ V, V = (W.alloc (.cells #[.int .i64 8, .int .i64 pt, .int .i64 fn, .int .i64 ar, .slice ip n ic] 55 (0, 0))).alloc (.cells #[.slice none 0 0, .slice none 0 0, .int .i64 0, .slice none 0 0] 62 (0, 0)) := ⟨_, rfl⟩
  have a1 := alloc_below W (.cells #[.int .i64 8, .int .i64 pt, .int .i64 fn, .int .i64 ar, .slice ip n ic] 55 (0, 0))
  have hbV : Below W.heap.size W V := by rw [hV]; exact a1.trans ((alloc_below _ _).mono a1.size)
  obtain ⟨oB, hoB⟩ : ∃ oB, W.heap.size = oB := ⟨_, rfl⟩
  have hres : V.heap[oB + 1]? = some (.cells #[.slice none 0 0, .slice none 0 0, .int .i64 0, .slice none 0 0] 62 (0, 0)) := by
    have e : oB + 1 = (W.alloc (.cells #[.int .i64 8, .int .i64 pt, .int .i64 fn, .int .i64 ar, .slice ip n ic] 55 (0, 0))).heap.size := by rw [← hoB]; simp
    rw [hV, e]
    exact heap_alloc_new _ _
  have hVs : oB + 2 ≤ V.heap.size := by rw [hV, ← hoB]; simp
  have HT := hide (turns_any (t := 0) (hx.later hbV) hn hi hst (by omega) (by omega))
  have hcl : ∀ i, i < n → countC n 0 N i ≤ (xs[i]!).rs.length := fun i h => by
    have h9 := count_len (ls := xs.map SV.rs) (t := 0) (N := N) (i := i) (by omega) (by omega) N hst.long
    rw [hml, lenAt_map (by omega)] at h9
    exact h9
  have HCL := hide hcl
  have HX := hide hx
  have HN := hide hN
  have HNX := hide hn
  have HML := hide hml
  have HLB := hide hlenx
  have HBV := hide hbV
  have HRES := hide hres
  have HOB := hide hoB
  clear hx hn hlb hN hst hNle hlenx hcl hbV hres a1 hml hil
  go_enter Tryz.func31, Tryz.ntmps31
  go_wp2_with fail
  rw [← hV]
  clear hV
  refine HT.out.mono ?_
  rintro _ w1 ⟨p1, c1, g2, rfl, hO1, hO2, hB1⟩
  have hBW1 : Below W.heap.size W w1 := HBV.out.trans (hB1.mono HBV.out.size)
  have hcr := own_row hO2
  have ecs : countsC n 0 N = ((List.range n).map (countC n 0 N)).map (fun m : Nat => (m : Int)) := by unfold countsC; rw [List.map_map]; rfl
  rw [ecs] at hcr
  have hcget : ∀ i, i < n → ((List.range n).map (countC n 0 N))[i]! = countC n 0 N i := fun i hi => by rw [getElem!_pos _ i (by simpa using hi)]; simp
  have HBE := hide (behind_any (HX.out.later hBW1) HNX.out (by simp) hcr (fun i hi => by rw [hcget i hi]; exact HCL.out i hi) (by omega) (fun i hi => by have := HLB.out i hi; unfold lenB at this; omega))
  have HO1 := hide hO1
  have HB1 := hide hB1
  have HBW1 := hide hBW1
  have HCG := hide hcget
  obtain ⟨wt, hwt⟩ : ∃ wt, whoC n 0 N = wt := ⟨_, rfl⟩
  rw [hwt]
  have HWT := hide hwt
  clear hO1 hO2 hB1 hBW1 hcr ecs hcget hwt HT
  go_wp2_with fail
  refine HBE.out.mono ?_
  rintro _ w2 ⟨g3, ys, rfl, hyl, hyo, hys, hB2⟩
  have hBV2 : Below V.heap.size V w2 := HB1.out.trans (hB2.mono HB1.out.size)
  obtain ⟨w3, hw3⟩ : ∃ w3, w3 = w2.alloc (.cells #[.slice none 0 0, .int .i64 (wt : Int), .slice (some ⟨g3, 0, none⟩) n n] 60 (0, 0)) := ⟨_, rfl⟩
  have b3 : Below w2.heap.size w2 w3 := by rw [hw3]; exact alloc_below _ _
  have x3 : w3.heap[w2.heap.size]? = some (.cells #[.slice none 0 0, .int .i64 (wt : Int), .slice (some ⟨g3, 0, none⟩) n n] 60 (0, 0)) := by rw [hw3]; exact heap_alloc_new _ _
  obtain ⟨w4, hw4⟩ : ∃ w4, w4 = w3.alloc (.cells #[.slice p1 N c1] 26 (0, 0)) := ⟨_, rfl⟩
  have b4 : Below w3.heap.size w3 w4 := by rw [hw4]; exact alloc_below _ _
  have x4 := below_box b4 x3
  have hBV4 : Below V.heap.size V w4 := hBV2.trans ((b3.mono hBV2.size).trans (b4.mono (Nat.le_trans hBV2.size b3.size)))
  have r4 := below_box hBV4 HRES.out
  have hone : w4.ownsRow W.heap.size 26 1 (.slice (some ⟨w3.heap.size, 0, none⟩) 1 1) 1 [.slice p1 N c1] := by
    rw [hw4]
    exact own_one (Nat.le_trans HBV.out.size (Nat.le_trans hBV2.size b3.size))
  obtain ⟨f0, f1, f2, f3, f4, f5, f6, f7⟩ := res_facts r4 (.slice (some ⟨w3.heap.size, 0, none⟩) 1 1) (.slice none 0 0) (.int .i64 (wt : Int))
  have k0 : w4.cell? ⟨w2.heap.size, 0, none⟩ = some (.slice none 0 0) := by simp [World.cell?, x4]
  have k1 : w4.cell? ⟨w2.heap.size, 1, none⟩ = some (.int .i64 (wt : Int)) := by simp [World.cell?, x4]
  have k2 : w4.cell? ⟨w2.heap.size, 2, none⟩ = some (.slice (some ⟨g3, 0, none⟩) n n) := by simp [World.cell?, x4]
  obtain ⟨x, hx⟩ : ∃ x : RV, x = ⟨[⟨takenC (xs.map SV.rs) 0 N, p1, c1⟩], some ⟨w3.heap.size, 0, none⟩, 1, [], none, 0, 0, (wt : Int), ys, some ⟨g3, 0, none⟩, n⟩ := ⟨_, rfl⟩
  have hBW4 : Below W.heap.size W w4 := HBV.out.trans (hBV4.mono HBV.out.size)
  have b24 : Below w2.heap.size w2 w4 := b3.trans (b4.mono b3.size)
  have hxok : x.ok w4 W.heap.size := by
    rw [hx]
    refine ⟨?_, ?_, World.ownsRow_nil _ _ _ _, ?_, ?_, ?_⟩
    · show w4.ownsRow W.heap.size 26 1 (.slice (some ⟨w3.heap.size, 0, none⟩) 1 1) 1 [.slice p1 (takenC (xs.map SV.rs) 0 N).length c1]
      rw [taken_len]
      exact hone
    · intro y hy
      simp only [List.mem_singleton] at hy
      rw [hy]
      show w4.ownsRow W.heap.size 71 2 (.slice p1 (takenC (xs.map SV.rs) 0 N).length c1) (takenC (xs.map SV.rs) 0 N).length _
      rw [taken_len]
      exact ownsRow_base (ownsRow_later (ownsRow_later HO1.out hB2) b24) HBV.out.size
    · show w4.ownsRow W.heap.size 26 1 (.slice (some ⟨g3, 0, none⟩) ys.length n) ys.length _
      rw [hyl]
      exact ownsRow_base (ownsRow_later hyo b24) HBW1.out.size
    · intro y hy
      obtain ⟨i, hi, rfl⟩ := List.getElem_of_mem hy
      have hi2 : i < ys.length := hi
      have h9 := (hys i (by omega)).1
      rw [getElem!_pos ys i hi] at h9
      exact (h9.later b24).base HBW1.out.size
    · intro g hg h9
      have e1 : g = w3.heap.size := by simpa [RV.pv, Value.ownBlock] using hg.symm
      have e2 : g = g3 := by simpa [RV.bv, Value.ownBlock] using h9.symm
      have := (own_block_lt hyo (b := g3) rfl).1
      have := b3.size
      omega
  have hxp : x.plain = unionC (xs.map SV.rs) := by
    rw [hx]
    unfold RV.plain unionC
    rw [HN.out, HML.out, HWT.out]
    simp only [RS.mk.injEq, List.map_cons, List.map_nil, true_and]
    apply List.ext_getElem
    · simp [hyl]
    · intro i h1 h2
      have hi : i < n := by simpa using h2
      have h9 := (hys i hi).2
      rw [HCG.out i hi, getElem!_pos ys i (by omega), getElem!_pos xs i (by have := HNX.out; omega)] at h9
      rw [List.getElem_map, h9, List.getElem_map, List.getElem_range, getElem!_pos (xs.map SV.rs) i (by have := HML.out; omega), List.getElem_map]
  have hne : ∀ (v : Value) (e : TypeId) (k m : Nat) (zs : List Value), w4.ownsRow W.heap.size e k v m zs → e ≠ 62 → v.ownBlock ≠ some (oB + 1) := fun v e k m zs h9 hn9 hb9 => by
    obtain ⟨_, cur, h10⟩ := own_block_lt h9 hb9
    rw [r4] at h10
    simp only [Option.some.injEq, Obj.cells.injEq] at h10
    exact hn9 h10.2.1.symm
  have hO4 := set4_only w4 (oB + 1) (.slice (some ⟨w3.heap.size, 0, none⟩) 1 1) (.slice none 0 0) (.int .i64 (wt : Int)) (.slice (some ⟨g3, 0, none⟩) n n)
  have hkeep : ∀ (v : Value) (e : TypeId) (k m : Nat) (zs : List Value), w4.ownsRow W.heap.size e k v m zs → e ≠ 62 → (set4 w4 (oB + 1) (.slice (some ⟨w3.heap.size, 0, none⟩) 1 1) (.slice none 0 0) (.int .i64 (wt : Int)) (.slice (some ⟨g3, 0, none⟩) n n)).ownsRow W.heap.size e k v m zs := fun v e k m zs h9 hn9 =>
    ownsRow_only h9 hO4 (fun b hb e9 => by
      have e' : b = oB + 1 := e9
      exact hne v e k m zs h9 hn9 (by rw [← e']; exact hb))
  have hxo5 : x.ok (set4 w4 (oB + 1) (.slice (some ⟨w3.heap.size, 0, none⟩) 1 1) (.slice none 0 0) (.int .i64 (wt : Int)) (.slice (some ⟨g3, 0, none⟩) n n)) W.heap.size :=
    ⟨hkeep _ _ _ _ _ hxok.prow (by decide), fun y hy => hkeep _ _ _ _ _ (hxok.pown y hy) (by decide), hkeep _ _ _ _ _ hxok.krow (by decide), hkeep _ _ _ _ _ hxok.brow (by decide), fun y hy => hkeep _ _ _ _ _ (hxok.bown y hy) (by decide), hxok.apart⟩
  have HXO := hide hxo5
  have HXP := hide hxp
  have HE := hide (set4_heap r4 (.slice (some ⟨w3.heap.size, 0, none⟩) 1 1) (.slice none 0 0) (.int .i64 (wt : Int)) (.slice (some ⟨g3, 0, none⟩) n n))
  have HBF : Hid (Below W.heap.size W (set4 w4 (oB + 1) (.slice (some ⟨w3.heap.size, 0, none⟩) 1 1) (.slice none 0 0) (.int .i64 (wt : Int)) (.slice (some ⟨g3, 0, none⟩) n n))) := hide (hBW4.trans (hO4.below hBW4.size (fun i e => by have e' : i = oB + 1 := e; have := HOB.out; omega)))
  have HXV : Hid (x.val = .agg #[.slice (some ⟨w3.heap.size, 0, none⟩) 1 1, .slice none 0 0, .int .i64 (wt : Int), .slice (some ⟨g3, 0, none⟩) n n]) := hide (by rw [hx]; simp only [RV.val, RV.pv, RV.kv, RV.bv, hyl]; rfl)
  unfold set4 at HXO HBF HE
  rw [hw4] at k0 k1 k2 f0 f1 f2 f3 f4 f5 f6 f7 HXO HE HBF
  clear hne hkeep hxo5 hxok hxp hx hO4 hBW4 b24 r4 x4 hone b4 hBV4 x3 b3 hBV2 hB2 hys hyo HBE hw4
  go_upto_region 4 with fail
  rw [← hw3]
  clear hw3
  go_wp2
  refine bodyPost_ret (results_cell_row rfl _ _ (oB + 1) 62 _ _ _ rfl HE.out Tryz.underlying62 rfl (by kernel_rfl)) rfl ?_
  exact ⟨x, by rw [HXV.out], HXO.out, HXP.out, HBF.out⟩
end Go.Proofs.YtifldnpccgbnkaaGreat
