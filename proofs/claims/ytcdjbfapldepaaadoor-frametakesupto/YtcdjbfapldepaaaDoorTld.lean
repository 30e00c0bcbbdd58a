/-
  'l = append(l, slices.Clone(x))' in the statements' function 'told', inside a round of a range over a function: whatever order its operations come up in, the list holds one load more behind it. The conditions: the list's length.
-/
import Derived.Test.YtcdjbfapldepaaaDoorRtk
import Derived.RegionIn
namespace Go.Proofs.YtcdjbfapldepaaaDoor
open Go.RowKit Go.Shelf
attribute [local go_sem] Oper.semAt_some

/-- The six operations. -/
def ops9 : Array Oper := #[
  { dst := some 20, op := Op.load 23 (Operand.tmp 4), type := 23, pos := "law.go:39", after := #[], guard := none },
  { dst := some 21, op := Op.move (Operand.tmp 7), type := 22, pos := "law.go:39", after := #[], guard := none },
  { dst := some 22, op := Op.call { callee := Callee.value (Operand.func 8), args := #[Operand.tmp 21], argTypes := #[22] }, type := 22, pos := "law.go:39", after := #[{ on := 1, ground := Ground.data }], guard := none },
  { dst := some 23, op := Op.buildSlice 23 1 #[(0, Operand.tmp 22)], type := 23, pos := "law.go:39", after := #[{ on := 2, ground := Ground.data }], guard := none },
  { dst := some 24, op := Op.call { callee := Callee.builtin Builtin.append, args := #[Operand.tmp 20, Operand.tmp 23], argTypes := #[23, 23] }, type := 23, pos := "law.go:39", after := #[{ on := 0, ground := Ground.data }, { on := 3, ground := Ground.data }, { on := 2, ground := Ground.chain }], guard := none },
  { dst := none, op := Op.store 23 (Operand.tmp 4) (Operand.tmp 24), type := 0, pos := "law.go:39", after := #[{ on := 4, ground := Ground.data }, { on := 4, ground := Ground.chain }, { on := 0, ground := Ground.phase }, { on := 1, ground := Ground.phase }, { on := 2, ground := Ground.phase }, { on := 3, ground := Ground.phase }, { on := 4, ground := Ground.phase }], guard := none }]

/-- The frame: c the bytes, f the iterator, s the first of the function's own blocks, z and u what the round was handed, y what was reckoned of them; then what the operations write. -/
abbrev fr (c f u : Value) (s : Nat) (z : Value) (y12 y13 y14 y15 y16 y17 y18 y19 t20 t21 t22 t23 t24 : Value) : Act :=
  { tmps := #[c, undef, .pointer (some ⟨s, 0, none⟩), .pointer (some ⟨s + 1, 0, none⟩), .pointer (some ⟨s + 1 + 1, 0, none⟩), .pointer (some ⟨s + 1 + 1 + 1, 0, none⟩), z, u, c, f, z, u, y12, y13, y14, y15, y16, y17, y18, y19, t20, t21, t22, t23, t24, undef], defers := [] }

section
variable {W : World} {s B k : Nat} {lv u c f : Value} {us : List Value} {z y12 y13 y14 y15 y16 y17 y18 y19 : Value} {x : List Int} {l N : Nat} {Q : Exit → Act → World → Prop}

/-- A step of the region that yields, and what it leaves. -/
theorem step_value {i : Nat} {o : Oper} {K : Act → World → Prop} {a : Act} {w : World} (ho : ops9[i]? = some o) (hgd : o.guard = none) (hnd : ∀ c, o.op ≠ .defer c) {val : Value} {w' : World}
    (hrun : (execOp a.eval o).run Tryd.prog w = .ok (.value val) w') (hK : K (a.put o.dst val) w') : wpOpIn (Fence.wide.inRound l) N Tryd.prog ops9 Q i K a w := by
  refine wpOpIn_step ho (fun K' hK' => ?_)
  have hw : Region.wanted o (yielded ops9 a.tmps) = true := by simp [Region.wanted, hgd]
  rw [if_pos hw]
  unfold Oper.wpIn
  refine ⟨fun f hf => ?_, ?_⟩
  · exact trivial
  · rw [show (Fence.wide.inRound l).round = some l from rfl, Oper.semAt_some l _ _ hnd, hrun]
    exact hK' _ _ hK
theorem step_skip {i : Nat} {o : Oper} {K : Act → World → Prop} {a : Act} {w : World} (ho : ops9[i]? = some o) (hgd : o.guard = none) (hnd : ∀ c, o.op ≠ .defer c) {w' : World}
    (hrun : (execOp a.eval o).run Tryd.prog w = .ok .skip w') (hK : K (a.put o.dst undef) w') : wpOpIn (Fence.wide.inRound l) N Tryd.prog ops9 Q i K a w := by
  refine wpOpIn_step ho (fun K' hK' => ?_)
  have hw : Region.wanted o (yielded ops9 a.tmps) = true := by simp [Region.wanted, hgd]
  rw [if_pos hw]
  unfold Oper.wpIn
  refine ⟨fun f hf => ?_, ?_⟩
  · exact trivial
  · rw [show (Fence.wide.inRound l).round = some l from rfl, Oper.semAt_some l _ _ hnd, hrun]
    exact hK' _ _ hK

variable {t20 t21 t22 t23 t24 : Value} {w : World}

theorem run0 (h : Boxed w (s + 1 + 1) 23 lv) : (execOp (fr c f u s z y12 y13 y14 y15 y16 y17 y18 y19 t20 t21 t22 t23 t24).eval ops9[0]).run Tryd.prog w = .ok (.value lv) w := by
  have hc := h.cell
  simp [ops9, go_sem, hc]
theorem run1 : (execOp (fr c f u s z y12 y13 y14 y15 y16 y17 y18 y19 t20 t21 t22 t23 t24).eval ops9[1]).run Tryd.prog w = .ok (.value u) w := by
  simp [ops9, go_sem]
theorem run3 {p : Option Addr} {m cp : Nat} : (execOp (fr c f u s z y12 y13 y14 y15 y16 y17 y18 y19 t20 t21 (.slice p m cp) t23 t24).eval ops9[3]).run Tryd.prog w = .ok (.value (.slice (some ⟨w.heap.size, 0, none⟩) 1 1)) (w.alloc (.cells #[.slice p m cp] 22)) := by
  simp [ops9, go_sem]
theorem run5 (h : Boxed w (s + 1 + 1) 23 lv) {p : Option Addr} {m cp : Nat} : (execOp (fr c f u s z y12 y13 y14 y15 y16 y17 y18 y19 t20 t21 t22 t23 (.slice p m cp)).eval ops9[5]).run Tryd.prog w = .ok .skip (w.setCell ⟨s + 1 + 1, 0, none⟩ (.slice p m cp)) := by
  have hc := h.cell
  have hf := h.frozen
  simp [ops9, go_sem, hc, hf]
theorem run4 (h : w.ownsRow B 22 1 lv k us) {g : Nat} (hb : Boxed w g 22 t22) (h1 : t22.oneCell' = true) (hk : k ≤ 1073741824) (hn : B ≤ w.heap.size) :
    ∃ v' w', (execOp (fr c f u s z y12 y13 y14 y15 y16 y17 y18 y19 lv t21 t22 (.slice (some ⟨g, 0, none⟩) 1 1) t24).eval ops9[4]).run Tryd.prog w = .ok (.value v') w' ∧ w'.ownsRow B 22 1 v' (k + 1) (us ++ [t22]) ∧ w.grownBy w' lv.ownBlock := by
  obtain ⟨i0, hI0, hz0, hz1, hz2⟩ := info_parts Tryd.infoSl
  have hc : ∀ j a, [t22][j]? = some a → w.cell? ((⟨g, 0, none⟩ : Addr).add j) = some a := by
    intro j a hj
    have hj0 : j = 0 := by
      have := (List.getElem?_eq_some_iff.1 hj).1
      simpa using this
    subst hj0
    simp at hj
    subst hj
    have := hb.cell
    simpa [Addr.add] using this
  obtain ⟨v', w', hrun, r1, r2, _⟩ := run_append_own (P := Tryd.prog) w B 23 23 22 i0 (.slice none 0 0) 1 24 Tryd.underlying23 hI0 hz0 hz1 hz2 rfl (by decide) lv k us h ⟨g, 0, none⟩ 1 1 [t22] rfl hc (by simpa using h1) (by unfold maxLen; omega) (by omega) hn
  refine ⟨v', w', ?_, r1, r2⟩
  simp [ops9, execOp, resolve, invoke, builtin, Act.eval, hrun, Result.andThen]

/-- The last two operations. -/
theorem last2 {p : Option Addr} {m cp g : Nat} (h : w.ownsRow B 22 1 lv k us) (hb : Boxed w g 22 (.slice p m cp)) (hx : Boxed w (s + 1 + 1) 23 lv) (hk : k ≤ 1073741824) (hn : B ≤ w.heap.size) (hs : s + 1 + 1 < B)
    (hQ : ∀ lv' w4 a', w4.ownsRow B 22 1 lv' (k + 1) (us ++ [.slice p m cp]) → w.grownBy w4 lv.ownBlock → Q .normal a' (w4.setCell ⟨s + 1 + 1, 0, none⟩ lv')) :
    wpAnyIn (Fence.wide.inRound l) N Tryd.prog .any ops9 Q 2 #[true, true, true, true, false, false] (fr c f u s z y12 y13 y14 y15 y16 y17 y18 y19 lv t21 (.slice p m cp) (.slice (some ⟨g, 0, none⟩) 1 1) t24) w := by
  refine wpAnyIn_all (rs := [4]) (by kernel_rfl) (by simp) fun i hi => ?_
  obtain rfl : i = 4 := by simpa using hi
  obtain ⟨v', w', hrun, r1, r2⟩ := run4 (t21 := t21) (t24 := t24) (c := c) (f := f) (u := u) (s := s) (z := z) (y12 := y12) (y13 := y13) (y14 := y14) (y15 := y15) (y16 := y16) (y17 := y17) (y18 := y18) (y19 := y19) h hb rfl hk hn
  obtain ⟨g', cap', rfl⟩ : ∃ g' cap', v' = .slice (some ⟨g', 0, none⟩) (k + 1) cap' := by
    rcases r1.2 with ⟨_, h0⟩ | ⟨g', cap', _, h0, _⟩
    · omega
    · exact ⟨g', cap', h0⟩
  refine step_value (o := ops9[4]) rfl rfl (by intro c hc; cases hc) hrun ?_
  have hx' : Boxed w' (s + 1 + 1) 23 lv := hx.kept r2 (fun e => by have := (h.lt _ e.symm).1; omega)
  show wpAnyIn (Fence.wide.inRound l) N Tryd.prog .any ops9 Q 1 #[true, true, true, true, true, false] (fr c f u s z y12 y13 y14 y15 y16 y17 y18 y19 lv t21 (.slice p m cp) (.slice (some ⟨g, 0, none⟩) 1 1) (.slice (some ⟨g', 0, none⟩) (k + 1) cap')) w'
  refine wpAnyIn_all (rs := [5]) (by kernel_rfl) (by simp) fun i hi => ?_
  obtain rfl : i = 5 := by simpa using hi
  refine step_skip (o := ops9[5]) rfl rfl (by intro c hc; cases hc) (run5 hx') ?_
  exact wpAnyIn_done (by kernel_rfl) (hQ _ _ _ r1 r2) 0

/-- The call of slices.Clone. -/
theorem call2 (hN : 1 ≤ N) {K : Act → World → Prop} (hrow : Row .u8 w u x) (hbig : x.length ≤ 140737488355328)
    (hK : ∀ v2 w2, Below w.heap.size w w2 → w2.ownsRow w.heap.size 5 1 v2 x.length (x.map (Value.int .u8)) → K (fr c f u s z y12 y13 y14 y15 y16 y17 y18 y19 t20 u v2 t23 t24) w2) :
    wpOpIn (Fence.wide.inRound l) N Tryd.prog ops9 Q 2 K (fr c f u s z y12 y13 y14 y15 y16 y17 y18 y19 t20 u t22 t23 t24) w := by
  refine wpOpIn_step (o := { dst := some 22, op := Op.call { callee := Callee.value (Operand.func 8), args := #[Operand.tmp 21], argTypes := #[22] }, type := 22, pos := "law.go:39", after := #[{ on := 1, ground := Ground.data }], guard := none }) rfl (fun K' hK' => ?_)
  rw [if_pos (by rfl)]
  go_simp
  refine ⟨trivial, ((callsIn_wide.2 (sclone_any hrow hbig)).inRound l).mono ?_⟩
  rintro e w2 ⟨v2, rfl, hown, hb⟩
  exact hK' _ _ (hK v2 w2 hb hown)

/-- What is asked of what stands behind the region. -/
def Behind (W : World) (s B k : Nat) (lv : Value) (us : List Value) (x : List Int) (Q : Exit → Act → World → Prop) : Prop :=
  ∀ lv' v2 w2 w4 a', Below W.heap.size W w2 → w2.ownsRow W.heap.size 5 1 v2 x.length (x.map (Value.int .u8)) → w4.ownsRow B 22 1 lv' (k + 1) (us ++ [v2]) → (w2.alloc (.cells #[v2] 22)).grownBy w4 lv.ownBlock → Q .normal a' (w4.setCell ⟨s + 1 + 1, 0, none⟩ lv')

/-- What holds when the region begins. -/
structure Ahead (W : World) (s B k : Nat) (lv u : Value) (us : List Value) (x : List Int) : Prop where
  box : Boxed W (s + 1 + 1) 23 lv
  own : W.ownsRow B 22 1 lv k us
  row : Row .u8 W u x
  big : x.length ≤ 140737488355328
  few : k ≤ 1073741824
  low : s + 1 + 1 < B
  base : B ≤ W.heap.size

theorem at13 (hA : Ahead W s B k lv u us x) (hQ : Behind W s B k lv us x Q) {v2 : Value} (hb : Below W.heap.size W w) (ho : w.ownsRow W.heap.size 5 1 v2 x.length (x.map (Value.int .u8))) :
    wpAnyIn (Fence.wide.inRound l) N Tryd.prog .any ops9 Q 2 #[true, true, true, true, false, false] (fr c f u s z y12 y13 y14 y15 y16 y17 y18 y19 lv t21 v2 (.slice (some ⟨w.heap.size, 0, none⟩) 1 1) t24) (w.alloc (.cells #[v2] 22)) := by
  obtain ⟨p, cp, rfl, _⟩ := id (own_row ho)
  have h1 := (own_below hA.own hb).alloc (.cells #[.slice p x.length cp] 22)
  have h2 : Boxed (w.alloc (.cells #[.slice p x.length cp] 22)) (s + 1 + 1) 23 lv := (show Boxed w (s + 1 + 1) 23 lv from below_box hb hA.box).alloc _
  exact last2 h1 (Boxed.new w _ _) h2 hA.few (by have := hA.base; have := hb.size; simp; omega) hA.low fun lv' w4 a' r1 r2 => hQ _ _ w w4 _ hb ho r1 r2
theorem at03 (hA : Ahead W s B k lv u us x) (hQ : Behind W s B k lv us x Q) {v2 : Value} (hb : Below W.heap.size W w) (ho : w.ownsRow W.heap.size 5 1 v2 x.length (x.map (Value.int .u8))) :
    wpAnyIn (Fence.wide.inRound l) N Tryd.prog .any ops9 Q 3 #[false, true, true, true, false, false] (fr c f u s z y12 y13 y14 y15 y16 y17 y18 y19 t20 t21 v2 (.slice (some ⟨w.heap.size, 0, none⟩) 1 1) t24) (w.alloc (.cells #[v2] 22)) := by
  refine wpAnyIn_all (rs := [0]) (by kernel_rfl) (by simp) fun i hi => ?_
  obtain rfl : i = 0 := by simpa using hi
  exact step_value (o := ops9[0]) rfl rfl (by intro c hc; cases hc) (run0 ((show Boxed w (s + 1 + 1) 23 lv from below_box hb hA.box).alloc _)) (at13 hA hQ hb ho)
theorem at12 (hA : Ahead W s B k lv u us x) (hQ : Behind W s B k lv us x Q) {v2 : Value} (hb : Below W.heap.size W w) (ho : w.ownsRow W.heap.size 5 1 v2 x.length (x.map (Value.int .u8))) :
    wpAnyIn (Fence.wide.inRound l) N Tryd.prog .any ops9 Q 3 #[true, true, true, false, false, false] (fr c f u s z y12 y13 y14 y15 y16 y17 y18 y19 lv t21 v2 t23 t24) w := by
  obtain ⟨p, cp, rfl, _⟩ := id (own_row ho)
  refine wpAnyIn_all (rs := [3]) (by kernel_rfl) (by simp) fun i hi => ?_
  obtain rfl : i = 3 := by simpa using hi
  exact step_value (o := ops9[3]) rfl rfl (by intro c hc; cases hc) run3 (at13 hA hQ hb ho)
theorem at02 (hA : Ahead W s B k lv u us x) (hQ : Behind W s B k lv us x Q) {v2 : Value} (hb : Below W.heap.size W w) (ho : w.ownsRow W.heap.size 5 1 v2 x.length (x.map (Value.int .u8))) :
    wpAnyIn (Fence.wide.inRound l) N Tryd.prog .any ops9 Q 4 #[false, true, true, false, false, false] (fr c f u s z y12 y13 y14 y15 y16 y17 y18 y19 t20 t21 v2 t23 t24) w := by
  obtain ⟨p, cp, rfl, _⟩ := id (own_row ho)
  refine wpAnyIn_all (rs := [0, 3]) (by kernel_rfl) (by simp) fun i hi => ?_
  obtain rfl | rfl : i = 0 ∨ i = 3 := by simpa using hi
  · exact step_value (o := ops9[0]) rfl rfl (by intro c hc; cases hc) (run0 (below_box hb hA.box)) (at12 hA hQ hb ho)
  · exact step_value (o := ops9[3]) rfl rfl (by intro c hc; cases hc) run3 (at03 hA hQ hb ho)
theorem at11 (hN : 1 ≤ N) (hA : Ahead W s B k lv u us x) (hQ : Behind W s B k lv us x Q) :
    wpAnyIn (Fence.wide.inRound l) N Tryd.prog .any ops9 Q 4 #[true, true, false, false, false, false] (fr c f u s z y12 y13 y14 y15 y16 y17 y18 y19 lv u t22 t23 t24) W := by
  refine wpAnyIn_all (rs := [2]) (by kernel_rfl) (by simp) fun i hi => ?_
  obtain rfl : i = 2 := by simpa using hi
  exact call2 hN hA.row hA.big fun v2 w2 hb ho => at12 hA hQ hb ho
theorem at01 (hN : 1 ≤ N) (hA : Ahead W s B k lv u us x) (hQ : Behind W s B k lv us x Q) :
    wpAnyIn (Fence.wide.inRound l) N Tryd.prog .any ops9 Q 5 #[false, true, false, false, false, false] (fr c f u s z y12 y13 y14 y15 y16 y17 y18 y19 t20 u t22 t23 t24) W := by
  refine wpAnyIn_all (rs := [0, 2]) (by kernel_rfl) (by simp) fun i hi => ?_
  obtain rfl | rfl : i = 0 ∨ i = 2 := by simpa using hi
  · exact step_value (o := ops9[0]) rfl rfl (by intro c hc; cases hc) (run0 hA.box) (at11 hN hA hQ)
  · exact call2 hN hA.row hA.big fun v2 w2 hb ho => at02 hA hQ hb ho
theorem at10 (hN : 1 ≤ N) (hA : Ahead W s B k lv u us x) (hQ : Behind W s B k lv us x Q) :
    wpAnyIn (Fence.wide.inRound l) N Tryd.prog .any ops9 Q 5 #[true, false, false, false, false, false] (fr c f u s z y12 y13 y14 y15 y16 y17 y18 y19 lv t21 t22 t23 t24) W := by
  refine wpAnyIn_all (rs := [1]) (by kernel_rfl) (by simp) fun i hi => ?_
  obtain rfl : i = 1 := by simpa using hi
  exact step_value (o := ops9[1]) rfl rfl (by intro c hc; cases hc) run1 (at11 hN hA hQ)
theorem at00 (hN : 1 ≤ N) (hA : Ahead W s B k lv u us x) (hQ : Behind W s B k lv us x Q) :
    wpAnyIn (Fence.wide.inRound l) N Tryd.prog .any ops9 Q 6 #[false, false, false, false, false, false] (fr c f u s z y12 y13 y14 y15 y16 y17 y18 y19 t20 t21 t22 t23 t24) W := by
  refine wpAnyIn_all (rs := [0, 1]) (by kernel_rfl) (by simp) fun i hi => ?_
  obtain rfl | rfl : i = 0 ∨ i = 1 := by simpa using hi
  · exact step_value (o := ops9[0]) rfl rfl (by intro c hc; cases hc) (run0 hA.box) (at10 hN hA hQ)
  · exact step_value (o := ops9[1]) rfl rfl (by intro c hc; cases hc) run1 (at01 hN hA hQ)
theorem region9 {id : Nat} (hN : 1 ≤ N) (hA : Ahead W.drew s B k lv u us x) (hQ : Behind W.drew s B k lv us x Q) :
    (Code.region id ops9 true).wpIn (Fence.wide.inRound l) N Tryd.prog Q (fr c f u s z y12 y13 y14 y15 y16 y17 y18 y19 t20 t21 t22 t23 t24) W := by
  refine wpIn_region_any (by kernel_rfl) ?_
  exact at00 hN hA hQ
end

set_option maxHeartbeats 1000000 in
theorem all_any {v : Value} {b : List Int} {w : World} (h : Row .u8 w v b) (hbig : b.length ≤ 140737488355328) :
    Calls Tryd.prog 30 #[v] w fun e w' => ∃ u g, e = .returned (.func (.func 31) #[] #[.pointer (some ⟨g, 0, none⟩)]) ∧ Boxed w' g 22 u ∧ w.heap.size ≤ g ∧ g < w'.heap.size ∧
      w'.ownsRow w.heap.size 5 1 u b.length (b.map (Value.int .u8)) ∧ Below w.heap.size w w' := by
  have HR : Hid (Row .u8 w v b) := h
  obtain ⟨p, cap, rfl, _, _, _, _⟩ := h
  go_enter Tryd.func30, Tryd.ntmps30
  go_wp2_with fail
  refine (clone_any HR.out hbig).mono ?_
  rintro e w1 ⟨v1, rfl, hown, hb1⟩
  obtain ⟨p1, cp1, rfl, _, _, _, _⟩ := id (own_row hown)
  have O1 : Hid (w1.ownsRow w.heap.size 5 1 (.slice p1 b.length cp1) b.length (b.map (Value.int .u8))) := hown
  have B1 : Below w.heap.size w w1 := hb1
  clear hown hb1
  go_wp2_with fail
  refine (framesOf_any p1 b.length cp1 rfl).mono ?_
  rintro e w2 ⟨rfl, hw2⟩
  have X2 : Boxed w2 w1.heap.size 22 (.slice p1 b.length cp1) := by rw [hw2]; exact Boxed.new w1 _ _
  have O2 : Hid (w2.ownsRow w.heap.size 5 1 (.slice p1 b.length cp1) b.length (b.map (Value.int .u8))) := by rw [hw2]; exact O1.out.alloc _
  have B2 : Below w.heap.size w w2 := by rw [hw2]; exact B1.alloc B1.size _
  have z2 : w2.heap.size = w1.heap.size + 1 := by rw [hw2]; simp
  clear hw2
  go_wp2
  go_ret
  exact ⟨_, _, rfl, X2, B1.size, by omega, O2.out, B2⟩

/-- What told's own variables hold when so many frames have come. -/
structure Told (w : World) (gk B : Nat) (uc : Value) (b : List Int) (pre : List (List Int)) (W : World) : Prop where
  list : ∃ lv, Boxed W (w.heap.size + 1 + 1) 23 lv ∧ OwnL B W lv pre
  place : Boxed W (w.heap.size + 1 + 1 + 1) 3 (.int .i64 ((flen pre : Nat) : Int))
  r0 : ∃ v, Boxed W w.heap.size 23 v
  r1 : ∃ v, Boxed W (w.heap.size + 1) 4 v
  iter : Boxed W gk 22 uc
  own : W.ownsRow (w.heap.size + 4) 5 1 uc b.length (b.map (Value.int .u8))
  bel : Below w.heap.size w W
  sz : B ≤ W.heap.size

/-- What told hands back: what its two results' own cells hold. -/
theorem told_results {w : World} {g : Nat} {tmps : Array Value} {v : Value} {c : Bool} (h2 : tmps.getD 2 undef = .pointer (some ⟨g, 0, none⟩)) (h3 : tmps.getD 3 undef = .pointer (some ⟨g + 1, 0, none⟩))
    (hc0 : w.cell? ⟨g, 0, none⟩ = some v) (hc1 : w.cell? ⟨g + 1, 0, none⟩ = some (.bool c)) :
    (results Tryd.f21 tmps).run Tryd.prog w = .ok (.tuple #[v, .bool c]) w := by
  have e2 : tmps[2]?.getD undef = .pointer (some ⟨g, 0, none⟩) := by simpa using h2
  have e3 : tmps[3]?.getD undef = .pointer (some ⟨g + 1, 0, none⟩) := by simpa using h3
  simp [results, e2, e3, hc0, hc1, go_sem]

set_option maxRecDepth 100000 in
set_option maxHeartbeats 4000000 in
theorem told_in (n : Nat) (hn : 3 ≤ n) {v : Value} {b : List Int} {w : World} (hv : Row .u8 w v b) (hu : U8 b) (ht : Tabs w) (hbig : b.length ≤ 1073741824) :
    CallsIn Fence.wide n Tryd.prog 21 #[v] w fun e w' => ∃ lv, e = .returned (.tuple #[lv, .bool true]) ∧ OwnL w.heap.size w' lv (loads b) ∧ Below w.heap.size w w' := by
  have HV : Hid (Row .u8 w v b) := hv
  have HU : Hid (U8 b) := hu
  have HT : Hid (Tabs w) := ht
  have hN := loads_len b
  obtain ⟨p, cap, rfl, g1, g2, _, _⟩ := hv
  clear hu ht
  refine callsIn_of_wp_marks Tryd.func21 rfl trivial ?_ rfl
  simp only [Tryd.ntmps21, List.size_toArray, List.length_cons, List.length_nil, Nat.reduceAdd, Nat.reduceSub, Array.replicate_succ, Array.replicate_zero, List.push_toArray, List.append_toArray, List.nil_append, List.cons_append]
  gi_wp2_with fail
  obtain ⟨w0, hw0⟩ : ∃ w0, w0 = (((w.alloc (Obj.cells #[Value.slice none 0 0] 23)).alloc (Obj.cells #[Value.bool false] 4)).alloc (Obj.cells #[Value.slice none 0 0] 23)).alloc (Obj.cells #[Value.int IntKind.i64 0] 3) := ⟨_, rfl⟩
  rw [← hw0]
  have z0 : w0.heap.size = w.heap.size + 4 := by rw [hw0]; simp
  have B0 : Below w.heap.size w w0 := by rw [hw0]; exact (((alloc_below w _).alloc (by simp) _).alloc (by simp; omega) _).alloc (by simp; omega) _
  have X0 : Boxed w0 w.heap.size 23 (.slice none 0 0) := by rw [hw0]; exact (((Boxed.new w _ _).alloc _).alloc _).alloc _
  have X1 : Boxed w0 (w.heap.size + 1) 4 (.bool false) := by
    have e := Boxed.new (w.alloc (.cells #[.slice none 0 0] 23)) 4 (.bool false)
    rw [World.size_alloc] at e
    rw [hw0]; exact (e.alloc _).alloc _
  have X2 : Boxed w0 (w.heap.size + 1 + 1) 23 (.slice none 0 0) := by
    have e := Boxed.new ((w.alloc (.cells #[.slice none 0 0] 23)).alloc (.cells #[.bool false] 4)) 23 (.slice none 0 0)
    rw [World.size_alloc, World.size_alloc] at e
    rw [hw0]; exact e.alloc _
  have X3 : Boxed w0 (w.heap.size + 1 + 1 + 1) 3 (.int .i64 ((flen [] : Nat) : Int)) := by
    have e := Boxed.new (((w.alloc (.cells #[.slice none 0 0] 23)).alloc (.cells #[.bool false] 4)).alloc (.cells #[.slice none 0 0] 23)) 3 (.int .i64 0)
    rw [World.size_alloc, World.size_alloc, World.size_alloc] at e
    rw [hw0, flen_nil]; exact e
  clear hw0
  refine ⟨trivial, fun _ => by omega, (callsIn_wide.2 (all_any (HV.out.below B0) (by omega))).mono ?_⟩
  rintro r w1 ⟨uc, gk, rfl, hbox, hgk, hgk2, hown, hb1⟩
  have hstart : Hid (Told w gk w1.heap.size uc b [] w1) := 
    { list := ⟨_, below_box hb1 X2, OwnL.nil _ _⟩, place := below_box hb1 X3, r0 := ⟨_, below_box hb1 X0⟩, r1 := ⟨_, below_box hb1 X1⟩, iter := hbox, own := by rw [← z0]; exact hown, bel := B0.trans (hb1.mono B0.size), sz := Nat.le_refl _ }
  clear X0 X1 X2 X3 hbox hown hb1 B0
  gi_wp2_with fail
  refine range_frames (by omega) gk w1.heap.size uc b HU.out (by omega) rfl rfl (Told w gk w1.heap.size uc b)
    ?grows ?puts ?reads hstart.out (fun z u => { tmps := #[.slice p b.length cap, undef, .pointer (some ⟨w.heap.size, 0, none⟩), .pointer (some ⟨w.heap.size + 1, 0, none⟩), .pointer (some ⟨w.heap.size + 1 + 1, 0, none⟩), .pointer (some ⟨w.heap.size + 1 + 1 + 1, 0, none⟩), .int .i64 z, u, .slice p b.length cap, .func (.func 31) #[] #[.pointer (some ⟨gk, 0, none⟩)], .int .i64 z, u, undef, undef, undef, undef, undef, undef, undef, undef, undef, undef, undef, undef, undef, undef], defers := [] }) ?assign ?body ?done
  case grows =>
    intro pre W W' h hb
    obtain ⟨lv, h1, h2⟩ := h.list
    obtain ⟨v0, h3⟩ := h.r0
    obtain ⟨v1, h4⟩ := h.r1
    exact { list := ⟨lv, below_box hb h1, h2.below hb⟩, place := below_box hb h.place, r0 := ⟨v0, below_box hb h3⟩, r1 := ⟨v1, below_box hb h4⟩, iter := below_box hb h.iter, own := own_below h.own hb, bel := h.bel.trans (hb.mono h.bel.size), sz := Nat.le_trans h.sz hb.size }
  case puts =>
    intro pre W l o o' h hl ho hc
    obtain ⟨lv, h1, h2⟩ := h.list
    obtain ⟨v0, h3⟩ := h.r0
    obtain ⟨v1, h4⟩ := h.r1
    have hne : ∀ k, k < w1.heap.size → k ≠ l := fun k hk e => by omega
    exact { list := ⟨lv, (World.putObj_heap_other (hne _ (by omega))).trans h1, h2.putObj _ ho hc⟩, place := (World.putObj_heap_other (hne _ (by omega))).trans h.place, r0 := ⟨v0, (World.putObj_heap_other (hne _ (by omega))).trans h3⟩,
            r1 := ⟨v1, (World.putObj_heap_other (hne _ (by omega))).trans h4⟩, iter := (World.putObj_heap_other (hne _ (by omega))).trans h.iter, own := ownsRow_putObj h.own _ ho hc,
            bel := h.bel.grown (grownBy_putObj' W l o') h.bel.size (fun k e => by cases e; omega), sz := by simpa using h.sz }
  case reads =>
    intro pre W h
    exact ⟨h.iter, own_row h.own, HT.out.below h.bel, h.sz⟩
  case assign =>
    intro l z u W K hK
    gi_wp2
    exact hK
  case body =>
    intro l pre x u W h hown hpre
    obtain ⟨lv, hl, us, o1, o2, o3⟩ := h.list
    have hpl : pre.length ≤ 1073741824 := by
      obtain ⟨r, hr⟩ := hpre
      have := congrArg List.length hr
      simp at this
      omega
    have hfl : flen pre + (12 + x.length) ≤ 1073741824 := by
      obtain ⟨r, hr⟩ := hpre
      have h1 := loads_flen b
      rw [hr, flen_append, flen_cons] at h1
      omega
    have HZ : Hid (flen pre + (12 + x.length) = flen (pre ++ [x])) := by show _ = _; rw [flen_snoc]
    have hc3 := h.place.cell
    have hf3 := h.place.frozen
    have HH : Hid (Told w gk w1.heap.size uc b pre W) := h
    have HO : Hid (W.ownsRow w1.heap.size 5 1 u x.length (x.map (Value.int .u8))) := hown
    have HL : Hid (Boxed W (w.heap.size + 1 + 1) 23 lv) := hl
    have H2 : Hid (W.ownsRow w1.heap.size 22 1 lv pre.length us) := o2
    have H3 : Hid (∀ i, i < pre.length → W.ownsRow w1.heap.size 5 1 (us.getD i undef) (pre.getD i []).length ((pre.getD i []).map (Value.int .u8))) := o3
    obtain ⟨pu, cu, rfl, _, _, _, _⟩ := own_row hown
    generalize hk : flen pre = k at *
    have HK : Hid (flen pre = k) := hk
    clear h hown hl o2 o3 hpre hk
    have hsub : (k : Int) + (12 + (x.length : Int)) - (k : Int) = 12 + (x.length : Int) := by omega
    gi_wp2_with fail
    obtain ⟨W1, hW1⟩ : ∃ W1, W1 = W.setCell ⟨w.heap.size + 1 + 1 + 1, 0, none⟩ (.int .i64 ((k : Int) + (12 + (x.length : Int)))) := ⟨_, rfl⟩
    have hT := HH.out
    have hsz := hT.sz
    have S1 : w1.heap.size ≤ W1.heap.size := by rw [hW1]; simpa using hsz
    have P1 : Boxed W1 (w.heap.size + 1 + 1 + 1) 3 (.int .i64 ((flen (pre ++ [x]) : Nat) : Int)) := by
      rw [hW1, show ((flen (pre ++ [x]) : Nat) : Int) = (k : Int) + (12 + (x.length : Int)) by rw [← HZ.out]; omega]
      exact (show Boxed W (w.heap.size + 1 + 1 + 1) 3 (.int .i64 (k : Int)) from by rw [← HK.out]; exact hT.place).set _
    have L1 : Boxed W1 (w.heap.size + 1 + 1) 23 lv := by rw [hW1]; exact HL.out.other (by omega) _
    obtain ⟨v0, hr0⟩ := hT.r0
    obtain ⟨v1, hr1⟩ := hT.r1
    have R0 : Boxed W1 w.heap.size 23 v0 := by rw [hW1]; exact hr0.other (by omega) _
    have R1 : Boxed W1 (w.heap.size + 1) 4 v1 := by rw [hW1]; exact hr1.other (by omega) _
    have I1 : Boxed W1 gk 22 uc := by rw [hW1]; exact hT.iter.other (by omega) _
    have C1 : W1.ownsRow (w.heap.size + 4) 5 1 uc b.length (b.map (Value.int .u8)) := by rw [hW1]; exact own_set hT.own (by omega)
    have O1 : W1.ownsRow w1.heap.size 22 1 lv pre.length us := by rw [hW1]; exact own_set H2.out (by omega)
    have U1 : W1.ownsRow w1.heap.size 5 1 (.slice pu x.length cu) x.length (x.map (Value.int .u8)) := by rw [hW1]; exact own_set HO.out (by omega)
    have E1 : ∀ i, i < pre.length → W1.ownsRow w1.heap.size 5 1 (us.getD i undef) (pre.getD i []).length ((pre.getD i []).map (Value.int .u8)) := fun i hi => by rw [hW1]; exact own_set (H3.out i hi) (by omega)
    have BL1 : Below w.heap.size w W1 := by rw [hW1]; exact hT.bel.setCell (p := ⟨w.heap.size + 1 + 1 + 1, 0, none⟩) (by simp; omega) _
    have K1 : KeepsOthers W W1 := by rw [hW1]; exact KeepsOthers.setCell _ _ _
    rw [← hW1]
    clear hW1 hT hr0 hr1 HH HO HL H2 H3 hc3 hf3
    refine region9 (s := w.heap.size) (B := w1.heap.size) (k := pre.length) (lv := lv) (us := us) (x := x) (by omega)
      { box := L1, own := O1, row := own_row U1.drew, big := by omega, few := hpl, low := by omega, base := S1 } ?_
    intro lv' v2 w2 w4 a' hb ho r1 r2
    have hne23 : (23 : TypeId) ≠ 22 := by decide
    have O2 := own_below O1.drew hb
    have hw2 : W1.heap.size ≤ w2.heap.size := hb.size
    have kept : ∀ {g : Nat} {t : TypeId} {v : Value}, Boxed W1 g t v → g < w1.heap.size → Boxed w4 g t v := fun hx hlt =>
      ((show Boxed w2 _ _ _ from below_box hb hx).alloc _).kept r2 (fun e => by have := (O2.lt _ e.symm).1; omega)
    have K2 : KeepsOthers W1 w2 := ⟨hw2, fun j o hj _ => below_box hb hj⟩
    have K4 : KeepsOthers W1 w4 := K2.trans (keeps_append O2 r2)
    have BL4 : Below w.heap.size w w4 := (BL1.drew.trans (hb.mono BL1.size)).trans (below_append O2 r2 (Nat.le_trans BL1.size hw2) (by omega))
    have hw4 := K4.size
    have hOL : OwnL w1.heap.size w4 lv' (pre ++ [x]) := OwnL.snoc o1 (O2.alloc _) (fun i hi => (own_below (E1 i hi).drew hb).alloc _) ((own_base ho S1).alloc _) r2 r1
    have C4 : w4.ownsRow (w.heap.size + 4) 5 1 uc b.length (b.map (Value.int .u8)) := ((own_below C1.drew hb).alloc _).kept r2 (rows_apart ((own_below C1.drew hb)) O2 (by decide))
    refine ⟨rfl, ((K1.trans K4).trans (KeepsOthers.setCell _ _ _)).from _, ?_⟩
    exact { list := ⟨lv', (kept L1 (by omega)).set _, hOL.set (by omega)⟩, place := (kept P1 (by omega)).other (by omega) _, r0 := ⟨v0, (kept R0 (by omega)).other (by omega) _⟩, r1 := ⟨v1, (kept R1 (by omega)).other (by omega) _⟩,
            iter := (kept I1 (by omega)).other (by omega) _, own := own_set C4 (by omega), bel := BL4.setCell (p := ⟨w.heap.size + 1 + 1, 0, none⟩) (by simp; omega) _, sz := by simp; omega }
  case done =>
    intro D W hD h hK
    obtain ⟨lv, hl, hOL⟩ := h.list
    obtain ⟨v0, hr0⟩ := h.r0
    obtain ⟨v1, hr1⟩ := h.r1
    have hc2 := hl.cell
    have hc0 := hr0.cell
    have hf0 := hr0.frozen
    obtain ⟨p1, n1, cp1, rfl⟩ : ∃ p1 n1 cp1, lv = .slice p1 n1 cp1 := by
      obtain ⟨us, o1, o2, o3⟩ := hOL
      rcases o2.2 with ⟨rfl, _⟩ | ⟨g, cap, cur, rfl, _⟩
      · exact ⟨_, _, _, rfl⟩
      · exact ⟨_, _, _, rfl⟩
    have q1 := hr1.other (show w.heap.size + 1 ≠ w.heap.size by omega) (.slice p1 n1 cp1)
    have hc1 := q1.cell
    have hf1 := q1.frozen
    have HOL : Hid (OwnL w1.heap.size W (.slice p1 n1 cp1) (loads b)) := hOL
    have HH : Hid (Told w gk w1.heap.size uc b (loads b) W) := h
    clear hOL h
    gi_wp2_with fail
    have z1 : w.heap.size + 1 < W.heap.size := hr1.lt
    have y0 := (hr0.set (.slice p1 n1 cp1)).other (show w.heap.size ≠ w.heap.size + 1 by omega) (.bool true)
    have y1 := q1.set (.bool true)
    obtain ⟨W2, hW2⟩ : ∃ W2, W2 = (W.setCell ⟨w.heap.size, 0, none⟩ (.slice p1 n1 cp1)).setCell ⟨w.heap.size + 1, 0, none⟩ (.bool true) := ⟨_, rfl⟩
    rw [← hW2] at y0 y1 ⊢
    have hT := HH.out
    have hK' : W2.heap[D]? = some (.deferred (some [])) := by rw [hW2]; exact (((KeepsOthers.setCell _ _ _).trans (KeepsOthers.setCell _ _ _)).same D _ hK rfl)
    have hO2 : OwnL w1.heap.size W2 (.slice p1 n1 cp1) (loads b) := by rw [hW2]; exact (HOL.out.set (by omega)).set (by omega)
    have hB2 : Below w.heap.size w W2 := by rw [hW2]; exact (hT.bel.setCell (p := ⟨w.heap.size, 0, none⟩) (Nat.le_refl _) _).setCell (p := ⟨w.heap.size + 1, 0, none⟩) (Nat.le_succ _) _
    refine ⟨by simp, .inl ⟨_, _, rfl, run_takeDeferred hK', ?_⟩⟩
    have x0 : Boxed (W2.putObj D (.deferred none)) w.heap.size 23 (.slice p1 n1 cp1) := (World.putObj_heap_other (by omega)).trans y0
    have x1 : Boxed (W2.putObj D (.deferred none)) (w.heap.size + 1) 4 (.bool true) := (World.putObj_heap_other (by omega)).trans y1
    exact ⟨_, told_results rfl rfl x0.cell x1.cell, _, rfl, (hO2.putObj _ hK' rfl).base (by omega), hB2.trans (belowK_b (w := w) (Nat.le_refl _) W2 D _ _ (by omega) hK' rfl rfl)⟩

theorem told_any {v : Value} {b : List Int} {w : World} (hv : Row .u8 w v b) (hu : U8 b) (ht : Tabs w) (hbig : b.length ≤ 1073741824) :
    Calls Tryd.prog 21 #[v] w fun e w' => ∃ lv, e = .returned (.tuple #[lv, .bool true]) ∧ OwnL w.heap.size w' lv (loads b) ∧ Below w.heap.size w w' :=
  callsIn_wide.1 (told_in 3 (Nat.le_refl _) hv hu ht hbig)

end Go.Proofs.YtcdjbfapldepaaaDoor
