/-
  'at, l = append(at, n), append(l, e)' in the statements' function 'edges': whatever order its operations come up in, both variables hold one element more behind it, and nothing else turns. No condition but the lists' lengths.
-/
import Derived.Test.YtlfipmieaabagaaGreatGiv
import Derived.RegionIn
namespace Go.Proofs.YtlfipmieaabagaaGreat
open Go.RowKit Go.Shelf
attribute [local go_sem] Oper.semAt_some

/-- The ten operations. -/
def ops6 : Array Oper := #[
  { dst := some 12, op := Op.load 88 (Operand.tmp 4), type := 88, pos := "law.go:43", after := #[], guard := none },
  { dst := some 13, op := Op.move (Operand.tmp 6), type := 3, pos := "law.go:43", after := #[], guard := none },
  { dst := some 14, op := Op.buildSlice 88 1 #[(0, Operand.tmp 13)], type := 88, pos := "law.go:43", after := #[{ on := 1, ground := Ground.data }], guard := none },
  { dst := some 15, op := Op.call { callee := Callee.builtin Builtin.append, args := #[Operand.tmp 12, Operand.tmp 14], argTypes := #[88, 88] }, type := 88, pos := "law.go:43", after := #[{ on := 0, ground := Ground.data }, { on := 2, ground := Ground.data }], guard := none },
  { dst := some 16, op := Op.load 93 (Operand.tmp 5), type := 93, pos := "law.go:43", after := #[], guard := none },
  { dst := some 17, op := Op.load 119 (Operand.tmp 7), type := 119, pos := "law.go:43", after := #[], guard := none },
  { dst := some 18, op := Op.buildSlice 93 1 #[(0, Operand.tmp 17)], type := 93, pos := "law.go:43", after := #[{ on := 5, ground := Ground.data }], guard := none },
  { dst := some 19, op := Op.call { callee := Callee.builtin Builtin.append, args := #[Operand.tmp 16, Operand.tmp 18], argTypes := #[93, 93] }, type := 93, pos := "law.go:43", after := #[{ on := 4, ground := Ground.data }, { on := 6, ground := Ground.data }, { on := 3, ground := Ground.chain }], guard := none },
  { dst := none, op := Op.store 88 (Operand.tmp 4) (Operand.tmp 15), type := 0, pos := "law.go:43", after := #[{ on := 3, ground := Ground.data }, { on := 7, ground := Ground.chain }, { on := 0, ground := Ground.phase }, { on := 1, ground := Ground.phase }, { on := 2, ground := Ground.phase }, { on := 3, ground := Ground.phase }, { on := 4, ground := Ground.textOnly Departure.inlinedCapture }, { on := 5, ground := Ground.textOnly Departure.lateStores }, { on := 6, ground := Ground.textOnly Departure.inlinedCapture }, { on := 7, ground := Ground.textOnly Departure.lateStoresUnsure }], guard := none },
  { dst := none, op := Op.store 93 (Operand.tmp 5) (Operand.tmp 19), type := 0, pos := "law.go:43", after := #[{ on := 7, ground := Ground.data }, { on := 8, ground := Ground.chain }, { on := 0, ground := Ground.phase }, { on := 1, ground := Ground.phase }, { on := 2, ground := Ground.phase }, { on := 3, ground := Ground.phase }, { on := 4, ground := Ground.phase }, { on := 5, ground := Ground.phase }, { on := 6, ground := Ground.phase }, { on := 7, ground := Ground.phase }, { on := 8, ground := Ground.phase }], guard := none }]

/-- The frame. -/
abbrev fr (c d f : Value) (s q : Nat) (x yf yp : Int) (t12 t13 t14 t15 t16 t17 t18 t19 : Value) : Act :=
  { tmps := #[c, d, .slice none 0 0, .slice none 0 0, .pointer (some ⟨s, 0, none⟩), .pointer (some ⟨s + 1, 0, none⟩), .int .i64 x, .pointer (some ⟨q, 0, none⟩), c, f, .int .i64 x, .agg #[.int .i64 yf, .int .i64 yp], t12, t13, t14, t15, t16, t17, t18, t19, undef, undef], defers := [] }
theorem Tryz.infoInt : (Tryz.prog.info? 3).map (fun i => (i.zero, i.size, i.bytes)) = some (some (.int .i64 0), 1, 8) := by kernel_rfl
theorem Tryz.infoEdg : (Tryz.prog.info? 119).map (fun i => (i.zero, i.size, i.bytes)) = some (some (.agg #[.int .i64 0, .int .i64 0]), 2, 16) := by kernel_rfl

section
variable {V W : World} {s n2 k m q : Nat} {v u : Value} {xs ys : List Value} {x yf yp : Int} {c d f : Value} {l N : Nat} {Q : Exit → Act → World → Prop}

/-- A step of the region, and what it leaves. -/
theorem step_move {i : Nat} {o : Oper} {K : Act → World → Prop} {a : Act} {w : World} (ho : ops6[i]? = some o) (hgd : o.guard = none) (hnd : ∀ c, o.op ≠ .defer c) {val : Value} {w' : World}
    (hrun : (execOp a.eval o).run Tryz.prog w = .ok (.value val) w') (hK : K (a.put o.dst val) w') : wpOpIn (Fence.wide.inRound l) N Tryz.prog ops6 Q i K a w := by
  refine wpOpIn_step ho (fun K' hK' => ?_)
  have hw : Region.wanted o (yielded ops6 a.tmps) = true := by simp [Region.wanted, hgd]
  rw [if_pos hw]
  unfold Oper.wpIn
  refine ⟨fun f hf => ?_, ?_⟩
  · exact trivial
  · rw [show (Fence.wide.inRound l).round = some l from rfl, Oper.semAt_some l _ _ hnd, hrun]
    exact hK' _ _ hK

theorem step_skip {i : Nat} {o : Oper} {K : Act → World → Prop} {a : Act} {w : World} (ho : ops6[i]? = some o) (hgd : o.guard = none) (hnd : ∀ c, o.op ≠ .defer c) {w' : World}
    (hrun : (execOp a.eval o).run Tryz.prog w = .ok .skip w') (hK : K (a.put o.dst undef) w') : wpOpIn (Fence.wide.inRound l) N Tryz.prog ops6 Q i K a w := by
  refine wpOpIn_step ho (fun K' hK' => ?_)
  have hw : Region.wanted o (yielded ops6 a.tmps) = true := by simp [Region.wanted, hgd]
  rw [if_pos hw]
  unfold Oper.wpIn
  refine ⟨fun f hf => ?_, ?_⟩
  · exact trivial
  · rw [show (Fence.wide.inRound l).round = some l from rfl, Oper.semAt_some l _ _ hnd, hrun]
    exact hK' _ _ hK

variable {t12 t13 t14 t15 t16 t17 t18 t19 : Value} {w : World}

theorem run0 (h : Boxed w s 88 v) : (execOp (fr c d f s q x yf yp t12 t13 t14 t15 t16 t17 t18 t19).eval ops6[0]).run Tryz.prog w = .ok (.value v) w := by
  have hc := h.cell
  simp [ops6, go_sem, hc]
theorem run1 : (execOp (fr c d f s q x yf yp t12 t13 t14 t15 t16 t17 t18 t19).eval ops6[1]).run Tryz.prog w = .ok (.value (.int .i64 x)) w := by
  simp [ops6, go_sem]
theorem run2 (e : t13 = .int .i64 x) : (execOp (fr c d f s q x yf yp t12 t13 t14 t15 t16 t17 t18 t19).eval ops6[2]).run Tryz.prog w = .ok (.value (.slice (some ⟨w.heap.size, 0, none⟩) 1 1)) (w.alloc (.cells #[.int .i64 x] 3)) := by
  subst e
  simp [ops6, go_sem]
theorem run8 (h : Boxed w s 88 v) {g cap : Nat} (e : t15 = .slice (some ⟨g, 0, none⟩) k cap) : (execOp (fr c d f s q x yf yp t12 t13 t14 t15 t16 t17 t18 t19).eval ops6[8]).run Tryz.prog w = .ok .skip (w.setCell ⟨s, 0, none⟩ t15) := by
  have hc := h.cell
  have hf := h.frozen
  subst e
  simp [ops6, go_sem, hc, hf]

theorem run4 (h : Boxed w (s + 1) 93 u) : (execOp (fr c d f s q x yf yp t12 t13 t14 t15 t16 t17 t18 t19).eval ops6[4]).run Tryz.prog w = .ok (.value u) w := by
  have hc := h.cell
  simp [ops6, go_sem, hc]
theorem run5 (h : w.heap[q]? = some (.cells #[.int .i64 yf, .int .i64 yp] 119 (0, 0))) : (execOp (fr c d f s q x yf yp t12 t13 t14 t15 t16 t17 t18 t19).eval ops6[5]).run Tryz.prog w = .ok (.value (.agg #[.int .i64 yf, .int .i64 yp])) w := by
  have h0 : w.cell? ⟨q, 0, none⟩ = some (.int .i64 yf) := by simp [World.cell?, h]
  have h1 : w.cell? ⟨q, 1, none⟩ = some (.int .i64 yp) := by simp [World.cell?, h]
  simp [ops6, go_sem, h0, h1]
theorem run6 (e : t17 = .agg #[.int .i64 yf, .int .i64 yp]) : (execOp (fr c d f s q x yf yp t12 t13 t14 t15 t16 t17 t18 t19).eval ops6[6]).run Tryz.prog w = .ok (.value (.slice (some ⟨w.heap.size, 0, none⟩) 1 1)) (w.alloc (.cells #[.int .i64 yf, .int .i64 yp] 119)) := by
  subst e
  simp [ops6, go_sem]
theorem run9 (h : Boxed w (s + 1) 93 u) {g cap : Nat} (e : t19 = .slice (some ⟨g, 0, none⟩) k cap) : (execOp (fr c d f s q x yf yp t12 t13 t14 t15 t16 t17 t18 t19).eval ops6[9]).run Tryz.prog w = .ok .skip (w.setCell ⟨s + 1, 0, none⟩ t19) := by
  have hc := h.cell
  have hf := h.frozen
  subst e
  simp [ops6, go_sem, hc, hf]
theorem box_news {g : Nat} {t : TypeId} {z : Int} (h : Boxed w g t (.int .i64 z)) : ∀ j a, [Value.int .i64 z][j]? = some a → w.cell? ((⟨g, 0, none⟩ : Addr).add j) = some a := by
  intro j a hj
  have hj0 : j = 0 := by
    have := (List.getElem?_eq_some_iff.1 hj).1
    simpa using this
  subst hj0
  simp at hj
  subst hj
  have := h.cell
  simpa [Addr.add] using this
theorem run3 (h : w.ownsRow n2 3 1 v k xs) (e1 : t12 = v) {g : Nat} (e2 : t14 = .slice (some ⟨g, 0, none⟩) 1 1) (hb : Boxed w g 3 (.int .i64 x)) (hk : k ≤ 1048576) (hn : n2 ≤ w.heap.size) :
    ∃ v' w', (execOp (fr c d f s q x yf yp t12 t13 t14 t15 t16 t17 t18 t19).eval ops6[3]).run Tryz.prog w = .ok (.value v') w' ∧ w'.ownsRow n2 3 1 v' (k + 1) (xs ++ [.int .i64 x]) ∧ w.grownBy w' v.ownBlock := by
  obtain ⟨i1, hI1, hz0, hz1, hz2⟩ := info_parts Tryz.infoInt
  obtain ⟨v', w', hrun, r1, r2, _⟩ := run_append_own (P := Tryz.prog) w n2 88 88 3 i1 (.int .i64 0) 1 8 Tryz.underlying88 hI1 hz0 hz1 hz2 rfl (by decide) v k xs h ⟨g, 0, none⟩ 1 1 [.int .i64 x] rfl (box_news hb) (by simp [Value.oneCell']) (by unfold maxLen; omega) (by omega) hn
  refine ⟨v', w', ?_, r1, r2⟩
  subst e1 e2
  simp [ops6, execOp, resolve, invoke, builtin, Act.eval, hrun, Result.andThen]
theorem run7 (h : w.ownsRow n2 119 2 u m ys) (e1 : t16 = u) {g : Nat} (e2 : t18 = .slice (some ⟨g, 0, none⟩) 1 1) (hb : w.heap[g]? = some (.cells #[.int .i64 yf, .int .i64 yp] 119 (0, 0))) (hk : m ≤ 1048576) (hn : n2 ≤ w.heap.size) :
    ∃ v' w', (execOp (fr c d f s q x yf yp t12 t13 t14 t15 t16 t17 t18 t19).eval ops6[7]).run Tryz.prog w = .ok (.value v') w' ∧ w'.ownsRow n2 119 2 v' (m + 1) (ys ++ [.int .i64 yf, .int .i64 yp]) ∧ w.grownBy w' u.ownBlock := by
  obtain ⟨i1, hI1, hz0, hz1, hz2⟩ := info_parts Tryz.infoEdg
  obtain ⟨v', w', hrun, r1, r2, _⟩ := run_append_own (P := Tryz.prog) w n2 93 93 119 i1 (.agg #[.int .i64 0, .int .i64 0]) 2 16 Tryz.underlying93 hI1 hz0 hz1 hz2 rfl (by decide) u m ys h ⟨g, 0, none⟩ 1 1 [.int .i64 yf, .int .i64 yp] rfl (World.news_of_block hb) (by simp [Value.oneCell']) (by unfold maxLen; omega) (by omega) hn
  refine ⟨v', w', ?_, r1, r2⟩
  subst e1 e2
  simp [ops6, execOp, resolve, invoke, builtin, Act.eval, hrun, Result.andThen]

theorem no_left {b : Bool} (h : (!b).toNat = 0) : b = true := by cases b <;> simp_all

set_option maxHeartbeats 4000000 in
theorem region6 (hk : k ≤ 1048576) (hm : m ≤ 1048576)
    (hdone : ∀ (t12 t13 t14 t15 t16 t17 t18 t19 : Value) (w : World), Inv V W s n2 k m q v u xs ys x yf yp true true true true true true true true true true t12 t13 t14 t15 t16 t17 t18 t19 w → Q .normal (fr c d f s q x yf yp t12 t13 t14 t15 t16 t17 t18 t19) w) :
    ∀ (fuel : Nat) (b0 b1 b2 b3 b4 b5 b6 b7 b8 b9 : Bool) (t12 t13 t14 t15 t16 t17 t18 t19 : Value) (w : World), (!b0).toNat + (!b1).toNat + (!b2).toNat + (!b3).toNat + (!b4).toNat + (!b5).toNat + (!b6).toNat + (!b7).toNat + (!b8).toNat + (!b9).toNat ≤ fuel → Inv V W s n2 k m q v u xs ys x yf yp b0 b1 b2 b3 b4 b5 b6 b7 b8 b9 t12 t13 t14 t15 t16 t17 t18 t19 w →
      wpAnyIn (Fence.wide.inRound l) N Tryz.prog .any ops6 Q fuel #[b0, b1, b2, b3, b4, b5, b6, b7, b8, b9] (fr c d f s q x yf yp t12 t13 t14 t15 t16 t17 t18 t19) w := by
  intro fuel
  induction fuel with
  | zero =>
    intro b0 b1 b2 b3 b4 b5 b6 b7 b8 b9 t12 t13 t14 t15 t16 t17 t18 t19 w hc h
    obtain rfl : b0 = true := no_left (by omega)
    obtain rfl : b1 = true := no_left (by omega)
    obtain rfl : b2 = true := no_left (by omega)
    obtain rfl : b3 = true := no_left (by omega)
    obtain rfl : b4 = true := no_left (by omega)
    obtain rfl : b5 = true := no_left (by omega)
    obtain rfl : b6 = true := no_left (by omega)
    obtain rfl : b7 = true := no_left (by omega)
    obtain rfl : b8 = true := no_left (by omega)
    obtain rfl : b9 = true := no_left (by omega)
    exact ⟨by kernel_rfl, hdone _ _ _ _ _ _ _ _ _ h⟩
  | succ fuel ih =>
    intro b0 b1 b2 b3 b4 b5 b6 b7 b8 b9 t12 t13 t14 t15 t16 t17 t18 t19 w hc h
    refine ⟨fun hr => ?_, fun i hi => ?_⟩
    · suffices hall : b0 = true ∧ b1 = true ∧ b2 = true ∧ b3 = true ∧ b4 = true ∧ b5 = true ∧ b6 = true ∧ b7 = true ∧ b8 = true ∧ b9 = true by
        obtain ⟨rfl, rfl, rfl, rfl, rfl, rfl, rfl, rfl, rfl, rfl⟩ := hall
        exact hdone _ _ _ _ _ _ _ _ _ h
      clear h hc ih hdone
      have a0 : b0 = true := by
        cases hb : b0 with
        | true => rfl
        | false =>
          subst hb
          have hmem : 0 ∈ Region.ready .any ops6 #[false, b1, b2, b3, b4, b5, b6, b7, b8, b9] := mem_ready.2 ⟨rfl, ops6[0], rfl, by simp [ops6]⟩
          rw [hr] at hmem
          cases hmem
      subst a0
      have a1 : b1 = true := by
        cases hb : b1 with
        | true => rfl
        | false =>
          subst hb
          have hmem : 1 ∈ Region.ready .any ops6 #[true, false, b2, b3, b4, b5, b6, b7, b8, b9] := mem_ready.2 ⟨rfl, ops6[1], rfl, by simp [ops6]⟩
          rw [hr] at hmem
          cases hmem
      subst a1
      have a2 : b2 = true := by
        cases hb : b2 with
        | true => rfl
        | false =>
          subst hb
          have hmem : 2 ∈ Region.ready .any ops6 #[true, true, false, b3, b4, b5, b6, b7, b8, b9] := mem_ready.2 ⟨rfl, ops6[2], rfl, by simp [ops6]⟩
          rw [hr] at hmem
          cases hmem
      subst a2
      have a3 : b3 = true := by
        cases hb : b3 with
        | true => rfl
        | false =>
          subst hb
          have hmem : 3 ∈ Region.ready .any ops6 #[true, true, true, false, b4, b5, b6, b7, b8, b9] := mem_ready.2 ⟨rfl, ops6[3], rfl, by simp [ops6]⟩
          rw [hr] at hmem
          cases hmem
      subst a3
      have a4 : b4 = true := by
        cases hb : b4 with
        | true => rfl
        | false =>
          subst hb
          have hmem : 4 ∈ Region.ready .any ops6 #[true, true, true, true, false, b5, b6, b7, b8, b9] := mem_ready.2 ⟨rfl, ops6[4], rfl, by simp [ops6]⟩
          rw [hr] at hmem
          cases hmem
      subst a4
      have a5 : b5 = true := by
        cases hb : b5 with
        | true => rfl
        | false =>
          subst hb
          have hmem : 5 ∈ Region.ready .any ops6 #[true, true, true, true, true, false, b6, b7, b8, b9] := mem_ready.2 ⟨rfl, ops6[5], rfl, by simp [ops6]⟩
          rw [hr] at hmem
          cases hmem
      subst a5
      have a6 : b6 = true := by
        cases hb : b6 with
        | true => rfl
        | false =>
          subst hb
          have hmem : 6 ∈ Region.ready .any ops6 #[true, true, true, true, true, true, false, b7, b8, b9] := mem_ready.2 ⟨rfl, ops6[6], rfl, by simp [ops6]⟩
          rw [hr] at hmem
          cases hmem
      subst a6
      have a7 : b7 = true := by
        cases hb : b7 with
        | true => rfl
        | false =>
          subst hb
          have hmem : 7 ∈ Region.ready .any ops6 #[true, true, true, true, true, true, true, false, b8, b9] := mem_ready.2 ⟨rfl, ops6[7], rfl, by simp [ops6]⟩
          rw [hr] at hmem
          cases hmem
      subst a7
      have a8 : b8 = true := by
        cases hb : b8 with
        | true => rfl
        | false =>
          subst hb
          have hmem : 8 ∈ Region.ready .any ops6 #[true, true, true, true, true, true, true, true, false, b9] := mem_ready.2 ⟨rfl, ops6[8], rfl, by simp [ops6]⟩
          rw [hr] at hmem
          cases hmem
      subst a8
      have a9 : b9 = true := by
        cases hb : b9 with
        | true => rfl
        | false =>
          subst hb
          have hmem : 9 ∈ Region.ready .any ops6 #[true, true, true, true, true, true, true, true, true, false] := mem_ready.2 ⟨rfl, ops6[9], rfl, by simp [ops6]⟩
          rw [hr] at hmem
          cases hmem
      subst a9
      exact ⟨rfl, rfl, rfl, rfl, rfl, rfl, rfl, rfl, rfl, rfl⟩
    · obtain ⟨hun, o, ho, hall⟩ := mem_ready.1 hi
      have hi10 : i < 10 := (Array.getElem?_eq_some_iff.1 ho).1
      rcases (show i = 0 ∨ i = 1 ∨ i = 2 ∨ i = 3 ∨ i = 4 ∨ i = 5 ∨ i = 6 ∨ i = 7 ∨ i = 8 ∨ i = 9 by omega) with rfl | rfl | rfl | rfl | rfl | rfl | rfl | rfl | rfl | rfl
      · obtain rfl : b0 = false := by simpa using hun
        have ho' : ops6[0]? = some ops6[0] := rfl
        rw [ho'] at ho
        cases ho
        have e8 : b8 = false := by cases hb : b8 with | false => rfl | true => have := h.c3 (h.c7 (h.c8 hb)).1; exact absurd this.1 (by simp)
        exact step_move rfl rfl (by intro c h; cases h) (run0 (h.x1 e8)) (ih _ _ _ _ _ _ _ _ _ _ _ _ _ _ _ _ _ _ _ (by simp only [Bool.not_true, Bool.not_false, Bool.toNat_true, Bool.toNat_false] at hc ⊢; omega) h.set0)
      · obtain rfl : b1 = false := by simpa using hun
        have ho' : ops6[1]? = some ops6[1] := rfl
        rw [ho'] at ho
        cases ho
        exact step_move rfl rfl (by intro c h; cases h) run1 (ih _ _ _ _ _ _ _ _ _ _ _ _ _ _ _ _ _ _ _ (by simp only [Bool.not_true, Bool.not_false, Bool.toNat_true, Bool.toNat_false] at hc ⊢; omega) h.set1)
      · obtain rfl : b2 = false := by simpa using hun
        have ho' : ops6[2]? = some ops6[2] := rfl
        rw [ho'] at ho
        cases ho
        have p1 : b1 = true := by have := hall ⟨1, .data⟩ (by simp [ops6]) rfl; simpa using this
        exact step_move rfl rfl (by intro c h; cases h) (run2 (h.s13 p1)) (ih _ _ _ _ _ _ _ _ _ _ _ _ _ _ _ _ _ _ _ (by simp only [Bool.not_true, Bool.not_false, Bool.toNat_true, Bool.toNat_false] at hc ⊢; omega) h.set2)
      · obtain rfl : b3 = false := by simpa using hun
        have ho' : ops6[3]? = some ops6[3] := rfl
        rw [ho'] at ho
        cases ho
        have p0 : b0 = true := by have := hall ⟨0, .data⟩ (by simp [ops6]) rfl; simpa using this
        have p2 : b2 = true := by have := hall ⟨2, .data⟩ (by simp [ops6]) rfl; simpa using this
        obtain ⟨g, e14, hbx⟩ := h.s14 p2 rfl
        obtain ⟨v', w', hrun, hown, hgr⟩ := run3 (c := c) (d := d) (f := f) (s := s) (q := q) (yf := yf) (yp := yp) (t13 := t13) (t15 := t15) (t16 := t16) (t17 := t17) (t18 := t18) (t19 := t19) (h.r1 rfl) (h.s12 p0) e14 hbx hk h.sz
        exact step_move rfl rfl (by intro c h; cases h) hrun (ih _ _ _ _ _ _ _ _ _ _ _ _ _ _ _ _ _ _ _ (by simp only [Bool.not_true, Bool.not_false, Bool.toNat_true, Bool.toNat_false] at hc ⊢; omega) (h.set3 p0 p2 hown hgr))
      · obtain rfl : b4 = false := by simpa using hun
        have ho' : ops6[4]? = some ops6[4] := rfl
        rw [ho'] at ho
        cases ho
        have e9 : b9 = false := by cases hb : b9 with | false => rfl | true => have := (h.c7 (h.c8 (h.c9 hb))).2.1; exact absurd this (by simp)
        exact step_move rfl rfl (by intro c h; cases h) (run4 (h.x2 e9)) (ih _ _ _ _ _ _ _ _ _ _ _ _ _ _ _ _ _ _ _ (by simp only [Bool.not_true, Bool.not_false, Bool.toNat_true, Bool.toNat_false] at hc ⊢; omega) h.set4)
      · obtain rfl : b5 = false := by simpa using hun
        have ho' : ops6[5]? = some ops6[5] := rfl
        rw [ho'] at ho
        cases ho
        exact step_move rfl rfl (by intro c h; cases h) (run5 (h.eb (by cases hb : b7 with | false => rfl | true => exact absurd ((h.c7 hb).2.2) (by intro e6; exact absurd (h.c56 e6) (by simp))))) (ih _ _ _ _ _ _ _ _ _ _ _ _ _ _ _ _ _ _ _ (by simp only [Bool.not_true, Bool.not_false, Bool.toNat_true, Bool.toNat_false] at hc ⊢; omega) h.set5)
      · obtain rfl : b6 = false := by simpa using hun
        have ho' : ops6[6]? = some ops6[6] := rfl
        rw [ho'] at ho
        cases ho
        have p5 : b5 = true := by have := hall ⟨5, .data⟩ (by simp [ops6]) rfl; simpa using this
        exact step_move rfl rfl (by intro c h; cases h) (run6 (h.s17 p5)) (ih _ _ _ _ _ _ _ _ _ _ _ _ _ _ _ _ _ _ _ (by simp only [Bool.not_true, Bool.not_false, Bool.toNat_true, Bool.toNat_false] at hc ⊢; omega) (Inv.set6 p5 h))
      · obtain rfl : b7 = false := by simpa using hun
        have ho' : ops6[7]? = some ops6[7] := rfl
        rw [ho'] at ho
        cases ho
        have p4 : b4 = true := by have := hall ⟨4, .data⟩ (by simp [ops6]) rfl; simpa using this
        have p6 : b6 = true := by have := hall ⟨6, .data⟩ (by simp [ops6]) rfl; simpa using this
        have p3 : b3 = true := by have := hall ⟨3, .chain⟩ (by simp [ops6]) rfl; simpa using this
        obtain ⟨g, e18, hbx⟩ := h.s18 p6 rfl
        obtain ⟨v', w', hrun, hown, hgr⟩ := run7 (c := c) (d := d) (f := f) (s := s) (q := q) (x := x) (t12 := t12) (t13 := t13) (t14 := t14) (t15 := t15) (t17 := t17) (t19 := t19) (h.r2 rfl) (h.s16 p4) e18 hbx hm h.sz
        exact step_move rfl rfl (by intro c h; cases h) hrun (ih _ _ _ _ _ _ _ _ _ _ _ _ _ _ _ _ _ _ _ (by simp only [Bool.not_true, Bool.not_false, Bool.toNat_true, Bool.toNat_false] at hc ⊢; omega) (h.set7 p3 p4 p6 hown hgr))
      · obtain rfl : b8 = false := by simpa using hun
        have ho' : ops6[8]? = some ops6[8] := rfl
        rw [ho'] at ho
        cases ho
        have p7 : b7 = true := by have := hall ⟨7, .chain⟩ (by simp [ops6]) rfl; simpa using this
        obtain ⟨g, cap, e15, _⟩ := h.r1' (h.c7 p7).1
        exact step_skip rfl rfl (by intro c h; cases h) (run8 (h.x1 rfl) e15) (ih _ _ _ _ _ _ _ _ _ _ _ _ _ _ _ _ _ _ _ (by simp only [Bool.not_true, Bool.not_false, Bool.toNat_true, Bool.toNat_false] at hc ⊢; omega) (h.set8 p7))
      · obtain rfl : b9 = false := by simpa using hun
        have ho' : ops6[9]? = some ops6[9] := rfl
        rw [ho'] at ho
        cases ho
        have p8 : b8 = true := by have := hall ⟨8, .chain⟩ (by simp [ops6]) rfl; simpa using this
        obtain ⟨g, cap, e19, _⟩ := h.r2' (h.c8 p8)
        exact step_skip rfl rfl (by intro c h; cases h) (run9 (h.x2 rfl) e19) (ih _ _ _ _ _ _ _ _ _ _ _ _ _ _ _ _ _ _ _ (by simp only [Bool.not_true, Bool.not_false, Bool.toNat_true, Bool.toNat_false] at hc ⊢; omega) (h.set9 p8))

end
end Go.Proofs.YtlfipmieaabagaaGreat
