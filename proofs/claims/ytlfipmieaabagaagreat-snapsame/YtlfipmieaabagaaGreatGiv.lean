/-
  What one round of the statements' function 'edges' holds while 'at, l = append(at, n), append(l, e)' is carried out, in whatever order its operations come up: an invariant, and that each operation keeps it. No condition; no function of the program is named here.
-/
import Derived.Test.YtlfipmieaabagaaGreatGit
import Derived.Test.YtlfipmieaabagaaGreatSeg
namespace Go.Proofs.YtlfipmieaabagaaGreat
open Go.RowKit Go.Shelf

theorem row_succ {w : World} {base k sz : Nat} {e : TypeId} {v : Value} {xs : List Value} (h : w.ownsRow base e sz v (k + 1) xs) : ∃ g cap, v = .slice (some ⟨g, 0, none⟩) (k + 1) cap := by
  rcases h.2 with ⟨_, h0⟩ | ⟨g, cap, cur, rfl, _⟩
  · omega
  · exact ⟨g, cap, rfl⟩
theorem rows_other {w : World} {b1 b2 n1 n2 k1 k2 : Nat} {e1 e2 : TypeId} {v1 v2 : Value} {xs ys : List Value} (h1 : w.ownsRow b1 e1 k1 v1 n1 xs) (h2 : w.ownsRow b2 e2 k2 v2 n2 ys) (hne : e1 ≠ e2) : v1.ownBlock = none ∨ v1.ownBlock ≠ v2.ownBlock := by
  cases hb : v1.ownBlock with
  | none => exact .inl rfl
  | some b =>
    refine .inr (fun e => ?_)
    obtain ⟨_, c1, q1⟩ := own_block_lt h1 hb
    obtain ⟨_, c2, q2⟩ := own_block_lt h2 e.symm
    rw [q1] at q2
    simp at q2
    exact hne q2.2
/-- b: which of the ten operations have come up; t: the slots that they write. The loop's variables lie in the blocks s and s + 1; what they hold at first (v, u) owns so many elements from block n2 on; the loop's own variable e lies in the block q. -/
structure Inv (V W : World) (s n2 k m q : Nat) (v u : Value) (xs ys : List Value) (x yf yp : Int) (b0 b1 b2 b3 b4 b5 b6 b7 b8 b9 : Bool) (t12 t13 t14 t15 t16 t17 t18 t19 : Value) (w : World) : Prop where
  c3 : b3 = true → b0 = true ∧ b2 = true
  c7 : b7 = true → b3 = true ∧ b4 = true ∧ b6 = true
  c8 : b8 = true → b7 = true
  c56 : b6 = true → b5 = true
  c9 : b9 = true → b8 = true
  s12 : b0 = true → t12 = v
  s13 : b1 = true → t13 = .int .i64 x
  s14 : b2 = true → b3 = false → ∃ g, t14 = .slice (some ⟨g, 0, none⟩) 1 1 ∧ Boxed w g 3 (.int .i64 x)
  r1 : b3 = false → w.ownsRow n2 3 1 v k xs
  r1' : b3 = true → ∃ g cap, t15 = .slice (some ⟨g, 0, none⟩) (k + 1) cap ∧ w.ownsRow n2 3 1 t15 (k + 1) (xs ++ [.int .i64 x])
  s16 : b4 = true → t16 = u
  s17 : b5 = true → t17 = .agg #[.int .i64 yf, .int .i64 yp]
  s18 : b6 = true → b7 = false → ∃ g, t18 = .slice (some ⟨g, 0, none⟩) 1 1 ∧ w.heap[g]? = some (.cells #[.int .i64 yf, .int .i64 yp] 119 (0, 0))
  r2 : b7 = false → w.ownsRow n2 119 2 u m ys
  r2' : b7 = true → ∃ g cap, t19 = .slice (some ⟨g, 0, none⟩) (m + 1) cap ∧ w.ownsRow n2 119 2 t19 (m + 1) (ys ++ [.int .i64 yf, .int .i64 yp])
  x1 : b8 = false → Boxed w s 88 v
  x1' : b8 = true → Boxed w s 88 t15
  x2 : b9 = false → Boxed w (s + 1) 93 u
  x2' : b9 = true → Boxed w (s + 1) 93 t19
  keep : KeepsFrom n2 W w
  eb : b7 = false → w.heap[q]? = some (.cells #[.int .i64 yf, .int .i64 yp] 119 (0, 0))
  only : Only (fun i => i = s ∨ i = s + 1) V w
  vsz : V.heap.size = n2
  low : s + 2 ≤ n2
  sz : n2 ≤ w.heap.size

section
variable {V W w w' : World} {s n2 k m q : Nat} {v u : Value} {xs ys : List Value} {x yf yp : Int} {b0 b1 b2 b3 b4 b5 b6 b7 b8 b9 : Bool} {t12 t13 t14 t15 t16 t17 t18 t19 : Value}

theorem Inv.set0 (h : Inv V W s n2 k m q v u xs ys x yf yp b0 b1 b2 b3 b4 b5 b6 b7 b8 b9 t12 t13 t14 t15 t16 t17 t18 t19 w) : Inv V W s n2 k m q v u xs ys x yf yp true b1 b2 b3 b4 b5 b6 b7 b8 b9 v t13 t14 t15 t16 t17 t18 t19 w :=
  { h with c3 := fun e => ⟨rfl, (h.c3 e).2⟩, s12 := fun _ => rfl }
theorem Inv.set1 (h : Inv V W s n2 k m q v u xs ys x yf yp b0 b1 b2 b3 b4 b5 b6 b7 b8 b9 t12 t13 t14 t15 t16 t17 t18 t19 w) : Inv V W s n2 k m q v u xs ys x yf yp b0 true b2 b3 b4 b5 b6 b7 b8 b9 t12 (.int .i64 x) t14 t15 t16 t17 t18 t19 w :=
  { h with s13 := fun _ => rfl }
theorem Inv.set4 (h : Inv V W s n2 k m q v u xs ys x yf yp b0 b1 b2 b3 b4 b5 b6 b7 b8 b9 t12 t13 t14 t15 t16 t17 t18 t19 w) : Inv V W s n2 k m q v u xs ys x yf yp b0 b1 b2 b3 true b5 b6 b7 b8 b9 t12 t13 t14 t15 u t17 t18 t19 w :=
  { h with c7 := fun e => ⟨(h.c7 e).1, rfl, (h.c7 e).2.2⟩, s16 := fun _ => rfl }
theorem Inv.set5 (h : Inv V W s n2 k m q v u xs ys x yf yp b0 b1 b2 b3 b4 b5 b6 b7 b8 b9 t12 t13 t14 t15 t16 t17 t18 t19 w) : Inv V W s n2 k m q v u xs ys x yf yp b0 b1 b2 b3 b4 true b6 b7 b8 b9 t12 t13 t14 t15 t16 (.agg #[.int .i64 yf, .int .i64 yp]) t18 t19 w :=
  { h with s17 := fun _ => rfl, c56 := fun _ => rfl }

/-- A new block of cells. -/
theorem Inv.alloc (h : Inv V W s n2 k m q v u xs ys x yf yp b0 b1 b2 b3 b4 b5 b6 b7 b8 b9 t12 t13 t14 t15 t16 t17 t18 t19 w) (o : Obj) : Inv V W s n2 k m q v u xs ys x yf yp b0 b1 b2 b3 b4 b5 b6 b7 b8 b9 t12 t13 t14 t15 t16 t17 t18 t19 (w.alloc o) :=
  { h with
    s14 := fun e f => by obtain ⟨g, e1, e2⟩ := h.s14 e f; exact ⟨g, e1, e2.alloc _⟩
    r1 := fun e => (h.r1 e).alloc _
    r1' := fun e => by obtain ⟨g, cap, e1, e2⟩ := h.r1' e; exact ⟨g, cap, e1, e2.alloc _⟩
    s18 := fun e f => by obtain ⟨g, e1, e2⟩ := h.s18 e f; exact ⟨g, e1, below_box (alloc_below _ _) e2⟩
    r2 := fun e => (h.r2 e).alloc _
    r2' := fun e => by obtain ⟨g, cap, e1, e2⟩ := h.r2' e; exact ⟨g, cap, e1, e2.alloc _⟩
    eb := fun e => below_box (alloc_below _ _) (h.eb e)
    x1 := fun e => (h.x1 e).alloc _
    x1' := fun e => (h.x1' e).alloc _
    x2 := fun e => (h.x2 e).alloc _
    x2' := fun e => (h.x2' e).alloc _
    keep := h.keep.trans ((KeepsOthers.alloc w o).from _)
    only := h.only.trans (Only.alloc _ _ _)
    sz := by have := h.sz; simp; omega }

theorem Inv.set2 (h : Inv V W s n2 k m q v u xs ys x yf yp b0 b1 b2 b3 b4 b5 b6 b7 b8 b9 t12 t13 t14 t15 t16 t17 t18 t19 w) :
    Inv V W s n2 k m q v u xs ys x yf yp b0 b1 true b3 b4 b5 b6 b7 b8 b9 t12 t13 (.slice (some ⟨w.heap.size, 0, none⟩) 1 1) t15 t16 t17 t18 t19 (w.alloc (.cells #[.int .i64 x] 3)) :=
  let h' := h.alloc (.cells #[.int .i64 x] 3)
  { h' with c3 := fun e => ⟨(h.c3 e).1, rfl⟩, s14 := fun _ _ => ⟨w.heap.size, rfl, Boxed.new w _ _⟩ }
theorem Inv.set6 (e5 : b5 = true) (h : Inv V W s n2 k m q v u xs ys x yf yp b0 b1 b2 b3 b4 b5 b6 b7 b8 b9 t12 t13 t14 t15 t16 t17 t18 t19 w) :
    Inv V W s n2 k m q v u xs ys x yf yp b0 b1 b2 b3 b4 b5 true b7 b8 b9 t12 t13 t14 t15 t16 t17 (.slice (some ⟨w.heap.size, 0, none⟩) 1 1) t19 (w.alloc (.cells #[.int .i64 yf, .int .i64 yp] 119)) :=
  let h' := h.alloc (.cells #[.int .i64 yf, .int .i64 yp] 119)
  { h' with c7 := fun e => ⟨(h.c7 e).1, (h.c7 e).2.1, rfl⟩, s18 := fun _ _ => ⟨w.heap.size, rfl, heap_alloc_new w _⟩, c56 := fun _ => e5 }

/-- What is kept where one block of cells, from n2 on or one of the two variables, has turned. -/
theorem keeps_turn {row : Option Nat} (hk : KeepsFrom n2 W w) (ho : Only (fun i => i = s ∨ i = s + 1) V w) (hv : V.heap.size = n2) (hsz : n2 ≤ w.heap.size) (hg : w.grownBy w' row)
    (hr : ∀ r, row = some r → (∃ cs t f, w.heap[r]? = some (.cells cs t f)) ∧ (r = s ∨ r = s + 1 ∨ n2 ≤ r)) : KeepsFrom n2 W w' ∧ Only (fun i => i = s ∨ i = s + 1) V w' ∧ n2 ≤ w'.heap.size := by
  refine ⟨⟨Nat.le_trans hk.size hg.size, fun i o hB hi ho => ?_⟩, ho.step (Only.of_grown (F := fun i => row = some i) hg (fun _ e => e)) (fun i e => ?_), Nat.le_trans hsz hg.size⟩
  · have h1 := hk.same i o hB hi ho
    rw [hg.block i (Array.getElem?_eq_some_iff.1 h1).1 (fun e => by
      obtain ⟨⟨cs, t, f, hc⟩, _⟩ := hr i e.symm
      rw [h1] at hc
      cases hc
      simp [Obj.isCells] at ho)]
    exact h1
  · rcases (hr i e).2 with h | h | h
    · exact .inl (.inl h)
    · exact .inl (.inr h)
    · exact .inr (by omega)
theorem box_kept {g : Nat} {o : Obj} {row : Option Nat} (h : w.heap[g]? = some o) (hg : w.grownBy w' row) (hne : row ≠ some g) : w'.heap[g]? = some o :=
  (hg.block g (Array.getElem?_eq_some_iff.1 h).1 (fun e => hne e.symm)).trans h
theorem box_apart {g base n sz : Nat} {cs : Array Value} {t e : TypeId} {f : Nat × Nat} {v : Value} {xs : List Value} (h : w.heap[g]? = some (.cells cs t f)) (hr : w.ownsRow base e sz v n xs) (hne : t ≠ e) : v.ownBlock ≠ some g := by
  intro hb
  obtain ⟨_, cur, hc⟩ := own_block_lt hr hb
  rw [h] at hc
  simp at hc
  exact hne hc.2.1
theorem own_turn {base n sz : Nat} {e : TypeId} {v : Value} {xs : List Value} (h : w.ownsRow base e sz v n xs) : ∀ r, v.ownBlock = some r → (∃ cs t f, w.heap[r]? = some (.cells cs t f)) ∧ base ≤ r := by
  intro r hr
  rcases h.2 with ⟨rfl, _⟩ | ⟨g, cap, cur, rfl, hb, hg, _⟩
  · simp [Value.ownBlock] at hr
  · simp [Value.ownBlock] at hr
    subst hr
    exact ⟨⟨_, _, _, hg⟩, hb⟩

theorem Inv.set3 (h : Inv V W s n2 k m q v u xs ys x yf yp b0 b1 b2 false b4 b5 b6 b7 b8 b9 t12 t13 t14 t15 t16 t17 t18 t19 w) (e0 : b0 = true) (e2 : b2 = true) {v' : Value} (ho : w'.ownsRow n2 3 1 v' (k + 1) (xs ++ [.int .i64 x])) (hg : w.grownBy w' v.ownBlock) :
    Inv V W s n2 k m q v u xs ys x yf yp b0 b1 b2 true b4 b5 b6 b7 b8 b9 t12 t13 t14 v' t16 t17 t18 t19 w' := by
  have hrow := h.r1 rfl
  have e7 : b7 = false := by cases hb : b7 with | false => rfl | true => have := (h.c7 hb).1; cases this
  subst e7
  have e8 : b8 = false := by cases hb : b8 with | false => rfl | true => have := h.c8 hb; cases this
  subst e8
  have e9 : b9 = false := by cases hb : b9 with | false => rfl | true => have := h.c9 hb; cases this
  subst e9
  obtain ⟨q1, q2, q4⟩ := keeps_turn h.keep h.only h.vsz h.sz hg (fun r hr => ⟨(own_turn hrow r hr).1, .inr (.inr (own_turn hrow r hr).2)⟩)
  obtain ⟨g', cap', rfl⟩ := row_succ ho
  exact { h with
    c3 := fun _ => ⟨e0, e2⟩
    c7 := fun e => by cases e
    s14 := fun _ e => by cases e
    r1 := fun e => by cases e
    r1' := fun _ => ⟨g', cap', rfl, ho⟩
    s18 := fun e f => by obtain ⟨g, h1, h2⟩ := h.s18 e f; exact ⟨g, h1, box_kept h2 hg (box_apart h2 hrow (by decide))⟩
    eb := fun e => box_kept (h.eb e) hg (box_apart (h.eb e) hrow (by decide))
    r2 := fun e => (h.r2 e).kept hg (rows_other (h.r2 e) hrow (by decide))
    r2' := fun e => by cases e
    x1 := fun e => box_kept (h.x1 e) hg (box_apart (h.x1 e) hrow (by decide))
    x1' := fun e => by cases e
    x2 := fun e => box_kept (h.x2 e) hg (box_apart (h.x2 e) hrow (by decide))
    x2' := fun e => by cases e
    keep := q1, only := q2, sz := q4 }

theorem Inv.set7 (h : Inv V W s n2 k m q v u xs ys x yf yp b0 b1 b2 b3 b4 b5 b6 false b8 b9 t12 t13 t14 t15 t16 t17 t18 t19 w) (e3 : b3 = true) (e4 : b4 = true) (e6 : b6 = true) {u' : Value} (ho : w'.ownsRow n2 119 2 u' (m + 1) (ys ++ [.int .i64 yf, .int .i64 yp])) (hg : w.grownBy w' u.ownBlock) :
    Inv V W s n2 k m q v u xs ys x yf yp b0 b1 b2 b3 b4 b5 b6 true b8 b9 t12 t13 t14 t15 t16 t17 t18 u' w' := by
  have hrow := h.r2 rfl
  have e8 : b8 = false := by cases hb : b8 with | false => rfl | true => have := h.c8 hb; cases this
  subst e8
  have e9 : b9 = false := by cases hb : b9 with | false => rfl | true => have := h.c9 hb; cases this
  subst e9
  obtain ⟨q1, q2, q4⟩ := keeps_turn h.keep h.only h.vsz h.sz hg (fun r hr => ⟨(own_turn hrow r hr).1, .inr (.inr (own_turn hrow r hr).2)⟩)
  obtain ⟨g', cap', rfl⟩ := row_succ ho
  exact { h with
    c7 := fun _ => ⟨e3, e4, e6⟩
    c8 := fun e => by cases e
    s14 := fun e f => by obtain ⟨g, h1, h2⟩ := h.s14 e f; exact ⟨g, h1, box_kept h2 hg (box_apart h2 hrow (by decide))⟩
    r1 := fun e => (h.r1 e).kept hg (rows_other (h.r1 e) hrow (by decide))
    r1' := fun e => by obtain ⟨g, cap, h1, h2⟩ := h.r1' e; exact ⟨g, cap, h1, h2.kept hg (rows_other h2 hrow (by decide))⟩
    s18 := fun _ e => by cases e
    eb := fun e => by cases e
    r2 := fun e => by cases e
    r2' := fun _ => ⟨g', cap', rfl, ho⟩
    x1 := fun e => box_kept (h.x1 e) hg (box_apart (h.x1 e) hrow (by decide))
    x1' := fun e => by cases e
    x2 := fun e => box_kept (h.x2 e) hg (box_apart (h.x2 e) hrow (by decide))
    x2' := fun e => by cases e
    keep := q1, only := q2, sz := q4 }

theorem row_box {base n B sz : Nat} {t e : TypeId} {a c : Value} {zs : List Value} (h : w.ownsRow base e sz a n zs) (hb : Boxed w B t c) (hne : t ≠ e) (hg : w.grownBy w' (some B)) : w'.ownsRow base e sz a n zs :=
  h.kept hg (.inr (box_apart hb h hne))

theorem Inv.set8 (h : Inv V W s n2 k m q v u xs ys x yf yp b0 b1 b2 b3 b4 b5 b6 b7 false b9 t12 t13 t14 t15 t16 t17 t18 t19 w) (e7 : b7 = true) :
    Inv V W s n2 k m q v u xs ys x yf yp b0 b1 b2 b3 b4 b5 b6 b7 true b9 t12 t13 t14 t15 t16 t17 t18 t19 (w.setCell ⟨s, 0, none⟩ t15) := by
  have hbx := h.x1 rfl
  subst e7
  obtain ⟨rfl, _, _⟩ := h.c7 rfl
  have e9 : b9 = false := by cases hb : b9 with | false => rfl | true => have := h.c9 hb; cases this
  subst e9
  have hg := grownBy_setCell' w s t15
  obtain ⟨q1, q2, q4⟩ := keeps_turn h.keep h.only h.vsz h.sz hg (fun r hr => by cases hr; exact ⟨⟨_, _, _, hbx⟩, .inl rfl⟩)
  exact { h with
    c8 := fun _ => rfl
    c9 := fun e => by cases e
    s14 := fun _ e => by cases e
    r1 := fun e => by cases e
    r1' := fun e => by obtain ⟨g, cap, h1, h2⟩ := h.r1' e; exact ⟨g, cap, h1, row_box h2 hbx (by decide) hg⟩
    s18 := fun _ e => by cases e
    eb := fun e => by cases e
    r2 := fun e => by cases e
    r2' := fun e => by obtain ⟨g, cap, h1, h2⟩ := h.r2' e; exact ⟨g, cap, h1, row_box h2 hbx (by decide) hg⟩
    x1 := fun e => by cases e
    x1' := fun _ => hbx.set t15
    x2 := fun e => (h.x2 e).kept hg (by simp)
    x2' := fun e => by cases e
    keep := q1, only := q2, sz := q4 }

theorem Inv.set9 (h : Inv V W s n2 k m q v u xs ys x yf yp b0 b1 b2 b3 b4 b5 b6 b7 b8 false t12 t13 t14 t15 t16 t17 t18 t19 w) (e8 : b8 = true) :
    Inv V W s n2 k m q v u xs ys x yf yp b0 b1 b2 b3 b4 b5 b6 b7 b8 true t12 t13 t14 t15 t16 t17 t18 t19 (w.setCell ⟨s + 1, 0, none⟩ t19) := by
  have hbx := h.x2 rfl
  subst e8
  have e7 := h.c8 rfl
  subst e7
  obtain ⟨rfl, _, _⟩ := h.c7 rfl
  have hg := grownBy_setCell' w (s + 1) t19
  obtain ⟨q1, q2, q4⟩ := keeps_turn h.keep h.only h.vsz h.sz hg (fun r hr => by cases hr; exact ⟨⟨_, _, _, hbx⟩, .inr (.inl rfl)⟩)
  exact { h with
    c9 := fun _ => rfl
    s14 := fun _ e => by cases e
    r1 := fun e => by cases e
    r1' := fun e => by obtain ⟨g, cap, h1, h2⟩ := h.r1' e; exact ⟨g, cap, h1, row_box h2 hbx (by decide) hg⟩
    s18 := fun _ e => by cases e
    eb := fun e => by cases e
    r2 := fun e => by cases e
    r2' := fun e => by obtain ⟨g, cap, h1, h2⟩ := h.r2' e; exact ⟨g, cap, h1, row_box h2 hbx (by decide) hg⟩
    x1 := fun e => by cases e
    x1' := fun e => (h.x1' e).kept hg (by simp)
    x2 := fun e => by cases e
    x2' := fun _ => hbx.set t19
    keep := q1, only := q2, sz := q4 }
end

end Go.Proofs.YtlfipmieaabagaaGreat
