/-
  EdgeOrder: first in, first out: what was taken, and what there is, are together what was put and not refused, in order. No condition.
-/
import Derived.Test.YtmmdgffgnpnmeaaEfr
namespace Go.Proofs.Ytmmdgffgnpnmeaa
open Go.RowKit Go.Shelf

/-- append, at a plain operation: where the row lies then. -/
theorem append_at {P : Program} (w : World) {ops : Array Oper} {rest : List Oper} {o : Oper} {a : Act} {Q : Exit → Act → World → Prop} (hgd : o.guard = none) (s x : Operand) (t : TypeId)
    (ho : o.op = .call { callee := .builtin .append, args := #[s, x], argTypes := #[t, t] })
    (base : Nat) (e : TypeId) (i : TypeInfo) (z : Value) (size bytes : Nat) (ht : P.underlying t = some (.slice e)) (hi : P.info? e = some i) (hz : i.zero = some z)
    (hsize : i.size = size) (hby : i.bytes = bytes) (hzs : z.cells.size = size) (hsz : 0 < size)
    (v : Value) (n : Nat) (xs : List Value) (hs : a.eval s = v) (hown : w.ownsRow base e size v n xs)
    (ad : Addr) (m c : Nat) (news : List Value) (hx : a.eval x = .slice (some ad) m c) (hl : news.length = m * size) (hnews : ∀ j u, news[j]? = some u → w.cell? (ad.add j) = some u) (h1 : ∀ u ∈ news, u.oneCell' = true) (h63 : n + m ≤ maxLen) (hbytes : (n + m) * bytes ≤ 140737488355328) (hbase : base ≤ w.heap.size)
    (h : ∀ p' c' w', w'.ownsRow base e size (.slice p' (n + m) c') (n + m) (xs ++ news) → w.grownBy w' v.ownBlock → ((Value.slice p' (n + m) c').ownBlock = v.ownBlock ∨ (Value.slice p' (n + m) c').ownBlock = some w.heap.size) → wpList P ops Q rest (a.put o.dst (.slice p' (n + m) c')) w') : wpList P ops Q (o :: rest) a w := by
  refine wpList_plain hgd fun K hK => ?_
  obtain ⟨v', w', hr, h2, h3, _, h4⟩ := run_append_own_at (P := P) w base t o.type e i z size bytes ht hi hz hsize hby hzs hsz v n xs hown ad m c news hl hnews h1 h63 hbytes hbase
  obtain ⟨p', c', rfl, _, _⟩ := own_form h2
  unfold Oper.wp execOp
  simp only [ho, resolve, invoke, builtin, Sem.run_bind, Sem.run_pure, Result.andThen_ok, List.map_toArray, List.map_cons, List.map_nil, hs, hx, hr]
  exact hK _ _ (h p' c' w' h2 h3 h4)
/-- append, at a guarded operation that is wanted. -/
theorem append_wanted {P : Program} (w : World) {ops : Array Oper} {rest : List Oper} {o : Oper} {a : Act} {Q : Exit → Act → World → Prop} (hw : Region.wanted o (yielded ops a.tmps) = true) (s x : Operand) (t : TypeId)
    (ho : o.op = .call { callee := .builtin .append, args := #[s, x], argTypes := #[t, t] })
    (base : Nat) (e : TypeId) (i : TypeInfo) (z : Value) (size bytes : Nat) (ht : P.underlying t = some (.slice e)) (hi : P.info? e = some i) (hz : i.zero = some z)
    (hsize : i.size = size) (hby : i.bytes = bytes) (hzs : z.cells.size = size) (hsz : 0 < size)
    (v : Value) (n : Nat) (xs : List Value) (hs : a.eval s = v) (hown : w.ownsRow base e size v n xs)
    (vx : Value) (m : Nat) (news : List Value) (hx : a.eval x = vx) (hseg : Seg w size vx m news) (h63 : n + m ≤ maxLen) (hbytes : (n + m) * bytes ≤ 140737488355328) (hbase : base ≤ w.heap.size)
    (h : ∀ p' c' w', w'.ownsRow base e size (.slice p' (n + m) c') (n + m) (xs ++ news) → w.grownBy w' v.ownBlock → wpList P ops Q rest (a.put o.dst (.slice p' (n + m) c')) w') : wpList P ops Q (o :: rest) a w :=
  wpList_step fun K hK => by
    rw [if_pos hw]
    exact wp_append_cells w s x t ho base e i z size bytes ht hi hz hsize hby hzs hsz v n xs hs hown vx m news hx hseg h63 hbytes hbase fun p' c' w' h2 h3 => hK _ _ (h p' c' w' h2 h3)
/-- The queue, and the two lists: what was put, what was taken; all apart. -/
structure Thr (B : Nat) (W : World) (b : Nat) (p : Option Addr) (c : Nat) (q : QC) (v8 v9 : Value) (m8 m9 : Nat) (puts took : List EV) : Prop where
  pq : PQ B W b p c q
  r8 : W.ownsRow B 34 4 v8 m8 (puts.flatMap EV.cells)
  r9 : W.ownsRow B 34 4 v9 m9 (took.flatMap EV.cells)
  a8 : ∀ i, v8.ownBlock = some i → ¬ PQ.at b p i
  a9 : ∀ i, v9.ownBlock = some i → ¬ PQ.at b p i
  a89 : ∀ i, v8.ownBlock = some i → v9.ownBlock ≠ some i
variable {B : Nat} {W w' : World} {b : Nat} {p : Option Addr} {c : Nat} {q q' : QC} {v8 v9 : Value} {m8 m9 : Nat} {puts took : List EV}
theorem Thr.later (h : Thr B W b p c q v8 v9 m8 m9 puts took) (hb : Below W.heap.size W w') : Thr B w' b p c q v8 v9 m8 m9 puts took :=
  ⟨h.pq.later hb, ownsRow_later h.r8 hb, ownsRow_later h.r9 hb, h.a8, h.a9, h.a89⟩
theorem Thr.size (h : Thr B W b p c q v8 v9 m8 m9 puts took) : B ≤ W.heap.size := by have := h.pq.ge; have := (Array.getElem?_eq_some_iff.1 h.pq.box).1; omega
theorem Thr.put (h : Thr B W b p c q v8 v9 m8 m9 puts took) (hp : Put B W w' b p q') : ∃ p' c', Thr B w' b p' c' q' v8 v9 m8 m9 puts took := by
  obtain ⟨p', c', hq, hw⟩ := hp.is
  have hnew : ∀ i, PQ.at b p' i → PQ.at b p i ∨ W.heap.size ≤ i := by
    rintro i (rfl | ⟨a, e, rfl⟩)
    · exact .inl (.inl rfl)
    · rcases hw a e with ⟨a0, e0, e1⟩ | h1
      · exact .inl (.inr ⟨a0, e0, e1⟩)
      · exact .inr h1
  refine ⟨p', c', hq, ownsRow_only h.r8 hp.only (fun i hi e => h.a8 i hi e), ownsRow_only h.r9 hp.only (fun i hi e => h.a9 i hi e), fun i hi e => ?_, fun i hi e => ?_, h.a89⟩
  · rcases hnew i e with h1 | h1
    · exact h.a8 i hi h1
    · have := (own_block_lt h.r8 hi).1; omega
  · rcases hnew i e with h1 | h1
    · exact h.a9 i hi h1
    · have := (own_block_lt h.r9 hi).1; omega
theorem own_at (h : PQ B W b p c q) {i : Nat} (hi : PQ.at b p i) : i < W.heap.size := (h.ges hi).2
theorem Thr.app8 (h : Thr B W b p c q v8 v9 m8 m9 puts took) {V : World} (hV : Below W.heap.size W V) {v8' : Value} {m8' : Nat} {puts' : List EV} (o : w'.ownsRow B 34 4 v8' m8' (puts'.flatMap EV.cells)) (g : V.grownBy w' v8.ownBlock) (k : v8'.ownBlock = v8.ownBlock ∨ v8'.ownBlock = some V.heap.size) : Thr B w' b p c q v8' v9 m8' m9 puts' took := by
  have hs := hV.size
  have ho : Only (fun i => v8.ownBlock = some i) W w' := (Only.fresh hV _).trans (Only.of_grown g (fun _ e => e))
  refine ⟨h.pq.only ho (fun i hi e => h.a8 i e hi), o, ownsRow_only h.r9 ho (fun i hi e => h.a89 i e hi), fun i hi e => ?_, h.a9, fun i hi e => ?_⟩
  · rcases k with k | k
    · exact h.a8 i (k.symm.trans hi) e
    · have h1 : V.heap.size = i := by rw [k] at hi; simpa using hi
      have := own_at h.pq e; omega
  · rcases k with k | k
    · exact h.a89 i (k.symm.trans hi) e
    · have h1 : V.heap.size = i := by rw [k] at hi; simpa using hi
      have := (own_block_lt h.r9 e).1; omega
theorem Thr.app9 (h : Thr B W b p c q v8 v9 m8 m9 puts took) {V : World} (hV : Below W.heap.size W V) {v9' : Value} {m9' : Nat} {took' : List EV} (o : w'.ownsRow B 34 4 v9' m9' (took'.flatMap EV.cells)) (g : V.grownBy w' v9.ownBlock) (k : v9'.ownBlock = v9.ownBlock ∨ v9'.ownBlock = some V.heap.size) : Thr B w' b p c q v8 v9' m8 m9' puts took' := by
  have hs := hV.size
  have ho : Only (fun i => v9.ownBlock = some i) W w' := (Only.fresh hV _).trans (Only.of_grown g (fun _ e => e))
  refine ⟨h.pq.only ho (fun i hi e => h.a9 i e hi), ownsRow_only h.r8 ho (fun i hi e => h.a89 i hi e), o, h.a8, fun i hi e => ?_, fun i hi e => ?_⟩
  · rcases k with k | k
    · exact h.a9 i (k.symm.trans hi) e
    · have h1 : V.heap.size = i := by rw [k] at hi; simpa using hi
      have := own_at h.pq e; omega
  · rcases k with k | k
    · exact h.a89 i hi (k.symm.trans e)
    · have h1 : V.heap.size = i := by rw [k] at e; simpa using e
      have := (own_block_lt h.r8 hi).1; omega
/-- What a round of EdgeOrder keeps. -/
def OrI (B : Nat) (W : World) (n0 b : Nat) (wr : World) (v8 v9 : Value) (m8 m9 k : Nat) : Prop := ∃ p c q puts took, Thr B wr b p c q v8 v9 m8 m9 puts took ∧ q.ok ∧ q.room = n0 ∧ puts = took ++ q.evs ∧ puts.length = m8 ∧ took.length = m9 ∧ m8 ≤ k ∧ m9 ≤ k ∧ Below B W wr
theorem any_yes {q : QC} (h : q.any = true) : q.evs = q.first :: q.rest.evs := by
  obtain ⟨room, evs, last⟩ := q
  cases evs with
  | nil => simp [QC.any] at h
  | cons x xs => rfl
theorem any_no {q : QC} (h : q.any = false) : q.evs = [] ∧ q.rest.evs = [] := by
  obtain ⟨room, evs, last⟩ := q
  cases evs with
  | nil => exact ⟨rfl, rfl⟩
  | cons x xs => simp [QC.any] at h
theorem put_yes {q : QC} {x : EV} (h : q.err x = 0) : (q.put x).evs = q.evs ++ [x] ∧ (q.put x).room = q.room := by unfold QC.put; rw [if_pos h]; exact ⟨rfl, rfl⟩
theorem put_no {q : QC} {x : EV} (h : q.err x ≠ 0) : q.put x = q := by unfold QC.put; rw [if_neg h]
theorem flat_snoc (l : List EV) (x : EV) : (l ++ [x]).flatMap EV.cells = l.flatMap EV.cells ++ x.cells := by simp
set_option maxRecDepth 100000 in
set_option maxHeartbeats 16000000 in
theorem order_walk {W : World} {rm : Int} {lp : Option Addr} {lc n : Nat} {os : List OP} (hr0 : 0 ≤ rm) (hr1 : rm < 256) (hrow : ORow W lp lc os) (hn : os.length = n) (hsz : n * 40 ≤ 140737488351232) :
    Calls Try.prog 5 #[.int .u8 rm, .slice lp n lc] W fun e w' => e = .returned (.bool true) ∧ Below W.heap.size W w' := by
  obtain ⟨i0, hI0, hz0, hz1, hz2⟩ := info_parts Try.infoEv
  have i1 := hrow.le
  have i2 := hrow.top
  rw [hn] at i1
  have HROW := hide hrow
  have HN := hide hn
  clear hrow hn
  obtain ⟨B, hB⟩ : ∃ B, W.heap.size = B := ⟨_, rfl⟩
  have HBB := hide hB
  rw [hB]
  clear hB
  obtain ⟨n0, hn0, hn1, hn2⟩ : ∃ n0 : Nat, rm % 64 + 1 = (n0 : Int) ∧ 1 ≤ n0 ∧ n0 ≤ 64 := by
    have h2 := Int.emod_nonneg rm (show (64 : Int) ≠ 0 by decide)
    have h3 := Int.emod_lt_of_pos rm (show (0 : Int) < 64 by decide)
    exact ⟨(rm % 64 + 1).toNat, by omega, by omega, by omega⟩
  go_enter Try.func5, Try.ntmps5
  go_wp2_with fail
  refine live_any.mono ?_
  rintro _ w1 ⟨rfl, b1⟩
  rw [HBB.out] at b1
  have HB1 := hide b1
  have hs1 : B ≤ w1.heap.size := by rw [← HBB.out]; exact HB1.out.size
  clear b1
  go_wp2_with fail
  try rw [hn0]
  clear hn0
  refine (new_good (n := (n0 : Int)) (by omega) (by omega)).mono ?_
  rintro _ w2 ⟨rfl, hw2⟩
  have Q2 : PQ w1.heap.size w2 w1.heap.size none 0 ⟨n0, [], 0⟩ := by rw [hw2]; exact pq_new w1 n0
  have b2 : Below w1.heap.size w1 w2 := by rw [hw2]; exact alloc_below _ _
  have HQ2 := hide (Q2.base hs1)
  have HB2 := hide (Below.step HB1.out b2 hs1)
  obtain ⟨b, hb⟩ : ∃ b, w1.heap.size = b := ⟨_, rfl⟩
  rw [hb] at HQ2 ⊢
  have HDI : Hid (OrI B W n0 b w2 (.slice none 0 0) (.slice none 0 0) 0 0 0) := hide ⟨none, 0, ⟨n0, [], 0⟩, [], [], ⟨HQ2.out, World.ownsRow_nil _ _ _ _, World.ownsRow_nil _ _ _ _, fun i e => by simp [Value.ownBlock] at e, fun i e => by simp [Value.ownBlock] at e, fun i e => by simp [Value.ownBlock] at e⟩, new_ok hn1 hn2, rfl, rfl, rfl, rfl, Nat.le_refl _, Nat.le_refl _, HB2.out⟩
  clear hw2 Q2 b2 hb HB1 HQ2 HB2 hs1
  go_wp2_with fail
  go_loopw [8, 9, 35] (fun i8 i9 i wr => ∃ (k : Nat) (p8 : Option Addr) (c8 m8 : Nat) (p9 : Option Addr) (c9 m9 : Nat), k ≤ n ∧ i8 = .slice p8 m8 c8 ∧ i9 = .slice p9 m9 c9 ∧ i = .int .i64 (k : Int) ∧ Hid (OrI B W n0 b wr (.slice p8 m8 c8) (.slice p9 m9 c9) m8 m9 k)) (fun _ _ i _ => n - (intOf i).toNat)
  case atStart => exact ⟨0, none, 0, 0, none, 0, 0, Nat.zero_le _, rfl, rfl, rfl, HDI⟩
  case round =>
    obtain ⟨k, p8, c8, m8, p9, c9, m9, hk, rfl, rfl, rfl, HI⟩ := hrel
    clear HDI
    obtain ⟨p, c, q, puts, took, T, hok, hrm, heq, hm8, hm9, hk8, hk9, BW⟩ := HI.out
    have HT := hide T
    have HOK := hide hok
    have HRM := hide hrm
    have HEQ := hide heq
    have HM8 := hide hm8
    have HM9 := hide hm9
    have HBW := hide BW
    obtain ⟨_, _, ef8, f81, f82⟩ := own_form T.r8
    simp only [Value.slice.injEq, true_and] at ef8
    obtain ⟨rfl, rfl⟩ := ef8
    obtain ⟨_, _, ef9, f91, f92⟩ := own_form T.r9
    simp only [Value.slice.injEq, true_and] at ef9
    obtain ⟨rfl, rfl⟩ := ef9
    clear T hok hrm heq hm8 hm9 BW HI
    by_cases hlt : k < n
    · have hlt2 : k < os.length := by rw [HN.out]; exact hlt
      obtain ⟨x, hx⟩ : ∃ x, os[k]! = x := ⟨_, rfl⟩
      have BW := HBW.out
      rw [← HBB.out] at BW
      obtain ⟨g, o, rfl, a0, a1, a2, a3, a4, a5⟩ := ORow.at (LRow.below OP.len HROW.out BW) hlt2 hx
      obtain ⟨tk, cl, kd, ky, vl, id⟩ := x
      simp only at a0 a1 a2 a3 a4 a5
      clear hx hlt2 BW
      go_upto_region 11 with fail
      obtain ⟨X0, hX0⟩ : ∃ X0, X0 = wr.alloc (.cells #[.bool tk, .bool cl, .int .i64 kd, .int .i64 ky, .int .i64 vl, .int .i64 id] 36 (0, 0)) := ⟨_, rfl⟩
      rw [← hX0]
      have bX0 : Below wr.heap.size wr X0 := by rw [hX0]; exact alloc_below _ _
      obtain ⟨oB, hoB⟩ : ∃ oB, wr.heap.size = oB := ⟨_, rfl⟩
      have hob : X0.heap[oB]? = some (.cells #[.bool tk, .bool cl, .int .i64 kd, .int .i64 ky, .int .i64 vl, .int .i64 id] 36 (0, 0)) := by rw [hX0, ← hoB]; exact heap_alloc_new wr _
      have HT0 := hide (HT.out.later bX0)
      have HB0 := hide (Below.step HBW.out bX0 HT.out.size)
      have HOL : Hid (∀ i, PQ.at b p i → i < oB) := hide (fun i hi => by rw [← hoB]; exact (HT.out.pq.ges hi).2)
      have HO8 : Hid (∀ i, (Value.slice p8 m8 c8).ownBlock = some i → i < oB) := hide (fun i hi => by rw [← hoB]; exact (own_block_lt HT.out.r8 hi).1)
      have HO9 : Hid (∀ i, (Value.slice p9 m9 c9).ownBlock = some i → i < oB) := hide (fun i hi => by rw [← hoB]; exact (own_block_lt HT.out.r9 hi).1)
      have HOB := hide hob
      rw [hoB]
      clear hX0 bX0 hoB a0 a1 a2 a3 a4 a5 HT HBW
      obtain ⟨s0, s1, s2, s3, s4, s5⟩ := six hob
      clear hob
      cases tk with
      | true =>
        obtain ⟨x, hx⟩ : ∃ x, q.first = x := ⟨_, rfl⟩
        obtain ⟨bb, hbb⟩ : ∃ bb, q.any = bb := ⟨_, rfl⟩
        obtain ⟨k0, k1, k2, k3⟩ := x
        have HX := hide hx
        have HQB := hide hbb
        clear hx hbb
        go_wp2_with fail
        refine (take_any HT0.out.pq).mono ?_
        rw [HX.out, HQB.out]
        simp only [EV.agg]
        rintro _ w1 ⟨rfl, P1⟩
        have hso : oB < w1.heap.size := Nat.lt_of_lt_of_le (Array.getElem?_eq_some_iff.1 HOB.out).1 P1.only.size
        have HOB1 := hide (P1.only.obj HOB.out (fun e => by have := HOL.out _ e; omega))
        obtain ⟨p1, c1, T1⟩ := HT0.out.put P1
        have HT1 := hide T1
        have HB1 := hide (HB0.out.trans (P1.below HT0.out.pq))
        clear P1 T1 HT0 HB0 s0 s1 s2 s3 s4 s5
        go_upto_region 13 with fail
        obtain ⟨X1, hX1⟩ : ∃ X1, X1 = w1.alloc (.cells #[.int .i64 k0, .int .i64 k1, .int .i64 k2, .int .i64 k3] 34 (0, 0)) := ⟨_, rfl⟩
        rw [← hX1]
        have bX1 : Below w1.heap.size w1 X1 := by rw [hX1]; exact alloc_below _ _
        obtain ⟨aB, haB⟩ : ∃ aB, w1.heap.size = aB := ⟨_, rfl⟩
        have hA1 : X1.heap[aB]? = some (.cells #[.int .i64 k0, .int .i64 k1, .int .i64 k2, .int .i64 k3] 34 (0, 0)) := by rw [hX1, ← haB]; exact heap_alloc_new w1 _
        have HTX := hide (HT1.out.later bX1)
        have HBF := hide (Below.step HB1.out bX1 HT1.out.size)
        have HOBF := hide (below_box bX1 HOB1.out)
        have HOKF := hide (QC.rest_ok HOK.out)
        have HRMF : Hid (q.rest.room = n0) := hide HRM.out
        have hxs : oB < X1.heap.size := (Array.getElem?_eq_some_iff.1 HOBF.out).1
        rw [haB]
        obtain ⟨_, _, _, _, d0, d1, d2, d3⟩ := four hA1
        clear hX1 bX1 haB HT1 HB1 HOB1 hso hA1
        cases bb with
        | false =>
          have HTF := HTX
          have HEQF : Hid (puts = took ++ q.rest.evs) := hide (by rw [HEQ.out, (any_no HQB.out).1, (any_no HQB.out).2])
          clear d0 d1 d2 d3
          have hTb := HTF.out.pq.box
          rw [HRMF.out] at hTb
          obtain ⟨L, hL⟩ : ∃ L, q.rest.evs.length = L := ⟨_, rfl⟩
          rw [hL] at hTb
          have hLr : L ≤ n0 := by have := HOKF.out.2.2.1; rw [HRMF.out, hL] at this; exact this
          have HBC : Hid (∀ X, Below X1.heap.size X1 X → Box.Cells X b (n0 : Int) p1 L c1 q.rest.last) := hide (fun X hX => (box_cells hTb).later hX)
          have HSS : Hid (∀ X, Below X1.heap.size X1 X → (X.cell? ⟨oB, 2, none⟩ = some (.int .i64 kd) ∧ X.cell? ⟨oB, 3, none⟩ = some (.int .i64 ky)) ∧ X.cell? ⟨oB, 4, none⟩ = some (.int .i64 vl) ∧ X.cell? ⟨oB, 5, none⟩ = some (.int .i64 id)) := hide (fun X hX => by
            obtain ⟨_, _, s2, s3, s4, s5⟩ := six (below_box hX HOBF.out)
            exact ⟨⟨s2, s3⟩, s4, s5⟩)
          have q1 : decide ((L : Int) > (n0 : Int)) = false := decide_eq_false (by omega)
          have q1b : decide (n0 < L) = false := decide_eq_false (by omega)
          have q1c : decide ((n0 : Int) < (L : Int)) = false := decide_eq_false (by omega)
          have q1d : (L : Int) ≤ (n0 : Int) := by omega
          have qw : IntKind.i64.wrap ((n0 : Int) - (L : Int)) = (n0 : Int) - L := by rw [IntKind.wrap_i64]; omega
          have q3 : (((n0 : Int) - L) != ((n0 : Int) - L)) = false := by simp
          obtain ⟨ck, hck⟩ : ∃ ck, checkE ⟨kd, ky, vl, id⟩ = ck := ⟨_, rfl⟩
          have q4 : (ck != ck) = false := by simp
          have HCK := hide hck
          clear hTb hL hck
          go_upto_region 17 with fail
          have B0 : Below X1.heap.size X1 (X1).drew := (Below.refl _ X1).drew
          obtain ⟨⟨s2, s3⟩, s4, s5⟩ := HSS.out _ B0
          go_region_held3 (fun w' => (w'.cell? ⟨oB, 2, none⟩ = some (.int .i64 kd) ∧ w'.cell? ⟨oB, 3, none⟩ = some (.int .i64 ky)) ∧ w'.cell? ⟨oB, 4, none⟩ = some (.int .i64 vl) ∧ w'.cell? ⟨oB, 5, none⟩ = some (.int .i64 id)) (go_keep)
            (first
              | (go_at_call 22; refine rcheck_any.mono ?_; rw [HCK.out]; rintro _ x9 ⟨rfl, d9⟩; have D3 := D2.trans (d9.mono D2.size); obtain ⟨⟨s2, s3⟩, s4, s5⟩ := HSS.out _ D3)
              | (go_at_call 21; refine check_any.mono ?_; rw [HCK.out]; rintro _ x8 ⟨rfl, d8⟩; have D2 := D1.trans (d8.mono D1.size); obtain ⟨⟨s2, s3⟩, s4, s5⟩ := HSS.out _ D2)
              | (go_at_call 19; refine (len_any (HBC.out _ D1)).mono ?_; rintro _ x7 ⟨rfl, rfl⟩)
              | (go_at_call 20; refine (left_any (HBC.out _ B0) (by omega) (by omega) (by omega)).mono ?_; rintro _ x6 ⟨rfl, d6⟩; have D1 := B0.trans (d6.mono B0.size); obtain ⟨⟨s2, s3⟩, s4, s5⟩ := HSS.out _ D1)
              | (go_at_call 19; refine (len_any (HBC.out _ B0)).mono ?_; rintro _ x5 ⟨rfl, rfl⟩))
          have HDN : Hid (OrI B W n0 b x9 (.slice p8 m8 c8) (.slice p9 m9 c9) m8 m9 (k + 1)) := hide ⟨p1, c1, q.rest, puts, took, HTF.out.later D3, HOKF.out, HRMF.out, HEQF.out, HM8.out, HM9.out, by omega, by omega, Below.step HBF.out D3 HTF.out.size⟩
          clear D1 D2 D3 s2 s3 s4 s5
          go_wp2
          exact ⟨⟨k + 1, p8, c8, m8, p9, c9, m9, by omega, rfl, rfl, by first | rfl | go_num, HDN⟩, by simp [intOf]; omega⟩
        | true =>
          have hab := alloc_below X1 (.cells #[.int .i64 k0, .int .i64 k1, .int .i64 k2, .int .i64 k3] 34 (0, 0))
          have HAB := hide hab
          have HRW := hide (ownsRow_later HTX.out.r9 hab)
          have HK1 : Hid (m9 + 1 ≤ maxLen) := by show _ ≤ _; unfold maxLen; omega
          have HK2 : Hid ((m9 + 1) * 32 ≤ 140737488355328) := by show _ ≤ _; omega
          have HGE : Hid (B ≤ (X1.alloc (.cells #[.int .i64 k0, .int .i64 k1, .int .i64 k2, .int .i64 k3] 34 (0, 0))).heap.size) := hide (Nat.le_trans HTX.out.size hab.size)
          clear hab
          go_wp2_with (at_builtin; refine append_at _ rfl (.tmp 47) (.tmp 49) 44 rfl B 34 i0 (.agg #[.int .i64 0, .int .i64 0, .int .i64 0, .int .i64 0]) 4 32 Try.underlying44 hI0 hz0 hz1 hz2 rfl (by decide) (.slice p9 m9 c9) m9 _ rfl HRW.out ⟨X1.heap.size, 0, none⟩ 1 1 [.int .i64 k0, .int .i64 k1, .int .i64 k2, .int .i64 k3] rfl rfl (World.news_of_block (heap_alloc_new X1 _)) (by simp [Value.oneCell']) HK1.out HK2.out HGE.out ?_)
          intro p4 c4 w4 o4 g4 e4
          have HTF : Hid (Thr B w4 b p1 c1 q.rest (.slice p8 m8 c8) (.slice p4 (m9 + 1) c4) m8 (m9 + 1) puts (took ++ [⟨k0, k1, k2, k3⟩])) := hide (HTX.out.app9 HAB.out (by rw [flat_snoc]; exact o4) g4 (e4.imp (fun h => h) (fun h => h.trans (by simp))))
          have hoW : Only (fun i => (Value.slice p9 m9 c9).ownBlock = some i) X1 w4 := (Only.fresh HAB.out _).trans (Only.of_grown g4 (fun _ e => e))
          have HOBG := hide (hoW.obj HOBF.out (fun e => by have := HO9.out _ e; omega))
          have HBG := hide (HBF.out.trans (hoW.below HTX.out.size (fun i e => own_block_base HTX.out.r9 e)))
          have HM9' : Hid ((took ++ [(⟨k0, k1, k2, k3⟩ : EV)]).length = m9 + 1) := hide (by rw [List.length_append, HM9.out]; rfl)
          have HEQF : Hid (puts = (took ++ [⟨k0, k1, k2, k3⟩]) ++ q.rest.evs) := hide (by rw [HEQ.out, any_yes HQB.out, HX.out]; simp)
          clear o4 g4 e4 hoW HTX HRW HGE HOBF HBF d0 d1 d2 d3 HM9
          have HOBF := HOBG
          have HBF := HBG
          have HM9 := HM9'
          have hTb := HTF.out.pq.box
          rw [HRMF.out] at hTb
          obtain ⟨L, hL⟩ : ∃ L, q.rest.evs.length = L := ⟨_, rfl⟩
          rw [hL] at hTb
          have hLr : L ≤ n0 := by have := HOKF.out.2.2.1; rw [HRMF.out, hL] at this; exact this
          have HBC : Hid (∀ X, Below w4.heap.size w4 X → Box.Cells X b (n0 : Int) p1 L c1 q.rest.last) := hide (fun X hX => (box_cells hTb).later hX)
          have HSS : Hid (∀ X, Below w4.heap.size w4 X → (X.cell? ⟨oB, 2, none⟩ = some (.int .i64 kd) ∧ X.cell? ⟨oB, 3, none⟩ = some (.int .i64 ky)) ∧ X.cell? ⟨oB, 4, none⟩ = some (.int .i64 vl) ∧ X.cell? ⟨oB, 5, none⟩ = some (.int .i64 id)) := hide (fun X hX => by
            obtain ⟨_, _, s2, s3, s4, s5⟩ := six (below_box hX HOBF.out)
            exact ⟨⟨s2, s3⟩, s4, s5⟩)
          have q1 : decide ((L : Int) > (n0 : Int)) = false := decide_eq_false (by omega)
          have q1b : decide (n0 < L) = false := decide_eq_false (by omega)
          have q1c : decide ((n0 : Int) < (L : Int)) = false := decide_eq_false (by omega)
          have q1d : (L : Int) ≤ (n0 : Int) := by omega
          have qw : IntKind.i64.wrap ((n0 : Int) - (L : Int)) = (n0 : Int) - L := by rw [IntKind.wrap_i64]; omega
          have q3 : (((n0 : Int) - L) != ((n0 : Int) - L)) = false := by simp
          obtain ⟨ck, hck⟩ : ∃ ck, checkE ⟨kd, ky, vl, id⟩ = ck := ⟨_, rfl⟩
          have q4 : (ck != ck) = false := by simp
          have HCK := hide hck
          clear hTb hL hck
          go_upto_region 17 with fail
          have B0 : Below w4.heap.size w4 (w4).drew := (Below.refl _ w4).drew
          obtain ⟨⟨s2, s3⟩, s4, s5⟩ := HSS.out _ B0
          go_region_held3 (fun w' => (w'.cell? ⟨oB, 2, none⟩ = some (.int .i64 kd) ∧ w'.cell? ⟨oB, 3, none⟩ = some (.int .i64 ky)) ∧ w'.cell? ⟨oB, 4, none⟩ = some (.int .i64 vl) ∧ w'.cell? ⟨oB, 5, none⟩ = some (.int .i64 id)) (go_keep)
            (first
              | (go_at_call 22; refine rcheck_any.mono ?_; rw [HCK.out]; rintro _ x9 ⟨rfl, d9⟩; have D3 := D2.trans (d9.mono D2.size); obtain ⟨⟨s2, s3⟩, s4, s5⟩ := HSS.out _ D3)
              | (go_at_call 21; refine check_any.mono ?_; rw [HCK.out]; rintro _ x8 ⟨rfl, d8⟩; have D2 := D1.trans (d8.mono D1.size); obtain ⟨⟨s2, s3⟩, s4, s5⟩ := HSS.out _ D2)
              | (go_at_call 19; refine (len_any (HBC.out _ D1)).mono ?_; rintro _ x7 ⟨rfl, rfl⟩)
              | (go_at_call 20; refine (left_any (HBC.out _ B0) (by omega) (by omega) (by omega)).mono ?_; rintro _ x6 ⟨rfl, d6⟩; have D1 := B0.trans (d6.mono B0.size); obtain ⟨⟨s2, s3⟩, s4, s5⟩ := HSS.out _ D1)
              | (go_at_call 19; refine (len_any (HBC.out _ B0)).mono ?_; rintro _ x5 ⟨rfl, rfl⟩))
          have HDN : Hid (OrI B W n0 b x9 (.slice p8 m8 c8) (.slice p4 (m9 + 1) c4) m8 (m9 + 1) (k + 1)) := hide ⟨p1, c1, q.rest, puts, (took ++ [⟨k0, k1, k2, k3⟩]), HTF.out.later D3, HOKF.out, HRMF.out, HEQF.out, HM8.out, HM9.out, by omega, by omega, Below.step HBF.out D3 HTF.out.size⟩
          clear D1 D2 D3 s2 s3 s4 s5
          go_wp2
          exact ⟨⟨k + 1, p8, c8, m8, p4, c4, (m9 + 1), by omega, rfl, rfl, by first | rfl | go_num, HDN⟩, by simp [intOf]; omega⟩
      | false =>
        go_wp2_with fail
        refine (put_any HT0.out.pq HOK.out ⟨kd, ky, vl, id⟩).mono ?_
        rintro _ w1 ⟨rfl, P1⟩
        have HOBF := hide (P1.only.obj HOB.out (fun e => by have := HOL.out _ e; omega))
        have hxs : oB < w1.heap.size := (Array.getElem?_eq_some_iff.1 HOBF.out).1
        obtain ⟨p1, c1, T1⟩ := HT0.out.put P1
        have HTX := hide T1
        have HBF := hide (HB0.out.trans (P1.below HT0.out.pq))
        have HOKF := hide (QC.put_ok HOK.out ⟨kd, ky, vl, id⟩)
        clear P1 T1 HT0 HB0 s0 s1 s2 s3 s4 s5
        obtain ⟨_, _, d0, d1, d2, d3⟩ := six HOBF.out
        by_cases he : q.err ⟨kd, ky, vl, id⟩ = 0
        · have HRMF : Hid ((q.put ⟨kd, ky, vl, id⟩).room = n0) := hide ((put_yes he).2.trans HRM.out)
          have HEQF : Hid (puts ++ [⟨kd, ky, vl, id⟩] = took ++ (q.put ⟨kd, ky, vl, id⟩).evs) := hide (by rw [HEQ.out, (put_yes he).1]; simp)
          rw [he]
          clear he
          have hab := alloc_below w1 (.cells #[.int .i64 kd, .int .i64 ky, .int .i64 vl, .int .i64 id] 34 (0, 0))
          have HAB := hide hab
          have HRW := hide (ownsRow_later HTX.out.r8 hab)
          have HK1 : Hid (m8 + 1 ≤ maxLen) := by show _ ≤ _; unfold maxLen; omega
          have HK2 : Hid ((m8 + 1) * 32 ≤ 140737488355328) := by show _ ≤ _; omega
          have HGE : Hid (B ≤ (w1.alloc (.cells #[.int .i64 kd, .int .i64 ky, .int .i64 vl, .int .i64 id] 34 (0, 0))).heap.size) := hide (Nat.le_trans HTX.out.size hab.size)
          clear hab
          go_wp2_with (at_builtin; refine append_at _ rfl (.tmp 56) (.tmp 59) 44 rfl B 34 i0 (.agg #[.int .i64 0, .int .i64 0, .int .i64 0, .int .i64 0]) 4 32 Try.underlying44 hI0 hz0 hz1 hz2 rfl (by decide) (.slice p8 m8 c8) m8 _ rfl HRW.out ⟨w1.heap.size, 0, none⟩ 1 1 [.int .i64 kd, .int .i64 ky, .int .i64 vl, .int .i64 id] rfl rfl (World.news_of_block (heap_alloc_new w1 _)) (by simp [Value.oneCell']) HK1.out HK2.out HGE.out ?_)
          intro p4 c4 w4 o4 g4 e4
          have HTF : Hid (Thr B w4 b p1 c1 (q.put ⟨kd, ky, vl, id⟩) (.slice p4 (m8 + 1) c4) (.slice p9 m9 c9) (m8 + 1) m9 (puts ++ [⟨kd, ky, vl, id⟩]) took) := hide (HTX.out.app8 HAB.out (by rw [flat_snoc]; exact o4) g4 (e4.imp (fun h => h) (fun h => h.trans (by simp))))
          have hoW : Only (fun i => (Value.slice p8 m8 c8).ownBlock = some i) w1 w4 := (Only.fresh HAB.out _).trans (Only.of_grown g4 (fun _ e => e))
          have HOBG := hide (hoW.obj HOBF.out (fun e => by have := HO8.out _ e; omega))
          have HBG := hide (HBF.out.trans (hoW.below HTX.out.size (fun i e => own_block_base HTX.out.r8 e)))
          have HM8' : Hid ((puts ++ [(⟨kd, ky, vl, id⟩ : EV)]).length = m8 + 1) := hide (by rw [List.length_append, HM8.out]; rfl)
          clear o4 g4 e4 hoW HTX HRW HGE HOBF HBF d0 d1 d2 d3 HM8
          have HOBF := HOBG
          have HBF := HBG
          have HM8 := HM8'
          have hTb := HTF.out.pq.box
          rw [HRMF.out] at hTb
          obtain ⟨L, hL⟩ : ∃ L, (q.put ⟨kd, ky, vl, id⟩).evs.length = L := ⟨_, rfl⟩
          rw [hL] at hTb
          have hLr : L ≤ n0 := by have := HOKF.out.2.2.1; rw [HRMF.out, hL] at this; exact this
          have HBC : Hid (∀ X, Below w4.heap.size w4 X → Box.Cells X b (n0 : Int) p1 L c1 (q.put ⟨kd, ky, vl, id⟩).last) := hide (fun X hX => (box_cells hTb).later hX)
          have HSS : Hid (∀ X, Below w4.heap.size w4 X → (X.cell? ⟨oB, 2, none⟩ = some (.int .i64 kd) ∧ X.cell? ⟨oB, 3, none⟩ = some (.int .i64 ky)) ∧ X.cell? ⟨oB, 4, none⟩ = some (.int .i64 vl) ∧ X.cell? ⟨oB, 5, none⟩ = some (.int .i64 id)) := hide (fun X hX => by
            obtain ⟨_, _, s2, s3, s4, s5⟩ := six (below_box hX HOBF.out)
            exact ⟨⟨s2, s3⟩, s4, s5⟩)
          have q1 : decide ((L : Int) > (n0 : Int)) = false := decide_eq_false (by omega)
          have q1b : decide (n0 < L) = false := decide_eq_false (by omega)
          have q1c : decide ((n0 : Int) < (L : Int)) = false := decide_eq_false (by omega)
          have q1d : (L : Int) ≤ (n0 : Int) := by omega
          have qw : IntKind.i64.wrap ((n0 : Int) - (L : Int)) = (n0 : Int) - L := by rw [IntKind.wrap_i64]; omega
          have q3 : (((n0 : Int) - L) != ((n0 : Int) - L)) = false := by simp
          obtain ⟨ck, hck⟩ : ∃ ck, checkE ⟨kd, ky, vl, id⟩ = ck := ⟨_, rfl⟩
          have q4 : (ck != ck) = false := by simp
          have HCK := hide hck
          clear hTb hL hck
          go_upto_region 17 with fail
          have B0 : Below w4.heap.size w4 (w4).drew := (Below.refl _ w4).drew
          obtain ⟨⟨s2, s3⟩, s4, s5⟩ := HSS.out _ B0
          go_region_held3 (fun w' => (w'.cell? ⟨oB, 2, none⟩ = some (.int .i64 kd) ∧ w'.cell? ⟨oB, 3, none⟩ = some (.int .i64 ky)) ∧ w'.cell? ⟨oB, 4, none⟩ = some (.int .i64 vl) ∧ w'.cell? ⟨oB, 5, none⟩ = some (.int .i64 id)) (go_keep)
            (first
              | (go_at_call 22; refine rcheck_any.mono ?_; rw [HCK.out]; rintro _ x9 ⟨rfl, d9⟩; have D3 := D2.trans (d9.mono D2.size); obtain ⟨⟨s2, s3⟩, s4, s5⟩ := HSS.out _ D3)
              | (go_at_call 21; refine check_any.mono ?_; rw [HCK.out]; rintro _ x8 ⟨rfl, d8⟩; have D2 := D1.trans (d8.mono D1.size); obtain ⟨⟨s2, s3⟩, s4, s5⟩ := HSS.out _ D2)
              | (go_at_call 19; refine (len_any (HBC.out _ D1)).mono ?_; rintro _ x7 ⟨rfl, rfl⟩)
              | (go_at_call 20; refine (left_any (HBC.out _ B0) (by omega) (by omega) (by omega)).mono ?_; rintro _ x6 ⟨rfl, d6⟩; have D1 := B0.trans (d6.mono B0.size); obtain ⟨⟨s2, s3⟩, s4, s5⟩ := HSS.out _ D1)
              | (go_at_call 19; refine (len_any (HBC.out _ B0)).mono ?_; rintro _ x5 ⟨rfl, rfl⟩))
          have HDN : Hid (OrI B W n0 b x9 (.slice p4 (m8 + 1) c4) (.slice p9 m9 c9) (m8 + 1) m9 (k + 1)) := hide ⟨p1, c1, (q.put ⟨kd, ky, vl, id⟩), (puts ++ [⟨kd, ky, vl, id⟩]), took, HTF.out.later D3, HOKF.out, HRMF.out, HEQF.out, HM8.out, HM9.out, by omega, by omega, Below.step HBF.out D3 HTF.out.size⟩
          clear D1 D2 D3 s2 s3 s4 s5
          go_wp2
          exact ⟨⟨k + 1, p4, c4, (m8 + 1), p9, c9, m9, by omega, rfl, rfl, by first | rfl | go_num, HDN⟩, by simp [intOf]; omega⟩
        · have HRMF : Hid ((q.put ⟨kd, ky, vl, id⟩).room = n0) := hide (by rw [put_no he]; exact HRM.out)
          have HEQF : Hid (puts = took ++ (q.put ⟨kd, ky, vl, id⟩).evs) := hide (by rw [put_no he]; exact HEQ.out)
          have HTF := HTX
          obtain ⟨er, her⟩ : ∃ er, q.err ⟨kd, ky, vl, id⟩ = er := ⟨_, rfl⟩
          rw [her] at he ⊢
          have q9 : (er == 0) = false := ne_eq he
          clear he her d0 d1 d2 d3
          have hTb := HTF.out.pq.box
          rw [HRMF.out] at hTb
          obtain ⟨L, hL⟩ : ∃ L, (q.put ⟨kd, ky, vl, id⟩).evs.length = L := ⟨_, rfl⟩
          rw [hL] at hTb
          have hLr : L ≤ n0 := by have := HOKF.out.2.2.1; rw [HRMF.out, hL] at this; exact this
          have HBC : Hid (∀ X, Below w1.heap.size w1 X → Box.Cells X b (n0 : Int) p1 L c1 (q.put ⟨kd, ky, vl, id⟩).last) := hide (fun X hX => (box_cells hTb).later hX)
          have HSS : Hid (∀ X, Below w1.heap.size w1 X → (X.cell? ⟨oB, 2, none⟩ = some (.int .i64 kd) ∧ X.cell? ⟨oB, 3, none⟩ = some (.int .i64 ky)) ∧ X.cell? ⟨oB, 4, none⟩ = some (.int .i64 vl) ∧ X.cell? ⟨oB, 5, none⟩ = some (.int .i64 id)) := hide (fun X hX => by
            obtain ⟨_, _, s2, s3, s4, s5⟩ := six (below_box hX HOBF.out)
            exact ⟨⟨s2, s3⟩, s4, s5⟩)
          have q1 : decide ((L : Int) > (n0 : Int)) = false := decide_eq_false (by omega)
          have q1b : decide (n0 < L) = false := decide_eq_false (by omega)
          have q1c : decide ((n0 : Int) < (L : Int)) = false := decide_eq_false (by omega)
          have q1d : (L : Int) ≤ (n0 : Int) := by omega
          have qw : IntKind.i64.wrap ((n0 : Int) - (L : Int)) = (n0 : Int) - L := by rw [IntKind.wrap_i64]; omega
          have q3 : (((n0 : Int) - L) != ((n0 : Int) - L)) = false := by simp
          obtain ⟨ck, hck⟩ : ∃ ck, checkE ⟨kd, ky, vl, id⟩ = ck := ⟨_, rfl⟩
          have q4 : (ck != ck) = false := by simp
          have HCK := hide hck
          clear hTb hL hck
          go_upto_region 17 with fail
          have B0 : Below w1.heap.size w1 (w1).drew := (Below.refl _ w1).drew
          obtain ⟨⟨s2, s3⟩, s4, s5⟩ := HSS.out _ B0
          go_region_held3 (fun w' => (w'.cell? ⟨oB, 2, none⟩ = some (.int .i64 kd) ∧ w'.cell? ⟨oB, 3, none⟩ = some (.int .i64 ky)) ∧ w'.cell? ⟨oB, 4, none⟩ = some (.int .i64 vl) ∧ w'.cell? ⟨oB, 5, none⟩ = some (.int .i64 id)) (go_keep)
            (first
              | (go_at_call 22; refine rcheck_any.mono ?_; rw [HCK.out]; rintro _ x9 ⟨rfl, d9⟩; have D3 := D2.trans (d9.mono D2.size); obtain ⟨⟨s2, s3⟩, s4, s5⟩ := HSS.out _ D3)
              | (go_at_call 21; refine check_any.mono ?_; rw [HCK.out]; rintro _ x8 ⟨rfl, d8⟩; have D2 := D1.trans (d8.mono D1.size); obtain ⟨⟨s2, s3⟩, s4, s5⟩ := HSS.out _ D2)
              | (go_at_call 19; refine (len_any (HBC.out _ D1)).mono ?_; rintro _ x7 ⟨rfl, rfl⟩)
              | (go_at_call 20; refine (left_any (HBC.out _ B0) (by omega) (by omega) (by omega)).mono ?_; rintro _ x6 ⟨rfl, d6⟩; have D1 := B0.trans (d6.mono B0.size); obtain ⟨⟨s2, s3⟩, s4, s5⟩ := HSS.out _ D1)
              | (go_at_call 19; refine (len_any (HBC.out _ B0)).mono ?_; rintro _ x5 ⟨rfl, rfl⟩))
          have HDN : Hid (OrI B W n0 b x9 (.slice p8 m8 c8) (.slice p9 m9 c9) m8 m9 (k + 1)) := hide ⟨p1, c1, (q.put ⟨kd, ky, vl, id⟩), puts, took, HTF.out.later D3, HOKF.out, HRMF.out, HEQF.out, HM8.out, HM9.out, by omega, by omega, Below.step HBF.out D3 HTF.out.size⟩
          clear D1 D2 D3 s2 s3 s4 s5
          go_wp2
          exact ⟨⟨k + 1, p8, c8, m8, p9, c9, m9, by omega, rfl, rfl, by first | rfl | go_num, HDN⟩, by simp [intOf]; omega⟩
    · obtain rfl : k = n := by omega
      obtain ⟨L, hL⟩ : ∃ L, q.evs.length = L := ⟨_, rfl⟩
      go_wp2_with fail
      refine (allq_any HT.out.pq HOK.out hL).mono ?_
      rintro _ w5 ⟨pa, ca, rfl, oa, b5⟩
      have hmL : m9 + L = m8 := by rw [← HM8.out, HEQ.out, List.length_append, HM9.out, hL]
      have HT5 := hide (HT.out.later b5)
      have HB5 := hide (Below.step HBW.out b5 HT.out.size)
      have HSG : Hid (Seg w5 4 (.slice pa L ca) L (q.evs.flatMap EV.cells)) := by
        have := (LRow.of_own EV.len hL oa).seg (by decide) EV.len EV.one
        rw [hL] at this
        exact hide this
      obtain ⟨_, _, efa, fa1, fa2⟩ := own_form oa
      simp only [Value.slice.injEq, true_and] at efa
      obtain ⟨rfl, rfl⟩ := efa
      have HK1 : Hid (m9 + L ≤ maxLen) := by show _ ≤ _; unfold maxLen; omega
      have HK2 : Hid ((m9 + L) * 32 ≤ 140737488355328) := by show _ ≤ _; omega
      clear oa b5 HT HBW
      go_wp2_with (at_builtin; refine append_wanted _ (by first | rfl | decide | kernel_rfl) (.tmp 91) (.tmp 92) 44 rfl B 34 i0 (.agg #[.int .i64 0, .int .i64 0, .int .i64 0, .int .i64 0]) 4 32 Try.underlying44 hI0 hz0 hz1 hz2 rfl (by decide) (.slice p9 m9 c9) m9 _ rfl HT5.out.r9 (.slice pa L ca) L _ rfl HSG.out HK1.out HK2.out HT5.out.size ?_)
      intro p6 c6 w6 o6 g6
      have ho6 : Only (fun i => (Value.slice p9 m9 c9).ownBlock = some i) w5 w6 := Only.of_grown g6 (fun _ e => e)
      have HB6 := hide (HB5.out.trans (ho6.below HT5.out.size (fun i e => own_block_base HT5.out.r9 e)))
      have HR8 : Hid (ERow w6 p8 c8 puts) := hide (LRow.of_own EV.len HM8.out (ownsRow_only HT5.out.r8 ho6 (fun i hi e => HT5.out.a89 i hi e)))
      have HR6 : Hid (ERow w6 p6 c6 puts) := by
        rw [← List.flatMap_append, ← HEQ.out] at o6
        exact hide (LRow.of_own EV.len (by first | omega | rw [HM8.out]) o6)
      clear o6 g6 ho6 HT5 HB5 HSG HK1 HK2
      try rw [hmL]
      go_wp2_with fail
      refine (rsame_any HR6.out HR8.out HM8.out).mono ?_
      rintro _ w7 ⟨rfl, b7⟩
      have HB7 := hide (HB6.out.trans (b7.mono (by rw [← HBB.out]; exact HB6.out.size)))
      clear b7
      go_wp2
      go_ret
      exact ⟨rfl, HB7.out⟩
end Go.Proofs.Ytmmdgffgnpnmeaa
namespace Go.Proofs.Ytmmdgffgnpnmeaa.edgeOrder
open Go.RowKit Go.Shelf Go.Proofs.Ytmmdgffgnpnmeaa Go.ChangeShapes Go.WideShapes Go.ChangeAt

theorem walk {W : World} {rm : Int} {lp : Option Addr} {lc : Nat} {os : List OP} (h0 : 0 ≤ rm) (h1 : rm ≤ 255) (hrow : ORow W lp lc os) (_ : ∀ o ∈ os, o.fine) (hsz : os.length * 40 ≤ 140737488351232) :
    Calls Try.prog 5 #[.int .u8 rm, .slice lp os.length lc] W fun e w' => e = .returned (.bool true) ∧ Below W.heap.size W w' := order_walk h0 (by omega) hrow rfl hsz
set_option maxRecDepth 100000 in
theorem contract (H : Type) (enc : TypeId × Value → H) (W : World) (base : Nat) (args : Array Value) (ds gs : List (DataW H)) (before : List MemPlace)
    (hval : ∀ (j : Nat) t v, Try.f5.params[j]? = some t → args[j]? = some v → Value.okWide Try.prog W .any base t v)
    (hW : DataW.Whole enc Try.prog Try.f5.params.toList Rows.edgeOrderSpec.vars false W args.toList ds gs before) (hsz0 : (DataW.weightsEach Try.prog (Try.f5.params.toList ++ Rows.edgeOrderSpec.plain.varTypes Try.prog) (ds ++ gs)).all (· ≤ reachBytes) = true) :
    Calls Try.prog 5 args W fun e W' => ∃ v, e = .returned v ∧ Rows.edgeOrderSpec.post enc Try.prog Try.f5 false true false false W args v W' := by
  have hW' := hW
  obtain ⟨p, q, hA0, hV, rfl, hfz, hnd⟩ := hW
  have hA : DataW.TrodAll enc Try.prog W 0 (fun _ => true) true Try.f5.params.toList args.toList ds p := hA0
  rw [Try.params5] at hA hval hsz0
  obtain ⟨v0, vs0, d0, ds0, p0, q0, hargs, rfl, rfl, h0, r0⟩ := trodAll_cons hA
  obtain ⟨v1, vs1, d1, ds1, p1, q1, rfl, rfl, rfl, h1, r1⟩ := trodAll_cons r0
  obtain ⟨rfl, rfl, rfl⟩ := trodAll_nil r1
  obtain rfl : args = #[v0, v1] := by cases args; simp_all
  obtain ⟨rfl, rfl⟩ := trodVars_none hV
  obtain ⟨a1, len1, cap1, rfl⟩ := okWide_slice Try.underlying22 (hval 1 22 v1 rfl rfl)
  obtain ⟨n0, rfl, rfl, rfl, wi0⟩ := open_int Try.underlying5 (hval 0 5 v0 rfl rfl) h0
  have bd0 := bounds_u8 wi0
  have k1 := h1
  have lt1 : ∀ x ∈ p1, x.block < W.heap.size := by obtain ⟨m, hm⟩ := k1; exact DataW.trod_lt m _ _ _ hm
  obtain ⟨f1, hf1⟩ := h1
  have hcc1 : (Value.slice a1 len1 cap1).cells.toList = [.slice a1 len1 cap1] := by simp [Value.cells]
  rw [hcc1] at hf1
  obtain ⟨pp1, pc1, es1, ee1, R1, F1, B1, D1⟩ := arg_ops hf1
  simp only [Value.slice.injEq] at ee1
  obtain ⟨rfl, rfl, rfl⟩ := ee1
  have b1 : es1.length * 40 ≤ 140737488351232 := sized_len (bytes := 40) hsz0 (j := 1) rfl rfl Try.underlying22 (by kernel_rfl) D1
  clear hA0
  refine (walk bd0.1 bd0.2 R1 F1 (by omega)).mono fun e W' ⟨he, bel⟩ => ?_
  subst he
  exact ⟨_, rfl, _, _, _, [], _, [], hW', trodAll_mk1 (shut_bool Try.underlying4 _), (trodAll_cons_mk (shut_int Try.underlying5 wi0) (trodAll_cons_mk (Below.trod Try.laidOut (by kernel_rfl) (of_decide_eq_true (by kernel_rfl)) k1 bel lt1) trodAll_mk0)), rfl, bel.frame _, fun h => by cases h⟩

set_option maxRecDepth 100000 in
theorem lifted (os : Os) (started : os.Started) (H : Type) (enc : TypeId × Value → H) :
    ReturnsInHanded {} Try.checked os 5 .any (Rows.edgeOrderSpec.pre6 enc Try.prog Try.f5 Rows.edgeOrderRow.domain false) (Rows.edgeOrderSpec.post enc Try.prog Try.f5 false true false false) := by
  refine returnsInHanded_of_change_sized (C := Try.checked) Try.ownK started (by kernel_rfl) Try.func5
    (ChangeSpec.witness6 (enc := enc) (C := Try.checked) false ⟨#[], #[.int .u8 0, .slice none 0 0], []⟩ 8 (by kernel_rfl) (by kernel_rfl) (by kernel_rfl) (by kernel_rfl)) ?_
  intro W base args ds gs before hval hW _ hsz _
  exact contract H enc W base args ds gs before hval hW hsz

set_option maxRecDepth 100000 in
theorem proved : Rows.EdgeOrderSaid :=
  OpenClaim.holds_of_wide 5 Try.f5 rfl rfl rfl rfl rfl rfl rfl ⟨rfl, rfl, rfl, rfl, rfl⟩ rfl rfl rfl rfl rfl (by kernel_rfl) Try.func5 (by kernel_rfl)
    (of_decide_eq_true (by kernel_rfl)) (by unfold Func.isWrapper; first | (rw [if_pos (by decide +kernel)]; kernel_rfl) | (rw [if_neg (by decide +kernel)]; exact ⟨rfl, rfl⟩))
    (fun os started H enc _ => lifted os started H enc)

end Go.Proofs.Ytmmdgffgnpnmeaa.edgeOrder
