/-
  slices.DeleteFunc of a ledger's entries. The conditions: lengths.
-/
import Derived.Test.YtcabfohmimglpaaOkn
import Derived.Lib.SliceRun
namespace Go.Proofs.Ytcabfohmimglpaa
open Go.RowKit

def EN.on (e : EN) : Bool := decide (e.cnt ≠ 0)

theorem off_any {W : World} {f k c a g : Int} : Calls Try.prog 30 #[.agg #[.int .i64 f, .int .i64 k, .int .i64 c, .int .i64 a, .int .i64 g]] W fun e w' => e = .returned (.bool (decide (c = 0))) ∧ Below W.heap.size W w' := by
  go_enter Try.func30, Try.ntmps30
  go_wp2
  go_ret
  exact ⟨rfl, alloc_below _ _⟩

set_option maxRecDepth 100000 in
set_option maxHeartbeats 4000000 in
theorem findOff_any {W : World} {base g n cap : Nat} {es : List EN} (h : W.ownsRow base 74 5 (.slice (some ⟨g, 0, none⟩) n cap) n (es.flatMap EN.cells)) (hl : es.length = n) :
    Calls Try.prog 40 #[.slice (some ⟨g, 0, none⟩) n cap, .func (.func 30) #[] #[]] W fun e w' => ((e = .returned (.int .i64 (-1)) ∧ ∀ x ∈ es, EN.on x = true) ∨ (∃ k, e = .returned (.int .i64 ((k : Nat) : Int)) ∧ k < n ∧ EN.on (es[k]!) = false ∧ ∀ x ∈ es.take k, EN.on x = true)) ∧ Below W.heap.size W w' := by
  have H := hide h
  have HL := hide hl
  obtain ⟨_, _, ef, i1, i2⟩ := own_form h
  simp only [Value.slice.injEq, true_and] at ef
  obtain ⟨rfl, rfl⟩ := ef
  clear h hl
  go_enter Try.func40, Try.ntmps40
  go_wp2_with fail
  go_loopw [8] (fun i wr => ∃ (k : Nat), k ≤ n ∧ i = .int .i64 (k : Int) ∧ Hid (Below W.heap.size W wr) ∧ Hid (∀ x ∈ es.take k, EN.on x = true)) (fun i _ => n - (intOf i).toNat)
  case atStart => exact ⟨0, Nat.zero_le _, rfl, hide (Below.refl _ _), hide (by simp)⟩
  case round =>
    obtain ⟨k, hk, rfl, HB, HN⟩ := hrel
    rename World => wr
    by_cases hlt : k < n
    · obtain ⟨x, hx⟩ : ∃ x, es[k]! = x := ⟨_, rfl⟩
      obtain ⟨c0, c1, c2, c3, c4, _⟩ := es_cells (ownsRow_later H.out HB.out) HL.out hlt hx
      obtain ⟨x0, x1, x2, x3, x4⟩ := x
      dsimp only at c0 c1 c2 c3 c4
      have HX := hide hx
      clear hx
      go_wp2_with fail
      refine off_any.mono ?_
      rintro _ w1 ⟨rfl, b1⟩
      have HB1 : Hid (Below W.heap.size W w1) := hide (HB.out.trans (b1.mono HB.out.size))
      clear b1 c0 c1 c2 c3 c4
      by_cases c : x2 = 0
      · have e1 : decide (x2 = 0) = true := decide_eq_true c
        have HQ : Hid (EN.on (es[k]!) = false) := hide (by rw [HX.out]; simp [EN.on, c])
        rw [e1]
        clear c e1
        go_wp2
        go_ret
        exact ⟨.inr ⟨k, rfl, hlt, HQ.out, HN.out⟩, HB1.out⟩
      · have e1 : decide (x2 = 0) = false := decide_eq_false c
        have HN2 : Hid (∀ x ∈ es.take (k + 1), EN.on x = true) := by
          refine hide (fun y hy => ?_)
          have hke : k < es.length := by rw [HL.out]; exact hlt
          rw [List.take_succ_eq_append_getElem hke, List.mem_append] at hy
          rcases hy with hy | hy
          · exact HN.out y hy
          · have h2 := HX.out
            rw [getElem!_pos es k hke] at h2
            simp only [List.mem_singleton] at hy
            rw [hy, h2]
            simp [EN.on, c]
        rw [e1]
        clear c e1
        go_wp2
        exact ⟨⟨k + 1, by omega, by go_num, HB1, HN2⟩, by simp [intOf]; omega⟩
    · obtain rfl : k = n := by omega
      go_wp2
      go_ret
      exact ⟨.inl ⟨rfl, by have := HN.out; rw [List.take_of_length_le (by rw [HL.out]; exact Nat.le_refl _)] at this; exact this⟩, HB.out⟩

theorem zero_cells5 (n : Nat) : (Builtin.zeroCells #[.int .i64 0, .int .i64 0, .int .i64 0, .int .i64 0, .int .i64 0] n).toList = List.replicate (n * 5) (.int .i64 0) := by
  apply List.ext_getElem
  · simp [Builtin.zeroCells]
  · intro i h1 h2
    simp only [Builtin.zeroCells, Array.toList_map, Array.toList_range, List.getElem_map, List.getElem_range, List.getElem_replicate]
    have hq : i % 5 < 5 := Nat.mod_lt _ (by decide)
    show (#[Value.int .i64 0, .int .i64 0, .int .i64 0, .int .i64 0, .int .i64 0] : Array Value)[i % 5]! = _
    generalize i % 5 = q at hq
    have : q = 0 ∨ q = 1 ∨ q = 2 ∨ q = 3 ∨ q = 4 := by omega
    rcases this with rfl | rfl | rfl | rfl | rfl <;> rfl
theorem run_clear5 (w : World) (ty : TypeId) (b o n c : Nat) (hn : 0 < n) (hc : ∀ j, j < n * 5 → (w.cell? ⟨b, o + j, none⟩).isSome = true) (hf : ∀ j, j < n * 5 → w.frozen? ⟨b, o + j, none⟩ = false) :
    (Builtin.clear_ #[66] ty #[.slice (some ⟨b, o, none⟩) n c]).run Try.prog w = .ok (.tuple #[]) (w.setCells b o (List.replicate (n * 5) (.int .i64 0))) := by
  have hv : ∀ w, (zeroValue 74).run Try.prog w = .ok (.agg #[.int .i64 0, .int .i64 0, .int .i64 0, .int .i64 0, .int .i64 0]) w := fun w => by
    simp [zeroValue]
    rfl
  have hst := run_storeCells_cells (P := Try.prog) b o (List.replicate (n * 5) (.int .i64 0)) 0 w (by simpa using hc) (by simpa using hf) (by intro v hv'; rw [List.eq_of_mem_replicate hv']; rfl)
  simp only [Nat.add_zero] at hst
  obtain ⟨m, rfl⟩ : ∃ m, n = m + 1 := ⟨n - 1, by omega⟩
  have hzc := zero_cells5 (m + 1)
  simp [Builtin.clear_, run_underlying Try.underlying66, hv, Value.cells, hzc, hst]
theorem own_setCells {base e k n cap g : Nat} : ∀ (vs : List Value) (o : Nat) {w : World} {xs : List Value}, w.ownsRow base e k (.slice (some ⟨g, 0, none⟩) n cap) n xs → ∃ ys, (w.setCells g o vs).ownsRow base e k (.slice (some ⟨g, 0, none⟩) n cap) n ys ∧ ys.take o = xs.take o
  | [], _, _, xs, h => ⟨xs, h, rfl⟩
  | v :: vs, o, w, xs, h => by
    obtain ⟨ys, h1, h2⟩ := own_setCells vs (o + 1) (h.stored o v).1
    refine ⟨ys, h1, ?_⟩
    have h3 := congrArg (List.take o) h2
    rw [List.take_take, List.take_take, Nat.min_eq_left (by omega)] at h3
    rw [h3, List.take_set_of_le (Nat.le_refl o)]
theorem own_cut {W : World} {base e k n cap g i : Nat} {xs : List Value} (h : W.ownsRow base e k (.slice (some ⟨g, 0, none⟩) n cap) n xs) (hi : i ≤ n) : W.ownsRow base e k (.slice (some ⟨g, 0, none⟩) i cap) i (xs.take (i * k)) := by
  rcases h.2 with ⟨e', _⟩ | ⟨g', cap', cur, e', hb, hg, h1, h2, h3, h4⟩
  · cases e'
  · simp only [Value.slice.injEq, Option.some.injEq, Addr.mk.injEq, and_true, true_and] at e'
    obtain ⟨rfl, rfl⟩ := e'
    have hik := Nat.mul_le_mul_right k hi
    have hck := Nat.mul_le_mul_right k h1
    refine ⟨?_, .inr ⟨g, cap, cur, rfl, hb, hg, Nat.le_trans hi h1, h2, h3, ?_⟩⟩
    · rw [← h4, List.take_take, Nat.min_eq_left hik, List.length_take, Array.length_toList, h3]
      omega
    · rw [← h4, List.take_take, Nat.min_eq_left hik]

theorem del_step {es cs : List EN} {n a b : Nat} {x : EN} (h : cs.length = n ∧ cs.take a = (es.take b).filter EN.on ∧ cs.drop b = es.drop b) (hab : a < b) (hb : b < n) (hl : es.length = n) (hx : cs[b]! = x) :
    (EN.on x = false → cs.length = n ∧ cs.take a = (es.take (b + 1)).filter EN.on ∧ cs.drop (b + 1) = es.drop (b + 1)) ∧ (EN.on x = true → (cs.set a x).length = n ∧ (cs.set a x).take (a + 1) = (es.take (b + 1)).filter EN.on ∧ (cs.set a x).drop (b + 1) = es.drop (b + 1)) := by
  obtain ⟨h1, h2, h3⟩ := h
  have hbc : b < cs.length := by omega
  have hbe : b < es.length := by omega
  rw [getElem!_pos cs b hbc] at hx
  have hd : es[b] = x := by
    have := congrArg List.head? h3
    rw [List.head?_drop, List.head?_drop, List.getElem?_eq_getElem hbc, List.getElem?_eq_getElem hbe, hx] at this
    simpa using this.symm
  have h4 : cs.drop (b + 1) = es.drop (b + 1) := by
    have := congrArg (List.drop 1) h3
    rw [List.drop_drop, List.drop_drop] at this
    exact this
  rw [List.take_succ_eq_append_getElem hbe, List.filter_append, ← h2, hd]
  refine ⟨fun ho => ⟨h1, by simp [ho], h4⟩, fun ho => ⟨by simpa using h1, ?_, ?_⟩⟩
  · rw [List.take_succ_eq_append_getElem (by simp; omega), List.take_set_of_le (Nat.le_refl a), List.getElem_set_self]
    simp [ho]
  · rw [List.drop_set_of_lt (by omega)]
    exact h4

theorem only_cells {g : Nat} : ∀ (vs : List Value) (o : Nat) (w : World), Only (· = g) w (w.setCells g o vs)
  | [], _, w => Only.refl _ w
  | v :: r, o, w => (Only.set (F := (· = g)) w g o v rfl).trans (only_cells r (o + 1) _)
theorem own_some {W : World} {base e k n cap g i : Nat} {xs : List Value} (h : W.ownsRow base e k (.slice (some ⟨g, 0, none⟩) n cap) n xs) (hi : i < n * k) : (W.cell? ⟨g, i, none⟩).isSome = true := by
  rcases h.2 with ⟨e', _⟩ | ⟨g', cap', cur, e', hb, hg, h1, h2, h3, h4⟩
  · cases e'
  · simp only [Value.slice.injEq, Option.some.injEq, Addr.mk.injEq, and_true, true_and] at e'
    obtain ⟨rfl, rfl⟩ := e'
    have hck := Nat.mul_le_mul_right k h1
    have hlt : i < cur.size := by omega
    simp [World.cell?, hg, hlt]
theorem flat_take : ∀ (cs : List EN) (a : Nat), (cs.flatMap EN.cells).take (a * 5) = (cs.take a).flatMap EN.cells
  | [], a => by simp
  | c :: cs, 0 => by simp
  | c :: cs, a + 1 => by
    rw [List.flatMap_cons, List.take_succ_cons, List.flatMap_cons, ← flat_take cs a, List.take_append, c.len, List.take_of_length_le (by rw [c.len]; omega), show (a + 1) * 5 - 5 = a * 5 by omega]

set_option maxRecDepth 100000 in
set_option maxHeartbeats 8000000 in
theorem delete_any {W : World} {base g n cap : Nat} {es : List EN} (h : W.ownsRow base 74 5 (.slice (some ⟨g, 0, none⟩) n cap) n (es.flatMap EN.cells)) (hl : es.length = n) :
    Calls Try.prog 29 #[.slice (some ⟨g, 0, none⟩) n cap, .func (.func 30) #[] #[]] W fun e w' => ∃ m, e = .returned (.slice (some ⟨g, 0, none⟩) m cap) ∧ (es.filter EN.on).length = m ∧ w'.ownsRow base 74 5 (.slice (some ⟨g, 0, none⟩) m cap) m ((es.filter EN.on).flatMap EN.cells) ∧ Only (· = g) W w' := by
  have H := hide h
  have HL := hide hl
  obtain ⟨_, _, ef, i1, i2⟩ := own_form h
  simp only [Value.slice.injEq, true_and] at ef
  obtain ⟨rfl, rfl⟩ := ef
  have HC := hide (findOff_any h hl)
  clear h hl
  go_enter Try.func29, Try.ntmps29
  go_wp2_with fail
  refine HC.out.mono ?_
  clear HC
  rintro _ w1 ⟨⟨rfl, hall⟩ | ⟨k, rfl, hk, hoff, hall⟩, b1⟩
  · have HF : Hid (es.filter EN.on = es) := hide (List.filter_eq_self.2 hall)
    have HO := hide (ownsRow_later H.out b1)
    have HB : Hid (Only (· = g) W w1) := hide (Only.fresh b1 _)
    clear hall b1
    go_wp2
    go_ret
    exact ⟨n, rfl, by rw [HF.out]; exact HL.out, by rw [HF.out]; exact HO.out, HB.out⟩
  · have HO := hide (ownsRow_later H.out b1)
    have HB : Hid (Only (· = g) W w1) := hide (Only.fresh b1 _)
    have dk : ((k : Int) == -1) = false := by simp
    have HS : Hid (es.take k = (es.take (k + 1)).filter EN.on) := by
      have hke : k < es.length := by rw [HL.out]; exact hk
      rw [getElem!_pos es k hke] at hoff
      rw [List.take_succ_eq_append_getElem hke, List.filter_append, List.filter_eq_self.2 hall]
      refine hide ?_
      simp [hoff]
    clear hall hoff b1 H
    go_wp2_with fail
    clear dk
    go_loopw [5, 6] (fun i j wr => ∃ (a b : Nat) (cs : List EN), a < b ∧ b ≤ n ∧ i = .int .i64 (a : Int) ∧ j = .int .i64 (b : Int) ∧ Hid (cs.length = n ∧ cs.take a = (es.take b).filter EN.on ∧ cs.drop b = es.drop b) ∧ Hid (wr.ownsRow base 74 5 (.slice (some ⟨g, 0, none⟩) n cap) n (cs.flatMap EN.cells)) ∧ Hid (Only (· = g) W wr)) (fun _ j _ => n - (intOf j).toNat)
    case atStart => exact ⟨k, k + 1, es, by omega, by omega, rfl, by go_num, hide ⟨HL.out, HS.out, rfl⟩, HO, HB⟩
    case round =>
      obtain ⟨a, b, cs, hab, hbn, rfl, rfl, HI, HO, HB⟩ := hrel
      rename World => wr
      by_cases hlt : b < n
      · obtain ⟨x, hx⟩ : ∃ x, cs[b]! = x := ⟨_, rfl⟩
        obtain ⟨c0, c1, c2, c3, c4, _⟩ := es_cells HO.out HI.out.1 hlt hx
        obtain ⟨x0, x1, x2, x3, x4⟩ := x
        dsimp only at c0 c1 c2 c3 c4
        have HX := hide hx
        obtain ⟨V, hV⟩ : ∃ V, V = wr.alloc (.cells #[.int .i64 x0, .int .i64 x1, .int .i64 x2, .int .i64 x3, .int .i64 x4] 74 (0, 0)) := ⟨_, rfl⟩
        have hbV : Below wr.heap.size wr V := by rw [hV]; exact alloc_below _ _
        have u0 : V.heap[wr.heap.size]? = some (.cells #[.int .i64 x0, .int .i64 x1, .int .i64 x2, .int .i64 x3, .int .i64 x4] 74 (0, 0)) := by rw [hV]; exact heap_alloc_new _ _
        obtain ⟨nb, hnb⟩ : ∃ nb, wr.heap.size = nb := ⟨_, rfl⟩
        rw [hnb] at u0
        have v0 : V.cell? ⟨nb, 0, none⟩ = some (.int .i64 x0) := by simp [World.cell?, u0]
        have v1 : V.cell? ⟨nb, 1, none⟩ = some (.int .i64 x1) := by simp [World.cell?, u0]
        have v2 : V.cell? ⟨nb, 2, none⟩ = some (.int .i64 x2) := by simp [World.cell?, u0]
        have v3 : V.cell? ⟨nb, 3, none⟩ = some (.int .i64 x3) := by simp [World.cell?, u0]
        have v4 : V.cell? ⟨nb, 4, none⟩ = some (.int .i64 x4) := by simp [World.cell?, u0]
        have HU := hide u0
        have HBV := hide hbV
        clear hx u0 hbV
        go_upto_region 8 with fail
        rw [← hV]
        try rw [hnb]
        clear hV c0 c1 c2 c3 c4
        go_wp2_with fail
        refine off_any.mono ?_
        rintro _ w2 ⟨rfl, b2⟩
        have HB2 : Hid (Only (· = g) W w2) := hide ((HB.out.trans (Only.fresh HBV.out _)).trans (Only.fresh b2 _))
        have HO2 := hide (ownsRow_later (ownsRow_later HO.out HBV.out) b2)
        have u2 := below_box b2 HU.out
        have d0 : w2.cell? ⟨nb, 0, none⟩ = some (.int .i64 x0) := by simp [World.cell?, u2]
        have d1 : w2.cell? ⟨nb, 1, none⟩ = some (.int .i64 x1) := by simp [World.cell?, u2]
        have d2 : w2.cell? ⟨nb, 2, none⟩ = some (.int .i64 x2) := by simp [World.cell?, u2]
        have d3 : w2.cell? ⟨nb, 3, none⟩ = some (.int .i64 x3) := by simp [World.cell?, u2]
        have d4 : w2.cell? ⟨nb, 4, none⟩ = some (.int .i64 x4) := by simp [World.cell?, u2]
        have hst := del_step HI.out hab hlt HL.out HX.out
        have HS1 := hide hst.1
        have HS2 := hide hst.2
        clear hst b2 u2 v0 v1 v2 v3 v4 HU HBV HB HO hnb
        by_cases c : x2 = 0
        · have e1 : decide (x2 = 0) = true := decide_eq_true c
          have HN := hide (HS1.out (by simp [EN.on, c]))
          rw [e1]
          clear c e1
          go_wp2
          exact ⟨⟨a, b + 1, cs, by omega, by omega, rfl, by go_num, HN, HO2, HB2⟩, by simp [intOf]; omega⟩
        · have e1 : decide (x2 = 0) = false := decide_eq_false c
          have HN := hide (HS2.out (by simp [EN.on, c]))
          have han : a < n := by omega
          obtain ⟨y, hy⟩ : ∃ y, cs[a]! = y := ⟨_, rfl⟩
          obtain ⟨c0, c1, c2, c3, c4, hfz⟩ := es_cells HO2.out HI.out.1 han hy
          obtain ⟨y0, y1, y2, y3, y4⟩ := y
          dsimp only at c0 c1 c2 c3 c4
          have fz0 := hfz (a * 5)
          have fz1 := hfz (a * 5 + 1)
          have fz2 := hfz (a * 5 + 2)
          have fz3 := hfz (a * 5 + 3)
          have fz4 := hfz (a * 5 + 4)
          have HST := hide (EN.stored HO2.out (k := a) (by rw [HI.out.1]; exact han) ⟨x0, x1, x2, x3, x4⟩)
          have HB3 := hide (((((HB2.out.trans (Only.set w2 g (a * 5) (.int .i64 x0) rfl)).trans (Only.set _ g (a * 5 + 1) (.int .i64 x1) rfl)).trans (Only.set _ g (a * 5 + 2) (.int .i64 x2) rfl)).trans (Only.set _ g (a * 5 + 3) (.int .i64 x3) rfl)).trans (Only.set _ g (a * 5 + 4) (.int .i64 x4) rfl))
          rw [e1]
          clear c e1 hy hfz
          go_wp2
          exact ⟨⟨a + 1, b + 1, _, by omega, by omega, by go_num, by go_num, HN, HST, HB3⟩, by simp [intOf]; omega⟩
      · obtain rfl : b = n := by omega
        obtain ⟨hI1, hI2, _⟩ := HI.out
        have hna : (b - a) * 5 + a * 5 = b * 5 := by omega
        have q : ∀ ty, (Builtin.clear_ #[66] ty #[.slice (some ⟨g, a * 5, none⟩) (b - a) (cap - a)]).run Try.prog wr = .ok (.tuple #[]) (wr.setCells g (a * 5) (List.replicate ((b - a) * 5) (.int .i64 0))) := fun ty => run_clear5 wr ty g (a * 5) (b - a) (cap - a) (by omega) (fun j hj => own_some HO.out (by omega)) (fun j _ => HO.out.frozenAt _)
        obtain ⟨ys, hy1, hy2⟩ := own_setCells (List.replicate ((b - a) * 5) (.int .i64 0)) (a * 5) HO.out
        have HB2 : Hid (Only (· = g) W (wr.setCells g (a * 5) (List.replicate ((b - a) * 5) (.int .i64 0)))) := hide (HB.out.trans (only_cells _ _ _))
        have HFL : Hid (cs.take a = es.filter EN.on) := hide (by rw [hI2, List.take_of_length_le (by rw [HL.out]; exact Nat.le_refl _)])
        have HO2 : Hid ((wr.setCells g (a * 5) (List.replicate ((b - a) * 5) (.int .i64 0))).ownsRow base 74 5 (.slice (some ⟨g, 0, none⟩) a cap) a ((es.filter EN.on).flatMap EN.cells)) := by
          have h9 := own_cut hy1 (i := a) (by omega)
          rw [hy2, flat_take, HFL.out] at h9
          exact hide h9
        have HLN : Hid ((es.filter EN.on).length = a) := hide (by rw [← HFL.out, List.length_take, hI1]; omega)
        clear hI1 hI2 hna hy1 hy2 HO HB HS
        go_wp2_with fail
        go_ret
        exact ⟨a, rfl, HLN.out, HO2.out, HB2.out⟩
end Go.Proofs.Ytcabfohmimglpaa
