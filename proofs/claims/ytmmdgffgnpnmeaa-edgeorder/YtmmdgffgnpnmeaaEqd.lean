/-
  Take of the program's queue: slices.Delete of the first event. The conditions: what is handed in is such a queue.
-/
import Derived.Test.YtmmdgffgnpnmeaaEqp
import Derived.Deep.DeepAppendRoom
import Derived.Lib.SliceRun
namespace Go.Proofs.Ytmmdgffgnpnmeaa
open Go.RowKit

theorem zero_cells4 (n : Nat) : (Builtin.zeroCells #[.int .i64 0, .int .i64 0, .int .i64 0, .int .i64 0] n).toList = List.replicate (n * 4) (.int .i64 0) := by
  apply List.ext_getElem
  · simp [Builtin.zeroCells]
  · intro i h1 h2
    simp only [Builtin.zeroCells, Array.toList_map, Array.toList_range, List.getElem_map, List.getElem_range, List.getElem_replicate]
    have hq : i % 4 < 4 := Nat.mod_lt _ (by decide)
    show (#[Value.int .i64 0, .int .i64 0, .int .i64 0, .int .i64 0] : Array Value)[i % 4]! = _
    generalize i % 4 = q at hq
    have : q = 0 ∨ q = 1 ∨ q = 2 ∨ q = 3 := by omega
    rcases this with rfl | rfl | rfl | rfl <;> rfl
theorem run_clear4 (w : World) (ty : TypeId) (b o n c : Nat) (hn : 0 < n) (hc : ∀ j, j < n * 4 → (w.cell? ⟨b, o + j, none⟩).isSome = true) (hf : ∀ j, j < n * 4 → w.frozen? ⟨b, o + j, none⟩ = false) :
    (Builtin.clear_ #[44] ty #[.slice (some ⟨b, o, none⟩) n c]).run Try.prog w = .ok (.tuple #[]) (w.setCells b o (List.replicate (n * 4) (.int .i64 0))) := by
  have hv : ∀ w, (zeroValue 34).run Try.prog w = .ok (.agg #[.int .i64 0, .int .i64 0, .int .i64 0, .int .i64 0]) w := fun w => by
    simp [zeroValue]
    rfl
  have hst := run_storeCells_cells (P := Try.prog) b o (List.replicate (n * 4) (.int .i64 0)) 0 w (by simpa using hc) (by simpa using hf) (by intro v hv'; rw [List.eq_of_mem_replicate hv']; rfl)
  simp only [Nat.add_zero] at hst
  obtain ⟨m, rfl⟩ : ∃ m, n = m + 1 := ⟨n - 1, by omega⟩
  have hzc := zero_cells4 (m + 1)
  simp [Builtin.clear_, run_underlying Try.underlying44, hv, Value.cells, hzc, hst]
theorem own_setCells {base e k n cap g : Nat} : ∀ (vs : List Value) (o : Nat) {w : World} {xs : List Value}, w.ownsRow base e k (.slice (some ⟨g, 0, none⟩) n cap) n xs → ∃ ys, (w.setCells g o vs).ownsRow base e k (.slice (some ⟨g, 0, none⟩) n cap) n ys ∧ ys.take o = xs.take o
  | [], _, _, xs, h => ⟨xs, h, rfl⟩
  | v :: vs, o, w, xs, h => by
    obtain ⟨ys, h1, h2⟩ := own_setCells vs (o + 1) (h.stored o v).1
    refine ⟨ys, h1, ?_⟩
    have h3 := congrArg (List.take o) h2
    rw [List.take_take, List.take_take, Nat.min_eq_left (by omega)] at h3
    rw [h3, List.take_set_of_le (Nat.le_refl o)]
theorem only_cells {g : Nat} : ∀ (vs : List Value) (o : Nat) (w : World), Only (· = g) w (w.setCells g o vs)
  | [], _, w => Only.refl _ w
  | v :: r, o, w => (Only.set (F := (· = g)) w g o v rfl).trans (only_cells r (o + 1) _)
theorem own_some {W : World} {base e k n cap g i : Nat} {xs : List Value} (h : W.ownsRow base e k (.slice (some ⟨g, 0, none⟩) n cap) n xs) (hi : i < cap * k) : (W.cell? ⟨g, i, none⟩).isSome = true := by
  rcases h.2 with ⟨e', _⟩ | ⟨g', cap', cur, e', hb, hg, h1, h2, h3, h4⟩
  · cases e'
  · simp only [Value.slice.injEq, Option.some.injEq, Addr.mk.injEq, and_true, true_and] at e'
    obtain ⟨rfl, rfl⟩ := e'
    have hlt : i < cur.size := by omega
    simp [World.cell?, hg, hlt]
theorem own_cut {W : World} {base e k n cap g i : Nat} {xs : List Value} (h : W.ownsRow base e k (.slice (some ⟨g, 0, none⟩) n cap) n xs) (hi : i ≤ n) : W.ownsRow base e k (.slice (some ⟨g, 0, none⟩) i cap) i (xs.take (i * k)) := by
  rcases h.2 with ⟨e', _⟩ | ⟨g', cap', cur, e', hb, hg, h1, h2, h3, h4⟩
  · cases e'
  · simp only [Value.slice.injEq, Option.some.injEq, Addr.mk.injEq, and_true, true_and] at e'
    obtain ⟨rfl, rfl⟩ := e'
    have hik := Nat.mul_le_mul_right k hi
    have hck := Nat.mul_le_mul_right k h1
    refine ⟨?_, .inr ⟨g, cap, cur, rfl, hb, hg, Nat.le_trans hi h1, h2, h3, ?_⟩⟩
    · rw [← h4, List.take_take, Nat.min_eq_left hik, List.length_take, Array.length_toList, h3]
      omega
    · rw [← h4, List.take_take, Nat.min_eq_left hik]
/-- append into what is there, one step of a region that draws its order. -/
theorem step_append_spare {P : Program} {ops : Array Oper} {o : Oper} {a : Act} {w : World} {K : Act → World → Prop} {Q : Exit → Act → World → Prop} {E : Prop} (hgd : o.guard = none) (s x : Operand) (t : TypeId)
    (ho : o.op = .call { callee := .builtin .append, args := #[s, x], argTypes := #[t, t] })
    (base : Nat) (e : TypeId) (i : TypeInfo) (size : Nat) (ht : P.underlying t = some (.slice e)) (hi : P.info? e = some i) (hsize : i.size = size)
    (g n cap : Nat) (xs : List Value) (hs : a.eval s = .slice (some ⟨g, 0, none⟩) n cap) (hown : w.ownsRow base e size (.slice (some ⟨g, 0, none⟩) n cap) n xs)
    (ad : Addr) (m c : Nat) (news : List Value) (hx : a.eval x = .slice (some ad) m c) (hl : news.length = m * size) (hnews : ∀ j u, news[j]? = some u → w.cell? (ad.add j) = some u) (h1 : ∀ u ∈ news, u.oneCell' = true)
    (hroom : n + m ≤ cap)
    (h : ∀ w', w'.ownsRow base e size (.slice (some ⟨g, 0, none⟩) (n + m) cap) (n + m) (xs ++ news) → w.grownBy w' (some g) → K (a.put o.dst (.slice (some ⟨g, 0, none⟩) (n + m) cap)) w') :
    if Region.wanted o (yielded ops a.tmps) = true then Oper.wp P o a w K Q else E := by
  have hw : Region.wanted o (yielded ops a.tmps) = true := by simp [Region.wanted, hgd]
  rw [if_pos hw]
  exact wp_append_own_spare w s x t ho base e i size ht hi hsize g n cap xs hs hown ad m c news hx hl hnews h1 hroom h
set_option maxRecDepth 100000 in
set_option maxHeartbeats 2000000 in
theorem delete_first {W : World} {base g cap m n : Nat} {x : EV} {es : List EV} (h : W.ownsRow base 34 4 (.slice (some ⟨g, 0, none⟩) n cap) n ((x :: es).flatMap EV.cells)) (hn : n = m + 1) (hm : es.length = m) :
    Calls Try.prog 27 #[.slice (some ⟨g, 0, none⟩) n cap, .int .i64 0, .int .i64 1] W fun e w' => e = .returned (.slice (some ⟨g, 0, none⟩) m cap) ∧ w'.ownsRow base 34 4 (.slice (some ⟨g, 0, none⟩) m cap) m (es.flatMap EV.cells) ∧ Only (· = g) W w' := by
  subst hn
  obtain ⟨i0, hI0, hz0, hz1, hz2⟩ := info_parts Try.infoEv
  obtain ⟨_, _, ef, i1, i2⟩ := own_form h
  simp only [Value.slice.injEq, true_and] at ef
  obtain ⟨rfl, rfl⟩ := ef
  have hfl : (es.flatMap EV.cells).length = m * 4 := by rw [flat_len es (fun o _ => EV.len o), hm]
  have HROW := hide h
  have h0 := own_cut h (i := 0) (by omega)
  simp only [Nat.zero_mul, List.take_zero] at h0
  have HR0 := hide h0
  obtain ⟨A, hA⟩ : ∃ A : Addr, (if cap = 1 then (⟨g, 0, none⟩ : Addr) else ⟨g, 4, none⟩) = A := ⟨_, rfl⟩
  have HNW : Hid (∀ j u, (es.flatMap EV.cells)[j]? = some u → W.cell? (A.add j) = some u) := by
    refine hide (fun j u hj => ?_)
    have hjl : j < m * 4 := by have := (List.getElem?_eq_some_iff.1 hj).1; omega
    have hc : ¬ cap = 1 := by omega
    rw [if_neg hc] at hA
    rw [← hA, Go.WideShapes.add_plain]
    have h2 := HROW.out.cellAt (4 + j) (by omega)
    rw [h2, List.flatMap_cons, List.getElem?_append_right (by rw [EV.len]; omega), EV.len]
    rw [show 4 + j - 4 = j by omega]
    exact hj
  have HFL := hide hfl
  have HON : Hid (∀ u ∈ es.flatMap EV.cells, u.oneCell' = true) := hide (fun u hu => by
    obtain ⟨o, _, hu⟩ := List.mem_flatMap.1 hu
    exact EV.one o u hu)
  have hA2 : (if cap = 1 then some (⟨g, 0, none⟩ : Addr) else some ⟨g, 4, none⟩) = some A := by rw [← hA]; by_cases hc : cap = 1 <;> simp [hc]
  have HMC : Hid (0 + m ≤ cap) := hide (by omega)
  have e1 : decide ((0 : Int) ≤ 1) = true := rfl
  have q1 : (1 : Int) ≤ (m : Int) + 1 := by omega
  clear h h0 hfl hA hm
  go_enter Try.func27, Try.ntmps27
  go_upto_region 5 with fail
  go_region_law (refine step_append_spare rfl (.tmp 22) (.tmp 25) 44 rfl base 34 i0 4 Try.underlying44 hI0 hz1 g 0 cap [] (by simp [Act.eval, Act.put]) HR0.out.drew A m (cap - 1) (es.flatMap EV.cells) (by simp [Act.eval, Act.put]) HFL.out HNW.out HON.out HMC.out ?_; intro w6 o6 g6)
  all_goals
    simp only [Nat.zero_add, List.nil_append] at o6
    obtain ⟨ys, hy1, hy2⟩ := own_setCells (List.replicate (1 * 4) (.int .i64 0)) (m * 4) o6
    have hy3 : ys = es.flatMap EV.cells := by
      have l1 := hy1.1
      rw [List.take_of_length_le (by omega), List.take_of_length_le (by rw [HFL.out]; exact Nat.le_refl _)] at hy2
      exact hy2
    rw [hy3] at hy1
    have q : ∀ ty, (Builtin.clear_ #[44] ty #[.slice (some ⟨g, m * 4, none⟩) 1 (cap - m)]).run Try.prog w6 = .ok (.tuple #[]) (w6.setCells g (m * 4) (List.replicate (1 * 4) (.int .i64 0))) := fun ty => run_clear4 w6 ty g (m * 4) 1 (cap - m) (by omega) (fun j hj => own_some o6 (by omega)) (fun j _ => o6.frozenAt _)
    have HY := hide hy1
    have HOG : Hid (Only (· = g) W (w6.setCells g (m * 4) (List.replicate (1 * 4) (.int .i64 0)))) := hide (((Only.refl _ W).drew.trans (Only.of_grown g6 (fun k e => by simpa using e.symm))).trans (only_cells _ _ _))
    have hcm : ¬ cap = m := by omega
    have q3 : (m : Int) ≤ (m : Int) + 1 := by omega
    have q4 : (m : Int) + 1 ≤ (cap : Int) := by omega
    clear hy1 hy2 hy3 o6 g6
    simp only [Act.put]
    go_wp2
    go_ret
    exact ⟨rfl, HY.out, HOG.out⟩
end Go.Proofs.Ytmmdgffgnpnmeaa
