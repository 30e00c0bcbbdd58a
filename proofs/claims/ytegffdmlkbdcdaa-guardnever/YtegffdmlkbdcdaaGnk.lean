/-
  slices.Delete of one letter. The conditions: lengths.
-/
import Derived.Test.YtegffdmlkbdcdaaGnf
import Derived.Deep.DeepAppendRoom
import Derived.WalkMore
import Derived.Deep.RegionLaw
namespace Go.Proofs.Ytegffdmlkbdcdaa
open Go.RowKit

theorem LT.len (x : LT) : x.cells.length = 5 := rfl
theorem own_setCells {base e k n cap g : Nat} : ∀ (vs : List Value) (o : Nat) {w : World} {xs : List Value}, w.ownsRow base e k (.slice (some ⟨g, 0, none⟩) n cap) n xs → ∃ ys, (w.setCells g o vs).ownsRow base e k (.slice (some ⟨g, 0, none⟩) n cap) n ys ∧ ys.take o = xs.take o
  | [], _, _, xs, h => ⟨xs, h, rfl⟩
  | v :: vs, o, w, xs, h => by
    obtain ⟨ys, h1, h2⟩ := own_setCells vs (o + 1) (h.stored o v).1
    refine ⟨ys, h1, ?_⟩
    have h3 := congrArg (List.take o) h2
    rw [List.take_take, List.take_take, Nat.min_eq_left (by omega)] at h3
    rw [h3, List.take_set_of_le (Nat.le_refl o)]
theorem only_cells {g : Nat} : ∀ (vs : List Value) (o : Nat) (w : World), Only (· = g) w (w.setCells g o vs)
  | [], _, w => Only.refl _ w
  | v :: r, o, w => (Only.set (F := (· = g)) w g o v rfl).trans (only_cells r (o + 1) _)
theorem own_some {W : World} {base e k n cap g i : Nat} {xs : List Value} (h : W.ownsRow base e k (.slice (some ⟨g, 0, none⟩) n cap) n xs) (hi : i < cap * k) : (W.cell? ⟨g, i, none⟩).isSome = true := by
  rcases h.2 with ⟨e', _⟩ | ⟨g', cap', cur, e', hb, hg, h1, h2, h3, h4⟩
  · cases e'
  · simp only [Value.slice.injEq, Option.some.injEq, Addr.mk.injEq, and_true, true_and] at e'
    obtain ⟨rfl, rfl⟩ := e'
    have hlt : i < cur.size := by omega
    simp [World.cell?, hg, hlt]
theorem own_cut {W : World} {base e k n cap g i : Nat} {xs : List Value} (h : W.ownsRow base e k (.slice (some ⟨g, 0, none⟩) n cap) n xs) (hi : i ≤ n) : W.ownsRow base e k (.slice (some ⟨g, 0, none⟩) i cap) i (xs.take (i * k)) := by
  rcases h.2 with ⟨e', _⟩ | ⟨g', cap', cur, e', hb, hg, h1, h2, h3, h4⟩
  · cases e'
  · simp only [Value.slice.injEq, Option.some.injEq, Addr.mk.injEq, and_true, true_and] at e'
    obtain ⟨rfl, rfl⟩ := e'
    have hik := Nat.mul_le_mul_right k hi
    have hck := Nat.mul_le_mul_right k h1
    refine ⟨?_, .inr ⟨g, cap, cur, rfl, hb, hg, Nat.le_trans hi h1, h2, h3, ?_⟩⟩
    · rw [← h4, List.take_take, Nat.min_eq_left hik, List.length_take, Array.length_toList, h3]
      omega
    · rw [← h4, List.take_take, Nat.min_eq_left hik]
/-- append into what is there, one step of a region that draws its order. -/
theorem step_append_spare {P : Program} {ops : Array Oper} {o : Oper} {a : Act} {w : World} {K : Act → World → Prop} {Q : Exit → Act → World → Prop} {E : Prop} (hgd : o.guard = none) (s x : Operand) (t : TypeId)
    (ho : o.op = .call { callee := .builtin .append, args := #[s, x], argTypes := #[t, t] })
    (base : Nat) (e : TypeId) (i : TypeInfo) (size : Nat) (ht : P.underlying t = some (.slice e)) (hi : P.info? e = some i) (hsize : i.size = size)
    (g n cap : Nat) (xs : List Value) (hs : a.eval s = .slice (some ⟨g, 0, none⟩) n cap) (hown : w.ownsRow base e size (.slice (some ⟨g, 0, none⟩) n cap) n xs)
    (ad : Addr) (m c : Nat) (news : List Value) (hx : a.eval x = .slice (some ad) m c) (hl : news.length = m * size) (hnews : ∀ j u, news[j]? = some u → w.cell? (ad.add j) = some u) (h1 : ∀ u ∈ news, u.oneCell' = true)
    (hroom : n + m ≤ cap)
    (h : ∀ w', w'.ownsRow base e size (.slice (some ⟨g, 0, none⟩) (n + m) cap) (n + m) (xs ++ news) → w.grownBy w' (some g) → K (a.put o.dst (.slice (some ⟨g, 0, none⟩) (n + m) cap)) w') :
    if Region.wanted o (yielded ops a.tmps) = true then Oper.wp P o a w K Q else E := by
  have hw : Region.wanted o (yielded ops a.tmps) = true := by simp [Region.wanted, hgd]
  rw [if_pos hw]
  exact wp_append_own_spare w s x t ho base e i size ht hi hsize g n cap xs hs hown ad m c news hx hl hnews h1 hroom h
def zeros (n : Nat) : List Value := (Builtin.zeroCells #[.int .i64 0, .bool false, .int .i64 0, .int .i64 0, .int .i64 0] n).toList
theorem zeros_len (n : Nat) : (zeros n).length = n * 5 := by simp [zeros, Builtin.zeroCells]
theorem zeros_one (n : Nat) : ∀ v ∈ zeros n, v.oneCell' = true := by
  intro v hv
  simp only [zeros, Builtin.zeroCells, Array.toList_map, List.mem_map, Array.toList_range, List.mem_range] at hv
  obtain ⟨i, _, rfl⟩ := hv
  have hq : i % 5 < 5 := Nat.mod_lt _ (by decide)
  show ((#[Value.int .i64 0, .bool false, .int .i64 0, .int .i64 0, .int .i64 0] : Array Value)[i % 5]!).oneCell' = true
  generalize i % 5 = q at hq
  have : q = 0 ∨ q = 1 ∨ q = 2 ∨ q = 3 ∨ q = 4 := by omega
  rcases this with rfl | rfl | rfl | rfl | rfl <;> rfl
theorem run_clear5 (w : World) (ty : TypeId) (b o n c : Nat) (hn : 0 < n) (hc : ∀ j, j < n * 5 → (w.cell? ⟨b, o + j, none⟩).isSome = true) (hf : ∀ j, j < n * 5 → w.frozen? ⟨b, o + j, none⟩ = false) :
    (Builtin.clear_ #[42] ty #[.slice (some ⟨b, o, none⟩) n c]).run Try.prog w = .ok (.tuple #[]) (w.setCells b o (zeros n)) := by
  have hv : ∀ w, (zeroValue 64).run Try.prog w = .ok (.agg #[.int .i64 0, .bool false, .int .i64 0, .int .i64 0, .int .i64 0]) w := fun w => by
    simp [zeroValue]
    rfl
  have hst := run_storeCells_cells (P := Try.prog) b o (zeros n) 0 w (by simpa [zeros_len] using hc) (by simpa [zeros_len] using hf) (fun v hv' => zeros_one n v hv')
  simp only [Nat.add_zero] at hst
  obtain ⟨m, rfl⟩ : ∃ m, n = m + 1 := ⟨n - 1, by omega⟩
  have hzc : (Builtin.zeroCells #[.int .i64 0, .bool false, .int .i64 0, .int .i64 0, .int .i64 0] (m + 1)).toList = zeros (m + 1) := rfl
  simp [Builtin.clear_, run_underlying Try.underlying42, hv, Value.cells, hzc, hst]
theorem lt_one (ks : List LT) : ∀ u ∈ ks.flatMap LT.cells, u.oneCell' = true := by
  intro u hu
  obtain ⟨x, _, hx⟩ := List.mem_flatMap.1 hu
  simp only [LT.cells, List.mem_cons, List.not_mem_nil, or_false] at hx
  rcases hx with rfl | rfl | rfl | rfl | rfl <;> rfl
theorem lt_len (ks : List LT) : (ks.flatMap LT.cells).length = ks.length * 5 := flat_len ks (fun o _ => LT.len o)
theorem lt_take : ∀ (ks : List LT) (i : Nat), (ks.flatMap LT.cells).take (i * 5) = (ks.take i).flatMap LT.cells
  | [], i => by simp
  | c :: cs, 0 => by simp
  | c :: cs, i + 1 => by
    have e1 : (i + 1) * 5 = c.cells.length + i * 5 := by rw [LT.len]; omega
    rw [List.flatMap_cons, e1, List.take_length_add_append, lt_take cs i, List.take_succ_cons, List.flatMap_cons]
theorem lt_drop : ∀ (ks : List LT) (i : Nat), (ks.flatMap LT.cells).drop (i * 5) = (ks.drop i).flatMap LT.cells
  | [], i => by simp
  | c :: cs, 0 => by simp
  | c :: cs, i + 1 => by
    have e1 : (i + 1) * 5 = c.cells.length + i * 5 := by rw [LT.len]; omega
    rw [List.flatMap_cons, e1, List.drop_length_add_append, lt_drop cs i, List.drop_succ_cons]
set_option maxRecDepth 100000 in
set_option maxHeartbeats 2000000 in
theorem delete_at {W : World} {base g cap m i : Nat} {ks : List LT} (h : W.ownsRow base 64 5 (.slice (some ⟨g, 0, none⟩) (m + 1) cap) (m + 1) (ks.flatMap LT.cells)) (hn : ks.length = m + 1) (hi : i ≤ m) :
    Calls Try.prog 38 #[.slice (some ⟨g, 0, none⟩) (m + 1) cap, .int .i64 (i : Int), .int .i64 ((i : Int) + 1)] W fun e w' => e = .returned (.slice (some ⟨g, 0, none⟩) m cap) ∧ w'.ownsRow base 64 5 (.slice (some ⟨g, 0, none⟩) m cap) m ((ks.take i ++ ks.drop (i + 1)).flatMap LT.cells) ∧ Only (· = g) W w' := by
  obtain ⟨i0, hI0, hz0, hz1, hz2⟩ := info_partsL Try.infoLT
  obtain ⟨_, _, ef, i1, i2⟩ := own_form h
  simp only [Value.slice.injEq, true_and] at ef
  obtain ⟨rfl, rfl⟩ := ef
  have hfl : ((ks.drop (i + 1)).flatMap LT.cells).length = (m - i) * 5 := by rw [lt_len, List.length_drop, hn]; omega
  have HROW := hide h
  have h0 := own_cut h (i := i) (by omega)
  rw [lt_take] at h0
  have HR0 := hide h0
  obtain ⟨A, hA⟩ : ∃ A : Addr, (if cap = i + 1 then (⟨g, 0, none⟩ : Addr) else ⟨g, (i + 1) * 5, none⟩) = A := ⟨_, rfl⟩
  have HNW : Hid (∀ j u, ((ks.drop (i + 1)).flatMap LT.cells)[j]? = some u → W.cell? (A.add j) = some u) := by
    refine hide (fun j u hj => ?_)
    have hjl : j < (m - i) * 5 := by have := (List.getElem?_eq_some_iff.1 hj).1; omega
    have hc : ¬ cap = i + 1 := by omega
    rw [if_neg hc] at hA
    rw [← hA, Go.WideShapes.add_plain]
    have h2 := HROW.out.cellAt ((i + 1) * 5 + j) (by omega)
    rw [h2, ← List.getElem?_drop, lt_drop]
    exact hj
  have HFL := hide hfl
  have HON : Hid (∀ u ∈ (ks.drop (i + 1)).flatMap LT.cells, u.oneCell' = true) := hide (lt_one _)
  have hA2 : (if cap = i + 1 then some (⟨g, 0, none⟩ : Addr) else some ⟨g, (i + 1) * 5, none⟩) = some A := by rw [← hA]; by_cases hc : cap = i + 1 <;> simp [hc]
  have HMC : Hid (i + (m - i) ≤ cap) := hide (by omega)
  have him : i + (m - i) = m := by omega
  have q0 : (i : Int) ≤ (i : Int) + 1 := by omega
  have q1 : (i : Int) + 1 ≤ (m : Int) + 1 := by omega
  have q2 : (i : Int) ≤ (m : Int) + 1 := by omega
  have q3 : (m : Int) + 1 ≤ (cap : Int) := by omega
  have q4 : (i : Int) ≤ (cap : Int) := by omega
  have q5 : (i : Int) + 1 ≤ (cap : Int) := by omega
  have qe : ((i : Int) == (i : Int) + 1) = false := by simpa using (by omega : ¬ (i : Int) = (i : Int) + 1)
  have qz : (0 : Int) ≤ (i : Int) + 1 := by omega
  have qt : ((i : Int) + 1).toNat = i + 1 := by omega
  have qd : m + 1 - (i + 1) = m - i := by omega
  have HCAT : Hid ((ks.take i ++ ks.drop (i + 1)).flatMap LT.cells = (ks.take i).flatMap LT.cells ++ (ks.drop (i + 1)).flatMap LT.cells) := hide (List.flatMap_append)
  have HCL : Hid (((ks.take i ++ ks.drop (i + 1)).flatMap LT.cells).length = m * 5) := hide (by rw [lt_len, List.length_append, List.length_take, List.length_drop, hn]; omega)
  clear h h0 hfl hA hn
  go_enter Try.func38, Try.ntmps38
  go_upto_region 5 with fail
  go_region_law (refine step_append_spare rfl (.tmp 22) (.tmp 25) 42 rfl base 64 i0 5 Try.underlying42 hI0 hz1 g i cap ((ks.take i).flatMap LT.cells) (by simp [Act.eval, Act.put]) HR0.out.drew A (m - i) (cap - (i + 1)) ((ks.drop (i + 1)).flatMap LT.cells) (by simp [Act.eval, Act.put]) HFL.out HNW.out HON.out HMC.out ?_; intro w6 o6 g6)
  all_goals
    rw [← HCAT.out] at o6
    try rw [him] at o6
    obtain ⟨ys, hy1, hy2⟩ := own_setCells (zeros 1) (m * 5) o6
    have hy3 : ys = (ks.take i ++ ks.drop (i + 1)).flatMap LT.cells := by
      have l1 := hy1.1
      rw [List.take_of_length_le (by omega), List.take_of_length_le (by rw [HCL.out]; exact Nat.le_refl _)] at hy2
      exact hy2
    rw [hy3] at hy1
    have q : ∀ ty, (Builtin.clear_ #[42] ty #[.slice (some ⟨g, m * 5, none⟩) 1 (cap - m)]).run Try.prog w6 = .ok (.tuple #[]) (w6.setCells g (m * 5) (zeros 1)) := fun ty => run_clear5 w6 ty g (m * 5) 1 (cap - m) (by omega) (fun j hj => own_some o6 (by omega)) (fun j _ => o6.frozenAt _)
    have HY := hide hy1
    have HOG : Hid (Only (· = g) W (w6.setCells g (m * 5) (zeros 1))) := hide (((Only.refl _ W).drew.trans (Only.of_grown g6 (fun k e => by simpa using e.symm))).trans (only_cells _ _ _))
    have hcm : ¬ cap = m := by omega
    have q7 : (m : Int) ≤ (m : Int) + 1 := by omega
    clear hy1 hy2 hy3 o6 g6
    try simp only [Act.put]
    go_wp2
    go_ret
    exact ⟨rfl, HY.out, HOG.out⟩
end Go.Proofs.Ytegffdmlkbdcdaa
