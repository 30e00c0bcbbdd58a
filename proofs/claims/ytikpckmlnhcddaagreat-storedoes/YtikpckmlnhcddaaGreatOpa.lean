/-
  How an argument that is a slice of operations is opened: each one is two strings, three integers and bytes, which lie in memory. No condition.
-/
import Derived.Test.YtikpckmlnhcddaaGreatAgs
import Derived.Test.YtikpckmlnhcddaaGreatBui
namespace Go.Proofs.YtikpckmlnhcddaaGreat
open Go.ChangeShapes Go.WideShapes Go.ChangeAt Go.RowKit

theorem Tryz.cellsI : Tryz.prog.cellsOf 3 = 1 := by kernel_rfl
theorem Tryz.cellsS : Tryz.prog.cellsOf 9 = 1 := by kernel_rfl
theorem Tryz.cellsB : Tryz.prog.cellsOf 31 = 1 := by kernel_rfl
theorem Tryz.cellsOp : Tryz.prog.cellsOf 33 = 6 := by kernel_rfl

theorem six_cells {w : World} {base : Nat} {a : Addr} {cs : List Value} (h : w.cells? base a 6 = some cs) : ∃ c0 c1 c2 c3 c4 c5, cs = [c0, c1, c2, c3, c4, c5] ∧
    w.cell? (a.add 0) = some c0 ∧ w.cell? (a.add 1) = some c1 ∧ w.cell? (a.add 2) = some c2 ∧ w.cell? (a.add 3) = some c3 ∧ w.cell? (a.add 4) = some c4 ∧ w.cell? (a.add 5) = some c5 := by
  unfold World.cells? at h
  split at h
  · have e : List.range 6 = [0, 1, 2, 3, 4, 5] := by decide
    rw [e] at h
    simp only [List.mapM_cons, List.mapM_nil, Option.bind_eq_bind, Option.bind_eq_some_iff, Option.pure_def, Option.some.injEq] at h
    obtain ⟨c0, h0, r1, ⟨c1, h1, r2, ⟨c2, h2, r3, ⟨c3, h3, r4, ⟨c4, h4, r5, ⟨c5, h5, r6, h6, rfl⟩, rfl⟩, rfl⟩, rfl⟩, rfl⟩, rfl⟩ := h
    subst h6
    exact ⟨c0, c1, c2, c3, c4, c5, rfl, h0, h1, h2, h3, h4, h5⟩
  · cases h

/-- A slice of bytes, read within something else. -/
theorem part_row {H : Type} {enc : TypeId × Value → H} {W : World} {fuel : Nat} {c : Value} {x : DataW H × List MemPlace} (h : DataW.trod enc Tryz.prog W 0 (fun _ => true) true fuel 31 [c] = some x) :
    ∃ (bp : Option Addr) (bc : Nat) (b : By), c = .slice bp b.length bc ∧ Row .u8 W (.slice bp b.length bc) b ∧ U8 b := by
  have hs : ∃ a len cap, c = .slice a len cap := by
    rcases DataW.trod_slice Tryz.underlying31 h with ⟨h0, _⟩ | ⟨a, len, cap, _, _, _, _, h0, _⟩
    · simp at h0; exact ⟨_, _, _, h0⟩
    · simp at h0; exact ⟨_, _, _, h0⟩
  obtain ⟨a, len, cap, rfl⟩ := hs
  obtain ⟨d, p⟩ := x
  have h' : DataW.trod enc Tryz.prog W 0 (fun _ => true) true fuel 31 (Value.slice a len cap).cells.toList = some (d, p) := by
    have hcs : (Value.slice a len cap).cells.toList = [.slice a len cap] := by simp [Value.cells]
    rw [hcs]; exact h
  obtain ⟨l, e, R, wf, _⟩ := arg_row Tryz.underlying31 Tryz.underlying5 (by kernel_rfl) h'
  subst e
  exact ⟨a, cap, l, rfl, R, wf_u8 wf⟩

theorem arg_ops {H : Type} {enc : TypeId × Value → H} {W : World} {fuel : Nat} {v : Value} {x : DataW H × List MemPlace}
    (hf : DataW.trod enc Tryz.prog W 0 (fun _ => true) true fuel 22 [v] = some x) : ∃ os : List OpV, Ops W W.heap.size v os ∧ (x.1 = .nil ∧ os.length = 0 ∨ ∃ elems spare, x.1 = .slice elems spare ∧ elems.length = os.length) := by
  rcases DataW.trod_slice Tryz.underlying22 hf with ⟨h0, hx⟩ | ⟨a, len, cap, elems, rest, n, _, h0, hx, _, hl, hm, hlen, hel, hsp, _⟩
  · simp at h0
    subst h0
    exact ⟨[], ⟨⟨none, 0, rfl, Nat.le_refl _, by decide, fun i hi => by simp at hi⟩, by simp⟩, .inl ⟨by rw [hx], rfl⟩⟩
  · simp at h0
    subst h0
    have each : ∀ i, i < len → ∃ o : OpV, o.ok W W.heap.size ∧ ∀ j, j < 6 → W.cell? ((a.add (i * 6)).add j) = o.cells[j]? := by
      intro i hi
      have h := hel i hi
      rw [List.getElem?_eq_getElem (by omega), Tryz.cellsOp, Option.bind_eq_some_iff] at h
      obtain ⟨cs, h1, h2⟩ := h
      obtain ⟨c0, c1, c2, c3, c4, c5, rfl, k0, k1, k2, k3, k4, k5⟩ := six_cells h1
      obtain ⟨xs, m, _, _, _, hxl, hfs⟩ := DataW.trod_struct Tryz.underlying33 h2
      have hxl' : xs.length = 6 := hxl
      match xs, hxl' with
      | [y0, y1, y2, y3, y4, y5], _ =>
        have g0 : DataW.trod enc Tryz.prog W 0 (fun _ => true) true m 3 (([c0, c1, c2, c3, c4, c5].drop 0).take (Tryz.prog.cellsOf 3)) = [y0, y1, y2, y3, y4, y5][0]? := hfs 0 _ rfl
        rw [Tryz.cellsI] at g0
        replace g0 : DataW.trod enc Tryz.prog W 0 (fun _ => true) true m 3 [c0] = some y0 := g0
        have g1 : DataW.trod enc Tryz.prog W 0 (fun _ => true) true m 9 (([c0, c1, c2, c3, c4, c5].drop 1).take (Tryz.prog.cellsOf 9)) = [y0, y1, y2, y3, y4, y5][1]? := hfs 1 _ rfl
        rw [Tryz.cellsS] at g1
        replace g1 : DataW.trod enc Tryz.prog W 0 (fun _ => true) true m 9 [c1] = some y1 := g1
        have g2 : DataW.trod enc Tryz.prog W 0 (fun _ => true) true m 9 (([c0, c1, c2, c3, c4, c5].drop 2).take (Tryz.prog.cellsOf 9)) = [y0, y1, y2, y3, y4, y5][2]? := hfs 2 _ rfl
        rw [Tryz.cellsS] at g2
        replace g2 : DataW.trod enc Tryz.prog W 0 (fun _ => true) true m 9 [c2] = some y2 := g2
        have g3 : DataW.trod enc Tryz.prog W 0 (fun _ => true) true m 3 (([c0, c1, c2, c3, c4, c5].drop 3).take (Tryz.prog.cellsOf 3)) = [y0, y1, y2, y3, y4, y5][3]? := hfs 3 _ rfl
        rw [Tryz.cellsI] at g3
        replace g3 : DataW.trod enc Tryz.prog W 0 (fun _ => true) true m 3 [c3] = some y3 := g3
        have g4 : DataW.trod enc Tryz.prog W 0 (fun _ => true) true m 3 (([c0, c1, c2, c3, c4, c5].drop 4).take (Tryz.prog.cellsOf 3)) = [y0, y1, y2, y3, y4, y5][4]? := hfs 4 _ rfl
        rw [Tryz.cellsI] at g4
        replace g4 : DataW.trod enc Tryz.prog W 0 (fun _ => true) true m 3 [c4] = some y4 := g4
        have g5 : DataW.trod enc Tryz.prog W 0 (fun _ => true) true m 31 (([c0, c1, c2, c3, c4, c5].drop 5).take (Tryz.prog.cellsOf 31)) = [y0, y1, y2, y3, y4, y5][5]? := hfs 5 _ rfl
        rw [Tryz.cellsB] at g5
        replace g5 : DataW.trod enc Tryz.prog W 0 (fun _ => true) true m 31 [c5] = some y5 := g5
        obtain ⟨n0, e0, _, _⟩ := DataW.trod_int Tryz.underlying3 g0
        obtain ⟨s1, e1, _, l1⟩ := DataW.trod_string Tryz.underlying9 g1
        obtain ⟨s2, e2, _, l2⟩ := DataW.trod_string Tryz.underlying9 g2
        obtain ⟨n3, e3, _, w3⟩ := DataW.trod_int Tryz.underlying3 g3
        obtain ⟨n4, e4, _, w4⟩ := DataW.trod_int Tryz.underlying3 g4
        obtain ⟨bp, bc, b, e5, R, U⟩ := part_row g5
        simp only [List.cons.injEq, and_true] at e0 e1 e2 e3 e4
        subst e0 e1 e2 e3 e4 e5
        have b3 := bounds_i64 w3
        have b4 := bounds_i64 w4
        refine ⟨⟨n0, s1, s2, n3, n4, bp, bc, b⟩, ⟨l1, l2, b3.1, b3.2, b4.1, b4.2, R, fun hb i hi => R.block_lt hb hi, U⟩, fun j hj => ?_⟩
        have : j = 0 ∨ j = 1 ∨ j = 2 ∨ j = 3 ∨ j = 4 ∨ j = 5 := by omega
        rcases this with rfl | rfl | rfl | rfl | rfl | rfl
        · exact k0
        · exact k1
        · exact k2
        · exact k3
        · exact k4
        · exact k5
    have pick : ∃ os : List OpV, os.length = len ∧ ∀ i, i < len → (os[i]!).ok W W.heap.size ∧ ∀ j, j < 6 → W.cell? ((a.add (i * 6)).add j) = (os[i]!).cells[j]? := by
      clear hel hsp hx hlen hl hf hm
      induction len with
      | zero => exact ⟨[], rfl, fun i hi => by omega⟩
      | succ len ih =>
        obtain ⟨os, h1, h2⟩ := ih (fun i hi => each i (by omega))
        obtain ⟨o, h3, h4⟩ := each len (by omega)
        refine ⟨os ++ [o], by simp [h1], fun i hi => ?_⟩
        rcases Nat.lt_or_ge i len with h' | h'
        · have : (os ++ [o])[i]! = os[i]! := by rw [getElem!_pos _ _ (by simp; omega), getElem!_pos _ _ (by omega), List.getElem_append_left (by omega)]
          rw [this]
          exact h2 i h'
        · obtain rfl : i = len := by omega
          have : (os ++ [o])[i]! = o := by rw [getElem!_pos _ _ (by simp; omega)]; simp [← h1]
          rw [this]
          exact ⟨h3, h4⟩
    obtain ⟨os, h1, h2⟩ := pick
    refine ⟨os, ⟨⟨some a, cap, by rw [h1], by omega, by unfold maxLen at hm; omega, fun i hi => ?_⟩, fun o ho => ?_⟩, .inr ⟨elems.map (·.1), rest.map (·.1), by rw [hx], by simp [hlen, h1]⟩⟩
    · obtain ⟨g, o, s⟩ := a
      have hc := (h2 i (by omega)).2
      have hc0 : W.cell? ((Addr.add ⟨g, o, s⟩ (i * 6)).add 0) = some (.int .i64 (os[i]!).d) := hc 0 (by omega)
      obtain rfl : s = none := by
        have h00 : W.cell? ((Addr.add ⟨g, o, s⟩ (0 * 6)).add 0) = some (.int .i64 (os[0]!).d) := (h2 0 (by omega)).2 0 (by omega)
        have := World.cell?_spot h00
        simpa [Addr.add] using this
      refine ⟨g, o, rfl, ?_, fun j hj => ?_⟩
      · obtain ⟨ob, hob, _⟩ := cells_of_cell hc0
        have := (Array.getElem?_eq_some_iff.1 hob).1
        simpa [Go.WideShapes.add_plain] using this
      · have := hc j hj
        rw [Go.WideShapes.add_plain, Go.WideShapes.add_plain] at this
        exact this
    · obtain ⟨i, hi, rfl⟩ := List.getElem_of_mem ho
      have := (h2 i (by omega)).1
      rw [getElem!_pos os i hi] at this
      exact this
end Go.Proofs.YtikpckmlnhcddaaGreat
