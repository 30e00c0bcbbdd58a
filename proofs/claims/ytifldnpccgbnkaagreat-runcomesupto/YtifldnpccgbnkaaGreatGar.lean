/-
  How an argument that is a slice of anything is opened, element by element; and what the bound of the second form says of its length. No condition.
-/
import Derived.Test.YtifldnpccgbnkaaGreatAgs
import Derived.Test.YtifldnpccgbnkaaGreatGfr
namespace Go.Proofs.YtifldnpccgbnkaaGreat
open Go.ChangeShapes Go.WideShapes Go.ChangeAt Go.RowKit

theorem mapM_get {α β : Type} {f : α → Option β} : ∀ (l : List α) (r : List β), l.mapM f = some r → r.length = l.length ∧ ∀ (j : Nat) (a : α), l[j]? = some a → f a = r[j]?
  | [], r, h => by
    simp at h
    subst h
    exact ⟨rfl, fun j a h => by simp at h⟩
  | x :: l, r, h => by
    simp only [List.mapM_cons, Option.bind_eq_bind, Option.bind_eq_some_iff, Option.pure_def, Option.some.injEq] at h
    obtain ⟨y, hy, r', hr, rfl⟩ := h
    obtain ⟨h1, h2⟩ := mapM_get l r' hr
    refine ⟨by simp [h1], fun j a hj => ?_⟩
    cases j with
    | zero => simp at hj; subst hj; simpa using hy
    | succ j => simp at hj; simpa using h2 j a hj
/-- The cells of an element. -/
theorem cells_get {w : World} {base n : Nat} {a : Addr} {cs : List Value} (h : w.cells? base a n = some cs) : cs.length = n ∧ ∀ j, j < n → w.cell? (a.add j) = cs[j]? := by
  unfold World.cells? at h
  split at h
  · obtain ⟨h1, h2⟩ := mapM_get _ _ h
    refine ⟨by simpa using h1, fun j hj => ?_⟩
    exact h2 j j (by simp [hj])
  · cases h
theorem pick_list {α : Type} [Inhabited α] {len : Nat} {R : Nat → α → Prop} (each : ∀ i, i < len → ∃ o, R i o) : ∃ os : List α, os.length = len ∧ ∀ i, i < len → R i os[i]! := by
  induction len with
  | zero => exact ⟨[], rfl, fun i hi => by omega⟩
  | succ len ih =>
    obtain ⟨os, h1, h2⟩ := ih (fun i hi => each i (by omega))
    obtain ⟨o, h3⟩ := each len (by omega)
    refine ⟨os ++ [o], by simp [h1], fun i hi => ?_⟩
    rcases Nat.lt_or_ge i len with h' | h'
    · have : (os ++ [o])[i]! = os[i]! := by rw [getElem!_pos _ _ (by simp; omega), getElem!_pos _ _ (by omega), List.getElem_append_left (by omega)]
      rw [this]
      exact h2 i h'
    · obtain rfl : i = len := by omega
      have : (os ++ [o])[i]! = o := by rw [getElem!_pos _ _ (by simp; omega)]; simp [← h1]
      rw [this]
      exact h3
/-- A slice of elements that are each of n cells and told by R. -/
theorem arg_list {H α : Type} [Inhabited α] {enc : TypeId × Value → H} {W : World} {t e : TypeId} {n fuel : Nat} {c : Value} {x : DataW H × List MemPlace} {cells : α → List Value} {wt : α → Nat} {R : α → Prop} (hn : 0 < n)
    (ht : Tryz.prog.underlying t = some (.slice e)) (hc : Tryz.prog.cellsOf e = n)
    (hone : ∀ (fuel : Nat) (cs : List Value) (y : DataW H × List MemPlace), cs.length = n → DataW.trod enc Tryz.prog W 0 (fun _ => true) true fuel e cs = some y → ∃ o : α, cs = cells o ∧ R o ∧ wt o ≤ Rows.uptoBulk y.1)
    (hf : DataW.trod enc Tryz.prog W 0 (fun _ => true) true fuel t [c] = some x) :
    ∃ (p : Option Addr) (cap : Nat) (os : List α), c = .slice p os.length cap ∧ os.length ≤ cap ∧ cap ≤ 9223372036854775807 ∧ (∀ o ∈ os, R o) ∧
      (∀ i, i < os.length → ∃ g k, p = some ⟨g, k, none⟩ ∧ ∀ j, j < n → W.cell? ⟨g, k + i * n + j, none⟩ = (cells os[i]!)[j]?) ∧ (os.map wt).sum + 1 ≤ Rows.uptoBulk x.1 ∧ (p = none → cap = 0) ∧ DatumOf x.1 os.length cap := by
  rcases DataW.trod_slice ht hf with ⟨h0, hx⟩ | ⟨a, len, cap, elems, rest, m, _, h0, hx, _, hl, hm, hlen, hel, hsp, _⟩
  · simp at h0
    subst h0
    exact ⟨none, 0, [], rfl, Nat.le_refl _, by decide, by simp, fun i hi => by simp at hi, by rw [hx]; simp [Rows.uptoBulk], fun _ => rfl, .inl ⟨by rw [hx], rfl, rfl⟩⟩
  · simp at h0
    subst h0
    have each : ∀ i, i < len → ∃ o : α, R o ∧ (∀ j, j < n → W.cell? ((a.add (i * n)).add j) = (cells o)[j]?) ∧ (∀ y, elems[i]? = some y → wt o ≤ Rows.uptoBulk y.1) := by
      intro i hi
      have h := hel i hi
      rw [List.getElem?_eq_getElem (by omega), hc, Option.bind_eq_some_iff] at h
      obtain ⟨cs, h1, h2⟩ := h
      obtain ⟨k1, k2⟩ := cells_get h1
      obtain ⟨o, e1, e2, e3⟩ := hone _ _ _ k1 h2
      subst e1
      refine ⟨o, e2, k2, fun y hy => ?_⟩
      rw [List.getElem?_eq_getElem (by omega)] at hy
      simp only [Option.some.injEq] at hy
      rw [← hy]
      exact e3
    obtain ⟨os, h1, h2⟩ := pick_list each
    refine ⟨some a, cap, os, by rw [h1], by omega, by unfold maxLen at hm; omega, fun o ho => ?_, fun i hi => ?_, ?_, (fun h => by cases h), .inr ⟨elems.map (·.1), rest.map (·.1), by rw [hx], by simp; omega, ?_⟩⟩
    · obtain ⟨i, hi, rfl⟩ := List.getElem_of_mem ho
      have := (h2 i (by omega)).1
      rw [getElem!_pos os i hi] at this
      exact this
    · obtain ⟨g, o, s⟩ := a
      obtain rfl : s = none := by
        have h00 := hel 0 (by omega)
        rw [List.getElem?_eq_getElem (by omega), hc, Option.bind_eq_some_iff] at h00
        obtain ⟨cs, h1', _⟩ := h00
        obtain ⟨k1, k2⟩ := cells_get h1'
        have k3 := k2 0 hn
        rw [List.getElem?_eq_getElem (by omega)] at k3
        have := World.cell?_spot k3
        simpa [Addr.add] using this
      refine ⟨g, o, rfl, fun j hj => ?_⟩
      have := (h2 i (by omega)).2.1 j hj
      rw [Go.WideShapes.add_plain, Go.WideShapes.add_plain] at this
      exact this
    · rw [hx]
      simp only [Rows.uptoBulk]
      have key : ∀ (os : List α) (ds : List (DataW H × List MemPlace)), os.length = ds.length → (∀ i, i < os.length → ∀ y, ds[i]? = some y → wt os[i]! ≤ Rows.uptoBulk y.1) → (os.map wt).sum ≤ Rows.uptoBulkAll (ds.map (·.1)) := by
        intro os
        induction os with
        | nil => intro ds _ _; simp
        | cons o os ih =>
          intro ds hl h
          cases ds with
          | nil => simp at hl
          | cons d ds =>
            have a1 := h 0 (by simp) d rfl
            have a2 := ih ds (by simpa using hl) (fun i hi y hy => by
              have := h (i + 1) (by simp; omega) y (by simpa using hy)
              have e : (o :: os)[i + 1]! = os[i]! := by rw [getElem!_pos (o :: os) (i + 1) (by simp; omega), getElem!_pos os i hi]; rfl
              rw [e] at this
              exact this)
            have e0 : (o :: os)[0]! = o := rfl
            rw [e0] at a1
            simp only [List.map_cons, List.sum_cons, Rows.uptoBulkAll]
            omega
      have := key os elems (by omega) (fun i hi y hy => (h2 i (by omega)).2.2 y hy)
      omega
    · have := (hsp rfl).1
      simp
      omega
end Go.Proofs.YtifldnpccgbnkaaGreat

/-
  How an argument that is a graph is opened: its operators and their inputs lie in memory. No condition.
-/
namespace Go.Proofs.YtifldnpccgbnkaaGreat
open Go.ChangeShapes Go.WideShapes Go.ChangeAt Go.RowKit

def I6 (n : Int) : Prop := -9223372036854775808 ≤ n ∧ n ≤ 9223372036854775807
def GE.fine (e : GE) : Prop := I6 e.f ∧ I6 e.p
def GO.fine (o : GO) : Prop := I6 o.kind ∧ I6 o.part ∧ I6 o.fn ∧ I6 o.arg ∧ ∀ e ∈ o.ins, e.fine
def GO.wt (o : GO) : Nat := o.ins.length + 1
def weightG (os : List GO) : Nat := (os.map GO.wt).sum
theorem Tryz.cellsEdge : Tryz.prog.cellsOf 52 = 2 := by kernel_rfl
theorem Tryz.cellsOp : Tryz.prog.cellsOf 55 = 5 := by kernel_rfl
theorem Tryz.cellsGraph : Tryz.prog.cellsOf 24 = 2 := by kernel_rfl
theorem Tryz.cellsInt : Tryz.prog.cellsOf 3 = 1 := by kernel_rfl
theorem Tryz.cellsI64 : Tryz.prog.cellsOf 2 = 1 := by kernel_rfl
theorem Tryz.cellsEdges : Tryz.prog.cellsOf 53 = 1 := by kernel_rfl
theorem Tryz.cellsOps : Tryz.prog.cellsOf 22 = 1 := by kernel_rfl

def GE.cells (e : GE) : List Value := [.int .i64 e.f, .int .i64 e.p]
theorem arg_edge {H : Type} {enc : TypeId × Value → H} {W : World} (fuel : Nat) (cs : List Value) (y : DataW H × List MemPlace) (hl : cs.length = 2) (h : DataW.trod enc Tryz.prog W 0 (fun _ => true) true fuel 52 cs = some y) :
    ∃ o : GE, cs = o.cells ∧ o.fine ∧ 1 ≤ Rows.uptoBulk y.1 := by
  match cs, hl with
  | [c0, c1], _ =>
    obtain ⟨xs, m, _, _, _, hxl, hfs⟩ := DataW.trod_struct Tryz.underlying52 h
    have hxl' : xs.length = 2 := hxl
    match xs, hxl' with
    | [y0, y1], _ =>
      have g0 : DataW.trod enc Tryz.prog W 0 (fun _ => true) true m 3 (([c0, c1].drop 0).take (Tryz.prog.cellsOf 3)) = [y0, y1][0]? := hfs 0 _ rfl
      rw [Tryz.cellsInt] at g0
      replace g0 : DataW.trod enc Tryz.prog W 0 (fun _ => true) true m 3 [c0] = some y0 := g0
      have g1 : DataW.trod enc Tryz.prog W 0 (fun _ => true) true m 3 (([c0, c1].drop 1).take (Tryz.prog.cellsOf 3)) = [y0, y1][1]? := hfs 1 _ rfl
      rw [Tryz.cellsInt] at g1
      replace g1 : DataW.trod enc Tryz.prog W 0 (fun _ => true) true m 3 [c1] = some y1 := g1
      obtain ⟨n0, e0, _, w0⟩ := DataW.trod_int Tryz.underlying3 g0
      obtain ⟨n1, e1, _, w1⟩ := DataW.trod_int Tryz.underlying3 g1
      simp only [List.cons.injEq, and_true] at e0 e1
      subst e0 e1
      have b0 := bounds_i64 w0
      have b1 := bounds_i64 w1
      exact ⟨⟨n0, n1⟩, rfl, ⟨⟨b0.1, by have := b0.2; omega⟩, ⟨b1.1, by have := b1.2; omega⟩⟩, bulk_one _⟩
theorem sum_ones : ∀ (es : List GE), (es.map fun _ => 1).sum = es.length
  | [] => rfl
  | _ :: es => by simp only [List.map_cons, List.sum_cons, List.length_cons, sum_ones es]; omega
theorem arg_edges {H : Type} {enc : TypeId × Value → H} {W : World} {fuel : Nat} {c : Value} {x : DataW H × List MemPlace} (h : DataW.trod enc Tryz.prog W 0 (fun _ => true) true fuel 53 [c] = some x) :
    ∃ (ip : Option Addr) (ic : Nat) (es : List GE), c = .slice ip es.length ic ∧ ERow W ip ic es ∧ (∀ e ∈ es, e.fine) ∧ es.length + 1 ≤ Rows.uptoBulk x.1 := by
  obtain ⟨p, cap, es, h1, h2, h3, h4, h5, h6, _⟩ := arg_list (cells := GE.cells) (wt := fun _ => 1) (R := GE.fine) (by decide) Tryz.underlying53 Tryz.cellsEdge arg_edge h
  refine ⟨p, cap, es, h1, ⟨h2, h3, fun i hi => ?_⟩, h4, ?_⟩
  · obtain ⟨g, k, e, hc⟩ := h5 i hi
    exact ⟨g, k, e, hc 0 (by decide), hc 1 (by decide)⟩
  · rw [sum_ones] at h6
    exact h6
theorem arg_op {H : Type} {enc : TypeId × Value → H} {W : World} (fuel : Nat) (cs : List Value) (y : DataW H × List MemPlace) (hl : cs.length = 5) (h : DataW.trod enc Tryz.prog W 0 (fun _ => true) true fuel 55 cs = some y) :
    ∃ o : OV, cs = o.cells ∧ (o.ok W ∧ o.o.fine) ∧ o.o.wt ≤ Rows.uptoBulk y.1 := by
  match cs, hl with
  | [c0, c1, c2, c3, c4], _ =>
    obtain ⟨xs, m, _, hy, _, hxl, hfs⟩ := DataW.trod_struct Tryz.underlying55 h
    have hxl' : xs.length = 5 := hxl
    match xs, hxl' with
    | [y0, y1, y2, y3, y4], _ =>
      have g0 : DataW.trod enc Tryz.prog W 0 (fun _ => true) true m 3 (([c0, c1, c2, c3, c4].drop 0).take (Tryz.prog.cellsOf 3)) = [y0, y1, y2, y3, y4][0]? := hfs 0 _ rfl
      rw [Tryz.cellsInt] at g0
      replace g0 : DataW.trod enc Tryz.prog W 0 (fun _ => true) true m 3 [c0] = some y0 := g0
      have g1 : DataW.trod enc Tryz.prog W 0 (fun _ => true) true m 3 (([c0, c1, c2, c3, c4].drop 1).take (Tryz.prog.cellsOf 3)) = [y0, y1, y2, y3, y4][1]? := hfs 1 _ rfl
      rw [Tryz.cellsInt] at g1
      replace g1 : DataW.trod enc Tryz.prog W 0 (fun _ => true) true m 3 [c1] = some y1 := g1
      have g2 : DataW.trod enc Tryz.prog W 0 (fun _ => true) true m 3 (([c0, c1, c2, c3, c4].drop 2).take (Tryz.prog.cellsOf 3)) = [y0, y1, y2, y3, y4][2]? := hfs 2 _ rfl
      rw [Tryz.cellsInt] at g2
      replace g2 : DataW.trod enc Tryz.prog W 0 (fun _ => true) true m 3 [c2] = some y2 := g2
      have g3 : DataW.trod enc Tryz.prog W 0 (fun _ => true) true m 2 (([c0, c1, c2, c3, c4].drop 3).take (Tryz.prog.cellsOf 2)) = [y0, y1, y2, y3, y4][3]? := hfs 3 _ rfl
      rw [Tryz.cellsI64] at g3
      replace g3 : DataW.trod enc Tryz.prog W 0 (fun _ => true) true m 2 [c3] = some y3 := g3
      have g4 : DataW.trod enc Tryz.prog W 0 (fun _ => true) true m 53 (([c0, c1, c2, c3, c4].drop 4).take (Tryz.prog.cellsOf 53)) = [y0, y1, y2, y3, y4][4]? := hfs 4 _ rfl
      rw [Tryz.cellsEdges] at g4
      replace g4 : DataW.trod enc Tryz.prog W 0 (fun _ => true) true m 53 [c4] = some y4 := g4
      obtain ⟨n0, e0, _, w0⟩ := DataW.trod_int Tryz.underlying3 g0
      obtain ⟨n1, e1, _, w1⟩ := DataW.trod_int Tryz.underlying3 g1
      obtain ⟨n2, e2, _, w2⟩ := DataW.trod_int Tryz.underlying3 g2
      obtain ⟨n3, e3, _, w3⟩ := DataW.trod_int Tryz.underlying2 g3
      obtain ⟨ip, ic, es, e4, R, F, B⟩ := arg_edges g4
      simp only [List.cons.injEq, and_true] at e0 e1 e2 e3
      subst e0 e1 e2 e3 e4
      have b0 := bounds_i64 w0
      have b1 := bounds_i64 w1
      have b2 := bounds_i64 w2
      have b3 := bounds_i64 w3
      refine ⟨⟨⟨n0, n1, n2, n3, es⟩, ip, ic⟩, rfl, ⟨R, ⟨b0.1, by have := b0.2; omega⟩, ⟨b1.1, by have := b1.2; omega⟩, ⟨b2.1, by have := b2.2; omega⟩, ⟨b3.1, by have := b3.2; omega⟩, F⟩, ?_⟩
      rw [hy]
      have := bulk_one y0.1
      simp only [GO.wt, Rows.uptoBulk, Rows.uptoBulkAll, List.map_cons, List.map_nil]
      omega
theorem arg_graph {H : Type} {enc : TypeId × Value → H} {W : World} {fuel : Nat} {cs : Array Value} {x : DataW H × List MemPlace} (hs : cs.size = 2) (h : DataW.trod enc Tryz.prog W 0 (fun _ => true) true fuel 24 cs.toList = some x) :
    ∃ (parts : Int) (p : Option Addr) (cap : Nat) (os : List OV), cs = #[.int .i64 parts, .slice p os.length cap] ∧ I6 parts ∧ GRow W p cap os ∧ (∀ o ∈ os, o.o.fine) ∧ weightG (os.map OV.o) + 1 ≤ Rows.uptoBulk x.1 := by
  obtain ⟨cl⟩ := cs
  have hl : cl.length = 2 := by simpa using hs
  match cl, hl with
  | [c0, c1], _ =>
    obtain ⟨xs, m, _, hy, _, hxl, hfs⟩ := DataW.trod_struct Tryz.underlying24 h
    have hxl' : xs.length = 2 := hxl
    match xs, hxl' with
    | [y0, y1], _ =>
      have g0 : DataW.trod enc Tryz.prog W 0 (fun _ => true) true m 3 (([c0, c1].drop 0).take (Tryz.prog.cellsOf 3)) = [y0, y1][0]? := hfs 0 _ rfl
      rw [Tryz.cellsInt] at g0
      replace g0 : DataW.trod enc Tryz.prog W 0 (fun _ => true) true m 3 [c0] = some y0 := g0
      have g1 : DataW.trod enc Tryz.prog W 0 (fun _ => true) true m 22 (([c0, c1].drop 1).take (Tryz.prog.cellsOf 22)) = [y0, y1][1]? := hfs 1 _ rfl
      rw [Tryz.cellsOps] at g1
      replace g1 : DataW.trod enc Tryz.prog W 0 (fun _ => true) true m 22 [c1] = some y1 := g1
      obtain ⟨n0, e0, _, w0⟩ := DataW.trod_int Tryz.underlying3 g0
      obtain ⟨p, cap, os, h1, h2, h3, h4, h5, h6, _⟩ := arg_list (cells := OV.cells) (wt := fun o => o.o.wt) (R := fun o : OV => o.ok W ∧ o.o.fine) (by decide) Tryz.underlying22 Tryz.cellsOp arg_op g1
      simp only [List.cons.injEq, and_true] at e0
      subst e0 h1
      have b0 := bounds_i64 w0
      refine ⟨n0, p, cap, os, rfl, ⟨b0.1, by have := b0.2; omega⟩, ⟨h2, h3, h5, fun o ho => (h4 o ho).1⟩, fun o ho => (h4 o ho).2, ?_⟩
      rw [hy]
      have e : (os.map fun o => o.o.wt).sum = weightG (os.map OV.o) := by unfold weightG; rw [List.map_map]; rfl
      rw [e] at h6
      have := bulk_one y0.1
      simp only [Rows.uptoBulk, Rows.uptoBulkAll, List.map_cons, List.map_nil]
      omega
end Go.Proofs.YtifldnpccgbnkaaGreat
