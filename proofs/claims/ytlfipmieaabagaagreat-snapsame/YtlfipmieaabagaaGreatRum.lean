/-
  Records and lists of records, plainly and as they lie in memory; how arguments of them are opened. No conditions.
-/
import Derived.Test.YtlfipmieaabagaaGreatSeg
import Derived.Test.YtlfipmieaabagaaGreatGar
import Derived.Laws.Rows
namespace Go.Proofs.YtlfipmieaabagaaGreat
open Go.ChangeShapes Go.WideShapes Go.ChangeAt Go.RowKit

structure RC where
  key : Int
  val : Int
  deriving DecidableEq
instance : Inhabited RC := ⟨⟨0, 0⟩⟩
def RC.cells (x : RC) : List Value := [.int .i64 x.key, .int .i64 x.val]
def RC.fine (x : RC) : Prop := I6 x.key ∧ I6 x.val
theorem RC.len (x : RC) : x.cells.length = 2 := rfl
theorem RC.one (x : RC) : ∀ u ∈ x.cells, u.oneCell' = true := by
  intro u hu
  simp only [RC.cells, List.mem_cons, List.not_mem_nil, or_false] at hu
  rcases hu with rfl | rfl <;> rfl
/-- A list of things of n cells each, as it lies. -/
structure LRow {α : Type} [Inhabited α] (cells : α → List Value) (n : Nat) (W : World) (p : Option Addr) (cap : Nat) (os : List α) : Prop where
  le : os.length ≤ cap
  top : cap ≤ 9223372036854775807
  nil : p = none → cap = 0
  cell : ∀ i, i < os.length → ∃ g o, p = some ⟨g, o, none⟩ ∧ ∀ j, j < n → W.cell? ⟨g, o + i * n + j, none⟩ = (cells os[i]!)[j]?
theorem LRow.below {α : Type} [Inhabited α] {cells : α → List Value} {n : Nat} {W W' : World} {p : Option Addr} {cap : Nat} {os : List α} (hl : ∀ o, (cells o).length = n) (h : LRow cells n W p cap os) (hb : Below W.heap.size W W') : LRow cells n W' p cap os :=
  ⟨h.le, h.top, h.nil, fun i hi => by
    obtain ⟨g, o, e, h1⟩ := h.cell i hi
    refine ⟨g, o, e, fun j hj => ?_⟩
    have h2 := h1 j hj
    rw [List.getElem?_eq_getElem (by rw [hl]; exact hj)] at h2 ⊢
    exact cell_later hb h2⟩
theorem LRow.of_own {α : Type} [Inhabited α] {cells : α → List Value} {size : Nat} {W : World} {base n cap : Nat} {e : TypeId} {p : Option Addr} {os : List α} (hl : ∀ o, (cells o).length = size) (hn : os.length = n) (h : W.ownsRow base e size (.slice p n cap) n (os.flatMap cells)) : LRow cells size W p cap os := by
  obtain ⟨h1, h2, h3, h4⟩ := own_list (cells := cells) (fun o _ => hl o) hn h
  exact ⟨by omega, h2, h3, h4⟩
theorem LRow.seg {α : Type} [Inhabited α] {cells : α → List Value} {size : Nat} {W : World} {p : Option Addr} {cap : Nat} {os : List α} (hs : 0 < size) (hl : ∀ o, (cells o).length = size) (h1 : ∀ o, ∀ u ∈ cells o, u.oneCell' = true) (h : LRow cells size W p cap os) : Seg W size (.slice p os.length cap) os.length (os.flatMap cells) :=
  Seg.of_list hs (fun o _ => hl o) (fun o _ => h1 o) h.le h.top h.nil h.cell
theorem LRow.only {α : Type} [Inhabited α] {cells : α → List Value} {n : Nat} {W W' : World} {p : Option Addr} {cap : Nat} {os : List α} {F : Nat → Prop} (hl : ∀ o, (cells o).length = n) (h : LRow cells n W p cap os) (hb : Only F W W') (hF : ∀ a, p = some a → ¬ F a.block) : LRow cells n W' p cap os :=
  ⟨h.le, h.top, h.nil, fun i hi => by
    obtain ⟨g, o, e, h1⟩ := h.cell i hi
    refine ⟨g, o, e, fun j hj => ?_⟩
    have h2 := h1 j hj
    rw [List.getElem?_eq_getElem (by rw [hl]; exact hj)] at h2 ⊢
    exact hb.cell h2 (fun hf => hF ⟨g, o, none⟩ e hf)⟩
abbrev RRow (W : World) (p : Option Addr) (cap : Nat) (os : List RC) : Prop := LRow RC.cells 2 W p cap os
theorem RRow.later {W W' : World} {p : Option Addr} {cap : Nat} {os : List RC} (h : RRow W p cap os) (hb : Below W.heap.size W W') : RRow W' p cap os := LRow.below RC.len h hb
theorem RRow.at {W : World} {p : Option Addr} {cap : Nat} {os : List RC} (h : RRow W p cap os) {i : Nat} (hi : i < os.length) {x : RC} (hx : os[i]! = x) : ∃ g o, p = some ⟨g, o, none⟩ ∧ W.cell? ⟨g, o + i * 2, none⟩ = some (.int .i64 x.key) ∧ W.cell? ⟨g, o + i * 2 + 1, none⟩ = some (.int .i64 x.val) := by
  obtain ⟨g, o, e, hc⟩ := h.cell i hi
  rw [hx] at hc
  exact ⟨g, o, e, hc 0 (by decide), hc 1 (by decide)⟩
/-- A list of records, with where it lies. -/
structure SV where
  rs : List RC
  p : Option Addr
  c : Nat
instance : Inhabited SV := ⟨⟨[], none, 0⟩⟩
def SV.cells (x : SV) : List Value := [.slice x.p x.rs.length x.c]
def SV.ok (x : SV) (W : World) : Prop := RRow W x.p x.c x.rs
theorem SV.len (x : SV) : x.cells.length = 1 := rfl
theorem SV.one (x : SV) : ∀ u ∈ x.cells, u.oneCell' = true := by
  intro u hu
  simp only [SV.cells, List.mem_cons, List.not_mem_nil, or_false] at hu
  rcases hu with rfl <;> rfl
/-- A list of lists of records as it lies. -/
structure LL (W : World) (p : Option Addr) (cap : Nat) (xs : List SV) : Prop where
  row : LRow SV.cells 1 W p cap xs
  ok : ∀ x ∈ xs, x.ok W
theorem LL.later {W W' : World} {p : Option Addr} {cap : Nat} {xs : List SV} (h : LL W p cap xs) (hb : Below W.heap.size W W') : LL W' p cap xs :=
  ⟨h.row.below SV.len hb, fun x hx => RRow.later (h.ok x hx) hb⟩
theorem LL.at {W : World} {p : Option Addr} {cap : Nat} {xs : List SV} (h : LL W p cap xs) {i : Nat} (hi : i < xs.length) : ∃ g o, p = some ⟨g, o, none⟩ ∧ W.cell? ⟨g, o + i, none⟩ = some (.slice (xs[i]!).p (xs[i]!).rs.length (xs[i]!).c) := by
  obtain ⟨g, o, e, hc⟩ := h.row.cell i hi
  have h0 := hc 0 (by decide)
  rw [Nat.mul_one] at h0
  exact ⟨g, o, e, h0⟩
theorem Tryz.cellsRec : Tryz.prog.cellsOf 51 = 2 := by kernel_rfl
theorem Tryz.cellsRecs : Tryz.prog.cellsOf 49 = 1 := by kernel_rfl
theorem Tryz.infoRec : (Tryz.prog.info? 51).map (fun i => (i.zero, i.size, i.bytes)) = some (some (.agg #[.int .i64 0, .int .i64 0]), 2, 16) := by kernel_rfl
theorem Tryz.infoRecs : (Tryz.prog.info? 49).map (fun i => (i.zero, i.size, i.bytes)) = some (some (.slice none 0 0), 1, 24) := by kernel_rfl

theorem arg_rec {H : Type} {enc : TypeId × Value → H} {W : World} (fuel : Nat) (cs : List Value) (y : DataW H × List MemPlace) (hl : cs.length = 2) (h : DataW.trod enc Tryz.prog W 0 (fun _ => true) true fuel 51 cs = some y) :
    ∃ o : RC, cs = o.cells ∧ o.fine ∧ 1 ≤ Rows.uptoBulk y.1 := by
  match cs, hl with
  | [c0, c1], _ =>
    obtain ⟨xs, m, _, _, _, hxl, hfs⟩ := DataW.trod_struct Tryz.underlying51 h
    have hxl' : xs.length = 2 := hxl
    match xs, hxl' with
    | [y0, y1], _ =>
      have g0 : DataW.trod enc Tryz.prog W 0 (fun _ => true) true m 2 (([c0, c1].drop 0).take (Tryz.prog.cellsOf 2)) = [y0, y1][0]? := hfs 0 _ rfl
      rw [Tryz.cellsI64] at g0
      replace g0 : DataW.trod enc Tryz.prog W 0 (fun _ => true) true m 2 [c0] = some y0 := g0
      have g1 : DataW.trod enc Tryz.prog W 0 (fun _ => true) true m 2 (([c0, c1].drop 1).take (Tryz.prog.cellsOf 2)) = [y0, y1][1]? := hfs 1 _ rfl
      rw [Tryz.cellsI64] at g1
      replace g1 : DataW.trod enc Tryz.prog W 0 (fun _ => true) true m 2 [c1] = some y1 := g1
      obtain ⟨n0, e0, _, w0⟩ := DataW.trod_int Tryz.underlying2 g0
      obtain ⟨n1, e1, _, w1⟩ := DataW.trod_int Tryz.underlying2 g1
      simp only [List.cons.injEq, and_true] at e0 e1
      subst e0 e1
      have b0 := bounds_i64 w0
      have b1 := bounds_i64 w1
      exact ⟨⟨n0, n1⟩, rfl, ⟨⟨b0.1, by have := b0.2; omega⟩, ⟨b1.1, by have := b1.2; omega⟩⟩, bulk_one _⟩
theorem sum_onesR : ∀ (es : List RC), (es.map fun _ => 1).sum = es.length
  | [] => rfl
  | _ :: es => by simp only [List.map_cons, List.sum_cons, List.length_cons, sum_onesR es]; omega
theorem arg_recs {H : Type} {enc : TypeId × Value → H} {W : World} {fuel : Nat} {c : Value} {x : DataW H × List MemPlace} (h : DataW.trod enc Tryz.prog W 0 (fun _ => true) true fuel 49 [c] = some x) :
    ∃ (p : Option Addr) (cap : Nat) (es : List RC), c = .slice p es.length cap ∧ RRow W p cap es ∧ (∀ e ∈ es, e.fine) ∧ es.length + 1 ≤ Rows.uptoBulk x.1 := by
  obtain ⟨p, cap, es, h1, h2, h3, h4, h5, h6, h7, _⟩ := arg_list (cells := RC.cells) (wt := fun _ => 1) (R := RC.fine) (by decide) Tryz.underlying49 Tryz.cellsRec arg_rec h
  rw [sum_onesR] at h6
  exact ⟨p, cap, es, h1, ⟨h2, h3, h7, h5⟩, h4, h6⟩
def SV.wt (x : SV) : Nat := x.rs.length + 1
def weightL (ls : List (List RC)) : Nat := (ls.map fun l => l.length + 1).sum
theorem arg_list1 {H : Type} {enc : TypeId × Value → H} {W : World} (fuel : Nat) (cs : List Value) (y : DataW H × List MemPlace) (hl : cs.length = 1) (h : DataW.trod enc Tryz.prog W 0 (fun _ => true) true fuel 49 cs = some y) :
    ∃ o : SV, cs = o.cells ∧ (o.ok W ∧ ∀ r ∈ o.rs, r.fine) ∧ o.wt ≤ Rows.uptoBulk y.1 := by
  match cs, hl with
  | [c0], _ =>
    obtain ⟨p, cap, es, h1, h2, h3, h4⟩ := arg_recs h
    exact ⟨⟨es, p, cap⟩, by rw [h1]; rfl, ⟨h2, h3⟩, h4⟩
theorem arg_lists {H : Type} {enc : TypeId × Value → H} {W : World} {fuel : Nat} {c : Value} {x : DataW H × List MemPlace} (h : DataW.trod enc Tryz.prog W 0 (fun _ => true) true fuel 44 [c] = some x) :
    ∃ (p : Option Addr) (cap : Nat) (xs : List SV), c = .slice p xs.length cap ∧ LL W p cap xs ∧ (∀ x ∈ xs, ∀ r ∈ x.rs, r.fine) ∧ weightL (xs.map SV.rs) + 1 ≤ Rows.uptoBulk x.1 := by
  obtain ⟨p, cap, es, h1, h2, h3, h4, h5, h6, h7, _⟩ := arg_list (cells := SV.cells) (wt := SV.wt) (R := fun o => o.ok W ∧ ∀ r ∈ o.rs, r.fine) (by decide) Tryz.underlying44 Tryz.cellsRecs arg_list1 h
  refine ⟨p, cap, es, h1, ⟨⟨h2, h3, h7, h5⟩, fun x hx => (h4 x hx).1⟩, fun x hx => (h4 x hx).2, ?_⟩
  have : (es.map SV.rs).map (fun l => l.length + 1) = es.map SV.wt := by rw [List.map_map]; rfl
  unfold weightL
  rw [this]
  exact h6
end Go.Proofs.YtlfipmieaabagaaGreat
