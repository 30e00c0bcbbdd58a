/-
  Operations, and lists of them, as arguments. No conditions.
-/
import Derived.Test.YtboofnkajjnmeaaSoa
import Derived.Test.YtboofnkajjnmeaaArl
namespace Go.Proofs.Ytboofnkajjnmeaa
open Go.ChangeShapes Go.WideShapes Go.ChangeAt Go.RowKit

theorem Try.cellsIntS : Try.prog.cellsOf 3 = 1 := by kernel_rfl
theorem Try.cellsI64S : Try.prog.cellsOf 2 = 1 := by kernel_rfl
theorem Try.cellsRecS : Try.prog.cellsOf 49 = 2 := by kernel_rfl
theorem Try.cellsRecsS : Try.prog.cellsOf 31 = 1 := by kernel_rfl
theorem Try.cellsNumsS : Try.prog.cellsOf 32 = 1 := by kernel_rfl
theorem Try.cellsTxnS : Try.prog.cellsOf 34 = 5 := by kernel_rfl
theorem Try.cellsOpS : Try.prog.cellsOf 36 = 6 := by kernel_rfl
theorem slice_blk {H : Type} {enc : TypeId × Value → H} {W : World} {t e : TypeId} {n fuel len cap : Nat} {p : Option Addr} {x : DataW H × List MemPlace} (hn : 0 < n)
    (ht : Try.prog.underlying t = some (.slice e)) (hc : Try.prog.cellsOf e = n) (hf : DataW.trod enc Try.prog W 0 (fun _ => true) true fuel t [.slice p len cap] = some x) : ∀ i, InC p cap i → i < W.heap.size := by
  rintro i ⟨a, rfl, h0, rfl⟩
  have hlt := DataW.trod_lt _ _ _ _ hf
  rcases DataW.trod_slice ht hf with ⟨e0, _⟩ | ⟨a', len', cap', elems, rest, m, _, e0, hx, _, hl, _, hlen, _, hsp, _⟩
  · simp at e0
  · simp only [List.cons.injEq, Value.slice.injEq, Option.some.injEq, and_true] at e0
    obtain ⟨rfl, rfl, rfl⟩ := e0
    have hr := (hsp rfl).1
    refine hlt (.cell a.block (a.off + 0)) ?_
    rw [hx]
    refine List.mem_append_left _ (MemPlace.mem_row.2 ⟨0, ?_, rfl⟩)
    rw [hc]
    exact Nat.mul_pos (by omega) hn
theorem onesS {α : Type} : ∀ (es : List α), (es.map fun _ => 1).sum = es.length
  | [] => rfl
  | _ :: es => by simp only [List.map_cons, List.sum_cons, List.length_cons, onesS es]; omega
theorem arg_recS {H : Type} {enc : TypeId × Value → H} {W : World} (fuel : Nat) (cs : List Value) (y : DataW H × List MemPlace) (hl : cs.length = 2) (h : DataW.trod enc Try.prog W 0 (fun _ => true) true fuel 49 cs = some y) :
    ∃ o : RC, cs = o.cells ∧ o.fine ∧ 1 ≤ Rows.uptoBulk y.1 := by
  match cs, hl with
  | [c0, c1], _ =>
    obtain ⟨xs, m, _, hy, _, hxl, hfs⟩ := DataW.trod_struct Try.underlying49 h
    have hxl' : xs.length = 2 := hxl
    match xs, hxl' with
    | [y0, y1], _ =>
      have g0 : DataW.trod enc Try.prog W 0 (fun _ => true) true m 2 (([c0, c1].drop 0).take (Try.prog.cellsOf 2)) = [y0, y1][0]? := hfs 0 _ rfl
      rw [Try.cellsI64S] at g0
      replace g0 : DataW.trod enc Try.prog W 0 (fun _ => true) true m 2 [c0] = some y0 := g0
      have g1 : DataW.trod enc Try.prog W 0 (fun _ => true) true m 2 (([c0, c1].drop 1).take (Try.prog.cellsOf 2)) = [y0, y1][1]? := hfs 1 _ rfl
      rw [Try.cellsI64S] at g1
      replace g1 : DataW.trod enc Try.prog W 0 (fun _ => true) true m 2 [c1] = some y1 := g1
      obtain ⟨n0, e0, _, w0⟩ := DataW.trod_int Try.underlying2 g0
      obtain ⟨n1, e1, _, w1⟩ := DataW.trod_int Try.underlying2 g1
      simp only [List.cons.injEq, and_true] at e0 e1
      subst e0 e1
      have b0 := bounds_i64 w0
      have b1 := bounds_i64 w1
      exact ⟨⟨n0, n1⟩, rfl, ⟨⟨b0.1, by have := b0.2; omega⟩, ⟨b1.1, by have := b1.2; omega⟩⟩, bulk_one _⟩
theorem arg_intS {H : Type} {enc : TypeId × Value → H} {W : World} (fuel : Nat) (cs : List Value) (y : DataW H × List MemPlace) (hl : cs.length = 1) (h : DataW.trod enc Try.prog W 0 (fun _ => true) true fuel 2 cs = some y) :
    ∃ o : Int, cs = intCells o ∧ I6 o ∧ 1 ≤ Rows.uptoBulk y.1 := by
  match cs, hl with
  | [c0], _ =>
    obtain ⟨n0, e0, _, w0⟩ := DataW.trod_int Try.underlying2 h
    simp only [List.cons.injEq, and_true] at e0
    subst e0
    have b0 := bounds_i64 w0
    exact ⟨n0, rfl, ⟨b0.1, by have := b0.2; omega⟩, bulk_one _⟩
theorem arg_recsS {H : Type} {enc : TypeId × Value → H} {W : World} {fuel : Nat} {c : Value} {x : DataW H × List MemPlace} (h : DataW.trod enc Try.prog W 0 (fun _ => true) true fuel 31 [c] = some x) :
    ∃ (p : Option Addr) (cap : Nat) (es : List RC), c = .slice p es.length cap ∧ RRow W p cap es ∧ (∀ e ∈ es, e.fine) ∧ es.length + 1 ≤ Rows.uptoBulk x.1 ∧ (∀ i, InC p cap i → i < W.heap.size) ∧ DatumOf x.1 es.length cap := by
  obtain ⟨p, cap, es, h1, h2, h3, h4, h5, h6, h7, h8⟩ := arg_list (cells := RC.cells) (wt := fun _ => 1) (R := RC.fine) (by decide) Try.underlying31 Try.cellsRecS arg_recS h
  refine ⟨p, cap, es, h1, ⟨h2, h3, h7, h5⟩, h4, by rw [onesS] at h6; exact h6, ?_, h8⟩
  subst h1
  exact slice_blk (by decide) Try.underlying31 Try.cellsRecS h
theorem arg_numsS {H : Type} {enc : TypeId × Value → H} {W : World} {fuel : Nat} {c : Value} {x : DataW H × List MemPlace} (h : DataW.trod enc Try.prog W 0 (fun _ => true) true fuel 32 [c] = some x) :
    ∃ (p : Option Addr) (cap : Nat) (es : List Int), c = .slice p es.length cap ∧ NRow W p cap es ∧ (∀ e ∈ es, I6 e) ∧ es.length + 1 ≤ Rows.uptoBulk x.1 ∧ (∀ i, InC p cap i → i < W.heap.size) ∧ DatumOf x.1 es.length cap := by
  obtain ⟨p, cap, es, h1, h2, h3, h4, h5, h6, h7, h8⟩ := arg_list (cells := intCells) (wt := fun _ => 1) (R := I6) (by decide) Try.underlying32 Try.cellsI64S arg_intS h
  refine ⟨p, cap, es, h1, ⟨h2, h3, h7, h5⟩, h4, by rw [onesS] at h6; exact h6, ?_, h8⟩
  subst h1
  exact slice_blk (by decide) Try.underlying32 Try.cellsI64S h
def TX.fine (t : TX) : Prop := I6 t.ep ∧ I6 t.id ∧ I6 t.beg ∧ (∀ r ∈ t.rs, r.fine) ∧ ∀ v ∈ t.vs, I6 v
def TP.lies (W : World) (x : TP) : Prop := x.ok W ∧ (∀ i, x.blk i → i < W.heap.size) ∧ x.t.fine
theorem arg_txnS {H : Type} {enc : TypeId × Value → H} {W : World} (fuel : Nat) (cs : List Value) (y : DataW H × List MemPlace) (hl : cs.length = 5) (h : DataW.trod enc Try.prog W 0 (fun _ => true) true fuel 34 cs = some y) :
    ∃ x : TP, cs = x.cells ∧ x.lies W ∧ 1 ≤ Rows.uptoBulk y.1 := by
  match cs, hl with
  | [c0, c1, c2, c3, c4], _ =>
    obtain ⟨xs, m, _, hy, _, hxl, hfs⟩ := DataW.trod_struct Try.underlying34 h
    have hxl' : xs.length = 5 := hxl
    match xs, hxl' with
    | [y0, y1, y2, y3, y4], _ =>
      have g0 : DataW.trod enc Try.prog W 0 (fun _ => true) true m 2 (([c0, c1, c2, c3, c4].drop 0).take (Try.prog.cellsOf 2)) = [y0, y1, y2, y3, y4][0]? := hfs 0 _ rfl
      rw [Try.cellsI64S] at g0
      replace g0 : DataW.trod enc Try.prog W 0 (fun _ => true) true m 2 [c0] = some y0 := g0
      have g1 : DataW.trod enc Try.prog W 0 (fun _ => true) true m 2 (([c0, c1, c2, c3, c4].drop 1).take (Try.prog.cellsOf 2)) = [y0, y1, y2, y3, y4][1]? := hfs 1 _ rfl
      rw [Try.cellsI64S] at g1
      replace g1 : DataW.trod enc Try.prog W 0 (fun _ => true) true m 2 [c1] = some y1 := g1
      have g2 : DataW.trod enc Try.prog W 0 (fun _ => true) true m 2 (([c0, c1, c2, c3, c4].drop 2).take (Try.prog.cellsOf 2)) = [y0, y1, y2, y3, y4][2]? := hfs 2 _ rfl
      rw [Try.cellsI64S] at g2
      replace g2 : DataW.trod enc Try.prog W 0 (fun _ => true) true m 2 [c2] = some y2 := g2
      have g3 : DataW.trod enc Try.prog W 0 (fun _ => true) true m 31 (([c0, c1, c2, c3, c4].drop 3).take (Try.prog.cellsOf 31)) = [y0, y1, y2, y3, y4][3]? := hfs 3 _ rfl
      rw [Try.cellsRecsS] at g3
      replace g3 : DataW.trod enc Try.prog W 0 (fun _ => true) true m 31 [c3] = some y3 := g3
      have g4 : DataW.trod enc Try.prog W 0 (fun _ => true) true m 32 (([c0, c1, c2, c3, c4].drop 4).take (Try.prog.cellsOf 32)) = [y0, y1, y2, y3, y4][4]? := hfs 4 _ rfl
      rw [Try.cellsNumsS] at g4
      replace g4 : DataW.trod enc Try.prog W 0 (fun _ => true) true m 32 [c4] = some y4 := g4
      obtain ⟨n0, e0, _, w0⟩ := DataW.trod_int Try.underlying2 g0
      obtain ⟨n1, e1, _, w1⟩ := DataW.trod_int Try.underlying2 g1
      obtain ⟨n2, e2, _, w2⟩ := DataW.trod_int Try.underlying2 g2
      obtain ⟨rp, rc, rs, e3, R, F3, B3, K3, _⟩ := arg_recsS g3
      obtain ⟨vp, vc, vs, e4, N, F4, B4, K4, _⟩ := arg_numsS g4
      simp only [List.cons.injEq, and_true] at e0 e1 e2
      subst e0 e1 e2 e3 e4
      have b0 := bounds_i64 w0
      have b1 := bounds_i64 w1
      have b2 := bounds_i64 w2
      exact ⟨⟨⟨n0, n1, n2, rs, vs⟩, rp, rc, vp, vc⟩, rfl, ⟨⟨R, N⟩, fun i hi => by rcases hi with hi | hi; exact K3 i hi; exact K4 i hi, ⟨b0.1, by have := b0.2; omega⟩, ⟨b1.1, by have := b1.2; omega⟩, ⟨b2.1, by have := b2.2; omega⟩, F3, F4⟩, bulk_one _⟩
theorem arg_opS {H : Type} {enc : TypeId × Value → H} {W : World} (fuel : Nat) (cs : List Value) (y : DataW H × List MemPlace) (hl : cs.length = 6) (h : DataW.trod enc Try.prog W 0 (fun _ => true) true fuel 36 cs = some y) :
    ∃ x : OP, cs = x.cells ∧ (I6 x.d ∧ x.x.lies W) ∧ 1 ≤ Rows.uptoBulk y.1 := by
  match cs, hl with
  | [c0, c1, c2, c3, c4, c5], _ =>
    obtain ⟨xs, m, _, hy, _, hxl, hfs⟩ := DataW.trod_struct Try.underlying36 h
    have hxl' : xs.length = 2 := hxl
    match xs, hxl' with
    | [y0, y1], _ =>
      have g0 : DataW.trod enc Try.prog W 0 (fun _ => true) true m 3 (([c0, c1, c2, c3, c4, c5].drop 0).take (Try.prog.cellsOf 3)) = [y0, y1][0]? := hfs 0 _ rfl
      rw [Try.cellsIntS] at g0
      replace g0 : DataW.trod enc Try.prog W 0 (fun _ => true) true m 3 [c0] = some y0 := g0
      have g1 : DataW.trod enc Try.prog W 0 (fun _ => true) true m 34 (([c0, c1, c2, c3, c4, c5].drop 1).take (Try.prog.cellsOf 34)) = [y0, y1][1]? := hfs 1 _ rfl
      rw [Try.cellsTxnS] at g1
      replace g1 : DataW.trod enc Try.prog W 0 (fun _ => true) true m 34 [c1, c2, c3, c4, c5] = some y1 := g1
      obtain ⟨n0, e0, _, w0⟩ := DataW.trod_int Try.underlying3 g0
      obtain ⟨x, e1, L, _⟩ := arg_txnS _ _ _ rfl g1
      simp only [TP.cells, List.cons.injEq, and_true] at e0 e1
      obtain ⟨rfl, rfl, rfl, rfl, rfl⟩ := e1
      subst e0
      have b0 := bounds_i64 w0
      exact ⟨⟨n0, x⟩, rfl, ⟨⟨b0.1, by have := b0.2; omega⟩, L⟩, bulk_one _⟩
theorem arg_opsS {H : Type} {enc : TypeId × Value → H} {W : World} {fuel : Nat} {c : Value} {x : DataW H × List MemPlace} (h : DataW.trod enc Try.prog W 0 (fun _ => true) true fuel 22 [c] = some x) :
    ∃ (p : Option Addr) (cap : Nat) (es : List OP), c = .slice p es.length cap ∧ OL W p cap es ∧ (∀ e ∈ es, I6 e.d ∧ e.x.lies W) ∧ es.length + 1 ≤ Rows.uptoBulk x.1 ∧ DatumOf x.1 es.length cap := by
  obtain ⟨p, cap, es, h1, h2, h3, h4, h5, h6, h7, h8⟩ := arg_list (cells := OP.cells) (wt := fun _ => 1) (R := fun o : OP => I6 o.d ∧ o.x.lies W) (by decide) Try.underlying22 Try.cellsOpS arg_opS h
  exact ⟨p, cap, es, h1, ⟨⟨h2, h3, h7, h5⟩, fun o ho => ⟨(h4 o ho).2.1, (h4 o ho).2.2.1⟩⟩, h4, by rw [onesS] at h6; exact h6, h8⟩
end Go.Proofs.Ytboofnkajjnmeaa
