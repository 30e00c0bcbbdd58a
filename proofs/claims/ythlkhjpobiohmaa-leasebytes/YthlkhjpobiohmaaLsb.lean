/-
  A lease's block of memory; unused and Check of package lease. No conditions.
-/
import Derived.Test.YthlkhjpobiohmaaLsa
import Derived.Deep.CutRange
import Derived.Deep.CutBlock
namespace Go.Proofs.Ythlkhjpobiohmaa
open Go.RowKit

theorem heap_set_sameL {W : World} {b : Nat} {cs : Array Value} {t : TypeId} (h : W.heap[b]? = some (.cells cs t (0, 0))) (o : Nat) (v : Value) : (W.setCell ⟨b, o, none⟩ v).heap[b]? = some (.cells (cs.setIfInBounds o v) t (0, 0)) := by
  simp only [World.setCell]
  rw [Array.getElem?_modify, if_pos rfl, h]
  rfl
abbrev set6 (w : World) (b : Nat) (e0 e1 e2 e3 e4 e5 : Value) : World := (((((w.setCell ⟨b, 0, none⟩ e0).setCell ⟨b, 1, none⟩ e1).setCell ⟨b, 2, none⟩ e2).setCell ⟨b, 3, none⟩ e3).setCell ⟨b, 4, none⟩ e4).setCell ⟨b, 5, none⟩ e5
theorem heap_set6 {w : World} {b : Nat} {t : TypeId} {d0 d1 d2 d3 d4 d5 : Value} (h : w.heap[b]? = some (.cells #[d0, d1, d2, d3, d4, d5] t (0, 0))) (e0 e1 e2 e3 e4 e5 : Value) : (set6 w b e0 e1 e2 e3 e4 e5).heap[b]? = some (.cells #[e0, e1, e2, e3, e4, e5] t (0, 0)) :=
  heap_set_sameL (heap_set_sameL (heap_set_sameL (heap_set_sameL (heap_set_sameL (heap_set_sameL h 0 e0) 1 e1) 2 e2) 3 e3) 4 e4) 5 e5
theorem only_set6 (w : World) (b : Nat) (e0 e1 e2 e3 e4 e5 : Value) : Only (· = b) w (set6 w b e0 e1 e2 e3 e4 e5) :=
  (((((Only.set (F := (· = b)) w b 0 e0 rfl).trans (Only.set (F := (· = b)) _ b 1 e1 rfl)).trans (Only.set (F := (· = b)) _ b 2 e2 rfl)).trans (Only.set (F := (· = b)) _ b 3 e3 rfl)).trans (Only.set (F := (· = b)) _ b 4 e4 rfl)).trans (Only.set (F := (· = b)) _ b 5 e5 rfl)
/-- A block of six cells that may be written. -/
structure Six (W : World) (b : Nat) (d0 d1 d2 d3 d4 d5 : Value) : Prop where
  f0 : W.frozen? ⟨b, 0, none⟩ = false
  f1 : W.frozen? ⟨b, 1, none⟩ = false
  f2 : W.frozen? ⟨b, 2, none⟩ = false
  f3 : W.frozen? ⟨b, 3, none⟩ = false
  f4 : W.frozen? ⟨b, 4, none⟩ = false
  f5 : W.frozen? ⟨b, 5, none⟩ = false
  u0 : W.cell? ⟨b, 0, none⟩ = some d0
  u1 : W.cell? ⟨b, 1, none⟩ = some d1
  u2 : W.cell? ⟨b, 2, none⟩ = some d2
  u3 : W.cell? ⟨b, 3, none⟩ = some d3
  u4 : W.cell? ⟨b, 4, none⟩ = some d4
  u5 : W.cell? ⟨b, 5, none⟩ = some d5
theorem six {W : World} {b : Nat} {t : TypeId} {d0 d1 d2 d3 d4 d5 : Value} (h : W.heap[b]? = some (.cells #[d0, d1, d2, d3, d4, d5] t (0, 0))) : Six W b d0 d1 d2 d3 d4 d5 := by
  constructor <;> simp [World.frozen?, World.cell?, h]
theorem below_box {W X : World} (hb : Below W.heap.size W X) {b : Nat} {o : Obj} (h : W.heap[b]? = some o) : X.heap[b]? = some o := (hb.block b (Array.getElem?_eq_some_iff.1 h).1).trans h
theorem box_lt {W : World} {b : Nat} {o : Obj} (h : W.heap[b]? = some o) : b < W.heap.size := (Array.getElem?_eq_some_iff.1 h).1
theorem below_next {B : Nat} {A X Y : World} (h : Below B A X) (hb : Below X.heap.size X Y) (hB : B ≤ X.heap.size) : Below B A Y := h.trans (hb.mono hB)
theorem results_cell_three {P : Program} {fn : Func} {p u v : Tmp} {ty : TypeId} (h : fn.results = #[.cell p ty, .tmp u, .tmp v]) (tmps : Array Value) (w : World) (g : Nat) (t : TypeId) (cs : Array Value) (fr : Nat × Nat) (d : TypeDesc)
    (hp : tmps.getD p undef = .pointer (some ⟨g, 0, none⟩)) (hg : w.heap[g]? = some (.cells cs t fr))
    (hu : P.underlying ty = some d) (hd : (match d with | .struct _ | .array _ _ => true | _ => false) = true) (hi : (P.info? ty).map (·.size) = some cs.size) :
    (results fn tmps).run P w = .ok (.tuple #[.agg cs, tmps.getD u undef, tmps.getD v undef]) w := by
  have hp' : tmps[p]?.getD undef = .pointer (some ⟨g, 0, none⟩) := by simpa using hp
  have hl := run_loadVar_row (P := P) w g t ty cs fr d hg hu hd hi
  simp only [results, h]
  simp [Result.andThen, hp', asAddr, hl]
theorem results_cell_two {P : Program} {fn : Func} {p u : Tmp} {ty : TypeId} (h : fn.results = #[.cell p ty, .tmp u]) (tmps : Array Value) (w : World) (g : Nat) (t : TypeId) (cs : Array Value) (fr : Nat × Nat) (d : TypeDesc)
    (hp : tmps.getD p undef = .pointer (some ⟨g, 0, none⟩)) (hg : w.heap[g]? = some (.cells cs t fr))
    (hu : P.underlying ty = some d) (hd : (match d with | .struct _ | .array _ _ => true | _ => false) = true) (hi : (P.info? ty).map (·.size) = some cs.size) :
    (results fn tmps).run P w = .ok (.tuple #[.agg cs, tmps.getD u undef]) w := by
  rw [results_cell_tmp h, hp]
  simp [asAddr, run_loadVar_row w g t ty cs fr d hg hu hd hi]
theorem ne_eqL {a b : Int} (h : a ≠ b) : (a == b) = false := by simpa using h

set_option maxRecDepth 100000 in
theorem unused_any {W : World} {c t : Int} : Calls Try.prog 35 #[.int .i64 c, .int .i64 t] W fun e w' => e = .returned (LE.val ⟨-1, -1, 0, c, t, false⟩) ∧ Below W.heap.size W w' := by
  obtain ⟨V, hV⟩ : ∃ V, V = W.alloc (.cells #[.int .i64 0, .int .i64 0, .int .i64 0, .int .i64 0, .int .i64 0, .bool false] 23 (0, 0)) := ⟨_, rfl⟩
  have bV : Below W.heap.size W V := by rw [hV]; exact alloc_below _ _
  have u3 : V.heap[W.heap.size]? = some (.cells #[.int .i64 0, .int .i64 0, .int .i64 0, .int .i64 0, .int .i64 0, .bool false] 23 (0, 0)) := by rw [hV]; exact heap_alloc_new W _
  obtain ⟨sB, hsB⟩ : ∃ sB, W.heap.size = sB := ⟨_, rfl⟩
  rw [hsB] at u3
  have HBV := hide bV
  have HU := hide u3
  have HSB := hide hsB
  clear bV u3
  go_enter Try.func35, Try.ntmps35
  go_upto_region 1 with fail
  rw [← hV]
  try rw [hsB]
  clear hV hsB
  go_wp2_with fail
  refine new_any.mono ?_
  rintro _ w1 ⟨rfl, b1⟩
  have HB1 := hide (below_next HBV.out b1 HBV.out.size)
  have hu := below_box b1 HU.out
  have HU1 := hide hu
  have hlt := box_lt hu
  clear b1 HU HBV hu
  simp only [LE.val, LE.row]
  go_upto_region 3 with fail
  obtain ⟨X, hX⟩ : ∃ X, X = w1.alloc (.cells #[.int .i64 (-1), .int .i64 (-1), .int .i64 0, .int .i64 c, .int .i64 t, .bool false] 23 (0, 0)) := ⟨_, rfl⟩
  rw [← hX]
  have bX : Below w1.heap.size w1 X := by rw [hX]; exact alloc_below _ _
  obtain ⟨tB, htB⟩ : ∃ tB, w1.heap.size = tB := ⟨_, rfl⟩
  have hn1 : X.heap[tB]? = some (.cells #[.int .i64 (-1), .int .i64 (-1), .int .i64 0, .int .i64 c, .int .i64 t, .bool false] 23 (0, 0)) := by rw [hX, ← htB]; exact heap_alloc_new w1 _
  have hst : sB < tB := by rw [← htB]; exact hlt
  have HBX : Hid (Below W.heap.size W X) := hide (below_next HB1.out bX HB1.out.size)
  have hu := below_box bX HU1.out
  have HUX := hide hu
  try rw [htB]
  obtain ⟨f0, f1, f2, f3, f4, f5, u0, u1, u2, u3, u4, u5⟩ := six hu
  obtain ⟨_, _, _, _, _, _, v0, v1, v2, v3, v4, v5⟩ := six hn1
  clear hX bX hn1 htB HB1 HU1 hlt hu
  go_wp2
  have hE := heap_set6 HUX.out (.int .i64 (-1)) (.int .i64 (-1)) (.int .i64 0) (.int .i64 c) (.int .i64 t) (.bool false)
  refine bodyPost_ret (results_cell_row rfl _ _ sB 23 _ _ _ rfl hE Try.underlying23 rfl (by kernel_rfl)) rfl ?_
  exact ⟨rfl, HBX.out.trans ((only_set6 _ sB _ _ _ _ _ _).below HBX.out.size (fun i e => by have e' : i = sB := e; have := HSB.out; omega))⟩
end Go.Proofs.Ythlkhjpobiohmaa
