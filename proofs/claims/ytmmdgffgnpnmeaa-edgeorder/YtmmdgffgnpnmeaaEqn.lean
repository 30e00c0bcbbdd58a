/-
  New, Len, Left, Peek of a queue: the program's, and the reference's New, Peek; slices.Clone of events. The conditions: what is handed in is such a queue.
-/
import Derived.Test.YtmmdgffgnpnmeaaEqc
import Derived.BigQuiet
import Derived.WalkMore
import Derived.Deep.Cut
import Derived.Deep.CutBlock
namespace Go.Proofs.Ytmmdgffgnpnmeaa
open Go.RowKit

theorem results_cell_bool {P : Program} {fn : Func} {p u : Tmp} {ty : TypeId} (h : fn.results = #[.cell p ty, .tmp u]) (tmps : Array Value) (w : World) (g : Nat) (t : TypeId) (cs : Array Value) (fr : Nat × Nat) (d : TypeDesc)
    (hp : tmps.getD p undef = .pointer (some ⟨g, 0, none⟩)) (hg : w.heap[g]? = some (.cells cs t fr))
    (hu : P.underlying ty = some d) (hd : (match d with | .struct _ | .array _ _ => true | _ => false) = true) (hi : (P.info? ty).map (·.size) = some cs.size) :
    (results fn tmps).run P w = .ok (.tuple #[.agg cs, tmps.getD u undef]) w := by
  rw [results_cell_tmp h, hp]
  simp [asAddr, run_loadVar_row w g t ty cs fr d hg hu hd hi]

theorem below_drewN {n : Nat} {A B : World} (h : Below n A B) (k : Nat) : Below n A (B.drewN k) := ⟨h.os, h.tape, h.output, h.size, h.block⟩

theorem new_bad {W : World} {n : Int} (h : n < 1 ∨ 64 < n) :
    Calls Try.prog 8 #[.int .i64 n] W fun e w' => e = .returned (.tuple #[.pointer none, .int .i64 1]) ∧ w' = W := by
  by_cases h1 : n < 1
  · have e1 : decide (n < 1) = true := decide_eq_true h1
    clear h h1
    go_enter Try.func8, Try.ntmps8
    go_wp2
    go_ret2
    exact ⟨rfl, rfl⟩
  · have h2 : 64 < n := by omega
    have e1 : decide (n < 1) = false := decide_eq_false h1
    have e2 : decide (n > 64) = true := decide_eq_true h2
    clear h h1 h2
    go_enter Try.func8, Try.ntmps8
    go_wp2
    go_ret2
    exact ⟨rfl, rfl⟩
theorem new_good {W : World} {n : Int} (h1 : 1 ≤ n) (h2 : n ≤ 64) :
    Calls Try.prog 8 #[.int .i64 n] W fun e w' => e = .returned (.tuple #[.pointer (some ⟨W.heap.size, 0, none⟩), .int .i64 0]) ∧ w' = W.alloc (.cells #[.int .i64 n, .slice none 0 0, .int .i64 0] 54 (0, 0)) := by
  have e1 : decide (n < 1) = false := decide_eq_false (by omega)
  have e2 : decide (n > 64) = false := decide_eq_false (by omega)
  clear h1 h2
  go_enter Try.func8, Try.ntmps8
  go_wp2
  go_ret2
  exact ⟨rfl, rfl⟩
theorem rnew_bad {W : World} {n : Int} (h : n < 1 ∨ 64 < n) :
    Calls Try.prog 9 #[.int .i64 n] W fun e w' => e = .returned (.tuple #[.pointer none, .int .i64 1]) ∧ w' = W := by
  by_cases h1 : n < 1
  · have e1 : decide (n < 1) = true := decide_eq_true h1
    clear h h1
    go_enter Try.func9, Try.ntmps9
    go_wp2
    go_ret2
    exact ⟨rfl, rfl⟩
  · have h2 : 64 < n := by omega
    have e1 : decide (n < 1) = false := decide_eq_false h1
    have e2 : decide (n > 64) = true := decide_eq_true h2
    clear h h1 h2
    go_enter Try.func9, Try.ntmps9
    go_wp2
    go_ret2
    exact ⟨rfl, rfl⟩
theorem rnew_good {W : World} {n : Int} (h1 : 1 ≤ n) (h2 : n ≤ 64) :
    Calls Try.prog 9 #[.int .i64 n] W fun e w' => e = .returned (.tuple #[.pointer (some ⟨W.heap.size, 0, none⟩), .int .i64 0]) ∧ w' = W.alloc (.cells #[.slice none 0 0, .int .i64 n, .int .i64 0] 58 (0, 0)) := by
  have e1 : decide (n < 1) = false := decide_eq_false (by omega)
  have e2 : decide (n > 64) = false := decide_eq_false (by omega)
  clear h1 h2
  go_enter Try.func9, Try.ntmps9
  go_wp2
  go_ret2
  exact ⟨rfl, rfl⟩

/-- A queue's three cells. -/
structure Box (W : World) (b : Nat) (r : Int) (p : Option Addr) (n c : Nat) (l : Int) : Prop where
  box : W.heap[b]? = some (.cells #[.int .i64 r, .slice p n c, .int .i64 l] 54 (0, 0))
structure Box.Cells (W : World) (b : Nat) (r : Int) (p : Option Addr) (n c : Nat) (l : Int) : Prop where
  c0 : W.cell? ⟨b, 0, none⟩ = some (.int .i64 r)
  c1 : W.cell? ⟨b, 1, none⟩ = some (.slice p n c)
  c2 : W.cell? ⟨b, 2, none⟩ = some (.int .i64 l)
theorem box_cells {W : World} {b n c : Nat} {r l : Int} {p : Option Addr} (h : W.heap[b]? = some (.cells #[.int .i64 r, .slice p n c, .int .i64 l] 54 (0, 0))) : Box.Cells W b r p n c l :=
  ⟨by simp [World.cell?, h], by simp [World.cell?, h], by simp [World.cell?, h]⟩
theorem made_any {W : World} {b n c : Nat} {r l : Int} {p : Option Addr} (h : Box.Cells W b r p n c l) (hr : 1 ≤ r) :
    Calls Try.prog 28 #[.pointer (some ⟨b, 0, none⟩)] W fun e w' => e = .returned (.bool true) ∧ w' = W := by
  obtain ⟨h0, h1, h2⟩ := h
  have e1 : decide (r > 0) = true := decide_eq_true (by omega)
  clear hr h1 h2
  go_enter Try.func28, Try.ntmps28
  go_wp2
  go_ret
  exact ⟨rfl, rfl⟩
theorem made_no {W : World} {b n c : Nat} {r l : Int} {p : Option Addr} (h : Box.Cells W b r p n c l) (hr : r ≤ 0) :
    Calls Try.prog 28 #[.pointer (some ⟨b, 0, none⟩)] W fun e w' => e = .returned (.bool false) ∧ w' = W := by
  obtain ⟨h0, h1, h2⟩ := h
  have e1 : decide (r > 0) = false := decide_eq_false (by omega)
  clear hr h1 h2
  go_enter Try.func28, Try.ntmps28
  go_wp2
  go_ret
  exact ⟨rfl, rfl⟩
theorem made_nil {W : World} :
    Calls Try.prog 28 #[.pointer none] W fun e w' => e = .returned (.bool false) ∧ w' = W := by
  go_enter Try.func28, Try.ntmps28
  go_wp2
  go_ret
  exact ⟨rfl, rfl⟩
theorem held_any {W : World} {b n c : Nat} {r l : Int} {p : Option Addr} (h : Box.Cells W b r p n c l) :
    Calls Try.prog 32 #[.pointer (some ⟨b, 0, none⟩)] W fun e w' => e = .returned (.slice p n c) ∧ w' = W := by
  obtain ⟨h0, h1, h2⟩ := h
  clear h0 h2
  go_enter Try.func32, Try.ntmps32
  go_wp2
  go_ret
  exact ⟨rfl, rfl⟩
theorem held_nil {W : World} :
    Calls Try.prog 32 #[.pointer none] W fun e w' => e = .returned (.slice none 0 0) ∧ w' = W := by
  go_enter Try.func32, Try.ntmps32
  go_wp2
  go_ret
  exact ⟨rfl, rfl⟩
theorem len_any {W : World} {b n c : Nat} {r l : Int} {p : Option Addr} (h : Box.Cells W b r p n c l) :
    Calls Try.prog 19 #[.pointer (some ⟨b, 0, none⟩)] W fun e w' => e = .returned (.int .i64 (n : Int)) ∧ w' = W := by
  have H := hide h
  clear h
  go_enter Try.func19, Try.ntmps19
  go_wp2_with fail
  refine (held_any H.out).mono ?_
  rintro _ w1 ⟨rfl, rfl⟩
  go_wp2
  go_ret
  exact ⟨rfl, rfl⟩
theorem len_nil {W : World} :
    Calls Try.prog 19 #[.pointer none] W fun e w' => e = .returned (.int .i64 0) ∧ w' = W := by
  go_enter Try.func19, Try.ntmps19
  go_wp2_with fail
  refine held_nil.mono ?_
  rintro _ w1 ⟨rfl, rfl⟩
  go_wp2
  go_ret
  exact ⟨rfl, rfl⟩
theorem left_any {W : World} {b n c : Nat} {r l : Int} {p : Option Addr} (h : Box.Cells W b r p n c l) (h1 : 0 ≤ r) (h2 : r ≤ 64) (h3 : n ≤ 64) :
    Calls Try.prog 20 #[.pointer (some ⟨b, 0, none⟩)] W fun e w' => e = .returned (.int .i64 (r - n)) ∧ Below W.heap.size W w' := by
  obtain ⟨c0, c1, c2⟩ := h
  have hw : IntKind.i64.wrap (r - (n : Int)) = r - n := by rw [IntKind.wrap_i64]; omega
  clear c2 h1 h2 h3
  go_enter Try.func20, Try.ntmps20
  go_upto_region 3 with fail
  go_big_quiet (fail)
  go_wp2
  go_ret
  exact ⟨rfl, below_drewN (Below.refl _ _) _⟩
theorem left_nil {W : World} :
    Calls Try.prog 20 #[.pointer none] W fun e w' => e = .returned (.int .i64 0) ∧ w' = W := by
  go_enter Try.func20, Try.ntmps20
  go_wp2
  go_ret
  exact ⟨rfl, rfl⟩
theorem heap_set_same {W : World} {b : Nat} {cs : Array Value} {t : TypeId} (h : W.heap[b]? = some (.cells cs t (0, 0))) (o : Nat) (v : Value) : (W.setCell ⟨b, o, none⟩ v).heap[b]? = some (.cells (cs.setIfInBounds o v) t (0, 0)) := by
  simp only [World.setCell]
  rw [Array.getElem?_modify, if_pos rfl, h]
  rfl
/-- Four cells are written. -/
theorem heap_set4 {w : World} {b : Nat} {t : TypeId} {d0 d1 d2 d3 : Value} (h : w.heap[b]? = some (.cells #[d0, d1, d2, d3] t (0, 0))) (e0 e1 e2 e3 : Value) : ((((w.setCell ⟨b, 0, none⟩ e0).setCell ⟨b, 1, none⟩ e1).setCell ⟨b, 2, none⟩ e2).setCell ⟨b, 3, none⟩ e3).heap[b]? = some (.cells #[e0, e1, e2, e3] t (0, 0)) :=
  heap_set_same (heap_set_same (heap_set_same (heap_set_same h 0 e0) 1 e1) 2 e2) 3 e3
theorem only_set4 (w : World) (b : Nat) (e0 e1 e2 e3 : Value) : Only (· = b) w ((((w.setCell ⟨b, 0, none⟩ e0).setCell ⟨b, 1, none⟩ e1).setCell ⟨b, 2, none⟩ e2).setCell ⟨b, 3, none⟩ e3) :=
  (((Only.set (F := (· = b)) w b 0 e0 rfl).trans (Only.set (F := (· = b)) _ b 1 e1 rfl)).trans (Only.set (F := (· = b)) _ b 2 e2 rfl)).trans (Only.set (F := (· = b)) _ b 3 e3 rfl)
/-- A block of four cells that may be written. -/
structure Four (W : World) (b : Nat) (t : TypeId) (d0 d1 d2 d3 : Value) : Prop where
  f0 : W.frozen? ⟨b, 0, none⟩ = false
  f1 : W.frozen? ⟨b, 1, none⟩ = false
  f2 : W.frozen? ⟨b, 2, none⟩ = false
  f3 : W.frozen? ⟨b, 3, none⟩ = false
  u0 : W.cell? ⟨b, 0, none⟩ = some d0
  u1 : W.cell? ⟨b, 1, none⟩ = some d1
  u2 : W.cell? ⟨b, 2, none⟩ = some d2
  u3 : W.cell? ⟨b, 3, none⟩ = some d3
theorem four {W : World} {b : Nat} {t : TypeId} {d0 d1 d2 d3 : Value} (h : W.heap[b]? = some (.cells #[d0, d1, d2, d3] t (0, 0))) : Four W b t d0 d1 d2 d3 := by
  constructor <;> simp [World.frozen?, World.cell?, h]
def EV.agg (x : EV) : Value := .agg #[.int .i64 x.kind, .int .i64 x.key, .int .i64 x.val, .int .i64 x.id]
set_option maxHeartbeats 1000000 in
theorem peek_some {W : World} {b n c g o : Nat} {r l : Int} {k0 k1 k2 k3 : Int} (h : Box.Cells W b r (some ⟨g, o, none⟩) n c l) (hn : 0 < n) (a0 : W.cell? ⟨g, o, none⟩ = some (.int .i64 k0)) (a1 : W.cell? ⟨g, o + 1, none⟩ = some (.int .i64 k1)) (a2 : W.cell? ⟨g, o + 2, none⟩ = some (.int .i64 k2)) (a3 : W.cell? ⟨g, o + 3, none⟩ = some (.int .i64 k3)) :
    Calls Try.prog 25 #[.pointer (some ⟨b, 0, none⟩)] W fun e w' => e = .returned (.tuple #[.agg #[.int .i64 k0, .int .i64 k1, .int .i64 k2, .int .i64 k3], .bool true]) ∧ Below W.heap.size W w' := by
  obtain ⟨V, hV⟩ : ∃ V, V = W.alloc (.cells #[.int .i64 0, .int .i64 0, .int .i64 0, .int .i64 0] 34 (0, 0)) := ⟨_, rfl⟩
  have bV : Below W.heap.size W V := by rw [hV]; exact alloc_below _ _
  have u3 : V.heap[W.heap.size]? = some (.cells #[.int .i64 0, .int .i64 0, .int .i64 0, .int .i64 0] 34 (0, 0)) := by rw [hV]; exact heap_alloc_new W _
  obtain ⟨sB, hsB⟩ : ∃ sB, W.heap.size = sB := ⟨_, rfl⟩
  rw [hsB] at u3
  have HB : Hid (Box.Cells V b r (some ⟨g, o, none⟩) n c l) := ⟨cell_later bV h.c0, cell_later bV h.c1, cell_later bV h.c2⟩
  replace a0 := cell_later bV a0
  replace a1 := cell_later bV a1
  replace a2 := cell_later bV a2
  replace a3 := cell_later bV a3
  have c1 := HB.out.c1
  have HBV := hide bV
  have HSB := hide hsB
  have HU := hide u3
  have e1 : ((n : Int) == 0) = false := ne_eq (by omega)
  have hn' : (0 : Int) < n := by omega
  obtain ⟨f0, f1, f2, f3, u0, u1, u2, u4⟩ := four u3
  clear h bV u3
  go_enter Try.func25, Try.ntmps25
  go_upto_region 1 with fail
  rw [← hV]
  try rw [hsB]
  clear hV hsB
  go_wp2_with fail
  refine (len_any HB.out).mono ?_
  rintro _ w1 ⟨rfl, rfl⟩
  go_wp2
  have hE := heap_set4 HU.out (.int .i64 k0) (.int .i64 k1) (.int .i64 k2) (.int .i64 k3)
  refine bodyPost_ret (results_cell_bool rfl _ _ sB 34 _ _ _ rfl hE Try.underlying34 rfl (by kernel_rfl)) rfl ?_
  exact ⟨rfl, HBV.out.trans ((only_set4 _ sB _ _ _ _).below HBV.out.size (fun i e => by have e' : i = sB := e; have := HSB.out; omega))⟩
set_option maxHeartbeats 1000000 in
theorem peek_none {W : World} {b c : Nat} {r l : Int} {p : Option Addr} (h : Box.Cells W b r p 0 c l) :
    Calls Try.prog 25 #[.pointer (some ⟨b, 0, none⟩)] W fun e w' => e = .returned (.tuple #[.agg #[.int .i64 0, .int .i64 0, .int .i64 0, .int .i64 0], .bool false]) ∧ Below W.heap.size W w' := by
  obtain ⟨V, hV⟩ : ∃ V, V = W.alloc (.cells #[.int .i64 0, .int .i64 0, .int .i64 0, .int .i64 0] 34 (0, 0)) := ⟨_, rfl⟩
  have bV : Below W.heap.size W V := by rw [hV]; exact alloc_below _ _
  have u3 : V.heap[W.heap.size]? = some (.cells #[.int .i64 0, .int .i64 0, .int .i64 0, .int .i64 0] 34 (0, 0)) := by rw [hV]; exact heap_alloc_new W _
  obtain ⟨sB, hsB⟩ : ∃ sB, W.heap.size = sB := ⟨_, rfl⟩
  rw [hsB] at u3
  have HB : Hid (Box.Cells V b r p 0 c l) := ⟨cell_later bV h.c0, cell_later bV h.c1, cell_later bV h.c2⟩
  have HBV := hide bV
  have HSB := hide hsB
  have HU := hide u3
  obtain ⟨f0, f1, f2, f3, u0, u1, u2, u4⟩ := four u3
  clear h bV u3
  go_enter Try.func25, Try.ntmps25
  go_upto_region 1 with fail
  rw [← hV]
  try rw [hsB]
  clear hV hsB
  go_wp2_with fail
  refine (len_any HB.out).mono ?_
  rintro _ w1 ⟨rfl, rfl⟩
  go_wp2
  have hE := heap_set4 HU.out (.int .i64 0) (.int .i64 0) (.int .i64 0) (.int .i64 0)
  refine bodyPost_ret (results_cell_bool rfl _ _ sB 34 _ _ _ rfl hE Try.underlying34 rfl (by kernel_rfl)) rfl ?_
  exact ⟨rfl, HBV.out.trans ((only_set4 _ sB _ _ _ _).below HBV.out.size (fun i e => by have e' : i = sB := e; have := HSB.out; omega))⟩
theorem peek_nil {W : World} :
    Calls Try.prog 25 #[.pointer none] W fun e w' => e = .returned (.tuple #[.agg #[.int .i64 0, .int .i64 0, .int .i64 0, .int .i64 0], .bool false]) ∧ Below W.heap.size W w' := by
  obtain ⟨V, hV⟩ : ∃ V, V = W.alloc (.cells #[.int .i64 0, .int .i64 0, .int .i64 0, .int .i64 0] 34 (0, 0)) := ⟨_, rfl⟩
  have bV : Below W.heap.size W V := by rw [hV]; exact alloc_below _ _
  have u3 : V.heap[W.heap.size]? = some (.cells #[.int .i64 0, .int .i64 0, .int .i64 0, .int .i64 0] 34 (0, 0)) := by rw [hV]; exact heap_alloc_new W _
  obtain ⟨sB, hsB⟩ : ∃ sB, W.heap.size = sB := ⟨_, rfl⟩
  rw [hsB] at u3
  have HBV := hide bV
  have HSB := hide hsB
  have HU := hide u3
  obtain ⟨f0, f1, f2, f3, u0, u1, u2, u4⟩ := four u3
  clear bV u3
  go_enter Try.func25, Try.ntmps25
  go_upto_region 1 with fail
  rw [← hV]
  try rw [hsB]
  clear hV hsB
  go_wp2_with fail
  refine len_nil.mono ?_
  rintro _ w1 ⟨rfl, rfl⟩
  go_wp2
  have hE := heap_set4 HU.out (.int .i64 0) (.int .i64 0) (.int .i64 0) (.int .i64 0)
  refine bodyPost_ret (results_cell_bool rfl _ _ sB 34 _ _ _ rfl hE Try.underlying34 rfl (by kernel_rfl)) rfl ?_
  exact ⟨rfl, HBV.out.trans ((only_set4 _ sB _ _ _ _).below HBV.out.size (fun i e => by have e' : i = sB := e; have := HSB.out; omega))⟩
theorem peek_any {base : Nat} {W : World} {b : Nat} {p : Option Addr} {c : Nat} {q : QC} (h : PQ base W b p c q) :
    Calls Try.prog 25 #[.pointer (some ⟨b, 0, none⟩)] W fun e w' => e = .returned (.tuple #[q.first.agg, .bool q.any]) ∧ Below W.heap.size W w' := by
  have hb := box_cells h.box
  have hr := h.erow
  obtain ⟨room, evs, last⟩ := q
  cases evs with
  | nil => exact (peek_none hb).mono fun e w' h => h
  | cons x xs =>
    obtain ⟨g, o, rfl, a0, a1, a2, a3⟩ := hr.at (i := 0) (by simp) (x := x) rfl
    simp only [Nat.zero_mul, Nat.add_zero] at a0 a1 a2 a3
    exact (peek_some hb (by simp) a0 a1 a2 a3).mono fun e w' h => h
end Go.Proofs.Ytmmdgffgnpnmeaa
