/-
  Record, Barrier, and the statements' function begun. No conditions.
-/
import Derived.Test.YtihbdlbnpkmafaaEvy
namespace Go.Proofs.Ytihbdlbnpkmafaa
open Go.RowKit

theorem set4 {W : World} {b : Nat} {c0 c1 c2 c3 d0 d1 d2 d3 : Value} (h : W.heap[b]? = some (.cells #[c0, c1, c2, c3] 26 (0, 0))) :
    ((((W.setCell ⟨b, 0, none⟩ d0).setCell ⟨b, 1, none⟩ d1).setCell ⟨b, 2, none⟩ d2).setCell ⟨b, 3, none⟩ d3).heap[b]? = some (.cells #[d0, d1, d2, d3] 26 (0, 0)) := by
  have h1 := heap_setCell_same W b 0 _ _ d0 h
  have h2 := heap_setCell_same _ b 1 _ _ d1 h1
  have h3 := heap_setCell_same _ b 2 _ _ d2 h2
  exact heap_setCell_same _ b 3 _ _ d3 h3
set_option maxRecDepth 100000 in
theorem record_any {W : World} {ky vl : Int} : Calls Try.prog 45 #[.int .i64 ky, .int .i64 vl] W fun e w' => e = .returned (.agg #[.int .i64 1, .int .i64 ky, .int .i64 vl, .int .i64 0]) ∧ Below W.heap.size W w' := by
  go_enter Try.func45, Try.ntmps45
  go_wp2
  refine bodyPost_ret (results_cell_row rfl _ _ W.heap.size 26 _ _ _ rfl (heap_alloc_new W _) Try.underlying26 rfl (by kernel_rfl)) rfl ?_
  exact ⟨rfl, alloc_below _ _⟩
set_option maxRecDepth 100000 in
theorem barrier_any {W : World} {id : Int} : Calls Try.prog 46 #[.int .i64 id] W fun e w' => e = .returned (.agg #[.int .i64 2, .int .i64 0, .int .i64 0, .int .i64 id]) ∧ Below W.heap.size W w' := by
  go_enter Try.func46, Try.ntmps46
  go_wp2
  refine bodyPost_ret (results_cell_row rfl _ _ W.heap.size 26 _ _ _ rfl (heap_alloc_new W _) Try.underlying26 rfl (by kernel_rfl)) rfl ?_
  exact ⟨rfl, alloc_below _ _⟩
def begE : List EV := [⟨1, 3, -1, 0⟩, ⟨2, 0, 0, 7⟩]
theorem beg_bytes : bytesC begE = ([4, 2, 6, 1, 4, 14], 0) := by decide +kernel
theorem beg_check : checkE ⟨2, 0, 0, 0⟩ = 60 := by decide +kernel
theorem beg_fine : ∀ e ∈ begE, e.fine := by
  intro e he
  simp only [begE, List.mem_cons, List.not_mem_nil, or_false] at he
  rcases he with rfl | rfl <;> (refine ⟨?_, ?_, ?_, ?_⟩ <;> (unfold I6; simp))
theorem beg_u8 : U8 [4, 2, 6, 1, 4, 14] := by
  intro x hx
  simp only [List.mem_cons, List.not_mem_nil, or_false] at hx
  rcases hx with rfl | rfl | rfl | rfl | rfl | rfl <;> decide

set_option maxRecDepth 100000 in
set_option maxHeartbeats 2000000 in
theorem begun_any {W : World} : Calls Try.prog 12 #[] W fun e w' => e = .returned (.bool true) ∧ Below W.heap.size W w' := by
  go_enter Try.func12, Try.ntmps12
  go_wp2_with fail
  refine record_any.mono ?_
  rintro _ w1 ⟨rfl, b1⟩
  have HB1 := hide b1
  clear b1
  go_wp2_with fail
  refine barrier_any.mono ?_
  rintro _ w2 ⟨rfl, b2⟩
  have HB2 := hide (HB1.out.trans (b2.mono HB1.out.size))
  have HB3 : Hid (Below W.heap.size W (w2.alloc (.cells #[.int .i64 1, .int .i64 3, .int .i64 (-1), .int .i64 0, .int .i64 2, .int .i64 0, .int .i64 0, .int .i64 7] 26 (0, 0)))) := hide (HB2.out.trans ((alloc_below _ _).mono HB2.out.size))
  have HE : Hid (ERow (w2.alloc (.cells #[.int .i64 1, .int .i64 3, .int .i64 (-1), .int .i64 0, .int .i64 2, .int .i64 0, .int .i64 0, .int .i64 7] 26 (0, 0))) (some ⟨w2.heap.size, 0, none⟩) 2 begE) := hide (LRow.of_own EV.len rfl (World.ownsRow_lit w2 #[.int .i64 1, .int .i64 3, .int .i64 (-1), .int .i64 0, .int .i64 2, .int .i64 0, .int .i64 0, .int .i64 7] 2 (Nat.le_refl _) (by decide) rfl))
  have HBY := hide (bytes_any HE.out beg_fine (L := 2) rfl beg_bytes)
  clear b2 HE HB1 HB2
  go_wp2_with fail
  refine HBY.out.mono ?_
  rintro _ w3 ⟨p3, c3, rfl, O3, b3⟩
  have hb4 : Below w3.heap.size w3 (w3.alloc (.cells #[.int .u8 4, .int .u8 2, .int .u8 6, .int .u8 1, .int .u8 4, .int .u8 14] 5 (0, 0))) := alloc_below _ _
  have HB4 := hide (HB3.out.trans ((b3.trans (hb4.mono b3.size)).mono HB3.out.size))
  have HEQ := hide (equal_any (w := w3.alloc (.cells #[.int .u8 4, .int .u8 2, .int .u8 6, .int .u8 1, .int .u8 4, .int .u8 14] 5 (0, 0))) ((own_row O3).below hb4) (Row.of_lit (k := .u8) (l := [4, 2, 6, 1, 4, 14]) (n := 6) rfl (heap_alloc_new w3 _) (by decide)) beg_u8 beg_u8)
  rw [decide_eq_true rfl] at HEQ
  clear O3 b3 hb4 HBY HB3
  go_wp2_with fail
  refine HEQ.out.mono ?_
  rintro _ w4 ⟨rfl, hw4⟩
  subst hw4
  go_wp2_with fail
  refine barrier_any.mono ?_
  rintro _ w5 ⟨rfl, b5⟩
  have HB5 := hide (HB4.out.trans (b5.mono HB4.out.size))
  clear b5 HEQ
  go_wp2_with fail
  refine check_any.mono ?_
  rintro _ w6 ⟨rfl, b6⟩
  rw [beg_check]
  have HB6 := hide (HB5.out.trans (b6.mono HB5.out.size))
  clear b6
  go_wp2
  go_ret
  exact ⟨rfl, HB6.out⟩
end Go.Proofs.Ytihbdlbnpkmafaa
