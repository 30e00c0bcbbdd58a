/-
  live: the two graphs that the document tells of. No conditions.
-/
import Derived.Test.YtdngjpbefcbodaaGlo
import Derived.Test.YtdngjpbefcbodaaGfs
namespace Go.Proofs.Ytdngjpbefcbodaa
open Go.RowKit

theorem heap_at {w : World} {o x : Obj} {i : Nat} (h : w.heap[i]? = some x) : (w.alloc o).heap[i]? = some x := ((alloc_below w o).block _ (Array.getElem?_eq_some_iff.1 h).1).trans h
theorem heap_new {w : World} {o : Obj} {i : Nat} (h : i = w.heap.size) : (w.alloc o).heap[i]? = some o := by rw [h]; exact heap_alloc_new w o
def goodG : List GO := [⟨1, 0, 0, 0, []⟩, ⟨9, 0, 0, 0, [⟨0, 0⟩]⟩]
def badG : List GO := [⟨1, 0, 0, 0, []⟩, ⟨2, 0, 1, 0, [⟨1, 0⟩]⟩]
theorem good_check : checkC 1 goodG = (0, 0) := by decide +kernel
theorem bad_check : checkC 1 badG = (1, 52) := by decide +kernel
theorem good_sink : firstO sinkF goodG = some 1 := by decide +kernel
/-- Two operators, the second with one input, as they lie. -/
theorem two_row {V : World} {b c : Nat} {kd fn ef : Int} (h1 : V.heap[b]? = some (.cells #[.int .i64 ef, .int .i64 0] 40 (0, 0)))
    (h2 : V.heap[c]? = some (.cells #[.int .i64 1, .int .i64 0, .int .i64 0, .int .i64 0, .slice none 0 0, .int .i64 kd, .int .i64 0, .int .i64 fn, .int .i64 0, .slice (some ⟨b, 0, none⟩) 1 1] 38 (0, 0))) :
    GRow V (some ⟨c, 0, none⟩) 2 [⟨⟨1, 0, 0, 0, []⟩, none, 0⟩, ⟨⟨kd, 0, fn, 0, [⟨ef, 0⟩]⟩, some ⟨b, 0, none⟩, 1⟩] := by
  refine ⟨Nat.le_refl _, by decide, fun i hi => ⟨c, 0, rfl, fun j hj => ?_⟩, fun x hx => ?_⟩
  · have hi' : i < 2 := hi
    have hi2 : i = 0 ∨ i = 1 := by omega
    have hj2 : j = 0 ∨ j = 1 ∨ j = 2 ∨ j = 3 ∨ j = 4 := by omega
    rcases hi2 with rfl | rfl <;> rcases hj2 with rfl | rfl | rfl | rfl | rfl <;> simp only [World.cell?] <;> rw [h2] <;> rfl
  · simp only [List.mem_cons, List.not_mem_nil, or_false] at hx
    rcases hx with rfl | rfl
    · exact ⟨Nat.le_refl _, by decide, fun i hi => absurd hi (Nat.not_lt_zero i)⟩
    · refine ⟨Nat.le_refl _, by show (1 : Nat) ≤ _; decide, fun i hi => ?_⟩
      have hi' : i < 1 := hi
      obtain rfl : i = 0 := by omega
      refine ⟨b, 0, rfl, ?_, ?_⟩ <;> simp only [World.cell?] <;> rw [h1] <;> rfl

set_option maxRecDepth 100000 in
set_option maxHeartbeats 4000000 in
theorem live_any {W : World} : Calls Try.prog 5 #[] W fun e w' => e = .returned (.bool true) ∧ Below W.heap.size W w' := by
  go_enter Try.func5, Try.ntmps5
  go_wp2_with fail
  obtain ⟨V, hV⟩ : ∃ V, V = (((((((W.alloc (.cells #[.int .i64 1, .int .i64 0, .int .i64 0, .int .i64 0, .slice none 0 0] 38 (0, 0))).alloc (.cells #[.int .i64 0, .int .i64 0] 40 (0, 0))).alloc
    (.cells #[.int .i64 1, .int .i64 0, .int .i64 0, .int .i64 0, .slice none 0 0, .int .i64 9, .int .i64 0, .int .i64 0, .int .i64 0, .slice (some ⟨W.heap.size + 1, 0, none⟩) 1 1] 38 (0, 0))).alloc
    (.cells #[.int .i64 1, .slice (some ⟨W.heap.size + 1 + 1, 0, none⟩) 2 2] 24 (0, 0))).alloc (.cells #[.int .i64 1, .int .i64 0] 40 (0, 0))).alloc
    (.cells #[.int .i64 1, .int .i64 0, .int .i64 0, .int .i64 0, .slice none 0 0, .int .i64 2, .int .i64 0, .int .i64 1, .int .i64 0, .slice (some ⟨W.heap.size + 1 + 1 + 1 + 1, 0, none⟩) 1 1] 38 (0, 0))).alloc
    (.cells #[.int .i64 1, .slice (some ⟨W.heap.size + 1 + 1 + 1 + 1 + 1, 0, none⟩) 2 2] 24 (0, 0))) := ⟨_, rfl⟩
  rw [← hV]
  have HVB : Hid (Below W.heap.size W V) := by
    rw [hV]
    exact hide ((((((((Below.refl _ W).alloc (by simp) _).alloc (by simp <;> omega) _).alloc (by simp <;> omega) _).alloc (by simp <;> omega) _).alloc (by simp <;> omega) _).alloc (by simp <;> omega) _).alloc (by simp <;> omega) _)
  have HG : Hid (GRow V (some ⟨W.heap.size + 1 + 1, 0, none⟩) 2 [⟨⟨1, 0, 0, 0, []⟩, none, 0⟩, ⟨⟨9, 0, 0, 0, [⟨0, 0⟩]⟩, some ⟨W.heap.size + 1, 0, none⟩, 1⟩]) := by
    refine hide (two_row ?_ ?_) <;> rw [hV] <;> repeat' (first | exact heap_new (by simp) | refine heap_at ?_)
  have HD : Hid (GRow V (some ⟨W.heap.size + 1 + 1 + 1 + 1 + 1, 0, none⟩) 2 [⟨⟨1, 0, 0, 0, []⟩, none, 0⟩, ⟨⟨2, 0, 1, 0, [⟨1, 0⟩]⟩, some ⟨W.heap.size + 1 + 1 + 1 + 1, 0, none⟩, 1⟩]) := by
    refine hide (two_row ?_ ?_) <;> rw [hV] <;> repeat' (first | exact heap_new (by simp) | refine heap_at ?_)
  have z3 : V.heap[W.heap.size + 1 + 1 + 1]? = some (.cells #[.int .i64 1, .slice (some ⟨W.heap.size + 1 + 1, 0, none⟩) 2 2] 24 (0, 0)) := by
    rw [hV]; repeat' (first | exact heap_new (by simp) | refine heap_at ?_)
  have z6 : V.heap[W.heap.size + 1 + 1 + 1 + 1 + 1 + 1]? = some (.cells #[.int .i64 1, .slice (some ⟨W.heap.size + 1 + 1 + 1 + 1 + 1, 0, none⟩) 2 2] 24 (0, 0)) := by
    rw [hV]; repeat' (first | exact heap_new (by simp) | refine heap_at ?_)
  have c30 : V.cell? ⟨W.heap.size + 1 + 1 + 1, 0, none⟩ = some (.int .i64 1) := by simp only [World.cell?]; rw [z3]; rfl
  have c31 : V.cell? ⟨W.heap.size + 1 + 1 + 1, 1, none⟩ = some (.slice (some ⟨W.heap.size + 1 + 1, 0, none⟩) 2 2) := by simp only [World.cell?]; rw [z3]; rfl
  have c60 : V.cell? ⟨W.heap.size + 1 + 1 + 1 + 1 + 1 + 1, 0, none⟩ = some (.int .i64 1) := by simp only [World.cell?]; rw [z6]; rfl
  have c61 : V.cell? ⟨W.heap.size + 1 + 1 + 1 + 1 + 1 + 1, 1, none⟩ = some (.slice (some ⟨W.heap.size + 1 + 1 + 1 + 1 + 1, 0, none⟩) 2 2) := by simp only [World.cell?]; rw [z6]; rfl
  clear hV z3 z6
  refine (check_any HG.out).mono ?_
  rintro _ w1 ⟨rfl, b1⟩
  have e1 : checkC 1 goodG = (0, 0) := good_check
  unfold goodG at e1
  simp only [List.map_cons, List.map_nil, e1]
  have d30 := cell_later b1 c30
  have d31 := cell_later b1 c31
  have d60 := cell_later b1 c60
  have d61 := cell_later b1 c61
  have HB1 := hide b1
  clear b1 c30 c31 c60 c61 e1
  go_wp2_with fail
  refine (check_any (HD.out.below HB1.out)).mono ?_
  rintro _ w2 ⟨rfl, b2⟩
  have e1 : checkC 1 badG = (1, 52) := bad_check
  unfold badG at e1
  simp only [List.map_cons, List.map_nil, e1]
  have f30 := cell_later b2 d30
  have f31 := cell_later b2 d31
  have HB2 := hide (HB1.out.trans (b2.mono HB1.out.size))
  clear b2 d30 d31 d60 d61 e1
  go_wp2_with fail
  refine (sink_any (HG.out.below HB2.out)).mono ?_
  rintro _ w3 ⟨rfl, b3⟩
  have e1 : firstO sinkF goodG = some 1 := good_sink
  unfold goodG at e1
  simp only [List.map_cons, List.map_nil, e1]
  have e2 : atN (some 1) = 1 := rfl
  have HB3 := hide (HVB.out.trans ((HB2.out.trans (b3.mono HB2.out.size)).mono HVB.out.size))
  rw [e2]
  clear b3 f30 f31 e1
  go_wp2
  go_ret
  exact ⟨rfl, HB3.out⟩
end Go.Proofs.Ytdngjpbefcbodaa
