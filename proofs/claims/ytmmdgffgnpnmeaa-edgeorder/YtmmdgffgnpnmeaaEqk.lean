/-
  rec, Clone of the program's queue, and all and Records of a queue. The conditions: what is handed in is such a queue.
-/
import Derived.Test.YtmmdgffgnpnmeaaEql
import Derived.Test.YtmmdgffgnpnmeaaStp
import Derived.Deep.RegionLaw
namespace Go.Proofs.Ytmmdgffgnpnmeaa
open Go.RowKit Go.Shelf

set_option maxRecDepth 100000 in
theorem rec_any {W : World} {v : Int} : Calls Try.prog 16 #[.int .i64 v] W fun e w' => e = .returned (.agg #[.int .i64 1, .int .i64 0, .int .i64 v, .int .i64 0]) ∧ Below W.heap.size W w' := by
  go_enter Try.func16, Try.ntmps16
  go_wp2
  refine bodyPost_ret (results_cell_row rfl _ _ W.heap.size 34 _ _ _ rfl (heap_alloc_new W _) Try.underlying34 rfl (by kernel_rfl)) rfl ?_
  exact ⟨rfl, alloc_below _ _⟩
theorem qall_any {base : Nat} {W : World} {b : Nat} {p : Option Addr} {c : Nat} {q : QC} (h : PQ base W b p c q) (hok : q.ok) {L : Nat} (hL : q.evs.length = L) :
    ∀ X, Below W.heap.size W X → Calls Try.prog 33 #[.pointer (some ⟨b, 0, none⟩)] X fun e w' => ∃ kb p' c', e = .returned (.func (.func 34) #[] #[.pointer (some ⟨kb, 0, none⟩)]) ∧ KAll kb L c' p' q.evs w' ∧ X.heap.size ≤ kb ∧ (∀ a, p' = some a → X.heap.size ≤ a.block) ∧ Below X.heap.size X w' := by
  intro X hX
  have h2 := h.later hX
  obtain ⟨_, k2, k3, _⟩ := hok
  have hb := box_cells h2.box
  rw [hL] at hb
  exact qall_gen (held_any hb) h2.erow hL (by omega)
theorem qnil_any {W : World} : ∀ X, Below W.heap.size W X → Calls Try.prog 33 #[.pointer none] X fun e w' => ∃ kb p' c', e = .returned (.func (.func 34) #[] #[.pointer (some ⟨kb, 0, none⟩)]) ∧ KAll kb 0 c' p' [] w' ∧ X.heap.size ≤ kb ∧ (∀ a, p' = some a → X.heap.size ≤ a.block) ∧ Below X.heap.size X w' := by
  intro X _
  exact qall_gen held_nil (es := []) ⟨Nat.le_refl _, by decide, fun _ => rfl, fun i hi => by simp at hi⟩ rfl (by omega)
/-- all of a queue. -/
theorem allq_any {base : Nat} {W : World} {b : Nat} {p : Option Addr} {c : Nat} {q : QC} (h : PQ base W b p c q) (hok : q.ok) {L : Nat} (hL : q.evs.length = L) :
    Calls Try.prog 23 #[.pointer (some ⟨b, 0, none⟩)] W fun e w' => ∃ p c, e = .returned (.tuple #[.slice p L c, .bool true]) ∧ w'.ownsRow W.heap.size 34 4 (.slice p L c) L (q.evs.flatMap EV.cells) ∧ Below W.heap.size W w' :=
  all_any (qall_any h hok hL) hL (by obtain ⟨_, k2, k3, _⟩ := hok; omega)
theorem recordsq_any {base : Nat} {W : World} {b : Nat} {p : Option Addr} {c : Nat} {q : QC} (h : PQ base W b p c q) (hok : q.ok) :
    Calls Try.prog 26 #[.pointer (some ⟨b, 0, none⟩)] W fun e w' => e = .returned (.int .i64 (recsC q.evs : Int)) ∧ Below W.heap.size W w' :=
  records_any (qall_any h hok rfl) rfl (by obtain ⟨_, k2, k3, _⟩ := hok; omega)
theorem enClone : ∀ args w, (callFunc 31 args).run Try.prog w = .ok (.enter 31 args) w := enters_of Try.func31 (by kernel_rfl) rfl
set_option maxRecDepth 100000 in
set_option maxHeartbeats 2000000 in
theorem clone_any {base : Nat} {W : World} {b : Nat} {p : Option Addr} {c : Nat} {room n : Nat} {evs : List EV} {last : Int} (hn : evs.length = n) (h : PQ base W b p c ⟨room, evs, last⟩) (hok : QC.ok ⟨room, evs, last⟩) :
    Calls Try.prog 15 #[.pointer (some ⟨b, 0, none⟩)] W fun e w' => ∃ b' p' c', e = .returned (.pointer (some ⟨b', 0, none⟩)) ∧ PQ W.heap.size w' b' p' c' ⟨room, evs, last⟩ ∧ Below W.heap.size W w' := by
  obtain ⟨k1, k2, k3, _⟩ := hok
  simp only at k1 k2 k3
  rw [hn] at k3
  have hbx := h.box
  simp only at hbx
  rw [hn] at hbx
  have HBX := hide (box_cells hbx)
  obtain ⟨c0, c1, c2⟩ := box_cells hbx
  have HC : Hid (Calls Try.prog 31 #[.slice p n c] W.drew fun e w' => ∃ p' c', e = .returned (.slice p' n c') ∧ w'.ownsRow W.heap.size 34 4 (.slice p' n c') n (evs.flatMap EV.cells) ∧ Below W.heap.size W.drew w') := hide (evClone (W := W.drew) (h.later (Below.refl _ W).drew).erow hn (by omega))
  have HN := hide hn
  clear h hbx hn
  go_enter Try.func15, Try.ntmps15
  go_wp2_with fail
  refine (made_any HBX.out (by omega)).mono ?_
  rintro _ w0 ⟨rfl, rfl⟩
  go_upto_region 3 with fail
  go_region_law (refine step_calls rfl 31 #[.tmp 13] #[44] rfl #[.slice p n c] (by simp [Act.eval]) enClone _ HC.out ?_; rintro r w1 ⟨p1, c1', rfl, o1, b1⟩; have B1 : Below w0.heap.size w0 w1 := (Below.refl _ w0).drew.trans b1; have r0 := cell_later B1 c0; have r1 := cell_later B1 c1; have r2 := cell_later B1 c2; have HO1 := hide o1; have HB1 := hide B1; clear o1 b1 B1; refine ⟨_, rfl, ?_⟩)
  all_goals
    have bA := alloc_below w1 (.cells #[.int .i64 (room : Int), .slice p1 n c1', .int .i64 last] 54 (0, 0))
    have HPQ : Hid (PQ w0.heap.size (w1.alloc (.cells #[.int .i64 (room : Int), .slice p1 n c1', .int .i64 last] 54 (0, 0))) w1.heap.size p1 c1' ⟨room, evs, last⟩) := by
      refine hide ⟨?_, ?_, HB1.out.size⟩
      · rw [heap_alloc_new w1 _]
        simp only [HN.out]
      · show World.ownsRow _ w0.heap.size 34 4 (.slice p1 evs.length c1') evs.length (evs.flatMap EV.cells)
        rw [HN.out]
        exact ownsRow_later HO1.out bA
    have HBA : Hid (Below w0.heap.size w0 (w1.alloc (.cells #[.int .i64 (room : Int), .slice p1 n c1', .int .i64 last] 54 (0, 0)))) := hide (HB1.out.trans (bA.mono HB1.out.size))
    clear bA r0 r1 r2
    simp only [Act.put, List.getElem_toArray, List.getElem_cons_succ, List.getElem_cons_zero, List.setIfInBounds_toArray, List.set_cons_zero, List.set_cons_succ]
    go_wp2
    go_ret
    exact ⟨_, _, _, rfl, HPQ.out, HBA.out⟩
theorem clone_nil {W : World} :
    Calls Try.prog 15 #[.pointer none] W fun e w' => e = .returned (.pointer none) ∧ w' = W := by
  go_enter Try.func15, Try.ntmps15
  go_wp2_with fail
  refine made_nil.mono ?_
  rintro _ w0 ⟨rfl, rfl⟩
  go_wp2
  go_ret
  exact ⟨rfl, rfl⟩
theorem clone_none {W : World} {b n c : Nat} {r l : Int} {p : Option Addr} (h : Box.Cells W b r p n c l) (hr : r ≤ 0) :
    Calls Try.prog 15 #[.pointer (some ⟨b, 0, none⟩)] W fun e w' => e = .returned (.pointer none) ∧ w' = W := by
  have H := hide h
  clear h
  go_enter Try.func15, Try.ntmps15
  go_wp2_with fail
  refine (made_no H.out hr).mono ?_
  rintro _ w0 ⟨rfl, rfl⟩
  go_wp2
  go_ret
  exact ⟨rfl, rfl⟩
end Go.Proofs.Ytmmdgffgnpnmeaa
