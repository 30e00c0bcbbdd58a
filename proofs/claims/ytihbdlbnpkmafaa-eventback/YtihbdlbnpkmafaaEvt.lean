/-
  takeRecord and Take: the program's and the reference's. The conditions: that an unpacker lies there.
-/
import Derived.Test.YtihbdlbnpkmafaaEvr
namespace Go.Proofs.Ytihbdlbnpkmafaa
open Go.RowKit

theorem set2 {W : World} {b : Nat} {c0 c1 d0 d1 : Value} (h : W.heap[b]? = some (.cells #[c0, c1] 24 (0, 0))) :
    ((W.setCell ⟨b, 0, none⟩ d0).setCell ⟨b, 1, none⟩ d1).heap[b]? = some (.cells #[d0, d1] 24 (0, 0)) :=
  heap_setCell_same _ b 1 _ _ d1 (heap_setCell_same W b 0 _ _ d0 h)
theorem only_set2 (W : World) (b : Nat) (d0 d1 : Value) : Only (· = b) W ((W.setCell ⟨b, 0, none⟩ d0).setCell ⟨b, 1, none⟩ d1) :=
  (Only.set (F := (· = b)) W b 0 d0 rfl).trans (Only.set (F := (· = b)) _ b 1 d1 rfl)
theorem only_set4 (W : World) (b : Nat) (d0 d1 d2 d3 : Value) : Only (· = b) W ((((W.setCell ⟨b, 0, none⟩ d0).setCell ⟨b, 1, none⟩ d1).setCell ⟨b, 2, none⟩ d2).setCell ⟨b, 3, none⟩ d3) :=
  (((Only.set (F := (· = b)) W b 0 d0 rfl).trans (Only.set (F := (· = b)) _ b 1 d1 rfl)).trans (Only.set (F := (· = b)) _ b 2 d2 rfl)).trans (Only.set (F := (· = b)) _ b 3 d3 rfl)
/-- What a store of a record asks of the block. -/
theorem rec_facts {w : World} {b : Nat} {c0 c1 : Value} (h : w.heap[b]? = some (.cells #[c0, c1] 24 (0, 0))) (d0 : Value) :
    w.cell? ⟨b, 0, none⟩ = some c0 ∧ w.frozen? ⟨b, 0, none⟩ = false ∧ (w.setCell ⟨b, 0, none⟩ d0).cell? ⟨b, 1, none⟩ = some c1 ∧ (w.setCell ⟨b, 0, none⟩ d0).frozen? ⟨b, 1, none⟩ = false := by
  have h1 := heap_setCell_same w b 0 _ _ d0 h
  refine ⟨by simp [World.cell?, h], by simp [World.frozen?, h], ?_, ?_⟩
  · simp only [World.cell?]; rw [h1]; rfl
  · simp only [World.frozen?]; rw [h1]; rfl
theorem ev_facts {w : World} {b : Nat} {c0 c1 c2 c3 : Value} (h : w.heap[b]? = some (.cells #[c0, c1, c2, c3] 26 (0, 0))) (d0 d1 d2 : Value) :
    w.cell? ⟨b, 0, none⟩ = some c0 ∧ w.frozen? ⟨b, 0, none⟩ = false ∧ (w.setCell ⟨b, 0, none⟩ d0).cell? ⟨b, 1, none⟩ = some c1 ∧ (w.setCell ⟨b, 0, none⟩ d0).frozen? ⟨b, 1, none⟩ = false ∧
    ((w.setCell ⟨b, 0, none⟩ d0).setCell ⟨b, 1, none⟩ d1).cell? ⟨b, 2, none⟩ = some c2 ∧ ((w.setCell ⟨b, 0, none⟩ d0).setCell ⟨b, 1, none⟩ d1).frozen? ⟨b, 2, none⟩ = false ∧
    (((w.setCell ⟨b, 0, none⟩ d0).setCell ⟨b, 1, none⟩ d1).setCell ⟨b, 2, none⟩ d2).cell? ⟨b, 3, none⟩ = some c3 ∧ (((w.setCell ⟨b, 0, none⟩ d0).setCell ⟨b, 1, none⟩ d1).setCell ⟨b, 2, none⟩ d2).frozen? ⟨b, 3, none⟩ = false := by
  have h1 := heap_setCell_same w b 0 _ _ d0 h
  have h2 := heap_setCell_same _ b 1 _ _ d1 h1
  have h3 := heap_setCell_same _ b 2 _ _ d2 h2
  refine ⟨by simp [World.cell?, h], by simp [World.frozen?, h], ?_, ?_, ?_, ?_, ?_, ?_⟩
  · simp only [World.cell?]; rw [h1]; rfl
  · simp only [World.frozen?]; rw [h1]; rfl
  · simp only [World.cell?]; rw [h2]; rfl
  · simp only [World.frozen?]; rw [h2]; rfl
  · simp only [World.cell?]; rw [h3]; rfl
  · simp only [World.frozen?]; rw [h3]; rfl

set_option maxRecDepth 100000 in
set_option maxHeartbeats 2000000 in
theorem trec_any {W : World} {bu : Nat} {bx : Nat → Prop} {v : Value} {l l2 : List Int} {e e2 ky vl : Int} (h : UnpX bx W bu v l e) (hr : recR l e = (⟨ky, vl⟩, l2, e2)) :
    Calls Try.prog 51 #[.pointer (some ⟨bu, 0, none⟩)] W fun r w' => r = .returned (.agg #[.int .i64 ky, .int .i64 vl]) ∧ Only (· = bu) W w' ∧ ∃ p cap, UnpX bx w' bu (.slice p l2.length cap) l2 e2 := by
  obtain ⟨n1, l1, e1, h1⟩ : ∃ n1 l1 e1, anyR l e = (n1, l1, e1) := ⟨_, _, _, rfl⟩
  obtain ⟨n2, l2', e2', h2⟩ : ∃ n2 l2' e2', anyR l1 e1 = (n2, l2', e2') := ⟨_, _, _, rfl⟩
  unfold recR at hr
  rw [h1] at hr
  simp only at hr
  rw [h2] at hr
  simp only [Prod.mk.injEq, RC.mk.injEq] at hr
  obtain ⟨⟨rfl, rfl⟩, rfl, rfl⟩ := hr
  have hlt := h.lt
  obtain ⟨V, hV⟩ : ∃ V, V = W.alloc (.cells #[.int .i64 0, .int .i64 0] 24 (0, 0)) := ⟨_, rfl⟩
  have hb0 : Below W.heap.size W V := by rw [hV]; exact alloc_below W _
  have hvr : V.heap[W.heap.size]? = some (.cells #[.int .i64 0, .int .i64 0] 24 (0, 0)) := by rw [hV]; exact heap_alloc_new W _
  have HU := hide (h.below hb0)
  have HVO : Hid (Only (· = bu) W V) := hide (Only.fresh hb0 _)
  have HA := hide (uint_at HU.out h1)
  obtain ⟨gB, hgB⟩ : ∃ gB, W.heap.size = gB := ⟨_, rfl⟩
  have hne : bu ≠ gB := by omega
  rw [hgB] at hvr
  have HGB := hide hgB
  clear h hb0 h1 hlt
  go_enter Try.func51, Try.ntmps51
  go_wp2_with fail
  rw [← hV]
  try rw [hgB]
  clear hV hgB
  refine HA.out.mono ?_
  rintro _ w1 ⟨rfl, g1, p1, c1, U1⟩
  have HB := hide (uint_at U1 h2)
  have o1 := (only_grown g1).obj hvr (fun e => hne e.symm)
  have HO1 : Hid (Only (· = bu) W w1) := hide (HVO.out.trans (only_grown g1))
  clear g1 U1 hvr HA h2
  go_wp2_with fail
  refine HB.out.mono ?_
  rintro _ w2 ⟨rfl, g2, p2, c2, U2⟩
  have o2 := (only_grown g2).obj o1 (fun e => hne e.symm)
  have HO2 : Hid (Only (· = bu) W w2) := hide (HO1.out.trans (only_grown g2))
  obtain ⟨f0, f1, f2, f3⟩ := rec_facts o2 (.int .i64 n1)
  have HE := hide (set2 (d0 := .int .i64 n1) (d1 := .int .i64 n2) o2)
  have HN : Hid (UnpX bx ((w2.setCell ⟨gB, 0, none⟩ (.int .i64 n1)).setCell ⟨gB, 1, none⟩ (.int .i64 n2)) bu (.slice p2 l2'.length c2) l2' e2') := hide (U2.turn (only_set2 w2 gB _ _) (fun e => hne e) (fun i e => .inr (by have e' : i = gB := e; rw [e']; exact noBytes_of (l := [0, 0]) o2)))
  have HOF : Hid (Only (· = bu) W ((w2.setCell ⟨gB, 0, none⟩ (.int .i64 n1)).setCell ⟨gB, 1, none⟩ (.int .i64 n2))) := hide (HO2.out.step (only_set2 w2 gB _ _) (fun i e => .inr (by have e' : i = gB := e; have := HGB.out; omega)))
  clear g2 U2 o1 o2 HB
  go_wp2
  refine bodyPost_ret (results_cell_row rfl _ _ gB 24 _ _ _ rfl HE.out Try.underlying24 rfl (by kernel_rfl)) rfl ?_
  exact ⟨rfl, HOF.out, p2, c2, HN.out⟩
end Go.Proofs.Ytihbdlbnpkmafaa
