/-
  The law's live. No condition.
-/
import Derived.Test.YtmmdgffgnpnmeaaEqk
import Derived.Deep.RegionHeld3
namespace Go.Proofs.Ytmmdgffgnpnmeaa
open Go.RowKit Go.Shelf

theorem pq_new (W : World) (n : Nat) : PQ W.heap.size (W.alloc (.cells #[.int .i64 (n : Int), .slice none 0 0, .int .i64 0] 54 (0, 0))) W.heap.size none 0 ⟨n, [], 0⟩ :=
  ⟨heap_alloc_new W _, World.ownsRow_nil _ _ _ _, Nat.le_refl _⟩
theorem rq_new (W : World) (n : Nat) : RQ W.heap.size (W.alloc (.cells #[.slice none 0 0, .int .i64 (n : Int), .int .i64 0] 58 (0, 0))) W.heap.size none 0 ⟨n, [], 0⟩ :=
  ⟨heap_alloc_new W _, ⟨Nat.le_refl _, by decide, fun _ => rfl, fun i hi => by simp at hi⟩, Nat.le_refl _⟩
theorem new_ok {n : Nat} (h1 : 1 ≤ n) (h2 : n ≤ 64) : QC.ok ⟨n, [], 0⟩ := ⟨h1, h2, Nat.zero_le _, fun e he => by cases he⟩
theorem Put.below {base : Nat} {W w' : World} {b : Nat} {p : Option Addr} {c : Nat} {q q' : QC} (h : Put base W w' b p q') (hq : PQ base W b p c q) : Below base W w' :=
  h.only.below (by have := hq.ge; have := (Array.getElem?_eq_some_iff.1 hq.box).1; omega) (fun i hi => (hq.ges hi).1)
set_option maxRecDepth 100000 in
set_option maxHeartbeats 4000000 in
theorem live_any {W : World} : Calls Try.prog 7 #[] W fun e w' => e = .returned (.bool true) ∧ Below W.heap.size W w' := by
  have e1 : QC.err ⟨2, [], 0⟩ ⟨1, 0, 1, 0⟩ = 0 := rfl
  have e2 : QC.err (QC.put ⟨2, [], 0⟩ ⟨1, 0, 1, 0⟩) ⟨1, 0, 2, 0⟩ = 0 := rfl
  have e3 : QC.err (QC.put (QC.put ⟨2, [], 0⟩ ⟨1, 0, 1, 0⟩) ⟨1, 0, 2, 0⟩) ⟨1, 0, 3, 0⟩ = 6 := rfl
  have e4 : QC.put (QC.put (QC.put ⟨2, [], 0⟩ ⟨1, 0, 1, 0⟩) ⟨1, 0, 2, 0⟩) ⟨1, 0, 3, 0⟩ = ⟨2, [⟨1, 0, 1, 0⟩, ⟨1, 0, 2, 0⟩], 0⟩ := rfl
  have e5 : QC.err ⟨2, [⟨1, 0, 2, 0⟩], 0⟩ ⟨1, 0, 3, 0⟩ = 0 := rfl
  have e6 : QC.put ⟨2, [⟨1, 0, 2, 0⟩], 0⟩ ⟨1, 0, 3, 0⟩ = ⟨2, [⟨1, 0, 2, 0⟩, ⟨1, 0, 3, 0⟩], 0⟩ := rfl
  have E1 := hide e1
  have E2 := hide e2
  have E3 := hide e3
  have E4 := hide e4
  have E5 := hide e5
  have E6 := hide e6
  have K0 := hide (new_ok (n := 2) (by decide) (by decide))
  have K1 := hide (QC.put_ok K0.out ⟨1, 0, 1, 0⟩)
  have K2 := hide (QC.put_ok K1.out ⟨1, 0, 2, 0⟩)
  clear e1 e2 e3 e4 e5 e6
  go_enter Try.func7, Try.ntmps7
  go_wp2_with fail
  refine (new_good (n := 2) (by decide) (by decide)).mono ?_
  rintro _ w0 ⟨rfl, hw0⟩
  have HQ0 : Hid (PQ W.heap.size w0 W.heap.size none 0 ⟨2, [], 0⟩) := by rw [hw0]; exact hide (pq_new W 2)
  have HB0 : Hid (Below W.heap.size W w0) := by rw [hw0]; exact hide (alloc_below _ _)
  obtain ⟨b, hb⟩ : ∃ b, W.heap.size = b := ⟨_, rfl⟩
  rw [hb] at HQ0 HB0 ⊢
  clear hw0
  go_wp2_with fail
  refine rec_any.mono ?_
  rintro _ w1 ⟨rfl, b1⟩
  have HQ1 := hide (HQ0.out.later b1)
  have HB1 : Hid (Below b W w1) := hide (HB0.out.trans (b1.mono (by have := HB0.out.size; omega)))
  clear b1 HQ0 HB0
  go_wp2_with fail
  refine (put_any HQ1.out K0.out ⟨1, 0, 1, 0⟩).mono ?_
  rw [E1.out]
  rintro _ w2 ⟨rfl, P2⟩
  have HB2 : Hid (Below b W w2) := hide (HB1.out.trans (P2.below HQ1.out))
  obtain ⟨p2, c2, Q2, _⟩ := P2.is
  have HQ2 := hide Q2
  clear P2 Q2 HQ1 HB1
  go_wp2_with fail
  refine rec_any.mono ?_
  rintro _ w3 ⟨rfl, b3⟩
  have HQ3 := hide (HQ2.out.later b3)
  have HB3 : Hid (Below b W w3) := hide (HB2.out.trans (b3.mono (by have := HB2.out.size; omega)))
  clear b3 HQ2 HB2
  go_wp2_with fail
  refine (put_any HQ3.out K1.out ⟨1, 0, 2, 0⟩).mono ?_
  rw [E2.out]
  rintro _ w4 ⟨rfl, P4⟩
  have HB4 : Hid (Below b W w4) := hide (HB3.out.trans (P4.below HQ3.out))
  obtain ⟨p4, c4, Q4, _⟩ := P4.is
  have HQ4 := hide Q4
  clear P4 Q4 HQ3 HB3
  go_wp2_with fail
  refine rec_any.mono ?_
  rintro _ w5 ⟨rfl, b5⟩
  have HQ5 := hide (HQ4.out.later b5)
  have HB5 : Hid (Below b W w5) := hide (HB4.out.trans (b5.mono (by have := HB4.out.size; omega)))
  clear b5 HQ4 HB4
  go_wp2_with fail
  refine (put_any HQ5.out K2.out ⟨1, 0, 3, 0⟩).mono ?_
  rw [E3.out, E4.out]
  rintro _ w6 ⟨rfl, P6⟩
  have HB6 : Hid (Below b W w6) := hide (HB5.out.trans (P6.below HQ5.out))
  obtain ⟨p6, c6, Q6, _⟩ := P6.is
  have HQ6 := hide Q6
  clear P6 Q6 HQ5 HB5
  go_wp2_with fail
  refine (take_any HQ6.out).mono ?_
  simp only [QC.first, QC.any, QC.rest, EV.agg, List.headD_cons, List.tail_cons]
  rintro _ w7 ⟨rfl, P7⟩
  have hdc : decide ([(⟨1, 0, 1, 0⟩ : EV), ⟨1, 0, 2, 0⟩] ≠ []) = true := rfl
  rw [hdc]
  clear hdc
  have HB7 : Hid (Below b W w7) := hide (HB6.out.trans (P7.below HQ6.out))
  obtain ⟨p7, c7, Q7, _⟩ := P7.is
  have HQ7 := hide Q7
  clear P7 Q7 HQ6 HB6
  go_upto_region 5 with fail
  obtain ⟨X, hX⟩ : ∃ X, X = w7.alloc (.cells #[.int .i64 1, .int .i64 0, .int .i64 1, .int .i64 0] 34 (0, 0)) := ⟨_, rfl⟩
  rw [← hX]
  have bX : Below w7.heap.size w7 X := by rw [hX]; exact alloc_below _ _
  obtain ⟨xB, hxB⟩ : ∃ xB, w7.heap.size = xB := ⟨_, rfl⟩
  have hn1 : X.heap[xB]? = some (.cells #[.int .i64 1, .int .i64 0, .int .i64 1, .int .i64 0] 34 (0, 0)) := by rw [hX, ← hxB]; exact heap_alloc_new w7 _
  have HQX := hide (HQ7.out.later bX)
  have HBX : Hid (Below b W X) := hide (HB7.out.trans (bX.mono (by have := HB7.out.size; omega)))
  have HLT : Hid (∀ i, PQ.at b p7 i → i < xB) := by
    refine hide (fun i hi => ?_)
    have := (HQ7.out.ges hi).2
    rw [← hxB]; exact this
  have HXB := hide hn1
  try rw [hxB]
  clear hX bX hxB HQ7 HB7
  obtain ⟨_, _, _, _, a0, a1, a2, a3⟩ := four hn1
  clear hn1
  have HS1 : Hid (∀ X', Below X.heap.size X X' → (X'.cell? ⟨xB, 0, none⟩ = some (.int .i64 1) ∧ X'.cell? ⟨xB, 1, none⟩ = some (.int .i64 0)) ∧ X'.cell? ⟨xB, 2, none⟩ = some (.int .i64 1) ∧ X'.cell? ⟨xB, 3, none⟩ = some (.int .i64 0)) := by
    refine hide (fun X' h => ?_)
    obtain ⟨_, _, _, _, a0, a1, a2, a3⟩ := four ((h.block xB (Array.getElem?_eq_some_iff.1 HXB.out).1).trans HXB.out)
    exact ⟨⟨a0, a1⟩, a2, a3⟩
  have HS2 : Hid (∀ Y X', Below X.heap.size X Y → Only (PQ.at b p7) Y X' → (X'.cell? ⟨xB, 0, none⟩ = some (.int .i64 1) ∧ X'.cell? ⟨xB, 1, none⟩ = some (.int .i64 0)) ∧ X'.cell? ⟨xB, 2, none⟩ = some (.int .i64 1) ∧ X'.cell? ⟨xB, 3, none⟩ = some (.int .i64 0)) := by
    refine hide (fun Y X' h o => ?_)
    obtain ⟨⟨a0, a1⟩, a2, a3⟩ := HS1.out Y h
    have hne : ¬ PQ.at b p7 xB := fun e => by have := HLT.out _ e; omega
    exact ⟨⟨o.cell a0 hne, o.cell a1 hne⟩, o.cell a2 hne, o.cell a3 hne⟩
  have B0 : Below X.heap.size X X.drew := (Below.refl _ X).drew
  have K3 : Hid (QC.ok ⟨2, [⟨1, 0, 2, 0⟩], 0⟩) := hide ⟨by decide, by decide, by decide, by simp⟩
  go_region_held3 (fun w' => (w'.cell? ⟨xB, 0, none⟩ = some (.int .i64 1) ∧ w'.cell? ⟨xB, 1, none⟩ = some (.int .i64 0)) ∧ w'.cell? ⟨xB, 2, none⟩ = some (.int .i64 1) ∧ w'.cell? ⟨xB, 3, none⟩ = some (.int .i64 0)) (go_keep)
    (first
      | (go_at_call 20; refine (left_any (box_cells HQ8.out.box) (by decide) (by decide) (by decide)).mono ?_; rintro _ x5 ⟨rfl, d5⟩; have D5 := D3.trans (d5.mono (by have := D3.size; omega)); obtain ⟨⟨a0, a1⟩, a2, a3⟩ := And.intro (And.intro (cell_later d5 a0) (cell_later d5 a1)) (And.intro (cell_later d5 a2) (cell_later d5 a3)))
      | (go_at_call 19; refine (len_any (box_cells HQ8.out.box)).mono ?_; rintro _ x4 ⟨rfl, rfl⟩)
      | (go_at_call 12; refine (put_any (HQX.out.later D2) K3.out ⟨1, 0, 3, 0⟩).mono ?_; rw [E5.out, E6.out]; rintro _ x3 ⟨rfl, P8⟩; have D3 : Below b W x3 := (HBX.out.trans (D2.mono (by have := HBX.out.size; omega))).trans (P8.below (HQX.out.later D2)); obtain ⟨p8, c8, Q8, _⟩ := P8.is; have HQ8 := hide Q8; obtain ⟨⟨a0, a1⟩, a2, a3⟩ := HS2.out _ _ D2 P8.only)
      | (go_at_call 16; refine rec_any.mono ?_; rintro _ x2 ⟨rfl, d2⟩; have D2 := D1.trans (d2.mono D1.size); obtain ⟨⟨a0, a1⟩, a2, a3⟩ := HS1.out _ D2)
      | (go_at_call 16; refine rec_any.mono ?_; rintro _ x1 ⟨rfl, d1⟩; have D1 := B0.trans (d1.mono B0.size); obtain ⟨⟨a0, a1⟩, a2, a3⟩ := HS1.out _ D1))
  go_wp2
  go_ret
  exact ⟨rfl, by rw [hb]; exact D5⟩
end Go.Proofs.Ytmmdgffgnpnmeaa
