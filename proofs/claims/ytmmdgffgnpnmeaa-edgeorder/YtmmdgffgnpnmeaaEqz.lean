/-
  The law's same: the program's queue and the reference's, where both are the same queue, plainly. The conditions: what is handed in are such queues.
-/
import Derived.Test.YtmmdgffgnpnmeaaEqk
import Derived.Deep.RegionHeld3
namespace Go.Proofs.Ytmmdgffgnpnmeaa
open Go.RowKit Go.Shelf

set_option maxRecDepth 100000 in
set_option maxHeartbeats 8000000 in
theorem same_any {base base2 : Nat} {W : World} {b rb : Nat} {p rp : Option Addr} {c rc : Nat} {q : QC} (hp : PQ base W b p c q) (hr : RQ base2 W rb rp rc q) (hok : q.ok) :
    Calls Try.prog 14 #[.pointer (some ⟨b, 0, none⟩), .pointer (some ⟨rb, 0, none⟩)] W fun e w' => e = .returned (.bool true) ∧ Below W.heap.size W w' := by
  obtain ⟨L, hL⟩ : ∃ L, q.evs.length = L := ⟨_, rfl⟩
  obtain ⟨x, hx⟩ : ∃ x, q.first = x := ⟨_, rfl⟩
  obtain ⟨bb, hbb⟩ : ∃ bb, q.any = bb := ⟨_, rfl⟩
  obtain ⟨rm, hrm⟩ : ∃ rm, q.room = rm := ⟨_, rfl⟩
  obtain ⟨rr, hrr⟩ : ∃ rr, recsC q.evs = rr := ⟨_, rfl⟩
  obtain ⟨k0, k1, k2, k3⟩ := x
  have o2 := hok.2.1
  have o3 := hok.2.2.1
  rw [hrm] at o2 o3
  rw [hL] at o3
  have HP := hide hp
  have HR := hide hr
  have HOK := hide hok
  have HL := hide hL
  have HX := hide hx
  have HBB := hide hbb
  have HRM := hide hrm
  have HRR := hide hrr
  clear hp hr hok hL hx hbb hrm hrr
  go_enter Try.func14, Try.ntmps14
  go_wp2_with fail
  refine (peek_any HP.out).mono ?_
  rw [HX.out, HBB.out]
  simp only [EV.agg]
  rintro _ w1 ⟨rfl, b1⟩
  go_upto_region 2 with fail
  obtain ⟨X1, hX1⟩ : ∃ X1, X1 = w1.alloc (.cells #[.int .i64 k0, .int .i64 k1, .int .i64 k2, .int .i64 k3] 34 (0, 0)) := ⟨_, rfl⟩
  rw [← hX1]
  have bX1 : Below w1.heap.size w1 X1 := by rw [hX1]; exact alloc_below _ _
  obtain ⟨aB, haB⟩ : ∃ aB, w1.heap.size = aB := ⟨_, rfl⟩
  have hA1 : X1.heap[aB]? = some (.cells #[.int .i64 k0, .int .i64 k1, .int .i64 k2, .int .i64 k3] 34 (0, 0)) := by rw [hX1, ← haB]; exact heap_alloc_new w1 _
  have HWX1 : Hid (Below W.heap.size W X1) := hide (b1.trans (bX1.mono b1.size))
  have HA1 := hide hA1
  try rw [haB]
  clear hX1 bX1 haB b1 hA1
  go_wp2_with fail
  refine (rpeek_any (HR.out.later HWX1.out)).mono ?_
  rw [HX.out, HBB.out]
  simp only [EV.agg]
  rintro _ w2 ⟨rfl, b2⟩
  go_upto_region 3 with fail
  obtain ⟨X2, hX2⟩ : ∃ X2, X2 = w2.alloc (.cells #[.int .i64 k0, .int .i64 k1, .int .i64 k2, .int .i64 k3] 34 (0, 0)) := ⟨_, rfl⟩
  rw [← hX2]
  have bX2 : Below w2.heap.size w2 X2 := by rw [hX2]; exact alloc_below _ _
  obtain ⟨cB, hcB⟩ : ∃ cB, w2.heap.size = cB := ⟨_, rfl⟩
  have hA2 : X2.heap[cB]? = some (.cells #[.int .i64 k0, .int .i64 k1, .int .i64 k2, .int .i64 k3] 34 (0, 0)) := by rw [hX2, ← hcB]; exact heap_alloc_new w2 _
  have HXX : Hid (Below X1.heap.size X1 X2) := hide (b2.trans (bX2.mono b2.size))
  have HWX2 : Hid (Below W.heap.size W X2) := hide (HWX1.out.trans (HXX.out.mono HWX1.out.size))
  have HA2 := hide hA2
  have HA1' := hide ((HXX.out.block aB (Array.getElem?_eq_some_iff.1 HA1.out).1).trans HA1.out)
  try rw [hcB]
  clear hX2 bX2 hcB b2 hA2 HXX HA1
  go_wp2_with fail
  refine (allq_any (HP.out.later HWX2.out) HOK.out HL.out).mono ?_
  rintro _ w3 ⟨pa, ca, rfl, oa, b3⟩
  have HOA : Hid (ERow w3 pa ca q.evs) := hide (LRow.of_own EV.len HL.out oa)
  have HW3 : Hid (Below W.heap.size W w3) := hide (HWX2.out.trans (b3.mono HWX2.out.size))
  have HSS : Hid (∀ X, Below w3.heap.size w3 X → (((X.cell? ⟨aB, 0, none⟩ = some (.int .i64 k0) ∧ X.cell? ⟨aB, 1, none⟩ = some (.int .i64 k1)) ∧ X.cell? ⟨aB, 2, none⟩ = some (.int .i64 k2) ∧ X.cell? ⟨aB, 3, none⟩ = some (.int .i64 k3)) ∧ (X.cell? ⟨cB, 0, none⟩ = some (.int .i64 k0) ∧ X.cell? ⟨cB, 1, none⟩ = some (.int .i64 k1)) ∧ X.cell? ⟨cB, 2, none⟩ = some (.int .i64 k2) ∧ X.cell? ⟨cB, 3, none⟩ = some (.int .i64 k3)) ∧ X.cell? ⟨rb, 0, none⟩ = some (.slice rp L rc) ∧ X.cell? ⟨rb, 1, none⟩ = some (.int .i64 (rm : Int))) := by
    refine hide (fun X hX => ?_)
    have hbX2 := b3.trans (hX.mono b3.size)
    have y1 := (hbX2.block aB (Array.getElem?_eq_some_iff.1 HA1'.out).1).trans HA1'.out
    have y2 := (hbX2.block cB (Array.getElem?_eq_some_iff.1 HA2.out).1).trans HA2.out
    have y3 := (HR.out.later (HW3.out.trans (hX.mono HW3.out.size))).box
    rw [HL.out, HRM.out] at y3
    obtain ⟨_, _, _, _, a0, a1, a2, a3⟩ := four y1
    obtain ⟨_, _, _, _, d0, d1, d2, d3⟩ := four y2
    obtain ⟨r0, r1, _⟩ := rbox_cells y3
    exact ⟨⟨⟨⟨a0, a1⟩, a2, a3⟩, ⟨d0, d1⟩, d2, d3⟩, r0, r1⟩
  clear oa b3 HA1' HA2 HWX1 HWX2
  have B0 : Below w3.heap.size w3 w3.drew := (Below.refl _ w3).drew
  obtain ⟨⟨⟨⟨a0, a1⟩, a2, a3⟩, ⟨d0, d1⟩, d2, d3⟩, r0, r1⟩ := HSS.out _ B0
  have HPB : Hid (∀ X, Below w3.heap.size w3 X → PQ base X b p c q) := hide (fun X hX => HP.out.later (HW3.out.trans (hX.mono HW3.out.size)))
  have HBC : Hid (∀ X, Below w3.heap.size w3 X → Box.Cells X b (rm : Int) p L c q.last) := by
    refine hide (fun X hX => ?_)
    have := (HPB.out X hX).box
    rw [HL.out, HRM.out] at this
    exact box_cells this
  have HRB : Hid (∀ X, Below w3.heap.size w3 X → RQ base2 X rb rp rc q) := hide (fun X hX => HR.out.later (HW3.out.trans (hX.mono HW3.out.size)))
  have HRC : Hid (∀ X, Below w3.heap.size w3 X → RCells X rb (rm : Int) rp L rc q.last) := by
    refine hide (fun X hX => ?_)
    have := (HRB.out X hX).box
    rw [HL.out, HRM.out] at this
    exact rbox_cells this
  have hsub : IntKind.i64.wrap ((rm : Int) - (L : Int)) = (rm : Int) - L := by rw [IntKind.wrap_i64]; omega
  have qbb : (bb == bb) = true := by cases bb <;> rfl
  go_upto_region 4 with fail
  go_region_held3 (fun w' => (((w'.cell? ⟨aB, 0, none⟩ = some (.int .i64 k0) ∧ w'.cell? ⟨aB, 1, none⟩ = some (.int .i64 k1)) ∧ w'.cell? ⟨aB, 2, none⟩ = some (.int .i64 k2) ∧ w'.cell? ⟨aB, 3, none⟩ = some (.int .i64 k3)) ∧ (w'.cell? ⟨cB, 0, none⟩ = some (.int .i64 k0) ∧ w'.cell? ⟨cB, 1, none⟩ = some (.int .i64 k1)) ∧ w'.cell? ⟨cB, 2, none⟩ = some (.int .i64 k2) ∧ w'.cell? ⟨cB, 3, none⟩ = some (.int .i64 k3)) ∧ w'.cell? ⟨rb, 0, none⟩ = some (.slice rp L rc) ∧ w'.cell? ⟨rb, 1, none⟩ = some (.int .i64 (rm : Int))) (go_keep)
    (first
      | (go_at_call 30; refine (rrecords_any (HRC.out _ D4) (HRB.out _ D4).row HL.out HOK.out.2.2.2 HRR.out).mono ?_; rintro _ x5 ⟨rfl, rfl⟩)
      | (go_at_call 26; refine (recordsq_any (HPB.out _ D3) HOK.out).mono ?_; rw [HRR.out]; rintro _ x4 ⟨rfl, d4⟩; have D4 := D3.trans (d4.mono D3.size); obtain ⟨⟨⟨⟨a0, a1⟩, a2, a3⟩, ⟨d0, d1⟩, d2, d3⟩, r0, r1⟩ := HSS.out _ D4)
      | (go_at_call 20; refine (left_any (HBC.out _ D1) (by omega) (by omega) (by omega)).mono ?_; rintro _ x3 ⟨rfl, d3⟩; have D3 := D1.trans (d3.mono D1.size); obtain ⟨⟨⟨⟨a0, a1⟩, a2, a3⟩, ⟨d0, d1⟩, d2, d3⟩, r0, r1⟩ := HSS.out _ D3)
      | (go_at_call 19; refine (len_any (HBC.out _ D1)).mono ?_; rintro _ x2 ⟨rfl, rfl⟩)
      | (go_at_call 24; refine (rsame_any (HOA.out.later B0) (HRB.out _ B0).row HL.out).mono ?_; rintro _ x1 ⟨rfl, d1⟩; have D1 := B0.trans (d1.mono B0.size); obtain ⟨⟨⟨⟨a0, a1⟩, a2, a3⟩, ⟨d0, d1⟩, d2, d3⟩, r0, r1⟩ := HSS.out _ D1))
  go_wp2
  go_ret
  exact ⟨rfl, HW3.out.trans (D4.mono HW3.out.size)⟩
end Go.Proofs.Ytmmdgffgnpnmeaa
