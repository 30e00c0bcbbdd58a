/-
  Take of the program's queue. The conditions: what is handed in is such a queue.
-/
import Derived.Test.YtmmdgffgnpnmeaaEqd
namespace Go.Proofs.Ytmmdgffgnpnmeaa
open Go.RowKit

set_option maxRecDepth 100000 in
set_option maxHeartbeats 2000000 in
theorem take_some {base : Nat} {W : World} {b g : Nat} {c room : Nat} {last : Int} {k0 k1 k2 k3 : Int} {es : List EV} {n m : Nat} (h : PQ base W b (some ⟨g, 0, none⟩) c ⟨room, ⟨k0, k1, k2, k3⟩ :: es, last⟩) (hn : n = m + 1) (hm : es.length = m) :
    Calls Try.prog 10 #[.pointer (some ⟨b, 0, none⟩)] W fun r w' => r = .returned (.tuple #[.agg #[.int .i64 k0, .int .i64 k1, .int .i64 k2, .int .i64 k3], .bool true]) ∧ Put base W w' b (some ⟨g, 0, none⟩) ⟨room, es, last⟩ := by
  obtain ⟨V, hV⟩ : ∃ V, V = W.alloc (.cells #[.int .i64 0, .int .i64 0, .int .i64 0, .int .i64 0] 34 (0, 0)) := ⟨_, rfl⟩
  have bV : Below W.heap.size W V := by rw [hV]; exact alloc_below _ _
  have u3 : V.heap[W.heap.size]? = some (.cells #[.int .i64 0, .int .i64 0, .int .i64 0, .int .i64 0] 34 (0, 0)) := by rw [hV]; exact heap_alloc_new W _
  obtain ⟨sB, hsB⟩ : ∃ sB, W.heap.size = sB := ⟨_, rfl⟩
  have hbs : b < sB := by rw [← hsB]; exact (Array.getElem?_eq_some_iff.1 h.box).1
  have hgs : g < sB := by rw [← hsB]; exact (own_block_lt h.row (b := g) rfl).1
  rw [hsB] at u3
  have HPQ := hide (h.later bV)
  have HBV := hide bV
  have HSB := hide hsB
  have HU := hide u3
  have HM := hide hm
  have HNM := hide hn
  clear h bV u3 hm hn
  go_enter Try.func10, Try.ntmps10
  go_upto_region 1 with fail
  rw [← hV]
  try rw [hsB]
  clear hV hsB
  go_wp2_with fail
  refine (peek_any HPQ.out).mono ?_
  simp only [QC.first, QC.any, EV.agg, List.headD_cons]
  rintro _ w1 ⟨rfl, b1⟩
  have hdc : decide ((⟨k0, k1, k2, k3⟩ : EV) :: es ≠ []) = true := by simp
  rw [hdc]
  have HP1 := hide (HPQ.out.later b1)
  have HB1 : Hid (Below W.heap.size W w1) := hide (HBV.out.trans (b1.mono HBV.out.size))
  have HU1 := hide ((b1.block sB (Array.getElem?_eq_some_iff.1 HU.out).1).trans HU.out)
  have hs1 := (Array.getElem?_eq_some_iff.1 HU1.out).1
  clear b1 hdc HPQ HU
  go_upto_region 3 with fail
  obtain ⟨X, hX⟩ : ∃ X, X = w1.alloc (.cells #[.int .i64 k0, .int .i64 k1, .int .i64 k2, .int .i64 k3] 34 (0, 0)) := ⟨_, rfl⟩
  rw [← hX]
  have bX : Below w1.heap.size w1 X := by rw [hX]; exact alloc_below _ _
  obtain ⟨tB, htB⟩ : ∃ tB, w1.heap.size = tB := ⟨_, rfl⟩
  have hn1 : X.heap[tB]? = some (.cells #[.int .i64 k0, .int .i64 k1, .int .i64 k2, .int .i64 k3] 34 (0, 0)) := by rw [hX, ← htB]; exact heap_alloc_new w1 _
  have hst : sB < tB := by rw [← htB]; exact hs1
  have HPX := hide (HP1.out.later bX)
  have HBX : Hid (Below W.heap.size W X) := hide (HB1.out.trans (bX.mono HB1.out.size))
  have HUX := hide ((bX.block sB (by omega)).trans HU1.out)
  have HNX := hide hn1
  try rw [htB]
  clear hX bX hn1 htB HP1 HB1 HU1 hs1
  have hbx := HPX.out.box
  have cb := (box_cells hbx).c1
  have hlen : ((⟨k0, k1, k2, k3⟩ : EV) :: es).length = n := by rw [List.length_cons, HM.out, HNM.out]
  simp only at cb
  rw [hlen] at cb
  have HRX : Hid (X.ownsRow base 34 4 (.slice (some ⟨g, 0, none⟩) n c) n ((⟨k0, k1, k2, k3⟩ :: es).flatMap EV.cells)) := by
    have := HPX.out.row
    simp only at this
    rw [hlen] at this
    exact hide this
  clear hbx hlen
  go_wp2_with fail
  refine (delete_first HRX.out HNM.out HM.out).mono ?_
  rintro _ w2 ⟨rfl, o2, y2⟩
  have hng : g ≠ b := fun e => by
    obtain ⟨_, cur, h1⟩ := own_block_lt HRX.out (b := g) rfl
    rw [e, HPX.out.box] at h1
    simp at h1
  have hb2 := y2.obj HPX.out.box (fun e => by have e' : b = g := e; omega)
  have hcb := (box_cells hb2).c1
  have hcf : w2.frozen? ⟨b, 1, none⟩ = false := by simp [World.frozen?, hb2]
  have HU2 := hide (y2.obj HUX.out (fun e => by have e' : sB = g := e; omega))
  have HN2 := hide (y2.obj HNX.out (fun e => by have e' : tB = g := e; omega))
  have HB2 := hide hb2
  have HO2 := hide o2
  have HY2 := hide y2
  clear o2 y2 hb2 cb
  go_upto_region 4 with fail
  obtain ⟨Y, hY⟩ : ∃ Y, Y = w2.setCell ⟨b, 1, none⟩ (.slice (some ⟨g, 0, none⟩) m c) := ⟨_, rfl⟩
  rw [← hY]
  have hoY : Only (· = b) w2 Y := by rw [hY]; exact Only.set (F := (· = b)) w2 b 1 _ rfl
  have hbY : Y.heap[b]? = some (.cells #[.int .i64 (room : Int), .slice (some ⟨g, 0, none⟩) m c, .int .i64 last] 54 (0, 0)) := by
    rw [hY, heap_set_same HB2.out]
    simp
  have HBY := hide hbY
  have HRY := hide (ownsRow_only HO2.out hoY (fun i hi e => by have e' : i = b := e; have e2 : g = i := (by simpa [Value.ownBlock] using hi); omega))
  have hu := hoY.obj HU2.out (fun e => by have e' : sB = b := e; omega)
  have hw := hoY.obj HN2.out (fun e => by have e' : tB = b := e; omega)
  have HUY := hide hu
  have HOY := hide hoY
  obtain ⟨f0, f1, f2, f3, u0, u1, u2, u4⟩ := four hu
  obtain ⟨_, _, _, _, v0, v1, v2, v4⟩ := four hw
  clear hY hoY hbY hu hw hcb hcf
  go_wp2
  have hE := heap_set4 HUY.out (.int .i64 k0) (.int .i64 k1) (.int .i64 k2) (.int .i64 k3)
  have hO := only_set4 Y sB (.int .i64 k0) (.int .i64 k1) (.int .i64 k2) (.int .i64 k3)
  refine bodyPost_ret (results_cell_bool rfl _ _ sB 34 _ _ _ rfl hE Try.underlying34 rfl (by kernel_rfl)) rfl ?_
  refine ⟨rfl, ?_, some ⟨g, 0, none⟩, c, ⟨?_, ?_, HPX.out.ge⟩, fun a' e => .inl ⟨a', e, rfl⟩⟩
  · have h1 : Only (PQ.at b (some ⟨g, 0, none⟩)) W w2 := (Only.fresh HBX.out _).trans (HY2.out.mono (fun i _ e => .inr ⟨_, rfl, e⟩))
    have h2 := h1.trans (HOY.out.mono (fun i _ e => .inl e))
    exact h2.step hO (fun i e => .inr (by have e' : i = sB := e; have := HSB.out; omega))
  · rw [hO.obj HBY.out (fun e => by have e' : b = sB := e; omega), HM.out]
  · show World.ownsRow _ base 34 4 (.slice (some ⟨g, 0, none⟩) es.length c) es.length (es.flatMap EV.cells)
    rw [HM.out]
    exact ownsRow_only HRY.out hO (fun i hi e => by have e' : i = sB := e; have e2 : g = i := (by simpa [Value.ownBlock] using hi); omega)
set_option maxHeartbeats 1000000 in
theorem take_zero {W : World} {vp : Value} (hp : Calls Try.prog 25 #[vp] (W.alloc (.cells #[.int .i64 0, .int .i64 0, .int .i64 0, .int .i64 0] 34 (0, 0))) fun e w' => e = .returned (.tuple #[.agg #[.int .i64 0, .int .i64 0, .int .i64 0, .int .i64 0], .bool false]) ∧ Below (W.alloc (.cells #[.int .i64 0, .int .i64 0, .int .i64 0, .int .i64 0] 34 (0, 0))).heap.size (W.alloc (.cells #[.int .i64 0, .int .i64 0, .int .i64 0, .int .i64 0] 34 (0, 0))) w') :
    Calls Try.prog 10 #[vp] W fun e w' => e = .returned (.tuple #[.agg #[.int .i64 0, .int .i64 0, .int .i64 0, .int .i64 0], .bool false]) ∧ Below W.heap.size W w' := by
  obtain ⟨V, hV⟩ : ∃ V, V = W.alloc (.cells #[.int .i64 0, .int .i64 0, .int .i64 0, .int .i64 0] 34 (0, 0)) := ⟨_, rfl⟩
  rw [← hV] at hp
  have bV : Below W.heap.size W V := by rw [hV]; exact alloc_below _ _
  have u3 : V.heap[W.heap.size]? = some (.cells #[.int .i64 0, .int .i64 0, .int .i64 0, .int .i64 0] 34 (0, 0)) := by rw [hV]; exact heap_alloc_new W _
  obtain ⟨sB, hsB⟩ : ∃ sB, W.heap.size = sB := ⟨_, rfl⟩
  rw [hsB] at u3
  have HBV := hide bV
  have HSB := hide hsB
  have HU := hide u3
  have HP := hide hp
  clear bV u3 hp
  go_enter Try.func10, Try.ntmps10
  go_upto_region 1 with fail
  rw [← hV]
  try rw [hsB]
  clear hV hsB
  go_wp2_with fail
  refine HP.out.mono ?_
  rintro _ w1 ⟨rfl, b1⟩
  have HB1 : Hid (Below W.heap.size W w1) := hide (HBV.out.trans (b1.mono HBV.out.size))
  have HU1 := hide ((b1.block sB (Array.getElem?_eq_some_iff.1 HU.out).1).trans HU.out)
  have hs1 := (Array.getElem?_eq_some_iff.1 HU1.out).1
  clear b1 HU
  go_upto_region 4 with fail
  obtain ⟨X, hX⟩ : ∃ X, X = w1.alloc (.cells #[.int .i64 0, .int .i64 0, .int .i64 0, .int .i64 0] 34 (0, 0)) := ⟨_, rfl⟩
  rw [← hX]
  have bX : Below w1.heap.size w1 X := by rw [hX]; exact alloc_below _ _
  obtain ⟨tB, htB⟩ : ∃ tB, w1.heap.size = tB := ⟨_, rfl⟩
  have hn1 : X.heap[tB]? = some (.cells #[.int .i64 0, .int .i64 0, .int .i64 0, .int .i64 0] 34 (0, 0)) := by rw [hX, ← htB]; exact heap_alloc_new w1 _
  have hst : sB < tB := by rw [← htB]; exact hs1
  have HBX : Hid (Below W.heap.size W X) := hide (HB1.out.trans (bX.mono HB1.out.size))
  have hu := (bX.block sB (by omega)).trans HU1.out
  have HUX := hide hu
  try rw [htB]
  obtain ⟨f0, f1, f2, f3, u0, u1, u2, u4⟩ := four hu
  obtain ⟨_, _, _, _, v0, v1, v2, v4⟩ := four hn1
  clear hX bX hn1 htB HB1 HU1 hs1 hu
  go_wp2
  have hE := heap_set4 HUX.out (.int .i64 0) (.int .i64 0) (.int .i64 0) (.int .i64 0)
  refine bodyPost_ret (results_cell_bool rfl _ _ sB 34 _ _ _ rfl hE Try.underlying34 rfl (by kernel_rfl)) rfl ?_
  exact ⟨rfl, HBX.out.trans ((only_set4 _ sB _ _ _ _).below HBX.out.size (fun i e => by have e' : i = sB := e; have := HSB.out; omega))⟩
/-- Take of the program's queue. -/
theorem take_any {base : Nat} {W : World} {b : Nat} {p : Option Addr} {c : Nat} {q : QC} (h : PQ base W b p c q) :
    Calls Try.prog 10 #[.pointer (some ⟨b, 0, none⟩)] W fun e w' => e = .returned (.tuple #[q.first.agg, .bool q.any]) ∧ Put base W w' b p q.rest := by
  obtain ⟨room, evs, last⟩ := q
  cases evs with
  | nil => exact (take_zero (peek_any (h.later (alloc_below _ _)))).mono fun e w' h' => ⟨h'.1, Put.same h h'.2⟩
  | cons x es =>
    obtain ⟨k0, k1, k2, k3⟩ := x
    rcases h.row.2 with ⟨_, h0⟩ | ⟨g, cap, cur, e1, _⟩
    · simp at h0
    · simp only [Value.slice.injEq] at e1
      obtain ⟨rfl, _, rfl⟩ := e1
      exact (take_some h rfl rfl).mono fun e w' h' => h'
end Go.Proofs.Ytmmdgffgnpnmeaa
