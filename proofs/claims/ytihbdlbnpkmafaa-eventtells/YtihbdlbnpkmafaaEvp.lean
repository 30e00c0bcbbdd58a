/-
  The numbers of events, Put, Bytes, RecordBytes: the program's and the reference's. The conditions: lengths, and that numbers are of their types.
-/
import Derived.Test.YtihbdlbnpkmafaaEvb
namespace Go.Proofs.Ytihbdlbnpkmafaa
open Go.RowKit

def numsE (e : EV) : List Int := if checkE e = 0 then (if e.kind = 1 then [1, e.key, e.val] else [2, e.id]) else []
theorem nums_len (e : EV) : (numsE e).length ≤ 3 := by
  unfold numsE
  split
  · split <;> simp
  · simp
theorem nums_bd {e : EV} (h : e.fine) : I64 (numsE e) := by
  obtain ⟨h1, h2, h3, h4⟩ := h
  unfold I6 at h1 h2 h3 h4
  unfold numsE I64
  intro x hx
  split at hx
  · split at hx
    · simp only [List.mem_cons, List.not_mem_nil, or_false] at hx
      rcases hx with rfl | rfl | rfl <;> omega
    · simp only [List.mem_cons, List.not_mem_nil, or_false] at hx
      rcases hx with rfl | rfl <;> omega
  · simp at hx
theorem Try.infoL : (Try.prog.info? 2).map (fun i => (i.zero, i.size, i.bytes)) = some (some (.int .i64 0), 1, 8) := by kernel_rfl
theorem Row.of_lit {k : IntKind} {w : World} {b n : Nat} {e : TypeId} {l : List Int} (hn : l.length = n) (h : w.heap[b]? = some (.cells (l.map (Value.int k)).toArray e (0, 0))) (hm : n ≤ 9223372036854775807) : Row k w (.slice (some ⟨b, 0, none⟩) n n) l := by
  subst hn
  refine ⟨some ⟨b, 0, none⟩, l.length, rfl, Nat.le_refl _, hm, (fun h => by cases h), fun _ => ⟨b, 0, rfl, fun i hi => ?_⟩⟩
  simp only [World.cell?]
  rw [h]
  simp [hi, List.getD]
theorem ints_oneC (k : IntKind) (l : List Int) : ∀ u ∈ (l.map (Value.int k)).toArray.toList, u.oneCell' = true := by
  intro u hu
  simp only [List.mem_map] at hu
  obtain ⟨x, _, rfl⟩ := hu
  rfl

set_option maxRecDepth 100000 in
set_option maxHeartbeats 2000000 in
theorem add_any {W : World} {base n c : Nat} {p : Option Addr} {xs : List Int} {kd ky vl id : Int} (ho : W.ownsRow base 2 1 (.slice p n c) n (xs.map (Value.int .i64))) (hbs : base ≤ W.heap.size) (hn : n ≤ 1048576) :
    Calls Try.prog 42 #[.slice p n c, .agg #[.int .i64 kd, .int .i64 ky, .int .i64 vl, .int .i64 id]] W fun e w' => ∃ p' c', e = .returned (.slice p' (n + (numsE ⟨kd, ky, vl, id⟩).length) c') ∧ w'.ownsRow base 2 1 (.slice p' (n + (numsE ⟨kd, ky, vl, id⟩).length) c') (n + (numsE ⟨kd, ky, vl, id⟩).length) ((xs ++ numsE ⟨kd, ky, vl, id⟩).map (Value.int .i64)) ∧ Only (fun i => (Value.slice p n c).ownBlock = some i) W w' := by
  obtain ⟨i0, hI0, hz0, hz1, hz2⟩ := info_parts Try.infoL
  obtain ⟨_, _, ef, ec1, ec2⟩ := own_form ho
  simp only [Value.slice.injEq, true_and] at ef
  obtain ⟨rfl, rfl⟩ := ef
  have hb0 := alloc_below W (.cells #[.int .i64 kd, .int .i64 ky, .int .i64 vl, .int .i64 id] 26 (0, 0))
  have hv1 : (W.alloc (.cells #[.int .i64 kd, .int .i64 ky, .int .i64 vl, .int .i64 id] 26 (0, 0))).heap[W.heap.size]? = some (.cells #[.int .i64 kd, .int .i64 ky, .int .i64 vl, .int .i64 id] 26 (0, 0)) := heap_alloc_new W _
  obtain ⟨V, hV⟩ : ∃ V, V = W.alloc (.cells #[.int .i64 kd, .int .i64 ky, .int .i64 vl, .int .i64 id] 26 (0, 0)) := ⟨_, rfl⟩
  rw [← hV] at hb0 hv1
  have HVB := hide hb0
  have HO := hide (ownsRow_later ho hb0)
  clear ho hb0
  obtain ⟨gB, hgB⟩ : ∃ gB, W.heap.size = gB := ⟨_, rfl⟩
  rw [hgB] at hv1
  have z0 : V.cell? ⟨gB, 0, none⟩ = some (.int .i64 kd) := by simp [World.cell?, hv1]
  have z1 : V.cell? ⟨gB, 1, none⟩ = some (.int .i64 ky) := by simp [World.cell?, hv1]
  have z2 : V.cell? ⟨gB, 2, none⟩ = some (.int .i64 vl) := by simp [World.cell?, hv1]
  have z3 : V.cell? ⟨gB, 3, none⟩ = some (.int .i64 id) := by simp [World.cell?, hv1]
  have HW : Hid (base ≤ V.heap.size) := hide (Nat.le_trans hbs HVB.out.size)
  clear hv1
  by_cases hc : checkE ⟨kd, ky, vl, id⟩ = 0
  rotate_left
  · have HQ : Hid (numsE ⟨kd, ky, vl, id⟩ = []) := hide (by unfold numsE; rw [if_neg hc])
    have e1 : (checkE ⟨kd, ky, vl, id⟩ != 0) = true := by simpa using hc
    obtain ⟨rc, hrc⟩ : ∃ rc, checkE ⟨kd, ky, vl, id⟩ = rc := ⟨_, rfl⟩
    have HRC := hide hrc
    rw [hrc] at e1
    clear hc hrc
    go_enter Try.func42, Try.ntmps42
    go_wp2_with fail
    rw [← hV]
    try rw [hgB]
    clear hV hgB
    refine check_any.mono ?_
    rintro _ w1 ⟨rfl, b1⟩
    rw [HRC.out]
    have HB1 := hide (HVB.out.trans (b1.mono HVB.out.size))
    have HO1 := hide (ownsRow_later HO.out b1)
    clear b1
    go_wp2
    go_ret
    refine ⟨p, c, ?_, ?_, Only.fresh HB1.out _⟩
    · rw [HQ.out]; rfl
    · rw [HQ.out, List.append_nil]; exact HO1.out
  · by_cases hk : kd = 1
    · subst hk
      have HQ : Hid (numsE ⟨1, ky, vl, id⟩ = [1, ky, vl]) := hide (by unfold numsE; rw [if_pos hc, if_pos rfl])
      have HRC := hide hc
      have HK1 : Hid (n + 3 ≤ maxLen) := by show _ ≤ _; unfold maxLen; omega
      have HK2 : Hid ((n + 3) * 8 ≤ 140737488355328) := by show _ ≤ _; omega
      clear hc
      go_enter Try.func42, Try.ntmps42
      go_wp2_with fail
      rw [← hV]
      try rw [hgB]
      clear hV hgB
      refine check_any.mono ?_
      rintro _ w1 ⟨rfl, b1⟩
      rw [HRC.out]
      have y0 := cell_later b1 z0
      have y1 := cell_later b1 z1
      have y2 := cell_later b1 z2
      have HB1 := hide (HVB.out.trans (b1.mono HVB.out.size))
      have HO1 := hide (ownsRow_later (ownsRow_later HO.out b1) (alloc_below w1 (.cells #[.int .i64 1, .int .i64 ky, .int .i64 vl] 2 (0, 0))))
      have HSG : Hid (Seg (w1.alloc (.cells #[.int .i64 1, .int .i64 ky, .int .i64 vl] 2 (0, 0))) 1 (.slice (some ⟨w1.heap.size, 0, none⟩) 3 3) 3 [.int .i64 1, .int .i64 ky, .int .i64 vl]) := hide (Seg.news (heap_alloc_new w1 _) (by simp [Value.oneCell']) rfl (Nat.le_refl _) (by decide))
      have HBB : Hid (base ≤ (w1.alloc (.cells #[.int .i64 1, .int .i64 ky, .int .i64 vl] 2 (0, 0))).heap.size) := hide (by have := HW.out; have := b1.size; simp; omega)
      clear b1 z0 z1 z2 z3
      go_wp2_with (at_builtin; refine append_cells _ rfl (.tmp 14) (.tmp 21) 75 rfl base 2 i0 (.int .i64 0) 1 8 Try.underlying75 hI0 hz0 hz1 hz2 rfl (by decide) (.slice p n c) n _ rfl HO1.out (.slice (some ⟨w1.heap.size, 0, none⟩) 3 3) 3 _ rfl HSG.out HK1.out HK2.out HBB.out ?_)
      intro p' c' w2 hown hgrow
      have HO2 := hide hown
      have HG : Hid (Only (fun i => (Value.slice p n c).ownBlock = some i) W w2) := hide (((Only.fresh HB1.out _).trans (Only.alloc _ _ _)).trans (Only.of_grown hgrow (fun k e => e)))
      clear hown hgrow
      go_wp2
      go_ret
      refine ⟨p', c', ?_, ?_, HG.out⟩
      · rw [HQ.out]; rfl
      · rw [HQ.out, List.map_append]; exact HO2.out
    · have HQ : Hid (numsE ⟨kd, ky, vl, id⟩ = [2, id]) := hide (by unfold numsE; rw [if_pos hc, if_neg hk])
      have e1 := ne_eq hk
      have HRC := hide hc
      have HK1 : Hid (n + 2 ≤ maxLen) := by show _ ≤ _; unfold maxLen; omega
      have HK2 : Hid ((n + 2) * 8 ≤ 140737488355328) := by show _ ≤ _; omega
      clear hc hk
      go_enter Try.func42, Try.ntmps42
      go_wp2_with fail
      rw [← hV]
      try rw [hgB]
      clear hV hgB
      refine check_any.mono ?_
      rintro _ w1 ⟨rfl, b1⟩
      rw [HRC.out]
      have y0 := cell_later b1 z0
      have y3 := cell_later b1 z3
      have HB1 := hide (HVB.out.trans (b1.mono HVB.out.size))
      have HO1 := hide (ownsRow_later (ownsRow_later HO.out b1) (alloc_below w1 (.cells #[.int .i64 2, .int .i64 id] 2 (0, 0))))
      have HSG : Hid (Seg (w1.alloc (.cells #[.int .i64 2, .int .i64 id] 2 (0, 0))) 1 (.slice (some ⟨w1.heap.size, 0, none⟩) 2 2) 2 [.int .i64 2, .int .i64 id]) := hide (Seg.news (heap_alloc_new w1 _) (by simp [Value.oneCell']) rfl (Nat.le_refl _) (by decide))
      have HBB : Hid (base ≤ (w1.alloc (.cells #[.int .i64 2, .int .i64 id] 2 (0, 0))).heap.size) := hide (by have := HW.out; have := b1.size; simp; omega)
      clear b1 z0 z1 z2 z3
      go_wp2_with (at_builtin; refine append_cells _ rfl (.tmp 23) (.tmp 26) 75 rfl base 2 i0 (.int .i64 0) 1 8 Try.underlying75 hI0 hz0 hz1 hz2 rfl (by decide) (.slice p n c) n _ rfl HO1.out (.slice (some ⟨w1.heap.size, 0, none⟩) 2 2) 2 _ rfl HSG.out HK1.out HK2.out HBB.out ?_)
      intro p' c' w2 hown hgrow
      have HO2 := hide hown
      have HG : Hid (Only (fun i => (Value.slice p n c).ownBlock = some i) W w2) := hide (((Only.fresh HB1.out _).trans (Only.alloc _ _ _)).trans (Only.of_grown hgrow (fun k e => e)))
      clear hown hgrow
      go_wp2
      go_ret
      refine ⟨p', c', ?_, ?_, HG.out⟩
      · rw [HQ.out]; rfl
      · rw [HQ.out, List.map_append]; exact HO2.out
end Go.Proofs.Ytihbdlbnpkmafaa
