/-
  Put, Bytes, RecordBytes: the program's and the reference's. The conditions: lengths, and that numbers are of their types.
-/
import Derived.Test.YtihbdlbnpkmafaaEvp
namespace Go.Proofs.Ytihbdlbnpkmafaa
open Go.RowKit

theorem own_bytes {w : World} {base n : Nat} {v : Value} {l : List Int} (h : w.ownsRow base 5 1 v n (l.map (Value.int .u8))) : ∃ p c, v = .slice p l.length c ∧ w.ownsRow base 5 1 (.slice p l.length c) l.length (l.map (Value.int .u8)) := by
  have hn := own_len h
  obtain ⟨p, c, rfl, _, _⟩ := own_form h
  subst hn
  exact ⟨p, c, rfl, h⟩
set_option maxRecDepth 100000 in
set_option maxHeartbeats 2000000 in
theorem put_ev {W : World} {vb : Value} {b : List Int} {kd ky vl id : Int} (hb : Row .u8 W vb b) (hs : b.length ≤ 140737488351232) (hf : EV.fine ⟨kd, ky, vl, id⟩) :
    Calls Try.prog 16 #[vb, .agg #[.int .i64 kd, .int .i64 ky, .int .i64 vl, .int .i64 id]] W fun e w' => ∃ p c, e = .returned (.slice p (b ++ forms (numsE ⟨kd, ky, vl, id⟩)).length c) ∧ w'.ownsRow W.heap.size 5 1 (.slice p (b ++ forms (numsE ⟨kd, ky, vl, id⟩)).length c) (b ++ forms (numsE ⟨kd, ky, vl, id⟩)).length ((b ++ forms (numsE ⟨kd, ky, vl, id⟩)).map (Value.int .u8)) ∧ Below W.heap.size W w' := by
  have hnl := nums_len ⟨kd, ky, vl, id⟩
  have HNB := hide (nums_bd hf)
  have hb0 := alloc_below W (.cells #[.int .i64 kd, .int .i64 ky, .int .i64 vl, .int .i64 id] 26 (0, 0))
  have HVB := hide hb0
  have HR := hide (hb.below hb0)
  have HA := hide (add_any (W := W.alloc (.cells #[.int .i64 kd, .int .i64 ky, .int .i64 vl, .int .i64 id] 26 (0, 0))) (base := (W.alloc (.cells #[.int .i64 kd, .int .i64 ky, .int .i64 vl, .int .i64 id] 26 (0, 0))).heap.size) (xs := []) (kd := kd) (ky := ky) (vl := vl) (id := id) (World.ownsRow_nil _ _ _ _) (Nat.le_refl _) (by decide))
  obtain ⟨pb, cb, rfl, i1, i2, _, _⟩ := _root_.id hb
  clear hb hb0 hf
  obtain ⟨nn, hnn⟩ : ∃ nn, numsE ⟨kd, ky, vl, id⟩ = nn := ⟨_, rfl⟩
  rw [hnn] at hnl HNB HA ⊢
  clear hnn
  go_enter Try.func16, Try.ntmps16
  go_wp2_with fail
  refine HA.out.mono ?_
  rintro _ w1 ⟨p1, c1, rfl, O1, N1⟩
  rw [Nat.zero_add, List.nil_append] at O1
  rw [Nat.zero_add]
  have hb1 : Below (W.alloc (.cells #[.int .i64 kd, .int .i64 ky, .int .i64 vl, .int .i64 id] 26 (0, 0))).heap.size (W.alloc (.cells #[.int .i64 kd, .int .i64 ky, .int .i64 vl, .int .i64 id] 26 (0, 0))) w1 := N1.below (Nat.le_refl _) (fun i e => by simp [Value.ownBlock] at e)
  have HB1 := hide (HVB.out.trans (hb1.mono HVB.out.size))
  have HI := hide (int_any (HR.out.below hb1) (own_row O1) HNB.out (by omega))
  clear O1 N1 hb1 HA
  go_wp2_with fail
  refine HI.out.mono ?_
  rintro _ w2 ⟨v2, rfl, O2, B2⟩
  obtain ⟨p2, c2, rfl, O3⟩ := own_bytes O2
  have HO := hide (ownsRow_base O3 HB1.out.size)
  have HB2 := hide (HB1.out.trans (B2.mono HB1.out.size))
  clear O2 O3 B2 HI
  go_wp2
  go_ret
  exact ⟨p2, c2, by first | rfl | simp, HO.out, HB2.out⟩
set_option maxRecDepth 100000 in
set_option maxHeartbeats 2000000 in
theorem rput_ev {W : World} {vb : Value} {b : List Int} {kd ky vl id : Int} (hb : Row .u8 W vb b) (hs : b.length ≤ 140737488351232) (hf : EV.fine ⟨kd, ky, vl, id⟩) :
    Calls Try.prog 17 #[vb, .agg #[.int .i64 kd, .int .i64 ky, .int .i64 vl, .int .i64 id]] W fun e w' => ∃ p c, e = .returned (.slice p (b ++ forms (numsE ⟨kd, ky, vl, id⟩)).length c) ∧ Row .u8 w' (.slice p (b ++ forms (numsE ⟨kd, ky, vl, id⟩)).length c) (b ++ forms (numsE ⟨kd, ky, vl, id⟩)) ∧ Below W.heap.size W w' := by
  have HNB := hide (nums_bd hf)
  have hb0 := alloc_below W (.cells #[.int .i64 kd, .int .i64 ky, .int .i64 vl, .int .i64 id] 26 (0, 0))
  have hv1 : (W.alloc (.cells #[.int .i64 kd, .int .i64 ky, .int .i64 vl, .int .i64 id] 26 (0, 0))).heap[W.heap.size]? = some (.cells #[.int .i64 kd, .int .i64 ky, .int .i64 vl, .int .i64 id] 26 (0, 0)) := heap_alloc_new W _
  obtain ⟨V, hV⟩ : ∃ V, V = W.alloc (.cells #[.int .i64 kd, .int .i64 ky, .int .i64 vl, .int .i64 id] 26 (0, 0)) := ⟨_, rfl⟩
  rw [← hV] at hb0 hv1
  have HVB := hide hb0
  have HR := hide (hb.below hb0)
  obtain ⟨pb, cb, rfl, i1, i2, _, _⟩ := _root_.id hb
  obtain ⟨gB, hgB⟩ : ∃ gB, W.heap.size = gB := ⟨_, rfl⟩
  rw [hgB] at hv1
  have z0 : V.cell? ⟨gB, 0, none⟩ = some (.int .i64 kd) := by simp [World.cell?, hv1]
  have z1 : V.cell? ⟨gB, 1, none⟩ = some (.int .i64 ky) := by simp [World.cell?, hv1]
  have z2 : V.cell? ⟨gB, 2, none⟩ = some (.int .i64 vl) := by simp [World.cell?, hv1]
  have z3 : V.cell? ⟨gB, 3, none⟩ = some (.int .i64 id) := by simp [World.cell?, hv1]
  clear hb hb0 hf hv1
  by_cases hc : checkE ⟨kd, ky, vl, id⟩ = 0
  rotate_left
  · have HQ : Hid (numsE ⟨kd, ky, vl, id⟩ = []) := hide (by unfold numsE; rw [if_neg hc])
    have e1 : (checkE ⟨kd, ky, vl, id⟩ != 0) = true := by simpa using hc
    obtain ⟨rc, hrc⟩ : ∃ rc, checkE ⟨kd, ky, vl, id⟩ = rc := ⟨_, rfl⟩
    have HRC := hide hrc
    rw [hrc] at e1
    clear hc hrc
    go_enter Try.func17, Try.ntmps17
    go_wp2_with fail
    rw [← hV]
    try rw [hgB]
    clear hV hgB
    refine rcheck_any.mono ?_
    rintro _ w1 ⟨rfl, b1⟩
    rw [HRC.out]
    have HB1 := hide (HVB.out.trans (b1.mono HVB.out.size))
    have HR1 := hide (HR.out.below b1)
    clear b1
    go_wp2
    go_ret
    refine ⟨pb, cb, ?_, ?_, HB1.out⟩
    · rw [HQ.out, forms_nil, List.append_nil]; rfl
    · rw [HQ.out, forms_nil, List.append_nil]; exact HR1.out
  · by_cases hk : kd = 1
    · subst hk
      have HQ : Hid (numsE ⟨1, ky, vl, id⟩ = [1, ky, vl]) := hide (by unfold numsE; rw [if_pos hc, if_pos rfl])
      have HRC := hide hc
      rw [HQ.out] at HNB ⊢
      clear hc
      go_enter Try.func17, Try.ntmps17
      go_wp2_with fail
      rw [← hV]
      try rw [hgB]
      clear hV hgB
      refine rcheck_any.mono ?_
      rintro _ w1 ⟨rfl, b1⟩
      rw [HRC.out]
      have y0 := cell_later b1 z0
      have y1 := cell_later b1 z1
      have y2 := cell_later b1 z2
      have y3 := cell_later b1 z3
      have hb2 : Below w1.heap.size w1 (w1.alloc (.cells #[.int .i64 1, .int .i64 ky, .int .i64 vl] 2 (0, 0))) := alloc_below _ _
      have HB1 := hide (HVB.out.trans ((b1.trans (hb2.mono b1.size)).mono HVB.out.size))
      have HI := hide (rint_any (w := w1.alloc (.cells #[.int .i64 1, .int .i64 ky, .int .i64 vl] 2 (0, 0))) ((HR.out.below b1).below hb2) (Row.of_lit (k := .i64) (l := [1, ky, vl]) (n := 3) rfl (heap_alloc_new w1 _) (by decide)) HNB.out (by simp; omega))
      clear b1 z0 z1 z2 z3 hb2
      go_wp2_with fail
      refine HI.out.mono ?_
      rintro _ w2 ⟨v2, rfl, O2, B2⟩
      obtain ⟨p2, c2, rfl, O3⟩ := own_bytes O2
      have HO := hide (own_row O3)
      have HB2 := hide (HB1.out.trans (B2.mono HB1.out.size))
      clear O2 O3 B2 HI
      go_wp2
      go_ret
      exact ⟨p2, c2, by first | rfl | simp, HO.out, HB2.out⟩
    · have HQ : Hid (numsE ⟨kd, ky, vl, id⟩ = [2, id]) := hide (by unfold numsE; rw [if_pos hc, if_neg hk])
      have hk2 : kd = 2 := by unfold checkE at hc; simp only at hc; split at hc; omega; cases hc
      subst hk2
      clear hk
      have HRC := hide hc
      rw [HQ.out] at HNB ⊢
      clear hc
      go_enter Try.func17, Try.ntmps17
      go_wp2_with fail
      rw [← hV]
      try rw [hgB]
      clear hV hgB
      refine rcheck_any.mono ?_
      rintro _ w1 ⟨rfl, b1⟩
      rw [HRC.out]
      have y0 := cell_later b1 z0
      have y1 := cell_later b1 z1
      have y2 := cell_later b1 z2
      have y3 := cell_later b1 z3
      have hb2 : Below w1.heap.size w1 (w1.alloc (.cells #[.int .i64 2, .int .i64 id] 2 (0, 0))) := alloc_below _ _
      have HB1 := hide (HVB.out.trans ((b1.trans (hb2.mono b1.size)).mono HVB.out.size))
      have HI := hide (rint_any (w := w1.alloc (.cells #[.int .i64 2, .int .i64 id] 2 (0, 0))) ((HR.out.below b1).below hb2) (Row.of_lit (k := .i64) (l := [2, id]) (n := 2) rfl (heap_alloc_new w1 _) (by decide)) HNB.out (by simp; omega))
      clear b1 z0 z1 z2 z3 hb2
      go_wp2_with fail
      refine HI.out.mono ?_
      rintro _ w2 ⟨v2, rfl, O2, B2⟩
      obtain ⟨p2, c2, rfl, O3⟩ := own_bytes O2
      have HO := hide (own_row O3)
      have HB2 := hide (HB1.out.trans (B2.mono HB1.out.size))
      clear O2 O3 B2 HI
      go_wp2
      go_ret
      exact ⟨p2, c2, by first | rfl | simp, HO.out, HB2.out⟩

set_option maxRecDepth 100000 in
theorem recb_any {W : World} {ky vl : Int} (hf : RC.fine ⟨ky, vl⟩) :
    Calls Try.prog 18 #[.agg #[.int .i64 ky, .int .i64 vl]] W fun e w' => ∃ p c, e = .returned (.slice p (forms [ky, vl]).length c) ∧ w'.ownsRow W.heap.size 5 1 (.slice p (forms [ky, vl]).length c) (forms [ky, vl]).length ((forms [ky, vl]).map (Value.int .u8)) ∧ Below W.heap.size W w' := by
  have hi : I64 [ky, vl] := by
    intro x hx
    simp only [List.mem_cons, List.not_mem_nil, or_false] at hx
    rcases hx with rfl | rfl
    · exact hf.1
    · exact hf.2
  have hb2 : Below W.heap.size W ((W.alloc (.cells #[.int .i64 ky, .int .i64 vl] 24 (0, 0))).alloc (.cells #[.int .i64 ky, .int .i64 vl] 2 (0, 0))) := (alloc_below W _).trans ((alloc_below _ _).mono (by simp))
  have HB := hide hb2
  have HI := hide (int_any (w := (W.alloc (.cells #[.int .i64 ky, .int .i64 vl] 24 (0, 0))).alloc (.cells #[.int .i64 ky, .int .i64 vl] 2 (0, 0))) (Row.nil _ _) (Row.of_lit (k := .i64) (l := [ky, vl]) (n := 2) (b := W.heap.size + 1) (e := 2) rfl (by have h := heap_alloc_new (W.alloc (.cells #[.int .i64 ky, .int .i64 vl] 24 (0, 0))) (.cells #[.int .i64 ky, .int .i64 vl] 2 (0, 0)); rw [World.size_alloc] at h; exact h) (by decide)) hi (by simp))
  clear hf hi hb2
  go_enter Try.func18, Try.ntmps18
  go_wp2_with fail
  refine HI.out.mono ?_
  rintro _ w2 ⟨v2, rfl, O2, B2⟩
  rw [List.nil_append] at O2
  obtain ⟨p2, c2, rfl, O3⟩ := own_bytes O2
  have HO := hide (ownsRow_base O3 HB.out.size)
  have HB2 := hide (HB.out.trans (B2.mono HB.out.size))
  clear O2 O3 B2 HI
  go_wp2
  go_ret
  exact ⟨p2, c2, by first | rfl | simp, HO.out, HB2.out⟩

set_option maxRecDepth 100000 in
theorem rrecb_any {W : World} {ky vl : Int} (hf : RC.fine ⟨ky, vl⟩) :
    Calls Try.prog 19 #[.agg #[.int .i64 ky, .int .i64 vl]] W fun e w' => ∃ p c, e = .returned (.slice p (forms [ky, vl]).length c) ∧ w'.ownsRow W.heap.size 5 1 (.slice p (forms [ky, vl]).length c) (forms [ky, vl]).length ((forms [ky, vl]).map (Value.int .u8)) ∧ Below W.heap.size W w' := by
  have hi : I64 [ky, vl] := by
    intro x hx
    simp only [List.mem_cons, List.not_mem_nil, or_false] at hx
    rcases hx with rfl | rfl
    · exact hf.1
    · exact hf.2
  have hb2 : Below W.heap.size W ((W.alloc (.cells #[.int .i64 ky, .int .i64 vl] 24 (0, 0))).alloc (.cells #[.int .i64 ky, .int .i64 vl] 2 (0, 0))) := (alloc_below W _).trans ((alloc_below _ _).mono (by simp))
  have HB := hide hb2
  have HI := hide (rint_any (w := (W.alloc (.cells #[.int .i64 ky, .int .i64 vl] 24 (0, 0))).alloc (.cells #[.int .i64 ky, .int .i64 vl] 2 (0, 0))) (Row.nil _ _) (Row.of_lit (k := .i64) (l := [ky, vl]) (n := 2) (b := W.heap.size + 1) (e := 2) rfl (by have h := heap_alloc_new (W.alloc (.cells #[.int .i64 ky, .int .i64 vl] 24 (0, 0))) (.cells #[.int .i64 ky, .int .i64 vl] 2 (0, 0)); rw [World.size_alloc] at h; exact h) (by decide)) hi (by simp))
  clear hf hi hb2
  go_enter Try.func19, Try.ntmps19
  go_wp2_with fail
  refine HI.out.mono ?_
  rintro _ w2 ⟨v2, rfl, O2, B2⟩
  rw [List.nil_append] at O2
  obtain ⟨p2, c2, rfl, O3⟩ := own_bytes O2
  have HO := hide (ownsRow_base O3 HB.out.size)
  have HB2 := hide (HB.out.trans (B2.mono HB.out.size))
  clear O2 O3 B2 HI
  go_wp2
  go_ret
  exact ⟨p2, c2, by first | rfl | simp, HO.out, HB2.out⟩
end Go.Proofs.Ytihbdlbnpkmafaa
