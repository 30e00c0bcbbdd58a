/-
  Take: the program's and the reference's. The conditions: that an unpacker lies there.
-/
import Derived.Test.YtihbdlbnpkmafaaEvt
namespace Go.Proofs.Ytihbdlbnpkmafaa
open Go.RowKit

theorem below_boxE {W W' : World} {b : Nat} {o : Obj} (hb : Below W.heap.size W W') (h : W.heap[b]? = some o) : W'.heap[b]? = some o :=
  (hb.block b (Array.getElem?_eq_some_iff.1 h).1).trans h
theorem take_two {l l1 l2 : List Int} {e e1 e2 id : Int} (h1 : kindR l e = (2, l1, e1)) (h2 : idR l1 e1 = (id, l2, e2)) : takeR l e = (clean ⟨2, 0, 0, id⟩ e2, l2, e2) := by
  unfold takeR
  rw [h1, if_pos rfl]
  simp only [h2]
theorem take_one {l l1 l2 : List Int} {e e1 e2 : Int} {r : RC} (h1 : kindR l e = (1, l1, e1)) (h2 : recR l1 e1 = (r, l2, e2)) : takeR l e = (clean ⟨1, r.key, r.val, 0⟩ e2, l2, e2) := by
  unfold takeR
  rw [h1, if_neg (by simp), if_pos rfl]
  simp only [h2]
theorem take_none {l l1 : List Int} {e e1 : Int} (h1 : kindR l e = (0, l1, e1)) : takeR l e = (⟨0, 0, 0, 0⟩, l1, e1) := by
  unfold takeR
  rw [h1, if_neg (by simp), if_neg (by simp)]
theorem clean_yes (x : EV) : clean x 0 = x := if_pos rfl
theorem clean_no {x : EV} {e : Int} (h : e ≠ 0) : clean x e = ⟨0, 0, 0, 0⟩ := if_neg h
def EV.agg (x : EV) : Value := .agg #[.int .i64 x.kind, .int .i64 x.key, .int .i64 x.val, .int .i64 x.id]

set_option maxRecDepth 100000 in
set_option maxHeartbeats 4000000 in
theorem take_ev {W : World} {bu : Nat} {bx : Nat → Prop} {v : Value} {l l2 : List Int} {e e2 : Int} {x : EV} (h : UnpX bx W bu v l e) (hr : takeR l e = (x, l2, e2)) :
    Calls Try.prog 26 #[.pointer (some ⟨bu, 0, none⟩)] W fun r w' => r = .returned x.agg ∧ Only (· = bu) W w' ∧ ∃ p cap, UnpX bx w' bu (.slice p l2.length cap) l2 e2 := by
  obtain ⟨kd, l1, e1, h1⟩ : ∃ kd l1 e1, kindR l e = (kd, l1, e1) := ⟨_, _, _, rfl⟩
  have hkv := kind_vals l e
  rw [h1] at hkv
  simp only at hkv
  have hlt := h.lt
  obtain ⟨V, hV⟩ : ∃ V, V = (W.alloc (.cells #[.int .i64 0, .int .i64 0, .int .i64 0, .int .i64 0] 26 (0, 0))).alloc (.cells #[.int .i64 0, .int .i64 0, .int .i64 0, .int .i64 0] 26 (0, 0)) := ⟨_, rfl⟩
  have hb0 : Below W.heap.size W V := by rw [hV]; exact (alloc_below W _).trans ((alloc_below _ _).mono (by simp))
  have hvr : V.heap[W.heap.size]? = some (.cells #[.int .i64 0, .int .i64 0, .int .i64 0, .int .i64 0] 26 (0, 0)) := by
    rw [hV]
    exact ((alloc_below _ _).block _ (by simp)).trans (heap_alloc_new W _)
  have hve : V.heap[W.heap.size + 1]? = some (.cells #[.int .i64 0, .int .i64 0, .int .i64 0, .int .i64 0] 26 (0, 0)) := by
    have h := heap_alloc_new (W.alloc (.cells #[.int .i64 0, .int .i64 0, .int .i64 0, .int .i64 0] 26 (0, 0))) (.cells #[.int .i64 0, .int .i64 0, .int .i64 0, .int .i64 0] 26 (0, 0))
    rw [World.size_alloc] at h
    rw [hV]
    exact h
  have HU := hide (h.below hb0)
  have HVO : Hid (Only (· = bu) W V) := hide (Only.fresh hb0 _)
  have HA := hide (uint_at HU.out h1)
  obtain ⟨gB, hgB⟩ : ∃ gB, W.heap.size = gB := ⟨_, rfl⟩
  have hne : bu ≠ gB := by omega
  have hne2 : bu ≠ gB + 1 := by omega
  rw [hgB] at hvr hve
  have HGB := hide hgB
  have HH1 := hide h1
  have HHR := hide hr
  clear h hb0 h1 hlt hr
  go_enter Try.func26, Try.ntmps26
  go_wp2_with fail
  rw [← hV]
  try rw [hgB]
  clear hV hgB
  refine HA.out.mono ?_
  rintro _ w1 ⟨rfl, g1, p1, c1, U1⟩
  have o1 := (only_grown g1).obj hvr (fun e => hne e.symm)
  have q1 := (only_grown g1).obj hve (fun e => hne2 e.symm)
  have HO1 : Hid (Only (· = bu) W w1) := hide (HVO.out.trans (only_grown g1))
  clear g1 hvr hve HA
  rcases hkv with ⟨hk, he⟩ | ⟨hk, he⟩
  · rcases hk with hk | hk
    · subst hk
      obtain ⟨r, l2', e2', h2⟩ : ∃ r l2' e2', recR l1 e1 = (r, l2', e2') := ⟨_, _, _, rfl⟩
      have ht := take_one HH1.out h2
      rw [HHR.out] at ht
      simp only [Prod.mk.injEq] at ht
      obtain ⟨hx, rfl, rfl⟩ := ht
      obtain ⟨ky, vl⟩ := r
      have HX := hide hx.symm
      have HTR := hide (trec_any U1 h2)
      clear U1 h2 hx
      go_wp2_with fail
      refine HTR.out.mono ?_
      rintro _ w2 ⟨rfl, N2, p2, c2, U2⟩
      have o2 := N2.obj o1 (fun e => hne e.symm)
      have q2 := N2.obj q1 (fun e => hne2 e.symm)
      have HO2 : Hid (Only (· = bu) W w2) := hide (HO1.out.trans N2)
      have hb3 := alloc_below w2 (.cells #[.int .i64 ky, .int .i64 vl] 24 (0, 0))
      have U3 := U2.below hb3
      have o3 := below_boxE hb3 o2
      have q3 := below_boxE hb3 q2
      have HO3 : Hid (Only (· = bu) W _) := hide (HO2.out.trans (Only.fresh hb3 _))
      clear N2 U2 o1 q1 o2 q2 hb3 HTR
      go_wp2_with fail
      refine record_any.mono ?_
      rintro _ w3 ⟨rfl, b3⟩
      have U4 := U3.below b3
      have o4 := below_boxE b3 o3
      have q4 := below_boxE b3 q3
      have HO4 : Hid (Only (· = bu) W w3) := hide (HO3.out.trans (Only.fresh b3 _))
      clear U3 o3 q3 b3
      obtain ⟨j0, j1, j2, j3, j4, j5, j6, j7⟩ := ev_facts q4 (.int .i64 1) (.int .i64 ky) (.int .i64 vl)
      obtain ⟨w5, hw5⟩ : ∃ w5, w5 = ((((w3).setCell ⟨gB + 1, 0, none⟩ (.int .i64 1)).setCell ⟨gB + 1, 1, none⟩ (.int .i64 ky)).setCell ⟨gB + 1, 2, none⟩ (.int .i64 vl)).setCell ⟨gB + 1, 3, none⟩ (.int .i64 0) := ⟨_, rfl⟩
      have U5 : UnpX bx w5 bu (.slice p2 l2.length c2) l2 e2 := by rw [hw5]; exact U4.turn (only_set4 w3 (gB + 1) (.int .i64 1) (.int .i64 ky) (.int .i64 vl) (.int .i64 0)) (fun e => hne2 e) (fun i e => .inr (by have e' : i = gB + 1 := e; rw [e']; exact noBytes_of (l := [0, 0, 0, 0]) q4))
      have o5 : w5.heap[gB]? = some (.cells #[.int .i64 0, .int .i64 0, .int .i64 0, .int .i64 0] 26 (0, 0)) := by rw [hw5]; exact (only_set4 w3 (gB + 1) (.int .i64 1) (.int .i64 ky) (.int .i64 vl) (.int .i64 0)).obj o4 (fun e => by have e' : gB = gB + 1 := e; omega)
      have q5 : w5.heap[gB + 1]? = some (.cells #[.int .i64 1, .int .i64 ky, .int .i64 vl, .int .i64 0] 26 (0, 0)) := by rw [hw5]; exact set4 q4
      have HO5 : Hid (Only (· = bu) W w5) := by rw [hw5]; exact hide (HO4.out.step (only_set4 w3 (gB + 1) (.int .i64 1) (.int .i64 ky) (.int .i64 vl) (.int .i64 0)) (fun i e => .inr (by have e' : i = gB + 1 := e; have := HGB.out; omega)))
      have HW5 := hide hw5
      clear U4 o4 q4 hw5
      by_cases he2 : e2 = 0
      · subst he2
        rw [clean_yes] at HX
        go_wp2_with fail
        rw [← HW5.out]
        clear j0 j1 j2 j3 j4 j5 j6 j7
        obtain ⟨f0, f1, f2, f3, f4, f5, f6, f7⟩ := ev_facts o5 (.int .i64 1) (.int .i64 ky) (.int .i64 vl)
        have HE := hide (set4 (d0 := .int .i64 1) (d1 := .int .i64 ky) (d2 := .int .i64 vl) (d3 := .int .i64 0) o5)
        have HN := hide (U5.turn (only_set4 w5 gB (.int .i64 1) (.int .i64 ky) (.int .i64 vl) (.int .i64 0)) (fun e => hne e) (fun i e => .inr (by have e' : i = gB := e; rw [e']; exact noBytes_of (l := [0, 0, 0, 0]) o5)))
        have HOF : Hid (Only (· = bu) W _) := hide (HO5.out.step (only_set4 w5 gB (.int .i64 1) (.int .i64 ky) (.int .i64 vl) (.int .i64 0)) (fun i e => .inr (by have e' : i = gB := e; have := HGB.out; omega)))
        have k0 : w5.cell? ⟨gB + 1, 0, none⟩ = some (.int .i64 1) := by simp [World.cell?, q5]
        have k1 : w5.cell? ⟨gB + 1, 1, none⟩ = some (.int .i64 ky) := by simp [World.cell?, q5]
        have k2 : w5.cell? ⟨gB + 1, 2, none⟩ = some (.int .i64 vl) := by simp [World.cell?, q5]
        have k3 : w5.cell? ⟨gB + 1, 3, none⟩ = some (.int .i64 0) := by simp [World.cell?, q5]
        have HER := hide (err_any U5)
        clear o5 q5 U5
        refine HER.out.mono ?_
        rintro _ wz ⟨rfl, rfl⟩
        clear HER
        go_wp2
        refine bodyPost_ret (results_cell_row rfl _ _ gB 26 _ _ _ rfl HE.out Try.underlying26 rfl (by kernel_rfl)) rfl ?_
        exact ⟨by rw [← HX.out]; rfl, HOF.out, _, _, HN.out⟩
      · have ne1 : (e2 != 0) = true := by simpa using he2
        rw [clean_no he2] at HX
        go_wp2_with fail
        rw [← HW5.out]
        clear j0 j1 j2 j3 j4 j5 j6 j7 he2
        obtain ⟨f0, f1, f2, f3, f4, f5, f6, f7⟩ := ev_facts o5 (.int .i64 0) (.int .i64 0) (.int .i64 0)
        have HE := hide (set4 (d0 := .int .i64 0) (d1 := .int .i64 0) (d2 := .int .i64 0) (d3 := .int .i64 0) o5)
        have HN := hide (U5.turn (only_set4 w5 gB (.int .i64 0) (.int .i64 0) (.int .i64 0) (.int .i64 0)) (fun e => hne e) (fun i e => .inr (by have e' : i = gB := e; rw [e']; exact noBytes_of (l := [0, 0, 0, 0]) o5)))
        have HOF : Hid (Only (· = bu) W _) := hide (HO5.out.step (only_set4 w5 gB (.int .i64 0) (.int .i64 0) (.int .i64 0) (.int .i64 0)) (fun i e => .inr (by have e' : i = gB := e; have := HGB.out; omega)))
        have k0 : w5.cell? ⟨gB + 1, 0, none⟩ = some (.int .i64 1) := by simp [World.cell?, q5]
        have k1 : w5.cell? ⟨gB + 1, 1, none⟩ = some (.int .i64 ky) := by simp [World.cell?, q5]
        have k2 : w5.cell? ⟨gB + 1, 2, none⟩ = some (.int .i64 vl) := by simp [World.cell?, q5]
        have k3 : w5.cell? ⟨gB + 1, 3, none⟩ = some (.int .i64 0) := by simp [World.cell?, q5]
        have HER := hide (err_any U5)
        clear o5 q5 U5
        refine HER.out.mono ?_
        rintro _ wz ⟨rfl, rfl⟩
        clear HER
        go_wp2
        refine bodyPost_ret (results_cell_row rfl _ _ gB 26 _ _ _ rfl HE.out Try.underlying26 rfl (by kernel_rfl)) rfl ?_
        exact ⟨by rw [← HX.out]; rfl, HOF.out, _, _, HN.out⟩
    · subst hk
      obtain ⟨id, l2', e2', h2⟩ : ∃ id l2' e2', idR l1 e1 = (id, l2', e2') := ⟨_, _, _, rfl⟩
      have ht := take_two HH1.out h2
      rw [HHR.out] at ht
      simp only [Prod.mk.injEq] at ht
      obtain ⟨hx, rfl, rfl⟩ := ht
      have HX := hide hx.symm
      have HTR := hide (uint_at U1 h2)
      clear U1 h2 hx
      go_wp2_with fail
      refine HTR.out.mono ?_
      rintro _ w2 ⟨rfl, g2, p2, c2, U2⟩
      have o2 := (only_grown g2).obj o1 (fun e => hne e.symm)
      have q2 := (only_grown g2).obj q1 (fun e => hne2 e.symm)
      have HO2 : Hid (Only (· = bu) W w2) := hide (HO1.out.trans (only_grown g2))
      clear g2 o1 q1 HTR
      go_wp2_with fail
      refine barrier_any.mono ?_
      rintro _ w3 ⟨rfl, b3⟩
      have U4 := U2.below b3
      have o4 := below_boxE b3 o2
      have q4 := below_boxE b3 q2
      have HO4 : Hid (Only (· = bu) W w3) := hide (HO2.out.trans (Only.fresh b3 _))
      clear U2 o2 q2 b3
      obtain ⟨j0, j1, j2, j3, j4, j5, j6, j7⟩ := ev_facts q4 (.int .i64 2) (.int .i64 0) (.int .i64 0)
      obtain ⟨w5, hw5⟩ : ∃ w5, w5 = ((((w3).setCell ⟨gB + 1, 0, none⟩ (.int .i64 2)).setCell ⟨gB + 1, 1, none⟩ (.int .i64 0)).setCell ⟨gB + 1, 2, none⟩ (.int .i64 0)).setCell ⟨gB + 1, 3, none⟩ (.int .i64 id) := ⟨_, rfl⟩
      have U5 : UnpX bx w5 bu (.slice p2 l2.length c2) l2 e2 := by rw [hw5]; exact U4.turn (only_set4 w3 (gB + 1) (.int .i64 2) (.int .i64 0) (.int .i64 0) (.int .i64 id)) (fun e => hne2 e) (fun i e => .inr (by have e' : i = gB + 1 := e; rw [e']; exact noBytes_of (l := [0, 0, 0, 0]) q4))
      have o5 : w5.heap[gB]? = some (.cells #[.int .i64 0, .int .i64 0, .int .i64 0, .int .i64 0] 26 (0, 0)) := by rw [hw5]; exact (only_set4 w3 (gB + 1) (.int .i64 2) (.int .i64 0) (.int .i64 0) (.int .i64 id)).obj o4 (fun e => by have e' : gB = gB + 1 := e; omega)
      have q5 : w5.heap[gB + 1]? = some (.cells #[.int .i64 2, .int .i64 0, .int .i64 0, .int .i64 id] 26 (0, 0)) := by rw [hw5]; exact set4 q4
      have HO5 : Hid (Only (· = bu) W w5) := by rw [hw5]; exact hide (HO4.out.step (only_set4 w3 (gB + 1) (.int .i64 2) (.int .i64 0) (.int .i64 0) (.int .i64 id)) (fun i e => .inr (by have e' : i = gB + 1 := e; have := HGB.out; omega)))
      have HW5 := hide hw5
      clear U4 o4 q4 hw5
      by_cases he2 : e2 = 0
      · subst he2
        rw [clean_yes] at HX
        go_wp2_with fail
        rw [← HW5.out]
        clear j0 j1 j2 j3 j4 j5 j6 j7
        obtain ⟨f0, f1, f2, f3, f4, f5, f6, f7⟩ := ev_facts o5 (.int .i64 2) (.int .i64 0) (.int .i64 0)
        have HE := hide (set4 (d0 := .int .i64 2) (d1 := .int .i64 0) (d2 := .int .i64 0) (d3 := .int .i64 id) o5)
        have HN := hide (U5.turn (only_set4 w5 gB (.int .i64 2) (.int .i64 0) (.int .i64 0) (.int .i64 id)) (fun e => hne e) (fun i e => .inr (by have e' : i = gB := e; rw [e']; exact noBytes_of (l := [0, 0, 0, 0]) o5)))
        have HOF : Hid (Only (· = bu) W _) := hide (HO5.out.step (only_set4 w5 gB (.int .i64 2) (.int .i64 0) (.int .i64 0) (.int .i64 id)) (fun i e => .inr (by have e' : i = gB := e; have := HGB.out; omega)))
        have k0 : w5.cell? ⟨gB + 1, 0, none⟩ = some (.int .i64 2) := by simp [World.cell?, q5]
        have k1 : w5.cell? ⟨gB + 1, 1, none⟩ = some (.int .i64 0) := by simp [World.cell?, q5]
        have k2 : w5.cell? ⟨gB + 1, 2, none⟩ = some (.int .i64 0) := by simp [World.cell?, q5]
        have k3 : w5.cell? ⟨gB + 1, 3, none⟩ = some (.int .i64 id) := by simp [World.cell?, q5]
        have HER := hide (err_any U5)
        clear o5 q5 U5
        refine HER.out.mono ?_
        rintro _ wz ⟨rfl, rfl⟩
        clear HER
        go_wp2
        refine bodyPost_ret (results_cell_row rfl _ _ gB 26 _ _ _ rfl HE.out Try.underlying26 rfl (by kernel_rfl)) rfl ?_
        exact ⟨by rw [← HX.out]; rfl, HOF.out, _, _, HN.out⟩
      · have ne1 : (e2 != 0) = true := by simpa using he2
        rw [clean_no he2] at HX
        go_wp2_with fail
        rw [← HW5.out]
        clear j0 j1 j2 j3 j4 j5 j6 j7 he2
        obtain ⟨f0, f1, f2, f3, f4, f5, f6, f7⟩ := ev_facts o5 (.int .i64 0) (.int .i64 0) (.int .i64 0)
        have HE := hide (set4 (d0 := .int .i64 0) (d1 := .int .i64 0) (d2 := .int .i64 0) (d3 := .int .i64 0) o5)
        have HN := hide (U5.turn (only_set4 w5 gB (.int .i64 0) (.int .i64 0) (.int .i64 0) (.int .i64 0)) (fun e => hne e) (fun i e => .inr (by have e' : i = gB := e; rw [e']; exact noBytes_of (l := [0, 0, 0, 0]) o5)))
        have HOF : Hid (Only (· = bu) W _) := hide (HO5.out.step (only_set4 w5 gB (.int .i64 0) (.int .i64 0) (.int .i64 0) (.int .i64 0)) (fun i e => .inr (by have e' : i = gB := e; have := HGB.out; omega)))
        have k0 : w5.cell? ⟨gB + 1, 0, none⟩ = some (.int .i64 2) := by simp [World.cell?, q5]
        have k1 : w5.cell? ⟨gB + 1, 1, none⟩ = some (.int .i64 0) := by simp [World.cell?, q5]
        have k2 : w5.cell? ⟨gB + 1, 2, none⟩ = some (.int .i64 0) := by simp [World.cell?, q5]
        have k3 : w5.cell? ⟨gB + 1, 3, none⟩ = some (.int .i64 id) := by simp [World.cell?, q5]
        have HER := hide (err_any U5)
        clear o5 q5 U5
        refine HER.out.mono ?_
        rintro _ wz ⟨rfl, rfl⟩
        clear HER
        go_wp2
        refine bodyPost_ret (results_cell_row rfl _ _ gB 26 _ _ _ rfl HE.out Try.underlying26 rfl (by kernel_rfl)) rfl ?_
        exact ⟨by rw [← HX.out]; rfl, HOF.out, _, _, HN.out⟩
  · subst hk
    have ht := take_none HH1.out
    rw [HHR.out] at ht
    simp only [Prod.mk.injEq] at ht
    obtain ⟨hx, rfl, rfl⟩ := ht
    have HX := hide hx.symm
    have ne1 : (e2 != 0) = true := by simpa using he
    clear hx he
    obtain ⟨f0, f1, f2, f3, f4, f5, f6, f7⟩ := ev_facts o1 (.int .i64 0) (.int .i64 0) (.int .i64 0)
    have HE := hide (set4 (d0 := .int .i64 0) (d1 := .int .i64 0) (d2 := .int .i64 0) (d3 := .int .i64 0) o1)
    have HN := hide (U1.turn (only_set4 w1 gB (.int .i64 0) (.int .i64 0) (.int .i64 0) (.int .i64 0)) (fun e => hne e) (fun i e => .inr (by have e' : i = gB := e; rw [e']; exact noBytes_of (l := [0, 0, 0, 0]) o1)))
    have HOF : Hid (Only (· = bu) W _) := hide (HO1.out.step (only_set4 w1 gB (.int .i64 0) (.int .i64 0) (.int .i64 0) (.int .i64 0)) (fun i e => .inr (by have e' : i = gB := e; have := HGB.out; omega)))
    have k0 : w1.cell? ⟨gB + 1, 0, none⟩ = some (.int .i64 0) := by simp [World.cell?, q1]
    have k1 : w1.cell? ⟨gB + 1, 1, none⟩ = some (.int .i64 0) := by simp [World.cell?, q1]
    have k2 : w1.cell? ⟨gB + 1, 2, none⟩ = some (.int .i64 0) := by simp [World.cell?, q1]
    have k3 : w1.cell? ⟨gB + 1, 3, none⟩ = some (.int .i64 0) := by simp [World.cell?, q1]
    have HER := hide (err_any U1)
    clear o1 q1 U1
    go_wp2_with fail
    refine HER.out.mono ?_
    rintro _ wz ⟨rfl, rfl⟩
    clear HER
    go_wp2
    refine bodyPost_ret (results_cell_row rfl _ _ gB 26 _ _ _ rfl HE.out Try.underlying26 rfl (by kernel_rfl)) rfl ?_
    exact ⟨by rw [← HX.out]; rfl, HOF.out, _, _, HN.out⟩
end Go.Proofs.Ytihbdlbnpkmafaa
