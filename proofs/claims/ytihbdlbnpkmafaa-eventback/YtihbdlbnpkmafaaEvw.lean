/-
  Take: the reference's. The conditions: that an unpacker lies there.
-/
import Derived.Test.YtihbdlbnpkmafaaEvu
namespace Go.Proofs.Ytihbdlbnpkmafaa
open Go.RowKit

set_option maxRecDepth 100000 in
set_option maxHeartbeats 4000000 in
theorem rtake_ev {W : World} {bw : Nat} {bx : Nat → Prop} {v : Value} {l l2 : List Int} {e e2 : Int} {x : EV} (h : RUnp bx W bw v l e) (hr : takeR l e = (x, l2, e2)) :
    Calls Try.prog 27 #[.pointer (some ⟨bw, 0, none⟩)] W fun r w' => r = .returned x.agg ∧ Only (· = bw) W w' ∧ ∃ p cap, RUnp bx w' bw (.slice p l2.length cap) l2 e2 := by
  obtain ⟨kd, l1, e1, h1⟩ : ∃ kd l1 e1, kindR l e = (kd, l1, e1) := ⟨_, _, _, rfl⟩
  have hkv := kind_vals l e
  rw [h1] at hkv
  simp only at hkv
  have hlt := h.lt
  obtain ⟨V, hV⟩ : ∃ V, V = W.alloc (.cells #[.int .i64 0, .int .i64 0, .int .i64 0, .int .i64 0] 26 (0, 0)) := ⟨_, rfl⟩
  have hb0 : Below W.heap.size W V := by rw [hV]; exact alloc_below W _
  have hvr : V.heap[W.heap.size]? = some (.cells #[.int .i64 0, .int .i64 0, .int .i64 0, .int .i64 0] 26 (0, 0)) := by rw [hV]; exact heap_alloc_new W _
  have HU := hide (h.below hb0)
  have HVO : Hid (Only (· = bw) W V) := hide (Only.fresh hb0 _)
  have HA := hide (ruint_at HU.out h1)
  obtain ⟨gB, hgB⟩ : ∃ gB, W.heap.size = gB := ⟨_, rfl⟩
  have hne : bw ≠ gB := by omega
  rw [hgB] at hvr
  have hVs : gB < V.heap.size := (Array.getElem?_eq_some_iff.1 hvr).1
  have HGB := hide hgB
  have HH1 := hide h1
  have HHR := hide hr
  clear h hb0 h1 hr
  go_enter Try.func27, Try.ntmps27
  go_wp2_with fail
  rw [← hV]
  try rw [hgB]
  clear hV hgB
  refine HA.out.mono ?_
  rintro _ w1 ⟨rfl, g1, p1, c1, U0⟩
  have o0 := (only_grown g1).obj hvr (fun e => hne e.symm)
  have HO0 : Hid (Only (· = bw) W w1) := hide (HVO.out.trans (only_grown g1))
  have hb1 := alloc_below w1 (.cells #[.int .i64 kd, .int .i64 0, .int .i64 0, .int .i64 0] 26 (0, 0))
  obtain ⟨wa, hwa⟩ : ∃ wa, wa = w1.alloc (.cells #[.int .i64 kd, .int .i64 0, .int .i64 0, .int .i64 0] 26 (0, 0)) := ⟨_, rfl⟩
  have q : wa.heap[w1.heap.size]? = some (.cells #[.int .i64 kd, .int .i64 0, .int .i64 0, .int .i64 0] 26 (0, 0)) := by rw [hwa]; exact heap_alloc_new w1 _
  rw [← hwa] at hb1
  have U := U0.below hb1
  have o := below_boxE hb1 o0
  have HO : Hid (Only (· = bw) W wa) := hide (HO0.out.trans (Only.fresh hb1 _))
  have hs1 := g1.size
  have hul := U0.lt
  have hol := (Array.getElem?_eq_some_iff.1 o0).1
  obtain ⟨eB, heB⟩ : ∃ eB, w1.heap.size = eB := ⟨_, rfl⟩
  rw [heB] at q
  have hneb : bw ≠ eB := by omega
  have hge : gB ≠ eB := by omega
  have hgl : gB < eB := by omega
  clear g1 hvr HA U0 o0 HO0 hb1 hs1 hul hol hVs
  rcases hkv with ⟨hk, he⟩ | ⟨hk, he⟩
  · rcases hk with hk | hk
    · subst hk
      obtain ⟨n1, la, ea, ha⟩ : ∃ n1 la ea, anyR l1 e1 = (n1, la, ea) := ⟨_, _, _, rfl⟩
      obtain ⟨n2, lb, eb, hb⟩ : ∃ n2 lb eb, anyR la ea = (n2, lb, eb) := ⟨_, _, _, rfl⟩
      have h2 : recR l1 e1 = (⟨n1, n2⟩, lb, eb) := by
        unfold recR
        rw [ha]
        simp only
        rw [hb]
      have ht := take_one HH1.out h2
      rw [HHR.out] at ht
      simp only [Prod.mk.injEq] at ht
      obtain ⟨hx, rfl, rfl⟩ := ht
      have HX := hide hx.symm
      clear h2 hx
      have HT1 := hide (ruint_at U ha)
      go_wp2_with fail
      rw [← hwa]
      try rw [heB]
      clear hwa heB
      refine HT1.out.mono ?_
      rintro _ w2 ⟨rfl, g2, p2, c2, Ub⟩
      have ob := (only_grown g2).obj o (fun e => hne e.symm)
      have qb := (only_grown g2).obj q (fun e => hneb e.symm)
      have HOb : Hid (Only (· = bw) W w2) := hide (HO.out.trans (only_grown g2))
      clear g2 o q U HT1
      have sc0 : w2.cell? ⟨eB, 1, none⟩ = some (.int .i64 0) := by simp [World.cell?, qb]
      have sc1 : w2.frozen? ⟨eB, 1, none⟩ = false := by simp [World.frozen?, qb]
      obtain ⟨w3, hw3⟩ : ∃ w3, w3 = w2.setCell ⟨eB, 1, none⟩ (.int .i64 n1) := ⟨_, rfl⟩
      have hOc : Only (· = eB) w2 w3 := by rw [hw3]; exact Only.set (F := (· = eB)) w2 eB 1 _ rfl
      have Ubc := Ub.turn hOc (fun e => hneb e) (fun i e => .inr (by have e' : i = eB := e; rw [e']; exact noBytes_of (l := [1, 0, 0, 0]) qb))
      have obc := hOc.obj ob (fun e => hge e)
      have qbc : w3.heap[eB]? = some (.cells #[.int .i64 1, .int .i64 n1, .int .i64 0, .int .i64 0] 26 (0, 0)) := by rw [hw3]; exact heap_setCell_same w2 eB 1 _ _ _ qb
      have HObc : Hid (Only (· = bw) W w3) := hide (HOb.out.step hOc (fun i e => .inr (by have e' : i = eB := e; have := HGB.out; omega)))
      have HWc := hide hw3
      clear Ub ob qb hOc hw3
      have HT2 := hide (ruint_at Ubc hb)
      go_wp2_with fail
      rw [← HWc.out]
      clear sc0 sc1
      refine HT2.out.mono ?_
      rintro _ w4 ⟨rfl, g4, p4, c4, Ud⟩
      have od := (only_grown g4).obj obc (fun e => hne e.symm)
      have qd := (only_grown g4).obj qbc (fun e => hneb e.symm)
      have HOd : Hid (Only (· = bw) W w4) := hide (HObc.out.trans (only_grown g4))
      clear g4 obc qbc Ubc HT2
      have se0 : w4.cell? ⟨eB, 2, none⟩ = some (.int .i64 0) := by simp [World.cell?, qd]
      have se1 : w4.frozen? ⟨eB, 2, none⟩ = false := by simp [World.frozen?, qd]
      obtain ⟨w5, hw5⟩ : ∃ w5, w5 = w4.setCell ⟨eB, 2, none⟩ (.int .i64 n2) := ⟨_, rfl⟩
      have hOe : Only (· = eB) w4 w5 := by rw [hw5]; exact Only.set (F := (· = eB)) w4 eB 2 _ rfl
      have Ude := Ud.turn hOe (fun e => hneb e) (fun i e => .inr (by have e' : i = eB := e; rw [e']; exact noBytes_of (l := [1, n1, 0, 0]) qd))
      have ode := hOe.obj od (fun e => hge e)
      have qde : w5.heap[eB]? = some (.cells #[.int .i64 1, .int .i64 n1, .int .i64 n2, .int .i64 0] 26 (0, 0)) := by rw [hw5]; exact heap_setCell_same w4 eB 2 _ _ _ qd
      have HOde : Hid (Only (· = bw) W w5) := hide (HOd.out.step hOe (fun i e => .inr (by have e' : i = eB := e; have := HGB.out; omega)))
      have HWe := hide hw5
      clear Ud od qd hOe hw5
      clear ha hb
      by_cases he2 : e2 = 0
      · subst he2
        rw [clean_yes] at HX
        obtain ⟨f0, f1, f2, f3, f4, f5, f6, f7⟩ := ev_facts ode (.int .i64 1) (.int .i64 n1) (.int .i64 n2)
        have HE := hide (set4 (d0 := .int .i64 1) (d1 := .int .i64 n1) (d2 := .int .i64 n2) (d3 := .int .i64 0) ode)
        have HN := hide (Ude.turn (only_set4 w5 gB (.int .i64 1) (.int .i64 n1) (.int .i64 n2) (.int .i64 0)) (fun e => hne e) (fun i e => .inr (by have e' : i = gB := e; rw [e']; exact noBytes_of (l := [0, 0, 0, 0]) ode)))
        have HOF : Hid (Only (· = bw) W _) := hide (HOde.out.step (only_set4 w5 gB (.int .i64 1) (.int .i64 n1) (.int .i64 n2) (.int .i64 0)) (fun i e => .inr (by have e' : i = gB := e; have := HGB.out; omega)))
        have k0 : w5.cell? ⟨eB, 0, none⟩ = some (.int .i64 1) := by simp [World.cell?, qde]
        have k1 : w5.cell? ⟨eB, 1, none⟩ = some (.int .i64 n1) := by simp [World.cell?, qde]
        have k2 : w5.cell? ⟨eB, 2, none⟩ = some (.int .i64 n2) := by simp [World.cell?, qde]
        have k3 : w5.cell? ⟨eB, 3, none⟩ = some (.int .i64 0) := by simp [World.cell?, qde]
        have ce := Ude.c1
        clear ode qde Ude
        rw [HWe.out] at f0 f1 f2 f3 f4 f5 f6 f7 k0 k1 k2 k3 ce
        go_wp2
        rw [← HWe.out]
        refine bodyPost_ret (results_cell_row rfl _ _ gB 26 _ _ _ rfl HE.out Try.underlying26 rfl (by kernel_rfl)) rfl ?_
        exact ⟨by rw [← HX.out]; rfl, HOF.out, _, _, HN.out⟩
      · have ne1 : (e2 != 0) = true := by simpa using he2
        rw [clean_no he2] at HX
        clear he2
        obtain ⟨f0, f1, f2, f3, f4, f5, f6, f7⟩ := ev_facts ode (.int .i64 0) (.int .i64 0) (.int .i64 0)
        have HE := hide (set4 (d0 := .int .i64 0) (d1 := .int .i64 0) (d2 := .int .i64 0) (d3 := .int .i64 0) ode)
        have HN := hide (Ude.turn (only_set4 w5 gB (.int .i64 0) (.int .i64 0) (.int .i64 0) (.int .i64 0)) (fun e => hne e) (fun i e => .inr (by have e' : i = gB := e; rw [e']; exact noBytes_of (l := [0, 0, 0, 0]) ode)))
        have HOF : Hid (Only (· = bw) W _) := hide (HOde.out.step (only_set4 w5 gB (.int .i64 0) (.int .i64 0) (.int .i64 0) (.int .i64 0)) (fun i e => .inr (by have e' : i = gB := e; have := HGB.out; omega)))
        have k0 : w5.cell? ⟨eB, 0, none⟩ = some (.int .i64 1) := by simp [World.cell?, qde]
        have k1 : w5.cell? ⟨eB, 1, none⟩ = some (.int .i64 n1) := by simp [World.cell?, qde]
        have k2 : w5.cell? ⟨eB, 2, none⟩ = some (.int .i64 n2) := by simp [World.cell?, qde]
        have k3 : w5.cell? ⟨eB, 3, none⟩ = some (.int .i64 0) := by simp [World.cell?, qde]
        have ce := Ude.c1
        clear ode qde Ude
        rw [HWe.out] at f0 f1 f2 f3 f4 f5 f6 f7 k0 k1 k2 k3 ce
        go_wp2
        rw [← HWe.out]
        refine bodyPost_ret (results_cell_row rfl _ _ gB 26 _ _ _ rfl HE.out Try.underlying26 rfl (by kernel_rfl)) rfl ?_
        exact ⟨by rw [← HX.out]; rfl, HOF.out, _, _, HN.out⟩
    · subst hk
      obtain ⟨id, la, ea, ha⟩ : ∃ id la ea, idR l1 e1 = (id, la, ea) := ⟨_, _, _, rfl⟩
      have ht := take_two HH1.out ha
      rw [HHR.out] at ht
      simp only [Prod.mk.injEq] at ht
      obtain ⟨hx, rfl, rfl⟩ := ht
      have HX := hide hx.symm
      have HT1 := hide (ruint_at U ha)
      clear hx ha
      go_wp2_with fail
      rw [← hwa]
      try rw [heB]
      clear hwa heB
      refine HT1.out.mono ?_
      rintro _ w4 ⟨rfl, g2, p2, c2, Ud⟩
      have od := (only_grown g2).obj o (fun e => hne e.symm)
      have qd := (only_grown g2).obj q (fun e => hneb e.symm)
      have HOd : Hid (Only (· = bw) W w4) := hide (HO.out.trans (only_grown g2))
      clear g2 o q U HT1
      have se0 : w4.cell? ⟨eB, 3, none⟩ = some (.int .i64 0) := by simp [World.cell?, qd]
      have se1 : w4.frozen? ⟨eB, 3, none⟩ = false := by simp [World.frozen?, qd]
      obtain ⟨w5, hw5⟩ : ∃ w5, w5 = w4.setCell ⟨eB, 3, none⟩ (.int .i64 id) := ⟨_, rfl⟩
      have hOe : Only (· = eB) w4 w5 := by rw [hw5]; exact Only.set (F := (· = eB)) w4 eB 3 _ rfl
      have Ude := Ud.turn hOe (fun e => hneb e) (fun i e => .inr (by have e' : i = eB := e; rw [e']; exact noBytes_of (l := [2, 0, 0, 0]) qd))
      have ode := hOe.obj od (fun e => hge e)
      have qde : w5.heap[eB]? = some (.cells #[.int .i64 2, .int .i64 0, .int .i64 0, .int .i64 id] 26 (0, 0)) := by rw [hw5]; exact heap_setCell_same w4 eB 3 _ _ _ qd
      have HOde : Hid (Only (· = bw) W w5) := hide (HOd.out.step hOe (fun i e => .inr (by have e' : i = eB := e; have := HGB.out; omega)))
      have HWe := hide hw5
      clear Ud od qd hOe hw5
      by_cases he2 : e2 = 0
      · subst he2
        rw [clean_yes] at HX
        obtain ⟨f0, f1, f2, f3, f4, f5, f6, f7⟩ := ev_facts ode (.int .i64 2) (.int .i64 0) (.int .i64 0)
        have HE := hide (set4 (d0 := .int .i64 2) (d1 := .int .i64 0) (d2 := .int .i64 0) (d3 := .int .i64 id) ode)
        have HN := hide (Ude.turn (only_set4 w5 gB (.int .i64 2) (.int .i64 0) (.int .i64 0) (.int .i64 id)) (fun e => hne e) (fun i e => .inr (by have e' : i = gB := e; rw [e']; exact noBytes_of (l := [0, 0, 0, 0]) ode)))
        have HOF : Hid (Only (· = bw) W _) := hide (HOde.out.step (only_set4 w5 gB (.int .i64 2) (.int .i64 0) (.int .i64 0) (.int .i64 id)) (fun i e => .inr (by have e' : i = gB := e; have := HGB.out; omega)))
        have k0 : w5.cell? ⟨eB, 0, none⟩ = some (.int .i64 2) := by simp [World.cell?, qde]
        have k1 : w5.cell? ⟨eB, 1, none⟩ = some (.int .i64 0) := by simp [World.cell?, qde]
        have k2 : w5.cell? ⟨eB, 2, none⟩ = some (.int .i64 0) := by simp [World.cell?, qde]
        have k3 : w5.cell? ⟨eB, 3, none⟩ = some (.int .i64 id) := by simp [World.cell?, qde]
        have ce := Ude.c1
        clear ode qde Ude
        rw [HWe.out] at f0 f1 f2 f3 f4 f5 f6 f7 k0 k1 k2 k3 ce
        go_wp2
        rw [← HWe.out]
        refine bodyPost_ret (results_cell_row rfl _ _ gB 26 _ _ _ rfl HE.out Try.underlying26 rfl (by kernel_rfl)) rfl ?_
        exact ⟨by rw [← HX.out]; rfl, HOF.out, _, _, HN.out⟩
      · have ne1 : (e2 != 0) = true := by simpa using he2
        rw [clean_no he2] at HX
        clear he2
        obtain ⟨f0, f1, f2, f3, f4, f5, f6, f7⟩ := ev_facts ode (.int .i64 0) (.int .i64 0) (.int .i64 0)
        have HE := hide (set4 (d0 := .int .i64 0) (d1 := .int .i64 0) (d2 := .int .i64 0) (d3 := .int .i64 0) ode)
        have HN := hide (Ude.turn (only_set4 w5 gB (.int .i64 0) (.int .i64 0) (.int .i64 0) (.int .i64 0)) (fun e => hne e) (fun i e => .inr (by have e' : i = gB := e; rw [e']; exact noBytes_of (l := [0, 0, 0, 0]) ode)))
        have HOF : Hid (Only (· = bw) W _) := hide (HOde.out.step (only_set4 w5 gB (.int .i64 0) (.int .i64 0) (.int .i64 0) (.int .i64 0)) (fun i e => .inr (by have e' : i = gB := e; have := HGB.out; omega)))
        have k0 : w5.cell? ⟨eB, 0, none⟩ = some (.int .i64 2) := by simp [World.cell?, qde]
        have k1 : w5.cell? ⟨eB, 1, none⟩ = some (.int .i64 0) := by simp [World.cell?, qde]
        have k2 : w5.cell? ⟨eB, 2, none⟩ = some (.int .i64 0) := by simp [World.cell?, qde]
        have k3 : w5.cell? ⟨eB, 3, none⟩ = some (.int .i64 id) := by simp [World.cell?, qde]
        have ce := Ude.c1
        clear ode qde Ude
        rw [HWe.out] at f0 f1 f2 f3 f4 f5 f6 f7 k0 k1 k2 k3 ce
        go_wp2
        rw [← HWe.out]
        refine bodyPost_ret (results_cell_row rfl _ _ gB 26 _ _ _ rfl HE.out Try.underlying26 rfl (by kernel_rfl)) rfl ?_
        exact ⟨by rw [← HX.out]; rfl, HOF.out, _, _, HN.out⟩
  · subst hk
    have ht := take_none HH1.out
    rw [HHR.out] at ht
    simp only [Prod.mk.injEq] at ht
    obtain ⟨hx, rfl, rfl⟩ := ht
    have HX := hide hx.symm
    have ne1 : (e2 != 0) = true := by simpa using he
    have ha : reads l2 e2 (-9223372036854775808) 9223372036854775807 = (0, l2, e2) := reads_same he _ _
    clear hx he
    have HT1 := hide (ruint_at U ha)
    go_wp2_with fail
    rw [← hwa]
    try rw [heB]
    clear hwa heB
    refine HT1.out.mono ?_
    rintro _ w2 ⟨rfl, g2, p2, c2, Ub⟩
    have ob := (only_grown g2).obj o (fun e => hne e.symm)
    have qb := (only_grown g2).obj q (fun e => hneb e.symm)
    have HOb : Hid (Only (· = bw) W w2) := hide (HO.out.trans (only_grown g2))
    clear g2 o q U HT1
    have sc0 : w2.cell? ⟨eB, 1, none⟩ = some (.int .i64 0) := by simp [World.cell?, qb]
    have sc1 : w2.frozen? ⟨eB, 1, none⟩ = false := by simp [World.frozen?, qb]
    obtain ⟨w3, hw3⟩ : ∃ w3, w3 = w2.setCell ⟨eB, 1, none⟩ (.int .i64 0) := ⟨_, rfl⟩
    have hOc : Only (· = eB) w2 w3 := by rw [hw3]; exact Only.set (F := (· = eB)) w2 eB 1 _ rfl
    have Ubc := Ub.turn hOc (fun e => hneb e) (fun i e => .inr (by have e' : i = eB := e; rw [e']; exact noBytes_of (l := [0, 0, 0, 0]) qb))
    have obc := hOc.obj ob (fun e => hge e)
    have qbc : w3.heap[eB]? = some (.cells #[.int .i64 0, .int .i64 0, .int .i64 0, .int .i64 0] 26 (0, 0)) := by rw [hw3]; exact heap_setCell_same w2 eB 1 _ _ _ qb
    have HObc : Hid (Only (· = bw) W w3) := hide (HOb.out.step hOc (fun i e => .inr (by have e' : i = eB := e; have := HGB.out; omega)))
    have HWc := hide hw3
    clear Ub ob qb hOc hw3
    have HT2 := hide (ruint_at Ubc ha)
    go_wp2_with fail
    rw [← HWc.out]
    clear sc0 sc1
    refine HT2.out.mono ?_
    rintro _ w4 ⟨rfl, g4, p4, c4, Ud⟩
    have od := (only_grown g4).obj obc (fun e => hne e.symm)
    have qd := (only_grown g4).obj qbc (fun e => hneb e.symm)
    have HOd : Hid (Only (· = bw) W w4) := hide (HObc.out.trans (only_grown g4))
    clear g4 obc qbc Ubc HT2
    have se0 : w4.cell? ⟨eB, 2, none⟩ = some (.int .i64 0) := by simp [World.cell?, qd]
    have se1 : w4.frozen? ⟨eB, 2, none⟩ = false := by simp [World.frozen?, qd]
    obtain ⟨w5, hw5⟩ : ∃ w5, w5 = w4.setCell ⟨eB, 2, none⟩ (.int .i64 0) := ⟨_, rfl⟩
    have hOe : Only (· = eB) w4 w5 := by rw [hw5]; exact Only.set (F := (· = eB)) w4 eB 2 _ rfl
    have Ude := Ud.turn hOe (fun e => hneb e) (fun i e => .inr (by have e' : i = eB := e; rw [e']; exact noBytes_of (l := [0, 0, 0, 0]) qd))
    have ode := hOe.obj od (fun e => hge e)
    have qde : w5.heap[eB]? = some (.cells #[.int .i64 0, .int .i64 0, .int .i64 0, .int .i64 0] 26 (0, 0)) := by rw [hw5]; exact heap_setCell_same w4 eB 2 _ _ _ qd
    have HOde : Hid (Only (· = bw) W w5) := hide (HOd.out.step hOe (fun i e => .inr (by have e' : i = eB := e; have := HGB.out; omega)))
    have HWe := hide hw5
    clear Ud od qd hOe hw5
    obtain ⟨f0, f1, f2, f3, f4, f5, f6, f7⟩ := ev_facts ode (.int .i64 0) (.int .i64 0) (.int .i64 0)
    have HE := hide (set4 (d0 := .int .i64 0) (d1 := .int .i64 0) (d2 := .int .i64 0) (d3 := .int .i64 0) ode)
    have HN := hide (Ude.turn (only_set4 w5 gB (.int .i64 0) (.int .i64 0) (.int .i64 0) (.int .i64 0)) (fun e => hne e) (fun i e => .inr (by have e' : i = gB := e; rw [e']; exact noBytes_of (l := [0, 0, 0, 0]) ode)))
    have HOF : Hid (Only (· = bw) W _) := hide (HOde.out.step (only_set4 w5 gB (.int .i64 0) (.int .i64 0) (.int .i64 0) (.int .i64 0)) (fun i e => .inr (by have e' : i = gB := e; have := HGB.out; omega)))
    have k0 : w5.cell? ⟨eB, 0, none⟩ = some (.int .i64 0) := by simp [World.cell?, qde]
    have k1 : w5.cell? ⟨eB, 1, none⟩ = some (.int .i64 0) := by simp [World.cell?, qde]
    have k2 : w5.cell? ⟨eB, 2, none⟩ = some (.int .i64 0) := by simp [World.cell?, qde]
    have k3 : w5.cell? ⟨eB, 3, none⟩ = some (.int .i64 0) := by simp [World.cell?, qde]
    have ce := Ude.c1
    clear ode qde Ude
    rw [HWe.out] at f0 f1 f2 f3 f4 f5 f6 f7 k0 k1 k2 k3 ce
    go_wp2
    rw [← HWe.out]
    refine bodyPost_ret (results_cell_row rfl _ _ gB 26 _ _ _ rfl HE.out Try.underlying26 rfl (by kernel_rfl)) rfl ?_
    exact ⟨by rw [← HX.out]; rfl, HOF.out, _, _, HN.out⟩
end Go.Proofs.Ytihbdlbnpkmafaa
