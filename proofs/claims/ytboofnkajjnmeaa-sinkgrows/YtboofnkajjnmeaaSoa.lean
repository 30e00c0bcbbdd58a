/-
  SinkOnce walked. The conditions: that the operations lie there; lengths.
-/
import Derived.Test.YtboofnkajjnmeaaSob
import Derived.Deep.CutRange
namespace Go.Proofs.Ytboofnkajjnmeaa
open Go.RowKit Go.Maps Go.Shelf

/-- An operation, with where its lists lie. -/
structure OP where
  d : Int
  x : TP
instance : Inhabited OP := ⟨⟨0, default⟩⟩
def OP.cells (o : OP) : List Value := [.int .i64 o.d, .int .i64 o.x.t.ep, .int .i64 o.x.t.id, .int .i64 o.x.t.beg, .slice o.x.rp o.x.t.rs.length o.x.rc, .slice o.x.vp o.x.t.vs.length o.x.vc]
theorem OP.len (o : OP) : o.cells.length = 6 := rfl
/-- Operations as they lie. -/
structure OL (W : World) (p : Option Addr) (c : Nat) (os : List OP) : Prop where
  row : LRow OP.cells 6 W p c os
  ok : ∀ o ∈ os, o.x.ok W ∧ ∀ i, o.x.blk i → i < W.heap.size
theorem OL.at {W : World} {p : Option Addr} {c : Nat} {os : List OP} (h : LRow OP.cells 6 W p c os) {i : Nat} (hi : i < os.length) {y : OP} (hy : os[i]! = y) : ∃ g o, p = some ⟨g, o, none⟩ ∧ W.cell? ⟨g, o + i * 6, none⟩ = some (.int .i64 y.d) ∧ W.cell? ⟨g, o + i * 6 + 1, none⟩ = some (.int .i64 y.x.t.ep) ∧ W.cell? ⟨g, o + i * 6 + 2, none⟩ = some (.int .i64 y.x.t.id) ∧ W.cell? ⟨g, o + i * 6 + 3, none⟩ = some (.int .i64 y.x.t.beg) ∧ W.cell? ⟨g, o + i * 6 + 4, none⟩ = some (.slice y.x.rp y.x.t.rs.length y.x.rc) ∧ W.cell? ⟨g, o + i * 6 + 5, none⟩ = some (.slice y.x.vp y.x.t.vs.length y.x.vc) := by
  obtain ⟨g, o, e, hc⟩ := h.cell i hi
  rw [hy] at hc
  exact ⟨g, o, e, hc 0 (by decide), hc 1 (by decide), hc 2 (by decide), hc 3 (by decide), hc 4 (by decide), hc 5 (by decide)⟩
set_option maxRecDepth 100000 in
set_option maxHeartbeats 8000000 in
theorem once_walk {W : World} {p : Option Addr} {n c : Nat} {os : List OP} (h : OL W p c os) (hn : os.length = n) (hb : n < 2199023255552) :
    Calls Try.prog 6 #[.slice p n c] W fun e w' => e = .returned (.bool true) ∧ Below W.heap.size W w' := by
  have H := hide h
  have HN := hide hn
  have i1 : os.length ≤ c := h.row.le
  have i2 := h.row.top
  rw [hn] at i1
  clear h hn
  go_enter Try.func6, Try.ntmps6
  go_wp2_with fail
  refine live_any.mono ?_
  rintro _ w0 ⟨rfl, b0⟩
  have HB0 := hide b0
  clear b0
  go_wp2_with fail
  refine (new_ok (W := w0) (n := 2) (by omega) (by omega)).mono ?_
  rintro _ w1 ⟨k0, rfl, hp, hs, hb1⟩
  have HP0 : Hid (PS w0.heap.size w1 k0) := hide hp
  have HS0 : Hid (k0.done.length = 0 ∧ k0.vec.length = 2) := hide ⟨by have h9 : k0.done = _ := congrArg SK.done hs; rw [h9]; rfl, by have h9 : k0.vec = _ := congrArg SK.vec hs; rw [h9]; rfl⟩
  have HB1 : Hid (Below w0.heap.size w0 w1) := hide hb1
  clear hp hs hb1
  obtain ⟨kb, hkb⟩ : ∃ kb, k0.b = kb := ⟨_, rfl⟩
  rw [hkb]
  have HKB := hide hkb
  clear hkb
  go_wp2_with fail
  go_loopw [24] (fun i wr => ∃ (j : Nat) (k : PK), j ≤ n ∧ i = .int .i64 (j : Int) ∧ Hid (k.b = kb) ∧ Hid (PS w0.heap.size wr k) ∧ Hid (k.done.length ≤ j ∧ k.vec.length = 2) ∧ Hid (Below w0.heap.size w0 wr)) (fun i _ => n - (intOf i).toNat)
  case atStart => exact ⟨0, k0, Nat.zero_le _, rfl, HKB, HP0, hide ⟨by have := HS0.out; omega, HS0.out.2⟩, HB1⟩
  case round =>
    obtain ⟨j, k, hj, rfl, HKE, HP, HD, HB⟩ := hrel
    rename World => wr
    obtain rfl := HKE.out
    clear HKE
    by_cases hlt : j < n
    · have hl1 : j < os.length := by rw [HN.out]; exact hlt
      obtain ⟨y, hy⟩ : ∃ y, os[j]! = y := ⟨_, rfl⟩
      have HYM : Hid (y ∈ os) := hide (by rw [← hy, getElem!_pos os j hl1]; exact List.getElem_mem hl1)
      have HWR : Hid (Below W.heap.size W wr) := hide (HB0.out.trans (HB.out.mono HB0.out.size))
      obtain ⟨g, o, rfl, a0, a1, a2, a3, a4, a5⟩ := OL.at (H.out.row.below OP.len HWR.out) hl1 hy
      have HOK : Hid (y.x.ok wr ∧ ∀ i, y.x.blk i → ¬ k.blk i) := hide ⟨(H.out.ok y HYM.out).1.later HWR.out, fun i hi hb => by have h1 := (H.out.ok y HYM.out).2 i hi; have h2 := (HP.out.lt hb).1; have := HB0.out.size; omega⟩
      clear hy hl1
      have hlt9 := hlt
      go_upto_region 9 with fail
      obtain ⟨X, hX⟩ : ∃ X, X = wr.alloc (.cells #[.int .i64 y.d, .int .i64 y.x.t.ep, .int .i64 y.x.t.id, .int .i64 y.x.t.beg, .slice y.x.rp y.x.t.rs.length y.x.rc, .slice y.x.vp y.x.t.vs.length y.x.vc] 36 (0, 0)) := ⟨_, rfl⟩
      rw [← hX]
      have bX : Below wr.heap.size wr X := by rw [hX]; exact alloc_below _ _
      obtain ⟨oB, hoB⟩ : ∃ oB, wr.heap.size = oB := ⟨_, rfl⟩
      have HO : Hid (X.heap[oB]? = some (.cells #[.int .i64 y.d, .int .i64 y.x.t.ep, .int .i64 y.x.t.id, .int .i64 y.x.t.beg, .slice y.x.rp y.x.t.rs.length y.x.rc, .slice y.x.vp y.x.t.vs.length y.x.vc] 36 (0, 0))) := hide (by rw [hX, ← hoB]; exact heap_alloc_new wr _)
      have HPX := hide (HP.out.later bX)
      have HOX : Hid (y.x.ok X ∧ ∀ i, y.x.blk i → ¬ k.blk i) := hide ⟨HOK.out.1.later bX, HOK.out.2⟩
      have HBX : Hid (Below w0.heap.size w0 X) := hide (HB.out.trans (bX.mono HB.out.size))
      have HOW : Hid (w0.heap.size ≤ oB) := hide (by have := HB.out.size; omega)
      have HNO : Hid (¬ k.blk oB) := hide (fun hi => by have := (HP.out.lt hi).2; omega)
      try rw [hoB]
      clear hX bX hoB a0 a1 a2 a3 a4 a5 HP HOK HB HWR
      have u0 := cellB HO.out (i := 0) rfl
      have u1 := cellB HO.out (i := 1) rfl
      have u2 := cellB HO.out (i := 2) rfl
      have u3 := cellB HO.out (i := 3) rfl
      have u4 := cellB HO.out (i := 4) rfl
      have u5 := cellB HO.out (i := 5) rfl
      by_cases h1 : y.d = 1
      · have d1 : (y.d == 1) = true := by simpa using h1
        clear h1
        go_wp2_with fail
        refine (pre_any (x := y.x) HPX.out HOX.out.1 HOX.out.2 (by have := HD.out; omega)).mono ?_
        rintro _ w3 ⟨rfl, hput⟩
        obtain ⟨k3, r1, r2, r3, r4, r5⟩ := hput
        have HP3 := hide r1
        have HD3 : Hid (k3.done.length ≤ j + 1 ∧ k3.vec.length = 2) := hide (by
          have e1 : k3.done = _ := congrArg SK.done r2
          have e2 : k3.vec = _ := congrArg SK.vec r2
          have h9 := pre_len (k.vec.length : Int) k.sk y.x.t
          have h8 := pre_vec (k.vec.length : Int) k.sk y.x.t
          have h7 : k.sk.done.length ≤ j := HD.out.1
          have h6 : k.sk.vec.length = 2 := HD.out.2
          rw [e1, e2]
          omega)
        have HB3 : Hid (Below w0.heap.size w0 w3) := hide (HBX.out.trans (r4.below HBX.out.size (fun i hi => (HPX.out.lt hi).1)))
        have HK3 : Hid (k3.b = k.b) := hide r3
        clear r1 r2 r3 r4 r5 u0 u1 u2 u3 u4 u5
        go_wp2
        exact ⟨⟨j + 1, k3, hlt9, by first | rfl | go_num, HK3, HP3, HD3, HB3⟩, by simp [intOf]; omega⟩
      · have d1 : (y.d == 1) = false := by simpa using h1
        by_cases h2 : y.d = 2
        · have d2 : (y.d == 2) = true := by simpa using h2
          clear h1 h2
          go_wp2_with fail
          refine key_any.mono ?_
          rintro _ w3 ⟨rfl, b3⟩
          have HP3 := hide (HPX.out.later b3)
          have HO3 := hide (below_box b3 HO.out)
          have HX3 : Hid (y.x.ok w3) := hide (HOX.out.1.later b3)
          have HB3 : Hid (Below w0.heap.size w0 w3) := hide (HBX.out.trans (b3.mono HBX.out.size))
          clear b3 u0 u1 u2 u3 u4 u5
          go_wp2_with fail
          refine (commit_any HP3.out (by have := HD.out; omega)).mono ?_
          rintro _ w4 ⟨rfl, hput⟩
          obtain ⟨k4, r1, r2, r3, r4, r5⟩ := hput
          have HP4 := hide r1
          have HS4 := hide r2
          have HD4 : Hid (k4.done.length ≤ j + 1 ∧ k4.vec.length = 2) := hide (by
            have e1 : k4.done = _ := congrArg SK.done r2
            have e2 : k4.vec = _ := congrArg SK.vec r2
            have h9 := com_len k.sk y.x.t.ep y.x.t.id
            have h8 := com_vec HP3.out.ok y.x.t.ep y.x.t.id
            have h7 : k.sk.done.length ≤ j := HD.out.1
            have h6 : k.sk.vec.length = 2 := HD.out.2
            rw [e1, e2]
            omega)
          have HB4 : Hid (Below w0.heap.size w0 w4) := hide (HB3.out.trans (r4.below HB3.out.size (fun i hi => (HP3.out.lt hi).1)))
          have HO4 := hide (r4.obj HO3.out (fun hi => HNO.out hi))
          have HN4 : Hid (¬ k4.blk oB) := hide (fun hi => by
            rcases r5 oB hi with h9 | h9
            · exact HNO.out h9
            · have := box_lt HO3.out
              omega)
          have HX4 : Hid (y.x.ok w4 ∧ ∀ i, y.x.blk i → ¬ k4.blk i) := hide ⟨HX3.out.only r4 (fun i hi hb => HOX.out.2 i hi hb), fun i hi hb => by
            rcases r5 i hb with h9 | h9
            · exact HOX.out.2 i hi h9
            · have h8 := (H.out.ok y HYM.out).2 i hi
              have := HB0.out.size
              have := HB3.out.size
              omega⟩
          have HK4 : Hid (k4.b = k.b) := hide r3
          clear r1 r2 r3 r4 r5
          by_cases hc : comE k.sk y.x.t.ep y.x.t.id = 0
          · have d3 : (comE k.sk y.x.t.ep y.x.t.id != 0) = false := by simpa using hc
            have HCD := hide (com_done hc)
            clear hc
            rw [← HK4.out]
            go_wp2_with fail
            refine (plain_any HP4.out (by have := HD4.out; omega)).mono ?_
            rintro _ w5 ⟨q, rfl, hq, hqs, b5⟩
            unfold QK.row
            have HP5 := hide (HP4.out.later b5)
            have HO5 := hide (below_box b5 HO4.out)
            have HX5 := hide (HX4.out.1.later b5)
            have HQ5 := hide hq
            have HQS := hide hqs
            have HB5 : Hid (Below w0.heap.size w0 w5) := hide (HB4.out.trans (b5.mono HB4.out.size))
            clear hq hqs b5
            go_upto_region 15 with fail
            obtain ⟨Y, hY⟩ : ∃ Y, Y = w5.alloc (.cells #[.int .i64 q.reg, .slice q.op q.out.length q.oc, .slice q.vp q.vec.length q.vc, .slice q.dp q.done.length q.dc, .slice q.pp q.ts.length q.pc] 43 (0, 0)) := ⟨_, rfl⟩
            rw [← hY]
            have bY : Below w5.heap.size w5 Y := by rw [hY]; exact alloc_below _ _
            obtain ⟨pB, hpB⟩ : ∃ pB, w5.heap.size = pB := ⟨_, rfl⟩
            have HSY : Hid (Y.heap[pB]? = some (.cells #[.int .i64 q.reg, .slice q.op q.out.length q.oc, .slice q.vp q.vec.length q.vc, .slice q.dp q.done.length q.dc, .slice q.pp q.ts.length q.pc] 43 (0, 0))) := hide (by rw [hY, ← hpB]; exact heap_alloc_new w5 _)
            have HNP : Hid (¬ k4.blk pB) := hide (fun hi => by have := (HP5.out.lt hi).2; omega)
            try rw [hpB]
            clear hY hpB
            go_wp2_with fail
            refine (rnew_ok (W := Y) (n := 2) (by omega) (by omega)).mono ?_
            rintro _ Z ⟨rb, qr, rfl, hrp, hrs, b6⟩
            have HPZ := hide ((HP5.out.later bY).later b6)
            have HOZ := hide (below_box b6 (below_box bY HO5.out))
            have HXZ := hide ((HX5.out.later bY).later b6)
            have HSZ := hide (below_box b6 HSY.out)
            have HQZ := hide ((HQ5.out.later bY).later b6)
            have HRB : Hid (Z.cell? ⟨rb, 0, none⟩ = some (.int .i64 2)) := hide (cellB hrp.box rfl)
            have HNR : Hid (¬ k4.blk rb) := hide (fun hi => by have := (HP5.out.lt hi).2; have := hrp.ge; have := bY.size; omega)
            have HBZ : Hid (Below w0.heap.size w0 Z) := hide (HB5.out.trans ((bY.trans (b6.mono bY.size)).mono HB5.out.size))
            have HYB : Hid (∀ i, y.x.blk i → ¬ k4.blk i ∧ i < Z.heap.size) := hide (fun i hi => ⟨HX4.out.2 i hi, by have := (H.out.ok y HYM.out).2 i hi; have := HB0.out.size; have := HBZ.out.size; omega⟩)
            have HK4L : Hid (∀ i, k4.blk i → i < w4.heap.size) := hide (fun i hi => (HP4.out.lt hi).2)
            have HPD : Hid (posI y.x.t.ep ∧ posI y.x.t.id ∧ doneC k4.sk y.x.t.ep y.x.t.id = true) := hide (by rw [HS4.out]; exact HCD.out)
            have HDL : Hid (k4.done.length < 4398046511104) := hide (by have := HD4.out; omega)
            clear bY b6 hrp hrs
            have u0 := cellB HOZ.out (i := 0) rfl
            have u1 := cellB HOZ.out (i := 1) rfl
            have u2 := cellB HOZ.out (i := 2) rfl
            have u3 := cellB HOZ.out (i := 3) rfl
            have u4 := cellB HOZ.out (i := 4) rfl
            have u5 := cellB HOZ.out (i := 5) rfl
            have v0 := cellB HSZ.out (i := 0) rfl
            have v1 := cellB HSZ.out (i := 1) rfl
            have v2 := cellB HSZ.out (i := 2) rfl
            have v3 := cellB HSZ.out (i := 3) rfl
            have v4 := cellB HSZ.out (i := 4) rfl
            have HI0 : Hid (SI w0.heap.size Z k4 k4 Z.drew) := hide ((SI.start HPZ.out).later (Below.refl _ Z).drew)
            go_upto_region 16 with fail
            by_cases hm : mayC 2 y.x.t
            · have HM := hide hm
              clear hm
              refine wp_region_held_drew (S := fun w9 => Only k4.blk Z w9) (by kernel_rfl) HI0.out.only (fun hHeld => ?_)
              refine wpAnyH_take (i := 0) (oi := _) (v := ?_) rfl (by kernel_rfl) (by kernel_rfl) (by kernel_rfl) (fun _ _ _ h => h) (Or.inl ⟨by kernel_rfl, ?_⟩) (by assumption) ?_
              rotate_left
              · intro w hSw
                have l0 := hSw.cell u0 HN4.out
                have l1 := hSw.cell u1 HN4.out
                have l2 := hSw.cell u2 HN4.out
                have l3 := hSw.cell u3 HN4.out
                have l4 := hSw.cell u4 HN4.out
                have l5 := hSw.cell u5 HN4.out
                have m0 := hSw.cell v0 HNP.out
                have m1 := hSw.cell v1 HNP.out
                have m2 := hSw.cell v2 HNP.out
                have m3 := hSw.cell v3 HNP.out
                have m4 := hSw.cell v4 HNP.out
                go_simp
                all_goals with_reducible rfl
              simp only [Act.put]
              refine wpAnyH_take (i := 1) (oi := _) (v := ?_) rfl (by kernel_rfl) (by kernel_rfl) (by kernel_rfl) (fun _ _ _ h => h) (Or.inl ⟨by kernel_rfl, ?_⟩) (by assumption) ?_
              rotate_left
              · intro w hSw
                have l0 := hSw.cell u0 HN4.out
                have l1 := hSw.cell u1 HN4.out
                have l2 := hSw.cell u2 HN4.out
                have l3 := hSw.cell u3 HN4.out
                have l4 := hSw.cell u4 HN4.out
                have l5 := hSw.cell u5 HN4.out
                have m0 := hSw.cell v0 HNP.out
                have m1 := hSw.cell v1 HNP.out
                have m2 := hSw.cell v2 HNP.out
                have m3 := hSw.cell v3 HNP.out
                have m4 := hSw.cell v4 HNP.out
                go_simp
                all_goals with_reducible rfl
              simp only [Act.put]
              refine wpAnyH_ready (rs := [2]) (by kernel_rfl) (by simp) ?_
              refine AllReadyH.cons (o := _) rfl (fun K hK => ?_) AllReadyH.nil
              go_simp
              refine (key_any).mono ?_
              rintro _ x1 ⟨rfl, b0⟩
              have HI1 := hide (HI0.out.later b0)
              clear b0
              go_wp2_with fail
              refine hK.out _ _ HI1.out.only (fun hHeld => ?_)
              clear hK
              refine wpAnyH_ready (rs := [3]) (by kernel_rfl) (by simp) ?_
              refine AllReadyH.cons (o := _) rfl (fun K hK => ?_) AllReadyH.nil
              go_simp
              refine (HI1.out.doneC HPD.out.2.2 HDL.out).mono ?_
              rintro _ x2 ⟨rfl, b0⟩
              have HI2 := hide (HI1.out.later b0)
              clear b0
              go_wp2_with fail
              refine hK.out _ _ HI2.out.only (fun hHeld => ?_)
              clear hK
              refine wpAnyH_take (i := 4) (oi := _) (v := ?_) rfl (by kernel_rfl) (by kernel_rfl) (by kernel_rfl) (fun _ _ _ h => h) (Or.inl ⟨by kernel_rfl, ?_⟩) (by assumption) ?_
              rotate_left
              · intro w hSw
                have l0 := hSw.cell u0 HN4.out
                have l1 := hSw.cell u1 HN4.out
                have l2 := hSw.cell u2 HN4.out
                have l3 := hSw.cell u3 HN4.out
                have l4 := hSw.cell u4 HN4.out
                have l5 := hSw.cell u5 HN4.out
                have m0 := hSw.cell v0 HNP.out
                have m1 := hSw.cell v1 HNP.out
                have m2 := hSw.cell v2 HNP.out
                have m3 := hSw.cell v3 HNP.out
                have m4 := hSw.cell v4 HNP.out
                go_simp
                all_goals with_reducible rfl
              simp only [Act.put]
              refine wpAnyH_take (i := 5) (oi := _) (v := ?_) rfl (by kernel_rfl) (by kernel_rfl) (by kernel_rfl) (fun _ _ _ h => h) (Or.inl ⟨by kernel_rfl, ?_⟩) (by assumption) ?_
              rotate_left
              · intro w hSw
                have l0 := hSw.cell u0 HN4.out
                have l1 := hSw.cell u1 HN4.out
                have l2 := hSw.cell u2 HN4.out
                have l3 := hSw.cell u3 HN4.out
                have l4 := hSw.cell u4 HN4.out
                have l5 := hSw.cell u5 HN4.out
                have m0 := hSw.cell v0 HNP.out
                have m1 := hSw.cell v1 HNP.out
                have m2 := hSw.cell v2 HNP.out
                have m3 := hSw.cell v3 HNP.out
                have m4 := hSw.cell v4 HNP.out
                go_simp
                all_goals with_reducible rfl
              simp only [Act.put]
              refine wpAnyH_take (i := 6) (oi := _) (v := ?_) rfl (by kernel_rfl) (by kernel_rfl) (by kernel_rfl) (fun _ _ _ h => h) (Or.inl ⟨by kernel_rfl, ?_⟩) (by assumption) ?_
              rotate_left
              · intro w hSw
                have l0 := hSw.cell u0 HN4.out
                have l1 := hSw.cell u1 HN4.out
                have l2 := hSw.cell u2 HN4.out
                have l3 := hSw.cell u3 HN4.out
                have l4 := hSw.cell u4 HN4.out
                have l5 := hSw.cell u5 HN4.out
                have m0 := hSw.cell v0 HNP.out
                have m1 := hSw.cell v1 HNP.out
                have m2 := hSw.cell v2 HNP.out
                have m3 := hSw.cell v3 HNP.out
                have m4 := hSw.cell v4 HNP.out
                go_simp
                all_goals with_reducible rfl
              simp only [Act.put]
              refine wpAnyH_take (i := 7) (oi := _) (v := ?_) rfl (by kernel_rfl) (by kernel_rfl) (by kernel_rfl) (fun _ _ _ h => h) (Or.inl ⟨by kernel_rfl, ?_⟩) (by assumption) ?_
              rotate_left
              · intro w hSw
                have l0 := hSw.cell u0 HN4.out
                have l1 := hSw.cell u1 HN4.out
                have l2 := hSw.cell u2 HN4.out
                have l3 := hSw.cell u3 HN4.out
                have l4 := hSw.cell u4 HN4.out
                have l5 := hSw.cell u5 HN4.out
                have m0 := hSw.cell v0 HNP.out
                have m1 := hSw.cell v1 HNP.out
                have m2 := hSw.cell v2 HNP.out
                have m3 := hSw.cell v3 HNP.out
                have m4 := hSw.cell v4 HNP.out
                go_simp
                all_goals with_reducible rfl
              simp only [Act.put]
              refine wpAnyH_ready (rs := [8]) (by kernel_rfl) (by simp) ?_
              refine AllReadyH.cons (o := _) rfl (fun K hK => ?_) AllReadyH.nil
              go_simp
              refine (key_any).mono ?_
              rintro _ x3 ⟨rfl, b0⟩
              have HI3 := hide (HI2.out.later b0)
              clear b0
              go_wp2_with fail
              refine hK.out _ _ HI3.out.only (fun hHeld => ?_)
              clear hK
              refine wpAnyH_ready (rs := [9]) (by kernel_rfl) (by simp) ?_
              refine AllReadyH.cons (o := _) rfl (fun K hK => ?_) AllReadyH.nil
              go_simp
              refine (HI3.out.commitC HPD.out.1 HPD.out.2.1 HPD.out.2.2 HDL.out).mono ?_
              rintro _ x4 ⟨rfl, kk4, hi⟩
              have HI4 := hide hi
              clear hi
              go_wp2_with fail
              refine hK.out _ _ HI4.out.only (fun hHeld => ?_)
              clear hK
              refine wpAnyH_take (i := 10) (oi := _) (v := ?_) rfl (by kernel_rfl) (by kernel_rfl) (by kernel_rfl) (fun _ _ _ h => h) (Or.inl ⟨by kernel_rfl, ?_⟩) (by assumption) ?_
              rotate_left
              · intro w hSw
                have l0 := hSw.cell u0 HN4.out
                have l1 := hSw.cell u1 HN4.out
                have l2 := hSw.cell u2 HN4.out
                have l3 := hSw.cell u3 HN4.out
                have l4 := hSw.cell u4 HN4.out
                have l5 := hSw.cell u5 HN4.out
                have m0 := hSw.cell v0 HNP.out
                have m1 := hSw.cell v1 HNP.out
                have m2 := hSw.cell v2 HNP.out
                have m3 := hSw.cell v3 HNP.out
                have m4 := hSw.cell v4 HNP.out
                go_simp
                all_goals with_reducible rfl
              simp only [Act.put]
              refine wpAnyH_take (i := 11) (oi := _) (v := ?_) rfl (by kernel_rfl) (by kernel_rfl) (by kernel_rfl) (fun _ _ _ h => h) (Or.inl ⟨by kernel_rfl, ?_⟩) (by assumption) ?_
              rotate_left
              · intro w hSw
                have l0 := hSw.cell u0 HN4.out
                have l1 := hSw.cell u1 HN4.out
                have l2 := hSw.cell u2 HN4.out
                have l3 := hSw.cell u3 HN4.out
                have l4 := hSw.cell u4 HN4.out
                have l5 := hSw.cell u5 HN4.out
                have m0 := hSw.cell v0 HNP.out
                have m1 := hSw.cell v1 HNP.out
                have m2 := hSw.cell v2 HNP.out
                have m3 := hSw.cell v3 HNP.out
                have m4 := hSw.cell v4 HNP.out
                go_simp
                all_goals with_reducible rfl
              simp only [Act.put]
              refine wpAnyH_take (i := 12) (oi := _) (v := ?_) rfl (by kernel_rfl) (by kernel_rfl) (by kernel_rfl) (fun _ _ _ h => h) (Or.inl ⟨by kernel_rfl, ?_⟩) (by assumption) ?_
              rotate_left
              · intro w hSw
                have l0 := hSw.cell u0 HN4.out
                have l1 := hSw.cell u1 HN4.out
                have l2 := hSw.cell u2 HN4.out
                have l3 := hSw.cell u3 HN4.out
                have l4 := hSw.cell u4 HN4.out
                have l5 := hSw.cell u5 HN4.out
                have m0 := hSw.cell v0 HNP.out
                have m1 := hSw.cell v1 HNP.out
                have m2 := hSw.cell v2 HNP.out
                have m3 := hSw.cell v3 HNP.out
                have m4 := hSw.cell v4 HNP.out
                go_simp
                all_goals with_reducible rfl
              simp only [Act.put]
              refine wpAnyH_take (i := 13) (oi := _) (v := ?_) rfl (by kernel_rfl) (by kernel_rfl) (by kernel_rfl) (fun _ _ _ h => h) (Or.inl ⟨by kernel_rfl, ?_⟩) (by assumption) ?_
              rotate_left
              · intro w hSw
                have l0 := hSw.cell u0 HN4.out
                have l1 := hSw.cell u1 HN4.out
                have l2 := hSw.cell u2 HN4.out
                have l3 := hSw.cell u3 HN4.out
                have l4 := hSw.cell u4 HN4.out
                have l5 := hSw.cell u5 HN4.out
                have m0 := hSw.cell v0 HNP.out
                have m1 := hSw.cell v1 HNP.out
                have m2 := hSw.cell v2 HNP.out
                have m3 := hSw.cell v3 HNP.out
                have m4 := hSw.cell v4 HNP.out
                go_simp
                all_goals with_reducible rfl
              simp only [Act.put]
              refine wpAnyH_take (i := 14) (oi := _) (v := ?_) rfl (by kernel_rfl) (by kernel_rfl) (by kernel_rfl) (fun _ _ _ h => h) (Or.inl ⟨by kernel_rfl, ?_⟩) (by assumption) ?_
              rotate_left
              · intro w hSw
                have l0 := hSw.cell u0 HN4.out
                have l1 := hSw.cell u1 HN4.out
                have l2 := hSw.cell u2 HN4.out
                have l3 := hSw.cell u3 HN4.out
                have l4 := hSw.cell u4 HN4.out
                have l5 := hSw.cell u5 HN4.out
                have m0 := hSw.cell v0 HNP.out
                have m1 := hSw.cell v1 HNP.out
                have m2 := hSw.cell v2 HNP.out
                have m3 := hSw.cell v3 HNP.out
                have m4 := hSw.cell v4 HNP.out
                go_simp
                all_goals with_reducible rfl
              simp only [Act.put]
              refine wpAnyH_take (i := 15) (oi := _) (v := ?_) rfl (by kernel_rfl) (by kernel_rfl) (by kernel_rfl) (fun _ _ _ h => h) (Or.inl ⟨by kernel_rfl, ?_⟩) (by assumption) ?_
              rotate_left
              · intro w hSw
                have l0 := hSw.cell u0 HN4.out
                have l1 := hSw.cell u1 HN4.out
                have l2 := hSw.cell u2 HN4.out
                have l3 := hSw.cell u3 HN4.out
                have l4 := hSw.cell u4 HN4.out
                have l5 := hSw.cell u5 HN4.out
                have m0 := hSw.cell v0 HNP.out
                have m1 := hSw.cell v1 HNP.out
                have m2 := hSw.cell v2 HNP.out
                have m3 := hSw.cell v3 HNP.out
                have m4 := hSw.cell v4 HNP.out
                go_simp
                all_goals with_reducible rfl
              simp only [Act.put]
              refine wpAnyH_ready (rs := [16]) (by kernel_rfl) (by simp) ?_
              refine AllReadyH.cons (o := _) rfl (fun K hK => ?_) AllReadyH.nil
              go_simp
              refine (rMay_any (HI4.out.only.cell HRB.out HNR.out) (HXZ.out.only HI4.out.only (fun i hi => (HYB.out i hi).1)).v rfl rfl (decide_eq_true HM.out)).mono ?_
              rintro _ x5 ⟨rfl, b0⟩
              have HI5 := hide (HI4.out.later b0)
              clear b0
              go_wp2_with fail
              refine hK.out _ _ HI5.out.only (fun hHeld => ?_)
              clear hK
              refine wpAnyH_take (i := 17) (oi := _) (v := ?_) rfl (by kernel_rfl) (by kernel_rfl) (by kernel_rfl) (fun _ _ _ h => h) (Or.inl ⟨by kernel_rfl, ?_⟩) (by assumption) ?_
              rotate_left
              · intro w hSw
                have l0 := hSw.cell u0 HN4.out
                have l1 := hSw.cell u1 HN4.out
                have l2 := hSw.cell u2 HN4.out
                have l3 := hSw.cell u3 HN4.out
                have l4 := hSw.cell u4 HN4.out
                have l5 := hSw.cell u5 HN4.out
                have m0 := hSw.cell v0 HNP.out
                have m1 := hSw.cell v1 HNP.out
                have m2 := hSw.cell v2 HNP.out
                have m3 := hSw.cell v3 HNP.out
                have m4 := hSw.cell v4 HNP.out
                go_simp
                all_goals with_reducible rfl
              simp only [Act.put]
              refine wpAnyH_take (i := 18) (oi := _) (v := ?_) rfl (by kernel_rfl) (by kernel_rfl) (by kernel_rfl) (fun _ _ _ h => h) (Or.inl ⟨by kernel_rfl, ?_⟩) (by assumption) ?_
              rotate_left
              · intro w hSw
                have l0 := hSw.cell u0 HN4.out
                have l1 := hSw.cell u1 HN4.out
                have l2 := hSw.cell u2 HN4.out
                have l3 := hSw.cell u3 HN4.out
                have l4 := hSw.cell u4 HN4.out
                have l5 := hSw.cell u5 HN4.out
                have m0 := hSw.cell v0 HNP.out
                have m1 := hSw.cell v1 HNP.out
                have m2 := hSw.cell v2 HNP.out
                have m3 := hSw.cell v3 HNP.out
                have m4 := hSw.cell v4 HNP.out
                go_simp
                all_goals with_reducible rfl
              simp only [Act.put]
              refine wpAnyH_take (i := 19) (oi := _) (v := ?_) rfl (by kernel_rfl) (by kernel_rfl) (by kernel_rfl) (fun _ _ _ h => h) (Or.inl ⟨by kernel_rfl, ?_⟩) (by assumption) ?_
              rotate_left
              · intro w hSw
                have l0 := hSw.cell u0 HN4.out
                have l1 := hSw.cell u1 HN4.out
                have l2 := hSw.cell u2 HN4.out
                have l3 := hSw.cell u3 HN4.out
                have l4 := hSw.cell u4 HN4.out
                have l5 := hSw.cell u5 HN4.out
                have m0 := hSw.cell v0 HNP.out
                have m1 := hSw.cell v1 HNP.out
                have m2 := hSw.cell v2 HNP.out
                have m3 := hSw.cell v3 HNP.out
                have m4 := hSw.cell v4 HNP.out
                go_simp
                all_goals with_reducible rfl
              simp only [Act.put]
              refine wpAnyH_take (i := 20) (oi := _) (v := ?_) rfl (by kernel_rfl) (by kernel_rfl) (by kernel_rfl) (fun _ _ _ h => h) (Or.inl ⟨by kernel_rfl, ?_⟩) (by assumption) ?_
              rotate_left
              · intro w hSw
                have l0 := hSw.cell u0 HN4.out
                have l1 := hSw.cell u1 HN4.out
                have l2 := hSw.cell u2 HN4.out
                have l3 := hSw.cell u3 HN4.out
                have l4 := hSw.cell u4 HN4.out
                have l5 := hSw.cell u5 HN4.out
                have m0 := hSw.cell v0 HNP.out
                have m1 := hSw.cell v1 HNP.out
                have m2 := hSw.cell v2 HNP.out
                have m3 := hSw.cell v3 HNP.out
                have m4 := hSw.cell v4 HNP.out
                go_simp
                all_goals with_reducible rfl
              simp only [Act.put]
              refine wpAnyH_ready (rs := [21]) (by kernel_rfl) (by simp) ?_
              refine AllReadyH.cons (o := _) rfl (fun K hK => ?_) AllReadyH.nil
              go_simp
              refine (HI5.out.preC (x := y.x) (by rw [HD4.out.2]; exact HM.out) HPD.out.2.2 HDL.out HXZ.out HYB.out).mono ?_
              rintro _ x6 ⟨rfl, kk6, hi⟩
              have HI6 := hide hi
              clear hi
              go_wp2_with fail
              refine hK.out _ _ HI6.out.only (fun hHeld => ?_)
              clear hK
              refine wpAnyH_take (i := 22) (oi := _) (v := ?_) rfl (by kernel_rfl) (by kernel_rfl) (by kernel_rfl) (fun _ _ _ h => h) (Or.inl ⟨by kernel_rfl, ?_⟩) (by assumption) ?_
              rotate_left
              · intro w hSw
                have l0 := hSw.cell u0 HN4.out
                have l1 := hSw.cell u1 HN4.out
                have l2 := hSw.cell u2 HN4.out
                have l3 := hSw.cell u3 HN4.out
                have l4 := hSw.cell u4 HN4.out
                have l5 := hSw.cell u5 HN4.out
                have m0 := hSw.cell v0 HNP.out
                have m1 := hSw.cell v1 HNP.out
                have m2 := hSw.cell v2 HNP.out
                have m3 := hSw.cell v3 HNP.out
                have m4 := hSw.cell v4 HNP.out
                go_simp
                all_goals with_reducible rfl
              simp only [Act.put]
              refine wpAnyH_take (i := 23) (oi := _) (v := ?_) rfl (by kernel_rfl) (by kernel_rfl) (by kernel_rfl) (fun _ _ _ h => h) (Or.inl ⟨by kernel_rfl, ?_⟩) (by assumption) ?_
              rotate_left
              · intro w hSw
                have l0 := hSw.cell u0 HN4.out
                have l1 := hSw.cell u1 HN4.out
                have l2 := hSw.cell u2 HN4.out
                have l3 := hSw.cell u3 HN4.out
                have l4 := hSw.cell u4 HN4.out
                have l5 := hSw.cell u5 HN4.out
                have m0 := hSw.cell v0 HNP.out
                have m1 := hSw.cell v1 HNP.out
                have m2 := hSw.cell v2 HNP.out
                have m3 := hSw.cell v3 HNP.out
                have m4 := hSw.cell v4 HNP.out
                go_simp
                all_goals with_reducible rfl
              simp only [Act.put]
              refine wpAnyH_take (i := 24) (oi := _) (v := ?_) rfl (by kernel_rfl) (by kernel_rfl) (by kernel_rfl) (fun _ _ _ h => h) (Or.inl ⟨by kernel_rfl, ?_⟩) (by assumption) ?_
              rotate_left
              · intro w hSw
                have l0 := hSw.cell u0 HN4.out
                have l1 := hSw.cell u1 HN4.out
                have l2 := hSw.cell u2 HN4.out
                have l3 := hSw.cell u3 HN4.out
                have l4 := hSw.cell u4 HN4.out
                have l5 := hSw.cell u5 HN4.out
                have m0 := hSw.cell v0 HNP.out
                have m1 := hSw.cell v1 HNP.out
                have m2 := hSw.cell v2 HNP.out
                have m3 := hSw.cell v3 HNP.out
                have m4 := hSw.cell v4 HNP.out
                go_simp
                all_goals with_reducible rfl
              simp only [Act.put]
              refine wpAnyH_take (i := 25) (oi := _) (v := ?_) rfl (by kernel_rfl) (by kernel_rfl) (by kernel_rfl) (fun _ _ _ h => h) (Or.inl ⟨by kernel_rfl, ?_⟩) (by assumption) ?_
              rotate_left
              · intro w hSw
                have l0 := hSw.cell u0 HN4.out
                have l1 := hSw.cell u1 HN4.out
                have l2 := hSw.cell u2 HN4.out
                have l3 := hSw.cell u3 HN4.out
                have l4 := hSw.cell u4 HN4.out
                have l5 := hSw.cell u5 HN4.out
                have m0 := hSw.cell v0 HNP.out
                have m1 := hSw.cell v1 HNP.out
                have m2 := hSw.cell v2 HNP.out
                have m3 := hSw.cell v3 HNP.out
                have m4 := hSw.cell v4 HNP.out
                go_simp
                all_goals with_reducible rfl
              simp only [Act.put]
              refine wpAnyH_take (i := 26) (oi := _) (v := ?_) rfl (by kernel_rfl) (by kernel_rfl) (by kernel_rfl) (fun _ _ _ h => h) (Or.inl ⟨by kernel_rfl, ?_⟩) (by assumption) ?_
              rotate_left
              · intro w hSw
                have l0 := hSw.cell u0 HN4.out
                have l1 := hSw.cell u1 HN4.out
                have l2 := hSw.cell u2 HN4.out
                have l3 := hSw.cell u3 HN4.out
                have l4 := hSw.cell u4 HN4.out
                have l5 := hSw.cell u5 HN4.out
                have m0 := hSw.cell v0 HNP.out
                have m1 := hSw.cell v1 HNP.out
                have m2 := hSw.cell v2 HNP.out
                have m3 := hSw.cell v3 HNP.out
                have m4 := hSw.cell v4 HNP.out
                go_simp
                all_goals with_reducible rfl
              simp only [Act.put]
              refine wpAnyH_take (i := 27) (oi := _) (v := ?_) rfl (by kernel_rfl) (by kernel_rfl) (by kernel_rfl) (fun _ _ _ h => h) (Or.inl ⟨by kernel_rfl, ?_⟩) (by assumption) ?_
              rotate_left
              · intro w hSw
                have l0 := hSw.cell u0 HN4.out
                have l1 := hSw.cell u1 HN4.out
                have l2 := hSw.cell u2 HN4.out
                have l3 := hSw.cell u3 HN4.out
                have l4 := hSw.cell u4 HN4.out
                have l5 := hSw.cell u5 HN4.out
                have m0 := hSw.cell v0 HNP.out
                have m1 := hSw.cell v1 HNP.out
                have m2 := hSw.cell v2 HNP.out
                have m3 := hSw.cell v3 HNP.out
                have m4 := hSw.cell v4 HNP.out
                go_simp
                all_goals with_reducible rfl
              simp only [Act.put]
              refine wpAnyH_ready (rs := [28]) (by kernel_rfl) (by simp) ?_
              refine AllReadyH.cons (o := _) rfl (fun K hK => ?_) AllReadyH.nil
              go_simp
              refine (key_any).mono ?_
              rintro _ x7 ⟨rfl, b0⟩
              have HI7 := hide (HI6.out.later b0)
              clear b0
              go_wp2_with fail
              refine hK.out _ _ HI7.out.only (fun hHeld => ?_)
              clear hK
              refine wpAnyH_ready (rs := [29]) (by kernel_rfl) (by simp) ?_
              refine AllReadyH.cons (o := _) rfl (fun K hK => ?_) AllReadyH.nil
              go_simp
              refine (HI7.out.abortC HPD.out.1 HPD.out.2.1 HPD.out.2.2 HDL.out).mono ?_
              rintro _ x8 ⟨rfl, kk8, hi⟩
              have HI8 := hide hi
              clear hi
              go_wp2_with fail
              refine hK.out _ _ HI8.out.only (fun hHeld => ?_)
              clear hK
              refine wpAnyH_take (i := 30) (oi := _) (v := ?_) rfl (by kernel_rfl) (by kernel_rfl) (by kernel_rfl) (fun _ _ _ h => h) (Or.inl ⟨by kernel_rfl, ?_⟩) (by assumption) ?_
              rotate_left
              · intro w hSw
                have l0 := hSw.cell u0 HN4.out
                have l1 := hSw.cell u1 HN4.out
                have l2 := hSw.cell u2 HN4.out
                have l3 := hSw.cell u3 HN4.out
                have l4 := hSw.cell u4 HN4.out
                have l5 := hSw.cell u5 HN4.out
                have m0 := hSw.cell v0 HNP.out
                have m1 := hSw.cell v1 HNP.out
                have m2 := hSw.cell v2 HNP.out
                have m3 := hSw.cell v3 HNP.out
                have m4 := hSw.cell v4 HNP.out
                go_simp
                all_goals with_reducible rfl
              simp only [Act.put]
              refine wpAnyH_take (i := 31) (oi := _) (v := ?_) rfl (by kernel_rfl) (by kernel_rfl) (by kernel_rfl) (fun _ _ _ h => h) (Or.inl ⟨by kernel_rfl, ?_⟩) (by assumption) ?_
              rotate_left
              · intro w hSw
                have l0 := hSw.cell u0 HN4.out
                have l1 := hSw.cell u1 HN4.out
                have l2 := hSw.cell u2 HN4.out
                have l3 := hSw.cell u3 HN4.out
                have l4 := hSw.cell u4 HN4.out
                have l5 := hSw.cell u5 HN4.out
                have m0 := hSw.cell v0 HNP.out
                have m1 := hSw.cell v1 HNP.out
                have m2 := hSw.cell v2 HNP.out
                have m3 := hSw.cell v3 HNP.out
                have m4 := hSw.cell v4 HNP.out
                go_simp
                all_goals with_reducible rfl
              simp only [Act.put]
              refine wpAnyH_take (i := 32) (oi := _) (v := ?_) rfl (by kernel_rfl) (by kernel_rfl) (by kernel_rfl) (fun _ _ _ h => h) (Or.inl ⟨by kernel_rfl, ?_⟩) (by assumption) ?_
              rotate_left
              · intro w hSw
                have l0 := hSw.cell u0 HN4.out
                have l1 := hSw.cell u1 HN4.out
                have l2 := hSw.cell u2 HN4.out
                have l3 := hSw.cell u3 HN4.out
                have l4 := hSw.cell u4 HN4.out
                have l5 := hSw.cell u5 HN4.out
                have m0 := hSw.cell v0 HNP.out
                have m1 := hSw.cell v1 HNP.out
                have m2 := hSw.cell v2 HNP.out
                have m3 := hSw.cell v3 HNP.out
                have m4 := hSw.cell v4 HNP.out
                go_simp
                all_goals with_reducible rfl
              simp only [Act.put]
              refine wpAnyH_take (i := 33) (oi := _) (v := ?_) rfl (by kernel_rfl) (by kernel_rfl) (by kernel_rfl) (fun _ _ _ h => h) (Or.inl ⟨by kernel_rfl, ?_⟩) (by assumption) ?_
              rotate_left
              · intro w hSw
                have l0 := hSw.cell u0 HN4.out
                have l1 := hSw.cell u1 HN4.out
                have l2 := hSw.cell u2 HN4.out
                have l3 := hSw.cell u3 HN4.out
                have l4 := hSw.cell u4 HN4.out
                have l5 := hSw.cell u5 HN4.out
                have m0 := hSw.cell v0 HNP.out
                have m1 := hSw.cell v1 HNP.out
                have m2 := hSw.cell v2 HNP.out
                have m3 := hSw.cell v3 HNP.out
                have m4 := hSw.cell v4 HNP.out
                go_simp
                all_goals with_reducible rfl
              simp only [Act.put]
              refine wpAnyH_take (i := 35) (oi := _) (v := ?_) rfl (by kernel_rfl) (by kernel_rfl) (by kernel_rfl) (fun _ _ _ h => h) (Or.inl ⟨by kernel_rfl, ?_⟩) (by assumption) ?_
              rotate_left
              · intro w hSw
                have l0 := hSw.cell u0 HN4.out
                have l1 := hSw.cell u1 HN4.out
                have l2 := hSw.cell u2 HN4.out
                have l3 := hSw.cell u3 HN4.out
                have l4 := hSw.cell u4 HN4.out
                have l5 := hSw.cell u5 HN4.out
                have m0 := hSw.cell v0 HNP.out
                have m1 := hSw.cell v1 HNP.out
                have m2 := hSw.cell v2 HNP.out
                have m3 := hSw.cell v3 HNP.out
                have m4 := hSw.cell v4 HNP.out
                go_simp
                all_goals with_reducible rfl
              simp only [Act.put]
              refine wpAnyH_ready (rs := [34]) (by kernel_rfl) (by simp) ?_
              refine AllReadyH.cons (o := _) rfl (fun K hK => ?_) AllReadyH.nil
              go_simp
              refine (HI8.out.plainC HDL.out).mono ?_
              rintro _ x9 ⟨q2, rfl, hq2, hqs2, b0⟩
              have HI9 := hide (HI8.out.later b0)
              clear b0
              have HQ2 := hide hq2
              have HQS2 := hide hqs2
              clear hq2 hqs2
              go_wp2_with fail
              refine hK.out _ _ HI9.out.only (fun hHeld => ?_)
              clear hK
              refine wpAnyH_ready (rs := [36]) (by kernel_rfl) (by simp) ?_
              refine AllReadyH.cons (o := _) rfl (fun K hK => ?_) AllReadyH.nil
              go_simp
              refine (rsame_yes (q1 := q2) (q2 := q) HQ2.out.vis (HQZ.out.only HI9.out.only HK4L.out).vis (HQS2.out.trans HQS.out.symm)).mono ?_
              rintro _ x10 ⟨rfl, b0⟩
              have HI10 := hide (HI9.out.later b0)
              clear b0
              go_wp2_with fail
              refine hK.out _ _ HI10.out.only (fun hHeld => ?_)
              clear hK
              refine wpAnyH_take (i := 37) (oi := _) (v := ?_) rfl (by kernel_rfl) (by kernel_rfl) (by kernel_rfl) (fun _ _ _ h => h) (Or.inl ⟨by kernel_rfl, ?_⟩) (by assumption) ?_
              rotate_left
              · intro w hSw
                have l0 := hSw.cell u0 HN4.out
                have l1 := hSw.cell u1 HN4.out
                have l2 := hSw.cell u2 HN4.out
                have l3 := hSw.cell u3 HN4.out
                have l4 := hSw.cell u4 HN4.out
                have l5 := hSw.cell u5 HN4.out
                have m0 := hSw.cell v0 HNP.out
                have m1 := hSw.cell v1 HNP.out
                have m2 := hSw.cell v2 HNP.out
                have m3 := hSw.cell v3 HNP.out
                have m4 := hSw.cell v4 HNP.out
                go_simp
                all_goals with_reducible rfl
              simp only [Act.put]
              refine wpAnyH_ready (rs := [38]) (by kernel_rfl) (by simp) ?_
              refine AllReadyH.cons (o := _) rfl (fun K hK => ?_) AllReadyH.nil
              go_simp
              refine hK.out _ _ HI10.out.only (fun hHeld => ?_)
              clear hK
              refine wpAnyH_done (by kernel_rfl) ?_ _
              have HKE2 : Hid (kk8.b = k.b) := hide (HI10.out.b.trans HK4.out)
              have HPE := hide HI10.out.ps
              have HDE : Hid (kk8.done.length ≤ j + 1 ∧ kk8.vec.length = 2) := hide (by rw [HI10.out.doneLen, HI10.out.vecLen]; exact HD4.out)
              have HBE : Hid (Below w0.heap.size w0 x10) := hide (HBZ.out.trans (HI10.out.only.below HBZ.out.size (fun i hi => (HP4.out.lt hi).1)))
              clear u0 u1 u2 u3 u4 u5 v0 v1 v2 v3 v4
              rw [HK4.out]
              go_wp2
              exact ⟨⟨j + 1, kk8, hlt9, by first | rfl | go_num, HKE2, HPE, HDE, HBE⟩, by simp [intOf]; omega⟩
            · have HM := hide hm
              clear hm
              refine wp_region_held_drew (S := fun w9 => Only k4.blk Z w9) (by kernel_rfl) HI0.out.only (fun hHeld => ?_)
              refine wpAnyH_take (i := 0) (oi := _) (v := ?_) rfl (by kernel_rfl) (by kernel_rfl) (by kernel_rfl) (fun _ _ _ h => h) (Or.inl ⟨by kernel_rfl, ?_⟩) (by assumption) ?_
              rotate_left
              · intro w hSw
                have l0 := hSw.cell u0 HN4.out
                have l1 := hSw.cell u1 HN4.out
                have l2 := hSw.cell u2 HN4.out
                have l3 := hSw.cell u3 HN4.out
                have l4 := hSw.cell u4 HN4.out
                have l5 := hSw.cell u5 HN4.out
                have m0 := hSw.cell v0 HNP.out
                have m1 := hSw.cell v1 HNP.out
                have m2 := hSw.cell v2 HNP.out
                have m3 := hSw.cell v3 HNP.out
                have m4 := hSw.cell v4 HNP.out
                go_simp
                all_goals with_reducible rfl
              simp only [Act.put]
              refine wpAnyH_take (i := 1) (oi := _) (v := ?_) rfl (by kernel_rfl) (by kernel_rfl) (by kernel_rfl) (fun _ _ _ h => h) (Or.inl ⟨by kernel_rfl, ?_⟩) (by assumption) ?_
              rotate_left
              · intro w hSw
                have l0 := hSw.cell u0 HN4.out
                have l1 := hSw.cell u1 HN4.out
                have l2 := hSw.cell u2 HN4.out
                have l3 := hSw.cell u3 HN4.out
                have l4 := hSw.cell u4 HN4.out
                have l5 := hSw.cell u5 HN4.out
                have m0 := hSw.cell v0 HNP.out
                have m1 := hSw.cell v1 HNP.out
                have m2 := hSw.cell v2 HNP.out
                have m3 := hSw.cell v3 HNP.out
                have m4 := hSw.cell v4 HNP.out
                go_simp
                all_goals with_reducible rfl
              simp only [Act.put]
              refine wpAnyH_ready (rs := [2]) (by kernel_rfl) (by simp) ?_
              refine AllReadyH.cons (o := _) rfl (fun K hK => ?_) AllReadyH.nil
              go_simp
              refine (key_any).mono ?_
              rintro _ x1 ⟨rfl, b0⟩
              have HI1 := hide (HI0.out.later b0)
              clear b0
              go_wp2_with fail
              refine hK.out _ _ HI1.out.only (fun hHeld => ?_)
              clear hK
              refine wpAnyH_ready (rs := [3]) (by kernel_rfl) (by simp) ?_
              refine AllReadyH.cons (o := _) rfl (fun K hK => ?_) AllReadyH.nil
              go_simp
              refine (HI1.out.doneC HPD.out.2.2 HDL.out).mono ?_
              rintro _ x2 ⟨rfl, b0⟩
              have HI2 := hide (HI1.out.later b0)
              clear b0
              go_wp2_with fail
              refine hK.out _ _ HI2.out.only (fun hHeld => ?_)
              clear hK
              refine wpAnyH_take (i := 4) (oi := _) (v := ?_) rfl (by kernel_rfl) (by kernel_rfl) (by kernel_rfl) (fun _ _ _ h => h) (Or.inl ⟨by kernel_rfl, ?_⟩) (by assumption) ?_
              rotate_left
              · intro w hSw
                have l0 := hSw.cell u0 HN4.out
                have l1 := hSw.cell u1 HN4.out
                have l2 := hSw.cell u2 HN4.out
                have l3 := hSw.cell u3 HN4.out
                have l4 := hSw.cell u4 HN4.out
                have l5 := hSw.cell u5 HN4.out
                have m0 := hSw.cell v0 HNP.out
                have m1 := hSw.cell v1 HNP.out
                have m2 := hSw.cell v2 HNP.out
                have m3 := hSw.cell v3 HNP.out
                have m4 := hSw.cell v4 HNP.out
                go_simp
                all_goals with_reducible rfl
              simp only [Act.put]
              refine wpAnyH_take (i := 5) (oi := _) (v := ?_) rfl (by kernel_rfl) (by kernel_rfl) (by kernel_rfl) (fun _ _ _ h => h) (Or.inl ⟨by kernel_rfl, ?_⟩) (by assumption) ?_
              rotate_left
              · intro w hSw
                have l0 := hSw.cell u0 HN4.out
                have l1 := hSw.cell u1 HN4.out
                have l2 := hSw.cell u2 HN4.out
                have l3 := hSw.cell u3 HN4.out
                have l4 := hSw.cell u4 HN4.out
                have l5 := hSw.cell u5 HN4.out
                have m0 := hSw.cell v0 HNP.out
                have m1 := hSw.cell v1 HNP.out
                have m2 := hSw.cell v2 HNP.out
                have m3 := hSw.cell v3 HNP.out
                have m4 := hSw.cell v4 HNP.out
                go_simp
                all_goals with_reducible rfl
              simp only [Act.put]
              refine wpAnyH_take (i := 6) (oi := _) (v := ?_) rfl (by kernel_rfl) (by kernel_rfl) (by kernel_rfl) (fun _ _ _ h => h) (Or.inl ⟨by kernel_rfl, ?_⟩) (by assumption) ?_
              rotate_left
              · intro w hSw
                have l0 := hSw.cell u0 HN4.out
                have l1 := hSw.cell u1 HN4.out
                have l2 := hSw.cell u2 HN4.out
                have l3 := hSw.cell u3 HN4.out
                have l4 := hSw.cell u4 HN4.out
                have l5 := hSw.cell u5 HN4.out
                have m0 := hSw.cell v0 HNP.out
                have m1 := hSw.cell v1 HNP.out
                have m2 := hSw.cell v2 HNP.out
                have m3 := hSw.cell v3 HNP.out
                have m4 := hSw.cell v4 HNP.out
                go_simp
                all_goals with_reducible rfl
              simp only [Act.put]
              refine wpAnyH_take (i := 7) (oi := _) (v := ?_) rfl (by kernel_rfl) (by kernel_rfl) (by kernel_rfl) (fun _ _ _ h => h) (Or.inl ⟨by kernel_rfl, ?_⟩) (by assumption) ?_
              rotate_left
              · intro w hSw
                have l0 := hSw.cell u0 HN4.out
                have l1 := hSw.cell u1 HN4.out
                have l2 := hSw.cell u2 HN4.out
                have l3 := hSw.cell u3 HN4.out
                have l4 := hSw.cell u4 HN4.out
                have l5 := hSw.cell u5 HN4.out
                have m0 := hSw.cell v0 HNP.out
                have m1 := hSw.cell v1 HNP.out
                have m2 := hSw.cell v2 HNP.out
                have m3 := hSw.cell v3 HNP.out
                have m4 := hSw.cell v4 HNP.out
                go_simp
                all_goals with_reducible rfl
              simp only [Act.put]
              refine wpAnyH_ready (rs := [8]) (by kernel_rfl) (by simp) ?_
              refine AllReadyH.cons (o := _) rfl (fun K hK => ?_) AllReadyH.nil
              go_simp
              refine (key_any).mono ?_
              rintro _ x3 ⟨rfl, b0⟩
              have HI3 := hide (HI2.out.later b0)
              clear b0
              go_wp2_with fail
              refine hK.out _ _ HI3.out.only (fun hHeld => ?_)
              clear hK
              refine wpAnyH_ready (rs := [9]) (by kernel_rfl) (by simp) ?_
              refine AllReadyH.cons (o := _) rfl (fun K hK => ?_) AllReadyH.nil
              go_simp
              refine (HI3.out.commitC HPD.out.1 HPD.out.2.1 HPD.out.2.2 HDL.out).mono ?_
              rintro _ x4 ⟨rfl, kk4, hi⟩
              have HI4 := hide hi
              clear hi
              go_wp2_with fail
              refine hK.out _ _ HI4.out.only (fun hHeld => ?_)
              clear hK
              refine wpAnyH_take (i := 10) (oi := _) (v := ?_) rfl (by kernel_rfl) (by kernel_rfl) (by kernel_rfl) (fun _ _ _ h => h) (Or.inl ⟨by kernel_rfl, ?_⟩) (by assumption) ?_
              rotate_left
              · intro w hSw
                have l0 := hSw.cell u0 HN4.out
                have l1 := hSw.cell u1 HN4.out
                have l2 := hSw.cell u2 HN4.out
                have l3 := hSw.cell u3 HN4.out
                have l4 := hSw.cell u4 HN4.out
                have l5 := hSw.cell u5 HN4.out
                have m0 := hSw.cell v0 HNP.out
                have m1 := hSw.cell v1 HNP.out
                have m2 := hSw.cell v2 HNP.out
                have m3 := hSw.cell v3 HNP.out
                have m4 := hSw.cell v4 HNP.out
                go_simp
                all_goals with_reducible rfl
              simp only [Act.put]
              refine wpAnyH_take (i := 11) (oi := _) (v := ?_) rfl (by kernel_rfl) (by kernel_rfl) (by kernel_rfl) (fun _ _ _ h => h) (Or.inl ⟨by kernel_rfl, ?_⟩) (by assumption) ?_
              rotate_left
              · intro w hSw
                have l0 := hSw.cell u0 HN4.out
                have l1 := hSw.cell u1 HN4.out
                have l2 := hSw.cell u2 HN4.out
                have l3 := hSw.cell u3 HN4.out
                have l4 := hSw.cell u4 HN4.out
                have l5 := hSw.cell u5 HN4.out
                have m0 := hSw.cell v0 HNP.out
                have m1 := hSw.cell v1 HNP.out
                have m2 := hSw.cell v2 HNP.out
                have m3 := hSw.cell v3 HNP.out
                have m4 := hSw.cell v4 HNP.out
                go_simp
                all_goals with_reducible rfl
              simp only [Act.put]
              refine wpAnyH_take (i := 12) (oi := _) (v := ?_) rfl (by kernel_rfl) (by kernel_rfl) (by kernel_rfl) (fun _ _ _ h => h) (Or.inl ⟨by kernel_rfl, ?_⟩) (by assumption) ?_
              rotate_left
              · intro w hSw
                have l0 := hSw.cell u0 HN4.out
                have l1 := hSw.cell u1 HN4.out
                have l2 := hSw.cell u2 HN4.out
                have l3 := hSw.cell u3 HN4.out
                have l4 := hSw.cell u4 HN4.out
                have l5 := hSw.cell u5 HN4.out
                have m0 := hSw.cell v0 HNP.out
                have m1 := hSw.cell v1 HNP.out
                have m2 := hSw.cell v2 HNP.out
                have m3 := hSw.cell v3 HNP.out
                have m4 := hSw.cell v4 HNP.out
                go_simp
                all_goals with_reducible rfl
              simp only [Act.put]
              refine wpAnyH_take (i := 13) (oi := _) (v := ?_) rfl (by kernel_rfl) (by kernel_rfl) (by kernel_rfl) (fun _ _ _ h => h) (Or.inl ⟨by kernel_rfl, ?_⟩) (by assumption) ?_
              rotate_left
              · intro w hSw
                have l0 := hSw.cell u0 HN4.out
                have l1 := hSw.cell u1 HN4.out
                have l2 := hSw.cell u2 HN4.out
                have l3 := hSw.cell u3 HN4.out
                have l4 := hSw.cell u4 HN4.out
                have l5 := hSw.cell u5 HN4.out
                have m0 := hSw.cell v0 HNP.out
                have m1 := hSw.cell v1 HNP.out
                have m2 := hSw.cell v2 HNP.out
                have m3 := hSw.cell v3 HNP.out
                have m4 := hSw.cell v4 HNP.out
                go_simp
                all_goals with_reducible rfl
              simp only [Act.put]
              refine wpAnyH_take (i := 14) (oi := _) (v := ?_) rfl (by kernel_rfl) (by kernel_rfl) (by kernel_rfl) (fun _ _ _ h => h) (Or.inl ⟨by kernel_rfl, ?_⟩) (by assumption) ?_
              rotate_left
              · intro w hSw
                have l0 := hSw.cell u0 HN4.out
                have l1 := hSw.cell u1 HN4.out
                have l2 := hSw.cell u2 HN4.out
                have l3 := hSw.cell u3 HN4.out
                have l4 := hSw.cell u4 HN4.out
                have l5 := hSw.cell u5 HN4.out
                have m0 := hSw.cell v0 HNP.out
                have m1 := hSw.cell v1 HNP.out
                have m2 := hSw.cell v2 HNP.out
                have m3 := hSw.cell v3 HNP.out
                have m4 := hSw.cell v4 HNP.out
                go_simp
                all_goals with_reducible rfl
              simp only [Act.put]
              refine wpAnyH_take (i := 15) (oi := _) (v := ?_) rfl (by kernel_rfl) (by kernel_rfl) (by kernel_rfl) (fun _ _ _ h => h) (Or.inl ⟨by kernel_rfl, ?_⟩) (by assumption) ?_
              rotate_left
              · intro w hSw
                have l0 := hSw.cell u0 HN4.out
                have l1 := hSw.cell u1 HN4.out
                have l2 := hSw.cell u2 HN4.out
                have l3 := hSw.cell u3 HN4.out
                have l4 := hSw.cell u4 HN4.out
                have l5 := hSw.cell u5 HN4.out
                have m0 := hSw.cell v0 HNP.out
                have m1 := hSw.cell v1 HNP.out
                have m2 := hSw.cell v2 HNP.out
                have m3 := hSw.cell v3 HNP.out
                have m4 := hSw.cell v4 HNP.out
                go_simp
                all_goals with_reducible rfl
              simp only [Act.put]
              refine wpAnyH_ready (rs := [16]) (by kernel_rfl) (by simp) ?_
              refine AllReadyH.cons (o := _) rfl (fun K hK => ?_) AllReadyH.nil
              go_simp
              refine (rMay_any (HI4.out.only.cell HRB.out HNR.out) (HXZ.out.only HI4.out.only (fun i hi => (HYB.out i hi).1)).v rfl rfl (decide_eq_false HM.out)).mono ?_
              rintro _ x5 ⟨rfl, b0⟩
              have HI5 := hide (HI4.out.later b0)
              clear b0
              go_wp2_with fail
              refine hK.out _ _ HI5.out.only (fun hHeld => ?_)
              clear hK
              refine wpAnyH_take (i := 17) (oi := _) (v := ?_) rfl (by kernel_rfl) (by kernel_rfl) (by kernel_rfl) (fun _ _ _ h => h) (Or.inl ⟨by kernel_rfl, ?_⟩) (by assumption) ?_
              rotate_left
              · intro w hSw
                have l0 := hSw.cell u0 HN4.out
                have l1 := hSw.cell u1 HN4.out
                have l2 := hSw.cell u2 HN4.out
                have l3 := hSw.cell u3 HN4.out
                have l4 := hSw.cell u4 HN4.out
                have l5 := hSw.cell u5 HN4.out
                have m0 := hSw.cell v0 HNP.out
                have m1 := hSw.cell v1 HNP.out
                have m2 := hSw.cell v2 HNP.out
                have m3 := hSw.cell v3 HNP.out
                have m4 := hSw.cell v4 HNP.out
                go_simp
                all_goals with_reducible rfl
              simp only [Act.put]
              refine wpAnyH_take (i := 18) (oi := _) (v := undef) rfl (by kernel_rfl) (by kernel_rfl) (by kernel_rfl) (fun _ _ _ h => h) (Or.inr ⟨by kernel_rfl, rfl⟩) (by assumption) ?_
              simp only [Act.put]
              refine wpAnyH_take (i := 19) (oi := _) (v := undef) rfl (by kernel_rfl) (by kernel_rfl) (by kernel_rfl) (fun _ _ _ h => h) (Or.inr ⟨by kernel_rfl, rfl⟩) (by assumption) ?_
              simp only [Act.put]
              refine wpAnyH_take (i := 20) (oi := _) (v := undef) rfl (by kernel_rfl) (by kernel_rfl) (by kernel_rfl) (fun _ _ _ h => h) (Or.inr ⟨by kernel_rfl, rfl⟩) (by assumption) ?_
              simp only [Act.put]
              refine wpAnyH_take (i := 21) (oi := _) (v := undef) rfl (by kernel_rfl) (by kernel_rfl) (by kernel_rfl) (fun _ _ _ h => h) (Or.inr ⟨by kernel_rfl, rfl⟩) (by assumption) ?_
              simp only [Act.put]
              refine wpAnyH_take (i := 22) (oi := _) (v := undef) rfl (by kernel_rfl) (by kernel_rfl) (by kernel_rfl) (fun _ _ _ h => h) (Or.inr ⟨by kernel_rfl, rfl⟩) (by assumption) ?_
              simp only [Act.put]
              refine wpAnyH_take (i := 23) (oi := _) (v := ?_) rfl (by kernel_rfl) (by kernel_rfl) (by kernel_rfl) (fun _ _ _ h => h) (Or.inl ⟨by kernel_rfl, ?_⟩) (by assumption) ?_
              rotate_left
              · intro w hSw
                have l0 := hSw.cell u0 HN4.out
                have l1 := hSw.cell u1 HN4.out
                have l2 := hSw.cell u2 HN4.out
                have l3 := hSw.cell u3 HN4.out
                have l4 := hSw.cell u4 HN4.out
                have l5 := hSw.cell u5 HN4.out
                have m0 := hSw.cell v0 HNP.out
                have m1 := hSw.cell v1 HNP.out
                have m2 := hSw.cell v2 HNP.out
                have m3 := hSw.cell v3 HNP.out
                have m4 := hSw.cell v4 HNP.out
                go_simp
                all_goals with_reducible rfl
              simp only [Act.put]
              refine wpAnyH_take (i := 24) (oi := _) (v := ?_) rfl (by kernel_rfl) (by kernel_rfl) (by kernel_rfl) (fun _ _ _ h => h) (Or.inl ⟨by kernel_rfl, ?_⟩) (by assumption) ?_
              rotate_left
              · intro w hSw
                have l0 := hSw.cell u0 HN4.out
                have l1 := hSw.cell u1 HN4.out
                have l2 := hSw.cell u2 HN4.out
                have l3 := hSw.cell u3 HN4.out
                have l4 := hSw.cell u4 HN4.out
                have l5 := hSw.cell u5 HN4.out
                have m0 := hSw.cell v0 HNP.out
                have m1 := hSw.cell v1 HNP.out
                have m2 := hSw.cell v2 HNP.out
                have m3 := hSw.cell v3 HNP.out
                have m4 := hSw.cell v4 HNP.out
                go_simp
                all_goals with_reducible rfl
              simp only [Act.put]
              refine wpAnyH_take (i := 25) (oi := _) (v := ?_) rfl (by kernel_rfl) (by kernel_rfl) (by kernel_rfl) (fun _ _ _ h => h) (Or.inl ⟨by kernel_rfl, ?_⟩) (by assumption) ?_
              rotate_left
              · intro w hSw
                have l0 := hSw.cell u0 HN4.out
                have l1 := hSw.cell u1 HN4.out
                have l2 := hSw.cell u2 HN4.out
                have l3 := hSw.cell u3 HN4.out
                have l4 := hSw.cell u4 HN4.out
                have l5 := hSw.cell u5 HN4.out
                have m0 := hSw.cell v0 HNP.out
                have m1 := hSw.cell v1 HNP.out
                have m2 := hSw.cell v2 HNP.out
                have m3 := hSw.cell v3 HNP.out
                have m4 := hSw.cell v4 HNP.out
                go_simp
                all_goals with_reducible rfl
              simp only [Act.put]
              refine wpAnyH_take (i := 26) (oi := _) (v := ?_) rfl (by kernel_rfl) (by kernel_rfl) (by kernel_rfl) (fun _ _ _ h => h) (Or.inl ⟨by kernel_rfl, ?_⟩) (by assumption) ?_
              rotate_left
              · intro w hSw
                have l0 := hSw.cell u0 HN4.out
                have l1 := hSw.cell u1 HN4.out
                have l2 := hSw.cell u2 HN4.out
                have l3 := hSw.cell u3 HN4.out
                have l4 := hSw.cell u4 HN4.out
                have l5 := hSw.cell u5 HN4.out
                have m0 := hSw.cell v0 HNP.out
                have m1 := hSw.cell v1 HNP.out
                have m2 := hSw.cell v2 HNP.out
                have m3 := hSw.cell v3 HNP.out
                have m4 := hSw.cell v4 HNP.out
                go_simp
                all_goals with_reducible rfl
              simp only [Act.put]
              refine wpAnyH_take (i := 27) (oi := _) (v := ?_) rfl (by kernel_rfl) (by kernel_rfl) (by kernel_rfl) (fun _ _ _ h => h) (Or.inl ⟨by kernel_rfl, ?_⟩) (by assumption) ?_
              rotate_left
              · intro w hSw
                have l0 := hSw.cell u0 HN4.out
                have l1 := hSw.cell u1 HN4.out
                have l2 := hSw.cell u2 HN4.out
                have l3 := hSw.cell u3 HN4.out
                have l4 := hSw.cell u4 HN4.out
                have l5 := hSw.cell u5 HN4.out
                have m0 := hSw.cell v0 HNP.out
                have m1 := hSw.cell v1 HNP.out
                have m2 := hSw.cell v2 HNP.out
                have m3 := hSw.cell v3 HNP.out
                have m4 := hSw.cell v4 HNP.out
                go_simp
                all_goals with_reducible rfl
              simp only [Act.put]
              refine wpAnyH_ready (rs := [28]) (by kernel_rfl) (by simp) ?_
              refine AllReadyH.cons (o := _) rfl (fun K hK => ?_) AllReadyH.nil
              go_simp
              refine (key_any).mono ?_
              rintro _ x6 ⟨rfl, b0⟩
              have HI6 := hide (HI5.out.later b0)
              clear b0
              go_wp2_with fail
              refine hK.out _ _ HI6.out.only (fun hHeld => ?_)
              clear hK
              refine wpAnyH_ready (rs := [29]) (by kernel_rfl) (by simp) ?_
              refine AllReadyH.cons (o := _) rfl (fun K hK => ?_) AllReadyH.nil
              go_simp
              refine (HI6.out.abortC HPD.out.1 HPD.out.2.1 HPD.out.2.2 HDL.out).mono ?_
              rintro _ x7 ⟨rfl, kk7, hi⟩
              have HI7 := hide hi
              clear hi
              go_wp2_with fail
              refine hK.out _ _ HI7.out.only (fun hHeld => ?_)
              clear hK
              refine wpAnyH_take (i := 30) (oi := _) (v := ?_) rfl (by kernel_rfl) (by kernel_rfl) (by kernel_rfl) (fun _ _ _ h => h) (Or.inl ⟨by kernel_rfl, ?_⟩) (by assumption) ?_
              rotate_left
              · intro w hSw
                have l0 := hSw.cell u0 HN4.out
                have l1 := hSw.cell u1 HN4.out
                have l2 := hSw.cell u2 HN4.out
                have l3 := hSw.cell u3 HN4.out
                have l4 := hSw.cell u4 HN4.out
                have l5 := hSw.cell u5 HN4.out
                have m0 := hSw.cell v0 HNP.out
                have m1 := hSw.cell v1 HNP.out
                have m2 := hSw.cell v2 HNP.out
                have m3 := hSw.cell v3 HNP.out
                have m4 := hSw.cell v4 HNP.out
                go_simp
                all_goals with_reducible rfl
              simp only [Act.put]
              refine wpAnyH_take (i := 31) (oi := _) (v := ?_) rfl (by kernel_rfl) (by kernel_rfl) (by kernel_rfl) (fun _ _ _ h => h) (Or.inl ⟨by kernel_rfl, ?_⟩) (by assumption) ?_
              rotate_left
              · intro w hSw
                have l0 := hSw.cell u0 HN4.out
                have l1 := hSw.cell u1 HN4.out
                have l2 := hSw.cell u2 HN4.out
                have l3 := hSw.cell u3 HN4.out
                have l4 := hSw.cell u4 HN4.out
                have l5 := hSw.cell u5 HN4.out
                have m0 := hSw.cell v0 HNP.out
                have m1 := hSw.cell v1 HNP.out
                have m2 := hSw.cell v2 HNP.out
                have m3 := hSw.cell v3 HNP.out
                have m4 := hSw.cell v4 HNP.out
                go_simp
                all_goals with_reducible rfl
              simp only [Act.put]
              refine wpAnyH_take (i := 32) (oi := _) (v := ?_) rfl (by kernel_rfl) (by kernel_rfl) (by kernel_rfl) (fun _ _ _ h => h) (Or.inl ⟨by kernel_rfl, ?_⟩) (by assumption) ?_
              rotate_left
              · intro w hSw
                have l0 := hSw.cell u0 HN4.out
                have l1 := hSw.cell u1 HN4.out
                have l2 := hSw.cell u2 HN4.out
                have l3 := hSw.cell u3 HN4.out
                have l4 := hSw.cell u4 HN4.out
                have l5 := hSw.cell u5 HN4.out
                have m0 := hSw.cell v0 HNP.out
                have m1 := hSw.cell v1 HNP.out
                have m2 := hSw.cell v2 HNP.out
                have m3 := hSw.cell v3 HNP.out
                have m4 := hSw.cell v4 HNP.out
                go_simp
                all_goals with_reducible rfl
              simp only [Act.put]
              refine wpAnyH_take (i := 33) (oi := _) (v := ?_) rfl (by kernel_rfl) (by kernel_rfl) (by kernel_rfl) (fun _ _ _ h => h) (Or.inl ⟨by kernel_rfl, ?_⟩) (by assumption) ?_
              rotate_left
              · intro w hSw
                have l0 := hSw.cell u0 HN4.out
                have l1 := hSw.cell u1 HN4.out
                have l2 := hSw.cell u2 HN4.out
                have l3 := hSw.cell u3 HN4.out
                have l4 := hSw.cell u4 HN4.out
                have l5 := hSw.cell u5 HN4.out
                have m0 := hSw.cell v0 HNP.out
                have m1 := hSw.cell v1 HNP.out
                have m2 := hSw.cell v2 HNP.out
                have m3 := hSw.cell v3 HNP.out
                have m4 := hSw.cell v4 HNP.out
                go_simp
                all_goals with_reducible rfl
              simp only [Act.put]
              refine wpAnyH_take (i := 35) (oi := _) (v := ?_) rfl (by kernel_rfl) (by kernel_rfl) (by kernel_rfl) (fun _ _ _ h => h) (Or.inl ⟨by kernel_rfl, ?_⟩) (by assumption) ?_
              rotate_left
              · intro w hSw
                have l0 := hSw.cell u0 HN4.out
                have l1 := hSw.cell u1 HN4.out
                have l2 := hSw.cell u2 HN4.out
                have l3 := hSw.cell u3 HN4.out
                have l4 := hSw.cell u4 HN4.out
                have l5 := hSw.cell u5 HN4.out
                have m0 := hSw.cell v0 HNP.out
                have m1 := hSw.cell v1 HNP.out
                have m2 := hSw.cell v2 HNP.out
                have m3 := hSw.cell v3 HNP.out
                have m4 := hSw.cell v4 HNP.out
                go_simp
                all_goals with_reducible rfl
              simp only [Act.put]
              refine wpAnyH_ready (rs := [34]) (by kernel_rfl) (by simp) ?_
              refine AllReadyH.cons (o := _) rfl (fun K hK => ?_) AllReadyH.nil
              go_simp
              refine (HI7.out.plainC HDL.out).mono ?_
              rintro _ x8 ⟨q2, rfl, hq2, hqs2, b0⟩
              have HI8 := hide (HI7.out.later b0)
              clear b0
              have HQ2 := hide hq2
              have HQS2 := hide hqs2
              clear hq2 hqs2
              go_wp2_with fail
              refine hK.out _ _ HI8.out.only (fun hHeld => ?_)
              clear hK
              refine wpAnyH_ready (rs := [36]) (by kernel_rfl) (by simp) ?_
              refine AllReadyH.cons (o := _) rfl (fun K hK => ?_) AllReadyH.nil
              go_simp
              refine (rsame_yes (q1 := q2) (q2 := q) HQ2.out.vis (HQZ.out.only HI8.out.only HK4L.out).vis (HQS2.out.trans HQS.out.symm)).mono ?_
              rintro _ x9 ⟨rfl, b0⟩
              have HI9 := hide (HI8.out.later b0)
              clear b0
              go_wp2_with fail
              refine hK.out _ _ HI9.out.only (fun hHeld => ?_)
              clear hK
              refine wpAnyH_take (i := 37) (oi := _) (v := ?_) rfl (by kernel_rfl) (by kernel_rfl) (by kernel_rfl) (fun _ _ _ h => h) (Or.inl ⟨by kernel_rfl, ?_⟩) (by assumption) ?_
              rotate_left
              · intro w hSw
                have l0 := hSw.cell u0 HN4.out
                have l1 := hSw.cell u1 HN4.out
                have l2 := hSw.cell u2 HN4.out
                have l3 := hSw.cell u3 HN4.out
                have l4 := hSw.cell u4 HN4.out
                have l5 := hSw.cell u5 HN4.out
                have m0 := hSw.cell v0 HNP.out
                have m1 := hSw.cell v1 HNP.out
                have m2 := hSw.cell v2 HNP.out
                have m3 := hSw.cell v3 HNP.out
                have m4 := hSw.cell v4 HNP.out
                go_simp
                all_goals with_reducible rfl
              simp only [Act.put]
              refine wpAnyH_ready (rs := [38]) (by kernel_rfl) (by simp) ?_
              refine AllReadyH.cons (o := _) rfl (fun K hK => ?_) AllReadyH.nil
              go_simp
              refine hK.out _ _ HI9.out.only (fun hHeld => ?_)
              clear hK
              refine wpAnyH_done (by kernel_rfl) ?_ _
              have HKE2 : Hid (kk7.b = k.b) := hide (HI9.out.b.trans HK4.out)
              have HPE := hide HI9.out.ps
              have HDE : Hid (kk7.done.length ≤ j + 1 ∧ kk7.vec.length = 2) := hide (by rw [HI9.out.doneLen, HI9.out.vecLen]; exact HD4.out)
              have HBE : Hid (Below w0.heap.size w0 x9) := hide (HBZ.out.trans (HI9.out.only.below HBZ.out.size (fun i hi => (HP4.out.lt hi).1)))
              clear u0 u1 u2 u3 u4 u5 v0 v1 v2 v3 v4
              rw [HK4.out]
              go_wp2
              exact ⟨⟨j + 1, kk7, hlt9, by first | rfl | go_num, HKE2, HPE, HDE, HBE⟩, by simp [intOf]; omega⟩
          · have d3 : (comE k.sk y.x.t.ep y.x.t.id != 0) = true := by simpa using hc
            clear hc
            go_wp2
            exact ⟨⟨j + 1, k4, hlt9, by first | rfl | go_num, HK4, HP4, HD4, HB4⟩, by simp [intOf]; omega⟩
        · have d2 : (y.d == 2) = false := by simpa using h2
          clear h1 h2 u0 u1 u2 u3 u4 u5
          have u0 := cellB HO.out (i := 0) rfl
          go_wp2
          exact ⟨⟨j + 1, k, hlt9, by first | rfl | go_num, hide rfl, HPX, hide ⟨by have := HD.out; omega, HD.out.2⟩, HBX⟩, by simp [intOf]; omega⟩
    · obtain rfl : j = n := by omega
      go_wp2
      go_ret
      exact ⟨rfl, HB0.out.trans (HB.out.mono HB0.out.size)⟩
end Go.Proofs.Ytboofnkajjnmeaa
