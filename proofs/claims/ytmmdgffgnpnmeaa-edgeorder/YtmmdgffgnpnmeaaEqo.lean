/-
  Put of the reference's queue. The conditions: what is handed in is such a queue.
-/
import Derived.Test.YtmmdgffgnpnmeaaEqt
namespace Go.Proofs.Ytmmdgffgnpnmeaa
open Go.RowKit

theorem after_append {n : Nat} {A X w1 : World} {v : Value} (h : Below n A X) (hA : n ≤ A.heap.size) (g : X.grownBy w1 v.ownBlock) (hv : ∀ i, v.ownBlock = some i → n ≤ i) : Below n A w1 := h.grown g (Nat.le_trans hA h.size) hv
/-- What Put of the reference leaves. -/
structure RPut (base : Nat) (W w' : World) (b : Nat) (p : Option Addr) (q' : QC) : Prop where
  only : Only (· = b) W w'
  is : ∃ p' c', RQ base w' b p' c' q' ∧ ∀ a', p' = some a' → (∃ a, p = some a ∧ a'.block = a.block) ∨ (W.heap.size ≤ a'.block ∧ a'.block < w'.heap.size)
theorem RPut.same {base : Nat} {W w' : World} {b : Nat} {p : Option Addr} {c : Nat} {q : QC} (h : RQ base W b p c q) (hb : Below W.heap.size W w') : RPut base W w' b p q :=
  ⟨Only.fresh hb _, p, c, h.later hb, fun a e => .inl ⟨a, e, rfl⟩⟩
theorem rput_ends {base : Nat} {W Y w2 : World} {b : Nat} {p0 p : Option Addr} {c : Nat} {q : QC} {l : Int} {e : EV} (hO : Only (· = b) W Y) (hb : Y.heap[b]? = some (.cells #[.slice p q.evs.length c, .int .i64 (q.room : Int), .int .i64 l] 58 (0, 0))) (hge : base ≤ b) {p2 : Option Addr} {c2 n : Nat} (hn : q.evs.length = n) (B2 : Below Y.heap.size Y w2)
    (o2 : w2.ownsRow Y.heap.size 34 4 (.slice p2 (n + 1) c2) (n + 1) (q.evs.flatMap EV.cells ++ e.cells)) :
    RPut base W (w2.setCell ⟨b, 0, none⟩ (.slice p2 (n + 1) c2)) b p0 ⟨q.room, q.evs ++ [e], l⟩ := by
  subst hn
  have hbY := (Array.getElem?_eq_some_iff.1 hb).1
  have hb2 := (B2.block b hbY).trans hb
  have hs := Only.set (F := (· = b)) w2 b 0 (.slice p2 (q.evs.length + 1) c2) rfl
  refine ⟨(hO.trans (Only.fresh B2 _)).trans hs, p2, c2, ⟨?_, ?_, hge⟩, fun a' e' => .inr ?_⟩
  · rw [heap_set_same hb2]
    simp
  · have e1 : (q.evs ++ [e]).flatMap EV.cells = q.evs.flatMap EV.cells ++ e.cells := by simp
    have h3 : (w2.setCell ⟨b, 0, none⟩ (.slice p2 (q.evs.length + 1) c2)).ownsRow Y.heap.size 34 4 (.slice p2 (q.evs.length + 1) c2) (q.evs.length + 1) ((q.evs ++ [e]).flatMap EV.cells) := by
      rw [e1]
      exact ownsRow_only o2 hs (fun i hi e => by have e' : i = b := e; have := own_block_base o2 hi; omega)
    exact LRow.of_own EV.len (by simp) h3
  · have h4 := own_block_base o2 (b := a'.block) (by rw [e']; rfl)
    have h5 := (own_block_lt o2 (b := a'.block) (by rw [e']; rfl)).1
    have := hO.size
    exact ⟨by omega, Nat.lt_of_lt_of_le h5 hs.size⟩
set_option maxRecDepth 100000 in
set_option maxHeartbeats 2000000 in
theorem rput_bad {base : Nat} {W : World} {b : Nat} {p : Option Addr} {c : Nat} {room : Nat} {evs : List EV} {last : Int} {kd ky vl id : Int} {n : Nat} (hn : evs.length = n) (h : RQ base W b p c ⟨room, evs, last⟩) (hok : QC.ok ⟨room, evs, last⟩) (hf : ¬ fits ⟨kd, ky, vl, id⟩) :
    Calls Try.prog 13 #[.pointer (some ⟨b, 0, none⟩), .agg #[.int .i64 kd, .int .i64 ky, .int .i64 vl, .int .i64 id]] W fun r w' => r = .returned (.int .i64 1) ∧ Below W.heap.size W w' := by
  have HF := hide hf
  clear hf
  obtain ⟨V, hV⟩ : ∃ V, V = W.alloc (.cells #[.int .i64 kd, .int .i64 ky, .int .i64 vl, .int .i64 id] 34 (0, 0)) := ⟨_, rfl⟩
  have bV : Below W.heap.size W V := by rw [hV]; exact alloc_below _ _
  have u3 : V.heap[W.heap.size]? = some (.cells #[.int .i64 kd, .int .i64 ky, .int .i64 vl, .int .i64 id] 34 (0, 0)) := by rw [hV]; exact heap_alloc_new W _
  obtain ⟨sB, hsB⟩ : ∃ sB, W.heap.size = sB := ⟨_, rfl⟩
  have hbs : b < sB := by rw [← hsB]; exact (Array.getElem?_eq_some_iff.1 h.box).1
  rw [hsB] at u3
  obtain ⟨k1, k2, k3, _⟩ := hok
  simp only at k1 k2 k3
  rw [hn] at k3
  have HPQ := hide (h.later bV)
  have HBV := hide bV
  have HSB := hide hsB
  have HU := hide u3
  have HN := hide hn
  obtain ⟨_, _, _, _, v0, v1, v2, v3⟩ := four u3
  clear h bV u3 hn
  go_enter Try.func13, Try.ntmps13
  go_upto_region 1 with fail
  rw [← hV]
  try rw [hsB]
  clear hV hsB
  go_wp2_with fail
  refine rcheck_any.mono ?_
  rintro _ w1 ⟨rfl, b1⟩
  rw [check_no HF.out]
  have HB1 : Hid (Below W.heap.size W w1) := hide (HBV.out.trans (b1.mono HBV.out.size))
  clear b1 v0 v1 v2 v3
  go_wp2
  go_ret
  exact ⟨rfl, HB1.out⟩
set_option maxRecDepth 100000 in
set_option maxHeartbeats 2000000 in
theorem rput_full {base : Nat} {W : World} {b : Nat} {p : Option Addr} {c : Nat} {room : Nat} {evs : List EV} {last : Int} {kd ky vl id : Int} {n : Nat} (hn : evs.length = n) (h : RQ base W b p c ⟨room, evs, last⟩) (hok : QC.ok ⟨room, evs, last⟩) (hf : fits ⟨kd, ky, vl, id⟩) (hr : n = room) :
    Calls Try.prog 13 #[.pointer (some ⟨b, 0, none⟩), .agg #[.int .i64 kd, .int .i64 ky, .int .i64 vl, .int .i64 id]] W fun r w' => r = .returned (.int .i64 6) ∧ Below W.heap.size W w' := by
  have HF := hide hf
  subst hr
  clear hf
  obtain ⟨V, hV⟩ : ∃ V, V = W.alloc (.cells #[.int .i64 kd, .int .i64 ky, .int .i64 vl, .int .i64 id] 34 (0, 0)) := ⟨_, rfl⟩
  have bV : Below W.heap.size W V := by rw [hV]; exact alloc_below _ _
  have u3 : V.heap[W.heap.size]? = some (.cells #[.int .i64 kd, .int .i64 ky, .int .i64 vl, .int .i64 id] 34 (0, 0)) := by rw [hV]; exact heap_alloc_new W _
  obtain ⟨sB, hsB⟩ : ∃ sB, W.heap.size = sB := ⟨_, rfl⟩
  have hbs : b < sB := by rw [← hsB]; exact (Array.getElem?_eq_some_iff.1 h.box).1
  rw [hsB] at u3
  obtain ⟨k1, k2, k3, _⟩ := hok
  simp only at k1 k2 k3
  rw [hn] at k3
  have HPQ := hide (h.later bV)
  have HBV := hide bV
  have HSB := hide hsB
  have HU := hide u3
  have HN := hide hn
  obtain ⟨_, _, _, _, v0, v1, v2, v3⟩ := four u3
  clear h bV u3 hn
  go_enter Try.func13, Try.ntmps13
  go_upto_region 1 with fail
  rw [← hV]
  try rw [hsB]
  clear hV hsB
  go_wp2_with fail
  refine rcheck_any.mono ?_
  rintro _ w1 ⟨rfl, b1⟩
  rw [check_yes HF.out]
  have HB2 : Hid (Below W.heap.size W w1) := hide (HBV.out.trans (b1.mono HBV.out.size))
  have HPQ2 := hide (HPQ.out.later b1)
  have hu2 := (b1.block sB (Array.getElem?_eq_some_iff.1 HU.out).1).trans HU.out
  clear v0 v1 v2 v3
  obtain ⟨_, _, _, _, v0, v1, v2, v3⟩ := four hu2
  have HU2 := hide hu2
  have hbx := HPQ2.out.box
  simp only at hbx
  rw [HN.out] at hbx
  obtain ⟨c0, c1, c2⟩ := rbox_cells hbx
  clear b1 HPQ HU HBV hu2 hbx
  clear v0 v1 v2 v3
  go_upto_region 4 with fail
  go_big_quiet (fail)
  go_wp2
  go_ret
  exact ⟨rfl, below_drewN HB2.out _⟩
theorem below_boxO {W W' : World} {b : Nat} {o : Obj} (hb : Below W.heap.size W W') (h : W.heap[b]? = some o) : W'.heap[b]? = some o :=
  (hb.block b (Array.getElem?_eq_some_iff.1 h).1).trans h
theorem below_alloc2 {A B : World} (h : A.grownBy B none) : Below A.heap.size A B := ⟨h.os, h.tape, h.output, h.size, fun k hk => h.block k hk (by simp)⟩
set_option maxRecDepth 100000 in
set_option maxHeartbeats 4000000 in
theorem rput_rec {base : Nat} {W : World} {b : Nat} {p : Option Addr} {c : Nat} {room : Nat} {evs : List EV} {last : Int} {ky vl id : Int} {n : Nat} (hn : evs.length = n) (h : RQ base W b p c ⟨room, evs, last⟩) (hok : QC.ok ⟨room, evs, last⟩) (hf : fits ⟨1, ky, vl, id⟩) (hr : n < room) :
    Calls Try.prog 13 #[.pointer (some ⟨b, 0, none⟩), .agg #[.int .i64 1, .int .i64 ky, .int .i64 vl, .int .i64 id]] W fun r w' => r = .returned (.int .i64 0) ∧ RPut base W w' b p ⟨room, evs ++ [⟨1, ky, vl, id⟩], last⟩ := by
  have HF := hide hf
  clear hf
  obtain ⟨V, hV⟩ : ∃ V, V = W.alloc (.cells #[.int .i64 1, .int .i64 ky, .int .i64 vl, .int .i64 id] 34 (0, 0)) := ⟨_, rfl⟩
  have bV : Below W.heap.size W V := by rw [hV]; exact alloc_below _ _
  have u3 : V.heap[W.heap.size]? = some (.cells #[.int .i64 1, .int .i64 ky, .int .i64 vl, .int .i64 id] 34 (0, 0)) := by rw [hV]; exact heap_alloc_new W _
  obtain ⟨sB, hsB⟩ : ∃ sB, W.heap.size = sB := ⟨_, rfl⟩
  have hbs : b < sB := by rw [← hsB]; exact (Array.getElem?_eq_some_iff.1 h.box).1
  rw [hsB] at u3
  obtain ⟨k1, k2, k3, _⟩ := hok
  simp only at k1 k2 k3
  rw [hn] at k3
  have HPQ := hide (h.later bV)
  have HBV := hide bV
  have HSB := hide hsB
  have HU := hide u3
  have HN := hide hn
  obtain ⟨_, _, _, _, v0, v1, v2, v3⟩ := four u3
  clear h bV u3 hn
  go_enter Try.func13, Try.ntmps13
  go_upto_region 1 with fail
  rw [← hV]
  try rw [hsB]
  clear hV hsB
  go_wp2_with fail
  refine rcheck_any.mono ?_
  rintro _ w1 ⟨rfl, b1⟩
  rw [check_yes HF.out]
  have HB2 : Hid (Below W.heap.size W w1) := hide (HBV.out.trans (b1.mono HBV.out.size))
  have HPQ2 := hide (HPQ.out.later b1)
  have hu2 := (b1.block sB (Array.getElem?_eq_some_iff.1 HU.out).1).trans HU.out
  clear v0 v1 v2 v3
  obtain ⟨_, _, _, _, v0, v1, v2, v3⟩ := four hu2
  have HU2 := hide hu2
  have hbx := HPQ2.out.box
  simp only at hbx
  rw [HN.out] at hbx
  obtain ⟨c0, c1, c2⟩ := rbox_cells hbx
  clear b1 HPQ HU HBV hu2 hbx
  have q1 : decide ((n : Int) ≥ (room : Int)) = false := decide_eq_false (by omega)
  go_upto_region 4 with fail
  go_big_quiet (fail)
  obtain ⟨Y, hY⟩ : ∃ Y, Y = w1.drewN nq := ⟨_, rfl⟩
  rw [← hY]
  have bY : Below w1.heap.size w1 Y := by rw [hY]; exact below_drewN (Below.refl _ _) _
  have HPY := hide (HPQ2.out.later bY)
  have HBE := hide HPY.out.box
  have HBY : Hid (Y.heap[b]? = some (.cells #[.slice p n c, .int .i64 (room : Int), .int .i64 last] 58 (0, 0))) := by
    have := HPY.out.box
    simp only at this
    rw [HN.out] at this
    exact hide this
  have HRY := hide HPY.out.row
  have HGE := hide HPY.out.ge
  have HUY := hide ((bY.block sB (Array.getElem?_eq_some_iff.1 HU2.out).1).trans HU2.out)
  have HOY : Hid (Only (· = b) W Y) := hide (Only.fresh (HB2.out.trans (bY.mono HB2.out.size)) _)
  clear v0 v1 v2 v3
  obtain ⟨_, _, _, _, v0, v1, v2, v3⟩ := four HUY.out
  clear hY bY HPQ2 HU2 HB2 c0 c1 c2 q1
  obtain ⟨i0, hI0, hz0, hz1, hz2⟩ := info_parts Try.infoEv
  have HSEG : Hid (∀ X, Below Y.heap.size Y X → Seg X 4 (.slice p n c) n (evs.flatMap EV.cells)) := hide (fun X hX => by
    have := (HRY.out.later hX).seg (by decide) EV.len EV.one
    rw [HN.out] at this
    exact this)
  have HK1 : Hid (0 + n ≤ maxLen) := by show _ ≤ _; unfold maxLen; omega
  have HK2 : Hid ((0 + n) * 32 ≤ 140737488355328) := by show _ ≤ _; omega
  have HK3 : Hid (n + 1 ≤ maxLen) := by show _ ≤ _; unfold maxLen; omega
  have HK4 : Hid ((n + 1) * 32 ≤ 140737488355328) := by show _ ≤ _; omega
  have HTW : Hid (∀ u ∈ (#[.int .i64 1, .int .i64 ky, .int .i64 vl, .int .i64 id] : Array Value).toList, u.oneCell' = true) := hide (by intro u hu; simp at hu; rcases hu with rfl | rfl | rfl | rfl <;> rfl)
  have cb := (rbox_cells HBY.out).c0
  have hYb := (Array.getElem?_eq_some_iff.1 HBY.out).1
  have hYs := (Array.getElem?_eq_some_iff.1 HUY.out).1
  go_upto_region 11 with fail
  go_region_law (first
    | (refine step_append_cells rfl (.tmp 38) (.tmp 42) 44 rfl Y.heap.size 34 i0 (.agg #[.int .i64 0, .int .i64 0, .int .i64 0, .int .i64 0]) 4 32 Try.underlying44 hI0 hz0 hz1 hz2 rfl (by decide) (.slice none 0 0) 0 [] rfl (World.ownsRow_nil _ _ _ _) (.slice p n c) n (evs.flatMap EV.cells) rfl (HSEG.out _ (by first | exact (Below.refl _ Y).drew | exact ((Below.refl _ Y).drew).alloc (Nat.le_refl _) _)) HK1.out HK2.out (by first | exact Nat.le_refl _ | simp) ?_; intro p1 c1 w1 o1 g1; have B1 : Below Y.heap.size Y w1 := after_append (by first | exact (Below.refl _ Y).drew | exact ((Below.refl _ Y).drew).alloc (Nat.le_refl _) _) (Nat.le_refl _) g1 (by simp [Value.ownBlock]); have hu1 := (B1.block sB hYs).trans HUY.out; have hq1 := (B1.block b hYb).trans HBY.out; have r0 := (four hu1).u0; have r1 := (four hu1).u1; have r2 := (four hu1).u2; have r3 := (four hu1).u3; have O1 : Hid (w1.ownsRow Y.heap.size 34 4 (.slice p1 n c1) n (evs.flatMap EV.cells)) := by { rw [Nat.zero_add, List.nil_append] at o1; exact hide o1 }; have G1 := hide g1; have HB1' := hide B1; clear o1 g1 B1 hu1 hq1)
    | (refine step_append_cells rfl (.tmp 43) (.tmp 45) 44 rfl Y.heap.size 34 i0 (.agg #[.int .i64 0, .int .i64 0, .int .i64 0, .int .i64 0]) 4 32 Try.underlying44 hI0 hz0 hz1 hz2 rfl (by decide) (.slice p1 n c1) n (evs.flatMap EV.cells) rfl (by first | exact O1.out | exact ownsRow_later O1.out (alloc_below _ _)) _ 1 [.int .i64 1, .int .i64 ky, .int .i64 vl, .int .i64 id] rfl (by first | exact Seg.news (heap_alloc_new _ _) HTW.out rfl (by decide) (by decide) | exact Seg.news (below_boxO (below_alloc2 G1.out) (heap_alloc_new _ _)) HTW.out rfl (by decide) (by decide)) HK3.out HK4.out (by first | exact HB1'.out.size | exact Nat.le_trans HB1'.out.size (alloc_below _ _).size) ?_; intro p2 c2 w2 o2 g2; have B2 : Below Y.heap.size Y w2 := after_append (by first | exact HB1'.out | exact HB1'.out.alloc HB1'.out.size _) (Nat.le_refl _) g2 (fun i hi => own_block_base O1.out hi); have hq2 := (B2.block b hYb).trans HBY.out; have s0 := (rbox_cells hq2).c0; have sf : w2.frozen? ⟨b, 0, none⟩ = false := by { simp [World.frozen?, hq2] }))
  all_goals
    have HPU := hide (rput_ends (p0 := p) (q := ⟨room, evs, last⟩) (e := ⟨1, ky, vl, id⟩) HOY.out HBE.out HGE.out HN.out B2 o2)
    clear o2 g2 B2 hq2 s0 sf O1 G1 HB1' r0 r1 r2 r3
    go_wp2
    go_ret
    exact ⟨rfl, HPU.out⟩
set_option maxRecDepth 100000 in
set_option maxHeartbeats 2000000 in
theorem rput_past {base : Nat} {W : World} {b : Nat} {p : Option Addr} {c : Nat} {room : Nat} {evs : List EV} {last : Int} {ky vl id : Int} {n : Nat} (hn : evs.length = n) (h : RQ base W b p c ⟨room, evs, last⟩) (hok : QC.ok ⟨room, evs, last⟩) (hf : fits ⟨2, ky, vl, id⟩) (hr : n < room) (hi : id ≤ last) :
    Calls Try.prog 13 #[.pointer (some ⟨b, 0, none⟩), .agg #[.int .i64 2, .int .i64 ky, .int .i64 vl, .int .i64 id]] W fun r w' => r = .returned (.int .i64 7) ∧ Below W.heap.size W w' := by
  have HF := hide hf
  clear hf
  obtain ⟨V, hV⟩ : ∃ V, V = W.alloc (.cells #[.int .i64 2, .int .i64 ky, .int .i64 vl, .int .i64 id] 34 (0, 0)) := ⟨_, rfl⟩
  have bV : Below W.heap.size W V := by rw [hV]; exact alloc_below _ _
  have u3 : V.heap[W.heap.size]? = some (.cells #[.int .i64 2, .int .i64 ky, .int .i64 vl, .int .i64 id] 34 (0, 0)) := by rw [hV]; exact heap_alloc_new W _
  obtain ⟨sB, hsB⟩ : ∃ sB, W.heap.size = sB := ⟨_, rfl⟩
  have hbs : b < sB := by rw [← hsB]; exact (Array.getElem?_eq_some_iff.1 h.box).1
  rw [hsB] at u3
  obtain ⟨k1, k2, k3, _⟩ := hok
  simp only at k1 k2 k3
  rw [hn] at k3
  have HPQ := hide (h.later bV)
  have HBV := hide bV
  have HSB := hide hsB
  have HU := hide u3
  have HN := hide hn
  obtain ⟨_, _, _, _, v0, v1, v2, v3⟩ := four u3
  clear h bV u3 hn
  go_enter Try.func13, Try.ntmps13
  go_upto_region 1 with fail
  rw [← hV]
  try rw [hsB]
  clear hV hsB
  go_wp2_with fail
  refine rcheck_any.mono ?_
  rintro _ w1 ⟨rfl, b1⟩
  rw [check_yes HF.out]
  have HB2 : Hid (Below W.heap.size W w1) := hide (HBV.out.trans (b1.mono HBV.out.size))
  have HPQ2 := hide (HPQ.out.later b1)
  have hu2 := (b1.block sB (Array.getElem?_eq_some_iff.1 HU.out).1).trans HU.out
  clear v0 v1 v2 v3
  obtain ⟨_, _, _, _, v0, v1, v2, v3⟩ := four hu2
  have HU2 := hide hu2
  have hbx := HPQ2.out.box
  simp only at hbx
  rw [HN.out] at hbx
  obtain ⟨c0, c1, c2⟩ := rbox_cells hbx
  clear b1 HPQ HU HBV hu2 hbx
  have q1 : decide ((n : Int) ≥ (room : Int)) = false := decide_eq_false (by omega)
  have q2 : decide (id ≤ last) = true := decide_eq_true hi
  go_upto_region 4 with fail
  go_big_quiet (fail)
  obtain ⟨Y, hY⟩ : ∃ Y, Y = w1.drewN nq := ⟨_, rfl⟩
  rw [← hY]
  have bY : Below w1.heap.size w1 Y := by rw [hY]; exact below_drewN (Below.refl _ _) _
  have HBW : Hid (Below W.heap.size W Y) := hide (HB2.out.trans (bY.mono HB2.out.size))
  have d0 := cell_later bY v0
  have d3 := cell_later bY v3
  have d2 := cell_later bY c2
  clear hY bY v0 v1 v2 v3 c0 c1 c2 q1 HB2 HPQ2 HU2
  go_upto_region 7 with fail
  go_big_quiet (fail)
  go_wp2
  go_ret
  exact ⟨rfl, below_drewN HBW.out _⟩
set_option maxRecDepth 100000 in
set_option maxHeartbeats 4000000 in
theorem rput_bar {base : Nat} {W : World} {b : Nat} {p : Option Addr} {c : Nat} {room : Nat} {evs : List EV} {last : Int} {ky vl id : Int} {n : Nat} (hn : evs.length = n) (h : RQ base W b p c ⟨room, evs, last⟩) (hok : QC.ok ⟨room, evs, last⟩) (hf : fits ⟨2, ky, vl, id⟩) (hr : n < room) (hi : last < id) (hpb : ∀ a, p = some a → a.block ≠ b) :
    Calls Try.prog 13 #[.pointer (some ⟨b, 0, none⟩), .agg #[.int .i64 2, .int .i64 ky, .int .i64 vl, .int .i64 id]] W fun r w' => r = .returned (.int .i64 0) ∧ RPut base W w' b p ⟨room, evs ++ [⟨2, ky, vl, id⟩], id⟩ := by
  have HF := hide hf
  have HPB := hide hpb
  clear hf hpb
  obtain ⟨V, hV⟩ : ∃ V, V = W.alloc (.cells #[.int .i64 2, .int .i64 ky, .int .i64 vl, .int .i64 id] 34 (0, 0)) := ⟨_, rfl⟩
  have bV : Below W.heap.size W V := by rw [hV]; exact alloc_below _ _
  have u3 : V.heap[W.heap.size]? = some (.cells #[.int .i64 2, .int .i64 ky, .int .i64 vl, .int .i64 id] 34 (0, 0)) := by rw [hV]; exact heap_alloc_new W _
  obtain ⟨sB, hsB⟩ : ∃ sB, W.heap.size = sB := ⟨_, rfl⟩
  have hbs : b < sB := by rw [← hsB]; exact (Array.getElem?_eq_some_iff.1 h.box).1
  rw [hsB] at u3
  obtain ⟨k1, k2, k3, _⟩ := hok
  simp only at k1 k2 k3
  rw [hn] at k3
  have HPQ := hide (h.later bV)
  have HBV := hide bV
  have HSB := hide hsB
  have HU := hide u3
  have HN := hide hn
  obtain ⟨_, _, _, _, v0, v1, v2, v3⟩ := four u3
  clear h bV u3 hn
  go_enter Try.func13, Try.ntmps13
  go_upto_region 1 with fail
  rw [← hV]
  try rw [hsB]
  clear hV hsB
  go_wp2_with fail
  refine rcheck_any.mono ?_
  rintro _ w1 ⟨rfl, b1⟩
  rw [check_yes HF.out]
  have HB2 : Hid (Below W.heap.size W w1) := hide (HBV.out.trans (b1.mono HBV.out.size))
  have HPQ2 := hide (HPQ.out.later b1)
  have hu2 := (b1.block sB (Array.getElem?_eq_some_iff.1 HU.out).1).trans HU.out
  clear v0 v1 v2 v3
  obtain ⟨_, _, _, _, v0, v1, v2, v3⟩ := four hu2
  have HU2 := hide hu2
  have hbx := HPQ2.out.box
  simp only at hbx
  rw [HN.out] at hbx
  obtain ⟨c0, c1, c2⟩ := rbox_cells hbx
  clear b1 HPQ HU HBV hu2 hbx
  have q1 : decide ((n : Int) ≥ (room : Int)) = false := decide_eq_false (by omega)
  have q2 : decide (id ≤ last) = false := decide_eq_false (by omega)
  go_upto_region 4 with fail
  go_big_quiet (fail)
  obtain ⟨X, hX⟩ : ∃ X, X = w1.drewN nq := ⟨_, rfl⟩
  rw [← hX]
  have bX : Below w1.heap.size w1 X := by rw [hX]; exact below_drewN (Below.refl _ _) _
  have HPX := hide (HPQ2.out.later bX)
  have HUX := hide ((bX.block sB (Array.getElem?_eq_some_iff.1 HU2.out).1).trans HU2.out)
  have HBX : Hid (Below W.heap.size W X) := hide (HB2.out.trans (bX.mono HB2.out.size))
  have d0 := cell_later bX v0
  have d3 := cell_later bX v3
  have d2 := cell_later bX c2
  clear hX bX v0 v1 v2 v3 c0 c1 c2 q1 HB2 HPQ2 HU2
  go_upto_region 7 with fail
  go_big_quiet (fail)
  obtain ⟨Z, hZ⟩ : ∃ Z, Z = X.drewN nq := ⟨_, rfl⟩
  rw [← hZ]
  have bZ : Below X.heap.size X Z := by rw [hZ]; exact below_drewN (Below.refl _ _) _
  have HPZ := hide (HPX.out.later bZ)
  have HUZ := hide ((bZ.block sB (Array.getElem?_eq_some_iff.1 HUX.out).1).trans HUX.out)
  have HBZ : Hid (Below W.heap.size W Z) := hide (HBX.out.trans (bZ.mono HBX.out.size))
  have z3 := cell_later bZ d3
  have z2 := cell_later bZ d2
  have zf : Z.frozen? ⟨b, 2, none⟩ = false := by simp [World.frozen?, HPZ.out.box]
  clear hZ bZ HPX HUX HBX d0 d2 d3 q2
  go_upto_region 10 with fail
  obtain ⟨Y, hY⟩ : ∃ Y, Y = Z.setCell ⟨b, 2, none⟩ (.int .i64 id) := ⟨_, rfl⟩
  rw [← hY]
  have hoY : Only (· = b) Z Y := by rw [hY]; exact Only.set (F := (· = b)) Z b 2 _ rfl
  have HUY := hide (hoY.obj HUZ.out (fun e => by have e' : sB = b := e; omega))
  have HBE : Hid (Y.heap[b]? = some (.cells #[.slice p evs.length c, .int .i64 (room : Int), .int .i64 id] 58 (0, 0))) := by
    rw [hY, heap_set_same HPZ.out.box]
    exact hide rfl
  have HBY : Hid (Y.heap[b]? = some (.cells #[.slice p n c, .int .i64 (room : Int), .int .i64 id] 58 (0, 0))) := by
    have := HBE.out
    rw [HN.out] at this
    exact hide this
  have HRY : Hid (ERow Y p c evs) := hide (erow_only HPZ.out.row hoY (fun a e f => HPB.out a e f))
  have HGE := hide HPZ.out.ge
  have HOY : Hid (Only (· = b) W Y) := hide ((Only.fresh HBZ.out _).trans hoY)
  obtain ⟨_, _, _, _, v0, v1, v2, v3⟩ := four HUY.out
  clear hY hoY HPZ HUZ HBZ z2 z3 zf
  obtain ⟨i0, hI0, hz0, hz1, hz2⟩ := info_parts Try.infoEv
  have HSEG : Hid (∀ X, Below Y.heap.size Y X → Seg X 4 (.slice p n c) n (evs.flatMap EV.cells)) := hide (fun X hX => by
    have := (HRY.out.later hX).seg (by decide) EV.len EV.one
    rw [HN.out] at this
    exact this)
  have HK1 : Hid (0 + n ≤ maxLen) := by show _ ≤ _; unfold maxLen; omega
  have HK2 : Hid ((0 + n) * 32 ≤ 140737488355328) := by show _ ≤ _; omega
  have HK3 : Hid (n + 1 ≤ maxLen) := by show _ ≤ _; unfold maxLen; omega
  have HK4 : Hid ((n + 1) * 32 ≤ 140737488355328) := by show _ ≤ _; omega
  have HTW : Hid (∀ u ∈ (#[.int .i64 2, .int .i64 ky, .int .i64 vl, .int .i64 id] : Array Value).toList, u.oneCell' = true) := hide (by intro u hu; simp at hu; rcases hu with rfl | rfl | rfl | rfl <;> rfl)
  have cb := (rbox_cells HBY.out).c0
  have hYb := (Array.getElem?_eq_some_iff.1 HBY.out).1
  have hYs := (Array.getElem?_eq_some_iff.1 HUY.out).1
  go_upto_region 11 with fail
  go_region_law (first
    | (refine step_append_cells rfl (.tmp 38) (.tmp 42) 44 rfl Y.heap.size 34 i0 (.agg #[.int .i64 0, .int .i64 0, .int .i64 0, .int .i64 0]) 4 32 Try.underlying44 hI0 hz0 hz1 hz2 rfl (by decide) (.slice none 0 0) 0 [] rfl (World.ownsRow_nil _ _ _ _) (.slice p n c) n (evs.flatMap EV.cells) rfl (HSEG.out _ (by first | exact (Below.refl _ Y).drew | exact ((Below.refl _ Y).drew).alloc (Nat.le_refl _) _)) HK1.out HK2.out (by first | exact Nat.le_refl _ | simp) ?_; intro p1 c1 w1 o1 g1; have B1 : Below Y.heap.size Y w1 := after_append (by first | exact (Below.refl _ Y).drew | exact ((Below.refl _ Y).drew).alloc (Nat.le_refl _) _) (Nat.le_refl _) g1 (by simp [Value.ownBlock]); have hu1 := (B1.block sB hYs).trans HUY.out; have hq1 := (B1.block b hYb).trans HBY.out; have r0 := (four hu1).u0; have r1 := (four hu1).u1; have r2 := (four hu1).u2; have r3 := (four hu1).u3; have O1 : Hid (w1.ownsRow Y.heap.size 34 4 (.slice p1 n c1) n (evs.flatMap EV.cells)) := by { rw [Nat.zero_add, List.nil_append] at o1; exact hide o1 }; have G1 := hide g1; have HB1' := hide B1; clear o1 g1 B1 hu1 hq1)
    | (refine step_append_cells rfl (.tmp 43) (.tmp 45) 44 rfl Y.heap.size 34 i0 (.agg #[.int .i64 0, .int .i64 0, .int .i64 0, .int .i64 0]) 4 32 Try.underlying44 hI0 hz0 hz1 hz2 rfl (by decide) (.slice p1 n c1) n (evs.flatMap EV.cells) rfl (by first | exact O1.out | exact ownsRow_later O1.out (alloc_below _ _)) _ 1 [.int .i64 2, .int .i64 ky, .int .i64 vl, .int .i64 id] rfl (by first | exact Seg.news (heap_alloc_new _ _) HTW.out rfl (by decide) (by decide) | exact Seg.news (below_boxO (below_alloc2 G1.out) (heap_alloc_new _ _)) HTW.out rfl (by decide) (by decide)) HK3.out HK4.out (by first | exact HB1'.out.size | exact Nat.le_trans HB1'.out.size (alloc_below _ _).size) ?_; intro p2 c2 w2 o2 g2; have B2 : Below Y.heap.size Y w2 := after_append (by first | exact HB1'.out | exact HB1'.out.alloc HB1'.out.size _) (Nat.le_refl _) g2 (fun i hi => own_block_base O1.out hi); have hq2 := (B2.block b hYb).trans HBY.out; have s0 := (rbox_cells hq2).c0; have sf : w2.frozen? ⟨b, 0, none⟩ = false := by { simp [World.frozen?, hq2] }))
  all_goals
    have HPU := hide (rput_ends (p0 := p) (q := ⟨room, evs, id⟩) (e := ⟨2, ky, vl, id⟩) HOY.out HBE.out HGE.out HN.out B2 o2)
    clear o2 g2 B2 hq2 s0 sf O1 G1 HB1' r0 r1 r2 r3
    go_wp2
    go_ret
    exact ⟨rfl, HPU.out⟩

/-- Put of the reference's queue. -/
theorem rput_any {base : Nat} {W : World} {b : Nat} {p : Option Addr} {c : Nat} {q : QC} (h : RQ base W b p c q) (hok : q.ok) (hpb : ∀ a, p = some a → a.block ≠ b) (x : EV) :
    Calls Try.prog 13 #[.pointer (some ⟨b, 0, none⟩), x.agg] W fun r w' => r = .returned (.int .i64 (q.err x)) ∧ RPut base W w' b p (q.put x) := by
  obtain ⟨kd, ky, vl, id⟩ := x
  have k3 := hok.2.2.1
  obtain ⟨room, evs, last⟩ := q
  simp only at k3
  by_cases hf : fits ⟨kd, ky, vl, id⟩
  · by_cases hr : room ≤ evs.length
    · have e1 : QC.err ⟨room, evs, last⟩ ⟨kd, ky, vl, id⟩ = 6 := by unfold QC.err; rw [if_pos hf, if_pos hr]
      have e2 : QC.put ⟨room, evs, last⟩ ⟨kd, ky, vl, id⟩ = ⟨room, evs, last⟩ := by unfold QC.put; rw [e1]; rfl
      rw [e1, e2]
      exact (rput_full rfl h hok hf (by omega)).mono fun e w' h' => ⟨h'.1, RPut.same h h'.2⟩
    · rcases fits_kind hf with hk | hk
      · obtain rfl : kd = 1 := hk
        have e1 : QC.err ⟨room, evs, last⟩ ⟨1, ky, vl, id⟩ = 0 := by unfold QC.err; rw [if_pos hf, if_neg hr, if_neg (by simp)]
        have e2 : QC.put ⟨room, evs, last⟩ ⟨1, ky, vl, id⟩ = ⟨room, evs ++ [⟨1, ky, vl, id⟩], last⟩ := by unfold QC.put; rw [e1, if_pos rfl]; rfl
        rw [e1, e2]
        exact (rput_rec rfl h hok hf (by omega)).mono fun e w' h' => h'
      · obtain rfl : kd = 2 := hk
        by_cases hi : id ≤ last
        · have e1 : QC.err ⟨room, evs, last⟩ ⟨2, ky, vl, id⟩ = 7 := by unfold QC.err; rw [if_pos hf, if_neg hr, if_pos ⟨rfl, hi⟩]
          have e2 : QC.put ⟨room, evs, last⟩ ⟨2, ky, vl, id⟩ = ⟨room, evs, last⟩ := by unfold QC.put; rw [e1]; rfl
          rw [e1, e2]
          exact (rput_past rfl h hok hf (by omega) hi).mono fun e w' h' => ⟨h'.1, RPut.same h h'.2⟩
        · have e1 : QC.err ⟨room, evs, last⟩ ⟨2, ky, vl, id⟩ = 0 := by unfold QC.err; rw [if_pos hf, if_neg hr, if_neg (fun h => hi h.2)]
          have e2 : QC.put ⟨room, evs, last⟩ ⟨2, ky, vl, id⟩ = ⟨room, evs ++ [⟨2, ky, vl, id⟩], id⟩ := by unfold QC.put; rw [e1, if_pos rfl]; rfl
          rw [e1, e2]
          exact (rput_bar rfl h hok hf (by omega) (by omega) hpb).mono fun e w' h' => h'
  · have e1 : QC.err ⟨room, evs, last⟩ ⟨kd, ky, vl, id⟩ = 1 := by unfold QC.err; rw [if_neg hf]
    have e2 : QC.put ⟨room, evs, last⟩ ⟨kd, ky, vl, id⟩ = ⟨room, evs, last⟩ := by unfold QC.put; rw [e1]; rfl
    rw [e1, e2]
    exact (rput_bad rfl h hok hf).mono fun e w' h' => ⟨h'.1, RPut.same h h'.2⟩
end Go.Proofs.Ytmmdgffgnpnmeaa
