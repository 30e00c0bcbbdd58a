/-
  Put of the program's queue. The conditions: what is handed in is such a queue.
-/
import Derived.Test.YtmmdgffgnpnmeaaEqs
import Derived.Maps.AppendAt
import Derived.Deep.RegionLaw
import Derived.BigRegion
namespace Go.Proofs.Ytmmdgffgnpnmeaa
open Go.RowKit

theorem Box.Cells.later {W W' : World} {b n c : Nat} {r l : Int} {p : Option Addr} (h : Box.Cells W b r p n c l) (hb : Below W.heap.size W W') : Box.Cells W' b r p n c l := ⟨cell_later hb h.c0, cell_later hb h.c1, cell_later hb h.c2⟩
/-- append, one step of a region that draws its order: where the row lies then. -/
theorem step_append_at {P : Program} {ops : Array Oper} {o : Oper} {a : Act} {w : World} {K : Act → World → Prop} {Q : Exit → Act → World → Prop} {E : Prop} (hgd : o.guard = none) (s x : Operand) (t : TypeId)
    (ho : o.op = .call { callee := .builtin .append, args := #[s, x], argTypes := #[t, t] })
    (base : Nat) (e : TypeId) (i : TypeInfo) (z : Value) (size bytes : Nat) (ht : P.underlying t = some (.slice e)) (hi : P.info? e = some i) (hz : i.zero = some z)
    (hsize : i.size = size) (hby : i.bytes = bytes) (hzs : z.cells.size = size) (hsz : 0 < size)
    (v : Value) (n : Nat) (xs : List Value) (hs : a.eval s = v) (hown : w.ownsRow base e size v n xs)
    (ad : Addr) (m c : Nat) (news : List Value) (hx : a.eval x = .slice (some ad) m c) (hl : news.length = m * size) (hnews : ∀ j u, news[j]? = some u → w.cell? (ad.add j) = some u) (h1 : ∀ u ∈ news, u.oneCell' = true) (h63 : n + m ≤ maxLen) (hbytes : (n + m) * bytes ≤ 140737488355328) (hbase : base ≤ w.heap.size)
    (h : ∀ p' c' w', w'.ownsRow base e size (.slice p' (n + m) c') (n + m) (xs ++ news) → w.grownBy w' v.ownBlock → ((Value.slice p' (n + m) c').ownBlock = v.ownBlock ∨ (Value.slice p' (n + m) c').ownBlock = some w.heap.size) → K (a.put o.dst (.slice p' (n + m) c')) w') :
    if Region.wanted o (yielded ops a.tmps) = true then Oper.wp P o a w K Q else E := by
  have hw : Region.wanted o (yielded ops a.tmps) = true := by simp [Region.wanted, hgd]
  rw [if_pos hw]
  obtain ⟨v', w', hr, h2, h3, _, h4⟩ := run_append_own_at (P := P) w base t o.type e i z size bytes ht hi hz hsize hby hzs hsz v n xs hown ad m c news hl hnews h1 h63 hbytes hbase
  obtain ⟨p', c', rfl, _, _⟩ := own_form h2
  unfold Oper.wp execOp
  simp only [ho, resolve, invoke, builtin, Sem.run_bind, Sem.run_pure, Result.andThen_ok, List.map_toArray, List.map_cons, List.map_nil, hs, hx, hr]
  exact h p' c' w' h2 h3 h4
/-- What Put leaves. -/
structure Put (base : Nat) (W w' : World) (b : Nat) (p : Option Addr) (q' : QC) : Prop where
  only : Only (PQ.at b p) W w'
  is : ∃ p' c', PQ base w' b p' c' q' ∧ ∀ a', p' = some a' → (∃ a, p = some a ∧ a'.block = a.block) ∨ W.heap.size ≤ a'.block
theorem Put.same {base : Nat} {W w' : World} {b : Nat} {p : Option Addr} {c : Nat} {q : QC} (h : PQ base W b p c q) (hb : Below W.heap.size W w') : Put base W w' b p q :=
  ⟨Only.fresh hb _, p, c, h.later hb, fun a e => .inl ⟨a, e, rfl⟩⟩
theorem put_ends {base : Nat} {W Y w6 : World} {b : Nat} {p : Option Addr} {c : Nat} {q : QC} {l : Int} {e : EV} (hO : Only (PQ.at b p) W Y) (h : PQ base Y b p c ⟨q.room, q.evs, l⟩) {V : World} {n : Nat} (hn : q.evs.length = n) {p6 : Option Addr} {c6 : Nat} (hV : Below Y.heap.size Y V)
    (o6 : w6.ownsRow base 34 4 (.slice p6 (n + 1) c6) (n + 1) (q.evs.flatMap EV.cells ++ e.cells)) (g6 : V.grownBy w6 (Value.slice p n c).ownBlock) (k6 : (Value.slice p6 (n + 1) c6).ownBlock = (Value.slice p n c).ownBlock ∨ (Value.slice p6 (n + 1) c6).ownBlock = some V.heap.size) :
    Put base W (w6.setCell ⟨b, 1, none⟩ (.slice p6 (n + 1) c6)) b p ⟨q.room, q.evs ++ [e], l⟩ := by
  subst hn
  have hbY := (Array.getElem?_eq_some_iff.1 h.box).1
  have hrw := h.row
  have hoV : Only (fun i => (Value.slice p q.evs.length c).ownBlock = some i) Y w6 := (Only.fresh hV _).trans (Only.of_grown g6 (fun k e => e))
  have hnb : ∀ i, (Value.slice p q.evs.length c).ownBlock = some i → i ≠ b := fun i hi e => by
    obtain ⟨_, cur, h1⟩ := own_block_lt hrw hi
    rw [e, h.box] at h1
    simp at h1
  have hb6 : w6.heap[b]? = _ := hoV.obj h.box (fun e => hnb b e rfl)
  have hat : ∀ i, (Value.slice p q.evs.length c).ownBlock = some i → PQ.at b p i := fun i hi => by
    cases p with
    | none => simp [Value.ownBlock] at hi
    | some a => exact .inr ⟨a, rfl, by simpa [Value.ownBlock] using hi.symm⟩
  have hw6 : Only (PQ.at b p) W w6 := hO.trans (hoV.mono (fun i _ e => hat i e))
  refine ⟨hw6.trans (Only.set (F := PQ.at b p) w6 b 1 _ (.inl rfl)), p6, c6, ⟨?_, ?_, h.ge⟩, ?_⟩
  · rw [heap_set_same hb6]
    simp
  · have e1 : (q.evs ++ [e]).flatMap EV.cells = q.evs.flatMap EV.cells ++ e.cells := by simp
    show World.ownsRow _ base 34 4 (.slice p6 (q.evs ++ [e]).length c6) (q.evs ++ [e]).length ((q.evs ++ [e]).flatMap EV.cells)
    rw [e1, List.length_append]
    exact ownsRow_only o6 (Only.set (F := fun i => i = b) w6 b 1 _ rfl) (fun i hi e => by
      have e' : i = b := e
      subst e'
      obtain ⟨_, cur, h1⟩ := own_block_lt o6 hi
      rw [hb6] at h1
      simp at h1)
  · intro a' ha'
    subst ha'
    rcases k6 with k6 | k6
    · cases p with
      | none => simp [Value.ownBlock] at k6
      | some a => exact .inl ⟨a, rfl, by simpa [Value.ownBlock] using k6⟩
    · right
      have h1 := hO.size
      have h2 := hV.size
      have h3 : a'.block = V.heap.size := by simpa [Value.ownBlock] using k6
      omega
set_option maxRecDepth 100000 in
set_option maxHeartbeats 2000000 in
theorem put_bad {base : Nat} {W : World} {b : Nat} {p : Option Addr} {c : Nat} {room : Nat} {evs : List EV} {last : Int} {kd ky vl id : Int} {n : Nat} (hn : evs.length = n) (h : PQ base W b p c ⟨room, evs, last⟩) (hok : QC.ok ⟨room, evs, last⟩) (hf : ¬ fits ⟨kd, ky, vl, id⟩) :
    Calls Try.prog 12 #[.pointer (some ⟨b, 0, none⟩), .agg #[.int .i64 kd, .int .i64 ky, .int .i64 vl, .int .i64 id]] W fun r w' => r = .returned (.int .i64 1) ∧ Below W.heap.size W w' := by
  have HF := hide hf
  clear hf
  obtain ⟨V, hV⟩ : ∃ V, V = W.alloc (.cells #[.int .i64 kd, .int .i64 ky, .int .i64 vl, .int .i64 id] 34 (0, 0)) := ⟨_, rfl⟩
  have bV : Below W.heap.size W V := by rw [hV]; exact alloc_below _ _
  have u3 : V.heap[W.heap.size]? = some (.cells #[.int .i64 kd, .int .i64 ky, .int .i64 vl, .int .i64 id] 34 (0, 0)) := by rw [hV]; exact heap_alloc_new W _
  obtain ⟨sB, hsB⟩ : ∃ sB, W.heap.size = sB := ⟨_, rfl⟩
  have hbs : b < sB := by rw [← hsB]; exact (Array.getElem?_eq_some_iff.1 h.box).1
  rw [hsB] at u3
  obtain ⟨k1, k2, k3, _⟩ := hok
  simp only at k1 k2 k3
  rw [hn] at k3
  have hbx := h.box
  simp only at hbx
  rw [hn] at hbx
  have HBX : Hid (Box.Cells V b (room : Int) p n c last) := hide ((box_cells hbx).later bV)
  have HPQ := hide (h.later bV)
  have HBV := hide bV
  have HSB := hide hsB
  have HU := hide u3
  have HN := hide hn
  obtain ⟨_, _, _, _, v0, v1, v2, v3⟩ := four u3
  clear h bV u3 hbx hn
  go_enter Try.func12, Try.ntmps12
  go_upto_region 1 with fail
  rw [← hV]
  try rw [hsB]
  clear hV hsB
  go_wp2_with fail
  refine (made_any HBX.out (by omega)).mono ?_
  rintro _ w0 ⟨rfl, rfl⟩
  go_wp2_with fail
  refine check_any.mono ?_
  rintro _ w1 ⟨rfl, b1⟩
  rw [check_no HF.out]
  have HB1 : Hid (Below W.heap.size W w1) := hide (HBV.out.trans (b1.mono HBV.out.size))
  clear b1 v0 v1 v2 v3
  go_wp2
  go_ret
  exact ⟨rfl, HB1.out⟩
set_option maxRecDepth 100000 in
set_option maxHeartbeats 2000000 in
theorem put_full {base : Nat} {W : World} {b : Nat} {p : Option Addr} {c : Nat} {room : Nat} {evs : List EV} {last : Int} {kd ky vl id : Int} {n : Nat} (hn : evs.length = n) (h : PQ base W b p c ⟨room, evs, last⟩) (hok : QC.ok ⟨room, evs, last⟩) (hf : fits ⟨kd, ky, vl, id⟩) (hr : n = room) :
    Calls Try.prog 12 #[.pointer (some ⟨b, 0, none⟩), .agg #[.int .i64 kd, .int .i64 ky, .int .i64 vl, .int .i64 id]] W fun r w' => r = .returned (.int .i64 6) ∧ Below W.heap.size W w' := by
  have HF := hide hf
  have HR := hide hr
  clear hf hr
  obtain ⟨V, hV⟩ : ∃ V, V = W.alloc (.cells #[.int .i64 kd, .int .i64 ky, .int .i64 vl, .int .i64 id] 34 (0, 0)) := ⟨_, rfl⟩
  have bV : Below W.heap.size W V := by rw [hV]; exact alloc_below _ _
  have u3 : V.heap[W.heap.size]? = some (.cells #[.int .i64 kd, .int .i64 ky, .int .i64 vl, .int .i64 id] 34 (0, 0)) := by rw [hV]; exact heap_alloc_new W _
  obtain ⟨sB, hsB⟩ : ∃ sB, W.heap.size = sB := ⟨_, rfl⟩
  have hbs : b < sB := by rw [← hsB]; exact (Array.getElem?_eq_some_iff.1 h.box).1
  rw [hsB] at u3
  obtain ⟨k1, k2, k3, _⟩ := hok
  simp only at k1 k2 k3
  rw [hn] at k3
  have hbx := h.box
  simp only at hbx
  rw [hn] at hbx
  have HBX : Hid (Box.Cells V b (room : Int) p n c last) := hide ((box_cells hbx).later bV)
  have HPQ := hide (h.later bV)
  have HBV := hide bV
  have HSB := hide hsB
  have HU := hide u3
  have HN := hide hn
  obtain ⟨_, _, _, _, v0, v1, v2, v3⟩ := four u3
  clear h bV u3 hbx hn
  go_enter Try.func12, Try.ntmps12
  go_upto_region 1 with fail
  rw [← hV]
  try rw [hsB]
  clear hV hsB
  go_wp2_with fail
  refine (made_any HBX.out (by omega)).mono ?_
  rintro _ w0 ⟨rfl, rfl⟩
  go_wp2_with fail
  refine check_any.mono ?_
  rintro _ w1 ⟨rfl, b1⟩
  rw [check_yes HF.out]
  have HB1 : Hid (Below W.heap.size W w1) := hide (HBV.out.trans (b1.mono HBV.out.size))
  have HBX1 := hide (HBX.out.later b1)
  have HPQ1 := hide (HPQ.out.later b1)
  have hu1 := (b1.block sB (Array.getElem?_eq_some_iff.1 HU.out).1).trans HU.out
  have HU1 := hide hu1
  clear b1 v0 v1 v2 v3 hu1 HBX HPQ HU HBV
  go_wp2_with fail
  refine (left_any HBX1.out (by omega) (by omega) (by omega)).mono ?_
  rintro _ w2 ⟨rfl, b2⟩
  have HB2 : Hid (Below W.heap.size W w2) := hide (HB1.out.trans (b2.mono HB1.out.size))
  have HPQ2 := hide (HPQ1.out.later b2)
  have hu2 := (b2.block sB (Array.getElem?_eq_some_iff.1 HU1.out).1).trans HU1.out
  obtain ⟨_, _, _, _, v0, v1, v2, v3⟩ := four hu2
  have HU2 := hide hu2
  have hcl := (HBX1.out.later b2).c2
  clear b2 HBX1 HPQ1 HU1 HB1 hu2
  have q1 : (((room : Int) - (n : Int)) == 0) = true := by rw [HR.out]; simp
  clear v0 v1 v2 v3 hcl
  go_wp2
  go_ret
  exact ⟨rfl, HB2.out⟩
set_option maxRecDepth 100000 in
set_option maxHeartbeats 2000000 in
theorem put_rec {base : Nat} {W : World} {b : Nat} {p : Option Addr} {c : Nat} {room : Nat} {evs : List EV} {last : Int} {ky vl id : Int} {n : Nat} (hn : evs.length = n) (h : PQ base W b p c ⟨room, evs, last⟩) (hok : QC.ok ⟨room, evs, last⟩) (hf : fits ⟨1, ky, vl, id⟩) (hr : n < room) :
    Calls Try.prog 12 #[.pointer (some ⟨b, 0, none⟩), .agg #[.int .i64 1, .int .i64 ky, .int .i64 vl, .int .i64 id]] W fun r w' => r = .returned (.int .i64 0) ∧ Put base W w' b p ⟨room, evs ++ [⟨1, ky, vl, id⟩], last⟩ := by
  have HF := hide hf
  clear hf
  obtain ⟨V, hV⟩ : ∃ V, V = W.alloc (.cells #[.int .i64 1, .int .i64 ky, .int .i64 vl, .int .i64 id] 34 (0, 0)) := ⟨_, rfl⟩
  have bV : Below W.heap.size W V := by rw [hV]; exact alloc_below _ _
  have u3 : V.heap[W.heap.size]? = some (.cells #[.int .i64 1, .int .i64 ky, .int .i64 vl, .int .i64 id] 34 (0, 0)) := by rw [hV]; exact heap_alloc_new W _
  obtain ⟨sB, hsB⟩ : ∃ sB, W.heap.size = sB := ⟨_, rfl⟩
  have hbs : b < sB := by rw [← hsB]; exact (Array.getElem?_eq_some_iff.1 h.box).1
  rw [hsB] at u3
  obtain ⟨k1, k2, k3, _⟩ := hok
  simp only at k1 k2 k3
  rw [hn] at k3
  have hbx := h.box
  simp only at hbx
  rw [hn] at hbx
  have HBX : Hid (Box.Cells V b (room : Int) p n c last) := hide ((box_cells hbx).later bV)
  have HPQ := hide (h.later bV)
  have HBV := hide bV
  have HSB := hide hsB
  have HU := hide u3
  have HN := hide hn
  obtain ⟨_, _, _, _, v0, v1, v2, v3⟩ := four u3
  clear h bV u3 hbx hn
  go_enter Try.func12, Try.ntmps12
  go_upto_region 1 with fail
  rw [← hV]
  try rw [hsB]
  clear hV hsB
  go_wp2_with fail
  refine (made_any HBX.out (by omega)).mono ?_
  rintro _ w0 ⟨rfl, rfl⟩
  go_wp2_with fail
  refine check_any.mono ?_
  rintro _ w1 ⟨rfl, b1⟩
  rw [check_yes HF.out]
  have HB1 : Hid (Below W.heap.size W w1) := hide (HBV.out.trans (b1.mono HBV.out.size))
  have HBX1 := hide (HBX.out.later b1)
  have HPQ1 := hide (HPQ.out.later b1)
  have hu1 := (b1.block sB (Array.getElem?_eq_some_iff.1 HU.out).1).trans HU.out
  have HU1 := hide hu1
  clear b1 v0 v1 v2 v3 hu1 HBX HPQ HU HBV
  go_wp2_with fail
  refine (left_any HBX1.out (by omega) (by omega) (by omega)).mono ?_
  rintro _ w2 ⟨rfl, b2⟩
  have HB2 : Hid (Below W.heap.size W w2) := hide (HB1.out.trans (b2.mono HB1.out.size))
  have HPQ2 := hide (HPQ1.out.later b2)
  have hu2 := (b2.block sB (Array.getElem?_eq_some_iff.1 HU1.out).1).trans HU1.out
  obtain ⟨_, _, _, _, v0, v1, v2, v3⟩ := four hu2
  have HU2 := hide hu2
  have hcl := (HBX1.out.later b2).c2
  clear b2 HBX1 HPQ1 HU1 HB1 hu2
  have q1 : (((room : Int) - (n : Int)) == 0) = false := ne_eq (by omega)
  clear hcl
  go_upto_region 12 with fail
  obtain ⟨Y, hY⟩ : ∃ Y, Y = w2 := ⟨_, rfl⟩
  rw [← hY] at HPQ2 HU2 HB2 v0 v1 v2 v3 ⊢
  have HPY := HPQ2
  have HUY := HU2
  have HOY : Hid (Only (PQ.at b p) W Y) := hide (Only.fresh HB2.out _)
  clear hY q1 HPQ2 HU2 HB2
  obtain ⟨i0, hI0, hz0, hz1, hz2⟩ := info_parts Try.infoEv
  have hab := alloc_below Y (.cells #[.int .i64 1, .int .i64 ky, .int .i64 vl, .int .i64 id] 34 (0, 0))
  have HAB := hide hab
  have hrw := HPY.out.row
  simp only at hrw
  rw [HN.out] at hrw
  have HRW := hide (ownsRow_later hrw hab)
  have HK1 : Hid (n + 1 ≤ maxLen) := by show _ ≤ _; unfold maxLen; omega
  have HK2 : Hid ((n + 1) * 32 ≤ 140737488355328) := by show _ ≤ _; omega
  have hby := HPY.out.box
  simp only at hby
  rw [HN.out] at hby
  have HBY := hide hby
  have cb := (box_cells hby).c1
  have hYb := (Array.getElem?_eq_some_iff.1 hby).1
  have hYs := (Array.getElem?_eq_some_iff.1 HUY.out).1
  have HGE : Hid (base ≤ (Y.alloc (.cells #[.int .i64 1, .int .i64 ky, .int .i64 vl, .int .i64 id] 34 (0, 0))).heap.size) := hide (by have := HPY.out.ge; have := hab.size; omega)
  clear hab hrw hby
  go_region_law (refine step_append_at rfl (.tmp 36) (.tmp 38) 44 rfl base 34 i0 (.agg #[.int .i64 0, .int .i64 0, .int .i64 0, .int .i64 0]) 4 32 Try.underlying44 hI0 hz0 hz1 hz2 rfl (by decide) (.slice p n c) n _ (by simp [Act.eval]) HRW.out.drew ⟨Y.heap.size, 0, none⟩ 1 1 [.int .i64 1, .int .i64 ky, .int .i64 vl, .int .i64 id] (by simp [Act.eval]) rfl (World.news_of_block (heap_alloc_new Y _)) (by simp [Value.oneCell']) HK1.out HK2.out HGE.out ?_; intro p6 c6 w6 o6 g6 k6; have hoW : Only (fun i => (Value.slice p n c).ownBlock = some i) Y w6 := (Only.alloc (fun i => (Value.slice p n c).ownBlock = some i) Y _).drew.trans (Only.of_grown g6 (fun k e => e)); have hb6 := hoW.obj HBY.out (fun e => by obtain ⟨_, cur, h1⟩ := own_block_lt HRW.out e; rw [HAB.out.block b hYb, HBY.out] at h1; simp at h1); have cb6 := (box_cells hb6).c1; have cf6 : w6.frozen? ⟨b, 1, none⟩ = false := by simp [World.frozen?, hb6])
  all_goals
    have HPU := hide (put_ends (q := ⟨room, evs, last⟩) (e := ⟨1, ky, vl, id⟩) HOY.out HPY.out HN.out HAB.out.drew o6 g6 k6)
    clear o6 g6 k6 hoW hb6 cb6 cf6 cb HRW HAB HGE HK1 HK2 HBY
    go_wp2
    go_ret
    first | exact ⟨rfl, HPU.out⟩ | exact ⟨rfl, HPU.out.drew⟩
set_option maxRecDepth 100000 in
set_option maxHeartbeats 2000000 in
theorem put_past {base : Nat} {W : World} {b : Nat} {p : Option Addr} {c : Nat} {room : Nat} {evs : List EV} {last : Int} {ky vl id : Int} {n : Nat} (hn : evs.length = n) (h : PQ base W b p c ⟨room, evs, last⟩) (hok : QC.ok ⟨room, evs, last⟩) (hf : fits ⟨2, ky, vl, id⟩) (hr : n < room) (hi : id ≤ last) :
    Calls Try.prog 12 #[.pointer (some ⟨b, 0, none⟩), .agg #[.int .i64 2, .int .i64 ky, .int .i64 vl, .int .i64 id]] W fun r w' => r = .returned (.int .i64 7) ∧ Below W.heap.size W w' := by
  have HF := hide hf
  clear hf
  obtain ⟨V, hV⟩ : ∃ V, V = W.alloc (.cells #[.int .i64 2, .int .i64 ky, .int .i64 vl, .int .i64 id] 34 (0, 0)) := ⟨_, rfl⟩
  have bV : Below W.heap.size W V := by rw [hV]; exact alloc_below _ _
  have u3 : V.heap[W.heap.size]? = some (.cells #[.int .i64 2, .int .i64 ky, .int .i64 vl, .int .i64 id] 34 (0, 0)) := by rw [hV]; exact heap_alloc_new W _
  obtain ⟨sB, hsB⟩ : ∃ sB, W.heap.size = sB := ⟨_, rfl⟩
  have hbs : b < sB := by rw [← hsB]; exact (Array.getElem?_eq_some_iff.1 h.box).1
  rw [hsB] at u3
  obtain ⟨k1, k2, k3, _⟩ := hok
  simp only at k1 k2 k3
  rw [hn] at k3
  have hbx := h.box
  simp only at hbx
  rw [hn] at hbx
  have HBX : Hid (Box.Cells V b (room : Int) p n c last) := hide ((box_cells hbx).later bV)
  have HPQ := hide (h.later bV)
  have HBV := hide bV
  have HSB := hide hsB
  have HU := hide u3
  have HN := hide hn
  obtain ⟨_, _, _, _, v0, v1, v2, v3⟩ := four u3
  clear h bV u3 hbx hn
  go_enter Try.func12, Try.ntmps12
  go_upto_region 1 with fail
  rw [← hV]
  try rw [hsB]
  clear hV hsB
  go_wp2_with fail
  refine (made_any HBX.out (by omega)).mono ?_
  rintro _ w0 ⟨rfl, rfl⟩
  go_wp2_with fail
  refine check_any.mono ?_
  rintro _ w1 ⟨rfl, b1⟩
  rw [check_yes HF.out]
  have HB1 : Hid (Below W.heap.size W w1) := hide (HBV.out.trans (b1.mono HBV.out.size))
  have HBX1 := hide (HBX.out.later b1)
  have HPQ1 := hide (HPQ.out.later b1)
  have hu1 := (b1.block sB (Array.getElem?_eq_some_iff.1 HU.out).1).trans HU.out
  have HU1 := hide hu1
  clear b1 v0 v1 v2 v3 hu1 HBX HPQ HU HBV
  go_wp2_with fail
  refine (left_any HBX1.out (by omega) (by omega) (by omega)).mono ?_
  rintro _ w2 ⟨rfl, b2⟩
  have HB2 : Hid (Below W.heap.size W w2) := hide (HB1.out.trans (b2.mono HB1.out.size))
  have HPQ2 := hide (HPQ1.out.later b2)
  have hu2 := (b2.block sB (Array.getElem?_eq_some_iff.1 HU1.out).1).trans HU1.out
  obtain ⟨_, _, _, _, v0, v1, v2, v3⟩ := four hu2
  have HU2 := hide hu2
  have hcl := (HBX1.out.later b2).c2
  clear b2 HBX1 HPQ1 HU1 HB1 hu2
  have q1 : (((room : Int) - (n : Int)) == 0) = false := ne_eq (by omega)
  have q2 : decide (id ≤ last) = true := decide_eq_true hi
  go_upto_region 9 with fail
  go_big_quiet (fail)
  go_wp2
  go_ret
  exact ⟨rfl, below_drewN HB2.out _⟩
set_option maxRecDepth 100000 in
set_option maxHeartbeats 2000000 in
theorem put_bar {base : Nat} {W : World} {b : Nat} {p : Option Addr} {c : Nat} {room : Nat} {evs : List EV} {last : Int} {ky vl id : Int} {n : Nat} (hn : evs.length = n) (h : PQ base W b p c ⟨room, evs, last⟩) (hok : QC.ok ⟨room, evs, last⟩) (hf : fits ⟨2, ky, vl, id⟩) (hr : n < room) (hi : last < id) :
    Calls Try.prog 12 #[.pointer (some ⟨b, 0, none⟩), .agg #[.int .i64 2, .int .i64 ky, .int .i64 vl, .int .i64 id]] W fun r w' => r = .returned (.int .i64 0) ∧ Put base W w' b p ⟨room, evs ++ [⟨2, ky, vl, id⟩], id⟩ := by
  have HF := hide hf
  clear hf
  obtain ⟨V, hV⟩ : ∃ V, V = W.alloc (.cells #[.int .i64 2, .int .i64 ky, .int .i64 vl, .int .i64 id] 34 (0, 0)) := ⟨_, rfl⟩
  have bV : Below W.heap.size W V := by rw [hV]; exact alloc_below _ _
  have u3 : V.heap[W.heap.size]? = some (.cells #[.int .i64 2, .int .i64 ky, .int .i64 vl, .int .i64 id] 34 (0, 0)) := by rw [hV]; exact heap_alloc_new W _
  obtain ⟨sB, hsB⟩ : ∃ sB, W.heap.size = sB := ⟨_, rfl⟩
  have hbs : b < sB := by rw [← hsB]; exact (Array.getElem?_eq_some_iff.1 h.box).1
  rw [hsB] at u3
  obtain ⟨k1, k2, k3, _⟩ := hok
  simp only at k1 k2 k3
  rw [hn] at k3
  have hbx := h.box
  simp only at hbx
  rw [hn] at hbx
  have HBX : Hid (Box.Cells V b (room : Int) p n c last) := hide ((box_cells hbx).later bV)
  have HPQ := hide (h.later bV)
  have HBV := hide bV
  have HSB := hide hsB
  have HU := hide u3
  have HN := hide hn
  obtain ⟨_, _, _, _, v0, v1, v2, v3⟩ := four u3
  clear h bV u3 hbx hn
  go_enter Try.func12, Try.ntmps12
  go_upto_region 1 with fail
  rw [← hV]
  try rw [hsB]
  clear hV hsB
  go_wp2_with fail
  refine (made_any HBX.out (by omega)).mono ?_
  rintro _ w0 ⟨rfl, rfl⟩
  go_wp2_with fail
  refine check_any.mono ?_
  rintro _ w1 ⟨rfl, b1⟩
  rw [check_yes HF.out]
  have HB1 : Hid (Below W.heap.size W w1) := hide (HBV.out.trans (b1.mono HBV.out.size))
  have HBX1 := hide (HBX.out.later b1)
  have HPQ1 := hide (HPQ.out.later b1)
  have hu1 := (b1.block sB (Array.getElem?_eq_some_iff.1 HU.out).1).trans HU.out
  have HU1 := hide hu1
  clear b1 v0 v1 v2 v3 hu1 HBX HPQ HU HBV
  go_wp2_with fail
  refine (left_any HBX1.out (by omega) (by omega) (by omega)).mono ?_
  rintro _ w2 ⟨rfl, b2⟩
  have HB2 : Hid (Below W.heap.size W w2) := hide (HB1.out.trans (b2.mono HB1.out.size))
  have HPQ2 := hide (HPQ1.out.later b2)
  have hu2 := (b2.block sB (Array.getElem?_eq_some_iff.1 HU1.out).1).trans HU1.out
  obtain ⟨_, _, _, _, v0, v1, v2, v3⟩ := four hu2
  have HU2 := hide hu2
  have hcl := (HBX1.out.later b2).c2
  clear b2 HBX1 HPQ1 HU1 HB1 hu2
  have q1 : (((room : Int) - (n : Int)) == 0) = false := ne_eq (by omega)
  have q2 : decide (id ≤ last) = false := decide_eq_false (by omega)
  go_upto_region 9 with fail
  go_big_quiet (fail)
  have cf2 : ∀ k, (w2.drewN k).frozen? ⟨b, 2, none⟩ = false := fun k => by
    have := HPQ2.out.box
    simp only at this
    simp [World.drewN, World.frozen?, this]
  go_upto_region 12 with fail
  obtain ⟨Z, hZ⟩ : ∃ Z, Z = w2.drewN nq := ⟨_, rfl⟩
  rw [← hZ]
  have bZ : Below w2.heap.size w2 Z := by rw [hZ]; exact below_drewN (Below.refl _ _) _
  have HPZ := hide (HPQ2.out.later bZ)
  have HUZ := hide ((bZ.block sB (Array.getElem?_eq_some_iff.1 HU2.out).1).trans HU2.out)
  have HBZ : Hid (Below W.heap.size W Z) := hide (HB2.out.trans (bZ.mono HB2.out.size))
  clear hZ bZ HPQ2 HU2 HB2 v0 v1 v2 v3 hcl q2 cf2 q1
  obtain ⟨Y, hY⟩ : ∃ Y, Y = Z.setCell ⟨b, 2, none⟩ (.int .i64 id) := ⟨_, rfl⟩
  rw [← hY]
  have hoY : Only (· = b) Z Y := by rw [hY]; exact Only.set (F := (· = b)) Z b 2 _ rfl
  have HUY := hide (hoY.obj HUZ.out (fun e => by have e' : sB = b := e; omega))
  have HPY : Hid (PQ base Y b p c ⟨room, evs, id⟩) := by
    refine hide ⟨?_, ownsRow_only HPZ.out.row hoY (fun i hi e => ?_), HPZ.out.ge⟩
    · rw [hY, heap_set_same HPZ.out.box]
      simp
    · have e' : i = b := e
      subst e'
      obtain ⟨_, cur, h1⟩ := own_block_lt HPZ.out.row hi
      rw [HPZ.out.box] at h1
      simp at h1
  have HOY : Hid (Only (PQ.at b p) W Y) := hide ((Only.fresh HBZ.out _).trans (hoY.mono (fun i _ e => .inl e)))
  obtain ⟨_, _, _, _, v0, v1, v2, v3⟩ := four HUY.out
  clear hY hoY HPZ HUZ HBZ
  obtain ⟨i0, hI0, hz0, hz1, hz2⟩ := info_parts Try.infoEv
  have hab := alloc_below Y (.cells #[.int .i64 2, .int .i64 ky, .int .i64 vl, .int .i64 id] 34 (0, 0))
  have HAB := hide hab
  have hrw := HPY.out.row
  simp only at hrw
  rw [HN.out] at hrw
  have HRW := hide (ownsRow_later hrw hab)
  have HK1 : Hid (n + 1 ≤ maxLen) := by show _ ≤ _; unfold maxLen; omega
  have HK2 : Hid ((n + 1) * 32 ≤ 140737488355328) := by show _ ≤ _; omega
  have hby := HPY.out.box
  simp only at hby
  rw [HN.out] at hby
  have HBY := hide hby
  have cb := (box_cells hby).c1
  have hYb := (Array.getElem?_eq_some_iff.1 hby).1
  have hYs := (Array.getElem?_eq_some_iff.1 HUY.out).1
  have HGE : Hid (base ≤ (Y.alloc (.cells #[.int .i64 2, .int .i64 ky, .int .i64 vl, .int .i64 id] 34 (0, 0))).heap.size) := hide (by have := HPY.out.ge; have := hab.size; omega)
  clear hab hrw hby
  go_region_law (refine step_append_at rfl (.tmp 36) (.tmp 38) 44 rfl base 34 i0 (.agg #[.int .i64 0, .int .i64 0, .int .i64 0, .int .i64 0]) 4 32 Try.underlying44 hI0 hz0 hz1 hz2 rfl (by decide) (.slice p n c) n _ (by simp [Act.eval]) HRW.out.drew ⟨Y.heap.size, 0, none⟩ 1 1 [.int .i64 2, .int .i64 ky, .int .i64 vl, .int .i64 id] (by simp [Act.eval]) rfl (World.news_of_block (heap_alloc_new Y _)) (by simp [Value.oneCell']) HK1.out HK2.out HGE.out ?_; intro p6 c6 w6 o6 g6 k6; have hoW : Only (fun i => (Value.slice p n c).ownBlock = some i) Y w6 := (Only.alloc (fun i => (Value.slice p n c).ownBlock = some i) Y _).drew.trans (Only.of_grown g6 (fun k e => e)); have hb6 := hoW.obj HBY.out (fun e => by obtain ⟨_, cur, h1⟩ := own_block_lt HRW.out e; rw [HAB.out.block b hYb, HBY.out] at h1; simp at h1); have cb6 := (box_cells hb6).c1; have cf6 : w6.frozen? ⟨b, 1, none⟩ = false := by simp [World.frozen?, hb6])
  all_goals
    have HPU := hide (put_ends (q := ⟨room, evs, id⟩) (e := ⟨2, ky, vl, id⟩) HOY.out HPY.out HN.out HAB.out.drew o6 g6 k6)
    clear o6 g6 k6 hoW hb6 cb6 cf6 cb HRW HAB HGE HK1 HK2 HBY
    go_wp2
    go_ret
    first | exact ⟨rfl, HPU.out⟩ | exact ⟨rfl, HPU.out.drew⟩

/-- Put of the program's queue. -/
theorem put_any {base : Nat} {W : World} {b : Nat} {p : Option Addr} {c : Nat} {q : QC} (h : PQ base W b p c q) (hok : q.ok) (x : EV) :
    Calls Try.prog 12 #[.pointer (some ⟨b, 0, none⟩), x.agg] W fun r w' => r = .returned (.int .i64 (q.err x)) ∧ Put base W w' b p (q.put x) := by
  obtain ⟨kd, ky, vl, id⟩ := x
  have k3 := hok.2.2.1
  obtain ⟨room, evs, last⟩ := q
  simp only at k3
  by_cases hf : fits ⟨kd, ky, vl, id⟩
  · by_cases hr : room ≤ evs.length
    · have e1 : QC.err ⟨room, evs, last⟩ ⟨kd, ky, vl, id⟩ = 6 := by unfold QC.err; rw [if_pos hf, if_pos hr]
      have e2 : QC.put ⟨room, evs, last⟩ ⟨kd, ky, vl, id⟩ = ⟨room, evs, last⟩ := by unfold QC.put; rw [e1]; rfl
      rw [e1, e2]
      exact (put_full rfl h hok hf (by omega)).mono fun e w' h' => ⟨h'.1, Put.same h h'.2⟩
    · rcases fits_kind hf with hk | hk
      · obtain rfl : kd = 1 := hk
        have e1 : QC.err ⟨room, evs, last⟩ ⟨1, ky, vl, id⟩ = 0 := by unfold QC.err; rw [if_pos hf, if_neg hr, if_neg (by simp)]
        have e2 : QC.put ⟨room, evs, last⟩ ⟨1, ky, vl, id⟩ = ⟨room, evs ++ [⟨1, ky, vl, id⟩], last⟩ := by unfold QC.put; rw [e1, if_pos rfl]; rfl
        rw [e1, e2]
        exact (put_rec rfl h hok hf (by omega)).mono fun e w' h' => h'
      · obtain rfl : kd = 2 := hk
        by_cases hi : id ≤ last
        · have e1 : QC.err ⟨room, evs, last⟩ ⟨2, ky, vl, id⟩ = 7 := by unfold QC.err; rw [if_pos hf, if_neg hr, if_pos ⟨rfl, hi⟩]
          have e2 : QC.put ⟨room, evs, last⟩ ⟨2, ky, vl, id⟩ = ⟨room, evs, last⟩ := by unfold QC.put; rw [e1]; rfl
          rw [e1, e2]
          exact (put_past rfl h hok hf (by omega) hi).mono fun e w' h' => ⟨h'.1, Put.same h h'.2⟩
        · have e1 : QC.err ⟨room, evs, last⟩ ⟨2, ky, vl, id⟩ = 0 := by unfold QC.err; rw [if_pos hf, if_neg hr, if_neg (fun h => hi h.2)]
          have e2 : QC.put ⟨room, evs, last⟩ ⟨2, ky, vl, id⟩ = ⟨room, evs ++ [⟨2, ky, vl, id⟩], id⟩ := by unfold QC.put; rw [e1, if_pos rfl]; rfl
          rw [e1, e2]
          exact (put_bar rfl h hok hf (by omega) (by omega)).mono fun e w' h' => h'
  · have e1 : QC.err ⟨room, evs, last⟩ ⟨kd, ky, vl, id⟩ = 1 := by unfold QC.err; rw [if_neg hf]
    have e2 : QC.put ⟨room, evs, last⟩ ⟨kd, ky, vl, id⟩ = ⟨room, evs, last⟩ := by unfold QC.put; rw [e1]; rfl
    rw [e1, e2]
    exact (put_bad rfl h hok hf).mono fun e w' h' => ⟨h'.1, Put.same h h'.2⟩
end Go.Proofs.Ytmmdgffgnpnmeaa
