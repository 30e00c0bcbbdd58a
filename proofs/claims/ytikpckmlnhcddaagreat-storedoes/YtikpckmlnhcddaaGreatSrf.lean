/-
  The law's refused: whether the reference refuses an operation. The conditions: lengths.
-/
import Derived.Test.YtikpckmlnhcddaaGreatBui
import Derived.Test.YtikpckmlnhcddaaGreatSme
import Derived.Test.YtikpckmlnhcddaaGreatLvs
namespace Go.Proofs.YtikpckmlnhcddaaGreat
open Go.RowKit Go.Maps

def FPost (W : World) (xb : Nat) (R : RS) (b : Bool) (e : Ending) (w' : World) : Prop := e = .returned (.bool b) ∧ Only (rown xb R) W w'

set_option maxRecDepth 100000 in
set_option maxHeartbeats 2000000 in
theorem refused0 {W : World} {xb B : Nat} {R : RS} (h : RRep W xb R) (g : Good R) (_hP : R.P.length < 2199023255552) {s t : ByteArray} {k m : Int} {bp : Option Addr} {bc : Nat} {b : By} (_ho : OpOk W B s t k m bp bc b) :
    Calls Tryz.prog 25 #[.pointer (some ⟨xb, 0, none⟩), .agg #[.int .i64 0, .string s, .string t, .int .i64 k, .int .i64 m, .slice bp b.length bc]] W (FPost W xb R (R.core.createE s.data.toList != 0)) := by
  have hb0 := alloc_below W (Obj.cells #[Value.int IntKind.i64 0, Value.string s, Value.string t, Value.int IntKind.i64 k, Value.int IntKind.i64 m, Value.slice bp b.length bc] 33)
  have HQ := hide (qcreate (h.fresh hb0) g (s := s))
  obtain ⟨E, hE⟩ : ∃ E, R.core.createE s.data.toList = E := ⟨_, rfl⟩
  rw [hE] at HQ
  have HB0 := hide hb0
  clear h g _hP _ho hb0
  go_enter Tryz.func25, Tryz.ntmps25
  go_wp2_with fail
  refine HQ.out.mono ?_
  rintro _ w2 ⟨rfl, R2, hr2, hst2, hc2⟩
  have HO : Hid (Only (rown xb R) W w2) := hide ((Only.fresh HB0.out _).step hst2.only (fun _ e => .inl e))
  clear hr2 hst2 hc2 HQ HB0
  go_wp2
  go_ret
  exact ⟨by rw [hE]; rfl, HO.out⟩

set_option maxRecDepth 100000 in
set_option maxHeartbeats 2000000 in
theorem refused1 {W : World} {xb B : Nat} {R : RS} (h : RRep W xb R) (g : Good R) (hP : R.P.length < 2199023255552) {s t : ByteArray} {k m : Int} {bp : Option Addr} {bc : Nat} {b : By} (ho : OpOk W B s t k m bp bc b) :
    Calls Tryz.prog 25 #[.pointer (some ⟨xb, 0, none⟩), .agg #[.int .i64 1, .string s, .string t, .int .i64 k, .int .i64 m, .slice bp b.length bc]] W (FPost W xb R (R.core.writeE s.data.toList k b != 0)) := by
  have hb0 := alloc_below W (Obj.cells #[Value.int IntKind.i64 1, Value.string s, Value.string t, Value.int IntKind.i64 k, Value.int IntKind.i64 m, Value.slice bp b.length bc] 33)
  have HQ := hide (qwrite (h.fresh hb0) g hP (s := s) (k := k) (ho.row.below hb0) ho.u8)
  obtain ⟨E, hE⟩ : ∃ E, R.core.writeE s.data.toList k b = E := ⟨_, rfl⟩
  rw [hE] at HQ
  have HB0 := hide hb0
  clear h g hP ho hb0
  go_enter Tryz.func25, Tryz.ntmps25
  go_wp2_with fail
  refine HQ.out.mono ?_
  rintro _ w2 ⟨rfl, R2, hr2, hst2, hc2⟩
  have HO : Hid (Only (rown xb R) W w2) := hide ((Only.fresh HB0.out _).step hst2.only (fun _ e => .inl e))
  clear hr2 hst2 hc2 HQ HB0
  go_wp2
  go_ret
  exact ⟨by rw [hE]; rfl, HO.out⟩

set_option maxRecDepth 100000 in
set_option maxHeartbeats 2000000 in
theorem refused2 {W : World} {xb B : Nat} {R : RS} (h : RRep W xb R) (g : Good R) (_hP : R.P.length < 2199023255552) {s t : ByteArray} {k m : Int} {bp : Option Addr} {bc : Nat} {b : By} (_ho : OpOk W B s t k m bp bc b) :
    Calls Tryz.prog 25 #[.pointer (some ⟨xb, 0, none⟩), .agg #[.int .i64 2, .string s, .string t, .int .i64 k, .int .i64 m, .slice bp b.length bc]] W (FPost W xb R (R.core.cutE s.data.toList k != 0)) := by
  have hb0 := alloc_below W (Obj.cells #[Value.int IntKind.i64 2, Value.string s, Value.string t, Value.int IntKind.i64 k, Value.int IntKind.i64 m, Value.slice bp b.length bc] 33)
  have HQ := hide (qcut (h.fresh hb0) g (s := s) (k := k))
  obtain ⟨E, hE⟩ : ∃ E, R.core.cutE s.data.toList k = E := ⟨_, rfl⟩
  rw [hE] at HQ
  have HB0 := hide hb0
  clear h g _hP _ho hb0
  go_enter Tryz.func25, Tryz.ntmps25
  go_wp2_with fail
  refine HQ.out.mono ?_
  rintro _ w2 ⟨rfl, R2, hr2, hst2, hc2⟩
  have HO : Hid (Only (rown xb R) W w2) := hide ((Only.fresh HB0.out _).step hst2.only (fun _ e => .inl e))
  clear hr2 hst2 hc2 HQ HB0
  go_wp2
  go_ret
  exact ⟨by rw [hE]; rfl, HO.out⟩

set_option maxRecDepth 100000 in
set_option maxHeartbeats 2000000 in
theorem refused4 {W : World} {xb B : Nat} {R : RS} (h : RRep W xb R) (g : Good R) (_hP : R.P.length < 2199023255552) {s t : ByteArray} {k m : Int} {bp : Option Addr} {bc : Nat} {b : By} (_ho : OpOk W B s t k m bp bc b) :
    Calls Tryz.prog 25 #[.pointer (some ⟨xb, 0, none⟩), .agg #[.int .i64 4, .string s, .string t, .int .i64 k, .int .i64 m, .slice bp b.length bc]] W (FPost W xb R (R.core.renameE s.data.toList t.data.toList != 0)) := by
  have hb0 := alloc_below W (Obj.cells #[Value.int IntKind.i64 4, Value.string s, Value.string t, Value.int IntKind.i64 k, Value.int IntKind.i64 m, Value.slice bp b.length bc] 33)
  have HQ := hide (qrename (h.fresh hb0) g (s := s) (t := t))
  obtain ⟨E, hE⟩ : ∃ E, R.core.renameE s.data.toList t.data.toList = E := ⟨_, rfl⟩
  rw [hE] at HQ
  have HB0 := hide hb0
  clear h g _hP _ho hb0
  go_enter Tryz.func25, Tryz.ntmps25
  go_wp2_with fail
  refine HQ.out.mono ?_
  rintro _ w2 ⟨rfl, R2, hr2, hst2, hc2⟩
  have HO : Hid (Only (rown xb R) W w2) := hide ((Only.fresh HB0.out _).step hst2.only (fun _ e => .inl e))
  clear hr2 hst2 hc2 HQ HB0
  go_wp2
  go_ret
  exact ⟨by rw [hE]; rfl, HO.out⟩

set_option maxRecDepth 100000 in
set_option maxHeartbeats 2000000 in
theorem refused5 {W : World} {xb B : Nat} {R : RS} (h : RRep W xb R) (g : Good R) (_hP : R.P.length < 2199023255552) {s t : ByteArray} {k m : Int} {bp : Option Addr} {bc : Nat} {b : By} (_ho : OpOk W B s t k m bp bc b) :
    Calls Tryz.prog 25 #[.pointer (some ⟨xb, 0, none⟩), .agg #[.int .i64 5, .string s, .string t, .int .i64 k, .int .i64 m, .slice bp b.length bc]] W (FPost W xb R (R.core.may s.data.toList != 0)) := by
  have hb0 := alloc_below W (Obj.cells #[Value.int IntKind.i64 5, Value.string s, Value.string t, Value.int IntKind.i64 k, Value.int IntKind.i64 m, Value.slice bp b.length bc] 33)
  have HQ := hide (qremove (h.fresh hb0) g (s := s))
  obtain ⟨E, hE⟩ : ∃ E, R.core.may s.data.toList = E := ⟨_, rfl⟩
  rw [hE] at HQ
  have HB0 := hide hb0
  clear h g _hP _ho hb0
  go_enter Tryz.func25, Tryz.ntmps25
  go_wp2_with fail
  refine HQ.out.mono ?_
  rintro _ w2 ⟨rfl, R2, hr2, hst2, hc2⟩
  have HO : Hid (Only (rown xb R) W w2) := hide ((Only.fresh HB0.out _).step hst2.only (fun _ e => .inl e))
  clear hr2 hst2 hc2 HQ HB0
  go_wp2
  go_ret
  exact ⟨by rw [hE]; rfl, HO.out⟩

set_option maxRecDepth 100000 in
set_option maxHeartbeats 2000000 in
theorem refused9 {W : World} {xb : Nat} {R : RS} {d : Int} (hd : d ≠ 0 ∧ d ≠ 1 ∧ d ≠ 2 ∧ d ≠ 4 ∧ d ≠ 5) {s t : ByteArray} {k m : Int} {bp : Option Addr} {bn bc : Nat} :
    Calls Tryz.prog 25 #[.pointer (some ⟨xb, 0, none⟩), .agg #[.int .i64 d, .string s, .string t, .int .i64 k, .int .i64 m, .slice bp bn bc]] W (FPost W xb R false) := by
  have e0 : (d == 0) = false := by simp; omega
  have e1 : (d == 1) = false := by simp; omega
  have e2 : (d == 2) = false := by simp; omega
  have e4 : (d == 4) = false := by simp; omega
  have e5 : (d == 5) = false := by simp; omega
  clear hd
  go_enter Tryz.func25, Tryz.ntmps25
  go_wp2
  go_ret
  exact ⟨rfl, Only.fresh (alloc_below _ _) _⟩

/-- What is refused. -/
def OpV.refused (o : OpV) (r : RC) : Bool :=
  if o.d = 0 then r.createE o.s.data.toList != 0 else if o.d = 1 then r.writeE o.s.data.toList o.k o.b != 0 else if o.d = 2 then r.cutE o.s.data.toList o.k != 0 else if o.d = 4 then r.renameE o.s.data.toList o.t.data.toList != 0 else if o.d = 5 then r.may o.s.data.toList != 0 else false
theorem OpV.refused_step {o : OpV} {r : RC} (h : o.refused r = true) : o.step r = r := by
  unfold OpV.refused at h
  unfold OpV.step stepC
  by_cases e0 : o.d = 0
  · rw [if_pos e0] at h
    rw [if_pos e0]
    unfold RC.create
    rw [if_neg (by simpa using h)]
  rw [if_neg e0] at h
  rw [if_neg e0]
  by_cases e1 : o.d = 1
  · rw [if_pos e1] at h
    rw [if_pos e1]
    unfold RC.write
    rw [if_neg (fun hc => absurd hc.1 (by simpa using h))]
  rw [if_neg e1] at h
  rw [if_neg e1]
  by_cases e2 : o.d = 2
  · rw [if_pos e2] at h
    rw [if_pos e2]
    unfold RC.cut
    rw [if_neg (by simpa using h)]
  rw [if_neg e2] at h
  rw [if_neg e2]
  by_cases e4 : o.d = 4
  · rw [if_pos e4] at h
    rw [if_neg (by omega), if_pos e4]
    unfold RC.rename
    rw [if_neg (fun hc => absurd hc.1 (by simpa using h))]
  rw [if_neg e4] at h
  by_cases e5 : o.d = 5
  · rw [if_pos e5] at h
    rw [if_neg (by omega), if_neg e4, if_pos e5]
    unfold RC.remove
    rw [if_neg (by simpa using h)]
  rw [if_neg e5] at h
  exact absurd h (by decide)
theorem refused_any {W : World} {xb B : Nat} {R : RS} (h : RRep W xb R) (g : Good R) (hP : R.P.length < 2199023255552) {o : OpV} (ho : o.ok W B) :
    Calls Tryz.prog 25 #[.pointer (some ⟨xb, 0, none⟩), .agg #[.int .i64 o.d, .string o.s, .string o.t, .int .i64 o.k, .int .i64 o.m, .slice o.bp o.b.length o.bc]] W (FPost W xb R (o.refused R.core)) := by
  obtain ⟨d, s, t, k, m, bp, bc, b⟩ := o
  unfold OpV.refused
  unfold OpV.ok at ho
  simp only at ho ⊢
  by_cases e0 : d = 0
  · subst e0; exact refused0 h g hP ho
  by_cases e1 : d = 1
  · subst e1; exact refused1 h g hP ho
  by_cases e2 : d = 2
  · subst e2; exact refused2 h g hP ho
  by_cases e4 : d = 4
  · subst e4; exact refused4 h g hP ho
  by_cases e5 : d = 5
  · subst e5; exact refused5 h g hP ho
  simp only [e0, e1, e2, e4, e5, if_false]
  exact refused9 ⟨e0, e1, e2, e4, e5⟩
end Go.Proofs.YtikpckmlnhcddaaGreat

/-
  StoreRefuses, walked: for any operations and room. The conditions: lengths; what is handed in lies as arguments do.
-/
namespace Go.Proofs.YtikpckmlnhcddaaGreat
open Go.RowKit Go.Maps

def runC (r : RC) (os : List OpV) : RC := os.foldl (fun r o => o.step r) r
theorem runC_snoc (r : RC) (os : List OpV) (o : OpV) : runC r (os ++ [o]) = o.step (runC r os) := by simp [runC]
theorem step_most (o : OpV) (r : RC) : (o.step r).most = r.most := by
  unfold OpV.step stepC
  split
  · unfold RC.create; split <;> rfl
  split
  · unfold RC.write; split <;> rfl
  split
  · unfold RC.cut; split <;> rfl
  split
  · unfold RC.sync; split <;> rfl
  split
  · unfold RC.rename; split <;> rfl
  split
  · unfold RC.remove; split <;> rfl
  split
  · unfold RC.crash; split <;> rfl
  split
  · unfold RC.start; split <;> rfl
  · rfl
theorem run_most (os : List OpV) : ∀ r : RC, (runC r os).most = r.most := by
  induction os with
  | nil => intro r; rfl
  | cons o os ih => intro r; show (runC (o.step r) os).most = _; rw [ih, step_most]
theorem Prg.left_in {W : World} {sb mb N : Nat} {fs : List MF} {r : RC} (h : Prg W sb mb fs r N) : 0 ≤ r.left ∧ r.left ≤ r.most := by
  obtain ⟨J, left, pend, turn, _, h2⟩ := h
  have h3 := h2.leftE
  have h4 := h2.left0
  refine ⟨by omega, ?_⟩
  unfold RC.left
  omega
theorem Prg.plen {W : World} {sb mb N : Nat} {fs : List MF} {r : RC} (h : Prg W sb mb fs r N) : r.P.length ≤ N := by
  obtain ⟨J, left, pend, turn, _, h2⟩ := h
  rw [h2.P, List.length_map]
  exact h2.len
theorem Good.blen {R : RS} (g : Good R) : ∀ f ∈ R.L, f.b.length ≤ 4194304 := by
  intro f hf
  obtain ⟨k, hk, rfl⟩ := List.getElem_of_mem hf
  have := (g.ok.all k hk).len 0 (Nat.zero_le _)
  rw [getElem!_pos R.L k hk] at this
  exact this

/-- What a round turns, beside two clones of the reference. -/
theorem clones_round {wx w5 w6 w7 : World} {sb mb rb c1 c2 N M B : Nat} {fs fs7 : List MF} {r r' : RC} {R R1 R2 R7 : RS} (t : Two wx sb mb rb fs r R N B) (b5 : Below wx.heap.size wx w5) (h5 : RRep w5 c1 R1) (n5 : ∀ i, rown c1 R1 i → wx.heap.size ≤ i) (v5 : ∀ i, rcov R1 i → rcov R i ∨ wx.heap.size ≤ i)
    (b6 : Below w5.heap.size w5 w6) (h6 : RRep w6 c2 R2) (n6 : ∀ i, rown c2 R2 i → w5.heap.size ≤ i) (v6 : ∀ i, rcov R2 i → rcov R i ∨ w5.heap.size ≤ i) (t7 : Two w7 sb mb rb fs7 r' R7 M B) (tu : Turns w6 w7 sb mb rb fs fs7 R R7) :
    RRep w7 c1 R1 ∧ RRep w7 c2 R2 ∧ ∀ w8, Only (rown c2 R2) w7 w8 → Two w8 sb mb rb fs7 r' R7 M B ∧ RRep w8 c1 R1 := by
  have s5 := b5.size
  have s6 := b6.size
  have o1 : ∀ i, own sb mb fs i → i < wx.heap.size := fun i hi => t.prg.own_lt hi
  have o2 : ∀ i, rown rb R i → i < wx.heap.size := fun i hi => t.ref.rown_lt hi
  have o3 : ∀ i, rcov R i → i < wx.heap.size := fun i hi => t.ref.rcov_lt hi
  have o4 : ∀ i, Go.Proofs.YtikpckmlnhcddaaGreat.covs fs i → i < wx.heap.size := fun i hi => t.prg.cov_lt hi
  have o5 : ∀ i, rown c2 R2 i → i < w6.heap.size := fun i hi => h6.rown_lt hi
  have notc : ∀ i, rcov R i → ¬ (own sb mb fs i ∨ rown rb R i) := fun i hi hf => hf.elim (fun e => (t.apart i e).2 hi) (fun e => t.ref.sep i hi e)
  have k1 : RRep w7 c1 R1 := (h5.fresh b6).only tu.only (fun i hi hf => by
    have := n5 i hi
    rcases hf with e | e
    · have := o1 i e; omega
    · have := o2 i e; omega) (fun i hi hf => by
    rcases v5 i hi with e | e
    · exact notc i e hf
    · rcases hf with e' | e'
      · have := o1 i e'; omega
      · have := o2 i e'; omega)
  have k2 : RRep w7 c2 R2 := h6.only tu.only (fun i hi hf => by
    have := n6 i hi
    rcases hf with e | e
    · have := o1 i e; omega
    · have := o2 i e; omega) (fun i hi hf => by
    rcases v6 i hi with e | e
    · exact notc i e hf
    · rcases hf with e' | e'
      · have := o1 i e'; omega
      · have := o2 i e'; omega)
  refine ⟨k1, k2, fun w8 ho => ⟨⟨?_, ?_, t7.apart, t7.covs, t7.base, t7.rbase, t7.cbase⟩, ?_⟩⟩
  · refine t7.prg.only ho (fun i hi hf => ?_) (fun i hi hf => ?_)
    · have a := n6 i hf
      have b := o5 i hf
      rcases tu.pown i hi with e | e
      · have := o1 i e; omega
      · omega
    · have a := n6 i hf
      have b := o5 i hf
      rcases tu.pcov i hi with e | e
      · have := o4 i e; omega
      · omega
  · refine t7.ref.only ho (fun i hi hf => ?_) (fun i hi hf => ?_)
    · have a := n6 i hf
      have b := o5 i hf
      rcases tu.own i hi with e | e
      · have := o2 i e; omega
      · omega
    · have a := n6 i hf
      have b := o5 i hf
      rcases tu.cov i hi with e | e
      · have := o3 i e; omega
      · omega
  · refine k1.only ho (fun i hi hf => ?_) (fun i hi hf => ?_)
    · have a := n6 i hf
      have := h5.rown_lt hi
      omega
    · have a := n6 i hf
      have := h5.rcov_lt hi
      omega

set_option maxRecDepth 100000 in
set_option maxHeartbeats 8000000 in
theorem refuses_walk {W : World} {v1 : Value} {os : List OpV} {room : Nat} (h1 : Ops W W.heap.size v1 os) (hroom : room < 256) (hl1 : os.length * 80 ≤ 140737488355328) :
    Calls Tryz.prog 5 #[.int .u8 room, v1] W fun e w' => e = .returned (.bool true) ∧ Below W.heap.size W w' := by
  obtain ⟨p1, cap1, rfl, a1, a2, _⟩ := id h1.form
  obtain ⟨B, hB⟩ : ∃ B, W.heap.size = B := ⟨_, rfl⟩
  have HLV := hide (live_any W)
  rw [hB] at h1 HLV ⊢
  have H1 := hide h1
  clear h1
  go_enter Tryz.func5, Tryz.ntmps5
  go_wp2_with fail
  refine HLV.out.mono ?_
  rintro _ w1 ⟨rfl, b1⟩
  have HB1 := hide b1
  have Z1 : B ≤ w1.heap.size := by rw [← hB]; exact b1.size
  have HN1 := hide (new_ok (W := w1) (room := (room : Int)) (by omega) (by omega))
  clear b1 HLV hB
  go_wp2_with fail
  refine HN1.out.mono ?_
  rintro _ w2 ⟨sb, mb, rfl, s2, hs, hm, b2⟩
  have HR2 := hide (rnew_ok (W := w2) (room := room) (by omega))
  have HS2 := hide s2
  have HB2 := hide b2
  clear s2 b2 HN1
  go_wp2_with fail
  refine HR2.out.mono ?_
  rintro _ w3 ⟨rfl, r3, b3⟩
  obtain ⟨r0, hr0⟩ : ∃ r0 : RC, r0 = ⟨[], [], room, false⟩ := ⟨_, rfl⟩
  have HT3 : Hid (∃ R, Two w3 sb mb w2.heap.size [] r0 R 0 B ∧ R.core = r0) := hide ⟨_, by rw [hr0]; exact two_new Z1 HS2.out hs hm (by omega) r3 b3 HB2.out, by rw [hr0]; rfl⟩
  have hmost : r0.most = room := by rw [hr0]
  have HB3 : Hid (Below B W w3) := hide (HB1.out.trans ((HB2.out.mono Z1).trans (b3.mono (Nat.le_trans Z1 HB2.out.size))))
  obtain ⟨rb, hrb⟩ : ∃ rb, w2.heap.size = rb := ⟨_, rfl⟩
  rw [hrb] at HT3 ⊢
  clear r3 b3 HR2 HS2 HB2 hs hm hrb hr0 HB1 Z1
  obtain ⟨R0, HT3'⟩ := HT3.out
  have HT0 := hide HT3'.1
  have HC0 := hide HT3'.2
  clear HT3 HT3'
  go_wp2_with fail
  go_loopw [35] (fun i wr => ∃ (k : Nat) (fs : List MF) (R : RS), k ≤ os.length ∧ i = .int .i64 (k : Int) ∧ Hid (Two wr sb mb rb fs (runC r0 (os.take k)) R k B) ∧ Hid (R.core = runC r0 (os.take k)) ∧ Hid (Below B W wr) ∧ B ≤ wr.heap.size) (fun i _ => os.length - (intOf i).toNat)
  case atStart => exact ⟨0, [], R0, Nat.zero_le _, rfl, HT0, HC0, HB3, HB3.out.size |> fun h => by have := HT0.out.rbase rb (.inl rfl); have := HT0.out.ref.rown_lt (.inl rfl); omega⟩
  case round =>
    clear HT0 HC0 HB3
    obtain ⟨k, fs, R, hk, rfl, HT, HC, HB, ZB⟩ := hrel
    by_cases hlt : k < os.length
    · have hF := H1.out.below HB.out
      obtain ⟨_, _, he, _, _, h3⟩ := hF.form
      simp only [Value.slice.injEq, true_and] at he
      obtain ⟨rfl, rfl⟩ := he
      obtain ⟨g, o, rfl, hg, hc⟩ := h3 k hlt
      obtain ⟨x, hx⟩ : ∃ x, os[k]! = x := ⟨_, rfl⟩
      have hxm : x ∈ os := by rw [← hx, getElem!_pos os k hlt]; exact List.getElem_mem _
      have hok : x.ok wr B := hF.ok x hxm
      have HTK : Hid (os.take (k + 1) = os.take k ++ [x]) := by
        refine hide ?_
        rw [List.take_succ_eq_append_getElem hlt, ← hx, getElem!_pos os k hlt]
      rw [hx] at hc
      have d0 : wr.cell? ⟨g, o + k * 6, none⟩ = some (.int .i64 x.d) := hc 0 (by omega)
      have d1 : wr.cell? ⟨g, o + k * 6 + 1, none⟩ = some (.string x.s) := hc 1 (by omega)
      have d2 : wr.cell? ⟨g, o + k * 6 + 2, none⟩ = some (.string x.t) := hc 2 (by omega)
      have d3 : wr.cell? ⟨g, o + k * 6 + 3, none⟩ = some (.int .i64 x.k) := hc 3 (by omega)
      have d4 : wr.cell? ⟨g, o + k * 6 + 4, none⟩ = some (.int .i64 x.m) := hc 4 (by omega)
      have d5 : wr.cell? ⟨g, o + k * 6 + 5, none⟩ = some (.slice x.bp x.b.length x.bc) := hc 5 (by omega)
      obtain ⟨r, hr⟩ : ∃ r, r = runC r0 (os.take k) := ⟨_, rfl⟩
      rw [← hr] at HT HC
      have HNX : Hid (runC r0 (os.take (k + 1)) = x.step r) := by
        rw [HTK.out, runC_snoc, ← hr]
        exact hide rfl
      have hmo : (x.step r).most = room := by rw [step_most, hr, run_most, hmost]
      have hb1 := alloc_below wr (.cells #[.int .i64 x.d, .string x.s, .string x.t, .int .i64 x.k, .int .i64 x.m, .slice x.bp x.b.length x.bc] 33 (0, 0))
      have HXM := hide hxm
      clear hF h3 hc hx hr hxm HTK
      obtain ⟨wx, hwx⟩ : ∃ wx, wx = wr.alloc (.cells #[.int .i64 x.d, .string x.s, .string x.t, .int .i64 x.k, .int .i64 x.m, .slice x.bp x.b.length x.bc] 33 (0, 0)) := ⟨_, rfl⟩
      rw [← hwx] at hb1
      have hbx : wx.heap[wr.heap.size]? = some (.cells #[.int .i64 x.d, .string x.s, .string x.t, .int .i64 x.k, .int .i64 x.m, .slice x.bp x.b.length x.bc] 33 (0, 0)) := by rw [hwx]; exact heap_alloc_new _ _
      obtain ⟨xB, hxB⟩ : ∃ xB, wr.heap.size = xB := ⟨_, rfl⟩
      rw [hxB] at hbx
      have hxlt : xB < wx.heap.size := (Array.getElem?_eq_some_iff.1 hbx).1
      have HTx := hide (HT.out.fresh hb1)
      have HBx : Hid (Below B W wx) := hide (HB.out.trans (hb1.mono ZB))
      have ZX : B ≤ wx.heap.size := Nat.le_trans ZB hb1.size
      have HOX : Hid (x.ok wx B) := hide (hok.below (hb1.mono ZB))
      have HGD : Hid (∀ Q : RS, Q.core = r → Good Q) := hide (fun Q hQ => Prg.good (N := k) (by rw [hQ]; exact HT.out.prg) (by rw [hQ]; have := HT.out.prg.plen; omega))
      have hpl := HT.out.prg.plen
      have HCL := hide (rclone_any HTx.out.ref (HGD.out R HC.out).ok (HGD.out R HC.out).blen)
      have hxo : ¬ (own sb mb fs xB ∨ rown rb R xB) := fun hf => by
        rcases hf with e | e
        · have := HT.out.prg.own_lt e; omega
        · have := HT.out.ref.rown_lt e; omega
      have HBOX := hide hbx
      have HWX := hide hwx
      clear hb1 HT HB hbx hok
      go_upto_region 10 with fail
      rw [← HWX.out]
      clear HWX hwx hxB d0 d1 d2 d3 d4 d5
      go_wp2_with fail
      refine HCL.out.mono ?_
      rintro _ w5 ⟨c1, R1, rfl, h5, e5, b5, n5, v5⟩
      have HCM := hide (rclone_any (HTx.out.fresh b5).ref (HGD.out R HC.out).ok (HGD.out R HC.out).blen)
      have H5 := hide h5
      have N5 := hide n5
      have V5 := hide v5
      have B5 := hide b5
      have E5 : Hid (R1.core = r) := hide (e5.trans HC.out)
      clear h5 n5 v5 b5 e5 HCL
      go_wp2_with fail
      refine HCM.out.mono ?_
      rintro _ w6 ⟨c2, R2, rfl, h6, e6, b6, n6, v6⟩
      have H6 := hide h6
      have N6 := hide n6
      have V6 := hide v6
      have B6 := hide b6
      have E6 : Hid (R2.core = r) := hide (e6.trans HC.out)
      have hbx6 : w6.heap[xB]? = some (.cells #[.int .i64 x.d, .string x.s, .string x.t, .int .i64 x.k, .int .i64 x.m, .slice x.bp x.b.length x.bc] 33 (0, 0)) := below_box b6 (below_box B5.out HBOX.out)
      have HB6 : Hid (Below B W w6) := hide ((HBx.out.trans (B5.out.mono ZX)).trans (b6.mono (Nat.le_trans ZX B5.out.size)))
      have Z6 : B ≤ w6.heap.size := Nat.le_trans (Nat.le_trans ZX B5.out.size) b6.size
      have HO6 : Hid (x.ok w6 B) := hide ((HOX.out.below (B5.out.mono ZX)).below (b6.mono (Nat.le_trans ZX B5.out.size)))
      have HDO := hide (does_any ((HTx.out.fresh B5.out).fresh b6) HC.out Z6 (by omega) HO6.out)
      have y0 : w6.cell? ⟨xB, 0, none⟩ = some (.int .i64 x.d) := by simp [World.cell?, hbx6]
      have y1 : w6.cell? ⟨xB, 1, none⟩ = some (.string x.s) := by simp [World.cell?, hbx6]
      have y2 : w6.cell? ⟨xB, 2, none⟩ = some (.string x.t) := by simp [World.cell?, hbx6]
      have y3 : w6.cell? ⟨xB, 3, none⟩ = some (.int .i64 x.k) := by simp [World.cell?, hbx6]
      have y4 : w6.cell? ⟨xB, 4, none⟩ = some (.int .i64 x.m) := by simp [World.cell?, hbx6]
      have y5 : w6.cell? ⟨xB, 5, none⟩ = some (.slice x.bp x.b.length x.bc) := by simp [World.cell?, hbx6]
      have HBX6 := hide hbx6
      clear h6 n6 v6 b6 e6 HCM hbx6 HBOX HOX HBx
      go_wp2_with fail
      refine HDO.out.mono ?_
      rintro _ w7 ⟨rfl, fs7, R7, t7, e7, b7, tu7⟩
      obtain ⟨k1, k2, k8⟩ := clones_round HTx.out B5.out H5.out N5.out V5.out B6.out H6.out N6.out V6.out t7 tu7
      have hbx7 := tu7.only.obj HBX6.out hxo
      have y0' : w7.cell? ⟨xB, 0, none⟩ = some (.int .i64 x.d) := by simp [World.cell?, hbx7]
      have y1' : w7.cell? ⟨xB, 1, none⟩ = some (.string x.s) := by simp [World.cell?, hbx7]
      have y2' : w7.cell? ⟨xB, 2, none⟩ = some (.string x.t) := by simp [World.cell?, hbx7]
      have y3' : w7.cell? ⟨xB, 3, none⟩ = some (.int .i64 x.k) := by simp [World.cell?, hbx7]
      have y4' : w7.cell? ⟨xB, 4, none⟩ = some (.int .i64 x.m) := by simp [World.cell?, hbx7]
      have y5' : w7.cell? ⟨xB, 5, none⟩ = some (.slice x.bp x.b.length x.bc) := by simp [World.cell?, hbx7]
      have Z7 : B ≤ w7.heap.size := Nat.le_trans Z6 b7.size
      have HB7 : Hid (Below B W w7) := hide (HB6.out.trans b7)
      have HO7 : Hid (x.ok w7 B) := hide (HO6.out.below b7)
      obtain ⟨LF, hLF⟩ : ∃ LF, (x.step r).left = LF := ⟨_, rfl⟩
      obtain ⟨l0, l1⟩ := t7.prg.left_in
      rw [hmo, hLF] at l1
      rw [hLF] at l0
      have HLP := hide (pleft t7.prg)
      rw [hLF] at HLP
      have hd1 : decide (LF < 0) = false := decide_eq_false (by omega)
      have hd2 : decide ((room : Int) < LF) = false := decide_eq_false (by omega)
      have HRF := hide (refused_any k2 (HGD.out R2 E6.out) (by have : R2.P.length = r.P.length := by rw [← E6.out]; simp [RS.core]
                                                               omega) HO7.out)
      rw [E6.out] at HRF
      have HT7 := hide t7
      have HE7 := hide e7
      have H8 := hide k8
      have HBX7 := hide hbx7
      have hlo : ∀ i, rown c2 R2 i → B ≤ i ∧ xB ≠ i := fun i hi => by
        have h1 := N6.out i hi
        have h2 := B5.out.size
        exact ⟨by omega, by omega⟩
      have HLO := hide hlo
      clear t7 e7 b7 tu7 k1 k2 k8 hbx7 hlo HDO HBX6 HB6 HO6 y0 y1 y2 y3 y4 y5 H5 H6 N5 N6 V5 V6 HTx hLF hmo
      go_wp2_with fail
      refine HLP.out.mono ?_
      rintro _ w7 ⟨rfl, rfl⟩
      go_wp2_with fail
      refine HLP.out.mono ?_
      rintro _ w7 ⟨rfl, rfl⟩
      go_wp2_with fail
      refine HRF.out.mono ?_
      rintro _ w8 ⟨rfl, o8⟩
      obtain ⟨t8, q8⟩ := H8.out w8 o8
      have hbx8 := o8.obj HBX7.out (fun hf => (HLO.out xB hf).2 rfl)
      have b8 : Below B w7 w8 := o8.below Z7 (fun i hi => (HLO.out i hi).1)
      have HB8 : Hid (Below B W w8) := hide (HB7.out.trans b8)
      have Z8 : B ≤ w8.heap.size := Nat.le_trans Z7 b8.size
      have HO8 : Hid (x.ok w8 B) := hide (HO7.out.below b8)
      have HT8 := hide t8
      have HQ8 := hide q8
      have y0 : w8.cell? ⟨xB, 0, none⟩ = some (.int .i64 x.d) := by simp [World.cell?, hbx8]
      have y1 : w8.cell? ⟨xB, 1, none⟩ = some (.string x.s) := by simp [World.cell?, hbx8]
      have y2 : w8.cell? ⟨xB, 2, none⟩ = some (.string x.t) := by simp [World.cell?, hbx8]
      have y3 : w8.cell? ⟨xB, 3, none⟩ = some (.int .i64 x.k) := by simp [World.cell?, hbx8]
      have y4 : w8.cell? ⟨xB, 4, none⟩ = some (.int .i64 x.m) := by simp [World.cell?, hbx8]
      have y5 : w8.cell? ⟨xB, 5, none⟩ = some (.slice x.bp x.b.length x.bc) := by simp [World.cell?, hbx8]
      clear o8 t8 q8 hbx8 b8 HRF HLP H8 HBX7 HT7 HB7 HO7 y0' y1' y2' y3' y4' y5'
      cases hrf : x.refused r with
      | true =>
        have HSM := hide (same_any HT8.out.prg HQ8.out (by rw [E5.out, OpV.refused_step hrf]) (HGD.out R1 E5.out) HO8.out)
        go_wp2_with fail
        refine HSM.out.mono ?_
        rintro _ w9 ⟨rfl, b9⟩
        have HT9 := hide (HT8.out.fresh b9)
        have HB9 : Hid (Below B W w9) := hide (HB8.out.trans (b9.mono Z8))
        have Z9 : B ≤ w9.heap.size := Nat.le_trans Z8 b9.size
        clear b9 HSM HT8 HB8 y0 y1 y2 y3 y4 y5
        go_wp2
        refine ⟨⟨k + 1, fs7, R7, by omega, by go_num, ?_, ?_, HB9, Z9⟩, by simp [intOf]; omega⟩
        · rw [HNX.out]; exact HT9
        · rw [HNX.out]; exact HE7
      | false =>
        go_wp2
        refine ⟨⟨k + 1, fs7, R7, by omega, by go_num, ?_, ?_, HB8, Z8⟩, by simp [intOf]; omega⟩
        · rw [HNX.out]; exact HT8
        · rw [HNX.out]; exact HE7
    · obtain rfl : k = os.length := by omega
      go_wp2
      go_ret
      exact ⟨rfl, HB.out⟩
end Go.Proofs.YtikpckmlnhcddaaGreat
