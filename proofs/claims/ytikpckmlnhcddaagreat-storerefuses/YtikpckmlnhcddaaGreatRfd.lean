/-
  The law's refused: whether the reference refuses an operation. The conditions: lengths.
-/
import Derived.Test.YtikpckmlnhcddaaGreatBui
namespace Go.Proofs.YtikpckmlnhcddaaGreat
open Go.RowKit Go.Maps

def FPost (W : World) (xb : Nat) (R : RS) (b : Bool) (e : Ending) (w' : World) : Prop := e = .returned (.bool b) ∧ Only (rown xb R) W w'

set_option maxRecDepth 100000 in
set_option maxHeartbeats 2000000 in
theorem refused0 {W : World} {xb B : Nat} {R : RS} (h : RRep W xb R) (g : Good R) (_hP : R.P.length < 2199023255552) {s t : ByteArray} {k m : Int} {bp : Option Addr} {bc : Nat} {b : By} (_ho : OpOk W B s t k m bp bc b) :
    Calls Tryz.prog 25 #[.pointer (some ⟨xb, 0, none⟩), .agg #[.int .i64 0, .string s, .string t, .int .i64 k, .int .i64 m, .slice bp b.length bc]] W (FPost W xb R (R.core.createE s.data.toList != 0)) := by
  have hb0 := alloc_below W (Obj.cells #[Value.int IntKind.i64 0, Value.string s, Value.string t, Value.int IntKind.i64 k, Value.int IntKind.i64 m, Value.slice bp b.length bc] 33)
  have HQ := hide (qcreate (h.fresh hb0) g (s := s))
  obtain ⟨E, hE⟩ : ∃ E, R.core.createE s.data.toList = E := ⟨_, rfl⟩
  rw [hE] at HQ
  have HB0 := hide hb0
  clear h g _hP _ho hb0
  go_enter Tryz.func25, Tryz.ntmps25
  go_wp2_with fail
  refine HQ.out.mono ?_
  rintro _ w2 ⟨rfl, R2, hr2, hst2, hc2⟩
  have HO : Hid (Only (rown xb R) W w2) := hide ((Only.fresh HB0.out _).step hst2.only (fun _ e => .inl e))
  clear hr2 hst2 hc2 HQ HB0
  go_wp2
  go_ret
  exact ⟨by rw [hE]; rfl, HO.out⟩

set_option maxRecDepth 100000 in
set_option maxHeartbeats 2000000 in
theorem refused1 {W : World} {xb B : Nat} {R : RS} (h : RRep W xb R) (g : Good R) (hP : R.P.length < 2199023255552) {s t : ByteArray} {k m : Int} {bp : Option Addr} {bc : Nat} {b : By} (ho : OpOk W B s t k m bp bc b) :
    Calls Tryz.prog 25 #[.pointer (some ⟨xb, 0, none⟩), .agg #[.int .i64 1, .string s, .string t, .int .i64 k, .int .i64 m, .slice bp b.length bc]] W (FPost W xb R (R.core.writeE s.data.toList k b != 0)) := by
  have hb0 := alloc_below W (Obj.cells #[Value.int IntKind.i64 1, Value.string s, Value.string t, Value.int IntKind.i64 k, Value.int IntKind.i64 m, Value.slice bp b.length bc] 33)
  have HQ := hide (qwrite (h.fresh hb0) g hP (s := s) (k := k) (ho.row.below hb0) ho.u8)
  obtain ⟨E, hE⟩ : ∃ E, R.core.writeE s.data.toList k b = E := ⟨_, rfl⟩
  rw [hE] at HQ
  have HB0 := hide hb0
  clear h g hP ho hb0
  go_enter Tryz.func25, Tryz.ntmps25
  go_wp2_with fail
  refine HQ.out.mono ?_
  rintro _ w2 ⟨rfl, R2, hr2, hst2, hc2⟩
  have HO : Hid (Only (rown xb R) W w2) := hide ((Only.fresh HB0.out _).step hst2.only (fun _ e => .inl e))
  clear hr2 hst2 hc2 HQ HB0
  go_wp2
  go_ret
  exact ⟨by rw [hE]; rfl, HO.out⟩

set_option maxRecDepth 100000 in
set_option maxHeartbeats 2000000 in
theorem refused2 {W : World} {xb B : Nat} {R : RS} (h : RRep W xb R) (g : Good R) (_hP : R.P.length < 2199023255552) {s t : ByteArray} {k m : Int} {bp : Option Addr} {bc : Nat} {b : By} (_ho : OpOk W B s t k m bp bc b) :
    Calls Tryz.prog 25 #[.pointer (some ⟨xb, 0, none⟩), .agg #[.int .i64 2, .string s, .string t, .int .i64 k, .int .i64 m, .slice bp b.length bc]] W (FPost W xb R (R.core.cutE s.data.toList k != 0)) := by
  have hb0 := alloc_below W (Obj.cells #[Value.int IntKind.i64 2, Value.string s, Value.string t, Value.int IntKind.i64 k, Value.int IntKind.i64 m, Value.slice bp b.length bc] 33)
  have HQ := hide (qcut (h.fresh hb0) g (s := s) (k := k))
  obtain ⟨E, hE⟩ : ∃ E, R.core.cutE s.data.toList k = E := ⟨_, rfl⟩
  rw [hE] at HQ
  have HB0 := hide hb0
  clear h g _hP _ho hb0
  go_enter Tryz.func25, Tryz.ntmps25
  go_wp2_with fail
  refine HQ.out.mono ?_
  rintro _ w2 ⟨rfl, R2, hr2, hst2, hc2⟩
  have HO : Hid (Only (rown xb R) W w2) := hide ((Only.fresh HB0.out _).step hst2.only (fun _ e => .inl e))
  clear hr2 hst2 hc2 HQ HB0
  go_wp2
  go_ret
  exact ⟨by rw [hE]; rfl, HO.out⟩

set_option maxRecDepth 100000 in
set_option maxHeartbeats 2000000 in
theorem refused4 {W : World} {xb B : Nat} {R : RS} (h : RRep W xb R) (g : Good R) (_hP : R.P.length < 2199023255552) {s t : ByteArray} {k m : Int} {bp : Option Addr} {bc : Nat} {b : By} (_ho : OpOk W B s t k m bp bc b) :
    Calls Tryz.prog 25 #[.pointer (some ⟨xb, 0, none⟩), .agg #[.int .i64 4, .string s, .string t, .int .i64 k, .int .i64 m, .slice bp b.length bc]] W (FPost W xb R (R.core.renameE s.data.toList t.data.toList != 0)) := by
  have hb0 := alloc_below W (Obj.cells #[Value.int IntKind.i64 4, Value.string s, Value.string t, Value.int IntKind.i64 k, Value.int IntKind.i64 m, Value.slice bp b.length bc] 33)
  have HQ := hide (qrename (h.fresh hb0) g (s := s) (t := t))
  obtain ⟨E, hE⟩ : ∃ E, R.core.renameE s.data.toList t.data.toList = E := ⟨_, rfl⟩
  rw [hE] at HQ
  have HB0 := hide hb0
  clear h g _hP _ho hb0
  go_enter Tryz.func25, Tryz.ntmps25
  go_wp2_with fail
  refine HQ.out.mono ?_
  rintro _ w2 ⟨rfl, R2, hr2, hst2, hc2⟩
  have HO : Hid (Only (rown xb R) W w2) := hide ((Only.fresh HB0.out _).step hst2.only (fun _ e => .inl e))
  clear hr2 hst2 hc2 HQ HB0
  go_wp2
  go_ret
  exact ⟨by rw [hE]; rfl, HO.out⟩

set_option maxRecDepth 100000 in
set_option maxHeartbeats 2000000 in
theorem refused5 {W : World} {xb B : Nat} {R : RS} (h : RRep W xb R) (g : Good R) (_hP : R.P.length < 2199023255552) {s t : ByteArray} {k m : Int} {bp : Option Addr} {bc : Nat} {b : By} (_ho : OpOk W B s t k m bp bc b) :
    Calls Tryz.prog 25 #[.pointer (some ⟨xb, 0, none⟩), .agg #[.int .i64 5, .string s, .string t, .int .i64 k, .int .i64 m, .slice bp b.length bc]] W (FPost W xb R (R.core.may s.data.toList != 0)) := by
  have hb0 := alloc_below W (Obj.cells #[Value.int IntKind.i64 5, Value.string s, Value.string t, Value.int IntKind.i64 k, Value.int IntKind.i64 m, Value.slice bp b.length bc] 33)
  have HQ := hide (qremove (h.fresh hb0) g (s := s))
  obtain ⟨E, hE⟩ : ∃ E, R.core.may s.data.toList = E := ⟨_, rfl⟩
  rw [hE] at HQ
  have HB0 := hide hb0
  clear h g _hP _ho hb0
  go_enter Tryz.func25, Tryz.ntmps25
  go_wp2_with fail
  refine HQ.out.mono ?_
  rintro _ w2 ⟨rfl, R2, hr2, hst2, hc2⟩
  have HO : Hid (Only (rown xb R) W w2) := hide ((Only.fresh HB0.out _).step hst2.only (fun _ e => .inl e))
  clear hr2 hst2 hc2 HQ HB0
  go_wp2
  go_ret
  exact ⟨by rw [hE]; rfl, HO.out⟩

set_option maxRecDepth 100000 in
set_option maxHeartbeats 2000000 in
theorem refused9 {W : World} {xb : Nat} {R : RS} {d : Int} (hd : d ≠ 0 ∧ d ≠ 1 ∧ d ≠ 2 ∧ d ≠ 4 ∧ d ≠ 5) {s t : ByteArray} {k m : Int} {bp : Option Addr} {bn bc : Nat} :
    Calls Tryz.prog 25 #[.pointer (some ⟨xb, 0, none⟩), .agg #[.int .i64 d, .string s, .string t, .int .i64 k, .int .i64 m, .slice bp bn bc]] W (FPost W xb R false) := by
  have e0 : (d == 0) = false := by simp; omega
  have e1 : (d == 1) = false := by simp; omega
  have e2 : (d == 2) = false := by simp; omega
  have e4 : (d == 4) = false := by simp; omega
  have e5 : (d == 5) = false := by simp; omega
  clear hd
  go_enter Tryz.func25, Tryz.ntmps25
  go_wp2
  go_ret
  exact ⟨rfl, Only.fresh (alloc_below _ _) _⟩

/-- What is refused. -/
def OpV.refused (o : OpV) (r : RC) : Bool :=
  if o.d = 0 then r.createE o.s.data.toList != 0 else if o.d = 1 then r.writeE o.s.data.toList o.k o.b != 0 else if o.d = 2 then r.cutE o.s.data.toList o.k != 0 else if o.d = 4 then r.renameE o.s.data.toList o.t.data.toList != 0 else if o.d = 5 then r.may o.s.data.toList != 0 else false
theorem OpV.refused_step {o : OpV} {r : RC} (h : o.refused r = true) : o.step r = r := by
  unfold OpV.refused at h
  unfold OpV.step stepC
  by_cases e0 : o.d = 0
  · rw [if_pos e0] at h
    rw [if_pos e0]
    unfold RC.create
    rw [if_neg (by simpa using h)]
  rw [if_neg e0] at h
  rw [if_neg e0]
  by_cases e1 : o.d = 1
  · rw [if_pos e1] at h
    rw [if_pos e1]
    unfold RC.write
    rw [if_neg (fun hc => absurd hc.1 (by simpa using h))]
  rw [if_neg e1] at h
  rw [if_neg e1]
  by_cases e2 : o.d = 2
  · rw [if_pos e2] at h
    rw [if_pos e2]
    unfold RC.cut
    rw [if_neg (by simpa using h)]
  rw [if_neg e2] at h
  rw [if_neg e2]
  by_cases e4 : o.d = 4
  · rw [if_pos e4] at h
    rw [if_neg (by omega), if_pos e4]
    unfold RC.rename
    rw [if_neg (fun hc => absurd hc.1 (by simpa using h))]
  rw [if_neg e4] at h
  by_cases e5 : o.d = 5
  · rw [if_pos e5] at h
    rw [if_neg (by omega), if_neg e4, if_pos e5]
    unfold RC.remove
    rw [if_neg (by simpa using h)]
  rw [if_neg e5] at h
  exact absurd h (by decide)
theorem refused_any {W : World} {xb B : Nat} {R : RS} (h : RRep W xb R) (g : Good R) (hP : R.P.length < 2199023255552) {o : OpV} (ho : o.ok W B) :
    Calls Tryz.prog 25 #[.pointer (some ⟨xb, 0, none⟩), .agg #[.int .i64 o.d, .string o.s, .string o.t, .int .i64 o.k, .int .i64 o.m, .slice o.bp o.b.length o.bc]] W (FPost W xb R (o.refused R.core)) := by
  obtain ⟨d, s, t, k, m, bp, bc, b⟩ := o
  unfold OpV.refused
  unfold OpV.ok at ho
  simp only at ho ⊢
  by_cases e0 : d = 0
  · subst e0; exact refused0 h g hP ho
  by_cases e1 : d = 1
  · subst e1; exact refused1 h g hP ho
  by_cases e2 : d = 2
  · subst e2; exact refused2 h g hP ho
  by_cases e4 : d = 4
  · subst e4; exact refused4 h g hP ho
  by_cases e5 : d = 5
  · subst e5; exact refused5 h g hP ho
  simp only [e0, e1, e2, e4, e5, if_false]
  exact refused9 ⟨e0, e1, e2, e4, e5⟩
end Go.Proofs.YtikpckmlnhcddaaGreat
