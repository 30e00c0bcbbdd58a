/-
  The law's does: the same is done to a store of the program and to the reference, and is answered alike. The conditions: lengths; what is handed in lies apart.
-/
import Derived.Test.YtikpckmlnhcddaaGreatRff
import Derived.Deep.RegionHeld3
namespace Go.Proofs.YtikpckmlnhcddaaGreat
open Go.RowKit Go.Maps

/-- A store of the program that is the document's r, and a reference, apart from each other, both from block B on. -/
structure Two (W : World) (sb mb rb : Nat) (fs : List MF) (r : RC) (R : RS) (N B : Nat) : Prop where
  prg : Prg W sb mb fs r N
  ref : RRep W rb R
  apart : ∀ i, own sb mb fs i → ¬ rown rb R i ∧ ¬ rcov R i
  covs : ∀ i, Go.Proofs.YtikpckmlnhcddaaGreat.covs fs i → ¬ rown rb R i
  base : ∀ i, own sb mb fs i → B ≤ i
  rbase : ∀ i, rown rb R i → B ≤ i
  cbase : ∀ i, Go.Proofs.YtikpckmlnhcddaaGreat.covs fs i → B ≤ i
theorem Prg.own_lt {W : World} {sb mb N : Nat} {fs : List MF} {r : RC} (h : Prg W sb mb fs r N) {i : Nat} (hi : own sb mb fs i) : i < W.heap.size := by
  obtain ⟨J, left, pend, turn, h1, _⟩ := h
  exact h1.own_lt hi
theorem Prg.cov_lt {W : World} {sb mb N : Nat} {fs : List MF} {r : RC} (h : Prg W sb mb fs r N) {i : Nat} (hi : Go.Proofs.YtikpckmlnhcddaaGreat.covs fs i) : i < W.heap.size := by
  obtain ⟨J, left, pend, turn, h1, _⟩ := h
  exact h1.cov_lt hi
theorem Prg.only {W W' : World} {sb mb N : Nat} {fs : List MF} {r : RC} {F : Nat → Prop} (h : Prg W sb mb fs r N) (ho : Only F W W') (h1 : ∀ i, own sb mb fs i → ¬ F i) (h2 : ∀ i, Go.Proofs.YtikpckmlnhcddaaGreat.covs fs i → ¬ F i) : Prg W' sb mb fs r N := by
  obtain ⟨J, left, pend, turn, a, b⟩ := h
  exact ⟨J, left, pend, turn, a.only ho h1 h2, b⟩
theorem Two.fresh {W W' : World} {sb mb rb N B : Nat} {fs : List MF} {r : RC} {R : RS} (h : Two W sb mb rb fs r R N B) (hb : Below W.heap.size W W') : Two W' sb mb rb fs r R N B :=
  ⟨h.prg.only (Only.fresh hb fun _ => False) (fun _ _ e => e) (fun _ _ e => e), h.ref.fresh hb, h.apart, h.covs, h.base, h.rbase, h.cbase⟩
theorem Two.prog {W W' : World} {sb mb rb N M B : Nat} {fs fs' : List MF} {r r' : RC} {R : RS} (h : Two W sb mb rb fs r R N B) (hB : B ≤ W.heap.size) (hp : Prg W' sb mb fs' r' M) (hs : Step W W' sb mb fs fs') : Two W' sb mb rb fs' r' R M B := by
  refine ⟨hp, h.ref.only hs.only (fun i hi ho => (h.apart i ho).1 hi) (fun i hi ho => (h.apart i ho).2 hi), fun i hi => ?_, fun i hi hr => ?_, fun i hi => ?_, h.rbase, fun i hi => ?_⟩
  · rcases hs.own i hi with h1 | h1
    · exact h.apart i h1
    · exact ⟨fun hr => by have := h.ref.rown_lt hr; omega, fun hr => by have := h.ref.rcov_lt hr; omega⟩
  · rcases hs.cov i hi with h1 | h1
    · exact h.covs i h1 hr
    · have := h.ref.rown_lt hr; omega
  · rcases hs.own i hi with h1 | h1
    · exact h.base i h1
    · omega
  · rcases hs.cov i hi with h1 | h1
    · exact h.cbase i h1
    · omega
theorem Two.refs {W W' : World} {sb mb rb N B : Nat} {fs : List MF} {r : RC} {R R' : RS} (h : Two W sb mb rb fs r R N B) (hB : B ≤ W.heap.size) (hp : RRep W' rb R') (hs : RStep W W' rb R R') : Two W' sb mb rb fs r R' N B := by
  refine ⟨h.prg.only hs.only (fun i hi => (h.apart i hi).1) (fun i hi => h.covs i hi), hp, fun i hi => ⟨fun hr => ?_, fun hr => ?_⟩, fun i hi hr => ?_, h.base, fun i hi => ?_, h.cbase⟩
  · rcases hs.own i hr with h1 | h1
    · exact (h.apart i hi).1 h1
    · have := h.prg.own_lt hi; omega
  · rcases hs.cov i hr with h1 | h1
    · exact (h.apart i hi).2 h1
    · have := h.prg.own_lt hi; omega
  · rcases hs.own i hr with h1 | h1
    · exact h.covs i hi h1
    · have := h.prg.cov_lt hi; omega
  · rcases hs.own i hi with h1 | h1
    · exact h.rbase i h1
    · omega
theorem Two.up_N {W : World} {sb mb rb N M B : Nat} {fs : List MF} {r : RC} {R : RS} (h : Two W sb mb rb fs r R N B) (hM : N ≤ M) : Two W sb mb rb fs r R M B := { h with prg := h.prg.up_N hM }

/-- What an operation makes of the document's store. -/
def stepC (r : RC) (d : Int) (nm t : Nm) (k m : Int) (b : By) : RC :=
  if d = 0 then r.create nm else if d = 1 then r.write nm k b else if d = 2 then r.cut nm k else if d = 3 then r.sync nm else if d = 4 then r.rename nm t else if d = 5 then r.remove nm else if d = 6 then r.crash k m else if d = 7 then r.start else r

/-- An operation that may be handed in. -/
structure OpOk (W : World) (B : Nat) (s t : ByteArray) (k m : Int) (bp : Option Addr) (bc : Nat) (b : By) : Prop where
  ls : s.size ≤ maxLen
  lt : t.size ≤ maxLen
  k0 : -9223372036854775808 ≤ k
  k1 : k ≤ 9223372036854775807
  m0 : -9223372036854775808 ≤ m
  m1 : m ≤ 9223372036854775807
  row : Row .u8 W (.slice bp b.length bc) b
  far : b ≠ [] → ∀ i, (Value.slice bp b.length bc).ownBlock = some i → i < B
  u8 : U8 b

/-- What is turned: the blocks of both alone. -/
structure Turns (W w' : World) (sb mb rb : Nat) (fs fs' : List MF) (R R' : RS) : Prop where
  only : Only (fun i => Go.Proofs.YtikpckmlnhcddaaGreat.own sb mb fs i ∨ rown rb R i) W w'
  own : ∀ i, rown rb R' i → rown rb R i ∨ W.heap.size ≤ i
  cov : ∀ i, rcov R' i → rcov R i ∨ W.heap.size ≤ i
  pown : ∀ i, Go.Proofs.YtikpckmlnhcddaaGreat.own sb mb fs' i → Go.Proofs.YtikpckmlnhcddaaGreat.own sb mb fs i ∨ W.heap.size ≤ i
  pcov : ∀ i, Go.Proofs.YtikpckmlnhcddaaGreat.covs fs' i → Go.Proofs.YtikpckmlnhcddaaGreat.covs fs i ∨ W.heap.size ≤ i
def DPost (W : World) (sb mb rb : Nat) (fs : List MF) (R : RS) (r' : RC) (N B : Nat) (e : Ending) (w' : World) : Prop := e = .returned (.bool true) ∧ ∃ fs' R', Two w' sb mb rb fs' r' R' N B ∧ R'.core = r' ∧ Below B W w' ∧ Turns W w' sb mb rb fs fs' R R'
theorem Turns.mk2 {W W0 w1 w2 : World} {sb mb rb : Nat} {fs fs1 : List MF} {R R2 : RS} (h0 : Below W.heap.size W W0) (h1 : Step W0 w1 sb mb fs fs1) (h2 : RStep w1 w2 rb R R2) : Turns W w2 sb mb rb fs fs1 R R2 := by
  have e1 := h0.size
  have e2 := h1.only.size
  exact ⟨((Only.fresh h0 _).step h1.only (fun _ e => .inl (.inl e))).step h2.only (fun _ e => .inl (.inr e)), fun i hi => (h2.own i hi).imp id (fun h => by omega), fun i hi => (h2.cov i hi).imp id (fun h => by omega), fun i hi => (h1.own i hi).imp id (fun h => by omega), fun i hi => (h1.cov i hi).imp id (fun h => by omega)⟩

set_option maxRecDepth 100000 in
set_option maxHeartbeats 4000000 in
theorem does0 {W : World} {sb mb rb N B : Nat} {fs : List MF} {r : RC} {R : RS} (h : Two W sb mb rb fs r R N B) (hr : R.core = r) (hB : B ≤ W.heap.size) (hN1 : N < 2199023255552) {s t : ByteArray} {k m : Int} {bp : Option Addr} {bc : Nat} {b : By} (ho' : OpOk W B s t k m bp bc b) :
    Calls Tryz.prog 9 #[.pointer (some ⟨sb, 0, none⟩), .pointer (some ⟨rb, 0, none⟩), .agg #[.int .i64 0, .string s, .string t, .int .i64 k, .int .i64 m, .slice bp b.length bc]] W (DPost W sb mb rb fs R (r.create s.data.toList) (N + 1) B) := by
  have hN : N ≤ 4398046511104 := by omega
  have hrP : r.P.length < 2199023255552 := by
    obtain ⟨J, left, pend, turn, _, h2⟩ := h.prg
    have h3 := h2.len
    have h4 : r.P.length = J.length := by rw [h2.P]; simp
    omega
  have HG : Hid (Good R) := hide (Prg.good (N := N) (by rw [hr]; exact h.prg) (by rw [hr]; omega))
  have HP : Hid (R.P.length < 2199023255552) := by
    refine hide ?_
    obtain ⟨J, left, pend, turn, _, h2⟩ := h.prg
    have e : R.P.length = r.P.length := by rw [← hr]; simp [RS.core]
    have h3 := h2.len
    have h4 : r.P.length = J.length := by rw [h2.P]; simp
    omega
  have HCL : Hid (b ≠ [] → Clear (own sb mb fs) (.slice bp b.length bc)) := hide (fun hbe i hi ho => by have := ho'.far hbe i hi; have := h.base i ho; omega)
  have HU := hide ho'.u8
  have HH := hide h
  have HB1 := hide ho'.row
  have HO := hide ho'
  have n1 : ¬ own sb mb fs W.heap.size := fun e => by have := h.prg.own_lt e; omega
  have n2 : ¬ rown rb R W.heap.size := fun e => by have := h.ref.rown_lt e; omega
  clear h ho'
  go_enter Tryz.func9, Tryz.ntmps9
  go_upto_region 3 with fail
  generalize hW0 : W.alloc (Obj.cells #[Value.int IntKind.i64 0, Value.string s, Value.string t, Value.int IntKind.i64 k, Value.int IntKind.i64 m, Value.slice bp b.length bc] 33) = W0
  have HT0 : Hid (Two W0 sb mb rb fs r R N B) := by rw [← hW0]; exact hide (HH.out.fresh (alloc_below _ _))
  have HB0 : Hid (Row .u8 W0 (.slice bp b.length bc) b) := by rw [← hW0]; exact hide (HB1.out.below (alloc_below _ _))
  have HB00 : Hid (Below B W W0) := by rw [← hW0]; exact hide ((alloc_below W _).mono hB)
  have HA0 : Hid (Below W.heap.size W W0) := by rw [← hW0]; exact hide (alloc_below W _)
  have ZB0 : Hid (B ≤ W0.heap.size) := hide (Nat.le_trans hB HB00.out.size)
  have s1 : W0.cell? ⟨W.heap.size, 1, none⟩ = some (.string s) := by rw [← hW0]; simp
  have HT1 : ∀ {w1 : World} {fs1 : List MF} {r1 : RC} {M : Nat}, Prg w1 sb mb fs1 r1 M → Step W0.drew w1 sb mb fs fs1 → Two w1 sb mb rb fs1 r1 R M B := fun hp hs => (HT0.out.fresh (Below.refl _ W0).drew).prog ZB0.out hp hs
  clear hW0 HH HB1
  go_region_held3 (fun w' => w'.cell? ⟨W.heap.size, 1, none⟩ = some (.string s) ) (go_keep)
    (first
      | (go_at_call 12; refine (pcreate (r := r) (HT0.out.fresh (Below.refl _ W0).drew).prg  HO.out.ls).mono ?_; rintro _ w1 ⟨rfl, fs1, hp1, hs1⟩; have u1 := hs1.only.cell (a := ⟨W.heap.size, 1, none⟩) s1 n1)
      | (go_at_call 31; refine (qcreate (HT1 hp1 hs1).ref HG.out).mono ?_; rintro _ w2 ⟨rfl, R2, hr2, hst2, hc2⟩; have v1 := hst2.only.cell (a := ⟨W.heap.size, 1, none⟩) u1 n2))
  have hT1 := HT1 hp1 hs1
  have hT2 := hT1.refs (Nat.le_trans ZB0.out hs1.only.size) hr2 hst2
  have HT2 := hide hT2
  have HC2 := hide hc2
  have HBB : Hid (Below B W w2) := hide (HB00.out.trans (((Below.refl B W0).drew.trans (hs1.only.below ZB0.out HT0.out.base)).trans (hst2.only.below (Nat.le_trans ZB0.out hs1.only.size) hT1.rbase)))
  have HTU : Hid (Turns W w2 sb mb rb fs fs1 R R2) := hide (Turns.mk2 (HA0.out.trans (Below.refl _ W0).drew) hs1 hst2)
  clear hT1 hT2 hp1 hs1 hr2 hst2 hc2 HT1 s1 u1 v1
  subst hr
  go_wp2
  go_ret
  exact ⟨by simp, _, R2, HT2.out.up_N (by omega), HC2.out, HBB.out, HTU.out⟩

set_option maxRecDepth 100000 in
set_option maxHeartbeats 4000000 in
theorem does1 {W : World} {sb mb rb N B : Nat} {fs : List MF} {r : RC} {R : RS} (h : Two W sb mb rb fs r R N B) (hr : R.core = r) (hB : B ≤ W.heap.size) (hN1 : N < 2199023255552) {s t : ByteArray} {k m : Int} {bp : Option Addr} {bc : Nat} {b : By} (ho' : OpOk W B s t k m bp bc b) :
    Calls Tryz.prog 9 #[.pointer (some ⟨sb, 0, none⟩), .pointer (some ⟨rb, 0, none⟩), .agg #[.int .i64 1, .string s, .string t, .int .i64 k, .int .i64 m, .slice bp b.length bc]] W (DPost W sb mb rb fs R (r.write s.data.toList k b) (N + 1) B) := by
  have hN : N ≤ 4398046511104 := by omega
  have hrP : r.P.length < 2199023255552 := by
    obtain ⟨J, left, pend, turn, _, h2⟩ := h.prg
    have h3 := h2.len
    have h4 : r.P.length = J.length := by rw [h2.P]; simp
    omega
  have HG : Hid (Good R) := hide (Prg.good (N := N) (by rw [hr]; exact h.prg) (by rw [hr]; omega))
  have HP : Hid (R.P.length < 2199023255552) := by
    refine hide ?_
    obtain ⟨J, left, pend, turn, _, h2⟩ := h.prg
    have e : R.P.length = r.P.length := by rw [← hr]; simp [RS.core]
    have h3 := h2.len
    have h4 : r.P.length = J.length := by rw [h2.P]; simp
    omega
  have HCL : Hid (b ≠ [] → Clear (own sb mb fs) (.slice bp b.length bc)) := hide (fun hbe i hi ho => by have := ho'.far hbe i hi; have := h.base i ho; omega)
  have HU := hide ho'.u8
  have HH := hide h
  have HB1 := hide ho'.row
  have HO := hide ho'
  have n1 : ¬ own sb mb fs W.heap.size := fun e => by have := h.prg.own_lt e; omega
  have n2 : ¬ rown rb R W.heap.size := fun e => by have := h.ref.rown_lt e; omega
  clear h ho'
  go_enter Tryz.func9, Tryz.ntmps9
  go_upto_region 5 with fail
  generalize hW0 : W.alloc (Obj.cells #[Value.int IntKind.i64 1, Value.string s, Value.string t, Value.int IntKind.i64 k, Value.int IntKind.i64 m, Value.slice bp b.length bc] 33) = W0
  have HT0 : Hid (Two W0 sb mb rb fs r R N B) := by rw [← hW0]; exact hide (HH.out.fresh (alloc_below _ _))
  have HB0 : Hid (Row .u8 W0 (.slice bp b.length bc) b) := by rw [← hW0]; exact hide (HB1.out.below (alloc_below _ _))
  have HB00 : Hid (Below B W W0) := by rw [← hW0]; exact hide ((alloc_below W _).mono hB)
  have HA0 : Hid (Below W.heap.size W W0) := by rw [← hW0]; exact hide (alloc_below W _)
  have ZB0 : Hid (B ≤ W0.heap.size) := hide (Nat.le_trans hB HB00.out.size)
  have s1 : W0.cell? ⟨W.heap.size, 1, none⟩ = some (.string s) := by rw [← hW0]; simp
  have s3 : W0.cell? ⟨W.heap.size, 3, none⟩ = some (.int .i64 k) := by rw [← hW0]; simp
  have s5 : W0.cell? ⟨W.heap.size, 5, none⟩ = some (.slice bp b.length bc) := by rw [← hW0]; simp
  have HT1 : ∀ {w1 : World} {fs1 : List MF} {r1 : RC} {M : Nat}, Prg w1 sb mb fs1 r1 M → Step W0.drew w1 sb mb fs fs1 → Two w1 sb mb rb fs1 r1 R M B := fun hp hs => (HT0.out.fresh (Below.refl _ W0).drew).prog ZB0.out hp hs
  clear hW0 HH HB1
  go_region_held3 (fun w' => w'.cell? ⟨W.heap.size, 1, none⟩ = some (.string s) ∧ w'.cell? ⟨W.heap.size, 3, none⟩ = some (.int .i64 k) ∧ w'.cell? ⟨W.heap.size, 5, none⟩ = some (.slice bp b.length bc) ) (go_keep)
    (first
      | (go_at_call 13; refine (pwrite (r := r) (k := k) (HT0.out.fresh (Below.refl _ W0).drew).prg hN hrP HO.out.ls (HB0.out.below (Below.refl _ W0).drew) HCL.out HU.out).mono ?_; rintro _ w1 ⟨rfl, fs1, hp1, hs1⟩; have u1 := hs1.only.cell (a := ⟨W.heap.size, 1, none⟩) s1 n1; have u3 := hs1.only.cell (a := ⟨W.heap.size, 3, none⟩) s3 n1; have u5 := hs1.only.cell (a := ⟨W.heap.size, 5, none⟩) s5 n1)
      | (go_at_call 32; refine (qwrite (k := k) (HT1 hp1 hs1).ref HG.out HP.out (HB0.out.below (Below.refl _ W0).drew |>.only0 hs1.only HCL.out) HU.out).mono ?_; rintro _ w2 ⟨rfl, R2, hr2, hst2, hc2⟩; have v1 := hst2.only.cell (a := ⟨W.heap.size, 1, none⟩) u1 n2; have v3 := hst2.only.cell (a := ⟨W.heap.size, 3, none⟩) u3 n2; have v5 := hst2.only.cell (a := ⟨W.heap.size, 5, none⟩) u5 n2))
  have hT1 := HT1 hp1 hs1
  have hT2 := hT1.refs (Nat.le_trans ZB0.out hs1.only.size) hr2 hst2
  have HT2 := hide hT2
  have HC2 := hide hc2
  have HBB : Hid (Below B W w2) := hide (HB00.out.trans (((Below.refl B W0).drew.trans (hs1.only.below ZB0.out HT0.out.base)).trans (hst2.only.below (Nat.le_trans ZB0.out hs1.only.size) hT1.rbase)))
  have HTU : Hid (Turns W w2 sb mb rb fs fs1 R R2) := hide (Turns.mk2 (HA0.out.trans (Below.refl _ W0).drew) hs1 hst2)
  clear hT1 hT2 hp1 hs1 hr2 hst2 hc2 HT1 s1 s3 s5 u1 u3 u5 v1 v3 v5
  subst hr
  go_wp2
  go_ret
  exact ⟨by simp, _, R2, HT2.out, HC2.out, HBB.out, HTU.out⟩

set_option maxRecDepth 100000 in
set_option maxHeartbeats 4000000 in
theorem does2 {W : World} {sb mb rb N B : Nat} {fs : List MF} {r : RC} {R : RS} (h : Two W sb mb rb fs r R N B) (hr : R.core = r) (hB : B ≤ W.heap.size) (hN1 : N < 2199023255552) {s t : ByteArray} {k m : Int} {bp : Option Addr} {bc : Nat} {b : By} (ho' : OpOk W B s t k m bp bc b) :
    Calls Tryz.prog 9 #[.pointer (some ⟨sb, 0, none⟩), .pointer (some ⟨rb, 0, none⟩), .agg #[.int .i64 2, .string s, .string t, .int .i64 k, .int .i64 m, .slice bp b.length bc]] W (DPost W sb mb rb fs R (r.cut s.data.toList k) (N + 1) B) := by
  have hN : N ≤ 4398046511104 := by omega
  have hrP : r.P.length < 2199023255552 := by
    obtain ⟨J, left, pend, turn, _, h2⟩ := h.prg
    have h3 := h2.len
    have h4 : r.P.length = J.length := by rw [h2.P]; simp
    omega
  have HG : Hid (Good R) := hide (Prg.good (N := N) (by rw [hr]; exact h.prg) (by rw [hr]; omega))
  have HP : Hid (R.P.length < 2199023255552) := by
    refine hide ?_
    obtain ⟨J, left, pend, turn, _, h2⟩ := h.prg
    have e : R.P.length = r.P.length := by rw [← hr]; simp [RS.core]
    have h3 := h2.len
    have h4 : r.P.length = J.length := by rw [h2.P]; simp
    omega
  have HCL : Hid (b ≠ [] → Clear (own sb mb fs) (.slice bp b.length bc)) := hide (fun hbe i hi ho => by have := ho'.far hbe i hi; have := h.base i ho; omega)
  have HU := hide ho'.u8
  have HH := hide h
  have HB1 := hide ho'.row
  have HO := hide ho'
  have n1 : ¬ own sb mb fs W.heap.size := fun e => by have := h.prg.own_lt e; omega
  have n2 : ¬ rown rb R W.heap.size := fun e => by have := h.ref.rown_lt e; omega
  clear h ho'
  go_enter Tryz.func9, Tryz.ntmps9
  go_upto_region 7 with fail
  generalize hW0 : W.alloc (Obj.cells #[Value.int IntKind.i64 2, Value.string s, Value.string t, Value.int IntKind.i64 k, Value.int IntKind.i64 m, Value.slice bp b.length bc] 33) = W0
  have HT0 : Hid (Two W0 sb mb rb fs r R N B) := by rw [← hW0]; exact hide (HH.out.fresh (alloc_below _ _))
  have HB0 : Hid (Row .u8 W0 (.slice bp b.length bc) b) := by rw [← hW0]; exact hide (HB1.out.below (alloc_below _ _))
  have HB00 : Hid (Below B W W0) := by rw [← hW0]; exact hide ((alloc_below W _).mono hB)
  have HA0 : Hid (Below W.heap.size W W0) := by rw [← hW0]; exact hide (alloc_below W _)
  have ZB0 : Hid (B ≤ W0.heap.size) := hide (Nat.le_trans hB HB00.out.size)
  have s1 : W0.cell? ⟨W.heap.size, 1, none⟩ = some (.string s) := by rw [← hW0]; simp
  have s3 : W0.cell? ⟨W.heap.size, 3, none⟩ = some (.int .i64 k) := by rw [← hW0]; simp
  have HT1 : ∀ {w1 : World} {fs1 : List MF} {r1 : RC} {M : Nat}, Prg w1 sb mb fs1 r1 M → Step W0.drew w1 sb mb fs fs1 → Two w1 sb mb rb fs1 r1 R M B := fun hp hs => (HT0.out.fresh (Below.refl _ W0).drew).prog ZB0.out hp hs
  clear hW0 HH HB1
  go_region_held3 (fun w' => w'.cell? ⟨W.heap.size, 1, none⟩ = some (.string s) ∧ w'.cell? ⟨W.heap.size, 3, none⟩ = some (.int .i64 k) ) (go_keep)
    (first
      | (go_at_call 33; refine (pcut (r := r) (k := k) (HT0.out.fresh (Below.refl _ W0).drew).prg hN HO.out.ls).mono ?_; rintro _ w1 ⟨rfl, fs1, hp1, hs1⟩; have u1 := hs1.only.cell (a := ⟨W.heap.size, 1, none⟩) s1 n1; have u3 := hs1.only.cell (a := ⟨W.heap.size, 3, none⟩) s3 n1)
      | (go_at_call 34; refine (qcut (k := k) (HT1 hp1 hs1).ref HG.out).mono ?_; rintro _ w2 ⟨rfl, R2, hr2, hst2, hc2⟩; have v1 := hst2.only.cell (a := ⟨W.heap.size, 1, none⟩) u1 n2; have v3 := hst2.only.cell (a := ⟨W.heap.size, 3, none⟩) u3 n2))
  have hT1 := HT1 hp1 hs1
  have hT2 := hT1.refs (Nat.le_trans ZB0.out hs1.only.size) hr2 hst2
  have HT2 := hide hT2
  have HC2 := hide hc2
  have HBB : Hid (Below B W w2) := hide (HB00.out.trans (((Below.refl B W0).drew.trans (hs1.only.below ZB0.out HT0.out.base)).trans (hst2.only.below (Nat.le_trans ZB0.out hs1.only.size) hT1.rbase)))
  have HTU : Hid (Turns W w2 sb mb rb fs fs1 R R2) := hide (Turns.mk2 (HA0.out.trans (Below.refl _ W0).drew) hs1 hst2)
  clear hT1 hT2 hp1 hs1 hr2 hst2 hc2 HT1 s1 s3 u1 u3 v1 v3
  subst hr
  go_wp2
  go_ret
  exact ⟨by simp, _, R2, HT2.out.up_N (by omega), HC2.out, HBB.out, HTU.out⟩

set_option maxRecDepth 100000 in
set_option maxHeartbeats 4000000 in
theorem does3 {W : World} {sb mb rb N B : Nat} {fs : List MF} {r : RC} {R : RS} (h : Two W sb mb rb fs r R N B) (hr : R.core = r) (hB : B ≤ W.heap.size) (hN1 : N < 2199023255552) {s t : ByteArray} {k m : Int} {bp : Option Addr} {bc : Nat} {b : By} (ho' : OpOk W B s t k m bp bc b) :
    Calls Tryz.prog 9 #[.pointer (some ⟨sb, 0, none⟩), .pointer (some ⟨rb, 0, none⟩), .agg #[.int .i64 3, .string s, .string t, .int .i64 k, .int .i64 m, .slice bp b.length bc]] W (DPost W sb mb rb fs R (r.sync s.data.toList) (N + 1) B) := by
  have hN : N ≤ 4398046511104 := by omega
  have hrP : r.P.length < 2199023255552 := by
    obtain ⟨J, left, pend, turn, _, h2⟩ := h.prg
    have h3 := h2.len
    have h4 : r.P.length = J.length := by rw [h2.P]; simp
    omega
  have HG : Hid (Good R) := hide (Prg.good (N := N) (by rw [hr]; exact h.prg) (by rw [hr]; omega))
  have HP : Hid (R.P.length < 2199023255552) := by
    refine hide ?_
    obtain ⟨J, left, pend, turn, _, h2⟩ := h.prg
    have e : R.P.length = r.P.length := by rw [← hr]; simp [RS.core]
    have h3 := h2.len
    have h4 : r.P.length = J.length := by rw [h2.P]; simp
    omega
  have HCL : Hid (b ≠ [] → Clear (own sb mb fs) (.slice bp b.length bc)) := hide (fun hbe i hi ho => by have := ho'.far hbe i hi; have := h.base i ho; omega)
  have HU := hide ho'.u8
  have HH := hide h
  have HB1 := hide ho'.row
  have HO := hide ho'
  have n1 : ¬ own sb mb fs W.heap.size := fun e => by have := h.prg.own_lt e; omega
  have n2 : ¬ rown rb R W.heap.size := fun e => by have := h.ref.rown_lt e; omega
  clear h ho'
  go_enter Tryz.func9, Tryz.ntmps9
  go_upto_region 9 with fail
  generalize hW0 : W.alloc (Obj.cells #[Value.int IntKind.i64 3, Value.string s, Value.string t, Value.int IntKind.i64 k, Value.int IntKind.i64 m, Value.slice bp b.length bc] 33) = W0
  have HT0 : Hid (Two W0 sb mb rb fs r R N B) := by rw [← hW0]; exact hide (HH.out.fresh (alloc_below _ _))
  have HB0 : Hid (Row .u8 W0 (.slice bp b.length bc) b) := by rw [← hW0]; exact hide (HB1.out.below (alloc_below _ _))
  have HB00 : Hid (Below B W W0) := by rw [← hW0]; exact hide ((alloc_below W _).mono hB)
  have HA0 : Hid (Below W.heap.size W W0) := by rw [← hW0]; exact hide (alloc_below W _)
  have ZB0 : Hid (B ≤ W0.heap.size) := hide (Nat.le_trans hB HB00.out.size)
  have s1 : W0.cell? ⟨W.heap.size, 1, none⟩ = some (.string s) := by rw [← hW0]; simp
  have HT1 : ∀ {w1 : World} {fs1 : List MF} {r1 : RC} {M : Nat}, Prg w1 sb mb fs1 r1 M → Step W0.drew w1 sb mb fs fs1 → Two w1 sb mb rb fs1 r1 R M B := fun hp hs => (HT0.out.fresh (Below.refl _ W0).drew).prog ZB0.out hp hs
  clear hW0 HH HB1
  go_region_held3 (fun w' => w'.cell? ⟨W.heap.size, 1, none⟩ = some (.string s) ) (go_keep)
    (first
      | (go_at_call 26; refine (psync (r := r) (HT0.out.fresh (Below.refl _ W0).drew).prg hN HO.out.ls).mono ?_; rintro _ w1 ⟨rfl, fs1, hp1, hs1⟩; have u1 := hs1.only.cell (a := ⟨W.heap.size, 1, none⟩) s1 n1)
      | (go_at_call 35; refine (qsync (HT1 hp1 hs1).ref HG.out).mono ?_; rintro _ w2 ⟨rfl, R2, hr2, hst2, hc2⟩; have v1 := hst2.only.cell (a := ⟨W.heap.size, 1, none⟩) u1 n2))
  have hT1 := HT1 hp1 hs1
  have hT2 := hT1.refs (Nat.le_trans ZB0.out hs1.only.size) hr2 hst2
  have HT2 := hide hT2
  have HC2 := hide hc2
  have HBB : Hid (Below B W w2) := hide (HB00.out.trans (((Below.refl B W0).drew.trans (hs1.only.below ZB0.out HT0.out.base)).trans (hst2.only.below (Nat.le_trans ZB0.out hs1.only.size) hT1.rbase)))
  have HTU : Hid (Turns W w2 sb mb rb fs fs1 R R2) := hide (Turns.mk2 (HA0.out.trans (Below.refl _ W0).drew) hs1 hst2)
  clear hT1 hT2 hp1 hs1 hr2 hst2 hc2 HT1 s1 u1 v1
  subst hr
  go_wp2
  go_ret
  exact ⟨by simp, _, R2, HT2.out.up_N (by omega), HC2.out, HBB.out, HTU.out⟩

set_option maxRecDepth 100000 in
set_option maxHeartbeats 4000000 in
theorem does4 {W : World} {sb mb rb N B : Nat} {fs : List MF} {r : RC} {R : RS} (h : Two W sb mb rb fs r R N B) (hr : R.core = r) (hB : B ≤ W.heap.size) (hN1 : N < 2199023255552) {s t : ByteArray} {k m : Int} {bp : Option Addr} {bc : Nat} {b : By} (ho' : OpOk W B s t k m bp bc b) :
    Calls Tryz.prog 9 #[.pointer (some ⟨sb, 0, none⟩), .pointer (some ⟨rb, 0, none⟩), .agg #[.int .i64 4, .string s, .string t, .int .i64 k, .int .i64 m, .slice bp b.length bc]] W (DPost W sb mb rb fs R (r.rename s.data.toList t.data.toList) (N + 1) B) := by
  have hN : N ≤ 4398046511104 := by omega
  have hrP : r.P.length < 2199023255552 := by
    obtain ⟨J, left, pend, turn, _, h2⟩ := h.prg
    have h3 := h2.len
    have h4 : r.P.length = J.length := by rw [h2.P]; simp
    omega
  have HG : Hid (Good R) := hide (Prg.good (N := N) (by rw [hr]; exact h.prg) (by rw [hr]; omega))
  have HP : Hid (R.P.length < 2199023255552) := by
    refine hide ?_
    obtain ⟨J, left, pend, turn, _, h2⟩ := h.prg
    have e : R.P.length = r.P.length := by rw [← hr]; simp [RS.core]
    have h3 := h2.len
    have h4 : r.P.length = J.length := by rw [h2.P]; simp
    omega
  have HCL : Hid (b ≠ [] → Clear (own sb mb fs) (.slice bp b.length bc)) := hide (fun hbe i hi ho => by have := ho'.far hbe i hi; have := h.base i ho; omega)
  have HU := hide ho'.u8
  have HH := hide h
  have HB1 := hide ho'.row
  have HO := hide ho'
  have n1 : ¬ own sb mb fs W.heap.size := fun e => by have := h.prg.own_lt e; omega
  have n2 : ¬ rown rb R W.heap.size := fun e => by have := h.ref.rown_lt e; omega
  clear h ho'
  go_enter Tryz.func9, Tryz.ntmps9
  go_upto_region 11 with fail
  generalize hW0 : W.alloc (Obj.cells #[Value.int IntKind.i64 4, Value.string s, Value.string t, Value.int IntKind.i64 k, Value.int IntKind.i64 m, Value.slice bp b.length bc] 33) = W0
  have HT0 : Hid (Two W0 sb mb rb fs r R N B) := by rw [← hW0]; exact hide (HH.out.fresh (alloc_below _ _))
  have HB0 : Hid (Row .u8 W0 (.slice bp b.length bc) b) := by rw [← hW0]; exact hide (HB1.out.below (alloc_below _ _))
  have HB00 : Hid (Below B W W0) := by rw [← hW0]; exact hide ((alloc_below W _).mono hB)
  have HA0 : Hid (Below W.heap.size W W0) := by rw [← hW0]; exact hide (alloc_below W _)
  have ZB0 : Hid (B ≤ W0.heap.size) := hide (Nat.le_trans hB HB00.out.size)
  have s1 : W0.cell? ⟨W.heap.size, 1, none⟩ = some (.string s) := by rw [← hW0]; simp
  have s2 : W0.cell? ⟨W.heap.size, 2, none⟩ = some (.string t) := by rw [← hW0]; simp
  have HT1 : ∀ {w1 : World} {fs1 : List MF} {r1 : RC} {M : Nat}, Prg w1 sb mb fs1 r1 M → Step W0.drew w1 sb mb fs fs1 → Two w1 sb mb rb fs1 r1 R M B := fun hp hs => (HT0.out.fresh (Below.refl _ W0).drew).prog ZB0.out hp hs
  clear hW0 HH HB1
  go_region_held3 (fun w' => w'.cell? ⟨W.heap.size, 1, none⟩ = some (.string s) ∧ w'.cell? ⟨W.heap.size, 2, none⟩ = some (.string t) ) (go_keep)
    (first
      | (go_at_call 36; refine (prename (r := r) (HT0.out.fresh (Below.refl _ W0).drew).prg hN HO.out.ls HO.out.lt).mono ?_; rintro _ w1 ⟨rfl, fs1, hp1, hs1⟩; have u1 := hs1.only.cell (a := ⟨W.heap.size, 1, none⟩) s1 n1; have u2 := hs1.only.cell (a := ⟨W.heap.size, 2, none⟩) s2 n1)
      | (go_at_call 37; refine (qrename (HT1 hp1 hs1).ref HG.out).mono ?_; rintro _ w2 ⟨rfl, R2, hr2, hst2, hc2⟩; have v1 := hst2.only.cell (a := ⟨W.heap.size, 1, none⟩) u1 n2; have v2 := hst2.only.cell (a := ⟨W.heap.size, 2, none⟩) u2 n2))
  have hT1 := HT1 hp1 hs1
  have hT2 := hT1.refs (Nat.le_trans ZB0.out hs1.only.size) hr2 hst2
  have HT2 := hide hT2
  have HC2 := hide hc2
  have HBB : Hid (Below B W w2) := hide (HB00.out.trans (((Below.refl B W0).drew.trans (hs1.only.below ZB0.out HT0.out.base)).trans (hst2.only.below (Nat.le_trans ZB0.out hs1.only.size) hT1.rbase)))
  have HTU : Hid (Turns W w2 sb mb rb fs fs1 R R2) := hide (Turns.mk2 (HA0.out.trans (Below.refl _ W0).drew) hs1 hst2)
  clear hT1 hT2 hp1 hs1 hr2 hst2 hc2 HT1 s1 s2 u1 u2 v1 v2
  subst hr
  go_wp2
  go_ret
  exact ⟨by simp, _, R2, HT2.out.up_N (by omega), HC2.out, HBB.out, HTU.out⟩

set_option maxRecDepth 100000 in
set_option maxHeartbeats 4000000 in
theorem does5 {W : World} {sb mb rb N B : Nat} {fs : List MF} {r : RC} {R : RS} (h : Two W sb mb rb fs r R N B) (hr : R.core = r) (hB : B ≤ W.heap.size) (hN1 : N < 2199023255552) {s t : ByteArray} {k m : Int} {bp : Option Addr} {bc : Nat} {b : By} (ho' : OpOk W B s t k m bp bc b) :
    Calls Tryz.prog 9 #[.pointer (some ⟨sb, 0, none⟩), .pointer (some ⟨rb, 0, none⟩), .agg #[.int .i64 5, .string s, .string t, .int .i64 k, .int .i64 m, .slice bp b.length bc]] W (DPost W sb mb rb fs R (r.remove s.data.toList) (N + 1) B) := by
  have hN : N ≤ 4398046511104 := by omega
  have hrP : r.P.length < 2199023255552 := by
    obtain ⟨J, left, pend, turn, _, h2⟩ := h.prg
    have h3 := h2.len
    have h4 : r.P.length = J.length := by rw [h2.P]; simp
    omega
  have HG : Hid (Good R) := hide (Prg.good (N := N) (by rw [hr]; exact h.prg) (by rw [hr]; omega))
  have HP : Hid (R.P.length < 2199023255552) := by
    refine hide ?_
    obtain ⟨J, left, pend, turn, _, h2⟩ := h.prg
    have e : R.P.length = r.P.length := by rw [← hr]; simp [RS.core]
    have h3 := h2.len
    have h4 : r.P.length = J.length := by rw [h2.P]; simp
    omega
  have HCL : Hid (b ≠ [] → Clear (own sb mb fs) (.slice bp b.length bc)) := hide (fun hbe i hi ho => by have := ho'.far hbe i hi; have := h.base i ho; omega)
  have HU := hide ho'.u8
  have HH := hide h
  have HB1 := hide ho'.row
  have HO := hide ho'
  have n1 : ¬ own sb mb fs W.heap.size := fun e => by have := h.prg.own_lt e; omega
  have n2 : ¬ rown rb R W.heap.size := fun e => by have := h.ref.rown_lt e; omega
  clear h ho'
  go_enter Tryz.func9, Tryz.ntmps9
  go_upto_region 13 with fail
  generalize hW0 : W.alloc (Obj.cells #[Value.int IntKind.i64 5, Value.string s, Value.string t, Value.int IntKind.i64 k, Value.int IntKind.i64 m, Value.slice bp b.length bc] 33) = W0
  have HT0 : Hid (Two W0 sb mb rb fs r R N B) := by rw [← hW0]; exact hide (HH.out.fresh (alloc_below _ _))
  have HB0 : Hid (Row .u8 W0 (.slice bp b.length bc) b) := by rw [← hW0]; exact hide (HB1.out.below (alloc_below _ _))
  have HB00 : Hid (Below B W W0) := by rw [← hW0]; exact hide ((alloc_below W _).mono hB)
  have HA0 : Hid (Below W.heap.size W W0) := by rw [← hW0]; exact hide (alloc_below W _)
  have ZB0 : Hid (B ≤ W0.heap.size) := hide (Nat.le_trans hB HB00.out.size)
  have s1 : W0.cell? ⟨W.heap.size, 1, none⟩ = some (.string s) := by rw [← hW0]; simp
  have HT1 : ∀ {w1 : World} {fs1 : List MF} {r1 : RC} {M : Nat}, Prg w1 sb mb fs1 r1 M → Step W0.drew w1 sb mb fs fs1 → Two w1 sb mb rb fs1 r1 R M B := fun hp hs => (HT0.out.fresh (Below.refl _ W0).drew).prog ZB0.out hp hs
  clear hW0 HH HB1
  go_region_held3 (fun w' => w'.cell? ⟨W.heap.size, 1, none⟩ = some (.string s) ) (go_keep)
    (first
      | (go_at_call 14; refine (premove (r := r) (HT0.out.fresh (Below.refl _ W0).drew).prg hN HO.out.ls).mono ?_; rintro _ w1 ⟨rfl, fs1, hp1, hs1⟩; have u1 := hs1.only.cell (a := ⟨W.heap.size, 1, none⟩) s1 n1)
      | (go_at_call 38; refine (qremove (HT1 hp1 hs1).ref HG.out).mono ?_; rintro _ w2 ⟨rfl, R2, hr2, hst2, hc2⟩; have v1 := hst2.only.cell (a := ⟨W.heap.size, 1, none⟩) u1 n2))
  have hT1 := HT1 hp1 hs1
  have hT2 := hT1.refs (Nat.le_trans ZB0.out hs1.only.size) hr2 hst2
  have HT2 := hide hT2
  have HC2 := hide hc2
  have HBB : Hid (Below B W w2) := hide (HB00.out.trans (((Below.refl B W0).drew.trans (hs1.only.below ZB0.out HT0.out.base)).trans (hst2.only.below (Nat.le_trans ZB0.out hs1.only.size) hT1.rbase)))
  have HTU : Hid (Turns W w2 sb mb rb fs fs1 R R2) := hide (Turns.mk2 (HA0.out.trans (Below.refl _ W0).drew) hs1 hst2)
  clear hT1 hT2 hp1 hs1 hr2 hst2 hc2 HT1 s1 u1 v1
  subst hr
  go_wp2
  go_ret
  exact ⟨by simp, _, R2, HT2.out.up_N (by omega), HC2.out, HBB.out, HTU.out⟩

set_option maxRecDepth 100000 in
set_option maxHeartbeats 4000000 in
theorem does6 {W : World} {sb mb rb N B : Nat} {fs : List MF} {r : RC} {R : RS} (h : Two W sb mb rb fs r R N B) (hr : R.core = r) (hB : B ≤ W.heap.size) (hN1 : N < 2199023255552) {s t : ByteArray} {k m : Int} {bp : Option Addr} {bc : Nat} {b : By} (ho' : OpOk W B s t k m bp bc b) :
    Calls Tryz.prog 9 #[.pointer (some ⟨sb, 0, none⟩), .pointer (some ⟨rb, 0, none⟩), .agg #[.int .i64 6, .string s, .string t, .int .i64 k, .int .i64 m, .slice bp b.length bc]] W (DPost W sb mb rb fs R (r.crash k m) (N + 1) B) := by
  have hN : N ≤ 4398046511104 := by omega
  have hrP : r.P.length < 2199023255552 := by
    obtain ⟨J, left, pend, turn, _, h2⟩ := h.prg
    have h3 := h2.len
    have h4 : r.P.length = J.length := by rw [h2.P]; simp
    omega
  have HG : Hid (Good R) := hide (Prg.good (N := N) (by rw [hr]; exact h.prg) (by rw [hr]; omega))
  have HP : Hid (R.P.length < 2199023255552) := by
    refine hide ?_
    obtain ⟨J, left, pend, turn, _, h2⟩ := h.prg
    have e : R.P.length = r.P.length := by rw [← hr]; simp [RS.core]
    have h3 := h2.len
    have h4 : r.P.length = J.length := by rw [h2.P]; simp
    omega
  have HCL : Hid (b ≠ [] → Clear (own sb mb fs) (.slice bp b.length bc)) := hide (fun hbe i hi ho => by have := ho'.far hbe i hi; have := h.base i ho; omega)
  have HU := hide ho'.u8
  have HH := hide h
  have HB1 := hide ho'.row
  have HO := hide ho'
  have n1 : ¬ own sb mb fs W.heap.size := fun e => by have := h.prg.own_lt e; omega
  have n2 : ¬ rown rb R W.heap.size := fun e => by have := h.ref.rown_lt e; omega
  clear h ho'
  go_enter Tryz.func9, Tryz.ntmps9
  go_upto_region 15 with fail
  generalize hW0 : W.alloc (Obj.cells #[Value.int IntKind.i64 6, Value.string s, Value.string t, Value.int IntKind.i64 k, Value.int IntKind.i64 m, Value.slice bp b.length bc] 33) = W0
  have HT0 : Hid (Two W0 sb mb rb fs r R N B) := by rw [← hW0]; exact hide (HH.out.fresh (alloc_below _ _))
  have HB0 : Hid (Row .u8 W0 (.slice bp b.length bc) b) := by rw [← hW0]; exact hide (HB1.out.below (alloc_below _ _))
  have HB00 : Hid (Below B W W0) := by rw [← hW0]; exact hide ((alloc_below W _).mono hB)
  have HA0 : Hid (Below W.heap.size W W0) := by rw [← hW0]; exact hide (alloc_below W _)
  have ZB0 : Hid (B ≤ W0.heap.size) := hide (Nat.le_trans hB HB00.out.size)
  have s3 : W0.cell? ⟨W.heap.size, 3, none⟩ = some (.int .i64 k) := by rw [← hW0]; simp
  have s4 : W0.cell? ⟨W.heap.size, 4, none⟩ = some (.int .i64 m) := by rw [← hW0]; simp
  have HT1 : ∀ {w1 : World} {fs1 : List MF} {r1 : RC} {M : Nat}, Prg w1 sb mb fs1 r1 M → Step W0.drew w1 sb mb fs fs1 → Two w1 sb mb rb fs1 r1 R M B := fun hp hs => (HT0.out.fresh (Below.refl _ W0).drew).prog ZB0.out hp hs
  clear hW0 HH HB1
  go_region_held3 (fun w' => w'.cell? ⟨W.heap.size, 3, none⟩ = some (.int .i64 k) ∧ w'.cell? ⟨W.heap.size, 4, none⟩ = some (.int .i64 m) ) (go_keep)
    (first
      | (go_at_call 18; refine (pcrash (r := r) (HT0.out.fresh (Below.refl _ W0).drew).prg (Nat.le_of_lt hrP) HO.out.k0 HO.out.k1 HO.out.m0 HO.out.m1).mono ?_; rintro _ w1 ⟨rfl, fs1, hp1, hs1⟩; have u3 := hs1.only.cell (a := ⟨W.heap.size, 3, none⟩) s3 n1; have u4 := hs1.only.cell (a := ⟨W.heap.size, 4, none⟩) s4 n1)
      | (go_at_call 39; refine (qcrash (HT1 hp1 hs1).ref HG.out HO.out.k0 HO.out.k1 HO.out.m0 HO.out.m1).mono ?_; rintro _ w2 ⟨rfl, R2, hr2, hst2, hc2⟩; have v3 := hst2.only.cell (a := ⟨W.heap.size, 3, none⟩) u3 n2; have v4 := hst2.only.cell (a := ⟨W.heap.size, 4, none⟩) u4 n2))
  have hT1 := HT1 hp1 hs1
  have hT2 := hT1.refs (Nat.le_trans ZB0.out hs1.only.size) hr2 hst2
  have HT2 := hide hT2
  have HC2 := hide hc2
  have HBB : Hid (Below B W w2) := hide (HB00.out.trans (((Below.refl B W0).drew.trans (hs1.only.below ZB0.out HT0.out.base)).trans (hst2.only.below (Nat.le_trans ZB0.out hs1.only.size) hT1.rbase)))
  have HTU : Hid (Turns W w2 sb mb rb fs fs1 R R2) := hide (Turns.mk2 (HA0.out.trans (Below.refl _ W0).drew) hs1 hst2)
  clear hT1 hT2 hp1 hs1 hr2 hst2 hc2 HT1 s3 s4 u3 u4 v3 v4
  subst hr
  go_wp2
  go_ret
  exact ⟨by simp, _, R2, HT2.out.up_N (by omega), HC2.out, HBB.out, HTU.out⟩

set_option maxRecDepth 100000 in
set_option maxHeartbeats 4000000 in
theorem does7 {W : World} {sb mb rb N B : Nat} {fs : List MF} {r : RC} {R : RS} (h : Two W sb mb rb fs r R N B) (hr : R.core = r) (hB : B ≤ W.heap.size) (hN1 : N < 2199023255552) {s t : ByteArray} {k m : Int} {bp : Option Addr} {bc : Nat} {b : By} (ho' : OpOk W B s t k m bp bc b) :
    Calls Tryz.prog 9 #[.pointer (some ⟨sb, 0, none⟩), .pointer (some ⟨rb, 0, none⟩), .agg #[.int .i64 7, .string s, .string t, .int .i64 k, .int .i64 m, .slice bp b.length bc]] W (DPost W sb mb rb fs R (r.start) (N + 1) B) := by
  have hN : N ≤ 4398046511104 := by omega
  have hrP : r.P.length < 2199023255552 := by
    obtain ⟨J, left, pend, turn, _, h2⟩ := h.prg
    have h3 := h2.len
    have h4 : r.P.length = J.length := by rw [h2.P]; simp
    omega
  have HG : Hid (Good R) := hide (Prg.good (N := N) (by rw [hr]; exact h.prg) (by rw [hr]; omega))
  have HP : Hid (R.P.length < 2199023255552) := by
    refine hide ?_
    obtain ⟨J, left, pend, turn, _, h2⟩ := h.prg
    have e : R.P.length = r.P.length := by rw [← hr]; simp [RS.core]
    have h3 := h2.len
    have h4 : r.P.length = J.length := by rw [h2.P]; simp
    omega
  have HCL : Hid (b ≠ [] → Clear (own sb mb fs) (.slice bp b.length bc)) := hide (fun hbe i hi ho => by have := ho'.far hbe i hi; have := h.base i ho; omega)
  have HU := hide ho'.u8
  have HH := hide h
  have HB1 := hide ho'.row
  have HO := hide ho'
  have n1 : ¬ own sb mb fs W.heap.size := fun e => by have := h.prg.own_lt e; omega
  have n2 : ¬ rown rb R W.heap.size := fun e => by have := h.ref.rown_lt e; omega
  clear h ho'
  go_enter Tryz.func9, Tryz.ntmps9
  go_upto_region 17 with fail
  generalize hW0 : W.alloc (Obj.cells #[Value.int IntKind.i64 7, Value.string s, Value.string t, Value.int IntKind.i64 k, Value.int IntKind.i64 m, Value.slice bp b.length bc] 33) = W0
  have HT0 : Hid (Two W0 sb mb rb fs r R N B) := by rw [← hW0]; exact hide (HH.out.fresh (alloc_below _ _))
  have HB0 : Hid (Row .u8 W0 (.slice bp b.length bc) b) := by rw [← hW0]; exact hide (HB1.out.below (alloc_below _ _))
  have HB00 : Hid (Below B W W0) := by rw [← hW0]; exact hide ((alloc_below W _).mono hB)
  have HA0 : Hid (Below W.heap.size W W0) := by rw [← hW0]; exact hide (alloc_below W _)
  have ZB0 : Hid (B ≤ W0.heap.size) := hide (Nat.le_trans hB HB00.out.size)
  have HT1 : ∀ {w1 : World} {fs1 : List MF} {r1 : RC} {M : Nat}, Prg w1 sb mb fs1 r1 M → Step W0.drew w1 sb mb fs fs1 → Two w1 sb mb rb fs1 r1 R M B := fun hp hs => (HT0.out.fresh (Below.refl _ W0).drew).prog ZB0.out hp hs
  clear hW0 HH HB1
  go_wp2_with fail
  refine (pstart (r := r) HT0.out.prg).mono ?_
  rintro _ w1 ⟨rfl, fs1, hp1, hs1⟩
  have hT1 := HT0.out.prog ZB0.out hp1 hs1
  have HTT := hide hT1
  have HS1 := hide hs1
  clear hp1 hs1
  go_wp2_with fail
  refine (qstart HTT.out.ref).mono ?_
  rintro _ w2 ⟨rfl, R2, hr2, hst2, hc2⟩
  have hT2 := HTT.out.refs (Nat.le_trans ZB0.out HS1.out.only.size) hr2 hst2
  have HT2 := hide hT2
  have HC2 := hide hc2
  have HBB : Hid (Below B W w2) := hide (HB00.out.trans ((HS1.out.only.below ZB0.out HT0.out.base).trans (hst2.only.below (Nat.le_trans ZB0.out HS1.out.only.size) HTT.out.rbase)))
  have HTU : Hid (Turns W w2 sb mb rb fs fs1 R R2) := hide (Turns.mk2 HA0.out HS1.out hst2)
  clear hT1 hT2 hr2 hst2 hc2 HTT HS1
  subst hr
  go_wp2
  go_ret
  exact ⟨by simp, _, R2, HT2.out.up_N (by omega), HC2.out, HBB.out, HTU.out⟩

set_option maxRecDepth 100000 in
set_option maxHeartbeats 4000000 in
theorem does8 {W : World} {sb rb : Nat} {d : Int} (hd : d < 0 ∨ 7 < d) {s t : ByteArray} {k m : Int} {bp : Option Addr} {bn bc : Nat} :
    Calls Tryz.prog 9 #[.pointer (some ⟨sb, 0, none⟩), .pointer (some ⟨rb, 0, none⟩), .agg #[.int .i64 d, .string s, .string t, .int .i64 k, .int .i64 m, .slice bp bn bc]] W fun e w' => e = .returned (.bool true) ∧ Below W.heap.size W w' := by
  have e0 : (d == 0) = false := by simp; omega
  have e1 : (d == 1) = false := by simp; omega
  have e2 : (d == 2) = false := by simp; omega
  have e3 : (d == 3) = false := by simp; omega
  have e4 : (d == 4) = false := by simp; omega
  have e5 : (d == 5) = false := by simp; omega
  have e6 : (d == 6) = false := by simp; omega
  have e7 : (d == 7) = false := by simp; omega
  clear hd
  go_enter Tryz.func9, Tryz.ntmps9
  go_wp2
  go_ret
  exact ⟨rfl, alloc_below _ _⟩
end Go.Proofs.YtikpckmlnhcddaaGreat
