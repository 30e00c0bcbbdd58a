/-
  Abort and Commit of the program's sink. The conditions: that the sink lies there; lengths.
-/
import Derived.Test.YtboofnkajjnmeaaTk0
import Derived.Test.YtboofnkajjnmeaaSkn
import Derived.Deep.CutRange
namespace Go.Proofs.Ytboofnkajjnmeaa
open Go.RowKit

structure KeyI (B : Nat) (W : World) (k k1 : PK) (bB : Nat) (cs : Array Value) (w1 : World) : Prop where
  ps : PS B w1 k1
  b : k1.b = k.b
  only : Only k.blk W w1
  blk : ∀ i, k1.blk i → k.blk i ∨ W.heap.size ≤ i
  box : w1.heap[bB]? = some (.cells cs 55 (0, 0))
  nb : ¬ k1.blk bB ∧ W.heap.size ≤ bB
theorem KeyI.later {B : Nat} {W : World} {k k1 : PK} {bB : Nat} {cs : Array Value} {w1 w2 : World} (h : KeyI B W k k1 bB cs w1) (hb : Below w1.heap.size w1 w2) : KeyI B W k k1 bB cs w2 :=
  ⟨h.ps.later hb, h.b, h.only.step (Only.fresh hb (fun _ => False)) (fun _ e => e.elim), h.blk, below_box hb h.box, h.nb⟩
theorem KeyI.put {B : Nat} {W : World} {k k1 : PK} {bB : Nat} {cs : Array Value} {w1 w2 : World} (h : KeyI B W k k1 bB cs w1) (hb : Below w1.heap.size w1 w2) : Put B W k k1.sk w2 :=
  Put.trans h.b h.only h.blk (Put.same h.ps hb)
def nameE (s : SK) (e i : Int) : Int := if posI e ∧ posI i then entC s e else 1
def nameS (s : SK) (e i : Int) : SK := if posI e ∧ posI i then raisC s e else s
def PK.del (k : PK) (i : Int) : PK := ⟨k.b, k.mb, k.op, k.oc, k.vp, k.vc, k.dp, k.dc, k.reg, k.out, k.vec, k.done, k.xs.filter (fun x => x.t.id != i)⟩
theorem del_map (i : Int) : ∀ xs : List TP, (xs.filter (fun x => x.t.id != i)).map TP.t = delT i (xs.map TP.t)
  | [] => rfl
  | x :: xs => by
    unfold delT
    rw [List.map_cons, List.filter_cons, List.filter_cons]
    by_cases h : (x.t.id != i) = true
    · rw [if_pos h, if_pos h, List.map_cons, del_map i xs]; rfl
    · rw [if_neg h, if_neg h, del_map i xs]; rfl
theorem PS.del {B : Nat} {W w8 : World} {k : PK} {i : Int} (h : PS B W k) (hm : MapT w8 k.mb k.xs.length (k.xs.filter (fun x => x.t.id != i))) (ho : Only (· = k.mb) W w8) : PS B w8 (k.del i) := by
  refine ⟨ho.obj h.box (fun e9 => h.map.box h.box e9.symm), hm.tight, ownsRow_only h.out ho (fun i hi => row_map h.out h.map i (InB.of hi)), ownsRow_only h.vec ho (fun i hi => row_map h.vec h.map i (InB.of hi)), ownsRow_only h.done ho (fun i hi => row_map h.done h.map i (InB.of hi)), fun x hx => ?_, ⟨h.ap.1, fun x hx => h.ap.2 x (List.mem_filter.1 hx).1⟩, h.ge, ?_⟩
  · have h9 := h.pre x (List.mem_filter.1 hx).1
    exact h9.only ho (fun i hi => row_map h9.r h.map i hi) (fun i hi => row_map h9.v h.map i hi)
  · show okS ⟨k.reg, k.out, k.vec, k.done, (k.xs.filter (fun x => x.t.id != i)).map TP.t⟩
    rw [del_map]
    exact del_ok h.ok i
theorem PK.del_blk {k : PK} {i : Int} {j : Nat} (h : (k.del i).blk j) : k.blk j := by
  rcases h with h | h | h | h | h | ⟨x, hx, h⟩
  · exact .inl h
  · exact .inr (.inl h)
  · exact .inr (.inr (.inl h))
  · exact .inr (.inr (.inr (.inl h)))
  · exact .inr (.inr (.inr (.inr (.inl h))))
  · exact .inr (.inr (.inr (.inr (.inr ⟨x, (List.mem_filter.1 hx).1, h⟩))))
theorem Put.del {B : Nat} {W w8 : World} {k : PK} {i : Int} (h : PS B W k) (hm : MapT w8 k.mb k.xs.length (k.xs.filter (fun x => x.t.id != i))) (ho : Only (· = k.mb) W w8) : Put B W k ⟨k.reg, k.out, k.vec, k.done, delT i k.sk.pre⟩ w8 :=
  ⟨k.del i, h.del hm ho, by show SK.mk k.reg k.out k.vec k.done ((k.xs.filter (fun x => x.t.id != i)).map TP.t) = _; rw [del_map]; rfl, rfl, ho.mono (fun i _ e => .inr (.inl e)), fun j hj => .inl (PK.del_blk hj)⟩
set_option maxRecDepth 100000 in
set_option maxHeartbeats 4000000 in
theorem abort_err {W : World} {B : Nat} {k : PK} {e i : Int} {q : Int} (h : PS B W k) (hdn : k.done.length < 17592186044416) (hne : nameE k.sk e i = q) (hns : nameS k.sk e i = k.sk) (hq : q ≠ 0) :
    Calls Try.prog 23 #[.pointer (some ⟨k.b, 0, none⟩), .agg #[.int .i64 e, .int .i64 i]] W fun r w' => r = .returned (.int .i64 q) ∧ Put B W k k.sk w' := by
  have HNE := hide hne
  have HNS := hide hns
  have q1 : (q != 0) = true := ne_ne8 hq
  clear hne hns hq
  have HP := hide h
  have HDN := hide hdn
  clear h hdn
  obtain ⟨V, hV⟩ : ∃ V, V = W.alloc (.cells #[.int .i64 e, .int .i64 i] 55 (0, 0)) := ⟨_, rfl⟩
  have HV : Hid (V.heap[W.heap.size]? = some (.cells #[.int .i64 e, .int .i64 i] 55 (0, 0))) := hide (by rw [hV]; exact heap_alloc_new W _)
  have HBV : Hid (Below W.heap.size W V) := hide (by rw [hV]; exact alloc_below _ _)
  obtain ⟨bB, hbB⟩ : ∃ bB, W.heap.size = bB := ⟨_, rfl⟩
  rw [hbB] at HV HBV
  have HZbB := hide hbB
  have HBW : Hid (Below W.heap.size W V) := hide (by rw [HZbB.out]; exact HBV.out)
  have HPV : Hid (PS B V k) := hide (HP.out.later HBW.out)
  go_enter Try.func23, Try.ntmps23
  go_upto_region 1 with fail
  rw [← hV]
  try rw [hbB]
  clear hV hbB
  have u0 := cellB HV.out (i := 0) rfl
  have u1 := cellB HV.out (i := 1) rfl
  have hen := enterNamed_any (e := e) (i := i) HPV.out
  rw [show (if posI e ∧ posI i then entC k.sk e else 1) = nameE k.sk e i from rfl, show (if posI e ∧ posI i then raisC k.sk e else k.sk) = nameS k.sk e i from rfl, HNE.out, HNS.out] at hen
  go_wp2_with fail
  refine hen.mono ?_
  rintro _ w1 ⟨rfl, hput⟩
  clear hen
  have HU := hide hput
  clear hput u0 u1
  go_wp2
  go_ret
  exact ⟨rfl, Put.first HBW.out HU.out⟩
attribute [local irreducible] wpQuiet in
set_option maxRecDepth 100000 in
set_option maxHeartbeats 8000000 in
theorem abort_done {W : World} {B : Nat} {k : PK} {e i : Int} {s1 : SK} (h : PS B W k) (hdn : k.done.length < 17592186044416) (hne : nameE k.sk e i = 0) (hns : nameS k.sk e i = s1) (hpe : posI e ∧ posI i ∧ ¬ e < k.reg) (hdo : doneC s1 e i = true) :
    Calls Try.prog 23 #[.pointer (some ⟨k.b, 0, none⟩), .agg #[.int .i64 e, .int .i64 i]] W fun r w' => r = .returned (.int .i64 5) ∧ Put B W k (s1) w' := by
  have HDO0 := hide hdo
  clear hdo
  have HNE : Hid (nameE k.sk e i = 0) := hide hne
  have HNS := hide hns
  have HPE := hide hpe
  clear hne hns hpe
  have HP := hide h
  have HDN := hide hdn
  clear h hdn
  obtain ⟨V, hV⟩ : ∃ V, V = W.alloc (.cells #[.int .i64 e, .int .i64 i] 55 (0, 0)) := ⟨_, rfl⟩
  have HV : Hid (V.heap[W.heap.size]? = some (.cells #[.int .i64 e, .int .i64 i] 55 (0, 0))) := hide (by rw [hV]; exact heap_alloc_new W _)
  have HBV : Hid (Below W.heap.size W V) := hide (by rw [hV]; exact alloc_below _ _)
  obtain ⟨bB, hbB⟩ : ∃ bB, W.heap.size = bB := ⟨_, rfl⟩
  rw [hbB] at HV HBV
  have HZbB := hide hbB
  have HBW : Hid (Below W.heap.size W V) := hide (by rw [HZbB.out]; exact HBV.out)
  have HPV : Hid (PS B V k) := hide (HP.out.later HBW.out)
  go_enter Try.func23, Try.ntmps23
  go_upto_region 1 with fail
  rw [← hV]
  try rw [hbB]
  clear hV hbB
  have u0 := cellB HV.out (i := 0) rfl
  have u1 := cellB HV.out (i := 1) rfl
  have hen := enterNamed_any (e := e) (i := i) HPV.out
  rw [show (if posI e ∧ posI i then entC k.sk e else 1) = nameE k.sk e i from rfl, show (if posI e ∧ posI i then raisC k.sk e else k.sk) = nameS k.sk e i from rfl, HNE.out, HNS.out] at hen
  go_wp2_with fail
  refine hen.mono ?_
  rintro _ w1 ⟨rfl, hput⟩
  clear hen
  have HNB : Hid (¬ k.blk bB ∧ W.heap.size ≤ bB) := hide ⟨fun hb9 => by have := (HP.out.lt hb9).2; have := HZbB.out; omega, by have := HZbB.out; omega⟩
  obtain ⟨k1, p1, p2, p3, p4, p5⟩ := hput
  have HI1 : Hid (KeyI B W k k1 bB #[.int .i64 e, .int .i64 i] w1) := hide ⟨p1, p3, (Only.fresh HBW.out _).trans p4, fun i hi => (p5 i hi).imp (fun h9 => h9) (fun h9 => Nat.le_trans HBW.out.size h9), p4.obj HV.out HNB.out.1, fun hb9 => (p5 _ hb9).elim HNB.out.1 (fun h9 => by have := box_lt HV.out; omega), HNB.out.2⟩
  have HSK := hide p2
  have HSR : Hid (s1 = raisC k.sk e) := hide (by rw [← HNS.out]; unfold nameS; rw [if_pos ⟨HPE.out.1, HPE.out.2.1⟩])
  have HRG : Hid (k1.reg = e) := hide (by
    have h9 : k1.sk.reg = (raisC k.sk e).reg := by rw [p2, HSR.out]
    rw [rais_reg] at h9
    have h8 : k1.reg = if k.reg < e then e else k.reg := h9
    have := HPE.out.2.2
    split at h8 <;> omega)
  have HDN1 : Hid (k1.done.length < 17592186044416) := hide (by
    have h9 : k1.sk.done = (raisC k.sk e).done := by rw [p2, HSR.out]
    have h8 : k1.done = (raisC k.sk e).done := h9
    rw [h8]
    unfold raisC
    split
    · show ([] : List Int).length < 17592186044416; simp
    · exact HDN.out)
  have HDN2 : Hid (k1.done.length < 4611686018427387904) := hide (by have := HDN1.out; omega)
  rw [← p3]
  clear p1 p2 p3 p4 p5 u0 u1 HPV HBW HV HBV
  have u0 := cellB HI1.out.box (i := 0) rfl
  have u1 := cellB HI1.out.box (i := 1) rfl
  have HDO : Hid (doneC k1.sk e i = true) := hide (by rw [HSK.out]; exact HDO0.out)
  go_wp2_with fail
  refine (done_any HI1.out.ps HDN2.out HDO.out).mono ?_
  rintro _ w2 ⟨rfl, b2⟩
  have HI2 := hide (HI1.out.later b2)
  clear b2 HI1 u0 u1
  go_wp2
  go_ret
  exact ⟨rfl, by rw [← HSK.out]; exact HI2.out.put (Below.refl _ _)⟩
attribute [local irreducible] wpQuiet in
set_option maxRecDepth 100000 in
set_option maxHeartbeats 8000000 in
theorem abort_del {W : World} {B : Nat} {k : PK} {e i : Int} {s1 : SK} (h : PS B W k) (hdn : k.done.length < 17592186044416) (hne : nameE k.sk e i = 0) (hns : nameS k.sk e i = s1) (hpe : posI e ∧ posI i ∧ ¬ e < k.reg) (hdo : doneC s1 e i = false) :
    Calls Try.prog 23 #[.pointer (some ⟨k.b, 0, none⟩), .agg #[.int .i64 e, .int .i64 i]] W fun r w' => r = .returned (.int .i64 0) ∧ Put B W k (⟨s1.reg, s1.out, s1.vec, s1.done, delT i s1.pre⟩) w' := by
  have HDO0 := hide hdo
  clear hdo
  have HNE : Hid (nameE k.sk e i = 0) := hide hne
  have HNS := hide hns
  have HPE := hide hpe
  clear hne hns hpe
  have HP := hide h
  have HDN := hide hdn
  clear h hdn
  obtain ⟨V, hV⟩ : ∃ V, V = W.alloc (.cells #[.int .i64 e, .int .i64 i] 55 (0, 0)) := ⟨_, rfl⟩
  have HV : Hid (V.heap[W.heap.size]? = some (.cells #[.int .i64 e, .int .i64 i] 55 (0, 0))) := hide (by rw [hV]; exact heap_alloc_new W _)
  have HBV : Hid (Below W.heap.size W V) := hide (by rw [hV]; exact alloc_below _ _)
  obtain ⟨bB, hbB⟩ : ∃ bB, W.heap.size = bB := ⟨_, rfl⟩
  rw [hbB] at HV HBV
  have HZbB := hide hbB
  have HBW : Hid (Below W.heap.size W V) := hide (by rw [HZbB.out]; exact HBV.out)
  have HPV : Hid (PS B V k) := hide (HP.out.later HBW.out)
  go_enter Try.func23, Try.ntmps23
  go_upto_region 1 with fail
  rw [← hV]
  try rw [hbB]
  clear hV hbB
  have u0 := cellB HV.out (i := 0) rfl
  have u1 := cellB HV.out (i := 1) rfl
  have hen := enterNamed_any (e := e) (i := i) HPV.out
  rw [show (if posI e ∧ posI i then entC k.sk e else 1) = nameE k.sk e i from rfl, show (if posI e ∧ posI i then raisC k.sk e else k.sk) = nameS k.sk e i from rfl, HNE.out, HNS.out] at hen
  go_wp2_with fail
  refine hen.mono ?_
  rintro _ w1 ⟨rfl, hput⟩
  clear hen
  have HNB : Hid (¬ k.blk bB ∧ W.heap.size ≤ bB) := hide ⟨fun hb9 => by have := (HP.out.lt hb9).2; have := HZbB.out; omega, by have := HZbB.out; omega⟩
  obtain ⟨k1, p1, p2, p3, p4, p5⟩ := hput
  have HI1 : Hid (KeyI B W k k1 bB #[.int .i64 e, .int .i64 i] w1) := hide ⟨p1, p3, (Only.fresh HBW.out _).trans p4, fun i hi => (p5 i hi).imp (fun h9 => h9) (fun h9 => Nat.le_trans HBW.out.size h9), p4.obj HV.out HNB.out.1, fun hb9 => (p5 _ hb9).elim HNB.out.1 (fun h9 => by have := box_lt HV.out; omega), HNB.out.2⟩
  have HSK := hide p2
  have HSR : Hid (s1 = raisC k.sk e) := hide (by rw [← HNS.out]; unfold nameS; rw [if_pos ⟨HPE.out.1, HPE.out.2.1⟩])
  have HRG : Hid (k1.reg = e) := hide (by
    have h9 : k1.sk.reg = (raisC k.sk e).reg := by rw [p2, HSR.out]
    rw [rais_reg] at h9
    have h8 : k1.reg = if k.reg < e then e else k.reg := h9
    have := HPE.out.2.2
    split at h8 <;> omega)
  have HDN1 : Hid (k1.done.length < 17592186044416) := hide (by
    have h9 : k1.sk.done = (raisC k.sk e).done := by rw [p2, HSR.out]
    have h8 : k1.done = (raisC k.sk e).done := h9
    rw [h8]
    unfold raisC
    split
    · show ([] : List Int).length < 17592186044416; simp
    · exact HDN.out)
  have HDN2 : Hid (k1.done.length < 4611686018427387904) := hide (by have := HDN1.out; omega)
  rw [← p3]
  clear p1 p2 p3 p4 p5 u0 u1 HPV HBW HV HBV
  have u0 := cellB HI1.out.box (i := 0) rfl
  have u1 := cellB HI1.out.box (i := 1) rfl
  have HDO : Hid (doneC k1.sk e i = false) := hide (by rw [HSK.out]; exact HDO0.out)
  go_wp2_with fail
  refine (done_any HI1.out.ps HDN2.out HDO.out).mono ?_
  rintro _ w2 ⟨rfl, b2⟩
  have HI2 := hide (HI1.out.later b2)
  clear b2 HI1 u0 u1
  go_upto_region 6 with fail
  have m4 := HI2.out.ps.c4
  have n0 := cellB HI2.out.box (i := 0) rfl
  have n1 := cellB HI2.out.box (i := 1) rfl
  have hne1 : k1.b ≠ k1.mb := fun e9 => HI2.out.ps.map.box HI2.out.ps.box e9.symm
  have hne2 : bB ≠ k1.mb := fun e9 => HI2.out.nb.1 (.inr (.inl e9))
  obtain ⟨w8, hdl, hm8, ho8⟩ := (HI2.out.ps.map.later (Below.refl _ w2).drew).drop HI2.out.ps.named HRG.out.symm HPE.out.1 HPE.out.2.1 0
  simp only [keyV] at hdl
  have HM8 := hide hm8
  have HO8 : Hid (Only (· = k1.mb) w2 w8) := hide ⟨ho8.os, ho8.tape, ho8.output, ho8.size, ho8.block⟩
  clear hm8 ho8
  refine wp_region_held_drew (S := fun w9 => Only (· = k1.mb) w2 w9) (by kernel_rfl) ((Only.refl _ w2).drew) (fun hHeld => ?_)
  refine tb 0 ?_ rfl (by kernel_rfl) (fun _ _ _ h => h) (by assumption) ?_ ?_
  rotate_left
  · intro w hSw
    have l4 := hSw.cell m4 hne1
    have l0 := hSw.cell n0 hne2
    have l1 := hSw.cell n1 hne2
    go_simp
    all_goals with_reducible rfl
  simp only [Act.put]
  refine tb 1 ?_ rfl (by kernel_rfl) (fun _ _ _ h => h) (by assumption) ?_ ?_
  rotate_left
  · intro w hSw
    have l4 := hSw.cell m4 hne1
    have l0 := hSw.cell n0 hne2
    have l1 := hSw.cell n1 hne2
    go_simp
    all_goals with_reducible rfl
  simp only [Act.put]
  refine tb 2 ?_ rfl (by kernel_rfl) (fun _ _ _ h => h) (by assumption) ?_ ?_
  rotate_left
  · intro w hSw
    have l4 := hSw.cell m4 hne1
    have l0 := hSw.cell n0 hne2
    have l1 := hSw.cell n1 hne2
    go_simp
    all_goals with_reducible rfl
  simp only [Act.put]
  refine tb 3 ?_ rfl (by kernel_rfl) (fun _ _ _ h => h) (by assumption) ?_ ?_
  rotate_left
  · intro w hSw
    have l4 := hSw.cell m4 hne1
    have l0 := hSw.cell n0 hne2
    have l1 := hSw.cell n1 hne2
    go_simp
    all_goals with_reducible rfl
  simp only [Act.put]
  refine tb 4 ?_ rfl (by kernel_rfl) (fun _ _ _ h => h) (by assumption) ?_ ?_
  rotate_left
  · intro w hSw
    have l4 := hSw.cell m4 hne1
    have l0 := hSw.cell n0 hne2
    have l1 := hSw.cell n1 hne2
    go_simp
    all_goals with_reducible rfl
  simp only [Act.put]
  refine rr 5 (o := _) rfl (by kernel_rfl) (fun K hK => ?_)
  go_simp
  refine hK.out _ _ HO8.out (fun hHeld => ?_)
  clear hK
  refine wpAnyH_done (by kernel_rfl) ?_ _
  go_wp2
  go_ret
  have hput : Put B W k ⟨k1.reg, k1.out, k1.vec, k1.done, delT i k1.sk.pre⟩ w8 := Put.trans HI2.out.b HI2.out.only HI2.out.blk (Put.del HI2.out.ps HM8.out HO8.out)
  refine ⟨rfl, ?_⟩
  have he : (⟨k1.reg, k1.out, k1.vec, k1.done, delT i k1.sk.pre⟩ : SK) = ⟨s1.reg, s1.out, s1.vec, s1.done, delT i s1.pre⟩ := by rw [← HSK.out]; rfl
  rw [he] at hput
  exact hput
end Go.Proofs.Ytboofnkajjnmeaa
