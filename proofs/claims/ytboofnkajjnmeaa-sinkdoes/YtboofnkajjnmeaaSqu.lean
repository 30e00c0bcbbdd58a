/-
  same of the laws, where both sinks keep the same: it answers true. The conditions: that both lie there; lengths.
-/
import Derived.Test.YtboofnkajjnmeaaTk0
import Derived.Test.YtboofnkajjnmeaaSqt
import Derived.Test.YtboofnkajjnmeaaSqo
import Derived.Test.YtboofnkajjnmeaaSkw
namespace Go.Proofs.Ytboofnkajjnmeaa
open Go.RowKit Go.Maps Go.Shelf

def nmR (p : Int × Int) : RC := ⟨p.1, p.2⟩
theorem nmR_cells (l : List (Int × Int)) : (l.map nmR).flatMap RC.cells = l.flatMap nmC := by
  induction l with
  | nil => rfl
  | cons a l ih =>
    rw [List.map_cons, List.flatMap_cons, List.flatMap_cons, ih]
    rfl
theorem nm_row {W : World} {B n c : Nat} {p : Option Addr} {l : List (Int × Int)} (h : W.ownsRow B 55 2 (.slice p n c) n (l.flatMap nmC)) (hn : l.length = n) : RRow W p c (l.map nmR) :=
  LRow.of_own (base := B) (n := n) (e := 55) RC.len (by rw [List.length_map, hn]) (by rw [nmR_cells]; exact h)
def readL (s : SK) (f : Int) (m : Nat) : List RC := if 0 ≤ f ∧ f ≤ s.out.length then (s.out.drop f.toNat).take m else []
def readE (s : SK) (f : Int) : Int := if 0 ≤ f ∧ f ≤ s.out.length then 0 else 1
theorem row_nil (W : World) : RRow W none 0 [] := ⟨Nat.le_refl _, by decide, fun _ => rfl, fun i hi => by cases hi⟩
theorem read_all {B : Nat} {W : World} {k : PK} {f : Int} {m L : Nat} {r : Int} (h : PS B W k) (hL : (readL k.sk f m).length = L) (hr : readE k.sk f = r) :
    Calls Try.prog 28 #[.pointer (some ⟨k.b, 0, none⟩), .int .i64 f, .int .i64 (m : Int)] W fun e w' => ∃ p c, e = .returned (.tuple #[.slice p L c, .int .i64 r]) ∧ RRow w' p c (readL k.sk f m) ∧ Below W.heap.size W w' := by
  subst hL hr
  by_cases hc : 0 ≤ f ∧ f ≤ k.out.length
  · obtain ⟨j, rfl⟩ : ∃ j : Nat, f = (j : Int) := ⟨f.toNat, by omega⟩
    have e1 : readL k.sk (j : Int) m = (k.out.drop j).take m := if_pos hc
    have e2 : readE k.sk (j : Int) = 0 := if_pos hc
    rw [e1, e2]
    refine (read_ok h (by omega) rfl).mono ?_
    rintro _ w' ⟨p, c, h1, h2, h3⟩
    exact ⟨p, c, h1, RRow.of_own rfl h2, h3⟩
  · have e1 : readL k.sk f m = [] := if_neg hc
    have e2 : readE k.sk f = 1 := if_neg hc
    rw [e1, e2]
    refine (read_arg h (fun h9 => hc ⟨h9.1, h9.2.1⟩)).mono ?_
    rintro _ w' ⟨h1, h3⟩
    exact ⟨none, 0, h1, row_nil _, h3⟩
theorem rread_all {W : World} {b n : Nat} {q : QK} {s : SK} {f : Int} {m L : Nat} {r : Int} (h : RS W b n q) (hs : q.sk = s) (hL : (readL s f m).length = L) (hr : readE s f = r) :
    Calls Try.prog 38 #[.pointer (some ⟨b, 0, none⟩), .int .i64 f, .int .i64 (m : Int)] W fun e w' => ∃ p c, e = .returned (.tuple #[.slice p L c, .int .i64 r]) ∧ RRow w' p c (readL s f m) ∧ w' = W := by
  subst hs hL hr
  by_cases hc : 0 ≤ f ∧ f ≤ q.out.length
  · obtain ⟨j, rfl⟩ : ∃ j : Nat, f = (j : Int) := ⟨f.toNat, by omega⟩
    have e1 : readL q.sk (j : Int) m = (q.out.drop j).take m := if_pos hc
    have e2 : readE q.sk (j : Int) = 0 := if_pos hc
    rw [e1, e2]
    exact rread_ok h (by omega) rfl
  · have e1 : readL q.sk f m = [] := if_neg hc
    have e2 : readE q.sk f = 1 := if_neg hc
    rw [e1, e2]
    refine (rread_arg h (fun h9 => hc ⟨h9.1, h9.2.1⟩)).mono ?_
    rintro _ w' ⟨h1, h3⟩
    exact ⟨none, 0, h1, row_nil _, h3⟩
theorem register_b {W : World} {B : Nat} {k : PK} (h : PS B W k) : Calls Try.prog 17 #[.pointer (some ⟨k.b, 0, none⟩)] W fun e w' => e = .returned (.int .i64 k.reg) ∧ Below W.heap.size W w' :=
  (register_any h).mono fun _ _ ⟨h1, h2⟩ => ⟨h1, h2 ▸ Below.refl _ _⟩
theorem len_b {W : World} {B : Nat} {k : PK} (h : PS B W k) : Calls Try.prog 29 #[.pointer (some ⟨k.b, 0, none⟩)] W fun e w' => e = .returned (.int .i64 (k.out.length : Int)) ∧ Below W.heap.size W w' :=
  (len_any h).mono fun _ _ ⟨h1, h2⟩ => ⟨h1, h2 ▸ Below.refl _ _⟩
theorem rLen_k {W : World} {b n L : Nat} {q : QK} (h : RS W b n q) (hL : q.out.length = L) : Calls Try.prog 39 #[.pointer (some ⟨b, 0, none⟩)] W fun e w' => e = .returned (.int .i64 (L : Int)) ∧ Below W.heap.size W w' := by
  subst hL
  exact rLen_b h
theorem rsame_k {W : World} {q1 q2 : QK} {k : PK} {L : Nat} (h1 : QV W q1) (h2 : QV W q2) (he : q1.sk = q2.sk) (hE : q2.reg = k.reg ∧ q2.out = k.out ∧ q2.vec = k.vec ∧ q2.done = k.done ∧ q2.ts.map TP.t = k.xs.map TP.t) (hL : q2.ts.length = L) :
    Calls Try.prog 25 #[.agg #[.int .i64 q1.reg, .slice q1.op q1.out.length q1.oc, .slice q1.vp q1.vec.length q1.vc, .slice q1.dp q1.done.length q1.dc, .slice q1.pp q1.ts.length q1.pc], .agg #[.int .i64 k.reg, .slice q2.op k.out.length q2.oc, .slice q2.vp k.vec.length q2.vc, .slice q2.dp k.done.length q2.dc, .slice q2.pp L q2.pc]] W fun e w' => e = .returned (.bool true) ∧ Below W.heap.size W w' := by
  have h9 := rsame_yes h1 h2 he
  unfold QK.row at h9
  rw [hE.1, hE.2.1, hE.2.2.1, hE.2.2.2.1, hL] at h9
  exact h9
theorem nm_eq {xs ys : List TP} (h : xs.map TP.t = ys.map TP.t) : xs.map TP.nm = ys.map TP.nm := by
  have h9 := congrArg (List.map (fun t : TX => (t.ep, t.id))) h
  rw [List.map_map, List.map_map] at h9
  exact h9
set_option maxRecDepth 100000 in
set_option maxHeartbeats 16000000 in
theorem same_any {W : World} {B b n : Nat} {k : PK} {q : QK} {y : OP} (h : TwS B W k b n q) (hs : q.sk = k.sk) (hdn : k.done.length < 17592186044416) :
    Calls Try.prog 12 #[.pointer (some ⟨k.b, 0, none⟩), .pointer (some ⟨b, 0, none⟩), .agg #[.int .i64 y.d, .int .i64 y.x.t.ep, .int .i64 y.x.t.id, .int .i64 y.x.t.beg, .slice y.x.rp y.x.t.rs.length y.x.rc, .slice y.x.vp y.x.t.vs.length y.x.vc]] W fun e w' => e = .returned (.bool true) ∧ Below W.heap.size W w' := by
  have HT := hide h
  have HSE := hide hs
  have HDN := hide hdn
  have HDN2 : Hid (k.done.length < 4611686018427387904) := hide (by omega)
  have HE : Hid (q.reg = k.reg ∧ q.out = k.out ∧ q.vec = k.vec ∧ q.done = k.done ∧ q.ts.map TP.t = k.xs.map TP.t) := hide ⟨congrArg SK.reg hs, congrArg SK.out hs, congrArg SK.vec hs, congrArg SK.done hs, congrArg SK.pre hs⟩
  have HQ8 : Hid (q.ts.length ≤ 8 ∧ q.ts.length = k.xs.length) := hide (by
    have h9 : q.ts.length = k.xs.length := by simpa using congrArg List.length HE.out.2.2.2.2
    have h8 := h.ps.ok.room
    have h7 : k.xs.length ≤ 8 := by simpa [PK.sk] using h8
    exact ⟨by omega, h9⟩)
  clear h hs hdn
  obtain ⟨w0, hw0⟩ : ∃ w0, w0 = W.alloc (.cells #[.int .i64 y.d, .int .i64 y.x.t.ep, .int .i64 y.x.t.id, .int .i64 y.x.t.beg, .slice y.x.rp y.x.t.rs.length y.x.rc, .slice y.x.vp y.x.t.vs.length y.x.vc] 36 (0, 0)) := ⟨_, rfl⟩
  have HO : Hid (w0.heap[W.heap.size]? = some (.cells #[.int .i64 y.d, .int .i64 y.x.t.ep, .int .i64 y.x.t.id, .int .i64 y.x.t.beg, .slice y.x.rp y.x.t.rs.length y.x.rc, .slice y.x.vp y.x.t.vs.length y.x.vc] 36 (0, 0))) := hide (by rw [hw0]; exact heap_alloc_new W _)
  have HBO : Hid (Below W.heap.size W w0) := hide (by rw [hw0]; exact alloc_below _ _)
  obtain ⟨oB, hoB⟩ : ∃ oB, W.heap.size = oB := ⟨_, rfl⟩
  rw [hoB] at HO HBO
  have HZoB := hide hoB
  have HB0 : Hid (Below W.heap.size W w0) := hide (by rw [HZoB.out]; exact HBO.out)
  have HT0 := hide (HT.out.later HB0.out)
  have HO0 := HO
  go_enter Try.func12, Try.ntmps12
  go_upto_region 1 with fail
  rw [← hw0]
  try rw [hoB]
  clear hw0 hoB
  obtain ⟨LR, hLR⟩ : ∃ LR, (readL k.sk y.x.t.beg y.x.t.rs.length).length = LR := ⟨_, rfl⟩
  obtain ⟨RE, hRE⟩ : ∃ RE, readE k.sk y.x.t.beg = RE := ⟨_, rfl⟩
  have HLR := hide hLR
  have HRE := hide hRE
  have d9 : (RE == RE) = true := by simp
  clear hLR hRE
  go_wp2_with fail
  refine (alls_any HT0.out.ps).mono ?_
  rintro _ w1 ⟨p1, c1, rfl, o1, b0⟩
  have HT1 := hide (HT0.out.later b0)
  have HO1 := hide (below_box b0 HO0.out)
  have HB1 : Hid (Below W.heap.size W w1) := hide (HB0.out.trans (b0.mono HB0.out.size))
  have HL1 : Hid (RRow w1 p1 c1 k.out) := hide (RRow.of_own rfl o1)
  clear o1
  clear b0
  have u0 := cellB HO1.out (i := 0) rfl
  have u1 := cellB HO1.out (i := 1) rfl
  have u2 := cellB HO1.out (i := 2) rfl
  have u3 := cellB HO1.out (i := 3) rfl
  have u4 := cellB HO1.out (i := 4) rfl
  have u5 := cellB HO1.out (i := 5) rfl
  go_wp2_with fail
  refine (read_all (f := y.x.t.beg) (m := y.x.t.rs.length) (L := LR) (r := RE) HT1.out.ps HLR.out HRE.out).mono ?_
  rintro _ w2 ⟨p2, c2, rfl, o2, b0⟩
  have HT2 := hide (HT1.out.later b0)
  have HO2 := hide (below_box b0 HO1.out)
  have HB2 : Hid (Below W.heap.size W w2) := hide (HB1.out.trans (b0.mono HB1.out.size))
  have HL2 := hide o2
  have HBA2 : Hid (Below w1.heap.size w1 w2) := hide b0
  clear o2
  clear b0
  try clear u0 u1 u2 u3 u4 u5
  have u0 := cellB HO2.out (i := 0) rfl
  have u1 := cellB HO2.out (i := 1) rfl
  have u2 := cellB HO2.out (i := 2) rfl
  have u3 := cellB HO2.out (i := 3) rfl
  have u4 := cellB HO2.out (i := 4) rfl
  have u5 := cellB HO2.out (i := 5) rfl
  go_wp2_with fail
  refine (rread_all (f := y.x.t.beg) (m := y.x.t.rs.length) (L := LR) (r := RE) HT2.out.rs HSE.out HLR.out HRE.out).mono ?_
  rintro _ _ ⟨p3, c3, rfl, o3, rfl⟩
  rename World => w2
  have HL3 := hide o3
  clear o3
  try clear u0 u1 u2 u3 u4 u5
  have HLA : Hid (RRow w2 p1 c1 k.out) := hide (HL1.out.later HBA2.out)
  have m1 := HT2.out.rs.c1
  have m2 := HT2.out.rs.c2
  have m3 := HT2.out.rs.c3
  have m4 := HT2.out.rs.c4
  have m5 := HT2.out.rs.c5
  rw [HE.out.1] at m1
  rw [HE.out.2.1] at m2
  rw [HE.out.2.2.1] at m3
  rw [HE.out.2.2.2.1] at m4
  rw [HQ8.out.2] at m5
  have d1 : (k.reg == k.reg) = true := by simp
  have d4 : (doneC k.sk y.x.t.ep y.x.t.id == doneC k.sk y.x.t.ep y.x.t.id) = true := by simp
  have u0 := cellB HO2.out (i := 0) rfl
  have u1 := cellB HO2.out (i := 1) rfl
  have u2 := cellB HO2.out (i := 2) rfl
  have u3 := cellB HO2.out (i := 3) rfl
  have u4 := cellB HO2.out (i := 4) rfl
  have u5 := cellB HO2.out (i := 5) rfl
  go_upto_region 4 with fail
  have HX0 : Hid (Below w2.heap.size w2 w2.drew) := hide (Below.refl _ w2).drew
  refine wp_region_held_drew (S := fun w9 => Below w2.heap.size w2 w9) (by kernel_rfl) HX0.out (fun hHeld => ?_)
  refine tb 0 ?_ rfl (by kernel_rfl) (fun _ _ _ h => h) (by assumption) ?_ ?_
  rotate_left
  · intro w hSw
    go_simp
    all_goals with_reducible rfl
  simp only [Act.put]
  refine tb 1 ?_ rfl (by kernel_rfl) (fun _ _ _ h => h) (by assumption) ?_ ?_
  rotate_left
  · intro w hSw
    go_simp
    all_goals with_reducible rfl
  simp only [Act.put]
  refine tb 2 ?_ rfl (by kernel_rfl) (fun _ _ _ h => h) (by assumption) ?_ ?_
  rotate_left
  · intro w hSw
    go_simp
    all_goals with_reducible rfl
  simp only [Act.put]
  refine tb 3 ?_ rfl (by kernel_rfl) (fun _ _ _ h => h) (by assumption) ?_ ?_
  rotate_left
  · intro w hSw
    go_simp
    all_goals with_reducible rfl
  simp only [Act.put]
  refine tb 4 ?_ rfl (by kernel_rfl) (fun _ _ _ h => h) (by assumption) ?_ ?_
  rotate_left
  · intro w hSw
    go_simp
    all_goals with_reducible rfl
  simp only [Act.put]
  refine tb 5 ?_ rfl (by kernel_rfl) (fun _ _ _ h => h) (by assumption) ?_ ?_
  rotate_left
  · intro w hSw
    go_simp
    all_goals with_reducible rfl
  simp only [Act.put]
  refine tb 6 ?_ rfl (by kernel_rfl) (fun _ _ _ h => h) (by assumption) ?_ ?_
  rotate_left
  · intro w hSw
    go_simp
    all_goals with_reducible rfl
  simp only [Act.put]
  refine tb 7 ?_ rfl (by kernel_rfl) (fun _ _ _ h => h) (by assumption) ?_ ?_
  rotate_left
  · intro w hSw
    have l0 := cell_later hSw u0
    have l1 := cell_later hSw u1
    have l2 := cell_later hSw u2
    have l3 := cell_later hSw u3
    have l4 := cell_later hSw u4
    have l5 := cell_later hSw u5
    have r1 := cell_later hSw m1
    have r2 := cell_later hSw m2
    have r3 := cell_later hSw m3
    have r4 := cell_later hSw m4
    have r5 := cell_later hSw m5
    go_simp
    all_goals with_reducible rfl
  simp only [Act.put]
  refine rr 8 (o := _) rfl (by kernel_rfl) (fun K hK => ?_)
  have hSw : Below w2.heap.size w2 _ := HX0.out
  have l0 := cell_later hSw u0
  have l1 := cell_later hSw u1
  have l2 := cell_later hSw u2
  have l3 := cell_later hSw u3
  have l4 := cell_later hSw u4
  have l5 := cell_later hSw u5
  have r1 := cell_later hSw m1
  have r2 := cell_later hSw m2
  have r3 := cell_later hSw m3
  have r4 := cell_later hSw m4
  have r5 := cell_later hSw m5
  go_simp
  refine (eqrec_all (rb := true) (HLA.out.later HX0.out) (by have h9 := (HT2.out.later HX0.out).rs.vis.out; rw [HE.out.2.1] at h9; exact h9) rfl rfl (decide_eq_true rfl)).mono ?_
  rintro _ x1 ⟨rfl, b0⟩
  have HX1 : Hid (Below w2.heap.size w2 x1) := hide (HX0.out.trans (b0.mono HX0.out.size))
  clear b0 hSw l0 l1 l2 l3 l4 l5 r1 r2 r3 r4 r5
  go_wp2_with fail
  refine hK.out _ _ HX1.out (fun hHeld => ?_)
  clear hK
  refine tb 9 ?_ rfl (by kernel_rfl) (fun _ _ _ h => h) (by assumption) ?_ ?_
  rotate_left
  · intro w hSw
    go_simp
    all_goals with_reducible rfl
  simp only [Act.put]
  refine tb 10 ?_ rfl (by kernel_rfl) (fun _ _ _ h => h) (by assumption) ?_ ?_
  rotate_left
  · intro w hSw
    go_simp
    all_goals with_reducible rfl
  simp only [Act.put]
  refine tb 11 ?_ rfl (by kernel_rfl) (fun _ _ _ h => h) (by assumption) ?_ ?_
  rotate_left
  · intro w hSw
    go_simp
    all_goals with_reducible rfl
  simp only [Act.put]
  refine tb 13 ?_ rfl (by kernel_rfl) (fun _ _ _ h => h) (by assumption) ?_ ?_
  rotate_left
  · intro w hSw
    go_simp
    all_goals with_reducible rfl
  simp only [Act.put]
  refine tb 14 ?_ rfl (by kernel_rfl) (fun _ _ _ h => h) (by assumption) ?_ ?_
  rotate_left
  · intro w hSw
    go_simp
    all_goals with_reducible rfl
  simp only [Act.put]
  refine tb 15 ?_ rfl (by kernel_rfl) (fun _ _ _ h => h) (by assumption) ?_ ?_
  rotate_left
  · intro w hSw
    go_simp
    all_goals with_reducible rfl
  simp only [Act.put]
  refine tb 16 ?_ rfl (by kernel_rfl) (fun _ _ _ h => h) (by assumption) ?_ ?_
  rotate_left
  · intro w hSw
    go_simp
    all_goals with_reducible rfl
  simp only [Act.put]
  refine tb 17 ?_ rfl (by kernel_rfl) (fun _ _ _ h => h) (by assumption) ?_ ?_
  rotate_left
  · intro w hSw
    have l0 := cell_later hSw u0
    have l1 := cell_later hSw u1
    have l2 := cell_later hSw u2
    have l3 := cell_later hSw u3
    have l4 := cell_later hSw u4
    have l5 := cell_later hSw u5
    have r1 := cell_later hSw m1
    have r2 := cell_later hSw m2
    have r3 := cell_later hSw m3
    have r4 := cell_later hSw m4
    have r5 := cell_later hSw m5
    go_simp
    all_goals with_reducible rfl
  simp only [Act.put]
  refine rr 12 (o := _) rfl (by kernel_rfl) (fun K hK => ?_)
  have hSw : Below w2.heap.size w2 _ := HX1.out
  have l0 := cell_later hSw u0
  have l1 := cell_later hSw u1
  have l2 := cell_later hSw u2
  have l3 := cell_later hSw u3
  have l4 := cell_later hSw u4
  have l5 := cell_later hSw u5
  have r1 := cell_later hSw m1
  have r2 := cell_later hSw m2
  have r3 := cell_later hSw m3
  have r4 := cell_later hSw m4
  have r5 := cell_later hSw m5
  go_simp
  refine (register_b (HT2.out.later HX1.out).ps).mono ?_
  rintro _ x2 ⟨rfl, b0⟩
  have HX2 : Hid (Below w2.heap.size w2 x2) := hide (HX1.out.trans (b0.mono HX1.out.size))
  clear b0 hSw l0 l1 l2 l3 l4 l5 r1 r2 r3 r4 r5
  go_wp2_with fail
  refine hK.out _ _ HX2.out (fun hHeld => ?_)
  clear hK
  refine tb 18 ?_ rfl (by kernel_rfl) (fun _ _ _ h => h) (by assumption) ?_ ?_
  rotate_left
  · intro w hSw
    go_simp
    all_goals with_reducible rfl
  simp only [Act.put]
  refine tb 19 ?_ rfl (by kernel_rfl) (fun _ _ _ h => h) (by assumption) ?_ ?_
  rotate_left
  · intro w hSw
    go_simp
    all_goals with_reducible rfl
  simp only [Act.put]
  refine tb 20 ?_ rfl (by kernel_rfl) (fun _ _ _ h => h) (by assumption) ?_ ?_
  rotate_left
  · intro w hSw
    go_simp
    all_goals with_reducible rfl
  simp only [Act.put]
  refine tb 21 ?_ rfl (by kernel_rfl) (fun _ _ _ h => h) (by assumption) ?_ ?_
  rotate_left
  · intro w hSw
    go_simp
    all_goals with_reducible rfl
  simp only [Act.put]
  refine tb 23 ?_ rfl (by kernel_rfl) (fun _ _ _ h => h) (by assumption) ?_ ?_
  rotate_left
  · intro w hSw
    go_simp
    all_goals with_reducible rfl
  simp only [Act.put]
  refine rr 22 (o := _) rfl (by kernel_rfl) (fun K hK => ?_)
  have hSw : Below w2.heap.size w2 _ := HX2.out
  have l0 := cell_later hSw u0
  have l1 := cell_later hSw u1
  have l2 := cell_later hSw u2
  have l3 := cell_later hSw u3
  have l4 := cell_later hSw u4
  have l5 := cell_later hSw u5
  have r1 := cell_later hSw m1
  have r2 := cell_later hSw m2
  have r3 := cell_later hSw m3
  have r4 := cell_later hSw m4
  have r5 := cell_later hSw m5
  go_simp
  refine (len_b (HT2.out.later HX2.out).ps).mono ?_
  rintro _ x3 ⟨rfl, b0⟩
  have HX3 : Hid (Below w2.heap.size w2 x3) := hide (HX2.out.trans (b0.mono HX2.out.size))
  clear b0 hSw l0 l1 l2 l3 l4 l5 r1 r2 r3 r4 r5
  go_wp2_with fail
  refine hK.out _ _ HX3.out (fun hHeld => ?_)
  clear hK
  refine rr 24 (o := _) rfl (by kernel_rfl) (fun K hK => ?_)
  have hSw : Below w2.heap.size w2 _ := HX3.out
  have l0 := cell_later hSw u0
  have l1 := cell_later hSw u1
  have l2 := cell_later hSw u2
  have l3 := cell_later hSw u3
  have l4 := cell_later hSw u4
  have l5 := cell_later hSw u5
  have r1 := cell_later hSw m1
  have r2 := cell_later hSw m2
  have r3 := cell_later hSw m3
  have r4 := cell_later hSw m4
  have r5 := cell_later hSw m5
  go_simp
  refine (rLen_k (HT2.out.later HX3.out).rs (congrArg List.length HE.out.2.1)).mono ?_
  rintro _ x4 ⟨rfl, b0⟩
  have HX4 : Hid (Below w2.heap.size w2 x4) := hide (HX3.out.trans (b0.mono HX3.out.size))
  clear b0 hSw l0 l1 l2 l3 l4 l5 r1 r2 r3 r4 r5
  go_wp2_with fail
  refine hK.out _ _ HX4.out (fun hHeld => ?_)
  clear hK
  refine tb 25 ?_ rfl (by kernel_rfl) (fun _ _ _ h => h) (by assumption) ?_ ?_
  rotate_left
  · intro w hSw
    go_simp
    all_goals with_reducible rfl
  simp only [Act.put]
  refine tb 26 ?_ rfl (by kernel_rfl) (fun _ _ _ h => h) (by assumption) ?_ ?_
  rotate_left
  · intro w hSw
    go_simp
    all_goals with_reducible rfl
  simp only [Act.put]
  refine tb 27 ?_ rfl (by kernel_rfl) (fun _ _ _ h => h) (by assumption) ?_ ?_
  rotate_left
  · intro w hSw
    go_simp
    all_goals with_reducible rfl
  simp only [Act.put]
  refine tb 28 ?_ rfl (by kernel_rfl) (fun _ _ _ h => h) (by assumption) ?_ ?_
  rotate_left
  · intro w hSw
    go_simp
    all_goals with_reducible rfl
  simp only [Act.put]
  refine tb 30 ?_ rfl (by kernel_rfl) (fun _ _ _ h => h) (by assumption) ?_ ?_
  rotate_left
  · intro w hSw
    go_simp
    all_goals with_reducible rfl
  simp only [Act.put]
  refine tb 31 ?_ rfl (by kernel_rfl) (fun _ _ _ h => h) (by assumption) ?_ ?_
  rotate_left
  · intro w hSw
    go_simp
    all_goals with_reducible rfl
  simp only [Act.put]
  refine tb 32 ?_ rfl (by kernel_rfl) (fun _ _ _ h => h) (by assumption) ?_ ?_
  rotate_left
  · intro w hSw
    go_simp
    all_goals with_reducible rfl
  simp only [Act.put]
  refine tb 33 ?_ rfl (by kernel_rfl) (fun _ _ _ h => h) (by assumption) ?_ ?_
  rotate_left
  · intro w hSw
    go_simp
    all_goals with_reducible rfl
  simp only [Act.put]
  refine tb 34 ?_ rfl (by kernel_rfl) (fun _ _ _ h => h) (by assumption) ?_ ?_
  rotate_left
  · intro w hSw
    have l0 := cell_later hSw u0
    have l1 := cell_later hSw u1
    have l2 := cell_later hSw u2
    have l3 := cell_later hSw u3
    have l4 := cell_later hSw u4
    have l5 := cell_later hSw u5
    have r1 := cell_later hSw m1
    have r2 := cell_later hSw m2
    have r3 := cell_later hSw m3
    have r4 := cell_later hSw m4
    have r5 := cell_later hSw m5
    go_simp
    all_goals with_reducible rfl
  simp only [Act.put]
  refine rr 29 (o := _) rfl (by kernel_rfl) (fun K hK => ?_)
  have hSw : Below w2.heap.size w2 _ := HX4.out
  have l0 := cell_later hSw u0
  have l1 := cell_later hSw u1
  have l2 := cell_later hSw u2
  have l3 := cell_later hSw u3
  have l4 := cell_later hSw u4
  have l5 := cell_later hSw u5
  have r1 := cell_later hSw m1
  have r2 := cell_later hSw m2
  have r3 := cell_later hSw m3
  have r4 := cell_later hSw m4
  have r5 := cell_later hSw m5
  go_simp
  refine (vector_call (HT2.out.later HX4.out).ps).mono ?_
  rintro _ x5 ⟨p4, c4, rfl, o4, b0⟩
  have HX5 : Hid (Below w2.heap.size w2 x5) := hide (HX4.out.trans (b0.mono HX4.out.size))
  have HL4 : Hid (NRow x5 p4 c4 k.vec) := hide (NRow.of_own rfl o4)
  clear o4
  clear b0 hSw l0 l1 l2 l3 l4 l5 r1 r2 r3 r4 r5
  go_wp2_with fail
  refine hK.out _ _ HX5.out (fun hHeld => ?_)
  clear hK
  refine rr 35 (o := _) rfl (by kernel_rfl) (fun K hK => ?_)
  have hSw : Below w2.heap.size w2 _ := HX5.out
  have l0 := cell_later hSw u0
  have l1 := cell_later hSw u1
  have l2 := cell_later hSw u2
  have l3 := cell_later hSw u3
  have l4 := cell_later hSw u4
  have l5 := cell_later hSw u5
  have r1 := cell_later hSw m1
  have r2 := cell_later hSw m2
  have r3 := cell_later hSw m3
  have r4 := cell_later hSw m4
  have r5 := cell_later hSw m5
  go_simp
  refine (eqnum_all (rb := true) HL4.out (by have h9 := (HT2.out.later HX5.out).rs.vis.vec; rw [HE.out.2.2.1] at h9; exact h9) rfl rfl (decide_eq_true rfl)).mono ?_
  rintro _ x6 ⟨rfl, b0⟩
  have HX6 : Hid (Below w2.heap.size w2 x6) := hide (HX5.out.trans (b0.mono HX5.out.size))
  clear b0 hSw l0 l1 l2 l3 l4 l5 r1 r2 r3 r4 r5
  go_wp2_with fail
  refine hK.out _ _ HX6.out (fun hHeld => ?_)
  clear hK
  refine tb 36 ?_ rfl (by kernel_rfl) (fun _ _ _ h => h) (by assumption) ?_ ?_
  rotate_left
  · intro w hSw
    go_simp
    all_goals with_reducible rfl
  simp only [Act.put]
  refine tb 37 ?_ rfl (by kernel_rfl) (fun _ _ _ h => h) (by assumption) ?_ ?_
  rotate_left
  · intro w hSw
    go_simp
    all_goals with_reducible rfl
  simp only [Act.put]
  refine tb 38 ?_ rfl (by kernel_rfl) (fun _ _ _ h => h) (by assumption) ?_ ?_
  rotate_left
  · intro w hSw
    go_simp
    all_goals with_reducible rfl
  simp only [Act.put]
  refine tb 40 ?_ rfl (by kernel_rfl) (fun _ _ _ h => h) (by assumption) ?_ ?_
  rotate_left
  · intro w hSw
    go_simp
    all_goals with_reducible rfl
  simp only [Act.put]
  refine rr 39 (o := _) rfl (by kernel_rfl) (fun K hK => ?_)
  have hSw : Below w2.heap.size w2 _ := HX6.out
  have l0 := cell_later hSw u0
  have l1 := cell_later hSw u1
  have l2 := cell_later hSw u2
  have l3 := cell_later hSw u3
  have l4 := cell_later hSw u4
  have l5 := cell_later hSw u5
  have r1 := cell_later hSw m1
  have r2 := cell_later hSw m2
  have r3 := cell_later hSw m3
  have r4 := cell_later hSw m4
  have r5 := cell_later hSw m5
  go_simp
  refine (open_any (HT2.out.later HX6.out).ps rfl).mono ?_
  rintro _ x7 ⟨p5, c5, rfl, o5, b0⟩
  have HX7 : Hid (Below w2.heap.size w2 x7) := hide (HX6.out.trans (b0.mono HX6.out.size))
  have HL5 : Hid (RRow x7 p5 c5 ((k.xs.map TP.nm).map nmR)) := hide (nm_row o5 (by rw [List.length_map]))
  clear o5
  clear b0 hSw l0 l1 l2 l3 l4 l5 r1 r2 r3 r4 r5
  go_wp2_with fail
  refine hK.out _ _ HX7.out (fun hHeld => ?_)
  clear hK
  refine rr 41 (o := _) rfl (by kernel_rfl) (fun K hK => ?_)
  have hSw : Below w2.heap.size w2 _ := HX7.out
  have l0 := cell_later hSw u0
  have l1 := cell_later hSw u1
  have l2 := cell_later hSw u2
  have l3 := cell_later hSw u3
  have l4 := cell_later hSw u4
  have l5 := cell_later hSw u5
  have r1 := cell_later hSw m1
  have r2 := cell_later hSw m2
  have r3 := cell_later hSw m3
  have r4 := cell_later hSw m4
  have r5 := cell_later hSw m5
  go_simp
  refine (ropen_any (L := k.xs.length) (HT2.out.later HX7.out).rs HQ8.out.1 HQ8.out.2).mono ?_
  rintro _ x8 ⟨p6, c6, rfl, o6, b0⟩
  have HX8 : Hid (Below w2.heap.size w2 x8) := hide (HX7.out.trans (b0.mono HX7.out.size))
  have HL6 : Hid (RRow x8 p6 c6 ((k.xs.map TP.nm).map nmR)) := hide (nm_row (by rw [nm_eq HE.out.2.2.2.2] at o6; exact o6) (by rw [List.length_map]))
  have HL5b := hide (HL5.out.later b0)
  clear o6
  clear b0 hSw l0 l1 l2 l3 l4 l5 r1 r2 r3 r4 r5
  go_wp2_with fail
  refine hK.out _ _ HX8.out (fun hHeld => ?_)
  clear hK
  refine rr 42 (o := _) rfl (by kernel_rfl) (fun K hK => ?_)
  have hSw : Below w2.heap.size w2 _ := HX8.out
  have l0 := cell_later hSw u0
  have l1 := cell_later hSw u1
  have l2 := cell_later hSw u2
  have l3 := cell_later hSw u3
  have l4 := cell_later hSw u4
  have l5 := cell_later hSw u5
  have r1 := cell_later hSw m1
  have r2 := cell_later hSw m2
  have r3 := cell_later hSw m3
  have r4 := cell_later hSw m4
  have r5 := cell_later hSw m5
  go_simp
  refine (eqkey_all (rb := true) HL5b.out HL6.out (by rw [List.length_map, List.length_map]) (by rw [List.length_map, List.length_map]) (decide_eq_true rfl)).mono ?_
  rintro _ x9 ⟨rfl, b0⟩
  have HX9 : Hid (Below w2.heap.size w2 x9) := hide (HX8.out.trans (b0.mono HX8.out.size))
  clear b0 hSw l0 l1 l2 l3 l4 l5 r1 r2 r3 r4 r5
  go_wp2_with fail
  refine hK.out _ _ HX9.out (fun hHeld => ?_)
  clear hK
  refine tb 43 ?_ rfl (by kernel_rfl) (fun _ _ _ h => h) (by assumption) ?_ ?_
  rotate_left
  · intro w hSw
    go_simp
    all_goals with_reducible rfl
  simp only [Act.put]
  refine tb 44 ?_ rfl (by kernel_rfl) (fun _ _ _ h => h) (by assumption) ?_ ?_
  rotate_left
  · intro w hSw
    go_simp
    all_goals with_reducible rfl
  simp only [Act.put]
  refine tb 45 ?_ rfl (by kernel_rfl) (fun _ _ _ h => h) (by assumption) ?_ ?_
  rotate_left
  · intro w hSw
    go_simp
    all_goals with_reducible rfl
  simp only [Act.put]
  refine tb 46 ?_ rfl (by kernel_rfl) (fun _ _ _ h => h) (by assumption) ?_ ?_
  rotate_left
  · intro w hSw
    have l0 := cell_later hSw u0
    have l1 := cell_later hSw u1
    have l2 := cell_later hSw u2
    have l3 := cell_later hSw u3
    have l4 := cell_later hSw u4
    have l5 := cell_later hSw u5
    have r1 := cell_later hSw m1
    have r2 := cell_later hSw m2
    have r3 := cell_later hSw m3
    have r4 := cell_later hSw m4
    have r5 := cell_later hSw m5
    go_simp
    all_goals with_reducible rfl
  simp only [Act.put]
  refine tb 49 ?_ rfl (by kernel_rfl) (fun _ _ _ h => h) (by assumption) ?_ ?_
  rotate_left
  · intro w hSw
    go_simp
    all_goals with_reducible rfl
  simp only [Act.put]
  refine tb 50 ?_ rfl (by kernel_rfl) (fun _ _ _ h => h) (by assumption) ?_ ?_
  rotate_left
  · intro w hSw
    have l0 := cell_later hSw u0
    have l1 := cell_later hSw u1
    have l2 := cell_later hSw u2
    have l3 := cell_later hSw u3
    have l4 := cell_later hSw u4
    have l5 := cell_later hSw u5
    have r1 := cell_later hSw m1
    have r2 := cell_later hSw m2
    have r3 := cell_later hSw m3
    have r4 := cell_later hSw m4
    have r5 := cell_later hSw m5
    go_simp
    all_goals with_reducible rfl
  simp only [Act.put]
  refine rr 47 (o := _) rfl (by kernel_rfl) (fun K hK => ?_)
  have hSw : Below w2.heap.size w2 _ := HX9.out
  have l0 := cell_later hSw u0
  have l1 := cell_later hSw u1
  have l2 := cell_later hSw u2
  have l3 := cell_later hSw u3
  have l4 := cell_later hSw u4
  have l5 := cell_later hSw u5
  have r1 := cell_later hSw m1
  have r2 := cell_later hSw m2
  have r3 := cell_later hSw m3
  have r4 := cell_later hSw m4
  have r5 := cell_later hSw m5
  go_simp
  refine (key_any).mono ?_
  rintro _ x10 ⟨rfl, b0⟩
  have HX10 : Hid (Below w2.heap.size w2 x10) := hide (HX9.out.trans (b0.mono HX9.out.size))
  clear b0 hSw l0 l1 l2 l3 l4 l5 r1 r2 r3 r4 r5
  go_wp2_with fail
  refine hK.out _ _ HX10.out (fun hHeld => ?_)
  clear hK
  refine rr 48 (o := _) rfl (by kernel_rfl) (fun K hK => ?_)
  have hSw : Below w2.heap.size w2 _ := HX10.out
  have l0 := cell_later hSw u0
  have l1 := cell_later hSw u1
  have l2 := cell_later hSw u2
  have l3 := cell_later hSw u3
  have l4 := cell_later hSw u4
  have l5 := cell_later hSw u5
  have r1 := cell_later hSw m1
  have r2 := cell_later hSw m2
  have r3 := cell_later hSw m3
  have r4 := cell_later hSw m4
  have r5 := cell_later hSw m5
  go_simp
  refine (done_any (rb := doneC k.sk y.x.t.ep y.x.t.id) (HT2.out.later HX10.out).ps HDN2.out rfl).mono ?_
  rintro _ x11 ⟨rfl, b0⟩
  have HX11 : Hid (Below w2.heap.size w2 x11) := hide (HX10.out.trans (b0.mono HX10.out.size))
  clear b0 hSw l0 l1 l2 l3 l4 l5 r1 r2 r3 r4 r5
  go_wp2_with fail
  refine hK.out _ _ HX11.out (fun hHeld => ?_)
  clear hK
  refine rr 51 (o := _) rfl (by kernel_rfl) (fun K hK => ?_)
  have hSw : Below w2.heap.size w2 _ := HX11.out
  have l0 := cell_later hSw u0
  have l1 := cell_later hSw u1
  have l2 := cell_later hSw u2
  have l3 := cell_later hSw u3
  have l4 := cell_later hSw u4
  have l5 := cell_later hSw u5
  have r1 := cell_later hSw m1
  have r2 := cell_later hSw m2
  have r3 := cell_later hSw m3
  have r4 := cell_later hSw m4
  have r5 := cell_later hSw m5
  go_simp
  refine (key_any).mono ?_
  rintro _ x12 ⟨rfl, b0⟩
  have HX12 : Hid (Below w2.heap.size w2 x12) := hide (HX11.out.trans (b0.mono HX11.out.size))
  clear b0 hSw l0 l1 l2 l3 l4 l5 r1 r2 r3 r4 r5
  go_wp2_with fail
  refine hK.out _ _ HX12.out (fun hHeld => ?_)
  clear hK
  refine rr 52 (o := _) rfl (by kernel_rfl) (fun K hK => ?_)
  have hSw : Below w2.heap.size w2 _ := HX12.out
  have l0 := cell_later hSw u0
  have l1 := cell_later hSw u1
  have l2 := cell_later hSw u2
  have l3 := cell_later hSw u3
  have l4 := cell_later hSw u4
  have l5 := cell_later hSw u5
  have r1 := cell_later hSw m1
  have r2 := cell_later hSw m2
  have r3 := cell_later hSw m3
  have r4 := cell_later hSw m4
  have r5 := cell_later hSw m5
  go_simp
  refine (rDone_any (rb := doneC k.sk y.x.t.ep y.x.t.id) (HT2.out.later HX12.out).rs (by rw [HSE.out]; exact (HT2.out.later HX12.out).ps.ok) (by rw [HSE.out])).mono ?_
  rintro _ x13 ⟨rfl, b0⟩
  have HX13 : Hid (Below w2.heap.size w2 x13) := hide (HX12.out.trans (b0.mono HX12.out.size))
  clear b0 hSw l0 l1 l2 l3 l4 l5 r1 r2 r3 r4 r5
  go_wp2_with fail
  refine hK.out _ _ HX13.out (fun hHeld => ?_)
  clear hK
  refine tb 53 ?_ rfl (by kernel_rfl) (fun _ _ _ h => h) (by assumption) ?_ ?_
  rotate_left
  · intro w hSw
    go_simp
    all_goals with_reducible rfl
  simp only [Act.put]
  refine tb 54 ?_ rfl (by kernel_rfl) (fun _ _ _ h => h) (by assumption) ?_ ?_
  rotate_left
  · intro w hSw
    go_simp
    all_goals with_reducible rfl
  simp only [Act.put]
  refine tb 55 ?_ rfl (by kernel_rfl) (fun _ _ _ h => h) (by assumption) ?_ ?_
  rotate_left
  · intro w hSw
    go_simp
    all_goals with_reducible rfl
  simp only [Act.put]
  refine tb 56 ?_ rfl (by kernel_rfl) (fun _ _ _ h => h) (by assumption) ?_ ?_
  rotate_left
  · intro w hSw
    go_simp
    all_goals with_reducible rfl
  simp only [Act.put]
  refine tb 58 ?_ rfl (by kernel_rfl) (fun _ _ _ h => h) (by assumption) ?_ ?_
  rotate_left
  · intro w hSw
    go_simp
    all_goals with_reducible rfl
  simp only [Act.put]
  refine tb 59 ?_ rfl (by kernel_rfl) (fun _ _ _ h => h) (by assumption) ?_ ?_
  rotate_left
  · intro w hSw
    go_simp
    all_goals with_reducible rfl
  simp only [Act.put]
  refine tb 60 ?_ rfl (by kernel_rfl) (fun _ _ _ h => h) (by assumption) ?_ ?_
  rotate_left
  · intro w hSw
    go_simp
    all_goals with_reducible rfl
  simp only [Act.put]
  refine tb 61 ?_ rfl (by kernel_rfl) (fun _ _ _ h => h) (by assumption) ?_ ?_
  rotate_left
  · intro w hSw
    have l0 := cell_later hSw u0
    have l1 := cell_later hSw u1
    have l2 := cell_later hSw u2
    have l3 := cell_later hSw u3
    have l4 := cell_later hSw u4
    have l5 := cell_later hSw u5
    have r1 := cell_later hSw m1
    have r2 := cell_later hSw m2
    have r3 := cell_later hSw m3
    have r4 := cell_later hSw m4
    have r5 := cell_later hSw m5
    go_simp
    all_goals with_reducible rfl
  simp only [Act.put]
  refine rr 57 (o := _) rfl (by kernel_rfl) (fun K hK => ?_)
  have hSw : Below w2.heap.size w2 _ := HX13.out
  have l0 := cell_later hSw u0
  have l1 := cell_later hSw u1
  have l2 := cell_later hSw u2
  have l3 := cell_later hSw u3
  have l4 := cell_later hSw u4
  have l5 := cell_later hSw u5
  have r1 := cell_later hSw m1
  have r2 := cell_later hSw m2
  have r3 := cell_later hSw m3
  have r4 := cell_later hSw m4
  have r5 := cell_later hSw m5
  go_simp
  refine (plain_any (HT2.out.later HX13.out).ps HDN.out).mono ?_
  rintro _ x14 ⟨q7, rfl, hq7, hs7, b0⟩
  have HX14 : Hid (Below w2.heap.size w2 x14) := hide (HX13.out.trans (b0.mono HX13.out.size))
  have HQ7 := hide hq7
  have HS7 := hide hs7
  unfold QK.row
  clear hq7 hs7
  clear b0 hSw l0 l1 l2 l3 l4 l5 r1 r2 r3 r4 r5
  go_wp2_with fail
  refine hK.out _ _ HX14.out (fun hHeld => ?_)
  clear hK
  refine rr 62 (o := _) rfl (by kernel_rfl) (fun K hK => ?_)
  have hSw : Below w2.heap.size w2 _ := HX14.out
  have l0 := cell_later hSw u0
  have l1 := cell_later hSw u1
  have l2 := cell_later hSw u2
  have l3 := cell_later hSw u3
  have l4 := cell_later hSw u4
  have l5 := cell_later hSw u5
  have r1 := cell_later hSw m1
  have r2 := cell_later hSw m2
  have r3 := cell_later hSw m3
  have r4 := cell_later hSw m4
  have r5 := cell_later hSw m5
  go_simp
  refine (rsame_k (q1 := q7) (q2 := q) HQ7.out.vis (HT2.out.later HX14.out).rs.vis (HS7.out.trans HSE.out.symm) HE.out HQ8.out.2).mono ?_
  rintro _ x15 ⟨rfl, b0⟩
  have HX15 : Hid (Below w2.heap.size w2 x15) := hide (HX14.out.trans (b0.mono HX14.out.size))
  clear b0 hSw l0 l1 l2 l3 l4 l5 r1 r2 r3 r4 r5
  go_wp2_with fail
  refine hK.out _ _ HX15.out (fun hHeld => ?_)
  clear hK
  refine tb 63 ?_ rfl (by kernel_rfl) (fun _ _ _ h => h) (by assumption) ?_ ?_
  rotate_left
  · intro w hSw
    go_simp
    all_goals with_reducible rfl
  simp only [Act.put]
  refine tb 64 ?_ rfl (by kernel_rfl) (fun _ _ _ h => h) (by assumption) ?_ ?_
  rotate_left
  · intro w hSw
    go_simp
    all_goals with_reducible rfl
  simp only [Act.put]
  refine tb 65 ?_ rfl (by kernel_rfl) (fun _ _ _ h => h) (by assumption) ?_ ?_
  rotate_left
  · intro w hSw
    go_simp
    all_goals with_reducible rfl
  simp only [Act.put]
  refine tb 66 ?_ rfl (by kernel_rfl) (fun _ _ _ h => h) (by assumption) ?_ ?_
  rotate_left
  · intro w hSw
    go_simp
    all_goals with_reducible rfl
  simp only [Act.put]
  refine rr 67 (o := _) rfl (by kernel_rfl) (fun K hK => ?_)
  have hSw : Below w2.heap.size w2 _ := HX15.out
  have l0 := cell_later hSw u0
  have l1 := cell_later hSw u1
  have l2 := cell_later hSw u2
  have l3 := cell_later hSw u3
  have l4 := cell_later hSw u4
  have l5 := cell_later hSw u5
  have r1 := cell_later hSw m1
  have r2 := cell_later hSw m2
  have r3 := cell_later hSw m3
  have r4 := cell_later hSw m4
  have r5 := cell_later hSw m5
  go_simp
  refine (eqrec_all (rb := true) ((HL2.out.later HX15.out)) (HL3.out.later HX15.out) HLR.out HLR.out (decide_eq_true rfl)).mono ?_
  rintro _ x16 ⟨rfl, b0⟩
  have HX16 : Hid (Below w2.heap.size w2 x16) := hide (HX15.out.trans (b0.mono HX15.out.size))
  clear b0 hSw l0 l1 l2 l3 l4 l5 r1 r2 r3 r4 r5
  go_wp2_with fail
  refine hK.out _ _ HX16.out (fun hHeld => ?_)
  clear hK
  refine tb 68 ?_ rfl (by kernel_rfl) (fun _ _ _ h => h) (by assumption) ?_ ?_
  rotate_left
  · intro w hSw
    go_simp
    all_goals with_reducible rfl
  simp only [Act.put]
  refine tb 69 ?_ rfl (by kernel_rfl) (fun _ _ _ h => h) (by assumption) ?_ ?_
  rotate_left
  · intro w hSw
    go_simp
    all_goals with_reducible rfl
  simp only [Act.put]
  refine tb 70 ?_ rfl (by kernel_rfl) (fun _ _ _ h => h) (by assumption) ?_ ?_
  rotate_left
  · intro w hSw
    go_simp
    all_goals with_reducible rfl
  simp only [Act.put]
  refine tb 71 ?_ rfl (by kernel_rfl) (fun _ _ _ h => h) (by assumption) ?_ ?_
  rotate_left
  · intro w hSw
    go_simp
    all_goals with_reducible rfl
  simp only [Act.put]
  refine tb 72 ?_ rfl (by kernel_rfl) (fun _ _ _ h => h) (by assumption) ?_ ?_
  rotate_left
  · intro w hSw
    go_simp
    all_goals with_reducible rfl
  simp only [Act.put]
  refine tb 73 ?_ rfl (by kernel_rfl) (fun _ _ _ h => h) (by assumption) ?_ ?_
  rotate_left
  · intro w hSw
    go_simp
    all_goals with_reducible rfl
  simp only [Act.put]
  refine rr 74 (o := _) rfl (by kernel_rfl) (fun K hK => ?_)
  go_simp
  refine hK.out _ _ HX16.out (fun hHeld => ?_)
  clear hK
  refine wpAnyH_done (by kernel_rfl) ?_ _
  clear m1 m2 m3 m4 m5 u0 u1 u2 u3 u4 u5
  go_wp2
  go_ret
  exact ⟨by first | rfl | simp, HB2.out.trans (HX16.out.mono HB2.out.size)⟩
end Go.Proofs.Ytboofnkajjnmeaa
