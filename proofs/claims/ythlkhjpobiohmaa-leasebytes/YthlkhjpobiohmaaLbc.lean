/-
  Parse of the reference's leases. The condition: that the bytes lie there.
-/
import Derived.Test.YthlkhjpobiohmaaLba
namespace Go.Proofs.Ythlkhjpobiohmaa
open Go.RowKit

theorem row_ltL {k : IntKind} {w : World} {v : Value} {l : List Int} (h : Row k w v l) (b : Nat) (hp : 0 < l.length) (hb : v.ownBlock = some b) : b < w.heap.size := by
  obtain ⟨p, cap, rfl, _, _, _, h4⟩ := h
  obtain ⟨b', o, rfl, hc⟩ := h4 hp
  obtain ⟨ob, hob, _⟩ := cells_of_cell (hc 0 hp)
  simp [Value.ownBlock] at hb
  subst hb
  exact (Array.getElem?_eq_some_iff.1 hob).1
set_option maxHeartbeats 400000 in
theorem ropen_anyL {w : World} {v : Value} {l : List Int} (h : Row .u8 w v l) (hu : U8 l) :
    Calls Try.prog 44 #[v] w fun r w' => r = .returned (.pointer (some ⟨w.heap.size, 0, none⟩)) ∧ RUnp (fun k => w.heap.size ≤ k) w' w.heap.size v l 0 ∧ Below w.heap.size w w' := by
  have H := hide h
  have HT := hide (row_ltL h)
  obtain ⟨p, cap, rfl, g1, g2, g3, g4⟩ := h
  clear g3 g4
  go_enter Try.func44, Try.ntmps44
  go_wp2
  go_ret
  refine ⟨rfl, ⟨heap_alloc_new w _, H.out.below (alloc_below _ _), fun hp => ⟨fun hk => ?_, fun k hk e => ?_⟩, hu, fun h => absurd rfl h⟩, alloc_below _ _⟩
  · have := HT.out _ hp hk; omega
  · have := HT.out _ hp hk; omega
theorem runp_turn {F : Nat → Prop} {B : Nat} {W w' : World} {bu : Nat} {v : Value} {l : List Int} {e : Int} (h : RUnp (fun k => B ≤ k) W bu v l e) (ho : Only F W w') (hF : ∀ i, F i → B ≤ i) (hb : ¬ F bu) : RUnp (fun k => B ≤ k) w' bu v l e := by
  refine ⟨ho.obj h.block hb, ?_, h.apart, h.u8, h.err⟩
  obtain ⟨q, cq, hq, r1, r2, r3, r4⟩ := h.row
  refine ⟨q, cq, hq, r1, r2, r3, fun hp => ?_⟩
  obtain ⟨bb, oo, hqq, hcc⟩ := r4 hp
  refine ⟨bb, oo, hqq, fun j hj => ho.cell (hcc j hj) (fun e => ?_)⟩
  have hap := (h.apart (by omega)).2 bb (by rw [hq, hqq]; rfl)
  exact hap (hF _ e)
set_option maxRecDepth 100000 in
set_option maxHeartbeats 4000000 in
theorem rparse_any {W : World} {v : Value} {l : List Int} (h : Row .u8 W v l) (hu : U8 l) :
    Calls Try.prog 19 #[v] W fun e w' => e = .returned (.tuple #[LE.val (parseL l).1, .int .i64 (parseL l).2]) ∧ Below W.heap.size W w' := by
  obtain ⟨n1, l1, e1, h1⟩ : ∃ n l1 e, reads l 0 (-9223372036854775808) 9223372036854775807 = (n, l1, e) := ⟨_, _, _, rfl⟩
  obtain ⟨n2, l2, e2, h2⟩ : ∃ n l2 e, reads l1 e1 (-9223372036854775808) 9223372036854775807 = (n, l2, e) := ⟨_, _, _, rfl⟩
  obtain ⟨n3, l3, e3, h3⟩ : ∃ n l3 e, reads l2 e2 (-9223372036854775808) 9223372036854775807 = (n, l3, e) := ⟨_, _, _, rfl⟩
  obtain ⟨n4, l4, e4, h4⟩ : ∃ n l4 e, reads l3 e3 (-9223372036854775808) 9223372036854775807 = (n, l4, e) := ⟨_, _, _, rfl⟩
  obtain ⟨n5, l5, e5, h5⟩ : ∃ n l5 e, reads l4 e4 (-9223372036854775808) 9223372036854775807 = (n, l5, e) := ⟨_, _, _, rfl⟩
  obtain ⟨n6, l6, e6, h6⟩ : ∃ n l6 e, reads l5 e5 0 1 = (n, l6, e) := ⟨_, _, _, rfl⟩
  obtain ⟨sb, hsb⟩ : ∃ sb, (n6 == 1) = sb := ⟨_, rfl⟩
  have hrd : rdL l = (⟨n1, n2, n3, n4, n5, sb⟩, l6, e6) := by unfold rdL; simp only [h1, h2, h3, h4, h5, h6, hsb]
  obtain ⟨cl, hcl⟩ : ∃ cl, closes l6 e6 = cl := ⟨_, rfl⟩
  have hp : parseL l = if cl = 0 then (if okL ⟨n1, n2, n3, n4, n5, sb⟩ then (⟨n1, n2, n3, n4, n5, sb⟩, 0) else (⟨0, 0, 0, 0, 0, false⟩, 1)) else (⟨0, 0, 0, 0, 0, false⟩, cl) := by unfold parseL; rw [hrd]; simp only [hcl]
  have H1 := hide h1
  have H2 := hide h2
  have H3 := hide h3
  have H4 := hide h4
  have H5 := hide h5
  have H6 := hide h6
  have HSBB := hide hsb
  have HCL := hide hcl
  have HPA : Hid (cl = 0 → okL ⟨n1, n2, n3, n4, n5, sb⟩ → parseL l = (⟨n1, n2, n3, n4, n5, sb⟩, 0)) := hide (fun h k => by rw [hp, if_pos h, if_pos k])
  have HPB : Hid (cl = 0 → ¬ okL ⟨n1, n2, n3, n4, n5, sb⟩ → parseL l = (⟨0, 0, 0, 0, 0, false⟩, 1)) := hide (fun h k => by rw [hp, if_pos h, if_neg k])
  have HPC : Hid (cl ≠ 0 → parseL l = (⟨0, 0, 0, 0, 0, false⟩, cl)) := hide (fun h => by rw [hp, if_neg h])
  clear h1 h2 h3 h4 h5 h6 hsb hrd hcl hp
  obtain ⟨V, hV⟩ : ∃ V, V = W.alloc (.cells #[.int .i64 0, .int .i64 0, .int .i64 0, .int .i64 0, .int .i64 0, .bool false] 23 (0, 0)) := ⟨_, rfl⟩
  have v0 : V.heap[W.heap.size]? = some (.cells #[.int .i64 0, .int .i64 0, .int .i64 0, .int .i64 0, .int .i64 0, .bool false] 23 (0, 0)) := by rw [hV]; exact heap_alloc_new W _
  have bV : Below W.heap.size W V := by rw [hV]; exact alloc_below _ _
  have HROW := hide (Row.below h bV)
  obtain ⟨p, cap, rfl, _, _, _, _⟩ := h
  obtain ⟨rB, hrB⟩ : ∃ rB, W.heap.size = rB := ⟨_, rfl⟩
  rw [hrB] at v0 bV
  have HRS0 := hide v0
  have HBW0 := hide bV
  have HBB := hide hrB
  have HU8 := hide hu
  clear v0 bV hu
  go_enter Try.func19, Try.ntmps19
  go_upto_region 1 with fail
  rw [← hV]
  try rw [hrB]
  clear hV hrB
  go_wp2_with fail
  refine (ropen_anyL HROW.out HU8.out).mono ?_
  rintro _ x1 ⟨rfl, U1, b1⟩
  have hrb2 := box_lt HRS0.out
  obtain ⟨bu, hbu⟩ : ∃ bu, V.heap.size = bu := ⟨_, rfl⟩
  have HU1 := hide U1
  have HRS1 := hide (below_box b1 HRS0.out)
  have HBW1 := hide (below_next HBW0.out b1 (Nat.le_of_lt (box_lt HRS0.out)))
  rw [hbu] at HU1 hrb2 ⊢
  have HBU := hide hrb2
  clear U1 b1 hbu hrb2 HRS0 HBW0 HROW
  go_wp2_with fail
  refine (wide_at HU1.out H1.out).mono ?_
  rintro _ x2 ⟨rfl, hg, p1, c1, U2⟩
  have hon : Only (· = bu) x1 x2 := Only.of_grown hg (fun k e => by simpa using e.symm)
  have HU2 := hide U2
  have HRS2 := hide (hon.obj HRS1.out (fun e => by have e' : rB = bu := e; have := HBU.out; omega))
  have HBW2 := hide (HBW1.out.trans (hon.below (Nat.le_of_lt (box_lt HRS1.out)) (fun i e => by have e' : i = bu := e; have := HBU.out; omega)))
  clear hg hon U2 HU1 HRS1 HBW1
  go_upto_region 3 with fail
  obtain ⟨x3, hX⟩ : ∃ X, X = x2.alloc (.cells #[.int .i64 n1, .int .i64 0, .int .i64 0, .int .i64 0, .int .i64 0, .bool false] 23 (0, 0)) := ⟨_, rfl⟩
  rw [← hX]
  have bX : Below x2.heap.size x2 x3 := by rw [hX]; exact alloc_below _ _
  obtain ⟨tB, htB⟩ : ∃ tB, x2.heap.size = tB := ⟨_, rfl⟩
  have HTB3 : Hid (x3.heap[tB]? = some (.cells #[.int .i64 n1, .int .i64 0, .int .i64 0, .int .i64 0, .int .i64 0, .bool false] 23 (0, 0))) := hide (by rw [hX, ← htB]; exact heap_alloc_new x2 _)
  have HTU : Hid (bu < tB) := hide (by rw [← htB]; exact box_lt HU2.out.block)
  have HU3 := hide (HU2.out.below bX)
  have HRS3 := hide (below_box bX HRS2.out)
  have HBW3 := hide (below_next HBW2.out bX (Nat.le_of_lt (box_lt HRS2.out)))
  try rw [htB]
  clear hX bX htB HU2 HRS2 HBW2
  go_wp2_with fail
  refine (wide_at HU3.out H2.out).mono ?_
  rintro _ x4 ⟨rfl, hg, p2, c2, U4⟩
  have hon : Only (· = bu) x3 x4 := Only.of_grown hg (fun k e => by simpa using e.symm)
  have HU4 := hide U4
  have HRS4 := hide (hon.obj HRS3.out (fun e => by have e' : rB = bu := e; have := HBU.out; omega))
  have HBW4 := hide (HBW3.out.trans (hon.below (Nat.le_of_lt (box_lt HRS3.out)) (fun i e => by have e' : i = bu := e; have := HBU.out; omega)))
  have HTB4 := hide (hon.obj HTB3.out (fun e => by have e' : tB = bu := e; have := HTU.out; omega))
  clear HTB3
  clear hg hon U4 HU3 HRS3 HBW3
  have hfz := (six HTB4.out).f1
  have hcz := (six HTB4.out).u1
  go_upto_region 4 with fail
  clear hfz hcz
  obtain ⟨x5, hX⟩ : ∃ X, X = x4.setCell ⟨tB, 1, none⟩ (.int .i64 n2) := ⟨_, rfl⟩
  rw [← hX]
  have hon : Only (· = tB) x4 x5 := by rw [hX]; exact Only.set (F := (· = tB)) _ tB 1 _ rfl
  have HTB5 : Hid (x5.heap[tB]? = some (.cells #[.int .i64 n1, .int .i64 n2, .int .i64 0, .int .i64 0, .int .i64 0, .bool false] 23 (0, 0))) := hide (by rw [hX]; exact heap_set_sameL HTB4.out 1 (.int .i64 n2))
  have HU5 := hide (runp_turn HU4.out hon (fun i e => by have e' : i = tB := e; have := HTU.out; omega) (fun e => by have e' : bu = tB := e; have := HTU.out; omega))
  have HRS5 := hide (hon.obj HRS4.out (fun e => by have e' : rB = tB := e; have := HTU.out; have := HBU.out; omega))
  have HBW5 := hide (HBW4.out.trans (hon.below (Nat.le_of_lt (box_lt HRS4.out)) (fun i e => by have e' : i = tB := e; have := HTU.out; have := HBU.out; omega)))
  clear hX hon HTB4 HU4 HRS4 HBW4
  go_wp2_with fail
  refine (wide_at HU5.out H3.out).mono ?_
  rintro _ x6 ⟨rfl, hg, p3, c3, U6⟩
  have hon : Only (· = bu) x5 x6 := Only.of_grown hg (fun k e => by simpa using e.symm)
  have HU6 := hide U6
  have HRS6 := hide (hon.obj HRS5.out (fun e => by have e' : rB = bu := e; have := HBU.out; omega))
  have HBW6 := hide (HBW5.out.trans (hon.below (Nat.le_of_lt (box_lt HRS5.out)) (fun i e => by have e' : i = bu := e; have := HBU.out; omega)))
  have HTB6 := hide (hon.obj HTB5.out (fun e => by have e' : tB = bu := e; have := HTU.out; omega))
  clear HTB5
  clear hg hon U6 HU5 HRS5 HBW5
  have hfz := (six HTB6.out).f2
  have hcz := (six HTB6.out).u2
  go_upto_region 5 with fail
  clear hfz hcz
  obtain ⟨x7, hX⟩ : ∃ X, X = x6.setCell ⟨tB, 2, none⟩ (.int .i64 n3) := ⟨_, rfl⟩
  rw [← hX]
  have hon : Only (· = tB) x6 x7 := by rw [hX]; exact Only.set (F := (· = tB)) _ tB 2 _ rfl
  have HTB7 : Hid (x7.heap[tB]? = some (.cells #[.int .i64 n1, .int .i64 n2, .int .i64 n3, .int .i64 0, .int .i64 0, .bool false] 23 (0, 0))) := hide (by rw [hX]; exact heap_set_sameL HTB6.out 2 (.int .i64 n3))
  have HU7 := hide (runp_turn HU6.out hon (fun i e => by have e' : i = tB := e; have := HTU.out; omega) (fun e => by have e' : bu = tB := e; have := HTU.out; omega))
  have HRS7 := hide (hon.obj HRS6.out (fun e => by have e' : rB = tB := e; have := HTU.out; have := HBU.out; omega))
  have HBW7 := hide (HBW6.out.trans (hon.below (Nat.le_of_lt (box_lt HRS6.out)) (fun i e => by have e' : i = tB := e; have := HTU.out; have := HBU.out; omega)))
  clear hX hon HTB6 HU6 HRS6 HBW6
  go_wp2_with fail
  refine (wide_at HU7.out H4.out).mono ?_
  rintro _ x8 ⟨rfl, hg, p4, c4, U8⟩
  have hon : Only (· = bu) x7 x8 := Only.of_grown hg (fun k e => by simpa using e.symm)
  have HU8 := hide U8
  have HRS8 := hide (hon.obj HRS7.out (fun e => by have e' : rB = bu := e; have := HBU.out; omega))
  have HBW8 := hide (HBW7.out.trans (hon.below (Nat.le_of_lt (box_lt HRS7.out)) (fun i e => by have e' : i = bu := e; have := HBU.out; omega)))
  have HTB8 := hide (hon.obj HTB7.out (fun e => by have e' : tB = bu := e; have := HTU.out; omega))
  clear HTB7
  clear hg hon U8 HU7 HRS7 HBW7
  have hfz := (six HTB8.out).f3
  have hcz := (six HTB8.out).u3
  go_upto_region 6 with fail
  clear hfz hcz
  obtain ⟨x9, hX⟩ : ∃ X, X = x8.setCell ⟨tB, 3, none⟩ (.int .i64 n4) := ⟨_, rfl⟩
  rw [← hX]
  have hon : Only (· = tB) x8 x9 := by rw [hX]; exact Only.set (F := (· = tB)) _ tB 3 _ rfl
  have HTB9 : Hid (x9.heap[tB]? = some (.cells #[.int .i64 n1, .int .i64 n2, .int .i64 n3, .int .i64 n4, .int .i64 0, .bool false] 23 (0, 0))) := hide (by rw [hX]; exact heap_set_sameL HTB8.out 3 (.int .i64 n4))
  have HU9 := hide (runp_turn HU8.out hon (fun i e => by have e' : i = tB := e; have := HTU.out; omega) (fun e => by have e' : bu = tB := e; have := HTU.out; omega))
  have HRS9 := hide (hon.obj HRS8.out (fun e => by have e' : rB = tB := e; have := HTU.out; have := HBU.out; omega))
  have HBW9 := hide (HBW8.out.trans (hon.below (Nat.le_of_lt (box_lt HRS8.out)) (fun i e => by have e' : i = tB := e; have := HTU.out; have := HBU.out; omega)))
  clear hX hon HTB8 HU8 HRS8 HBW8
  go_wp2_with fail
  refine (wide_at HU9.out H5.out).mono ?_
  rintro _ x10 ⟨rfl, hg, p5, c5, U10⟩
  have hon : Only (· = bu) x9 x10 := Only.of_grown hg (fun k e => by simpa using e.symm)
  have HU10 := hide U10
  have HRS10 := hide (hon.obj HRS9.out (fun e => by have e' : rB = bu := e; have := HBU.out; omega))
  have HBW10 := hide (HBW9.out.trans (hon.below (Nat.le_of_lt (box_lt HRS9.out)) (fun i e => by have e' : i = bu := e; have := HBU.out; omega)))
  have HTB10 := hide (hon.obj HTB9.out (fun e => by have e' : tB = bu := e; have := HTU.out; omega))
  clear HTB9
  clear hg hon U10 HU9 HRS9 HBW9
  have hfz := (six HTB10.out).f4
  have hcz := (six HTB10.out).u4
  go_upto_region 7 with fail
  clear hfz hcz
  obtain ⟨x11, hX⟩ : ∃ X, X = x10.setCell ⟨tB, 4, none⟩ (.int .i64 n5) := ⟨_, rfl⟩
  rw [← hX]
  have hon : Only (· = tB) x10 x11 := by rw [hX]; exact Only.set (F := (· = tB)) _ tB 4 _ rfl
  have HTB11 : Hid (x11.heap[tB]? = some (.cells #[.int .i64 n1, .int .i64 n2, .int .i64 n3, .int .i64 n4, .int .i64 n5, .bool false] 23 (0, 0))) := hide (by rw [hX]; exact heap_set_sameL HTB10.out 4 (.int .i64 n5))
  have HU11 := hide (runp_turn HU10.out hon (fun i e => by have e' : i = tB := e; have := HTU.out; omega) (fun e => by have e' : bu = tB := e; have := HTU.out; omega))
  have HRS11 := hide (hon.obj HRS10.out (fun e => by have e' : rB = tB := e; have := HTU.out; have := HBU.out; omega))
  have HBW11 := hide (HBW10.out.trans (hon.below (Nat.le_of_lt (box_lt HRS10.out)) (fun i e => by have e' : i = tB := e; have := HTU.out; have := HBU.out; omega)))
  clear hX hon HTB10 HU10 HRS10 HBW10
  go_wp2_with fail
  refine (rflag_at HU11.out H6.out).mono ?_
  rw [HSBB.out]
  rintro _ x12 ⟨rfl, hg, p6, c6, U12⟩
  have hon : Only (· = bu) x11 x12 := Only.of_grown hg (fun k e => by simpa using e.symm)
  have HU12 := hide U12
  have HRS12 := hide (hon.obj HRS11.out (fun e => by have e' : rB = bu := e; have := HBU.out; omega))
  have HBW12 := hide (HBW11.out.trans (hon.below (Nat.le_of_lt (box_lt HRS11.out)) (fun i e => by have e' : i = bu := e; have := HBU.out; omega)))
  have HTB12 := hide (hon.obj HTB11.out (fun e => by have e' : tB = bu := e; have := HTU.out; omega))
  clear HTB11
  clear hg hon U12 HU11 HRS11 HBW11
  have hfz := (six HTB12.out).f5
  have hcz := (six HTB12.out).u5
  go_upto_region 8 with fail
  clear hfz hcz
  obtain ⟨x13, hX⟩ : ∃ X, X = x12.setCell ⟨tB, 5, none⟩ (.bool sb) := ⟨_, rfl⟩
  rw [← hX]
  have hon : Only (· = tB) x12 x13 := by rw [hX]; exact Only.set (F := (· = tB)) _ tB 5 _ rfl
  have HTB13 : Hid (x13.heap[tB]? = some (.cells #[.int .i64 n1, .int .i64 n2, .int .i64 n3, .int .i64 n4, .int .i64 n5, .bool sb] 23 (0, 0))) := hide (by rw [hX]; exact heap_set_sameL HTB12.out 5 (.bool sb))
  have HU13 := hide (runp_turn HU12.out hon (fun i e => by have e' : i = tB := e; have := HTU.out; omega) (fun e => by have e' : bu = tB := e; have := HTU.out; omega))
  have HRS13 := hide (hon.obj HRS12.out (fun e => by have e' : rB = tB := e; have := HTU.out; have := HBU.out; omega))
  have HBW13 := hide (HBW12.out.trans (hon.below (Nat.le_of_lt (box_lt HRS12.out)) (fun i e => by have e' : i = tB := e; have := HTU.out; have := HBU.out; omega)))
  clear hX hon HTB12 HU12 HRS12 HBW12
  go_wp2_with fail
  refine (rclose_any HU13.out).mono ?_
  rw [HCL.out]
  rintro _ x13 ⟨rfl, rfl⟩
  by_cases hc0 : cl = 0
  · have HC0 := hide hc0
    obtain ⟨HPA2, HPB2⟩ := And.intro (hide (HPA.out hc0)) (hide (HPB.out hc0))
    clear HPA HPB HPC HC0
    subst hc0
    obtain ⟨cc, hcc⟩ : ∃ cc, chkC ⟨n1, n2, n3, n4, n5, sb⟩ = cc := ⟨_, rfl⟩
    have HCC := hide hcc
    obtain ⟨_, _, _, _, _, _, t0, t1, t2, t3, t4, t5⟩ := six HTB13.out
    go_wp2_with fail
    refine rcheck_any.mono ?_
    rw [HCC.out]
    rintro _ wc ⟨rfl, bc⟩
    have HRS14 := hide (below_box bc HRS13.out)
    have HTB14 := hide (below_box bc HTB13.out)
    have HBW14 := hide (below_next HBW13.out bc (Nat.le_of_lt (box_lt HRS13.out)))
    clear bc HRS13 HTB13 HBW13 t0 t1 t2 t3 t4 t5
    obtain ⟨_, _, _, _, _, _, t0, t1, t2, t3, t4, t5⟩ := six HTB14.out
    by_cases hok : okL ⟨n1, n2, n3, n4, n5, sb⟩
    · obtain rfl : cc = 0 := by rw [← hcc]; exact chk_yes hok
      have HQ : Hid (parseL l = (⟨n1, n2, n3, n4, n5, sb⟩, 0)) := hide (HPA2.out hok)
      clear hcc
      obtain ⟨f0, f1, f2, f3, f4, f5, r0, r1, r2, r3, r4, r5⟩ := six HRS14.out
      go_wp2
      have hE := heap_set6 HRS14.out (.int .i64 n1) (.int .i64 n2) (.int .i64 n3) (.int .i64 n4) (.int .i64 n5) (.bool sb)
      refine bodyPost_ret (results_cell_two rfl _ _ rB 23 _ _ _ rfl hE Try.underlying23 rfl (by kernel_rfl)) rfl ?_
      refine ⟨by rw [HQ.out]; rfl, ?_⟩
      rw [HBB.out]
      exact HBW14.out.trans ((only_set6 _ rB _ _ _ _ _ _).below (Nat.le_of_lt (box_lt HRS14.out)) (fun i e => by have e' : i = rB := e; omega))
    · obtain rfl : cc = 1 := by rw [← hcc]; exact chk_no hok
      have HQ : Hid (parseL l = (⟨0, 0, 0, 0, 0, false⟩, 1)) := hide (HPB2.out hok)
      clear hcc
      obtain ⟨f0, f1, f2, f3, f4, f5, r0, r1, r2, r3, r4, r5⟩ := six HRS14.out
      go_wp2
      have hE := heap_set6 HRS14.out (.int .i64 0) (.int .i64 0) (.int .i64 0) (.int .i64 0) (.int .i64 0) (.bool false)
      refine bodyPost_ret (results_cell_two rfl _ _ rB 23 _ _ _ rfl hE Try.underlying23 rfl (by kernel_rfl)) rfl ?_
      refine ⟨by rw [HQ.out]; rfl, ?_⟩
      rw [HBB.out]
      exact HBW14.out.trans ((only_set6 _ rB _ _ _ _ _ _).below (Nat.le_of_lt (box_lt HRS14.out)) (fun i e => by have e' : i = rB := e; omega))
  · have HQ : Hid (parseL l = (⟨0, 0, 0, 0, 0, false⟩, cl)) := hide (HPC.out hc0)
    have q1 : (cl != 0) = true := ne_neL hc0
    have q2 : (cl == 0) = false := ne_eqL hc0
    clear hc0
    obtain ⟨f0, f1, f2, f3, f4, f5, r0, r1, r2, r3, r4, r5⟩ := six HRS13.out
    go_wp2
    have hE := heap_set6 HRS13.out (.int .i64 0) (.int .i64 0) (.int .i64 0) (.int .i64 0) (.int .i64 0) (.bool false)
    refine bodyPost_ret (results_cell_two rfl _ _ rB 23 _ _ _ rfl hE Try.underlying23 rfl (by kernel_rfl)) rfl ?_
    refine ⟨by rw [HQ.out]; rfl, ?_⟩
    rw [HBB.out]
    exact HBW13.out.trans ((only_set6 _ rB _ _ _ _ _ _).below (Nat.le_of_lt (box_lt HRS13.out)) (fun i e => by have e' : i = rB := e; omega))
end Go.Proofs.Ythlkhjpobiohmaa
