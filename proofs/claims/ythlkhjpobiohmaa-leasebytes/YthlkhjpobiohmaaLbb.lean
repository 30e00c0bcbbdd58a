/-
  Parse of package lease. The conditions: that the bytes lie there, and that they are fewer than 2^47.
-/
import Derived.Test.YthlkhjpobiohmaaLba
namespace Go.Proofs.Ythlkhjpobiohmaa
open Go.RowKit

set_option maxRecDepth 100000 in
set_option maxHeartbeats 4000000 in
theorem parse_any {W : World} {v : Value} {l : List Int} (h : Row .u8 W v l) (hu : U8 l) (hbig : l.length ≤ 140737488355328) :
    Calls Try.prog 18 #[v] W fun e w' => e = .returned (.tuple #[LE.val (parseL l).1, .int .i64 (parseL l).2]) ∧ Below W.heap.size W w' := by
  obtain ⟨n1, l1, e1, h1⟩ : ∃ n l1 e, reads l 0 (-9223372036854775808) 9223372036854775807 = (n, l1, e) := ⟨_, _, _, rfl⟩
  obtain ⟨n2, l2, e2, h2⟩ : ∃ n l2 e, reads l1 e1 (-9223372036854775808) 9223372036854775807 = (n, l2, e) := ⟨_, _, _, rfl⟩
  obtain ⟨n3, l3, e3, h3⟩ : ∃ n l3 e, reads l2 e2 (-9223372036854775808) 9223372036854775807 = (n, l3, e) := ⟨_, _, _, rfl⟩
  obtain ⟨n4, l4, e4, h4⟩ : ∃ n l4 e, reads l3 e3 (-9223372036854775808) 9223372036854775807 = (n, l4, e) := ⟨_, _, _, rfl⟩
  obtain ⟨n5, l5, e5, h5⟩ : ∃ n l5 e, reads l4 e4 (-9223372036854775808) 9223372036854775807 = (n, l5, e) := ⟨_, _, _, rfl⟩
  obtain ⟨n6, l6, e6, h6⟩ : ∃ n l6 e, reads l5 e5 0 1 = (n, l6, e) := ⟨_, _, _, rfl⟩
  obtain ⟨sb, hsb⟩ : ∃ sb, (n6 == 1) = sb := ⟨_, rfl⟩
  have hrd : rdL l = (⟨n1, n2, n3, n4, n5, sb⟩, l6, e6) := by unfold rdL; simp only [h1, h2, h3, h4, h5, h6, hsb]
  obtain ⟨cl, hcl⟩ : ∃ cl, closes l6 e6 = cl := ⟨_, rfl⟩
  have hp : parseL l = if cl = 0 then (if okL ⟨n1, n2, n3, n4, n5, sb⟩ then (⟨n1, n2, n3, n4, n5, sb⟩, 0) else (⟨0, 0, 0, 0, 0, false⟩, 1)) else (⟨0, 0, 0, 0, 0, false⟩, cl) := by unfold parseL; rw [hrd]; simp only [hcl]
  have H1 := hide h1
  have H2 := hide h2
  have H3 := hide h3
  have H4 := hide h4
  have H5 := hide h5
  have H6 := hide h6
  have HSBB := hide hsb
  have HCL := hide hcl
  have HPA : Hid (cl = 0 → okL ⟨n1, n2, n3, n4, n5, sb⟩ → parseL l = (⟨n1, n2, n3, n4, n5, sb⟩, 0)) := hide (fun h k => by rw [hp, if_pos h, if_pos k])
  have HPB : Hid (cl = 0 → ¬ okL ⟨n1, n2, n3, n4, n5, sb⟩ → parseL l = (⟨0, 0, 0, 0, 0, false⟩, 1)) := hide (fun h k => by rw [hp, if_pos h, if_neg k])
  have HPC : Hid (cl ≠ 0 → parseL l = (⟨0, 0, 0, 0, 0, false⟩, cl)) := hide (fun h => by rw [hp, if_neg h])
  clear h1 h2 h3 h4 h5 h6 hsb hrd hcl hp
  obtain ⟨V, hV⟩ : ∃ V, V = W.alloc (.cells #[.int .i64 0, .int .i64 0, .int .i64 0, .int .i64 0, .int .i64 0, .bool false] 23 (0, 0)) := ⟨_, rfl⟩
  have v0 : V.heap[W.heap.size]? = some (.cells #[.int .i64 0, .int .i64 0, .int .i64 0, .int .i64 0, .int .i64 0, .bool false] 23 (0, 0)) := by rw [hV]; exact heap_alloc_new W _
  have bV : Below W.heap.size W V := by rw [hV]; exact alloc_below _ _
  have HROW := hide (Row.below h bV)
  obtain ⟨p, cap, rfl, _, _, _, _⟩ := h
  obtain ⟨rB, hrB⟩ : ∃ rB, W.heap.size = rB := ⟨_, rfl⟩
  rw [hrB] at v0 bV
  have HRS0 := hide v0
  have HBW0 := hide bV
  have HBB := hide hrB
  have HU8 := hide hu
  have HBIG := hide hbig
  clear v0 bV hu hbig
  go_enter Try.func18, Try.ntmps18
  go_upto_region 1 with fail
  rw [← hV]
  try rw [hrB]
  clear hV hrB
  go_wp2_with fail
  refine (open_any HROW.out HU8.out HBIG.out).mono ?_
  rintro _ x1 ⟨bu, v1, rfl, hge, U1, b1⟩
  have HBU : Hid (rB < bu) := hide (by have := box_lt HRS0.out; omega)
  have HU1 := hide U1
  have HRS1 := hide (below_box b1 HRS0.out)
  have HBW1 := hide (below_next HBW0.out b1 (Nat.le_of_lt (box_lt HRS0.out)))
  clear U1 b1 hge HRS0 HBW0 HROW
  go_wp2_with fail
  refine (number_at HU1.out H1.out).mono ?_
  rintro _ x2 ⟨rfl, hg, p1, c1, U2⟩
  have hon : Only (· = bu) x1 x2 := Only.of_grown hg (fun k e => by simpa using e.symm)
  have HU2 := hide U2
  have HRS2 := hide (hon.obj HRS1.out (fun e => by have e' : rB = bu := e; have := HBU.out; omega))
  have HBW2 := hide (HBW1.out.trans (hon.below (Nat.le_of_lt (box_lt HRS1.out)) (fun i e => by have e' : i = bu := e; have := HBU.out; omega)))
  clear hg hon U2 HU1 HRS1 HBW1
  go_wp2_with fail
  refine (number_at HU2.out H2.out).mono ?_
  rintro _ x3 ⟨rfl, hg, p2, c2, U3⟩
  have hon : Only (· = bu) x2 x3 := Only.of_grown hg (fun k e => by simpa using e.symm)
  have HU3 := hide U3
  have HRS3 := hide (hon.obj HRS2.out (fun e => by have e' : rB = bu := e; have := HBU.out; omega))
  have HBW3 := hide (HBW2.out.trans (hon.below (Nat.le_of_lt (box_lt HRS2.out)) (fun i e => by have e' : i = bu := e; have := HBU.out; omega)))
  clear hg hon U3 HU2 HRS2 HBW2
  go_wp2_with fail
  refine (number_at HU3.out H3.out).mono ?_
  rintro _ x4 ⟨rfl, hg, p3, c3, U4⟩
  have hon : Only (· = bu) x3 x4 := Only.of_grown hg (fun k e => by simpa using e.symm)
  have HU4 := hide U4
  have HRS4 := hide (hon.obj HRS3.out (fun e => by have e' : rB = bu := e; have := HBU.out; omega))
  have HBW4 := hide (HBW3.out.trans (hon.below (Nat.le_of_lt (box_lt HRS3.out)) (fun i e => by have e' : i = bu := e; have := HBU.out; omega)))
  clear hg hon U4 HU3 HRS3 HBW3
  go_wp2_with fail
  refine (number_at HU4.out H4.out).mono ?_
  rintro _ x5 ⟨rfl, hg, p4, c4, U5⟩
  have hon : Only (· = bu) x4 x5 := Only.of_grown hg (fun k e => by simpa using e.symm)
  have HU5 := hide U5
  have HRS5 := hide (hon.obj HRS4.out (fun e => by have e' : rB = bu := e; have := HBU.out; omega))
  have HBW5 := hide (HBW4.out.trans (hon.below (Nat.le_of_lt (box_lt HRS4.out)) (fun i e => by have e' : i = bu := e; have := HBU.out; omega)))
  clear hg hon U5 HU4 HRS4 HBW4
  go_wp2_with fail
  refine (number_at HU5.out H5.out).mono ?_
  rintro _ x6 ⟨rfl, hg, p5, c5, U6⟩
  have hon : Only (· = bu) x5 x6 := Only.of_grown hg (fun k e => by simpa using e.symm)
  have HU6 := hide U6
  have HRS6 := hide (hon.obj HRS5.out (fun e => by have e' : rB = bu := e; have := HBU.out; omega))
  have HBW6 := hide (HBW5.out.trans (hon.below (Nat.le_of_lt (box_lt HRS5.out)) (fun i e => by have e' : i = bu := e; have := HBU.out; omega)))
  clear hg hon U6 HU5 HRS5 HBW5
  go_wp2_with fail
  refine (flag_at HU6.out H6.out).mono ?_
  rw [HSBB.out]
  rintro _ x7 ⟨rfl, hg, p6, c6, U7⟩
  have hon : Only (· = bu) x6 x7 := Only.of_grown hg (fun k e => by simpa using e.symm)
  have HU7 := hide U7
  have HRS7 := hide (hon.obj HRS6.out (fun e => by have e' : rB = bu := e; have := HBU.out; omega))
  have HBW7 := hide (HBW6.out.trans (hon.below (Nat.le_of_lt (box_lt HRS6.out)) (fun i e => by have e' : i = bu := e; have := HBU.out; omega)))
  clear hg hon U7 HU6 HRS6 HBW6
  go_upto_region 3 with fail
  obtain ⟨X, hX⟩ : ∃ X, X = x7.alloc (.cells #[.int .i64 n1, .int .i64 n2, .int .i64 n3, .int .i64 n4, .int .i64 n5, .bool sb] 23 (0, 0)) := ⟨_, rfl⟩
  rw [← hX]
  have bX : Below x7.heap.size x7 X := by rw [hX]; exact alloc_below _ _
  obtain ⟨tB, htB⟩ : ∃ tB, x7.heap.size = tB := ⟨_, rfl⟩
  have HTB8 : Hid (X.heap[tB]? = some (.cells #[.int .i64 n1, .int .i64 n2, .int .i64 n3, .int .i64 n4, .int .i64 n5, .bool sb] 23 (0, 0))) := hide (by rw [hX, ← htB]; exact heap_alloc_new x7 _)
  have HU8x := hide (HU7.out.below bX)
  have HRS8 := hide (below_box bX HRS7.out)
  have HBW8 := hide (below_next HBW7.out bX (Nat.le_of_lt (box_lt HRS7.out)))
  try rw [htB]
  clear hX bX htB HU7 HRS7 HBW7
  go_wp2_with fail
  refine (close_any HU8x.out).mono ?_
  rw [HCL.out]
  rintro _ X ⟨rfl, rfl⟩
  by_cases hc0 : cl = 0
  · have HC0 := hide hc0
    obtain ⟨HPA2, HPB2⟩ := And.intro (hide (HPA.out hc0)) (hide (HPB.out hc0))
    clear HPA HPB HPC HC0
    subst hc0
    obtain ⟨cc, hcc⟩ : ∃ cc, chkC ⟨n1, n2, n3, n4, n5, sb⟩ = cc := ⟨_, rfl⟩
    have HCC := hide hcc
    obtain ⟨_, _, _, _, _, _, t0, t1, t2, t3, t4, t5⟩ := six HTB8.out
    go_wp2_with fail
    refine check_any.mono ?_
    rw [HCC.out]
    rintro _ wc ⟨rfl, bc⟩
    have HRS9 := hide (below_box bc HRS8.out)
    have HTB9 := hide (below_box bc HTB8.out)
    have HBW9 := hide (below_next HBW8.out bc (Nat.le_of_lt (box_lt HRS8.out)))
    clear bc HRS8 HTB8 HBW8 t0 t1 t2 t3 t4 t5
    obtain ⟨_, _, _, _, _, _, t0, t1, t2, t3, t4, t5⟩ := six HTB9.out
    by_cases hok : okL ⟨n1, n2, n3, n4, n5, sb⟩
    · obtain rfl : cc = 0 := by rw [← hcc]; exact chk_yes hok
      have HQ : Hid (parseL l = (⟨n1, n2, n3, n4, n5, sb⟩, 0)) := hide (HPA2.out hok)
      clear hcc
      obtain ⟨f0, f1, f2, f3, f4, f5, r0, r1, r2, r3, r4, r5⟩ := six HRS9.out
      go_wp2
      have hE := heap_set6 HRS9.out (.int .i64 n1) (.int .i64 n2) (.int .i64 n3) (.int .i64 n4) (.int .i64 n5) (.bool sb)
      refine bodyPost_ret (results_cell_two rfl _ _ rB 23 _ _ _ rfl hE Try.underlying23 rfl (by kernel_rfl)) rfl ?_
      refine ⟨by rw [HQ.out]; rfl, ?_⟩
      rw [HBB.out]
      exact HBW9.out.trans ((only_set6 _ rB _ _ _ _ _ _).below (Nat.le_of_lt (box_lt HRS9.out)) (fun i e => by have e' : i = rB := e; omega))
    · obtain rfl : cc = 1 := by rw [← hcc]; exact chk_no hok
      have HQ : Hid (parseL l = (⟨0, 0, 0, 0, 0, false⟩, 1)) := hide (HPB2.out hok)
      clear hcc
      obtain ⟨f0, f1, f2, f3, f4, f5, r0, r1, r2, r3, r4, r5⟩ := six HRS9.out
      go_wp2
      have hE := heap_set6 HRS9.out (.int .i64 0) (.int .i64 0) (.int .i64 0) (.int .i64 0) (.int .i64 0) (.bool false)
      refine bodyPost_ret (results_cell_two rfl _ _ rB 23 _ _ _ rfl hE Try.underlying23 rfl (by kernel_rfl)) rfl ?_
      refine ⟨by rw [HQ.out]; rfl, ?_⟩
      rw [HBB.out]
      exact HBW9.out.trans ((only_set6 _ rB _ _ _ _ _ _).below (Nat.le_of_lt (box_lt HRS9.out)) (fun i e => by have e' : i = rB := e; omega))
  · have HQ : Hid (parseL l = (⟨0, 0, 0, 0, 0, false⟩, cl)) := hide (HPC.out hc0)
    have q1 : (cl != 0) = true := ne_neL hc0
    have q2 : (cl == 0) = false := ne_eqL hc0
    clear hc0
    obtain ⟨f0, f1, f2, f3, f4, f5, r0, r1, r2, r3, r4, r5⟩ := six HRS8.out
    go_wp2
    have hE := heap_set6 HRS8.out (.int .i64 0) (.int .i64 0) (.int .i64 0) (.int .i64 0) (.int .i64 0) (.bool false)
    refine bodyPost_ret (results_cell_two rfl _ _ rB 23 _ _ _ rfl hE Try.underlying23 rfl (by kernel_rfl)) rfl ?_
    refine ⟨by rw [HQ.out]; rfl, ?_⟩
    rw [HBB.out]
    exact HBW8.out.trans ((only_set6 _ rB _ _ _ _ _ _).below (Nat.le_of_lt (box_lt HRS8.out)) (fun i e => by have e' : i = rB := e; omega))
end Go.Proofs.Ythlkhjpobiohmaa
