/-
  Same of the program: of any two graphs. No conditions.
-/
import Derived.Test.YtdngjpbefcbodaaGnr
import Derived.Test.YtdngjpbefcbodaaGcl
import Derived.Deep.Cut
import Derived.Deep.CutBlock
import Derived.BigRegion
import Derived.BigQuiet
import Derived.WalkMore
namespace Go.Proofs.Ytdngjpbefcbodaa
open Go.RowKit

instance : DecidableEq GO := fun a b => decidable_of_iff (a.kind = b.kind ∧ a.part = b.part ∧ a.fn = b.fn ∧ a.arg = b.arg ∧ a.ins = b.ins) (by cases a; cases b; simp)
theorem below_drewN {n : Nat} {A B : World} (h : Below n A B) (k : Nat) : Below n A (B.drewN k) := ⟨h.os, h.tape, h.output, h.size, h.block⟩
theorem eq_of_all {α : Type} [Inhabited α] {xs ys : List α} (hl : xs.length = ys.length) (h : ∀ i, i < xs.length → xs[i]! = ys[i]!) : xs = ys := by
  refine List.ext_getElem hl (fun i h1 h2 => ?_)
  have := h i h1
  rw [getElem!_pos xs i h1, getElem!_pos ys i h2] at this
  exact this
theorem ne_of_at {α : Type} [Inhabited α] {xs ys : List α} {i : Nat} (h : xs[i]! ≠ ys[i]!) : xs ≠ ys := fun e => h (by rw [e])
theorem ne_of_len {α : Type} {xs ys : List α} (h : xs.length ≠ ys.length) : xs ≠ ys := fun e => h (by rw [e])

set_option maxRecDepth 100000 in
set_option maxHeartbeats 4000000 in
theorem eqed_any {W : World} {p1 p2 : Option Addr} {c1 c2 n1 n2 : Nat} {xs ys : List GE} (h1 : ERow W p1 c1 xs) (h2 : ERow W p2 c2 ys) (hn1 : xs.length = n1) (hn2 : ys.length = n2) {rb : Bool} (hrb : decide (xs = ys) = rb) :
    Calls Try.prog 54 #[.slice p1 n1 c1, .slice p2 n2 c2] W fun e w' => e = .returned (.bool rb) ∧ Below W.heap.size W w' := by
  have i1 := h1.le
  have i2 := h1.top
  have i3 := h2.le
  have i4 := h2.top
  rw [hn1] at i1
  rw [hn2] at i3
  have H1 := hide h1
  have H2 := hide h2
  have HN1 := hide hn1
  have HN2 := hide hn2
  have HRB := hide hrb
  clear h1 h2 hn1 hn2 hrb
  by_cases hl : n1 = n2
  rotate_left
  · have hne : ((n1 : Int) != (n2 : Int)) = true := by simp; omega
    have hf : rb = false := by rw [← HRB.out]; exact decide_eq_false (ne_of_len (by rw [HN1.out, HN2.out]; exact hl))
    subst hf
    clear hl
    go_enter Try.func54, Try.ntmps54
    go_wp2
    go_ret
    exact ⟨rfl, Below.refl _ _⟩
  subst hl
  go_enter Try.func54, Try.ntmps54
  go_wp2_with fail
  go_loopw [13] (fun i wr => ∃ k : Nat, k ≤ n1 ∧ i = .int .i64 (k : Int) ∧ Hid (∀ i, i < k → xs[i]! = ys[i]!) ∧ Hid (Below W.heap.size W wr)) (fun i _ => n1 - (intOf i).toNat)
  case atStart => exact ⟨0, Nat.zero_le _, rfl, hide (fun i hi => absurd hi (Nat.not_lt_zero i)), hide (Below.refl _ _)⟩
  case round =>
    obtain ⟨k, hk, rfl, HA, HB⟩ := hrel
    rename World => wr
    by_cases hlt : k < n1
    · have hlt1 : k < xs.length := by rw [HN1.out]; exact hlt
      have hlt2 : k < ys.length := by rw [HN2.out]; exact hlt
      obtain ⟨g1, o1, rfl, a0, a1⟩ := (H1.out.below HB.out).cell k hlt1
      obtain ⟨g2, o2, rfl, b0, b1⟩ := (H2.out.below HB.out).cell k hlt2
      obtain ⟨⟨f1, q1⟩, hx⟩ : ∃ x, xs[k]! = x := ⟨_, rfl⟩
      obtain ⟨⟨f2, q2⟩, hy⟩ : ∃ x, ys[k]! = x := ⟨_, rfl⟩
      rw [hx] at a0 a1
      rw [hy] at b0 b1
      simp only at a0 a1 b0 b1
      by_cases hf : f1 = f2
      · by_cases hq : q1 = q2
        · subst hf hq
          have HA2 : Hid (∀ i, i < k + 1 → xs[i]! = ys[i]!) := hide (fun i hi => by
            rcases Nat.lt_succ_iff_lt_or_eq.1 hi with h | rfl
            · exact HA.out i h
            · rw [hx, hy])
          clear hx hy hlt1 hlt2
          go_upto_region 6 with fail
          go_big_quiet (fail)
          go_wp2
          exact ⟨⟨k + 1, by omega, by first | rfl | go_num, HA2, hide (below_drewN HB.out _)⟩, by simp [intOf]; omega⟩
        · subst hf
          have hr : rb = false := by rw [← HRB.out]; exact decide_eq_false (ne_of_at (i := k) (by rw [hx, hy]; simpa using hq))
          subst hr
          have e1 := ne_eq hq
          have HB2 := hide (fun n => below_drewN HB.out n)
          clear hx hy hlt1 hlt2 hq
          go_upto_region 6 with fail
          go_big_quiet (fail)
          go_wp2
          go_ret
          exact ⟨rfl, HB2.out _⟩
      · have hr : rb = false := by rw [← HRB.out]; exact decide_eq_false (ne_of_at (i := k) (by rw [hx, hy]; intro h; simp only [GE.mk.injEq] at h; exact hf h.1))
        subst hr
        have e1 := ne_eq hf
        have HB2 := hide (fun n => below_drewN HB.out n)
        clear hx hy hlt1 hlt2 hf
        go_upto_region 6 with fail
        go_big_quiet (fail)
        go_wp2
        go_ret
        exact ⟨rfl, HB2.out _⟩
    · obtain rfl : k = n1 := by omega
      have hr : rb = true := by rw [← HRB.out]; exact decide_eq_true (eq_of_all (by rw [HN1.out, HN2.out]) (by rw [HN1.out]; exact HA.out))
      subst hr
      go_wp2
      go_ret
      exact ⟨rfl, HB.out⟩

set_option maxRecDepth 100000 in
set_option maxHeartbeats 4000000 in
theorem sameOp_any {W : World} {k1 p1 f1 a1 k2 p2 f2 a2 : Int} {xs ys : List GE} {q1 q2 : Option Addr} {c1 c2 n1 n2 : Nat} (h1 : ERow W q1 c1 xs) (h2 : ERow W q2 c2 ys) (hn1 : xs.length = n1) (hn2 : ys.length = n2) {rb : Bool} (hrb : decide ((⟨k1, p1, f1, a1, xs⟩ : GO) = ⟨k2, p2, f2, a2, ys⟩) = rb) :
    Calls Try.prog 31 #[.agg #[.int .i64 k1, .int .i64 p1, .int .i64 f1, .int .i64 a1, .slice q1 n1 c1], .agg #[.int .i64 k2, .int .i64 p2, .int .i64 f2, .int .i64 a2, .slice q2 n2 c2]] W fun e w' => e = .returned (.bool rb) ∧ Below W.heap.size W w' := by
  have hb : Below W.heap.size W ((W.alloc (.cells #[.int .i64 k1, .int .i64 p1, .int .i64 f1, .int .i64 a1, .slice q1 n1 c1] 38 (0, 0))).alloc (.cells #[.int .i64 k2, .int .i64 p2, .int .i64 f2, .int .i64 a2, .slice q2 n2 c2] 38 (0, 0))) := (alloc_below _ _).trans ((alloc_below _ _).mono (alloc_below _ _).size)
  have HB := hide hb
  have HRB := hide hrb
  simp only [GO.mk.injEq] at HRB
  by_cases hk : k1 = k2
  · by_cases hp : p1 = p2
    · by_cases hf : f1 = f2
      · by_cases ha : a1 = a2
        · subst hk hp hf ha
          have HC := hide (eqed_any (h1.below hb) (h2.below hb) hn1 hn2 (rb := rb) (by rw [← HRB.out]; simp))
          clear h1 h2 hb hrb HRB
          go_enter Try.func31, Try.ntmps31
          go_wp2_with fail
          refine HC.out.mono ?_
          rintro _ w1 ⟨rfl, b1⟩
          have HB1 := hide (HB.out.trans (b1.mono HB.out.size))
          clear b1
          go_wp2
          go_ret
          exact ⟨rfl, HB1.out⟩
        · subst hk hp hf
          have hr : rb = false := by rw [← HRB.out]; simp [ha]
          have e1 := ne_eq ha
          subst hr
          clear h1 h2 hb hrb HRB ha
          go_enter Try.func31, Try.ntmps31
          go_wp2
          go_ret
          exact ⟨rfl, HB.out⟩
      · subst hk hp
        have hr : rb = false := by rw [← HRB.out]; simp [hf]
        have e1 := ne_eq hf
        subst hr
        clear h1 h2 hb hrb HRB hf
        go_enter Try.func31, Try.ntmps31
        go_wp2
        go_ret
        exact ⟨rfl, HB.out⟩
    · subst hk
      have hr : rb = false := by rw [← HRB.out]; simp [hp]
      have e1 := ne_eq hp
      subst hr
      clear h1 h2 hb hrb HRB hp
      go_enter Try.func31, Try.ntmps31
      go_wp2
      go_ret
      exact ⟨rfl, HB.out⟩
  · have hr : rb = false := by rw [← HRB.out]; simp [hk]
    have e1 := ne_eq hk
    subst hr
    clear h1 h2 hb hrb HRB hk
    go_enter Try.func31, Try.ntmps31
    go_wp2
    go_ret
    exact ⟨rfl, HB.out⟩

set_option maxRecDepth 100000 in
set_option maxHeartbeats 4000000 in
theorem eqops_any {W : World} {p1 p2 : Option Addr} {c1 c2 n1 n2 : Nat} {xs ys : List OV} (h1 : GRow W p1 c1 xs) (h2 : GRow W p2 c2 ys) (hn1 : xs.length = n1) (hn2 : ys.length = n2) {rb : Bool} (hrb : decide (xs.map OV.o = ys.map OV.o) = rb) :
    Calls Try.prog 30 #[.slice p1 n1 c1, .slice p2 n2 c2, .func (.func 31) #[] #[]] W fun e w' => e = .returned (.bool rb) ∧ Below W.heap.size W w' := by
  have i1 := h1.le
  have i2 := h1.top
  have i3 := h2.le
  have i4 := h2.top
  rw [hn1] at i1
  rw [hn2] at i3
  have H1 := hide h1
  have H2 := hide h2
  have HN1 := hide hn1
  have HN2 := hide hn2
  have HRB := hide hrb
  clear h1 h2 hn1 hn2 hrb
  by_cases hl : n1 = n2
  rotate_left
  · have hne : ((n1 : Int) != (n2 : Int)) = true := by simp; omega
    have hf : rb = false := by rw [← HRB.out]; exact decide_eq_false (ne_of_len (by rw [List.length_map, List.length_map, HN1.out, HN2.out]; exact hl))
    subst hf
    clear hl
    go_enter Try.func30, Try.ntmps30
    go_wp2
    go_ret
    exact ⟨rfl, Below.refl _ _⟩
  subst hl
  go_enter Try.func30, Try.ntmps30
  go_wp2_with fail
  go_loopw [17] (fun i wr => ∃ k : Nat, k ≤ n1 ∧ i = .int .i64 (k : Int) ∧ Hid (∀ i, i < k → (xs.map OV.o)[i]! = (ys.map OV.o)[i]!) ∧ Hid (Below W.heap.size W wr)) (fun i _ => n1 - (intOf i).toNat)
  case atStart => exact ⟨0, Nat.zero_le _, rfl, hide (fun i hi => absurd hi (Nat.not_lt_zero i)), hide (Below.refl _ _)⟩
  case round =>
    obtain ⟨k, hk, rfl, HA, HB⟩ := hrel
    rename World => wr
    by_cases hlt : k < n1
    · have hlt1 : k < xs.length := by rw [HN1.out]; exact hlt
      have hlt2 : k < ys.length := by rw [HN2.out]; exact hlt
      obtain ⟨g1, o1, rfl, hc1⟩ := (H1.out.below HB.out).cell k hlt1
      obtain ⟨g2, o2, rfl, hc2⟩ := (H2.out.below HB.out).cell k hlt2
      have hm1 : xs[k]! ∈ xs := by rw [getElem!_pos xs k hlt1]; exact List.getElem_mem _
      have hm2 : ys[k]! ∈ ys := by rw [getElem!_pos ys k hlt2]; exact List.getElem_mem _
      have e1 := (H1.out.below HB.out).ok _ hm1
      have e2 := (H2.out.below HB.out).ok _ hm2
      have HX := hide (getO xs hlt1)
      have HY := hide (getO ys hlt2)
      obtain ⟨x, hx⟩ : ∃ x, xs[k]! = x := ⟨_, rfl⟩
      obtain ⟨y, hy⟩ : ∃ x, ys[k]! = x := ⟨_, rfl⟩
      rw [hx] at hc1 HX e1
      rw [hy] at hc2 HY e2
      obtain ⟨⟨kd1, pt1, fn1, ar1, in1⟩, ip1, ic1⟩ := x
      obtain ⟨⟨kd2, pt2, fn2, ar2, in2⟩, ip2, ic2⟩ := y
      obtain ⟨l1, hl1⟩ : ∃ l, in1.length = l := ⟨_, rfl⟩
      obtain ⟨l2, hl2⟩ : ∃ l, in2.length = l := ⟨_, rfl⟩
      have a0 : wr.cell? ⟨g1, o1 + k * 5, none⟩ = some (.int .i64 kd1) := hc1 0 (by omega)
      have a1 : wr.cell? ⟨g1, o1 + k * 5 + 1, none⟩ = some (.int .i64 pt1) := hc1 1 (by omega)
      have a2 : wr.cell? ⟨g1, o1 + k * 5 + 2, none⟩ = some (.int .i64 fn1) := hc1 2 (by omega)
      have a3 : wr.cell? ⟨g1, o1 + k * 5 + 3, none⟩ = some (.int .i64 ar1) := hc1 3 (by omega)
      have a4 : wr.cell? ⟨g1, o1 + k * 5 + 4, none⟩ = some (.slice ip1 l1 ic1) := by rw [← hl1]; exact hc1 4 (by omega)
      have hw1 : Below wr.heap.size wr (wr.alloc (.cells #[.int .i64 kd1, .int .i64 pt1, .int .i64 fn1, .int .i64 ar1, .slice ip1 l1 ic1] 38 (0, 0))) := alloc_below _ _
      have hw2 : Below wr.heap.size wr ((wr.alloc (.cells #[.int .i64 kd1, .int .i64 pt1, .int .i64 fn1, .int .i64 ar1, .slice ip1 l1 ic1] 38 (0, 0))).alloc (.cells #[.int .i64 kd2, .int .i64 pt2, .int .i64 fn2, .int .i64 ar2, .slice ip2 l2 ic2] 38 (0, 0))) := hw1.trans ((alloc_below _ _).mono hw1.size)
      have b0 := cell_later hw1 (v := .int .i64 kd2) (hc2 0 (by omega))
      have b1 := cell_later hw1 (v := .int .i64 pt2) (hc2 1 (by omega))
      have b2 := cell_later hw1 (v := .int .i64 fn2) (hc2 2 (by omega))
      have b3 := cell_later hw1 (v := .int .i64 ar2) (hc2 3 (by omega))
      have b4 := cell_later hw1 (v := .slice ip2 l2 ic2) (by rw [← hl2]; exact hc2 4 (by omega))
      simp only [Nat.add_zero] at b0
      obtain ⟨r2, hr2⟩ : ∃ r, decide ((⟨kd1, pt1, fn1, ar1, in1⟩ : GO) = ⟨kd2, pt2, fn2, ar2, in2⟩) = r := ⟨_, rfl⟩
      have HC := hide (sameOp_any (ERow.below e1 hw2) (ERow.below e2 hw2) hl1 hl2 hr2)
      have HW2 := hide (HB.out.trans (hw2.mono HB.out.size))
      have HR2 := hide hr2
      clear hx hy hlt1 hlt2 hc1 hc2 hm1 hm2 e1 e2 hl1 hl2 hr2 hw1 hw2
      go_wp2_with fail
      refine HC.out.mono ?_
      rintro _ w1 ⟨rfl, b1'⟩
      have HB1 := hide (HW2.out.trans (b1'.mono HW2.out.size))
      clear b1' HC HW2 a0 a1 a2 a3 a4 b0 b1 b2 b3 b4
      cases r2 with
      | true =>
        have HA2 : Hid (∀ i, i < k + 1 → (xs.map OV.o)[i]! = (ys.map OV.o)[i]!) := hide (fun i hi => by
          rcases Nat.lt_succ_iff_lt_or_eq.1 hi with h | rfl
          · exact HA.out i h
          · rw [HX.out, HY.out]; exact of_decide_eq_true HR2.out)
        go_wp2
        exact ⟨⟨k + 1, by omega, by first | rfl | go_num, HA2, HB1⟩, by simp [intOf]; omega⟩
      | false =>
        have hr : rb = false := by rw [← HRB.out]; exact decide_eq_false (ne_of_at (i := k) (by rw [HX.out, HY.out]; exact of_decide_eq_false HR2.out))
        subst hr
        go_wp2
        go_ret
        exact ⟨rfl, HB1.out⟩
    · obtain rfl : k = n1 := by omega
      have hr : rb = true := by rw [← HRB.out]; exact decide_eq_true (eq_of_all (by rw [List.length_map, List.length_map, HN1.out, HN2.out]) (by rw [List.length_map, HN1.out]; exact HA.out))
      subst hr
      go_wp2
      go_ret
      exact ⟨rfl, HB.out⟩

set_option maxRecDepth 100000 in
set_option maxHeartbeats 4000000 in
theorem gsame_any {W : World} {pa pb : Int} {p1 p2 : Option Addr} {c1 c2 n1 n2 : Nat} {xs ys : List OV} (h1 : GRow W p1 c1 xs) (h2 : GRow W p2 c2 ys) (hn1 : xs.length = n1) (hn2 : ys.length = n2) {rb : Bool} (hrb : decide (pa = pb ∧ xs.map OV.o = ys.map OV.o) = rb) :
    Calls Try.prog 12 #[.agg #[.int .i64 pa, .slice p1 n1 c1], .agg #[.int .i64 pb, .slice p2 n2 c2]] W fun e w' => e = .returned (.bool rb) ∧ Below W.heap.size W w' := by
  have hb : Below W.heap.size W ((W.alloc (.cells #[.int .i64 pa, .slice p1 n1 c1] 24 (0, 0))).alloc (.cells #[.int .i64 pb, .slice p2 n2 c2] 24 (0, 0))) := (alloc_below _ _).trans ((alloc_below _ _).mono (alloc_below _ _).size)
  have HB := hide hb
  by_cases hp : pa = pb
  · subst hp
    have HC := hide (eqops_any (h1.below hb) (h2.below hb) hn1 hn2 (rb := rb) (by rw [← hrb]; simp))
    clear h1 h2 hb hrb
    go_enter Try.func12, Try.ntmps12
    go_wp2_with fail
    refine HC.out.mono ?_
    rintro _ w1 ⟨rfl, b1⟩
    have HB1 := hide (HB.out.trans (b1.mono HB.out.size))
    clear b1
    go_wp2
    go_ret
    exact ⟨rfl, HB1.out⟩
  · have hr : rb = false := by rw [← hrb]; simp [hp]
    have e1 := ne_eq hp
    subst hr
    clear h1 h2 hb hrb hp
    go_enter Try.func12, Try.ntmps12
    go_wp2
    go_ret
    exact ⟨rfl, HB.out⟩
end Go.Proofs.Ytdngjpbefcbodaa
