/-
  slices.Equal of two lists of numbers, of records, of what keys keep, in both answers. The conditions: that the lists lie there.
-/
import Derived.Test.YtlfipmieaabagaaGreatSse
import Derived.Deep.CutRange
namespace Go.Proofs.YtlfipmieaabagaaGreat
open Go.RowKit Go.Shelf

theorem ne_ne8 {a b : Int} (h : a ≠ b) : (a != b) = true := by simpa using h
set_option maxRecDepth 100000 in
set_option maxHeartbeats 4000000 in
theorem eqnum_all {W : World} {p1 p2 : Option Addr} {c1 c2 L M : Nat} {es fs : List Int} (h1 : NRow W p1 c1 es) (h2 : NRow W p2 c2 fs) (hL : es.length = L) (hM : fs.length = M) {rb : Bool} (hrb : decide (es = fs) = rb) :
    Calls Tryz.prog 32 #[.slice p1 L c1, .slice p2 M c2] W fun e w' => e = .returned (.bool rb) ∧ Below W.heap.size W w' := by
  have i1 := h1.le
  have i2 := h1.top
  have i3 := h2.le
  have i4 := h2.top
  rw [hL] at i1
  rw [hM] at i3
  by_cases hLM : L = M
  · subst hLM
    have H1 := hide h1
    have H2 := hide h2
    have HL := hide hL
    have HM := hide hM
    have HRB := hide hrb
    clear h1 h2 hL hM hrb
    go_enter Tryz.func32, Tryz.ntmps32
    go_wp2_with fail
    go_loopw [13] (fun i wr => ∃ k : Nat, k ≤ L ∧ i = .int .i64 (k : Int) ∧ Hid (es.take k = fs.take k) ∧ Hid (Below W.heap.size W wr)) (fun i _ => L - (intOf i).toNat)
    case atStart => exact ⟨0, Nat.zero_le _, rfl, hide rfl, hide (Below.refl _ _)⟩
    case round =>
      obtain ⟨k, hk, rfl, HT, HB⟩ := hrel
      rename World => wr
      by_cases hlt : k < L
      · have hlt2 : k < es.length := by rw [HL.out]; exact hlt
        have hlt3 : k < fs.length := by rw [HM.out]; exact hlt
        obtain ⟨x, hx⟩ : ∃ x, es[k]! = x := ⟨_, rfl⟩
        obtain ⟨y, hy⟩ : ∃ y, fs[k]! = y := ⟨_, rfl⟩
        obtain ⟨g1, o1, rfl, a0⟩ := NRow.at (NRow.later H1.out HB.out) hlt2 hx
        obtain ⟨g2, o2, rfl, b0⟩ := NRow.at (NRow.later H2.out HB.out) hlt3 hy
        have HTS := hide (take_same HT.out hlt2 hlt3 hx hy)
        have HX := hide hx
        have HY := hide hy
        clear hx hy hlt2 hlt3
        by_cases he : x = y
        · subst he
          have HT2 := hide (HTS.out.2 rfl)
          go_upto_region 6 with fail
          go_big_quiet (fail)
          go_wp2
          exact ⟨⟨k + 1, by omega, by first | rfl | go_num, HT2, hide (below_drewN HB.out _)⟩, by simp [intOf]; omega⟩
        · have HF : Hid (false = rb) := hide (by
            rw [← HRB.out]
            symm
            apply decide_eq_false
            intro h9
            subst h9
            exact he (HX.out.symm.trans HY.out))
          have e1 := ne_eq he
          have e2 := ne_ne8 he
          clear he
          go_upto_region 6 with fail
          go_big_quiet (fail)
          go_wp2
          go_ret
          exact ⟨by rw [HF.out]; rfl, below_drewN HB.out _⟩
      · obtain rfl : k = L := by omega
        have HF : Hid (true = rb) := hide (by
          rw [← HRB.out]
          symm
          apply decide_eq_true
          have h9 := HT.out
          rw [List.take_of_length_le (by rw [HL.out]; exact Nat.le_refl _), List.take_of_length_le (by rw [HM.out]; exact Nat.le_refl _)] at h9
          exact h9)
        go_wp2
        go_ret
        exact ⟨by rw [HF.out]; rfl, HB.out⟩
  · have e2 : ((L : Int) == (M : Int)) = false := ne_eq (fun h => hLM (by omega))
    have e3 : ((L : Int) != (M : Int)) = true := ne_ne8 (fun h => hLM (by omega))
    have HF : Hid (false = rb) := hide (by
      rw [← hrb]
      symm
      apply decide_eq_false
      intro h9
      subst h9
      exact hLM (hL.symm.trans hM))
    clear h1 h2 hL hM hrb hLM
    go_enter Tryz.func32, Tryz.ntmps32
    go_wp2
    go_ret
    exact ⟨by rw [HF.out]; rfl, Below.refl _ _⟩
set_option maxRecDepth 100000 in
set_option maxHeartbeats 4000000 in
theorem eqrec_all {W : World} {p1 p2 : Option Addr} {c1 c2 L M : Nat} {es fs : List RC} (h1 : RRow W p1 c1 es) (h2 : RRow W p2 c2 fs) (hL : es.length = L) (hM : fs.length = M) {rb : Bool} (hrb : decide (es = fs) = rb) :
    Calls Tryz.prog 63 #[.slice p1 L c1, .slice p2 M c2] W fun e w' => e = .returned (.bool rb) ∧ Below W.heap.size W w' := by
  have i1 := h1.le
  have i2 := h1.top
  have i3 := h2.le
  have i4 := h2.top
  rw [hL] at i1
  rw [hM] at i3
  by_cases hLM : L = M
  · subst hLM
    have H1 := hide h1
    have H2 := hide h2
    have HL := hide hL
    have HM := hide hM
    have HRB := hide hrb
    clear h1 h2 hL hM hrb
    go_enter Tryz.func63, Tryz.ntmps63
    go_wp2_with fail
    go_loopw [13] (fun i wr => ∃ k : Nat, k ≤ L ∧ i = .int .i64 (k : Int) ∧ Hid (es.take k = fs.take k) ∧ Hid (Below W.heap.size W wr)) (fun i _ => L - (intOf i).toNat)
    case atStart => exact ⟨0, Nat.zero_le _, rfl, hide rfl, hide (Below.refl _ _)⟩
    case round =>
      obtain ⟨k, hk, rfl, HT, HB⟩ := hrel
      rename World => wr
      by_cases hlt : k < L
      · have hlt2 : k < es.length := by rw [HL.out]; exact hlt
        have hlt3 : k < fs.length := by rw [HM.out]; exact hlt
        obtain ⟨x, hx⟩ : ∃ x, es[k]! = x := ⟨_, rfl⟩
        obtain ⟨y, hy⟩ : ∃ y, fs[k]! = y := ⟨_, rfl⟩
        obtain ⟨g1, o1, rfl, a0, a1⟩ := RRow.at (RRow.later H1.out HB.out) hlt2 hx
        obtain ⟨g2, o2, rfl, b0, b1⟩ := RRow.at (RRow.later H2.out HB.out) hlt3 hy
        have HTS := hide (take_same HT.out hlt2 hlt3 hx hy)
        have HX := hide hx
        have HY := hide hy
        obtain ⟨x0, x1⟩ := x
        obtain ⟨y0, y1⟩ := y
        simp only at a0 b0 a1 b1
        clear hx hy hlt2 hlt3
        by_cases he : x0 = y0 ∧ x1 = y1
        · obtain ⟨rfl, rfl⟩ := he
          have HT2 := hide (HTS.out.2 rfl)
          go_upto_region 6 with fail
          go_big_quiet (fail)
          go_wp2
          exact ⟨⟨k + 1, by omega, by first | rfl | go_num, HT2, hide (below_drewN HB.out _)⟩, by simp [intOf]; omega⟩
        · have HF : Hid (false = rb) := hide (by
            rw [← HRB.out]
            symm
            apply decide_eq_false
            intro h9
            subst h9
            have h8 := HX.out.symm.trans HY.out
            simp only [RC.mk.injEq] at h8
            exact he h8)
          by_cases h0 : x0 = y0
          · subst h0
            have e1 := ne_eq (fun h : x1 = y1 => he ⟨rfl, h⟩)
            clear he
            go_upto_region 6 with fail
            go_big_quiet (fail)
            go_wp2
            go_ret
            exact ⟨by rw [HF.out]; rfl, below_drewN HB.out _⟩
          · have e1 := ne_eq h0
            clear he
            go_upto_region 6 with fail
            go_big_quiet (fail)
            go_wp2
            go_ret
            exact ⟨by rw [HF.out]; rfl, below_drewN HB.out _⟩
      · obtain rfl : k = L := by omega
        have HF : Hid (true = rb) := hide (by
          rw [← HRB.out]
          symm
          apply decide_eq_true
          have h9 := HT.out
          rw [List.take_of_length_le (by rw [HL.out]; exact Nat.le_refl _), List.take_of_length_le (by rw [HM.out]; exact Nat.le_refl _)] at h9
          exact h9)
        go_wp2
        go_ret
        exact ⟨by rw [HF.out]; rfl, HB.out⟩
  · have e2 : ((L : Int) == (M : Int)) = false := ne_eq (fun h => hLM (by omega))
    have e3 : ((L : Int) != (M : Int)) = true := ne_ne8 (fun h => hLM (by omega))
    have HF : Hid (false = rb) := hide (by
      rw [← hrb]
      symm
      apply decide_eq_false
      intro h9
      subst h9
      exact hLM (hL.symm.trans hM))
    clear h1 h2 hL hM hrb hLM
    go_enter Tryz.func63, Tryz.ntmps63
    go_wp2
    go_ret
    exact ⟨by rw [HF.out]; rfl, Below.refl _ _⟩
set_option maxRecDepth 100000 in
set_option maxHeartbeats 4000000 in
theorem eqks_all {W : World} {p1 p2 : Option Addr} {c1 c2 L M : Nat} {es fs : List Op.KS} (h1 : Op.KRow W p1 c1 es) (h2 : Op.KRow W p2 c2 fs) (hL : es.length = L) (hM : fs.length = M) {rb : Bool} (hrb : decide (es = fs) = rb) :
    Calls Tryz.prog 61 #[.slice p1 L c1, .slice p2 M c2] W fun e w' => e = .returned (.bool rb) ∧ Below W.heap.size W w' := by
  have i1 := h1.1
  have i2 := h1.2.1
  have i3 := h2.1
  have i4 := h2.2.1
  rw [hL] at i1
  rw [hM] at i3
  by_cases hLM : L = M
  · subst hLM
    have H1 := hide h1
    have H2 := hide h2
    have HL := hide hL
    have HM := hide hM
    have HRB := hide hrb
    clear h1 h2 hL hM hrb
    go_enter Tryz.func61, Tryz.ntmps61
    go_wp2_with fail
    go_loopw [13] (fun i wr => ∃ k : Nat, k ≤ L ∧ i = .int .i64 (k : Int) ∧ Hid (es.take k = fs.take k) ∧ Hid (Below W.heap.size W wr)) (fun i _ => L - (intOf i).toNat)
    case atStart => exact ⟨0, Nat.zero_le _, rfl, hide rfl, hide (Below.refl _ _)⟩
    case round =>
      obtain ⟨k, hk, rfl, HT, HB⟩ := hrel
      rename World => wr
      by_cases hlt : k < L
      · have hlt2 : k < es.length := by rw [HL.out]; exact hlt
        have hlt3 : k < fs.length := by rw [HM.out]; exact hlt
        obtain ⟨x, hx⟩ : ∃ x, es[k]! = x := ⟨_, rfl⟩
        obtain ⟨y, hy⟩ : ∃ y, fs[k]! = y := ⟨_, rfl⟩
        obtain ⟨g1, o1, rfl, a0, a1, a2⟩ := krow_at (Op.KRow.later H1.out HB.out) hlt2 hx
        obtain ⟨g2, o2, rfl, b0, b1, b2⟩ := krow_at (Op.KRow.later H2.out HB.out) hlt3 hy
        have HTS := hide (take_same HT.out hlt2 hlt3 hx hy)
        have HX := hide hx
        have HY := hide hy
        obtain ⟨x0, x1, x2⟩ := x
        obtain ⟨y0, y1, y2⟩ := y
        simp only at a0 b0 a1 b1 a2 b2
        clear hx hy hlt2 hlt3
        by_cases he : x0 = y0 ∧ x1 = y1 ∧ x2 = y2
        · obtain ⟨rfl, rfl, rfl⟩ := he
          have HT2 := hide (HTS.out.2 rfl)
          go_upto_region 6 with fail
          go_big_quiet (fail)
          go_wp2
          exact ⟨⟨k + 1, by omega, by first | rfl | go_num, HT2, hide (below_drewN HB.out _)⟩, by simp [intOf]; omega⟩
        · have HF : Hid (false = rb) := hide (by
            rw [← HRB.out]
            symm
            apply decide_eq_false
            intro h9
            subst h9
            have h8 := HX.out.symm.trans HY.out
            simp only [Op.KS.mk.injEq] at h8
            exact he h8)
          by_cases h0 : x0 = y0
          · subst h0
            by_cases h1 : x1 = y1
            · subst h1
              have e1 := ne_eq (fun h : x2 = y2 => he ⟨rfl, rfl, h⟩)
              clear he
              go_upto_region 6 with fail
              go_big_quiet (fail)
              go_wp2
              go_ret
              exact ⟨by rw [HF.out]; rfl, below_drewN HB.out _⟩
            · have e1 := ne_eq h1
              clear he
              go_upto_region 6 with fail
              go_big_quiet (fail)
              go_wp2
              go_ret
              exact ⟨by rw [HF.out]; rfl, below_drewN HB.out _⟩
          · have e1 := ne_eq h0
            clear he
            go_upto_region 6 with fail
            go_big_quiet (fail)
            go_wp2
            go_ret
            exact ⟨by rw [HF.out]; rfl, below_drewN HB.out _⟩
      · obtain rfl : k = L := by omega
        have HF : Hid (true = rb) := hide (by
          rw [← HRB.out]
          symm
          apply decide_eq_true
          have h9 := HT.out
          rw [List.take_of_length_le (by rw [HL.out]; exact Nat.le_refl _), List.take_of_length_le (by rw [HM.out]; exact Nat.le_refl _)] at h9
          exact h9)
        go_wp2
        go_ret
        exact ⟨by rw [HF.out]; rfl, HB.out⟩
  · have e2 : ((L : Int) == (M : Int)) = false := ne_eq (fun h => hLM (by omega))
    have e3 : ((L : Int) != (M : Int)) = true := ne_ne8 (fun h => hLM (by omega))
    have HF : Hid (false = rb) := hide (by
      rw [← hrb]
      symm
      apply decide_eq_false
      intro h9
      subst h9
      exact hLM (hL.symm.trans hM))
    clear h1 h2 hL hM hrb hLM
    go_enter Tryz.func61, Tryz.ntmps61
    go_wp2
    go_ret
    exact ⟨by rw [HF.out]; rfl, Below.refl _ _⟩
end Go.Proofs.YtlfipmieaabagaaGreat

/-
  Same of package snap, in both answers: slices.EqualFunc of lists of records, sameTask, slices.EqualFunc of tasks. The conditions: that the states lie there.
-/
namespace Go.Proofs.YtlfipmieaabagaaGreat
open Go.RowKit Go.Shelf

set_option maxRecDepth 100000 in
set_option maxHeartbeats 4000000 in
theorem eqlists_all {W : World} {p1 p2 : Option Addr} {c1 c2 L M : Nat} {xs ys : List SV} (h1 : LL W p1 c1 xs) (h2 : LL W p2 c2 ys) (hL : xs.length = L) (hM : ys.length = M) {rb : Bool} (hrb : decide (xs.map SV.rs = ys.map SV.rs) = rb) :
    Calls Tryz.prog 62 #[.slice p1 L c1, .slice p2 M c2, .func (.func 63) #[] #[]] W fun e w' => e = .returned (.bool rb) ∧ Below W.heap.size W w' := by
  have i1 := h1.row.le
  have i2 := h1.row.top
  have i3 := h2.row.le
  have i4 := h2.row.top
  rw [hL] at i1
  rw [hM] at i3
  by_cases hLM : L = M
  · subst hLM
    have H1 := hide h1
    have H2 := hide h2
    have HL := hide hL
    have HM := hide hM
    have HRB := hide hrb
    clear h1 h2 hL hM hrb
    go_enter Tryz.func62, Tryz.ntmps62
    go_wp2_with fail
    go_loopw [17] (fun i wr => ∃ k : Nat, k ≤ L ∧ i = .int .i64 (k : Int) ∧ Hid ((xs.map SV.rs).take k = (ys.map SV.rs).take k) ∧ Hid (Below W.heap.size W wr)) (fun i _ => L - (intOf i).toNat)
    case atStart => exact ⟨0, Nat.zero_le _, rfl, hide rfl, hide (Below.refl _ _)⟩
    case round =>
      obtain ⟨k, hk, rfl, HT, HB⟩ := hrel
      rename World => wr
      by_cases hlt : k < L
      · have hlt2 : k < xs.length := by rw [HL.out]; exact hlt
        have hlt3 : k < ys.length := by rw [HM.out]; exact hlt
        obtain ⟨x, hx⟩ : ∃ x, xs[k]! = x := ⟨_, rfl⟩
        obtain ⟨y, hy⟩ : ∃ y, ys[k]! = y := ⟨_, rfl⟩
        have hxm : x ∈ xs := by rw [← hx, getElem!_pos xs k hlt2]; exact List.getElem_mem _
        have hym : y ∈ ys := by rw [← hy, getElem!_pos ys k hlt3]; exact List.getElem_mem _
        obtain ⟨xq, hxq⟩ : ∃ q, SV.rs x = q := ⟨_, rfl⟩
        obtain ⟨yq, hyq⟩ : ∃ q, SV.rs y = q := ⟨_, rfl⟩
        have HX : Hid ((xs.map SV.rs)[k]? = some xq) := hide (by rw [← hxq, List.getElem?_map, List.getElem?_eq_getElem hlt2, ← hx, getElem!_pos xs k hlt2]; rfl)
        have HY : Hid ((ys.map SV.rs)[k]? = some yq) := hide (by rw [← hyq, List.getElem?_map, List.getElem?_eq_getElem hlt3, ← hy, getElem!_pos ys k hlt3]; rfl)
        have hok1 := (H1.out.later HB.out).ok x hxm
        have hok2 := (H2.out.later HB.out).ok y hym
        obtain ⟨rb1, hrb1⟩ : ∃ rb1, decide (SV.rs x = SV.rs y) = rb1 := ⟨_, rfl⟩
        have HR1 : Hid (decide (xq = yq) = rb1) := hide (by rw [← hxq, ← hyq]; exact hrb1)
        clear hxq hyq
        obtain ⟨g1, o1, rfl, a0⟩ := (H1.out.later HB.out).at (i := k) (by rw [HL.out]; exact hlt)
        obtain ⟨g2, o2, rfl, b0⟩ := (H2.out.later HB.out).at (i := k) (by rw [HM.out]; exact hlt)
        rw [hx] at a0
        rw [hy] at b0
        obtain ⟨rs, xp, xc⟩ := x
        obtain ⟨ss, yp, yc⟩ := y
        simp only at a0 b0 hrb1
        obtain ⟨A, hA⟩ : ∃ A, rs.length = A := ⟨_, rfl⟩
        obtain ⟨D, hD⟩ : ∃ D, ss.length = D := ⟨_, rfl⟩
        rw [hA] at a0
        rw [hD] at b0
        have HC := hide (eqrec_all (W := wr) hok1 hok2 hA hD hrb1)
        clear hA hD
        clear hx hy hxm hym hlt2 hlt3 hok1 hok2 hrb1
        go_wp2_with fail
        refine HC.out.mono ?_
        rintro _ w2 ⟨rfl, b2⟩
        have HB9 := hide (HB.out.trans (b2.mono HB.out.size))
        clear b2 a0 b0
        cases rb1 with
        | true =>
          have HT2 : Hid ((xs.map SV.rs).take (k + 1) = (ys.map SV.rs).take (k + 1)) := hide (by
            have hq : xq = yq := of_decide_eq_true HR1.out
            rw [List.take_add_one, List.take_add_one, HT.out, HX.out, HY.out, hq])
          go_wp2
          exact ⟨⟨k + 1, by omega, by first | rfl | go_num, HT2, HB9⟩, by simp [intOf]; omega⟩
        | false =>
          have HF : Hid (false = rb) := hide (by
            rw [← HRB.out]
            symm
            apply decide_eq_false
            intro h9
            have h8 := HX.out
            rw [h9, HY.out] at h8
            simp only [Option.some.injEq] at h8
            exact of_decide_eq_false HR1.out h8.symm)
          go_wp2
          go_ret
          exact ⟨by rw [HF.out]; rfl, HB9.out⟩
      · obtain rfl : k = L := by omega
        have HF : Hid (true = rb) := hide (by
          rw [← HRB.out]
          symm
          apply decide_eq_true
          have h9 := HT.out
          rw [List.take_of_length_le (by rw [List.length_map, HL.out]; exact Nat.le_refl _), List.take_of_length_le (by rw [List.length_map, HM.out]; exact Nat.le_refl _)] at h9
          exact h9)
        go_wp2
        go_ret
        exact ⟨by rw [HF.out]; rfl, HB.out⟩
  · have e2 : ((L : Int) == (M : Int)) = false := ne_eq (fun h => hLM (by omega))
    have e3 : ((L : Int) != (M : Int)) = true := ne_ne8 (fun h => hLM (by omega))
    have HF : Hid (false = rb) := hide (by
      rw [← hrb]
      symm
      apply decide_eq_false
      intro h9
      have h8 := congrArg List.length h9
      simp only [List.length_map] at h8
      exact hLM (by omega))
    clear h1 h2 hL hM hrb hLM
    go_enter Tryz.func62, Tryz.ntmps62
    go_wp2
    go_ret
    exact ⟨by rw [HF.out]; rfl, Below.refl _ _⟩
set_option maxRecDepth 100000 in
set_option maxHeartbeats 8000000 in
theorem psametask_all {W : World} {kp bp jp dp : Option Addr} {nk kc nb bc mk jc md dc : Nat} {tn tm : Int} {ks js : List Op.KS} {xs ys : List SV} (h1 : Op.KRow W kp kc ks) (h2 : Op.KRow W jp jc js) (h3 : LL W bp bc xs) (h4 : LL W dp dc ys) (hn1 : ks.length = nk) (hn2 : js.length = mk) (hn3 : xs.length = nb) (hn4 : ys.length = md) {rb : Bool} (hrb : decide ((⟨ks, tn, xs.map SV.rs⟩ : TP) = ⟨js, tm, ys.map SV.rs⟩) = rb) :
    Calls Tryz.prog 34 #[.agg #[.slice kp nk kc, .int .i64 tn, .slice bp nb bc], .agg #[.slice jp mk jc, .int .i64 tm, .slice dp md dc]] W fun e w' => e = .returned (.bool rb) ∧ Below W.heap.size W w' := by
  obtain ⟨V, hV⟩ : ∃ V, V = (W.alloc (.cells #[.slice kp nk kc, .int .i64 tn, .slice bp nb bc] 46 (0, 0))).alloc (.cells #[.slice jp mk jc, .int .i64 tm, .slice dp md dc] 46 (0, 0)) := ⟨_, rfl⟩
  have a1 := alloc_below W (.cells #[.slice kp nk kc, .int .i64 tn, .slice bp nb bc] 46 (0, 0))
  have a2 := alloc_below (W.alloc (.cells #[.slice kp nk kc, .int .i64 tn, .slice bp nb bc] 46 (0, 0))) (.cells #[.slice jp mk jc, .int .i64 tm, .slice dp md dc] 46 (0, 0))
  have bV : Below W.heap.size W V := by rw [hV]; exact a1.trans (a2.mono a1.size)
  obtain ⟨aB, haB⟩ : ∃ aB, W.heap.size = aB := ⟨_, rfl⟩
  obtain ⟨bB, hbB⟩ : ∃ bB, aB + 1 = bB := ⟨_, rfl⟩
  have u0 : V.heap[aB]? = some (.cells #[.slice kp nk kc, .int .i64 tn, .slice bp nb bc] 46 (0, 0)) := by rw [hV, ← haB]; exact below_box a2 (heap_alloc_new W _)
  have u1 : V.heap[bB]? = some (.cells #[.slice jp mk jc, .int .i64 tm, .slice dp md dc] 46 (0, 0)) := by
    have e : bB = (W.alloc (.cells #[.slice kp nk kc, .int .i64 tn, .slice bp nb bc] 46 (0, 0))).heap.size := by rw [← hbB, ← haB]; simp
    rw [hV, e]
    exact heap_alloc_new _ _
  obtain ⟨r1, hr1⟩ : ∃ r1, decide (ks = js) = r1 := ⟨_, rfl⟩
  obtain ⟨r2, hr2⟩ : ∃ r2, decide (xs.map SV.rs = ys.map SV.rs) = r2 := ⟨_, rfl⟩
  have HOS := hide (eqks_all (W := V) (Op.KRow.later h1 bV) (Op.KRow.later h2 bV) hn1 hn2 hr1)
  have HLS := hide (fun X (hX : Below V.heap.size V X) => eqlists_all (W := X) (h3.later (bV.trans (hX.mono bV.size))) (h4.later (bV.trans (hX.mono bV.size))) hn3 hn4 hr2)
  have hfp : ((⟨ks, tn, xs.map SV.rs⟩ : TP) = ⟨js, tm, ys.map SV.rs⟩) ↔ (tn = tm ∧ ks = js ∧ xs.map SV.rs = ys.map SV.rs) := by
    simp only [TP.mk.injEq]
    constructor
    · rintro ⟨q1, q2, q3⟩; exact ⟨q2, q1, q3⟩
    · rintro ⟨q1, q2, q3⟩; exact ⟨q2, q1, q3⟩
  have HNT : Hid (tn ≠ tm → false = rb) := hide (fun h => by rw [← hrb]; symm; exact decide_eq_false (fun e => h (hfp.1 e).1))
  have HNK : Hid (r1 = false → false = rb) := hide (fun h => by rw [← hrb]; symm; rw [← hr1] at h; exact decide_eq_false (fun e => of_decide_eq_false h (hfp.1 e).2.1))
  have HYES : Hid (tn = tm → r1 = true → r2 = rb) := hide (fun q1 q2 => by
    rw [← hr1] at q2
    have q2' := of_decide_eq_true q2
    rw [← hrb, ← hr2]
    congr 1
    rw [eq_iff_iff, hfp]
    exact ⟨fun q => ⟨q1, q2', q⟩, fun q => q.2.2⟩)
  obtain ⟨x0, x1, x2⟩ := tsBox3 u0
  obtain ⟨y0, y1, y2⟩ := tsBox3 u1
  have HBV := hide bV
  clear h1 h2 h3 h4 hn1 hn2 hn3 hn4 hrb hr1 hr2 a1 a2 bV u0 u1 hfp
  go_enter Tryz.func34, Tryz.ntmps34
  go_upto_region 1 with fail
  rw [← hV]
  try rw [haB]
  try rw [hbB]
  clear hV haB hbB
  by_cases ht : tn = tm
  · have HYES2 := hide (HYES.out ht)
    subst ht
    clear HYES HNT
    go_wp2_with fail
    refine HOS.out.mono ?_
    rintro _ w1 ⟨rfl, b1⟩
    have HB1 := hide b1
    have z2 := cell_later b1 x2
    have v2 := cell_later b1 y2
    clear b1 x0 x1 x2 y0 y1 y2
    cases r1 with
    | true =>
      have HE := HYES2.out rfl
      clear HYES2
      subst HE
      go_wp2_with fail
      refine (HLS.out _ HB1.out).mono ?_
      rintro _ w2 ⟨rfl, b2⟩
      have HB2 := hide (HBV.out.trans ((HB1.out.trans (b2.mono HB1.out.size)).mono HBV.out.size))
      clear b2
      go_wp2
      go_ret
      exact ⟨rfl, HB2.out⟩
    | false =>
      have HE := HNK.out rfl
      subst HE
      have HB2 := hide (HBV.out.trans (HB1.out.mono HBV.out.size))
      go_wp2
      go_ret
      exact ⟨rfl, HB2.out⟩
  · have HE := HNT.out ht
    subst HE
    have e1 := ne_eq ht
    clear ht
    go_wp2
    go_ret
    exact ⟨rfl, HBV.out⟩
set_option maxRecDepth 100000 in
set_option maxHeartbeats 4000000 in
theorem eqtasks_all {W : World} {p1 p2 : Option Addr} {c1 c2 L M : Nat} {xs ys : List TV} (h1 : TRow W p1 c1 xs) (h2 : TRow W p2 c2 ys) (hL : xs.length = L) (hM : ys.length = M) {rb : Bool} (hrb : decide (xs.map TV.plain = ys.map TV.plain) = rb) :
    Calls Tryz.prog 33 #[.slice p1 L c1, .slice p2 M c2, .func (.func 34) #[] #[]] W fun e w' => e = .returned (.bool rb) ∧ Below W.heap.size W w' := by
  have i1 := h1.row.le
  have i2 := h1.row.top
  have i3 := h2.row.le
  have i4 := h2.row.top
  rw [hL] at i1
  rw [hM] at i3
  by_cases hLM : L = M
  · subst hLM
    have H1 := hide h1
    have H2 := hide h2
    have HL := hide hL
    have HM := hide hM
    have HRB := hide hrb
    clear h1 h2 hL hM hrb
    go_enter Tryz.func33, Tryz.ntmps33
    go_wp2_with fail
    go_loopw [17] (fun i wr => ∃ k : Nat, k ≤ L ∧ i = .int .i64 (k : Int) ∧ Hid ((xs.map TV.plain).take k = (ys.map TV.plain).take k) ∧ Hid (Below W.heap.size W wr)) (fun i _ => L - (intOf i).toNat)
    case atStart => exact ⟨0, Nat.zero_le _, rfl, hide rfl, hide (Below.refl _ _)⟩
    case round =>
      obtain ⟨k, hk, rfl, HT, HB⟩ := hrel
      rename World => wr
      by_cases hlt : k < L
      · have hlt2 : k < xs.length := by rw [HL.out]; exact hlt
        have hlt3 : k < ys.length := by rw [HM.out]; exact hlt
        obtain ⟨x, hx⟩ : ∃ x, xs[k]! = x := ⟨_, rfl⟩
        obtain ⟨y, hy⟩ : ∃ y, ys[k]! = y := ⟨_, rfl⟩
        have hxm : x ∈ xs := by rw [← hx, getElem!_pos xs k hlt2]; exact List.getElem_mem _
        have hym : y ∈ ys := by rw [← hy, getElem!_pos ys k hlt3]; exact List.getElem_mem _
        obtain ⟨xq, hxq⟩ : ∃ q, TV.plain x = q := ⟨_, rfl⟩
        obtain ⟨yq, hyq⟩ : ∃ q, TV.plain y = q := ⟨_, rfl⟩
        have HX : Hid ((xs.map TV.plain)[k]? = some xq) := hide (by rw [← hxq, List.getElem?_map, List.getElem?_eq_getElem hlt2, ← hx, getElem!_pos xs k hlt2]; rfl)
        have HY : Hid ((ys.map TV.plain)[k]? = some yq) := hide (by rw [← hyq, List.getElem?_map, List.getElem?_eq_getElem hlt3, ← hy, getElem!_pos ys k hlt3]; rfl)
        have hok1 := (H1.out.later HB.out).ok x hxm
        have hok2 := (H2.out.later HB.out).ok y hym
        obtain ⟨rb1, hrb1⟩ : ∃ rb1, decide (TV.plain x = TV.plain y) = rb1 := ⟨_, rfl⟩
        have HR1 : Hid (decide (xq = yq) = rb1) := hide (by rw [← hxq, ← hyq]; exact hrb1)
        clear hxq hyq
        obtain ⟨g1, o1, rfl, a0, a1, a2⟩ := (H1.out.later HB.out).at (i := k) (by rw [HL.out]; exact hlt) hx
        obtain ⟨g2, o2, rfl, b0, b1, b2'⟩ := (H2.out.later HB.out).at (i := k) (by rw [HM.out]; exact hlt) hy
        obtain ⟨ks, kp, kc, tn, zs, bp, bc⟩ := x
        obtain ⟨js, jp, jc, tm, us, dp, dc⟩ := y
        simp only at a0 a1 a2 b0 b1 b2'
        obtain ⟨nk, hnk⟩ : ∃ A, ks.length = A := ⟨_, rfl⟩
        obtain ⟨nb, hnb⟩ : ∃ A, zs.length = A := ⟨_, rfl⟩
        obtain ⟨mk, hmk⟩ : ∃ A, js.length = A := ⟨_, rfl⟩
        obtain ⟨md, hmd⟩ : ∃ A, us.length = A := ⟨_, rfl⟩
        rw [hnk] at a0
        rw [hnb] at a2
        rw [hmk] at b0
        rw [hmd] at b2'
        have HC0 : Hid (∀ X, Below wr.heap.size wr X → Calls Tryz.prog 34 #[.agg #[.slice kp nk kc, .int .i64 tn, .slice bp nb bc], .agg #[.slice jp mk jc, .int .i64 tm, .slice dp md dc]] X fun e w' => e = .returned (.bool rb1) ∧ Below X.heap.size X w') := hide (fun X hX => psametask_all (Op.KRow.later hok1.keys hX) (Op.KRow.later hok2.keys hX) (hok1.bufs.later hX) (hok2.bufs.later hX) hnk hmk hnb hmd hrb1)
        clear hnk hnb hmk hmd
        clear hx hy hxm hym hlt2 hlt3 hok1 hok2 hrb1
        obtain ⟨w1, hw1⟩ : ∃ w1, w1 = wr.alloc (.cells #[.slice kp nk kc, .int .i64 tn, .slice bp nb bc] 46 (0, 0)) := ⟨_, rfl⟩
        obtain ⟨w2, hw2⟩ : ∃ w2, w2 = w1.alloc (.cells #[.slice jp mk jc, .int .i64 tm, .slice dp md dc] 46 (0, 0)) := ⟨_, rfl⟩
        have d1 : Below wr.heap.size wr w1 := by rw [hw1]; exact alloc_below _ _
        have d2 : Below w1.heap.size w1 w2 := by rw [hw2]; exact alloc_below _ _
        obtain ⟨aB, haB⟩ : ∃ aB, wr.heap.size = aB := ⟨_, rfl⟩
        obtain ⟨bB, hbB⟩ : ∃ bB, w1.heap.size = bB := ⟨_, rfl⟩
        have u0 : w1.heap[aB]? = some (.cells #[.slice kp nk kc, .int .i64 tn, .slice bp nb bc] 46 (0, 0)) := by rw [hw1, ← haB]; exact heap_alloc_new _ _
        have u1 : w2.heap[bB]? = some (.cells #[.slice jp mk jc, .int .i64 tm, .slice dp md dc] 46 (0, 0)) := by rw [hw2, ← hbB]; exact heap_alloc_new _ _
        have d3 : Below wr.heap.size wr w2 := d1.trans (d2.mono d1.size)
        have HC := hide (HC0.out w2 d3)
        have HD1 := hide d1
        have HD3 := hide d3
        have HU0 := hide (below_box d2 u0)
        have HU1 := hide u1
        have c0 := cell_later d1 b0
        have c1' := cell_later d1 b1
        have c2' := cell_later d1 b2'
        go_upto_region 6 with fail
        rw [← hw1]
        try rw [haB]
        clear hw1 haB d1 d3 u0 u1 a0 a1 a2 b0 b1 b2'
        go_upto_region 7 with fail
        rw [← hw2]
        try rw [hbB]
        clear hw2 hbB d2 c0 c1' c2'
        obtain ⟨x0, x1, x2⟩ := tsBox3 HU0.out
        obtain ⟨y0, y1, y2⟩ := tsBox3 HU1.out
        go_wp2_with fail
        refine HC.out.mono ?_
        rintro _ w3 ⟨rfl, b3⟩
        have HB9 := hide (HB.out.trans ((HD3.out.trans (b3.mono HD3.out.size)).mono HB.out.size))
        clear b3 x0 x1 x2 y0 y1 y2
        cases rb1 with
        | true =>
          have HT2 : Hid ((xs.map TV.plain).take (k + 1) = (ys.map TV.plain).take (k + 1)) := hide (by
            have hq : xq = yq := of_decide_eq_true HR1.out
            rw [List.take_add_one, List.take_add_one, HT.out, HX.out, HY.out, hq])
          go_wp2
          exact ⟨⟨k + 1, by omega, by first | rfl | go_num, HT2, HB9⟩, by simp [intOf]; omega⟩
        | false =>
          have HF : Hid (false = rb) := hide (by
            rw [← HRB.out]
            symm
            apply decide_eq_false
            intro h9
            have h8 := HX.out
            rw [h9, HY.out] at h8
            simp only [Option.some.injEq] at h8
            exact of_decide_eq_false HR1.out h8.symm)
          go_wp2
          go_ret
          exact ⟨by rw [HF.out]; rfl, HB9.out⟩
      · obtain rfl : k = L := by omega
        have HF : Hid (true = rb) := hide (by
          rw [← HRB.out]
          symm
          apply decide_eq_true
          have h9 := HT.out
          rw [List.take_of_length_le (by rw [List.length_map, HL.out]; exact Nat.le_refl _), List.take_of_length_le (by rw [List.length_map, HM.out]; exact Nat.le_refl _)] at h9
          exact h9)
        go_wp2
        go_ret
        exact ⟨by rw [HF.out]; rfl, HB.out⟩
  · have e2 : ((L : Int) == (M : Int)) = false := ne_eq (fun h => hLM (by omega))
    have e3 : ((L : Int) != (M : Int)) = true := ne_ne8 (fun h => hLM (by omega))
    have HF : Hid (false = rb) := hide (by
      rw [← hrb]
      symm
      apply decide_eq_false
      intro h9
      have h8 := congrArg List.length h9
      simp only [List.length_map] at h8
      exact hLM (by omega))
    clear h1 h2 hL hM hrb hLM
    go_enter Tryz.func33, Tryz.ntmps33
    go_wp2
    go_ret
    exact ⟨by rw [HF.out]; rfl, Below.refl _ _⟩
set_option maxRecDepth 100000 in
set_option maxHeartbeats 8000000 in
theorem psame_all {W : World} {vp tp up sp : Option Addr} {nv vc nt tc mv uc mt sc : Nat} {id out jd ot : Int} {vs us : List Int} {xs ys : List TV} (h1 : NRow W vp vc vs) (h2 : NRow W up uc us) (h3 : TRow W tp tc xs) (h4 : TRow W sp sc ys) (hn1 : vs.length = nv) (hn2 : us.length = mv) (hn3 : xs.length = nt) (hn4 : ys.length = mt) {rb : Bool} (hrb : decide ((⟨id, vs, out, xs.map TV.plain⟩ : FP) = ⟨jd, us, ot, ys.map TV.plain⟩) = rb) :
    Calls Tryz.prog 13 #[.agg #[.int .i64 id, .slice vp nv vc, .int .i64 out, .slice tp nt tc], .agg #[.int .i64 jd, .slice up mv uc, .int .i64 ot, .slice sp mt sc]] W fun e w' => e = .returned (.bool rb) ∧ Below W.heap.size W w' := by
  obtain ⟨V, hV⟩ : ∃ V, V = (W.alloc (.cells #[.int .i64 id, .slice vp nv vc, .int .i64 out, .slice tp nt tc] 28 (0, 0))).alloc (.cells #[.int .i64 jd, .slice up mv uc, .int .i64 ot, .slice sp mt sc] 28 (0, 0)) := ⟨_, rfl⟩
  have a1 := alloc_below W (.cells #[.int .i64 id, .slice vp nv vc, .int .i64 out, .slice tp nt tc] 28 (0, 0))
  have a2 := alloc_below (W.alloc (.cells #[.int .i64 id, .slice vp nv vc, .int .i64 out, .slice tp nt tc] 28 (0, 0))) (.cells #[.int .i64 jd, .slice up mv uc, .int .i64 ot, .slice sp mt sc] 28 (0, 0))
  have bV : Below W.heap.size W V := by rw [hV]; exact a1.trans (a2.mono a1.size)
  obtain ⟨aB, haB⟩ : ∃ aB, W.heap.size = aB := ⟨_, rfl⟩
  obtain ⟨bB, hbB⟩ : ∃ bB, aB + 1 = bB := ⟨_, rfl⟩
  have u0 : V.heap[aB]? = some (.cells #[.int .i64 id, .slice vp nv vc, .int .i64 out, .slice tp nt tc] 28 (0, 0)) := by rw [hV, ← haB]; exact below_box a2 (heap_alloc_new W _)
  have u1 : V.heap[bB]? = some (.cells #[.int .i64 jd, .slice up mv uc, .int .i64 ot, .slice sp mt sc] 28 (0, 0)) := by
    have e : bB = (W.alloc (.cells #[.int .i64 id, .slice vp nv vc, .int .i64 out, .slice tp nt tc] 28 (0, 0))).heap.size := by rw [← hbB, ← haB]; simp
    rw [hV, e]
    exact heap_alloc_new _ _
  have i1 := h1.le
  have i2 := h1.top
  have i3 := h2.le
  have i4 := h2.top
  have i5 := h3.row.le
  have i6 := h3.row.top
  have i7 := h4.row.le
  have i8 := h4.row.top
  rw [hn1] at i1
  rw [hn2] at i3
  rw [hn3] at i5
  rw [hn4] at i7
  have hfp : ((⟨id, vs, out, xs.map TV.plain⟩ : FP) = ⟨jd, us, ot, ys.map TV.plain⟩) ↔ (id = jd ∧ vs = us ∧ out = ot ∧ xs.map TV.plain = ys.map TV.plain) := by simp only [FP.mk.injEq]
  have HNO : Hid (¬ (id = jd ∧ vs = us ∧ out = ot ∧ xs.map TV.plain = ys.map TV.plain) → false = rb) := hide (fun h => by rw [← hrb]; symm; exact decide_eq_false (fun e => h (hfp.1 e)))
  have HYES : Hid (id = jd → vs = us → out = ot → decide (xs.map TV.plain = ys.map TV.plain) = rb) := hide (fun q1 q2 q3 => by
    rw [← hrb]
    congr 1
    rw [eq_iff_iff, hfp]
    exact ⟨fun q4 => ⟨q1, q2, q3, q4⟩, fun q => q.2.2.2⟩)
  obtain ⟨x0, x1, x2, x3⟩ := box4 u0
  obtain ⟨y0, y1, y2, y3⟩ := box4 u1
  have HBV := hide bV
  have H1 := hide (h1.later bV)
  have H2 := hide (h2.later bV)
  have H3 := hide (h3.later bV)
  have H4 := hide (h4.later bV)
  have HN1 := hide hn1
  have HN2 := hide hn2
  have HN3 := hide hn3
  have HN4 := hide hn4
  clear h1 h2 h3 h4 hn1 hn2 hn3 hn4 hrb hfp a1 a2 bV u0 u1
  go_enter Tryz.func13, Tryz.ntmps13
  go_upto_region 1 with fail
  rw [← hV]
  try rw [haB]
  try rw [hbB]
  clear hV haB hbB
  obtain ⟨r1, hr1⟩ : ∃ r1, decide (vs = us) = r1 := ⟨_, rfl⟩
  have HOS := hide (eqnum_all (W := V) H1.out H2.out HN1.out HN2.out hr1)
  have HR1 := hide hr1
  clear hr1 i1 i2 i3 i4 i5 i6 i7 i8
  by_cases q1 : id = jd
  · by_cases q3 : out = ot
    · have HY := hide (fun h => HYES.out q1 h q3)
      have HNV : Hid (¬ vs = us → false = rb) := hide (fun h => HNO.out (fun q => h q.2.1))
      subst q1
      subst q3
      clear HYES HNO
      go_wp2_with fail
      refine HOS.out.mono ?_
      rintro _ w1 ⟨rfl, b1⟩
      have HB1 := hide b1
      have z3 := cell_later b1 x3
      have v3 := cell_later b1 y3
      have H3' := hide (H3.out.later b1)
      have H4' := hide (H4.out.later b1)
      clear b1 x0 x1 x2 x3 y0 y1 y2 y3
      cases r1 with
      | true =>
        have HE := HY.out (of_decide_eq_true HR1.out)
        go_wp2_with fail
        refine (eqtasks_all H3'.out H4'.out HN3.out HN4.out HE).mono ?_
        rintro _ w2 ⟨rfl, b2⟩
        have HB2 := hide (HBV.out.trans ((HB1.out.trans (b2.mono HB1.out.size)).mono HBV.out.size))
        clear b2 HE
        go_wp2
        go_ret
        exact ⟨rfl, HB2.out⟩
      | false =>
        have HE := HNV.out (of_decide_eq_false HR1.out)
        subst HE
        have HB2 := hide (HBV.out.trans (HB1.out.mono HBV.out.size))
        go_wp2
        go_ret
        exact ⟨rfl, HB2.out⟩
    · have HE := HNO.out (fun q => q3 q.2.2.1)
      subst HE
      subst q1
      have e1 := ne_eq q3
      clear q3
      go_wp2
      go_ret
      exact ⟨rfl, HBV.out⟩
  · have HE := HNO.out (fun q => q1 q.1)
    subst HE
    have e1 := ne_eq q1
    clear q1
    go_wp2
    go_ret
    exact ⟨rfl, HBV.out⟩
end Go.Proofs.YtlfipmieaabagaaGreat

/-
  copied of package snap: of numbers, of records, of what keys keep. The conditions: that the lists lie there, and are not too long.
-/
namespace Go.Proofs.YtlfipmieaabagaaGreat
open Go.RowKit Go.Shelf

theorem KS.one9 (x : Op.KS) : ∀ u ∈ x.cells, u.oneCell' = true := by
  intro u hu
  simp only [Op.KS.cells, List.mem_cons, List.not_mem_nil, or_false] at hu
  rcases hu with rfl | rfl | rfl <;> rfl
set_option maxRecDepth 100000 in
theorem cpnum_any {W : World} {p : Option Addr} {n c : Nat} {rs : List Int} (h : NRow W p c rs) (hn : rs.length = n) (hb : n * 8 ≤ 140737488355328) :
    Calls Tryz.prog 35 #[.slice p n c] W fun e w' => ∃ p' c', e = .returned (.slice p' n c') ∧ w'.ownsRow W.heap.size 2 1 (.slice p' n c') n (rs.flatMap intCells) ∧ Below W.heap.size W w' := by
  obtain ⟨j0, hj0, hj1, hj2, hj3⟩ := info_parts Tryz.infoN
  have hs := LRow.seg (by decide) intCells_len intCells_one h
  rw [hn] at hs
  have HS := hide hs
  have HK1 : Hid (0 + n ≤ maxLen) := by show _ ≤ _; unfold maxLen; omega
  have HK2 : Hid ((0 + n) * 8 ≤ 140737488355328) := by show _ ≤ _; omega
  clear h hs hn hb
  go_enter Tryz.func35, Tryz.ntmps35
  go_wp2_with (at_builtin; refine append_cells _ rfl (.const (.slice none 0 0)) (.tmp 3) 25 rfl W.heap.size 2 j0 (.int .i64 0) 1 8 Tryz.underlying25 hj0 hj1 hj2 hj3 rfl (by decide) (.slice none 0 0) 0 [] rfl (World.ownsRow_nil _ _ _ _) (.slice p n c) n _ rfl HS.out HK1.out HK2.out (Nat.le_refl _) ?_)
  intro p6 c6 w6 o6 g6
  have HB : Hid (Below W.heap.size W w6) := hide ((Below.refl _ W).grown g6 (Nat.le_refl _) (by simp [Value.ownBlock]))
  have HO := hide o6
  clear o6 g6
  go_wp2
  go_ret
  first
    | exact ⟨p6, c6, rfl, HO.out, HB.out⟩
    | exact ⟨p6, c6, by rw [Nat.zero_add], by simpa using HO.out, HB.out⟩
set_option maxRecDepth 100000 in
theorem cprec_any {W : World} {p : Option Addr} {n c : Nat} {rs : List RC} (h : RRow W p c rs) (hn : rs.length = n) (hb : n * 16 ≤ 140737488355328) :
    Calls Tryz.prog 65 #[.slice p n c] W fun e w' => ∃ p' c', e = .returned (.slice p' n c') ∧ w'.ownsRow W.heap.size 51 2 (.slice p' n c') n (rs.flatMap RC.cells) ∧ Below W.heap.size W w' := by
  obtain ⟨j0, hj0, hj1, hj2, hj3⟩ := info_parts Tryz.infoRec
  have hs := LRow.seg (by decide) RC.len RC.one h
  rw [hn] at hs
  have HS := hide hs
  have HK1 : Hid (0 + n ≤ maxLen) := by show _ ≤ _; unfold maxLen; omega
  have HK2 : Hid ((0 + n) * 16 ≤ 140737488355328) := by show _ ≤ _; omega
  clear h hs hn hb
  go_enter Tryz.func65, Tryz.ntmps65
  go_wp2_with (at_builtin; refine append_cells _ rfl (.const (.slice none 0 0)) (.tmp 3) 49 rfl W.heap.size 51 j0 (.agg #[.int .i64 0, .int .i64 0]) 2 16 Tryz.underlying49 hj0 hj1 hj2 hj3 rfl (by decide) (.slice none 0 0) 0 [] rfl (World.ownsRow_nil _ _ _ _) (.slice p n c) n _ rfl HS.out HK1.out HK2.out (Nat.le_refl _) ?_)
  intro p6 c6 w6 o6 g6
  have HB : Hid (Below W.heap.size W w6) := hide ((Below.refl _ W).grown g6 (Nat.le_refl _) (by simp [Value.ownBlock]))
  have HO := hide o6
  clear o6 g6
  go_wp2
  go_ret
  first
    | exact ⟨p6, c6, rfl, HO.out, HB.out⟩
    | exact ⟨p6, c6, by rw [Nat.zero_add], by simpa using HO.out, HB.out⟩
set_option maxRecDepth 100000 in
theorem cpks_any {W : World} {p : Option Addr} {n c : Nat} {rs : List Op.KS} (h : Op.KRow W p c rs) (hn : rs.length = n) (hb : n * 24 ≤ 140737488355328) :
    Calls Tryz.prog 64 #[.slice p n c] W fun e w' => ∃ p' c', e = .returned (.slice p' n c') ∧ w'.ownsRow W.heap.size 48 3 (.slice p' n c') n (rs.flatMap Op.KS.cells) ∧ Below W.heap.size W w' := by
  obtain ⟨j0, hj0, hj1, hj2, hj3⟩ := info_parts Tryz.infoKS
  have hs := LRow.seg (by decide) Op.KS.len KS.one9 (⟨h.1, h.2.1, h.2.2.1, h.2.2.2⟩ : LRow Op.KS.cells 3 W p c rs)
  rw [hn] at hs
  have HS := hide hs
  have HK1 : Hid (0 + n ≤ maxLen) := by show _ ≤ _; unfold maxLen; omega
  have HK2 : Hid ((0 + n) * 24 ≤ 140737488355328) := by show _ ≤ _; omega
  clear h hs hn hb
  go_enter Tryz.func64, Tryz.ntmps64
  go_wp2_with (at_builtin; refine append_cells _ rfl (.const (.slice none 0 0)) (.tmp 3) 41 rfl W.heap.size 48 j0 (.agg #[.int .i64 0, .int .i64 0, .int .i64 0]) 3 24 Tryz.underlying41 hj0 hj1 hj2 hj3 rfl (by decide) (.slice none 0 0) 0 [] rfl (World.ownsRow_nil _ _ _ _) (.slice p n c) n _ rfl HS.out HK1.out HK2.out (Nat.le_refl _) ?_)
  intro p6 c6 w6 o6 g6
  have HB : Hid (Below W.heap.size W w6) := hide ((Below.refl _ W).grown g6 (Nat.le_refl _) (by simp [Value.ownBlock]))
  have HO := hide o6
  clear o6 g6
  go_wp2
  go_ret
  first
    | exact ⟨p6, c6, rfl, HO.out, HB.out⟩
    | exact ⟨p6, c6, by rw [Nat.zero_add], by simpa using HO.out, HB.out⟩
end Go.Proofs.YtlfipmieaabagaaGreat

/-
  cloneTask of package snap: what a task keeps, in memory of its own. The conditions: that it lies there, and that its lists are not too long.
-/
namespace Go.Proofs.YtlfipmieaabagaaGreat
open Go.RowKit Go.Shelf

theorem three_set {w : World} {b : Nat} {t : TypeId} {c0 c1 c2 : Value} (h : w.heap[b]? = some (.cells #[c0, c1, c2] t (0, 0))) (d : Value) : (w.setCell ⟨b, 2, none⟩ d).heap[b]? = some (.cells #[c0, c1, d] t (0, 0)) :=
  heap_setCell_same w b 2 _ _ d h
theorem three_fz {w : World} {b : Nat} {t : TypeId} {c0 c1 c2 : Value} (h : w.heap[b]? = some (.cells #[c0, c1, c2] t (0, 0))) (o : Nat) : w.frozen? ⟨b, o, none⟩ = false := by simp [World.frozen?, h]
/-- An owned row over what turns other blocks: of another type of elements. -/
theorem own_apart {F : Nat → Prop} {A B : World} {base n k : Nat} {e : TypeId} {v : Value} {xs : List Value} (h : A.ownsRow base e k v n xs) (ho : Only F A B) (hF : ∀ b, F b → ∀ cur, A.heap[b]? ≠ some (.cells cur e (0, 0))) : B.ownsRow base e k v n xs :=
  ownsRow_only h ho (fun b hb hf => by obtain ⟨_, cur, h3⟩ := own_block_lt h hb; exact hF b hf cur h3)
theorem box_type {A : World} {b : Nat} {cs : Array Value} {t e : TypeId} (h : A.heap[b]? = some (.cells cs t (0, 0))) (hne : t ≠ e) : ∀ i, i = b → ∀ cur, A.heap[i]? ≠ some (.cells cur e (0, 0)) := by
  rintro i rfl cur h2
  rw [h] at h2
  simp at h2
  exact hne h2.2
theorem row_type {A : World} {base n k : Nat} {t e : TypeId} {v : Value} {xs : List Value} (h : A.ownsRow base t k v n xs) (hne : t ≠ e) : ∀ i, v.ownBlock = some i → ∀ cur, A.heap[i]? ≠ some (.cells cur e (0, 0)) := by
  intro i hi cur h2
  obtain ⟨_, c2, h3⟩ := own_block_lt h hi
  rw [h3] at h2
  simp at h2
  exact hne h2.2
/-- Behind the first statement of cloneTask. -/
structure CT1 (W wd : World) (oB : Nat) (sv : Value) (cB rB : Nat) (q : Option Addr) (qc nk : Nat) (tn : Int) (ks : List Op.KS) : Prop where
  src : wd.cell? ⟨oB, 2, none⟩ = some sv
  box : wd.heap[cB]? = some (.cells #[.slice q nk qc, .int .i64 tn, .slice none 0 0] 46 (0, 0))
  keys : wd.ownsRow W.heap.size 48 3 (.slice q nk qc) nk (ks.flatMap Op.KS.cells)
  res : wd.heap[rB]? = some (.cells #[.slice none 0 0, .int .i64 0, .slice none 0 0] 46 (0, 0))
  ge : W.heap.size ≤ cB ∧ cB ≠ rB
  below : Below W.heap.size W wd
/-- What a round of cloneTask keeps. -/
structure CTI (W wd : World) (cB rB : Nat) (q : Option Addr) (qc nk : Nat) (tn : Int) (ks : List Op.KS) (xs : List SV) (k : Nat) : Prop where
  keys : wd.ownsRow W.heap.size 48 3 (.slice q nk qc) nk (ks.flatMap Op.KS.cells)
  res : wd.heap[rB]? = some (.cells #[.slice none 0 0, .int .i64 0, .slice none 0 0] 46 (0, 0))
  below : Below W.heap.size W wd
  bufs : ∃ b bc, ∃ ys : List SV, wd.heap[cB]? = some (.cells #[.slice q nk qc, .int .i64 tn, .slice b k bc] 46 (0, 0)) ∧ wd.ownsRow W.heap.size 49 1 (.slice b k bc) k (ys.flatMap SV.cells) ∧ ys.length = k ∧ ys.map SV.rs = (xs.map SV.rs).take k ∧ ∀ y ∈ ys, SVo y wd W.heap.size
set_option maxRecDepth 100000 in
set_option maxHeartbeats 8000000 in
theorem cltask_any {W : World} {kp bp : Option Addr} {nk kc nb bc : Nat} {tn : Int} {ks : List Op.KS} {xs : List SV} (h1 : Op.KRow W kp kc ks) (h3 : LL W bp bc xs) (hn1 : ks.length = nk) (hn3 : xs.length = nb) (hb1 : nk * 24 ≤ 140737488355328) (hb2 : nb * 24 ≤ 140737488355328) (hb3 : ∀ x ∈ xs, x.rs.length * 16 ≤ 140737488355328) :
    Calls Tryz.prog 36 #[.agg #[.slice kp nk kc, .int .i64 tn, .slice bp nb bc]] W fun e w' => ∃ y : TV, e = .returned (.agg #[.slice y.kp nk y.kc, .int .i64 tn, .slice y.bp nb y.bc]) ∧ y.ks.length = nk ∧ y.xs.length = nb ∧ y.plain = ⟨ks, tn, xs.map SV.rs⟩ ∧ y.tn = tn ∧ TVo y w' W.heap.size ∧ Below W.heap.size W w' := by
  obtain ⟨V0, hV0⟩ : ∃ V0, V0 = W.alloc (.cells #[.slice kp nk kc, .int .i64 tn, .slice bp nb bc] 46 (0, 0)) := ⟨_, rfl⟩
  obtain ⟨V, hV⟩ : ∃ V, V = V0.alloc (.cells #[.slice none 0 0, .int .i64 0, .slice none 0 0] 46 (0, 0)) := ⟨_, rfl⟩
  have a1 : Below W.heap.size W V0 := by rw [hV0]; exact alloc_below _ _
  have a2 : Below V0.heap.size V0 V := by rw [hV]; exact alloc_below _ _
  obtain ⟨oB, hoB⟩ : ∃ oB, W.heap.size = oB := ⟨_, rfl⟩
  obtain ⟨rB, hrB⟩ : ∃ rB, V0.heap.size = rB := ⟨_, rfl⟩
  have hs0 : V0.heap.size = W.heap.size + 1 := by rw [hV0]; simp
  have hor : oB + 1 = rB := by omega
  have u0 : V.heap[oB]? = some (.cells #[.slice kp nk kc, .int .i64 tn, .slice bp nb bc] 46 (0, 0)) := by rw [← hoB]; exact below_box a2 (by rw [hV0]; exact heap_alloc_new W _)
  have u1 : V.heap[rB]? = some (.cells #[.slice none 0 0, .int .i64 0, .slice none 0 0] 46 (0, 0)) := by rw [hV, ← hrB]; exact heap_alloc_new V0 _
  have HBV : Hid (Below W.heap.size W V) := hide (a1.trans (a2.mono a1.size))
  have HU0 := hide u0
  have HU1 := hide u1
  have HK := hide h1
  have HX := hide h3
  have HNK := hide hn1
  have HNB := hide hn3
  have HB3 := hide hb3
  have i1 := h3.row.le
  have i2 := h3.row.top
  rw [hn3] at i1
  have HOC : Hid (W.heap.size = oB ∧ oB + 1 = rB ∧ rB < V.heap.size) := hide ⟨hoB, hor, (Array.getElem?_eq_some_iff.1 u1).1⟩
  obtain ⟨x0, x1, x2⟩ := tsBox3 u0
  clear h1 h3 hn1 hn3 hb3 a1 a2 u0 u1 hs0
  go_enter Tryz.func36, Tryz.ntmps36
  go_upto_region 1 with fail
  try rw [hoB]
  try rw [hor]
  rw [← hV0, ← hV]
  try rw [hrB]
  clear hV0 hV hoB hrB hor
  go_cut [3] from 6 to 14 (fun s3 wd => ∃ (cB : Nat) (q : Option Addr) (qc : Nat), s3 = .pointer (some ⟨cB, 0, none⟩) ∧ Hid (CT1 W wd oB (.slice bp nb bc) cB rB q qc nk tn ks))
  case first =>
    refine wp_region_held_drew (S := fun w' => w'.cell? ⟨oB, 0, none⟩ = some (.slice kp nk kc) ∧ w'.cell? ⟨oB, 1, none⟩ = some (.int .i64 tn)) (by kernel_rfl) ⟨x0, x1⟩ (fun hHeld => ?_)
    refine wpAnyH_take (i := 0) (oi := _) (v := ?_) rfl (by kernel_rfl) (by kernel_rfl) (by kernel_rfl) (fun _ _ _ h => h) (Or.inl ⟨by rfl, ?_⟩) (by assumption) ?_
    rotate_left
    · intro w hSw
      (try dsimp only at hSw)
      go_simp
      all_goals with_reducible rfl
    simp only [Act.put]
    refine wpAnyH_take (i := 1) (oi := _) (v := ?_) rfl (by kernel_rfl) (by kernel_rfl) (by kernel_rfl) (fun _ _ _ h => h) (Or.inl ⟨by rfl, ?_⟩) (by assumption) ?_
    rotate_left
    · intro w hSw
      (try dsimp only at hSw)
      go_simp
      all_goals with_reducible rfl
    simp only [Act.put]
    refine wpAnyH_take (i := 2) (oi := _) (v := ?_) rfl (by kernel_rfl) (by kernel_rfl) (by kernel_rfl) (fun _ _ _ h => h) (Or.inl ⟨by rfl, ?_⟩) (by assumption) ?_
    rotate_left
    · intro w hSw
      (try dsimp only at hSw)
      go_simp
      all_goals with_reducible rfl
    simp only [Act.put]
    refine wpAnyH_take (i := 4) (oi := _) (v := ?_) rfl (by kernel_rfl) (by kernel_rfl) (by kernel_rfl) (fun _ _ _ h => h) (Or.inl ⟨by rfl, ?_⟩) (by assumption) ?_
    rotate_left
    · intro w hSw
      (try dsimp only at hSw)
      go_simp
      all_goals with_reducible rfl
    simp only [Act.put]
    refine wpAnyH_take (i := 5) (oi := _) (v := ?_) rfl (by kernel_rfl) (by kernel_rfl) (by kernel_rfl) (fun _ _ _ h => h) (Or.inl ⟨by rfl, ?_⟩) (by assumption) ?_
    rotate_left
    · intro w hSw
      (try dsimp only at hSw)
      go_simp
      all_goals with_reducible rfl
    simp only [Act.put]
    refine wpAnyH_take (i := 6) (oi := _) (v := ?_) rfl (by kernel_rfl) (by kernel_rfl) (by kernel_rfl) (fun _ _ _ h => h) (Or.inl ⟨by rfl, ?_⟩) (by assumption) ?_
    rotate_left
    · intro w hSw
      (try dsimp only at hSw)
      go_simp
      all_goals with_reducible rfl
    simp only [Act.put]
    refine wpAnyH_ready (rs := [3, 9]) (by kernel_rfl) (by simp) ?_
    refine AllReadyH.cons (o := _) rfl (fun K hK => ?_) (AllReadyH.cons (o := _) rfl (fun K hK => ?_) AllReadyH.nil)
    · go_simp
      refine (cpks_any (Op.KRow.later HK.out ((HBV.out.trans ((Below.refl _ V).drew.mono HBV.out.size)))) HNK.out (by omega)).mono ?_
      rintro _ w1 ⟨q, qc, rfl, hown, b1⟩
      have B1 : Below V.heap.size V w1 := (Below.refl _ V).drew.trans b1
      have HR0 : Hid (CT1 W (w1.alloc (.cells #[.slice q nk qc, .int .i64 tn, .slice none 0 0] 46 (0, 0))) oB (.slice bp nb bc) w1.heap.size rB q qc nk tn ks) :=
        hide ⟨cell_later (alloc_below w1 _) (cell_later B1 x2), heap_alloc_new w1 _, ownsRow_base (ownsRow_later hown (alloc_below w1 _)) (HBV.out.size), below_box (alloc_below w1 _) (below_box B1 HU1.out), ⟨Nat.le_trans HBV.out.size B1.size, by have := (Array.getElem?_eq_some_iff.1 (below_box B1 HU1.out)).1; omega⟩, (HBV.out.trans (B1.mono HBV.out.size)).trans ((alloc_below w1 _).mono (Nat.le_trans HBV.out.size B1.size))⟩
      have y0 := cell_later B1 x0
      have y1 := cell_later B1 x1
      clear hown b1
      go_wp2_with fail
      refine hK.out _ _ ⟨y0, y1⟩ (fun hHeld => ?_)
      clear hK
      refine wpAnyH_take (i := 7) (oi := _) (v := ?_) rfl (by kernel_rfl) (by kernel_rfl) (by kernel_rfl) (fun _ _ _ h => h) (Or.inl ⟨by rfl, ?_⟩) (by assumption) ?_
      rotate_left
      · intro w hSw
        (try dsimp only at hSw)
        go_simp
        all_goals with_reducible rfl
      simp only [Act.put]
      refine wpAnyH_take (i := 8) (oi := _) (v := ?_) rfl (by kernel_rfl) (by kernel_rfl) (by kernel_rfl) (fun _ _ _ h => h) (Or.inl ⟨by rfl, ?_⟩) (by assumption) ?_
      rotate_left
      · intro w hSw
        (try dsimp only at hSw)
        go_simp
        all_goals with_reducible rfl
      simp only [Act.put]
      refine wpAnyH_ready (rs := [9]) (by kernel_rfl) (by simp) ?_
      refine AllReadyH.cons (o := _) rfl (fun K hK => ?_) AllReadyH.nil
      go_simp
      refine hK.out _ _ (by go_keep) (fun hHeld => ?_)
      clear hK
      refine wpAnyH_ready (rs := [10]) (by kernel_rfl) (by simp) ?_
      refine AllReadyH.cons (o := _) rfl (fun K hK => ?_) AllReadyH.nil
      go_simp
      refine hK.out _ _ (by go_keep) (fun hHeld => ?_)
      clear hK
      refine wpAnyH_done (by kernel_rfl) ?_ _
      go_wp2_with fail
      go_meet
      case rel => exact ⟨_, q, qc, rfl, HR0⟩
    · go_simp
      refine hK.out _ _ (by go_keep) (fun hHeld => ?_)
      clear hK
      obtain ⟨V2, hV2⟩ : ∃ V2, V2 = V.alloc (.cells #[.slice none 0 0, .int .i64 0, .slice none 0 0] 46 (0, 0)) := ⟨_, rfl⟩
      have B2 : Below V.heap.size V V2 := by rw [hV2]; exact alloc_below _ _
      have hc2 : V2.heap[V.heap.size]? = some (.cells #[.slice none 0 0, .int .i64 0, .slice none 0 0] 46 (0, 0)) := by rw [hV2]; exact heap_alloc_new V _
      obtain ⟨cB, hcB⟩ : ∃ cB, V.heap.size = cB := ⟨_, rfl⟩
      rw [hcB] at hc2
      rw [← hV2] at hHeld
      have HCN : Hid (W.heap.size ≤ cB ∧ rB < cB) := hide ⟨by rw [← hcB]; exact HBV.out.size, by have := (Array.getElem?_eq_some_iff.1 HU1.out).1; omega⟩
      rw [← hV2]
      try rw [hcB]
      clear hV2 hcB
      refine wpAnyH_ready (rs := [3]) (by kernel_rfl) (by simp) ?_
      refine AllReadyH.cons (o := _) rfl (fun K hK => ?_) AllReadyH.nil
      go_simp
      refine (cpks_any (Op.KRow.later HK.out (HBV.out.trans ((B2.trans ((Below.refl _ V2).drew.mono B2.size)).mono HBV.out.size))) HNK.out (by omega)).mono ?_
      rintro _ w1 ⟨q, qc, rfl, hown, b1⟩
      have B1 : Below V2.heap.size V2 w1 := (Below.refl _ V2).drew.trans b1
      have B3 : Below V.heap.size V w1 := B2.trans (B1.mono B2.size)
      have hc3 := below_box B1 hc2
      have HC3 := hide hc3
      have HOW := hide (ownsRow_base hown (Nat.le_trans HBV.out.size B2.size))
      have HB3 := hide B3
      obtain ⟨c0, c1, c2⟩ := tsBox3 hc3
      have z0 := three_fz hc3 0
      have z1 := three_fz hc3 1
      have z2 := three_fz hc3 2
      have y0 := cell_later B3 x0
      have y1 := cell_later B3 x1
      have ho3 : Only (· = cB) w1 (((w1.setCell ⟨cB, 0, none⟩ (.slice q nk qc)).setCell ⟨cB, 1, none⟩ (.int .i64 tn)).setCell ⟨cB, 2, none⟩ (.slice none 0 0)) := ((Only.set (F := (· = cB)) w1 cB 0 _ rfl).trans (Only.set (F := (· = cB)) _ cB 1 _ rfl)).trans (Only.set (F := (· = cB)) _ cB 2 _ rfl)
      have HR1 : Hid (CT1 W (((w1.setCell ⟨cB, 0, none⟩ (.slice q nk qc)).setCell ⟨cB, 1, none⟩ (.int .i64 tn)).setCell ⟨cB, 2, none⟩ (.slice none 0 0)) oB (.slice bp nb bc) cB rB q qc nk tn ks) := hide ⟨ho3.cell (cell_later B3 x2) (fun e => by have e' : oB = cB := e; have := HOC.out; have := HCN.out; omega), heap_setCell_same _ cB 2 _ _ _ (heap_setCell_same _ cB 1 _ _ _ (heap_setCell_same w1 cB 0 _ _ _ hc3)), ownsRow_only HOW.out ho3 (fun b hb e => by
          have e' : b = cB := e
          obtain ⟨_, cur, h3⟩ := own_block_lt HOW.out hb
          rw [e', hc3] at h3
          simp at h3), ho3.obj (below_box B3 HU1.out) (fun e => by have e' : rB = cB := e; have := HCN.out; omega), ⟨HCN.out.1, by have := HCN.out; omega⟩, (HBV.out.trans (B3.mono HBV.out.size)).trans (ho3.below (Nat.le_trans HBV.out.size B3.size) (fun i e => by have e' : i = cB := e; have := HCN.out; omega))⟩
      clear ho3
      have hneo : cB ≠ oB := fun e => by have := HOC.out; have := HCN.out; omega
      clear hown b1 hc3 B1 B3
      go_wp2_with fail
      refine hK.out _ _ ⟨y0, y1⟩ (fun hHeld => ?_)
      clear hK
      refine wpAnyH_take (i := 7) (oi := _) (v := ?_) rfl (by kernel_rfl) (by kernel_rfl) (by kernel_rfl) (fun _ _ _ h => h) (Or.inl ⟨by rfl, ?_⟩) (by assumption) ?_
      rotate_left
      · intro w hSw
        (try dsimp only at hSw)
        go_simp
        all_goals with_reducible rfl
      simp only [Act.put]
      refine wpAnyH_take (i := 8) (oi := _) (v := ?_) rfl (by kernel_rfl) (by kernel_rfl) (by kernel_rfl) (fun _ _ _ h => h) (Or.inl ⟨by rfl, ?_⟩) (by assumption) ?_
      rotate_left
      · intro w hSw
        (try dsimp only at hSw)
        go_simp
        all_goals with_reducible rfl
      simp only [Act.put]
      refine wpAnyH_ready (rs := [10]) (by kernel_rfl) (by simp) ?_
      refine AllReadyH.cons (o := _) rfl (fun K hK => ?_) AllReadyH.nil
      go_simp
      refine hK.out _ _ (by go_keep) (fun hHeld => ?_)
      clear hK
      refine wpAnyH_done (by kernel_rfl) ?_ _
      go_wp2_with fail
      go_meet
      case rel => exact ⟨cB, q, qc, rfl, HR1⟩
  case rest =>
  obtain ⟨cB, q, qc, rfl, HC1⟩ := hcut
  rename World => W0
  have HGE := hide HC1.out.ge
  have HI0 : Hid (CTI W W0 cB rB q qc nk tn ks xs 0) := hide ⟨HC1.out.keys, HC1.out.res, HC1.out.below, none, 0, [], HC1.out.box, World.ownsRow_nil _ _ _ _, rfl, by simp, fun y hy => by cases hy⟩
  have HS2 := hide HC1.out.src
  clear HC1 x0 x1 x2
  obtain ⟨j0, hj0, hj1, hj2, hj3⟩ := info_parts Tryz.infoRecs
  have s2 := HS2.out
  clear HS2
  go_wp2_with fail
  go_loopw [18] (fun i wq => ∃ k : Nat, k ≤ nb ∧ i = .int .i64 (k : Int) ∧ Hid (CTI W wq cB rB q qc nk tn ks xs k)) (fun i _ => nb - (intOf i).toNat)
  case atStart => exact ⟨0, Nat.zero_le _, rfl, HI0⟩
  case round =>
    obtain ⟨k, hk, rfl, HI⟩ := hrel
    rename World => wq
    clear HI0 s2
    obtain ⟨ik, ir, ib, b, bq, ys, ibox, iown, ilen, imap, ieach⟩ := HI.out
    have HIK := hide ik
    have HIR := hide ir
    have HIB := hide ib
    have HBX := hide ibox
    have HIO := hide iown
    have HIL := hide ilen
    have HIM := hide imap
    have HIE := hide ieach
    obtain ⟨c0, c1, c2⟩ := tsBox3 ibox
    clear HI ik ir ib iown ilen imap ieach ibox
    by_cases hlt : k < nb
    · have hlt2 : k < xs.length := by rw [HNB.out]; exact hlt
      obtain ⟨x, hx⟩ : ∃ x, xs[k]! = x := ⟨_, rfl⟩
      have hxm : x ∈ xs := by rw [← hx, getElem!_pos xs k hlt2]; exact List.getElem_mem _
      obtain ⟨g, oo, rfl, d0⟩ := (HX.out.later HIB.out).at (i := k) hlt2
      rw [hx] at d0
      have hbx := HB3.out x hxm
      have hok := (HX.out.later HIB.out).ok x hxm
      have HXE : Hid ((xs.map SV.rs)[k]? = some x.rs) := hide (by rw [List.getElem?_map, List.getElem?_eq_getElem hlt2, ← hx, getElem!_pos xs k hlt2]; rfl)
      obtain ⟨rs, xp, xc⟩ := x
      simp only at d0 hbx HXE
      obtain ⟨A, hA⟩ : ∃ A, rs.length = A := ⟨_, rfl⟩
      rw [hA] at d0 hbx
      have HC := hide (fun X (hX : Below wq.heap.size wq X) => cprec_any (W := X) (RRow.later hok hX) hA hbx)
      have HA := hide hA
      have HK1 : Hid (k + 1 ≤ maxLen) := by show _ ≤ _; unfold maxLen; omega
      have HK2 : Hid ((k + 1) * 24 ≤ 140737488355328) := hide (by omega)
      clear hx hxm hok hA hbx hlt2
      go_upto_region 5 with fail
      have B0 : Below wq.heap.size wq wq.drew := (Below.refl _ wq).drew
      refine wp_region_any (by kernel_rfl) ?_
      try (change wpAny _ _ _ _ _ _ _ (World.drew _))
      refine wpAny_take (i := 0) (v := ?_) rfl (by kernel_rfl) (by kernel_rfl) (by kernel_rfl) (fun _ _ _ h => h) (Or.inl ⟨by rfl, ?_⟩) ?_
      case refine_2 => intro w; go_simp; try with_reducible rfl
      refine wpAny_take (i := 2) (v := ?_) rfl (by kernel_rfl) (by kernel_rfl) (by kernel_rfl) (fun _ _ _ h => h) (Or.inl ⟨by rfl, ?_⟩) ?_
      case refine_2 => intro w; go_simp; try with_reducible rfl
      refine wpAny_ready (rs := [1, 3]) (by kernel_rfl) (by simp) ?_
      refine AllReady.cons rfl (fun K hK => ?_) ?_
      · go_simp
        refine hK _ _ ?_
        clear hK K
        refine wpAny_ready (rs := [3]) (by kernel_rfl) (by simp) ?_
        refine AllReady.cons rfl (fun K hK => ?_) ?_
        · go_simp
          refine (HC.out _ B0).mono ?_
          rintro _ w1 ⟨p1, cc1, rfl, hown1, b1⟩
          have B1 : Below wq.heap.size wq w1 := B0.trans b1
          have HOW1 := hide (ownsRow_base hown1 HIB.out.size)
          obtain ⟨w2, hw2⟩ : ∃ w2, w2 = w1.alloc (.cells #[.slice p1 A cc1] 49 (0, 0)) := ⟨_, rfl⟩
          have bw2 : Below w1.heap.size w1 w2 := by rw [hw2]; exact alloc_below _ _
          have B2 := B1.trans (bw2.mono B1.size)
          have e2 := cell_later B1 c2
          have e3 := cell_later B2 c2
          obtain ⟨nB, hnB⟩ : ∃ nB, w1.heap.size = nB := ⟨_, rfl⟩
          have HSG : Hid (Seg w2 1 (.slice (some ⟨nB, 0, none⟩) 1 1) 1 [.slice p1 A cc1]) := hide (by rw [hw2, ← hnB]; exact Seg.news (heap_alloc_new w1 _) (by simp [Value.oneCell']) rfl (Nat.le_refl _) (by decide))
          clear hown1 b1
          refine hK _ _ ?_
          clear hK K
          refine wpAny_ready (rs := [4]) (by kernel_rfl) (by simp) ?_
          refine AllReady.cons rfl (fun K hK => ?_) ?_
          · go_simp
            rw [← hw2]
            try rw [hnB]
            refine hK _ _ ?_
            clear hK K hw2 hnB
            refine wpAny_ready (rs := [5]) (by kernel_rfl) (by simp) ?_
            refine AllReady.cons rfl (fun K hK => ?_) ?_
            rotate_left
            · exact AllReady.nil
            refine step_append_cells rfl (.tmp 23) (.tmp 26) 44 rfl W.heap.size 49 j0 (.slice none 0 0) 1 24 Tryz.underlying44 hj0 hj1 hj2 hj3 rfl (by decide) (.slice b k bq) k _ rfl (ownsRow_later HIO.out B2) (.slice (some ⟨nB, 0, none⟩) 1 1) 1 _ rfl HSG.out HK1.out HK2.out (Nat.le_trans HIB.out.size B2.size) ?_
            intro p6 c6 w6 o6 g6
            have ho6 : Only (fun i => (Value.slice b k bq).ownBlock = some i) w2 w6 := Only.of_grown (F := fun i => (Value.slice b k bq).ownBlock = some i) g6 (fun k e => e)
            have ht6 : ∀ e, 49 ≠ e → ∀ i, (Value.slice b k bq).ownBlock = some i → ∀ cur, w2.heap[i]? ≠ some (.cells cur e (0, 0)) := fun e he => row_type (ownsRow_later HIO.out B2) he
            have hbx2 := below_box B2 HBX.out
            have hbx6 := ho6.obj hbx2 (fun e => ht6 46 (by decide) cB e _ hbx2)
            have hgr := HGE.out
            obtain ⟨w7, hw7⟩ : ∃ w7, w7 = w6.setCell ⟨cB, 2, none⟩ (.slice p6 (k + 1) c6) := ⟨_, rfl⟩
            have ho7 : Only (· = cB) w6 w7 := by rw [hw7]; exact Only.set (F := (· = cB)) w6 cB 2 _ rfl
            have bw6 : Below W.heap.size W w6 := (HIB.out.trans (B2.mono HIB.out.size)).trans (ho6.below (Nat.le_trans HIB.out.size B2.size) (fun i e => own_block_base HIO.out e))
            have HI7 : Hid (CTI W w7 cB rB q qc nk tn ks xs (k + 1)) := hide ⟨own_apart (own_apart (ownsRow_later HIK.out B2) ho6 (ht6 _ (by decide))) ho7 (box_type hbx6 (by decide)), ho7.obj (ho6.obj (below_box B2 HIR.out) (fun e => ht6 46 (by decide) rB e _ (below_box B2 HIR.out))) (fun e => by have e' : rB = cB := e; exact hgr.2 e'.symm), bw6.trans (ho7.below bw6.size (fun i e => by have e' : i = cB := e; rw [e']; exact hgr.1)), p6, c6, ys ++ [⟨rs, p1, cc1⟩], by rw [hw7]; exact three_set hbx6 _, by
                rw [List.flatMap_append]
                have e9 : ([⟨rs, p1, cc1⟩] : List SV).flatMap SV.cells = [.slice p1 A cc1] := by simp [SV.cells, HA.out]
                rw [e9]
                exact own_apart o6 ho7 (box_type hbx6 (by decide)), by simp [HIL.out], by rw [List.take_add_one, HXE.out, List.map_append, HIM.out]; rfl, fun y hy => by
                have hall : SVo y w2 W.heap.size := (List.mem_append.1 hy).elim (fun h => ownsRow_later (HIE.out y h) B2) (fun h => by obtain rfl := List.mem_singleton.1 h; unfold SVo; simp only [HA.out]; exact ownsRow_later HOW1.out bw2)
                exact own_apart (own_apart hall ho6 (ht6 _ (by decide))) ho7 (box_type hbx6 (by decide))⟩
            have e6 : w6.cell? ⟨cB, 2, none⟩ = some (.slice b k bq) := (tsBox3 hbx6).2.2
            have z6 := three_fz hbx6 2
            rw [hw7] at HI7
            clear ho6 ht6 hbx2 ho7 o6 g6 hw7 hgr bw6 hbx6 w7 c0 c1 c2 e2 e3
            refine hK _ _ ?_
            clear hK K
            refine wpAny_take (i := 6) (v := ?_) rfl (by kernel_rfl) (by kernel_rfl) (by kernel_rfl) (fun _ _ _ h => h) (Or.inl ⟨by rfl, ?_⟩) ?_
            case refine_2 => intro w; go_simp; try with_reducible rfl
            refine wpAny_ready (rs := [7]) (by kernel_rfl) (by simp) ?_
            refine AllReady.cons rfl (fun K hK => ?_) ?_
            rotate_left
            · exact AllReady.nil
            go_simp
            refine hK _ _ ?_
            clear hK K
            refine wpAny_done (by kernel_rfl) ?_ _
            go_wp2
            exact ⟨⟨k + 1, by omega, by first | rfl | go_num, HI7⟩, by simp [intOf]; omega⟩
          exact AllReady.nil
        exact AllReady.nil
      refine AllReady.cons rfl (fun K hK => ?_) ?_
      · go_simp
        refine (HC.out _ B0).mono ?_
        rintro _ w1 ⟨p1, cc1, rfl, hown1, b1⟩
        have B1 : Below wq.heap.size wq w1 := B0.trans b1
        have HOW1 := hide (ownsRow_base hown1 HIB.out.size)
        obtain ⟨w2, hw2⟩ : ∃ w2, w2 = w1.alloc (.cells #[.slice p1 A cc1] 49 (0, 0)) := ⟨_, rfl⟩
        have bw2 : Below w1.heap.size w1 w2 := by rw [hw2]; exact alloc_below _ _
        have B2 := B1.trans (bw2.mono B1.size)
        have e2 := cell_later B1 c2
        have e3 := cell_later B2 c2
        obtain ⟨nB, hnB⟩ : ∃ nB, w1.heap.size = nB := ⟨_, rfl⟩
        have HSG : Hid (Seg w2 1 (.slice (some ⟨nB, 0, none⟩) 1 1) 1 [.slice p1 A cc1]) := hide (by rw [hw2, ← hnB]; exact Seg.news (heap_alloc_new w1 _) (by simp [Value.oneCell']) rfl (Nat.le_refl _) (by decide))
        clear hown1 b1
        refine hK _ _ ?_
        clear hK K
        refine wpAny_ready (rs := [1, 4]) (by kernel_rfl) (by simp) ?_
        refine AllReady.cons rfl (fun K hK => ?_) ?_
        · go_simp
          refine hK _ _ ?_
          clear hK K
          refine wpAny_ready (rs := [4]) (by kernel_rfl) (by simp) ?_
          refine AllReady.cons rfl (fun K hK => ?_) ?_
          · go_simp
            rw [← hw2]
            try rw [hnB]
            refine hK _ _ ?_
            clear hK K hw2 hnB
            refine wpAny_ready (rs := [5]) (by kernel_rfl) (by simp) ?_
            refine AllReady.cons rfl (fun K hK => ?_) ?_
            rotate_left
            · exact AllReady.nil
            refine step_append_cells rfl (.tmp 23) (.tmp 26) 44 rfl W.heap.size 49 j0 (.slice none 0 0) 1 24 Tryz.underlying44 hj0 hj1 hj2 hj3 rfl (by decide) (.slice b k bq) k _ rfl (ownsRow_later HIO.out B2) (.slice (some ⟨nB, 0, none⟩) 1 1) 1 _ rfl HSG.out HK1.out HK2.out (Nat.le_trans HIB.out.size B2.size) ?_
            intro p6 c6 w6 o6 g6
            have ho6 : Only (fun i => (Value.slice b k bq).ownBlock = some i) w2 w6 := Only.of_grown (F := fun i => (Value.slice b k bq).ownBlock = some i) g6 (fun k e => e)
            have ht6 : ∀ e, 49 ≠ e → ∀ i, (Value.slice b k bq).ownBlock = some i → ∀ cur, w2.heap[i]? ≠ some (.cells cur e (0, 0)) := fun e he => row_type (ownsRow_later HIO.out B2) he
            have hbx2 := below_box B2 HBX.out
            have hbx6 := ho6.obj hbx2 (fun e => ht6 46 (by decide) cB e _ hbx2)
            have hgr := HGE.out
            obtain ⟨w7, hw7⟩ : ∃ w7, w7 = w6.setCell ⟨cB, 2, none⟩ (.slice p6 (k + 1) c6) := ⟨_, rfl⟩
            have ho7 : Only (· = cB) w6 w7 := by rw [hw7]; exact Only.set (F := (· = cB)) w6 cB 2 _ rfl
            have bw6 : Below W.heap.size W w6 := (HIB.out.trans (B2.mono HIB.out.size)).trans (ho6.below (Nat.le_trans HIB.out.size B2.size) (fun i e => own_block_base HIO.out e))
            have HI7 : Hid (CTI W w7 cB rB q qc nk tn ks xs (k + 1)) := hide ⟨own_apart (own_apart (ownsRow_later HIK.out B2) ho6 (ht6 _ (by decide))) ho7 (box_type hbx6 (by decide)), ho7.obj (ho6.obj (below_box B2 HIR.out) (fun e => ht6 46 (by decide) rB e _ (below_box B2 HIR.out))) (fun e => by have e' : rB = cB := e; exact hgr.2 e'.symm), bw6.trans (ho7.below bw6.size (fun i e => by have e' : i = cB := e; rw [e']; exact hgr.1)), p6, c6, ys ++ [⟨rs, p1, cc1⟩], by rw [hw7]; exact three_set hbx6 _, by
                rw [List.flatMap_append]
                have e9 : ([⟨rs, p1, cc1⟩] : List SV).flatMap SV.cells = [.slice p1 A cc1] := by simp [SV.cells, HA.out]
                rw [e9]
                exact own_apart o6 ho7 (box_type hbx6 (by decide)), by simp [HIL.out], by rw [List.take_add_one, HXE.out, List.map_append, HIM.out]; rfl, fun y hy => by
                have hall : SVo y w2 W.heap.size := (List.mem_append.1 hy).elim (fun h => ownsRow_later (HIE.out y h) B2) (fun h => by obtain rfl := List.mem_singleton.1 h; unfold SVo; simp only [HA.out]; exact ownsRow_later HOW1.out bw2)
                exact own_apart (own_apart hall ho6 (ht6 _ (by decide))) ho7 (box_type hbx6 (by decide))⟩
            have e6 : w6.cell? ⟨cB, 2, none⟩ = some (.slice b k bq) := (tsBox3 hbx6).2.2
            have z6 := three_fz hbx6 2
            rw [hw7] at HI7
            clear ho6 ht6 hbx2 ho7 o6 g6 hw7 hgr bw6 hbx6 w7 c0 c1 c2 e2 e3
            refine hK _ _ ?_
            clear hK K
            refine wpAny_take (i := 6) (v := ?_) rfl (by kernel_rfl) (by kernel_rfl) (by kernel_rfl) (fun _ _ _ h => h) (Or.inl ⟨by rfl, ?_⟩) ?_
            case refine_2 => intro w; go_simp; try with_reducible rfl
            refine wpAny_ready (rs := [7]) (by kernel_rfl) (by simp) ?_
            refine AllReady.cons rfl (fun K hK => ?_) ?_
            rotate_left
            · exact AllReady.nil
            go_simp
            refine hK _ _ ?_
            clear hK K
            refine wpAny_done (by kernel_rfl) ?_ _
            go_wp2
            exact ⟨⟨k + 1, by omega, by first | rfl | go_num, HI7⟩, by simp [intOf]; omega⟩
          exact AllReady.nil
        refine AllReady.cons rfl (fun K hK => ?_) ?_
        · go_simp
          rw [← hw2]
          try rw [hnB]
          refine hK _ _ ?_
          clear hK K hw2 hnB
          refine wpAny_ready (rs := [1]) (by kernel_rfl) (by simp) ?_
          refine AllReady.cons rfl (fun K hK => ?_) ?_
          · go_simp
            refine hK _ _ ?_
            clear hK K
            refine wpAny_ready (rs := [5]) (by kernel_rfl) (by simp) ?_
            refine AllReady.cons rfl (fun K hK => ?_) ?_
            rotate_left
            · exact AllReady.nil
            refine step_append_cells rfl (.tmp 23) (.tmp 26) 44 rfl W.heap.size 49 j0 (.slice none 0 0) 1 24 Tryz.underlying44 hj0 hj1 hj2 hj3 rfl (by decide) (.slice b k bq) k _ rfl (ownsRow_later HIO.out B2) (.slice (some ⟨nB, 0, none⟩) 1 1) 1 _ rfl HSG.out HK1.out HK2.out (Nat.le_trans HIB.out.size B2.size) ?_
            intro p6 c6 w6 o6 g6
            have ho6 : Only (fun i => (Value.slice b k bq).ownBlock = some i) w2 w6 := Only.of_grown (F := fun i => (Value.slice b k bq).ownBlock = some i) g6 (fun k e => e)
            have ht6 : ∀ e, 49 ≠ e → ∀ i, (Value.slice b k bq).ownBlock = some i → ∀ cur, w2.heap[i]? ≠ some (.cells cur e (0, 0)) := fun e he => row_type (ownsRow_later HIO.out B2) he
            have hbx2 := below_box B2 HBX.out
            have hbx6 := ho6.obj hbx2 (fun e => ht6 46 (by decide) cB e _ hbx2)
            have hgr := HGE.out
            obtain ⟨w7, hw7⟩ : ∃ w7, w7 = w6.setCell ⟨cB, 2, none⟩ (.slice p6 (k + 1) c6) := ⟨_, rfl⟩
            have ho7 : Only (· = cB) w6 w7 := by rw [hw7]; exact Only.set (F := (· = cB)) w6 cB 2 _ rfl
            have bw6 : Below W.heap.size W w6 := (HIB.out.trans (B2.mono HIB.out.size)).trans (ho6.below (Nat.le_trans HIB.out.size B2.size) (fun i e => own_block_base HIO.out e))
            have HI7 : Hid (CTI W w7 cB rB q qc nk tn ks xs (k + 1)) := hide ⟨own_apart (own_apart (ownsRow_later HIK.out B2) ho6 (ht6 _ (by decide))) ho7 (box_type hbx6 (by decide)), ho7.obj (ho6.obj (below_box B2 HIR.out) (fun e => ht6 46 (by decide) rB e _ (below_box B2 HIR.out))) (fun e => by have e' : rB = cB := e; exact hgr.2 e'.symm), bw6.trans (ho7.below bw6.size (fun i e => by have e' : i = cB := e; rw [e']; exact hgr.1)), p6, c6, ys ++ [⟨rs, p1, cc1⟩], by rw [hw7]; exact three_set hbx6 _, by
                rw [List.flatMap_append]
                have e9 : ([⟨rs, p1, cc1⟩] : List SV).flatMap SV.cells = [.slice p1 A cc1] := by simp [SV.cells, HA.out]
                rw [e9]
                exact own_apart o6 ho7 (box_type hbx6 (by decide)), by simp [HIL.out], by rw [List.take_add_one, HXE.out, List.map_append, HIM.out]; rfl, fun y hy => by
                have hall : SVo y w2 W.heap.size := (List.mem_append.1 hy).elim (fun h => ownsRow_later (HIE.out y h) B2) (fun h => by obtain rfl := List.mem_singleton.1 h; unfold SVo; simp only [HA.out]; exact ownsRow_later HOW1.out bw2)
                exact own_apart (own_apart hall ho6 (ht6 _ (by decide))) ho7 (box_type hbx6 (by decide))⟩
            have e6 : w6.cell? ⟨cB, 2, none⟩ = some (.slice b k bq) := (tsBox3 hbx6).2.2
            have z6 := three_fz hbx6 2
            rw [hw7] at HI7
            clear ho6 ht6 hbx2 ho7 o6 g6 hw7 hgr bw6 hbx6 w7 c0 c1 c2 e2 e3
            refine hK _ _ ?_
            clear hK K
            refine wpAny_take (i := 6) (v := ?_) rfl (by kernel_rfl) (by kernel_rfl) (by kernel_rfl) (fun _ _ _ h => h) (Or.inl ⟨by rfl, ?_⟩) ?_
            case refine_2 => intro w; go_simp; try with_reducible rfl
            refine wpAny_ready (rs := [7]) (by kernel_rfl) (by simp) ?_
            refine AllReady.cons rfl (fun K hK => ?_) ?_
            rotate_left
            · exact AllReady.nil
            go_simp
            refine hK _ _ ?_
            clear hK K
            refine wpAny_done (by kernel_rfl) ?_ _
            go_wp2
            exact ⟨⟨k + 1, by omega, by first | rfl | go_num, HI7⟩, by simp [intOf]; omega⟩
          exact AllReady.nil
        exact AllReady.nil
      exact AllReady.nil
    · obtain rfl : k = nb := by omega
      obtain ⟨f0, f1, f2⟩ := tsBox3 HIR.out
      have z0 := three_fz HIR.out 0
      have z1 := three_fz HIR.out 1
      have z2 := three_fz HIR.out 2
      have HQ : Hid (∃ y : TV, Ending.returned (.agg #[.slice q nk qc, .int .i64 tn, .slice b k bq]) = .returned (.agg #[.slice y.kp nk y.kc, .int .i64 tn, .slice y.bp k y.bc]) ∧ y.ks.length = nk ∧ y.xs.length = k ∧ y.plain = ⟨ks, tn, xs.map SV.rs⟩ ∧ y.tn = tn ∧ TVo y wq W.heap.size) := hide ⟨⟨ks, q, qc, tn, ys, b, bq⟩, rfl, HNK.out, HIL.out, by
          unfold TV.plain
          simp only [TP.mk.injEq, true_and]
          rw [HIM.out, List.take_of_length_le (by rw [List.length_map, HNB.out]; exact Nat.le_refl _)], rfl, ⟨by rw [HNK.out]; exact HIK.out, by rw [HIL.out]; exact HIO.out, HIE.out⟩⟩
      have ho9 : Only (· = rB) wq (((wq.setCell ⟨rB, 0, none⟩ (.slice q nk qc)).setCell ⟨rB, 1, none⟩ (.int .i64 tn)).setCell ⟨rB, 2, none⟩ (.slice b k bq)) := ((Only.set (F := (· = rB)) wq rB 0 _ rfl).trans (Only.set (F := (· = rB)) _ rB 1 _ rfl)).trans (Only.set (F := (· = rB)) _ rB 2 _ rfl)
      have HO9 := hide ho9
      have HE9 : Hid ((((wq.setCell ⟨rB, 0, none⟩ (.slice q nk qc)).setCell ⟨rB, 1, none⟩ (.int .i64 tn)).setCell ⟨rB, 2, none⟩ (.slice b k bq)).heap[rB]? = some (.cells #[.slice q nk qc, .int .i64 tn, .slice b k bq] 46 (0, 0))) := hide (heap_setCell_same _ rB 2 _ _ _ (heap_setCell_same _ rB 1 _ _ _ (heap_setCell_same wq rB 0 _ _ _ HIR.out)))
      clear ho9
      go_wp2
      refine bodyPost_ret (results_cell_row rfl _ _ rB 46 _ _ _ rfl HE9.out Tryz.underlying46 rfl (by kernel_rfl)) rfl ?_
      obtain ⟨y, y1, y2, y3, y4, y5, y6⟩ := HQ.out
      refine ⟨y, y1, y2, y3, y4, y5, ?_, HIB.out.trans (HO9.out.below HIB.out.size (fun i e => by have e' : i = rB := e; have := HOC.out; omega))⟩
      have hty : Safe (· = rB) wq := safe_box HIR.out (by decide)
      exact TVo.only y6 HO9.out hty
end Go.Proofs.YtlfipmieaabagaaGreat
