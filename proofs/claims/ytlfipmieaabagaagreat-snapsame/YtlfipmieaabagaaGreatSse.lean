/-
  Which lists are the same, by the reference of run and oper: SameRecords, SameLists, Same of operators' states. The conditions: none.
-/
import Derived.Test.YtlfipmieaabagaaGreatSnk
import Derived.BigQuiet
import Derived.BigRegion
namespace Go.Proofs.YtlfipmieaabagaaGreat
open Go.RowKit Go.Shelf

theorem below_drewN {n : Nat} {A B : World} (h : Below n A B) (k : Nat) : Below n A (B.drewN k) := ⟨h.os, h.tape, h.output, h.size, h.block⟩
theorem take_same {α : Type} [Inhabited α] {a b : List α} {k : Nat} {x y : α} (h : a.take k = b.take k) (ha : k < a.length) (hb : k < b.length) (hx : a[k]! = x) (hy : b[k]! = y) : a.take (k + 1) = b.take (k + 1) ↔ x = y := by
  rw [getElem!_pos a k ha] at hx
  rw [getElem!_pos b k hb] at hy
  rw [List.take_succ_eq_append_getElem ha, List.take_succ_eq_append_getElem hb, h, hx, hy]
  simp
set_option maxRecDepth 100000 in
set_option maxHeartbeats 4000000 in
theorem samerec_all {W : World} {p1 p2 : Option Addr} {c1 c2 L M : Nat} {es fs : List RC} (h1 : RRow W p1 c1 es) (h2 : RRow W p2 c2 fs) (hL : es.length = L) (hM : fs.length = M) {rb : Bool} (hrb : decide (es = fs) = rb) :
    Calls Tryz.prog 117 #[.slice p1 L c1, .slice p2 M c2] W fun e w' => e = .returned (.bool rb) ∧ Below W.heap.size W w' := by
  have i1 := h1.le
  have i2 := h1.top
  have i3 := h2.le
  have i4 := h2.top
  rw [hL] at i1
  rw [hM] at i3
  by_cases hLM : L = M
  · subst hLM
    have H1 := hide h1
    have H2 := hide h2
    have HL := hide hL
    have HM := hide hM
    have HRB := hide hrb
    clear h1 h2 hL hM hrb
    go_enter Tryz.func117, Tryz.ntmps117
    go_wp2_with fail
    go_loopw [5] (fun i wr => ∃ k : Nat, k ≤ L ∧ i = .int .i64 (k : Int) ∧ Hid (es.take k = fs.take k) ∧ Hid (Below W.heap.size W wr)) (fun i _ => L - (intOf i).toNat)
    case atStart => exact ⟨0, Nat.zero_le _, rfl, hide rfl, hide (Below.refl _ _)⟩
    case round =>
      obtain ⟨k, hk, rfl, HT, HB⟩ := hrel
      rename World => wr
      by_cases hlt : k < L
      · have hlt2 : k < es.length := by rw [HL.out]; exact hlt
        have hlt3 : k < fs.length := by rw [HM.out]; exact hlt
        obtain ⟨x, hx⟩ : ∃ x, es[k]! = x := ⟨_, rfl⟩
        obtain ⟨y, hy⟩ : ∃ y, fs[k]! = y := ⟨_, rfl⟩
        obtain ⟨g1, o1, rfl, a0, a1⟩ := (RRow.later H1.out HB.out).at hlt2 hx
        obtain ⟨g2, o2, rfl, b0, b1⟩ := (RRow.later H2.out HB.out).at hlt3 hy
        have HTS := hide (take_same HT.out hlt2 hlt3 hx hy)
        obtain ⟨x0, x1⟩ := x
        obtain ⟨y0, y1⟩ := y
        simp only at a0 a1 b0 b1
        have HX := hide hx
        have HY := hide hy
        clear hx hy hlt2 hlt3
        by_cases he : x0 = y0 ∧ x1 = y1
        · obtain ⟨rfl, rfl⟩ := he
          have HT2 := hide (HTS.out.2 rfl)
          go_upto_region 6 with fail
          go_big_quiet (fail)
          go_wp2
          exact ⟨⟨k + 1, by omega, by first | rfl | go_num, HT2, hide (below_drewN HB.out _)⟩, by simp [intOf]; omega⟩
        · have HF : Hid (false = rb) := hide (by
            rw [← HRB.out]
            symm
            apply decide_eq_false
            intro h9
            subst h9
            have h8 := HX.out.symm.trans HY.out
            simp only [RC.mk.injEq] at h8
            exact he h8)
          by_cases h0 : x0 = y0
          · subst h0
            have e1 := ne_eq (fun h : x1 = y1 => he ⟨rfl, h⟩)
            clear he
            go_upto_region 6 with fail
            go_big_quiet (fail)
            go_wp2
            go_ret
            exact ⟨by rw [HF.out]; rfl, below_drewN HB.out _⟩
          · have e1 := ne_eq h0
            clear he
            go_upto_region 6 with fail
            go_big_quiet (fail)
            go_wp2
            go_ret
            exact ⟨by rw [HF.out]; rfl, below_drewN HB.out _⟩
      · obtain rfl : k = L := by omega
        have HF : Hid (true = rb) := hide (by
          rw [← HRB.out]
          symm
          apply decide_eq_true
          have h9 := HT.out
          rw [List.take_of_length_le (by rw [HL.out]; exact Nat.le_refl _), List.take_of_length_le (by rw [HM.out]; exact Nat.le_refl _)] at h9
          exact h9)
        go_wp2
        go_ret
        exact ⟨by rw [HF.out]; rfl, HB.out⟩
  · have e1 : (L == M) = false := by simpa using hLM
    have e2 : ((L : Int) == (M : Int)) = false := ne_eq (fun h => hLM (by omega))
    have HF : Hid (false = rb) := hide (by
      rw [← hrb]
      symm
      apply decide_eq_false
      intro h9
      subst h9
      exact hLM (hL.symm.trans hM))
    clear h1 h2 hL hM hrb hLM
    go_enter Tryz.func117, Tryz.ntmps117
    go_wp2
    go_ret
    exact ⟨by rw [HF.out]; rfl, Below.refl _ _⟩
end Go.Proofs.YtlfipmieaabagaaGreat

/-
  Which lists of lists are the same, by the reference of run: SameLists. The conditions: none.
-/
namespace Go.Proofs.YtlfipmieaabagaaGreat
open Go.RowKit Go.Shelf

set_option maxRecDepth 100000 in
set_option maxHeartbeats 4000000 in
theorem samelists_all {W : World} {p1 p2 : Option Addr} {c1 c2 L M : Nat} {xs ys : List SV} (h1 : LL W p1 c1 xs) (h2 : LL W p2 c2 ys) (hL : xs.length = L) (hM : ys.length = M) {rb : Bool} (hrb : decide (xs.map SV.rs = ys.map SV.rs) = rb) :
    Calls Tryz.prog 98 #[.slice p1 L c1, .slice p2 M c2] W fun e w' => e = .returned (.bool rb) ∧ Below W.heap.size W w' := by
  have i1 := h1.row.le
  have i2 := h1.row.top
  have i3 := h2.row.le
  have i4 := h2.row.top
  rw [hL] at i1
  rw [hM] at i3
  by_cases hLM : L = M
  · subst hLM
    have H1 := hide h1
    have H2 := hide h2
    have HL := hide hL
    have HM := hide hM
    have HRB := hide hrb
    clear h1 h2 hL hM hrb
    go_enter Tryz.func98, Tryz.ntmps98
    go_wp2_with fail
    go_loopw [5] (fun i wr => ∃ k : Nat, k ≤ L ∧ i = .int .i64 (k : Int) ∧ Hid ((xs.map SV.rs).take k = (ys.map SV.rs).take k) ∧ Hid (Below W.heap.size W wr)) (fun i _ => L - (intOf i).toNat)
    case atStart => exact ⟨0, Nat.zero_le _, rfl, hide rfl, hide (Below.refl _ _)⟩
    case round =>
      obtain ⟨k, hk, rfl, HT, HB⟩ := hrel
      rename World => wr
      by_cases hlt : k < L
      · have hlt2 : k < xs.length := by rw [HL.out]; exact hlt
        have hlt3 : k < ys.length := by rw [HM.out]; exact hlt
        obtain ⟨x, hx⟩ : ∃ x, xs[k]! = x := ⟨_, rfl⟩
        obtain ⟨y, hy⟩ : ∃ y, ys[k]! = y := ⟨_, rfl⟩
        have hxm : x ∈ xs := by rw [← hx, getElem!_pos xs k hlt2]; exact List.getElem_mem _
        have hym : y ∈ ys := by rw [← hy, getElem!_pos ys k hlt3]; exact List.getElem_mem _
        obtain ⟨xq, hxq⟩ : ∃ q, SV.rs x = q := ⟨_, rfl⟩
        obtain ⟨yq, hyq⟩ : ∃ q, SV.rs y = q := ⟨_, rfl⟩
        have HX : Hid ((xs.map SV.rs)[k]? = some xq) := hide (by rw [← hxq, List.getElem?_map, List.getElem?_eq_getElem hlt2, ← hx, getElem!_pos xs k hlt2]; rfl)
        have HY : Hid ((ys.map SV.rs)[k]? = some yq) := hide (by rw [← hyq, List.getElem?_map, List.getElem?_eq_getElem hlt3, ← hy, getElem!_pos ys k hlt3]; rfl)
        have hok1 := (H1.out.later HB.out).ok x hxm
        have hok2 := (H2.out.later HB.out).ok y hym
        obtain ⟨rb1, hrb1⟩ : ∃ rb1, decide (SV.rs x = SV.rs y) = rb1 := ⟨_, rfl⟩
        have HR1 : Hid (decide (xq = yq) = rb1) := hide (by rw [← hxq, ← hyq]; exact hrb1)
        clear hxq hyq
        obtain ⟨g1, o1, rfl, a0⟩ := (H1.out.later HB.out).at (i := k) (by rw [HL.out]; exact hlt)
        obtain ⟨g2, o2, rfl, b0⟩ := (H2.out.later HB.out).at (i := k) (by rw [HM.out]; exact hlt)
        rw [hx] at a0
        rw [hy] at b0
        obtain ⟨rs, xp, xc⟩ := x
        obtain ⟨ss, yp, yc⟩ := y
        simp only at a0 b0 hrb1
        obtain ⟨A, hA⟩ : ∃ A, rs.length = A := ⟨_, rfl⟩
        obtain ⟨D, hD⟩ : ∃ D, ss.length = D := ⟨_, rfl⟩
        rw [hA] at a0
        rw [hD] at b0
        have HC : Hid (∀ X, Below wr.heap.size wr X → Calls Tryz.prog 117 #[.slice xp A xc, .slice yp D yc] X fun e w' => e = .returned (.bool rb1) ∧ Below X.heap.size X w') := hide (fun X hX => samerec_all (RRow.later hok1 hX) (RRow.later hok2 hX) hA hD hrb1)
        clear hA hD
        clear hx hy hxm hym hlt2 hlt3 hok1 hok2 hrb1
        go_upto_region 6 with fail
        refine wp_region_held_drew (S := fun w' => w'.cell? ⟨g1, o1 + k, none⟩ = some (.slice xp A xc) ∧ w'.cell? ⟨g2, o2 + k, none⟩ = some (.slice yp D yc)) (by kernel_rfl) ⟨a0, b0⟩ (fun hHeld => ?_)
        refine wpAnyH_take (i := 0) (oi := _) (v := ?_) rfl (by kernel_rfl) (by kernel_rfl) (by kernel_rfl) (fun _ _ _ h => h) (Or.inl ⟨by rfl, ?_⟩) (by assumption) ?_
        rotate_left
        · intro w hSw
          (try dsimp only at hSw)
          go_simp
          all_goals with_reducible rfl
        simp only [Act.put, List.setIfInBounds_toArray] --TAKE 1
        refine wpAnyH_take (i := 1) (oi := _) (v := ?_) rfl (by kernel_rfl) (by kernel_rfl) (by kernel_rfl) (fun _ _ _ h => h) (Or.inl ⟨by rfl, ?_⟩) (by assumption) ?_
        rotate_left
        · intro w hSw
          (try dsimp only at hSw)
          go_simp
          all_goals with_reducible rfl
        simp only [Act.put] --TAKE 2
        refine wpAnyH_take (i := 2) (oi := _) (v := ?_) rfl (by kernel_rfl) (by kernel_rfl) (by kernel_rfl) (fun _ _ _ h => h) (Or.inl ⟨by rfl, ?_⟩) (by assumption) ?_
        rotate_left
        · intro w hSw
          (try dsimp only at hSw)
          go_simp
          all_goals with_reducible rfl
        simp only [Act.put] --TAKE 3
        refine wpAnyH_take (i := 3) (oi := _) (v := ?_) rfl (by kernel_rfl) (by kernel_rfl) (by kernel_rfl) (fun _ _ _ h => h) (Or.inl ⟨by rfl, ?_⟩) (by assumption) ?_
        rotate_left
        · intro w hSw
          (try dsimp only at hSw)
          go_simp
          all_goals with_reducible rfl
        simp only [Act.put] --TAKE 4
        refine wpAnyH_take (i := 4) (oi := _) (v := ?_) rfl (by kernel_rfl) (by kernel_rfl) (by kernel_rfl) (fun _ _ _ h => h) (Or.inl ⟨by rfl, ?_⟩) (by assumption) ?_
        rotate_left
        · intro w hSw
          (try dsimp only at hSw)
          go_simp
          all_goals with_reducible rfl
        simp only [Act.put] --TAKE 5
        refine wpAnyH_take (i := 5) (oi := _) (v := ?_) rfl (by kernel_rfl) (by kernel_rfl) (by kernel_rfl) (fun _ _ _ h => h) (Or.inl ⟨by rfl, ?_⟩) (by assumption) ?_
        rotate_left
        · intro w hSw
          (try dsimp only at hSw)
          go_simp
          all_goals with_reducible rfl
        simp only [Act.put] --TAKE 6
        refine wpAnyH_take (i := 6) (oi := _) (v := ?_) rfl (by kernel_rfl) (by kernel_rfl) (by kernel_rfl) (fun _ _ _ h => h) (Or.inl ⟨by rfl, ?_⟩) (by assumption) ?_
        rotate_left
        · intro w hSw
          (try dsimp only at hSw)
          go_simp
          all_goals with_reducible rfl
        simp only [Act.put] --TAKE 7
        refine wpAnyH_take (i := 7) (oi := _) (v := ?_) rfl (by kernel_rfl) (by kernel_rfl) (by kernel_rfl) (fun _ _ _ h => h) (Or.inl ⟨by rfl, ?_⟩) (by assumption) ?_
        rotate_left
        · intro w hSw
          (try dsimp only at hSw)
          go_simp
          all_goals with_reducible rfl
        simp only [Act.put] --TAKE 8
        refine wpAnyH_ready (rs := [8]) (by kernel_rfl) (by simp) ?_
        refine AllReadyH.cons (o := _) rfl (fun K hK => ?_) AllReadyH.nil
        go_simp
        refine (HC.out _ (Below.refl _ wr).drew).mono ?_
        rintro _ w2 ⟨rfl, b2⟩
        have B2 : Below wr.heap.size wr w2 := (Below.refl _ wr).drew.trans b2
        go_wp2_with fail
        refine hK.out _ _ ⟨cell_later B2 a0, cell_later B2 b0⟩ (fun hHeld => ?_)
        clear hK
        refine wpAnyH_take (i := 9) (oi := _) (v := ?_) rfl (by kernel_rfl) (by kernel_rfl) (by kernel_rfl) (fun _ _ _ h => h) (Or.inl ⟨by rfl, ?_⟩) (by assumption) ?_
        rotate_left
        · intro w hSw
          (try dsimp only at hSw)
          go_simp
          all_goals with_reducible rfl
        simp only [Act.put, List.setIfInBounds_toArray] --TAKE 9
        refine wpAnyH_done (by kernel_rfl) ?_ _
        have HB2 := hide (HB.out.trans (B2.mono HB.out.size))
        clear b2 B2 hHeld HC
        cases rb1 with
        | true =>
          have HT2 : Hid ((xs.map SV.rs).take (k + 1) = (ys.map SV.rs).take (k + 1)) := hide (by
            have h9 : xq = yq := of_decide_eq_true HR1.out
            rw [List.take_add_one, List.take_add_one, HT.out, HX.out, HY.out, h9])
          go_wp2
          exact ⟨⟨k + 1, by omega, by first | rfl | go_num, HT2, HB2⟩, by simp [intOf]; omega⟩
        | false =>
          have HF : Hid (false = rb) := hide (by
            rw [← HRB.out]
            symm
            apply decide_eq_false
            intro h9
            have h8 := HX.out
            rw [h9, HY.out] at h8
            exact absurd (Option.some.inj h8).symm (of_decide_eq_false HR1.out))
          go_wp2
          go_ret
          exact ⟨by rw [HF.out]; rfl, HB2.out⟩
      · obtain rfl : k = L := by omega
        have HF : Hid (true = rb) := hide (by
          rw [← HRB.out]
          symm
          apply decide_eq_true
          have h9 := HT.out
          rw [List.take_of_length_le (by rw [List.length_map, HL.out]; exact Nat.le_refl _), List.take_of_length_le (by rw [List.length_map, HM.out]; exact Nat.le_refl _)] at h9
          exact h9)
        go_wp2
        go_ret
        exact ⟨by rw [HF.out]; rfl, HB.out⟩
  · have e1 : (L == M) = false := by simpa using hLM
    have e2 : ((L : Int) == (M : Int)) = false := ne_eq (fun h => hLM (by omega))
    have HF : Hid (false = rb) := hide (by
      rw [← hrb]
      symm
      apply decide_eq_false
      intro h9
      have h8 := congrArg List.length h9
      rw [List.length_map, List.length_map, hL, hM] at h8
      exact hLM h8)
    clear h1 h2 hL hM hrb hLM
    go_enter Tryz.func98, Tryz.ntmps98
    go_wp2
    go_ret
    exact ⟨by rw [HF.out]; rfl, Below.refl _ _⟩
end Go.Proofs.YtlfipmieaabagaaGreat

/-
  Which states of operators and tasks are the same, by the references of oper and run. The conditions: none.
-/
namespace Go.Proofs.YtlfipmieaabagaaGreat
open Go.RowKit Go.Shelf

theorem krow_at {W : World} {p : Option Addr} {cap : Nat} {ks : List Op.KS} (h : Op.KRow W p cap ks) {i : Nat} (hi : i < ks.length) {x : Op.KS} (hx : ks[i]! = x) : ∃ g o, p = some ⟨g, o, none⟩ ∧ W.cell? ⟨g, o + i * 3, none⟩ = some (.int .i64 x.key) ∧ W.cell? ⟨g, o + i * 3 + 1, none⟩ = some (.int .i64 x.cnt) ∧ W.cell? ⟨g, o + i * 3 + 2, none⟩ = some (.int .i64 x.acc) := by
  obtain ⟨_, _, _, h4⟩ := h
  obtain ⟨g, o, e, hc⟩ := h4 i hi
  rw [hx] at hc
  exact ⟨g, o, e, hc 0 (by decide), hc 1 (by decide), hc 2 (by decide)⟩
set_option maxRecDepth 100000 in
set_option maxHeartbeats 8000000 in
theorem opsame_all {W : World} {p1 p2 : Option Addr} {c1 c2 L M : Nat} {tn tm : Int} {es fs : List Op.KS} (h1 : Op.KRow W p1 c1 es) (h2 : Op.KRow W p2 c2 fs) (hL : es.length = L) (hM : fs.length = M) {rb : Bool} (hrb : decide (tn = tm ∧ es = fs) = rb) :
    Calls Tryz.prog 97 #[.agg #[.slice p1 L c1, .int .i64 tn], .agg #[.slice p2 M c2, .int .i64 tm]] W fun e w' => e = .returned (.bool rb) ∧ Below W.heap.size W w' := by
  obtain ⟨V, hV⟩ : ∃ V, V = (W.alloc (.cells #[.slice p1 L c1, .int .i64 tn] 43 (0, 0))).alloc (.cells #[.slice p2 M c2, .int .i64 tm] 43 (0, 0)) := ⟨_, rfl⟩
  have a1 := alloc_below W (.cells #[.slice p1 L c1, .int .i64 tn] 43 (0, 0))
  have a2 := alloc_below (W.alloc (.cells #[.slice p1 L c1, .int .i64 tn] 43 (0, 0))) (.cells #[.slice p2 M c2, .int .i64 tm] 43 (0, 0))
  have bV : Below W.heap.size W V := by rw [hV]; exact a1.trans (a2.mono a1.size)
  obtain ⟨aB, haB⟩ : ∃ aB, W.heap.size = aB := ⟨_, rfl⟩
  obtain ⟨bB, hbB⟩ : ∃ bB, aB + 1 = bB := ⟨_, rfl⟩
  have u0 : V.heap[aB]? = some (.cells #[.slice p1 L c1, .int .i64 tn] 43 (0, 0)) := by rw [hV, ← haB]; exact below_box a2 (heap_alloc_new W _)
  have u1 : V.heap[bB]? = some (.cells #[.slice p2 M c2, .int .i64 tm] 43 (0, 0)) := by
    have e : bB = (W.alloc (.cells #[.slice p1 L c1, .int .i64 tn] 43 (0, 0))).heap.size := by rw [← hbB, ← haB]; simp
    rw [hV, e]
    exact heap_alloc_new _ _
  obtain ⟨x0, x1⟩ := box2 u0
  obtain ⟨y0, y1⟩ := box2 u1
  have i1 := h1.1
  have i2 := h1.2.1
  have i3 := h2.1
  have i4 := h2.2.1
  rw [hL] at i1
  rw [hM] at i3
  have HBV := hide bV
  have H1 := hide (Op.KRow.later h1 bV)
  have H2 := hide (Op.KRow.later h2 bV)
  have HL := hide hL
  have HM := hide hM
  have HRB := hide hrb
  clear h1 h2 hL hM hrb a1 a2 bV u0 u1
  go_enter Tryz.func97, Tryz.ntmps97
  go_upto_region 1 with fail
  rw [← hV]
  try rw [haB]
  try rw [hbB]
  clear hV haB hbB
  by_cases ht : tn = tm
  · subst ht
    by_cases hLM : L = M
    · subst hLM
      go_wp2_with fail
      go_loopw [5] (fun i wr => ∃ k : Nat, k ≤ L ∧ i = .int .i64 (k : Int) ∧ Hid (es.take k = fs.take k) ∧ Hid (Below V.heap.size V wr)) (fun i _ => L - (intOf i).toNat)
      case atStart => exact ⟨0, Nat.zero_le _, rfl, hide rfl, hide (Below.refl _ _)⟩
      case round =>
        obtain ⟨k, hk, rfl, HT, HB⟩ := hrel
        rename World => wr
        have z0 := cell_later HB.out x0
        have z1 := cell_later HB.out y0
        by_cases hlt : k < L
        · have hlt2 : k < es.length := by rw [HL.out]; exact hlt
          have hlt3 : k < fs.length := by rw [HM.out]; exact hlt
          obtain ⟨x, hx⟩ : ∃ x, es[k]! = x := ⟨_, rfl⟩
          obtain ⟨y, hy⟩ : ∃ y, fs[k]! = y := ⟨_, rfl⟩
          obtain ⟨g1, o1, rfl, a0, a1, a2⟩ := krow_at (Op.KRow.later H1.out HB.out) hlt2 hx
          obtain ⟨g2, o2, rfl, b0, b1, b2⟩ := krow_at (Op.KRow.later H2.out HB.out) hlt3 hy
          have HTS := hide (take_same HT.out hlt2 hlt3 hx hy)
          have HX := hide hx
          have HY := hide hy
          obtain ⟨k0, k1, k2⟩ := x
          obtain ⟨m0, m1, m2⟩ := y
          simp only at a0 a1 a2 b0 b1 b2
          clear hx hy hlt2 hlt3
          have HNE : Hid (¬ (k0 = m0 ∧ k1 = m1 ∧ k2 = m2) → false = rb) := hide (fun he => by
            rw [← HRB.out]
            symm
            apply decide_eq_false
            rintro ⟨_, h9⟩
            subst h9
            have h8 := HX.out.symm.trans HY.out
            simp only [Op.KS.mk.injEq] at h8
            exact he h8)
          have HBF : Hid (∀ j, Below W.heap.size W (wr.drewN j)) := hide (fun j => below_drewN (HBV.out.trans (HB.out.mono HBV.out.size)) j)
          by_cases q0 : k0 = m0
          · subst q0
            by_cases q1 : k1 = m1
            · subst q1
              by_cases q2 : k2 = m2
              · subst q2
                have HT2 := hide (HTS.out.2 rfl)
                go_upto_region 6 with fail
                go_big_quiet (fail)
                go_wp2
                exact ⟨⟨k + 1, by omega, by first | rfl | go_num, HT2, hide (below_drewN HB.out _)⟩, by simp [intOf]; omega⟩
              · have e1 := ne_eq q2
                have HF := hide (HNE.out (fun h => q2 h.2.2))
                clear q2
                go_upto_region 6 with fail
                go_big_quiet (fail)
                go_wp2
                go_ret
                exact ⟨by rw [HF.out]; rfl, HBF.out _⟩
            · have e1 := ne_eq q1
              have HF := hide (HNE.out (fun h => q1 h.2.1))
              clear q1
              go_upto_region 6 with fail
              go_big_quiet (fail)
              go_wp2
              go_ret
              exact ⟨by rw [HF.out]; rfl, HBF.out _⟩
          · have e1 := ne_eq q0
            have HF := hide (HNE.out (fun h => q0 h.1))
            clear q0
            go_upto_region 6 with fail
            go_big_quiet (fail)
            go_wp2
            go_ret
            exact ⟨by rw [HF.out]; rfl, HBF.out _⟩
        · obtain rfl : k = L := by omega
          have HF : Hid (true = rb) := hide (by
            rw [← HRB.out]
            symm
            apply decide_eq_true
            have h9 := HT.out
            rw [List.take_of_length_le (by rw [HL.out]; exact Nat.le_refl _), List.take_of_length_le (by rw [HM.out]; exact Nat.le_refl _)] at h9
            exact ⟨by first | rfl | trivial, h9⟩)
          go_wp2
          go_ret
          exact ⟨by rw [HF.out]; rfl, HBV.out.trans (HB.out.mono HBV.out.size)⟩
    · have e1 : (L == M) = false := by simpa using hLM
      have e2 : ((L : Int) == (M : Int)) = false := ne_eq (fun h => hLM (by omega))
      have HF : Hid (false = rb) := hide (by
        rw [← HRB.out]
        symm
        apply decide_eq_false
        rintro ⟨_, h9⟩
        subst h9
        exact hLM (HL.out.symm.trans HM.out))
      clear hLM
      go_wp2
      go_ret
      exact ⟨by rw [HF.out]; rfl, HBV.out⟩
  · have e1 := ne_eq ht
    have HF : Hid (false = rb) := hide (by
      rw [← HRB.out]
      symm
      exact decide_eq_false (fun h => ht h.1))
    clear ht
    go_wp2
    go_ret
    exact ⟨by rw [HF.out]; rfl, HBV.out⟩
instance : DecidableEq TP := fun a b =>
  if h : a.ks = b.ks ∧ a.tn = b.tn ∧ a.bs = b.bs then isTrue (by obtain ⟨a1, a2, a3⟩ := a; obtain ⟨b1, b2, b3⟩ := b; simp only at h; obtain ⟨rfl, rfl, rfl⟩ := h; rfl)
  else isFalse (fun e => h (by rw [e]; exact ⟨rfl, rfl, rfl⟩))
set_option maxRecDepth 100000 in
set_option maxHeartbeats 8000000 in
theorem tsame_all {W : World} {kp bp jp dp : Option Addr} {nk kc nb bc mk jc md dc : Nat} {tn tm : Int} {ks js : List Op.KS} {xs ys : List SV} (h1 : Op.KRow W kp kc ks) (h2 : Op.KRow W jp jc js) (h3 : LL W bp bc xs) (h4 : LL W dp dc ys) (hn1 : ks.length = nk) (hn2 : js.length = mk) (hn3 : xs.length = nb) (hn4 : ys.length = md) {rb : Bool} (hrb : decide ((⟨ks, tn, xs.map SV.rs⟩ : TP) = ⟨js, tm, ys.map SV.rs⟩) = rb) :
    Calls Tryz.prog 60 #[.agg #[.slice kp nk kc, .int .i64 tn, .slice bp nb bc], .agg #[.slice jp mk jc, .int .i64 tm, .slice dp md dc]] W fun e w' => e = .returned (.bool rb) ∧ Below W.heap.size W w' := by
  obtain ⟨V, hV⟩ : ∃ V, V = (W.alloc (.cells #[.slice kp nk kc, .int .i64 tn, .slice bp nb bc] 46 (0, 0))).alloc (.cells #[.slice jp mk jc, .int .i64 tm, .slice dp md dc] 46 (0, 0)) := ⟨_, rfl⟩
  have a1 := alloc_below W (.cells #[.slice kp nk kc, .int .i64 tn, .slice bp nb bc] 46 (0, 0))
  have a2 := alloc_below (W.alloc (.cells #[.slice kp nk kc, .int .i64 tn, .slice bp nb bc] 46 (0, 0))) (.cells #[.slice jp mk jc, .int .i64 tm, .slice dp md dc] 46 (0, 0))
  have bV : Below W.heap.size W V := by rw [hV]; exact a1.trans (a2.mono a1.size)
  obtain ⟨aB, haB⟩ : ∃ aB, W.heap.size = aB := ⟨_, rfl⟩
  obtain ⟨bB, hbB⟩ : ∃ bB, aB + 1 = bB := ⟨_, rfl⟩
  have u0 : V.heap[aB]? = some (.cells #[.slice kp nk kc, .int .i64 tn, .slice bp nb bc] 46 (0, 0)) := by rw [hV, ← haB]; exact below_box a2 (heap_alloc_new W _)
  have u1 : V.heap[bB]? = some (.cells #[.slice jp mk jc, .int .i64 tm, .slice dp md dc] 46 (0, 0)) := by
    have e : bB = (W.alloc (.cells #[.slice kp nk kc, .int .i64 tn, .slice bp nb bc] 46 (0, 0))).heap.size := by rw [← hbB, ← haB]; simp
    rw [hV, e]
    exact heap_alloc_new _ _
  obtain ⟨r1, hr1⟩ : ∃ r1, decide (tn = tm ∧ ks = js) = r1 := ⟨_, rfl⟩
  obtain ⟨r2, hr2⟩ : ∃ r2, decide (xs.map SV.rs = ys.map SV.rs) = r2 := ⟨_, rfl⟩
  have HOS := hide (opsame_all (W := V) (Op.KRow.later h1 bV) (Op.KRow.later h2 bV) hn1 hn2 hr1)
  have HLS := hide (fun X (hX : Below V.heap.size V X) => samelists_all (W := X) (h3.later (bV.trans (hX.mono bV.size))) (h4.later (bV.trans (hX.mono bV.size))) hn3 hn4 hr2)
  have HRB : Hid ((r1 && r2) = rb) := hide (by
    rw [← hr1, ← hr2, ← hrb, ← Bool.decide_and]
    congr 1
    simp only [TP.mk.injEq, eq_iff_iff]
    constructor
    · rintro ⟨⟨q1, q2⟩, q3⟩; exact ⟨q2, q1, q3⟩
    · rintro ⟨q1, q2, q3⟩; exact ⟨⟨q2, q1⟩, q3⟩)
  obtain ⟨x0, x1, x2⟩ := tsBox3 u0
  obtain ⟨y0, y1, y2⟩ := tsBox3 u1
  have HBV := hide bV
  clear h1 h2 h3 h4 hn1 hn2 hn3 hn4 hrb hr1 hr2 a1 a2 bV u0 u1
  go_enter Tryz.func60, Tryz.ntmps60
  go_upto_region 1 with fail
  rw [← hV]
  try rw [haB]
  try rw [hbB]
  clear hV haB hbB
  go_wp2_with fail
  refine HOS.out.mono ?_
  rintro _ w1 ⟨rfl, b1⟩
  have HB1 := hide b1
  have z2 := cell_later b1 x2
  have v2 := cell_later b1 y2
  clear b1 x0 x1 x2 y0 y1 y2
  cases r1 with
  | true =>
    go_wp2_with fail
    refine (HLS.out _ HB1.out).mono ?_
    rintro _ w2 ⟨rfl, b2⟩
    have HB2 := hide (HBV.out.trans ((HB1.out.trans (b2.mono HB1.out.size)).mono HBV.out.size))
    have HE := HRB.out
    rw [Bool.true_and] at HE
    subst HE
    clear b2
    go_wp2
    go_ret
    exact ⟨rfl, HB2.out⟩
  | false =>
    have HE := HRB.out
    rw [Bool.false_and] at HE
    subst HE
    go_wp2
    go_ret
    exact ⟨rfl, HBV.out.trans (HB1.out.mono HBV.out.size)⟩
end Go.Proofs.YtlfipmieaabagaaGreat

/-
  Which lists of tasks' states are the same, by the reference of run: SameAll. The conditions: none.
-/
namespace Go.Proofs.YtlfipmieaabagaaGreat
open Go.RowKit Go.Shelf

set_option maxRecDepth 100000 in
set_option maxHeartbeats 4000000 in
theorem sameall_all {W : World} {p1 p2 : Option Addr} {c1 c2 L M : Nat} {xs ys : List TV} (h1 : TRow W p1 c1 xs) (h2 : TRow W p2 c2 ys) (hL : xs.length = L) (hM : ys.length = M) {rb : Bool} (hrb : decide (xs.map TV.plain = ys.map TV.plain) = rb) :
    Calls Tryz.prog 31 #[.slice p1 L c1, .slice p2 M c2] W fun e w' => e = .returned (.bool rb) ∧ Below W.heap.size W w' := by
  have i1 := h1.row.le
  have i2 := h1.row.top
  have i3 := h2.row.le
  have i4 := h2.row.top
  rw [hL] at i1
  rw [hM] at i3
  by_cases hLM : L = M
  · subst hLM
    have H1 := hide h1
    have H2 := hide h2
    have HL := hide hL
    have HM := hide hM
    have HRB := hide hrb
    clear h1 h2 hL hM hrb
    go_enter Tryz.func31, Tryz.ntmps31
    go_wp2_with fail
    go_loopw [5] (fun i wr => ∃ k : Nat, k ≤ L ∧ i = .int .i64 (k : Int) ∧ Hid ((xs.map TV.plain).take k = (ys.map TV.plain).take k) ∧ Hid (Below W.heap.size W wr)) (fun i _ => L - (intOf i).toNat)
    case atStart => exact ⟨0, Nat.zero_le _, rfl, hide rfl, hide (Below.refl _ _)⟩
    case round =>
      obtain ⟨k, hk, rfl, HT, HB⟩ := hrel
      rename World => wr
      by_cases hlt : k < L
      · have hlt2 : k < xs.length := by rw [HL.out]; exact hlt
        have hlt3 : k < ys.length := by rw [HM.out]; exact hlt
        obtain ⟨x, hx⟩ : ∃ x, xs[k]! = x := ⟨_, rfl⟩
        obtain ⟨y, hy⟩ : ∃ y, ys[k]! = y := ⟨_, rfl⟩
        have hxm : x ∈ xs := by rw [← hx, getElem!_pos xs k hlt2]; exact List.getElem_mem _
        have hym : y ∈ ys := by rw [← hy, getElem!_pos ys k hlt3]; exact List.getElem_mem _
        obtain ⟨xq, hxq⟩ : ∃ q, TV.plain x = q := ⟨_, rfl⟩
        obtain ⟨yq, hyq⟩ : ∃ q, TV.plain y = q := ⟨_, rfl⟩
        have HX : Hid ((xs.map TV.plain)[k]? = some xq) := hide (by rw [← hxq, List.getElem?_map, List.getElem?_eq_getElem hlt2, ← hx, getElem!_pos xs k hlt2]; rfl)
        have HY : Hid ((ys.map TV.plain)[k]? = some yq) := hide (by rw [← hyq, List.getElem?_map, List.getElem?_eq_getElem hlt3, ← hy, getElem!_pos ys k hlt3]; rfl)
        have hok1 := (H1.out.later HB.out).ok x hxm
        have hok2 := (H2.out.later HB.out).ok y hym
        obtain ⟨rb1, hrb1⟩ : ∃ rb1, decide (TV.plain x = TV.plain y) = rb1 := ⟨_, rfl⟩
        have HR1 : Hid (decide (xq = yq) = rb1) := hide (by rw [← hxq, ← hyq]; exact hrb1)
        clear hxq hyq
        obtain ⟨g1, o1, rfl, a0, a1, a2⟩ := (H1.out.later HB.out).at (i := k) (by rw [HL.out]; exact hlt) hx
        obtain ⟨g2, o2, rfl, b0, b1, b2'⟩ := (H2.out.later HB.out).at (i := k) (by rw [HM.out]; exact hlt) hy
        obtain ⟨ks, kp, kc, tn, zs, bp, bc⟩ := x
        obtain ⟨js, jp, jc, tm, us, dp, dc⟩ := y
        simp only at a0 a1 a2 b0 b1 b2'
        obtain ⟨nk, hnk⟩ : ∃ A, ks.length = A := ⟨_, rfl⟩
        obtain ⟨nb, hnb⟩ : ∃ A, zs.length = A := ⟨_, rfl⟩
        obtain ⟨mk, hmk⟩ : ∃ A, js.length = A := ⟨_, rfl⟩
        obtain ⟨md, hmd⟩ : ∃ A, us.length = A := ⟨_, rfl⟩
        rw [hnk] at a0
        rw [hnb] at a2
        rw [hmk] at b0
        rw [hmd] at b2'
        have HC : Hid (∀ X, Below wr.heap.size wr X → Calls Tryz.prog 60 #[.agg #[.slice kp nk kc, .int .i64 tn, .slice bp nb bc], .agg #[.slice jp mk jc, .int .i64 tm, .slice dp md dc]] X fun e w' => e = .returned (.bool rb1) ∧ Below X.heap.size X w') := hide (fun X hX => tsame_all (Op.KRow.later hok1.keys hX) (Op.KRow.later hok2.keys hX) (hok1.bufs.later hX) (hok2.bufs.later hX) hnk hmk hnb hmd hrb1)
        clear hnk hnb hmk hmd
        clear hx hy hxm hym hlt2 hlt3 hok1 hok2 hrb1
        go_upto_region 6 with fail
        refine wp_region_held_drew (S := fun w' => w'.cell? ⟨g1, o1 + k * 3, none⟩ = some (.slice kp nk kc) ∧ w'.cell? ⟨g1, o1 + k * 3 + 1, none⟩ = some (.int .i64 tn) ∧ w'.cell? ⟨g1, o1 + k * 3 + 2, none⟩ = some (.slice bp nb bc) ∧ w'.cell? ⟨g2, o2 + k * 3, none⟩ = some (.slice jp mk jc) ∧ w'.cell? ⟨g2, o2 + k * 3 + 1, none⟩ = some (.int .i64 tm) ∧ w'.cell? ⟨g2, o2 + k * 3 + 2, none⟩ = some (.slice dp md dc)) (by kernel_rfl) ⟨a0, a1, a2, b0, b1, b2'⟩ (fun hHeld => ?_)
        refine wpAnyH_take (i := 0) (oi := _) (v := ?_) rfl (by kernel_rfl) (by kernel_rfl) (by kernel_rfl) (fun _ _ _ h => h) (Or.inl ⟨by rfl, ?_⟩) (by assumption) ?_
        rotate_left
        · intro w hSw
          (try dsimp only at hSw)
          go_simp
          all_goals with_reducible rfl
        simp only [Act.put, List.setIfInBounds_toArray] --TAKE 1
        refine wpAnyH_take (i := 1) (oi := _) (v := ?_) rfl (by kernel_rfl) (by kernel_rfl) (by kernel_rfl) (fun _ _ _ h => h) (Or.inl ⟨by rfl, ?_⟩) (by assumption) ?_
        rotate_left
        · intro w hSw
          (try dsimp only at hSw)
          go_simp
          all_goals with_reducible rfl
        simp only [Act.put] --TAKE 2
        refine wpAnyH_take (i := 2) (oi := _) (v := ?_) rfl (by kernel_rfl) (by kernel_rfl) (by kernel_rfl) (fun _ _ _ h => h) (Or.inl ⟨by rfl, ?_⟩) (by assumption) ?_
        rotate_left
        · intro w hSw
          (try dsimp only at hSw)
          go_simp
          all_goals with_reducible rfl
        simp only [Act.put] --TAKE 3
        refine wpAnyH_take (i := 3) (oi := _) (v := ?_) rfl (by kernel_rfl) (by kernel_rfl) (by kernel_rfl) (fun _ _ _ h => h) (Or.inl ⟨by rfl, ?_⟩) (by assumption) ?_
        rotate_left
        · intro w hSw
          (try dsimp only at hSw)
          go_simp
          all_goals with_reducible rfl
        simp only [Act.put] --TAKE 4
        refine wpAnyH_take (i := 4) (oi := _) (v := ?_) rfl (by kernel_rfl) (by kernel_rfl) (by kernel_rfl) (fun _ _ _ h => h) (Or.inl ⟨by rfl, ?_⟩) (by assumption) ?_
        rotate_left
        · intro w hSw
          (try dsimp only at hSw)
          go_simp
          all_goals with_reducible rfl
        simp only [Act.put] --TAKE 5
        refine wpAnyH_take (i := 5) (oi := _) (v := ?_) rfl (by kernel_rfl) (by kernel_rfl) (by kernel_rfl) (fun _ _ _ h => h) (Or.inl ⟨by rfl, ?_⟩) (by assumption) ?_
        rotate_left
        · intro w hSw
          (try dsimp only at hSw)
          go_simp
          all_goals with_reducible rfl
        simp only [Act.put] --TAKE 6
        refine wpAnyH_take (i := 6) (oi := _) (v := ?_) rfl (by kernel_rfl) (by kernel_rfl) (by kernel_rfl) (fun _ _ _ h => h) (Or.inl ⟨by rfl, ?_⟩) (by assumption) ?_
        rotate_left
        · intro w hSw
          (try dsimp only at hSw)
          go_simp
          all_goals with_reducible rfl
        simp only [Act.put] --TAKE 7
        refine wpAnyH_take (i := 7) (oi := _) (v := ?_) rfl (by kernel_rfl) (by kernel_rfl) (by kernel_rfl) (fun _ _ _ h => h) (Or.inl ⟨by rfl, ?_⟩) (by assumption) ?_
        rotate_left
        · intro w hSw
          (try dsimp only at hSw)
          go_simp
          all_goals with_reducible rfl
        simp only [Act.put] --TAKE 8
        refine wpAnyH_ready (rs := [8]) (by kernel_rfl) (by simp) ?_
        refine AllReadyH.cons (o := _) rfl (fun K hK => ?_) AllReadyH.nil
        go_simp
        refine (HC.out _ (Below.refl _ wr).drew).mono ?_
        rintro _ w2 ⟨rfl, b2⟩
        have B2 : Below wr.heap.size wr w2 := (Below.refl _ wr).drew.trans b2
        go_wp2_with fail
        refine hK.out _ _ ⟨cell_later B2 a0, cell_later B2 a1, cell_later B2 a2, cell_later B2 b0, cell_later B2 b1, cell_later B2 b2'⟩ (fun hHeld => ?_)
        clear hK
        refine wpAnyH_take (i := 9) (oi := _) (v := ?_) rfl (by kernel_rfl) (by kernel_rfl) (by kernel_rfl) (fun _ _ _ h => h) (Or.inl ⟨by rfl, ?_⟩) (by assumption) ?_
        rotate_left
        · intro w hSw
          (try dsimp only at hSw)
          go_simp
          all_goals with_reducible rfl
        simp only [Act.put, List.setIfInBounds_toArray] --TAKE 9
        refine wpAnyH_done (by kernel_rfl) ?_ _
        have HB2 := hide (HB.out.trans (B2.mono HB.out.size))
        clear b2 B2 hHeld HC
        cases rb1 with
        | true =>
          have HT2 : Hid ((xs.map TV.plain).take (k + 1) = (ys.map TV.plain).take (k + 1)) := hide (by
            have h9 : xq = yq := of_decide_eq_true HR1.out
            rw [List.take_add_one, List.take_add_one, HT.out, HX.out, HY.out, h9])
          go_wp2
          exact ⟨⟨k + 1, by omega, by first | rfl | go_num, HT2, HB2⟩, by simp [intOf]; omega⟩
        | false =>
          have HF : Hid (false = rb) := hide (by
            rw [← HRB.out]
            symm
            apply decide_eq_false
            intro h9
            have h8 := HX.out
            rw [h9, HY.out] at h8
            exact absurd (Option.some.inj h8).symm (of_decide_eq_false HR1.out))
          go_wp2
          go_ret
          exact ⟨by rw [HF.out]; rfl, HB2.out⟩
      · obtain rfl : k = L := by omega
        have HF : Hid (true = rb) := hide (by
          rw [← HRB.out]
          symm
          apply decide_eq_true
          have h9 := HT.out
          rw [List.take_of_length_le (by rw [List.length_map, HL.out]; exact Nat.le_refl _), List.take_of_length_le (by rw [List.length_map, HM.out]; exact Nat.le_refl _)] at h9
          exact h9)
        go_wp2
        go_ret
        exact ⟨by rw [HF.out]; rfl, HB.out⟩
  · have e1 : (L == M) = false := by simpa using hLM
    have e2 : ((L : Int) == (M : Int)) = false := ne_eq (fun h => hLM (by omega))
    have HF : Hid (false = rb) := hide (by
      rw [← hrb]
      symm
      apply decide_eq_false
      intro h9
      have h8 := congrArg List.length h9
      rw [List.length_map, List.length_map, hL, hM] at h8
      exact hLM h8)
    clear h1 h2 hL hM hrb hLM
    go_enter Tryz.func31, Tryz.ntmps31
    go_wp2
    go_ret
    exact ⟨by rw [HF.out]; rfl, Below.refl _ _⟩
end Go.Proofs.YtlfipmieaabagaaGreat

/-
  Which states of flows are the same, by the reference of snap: Same. The conditions: none.
-/
namespace Go.Proofs.YtlfipmieaabagaaGreat
open Go.RowKit Go.Shelf

instance : DecidableEq FP := fun a b =>
  if h : a.id = b.id ∧ a.vs = b.vs ∧ a.out = b.out ∧ a.ts = b.ts then isTrue (by obtain ⟨a1, a2, a3, a4⟩ := a; obtain ⟨b1, b2, b3, b4⟩ := b; simp only at h; obtain ⟨rfl, rfl, rfl, rfl⟩ := h; rfl)
  else isFalse (fun e => h (by rw [e]; exact ⟨rfl, rfl, rfl, rfl⟩))
set_option maxRecDepth 100000 in
set_option maxHeartbeats 8000000 in
theorem rsame_all {W : World} {vp tp up sp : Option Addr} {nv vc nt tc mv uc mt sc : Nat} {id out jd ot : Int} {vs us : List Int} {xs ys : List TV} (h1 : NRow W vp vc vs) (h2 : NRow W up uc us) (h3 : TRow W tp tc xs) (h4 : TRow W sp sc ys) (hn1 : vs.length = nv) (hn2 : us.length = mv) (hn3 : xs.length = nt) (hn4 : ys.length = mt) {rb : Bool} (hrb : decide ((⟨id, vs, out, xs.map TV.plain⟩ : FP) = ⟨jd, us, ot, ys.map TV.plain⟩) = rb) :
    Calls Tryz.prog 12 #[.agg #[.int .i64 id, .slice vp nv vc, .int .i64 out, .slice tp nt tc], .agg #[.int .i64 jd, .slice up mv uc, .int .i64 ot, .slice sp mt sc]] W fun e w' => e = .returned (.bool rb) ∧ Below W.heap.size W w' := by
  obtain ⟨V, hV⟩ : ∃ V, V = (W.alloc (.cells #[.int .i64 id, .slice vp nv vc, .int .i64 out, .slice tp nt tc] 28 (0, 0))).alloc (.cells #[.int .i64 jd, .slice up mv uc, .int .i64 ot, .slice sp mt sc] 28 (0, 0)) := ⟨_, rfl⟩
  have a1 := alloc_below W (.cells #[.int .i64 id, .slice vp nv vc, .int .i64 out, .slice tp nt tc] 28 (0, 0))
  have a2 := alloc_below (W.alloc (.cells #[.int .i64 id, .slice vp nv vc, .int .i64 out, .slice tp nt tc] 28 (0, 0))) (.cells #[.int .i64 jd, .slice up mv uc, .int .i64 ot, .slice sp mt sc] 28 (0, 0))
  have bV : Below W.heap.size W V := by rw [hV]; exact a1.trans (a2.mono a1.size)
  obtain ⟨aB, haB⟩ : ∃ aB, W.heap.size = aB := ⟨_, rfl⟩
  obtain ⟨bB, hbB⟩ : ∃ bB, aB + 1 = bB := ⟨_, rfl⟩
  have u0 : V.heap[aB]? = some (.cells #[.int .i64 id, .slice vp nv vc, .int .i64 out, .slice tp nt tc] 28 (0, 0)) := by rw [hV, ← haB]; exact below_box a2 (heap_alloc_new W _)
  have u1 : V.heap[bB]? = some (.cells #[.int .i64 jd, .slice up mv uc, .int .i64 ot, .slice sp mt sc] 28 (0, 0)) := by
    have e : bB = (W.alloc (.cells #[.int .i64 id, .slice vp nv vc, .int .i64 out, .slice tp nt tc] 28 (0, 0))).heap.size := by rw [← hbB, ← haB]; simp
    rw [hV, e]
    exact heap_alloc_new _ _
  have i1 := h1.le
  have i2 := h1.top
  have i3 := h2.le
  have i4 := h2.top
  have i5 := h3.row.le
  have i6 := h3.row.top
  have i7 := h4.row.le
  have i8 := h4.row.top
  rw [hn1] at i1
  rw [hn2] at i3
  rw [hn3] at i5
  rw [hn4] at i7
  have hfp : ((⟨id, vs, out, xs.map TV.plain⟩ : FP) = ⟨jd, us, ot, ys.map TV.plain⟩) ↔ (id = jd ∧ vs = us ∧ out = ot ∧ xs.map TV.plain = ys.map TV.plain) := by simp only [FP.mk.injEq]
  have HNO : Hid (¬ (id = jd ∧ vs = us ∧ out = ot ∧ xs.map TV.plain = ys.map TV.plain) → false = rb) := hide (fun h => by rw [← hrb]; symm; exact decide_eq_false (fun e => h (hfp.1 e)))
  have HYES : Hid (id = jd → vs = us → out = ot → decide (xs.map TV.plain = ys.map TV.plain) = rb) := hide (fun q1 q2 q3 => by
    rw [← hrb]
    congr 1
    rw [eq_iff_iff, hfp]
    exact ⟨fun q4 => ⟨q1, q2, q3, q4⟩, fun q => q.2.2.2⟩)
  obtain ⟨x0, x1, x2, x3⟩ := box4 u0
  obtain ⟨y0, y1, y2, y3⟩ := box4 u1
  have HBV := hide bV
  have H1 := hide (h1.later bV)
  have H2 := hide (h2.later bV)
  have H3 := hide (h3.later bV)
  have H4 := hide (h4.later bV)
  have HN1 := hide hn1
  have HN2 := hide hn2
  have HN3 := hide hn3
  have HN4 := hide hn4
  clear h1 h2 h3 h4 hn1 hn2 hn3 hn4 hrb hfp a1 a2 bV u0 u1
  go_enter Tryz.func12, Tryz.ntmps12
  go_upto_region 1 with fail
  rw [← hV]
  try rw [haB]
  try rw [hbB]
  clear hV haB hbB
  by_cases q1 : id = jd
  · subst q1
    by_cases q2 : out = ot
    · subst q2
      by_cases q3 : nv = mv
      · subst q3
        by_cases q4 : nt = mt
        · subst q4
          go_wp2_with fail
          go_loopw [5] (fun i wr => ∃ k : Nat, k ≤ nv ∧ i = .int .i64 (k : Int) ∧ Hid (vs.take k = us.take k) ∧ Hid (Below V.heap.size V wr)) (fun i _ => nv - (intOf i).toNat)
          case atStart => exact ⟨0, Nat.zero_le _, rfl, hide rfl, hide (Below.refl _ _)⟩
          case round =>
            obtain ⟨k, hk, rfl, HT, HB⟩ := hrel
            rename World => wr
            have z1 := cell_later HB.out x1
            have v1 := cell_later HB.out y1
            by_cases hlt : k < nv
            · have hlt2 : k < vs.length := by rw [HN1.out]; exact hlt
              have hlt3 : k < us.length := by rw [HN2.out]; exact hlt
              obtain ⟨x, hx⟩ : ∃ x, vs[k]! = x := ⟨_, rfl⟩
              obtain ⟨y, hy⟩ : ∃ y, us[k]! = y := ⟨_, rfl⟩
              obtain ⟨g1, o1, rfl, a0⟩ := (H1.out.later HB.out).at hlt2 hx
              obtain ⟨g2, o2, rfl, b0⟩ := (H2.out.later HB.out).at hlt3 hy
              have HTS := hide (take_same HT.out hlt2 hlt3 hx hy)
              have HX := hide hx
              have HY := hide hy
              clear hx hy hlt2 hlt3
              by_cases q5 : x = y
              · subst q5
                have HT2 := hide (HTS.out.2 rfl)
                go_upto_region 6 with fail
                go_big_quiet (fail)
                go_wp2
                exact ⟨⟨k + 1, by omega, by first | rfl | go_num, HT2, hide (below_drewN HB.out _)⟩, by simp [intOf]; omega⟩
              · have e1 := ne_eq q5
                have HF := hide (HNO.out (fun h => q5 (by have h9 := h.2.1; subst h9; exact HX.out.symm.trans HY.out)))
                clear q5
                go_upto_region 6 with fail
                go_big_quiet (fail)
                go_wp2
                go_ret
                exact ⟨by rw [HF.out]; rfl, below_drewN (HBV.out.trans (HB.out.mono HBV.out.size)) _⟩
            · obtain rfl : k = nv := by omega
              have hvu : vs = us := by
                have h9 := HT.out
                rw [List.take_of_length_le (by rw [HN1.out]; exact Nat.le_refl _), List.take_of_length_le (by rw [HN2.out]; exact Nat.le_refl _)] at h9
                exact h9
              have HSA := hide (sameall_all (W := wr) (H3.out.later HB.out) (H4.out.later HB.out) HN3.out HN4.out (HYES.out (by first | rfl | trivial) (by first | exact hvu | trivial) (by first | rfl | trivial)))
              have z3 := cell_later HB.out x3
              have v3 := cell_later HB.out y3
              clear hvu
              go_wp2_with fail
              refine HSA.out.mono ?_
              rintro _ w2 ⟨rfl, b2⟩
              have HB2 := hide (HBV.out.trans ((HB.out.trans (b2.mono HB.out.size)).mono HBV.out.size))
              clear b2
              go_wp2
              go_ret
              exact ⟨rfl, HB2.out⟩
        · have e1 : (nt == mt) = false := by simpa using q4
          have e2 : ((nt : Int) == (mt : Int)) = false := ne_eq (fun h => q4 (by omega))
          have HF := hide (HNO.out (fun h => q4 (by have h9 := congrArg List.length h.2.2.2; rw [List.length_map, List.length_map, HN3.out, HN4.out] at h9; exact h9)))
          clear q4
          go_wp2
          go_ret
          exact ⟨by rw [HF.out]; rfl, HBV.out⟩
      · have e1 : (nv == mv) = false := by simpa using q3
        have e2 : ((nv : Int) == (mv : Int)) = false := ne_eq (fun h => q3 (by omega))
        have HF := hide (HNO.out (fun h => q3 (by have h9 := congrArg List.length h.2.1; rw [HN1.out, HN2.out] at h9; exact h9)))
        clear q3
        go_wp2
        go_ret
        exact ⟨by rw [HF.out]; rfl, HBV.out⟩
    · have e1 := ne_eq q2
      have HF := hide (HNO.out (fun h => q2 h.2.2.1))
      clear q2
      go_wp2
      all_goals (go_ret; exact ⟨by rw [HF.out]; rfl, HBV.out⟩)
  · have e1 := ne_eq q1
    have HF := hide (HNO.out (fun h => q1 h.1))
    clear q1
    go_wp2
    all_goals (go_ret; exact ⟨by rw [HF.out]; rfl, HBV.out⟩)
end Go.Proofs.YtlfipmieaabagaaGreat
