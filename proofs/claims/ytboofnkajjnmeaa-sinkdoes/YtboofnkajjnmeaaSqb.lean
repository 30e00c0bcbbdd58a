/-
 suits of the reference's sink. The conditions: that it and the transaction's lists lie there; that the transaction may be.
-/
import Derived.Test.YtboofnkajjnmeaaSqa
import Derived.Test.YtboofnkajjnmeaaSkl
import Derived.Test.YtboofnkajjnmeaaTk1
namespace Go.Proofs.Ytboofnkajjnmeaa
open Go.RowKit Go.Maps Go.Shelf

theorem rLen_b {W : World} {b n : Nat} {q : QK} (h : RS W b n q) : Calls Try.prog 39 #[.pointer (some ⟨b, 0, none⟩)] W fun e w' => e = .returned (.int .i64 (q.out.length : Int)) ∧ Below W.heap.size W w' :=
 (rLen_any h).mono fun _ _ ⟨h1, h2⟩ => ⟨h1, h2 ▸ Below.refl _ _⟩
theorem not_ab {a : Bool} {x y : Int} (h : a = true ∧ x ≤ y) : ¬ (a = false ∨ y < x) := by
 rintro (h9 | h9)
 ·rw [h.1] at h9; cases h9
 ·omega
theorem same_step {out rs : List RC} {j k : Nat} {x y : RC} (h : (out.drop j).take k = rs.take k) (h1 : j + k < out.length) (h2 : k < rs.length) (hx : out[j + k]! = x) (hy : rs[k]! = y) : (out.drop j).take (k + 1) = rs.take (k + 1) ↔ x = y := by
 refine take_same h (by rw [List.length_drop]; omega) h2 ?_ hy
 rw [← hx, getElem!_pos (out.drop j) k (by rw [List.length_drop]; omega), List.getElem_drop, getElem!_pos out (j + k) h1]
theorem same_end {s : SK} {ep id : Int} {j : Nat} {rs : List RC} {vs : List Int} (h : (s.out.drop j).take (s.out.length - j) = rs.take (s.out.length - j)) : sameC s ⟨ep, id, (j : Int), rs, vs⟩ = true := by
 unfold sameC
 rw [decide_eq_true_iff]
 show s.out.drop ((j : Int).toNat) = rs.take (s.out.length - (j : Int).toNat)
 rw [Int.toNat_natCast, ← h, List.take_of_length_le (by rw [List.length_drop]; exact Nat.le_refl _)]
theorem same_not {s : SK} {ep id : Int} {j k : Nat} {rs : List RC} {vs : List Int} (hk : k < s.out.length - j) (h : (s.out.drop j).take (k + 1) ≠ rs.take (k + 1)) : sameC s ⟨ep, id, (j : Int), rs, vs⟩ = false := by
 unfold sameC
 rw [decide_eq_false_iff_not]
 intro h9
 have h8 : s.out.drop j = rs.take (s.out.length - j) := h9
 apply h
 rw [h8, List.take_take, Nat.min_eq_left (by omega)]
set_option maxRecDepth 100000 in
set_option maxHeartbeats 8000000 in
theorem rsuits_nat {W : World} {b n : Nat} {q : QK} {ep id : Int} {rp vp : Option Addr} {rn rc vn vc j : Nat} {rs : List RC} {vs : List Int} (h : RS W b n q) (_ : q.out.length ≤ 4096) (hr : RRow W rp rc rs) (hv : NRow W vp vc vs) (hrn : rs.length = rn) (hvn : vs.length = vn) (hj4 : j ≤ 4096) (hb : rn ≤ 4096) {r : Int} (hq : suitC q.sk ⟨ep, id, (j : Int), rs, vs⟩ = r) :
  Calls Try.prog 69 #[.pointer (some ⟨b, 0, none⟩), .agg #[.int .i64 ep, .int .i64 id, .int .i64 (j : Int), .slice rp rn rc, .slice vp vn vc]] W fun e w' => e = .returned (.int .i64 r) ∧ Below W.heap.size W w' := by
 have HP := hide h; have HR := hide hr; have HN := hide hv; have HRN := hide hrn; have HVN := hide hvn; have HQ := hide hq; clear h hr hv hrn hvn hq
 obtain ⟨V, hV⟩ : ∃ V, V = W.alloc (.cells #[.int .i64 ep, .int .i64 id, .int .i64 (j : Int), .slice rp rn rc, .slice vp vn vc] 34 (0, 0)) := ⟨_, rfl⟩
 have HV : Hid (V.heap[W.heap.size]? = some (.cells #[.int .i64 ep, .int .i64 id, .int .i64 (j : Int), .slice rp rn rc, .slice vp vn vc] 34 (0, 0))) := hide (by rw [hV]; exact heap_alloc_new W _)
 have HBV : Hid (Below W.heap.size W V) := hide (by rw [hV]; exact alloc_below _ _)
 obtain ⟨bB, hbB⟩ : ∃ bB, W.heap.size = bB := ⟨_, rfl⟩
 rw [hbB] at HV HBV
 have HZbB := hide hbB
 have HBW : Hid (Below W.heap.size W V) := hide (by rw [HZbB.out]; exact HBV.out)
 have HPV : Hid (RS V b n q) := hide (HP.out.later HBW.out)
 go_enter Try.func69, Try.ntmps69
 go_upto_region 1 with fail
 rw [← hV]
 try rw [hbB]
 clear hV hbB; have u0 := cellB HV.out (i := 0) rfl; have u1 := cellB HV.out (i := 1) rfl; have u2 := cellB HV.out (i := 2) rfl; have u3 := cellB HV.out (i := 3) rfl; have u4 := cellB HV.out (i := 4) rfl
 go_upto_region 2 with fail
 by_cases h1 : q.out.length < j
 ·have d1 : decide ((j : Int) > (q.out.length : Int)) = true := decide_eq_true (by omega)
  have n1 : decide (q.out.length < j) = true := decide_eq_true h1
  have HF : Hid (r = 151) := hide (by rw [← HQ.out]; exact suit_gap (by show (q.out.length : Int) < (j : Int); omega))
  clear h1
  have HX0 : Hid (Below V.heap.size V V.drew) := hide (Below.refl _ V).drew
  have HFA := hide (fun (w9 : World) (hSw : Below V.heap.size V w9) => And.intro (cell_later hSw u0) (And.intro (cell_later hSw u1) (And.intro (cell_later hSw u2) (And.intro (cell_later hSw u3) (And.intro (cell_later hSw u4) (And.intro ((HPV.out.later hSw).c1) (And.intro ((HPV.out.later hSw).c2) (And.intro ((HPV.out.later hSw).c3) (And.intro ((HPV.out.later hSw).c4) ((HPV.out.later hSw).c5))))))))))
  refine wp_region_held_drew (S := fun w9 => Below V.heap.size V w9) (by kernel_rfl) HX0.out (fun hHeld => ?_)
  refine tk 0 13 ?_ rfl rfl (by kernel_rfl) (fun _ _ _ h => h) (by assumption) ?_ ?_; rotate_left
  ·intro w hSw; go_simp; all_goals with_reducible rfl
  simp only [Act.put]
  refine tk 1 14 ?_ rfl rfl (by kernel_rfl) (fun _ _ _ h => h) (by assumption) ?_ ?_; rotate_left
  ·intro w hSw; obtain ⟨l0, l1, l2, l3, l4, m1, m2, m3, m4, m5⟩ := HFA.out w hSw; go_simp; all_goals with_reducible rfl
  simp only [Act.put]
  refine tk 2 15 ?_ rfl rfl (by kernel_rfl) (fun _ _ _ h => h) (by assumption) ?_ ?_; rotate_left
  ·intro w hSw; go_simp; all_goals with_reducible rfl
  simp only [Act.put]
  refine rk (i := 3) (o := _) rfl (by kernel_rfl) (by kernel_rfl) (fun K hK => ?_)
  obtain ⟨l0, l1, l2, l3, l4, m1, m2, m3, m4, m5⟩ := HFA.out _ HX0.out
  go_simp
  refine (rLen_b (HPV.out.later HX0.out)).mono ?_
  rintro _ x1 ⟨rfl, b0⟩
  have HX1 : Hid (Below V.heap.size V x1) := hide (HX0.out.trans (b0.mono HX0.out.size))
  clear b0; clear l0 l1 l2 l3 l4 m1 m2 m3 m4 m5
  go_wp2_with fail
  refine hK.out _ _ HX1.out (fun hHeld => ?_)
  clear hK
  refine rk (i := 4) (o := _) rfl (by kernel_rfl) (by kernel_rfl) (fun K hK => ?_)
  go_simp
  refine hK.out _ _ HX1.out (fun hHeld => ?_)
  clear hK
  refine wpAnyH_done (by kernel_rfl) ?_ _
  obtain ⟨X2, rfl⟩ : ∃ X2, X2 = x1 := ⟨_, rfl⟩
  have hX2 := HX1.out; clear HFA
  have HB2 : Hid (Below V.heap.size V X2) := hide (hX2)
  clear hX2
  try clear u0 u1 u2 u3 u4
  have HP2 := hide (HPV.out.later HB2.out); have HV2 := hide (below_box HB2.out HV.out); have u0 := cellB HV2.out (i := 0) rfl; have u1 := cellB HV2.out (i := 1) rfl; have u2 := cellB HV2.out (i := 2) rfl; have u3 := cellB HV2.out (i := 3) rfl; have u4 := cellB HV2.out (i := 4) rfl; go_wp2; go_ret
  exact ⟨by rw [HF.out]; rfl, HBW.out.trans (HB2.out.mono HBW.out.size)⟩
 ·have d1 : decide ((j : Int) > (q.out.length : Int)) = false := decide_eq_false (by omega)
  have n1 : decide (q.out.length < j) = false := decide_eq_false h1
  have HG : Hid ((j : Int) ≤ (q.sk.out.length : Int)) := hide (by show (j : Int) ≤ (q.out.length : Int); omega)
  have HX0 : Hid (Below V.heap.size V V.drew) := hide (Below.refl _ V).drew
  have HFA := hide (fun (w9 : World) (hSw : Below V.heap.size V w9) => And.intro (cell_later hSw u0) (And.intro (cell_later hSw u1) (And.intro (cell_later hSw u2) (And.intro (cell_later hSw u3) (And.intro (cell_later hSw u4) (And.intro ((HPV.out.later hSw).c1) (And.intro ((HPV.out.later hSw).c2) (And.intro ((HPV.out.later hSw).c3) (And.intro ((HPV.out.later hSw).c4) ((HPV.out.later hSw).c5))))))))))
  refine wp_region_held_drew (S := fun w9 => Below V.heap.size V w9) (by kernel_rfl) HX0.out (fun hHeld => ?_)
  refine tk 0 13 ?_ rfl rfl (by kernel_rfl) (fun _ _ _ h => h) (by assumption) ?_ ?_; rotate_left
  ·intro w hSw; go_simp; all_goals with_reducible rfl
  simp only [Act.put]
  refine tk 1 14 ?_ rfl rfl (by kernel_rfl) (fun _ _ _ h => h) (by assumption) ?_ ?_; rotate_left
  ·intro w hSw; obtain ⟨l0, l1, l2, l3, l4, m1, m2, m3, m4, m5⟩ := HFA.out w hSw; go_simp; all_goals with_reducible rfl
  simp only [Act.put]
  refine tk 2 15 ?_ rfl rfl (by kernel_rfl) (fun _ _ _ h => h) (by assumption) ?_ ?_; rotate_left
  ·intro w hSw; go_simp; all_goals with_reducible rfl
  simp only [Act.put]
  refine rk (i := 3) (o := _) rfl (by kernel_rfl) (by kernel_rfl) (fun K hK => ?_)
  obtain ⟨l0, l1, l2, l3, l4, m1, m2, m3, m4, m5⟩ := HFA.out _ HX0.out
  go_simp
  refine (rLen_b (HPV.out.later HX0.out)).mono ?_
  rintro _ x1 ⟨rfl, b0⟩
  have HX1 : Hid (Below V.heap.size V x1) := hide (HX0.out.trans (b0.mono HX0.out.size))
  clear b0; clear l0 l1 l2 l3 l4 m1 m2 m3 m4 m5
  go_wp2_with fail
  refine hK.out _ _ HX1.out (fun hHeld => ?_)
  clear hK
  refine rk (i := 4) (o := _) rfl (by kernel_rfl) (by kernel_rfl) (fun K hK => ?_)
  go_simp
  refine hK.out _ _ HX1.out (fun hHeld => ?_)
  clear hK
  refine wpAnyH_done (by kernel_rfl) ?_ _
  obtain ⟨X2, rfl⟩ : ∃ X2, X2 = x1 := ⟨_, rfl⟩
  have hX2 := HX1.out; clear HFA
  have HB2 : Hid (Below V.heap.size V X2) := hide (hX2)
  clear hX2
  try clear u0 u1 u2 u3 u4
  have HP2 := hide (HPV.out.later HB2.out); have HV2 := hide (below_box HB2.out HV.out); have u0 := cellB HV2.out (i := 0) rfl; have u1 := cellB HV2.out (i := 1) rfl; have u2 := cellB HV2.out (i := 2) rfl; have u3 := cellB HV2.out (i := 3) rfl; have u4 := cellB HV2.out (i := 4) rfl
  by_cases h2 : aboveC vs q.vec = false
  ·have HAB := hide h2
   have HF : Hid (r = 152) := hide (by rw [← HQ.out]; exact suit_ab (Int.not_lt.2 HG.out) (.inl h2))
   clear h2
   go_upto_region 4 with fail
   have HX0 : Hid (Below X2.heap.size X2 X2.drew) := hide (Below.refl _ X2).drew
   have HFA := hide (fun (w9 : World) (hSw : Below X2.heap.size X2 w9) => And.intro (cell_later hSw u0) (And.intro (cell_later hSw u1) (And.intro (cell_later hSw u2) (And.intro (cell_later hSw u3) (And.intro (cell_later hSw u4) (And.intro ((HP2.out.later hSw).c1) (And.intro ((HP2.out.later hSw).c2) (And.intro ((HP2.out.later hSw).c3) (And.intro ((HP2.out.later hSw).c4) ((HP2.out.later hSw).c5))))))))))
   refine wp_region_held_drew (S := fun w9 => Below X2.heap.size X2 w9) (by kernel_rfl) HX0.out (fun hHeld => ?_)
   refine tk 0 18 ?_ rfl rfl (by kernel_rfl) (fun _ _ _ h => h) (by assumption) ?_ ?_; rotate_left
   ·intro w hSw; go_simp; all_goals with_reducible rfl
   simp only [Act.put]
   refine tk 1 19 ?_ rfl rfl (by kernel_rfl) (fun _ _ _ h => h) (by assumption) ?_ ?_; rotate_left
   ·intro w hSw; obtain ⟨l0, l1, l2, l3, l4, m1, m2, m3, m4, m5⟩ := HFA.out w hSw; go_simp; all_goals with_reducible rfl
   simp only [Act.put]
   refine tk 2 20 ?_ rfl rfl (by kernel_rfl) (fun _ _ _ h => h) (by assumption) ?_ ?_; rotate_left
   ·intro w hSw; go_simp; all_goals with_reducible rfl
   simp only [Act.put]
   refine tk 3 21 ?_ rfl rfl (by kernel_rfl) (fun _ _ _ h => h) (by assumption) ?_ ?_; rotate_left
   ·intro w hSw; go_simp; all_goals with_reducible rfl
   simp only [Act.put]
   refine tk 4 22 ?_ rfl rfl (by kernel_rfl) (fun _ _ _ h => h) (by assumption) ?_ ?_; rotate_left
   ·intro w hSw; go_simp; all_goals with_reducible rfl
   simp only [Act.put]
   refine tk 5 23 ?_ rfl rfl (by kernel_rfl) (fun _ _ _ h => h) (by assumption) ?_ ?_; rotate_left
   ·intro w hSw; go_simp; all_goals with_reducible rfl
   simp only [Act.put]
   refine tk 6 24 ?_ rfl rfl (by kernel_rfl) (fun _ _ _ h => h) (by assumption) ?_ ?_; rotate_left
   ·intro w hSw; obtain ⟨l0, l1, l2, l3, l4, m1, m2, m3, m4, m5⟩ := HFA.out w hSw; go_simp; all_goals with_reducible rfl
   simp only [Act.put]
   refine rk (i := 7) (o := _) rfl (by kernel_rfl) (by kernel_rfl) (fun K hK => ?_)
   obtain ⟨l0, l1, l2, l3, l4, m1, m2, m3, m4, m5⟩ := HFA.out _ HX0.out
   go_simp
   refine (rabove_any (NRow.later HN.out (HBW.out.trans ((HB2.out.trans (HX0.out.mono HB2.out.size)).mono HBW.out.size))) (HP2.out.later HX0.out).vis.vec HVN.out rfl HAB.out).mono ?_
   rintro _ x1 ⟨rfl, b0⟩
   have HX1 : Hid (Below X2.heap.size X2 x1) := hide (HX0.out.trans (b0.mono HX0.out.size))
   clear b0; clear l0 l1 l2 l3 l4 m1 m2 m3 m4 m5
   go_wp2_with fail
   refine hK.out _ _ HX1.out (fun hHeld => ?_)
   clear hK
   refine tk 8 26 ?_ rfl rfl (by kernel_rfl) (fun _ _ _ h => h) (by assumption) ?_ ?_; rotate_left
   ·intro w hSw; go_simp; all_goals with_reducible rfl
   simp only [Act.put]
   refine tk 9 27 ?_ rfl rfl (by kernel_rfl) (fun _ _ _ h => h) (by assumption) ?_ ?_; rotate_left
   ·intro w hSw; go_simp; all_goals with_reducible rfl
   simp only [Act.put]
   refine sk 10 28 rfl rfl (by kernel_rfl) (fun _ _ _ h => h) (by assumption) ?_
   simp only [Act.put]
   refine sk 11 29 rfl rfl (by kernel_rfl) (fun _ _ _ h => h) (by assumption) ?_
   simp only [Act.put]
   refine sk 12 30 rfl rfl (by kernel_rfl) (fun _ _ _ h => h) (by assumption) ?_
   simp only [Act.put]
   refine sk 13 31 rfl rfl (by kernel_rfl) (fun _ _ _ h => h) (by assumption) ?_
   simp only [Act.put]
   refine rk (i := 14) (o := _) rfl (by kernel_rfl) (by kernel_rfl) (fun K hK => ?_)
   go_simp
   refine hK.out _ _ HX1.out (fun hHeld => ?_)
   clear hK
   refine wpAnyH_done (by kernel_rfl) ?_ _
   obtain ⟨X4, rfl⟩ : ∃ X4, X4 = x1 := ⟨_, rfl⟩
   have hX4 := HX1.out; clear HFA
   have HB4 : Hid (Below V.heap.size V X4) := hide (HB2.out.trans (hX4.mono HB2.out.size))
   clear hX4
   try clear u0 u1 u2 u3 u4
   have HP4 := hide (HPV.out.later HB4.out); have HV4 := hide (below_box HB4.out HV.out); have u0 := cellB HV4.out (i := 0) rfl; have u1 := cellB HV4.out (i := 1) rfl; have u2 := cellB HV4.out (i := 2) rfl; have u3 := cellB HV4.out (i := 3) rfl; have u4 := cellB HV4.out (i := 4) rfl; go_wp2; go_ret
   exact ⟨by rw [HF.out]; rfl, HBW.out.trans (HB4.out.mono HBW.out.size)⟩
  ·have HAB : Hid (aboveC vs q.vec = true) := hide (by simpa using h2)
   by_cases h3 : j + rn < q.out.length
   ·have d2 : decide ((j : Int) + (rn : Int) < (q.out.length : Int)) = true := decide_eq_true (by omega)
    have n2 : decide (j + rn < q.out.length) = true := decide_eq_true h3
    have HF : Hid (r = 152) := hide (by rw [← HQ.out]; exact suit_ab (Int.not_lt.2 HG.out) (.inr (by show (j : Int) + (rs.length : Int) < (q.out.length : Int); rw [HRN.out]; omega)))
    clear h2 h3
    go_upto_region 4 with fail
    have HX0 : Hid (Below X2.heap.size X2 X2.drew) := hide (Below.refl _ X2).drew
    have HFA := hide (fun (w9 : World) (hSw : Below X2.heap.size X2 w9) => And.intro (cell_later hSw u0) (And.intro (cell_later hSw u1) (And.intro (cell_later hSw u2) (And.intro (cell_later hSw u3) (And.intro (cell_later hSw u4) (And.intro ((HP2.out.later hSw).c1) (And.intro ((HP2.out.later hSw).c2) (And.intro ((HP2.out.later hSw).c3) (And.intro ((HP2.out.later hSw).c4) ((HP2.out.later hSw).c5))))))))))
    refine wp_region_held_drew (S := fun w9 => Below X2.heap.size X2 w9) (by kernel_rfl) HX0.out (fun hHeld => ?_)
    refine tk 0 18 ?_ rfl rfl (by kernel_rfl) (fun _ _ _ h => h) (by assumption) ?_ ?_; rotate_left
    ·intro w hSw; go_simp; all_goals with_reducible rfl
    simp only [Act.put]
    refine tk 1 19 ?_ rfl rfl (by kernel_rfl) (fun _ _ _ h => h) (by assumption) ?_ ?_; rotate_left
    ·intro w hSw; obtain ⟨l0, l1, l2, l3, l4, m1, m2, m3, m4, m5⟩ := HFA.out w hSw; go_simp; all_goals with_reducible rfl
    simp only [Act.put]
    refine tk 2 20 ?_ rfl rfl (by kernel_rfl) (fun _ _ _ h => h) (by assumption) ?_ ?_; rotate_left
    ·intro w hSw; go_simp; all_goals with_reducible rfl
    simp only [Act.put]
    refine tk 3 21 ?_ rfl rfl (by kernel_rfl) (fun _ _ _ h => h) (by assumption) ?_ ?_; rotate_left
    ·intro w hSw; go_simp; all_goals with_reducible rfl
    simp only [Act.put]
    refine tk 4 22 ?_ rfl rfl (by kernel_rfl) (fun _ _ _ h => h) (by assumption) ?_ ?_; rotate_left
    ·intro w hSw; go_simp; all_goals with_reducible rfl
    simp only [Act.put]
    refine tk 5 23 ?_ rfl rfl (by kernel_rfl) (fun _ _ _ h => h) (by assumption) ?_ ?_; rotate_left
    ·intro w hSw; go_simp; all_goals with_reducible rfl
    simp only [Act.put]
    refine tk 6 24 ?_ rfl rfl (by kernel_rfl) (fun _ _ _ h => h) (by assumption) ?_ ?_; rotate_left
    ·intro w hSw; obtain ⟨l0, l1, l2, l3, l4, m1, m2, m3, m4, m5⟩ := HFA.out w hSw; go_simp; all_goals with_reducible rfl
    simp only [Act.put]
    refine rk (i := 7) (o := _) rfl (by kernel_rfl) (by kernel_rfl) (fun K hK => ?_)
    obtain ⟨l0, l1, l2, l3, l4, m1, m2, m3, m4, m5⟩ := HFA.out _ HX0.out
    go_simp
    refine (rabove_any (NRow.later HN.out (HBW.out.trans ((HB2.out.trans (HX0.out.mono HB2.out.size)).mono HBW.out.size))) (HP2.out.later HX0.out).vis.vec HVN.out rfl HAB.out).mono ?_
    rintro _ x1 ⟨rfl, b0⟩
    have HX1 : Hid (Below X2.heap.size X2 x1) := hide (HX0.out.trans (b0.mono HX0.out.size))
    clear b0; clear l0 l1 l2 l3 l4 m1 m2 m3 m4 m5
    go_wp2_with fail
    refine hK.out _ _ HX1.out (fun hHeld => ?_)
    clear hK
    refine tk 8 26 ?_ rfl rfl (by kernel_rfl) (fun _ _ _ h => h) (by assumption) ?_ ?_; rotate_left
    ·intro w hSw; go_simp; all_goals with_reducible rfl
    simp only [Act.put]
    refine tk 9 27 ?_ rfl rfl (by kernel_rfl) (fun _ _ _ h => h) (by assumption) ?_ ?_; rotate_left
    ·intro w hSw; go_simp; all_goals with_reducible rfl
    simp only [Act.put]
    refine tk 10 28 ?_ rfl rfl (by kernel_rfl) (fun _ _ _ h => h) (by assumption) ?_ ?_; rotate_left
    ·intro w hSw; go_simp; all_goals with_reducible rfl
    simp only [Act.put]
    refine tk 11 29 ?_ rfl rfl (by kernel_rfl) (fun _ _ _ h => h) (by assumption) ?_ ?_; rotate_left
    ·intro w hSw; go_simp; all_goals with_reducible rfl
    simp only [Act.put]
    refine rk (i := 12) (o := _) rfl (by kernel_rfl) (by kernel_rfl) (fun K hK => ?_)
    obtain ⟨l0, l1, l2, l3, l4, m1, m2, m3, m4, m5⟩ := HFA.out _ HX1.out
    go_simp
    refine (rLen_b (HP2.out.later HX1.out)).mono ?_
    rintro _ x2 ⟨rfl, b0⟩
    have HX2 : Hid (Below X2.heap.size X2 x2) := hide (HX1.out.trans (b0.mono HX1.out.size))
    clear b0; clear l0 l1 l2 l3 l4 m1 m2 m3 m4 m5
    go_wp2_with fail
    refine hK.out _ _ HX2.out (fun hHeld => ?_)
    clear hK
    refine tk 13 31 ?_ rfl rfl (by kernel_rfl) (fun _ _ _ h => h) (by assumption) ?_ ?_; rotate_left
    ·intro w hSw; go_simp; all_goals with_reducible rfl
    simp only [Act.put]
    refine rk (i := 14) (o := _) rfl (by kernel_rfl) (by kernel_rfl) (fun K hK => ?_)
    go_simp
    refine hK.out _ _ HX2.out (fun hHeld => ?_)
    clear hK
    refine wpAnyH_done (by kernel_rfl) ?_ _
    obtain ⟨X4, rfl⟩ : ∃ X4, X4 = x2 := ⟨_, rfl⟩
    have hX4 := HX2.out; clear HFA
    have HB4 : Hid (Below V.heap.size V X4) := hide (HB2.out.trans (hX4.mono HB2.out.size))
    clear hX4
    try clear u0 u1 u2 u3 u4
    have HP4 := hide (HPV.out.later HB4.out); have HV4 := hide (below_box HB4.out HV.out); have u0 := cellB HV4.out (i := 0) rfl; have u1 := cellB HV4.out (i := 1) rfl; have u2 := cellB HV4.out (i := 2) rfl; have u3 := cellB HV4.out (i := 3) rfl; have u4 := cellB HV4.out (i := 4) rfl; go_wp2; go_ret
    exact ⟨by rw [HF.out]; rfl, HBW.out.trans (HB4.out.mono HBW.out.size)⟩
   ·have d2 : decide ((j : Int) + (rn : Int) < (q.out.length : Int)) = false := decide_eq_false (by omega)
    have n2 : decide (j + rn < q.out.length) = false := decide_eq_false h3
    have HA : Hid (aboveC vs q.sk.vec = true ∧ (q.sk.out.length : Int) ≤ (j : Int) + (rs.length : Int)) := hide ⟨eq_true_of_ne_false h2, by rw [HRN.out]; show (q.out.length : Int) ≤ _; omega⟩
    clear h2
    go_upto_region 4 with fail
    have HX0 : Hid (Below X2.heap.size X2 X2.drew) := hide (Below.refl _ X2).drew
    have HFA := hide (fun (w9 : World) (hSw : Below X2.heap.size X2 w9) => And.intro (cell_later hSw u0) (And.intro (cell_later hSw u1) (And.intro (cell_later hSw u2) (And.intro (cell_later hSw u3) (And.intro (cell_later hSw u4) (And.intro ((HP2.out.later hSw).c1) (And.intro ((HP2.out.later hSw).c2) (And.intro ((HP2.out.later hSw).c3) (And.intro ((HP2.out.later hSw).c4) ((HP2.out.later hSw).c5))))))))))
    refine wp_region_held_drew (S := fun w9 => Below X2.heap.size X2 w9) (by kernel_rfl) HX0.out (fun hHeld => ?_)
    refine tk 0 18 ?_ rfl rfl (by kernel_rfl) (fun _ _ _ h => h) (by assumption) ?_ ?_; rotate_left
    ·intro w hSw; go_simp; all_goals with_reducible rfl
    simp only [Act.put]
    refine tk 1 19 ?_ rfl rfl (by kernel_rfl) (fun _ _ _ h => h) (by assumption) ?_ ?_; rotate_left
    ·intro w hSw; obtain ⟨l0, l1, l2, l3, l4, m1, m2, m3, m4, m5⟩ := HFA.out w hSw; go_simp; all_goals with_reducible rfl
    simp only [Act.put]
    refine tk 2 20 ?_ rfl rfl (by kernel_rfl) (fun _ _ _ h => h) (by assumption) ?_ ?_; rotate_left
    ·intro w hSw; go_simp; all_goals with_reducible rfl
    simp only [Act.put]
    refine tk 3 21 ?_ rfl rfl (by kernel_rfl) (fun _ _ _ h => h) (by assumption) ?_ ?_; rotate_left
    ·intro w hSw; go_simp; all_goals with_reducible rfl
    simp only [Act.put]
    refine tk 4 22 ?_ rfl rfl (by kernel_rfl) (fun _ _ _ h => h) (by assumption) ?_ ?_; rotate_left
    ·intro w hSw; go_simp; all_goals with_reducible rfl
    simp only [Act.put]
    refine tk 5 23 ?_ rfl rfl (by kernel_rfl) (fun _ _ _ h => h) (by assumption) ?_ ?_; rotate_left
    ·intro w hSw; go_simp; all_goals with_reducible rfl
    simp only [Act.put]
    refine tk 6 24 ?_ rfl rfl (by kernel_rfl) (fun _ _ _ h => h) (by assumption) ?_ ?_; rotate_left
    ·intro w hSw; obtain ⟨l0, l1, l2, l3, l4, m1, m2, m3, m4, m5⟩ := HFA.out w hSw; go_simp; all_goals with_reducible rfl
    simp only [Act.put]
    refine rk (i := 7) (o := _) rfl (by kernel_rfl) (by kernel_rfl) (fun K hK => ?_)
    obtain ⟨l0, l1, l2, l3, l4, m1, m2, m3, m4, m5⟩ := HFA.out _ HX0.out
    go_simp
    refine (rabove_any (NRow.later HN.out (HBW.out.trans ((HB2.out.trans (HX0.out.mono HB2.out.size)).mono HBW.out.size))) (HP2.out.later HX0.out).vis.vec HVN.out rfl HAB.out).mono ?_
    rintro _ x1 ⟨rfl, b0⟩
    have HX1 : Hid (Below X2.heap.size X2 x1) := hide (HX0.out.trans (b0.mono HX0.out.size))
    clear b0; clear l0 l1 l2 l3 l4 m1 m2 m3 m4 m5
    go_wp2_with fail
    refine hK.out _ _ HX1.out (fun hHeld => ?_)
    clear hK
    refine tk 8 26 ?_ rfl rfl (by kernel_rfl) (fun _ _ _ h => h) (by assumption) ?_ ?_; rotate_left
    ·intro w hSw; go_simp; all_goals with_reducible rfl
    simp only [Act.put]
    refine tk 9 27 ?_ rfl rfl (by kernel_rfl) (fun _ _ _ h => h) (by assumption) ?_ ?_; rotate_left
    ·intro w hSw; go_simp; all_goals with_reducible rfl
    simp only [Act.put]
    refine tk 10 28 ?_ rfl rfl (by kernel_rfl) (fun _ _ _ h => h) (by assumption) ?_ ?_; rotate_left
    ·intro w hSw; go_simp; all_goals with_reducible rfl
    simp only [Act.put]
    refine tk 11 29 ?_ rfl rfl (by kernel_rfl) (fun _ _ _ h => h) (by assumption) ?_ ?_; rotate_left
    ·intro w hSw; go_simp; all_goals with_reducible rfl
    simp only [Act.put]
    refine rk (i := 12) (o := _) rfl (by kernel_rfl) (by kernel_rfl) (fun K hK => ?_)
    obtain ⟨l0, l1, l2, l3, l4, m1, m2, m3, m4, m5⟩ := HFA.out _ HX1.out
    go_simp
    refine (rLen_b (HP2.out.later HX1.out)).mono ?_
    rintro _ x2 ⟨rfl, b0⟩
    have HX2 : Hid (Below X2.heap.size X2 x2) := hide (HX1.out.trans (b0.mono HX1.out.size))
    clear b0; clear l0 l1 l2 l3 l4 m1 m2 m3 m4 m5
    go_wp2_with fail
    refine hK.out _ _ HX2.out (fun hHeld => ?_)
    clear hK
    refine tk 13 31 ?_ rfl rfl (by kernel_rfl) (fun _ _ _ h => h) (by assumption) ?_ ?_; rotate_left
    ·intro w hSw; go_simp; all_goals with_reducible rfl
    simp only [Act.put]
    refine rk (i := 14) (o := _) rfl (by kernel_rfl) (by kernel_rfl) (fun K hK => ?_)
    go_simp
    refine hK.out _ _ HX2.out (fun hHeld => ?_)
    clear hK
    refine wpAnyH_done (by kernel_rfl) ?_ _
    obtain ⟨X4, rfl⟩ : ∃ X4, X4 = x2 := ⟨_, rfl⟩
    have hX4 := HX2.out; clear HFA
    have HB4 : Hid (Below V.heap.size V X4) := hide (HB2.out.trans (hX4.mono HB2.out.size))
    clear hX4
    try clear u0 u1 u2 u3 u4
    have HP4 := hide (HPV.out.later HB4.out); have HV4 := hide (below_box HB4.out HV.out); have u0 := cellB HV4.out (i := 0) rfl; have u1 := cellB HV4.out (i := 1) rfl; have u2 := cellB HV4.out (i := 2) rfl; have u3 := cellB HV4.out (i := 3) rfl; have u4 := cellB HV4.out (i := 4) rfl
    have hD : q.out.length - j ≤ rn := by omega
    have hj9 : j ≤ q.out.length := by omega
    obtain ⟨D, hD9⟩ : ∃ D, q.out.length - j = D := ⟨_, rfl⟩
    have HDD := hide hD9
    rw [hD9] at hD
    have hD8 : q.out.length = j + D := by omega
    clear h1 h3 hD9 d1 d2 n1 n2; have HO8 := hide hD8; clear hD8; have HJ9 := hide hj9; clear hj9; clear u0 u1 u2 u3 u4
    go_wp2_with fail
    go_loopw [6] (fun i wr => ∃ k : Nat, k ≤ D ∧ i = .int .i64 (k : Int) ∧ Hid ((q.out.drop j).take k = rs.take k) ∧ Hid (Below V.heap.size V wr)) (fun i _ => D - (intOf i).toNat)
    case atStart => exact ⟨0, Nat.zero_le _, rfl, hide (by simp), HB4⟩
    case round =>
     obtain ⟨k, hk, rfl, HT, HB⟩ := hrel
     rename World => wr
     have HP5 := hide (HPV.out.later HB.out); have HV5 := hide (below_box HB.out HV.out); have u0 := cellB HV5.out (i := 0) rfl; have u1 := cellB HV5.out (i := 1) rfl; have u2 := cellB HV5.out (i := 2) rfl; have u3 := cellB HV5.out (i := 3) rfl; have u4 := cellB HV5.out (i := 4) rfl
     by_cases hlt : k < D
     ·have e2 : decide ((k : Int) < (rn : Int)) = true := decide_eq_true (by omega)
      have f2 : decide (k < rn) = true := decide_eq_true (by omega)
      obtain ⟨m, hm⟩ : ∃ m, j + k = m := ⟨_, rfl⟩
      have hw : IntKind.i64.wrap ((j : Int) + (k : Int)) = (m : Int) := by rw [IntKind.wrap_i64]; omega
      have HM := hide hm; clear hm
      have e3 : decide ((m : Int) < (q.out.length : Int)) = true := decide_eq_true (by have := HO8.out; have := HM.out; omega)
      have f3 : decide (m < q.out.length) = true := decide_eq_true (by have := HO8.out; have := HM.out; omega)
      go_upto_region 7 with fail
      have HX0 : Hid (Below wr.heap.size wr wr.drew) := hide (Below.refl _ wr).drew
      have HFA := hide (fun (w9 : World) (hSw : Below wr.heap.size wr w9) => And.intro (cell_later hSw u0) (And.intro (cell_later hSw u1) (And.intro (cell_later hSw u2) (And.intro (cell_later hSw u3) (And.intro (cell_later hSw u4) (And.intro ((HP5.out.later hSw).c1) (And.intro ((HP5.out.later hSw).c2) (And.intro ((HP5.out.later hSw).c3) (And.intro ((HP5.out.later hSw).c4) ((HP5.out.later hSw).c5))))))))))
      refine wp_region_held_drew (S := fun w9 => Below wr.heap.size wr w9) (by kernel_rfl) HX0.out (fun hHeld => ?_)
      refine tk 0 33 ?_ rfl rfl (by kernel_rfl) (fun _ _ _ h => h) (by assumption) ?_ ?_; rotate_left
      ·intro w hSw; go_simp; all_goals with_reducible rfl
      simp only [Act.put]
      refine tk 1 34 ?_ rfl rfl (by kernel_rfl) (fun _ _ _ h => h) (by assumption) ?_ ?_; rotate_left
      ·intro w hSw; go_simp; all_goals with_reducible rfl
      simp only [Act.put]
      refine tk 2 35 ?_ rfl rfl (by kernel_rfl) (fun _ _ _ h => h) (by assumption) ?_ ?_; rotate_left
      ·intro w hSw; obtain ⟨l0, l1, l2, l3, l4, m1, m2, m3, m4, m5⟩ := HFA.out w hSw; go_simp; all_goals with_reducible rfl
      simp only [Act.put]
      refine tk 3 36 ?_ rfl rfl (by kernel_rfl) (fun _ _ _ h => h) (by assumption) ?_ ?_; rotate_left
      ·intro w hSw; go_simp; all_goals with_reducible rfl
      simp only [Act.put]
      refine tk 4 37 ?_ rfl rfl (by kernel_rfl) (fun _ _ _ h => h) (by assumption) ?_ ?_; rotate_left
      ·intro w hSw; go_simp; all_goals with_reducible rfl
      simp only [Act.put]
      refine tk 5 38 ?_ rfl rfl (by kernel_rfl) (fun _ _ _ h => h) (by assumption) ?_ ?_; rotate_left
      ·intro w hSw; go_simp; all_goals with_reducible rfl
      simp only [Act.put]
      refine tk 6 39 ?_ rfl rfl (by kernel_rfl) (fun _ _ _ h => h) (by assumption) ?_ ?_; rotate_left
      ·intro w hSw; go_simp; all_goals with_reducible rfl
      simp only [Act.put]
      refine tk 7 40 ?_ rfl rfl (by kernel_rfl) (fun _ _ _ h => h) (by assumption) ?_ ?_; rotate_left
      ·intro w hSw; obtain ⟨l0, l1, l2, l3, l4, m1, m2, m3, m4, m5⟩ := HFA.out w hSw; go_simp; all_goals with_reducible rfl
      simp only [Act.put]
      refine tk 8 41 ?_ rfl rfl (by kernel_rfl) (fun _ _ _ h => h) (by assumption) ?_ ?_; rotate_left
      ·intro w hSw; go_simp; all_goals with_reducible rfl
      simp only [Act.put]
      refine tk 9 42 ?_ rfl rfl (by kernel_rfl) (fun _ _ _ h => h) (by assumption) ?_ ?_; rotate_left
      ·intro w hSw; go_simp; all_goals with_reducible rfl
      simp only [Act.put]
      refine tk 10 43 ?_ rfl rfl (by kernel_rfl) (fun _ _ _ h => h) (by assumption) ?_ ?_; rotate_left
      ·intro w hSw; go_simp; all_goals with_reducible rfl
      simp only [Act.put]
      refine rk (i := 11) (o := _) rfl (by kernel_rfl) (by kernel_rfl) (fun K hK => ?_)
      obtain ⟨l0, l1, l2, l3, l4, m1, m2, m3, m4, m5⟩ := HFA.out _ HX0.out
      go_simp
      refine (rLen_b (HP5.out.later HX0.out)).mono ?_
      rintro _ x1 ⟨rfl, b0⟩
      have HX1 : Hid (Below wr.heap.size wr x1) := hide (HX0.out.trans (b0.mono HX0.out.size))
      clear b0; clear l0 l1 l2 l3 l4 m1 m2 m3 m4 m5
      go_wp2_with fail
      refine hK.out _ _ HX1.out (fun hHeld => ?_)
      clear hK
      refine tk 12 45 ?_ rfl rfl (by kernel_rfl) (fun _ _ _ h => h) (by assumption) ?_ ?_; rotate_left
      ·intro w hSw; go_simp; all_goals with_reducible rfl
      simp only [Act.put]
      refine rk (i := 13) (o := _) rfl (by kernel_rfl) (by kernel_rfl) (fun K hK => ?_)
      go_simp
      refine hK.out _ _ HX1.out (fun hHeld => ?_)
      clear hK
      refine wpAnyH_done (by kernel_rfl) ?_ _
      obtain ⟨X7, rfl⟩ : ∃ X7, X7 = x1 := ⟨_, rfl⟩
      have hX7 := HX1.out; clear HFA
      have HB7 : Hid (Below V.heap.size V X7) := hide (HB.out.trans (hX7.mono HB.out.size))
      clear hX7
      try clear u0 u1 u2 u3 u4
      have HP7 := hide (HPV.out.later HB7.out); have HV7 := hide (below_box HB7.out HV.out); have u0 := cellB HV7.out (i := 0) rfl; have u1 := cellB HV7.out (i := 1) rfl; have u2 := cellB HV7.out (i := 2) rfl; have u3 := cellB HV7.out (i := 3) rfl; have u4 := cellB HV7.out (i := 4) rfl
      have hl1 : m < q.out.length := by have := HO8.out; have := HM.out; omega
      have hl2 : k < rs.length := by rw [HRN.out]; omega
      obtain ⟨x, hx⟩ : ∃ x, q.out[m]! = x := ⟨_, rfl⟩
      obtain ⟨y, hy⟩ : ∃ y, rs[k]! = y := ⟨_, rfl⟩
      have HBW7 : Hid (Below W.heap.size W X7) := hide (HBW.out.trans (HB7.out.mono HBW.out.size))
      obtain ⟨g1, o1, hop, a0, a1⟩ := RRow.at HP7.out.vis.out hl1 hx
      obtain ⟨g2, o2, rfl, b0, b1⟩ := RRow.at (RRow.later HR.out HBW7.out) hl2 hy
      have HTS := hide (same_step (x := x) HT.out (by rw [HM.out]; exact hl1) hl2 (by rw [HM.out]; exact hx) hy); have w2 := HP7.out.c2
      rw [hop] at w2
      have hoc : q.out.length ≤ q.oc := HP7.out.vis.out.le
      have hot := HP7.out.vis.out.top
      have hrc : rs.length ≤ rc := HR.out.le
      have hrt := HR.out.top
      rw [HRN.out] at hrc
      obtain ⟨x0, x1⟩ := x
      obtain ⟨y0, y1⟩ := y
      simp only at a0 a1 b0 b1
      have HX := hide hx; have HY := hide hy; clear hx hy hop e3 f3; have hl3 := hl1; clear hl1
      revert w2 hoc hl3
      generalize hNN : q.out.length = N
      have HNN := hide hNN; clear hNN
      intro w2 hoc hl3
      have hkr : k < rn := by omega
      by_cases he : x0 = y0 ∧ x1 = y1
      ·obtain ⟨rfl, rfl⟩ := he
       have HT2 := hide (HTS.out.2 rfl)
       go_upto_region 9 with fail
       have HX0 : Hid (Below X7.heap.size X7 X7.drew) := hide (Below.refl _ X7).drew
       have HFA := hide (fun (w9 : World) (hSw : Below X7.heap.size X7 w9) => And.intro (cell_later hSw u0) (And.intro (cell_later hSw u1) (And.intro (cell_later hSw u2) (And.intro (cell_later hSw u3) (And.intro (cell_later hSw u4) (And.intro (cell_later hSw w2) (And.intro (cell_later hSw a0) (And.intro (cell_later hSw a1) (And.intro (cell_later hSw b0) (cell_later hSw b1))))))))))
       refine wp_region_held_drew (S := fun w9 => Below X7.heap.size X7 w9) (by kernel_rfl) HX0.out (fun hHeld => ?_)
       refine tk 0 49 ?_ rfl rfl (by kernel_rfl) (fun _ _ _ h => h) (by assumption) ?_ ?_; rotate_left
       ·intro w hSw; go_simp; all_goals with_reducible rfl
       simp only [Act.put]
       refine tk 1 50 ?_ rfl rfl (by kernel_rfl) (fun _ _ _ h => h) (by assumption) ?_ ?_; rotate_left
       ·intro w hSw; go_simp; all_goals with_reducible rfl
       simp only [Act.put]
       refine tk 2 51 ?_ rfl rfl (by kernel_rfl) (fun _ _ _ h => h) (by assumption) ?_ ?_; rotate_left
       ·intro w hSw; go_simp; all_goals with_reducible rfl
       simp only [Act.put]
       refine tk 3 52 ?_ rfl rfl (by kernel_rfl) (fun _ _ _ h => h) (by assumption) ?_ ?_; rotate_left
       ·intro w hSw; go_simp; all_goals with_reducible rfl
       simp only [Act.put]
       refine tk 4 53 ?_ rfl rfl (by kernel_rfl) (fun _ _ _ h => h) (by assumption) ?_ ?_; rotate_left
       ·intro w hSw; obtain ⟨l0, l1, l2, l3, l4, p_w2, p_a0, p_a1, p_b0, p_b1⟩ := HFA.out w hSw; go_simp; all_goals with_reducible rfl
       simp only [Act.put]
       refine tk 5 54 ?_ rfl rfl (by kernel_rfl) (fun _ _ _ h => h) (by assumption) ?_ ?_; rotate_left
       ·intro w hSw; go_simp; all_goals with_reducible rfl
       simp only [Act.put]
       refine tk 6 55 ?_ rfl rfl (by kernel_rfl) (fun _ _ _ h => h) (by assumption) ?_ ?_; rotate_left
       ·intro w hSw; obtain ⟨l0, l1, l2, l3, l4, p_w2, p_a0, p_a1, p_b0, p_b1⟩ := HFA.out w hSw; go_simp; all_goals with_reducible rfl
       simp only [Act.put]
       refine tk 7 56 ?_ rfl rfl (by kernel_rfl) (fun _ _ _ h => h) (by assumption) ?_ ?_; rotate_left
       ·intro w hSw; go_simp; all_goals with_reducible rfl
       simp only [Act.put]
       refine tk 8 57 ?_ rfl rfl (by kernel_rfl) (fun _ _ _ h => h) (by assumption) ?_ ?_; rotate_left
       ·intro w hSw; go_simp; all_goals with_reducible rfl
       simp only [Act.put]
       refine tk 9 58 ?_ rfl rfl (by kernel_rfl) (fun _ _ _ h => h) (by assumption) ?_ ?_; rotate_left
       ·intro w hSw; go_simp; all_goals with_reducible rfl
       simp only [Act.put]
       refine tk 10 59 ?_ rfl rfl (by kernel_rfl) (fun _ _ _ h => h) (by assumption) ?_ ?_; rotate_left
       ·intro w hSw; obtain ⟨l0, l1, l2, l3, l4, p_w2, p_a0, p_a1, p_b0, p_b1⟩ := HFA.out w hSw; go_simp; all_goals with_reducible rfl
       simp only [Act.put]
       refine tk 11 60 ?_ rfl rfl (by kernel_rfl) (fun _ _ _ h => h) (by assumption) ?_ ?_; rotate_left
       ·intro w hSw; go_simp; all_goals with_reducible rfl
       simp only [Act.put]
       refine tk 12 61 ?_ rfl rfl (by kernel_rfl) (fun _ _ _ h => h) (by assumption) ?_ ?_; rotate_left
       ·intro w hSw; obtain ⟨l0, l1, l2, l3, l4, p_w2, p_a0, p_a1, p_b0, p_b1⟩ := HFA.out w hSw; go_simp; all_goals with_reducible rfl
       simp only [Act.put]
       refine tk 13 62 ?_ rfl rfl (by kernel_rfl) (fun _ _ _ h => h) (by assumption) ?_ ?_; rotate_left
       ·intro w hSw; go_simp; all_goals with_reducible rfl
       simp only [Act.put]
       refine tk 14 63 ?_ rfl rfl (by kernel_rfl) (fun _ _ _ h => h) (by assumption) ?_ ?_; rotate_left
       ·intro w hSw; go_simp; all_goals with_reducible rfl
       simp only [Act.put]
       refine tk 15 64 ?_ rfl rfl (by kernel_rfl) (fun _ _ _ h => h) (by assumption) ?_ ?_; rotate_left
       ·intro w hSw; obtain ⟨l0, l1, l2, l3, l4, p_w2, p_a0, p_a1, p_b0, p_b1⟩ := HFA.out w hSw; go_simp; all_goals with_reducible rfl
       simp only [Act.put]
       refine rk (i := 16) (o := _) rfl (by kernel_rfl) (by kernel_rfl) (fun K hK => ?_)
       go_simp
       refine hK.out _ _ HX0.out (fun hHeld => ?_)
       clear hK
       refine wpAnyH_done (by kernel_rfl) ?_ _
       obtain ⟨X9, hXE⟩ : ∃ X9, X9 = X7.drew := ⟨_, rfl⟩
       rw [← hXE]
       have hX9 : Below X7.heap.size X7 X9 := by rw [hXE]; exact HX0.out
       clear hXE; clear HFA
       have HB9 : Hid (Below V.heap.size V X9) := hide (HB7.out.trans (hX9.mono HB7.out.size))
       clear hX9
       rw [← HNN.out]
       clear w2 hoc hl3; go_wp2
       exact ⟨⟨k + 1, by omega, by first | rfl | go_num, HT2, HB9⟩, by simp [intOf]; omega⟩
      ·have HF : Hid (r = 153) := hide (by
         rw [← HQ.out]
         refine suit_df (Int.not_lt.2 HG.out) (not_ab HA.out) (same_not (k := k) (by show k < q.out.length - j; have := HO8.out; omega) (fun h9 => ?_))
         have h8 := HTS.out.1 h9
         simp only [RC.mk.injEq] at h8
         exact he h8)
       by_cases h0 : x0 = y0
       ·subst h0
        have e4 := ne_eq (fun h : x1 = y1 => he ⟨rfl, h⟩); clear he
        go_upto_region 9 with fail
        have HX0 : Hid (Below X7.heap.size X7 X7.drew) := hide (Below.refl _ X7).drew
        have HFA := hide (fun (w9 : World) (hSw : Below X7.heap.size X7 w9) => And.intro (cell_later hSw u0) (And.intro (cell_later hSw u1) (And.intro (cell_later hSw u2) (And.intro (cell_later hSw u3) (And.intro (cell_later hSw u4) (And.intro (cell_later hSw w2) (And.intro (cell_later hSw a0) (And.intro (cell_later hSw a1) (And.intro (cell_later hSw b0) (cell_later hSw b1))))))))))
        refine wp_region_held_drew (S := fun w9 => Below X7.heap.size X7 w9) (by kernel_rfl) HX0.out (fun hHeld => ?_)
        refine tk 0 49 ?_ rfl rfl (by kernel_rfl) (fun _ _ _ h => h) (by assumption) ?_ ?_; rotate_left
        ·intro w hSw; go_simp; all_goals with_reducible rfl
        simp only [Act.put]
        refine tk 1 50 ?_ rfl rfl (by kernel_rfl) (fun _ _ _ h => h) (by assumption) ?_ ?_; rotate_left
        ·intro w hSw; go_simp; all_goals with_reducible rfl
        simp only [Act.put]
        refine tk 2 51 ?_ rfl rfl (by kernel_rfl) (fun _ _ _ h => h) (by assumption) ?_ ?_; rotate_left
        ·intro w hSw; go_simp; all_goals with_reducible rfl
        simp only [Act.put]
        refine tk 3 52 ?_ rfl rfl (by kernel_rfl) (fun _ _ _ h => h) (by assumption) ?_ ?_; rotate_left
        ·intro w hSw; go_simp; all_goals with_reducible rfl
        simp only [Act.put]
        refine tk 4 53 ?_ rfl rfl (by kernel_rfl) (fun _ _ _ h => h) (by assumption) ?_ ?_; rotate_left
        ·intro w hSw; obtain ⟨l0, l1, l2, l3, l4, p_w2, p_a0, p_a1, p_b0, p_b1⟩ := HFA.out w hSw; go_simp; all_goals with_reducible rfl
        simp only [Act.put]
        refine tk 5 54 ?_ rfl rfl (by kernel_rfl) (fun _ _ _ h => h) (by assumption) ?_ ?_; rotate_left
        ·intro w hSw; go_simp; all_goals with_reducible rfl
        simp only [Act.put]
        refine tk 6 55 ?_ rfl rfl (by kernel_rfl) (fun _ _ _ h => h) (by assumption) ?_ ?_; rotate_left
        ·intro w hSw; obtain ⟨l0, l1, l2, l3, l4, p_w2, p_a0, p_a1, p_b0, p_b1⟩ := HFA.out w hSw; go_simp; all_goals with_reducible rfl
        simp only [Act.put]
        refine tk 7 56 ?_ rfl rfl (by kernel_rfl) (fun _ _ _ h => h) (by assumption) ?_ ?_; rotate_left
        ·intro w hSw; go_simp; all_goals with_reducible rfl
        simp only [Act.put]
        refine tk 8 57 ?_ rfl rfl (by kernel_rfl) (fun _ _ _ h => h) (by assumption) ?_ ?_; rotate_left
        ·intro w hSw; go_simp; all_goals with_reducible rfl
        simp only [Act.put]
        refine tk 9 58 ?_ rfl rfl (by kernel_rfl) (fun _ _ _ h => h) (by assumption) ?_ ?_; rotate_left
        ·intro w hSw; go_simp; all_goals with_reducible rfl
        simp only [Act.put]
        refine tk 10 59 ?_ rfl rfl (by kernel_rfl) (fun _ _ _ h => h) (by assumption) ?_ ?_; rotate_left
        ·intro w hSw; obtain ⟨l0, l1, l2, l3, l4, p_w2, p_a0, p_a1, p_b0, p_b1⟩ := HFA.out w hSw; go_simp; all_goals with_reducible rfl
        simp only [Act.put]
        refine tk 11 60 ?_ rfl rfl (by kernel_rfl) (fun _ _ _ h => h) (by assumption) ?_ ?_; rotate_left
        ·intro w hSw; go_simp; all_goals with_reducible rfl
        simp only [Act.put]
        refine tk 12 61 ?_ rfl rfl (by kernel_rfl) (fun _ _ _ h => h) (by assumption) ?_ ?_; rotate_left
        ·intro w hSw; obtain ⟨l0, l1, l2, l3, l4, p_w2, p_a0, p_a1, p_b0, p_b1⟩ := HFA.out w hSw; go_simp; all_goals with_reducible rfl
        simp only [Act.put]
        refine tk 13 62 ?_ rfl rfl (by kernel_rfl) (fun _ _ _ h => h) (by assumption) ?_ ?_; rotate_left
        ·intro w hSw; go_simp; all_goals with_reducible rfl
        simp only [Act.put]
        refine tk 14 63 ?_ rfl rfl (by kernel_rfl) (fun _ _ _ h => h) (by assumption) ?_ ?_; rotate_left
        ·intro w hSw; go_simp; all_goals with_reducible rfl
        simp only [Act.put]
        refine tk 15 64 ?_ rfl rfl (by kernel_rfl) (fun _ _ _ h => h) (by assumption) ?_ ?_; rotate_left
        ·intro w hSw; obtain ⟨l0, l1, l2, l3, l4, p_w2, p_a0, p_a1, p_b0, p_b1⟩ := HFA.out w hSw; go_simp; all_goals with_reducible rfl
        simp only [Act.put]
        refine rk (i := 16) (o := _) rfl (by kernel_rfl) (by kernel_rfl) (fun K hK => ?_)
        go_simp
        refine hK.out _ _ HX0.out (fun hHeld => ?_)
        clear hK
        refine wpAnyH_done (by kernel_rfl) ?_ _
        obtain ⟨X9, hXE⟩ : ∃ X9, X9 = X7.drew := ⟨_, rfl⟩
        rw [← hXE]
        have hX9 : Below X7.heap.size X7 X9 := by rw [hXE]; exact HX0.out
        clear hXE; clear HFA
        have HB9 : Hid (Below V.heap.size V X9) := hide (HB7.out.trans (hX9.mono HB7.out.size))
        clear hX9; go_wp2; go_ret
        exact ⟨by rw [HF.out]; rfl, HBW.out.trans (HB9.out.mono HBW.out.size)⟩
       ·have e4 := ne_eq h0; clear he
        go_upto_region 9 with fail
        have HX0 : Hid (Below X7.heap.size X7 X7.drew) := hide (Below.refl _ X7).drew
        have HFA := hide (fun (w9 : World) (hSw : Below X7.heap.size X7 w9) => And.intro (cell_later hSw u0) (And.intro (cell_later hSw u1) (And.intro (cell_later hSw u2) (And.intro (cell_later hSw u3) (And.intro (cell_later hSw u4) (And.intro (cell_later hSw w2) (And.intro (cell_later hSw a0) (And.intro (cell_later hSw a1) (And.intro (cell_later hSw b0) (cell_later hSw b1))))))))))
        refine wp_region_held_drew (S := fun w9 => Below X7.heap.size X7 w9) (by kernel_rfl) HX0.out (fun hHeld => ?_)
        refine tk 0 49 ?_ rfl rfl (by kernel_rfl) (fun _ _ _ h => h) (by assumption) ?_ ?_; rotate_left
        ·intro w hSw; go_simp; all_goals with_reducible rfl
        simp only [Act.put]
        refine tk 1 50 ?_ rfl rfl (by kernel_rfl) (fun _ _ _ h => h) (by assumption) ?_ ?_; rotate_left
        ·intro w hSw; go_simp; all_goals with_reducible rfl
        simp only [Act.put]
        refine tk 2 51 ?_ rfl rfl (by kernel_rfl) (fun _ _ _ h => h) (by assumption) ?_ ?_; rotate_left
        ·intro w hSw; go_simp; all_goals with_reducible rfl
        simp only [Act.put]
        refine tk 3 52 ?_ rfl rfl (by kernel_rfl) (fun _ _ _ h => h) (by assumption) ?_ ?_; rotate_left
        ·intro w hSw; go_simp; all_goals with_reducible rfl
        simp only [Act.put]
        refine tk 4 53 ?_ rfl rfl (by kernel_rfl) (fun _ _ _ h => h) (by assumption) ?_ ?_; rotate_left
        ·intro w hSw; obtain ⟨l0, l1, l2, l3, l4, p_w2, p_a0, p_a1, p_b0, p_b1⟩ := HFA.out w hSw; go_simp; all_goals with_reducible rfl
        simp only [Act.put]
        refine tk 5 54 ?_ rfl rfl (by kernel_rfl) (fun _ _ _ h => h) (by assumption) ?_ ?_; rotate_left
        ·intro w hSw; go_simp; all_goals with_reducible rfl
        simp only [Act.put]
        refine tk 6 55 ?_ rfl rfl (by kernel_rfl) (fun _ _ _ h => h) (by assumption) ?_ ?_; rotate_left
        ·intro w hSw; obtain ⟨l0, l1, l2, l3, l4, p_w2, p_a0, p_a1, p_b0, p_b1⟩ := HFA.out w hSw; go_simp; all_goals with_reducible rfl
        simp only [Act.put]
        refine tk 7 56 ?_ rfl rfl (by kernel_rfl) (fun _ _ _ h => h) (by assumption) ?_ ?_; rotate_left
        ·intro w hSw; go_simp; all_goals with_reducible rfl
        simp only [Act.put]
        refine tk 8 57 ?_ rfl rfl (by kernel_rfl) (fun _ _ _ h => h) (by assumption) ?_ ?_; rotate_left
        ·intro w hSw; go_simp; all_goals with_reducible rfl
        simp only [Act.put]
        refine tk 9 58 ?_ rfl rfl (by kernel_rfl) (fun _ _ _ h => h) (by assumption) ?_ ?_; rotate_left
        ·intro w hSw; go_simp; all_goals with_reducible rfl
        simp only [Act.put]
        refine tk 10 59 ?_ rfl rfl (by kernel_rfl) (fun _ _ _ h => h) (by assumption) ?_ ?_; rotate_left
        ·intro w hSw; obtain ⟨l0, l1, l2, l3, l4, p_w2, p_a0, p_a1, p_b0, p_b1⟩ := HFA.out w hSw; go_simp; all_goals with_reducible rfl
        simp only [Act.put]
        refine tk 11 60 ?_ rfl rfl (by kernel_rfl) (fun _ _ _ h => h) (by assumption) ?_ ?_; rotate_left
        ·intro w hSw; go_simp; all_goals with_reducible rfl
        simp only [Act.put]
        refine tk 12 61 ?_ rfl rfl (by kernel_rfl) (fun _ _ _ h => h) (by assumption) ?_ ?_; rotate_left
        ·intro w hSw; obtain ⟨l0, l1, l2, l3, l4, p_w2, p_a0, p_a1, p_b0, p_b1⟩ := HFA.out w hSw; go_simp; all_goals with_reducible rfl
        simp only [Act.put]
        refine tk 13 62 ?_ rfl rfl (by kernel_rfl) (fun _ _ _ h => h) (by assumption) ?_ ?_; rotate_left
        ·intro w hSw; go_simp; all_goals with_reducible rfl
        simp only [Act.put]
        refine tk 14 63 ?_ rfl rfl (by kernel_rfl) (fun _ _ _ h => h) (by assumption) ?_ ?_; rotate_left
        ·intro w hSw; go_simp; all_goals with_reducible rfl
        simp only [Act.put]
        refine tk 15 64 ?_ rfl rfl (by kernel_rfl) (fun _ _ _ h => h) (by assumption) ?_ ?_; rotate_left
        ·intro w hSw; obtain ⟨l0, l1, l2, l3, l4, p_w2, p_a0, p_a1, p_b0, p_b1⟩ := HFA.out w hSw; go_simp; all_goals with_reducible rfl
        simp only [Act.put]
        refine rk (i := 16) (o := _) rfl (by kernel_rfl) (by kernel_rfl) (fun K hK => ?_)
        go_simp
        refine hK.out _ _ HX0.out (fun hHeld => ?_)
        clear hK
        refine wpAnyH_done (by kernel_rfl) ?_ _
        obtain ⟨X9, hXE⟩ : ∃ X9, X9 = X7.drew := ⟨_, rfl⟩
        rw [← hXE]
        have hX9 : Below X7.heap.size X7 X9 := by rw [hXE]; exact HX0.out
        clear hXE; clear HFA
        have HB9 : Hid (Below V.heap.size V X9) := hide (HB7.out.trans (hX9.mono HB7.out.size))
        clear hX9; go_wp2; go_ret
        exact ⟨by rw [HF.out]; rfl, HBW.out.trans (HB9.out.mono HBW.out.size)⟩
     ·obtain rfl : k = D := by omega
      have HSM : Hid (sameC q.sk ⟨ep, id, (j : Int), rs, vs⟩ = true) := hide (same_end (s := q.sk) (by show (q.out.drop j).take (q.out.length - j) = rs.take (q.out.length - j); rw [HDD.out]; exact HT.out))
      obtain ⟨m, hm⟩ : ∃ m, j + k = m := ⟨_, rfl⟩
      have hw : IntKind.i64.wrap ((j : Int) + (k : Int)) = (m : Int) := by rw [IntKind.wrap_i64]; omega
      have HM := hide hm; clear hm
      have e3 : decide ((m : Int) < (q.out.length : Int)) = false := decide_eq_false (by have := HO8.out; have := HM.out; omega)
      have f3 : decide (m < q.out.length) = false := decide_eq_false (by have := HO8.out; have := HM.out; omega)
      by_cases h4 : 4096 < j + rn
      ·have d4 : decide ((j : Int) + (rn : Int) > 4096) = true := decide_eq_true (by omega)
       have n4 : decide (4096 < j + rn) = true := decide_eq_true h4
       have HF : Hid (r = 30) := hide (by rw [← HQ.out]; exact suit_rm (Int.not_lt.2 HG.out) (not_ab HA.out) (by rw [HSM.out]; decide) (by show (4096 : Int) < (j : Int) + (rs.length : Int); rw [HRN.out]; omega))
       by_cases hlr : k < rn
       ·have e2 : decide ((k : Int) < (rn : Int)) = true := decide_eq_true (by omega)
        have f2 : decide (k < rn) = true := decide_eq_true hlr
        go_upto_region 7 with fail
        have HX0 : Hid (Below wr.heap.size wr wr.drew) := hide (Below.refl _ wr).drew
        have HFA := hide (fun (w9 : World) (hSw : Below wr.heap.size wr w9) => And.intro (cell_later hSw u0) (And.intro (cell_later hSw u1) (And.intro (cell_later hSw u2) (And.intro (cell_later hSw u3) (And.intro (cell_later hSw u4) (And.intro ((HP5.out.later hSw).c1) (And.intro ((HP5.out.later hSw).c2) (And.intro ((HP5.out.later hSw).c3) (And.intro ((HP5.out.later hSw).c4) ((HP5.out.later hSw).c5))))))))))
        refine wp_region_held_drew (S := fun w9 => Below wr.heap.size wr w9) (by kernel_rfl) HX0.out (fun hHeld => ?_)
        refine tk 0 33 ?_ rfl rfl (by kernel_rfl) (fun _ _ _ h => h) (by assumption) ?_ ?_; rotate_left
        ·intro w hSw; go_simp; all_goals with_reducible rfl
        simp only [Act.put]
        refine tk 1 34 ?_ rfl rfl (by kernel_rfl) (fun _ _ _ h => h) (by assumption) ?_ ?_; rotate_left
        ·intro w hSw; go_simp; all_goals with_reducible rfl
        simp only [Act.put]
        refine tk 2 35 ?_ rfl rfl (by kernel_rfl) (fun _ _ _ h => h) (by assumption) ?_ ?_; rotate_left
        ·intro w hSw; obtain ⟨l0, l1, l2, l3, l4, m1, m2, m3, m4, m5⟩ := HFA.out w hSw; go_simp; all_goals with_reducible rfl
        simp only [Act.put]
        refine tk 3 36 ?_ rfl rfl (by kernel_rfl) (fun _ _ _ h => h) (by assumption) ?_ ?_; rotate_left
        ·intro w hSw; go_simp; all_goals with_reducible rfl
        simp only [Act.put]
        refine tk 4 37 ?_ rfl rfl (by kernel_rfl) (fun _ _ _ h => h) (by assumption) ?_ ?_; rotate_left
        ·intro w hSw; go_simp; all_goals with_reducible rfl
        simp only [Act.put]
        refine tk 5 38 ?_ rfl rfl (by kernel_rfl) (fun _ _ _ h => h) (by assumption) ?_ ?_; rotate_left
        ·intro w hSw; go_simp; all_goals with_reducible rfl
        simp only [Act.put]
        refine tk 6 39 ?_ rfl rfl (by kernel_rfl) (fun _ _ _ h => h) (by assumption) ?_ ?_; rotate_left
        ·intro w hSw; go_simp; all_goals with_reducible rfl
        simp only [Act.put]
        refine tk 7 40 ?_ rfl rfl (by kernel_rfl) (fun _ _ _ h => h) (by assumption) ?_ ?_; rotate_left
        ·intro w hSw; obtain ⟨l0, l1, l2, l3, l4, m1, m2, m3, m4, m5⟩ := HFA.out w hSw; go_simp; all_goals with_reducible rfl
        simp only [Act.put]
        refine tk 8 41 ?_ rfl rfl (by kernel_rfl) (fun _ _ _ h => h) (by assumption) ?_ ?_; rotate_left
        ·intro w hSw; go_simp; all_goals with_reducible rfl
        simp only [Act.put]
        refine tk 9 42 ?_ rfl rfl (by kernel_rfl) (fun _ _ _ h => h) (by assumption) ?_ ?_; rotate_left
        ·intro w hSw; go_simp; all_goals with_reducible rfl
        simp only [Act.put]
        refine tk 10 43 ?_ rfl rfl (by kernel_rfl) (fun _ _ _ h => h) (by assumption) ?_ ?_; rotate_left
        ·intro w hSw; go_simp; all_goals with_reducible rfl
        simp only [Act.put]
        refine rk (i := 11) (o := _) rfl (by kernel_rfl) (by kernel_rfl) (fun K hK => ?_)
        obtain ⟨l0, l1, l2, l3, l4, m1, m2, m3, m4, m5⟩ := HFA.out _ HX0.out
        go_simp
        refine (rLen_b (HP5.out.later HX0.out)).mono ?_
        rintro _ x1 ⟨rfl, b0⟩
        have HX1 : Hid (Below wr.heap.size wr x1) := hide (HX0.out.trans (b0.mono HX0.out.size))
        clear b0; clear l0 l1 l2 l3 l4 m1 m2 m3 m4 m5
        go_wp2_with fail
        refine hK.out _ _ HX1.out (fun hHeld => ?_)
        clear hK
        refine tk 12 45 ?_ rfl rfl (by kernel_rfl) (fun _ _ _ h => h) (by assumption) ?_ ?_; rotate_left
        ·intro w hSw; go_simp; all_goals with_reducible rfl
        simp only [Act.put]
        refine rk (i := 13) (o := _) rfl (by kernel_rfl) (by kernel_rfl) (fun K hK => ?_)
        go_simp
        refine hK.out _ _ HX1.out (fun hHeld => ?_)
        clear hK
        refine wpAnyH_done (by kernel_rfl) ?_ _
        obtain ⟨X7, rfl⟩ : ∃ X7, X7 = x1 := ⟨_, rfl⟩
        have hX7 := HX1.out; clear HFA
        have HB7 : Hid (Below V.heap.size V X7) := hide (HB.out.trans (hX7.mono HB.out.size))
        clear hX7
        try clear u0 u1 u2 u3 u4
        have HP7 := hide (HPV.out.later HB7.out); have HV7 := hide (below_box HB7.out HV.out); have u0 := cellB HV7.out (i := 0) rfl; have u1 := cellB HV7.out (i := 1) rfl; have u2 := cellB HV7.out (i := 2) rfl; have u3 := cellB HV7.out (i := 3) rfl; have u4 := cellB HV7.out (i := 4) rfl; go_wp2; go_ret
        exact ⟨by rw [HF.out]; rfl, HBW.out.trans (HB7.out.mono HBW.out.size)⟩
       ·have e2 : decide ((k : Int) < (rn : Int)) = false := decide_eq_false (by omega)
        have f2 : decide (k < rn) = false := decide_eq_false hlr
        go_upto_region 7 with fail
        have HX0 : Hid (Below wr.heap.size wr wr.drew) := hide (Below.refl _ wr).drew
        have HFA := hide (fun (w9 : World) (hSw : Below wr.heap.size wr w9) => And.intro (cell_later hSw u0) (And.intro (cell_later hSw u1) (And.intro (cell_later hSw u2) (And.intro (cell_later hSw u3) (And.intro (cell_later hSw u4) (And.intro ((HP5.out.later hSw).c1) (And.intro ((HP5.out.later hSw).c2) (And.intro ((HP5.out.later hSw).c3) (And.intro ((HP5.out.later hSw).c4) ((HP5.out.later hSw).c5))))))))))
        refine wp_region_held_drew (S := fun w9 => Below wr.heap.size wr w9) (by kernel_rfl) HX0.out (fun hHeld => ?_)
        refine tk 0 33 ?_ rfl rfl (by kernel_rfl) (fun _ _ _ h => h) (by assumption) ?_ ?_; rotate_left
        ·intro w hSw; go_simp; all_goals with_reducible rfl
        simp only [Act.put]
        refine tk 1 34 ?_ rfl rfl (by kernel_rfl) (fun _ _ _ h => h) (by assumption) ?_ ?_; rotate_left
        ·intro w hSw; go_simp; all_goals with_reducible rfl
        simp only [Act.put]
        refine tk 2 35 ?_ rfl rfl (by kernel_rfl) (fun _ _ _ h => h) (by assumption) ?_ ?_; rotate_left
        ·intro w hSw; obtain ⟨l0, l1, l2, l3, l4, m1, m2, m3, m4, m5⟩ := HFA.out w hSw; go_simp; all_goals with_reducible rfl
        simp only [Act.put]
        refine tk 3 36 ?_ rfl rfl (by kernel_rfl) (fun _ _ _ h => h) (by assumption) ?_ ?_; rotate_left
        ·intro w hSw; go_simp; all_goals with_reducible rfl
        simp only [Act.put]
        refine tk 4 37 ?_ rfl rfl (by kernel_rfl) (fun _ _ _ h => h) (by assumption) ?_ ?_; rotate_left
        ·intro w hSw; go_simp; all_goals with_reducible rfl
        simp only [Act.put]
        refine tk 5 38 ?_ rfl rfl (by kernel_rfl) (fun _ _ _ h => h) (by assumption) ?_ ?_; rotate_left
        ·intro w hSw; go_simp; all_goals with_reducible rfl
        simp only [Act.put]
        refine sk 6 39 rfl rfl (by kernel_rfl) (fun _ _ _ h => h) (by assumption) ?_
        simp only [Act.put]
        refine sk 7 40 rfl rfl (by kernel_rfl) (fun _ _ _ h => h) (by assumption) ?_
        simp only [Act.put]
        refine sk 8 41 rfl rfl (by kernel_rfl) (fun _ _ _ h => h) (by assumption) ?_
        simp only [Act.put]
        refine sk 9 42 rfl rfl (by kernel_rfl) (fun _ _ _ h => h) (by assumption) ?_
        simp only [Act.put]
        refine sk 10 43 rfl rfl (by kernel_rfl) (fun _ _ _ h => h) (by assumption) ?_
        simp only [Act.put]
        refine sk 11 44 rfl rfl (by kernel_rfl) (fun _ _ _ h => h) (by assumption) ?_
        simp only [Act.put]
        refine sk 12 45 rfl rfl (by kernel_rfl) (fun _ _ _ h => h) (by assumption) ?_
        simp only [Act.put]
        refine rk (i := 13) (o := _) rfl (by kernel_rfl) (by kernel_rfl) (fun K hK => ?_)
        go_simp
        refine hK.out _ _ HX0.out (fun hHeld => ?_)
        clear hK
        refine wpAnyH_done (by kernel_rfl) ?_ _
        obtain ⟨X7, hXE⟩ : ∃ X7, X7 = wr.drew := ⟨_, rfl⟩
        rw [← hXE]
        have hX7 : Below wr.heap.size wr X7 := by rw [hXE]; exact HX0.out
        clear hXE; clear HFA
        have HB7 : Hid (Below V.heap.size V X7) := hide (HB.out.trans (hX7.mono HB.out.size))
        clear hX7
        try clear u0 u1 u2 u3 u4
        have HP7 := hide (HPV.out.later HB7.out); have HV7 := hide (below_box HB7.out HV.out); have u0 := cellB HV7.out (i := 0) rfl; have u1 := cellB HV7.out (i := 1) rfl; have u2 := cellB HV7.out (i := 2) rfl; have u3 := cellB HV7.out (i := 3) rfl; have u4 := cellB HV7.out (i := 4) rfl; go_wp2; go_ret
        exact ⟨by rw [HF.out]; rfl, HBW.out.trans (HB7.out.mono HBW.out.size)⟩
      ·have d4 : decide ((j : Int) + (rn : Int) > 4096) = false := decide_eq_false (by omega)
       have n4 : decide (4096 < j + rn) = false := decide_eq_false h4
       have HF : Hid (r = 0) := hide (by rw [← HQ.out]; exact suit_ok (Int.not_lt.2 HG.out) (not_ab HA.out) (by rw [HSM.out]; decide) (by show ¬ (4096 : Int) < (j : Int) + (rs.length : Int); rw [HRN.out]; omega))
       by_cases hlr : k < rn
       ·have e2 : decide ((k : Int) < (rn : Int)) = true := decide_eq_true (by omega)
        have f2 : decide (k < rn) = true := decide_eq_true hlr
        go_upto_region 7 with fail
        have HX0 : Hid (Below wr.heap.size wr wr.drew) := hide (Below.refl _ wr).drew
        have HFA := hide (fun (w9 : World) (hSw : Below wr.heap.size wr w9) => And.intro (cell_later hSw u0) (And.intro (cell_later hSw u1) (And.intro (cell_later hSw u2) (And.intro (cell_later hSw u3) (And.intro (cell_later hSw u4) (And.intro ((HP5.out.later hSw).c1) (And.intro ((HP5.out.later hSw).c2) (And.intro ((HP5.out.later hSw).c3) (And.intro ((HP5.out.later hSw).c4) ((HP5.out.later hSw).c5))))))))))
        refine wp_region_held_drew (S := fun w9 => Below wr.heap.size wr w9) (by kernel_rfl) HX0.out (fun hHeld => ?_)
        refine tk 0 33 ?_ rfl rfl (by kernel_rfl) (fun _ _ _ h => h) (by assumption) ?_ ?_; rotate_left
        ·intro w hSw; go_simp; all_goals with_reducible rfl
        simp only [Act.put]
        refine tk 1 34 ?_ rfl rfl (by kernel_rfl) (fun _ _ _ h => h) (by assumption) ?_ ?_; rotate_left
        ·intro w hSw; go_simp; all_goals with_reducible rfl
        simp only [Act.put]
        refine tk 2 35 ?_ rfl rfl (by kernel_rfl) (fun _ _ _ h => h) (by assumption) ?_ ?_; rotate_left
        ·intro w hSw; obtain ⟨l0, l1, l2, l3, l4, m1, m2, m3, m4, m5⟩ := HFA.out w hSw; go_simp; all_goals with_reducible rfl
        simp only [Act.put]
        refine tk 3 36 ?_ rfl rfl (by kernel_rfl) (fun _ _ _ h => h) (by assumption) ?_ ?_; rotate_left
        ·intro w hSw; go_simp; all_goals with_reducible rfl
        simp only [Act.put]
        refine tk 4 37 ?_ rfl rfl (by kernel_rfl) (fun _ _ _ h => h) (by assumption) ?_ ?_; rotate_left
        ·intro w hSw; go_simp; all_goals with_reducible rfl
        simp only [Act.put]
        refine tk 5 38 ?_ rfl rfl (by kernel_rfl) (fun _ _ _ h => h) (by assumption) ?_ ?_; rotate_left
        ·intro w hSw; go_simp; all_goals with_reducible rfl
        simp only [Act.put]
        refine tk 6 39 ?_ rfl rfl (by kernel_rfl) (fun _ _ _ h => h) (by assumption) ?_ ?_; rotate_left
        ·intro w hSw; go_simp; all_goals with_reducible rfl
        simp only [Act.put]
        refine tk 7 40 ?_ rfl rfl (by kernel_rfl) (fun _ _ _ h => h) (by assumption) ?_ ?_; rotate_left
        ·intro w hSw; obtain ⟨l0, l1, l2, l3, l4, m1, m2, m3, m4, m5⟩ := HFA.out w hSw; go_simp; all_goals with_reducible rfl
        simp only [Act.put]
        refine tk 8 41 ?_ rfl rfl (by kernel_rfl) (fun _ _ _ h => h) (by assumption) ?_ ?_; rotate_left
        ·intro w hSw; go_simp; all_goals with_reducible rfl
        simp only [Act.put]
        refine tk 9 42 ?_ rfl rfl (by kernel_rfl) (fun _ _ _ h => h) (by assumption) ?_ ?_; rotate_left
        ·intro w hSw; go_simp; all_goals with_reducible rfl
        simp only [Act.put]
        refine tk 10 43 ?_ rfl rfl (by kernel_rfl) (fun _ _ _ h => h) (by assumption) ?_ ?_; rotate_left
        ·intro w hSw; go_simp; all_goals with_reducible rfl
        simp only [Act.put]
        refine rk (i := 11) (o := _) rfl (by kernel_rfl) (by kernel_rfl) (fun K hK => ?_)
        obtain ⟨l0, l1, l2, l3, l4, m1, m2, m3, m4, m5⟩ := HFA.out _ HX0.out
        go_simp
        refine (rLen_b (HP5.out.later HX0.out)).mono ?_
        rintro _ x1 ⟨rfl, b0⟩
        have HX1 : Hid (Below wr.heap.size wr x1) := hide (HX0.out.trans (b0.mono HX0.out.size))
        clear b0; clear l0 l1 l2 l3 l4 m1 m2 m3 m4 m5
        go_wp2_with fail
        refine hK.out _ _ HX1.out (fun hHeld => ?_)
        clear hK
        refine tk 12 45 ?_ rfl rfl (by kernel_rfl) (fun _ _ _ h => h) (by assumption) ?_ ?_; rotate_left
        ·intro w hSw; go_simp; all_goals with_reducible rfl
        simp only [Act.put]
        refine rk (i := 13) (o := _) rfl (by kernel_rfl) (by kernel_rfl) (fun K hK => ?_)
        go_simp
        refine hK.out _ _ HX1.out (fun hHeld => ?_)
        clear hK
        refine wpAnyH_done (by kernel_rfl) ?_ _
        obtain ⟨X7, rfl⟩ : ∃ X7, X7 = x1 := ⟨_, rfl⟩
        have hX7 := HX1.out; clear HFA
        have HB7 : Hid (Below V.heap.size V X7) := hide (HB.out.trans (hX7.mono HB.out.size))
        clear hX7
        try clear u0 u1 u2 u3 u4
        have HP7 := hide (HPV.out.later HB7.out); have HV7 := hide (below_box HB7.out HV.out); have u0 := cellB HV7.out (i := 0) rfl; have u1 := cellB HV7.out (i := 1) rfl; have u2 := cellB HV7.out (i := 2) rfl; have u3 := cellB HV7.out (i := 3) rfl; have u4 := cellB HV7.out (i := 4) rfl; go_wp2; go_ret
        exact ⟨by rw [HF.out]; rfl, HBW.out.trans (HB7.out.mono HBW.out.size)⟩
       ·have e2 : decide ((k : Int) < (rn : Int)) = false := decide_eq_false (by omega)
        have f2 : decide (k < rn) = false := decide_eq_false hlr
        go_upto_region 7 with fail
        have HX0 : Hid (Below wr.heap.size wr wr.drew) := hide (Below.refl _ wr).drew
        have HFA := hide (fun (w9 : World) (hSw : Below wr.heap.size wr w9) => And.intro (cell_later hSw u0) (And.intro (cell_later hSw u1) (And.intro (cell_later hSw u2) (And.intro (cell_later hSw u3) (And.intro (cell_later hSw u4) (And.intro ((HP5.out.later hSw).c1) (And.intro ((HP5.out.later hSw).c2) (And.intro ((HP5.out.later hSw).c3) (And.intro ((HP5.out.later hSw).c4) ((HP5.out.later hSw).c5))))))))))
        refine wp_region_held_drew (S := fun w9 => Below wr.heap.size wr w9) (by kernel_rfl) HX0.out (fun hHeld => ?_)
        refine tk 0 33 ?_ rfl rfl (by kernel_rfl) (fun _ _ _ h => h) (by assumption) ?_ ?_; rotate_left
        ·intro w hSw; go_simp; all_goals with_reducible rfl
        simp only [Act.put]
        refine tk 1 34 ?_ rfl rfl (by kernel_rfl) (fun _ _ _ h => h) (by assumption) ?_ ?_; rotate_left
        ·intro w hSw; go_simp; all_goals with_reducible rfl
        simp only [Act.put]
        refine tk 2 35 ?_ rfl rfl (by kernel_rfl) (fun _ _ _ h => h) (by assumption) ?_ ?_; rotate_left
        ·intro w hSw; obtain ⟨l0, l1, l2, l3, l4, m1, m2, m3, m4, m5⟩ := HFA.out w hSw; go_simp; all_goals with_reducible rfl
        simp only [Act.put]
        refine tk 3 36 ?_ rfl rfl (by kernel_rfl) (fun _ _ _ h => h) (by assumption) ?_ ?_; rotate_left
        ·intro w hSw; go_simp; all_goals with_reducible rfl
        simp only [Act.put]
        refine tk 4 37 ?_ rfl rfl (by kernel_rfl) (fun _ _ _ h => h) (by assumption) ?_ ?_; rotate_left
        ·intro w hSw; go_simp; all_goals with_reducible rfl
        simp only [Act.put]
        refine tk 5 38 ?_ rfl rfl (by kernel_rfl) (fun _ _ _ h => h) (by assumption) ?_ ?_; rotate_left
        ·intro w hSw; go_simp; all_goals with_reducible rfl
        simp only [Act.put]
        refine sk 6 39 rfl rfl (by kernel_rfl) (fun _ _ _ h => h) (by assumption) ?_
        simp only [Act.put]
        refine sk 7 40 rfl rfl (by kernel_rfl) (fun _ _ _ h => h) (by assumption) ?_
        simp only [Act.put]
        refine sk 8 41 rfl rfl (by kernel_rfl) (fun _ _ _ h => h) (by assumption) ?_
        simp only [Act.put]
        refine sk 9 42 rfl rfl (by kernel_rfl) (fun _ _ _ h => h) (by assumption) ?_
        simp only [Act.put]
        refine sk 10 43 rfl rfl (by kernel_rfl) (fun _ _ _ h => h) (by assumption) ?_
        simp only [Act.put]
        refine sk 11 44 rfl rfl (by kernel_rfl) (fun _ _ _ h => h) (by assumption) ?_
        simp only [Act.put]
        refine sk 12 45 rfl rfl (by kernel_rfl) (fun _ _ _ h => h) (by assumption) ?_
        simp only [Act.put]
        refine rk (i := 13) (o := _) rfl (by kernel_rfl) (by kernel_rfl) (fun K hK => ?_)
        go_simp
        refine hK.out _ _ HX0.out (fun hHeld => ?_)
        clear hK
        refine wpAnyH_done (by kernel_rfl) ?_ _
        obtain ⟨X7, hXE⟩ : ∃ X7, X7 = wr.drew := ⟨_, rfl⟩
        rw [← hXE]
        have hX7 : Below wr.heap.size wr X7 := by rw [hXE]; exact HX0.out
        clear hXE; clear HFA
        have HB7 : Hid (Below V.heap.size V X7) := hide (HB.out.trans (hX7.mono HB.out.size))
        clear hX7
        try clear u0 u1 u2 u3 u4
        have HP7 := hide (HPV.out.later HB7.out); have HV7 := hide (below_box HB7.out HV.out); have u0 := cellB HV7.out (i := 0) rfl; have u1 := cellB HV7.out (i := 1) rfl; have u2 := cellB HV7.out (i := 2) rfl; have u3 := cellB HV7.out (i := 3) rfl; have u4 := cellB HV7.out (i := 4) rfl; go_wp2; go_ret
        exact ⟨by rw [HF.out]; rfl, HBW.out.trans (HB7.out.mono HBW.out.size)⟩
theorem rsuits_any {b n : Nat} {W : World} {q : QK} {x : TP} (h : RS W b n q) (ho4 : q.out.length ≤ 4096) (hx : x.ok W) (hm : mayC q.vec.length x.t) {r : Int} (hq : suitC q.sk x.t = r) :
  Calls Try.prog 69 #[.pointer (some ⟨b, 0, none⟩), .agg x.row] W fun e w' => e = .returned (.int .i64 r) ∧ Below W.heap.size W w' := by
 obtain ⟨⟨ep, id, bg, rs, vs⟩, rp, rc, vp, vc⟩ := x
 obtain ⟨_, _, h0, h1, h2, _⟩ := hm
 obtain ⟨j, rfl⟩ : ∃ j : Nat, bg = (j : Int) := ⟨bg.toNat, by have h0' : 0 ≤ bg := h0; omega⟩
 have h1' : (j : Int) ≤ 4096 := h1
 exact rsuits_nat h ho4 hx.r hx.v rfl rfl (by omega) h2 hq
end Go.Proofs.Ytboofnkajjnmeaa
