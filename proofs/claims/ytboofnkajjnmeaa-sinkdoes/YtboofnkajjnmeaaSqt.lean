/-
  Read of the reference's sink, in both answers; Read's ErrArg of the program's; Open of the reference's. The conditions: that they lie there.
-/
import Derived.Test.YtboofnkajjnmeaaSqm
import Derived.Test.YtboofnkajjnmeaaSqi
import Derived.Test.YtboofnkajjnmeaaSks
import Derived.Test.YtboofnkajjnmeaaTk0
namespace Go.Proofs.Ytboofnkajjnmeaa
open Go.RowKit Go.Maps Go.Shelf

set_option maxRecDepth 100000 in
set_option maxHeartbeats 4000000 in
theorem rread_ok {W : World} {b n j m L : Nat} {q : QK} (h : RS W b n q) (hj : j ≤ q.out.length) (hL : ((q.out.drop j).take m).length = L) :
    Calls Try.prog 38 #[.pointer (some ⟨b, 0, none⟩), .int .i64 (j : Int), .int .i64 (m : Int)] W fun e w' => ∃ p c, e = .returned (.tuple #[.slice p L c, .int .i64 0]) ∧ RRow w' p c ((q.out.drop j).take m) ∧ w' = W := by
  have HP := hide h
  obtain ⟨N, hN⟩ : ∃ N, q.out.length = N := ⟨_, rfl⟩
  have HN := hide hN
  rw [hN] at hj
  have u2 := h.c2
  rw [hN] at u2
  have hoc : N ≤ q.oc := by have := h.vis.out.le; omega
  have htop := h.vis.out.top
  obtain ⟨d, hd⟩ : ∃ d, N - j = d := ⟨_, rfl⟩
  have HDD := hide hd
  have hLL : L = min m d := by rw [← hL, List.length_take, List.length_drop, hN, hd]
  have HLL := hide hLL
  have htl := h.vis.out.tail (j := j) (by omega)
  obtain ⟨A, hA⟩ : ∃ A, (if q.oc = j then q.op else Option.map (fun x => x.add (j * 2)) q.op) = A := ⟨_, rfl⟩
  rw [hA] at htl
  have HTL : Hid (RRow W A (q.oc - j) ((q.out.drop j).take m)) := hide (htl.takeG m)
  have e1 : decide ((j : Int) < 0) = false := decide_eq_false (by omega)
  have e2 : decide ((j : Int) > (N : Int)) = false := decide_eq_false (by omega)
  have n2 : decide (N < j) = false := decide_eq_false (by omega)
  have e3 : decide ((m : Int) < 0) = false := decide_eq_false (by omega)
  have qj : (j : Int) ≤ (N : Int) := by omega
  have hdc : d ≤ q.oc - j := by omega
  clear h hN hL hLL htl
  by_cases hmd : m ≤ d
  · have hmin : min (m : Int) (d : Int) = (m : Int) := by omega
    have hmin2 : min m d = m := by omega
    have hLm : Hid (L = m) := hide (by rw [HLL.out]; exact hmin2)
    go_enter Try.func38, Try.ntmps38
    go_wp2_with fail
    refine (rLen_any HP.out).mono ?_
    rintro _ _ ⟨rfl, rfl⟩
    rw [HN.out]
    go_wp2
    go_ret2
    exact ⟨A, q.oc - j, by rw [hLm.out]; rfl, HTL.out, rfl⟩
  · have hmin : min (m : Int) (d : Int) = (d : Int) := by omega
    have hmin2 : min m d = d := by omega
    have hLm : Hid (L = d) := hide (by rw [HLL.out]; exact hmin2)
    go_enter Try.func38, Try.ntmps38
    go_wp2_with fail
    refine (rLen_any HP.out).mono ?_
    rintro _ _ ⟨rfl, rfl⟩
    rw [HN.out]
    go_wp2
    go_ret2
    exact ⟨A, q.oc - j, by rw [hLm.out]; rfl, HTL.out, rfl⟩
set_option maxRecDepth 100000 in
set_option maxHeartbeats 4000000 in
theorem rread_arg {W : World} {b n : Nat} {q : QK} {j m : Int} (h : RS W b n q) (hb : ¬ (0 ≤ j ∧ j ≤ q.out.length ∧ 0 ≤ m)) :
    Calls Try.prog 38 #[.pointer (some ⟨b, 0, none⟩), .int .i64 j, .int .i64 m] W fun e w' => e = .returned (.tuple #[.slice none 0 0, .int .i64 1]) ∧ w' = W := by
  have HP := hide h
  obtain ⟨N, hN⟩ : ∃ N, q.out.length = N := ⟨_, rfl⟩
  have HN := hide hN
  rw [hN] at hb
  clear h hN
  by_cases h1 : j < 0
  · have e1 : decide (j < 0) = true := decide_eq_true h1
    clear hb
    go_enter Try.func38, Try.ntmps38
    go_wp2
    go_ret2
    exact ⟨rfl, rfl⟩
  · have e1 : decide (j < 0) = false := decide_eq_false h1
    by_cases h2 : j > (N : Int)
    · have e2 : decide (j > (N : Int)) = true := decide_eq_true h2
      clear hb
      go_enter Try.func38, Try.ntmps38
      go_wp2_with fail
      refine (rLen_any HP.out).mono ?_
      rintro _ _ ⟨rfl, rfl⟩
      rw [HN.out]
      go_wp2
      go_ret2
      exact ⟨rfl, rfl⟩
    · have e2 : decide (j > (N : Int)) = false := decide_eq_false h2
      have e3 : decide (m < 0) = true := decide_eq_true (by omega)
      clear hb
      go_enter Try.func38, Try.ntmps38
      go_wp2_with fail
      refine (rLen_any HP.out).mono ?_
      rintro _ _ ⟨rfl, rfl⟩
      rw [HN.out]
      go_wp2
      go_ret2
      exact ⟨rfl, rfl⟩
set_option maxRecDepth 100000 in
set_option maxHeartbeats 4000000 in
theorem read_arg {W : World} {B : Nat} {k : PK} {j m : Int} (h : PS B W k) (hb : ¬ (0 ≤ j ∧ j ≤ k.out.length ∧ 0 ≤ m)) :
    Calls Try.prog 28 #[.pointer (some ⟨k.b, 0, none⟩), .int .i64 j, .int .i64 m] W fun e w' => e = .returned (.tuple #[.slice none 0 0, .int .i64 1]) ∧ Below W.heap.size W w' := by
  obtain ⟨X, hX⟩ : ∃ X, X = W.alloc (.cells #[.int .i64 m] 3 (0, 0)) := ⟨_, rfl⟩
  have HB : Hid (Below W.heap.size W X) := hide (by rw [hX]; exact alloc_below _ _)
  obtain ⟨bB, hbB⟩ : ∃ bB, W.heap.size = bB := ⟨_, rfl⟩
  have u0 : X.cell? ⟨bB, 0, none⟩ = some (.int .i64 m) := cellB (by rw [hX, ← hbB]; exact heap_alloc_new W _) rfl
  have HP := hide (h.later HB.out)
  obtain ⟨N, hN⟩ : ∃ N, k.out.length = N := ⟨_, rfl⟩
  have HN := hide hN
  rw [hN] at hb
  clear h hN
  by_cases h1 : j < 0
  · have e1 : decide (j < 0) = true := decide_eq_true h1
    clear hb
    go_enter Try.func28, Try.ntmps28
    go_upto_region 1 with fail
    rw [← hX]
    try rw [hbB]
    clear hX hbB
    go_wp2_with fail
    refine (made_yes HP.out).mono ?_
    rintro _ _ ⟨rfl, rfl⟩
    rename World => X
    go_wp2
    go_ret2
    exact ⟨rfl, HB.out⟩
  · have e1 : decide (j < 0) = false := decide_eq_false h1
    by_cases h2 : j > (N : Int)
    · have e2 : decide (j > (N : Int)) = true := decide_eq_true h2
      clear hb
      go_enter Try.func28, Try.ntmps28
      go_upto_region 1 with fail
      rw [← hX]
      try rw [hbB]
      clear hX hbB
      go_wp2_with fail
      refine (made_yes HP.out).mono ?_
      rintro _ _ ⟨rfl, rfl⟩
      rename World => X
      go_wp2_with fail
      refine (len_any HP.out).mono ?_
      rintro _ _ ⟨rfl, rfl⟩
      rename World => X
      rw [HN.out]
      go_wp2
      go_ret2
      exact ⟨rfl, HB.out⟩
    · have e2 : decide (j > (N : Int)) = false := decide_eq_false h2
      have e3 : decide (m < 0) = true := decide_eq_true (by omega)
      clear hb
      go_enter Try.func28, Try.ntmps28
      go_upto_region 1 with fail
      rw [← hX]
      try rw [hbB]
      clear hX hbB
      go_wp2_with fail
      refine (made_yes HP.out).mono ?_
      rintro _ _ ⟨rfl, rfl⟩
      rename World => X
      go_wp2_with fail
      refine (len_any HP.out).mono ?_
      rintro _ _ ⟨rfl, rfl⟩
      rename World => X
      rw [HN.out]
      go_wp2
      go_ret2
      exact ⟨rfl, HB.out⟩
end Go.Proofs.Ytboofnkajjnmeaa

/-
  Open of the reference's sink. The conditions: that it lies there; lengths.
-/
namespace Go.Proofs.Ytboofnkajjnmeaa
open Go.RowKit Go.Maps Go.Shelf

theorem nms_snoc {xs : List TP} {k : Nat} (hk : k < xs.length) {x : TP} (hx : xs[k]! = x) : (xs.take (k + 1)).map TP.nm = (xs.take k).map TP.nm ++ [x.nm] := by
  rw [List.take_succ_eq_append_getElem hk, List.map_append, ← hx, getElem!_pos xs k hk]
  rfl
set_option maxRecDepth 100000 in
set_option maxHeartbeats 4000000 in
theorem ropen_any {W : World} {b n : Nat} {q : QK} {L : Nat} (h : RS W b n q) (hl : q.ts.length ≤ 8) (hL : q.ts.length = L) :
    Calls Try.prog 41 #[.pointer (some ⟨b, 0, none⟩)] W fun e w' => ∃ p c, e = .returned (.slice p L c) ∧ w'.ownsRow W.heap.size 55 2 (.slice p L c) L ((q.ts.map TP.nm).flatMap nmC) ∧ Below W.heap.size W w' := by
  obtain ⟨i0, hI0, hz0, hz1, hz2⟩ := info_parts Try.infoNm
  have HP := hide h
  have HL := hide hL
  have i1 : q.ts.length ≤ q.pc := h.vis.pre.le
  have i2 := h.vis.pre.top
  have hl8 : L ≤ 8 := by omega
  rw [hL] at i1
  clear h hL hl
  go_enter Try.func41, Try.ntmps41
  go_wp2_with fail
  go_loopw [4, 3] (fun i s wq => ∃ (k : Nat) (p1 : Option Addr) (c1 : Nat), k ≤ L ∧ i = .int .i64 (k : Int) ∧ s = .slice p1 k c1 ∧ Hid (wq.ownsRow W.heap.size 55 2 (.slice p1 k c1) k (((q.ts.take k).map TP.nm).flatMap nmC)) ∧ Hid (Below W.heap.size W wq)) (fun i _ _ => L - (intOf i).toNat)
  case atStart => exact ⟨0, none, 0, Nat.zero_le _, rfl, rfl, hide (World.ownsRow_nil _ _ _ _), hide (Below.refl _ _)⟩
  case round =>
    obtain ⟨k, p1, c1, hk, rfl, rfl, HOW, HB⟩ := hrel
    rename World => wq
    have HPq := hide (HP.out.later HB.out)
    have u5 := HPq.out.c5
    rw [HL.out] at u5
    by_cases hlt : k < L
    · have hlt2 : k < q.ts.length := by rw [HL.out]; exact hlt
      obtain ⟨x, hx⟩ : ∃ x, q.ts[k]! = x := ⟨_, rfl⟩
      obtain ⟨g, o, hpp, a0, a1, a2, a3, a4, _⟩ := TL.at HPq.out.tl hlt2 hx
      rw [hpp] at u5
      have HS := hide (nms_snoc hlt2 hx)
      have hlt9 := hlt
      obtain ⟨⟨ep, i9, bg, rs, vs⟩, rp, rc, vp, vc⟩ := x
      simp only at a0 a1
      have HPP := hide hpp
      clear hx hlt2 hpp a2 a3 a4
      go_upto_region 5 with fail
      have HX0 : Hid (Only (fun i => (Value.slice p1 k c1).ownBlock = some i) wq wq.drew) := hide ((Only.refl _ wq).drew)
      have hnb : ∀ i, (Value.slice p1 k c1).ownBlock = some i → W.heap.size ≤ i := fun i hi => own_block_base HOW.out hi
      have hg9 : ¬ (Value.slice p1 k c1).ownBlock = some g := fun e9 => by
        have h9 := hnb g e9
        have h8 := HP.out.lt g (.inr (.inr (.inr (.inl ⟨⟨g, o, none⟩, HPP.out, by omega, rfl⟩))))
        omega
      have hb9 : ¬ (Value.slice p1 k c1).ownBlock = some b := fun e9 => by
        have h9 := hnb b e9
        have h8 := HP.out.bl
        omega
      refine wp_region_held_drew (S := fun w9 => Only (fun i => (Value.slice p1 k c1).ownBlock = some i) wq w9) (by kernel_rfl) HX0.out (fun hHeld => ?_)
      refine tb 0 ?_ rfl (by kernel_rfl) (fun _ _ _ h => h) (by assumption) ?_ ?_
      rotate_left
      · intro w hSw; have l5 := hSw.cell u5 hb9; have n0 := hSw.cell a0 hg9; have n1 := hSw.cell a1 hg9; go_simp; all_goals with_reducible rfl
      simp only [Act.put]
      refine tb 1 ?_ rfl (by kernel_rfl) (fun _ _ _ h => h) (by assumption) ?_ ?_
      rotate_left
      · intro w hSw; have l5 := hSw.cell u5 hb9; have n0 := hSw.cell a0 hg9; have n1 := hSw.cell a1 hg9; go_simp; all_goals with_reducible rfl
      simp only [Act.put]
      refine tb 2 ?_ rfl (by kernel_rfl) (fun _ _ _ h => h) (by assumption) ?_ ?_
      rotate_left
      · intro w hSw; have l5 := hSw.cell u5 hb9; have n0 := hSw.cell a0 hg9; have n1 := hSw.cell a1 hg9; go_simp; all_goals with_reducible rfl
      simp only [Act.put]
      refine tb 3 ?_ rfl (by kernel_rfl) (fun _ _ _ h => h) (by assumption) ?_ ?_
      rotate_left
      · intro w hSw; have l5 := hSw.cell u5 hb9; have n0 := hSw.cell a0 hg9; have n1 := hSw.cell a1 hg9; go_simp; all_goals with_reducible rfl
      simp only [Act.put]
      refine tb 4 ?_ rfl (by kernel_rfl) (fun _ _ _ h => h) (by assumption) ?_ ?_
      rotate_left
      · intro w hSw; have l5 := hSw.cell u5 hb9; have n0 := hSw.cell a0 hg9; have n1 := hSw.cell a1 hg9; go_simp; all_goals with_reducible rfl
      simp only [Act.put]
      refine tb 5 ?_ rfl (by kernel_rfl) (fun _ _ _ h => h) (by assumption) ?_ ?_
      rotate_left
      · intro w hSw; have l5 := hSw.cell u5 hb9; have n0 := hSw.cell a0 hg9; have n1 := hSw.cell a1 hg9; go_simp; all_goals with_reducible rfl
      simp only [Act.put]
      refine tb 6 ?_ rfl (by kernel_rfl) (fun _ _ _ h => h) (by assumption) ?_ ?_
      rotate_left
      · intro w hSw; have l5 := hSw.cell u5 hb9; have n0 := hSw.cell a0 hg9; have n1 := hSw.cell a1 hg9; go_simp; all_goals with_reducible rfl
      simp only [Act.put]
      refine tb 7 ?_ rfl (by kernel_rfl) (fun _ _ _ h => h) (by assumption) ?_ ?_
      rotate_left
      · intro w hSw; have l5 := hSw.cell u5 hb9; have n0 := hSw.cell a0 hg9; have n1 := hSw.cell a1 hg9; go_simp; all_goals with_reducible rfl
      simp only [Act.put]
      refine tb 8 ?_ rfl (by kernel_rfl) (fun _ _ _ h => h) (by assumption) ?_ ?_
      rotate_left
      · intro w hSw; have l5 := hSw.cell u5 hb9; have n0 := hSw.cell a0 hg9; have n1 := hSw.cell a1 hg9; go_simp; all_goals with_reducible rfl
      simp only [Act.put]
      refine tb 9 ?_ rfl (by kernel_rfl) (fun _ _ _ h => h) (by assumption) ?_ ?_
      rotate_left
      · intro w hSw; have l5 := hSw.cell u5 hb9; have n0 := hSw.cell a0 hg9; have n1 := hSw.cell a1 hg9; go_simp; all_goals with_reducible rfl
      simp only [Act.put]
      refine tb 10 ?_ rfl (by kernel_rfl) (fun _ _ _ h => h) (by assumption) ?_ ?_
      rotate_left
      · intro w hSw; have l5 := hSw.cell u5 hb9; have n0 := hSw.cell a0 hg9; have n1 := hSw.cell a1 hg9; go_simp; all_goals with_reducible rfl
      simp only [Act.put]
      refine tb 11 ?_ rfl (by kernel_rfl) (fun _ _ _ h => h) (by assumption) ?_ ?_
      rotate_left
      · intro w hSw; have l5 := hSw.cell u5 hb9; have n0 := hSw.cell a0 hg9; have n1 := hSw.cell a1 hg9; go_simp; all_goals with_reducible rfl
      simp only [Act.put]
      refine tb 12 ?_ rfl (by kernel_rfl) (fun _ _ _ h => h) (by assumption) ?_ ?_
      rotate_left
      · intro w hSw; have l5 := hSw.cell u5 hb9; have n0 := hSw.cell a0 hg9; have n1 := hSw.cell a1 hg9; go_simp; all_goals with_reducible rfl
      simp only [Act.put]
      refine tb 13 ?_ rfl (by kernel_rfl) (fun _ _ _ h => h) (by assumption) ?_ ?_
      rotate_left
      · intro w hSw; have l5 := hSw.cell u5 hb9; have n0 := hSw.cell a0 hg9; have n1 := hSw.cell a1 hg9; go_simp; all_goals with_reducible rfl
      simp only [Act.put]
      refine tb 14 ?_ rfl (by kernel_rfl) (fun _ _ _ h => h) (by assumption) ?_ ?_
      rotate_left
      · intro w hSw; have l5 := hSw.cell u5 hb9; have n0 := hSw.cell a0 hg9; have n1 := hSw.cell a1 hg9; go_simp; all_goals with_reducible rfl
      simp only [Act.put]
      refine tb 15 ?_ rfl (by kernel_rfl) (fun _ _ _ h => h) (by assumption) ?_ ?_
      rotate_left
      · intro w hSw; have l5 := hSw.cell u5 hb9; have n0 := hSw.cell a0 hg9; have n1 := hSw.cell a1 hg9; go_simp; all_goals with_reducible rfl
      simp only [Act.put]
      refine tb 16 ?_ rfl (by kernel_rfl) (fun _ _ _ h => h) (by assumption) ?_ ?_
      rotate_left
      · intro w hSw; have l5 := hSw.cell u5 hb9; have n0 := hSw.cell a0 hg9; have n1 := hSw.cell a1 hg9; go_simp; all_goals with_reducible rfl
      simp only [Act.put]
      refine tb 17 ?_ rfl (by kernel_rfl) (fun _ _ _ h => h) (by assumption) ?_ ?_
      rotate_left
      · intro w hSw; have l5 := hSw.cell u5 hb9; have n0 := hSw.cell a0 hg9; have n1 := hSw.cell a1 hg9; go_simp; all_goals with_reducible rfl
      simp only [Act.put]
      refine tb 18 ?_ rfl (by kernel_rfl) (fun _ _ _ h => h) (by assumption) ?_ ?_
      rotate_left
      · intro w hSw; have l5 := hSw.cell u5 hb9; have n0 := hSw.cell a0 hg9; have n1 := hSw.cell a1 hg9; go_simp; all_goals with_reducible rfl
      simp only [Act.put]
      refine tb 19 ?_ rfl (by kernel_rfl) (fun _ _ _ h => h) (by assumption) ?_ ?_
      rotate_left
      · intro w hSw; have l5 := hSw.cell u5 hb9; have n0 := hSw.cell a0 hg9; have n1 := hSw.cell a1 hg9; go_simp; all_goals with_reducible rfl
      simp only [Act.put]
      refine rr 20 (o := _) rfl (by kernel_rfl) (fun K hK => ?_)
      go_simp
      obtain ⟨x1, hx1⟩ : ∃ x1, x1 = (wq.alloc (.cells #[.int .i64 ep, .int .i64 i9] 55 (0, 0))).drew := ⟨_, rfl⟩
      rw [← hx1]
      have b1 : Below wq.heap.size wq x1 := by rw [hx1]; exact (alloc_below _ _).drew
      have HX1 := hide b1
      obtain ⟨nB, hnB⟩ : ∃ nB, wq.heap.size = nB := ⟨_, rfl⟩
      have HSG : Hid (Seg x1 2 (.slice (some ⟨nB, 0, none⟩) 1 1) 1 [.int .i64 ep, .int .i64 i9]) := hide (by rw [hx1, ← hnB]; exact Seg.news (show (wq.alloc (.cells #[.int .i64 ep, .int .i64 i9] 55 (0, 0))).drew.heap[wq.heap.size]? = _ from heap_alloc_new wq _) (by simp [Value.oneCell']) rfl (Nat.le_refl _) (by decide))
      have HRW := hide (ownsRow_later HOW.out b1)
      have HBS : Hid (W.heap.size ≤ x1.heap.size) := hide (Nat.le_trans HB.out.size b1.size)
      try rw [hnB]
      clear hx1 b1 hnB
      refine hK.out _ _ (Only.fresh HX1.out _) (fun hHeld => ?_)
      clear hK
      refine rr 21 (o := _) rfl (by kernel_rfl) (fun K hK => ?_)
      refine step_append_cells rfl (.tmp 15) (.tmp 35) 69 rfl W.heap.size 55 i0 (.agg #[.int .i64 0, .int .i64 0]) 2 16 Try.underlying69 hI0 hz0 hz1 hz2 rfl (by decide) (.slice p1 k c1) k _ rfl HRW.out (.slice (some ⟨nB, 0, none⟩) 1 1) 1 _ rfl HSG.out (by unfold maxLen; omega) (by omega) HBS.out ?_
      intro p2 c2 x2 hown hgrow
      have HB2 : Hid (Below W.heap.size W x2) := hide ((HB.out.trans (HX1.out.mono HB.out.size)).grown hgrow HBS.out (fun i hi => own_block_base HRW.out hi))
      have HO2 : Hid (x2.ownsRow W.heap.size 55 2 (.slice p2 (k + 1) c2) (k + 1) (((q.ts.take (k + 1)).map TP.nm).flatMap nmC)) := hide (by
        rw [HS.out, List.flatMap_append]
        exact hown)
      have HX2 : Hid (x1.grownBy x2 (Value.slice p1 k c1).ownBlock) := hide hgrow
      clear hown hgrow
      refine hK.out _ _ ((Only.fresh HX1.out _).trans (Only.of_grown HX2.out (fun _ e9 => e9))) (fun hHeld => ?_)
      clear hK
      simp only [Act.put, List.setIfInBounds_toArray]
      refine rr 22 (o := _) rfl (by kernel_rfl) (fun K hK => ?_)
      go_simp
      refine hK.out _ _ ((Only.fresh HX1.out _).trans (Only.of_grown HX2.out (fun _ e9 => e9))) (fun hHeld => ?_)
      clear hK
      refine wpAnyH_done (by kernel_rfl) ?_ _
      clear u5 a0 a1
      go_wp2
      exact ⟨⟨k + 1, p2, c2, hlt9, by first | rfl | go_num, rfl, HO2, HB2⟩, by simp [intOf]; omega⟩
    · obtain rfl : k = L := by omega
      have hall : q.ts.take k = q.ts := List.take_of_length_le (by rw [HL.out]; exact Nat.le_refl _)
      have hO := HOW.out
      rw [hall] at hO
      have HO := hide hO
      clear hall hO
      go_wp2
      go_ret
      exact ⟨p1, c1, rfl, HO.out, HB.out⟩
end Go.Proofs.Ytboofnkajjnmeaa
