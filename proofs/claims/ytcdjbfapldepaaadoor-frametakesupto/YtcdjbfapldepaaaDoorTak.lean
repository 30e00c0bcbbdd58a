/-
  What frame.Take and the reference's return: the frame with which bytes begin, over any world that holds the tables, in which nothing that was there turns. The conditions: the slice reads as bytes, at most 2^47 of them.
-/
import Derived.Test.YtcdjbfapldepaaaDoorNbr
import Derived.Test.YtcdjbfapldepaaaDoorFrm
import Derived.Test.YtcdjbfapldepaaaDoorQui
import Derived.Deep.RegionHeld3
import Derived.Laws.Cover3
import Derived.Laws.StructEq
import Derived.Laws.Tables
import Derived.Laws.Cover2
namespace Go.Proofs.YtcdjbfapldepaaaDoor
open Go.RowKit

theorem alloc_below (w : World) (o : Obj) : Below w.heap.size w (w.alloc o) := (Below.refl _ w).alloc (Nat.le_refl _) _

/-- What '==' says of two numbers of four bytes. -/
theorem eq4 (a b c d a' b' c' d' : Int) (w : World) : (Op.equalIn 10000 52 (.agg #[.int .u8 a, .int .u8 b, .int .u8 c, .int .u8 d]) (.agg #[.int .u8 a', .int .u8 b', .int .u8 c', .int .u8 d'])).run Tryd.prog w = .ok (decide ([a, b, c, d] = [a', b', c', d'])) w := by
  have u3 := Tryd.underlying5
  have a3 := Tryd.isAgg5
  have z3 := Tryd.sizeOf5
  rw [show (10000 : Nat) = 9999 + 1 from rfl, Op.equalIn]
  simp only [Sem.run_bind, run_underlying Tryd.underlying52, Result.andThen_ok]
  simp only [Std.Legacy.Range.forIn_eq_forIn_range', Std.Legacy.Range.size, Nat.sub_zero, Nat.add_sub_cancel, Nat.div_one, List.range'_succ, List.range'_zero, List.forIn_cons, List.forIn_nil]
  go_simp
  by_cases h1 : a = a' <;> by_cases h2 : b = b' <;> by_cases h3 : c = c' <;> by_cases h4 : d = d' <;> simp [h1, h2, h3, h4]

theorem is3 {b x : List Int} {n : Nat} {er : Int} {x' : List Int} {n' : Nat} {er' : Int} (h : takeL b = (x, n, er)) (e : takeL b = (x', n', er')) : x = x' ∧ n = n' ∧ er = er' := by
  rw [h] at e
  simpa using e

set_option maxHeartbeats 4000000 in
theorem take_at {v : Value} {b x : List Int} {n : Nat} {er : Int} {w : World} (h : Row .u8 w v b) (hu : U8 b) (ht : Tabs w) (hbig : b.length ≤ 140737488355328) (hf : takeL b = (x, n, er)) :
    Calls Tryd.prog 17 #[v] w fun e w' => ∃ v', e = .returned (.tuple #[v', .int .i64 (n : Int), .int .i64 er]) ∧
      w'.ownsRow w.heap.size 5 1 v' x.length (x.map (Value.int .u8)) ∧ Below w.heap.size w w' := by
  have HV : Hid (Row .u8 w v b) := h
  have HU : Hid (U8 b) := hu
  have HT : Hid (Tabs w) := ht
  have HF : Hid (takeL b = (x, n, er)) := hf
  clear hf
  obtain ⟨p, cap, rfl, g1, g2, g3, g4⟩ := h
  by_cases h8 : b.length < 8
  · obtain ⟨rfl, rfl, rfl⟩ := is3 HF.out (show takeL b = ([], 0, 20) by unfold takeL; rw [if_pos h8])
    clear g3 g4 hu ht HV HU HT HF
    go_enter Tryd.func17, Tryd.ntmps17
    go_wp2
    go_ret3
    exact ⟨_, rfl, World.ownsRow_nil _ _ _ _, Below.refl _ _⟩
  obtain ⟨bb, o, rfl, hc⟩ := g4 (by omega)
  obtain ⟨x0, x1, x2, x3, y0, y1, y2, y3, r, rfl⟩ : ∃ x0 x1 x2 x3 y0 y1 y2 y3 r, b = x0 :: x1 :: x2 :: x3 :: y0 :: y1 :: y2 :: y3 :: r := by
    match b, h8 with
    | x0 :: x1 :: x2 :: x3 :: y0 :: y1 :: y2 :: y3 :: r, _ => exact ⟨_, _, _, _, _, _, _, _, _, rfl⟩
    | [], h8 => simp at h8
    | [_], h8 => simp at h8
    | [_, _], h8 => simp at h8
    | [_, _, _], h8 => simp at h8
    | [_, _, _, _], h8 => simp at h8
    | [_, _, _, _, _], h8 => simp at h8
    | [_, _, _, _, _, _], h8 => simp at h8
    | [_, _, _, _, _, _, _], h8 => simp at h8
  have c0 : w.cell? ⟨bb, o, none⟩ = some (.int .u8 x0) := by simpa using hc 0 (by omega)
  have c1 : w.cell? ⟨bb, o + 1, none⟩ = some (.int .u8 x1) := by simpa using hc 1 (by omega)
  have c2 : w.cell? ⟨bb, o + 2, none⟩ = some (.int .u8 x2) := by simpa using hc 2 (by omega)
  have c3 : w.cell? ⟨bb, o + 3, none⟩ = some (.int .u8 x3) := by simpa using hc 3 (by omega)
  have c4 : w.cell? ⟨bb, o + 4, none⟩ = some (.int .u8 y0) := by simpa using hc 4 (by omega)
  have c5 : w.cell? ⟨bb, o + 5, none⟩ = some (.int .u8 y1) := by simpa using hc 5 (by omega)
  have c6 : w.cell? ⟨bb, o + 6, none⟩ = some (.int .u8 y2) := by simpa using hc 6 (by omega)
  have c7 : w.cell? ⟨bb, o + 7, none⟩ = some (.int .u8 y3) := by simpa using hc 7 (by omega)
  have ux : U8 [x0, x1, x2, x3] := fun z hz => hu z (by simp at hz ⊢; omega)
  have uy : U8 [y0, y1, y2, y3] := fun z hz => hu z (by simp at hz ⊢; omega)
  have HX : Hid (U8 [x0, x1, x2, x3]) := ux
  have HY : Hid (U8 [y0, y1, y2, y3]) := uy
  generalize hB : x0 :: x1 :: x2 :: x3 :: y0 :: y1 :: y2 :: y3 :: r = b at *
  have HB : Hid (b = x0 :: x1 :: x2 :: x3 :: y0 :: y1 :: y2 :: y3 :: r) := hB.symm
  clear hB hc g3 g4 hu ht ux uy
  have n8 : 8 ≤ b.length := by omega
  clear h8
  have ra : ∀ (w : World) (a : Option Addr) (cap : Nat), (Instr.arrayAt 52 (.slice a 4 cap)).run Tryd.prog w = .ok (.pointer a) w := fun w a cap => run_arrayAt (P := Tryd.prog) (w := w) 52 5 4 a 4 cap Tryd.underlying52 (Nat.le_refl _)
  go_enter Tryd.func17, Tryd.ntmps17
  go_wp2_with fail
  clear c0 c1 c2 c3
  generalize hW0 : w.alloc (Obj.cells #[Value.int IntKind.u8 x0, Value.int IntKind.u8 x1, Value.int IntKind.u8 x2, Value.int IntKind.u8 x3] 52) = W0
  have B0 : Hid (Below w.heap.size w W0) := by rw [← hW0]; exact alloc_below _ _
  have R0 : Hid (Row .u8 W0 (.slice (some ⟨w.heap.size, 0, none⟩) 4 4) [x0, x1, x2, x3]) := by rw [← hW0]; exact new_row .u8 w [x0, x1, x2, x3] 52 (by simp)
  have T0 : Hid (Tabs W0) := by rw [← hW0]; exact HT.out.below (alloc_below _ _)
  have s0 : W0.cell? ⟨w.heap.size, 0, none⟩ = some (.int .u8 x0) := by rw [← hW0]; simp
  have s1 : W0.cell? ⟨w.heap.size, 1, none⟩ = some (.int .u8 x1) := by rw [← hW0]; simp
  have s2 : W0.cell? ⟨w.heap.size, 2, none⟩ = some (.int .u8 x2) := by rw [← hW0]; simp
  have s3 : W0.cell? ⟨w.heap.size, 3, none⟩ = some (.int .u8 x3) := by rw [← hW0]; simp
  have d0 : W0.cell? ⟨bb, o + 4, none⟩ = some (.int .u8 y0) := by rw [← hW0]; exact cell_later (alloc_below _ _) c4
  have d1 : W0.cell? ⟨bb, o + 5, none⟩ = some (.int .u8 y1) := by rw [← hW0]; exact cell_later (alloc_below _ _) c5
  have d2 : W0.cell? ⟨bb, o + 6, none⟩ = some (.int .u8 y2) := by rw [← hW0]; exact cell_later (alloc_below _ _) c6
  have d3 : W0.cell? ⟨bb, o + 7, none⟩ = some (.int .u8 y3) := by rw [← hW0]; exact cell_later (alloc_below _ _) c7
  clear hW0 c4 c5 c6 c7
  have hS := crc_lt HX.out
  generalize hSd : crc [x0, x1, x2, x3] = S at hS
  have HS : Hid (crc [x0, x1, x2, x3] = S) := hSd
  obtain ⟨q0, q1, q2, q3, h4⟩ : ∃ q0 q1 q2 q3, four S = [q0, q1, q2, q3] := ⟨_, _, _, _, rfl⟩
  have H4 : Hid (four S = [q0, q1, q2, q3]) := h4
  clear h4 hSd
  have k1 : (4 : Int) ≤ (cap : Int) := by omega
  have k2 : (8 : Int) ≤ (cap : Int) := by omega
  have k3 : ¬ cap = 4 := by omega
  obtain ⟨N, hN⟩ : ∃ N, num [x0, x1, x2, x3] = N := ⟨_, rfl⟩
  have HN : Hid (num [x0, x1, x2, x3] = N) := hN
  have NB : Hid (num b = N) := by show _ = _; rw [← hN, HB.out]; rfl
  clear hN
  have HC : ∀ W, Below W0.heap.size W0 W → W.cell? ⟨bb, o + 4, none⟩ = some (.int .u8 y0) ∧ W.cell? ⟨bb, o + 5, none⟩ = some (.int .u8 y1) ∧ W.cell? ⟨bb, o + 6, none⟩ = some (.int .u8 y2) ∧ W.cell? ⟨bb, o + 7, none⟩ = some (.int .u8 y3) ∧
      W.cell? ⟨w.heap.size, 0, none⟩ = some (.int .u8 x0) ∧ W.cell? ⟨w.heap.size, 1, none⟩ = some (.int .u8 x1) ∧ W.cell? ⟨w.heap.size, 2, none⟩ = some (.int .u8 x2) ∧ W.cell? ⟨w.heap.size, 3, none⟩ = some (.int .u8 x3) := fun W hW =>
    ⟨cell_later hW d0, cell_later hW d1, cell_later hW d2, cell_later hW d3, cell_later hW s0, cell_later hW s1, cell_later hW s2, cell_later hW s3⟩
  clear d0 d1 d2 d3 s0 s1 s2 s3
  have he4 := eq4 y0 y1 y2 y3 q0 q1 q2 q3
  by_cases hq : [y0, y1, y2, y3] = [q0, q1, q2, q3]
  · have hq' : decide ([y0, y1, y2, y3] = [q0, q1, q2, q3]) = true := decide_eq_true hq
    have HQ : Hid (num (b.drop 4) = crc (b.take 4)) := by
      show _ = _
      rw [HB.out]
      show num [y0, y1, y2, y3] = crc [x0, x1, x2, x3]
      rw [HS.out, hq, ← H4.out, num_four hS]
    rw [hq'] at he4
    clear hq hq'
    by_cases hbN : 262144 < N
    · have hbN' : decide ((262144 : Int) < (N : Int)) = true := decide_eq_true (by omega)
      obtain ⟨rfl, rfl, rfl⟩ := is3 HF.out (show takeL b = ([], 0, 21) by unfold takeL; rw [if_neg (by omega), if_pos (.inr (by rw [NB.out]; exact hbN))])
      clear HF
      refine region_class (fun W => Below W0.heap.size W0 W) (by kernel_rfl) (by kernel_rfl) (Below.refl _ W0).drew ?_
      repeat
        first
          | (refine BigFrame.wpQuiet_skip (by rfl) ?_)
          | (refine BigFrame.wpQuiet_want (by rfl) (fun K hK => ?_)
             unfold Oper.quiet
             apply Exists.intro
             refine ⟨fun W hW => ?_, hK _ ?_⟩
             · first
                | (obtain ⟨r0, r1, r2, r3, r4, r5, r6, r7⟩ := HC W hW; go_simp; done)
                | (obtain ⟨r0, r1, r2, r3, r4, r5, r6, r7⟩ := HC W hW; go_simp; exact rfl)
                | (go_simp
                   first
                   | (go_at_call 14; refine (sum_any (R0.out.below hW) HX.out (T0.out.below hW)).mono ?_; rintro e w1 ⟨rfl, hb1⟩; rw [HS.out]; exact ⟨rfl, hW.trans (hb1.mono hW.size)⟩)
                   | (go_at_call 25; refine (numberOf_any _ hS H4.out).mono ?_; rintro e w2 ⟨rfl, hb2⟩; exact ⟨rfl, hW.trans (hb2.mono hW.size)⟩)
                   | (go_at_call 26; refine (value_any _ (HX.out x0 (by simp)) (HX.out x1 (by simp)) (HX.out x2 (by simp)) (HX.out x3 (by simp))).mono ?_; rintro e w3 ⟨rfl, hb3⟩; rw [HN.out]; exact ⟨rfl, hW.trans (hb3.mono hW.size)⟩))
             clear hK K
             simp only [Act.put, List.setIfInBounds_toArray, List.set_cons_zero, List.set_cons_succ])
      refine wpQuiet_nil (fun W hW => ?_)
      have B3 : Below w.heap.size w W := B0.out.trans (hW.mono B0.out.size)
      clear hW he4 HC
      go_wp2
      go_ret3
      exact ⟨_, rfl, World.ownsRow_nil _ _ _ _, B3⟩
    · have hbN' : decide ((262144 : Int) < (N : Int)) = false := decide_eq_false (by omega)
      refine region_class (fun W => Below W0.heap.size W0 W) (by kernel_rfl) (by kernel_rfl) (Below.refl _ W0).drew ?_
      repeat
        first
          | (refine BigFrame.wpQuiet_skip (by rfl) ?_)
          | (refine BigFrame.wpQuiet_want (by rfl) (fun K hK => ?_)
             unfold Oper.quiet
             apply Exists.intro
             refine ⟨fun W hW => ?_, hK _ ?_⟩
             · first
                | (obtain ⟨r0, r1, r2, r3, r4, r5, r6, r7⟩ := HC W hW; go_simp; done)
                | (obtain ⟨r0, r1, r2, r3, r4, r5, r6, r7⟩ := HC W hW; go_simp; exact rfl)
                | (go_simp
                   first
                   | (go_at_call 14; refine (sum_any (R0.out.below hW) HX.out (T0.out.below hW)).mono ?_; rintro e w1 ⟨rfl, hb1⟩; rw [HS.out]; exact ⟨rfl, hW.trans (hb1.mono hW.size)⟩)
                   | (go_at_call 25; refine (numberOf_any _ hS H4.out).mono ?_; rintro e w2 ⟨rfl, hb2⟩; exact ⟨rfl, hW.trans (hb2.mono hW.size)⟩)
                   | (go_at_call 26; refine (value_any _ (HX.out x0 (by simp)) (HX.out x1 (by simp)) (HX.out x2 (by simp)) (HX.out x3 (by simp))).mono ?_; rintro e w3 ⟨rfl, hb3⟩; rw [HN.out]; exact ⟨rfl, hW.trans (hb3.mono hW.size)⟩))
             clear hK K
             simp only [Act.put, List.setIfInBounds_toArray, List.set_cons_zero, List.set_cons_succ])
      refine wpQuiet_nil (fun W hW => ?_)
      have B3 : Below w.heap.size w W := B0.out.trans (hW.mono B0.out.size)
      obtain ⟨_, _, _, _, t4, t5, t6, t7⟩ := HC W hW
      clear hW he4 HC R0 T0 B0
      go_wp2_with fail
      refine (value_any _ (HX.out x0 (by simp)) (HX.out x1 (by simp)) (HX.out x2 (by simp)) (HX.out x3 (by simp))).mono ?_
      rintro e W4 ⟨rfl, hb4⟩
      rw [HN.out]
      have B4 : Below w.heap.size w W4 := B3.trans (hb4.mono B3.size)
      clear B3 hb4 t4 t5 t6 t7
      by_cases hsz : b.length < 12 + N
      · obtain ⟨rfl, rfl, rfl⟩ := is3 HF.out (show takeL b = ([], 0, 20) by unfold takeL; rw [if_neg (by omega), if_neg (by simp [NB.out, HQ.out]; omega), if_pos (by rw [NB.out]; exact hsz)])
        have hsz1 : decide ((b.length : Int) < 12 + (N : Int)) = true := decide_eq_true (by omega)
        clear HF
        go_wp2
        go_ret3
        exact ⟨_, rfl, World.ownsRow_nil _ _ _ _, B4⟩
      · have hsz1 : decide ((b.length : Int) < 12 + (N : Int)) = false := decide_eq_false (by omega)
        go_wp2_with fail
        have hA : 12 + N - 4 - 8 = N := by omega
        obtain ⟨Z, hZ⟩ : ∃ Z : Nat, Z = 12 + N := ⟨_, rfl⟩
        have hZi : 12 + (N : Int) = (Z : Int) := by omega
        simp only [hA, hZi]
        have LL : Hid (((b.drop 8).take N).length = N) := by show _ = _; rw [List.length_take, List.length_drop]; omega
        have RL : Hid (Row .u8 W4 (.slice (some ⟨bb, o + 8, none⟩) N (cap - 8)) ((b.drop 8).take N)) := by
          have h1 := ((HV.out.below B4).cut (j := 8) (by omega))
          have h2 := Row.take (l := b.drop 8) (j := N) (by rw [List.length_drop]; exact h1) (by rw [List.length_drop]; omega)
          show Row _ _ _ _
          simpa [Go.WideShapes.add_plain] using h2
        have UL : Hid (U8 ((b.drop 8).take N)) := (HU.out.drop 8).take N
        have T4 : Hid (Tabs W4) := HT.out.below B4
        obtain ⟨z0, z1, z2, z3, r', hz⟩ : ∃ z0 z1 z2 z3 r', b.drop (8 + N) = z0 :: z1 :: z2 :: z3 :: r' := by
          have hl : (b.drop (8 + N)).length = b.length - (8 + N) := List.length_drop
          match hd : b.drop (8 + N) with
          | z0 :: z1 :: z2 :: z3 :: r' => exact ⟨_, _, _, _, _, rfl⟩
          | [] => rw [hd] at hl; simp at hl; omega
          | [_] => rw [hd] at hl; simp at hl; omega
          | [_, _] => rw [hd] at hl; simp at hl; omega
          | [_, _, _] => rw [hd] at hl; simp at hl; omega
        obtain ⟨M, hM⟩ : ∃ M : Nat, M = 8 + N := ⟨_, rfl⟩
        have hcz : ∀ i, i < 4 → W4.cell? ⟨bb, o + M + i, none⟩ = some (.int .u8 ([z0, z1, z2, z3].getD i 0)) := by
          intro i hi
          obtain ⟨p', cap', hv', _, _, _, hcell⟩ := HV.out.below B4
          obtain ⟨b', o', hp', hcell⟩ := hcell (by omega)
          simp only [Value.slice.injEq] at hv'
          rw [hp'] at hv'
          simp only [Option.some.injEq, Addr.mk.injEq] at hv'
          obtain ⟨⟨rfl, rfl, _⟩, _⟩ := hv'
          have h1 := hcell (8 + N + i) (by omega)
          rw [show o + M + i = o + (8 + N + i) by omega, h1]
          have h2 : b.getD (8 + N + i) 0 = (b.drop (8 + N)).getD i 0 := by simp [List.getD]
          rw [h2, hz]
          match i, hi with
          | 0, _ => rfl
          | 1, _ => rfl
          | 2, _ => rfl
          | 3, _ => rfl
        have e0 : W4.cell? ⟨bb, o + M, none⟩ = some (.int .u8 z0) := hcz 0 (by omega)
        have e1 : W4.cell? ⟨bb, o + M + 1, none⟩ = some (.int .u8 z1) := hcz 1 (by omega)
        have e2 : W4.cell? ⟨bb, o + M + 2, none⟩ = some (.int .u8 z2) := hcz 2 (by omega)
        have e3 : W4.cell? ⟨bb, o + M + 3, none⟩ = some (.int .u8 z3) := hcz 3 (by omega)
        clear hcz
        have UZ : Hid (U8 [z0, z1, z2, z3]) := fun y hy => HU.out y (List.mem_of_mem_drop (i := 8 + N) (by rw [hz]; simp at hy ⊢; omega))
        have HZ : Hid (num (b.drop (8 + N)) = num [z0, z1, z2, z3]) := by show _ = _; rw [hz]; rfl
        clear hz
        have hG := crc_lt UL.out
        generalize hGd : crc ((b.drop 8).take N) = G at hG
        have HG : Hid (crc ((b.drop 8).take N) = G) := hGd
        obtain ⟨j0, j1, j2, j3, h4'⟩ : ∃ q0 q1 q2 q3, four G = [q0, q1, q2, q3] := ⟨_, _, _, _, rfl⟩
        have G4 : Hid (four G = [j0, j1, j2, j3]) := h4'
        clear h4' hGd
        have hB : Z - M = 4 := by omega
        have hcap : ¬ cap = M := by omega
        have hMi : (Z : Int) - 4 = (M : Int) := by omega
        have hwr : IntKind.i64.wrap (M : Int) = (M : Int) := by rw [IntKind.wrap_i64]; omega
        have v2 : (Z : Int) ≤ (cap : Int) := by omega
        have v3 : (M : Int) ≤ (Z : Int) := by omega
        have v4 : M ≤ Z := by omega
        have v5 : Z ≤ cap := by omega
        have HZZ : Hid (Z = 12 + N) := hZ
        clear hA hZi hM hZ
        have he4' := eq4 z0 z1 z2 z3 j0 j1 j2 j3
        have HC : ∀ W, Below W4.heap.size W4 W → W.cell? ⟨bb, o + M, none⟩ = some (.int .u8 z0) ∧ W.cell? ⟨bb, o + M + 1, none⟩ = some (.int .u8 z1) ∧ W.cell? ⟨bb, o + M + 2, none⟩ = some (.int .u8 z2) ∧ W.cell? ⟨bb, o + M + 3, none⟩ = some (.int .u8 z3) := fun W hW =>
          ⟨cell_later hW e0, cell_later hW e1, cell_later hW e2, cell_later hW e3⟩
        clear e0 e1 e2 e3
        by_cases hq : [z0, z1, z2, z3] = [j0, j1, j2, j3]
        · have hq' : decide ([z0, z1, z2, z3] = [j0, j1, j2, j3]) = true := decide_eq_true hq
          rw [hq'] at he4'
          obtain ⟨rfl, rfl, rfl⟩ := is3 HF.out (show takeL b = ((b.drop 8).take N, Z, 0) by
            rw [HZZ.out]
            unfold takeL
            rw [NB.out, if_neg (by omega), if_neg (by simp [HQ.out]; omega), if_neg hsz, if_neg]
            rw [HG.out, HZ.out, hq, ← G4.out, num_four hG]
            simp)
          clear hq hq' HF
          refine region_class (fun W => Below W4.heap.size W4 W) (by kernel_rfl) (by kernel_rfl) (Below.refl _ W4).drew ?_
          repeat
            first
              | (refine BigFrame.wpQuiet_skip (by rfl) ?_)
              | (refine BigFrame.wpQuiet_want (by rfl) (fun K hK => ?_)
                 unfold Oper.quiet
                 apply Exists.intro
                 refine ⟨fun W hW => ?_, hK _ ?_⟩
                 · first
                    | (obtain ⟨r0, r1, r2, r3⟩ := HC W hW; go_simp; done)
                    | (obtain ⟨r0, r1, r2, r3⟩ := HC W hW; go_simp; exact rfl)
                    | (go_simp
                       first
                       | (go_at_call 14; refine (sum_any (RL.out.below hW) UL.out (T4.out.below hW)).mono ?_; rintro e w1 ⟨rfl, hb1⟩; rw [HG.out]; exact ⟨rfl, hW.trans (hb1.mono hW.size)⟩)
                       | (go_at_call 25; refine (numberOf_any _ hG G4.out).mono ?_; rintro e w2 ⟨rfl, hb2⟩; exact ⟨rfl, hW.trans (hb2.mono hW.size)⟩))
                 clear hK K
                 simp only [Act.put, List.setIfInBounds_toArray, List.set_cons_zero, List.set_cons_succ])
          refine wpQuiet_nil (fun W hW => ?_)
          have B5 : Below w.heap.size w W := B4.trans (hW.mono B4.size)
          have RL' : Hid (Row .u8 W (.slice (some ⟨bb, o + 8, none⟩) N (cap - 8)) ((b.drop 8).take N)) := RL.out.below hW
          clear hW he4' HC RL UL T4 HU HV HB
          go_wp2_with fail
          refine (clone_any RL'.out (by rw [LL.out]; omega)).mono ?_
          rintro e W6 ⟨v6, rfl, hown6, hb6⟩
          have B6 : Below w.heap.size w W6 := B5.trans (hb6.mono B5.size)
          have O6 : Hid (W6.ownsRow w.heap.size 5 1 v6 ((b.drop 8).take N).length (((b.drop 8).take N).map (Value.int .u8))) := own_base hown6 B5.size
          clear hown6 hb6
          go_wp2
          go_ret3
          exact ⟨v6, rfl, O6.out, B6⟩
        · have hq' : decide ([z0, z1, z2, z3] = [j0, j1, j2, j3]) = false := decide_eq_false hq
          rw [hq'] at he4'
          obtain ⟨rfl, rfl, rfl⟩ := is3 HF.out (show takeL b = ([], 0, 21) by
            unfold takeL
            rw [NB.out, if_neg (by omega), if_neg (by simp [HQ.out]; omega), if_neg hsz, if_pos]
            rw [HG.out, HZ.out]
            intro e
            apply hq
            rw [← G4.out, ← e, four_num rfl UZ.out])
          clear hq hq' HF
          refine region_class (fun W => Below W4.heap.size W4 W) (by kernel_rfl) (by kernel_rfl) (Below.refl _ W4).drew ?_
          repeat
            first
              | (refine BigFrame.wpQuiet_skip (by rfl) ?_)
              | (refine BigFrame.wpQuiet_want (by rfl) (fun K hK => ?_)
                 unfold Oper.quiet
                 apply Exists.intro
                 refine ⟨fun W hW => ?_, hK _ ?_⟩
                 · first
                    | (obtain ⟨r0, r1, r2, r3⟩ := HC W hW; go_simp; done)
                    | (obtain ⟨r0, r1, r2, r3⟩ := HC W hW; go_simp; exact rfl)
                    | (go_simp
                       first
                       | (go_at_call 14; refine (sum_any (RL.out.below hW) UL.out (T4.out.below hW)).mono ?_; rintro e w1 ⟨rfl, hb1⟩; rw [HG.out]; exact ⟨rfl, hW.trans (hb1.mono hW.size)⟩)
                       | (go_at_call 25; refine (numberOf_any _ hG G4.out).mono ?_; rintro e w2 ⟨rfl, hb2⟩; exact ⟨rfl, hW.trans (hb2.mono hW.size)⟩))
                 clear hK K
                 simp only [Act.put, List.setIfInBounds_toArray, List.set_cons_zero, List.set_cons_succ])
          refine wpQuiet_nil (fun W hW => ?_)
          have B5 : Below w.heap.size w W := B4.trans (hW.mono B4.size)
          clear hW he4' HC RL UL T4 HU HV HB
          go_wp2
          go_ret3
          exact ⟨_, rfl, World.ownsRow_nil _ _ _ _, B5⟩
  · have hq' : decide ([y0, y1, y2, y3] = [q0, q1, q2, q3]) = false := decide_eq_false hq
    have HQ : Hid (num (b.drop 4) ≠ crc (b.take 4)) := by
      show _ ≠ _
      rw [HB.out]
      show num [y0, y1, y2, y3] ≠ crc [x0, x1, x2, x3]
      rw [HS.out]
      intro e
      apply hq
      rw [← H4.out, ← e, four_num rfl HY.out]
    rw [hq'] at he4
    obtain ⟨rfl, rfl, rfl⟩ := is3 HF.out (show takeL b = ([], 0, 21) by unfold takeL; rw [if_neg (by omega), if_pos (.inl HQ.out)])
    clear hq hq' HF
    refine region_class (fun W => Below W0.heap.size W0 W) (by kernel_rfl) (by kernel_rfl) (Below.refl _ W0).drew ?_
    repeat
      first
        | (refine BigFrame.wpQuiet_skip (by rfl) ?_)
        | (refine BigFrame.wpQuiet_want (by rfl) (fun K hK => ?_)
           unfold Oper.quiet
           apply Exists.intro
           refine ⟨fun W hW => ?_, hK _ ?_⟩
           · first
              | (obtain ⟨r0, r1, r2, r3, r4, r5, r6, r7⟩ := HC W hW; go_simp; done)
              | (obtain ⟨r0, r1, r2, r3, r4, r5, r6, r7⟩ := HC W hW; go_simp; exact rfl)
              | (go_simp
                 first
                 | (go_at_call 14; refine (sum_any (R0.out.below hW) HX.out (T0.out.below hW)).mono ?_; rintro e w1 ⟨rfl, hb1⟩; rw [HS.out]; exact ⟨rfl, hW.trans (hb1.mono hW.size)⟩)
                 | (go_at_call 25; refine (numberOf_any _ hS H4.out).mono ?_; rintro e w2 ⟨rfl, hb2⟩; exact ⟨rfl, hW.trans (hb2.mono hW.size)⟩))
           clear hK K
           simp only [Act.put, List.setIfInBounds_toArray, List.set_cons_zero, List.set_cons_succ])
    refine wpQuiet_nil (fun W hW => ?_)
    have B3 : Below w.heap.size w W := B0.out.trans (hW.mono B0.out.size)
    clear hW he4 HC
    go_wp2
    go_ret3
    exact ⟨_, rfl, World.ownsRow_nil _ _ _ _, B3⟩

end Go.Proofs.YtcdjbfapldepaaaDoor
