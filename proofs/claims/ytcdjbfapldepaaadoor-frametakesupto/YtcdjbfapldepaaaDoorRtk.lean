/-
  What the reference's Take and Scan return: the frame, and all frames, with which bytes begin; over any world, in which nothing that was there turns. The conditions: the slice reads as bytes, at most 2^47 of them (Scan: 2^30).
-/
import Derived.Test.YtcdjbfapldepaaaDoorSam
import Derived.Deep.RegionWith
namespace Go.Proofs.YtcdjbfapldepaaaDoor
open Go.RowKit

set_option maxHeartbeats 4000000 in
theorem rtake_at {v : Value} {b x : List Int} {n : Nat} {er : Int} {w : World} (h : Row .u8 w v b) (hu : U8 b) (hbig : b.length ≤ 140737488355328) (hf : takeL b = (x, n, er)) :
    Calls Tryd.prog 18 #[v] w fun e w' => ∃ v', e = .returned (.tuple #[v', .int .i64 (n : Int), .int .i64 er]) ∧
      w'.ownsRow w.heap.size 5 1 v' x.length (x.map (Value.int .u8)) ∧ Below w.heap.size w w' := by
  obtain ⟨i0, hi, hz0, hz1, hz2⟩ := info_parts Tryd.infoU8
  have HV : Hid (Row .u8 w v b) := h
  have HU : Hid (U8 b) := hu
  have HF : Hid (takeL b = (x, n, er)) := hf
  clear hf hu
  obtain ⟨p, cap, rfl, g1, g2, g3, g4⟩ := h
  by_cases h8 : b.length < 8
  · obtain ⟨rfl, rfl, rfl⟩ := is3 HF.out (show takeL b = ([], 0, 20) by unfold takeL; rw [if_pos h8])
    clear g3 g4 HV HU HF
    go_enter Tryd.func18, Tryd.ntmps18
    go_wp2
    go_ret3
    exact ⟨_, rfl, World.ownsRow_nil _ _ _ _, Below.refl _ _⟩
  clear g3 g4
  obtain ⟨N, hN⟩ : ∃ N, num b = N := ⟨_, rfl⟩
  have HN : Hid (num b = N) := hN
  obtain ⟨S4, hS4⟩ : ∃ S4, crc (b.take 4) = S4 := ⟨_, rfl⟩
  have HS4 : Hid (crc (b.take 4) = S4) := hS4
  obtain ⟨M4, hM4⟩ : ∃ M4, num (b.drop 4) = M4 := ⟨_, rfl⟩
  have HM4 : Hid (num (b.drop 4) = M4) := hM4
  have R4 : Hid (Row .u8 w (.slice p 4 cap) (b.take 4)) := HV.out.take (by omega)
  have R5 : Hid (Row .u8 w (.slice (Option.map (fun x => x.add 4) p) (b.length - 4) (cap - 4)) (b.drop 4)) := HV.out.cut (by omega)
  have k1 : (4 : Int) ≤ (cap : Int) := by omega
  have k2 : (4 : Int) ≤ (b.length : Int) := by omega
  have k3 : ¬ cap = 4 := by omega
  clear hN hS4 hM4
  go_enter Tryd.func18, Tryd.ntmps18
  go_wp2_with fail
  refine (rnumber_any HV.out HU.out (by omega)).mono ?_
  rintro e w1 ⟨rfl, hb1⟩
  have B1 : Below w.heap.size w w1 := hb1
  rw [HN.out]
  clear hb1
  by_cases hbad : M4 ≠ S4 ∨ 262144 < N
  · obtain ⟨rfl, rfl, rfl⟩ := is3 HF.out (show takeL b = ([], 0, 21) by unfold takeL; rw [if_neg h8, if_pos (by rw [HM4.out, HS4.out, HN.out]; exact hbad)])
    by_cases hne : M4 = S4
    · subst hne
      have hg : ((M4 : Int) != (M4 : Int)) = false := by simp
      have hd : decide ((262144 : Int) < (N : Int)) = true := decide_eq_true (by omega)
      clear hbad
      go_wp2_with fail
      refine region_class (fun W => Below w1.heap.size w1 W) (by kernel_rfl) (by kernel_rfl) (Below.refl _ w1).drew ?_
      repeat
        first
          | (refine BigFrame.wpQuiet_skip (by rfl) ?_)
          | (refine BigFrame.wpQuiet_want (by rfl) (fun K hK => ?_)
             unfold Oper.quiet
             apply Exists.intro
             refine ⟨fun W hW => ?_, hK _ ?_⟩
             · first
                | (go_simp; done)
                | (go_simp; exact rfl)
                | (go_simp
                   first
                   | (go_at_call 15; refine (rsum_any ((R4.out.below B1).below hW) (HU.out.take 4)).mono ?_; rintro e w3 ⟨rfl, hb3⟩; rw [HS4.out]; exact ⟨rfl, hW.trans (hb3.mono hW.size)⟩)
                   | (go_at_call 28; refine (rnumber_any ((R5.out.below B1).below hW) (HU.out.drop 4) (by rw [List.length_drop]; omega)).mono ?_; rintro e w3 ⟨rfl, hb3⟩; rw [HM4.out]; exact ⟨rfl, hW.trans (hb3.mono hW.size)⟩))
             clear hK K
             simp only [Act.put, List.setIfInBounds_toArray, List.set_cons_zero, List.set_cons_succ])
      refine wpQuiet_nil (fun W hW => ?_)
      have B4 : Below w.heap.size w W := B1.trans (hW.mono B1.size)
      clear hW B1 R4 R5
      go_wp2
      go_ret3
      exact ⟨_, rfl, World.ownsRow_nil _ _ _ _, B4⟩
    · have hg : ((S4 : Int) != (M4 : Int)) = true := by simp; omega
      clear hbad
      go_wp2_with fail
      refine region_class (fun W => Below w1.heap.size w1 W) (by kernel_rfl) (by kernel_rfl) (Below.refl _ w1).drew ?_
      repeat
        first
          | (refine BigFrame.wpQuiet_skip (by rfl) ?_)
          | (refine BigFrame.wpQuiet_want (by rfl) (fun K hK => ?_)
             unfold Oper.quiet
             apply Exists.intro
             refine ⟨fun W hW => ?_, hK _ ?_⟩
             · first
                | (go_simp; done)
                | (go_simp; exact rfl)
                | (go_simp
                   first
                   | (go_at_call 15; refine (rsum_any ((R4.out.below B1).below hW) (HU.out.take 4)).mono ?_; rintro e w3 ⟨rfl, hb3⟩; rw [HS4.out]; exact ⟨rfl, hW.trans (hb3.mono hW.size)⟩)
                   | (go_at_call 28; refine (rnumber_any ((R5.out.below B1).below hW) (HU.out.drop 4) (by rw [List.length_drop]; omega)).mono ?_; rintro e w3 ⟨rfl, hb3⟩; rw [HM4.out]; exact ⟨rfl, hW.trans (hb3.mono hW.size)⟩))
             clear hK K
             simp only [Act.put, List.setIfInBounds_toArray, List.set_cons_zero, List.set_cons_succ])
      refine wpQuiet_nil (fun W hW => ?_)
      have B4 : Below w.heap.size w W := B1.trans (hW.mono B1.size)
      clear hW B1 R4 R5
      go_wp2
      go_ret3
      exact ⟨_, rfl, World.ownsRow_nil _ _ _ _, B4⟩
  · have hbad2 : ¬ (num (b.drop 4) ≠ crc (b.take 4) ∨ 262144 < num b) := by rw [HM4.out, HS4.out, HN.out]; exact hbad
    obtain rfl : M4 = S4 := by omega
    have hN1 : N ≤ 262144 := by omega
    have hg : ((M4 : Int) != (M4 : Int)) = false := by simp
    have hd : decide ((262144 : Int) < (N : Int)) = false := decide_eq_false (by omega)
    have HBB : Hid (¬ (num (b.drop 4) ≠ crc (b.take 4) ∨ 262144 < num b)) := hbad2
    clear hbad hbad2
    go_wp2_with fail
    refine region_class (fun W => Below w1.heap.size w1 W) (by kernel_rfl) (by kernel_rfl) (Below.refl _ w1).drew ?_
    repeat
      first
        | (refine BigFrame.wpQuiet_skip (by rfl) ?_)
        | (refine BigFrame.wpQuiet_want (by rfl) (fun K hK => ?_)
           unfold Oper.quiet
           apply Exists.intro
           refine ⟨fun W hW => ?_, hK _ ?_⟩
           · first
              | (go_simp; done)
              | (go_simp; exact rfl)
              | (go_simp
                 first
                 | (go_at_call 15; refine (rsum_any ((R4.out.below B1).below hW) (HU.out.take 4)).mono ?_; rintro e w3 ⟨rfl, hb3⟩; rw [HS4.out]; exact ⟨rfl, hW.trans (hb3.mono hW.size)⟩)
                 | (go_at_call 28; refine (rnumber_any ((R5.out.below B1).below hW) (HU.out.drop 4) (by rw [List.length_drop]; omega)).mono ?_; rintro e w3 ⟨rfl, hb3⟩; rw [HM4.out]; exact ⟨rfl, hW.trans (hb3.mono hW.size)⟩))
           clear hK K
           simp only [Act.put, List.setIfInBounds_toArray, List.set_cons_zero, List.set_cons_succ])
    refine wpQuiet_nil (fun W hW => ?_)
    have B4 : Below w.heap.size w W := B1.trans (hW.mono B1.size)
    clear hW B1 R4 R5
    by_cases hcut : b.length < 12 + N
    · obtain ⟨rfl, rfl, rfl⟩ := is3 HF.out (show takeL b = ([], 0, 20) by unfold takeL; rw [if_neg h8, if_neg HBB.out, if_pos (by rw [HN.out]; exact hcut)])
      have hc1 : decide ((b.length : Int) - 12 < (N : Int)) = true := decide_eq_true (by omega)
      go_wp2
      go_ret3
      exact ⟨_, rfl, World.ownsRow_nil _ _ _ _, B4⟩
    · have hc1 : decide ((b.length : Int) - 12 < (N : Int)) = false := decide_eq_false (by omega)
      have R8' := HV.out.cut (j := 8) (by omega)
      rw [← List.length_drop] at R8'
      have R8 : Hid (Row .u8 w (.slice (Option.map (fun x => x.add 8) p) N (cap - 8)) ((b.drop 8).take N)) := R8'.take (by rw [List.length_drop]; omega)
      have R9 : Hid (Row .u8 w (.slice (Option.map (fun x => x.add (8 + N)) p) (b.length - (8 + N)) (cap - (8 + N))) (b.drop (8 + N))) := HV.out.cut (by omega)
      have k4 : ¬ cap = 8 := by omega
      have k5 : ¬ cap = 8 + N := by omega
      have k6 : (8 : Int) ≤ 8 + (N : Int) := by omega
      have k7 : (8 : Int) + (N : Int) ≤ (cap : Int) := by omega
      have HCC : Hid (¬ b.length < 12 + num b) := by rw [HN.out]; exact hcut
      obtain ⟨L, hL⟩ : ∃ L, (b.drop 8).take N = L := ⟨_, rfl⟩
      have HL : Hid ((b.drop 8).take N = L) := hL
      have hLl : L.length = N := by rw [← hL, List.length_take, List.length_drop]; omega
      have HUL : Hid (U8 L) := by rw [← hL]; exact (HU.out.drop 8).take N
      have R8 : Hid (Row .u8 w (.slice (Option.map (fun x => x.add 8) p) (8 + N - 8) (cap - 8)) L) := by rw [← hL, Nat.add_sub_cancel_left]; exact R8.out
      have hl4 : Hid (4 ≤ (b.drop (8 + N)).length) := by show 4 ≤ _; rw [List.length_drop]; omega
      clear R8' hL hcut
      subst hLl
      go_wp2_with (at_builtin; refine append_row _ rfl _ _ 22 rfl w.heap.size 5 i0 .u8 1 Tryd.underlying22 hi hz0 hz1 hz2 _ _ _ rfl (World.ownsRow_nil _ _ _ _) _ L rfl (R8.out.below B4) (by omega) (by omega) B4.size ?_)
      intro v6 w6 hown6 hg6
      have B6 : Below w.heap.size w w6 := B4.grown hg6 B4.size (fun g hg => by simp [Value.ownBlock] at hg)
      have O6 : Hid (w6.ownsRow w.heap.size 5 1 v6 L.length (L.map (Value.int .u8))) := by show World.ownsRow _ _ _ _ _ _ _; simpa using hown6
      obtain ⟨p6, cp6, rfl, _, _, _, _⟩ := id (own_row O6.out)
      obtain ⟨SL, hSL⟩ : ∃ SL, crc L = SL := ⟨_, rfl⟩
      have HSL : Hid (crc L = SL) := hSL
      obtain ⟨ML, hML⟩ : ∃ ML, num (b.drop (8 + L.length)) = ML := ⟨_, rfl⟩
      have HML : Hid (num (b.drop (8 + L.length)) = ML) := hML
      have hw1 : IntKind.i64.wrap (L.length : Int) = (L.length : Int) := by rw [IntKind.wrap_i64]; omega
      have hw2 : IntKind.i64.wrap (8 + (L.length : Int)) = 8 + (L.length : Int) := by rw [IntKind.wrap_i64]; omega
      have k8 : (8 : Int) + (L.length : Int) ≤ (b.length : Int) := by have := hl4.out; rw [List.length_drop] at this; omega
      have k9 : (0 : Int) ≤ 8 + (L.length : Int) := by omega
      have hw3 : (8 + (L.length : Int)).toNat = 8 + L.length := by omega
      clear hown6 hg6 B4 R8 hSL hML
      by_cases heq : ML = SL
      · subst heq
        obtain ⟨rfl, rfl, rfl⟩ := is3 HF.out (show takeL b = (L, 12 + L.length, 0) by unfold takeL; rw [if_neg h8, if_neg HBB.out, if_neg HCC.out, HN.out, HL.out, HML.out, HSL.out, if_neg (by simp)])
        have hg : ((ML : Int) != (ML : Int)) = false := by simp
        go_wp2_with fail
        refine region_class (fun W => Below w6.heap.size w6 W) (by kernel_rfl) (by kernel_rfl) (Below.refl _ w6).drew ?_
        repeat
          first
            | (refine BigFrame.wpQuiet_skip (by rfl) ?_)
            | (refine BigFrame.wpQuiet_want (by rfl) (fun K hK => ?_)
               unfold Oper.quiet
               apply Exists.intro
               refine ⟨fun W hW => ?_, hK _ ?_⟩
               · first
                  | (go_simp; done)
                  | (go_simp; exact rfl)
                  | (go_simp
                     first
                     | (go_at_call 15; refine (rsum_any ((own_row O6.out).below hW) HUL.out).mono ?_; rintro e w3 ⟨rfl, hb3⟩; rw [HSL.out]; exact ⟨rfl, hW.trans (hb3.mono hW.size)⟩)
                     | (go_at_call 28; refine (rnumber_any ((R9.out.below B6).below hW) (HU.out.drop _) hl4.out).mono ?_; rintro e w3 ⟨rfl, hb3⟩; rw [HML.out]; exact ⟨rfl, hW.trans (hb3.mono hW.size)⟩))
               clear hK K
               simp only [Act.put, List.setIfInBounds_toArray, List.set_cons_zero, List.set_cons_succ])
        refine wpQuiet_nil (fun W7 hW7 => ?_)
        have B7 : Below w.heap.size w W7 := B6.trans (hW7.mono B6.size)
        have O7 : Hid (W7.ownsRow w.heap.size 5 1 (.slice p6 x.length cp6) x.length (x.map (Value.int .u8))) := own_below O6.out hW7
        clear hW7 O6 B6
        go_wp2
        go_ret3
        exact ⟨_, by simp, O7.out, B7⟩
      · obtain ⟨rfl, rfl, rfl⟩ := is3 HF.out (show takeL b = ([], 0, 21) by unfold takeL; rw [if_neg h8, if_neg HBB.out, if_neg HCC.out, HN.out, HL.out, HML.out, HSL.out, if_pos heq])
        have hg : ((SL : Int) != (ML : Int)) = true := by simp; omega
        go_wp2_with fail
        refine region_class (fun W => Below w6.heap.size w6 W) (by kernel_rfl) (by kernel_rfl) (Below.refl _ w6).drew ?_
        repeat
          first
            | (refine BigFrame.wpQuiet_skip (by rfl) ?_)
            | (refine BigFrame.wpQuiet_want (by rfl) (fun K hK => ?_)
               unfold Oper.quiet
               apply Exists.intro
               refine ⟨fun W hW => ?_, hK _ ?_⟩
               · first
                  | (go_simp; done)
                  | (go_simp; exact rfl)
                  | (go_simp
                     first
                     | (go_at_call 15; refine (rsum_any ((own_row O6.out).below hW) HUL.out).mono ?_; rintro e w3 ⟨rfl, hb3⟩; rw [HSL.out]; exact ⟨rfl, hW.trans (hb3.mono hW.size)⟩)
                     | (go_at_call 28; refine (rnumber_any ((R9.out.below B6).below hW) (HU.out.drop _) hl4.out).mono ?_; rintro e w3 ⟨rfl, hb3⟩; rw [HML.out]; exact ⟨rfl, hW.trans (hb3.mono hW.size)⟩))
               clear hK K
               simp only [Act.put, List.setIfInBounds_toArray, List.set_cons_zero, List.set_cons_succ])
        refine wpQuiet_nil (fun W7 hW7 => ?_)
        have B7 : Below w.heap.size w W7 := B6.trans (hW7.mono B6.size)
        clear hW7 O6 B6
        go_wp2
        go_ret3
        exact ⟨_, rfl, World.ownsRow_nil _ _ _ _, B7⟩

set_option maxHeartbeats 4000000 in
theorem rscan_any {v : Value} {b : List Int} {w : World} (hv : Row .u8 w v b) (hu : U8 b) (hbig : b.length ≤ 1073741824) :
    Calls Tryd.prog 20 #[v] w fun e w' => ∃ lv, e = .returned (.tuple #[lv, .int .i64 ((flen (loads b) : Nat) : Int), .int .i64 (errAt b)]) ∧ OwnL w.heap.size w' lv (loads b) ∧ Below w.heap.size w w' := by
  obtain ⟨i0, hI0, hz0, hz1, hz2⟩ := info_parts Tryd.infoSl
  have HV : Hid (Row .u8 w v b) := hv
  have HU : Hid (U8 b) := hu
  have hN := loads_len b
  obtain ⟨p, cap, rfl, g1, g2, _, _⟩ := hv
  clear hu
  go_enter Tryd.func20, Tryd.ntmps20
  go_wp2
  go_loopw [5, 6] (fun lv i wr => ∃ pre : List (List Int), flen pre ≤ b.length ∧ i = .int .i64 ((flen pre : Nat) : Int) ∧ Hid (loads b = pre ++ after b (flen pre)) ∧ Hid (OwnL w.heap.size wr lv pre) ∧ Below w.heap.size w wr) (fun _ i _ => b.length - (intOf i).toNat)
  case atStart => exact ⟨[], by simp [flen_nil], rfl, by show _ = _; rw [flen_nil, after_zero]; rfl, OwnL.nil _ _, Below.refl _ _⟩
  case round =>
    obtain ⟨pre, hk, rfl, HP, HO, hbr⟩ := hrel
    generalize hke : flen pre = k at hk HP
    have HK : Hid (flen pre = k) := hke
    clear hke
    by_cases hlt : k < b.length
    · obtain ⟨x, m, er, hf⟩ : ∃ x m er, takeL (b.drop k) = (x, m, er) := ⟨_, _, _, rfl⟩
      have HF : Hid (takeL (b.drop k) = (x, m, er)) := hf
      have k3 : ¬ cap = k := by omega
      clear hf
      go_wp2_with fail
      refine (rtake_at ((HV.out.below hbr).cut hk) (HU.out.drop k) (by rw [List.length_drop]; omega) HF.out).mono ?_
      rintro r w2 ⟨u, rfl, hown, hb2⟩
      have B2 : Below w.heap.size w w2 := hbr.trans (hb2.mono hbr.size)
      have O2 : Hid (w2.ownsRow w.heap.size 5 1 u x.length (x.map (Value.int .u8))) := own_base hown hbr.size
      have HO2 : Hid (OwnL w.heap.size w2 u5 pre) := HO.out.below hb2
      clear hown hb2 HO hbr
      by_cases h0 : er = 0
      · subst h0
        obtain ⟨hm, hkm, _, hstep⟩ := after_ok HF.out
        have HP' : Hid (loads b = (pre ++ [x]) ++ after b (k + m)) := by show _ = _; rw [HP.out, hstep]; simp
        have HK' : Hid (flen (pre ++ [x]) = k + m) := by show _ = _; rw [flen_snoc, HK.out, hm]
        have hm0 : 0 < m := by omega
        have hpl : pre.length ≤ 1073741824 := by
          have := congrArg List.length HP.out
          simp at this
          omega
        obtain ⟨us, o1, o2, o3⟩ := HO2.out
        obtain ⟨pu, cu, rfl, _, _, _, _⟩ := id (own_row O2.out)
        have HO3 : Hid (∀ i, i < pre.length → w2.ownsRow w.heap.size 5 1 (us.getD i undef) (pre.getD i []).length ((pre.getD i []).map (Value.int .u8))) := o3
        clear hstep HP HF hm o3
        go_wp2_with (at_builtin; refine wpList_append_own _ rfl _ _ 23 rfl w.heap.size 22 i0 (.slice none 0 0) 1 24 Tryd.underlying23 hI0 hz0 hz1 hz2 rfl (by decide) _ _ _ rfl (o2.alloc _) ⟨w2.heap.size, 0, none⟩ 1 1 [.slice pu x.length cu] rfl rfl ?c1 ?c2 ?c3 ?c4 ?c5 ?_)
        case c1 => intro j u' hj; cases j with | zero => (simp at hj; subst hj; simp [Addr.add]) | succ j => simp at hj
        case c2 => intro u' hu'; simp at hu'; subst hu'; rfl
        case c3 => unfold maxLen; omega
        case c4 => omega
        case c5 => simp; have := B2.size; omega
        intro lv' w3 hown3 hg3 _
        have HOL : Hid (OwnL w.heap.size w3 lv' (pre ++ [x])) := OwnL.snoc o1 (o2.alloc _) (fun i hi => (HO3.out i hi).alloc _) (O2.out.alloc _) hg3 hown3
        have B3 : Below w.heap.size w w3 := B2.trans (below_append o2 hg3 B2.size (Nat.le_refl _))
        clear hown3 hg3 HO3 O2 HO2 B2 o1 o2
        go_wp2
        go_roundw
        case rel => exact ⟨pre ++ [x], by rw [HK'.out]; exact hkm, by rw [HK'.out]; exact congrArg (Value.int .i64) (by omega), by rw [HK'.out]; exact HP', HOL, B3⟩
        case measure => simp [intOf]; omega
      · have hn : (er != 0) = true := by simpa using h0
        have HE : Hid (loads b = pre) := by show _ = _; rw [HP.out, after_err HF.out h0]; simp
        have HEr : Hid (errAt b = er) := by show _ = _; unfold errAt; rw [HE.out, HK.out, if_neg (by omega), HF.out]
        clear h0 HF HP O2
        go_wp2
        go_ret3
        exact ⟨u5, by rw [HEr.out, HE.out, HK.out]; rfl, by rw [HE.out]; exact HO2.out, B2⟩
    · have HE : Hid (loads b = pre) := by show _ = _; rw [HP.out, after_end (by omega)]; simp
      have HEr : Hid (errAt b = 0) := by show _ = _; unfold errAt; rw [HE.out, HK.out, if_pos (by omega)]
      clear HP
      go_wp2
      go_ret3
      exact ⟨u5, by rw [HEr.out, HE.out, HK.out]; rfl, by rw [HE.out]; exact HO.out, hbr⟩

end Go.Proofs.YtcdjbfapldepaaaDoor
