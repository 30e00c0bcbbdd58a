/-
  The reference's Check. No conditions.
-/
import Derived.Test.YtlfipmieaabagaaGreatGir
import Derived.Test.YtlfipmieaabagaaGreatGpl
namespace Go.Proofs.YtlfipmieaabagaaGreat
open Go.RowKit

def looseAt (os : List GO) : Option Nat := (List.range os.length).find? (fun n => looseP os n)
def checkC (parts : Int) (os : List GO) : Int × Int :=
  if 1 ≤ parts ∧ parts ≤ 4 then
    if os.length ≤ 24 then
      match (scanS parts os).bad with
      | some x => ((x.1 : Int), x.2)
      | none =>
        match looseAt os with
        | some n => ((n : Int), 54)
        | none => (0, endsC parts.toNat os)
    else (0, 3)
  else (0, 1)
theorem check_hit {parts : Int} {os : List GO} (h1 : 1 ≤ parts ∧ parts ≤ 4) (hl : os.length ≤ 24) {k : Nat} (hk : k < os.length) (h : (scanS parts (os.take k)).bad = none) {e : Int} (he : rOneC parts os k = e) (h0 : e ≠ 0) : checkC parts os = ((k : Int), e) := by
  have h3 := scan_one hk h
  rw [one_eq hk h, he, if_neg h0] at h3
  have h4 : (scanS parts (os.take (k + 1))).bad = some (k, e) := by rw [h3]
  unfold checkC
  rw [if_pos h1, if_pos hl, scanS_more h4, h4]
theorem check_next {parts : Int} {os : List GO} {k : Nat} (hk : k < os.length) (h : (scanS parts (os.take k)).bad = none) (he : rOneC parts os k = 0) : (scanS parts (os.take (k + 1))).bad = none := by
  have h3 := scan_one hk h
  rw [one_eq hk h, he, if_pos rfl] at h3
  rw [h3]
theorem ins_four {o : GO} {a : List GO} (h : insC o a = true) : o.ins.length ≤ 4 := by
  unfold insC at h
  rw [Bool.and_eq_true, decide_eq_true_eq] at h
  have : mostC o.kind ≤ 4 := by unfold mostC; split; omega; split <;> omega
  omega
theorem scan_four {parts : Int} {os : List OV} {k : Nat} (hk : k ≤ os.length) (h : (scanS parts ((os.map OV.o).take k)).bad = none) : ∀ i, i < k → (os[i]!).o.ins.length ≤ 4 := by
  intro i hi
  have h1 := (one_zero (scan_good h (k := i) (by simp; omega)).2).2.2.1
  have h2 : ((os.map OV.o).take k)[i]! = (os[i]!).o := by rw [take_get (by simpa using hk) hi, getO os (by omega)]
  rw [h2] at h1
  exact ins_four h1

def skN (j a b : Nat) : Nat := if j = 0 then a else b
theorem loose_hit {os : List GO} {n : Nat} (hn : n < os.length) (h : ∀ j, j < n → looseP os j = false) (h2 : looseP os n = true) : looseAt os = some n := by
  unfold looseAt
  rw [List.find?_range_eq_some]
  exact ⟨h2, by simpa using hn, fun j hj => by rw [h j hj]; rfl⟩
theorem loose_none {os : List GO} (h : ∀ j, j < os.length → looseP os j = false) : looseAt os = none := by
  unfold looseAt
  rw [List.find?_range_eq_none]
  exact fun j hj => by rw [h j hj]; rfl
theorem check_loose {parts : Int} {os : List GO} (h1 : 1 ≤ parts ∧ parts ≤ 4) (hl : os.length ≤ 24) (h : (scanS parts os).bad = none) {n : Nat} (hn : looseAt os = some n) : checkC parts os = ((n : Int), 54) := by
  unfold checkC
  rw [if_pos h1, if_pos hl, h, hn]
theorem check_ends {pn : Nat} {os : List GO} (h1 : 1 ≤ (pn : Int) ∧ (pn : Int) ≤ 4) (hl : os.length ≤ 24) (h : (scanS (pn : Int) os).bad = none) (hn : looseAt os = none) {e : Int} (he : endsC pn os = e) : checkC (pn : Int) os = (0, e) := by
  unfold checkC
  rw [if_pos h1, if_pos hl, h, hn]
  simp only [Int.toNat_natCast, he]

attribute [local irreducible] wpQuiet in
set_option maxRecDepth 100000 in
set_option maxHeartbeats 16000000 in
theorem rcheck_any {W : World} {parts : Int} {p : Option Addr} {cap : Nat} {os : List OV} (ho : GRow W p cap os) :
    Calls Tryz.prog 48 #[.agg #[.int .i64 parts, .slice p os.length cap]] W fun e w' => e = .returned (.tuple #[.int .i64 (checkC parts (os.map OV.o)).1, .int .i64 (checkC parts (os.map OV.o)).2]) ∧ Below W.heap.size W w' := by
  obtain ⟨rc, hrc⟩ : ∃ rc, checkC parts (os.map OV.o) = rc := ⟨_, rfl⟩
  rw [hrc]
  have HRC := hide hrc
  clear hrc
  have i3 := ho.le
  have i4 := ho.top
  have HO := hide ho
  clear ho
  by_cases a1 : parts < 1
  · have HQ : Hid (checkC parts (os.map OV.o) = (0, 1)) := hide (by unfold checkC; rw [if_neg (by omega)])
    have HVB := hide (alloc_below W (.cells #[.int .i64 parts, .slice p os.length cap] 24 (0, 0)))
    go_enter Tryz.func48, Tryz.ntmps48
    go_wp2
    go_ret2
    exact ⟨by rw [← HRC.out, HQ.out]; rfl, HVB.out⟩
  by_cases a2 : 4 < parts
  · have HQ : Hid (checkC parts (os.map OV.o) = (0, 1)) := hide (by unfold checkC; rw [if_neg (by omega)])
    have HVB := hide (alloc_below W (.cells #[.int .i64 parts, .slice p os.length cap] 24 (0, 0)))
    go_enter Tryz.func48, Tryz.ntmps48
    go_wp2
    go_ret2
    exact ⟨by rw [← HRC.out, HQ.out]; rfl, HVB.out⟩
  by_cases a3 : 24 < os.length
  · have HQ : Hid (checkC parts (os.map OV.o) = (0, 3)) := hide (by unfold checkC; rw [if_pos (by omega), if_neg (by simp; omega)])
    have HVB := hide (alloc_below W (.cells #[.int .i64 parts, .slice p os.length cap] 24 (0, 0)))
    go_enter Tryz.func48, Tryz.ntmps48
    go_wp2
    go_ret2
    exact ⟨by rw [← HRC.out, HQ.out]; rfl, HVB.out⟩
  have hl : os.length ≤ 24 := by omega
  have HL : Hid ((os.map OV.o).length ≤ 24) := hide (by simpa using hl)
  have HP : Hid (1 ≤ parts ∧ parts ≤ 4) := hide (by omega)
  go_enter Tryz.func48, Tryz.ntmps48
  go_wp2_with fail
  obtain ⟨gB, hgB⟩ : ∃ gB, W.heap.size = gB := ⟨_, rfl⟩
  obtain ⟨V, hV⟩ : ∃ V, V = W.alloc (.cells #[.int .i64 parts, .slice p os.length cap] 24 (0, 0)) := ⟨_, rfl⟩
  rw [← hV]
  have hv1 : V.heap[gB]? = some (.cells #[.int .i64 parts, .slice p os.length cap] 24 (0, 0)) := by
    rw [hV, ← hgB]
    exact heap_alloc_new W _
  have HVB : Hid (Below W.heap.size W V) := by
    rw [hV]
    exact hide (alloc_below W _)
  have HGV := hide (HO.out.below HVB.out)
  have z0 : V.cell? ⟨gB, 0, none⟩ = some (.int .i64 parts) := by simp [World.cell?, hv1]
  have z1 : V.cell? ⟨gB, 1, none⟩ = some (.slice p os.length cap) := by simp [World.cell?, hv1]
  have fin : ∀ w' : World, Below V.heap.size V w' → Below W.heap.size W w' := fun w' hb => HVB.out.trans (hb.mono HVB.out.size)
  have HFIN := hide fin
  have fin2 : ∀ w' : World, Below V.heap.size V w' → Below gB W w' := fun w' hb => hgB ▸ fin w' hb
  have HFIN2 := hide fin2
  try rw [hgB]
  clear hV hv1 a1 a2 a3 fin fin2
  go_loopw [4] (fun i wr => ∃ (k : Nat), k ≤ os.length ∧ i = .int .i64 (k : Int) ∧ Hid ((scanS parts ((os.map OV.o).take k)).bad = none) ∧ Hid (Below V.heap.size V wr)) (fun i _ => os.length - (intOf i).toNat)
  case atStart => exact ⟨0, Nat.zero_le _, rfl, hide rfl, hide (Below.refl _ _)⟩
  case round =>
    obtain ⟨k, hk, rfl, HS, HB⟩ := hrel
    have v0 := cell_later HB.out z0
    have v1 := cell_later HB.out z1
    by_cases hlt : k < os.length
    · obtain ⟨g, o, rfl, hc⟩ := (HGV.out.below HB.out).cell k hlt
      obtain ⟨x, hx⟩ : ∃ x, os[k]! = x := ⟨_, rfl⟩
      have hxm : x ∈ os := by rw [← hx, getElem!_pos os k hlt]; exact List.getElem_mem _
      have HXO := hide ((HGV.out.below HB.out).ok x hxm)
      rw [hx] at hc
      have HKL : Hid (k < (os.map OV.o).length) := hide (by simpa using hlt)
      have HXE := hide hx
      have HMO : Hid ((os.map OV.o)[k]! = x.o) := hide (by rw [getO os hlt, hx])
      obtain ⟨⟨kd, pt, fn, ar, ins⟩, ip, ic⟩ := x
      have HR : Hid (rOneC parts (os.map OV.o) k = if 1 ≤ kd ∧ kd ≤ 9 then (if fieldsC kd pt fn ar parts = true then (if insC ⟨kd, pt, fn, ar, ins⟩ ((os.map OV.o).take k) = true then (if ins.all (fun e => decide (manyC ((os.map OV.o).take (k + 1)) e ≤ 1)) = true then 0 else 53) else 52) else 51) else 50) := by
        refine hide ?_
        unfold rOneC
        rw [HMO.out]
      have hic := HXO.out.le
      have hit := HXO.out.top
      simp only at hic hit
      have d0 : wr.cell? ⟨g, o + k * 5, none⟩ = some (.int .i64 kd) := hc 0 (by omega)
      have d1 : wr.cell? ⟨g, o + k * 5 + 1, none⟩ = some (.int .i64 pt) := hc 1 (by omega)
      have d2 : wr.cell? ⟨g, o + k * 5 + 2, none⟩ = some (.int .i64 fn) := hc 2 (by omega)
      have d3 : wr.cell? ⟨g, o + k * 5 + 3, none⟩ = some (.int .i64 ar) := hc 3 (by omega)
      have d4 : wr.cell? ⟨g, o + k * 5 + 4, none⟩ = some (.slice ip ins.length ic) := hc 4 (by omega)
      have hb1 := alloc_below wr (.cells #[.int .i64 kd, .int .i64 pt, .int .i64 fn, .int .i64 ar, .slice ip ins.length ic] 95 (0, 0))
      obtain ⟨wx, hwx⟩ : ∃ wx, wx = wr.alloc (.cells #[.int .i64 kd, .int .i64 pt, .int .i64 fn, .int .i64 ar, .slice ip ins.length ic] 95 (0, 0)) := ⟨_, rfl⟩
      rw [← hwx] at hb1
      have hbx : wx.heap[wr.heap.size]? = some (.cells #[.int .i64 kd, .int .i64 pt, .int .i64 fn, .int .i64 ar, .slice ip ins.length ic] 95 (0, 0)) := by rw [hwx]; exact heap_alloc_new _ _
      obtain ⟨xB, hxB⟩ : ∃ xB, wr.heap.size = xB := ⟨_, rfl⟩
      rw [hxB] at hbx
      have HBx : Hid (Below V.heap.size V wx) := hide (HB.out.trans (hb1.mono HB.out.size))
      have y0 : wx.cell? ⟨xB, 0, none⟩ = some (.int .i64 kd) := by simp [World.cell?, hbx]
      have y1 : wx.cell? ⟨xB, 1, none⟩ = some (.int .i64 pt) := by simp [World.cell?, hbx]
      have y2 : wx.cell? ⟨xB, 2, none⟩ = some (.int .i64 fn) := by simp [World.cell?, hbx]
      have y3 : wx.cell? ⟨xB, 3, none⟩ = some (.int .i64 ar) := by simp [World.cell?, hbx]
      have y4 : wx.cell? ⟨xB, 4, none⟩ = some (.slice ip ins.length ic) := by simp [World.cell?, hbx]
      have x0 := cell_later HBx.out z0
      have x1 := cell_later HBx.out z1
      have HGX := hide (HGV.out.below HBx.out)
      have HXX := hide (HXO.out.below hb1)
      have HWX := hide hwx
      clear hb1 hbx hc hx hxm HMO
      go_upto_region 9 with fail
      rw [← HWX.out]
      clear HWX hwx d0 d1 d2 d3 d4 v0 v1
      try rw [hxB]
      clear hxB
      by_cases c1 : kd < 1
      · have HQ := hide (check_hit HP.out HL.out HKL.out HS.out (by rw [HR.out, if_neg (by omega)]) (by decide))
        go_wp2
        go_ret2
        exact ⟨by rw [← HRC.out, HQ.out]; rfl, by first | exact HFIN.out _ HBx.out | exact HFIN2.out _ HBx.out⟩
      by_cases c2 : 9 < kd
      · have HQ := hide (check_hit HP.out HL.out HKL.out HS.out (by rw [HR.out, if_neg (by omega)]) (by decide))
        go_wp2
        go_ret2
        exact ⟨by rw [← HRC.out, HQ.out]; rfl, by first | exact HFIN.out _ HBx.out | exact HFIN2.out _ HBx.out⟩
      rw [if_pos (show 1 ≤ kd ∧ kd ≤ 9 by omega)] at HR
      go_wp2_with fail
      refine rfields_any.mono ?_
      rintro _ w1 ⟨rfl, b1⟩
      clear c1 c2
      cases hfc : fieldsC kd pt fn ar parts with
      | false =>
        have HQ := hide (check_hit HP.out HL.out HKL.out HS.out (by rw [HR.out, hfc, if_neg (by decide)]) (by decide))
        have HB1 : Hid (Below V.heap.size V w1) := hide (HBx.out.trans (b1.mono HBx.out.size))
        clear b1 hfc
        go_wp2
        go_ret2
        exact ⟨by rw [← HRC.out, HQ.out]; rfl, by first | exact HFIN.out _ HB1.out | exact HFIN2.out _ HB1.out⟩
      | true =>
        rw [if_pos hfc] at HR
        have HB1 : Hid (Below V.heap.size V w1) := hide (HBx.out.trans (b1.mono HBx.out.size))
        have p4 := cell_later b1 y4
        have q0 := cell_later b1 x0
        have q1 := cell_later b1 x1
        have HX1 := hide (HXX.out.below b1)
        have HG1 := hide (HGV.out.below HB1.out)
        clear b1 hfc y0 y1 y2 y3 y4 x0 x1
        have HRI := hide (rins_any (parts := parts) HG1.out hlt)
        rw [HXE.out] at HRI
        go_wp2_with fail
        refine HRI.out.mono ?_
        rintro _ w2 ⟨rfl, b2⟩
        simp only
        cases hin : insC ⟨kd, pt, fn, ar, ins⟩ ((os.map OV.o).take k) with
        | false =>
          have HQ := hide (check_hit HP.out HL.out HKL.out HS.out (by rw [HR.out, hin, if_neg (by decide)]) (by decide))
          have HB2 : Hid (Below V.heap.size V w2) := hide (HB1.out.trans (b2.mono HB1.out.size))
          clear b2 hin HRI
          go_wp2
          go_ret2
          exact ⟨by rw [← HRC.out, HQ.out]; rfl, by first | exact HFIN.out _ HB2.out | exact HFIN2.out _ HB2.out⟩
        | true =>
          rw [if_pos hin] at HR
          have hil := ins_four hin
          simp only at hil
          have HB2 : Hid (Below V.heap.size V w2) := hide (HB1.out.trans (b2.mono HB1.out.size))
          have f4 := cell_later b2 p4
          have HX2 := hide (HX1.out.below b2)
          have HI4 : Hid (∀ i, i < k + 1 → (os[i]!).o.ins.length ≤ 4) := by
            refine hide (fun i hi => ?_)
            by_cases e : i = k
            · subst e; rw [HXE.out]; exact hil
            · exact scan_four (by omega) HS.out i (by omega)
          clear b2 hin HRI p4 q0 q1
          go_wp2_with fail
          go_loopw [6] (fun i wq => ∃ (j : Nat), j ≤ ins.length ∧ i = .int .i64 (j : Int) ∧ Hid ((ins.take j).all (fun e => decide (manyC ((os.map OV.o).take (k + 1)) e ≤ 1)) = true) ∧ Hid (Below w2.heap.size w2 wq)) (fun i _ => ins.length - (intOf i).toNat)
          case atStart => exact ⟨0, Nat.zero_le _, rfl, hide rfl, hide (Below.refl _ _)⟩
          case round =>
            obtain ⟨j, hj, rfl, HA, HBj⟩ := hrel
            rename World => wq
            have HBV : Hid (Below V.heap.size V wq) := hide (HB2.out.trans (HBj.out.mono HB2.out.size))
            have r0 := cell_later HBV.out z0
            have r1 := cell_later HBV.out z1
            have r4 := cell_later HBj.out f4
            by_cases hjl : j < ins.length
            · obtain ⟨g3, o3, he3, t0, t1⟩ := (ERow.below HX2.out HBj.out).cell j hjl
              try simp only at he3 t0 t1
              subst he3
              obtain ⟨y, hy⟩ : ∃ y, ins[j]! = y := ⟨_, rfl⟩
              rw [hy] at t0 t1
              obtain ⟨M, hM⟩ : ∃ M, manyC ((os.map OV.o).take (k + 1)) y = M := ⟨_, rfl⟩
              have HAJ : Hid ((ins.take (j + 1)).all (fun e => decide (manyC ((os.map OV.o).take (k + 1)) e ≤ 1)) = decide (M ≤ 1)) := by
                refine hide ?_
                rw [all_snoc hjl, HA.out, hy, hM]
                rfl
              have HAN : Hid (¬ M ≤ 1 → ins.all (fun e => decide (manyC ((os.map OV.o).take (k + 1)) e ≤ 1)) = false) := by
                refine hide (fun h => all_no hjl ?_)
                rw [hy, hM]
                exact decide_eq_false h
              obtain ⟨yf, yp⟩ := y
              try simp only at t0 t1
              have HMM := hide hM
              have HMA : Hid (∀ X, Below wq.heap.size wq X → Calls Tryz.prog 84 #[.agg #[.int .i64 parts, .slice (some ⟨g, o, none⟩) os.length cap], .int .i64 ((k : Int) + 1), .agg #[.int .i64 yf, .int .i64 yp]] X fun e w' => e = .returned (.int .i64 (M : Int)) ∧ Below X.heap.size X w') := by
                refine hide (fun X hX => ?_)
                have h := many_any (parts := parts) (ef := yf) (ep := yp) (n := k + 1) ((HGV.out.below HBV.out).below hX) (by omega) hl HI4.out
                rw [HMM.out] at h
                exact h
              have hwK : IntKind.i64.wrap ((k : Int) + 1) = (k : Int) + 1 := by rw [IntKind.wrap_i64]; omega
              clear hy hM
              go_upto_region 18 with fail
              by_cases c1 : 1 < M
              · have HQ := hide (check_hit HP.out HL.out HKL.out HS.out (by rw [HR.out, HAN.out (by omega), if_neg (by decide)]) (by decide))
                have cM : decide ((M : Int) > 1) = true := decide_eq_true (by omega)
                refine region_class (fun X => Below wq.heap.size wq X) (by kernel_rfl) (by kernel_rfl) (Below.refl _ wq).drew ?_
                repeat
                  first
                    | (refine BigFrame.wpQuiet_skip (by rfl) ?_
                       simp only [Act.put, List.setIfInBounds_toArray, List.set_cons_zero, List.set_cons_succ])
                    | (refine BigFrame.wpQuiet_want (by rfl) (fun K hK => ?_)
                       unfold Oper.quiet
                       apply Exists.intro
                       refine ⟨fun X hX => ?_, hK _ ?_⟩
                       · have l0 := cell_later hX r0
                         have l1 := cell_later hX r1
                         have l2 := cell_later hX r4
                         have l3 := cell_later hX t0
                         have l4 := cell_later hX t1
                         first
                          | (go_simp; done)
                          | (go_simp; exact rfl)
                          | (go_simp
                             (go_at_call 84; refine (HMA.out X hX).mono ?_; rintro e w3 ⟨rfl, hb3⟩; exact ⟨rfl, hX.trans (hb3.mono hX.size)⟩))
                       clear hK K
                       simp only [Act.put, List.setIfInBounds_toArray, List.set_cons_zero, List.set_cons_succ])
                refine wpQuiet_nil (fun X hX => ?_)
                have HX3 : Hid (Below V.heap.size V X) := hide (HBV.out.trans (hX.mono HBV.out.size))
                have HX4 : Hid (Below w2.heap.size w2 X) := hide (HBj.out.trans (hX.mono HBj.out.size))
                clear hX
                go_wp2
                go_ret2
                exact ⟨by rw [← HRC.out, HQ.out]; rfl, by first | exact HFIN.out _ HX3.out | exact HFIN2.out _ HX3.out⟩
              · have cM : decide ((M : Int) > 1) = false := decide_eq_false (by omega)
                rw [decide_eq_true (by omega)] at HAJ
                refine region_class (fun X => Below wq.heap.size wq X) (by kernel_rfl) (by kernel_rfl) (Below.refl _ wq).drew ?_
                repeat
                  first
                    | (refine BigFrame.wpQuiet_skip (by rfl) ?_
                       simp only [Act.put, List.setIfInBounds_toArray, List.set_cons_zero, List.set_cons_succ])
                    | (refine BigFrame.wpQuiet_want (by rfl) (fun K hK => ?_)
                       unfold Oper.quiet
                       apply Exists.intro
                       refine ⟨fun X hX => ?_, hK _ ?_⟩
                       · have l0 := cell_later hX r0
                         have l1 := cell_later hX r1
                         have l2 := cell_later hX r4
                         have l3 := cell_later hX t0
                         have l4 := cell_later hX t1
                         first
                          | (go_simp; done)
                          | (go_simp; exact rfl)
                          | (go_simp
                             (go_at_call 84; refine (HMA.out X hX).mono ?_; rintro e w3 ⟨rfl, hb3⟩; exact ⟨rfl, hX.trans (hb3.mono hX.size)⟩))
                       clear hK K
                       simp only [Act.put, List.setIfInBounds_toArray, List.set_cons_zero, List.set_cons_succ])
                refine wpQuiet_nil (fun X hX => ?_)
                have HX3 : Hid (Below V.heap.size V X) := hide (HBV.out.trans (hX.mono HBV.out.size))
                have HX4 : Hid (Below w2.heap.size w2 X) := hide (HBj.out.trans (hX.mono HBj.out.size))
                clear hX
                go_wp2
                exact ⟨⟨j + 1, by omega, by go_num, HAJ, HX4⟩, by simp [intOf]; omega⟩
            · obtain rfl : j = ins.length := by omega
              have HAL := HA.out
              rw [List.take_length] at HAL
              have HNX := hide (check_next HKL.out HS.out (by rw [HR.out, if_pos HAL]))
              clear HAL
              go_wp2
              exact ⟨⟨k + 1, by omega, by go_num, HNX, HBV⟩, by simp [intOf]; omega⟩
    · obtain rfl : k = os.length := by omega
      have HSF : Hid ((scanS parts (os.map OV.o)).bad = none) := by
        have h1 := HS.out
        rw [show (os.map OV.o).take os.length = os.map OV.o from List.take_of_length_le (by simp)] at h1
        exact hide h1
      have HI4 : Hid (∀ i, i < os.length → (os[i]!).o.ins.length ≤ 4) := hide (scan_four (Nat.le_refl _) HS.out)
      clear HS
      obtain ⟨pn, hpn⟩ : ∃ pn : Nat, parts = (pn : Int) := ⟨parts.toNat, by have := HP.out; omega⟩
      subst hpn
      have hp1 : 1 ≤ pn := by have := HP.out; omega
      have hp4 : pn ≤ 4 := by have := HP.out; omega
      go_wp2_with fail
      clear v0 v1
      have HBW := HB
      go_loopw [7] (fun i w3 => ∃ (n : Nat), n ≤ os.length ∧ i = .int .i64 (n : Int) ∧ Hid (∀ j, j < n → looseP (os.map OV.o) j = false) ∧ Hid (Below V.heap.size V w3)) (fun i _ => os.length - (intOf i).toNat)
      case atStart => exact ⟨0, Nat.zero_le _, rfl, hide (fun j hj => absurd hj (Nat.not_lt_zero j)), HBW⟩
      case round =>
        obtain ⟨n, hn, rfl, HNL, HB3⟩ := hrel
        rename World => w3
        have v0 := cell_later HB3.out z0
        have v1 := cell_later HB3.out z1
        by_cases hlt2 : n < os.length
        · obtain ⟨g, o, rfl, _⟩ := HGV.out.cell n hlt2
          obtain ⟨x, hx⟩ : ∃ x, os[n]! = x := ⟨_, rfl⟩
          have HMO : Hid ((os.map OV.o)[n]! = x.o) := hide (by rw [getO os hlt2, hx])
          have HXE := hide hx
          obtain ⟨⟨kd, pt, fn, ar, ins⟩, ip, ic⟩ := x
          obtain ⟨PT, hPT⟩ : ∃ PT : Nat, portsC kd ar = (PT : Int) := ⟨(portsC kd ar).toNat, by have := (portsC_le kd ar).1; omega⟩
          have hpt4 : PT ≤ 4 := by have := (portsC_le kd ar).2; omega
          have HPT := hide hPT
          have HLP : Hid (looseP (os.map OV.o) n = (List.range PT).any (fun p => manyC (os.map OV.o) ⟨(n : Int), (p : Int)⟩ == 0)) := by
            refine hide ?_
            unfold looseP portsO
            rw [HMO.out]
            simp only [hPT, Int.toNat_natCast]
          clear hx hPT HMO
          go_wp2_with fail
          clear v0 v1
          go_loopw [8] (fun i w4 => ∃ (q : Nat), q ≤ PT ∧ i = .int .i64 (q : Int) ∧ Hid (∀ r, r < q → manyC (os.map OV.o) ⟨(n : Int), (r : Int)⟩ ≠ 0) ∧ Hid (Below V.heap.size V w4)) (fun i _ => PT - (intOf i).toNat)
          case atStart => exact ⟨0, Nat.zero_le _, rfl, hide (fun r hr => absurd hr (Nat.not_lt_zero r)), HB3⟩
          case round =>
            obtain ⟨q, hq, rfl, HNM, HB4⟩ := hrel
            rename World => w4
            have v0 := cell_later HB4.out z0
            have v1 := cell_later HB4.out z1
            obtain ⟨g2, o2, he2, hc⟩ := (HGV.out.below HB4.out).cell n hlt2
            injection he2 with he2
            injection he2 with he3 he4
            subst he3 he4
            rw [HXE.out] at hc
            have d0 : w4.cell? ⟨g, o + n * 5, none⟩ = some (.int .i64 kd) := hc 0 (by omega)
            have d1 : w4.cell? ⟨g, o + n * 5 + 1, none⟩ = some (.int .i64 pt) := hc 1 (by omega)
            have d2 : w4.cell? ⟨g, o + n * 5 + 2, none⟩ = some (.int .i64 fn) := hc 2 (by omega)
            have d3 : w4.cell? ⟨g, o + n * 5 + 3, none⟩ = some (.int .i64 ar) := hc 3 (by omega)
            have d4 : w4.cell? ⟨g, o + n * 5 + 4, none⟩ = some (.slice ip ins.length ic) := hc 4 (by omega)
            clear hc
            go_wp2_with fail
            refine rports_any.mono ?_
            rintro _ w5 ⟨rfl, b5⟩
            rw [HPT.out]
            have HB5 : Hid (Below V.heap.size V w5) := hide (HB4.out.trans (b5.mono HB4.out.size))
            clear b5 v0 v1 d0 d1 d2 d3 d4
            have v0 := cell_later HB5.out z0
            have v1 := cell_later HB5.out z1
            by_cases hql : q < PT
            · obtain ⟨M, hM⟩ : ∃ M, manyC (os.map OV.o) ⟨(n : Int), (q : Int)⟩ = M := ⟨_, rfl⟩
              have HMM := hide hM
              have HMA : Hid (Calls Tryz.prog 84 #[.agg #[.int .i64 (pn : Int), .slice (some ⟨g, o, none⟩) os.length cap], .int .i64 (os.length : Int), .agg #[.int .i64 (n : Int), .int .i64 (q : Int)]] w5 fun e w' => e = .returned (.int .i64 (M : Int)) ∧ Below w5.heap.size w5 w') := by
                have h := many_any (parts := (pn : Int)) (ef := (n : Int)) (ep := (q : Int)) (n := os.length) (HGV.out.below HB5.out) (Nat.le_refl _) hl HI4.out
                rw [show (os.map OV.o).take os.length = os.map OV.o from List.take_of_length_le (by simp), hM] at h
                exact hide h
              clear hM
              go_wp2_with fail
              refine HMA.out.mono ?_
              rintro _ w6 ⟨rfl, b6⟩
              have HB6 : Hid (Below V.heap.size V w6) := hide (HB5.out.trans (b6.mono HB5.out.size))
              clear b6
              by_cases c0 : M = 0
              · subst c0
                have HQ := hide (check_loose HP.out HL.out HSF.out (loose_hit (n := n) (by simpa using hlt2) HNL.out (by
                  rw [HLP.out, List.any_eq_true]
                  exact ⟨q, by simpa using hql, by rw [HMM.out]; rfl⟩)))
                go_wp2
                go_ret2
                exact ⟨by rw [← HRC.out, HQ.out]; rfl, by first | exact HFIN.out _ HB6.out | exact HFIN2.out _ HB6.out⟩
              · have cM : ((M : Int) == 0) = false := by simpa using c0
                have HNM2 : Hid (∀ r, r < q + 1 → manyC (os.map OV.o) ⟨(n : Int), (r : Int)⟩ ≠ 0) := by
                  refine hide (fun r hr => ?_)
                  by_cases e : r = q
                  · subst e; rw [HMM.out]; exact c0
                  · exact HNM.out r (by omega)
                clear c0
                go_wp2
                exact ⟨⟨q + 1, by omega, by go_num, HNM2, HB6⟩, by simp [intOf]; omega⟩
            · obtain rfl : q = PT := by omega
              have HNL2 : Hid (∀ j, j < n + 1 → looseP (os.map OV.o) j = false) := by
                refine hide (fun j hj => ?_)
                by_cases e : j = n
                · subst e
                  rw [HLP.out, List.any_eq_false]
                  intro r hr
                  rw [beq_iff_eq]
                  exact HNM.out r (by simpa using hr)
                · exact HNL.out j (by omega)
              go_wp2
              exact ⟨⟨n + 1, by omega, by go_num, HNL2, HB5⟩, by simp [intOf]; omega⟩
        · obtain rfl : n = os.length := by omega
          have HLN := hide (loose_none (os := os.map OV.o) (fun j hj => HNL.out j (by simpa using hj)))
          have HCE : Hid (∀ e, endsC pn (os.map OV.o) = e → checkC (pn : Int) (os.map OV.o) = (0, e)) := hide (fun e he => check_ends HP.out HL.out HSF.out HLN.out he)
          clear HNL
          have eT : (os.map OV.o).take os.length = os.map OV.o := List.take_of_length_le (by simp)
          have HET := hide eT
          clear eT
          go_wp2_with fail
          go_loopw [10, 9] (fun i s9 w4 => ∃ (j : Nat), j ≤ pn ∧ i = .int .i64 (j : Int) ∧ s9 = .int .i64 (if j = 0 then 0 else (sinkN (os.map OV.o) : Int)) ∧ w4 = w3 ∧ Hid ((List.range j).all (fun p => srcN (os.map OV.o) p == 1) = true)) (fun i _ _ => pn - (intOf i).toNat)
          case atStart => exact ⟨0, Nat.zero_le _, rfl, rfl, rfl, hide rfl⟩
          case round =>
            obtain ⟨j, hj, rfl, rfl, rfl, HAS⟩ := hrel
            rename World => w3
            by_cases hjl : j < pn
            · obtain ⟨S0, hS0⟩ : ∃ S0 : Int, (if j = 0 then 0 else (sinkN (os.map OV.o) : Int)) = S0 := ⟨_, rfl⟩
              rw [hS0]
              have HS0 := hide hS0
              clear hS0
              go_wp2_with fail
              go_loopw [12, 11, 9] (fun i s11 s9 w4 => ∃ (m : Nat) (C S : Nat), m ≤ os.length ∧ i = .int .i64 (m : Int) ∧ s11 = .int .i64 (C : Int) ∧ s9 = .int .i64 (S : Int) ∧ w4 = w3 ∧ Hid (srcN ((os.map OV.o).take m) j = C) ∧ Hid (skN j (sinkN ((os.map OV.o).take m)) (sinkN (os.map OV.o)) = S)) (fun i _ _ _ => os.length - (intOf i).toNat)
              case atStart =>
                refine ⟨0, 0, skN j 0 (sinkN (os.map OV.o)), Nat.zero_le _, rfl, rfl, ?_, rfl, hide rfl, hide rfl⟩
                rw [← HS0.out]
                unfold skN
                by_cases e : j = 0
                · rw [if_pos e, if_pos e]; rfl
                · rw [if_neg e, if_neg e]
              case round =>
                obtain ⟨m, C, S, hm, rfl, rfl, rfl, rfl, HC, HSk⟩ := hrel
                rename World => w3
                have hC24 : C ≤ 24 := by rw [← HC.out]; exact Nat.le_trans (srcN_le _ _) (by simp; omega)
                have hS24 : S ≤ 24 := by
                  rw [← HSk.out]
                  unfold skN
                  split
                  · exact Nat.le_trans (sinkN_le _) (by simp; omega)
                  · exact Nat.le_trans (sinkN_le _) HL.out
                by_cases hml : m < os.length
                · obtain ⟨g, o, rfl, hc⟩ := (HGV.out.below HB3.out).cell m hml
                  obtain ⟨x, hx⟩ : ∃ x, os[m]! = x := ⟨_, rfl⟩
                  rw [hx] at hc
                  have HTK : Hid ((os.map OV.o).take (m + 1) = (os.map OV.o).take m ++ [x.o]) := by
                    refine hide ?_
                    rw [takeS (by simpa using hml), getO os hml, hx]
                  have HC2 : Hid (srcN ((os.map OV.o).take (m + 1)) j = C + (if x.o.kind = 1 ∧ x.o.part = (j : Int) then 1 else 0)) := by
                    refine hide ?_
                    rw [HTK.out, srcN_snoc, HC.out]
                  have HK2 : Hid (skN j (sinkN ((os.map OV.o).take (m + 1))) (sinkN (os.map OV.o)) = S + (if j = 0 ∧ x.o.kind = 9 then 1 else 0)) := by
                    refine hide ?_
                    have h := HSk.out
                    unfold skN at h ⊢
                    by_cases e : j = 0
                    · rw [if_pos e] at h ⊢
                      rw [HTK.out, sinkN_snoc, h]
                      simp [e]
                    · rw [if_neg e] at h ⊢
                      rw [h]
                      simp [e]
                  obtain ⟨⟨kd, pt, fn, ar, ins⟩, ip, ic⟩ := x
                  have d0 : w3.cell? ⟨g, o + m * 5, none⟩ = some (.int .i64 kd) := hc 0 (by omega)
                  have d1 : w3.cell? ⟨g, o + m * 5 + 1, none⟩ = some (.int .i64 pt) := hc 1 (by omega)
                  simp only at HC2 HK2
                  clear hc hx HTK
                  by_cases k1 : kd = 1
                  · subst k1
                    by_cases pj : pt = (j : Int)
                    · subst pj
                      rw [if_pos ⟨rfl, rfl⟩] at HC2
                      by_cases j0 : j = 0
                      · subst j0
                        rw [if_neg (by omega)] at HK2
                        go_wp2
                        exact ⟨⟨m + 1, C + 1, S, by omega, by go_num, by first | rfl | go_num, by first | rfl | go_num, trivial, HC2, HK2⟩, by simp [intOf]; omega⟩
                      · have cj : ((j : Int) == 0) = false := by simpa using j0
                        rw [if_neg (fun h => j0 h.1)] at HK2
                        clear j0
                        go_wp2
                        exact ⟨⟨m + 1, C + 1, S, by omega, by go_num, by first | rfl | go_num, by first | rfl | go_num, trivial, HC2, HK2⟩, by simp [intOf]; omega⟩
                    · have cp := ne_eq pj
                      rw [if_neg (fun h => pj h.2)] at HC2
                      clear pj
                      by_cases j0 : j = 0
                      · subst j0
                        rw [if_neg (by omega)] at HK2
                        go_wp2
                        exact ⟨⟨m + 1, C, S, by omega, by go_num, by first | rfl | go_num, by first | rfl | go_num, trivial, HC2, HK2⟩, by simp [intOf]; omega⟩
                      · have cj : ((j : Int) == 0) = false := by simpa using j0
                        rw [if_neg (fun h => j0 h.1)] at HK2
                        clear j0
                        go_wp2
                        exact ⟨⟨m + 1, C, S, by omega, by go_num, by first | rfl | go_num, by first | rfl | go_num, trivial, HC2, HK2⟩, by simp [intOf]; omega⟩
                  · have c1 := ne_eq k1
                    rw [if_neg (fun h => k1 h.1)] at HC2
                    clear k1
                    by_cases j0 : j = 0
                    · subst j0
                      by_cases k9 : kd = 9
                      · subst k9
                        rw [if_pos ⟨rfl, rfl⟩] at HK2
                        go_wp2
                        exact ⟨⟨m + 1, C, S + 1, by omega, by go_num, by first | rfl | go_num, by first | rfl | go_num, trivial, HC2, HK2⟩, by simp [intOf]; omega⟩
                      · have c9 := ne_eq k9
                        rw [if_neg (fun h => k9 h.2)] at HK2
                        clear k9
                        go_wp2
                        exact ⟨⟨m + 1, C, S, by omega, by go_num, by first | rfl | go_num, by first | rfl | go_num, trivial, HC2, HK2⟩, by simp [intOf]; omega⟩
                    · have cj : ((j : Int) == 0) = false := by simpa using j0
                      rw [if_neg (fun h => j0 h.1)] at HK2
                      clear j0
                      go_wp2
                      exact ⟨⟨m + 1, C, S, by omega, by go_num, by first | rfl | go_num, by first | rfl | go_num, trivial, HC2, HK2⟩, by simp [intOf]; omega⟩
                · obtain rfl : m = os.length := by omega
                  rw [HET.out] at HC HSk
                  by_cases cC : C = 1
                  · have e1 : ((C : Int) != 1) = false := by simp [cC]
                    have HAS2 : Hid ((List.range (j + 1)).all (fun p => srcN (os.map OV.o) p == 1) = true) := by
                      refine hide ?_
                      rw [List.range_succ, List.all_append, HAS.out]
                      simp [HC.out, cC]
                    have HS2 : Hid ((sinkN (os.map OV.o) : Int) = (S : Int)) := by
                      have h := HSk.out
                      unfold skN at h
                      rw [ite_self] at h
                      exact hide (by rw [h])
                    clear cC
                    go_wp2
                    exact ⟨⟨j + 1, by omega, by go_num, by rw [if_neg (by omega), HS2.out], trivial, HAS2⟩, by simp [intOf]; omega⟩
                  · have e1 : ((C : Int) != 1) = true := by simp; omega
                    have HQ := hide (HCE.out 55 (by
                      unfold endsC
                      rw [if_neg]
                      intro h
                      rw [List.all_eq_true] at h
                      have := h j (by simpa using hjl)
                      rw [HC.out] at this
                      simp [cC] at this))
                    clear cC
                    go_wp2
                    go_ret2
                    exact ⟨by rw [← HRC.out, HQ.out]; rfl, by first | exact HFIN.out _ HB3.out | exact HFIN2.out _ HB3.out⟩
            · obtain rfl : j = pn := by omega
              rw [if_neg (by omega)]
              obtain ⟨S, hS⟩ : ∃ S, sinkN (os.map OV.o) = S := ⟨_, rfl⟩
              rw [hS]
              by_cases cS : S = 1
              · have e1 : ((S : Int) != 1) = false := by simp [cS]
                have HQ := hide (HCE.out 0 (by unfold endsC; rw [if_pos HAS.out, hS, if_pos cS]))
                clear cS hS
                go_wp2
                go_ret2
                exact ⟨by rw [← HRC.out, HQ.out]; rfl, by first | exact HFIN.out _ HB3.out | exact HFIN2.out _ HB3.out⟩
              · have e1 : ((S : Int) != 1) = true := by simp; omega
                have HQ := hide (HCE.out 56 (by unfold endsC; rw [if_pos HAS.out, hS, if_neg cS]))
                clear cS hS
                go_wp2
                go_ret2
                exact ⟨by rw [← HRC.out, HQ.out]; rfl, by first | exact HFIN.out _ HB3.out | exact HFIN2.out _ HB3.out⟩
end Go.Proofs.YtlfipmieaabagaaGreat
