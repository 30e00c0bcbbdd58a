/-
  Which inputs an operator may have: the reference's inputs. The conditions: lengths.
-/
import Derived.Test.YtlfipmieaabagaaGreatGmy
namespace Go.Proofs.YtlfipmieaabagaaGreat
open Go.RowKit

attribute [local irreducible] wpQuiet in
set_option maxRecDepth 100000 in
set_option maxHeartbeats 8000000 in
theorem rinsB {W : World} {parts pt fn ar : Int} {ins : List GE} {ip : Option Addr} {ic : Nat} {p : Option Addr} {cap : Nat} {os : List OV} (ho : GRow W p cap os) {n : Nat} (hn : n < os.length) (hx : os[n]! = ⟨⟨8, pt, fn, ar, ins⟩, ip, ic⟩) :
    Calls Tryz.prog 83 #[.agg #[.int .i64 parts, .slice p os.length cap], .int .i64 (n : Int)] W fun e w' => e = .returned (.bool (decide ((2 : Int) ≤ (ins.length : Int) ∧ (ins.length : Int) ≤ 4) && ins.all (edgeC ((os.map OV.o).take n)))) ∧ Below W.heap.size W w' := by
  obtain ⟨rb, hrb⟩ : ∃ rb, (decide ((2 : Int) ≤ (ins.length : Int) ∧ (ins.length : Int) ≤ 4) && ins.all (edgeC ((os.map OV.o).take n))) = rb := ⟨_, rfl⟩
  rw [hrb]
  have HRB := hide hrb
  clear hrb
  have i3 := ho.le
  have i4 := ho.top
  have HO := hide ho
  have hxm : os[n]! ∈ os := by rw [getElem!_pos os n hn]; exact List.getElem_mem _
  have hxo := ho.ok _ hxm
  rw [hx] at hxo
  have i1 := hxo.le
  have i2 := hxo.top
  simp only at i1 i2
  have HX : Hid (ERow W ip ic ins) := hide hxo
  have HXE := hide hx
  clear ho hx hxm hxo
  go_enter Tryz.func83, Tryz.ntmps83
  go_upto_region 1 with fail
  obtain ⟨gB, hgB⟩ : ∃ gB, W.heap.size = gB := ⟨_, rfl⟩
  obtain ⟨V, hV⟩ : ∃ V, V = W.alloc (.cells #[.int .i64 parts, .slice p os.length cap] 24 (0, 0)) := ⟨_, rfl⟩
  rw [← hV]
  have hv1 : V.heap[gB]? = some (.cells #[.int .i64 parts, .slice p os.length cap] 24 (0, 0)) := by
    rw [hV, ← hgB]
    exact heap_alloc_new W _
  have HVB : Hid (Below W.heap.size W V) := by
    rw [hV]
    exact hide (alloc_below W _)
  have hvs : V.heap.size = gB + 1 := by rw [hV, ← hgB]; simp
  have HGV := hide (HO.out.below HVB.out)
  have z1 : V.cell? ⟨gB, 1, none⟩ = some (.slice p os.length cap) := by simp [World.cell?, hv1]
  obtain ⟨g, o, rfl, hc⟩ := HGV.out.cell n hn
  rw [HXE.out] at hc
  have d0 : V.cell? ⟨g, o + n * 5, none⟩ = some (.int .i64 8) := hc 0 (by omega)
  have d1 : V.cell? ⟨g, o + n * 5 + 1, none⟩ = some (.int .i64 pt) := hc 1 (by omega)
  have d2 : V.cell? ⟨g, o + n * 5 + 2, none⟩ = some (.int .i64 fn) := hc 2 (by omega)
  have d3 : V.cell? ⟨g, o + n * 5 + 3, none⟩ = some (.int .i64 ar) := hc 3 (by omega)
  have d4 : V.cell? ⟨g, o + n * 5 + 4, none⟩ = some (.slice ip ins.length ic) := hc 4 (by omega)
  try rw [hgB]
  clear hV hv1 hc
  go_upto_region 7 with fail
  obtain ⟨U, hU⟩ : ∃ U, U = V.alloc (.cells #[.int .i64 8, .int .i64 pt, .int .i64 fn, .int .i64 ar, .slice ip ins.length ic] 95) := ⟨_, rfl⟩
  rw [← hU]
  have hbU : Below V.heap.size V U := by rw [hU]; exact alloc_below V _
  have hu1 : U.heap[gB + 1]? = some (.cells #[.int .i64 8, .int .i64 pt, .int .i64 fn, .int .i64 ar, .slice ip ins.length ic] 95) := by
    rw [hU, ← hvs]
    exact heap_alloc_new V _
  have ug : U.cell? ⟨gB + 1, 4, none⟩ = some (.slice ip ins.length ic) := by simp [World.cell?, hu1]
  have uz := cell_later hbU z1
  have HUB : Hid (Below W.heap.size W U) := hide (HVB.out.trans (hbU.mono HVB.out.size))
  have HXU := hide (HX.out.below HUB.out)
  have HOU := hide (HO.out.below HUB.out)
  clear hU hbU hu1 d0 d1 d2 d3 d4 z1 hvs HGV HX HO HXE
  by_cases hs : ins.length < 2
  · have HP : Hid (decide ((2 : Int) ≤ (ins.length : Int) ∧ (ins.length : Int) ≤ 4) = false) := hide (decide_eq_false (by omega))
    go_wp2
    go_ret
    exact ⟨by rw [← HRB.out, HP.out]; rfl, by first | exact HUB.out | (rw [← hgB]; exact HUB.out)⟩
  by_cases hg :  4 < ins.length
  · have HP : Hid (decide ((2 : Int) ≤ (ins.length : Int) ∧ (ins.length : Int) ≤ 4) = false) := hide (decide_eq_false (by omega))
    go_wp2
    go_ret
    exact ⟨by rw [← HRB.out, HP.out]; rfl, by first | exact HUB.out | (rw [← hgB]; exact HUB.out)⟩
  · have HP : Hid (decide ((2 : Int) ≤ (ins.length : Int) ∧ (ins.length : Int) ≤ 4) = true) := hide (decide_eq_true (by omega))
    have hil : ins.length ≤ 4 := by omega
    go_wp2_with fail
    clear hg hs
    go_loopw [8] (fun i wr => ∃ (k : Nat), k ≤ ins.length ∧ i = .int .i64 (k : Int) ∧ Hid ((ins.take k).all (edgeC ((os.map OV.o).take n)) = true) ∧ Hid (Below U.heap.size U wr)) (fun i _ => ins.length - (intOf i).toNat)
    case atStart => exact ⟨0, Nat.zero_le _, rfl, hide rfl, hide (Below.refl _ _)⟩
    case round =>
      obtain ⟨k, hk, rfl, HA, HB⟩ := hrel
      have r4 := cell_later HB.out ug
      by_cases hlt : k < ins.length
      · obtain ⟨g3, o3, rfl, d0, d1⟩ := (HXU.out.below HB.out).cell k hlt
        obtain ⟨e, he⟩ : ∃ e, ins[k]! = e := ⟨_, rfl⟩
        rw [he] at d0 d1
        obtain ⟨ef, ep⟩ := e
        simp only at d0 d1
        have hb1 := alloc_below wr (.cells #[.int .i64 ef, .int .i64 ep] 119)
        obtain ⟨wx, hwx⟩ : ∃ wx, wx = wr.alloc (.cells #[.int .i64 ef, .int .i64 ep] 119) := ⟨_, rfl⟩
        rw [← hwx] at hb1
        have hbx : wx.heap[wr.heap.size]? = some (.cells #[.int .i64 ef, .int .i64 ep] 119) := by rw [hwx]; exact heap_alloc_new _ _
        obtain ⟨xB, hxB⟩ : ∃ xB, wr.heap.size = xB := ⟨_, rfl⟩
        rw [hxB] at hbx
        have y0 : wx.cell? ⟨xB, 0, none⟩ = some (.int .i64 ef) := by simp [World.cell?, hbx]
        have y1 : wx.cell? ⟨xB, 1, none⟩ = some (.int .i64 ep) := by simp [World.cell?, hbx]
        have HBx : Hid (Below U.heap.size U wx) := hide (HB.out.trans (hb1.mono HB.out.size))
        have yz := cell_later HBx.out uz
        have HWX := hide hwx
        have HE := hide he
        clear hb1 hbx he
        go_upto_region 13 with fail
        rw [← HWX.out]
        clear HWX hwx d0 d1
        try rw [hxB]
        clear hxB
        have HLN : Hid (((os.map OV.o).take n).length = n) := hide (by simp; omega)
        by_cases c1 : ef < 0
        · have HAL : Hid (ins.all (edgeC ((os.map OV.o).take n)) = false) := by
            refine hide (all_no hlt ?_)
            rw [HE.out]
            unfold edgeC
            simp only
            rw [decide_eq_false (by omega)]
            rfl
          refine region_class (fun X => Below wx.heap.size wx X) (by kernel_rfl) (by kernel_rfl) (Below.refl _ wx).drew ?_
          repeat
            first
              | (refine BigFrame.wpQuiet_skip (by rfl) ?_
                 simp only [Act.put, List.setIfInBounds_toArray, List.set_cons_zero, List.set_cons_succ])
              | (refine BigFrame.wpQuiet_want (by rfl) (fun K hK => ?_)
                 unfold Oper.quiet
                 apply Exists.intro
                 refine ⟨fun X hX => ?_, hK _ ?_⟩
                 · have f0 := cell_later hX y0
                   have f1 := cell_later hX y1
                   have f2 := cell_later hX yz
                   first
                    | (go_simp; done)
                    | (go_simp; exact rfl)
                    | (go_simp
                       (go_at_call 85; refine rports_any.mono ?_; rintro e w3 ⟨rfl, hb3⟩; exact ⟨rfl, hX.trans (hb3.mono hX.size)⟩))
                 clear hK K
                 simp only [Act.put, List.setIfInBounds_toArray, List.set_cons_zero, List.set_cons_succ])
          refine wpQuiet_nil (fun X hX => ?_)
          have HX2 : Hid (Below U.heap.size U X) := hide (HBx.out.trans (hX.mono HBx.out.size))
          clear hX
          go_wp2
          go_ret
          exact ⟨by rw [← HRB.out, HAL.out, Bool.and_false]; rfl, by have h := HUB.out.trans (HX2.out.mono HUB.out.size); first | exact h | (rw [← hgB]; exact h)⟩
        by_cases c2 : (n : Int) ≤ ef
        · have HAL : Hid (ins.all (edgeC ((os.map OV.o).take n)) = false) := by
            refine hide (all_no hlt ?_)
            rw [HE.out]
            unfold edgeC
            simp only [HLN.out]
            rw [decide_eq_false (by omega)]
            rfl
          refine region_class (fun X => Below wx.heap.size wx X) (by kernel_rfl) (by kernel_rfl) (Below.refl _ wx).drew ?_
          repeat
            first
              | (refine BigFrame.wpQuiet_skip (by rfl) ?_
                 simp only [Act.put, List.setIfInBounds_toArray, List.set_cons_zero, List.set_cons_succ])
              | (refine BigFrame.wpQuiet_want (by rfl) (fun K hK => ?_)
                 unfold Oper.quiet
                 apply Exists.intro
                 refine ⟨fun X hX => ?_, hK _ ?_⟩
                 · have f0 := cell_later hX y0
                   have f1 := cell_later hX y1
                   have f2 := cell_later hX yz
                   first
                    | (go_simp; done)
                    | (go_simp; exact rfl)
                    | (go_simp
                       (go_at_call 85; refine rports_any.mono ?_; rintro e w3 ⟨rfl, hb3⟩; exact ⟨rfl, hX.trans (hb3.mono hX.size)⟩))
                 clear hK K
                 simp only [Act.put, List.setIfInBounds_toArray, List.set_cons_zero, List.set_cons_succ])
          refine wpQuiet_nil (fun X hX => ?_)
          have HX2 : Hid (Below U.heap.size U X) := hide (HBx.out.trans (hX.mono HBx.out.size))
          clear hX
          go_wp2
          go_ret
          exact ⟨by rw [← HRB.out, HAL.out, Bool.and_false]; rfl, by have h := HUB.out.trans (HX2.out.mono HUB.out.size); first | exact h | (rw [← hgB]; exact h)⟩
        by_cases c3 : ep < 0
        · have HAL : Hid (ins.all (edgeC ((os.map OV.o).take n)) = false) := by
            refine hide (all_no hlt ?_)
            rw [HE.out]
            unfold edgeC
            simp only [HLN.out]
            rw [decide_eq_false (p := 0 ≤ ep ∧ _) (by omega)]
            simp
          refine region_class (fun X => Below wx.heap.size wx X) (by kernel_rfl) (by kernel_rfl) (Below.refl _ wx).drew ?_
          repeat
            first
              | (refine BigFrame.wpQuiet_skip (by rfl) ?_
                 simp only [Act.put, List.setIfInBounds_toArray, List.set_cons_zero, List.set_cons_succ])
              | (refine BigFrame.wpQuiet_want (by rfl) (fun K hK => ?_)
                 unfold Oper.quiet
                 apply Exists.intro
                 refine ⟨fun X hX => ?_, hK _ ?_⟩
                 · have f0 := cell_later hX y0
                   have f1 := cell_later hX y1
                   have f2 := cell_later hX yz
                   first
                    | (go_simp; done)
                    | (go_simp; exact rfl)
                    | (go_simp
                       (go_at_call 85; refine rports_any.mono ?_; rintro e w3 ⟨rfl, hb3⟩; exact ⟨rfl, hX.trans (hb3.mono hX.size)⟩))
                 clear hK K
                 simp only [Act.put, List.setIfInBounds_toArray, List.set_cons_zero, List.set_cons_succ])
          refine wpQuiet_nil (fun X hX => ?_)
          have HX2 : Hid (Below U.heap.size U X) := hide (HBx.out.trans (hX.mono HBx.out.size))
          clear hX
          go_wp2
          go_ret
          exact ⟨by rw [← HRB.out, HAL.out, Bool.and_false]; rfl, by have h := HUB.out.trans (HX2.out.mono HUB.out.size); first | exact h | (rw [← hgB]; exact h)⟩
        obtain ⟨fn', rfl⟩ : ∃ fn' : Nat, ef = (fn' : Int) := ⟨ef.toNat, by omega⟩
        have hfl : fn' < os.length := by omega
        obtain ⟨g2, o2, he2, hc⟩ := (HOU.out.below HBx.out).cell fn' hfl
        injection he2 with he2
        injection he2 with he3 he4
        subst he3 he4
        obtain ⟨z, hz⟩ : ∃ z, os[fn']! = z := ⟨_, rfl⟩
        rw [hz] at hc
        have x0 : wx.cell? ⟨g, o + fn' * 5, none⟩ = some (.int .i64 z.o.kind) := hc 0 (by omega)
        have x1 : wx.cell? ⟨g, o + fn' * 5 + 1, none⟩ = some (.int .i64 z.o.part) := hc 1 (by omega)
        have x2 : wx.cell? ⟨g, o + fn' * 5 + 2, none⟩ = some (.int .i64 z.o.fn) := hc 2 (by omega)
        have x3 : wx.cell? ⟨g, o + fn' * 5 + 3, none⟩ = some (.int .i64 z.o.arg) := hc 3 (by omega)
        have x4 : wx.cell? ⟨g, o + fn' * 5 + 4, none⟩ = some (.slice z.ip z.o.ins.length z.ic) := hc 4 (by omega)
        obtain ⟨PT, hPT⟩ : ∃ PT, portsC z.o.kind z.o.arg = PT := ⟨_, rfl⟩
        have HED : Hid (edgeC ((os.map OV.o).take n) ⟨(fn' : Int), ep⟩ = decide (0 ≤ ep ∧ ep ≤ PT - 1)) := by
          refine hide ?_
          have e1 : ((os.map OV.o).take n)[fn']! = z.o := by
            rw [getElem!_pos ((os.map OV.o).take n) fn' (by rw [HLN.out]; omega), List.getElem_take, ← getElem!_pos (os.map OV.o) fn' (by simpa using hfl), getO os hfl, hz]
          have e2 : decide (0 ≤ (fn' : Int) ∧ (fn' : Int) ≤ (n : Int) - 1) = true := decide_eq_true (by omega)
          unfold edgeC
          simp only [HLN.out, Int.toNat_natCast, e1, hPT, e2, Bool.true_and]
        have HPR : Hid (portsC z.o.kind z.o.arg = PT) := hide hPT
        clear hc hz hPT
        by_cases c4 : PT ≤ ep
        · have HAL : Hid (ins.all (edgeC ((os.map OV.o).take n)) = false) := by
            refine hide (all_no hlt ?_)
            rw [HE.out, HED.out, decide_eq_false (by omega)]
          refine region_class (fun X => Below wx.heap.size wx X) (by kernel_rfl) (by kernel_rfl) (Below.refl _ wx).drew ?_
          repeat
            first
              | (refine BigFrame.wpQuiet_skip (by rfl) ?_
                 simp only [Act.put, List.setIfInBounds_toArray, List.set_cons_zero, List.set_cons_succ])
              | (refine BigFrame.wpQuiet_want (by rfl) (fun K hK => ?_)
                 unfold Oper.quiet
                 apply Exists.intro
                 refine ⟨fun X hX => ?_, hK _ ?_⟩
                 · have f0 := cell_later hX y0
                   have f1 := cell_later hX y1
                   have f2 := cell_later hX yz
                   have t0 := cell_later hX x0
                   have t1 := cell_later hX x1
                   have t2 := cell_later hX x2
                   have t3 := cell_later hX x3
                   have t4 := cell_later hX x4
                   first
                    | (go_simp; done)
                    | (go_simp; exact rfl)
                    | (go_simp
                       (go_at_call 85; refine rports_any.mono ?_; rintro e w3 ⟨rfl, hb3⟩; rw [HPR.out]; exact ⟨rfl, hX.trans (hb3.mono hX.size)⟩))
                 clear hK K
                 simp only [Act.put, List.setIfInBounds_toArray, List.set_cons_zero, List.set_cons_succ])
          refine wpQuiet_nil (fun X hX => ?_)
          have HX2 : Hid (Below U.heap.size U X) := hide (HBx.out.trans (hX.mono HBx.out.size))
          clear hX
          go_wp2
          go_ret
          exact ⟨by rw [← HRB.out, HAL.out, Bool.and_false]; rfl, by have h := HUB.out.trans (HX2.out.mono HUB.out.size); first | exact h | (rw [← hgB]; exact h)⟩
        · have HAL : Hid ((ins.take (k + 1)).all (edgeC ((os.map OV.o).take n)) = true) := by
            refine hide ?_
            rw [all_snoc hlt, HA.out, HE.out, HED.out, decide_eq_true (by omega)]
            rfl
          refine region_class (fun X => Below wx.heap.size wx X) (by kernel_rfl) (by kernel_rfl) (Below.refl _ wx).drew ?_
          repeat
            first
              | (refine BigFrame.wpQuiet_skip (by rfl) ?_
                 simp only [Act.put, List.setIfInBounds_toArray, List.set_cons_zero, List.set_cons_succ])
              | (refine BigFrame.wpQuiet_want (by rfl) (fun K hK => ?_)
                 unfold Oper.quiet
                 apply Exists.intro
                 refine ⟨fun X hX => ?_, hK _ ?_⟩
                 · have f0 := cell_later hX y0
                   have f1 := cell_later hX y1
                   have f2 := cell_later hX yz
                   have t0 := cell_later hX x0
                   have t1 := cell_later hX x1
                   have t2 := cell_later hX x2
                   have t3 := cell_later hX x3
                   have t4 := cell_later hX x4
                   first
                    | (go_simp; done)
                    | (go_simp; exact rfl)
                    | (go_simp
                       (go_at_call 85; refine rports_any.mono ?_; rintro e w3 ⟨rfl, hb3⟩; rw [HPR.out]; exact ⟨rfl, hX.trans (hb3.mono hX.size)⟩))
                 clear hK K
                 simp only [Act.put, List.setIfInBounds_toArray, List.set_cons_zero, List.set_cons_succ])
          refine wpQuiet_nil (fun X hX => ?_)
          have HX2 : Hid (Below U.heap.size U X) := hide (HBx.out.trans (hX.mono HBx.out.size))
          clear hX
          go_wp2
          exact ⟨⟨k + 1, by omega, by go_num, HAL, HX2⟩, by simp [intOf]; omega⟩
      · obtain rfl : k = ins.length := by omega
        have HAL : Hid (ins.all (edgeC ((os.map OV.o).take n)) = true) := by
          have := HA.out
          rw [List.take_length] at this
          exact hide this
        go_wp2
        go_ret
        exact ⟨by rw [← HRB.out, HAL.out, HP.out]; rfl, by have h := HUB.out.trans (HB.out.mono HUB.out.size); first | exact h | (rw [← hgB]; exact h)⟩

attribute [local irreducible] wpQuiet in
set_option maxRecDepth 100000 in
set_option maxHeartbeats 8000000 in
theorem rinsA {W : World} {parts pt fn ar : Int} {ins : List GE} {ip : Option Addr} {ic : Nat} {p : Option Addr} {cap : Nat} {os : List OV} (ho : GRow W p cap os) {n : Nat} (hn : n < os.length) (hx : os[n]! = ⟨⟨1, pt, fn, ar, ins⟩, ip, ic⟩) :
    Calls Tryz.prog 83 #[.agg #[.int .i64 parts, .slice p os.length cap], .int .i64 (n : Int)] W fun e w' => e = .returned (.bool (decide ((0 : Int) ≤ (ins.length : Int) ∧ (ins.length : Int) ≤ 0) && ins.all (edgeC ((os.map OV.o).take n)))) ∧ Below W.heap.size W w' := by
  obtain ⟨rb, hrb⟩ : ∃ rb, (decide ((0 : Int) ≤ (ins.length : Int) ∧ (ins.length : Int) ≤ 0) && ins.all (edgeC ((os.map OV.o).take n))) = rb := ⟨_, rfl⟩
  rw [hrb]
  have HRB := hide hrb
  clear hrb
  have i3 := ho.le
  have i4 := ho.top
  have HO := hide ho
  have hxm : os[n]! ∈ os := by rw [getElem!_pos os n hn]; exact List.getElem_mem _
  have hxo := ho.ok _ hxm
  rw [hx] at hxo
  have i1 := hxo.le
  have i2 := hxo.top
  simp only at i1 i2
  have HX : Hid (ERow W ip ic ins) := hide hxo
  have HXE := hide hx
  clear ho hx hxm hxo
  go_enter Tryz.func83, Tryz.ntmps83
  go_upto_region 1 with fail
  obtain ⟨gB, hgB⟩ : ∃ gB, W.heap.size = gB := ⟨_, rfl⟩
  obtain ⟨V, hV⟩ : ∃ V, V = W.alloc (.cells #[.int .i64 parts, .slice p os.length cap] 24 (0, 0)) := ⟨_, rfl⟩
  rw [← hV]
  have hv1 : V.heap[gB]? = some (.cells #[.int .i64 parts, .slice p os.length cap] 24 (0, 0)) := by
    rw [hV, ← hgB]
    exact heap_alloc_new W _
  have HVB : Hid (Below W.heap.size W V) := by
    rw [hV]
    exact hide (alloc_below W _)
  have hvs : V.heap.size = gB + 1 := by rw [hV, ← hgB]; simp
  have HGV := hide (HO.out.below HVB.out)
  have z1 : V.cell? ⟨gB, 1, none⟩ = some (.slice p os.length cap) := by simp [World.cell?, hv1]
  obtain ⟨g, o, rfl, hc⟩ := HGV.out.cell n hn
  rw [HXE.out] at hc
  have d0 : V.cell? ⟨g, o + n * 5, none⟩ = some (.int .i64 1) := hc 0 (by omega)
  have d1 : V.cell? ⟨g, o + n * 5 + 1, none⟩ = some (.int .i64 pt) := hc 1 (by omega)
  have d2 : V.cell? ⟨g, o + n * 5 + 2, none⟩ = some (.int .i64 fn) := hc 2 (by omega)
  have d3 : V.cell? ⟨g, o + n * 5 + 3, none⟩ = some (.int .i64 ar) := hc 3 (by omega)
  have d4 : V.cell? ⟨g, o + n * 5 + 4, none⟩ = some (.slice ip ins.length ic) := hc 4 (by omega)
  try rw [hgB]
  clear hV hv1 hc
  go_upto_region 7 with fail
  obtain ⟨U, hU⟩ : ∃ U, U = V.alloc (.cells #[.int .i64 1, .int .i64 pt, .int .i64 fn, .int .i64 ar, .slice ip ins.length ic] 95) := ⟨_, rfl⟩
  rw [← hU]
  have hbU : Below V.heap.size V U := by rw [hU]; exact alloc_below V _
  have hu1 : U.heap[gB + 1]? = some (.cells #[.int .i64 1, .int .i64 pt, .int .i64 fn, .int .i64 ar, .slice ip ins.length ic] 95) := by
    rw [hU, ← hvs]
    exact heap_alloc_new V _
  have ug : U.cell? ⟨gB + 1, 4, none⟩ = some (.slice ip ins.length ic) := by simp [World.cell?, hu1]
  have uz := cell_later hbU z1
  have HUB : Hid (Below W.heap.size W U) := hide (HVB.out.trans (hbU.mono HVB.out.size))
  have HXU := hide (HX.out.below HUB.out)
  have HOU := hide (HO.out.below HUB.out)
  clear hU hbU hu1 d0 d1 d2 d3 d4 z1 hvs HGV HX HO HXE
  by_cases hg : 0 < ins.length
  · have HP : Hid (decide ((0 : Int) ≤ (ins.length : Int) ∧ (ins.length : Int) ≤ 0) = false) := hide (decide_eq_false (by omega))
    go_wp2
    go_ret
    exact ⟨by rw [← HRB.out, HP.out]; rfl, by first | exact HUB.out | (rw [← hgB]; exact HUB.out)⟩
  · have HP : Hid (decide ((0 : Int) ≤ (ins.length : Int) ∧ (ins.length : Int) ≤ 0) = true) := hide (decide_eq_true (by omega))
    have hil : ins.length ≤ 4 := by omega
    go_wp2_with fail
    clear hg
    go_loopw [8] (fun i wr => ∃ (k : Nat), k ≤ ins.length ∧ i = .int .i64 (k : Int) ∧ Hid ((ins.take k).all (edgeC ((os.map OV.o).take n)) = true) ∧ Hid (Below U.heap.size U wr)) (fun i _ => ins.length - (intOf i).toNat)
    case atStart => exact ⟨0, Nat.zero_le _, rfl, hide rfl, hide (Below.refl _ _)⟩
    case round =>
      obtain ⟨k, hk, rfl, HA, HB⟩ := hrel
      have r4 := cell_later HB.out ug
      by_cases hlt : k < ins.length
      · obtain ⟨g3, o3, rfl, d0, d1⟩ := (HXU.out.below HB.out).cell k hlt
        obtain ⟨e, he⟩ : ∃ e, ins[k]! = e := ⟨_, rfl⟩
        rw [he] at d0 d1
        obtain ⟨ef, ep⟩ := e
        simp only at d0 d1
        have hb1 := alloc_below wr (.cells #[.int .i64 ef, .int .i64 ep] 119)
        obtain ⟨wx, hwx⟩ : ∃ wx, wx = wr.alloc (.cells #[.int .i64 ef, .int .i64 ep] 119) := ⟨_, rfl⟩
        rw [← hwx] at hb1
        have hbx : wx.heap[wr.heap.size]? = some (.cells #[.int .i64 ef, .int .i64 ep] 119) := by rw [hwx]; exact heap_alloc_new _ _
        obtain ⟨xB, hxB⟩ : ∃ xB, wr.heap.size = xB := ⟨_, rfl⟩
        rw [hxB] at hbx
        have y0 : wx.cell? ⟨xB, 0, none⟩ = some (.int .i64 ef) := by simp [World.cell?, hbx]
        have y1 : wx.cell? ⟨xB, 1, none⟩ = some (.int .i64 ep) := by simp [World.cell?, hbx]
        have HBx : Hid (Below U.heap.size U wx) := hide (HB.out.trans (hb1.mono HB.out.size))
        have yz := cell_later HBx.out uz
        have HWX := hide hwx
        have HE := hide he
        clear hb1 hbx he
        go_upto_region 13 with fail
        rw [← HWX.out]
        clear HWX hwx d0 d1
        try rw [hxB]
        clear hxB
        have HLN : Hid (((os.map OV.o).take n).length = n) := hide (by simp; omega)
        by_cases c1 : ef < 0
        · have HAL : Hid (ins.all (edgeC ((os.map OV.o).take n)) = false) := by
            refine hide (all_no hlt ?_)
            rw [HE.out]
            unfold edgeC
            simp only
            rw [decide_eq_false (by omega)]
            rfl
          refine region_class (fun X => Below wx.heap.size wx X) (by kernel_rfl) (by kernel_rfl) (Below.refl _ wx).drew ?_
          repeat
            first
              | (refine BigFrame.wpQuiet_skip (by rfl) ?_
                 simp only [Act.put, List.setIfInBounds_toArray, List.set_cons_zero, List.set_cons_succ])
              | (refine BigFrame.wpQuiet_want (by rfl) (fun K hK => ?_)
                 unfold Oper.quiet
                 apply Exists.intro
                 refine ⟨fun X hX => ?_, hK _ ?_⟩
                 · have f0 := cell_later hX y0
                   have f1 := cell_later hX y1
                   have f2 := cell_later hX yz
                   first
                    | (go_simp; done)
                    | (go_simp; exact rfl)
                    | (go_simp
                       (go_at_call 85; refine rports_any.mono ?_; rintro e w3 ⟨rfl, hb3⟩; exact ⟨rfl, hX.trans (hb3.mono hX.size)⟩))
                 clear hK K
                 simp only [Act.put, List.setIfInBounds_toArray, List.set_cons_zero, List.set_cons_succ])
          refine wpQuiet_nil (fun X hX => ?_)
          have HX2 : Hid (Below U.heap.size U X) := hide (HBx.out.trans (hX.mono HBx.out.size))
          clear hX
          go_wp2
          go_ret
          exact ⟨by rw [← HRB.out, HAL.out, Bool.and_false]; rfl, by have h := HUB.out.trans (HX2.out.mono HUB.out.size); first | exact h | (rw [← hgB]; exact h)⟩
        by_cases c2 : (n : Int) ≤ ef
        · have HAL : Hid (ins.all (edgeC ((os.map OV.o).take n)) = false) := by
            refine hide (all_no hlt ?_)
            rw [HE.out]
            unfold edgeC
            simp only [HLN.out]
            rw [decide_eq_false (by omega)]
            rfl
          refine region_class (fun X => Below wx.heap.size wx X) (by kernel_rfl) (by kernel_rfl) (Below.refl _ wx).drew ?_
          repeat
            first
              | (refine BigFrame.wpQuiet_skip (by rfl) ?_
                 simp only [Act.put, List.setIfInBounds_toArray, List.set_cons_zero, List.set_cons_succ])
              | (refine BigFrame.wpQuiet_want (by rfl) (fun K hK => ?_)
                 unfold Oper.quiet
                 apply Exists.intro
                 refine ⟨fun X hX => ?_, hK _ ?_⟩
                 · have f0 := cell_later hX y0
                   have f1 := cell_later hX y1
                   have f2 := cell_later hX yz
                   first
                    | (go_simp; done)
                    | (go_simp; exact rfl)
                    | (go_simp
                       (go_at_call 85; refine rports_any.mono ?_; rintro e w3 ⟨rfl, hb3⟩; exact ⟨rfl, hX.trans (hb3.mono hX.size)⟩))
                 clear hK K
                 simp only [Act.put, List.setIfInBounds_toArray, List.set_cons_zero, List.set_cons_succ])
          refine wpQuiet_nil (fun X hX => ?_)
          have HX2 : Hid (Below U.heap.size U X) := hide (HBx.out.trans (hX.mono HBx.out.size))
          clear hX
          go_wp2
          go_ret
          exact ⟨by rw [← HRB.out, HAL.out, Bool.and_false]; rfl, by have h := HUB.out.trans (HX2.out.mono HUB.out.size); first | exact h | (rw [← hgB]; exact h)⟩
        by_cases c3 : ep < 0
        · have HAL : Hid (ins.all (edgeC ((os.map OV.o).take n)) = false) := by
            refine hide (all_no hlt ?_)
            rw [HE.out]
            unfold edgeC
            simp only [HLN.out]
            rw [decide_eq_false (p := 0 ≤ ep ∧ _) (by omega)]
            simp
          refine region_class (fun X => Below wx.heap.size wx X) (by kernel_rfl) (by kernel_rfl) (Below.refl _ wx).drew ?_
          repeat
            first
              | (refine BigFrame.wpQuiet_skip (by rfl) ?_
                 simp only [Act.put, List.setIfInBounds_toArray, List.set_cons_zero, List.set_cons_succ])
              | (refine BigFrame.wpQuiet_want (by rfl) (fun K hK => ?_)
                 unfold Oper.quiet
                 apply Exists.intro
                 refine ⟨fun X hX => ?_, hK _ ?_⟩
                 · have f0 := cell_later hX y0
                   have f1 := cell_later hX y1
                   have f2 := cell_later hX yz
                   first
                    | (go_simp; done)
                    | (go_simp; exact rfl)
                    | (go_simp
                       (go_at_call 85; refine rports_any.mono ?_; rintro e w3 ⟨rfl, hb3⟩; exact ⟨rfl, hX.trans (hb3.mono hX.size)⟩))
                 clear hK K
                 simp only [Act.put, List.setIfInBounds_toArray, List.set_cons_zero, List.set_cons_succ])
          refine wpQuiet_nil (fun X hX => ?_)
          have HX2 : Hid (Below U.heap.size U X) := hide (HBx.out.trans (hX.mono HBx.out.size))
          clear hX
          go_wp2
          go_ret
          exact ⟨by rw [← HRB.out, HAL.out, Bool.and_false]; rfl, by have h := HUB.out.trans (HX2.out.mono HUB.out.size); first | exact h | (rw [← hgB]; exact h)⟩
        obtain ⟨fn', rfl⟩ : ∃ fn' : Nat, ef = (fn' : Int) := ⟨ef.toNat, by omega⟩
        have hfl : fn' < os.length := by omega
        obtain ⟨g2, o2, he2, hc⟩ := (HOU.out.below HBx.out).cell fn' hfl
        injection he2 with he2
        injection he2 with he3 he4
        subst he3 he4
        obtain ⟨z, hz⟩ : ∃ z, os[fn']! = z := ⟨_, rfl⟩
        rw [hz] at hc
        have x0 : wx.cell? ⟨g, o + fn' * 5, none⟩ = some (.int .i64 z.o.kind) := hc 0 (by omega)
        have x1 : wx.cell? ⟨g, o + fn' * 5 + 1, none⟩ = some (.int .i64 z.o.part) := hc 1 (by omega)
        have x2 : wx.cell? ⟨g, o + fn' * 5 + 2, none⟩ = some (.int .i64 z.o.fn) := hc 2 (by omega)
        have x3 : wx.cell? ⟨g, o + fn' * 5 + 3, none⟩ = some (.int .i64 z.o.arg) := hc 3 (by omega)
        have x4 : wx.cell? ⟨g, o + fn' * 5 + 4, none⟩ = some (.slice z.ip z.o.ins.length z.ic) := hc 4 (by omega)
        obtain ⟨PT, hPT⟩ : ∃ PT, portsC z.o.kind z.o.arg = PT := ⟨_, rfl⟩
        have HED : Hid (edgeC ((os.map OV.o).take n) ⟨(fn' : Int), ep⟩ = decide (0 ≤ ep ∧ ep ≤ PT - 1)) := by
          refine hide ?_
          have e1 : ((os.map OV.o).take n)[fn']! = z.o := by
            rw [getElem!_pos ((os.map OV.o).take n) fn' (by rw [HLN.out]; omega), List.getElem_take, ← getElem!_pos (os.map OV.o) fn' (by simpa using hfl), getO os hfl, hz]
          have e2 : decide (0 ≤ (fn' : Int) ∧ (fn' : Int) ≤ (n : Int) - 1) = true := decide_eq_true (by omega)
          unfold edgeC
          simp only [HLN.out, Int.toNat_natCast, e1, hPT, e2, Bool.true_and]
        have HPR : Hid (portsC z.o.kind z.o.arg = PT) := hide hPT
        clear hc hz hPT
        by_cases c4 : PT ≤ ep
        · have HAL : Hid (ins.all (edgeC ((os.map OV.o).take n)) = false) := by
            refine hide (all_no hlt ?_)
            rw [HE.out, HED.out, decide_eq_false (by omega)]
          refine region_class (fun X => Below wx.heap.size wx X) (by kernel_rfl) (by kernel_rfl) (Below.refl _ wx).drew ?_
          repeat
            first
              | (refine BigFrame.wpQuiet_skip (by rfl) ?_
                 simp only [Act.put, List.setIfInBounds_toArray, List.set_cons_zero, List.set_cons_succ])
              | (refine BigFrame.wpQuiet_want (by rfl) (fun K hK => ?_)
                 unfold Oper.quiet
                 apply Exists.intro
                 refine ⟨fun X hX => ?_, hK _ ?_⟩
                 · have f0 := cell_later hX y0
                   have f1 := cell_later hX y1
                   have f2 := cell_later hX yz
                   have t0 := cell_later hX x0
                   have t1 := cell_later hX x1
                   have t2 := cell_later hX x2
                   have t3 := cell_later hX x3
                   have t4 := cell_later hX x4
                   first
                    | (go_simp; done)
                    | (go_simp; exact rfl)
                    | (go_simp
                       (go_at_call 85; refine rports_any.mono ?_; rintro e w3 ⟨rfl, hb3⟩; rw [HPR.out]; exact ⟨rfl, hX.trans (hb3.mono hX.size)⟩))
                 clear hK K
                 simp only [Act.put, List.setIfInBounds_toArray, List.set_cons_zero, List.set_cons_succ])
          refine wpQuiet_nil (fun X hX => ?_)
          have HX2 : Hid (Below U.heap.size U X) := hide (HBx.out.trans (hX.mono HBx.out.size))
          clear hX
          go_wp2
          go_ret
          exact ⟨by rw [← HRB.out, HAL.out, Bool.and_false]; rfl, by have h := HUB.out.trans (HX2.out.mono HUB.out.size); first | exact h | (rw [← hgB]; exact h)⟩
        · have HAL : Hid ((ins.take (k + 1)).all (edgeC ((os.map OV.o).take n)) = true) := by
            refine hide ?_
            rw [all_snoc hlt, HA.out, HE.out, HED.out, decide_eq_true (by omega)]
            rfl
          refine region_class (fun X => Below wx.heap.size wx X) (by kernel_rfl) (by kernel_rfl) (Below.refl _ wx).drew ?_
          repeat
            first
              | (refine BigFrame.wpQuiet_skip (by rfl) ?_
                 simp only [Act.put, List.setIfInBounds_toArray, List.set_cons_zero, List.set_cons_succ])
              | (refine BigFrame.wpQuiet_want (by rfl) (fun K hK => ?_)
                 unfold Oper.quiet
                 apply Exists.intro
                 refine ⟨fun X hX => ?_, hK _ ?_⟩
                 · have f0 := cell_later hX y0
                   have f1 := cell_later hX y1
                   have f2 := cell_later hX yz
                   have t0 := cell_later hX x0
                   have t1 := cell_later hX x1
                   have t2 := cell_later hX x2
                   have t3 := cell_later hX x3
                   have t4 := cell_later hX x4
                   first
                    | (go_simp; done)
                    | (go_simp; exact rfl)
                    | (go_simp
                       (go_at_call 85; refine rports_any.mono ?_; rintro e w3 ⟨rfl, hb3⟩; rw [HPR.out]; exact ⟨rfl, hX.trans (hb3.mono hX.size)⟩))
                 clear hK K
                 simp only [Act.put, List.setIfInBounds_toArray, List.set_cons_zero, List.set_cons_succ])
          refine wpQuiet_nil (fun X hX => ?_)
          have HX2 : Hid (Below U.heap.size U X) := hide (HBx.out.trans (hX.mono HBx.out.size))
          clear hX
          go_wp2
          exact ⟨⟨k + 1, by omega, by go_num, HAL, HX2⟩, by simp [intOf]; omega⟩
      · obtain rfl : k = ins.length := by omega
        have HAL : Hid (ins.all (edgeC ((os.map OV.o).take n)) = true) := by
          have := HA.out
          rw [List.take_length] at this
          exact hide this
        go_wp2
        go_ret
        exact ⟨by rw [← HRB.out, HAL.out, HP.out]; rfl, by have h := HUB.out.trans (HB.out.mono HUB.out.size); first | exact h | (rw [← hgB]; exact h)⟩

attribute [local irreducible] wpQuiet in
set_option maxRecDepth 100000 in
set_option maxHeartbeats 8000000 in
theorem rinsD {W : World} {kd parts pt fn ar : Int} {ins : List GE} {ip : Option Addr} {ic : Nat} {p : Option Addr} {cap : Nat} {os : List OV} (ho : GRow W p cap os) {n : Nat} (hn : n < os.length) (hx : os[n]! = ⟨⟨kd, pt, fn, ar, ins⟩, ip, ic⟩) (k1 : kd ≠ 1) (k8 : kd ≠ 8) :
    Calls Tryz.prog 83 #[.agg #[.int .i64 parts, .slice p os.length cap], .int .i64 (n : Int)] W fun e w' => e = .returned (.bool (decide ((1 : Int) ≤ (ins.length : Int) ∧ (ins.length : Int) ≤ 1) && ins.all (edgeC ((os.map OV.o).take n)))) ∧ Below W.heap.size W w' := by
  obtain ⟨rb, hrb⟩ : ∃ rb, (decide ((1 : Int) ≤ (ins.length : Int) ∧ (ins.length : Int) ≤ 1) && ins.all (edgeC ((os.map OV.o).take n))) = rb := ⟨_, rfl⟩
  rw [hrb]
  have HRB := hide hrb
  clear hrb
  have i3 := ho.le
  have i4 := ho.top
  have HO := hide ho
  have hxm : os[n]! ∈ os := by rw [getElem!_pos os n hn]; exact List.getElem_mem _
  have hxo := ho.ok _ hxm
  rw [hx] at hxo
  have i1 := hxo.le
  have i2 := hxo.top
  simp only at i1 i2
  have HX : Hid (ERow W ip ic ins) := hide hxo
  have HXE := hide hx
  have c1 := ne_eq k1
  have c8 := ne_eq k8
  clear k1 k8
  clear ho hx hxm hxo
  go_enter Tryz.func83, Tryz.ntmps83
  go_upto_region 1 with fail
  obtain ⟨gB, hgB⟩ : ∃ gB, W.heap.size = gB := ⟨_, rfl⟩
  obtain ⟨V, hV⟩ : ∃ V, V = W.alloc (.cells #[.int .i64 parts, .slice p os.length cap] 24 (0, 0)) := ⟨_, rfl⟩
  rw [← hV]
  have hv1 : V.heap[gB]? = some (.cells #[.int .i64 parts, .slice p os.length cap] 24 (0, 0)) := by
    rw [hV, ← hgB]
    exact heap_alloc_new W _
  have HVB : Hid (Below W.heap.size W V) := by
    rw [hV]
    exact hide (alloc_below W _)
  have hvs : V.heap.size = gB + 1 := by rw [hV, ← hgB]; simp
  have HGV := hide (HO.out.below HVB.out)
  have z1 : V.cell? ⟨gB, 1, none⟩ = some (.slice p os.length cap) := by simp [World.cell?, hv1]
  obtain ⟨g, o, rfl, hc⟩ := HGV.out.cell n hn
  rw [HXE.out] at hc
  have d0 : V.cell? ⟨g, o + n * 5, none⟩ = some (.int .i64 kd) := hc 0 (by omega)
  have d1 : V.cell? ⟨g, o + n * 5 + 1, none⟩ = some (.int .i64 pt) := hc 1 (by omega)
  have d2 : V.cell? ⟨g, o + n * 5 + 2, none⟩ = some (.int .i64 fn) := hc 2 (by omega)
  have d3 : V.cell? ⟨g, o + n * 5 + 3, none⟩ = some (.int .i64 ar) := hc 3 (by omega)
  have d4 : V.cell? ⟨g, o + n * 5 + 4, none⟩ = some (.slice ip ins.length ic) := hc 4 (by omega)
  try rw [hgB]
  clear hV hv1 hc
  go_upto_region 7 with fail
  obtain ⟨U, hU⟩ : ∃ U, U = V.alloc (.cells #[.int .i64 kd, .int .i64 pt, .int .i64 fn, .int .i64 ar, .slice ip ins.length ic] 95) := ⟨_, rfl⟩
  rw [← hU]
  have hbU : Below V.heap.size V U := by rw [hU]; exact alloc_below V _
  have hu1 : U.heap[gB + 1]? = some (.cells #[.int .i64 kd, .int .i64 pt, .int .i64 fn, .int .i64 ar, .slice ip ins.length ic] 95) := by
    rw [hU, ← hvs]
    exact heap_alloc_new V _
  have ug : U.cell? ⟨gB + 1, 4, none⟩ = some (.slice ip ins.length ic) := by simp [World.cell?, hu1]
  have uz := cell_later hbU z1
  have HUB : Hid (Below W.heap.size W U) := hide (HVB.out.trans (hbU.mono HVB.out.size))
  have HXU := hide (HX.out.below HUB.out)
  have HOU := hide (HO.out.below HUB.out)
  clear hU hbU hu1 d0 d1 d2 d3 d4 z1 hvs HGV HX HO HXE
  by_cases hs : ins.length < 1
  · have HP : Hid (decide ((1 : Int) ≤ (ins.length : Int) ∧ (ins.length : Int) ≤ 1) = false) := hide (decide_eq_false (by omega))
    go_wp2
    go_ret
    exact ⟨by rw [← HRB.out, HP.out]; rfl, by first | exact HUB.out | (rw [← hgB]; exact HUB.out)⟩
  by_cases hg : 1 < ins.length
  · have HP : Hid (decide ((1 : Int) ≤ (ins.length : Int) ∧ (ins.length : Int) ≤ 1) = false) := hide (decide_eq_false (by omega))
    go_wp2
    go_ret
    exact ⟨by rw [← HRB.out, HP.out]; rfl, by first | exact HUB.out | (rw [← hgB]; exact HUB.out)⟩
  · have HP : Hid (decide ((1 : Int) ≤ (ins.length : Int) ∧ (ins.length : Int) ≤ 1) = true) := hide (decide_eq_true (by omega))
    have hil : ins.length ≤ 4 := by omega
    go_wp2_with fail
    clear hg hs
    go_loopw [8] (fun i wr => ∃ (k : Nat), k ≤ ins.length ∧ i = .int .i64 (k : Int) ∧ Hid ((ins.take k).all (edgeC ((os.map OV.o).take n)) = true) ∧ Hid (Below U.heap.size U wr)) (fun i _ => ins.length - (intOf i).toNat)
    case atStart => exact ⟨0, Nat.zero_le _, rfl, hide rfl, hide (Below.refl _ _)⟩
    case round =>
      obtain ⟨k, hk, rfl, HA, HB⟩ := hrel
      have r4 := cell_later HB.out ug
      by_cases hlt : k < ins.length
      · obtain ⟨g3, o3, rfl, d0, d1⟩ := (HXU.out.below HB.out).cell k hlt
        obtain ⟨e, he⟩ : ∃ e, ins[k]! = e := ⟨_, rfl⟩
        rw [he] at d0 d1
        obtain ⟨ef, ep⟩ := e
        simp only at d0 d1
        have hb1 := alloc_below wr (.cells #[.int .i64 ef, .int .i64 ep] 119)
        obtain ⟨wx, hwx⟩ : ∃ wx, wx = wr.alloc (.cells #[.int .i64 ef, .int .i64 ep] 119) := ⟨_, rfl⟩
        rw [← hwx] at hb1
        have hbx : wx.heap[wr.heap.size]? = some (.cells #[.int .i64 ef, .int .i64 ep] 119) := by rw [hwx]; exact heap_alloc_new _ _
        obtain ⟨xB, hxB⟩ : ∃ xB, wr.heap.size = xB := ⟨_, rfl⟩
        rw [hxB] at hbx
        have y0 : wx.cell? ⟨xB, 0, none⟩ = some (.int .i64 ef) := by simp [World.cell?, hbx]
        have y1 : wx.cell? ⟨xB, 1, none⟩ = some (.int .i64 ep) := by simp [World.cell?, hbx]
        have HBx : Hid (Below U.heap.size U wx) := hide (HB.out.trans (hb1.mono HB.out.size))
        have yz := cell_later HBx.out uz
        have HWX := hide hwx
        have HE := hide he
        clear hb1 hbx he
        go_upto_region 13 with fail
        rw [← HWX.out]
        clear HWX hwx d0 d1
        try rw [hxB]
        clear hxB
        have HLN : Hid (((os.map OV.o).take n).length = n) := hide (by simp; omega)
        by_cases c1 : ef < 0
        · have HAL : Hid (ins.all (edgeC ((os.map OV.o).take n)) = false) := by
            refine hide (all_no hlt ?_)
            rw [HE.out]
            unfold edgeC
            simp only
            rw [decide_eq_false (by omega)]
            rfl
          refine region_class (fun X => Below wx.heap.size wx X) (by kernel_rfl) (by kernel_rfl) (Below.refl _ wx).drew ?_
          repeat
            first
              | (refine BigFrame.wpQuiet_skip (by rfl) ?_
                 simp only [Act.put, List.setIfInBounds_toArray, List.set_cons_zero, List.set_cons_succ])
              | (refine BigFrame.wpQuiet_want (by rfl) (fun K hK => ?_)
                 unfold Oper.quiet
                 apply Exists.intro
                 refine ⟨fun X hX => ?_, hK _ ?_⟩
                 · have f0 := cell_later hX y0
                   have f1 := cell_later hX y1
                   have f2 := cell_later hX yz
                   first
                    | (go_simp; done)
                    | (go_simp; exact rfl)
                    | (go_simp
                       (go_at_call 85; refine rports_any.mono ?_; rintro e w3 ⟨rfl, hb3⟩; exact ⟨rfl, hX.trans (hb3.mono hX.size)⟩))
                 clear hK K
                 simp only [Act.put, List.setIfInBounds_toArray, List.set_cons_zero, List.set_cons_succ])
          refine wpQuiet_nil (fun X hX => ?_)
          have HX2 : Hid (Below U.heap.size U X) := hide (HBx.out.trans (hX.mono HBx.out.size))
          clear hX
          go_wp2
          go_ret
          exact ⟨by rw [← HRB.out, HAL.out, Bool.and_false]; rfl, by have h := HUB.out.trans (HX2.out.mono HUB.out.size); first | exact h | (rw [← hgB]; exact h)⟩
        by_cases c2 : (n : Int) ≤ ef
        · have HAL : Hid (ins.all (edgeC ((os.map OV.o).take n)) = false) := by
            refine hide (all_no hlt ?_)
            rw [HE.out]
            unfold edgeC
            simp only [HLN.out]
            rw [decide_eq_false (by omega)]
            rfl
          refine region_class (fun X => Below wx.heap.size wx X) (by kernel_rfl) (by kernel_rfl) (Below.refl _ wx).drew ?_
          repeat
            first
              | (refine BigFrame.wpQuiet_skip (by rfl) ?_
                 simp only [Act.put, List.setIfInBounds_toArray, List.set_cons_zero, List.set_cons_succ])
              | (refine BigFrame.wpQuiet_want (by rfl) (fun K hK => ?_)
                 unfold Oper.quiet
                 apply Exists.intro
                 refine ⟨fun X hX => ?_, hK _ ?_⟩
                 · have f0 := cell_later hX y0
                   have f1 := cell_later hX y1
                   have f2 := cell_later hX yz
                   first
                    | (go_simp; done)
                    | (go_simp; exact rfl)
                    | (go_simp
                       (go_at_call 85; refine rports_any.mono ?_; rintro e w3 ⟨rfl, hb3⟩; exact ⟨rfl, hX.trans (hb3.mono hX.size)⟩))
                 clear hK K
                 simp only [Act.put, List.setIfInBounds_toArray, List.set_cons_zero, List.set_cons_succ])
          refine wpQuiet_nil (fun X hX => ?_)
          have HX2 : Hid (Below U.heap.size U X) := hide (HBx.out.trans (hX.mono HBx.out.size))
          clear hX
          go_wp2
          go_ret
          exact ⟨by rw [← HRB.out, HAL.out, Bool.and_false]; rfl, by have h := HUB.out.trans (HX2.out.mono HUB.out.size); first | exact h | (rw [← hgB]; exact h)⟩
        by_cases c3 : ep < 0
        · have HAL : Hid (ins.all (edgeC ((os.map OV.o).take n)) = false) := by
            refine hide (all_no hlt ?_)
            rw [HE.out]
            unfold edgeC
            simp only [HLN.out]
            rw [decide_eq_false (p := 0 ≤ ep ∧ _) (by omega)]
            simp
          refine region_class (fun X => Below wx.heap.size wx X) (by kernel_rfl) (by kernel_rfl) (Below.refl _ wx).drew ?_
          repeat
            first
              | (refine BigFrame.wpQuiet_skip (by rfl) ?_
                 simp only [Act.put, List.setIfInBounds_toArray, List.set_cons_zero, List.set_cons_succ])
              | (refine BigFrame.wpQuiet_want (by rfl) (fun K hK => ?_)
                 unfold Oper.quiet
                 apply Exists.intro
                 refine ⟨fun X hX => ?_, hK _ ?_⟩
                 · have f0 := cell_later hX y0
                   have f1 := cell_later hX y1
                   have f2 := cell_later hX yz
                   first
                    | (go_simp; done)
                    | (go_simp; exact rfl)
                    | (go_simp
                       (go_at_call 85; refine rports_any.mono ?_; rintro e w3 ⟨rfl, hb3⟩; exact ⟨rfl, hX.trans (hb3.mono hX.size)⟩))
                 clear hK K
                 simp only [Act.put, List.setIfInBounds_toArray, List.set_cons_zero, List.set_cons_succ])
          refine wpQuiet_nil (fun X hX => ?_)
          have HX2 : Hid (Below U.heap.size U X) := hide (HBx.out.trans (hX.mono HBx.out.size))
          clear hX
          go_wp2
          go_ret
          exact ⟨by rw [← HRB.out, HAL.out, Bool.and_false]; rfl, by have h := HUB.out.trans (HX2.out.mono HUB.out.size); first | exact h | (rw [← hgB]; exact h)⟩
        obtain ⟨fn', rfl⟩ : ∃ fn' : Nat, ef = (fn' : Int) := ⟨ef.toNat, by omega⟩
        have hfl : fn' < os.length := by omega
        obtain ⟨g2, o2, he2, hc⟩ := (HOU.out.below HBx.out).cell fn' hfl
        injection he2 with he2
        injection he2 with he3 he4
        subst he3 he4
        obtain ⟨z, hz⟩ : ∃ z, os[fn']! = z := ⟨_, rfl⟩
        rw [hz] at hc
        have x0 : wx.cell? ⟨g, o + fn' * 5, none⟩ = some (.int .i64 z.o.kind) := hc 0 (by omega)
        have x1 : wx.cell? ⟨g, o + fn' * 5 + 1, none⟩ = some (.int .i64 z.o.part) := hc 1 (by omega)
        have x2 : wx.cell? ⟨g, o + fn' * 5 + 2, none⟩ = some (.int .i64 z.o.fn) := hc 2 (by omega)
        have x3 : wx.cell? ⟨g, o + fn' * 5 + 3, none⟩ = some (.int .i64 z.o.arg) := hc 3 (by omega)
        have x4 : wx.cell? ⟨g, o + fn' * 5 + 4, none⟩ = some (.slice z.ip z.o.ins.length z.ic) := hc 4 (by omega)
        obtain ⟨PT, hPT⟩ : ∃ PT, portsC z.o.kind z.o.arg = PT := ⟨_, rfl⟩
        have HED : Hid (edgeC ((os.map OV.o).take n) ⟨(fn' : Int), ep⟩ = decide (0 ≤ ep ∧ ep ≤ PT - 1)) := by
          refine hide ?_
          have e1 : ((os.map OV.o).take n)[fn']! = z.o := by
            rw [getElem!_pos ((os.map OV.o).take n) fn' (by rw [HLN.out]; omega), List.getElem_take, ← getElem!_pos (os.map OV.o) fn' (by simpa using hfl), getO os hfl, hz]
          have e2 : decide (0 ≤ (fn' : Int) ∧ (fn' : Int) ≤ (n : Int) - 1) = true := decide_eq_true (by omega)
          unfold edgeC
          simp only [HLN.out, Int.toNat_natCast, e1, hPT, e2, Bool.true_and]
        have HPR : Hid (portsC z.o.kind z.o.arg = PT) := hide hPT
        clear hc hz hPT
        by_cases c4 : PT ≤ ep
        · have HAL : Hid (ins.all (edgeC ((os.map OV.o).take n)) = false) := by
            refine hide (all_no hlt ?_)
            rw [HE.out, HED.out, decide_eq_false (by omega)]
          refine region_class (fun X => Below wx.heap.size wx X) (by kernel_rfl) (by kernel_rfl) (Below.refl _ wx).drew ?_
          repeat
            first
              | (refine BigFrame.wpQuiet_skip (by rfl) ?_
                 simp only [Act.put, List.setIfInBounds_toArray, List.set_cons_zero, List.set_cons_succ])
              | (refine BigFrame.wpQuiet_want (by rfl) (fun K hK => ?_)
                 unfold Oper.quiet
                 apply Exists.intro
                 refine ⟨fun X hX => ?_, hK _ ?_⟩
                 · have f0 := cell_later hX y0
                   have f1 := cell_later hX y1
                   have f2 := cell_later hX yz
                   have t0 := cell_later hX x0
                   have t1 := cell_later hX x1
                   have t2 := cell_later hX x2
                   have t3 := cell_later hX x3
                   have t4 := cell_later hX x4
                   first
                    | (go_simp; done)
                    | (go_simp; exact rfl)
                    | (go_simp
                       (go_at_call 85; refine rports_any.mono ?_; rintro e w3 ⟨rfl, hb3⟩; rw [HPR.out]; exact ⟨rfl, hX.trans (hb3.mono hX.size)⟩))
                 clear hK K
                 simp only [Act.put, List.setIfInBounds_toArray, List.set_cons_zero, List.set_cons_succ])
          refine wpQuiet_nil (fun X hX => ?_)
          have HX2 : Hid (Below U.heap.size U X) := hide (HBx.out.trans (hX.mono HBx.out.size))
          clear hX
          go_wp2
          go_ret
          exact ⟨by rw [← HRB.out, HAL.out, Bool.and_false]; rfl, by have h := HUB.out.trans (HX2.out.mono HUB.out.size); first | exact h | (rw [← hgB]; exact h)⟩
        · have HAL : Hid ((ins.take (k + 1)).all (edgeC ((os.map OV.o).take n)) = true) := by
            refine hide ?_
            rw [all_snoc hlt, HA.out, HE.out, HED.out, decide_eq_true (by omega)]
            rfl
          refine region_class (fun X => Below wx.heap.size wx X) (by kernel_rfl) (by kernel_rfl) (Below.refl _ wx).drew ?_
          repeat
            first
              | (refine BigFrame.wpQuiet_skip (by rfl) ?_
                 simp only [Act.put, List.setIfInBounds_toArray, List.set_cons_zero, List.set_cons_succ])
              | (refine BigFrame.wpQuiet_want (by rfl) (fun K hK => ?_)
                 unfold Oper.quiet
                 apply Exists.intro
                 refine ⟨fun X hX => ?_, hK _ ?_⟩
                 · have f0 := cell_later hX y0
                   have f1 := cell_later hX y1
                   have f2 := cell_later hX yz
                   have t0 := cell_later hX x0
                   have t1 := cell_later hX x1
                   have t2 := cell_later hX x2
                   have t3 := cell_later hX x3
                   have t4 := cell_later hX x4
                   first
                    | (go_simp; done)
                    | (go_simp; exact rfl)
                    | (go_simp
                       (go_at_call 85; refine rports_any.mono ?_; rintro e w3 ⟨rfl, hb3⟩; rw [HPR.out]; exact ⟨rfl, hX.trans (hb3.mono hX.size)⟩))
                 clear hK K
                 simp only [Act.put, List.setIfInBounds_toArray, List.set_cons_zero, List.set_cons_succ])
          refine wpQuiet_nil (fun X hX => ?_)
          have HX2 : Hid (Below U.heap.size U X) := hide (HBx.out.trans (hX.mono HBx.out.size))
          clear hX
          go_wp2
          exact ⟨⟨k + 1, by omega, by go_num, HAL, HX2⟩, by simp [intOf]; omega⟩
      · obtain rfl : k = ins.length := by omega
        have HAL : Hid (ins.all (edgeC ((os.map OV.o).take n)) = true) := by
          have := HA.out
          rw [List.take_length] at this
          exact hide this
        go_wp2
        go_ret
        exact ⟨by rw [← HRB.out, HAL.out, HP.out]; rfl, by have h := HUB.out.trans (HB.out.mono HUB.out.size); first | exact h | (rw [← hgB]; exact h)⟩

theorem rins_any {W : World} {parts : Int} {p : Option Addr} {cap : Nat} {os : List OV} (ho : GRow W p cap os) {n : Nat} (hn : n < os.length) :
    Calls Tryz.prog 83 #[.agg #[.int .i64 parts, .slice p os.length cap], .int .i64 (n : Int)] W fun e w' => e = .returned (.bool (insC (os[n]!).o ((os.map OV.o).take n))) ∧ Below W.heap.size W w' := by
  obtain ⟨x, hx⟩ : ∃ x, os[n]! = x := ⟨_, rfl⟩
  rw [hx]
  obtain ⟨⟨kd, pt, fn, ar, ins⟩, ip, ic⟩ := x
  unfold insC leastC mostC
  simp only
  by_cases k1 : kd = 1
  · subst k1; exact rinsA ho hn hx
  by_cases k8 : kd = 8
  · subst k8; exact rinsB ho hn hx
  · simp only [k1, k8, if_false]
    exact rinsD ho hn hx k1 k8
end Go.Proofs.YtlfipmieaabagaaGreat
