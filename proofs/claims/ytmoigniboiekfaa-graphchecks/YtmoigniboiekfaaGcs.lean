/-
  GraphChecks: the program's Check and Ports of any graph are the document's: for every input. No conditions.
-/
import Derived.Test.YtmoigniboiekfaaGlv
import Derived.Test.YtmoigniboiekfaaGar
import Derived.Test.YtmoigniboiekfaaGfr
import Derived.Test.YtmoigniboiekfaaQui
namespace Go.Proofs.Ytmoigniboiekfaa.graphChecks
open Go.ChangeShapes Go.WideShapes Go.ChangeAt Go.RowKit

attribute [local irreducible] wpQuiet in
set_option maxRecDepth 100000 in
set_option maxHeartbeats 8000000 in
theorem walk {W : World} {parts : Int} {p : Option Addr} {cap : Nat} {os : List OV} (ho : GRow W p cap os) :
    Calls Try.prog 3 #[.agg #[.int .i64 parts, .slice p os.length cap]] W fun e w' => e = .returned (.bool true) ∧ Below W.heap.size W w' := by
  have i3 := ho.le
  have i4 := ho.top
  have hb0 := alloc_below W (.cells #[.int .i64 parts, .slice p os.length cap] 24 (0, 0))
  have hv1 : (W.alloc (.cells #[.int .i64 parts, .slice p os.length cap] 24 (0, 0))).heap[W.heap.size]? = some (.cells #[.int .i64 parts, .slice p os.length cap] 24 (0, 0)) := heap_alloc_new W _
  have HO := hide (ho.below hb0)
  have HVB := hide hb0
  clear ho hb0
  obtain ⟨rc, hrc⟩ : ∃ rc, checkC parts (os.map OV.o) = rc := ⟨_, rfl⟩
  obtain ⟨r1, r2⟩ := rc
  have HRC := hide hrc
  clear hrc
  obtain ⟨V, hV⟩ : ∃ V, V = W.alloc (.cells #[.int .i64 parts, .slice p os.length cap] 24 (0, 0)) := ⟨_, rfl⟩
  rw [← hV] at HO HVB hv1
  go_enter Try.func3, Try.ntmps3
  go_wp2_with fail
  rw [← hV]
  obtain ⟨gB, hgB⟩ : ∃ gB, W.heap.size = gB := ⟨_, rfl⟩
  rw [hgB] at hv1 ⊢
  have z0 : V.cell? ⟨gB, 0, none⟩ = some (.int .i64 parts) := by simp [World.cell?, hv1]
  have z1 : V.cell? ⟨gB, 1, none⟩ = some (.slice p os.length cap) := by simp [World.cell?, hv1]
  clear hV hv1 hgB
  refine live_any.mono ?_
  rintro _ w1 ⟨rfl, b1⟩
  have y0 := cell_later b1 z0
  have y1 := cell_later b1 z1
  have HB1 := hide b1
  clear b1 z0 z1
  go_wp2_with fail
  refine (check_any (HO.out.below HB1.out)).mono ?_
  rintro _ w2 ⟨rfl, b2⟩
  rw [HRC.out]
  have x0 := cell_later b2 y0
  have x1 := cell_later b2 y1
  have HB2 := hide (HB1.out.trans (b2.mono HB1.out.size))
  clear b2 y0 y1
  go_wp2_with fail
  refine (rcheck_any (HO.out.below HB2.out)).mono ?_
  rintro _ w3 ⟨rfl, b3⟩
  rw [HRC.out]
  have u0 := cell_later b3 x0
  have u1 := cell_later b3 x1
  have HB3 := hide (HB2.out.trans (b3.mono HB2.out.size))
  clear b3 x0 x1 HRC
  try simp only
  by_cases hm : 100 < (os.length : Int)
  · have hN : 100 ≤ os.length := by omega
    go_wp2_with fail
    go_loopw [29] (fun i wr => ∃ (k : Nat), k ≤ 100 ∧ i = .int .i64 (k : Int) ∧ Hid (Below V.heap.size V wr)) (fun i _ => 100 - (intOf i).toNat)
    case atStart => exact ⟨0, Nat.zero_le _, rfl, HB3⟩
    case round =>
      obtain ⟨k, hk, rfl, HB⟩ := hrel
      by_cases hlt : k < 100
      · have hk2 : k < os.length := by omega
        obtain ⟨g, o, rfl, hc⟩ := (HO.out.below HB.out).cell k hk2
        obtain ⟨x, hx⟩ : ∃ x, os[k]! = x := ⟨_, rfl⟩
        rw [hx] at hc
        obtain ⟨⟨kd, pt, fn, ar, ins⟩, ip, ic⟩ := x
        have d0 : wr.cell? ⟨g, o + k * 5, none⟩ = some (.int .i64 kd) := hc 0 (by omega)
        have d1 : wr.cell? ⟨g, o + k * 5 + 1, none⟩ = some (.int .i64 pt) := hc 1 (by omega)
        have d2 : wr.cell? ⟨g, o + k * 5 + 2, none⟩ = some (.int .i64 fn) := hc 2 (by omega)
        have d3 : wr.cell? ⟨g, o + k * 5 + 3, none⟩ = some (.int .i64 ar) := hc 3 (by omega)
        have d4 : wr.cell? ⟨g, o + k * 5 + 4, none⟩ = some (.slice ip ins.length ic) := hc 4 (by omega)
        clear hc hx
        go_upto_region 8 with fail
        obtain ⟨wx, hwx⟩ : ∃ wx, wx = wr.alloc (.cells #[.int .i64 kd, .int .i64 pt, .int .i64 fn, .int .i64 ar, .slice ip ins.length ic] 31 (0, 0)) := ⟨_, rfl⟩
        have hxx : wx.heap[wr.heap.size]? = some (.cells #[.int .i64 kd, .int .i64 pt, .int .i64 fn, .int .i64 ar, .slice ip ins.length ic] 31 (0, 0)) := by rw [hwx]; exact heap_alloc_new _ _
        have HBX : Hid (Below V.heap.size V wx) := by rw [hwx]; exact hide (HB.out.trans ((alloc_below _ _).mono HB.out.size))
        rw [← hwx]
        obtain ⟨xB, hxB⟩ : ∃ xB, wr.heap.size = xB := ⟨_, rfl⟩
        rw [hxB] at hxx ⊢
        have t0 : wx.cell? ⟨xB, 0, none⟩ = some (.int .i64 kd) := by simp [World.cell?, hxx]
        have t1 : wx.cell? ⟨xB, 1, none⟩ = some (.int .i64 pt) := by simp [World.cell?, hxx]
        have t2 : wx.cell? ⟨xB, 2, none⟩ = some (.int .i64 fn) := by simp [World.cell?, hxx]
        have t3 : wx.cell? ⟨xB, 3, none⟩ = some (.int .i64 ar) := by simp [World.cell?, hxx]
        have t4 : wx.cell? ⟨xB, 4, none⟩ = some (.slice ip ins.length ic) := by simp [World.cell?, hxx]
        clear hwx hxx hxB d0 d1 d2 d3 d4 HB
        refine region_class (fun X => Below wx.heap.size wx X) (by kernel_rfl) (by kernel_rfl) (Below.refl _ wx).drew ?_
        repeat
          first
            | (refine BigFrame.wpQuiet_skip (by rfl) ?_
               simp only [Act.put, List.setIfInBounds_toArray, List.set_cons_zero, List.set_cons_succ])
            | (refine BigFrame.wpQuiet_want (by rfl) (fun K hK => ?_)
               unfold Oper.quiet
               apply Exists.intro
               refine ⟨fun X hX => ?_, hK _ ?_⟩
               · have l0 := cell_later hX t0
                 have l1 := cell_later hX t1
                 have l2 := cell_later hX t2
                 have l3 := cell_later hX t3
                 have l4 := cell_later hX t4
                 first
                  | (go_simp; done)
                  | (go_simp; exact rfl)
                  | (go_simp
                     (go_at_call 11; refine ports_any.mono ?_; rintro e w3 ⟨rfl, hb3⟩; exact ⟨rfl, hX.trans (hb3.mono hX.size)⟩))
                  | (go_simp
                     (go_at_call 12; refine rports_any.mono ?_; rintro e w3 ⟨rfl, hb3⟩; exact ⟨rfl, hX.trans (hb3.mono hX.size)⟩))
               clear hK K
               simp only [Act.put, List.setIfInBounds_toArray, List.set_cons_zero, List.set_cons_succ])
        refine wpQuiet_nil (fun X hX => ?_)
        have HX : Hid (Below V.heap.size V X) := hide (HBX.out.trans (hX.mono HBX.out.size))
        obtain ⟨pc, hpc⟩ : ∃ pc, portsC kd ar = pc := ⟨_, rfl⟩
        try rw [hpc]
        clear hX t0 t1 t2 t3 t4 hpc
        go_wp2
        exact ⟨⟨k + 1, by omega, by first | rfl | go_num, HX⟩, by simp [intOf]; omega⟩
      · obtain rfl : k = 100 := by omega
        have HF := hide (HVB.out.trans (HB.out.mono HVB.out.size))
        go_wp2
        go_ret
        exact ⟨by first | rfl | simp, HF.out⟩
  · have hN : os.length ≤ 100 := by omega
    go_wp2_with fail
    go_loopw [29] (fun i wr => ∃ (k : Nat), k ≤ os.length ∧ i = .int .i64 (k : Int) ∧ Hid (Below V.heap.size V wr)) (fun i _ => os.length - (intOf i).toNat)
    case atStart => exact ⟨0, Nat.zero_le _, rfl, HB3⟩
    case round =>
      obtain ⟨k, hk, rfl, HB⟩ := hrel
      by_cases hlt : k < os.length
      · have hk2 : k < os.length := by omega
        obtain ⟨g, o, rfl, hc⟩ := (HO.out.below HB.out).cell k hk2
        obtain ⟨x, hx⟩ : ∃ x, os[k]! = x := ⟨_, rfl⟩
        rw [hx] at hc
        obtain ⟨⟨kd, pt, fn, ar, ins⟩, ip, ic⟩ := x
        have d0 : wr.cell? ⟨g, o + k * 5, none⟩ = some (.int .i64 kd) := hc 0 (by omega)
        have d1 : wr.cell? ⟨g, o + k * 5 + 1, none⟩ = some (.int .i64 pt) := hc 1 (by omega)
        have d2 : wr.cell? ⟨g, o + k * 5 + 2, none⟩ = some (.int .i64 fn) := hc 2 (by omega)
        have d3 : wr.cell? ⟨g, o + k * 5 + 3, none⟩ = some (.int .i64 ar) := hc 3 (by omega)
        have d4 : wr.cell? ⟨g, o + k * 5 + 4, none⟩ = some (.slice ip ins.length ic) := hc 4 (by omega)
        clear hc hx
        go_upto_region 8 with fail
        obtain ⟨wx, hwx⟩ : ∃ wx, wx = wr.alloc (.cells #[.int .i64 kd, .int .i64 pt, .int .i64 fn, .int .i64 ar, .slice ip ins.length ic] 31 (0, 0)) := ⟨_, rfl⟩
        have hxx : wx.heap[wr.heap.size]? = some (.cells #[.int .i64 kd, .int .i64 pt, .int .i64 fn, .int .i64 ar, .slice ip ins.length ic] 31 (0, 0)) := by rw [hwx]; exact heap_alloc_new _ _
        have HBX : Hid (Below V.heap.size V wx) := by rw [hwx]; exact hide (HB.out.trans ((alloc_below _ _).mono HB.out.size))
        rw [← hwx]
        obtain ⟨xB, hxB⟩ : ∃ xB, wr.heap.size = xB := ⟨_, rfl⟩
        rw [hxB] at hxx ⊢
        have t0 : wx.cell? ⟨xB, 0, none⟩ = some (.int .i64 kd) := by simp [World.cell?, hxx]
        have t1 : wx.cell? ⟨xB, 1, none⟩ = some (.int .i64 pt) := by simp [World.cell?, hxx]
        have t2 : wx.cell? ⟨xB, 2, none⟩ = some (.int .i64 fn) := by simp [World.cell?, hxx]
        have t3 : wx.cell? ⟨xB, 3, none⟩ = some (.int .i64 ar) := by simp [World.cell?, hxx]
        have t4 : wx.cell? ⟨xB, 4, none⟩ = some (.slice ip ins.length ic) := by simp [World.cell?, hxx]
        clear hwx hxx hxB d0 d1 d2 d3 d4 HB
        refine region_class (fun X => Below wx.heap.size wx X) (by kernel_rfl) (by kernel_rfl) (Below.refl _ wx).drew ?_
        repeat
          first
            | (refine BigFrame.wpQuiet_skip (by rfl) ?_
               simp only [Act.put, List.setIfInBounds_toArray, List.set_cons_zero, List.set_cons_succ])
            | (refine BigFrame.wpQuiet_want (by rfl) (fun K hK => ?_)
               unfold Oper.quiet
               apply Exists.intro
               refine ⟨fun X hX => ?_, hK _ ?_⟩
               · have l0 := cell_later hX t0
                 have l1 := cell_later hX t1
                 have l2 := cell_later hX t2
                 have l3 := cell_later hX t3
                 have l4 := cell_later hX t4
                 first
                  | (go_simp; done)
                  | (go_simp; exact rfl)
                  | (go_simp
                     (go_at_call 11; refine ports_any.mono ?_; rintro e w3 ⟨rfl, hb3⟩; exact ⟨rfl, hX.trans (hb3.mono hX.size)⟩))
                  | (go_simp
                     (go_at_call 12; refine rports_any.mono ?_; rintro e w3 ⟨rfl, hb3⟩; exact ⟨rfl, hX.trans (hb3.mono hX.size)⟩))
               clear hK K
               simp only [Act.put, List.setIfInBounds_toArray, List.set_cons_zero, List.set_cons_succ])
        refine wpQuiet_nil (fun X hX => ?_)
        have HX : Hid (Below V.heap.size V X) := hide (HBX.out.trans (hX.mono HBX.out.size))
        obtain ⟨pc, hpc⟩ : ∃ pc, portsC kd ar = pc := ⟨_, rfl⟩
        try rw [hpc]
        clear hX t0 t1 t2 t3 t4 hpc
        go_wp2
        exact ⟨⟨k + 1, by omega, by first | rfl | go_num, HX⟩, by simp [intOf]; omega⟩
      · obtain rfl : k = os.length := by omega
        have HF := hide (HVB.out.trans (HB.out.mono HVB.out.size))
        go_wp2
        go_ret
        exact ⟨by first | rfl | simp, HF.out⟩

set_option maxRecDepth 100000 in
theorem contract (H : Type) (enc : TypeId × Value → H) (W : World) (base : Nat) (args : Array Value) (ds gs : List (DataW H)) (before : List MemPlace)
    (hval : ∀ (j : Nat) t v, Try.f3.params[j]? = some t → args[j]? = some v → Value.okWide Try.prog W .any base t v)
    (hW : DataW.Whole enc Try.prog Try.f3.params.toList Rows.graphChecksSpec.vars false W args.toList ds gs before) :
    Calls Try.prog 3 args W fun e W' => ∃ v, e = .returned v ∧ Rows.graphChecksSpec.post enc Try.prog Try.f3 false true false false W args v W' := by
  have hW' := hW
  obtain ⟨p, q, hA0, hV, rfl, hfz, hnd⟩ := hW
  have hA : DataW.TrodAll enc Try.prog W 0 (fun _ => true) true Try.f3.params.toList args.toList ds p := hA0
  rw [Try.params3] at hA hval
  obtain ⟨v0, vs0, d0, ds0, p0, q0, hargs, rfl, rfl, h0, r0⟩ := trodAll_cons hA
  obtain ⟨rfl, rfl, rfl⟩ := trodAll_nil r0
  obtain rfl : args = #[v0] := by cases args; simp_all
  obtain ⟨rfl, rfl⟩ := trodVars_none hV
  obtain ⟨cs, rfl, hcs⟩ := okWide_struct Try.underlying24 (hval 0 24 v0 rfl rfl)
  rw [Try.cellsGraph] at hcs
  have k0 := h0
  have lt0 : ∀ x ∈ p0, x.block < W.heap.size := by obtain ⟨m, hm⟩ := k0; exact DataW.trod_lt m _ _ _ hm
  obtain ⟨f0, hf0⟩ := h0
  have hcc : (Value.agg cs).cells.toList = cs.toList := by simp [Value.cells]
  rw [hcc] at hf0
  obtain ⟨parts, gp, gc, os, rfl, I0, G0, F0, B0⟩ := arg_graph hcs hf0
  clear hA0
  refine (walk G0).mono fun e W' ⟨he, bel⟩ => ?_
  subst he
  exact ⟨_, rfl, _, _, _, [], _, [], hW', trodAll_mk1 (shut_bool Try.underlying4 _), (trodAll_cons_mk (Below.trod Try.laidOut (by kernel_rfl) (of_decide_eq_true (by kernel_rfl)) k0 bel lt0) trodAll_mk0), rfl, bel.frame _, fun h => by cases h⟩

set_option maxRecDepth 100000 in
theorem lifted (os : Os) (started : os.Started) (H : Type) (enc : TypeId × Value → H) :
    ReturnsInHanded {} Try.checked os 3 .any (Rows.graphChecksSpec.pre6 enc Try.prog Try.f3 Rows.graphChecksRow.domain false) (Rows.graphChecksSpec.post enc Try.prog Try.f3 false true false false) := by
  refine returnsInHanded_of_change_sized (C := Try.checked) Try.ownK started (by kernel_rfl) Try.func3
    (ChangeSpec.witness6 (enc := enc) (C := Try.checked) false ⟨#[], #[.agg #[.int .i64 0, .slice none 0 0]], []⟩ 8 (by kernel_rfl) (by kernel_rfl) (by kernel_rfl) (by kernel_rfl)) ?_
  intro W base args ds gs before hval hW _ hsz _
  exact contract H enc W base args ds gs before hval hW

set_option maxRecDepth 100000 in
theorem proved : Rows.GraphChecksSaid :=
  OpenClaim.holds_of_wide 3 Try.f3 rfl rfl rfl rfl rfl rfl rfl ⟨rfl, rfl, rfl, rfl, rfl⟩ rfl rfl rfl rfl rfl (by kernel_rfl) Try.func3 (by kernel_rfl)
    (of_decide_eq_true (by kernel_rfl)) (by unfold Func.isWrapper; first | (rw [if_pos (by decide +kernel)]; kernel_rfl) | (rw [if_neg (by decide +kernel)]; exact ⟨rfl, rfl⟩))
    (fun os started H enc _ => lifted os started H enc)

end Go.Proofs.Ytmoigniboiekfaa.graphChecks
