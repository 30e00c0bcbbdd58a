/-
  Which inputs an operator may have: the program's inputsFit. The conditions: lengths.
-/
import Derived.Test.YtlfipmieaabagaaGreatGfr
import Derived.Test.YtlfipmieaabagaaGreatQui
import Derived.Deep.Cut
import Derived.Deep.CutBlock
namespace Go.Proofs.YtlfipmieaabagaaGreat
open Go.RowKit

def leastC (kd : Int) : Int := if kd = 1 then 0 else if kd = 8 then 2 else 1
def mostC (kd : Int) : Int := if kd = 1 then 0 else if kd = 8 then 4 else 1
/-- An input comes from a port of one of those ahead. -/
def edgeC (ahead : List GO) (e : GE) : Bool := decide (0 ≤ e.f ∧ e.f ≤ (ahead.length : Int) - 1) && decide (0 ≤ e.p ∧ e.p ≤ portsC (ahead[e.f.toNat]!).kind (ahead[e.f.toNat]!).arg - 1)
def insC (o : GO) (ahead : List GO) : Bool := decide (leastC o.kind ≤ (o.ins.length : Int) ∧ (o.ins.length : Int) ≤ mostC o.kind) && o.ins.all (edgeC ahead)
theorem portsC_le (kd ar : Int) : 0 ≤ portsC kd ar ∧ portsC kd ar ≤ 4 := by
  unfold portsC
  split
  · split <;> omega
  · split <;> omega
theorem getO (os : List OV) {k : Nat} (hk : k < os.length) : (os.map OV.o)[k]! = (os[k]!).o := by
  rw [getElem!_pos (os.map OV.o) k (by simpa using hk), getElem!_pos os k hk]
  simp
theorem all_snoc {α : Type} {q : α → Bool} {l : List α} {k : Nat} (hk : k < l.length) [Inhabited α] : (l.take (k + 1)).all q = ((l.take k).all q && q (l[k]!)) := by
  rw [List.take_succ_eq_append_getElem hk, List.all_append, getElem!_pos l k hk]
  simp
theorem all_no {α : Type} {q : α → Bool} {l : List α} {k : Nat} (hk : k < l.length) [Inhabited α] (h : q (l[k]!) = false) : l.all q = false := by
  rw [List.all_eq_false]
  exact ⟨l[k]!, by rw [getElem!_pos l k hk]; exact List.getElem_mem _, by rw [h]; exact Bool.false_ne_true⟩

attribute [local irreducible] wpQuiet in
set_option maxRecDepth 100000 in
set_option maxHeartbeats 8000000 in
theorem insB {W : World} {pt fn ar : Int} {ins : List GE} {ip : Option Addr} {ic : Nat} (hx : ERow W ip ic ins) {p : Option Addr} {cap : Nat} {os : List OV} (ho : GRow W p cap os) (hlen : os.length ≤ 24)  :
    Calls Tryz.prog 119 #[.agg #[.int .i64 8, .int .i64 pt, .int .i64 fn, .int .i64 ar, .slice ip ins.length ic], .slice p os.length cap] W fun e w' => e = .returned (.bool (decide ((2 : Int) ≤ (ins.length : Int) ∧ (ins.length : Int) ≤ 4) && ins.all (edgeC (os.map OV.o)))) ∧ Below W.heap.size W w' := by
  have i1 := hx.le
  have i2 := hx.top
  have i3 := ho.le
  have i4 := ho.top
  have HX := hide hx
  have HO := hide ho
  have hb0 := alloc_below W (.cells #[.int .i64 8, .int .i64 pt, .int .i64 fn, .int .i64 ar, .slice ip ins.length ic] 95)
  have HB0 := hide hb0
  clear hx ho hb0
  by_cases hw : (2 : Int) ≤ (ins.length : Int) ∧ (ins.length : Int) ≤ 4
  rotate_left
  · have w1 := bf hw
    have HP : Hid (decide ((2 : Int) ≤ (ins.length : Int) ∧ (ins.length : Int) ≤ 4) = false) := hide (decide_eq_false hw)
    clear hw
    go_enter Tryz.func119, Tryz.ntmps119
    go_wp2_with fail
    refine within_any.mono ?_
    rintro _ _ ⟨rfl, rfl⟩
    go_wp2
    go_ret
    exact ⟨by rw [HP.out]; rfl, HB0.out⟩
  · have w1 := bt hw.1 hw.2
    have HP : Hid (decide ((2 : Int) ≤ (ins.length : Int) ∧ (ins.length : Int) ≤ 4) = true) := hide (decide_eq_true hw)
    have hil : ins.length ≤ 4 := by omega
    clear hw
    go_enter Tryz.func119, Tryz.ntmps119
    go_wp2_with fail
    refine within_any.mono ?_
    rintro _ _ ⟨rfl, rfl⟩
    go_wp2_with fail
    go_loopw [25] (fun i wr => ∃ (k : Nat), k ≤ ins.length ∧ i = .int .i64 (k : Int) ∧ Hid ((ins.take k).all (edgeC (os.map OV.o)) = true) ∧ Hid (Below W.heap.size W wr)) (fun i _ => ins.length - (intOf i).toNat)
    case atStart => exact ⟨0, Nat.zero_le _, rfl, hide rfl, HB0⟩
    case round =>
      obtain ⟨k, hk, rfl, HA, HB⟩ := hrel
      by_cases hlt : k < ins.length
      · obtain ⟨g, o, rfl, d0, d1⟩ := (HX.out.below HB.out).cell k hlt
        obtain ⟨e, he⟩ : ∃ e, ins[k]! = e := ⟨_, rfl⟩
        rw [he] at d0 d1
        obtain ⟨ef, ep⟩ := e
        simp only at d0 d1
        have hb1 := alloc_below wr (.cells #[.int .i64 ef, .int .i64 ep] 119 (0, 0))
        obtain ⟨wx, hwx⟩ : ∃ wx, wx = wr.alloc (.cells #[.int .i64 ef, .int .i64 ep] 119 (0, 0)) := ⟨_, rfl⟩
        rw [← hwx] at hb1
        have hbx : wx.heap[wr.heap.size]? = some (.cells #[.int .i64 ef, .int .i64 ep] 119 (0, 0)) := by rw [hwx]; exact heap_alloc_new _ _
        obtain ⟨xB, hxB⟩ : ∃ xB, wr.heap.size = xB := ⟨_, rfl⟩
        rw [hxB] at hbx
        have y0 : wx.cell? ⟨xB, 0, none⟩ = some (.int .i64 ef) := by simp [World.cell?, hbx]
        have y1 : wx.cell? ⟨xB, 1, none⟩ = some (.int .i64 ep) := by simp [World.cell?, hbx]
        have HBx : Hid (Below W.heap.size W wx) := hide (HB.out.trans (hb1.mono HB.out.size))
        have HWX := hide hwx
        have HE := hide he
        clear hb1 hbx he
        go_upto_region 12 with fail
        rw [← HWX.out]
        clear HWX hwx hxB d0 d1
        have hwA : IntKind.i64.wrap ((os.length : Int) - 1) = (os.length : Int) - 1 := by rw [IntKind.wrap_i64]; omega
        by_cases c1 : 0 ≤ ef ∧ ef ≤ (os.length : Int) - 1
        · obtain ⟨fn', rfl⟩ : ∃ fn' : Nat, ef = (fn' : Int) := ⟨ef.toNat, by omega⟩
          have hfl : fn' < os.length := by omega
          obtain ⟨g2, o2, rfl, hc⟩ := (HO.out.below HBx.out).cell fn' hfl
          obtain ⟨z, hz⟩ : ∃ z, os[fn']! = z := ⟨_, rfl⟩
          rw [hz] at hc
          have z0 : wx.cell? ⟨g2, o2 + fn' * 5, none⟩ = some (.int .i64 z.o.kind) := hc 0 (by omega)
          have z1 : wx.cell? ⟨g2, o2 + fn' * 5 + 1, none⟩ = some (.int .i64 z.o.part) := hc 1 (by omega)
          have z2 : wx.cell? ⟨g2, o2 + fn' * 5 + 2, none⟩ = some (.int .i64 z.o.fn) := hc 2 (by omega)
          have z3 : wx.cell? ⟨g2, o2 + fn' * 5 + 3, none⟩ = some (.int .i64 z.o.arg) := hc 3 (by omega)
          have z4 : wx.cell? ⟨g2, o2 + fn' * 5 + 4, none⟩ = some (.slice z.ip z.o.ins.length z.ic) := hc 4 (by omega)
          have HV1 : Hid ((decide ((0 : Int) ≤ (fn' : Int)) && decide ((fn' : Int) ≤ (os.length : Int) - 1)) = true) := hide (bt c1.1 c1.2)
          obtain ⟨PT, hPT⟩ : ∃ PT, portsC z.o.kind z.o.arg = PT := ⟨_, rfl⟩
          have hpl := portsC_le z.o.kind z.o.arg
          rw [hPT] at hpl
          have HED : Hid (edgeC (os.map OV.o) ⟨(fn' : Int), ep⟩ = decide (0 ≤ ep ∧ ep ≤ PT - 1)) := by
            refine hide ?_
            have e1 : (os.map OV.o)[fn']! = z.o := by rw [getO os hfl, hz]
            have e2 : decide (0 ≤ (fn' : Int) ∧ (fn' : Int) ≤ (os.length : Int) - 1) = true := decide_eq_true c1
            unfold edgeC
            simp only [List.length_map, Int.toNat_natCast, e1, hPT, e2, Bool.true_and]
          have hwB : IntKind.i64.wrap (PT - 1) = PT - 1 := by rw [IntKind.wrap_i64]; omega
          have HPR : Hid (portsC z.o.kind z.o.arg = PT) := hide hPT
          clear hc hz c1 hPT
          by_cases c2 : 0 ≤ ep ∧ ep ≤ PT - 1
          · have HV2 : Hid ((decide ((0 : Int) ≤ ep) && decide (ep ≤ PT - 1)) = true) := hide (bt c2.1 c2.2)
            have HAL : Hid ((ins.take (k + 1)).all (edgeC (os.map OV.o)) = true) := by
              refine hide ?_
              rw [all_snoc hlt, HA.out, HE.out, HED.out, decide_eq_true c2]
              rfl
            clear c2
            refine region_class (fun X => Below wx.heap.size wx X) (by kernel_rfl) (by kernel_rfl) (Below.refl _ wx).drew ?_
            repeat
              first
                | (refine BigFrame.wpQuiet_skip (by rfl) ?_
                   simp only [Act.put, List.setIfInBounds_toArray, List.set_cons_zero, List.set_cons_succ])
                | (refine BigFrame.wpQuiet_want (by rfl) (fun K hK => ?_)
                   unfold Oper.quiet
                   apply Exists.intro
                   refine ⟨fun X hX => ?_, hK _ ?_⟩
                   · have f0 := cell_later hX y0
                     have f1 := cell_later hX y1
                     have t0 := cell_later hX z0
                     have t1 := cell_later hX z1
                     have t2 := cell_later hX z2
                     have t3 := cell_later hX z3
                     have t4 := cell_later hX z4
                     first
                      | (go_simp; done)
                      | (go_simp; exact rfl)
                      | (go_simp
                         first
                         | (go_at_call 99; refine within_any.mono ?_; rintro e w3 ⟨rfl, rfl⟩; (try rw [HV1.out]); (try rw [HV2.out]); exact ⟨rfl, hX⟩)
                         | (go_at_call 68; refine ports_any.mono ?_; rintro e w3 ⟨rfl, hb3⟩; rw [HPR.out]; exact ⟨rfl, hX.trans (hb3.mono hX.size)⟩))
                   clear hK K
                   simp only [Act.put, List.setIfInBounds_toArray, List.set_cons_zero, List.set_cons_succ])
            refine wpQuiet_nil (fun X hX => ?_)
            have HX2 : Hid (Below W.heap.size W X) := hide (HBx.out.trans (hX.mono HBx.out.size))
            clear hX
            go_wp2
            exact ⟨⟨k + 1, by omega, by go_num, HAL, HX2⟩, by simp [intOf]; omega⟩
          · have HV2 : Hid ((decide ((0 : Int) ≤ ep) && decide (ep ≤ PT - 1)) = false) := hide (bf c2)
            have HAL : Hid (ins.all (edgeC (os.map OV.o)) = false) := by
              refine hide (all_no hlt ?_)
              rw [HE.out, HED.out, decide_eq_false c2]
            clear c2
            refine region_class (fun X => Below wx.heap.size wx X) (by kernel_rfl) (by kernel_rfl) (Below.refl _ wx).drew ?_
            repeat
              first
                | (refine BigFrame.wpQuiet_skip (by rfl) ?_
                   simp only [Act.put, List.setIfInBounds_toArray, List.set_cons_zero, List.set_cons_succ])
                | (refine BigFrame.wpQuiet_want (by rfl) (fun K hK => ?_)
                   unfold Oper.quiet
                   apply Exists.intro
                   refine ⟨fun X hX => ?_, hK _ ?_⟩
                   · have f0 := cell_later hX y0
                     have f1 := cell_later hX y1
                     have t0 := cell_later hX z0
                     have t1 := cell_later hX z1
                     have t2 := cell_later hX z2
                     have t3 := cell_later hX z3
                     have t4 := cell_later hX z4
                     first
                      | (go_simp; done)
                      | (go_simp; exact rfl)
                      | (go_simp
                         first
                         | (go_at_call 99; refine within_any.mono ?_; rintro e w3 ⟨rfl, rfl⟩; (try rw [HV1.out]); (try rw [HV2.out]); exact ⟨rfl, hX⟩)
                         | (go_at_call 68; refine ports_any.mono ?_; rintro e w3 ⟨rfl, hb3⟩; rw [HPR.out]; exact ⟨rfl, hX.trans (hb3.mono hX.size)⟩))
                   clear hK K
                   simp only [Act.put, List.setIfInBounds_toArray, List.set_cons_zero, List.set_cons_succ])
            refine wpQuiet_nil (fun X hX => ?_)
            have HX2 : Hid (Below W.heap.size W X) := hide (HBx.out.trans (hX.mono HBx.out.size))
            clear hX
            go_wp2
            go_ret
            exact ⟨by rw [HAL.out, Bool.and_false]; rfl, HX2.out⟩
        · have HV1 : Hid ((decide ((0 : Int) ≤ ef) && decide (ef ≤ (os.length : Int) - 1)) = false) := hide (bf c1)
          have HAL : Hid (ins.all (edgeC (os.map OV.o)) = false) := by
            refine hide (all_no hlt ?_)
            rw [HE.out]
            unfold edgeC
            simp only [List.length_map]
            rw [decide_eq_false c1]
            rfl
          clear c1
          refine region_class (fun X => Below wx.heap.size wx X) (by kernel_rfl) (by kernel_rfl) (Below.refl _ wx).drew ?_
          repeat
            first
              | (refine BigFrame.wpQuiet_skip (by rfl) ?_
                 simp only [Act.put, List.setIfInBounds_toArray, List.set_cons_zero, List.set_cons_succ])
              | (refine BigFrame.wpQuiet_want (by rfl) (fun K hK => ?_)
                 unfold Oper.quiet
                 apply Exists.intro
                 refine ⟨fun X hX => ?_, hK _ ?_⟩
                 · have f0 := cell_later hX y0
                   have f1 := cell_later hX y1
                   first
                    | (go_simp; done)
                    | (go_simp; exact rfl)
                    | (go_simp
                       first
                       | (go_at_call 99; refine within_any.mono ?_; rintro e w3 ⟨rfl, rfl⟩; (try rw [HV1.out]); exact ⟨rfl, hX⟩)
                       | (go_at_call 68; refine ports_any.mono ?_; rintro e w3 ⟨rfl, hb3⟩; exact ⟨rfl, hX.trans (hb3.mono hX.size)⟩))
                 clear hK K
                 simp only [Act.put, List.setIfInBounds_toArray, List.set_cons_zero, List.set_cons_succ])
          refine wpQuiet_nil (fun X hX => ?_)
          have HX2 : Hid (Below W.heap.size W X) := hide (HBx.out.trans (hX.mono HBx.out.size))
          clear hX
          go_wp2
          go_ret
          exact ⟨by rw [HAL.out, Bool.and_false]; rfl, HX2.out⟩
      · obtain rfl : k = ins.length := by omega
        have HAL : Hid (ins.all (edgeC (os.map OV.o)) = true) := by
          have := HA.out
          rw [List.take_length] at this
          exact hide this
        go_wp2
        go_ret
        exact ⟨by rw [HAL.out, HP.out]; rfl, HB.out⟩

set_option maxRecDepth 100000 in
set_option maxHeartbeats 2000000 in
theorem insA {W : World} {pt fn ar : Int} {ins : List GE} {ip : Option Addr} {ic : Nat} (hx : ERow W ip ic ins) {p : Option Addr} {cap : Nat} {os : List OV} (ho : GRow W p cap os) :
    Calls Tryz.prog 119 #[.agg #[.int .i64 1, .int .i64 pt, .int .i64 fn, .int .i64 ar, .slice ip ins.length ic], .slice p os.length cap] W fun e w' => e = .returned (.bool (decide ((0 : Int) ≤ (ins.length : Int) ∧ (ins.length : Int) ≤ 0) && ins.all (edgeC (os.map OV.o)))) ∧ Below W.heap.size W w' := by
  have i1 := hx.le
  have i2 := hx.top
  have i3 := ho.le
  have i4 := ho.top
  clear hx ho
  cases ins with
  | nil =>
    go_enter Tryz.func119, Tryz.ntmps119
    go_wp2_with fail
    refine within_any.mono ?_
    rintro _ _ ⟨rfl, rfl⟩
    go_wp2_with fail
    go_loopw [25] (fun i wr => i = .int .i64 0 ∧ Hid (Below W.heap.size W wr)) (fun i _ => 0)
    case atStart => exact ⟨rfl, hide (alloc_below _ _)⟩
    case round =>
      obtain ⟨rfl, HB⟩ := hrel
      go_wp2
      go_ret
      exact ⟨rfl, HB.out⟩
  | cons a l =>
    have HP : Hid (decide ((0 : Int) ≤ ((a :: l).length : Int) ∧ ((a :: l).length : Int) ≤ 0) = false) := hide (decide_eq_false (by simp))
    obtain ⟨N, hN⟩ : ∃ N, (a :: l).length = N := ⟨_, rfl⟩
    rw [hN] at i1 HP ⊢
    have hp : decide (N = 0) = false := decide_eq_false (by rw [← hN]; simp)
    clear hN
    go_enter Tryz.func119, Tryz.ntmps119
    go_wp2_with fail
    refine within_any.mono ?_
    rintro _ _ ⟨rfl, rfl⟩
    go_wp2
    go_ret
    exact ⟨by rw [HP.out]; rfl, alloc_below _ _⟩

attribute [local irreducible] wpQuiet in
set_option maxRecDepth 100000 in
set_option maxHeartbeats 8000000 in
theorem insD {W : World} {kd pt fn ar : Int} {ins : List GE} {ip : Option Addr} {ic : Nat} (hx : ERow W ip ic ins) {p : Option Addr} {cap : Nat} {os : List OV} (ho : GRow W p cap os) (hlen : os.length ≤ 24) (k1 : kd ≠ 1) (k8 : kd ≠ 8) :
    Calls Tryz.prog 119 #[.agg #[.int .i64 kd, .int .i64 pt, .int .i64 fn, .int .i64 ar, .slice ip ins.length ic], .slice p os.length cap] W fun e w' => e = .returned (.bool (decide ((1 : Int) ≤ (ins.length : Int) ∧ (ins.length : Int) ≤ 1) && ins.all (edgeC (os.map OV.o)))) ∧ Below W.heap.size W w' := by
  have i1 := hx.le
  have i2 := hx.top
  have i3 := ho.le
  have i4 := ho.top
  have HX := hide hx
  have HO := hide ho
  have hb0 := alloc_below W (.cells #[.int .i64 kd, .int .i64 pt, .int .i64 fn, .int .i64 ar, .slice ip ins.length ic] 95)
  have HB0 := hide hb0
  have c1 := ne_eq k1
  have c8 := ne_eq k8
  clear k1 k8
  clear hx ho hb0
  by_cases hw : (1 : Int) ≤ (ins.length : Int) ∧ (ins.length : Int) ≤ 1
  rotate_left
  · have w1 := bf hw
    have HP : Hid (decide ((1 : Int) ≤ (ins.length : Int) ∧ (ins.length : Int) ≤ 1) = false) := hide (decide_eq_false hw)
    clear hw
    go_enter Tryz.func119, Tryz.ntmps119
    go_wp2_with fail
    refine within_any.mono ?_
    rintro _ _ ⟨rfl, rfl⟩
    go_wp2
    go_ret
    exact ⟨by rw [HP.out]; rfl, HB0.out⟩
  · have w1 := bt hw.1 hw.2
    have HP : Hid (decide ((1 : Int) ≤ (ins.length : Int) ∧ (ins.length : Int) ≤ 1) = true) := hide (decide_eq_true hw)
    have hil : ins.length ≤ 4 := by omega
    clear hw
    go_enter Tryz.func119, Tryz.ntmps119
    go_wp2_with fail
    refine within_any.mono ?_
    rintro _ _ ⟨rfl, rfl⟩
    go_wp2_with fail
    go_loopw [25] (fun i wr => ∃ (k : Nat), k ≤ ins.length ∧ i = .int .i64 (k : Int) ∧ Hid ((ins.take k).all (edgeC (os.map OV.o)) = true) ∧ Hid (Below W.heap.size W wr)) (fun i _ => ins.length - (intOf i).toNat)
    case atStart => exact ⟨0, Nat.zero_le _, rfl, hide rfl, HB0⟩
    case round =>
      obtain ⟨k, hk, rfl, HA, HB⟩ := hrel
      by_cases hlt : k < ins.length
      · obtain ⟨g, o, rfl, d0, d1⟩ := (HX.out.below HB.out).cell k hlt
        obtain ⟨e, he⟩ : ∃ e, ins[k]! = e := ⟨_, rfl⟩
        rw [he] at d0 d1
        obtain ⟨ef, ep⟩ := e
        simp only at d0 d1
        have hb1 := alloc_below wr (.cells #[.int .i64 ef, .int .i64 ep] 119 (0, 0))
        obtain ⟨wx, hwx⟩ : ∃ wx, wx = wr.alloc (.cells #[.int .i64 ef, .int .i64 ep] 119 (0, 0)) := ⟨_, rfl⟩
        rw [← hwx] at hb1
        have hbx : wx.heap[wr.heap.size]? = some (.cells #[.int .i64 ef, .int .i64 ep] 119 (0, 0)) := by rw [hwx]; exact heap_alloc_new _ _
        obtain ⟨xB, hxB⟩ : ∃ xB, wr.heap.size = xB := ⟨_, rfl⟩
        rw [hxB] at hbx
        have y0 : wx.cell? ⟨xB, 0, none⟩ = some (.int .i64 ef) := by simp [World.cell?, hbx]
        have y1 : wx.cell? ⟨xB, 1, none⟩ = some (.int .i64 ep) := by simp [World.cell?, hbx]
        have HBx : Hid (Below W.heap.size W wx) := hide (HB.out.trans (hb1.mono HB.out.size))
        have HWX := hide hwx
        have HE := hide he
        clear hb1 hbx he
        go_upto_region 12 with fail
        rw [← HWX.out]
        clear HWX hwx hxB d0 d1
        have hwA : IntKind.i64.wrap ((os.length : Int) - 1) = (os.length : Int) - 1 := by rw [IntKind.wrap_i64]; omega
        by_cases c1 : 0 ≤ ef ∧ ef ≤ (os.length : Int) - 1
        · obtain ⟨fn', rfl⟩ : ∃ fn' : Nat, ef = (fn' : Int) := ⟨ef.toNat, by omega⟩
          have hfl : fn' < os.length := by omega
          obtain ⟨g2, o2, rfl, hc⟩ := (HO.out.below HBx.out).cell fn' hfl
          obtain ⟨z, hz⟩ : ∃ z, os[fn']! = z := ⟨_, rfl⟩
          rw [hz] at hc
          have z0 : wx.cell? ⟨g2, o2 + fn' * 5, none⟩ = some (.int .i64 z.o.kind) := hc 0 (by omega)
          have z1 : wx.cell? ⟨g2, o2 + fn' * 5 + 1, none⟩ = some (.int .i64 z.o.part) := hc 1 (by omega)
          have z2 : wx.cell? ⟨g2, o2 + fn' * 5 + 2, none⟩ = some (.int .i64 z.o.fn) := hc 2 (by omega)
          have z3 : wx.cell? ⟨g2, o2 + fn' * 5 + 3, none⟩ = some (.int .i64 z.o.arg) := hc 3 (by omega)
          have z4 : wx.cell? ⟨g2, o2 + fn' * 5 + 4, none⟩ = some (.slice z.ip z.o.ins.length z.ic) := hc 4 (by omega)
          have HV1 : Hid ((decide ((0 : Int) ≤ (fn' : Int)) && decide ((fn' : Int) ≤ (os.length : Int) - 1)) = true) := hide (bt c1.1 c1.2)
          obtain ⟨PT, hPT⟩ : ∃ PT, portsC z.o.kind z.o.arg = PT := ⟨_, rfl⟩
          have hpl := portsC_le z.o.kind z.o.arg
          rw [hPT] at hpl
          have HED : Hid (edgeC (os.map OV.o) ⟨(fn' : Int), ep⟩ = decide (0 ≤ ep ∧ ep ≤ PT - 1)) := by
            refine hide ?_
            have e1 : (os.map OV.o)[fn']! = z.o := by rw [getO os hfl, hz]
            have e2 : decide (0 ≤ (fn' : Int) ∧ (fn' : Int) ≤ (os.length : Int) - 1) = true := decide_eq_true c1
            unfold edgeC
            simp only [List.length_map, Int.toNat_natCast, e1, hPT, e2, Bool.true_and]
          have hwB : IntKind.i64.wrap (PT - 1) = PT - 1 := by rw [IntKind.wrap_i64]; omega
          have HPR : Hid (portsC z.o.kind z.o.arg = PT) := hide hPT
          clear hc hz c1 hPT
          by_cases c2 : 0 ≤ ep ∧ ep ≤ PT - 1
          · have HV2 : Hid ((decide ((0 : Int) ≤ ep) && decide (ep ≤ PT - 1)) = true) := hide (bt c2.1 c2.2)
            have HAL : Hid ((ins.take (k + 1)).all (edgeC (os.map OV.o)) = true) := by
              refine hide ?_
              rw [all_snoc hlt, HA.out, HE.out, HED.out, decide_eq_true c2]
              rfl
            clear c2
            refine region_class (fun X => Below wx.heap.size wx X) (by kernel_rfl) (by kernel_rfl) (Below.refl _ wx).drew ?_
            repeat
              first
                | (refine BigFrame.wpQuiet_skip (by rfl) ?_
                   simp only [Act.put, List.setIfInBounds_toArray, List.set_cons_zero, List.set_cons_succ])
                | (refine BigFrame.wpQuiet_want (by rfl) (fun K hK => ?_)
                   unfold Oper.quiet
                   apply Exists.intro
                   refine ⟨fun X hX => ?_, hK _ ?_⟩
                   · have f0 := cell_later hX y0
                     have f1 := cell_later hX y1
                     have t0 := cell_later hX z0
                     have t1 := cell_later hX z1
                     have t2 := cell_later hX z2
                     have t3 := cell_later hX z3
                     have t4 := cell_later hX z4
                     first
                      | (go_simp; done)
                      | (go_simp; exact rfl)
                      | (go_simp
                         first
                         | (go_at_call 99; refine within_any.mono ?_; rintro e w3 ⟨rfl, rfl⟩; (try rw [HV1.out]); (try rw [HV2.out]); exact ⟨rfl, hX⟩)
                         | (go_at_call 68; refine ports_any.mono ?_; rintro e w3 ⟨rfl, hb3⟩; rw [HPR.out]; exact ⟨rfl, hX.trans (hb3.mono hX.size)⟩))
                   clear hK K
                   simp only [Act.put, List.setIfInBounds_toArray, List.set_cons_zero, List.set_cons_succ])
            refine wpQuiet_nil (fun X hX => ?_)
            have HX2 : Hid (Below W.heap.size W X) := hide (HBx.out.trans (hX.mono HBx.out.size))
            clear hX
            go_wp2
            exact ⟨⟨k + 1, by omega, by go_num, HAL, HX2⟩, by simp [intOf]; omega⟩
          · have HV2 : Hid ((decide ((0 : Int) ≤ ep) && decide (ep ≤ PT - 1)) = false) := hide (bf c2)
            have HAL : Hid (ins.all (edgeC (os.map OV.o)) = false) := by
              refine hide (all_no hlt ?_)
              rw [HE.out, HED.out, decide_eq_false c2]
            clear c2
            refine region_class (fun X => Below wx.heap.size wx X) (by kernel_rfl) (by kernel_rfl) (Below.refl _ wx).drew ?_
            repeat
              first
                | (refine BigFrame.wpQuiet_skip (by rfl) ?_
                   simp only [Act.put, List.setIfInBounds_toArray, List.set_cons_zero, List.set_cons_succ])
                | (refine BigFrame.wpQuiet_want (by rfl) (fun K hK => ?_)
                   unfold Oper.quiet
                   apply Exists.intro
                   refine ⟨fun X hX => ?_, hK _ ?_⟩
                   · have f0 := cell_later hX y0
                     have f1 := cell_later hX y1
                     have t0 := cell_later hX z0
                     have t1 := cell_later hX z1
                     have t2 := cell_later hX z2
                     have t3 := cell_later hX z3
                     have t4 := cell_later hX z4
                     first
                      | (go_simp; done)
                      | (go_simp; exact rfl)
                      | (go_simp
                         first
                         | (go_at_call 99; refine within_any.mono ?_; rintro e w3 ⟨rfl, rfl⟩; (try rw [HV1.out]); (try rw [HV2.out]); exact ⟨rfl, hX⟩)
                         | (go_at_call 68; refine ports_any.mono ?_; rintro e w3 ⟨rfl, hb3⟩; rw [HPR.out]; exact ⟨rfl, hX.trans (hb3.mono hX.size)⟩))
                   clear hK K
                   simp only [Act.put, List.setIfInBounds_toArray, List.set_cons_zero, List.set_cons_succ])
            refine wpQuiet_nil (fun X hX => ?_)
            have HX2 : Hid (Below W.heap.size W X) := hide (HBx.out.trans (hX.mono HBx.out.size))
            clear hX
            go_wp2
            go_ret
            exact ⟨by rw [HAL.out, Bool.and_false]; rfl, HX2.out⟩
        · have HV1 : Hid ((decide ((0 : Int) ≤ ef) && decide (ef ≤ (os.length : Int) - 1)) = false) := hide (bf c1)
          have HAL : Hid (ins.all (edgeC (os.map OV.o)) = false) := by
            refine hide (all_no hlt ?_)
            rw [HE.out]
            unfold edgeC
            simp only [List.length_map]
            rw [decide_eq_false c1]
            rfl
          clear c1
          refine region_class (fun X => Below wx.heap.size wx X) (by kernel_rfl) (by kernel_rfl) (Below.refl _ wx).drew ?_
          repeat
            first
              | (refine BigFrame.wpQuiet_skip (by rfl) ?_
                 simp only [Act.put, List.setIfInBounds_toArray, List.set_cons_zero, List.set_cons_succ])
              | (refine BigFrame.wpQuiet_want (by rfl) (fun K hK => ?_)
                 unfold Oper.quiet
                 apply Exists.intro
                 refine ⟨fun X hX => ?_, hK _ ?_⟩
                 · have f0 := cell_later hX y0
                   have f1 := cell_later hX y1
                   first
                    | (go_simp; done)
                    | (go_simp; exact rfl)
                    | (go_simp
                       first
                       | (go_at_call 99; refine within_any.mono ?_; rintro e w3 ⟨rfl, rfl⟩; (try rw [HV1.out]); exact ⟨rfl, hX⟩)
                       | (go_at_call 68; refine ports_any.mono ?_; rintro e w3 ⟨rfl, hb3⟩; exact ⟨rfl, hX.trans (hb3.mono hX.size)⟩))
                 clear hK K
                 simp only [Act.put, List.setIfInBounds_toArray, List.set_cons_zero, List.set_cons_succ])
          refine wpQuiet_nil (fun X hX => ?_)
          have HX2 : Hid (Below W.heap.size W X) := hide (HBx.out.trans (hX.mono HBx.out.size))
          clear hX
          go_wp2
          go_ret
          exact ⟨by rw [HAL.out, Bool.and_false]; rfl, HX2.out⟩
      · obtain rfl : k = ins.length := by omega
        have HAL : Hid (ins.all (edgeC (os.map OV.o)) = true) := by
          have := HA.out
          rw [List.take_length] at this
          exact hide this
        go_wp2
        go_ret
        exact ⟨by rw [HAL.out, HP.out]; rfl, HB.out⟩

theorem ins_any {W : World} {x : OV} (hx : x.ok W) {p : Option Addr} {cap : Nat} {os : List OV} (ho : GRow W p cap os) (hlen : os.length ≤ 24) :
    Calls Tryz.prog 119 #[.agg #[.int .i64 x.o.kind, .int .i64 x.o.part, .int .i64 x.o.fn, .int .i64 x.o.arg, .slice x.ip x.o.ins.length x.ic], .slice p os.length cap] W fun e w' => e = .returned (.bool (insC x.o (os.map OV.o))) ∧ Below W.heap.size W w' := by
  obtain ⟨⟨kd, pt, fn, ar, ins⟩, ip, ic⟩ := x
  unfold OV.ok at hx
  unfold insC leastC mostC
  simp only at hx ⊢
  by_cases k1 : kd = 1
  · subst k1; exact insA hx ho
  by_cases k8 : kd = 8
  · subst k8; exact insB hx ho hlen
  · simp only [k1, k8, if_false]
    exact insD hx ho hlen k1 k8
end Go.Proofs.YtlfipmieaabagaaGreat
