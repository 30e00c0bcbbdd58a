/-
  GraphLeads: in a graph that may be each port leads to an operator behind it, there are as many ports as inputs, and from each operator one comes to the sink: for every input. No conditions.
-/
import Derived.Test.YtmoigniboiekfaaGlv
import Derived.Test.YtmoigniboiekfaaGle
import Derived.Test.YtmoigniboiekfaaGed
namespace Go.Proofs.Ytmoigniboiekfaa.graphLeads
open Go.ChangeShapes Go.WideShapes Go.ChangeAt Go.RowKit

set_option maxRecDepth 100000 in
set_option maxHeartbeats 8000000 in
theorem walk {W : World} {parts : Int} {p : Option Addr} {cap : Nat} {os : List OV} (_ : I6 parts) (ho : GRow W p cap os) (_ : ∀ o ∈ os, o.o.fine) :
    Calls Try.prog 6 #[.agg #[.int .i64 parts, .slice p os.length cap]] W fun e w' => e = .returned (.bool true) ∧ Below W.heap.size W w' := by
  have i3 := ho.le
  have i4 := ho.top
  have hb0 := alloc_below W (.cells #[.int .i64 parts, .slice p os.length cap] 24 (0, 0))
  have hv1 : (W.alloc (.cells #[.int .i64 parts, .slice p os.length cap] 24 (0, 0))).heap[W.heap.size]? = some (.cells #[.int .i64 parts, .slice p os.length cap] 24 (0, 0)) := heap_alloc_new W _
  have HO := hide (ho.below hb0)
  have HVB := hide hb0
  clear ho hb0
  obtain ⟨rc, hrc⟩ : ∃ rc, checkC parts (os.map OV.o) = rc := ⟨_, rfl⟩
  obtain ⟨r1, r2⟩ := rc
  have HRC := hide hrc
  clear hrc
  obtain ⟨L, hL⟩ : ∃ L, os.length = L := ⟨_, rfl⟩
  have HL := hide hL
  have HML : Hid ((os.map OV.o).length = L) := hide (by simpa using hL)
  rw [hL] at i3 hv1 HVB ⊢
  obtain ⟨V, hV⟩ : ∃ V, V = W.alloc (.cells #[.int .i64 parts, .slice p L cap] 24 (0, 0)) := ⟨_, rfl⟩
  rw [hL] at HO
  rw [← hV] at HO HVB hv1
  clear hL
  go_enter Try.func6, Try.ntmps6
  go_wp2_with fail
  rw [← hV]
  obtain ⟨gB, hgB⟩ : ∃ gB, W.heap.size = gB := ⟨_, rfl⟩
  rw [hgB] at hv1 ⊢
  have z0 : V.cell? ⟨gB, 0, none⟩ = some (.int .i64 parts) := by simp [World.cell?, hv1]
  have z1 : V.cell? ⟨gB, 1, none⟩ = some (.slice p L cap) := by simp [World.cell?, hv1]
  clear hV hv1 hgB
  refine live_any.mono ?_
  rintro _ w1 ⟨rfl, b1⟩
  have y0 := cell_later b1 z0
  have y1 := cell_later b1 z1
  have HB1 := hide b1
  have HCK := check_any (parts := parts) (HO.out.below HB1.out)
  rw [HRC.out, HL.out] at HCK
  have HCK := hide HCK
  clear b1
  go_wp2_with fail
  refine HCK.out.mono ?_
  rintro _ w2 ⟨rfl, b2⟩
  have x0 := cell_later b2 y0
  have x1 := cell_later b2 y1
  have HB2 := hide (HB1.out.trans (b2.mono HB1.out.size))
  clear b2 y0 y1 HCK HB1
  by_cases hr : r2 = 0
  rotate_left
  · have e1 : (r2 != 0) = true := by simpa using hr
    have HF := hide (HVB.out.trans (HB2.out.mono HVB.out.size))
    clear hr
    go_wp2
    go_ret
    exact ⟨rfl, HF.out⟩
  · subst hr
    have HGD : Hid (Good parts (os.map OV.o)) := hide (good_of (by rw [HRC.out]))
    have hL24 : L ≤ 24 := by have := HGD.out.len; rw [HML.out] at this; exact this
    obtain ⟨N, hN⟩ : ∃ N, (flatC (os.map OV.o)).length = N := ⟨_, rfl⟩
    have hN96 : N ≤ 96 := by rw [← hN]; exact flat_96 HGD.out.scan HGD.out.len
    have HNN := hide hN
    have HED := hide (edges_any (parts := parts) (HO.out.below HB2.out) HL.out (by omega) (fun x hx => by have := HGD.out.four x.o (List.mem_map_of_mem hx); omega) hN (by omega))
    obtain ⟨sk, hsk, hskl, hsku⟩ := HGD.out.sink
    have HSK := hide hsk
    have HSU := hide hsku
    rw [HML.out] at hskl
    clear hsk hsku hN
    go_wp2_with fail
    refine HED.out.mono ?_
    rintro _ w3 ⟨p1, c1, p2, c2, rfl, _, O2, b3⟩
    obtain ⟨_, _, ef, ec1, ec2⟩ := own_form O2
    simp only [Value.slice.injEq, true_and] at ef
    obtain ⟨rfl, rfl⟩ := ef
    have u0 := cell_later b3 x0
    have u1 := cell_later b3 x1
    have HB3 := hide (HB2.out.trans (b3.mono HB2.out.size))
    have HSN := sink_any (parts := parts) (HO.out.below HB3.out)
    rw [HSK.out, HL.out] at HSN
    have e2 : atN (some sk) = (sk : Int) := rfl
    have e3 : (some sk).isSome = true := rfl
    rw [e2, e3] at HSN
    have HSN := hide HSN
    clear b3 x0 x1 HED O2 HB2 e2 e3 HRC
    go_wp2_with fail
    refine HSN.out.mono ?_
    rintro _ w4 ⟨rfl, b4⟩
    have t0 := cell_later b4 u0
    have t1 := cell_later b4 u1
    have HB4 := hide (HB3.out.trans (b4.mono HB3.out.size))
    clear b4 u0 u1 HB3 HSN
    go_wp2_with fail
    go_loopw [42, 5] (fun i s5 wr => ∃ (k : Nat), k ≤ L ∧ i = .int .i64 (k : Int) ∧ s5 = .int .i64 (sumP (os.map OV.o) k) ∧ Hid (Below w4.heap.size w4 wr)) (fun i _ _ => L - (intOf i).toNat)
    case atStart => exact ⟨0, Nat.zero_le _, rfl, rfl, hide (Below.refl _ _)⟩
    case round =>
      obtain ⟨k, hk, rfl, rfl, HB⟩ := hrel
      by_cases hlt : k < L
      · have hlt2 : k < os.length := by rw [HL.out]; exact hlt
        have HBV : Hid (Below V.heap.size V wr) := hide (HB4.out.trans (HB.out.mono HB4.out.size))
        obtain ⟨g, o, rfl, hc⟩ := (HO.out.below HBV.out).cell k hlt2
        have HMO := hide (getO os hlt2)
        have HKM : Hid (k < (os.map OV.o).length) := hide (by rw [HML.out]; exact hlt)
        obtain ⟨x, hx⟩ : ∃ x, os[k]! = x := ⟨_, rfl⟩
        rw [hx] at hc HMO
        obtain ⟨⟨kd, pt, fn, ar, ins⟩, ip, ic⟩ := x
        have d0 : wr.cell? ⟨g, o + k * 5, none⟩ = some (.int .i64 kd) := hc 0 (by omega)
        have d1 : wr.cell? ⟨g, o + k * 5 + 1, none⟩ = some (.int .i64 pt) := hc 1 (by omega)
        have d2 : wr.cell? ⟨g, o + k * 5 + 2, none⟩ = some (.int .i64 fn) := hc 2 (by omega)
        have d3 : wr.cell? ⟨g, o + k * 5 + 3, none⟩ = some (.int .i64 ar) := hc 3 (by omega)
        have d4 : wr.cell? ⟨g, o + k * 5 + 4, none⟩ = some (.slice ip ins.length ic) := hc 4 (by omega)
        have HPO : Hid (portsO (os.map OV.o) k = portsC kd ar) := hide (by unfold portsO; rw [HMO.out])
        have hpp := portsC_le kd ar
        obtain ⟨q, hq⟩ : ∃ q : Nat, portsC kd ar = (q : Int) := ⟨(portsC kd ar).toNat, by omega⟩
        have HPA := ports_any (W := wr.alloc (.cells #[.int .i64 kd, .int .i64 pt, .int .i64 fn, .int .i64 ar, .slice ip ins.length ic] 31 (0, 0))) (kd := kd) (pt := pt) (fn := fn) (ar := ar) (ip := ip) (n := ins.length) (ic := ic)
        rw [hq] at HPA HPO hpp
        have HPA := hide HPA
        have hsb := sumP_bd (os.map OV.o) k
        have HSS : Hid (sumP (os.map OV.o) (k + 1) = sumP (os.map OV.o) k + (q : Int)) := hide (by rw [← HPO.out]; rfl)
        obtain ⟨S, hS⟩ : ∃ S, sumP (os.map OV.o) k = S := ⟨_, rfl⟩
        rw [hS] at hsb HSS ⊢
        clear hc hx hq hS
        go_wp2_with fail
        refine HPA.out.mono ?_
        rintro _ w5 ⟨rfl, b5⟩
        have HB5 : Hid (Below w4.heap.size w4 w5) := hide (HB.out.trans (((alloc_below _ _).trans (b5.mono (by simp))).mono HB.out.size))
        clear b5 d0 d1 d2 d3 d4 HPA
        go_wp2_with fail
        go_loopw [49, 5] (fun i s5 wq => ∃ (j : Nat), j ≤ q ∧ i = .int .i64 (j : Int) ∧ s5 = .int .i64 (S + (j : Int)) ∧ Hid (Below w4.heap.size w4 wq)) (fun i _ _ => q - (intOf i).toNat)
        case atStart => exact ⟨0, Nat.zero_le _, rfl, by simp, HB5⟩
        case round =>
          obtain ⟨j, hj, rfl, rfl, HBj⟩ := hrel
          rename World => wq
          by_cases hjl : j < q
          · have q0 := cell_later HBj.out t0
            have q1 := cell_later HBj.out t1
            obtain ⟨kk, ii, hto, h1, h2, h3⟩ := HGD.out.leads (p := j) HKM.out (by rw [HPO.out]; omega)
            have HBV2 : Hid (Below V.heap.size V wq) := hide (HB4.out.trans (HBj.out.mono HB4.out.size))
            have HTO := to_any (parts := parts) (ef := (k : Int)) (ep := (j : Int)) (HO.out.below HBV2.out)
            rw [hto, HL.out] at HTO
            have HTO := hide HTO
            rw [HML.out] at h2
            have HK2 : Hid (kk < os.length) := hide (by rw [HL.out]; exact h2)
            have HMK := hide (getO os HK2.out)
            have HII := hide h3
            clear hto h3
            go_wp2_with fail
            refine HTO.out.mono ?_
            rintro _ w6 ⟨rfl, b6⟩
            have HB6 : Hid (Below w4.heap.size w4 w6) := hide (HBj.out.trans (b6.mono HBj.out.size))
            have HBV6 : Hid (Below V.heap.size V w6) := hide (HB4.out.trans (HB6.out.mono HB4.out.size))
            have f1 := cell_later b6 q1
            obtain ⟨g', o', hg', hc⟩ := (HO.out.below HBV6.out).cell kk HK2.out
            simp only [Option.some.injEq, Addr.mk.injEq, and_true] at hg'
            obtain ⟨rfl, rfl⟩ := hg'
            obtain ⟨x, hx⟩ : ∃ x, os[kk]! = x := ⟨_, rfl⟩
            have hil := HII.out
            rw [HMK.out, hx] at hil
            rw [hx] at hc
            obtain ⟨⟨kd', pt', fn', ar', ins'⟩, ip', ic'⟩ := x
            have v4 : w6.cell? ⟨g, o + kk * 5 + 4, none⟩ = some (.slice ip' ins'.length ic') := hc 4 (by omega)
            simp only at hil
            have l1 : decide ((kk : Int) ≤ (k : Int)) = false := decide_eq_false (by omega)
            have l2 : decide ((ii : Int) < 0) = false := decide_eq_false (by omega)
            have l3 : decide ((ii : Int) ≥ (ins'.length : Int)) = false := decide_eq_false (by omega)
            clear hc hx b6 q0 q1 HTO
            go_wp2
            exact ⟨⟨j + 1, by omega, by first | rfl | go_num, by first | rfl | go_num, HB6⟩, by simp [intOf]; omega⟩
          · obtain rfl : j = q := by omega
            go_wp2_with fail
            go_loopw [16] (fun i wz => ∃ (at_ : Nat), at_ < L ∧ i = .int .i64 (at_ : Int) ∧ Hid (Below w4.heap.size w4 wz)) (fun i _ => L - (intOf i).toNat)
            case atStart => exact ⟨k, hlt, rfl, HBj⟩
            case round =>
              obtain ⟨at_, hat, rfl, HBz⟩ := hrel
              rename World => wz
              by_cases hs : at_ = sk
              · subst hs
                go_wp2
                exact ⟨⟨k + 1, by omega, by first | rfl | go_num, by rw [HSS.out], HBz⟩, by simp [intOf]; omega⟩
              · have HAM : Hid (at_ < (os.map OV.o).length) := hide (by rw [HML.out]; exact hat)
                have hk9 : ((os.map OV.o)[at_]!).kind ≠ 9 := fun e => hs (HSU.out at_ HAM.out e)
                have hp1 := HGD.out.ports HAM.out hk9
                obtain ⟨kk, ii, hto, h1, h2, h3⟩ := HGD.out.leads (p := 0) HAM.out (by simp; omega)
                have HBV2 : Hid (Below V.heap.size V wz) := hide (HB4.out.trans (HBz.out.mono HB4.out.size))
                have HTO := to_any (parts := parts) (ef := (at_ : Int)) (ep := 0) (HO.out.below HBV2.out)
                have ez : ((0 : Nat) : Int) = 0 := rfl
                rw [ez] at hto
                rw [hto, HL.out] at HTO
                have HTO := hide HTO
                rw [HML.out] at h2
                have n1 : ((at_ : Int) != (sk : Int)) = true := by simp; omega
                have q0 := cell_later HBz.out t0
                have q1 := cell_later HBz.out t1
                clear hto h3 hk9 hp1 hs ez
                go_wp2_with fail
                refine HTO.out.mono ?_
                rintro _ w6 ⟨rfl, b6⟩
                have HB6 : Hid (Below w4.heap.size w4 w6) := hide (HBz.out.trans (b6.mono HBz.out.size))
                have l1 : decide ((kk : Int) ≤ (at_ : Int)) = false := decide_eq_false (by omega)
                clear b6 q0 q1 HTO
                go_wp2
                exact ⟨⟨kk, h2, rfl, HB6⟩, by simp [intOf]; omega⟩
      · obtain rfl : k = L := by omega
        have HSM : Hid (sumP (os.map OV.o) k = (N : Int)) := by
          have := HGD.out.total
          rw [HML.out, HNN.out] at this
          exact hide this
        rw [HSM.out]
        have HF := hide (HVB.out.trans ((HB4.out.trans (HB.out.mono HB4.out.size)).mono HVB.out.size))
        go_wp2
        go_ret
        exact ⟨by first | rfl | simp, HF.out⟩
set_option maxRecDepth 100000 in
theorem contract (H : Type) (enc : TypeId × Value → H) (W : World) (base : Nat) (args : Array Value) (ds gs : List (DataW H)) (before : List MemPlace)
    (hval : ∀ (j : Nat) t v, Try.f6.params[j]? = some t → args[j]? = some v → Value.okWide Try.prog W .any base t v)
    (hW : DataW.Whole enc Try.prog Try.f6.params.toList Rows.graphLeadsSpec.vars false W args.toList ds gs before) :
    Calls Try.prog 6 args W fun e W' => ∃ v, e = .returned v ∧ Rows.graphLeadsSpec.post enc Try.prog Try.f6 false true false false W args v W' := by
  have hW' := hW
  obtain ⟨p, q, hA0, hV, rfl, hfz, hnd⟩ := hW
  have hA : DataW.TrodAll enc Try.prog W 0 (fun _ => true) true Try.f6.params.toList args.toList ds p := hA0
  rw [Try.params6] at hA hval
  obtain ⟨v0, vs0, d0, ds0, p0, q0, hargs, rfl, rfl, h0, r0⟩ := trodAll_cons hA
  obtain ⟨rfl, rfl, rfl⟩ := trodAll_nil r0
  obtain rfl : args = #[v0] := by cases args; simp_all
  obtain ⟨rfl, rfl⟩ := trodVars_none hV
  obtain ⟨cs0, rfl, hcs0⟩ := okWide_struct Try.underlying24 (hval 0 24 v0 rfl rfl)
  rw [Try.cellsGraph] at hcs0
  have k0 := h0
  have lt0 : ∀ x ∈ p0, x.block < W.heap.size := by obtain ⟨m, hm⟩ := k0; exact DataW.trod_lt m _ _ _ hm
  obtain ⟨f0, hf0⟩ := h0
  have hcc0 : (Value.agg cs0).cells.toList = cs0.toList := by simp [Value.cells]
  rw [hcc0] at hf0
  obtain ⟨parts0, gp0, gc0, os0, rfl, I0, G0, F0, B0⟩ := arg_graph hcs0 hf0
  clear hA0
  refine (walk I0 G0 F0).mono fun e W' ⟨he, bel⟩ => ?_
  subst he
  exact ⟨_, rfl, _, _, _, [], _, [], hW', trodAll_mk1 (shut_bool Try.underlying4 _), (trodAll_cons_mk (Below.trod Try.laidOut (by kernel_rfl) (of_decide_eq_true (by kernel_rfl)) k0 bel lt0) trodAll_mk0), rfl, bel.frame _, fun h => by cases h⟩

set_option maxRecDepth 100000 in
theorem lifted (os : Os) (started : os.Started) (H : Type) (enc : TypeId × Value → H) :
    ReturnsInHanded {} Try.checked os 6 .any (Rows.graphLeadsSpec.pre6 enc Try.prog Try.f6 Rows.graphLeadsRow.domain false) (Rows.graphLeadsSpec.post enc Try.prog Try.f6 false true false false) := by
  refine returnsInHanded_of_change_sized (C := Try.checked) Try.ownK started (by kernel_rfl) Try.func6
    (ChangeSpec.witness6 (enc := enc) (C := Try.checked) false ⟨#[], #[.agg #[.int .i64 0, .slice none 0 0]], []⟩ 8 (by kernel_rfl) (by kernel_rfl) (by kernel_rfl) (by kernel_rfl)) ?_
  intro W base args ds gs before hval hW _ hsz _
  exact contract H enc W base args ds gs before hval hW

set_option maxRecDepth 100000 in
theorem proved : Rows.GraphLeadsSaid :=
  OpenClaim.holds_of_wide 6 Try.f6 rfl rfl rfl rfl rfl rfl rfl ⟨rfl, rfl, rfl, rfl, rfl⟩ rfl rfl rfl rfl rfl (by kernel_rfl) Try.func6 (by kernel_rfl)
    (of_decide_eq_true (by kernel_rfl)) (by unfold Func.isWrapper; first | (rw [if_pos (by decide +kernel)]; kernel_rfl) | (rw [if_neg (by decide +kernel)]; exact ⟨rfl, rfl⟩))
    (fun os started H enc _ => lifted os started H enc)

end Go.Proofs.Ytmoigniboiekfaa.graphLeads
