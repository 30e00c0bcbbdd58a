/-
  GraphFinds: where any port leads, sources and sink, and all inputs, of any graph: where what is read is of bulk at most 1048576. The condition: that.
-/
import Derived.Test.YtmoigniboiekfaaGlv
import Derived.Test.YtmoigniboiekfaaGed
import Derived.Test.YtmoigniboiekfaaGto
import Derived.BigQuiet
namespace Go.Proofs.Ytmoigniboiekfaa.graphFinds
open Go.ChangeShapes Go.WideShapes Go.ChangeAt Go.RowKit

theorem below_drewN {n : Nat} {A B : World} (h : Below n A B) (k : Nat) : Below n A (B.drewN k) := ⟨h.os, h.tape, h.output, h.size, h.block⟩
theorem weight_flat : ∀ os : List GO, (flatC os).length + os.length ≤ weightG os
  | [] => Nat.le_refl _
  | o :: os => by
    have := weight_flat os
    simp only [flatC, List.flatMap_cons, List.length_append, List.length_cons, weightG, List.map_cons, List.sum_cons, GO.wt] at *
    omega
theorem weight_one {os : List GO} {o : GO} (h : o ∈ os) : o.ins.length ≤ weightG os := by
  induction os with
  | nil => cases h
  | cons x os ih =>
    simp only [weightG, List.map_cons, List.sum_cons, GO.wt] at *
    rcases List.mem_cons.1 h with rfl | h
    · omega
    · have := ih h; omega
theorem place {os : List GO} {m j : Nat} (hm : m < os.length) (hj : j < (os[m]!).ins.length) : (flatC (os.take m)).length + j < (flatC os).length ∧ (atsG 0 os)[(flatC (os.take m)).length + j]! = (m : Int) ∧ (flatC os)[(flatC (os.take m)).length + j]! = (os[m]!).ins[j]! := by
  have h1 := tellG_get os 0 m j hm hj
  have hl : (flatC (os.take m)).length + j < (flatC os).length := by
    have := pos_next hm
    have := pos_le (os := os) (m := m + 1)
    omega
  rw [tellG_ats os 0 _ hl] at h1
  simp only [Nat.zero_add, eV] at h1
  refine ⟨hl, ?_, ?_⟩
  · have := congrArg (fun a : Array Value => a[0]?) h1
    simpa using this
  · have := congrArg (fun a : Array Value => a[1]?) h1
    simp only [List.getElem?_toArray, List.getElem?_cons_succ, List.getElem?_cons_zero, Option.some.injEq, Value.agg.injEq] at this
    have e := congrArg Array.toList this
    simp only [List.cons.injEq, Value.int.injEq, true_and, and_true] at e
    cases ha : (flatC os)[(flatC (os.take m)).length + j]! with
    | mk f p =>
      cases hb : (os[m]!).ins[j]! with
      | mk f' p' =>
        rw [ha, hb] at e
        simp only at e
        rw [e.1, e.2]

set_option maxRecDepth 100000 in
set_option maxHeartbeats 16000000 in
theorem walk {W : World} {parts ef ep : Int} {p : Option Addr} {cap : Nat} {os : List OV} (_ : I6 parts) (ho : GRow W p cap os) (_ : ∀ o ∈ os, o.o.fine) (hw : weightG (os.map OV.o) ≤ 1048576) (_ : I6 ef) (_ : I6 ep) :
    Calls Try.prog 4 #[.agg #[.int .i64 parts, .slice p os.length cap], .int .i64 ef, .int .i64 ep] W fun e w' => e = .returned (.bool true) ∧ Below W.heap.size W w' := by
  have i3 := ho.le
  have i4 := ho.top
  have hb0 := alloc_below W (.cells #[.int .i64 parts, .slice p os.length cap] 24 (0, 0))
  have hv1 : (W.alloc (.cells #[.int .i64 parts, .slice p os.length cap] 24 (0, 0))).heap[W.heap.size]? = some (.cells #[.int .i64 parts, .slice p os.length cap] 24 (0, 0)) := heap_alloc_new W _
  have HO := hide (ho.below hb0)
  have HVB := hide hb0
  have HW := hide hw
  clear ho hb0 hw
  obtain ⟨L, hL⟩ : ∃ L, os.length = L := ⟨_, rfl⟩
  have HL := hide hL
  have HML : Hid ((os.map OV.o).length = L) := hide (by simpa using hL)
  rw [hL] at i3 hv1 HVB ⊢
  obtain ⟨V, hV⟩ : ∃ V, V = W.alloc (.cells #[.int .i64 parts, .slice p L cap] 24 (0, 0)) := ⟨_, rfl⟩
  rw [hL] at HO
  rw [← hV] at HO HVB hv1
  clear hL
  have hwf := weight_flat (os.map OV.o)
  rw [HML.out] at hwf
  obtain ⟨N, hN⟩ : ∃ N, (flatC (os.map OV.o)).length = N := ⟨_, rfl⟩
  have hNb : N ≤ 1048576 ∧ L ≤ 1048576 := by have := HW.out; omega
  have HNN := hide hN
  obtain ⟨tc, htc⟩ : ∃ tc, toC (os.map OV.o) ⟨ef, ep⟩ = tc := ⟨_, rfl⟩
  obtain ⟨ta, tb, tq⟩ := tc
  obtain ⟨sa, hsa⟩ : ∃ sa, firstO (sourceF ep) (os.map OV.o) = sa := ⟨_, rfl⟩
  obtain ⟨ka, hka⟩ : ∃ ka, firstO sinkF (os.map OV.o) = ka := ⟨_, rfl⟩
  have HTC := hide htc
  have HSA := hide hsa
  have HKA := hide hka
  clear hwf hN htc hsa hka
  go_enter Try.func4, Try.ntmps4
  go_wp2_with fail
  rw [← hV]
  obtain ⟨gB, hgB⟩ : ∃ gB, W.heap.size = gB := ⟨_, rfl⟩
  rw [hgB] at hv1 ⊢
  have z0 : V.cell? ⟨gB, 0, none⟩ = some (.int .i64 parts) := by simp [World.cell?, hv1]
  have z1 : V.cell? ⟨gB, 1, none⟩ = some (.slice p L cap) := by simp [World.cell?, hv1]
  clear hV hv1 hgB
  refine live_any.mono ?_
  rintro _ w1 ⟨rfl, b1⟩
  have y0 := cell_later b1 z0
  have y1 := cell_later b1 z1
  have HB1 := hide b1
  have HC := to_any (parts := parts) (ef := ef) (ep := ep) (HO.out.below HB1.out)
  rw [HTC.out, HL.out] at HC
  have HC := hide HC
  clear b1
  go_wp2_with fail
  refine HC.out.mono ?_
  rintro _ w2 ⟨rfl, b2⟩
  have x0 := cell_later b2 y0
  have x1 := cell_later b2 y1
  have HB2 := hide (HB1.out.trans (b2.mono HB1.out.size))
  have HC := rto_any (parts := parts) (ef := ef) (ep := ep) (HO.out.below HB2.out)
  rw [HTC.out, HL.out] at HC
  have HC := hide HC
  clear b2 y0 y1 HB1
  go_wp2_with fail
  refine HC.out.mono ?_
  rintro _ w3 ⟨rfl, b3⟩
  have y0 := cell_later b3 x0
  have y1 := cell_later b3 x1
  have HB3 := hide (HB2.out.trans (b3.mono HB2.out.size))
  obtain ⟨s1, hs1⟩ : ∃ s1, atN sa = s1 := ⟨_, rfl⟩
  obtain ⟨s2, hs2⟩ : ∃ s2, sa.isSome = s2 := ⟨_, rfl⟩
  obtain ⟨k1, hk1⟩ : ∃ k1, atN ka = k1 := ⟨_, rfl⟩
  obtain ⟨k2, hk2⟩ : ∃ k2, ka.isSome = k2 := ⟨_, rfl⟩
  have HS1 := hide hs1
  have HS2 := hide hs2
  have HK1 := hide hk1
  have HK2 := hide hk2
  have HC := source_any (parts := parts) (part := ep) (HO.out.below HB3.out)
  rw [HSA.out, HL.out, HS1.out, HS2.out] at HC
  have HC := hide HC
  clear b3 x0 x1 HB2 hs1 hs2 hk1 hk2
  go_wp2_with fail
  refine HC.out.mono ?_
  rintro _ w4 ⟨rfl, b4⟩
  have x0 := cell_later b4 y0
  have x1 := cell_later b4 y1
  have HB4 := hide (HB3.out.trans (b4.mono HB3.out.size))
  have HC := rsource_any (parts := parts) (part := ep) (HO.out.below HB4.out)
  rw [HSA.out, HL.out, HS1.out, HS2.out] at HC
  have HC := hide HC
  clear b4 y0 y1 HB3
  go_wp2_with fail
  refine HC.out.mono ?_
  rintro _ w5 ⟨rfl, b5⟩
  have y0 := cell_later b5 x0
  have y1 := cell_later b5 x1
  have HB5 := hide (HB4.out.trans (b5.mono HB4.out.size))
  have HC := sink_any (parts := parts) (HO.out.below HB5.out)
  rw [HKA.out, HL.out, HK1.out, HK2.out] at HC
  have HC := hide HC
  clear b5 x0 x1 HB4
  go_wp2_with fail
  refine HC.out.mono ?_
  rintro _ w6 ⟨rfl, b6⟩
  have x0 := cell_later b6 y0
  have x1 := cell_later b6 y1
  have HB6 := hide (HB5.out.trans (b6.mono HB5.out.size))
  have HC := rsink_any (parts := parts) (HO.out.below HB6.out)
  rw [HKA.out, HL.out, HK1.out, HK2.out] at HC
  have HC := hide HC
  clear b6 y0 y1 HB5
  go_wp2_with fail
  refine HC.out.mono ?_
  rintro _ w7 ⟨rfl, b7⟩
  have y0 := cell_later b7 x0
  have y1 := cell_later b7 x1
  have HB7 := hide (HB6.out.trans (b7.mono HB6.out.size))
  have HC := hide (edges_any (parts := parts) (HO.out.below HB7.out) HL.out (by omega) (fun x hx => by have := weight_one (List.mem_map_of_mem (f := OV.o) hx); have := HW.out; omega) HNN.out hNb.1)
  clear b7 x0 x1 HB6 HTC HSA HKA HS1 HS2 HK1 HK2
  go_wp2_with fail
  refine HC.out.mono ?_
  rintro _ w8 ⟨p1, c1, p2, c2, rfl, O1, O2, b8⟩
  have x0 := cell_later b8 y0
  have x1 := cell_later b8 y1
  have HB8 := hide (HB7.out.trans (b8.mono HB7.out.size))
  obtain ⟨_, _, ef1, ec1, ec2⟩ := own_form O1
  simp only [Value.slice.injEq, true_and] at ef1
  obtain ⟨rfl, rfl⟩ := ef1
  obtain ⟨_, _, ef2, ed1, ed2⟩ := own_form O2
  simp only [Value.slice.injEq, true_and] at ef2
  obtain ⟨rfl, rfl⟩ := ef2
  have HO1 := hide O1
  have HO2 := hide O2
  clear b8 y0 y1 HB7 HC O1 O2
  go_wp2_with fail
  go_loopw [109, 23] (fun i s wr => ∃ (k : Nat), k ≤ L ∧ i = .int .i64 (k : Int) ∧ s = .int .i64 ((flatC ((os.map OV.o).take k)).length : Nat) ∧ Hid (Below w8.heap.size w8 wr)) (fun i _ _ => L - (intOf i).toNat)
  case atStart => exact ⟨0, Nat.zero_le _, rfl, rfl, hide (Below.refl _ _)⟩
  case round =>
    obtain ⟨k, hk, rfl, rfl, HB⟩ := hrel
    by_cases hlt : k < L
    · have hlt2 : k < os.length := by rw [HL.out]; exact hlt
      have HBV : Hid (Below V.heap.size V wr) := hide (HB8.out.trans (HB.out.mono HB8.out.size))
      obtain ⟨g, o, rfl, hc⟩ := (HO.out.below HBV.out).cell k hlt2
      have HMO := hide (getO os hlt2)
      have HKM : Hid (k < (os.map OV.o).length) := hide (by rw [HML.out]; exact hlt)
      obtain ⟨x, hx⟩ : ∃ x, os[k]! = x := ⟨_, rfl⟩
      have hxm : x ∈ os := by rw [← hx, getElem!_pos os k hlt2]; exact List.getElem_mem _
      have HXM := hide hxm
      rw [hx] at hc HMO
      have HXO := hide ((HO.out.below HBV.out).ok x hxm)
      obtain ⟨⟨kd, pt, fn, ar, ins⟩, ip, ic⟩ := x
      have d0 : wr.cell? ⟨g, o + k * 5, none⟩ = some (.int .i64 kd) := hc 0 (by omega)
      have d1 : wr.cell? ⟨g, o + k * 5 + 1, none⟩ = some (.int .i64 pt) := hc 1 (by omega)
      have d2 : wr.cell? ⟨g, o + k * 5 + 2, none⟩ = some (.int .i64 fn) := hc 2 (by omega)
      have d3 : wr.cell? ⟨g, o + k * 5 + 3, none⟩ = some (.int .i64 ar) := hc 3 (by omega)
      have d4 : wr.cell? ⟨g, o + k * 5 + 4, none⟩ = some (.slice ip ins.length ic) := hc 4 (by omega)
      have hic := HXO.out.le
      have hit := HXO.out.top
      simp only at hic hit HMO
      have hpn := pos_next HKM.out
      have hpl := pos_le (os := os.map OV.o) (m := k + 1)
      rw [HMO.out] at hpn
      simp only at hpn
      rw [hpn, HNN.out] at hpl
      have HPN := hide hpn
      have HPL : Hid (∀ j, j < ins.length → (atsG 0 (os.map OV.o))[(flatC ((os.map OV.o).take k)).length + j]! = (k : Int) ∧ (flatC (os.map OV.o))[(flatC ((os.map OV.o).take k)).length + j]! = ins[j]!) := by
        refine hide (fun j hj => ?_)
        have h := place HKM.out (j := j) (by rw [HMO.out]; exact hj)
        rw [HMO.out] at h
        exact h.2
      obtain ⟨P0, hP0⟩ : ∃ P0, (flatC ((os.map OV.o).take k)).length = P0 := ⟨_, rfl⟩
      rw [hP0] at hpl HPN HPL ⊢
      clear hc hx hxm hpn hP0
      go_wp2_with fail
      go_loopw [117, 23] (fun i s wq => ∃ (j : Nat), j ≤ ins.length ∧ i = .int .i64 (j : Int) ∧ s = .int .i64 ((P0 + j : Nat) : Int) ∧ Hid (Below w8.heap.size w8 wq)) (fun i _ _ => ins.length - (intOf i).toNat)
      case atStart => exact ⟨0, Nat.zero_le _, rfl, rfl, hide (HB.out.trans ((alloc_below _ _).mono HB.out.size))⟩
      case round =>
        obtain ⟨j, hj, rfl, rfl, HBj⟩ := hrel
        rename World => wq
        clear d0 d1 d2 d3 d4
        by_cases hjl : j < ins.length
        · have HBV2 : Hid (Below V.heap.size V wq) := hide (HB8.out.trans (HBj.out.mono HB8.out.size))
          obtain ⟨g3, o3, he3, t0, t1⟩ := ERow.cell ((HO.out.below HBV2.out).ok _ HXM.out) j hjl
          simp only at he3 t0 t1
          subst he3
          obtain ⟨hat, hfl⟩ := HPL.out j hjl
          obtain ⟨y, hy⟩ : ∃ y, ins[j]! = y := ⟨_, rfl⟩
          rw [hy] at t0 t1 hfl
          obtain ⟨yf, yp⟩ := y
          simp only at t0 t1
          have hPN : P0 + j < N := by omega
          obtain ⟨r, hr⟩ : ∃ r, P0 + j = r := ⟨_, rfl⟩
          rw [hr] at hat hfl hPN ⊢
          have HR := hide hr
          have R1 := ownsRow_later HO1.out HBj.out
          have R2 := ownsRow_later HO2.out HBj.out
          obtain ⟨g1, hg1⟩ : ∃ g1, p1 = some ⟨g1, 0, none⟩ := by
            rcases R1.2 with ⟨_, h0⟩ | ⟨g1, cap', cur, e1, _⟩
            · omega
            · simp only [Value.slice.injEq] at e1; exact ⟨g1, e1.1⟩
          obtain ⟨g2, hg2⟩ : ∃ g2, p2 = some ⟨g2, 0, none⟩ := by
            rcases R2.2 with ⟨_, h0⟩ | ⟨g2, cap', cur, e1, _⟩
            · omega
            · simp only [Value.slice.injEq] at e1; exact ⟨g2, e1.1⟩
          subst hg1 hg2
          have c1' : wq.cell? ⟨g1, r, none⟩ = some (.int .i64 (k : Int)) := by
            rw [R1.cellAt r (by omega), List.getElem?_map]
            have hal : r < (atsG 0 (os.map OV.o)).length := by rw [atsG_len, HNN.out]; exact hPN
            rw [List.getElem?_eq_getElem hal]
            rw [getElem!_pos (atsG 0 (os.map OV.o)) r hal] at hat
            rw [Option.map_some, hat]
          have hf := fun i hi => flat_get (cells := GE.cells) (size := 2) (flatC (os.map OV.o)) (fun o _ => o.len) r i (by rw [HNN.out]; exact hPN) hi
          have c2' : wq.cell? ⟨g2, r * 2, none⟩ = some (.int .i64 yf) := by
            rw [R2.cellAt (r * 2) (by omega)]
            have := hf 0 (by decide)
            rw [hfl] at this
            exact this
          have c3' : wq.cell? ⟨g2, r * 2 + 1, none⟩ = some (.int .i64 yp) := by
            rw [R2.cellAt (r * 2 + 1) (by omega)]
            have := hf 1 (by decide)
            rw [hfl] at this
            exact this
          have hab := alloc_below wq (.cells #[.int .i64 yf, .int .i64 yp] 43 (0, 0))
          have k1' := cell_later hab c1'
          have k2' := cell_later hab c2'
          have k3' := cell_later hab c3'
          have HAB : Hid (Below w8.heap.size w8 (wq.alloc (.cells #[.int .i64 yf, .int .i64 yp] 43 (0, 0)))) := hide (HBj.out.trans (hab.mono HBj.out.size))
          have l1 : decide ((r : Int) ≥ (N : Int)) = false := decide_eq_false (by omega)
          have l2 : decide (N ≤ r) = false := decide_eq_false (by omega)
          clear hat hfl R1 R2 hf hab c1' c2' c3' hy hr
          go_upto_region 19 with fail
          go_big_quiet (fail)
          go_wp2
          exact ⟨⟨j + 1, by omega, by first | rfl | go_num, by rw [← Nat.add_assoc, HR.out]; first | rfl | go_num, hide (below_drewN HAB.out _)⟩, by simp [intOf]; omega⟩
        · obtain rfl : j = ins.length := by omega
          go_wp2
          exact ⟨⟨k + 1, by omega, by first | rfl | go_num, by rw [HPN.out], HBj⟩, by simp [intOf]; omega⟩
    · obtain rfl : k = L := by omega
      have HE : Hid ((flatC ((os.map OV.o).take k)).length = N) := by
        rw [List.take_of_length_le (by rw [HML.out]; exact Nat.le_refl _)]
        exact HNN
      rw [HE.out]
      have HF := hide (HVB.out.trans ((HB8.out.trans (HB.out.mono HB8.out.size)).mono HVB.out.size))
      go_wp2
      go_ret
      exact ⟨by first | rfl | simp, HF.out⟩
theorem short {H : Type} {d0 d1 d2 : DataW H} (hk : Rows.uptoSmall H [d0, d1, d2] = true) : Rows.uptoBulk d0 ≤ 1048576 ∧ Rows.uptoBulk d1 ≤ 1048576 ∧ Rows.uptoBulk d2 ≤ 1048576 := by
  have h : Rows.uptoBulkAll [d0, d1, d2] ≤ 1048576 := of_decide_eq_true hk
  simp only [Rows.uptoBulkAll] at h
  omega

set_option maxRecDepth 100000 in
theorem contract (H : Type) (enc : TypeId × Value → H) (W : World) (base : Nat) (args : Array Value) (ds gs : List (DataW H)) (before : List MemPlace)
    (hval : ∀ (j : Nat) t v, Try.f4.params[j]? = some t → args[j]? = some v → Value.okWide Try.prog W .any base t v)
    (hW : DataW.Whole enc Try.prog Try.f4.params.toList Rows.graphFindsSpec.vars false W args.toList ds gs before) (hk : Rows.uptoSmall H (ds ++ gs) = true) :
    Calls Try.prog 4 args W fun e W' => ∃ v, e = .returned v ∧ Rows.graphFindsSpec.post enc Try.prog Try.f4 false true false false W args v W' := by
  have hW' := hW
  obtain ⟨p, q, hA0, hV, rfl, hfz, hnd⟩ := hW
  have hA : DataW.TrodAll enc Try.prog W 0 (fun _ => true) true Try.f4.params.toList args.toList ds p := hA0
  rw [Try.params4] at hA hval
  obtain ⟨v0, vs0, d0, ds0, p0, q0, hargs, rfl, rfl, h0, r0⟩ := trodAll_cons hA
  obtain ⟨v1, vs1, d1, ds1, p1, q1, rfl, rfl, rfl, h1, r1⟩ := trodAll_cons r0
  obtain ⟨v2, vs2, d2, ds2, p2, q2, rfl, rfl, rfl, h2, r2⟩ := trodAll_cons r1
  obtain ⟨rfl, rfl, rfl⟩ := trodAll_nil r2
  obtain rfl : args = #[v0, v1, v2] := by cases args; simp_all
  obtain ⟨rfl, rfl⟩ := trodVars_none hV
  obtain ⟨cs0, rfl, hcs0⟩ := okWide_struct Try.underlying24 (hval 0 24 v0 rfl rfl)
  rw [Try.cellsGraph] at hcs0
  have k0 := h0
  have lt0 : ∀ x ∈ p0, x.block < W.heap.size := by obtain ⟨m, hm⟩ := k0; exact DataW.trod_lt m _ _ _ hm
  obtain ⟨f0, hf0⟩ := h0
  have hcc0 : (Value.agg cs0).cells.toList = cs0.toList := by simp [Value.cells]
  rw [hcc0] at hf0
  obtain ⟨parts0, gp0, gc0, os0, rfl, I0, G0, F0, B0⟩ := arg_graph hcs0 hf0
  obtain ⟨n1, rfl, rfl, rfl, wi1⟩ := open_int Try.underlying3 (hval 1 3 v1 rfl rfl) h1
  have bd1 := bounds_i64 wi1
  obtain ⟨n2, rfl, rfl, rfl, wi2⟩ := open_int Try.underlying3 (hval 2 3 v2 rfl rfl) h2
  have bd2 := bounds_i64 wi2
  simp only [List.append_nil] at hk
  obtain ⟨s0, s1, s2⟩ := short hk
  simp only at B0
  clear hA0
  refine (walk I0 G0 F0 (by omega) ⟨bd1.1, by have := bd1.2; omega⟩ ⟨bd2.1, by have := bd2.2; omega⟩).mono fun e W' ⟨he, bel⟩ => ?_
  subst he
  exact ⟨_, rfl, _, _, _, [], _, [], hW', trodAll_mk1 (shut_bool Try.underlying4 _), (trodAll_cons_mk (Below.trod Try.laidOut (by kernel_rfl) (of_decide_eq_true (by kernel_rfl)) k0 bel lt0) (trodAll_cons_mk (shut_int Try.underlying3 wi1) (trodAll_cons_mk (shut_int Try.underlying3 wi2) trodAll_mk0))), rfl, bel.frame _, fun h => by cases h⟩

set_option maxRecDepth 100000 in
theorem lifted (os : Os) (started : os.Started) (H : Type) (enc : TypeId × Value → H) (F : Stop.Interp) :
    ReturnsInHanded {} Try.checked os 4 .any ((Rows.OpenSpec.upto Rows.graphFindsSpec).pre6 enc Try.prog Try.f4 Rows.graphFindsUptoRow.domain false) (((Rows.OpenSpec.upto Rows.graphFindsSpec).at F).post enc Try.prog Try.f4 false true false false) := by
  refine returnsInHanded_of_cond (C := Try.checked) (s := Rows.OpenSpec.upto Rows.graphFindsSpec) (k := Rows.uptoSmall) rfl Try.ownK started (by kernel_rfl) Try.func4
    (OpenSpec.witness (enc := enc) (C := Try.checked) (s := Rows.OpenSpec.upto Rows.graphFindsSpec) (k := Rows.uptoSmall) rfl false ⟨#[], #[.agg #[.int .i64 0, .slice none 0 0], .int .i64 0, .int .i64 0], []⟩ 8 (by kernel_rfl) (by kernel_rfl) (by kernel_rfl)
      (x := ([.agg [.lit (.int .i64 0), .nil], .lit (.int .i64 0), .lit (.int .i64 0)], [], [])) (by kernel_rfl) rfl (by kernel_rfl)) ?_
  intro W base args ds gs before hval hW _ hk _
  exact contract H enc W base args ds gs before hval hW hk

set_option maxRecDepth 100000 in
theorem proved : Rows.GraphFindsUptoSaid :=
  OpenClaim.holds_of_cond 4 Try.f4 rfl rfl rfl rfl rfl rfl rfl ⟨rfl, rfl, rfl, rfl, rfl⟩ rfl rfl rfl rfl rfl (by kernel_rfl) Try.func4 (by kernel_rfl)
    (of_decide_eq_true (by kernel_rfl)) (by unfold Func.isWrapper; first | (rw [if_pos (by decide +kernel)]; kernel_rfl) | (rw [if_neg (by decide +kernel)]; exact ⟨rfl, rfl⟩))
    (fun os started H enc _ F => lifted os started H enc F)

end Go.Proofs.Ytmoigniboiekfaa.graphFinds
