/-
  The program's Check, from what looseOp answers. The condition: looseOp's answer.
-/
import Derived.Test.YtlfipmieaabagaaGreatGck
namespace Go.Proofs.YtlfipmieaabagaaGreat
open Go.RowKit

def LooseOp : Prop := ∀ (W : World) (parts : Int) (p : Option Addr) (cap : Nat) (os : List OV), GRow W p cap os → os.length ≤ 24 → (scanS parts (os.map OV.o)).bad = none →
  Calls Tryz.prog 101 #[.slice p os.length cap] W fun e w' => e = .returned (.tuple #[.int .i64 (match looseAt (os.map OV.o) with | some n => (n : Int) | none => -1), .bool (looseAt (os.map OV.o)).isSome]) ∧ Below W.heap.size W w'
theorem scan_ne (parts : Int) : ∀ (os : List GO) (s : SS) (x : Nat × Int), (os.foldl (stepS parts) s).bad = some x → s.bad = some x ∨ x.2 ≠ 0
  | [], s, x, h => .inl h
  | o :: os, s, x, h => by
    rw [List.foldl_cons] at h
    rcases scan_ne parts os _ x h with h1 | h1
    · unfold stepS at h1
      cases hs : s.bad with
      | some y => rw [hs] at h1; simp only at h1; rw [hs] at h1; exact .inl h1
      | none =>
        rw [hs] at h1
        simp only at h1
        by_cases h0 : (oneC parts o s.a s.T).1 = 0
        · rw [if_pos h0] at h1; cases h1
        · rw [if_neg h0] at h1
          simp only [Option.some.injEq] at h1
          rw [← h1]
          exact .inr h0
    · exact .inr h1
theorem scan_source {pn : Nat} (hp : pn ≤ 4) {os : List OV} (h : (scanS (pn : Int) (os.map OV.o)).bad = none) : ∀ x ∈ os, x.o.kind = 1 → 0 ≤ x.o.part ∧ x.o.part < 4 := by
  intro x hx hk
  obtain ⟨i, hi, rfl⟩ := List.getElem_of_mem hx
  have h1 := (one_zero (scan_good h (k := i) (by simpa using hi)).2).2.2.2.1
  rw [getO os hi, getElem!_pos os i hi] at h1
  unfold fieldsC at h1
  rw [hk] at h1
  simp at h1
  omega

set_option maxRecDepth 100000 in
set_option maxHeartbeats 16000000 in
theorem check_from (hlo : LooseOp) {W : World} {parts : Int} {p : Option Addr} {cap : Nat} {os : List OV} (ho : GRow W p cap os) :
    Calls Tryz.prog 66 #[.agg #[.int .i64 parts, .slice p os.length cap]] W fun e w' => e = .returned (.tuple #[.int .i64 (checkC parts (os.map OV.o)).1, .int .i64 (checkC parts (os.map OV.o)).2]) ∧ Below W.heap.size W w' := by
  obtain ⟨rc, hrc⟩ : ∃ rc, checkC parts (os.map OV.o) = rc := ⟨_, rfl⟩
  rw [hrc]
  have HRC := hide hrc
  clear hrc
  have HLO := hide hlo
  have i3 := ho.le
  have i4 := ho.top
  have HO := hide ho
  have HVB := hide (alloc_below W (.cells #[.int .i64 parts, .slice p os.length cap] 24 (0, 0)))
  clear ho hlo
  by_cases a1 : 1 ≤ parts ∧ parts ≤ 4
  rotate_left
  · have HQ : Hid (checkC parts (os.map OV.o) = (0, 1)) := hide (by unfold checkC; rw [if_neg a1])
    have HV : Hid ((decide ((1 : Int) ≤ parts) && decide (parts ≤ 4)) = false) := hide (bf a1)
    clear a1
    go_enter Tryz.func66, Tryz.ntmps66
    go_wp2_with fail
    refine within_any.mono ?_
    rintro _ wx ⟨rfl, rfl⟩
    rw [HV.out]
    go_wp2
    go_ret2
    exact ⟨by rw [← HRC.out, HQ.out]; rfl, HVB.out⟩
  · have HV : Hid ((decide ((1 : Int) ≤ parts) && decide (parts ≤ 4)) = true) := hide (bt a1.1 a1.2)
    have HP := hide a1
    by_cases a3 : 24 < os.length
    · have HQ : Hid (checkC parts (os.map OV.o) = (0, 3)) := hide (by unfold checkC; rw [if_pos a1, if_neg (by simp; omega)])
      clear a1
      go_enter Tryz.func66, Tryz.ntmps66
      go_wp2_with fail
      refine within_any.mono ?_
      rintro _ wx ⟨rfl, rfl⟩
      rw [HV.out]
      go_wp2
      go_ret2
      exact ⟨by rw [← HRC.out, HQ.out]; rfl, HVB.out⟩
    · have hl : os.length ≤ 24 := by omega
      have HL : Hid ((os.map OV.o).length ≤ 24) := hide (by simpa using hl)
      obtain ⟨pn, hpn⟩ : ∃ pn : Nat, parts = (pn : Int) := ⟨parts.toNat, by omega⟩
      subst hpn
      have HP1 : Hid (1 ≤ pn) := hide (by omega)
      have HP4 : Hid (pn ≤ 4) := hide (by omega)
      have hf := opFault_any (W := W.alloc (.cells #[.int .i64 (pn : Int), .slice p os.length cap] 24 (0, 0))) HP.out.1 HP.out.2 (HO.out.below HVB.out) hl
      have hv1 : (W.alloc (.cells #[.int .i64 (pn : Int), .slice p os.length cap] 24 (0, 0))).heap[W.heap.size]? = some (.cells #[.int .i64 (pn : Int), .slice p os.length cap] 24 (0, 0)) := heap_alloc_new W _
      clear a1
      go_enter Tryz.func66, Tryz.ntmps66
      go_wp2_with fail
      refine within_any.mono ?_
      rintro _ wx ⟨rfl, rfl⟩
      rw [HV.out]
      obtain ⟨gB, hgB⟩ : ∃ gB, W.heap.size = gB := ⟨_, rfl⟩
      obtain ⟨V, hV⟩ : ∃ V, V = W.alloc (.cells #[.int .i64 (pn : Int), .slice p os.length cap] 24 (0, 0)) := ⟨_, rfl⟩
      rw [hgB] at hv1
      rw [← hV] at hf hv1 HVB ⊢
      have z0 : V.cell? ⟨gB, 0, none⟩ = some (.int .i64 (pn : Int)) := by simp [World.cell?, hv1]
      have z1 : V.cell? ⟨gB, 1, none⟩ = some (.slice p os.length cap) := by simp [World.cell?, hv1]
      have HF := hide hf
      have fin : ∀ w' : World, Below V.heap.size V w' → Below W.heap.size W w' := fun w' hb => HVB.out.trans (hb.mono HVB.out.size)
      have HFIN := hide fin
      have fin2 : ∀ w' : World, Below V.heap.size V w' → Below gB W w' := fun w' hb => hgB ▸ fin w' hb
      have HFIN2 := hide fin2
      try rw [hgB]
      clear hV hv1 hf fin fin2 a3
      go_wp2_with fail
      refine HF.out.mono ?_
      rintro _ w1 ⟨rfl, b1⟩
      have HB1 := hide b1
      have v0 := cell_later b1 z0
      have v1 := cell_later b1 z1
      clear b1 z0 z1 HF
      cases hb : (scanS (pn : Int) (os.map OV.o)).bad with
      | some x =>
        obtain ⟨n, e⟩ := x
        have HQ : Hid (checkC (pn : Int) (os.map OV.o) = ((n : Int), e)) := hide (by unfold checkC; rw [if_pos HP.out, if_pos HL.out, hb])
        have hne : e ≠ 0 := by
          rcases scan_ne (pn : Int) (os.map OV.o) ⟨none, [], []⟩ (n, e) hb with h | h
          · cases h
          · exact h
        have e1 : faultN (scanS (pn : Int) (os.map OV.o)) = (n : Int) := by unfold faultN; rw [hb]
        have e2 : faultE (scanS (pn : Int) (os.map OV.o)) = e := by unfold faultE; rw [hb]
        have ce : (e != 0) = true := by simpa using hne
        rw [e1, e2]
        clear e1 e2 hb hne
        go_wp2
        go_ret2
        exact ⟨by rw [← HRC.out, HQ.out]; rfl, by first | exact HFIN.out _ HB1.out | exact HFIN2.out _ HB1.out⟩
      | none =>
        have HB := hide hb
        have e1 : faultN (scanS (pn : Int) (os.map OV.o)) = 0 := by unfold faultN; rw [hb]
        have e2 : faultE (scanS (pn : Int) (os.map OV.o)) = 0 := by unfold faultE; rw [hb]
        rw [e1, e2]
        clear e1 e2 hb
        have HLC := hide (HLO.out _ (pn : Int) _ _ _ (HO.out.below (HVB.out.trans (HB1.out.mono HVB.out.size))) hl HB.out)
        go_wp2_with fail
        refine HLC.out.mono ?_
        rintro _ w2 ⟨rfl, b2⟩
        cases hq : looseAt (os.map OV.o) with
        | some n =>
          have HQ := hide (check_loose HP.out HL.out HB.out hq)
          have HB2 : Hid (Below V.heap.size V w2) := hide (HB1.out.trans (b2.mono HB1.out.size))
          clear b2 hq HLC v0 v1
          go_wp2
          go_ret2
          exact ⟨by rw [← HRC.out, HQ.out]; rfl, by first | exact HFIN.out _ HB2.out | exact HFIN2.out _ HB2.out⟩
        | none =>
          have HQ := hide (check_ends HP.out HL.out HB.out hq rfl)
          have HB2 : Hid (Below V.heap.size V w2) := hide (HB1.out.trans (b2.mono HB1.out.size))
          have HEN := hide (ends_any HP1.out HP4.out (HO.out.below (HVB.out.trans (HB2.out.mono HVB.out.size))) hl (scan_source HP4.out HB.out))
          have x0 := cell_later b2 v0
          have x1 := cell_later b2 v1
          clear b2 hq HLC v0 v1
          go_wp2_with fail
          refine HEN.out.mono ?_
          rintro _ w3 ⟨rfl, b3⟩
          have HB3 : Hid (Below V.heap.size V w3) := hide (HB2.out.trans (b3.mono HB2.out.size))
          clear b3 HEN x0 x1
          go_wp2
          go_ret2
          exact ⟨by rw [← HRC.out, HQ.out]; rfl, by first | exact HFIN.out _ HB3.out | exact HFIN2.out _ HB3.out⟩
end Go.Proofs.YtlfipmieaabagaaGreat
