/-
  What the program's inputs tells: each operator's inputs, in order. The conditions: the graph stays as it lies.
-/
import Derived.Test.YtlfipmieaabagaaGreatRgl
import Derived.Test.YtlfipmieaabagaaGreatGpl
namespace Go.Proofs.YtlfipmieaabagaaGreat
open Go.RowKit Go.Shelf
attribute [local go_sem] Oper.semAt_some

def eV (e : GE) : Value := .agg #[.int .i64 e.f, .int .i64 e.p]
def tellG (n : Nat) : List GO → List (Array Value)
  | [] => []
  | o :: os => (o.ins.map fun e => #[.int .i64 (n : Int), eV e]) ++ tellG (n + 1) os
theorem tellG_len : ∀ (os : List GO) (n : Nat), (tellG n os).length = (flatC os).length
  | [], _ => rfl
  | o :: os, n => by
    have := tellG_len os (n + 1)
    simp only [tellG, flatC, List.flatMap_cons, List.length_append, List.length_map] at this ⊢
    omega
theorem tellG_get : ∀ (os : List GO) (n m j : Nat), m < os.length → j < (os[m]!).ins.length → (tellG n os).getD ((flatC (os.take m)).length + j) #[] = #[.int .i64 ((n + m : Nat) : Int), eV ((os[m]!).ins[j]!)]
  | [], _, _, _, hm, _ => by cases hm
  | o :: os, n, 0, j, _, hj => by
    have hj' : j < o.ins.length := hj
    simp only [tellG, List.take_zero]
    rw [List.getD_eq_getElem?_getD, List.getElem?_append_left (by simpa [flatC] using hj')]
    have : (o :: os)[0]! = o := rfl
    rw [this, getElem!_pos o.ins j hj']
    simp [flatC, List.getElem?_map, List.getElem?_eq_getElem hj']
  | o :: os, n, m + 1, j, hm, hj => by
    have hm' : m < os.length := by simpa using hm
    have e1 : (o :: os)[m + 1]! = os[m]! := by rw [getElem!_pos (o :: os) (m + 1) hm, getElem!_pos os m hm']; rfl
    rw [e1] at hj ⊢
    have := tellG_get os (n + 1) m j hm' hj
    have e2 : (flatC ((o :: os).take (m + 1))).length = o.ins.length + (flatC (os.take m)).length := by simp [flatC]
    rw [e2]
    simp only [tellG]
    rw [List.getD_eq_getElem?_getD, List.getElem?_append_right (by simp; omega), ← List.getD_eq_getElem?_getD]
    rw [show o.ins.length + (flatC (os.take m)).length + j - (o.ins.map fun e => #[Value.int .i64 (n : Int), eV e]).length = (flatC (os.take m)).length + j by simp; omega, this]
    congr 3
    omega
theorem pos_next {os : List GO} {m : Nat} (hm : m < os.length) : (flatC (os.take (m + 1))).length = (flatC (os.take m)).length + (os[m]!).ins.length := by
  rw [takeS hm, flat_snoc, List.length_append]
theorem pos_le {os : List GO} {m : Nat} : (flatC (os.take m)).length ≤ (flatC os).length := by
  have : flatC os = flatC (os.take m) ++ flatC (os.drop m) := by unfold flatC; rw [← List.flatMap_append, List.take_append_drop]
  rw [this, List.length_append]
  omega

set_option maxRecDepth 100000 in
set_option maxHeartbeats 4000000 in
theorem inputs_tells (q : Nat) (hq : 1 ≤ q) {Bk : Nat} {p : Option Addr} {cap : Nat} {os : List OV} :
    TellsB q 123 #[.pointer (some ⟨Bk, 0, none⟩)] (tellG 0 (os.map OV.o)) (fun W => W.cell? ⟨Bk, 0, none⟩ = some (.slice p os.length cap) ∧ GRow W p cap os) := by
  intro l J Jx hr hst hY W h0
  have HR := hide hr
  have HST := hide hst
  have HY := hide hY
  have H0 := hide h0
  obtain ⟨hcell, hrow⟩ := hr 0 W h0
  have i3 := hrow.le
  have i4 := hrow.top
  have HLT := hide (tellG_len (os.map OV.o) 0)
  clear hr hY h0 hst hrow
  show CallsIn Fence.wide q Tryz.prog 123 #[.func (.yield l) #[] #[], .pointer (some ⟨Bk, 0, none⟩)] W _
  refine callsIn_of_wp Tryz.func123 rfl trivial ?_ rfl
  simp only [Tryz.ntmps123, List.size_toArray, List.length_cons, List.length_nil, Nat.reduceAdd, Nat.reduceSub, Array.replicate_succ, Array.replicate_zero, List.push_toArray, List.append_toArray, List.nil_append, List.cons_append]
  gi_wp2
  gi_loopw [9] (fun i wr => ∃ m : Nat, m ≤ os.length ∧ i = .int .i64 (m : Int) ∧ Hid (J (flatC ((os.map OV.o).take m)).length wr)) (fun i _ => os.length - (intOf i).toNat)
  case atStart => exact ⟨0, Nat.zero_le _, rfl, H0⟩
  case round =>
    obtain ⟨m, hm, rfl, HJ⟩ := hrel
    clear H0 hcell
    by_cases hlt : m < os.length
    · have hGr := (HR.out _ wr HJ.out).2
      obtain ⟨g, o, rfl, hc⟩ := hGr.cell m hlt
      obtain ⟨x, hx⟩ : ∃ x, os[m]! = x := ⟨_, rfl⟩
      have hxm : x ∈ os := by rw [← hx, getElem!_pos os m hlt]; exact List.getElem_mem _
      rw [hx] at hc
      have HMO : Hid ((os.map OV.o)[m]! = x.o) := hide (by rw [getO os hlt, hx])
      have HKL : Hid (m < (os.map OV.o).length) := hide (by simpa using hlt)
      have HXO := hide (hGr.ok x hxm)
      have HXM := hide hxm
      obtain ⟨⟨kd, pt, fn, ar, ins⟩, ip, ic⟩ := x
      have hic := HXO.out.le
      have hit := HXO.out.top
      simp only at hic hit
      have d0 : wr.cell? ⟨g, o + m * 5, none⟩ = some (.int .i64 kd) := hc 0 (by omega)
      have d1 : wr.cell? ⟨g, o + m * 5 + 1, none⟩ = some (.int .i64 pt) := hc 1 (by omega)
      have d2 : wr.cell? ⟨g, o + m * 5 + 2, none⟩ = some (.int .i64 fn) := hc 2 (by omega)
      have d3 : wr.cell? ⟨g, o + m * 5 + 3, none⟩ = some (.int .i64 ar) := hc 3 (by omega)
      have d4 : wr.cell? ⟨g, o + m * 5 + 4, none⟩ = some (.slice ip ins.length ic) := hc 4 (by omega)
      clear hc hx hxm hGr
      have HJA : Hid (∀ ob, J (flatC ((os.map OV.o).take m)).length (wr.alloc ob)) := hide (fun ob => HST.out _ _ _ HJ.out (alloc_below wr ob))
      have HGT : Hid (∀ j, j < ins.length → (tellG 0 (os.map OV.o)).getD ((flatC ((os.map OV.o).take m)).length + j) #[] = #[.int .i64 (m : Int), eV (ins[j]!)]) := by
        refine hide (fun j hj => ?_)
        have h := tellG_get (os.map OV.o) 0 m j HKL.out (by rw [HMO.out]; exact hj)
        rw [HMO.out, Nat.zero_add] at h
        exact h
      have HPN : Hid ((flatC ((os.map OV.o).take (m + 1))).length = (flatC ((os.map OV.o).take m)).length + ins.length) := hide (by rw [pos_next HKL.out, HMO.out])
      have HPL : Hid ((flatC ((os.map OV.o).take (m + 1))).length ≤ (tellG 0 (os.map OV.o)).length) := hide (by rw [HLT.out]; exact pos_le)
      obtain ⟨P0, hP0⟩ : ∃ P0, (flatC ((os.map OV.o).take m)).length = P0 := ⟨_, rfl⟩
      rw [hP0] at HJA HGT HPN HJ
      rw [HPN.out] at HPL
      clear hP0
      gi_wp2
      gi_loopw [17] (fun i wq => ∃ j : Nat, j ≤ ins.length ∧ i = .int .i64 (j : Int) ∧ Hid (J (P0 + j) wq)) (fun i _ => ins.length - (intOf i).toNat)
      case atStart => exact ⟨0, Nat.zero_le _, rfl, hide (HJA.out _)⟩
      case round =>
        obtain ⟨j, hj, rfl, HJj⟩ := hrel
        rename World => wq
        clear d0 d1 d2 d3 d4
        by_cases hjl : j < ins.length
        · obtain ⟨g3, o3, he3, t0, t1⟩ := ERow.cell ((HR.out _ wq HJj.out).2.ok _ HXM.out) j hjl
          try simp only at he3 t0 t1
          subst he3
          have hgt := HGT.out j hjl
          obtain ⟨y, hy⟩ : ∃ y, ins[j]! = y := ⟨_, rfl⟩
          rw [hy] at t0 t1 hgt
          obtain ⟨yf, yp⟩ := y
          try simp only at t0 t1
          have hgt2 : (tellG 0 (os.map OV.o)).getD (P0 + j) #[] = #[.int .i64 (m : Int), .agg #[.int .i64 yf, .int .i64 yp]] := hgt
          have hJ2 := HST.out _ _ _ HJj.out (alloc_below wq (.cells #[.int .i64 yf, .int .i64 yp] 119 (0, 0)))
          obtain ⟨fn', tmps, assign, body, hyy, hRd⟩ := HY.out _ _ hJ2 (by have := HPL.out; omega)
          rw [hgt2] at hyy
          have HRd := hide hRd
          clear hRd hgt hgt2 hy hJ2
          gi_wp2
          refine HRd.out.mono ?_
          rintro e W3 (⟨rfl, hJ3⟩ | ⟨rfl, hJ3⟩)
          · have J3 := hide hJ3
            clear HRd hyy hJ3 t0 t1
            gi_wp2
            go_roundw
            case rel => exact ⟨j + 1, by omega, by first | rfl | go_num, J3⟩
            case measure => simp [intOf]; omega
          · have J3 := hide hJ3
            have hle : P0 + j + 1 ≤ (tellG 0 (os.map OV.o)).length := by have := HPL.out; omega
            have HLE := hide hle
            clear HRd hyy hJ3 t0 t1 hle
            gi_wp2
            refine bodyPost_ret (results_none rfl _ _ _) rfl ?_
            exact ⟨⟨_, rfl⟩, .inr ⟨P0 + j + 1, HLE.out, J3.out⟩⟩
        · obtain rfl : j = ins.length := by omega
          have HJ2 : Hid (J (flatC ((os.map OV.o).take (m + 1))).length wq) := hide (by rw [HPN.out]; exact HJj.out)
          gi_wp2
          go_roundw
          case rel => exact ⟨m + 1, by omega, by first | rfl | go_num, HJ2⟩
          case measure => simp [intOf]; omega
    · obtain rfl : m = os.length := by omega
      have HJ2 : Hid (J (tellG 0 (os.map OV.o)).length wr) := by
        have h := HJ.out
        rw [show (os.map OV.o).take os.length = os.map OV.o from List.take_of_length_le (by simp), ← HLT.out] at h
        exact hide h
      gi_wp2
      refine bodyPost_end (results_none rfl _ _ _) rfl ?_
      exact ⟨⟨_, rfl⟩, .inl HJ2.out⟩
end Go.Proofs.YtlfipmieaabagaaGreat
