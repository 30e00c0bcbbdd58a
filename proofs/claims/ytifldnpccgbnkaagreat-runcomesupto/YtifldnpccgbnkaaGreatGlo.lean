/-
  What the program's inputs tells: each operator's inputs, in order. The conditions: the graph stays as it lies.
-/
import Derived.Test.YtifldnpccgbnkaaGreatRgl
import Derived.Test.YtifldnpccgbnkaaGreatGck
namespace Go.Proofs.YtifldnpccgbnkaaGreat
open Go.RowKit Go.Shelf
attribute [local go_sem] Oper.semAt_some

def eV (e : GE) : Value := .agg #[.int .i64 e.f, .int .i64 e.p]
def tellG (n : Nat) : List GO → List (Array Value)
  | [] => []
  | o :: os => (o.ins.map fun e => #[.int .i64 (n : Int), eV e]) ++ tellG (n + 1) os
theorem tellG_len : ∀ (os : List GO) (n : Nat), (tellG n os).length = (flatC os).length
  | [], _ => rfl
  | o :: os, n => by
    have := tellG_len os (n + 1)
    simp only [tellG, flatC, List.flatMap_cons, List.length_append, List.length_map] at this ⊢
    omega
theorem tellG_get : ∀ (os : List GO) (n m j : Nat), m < os.length → j < (os[m]!).ins.length → (tellG n os).getD ((flatC (os.take m)).length + j) #[] = #[.int .i64 ((n + m : Nat) : Int), eV ((os[m]!).ins[j]!)]
  | [], _, _, _, hm, _ => by cases hm
  | o :: os, n, 0, j, _, hj => by
    have hj' : j < o.ins.length := hj
    simp only [tellG, List.take_zero]
    rw [List.getD_eq_getElem?_getD, List.getElem?_append_left (by simpa [flatC] using hj')]
    have : (o :: os)[0]! = o := rfl
    rw [this, getElem!_pos o.ins j hj']
    simp [flatC, List.getElem?_map, List.getElem?_eq_getElem hj']
  | o :: os, n, m + 1, j, hm, hj => by
    have hm' : m < os.length := by simpa using hm
    have e1 : (o :: os)[m + 1]! = os[m]! := by rw [getElem!_pos (o :: os) (m + 1) hm, getElem!_pos os m hm']; rfl
    rw [e1] at hj ⊢
    have := tellG_get os (n + 1) m j hm' hj
    have e2 : (flatC ((o :: os).take (m + 1))).length = o.ins.length + (flatC (os.take m)).length := by simp [flatC]
    rw [e2]
    simp only [tellG]
    rw [List.getD_eq_getElem?_getD, List.getElem?_append_right (by simp; omega), ← List.getD_eq_getElem?_getD]
    rw [show o.ins.length + (flatC (os.take m)).length + j - (o.ins.map fun e => #[Value.int .i64 (n : Int), eV e]).length = (flatC (os.take m)).length + j by simp; omega, this]
    congr 3
    omega
theorem pos_next {os : List GO} {m : Nat} (hm : m < os.length) : (flatC (os.take (m + 1))).length = (flatC (os.take m)).length + (os[m]!).ins.length := by
  rw [takeS hm, flat_snoc, List.length_append]
theorem pos_le {os : List GO} {m : Nat} : (flatC (os.take m)).length ≤ (flatC os).length := by
  have : flatC os = flatC (os.take m) ++ flatC (os.drop m) := by unfold flatC; rw [← List.flatMap_append, List.take_append_drop]
  rw [this, List.length_append]
  omega

set_option maxRecDepth 100000 in
set_option maxHeartbeats 4000000 in
theorem inputs_tells (q : Nat) (hq : 1 ≤ q) {Bk : Nat} {p : Option Addr} {cap : Nat} {os : List OV} :
    TellsB q 72 #[.pointer (some ⟨Bk, 0, none⟩)] (tellG 0 (os.map OV.o)) (fun W => W.cell? ⟨Bk, 0, none⟩ = some (.slice p os.length cap) ∧ GRow W p cap os) := by
  intro l J Jx hr hst hY W h0
  have HR := hide hr
  have HST := hide hst
  have HY := hide hY
  have H0 := hide h0
  obtain ⟨hcell, hrow⟩ := hr 0 W h0
  have i3 := hrow.le
  have i4 := hrow.top
  have HLT := hide (tellG_len (os.map OV.o) 0)
  clear hr hY h0 hst hrow
  show CallsIn Fence.wide q Tryz.prog 72 #[.func (.yield l) #[] #[], .pointer (some ⟨Bk, 0, none⟩)] W _
  refine callsIn_of_wp Tryz.func72 rfl trivial ?_ rfl
  simp only [Tryz.ntmps72, List.size_toArray, List.length_cons, List.length_nil, Nat.reduceAdd, Nat.reduceSub, Array.replicate_succ, Array.replicate_zero, List.push_toArray, List.append_toArray, List.nil_append, List.cons_append]
  gi_wp2
  gi_loopw [9] (fun i wr => ∃ m : Nat, m ≤ os.length ∧ i = .int .i64 (m : Int) ∧ Hid (J (flatC ((os.map OV.o).take m)).length wr)) (fun i _ => os.length - (intOf i).toNat)
  case atStart => exact ⟨0, Nat.zero_le _, rfl, H0⟩
  case round =>
    obtain ⟨m, hm, rfl, HJ⟩ := hrel
    clear H0 hcell
    by_cases hlt : m < os.length
    · have hGr := (HR.out _ wr HJ.out).2
      obtain ⟨g, o, rfl, hc⟩ := hGr.cell m hlt
      obtain ⟨x, hx⟩ : ∃ x, os[m]! = x := ⟨_, rfl⟩
      have hxm : x ∈ os := by rw [← hx, getElem!_pos os m hlt]; exact List.getElem_mem _
      rw [hx] at hc
      have HMO : Hid ((os.map OV.o)[m]! = x.o) := hide (by rw [getO os hlt, hx])
      have HKL : Hid (m < (os.map OV.o).length) := hide (by simpa using hlt)
      have HXO := hide (hGr.ok x hxm)
      have HXM := hide hxm
      obtain ⟨⟨kd, pt, fn, ar, ins⟩, ip, ic⟩ := x
      have hic := HXO.out.le
      have hit := HXO.out.top
      simp only at hic hit
      have d0 : wr.cell? ⟨g, o + m * 5, none⟩ = some (.int .i64 kd) := hc 0 (by omega)
      have d1 : wr.cell? ⟨g, o + m * 5 + 1, none⟩ = some (.int .i64 pt) := hc 1 (by omega)
      have d2 : wr.cell? ⟨g, o + m * 5 + 2, none⟩ = some (.int .i64 fn) := hc 2 (by omega)
      have d3 : wr.cell? ⟨g, o + m * 5 + 3, none⟩ = some (.int .i64 ar) := hc 3 (by omega)
      have d4 : wr.cell? ⟨g, o + m * 5 + 4, none⟩ = some (.slice ip ins.length ic) := hc 4 (by omega)
      clear hc hx hxm hGr
      have HJA : Hid (∀ ob, J (flatC ((os.map OV.o).take m)).length (wr.alloc ob)) := hide (fun ob => HST.out _ _ _ HJ.out (alloc_below wr ob))
      have HGT : Hid (∀ j, j < ins.length → (tellG 0 (os.map OV.o)).getD ((flatC ((os.map OV.o).take m)).length + j) #[] = #[.int .i64 (m : Int), eV (ins[j]!)]) := by
        refine hide (fun j hj => ?_)
        have h := tellG_get (os.map OV.o) 0 m j HKL.out (by rw [HMO.out]; exact hj)
        rw [HMO.out, Nat.zero_add] at h
        exact h
      have HPN : Hid ((flatC ((os.map OV.o).take (m + 1))).length = (flatC ((os.map OV.o).take m)).length + ins.length) := hide (by rw [pos_next HKL.out, HMO.out])
      have HPL : Hid ((flatC ((os.map OV.o).take (m + 1))).length ≤ (tellG 0 (os.map OV.o)).length) := hide (by rw [HLT.out]; exact pos_le)
      obtain ⟨P0, hP0⟩ : ∃ P0, (flatC ((os.map OV.o).take m)).length = P0 := ⟨_, rfl⟩
      rw [hP0] at HJA HGT HPN HJ
      rw [HPN.out] at HPL
      clear hP0
      gi_wp2
      gi_loopw [17] (fun i wq => ∃ j : Nat, j ≤ ins.length ∧ i = .int .i64 (j : Int) ∧ Hid (J (P0 + j) wq)) (fun i _ => ins.length - (intOf i).toNat)
      case atStart => exact ⟨0, Nat.zero_le _, rfl, hide (HJA.out _)⟩
      case round =>
        obtain ⟨j, hj, rfl, HJj⟩ := hrel
        rename World => wq
        clear d0 d1 d2 d3 d4
        by_cases hjl : j < ins.length
        · obtain ⟨g3, o3, he3, t0, t1⟩ := ERow.cell ((HR.out _ wq HJj.out).2.ok _ HXM.out) j hjl
          try simp only at he3 t0 t1
          subst he3
          have hgt := HGT.out j hjl
          obtain ⟨y, hy⟩ : ∃ y, ins[j]! = y := ⟨_, rfl⟩
          rw [hy] at t0 t1 hgt
          obtain ⟨yf, yp⟩ := y
          try simp only at t0 t1
          have hgt2 : (tellG 0 (os.map OV.o)).getD (P0 + j) #[] = #[.int .i64 (m : Int), .agg #[.int .i64 yf, .int .i64 yp]] := hgt
          have hJ2 := HST.out _ _ _ HJj.out (alloc_below wq (.cells #[.int .i64 yf, .int .i64 yp] 52 (0, 0)))
          obtain ⟨fn', tmps, assign, body, hyy, hRd⟩ := HY.out _ _ hJ2 (by have := HPL.out; omega)
          rw [hgt2] at hyy
          have HRd := hide hRd
          clear hRd hgt hgt2 hy hJ2
          gi_wp2
          refine HRd.out.mono ?_
          rintro e W3 (⟨rfl, hJ3⟩ | ⟨rfl, hJ3⟩)
          · have J3 := hide hJ3
            clear HRd hyy hJ3 t0 t1
            gi_wp2
            go_roundw
            case rel => exact ⟨j + 1, by omega, by first | rfl | go_num, J3⟩
            case measure => simp [intOf]; omega
          · have J3 := hide hJ3
            have hle : P0 + j + 1 ≤ (tellG 0 (os.map OV.o)).length := by have := HPL.out; omega
            have HLE := hide hle
            clear HRd hyy hJ3 t0 t1 hle
            gi_wp2
            refine bodyPost_ret (results_none rfl _ _ _) rfl ?_
            exact ⟨⟨_, rfl⟩, .inr ⟨P0 + j + 1, HLE.out, J3.out⟩⟩
        · obtain rfl : j = ins.length := by omega
          have HJ2 : Hid (J (flatC ((os.map OV.o).take (m + 1))).length wq) := hide (by rw [HPN.out]; exact HJj.out)
          gi_wp2
          go_roundw
          case rel => exact ⟨m + 1, by omega, by first | rfl | go_num, HJ2⟩
          case measure => simp [intOf]; omega
    · obtain rfl : m = os.length := by omega
      have HJ2 : Hid (J (tellG 0 (os.map OV.o)).length wr) := by
        have h := HJ.out
        rw [show (os.map OV.o).take os.length = os.map OV.o from List.take_of_length_le (by simp), ← HLT.out] at h
        exact hide h
      gi_wp2
      refine bodyPost_end (results_none rfl _ _ _) rfl ?_
      exact ⟨⟨_, rfl⟩, .inl HJ2.out⟩
end Go.Proofs.YtifldnpccgbnkaaGreat

/-
  How many ports each operator has left, as they lie in memory; slices.IndexFunc over them. No conditions.
-/
namespace Go.Proofs.YtifldnpccgbnkaaGreat
open Go.RowKit Go.Shelf

def LRep (W : World) (lb : Nat) (f : Nat → Int) : Prop := ∃ cs : Array Value, W.heap[lb]? = some (.cells cs 111 (0, 0)) ∧ cs.size = 24 ∧ ∀ i, i < 24 → cs[i]? = some (.int .i64 (f i))
theorem LRep.cell {W : World} {lb : Nat} {f : Nat → Int} (h : LRep W lb f) {i : Nat} (hi : i < 24) : W.cell? ⟨lb, i, none⟩ = some (.int .i64 (f i)) := by
  obtain ⟨cs, h1, _, h3⟩ := h
  simp [World.cell?, h1, h3 i hi]
theorem LRep.below {W W' : World} {lb : Nat} {f : Nat → Int} (h : LRep W lb f) (hb : Below W.heap.size W W') : LRep W' lb f := by
  obtain ⟨cs, h1, h2⟩ := h
  exact ⟨cs, below_box hb h1, h2⟩
theorem LRep.free {W : World} {lb : Nat} {f : Nat → Int} (h : LRep W lb f) {i : Nat} : W.frozen? ⟨lb, i, none⟩ = false := by
  obtain ⟨cs, h1, _, _⟩ := h
  simp [World.frozen?, h1]
def firstUp (f : Nat → Int) : Option Nat := (List.range 24).find? (fun n => decide (0 < f n))

theorem up_any {W : World} {n : Int} : Calls Tryz.prog 56 #[.int .i64 n] W fun e w' => e = .returned (.bool (decide (n > 0))) ∧ w' = W := by
  go_enter Tryz.func56, Tryz.ntmps56
  go_wp2
  go_ret
  exact ⟨rfl, rfl⟩

set_option maxRecDepth 100000 in
set_option maxHeartbeats 4000000 in
theorem index_any {W : World} {lb : Nat} {f : Nat → Int} (h : LRep W lb f) : Calls Tryz.prog 55 #[.slice (some ⟨lb, 0, none⟩) 24 24, .func (.func 56) #[] #[]] W fun e w' => e = .returned (.int .i64 (match firstUp f with | some n => (n : Int) | none => -1)) ∧ w' = W := by
  have H := hide h
  clear h
  obtain ⟨rc, hrc⟩ : ∃ rc : Int, (match firstUp f with | some n => (n : Int) | none => -1) = rc := ⟨_, rfl⟩
  rw [hrc]
  have HRC := hide hrc
  clear hrc
  go_enter Tryz.func55, Tryz.ntmps55
  go_wp2_with fail
  go_loopw [8] (fun i wr => ∃ (k : Nat), k ≤ 24 ∧ i = .int .i64 (k : Int) ∧ wr = W ∧ Hid (∀ j, j < k → f j ≤ 0)) (fun i _ => 24 - (intOf i).toNat)
  case atStart => exact ⟨0, Nat.zero_le _, rfl, rfl, hide (fun j hj => absurd hj (Nat.not_lt_zero j))⟩
  case round =>
    obtain ⟨k, hk, rfl, rfl, HN⟩ := hrel
    rename World => W
    by_cases hlt : k < 24
    · have c0 := H.out.cell hlt
      obtain ⟨v, hv⟩ : ∃ v, f k = v := ⟨_, rfl⟩
      rw [hv] at c0
      have HV := hide hv
      clear hv
      go_wp2_with fail
      refine up_any.mono ?_
      rintro _ _ ⟨rfl, rfl⟩
      rename World => W
      by_cases c : 0 < v
      · have e1 : decide (v > 0) = true := decide_eq_true c
        have HQ : Hid (firstUp f = some k) := by
          refine hide ?_
          unfold firstUp
          rw [List.find?_range_eq_some]
          exact ⟨by rw [HV.out]; exact decide_eq_true c, by simpa using hlt, fun j hj => by rw [decide_eq_false (by have := HN.out j hj; omega)]; rfl⟩
        rw [e1]
        clear c e1
        go_wp2
        go_ret
        exact ⟨by rw [← HRC.out, HQ.out]; rfl, rfl⟩
      · have e1 : decide (v > 0) = false := decide_eq_false c
        have HN2 : Hid (∀ j, j < k + 1 → f j ≤ 0) := by
          refine hide (fun j hj => ?_)
          by_cases e : j = k
          · subst e; rw [HV.out]; omega
          · exact HN.out j (by omega)
        rw [e1]
        clear c e1
        go_wp2
        exact ⟨⟨k + 1, by omega, by go_num, trivial, HN2⟩, by simp [intOf]; omega⟩
    · obtain rfl : k = 24 := by omega
      have HQ : Hid (firstUp f = none) := by
        refine hide ?_
        unfold firstUp
        rw [List.find?_range_eq_none]
        exact fun j hj => by rw [decide_eq_false (by have := HN.out j hj; omega)]; rfl
      go_wp2
      go_ret
      exact ⟨by rw [← HRC.out, HQ.out]; rfl, rfl⟩
end Go.Proofs.YtifldnpccgbnkaaGreat

/-
  What is left of each operator's ports, plainly, told edge by edge; the first that has one left. No conditions but that no fault was found.
-/
namespace Go.Proofs.YtifldnpccgbnkaaGreat
open Go.RowKit Go.Shelf

def subN (os : List GO) (k i : Nat) : Nat := (((flatC os).take k).filter (fun e => decide (e.f = (i : Int)))).length
def startF (os : List GO) (k i : Nat) : Int := if i < k then portsO os i else 0
def leftF (os : List GO) (k i : Nat) : Int := startF os os.length i - (subN os k i : Int)
theorem tellG_edge : ∀ (os : List GO) (n k : Nat), k < (flatC os).length → ∃ m : Int, (tellG n os).getD k #[] = #[.int .i64 m, eV ((flatC os)[k]!)]
  | [], _, _, h => by cases h
  | o :: os, n, k, h => by
    have e0 : flatC (o :: os) = o.ins ++ flatC os := by simp [flatC]
    rw [e0] at h ⊢
    simp only [tellG]
    by_cases hk : k < o.ins.length
    · refine ⟨(n : Int), ?_⟩
      rw [List.getD_eq_getElem?_getD, List.getElem?_append_left (by simpa using hk), getElem!_pos (o.ins ++ flatC os) k h, List.getElem_append_left hk]
      simp [List.getElem?_map, List.getElem?_eq_getElem hk]
    · have hk2 : k - o.ins.length < (flatC os).length := by rw [List.length_append] at h; omega
      obtain ⟨m, hm⟩ := tellG_edge os (n + 1) (k - o.ins.length) hk2
      refine ⟨m, ?_⟩
      rw [List.getD_eq_getElem?_getD, List.getElem?_append_right (by simp; omega), ← List.getD_eq_getElem?_getD, List.length_map, hm, getElem!_pos (o.ins ++ flatC os) k h, List.getElem_append_right (by omega), getElem!_pos (flatC os) _ hk2]
theorem subN_next {os : List GO} {k : Nat} (hk : k < (flatC os).length) (i : Nat) : subN os (k + 1) i = subN os k i + (if ((flatC os)[k]!).f = (i : Int) then 1 else 0) := by
  unfold subN
  rw [List.take_succ_eq_append_getElem hk, List.filter_append, List.length_append, getElem!_pos (flatC os) k hk]
  congr 1
  by_cases h : ((flatC os)[k]).f = (i : Int)
  · rw [if_pos h, List.filter_cons_of_pos (by simpa using h)]; rfl
  · rw [if_neg h, List.filter_cons_of_neg (by simpa using h)]; rfl
theorem subN_le (os : List GO) (k i : Nat) : subN os k i ≤ (flatC os).length :=
  Nat.le_trans (List.length_filter_le _ _) (by simp; omega)
theorem flat_le : ∀ (os : List GO), (∀ o ∈ os, o.ins.length ≤ 4) → (flatC os).length ≤ os.length * 4
  | [], _ => Nat.le_refl _
  | o :: os, h => by
    have := flat_le os (fun x hx => h x (by simp [hx]))
    have := h o (by simp)
    simp only [flatC, List.flatMap_cons, List.length_append, List.length_cons] at *
    omega
theorem flat_96 {parts : Int} {os : List GO} (h : (scanS parts os).bad = none) (hl : os.length ≤ 24) : (flatC os).length ≤ 96 := by
  have := flat_le os (fun o ho => by
    obtain ⟨i, hi, rfl⟩ := List.getElem_of_mem ho
    have h1 := (one_zero (scan_good h hi).2).2.2.1
    rw [getElem!_pos os i hi] at h1
    exact ins_four h1)
  omega
theorem startF_bd (os : List GO) (k i : Nat) : 0 ≤ startF os k i ∧ startF os k i ≤ 4 := by
  unfold startF
  split
  · exact portsC_le _ _
  · omega
theorem startF_next (os : List GO) (k : Nat) : startF os (k + 1) = fun j => if j = k then portsO os k else startF os k j := by
  funext j
  unfold startF
  by_cases h : j = k
  · subst h; rw [if_pos (by omega), if_pos rfl]
  · rw [if_neg h]
    by_cases h2 : j < k
    · rw [if_pos h2, if_pos (by omega)]
    · rw [if_neg h2, if_neg (by omega)]
theorem leftF_zero (os : List GO) : leftF os 0 = startF os os.length := by
  funext i
  simp [leftF, subN]
theorem leftF_next {os : List GO} {k : Nat} (hk : k < (flatC os).length) {t : Nat} (ht : ((flatC os)[k]!).f = (t : Int)) : leftF os (k + 1) = fun j => if j = t then leftF os k t - 1 else leftF os k j := by
  funext j
  unfold leftF
  rw [subN_next hk, ht]
  by_cases h : j = t
  · subst h; rw [if_pos rfl, if_pos rfl]; omega
  · rw [if_neg h, if_neg (by omega)]; omega
theorem first_loose {parts : Int} {os : List GO} (h : (scanS parts os).bad = none) (hl : os.length ≤ 24) : firstUp (leftF os (flatC os).length) = looseAt os := by
  have key : ∀ i, 0 < leftF os (flatC os).length i ↔ i < os.length ∧ looseP os i = true := by
    intro i
    have e : subN os (flatC os).length i = (fromN os i).length := by unfold subN fromN; rw [List.take_length]
    by_cases hi : i < os.length
    · rw [← left_loose h]
      unfold leftF startF leftC
      rw [if_pos hi, e]
      exact ⟨fun x => ⟨hi, x⟩, fun x => x.2⟩
    · unfold leftF startF
      rw [if_neg hi]
      constructor
      · intro x; omega
      · intro x; exact absurd x.1 hi
  cases hq : looseAt os with
  | some n =>
    unfold looseAt at hq
    rw [List.find?_range_eq_some] at hq
    obtain ⟨h1, h2, h3⟩ := hq
    have hn : n < os.length := by simpa using h2
    unfold firstUp
    rw [List.find?_range_eq_some]
    refine ⟨decide_eq_true ((key n).2 ⟨hn, h1⟩), by simp; omega, fun j hj => ?_⟩
    rw [decide_eq_false]
    · rfl
    · intro x
      have h4 := h3 j hj
      rw [((key j).1 x).2] at h4
      cases h4
  | none =>
    unfold looseAt at hq
    rw [List.find?_range_eq_none] at hq
    unfold firstUp
    rw [List.find?_range_eq_none]
    intro j _
    rw [decide_eq_false]
    · rfl
    · intro x
      have h5 := (key j).1 x
      have h4 := hq j h5.1
      rw [h5.2] at h4
      cases h4
theorem LRep.set {W : World} {lb : Nat} {f : Nat → Int} (h : LRep W lb f) {i : Nat} (hi : i < 24) (v : Int) : LRep (W.setCell ⟨lb, i, none⟩ (.int .i64 v)) lb (fun j => if j = i then v else f j) := by
  obtain ⟨cs, h1, h2, h3⟩ := h
  refine ⟨cs.setIfInBounds i (.int .i64 v), heap_set_same h1 _ _, by simp [h2], fun j hj => ?_⟩
  rw [Array.getElem?_setIfInBounds]
  by_cases e : j = i
  · subst e; simp [h2, hj]
  · rw [if_neg (fun x => e x.symm)]; simp only [if_neg e]; exact h3 j hj
end Go.Proofs.YtifldnpccgbnkaaGreat

/-
  The program's Check, from what looseOp answers. The condition: looseOp's answer.
-/
namespace Go.Proofs.YtifldnpccgbnkaaGreat
open Go.RowKit

def LooseOp : Prop := ∀ (W : World) (parts : Int) (p : Option Addr) (cap : Nat) (os : List OV), GRow W p cap os → os.length ≤ 24 → (scanS parts (os.map OV.o)).bad = none →
  Calls Tryz.prog 37 #[.slice p os.length cap] W fun e w' => e = .returned (.tuple #[.int .i64 (match looseAt (os.map OV.o) with | some n => (n : Int) | none => -1), .bool (looseAt (os.map OV.o)).isSome]) ∧ Below W.heap.size W w'
theorem scan_ne (parts : Int) : ∀ (os : List GO) (s : SS) (x : Nat × Int), (os.foldl (stepS parts) s).bad = some x → s.bad = some x ∨ x.2 ≠ 0
  | [], s, x, h => .inl h
  | o :: os, s, x, h => by
    rw [List.foldl_cons] at h
    rcases scan_ne parts os _ x h with h1 | h1
    · unfold stepS at h1
      cases hs : s.bad with
      | some y => rw [hs] at h1; simp only at h1; rw [hs] at h1; exact .inl h1
      | none =>
        rw [hs] at h1
        simp only at h1
        by_cases h0 : (oneC parts o s.a s.T).1 = 0
        · rw [if_pos h0] at h1; cases h1
        · rw [if_neg h0] at h1
          simp only [Option.some.injEq] at h1
          rw [← h1]
          exact .inr h0
    · exact .inr h1
theorem scan_source {pn : Nat} (hp : pn ≤ 4) {os : List OV} (h : (scanS (pn : Int) (os.map OV.o)).bad = none) : ∀ x ∈ os, x.o.kind = 1 → 0 ≤ x.o.part ∧ x.o.part < 4 := by
  intro x hx hk
  obtain ⟨i, hi, rfl⟩ := List.getElem_of_mem hx
  have h1 := (one_zero (scan_good h (k := i) (by simpa using hi)).2).2.2.2.1
  rw [getO os hi, getElem!_pos os i hi] at h1
  unfold fieldsC at h1
  rw [hk] at h1
  simp at h1
  omega

set_option maxRecDepth 100000 in
set_option maxHeartbeats 16000000 in
theorem check_from (hlo : LooseOp) {W : World} {parts : Int} {p : Option Addr} {cap : Nat} {os : List OV} (ho : GRow W p cap os) :
    Calls Tryz.prog 27 #[.agg #[.int .i64 parts, .slice p os.length cap]] W fun e w' => e = .returned (.tuple #[.int .i64 (checkC parts (os.map OV.o)).1, .int .i64 (checkC parts (os.map OV.o)).2]) ∧ Below W.heap.size W w' := by
  obtain ⟨rc, hrc⟩ : ∃ rc, checkC parts (os.map OV.o) = rc := ⟨_, rfl⟩
  rw [hrc]
  have HRC := hide hrc
  clear hrc
  have HLO := hide hlo
  have i3 := ho.le
  have i4 := ho.top
  have HO := hide ho
  have HVB := hide (alloc_below W (.cells #[.int .i64 parts, .slice p os.length cap] 24 (0, 0)))
  clear ho hlo
  by_cases a1 : 1 ≤ parts ∧ parts ≤ 4
  rotate_left
  · have HQ : Hid (checkC parts (os.map OV.o) = (0, 1)) := hide (by unfold checkC; rw [if_neg a1])
    have HV : Hid ((decide ((1 : Int) ≤ parts) && decide (parts ≤ 4)) = false) := hide (bf a1)
    clear a1
    go_enter Tryz.func27, Tryz.ntmps27
    go_wp2_with fail
    refine within_any.mono ?_
    rintro _ wx ⟨rfl, rfl⟩
    rw [HV.out]
    go_wp2
    go_ret2
    exact ⟨by rw [← HRC.out, HQ.out]; rfl, HVB.out⟩
  · have HV : Hid ((decide ((1 : Int) ≤ parts) && decide (parts ≤ 4)) = true) := hide (bt a1.1 a1.2)
    have HP := hide a1
    by_cases a3 : 24 < os.length
    · have HQ : Hid (checkC parts (os.map OV.o) = (0, 3)) := hide (by unfold checkC; rw [if_pos a1, if_neg (by simp; omega)])
      clear a1
      go_enter Tryz.func27, Tryz.ntmps27
      go_wp2_with fail
      refine within_any.mono ?_
      rintro _ wx ⟨rfl, rfl⟩
      rw [HV.out]
      go_wp2
      go_ret2
      exact ⟨by rw [← HRC.out, HQ.out]; rfl, HVB.out⟩
    · have hl : os.length ≤ 24 := by omega
      have HL : Hid ((os.map OV.o).length ≤ 24) := hide (by simpa using hl)
      obtain ⟨pn, hpn⟩ : ∃ pn : Nat, parts = (pn : Int) := ⟨parts.toNat, by omega⟩
      subst hpn
      have HP1 : Hid (1 ≤ pn) := hide (by omega)
      have HP4 : Hid (pn ≤ 4) := hide (by omega)
      have hf := opFault_any (W := W.alloc (.cells #[.int .i64 (pn : Int), .slice p os.length cap] 24 (0, 0))) HP.out.1 HP.out.2 (HO.out.below HVB.out) hl
      have hv1 : (W.alloc (.cells #[.int .i64 (pn : Int), .slice p os.length cap] 24 (0, 0))).heap[W.heap.size]? = some (.cells #[.int .i64 (pn : Int), .slice p os.length cap] 24 (0, 0)) := heap_alloc_new W _
      clear a1
      go_enter Tryz.func27, Tryz.ntmps27
      go_wp2_with fail
      refine within_any.mono ?_
      rintro _ wx ⟨rfl, rfl⟩
      rw [HV.out]
      obtain ⟨gB, hgB⟩ : ∃ gB, W.heap.size = gB := ⟨_, rfl⟩
      obtain ⟨V, hV⟩ : ∃ V, V = W.alloc (.cells #[.int .i64 (pn : Int), .slice p os.length cap] 24 (0, 0)) := ⟨_, rfl⟩
      rw [hgB] at hv1
      rw [← hV] at hf hv1 HVB ⊢
      have z0 : V.cell? ⟨gB, 0, none⟩ = some (.int .i64 (pn : Int)) := by simp [World.cell?, hv1]
      have z1 : V.cell? ⟨gB, 1, none⟩ = some (.slice p os.length cap) := by simp [World.cell?, hv1]
      have HF := hide hf
      have fin : ∀ w' : World, Below V.heap.size V w' → Below W.heap.size W w' := fun w' hb => HVB.out.trans (hb.mono HVB.out.size)
      have HFIN := hide fin
      have fin2 : ∀ w' : World, Below V.heap.size V w' → Below gB W w' := fun w' hb => hgB ▸ fin w' hb
      have HFIN2 := hide fin2
      try rw [hgB]
      clear hV hv1 hf fin fin2 a3
      go_wp2_with fail
      refine HF.out.mono ?_
      rintro _ w1 ⟨rfl, b1⟩
      have HB1 := hide b1
      have v0 := cell_later b1 z0
      have v1 := cell_later b1 z1
      clear b1 z0 z1 HF
      cases hb : (scanS (pn : Int) (os.map OV.o)).bad with
      | some x =>
        obtain ⟨n, e⟩ := x
        have HQ : Hid (checkC (pn : Int) (os.map OV.o) = ((n : Int), e)) := hide (by unfold checkC; rw [if_pos HP.out, if_pos HL.out, hb])
        have hne : e ≠ 0 := by
          rcases scan_ne (pn : Int) (os.map OV.o) ⟨none, [], []⟩ (n, e) hb with h | h
          · cases h
          · exact h
        have e1 : faultN (scanS (pn : Int) (os.map OV.o)) = (n : Int) := by unfold faultN; rw [hb]
        have e2 : faultE (scanS (pn : Int) (os.map OV.o)) = e := by unfold faultE; rw [hb]
        have ce : (e != 0) = true := by simpa using hne
        rw [e1, e2]
        clear e1 e2 hb hne
        go_wp2
        go_ret2
        exact ⟨by rw [← HRC.out, HQ.out]; rfl, by first | exact HFIN.out _ HB1.out | exact HFIN2.out _ HB1.out⟩
      | none =>
        have HB := hide hb
        have e1 : faultN (scanS (pn : Int) (os.map OV.o)) = 0 := by unfold faultN; rw [hb]
        have e2 : faultE (scanS (pn : Int) (os.map OV.o)) = 0 := by unfold faultE; rw [hb]
        rw [e1, e2]
        clear e1 e2 hb
        have HLC := hide (HLO.out _ (pn : Int) _ _ _ (HO.out.below (HVB.out.trans (HB1.out.mono HVB.out.size))) hl HB.out)
        go_wp2_with fail
        refine HLC.out.mono ?_
        rintro _ w2 ⟨rfl, b2⟩
        cases hq : looseAt (os.map OV.o) with
        | some n =>
          have HQ := hide (check_loose HP.out HL.out HB.out hq)
          have HB2 : Hid (Below V.heap.size V w2) := hide (HB1.out.trans (b2.mono HB1.out.size))
          clear b2 hq HLC v0 v1
          go_wp2
          go_ret2
          exact ⟨by rw [← HRC.out, HQ.out]; rfl, by first | exact HFIN.out _ HB2.out | exact HFIN2.out _ HB2.out⟩
        | none =>
          have HQ := hide (check_ends HP.out HL.out HB.out hq rfl)
          have HB2 : Hid (Below V.heap.size V w2) := hide (HB1.out.trans (b2.mono HB1.out.size))
          have HEN := hide (ends_any HP1.out HP4.out (HO.out.below (HVB.out.trans (HB2.out.mono HVB.out.size))) hl (scan_source HP4.out HB.out))
          have x0 := cell_later b2 v0
          have x1 := cell_later b2 v1
          clear b2 hq HLC v0 v1
          go_wp2_with fail
          refine HEN.out.mono ?_
          rintro _ w3 ⟨rfl, b3⟩
          have HB3 : Hid (Below V.heap.size V w3) := hide (HB2.out.trans (b3.mono HB2.out.size))
          clear b3 HEN x0 x1
          go_wp2
          go_ret2
          exact ⟨by rw [← HRC.out, HQ.out]; rfl, by first | exact HFIN.out _ HB3.out | exact HFIN2.out _ HB3.out⟩
end Go.Proofs.YtifldnpccgbnkaaGreat

/-
  The program's looseOp. The conditions: lengths, and that no fault was found.
-/
namespace Go.Proofs.YtifldnpccgbnkaaGreat
open Go.RowKit Go.Shelf
attribute [local go_sem] Oper.semAt_some

def aggC : Value → Array Value
  | .agg a => a
  | _ => #[]
theorem enInputs : ∀ args w, (callFunc 72 args).run Tryz.prog w = .ok (.enter 72 args) w := enters_of Tryz.func72 (by kernel_rfl) rfl
theorem inputs_any {W : World} {p : Option Addr} {n cap : Nat} : Calls Tryz.prog 54 #[.slice p n cap] W fun e w' => e = .returned (.func (.func 72) #[] #[.pointer (some ⟨W.heap.size, 0, none⟩)]) ∧ w' = W.alloc (.cells #[.slice p n cap] 22 (0, 0)) := by
  go_enter Tryz.func54, Tryz.ntmps54
  go_wp2
  go_ret
  exact ⟨rfl, rfl⟩
theorem zero_left : (#[.int .i64 0, .int .i64 0, .int .i64 0, .int .i64 0, .int .i64 0, .int .i64 0, .int .i64 0, .int .i64 0, .int .i64 0, .int .i64 0, .int .i64 0, .int .i64 0, .int .i64 0, .int .i64 0, .int .i64 0, .int .i64 0, .int .i64 0, .int .i64 0, .int .i64 0, .int .i64 0, .int .i64 0, .int .i64 0, .int .i64 0, .int .i64 0] : Array Value) = Array.replicate 24 (.int .i64 0) := by kernel_rfl
theorem LRep.new {W : World} {tb : Nat} (h : W.heap[tb]? = some (.cells #[.int .i64 0, .int .i64 0, .int .i64 0, .int .i64 0, .int .i64 0, .int .i64 0, .int .i64 0, .int .i64 0, .int .i64 0, .int .i64 0, .int .i64 0, .int .i64 0, .int .i64 0, .int .i64 0, .int .i64 0, .int .i64 0, .int .i64 0, .int .i64 0, .int .i64 0, .int .i64 0, .int .i64 0, .int .i64 0, .int .i64 0, .int .i64 0] 111 (0, 0))) (os : List GO) : LRep W tb (startF os 0) := by
  rw [zero_left] at h
  refine ⟨_, h, by simp, fun i hi => ?_⟩
  rw [Array.getElem?_eq_getElem (by simp; omega)]
  simp [startF]
theorem LRep.keeps {X Y : World} {B lb : Nat} {f : Nat → Int} (h : LRep X lb f) (ho : Only (· = lb) X Y) : KeepsFrom B X Y := by
  refine ⟨ho.size, fun k o _ hk hc => ho.obj hk ?_⟩
  intro e
  have e' : k = lb := e
  obtain ⟨cs, h1, _⟩ := h
  rw [e', h1] at hk
  cases hk
  simp [Obj.isCells] at hc

set_option maxRecDepth 100000 in
set_option maxHeartbeats 8000000 in
theorem loose_in (n : Nat) (hn : 4 ≤ n) {W : World} {parts : Int} {p : Option Addr} {cap : Nat} {os : List OV} (ho : GRow W p cap os) (hl : os.length ≤ 24) (hs : (scanS parts (os.map OV.o)).bad = none) {rv : Int} (hrv : (match looseAt (os.map OV.o) with | some n => (n : Int) | none => -1) = rv) {rb : Bool} (hrb : (looseAt (os.map OV.o)).isSome = rb) :
    CallsIn Fence.wide n Tryz.prog 37 #[.slice p os.length cap] W fun e w' => e = .returned (.tuple #[.int .i64 rv, .bool rb]) ∧ Below W.heap.size W w' := by
  have i3 := ho.le
  have i4 := ho.top
  have HO := hide ho
  have HS := hide hs
  have HRV := hide hrv
  have HRB := hide hrb
  clear ho hs hrv hrb
  refine callsIn_of_wp_marks Tryz.func37 rfl trivial ?_ rfl
  simp only [Tryz.ntmps37, List.size_toArray, List.length_cons, List.length_nil, Nat.reduceAdd, Nat.reduceSub, Array.replicate_succ, Array.replicate_zero, List.push_toArray, List.append_toArray, List.nil_append, List.cons_append]
  gi_wp2_with fail
  obtain ⟨gB, hgB⟩ : ∃ gB, W.heap.size = gB := ⟨_, rfl⟩
  obtain ⟨V, hV⟩ : ∃ V, V = W.alloc (.cells #[.int .i64 0, .int .i64 0, .int .i64 0, .int .i64 0, .int .i64 0, .int .i64 0, .int .i64 0, .int .i64 0, .int .i64 0, .int .i64 0, .int .i64 0, .int .i64 0, .int .i64 0, .int .i64 0, .int .i64 0, .int .i64 0, .int .i64 0, .int .i64 0, .int .i64 0, .int .i64 0, .int .i64 0, .int .i64 0, .int .i64 0, .int .i64 0] 111 (0, 0)) := ⟨_, rfl⟩
  rw [← hV]
  have HV2 : Hid (LRep V gB (startF (os.map OV.o) 0)) := by
    refine hide (LRep.new ?_ _)
    rw [hV, ← hgB]
    exact heap_alloc_new _ _
  have HVB : Hid (Below W.heap.size W V) := by rw [hV]; exact hide (alloc_below W _)
  have hVs : V.heap.size = gB + 1 := by rw [hV, ← hgB]; simp
  try rw [hgB]
  clear hV
  have HWX : Hid (∀ w', Only (· = gB) V w' → Below W.heap.size W w') := by
    refine hide (fun w' h => HVB.out.trans (h.below (by omega) (fun i e => by have e' : i = gB := e; omega)))
  gi_loopw [12] (fun i wr => ∃ k : Nat, k ≤ os.length ∧ i = .int .i64 (k : Int) ∧ Hid (LRep wr gB (startF (os.map OV.o) k)) ∧ Hid (Only (· = gB) V wr)) (fun i _ => os.length - (intOf i).toNat)
  case atStart => exact ⟨0, Nat.zero_le _, rfl, HV2, hide (Only.refl _ _)⟩
  case round =>
    obtain ⟨k, hk, rfl, HLR, HOn⟩ := hrel
    by_cases hlt : k < os.length
    · obtain ⟨g, o, rfl, hc⟩ := (HO.out.below (HWX.out _ HOn.out)).cell k hlt
      obtain ⟨x, hx⟩ : ∃ x, os[k]! = x := ⟨_, rfl⟩
      rw [hx] at hc
      have HMO : Hid ((os.map OV.o)[k]! = x.o) := hide (by rw [getO os hlt, hx])
      obtain ⟨⟨kd, pt, fn, ar, ins⟩, ip, ic⟩ := x
      have d0 : wr.cell? ⟨g, o + k * 5, none⟩ = some (.int .i64 kd) := hc 0 (by omega)
      have d1 : wr.cell? ⟨g, o + k * 5 + 1, none⟩ = some (.int .i64 pt) := hc 1 (by omega)
      have d2 : wr.cell? ⟨g, o + k * 5 + 2, none⟩ = some (.int .i64 fn) := hc 2 (by omega)
      have d3 : wr.cell? ⟨g, o + k * 5 + 3, none⟩ = some (.int .i64 ar) := hc 3 (by omega)
      have d4 : wr.cell? ⟨g, o + k * 5 + 4, none⟩ = some (.slice ip ins.length ic) := hc 4 (by omega)
      clear hc hx
      gi_wp2_with fail
      refine ⟨trivial, fun _ => by omega, (callsIn_wide.2 ports_any).mono ?_⟩
      rintro _ w1 ⟨rfl, b1⟩
      have hb1 : Below wr.heap.size wr w1 := (alloc_below wr _).trans (b1.mono (by simp))
      have hl1 := HLR.out.below hb1
      have c0 := hl1.cell (i := k) (by omega)
      have c1 := hl1.free (i := k)
      have HN : Hid (LRep (w1.setCell ⟨gB, k, none⟩ (.int .i64 (portsC kd ar))) gB (startF (os.map OV.o) (k + 1))) := by
        refine hide ?_
        rw [startF_next]
        have h := hl1.set (i := k) (by omega) (portsC kd ar)
        unfold portsO
        rw [HMO.out]
        exact h
      have HO1 : Hid (Only (· = gB) V (w1.setCell ⟨gB, k, none⟩ (.int .i64 (portsC kd ar)))) := hide ((HOn.out.trans (Only.fresh hb1 _)).trans (Only.set _ _ _ _ rfl))
      clear b1 hb1 hl1 d0 d1 d2 d3 d4
      gi_wp2
      go_roundw
      case rel => exact ⟨k + 1, by omega, by first | rfl | go_num, HN, HO1⟩
      case measure => simp [intOf]; omega
    · obtain rfl : k = os.length := by omega
      obtain ⟨bk, hbk⟩ : ∃ bk, wr.heap.size = bk := ⟨_, rfl⟩
      have hbg : gB < bk := by have := HOn.out.size; omega
      have HFL : Hid (LRep wr gB (leftF (os.map OV.o) 0)) := by
        refine hide ?_
        rw [leftF_zero]
        simp only [List.length_map]
        exact HLR.out
      have HTL := hide (tellG_len (os.map OV.o) 0)
      gi_wp2_with fail
      refine ⟨trivial, fun _ => by omega, (callsIn_wide.2 inputs_any).mono ?_⟩
      rintro _ w3 ⟨rfl, hw3⟩
      rw [hbk]
      have hb3 : Below wr.heap.size wr w3 := by rw [hw3]; exact alloc_below wr _
      have HBX : Hid (w3.heap[bk]? = some (.cells #[.slice p os.length cap] 22 (0, 0))) := by rw [hw3, ← hbk]; exact hide (heap_alloc_new _ _)
      have HL3 := hide (HFL.out.below hb3)
      have HO3 : Hid (Only (· = gB) V w3) := hide (HOn.out.trans (Only.fresh hb3 _))
      have h3s : w3.heap.size = bk + 1 := by rw [hw3, ← hbk]; simp
      clear hw3 hb3 hbk HLR HFL HV2
      gi_wp2_with fail
      refine range_list3 (by omega) (inputs_tells (n - 1) (by omega) (Bk := bk) (p := p) (cap := cap) (os := os)) rfl enInputs ?size (fun k X => LRep X gB (leftF (os.map OV.o) k) ∧ Only (· = gB) V X ∧ X.heap[bk]? = some (.cells #[.slice p os.length cap] 22 (0, 0))) (fun _ _ _ => False) ?grows ?puts (fun _ _ _ _ _ _ h => h.elim) ?reads ?start
        (fun x X => { tmps := #[.slice p os.length cap, undef, .int .i64 0, .bool false, .pointer (some ⟨gB, 0, none⟩), u5, u6, undef, .pointer (some ⟨X.heap.size, 0, none⟩), undef, .slice p os.length cap, .int .i64 (os.length : Int), .int .i64 (os.length : Int), .bool false, u14, u15, u16, u17, u18, u19, u20, u21, .slice p os.length cap, .func (.func 72) #[] #[.pointer (some ⟨bk, 0, none⟩)], x.getD 0 undef, x.getD 1 undef, undef, undef, undef, undef, undef, undef, undef, undef, undef, undef, undef], defers := [] }) (fun x X => X.alloc (.cells (aggC (x.getD 1 undef)) 52 (0, 0))) (fun k X => alloc_below X _) ?assign ?body ?done (fun _ _ _ _ _ _ h => h.elim)
      case size =>
        intro k hk
        rw [HTL.out] at hk
        obtain ⟨m, hm⟩ := tellG_edge (os.map OV.o) 0 k hk
        rw [hm]
        rfl
      case grows =>
        rintro k W1 W2 ⟨h1, h2, h3⟩ hb
        exact ⟨h1.below hb, h2.trans (Only.fresh hb _), below_box hb h3⟩
      case puts =>
        rintro k W1 l ob o' ⟨h1, h2, h3⟩ hl1 ho1 hc1
        have hoo : Only (· = l) W1 (W1.putObj l o') := Only.of_grown (F := (· = l)) (grownBy_putObj' W1 l o') (fun k e => by simpa using e.symm)
        refine ⟨?_, h2.step hoo (fun i e => .inr (by have e' : i = l := e; omega)), hoo.obj h3 (fun e => by have e' : bk = l := e; omega)⟩
        obtain ⟨cs, g1, g2⟩ := h1
        exact ⟨cs, hoo.obj g1 (fun e => by have e' : gB = l := e; omega), g2⟩
      case reads =>
        rintro k W1 ⟨h1, h2, h3⟩
        exact ⟨by simp [World.cell?, h3], HO.out.below (HWX.out _ h2)⟩
      case start => exact ⟨HL3.out, HO3.out, HBX.out⟩
      case assign =>
        intro l k X K hk hK
        rw [HTL.out] at hk
        obtain ⟨m, hm⟩ := tellG_edge (os.map OV.o) 0 k hk
        rw [hm] at hK ⊢
        obtain ⟨e, he⟩ : ∃ e, (flatC (os.map OV.o))[k]! = e := ⟨_, rfl⟩
        rw [he] at hK ⊢
        unfold eV at hK ⊢
        clear hm he
        simp only [aggC, Array.getD_eq_getD_getElem?, List.getElem?_toArray, List.getElem?_cons_zero, List.getElem?_cons_succ, Option.getD_some] at hK
        gi_wp2
        exact hK
      case body =>
        rintro l k Z X ⟨h1, h2, h3⟩ hk hsz hoX hlZ hwl
        rw [HTL.out] at hk
        obtain ⟨m, hm⟩ := tellG_edge (os.map OV.o) 0 k hk
        rw [hm] at hoX ⊢
        obtain ⟨e, he⟩ : ∃ e, (flatC (os.map OV.o))[k]! = e := ⟨_, rfl⟩
        have hem : e ∈ flatC (os.map OV.o) := by rw [← he, getElem!_pos (flatC (os.map OV.o)) k hk]; exact List.getElem_mem _
        obtain ⟨g1, g2, _, _⟩ := edge_good HS.out hem
        rw [List.length_map] at g2
        have h96 := flat_96 HS.out (by simpa using hl)
        rw [he] at hoX ⊢
        obtain ⟨ef, ep⟩ := e
        simp only at g1 g2
        obtain ⟨t, rfl⟩ : ∃ t : Nat, ef = (t : Int) := ⟨ef.toNat, by omega⟩
        have ht : t < 24 := by omega
        unfold eV at hoX ⊢
        simp only [aggC, Array.getD_eq_getD_getElem?, List.getElem?_toArray, List.getElem?_cons_zero, List.getElem?_cons_succ, Option.getD_some] at hoX ⊢
        have hpb : X.heap[Z.heap.size]? = some (.cells #[.int .i64 (t : Int), .int .i64 ep] 52 (0, 0)) := hoX.obj (heap_alloc_new Z _) (fun e => by have e' : Z.heap.size = l := e; omega)
        have b0 : X.cell? ⟨Z.heap.size, 0, none⟩ = some (.int .i64 (t : Int)) := by simp [World.cell?, hpb]
        have c0 := h1.cell ht
        have c1 := h1.free (i := t)
        have q1 := startF_bd (os.map OV.o) (os.map OV.o).length t
        have q2 := subN_le (os.map OV.o) k t
        obtain ⟨v, hv⟩ : ∃ v, leftF (os.map OV.o) k t = v := ⟨_, rfl⟩
        have hvb : -100 ≤ v ∧ v ≤ 100 := by rw [← hv]; unfold leftF; omega
        rw [hv] at c0
        have HN : Hid (LRep (X.setCell ⟨gB, t, none⟩ (.int .i64 (v - 1))) gB (leftF (os.map OV.o) (k + 1))) := by
          refine hide ?_
          rw [leftF_next hk (t := t) (by rw [he]), hv]
          exact h1.set ht _
        have HN2 : Hid (Only (· = gB) V (X.setCell ⟨gB, t, none⟩ (.int .i64 (v - 1)))) := hide (h2.trans (Only.set _ _ _ _ rfl))
        have HN3 : Hid ((X.setCell ⟨gB, t, none⟩ (.int .i64 (v - 1))).heap[bk]? = some (.cells #[.slice p os.length cap] 22 (0, 0))) := hide ((Only.set (F := (· = gB)) X gB t (.int .i64 (v - 1)) rfl).obj h3 (fun e => by have e' : bk = gB := e; omega))
        have HN4 : Hid (∀ B, KeepsFrom B X (X.setCell ⟨gB, t, none⟩ (.int .i64 (v - 1)))) := hide (fun B => h1.keeps (Only.set _ _ _ _ rfl))
        clear h1 h2 h3 hm he hem hoX hpb hv q1 q2 g1 g2
        gi_wp2
        exact ⟨HN4.out _, HN.out, HN2.out, HN3.out⟩
      case done =>
        rintro D X hD ⟨h1, h2, h3⟩ hK
        rw [HTL.out] at h1
        have hix := index_any h1
        rw [first_loose HS.out (by simpa using hl)] at hix
        have HIX : Hid (Calls Tryz.prog 55 #[.slice (some ⟨gB, 0, none⟩) 24 24, .func (.func 56) #[] #[]] X fun e w' => e = .returned (.int .i64 rv) ∧ w' = X) := by
          refine hide (hix.mono ?_)
          rintro e w' ⟨he, hw⟩
          exact ⟨he.trans (congrArg (fun z => Ending.returned (.int .i64 z)) HRV.out), hw⟩
        clear hix
        have HIS : Hid ((looseAt (os.map OV.o)).isSome = decide (0 ≤ rv)) := by
          refine hide ?_
          rw [← HRV.out]
          cases looseAt (os.map OV.o) with
          | some n => simp
          | none => rfl
        have HB := hide (HWX.out _ h2)
        have hsX := h2.size
        have HK := hide hK
        clear h1 h2 h3 hK
        gi_wp2_with fail
        refine ⟨trivial, fun _ => by omega, (callsIn_wide.2 HIX.out).mono ?_⟩
        rintro _ w5 ⟨rfl, rfl⟩
        have HFB : Hid (∀ ob, Below W.heap.size W (w5.putObj D ob)) := by
          refine hide (fun ob => ?_)
          have hb := HB.out
          exact hb.trans ((Only.of_grown (F := (· = D)) (grownBy_putObj' w5 D ob) (fun k e => by simpa using e.symm)).below hb.size (fun i e => by have e' : i = D := e; omega))
        by_cases h0 : 0 ≤ rv
        · have e1 : decide (rv ≥ 0) = true := decide_eq_true h0
          have HQ : Hid (rb = true) := hide (by rw [← HRB.out, HIS.out]; exact decide_eq_true h0)
          clear h0
          gi_wp2
          refine ⟨by simp, .inl ⟨_, _, rfl, run_takeDeferred HK.out, ?_⟩⟩
          refine ⟨_, results_tmp2 rfl _ _ _, ?_, ?_⟩
          · rw [HQ.out]; rfl
          · first | exact HFB.out _ | (rw [← hgB]; exact HFB.out _)
        · have e1 : decide (rv ≥ 0) = false := decide_eq_false h0
          have HQ : Hid (rb = false) := hide (by rw [← HRB.out, HIS.out]; exact decide_eq_false h0)
          clear h0
          gi_wp2
          refine ⟨by simp, .inl ⟨_, _, rfl, run_takeDeferred HK.out, ?_⟩⟩
          refine ⟨_, results_tmp2 rfl _ _ _, ?_, ?_⟩
          · rw [HQ.out]; rfl
          · first | exact HFB.out _ | (rw [← hgB]; exact HFB.out _)
theorem loose_any : LooseOp := fun _ _ _ _ _ ho hl hs => callsIn_wide.1 (loose_in 4 (Nat.le_refl _) ho hl hs rfl rfl)
/-- The program's Check. -/
theorem check_any {W : World} {parts : Int} {p : Option Addr} {cap : Nat} {os : List OV} (ho : GRow W p cap os) :
    Calls Tryz.prog 27 #[.agg #[.int .i64 parts, .slice p os.length cap]] W fun e w' => e = .returned (.tuple #[.int .i64 (checkC parts (os.map OV.o)).1, .int .i64 (checkC parts (os.map OV.o)).2]) ∧ Below W.heap.size W w' := check_from loose_any ho
end Go.Proofs.YtifldnpccgbnkaaGreat
