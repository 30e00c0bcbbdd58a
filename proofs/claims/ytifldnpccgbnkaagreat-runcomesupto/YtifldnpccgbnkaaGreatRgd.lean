/-
  The first operator that fits: the program's Sink and Source, and the reference's. No conditions.
-/
import Derived.Test.YtifldnpccgbnkaaGreatGmy
import Derived.Test.YtifldnpccgbnkaaGreatGin
import Derived.BigQuiet
import Derived.Test.YtifldnpccgbnkaaGreatGck
namespace Go.Proofs.YtifldnpccgbnkaaGreat
open Go.RowKit

def firstO (f : GO → Bool) (os : List GO) : Option Nat := (List.range os.length).find? (fun n => f os[n]!)
theorem firstO_hit {f : GO → Bool} {os : List GO} {n : Nat} (hn : n < os.length) (h : ∀ j, j < n → f os[j]! = false) (h2 : f os[n]! = true) : firstO f os = some n := by
  unfold firstO
  rw [List.find?_range_eq_some]
  exact ⟨h2, by simpa using hn, fun j hj => by rw [h j hj]; rfl⟩
theorem firstO_none {f : GO → Bool} {os : List GO} (h : ∀ j, j < os.length → f os[j]! = false) : firstO f os = none := by
  unfold firstO
  rw [List.find?_range_eq_none]
  exact fun j hj => by rw [h j hj]; rfl
def atI (x : Option Nat) : Int := match x with | some n => (n : Int) | none => -1
def atN (x : Option Nat) : Int := match x with | some n => (n : Int) | none => 0
def sinkF (o : GO) : Bool := o.kind == 9
def sourceF (part : Int) (o : GO) : Bool := o.kind == 1 && o.part == part

theorem sinkF_any {W : World} {kd pt fn ar : Int} {ip : Option Addr} {n ic : Nat} {ins : List GE} : Calls Tryz.prog 29 #[.agg #[.int .i64 kd, .int .i64 pt, .int .i64 fn, .int .i64 ar, .slice ip n ic]] W fun e w' => e = .returned (.bool (sinkF ⟨kd, pt, fn, ar, ins⟩)) ∧ Below W.heap.size W w' := by
  go_enter Tryz.func29, Tryz.ntmps29
  go_wp2
  go_ret
  exact ⟨rfl, alloc_below _ _⟩
set_option maxRecDepth 100000 in
set_option maxHeartbeats 4000000 in
theorem index_sink {W : World} {p : Option Addr} {cap : Nat} {os : List OV} (ho : GRow W p cap os) :
    Calls Tryz.prog 39 #[.slice p os.length cap, .func (.func 29) #[] #[]] W fun e w' => e = .returned (.int .i64 (atI (firstO (sinkF) (os.map OV.o)))) ∧ Below W.heap.size W w' := by
  obtain ⟨rc, hrc⟩ : ∃ rc : Int, atI (firstO (sinkF) (os.map OV.o)) = rc := ⟨_, rfl⟩
  rw [hrc]
  have HRC := hide hrc
  have i3 := ho.le
  have i4 := ho.top
  have HO := hide ho
  clear ho hrc
  go_enter Tryz.func39, Tryz.ntmps39
  go_wp2_with fail
  go_loopw [8] (fun i wr => ∃ (k : Nat), k ≤ os.length ∧ i = .int .i64 (k : Int) ∧ Hid (Below W.heap.size W wr) ∧ Hid (∀ j, j < k → (sinkF) (os.map OV.o)[j]! = false)) (fun i _ => os.length - (intOf i).toNat)
  case atStart => exact ⟨0, Nat.zero_le _, rfl, hide (Below.refl _ _), hide (fun j hj => absurd hj (Nat.not_lt_zero j))⟩
  case round =>
    obtain ⟨k, hk, rfl, HB, HN⟩ := hrel
    by_cases hlt : k < os.length
    · obtain ⟨g, o, rfl, hc⟩ := (HO.out.below HB.out).cell k hlt
      have HMO := hide (getO os hlt)
      have HKL : Hid (k < (os.map OV.o).length) := hide (by simpa using hlt)
      obtain ⟨x, hx⟩ : ∃ x, os[k]! = x := ⟨_, rfl⟩
      rw [hx] at hc HMO
      obtain ⟨⟨kd, pt, fn, ar, ins⟩, ip, ic⟩ := x
      have d0 : wr.cell? ⟨g, o + k * 5, none⟩ = some (.int .i64 kd) := hc 0 (by omega)
      have d1 : wr.cell? ⟨g, o + k * 5 + 1, none⟩ = some (.int .i64 pt) := hc 1 (by omega)
      have d2 : wr.cell? ⟨g, o + k * 5 + 2, none⟩ = some (.int .i64 fn) := hc 2 (by omega)
      have d3 : wr.cell? ⟨g, o + k * 5 + 3, none⟩ = some (.int .i64 ar) := hc 3 (by omega)
      have d4 : wr.cell? ⟨g, o + k * 5 + 4, none⟩ = some (.slice ip ins.length ic) := hc 4 (by omega)
      simp only at HMO
      clear hc hx
      go_wp2_with fail
      refine (sinkF_any (ins := ins)).mono ?_
      rintro _ w1 ⟨rfl, b1⟩
      have HB1 : Hid (Below W.heap.size W w1) := hide (HB.out.trans (b1.mono HB.out.size))
      clear b1 d0 d1 d2 d3 d4
      cases hf : (sinkF) ⟨kd, pt, fn, ar, ins⟩ with
      | true =>
        have HQ : Hid (firstO (sinkF) (os.map OV.o) = some k) := hide (firstO_hit HKL.out HN.out (by rw [HMO.out]; exact hf))
        clear hf
        go_wp2
        go_ret
        exact ⟨by rw [← HRC.out, HQ.out]; rfl, HB1.out⟩
      | false =>
        have HN2 : Hid (∀ j, j < k + 1 → (sinkF) (os.map OV.o)[j]! = false) := by
          refine hide (fun j hj => ?_)
          by_cases e : j = k
          · subst e; rw [HMO.out]; exact hf
          · exact HN.out j (by omega)
        clear hf
        go_wp2
        exact ⟨⟨k + 1, by omega, by first | rfl | go_num, HB1, HN2⟩, by simp [intOf]; omega⟩
    · obtain rfl : k = os.length := by omega
      have HQ : Hid (firstO (sinkF) (os.map OV.o) = none) := hide (firstO_none (fun j hj => HN.out j (by simpa using hj)))
      go_wp2
      go_ret
      exact ⟨by rw [← HRC.out, HQ.out]; rfl, HB.out⟩
set_option maxRecDepth 100000 in
theorem first_sink {W : World} {p : Option Addr} {cap : Nat} {os : List OV} (ho : GRow W p cap os) :
    Calls Tryz.prog 28 #[.slice p os.length cap, .func (.func 29) #[] #[]] W fun e w' => e = .returned (.tuple #[.int .i64 (atN (firstO (sinkF) (os.map OV.o))), .bool (firstO (sinkF) (os.map OV.o)).isSome]) ∧ Below W.heap.size W w' := by
  have HI := hide (index_sink ho)
  clear ho
  cases hq : firstO (sinkF) (os.map OV.o) with
  | none =>
    rw [hq] at HI
    have e1 : atI none = -1 := rfl
    have e2 : atN none = 0 := rfl
    rw [e1] at HI
    rw [e2]
    go_enter Tryz.func28, Tryz.ntmps28
    go_wp2_with fail
    refine HI.out.mono ?_
    rintro _ w1 ⟨rfl, b1⟩
    go_wp2
    go_ret2
    exact ⟨rfl, b1⟩
  | some k =>
    rw [hq] at HI
    have e1 : atI (some k) = (k : Int) := rfl
    have e2 : atN (some k) = (k : Int) := rfl
    rw [e1] at HI
    rw [e2]
    have l1 : decide ((k : Int) ≥ 0) = true := decide_eq_true (by omega)
    go_enter Tryz.func28, Tryz.ntmps28
    go_wp2_with fail
    refine HI.out.mono ?_
    rintro _ w1 ⟨rfl, b1⟩
    go_wp2
    go_ret2
    exact ⟨by first | rfl | (congr; omega) | simp, b1⟩

set_option maxRecDepth 100000 in
theorem sink_any {W : World} {parts : Int} {p : Option Addr} {cap : Nat} {os : List OV} (ho : GRow W p cap os) :
    Calls Tryz.prog 17 #[.agg #[.int .i64 parts, .slice p os.length cap]] W fun e w' => e = .returned (.tuple #[.int .i64 (atN (firstO sinkF (os.map OV.o))), .bool (firstO sinkF (os.map OV.o)).isSome]) ∧ Below W.heap.size W w' := by
  have i3 := ho.le
  have i4 := ho.top
  have hb := alloc_below W (.cells #[.int .i64 parts, .slice p os.length cap] 24 (0, 0))
  have HF := hide (first_sink (ho.below hb))
  obtain ⟨rn, hrn⟩ : ∃ rn, atN (firstO sinkF (os.map OV.o)) = rn := ⟨_, rfl⟩
  obtain ⟨rb, hrb⟩ : ∃ rb, (firstO sinkF (os.map OV.o)).isSome = rb := ⟨_, rfl⟩
  rw [hrn, hrb] at HF
  rw [hrn, hrb]
  have HB := hide hb
  clear ho hb hrn hrb
  go_enter Tryz.func17, Tryz.ntmps17
  go_wp2_with fail
  refine HF.out.mono ?_
  rintro _ w1 ⟨rfl, b1⟩
  have HB1 := hide (HB.out.trans (b1.mono HB.out.size))
  clear b1
  go_wp2
  go_ret2
  exact ⟨rfl, HB1.out⟩
set_option maxRecDepth 100000 in
set_option maxHeartbeats 4000000 in
theorem rsink_any {W : World} {parts : Int} {p : Option Addr} {cap : Nat} {os : List OV} (ho : GRow W p cap os) :
    Calls Tryz.prog 21 #[.agg #[.int .i64 parts, .slice p os.length cap]] W fun e w' => e = .returned (.tuple #[.int .i64 (atN (firstO (sinkF) (os.map OV.o))), .bool (firstO (sinkF) (os.map OV.o)).isSome]) ∧ Below W.heap.size W w' := by
  obtain ⟨rc, hrc⟩ : ∃ rc, firstO (sinkF) (os.map OV.o) = rc := ⟨_, rfl⟩
  rw [hrc]
  have HRC := hide hrc
  have i3 := ho.le
  have i4 := ho.top
  have HO := hide (ho.below (alloc_below W (.cells #[.int .i64 parts, .slice p os.length cap] 24 (0, 0))))
  have HVB := hide (alloc_below W (.cells #[.int .i64 parts, .slice p os.length cap] 24 (0, 0)))
  have hv1 : (W.alloc (.cells #[.int .i64 parts, .slice p os.length cap] 24 (0, 0))).heap[W.heap.size]? = some (.cells #[.int .i64 parts, .slice p os.length cap] 24 (0, 0)) := heap_alloc_new W _
  clear ho hrc
  obtain ⟨V, hV⟩ : ∃ V, V = W.alloc (.cells #[.int .i64 parts, .slice p os.length cap] 24 (0, 0)) := ⟨_, rfl⟩
  rw [← hV] at HO HVB hv1
  go_enter Tryz.func21, Tryz.ntmps21
  go_wp2_with fail
  rw [← hV]
  obtain ⟨gB, hgB⟩ : ∃ gB, W.heap.size = gB := ⟨_, rfl⟩
  rw [hgB] at hv1 ⊢
  have z1 : V.cell? ⟨gB, 1, none⟩ = some (.slice p os.length cap) := by simp [World.cell?, hv1]
  clear hV hv1 hgB
  go_loopw [4] (fun i wr => ∃ (k : Nat), k ≤ os.length ∧ i = .int .i64 (k : Int) ∧ wr = V ∧ Hid (∀ j, j < k → (sinkF) (os.map OV.o)[j]! = false)) (fun i _ => os.length - (intOf i).toNat)
  case atStart => exact ⟨0, Nat.zero_le _, rfl, rfl, hide (fun j hj => absurd hj (Nat.not_lt_zero j))⟩
  case round =>
    obtain ⟨k, hk, rfl, rfl, HN⟩ := hrel
    rename World => V
    by_cases hlt : k < os.length
    · obtain ⟨g, o, rfl, hc⟩ := HO.out.cell k hlt
      have HMO := hide (getO os hlt)
      have HKL : Hid (k < (os.map OV.o).length) := hide (by simpa using hlt)
      obtain ⟨x, hx⟩ : ∃ x, os[k]! = x := ⟨_, rfl⟩
      rw [hx] at hc HMO
      obtain ⟨⟨kd, pt, fn, ar, ins⟩, ip, ic⟩ := x
      have d0 : V.cell? ⟨g, o + k * 5, none⟩ = some (.int .i64 kd) := hc 0 (by omega)
      have d1 : V.cell? ⟨g, o + k * 5 + 1, none⟩ = some (.int .i64 pt) := hc 1 (by omega)
      simp only at HMO
      clear hc hx
      have hit : (sinkF) ⟨kd, pt, fn, ar, ins⟩ = true → firstO (sinkF) (os.map OV.o) = some k := fun hf => firstO_hit HKL.out HN.out (by rw [HMO.out]; exact hf)
      have HIT := hide hit
      have next : (sinkF) ⟨kd, pt, fn, ar, ins⟩ = false → ∀ j, j < k + 1 → (sinkF) (os.map OV.o)[j]! = false := by
        intro hf j hj
        by_cases e : j = k
        · subst e; rw [HMO.out]; exact hf
        · exact HN.out j (by omega)
      have NEXT := hide next
      clear hit next
      by_cases c : kd = 9
      · have HQ := hide (HIT.out (by simp [sinkF, c]))
        subst c
        go_wp2
        go_ret2
        exact ⟨by rw [← HRC.out, HQ.out]; rfl, HVB.out⟩
      · have HN2 := hide (NEXT.out (by simp [sinkF, c]))
        have e1 := ne_eq c
        clear c
        go_wp2
        exact ⟨⟨k + 1, by omega, by first | rfl | go_num, trivial, HN2⟩, by simp [intOf]; omega⟩
    · obtain rfl : k = os.length := by omega
      have HQ : Hid (firstO (sinkF) (os.map OV.o) = none) := hide (firstO_none (fun j hj => HN.out j (by simpa using hj)))
      go_wp2
      go_ret2
      exact ⟨by rw [← HRC.out, HQ.out]; rfl, HVB.out⟩

end Go.Proofs.YtifldnpccgbnkaaGreat

/-
  Plainly: graphs without a fault: their edges, their sink, their sources. No walk.
-/
namespace Go.Proofs.YtifldnpccgbnkaaGreat
open Go.RowKit

theorem scan_nz (parts : Int) : ∀ (os : List GO) (s : SS) (x : Nat × Int), (os.foldl (stepS parts) s).bad = some x → s.bad = some x ∨ x.2 ≠ 0
  | [], s, x, h => .inl h
  | o :: os, s, x, h => by
    rw [List.foldl_cons] at h
    rcases scan_nz parts os _ x h with h1 | h1
    · unfold stepS at h1
      cases hs : s.bad with
      | some y => rw [hs] at h1; simp only at h1; rw [hs] at h1; exact .inl h1
      | none =>
        rw [hs] at h1
        simp only at h1
        by_cases h0 : (oneC parts o s.a s.T).1 = 0
        · rw [if_pos h0] at h1; cases h1
        · rw [if_neg h0] at h1
          simp only [Option.some.injEq] at h1
          rw [← h1]
          exact .inr h0
    · exact .inr h1
structure Good (parts : Int) (os : List GO) : Prop where
  p1 : 1 ≤ parts
  p4 : parts ≤ 4
  len : os.length ≤ 24
  scan : (scanS parts os).bad = none
  srcs : ∀ p, p < parts.toNat → srcN os p = 1
  sinks : sinkN os = 1
theorem good_of {parts : Int} {os : List GO} (h : (checkC parts os).2 = 0) : Good parts os := by
  unfold checkC at h
  by_cases h1 : 1 ≤ parts ∧ parts ≤ 4
  · rw [if_pos h1] at h
    by_cases h2 : os.length ≤ 24
    · rw [if_pos h2] at h
      cases hs : (scanS parts os).bad with
      | some x =>
        rw [hs] at h
        simp only at h
        rcases scan_nz parts os ⟨none, [], []⟩ x hs with h3 | h3
        · cases h3
        · exact absurd h h3
      | none =>
        rw [hs] at h
        simp only at h
        cases hl : looseAt os with
        | some n => rw [hl] at h; simp at h
        | none =>
          rw [hl] at h
          simp only at h
          unfold endsC at h
          split at h
          · rename_i h4
            rw [List.all_eq_true] at h4
            split at h
            · rename_i h5
              exact ⟨h1.1, h1.2, h2, hs, fun p hp => by have := h4 p (by simpa using hp); simpa using this, h5⟩
            · cases h
          · cases h
    · rw [if_neg h2] at h; simp at h
  · rw [if_neg h1] at h; simp at h
theorem Good.edge {parts : Int} {os : List GO} (g : Good parts os) {k : Nat} (hk : k < os.length) {e : GE} (he : e ∈ (os[k]!).ins) : 0 ≤ e.f ∧ e.f < (k : Int) ∧ 0 ≤ e.p ∧ e.p < portsO os e.f.toNat := by
  have hi := (one_zero (scan_good g.scan hk).2).2.2.1
  unfold insC at hi
  rw [Bool.and_eq_true, List.all_eq_true] at hi
  have := hi.2 e he
  unfold edgeC at this
  simp only [Bool.and_eq_true, decide_eq_true_eq] at this
  have hl : (os.take k).length = k := by simp; omega
  have h9 := edge_good g.scan (mem_flat.2 ⟨k, hk, he⟩)
  exact ⟨by omega, by omega, h9.2.2.1, h9.2.2.2⟩
theorem Good.kind {parts : Int} {os : List GO} (g : Good parts os) {k : Nat} (hk : k < os.length) : 1 ≤ (os[k]!).kind ∧ (os[k]!).kind ≤ 9 := (one_zero (scan_good g.scan hk).2).2.2.2.2
theorem Good.few {parts : Int} {os : List GO} (g : Good parts os) {k : Nat} (hk : k < os.length) : leastC (os[k]!).kind ≤ ((os[k]!).ins.length : Int) ∧ ((os[k]!).ins.length : Int) ≤ mostC (os[k]!).kind := by
  have hi := (one_zero (scan_good g.scan hk).2).2.2.1
  unfold insC at hi
  rw [Bool.and_eq_true, decide_eq_true_eq] at hi
  exact hi.1
theorem Good.part {parts : Int} {os : List GO} (g : Good parts os) {k : Nat} (hk : k < os.length) (h1 : (os[k]!).kind = 1) : 0 ≤ (os[k]!).part ∧ (os[k]!).part < parts ∧ (os[k]!).ins = [] := by
  have hf := (one_zero (scan_good g.scan hk).2).2.2.2.1
  unfold fieldsC at hf
  rw [if_pos h1] at hf
  have hi := (g.few hk).2
  unfold mostC at hi
  rw [if_pos h1] at hi
  simp only [decide_eq_true_eq] at hf
  refine ⟨by omega, by omega, ?_⟩
  cases h : (os[k]!).ins with
  | nil => rfl
  | cons x xs => rw [h] at hi; simp at hi; omega
theorem firstO_some {f : GO → Bool} {os : List GO} {n : Nat} (h : firstO f os = some n) : n < os.length ∧ f os[n]! = true ∧ ∀ j, j < n → f os[j]! = false := by
  unfold firstO at h
  rw [List.find?_range_eq_some] at h
  exact ⟨by simpa using h.2.1, h.1, fun j hj => by have := h.2.2 j hj; simpa using this⟩
theorem firstO_ex {f : GO → Bool} {os : List GO} {n : Nat} (hn : n < os.length) (h : f os[n]! = true) : ∃ k, firstO f os = some k := by
  cases hq : firstO f os with
  | some k => exact ⟨k, rfl⟩
  | none =>
    unfold firstO at hq
    rw [List.find?_range_eq_none] at hq
    have := hq n hn
    rw [h] at this
    cases this
theorem filter_two {α : Type} {q : α → Bool} : ∀ {l : List α} {i j : Nat} (hi : i < l.length) (hj : j < l.length), i < j → q l[i] = true → q l[j] = true → 2 ≤ (l.filter q).length
  | [], i, _, hi, _, _, _, _ => by simp at hi
  | x :: l, 0, j + 1, _, hj, _, h1, h2 => by
    have hx : q x = true := h1
    have hj' : j < l.length := by simpa using hj
    have h2' : q l[j] = true := h2
    rw [List.filter_cons_of_pos hx, List.length_cons]
    have : 0 < (l.filter q).length := List.length_pos_of_mem (List.mem_filter.2 ⟨List.getElem_mem hj', h2'⟩)
    omega
  | x :: l, i + 1, j + 1, hi, hj, hij, h1, h2 => by
    have := filter_two (q := q) (l := l) (i := i) (j := j) (by simpa using hi) (by simpa using hj) (by omega) h1 h2
    have h3 : (l.filter q).length ≤ ((x :: l).filter q).length := by
      by_cases hx : q x = true
      · rw [List.filter_cons_of_pos hx, List.length_cons]; omega
      · rw [List.filter_cons_of_neg hx]; omega
    omega
/-- The sink is one, and has an input. -/
theorem Good.sink {parts : Int} {os : List GO} (g : Good parts os) : ∃ (s f j : Nat), firstO sinkF os = some s ∧ s < os.length ∧ (os[s]!).ins = [⟨(f : Int), (j : Int)⟩] ∧ f < s ∧ (j : Int) < portsO os f := by
  have hs := g.sinks
  unfold sinkN at hs
  have : 0 < (os.filter (fun o => o.kind == 9)).length := by omega
  obtain ⟨o, ho⟩ := List.exists_mem_of_length_pos this
  rw [List.mem_filter] at ho
  obtain ⟨j, hj, rfl⟩ := List.getElem_of_mem ho.1
  obtain ⟨s, hs2⟩ := firstO_ex (f := sinkF) hj (by rw [getElem!_pos os j hj]; exact ho.2)
  obtain ⟨s1, s2, s3⟩ := firstO_some hs2
  have hk9 : (os[s]!).kind = 9 := by unfold sinkF at s2; simpa using s2
  have hf := g.few s1
  rw [hk9] at hf
  have hl1 : (os[s]!).ins.length = 1 := by
    have h1 : (1 : Int) ≤ ((os[s]!).ins.length : Int) := hf.1
    have h2 : ((os[s]!).ins.length : Int) ≤ 1 := hf.2
    omega
  cases hi : (os[s]!).ins with
  | nil => rw [hi] at hl1; simp at hl1
  | cons e es =>
    rw [hi] at hl1
    have : es = [] := by simpa using hl1
    subst this
    obtain ⟨e1, e2, e3, e4⟩ := g.edge s1 (e := e) (by rw [hi]; simp)
    obtain ⟨f, p⟩ := e
    simp only at e1 e2 e3 e4
    refine ⟨s, f.toNat, p.toNat, hs2, s1, ?_, by omega, ?_⟩
    · rw [hi, Int.toNat_of_nonneg e1, Int.toNat_of_nonneg e3]
    · rw [Int.toNat_of_nonneg e3]; exact e4
/-- Each partition has one source. -/
theorem Good.once {parts : Int} {os : List GO} (g : Good parts os) : ((os.filter (fun o => o.kind == 1)).map (fun o => o.part.toNat)).Nodup := by
  unfold List.Nodup
  rw [List.pairwise_map, List.pairwise_iff_getElem]
  intro i j hi hj hij e
  obtain ⟨p, hp⟩ : ∃ p, (os.filter (fun o => o.kind == 1))[i].part.toNat = p := ⟨_, rfl⟩
  have good : ∀ o ∈ os.filter (fun o => o.kind == 1), 0 ≤ o.part ∧ o.part < parts := fun o ho => by
    rw [List.mem_filter] at ho
    obtain ⟨k, hk, rfl⟩ := List.getElem_of_mem ho.1
    have := g.part hk (by rw [getElem!_pos os k hk]; simpa using ho.2)
    rw [getElem!_pos os k hk] at this
    exact ⟨this.1, this.2.1⟩
  have gi := good _ (List.getElem_mem hi)
  have gj := good _ (List.getElem_mem hj)
  have h2 := filter_two (q := fun o : GO => o.part == (p : Int)) hi hj hij (by simp; omega) (by simp; omega)
  rw [List.filter_filter] at h2
  have h3 := g.srcs p (by omega)
  unfold srcN at h3
  have h4 : (os.filter fun a => a.part == (p : Int) && a.kind == 1) = os.filter (fun o => o.kind == 1 && o.part == (p : Int)) := List.filter_congr (fun x _ => Bool.and_comm _ _)
  rw [h4] at h2
  omega
end Go.Proofs.YtifldnpccgbnkaaGreat
