/-
  The first operator that fits: the program's Sink and Source, and the reference's. No conditions.
-/
import Derived.Test.YtlfipmieaabagaaGreatGen
import Derived.Test.YtlfipmieaabagaaGreatGin
import Derived.BigQuiet
namespace Go.Proofs.YtlfipmieaabagaaGreat
open Go.RowKit

def firstO (f : GO → Bool) (os : List GO) : Option Nat := (List.range os.length).find? (fun n => f os[n]!)
theorem firstO_hit {f : GO → Bool} {os : List GO} {n : Nat} (hn : n < os.length) (h : ∀ j, j < n → f os[j]! = false) (h2 : f os[n]! = true) : firstO f os = some n := by
  unfold firstO
  rw [List.find?_range_eq_some]
  exact ⟨h2, by simpa using hn, fun j hj => by rw [h j hj]; rfl⟩
theorem firstO_none {f : GO → Bool} {os : List GO} (h : ∀ j, j < os.length → f os[j]! = false) : firstO f os = none := by
  unfold firstO
  rw [List.find?_range_eq_none]
  exact fun j hj => by rw [h j hj]; rfl
def atI (x : Option Nat) : Int := match x with | some n => (n : Int) | none => -1
def atN (x : Option Nat) : Int := match x with | some n => (n : Int) | none => 0
def sinkF (o : GO) : Bool := o.kind == 9
def sourceF (part : Int) (o : GO) : Bool := o.kind == 1 && o.part == part

theorem sinkF_any {W : World} {kd pt fn ar : Int} {ip : Option Addr} {n ic : Nat} {ins : List GE} : Calls Tryz.prog 79 #[.agg #[.int .i64 kd, .int .i64 pt, .int .i64 fn, .int .i64 ar, .slice ip n ic]] W fun e w' => e = .returned (.bool (sinkF ⟨kd, pt, fn, ar, ins⟩)) ∧ Below W.heap.size W w' := by
  go_enter Tryz.func79, Tryz.ntmps79
  go_wp2
  go_ret
  exact ⟨rfl, alloc_below _ _⟩
theorem sourceF_any {W : World} {kd pt fn ar part : Int} {pb : Nat} {ip : Option Addr} {n ic : Nat} {ins : List GE} (hp : W.cell? ⟨pb, 0, none⟩ = some (.int .i64 part)) : Calls Tryz.prog 78 #[.agg #[.int .i64 kd, .int .i64 pt, .int .i64 fn, .int .i64 ar, .slice ip n ic], .pointer (some ⟨pb, 0, none⟩)] W fun e w' => e = .returned (.bool (sourceF part ⟨kd, pt, fn, ar, ins⟩)) ∧ Below W.heap.size W w' := by
  have hp2 := cell_later (alloc_below W (.cells #[.int .i64 kd, .int .i64 pt, .int .i64 fn, .int .i64 ar, .slice ip n ic] 95 (0, 0))) hp
  by_cases h1 : kd = 1
  · subst h1
    go_enter Tryz.func78, Tryz.ntmps78
    go_wp2
    go_ret
    exact ⟨rfl, alloc_below _ _⟩
  · have e1 := ne_eq h1
    have HQ : Hid (sourceF part ⟨kd, pt, fn, ar, ins⟩ = false) := hide (by simp [sourceF, h1])
    clear h1
    go_enter Tryz.func78, Tryz.ntmps78
    go_wp2
    go_ret
    exact ⟨by rw [HQ.out]; rfl, alloc_below _ _⟩

set_option maxRecDepth 100000 in
set_option maxHeartbeats 4000000 in
theorem index_sink {W : World} {p : Option Addr} {cap : Nat} {os : List OV} (ho : GRow W p cap os) :
    Calls Tryz.prog 111 #[.slice p os.length cap, .func (.func 79) #[] #[]] W fun e w' => e = .returned (.int .i64 (atI (firstO (sinkF) (os.map OV.o)))) ∧ Below W.heap.size W w' := by
  obtain ⟨rc, hrc⟩ : ∃ rc : Int, atI (firstO (sinkF) (os.map OV.o)) = rc := ⟨_, rfl⟩
  rw [hrc]
  have HRC := hide hrc
  have i3 := ho.le
  have i4 := ho.top
  have HO := hide ho
  clear ho hrc
  go_enter Tryz.func111, Tryz.ntmps111
  go_wp2_with fail
  go_loopw [8] (fun i wr => ∃ (k : Nat), k ≤ os.length ∧ i = .int .i64 (k : Int) ∧ Hid (Below W.heap.size W wr) ∧ Hid (∀ j, j < k → (sinkF) (os.map OV.o)[j]! = false)) (fun i _ => os.length - (intOf i).toNat)
  case atStart => exact ⟨0, Nat.zero_le _, rfl, hide (Below.refl _ _), hide (fun j hj => absurd hj (Nat.not_lt_zero j))⟩
  case round =>
    obtain ⟨k, hk, rfl, HB, HN⟩ := hrel
    by_cases hlt : k < os.length
    · obtain ⟨g, o, rfl, hc⟩ := (HO.out.below HB.out).cell k hlt
      have HMO := hide (getO os hlt)
      have HKL : Hid (k < (os.map OV.o).length) := hide (by simpa using hlt)
      obtain ⟨x, hx⟩ : ∃ x, os[k]! = x := ⟨_, rfl⟩
      rw [hx] at hc HMO
      obtain ⟨⟨kd, pt, fn, ar, ins⟩, ip, ic⟩ := x
      have d0 : wr.cell? ⟨g, o + k * 5, none⟩ = some (.int .i64 kd) := hc 0 (by omega)
      have d1 : wr.cell? ⟨g, o + k * 5 + 1, none⟩ = some (.int .i64 pt) := hc 1 (by omega)
      have d2 : wr.cell? ⟨g, o + k * 5 + 2, none⟩ = some (.int .i64 fn) := hc 2 (by omega)
      have d3 : wr.cell? ⟨g, o + k * 5 + 3, none⟩ = some (.int .i64 ar) := hc 3 (by omega)
      have d4 : wr.cell? ⟨g, o + k * 5 + 4, none⟩ = some (.slice ip ins.length ic) := hc 4 (by omega)
      simp only at HMO
      clear hc hx
      go_wp2_with fail
      refine (sinkF_any (ins := ins)).mono ?_
      rintro _ w1 ⟨rfl, b1⟩
      have HB1 : Hid (Below W.heap.size W w1) := hide (HB.out.trans (b1.mono HB.out.size))
      clear b1 d0 d1 d2 d3 d4
      cases hf : (sinkF) ⟨kd, pt, fn, ar, ins⟩ with
      | true =>
        have HQ : Hid (firstO (sinkF) (os.map OV.o) = some k) := hide (firstO_hit HKL.out HN.out (by rw [HMO.out]; exact hf))
        clear hf
        go_wp2
        go_ret
        exact ⟨by rw [← HRC.out, HQ.out]; rfl, HB1.out⟩
      | false =>
        have HN2 : Hid (∀ j, j < k + 1 → (sinkF) (os.map OV.o)[j]! = false) := by
          refine hide (fun j hj => ?_)
          by_cases e : j = k
          · subst e; rw [HMO.out]; exact hf
          · exact HN.out j (by omega)
        clear hf
        go_wp2
        exact ⟨⟨k + 1, by omega, by first | rfl | go_num, HB1, HN2⟩, by simp [intOf]; omega⟩
    · obtain rfl : k = os.length := by omega
      have HQ : Hid (firstO (sinkF) (os.map OV.o) = none) := hide (firstO_none (fun j hj => HN.out j (by simpa using hj)))
      go_wp2
      go_ret
      exact ⟨by rw [← HRC.out, HQ.out]; rfl, HB.out⟩
set_option maxRecDepth 100000 in
theorem first_sink {W : World} {p : Option Addr} {cap : Nat} {os : List OV} (ho : GRow W p cap os) :
    Calls Tryz.prog 77 #[.slice p os.length cap, .func (.func 79) #[] #[]] W fun e w' => e = .returned (.tuple #[.int .i64 (atN (firstO (sinkF) (os.map OV.o))), .bool (firstO (sinkF) (os.map OV.o)).isSome]) ∧ Below W.heap.size W w' := by
  have HI := hide (index_sink ho)
  clear ho
  cases hq : firstO (sinkF) (os.map OV.o) with
  | none =>
    rw [hq] at HI
    have e1 : atI none = -1 := rfl
    have e2 : atN none = 0 := rfl
    rw [e1] at HI
    rw [e2]
    go_enter Tryz.func77, Tryz.ntmps77
    go_wp2_with fail
    refine HI.out.mono ?_
    rintro _ w1 ⟨rfl, b1⟩
    go_wp2
    go_ret2
    exact ⟨rfl, b1⟩
  | some k =>
    rw [hq] at HI
    have e1 : atI (some k) = (k : Int) := rfl
    have e2 : atN (some k) = (k : Int) := rfl
    rw [e1] at HI
    rw [e2]
    have l1 : decide ((k : Int) ≥ 0) = true := decide_eq_true (by omega)
    go_enter Tryz.func77, Tryz.ntmps77
    go_wp2_with fail
    refine HI.out.mono ?_
    rintro _ w1 ⟨rfl, b1⟩
    go_wp2
    go_ret2
    exact ⟨by first | rfl | (congr; omega) | simp, b1⟩

set_option maxRecDepth 100000 in
set_option maxHeartbeats 4000000 in
theorem index_source {W : World} {p : Option Addr} {cap : Nat} {os : List OV} {part : Int} {pb : Nat} (ho : GRow W p cap os) (hp : W.cell? ⟨pb, 0, none⟩ = some (.int .i64 part)) :
    Calls Tryz.prog 111 #[.slice p os.length cap, .func (.func 78) #[] #[.pointer (some ⟨pb, 0, none⟩)]] W fun e w' => e = .returned (.int .i64 (atI (firstO (sourceF part) (os.map OV.o)))) ∧ Below W.heap.size W w' := by
  obtain ⟨rc, hrc⟩ : ∃ rc : Int, atI (firstO (sourceF part) (os.map OV.o)) = rc := ⟨_, rfl⟩
  rw [hrc]
  have HRC := hide hrc
  have i3 := ho.le
  have i4 := ho.top
  have HO := hide ho
  have HP := hide hp
  clear hp
  clear ho hrc
  go_enter Tryz.func111, Tryz.ntmps111
  go_wp2_with fail
  go_loopw [8] (fun i wr => ∃ (k : Nat), k ≤ os.length ∧ i = .int .i64 (k : Int) ∧ Hid (Below W.heap.size W wr) ∧ Hid (∀ j, j < k → (sourceF part) (os.map OV.o)[j]! = false)) (fun i _ => os.length - (intOf i).toNat)
  case atStart => exact ⟨0, Nat.zero_le _, rfl, hide (Below.refl _ _), hide (fun j hj => absurd hj (Nat.not_lt_zero j))⟩
  case round =>
    obtain ⟨k, hk, rfl, HB, HN⟩ := hrel
    by_cases hlt : k < os.length
    · obtain ⟨g, o, rfl, hc⟩ := (HO.out.below HB.out).cell k hlt
      have HMO := hide (getO os hlt)
      have HKL : Hid (k < (os.map OV.o).length) := hide (by simpa using hlt)
      obtain ⟨x, hx⟩ : ∃ x, os[k]! = x := ⟨_, rfl⟩
      rw [hx] at hc HMO
      obtain ⟨⟨kd, pt, fn, ar, ins⟩, ip, ic⟩ := x
      have d0 : wr.cell? ⟨g, o + k * 5, none⟩ = some (.int .i64 kd) := hc 0 (by omega)
      have d1 : wr.cell? ⟨g, o + k * 5 + 1, none⟩ = some (.int .i64 pt) := hc 1 (by omega)
      have d2 : wr.cell? ⟨g, o + k * 5 + 2, none⟩ = some (.int .i64 fn) := hc 2 (by omega)
      have d3 : wr.cell? ⟨g, o + k * 5 + 3, none⟩ = some (.int .i64 ar) := hc 3 (by omega)
      have d4 : wr.cell? ⟨g, o + k * 5 + 4, none⟩ = some (.slice ip ins.length ic) := hc 4 (by omega)
      simp only at HMO
      clear hc hx
      go_wp2_with fail
      refine (sourceF_any (ins := ins) (cell_later HB.out HP.out)).mono ?_
      rintro _ w1 ⟨rfl, b1⟩
      have HB1 : Hid (Below W.heap.size W w1) := hide (HB.out.trans (b1.mono HB.out.size))
      clear b1 d0 d1 d2 d3 d4
      cases hf : (sourceF part) ⟨kd, pt, fn, ar, ins⟩ with
      | true =>
        have HQ : Hid (firstO (sourceF part) (os.map OV.o) = some k) := hide (firstO_hit HKL.out HN.out (by rw [HMO.out]; exact hf))
        clear hf
        go_wp2
        go_ret
        exact ⟨by rw [← HRC.out, HQ.out]; rfl, HB1.out⟩
      | false =>
        have HN2 : Hid (∀ j, j < k + 1 → (sourceF part) (os.map OV.o)[j]! = false) := by
          refine hide (fun j hj => ?_)
          by_cases e : j = k
          · subst e; rw [HMO.out]; exact hf
          · exact HN.out j (by omega)
        clear hf
        go_wp2
        exact ⟨⟨k + 1, by omega, by first | rfl | go_num, HB1, HN2⟩, by simp [intOf]; omega⟩
    · obtain rfl : k = os.length := by omega
      have HQ : Hid (firstO (sourceF part) (os.map OV.o) = none) := hide (firstO_none (fun j hj => HN.out j (by simpa using hj)))
      go_wp2
      go_ret
      exact ⟨by rw [← HRC.out, HQ.out]; rfl, HB.out⟩
set_option maxRecDepth 100000 in
theorem first_source {W : World} {p : Option Addr} {cap : Nat} {os : List OV} {part : Int} {pb : Nat} (ho : GRow W p cap os) (hp : W.cell? ⟨pb, 0, none⟩ = some (.int .i64 part)) :
    Calls Tryz.prog 77 #[.slice p os.length cap, .func (.func 78) #[] #[.pointer (some ⟨pb, 0, none⟩)]] W fun e w' => e = .returned (.tuple #[.int .i64 (atN (firstO (sourceF part) (os.map OV.o))), .bool (firstO (sourceF part) (os.map OV.o)).isSome]) ∧ Below W.heap.size W w' := by
  have HI := hide (index_source ho hp)
  clear ho
  cases hq : firstO (sourceF part) (os.map OV.o) with
  | none =>
    rw [hq] at HI
    have e1 : atI none = -1 := rfl
    have e2 : atN none = 0 := rfl
    rw [e1] at HI
    rw [e2]
    go_enter Tryz.func77, Tryz.ntmps77
    go_wp2_with fail
    refine HI.out.mono ?_
    rintro _ w1 ⟨rfl, b1⟩
    go_wp2
    go_ret2
    exact ⟨rfl, b1⟩
  | some k =>
    rw [hq] at HI
    have e1 : atI (some k) = (k : Int) := rfl
    have e2 : atN (some k) = (k : Int) := rfl
    rw [e1] at HI
    rw [e2]
    have l1 : decide ((k : Int) ≥ 0) = true := decide_eq_true (by omega)
    go_enter Tryz.func77, Tryz.ntmps77
    go_wp2_with fail
    refine HI.out.mono ?_
    rintro _ w1 ⟨rfl, b1⟩
    go_wp2
    go_ret2
    exact ⟨by first | rfl | (congr; omega) | simp, b1⟩

set_option maxRecDepth 100000 in
theorem sink_any {W : World} {parts : Int} {p : Option Addr} {cap : Nat} {os : List OV} (ho : GRow W p cap os) :
    Calls Tryz.prog 43 #[.agg #[.int .i64 parts, .slice p os.length cap]] W fun e w' => e = .returned (.tuple #[.int .i64 (atN (firstO sinkF (os.map OV.o))), .bool (firstO sinkF (os.map OV.o)).isSome]) ∧ Below W.heap.size W w' := by
  have i3 := ho.le
  have i4 := ho.top
  have hb := alloc_below W (.cells #[.int .i64 parts, .slice p os.length cap] 24 (0, 0))
  have HF := hide (first_sink (ho.below hb))
  obtain ⟨rn, hrn⟩ : ∃ rn, atN (firstO sinkF (os.map OV.o)) = rn := ⟨_, rfl⟩
  obtain ⟨rb, hrb⟩ : ∃ rb, (firstO sinkF (os.map OV.o)).isSome = rb := ⟨_, rfl⟩
  rw [hrn, hrb] at HF
  rw [hrn, hrb]
  have HB := hide hb
  clear ho hb hrn hrb
  go_enter Tryz.func43, Tryz.ntmps43
  go_wp2_with fail
  refine HF.out.mono ?_
  rintro _ w1 ⟨rfl, b1⟩
  have HB1 := hide (HB.out.trans (b1.mono HB.out.size))
  clear b1
  go_wp2
  go_ret2
  exact ⟨rfl, HB1.out⟩
set_option maxRecDepth 100000 in
theorem source_any {W : World} {parts part : Int} {p : Option Addr} {cap : Nat} {os : List OV} (ho : GRow W p cap os) :
    Calls Tryz.prog 42 #[.agg #[.int .i64 parts, .slice p os.length cap], .int .i64 part] W fun e w' => e = .returned (.tuple #[.int .i64 (atN (firstO (sourceF part) (os.map OV.o))), .bool (firstO (sourceF part) (os.map OV.o)).isSome]) ∧ Below W.heap.size W w' := by
  have i3 := ho.le
  have i4 := ho.top
  have hb := (alloc_below W (.cells #[.int .i64 parts, .slice p os.length cap] 24 (0, 0))).trans ((alloc_below (W.alloc (.cells #[.int .i64 parts, .slice p os.length cap] 24 (0, 0))) (.cells #[.int .i64 part] 3 (0, 0))).mono (by simp))
  have hc : ((W.alloc (.cells #[.int .i64 parts, .slice p os.length cap] 24 (0, 0))).alloc (.cells #[.int .i64 part] 3 (0, 0))).cell? ⟨W.heap.size + 1, 0, none⟩ = some (.int .i64 part) := by
    have := heap_alloc_new (W.alloc (.cells #[.int .i64 parts, .slice p os.length cap] 24 (0, 0))) (.cells #[.int .i64 part] 3 (0, 0))
    rw [World.size_alloc] at this
    simp only [World.cell?]
    rw [this]
    rfl
  have HF := hide (first_source (ho.below hb) hc)
  obtain ⟨rn, hrn⟩ : ∃ rn, atN (firstO (sourceF part) (os.map OV.o)) = rn := ⟨_, rfl⟩
  obtain ⟨rb, hrb⟩ : ∃ rb, (firstO (sourceF part) (os.map OV.o)).isSome = rb := ⟨_, rfl⟩
  rw [hrn, hrb] at HF
  rw [hrn, hrb]
  have HB := hide hb
  clear ho hb hrn hrb hc
  go_enter Tryz.func42, Tryz.ntmps42
  go_wp2_with fail
  refine HF.out.mono ?_
  rintro _ w1 ⟨rfl, b1⟩
  have HB1 := hide (HB.out.trans (b1.mono HB.out.size))
  clear b1
  go_wp2
  go_ret2
  exact ⟨rfl, HB1.out⟩

end Go.Proofs.YtlfipmieaabagaaGreat
