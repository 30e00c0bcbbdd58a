/-
  To: the first input that comes from a port; the program's and the reference's. No conditions.
-/
import Derived.Test.YtmoigniboiekfaaGfs
import Derived.OwnWalk
namespace Go.Proofs.Ytmoigniboiekfaa
open Go.RowKit

def idxE (es : List GE) (e : GE) : Option Nat := (List.range es.length).find? (fun i => decide (es[i]! = e))
theorem idxE_hit {es : List GE} {e : GE} {n : Nat} (hn : n < es.length) (h : ∀ j, j < n → es[j]! ≠ e) (h2 : es[n]! = e) : idxE es e = some n := by
  unfold idxE
  rw [List.find?_range_eq_some]
  exact ⟨by simpa using h2, by simpa using hn, fun j hj => by simpa using h j hj⟩
theorem idxE_none {es : List GE} {e : GE} (h : ∀ j, j < es.length → es[j]! ≠ e) : idxE es e = none := by
  unfold idxE
  rw [List.find?_range_eq_none]
  exact fun j hj => by simpa using h j hj
def fromF (e : GE) (o : GO) : Bool := (idxE o.ins e).isSome
def toC (os : List GO) (e : GE) : Int × Int × Bool :=
  match firstO (fromF e) os with
  | some n => ((n : Int), atN (idxE (os[n]!).ins e), true)
  | none => (0, 0, false)
theorem toC_hit {os : List GO} {e : GE} {n i : Nat} (h1 : firstO (fromF e) os = some n) (h2 : idxE (os[n]!).ins e = some i) : toC os e = ((n : Int), (i : Int), true) := by
  unfold toC
  rw [h1]
  simp only [h2]
  rfl
theorem toC_none {os : List GO} {e : GE} (h1 : firstO (fromF e) os = none) : toC os e = (0, 0, false) := by
  unfold toC
  rw [h1]

set_option maxRecDepth 100000 in
set_option maxHeartbeats 4000000 in
theorem idx_any {W : World} {ef ep : Int} {p : Option Addr} {cap : Nat} {es : List GE} (ho : ERow W p cap es) :
    Calls Try.prog 36 #[.slice p es.length cap, .agg #[.int .i64 ef, .int .i64 ep]] W fun e w' => e = .returned (.int .i64 (atI (idxE es ⟨ef, ep⟩))) ∧ Below W.heap.size W w' := by
  obtain ⟨rc, hrc⟩ : ∃ rc : Int, atI (idxE es ⟨ef, ep⟩) = rc := ⟨_, rfl⟩
  rw [hrc]
  have HRC := hide hrc
  have i3 := ho.le
  have i4 := ho.top
  have HVB := hide (alloc_below W (.cells #[.int .i64 ef, .int .i64 ep] 43 (0, 0)))
  have hv1 : (W.alloc (.cells #[.int .i64 ef, .int .i64 ep] 43 (0, 0))).heap[W.heap.size]? = some (.cells #[.int .i64 ef, .int .i64 ep] 43 (0, 0)) := heap_alloc_new W _
  have HO := hide (ho.below HVB.out)
  clear ho hrc
  obtain ⟨V, hV⟩ : ∃ V, V = W.alloc (.cells #[.int .i64 ef, .int .i64 ep] 43 (0, 0)) := ⟨_, rfl⟩
  rw [← hV] at HO HVB hv1
  go_enter Try.func36, Try.ntmps36
  go_wp2_with fail
  rw [← hV]
  obtain ⟨gB, hgB⟩ : ∃ gB, W.heap.size = gB := ⟨_, rfl⟩
  rw [hgB] at hv1 ⊢
  have z0 : V.cell? ⟨gB, 0, none⟩ = some (.int .i64 ef) := by simp [World.cell?, hv1]
  have z1 : V.cell? ⟨gB, 1, none⟩ = some (.int .i64 ep) := by simp [World.cell?, hv1]
  clear hV hv1 hgB
  go_loopw [8] (fun i wr => ∃ (k : Nat), k ≤ es.length ∧ i = .int .i64 (k : Int) ∧ Hid (Below V.heap.size V wr) ∧ Hid (∀ j, j < k → es[j]! ≠ ⟨ef, ep⟩)) (fun i _ => es.length - (intOf i).toNat)
  case atStart => exact ⟨0, Nat.zero_le _, rfl, hide (Below.refl _ _), hide (fun j hj => absurd hj (Nat.not_lt_zero j))⟩
  case round =>
    obtain ⟨k, hk, rfl, HB, HN⟩ := hrel
    have f0 := cell_later HB.out z0
    have f1 := cell_later HB.out z1
    by_cases hlt : k < es.length
    · obtain ⟨g, o, rfl, t0, t1⟩ := (HO.out.below HB.out).cell k hlt
      obtain ⟨y, hy⟩ : ∃ y, es[k]! = y := ⟨_, rfl⟩
      rw [hy] at t0 t1
      have HY := hide hy
      obtain ⟨yf, yp⟩ := y
      simp only at t0 t1
      have HBd : Hid (Below V.heap.size V wr.drew) := hide (HB.out.trans (Below.refl _ wr).drew)
      clear hy
      have hit : (⟨yf, yp⟩ : GE) = ⟨ef, ep⟩ → idxE es ⟨ef, ep⟩ = some k := fun hf => idxE_hit hlt HN.out (by rw [HY.out]; exact hf)
      have HIT := hide hit
      have next : (⟨yf, yp⟩ : GE) ≠ ⟨ef, ep⟩ → ∀ j, j < k + 1 → es[j]! ≠ ⟨ef, ep⟩ := by
        intro hf j hj
        by_cases e : j = k
        · subst e; rw [HY.out]; exact hf
        · exact HN.out j (by omega)
      have NEXT := hide next
      clear hit next
      by_cases c1 : yf = ef
      · subst c1
        by_cases c2 : yp = ep
        · subst c2
          have HQ := hide (HIT.out rfl)
          go_upto_region 4 with fail
          go_region
          go_wp2
          go_ret
          exact ⟨by rw [← HRC.out, HQ.out]; rfl, HVB.out.trans (HBd.out.mono HVB.out.size)⟩
        · have HN2 := hide (NEXT.out (by simpa using c2))
          go_upto_region 4 with fail
          go_region
          go_wp2
          exact ⟨⟨k + 1, by omega, by first | rfl | go_num, HBd, HN2⟩, by simp [intOf]; omega⟩
      · have HN2 := hide (NEXT.out (by simp [c1]))
        go_upto_region 4 with fail
        go_region
        go_wp2
        exact ⟨⟨k + 1, by omega, by first | rfl | go_num, HBd, HN2⟩, by simp [intOf]; omega⟩
    · obtain rfl : k = es.length := by omega
      have HQ := hide (idxE_none HN.out)
      go_wp2
      go_ret
      exact ⟨by rw [← HRC.out, HQ.out]; rfl, HVB.out.trans (HB.out.mono HVB.out.size)⟩

set_option maxRecDepth 100000 in
set_option maxHeartbeats 4000000 in
theorem to_any {W : World} {parts ef ep : Int} {p : Option Addr} {cap : Nat} {os : List OV} (ho : GRow W p cap os) :
    Calls Try.prog 13 #[.agg #[.int .i64 parts, .slice p os.length cap], .int .i64 ef, .int .i64 ep] W fun e w' => e = .returned (.tuple #[.int .i64 (toC (os.map OV.o) ⟨ef, ep⟩).1, .int .i64 (toC (os.map OV.o) ⟨ef, ep⟩).2.1, .bool (toC (os.map OV.o) ⟨ef, ep⟩).2.2]) ∧ Below W.heap.size W w' := by
  obtain ⟨rc, hrc⟩ : ∃ rc, toC (os.map OV.o) ⟨ef, ep⟩ = rc := ⟨_, rfl⟩
  rw [hrc]
  have HRC := hide hrc
  have i3 := ho.le
  have i4 := ho.top
  obtain ⟨V, hV⟩ : ∃ V, V = (W.alloc (.cells #[.int .i64 parts, .slice p os.length cap] 24 (0, 0))).alloc (.cells #[.int .i64 ef, .int .i64 ep] 43 (0, 0)) := ⟨_, rfl⟩
  have HVB : Hid (Below W.heap.size W V) := by
    rw [hV]
    exact hide ((alloc_below W _).trans ((alloc_below _ _).mono (by simp)))
  have HO := hide (ho.below HVB.out)
  clear ho hrc
  go_enter Try.func13, Try.ntmps13
  go_wp2_with fail
  rw [← hV]
  obtain ⟨gB, hgB⟩ : ∃ gB, W.heap.size = gB := ⟨_, rfl⟩
  have hv2 : V.heap[gB + 1]? = some (.cells #[.int .i64 ef, .int .i64 ep] 43 (0, 0)) := by
    have e : gB + 1 = (W.alloc (.cells #[.int .i64 parts, .slice p os.length cap] 24 (0, 0))).heap.size := by rw [← hgB]; simp
    rw [hV, e]
    exact heap_alloc_new _ _
  have z0 : V.cell? ⟨gB + 1, 0, none⟩ = some (.int .i64 ef) := by simp [World.cell?, hv2]
  have z1 : V.cell? ⟨gB + 1, 1, none⟩ = some (.int .i64 ep) := by simp [World.cell?, hv2]
  try rw [hgB]
  clear hV hv2 hgB
  go_loopw [19] (fun i wr => ∃ (k : Nat), k ≤ os.length ∧ i = .int .i64 (k : Int) ∧ Hid (Below V.heap.size V wr) ∧ Hid (∀ j, j < k → fromF ⟨ef, ep⟩ (os.map OV.o)[j]! = false)) (fun i _ => os.length - (intOf i).toNat)
  case atStart => exact ⟨0, Nat.zero_le _, rfl, hide (Below.refl _ _), hide (fun j hj => absurd hj (Nat.not_lt_zero j))⟩
  case round =>
    obtain ⟨k, hk, rfl, HB, HN⟩ := hrel
    have f0 := cell_later HB.out z0
    have f1 := cell_later HB.out z1
    by_cases hlt : k < os.length
    · obtain ⟨g, o, rfl, hc⟩ := (HO.out.below HB.out).cell k hlt
      have HMO := hide (getO os hlt)
      have HKL : Hid (k < (os.map OV.o).length) := hide (by simpa using hlt)
      obtain ⟨x, hx⟩ : ∃ x, os[k]! = x := ⟨_, rfl⟩
      have hxm : x ∈ os := by rw [← hx, getElem!_pos os k hlt]; exact List.getElem_mem _
      have HXO := hide (HO.out.ok x hxm)
      rw [hx] at hc HMO
      obtain ⟨⟨kd, pt, fn, ar, ins⟩, ip, ic⟩ := x
      have d0 : wr.cell? ⟨g, o + k * 5, none⟩ = some (.int .i64 kd) := hc 0 (by omega)
      have d1 : wr.cell? ⟨g, o + k * 5 + 1, none⟩ = some (.int .i64 pt) := hc 1 (by omega)
      have d2 : wr.cell? ⟨g, o + k * 5 + 2, none⟩ = some (.int .i64 fn) := hc 2 (by omega)
      have d3 : wr.cell? ⟨g, o + k * 5 + 3, none⟩ = some (.int .i64 ar) := hc 3 (by omega)
      have d4 : wr.cell? ⟨g, o + k * 5 + 4, none⟩ = some (.slice ip ins.length ic) := hc 4 (by omega)
      simp only at HMO
      have hic := HXO.out.le
      have hit := HXO.out.top
      simp only at hic hit
      have hab := alloc_below wr (.cells #[.int .i64 kd, .int .i64 pt, .int .i64 fn, .int .i64 ar, .slice ip ins.length ic] 31 (0, 0))
      have a0 := cell_later hab f0
      have a1 := cell_later hab f1
      have HAB : Hid (Below V.heap.size V _) := hide (HB.out.trans (hab.mono HB.out.size))
      clear hc hx hxm hab
      go_wp2_with fail
      refine (idx_any (ERow.below HXO.out HAB.out)).mono ?_
      rintro _ w1 ⟨rfl, b1⟩
      have HB1 : Hid (Below V.heap.size V w1) := hide (HAB.out.trans (b1.mono HAB.out.size))
      clear b1 d0 d1 d2 d3 d4 f0 f1 a0 a1
      simp only
      cases hf : idxE ins ⟨ef, ep⟩ with
      | some i =>
        have HQ : Hid (toC (os.map OV.o) ⟨ef, ep⟩ = ((k : Int), (i : Int), true)) := hide (toC_hit (firstO_hit HKL.out HN.out (by rw [HMO.out]; simp [fromF, hf])) (by rw [HMO.out]; exact hf))
        have e1 : atI (some i) = (i : Int) := rfl
        have l1 : decide ((i : Int) ≥ 0) = true := decide_eq_true (by omega)
        rw [e1]
        clear hf e1
        go_wp2
        go_ret3
        exact ⟨by rw [← HRC.out, HQ.out]; rfl, HVB.out.trans (HB1.out.mono HVB.out.size)⟩
      | none =>
        have HN2 : Hid (∀ j, j < k + 1 → fromF ⟨ef, ep⟩ (os.map OV.o)[j]! = false) := by
          refine hide (fun j hj => ?_)
          by_cases e : j = k
          · subst e; rw [HMO.out]; simp [fromF, hf]
          · exact HN.out j (by omega)
        have e1 : atI none = -1 := rfl
        rw [e1]
        clear hf e1
        go_wp2
        exact ⟨⟨k + 1, by omega, by first | rfl | go_num, HB1, HN2⟩, by simp [intOf]; omega⟩
    · obtain rfl : k = os.length := by omega
      have HQ := hide (toC_none (firstO_none (fun j hj => HN.out j (by simpa using hj))))
      go_wp2
      go_ret3
      exact ⟨by rw [← HRC.out, HQ.out]; rfl, HVB.out.trans (HB.out.mono HVB.out.size)⟩

set_option maxRecDepth 100000 in
set_option maxHeartbeats 4000000 in
theorem rto_any {W : World} {parts ef ep : Int} {p : Option Addr} {cap : Nat} {os : List OV} (ho : GRow W p cap os) :
    Calls Try.prog 14 #[.agg #[.int .i64 parts, .slice p os.length cap], .int .i64 ef, .int .i64 ep] W fun e w' => e = .returned (.tuple #[.int .i64 (toC (os.map OV.o) ⟨ef, ep⟩).1, .int .i64 (toC (os.map OV.o) ⟨ef, ep⟩).2.1, .bool (toC (os.map OV.o) ⟨ef, ep⟩).2.2]) ∧ Below W.heap.size W w' := by
  obtain ⟨rc, hrc⟩ : ∃ rc, toC (os.map OV.o) ⟨ef, ep⟩ = rc := ⟨_, rfl⟩
  rw [hrc]
  have HRC := hide hrc
  have i3 := ho.le
  have i4 := ho.top
  obtain ⟨V, hV⟩ : ∃ V, V = W.alloc (.cells #[.int .i64 parts, .slice p os.length cap] 24 (0, 0)) := ⟨_, rfl⟩
  have HVB : Hid (Below W.heap.size W V) := by
    rw [hV]
    exact hide (alloc_below W _)
  have hv1 : V.heap[W.heap.size]? = some (.cells #[.int .i64 parts, .slice p os.length cap] 24 (0, 0)) := by rw [hV]; exact heap_alloc_new W _
  have HO := hide (ho.below HVB.out)
  clear ho hrc
  go_enter Try.func14, Try.ntmps14
  go_wp2_with fail
  rw [← hV]
  obtain ⟨gB, hgB⟩ : ∃ gB, W.heap.size = gB := ⟨_, rfl⟩
  rw [hgB] at hv1 ⊢
  have z1 : V.cell? ⟨gB, 1, none⟩ = some (.slice p os.length cap) := by simp [World.cell?, hv1]
  clear hV hv1 hgB
  go_loopw [9] (fun i wr => ∃ (k : Nat), k ≤ os.length ∧ i = .int .i64 (k : Int) ∧ wr = V ∧ Hid (∀ j, j < k → fromF ⟨ef, ep⟩ (os.map OV.o)[j]! = false)) (fun i _ => os.length - (intOf i).toNat)
  case atStart => exact ⟨0, Nat.zero_le _, rfl, rfl, hide (fun j hj => absurd hj (Nat.not_lt_zero j))⟩
  case round =>
    obtain ⟨k, hk, rfl, rfl, HN⟩ := hrel
    rename World => V
    by_cases hlt : k < os.length
    · obtain ⟨g, o, rfl, hc⟩ := HO.out.cell k hlt
      have HMO := hide (getO os hlt)
      have HKL : Hid (k < (os.map OV.o).length) := hide (by simpa using hlt)
      obtain ⟨x, hx⟩ : ∃ x, os[k]! = x := ⟨_, rfl⟩
      have hxm : x ∈ os := by rw [← hx, getElem!_pos os k hlt]; exact List.getElem_mem _
      have HXO := hide (HO.out.ok x hxm)
      rw [hx] at hc HMO
      obtain ⟨⟨kd, pt, fn, ar, ins⟩, ip, ic⟩ := x
      have d4 : V.cell? ⟨g, o + k * 5 + 4, none⟩ = some (.slice ip ins.length ic) := hc 4 (by omega)
      simp only at HMO
      have hic := HXO.out.le
      have hit := HXO.out.top
      simp only at hic hit
      clear hc hx hxm
      go_wp2_with fail
      go_loopw [10] (fun i wq => ∃ (j : Nat), j ≤ ins.length ∧ i = .int .i64 (j : Int) ∧ wq = V ∧ Hid (∀ i, i < j → ins[i]! ≠ ⟨ef, ep⟩)) (fun i _ => ins.length - (intOf i).toNat)
      case atStart => exact ⟨0, Nat.zero_le _, rfl, rfl, hide (fun j hj => absurd hj (Nat.not_lt_zero j))⟩
      case round =>
        obtain ⟨j, hj, rfl, rfl, HM⟩ := hrel
        rename World => V
        by_cases hjl : j < ins.length
        · obtain ⟨g2, o2, he2, t0, t1⟩ := (show ERow _ _ _ _ from HXO.out).cell j hjl
          simp only at he2 t0 t1
          subst he2
          obtain ⟨y, hy⟩ : ∃ y, ins[j]! = y := ⟨_, rfl⟩
          rw [hy] at t0 t1
          have HY := hide hy
          obtain ⟨yf, yp⟩ := y
          simp only at t0 t1
          clear hy
          have next : (⟨yf, yp⟩ : GE) ≠ ⟨ef, ep⟩ → ∀ i, i < j + 1 → ins[i]! ≠ ⟨ef, ep⟩ := by
            intro hf i hi
            by_cases e : i = j
            · subst e; rw [HY.out]; exact hf
            · exact HM.out i (by omega)
          have NEXT := hide next
          clear next
          by_cases c1 : yf = ef
          · subst c1
            by_cases c2 : yp = ep
            · subst c2
              have HI := idxE_hit hjl HM.out HY.out
              have HQ : Hid (toC (os.map OV.o) ⟨yf, yp⟩ = ((k : Int), (j : Int), true)) := hide (toC_hit (firstO_hit HKL.out HN.out (by rw [HMO.out]; simp [fromF, HI])) (by rw [HMO.out]; exact HI))
              clear HI
              go_wp2
              go_ret3
              exact ⟨by rw [← HRC.out, HQ.out]; rfl, HVB.out⟩
            · have HN2 := hide (NEXT.out (by simpa using c2))
              have e1 := ne_eq c2
              clear c2
              go_wp2
              exact ⟨⟨j + 1, by omega, by first | rfl | go_num, trivial, HN2⟩, by simp [intOf]; omega⟩
          · have HN2 := hide (NEXT.out (by simp [c1]))
            have e1 := ne_eq c1
            clear c1
            go_wp2
            exact ⟨⟨j + 1, by omega, by first | rfl | go_num, trivial, HN2⟩, by simp [intOf]; omega⟩
        · obtain rfl : j = ins.length := by omega
          have HN2 : Hid (∀ j, j < k + 1 → fromF ⟨ef, ep⟩ (os.map OV.o)[j]! = false) := by
            have hf := idxE_none HM.out
            refine hide (fun j hj => ?_)
            by_cases e : j = k
            · subst e; rw [HMO.out]; simp [fromF, hf]
            · exact HN.out j (by omega)
          go_wp2
          exact ⟨⟨k + 1, by omega, by first | rfl | go_num, trivial, HN2⟩, by simp [intOf]; omega⟩
    · obtain rfl : k = os.length := by omega
      have HQ := hide (toC_none (firstO_none (fun j hj => HN.out j (by simpa using hj))))
      go_wp2
      go_ret3
      exact ⟨by rw [← HRC.out, HQ.out]; rfl, HVB.out⟩
end Go.Proofs.Ytmoigniboiekfaa
