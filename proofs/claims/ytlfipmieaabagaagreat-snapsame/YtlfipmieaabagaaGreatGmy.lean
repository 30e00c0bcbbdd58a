/-
  The reference's many: how many inputs of the first operators come from a port. The conditions: lengths.
-/
import Derived.Test.YtlfipmieaabagaaGreatGen
namespace Go.Proofs.YtlfipmieaabagaaGreat
open Go.RowKit

def cntE (es : List GE) (e : GE) : Nat := (es.filter (fun x => decide (x = e))).length
def manyC (os : List GO) (e : GE) : Nat := cntE (os.flatMap GO.ins) e
theorem cntE_snoc (es : List GE) (x e : GE) : cntE (es ++ [x]) e = cntE es e + (if x = e then 1 else 0) := by
  unfold cntE
  rw [List.filter_append, List.length_append]
  congr 1
  by_cases h : x = e
  · rw [if_pos h, List.filter_cons_of_pos (by simpa using h)]; rfl
  · rw [if_neg h, List.filter_cons_of_neg (by simpa using h)]; rfl
theorem cntE_append (es fs : List GE) (e : GE) : cntE (es ++ fs) e = cntE es e + cntE fs e := by simp [cntE]
theorem cntE_le (es : List GE) (e : GE) : cntE es e ≤ es.length := List.length_filter_le _ _
theorem many_snoc (os : List GO) (o : GO) (e : GE) : manyC (os ++ [o]) e = manyC os e + cntE o.ins e := by
  unfold manyC
  rw [List.flatMap_append, cntE_append]
  simp

set_option maxRecDepth 100000 in
set_option maxHeartbeats 8000000 in
theorem many_any {W : World} {parts ef ep : Int} {p : Option Addr} {cap : Nat} {os : List OV} (ho : GRow W p cap os) {n : Nat} (hn : n ≤ os.length) (hl : os.length ≤ 24) (hin : ∀ i, i < n → (os[i]!).o.ins.length ≤ 4) :
    Calls Tryz.prog 84 #[.agg #[.int .i64 parts, .slice p os.length cap], .int .i64 (n : Int), .agg #[.int .i64 ef, .int .i64 ep]] W fun e w' => e = .returned (.int .i64 (manyC ((os.map OV.o).take n) ⟨ef, ep⟩ : Nat)) ∧ Below W.heap.size W w' := by
  have i3 := ho.le
  have i4 := ho.top
  have HO := hide ho
  have HI := hide hin
  clear ho hin
  go_enter Tryz.func84, Tryz.ntmps84
  go_wp2_with fail
  obtain ⟨gB, hgB⟩ : ∃ gB, W.heap.size = gB := ⟨_, rfl⟩
  obtain ⟨V, hV⟩ : ∃ V, V = (W.alloc (.cells #[.int .i64 parts, .slice p os.length cap] 24 (0, 0))).alloc (.cells #[.int .i64 ef, .int .i64 ep] 119 (0, 0)) := ⟨_, rfl⟩
  rw [← hV]
  have hv1 : V.heap[gB]? = some (.cells #[.int .i64 parts, .slice p os.length cap] 24 (0, 0)) := by
    rw [hV, ← hgB]
    exact below_box (alloc_below _ _) (heap_alloc_new W _)
  have hv2 : V.heap[gB + 1]? = some (.cells #[.int .i64 ef, .int .i64 ep] 119 (0, 0)) := by
    have e : gB + 1 = (W.alloc (.cells #[.int .i64 parts, .slice p os.length cap] 24 (0, 0))).heap.size := by rw [← hgB]; simp
    rw [hV, e]
    exact heap_alloc_new _ _
  have HVB : Hid (Below W.heap.size W V) := by
    rw [hV]
    exact hide ((alloc_below W _).trans ((alloc_below _ _).mono (by simp)))
  have HGV := hide (HO.out.below HVB.out)
  have z1 : V.cell? ⟨gB, 1, none⟩ = some (.slice p os.length cap) := by simp [World.cell?, hv1]
  have e0 : V.cell? ⟨gB + 1, 0, none⟩ = some (.int .i64 ef) := by simp [World.cell?, hv2]
  have e1 : V.cell? ⟨gB + 1, 1, none⟩ = some (.int .i64 ep) := by simp [World.cell?, hv2]
  try rw [hgB]
  clear hV hv1 hv2
  go_loopw [8, 7] (fun i s7 wr => ∃ (k : Nat), k ≤ n ∧ i = .int .i64 (k : Int) ∧ s7 = .int .i64 (manyC ((os.map OV.o).take k) ⟨ef, ep⟩ : Nat) ∧ manyC ((os.map OV.o).take k) ⟨ef, ep⟩ ≤ k * 4 ∧ Hid (Below V.heap.size V wr)) (fun i _ _ => n - (intOf i).toNat)
  case atStart => exact ⟨0, Nat.zero_le _, rfl, rfl, Nat.le_refl _, hide (Below.refl _ _)⟩
  case round =>
    obtain ⟨k, hk, rfl, rfl, hm, HB⟩ := hrel
    by_cases hlt : k < n
    · have hk2 : k < os.length := by omega
      obtain ⟨g, o, rfl, hc⟩ := HGV.out.cell k hk2
      obtain ⟨x, hx⟩ : ∃ x, os[k]! = x := ⟨_, rfl⟩
      have hxm : x ∈ os := by rw [← hx, getElem!_pos os k hk2]; exact List.getElem_mem _
      have HXO := hide (HGV.out.ok x hxm)
      have hil := HI.out k hlt
      rw [hx] at hc hil
      have HTK : Hid ((os.map OV.o).take (k + 1) = (os.map OV.o).take k ++ [x.o]) := by
        refine hide ?_
        rw [List.take_succ_eq_append_getElem (by simpa using hk2)]
        congr 1
        rw [← hx, getElem!_pos os k hk2]
        simp
      obtain ⟨M, hM⟩ : ∃ M, manyC ((os.map OV.o).take k) ⟨ef, ep⟩ = M := ⟨_, rfl⟩
      rw [hM] at hm ⊢
      have HM := hide hM
      obtain ⟨⟨kd, pt, fn, ar, ins⟩, ip, ic⟩ := x
      simp only at hil
      have d4 : V.cell? ⟨g, o + k * 5 + 4, none⟩ = some (.slice ip ins.length ic) := hc 4 (by omega)
      have hic := HXO.out.le
      have hit := HXO.out.top
      simp only at hic hit
      clear hc hx hxm hM
      go_wp2_with fail
      go_loopw [9, 7] (fun i s7 wq => ∃ (j : Nat), j ≤ ins.length ∧ i = .int .i64 (j : Int) ∧ s7 = .int .i64 ((M + cntE (ins.take j) ⟨ef, ep⟩ : Nat) : Int) ∧ Hid (Below V.heap.size V wq)) (fun i _ _ => ins.length - (intOf i).toNat)
      case atStart => exact ⟨0, Nat.zero_le _, rfl, rfl, HB⟩
      case round =>
        obtain ⟨j, hj, rfl, rfl, HBj⟩ := hrel
        have q1 := cell_later HBj.out z1
        have q4 := cell_later HBj.out d4
        have f0 := cell_later HBj.out e0
        have f1 := cell_later HBj.out e1
        by_cases hjl : j < ins.length
        · obtain ⟨g2, o2, he2, t0, t1⟩ := (ERow.below HXO.out HBj.out).cell j hjl
          simp only at he2 t0 t1
          subst he2
          obtain ⟨y, hy⟩ : ∃ y, ins[j]! = y := ⟨_, rfl⟩
          rw [hy] at t0 t1
          have HTJ : Hid (cntE (ins.take (j + 1)) ⟨ef, ep⟩ = cntE (ins.take j) ⟨ef, ep⟩ + (if y = ⟨ef, ep⟩ then 1 else 0)) := by
            refine hide ?_
            rw [List.take_succ_eq_append_getElem hjl, cntE_snoc, ← hy, getElem!_pos ins j hjl]
          have hcj : cntE (ins.take j) ⟨ef, ep⟩ ≤ 4 := Nat.le_trans (cntE_le _ _) (by simp; omega)
          obtain ⟨C, hC⟩ : ∃ C, cntE (ins.take j) ⟨ef, ep⟩ = C := ⟨_, rfl⟩
          rw [hC] at HTJ hcj ⊢
          obtain ⟨yf, yp⟩ := y
          simp only at t0 t1
          rename World => wz
          have HBd : Hid (Below V.heap.size V wz.drew) := hide (HBj.out.trans (Below.refl _ wz).drew)
          clear hy hC
          by_cases c1 : yf = ef
          · subst c1
            by_cases c2 : yp = ep
            · subst c2
              rw [if_pos rfl] at HTJ
              go_upto_region 8 with fail
              go_region
              go_wp2
              exact ⟨⟨j + 1, by omega, by go_num, by rw [HTJ.out]; congr 1, HBd⟩, by simp [intOf]; omega⟩
            · rw [if_neg (by simpa using c2)] at HTJ
              go_upto_region 8 with fail
              go_region
              go_wp2
              exact ⟨⟨j + 1, by omega, by go_num, by rw [HTJ.out]; rfl, HBd⟩, by simp [intOf]; omega⟩
          · rw [if_neg (by simp [c1])] at HTJ
            go_upto_region 8 with fail
            go_region
            go_wp2
            exact ⟨⟨j + 1, by omega, by go_num, by rw [HTJ.out]; rfl, HBd⟩, by simp [intOf]; omega⟩
        · obtain rfl : j = ins.length := by omega
          have HN : Hid (manyC ((os.map OV.o).take (k + 1)) ⟨ef, ep⟩ = M + cntE ins ⟨ef, ep⟩) := by
            refine hide ?_
            rw [HTK.out, many_snoc, HM.out]
          have hcn : cntE ins ⟨ef, ep⟩ ≤ 4 := Nat.le_trans (cntE_le _ _) hil
          rw [List.take_length]
          go_wp2
          exact ⟨⟨k + 1, by omega, by go_num, by rw [HN.out], by rw [HN.out]; omega, HBj⟩, by simp [intOf]; omega⟩
    · obtain rfl : k = n := by omega
      go_wp2
      go_ret
      exact ⟨rfl, by rw [hgB] at HVB ⊢; exact HVB.out.trans (HB.out.mono (by have := HVB.out.size; omega))⟩
end Go.Proofs.YtlfipmieaabagaaGreat
