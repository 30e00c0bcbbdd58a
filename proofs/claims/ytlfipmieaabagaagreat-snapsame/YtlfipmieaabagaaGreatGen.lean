/-
  Each partition has one source, and there is one sink: the program's endsFault. The conditions: lengths, and that sources' partitions may be.
-/
import Derived.Test.YtlfipmieaabagaaGreatGof
namespace Go.Proofs.YtlfipmieaabagaaGreat
open Go.RowKit

def srcN (os : List GO) (p : Nat) : Nat := (os.filter (fun o => o.kind == 1 && o.part == (p : Int))).length
def sinkN (os : List GO) : Nat := (os.filter (fun o => o.kind == 9)).length
def endsC (parts : Nat) (os : List GO) : Int := if (List.range parts).all (fun p => srcN os p == 1) = true then (if sinkN os = 1 then 0 else 56) else 55
theorem srcN_snoc (os : List GO) (o : GO) (p : Nat) : srcN (os ++ [o]) p = srcN os p + (if o.kind = 1 ∧ o.part = (p : Int) then 1 else 0) := by
  unfold srcN
  rw [List.filter_append, List.length_append]
  congr 1
  by_cases h : o.kind = 1 ∧ o.part = (p : Int)
  · rw [if_pos h, List.filter_cons_of_pos (by simp [h])]; rfl
  · rw [if_neg h, List.filter_cons_of_neg (by simpa using h)]; rfl
theorem sinkN_snoc (os : List GO) (o : GO) : sinkN (os ++ [o]) = sinkN os + (if o.kind = 9 then 1 else 0) := by
  unfold sinkN
  rw [List.filter_append, List.length_append]
  congr 1
  by_cases h : o.kind = 9
  · rw [if_pos h, List.filter_cons_of_pos (by simp [h])]; rfl
  · rw [if_neg h, List.filter_cons_of_neg (by simpa using h)]; rfl
theorem srcN_le (os : List GO) (p : Nat) : srcN os p ≤ os.length := List.length_filter_le _ _
theorem sinkN_le (os : List GO) : sinkN os ≤ os.length := List.length_filter_le _ _
def SBox (W : World) (sb : Nat) (os : List GO) : Prop := W.heap[sb]? = some (.cells #[.int .i64 (srcN os 0), .int .i64 (srcN os 1), .int .i64 (srcN os 2), .int .i64 (srcN os 3)] 206 (0, 0))
theorem SBox.cell {W : World} {sb : Nat} {os : List GO} (h : SBox W sb os) {i : Nat} (hi : i < 4) : W.cell? ⟨sb, i, none⟩ = some (.int .i64 (srcN os i)) := by
  unfold SBox at h
  rcases (by omega : i = 0 ∨ i = 1 ∨ i = 2 ∨ i = 3) with rfl | rfl | rfl | rfl <;> simp [World.cell?, h]
theorem SBox.keep {W : World} {sb : Nat} {os : List GO} {o : GO} (h : SBox W sb os) (hk : o.kind ≠ 1) : SBox W sb (os ++ [o]) := by
  unfold SBox at h ⊢
  rw [h]
  simp [srcN_snoc, hk]
theorem SBox.inc {W : World} {sb : Nat} {os : List GO} {o : GO} (h : SBox W sb os) (hk : o.kind = 1) {i : Nat} (hi : i < 4) (hp : o.part = (i : Int)) : SBox (W.setCell ⟨sb, i, none⟩ (.int .i64 ((srcN os i : Int) + 1))) sb (os ++ [o]) := by
  unfold SBox at h ⊢
  rw [heap_set_same h]
  rcases (by omega : i = 0 ∨ i = 1 ∨ i = 2 ∨ i = 3) with rfl | rfl | rfl | rfl <;> simp [srcN_snoc, hk, hp]

set_option maxRecDepth 100000 in
set_option maxHeartbeats 8000000 in
theorem ends_any {W : World} {pn : Nat} (hp1 : 1 ≤ pn) (hp2 : pn ≤ 4) {p : Option Addr} {cap : Nat} {os : List OV} (ho : GRow W p cap os) (hlen : os.length ≤ 24) (hsrc : ∀ x ∈ os, x.o.kind = 1 → 0 ≤ x.o.part ∧ x.o.part < 4) :
    Calls Tryz.prog 102 #[.agg #[.int .i64 (pn : Int), .slice p os.length cap]] W fun e w' => e = .returned (.int .i64 (endsC pn (os.map OV.o))) ∧ Below W.heap.size W w' := by
  have i3 := ho.le
  have i4 := ho.top
  have HO := hide ho
  have HSR := hide hsrc
  clear ho hsrc
  go_enter Tryz.func102, Tryz.ntmps102
  go_wp2_with fail
  obtain ⟨gB, hgB⟩ : ∃ gB, W.heap.size = gB := ⟨_, rfl⟩
  obtain ⟨V, hV⟩ : ∃ V, V = (W.alloc (.cells #[.int .i64 (pn : Int), .slice p os.length cap] 24 (0, 0))).alloc (.cells #[.int .i64 0, .int .i64 0, .int .i64 0, .int .i64 0] 206 (0, 0)) := ⟨_, rfl⟩
  rw [← hV]
  have HV1 : Hid (V.heap[gB]? = some (.cells #[.int .i64 (pn : Int), .slice p os.length cap] 24 (0, 0))) := by
    rw [hV, ← hgB]
    exact hide (below_box (alloc_below _ _) (heap_alloc_new W _))
  have HV2 : Hid (SBox V (gB + 1) []) := by
    have e : gB + 1 = (W.alloc (.cells #[.int .i64 (pn : Int), .slice p os.length cap] 24 (0, 0))).heap.size := by rw [← hgB]; simp
    refine hide ?_
    unfold SBox
    rw [hV, e]
    exact heap_alloc_new _ _
  have HVB : Hid (Below W.heap.size W V) := by
    rw [hV]
    exact hide ((alloc_below W _).trans ((alloc_below _ _).mono (by simp)))
  have hVs : V.heap.size = gB + 2 := by rw [hV, ← hgB]; simp
  rw [hgB] at HVB
  try rw [hgB]
  clear hV
  go_loopw [12, 4] (fun i s4 wr => ∃ (k : Nat), k ≤ os.length ∧ i = .int .i64 (k : Int) ∧ s4 = .int .i64 (sinkN ((os.map OV.o).take k) : Nat) ∧ Hid (SBox wr (gB + 1) ((os.map OV.o).take k)) ∧ Hid (Only (· = gB + 1) V wr)) (fun i _ _ => os.length - (intOf i).toNat)
  case atStart => exact ⟨0, Nat.zero_le _, rfl, rfl, HV2, hide (Only.refl _ _)⟩
  case round =>
    obtain ⟨k, hk, rfl, rfl, HB, HOn⟩ := hrel
    have hz1 := HOn.out.size
    have HWr : Hid (Below gB W wr) := hide (HVB.out.trans (HOn.out.below (by omega) (fun i e => by have e' : i = gB + 1 := e; omega)))
    have hgbox := HOn.out.obj HV1.out (by omega)
    by_cases hlt : k < os.length
    · have hGr : GRow wr p cap os := HO.out.below (by rw [hgB]; exact HWr.out)
      obtain ⟨g, o, rfl, hc⟩ := hGr.cell k hlt
      obtain ⟨x, hx⟩ : ∃ x, os[k]! = x := ⟨_, rfl⟩
      have hxm : x ∈ os := by rw [← hx, getElem!_pos os k hlt]; exact List.getElem_mem _
      have hsx := HSR.out x hxm
      rw [hx] at hc
      have HTK : Hid ((os.map OV.o).take (k + 1) = (os.map OV.o).take k ++ [x.o]) := by
        refine hide ?_
        rw [List.take_succ_eq_append_getElem (by simpa using hlt)]
        congr 1
        rw [← hx, getElem!_pos os k hlt]
        simp
      have hsl := sinkN_le ((os.map OV.o).take k)
      have hcl : ∀ i, srcN ((os.map OV.o).take k) i ≤ 24 := fun i => Nat.le_trans (srcN_le _ i) (by simp; omega)
      have hsl2 : sinkN ((os.map OV.o).take k) ≤ 24 := Nat.le_trans hsl (by simp; omega)
      obtain ⟨L, hL⟩ : ∃ L, (os.map OV.o).take k = L := ⟨_, rfl⟩
      rw [hL] at HB HTK hcl hsl2 ⊢
      clear hsl hL
      obtain ⟨⟨kd, pt, fn, ar, ins⟩, ip, ic⟩ := x
      simp only at hsx HTK
      have d0 : wr.cell? ⟨g, o + k * 5, none⟩ = some (.int .i64 kd) := hc 0 (by omega)
      have d1 : wr.cell? ⟨g, o + k * 5 + 1, none⟩ = some (.int .i64 pt) := hc 1 (by omega)
      have d2 : wr.cell? ⟨g, o + k * 5 + 2, none⟩ = some (.int .i64 fn) := hc 2 (by omega)
      have d3 : wr.cell? ⟨g, o + k * 5 + 3, none⟩ = some (.int .i64 ar) := hc 3 (by omega)
      have d4 : wr.cell? ⟨g, o + k * 5 + 4, none⟩ = some (.slice ip ins.length ic) := hc 4 (by omega)
      have hb1 := alloc_below wr (.cells #[.int .i64 kd, .int .i64 pt, .int .i64 fn, .int .i64 ar, .slice ip ins.length ic] 95 (0, 0))
      obtain ⟨wx, hwx⟩ : ∃ wx, wx = wr.alloc (.cells #[.int .i64 kd, .int .i64 pt, .int .i64 fn, .int .i64 ar, .slice ip ins.length ic] 95 (0, 0)) := ⟨_, rfl⟩
      rw [← hwx] at hb1
      have hbx : wx.heap[wr.heap.size]? = some (.cells #[.int .i64 kd, .int .i64 pt, .int .i64 fn, .int .i64 ar, .slice ip ins.length ic] 95 (0, 0)) := by rw [hwx]; exact heap_alloc_new _ _
      obtain ⟨xB, hxB⟩ : ∃ xB, wr.heap.size = xB := ⟨_, rfl⟩
      rw [hxB] at hbx
      have y0 : wx.cell? ⟨xB, 0, none⟩ = some (.int .i64 kd) := by simp [World.cell?, hbx]
      have y1 : wx.cell? ⟨xB, 1, none⟩ = some (.int .i64 pt) := by simp [World.cell?, hbx]
      have hBx : SBox wx (gB + 1) L := below_box hb1 HB.out
      have HBx := hide hBx
      have HOX : Hid (Only (· = gB + 1) V wx) := hide (HOn.out.step (Only.fresh hb1 (· = gB + 1)) (fun i e => .inl e))
      have HWX := hide hwx
      have HSX := hide hsx
      have HCL := hide hcl
      clear hsx hcl hc hGr hx hxm HB HOn hgbox HWr hb1 hbx
      go_upto_region 6 with fail
      rw [← HWX.out]
      clear HWX hwx hxB d0 d1 d2 d3 d4
      have hsx := HSX.out
      have hcl := HCL.out
      by_cases k1 : kd = 1
      · subst k1
        obtain ⟨p0, p1⟩ := hsx rfl
        obtain ⟨i, rfl⟩ : ∃ i : Nat, pt = (i : Int) := ⟨pt.toNat, by omega⟩
        have hi : i < 4 := by omega
        have c0 := hBx.cell hi
        have fz : wx.frozen? ⟨gB + 1, i, none⟩ = false := by unfold SBox at hBx; simp [World.frozen?, hBx]
        have hci := hcl i
        have HN : Hid (SBox (wx.setCell ⟨gB + 1, i, none⟩ (.int .i64 ((srcN L i : Int) + 1))) (gB + 1) (L ++ [⟨1, (i : Int), fn, ar, ins⟩])) := hide (hBx.inc rfl hi rfl)
        have HSN : Hid (sinkN (L ++ [⟨1, (i : Int), fn, ar, ins⟩]) = sinkN L) := hide (by rw [sinkN_snoc]; simp)
        clear hBx hsx hcl
        go_wp2
        refine ⟨⟨k + 1, by omega, by go_num, ?_, ?_, hide (HOX.out.trans (Only.set _ _ _ _ rfl))⟩, by simp [intOf]; omega⟩
        · rw [HTK.out, HSN.out]
        · rw [HTK.out]; exact HN
      · have c1 := ne_eq k1
        have HN : Hid (SBox wx (gB + 1) (L ++ [⟨kd, pt, fn, ar, ins⟩])) := hide (hBx.keep k1)
        by_cases k9 : kd = 9
        · subst k9
          have HSN : Hid (sinkN (L ++ [⟨9, pt, fn, ar, ins⟩]) = sinkN L + 1) := hide (by rw [sinkN_snoc]; simp)
          clear hBx hsx hcl k1
          go_wp2
          refine ⟨⟨k + 1, by omega, by go_num, ?_, ?_, HOX⟩, by simp [intOf]; omega⟩
          · rw [HTK.out, HSN.out]; go_num
          · rw [HTK.out]; exact HN
        · have c9 := ne_eq k9
          have HSN : Hid (sinkN (L ++ [⟨kd, pt, fn, ar, ins⟩]) = sinkN L) := hide (by rw [sinkN_snoc]; simp [k9])
          clear hBx hsx hcl k1 k9
          go_wp2
          refine ⟨⟨k + 1, by omega, by go_num, ?_, ?_, HOX⟩, by simp [intOf]; omega⟩
          · rw [HTK.out, HSN.out]
          · rw [HTK.out]; exact HN
    · obtain rfl : k = os.length := by omega
      have eT : (os.map OV.o).take os.length = os.map OV.o := List.take_of_length_le (by simp)
      rw [eT] at HB ⊢
      have hsl2 : sinkN (os.map OV.o) ≤ 24 := Nat.le_trans (sinkN_le _) (by simp; omega)
      obtain ⟨L, hL⟩ : ∃ L, os.map OV.o = L := ⟨_, rfl⟩
      rw [hL] at HB hsl2 ⊢
      have z0 : wr.cell? ⟨gB, 0, none⟩ = some (.int .i64 (pn : Int)) := by simp [World.cell?, hgbox]
      obtain ⟨SN, hSN⟩ : ∃ SN, sinkN L = SN := ⟨_, rfl⟩
      rw [hSN] at hsl2 ⊢
      have HL := hide hL
      clear hL eT hgbox HOn
      have s0 : (0 : Int) ≤ (pn : Int) := by omega
      have s1 : (pn : Int) ≤ 4 := by omega
      go_wp2_with fail
      go_loopw [35] (fun i wq => ∃ (j : Nat), j ≤ pn ∧ i = .int .i64 (j : Int) ∧ wq = wr ∧ Hid ((List.range j).all (fun p => srcN L p == 1) = true)) (fun i _ => pn - (intOf i).toNat)
      case atStart => exact ⟨0, Nat.zero_le _, rfl, rfl, hide rfl⟩
      case round =>
        obtain ⟨j, hj, rfl, rfl, HA⟩ := hrel
        rename World => wr
        by_cases hjl : j < pn
        · have c0 := HB.out.cell (i := j) (by omega)
          by_cases hs1 : srcN L j = 1
          · have e1 : ((srcN L j : Int) != 1) = false := by simp [hs1]
            have HA2 : Hid ((List.range (j + 1)).all (fun p => srcN L p == 1) = true) := by
              refine hide ?_
              rw [List.range_succ, List.all_append, HA.out]
              simp [hs1]
            clear hs1
            go_wp2
            exact ⟨⟨j + 1, by omega, by go_num, trivial, HA2⟩, by simp [intOf]; omega⟩
          · have e1 : ((srcN L j : Int) != 1) = true := by simp; omega
            have HQ : Hid (endsC pn L = 55) := by
              refine hide ?_
              unfold endsC
              rw [if_neg]
              intro h
              rw [List.all_eq_true] at h
              have := h j (by simpa using hjl)
              simp [hs1] at this
            clear hs1
            go_wp2
            go_ret
            exact ⟨by rw [HL.out, HQ.out]; rfl, by rw [hgB]; exact HWr.out⟩
        · obtain rfl : j = pn := by omega
          by_cases hn : SN = 1
          · have e1 : ((SN : Int) != 1) = false := by simp [hn]
            have HQ : Hid (endsC j L = 0) := hide (by unfold endsC; rw [if_pos HA.out, hSN, if_pos hn])
            clear hn hSN
            go_wp2
            go_ret
            exact ⟨by rw [HL.out, HQ.out]; rfl, by rw [hgB]; exact HWr.out⟩
          · have e1 : ((SN : Int) != 1) = true := by simp; omega
            have HQ : Hid (endsC j L = 56) := hide (by unfold endsC; rw [if_pos HA.out, hSN, if_neg hn])
            clear hn hSN
            go_wp2
            go_ret
            exact ⟨by rw [HL.out, HQ.out]; rfl, by rw [hgB]; exact HWr.out⟩
end Go.Proofs.YtlfipmieaabagaaGreat
