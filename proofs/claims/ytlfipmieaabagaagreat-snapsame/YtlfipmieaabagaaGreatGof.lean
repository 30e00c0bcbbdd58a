/-
  The first operator with a fault, seen with those ahead of it: the program's opFault. The conditions: lengths, and the number of partitions.
-/
import Derived.Test.YtlfipmieaabagaaGreatGtk
import Derived.WalkMore
import Derived.Deep.RegionHeld3
namespace Go.Proofs.YtlfipmieaabagaaGreat
open Go.RowKit

def oneC (parts : Int) (o : GO) (ahead : List GO) (T : List GE) : Int × List GE :=
  if 1 ≤ o.kind ∧ o.kind ≤ 9 then
    if fieldsC o.kind o.part o.fn o.arg parts = true then
      if insC o ahead = true then (if (takeC T o.ins).1 = true then (0, (takeC T o.ins).2) else (53, (takeC T o.ins).2)) else (52, T)
    else (51, T)
  else (50, T)
structure SS where
  bad : Option (Nat × Int)
  T : List GE
  a : List GO
def stepS (parts : Int) (s : SS) (o : GO) : SS :=
  match s.bad with
  | some _ => s
  | none => if (oneC parts o s.a s.T).1 = 0 then ⟨none, (oneC parts o s.a s.T).2, s.a ++ [o]⟩ else ⟨some (s.a.length, (oneC parts o s.a s.T).1), (oneC parts o s.a s.T).2, s.a⟩
def scanS (parts : Int) (os : List GO) : SS := os.foldl (stepS parts) ⟨none, [], []⟩
theorem scanS_snoc (parts : Int) (os : List GO) (o : GO) : scanS parts (os ++ [o]) = stepS parts (scanS parts os) o := by simp [scanS]
theorem scanS_stay {parts : Int} {os : List GO} {x : Nat × Int} : ∀ {s : SS}, s.bad = some x → (os.foldl (stepS parts) s) = s := by
  induction os with
  | nil => intro s _; rfl
  | cons o os ih =>
    intro s h
    have e : stepS parts s o = s := by unfold stepS; rw [h]
    rw [List.foldl_cons, e]
    exact ih h
theorem scanS_more {parts : Int} {os : List GO} {k : Nat} {x : Nat × Int} (h : (scanS parts (os.take k)).bad = some x) : scanS parts os = scanS parts (os.take k) := by
  have e : os = os.take k ++ os.drop k := (List.take_append_drop k os).symm
  have : scanS parts os = (os.drop k).foldl (stepS parts) (scanS parts (os.take k)) := by
    unfold scanS
    conv => lhs; rw [e]
    rw [List.foldl_append]
  rw [this, scanS_stay h]
theorem scanS_from (parts : Int) : ∀ (os : List GO) (s : SS), (os.foldl (stepS parts) s).bad = none → (os.foldl (stepS parts) s).a = s.a ++ os
  | [], s, _ => by simp
  | o :: os, s, h => by
    rw [List.foldl_cons] at h ⊢
    have hb : (stepS parts s o).bad = none := by
      cases hb : (stepS parts s o).bad with
      | none => rfl
      | some x => rw [scanS_stay hb, hb] at h; cases h
    rw [scanS_from parts os _ h]
    unfold stepS at hb ⊢
    cases hs : s.bad with
    | some x => rw [hs] at hb; simp only at hb; rw [hs] at hb; cases hb
    | none =>
      rw [hs] at hb
      simp only at hb ⊢
      by_cases h0 : (oneC parts o s.a s.T).1 = 0
      · rw [if_pos h0]; simp
      · rw [if_neg h0] at hb; cases hb
theorem scanS_ahead {parts : Int} {os : List GO} (h : (scanS parts os).bad = none) : (scanS parts os).a = os := by
  have := scanS_from parts os ⟨none, [], []⟩ h
  exact this
def faultN (s : SS) : Int := match s.bad with | none => 0 | some x => (x.1 : Int)
def faultE (s : SS) : Int := match s.bad with | none => 0 | some x => x.2

theorem ERow.lt {W : World} {p : Option Addr} {cap : Nat} {es : List GE} (h : ERow W p cap es) {i : Nat} (hi : i < es.length) {g o : Nat} (e : p = some ⟨g, o, none⟩) : g < W.heap.size := by
  obtain ⟨g', o', e', h1, _⟩ := h.cell i hi
  rw [e] at e'
  simp at e'
  obtain ⟨rfl, rfl⟩ := e'
  obtain ⟨ob, hob, _⟩ := cells_of_cell h1
  exact (Array.getElem?_eq_some_iff.1 hob).1
theorem GRow.take {W : World} {p : Option Addr} {cap : Nat} {os : List OV} (h : GRow W p cap os) {k : Nat} (hk : k ≤ os.length) : GRow W p cap (os.take k) := by
  have hl : (os.take k).length = k := by simp; omega
  refine ⟨by have := h.le; omega, h.top, fun i hi => ?_, fun x hx => h.ok x (List.mem_of_mem_take hx)⟩
  obtain ⟨g, o, e, hc⟩ := h.cell i (by omega)
  refine ⟨g, o, e, ?_⟩
  have : (os.take k)[i]! = os[i]! := by rw [getElem!_pos (os.take k) i hi, getElem!_pos os i (by omega), List.getElem_take]
  rw [this]
  exact hc
theorem insC_ok {o : GO} {ahead : List GO} (h : insC o ahead = true) (hl : ahead.length ≤ 24) : ∀ e ∈ o.ins, okE e := by
  intro e he
  unfold insC at h
  rw [Bool.and_eq_true, List.all_eq_true] at h
  have := h.2 e he
  unfold edgeC at this
  simp only [Bool.and_eq_true, decide_eq_true_eq] at this
  have hp := portsC_le (ahead[e.f.toNat]!).kind (ahead[e.f.toNat]!).arg
  exact ⟨this.1.1, by omega, this.2.1, by omega⟩

theorem below_box {W W' : World} {b : Nat} {o : Obj} (hb : Below W.heap.size W W') (h : W.heap[b]? = some o) : W'.heap[b]? = some o :=
  (hb.block b (Array.getElem?_eq_some_iff.1 h).1).trans h
theorem scan_one {parts : Int} {os : List GO} {k : Nat} (hk : k < os.length) (h1 : (scanS parts (os.take k)).bad = none) : scanS parts (os.take (k + 1)) = (if (oneC parts (os[k]!) (os.take k) (scanS parts (os.take k)).T).1 = 0 then ⟨none, (oneC parts (os[k]!) (os.take k) (scanS parts (os.take k)).T).2, os.take k ++ [os[k]!]⟩ else ⟨some (k, (oneC parts (os[k]!) (os.take k) (scanS parts (os.take k)).T).1), (oneC parts (os[k]!) (os.take k) (scanS parts (os.take k)).T).2, os.take k⟩) := by
  have e1 : os.take (k + 1) = os.take k ++ [os[k]!] := by rw [List.take_succ_eq_append_getElem hk, getElem!_pos os k hk]
  have e2 := scanS_ahead h1
  have e3 : (os.take k).length = k := by simp; omega
  rw [e1, scanS_snoc]
  unfold stepS
  rw [h1, e2]
  simp only [e3]
theorem scan_hit {parts : Int} {os : List GO} {k : Nat} (hk : k < os.length) {T : List GE} (h1 : (scanS parts (os.take k)).bad = none) (h2 : (scanS parts (os.take k)).T = T) {e : Int} (he : (oneC parts (os[k]!) (os.take k) T).1 = e) (h0 : e ≠ 0) : faultN (scanS parts os) = (k : Int) ∧ faultE (scanS parts os) = e := by
  have h3 := scan_one hk h1
  rw [h2, he, if_neg h0] at h3
  have h4 : (scanS parts (os.take (k + 1))).bad = some (k, e) := by rw [h3]
  rw [scanS_more h4]
  unfold faultN faultE
  rw [h4]
  exact ⟨rfl, rfl⟩
theorem scan_next {parts : Int} {os : List GO} {k : Nat} (hk : k < os.length) {T T' : List GE} (h1 : (scanS parts (os.take k)).bad = none) (h2 : (scanS parts (os.take k)).T = T) (he : oneC parts (os[k]!) (os.take k) T = (0, T')) : (scanS parts (os.take (k + 1))).bad = none ∧ (scanS parts (os.take (k + 1))).T = T' := by
  have h3 := scan_one hk h1
  rw [h2, he, if_pos rfl] at h3
  rw [h3]
  exact ⟨rfl, rfl⟩
theorem zero_ports : Tryz.zeroCells200 = Array.replicate 96 (.bool false) := by kernel_rfl
theorem TRep.new {W : World} {tb : Nat} (h : W.heap[tb]? = some (.cells Tryz.zeroCells200 200 (0, 0))) : TRep W tb [] := by
  rw [zero_ports] at h
  refine ⟨_, h, by simp, fun f p hf hp => ?_⟩
  rw [Array.getElem?_eq_getElem (by simp; omega)]
  simp

set_option maxRecDepth 100000 in
set_option maxHeartbeats 8000000 in
theorem opFault_any {W : World} {parts : Int} (hp1 : 1 ≤ parts) (hp2 : parts ≤ 4) {p : Option Addr} {cap : Nat} {os : List OV} (ho : GRow W p cap os) (hlen : os.length ≤ 24) :
    Calls Tryz.prog 100 #[.agg #[.int .i64 parts, .slice p os.length cap]] W fun e w' => e = .returned (.tuple #[.int .i64 (faultN (scanS parts (os.map OV.o))), .int .i64 (faultE (scanS parts (os.map OV.o)))]) ∧ Below W.heap.size W w' := by
  have i3 := ho.le
  have i4 := ho.top
  have HO := hide ho
  clear ho
  go_enter Tryz.func100, Tryz.ntmps100
  go_wp2_with fail
  go_step3
  go_wp2_with fail
  go_step3
  go_wp2_with fail
  obtain ⟨gB, hgB⟩ : ∃ gB, W.heap.size = gB := ⟨_, rfl⟩
  obtain ⟨V, hV⟩ : ∃ V, V = (W.alloc (.cells #[.int .i64 parts, .slice p os.length cap] 24 (0, 0))).alloc (.cells Tryz.zeroCells200 200 (0, 0)) := ⟨_, rfl⟩
  rw [← hV]
  have HV1 : Hid (V.heap[gB]? = some (.cells #[.int .i64 parts, .slice p os.length cap] 24 (0, 0))) := by
    rw [hV, ← hgB]
    exact hide (below_box (alloc_below _ _) (heap_alloc_new W _))
  have HV2 : Hid (TRep V (gB + 1) []) := by
    refine hide (TRep.new ?_)
    have e : gB + 1 = (W.alloc (.cells #[.int .i64 parts, .slice p os.length cap] 24 (0, 0))).heap.size := by rw [← hgB]; simp
    rw [hV, e]
    exact heap_alloc_new _ _
  have HVB : Hid (Below W.heap.size W V) := by
    rw [hV]
    exact hide ((alloc_below W _).trans ((alloc_below _ _).mono (by simp)))
  have hVs : V.heap.size = gB + 2 := by rw [hV, ← hgB]; simp
  rw [hgB] at HVB
  try rw [hgB]
  clear hV
  go_loopw [12, 4, 5] (fun i s4 s5 wr => ∃ (k : Nat) (T : List GE), k ≤ os.length ∧ i = .int .i64 (k : Int) ∧ s4 = .int .i64 0 ∧ s5 = .int .i64 0 ∧ Hid ((scanS parts ((os.map OV.o).take k)).bad = none) ∧ Hid ((scanS parts ((os.map OV.o).take k)).T = T) ∧ Hid (TRep wr (gB + 1) T) ∧ Hid (Only (· = gB + 1) V wr)) (fun i _ _ _ => os.length - (intOf i).toNat)
  case atStart => exact ⟨0, [], Nat.zero_le _, rfl, rfl, rfl, hide rfl, hide rfl, HV2, hide (Only.refl _ _)⟩
  case round =>
    obtain ⟨k, T, hk, rfl, rfl, rfl, HS, HST, HT, HOn⟩ := hrel
    by_cases hlt : k < os.length
    · have hz1 := HOn.out.size
      have hWr : Below gB W wr := HVB.out.trans (HOn.out.below (by omega) (fun i e => by have e' : i = gB + 1 := e; omega))
      have hGr : GRow wr p cap os := HO.out.below (by rw [hgB]; exact hWr)
      obtain ⟨g, o, rfl, hc⟩ := hGr.cell k hlt
      obtain ⟨x, hx⟩ : ∃ x, os[k]! = x := ⟨_, rfl⟩
      have hxm : x ∈ os := by rw [← hx, getElem!_pos os k hlt]; exact List.getElem_mem _
      have hxok := hGr.ok x hxm
      have hxW := HO.out.ok x hxm
      rw [hx] at hc
      have HMO : Hid ((os.map OV.o)[k]! = x.o) := hide (by rw [getO os hlt, hx])
      have HKL : Hid (k < (os.map OV.o).length) := hide (by simpa using hlt)
      have hgbox := HOn.out.obj HV1.out (by omega)
      obtain ⟨⟨kd, pt, fn, ar, ins⟩, ip, ic⟩ := x
      have d0 : wr.cell? ⟨g, o + k * 5, none⟩ = some (.int .i64 kd) := hc 0 (by omega)
      have d1 : wr.cell? ⟨g, o + k * 5 + 1, none⟩ = some (.int .i64 pt) := hc 1 (by omega)
      have d2 : wr.cell? ⟨g, o + k * 5 + 2, none⟩ = some (.int .i64 fn) := hc 2 (by omega)
      have d3 : wr.cell? ⟨g, o + k * 5 + 3, none⟩ = some (.int .i64 ar) := hc 3 (by omega)
      have d4 : wr.cell? ⟨g, o + k * 5 + 4, none⟩ = some (.slice ip ins.length ic) := hc 4 (by omega)
      have hb1 := alloc_below wr (.cells #[.int .i64 kd, .int .i64 pt, .int .i64 fn, .int .i64 ar, .slice ip ins.length ic] 95 (0, 0))
      obtain ⟨wx, hwx⟩ : ∃ wx, wx = wr.alloc (.cells #[.int .i64 kd, .int .i64 pt, .int .i64 fn, .int .i64 ar, .slice ip ins.length ic] 95 (0, 0)) := ⟨_, rfl⟩
      rw [← hwx] at hb1
      have hbx : wx.heap[wr.heap.size]? = some (.cells #[.int .i64 kd, .int .i64 pt, .int .i64 fn, .int .i64 ar, .slice ip ins.length ic] 95 (0, 0)) := by rw [hwx]; exact heap_alloc_new _ _
      obtain ⟨xB, hxB⟩ : ∃ xB, wr.heap.size = xB := ⟨_, rfl⟩
      rw [hxB] at hbx
      have hxne : xB ≠ gB + 1 := by omega
      have y0 : wx.cell? ⟨xB, 0, none⟩ = some (.int .i64 kd) := by simp [World.cell?, hbx]
      have HBX := hide hbx
      have HGX := hide (below_box hb1 hgbox)
      have HTX : Hid (TRep wx (gB + 1) T) := hide (HT.out.only (Only.fresh hb1 (fun _ => False)) (fun e => e))
      have HOX : Hid (Only (· = gB + 1) V wx) := hide (HOn.out.step (Only.fresh hb1 (· = gB + 1)) (fun i e => .inl e))
      have HGR := hide (hGr.below hb1)
      have HXO := hide (hxok.below hb1)
      have HXW := hide hxW
      have HWX := hide hwx
      clear hb1 hbx hgbox hGr hc hx hxm hxok hxW hWr HT HOn
      go_upto_region 6 with fail
      rw [← HWX.out]
      clear HWX hwx hxB d0 d1 d2 d3 d4
      have fin : ∀ w' : World, Below wx.heap.size wx w' → Below W.heap.size W w' := fun w' hb => by
        have h1 := HOX.out.size
        have h2 : Below gB V wx := HOX.out.below (by omega) (fun i e => by have e' : i = gB + 1 := e; omega)
        rw [hgB]
        exact (HVB.out.trans h2).trans (hb.mono (by omega))
      have HFIN := hide fin
      clear fin
      by_cases c1 : 1 ≤ kd ∧ kd ≤ 9
      rotate_left
      · have HV : Hid ((decide ((1 : Int) ≤ kd) && decide (kd ≤ 9)) = false) := hide (bf c1)
        have HQ := hide (scan_hit (e := 50) HKL.out HS.out HST.out (by rw [HMO.out]; simp [oneC, c1]) (by decide))
        clear c1
        go_wp2_with fail
        refine within_any.mono ?_
        rintro _ wx ⟨rfl, rfl⟩
        rw [HV.out]
        go_wp2
        rw [Exit.noGoto_ret]
        go_ret2
        exact ⟨by rw [HQ.out.1, HQ.out.2]; rfl, HFIN.out _ (Below.refl _ _)⟩
      · have HV : Hid ((decide ((1 : Int) ≤ kd) && decide (kd ≤ 9)) = true) := hide (bt c1.1 c1.2)
        have y1 : wx.cell? ⟨xB, 1, none⟩ = some (.int .i64 pt) := by simp [World.cell?, HBX.out]
        have y2 : wx.cell? ⟨xB, 2, none⟩ = some (.int .i64 fn) := by simp [World.cell?, HBX.out]
        have y3 : wx.cell? ⟨xB, 3, none⟩ = some (.int .i64 ar) := by simp [World.cell?, HBX.out]
        have y4 : wx.cell? ⟨xB, 4, none⟩ = some (.slice ip ins.length ic) := by simp [World.cell?, HBX.out]
        have z0 : wx.cell? ⟨gB, 0, none⟩ = some (.int .i64 parts) := by simp [World.cell?, HGX.out]
        have HFF := hide (fields_any (W := wx) (kd := kd) (pt := pt) (fn := fn) (ar := ar) (ip := ip) (n := ins.length) (ic := ic) hp1 hp2)
        go_wp2_with fail
        refine within_any.mono ?_
        rintro _ wx ⟨rfl, rfl⟩
        rw [HV.out]
        go_wp2_with fail
        refine HFF.out.mono ?_
        rintro _ w1 ⟨rfl, b1⟩
        cases hfc : fieldsC kd pt fn ar parts with
        | false =>
          have HQ := hide (scan_hit (e := 51) HKL.out HS.out HST.out (by rw [HMO.out]; simp [oneC, c1, hfc]) (by decide))
          have HB1 := hide b1
          clear c1 b1 hfc HFF
          go_wp2
          rw [Exit.noGoto_ret]
          go_ret2
          exact ⟨by rw [HQ.out.1, HQ.out.2]; rfl, HFIN.out _ HB1.out⟩
        | true =>
          have hbx1 := below_box b1 HBX.out
          have hgx1 := below_box b1 HGX.out
          have x0 : w1.cell? ⟨xB, 0, none⟩ = some (.int .i64 kd) := by simp [World.cell?, hbx1]
          have x1 : w1.cell? ⟨xB, 1, none⟩ = some (.int .i64 pt) := by simp [World.cell?, hbx1]
          have x2 : w1.cell? ⟨xB, 2, none⟩ = some (.int .i64 fn) := by simp [World.cell?, hbx1]
          have x3 : w1.cell? ⟨xB, 3, none⟩ = some (.int .i64 ar) := by simp [World.cell?, hbx1]
          have x4 : w1.cell? ⟨xB, 4, none⟩ = some (.slice ip ins.length ic) := by simp [World.cell?, hbx1]
          have u1 : w1.cell? ⟨gB, 1, none⟩ = some (.slice (some ⟨g, o, none⟩) os.length cap) := by simp [World.cell?, hgx1]
          have HIN : Hid (Calls Tryz.prog 119 #[.agg #[.int .i64 kd, .int .i64 pt, .int .i64 fn, .int .i64 ar, .slice ip ins.length ic], .slice (some ⟨g, o, none⟩) k cap] w1.drew fun e w' => e = .returned (.bool (insC ⟨kd, pt, fn, ar, ins⟩ ((os.map OV.o).take k))) ∧ Below w1.heap.size w1 w') := by
            have hl : (os.take k).length = k := by simp; omega
            have h1 := ins_any (W := w1.drew) (x := ⟨⟨kd, pt, fn, ar, ins⟩, ip, ic⟩) ((HXO.out.below b1).below (Below.refl _ w1).drew) (((HGR.out.below b1).below (Below.refl _ w1).drew).take (k := k) (by omega)) (by omega)
            rw [hl, List.map_take] at h1
            refine hide (h1.mono ?_)
            rintro e w' ⟨he, hb⟩
            exact ⟨he, (Below.refl _ w1).drew.trans hb⟩
          have HB1 := hide b1
          have HBX1 := hide hbx1
          have HIK : Hid (∀ w2, Below w1.heap.size w1 w2 → w2.cell? ⟨xB, 0, none⟩ = some (.int .i64 kd) ∧ w2.cell? ⟨xB, 1, none⟩ = some (.int .i64 pt) ∧ w2.cell? ⟨xB, 2, none⟩ = some (.int .i64 fn) ∧ w2.cell? ⟨xB, 3, none⟩ = some (.int .i64 ar) ∧ w2.cell? ⟨xB, 4, none⟩ = some (.slice ip ins.length ic) ∧ w2.cell? ⟨gB, 1, none⟩ = some (.slice (some ⟨g, o, none⟩) os.length cap)) := hide (fun w2 hb => ⟨cell_later hb x0, cell_later hb x1, cell_later hb x2, cell_later hb x3, cell_later hb x4, cell_later hb u1⟩)
          obtain ⟨IV, hIV⟩ : ∃ IV, insC ⟨kd, pt, fn, ar, ins⟩ ((os.map OV.o).take k) = IV := ⟨_, rfl⟩
          rw [hIV] at HIN
          have HIV := hide hIV
          have HC1 := hide c1
          have HFC := hide hfc
          clear b1 hbx1 hgx1 HFF y0 y1 y2 y3 y4 z0 hIV c1 hfc HV
          have s0 : (0 : Int) ≤ (k : Int) := by omega
          have s1 : (k : Int) ≤ (cap : Int) := by omega
          have s2 : (k : Int) ≤ (os.length : Int) := by omega
          go_upto_region 10 with fail
          go_region_held3 (fun w' => w'.cell? ⟨xB, 0, none⟩ = some (.int .i64 kd) ∧ w'.cell? ⟨xB, 1, none⟩ = some (.int .i64 pt) ∧ w'.cell? ⟨xB, 2, none⟩ = some (.int .i64 fn) ∧ w'.cell? ⟨xB, 3, none⟩ = some (.int .i64 ar) ∧ w'.cell? ⟨xB, 4, none⟩ = some (.slice ip ins.length ic) ∧ w'.cell? ⟨gB, 1, none⟩ = some (.slice (some ⟨g, o, none⟩) os.length cap)) (go_keep)
            (first
              | (go_at_call 119; refine HIN.out.mono ?_; rintro _ w2 ⟨rfl, b2⟩; obtain ⟨r0, r1, r2, r3, r4, r5⟩ := HIK.out w2 b2))
          have HB2 : Hid (Below wx.heap.size wx w2) := hide (HB1.out.trans (b2.mono HB1.out.size))
          clear x0 x1 x2 x3 x4 u1 r0 r1 r2 r3 r5 b2
          cases IV with
          | false =>
            have HQ := hide (scan_hit (e := 52) HKL.out HS.out HST.out (by rw [HMO.out]; simp [oneC, HC1.out, HFC.out, HIV.out]) (by decide))
            go_wp2
            rw [Exit.noGoto_ret]
            go_ret2
            exact ⟨by rw [HQ.out.1, HQ.out.2]; rfl, HFIN.out _ HB2.out⟩
          | true =>
            have HTA := hide (take_any (HTX.out.only (Only.fresh HB2.out (fun _ => False)) (fun e => e)) (HXO.out.below HB2.out) (fun i hi g' o' e' => by have := HXW.out.lt hi e'; omega) (insC_ok HIV.out (by simp; omega)))
            have HO1 : Hid (oneC parts ⟨kd, pt, fn, ar, ins⟩ ((os.map OV.o).take k) T = (if (takeC T ins).1 = true then (0, (takeC T ins).2) else (53, (takeC T ins).2))) := hide (by unfold oneC; rw [if_pos HC1.out, if_pos HFC.out, if_pos HIV.out])
            obtain ⟨tk, htk⟩ : ∃ tk, takeC T ins = tk := ⟨_, rfl⟩
            obtain ⟨ok, T'⟩ := tk
            rw [htk] at HTA HO1
            clear htk HIV HIN HIK HFC HC1
            go_wp2_with fail
            refine HTA.out.mono ?_
            rintro _ w3 ⟨rfl, t3, o3⟩
            have HT3 := hide t3
            have HO3 : Hid (Only (· = gB + 1) V w3) := hide ((HOX.out.step (Only.fresh HB2.out (· = gB + 1)) (fun i e => .inl e)).step o3 (fun i e => .inl e))
            clear t3 o3 HTA r4
            cases ok with
            | false =>
              have HQ := hide (scan_hit (e := 53) HKL.out HS.out HST.out (by rw [HMO.out, HO1.out]; rfl) (by decide))
              have HF : Hid (Below W.heap.size W w3) := by
                have h1 := HO3.out.size
                rw [hgB]
                exact hide (HVB.out.trans (HO3.out.below (by omega) (fun i e => by have e' : i = gB + 1 := e; omega)))
              go_wp2
              rw [Exit.noGoto_ret]
              go_ret2
              exact ⟨by rw [HQ.out.1, HQ.out.2]; rfl, HF.out⟩
            | true =>
              have HQ := hide (scan_next (T' := T') HKL.out HS.out HST.out (by rw [HMO.out, HO1.out]; rfl))
              go_wp2
              exact ⟨⟨k + 1, T', by omega, by go_num, rfl, rfl, hide HQ.out.1, hide HQ.out.2, HT3, HO3⟩, by simp [intOf]; omega⟩
    · obtain rfl : k = os.length := by omega
      have HQ : Hid (faultN (scanS parts (os.map OV.o)) = 0 ∧ faultE (scanS parts (os.map OV.o)) = 0) := by
        have h1 := HS.out
        rw [show (os.map OV.o).take os.length = os.map OV.o from List.take_of_length_le (by simp)] at h1
        refine hide ?_
        unfold faultN faultE
        rw [h1]
        exact ⟨rfl, rfl⟩
      have HF : Hid (Below W.heap.size W wr) := by
        have h1 := HOn.out.size
        rw [hgB]
        exact hide (HVB.out.trans (HOn.out.below (by omega) (fun i e => by have e' : i = gB + 1 := e; omega)))
      go_wp2
      rw [Exit.noGoto_ret]
      go_ret2
      exact ⟨by rw [HQ.out.1, HQ.out.2]; rfl, HF.out⟩
end Go.Proofs.YtlfipmieaabagaaGreat
