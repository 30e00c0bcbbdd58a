/-
  StoreDoes, walked: for any room and operations. The conditions: lengths; what is handed in lies as arguments do.
-/
import Derived.Test.YtikpckmlnhcddaaGreatCli
import Derived.Test.YtikpckmlnhcddaaGreatSrf
import Derived.Test.YtikpckmlnhcddaaGreatOpa
import Derived.Test.YtikpckmlnhcddaaGreatRows
namespace Go.Proofs.YtikpckmlnhcddaaGreat
open Go.RowKit Go.Maps

/-- A clone takes the place of the store, whatever is then done to that. -/
theorem Two.cloned {w8 w9 wD : World} {sb mb cb nm rb N B : Nat} {fs fsD gs : List MF} {r : RC} {R : RS} (t : Two w8 sb mb rb fs r R N B) (hB : B ≤ w8.heap.size) (hp : Prg w9 cb nm gs r N) (ho : ∀ i, own cb nm gs i → w8.heap.size ≤ i) (hc : ∀ i, Go.Proofs.YtikpckmlnhcddaaGreat.covs gs i → Go.Proofs.YtikpckmlnhcddaaGreat.covs fs i) (hb : Below w8.heap.size w8 w9) (hs : Step w9 wD sb mb fs fsD) : Two wD cb nm rb gs r R N B := by
  have hlt : ∀ i, own sb mb fs i → i < w8.heap.size := fun i hi => t.prg.own_lt hi
  have hco : ∀ i, Go.Proofs.YtikpckmlnhcddaaGreat.covs fs i → ¬ own sb mb fs i := fun i hi hown => by
    obtain ⟨J, left, pend, turn, h1, _⟩ := t.prg
    exact h1.cov_own hi hown
  refine ⟨hp.only hs.only (fun i hi hf => by have := ho i hi; have := hlt i hf; omega) (fun i hi => hco i (hc i hi)), (t.ref.fresh hb).only hs.only (fun i hi hf => (t.apart i hf).1 hi) (fun i hi hf => (t.apart i hf).2 hi), fun i hi => ⟨fun e => ?_, fun e => ?_⟩, fun i hi => t.covs i (hc i hi), fun i hi => Nat.le_trans hB (ho i hi), t.rbase, fun i hi => t.cbase i (hc i hi)⟩
  · have := ho i hi; have := t.ref.rown_lt e; omega
  · have := ho i hi; have := t.ref.rcov_lt e; omega

set_option maxRecDepth 100000 in
set_option maxHeartbeats 8000000 in
theorem does_walk {W : World} {v1 : Value} {os : List OpV} {room : Int} (h1 : Ops W W.heap.size v1 os) (hl1 : os.length * 80 ≤ 140737488355328) :
    Calls Tryz.prog 3 #[.int .i64 room, v1] W fun e w' => e = .returned (.bool true) ∧ Below W.heap.size W w' := by
  obtain ⟨p1, cap1, rfl, a1, a2, _⟩ := id h1.form
  obtain ⟨B, hB⟩ : ∃ B, W.heap.size = B := ⟨_, rfl⟩
  have HLV := hide (live_any W)
  rw [hB] at h1 HLV ⊢
  have H1 := hide h1
  clear h1
  go_enter Tryz.func3, Tryz.ntmps3
  go_wp2_with fail
  refine HLV.out.mono ?_
  rintro _ w1 ⟨rfl, b1⟩
  have HB1 := hide b1
  have Z1 : B ≤ w1.heap.size := by rw [← hB]; exact b1.size
  clear b1 HLV hB
  by_cases hrm : room < 0 ∨ 4194304 < room
  · have HN1 := hide (new_bad (W := w1) hrm)
    have HR1 := hide (rnew_bad (W := w1) hrm)
    clear hrm
    go_wp2_with fail
    refine HN1.out.mono ?_
    rintro _ w1 ⟨rfl, rfl⟩
    go_wp2_with fail
    refine HR1.out.mono ?_
    rintro _ w1 ⟨rfl, rfl⟩
    go_wp2
    go_ret
    exact ⟨rfl, HB1.out⟩
  · obtain ⟨rn, rfl⟩ : ∃ rn : Nat, room = (rn : Int) := ⟨room.toNat, by omega⟩
    have HN1 := hide (new_ok (W := w1) (room := (rn : Int)) (by omega) (by omega))
    have hrn : rn ≤ 4194304 := by omega
    clear hrm
    go_wp2_with fail
    refine HN1.out.mono ?_
    rintro _ w2 ⟨sb, mb, rfl, s2, hs, hm, b2⟩
    have HR2 := hide (rnew_ok (W := w2) (room := rn) hrn)
    have HS2 := hide s2
    have HB2 := hide b2
    clear s2 b2 HN1
    go_wp2_with fail
    refine HR2.out.mono ?_
    rintro _ w3 ⟨rfl, r3, b3⟩
    obtain ⟨r0, hr0⟩ : ∃ r0 : RC, r0 = ⟨[], [], rn, false⟩ := ⟨_, rfl⟩
    have HT3 : Hid (∃ R, Two w3 sb mb w2.heap.size [] r0 R 0 B ∧ R.core = r0) := hide ⟨_, by rw [hr0]; exact two_new Z1 HS2.out hs hm hrn r3 b3 HB2.out, by rw [hr0]; rfl⟩
    have HB3 : Hid (Below B W w3) := hide (HB1.out.trans ((HB2.out.mono Z1).trans (b3.mono (Nat.le_trans Z1 HB2.out.size))))
    have Z3 : B ≤ w3.heap.size := Nat.le_trans (Nat.le_trans Z1 HB2.out.size) b3.size
    obtain ⟨rb, hrb⟩ : ∃ rb, w2.heap.size = rb := ⟨_, rfl⟩
    rw [hrb] at HT3 ⊢
    clear r3 b3 HR2 HS2 HB2 hs hm hrb hr0 HB1 Z1
    obtain ⟨R0, HT3'⟩ := HT3.out
    have HT0 := hide HT3'.1
    have HC0 := hide HT3'.2
    clear HT3 HT3'
    go_wp2_with fail
    go_loopw [38, 5] (fun i sv wr => ∃ (k : Nat) (sb mb : Nat) (fs : List MF) (R : RS), k ≤ os.length ∧ i = .int .i64 (k : Int) ∧ sv = .pointer (some ⟨sb, 0, none⟩) ∧ Hid (Two wr sb mb rb fs (runC r0 (os.take k)) R k B) ∧ Hid (R.core = runC r0 (os.take k)) ∧ Hid (Below B W wr) ∧ B ≤ wr.heap.size) (fun i _ _ => os.length - (intOf i).toNat)
    case atStart => exact ⟨0, sb, mb, [], R0, Nat.zero_le _, rfl, rfl, HT0, HC0, HB3, Z3⟩
    case round =>
      clear HT0 HC0 HB3 Z3
      obtain ⟨k, sb, mb, fs, R, hk, rfl, rfl, HT, HC, HB, ZB⟩ := hrel
      by_cases hlt : k < os.length
      · have hF := H1.out.below HB.out
        obtain ⟨_, _, he, _, _, h3⟩ := hF.form
        simp only [Value.slice.injEq, true_and] at he
        obtain ⟨rfl, rfl⟩ := he
        obtain ⟨g, o, rfl, hg, hc⟩ := h3 k hlt
        obtain ⟨x, hx⟩ : ∃ x, os[k]! = x := ⟨_, rfl⟩
        have hxm : x ∈ os := by rw [← hx, getElem!_pos os k hlt]; exact List.getElem_mem _
        have hok : x.ok wr B := hF.ok x hxm
        have HTK : Hid (os.take (k + 1) = os.take k ++ [x]) := by
          refine hide ?_
          rw [List.take_succ_eq_append_getElem hlt, ← hx, getElem!_pos os k hlt]
        rw [hx] at hc
        have d0 : wr.cell? ⟨g, o + k * 6, none⟩ = some (.int .i64 x.d) := hc 0 (by omega)
        have d1 : wr.cell? ⟨g, o + k * 6 + 1, none⟩ = some (.string x.s) := hc 1 (by omega)
        have d2 : wr.cell? ⟨g, o + k * 6 + 2, none⟩ = some (.string x.t) := hc 2 (by omega)
        have d3 : wr.cell? ⟨g, o + k * 6 + 3, none⟩ = some (.int .i64 x.k) := hc 3 (by omega)
        have d4 : wr.cell? ⟨g, o + k * 6 + 4, none⟩ = some (.int .i64 x.m) := hc 4 (by omega)
        have d5 : wr.cell? ⟨g, o + k * 6 + 5, none⟩ = some (.slice x.bp x.b.length x.bc) := hc 5 (by omega)
        obtain ⟨r, hr⟩ : ∃ r, r = runC r0 (os.take k) := ⟨_, rfl⟩
        rw [← hr] at HT HC
        have HNX : Hid (runC r0 (os.take (k + 1)) = x.step r) := by
          rw [HTK.out, runC_snoc, ← hr]
          exact hide rfl
        have hb1 := alloc_below wr (.cells #[.int .i64 x.d, .string x.s, .string x.t, .int .i64 x.k, .int .i64 x.m, .slice x.bp x.b.length x.bc] 33 (0, 0))
        clear hF h3 hc hx hr hxm HTK
        obtain ⟨wx, hwx⟩ : ∃ wx, wx = wr.alloc (.cells #[.int .i64 x.d, .string x.s, .string x.t, .int .i64 x.k, .int .i64 x.m, .slice x.bp x.b.length x.bc] 33 (0, 0)) := ⟨_, rfl⟩
        rw [← hwx] at hb1
        have hbx : wx.heap[wr.heap.size]? = some (.cells #[.int .i64 x.d, .string x.s, .string x.t, .int .i64 x.k, .int .i64 x.m, .slice x.bp x.b.length x.bc] 33 (0, 0)) := by rw [hwx]; exact heap_alloc_new _ _
        obtain ⟨xB, hxB⟩ : ∃ xB, wr.heap.size = xB := ⟨_, rfl⟩
        rw [hxB] at hbx
        have HTx := hide (HT.out.fresh hb1)
        have HBx : Hid (Below B W wx) := hide (HB.out.trans (hb1.mono ZB))
        have ZX : B ≤ wx.heap.size := Nat.le_trans ZB hb1.size
        have HOX : Hid (x.ok wx B) := hide (hok.below (hb1.mono ZB))
        have hpl := HT.out.prg.plen
        have hxo : ¬ (own sb mb fs xB ∨ rown rb R xB) := fun hf => by
          rcases hf with e | e
          · have := HT.out.prg.own_lt e; omega
          · have := HT.out.ref.rown_lt e; omega
        have HDO := hide (does_any HTx.out HC.out ZX (by omega) HOX.out)
        have y0 : wx.cell? ⟨xB, 0, none⟩ = some (.int .i64 x.d) := by simp [World.cell?, hbx]
        have y1 : wx.cell? ⟨xB, 1, none⟩ = some (.string x.s) := by simp [World.cell?, hbx]
        have y2 : wx.cell? ⟨xB, 2, none⟩ = some (.string x.t) := by simp [World.cell?, hbx]
        have y3 : wx.cell? ⟨xB, 3, none⟩ = some (.int .i64 x.k) := by simp [World.cell?, hbx]
        have y4 : wx.cell? ⟨xB, 4, none⟩ = some (.int .i64 x.m) := by simp [World.cell?, hbx]
        have y5 : wx.cell? ⟨xB, 5, none⟩ = some (.slice x.bp x.b.length x.bc) := by simp [World.cell?, hbx]
        have HBOX := hide hbx
        have HWX := hide hwx
        clear hb1 HT HB hbx hok
        go_upto_region 12 with fail
        rw [← HWX.out]
        clear HWX hwx hxB d0 d1 d2 d3 d4 d5
        go_wp2_with fail
        refine HDO.out.mono ?_
        rintro _ w7 ⟨rfl, fs7, R7, t7, e7, b7, tu7⟩
        have hbx7 := tu7.only.obj HBOX.out hxo
        have y0' : w7.cell? ⟨xB, 0, none⟩ = some (.int .i64 x.d) := by simp [World.cell?, hbx7]
        have y1' : w7.cell? ⟨xB, 1, none⟩ = some (.string x.s) := by simp [World.cell?, hbx7]
        have y2' : w7.cell? ⟨xB, 2, none⟩ = some (.string x.t) := by simp [World.cell?, hbx7]
        have y3' : w7.cell? ⟨xB, 3, none⟩ = some (.int .i64 x.k) := by simp [World.cell?, hbx7]
        have y4' : w7.cell? ⟨xB, 4, none⟩ = some (.int .i64 x.m) := by simp [World.cell?, hbx7]
        have y5' : w7.cell? ⟨xB, 5, none⟩ = some (.slice x.bp x.b.length x.bc) := by simp [World.cell?, hbx7]
        have Z7 : B ≤ w7.heap.size := Nat.le_trans ZX tu7.only.size
        have HB7 : Hid (Below B W w7) := hide (HBx.out.trans b7)
        have HO7 : Hid (x.ok w7 B) := hide (HOX.out.below b7)
        have hpl7 := t7.prg.plen
        have HGD7 : Hid (Good R7) := hide (Prg.good (N := k + 1) (by rw [e7]; exact t7.prg) (by rw [e7]; omega))
        have HSM := hide (same_any t7.prg t7.ref e7 HGD7.out HO7.out)
        have HT7 := hide t7
        have HE7 := hide e7
        have HBX7 := hide hbx7
        clear t7 e7 b7 tu7 hbx7 HDO HBOX HOX HBx HTx y0 y1 y2 y3 y4 y5 hxo
        go_wp2_with fail
        refine HSM.out.mono ?_
        rintro _ w8 ⟨rfl, b8⟩
        have hbx8 := below_box b8 HBX7.out
        have y0 : w8.cell? ⟨xB, 0, none⟩ = some (.int .i64 x.d) := by simp [World.cell?, hbx8]
        have HT8 := hide (HT7.out.fresh b8)
        have HB8 : Hid (Below B W w8) := hide (HB7.out.trans (b8.mono Z7))
        have Z8 : B ≤ w8.heap.size := Nat.le_trans Z7 b8.size
        have HBX8 := hide hbx8
        have hls := HO7.out.ls
        clear b8 hbx8 HSM HT7 HB7 HO7 HBX7 y0' y1' y2' y3' y4' y5' HGD7
        by_cases h8 : x.d = 8
        · have e8 : (x.d == 8) = true := by simp [h8]
          have hnx : ¬ own sb mb fs7 xB := by
            have hrow : w8.ownsRow 0 33 6 (.slice (some ⟨xB, 0, none⟩) 1 1) 1 [.int .i64 x.d, .string x.s, .string x.t, .int .i64 x.k, .int .i64 x.m, .slice x.bp x.b.length x.bc] := ⟨rfl, .inr ⟨xB, 1, _, rfl, Nat.zero_le _, HBX8.out, Nat.le_refl _, by unfold maxLen; omega, rfl, rfl⟩⟩
            exact HT8.out.prg.off hrow (by decide) (by decide) (by decide) (by decide) xB rfl
          have hx8 : xB < w8.heap.size := (Array.getElem?_eq_some_iff.1 HBX8.out).1
          have HPC := hide (pclone HT8.out.prg (by omega))
          clear h8
          go_wp2_with fail
          refine HPC.out.mono ?_
          rintro _ w9 ⟨cb, nm, gs, rfl, p9, o9, c9, b9⟩
          have HP9 := hide p9
          have HO9 := hide o9
          have HC9 := hide c9
          have HB9 := hide b9
          have hbx9 := below_box b9 HBX8.out
          have q9 := (HT8.out.fresh b9).prg
          have HCR := hide (pcreate q9 (s := ⟨#[111, 116, 104, 101, 114]⟩) (by unfold maxLen; decide))
          have HBX9 := hide hbx9
          clear p9 o9 c9 b9 hbx9 q9 HPC HBX8 y0
          go_wp2_with fail
          refine HCR.out.mono ?_
          rintro _ w10 ⟨rfl, fs10, p10, s10⟩
          have hbx10 := s10.only.obj HBX9.out hnx
          have hnx10 : ¬ own sb mb fs10 xB := fun e => by
            rcases s10.own xB e with h | h
            · exact hnx h
            · have := HB9.out.size; omega
          have z1 : w10.cell? ⟨xB, 1, none⟩ = some (.string x.s) := by simp [World.cell?, hbx10]
          have hba := alloc_below w10 (.cells #[.int .u8 9] 5 (0, 0))
          have pA : Prg (w10.alloc (.cells #[.int .u8 9] 5 (0, 0))) sb mb fs10 ((x.step r).create [111, 116, 104, 101, 114]) (k + 1) := p10.only (Only.fresh hba fun _ => False) (fun _ _ e => e) (fun _ _ e => e)
          have hplA := pA.plen
          have HWR := hide (pwrite pA (by omega) (by omega) hls (k := 0) (one_row .u8 w10 9 5) (fun _ i hi ho => by
            have := p10.own_lt ho
            simp [Value.ownBlock] at hi
            omega) (fun y hy => by simp at hy; subst hy; decide))
          have HBA : Hid ((w10.alloc (.cells #[.int .u8 9] 5 (0, 0))).heap[xB]? = some (.cells #[.int .i64 x.d, .string x.s, .string x.t, .int .i64 x.k, .int .i64 x.m, .slice x.bp x.b.length x.bc] 33 (0, 0))) := hide (below_box hba hbx10)
          have HS10 := hide (s10.trans (Step.fresh hba))
          have hlx : xB < w10.heap.size := (Array.getElem?_eq_some_iff.1 hbx10).1
          clear p10 s10 pA hba hbx10 HCR HBX9
          go_wp2_with fail
          refine HWR.out.mono ?_
          rintro _ w11 ⟨rfl, fs11, p11, s11⟩
          have hbx11 := s11.only.obj HBA.out hnx10
          have z2 : w11.cell? ⟨xB, 1, none⟩ = some (.string x.s) := by simp [World.cell?, hbx11]
          have HRM := hide (premove p11 (by omega) hls)
          have HS11 := hide (HS10.out.trans s11)
          clear p11 s11 hbx11 HWR HBA HS10 z1
          go_wp2_with fail
          refine HRM.out.mono ?_
          rintro _ w12 ⟨rfl, fs12, p12, s12⟩
          have hst := HS11.out.trans s12
          have HT12 := hide (HT8.out.cloned Z8 HP9.out HO9.out HC9.out HB9.out hst)
          have Z9 : B ≤ w9.heap.size := Nat.le_trans Z8 HB9.out.size
          have HB12 : Hid (Below B W w12) := hide ((HB8.out.trans (HB9.out.mono Z8)).trans (hst.only.below Z9 HT8.out.base))
          have Z12 : B ≤ w12.heap.size := Nat.le_trans Z9 hst.only.size
          clear p12 s12 hst HRM HS11 HP9 HO9 HC9 HB9 HT8 HB8 z2
          go_wp2
          refine ⟨⟨k + 1, cb, nm, gs, R7, by omega, by go_num, rfl, ?_, ?_, HB12, Z12⟩, by simp [intOf]; omega⟩
          · rw [HNX.out]; exact HT12
          · rw [HNX.out]; exact HE7
        · have e8 : (x.d == 8) = false := by simpa using h8
          clear h8
          go_wp2
          refine ⟨⟨k + 1, sb, mb, fs7, R7, by omega, by go_num, rfl, ?_, ?_, HB8, Z8⟩, by simp [intOf]; omega⟩
          · rw [HNX.out]; exact HT8
          · rw [HNX.out]; exact HE7
      · obtain rfl : k = os.length := by omega
        have hpl := HT.out.prg.plen
        have HGD : Hid (Good R) := hide (Prg.good (N := os.length) (by rw [HC.out]; exact HT.out.prg) (by rw [HC.out]; omega))
        have HSM := hide (same_any (o := ⟨0, ⟨#[97]⟩, ⟨#[]⟩, 0, 0, none, 0, []⟩) (B := B) HT.out.prg HT.out.ref HC.out HGD.out ⟨by unfold maxLen; decide, by unfold maxLen; decide, by decide, by decide, by decide, by decide, Row.nil _ _, fun h => absurd rfl h, fun y hy => by simp at hy⟩)
        go_wp2_with fail
        refine HSM.out.mono ?_
        rintro _ w9 ⟨rfl, b9⟩
        have HB9 : Hid (Below B W w9) := hide (HB.out.trans (b9.mono ZB))
        clear b9 HSM HT HB
        go_wp2
        go_ret
        exact ⟨rfl, HB9.out⟩
end Go.Proofs.YtikpckmlnhcddaaGreat

/-
  StoreDoes: whatever is done to a store of any room: each answer, all files, and what is sure of them: for every input. No conditions.
-/
namespace Go.Proofs.YtikpckmlnhcddaaGreat.storeDoes
open Go.ChangeShapes Go.WideShapes Go.ChangeAt Go.RowKit

theorem Tryz.bytesOp : Tryz.prog.bytesOf 33 = 80 := by kernel_rfl

theorem ops_len {H : Type} {d : DataW H} {n : Nat} (h : (DataW.weights Tryz.prog 22 d).all (· ≤ reachBytes) = true) (hd : d = .nil ∧ n = 0 ∨ ∃ elems spare, d = .slice elems spare ∧ elems.length = n) : n * 80 ≤ 140737488355328 := by
  rcases hd with ⟨_, rfl⟩ | ⟨elems, spare, rfl, rfl⟩
  · omega
  · simp only [DataW.weights, Tryz.underlying22, Tryz.bytesOp, List.all_cons, Bool.and_eq_true, decide_eq_true_eq] at h
    have h1 := h.1
    unfold reachBytes at h1
    have h2 : elems.length * 80 ≤ (elems.length + spare.length) * 80 := Nat.mul_le_mul_right _ (by omega)
    omega

set_option maxRecDepth 100000 in
theorem contract (H : Type) (enc : TypeId × Value → H) (W : World) (base : Nat) (args : Array Value) (ds gs : List (DataW H)) (before : List MemPlace)
    (hval : ∀ (j : Nat) t v, Tryz.f3.params[j]? = some t → args[j]? = some v → Value.okWide Tryz.prog W .any base t v)
    (hW : DataW.Whole enc Tryz.prog Tryz.f3.params.toList Rows.storeDoesSpec.vars false W args.toList ds gs before)
    (hsz0 : (DataW.weightsEach Tryz.prog (Tryz.f3.params.toList ++ Rows.storeDoesSpec.plain.varTypes Tryz.prog) (ds ++ gs)).all (· ≤ reachBytes) = true) :
    Calls Tryz.prog 3 args W fun e W' => ∃ v, e = .returned v ∧ Rows.storeDoesSpec.post enc Tryz.prog Tryz.f3 false true false false W args v W' := by
  have hW' := hW
  obtain ⟨p, q, hA0, hV, rfl, hfz, hnd⟩ := hW
  have hA : DataW.TrodAll enc Tryz.prog W 0 (fun _ => true) true Tryz.f3.params.toList args.toList ds p := hA0
  rw [Tryz.params3] at hA hval hsz0
  obtain ⟨v0, vs0, d0, ds0, p0, q0, hargs, rfl, rfl, h0, r0⟩ := trodAll_cons hA
  obtain ⟨v1, vs1, d1, ds1, p1, q1, rfl, rfl, rfl, h1, r1⟩ := trodAll_cons r0
  obtain ⟨rfl, rfl, rfl⟩ := trodAll_nil r1
  obtain rfl : args = #[v0, v1] := by cases args; simp_all
  obtain ⟨rfl, rfl⟩ := trodVars_none hV
  obtain ⟨n0, rfl, rfl, rfl, wi0⟩ := open_int Tryz.underlying3 (hval 0 3 v0 rfl rfl) h0
  obtain ⟨a1, len1, cap1, rfl⟩ := okWide_slice Tryz.underlying22 (hval 1 22 v1 rfl rfl)
  have k1 := h1
  have lt1 : ∀ x ∈ p1, x.block < W.heap.size := by obtain ⟨m, hm⟩ := k1; exact DataW.trod_lt m _ _ _ hm
  obtain ⟨f1, hf1⟩ := h1
  have hcc : (Value.slice a1 len1 cap1).cells.toList = [.slice a1 len1 cap1] := by simp [Value.cells]
  rw [hcc] at hf1
  obtain ⟨os, O1, D1⟩ := arg_ops hf1
  have hsz1 : (DataW.weights Tryz.prog 22 d1).all (· ≤ reachBytes) = true := by
    have h9 := hsz0
    simp only [List.cons_append, DataW.weightsEach, List.all_append, Bool.and_eq_true] at h9
    exact h9.2.1
  have L1 := ops_len hsz1 D1
  clear hA0
  refine (does_walk (room := n0) O1 L1).mono fun e W' ⟨he, bel⟩ => ?_
  subst he
  exact ⟨_, rfl, _, _, _, [], _, [], hW', trodAll_mk1 (shut_bool Tryz.underlying4 _), (trodAll_cons_mk (shut_int Tryz.underlying3 wi0) (trodAll_cons_mk (Below.trod Tryz.laidOut (by kernel_rfl) (of_decide_eq_true (by kernel_rfl)) k1 bel lt1) trodAll_mk0)), rfl, bel.frame _, fun h => by cases h⟩

set_option maxRecDepth 100000 in
theorem lifted (os : Os) (started : os.Started) (H : Type) (enc : TypeId × Value → H) :
    ReturnsInHanded {} Tryz.checked os 3 .any (Rows.storeDoesSpec.pre6 enc Tryz.prog Tryz.f3 Rows.storeDoesRow.domain false) (Rows.storeDoesSpec.post enc Tryz.prog Tryz.f3 false true false false) := by
  refine returnsInHanded_of_change_sized (C := Tryz.checked) Tryz.ownK started (by kernel_rfl) Tryz.func3
    (ChangeSpec.witness6 (enc := enc) (C := Tryz.checked) false ⟨#[], #[.int .i64 0, .slice none 0 0], []⟩ 8 (by kernel_rfl) (by kernel_rfl) (by kernel_rfl) (by kernel_rfl)) ?_
  intro W base args ds gs before hval hW _ hsz _
  exact contract H enc W base args ds gs before hval hW hsz

set_option maxRecDepth 100000 in
theorem proved : Rows.StoreDoesSaid :=
  OpenClaim.holds_of_wide 3 Tryz.f3 rfl rfl rfl rfl rfl rfl rfl ⟨rfl, rfl, rfl, rfl, rfl⟩ rfl rfl rfl rfl rfl (by kernel_rfl) Tryz.func3 (by kernel_rfl)
    (of_decide_eq_true (by kernel_rfl)) (by unfold Func.isWrapper; first | (rw [if_pos (by decide +kernel)]; kernel_rfl) | (rw [if_neg (by decide +kernel)]; exact ⟨rfl, rfl⟩))
    (fun os started H enc _ => lifted os started H enc)

end Go.Proofs.YtikpckmlnhcddaaGreat.storeDoes
