/-
  StoreSure, walked: for any operations, and what is kept and torn. The conditions: lengths; what is handed in lies as arguments do.
-/
import Derived.Test.YtikpckmlnhcddaaGreatCvd
import Derived.Test.YtikpckmlnhcddaaGreatLvs
namespace Go.Proofs.YtikpckmlnhcddaaGreat
open Go.RowKit Go.Maps

theorem build_len (os : List OpV) : ∀ (r : RC), (buildC r os).P.length ≤ r.P.length + os.length := by
  induction os with
  | nil => intro r; exact Nat.le_refl _
  | cons o os ih =>
    intro r
    show (buildC (if o.builds then o.step r else r) os).P.length ≤ _
    refine Nat.le_trans (ih _) ?_
    have : (if o.builds then o.step r else r).P.length ≤ r.P.length + 1 := by
      split
      · unfold OpV.step stepC
        split
        · unfold RC.create; split <;> simp
        split
        · unfold RC.write; split <;> simp
        split
        · unfold RC.cut
          split
          · exact Nat.le_succ_of_le (List.length_filter_le _ _)
          · omega
        split
        · unfold RC.sync
          split
          · exact Nat.le_succ_of_le (List.length_filter_le _ _)
          · omega
        split
        · unfold RC.rename
          split
          · simp only [List.length_map]
            exact Nat.le_succ_of_le (List.length_filter_le _ _)
          · omega
        split
        · unfold RC.remove
          split
          · exact Nat.le_succ_of_le (List.length_filter_le _ _)
          · omega
        split
        · unfold RC.crash; split <;> simp
        split
        · unfold RC.start; split <;> simp
        · omega
      · omega
    simp only [List.length_cons]
    omega
theorem before_irrefl : ∀ l : List UInt8, bytesBefore l l = false
  | [] => rfl
  | a :: r => by simp [bytesBefore, before_irrefl r]
theorem Prg.nodup {W : World} {sb mb N : Nat} {fs : List MF} {r : RC} (h : Prg W sb mb fs r N) : (r.L.map CF.name).Nodup := by
  obtain ⟨J, left, pend, turn, _, h2⟩ := h
  rw [h2.names]
  unfold List.Nodup
  rw [List.pairwise_map]
  refine h2.sorted.imp ?_
  intro a b hab e
  unfold Bef at hab
  rw [e] at hab
  rw [before_irrefl] at hab
  exact absurd hab (by decide)
theorem row_cell {k : IntKind} {W : World} {p : Option Addr} {n cap : Nat} {l : List Int} (h : Row k W (.slice p n cap) l) {i : Nat} (hi : i < l.length) : ∃ g o, p = some ⟨g, o, none⟩ ∧ W.cell? ⟨g, o + i, none⟩ = some (.int k (l.getD i 0)) := by
  obtain ⟨p', cap', he, _, _, _, h4⟩ := h
  simp only [Value.slice.injEq] at he
  obtain ⟨rfl, _, _⟩ := he
  obtain ⟨g, o, rfl, hc⟩ := h4 (by omega)
  exact ⟨g, o, rfl, hc i hi⟩

set_option maxRecDepth 100000 in
set_option maxHeartbeats 8000000 in
theorem sure_walk {W : World} {v1 : Value} {os : List OpV} {keep torn : Int} (h1 : Ops W W.heap.size v1 os) (hk0 : -9223372036854775808 ≤ keep) (hk1 : keep ≤ 9223372036854775807) (ht0 : -9223372036854775808 ≤ torn) (ht1 : torn ≤ 9223372036854775807) (hl1 : os.length * 80 ≤ 140737488355328) :
    Calls Tryz.prog 4 #[v1, .int .i64 keep, .int .i64 torn] W fun e w' => e = .returned (.bool true) ∧ Below W.heap.size W w' := by
  obtain ⟨p1, cap1, rfl, a1, a2, _⟩ := id h1.form
  obtain ⟨B, hB⟩ : ∃ B, W.heap.size = B := ⟨_, rfl⟩
  have HLV := hide (live_any W)
  rw [hB] at h1 HLV ⊢
  have H1 := hide h1
  clear h1
  go_enter Tryz.func4, Tryz.ntmps4
  go_wp2_with fail
  refine HLV.out.mono ?_
  rintro _ w1 ⟨rfl, b1⟩
  have HB1 := hide b1
  have Z1 : B ≤ w1.heap.size := by rw [← hB]; exact b1.size
  clear b1 HLV hB
  have HBu := hide (built_any (room := 1024) (H1.out.below HB1.out) Z1 (by omega) (by omega))
  go_wp2_with fail
  refine HBu.out.mono ?_
  rintro _ w2 ⟨sb, mb, rb, fs, R, rfl, t2, e2, b2⟩
  obtain ⟨r0, hr0⟩ : ∃ r0, r0 = buildC ⟨[], [], 1024, false⟩ os := ⟨_, rfl⟩
  rw [← hr0] at t2 e2
  have hd0 : r0.down = false := by rw [hr0, build_down]
  have hP0 : r0.P.length ≤ 2199023255552 := by
    have := build_len os ⟨[], [], 1024, false⟩
    rw [← hr0] at this
    simp at this
    omega
  have t2 : Two w2 sb mb rb fs r0 R os.length B := { t2 with base := fun i hi => Nat.le_trans Z1 (t2.base i hi), rbase := fun i hi => Nat.le_trans Z1 (t2.rbase i hi), cbase := fun i hi => Nat.le_trans Z1 (t2.cbase i hi) }
  have HT2 := hide t2
  have HRC := hide e2
  have HB2 : Hid (Below B W w2) := hide (HB1.out.trans (b2.mono Z1))
  have Z2 : B ≤ w2.heap.size := Nat.le_trans Z1 b2.size
  obtain ⟨ns, hns⟩ : ∃ ns, ns = r0.L.map CF.name := ⟨_, rfl⟩
  have hcnt := t2.prg.count
  rw [← hns] at hcnt
  have HNS := hide hns
  have HLN : Hid (∀ n ∈ ns, n.length ≤ maxLen) := hide (fun n hn => t2.prg.nameLen (by rw [← hns]; exact hn))
  have HND : Hid ns.Nodup := hide (by rw [hns]; exact t2.prg.nodup)
  have HEND := hide t2.prg.ends
  clear t2 e2 b2 HBu HB1 Z1 hr0 hns H1
  have hmm := @run_makeMap Tryz.prog
  go_wp2_with fail
  clear hmm
  obtain ⟨w3, hw3⟩ : ∃ w3, w3 = w2.alloc (.map #[] 0) := ⟨_, rfl⟩
  rw [← hw3]
  have hb3 : Below w2.heap.size w2 w3 := by rw [hw3]; exact alloc_below _ _
  have HH3 : Hid (Had w3 w2.heap.size w2.heap.size (base r0.L) []) := by
    refine hide ⟨?_, by simp, Nat.le_refl _, by simp⟩
    rw [hw3]
    exact World.ownsMap_made _ _ _ _
  have HNM := hide (lnames_any (HT2.out.fresh hb3).prg)
  rw [← HNS.out] at HNM
  have HB3 := hide hb3
  clear hw3 hb3
  obtain ⟨S, hS⟩ : ∃ S, w2.heap.size = S := ⟨_, rfl⟩
  rw [hS] at HH3 HB3 ⊢
  go_wp2_with fail
  refine HNM.out.mono ?_
  rintro _ w4 ⟨np, nc, rfl, o4, b4⟩
  obtain ⟨_, _, he4, hq1, hq2⟩ := own_form o4
  simp only [Value.slice.injEq, true_and] at he4
  obtain ⟨rfl, rfl⟩ := he4
  have hlt3 := HH3.out.map.lt
  have HNB : Hid (∀ i, (Value.slice np ns.length nc).ownBlock = some i → S < i) := hide (fun i hi => Nat.lt_of_lt_of_le hlt3 (own_block_base o4 hi))
  have HR4 := hide (own_base5 (base' := 0) o4 (Nat.zero_le _))
  have HH4 := hide (HH3.out.fresh b4)
  have HB4 : Hid (Below S w2 w4) := hide (HB3.out.trans (b4.mono (by omega)))
  clear o4 b4 HNM HH3 HB3 hlt3
  go_wp2_with fail
  go_loopw [31] (fun i wr => ∃ (k : Nat) (xs : List (Nm × Value)), k ≤ ns.length ∧ i = .int .i64 (k : Int) ∧ Hid (Had wr S S (base r0.L) xs) ∧ Hid (xs.map (·.1) = ns.take k) ∧ Hid (wr.ownsRow 0 9 1 (.slice np ns.length nc) ns.length (ns.map strV)) ∧ Hid (Below S w2 wr)) (fun i _ => ns.length - (intOf i).toNat)
  case atStart => exact ⟨0, [], Nat.zero_le _, rfl, HH4, hide (by simp), HR4, HB4⟩
  case round =>
    clear HH4 HR4 HB4
    obtain ⟨k, xs, hk', rfl, HH, HX, HR, HB⟩ := hrel
    by_cases hlt : k < ns.length
    · obtain ⟨g, rfl, d0⟩ := str_cells HR.out rfl hlt
      obtain ⟨nm, hnm⟩ : ∃ nm, ns[k]! = nm := ⟨_, rfl⟩
      rw [hnm] at d0
      unfold strV at d0
      have hmem : nm ∈ ns := by rw [← hnm, getElem!_pos ns k hlt]; exact List.getElem_mem _
      have hnl : (⟨nm.toArray⟩ : ByteArray).size ≤ maxLen := by
        have := HLN.out nm hmem
        simpa [ByteArray.size] using this
      have HTK : Hid (ns.take (k + 1) = ns.take k ++ [nm]) := by
        refine hide ?_
        rw [List.take_succ_eq_append_getElem hlt, ← hnm, getElem!_pos ns k hlt]
      have HNO : Hid (∀ x ∈ xs, x.1 ≠ nm) := by
        refine hide (fun x hx e => ?_)
        have h1 : x.1 ∈ ns.take k := by rw [← HX.out]; exact List.mem_map.2 ⟨x, hx, rfl⟩
        have h2 := HND.out
        rw [← List.take_append_drop k ns, List.nodup_append] at h2
        refine h2.2.2 _ h1 nm ?_ e
        rw [← hnm, getElem!_pos ns k hlt, List.drop_eq_getElem_cons hlt]
        exact List.mem_cons_self
      obtain ⟨c, hc⟩ : ∃ c, base r0.L nm = c := ⟨_, rfl⟩
      obtain ⟨L, hL⟩ : ∃ L, c.length = L := ⟨_, rfl⟩
      have hBf : Below w2.heap.size w2 wr := by rw [hS]; exact HB.out
      have HSU := hide (psure (s := ⟨nm.toArray⟩) (HT2.out.fresh hBf).prg hd0 hP0 (by rw [← HNS.out]; simpa using hmem) (c := c) (by simpa using hc) hL)
      have HCC := hide hc
      have HLL := hide hL
      clear hnm hmem hc hL hBf
      go_wp2_with fail
      refine HSU.out.mono ?_
      rintro _ w5 ⟨p5, c5, rfl, o5, b5⟩
      have hH5 := HH.out.fresh b5
      obtain ⟨w6, hst, hm6, hg6⟩ := hH5.map.update strKey Tryz.undHad (val := .slice p5 L c5) (by have := congrArg List.length HX.out; simp at this; unfold maxLen; omega) (keyStr hnl) (rfl : anyElem (.slice p5 L c5) = some (.held (.slice p5 L c5), []))
      have hO6 : Only (· = S) w5 w6 := Only.of_grown hg6 (fun k e => by simpa using e.symm)
      have HH6 : Hid (Had w6 S S (base r0.L) (xs ++ [(nm, .slice p5 L c5)])) := by
        refine hide (HH.out.put b5 HNO.out ?_ hm6 hg6)
        rw [HCC.out, HLL.out]
        exact o5
      have HR6 : Hid (w6.ownsRow 0 9 1 (.slice (some ⟨g, 0, none⟩) ns.length nc) ns.length (ns.map strV)) := hide (ownsRow_only (ownsRow_later HR.out b5) hO6 (fun i hi e => by have := HNB.out i hi; have e' : i = S := e; omega))
      have hsz : S ≤ wr.heap.size := by rw [← hS]; exact HB.out.size
      have HB6 : Hid (Below S w2 w6) := hide ((HB.out.trans (b5.mono hsz)).trans (hO6.below (Nat.le_trans hsz b5.size) (fun i e => by have e' : i = S := e; omega)))
      clear o5 b5 hH5 hm6 hg6 hO6 HSU HH HR HB d0 HNO hsz
      go_wp2
      refine ⟨⟨k + 1, xs ++ [(nm, .slice p5 L c5)], by omega, by go_num, HH6, hide ?_, HR6, HB6⟩, by simp [intOf]; omega⟩
      rw [List.map_append, HX.out, HTK.out]
      rfl
    · obtain rfl : k = ns.length := by omega
      rw [List.take_length] at HX
      clear HR HNB hlt
      have hBf : Below w2.heap.size w2 wr := by rw [hS]; exact HB.out
      have HTw := hide (HT2.out.fresh hBf)
      have HCR := hide (pcrash HTw.out.prg hP0 (keep := keep) (torn := torn) hk0 hk1 ht0 ht1)
      obtain ⟨u1, u2, u3⟩ := crash_up hd0 (k := keep) (torn := torn)
      rw [u1] at HCR
      have HOW : Hid (∀ i, own sb mb fs i → i < S) := hide (fun i hi => by rw [← hS]; exact HT2.out.prg.own_lt hi)
      have HBw : Hid (Below B W wr) := hide (HB2.out.trans (hBf.mono Z2))
      have Zw : B ≤ wr.heap.size := Nat.le_trans Z2 hBf.size
      have ZS : S ≤ wr.heap.size := by rw [← hS]; exact hBf.size
      clear hBf HB HT2 HB2 Z2 hS
      go_wp2_with fail
      refine HCR.out.mono ?_
      rintro _ w5 ⟨rfl, fs5, p5, s5⟩
      have HS5 := hide s5
      have HT5 := hide (HTw.out.prog Zw p5 s5)
      have Z5 : B ≤ w5.heap.size := Nat.le_trans Zw s5.only.size
      have HB5 : Hid (Below B W w5) := hide (HBw.out.trans (s5.only.below Zw HTw.out.base))
      have HST := hide (pstart p5)
      rw [u2] at HST
      clear p5 s5 HCR HTw HBw Zw
      go_wp2_with fail
      refine HST.out.mono ?_
      rintro _ w6 ⟨rfl, fs6, p6, s6⟩
      obtain ⟨rF, hrF⟩ : ∃ rF, rF = (r0.crash keep torn).start := ⟨_, rfl⟩
      have t6 := HT5.out.prog Z5 p6 s6
      rw [← hrF] at t6
      have hFD : rF.down = false := by rw [hrF]; exact u3
      have hFP : rF.P = [] := by rw [hrF]; exact crash_P hd0
      have HFN : Hid (rF.L.map CF.name = ns) := by rw [hrF, crash_names, ← HNS.out]; exact hide rfl
      have HLE : Hid (∀ m ∈ ns, Left r0 (base r0.L m) (base rF.L m) m) := hide (fun m hm => by rw [hrF]; exact crash_left hd0 (by rw [← HNS.out]; exact hm))
      have HH6 := hide (HH.out.only (HS5.out.trans s6).only HOW.out)
      have HB6 : Hid (Below B W w6) := hide (HB5.out.trans (s6.only.below Z5 HT5.out.base))
      have Z6 : B ≤ w6.heap.size := Nat.le_trans Z5 s6.only.size
      have HT6 := hide t6
      have HNM := hide (lnames_any t6.prg)
      rw [HFN.out] at HNM
      have hxl : xs.length = ns.length := by have := congrArg List.length HX.out; simpa using this
      clear p6 s6 t6 HS5 HT5 HST HB5 Z5 HH u1 u2 u3 hrF HOW
      go_wp2_with fail
      refine HNM.out.mono ?_
      rintro _ w7 ⟨np7, nc7, rfl, o7, b7⟩
      obtain ⟨_, _, he7, hq7, hq8⟩ := own_form o7
      simp only [Value.slice.injEq, true_and] at he7
      obtain ⟨rfl, rfl⟩ := he7
      have HH7 := hide (HH6.out.fresh b7)
      have HT7 := hide (HT6.out.fresh b7)
      have hlen7 := HH7.out.map.len Tryz.undHad 3
      rw [hadD_size HH7.out.nodup, hxl] at hlen7
      have HB7 : Hid (Below B W w7) := hide (HB6.out.trans (b7.mono Z6))
      have Z7 : B ≤ w7.heap.size := Nat.le_trans Z6 b7.size
      have HPD := hide (ppending HT7.out.prg)
      rw [hFP] at HPD
      have HNM := hide (lnames_any HT7.out.prg)
      rw [HFN.out] at HNM
      clear o7 b7 HT6 HH6 HB6 Z6
      go_wp2_with fail
      refine HPD.out.mono ?_
      rintro _ w7 ⟨rfl, rfl⟩
      go_wp2_with fail
      refine HNM.out.mono ?_
      rintro _ w8 ⟨np8, nc8, rfl, o8, b8⟩
      obtain ⟨_, _, he8, hq9, hq10⟩ := own_form o8
      simp only [Value.slice.injEq, true_and] at he8
      obtain ⟨rfl, rfl⟩ := he8
      have HH8 := hide (HH7.out.fresh b8)
      have HT8 := hide (HT7.out.fresh b8)
      have HR8 := hide (own_base5 (base' := 0) o8 (Nat.zero_le _))
      have HB8 : Hid (Below B W w8) := hide (HB7.out.trans (b8.mono Z7))
      have Z8 : B ≤ w8.heap.size := Nat.le_trans Z7 b8.size
      clear o8 b8 HNM HPD HT7 HH7 HB7 Z7 hlen7
      go_wp2_with fail
      go_loopw [70] (fun i wr => ∃ (k : Nat), k ≤ ns.length ∧ i = .int .i64 (k : Int) ∧ Hid (Below w8.heap.size w8 wr)) (fun i _ => ns.length - (intOf i).toNat)
      case atStart => exact ⟨0, Nat.zero_le _, rfl, hide (Below.refl _ _)⟩
      case round =>
        obtain ⟨k, hk3, rfl, HBk⟩ := hrel
        by_cases hlt4 : k < ns.length
        · have hrw := ownsRow_later HR8.out HBk.out
          obtain ⟨g, rfl, d0⟩ := str_cells hrw rfl hlt4
          obtain ⟨nm, hnm⟩ : ∃ nm, ns[k]! = nm := ⟨_, rfl⟩
          have hmem : nm ∈ ns := by rw [← hnm, getElem!_pos ns k hlt4]; exact List.getElem_mem _
          rw [hnm] at d0
          unfold strV at d0
          have hnl : (⟨nm.toArray⟩ : ByteArray).size ≤ maxLen := by
            have := HLN.out nm hmem
            simpa [ByteArray.size] using this
          obtain ⟨c, hc⟩ : ∃ c, base rF.L nm = c := ⟨_, rfl⟩
          obtain ⟨L, hL⟩ : ∃ L, c.length = L := ⟨_, rfl⟩
          obtain ⟨a, ha⟩ : ∃ a, base r0.L nm = a := ⟨_, rfl⟩
          obtain ⟨A, hA⟩ : ∃ A, a.length = A := ⟨_, rfl⟩
          have hle := HLE.out nm hmem
          rw [hc, ha] at hle
          obtain ⟨v, hxv⟩ : ∃ v, (nm, v) ∈ xs := by
            obtain ⟨⟨y, v⟩, hy, he⟩ : ∃ x ∈ xs, x.1 = nm := List.mem_map.1 (by rw [HX.out]; exact hmem)
            have he' : y = nm := he
            rw [he'] at hy
            exact ⟨v, hy⟩
          obtain ⟨pv, cv, hve, hv1, hv2, _, _⟩ := id (HH8.out.rows _ hxv).1
          simp only at hve
          rw [ha, hA] at hve
          subst hve
          have HHk := hide (HH8.out.fresh HBk.out)
          have HTk := hide (HT8.out.fresh HBk.out)
          have HSU := hide (psure (s := ⟨nm.toArray⟩) HTk.out.prg hFD (by rw [hFP]; simp) (by rw [HFN.out]; simpa using hmem) (c := c) (by simpa using hc) hL)
          have hAL : A ≤ L := by rw [← hA, ← hL]; exact hle.len
          have HLF := hide hle
          have HXV := hide hxv
          have HHA := hide ha
          rw [ha, hA] at hv1
          clear hrw hnm hmem hc hle hxv ha
          go_wp2_with fail
          refine HSU.out.mono ?_
          rintro _ w9 ⟨p9, c9, rfl, o9, b9⟩
          obtain ⟨_, _, he9, hq11, hq12⟩ := own_form o9
          simp only [Value.slice.injEq, true_and] at he9
          obtain ⟨rfl, rfl⟩ := he9
          have HH9 := hide (HHk.out.fresh b9)
          have HT9 := hide (HTk.out.fresh b9)
          have HRa : Hid (Row .u8 w9 (.slice pv A cv) a) := by
            have := (HH9.out.rows _ HXV.out).1
            simp only at this
            rw [HHA.out] at this
            exact hide this
          have HRc : Hid (Row .u8 w9 (.slice p9 L c9) c) := hide (own_row o9)
          have HB9 : Hid (Below w8.heap.size w8 w9) := hide (HBk.out.trans (b9.mono HBk.out.size))
          have hlk := had_look HH9.out.map HH9.out.nodup hnl (v := .slice pv A cv) (by simpa using HXV.out)
          have hLA : decide (L < A) = false := decide_eq_false (by omega)
          clear o9 b9 HSU HTk HHk HBk d0
          go_wp2_with fail
          go_loopw [95] (fun i wq => ∃ (m : Nat), m ≤ A ∧ i = .int .i64 (m : Int) ∧ Hid (Below w9.heap.size w9 wq)) (fun i _ => A - (intOf i).toNat)
          case atStart => exact ⟨0, Nat.zero_le _, rfl, hide (Below.refl _ _)⟩
          case round =>
            obtain ⟨m, hm, rfl, HBm⟩ := hrel
            clear hlk
            by_cases hlt5 : m < A
            · obtain ⟨ga, oa, rfl, ca⟩ := row_cell (HRa.out.below HBm.out) (i := m) (by omega)
              obtain ⟨gc, oc, rfl, cc⟩ := row_cell (HRc.out.below HBm.out) (i := m) (by omega)
              obtain ⟨x, hx⟩ : ∃ x, a.getD m 0 = x := ⟨_, rfl⟩
              obtain ⟨y, hy⟩ : ∃ y, c.getD m 0 = y := ⟨_, rfl⟩
              rw [hx] at ca
              rw [hy] at cc
              by_cases hxy : y = x
              · have e1 : (y != x) = false := by simp [hxy]
                clear hxy hx hy
                go_wp2
                exact ⟨⟨m + 1, by omega, by go_num, HBm⟩, by simp [intOf]; omega⟩
              · have e1 : (y != x) = true := by simpa using hxy
                have hcov : covC R.core.P nm m = true := by
                  cases hcv : covC r0.P nm m with
                  | true => rw [HRC.out]; exact hcv
                  | false =>
                    have := HLF.out.cov m (by omega) hcv
                    refine absurd ?_ hxy
                    rw [← hx, ← hy, List.getD_eq_getElem?_getD, List.getD_eq_getElem?_getD, this]
                have HCV := hide (covered_any (s := ⟨nm.toArray⟩) (i := m) (HT9.out.fresh HBm.out).ref (by rw [HRC.out]; exact HEND.out))
                rw [show (⟨nm.toArray⟩ : ByteArray).data.toList = nm by simp, hcov] at HCV
                clear hxy hx hy hcov
                go_wp2_with fail
                refine HCV.out.mono ?_
                rintro _ wc ⟨rfl, bc⟩
                have HBc : Hid (Below w9.heap.size w9 wc) := hide (HBm.out.trans (bc.mono HBm.out.size))
                clear bc HCV HBm
                go_wp2
                exact ⟨⟨m + 1, by omega, by go_num, HBc⟩, by simp [intOf]; omega⟩
            · obtain rfl : m = A := by omega
              have HPN := hide (lpending_any (s := ⟨nm.toArray⟩) (HT9.out.fresh HBm.out).ref)
              rw [show (⟨nm.toArray⟩ : ByteArray).data.toList = nm by simp, HRC.out] at HPN
              clear hlt5
              go_wp2_with fail
              refine HPN.out.mono ?_
              rintro _ wc ⟨rfl, bc⟩
              have HBc : Hid (Below w8.heap.size w8 wc) := hide (HB9.out.trans ((HBm.out.trans (bc.mono HBm.out.size)).mono HB9.out.size))
              have hlk := had_look (HH9.out.fresh (HBm.out.trans (bc.mono HBm.out.size))).map HH9.out.nodup hnl (v := .slice pv m cv) (by simpa using HXV.out)
              clear bc HPN HBm
              cases hpn : penC r0.P nm with
              | true =>
                go_wp2
                exact ⟨⟨k + 1, by omega, by go_num, HBc⟩, by simp [intOf]; omega⟩
              | false =>
                have hLm : L = m := by rw [← hL, ← hA]; exact HLF.out.pen hpn
                go_wp2
                exact ⟨⟨k + 1, by omega, by go_num, HBc⟩, by simp [intOf]; omega⟩
        · obtain rfl : k = ns.length := by omega
          go_wp2
          go_ret
          exact ⟨rfl, HB8.out.trans (HBk.out.mono Z8)⟩
end Go.Proofs.YtikpckmlnhcddaaGreat
