/-
  From: the program's and the reference's. The conditions: that the events lie there.
-/
import Derived.Test.YtmmdgffgnpnmeaaEdd
namespace Go.Proofs.Ytmmdgffgnpnmeaa
open Go.RowKit Go.Shelf

def putsC (q : QC) : List EV → Int × QC
  | [] => (0, q)
  | e :: es => if q.err e = 0 then putsC (q.put e) es else (q.err e, q)
def fromC (rm : Int) (es : List EV) : Int × QC :=
  if rm < 1 ∨ 64 < rm then (1, ⟨0, [], 0⟩) else if rm < es.length then (3, ⟨0, [], 0⟩) else if ∃ e ∈ es, ¬ fits e then (1, ⟨0, [], 0⟩) else putsC ⟨rm.toNat, [], 0⟩ es
theorem puts_step {q : QC} {es : List EV} {k : Nat} (hk : k < es.length) {x : EV} (hx : es[k]! = x) : (q.err x = 0 → putsC q (es.drop k) = putsC (q.put x) (es.drop (k + 1))) ∧ (q.err x ≠ 0 → putsC q (es.drop k) = (q.err x, q)) := by
  have e1 : es.drop k = x :: es.drop (k + 1) := by
    rw [List.drop_eq_getElem_cons hk, ← hx, getElem!_pos es k hk]
  rw [e1]
  exact ⟨fun h => by simp only [putsC]; rw [if_pos h], fun h => by simp only [putsC]; rw [if_neg h]⟩
/-- What From answers. -/
def FromP (W : World) (f : Int × QC) (e : Ending) (w' : World) : Prop :=
  Below W.heap.size W w' ∧ ((f.1 ≠ 0 ∧ e = .returned (.tuple #[.pointer none, .int .i64 f.1])) ∨ (f.1 = 0 ∧ ∃ b p c, e = .returned (.tuple #[.pointer (some ⟨b, 0, none⟩), .int .i64 0]) ∧ PQ W.heap.size w' b p c f.2 ∧ f.2.ok))
def FromR (W : World) (f : Int × QC) (e : Ending) (w' : World) : Prop :=
  Below W.heap.size W w' ∧ ((f.1 ≠ 0 ∧ e = .returned (.tuple #[.pointer none, .int .i64 f.1])) ∨ (f.1 = 0 ∧ ∃ b p c, e = .returned (.tuple #[.pointer (some ⟨b, 0, none⟩), .int .i64 0]) ∧ RQ W.heap.size w' b p c f.2 ∧ f.2.ok ∧ ∀ a, p = some a → a.block ≠ b ∧ W.heap.size ≤ a.block ∧ a.block < w'.heap.size))
def FrP (W : World) (room : Nat) (es : List EV) (b k : Nat) (wr : World) : Prop := ∃ q p c, PQ W.heap.size wr b p c q ∧ q.ok ∧ putsC ⟨room, [], 0⟩ es = putsC q (es.drop k) ∧ Below W.heap.size W wr
set_option maxRecDepth 100000 in
set_option maxHeartbeats 4000000 in
theorem from_any {W : World} {rm : Int} {lp : Option Addr} {lc n : Nat} {es : List EV} (hrow : ERow W lp lc es) (hn : es.length = n) {f : Int × QC} (hf : fromC rm es = f) :
    Calls Try.prog 17 #[.int .i64 rm, .slice lp n lc] W (FromP W f) := by
  have i1 := hrow.le
  have i2 := hrow.top
  rw [hn] at i1
  have HROW := hide hrow
  have HN := hide hn
  have HFE := hide hf
  clear hrow hn hf
  go_enter Try.func17, Try.ntmps17
  by_cases hbad : rm < 1 ∨ 64 < rm
  · have HF : Hid (fromC rm es = (1, ⟨0, [], 0⟩)) := hide (by unfold fromC; rw [if_pos hbad])
    go_wp2_with fail
    refine (new_bad hbad).mono ?_
    rintro _ w2 ⟨rfl, rfl⟩
    go_wp2
    go_ret2
    rw [show f = _ from HFE.out.symm.trans HF.out]
    exact ⟨Below.refl _ _, .inl ⟨by decide, rfl⟩⟩
  · have HNB := hide hbad
    obtain ⟨room, rfl, hr1, hr2⟩ : ∃ room : Nat, rm = (room : Int) ∧ 1 ≤ room ∧ room ≤ 64 := ⟨rm.toNat, by omega, by omega, by omega⟩
    clear hbad
    go_wp2_with fail
    refine (new_good (by omega) (by omega)).mono ?_
    rintro _ w2 ⟨rfl, hw2⟩
    have Q2 : PQ W.heap.size w2 W.heap.size none 0 ⟨room, [], 0⟩ := by rw [hw2]; exact pq_new W room
    have b2 : Below W.heap.size W w2 := by rw [hw2]; exact alloc_below _ _
    have HQ2 := hide Q2
    have HB2 := hide b2
    obtain ⟨b, hb⟩ : ∃ b, W.heap.size = b := ⟨_, rfl⟩
    have HBE := hide hb
    rw [hb]
    clear hw2 Q2 b2 hb
    by_cases hlong : room < n
    · have HF : Hid (fromC room es = (3, ⟨0, [], 0⟩)) := hide (by unfold fromC; rw [if_neg HNB.out, if_pos (by rw [HN.out]; omega)])
      have q1 : decide ((n : Int) > (room : Int)) = true := decide_eq_true (by omega)
      go_wp2
      go_ret2
      rw [show f = _ from HFE.out.symm.trans HF.out]
      exact ⟨HB2.out, .inl ⟨by decide, rfl⟩⟩
    · have q1 : decide ((n : Int) > (room : Int)) = false := decide_eq_false (by omega)
      have HLO : Hid ((es.length : Int) ≤ room) := hide (by rw [HN.out]; omega)
      go_wp2_with fail
      go_loopw [28] (fun i wr => ∃ k : Nat, k ≤ n ∧ i = .int .i64 (k : Int) ∧ Hid (Below w2.heap.size w2 wr) ∧ Hid (∀ e ∈ es.take k, fits e)) (fun i _ => n - (intOf i).toNat)
      case atStart => exact ⟨0, Nat.zero_le _, rfl, hide (Below.refl _ _), hide (by simp)⟩
      case round =>
        obtain ⟨k, hk, rfl, HB, HFT⟩ := hrel
        have HWR : Hid (Below W.heap.size W wr) := hide (HB2.out.trans (HB.out.mono HB2.out.size))
        by_cases hlt : k < n
        · have hlt2 : k < es.length := by rw [HN.out]; exact hlt
          obtain ⟨x, hx⟩ : ∃ x, es[k]! = x := ⟨_, rfl⟩
          obtain ⟨g, o, rfl, a0, a1, a2, a3⟩ := (HROW.out.later HWR.out).at hlt2 hx
          have HX := hide hx
          have HL2 := hide hlt2
          obtain ⟨kd, ky, vl, id⟩ := x
          simp only at a0 a1 a2 a3
          clear hx hlt2
          go_wp2_with fail
          refine check_any.mono ?_
          rintro _ w4 ⟨rfl, b4⟩
          have HB4 : Hid (Below w2.heap.size w2 w4) := hide ((HB.out.trans ((alloc_below wr _).mono HB.out.size)).trans (b4.mono (Nat.le_trans HB.out.size (alloc_below wr _).size)))
          have HW4 : Hid (Below W.heap.size W w4) := hide (HB2.out.trans (HB4.out.mono HB2.out.size))
          clear b4 a0 a1 a2 a3
          by_cases hf : fits ⟨kd, ky, vl, id⟩
          · have HFT2 : Hid (∀ e ∈ es.take (k + 1), fits e) := by
              refine hide (fun e he => ?_)
              rw [take_snocE HL2.out HX.out, List.mem_append] at he
              rcases he with he | he
              · exact HFT.out e he
              · simp only [List.mem_singleton] at he
                rw [he]; exact hf
            rw [check_yes hf]
            clear hf
            go_wp2
            exact ⟨⟨k + 1, by omega, by first | rfl | go_num, HB4, HFT2⟩, by simp [intOf]; omega⟩
          · have HF : Hid (fromC room es = (1, ⟨0, [], 0⟩)) := by
              refine hide ?_
              unfold fromC
              rw [if_neg HNB.out, if_neg (by have := HLO.out; omega), if_pos ⟨⟨kd, ky, vl, id⟩, by rw [← HX.out, getElem!_pos es k HL2.out]; exact List.getElem_mem _, hf⟩]
            rw [check_no hf]
            clear hf
            go_wp2
            go_ret2
            rw [show f = _ from HFE.out.symm.trans HF.out]
            exact ⟨HW4.out, .inl ⟨by decide, rfl⟩⟩
        · obtain rfl : k = n := by omega
          have HFC : Hid (fromC room es = putsC ⟨room, [], 0⟩ es) := by
            refine hide ?_
            have h1 := HFT.out
            rw [List.take_of_length_le (by rw [HN.out]; exact Nat.le_refl _)] at h1
            unfold fromC
            rw [if_neg HNB.out, if_neg (by have := HLO.out; omega), if_neg (fun ⟨e, he, hf⟩ => hf (h1 e he))]
            rfl
          have HFR : Hid (FrP W room es b 0 wr) := by
            have hb := HBE.out
            have hq := HQ2.out.later HB.out
            rw [hb] at hq
            refine hide ⟨⟨room, [], 0⟩, none, 0, ?_, new_ok hr1 hr2, by simp, HWR.out⟩
            rw [hb]
            exact hq
          clear HB HFT HWR HQ2 HB2 q1
          go_wp2_with fail
          go_loopw [40] (fun i wr => ∃ j : Nat, j ≤ k ∧ i = .int .i64 (j : Int) ∧ Hid (FrP W room es b j wr)) (fun i _ => k - (intOf i).toNat)
          case atStart => exact ⟨0, Nat.zero_le _, rfl, HFR⟩
          case round =>
            obtain ⟨j, hj, rfl, HI⟩ := hrel
            rename World => wq
            clear HFR
            obtain ⟨q, p, c, hq, hok, hpu, hbw⟩ := HI.out
            have HQ := hide hq
            have HOK := hide hok
            have HPU := hide hpu
            have HBW := hide hbw
            
            clear hq hok hpu hbw HI
            by_cases hlt : j < k
            · have hlt2 : j < es.length := by rw [HN.out]; exact hlt
              obtain ⟨x, hx⟩ : ∃ x, es[j]! = x := ⟨_, rfl⟩
              obtain ⟨g, o, rfl, a0, a1, a2, a3⟩ := (HROW.out.later HBW.out).at hlt2 hx
              have HX := hide hx
              have HL2 := hide hlt2
              obtain ⟨kd, ky, vl, id⟩ := x
              simp only at a0 a1 a2 a3
              clear hx hlt2
              go_wp2_with fail
              have HA : Hid (Below wq.heap.size wq (wq.alloc (.cells #[.int .i64 kd, .int .i64 ky, .int .i64 vl, .int .i64 id] 34 (0, 0)))) := hide (alloc_below _ _)
              have HQA := hide (HQ.out.later HA.out)
              have hwq : W.heap.size ≤ wq.heap.size := HBW.out.size
              refine (put_any HQA.out HOK.out ⟨kd, ky, vl, id⟩).mono ?_
              rintro _ w6 ⟨rfl, P6⟩
              have HB6 : Hid (Below W.heap.size W w6) := hide ((HBW.out.trans (HA.out.mono hwq)).trans (P6.below HQA.out))
              obtain ⟨p6, c6, Q6, _⟩ := P6.is
              have HQ6 := hide Q6
              clear P6 Q6 a0 a1 a2 a3 hwq
              by_cases he : q.err ⟨kd, ky, vl, id⟩ = 0
              · have HDN : Hid (FrP W room es b (j + 1) w6) := hide ⟨_, p6, c6, HQ6.out, QC.put_ok HOK.out _, by rw [HPU.out]; exact (puts_step HL2.out HX.out).1 he, HB6.out⟩
                rw [he]
                clear he
                go_wp2
                exact ⟨⟨j + 1, by omega, by first | rfl | go_num, HDN⟩, by simp [intOf]; omega⟩
              · have HF : Hid (fromC room es = (q.err ⟨kd, ky, vl, id⟩, q)) := hide (by rw [HFC.out, HPU.out]; exact (puts_step HL2.out HX.out).2 he)
                obtain ⟨er, her⟩ : ∃ er, q.err ⟨kd, ky, vl, id⟩ = er := ⟨_, rfl⟩
                rw [her] at he ⊢
                have HF2 : Hid (fromC room es = (er, q)) := hide (by rw [← her]; exact HF.out)
                clear HF
                have q5 : (er != 0) = true := by simpa using he
                have HE := hide he
                clear he her
                go_wp2
                go_ret2
                rw [show f = _ from HFE.out.symm.trans HF2.out]
                exact ⟨HB6.out, .inl ⟨HE.out, rfl⟩⟩
            · obtain rfl : j = k := by omega
              have HF : Hid (fromC room es = (0, q)) := by
                have h1 := HPU.out
                rw [List.drop_of_length_le (by rw [HN.out]; exact Nat.le_refl _)] at h1
                exact hide (by rw [HFC.out, h1]; rfl)
              go_wp2
              go_ret2
              rw [show f = _ from HFE.out.symm.trans HF.out]
              exact ⟨HBW.out, .inr ⟨rfl, b, p, c, rfl, HQ.out, HOK.out⟩⟩
def FrR (W : World) (room : Nat) (es : List EV) (b k : Nat) (wr : World) : Prop := ∃ q p c, RQ W.heap.size wr b p c q ∧ q.ok ∧ putsC ⟨room, [], 0⟩ es = putsC q (es.drop k) ∧ Below W.heap.size W wr ∧ ∀ a, p = some a → a.block ≠ b ∧ W.heap.size ≤ a.block ∧ a.block < wr.heap.size
set_option maxRecDepth 100000 in
set_option maxHeartbeats 4000000 in
theorem rfrom_any {W : World} {rm : Int} {lp : Option Addr} {lc n : Nat} {es : List EV} (hrow : ERow W lp lc es) (hn : es.length = n) {f : Int × QC} (hf : fromC rm es = f) :
    Calls Try.prog 18 #[.int .i64 rm, .slice lp n lc] W (FromR W f) := by
  have i1 := hrow.le
  have i2 := hrow.top
  rw [hn] at i1
  have HROW := hide hrow
  have HN := hide hn
  have HFE := hide hf
  clear hrow hn hf
  go_enter Try.func18, Try.ntmps18
  by_cases hbad : rm < 1 ∨ 64 < rm
  · have HF : Hid (fromC rm es = (1, ⟨0, [], 0⟩)) := hide (by unfold fromC; rw [if_pos hbad])
    go_wp2_with fail
    refine (rnew_bad hbad).mono ?_
    rintro _ w2 ⟨rfl, rfl⟩
    go_wp2
    go_ret2
    rw [show f = _ from HFE.out.symm.trans HF.out]
    exact ⟨Below.refl _ _, .inl ⟨by decide, rfl⟩⟩
  · have HNB := hide hbad
    obtain ⟨room, rfl, hr1, hr2⟩ : ∃ room : Nat, rm = (room : Int) ∧ 1 ≤ room ∧ room ≤ 64 := ⟨rm.toNat, by omega, by omega, by omega⟩
    clear hbad
    go_wp2_with fail
    refine (rnew_good (by omega) (by omega)).mono ?_
    rintro _ w2 ⟨rfl, hw2⟩
    have Q2 : RQ W.heap.size w2 W.heap.size none 0 ⟨room, [], 0⟩ := by rw [hw2]; exact rq_new W room
    have b2 : Below W.heap.size W w2 := by rw [hw2]; exact alloc_below _ _
    have HQ2 := hide Q2
    have HB2 := hide b2
    obtain ⟨b, hb⟩ : ∃ b, W.heap.size = b := ⟨_, rfl⟩
    have HBE := hide hb
    rw [hb]
    clear hw2 Q2 b2 hb
    by_cases hlong : room < n
    · have HF : Hid (fromC room es = (3, ⟨0, [], 0⟩)) := hide (by unfold fromC; rw [if_neg HNB.out, if_pos (by rw [HN.out]; omega)])
      have q1 : decide ((n : Int) > (room : Int)) = true := decide_eq_true (by omega)
      go_wp2
      go_ret2
      rw [show f = _ from HFE.out.symm.trans HF.out]
      exact ⟨HB2.out, .inl ⟨by decide, rfl⟩⟩
    · have q1 : decide ((n : Int) > (room : Int)) = false := decide_eq_false (by omega)
      have HLO : Hid ((es.length : Int) ≤ room) := hide (by rw [HN.out]; omega)
      go_wp2_with fail
      go_loopw [8] (fun i wr => ∃ k : Nat, k ≤ n ∧ i = .int .i64 (k : Int) ∧ Hid (Below w2.heap.size w2 wr) ∧ Hid (∀ e ∈ es.take k, fits e)) (fun i _ => n - (intOf i).toNat)
      case atStart => exact ⟨0, Nat.zero_le _, rfl, hide (Below.refl _ _), hide (by simp)⟩
      case round =>
        obtain ⟨k, hk, rfl, HB, HFT⟩ := hrel
        have HWR : Hid (Below W.heap.size W wr) := hide (HB2.out.trans (HB.out.mono HB2.out.size))
        by_cases hlt : k < n
        · have hlt2 : k < es.length := by rw [HN.out]; exact hlt
          obtain ⟨x, hx⟩ : ∃ x, es[k]! = x := ⟨_, rfl⟩
          obtain ⟨g, o, rfl, a0, a1, a2, a3⟩ := (HROW.out.later HWR.out).at hlt2 hx
          have HX := hide hx
          have HL2 := hide hlt2
          obtain ⟨kd, ky, vl, id⟩ := x
          simp only at a0 a1 a2 a3
          clear hx hlt2
          go_wp2_with fail
          refine rcheck_any.mono ?_
          rintro _ w4 ⟨rfl, b4⟩
          have HB4 : Hid (Below w2.heap.size w2 w4) := hide (HB.out.trans (b4.mono HB.out.size))
          have HW4 : Hid (Below W.heap.size W w4) := hide (HB2.out.trans (HB4.out.mono HB2.out.size))
          clear b4 a0 a1 a2 a3
          by_cases hf : fits ⟨kd, ky, vl, id⟩
          · have HFT2 : Hid (∀ e ∈ es.take (k + 1), fits e) := by
              refine hide (fun e he => ?_)
              rw [take_snocE HL2.out HX.out, List.mem_append] at he
              rcases he with he | he
              · exact HFT.out e he
              · simp only [List.mem_singleton] at he
                rw [he]; exact hf
            rw [check_yes hf]
            clear hf
            go_wp2
            exact ⟨⟨k + 1, by omega, by first | rfl | go_num, HB4, HFT2⟩, by simp [intOf]; omega⟩
          · have HF : Hid (fromC room es = (1, ⟨0, [], 0⟩)) := by
              refine hide ?_
              unfold fromC
              rw [if_neg HNB.out, if_neg (by have := HLO.out; omega), if_pos ⟨⟨kd, ky, vl, id⟩, by rw [← HX.out, getElem!_pos es k HL2.out]; exact List.getElem_mem _, hf⟩]
            rw [check_no hf]
            clear hf
            go_wp2
            go_ret2
            rw [show f = _ from HFE.out.symm.trans HF.out]
            exact ⟨HW4.out, .inl ⟨by decide, rfl⟩⟩
        · obtain rfl : k = n := by omega
          have HFC : Hid (fromC room es = putsC ⟨room, [], 0⟩ es) := by
            refine hide ?_
            have h1 := HFT.out
            rw [List.take_of_length_le (by rw [HN.out]; exact Nat.le_refl _)] at h1
            unfold fromC
            rw [if_neg HNB.out, if_neg (by have := HLO.out; omega), if_neg (fun ⟨e, he, hf⟩ => hf (h1 e he))]
            rfl
          have HFR : Hid (FrR W room es b 0 wr) := by
            have hb := HBE.out
            have hq := HQ2.out.later HB.out
            rw [hb] at hq
            refine hide ⟨⟨room, [], 0⟩, none, 0, ?_, new_ok hr1 hr2, by simp, HWR.out, fun a e => by cases e⟩
            rw [hb]
            exact hq
          clear HB HFT HWR HQ2 HB2 q1
          go_wp2_with fail
          go_loopw [10] (fun i wr => ∃ j : Nat, j ≤ k ∧ i = .int .i64 (j : Int) ∧ Hid (FrR W room es b j wr)) (fun i _ => k - (intOf i).toNat)
          case atStart => exact ⟨0, Nat.zero_le _, rfl, HFR⟩
          case round =>
            obtain ⟨j, hj, rfl, HI⟩ := hrel
            rename World => wq
            clear HFR
            obtain ⟨q, p, c, hq, hok, hpu, hbw, hap⟩ := HI.out
            have HQ := hide hq
            have HOK := hide hok
            have HPU := hide hpu
            have HBW := hide hbw
            have HAP := hide hap
            clear hq hok hpu hbw HI hap
            by_cases hlt : j < k
            · have hlt2 : j < es.length := by rw [HN.out]; exact hlt
              obtain ⟨x, hx⟩ : ∃ x, es[j]! = x := ⟨_, rfl⟩
              obtain ⟨g, o, rfl, a0, a1, a2, a3⟩ := (HROW.out.later HBW.out).at hlt2 hx
              have HX := hide hx
              have HL2 := hide hlt2
              obtain ⟨kd, ky, vl, id⟩ := x
              simp only at a0 a1 a2 a3
              clear hx hlt2
              go_wp2_with fail
              have hwq : W.heap.size ≤ wq.heap.size := HBW.out.size
              have hbq := (Array.getElem?_eq_some_iff.1 HQ.out.box).1
              refine (rput_any HQ.out HOK.out (fun a e => (HAP.out a e).1) ⟨kd, ky, vl, id⟩).mono ?_
              rintro _ w6 ⟨rfl, P6⟩
              have HB6 : Hid (Below W.heap.size W w6) := hide (HBW.out.trans (P6.only.below hwq (fun i e => by have e' : i = b := e; have := HBE.out; omega)))
              obtain ⟨p6, c6, Q6, hw6⟩ := P6.is
              have HQ6 := hide Q6
              have HAP6 : Hid (∀ a, p6 = some a → a.block ≠ b ∧ W.heap.size ≤ a.block ∧ a.block < w6.heap.size) := by
                refine hide (fun a e => ?_)
                rcases hw6 a e with ⟨a0, e0, e1⟩ | ⟨h1, h2⟩
                · obtain ⟨y1, y2, y3⟩ := HAP.out a0 e0
                  rw [e1]
                  exact ⟨y1, y2, Nat.lt_of_lt_of_le y3 P6.only.size⟩
                · exact ⟨by omega, by omega, h2⟩
              clear P6 Q6 hw6 a0 a1 a2 a3
              by_cases he : q.err ⟨kd, ky, vl, id⟩ = 0
              · have HDN : Hid (FrR W room es b (j + 1) w6) := hide ⟨_, p6, c6, HQ6.out, QC.put_ok HOK.out _, by rw [HPU.out]; exact (puts_step HL2.out HX.out).1 he, HB6.out, HAP6.out⟩
                rw [he]
                clear he
                go_wp2
                exact ⟨⟨j + 1, by omega, by first | rfl | go_num, HDN⟩, by simp [intOf]; omega⟩
              · have HF : Hid (fromC room es = (q.err ⟨kd, ky, vl, id⟩, q)) := hide (by rw [HFC.out, HPU.out]; exact (puts_step HL2.out HX.out).2 he)
                obtain ⟨er, her⟩ : ∃ er, q.err ⟨kd, ky, vl, id⟩ = er := ⟨_, rfl⟩
                rw [her] at he ⊢
                have HF2 : Hid (fromC room es = (er, q)) := hide (by rw [← her]; exact HF.out)
                clear HF
                have q5 : (er != 0) = true := by simpa using he
                have HE := hide he
                clear he her
                go_wp2
                go_ret2
                rw [show f = _ from HFE.out.symm.trans HF2.out]
                exact ⟨HB6.out, .inl ⟨HE.out, rfl⟩⟩
            · obtain rfl : j = k := by omega
              have HF : Hid (fromC room es = (0, q)) := by
                have h1 := HPU.out
                rw [List.drop_of_length_le (by rw [HN.out]; exact Nat.le_refl _)] at h1
                exact hide (by rw [HFC.out, h1]; rfl)
              go_wp2
              go_ret2
              rw [show f = _ from HFE.out.symm.trans HF.out]
              exact ⟨HBW.out, .inr ⟨rfl, b, p, c, rfl, HQ.out, HOK.out, HAP.out⟩⟩
end Go.Proofs.Ytmmdgffgnpnmeaa
