/-
  Parse: the program's and the reference's. The conditions: lengths.
-/
import Derived.Test.YtihbdlbnpkmafaaEvx
namespace Go.Proofs.Ytihbdlbnpkmafaa
open Go.RowKit

theorem parse_yes {b l lf : List Int} {n : Nat} {cn e ef : Int} {xs : List EV} (h1 : countR b = (cn, l, e)) (hn : cn.toNat = n) (h2 : loopR n l e = (xs, lf, ef)) (hc : closes lf ef = 0) : parseC b = (xs, 0) := by
  unfold parseC
  rw [h1]
  simp only [hn, h2]
  rw [if_pos hc]
theorem parse_no {b l lf : List Int} {n : Nat} {cn e ef : Int} {xs : List EV} (h1 : countR b = (cn, l, e)) (hn : cn.toNat = n) (h2 : loopR n l e = (xs, lf, ef)) (hc : closes lf ef ≠ 0) : parseC b = ([], closes lf ef) := by
  unfold parseC
  rw [h1]
  simp only [hn, h2]
  rw [if_neg hc]
/-- What the loop keeps: what is read so far and what is to come make the whole. -/
def Goes (k : Nat) (acc : List EV) (l : List Int) (e : Int) (xs : List EV) (lf : List Int) (ef : Int) : Prop := acc ++ (loopR k l e).1 = xs ∧ (loopR k l e).2 = (lf, ef)
theorem Goes.next {k : Nat} {acc xs : List EV} {l l1 lf : List Int} {e1 ef : Int} {x : EV} (h : Goes (k + 1) acc l 0 xs lf ef) (ht : takeR l 0 = (x, l1, e1)) : Goes k (acc ++ [x]) l1 e1 xs lf ef := by
  obtain ⟨h1, h2⟩ := h
  rw [loopR_next ht] at h1 h2
  exact ⟨by rw [← h1]; simp, h2⟩
theorem Goes.stop {k : Nat} {acc xs : List EV} {l lf : List Int} {e ef : Int} (h : Goes k acc l e xs lf ef) (hk : k = 0 ∨ e ≠ 0) : acc = xs ∧ l = lf ∧ e = ef := by
  have hl : loopR k l e = ([], l, e) := by
    rcases hk with rfl | hk
    · rfl
    · exact loopR_err hk
  obtain ⟨h1, h2⟩ := h
  rw [hl] at h1 h2
  simp only [List.append_nil, Prod.mk.injEq] at h1 h2
  exact ⟨h1, h2.1, h2.2⟩
theorem ev_row_turn {B n : Nat} {W w' : World} {v : Value} {xs : List Value} {b : Nat} (h : W.ownsRow B 26 4 v n xs) (ho : Only (· = b) W w') (hb : b < B) : w'.ownsRow B 26 4 v n xs :=
  ownsRow_only h ho (fun g hg e => by have e' : g = b := e; have := own_block_base h hg; omega)

set_option maxRecDepth 100000 in
set_option maxHeartbeats 4000000 in
theorem parse_any {W : World} {v : Value} {b : List Int} (hb : Row .u8 W v b) (hu : U8 b) (hs : b.length ≤ 140737488355328) {xs : List EV} {c : Int} (hr : parseC b = (xs, c)) :
    Calls Try.prog 20 #[v] W fun e w' => ∃ p' c', e = .returned (.tuple #[.slice p' xs.length c', .int .i64 c]) ∧ w'.ownsRow W.heap.size 26 4 (.slice p' xs.length c') xs.length (xs.flatMap EV.cells) ∧ Below W.heap.size W w' := by
  obtain ⟨i0, hI0, hz0, hz1, hz2⟩ := info_parts Try.infoEv
  obtain ⟨cn, l0, e0, h1⟩ : ∃ cn l0 e0, countR b = (cn, l0, e0) := ⟨_, _, _, rfl⟩
  have hcb := count_bd b
  rw [h1] at hcb
  simp only at hcb
  obtain ⟨n, hn⟩ : ∃ n : Nat, cn = (n : Int) := ⟨cn.toNat, by omega⟩
  subst hn
  obtain ⟨ys, lf, ef, h2⟩ : ∃ ys lf ef, loopR n l0 e0 = (ys, lf, ef) := ⟨_, _, _, rfl⟩
  obtain ⟨cc, hcc⟩ : ∃ cc, closes lf ef = cc := ⟨_, rfl⟩
  have HCC := hide hcc
  have HHR := hide hr
  have HH1 := hide h1
  have HH2 := hide h2
  have hyl : ys.length ≤ n := by have := loopR_len n l0 e0; rw [h2] at this; exact this
  have HOP := hide (open_more hb hu hs)
  obtain ⟨pb, cb, rfl, i1, i2, _, _⟩ := id hb
  clear hb hr hcc h2
  go_enter Try.func20, Try.ntmps20
  go_wp2_with fail
  refine HOP.out.mono ?_
  rintro _ w1 ⟨bu, v1, rfl, hbu, U1, B1, hbl, hvb⟩
  have U2 : UnpX (fun k => w1.heap.size ≤ k) w1 bu v1 b 0 := U1.other (fun k hk e => by have := (hvb k hk).2; omega)
  have HB1 := hide B1
  clear U1 B1 HOP hvb
  obtain ⟨B, hB⟩ : ∃ B, w1.heap.size = B := ⟨_, rfl⟩
  have hbB : bu < B := by omega
  have hWu : W.heap.size ≤ bu := by omega
  have U2' : UnpX (fun k => B ≤ k) w1 bu v1 b 0 := by rw [← hB]; exact U2
  have HUI := hide (uint_at U2' h1)
  have HWB : Hid (W.heap.size ≤ B) := hide (by rw [← hB]; exact HB1.out.size)
  clear U2 U2' h1
  go_wp2_with fail
  refine HUI.out.mono ?_
  rintro _ w2 ⟨rfl, g2, pv, cv, U4⟩
  have HB2 : Hid (Below W.heap.size W w2) := hide (HB1.out.trans ((only_grown g2).below HB1.out.size (fun i e => by have e' : i = bu := e; omega)))
  have HS2 : Hid (B ≤ w2.heap.size) := hide (by rw [← hB]; exact g2.size)
  have HU4 := hide U4
  have HG0 : Hid (Goes n [] l0 e0 ys lf ef) := hide ⟨by rw [HH2.out]; rfl, by rw [HH2.out]⟩
  clear U4 g2 HUI HB1 hB
  go_wp2_with fail
  go_loopw [6, 5] (fun s t wr => ∃ (i m : Nat) (acc : List EV) (l : List Int) (e : Int) (p1 : Option Addr) (c1 : Nat) (pv : Option Addr) (cv : Nat), i ≤ n ∧ s = .int .i64 ((n - i : Nat) : Int) ∧ t = .slice p1 m c1 ∧ m ≤ i ∧ Hid (acc.length = m) ∧ Hid (UnpX (fun k => B ≤ k) wr bu (.slice pv l.length cv) l e) ∧ Hid (wr.ownsRow B 26 4 (.slice p1 m c1) m (acc.flatMap EV.cells)) ∧ Hid (Goes (n - i) acc l e ys lf ef) ∧ Hid (Below W.heap.size W wr) ∧ Hid (B ≤ wr.heap.size)) (fun s _ _ => (intOf s).toNat)
  case atStart => exact ⟨0, 0, [], l0, e0, none, 0, pv, cv, Nat.zero_le _, rfl, rfl, Nat.le_refl _, hide rfl, HU4, hide (World.ownsRow_nil _ _ _ _), HG0, HB2, HS2⟩
  case round =>
    obtain ⟨i, m, acc, l, e, p1, c1, pw, cw, hi, rfl, rfl, hm, HAL, HU, HOW, HG, HB, HSZ⟩ := hrel
    clear HU4 HG0 HB2 HS2
    obtain ⟨_, _, ef1, ec1, ec2⟩ := own_form HOW.out
    simp only [Value.slice.injEq, true_and] at ef1
    obtain ⟨rfl, rfl⟩ := ef1
    have fin : acc = ys ∧ l = lf ∧ e = ef → True := fun _ => trivial
    clear fin
    by_cases hlt : i < n
    · by_cases he : e = 0
      · subst he
        obtain ⟨x, l1, e1, ht⟩ : ∃ x l1 e1, takeR l 0 = (x, l1, e1) := ⟨_, _, _, rfl⟩
        have HGN : Hid (Goes (n - (i + 1)) (acc ++ [x]) l1 e1 ys lf ef) := by
          have h := HG.out
          rw [show n - i = n - (i + 1) + 1 by omega] at h
          exact hide (h.next ht)
        have HTK := hide (take_ev HU.out ht)
        have HER := hide (err_any HU.out)
        have d1 : decide (((n - i : Nat) : Int) > 0) = true := decide_eq_true (by omega)
        clear ht
        go_wp2_with fail
        refine HER.out.mono ?_
        rintro _ wy ⟨rfl, rfl⟩
        clear HER
        go_wp2_with fail
        refine HTK.out.mono ?_
        rintro _ w3 ⟨rfl, N3, p3, c3, U3⟩
        have HO3 := hide (ev_row_turn HOW.out N3 hbB)
        have HB3 : Hid (Below W.heap.size W w3) := hide (HB.out.trans (N3.below HB.out.size (fun i e => by have e' : i = bu := e; omega)))
        have HS3 : Hid (B ≤ w3.heap.size) := hide (Nat.le_trans HSZ.out N3.size)
        have HU3 := hide U3
        obtain ⟨kd, ky, vl, id'⟩ := x
        have HOA := hide (ownsRow_later HO3.out (alloc_below w3 (.cells #[.int .i64 kd, .int .i64 ky, .int .i64 vl, .int .i64 id'] 26 (0, 0))))
        have HSG : Hid (Seg (w3.alloc (.cells #[.int .i64 kd, .int .i64 ky, .int .i64 vl, .int .i64 id'] 26 (0, 0))) 4 (.slice (some ⟨w3.heap.size, 0, none⟩) 1 1) 1 [.int .i64 kd, .int .i64 ky, .int .i64 vl, .int .i64 id']) := hide (Seg.news (heap_alloc_new w3 _) (by simp [Value.oneCell']) rfl (Nat.le_refl _) (by decide))
        have HK1 : Hid (m + 1 ≤ maxLen) := by show _ ≤ _; unfold maxLen; omega
        have HK2 : Hid ((m + 1) * 32 ≤ 140737488355328) := by show _ ≤ _; omega
        have HBB : Hid (B ≤ (w3.alloc (.cells #[.int .i64 kd, .int .i64 ky, .int .i64 vl, .int .i64 id'] 26 (0, 0))).heap.size) := hide (by have := HS3.out; simp; omega)
        unfold EV.agg
        try simp only
        clear N3 U3 HTK HOW HB HU HG d1
        go_wp2_with (at_builtin; refine append_cells _ rfl (.tmp 21) (.tmp 24) 27 rfl B 26 i0 (.agg #[.int .i64 0, .int .i64 0, .int .i64 0, .int .i64 0]) 4 32 Try.underlying27 hI0 hz0 hz1 hz2 rfl (by decide) (.slice p1 m c1) m _ rfl HOA.out (.slice (some ⟨w3.heap.size, 0, none⟩) 1 1) 1 _ rfl HSG.out HK1.out HK2.out HBB.out ?_)
        intro p4 c4 w4 hown hgrow
        have hoA : Only (fun i => (Value.slice p1 m c1).ownBlock = some i) w3 w4 := (Only.alloc _ _ _).trans (Only.of_grown hgrow (fun k e => e))
        have hgb : ∀ i, (Value.slice p1 m c1).ownBlock = some i → B ≤ i := fun i e => own_block_base HO3.out e
        have HU5 : Hid (UnpX (fun k => B ≤ k) w4 bu (.slice p3 l1.length c3) l1 e1) := by
          suffices hrow : Row .u8 w4 (.slice p3 l1.length c3) l1 by
            exact hide ⟨hoA.obj HU3.out.block (fun e => by have := hgb _ e; omega), hrow, HU3.out.apart, HU3.out.u8, HU3.out.err⟩
          obtain ⟨q, cq, hq, r1, r2, r3, r4⟩ := HU3.out.row
          refine ⟨q, cq, hq, r1, r2, r3, fun hp => ?_⟩
          obtain ⟨bb, oo, hqq, hcc⟩ := r4 hp
          refine ⟨bb, oo, hqq, fun j hj => hoA.cell (hcc j hj) (fun e => ?_)⟩
          have hap := HU3.out.apart.2 bb (by rw [hq, hqq]; rfl)
          exact hap (hgb _ e)
        have HO5 : Hid (w4.ownsRow B 26 4 (.slice p4 (m + 1) c4) (m + 1) ((acc ++ [(⟨kd, ky, vl, id'⟩ : EV)]).flatMap EV.cells)) := by
          refine hide ?_
          rw [List.flatMap_append]
          exact hown
        have HB5 : Hid (Below W.heap.size W w4) := hide (HB3.out.trans (hoA.below HB3.out.size (fun i e => Nat.le_trans HWB.out (hgb i e))))
        have HS5 : Hid (B ≤ w4.heap.size) := hide (Nat.le_trans HS3.out hoA.size)
        have HAL5 : Hid ((acc ++ [(⟨kd, ky, vl, id'⟩ : EV)]).length = m + 1) := hide (by rw [List.length_append, HAL.out]; rfl)
        clear hown hgrow hoA hgb HO3 HOA HSG HU3 HB3 HS3
        go_wp2
        exact ⟨⟨i + 1, m + 1, acc ++ [⟨kd, ky, vl, id'⟩], l1, e1, p4, c4, p3, c3, by omega, by first | rfl | go_num | (congr 1; omega), rfl, by omega, HAL5, HU5, HO5, HGN, HB5, HS5⟩, by simp [intOf]; omega⟩
      · obtain ⟨rfl, rfl, rfl⟩ := HG.out.stop (.inr he)
        have HCL := hide (close_any HU.out)
        rw [HCC.out] at HCL
        have HER := hide (err_any HU.out)
        have d1 : decide (((n - i : Nat) : Int) > 0) = true := decide_eq_true (by omega)
        have ne1 := ne_eq he
        clear he
        go_wp2_with fail
        refine HER.out.mono ?_
        rintro _ wy ⟨rfl, rfl⟩
        clear HER
        go_wp2_with fail
        refine HCL.out.mono ?_
        rintro _ w6 ⟨rfl, rfl⟩
        clear HCL
        by_cases hc : cc = 0
        · subst hc
          have HQ := parse_yes HH1.out (by simp) HH2.out HCC.out
          rw [HHR.out] at HQ
          simp only [Prod.mk.injEq] at HQ
          obtain ⟨rfl, rfl⟩ := HQ
          have HF := hide (ownsRow_base HOW.out HWB.out)
          have hal := HAL.out
          subst hal
          go_wp2
          go_ret2
          exact ⟨p1, c1, rfl, HF.out, HB.out⟩
        · have HQ := parse_no HH1.out (by simp) HH2.out (by rw [HCC.out]; exact hc)
          rw [HHR.out, HCC.out] at HQ
          simp only [Prod.mk.injEq] at HQ
          obtain ⟨rfl, rfl⟩ := HQ
          have ne2 : (c != 0) = true := by simpa using hc
          clear hc
          go_wp2
          go_ret2
          exact ⟨none, 0, rfl, World.ownsRow_nil _ _ _ _, HB.out⟩
    · obtain rfl : i = n := by omega
      obtain ⟨rfl, rfl, rfl⟩ := HG.out.stop (.inl (by omega))
      have HCL := hide (close_any HU.out)
      rw [HCC.out] at HCL
      have z0 : ((i - i : Nat) : Int) = 0 := by simp
      rw [z0]
      go_wp2_with fail
      refine HCL.out.mono ?_
      rintro _ w6 ⟨rfl, rfl⟩
      clear HCL
      by_cases hc : cc = 0
      · subst hc
        have HQ := parse_yes HH1.out (by simp) HH2.out HCC.out
        rw [HHR.out] at HQ
        simp only [Prod.mk.injEq] at HQ
        obtain ⟨rfl, rfl⟩ := HQ
        have HF := hide (ownsRow_base HOW.out HWB.out)
        have hal := HAL.out
        subst hal
        go_wp2
        go_ret2
        exact ⟨p1, c1, rfl, HF.out, HB.out⟩
      · have HQ := parse_no HH1.out (by simp) HH2.out (by rw [HCC.out]; exact hc)
        rw [HHR.out, HCC.out] at HQ
        simp only [Prod.mk.injEq] at HQ
        obtain ⟨rfl, rfl⟩ := HQ
        have ne2 : (c != 0) = true := by simpa using hc
        clear hc
        go_wp2
        go_ret2
        exact ⟨none, 0, rfl, World.ownsRow_nil _ _ _ _, HB.out⟩

set_option maxRecDepth 100000 in
set_option maxHeartbeats 4000000 in
theorem rparse_any {W : World} {v : Value} {b : List Int} (hb : Row .u8 W v b) (hu : U8 b) {xs : List EV} {c : Int} (hr : parseC b = (xs, c)) :
    Calls Try.prog 21 #[v] W fun e w' => ∃ p' c', e = .returned (.tuple #[.slice p' xs.length c', .int .i64 c]) ∧ w'.ownsRow W.heap.size 26 4 (.slice p' xs.length c') xs.length (xs.flatMap EV.cells) ∧ Below W.heap.size W w' := by
  obtain ⟨i0, hI0, hz0, hz1, hz2⟩ := info_parts Try.infoEv
  obtain ⟨cn, l0, e0, h1⟩ : ∃ cn l0 e0, countR b = (cn, l0, e0) := ⟨_, _, _, rfl⟩
  have hcb := count_bd b
  rw [h1] at hcb
  simp only at hcb
  obtain ⟨n, hn⟩ : ∃ n : Nat, cn = (n : Int) := ⟨cn.toNat, by omega⟩
  subst hn
  obtain ⟨ys, lf, ef, h2⟩ : ∃ ys lf ef, loopR n l0 e0 = (ys, lf, ef) := ⟨_, _, _, rfl⟩
  obtain ⟨cc, hcc⟩ : ∃ cc, closes lf ef = cc := ⟨_, rfl⟩
  have HCC := hide hcc
  have HHR := hide hr
  have HH1 := hide h1
  have HH2 := hide h2
  have hyl : ys.length ≤ n := by have := loopR_len n l0 e0; rw [h2] at this; exact this
  have HOP := hide (ropen_any hb hu)
  obtain ⟨pb, cb, rfl, i1, i2, _, _⟩ := id hb
  clear hb hr hcc h2
  go_enter Try.func21, Try.ntmps21
  go_wp2_with fail
  refine HOP.out.mono ?_
  rintro _ w1 ⟨rfl, U1, hw1⟩
  have B1 : Below W.heap.size W w1 := by rw [hw1]; exact alloc_below _ _
  have hbl : W.heap.size < w1.heap.size := by rw [hw1]; simp
  have U2 : RUnp (fun k => w1.heap.size ≤ k) w1 W.heap.size (.slice pb b.length cb) b 0 := ⟨U1.block, U1.row, fun hp => ⟨(U1.apart hp).1, fun k hk e => (U1.apart hp).2 k hk (by have e' : w1.heap.size ≤ k := e; omega)⟩, U1.u8, U1.err⟩
  have hbu : W.heap.size ≤ W.heap.size := Nat.le_refl _
  obtain ⟨bw, hbw⟩ : ∃ bw, W.heap.size = bw := ⟨_, rfl⟩
  have HB1 := hide B1
  have U3 : RUnp (fun k => w1.heap.size ≤ k) w1 bw (.slice pb b.length cb) b 0 := by rw [← hbw]; exact U2
  have hbl2 : bw < w1.heap.size := by rw [← hbw]; exact hbl
  have hbu2 : W.heap.size ≤ bw := by omega
  clear U1 B1 HOP hw1 U2 hbu hbl
  rw [hbw]
  clear hbw
  obtain ⟨B, hB⟩ : ∃ B, w1.heap.size = B := ⟨_, rfl⟩
  have hbB : bw < B := by omega
  have hWu : W.heap.size ≤ bw := by omega
  have U3' : RUnp (fun k => B ≤ k) w1 bw (.slice pb b.length cb) b 0 := by rw [← hB]; exact U3
  have HUI := hide (ruint_at U3' h1)
  have HWB : Hid (W.heap.size ≤ B) := hide (by rw [← hB]; exact HB1.out.size)
  clear U3 U3' h1
  go_wp2_with fail
  refine HUI.out.mono ?_
  rintro _ w2 ⟨rfl, g2, pv, cv, U4⟩
  have HB2 : Hid (Below W.heap.size W w2) := hide (HB1.out.trans ((only_grown g2).below HB1.out.size (fun i e => by have e' : i = bw := e; omega)))
  have HS2 : Hid (B ≤ w2.heap.size) := hide (by rw [← hB]; exact g2.size)
  have HU4 := hide U4
  have HG0 : Hid (Goes n [] l0 e0 ys lf ef) := hide ⟨by rw [HH2.out]; rfl, by rw [HH2.out]⟩
  clear U4 g2 HUI HB1 hB
  go_wp2_with fail
  go_loopw [7, 6] (fun s t wr => ∃ (i m : Nat) (acc : List EV) (l : List Int) (e : Int) (p1 : Option Addr) (c1 : Nat) (pv : Option Addr) (cv : Nat), i ≤ n ∧ s = .int .i64 (i : Int) ∧ t = .slice p1 m c1 ∧ m ≤ i ∧ Hid (acc.length = m) ∧ Hid (RUnp (fun k => B ≤ k) wr bw (.slice pv l.length cv) l e) ∧ Hid (wr.ownsRow B 26 4 (.slice p1 m c1) m (acc.flatMap EV.cells)) ∧ Hid (Goes (n - i) acc l e ys lf ef) ∧ Hid (Below W.heap.size W wr) ∧ Hid (B ≤ wr.heap.size)) (fun s _ _ => n - (intOf s).toNat)
  case atStart => exact ⟨0, 0, [], l0, e0, none, 0, pv, cv, Nat.zero_le _, rfl, rfl, Nat.le_refl _, hide rfl, HU4, hide (World.ownsRow_nil _ _ _ _), HG0, HB2, HS2⟩
  case round =>
    obtain ⟨i, m, acc, l, e, p1, c1, pw, cw, hi, rfl, rfl, hm, HAL, HU, HOW, HG, HB, HSZ⟩ := hrel
    clear HU4 HG0 HB2 HS2
    obtain ⟨_, _, ef1, ec1, ec2⟩ := own_form HOW.out
    simp only [Value.slice.injEq, true_and] at ef1
    obtain ⟨rfl, rfl⟩ := ef1
    have fin : acc = ys ∧ l = lf ∧ e = ef → True := fun _ => trivial
    clear fin
    by_cases hlt : i < n
    · by_cases he : e = 0
      · subst he
        obtain ⟨x, l1, e1, ht⟩ : ∃ x l1 e1, takeR l 0 = (x, l1, e1) := ⟨_, _, _, rfl⟩
        have HGN : Hid (Goes (n - (i + 1)) (acc ++ [x]) l1 e1 ys lf ef) := by
          have h := HG.out
          rw [show n - i = n - (i + 1) + 1 by omega] at h
          exact hide (h.next ht)
        have HTK := hide (rtake_ev HU.out ht)
        have ce := HU.out.c1
        clear ht
        go_wp2_with fail
        refine HTK.out.mono ?_
        rintro _ w3 ⟨rfl, N3, p3, c3, U3⟩
        have HO3 := hide (ev_row_turn HOW.out N3 hbB)
        have HB3 : Hid (Below W.heap.size W w3) := hide (HB.out.trans (N3.below HB.out.size (fun i e => by have e' : i = bw := e; omega)))
        have HS3 : Hid (B ≤ w3.heap.size) := hide (Nat.le_trans HSZ.out N3.size)
        have HU3 := hide U3
        obtain ⟨kd, ky, vl, id'⟩ := x
        have HOA := hide (ownsRow_later HO3.out (alloc_below w3 (.cells #[.int .i64 kd, .int .i64 ky, .int .i64 vl, .int .i64 id'] 26 (0, 0))))
        have HSG : Hid (Seg (w3.alloc (.cells #[.int .i64 kd, .int .i64 ky, .int .i64 vl, .int .i64 id'] 26 (0, 0))) 4 (.slice (some ⟨w3.heap.size, 0, none⟩) 1 1) 1 [.int .i64 kd, .int .i64 ky, .int .i64 vl, .int .i64 id']) := hide (Seg.news (heap_alloc_new w3 _) (by simp [Value.oneCell']) rfl (Nat.le_refl _) (by decide))
        have HK1 : Hid (m + 1 ≤ maxLen) := by show _ ≤ _; unfold maxLen; omega
        have HK2 : Hid ((m + 1) * 32 ≤ 140737488355328) := by show _ ≤ _; omega
        have HBB : Hid (B ≤ (w3.alloc (.cells #[.int .i64 kd, .int .i64 ky, .int .i64 vl, .int .i64 id'] 26 (0, 0))).heap.size) := hide (by have := HS3.out; simp; omega)
        unfold EV.agg
        try simp only
        clear N3 U3 HTK HOW HB HU HG ce
        go_wp2_with (at_builtin; refine append_cells _ rfl (.tmp 25) (.tmp 28) 27 rfl B 26 i0 (.agg #[.int .i64 0, .int .i64 0, .int .i64 0, .int .i64 0]) 4 32 Try.underlying27 hI0 hz0 hz1 hz2 rfl (by decide) (.slice p1 m c1) m _ rfl HOA.out (.slice (some ⟨w3.heap.size, 0, none⟩) 1 1) 1 _ rfl HSG.out HK1.out HK2.out HBB.out ?_)
        intro p4 c4 w4 hown hgrow
        have hoA : Only (fun i => (Value.slice p1 m c1).ownBlock = some i) w3 w4 := (Only.alloc _ _ _).trans (Only.of_grown hgrow (fun k e => e))
        have hgb : ∀ i, (Value.slice p1 m c1).ownBlock = some i → B ≤ i := fun i e => own_block_base HO3.out e
        have HU5 : Hid (RUnp (fun k => B ≤ k) w4 bw (.slice p3 l1.length c3) l1 e1) := by
          suffices hrow : Row .u8 w4 (.slice p3 l1.length c3) l1 by
            exact hide ⟨hoA.obj HU3.out.block (fun e => by have := hgb _ e; omega), hrow, HU3.out.apart, HU3.out.u8, HU3.out.err⟩
          obtain ⟨q, cq, hq, r1, r2, r3, r4⟩ := HU3.out.row
          refine ⟨q, cq, hq, r1, r2, r3, fun hp => ?_⟩
          obtain ⟨bb, oo, hqq, hcc⟩ := r4 hp
          refine ⟨bb, oo, hqq, fun j hj => hoA.cell (hcc j hj) (fun e => ?_)⟩
          have hap := (HU3.out.apart hp).2 bb (by rw [hq, hqq]; rfl)
          exact hap (hgb _ e)
        have HO5 : Hid (w4.ownsRow B 26 4 (.slice p4 (m + 1) c4) (m + 1) ((acc ++ [(⟨kd, ky, vl, id'⟩ : EV)]).flatMap EV.cells)) := by
          refine hide ?_
          rw [List.flatMap_append]
          exact hown
        have HB5 : Hid (Below W.heap.size W w4) := hide (HB3.out.trans (hoA.below HB3.out.size (fun i e => Nat.le_trans HWB.out (hgb i e))))
        have HS5 : Hid (B ≤ w4.heap.size) := hide (Nat.le_trans HS3.out hoA.size)
        have HAL5 : Hid ((acc ++ [(⟨kd, ky, vl, id'⟩ : EV)]).length = m + 1) := hide (by rw [List.length_append, HAL.out]; rfl)
        clear hown hgrow hoA hgb HO3 HOA HSG HU3 HB3 HS3
        go_wp2
        exact ⟨⟨i + 1, m + 1, acc ++ [⟨kd, ky, vl, id'⟩], l1, e1, p4, c4, p3, c3, by omega, by first | rfl | go_num | (congr 1; omega), rfl, by omega, HAL5, HU5, HO5, HGN, HB5, HS5⟩, by simp [intOf]; omega⟩
      · obtain ⟨rfl, rfl, rfl⟩ := HG.out.stop (.inr he)
        have HCL := hide (rclose_any HU.out)
        rw [HCC.out] at HCL
        have ce := HU.out.c1
        have ne1 := ne_eq he
        clear he
        go_wp2_with fail
        refine HCL.out.mono ?_
        rintro _ w6 ⟨rfl, rfl⟩
        clear HCL
        by_cases hc : cc = 0
        · subst hc
          have HQ := parse_yes HH1.out (by simp) HH2.out HCC.out
          rw [HHR.out] at HQ
          simp only [Prod.mk.injEq] at HQ
          obtain ⟨rfl, rfl⟩ := HQ
          have HF := hide (ownsRow_base HOW.out HWB.out)
          have hal := HAL.out
          subst hal
          go_wp2
          go_ret2
          exact ⟨p1, c1, rfl, HF.out, HB.out⟩
        · have HQ := parse_no HH1.out (by simp) HH2.out (by rw [HCC.out]; exact hc)
          rw [HHR.out, HCC.out] at HQ
          simp only [Prod.mk.injEq] at HQ
          obtain ⟨rfl, rfl⟩ := HQ
          have ne2 : (c != 0) = true := by simpa using hc
          clear hc
          go_wp2
          go_ret2
          exact ⟨none, 0, rfl, World.ownsRow_nil _ _ _ _, HB.out⟩
    · obtain rfl : i = n := by omega
      obtain ⟨rfl, rfl, rfl⟩ := HG.out.stop (.inl (by omega))
      have HCL := hide (rclose_any HU.out)
      rw [HCC.out] at HCL
      go_wp2_with fail
      refine HCL.out.mono ?_
      rintro _ w6 ⟨rfl, rfl⟩
      clear HCL
      by_cases hc : cc = 0
      · subst hc
        have HQ := parse_yes HH1.out (by simp) HH2.out HCC.out
        rw [HHR.out] at HQ
        simp only [Prod.mk.injEq] at HQ
        obtain ⟨rfl, rfl⟩ := HQ
        have HF := hide (ownsRow_base HOW.out HWB.out)
        have hal := HAL.out
        subst hal
        go_wp2
        go_ret2
        exact ⟨p1, c1, rfl, HF.out, HB.out⟩
      · have HQ := parse_no HH1.out (by simp) HH2.out (by rw [HCC.out]; exact hc)
        rw [HHR.out, HCC.out] at HQ
        simp only [Prod.mk.injEq] at HQ
        obtain ⟨rfl, rfl⟩ := HQ
        have ne2 : (c != 0) = true := by simpa using hc
        clear hc
        go_wp2
        go_ret2
        exact ⟨none, 0, rfl, World.ownsRow_nil _ _ _ _, HB.out⟩
end Go.Proofs.Ytihbdlbnpkmafaa
