/-
  RunFair: what is taken in turn of each list is a beginning of it, and the counts differ by at most one. The condition: what is handed in holds at most 1048576 values.
-/
import Derived.Test.YtbcllgddogghbaaRlt
import Derived.Test.YtbcllgddogghbaaRmx
import Derived.Test.YtbcllgddogghbaaQui
namespace Go.Proofs.Ytbcllgddogghbaa
open Go.RowKit Go.Shelf
theorem RRow.take {W : World} {p : Option Addr} {c : Nat} {rs : List RC} (h : RRow W p c rs) (m : Nat) : RRow W p c (rs.take m) := by
  refine ⟨Nat.le_trans (by rw [List.length_take]; omega) h.le, h.top, h.nil, fun i hi => ?_⟩
  have hi' : i < rs.length := by rw [List.length_take] at hi; omega
  rw [getElem!_pos (rs.take m) i hi, List.getElem_take, ← getElem!_pos rs i hi']
  exact h.cell i hi'
theorem who0 (n k : Nat) : whoC n 0 k = k % n := by unfold whoC; rw [Nat.zero_add]
theorem count_step {n k i : Nat} (hn : 0 < n) (hi : i < n) : countC n 0 (k + 1) i = countC n 0 k i + if k % n = i then 1 else 0 := by
  rw [count_next hn hi, who0]
  by_cases h : i = k % n
  · rw [if_pos h, if_pos h.symm]
  · rw [if_neg h, if_neg (fun e => h e.symm)]
theorem taken_at {ls : List (List RC)} {t N j : Nat} (hj : j < N) : (takenC ls t N)[j]! = recAt ls t j := by
  unfold takenC
  rw [List.getElem!_eq_getElem?_getD, List.getElem?_map, List.getElem?_range hj]
  rfl
theorem count_le (n t N i : Nat) : countC n t N i ≤ N / n + 1 := by
  unfold countC
  repeat' split
  all_goals omega
theorem minT_le {l : List Int} : ∀ k, k ≤ l.length → minT l k ≤ l.getD 0 0
  | 0, _ => Int.le_refl _
  | k + 1, hk => by
    have ih := minT_le (l := l) k (by omega)
    rw [minT_next (by omega)]
    split <;> omega
/-- The next of those that are taken of a list. -/
theorem mine_next {xs : List SV} {n k i : Nat} (hn : xs.length = n) (h0 : 0 < n) (hi : i < n) (hl : LongC (xs.map SV.rs) 0 k) (hk : k % n = i) {x : SV} (hx : xs[i]! = x) : countC n 0 k i < x.rs.length ∧ x.rs.take (countC n 0 k i + 1) = x.rs.take (countC n 0 k i) ++ [recAt (xs.map SV.rs) 0 k] := by
  have hw : whoC n 0 k = i := by rw [who0]; exact hk
  have hc := count_who (n := n) (t := 0) (N := k) h0
  rw [hw] at hc
  unfold LongC at hl
  rw [List.length_map, hn, hw, lenAt_map (by omega), hx] at hl
  have hr : recAt (xs.map SV.rs) 0 k = x.rs[k / n]! := by rw [recAt_map (by rw [hn, hw]; omega), hn, hw, hx]
  rw [hc]
  refine ⟨hl, ?_⟩
  rw [List.take_succ_eq_append_getElem hl, hr, getElem!_pos x.rs (k / n) hl]
end Go.Proofs.Ytbcllgddogghbaa
namespace Go.Proofs.Ytbcllgddogghbaa.runFair
open Go.RowKit Go.Shelf Go.Proofs.Ytbcllgddogghbaa Go.ChangeShapes Go.WideShapes Go.ChangeAt

attribute [local irreducible] wpQuiet in
set_option maxRecDepth 100000 in
set_option maxHeartbeats 8000000 in
theorem walk {W : World} {p : Option Addr} {cap : Nat} {xs : List SV} (hx : LL W p cap xs) (_hfine : ∀ x ∈ xs, ∀ r ∈ x.rs, r.fine) (hw : weightL (xs.map SV.rs) + 1 ≤ 1048576) :
    Calls Try.prog 5 #[.slice p xs.length cap] W fun e w' => e = .returned (.bool true) ∧ Below W.heap.size W w' := by
  obtain ⟨i0, hI0, hz0, hz1, hz2⟩ := info_parts Try.infoRec
  obtain ⟨n, hn⟩ : ∃ n, xs.length = n := ⟨_, rfl⟩
  have hml : (xs.map SV.rs).length = n := by rw [List.length_map]; exact hn
  have hnb : n ≤ 1048576 := by have := weight_len (xs.map SV.rs); omega
  have i1 := hx.row.le
  have i2 := hx.row.top
  rw [hn] at i1 ⊢
  by_cases h0 : 0 < n
  · have hst := turn_stop (ls := xs.map SV.rs) (t := 0) (by omega)
    have hsm := turnN_small (ls := xs.map SV.rs) (t := 0) (by omega) hw
    obtain ⟨N, hN⟩ : ∃ N, turnN (xs.map SV.rs) 0 = N := ⟨_, rfl⟩
    rw [hN] at hst hsm
    have HT := hide (turns_any hx hn h0 hst hnb hsm)
    obtain ⟨t, ht⟩ : ∃ t, whoC n 0 N = t := ⟨_, rfl⟩
    have htn : t < n := by rw [← ht]; exact who_lt h0
    rw [ht] at HT
    have hlenb : ∀ x ∈ xs, x.rs.length ≤ 1048576 := fun x h => by have := weight_mem (xs.map SV.rs) x.rs (List.mem_map_of_mem h); omega
    have HLB := hide hlenb
    have hend : countC n 0 N t = (xs[t]!).rs.length := by
      have h9 := stop_eq (by omega) hst
      rw [hml, ht, lenAt_map (by omega)] at h9
      rw [← h9, ← ht, count_who h0]
    have HEND := hide hend
    have HX := hide hx
    have HNX := hide hn
    have HST := hide hst
    have HML := hide hml
    have hNb : N ≤ 8796093022208 := by omega
    have HCL : Hid (∀ i, i < n → countC n 0 N i ≤ (xs[i]!).rs.length) := hide (fun i h => by
      have h9 := count_len (ls := xs.map SV.rs) (t := 0) (N := N) (i := i) (by omega) (by omega) N hst.long
      rw [hml, lenAt_map (by omega)] at h9
      exact h9)
    have HTL : Hid ((takenC (xs.map SV.rs) 0 N).length = N) := hide taken_len
    clear hx hn hst hsm hN ht hlenb hend hml hw _hfine
    go_enter Try.func5, Try.ntmps5
    go_wp2_with fail
    refine HT.out.mono ?_
    rintro _ w1 ⟨p1, c1, g2, rfl, O1, O2, B1⟩
    have HO1 := hide O1
    have HO2 := hide O2
    have HB1 := hide B1
    obtain ⟨_, _, ef, q1, q2⟩ := own_form O1
    simp only [Value.slice.injEq] at ef
    obtain ⟨rfl, _, rfl⟩ := ef
    clear O1 O2 B1 HT
    have hn0 : ((n : Int) == 0) = false := by simpa using (show n ≠ 0 by omega)
    go_wp2_with fail
    refine begun_any.mono ?_
    rintro _ w2 ⟨rfl, B2⟩
    have HO12 := hide (ownsRow_later HO1.out B2)
    have HO22 := hide (ownsRow_later HO2.out B2)
    have HB2 := hide (HB1.out.trans (B2.mono HB1.out.size))
    clear B2 HO1 HO2 HB1
    have hrow2 := own_row HO22.out
    have hct : w2.cell? ⟨g2, t, none⟩ = some (.int .i64 ((countC n 0 N t : Nat) : Int)) := by rw [own_int_at HO22.out (countsC_len _ _ _) htn, countsC_at htn]
    have htx : t < xs.length := by rw [HNX.out]; exact htn
    obtain ⟨gl, ol, rfl, hcl⟩ := (HX.out.later HB2.out).at htx
    rw [HEND.out] at hct
    obtain ⟨tl, htl⟩ : ∃ tl, (xs[t]!).rs.length = tl := ⟨_, rfl⟩
    rw [htl] at hct hcl
    obtain ⟨tp, htp⟩ : ∃ tp, (xs[t]!).p = tp := ⟨_, rfl⟩
    obtain ⟨tc, htc⟩ : ∃ tc, (xs[t]!).c = tc := ⟨_, rfl⟩
    rw [htp, htc] at hcl
    obtain ⟨mx, hmx⟩ : ∃ mx, maxT (countsC n 0 N) n = mx := ⟨_, rfl⟩
    obtain ⟨mn, hmn⟩ : ∃ mn, minT (countsC n 0 N) n = mn := ⟨_, rfl⟩
    have hd : mx - mn ≤ 1 ∧ 0 ≤ mn ∧ mx ≤ 8796093022300 ∧ 0 ≤ mx ∧ mn ≤ 8796093022300 := by
      have hl := countsC_len n 0 N
      have hg : ∀ i, i < n → (countsC n 0 N).getD i 0 = ((countC n 0 N i : Nat) : Int) := fun i hi => countsC_at hi
      have hbig : ∀ i k, i < n → k < n → ((countC n 0 N i : Nat) : Int) ≤ ((countC n 0 N k : Nat) : Int) + 1 := fun i k _ _ => by
        have := count_near (n := n) (t := 0) (N := N) (i := i) (k := k)
        omega
      have h1 : ∀ k, k < n → mx ≤ ((countC n 0 N k : Nat) : Int) + 1 := fun k hk => by
        rw [← hmx]
        exact maxT_bound (fun i hi => by rw [hg i (by omega)]; exact hbig i k (by omega) hk) (by omega) n (by omega)
      have h2 : mx - 1 ≤ mn := by
        rw [← hmn]
        exact minT_bound (fun i hi => by rw [hg i (by omega)]; have := h1 i (by omega); omega) (by omega) n (by omega)
      have h3 : 0 ≤ mn := by
        rw [← hmn]
        exact minT_bound (fun i hi => by rw [hg i (by omega)]; omega) (by omega) n (by omega)
      have h4 : ((countC n 0 N 0 : Nat) : Int) ≤ (N : Int) + 1 := by
        have h9 : N / n ≤ N := Nat.div_le_self _ _
        have := count_le n 0 N 0
        omega
      have h5 := h1 0 h0
      have h6 : (0 : Int) ≤ mx := by
        rw [← hmx]
        have h7 : ∀ k, k ≤ n → (0 : Int) ≤ maxT (countsC n 0 N) k := by
          intro k
          induction k with
          | zero => intro _; show (0 : Int) ≤ (countsC n 0 N).getD 0 0; rw [hg 0 h0]; omega
          | succ k ih =>
            intro hk
            have := ih (by omega)
            rw [maxT_next (by omega)]
            have h8 := hg k (by omega)
            split <;> omega
        exact h7 n (Nat.le_refl _)
      have h7 : mn ≤ ((countC n 0 N 0 : Nat) : Int) := by
        rw [← hmn, ← hg 0 h0]
        exact minT_le n (by omega)
      exact ⟨by omega, h3, by omega, h6, by omega⟩
    have hrd := hrow2.below ((Below.refl _ w2).drew)
    have HMX := hide (max_any hrd h0)
    have HMN := hide (min_any hrd h0)
    rw [hmx] at HMX
    rw [hmn] at HMN
    have u0 : decide ((t : Int) < 0) = false := decide_eq_false (by omega)
    have u1 : decide ((t : Int) ≥ (n : Int)) = false := decide_eq_false (by omega)
    have u2 : decide (n ≤ t) = false := decide_eq_false (by omega)
    have u3 : decide (mx - mn > 1) = false := decide_eq_false (by omega)
    have u4 : decide (1 < mx - mn) = false := decide_eq_false (by omega)
    have u5 : IntKind.i64.wrap (mx - mn) = mx - mn := by rw [IntKind.wrap_i64]; omega
    have u6 : (0 : Int) ≤ (t : Int) := by omega
    have u7 : (t : Int) < (n : Int) := by omega
    clear hrow2 hrd hmx hmn hd htl htp htc
    go_upto_region 6 with fail
    refine region_class (fun X => X = w2.drew) (by kernel_rfl) (by kernel_rfl) rfl ?_
    repeat
      first
        | (refine BigFrame.wpQuiet_skip (by rfl) ?_
           simp only [Act.put, List.setIfInBounds_toArray, List.set_cons_zero, List.set_cons_succ])
        | (refine BigFrame.wpQuiet_want (by rfl) (fun K hK => ?_)
           unfold Oper.quiet
           apply Exists.intro
           refine ⟨fun X hX => ?_, hK _ ?_⟩
           · subst hX
             first
              | (go_simp; done)
              | (go_simp; exact rfl)
              | (go_simp
                 (go_at_call 17; refine HMX.out.mono ?_; rintro e w3 ⟨rfl, rfl⟩; exact ⟨rfl, rfl⟩))
              | (go_simp
                 (go_at_call 18; refine HMN.out.mono ?_; rintro e w3 ⟨rfl, rfl⟩; exact ⟨rfl, rfl⟩))
           clear hK K
           simp only [Act.put, List.setIfInBounds_toArray, List.set_cons_zero, List.set_cons_succ])
    refine wpQuiet_nil (fun X hX => ?_)
    have hBX : Below w2.heap.size w2 X := by rw [hX]; exact (Below.refl _ w2).drew
    have HO1X := hide (ownsRow_later HO12.out hBX)
    have HO2X := hide (ownsRow_later HO22.out hBX)
    have HBX := hide (HB2.out.trans (hBX.mono HB2.out.size))
    clear hX hBX HMX HMN hct hcl HO12 HO22 u0 u1 u2 u3 u4 u5
    go_wp2_with fail
    go_loopw [62] (fun s wr => ∃ i : Nat, i ≤ n ∧ s = .int .i64 (i : Int) ∧ Hid (Below X.heap.size X wr)) (fun s _ => n - (intOf s).toNat)
    case atStart => exact ⟨0, Nat.zero_le _, rfl, hide (Below.refl _ _)⟩
    case round =>
      obtain ⟨i, hi, rfl, HBr⟩ := hrel
      rename World => wr
      by_cases hlt : i < n
      · have hlt2 : i < xs.length := by rw [HNX.out]; exact hlt
        have hBW : Below W.heap.size W wr := HBX.out.trans (HBr.out.mono HBX.out.size)
        have hll := HX.out.later hBW
        obtain ⟨gl', ol', e', hcx⟩ := hll.at hlt2
        simp only [Option.some.injEq, Addr.mk.injEq, and_true] at e'
        obtain ⟨rfl, rfl⟩ := e'
        have hxm : xs[i]! ∈ xs := by rw [getElem!_pos xs i hlt2]; exact List.getElem_mem _
        have hrow := hll.ok _ hxm
        have hcle := HCL.out i hlt
        have hlb := HLB.out _ hxm
        obtain ⟨x, hxx⟩ : ∃ x, xs[i]! = x := ⟨_, rfl⟩
        rw [hxx] at hcx hrow hcle hlb
        have HXX := hide hxx
        obtain ⟨rs, xp, xc⟩ := x
        simp only at hcx hcle hlb
        have hrow2 : RRow wr xp xc rs := hrow
        have hrl := hrow2.le
        have hrt := hrow2.top
        obtain ⟨RL, hRL⟩ : ∃ RL, rs.length = RL := ⟨_, rfl⟩
        rw [hRL] at hcx hcle hlb hrl
        have HRL := hide hRL
        have HRR := hide hrow2
        have HBW := hide hBW
        clear hxm hrow hrow2 hll hxx hRL hBW
        go_wp2_with fail
        go_loopw [8, 69] (fun s k wq => ∃ (j m : Nat) (p3 : Option Addr) (c3 : Nat), j ≤ N ∧ k = .int .i64 (j : Int) ∧ s = .slice p3 m c3 ∧ Hid (countC n 0 j i = m) ∧ Hid (wq.ownsRow wr.heap.size 40 2 (.slice p3 m c3) m ((rs.take m).flatMap RC.cells)) ∧ Hid (Below wr.heap.size wr wq)) (fun _ k _ => N - (intOf k).toNat)
        case atStart => exact ⟨0, 0, none, 0, Nat.zero_le _, rfl, rfl, hide count_zero, hide (World.ownsRow_nil _ _ _ _), hide (Below.refl _ _)⟩
        case round =>
          obtain ⟨j, m, p3, c3, hj, rfl, rfl, HCM, HOM, HBq⟩ := hrel
          rename World => wq
          by_cases hjl : j < N
          · have hjl2 : j < (takenC (xs.map SV.rs) 0 N).length := by rw [HTL.out]; exact hjl
            have hor := LRow.of_own RC.len HTL.out (ownsRow_later (ownsRow_later HO1X.out HBr.out) HBq.out)
            obtain ⟨r, hr⟩ : ∃ r, (takenC (xs.map SV.rs) 0 N)[j]! = r := ⟨_, rfl⟩
            have hrr : recAt (xs.map SV.rs) 0 j = r := by rw [← hr, taken_at hjl]
            obtain ⟨g5, o5, rfl, d0, d1⟩ := RRow.at hor hjl2 hr
            have hlg := HST.out.long j hjl
            have hcs := count_step (k := j) h0 hlt
            rw [HCM.out] at hcs
            obtain ⟨ky, vl⟩ := r
            simp only at d0 d1
            have ab := alloc_below wq (.cells #[.int .i64 ky, .int .i64 vl] 40 (0, 0))
            have hmod : ((j : Int) % (n : Int)) = ((j % n : Nat) : Int) := by rw [Int.natCast_emod]
            obtain ⟨jm, hjm⟩ : ∃ jm, j % n = jm := ⟨_, rfl⟩
            rw [hjm] at hcs hmod
            have hjN : j ≤ 8796093022208 := by omega
            by_cases hq : jm = i
            · subst hq
              obtain ⟨hm1, hm2⟩ := mine_next HNX.out h0 hlt hlg hjm HXX.out
              rw [HCM.out] at hm1 hm2
              simp only at hm1 hm2
              rw [hrr] at hm2
              rw [if_pos rfl] at hcs
              have HC2 := hide hcs
              have HM2 := hide hm2
              have hm1b : m ≤ 1048576 := by have := HRL.out; omega
              have ab2 := alloc_below (wq.alloc (.cells #[.int .i64 ky, .int .i64 vl] 40 (0, 0))) (.cells #[.int .i64 ky, .int .i64 vl] 40 (0, 0))
              have HAB := hide (ab.trans (ab2.mono ab.size))
              have HSG : Hid (Seg ((wq.alloc (.cells #[.int .i64 ky, .int .i64 vl] 40 (0, 0))).alloc (.cells #[.int .i64 ky, .int .i64 vl] 40 (0, 0))) 2 (.slice (some ⟨(wq.alloc (.cells #[.int .i64 ky, .int .i64 vl] 40 (0, 0))).heap.size, 0, none⟩) 1 1) 1 [.int .i64 ky, .int .i64 vl]) := hide (Seg.news (heap_alloc_new _ _) (by simp [Value.oneCell']) rfl (Nat.le_refl _) (by decide))
              rw [World.size_alloc] at HSG
              have HRW := hide (ownsRow_later (ownsRow_later HOM.out ab) ab2)
              have HK1 : Hid (m + 1 ≤ maxLen) := by show _ ≤ _; unfold maxLen; omega
              have HK2 : Hid ((m + 1) * 16 ≤ 140737488355328) := by show _ ≤ _; omega
              have HBS : Hid (wr.heap.size ≤ ((wq.alloc (.cells #[.int .i64 ky, .int .i64 vl] 40 (0, 0))).alloc (.cells #[.int .i64 ky, .int .i64 vl] 40 (0, 0))).heap.size) := hide (Nat.le_trans HBq.out.size HAB.out.size)
              have qm : (((j : Int) % (n : Int)) == (jm : Int)) = true := by rw [hmod]; simp
              clear hor hr hrr hlg hcs ab ab2 hmod hm2
              go_wp2_with (at_builtin; refine append_cells _ rfl (.tmp 80) (.tmp 82) 23 rfl wr.heap.size 40 i0 (.agg #[.int .i64 0, .int .i64 0]) 2 16 Try.underlying23 hI0 hz0 hz1 hz2 rfl (by decide) (.slice p3 m c3) m _ rfl HRW.out (.slice (some ⟨wq.heap.size + 1, 0, none⟩) 1 1) 1 _ rfl HSG.out HK1.out HK2.out HBS.out ?_)
              intro p' c' w5 hown hgrow
              have HB5 : Hid (Below wr.heap.size wr w5) := hide ((HBq.out.trans (HAB.out.mono HBq.out.size)).grown hgrow (Nat.le_trans HBq.out.size HAB.out.size) (fun i hi => own_block_base HRW.out hi))
              have HO5 : Hid (w5.ownsRow wr.heap.size 40 2 (.slice p' (m + 1) c') (m + 1) ((rs.take (m + 1)).flatMap RC.cells)) := by
                refine hide ?_
                rw [HM2.out, List.flatMap_append]
                exact hown
              clear hown hgrow
              go_wp2
              exact ⟨⟨j + 1, m + 1, p', c', by omega, by first | rfl | go_num, rfl, HC2, HO5, HB5⟩, by simp [intOf]; omega⟩
            · rw [if_neg hq, Nat.add_zero] at hcs
              have HC2 := hide hcs
              have HO5 := hide (ownsRow_later HOM.out ab)
              have HB5 := hide (HBq.out.trans (ab.mono HBq.out.size))
              have qm : (((j : Int) % (n : Int)) == (i : Int)) = false := by
                rw [hmod]
                simpa using (show ¬ (jm : Int) = (i : Int) by omega)
              clear hor hr hrr hlg hcs ab hmod
              go_wp2
              exact ⟨⟨j + 1, m, p3, c3, by omega, by first | rfl | go_num, rfl, HC2, HO5, HB5⟩, by simp [intOf]; omega⟩
          · obtain rfl : j = N := by omega
            have hcm := HCM.out
            rw [hcm] at hcle
            have hBq2 : Below X.heap.size X wq := HBr.out.trans (HBq.out.mono HBr.out.size)
            have hci : wq.cell? ⟨g2, i, none⟩ = some (.int .i64 (m : Int)) := by rw [own_int_at (ownsRow_later HO2X.out hBq2) (countsC_len _ _ _) hlt, countsC_at hlt, hcm]
            have htk : (rs.take m).length = m := by rw [List.length_take]; have := HRL.out; omega
            have HEQ := hide (eqrc_any (L := m) (LRow.of_own RC.len htk HOM.out) (RRow.take (RRow.later HRR.out HBq.out) m) htk)
            have v1 : ((m : Int) != (m : Int)) = false := by simp
            have v2 : decide ((m : Int) > (RL : Int)) = false := decide_eq_false (by omega)
            have v3 : decide (RL < m) = false := decide_eq_false (by omega)
            have v4 : (m : Int) ≤ (xc : Int) := by omega
            obtain ⟨_, _, ef3, q3, q4⟩ := own_form HOM.out
            simp only [Value.slice.injEq] at ef3
            obtain ⟨rfl, _, rfl⟩ := ef3
            have HBqX := hide hBq2
            clear hcm hBq2 htk
            go_wp2_with fail
            refine HEQ.out.mono ?_
            rintro _ w6 ⟨rfl, B6⟩
            have HB6 := hide (HBqX.out.trans (B6.mono HBqX.out.size))
            clear B6 HEQ
            go_wp2
            exact ⟨⟨i + 1, by omega, by first | rfl | go_num, HB6⟩, by simp [intOf]; omega⟩
      · obtain rfl : i = n := by omega
        have HBF := hide (HBX.out.trans (HBr.out.mono HBX.out.size))
        go_wp2
        go_ret
        exact ⟨rfl, HBF.out⟩
  · obtain rfl : n = 0 := by omega
    have HT := hide (turnsB_any (tt := 0) hx hn (.inr (Int.le_refl _)) hnb)
    clear hx hn hml hw _hfine
    go_enter Try.func5, Try.ntmps5
    go_wp2_with fail
    refine HT.out.mono ?_
    rintro _ w1 ⟨g2, rfl, _, B1⟩
    have HB1 := hide B1
    clear B1 HT
    go_wp2_with fail
    refine begun_any.mono ?_
    rintro _ w2 ⟨rfl, B2⟩
    have HB2 := hide (HB1.out.trans (B2.mono HB1.out.size))
    clear B2
    go_wp2
    go_ret
    exact ⟨rfl, HB2.out⟩
theorem short {H : Type} {d0 : DataW H} (hk : Rows.uptoSmall H [d0] = true) : Rows.uptoBulk d0 ≤ 1048576 := by
  have h : Rows.uptoBulkAll [d0] ≤ 1048576 := of_decide_eq_true hk
  simp only [Rows.uptoBulkAll] at h
  omega

set_option maxRecDepth 100000 in
theorem contract (H : Type) (enc : TypeId × Value → H) (W : World) (base : Nat) (args : Array Value) (ds gs : List (DataW H)) (before : List MemPlace)
    (hval : ∀ (j : Nat) t v, Try.f5.params[j]? = some t → args[j]? = some v → Value.okWide Try.prog W .any base t v)
    (hW : DataW.Whole enc Try.prog Try.f5.params.toList Rows.runFairSpec.vars false W args.toList ds gs before) (hk : Rows.uptoSmall H (ds ++ gs) = true) :
    Calls Try.prog 5 args W fun e W' => ∃ v, e = .returned v ∧ Rows.runFairSpec.post enc Try.prog Try.f5 false true false false W args v W' := by
  have hW' := hW
  obtain ⟨p, q, hA0, hV, rfl, hfz, hnd⟩ := hW
  have hA : DataW.TrodAll enc Try.prog W 0 (fun _ => true) true Try.f5.params.toList args.toList ds p := hA0
  rw [Try.params5] at hA hval
  obtain ⟨v0, vs0, d0, ds0, p0, q0, hargs, rfl, rfl, h0, r0⟩ := trodAll_cons hA
  obtain ⟨rfl, rfl, rfl⟩ := trodAll_nil r0
  obtain rfl : args = #[v0] := by cases args; simp_all
  obtain ⟨rfl, rfl⟩ := trodVars_none hV
  obtain ⟨a0, len0, cap0, rfl⟩ := okWide_slice Try.underlying22 (hval 0 22 v0 rfl rfl)
  have k0 := h0
  have lt0 : ∀ x ∈ p0, x.block < W.heap.size := by obtain ⟨m, hm⟩ := k0; exact DataW.trod_lt m _ _ _ hm
  obtain ⟨f0, hf0⟩ := h0
  have hcc0 : (Value.slice a0 len0 cap0).cells.toList = [.slice a0 len0 cap0] := by simp [Value.cells]
  rw [hcc0] at hf0
  obtain ⟨pp0, pc0, xs0, ee0, R0, F0, B0⟩ := arg_lists hf0
  simp only [Value.slice.injEq] at ee0
  obtain ⟨rfl, rfl, rfl⟩ := ee0
  simp only [List.append_nil] at hk
  have s0 := short hk
  simp only at B0
  clear hA0
  refine (walk R0 F0 (by omega)).mono fun e W' ⟨he, bel⟩ => ?_
  subst he
  exact ⟨_, rfl, _, _, _, [], _, [], hW', trodAll_mk1 (shut_bool Try.underlying4 _), (trodAll_cons_mk (Below.trod Try.laidOut (by kernel_rfl) (of_decide_eq_true (by kernel_rfl)) k0 bel lt0) trodAll_mk0), rfl, bel.frame _, fun h => by cases h⟩

set_option maxRecDepth 100000 in
theorem lifted (os : Os) (started : os.Started) (H : Type) (enc : TypeId × Value → H) (F : Stop.Interp) :
    ReturnsInHanded {} Try.checked os 5 .any ((Rows.OpenSpec.upto Rows.runFairSpec).pre6 enc Try.prog Try.f5 Rows.runFairUptoRow.domain false) (((Rows.OpenSpec.upto Rows.runFairSpec).at F).post enc Try.prog Try.f5 false true false false) := by
  refine returnsInHanded_of_cond (C := Try.checked) (s := Rows.OpenSpec.upto Rows.runFairSpec) (k := Rows.uptoSmall) rfl Try.ownK started (by kernel_rfl) Try.func5
    (OpenSpec.witness (enc := enc) (C := Try.checked) (s := Rows.OpenSpec.upto Rows.runFairSpec) (k := Rows.uptoSmall) rfl false ⟨#[], #[.slice none 0 0], []⟩ 8 (by kernel_rfl) (by kernel_rfl) (by kernel_rfl)
      (x := ([.nil], [], [])) (by kernel_rfl) rfl (by kernel_rfl)) ?_
  intro W base args ds gs before hval hW _ hk _
  exact contract H enc W base args ds gs before hval hW hk

set_option maxRecDepth 100000 in
theorem proved : Rows.RunFairUptoSaid :=
  OpenClaim.holds_of_cond 5 Try.f5 rfl rfl rfl rfl rfl rfl rfl ⟨rfl, rfl, rfl, rfl, rfl⟩ rfl rfl rfl rfl rfl (by kernel_rfl) Try.func5 (by kernel_rfl)
    (of_decide_eq_true (by kernel_rfl)) (by unfold Func.isWrapper; first | (rw [if_pos (by decide +kernel)]; kernel_rfl) | (rw [if_neg (by decide +kernel)]; exact ⟨rfl, rfl⟩))
    (fun os started H enc _ F => lifted os started H enc F)

end Go.Proofs.Ytbcllgddogghbaa.runFair
