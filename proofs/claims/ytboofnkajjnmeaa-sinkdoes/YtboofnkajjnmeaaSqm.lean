/-
 Pre of the reference's sink. The conditions: that it and the transaction's lists lie there.
-/
import Derived.Test.YtboofnkajjnmeaaTk0
import Derived.Test.YtboofnkajjnmeaaSqd
namespace Go.Proofs.Ytboofnkajjnmeaa
open Go.RowKit Go.Maps Go.Shelf

theorem LRow.tailG {α : Type} [Inhabited α] {cells : α → List Value} {n : Nat} {W : World} {p : Option Addr} {c : Nat} {rs : List α} (h : LRow cells n W p c rs) {j : Nat} (hj : j ≤ rs.length) : LRow cells n W (if c = j then p else Option.map (fun x => x.add (j * n)) p) (c - j) (rs.drop j) := by
 have h1 := h.le; have h2 := h.top
 refine ⟨by rw [List.length_drop]; omega, by omega, ?_, ?_⟩
 ·intro e
  by_cases hc : c = j
  ·omega
  ·rw [if_neg hc] at e
   have := h.nil (by simpa using e)
   omega
 ·intro i hi
  rw [List.length_drop] at hi
  obtain ⟨g, o, e, hcell⟩ := h.cell (j + i) (by omega)
  rw [if_neg (by omega), e]
  refine ⟨g, o + j * n, by simp [Addr.add], fun k hk => ?_⟩
  have := hcell k hk
  rw [getElem!_pos rs (j + i) (by omega)] at this
  rw [getElem!_pos (rs.drop j) i (by rw [List.length_drop]; omega), List.getElem_drop, ← this]
  congr 2
  rw [Nat.add_mul]
  omega
theorem LRow.takeG {α : Type} [Inhabited α] {cells : α → List Value} {n : Nat} {W : World} {p : Option Addr} {c : Nat} {rs : List α} (h : LRow cells n W p c rs) (k : Nat) : LRow cells n W p c (rs.take k) := by
 refine ⟨Nat.le_trans (by rw [List.length_take]; omega) h.le, h.top, h.nil, fun i hi => ?_⟩
 have hi' : i < rs.length := by rw [List.length_take] at hi; omega
 rw [getElem!_pos (rs.take k) i hi, List.getElem_take, ← getElem!_pos rs i hi']
 exact h.cell i hi'
theorem rsuits_l {b n : Nat} {W : World} {q : QK} {ep id bg : Int} {rp vp : Option Addr} {rn rc vn vc : Nat} {rs : List RC} {vs : List Int} (h : RS W b n q) (ho4 : q.out.length ≤ 4096) (hr : RRow W rp rc rs) (hv : NRow W vp vc vs) (hrn : rs.length = rn) (hvn : vs.length = vn) (hm : mayC q.vec.length ⟨ep, id, bg, rs, vs⟩) {r : Int} (hq : suitC q.sk ⟨ep, id, bg, rs, vs⟩ = r) :
  Calls Try.prog 69 #[.pointer (some ⟨b, 0, none⟩), .agg #[.int .i64 ep, .int .i64 id, .int .i64 bg, .slice rp rn rc, .slice vp vn vc]] W fun e w' => e = .returned (.int .i64 r) ∧ Below W.heap.size W w' := by
 subst hrn hvn
 exact rsuits_any (x := ⟨⟨ep, id, bg, rs, vs⟩, rp, rc, vp, vc⟩) h ho4 ⟨hr, hv⟩ hm hq
theorem insT_at (t : TX) : ∀ (l : List TX) (k : Nat), k ≤ l.length → (∀ j, j < k → l[j]!.id < t.id) → (k = l.length ∨ ¬ l[k]!.id < t.id) → insT t l = l.take k ++ t :: l.drop k
 | [], k, hk, _, _ => by
  obtain rfl : k = 0 := by simpa using hk
  rfl
 | x :: l, 0, _, _, h => by
  rcases h with h | h
  ·simp at h
  ·have h' : ¬ x.id < t.id := h
   unfold insT
   rw [if_neg h']
   rfl
 | x :: l, k + 1, hk, h1, h2 => by
  have h3 : x.id < t.id := h1 0 (by omega)
  unfold insT
  rw [if_pos h3, insT_at t l k (by simpa using hk) (fun j hj => h1 (j + 1) (by omega)) (by
    rcases h2 with h2 | h2
    · exact .inl (by simpa using h2)
    · exact .inr h2)]
  rfl
set_option maxRecDepth 100000 in
set_option maxHeartbeats 16000000 in
theorem rpre_nat {W : World} {b n : Nat} {q : QK} {ep id bg : Int} {rp vp : Option Addr} {rn rc vn vc : Nat} {rs : List RC} {vs : List Int} (h : RS W b n q) (hok : okS q.sk) (hpt : q.vec.length = n) (hr : RRow W rp rc rs) (hv : NRow W vp vc vs) (hrn : rs.length = rn) (hvn : vs.length = vn) (hxb : ∀ i, InC rp rc i ∨ InC vp vc i → ¬ i = b) :
  Calls Try.prog 35 #[.pointer (some ⟨b, 0, none⟩), .agg #[.int .i64 ep, .int .i64 id, .int .i64 bg, .slice rp rn rc, .slice vp vn vc]] W fun e w' => e = .returned (.int .i64 (preE n q.sk ⟨ep, id, bg, rs, vs⟩)) ∧ RPut W b n q (preS n q.sk ⟨ep, id, bg, rs, vs⟩) w' := by
 by_cases hm : mayC n ⟨ep, id, bg, rs, vs⟩
 ·by_cases hf : ep < q.reg
  ·have HM := hide hm
   have HQ : Hid (preE n q.sk ⟨ep, id, bg, rs, vs⟩ = 150 ∧ preS n q.sk ⟨ep, id, bg, rs, vs⟩ = q.sk) := hide (pre_late (s := q.sk) hm hf)
   have HQE : Hid (entC q.sk ep = 150 ∧ raisC q.sk ep = q.sk) := hide ⟨if_pos hf, if_neg (by show ¬ q.reg < ep; omega)⟩
   rw [HQ.out.1, HQ.out.2]
   clear hm hf; have HP := hide h; have HOK := hide hok; have HPT := hide hpt; have HR := hide hr; have HN := hide hv; have HRN := hide hrn; have HVN := hide hvn; have HXB := hide hxb; clear h hok hpt hr hv hrn hvn hxb
   obtain ⟨V, hV⟩ : ∃ V, V = W.alloc (.cells #[.int .i64 ep, .int .i64 id, .int .i64 bg, .slice rp rn rc, .slice vp vn vc] 34 (0, 0)) := ⟨_, rfl⟩
   have HV : Hid (V.heap[W.heap.size]? = some (.cells #[.int .i64 ep, .int .i64 id, .int .i64 bg, .slice rp rn rc, .slice vp vn vc] 34 (0, 0))) := hide (by rw [hV]; exact heap_alloc_new W _)
   have HBV : Hid (Below W.heap.size W V) := hide (by rw [hV]; exact alloc_below _ _)
   obtain ⟨bB, hbB⟩ : ∃ bB, W.heap.size = bB := ⟨_, rfl⟩
   rw [hbB] at HV HBV
   have HZbB := hide hbB
   have HBW : Hid (Below W.heap.size W V) := hide (by rw [HZbB.out]; exact HBV.out)
   have HPV : Hid (RS V b n q) := hide (HP.out.later HBW.out)
   go_enter Try.func35, Try.ntmps35
   go_upto_region 1 with fail
   rw [← hV]
   try rw [hbB]
   clear hV hbB; have u0 := cellB HV.out (i := 0) rfl; have u1 := cellB HV.out (i := 1) rfl; have u2 := cellB HV.out (i := 2) rfl; have u3 := cellB HV.out (i := 3) rfl; have u4 := cellB HV.out (i := 4) rfl
   go_wp2_with fail
   refine (rMay_any HPV.out.c0 (NRow.later HN.out HBW.out) HRN.out HVN.out (decide_eq_true HM.out)).mono ?_
   rintro _ V1 ⟨rfl, b1⟩
   have HB1 : Hid (Below W.heap.size W V1) := hide (HBW.out.trans (b1.mono HBW.out.size))
   have HV1 := hide (below_box b1 HV.out); have HP1 := hide (HP.out.later HB1.out); clear b1; clear u0 u1 u2 u3 u4; have u0 := cellB HV1.out (i := 0) rfl; have u1 := cellB HV1.out (i := 1) rfl; have u2 := cellB HV1.out (i := 2) rfl; have u3 := cellB HV1.out (i := 3) rfl; have u4 := cellB HV1.out (i := 4) rfl
   go_wp2_with fail
   refine (rraise_any HP1.out).mono ?_
   rintro _ w1 ⟨rfl, hp⟩
   rw [HQE.out.1]
   rw [HQE.out.2] at hp
   have HU := hide hp; clear hp u0 u1 u2 u3 u4; go_wp2; go_ret
   exact ⟨rfl, RPut.first HB1.out HU.out⟩
  ·obtain ⟨s1, hs1⟩ : ∃ s1, raisC q.sk ep = s1 := ⟨_, rfl⟩
   have HQE : Hid (entC q.sk ep = 0) := hide (if_neg hf)
   have HQ : Hid (preE n q.sk ⟨ep, id, bg, rs, vs⟩ = preE1 s1 ⟨ep, id, bg, rs, vs⟩ ∧ preS n q.sk ⟨ep, id, bg, rs, vs⟩ = preS1 s1 ⟨ep, id, bg, rs, vs⟩) := hide ⟨by unfold preE; rw [if_pos hm, if_neg (show ¬ ep < q.sk.reg from hf), hs1], by unfold preS; rw [if_pos hm, if_neg (show ¬ ep < q.sk.reg from hf), hs1]⟩
   have HOK1 : Hid (okS s1) := hide (by rw [← hs1]; unfold raisC; split; exact raise_ok hok hm.1; exact hok)
   have HV9 : Hid (s1.vec.length = n) := hide (by rw [← hs1, vec_rais]; exact hpt)
   have HS1 := hide hs1; have HM := hide hm
   rw [HQ.out.1, HQ.out.2]
   clear hm hf hs1; have HP := hide h; have HOK := hide hok; have HPT := hide hpt; have HR := hide hr; have HN := hide hv; have HRN := hide hrn; have HVN := hide hvn; have HXB := hide hxb; clear h hok hpt hr hv hrn hvn hxb
   obtain ⟨V, hV⟩ : ∃ V, V = W.alloc (.cells #[.int .i64 ep, .int .i64 id, .int .i64 bg, .slice rp rn rc, .slice vp vn vc] 34 (0, 0)) := ⟨_, rfl⟩
   have HV : Hid (V.heap[W.heap.size]? = some (.cells #[.int .i64 ep, .int .i64 id, .int .i64 bg, .slice rp rn rc, .slice vp vn vc] 34 (0, 0))) := hide (by rw [hV]; exact heap_alloc_new W _)
   have HBV : Hid (Below W.heap.size W V) := hide (by rw [hV]; exact alloc_below _ _)
   obtain ⟨bB, hbB⟩ : ∃ bB, W.heap.size = bB := ⟨_, rfl⟩
   rw [hbB] at HV HBV
   have HZbB := hide hbB
   have HBW : Hid (Below W.heap.size W V) := hide (by rw [HZbB.out]; exact HBV.out)
   have HPV : Hid (RS V b n q) := hide (HP.out.later HBW.out)
   go_enter Try.func35, Try.ntmps35
   go_upto_region 1 with fail
   rw [← hV]
   try rw [hbB]
   clear hV hbB; have u0 := cellB HV.out (i := 0) rfl; have u1 := cellB HV.out (i := 1) rfl; have u2 := cellB HV.out (i := 2) rfl; have u3 := cellB HV.out (i := 3) rfl; have u4 := cellB HV.out (i := 4) rfl
   go_wp2_with fail
   refine (rMay_any HPV.out.c0 (NRow.later HN.out HBW.out) HRN.out HVN.out (decide_eq_true HM.out)).mono ?_
   rintro _ V1 ⟨rfl, b1⟩
   have HB1 : Hid (Below W.heap.size W V1) := hide (HBW.out.trans (b1.mono HBW.out.size))
   have HV1 := hide (below_box b1 HV.out); have HP1 := hide (HP.out.later HB1.out); clear b1; clear u0 u1 u2 u3 u4; have u0 := cellB HV1.out (i := 0) rfl; have u1 := cellB HV1.out (i := 1) rfl; have u2 := cellB HV1.out (i := 2) rfl; have u3 := cellB HV1.out (i := 3) rfl; have u4 := cellB HV1.out (i := 4) rfl
   go_wp2_with fail
   refine (rraise_any HP1.out).mono ?_
   rintro _ w1 ⟨rfl, q1, h1, h2, h3, h4⟩
   rw [HQE.out]
   rw [HS1.out] at h2
   have HP2 := hide h1; have HK1 := hide h2; have HO1 := hide h3; have HB4 := hide h4
   have HV2 := hide (h3.obj HV1.out (fun e9 => by have e8 : bB = b := e9; have := HP.out.bl; have := HZbB.out; omega))
   have HR2 : Hid (RRow w1 rp rc rs) := hide ((HR.out.later HB1.out).onlyC RC.len h3 (fun i hi => HXB.out i (.inl hi)))
   have HN2 : Hid (NRow w1 vp vc vs) := hide ((HN.out.later HB1.out).onlyC intCells_len h3 (fun i hi => HXB.out i (.inr hi)))
   have HLT : Hid (∀ {s : SK} {w2 : World}, RPut w1 b n q1 s w2 → RPut W b n q s w2) := hide (fun h9 => RPut.first HB1.out (RPut.trans HO1.out HB4.out h9))
   clear h1 h2 h3 h4 u0 u1 u2 u3 u4
   have HQV : Hid (q1.vec.length = n) := hide (by have h9 : q1.sk.vec.length = n := (by rw [HK1.out]; exact HV9.out); exact h9)
   have HQL : Hid (q1.ts.length ≤ 8 ∧ q1.out.length ≤ 4096) := hide ⟨by have h9 := HOK1.out.room; rw [← HK1.out] at h9; simpa [QK.sk] using h9, by have h9 := HOK1.out.out; rw [← HK1.out] at h9; exact h9⟩
   have u0 := cellB HV2.out (i := 0) rfl; have u1 := cellB HV2.out (i := 1) rfl; have u2 := cellB HV2.out (i := 2) rfl; have u3 := cellB HV2.out (i := 3) rfl; have u4 := cellB HV2.out (i := 4) rfl
   cases hd : doneC s1 ep id
   ·have HD := hide hd; clear hd
    go_wp2_with fail
    refine (rDone_any (rb := false) HP2.out (by rw [HK1.out]; exact HOK1.out) (by rw [HK1.out]; exact HD.out)).mono ?_
    rintro _ w2 ⟨rfl, b2⟩
    have HP3 := hide (HP2.out.later b2); have HV3 := hide (below_box b2 HV2.out); have HR3 := hide (HR2.out.later b2); have HN3 := hide (HN2.out.later b2)
    have HB3 : Hid (Below w1.heap.size w1 w2) := hide b2
    clear b2 u0 u1 u2 u3 u4; have u0 := cellB HV3.out (i := 0) rfl; have u1 := cellB HV3.out (i := 1) rfl; have u2 := cellB HV3.out (i := 2) rfl; have u3 := cellB HV3.out (i := 3) rfl; have u4 := cellB HV3.out (i := 4) rfl
    go_wp2_with fail
    refine (rfind_any HP3.out).mono ?_
    rintro e9 w3 ⟨b2, hfo⟩
    have HP4 := hide (HP3.out.later b2); have HV4 := hide (below_box b2 HV3.out); have HR4 := hide (HR3.out.later b2); have HN4 := hide (HN3.out.later b2)
    have HB4' : Hid (Below w1.heap.size w1 w3) := hide (HB3.out.trans (b2.mono HB3.out.size))
    clear b2 u0 u1 u2 u3 u4; have u0 := cellB HV4.out (i := 0) rfl; have u1 := cellB HV4.out (i := 1) rfl; have u2 := cellB HV4.out (i := 2) rfl; have u3 := cellB HV4.out (i := 3) rfl; have u4 := cellB HV4.out (i := 4) rfl
    rcases hfo with ⟨rfl, hfn⟩ | ⟨k, hk, rfl, hfs⟩
    ·have HFN : Hid (findC s1 id = none) := hide (by rw [← HK1.out]; exact hfn)
     clear hfn
     obtain ⟨r, hr9⟩ : ∃ r, suitC s1 ⟨ep, id, bg, rs, vs⟩ = r := ⟨_, rfl⟩
     have HSU := hide hr9
     go_wp2_with fail
     refine (rsuits_l (r := r) HP4.out HQL.out.2 HR4.out HN4.out HRN.out HVN.out (by rw [HQV.out]; exact HM.out) (by rw [HK1.out]; exact HSU.out)).mono ?_
     rintro _ w4 ⟨rfl, b2⟩
     have HP5 := hide (HP4.out.later b2); have HV5 := hide (below_box b2 HV4.out); have HR5 := hide (HR4.out.later b2); have HN5 := hide (HN4.out.later b2)
     have HB5 : Hid (Below w1.heap.size w1 w4) := hide (HB4'.out.trans (b2.mono HB4'.out.size))
     clear b2 u0 u1 u2 u3 u4; have u0 := cellB HV5.out (i := 0) rfl; have u1 := cellB HV5.out (i := 1) rfl; have u2 := cellB HV5.out (i := 2) rfl; have u3 := cellB HV5.out (i := 3) rfl; have u4 := cellB HV5.out (i := 4) rfl; clear hr9
     by_cases hr0 : r = 0
     ·subst hr0
      obtain ⟨L, hL⟩ : ∃ L, q1.ts.length = L := ⟨_, rfl⟩
      have HL := hide hL
      have hl8 : L ≤ 8 := by rw [← hL]; exact HQL.out.1
      have u9 := HP5.out.c5
      rw [hL] at u9
      by_cases hl : 8 ≤ L
      ·have d1 : decide ((L : Int) ≥ 8) = true := decide_eq_true (by omega)
       have d2 : decide (8 ≤ L) = true := decide_eq_true hl
       have HE : Hid (preE1 s1 ⟨ep, id, bg, rs, vs⟩ = 6 ∧ preS1 s1 ⟨ep, id, bg, rs, vs⟩ = s1) := hide (by
         have h9 : 8 ≤ s1.pre.length := by rw [← HK1.out]; show 8 ≤ (q1.ts.map TP.t).length; rw [List.length_map, hL]; exact hl
         have hdf : ¬ doneC s1 ep id = true := by rw [HD.out]; decide
         constructor
         · unfold preE1
           rw [if_neg hdf, HFN.out]
           simp only
           rw [if_pos HSU.out, if_pos h9]
         · unfold preS1
           rw [if_neg hdf, HFN.out]
           simp only
           rw [if_pos HSU.out, if_pos h9])
       clear hL hl; go_wp2; go_ret
       refine ⟨by rw [HE.out.1]; rfl, ?_⟩
       rw [HE.out.2, ← HK1.out]
       exact HLT.out (RPut.same HP2.out HB5.out)
      ·have d1 : decide ((L : Int) ≥ 8) = false := decide_eq_false (by omega)
       have d2 : decide (8 ≤ L) = false := decide_eq_false hl
       have HE : Hid (preE1 s1 ⟨ep, id, bg, rs, vs⟩ = 0 ∧ preS1 s1 ⟨ep, id, bg, rs, vs⟩ = ⟨s1.reg, s1.out, s1.vec, s1.done, insT ⟨ep, id, bg, rs, vs⟩ s1.pre⟩) := hide (by
         have h9 : ¬ 8 ≤ s1.pre.length := by rw [← HK1.out]; show ¬ 8 ≤ (q1.ts.map TP.t).length; rw [List.length_map, hL]; exact hl
         have hdf : ¬ doneC s1 ep id = true := by rw [HD.out]; decide
         constructor
         · unfold preE1
           rw [if_neg hdf, HFN.out]
           simp only
           rw [if_pos HSU.out, if_neg h9]
         · unfold preS1
           rw [if_neg hdf, HFN.out]
           simp only
           rw [if_pos HSU.out, if_neg h9])
       clear hL hl
       go_wp2_with fail
       clear d1 d2 u9
       go_loopw [8] (fun i wr => ∃ k : Nat, k ≤ L ∧ i = .int .i64 (k : Int) ∧ Hid (∀ j, j < k → q1.ts[j]!.t.id < id) ∧ Hid (Below w4.heap.size w4 wr)) (fun i _ => L - (intOf i).toNat)
       case atStart => exact ⟨0, Nat.zero_le _, rfl, hide (fun j hj => by omega), hide (Below.refl _ _)⟩
       case round =>
        obtain ⟨k, hk, rfl, HT, HB⟩ := hrel
        rename World => wr
        have HP6 := hide (HP5.out.later HB.out); have HV6 := hide (below_box HB.out HV5.out)
        have i1 : q1.ts.length ≤ q1.pc := HP6.out.vis.pre.le
        have i2 := HP6.out.vis.pre.top
        rw [HL.out] at i1
        have u5 := HP6.out.c5
        rw [HL.out] at u5
        have u0 := cellB HV6.out (i := 0) rfl; have u1 := cellB HV6.out (i := 1) rfl; have u2 := cellB HV6.out (i := 2) rfl; have u3 := cellB HV6.out (i := 3) rfl; have u4 := cellB HV6.out (i := 4) rfl
        by_cases hlt : k < L
        ·have hl1 : k < q1.ts.length := by rw [HL.out]; exact hlt
         obtain ⟨y, hy⟩ : ∃ y, q1.ts[k]! = y := ⟨_, rfl⟩
         obtain ⟨g, o, hpp, a0, a1, a2, a3, a4, _⟩ := TL.at HP6.out.tl hl1 hy
         have u5' := u5
         rw [hpp] at u5'
         have f1 : decide ((k : Int) < (L : Int)) = true := decide_eq_true (by omega)
         have f2 : decide (k < L) = true := decide_eq_true hlt
         have HU5 := hide u5; clear u5 hpp
         by_cases hid : y.t.id < id
         ·have f3 : decide (y.t.id < id) = true := decide_eq_true hid
          have HT2 : Hid (∀ j, j < k + 1 → q1.ts[j]!.t.id < id) := hide (fun j hj => by
            by_cases hj9 : j < k
            · exact HT.out j hj9
            · obtain rfl : j = k := by omega
              rw [hy]
              exact hid)
          clear hy hid hl1
          go_upto_region 19 with fail
          have HX0 : Hid (Below wr.heap.size wr wr.drew) := hide (Below.refl _ wr).drew
          have HFA := hide (fun (w9 : World) (hSw : Below wr.heap.size wr w9) => And.intro (cell_later hSw u0) (And.intro (cell_later hSw u1) (And.intro (cell_later hSw u2) (And.intro (cell_later hSw u3) (And.intro (cell_later hSw u4) (And.intro (cell_later hSw u5') (And.intro (cell_later hSw a0) (And.intro (cell_later hSw a1) (And.intro (cell_later hSw a2) (And.intro (cell_later hSw a3) (cell_later hSw a4)))))))))))
          refine wp_region_held_drew (S := fun w9 => Below wr.heap.size wr w9) (by kernel_rfl) HX0.out (fun hHeld => ?_)
          refine tk 0 57 ?_ rfl rfl (by kernel_rfl) (fun _ _ _ h => h) (by assumption) ?_ ?_; rotate_left
          ·intro w hSw; go_simp; all_goals with_reducible rfl
          simp only [Act.put]
          refine tk 1 58 ?_ rfl rfl (by kernel_rfl) (fun _ _ _ h => h) (by assumption) ?_ ?_; rotate_left
          ·intro w hSw; go_simp; all_goals with_reducible rfl
          simp only [Act.put]
          refine tk 2 59 ?_ rfl rfl (by kernel_rfl) (fun _ _ _ h => h) (by assumption) ?_ ?_; rotate_left
          ·intro w hSw; go_simp; all_goals with_reducible rfl
          simp only [Act.put]
          refine tk 3 60 ?_ rfl rfl (by kernel_rfl) (fun _ _ _ h => h) (by assumption) ?_ ?_; rotate_left
          ·intro w hSw; go_simp; all_goals with_reducible rfl
          simp only [Act.put]
          refine tk 4 61 ?_ rfl rfl (by kernel_rfl) (fun _ _ _ h => h) (by assumption) ?_ ?_; rotate_left
          ·intro w hSw; go_simp; all_goals with_reducible rfl
          simp only [Act.put]
          refine tk 5 62 ?_ rfl rfl (by kernel_rfl) (fun _ _ _ h => h) (by assumption) ?_ ?_; rotate_left
          ·intro w hSw; obtain ⟨l0, l1, l2, l3, l4, m5, n0, n1, n2, n3, n4⟩ := HFA.out w hSw; go_simp; all_goals with_reducible rfl
          simp only [Act.put]
          refine tk 6 63 ?_ rfl rfl (by kernel_rfl) (fun _ _ _ h => h) (by assumption) ?_ ?_; rotate_left
          ·intro w hSw; go_simp; all_goals with_reducible rfl
          simp only [Act.put]
          refine tk 7 64 ?_ rfl rfl (by kernel_rfl) (fun _ _ _ h => h) (by assumption) ?_ ?_; rotate_left
          ·intro w hSw; go_simp; all_goals with_reducible rfl
          simp only [Act.put]
          refine tk 8 65 ?_ rfl rfl (by kernel_rfl) (fun _ _ _ h => h) (by assumption) ?_ ?_; rotate_left
          ·intro w hSw; go_simp; all_goals with_reducible rfl
          simp only [Act.put]
          refine tk 9 66 ?_ rfl rfl (by kernel_rfl) (fun _ _ _ h => h) (by assumption) ?_ ?_; rotate_left
          ·intro w hSw; go_simp; all_goals with_reducible rfl
          simp only [Act.put]
          refine tk 10 67 ?_ rfl rfl (by kernel_rfl) (fun _ _ _ h => h) (by assumption) ?_ ?_; rotate_left
          ·intro w hSw; go_simp; all_goals with_reducible rfl
          simp only [Act.put]
          refine tk 11 68 ?_ rfl rfl (by kernel_rfl) (fun _ _ _ h => h) (by assumption) ?_ ?_; rotate_left
          ·intro w hSw; go_simp; all_goals with_reducible rfl
          simp only [Act.put]
          refine tk 12 69 ?_ rfl rfl (by kernel_rfl) (fun _ _ _ h => h) (by assumption) ?_ ?_; rotate_left
          ·intro w hSw; go_simp; all_goals with_reducible rfl
          simp only [Act.put]
          refine tk 13 70 ?_ rfl rfl (by kernel_rfl) (fun _ _ _ h => h) (by assumption) ?_ ?_; rotate_left
          ·intro w hSw; obtain ⟨l0, l1, l2, l3, l4, m5, n0, n1, n2, n3, n4⟩ := HFA.out w hSw; go_simp; all_goals with_reducible rfl
          simp only [Act.put]
          refine tk 14 71 ?_ rfl rfl (by kernel_rfl) (fun _ _ _ h => h) (by assumption) ?_ ?_; rotate_left
          ·intro w hSw; go_simp; all_goals with_reducible rfl
          simp only [Act.put]
          refine tk 15 72 ?_ rfl rfl (by kernel_rfl) (fun _ _ _ h => h) (by assumption) ?_ ?_; rotate_left
          ·intro w hSw; go_simp; all_goals with_reducible rfl
          simp only [Act.put]
          refine tk 16 73 ?_ rfl rfl (by kernel_rfl) (fun _ _ _ h => h) (by assumption) ?_ ?_; rotate_left
          ·intro w hSw; go_simp; all_goals with_reducible rfl
          simp only [Act.put]
          refine tk 17 74 ?_ rfl rfl (by kernel_rfl) (fun _ _ _ h => h) (by assumption) ?_ ?_; rotate_left
          ·intro w hSw; obtain ⟨l0, l1, l2, l3, l4, m5, n0, n1, n2, n3, n4⟩ := HFA.out w hSw; go_simp; all_goals with_reducible rfl
          simp only [Act.put]
          refine tk 18 75 ?_ rfl rfl (by kernel_rfl) (fun _ _ _ h => h) (by assumption) ?_ ?_; rotate_left
          ·intro w hSw; go_simp; all_goals with_reducible rfl
          simp only [Act.put]
          refine tk 19 76 ?_ rfl rfl (by kernel_rfl) (fun _ _ _ h => h) (by assumption) ?_ ?_; rotate_left
          ·intro w hSw; obtain ⟨l0, l1, l2, l3, l4, m5, n0, n1, n2, n3, n4⟩ := HFA.out w hSw; go_simp; all_goals with_reducible rfl
          simp only [Act.put]
          refine tk 20 77 ?_ rfl rfl (by kernel_rfl) (fun _ _ _ h => h) (by assumption) ?_ ?_; rotate_left
          ·intro w hSw; go_simp; all_goals with_reducible rfl
          simp only [Act.put]
          refine rk (i := 21) (o := _) rfl (by kernel_rfl) (by kernel_rfl) (fun K hK => ?_)
          go_simp
          refine hK.out _ _ HX0.out (fun hHeld => ?_)
          clear hK
          refine wpAnyH_done (by kernel_rfl) ?_ _
          obtain ⟨X, hXE⟩ : ∃ X, X = wr.drew := ⟨_, rfl⟩
          rw [← hXE]
          have hX : Below wr.heap.size wr X := by rw [hXE]; exact HX0.out
          clear hXE; clear HFA
          have HB7 : Hid (Below w4.heap.size w4 X) := hide (HB.out.trans (hX.mono HB.out.size))
          clear hX u5' a0 a1 a2 a3 a4 u0 u1 u2 u3 u4; go_wp2
          exact ⟨⟨k + 1, hlt, by first | rfl | go_num, HT2, HB7⟩, by simp [intOf]; omega⟩
         ·have f3 : decide (y.t.id < id) = false := decide_eq_false hid
          have HEN : Hid (k = q1.ts.length ∨ ¬ q1.ts[k]!.t.id < id) := hide (.inr (by rw [hy]; exact hid))
          clear hy hid hl1
          go_upto_region 19 with fail
          have HX0 : Hid (Below wr.heap.size wr wr.drew) := hide (Below.refl _ wr).drew
          have HFA := hide (fun (w9 : World) (hSw : Below wr.heap.size wr w9) => And.intro (cell_later hSw u0) (And.intro (cell_later hSw u1) (And.intro (cell_later hSw u2) (And.intro (cell_later hSw u3) (And.intro (cell_later hSw u4) (And.intro (cell_later hSw u5') (And.intro (cell_later hSw a0) (And.intro (cell_later hSw a1) (And.intro (cell_later hSw a2) (And.intro (cell_later hSw a3) (cell_later hSw a4)))))))))))
          refine wp_region_held_drew (S := fun w9 => Below wr.heap.size wr w9) (by kernel_rfl) HX0.out (fun hHeld => ?_)
          refine tk 0 57 ?_ rfl rfl (by kernel_rfl) (fun _ _ _ h => h) (by assumption) ?_ ?_; rotate_left
          ·intro w hSw; go_simp; all_goals with_reducible rfl
          simp only [Act.put]
          refine tk 1 58 ?_ rfl rfl (by kernel_rfl) (fun _ _ _ h => h) (by assumption) ?_ ?_; rotate_left
          ·intro w hSw; go_simp; all_goals with_reducible rfl
          simp only [Act.put]
          refine tk 2 59 ?_ rfl rfl (by kernel_rfl) (fun _ _ _ h => h) (by assumption) ?_ ?_; rotate_left
          ·intro w hSw; go_simp; all_goals with_reducible rfl
          simp only [Act.put]
          refine tk 3 60 ?_ rfl rfl (by kernel_rfl) (fun _ _ _ h => h) (by assumption) ?_ ?_; rotate_left
          ·intro w hSw; go_simp; all_goals with_reducible rfl
          simp only [Act.put]
          refine tk 4 61 ?_ rfl rfl (by kernel_rfl) (fun _ _ _ h => h) (by assumption) ?_ ?_; rotate_left
          ·intro w hSw; go_simp; all_goals with_reducible rfl
          simp only [Act.put]
          refine tk 5 62 ?_ rfl rfl (by kernel_rfl) (fun _ _ _ h => h) (by assumption) ?_ ?_; rotate_left
          ·intro w hSw; obtain ⟨l0, l1, l2, l3, l4, m5, n0, n1, n2, n3, n4⟩ := HFA.out w hSw; go_simp; all_goals with_reducible rfl
          simp only [Act.put]
          refine tk 6 63 ?_ rfl rfl (by kernel_rfl) (fun _ _ _ h => h) (by assumption) ?_ ?_; rotate_left
          ·intro w hSw; go_simp; all_goals with_reducible rfl
          simp only [Act.put]
          refine tk 7 64 ?_ rfl rfl (by kernel_rfl) (fun _ _ _ h => h) (by assumption) ?_ ?_; rotate_left
          ·intro w hSw; go_simp; all_goals with_reducible rfl
          simp only [Act.put]
          refine tk 8 65 ?_ rfl rfl (by kernel_rfl) (fun _ _ _ h => h) (by assumption) ?_ ?_; rotate_left
          ·intro w hSw; go_simp; all_goals with_reducible rfl
          simp only [Act.put]
          refine tk 9 66 ?_ rfl rfl (by kernel_rfl) (fun _ _ _ h => h) (by assumption) ?_ ?_; rotate_left
          ·intro w hSw; go_simp; all_goals with_reducible rfl
          simp only [Act.put]
          refine tk 10 67 ?_ rfl rfl (by kernel_rfl) (fun _ _ _ h => h) (by assumption) ?_ ?_; rotate_left
          ·intro w hSw; go_simp; all_goals with_reducible rfl
          simp only [Act.put]
          refine tk 11 68 ?_ rfl rfl (by kernel_rfl) (fun _ _ _ h => h) (by assumption) ?_ ?_; rotate_left
          ·intro w hSw; go_simp; all_goals with_reducible rfl
          simp only [Act.put]
          refine tk 12 69 ?_ rfl rfl (by kernel_rfl) (fun _ _ _ h => h) (by assumption) ?_ ?_; rotate_left
          ·intro w hSw; go_simp; all_goals with_reducible rfl
          simp only [Act.put]
          refine tk 13 70 ?_ rfl rfl (by kernel_rfl) (fun _ _ _ h => h) (by assumption) ?_ ?_; rotate_left
          ·intro w hSw; obtain ⟨l0, l1, l2, l3, l4, m5, n0, n1, n2, n3, n4⟩ := HFA.out w hSw; go_simp; all_goals with_reducible rfl
          simp only [Act.put]
          refine tk 14 71 ?_ rfl rfl (by kernel_rfl) (fun _ _ _ h => h) (by assumption) ?_ ?_; rotate_left
          ·intro w hSw; go_simp; all_goals with_reducible rfl
          simp only [Act.put]
          refine tk 15 72 ?_ rfl rfl (by kernel_rfl) (fun _ _ _ h => h) (by assumption) ?_ ?_; rotate_left
          ·intro w hSw; go_simp; all_goals with_reducible rfl
          simp only [Act.put]
          refine tk 16 73 ?_ rfl rfl (by kernel_rfl) (fun _ _ _ h => h) (by assumption) ?_ ?_; rotate_left
          ·intro w hSw; go_simp; all_goals with_reducible rfl
          simp only [Act.put]
          refine tk 17 74 ?_ rfl rfl (by kernel_rfl) (fun _ _ _ h => h) (by assumption) ?_ ?_; rotate_left
          ·intro w hSw; obtain ⟨l0, l1, l2, l3, l4, m5, n0, n1, n2, n3, n4⟩ := HFA.out w hSw; go_simp; all_goals with_reducible rfl
          simp only [Act.put]
          refine tk 18 75 ?_ rfl rfl (by kernel_rfl) (fun _ _ _ h => h) (by assumption) ?_ ?_; rotate_left
          ·intro w hSw; go_simp; all_goals with_reducible rfl
          simp only [Act.put]
          refine tk 19 76 ?_ rfl rfl (by kernel_rfl) (fun _ _ _ h => h) (by assumption) ?_ ?_; rotate_left
          ·intro w hSw; obtain ⟨l0, l1, l2, l3, l4, m5, n0, n1, n2, n3, n4⟩ := HFA.out w hSw; go_simp; all_goals with_reducible rfl
          simp only [Act.put]
          refine tk 20 77 ?_ rfl rfl (by kernel_rfl) (fun _ _ _ h => h) (by assumption) ?_ ?_; rotate_left
          ·intro w hSw; go_simp; all_goals with_reducible rfl
          simp only [Act.put]
          refine rk (i := 21) (o := _) rfl (by kernel_rfl) (by kernel_rfl) (fun K hK => ?_)
          go_simp
          refine hK.out _ _ HX0.out (fun hHeld => ?_)
          clear hK
          refine wpAnyH_done (by kernel_rfl) ?_ _
          obtain ⟨X, hXE⟩ : ∃ X, X = wr.drew := ⟨_, rfl⟩
          rw [← hXE]
          have hX : Below wr.heap.size wr X := by rw [hXE]; exact HX0.out
          clear hXE; clear HFA
          have HB7 : Hid (Below w4.heap.size w4 X) := hide (HB.out.trans (hX.mono HB.out.size))
          clear hX u5' a0 a1 a2 a3 a4 u0 u1 u2 u3 u4; have HP7 := hide (HP5.out.later HB7.out); have HV7 := hide (below_box HB7.out HV5.out); have HR7 := hide (HR5.out.later HB7.out); have HN7 := hide (HN5.out.later HB7.out)
          have hkl : k ≤ L := by omega
          have hkc : k ≤ q1.pc := by omega
          clear f1 f2
          try clear f3
          obtain ⟨i0, hI0, hz0, hz1, hz2⟩ := info_parts Try.infoTxn
          have u0 := cellB HV7.out (i := 0) rfl; have u1 := cellB HV7.out (i := 1) rfl; have u2 := cellB HV7.out (i := 2) rfl; have u3 := cellB HV7.out (i := 3) rfl; have u4 := cellB HV7.out (i := 4) rfl; have u5 := HP7.out.c5
          rw [HL.out] at u5
          have HSG : Hid (Seg X.drew 5 (.slice q1.pp k q1.pc) k ((q1.ts.take k).flatMap TP.cells)) := hide (by
            have h9 := LRow.seg (W := X.drew) (by decide) TP.len TP.one ((HP7.out.later (Below.refl _ X).drew).vis.pre.takeG k)
            rw [List.length_take, Nat.min_eq_left (by rw [HL.out]; exact hkl)] at h9
            exact h9)
          go_upto_region 22 with fail
          have HX0 : Hid (Below X.heap.size X X.drew) := hide (Below.refl _ X).drew
          refine wp_region_held_drew (S := fun w9 => Below X.heap.size X w9) (by kernel_rfl) HX0.out (fun hHeld => ?_)
          refine tb 0 ?_ rfl (by kernel_rfl) (fun _ _ _ h => h) (by assumption) ?_ ?_
          rotate_left
          ·intro w hSw; have l0 := cell_later hSw u0; have l1 := cell_later hSw u1; have l2 := cell_later hSw u2; have l3 := cell_later hSw u3; have l4 := cell_later hSw u4; have m5 := cell_later hSw u5; go_simp; all_goals with_reducible rfl
          simp only [Act.put]
          refine tb 1 ?_ rfl (by kernel_rfl) (fun _ _ _ h => h) (by assumption) ?_ ?_
          rotate_left
          ·intro w hSw; have l0 := cell_later hSw u0; have l1 := cell_later hSw u1; have l2 := cell_later hSw u2; have l3 := cell_later hSw u3; have l4 := cell_later hSw u4; have m5 := cell_later hSw u5; go_simp; all_goals with_reducible rfl
          simp only [Act.put]
          refine tb 2 ?_ rfl (by kernel_rfl) (fun _ _ _ h => h) (by assumption) ?_ ?_
          rotate_left
          ·intro w hSw; have l0 := cell_later hSw u0; have l1 := cell_later hSw u1; have l2 := cell_later hSw u2; have l3 := cell_later hSw u3; have l4 := cell_later hSw u4; have m5 := cell_later hSw u5; go_simp; all_goals with_reducible rfl
          simp only [Act.put]
          refine tb 3 ?_ rfl (by kernel_rfl) (fun _ _ _ h => h) (by assumption) ?_ ?_
          rotate_left
          ·intro w hSw; have l0 := cell_later hSw u0; have l1 := cell_later hSw u1; have l2 := cell_later hSw u2; have l3 := cell_later hSw u3; have l4 := cell_later hSw u4; have m5 := cell_later hSw u5; go_simp; all_goals with_reducible rfl
          simp only [Act.put]
          refine tb 4 ?_ rfl (by kernel_rfl) (fun _ _ _ h => h) (by assumption) ?_ ?_
          rotate_left
          ·intro w hSw; have l0 := cell_later hSw u0; have l1 := cell_later hSw u1; have l2 := cell_later hSw u2; have l3 := cell_later hSw u3; have l4 := cell_later hSw u4; have m5 := cell_later hSw u5; go_simp; all_goals with_reducible rfl
          simp only [Act.put]
          refine tb 5 ?_ rfl (by kernel_rfl) (fun _ _ _ h => h) (by assumption) ?_ ?_
          rotate_left
          ·intro w hSw; have l0 := cell_later hSw u0; have l1 := cell_later hSw u1; have l2 := cell_later hSw u2; have l3 := cell_later hSw u3; have l4 := cell_later hSw u4; have m5 := cell_later hSw u5; go_simp; all_goals with_reducible rfl
          simp only [Act.put]
          refine tb 6 ?_ rfl (by kernel_rfl) (fun _ _ _ h => h) (by assumption) ?_ ?_
          rotate_left
          ·intro w hSw; have l0 := cell_later hSw u0; have l1 := cell_later hSw u1; have l2 := cell_later hSw u2; have l3 := cell_later hSw u3; have l4 := cell_later hSw u4; have m5 := cell_later hSw u5; go_simp; all_goals with_reducible rfl
          simp only [Act.put]
          refine tb 7 ?_ rfl (by kernel_rfl) (fun _ _ _ h => h) (by assumption) ?_ ?_
          rotate_left
          ·intro w hSw; have l0 := cell_later hSw u0; have l1 := cell_later hSw u1; have l2 := cell_later hSw u2; have l3 := cell_later hSw u3; have l4 := cell_later hSw u4; have m5 := cell_later hSw u5; go_simp; all_goals with_reducible rfl
          simp only [Act.put]
          refine tb 9 ?_ rfl (by kernel_rfl) (fun _ _ _ h => h) (by assumption) ?_ ?_
          rotate_left
          ·intro w hSw; have l0 := cell_later hSw u0; have l1 := cell_later hSw u1; have l2 := cell_later hSw u2; have l3 := cell_later hSw u3; have l4 := cell_later hSw u4; have m5 := cell_later hSw u5; go_simp; all_goals with_reducible rfl
          simp only [Act.put]
          refine rr 8 (o := _) rfl (by kernel_rfl) (fun K hK => ?_)
          refine step_append_cells rfl (.tmp 81) (.tmp 88) 41 rfl X.heap.size 34 i0 (.agg #[.int .i64 0, .int .i64 0, .int .i64 0, .slice none 0 0, .slice none 0 0]) 5 72 Try.underlying41 hI0 hz0 hz1 hz2 rfl (by decide) (.slice none 0 0) 0 [] (by simp [Act.eval]) (World.ownsRow_nil _ _ _ _) (.slice q1.pp k q1.pc) k _ (by simp only [Act.eval]; kernel_rfl) HSG.out (by unfold maxLen; omega) (by omega) (Nat.le_refl _) ?_
          intro p2 c2 x1 hown hgrow
          rw [Nat.zero_add, List.nil_append] at hown
          have HX1 : Hid (Below X.heap.size X x1) := hide (HX0.out.grown hgrow (Nat.le_refl _) (fun i hi => by simp [Value.ownBlock] at hi))
          have HO1' := hide hown
          rw [Nat.zero_add]
          clear hown hgrow
          refine hK.out _ _ HX1.out (fun hHeld => ?_)
          clear hK
          simp only [Act.put, List.setIfInBounds_toArray]
          refine rr 10 (o := _) rfl (by kernel_rfl) (fun K hK => ?_)
          have hSw : Below X.heap.size X x1 := HX1.out
          have l0 := cell_later hSw u0; have l1 := cell_later hSw u1; have l2 := cell_later hSw u2; have l3 := cell_later hSw u3; have l4 := cell_later hSw u4; have m5 := cell_later hSw u5
          go_simp
          refine (rclone_any (HR7.out.later HX1.out) (HN7.out.later HX1.out) HRN.out HVN.out (by have h7 : rs.length ≤ 4096 := HM.out.2.2.2.2.1; have h9 := HRN.out; omega) (by have h7 : (vs.length : Int) = (n : Int) := HM.out.2.2.2.2.2.1; have h9 := HVN.out; have h6 := HOK.out.parts.2; have h8 : q.sk.vec.length = n := HPT.out; omega)).mono ?_
          rintro _ x2 ⟨p7, c7, q7, d7, rfl, o1, o2, b0⟩
          have HX2 : Hid (Below X.heap.size X x2) := hide (HX1.out.trans (b0.mono HX1.out.size))
          have HO2' := hide (ownsRow_later HO1'.out b0); have HC1 := hide o1; have HC2 := hide o2
          have HXS : Hid (X.heap.size ≤ x1.heap.size) := hide HX1.out.size
          clear o1 o2 b0 l0 l1 l2 l3 l4 m5 hSw
          go_wp2_with fail
          refine hK.out _ _ HX2.out (fun hHeld => ?_)
          clear hK
          refine rr 11 (o := _) rfl (by kernel_rfl) (fun K hK => ?_)
          go_simp
          obtain ⟨x3, hx3⟩ : ∃ x3, x3 = x2.alloc (.cells #[.int .i64 ep, .int .i64 id, .int .i64 bg, .slice p7 rn c7, .slice q7 vn d7] 34 (0, 0)) := ⟨_, rfl⟩
          rw [← hx3]
          have b0 : Below x2.heap.size x2 x3 := by rw [hx3]; exact alloc_below _ _
          have HX3 : Hid (Below X.heap.size X x3) := hide (HX2.out.trans (b0.mono HX2.out.size))
          have HO3' := hide (ownsRow_later HO2'.out b0); have HC3 := hide (ownsRow_later HC1.out b0); have HC4 := hide (ownsRow_later HC2.out b0)
          obtain ⟨nB, hnB⟩ : ∃ nB, x2.heap.size = nB := ⟨_, rfl⟩
          have HSG2 : Hid (Seg x3 5 (.slice (some ⟨nB, 0, none⟩) 1 1) 1 [.int .i64 ep, .int .i64 id, .int .i64 bg, .slice p7 rn c7, .slice q7 vn d7]) := hide (by rw [hx3, ← hnB]; exact Seg.news (heap_alloc_new x2 _) (by simp [Value.oneCell']) rfl (Nat.le_refl _) (by decide))
          try rw [hnB]
          clear hx3 b0 hnB HC1 HC2
          refine hK.out _ _ HX3.out (fun hHeld => ?_)
          clear hK
          refine rr 12 (o := _) rfl (by kernel_rfl) (fun K hK => ?_)
          refine step_append_cells rfl (.tmp 89) (.tmp 92) 41 rfl X.heap.size 34 i0 (.agg #[.int .i64 0, .int .i64 0, .int .i64 0, .slice none 0 0, .slice none 0 0]) 5 72 Try.underlying41 hI0 hz0 hz1 hz2 rfl (by decide) (.slice p2 k c2) k _ rfl HO3'.out (.slice (some ⟨nB, 0, none⟩) 1 1) 1 _ rfl HSG2.out (by unfold maxLen; omega) (by omega) HX3.out.size ?_
          intro p4 c4 x4 hown hgrow; have hX4 := HX3.out.grown hgrow HX3.out.size (fun i hi => own_block_base HO3'.out hi)
          have HX4 : Hid (Below X.heap.size X x4) := hide hX4
          have HO4' := hide hown
          have hgo : Only (fun i => (Value.slice p2 k c2).ownBlock = some i) x3 x4 := Only.of_grown hgrow (fun _ e => e)
          have HC5 : Hid (x4.ownsRow x1.heap.size 49 2 (.slice p7 rn c7) rn (rs.flatMap RC.cells)) := hide (ownsRow_only HC3.out hgo (fun i hi e9 => own_ty HO3'.out (t2 := 49) (by decide) i e9 _ (own_block_lt HC3.out hi).2.choose_spec))
          have HC6 : Hid (x4.ownsRow x1.heap.size 2 1 (.slice q7 vn d7) vn (vs.flatMap intCells)) := hide (ownsRow_only HC4.out hgo (fun i hi e9 => own_ty HO3'.out (t2 := 2) (by decide) i e9 _ (own_block_lt HC4.out hi).2.choose_spec))
          clear hown hgrow hX4 hgo
          refine hK.out _ _ HX4.out (fun hHeld => ?_)
          clear hK
          simp only [Act.put, List.setIfInBounds_toArray]
          refine tb 13 ?_ rfl (by kernel_rfl) (fun _ _ _ h => h) (by assumption) ?_ ?_
          rotate_left
          ·intro w hSw; go_simp; all_goals with_reducible rfl
          simp only [Act.put]
          refine wpAnyH_done (by kernel_rfl) ?_ _
          have HPZ := hide (HP7.out.later HX4.out); have HVZ := hide (below_box HX4.out HV7.out); clear u0 u1 u2 u3 u4 u5; have u5 := HPZ.out.c5
          rw [HL.out] at u5
          have z5 := frB HPZ.out.box (i := 5); have htl := HPZ.out.vis.pre.tailG (j := k) (by rw [HL.out]; exact hkl)
          rw [if_neg (show ¬ q1.pc = k by omega)] at htl
          obtain ⟨A, hA⟩ : ∃ A, Option.map (fun x => x.add (k * 5)) q1.pp = A := ⟨_, rfl⟩
          rw [hA] at htl
          obtain ⟨m, hm⟩ : ∃ m, L - k = m := ⟨_, rfl⟩
          have hsg := LRow.seg (by decide) TP.len TP.one htl
          rw [List.length_drop, HL.out, hm] at hsg
          have HSG3 := hide hsg
          have hm8 : m ≤ 8 := by omega
          have qk0 : (k : Int) ≤ (L : Int) := by omega
          have HBS : Hid (X.heap.size ≤ x4.heap.size) := hide HX4.out.size
          clear htl hsg
          go_wp2_with (at_builtin; refine append_cells _ rfl (.tmp 95) (.tmp 102) 41 rfl X.heap.size 34 i0 (.agg #[.int .i64 0, .int .i64 0, .int .i64 0, .slice none 0 0, .slice none 0 0]) 5 72 Try.underlying41 hI0 hz0 hz1 hz2 rfl (by decide) (.slice p4 (k + 1) c4) (k + 1) _ rfl HO4'.out (.slice A m (q1.pc - k)) m _ rfl HSG3.out (by unfold maxLen; omega) (by omega) HBS.out ?_)
          intro p5 c5 x5 hown hgrow; have hX5 := HX4.out.grown hgrow HX4.out.size (fun i hi => own_block_base HO4'.out hi)
          have HX5 : Hid (Below X.heap.size X x5) := hide hX5
          have hgo : Only (fun i => (Value.slice p4 (k + 1) c4).ownBlock = some i) x4 x5 := Only.of_grown hgrow (fun _ e => e)
          have HC7 : Hid (x5.ownsRow x1.heap.size 49 2 (.slice p7 rn c7) rn (rs.flatMap RC.cells)) := hide (ownsRow_only HC5.out hgo (fun i hi e9 => own_ty HO4'.out (t2 := 49) (by decide) i e9 _ (own_block_lt HC5.out hi).2.choose_spec))
          have HC8 : Hid (x5.ownsRow x1.heap.size 2 1 (.slice q7 vn d7) vn (vs.flatMap intCells)) := hide (ownsRow_only HC6.out hgo (fun i hi e9 => own_ty HO4'.out (t2 := 2) (by decide) i e9 _ (own_block_lt HC6.out hi).2.choose_spec))
          have HO5' := hide hown; have HPY := hide (HP7.out.later hX5); have y5 := HPY.out.c5; have z6 := frB HPY.out.box (i := 5); clear hown hgrow hX5 hgo u5 z5; go_wp2; go_ret
          have hlen : k + 1 + m = L + 1 := by omega
          have hts : (q1.ts.take k ++ (⟨⟨ep, id, bg, rs, vs⟩, p7, c7, q7, d7⟩ : TP) :: q1.ts.drop k).length = k + 1 + m := by
           rw [List.length_append, List.length_cons, List.length_take, List.length_drop, HL.out, Nat.min_eq_left hkl, hm]
           omega
          have hB5 : Below w1.heap.size w1 x5 := HB5.out.trans ((HB7.out.trans (HX5.out.mono HB7.out.size)).mono HB5.out.size)
          have h9 := RS.next (q' := ⟨q1.op, q1.oc, q1.vp, q1.vc, q1.dp, q1.dc, p5, c5, q1.reg, q1.out, q1.vec, q1.done, q1.ts.take k ++ (⟨⟨ep, id, bg, rs, vs⟩, p7, c7, q7, d7⟩ : TP) :: q1.ts.drop k⟩) HP2.out hB5 (Only.set (F := (· = b)) x5 b 5 (.slice p5 (k + 1 + m) c5) rfl) (by
            have h8 := heap_set_sameL HPY.out.box 5 (.slice p5 (k + 1 + m) c5)
            rw [h8]
            simp [RSrow, hts]) ⟨HPY.out.vis.out, HPY.out.vis.vec, HPY.out.vis.done, LRow.of_own (base := X.heap.size) (e := 34) TP.len hts (by
              have h8 := HO5'.out
              have e9 : (q1.ts.take k ++ (⟨⟨ep, id, bg, rs, vs⟩, p7, c7, q7, d7⟩ : TP) :: q1.ts.drop k).flatMap TP.cells = (q1.ts.take k).flatMap TP.cells ++ .int .i64 ep :: .int .i64 id :: .int .i64 bg :: .slice p7 rn c7 :: .slice q7 vn d7 :: (q1.ts.drop k).flatMap TP.cells := by
                rw [List.flatMap_append, List.flatMap_cons]
                simp [TP.cells, HRN.out, HVN.out]
              show x5.ownsRow X.heap.size 34 5 (.slice p5 _ c5) _ ((q1.ts.take k ++ (⟨⟨ep, id, bg, rs, vs⟩, p7, c7, q7, d7⟩ : TP) :: q1.ts.drop k).flatMap TP.cells)
              rw [e9]
              first | exact h8 | simpa [List.append_assoc] using h8), fun x hx => by
            rcases List.mem_append.1 hx with hx | hx
            ·exact HPY.out.vis.ts x (List.mem_of_mem_take hx)
            ·rcases List.mem_cons.1 hx with rfl | hx
             ·exact ⟨RRow.of_own HRN.out HC7.out, NRow.of_own HVN.out HC8.out⟩
             ·exact HPY.out.vis.ts x (List.mem_of_mem_drop hx)⟩ (fun i hi => by
        have hz9 : w1.heap.size ≤ X.heap.size := Nat.le_trans HB5.out.size HB7.out.size
        have hz8 := HXS.out
        rcases hi with hi | hi | hi | hi | ⟨x, hx, hi⟩
        · exact .inl (.inl hi)
        · exact .inl (.inr (.inl hi))
        · exact .inl (.inr (.inr (.inl hi)))
        · exact .inr (by have h8 := own_new HO5'.out i hi; omega)
        · rcases List.mem_append.1 hx with hx | hx
          · exact .inl (.inr (.inr (.inr (.inr ⟨x, List.mem_of_mem_take hx, hi⟩))))
          · rcases List.mem_cons.1 hx with rfl | hx
            · rcases hi with hi | hi
              · exact .inr (by have h8 := own_new HC7.out i hi; omega)
              · exact .inr (by have h8 := own_new HC8.out i hi; omega)
            · exact .inl (.inr (.inr (.inr (.inr ⟨x, List.mem_of_mem_drop hx, hi⟩)))))
          refine ⟨by rw [HE.out.1]; rfl, ?_⟩
          have h8 : (⟨q1.op, q1.oc, q1.vp, q1.vc, q1.dp, q1.dc, p5, c5, q1.reg, q1.out, q1.vec, q1.done, q1.ts.take k ++ (⟨⟨ep, id, bg, rs, vs⟩, p7, c7, q7, d7⟩ : TP) :: q1.ts.drop k⟩ : QK).sk = preS1 s1 ⟨ep, id, bg, rs, vs⟩ := by
           rw [HE.out.2, insT_at ⟨ep, id, bg, rs, vs⟩ s1.pre k (by rw [← HK1.out]; show k ≤ (q1.ts.map TP.t).length; rw [List.length_map, HL.out]; exact hkl) (fun j hj => by
             have hj9 : j < q1.ts.length := by rw [HL.out]; omega
             have h7 := HT.out j hj
             rw [← HK1.out]
             show ((q1.ts.map TP.t)[j]!).id < id
             rw [getElem!_pos _ j (by rw [List.length_map]; exact hj9), List.getElem_map]
             rw [getElem!_pos _ j hj9] at h7
             exact h7) (by
             rcases HEN.out with h7 | h7
             · exact .inl (by rw [← HK1.out]; show k = (q1.ts.map TP.t).length; rw [List.length_map]; exact h7)
             · by_cases hk9 : k < q1.ts.length
               · refine .inr ?_
                 rw [← HK1.out]
                 show ¬ ((q1.ts.map TP.t)[k]!).id < id
                 rw [getElem!_pos _ k (by rw [List.length_map]; exact hk9), List.getElem_map]
                 rw [getElem!_pos _ k hk9] at h7
                 omega
               · exact .inl (by rw [← HK1.out]; show k = (q1.ts.map TP.t).length; rw [List.length_map]; have h6 := HL.out; omega))]
           rw [← HK1.out]
           unfold QK.sk
           simp only [List.map_append, List.map_cons, List.map_take, List.map_drop]
          rw [h8] at h9
          exact HLT.out h9
        ·obtain rfl : k = L := by omega
         have f1 : decide ((k : Int) < (k : Int)) = false := decide_eq_false (by omega)
         have f2 : decide (k < k) = false := decide_eq_false (by omega)
         have HEN : Hid (k = q1.ts.length ∨ ¬ q1.ts[k]!.t.id < id) := hide (.inl HL.out.symm)
         have u5' := u5
         go_upto_region 19 with fail
         have HX0 : Hid (Below wr.heap.size wr wr.drew) := hide (Below.refl _ wr).drew
         have HFA := hide (fun (w9 : World) (hSw : Below wr.heap.size wr w9) => And.intro (cell_later hSw u0) (And.intro (cell_later hSw u1) (And.intro (cell_later hSw u2) (And.intro (cell_later hSw u3) (And.intro (cell_later hSw u4) (cell_later hSw u5'))))))
         refine wp_region_held_drew (S := fun w9 => Below wr.heap.size wr w9) (by kernel_rfl) HX0.out (fun hHeld => ?_)
         refine tk 0 57 ?_ rfl rfl (by kernel_rfl) (fun _ _ _ h => h) (by assumption) ?_ ?_; rotate_left
         ·intro w hSw; go_simp; all_goals with_reducible rfl
         simp only [Act.put]
         refine tk 1 58 ?_ rfl rfl (by kernel_rfl) (fun _ _ _ h => h) (by assumption) ?_ ?_; rotate_left
         ·intro w hSw; go_simp; all_goals with_reducible rfl
         simp only [Act.put]
         refine tk 2 59 ?_ rfl rfl (by kernel_rfl) (fun _ _ _ h => h) (by assumption) ?_ ?_; rotate_left
         ·intro w hSw; go_simp; all_goals with_reducible rfl
         simp only [Act.put]
         refine tk 3 60 ?_ rfl rfl (by kernel_rfl) (fun _ _ _ h => h) (by assumption) ?_ ?_; rotate_left
         ·intro w hSw; go_simp; all_goals with_reducible rfl
         simp only [Act.put]
         refine tk 4 61 ?_ rfl rfl (by kernel_rfl) (fun _ _ _ h => h) (by assumption) ?_ ?_; rotate_left
         ·intro w hSw; go_simp; all_goals with_reducible rfl
         simp only [Act.put]
         refine tk 5 62 ?_ rfl rfl (by kernel_rfl) (fun _ _ _ h => h) (by assumption) ?_ ?_; rotate_left
         ·intro w hSw; obtain ⟨l0, l1, l2, l3, l4, m5⟩ := HFA.out w hSw; go_simp; all_goals with_reducible rfl
         simp only [Act.put]
         refine tk 6 63 ?_ rfl rfl (by kernel_rfl) (fun _ _ _ h => h) (by assumption) ?_ ?_; rotate_left
         ·intro w hSw; go_simp; all_goals with_reducible rfl
         simp only [Act.put]
         refine tk 7 64 ?_ rfl rfl (by kernel_rfl) (fun _ _ _ h => h) (by assumption) ?_ ?_; rotate_left
         ·intro w hSw; go_simp; all_goals with_reducible rfl
         simp only [Act.put]
         refine tk 8 65 ?_ rfl rfl (by kernel_rfl) (fun _ _ _ h => h) (by assumption) ?_ ?_; rotate_left
         ·intro w hSw; go_simp; all_goals with_reducible rfl
         simp only [Act.put]
         refine sk 9 66 rfl rfl (by kernel_rfl) (fun _ _ _ h => h) (by assumption) ?_
         simp only [Act.put]
         refine sk 10 67 rfl rfl (by kernel_rfl) (fun _ _ _ h => h) (by assumption) ?_
         simp only [Act.put]
         refine sk 11 68 rfl rfl (by kernel_rfl) (fun _ _ _ h => h) (by assumption) ?_
         simp only [Act.put]
         refine sk 12 69 rfl rfl (by kernel_rfl) (fun _ _ _ h => h) (by assumption) ?_
         simp only [Act.put]
         refine sk 13 70 rfl rfl (by kernel_rfl) (fun _ _ _ h => h) (by assumption) ?_
         simp only [Act.put]
         refine sk 14 71 rfl rfl (by kernel_rfl) (fun _ _ _ h => h) (by assumption) ?_
         simp only [Act.put]
         refine sk 15 72 rfl rfl (by kernel_rfl) (fun _ _ _ h => h) (by assumption) ?_
         simp only [Act.put]
         refine sk 16 73 rfl rfl (by kernel_rfl) (fun _ _ _ h => h) (by assumption) ?_
         simp only [Act.put]
         refine sk 17 74 rfl rfl (by kernel_rfl) (fun _ _ _ h => h) (by assumption) ?_
         simp only [Act.put]
         refine sk 18 75 rfl rfl (by kernel_rfl) (fun _ _ _ h => h) (by assumption) ?_
         simp only [Act.put]
         refine sk 19 76 rfl rfl (by kernel_rfl) (fun _ _ _ h => h) (by assumption) ?_
         simp only [Act.put]
         refine sk 20 77 rfl rfl (by kernel_rfl) (fun _ _ _ h => h) (by assumption) ?_
         simp only [Act.put]
         refine rk (i := 21) (o := _) rfl (by kernel_rfl) (by kernel_rfl) (fun K hK => ?_)
         go_simp
         refine hK.out _ _ HX0.out (fun hHeld => ?_)
         clear hK
         refine wpAnyH_done (by kernel_rfl) ?_ _
         obtain ⟨X, hXE⟩ : ∃ X, X = wr.drew := ⟨_, rfl⟩
         rw [← hXE]
         have hX : Below wr.heap.size wr X := by rw [hXE]; exact HX0.out
         clear hXE; clear HFA
         have HB7 : Hid (Below w4.heap.size w4 X) := hide (HB.out.trans (hX.mono HB.out.size))
         have hlt : k ≤ k := Nat.le_refl _
         clear hX u5' u5 u0 u1 u2 u3 u4; have HP7 := hide (HP5.out.later HB7.out); have HV7 := hide (below_box HB7.out HV5.out); have HR7 := hide (HR5.out.later HB7.out); have HN7 := hide (HN5.out.later HB7.out)
         have hkl : k ≤ k := by omega
         have hkc : k ≤ q1.pc := by omega
         clear f1 f2
         try clear f3
         obtain ⟨i0, hI0, hz0, hz1, hz2⟩ := info_parts Try.infoTxn
         have u0 := cellB HV7.out (i := 0) rfl; have u1 := cellB HV7.out (i := 1) rfl; have u2 := cellB HV7.out (i := 2) rfl; have u3 := cellB HV7.out (i := 3) rfl; have u4 := cellB HV7.out (i := 4) rfl; have u5 := HP7.out.c5
         rw [HL.out] at u5
         have HSG : Hid (Seg X.drew 5 (.slice q1.pp k q1.pc) k ((q1.ts.take k).flatMap TP.cells)) := hide (by
           have h9 := LRow.seg (W := X.drew) (by decide) TP.len TP.one ((HP7.out.later (Below.refl _ X).drew).vis.pre.takeG k)
           rw [List.length_take, Nat.min_eq_left (by rw [HL.out]; exact hkl)] at h9
           exact h9)
         go_upto_region 22 with fail
         have HX0 : Hid (Below X.heap.size X X.drew) := hide (Below.refl _ X).drew
         refine wp_region_held_drew (S := fun w9 => Below X.heap.size X w9) (by kernel_rfl) HX0.out (fun hHeld => ?_)
         refine tb 0 ?_ rfl (by kernel_rfl) (fun _ _ _ h => h) (by assumption) ?_ ?_
         rotate_left
         ·intro w hSw; have l0 := cell_later hSw u0; have l1 := cell_later hSw u1; have l2 := cell_later hSw u2; have l3 := cell_later hSw u3; have l4 := cell_later hSw u4; have m5 := cell_later hSw u5; go_simp; all_goals with_reducible rfl
         simp only [Act.put]
         refine tb 1 ?_ rfl (by kernel_rfl) (fun _ _ _ h => h) (by assumption) ?_ ?_
         rotate_left
         ·intro w hSw; have l0 := cell_later hSw u0; have l1 := cell_later hSw u1; have l2 := cell_later hSw u2; have l3 := cell_later hSw u3; have l4 := cell_later hSw u4; have m5 := cell_later hSw u5; go_simp; all_goals with_reducible rfl
         simp only [Act.put]
         refine tb 2 ?_ rfl (by kernel_rfl) (fun _ _ _ h => h) (by assumption) ?_ ?_
         rotate_left
         ·intro w hSw; have l0 := cell_later hSw u0; have l1 := cell_later hSw u1; have l2 := cell_later hSw u2; have l3 := cell_later hSw u3; have l4 := cell_later hSw u4; have m5 := cell_later hSw u5; go_simp; all_goals with_reducible rfl
         simp only [Act.put]
         refine tb 3 ?_ rfl (by kernel_rfl) (fun _ _ _ h => h) (by assumption) ?_ ?_
         rotate_left
         ·intro w hSw; have l0 := cell_later hSw u0; have l1 := cell_later hSw u1; have l2 := cell_later hSw u2; have l3 := cell_later hSw u3; have l4 := cell_later hSw u4; have m5 := cell_later hSw u5; go_simp; all_goals with_reducible rfl
         simp only [Act.put]
         refine tb 4 ?_ rfl (by kernel_rfl) (fun _ _ _ h => h) (by assumption) ?_ ?_
         rotate_left
         ·intro w hSw; have l0 := cell_later hSw u0; have l1 := cell_later hSw u1; have l2 := cell_later hSw u2; have l3 := cell_later hSw u3; have l4 := cell_later hSw u4; have m5 := cell_later hSw u5; go_simp; all_goals with_reducible rfl
         simp only [Act.put]
         refine tb 5 ?_ rfl (by kernel_rfl) (fun _ _ _ h => h) (by assumption) ?_ ?_
         rotate_left
         ·intro w hSw; have l0 := cell_later hSw u0; have l1 := cell_later hSw u1; have l2 := cell_later hSw u2; have l3 := cell_later hSw u3; have l4 := cell_later hSw u4; have m5 := cell_later hSw u5; go_simp; all_goals with_reducible rfl
         simp only [Act.put]
         refine tb 6 ?_ rfl (by kernel_rfl) (fun _ _ _ h => h) (by assumption) ?_ ?_
         rotate_left
         ·intro w hSw; have l0 := cell_later hSw u0; have l1 := cell_later hSw u1; have l2 := cell_later hSw u2; have l3 := cell_later hSw u3; have l4 := cell_later hSw u4; have m5 := cell_later hSw u5; go_simp; all_goals with_reducible rfl
         simp only [Act.put]
         refine tb 7 ?_ rfl (by kernel_rfl) (fun _ _ _ h => h) (by assumption) ?_ ?_
         rotate_left
         ·intro w hSw; have l0 := cell_later hSw u0; have l1 := cell_later hSw u1; have l2 := cell_later hSw u2; have l3 := cell_later hSw u3; have l4 := cell_later hSw u4; have m5 := cell_later hSw u5; go_simp; all_goals with_reducible rfl
         simp only [Act.put]
         refine tb 9 ?_ rfl (by kernel_rfl) (fun _ _ _ h => h) (by assumption) ?_ ?_
         rotate_left
         ·intro w hSw; have l0 := cell_later hSw u0; have l1 := cell_later hSw u1; have l2 := cell_later hSw u2; have l3 := cell_later hSw u3; have l4 := cell_later hSw u4; have m5 := cell_later hSw u5; go_simp; all_goals with_reducible rfl
         simp only [Act.put]
         refine rr 8 (o := _) rfl (by kernel_rfl) (fun K hK => ?_)
         refine step_append_cells rfl (.tmp 81) (.tmp 88) 41 rfl X.heap.size 34 i0 (.agg #[.int .i64 0, .int .i64 0, .int .i64 0, .slice none 0 0, .slice none 0 0]) 5 72 Try.underlying41 hI0 hz0 hz1 hz2 rfl (by decide) (.slice none 0 0) 0 [] (by simp [Act.eval]) (World.ownsRow_nil _ _ _ _) (.slice q1.pp k q1.pc) k _ (by simp only [Act.eval]; kernel_rfl) HSG.out (by unfold maxLen; omega) (by omega) (Nat.le_refl _) ?_
         intro p2 c2 x1 hown hgrow
         rw [Nat.zero_add, List.nil_append] at hown
         have HX1 : Hid (Below X.heap.size X x1) := hide (HX0.out.grown hgrow (Nat.le_refl _) (fun i hi => by simp [Value.ownBlock] at hi))
         have HO1' := hide hown
         rw [Nat.zero_add]
         clear hown hgrow
         refine hK.out _ _ HX1.out (fun hHeld => ?_)
         clear hK
         simp only [Act.put, List.setIfInBounds_toArray]
         refine rr 10 (o := _) rfl (by kernel_rfl) (fun K hK => ?_)
         have hSw : Below X.heap.size X x1 := HX1.out
         have l0 := cell_later hSw u0; have l1 := cell_later hSw u1; have l2 := cell_later hSw u2; have l3 := cell_later hSw u3; have l4 := cell_later hSw u4; have m5 := cell_later hSw u5
         go_simp
         refine (rclone_any (HR7.out.later HX1.out) (HN7.out.later HX1.out) HRN.out HVN.out (by have h7 : rs.length ≤ 4096 := HM.out.2.2.2.2.1; have h9 := HRN.out; omega) (by have h7 : (vs.length : Int) = (n : Int) := HM.out.2.2.2.2.2.1; have h9 := HVN.out; have h6 := HOK.out.parts.2; have h8 : q.sk.vec.length = n := HPT.out; omega)).mono ?_
         rintro _ x2 ⟨p7, c7, q7, d7, rfl, o1, o2, b0⟩
         have HX2 : Hid (Below X.heap.size X x2) := hide (HX1.out.trans (b0.mono HX1.out.size))
         have HO2' := hide (ownsRow_later HO1'.out b0); have HC1 := hide o1; have HC2 := hide o2
         have HXS : Hid (X.heap.size ≤ x1.heap.size) := hide HX1.out.size
         clear o1 o2 b0 l0 l1 l2 l3 l4 m5 hSw
         go_wp2_with fail
         refine hK.out _ _ HX2.out (fun hHeld => ?_)
         clear hK
         refine rr 11 (o := _) rfl (by kernel_rfl) (fun K hK => ?_)
         go_simp
         obtain ⟨x3, hx3⟩ : ∃ x3, x3 = x2.alloc (.cells #[.int .i64 ep, .int .i64 id, .int .i64 bg, .slice p7 rn c7, .slice q7 vn d7] 34 (0, 0)) := ⟨_, rfl⟩
         rw [← hx3]
         have b0 : Below x2.heap.size x2 x3 := by rw [hx3]; exact alloc_below _ _
         have HX3 : Hid (Below X.heap.size X x3) := hide (HX2.out.trans (b0.mono HX2.out.size))
         have HO3' := hide (ownsRow_later HO2'.out b0); have HC3 := hide (ownsRow_later HC1.out b0); have HC4 := hide (ownsRow_later HC2.out b0)
         obtain ⟨nB, hnB⟩ : ∃ nB, x2.heap.size = nB := ⟨_, rfl⟩
         have HSG2 : Hid (Seg x3 5 (.slice (some ⟨nB, 0, none⟩) 1 1) 1 [.int .i64 ep, .int .i64 id, .int .i64 bg, .slice p7 rn c7, .slice q7 vn d7]) := hide (by rw [hx3, ← hnB]; exact Seg.news (heap_alloc_new x2 _) (by simp [Value.oneCell']) rfl (Nat.le_refl _) (by decide))
         try rw [hnB]
         clear hx3 b0 hnB HC1 HC2
         refine hK.out _ _ HX3.out (fun hHeld => ?_)
         clear hK
         refine rr 12 (o := _) rfl (by kernel_rfl) (fun K hK => ?_)
         refine step_append_cells rfl (.tmp 89) (.tmp 92) 41 rfl X.heap.size 34 i0 (.agg #[.int .i64 0, .int .i64 0, .int .i64 0, .slice none 0 0, .slice none 0 0]) 5 72 Try.underlying41 hI0 hz0 hz1 hz2 rfl (by decide) (.slice p2 k c2) k _ rfl HO3'.out (.slice (some ⟨nB, 0, none⟩) 1 1) 1 _ rfl HSG2.out (by unfold maxLen; omega) (by omega) HX3.out.size ?_
         intro p4 c4 x4 hown hgrow; have hX4 := HX3.out.grown hgrow HX3.out.size (fun i hi => own_block_base HO3'.out hi)
         have HX4 : Hid (Below X.heap.size X x4) := hide hX4
         have HO4' := hide hown
         have hgo : Only (fun i => (Value.slice p2 k c2).ownBlock = some i) x3 x4 := Only.of_grown hgrow (fun _ e => e)
         have HC5 : Hid (x4.ownsRow x1.heap.size 49 2 (.slice p7 rn c7) rn (rs.flatMap RC.cells)) := hide (ownsRow_only HC3.out hgo (fun i hi e9 => own_ty HO3'.out (t2 := 49) (by decide) i e9 _ (own_block_lt HC3.out hi).2.choose_spec))
         have HC6 : Hid (x4.ownsRow x1.heap.size 2 1 (.slice q7 vn d7) vn (vs.flatMap intCells)) := hide (ownsRow_only HC4.out hgo (fun i hi e9 => own_ty HO3'.out (t2 := 2) (by decide) i e9 _ (own_block_lt HC4.out hi).2.choose_spec))
         clear hown hgrow hX4 hgo
         refine hK.out _ _ HX4.out (fun hHeld => ?_)
         clear hK
         simp only [Act.put, List.setIfInBounds_toArray]
         refine tb 13 ?_ rfl (by kernel_rfl) (fun _ _ _ h => h) (by assumption) ?_ ?_
         rotate_left
         ·intro w hSw; go_simp; all_goals with_reducible rfl
         simp only [Act.put]
         refine wpAnyH_done (by kernel_rfl) ?_ _
         have HPZ := hide (HP7.out.later HX4.out); have HVZ := hide (below_box HX4.out HV7.out); clear u0 u1 u2 u3 u4 u5; have u5 := HPZ.out.c5
         rw [HL.out] at u5
         have z5 := frB HPZ.out.box (i := 5); have htl := HPZ.out.vis.pre.tailG (j := k) (by rw [HL.out]; exact hkl)
         obtain ⟨A, hA⟩ : ∃ A, (if q1.pc = k then q1.pp else Option.map (fun x => x.add (k * 5)) q1.pp) = A := ⟨_, rfl⟩
         rw [hA] at htl
         obtain ⟨m, hm⟩ : ∃ m, k - k = m := ⟨_, rfl⟩
         have hsg := LRow.seg (by decide) TP.len TP.one htl
         rw [List.length_drop, HL.out, hm] at hsg
         have HSG3 := hide hsg
         have hm8 : m ≤ 8 := by omega
         have qk0 : (k : Int) ≤ (k : Int) := by omega
         have HBS : Hid (X.heap.size ≤ x4.heap.size) := hide HX4.out.size
         clear htl hsg
         go_wp2_with (at_builtin; refine append_cells _ rfl (.tmp 95) (.tmp 102) 41 rfl X.heap.size 34 i0 (.agg #[.int .i64 0, .int .i64 0, .int .i64 0, .slice none 0 0, .slice none 0 0]) 5 72 Try.underlying41 hI0 hz0 hz1 hz2 rfl (by decide) (.slice p4 (k + 1) c4) (k + 1) _ rfl HO4'.out (.slice A m (q1.pc - k)) m _ rfl HSG3.out (by unfold maxLen; omega) (by omega) HBS.out ?_)
         intro p5 c5 x5 hown hgrow; have hX5 := HX4.out.grown hgrow HX4.out.size (fun i hi => own_block_base HO4'.out hi)
         have HX5 : Hid (Below X.heap.size X x5) := hide hX5
         have hgo : Only (fun i => (Value.slice p4 (k + 1) c4).ownBlock = some i) x4 x5 := Only.of_grown hgrow (fun _ e => e)
         have HC7 : Hid (x5.ownsRow x1.heap.size 49 2 (.slice p7 rn c7) rn (rs.flatMap RC.cells)) := hide (ownsRow_only HC5.out hgo (fun i hi e9 => own_ty HO4'.out (t2 := 49) (by decide) i e9 _ (own_block_lt HC5.out hi).2.choose_spec))
         have HC8 : Hid (x5.ownsRow x1.heap.size 2 1 (.slice q7 vn d7) vn (vs.flatMap intCells)) := hide (ownsRow_only HC6.out hgo (fun i hi e9 => own_ty HO4'.out (t2 := 2) (by decide) i e9 _ (own_block_lt HC6.out hi).2.choose_spec))
         have HO5' := hide hown; have HPY := hide (HP7.out.later hX5); have y5 := HPY.out.c5; have z6 := frB HPY.out.box (i := 5); clear hown hgrow hX5 hgo u5 z5; go_wp2; go_ret
         have hlen : k + 1 + m = k + 1 := by omega
         have hts : (q1.ts.take k ++ (⟨⟨ep, id, bg, rs, vs⟩, p7, c7, q7, d7⟩ : TP) :: q1.ts.drop k).length = k + 1 + m := by
          rw [List.length_append, List.length_cons, List.length_take, List.length_drop, HL.out, Nat.min_eq_left hkl, hm]
          omega
         have hB5 : Below w1.heap.size w1 x5 := HB5.out.trans ((HB7.out.trans (HX5.out.mono HB7.out.size)).mono HB5.out.size)
         have h9 := RS.next (q' := ⟨q1.op, q1.oc, q1.vp, q1.vc, q1.dp, q1.dc, p5, c5, q1.reg, q1.out, q1.vec, q1.done, q1.ts.take k ++ (⟨⟨ep, id, bg, rs, vs⟩, p7, c7, q7, d7⟩ : TP) :: q1.ts.drop k⟩) HP2.out hB5 (Only.set (F := (· = b)) x5 b 5 (.slice p5 (k + 1 + m) c5) rfl) (by
           have h8 := heap_set_sameL HPY.out.box 5 (.slice p5 (k + 1 + m) c5)
           rw [h8]
           simp [RSrow, hts]) ⟨HPY.out.vis.out, HPY.out.vis.vec, HPY.out.vis.done, LRow.of_own (base := X.heap.size) (e := 34) TP.len hts (by
             have h8 := HO5'.out
             have e9 : (q1.ts.take k ++ (⟨⟨ep, id, bg, rs, vs⟩, p7, c7, q7, d7⟩ : TP) :: q1.ts.drop k).flatMap TP.cells = (q1.ts.take k).flatMap TP.cells ++ .int .i64 ep :: .int .i64 id :: .int .i64 bg :: .slice p7 rn c7 :: .slice q7 vn d7 :: (q1.ts.drop k).flatMap TP.cells := by
               rw [List.flatMap_append, List.flatMap_cons]
               simp [TP.cells, HRN.out, HVN.out]
             show x5.ownsRow X.heap.size 34 5 (.slice p5 _ c5) _ ((q1.ts.take k ++ (⟨⟨ep, id, bg, rs, vs⟩, p7, c7, q7, d7⟩ : TP) :: q1.ts.drop k).flatMap TP.cells)
             rw [e9]
             first | exact h8 | simpa [List.append_assoc] using h8), fun x hx => by
           rcases List.mem_append.1 hx with hx | hx
           ·exact HPY.out.vis.ts x (List.mem_of_mem_take hx)
           ·rcases List.mem_cons.1 hx with rfl | hx
            ·exact ⟨RRow.of_own HRN.out HC7.out, NRow.of_own HVN.out HC8.out⟩
            ·exact HPY.out.vis.ts x (List.mem_of_mem_drop hx)⟩ (fun i hi => by
       have hz9 : w1.heap.size ≤ X.heap.size := Nat.le_trans HB5.out.size HB7.out.size
       have hz8 := HXS.out
       rcases hi with hi | hi | hi | hi | ⟨x, hx, hi⟩
       · exact .inl (.inl hi)
       · exact .inl (.inr (.inl hi))
       · exact .inl (.inr (.inr (.inl hi)))
       · exact .inr (by have h8 := own_new HO5'.out i hi; omega)
       · rcases List.mem_append.1 hx with hx | hx
         · exact .inl (.inr (.inr (.inr (.inr ⟨x, List.mem_of_mem_take hx, hi⟩))))
         · rcases List.mem_cons.1 hx with rfl | hx
           · rcases hi with hi | hi
             · exact .inr (by have h8 := own_new HC7.out i hi; omega)
             · exact .inr (by have h8 := own_new HC8.out i hi; omega)
           · exact .inl (.inr (.inr (.inr (.inr ⟨x, List.mem_of_mem_drop hx, hi⟩)))))
         refine ⟨by rw [HE.out.1]; rfl, ?_⟩
         have h8 : (⟨q1.op, q1.oc, q1.vp, q1.vc, q1.dp, q1.dc, p5, c5, q1.reg, q1.out, q1.vec, q1.done, q1.ts.take k ++ (⟨⟨ep, id, bg, rs, vs⟩, p7, c7, q7, d7⟩ : TP) :: q1.ts.drop k⟩ : QK).sk = preS1 s1 ⟨ep, id, bg, rs, vs⟩ := by
          rw [HE.out.2, insT_at ⟨ep, id, bg, rs, vs⟩ s1.pre k (by rw [← HK1.out]; show k ≤ (q1.ts.map TP.t).length; rw [List.length_map, HL.out]; exact hkl) (fun j hj => by
            have hj9 : j < q1.ts.length := by rw [HL.out]; omega
            have h7 := HT.out j hj
            rw [← HK1.out]
            show ((q1.ts.map TP.t)[j]!).id < id
            rw [getElem!_pos _ j (by rw [List.length_map]; exact hj9), List.getElem_map]
            rw [getElem!_pos _ j hj9] at h7
            exact h7) (by
            rcases HEN.out with h7 | h7
            · exact .inl (by rw [← HK1.out]; show k = (q1.ts.map TP.t).length; rw [List.length_map]; exact h7)
            · by_cases hk9 : k < q1.ts.length
              · refine .inr ?_
                rw [← HK1.out]
                show ¬ ((q1.ts.map TP.t)[k]!).id < id
                rw [getElem!_pos _ k (by rw [List.length_map]; exact hk9), List.getElem_map]
                rw [getElem!_pos _ k hk9] at h7
                omega
              · exact .inl (by rw [← HK1.out]; show k = (q1.ts.map TP.t).length; rw [List.length_map]; have h6 := HL.out; omega))]
          rw [← HK1.out]
          unfold QK.sk
          simp only [List.map_append, List.map_cons, List.map_take, List.map_drop]
         rw [h8] at h9
         exact HLT.out h9
     ·have d1 : (r != 0) = true := by simpa using hr0
      have HE : Hid (preE1 s1 ⟨ep, id, bg, rs, vs⟩ = r ∧ preS1 s1 ⟨ep, id, bg, rs, vs⟩ = s1) := hide (by
        have hdf : ¬ doneC s1 ep id = true := by rw [HD.out]; decide
        have hrr : ¬ suitC s1 ⟨ep, id, bg, rs, vs⟩ = 0 := by rw [HSU.out]; exact hr0
        constructor
        · unfold preE1
          rw [if_neg hdf, HFN.out]
          simp only
          rw [if_neg hrr, HSU.out]
        · unfold preS1
          rw [if_neg hdf, HFN.out]
          simp only
          rw [if_neg hrr])
      clear hr0 u0 u1 u2 u3 u4; go_wp2; go_ret
      refine ⟨by rw [HE.out.1]; rfl, ?_⟩
      rw [HE.out.2, ← HK1.out]
      exact HLT.out (RPut.same HP2.out HB5.out)
    ·have HFS : Hid (findC s1 id = some q1.ts[k]!.t) := hide (by rw [← HK1.out]; exact hfs)
     obtain ⟨y, hy⟩ : ∃ y, q1.ts[k]! = y := ⟨_, rfl⟩
     rw [hy] at HFS
     obtain ⟨g, o, hpp, a0, a1, a2, a3, a4, hyo⟩ := TL.at HP4.out.tl hk hy
     have HYO := hide hyo; have u5 := HP4.out.c5
     obtain ⟨L, hL⟩ : ∃ L, q1.ts.length = L := ⟨_, rfl⟩
     have hk9 : k < L := by rw [← hL]; exact hk
     have i1 : q1.ts.length ≤ q1.pc := HP4.out.vis.pre.le
     have i2 := HP4.out.vis.pre.top
     rw [hL] at u5 i1
     rw [hpp] at u5
     obtain ⟨⟨e8, i8, b8, rs8, vs8⟩, rp8, rc8, vp8, vc8⟩ := y
     simp only at a0 a1 a2 a3 a4
     have d1 : decide ((k : Int) ≥ 0) = true := decide_eq_true (by omega)
     clear hfs hy hyo hk hL hpp
     by_cases hsm : (⟨e8, i8, b8, rs8, vs8⟩ : TX) = ⟨ep, id, bg, rs, vs⟩
     ·have HSM := hide hsm
      have HE : Hid (preE1 s1 ⟨ep, id, bg, rs, vs⟩ = 0 ∧ preS1 s1 ⟨ep, id, bg, rs, vs⟩ = s1) := hide (by
        have hdf : ¬ doneC s1 ep id = true := by rw [HD.out]; decide
        constructor
        · unfold preE1
          rw [if_neg hdf, HFS.out]
          simp only
          rw [if_pos HSM.out]
        · unfold preS1
          rw [if_neg hdf, HFS.out])
      clear hsm
      go_upto_region 10 with fail
      have HX0 : Hid (Below w3.heap.size w3 w3.drew) := hide (Below.refl _ w3).drew
      have HFA := hide (fun (w9 : World) (hSw : Below w3.heap.size w3 w9) => And.intro (cell_later hSw u0) (And.intro (cell_later hSw u1) (And.intro (cell_later hSw u2) (And.intro (cell_later hSw u3) (And.intro (cell_later hSw u4) (And.intro (cell_later hSw u5) (And.intro (cell_later hSw a0) (And.intro (cell_later hSw a1) (And.intro (cell_later hSw a2) (And.intro (cell_later hSw a3) (cell_later hSw a4)))))))))))
      refine wp_region_held_drew (S := fun w9 => Below w3.heap.size w3 w9) (by kernel_rfl) HX0.out (fun hHeld => ?_)
      refine tk 0 34 ?_ rfl rfl (by kernel_rfl) (fun _ _ _ h => h) (by assumption) ?_ ?_; rotate_left
      ·intro w hSw; go_simp; all_goals with_reducible rfl
      simp only [Act.put]
      refine tk 1 35 ?_ rfl rfl (by kernel_rfl) (fun _ _ _ h => h) (by assumption) ?_ ?_; rotate_left
      ·intro w hSw; go_simp; all_goals with_reducible rfl
      simp only [Act.put]
      refine tk 2 36 ?_ rfl rfl (by kernel_rfl) (fun _ _ _ h => h) (by assumption) ?_ ?_; rotate_left
      ·intro w hSw; go_simp; all_goals with_reducible rfl
      simp only [Act.put]
      refine tk 3 37 ?_ rfl rfl (by kernel_rfl) (fun _ _ _ h => h) (by assumption) ?_ ?_; rotate_left
      ·intro w hSw; go_simp; all_goals with_reducible rfl
      simp only [Act.put]
      refine tk 4 38 ?_ rfl rfl (by kernel_rfl) (fun _ _ _ h => h) (by assumption) ?_ ?_; rotate_left
      ·intro w hSw; obtain ⟨l0, l1, l2, l3, l4, m5, n0, n1, n2, n3, n4⟩ := HFA.out w hSw; go_simp; all_goals with_reducible rfl
      simp only [Act.put]
      refine tk 5 39 ?_ rfl rfl (by kernel_rfl) (fun _ _ _ h => h) (by assumption) ?_ ?_; rotate_left
      ·intro w hSw; go_simp; all_goals with_reducible rfl
      simp only [Act.put]
      refine tk 6 40 ?_ rfl rfl (by kernel_rfl) (fun _ _ _ h => h) (by assumption) ?_ ?_; rotate_left
      ·intro w hSw; go_simp; all_goals with_reducible rfl
      simp only [Act.put]
      refine tk 7 41 ?_ rfl rfl (by kernel_rfl) (fun _ _ _ h => h) (by assumption) ?_ ?_; rotate_left
      ·intro w hSw; obtain ⟨l0, l1, l2, l3, l4, m5, n0, n1, n2, n3, n4⟩ := HFA.out w hSw; go_simp; all_goals with_reducible rfl
      simp only [Act.put]
      refine tk 8 42 ?_ rfl rfl (by kernel_rfl) (fun _ _ _ h => h) (by assumption) ?_ ?_; rotate_left
      ·intro w hSw; obtain ⟨l0, l1, l2, l3, l4, m5, n0, n1, n2, n3, n4⟩ := HFA.out w hSw; go_simp; all_goals with_reducible rfl
      simp only [Act.put]
      refine rk (i := 9) (o := _) rfl (by kernel_rfl) (by kernel_rfl) (fun K hK => ?_)
      obtain ⟨l0, l1, l2, l3, l4, m5, n0, n1, n2, n3, n4⟩ := HFA.out _ HX0.out
      go_simp
      refine (rsametxn_all (HYO.out.later HX0.out).r (HYO.out.later HX0.out).v (HR4.out.later HX0.out) (HN4.out.later HX0.out) rfl rfl HRN.out HVN.out (decide_eq_true HSM.out)).mono ?_
      rintro _ x1 ⟨rfl, b0⟩
      have HX1 : Hid (Below w3.heap.size w3 x1) := hide (HX0.out.trans (b0.mono HX0.out.size))
      clear b0; clear l0 l1 l2 l3 l4 m5 n0 n1 n2 n3 n4
      go_wp2_with fail
      refine hK.out _ _ HX1.out (fun hHeld => ?_)
      clear hK
      refine wpAnyH_done (by kernel_rfl) ?_ _
      obtain ⟨X, rfl⟩ : ∃ X, X = x1 := ⟨_, rfl⟩
      have hX := HX1.out; clear HFA
      have HB7 : Hid (Below w1.heap.size w1 X) := hide (HB4'.out.trans (hX.mono HB4'.out.size))
      clear hX u0 u1 u2 u3 u4 u5 a0 a1 a2 a3 a4; go_wp2; go_ret
      refine ⟨by rw [HE.out.1]; rfl, ?_⟩
      rw [HE.out.2, ← HK1.out]
      exact HLT.out (RPut.same HP2.out HB7.out)
     ·have HSM := hide hsm
      have HE : Hid (preE1 s1 ⟨ep, id, bg, rs, vs⟩ = 5 ∧ preS1 s1 ⟨ep, id, bg, rs, vs⟩ = s1) := hide (by
        have hdf : ¬ doneC s1 ep id = true := by rw [HD.out]; decide
        constructor
        · unfold preE1
          rw [if_neg hdf, HFS.out]
          simp only
          rw [if_neg HSM.out]
        · unfold preS1
          rw [if_neg hdf, HFS.out])
      clear hsm
      go_upto_region 10 with fail
      have HX0 : Hid (Below w3.heap.size w3 w3.drew) := hide (Below.refl _ w3).drew
      have HFA := hide (fun (w9 : World) (hSw : Below w3.heap.size w3 w9) => And.intro (cell_later hSw u0) (And.intro (cell_later hSw u1) (And.intro (cell_later hSw u2) (And.intro (cell_later hSw u3) (And.intro (cell_later hSw u4) (And.intro (cell_later hSw u5) (And.intro (cell_later hSw a0) (And.intro (cell_later hSw a1) (And.intro (cell_later hSw a2) (And.intro (cell_later hSw a3) (cell_later hSw a4)))))))))))
      refine wp_region_held_drew (S := fun w9 => Below w3.heap.size w3 w9) (by kernel_rfl) HX0.out (fun hHeld => ?_)
      refine tk 0 34 ?_ rfl rfl (by kernel_rfl) (fun _ _ _ h => h) (by assumption) ?_ ?_; rotate_left
      ·intro w hSw; go_simp; all_goals with_reducible rfl
      simp only [Act.put]
      refine tk 1 35 ?_ rfl rfl (by kernel_rfl) (fun _ _ _ h => h) (by assumption) ?_ ?_; rotate_left
      ·intro w hSw; go_simp; all_goals with_reducible rfl
      simp only [Act.put]
      refine tk 2 36 ?_ rfl rfl (by kernel_rfl) (fun _ _ _ h => h) (by assumption) ?_ ?_; rotate_left
      ·intro w hSw; go_simp; all_goals with_reducible rfl
      simp only [Act.put]
      refine tk 3 37 ?_ rfl rfl (by kernel_rfl) (fun _ _ _ h => h) (by assumption) ?_ ?_; rotate_left
      ·intro w hSw; go_simp; all_goals with_reducible rfl
      simp only [Act.put]
      refine tk 4 38 ?_ rfl rfl (by kernel_rfl) (fun _ _ _ h => h) (by assumption) ?_ ?_; rotate_left
      ·intro w hSw; obtain ⟨l0, l1, l2, l3, l4, m5, n0, n1, n2, n3, n4⟩ := HFA.out w hSw; go_simp; all_goals with_reducible rfl
      simp only [Act.put]
      refine tk 5 39 ?_ rfl rfl (by kernel_rfl) (fun _ _ _ h => h) (by assumption) ?_ ?_; rotate_left
      ·intro w hSw; go_simp; all_goals with_reducible rfl
      simp only [Act.put]
      refine tk 6 40 ?_ rfl rfl (by kernel_rfl) (fun _ _ _ h => h) (by assumption) ?_ ?_; rotate_left
      ·intro w hSw; go_simp; all_goals with_reducible rfl
      simp only [Act.put]
      refine tk 7 41 ?_ rfl rfl (by kernel_rfl) (fun _ _ _ h => h) (by assumption) ?_ ?_; rotate_left
      ·intro w hSw; obtain ⟨l0, l1, l2, l3, l4, m5, n0, n1, n2, n3, n4⟩ := HFA.out w hSw; go_simp; all_goals with_reducible rfl
      simp only [Act.put]
      refine tk 8 42 ?_ rfl rfl (by kernel_rfl) (fun _ _ _ h => h) (by assumption) ?_ ?_; rotate_left
      ·intro w hSw; obtain ⟨l0, l1, l2, l3, l4, m5, n0, n1, n2, n3, n4⟩ := HFA.out w hSw; go_simp; all_goals with_reducible rfl
      simp only [Act.put]
      refine rk (i := 9) (o := _) rfl (by kernel_rfl) (by kernel_rfl) (fun K hK => ?_)
      obtain ⟨l0, l1, l2, l3, l4, m5, n0, n1, n2, n3, n4⟩ := HFA.out _ HX0.out
      go_simp
      refine (rsametxn_all (HYO.out.later HX0.out).r (HYO.out.later HX0.out).v (HR4.out.later HX0.out) (HN4.out.later HX0.out) rfl rfl HRN.out HVN.out (decide_eq_false HSM.out)).mono ?_
      rintro _ x1 ⟨rfl, b0⟩
      have HX1 : Hid (Below w3.heap.size w3 x1) := hide (HX0.out.trans (b0.mono HX0.out.size))
      clear b0; clear l0 l1 l2 l3 l4 m5 n0 n1 n2 n3 n4
      go_wp2_with fail
      refine hK.out _ _ HX1.out (fun hHeld => ?_)
      clear hK
      refine wpAnyH_done (by kernel_rfl) ?_ _
      obtain ⟨X, rfl⟩ : ∃ X, X = x1 := ⟨_, rfl⟩
      have hX := HX1.out; clear HFA
      have HB7 : Hid (Below w1.heap.size w1 X) := hide (HB4'.out.trans (hX.mono HB4'.out.size))
      clear hX u0 u1 u2 u3 u4 u5 a0 a1 a2 a3 a4; go_wp2; go_ret
      refine ⟨by rw [HE.out.1]; rfl, ?_⟩
      rw [HE.out.2, ← HK1.out]
      exact HLT.out (RPut.same HP2.out HB7.out)
   ·have HD := hide hd
    have HE : Hid (preE1 s1 ⟨ep, id, bg, rs, vs⟩ = 0 ∧ preS1 s1 ⟨ep, id, bg, rs, vs⟩ = s1) := hide ⟨if_pos hd, if_pos hd⟩
    clear hd
    go_wp2_with fail
    refine (rDone_any (rb := true) HP2.out (by rw [HK1.out]; exact HOK1.out) (by rw [HK1.out]; exact HD.out)).mono ?_
    rintro _ w2 ⟨rfl, b2⟩
    have HP3 := hide (HP2.out.later b2); have HV3 := hide (below_box b2 HV2.out); have HR3 := hide (HR2.out.later b2); have HN3 := hide (HN2.out.later b2)
    have HB3 : Hid (Below w1.heap.size w1 w2) := hide b2
    clear b2 u0 u1 u2 u3 u4; have u0 := cellB HV3.out (i := 0) rfl; have u1 := cellB HV3.out (i := 1) rfl; have u2 := cellB HV3.out (i := 2) rfl; have u3 := cellB HV3.out (i := 3) rfl; have u4 := cellB HV3.out (i := 4) rfl; clear u0 u1 u2 u3 u4; go_wp2; go_ret
    refine ⟨by rw [HE.out.1]; rfl, ?_⟩
    rw [HE.out.2, ← HK1.out]
    exact HLT.out (RPut.same HP2.out HB3.out)
 ·have HM := hide hm
  have HQ : Hid (preE n q.sk ⟨ep, id, bg, rs, vs⟩ = 1 ∧ preS n q.sk ⟨ep, id, bg, rs, vs⟩ = q.sk) := hide ⟨if_neg hm, if_neg hm⟩
  rw [HQ.out.1, HQ.out.2]
  clear hm; have HP := hide h; have HOK := hide hok; have HPT := hide hpt; have HR := hide hr; have HN := hide hv; have HRN := hide hrn; have HVN := hide hvn; have HXB := hide hxb; clear h hok hpt hr hv hrn hvn hxb
  obtain ⟨V, hV⟩ : ∃ V, V = W.alloc (.cells #[.int .i64 ep, .int .i64 id, .int .i64 bg, .slice rp rn rc, .slice vp vn vc] 34 (0, 0)) := ⟨_, rfl⟩
  have HV : Hid (V.heap[W.heap.size]? = some (.cells #[.int .i64 ep, .int .i64 id, .int .i64 bg, .slice rp rn rc, .slice vp vn vc] 34 (0, 0))) := hide (by rw [hV]; exact heap_alloc_new W _)
  have HBV : Hid (Below W.heap.size W V) := hide (by rw [hV]; exact alloc_below _ _)
  obtain ⟨bB, hbB⟩ : ∃ bB, W.heap.size = bB := ⟨_, rfl⟩
  rw [hbB] at HV HBV
  have HZbB := hide hbB
  have HBW : Hid (Below W.heap.size W V) := hide (by rw [HZbB.out]; exact HBV.out)
  have HPV : Hid (RS V b n q) := hide (HP.out.later HBW.out)
  go_enter Try.func35, Try.ntmps35
  go_upto_region 1 with fail
  rw [← hV]
  try rw [hbB]
  clear hV hbB; have u0 := cellB HV.out (i := 0) rfl; have u1 := cellB HV.out (i := 1) rfl; have u2 := cellB HV.out (i := 2) rfl; have u3 := cellB HV.out (i := 3) rfl; have u4 := cellB HV.out (i := 4) rfl
  go_wp2_with fail
  refine (rMay_any HPV.out.c0 (NRow.later HN.out HBW.out) HRN.out HVN.out (decide_eq_false HM.out)).mono ?_
  rintro _ V1 ⟨rfl, b1⟩
  have HB1 : Hid (Below W.heap.size W V1) := hide (HBW.out.trans (b1.mono HBW.out.size))
  have HV1 := hide (below_box b1 HV.out); have HP1 := hide (HP.out.later HB1.out); clear b1; clear u0 u1 u2 u3 u4; go_wp2; go_ret
  exact ⟨rfl, RPut.same HP.out HB1.out⟩
theorem rpre_any {b n : Nat} {W : World} {q : QK} {x : TP} (h : RS W b n q) (hok : okS q.sk) (hpt : q.vec.length = n) (hx : x.ok W) (hxb : ∀ i, x.blk i → ¬ i = b) :
  Calls Try.prog 35 #[.pointer (some ⟨b, 0, none⟩), .agg x.row] W fun e w' => e = .returned (.int .i64 (preE n q.sk x.t)) ∧ RPut W b n q (preS n q.sk x.t) w' := by
 obtain ⟨⟨ep, id, bg, rs, vs⟩, rp, rc, vp, vc⟩ := x
 exact rpre_nat h hok hpt hx.r hx.v rfl rfl hxb
end Go.Proofs.Ytboofnkajjnmeaa
