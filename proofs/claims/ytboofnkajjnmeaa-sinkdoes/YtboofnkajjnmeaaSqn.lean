/-
 Commit of the reference's sink. The conditions: that it lies there; lengths.
-/
import Derived.Test.YtboofnkajjnmeaaTk0
import Derived.Test.YtboofnkajjnmeaaSqm
namespace Go.Proofs.Ytboofnkajjnmeaa
open Go.RowKit Go.Maps Go.Shelf

theorem RS.nextS {W W1 W2 : World} {b n : Nat} {q q' : QK} (h : RS W b n q) (hb : Below W.heap.size W W1) (ho : Only (· = b) W1 W2) (hbox : W2.heap[b]? = some (.cells (RSrow n q') 75 (0, 0))) (hv : QV W1 q') (hk : ∀ i, q'.blk i → q.blk i ∨ (W.heap.size ≤ i ∧ i < W1.heap.size)) : RS W2 b n q' ∧ Only (· = b) W W2 ∧ ∀ i, q'.blk i → q.blk i ∨ W.heap.size ≤ i := by
 have hnb : ∀ i, q'.blk i → ¬ i = b := fun i hi e => by
  rcases hk i hi with h9 | h9
  ·exact h.nb (e ▸ h9)
  ·have := h.bl
   omega
 refine ⟨⟨hbox, hv.only ho hnb, fun i hi => ?_, fun hi => hnb b hi rfl⟩, (Only.fresh hb _).trans ho, fun i hi => ?_⟩
 ·have := ho.size
  have := hb.size
  rcases hk i hi with h9 | h9
  ·have := h.lt i h9
   omega
  ·omega
 ·rcases hk i hi with h9 | h9
  ·exact .inl h9
  ·exact .inr h9.1
theorem insI_at (t : Int) : ∀ (l : List Int) (k : Nat), k ≤ l.length → (∀ j, j < k → l[j]! < t) → (k = l.length ∨ ¬ l[k]! < t) → insI t l = l.take k ++ t :: l.drop k
 | [], k, hk, _, _ => by
  obtain rfl : k = 0 := by simpa using hk
  rfl
 | x :: l, 0, _, _, h => by
  rcases h with h | h
  ·simp at h
  ·have h' : ¬ x < t := h
   unfold insI
   rw [if_neg h']
   rfl
 | x :: l, k + 1, hk, h1, h2 => by
  have h3 : x < t := h1 0 (by omega)
  unfold insI
  rw [if_pos h3, insI_at t l k (by simpa using hk) (fun j hj => h1 (j + 1) (by omega)) (by
    rcases h2 with h2 | h2
    · exact .inl (by simpa using h2)
    · exact .inr h2)]
  rfl
set_option maxRecDepth 100000 in
set_option maxHeartbeats 16000000 in
theorem rcommit_any {W : World} {b n : Nat} {q : QK} {ep id : Int} (h : RS W b n q) (hok : okS q.sk) (hpt : q.vec.length = n) (hdn : q.done.length < 17592186044416) :
  Calls Try.prog 36 #[.pointer (some ⟨b, 0, none⟩), .agg #[.int .i64 ep, .int .i64 id]] W fun e w' => e = .returned (.int .i64 (comE q.sk ep id)) ∧ RPut W b n q (comS q.sk ep id) w' := by
 by_cases he : posI ep ∧ posI id
 ·by_cases hf : ep < q.reg
  ·have HE := hide he
   have HQ : Hid (comE q.sk ep id = 150 ∧ comS q.sk ep id = q.sk) := hide (com_late (s := q.sk) he.1 he.2 hf)
   have HQE : Hid (entC q.sk ep = 150 ∧ raisC q.sk ep = q.sk) := hide ⟨if_pos hf, if_neg (by show ¬ q.reg < ep; omega)⟩
   rw [HQ.out.1, HQ.out.2]
   clear he hf; have HP := hide h; have HOK := hide hok; have HPT := hide hpt; have HDN := hide hdn; clear h hok hpt hdn
   obtain ⟨V, hV⟩ : ∃ V, V = W.alloc (.cells #[.int .i64 ep, .int .i64 id] 55 (0, 0)) := ⟨_, rfl⟩
   have HV : Hid (V.heap[W.heap.size]? = some (.cells #[.int .i64 ep, .int .i64 id] 55 (0, 0))) := hide (by rw [hV]; exact heap_alloc_new W _)
   have HBV : Hid (Below W.heap.size W V) := hide (by rw [hV]; exact alloc_below _ _)
   obtain ⟨bB, hbB⟩ : ∃ bB, W.heap.size = bB := ⟨_, rfl⟩
   rw [hbB] at HV HBV
   have HZbB := hide hbB
   have HBW : Hid (Below W.heap.size W V) := hide (by rw [HZbB.out]; exact HBV.out)
   have HPV : Hid (RS V b n q) := hide (HP.out.later HBW.out)
   go_enter Try.func36, Try.ntmps36
   go_upto_region 1 with fail
   rw [← hV]
   try rw [hbB]
   clear hV hbB; have u0 := cellB HV.out (i := 0) rfl; have u1 := cellB HV.out (i := 1) rfl
   go_wp2_with fail
   refine (pos_any (decide_eq_true HE.out.1)).mono ?_
   rintro _ _ ⟨rfl, rfl⟩
   rename World => V
   go_wp2_with fail
   refine (pos_any (decide_eq_true HE.out.2)).mono ?_
   rintro _ _ ⟨rfl, rfl⟩
   rename World => V
   go_wp2_with fail
   refine (rraise_any HPV.out).mono ?_
   rintro _ w1 ⟨rfl, hp⟩
   rw [HQE.out.1]
   rw [HQE.out.2] at hp
   have HU := hide hp; clear hp u0 u1; go_wp2; go_ret
   exact ⟨rfl, RPut.first HBW.out HU.out⟩
  ·have HE := hide he
   obtain ⟨s1, hs1⟩ : ∃ s1, raisC q.sk ep = s1 := ⟨_, rfl⟩
   have HQE : Hid (entC q.sk ep = 0) := hide (if_neg hf)
   have HQ : Hid (comE q.sk ep id = comE1 s1 ep id ∧ comS q.sk ep id = comS1 s1 ep id) := hide ⟨by unfold comE; rw [if_pos he, if_neg (show ¬ ep < q.sk.reg from hf), hs1], by unfold comS; rw [if_pos he, if_neg (show ¬ ep < q.sk.reg from hf), hs1]⟩
   have HOK1 : Hid (okS s1) := hide (by rw [← hs1]; unfold raisC; split; exact raise_ok hok he.1; exact hok)
   have HV9 : Hid (s1.vec.length = n) := hide (by rw [← hs1, vec_rais]; exact hpt)
   have HD9 : Hid (s1.done.length < 17592186044416) := hide (by rw [← hs1]; exact Nat.lt_of_le_of_lt (rais_done q.sk ep) hdn)
   have HS1 := hide hs1
   rw [HQ.out.1, HQ.out.2]
   clear he hf hs1; have HP := hide h; have HOK := hide hok; have HPT := hide hpt; have HDN := hide hdn; clear h hok hpt hdn
   obtain ⟨V, hV⟩ : ∃ V, V = W.alloc (.cells #[.int .i64 ep, .int .i64 id] 55 (0, 0)) := ⟨_, rfl⟩
   have HV : Hid (V.heap[W.heap.size]? = some (.cells #[.int .i64 ep, .int .i64 id] 55 (0, 0))) := hide (by rw [hV]; exact heap_alloc_new W _)
   have HBV : Hid (Below W.heap.size W V) := hide (by rw [hV]; exact alloc_below _ _)
   obtain ⟨bB, hbB⟩ : ∃ bB, W.heap.size = bB := ⟨_, rfl⟩
   rw [hbB] at HV HBV
   have HZbB := hide hbB
   have HBW : Hid (Below W.heap.size W V) := hide (by rw [HZbB.out]; exact HBV.out)
   have HPV : Hid (RS V b n q) := hide (HP.out.later HBW.out)
   go_enter Try.func36, Try.ntmps36
   go_upto_region 1 with fail
   rw [← hV]
   try rw [hbB]
   clear hV hbB; have u0 := cellB HV.out (i := 0) rfl; have u1 := cellB HV.out (i := 1) rfl
   go_wp2_with fail
   refine (pos_any (decide_eq_true HE.out.1)).mono ?_
   rintro _ _ ⟨rfl, rfl⟩
   rename World => V
   go_wp2_with fail
   refine (pos_any (decide_eq_true HE.out.2)).mono ?_
   rintro _ _ ⟨rfl, rfl⟩
   rename World => V
   go_wp2_with fail
   refine (rraise_any HPV.out).mono ?_
   rintro _ w1 ⟨rfl, q1, h1, h2, h3, h4⟩
   rw [HQE.out]
   rw [HS1.out] at h2
   have HP2 := hide h1; have HK1 := hide h2; have HO1 := hide h3; have HB9 := hide h4
   have HV2 := hide (h3.obj HV.out (fun e9 => by have e8 : bB = b := e9; have := HP.out.bl; have := HZbB.out; omega))
   have HLT : Hid (∀ {s : SK} {w2 : World}, RPut w1 b n q1 s w2 → RPut W b n q s w2) := hide (fun h9 => RPut.first HBW.out (RPut.trans HO1.out HB9.out h9))
   clear h1 h2 h3 h4 u0 u1
   have HQV : Hid (q1.vec.length = n) := hide (by have h9 : q1.sk.vec.length = n := (by rw [HK1.out]; exact HV9.out); exact h9)
   have HQD : Hid (q1.done.length < 17592186044416) := hide (by have h9 : q1.sk.done.length < 17592186044416 := (by rw [HK1.out]; exact HD9.out); exact h9)
   have HQL : Hid (q1.ts.length ≤ 8 ∧ q1.out.length ≤ 4096) := hide ⟨by have h9 := HOK1.out.room; rw [← HK1.out] at h9; simpa [QK.sk] using h9, by have h9 := HOK1.out.out; rw [← HK1.out] at h9; exact h9⟩
   have HBN : Hid (bB ≠ b) := hide (by have := HP.out.bl; have := HZbB.out; omega)
   have u0 := cellB HV2.out (i := 0) rfl; have u1 := cellB HV2.out (i := 1) rfl
   cases hd : doneC s1 ep id
   ·have HD := hide hd; clear hd
    go_wp2_with fail
    refine (rDone_any (rb := false) HP2.out (by rw [HK1.out]; exact HOK1.out) (by rw [HK1.out]; exact HD.out)).mono ?_
    rintro _ w2 ⟨rfl, b2⟩
    have HP3 := hide (HP2.out.later b2); have HV3 := hide (below_box b2 HV2.out)
    have HB3 : Hid (Below w1.heap.size w1 w2) := hide b2
    clear b2 u0 u1; have u0 := cellB HV3.out (i := 0) rfl; have u1 := cellB HV3.out (i := 1) rfl
    go_wp2_with fail
    refine (rfind_any HP3.out).mono ?_
    rintro e9 w3 ⟨b2, hfo⟩
    have HP4 := hide (HP3.out.later b2); have HV4 := hide (below_box b2 HV3.out)
    have HB4 : Hid (Below w1.heap.size w1 w3) := hide (HB3.out.trans (b2.mono HB3.out.size))
    clear b2 u0 u1; have u0 := cellB HV4.out (i := 0) rfl; have u1 := cellB HV4.out (i := 1) rfl
    rcases hfo with ⟨rfl, hfn⟩ | ⟨k, hk, rfl, hfs⟩
    ·have HE2 : Hid (comE1 s1 ep id = 4 ∧ comS1 s1 ep id = s1) := hide (by
       have hdf : ¬ doneC s1 ep id = true := by rw [HD.out]; decide
       have hfn' : findC s1 id = none := by rw [← HK1.out]; exact hfn
       constructor
       · unfold comE1
         rw [if_neg hdf, hfn']
       · unfold comS1
         rw [if_neg hdf, hfn'])
     clear hfn u0 u1; go_wp2; go_ret
     refine ⟨by rw [HE2.out.1]; rfl, ?_⟩
     rw [HE2.out.2, ← HK1.out]
     exact HLT.out (RPut.same HP2.out HB4.out)
    ·have HFS : Hid (findC s1 id = some q1.ts[k]!.t) := hide (by rw [← HK1.out]; exact hfs)
     obtain ⟨y, hy⟩ : ∃ y, q1.ts[k]! = y := ⟨_, rfl⟩
     rw [hy] at HFS
     have HYT : Hid (y ∈ q1.ts) := hide (by rw [← hy, getElem!_pos q1.ts k hk]; exact List.getElem_mem hk)
     have HYM : Hid (mayC s1.vec.length y.t) := hide (HOK1.out.may y.t (by rw [← HK1.out]; exact List.mem_map_of_mem HYT.out)).1
     obtain ⟨g, o, hpp, a0, a1, a2, a3, a4, hyo⟩ := TL.at HP4.out.tl hk hy
     have HYO := hide hyo; have u5 := HP4.out.c5
     obtain ⟨L, hL⟩ : ∃ L, q1.ts.length = L := ⟨_, rfl⟩
     have hk9 : k < L := by rw [← hL]; exact hk
     have i1 : q1.ts.length ≤ q1.pc := HP4.out.vis.pre.le
     have i2 := HP4.out.vis.pre.top
     rw [hL] at u5 i1
     rw [hpp] at u5
     obtain ⟨⟨e8, i8, b8, rs8, vs8⟩, rp8, rc8, vp8, vc8⟩ := y
     obtain ⟨j, rfl⟩ : ∃ j : Nat, b8 = (j : Int) := ⟨b8.toNat, by have h0 : 0 ≤ b8 := HYM.out.2.2.1; omega⟩
     obtain ⟨rn8, hrn8⟩ : ∃ rn8, rs8.length = rn8 := ⟨_, rfl⟩
     obtain ⟨vn8, hvn8⟩ : ∃ vn8, vs8.length = vn8 := ⟨_, rfl⟩
     have HRN8 := hide hrn8; have HVN8 := hide hvn8
     have HJ4 : Hid (j ≤ 4096 ∧ rn8 ≤ 4096 ∧ vn8 = n) := hide ⟨by have h0 : (j : Int) ≤ 4096 := HYM.out.2.2.2.1; omega, by rw [← hrn8]; exact HYM.out.2.2.2.2.1, by have h0 : (vs8.length : Int) = (s1.vec.length : Int) := HYM.out.2.2.2.2.2.1; have h9 := HV9.out; omega⟩
     simp only at a0 a1 a2 a3 a4
     rw [hrn8] at a3
     rw [hvn8] at a4
     have d1 : decide ((k : Int) < 0) = false := decide_eq_false (by omega)
     clear hfs hy hyo hk hL hpp hrn8 hvn8
     go_upto_region 12 with fail
     obtain ⟨T, hT⟩ : ∃ T, T = w3.alloc (.cells #[.int .i64 e8, .int .i64 i8, .int .i64 (j : Int), .slice rp8 rn8 rc8, .slice vp8 vn8 vc8] 34 (0, 0)) := ⟨_, rfl⟩
     rw [← hT]
     have b2 : Below w3.heap.size w3 T := by rw [hT]; exact alloc_below _ _
     obtain ⟨tB, htB⟩ : ∃ tB, w3.heap.size = tB := ⟨_, rfl⟩
     have HT5 : Hid (T.heap[tB]? = some (.cells #[.int .i64 e8, .int .i64 i8, .int .i64 (j : Int), .slice rp8 rn8 rc8, .slice vp8 vn8 vc8] 34 (0, 0))) := hide (by rw [hT, ← htB]; exact heap_alloc_new w3 _)
     have HTN : Hid (tB ≠ b) := hide (by have := HP4.out.bl; omega)
     try rw [htB]
     have HY5 := hide (HYO.out.later b2); clear hT htB u5 a0 a1 a2 a3 a4; have HP5 := hide (HP4.out.later b2); have HV5 := hide (below_box b2 HV4.out)
     have HB5 : Hid (Below w1.heap.size w1 T) := hide (HB4.out.trans (b2.mono HB4.out.size))
     clear b2 u0 u1; have u0 := cellB HV5.out (i := 0) rfl; have u1 := cellB HV5.out (i := 1) rfl
     obtain ⟨r, hr9⟩ : ∃ r, suitC s1 ⟨e8, i8, (j : Int), rs8, vs8⟩ = r := ⟨_, rfl⟩
     have HSU := hide hr9; clear hr9; have t0 := cellB HT5.out (i := 0) rfl; have t1 := cellB HT5.out (i := 1) rfl; have t2 := cellB HT5.out (i := 2) rfl; have t3 := cellB HT5.out (i := 3) rfl; have t4 := cellB HT5.out (i := 4) rfl
     go_wp2_with fail
     refine (rsuits_l (r := r) HP5.out HQL.out.2 HY5.out.r HY5.out.v HRN8.out HVN8.out (by rw [HQV.out, ← HV9.out]; exact HYM.out) (by rw [HK1.out]; exact HSU.out)).mono ?_
     rintro _ w5 ⟨rfl, b2⟩
     have HY6 := hide (HY5.out.later b2); have HT6 := hide (below_box b2 HT5.out); clear t0 t1 t2 t3 t4; have HP6 := hide (HP5.out.later b2); have HV6 := hide (below_box b2 HV5.out)
     have HB6 : Hid (Below w1.heap.size w1 w5) := hide (HB5.out.trans (b2.mono HB5.out.size))
     clear b2 u0 u1; have u0 := cellB HV6.out (i := 0) rfl; have u1 := cellB HV6.out (i := 1) rfl
     by_cases hr0 : r = 0
     ·subst hr0
      have hz := suit_zero HSU.out
      rw [← HK1.out] at hz
      obtain ⟨N, hN⟩ : ∃ N, q1.out.length = N := ⟨_, rfl⟩
      have HN9 := hide hN
      have hz1 : j ≤ N := by have h9 : (j : Int) ≤ (q1.out.length : Int) := hz.1; omega
      have hz2 : N ≤ j + rn8 := by have h9 : (q1.out.length : Int) ≤ (j : Int) + (rs8.length : Int) := hz.2.2.1; have := HRN8.out; omega
      have hz3 : j + rn8 ≤ 4096 := by have h9 : (j : Int) + (rs8.length : Int) ≤ 4096 := hz.2.2.2.2; have := HRN8.out; omega
      have hN4 : N ≤ 4096 := by omega
      obtain ⟨d, hd⟩ : ∃ d, N - j = d := ⟨_, rfl⟩
      obtain ⟨m, hm⟩ : ∃ m, rn8 - d = m := ⟨_, rfl⟩
      have HDJ := hide hd
      have qw : IntKind.i64.wrap ((N : Int) - (j : Int)) = (d : Int) := by rw [IntKind.wrap_i64]; omega
      have qd0 : (0 : Int) ≤ (d : Int) := by omega
      have qd1 : (d : Int) ≤ (rn8 : Int) := by omega
      have qd2 : d ≤ rn8 := by omega
      have qm : rn8 - d = m := hm
      have hmm : m ≤ 4096 := by omega
      obtain ⟨i0, hI0, hz0, hz1', hz2'⟩ := info_parts Try.infoRec
      have HSG : Hid (Seg w5.drew 2 (.slice q1.op N q1.oc) N (q1.out.flatMap RC.cells)) := hide (by
        have h9 := LRow.seg (W := w5.drew) (by decide) RC.len RC.one (HP6.out.later (Below.refl _ w5).drew).vis.out
        rw [hN] at h9
        exact h9)
      have hrc : rn8 ≤ rc8 := by have := HY6.out.r.le; have h9 : rs8.length ≤ rc8 := this; have := HRN8.out; omega
      obtain ⟨A, hA⟩ : ∃ A, (if rc8 = d then rp8 else Option.map (fun x => x.add (d * 2)) rp8) = A := ⟨_, rfl⟩
      have HAA := hide hA; clear hz hd hm hN u0 u1; have t0 := cellB HT6.out (i := 0) rfl; have t1 := cellB HT6.out (i := 1) rfl; have t2 := cellB HT6.out (i := 2) rfl; have t3 := cellB HT6.out (i := 3) rfl; have t4 := cellB HT6.out (i := 4) rfl
      go_upto_region 16 with fail
      refine wp_region_held_drew (S := fun w9 => Only (· = b) w5 w9) (by kernel_rfl) ((Only.refl _ w5).drew) (fun hHeld => ?_)
      refine tb 0 ?_ rfl (by kernel_rfl) (fun _ _ _ h => h) (by assumption) ?_ ?_
      rotate_left
      ·intro w hSw; have l0 := hSw.cell t0 HTN.out; have l1 := hSw.cell t1 HTN.out; have l2 := hSw.cell t2 HTN.out; have l3 := hSw.cell t3 HTN.out; have l4 := hSw.cell t4 HTN.out; go_simp; all_goals with_reducible rfl
      simp only [Act.put]
      refine tb 1 ?_ rfl (by kernel_rfl) (fun _ _ _ h => h) (by assumption) ?_ ?_
      rotate_left
      ·intro w hSw; have l0 := hSw.cell t0 HTN.out; have l1 := hSw.cell t1 HTN.out; have l2 := hSw.cell t2 HTN.out; have l3 := hSw.cell t3 HTN.out; have l4 := hSw.cell t4 HTN.out; go_simp; all_goals with_reducible rfl
      simp only [Act.put]
      refine tb 2 ?_ rfl (by kernel_rfl) (fun _ _ _ h => h) (by assumption) ?_ ?_
      rotate_left
      ·intro w hSw; have l0 := hSw.cell t0 HTN.out; have l1 := hSw.cell t1 HTN.out; have l2 := hSw.cell t2 HTN.out; have l3 := hSw.cell t3 HTN.out; have l4 := hSw.cell t4 HTN.out; go_simp; all_goals with_reducible rfl
      simp only [Act.put]
      refine tb 3 ?_ rfl (by kernel_rfl) (fun _ _ _ h => h) (by assumption) ?_ ?_
      rotate_left
      ·intro w hSw; have l0 := hSw.cell t0 HTN.out; have l1 := hSw.cell t1 HTN.out; have l2 := hSw.cell t2 HTN.out; have l3 := hSw.cell t3 HTN.out; have l4 := hSw.cell t4 HTN.out; go_simp; all_goals with_reducible rfl
      simp only [Act.put]
      refine tb 4 ?_ rfl (by kernel_rfl) (fun _ _ _ h => h) (by assumption) ?_ ?_
      rotate_left
      ·intro w hSw; have l0 := hSw.cell t0 HTN.out; have l1 := hSw.cell t1 HTN.out; have l2 := hSw.cell t2 HTN.out; have l3 := hSw.cell t3 HTN.out; have l4 := hSw.cell t4 HTN.out; go_simp; all_goals with_reducible rfl
      simp only [Act.put]
      refine tb 5 ?_ rfl (by kernel_rfl) (fun _ _ _ h => h) (by assumption) ?_ ?_
      rotate_left
      ·intro w hSw; have l0 := hSw.cell t0 HTN.out; have l1 := hSw.cell t1 HTN.out; have l2 := hSw.cell t2 HTN.out; have l3 := hSw.cell t3 HTN.out; have l4 := hSw.cell t4 HTN.out; go_simp; all_goals with_reducible rfl
      simp only [Act.put]
      refine tb 8 ?_ rfl (by kernel_rfl) (fun _ _ _ h => h) (by assumption) ?_ ?_
      rotate_left
      ·intro w hSw; have l0 := hSw.cell t0 HTN.out; have l1 := hSw.cell t1 HTN.out; have l2 := hSw.cell t2 HTN.out; have l3 := hSw.cell t3 HTN.out; have l4 := hSw.cell t4 HTN.out; go_simp; all_goals with_reducible rfl
      simp only [Act.put]
      refine tb 9 ?_ rfl (by kernel_rfl) (fun _ _ _ h => h) (by assumption) ?_ ?_
      rotate_left
      ·intro w hSw; have l0 := hSw.cell t0 HTN.out; have l1 := hSw.cell t1 HTN.out; have l2 := hSw.cell t2 HTN.out; have l3 := hSw.cell t3 HTN.out; have l4 := hSw.cell t4 HTN.out; go_simp; all_goals with_reducible rfl
      simp only [Act.put]
      refine tb 10 ?_ rfl (by kernel_rfl) (fun _ _ _ h => h) (by assumption) ?_ ?_
      rotate_left
      ·intro w hSw; have l0 := hSw.cell t0 HTN.out; have l1 := hSw.cell t1 HTN.out; have l2 := hSw.cell t2 HTN.out; have l3 := hSw.cell t3 HTN.out; have l4 := hSw.cell t4 HTN.out; go_simp; all_goals with_reducible rfl
      simp only [Act.put]
      refine tb 12 ?_ rfl (by kernel_rfl) (fun _ _ _ h => h) (by assumption) ?_ ?_
      rotate_left
      ·intro w hSw; have l0 := hSw.cell t0 HTN.out; have l1 := hSw.cell t1 HTN.out; have l2 := hSw.cell t2 HTN.out; have l3 := hSw.cell t3 HTN.out; have l4 := hSw.cell t4 HTN.out; go_simp; all_goals with_reducible rfl
      simp only [Act.put]
      refine tb 13 ?_ rfl (by kernel_rfl) (fun _ _ _ h => h) (by assumption) ?_ ?_
      rotate_left
      ·intro w hSw; have l0 := hSw.cell t0 HTN.out; have l1 := hSw.cell t1 HTN.out; have l2 := hSw.cell t2 HTN.out; have l3 := hSw.cell t3 HTN.out; have l4 := hSw.cell t4 HTN.out; go_simp; all_goals with_reducible rfl
      simp only [Act.put]
      refine rr 6 (o := _) rfl (by kernel_rfl) (fun K hK => ?_)
      have m2 := (HP6.out.later (Below.refl _ w5).drew).c2
      rw [HN9.out] at m2
      go_simp
      clear m2
      refine hK.out _ _ ((Only.refl _ w5).drew) (fun hHeld => ?_)
      clear hK
      refine rr 7 (o := _) rfl (by kernel_rfl) (fun K hK => ?_)
      refine step_append_cells rfl (.tmp 53) (.tmp 58) 31 rfl w5.heap.size 49 i0 (.agg #[.int .i64 0, .int .i64 0]) 2 16 Try.underlying31 hI0 hz0 hz1' hz2' rfl (by decide) (.slice none 0 0) 0 [] (by simp [Act.eval]) (World.ownsRow_nil _ _ _ _) (.slice q1.op N q1.oc) N _ (by simp [Act.eval]) HSG.out (by unfold maxLen; omega) (by omega) (Nat.le_refl _) ?_
      intro p2 c2 x1 hown hgrow
      rw [Nat.zero_add, List.nil_append] at hown
      have HX1 : Hid (Below w5.heap.size w5 x1) := hide (((Below.refl _ w5).drew).grown hgrow (Nat.le_refl _) (fun i hi => by simp [Value.ownBlock] at hi))
      have HW1 := hide hown
      rw [Nat.zero_add]
      clear hown hgrow
      refine hK.out _ _ (Only.fresh HX1.out _) (fun hHeld => ?_)
      clear hK
      simp only [Act.put, List.setIfInBounds_toArray]
      refine rr 11 (o := _) rfl (by kernel_rfl) (fun K hK => ?_)
      go_simp
      refine (rLen_b (HP6.out.later HX1.out)).mono ?_
      rintro _ x2 ⟨rfl, b0⟩
      rw [HN9.out]
      have HX2 : Hid (Below w5.heap.size w5 x2) := hide (HX1.out.trans (b0.mono HX1.out.size))
      have HW2 := hide (ownsRow_later HW1.out b0); clear b0
      go_wp2_with fail
      refine hK.out _ _ (Only.fresh HX2.out _) (fun hHeld => ?_)
      clear hK
      refine tb 14 ?_ rfl (by kernel_rfl) (fun _ _ _ h => h) (by assumption) ?_ ?_
      rotate_left
      ·intro w hSw; go_simp; all_goals with_reducible rfl
      simp only [Act.put]
      refine tb 15 ?_ rfl (by kernel_rfl) (fun _ _ _ h => h) (by assumption) ?_ ?_
      rotate_left
      ·intro w hSw; go_simp; all_goals with_reducible rfl
      simp only [Act.put]
      have HSG2 : Hid (Seg x2 2 (.slice A m (rc8 - d)) m ((rs8.drop d).flatMap RC.cells)) := hide (by
        have htl := (HY6.out.later HX2.out).r.tail (j := d) (by show d ≤ rs8.length; rw [HRN8.out]; exact qd2)
        have h9 := LRow.seg (by decide) RC.len RC.one htl
        rw [List.length_drop] at h9
        have e9 : rs8.length - d = m := by rw [HRN8.out]; exact qm
        have e8 : (if rc8 = d then rp8 else Option.map (fun x => x.add (d * 2)) rp8) = A := HAA.out
        have h8 : Seg x2 2 (.slice (if rc8 = d then rp8 else Option.map (fun x => x.add (d * 2)) rp8) (rs8.length - d) (rc8 - d)) (rs8.length - d) ((rs8.drop d).flatMap RC.cells) := h9
        rw [e9, e8] at h8
        exact h8)
      refine rr 16 (o := _) rfl (by kernel_rfl) (fun K hK => ?_)
      refine step_append_cells rfl (.tmp 59) (.tmp 67) 31 rfl w5.heap.size 49 i0 (.agg #[.int .i64 0, .int .i64 0]) 2 16 Try.underlying31 hI0 hz0 hz1' hz2' rfl (by decide) (.slice p2 N c2) N _ (by simp [Act.eval]) HW2.out (.slice A m (rc8 - d)) m _ (by simp [Act.eval]) HSG2.out (by unfold maxLen; omega) (by omega) HX2.out.size ?_
      intro p4 c4 x3 hown hgrow
      have HX3 : Hid (Below w5.heap.size w5 x3) := hide (HX2.out.grown hgrow HX2.out.size (fun i hi => own_block_base HW2.out hi))
      have HW3 := hide hown; clear hown hgrow
      refine hK.out _ _ (Only.fresh HX3.out _) (fun hHeld => ?_)
      clear hK
      simp only [Act.put, List.setIfInBounds_toArray]
      refine tb 17 ?_ rfl (by kernel_rfl) (fun _ _ _ h => h) (by assumption) ?_ ?_
      rotate_left
      ·intro w hSw; go_simp; all_goals with_reducible rfl
      simp only [Act.put]
      refine tb 18 ?_ rfl (by kernel_rfl) (fun _ _ _ h => h) (by assumption) ?_ ?_
      rotate_left
      ·intro w hSw; go_simp; all_goals with_reducible rfl
      simp only [Act.put]
      refine tb 19 ?_ rfl (by kernel_rfl) (fun _ _ _ h => h) (by assumption) ?_ ?_
      rotate_left
      ·intro w hSw; go_simp; all_goals with_reducible rfl
      simp only [Act.put]
      refine rr 20 (o := _) rfl (by kernel_rfl) (fun K hK => ?_)
      have HPX := hide (HP6.out.later HX3.out); have y2 := HPX.out.c2; have z2 := frB HPX.out.box (i := 2)
      go_simp
      obtain ⟨Y, hY⟩ : ∃ Y, Y = x3.setCell ⟨b, 2, none⟩ (.slice p4 (N + m) c4) := ⟨_, rfl⟩
      rw [← hY]
      have hoY : Only (· = b) x3 Y := by rw [hY]; exact Only.set (F := (· = b)) x3 b 2 _ rfl
      have hlo : (q1.out ++ rs8.drop d).length = N + m := by rw [List.length_append, List.length_drop, HN9.out, HRN8.out, qm]
      have hn2 := RS.nextS (q' := ⟨p4, c4, q1.vp, q1.vc, q1.dp, q1.dc, q1.pp, q1.pc, q1.reg, q1.out ++ rs8.drop d, q1.vec, q1.done, q1.ts⟩) HP6.out HX3.out hoY (by
        have h8 := heap_set_sameL HPX.out.box 2 (.slice p4 (N + m) c4)
        rw [hY, h8]
        simp only [RSrow, hlo]
        rfl) ⟨LRow.of_own (base := w5.heap.size) (e := 49) RC.len hlo (by
          have h8 := HW3.out
          show x3.ownsRow w5.heap.size 49 2 (.slice p4 _ c4) _ ((q1.out ++ rs8.drop d).flatMap RC.cells)
          rw [List.flatMap_append]
          exact h8), HPX.out.vis.vec, HPX.out.vis.done, HPX.out.vis.pre, HPX.out.vis.ts⟩ (fun i hi => by
        rcases hi with hi | hi | hi | hi | hi
        · exact .inr (own_new HW3.out i hi)
        · exact .inl (.inr (.inl hi))
        · exact .inl (.inr (.inr (.inl hi)))
        · exact .inl (.inr (.inr (.inr (.inl hi))))
        · exact .inl (.inr (.inr (.inr (.inr hi)))))
      have HPY := hide hn2.1; have HOY := hide hn2.2.1; have HKY := hide hn2.2.2; have HTY := hide (hn2.2.1.obj HT6.out (fun e9 => HTN.out e9)); have HVY := hide (hn2.2.1.obj HV6.out (fun e9 => HBN.out e9)); have HYY := hide (HY6.out.only hn2.2.1 (fun i hi e9 => HP6.out.nb (by rw [← (show i = b from e9)]; exact .inr (.inr (.inr (.inr ⟨_, HYT.out, hi⟩)))))); clear y2 z2 hY hoY hlo hn2
      refine hK.out _ _ HOY.out (fun hHeld => ?_)
      clear hK
      refine wpAnyH_done (by kernel_rfl) ?_ _
      clear t0 t1 t2 t3 t4 hA qw qd0 qd1 qd2 qm; have t4 := cellB HTY.out (i := 4) rfl; have z3 := frB HPY.out.box (i := 3); have y3 := HPY.out.c3
      go_upto_region 18 with fail
      obtain ⟨Y2, hY2⟩ : ∃ Y2, Y2 = Y.setCell ⟨b, 3, none⟩ (.slice vp8 vn8 vc8) := ⟨_, rfl⟩
      rw [← hY2]
      have hoY2 : Only (· = b) Y Y2 := by rw [hY2]; exact Only.set (F := (· = b)) Y b 3 _ rfl
      have hn3 := RS.nextS (q' := ⟨p4, c4, vp8, vc8, q1.dp, q1.dc, q1.pp, q1.pc, q1.reg, q1.out ++ rs8.drop d, vs8, q1.done, q1.ts⟩) HPY.out (Below.refl _ Y) hoY2 (by
        have h8 := heap_set_sameL HPY.out.box 3 (.slice vp8 vn8 vc8)
        rw [hY2, h8]
        simp only [RSrow, HVN8.out]
        rfl) ⟨HPY.out.vis.out, HYY.out.v, HPY.out.vis.done, HPY.out.vis.pre, HPY.out.vis.ts⟩ (fun i hi => by
        rcases hi with hi | hi | hi | hi | hi
        · exact .inl (.inl hi)
        · exact .inl (.inr (.inr (.inr (.inr ⟨_, HYT.out, .inr hi⟩))))
        · exact .inl (.inr (.inr (.inl hi)))
        · exact .inl (.inr (.inr (.inr (.inl hi))))
        · exact .inl (.inr (.inr (.inr (.inr hi)))))
      have HPZ := hide hn3.1
      have HLZ : Hid (∀ {s : SK} {w2 : World}, RPut Y2 b n ⟨p4, c4, vp8, vc8, q1.dp, q1.dc, q1.pp, q1.pc, q1.reg, q1.out ++ rs8.drop d, vs8, q1.done, q1.ts⟩ s w2 → RPut W b n q s w2) := hide (fun h9 => HLT.out (RPut.first HB6.out (RPut.trans HOY.out HKY.out (RPut.trans hn3.2.1 hn3.2.2 h9))))
      have HVZ := hide (hn3.2.1.obj HVY.out (fun e9 => HBN.out e9)); clear hY2 hoY2 hn3 t4 z3 y3; have u0 := cellB HVZ.out (i := 0) rfl; have u1 := cellB HVZ.out (i := 1) rfl
      go_wp2_with fail
      refine (rdrop_any HPZ.out HQL.out.1).mono ?_
      rintro _ w6 ⟨rfl, q4, h1, h2, h3, h4⟩
      have HP7 := hide h1; have HK4 := hide h2; have HV7 := hide (h3.obj HVZ.out (fun e9 => HBN.out e9))
      have HL4 : Hid (∀ {s : SK} {w2 : World}, RPut w6 b n q4 s w2 → RPut W b n q s w2) := hide (fun h9 => HLZ.out (RPut.trans h3 h4 h9))
      clear h1 h2 h3 h4 u0 u1
      have HDE : Hid (q4.done = q1.done) := hide (congrArg SK.done HK4.out)
      obtain ⟨L, hL⟩ : ∃ L, q4.done.length = L := ⟨_, rfl⟩
      have HL := hide hL
      have hl9 : L < 17592186044416 := by rw [← hL, HDE.out]; exact HQD.out
      have HFIN : Hid (∀ (l : List Int), l = insI id s1.done → (⟨q4.reg, q4.out, q4.vec, l, q4.sk.pre⟩ : SK) = comS1 s1 ep id ∧ comE1 s1 ep id = 0) := hide (fun l h9 => by
        have hdf : ¬ doneC s1 ep id = true := by rw [HD.out]; decide
        have e1 : q4.reg = q1.reg := congrArg SK.reg HK4.out
        have e2 : q4.out = q1.out ++ rs8.drop d := congrArg SK.out HK4.out
        have e3 : q4.vec = vs8 := congrArg SK.vec HK4.out
        have e4 : q4.sk.pre = delT id (q1.ts.map TP.t) := congrArg SK.pre HK4.out
        have e5 : d = s1.out.length - j := by rw [← HK1.out]; show d = q1.out.length - j; rw [HN9.out]; exact HDJ.out.symm
        constructor
        · unfold comS1
          rw [if_neg hdf, HFS.out]
          simp only
          rw [if_pos HSU.out]
          unfold putC
          rw [h9, e1, e2, e3, e4, ← HK1.out]
          show SK.mk _ _ _ _ _ = SK.mk q1.reg (q1.out ++ rs8.drop (q1.out.length - (j : Int).toNat)) vs8 _ _
          rw [Int.toNat_natCast, HN9.out, HDJ.out]
          rfl
        · unfold comE1
          rw [if_neg hdf, HFS.out]
          exact HSU.out)
      clear hL; have u0 := cellB HV7.out (i := 0) rfl; have u1 := cellB HV7.out (i := 1) rfl
      go_wp2_with fail
      clear u0 u1
      go_loopw [10] (fun i wr => ∃ k2 : Nat, k2 ≤ L ∧ i = .int .i64 (k2 : Int) ∧ Hid (∀ j, j < k2 → q4.done[j]! < id) ∧ Hid (Below w6.heap.size w6 wr)) (fun i _ => L - (intOf i).toNat)
      case atStart => exact ⟨0, Nat.zero_le _, rfl, hide (fun j hj => by omega), hide (Below.refl _ _)⟩
      case round =>
       obtain ⟨k2, hk2, rfl, HT, HB⟩ := hrel
       rename World => wr
       have HP8 := hide (HP7.out.later HB.out); have HV8 := hide (below_box HB.out HV7.out)
       have j1 : q4.done.length ≤ q4.dc := HP8.out.vis.done.le
       have j2 := HP8.out.vis.done.top
       rw [HL.out] at j1
       have u4 := HP8.out.c4
       rw [HL.out] at u4
       have u0 := cellB HV8.out (i := 0) rfl; have u1 := cellB HV8.out (i := 1) rfl
       by_cases hlt : k2 < L
       ·have hl1 : k2 < q4.done.length := by rw [HL.out]; exact hlt
        obtain ⟨y2, hy2⟩ : ∃ y, q4.done[k2]! = y := ⟨_, rfl⟩
        obtain ⟨g2, o2, hdp, a0⟩ := NRow.at HP8.out.vis.done hl1 hy2
        have u4' := u4
        rw [hdp] at u4'
        have f1 : decide ((k2 : Int) < (L : Int)) = true := decide_eq_true (by omega)
        have f2 : decide (k2 < L) = true := decide_eq_true hlt
        clear u4 hdp
        by_cases hid : y2 < id
        ·have f3 : decide (y2 < id) = true := decide_eq_true hid
         have HT2 : Hid (∀ j, j < k2 + 1 → q4.done[j]! < id) := hide (fun j hj => by
           by_cases hj9 : j < k2
           · exact HT.out j hj9
           · obtain rfl : j = k2 := by omega
             rw [hy2]
             exact hid)
         clear hy2 hid hl1
         go_upto_region 20 with fail
         have HX0 : Hid (Below wr.heap.size wr wr.drew) := hide (Below.refl _ wr).drew
         have HFA := hide (fun (w9 : World) (hSw : Below wr.heap.size wr w9) => And.intro (cell_later hSw u0) (And.intro (cell_later hSw u1) (And.intro (cell_later hSw u4') (cell_later hSw a0))))
         refine wp_region_held_drew (S := fun w9 => Below wr.heap.size wr w9) (by kernel_rfl) HX0.out (fun hHeld => ?_)
         refine tk 0 82 ?_ rfl rfl (by kernel_rfl) (fun _ _ _ h => h) (by assumption) ?_ ?_; rotate_left
         ·intro w hSw; go_simp; all_goals with_reducible rfl
         simp only [Act.put]
         refine tk 1 83 ?_ rfl rfl (by kernel_rfl) (fun _ _ _ h => h) (by assumption) ?_ ?_; rotate_left
         ·intro w hSw; go_simp; all_goals with_reducible rfl
         simp only [Act.put]
         refine tk 2 84 ?_ rfl rfl (by kernel_rfl) (fun _ _ _ h => h) (by assumption) ?_ ?_; rotate_left
         ·intro w hSw; go_simp; all_goals with_reducible rfl
         simp only [Act.put]
         refine tk 3 85 ?_ rfl rfl (by kernel_rfl) (fun _ _ _ h => h) (by assumption) ?_ ?_; rotate_left
         ·intro w hSw; go_simp; all_goals with_reducible rfl
         simp only [Act.put]
         refine tk 4 86 ?_ rfl rfl (by kernel_rfl) (fun _ _ _ h => h) (by assumption) ?_ ?_; rotate_left
         ·intro w hSw; go_simp; all_goals with_reducible rfl
         simp only [Act.put]
         refine tk 5 87 ?_ rfl rfl (by kernel_rfl) (fun _ _ _ h => h) (by assumption) ?_ ?_; rotate_left
         ·intro w hSw; obtain ⟨l0, l1, m5, n0⟩ := HFA.out w hSw; go_simp; all_goals with_reducible rfl
         simp only [Act.put]
         refine tk 6 88 ?_ rfl rfl (by kernel_rfl) (fun _ _ _ h => h) (by assumption) ?_ ?_; rotate_left
         ·intro w hSw; go_simp; all_goals with_reducible rfl
         simp only [Act.put]
         refine tk 7 89 ?_ rfl rfl (by kernel_rfl) (fun _ _ _ h => h) (by assumption) ?_ ?_; rotate_left
         ·intro w hSw; go_simp; all_goals with_reducible rfl
         simp only [Act.put]
         refine tk 8 90 ?_ rfl rfl (by kernel_rfl) (fun _ _ _ h => h) (by assumption) ?_ ?_; rotate_left
         ·intro w hSw; go_simp; all_goals with_reducible rfl
         simp only [Act.put]
         refine tk 9 91 ?_ rfl rfl (by kernel_rfl) (fun _ _ _ h => h) (by assumption) ?_ ?_; rotate_left
         ·intro w hSw; go_simp; all_goals with_reducible rfl
         simp only [Act.put]
         refine tk 10 92 ?_ rfl rfl (by kernel_rfl) (fun _ _ _ h => h) (by assumption) ?_ ?_; rotate_left
         ·intro w hSw; go_simp; all_goals with_reducible rfl
         simp only [Act.put]
         refine tk 11 93 ?_ rfl rfl (by kernel_rfl) (fun _ _ _ h => h) (by assumption) ?_ ?_; rotate_left
         ·intro w hSw; go_simp; all_goals with_reducible rfl
         simp only [Act.put]
         refine tk 12 94 ?_ rfl rfl (by kernel_rfl) (fun _ _ _ h => h) (by assumption) ?_ ?_; rotate_left
         ·intro w hSw; go_simp; all_goals with_reducible rfl
         simp only [Act.put]
         refine tk 13 95 ?_ rfl rfl (by kernel_rfl) (fun _ _ _ h => h) (by assumption) ?_ ?_; rotate_left
         ·intro w hSw; obtain ⟨l0, l1, m5, n0⟩ := HFA.out w hSw; go_simp; all_goals with_reducible rfl
         simp only [Act.put]
         refine tk 14 96 ?_ rfl rfl (by kernel_rfl) (fun _ _ _ h => h) (by assumption) ?_ ?_; rotate_left
         ·intro w hSw; go_simp; all_goals with_reducible rfl
         simp only [Act.put]
         refine tk 15 97 ?_ rfl rfl (by kernel_rfl) (fun _ _ _ h => h) (by assumption) ?_ ?_; rotate_left
         ·intro w hSw; go_simp; all_goals with_reducible rfl
         simp only [Act.put]
         refine tk 16 98 ?_ rfl rfl (by kernel_rfl) (fun _ _ _ h => h) (by assumption) ?_ ?_; rotate_left
         ·intro w hSw; obtain ⟨l0, l1, m5, n0⟩ := HFA.out w hSw; go_simp; all_goals with_reducible rfl
         simp only [Act.put]
         refine tk 17 99 ?_ rfl rfl (by kernel_rfl) (fun _ _ _ h => h) (by assumption) ?_ ?_; rotate_left
         ·intro w hSw; go_simp; all_goals with_reducible rfl
         simp only [Act.put]
         refine tk 18 100 ?_ rfl rfl (by kernel_rfl) (fun _ _ _ h => h) (by assumption) ?_ ?_; rotate_left
         ·intro w hSw; obtain ⟨l0, l1, m5, n0⟩ := HFA.out w hSw; go_simp; all_goals with_reducible rfl
         simp only [Act.put]
         refine tk 19 101 ?_ rfl rfl (by kernel_rfl) (fun _ _ _ h => h) (by assumption) ?_ ?_; rotate_left
         ·intro w hSw; go_simp; all_goals with_reducible rfl
         simp only [Act.put]
         refine rk (i := 20) (o := _) rfl (by kernel_rfl) (by kernel_rfl) (fun K hK => ?_)
         go_simp
         refine hK.out _ _ HX0.out (fun hHeld => ?_)
         clear hK
         refine wpAnyH_done (by kernel_rfl) ?_ _
         obtain ⟨X, hXE⟩ : ∃ X, X = wr.drew := ⟨_, rfl⟩
         rw [← hXE]
         have hX : Below wr.heap.size wr X := by rw [hXE]; exact HX0.out
         clear hXE; clear HFA
         have HB9' : Hid (Below w6.heap.size w6 X) := hide (HB.out.trans (hX.mono HB.out.size))
         clear hX u4' a0 u0 u1; go_wp2
         exact ⟨⟨k2 + 1, hlt, by first | rfl | go_num, HT2, HB9'⟩, by simp [intOf]; omega⟩
        ·have f3 : decide (y2 < id) = false := decide_eq_false hid
         have HEN : Hid (k2 = q4.done.length ∨ id ≤ q4.done[k2]!) := hide (.inr (by rw [hy2]; omega))
         clear hy2 hid hl1
         go_upto_region 20 with fail
         have HX0 : Hid (Below wr.heap.size wr wr.drew) := hide (Below.refl _ wr).drew
         have HFA := hide (fun (w9 : World) (hSw : Below wr.heap.size wr w9) => And.intro (cell_later hSw u0) (And.intro (cell_later hSw u1) (And.intro (cell_later hSw u4') (cell_later hSw a0))))
         refine wp_region_held_drew (S := fun w9 => Below wr.heap.size wr w9) (by kernel_rfl) HX0.out (fun hHeld => ?_)
         refine tk 0 82 ?_ rfl rfl (by kernel_rfl) (fun _ _ _ h => h) (by assumption) ?_ ?_; rotate_left
         ·intro w hSw; go_simp; all_goals with_reducible rfl
         simp only [Act.put]
         refine tk 1 83 ?_ rfl rfl (by kernel_rfl) (fun _ _ _ h => h) (by assumption) ?_ ?_; rotate_left
         ·intro w hSw; go_simp; all_goals with_reducible rfl
         simp only [Act.put]
         refine tk 2 84 ?_ rfl rfl (by kernel_rfl) (fun _ _ _ h => h) (by assumption) ?_ ?_; rotate_left
         ·intro w hSw; go_simp; all_goals with_reducible rfl
         simp only [Act.put]
         refine tk 3 85 ?_ rfl rfl (by kernel_rfl) (fun _ _ _ h => h) (by assumption) ?_ ?_; rotate_left
         ·intro w hSw; go_simp; all_goals with_reducible rfl
         simp only [Act.put]
         refine tk 4 86 ?_ rfl rfl (by kernel_rfl) (fun _ _ _ h => h) (by assumption) ?_ ?_; rotate_left
         ·intro w hSw; go_simp; all_goals with_reducible rfl
         simp only [Act.put]
         refine tk 5 87 ?_ rfl rfl (by kernel_rfl) (fun _ _ _ h => h) (by assumption) ?_ ?_; rotate_left
         ·intro w hSw; obtain ⟨l0, l1, m5, n0⟩ := HFA.out w hSw; go_simp; all_goals with_reducible rfl
         simp only [Act.put]
         refine tk 6 88 ?_ rfl rfl (by kernel_rfl) (fun _ _ _ h => h) (by assumption) ?_ ?_; rotate_left
         ·intro w hSw; go_simp; all_goals with_reducible rfl
         simp only [Act.put]
         refine tk 7 89 ?_ rfl rfl (by kernel_rfl) (fun _ _ _ h => h) (by assumption) ?_ ?_; rotate_left
         ·intro w hSw; go_simp; all_goals with_reducible rfl
         simp only [Act.put]
         refine tk 8 90 ?_ rfl rfl (by kernel_rfl) (fun _ _ _ h => h) (by assumption) ?_ ?_; rotate_left
         ·intro w hSw; go_simp; all_goals with_reducible rfl
         simp only [Act.put]
         refine tk 9 91 ?_ rfl rfl (by kernel_rfl) (fun _ _ _ h => h) (by assumption) ?_ ?_; rotate_left
         ·intro w hSw; go_simp; all_goals with_reducible rfl
         simp only [Act.put]
         refine tk 10 92 ?_ rfl rfl (by kernel_rfl) (fun _ _ _ h => h) (by assumption) ?_ ?_; rotate_left
         ·intro w hSw; go_simp; all_goals with_reducible rfl
         simp only [Act.put]
         refine tk 11 93 ?_ rfl rfl (by kernel_rfl) (fun _ _ _ h => h) (by assumption) ?_ ?_; rotate_left
         ·intro w hSw; go_simp; all_goals with_reducible rfl
         simp only [Act.put]
         refine tk 12 94 ?_ rfl rfl (by kernel_rfl) (fun _ _ _ h => h) (by assumption) ?_ ?_; rotate_left
         ·intro w hSw; go_simp; all_goals with_reducible rfl
         simp only [Act.put]
         refine tk 13 95 ?_ rfl rfl (by kernel_rfl) (fun _ _ _ h => h) (by assumption) ?_ ?_; rotate_left
         ·intro w hSw; obtain ⟨l0, l1, m5, n0⟩ := HFA.out w hSw; go_simp; all_goals with_reducible rfl
         simp only [Act.put]
         refine tk 14 96 ?_ rfl rfl (by kernel_rfl) (fun _ _ _ h => h) (by assumption) ?_ ?_; rotate_left
         ·intro w hSw; go_simp; all_goals with_reducible rfl
         simp only [Act.put]
         refine tk 15 97 ?_ rfl rfl (by kernel_rfl) (fun _ _ _ h => h) (by assumption) ?_ ?_; rotate_left
         ·intro w hSw; go_simp; all_goals with_reducible rfl
         simp only [Act.put]
         refine tk 16 98 ?_ rfl rfl (by kernel_rfl) (fun _ _ _ h => h) (by assumption) ?_ ?_; rotate_left
         ·intro w hSw; obtain ⟨l0, l1, m5, n0⟩ := HFA.out w hSw; go_simp; all_goals with_reducible rfl
         simp only [Act.put]
         refine tk 17 99 ?_ rfl rfl (by kernel_rfl) (fun _ _ _ h => h) (by assumption) ?_ ?_; rotate_left
         ·intro w hSw; go_simp; all_goals with_reducible rfl
         simp only [Act.put]
         refine tk 18 100 ?_ rfl rfl (by kernel_rfl) (fun _ _ _ h => h) (by assumption) ?_ ?_; rotate_left
         ·intro w hSw; obtain ⟨l0, l1, m5, n0⟩ := HFA.out w hSw; go_simp; all_goals with_reducible rfl
         simp only [Act.put]
         refine tk 19 101 ?_ rfl rfl (by kernel_rfl) (fun _ _ _ h => h) (by assumption) ?_ ?_; rotate_left
         ·intro w hSw; go_simp; all_goals with_reducible rfl
         simp only [Act.put]
         refine rk (i := 20) (o := _) rfl (by kernel_rfl) (by kernel_rfl) (fun K hK => ?_)
         go_simp
         refine hK.out _ _ HX0.out (fun hHeld => ?_)
         clear hK
         refine wpAnyH_done (by kernel_rfl) ?_ _
         obtain ⟨X, hXE⟩ : ∃ X, X = wr.drew := ⟨_, rfl⟩
         rw [← hXE]
         have hX : Below wr.heap.size wr X := by rw [hXE]; exact HX0.out
         clear hXE; clear HFA
         have HB9' : Hid (Below w6.heap.size w6 X) := hide (HB.out.trans (hX.mono HB.out.size))
         clear hX u4' a0 u0 u1 f1 f2 f3; have HP9 := hide (HP7.out.later HB9'.out); have HV9' := hide (below_box HB9'.out HV7.out)
         have hkl : k2 ≤ L := by omega
         have hkc : k2 ≤ q4.dc := by omega
         obtain ⟨j0, hJ0, hy0, hy1, hy2⟩ := info_parts Try.infoN
         have u0 := cellB HV9'.out (i := 0) rfl; have u1 := cellB HV9'.out (i := 1) rfl; have u4 := HP9.out.c4
         rw [HL.out] at u4
         have HSG3 : Hid (Seg X.drew 1 (.slice q4.dp k2 q4.dc) k2 ((q4.done.take k2).flatMap intCells)) := hide (by
           have h9 := LRow.seg (W := X.drew) (by decide) intCells_len intCells_one ((HP9.out.later (Below.refl _ X).drew).vis.done.takeG k2)
           rw [List.length_take, Nat.min_eq_left (by rw [HL.out]; exact hkl)] at h9
           exact h9)
         go_upto_region 23 with fail
         refine wp_region_held_drew (S := fun w9 => Below X.heap.size X w9) (by kernel_rfl) ((Below.refl _ X).drew) (fun hHeld => ?_)
         refine tb 0 ?_ rfl (by kernel_rfl) (fun _ _ _ h => h) (by assumption) ?_ ?_
         rotate_left
         ·intro w hSw; have l0 := cell_later hSw u0; have l1 := cell_later hSw u1; have m4 := cell_later hSw u4; go_simp; all_goals with_reducible rfl
         simp only [Act.put]
         refine tb 1 ?_ rfl (by kernel_rfl) (fun _ _ _ h => h) (by assumption) ?_ ?_
         rotate_left
         ·intro w hSw; have l0 := cell_later hSw u0; have l1 := cell_later hSw u1; have m4 := cell_later hSw u4; go_simp; all_goals with_reducible rfl
         simp only [Act.put]
         refine tb 2 ?_ rfl (by kernel_rfl) (fun _ _ _ h => h) (by assumption) ?_ ?_
         rotate_left
         ·intro w hSw; have l0 := cell_later hSw u0; have l1 := cell_later hSw u1; have m4 := cell_later hSw u4; go_simp; all_goals with_reducible rfl
         simp only [Act.put]
         refine tb 3 ?_ rfl (by kernel_rfl) (fun _ _ _ h => h) (by assumption) ?_ ?_
         rotate_left
         ·intro w hSw; have l0 := cell_later hSw u0; have l1 := cell_later hSw u1; have m4 := cell_later hSw u4; go_simp; all_goals with_reducible rfl
         simp only [Act.put]
         refine tb 4 ?_ rfl (by kernel_rfl) (fun _ _ _ h => h) (by assumption) ?_ ?_
         rotate_left
         ·intro w hSw; have l0 := cell_later hSw u0; have l1 := cell_later hSw u1; have m4 := cell_later hSw u4; go_simp; all_goals with_reducible rfl
         simp only [Act.put]
         refine tb 5 ?_ rfl (by kernel_rfl) (fun _ _ _ h => h) (by assumption) ?_ ?_
         rotate_left
         ·intro w hSw; have l0 := cell_later hSw u0; have l1 := cell_later hSw u1; have m4 := cell_later hSw u4; go_simp; all_goals with_reducible rfl
         simp only [Act.put]
         refine tb 6 ?_ rfl (by kernel_rfl) (fun _ _ _ h => h) (by assumption) ?_ ?_
         rotate_left
         ·intro w hSw; have l0 := cell_later hSw u0; have l1 := cell_later hSw u1; have m4 := cell_later hSw u4; go_simp; all_goals with_reducible rfl
         simp only [Act.put]
         refine tb 7 ?_ rfl (by kernel_rfl) (fun _ _ _ h => h) (by assumption) ?_ ?_
         rotate_left
         ·intro w hSw; have l0 := cell_later hSw u0; have l1 := cell_later hSw u1; have m4 := cell_later hSw u4; go_simp; all_goals with_reducible rfl
         simp only [Act.put]
         refine tb 9 ?_ rfl (by kernel_rfl) (fun _ _ _ h => h) (by assumption) ?_ ?_
         rotate_left
         ·intro w hSw; have l0 := cell_later hSw u0; have l1 := cell_later hSw u1; have m4 := cell_later hSw u4; go_simp; all_goals with_reducible rfl
         simp only [Act.put]
         refine tb 10 ?_ rfl (by kernel_rfl) (fun _ _ _ h => h) (by assumption) ?_ ?_
         rotate_left
         ·intro w hSw; have l0 := cell_later hSw u0; have l1 := cell_later hSw u1; have m4 := cell_later hSw u4; go_simp; all_goals with_reducible rfl
         simp only [Act.put]
         refine wpAnyH_ready (rs := [8, 11]) (by kernel_rfl) (by simp) ?_
         refine AllReadyH.cons (o := _) rfl (fun K hK => ?_) (AllReadyH.cons (o := _) rfl (fun K hK => ?_) AllReadyH.nil)
         ·
          refine step_append_cells rfl (.tmp 105) (.tmp 112) 32 rfl X.heap.size 2 j0 (.int .i64 0) 1 8 Try.underlying32 hJ0 hy0 hy1 hy2 rfl (by decide) (.slice none 0 0) 0 [] (by simp [Act.eval]) (World.ownsRow_nil _ _ _ _) (.slice q4.dp k2 q4.dc) k2 _ (by simp [Act.eval]) HSG3.out (by unfold maxLen; omega) (by omega) (Nat.le_refl _) ?_
          intro p5 c5 x1 hown hgrow
          rw [Nat.zero_add, List.nil_append] at hown
          have HX1 : Hid (Below X.heap.size X x1) := hide (((Below.refl _ X).drew).grown hgrow (Nat.le_refl _) (fun i hi => by simp [Value.ownBlock] at hi))
          have HW5 := hide hown
          rw [Nat.zero_add]
          clear hown hgrow
          refine hK.out _ _ HX1.out (fun hHeld => ?_)
          clear hK
          simp only [Act.put, List.setIfInBounds_toArray]
          refine rr 11 (o := _) rfl (by kernel_rfl) (fun K hK => ?_)
          go_simp
          obtain ⟨x2, hx2⟩ : ∃ x2, x2 = x1.alloc (.cells #[.int .i64 id] 2 (0, 0)) := ⟨_, rfl⟩
          rw [← hx2]
          have b0 : Below x1.heap.size x1 x2 := by rw [hx2]; exact alloc_below _ _
          have HX2 : Hid (Below X.heap.size X x2) := hide (HX1.out.trans (b0.mono HX1.out.size))
          have HW6 := hide (ownsRow_later HW5.out b0)
          obtain ⟨nB, hnB⟩ : ∃ nB, x1.heap.size = nB := ⟨_, rfl⟩
          have HSG4 : Hid (Seg x2 1 (.slice (some ⟨nB, 0, none⟩) 1 1) 1 [.int .i64 id]) := hide (by rw [hx2, ← hnB]; exact Seg.news (heap_alloc_new x1 _) (by simp [Value.oneCell']) rfl (Nat.le_refl _) (by decide))
          try rw [hnB]
          clear hx2 b0 hnB
          refine hK.out _ _ HX2.out (fun hHeld => ?_)
          clear hK
          refine rr 12 (o := _) rfl (by kernel_rfl) (fun K hK => ?_)
          refine step_append_cells rfl (.tmp 113) (.tmp 116) 32 rfl X.heap.size 2 j0 (.int .i64 0) 1 8 Try.underlying32 hJ0 hy0 hy1 hy2 rfl (by decide) (.slice p5 k2 c5) k2 _ (by simp [Act.eval]) HW6.out (.slice (some ⟨nB, 0, none⟩) 1 1) 1 _ (by simp [Act.eval]) HSG4.out (by unfold maxLen; omega) (by omega) HX2.out.size ?_
          intro p6 c6 x4 hown hgrow
          have HX4 : Hid (Below X.heap.size X x4) := hide (HX2.out.grown hgrow HX2.out.size (fun i hi => own_block_base HW6.out hi))
          have HW7 := hide hown; clear hown hgrow
          refine hK.out _ _ HX4.out (fun hHeld => ?_)
          clear hK
          simp only [Act.put, List.setIfInBounds_toArray]
          refine tb 13 ?_ rfl (by kernel_rfl) (fun _ _ _ h => h) (by assumption) ?_ ?_
          rotate_left
          ·intro w hSw; go_simp; all_goals with_reducible rfl
          simp only [Act.put]
          refine wpAnyH_done (by kernel_rfl) ?_ _
          have HPA := hide (HP9.out.later HX4.out); clear u0 u1 u4; have u4 := HPA.out.c4
          rw [HL.out] at u4
          have z4 := frB HPA.out.box (i := 4); have htl := HPA.out.vis.done.tailG (j := k2) (by rw [HL.out]; exact hkl)
          rw [Nat.mul_one] at htl
          rw [if_neg (show ¬ q4.dc = k2 by omega)] at htl
          obtain ⟨A2, hA2⟩ : ∃ A2, Option.map (fun x => x.add k2) q4.dp = A2 := ⟨_, rfl⟩
          rw [hA2] at htl
          obtain ⟨m2, hm2⟩ : ∃ m2, L - k2 = m2 := ⟨_, rfl⟩
          have hsg := LRow.seg (by decide) intCells_len intCells_one htl
          rw [List.length_drop, HL.out, hm2] at hsg
          have HSG7 := hide hsg
          have hm8 : m2 ≤ 17592186044416 := by omega
          have qk0 : (k2 : Int) ≤ (L : Int) := by omega
          have HBS : Hid (X.heap.size ≤ x4.heap.size) := hide HX4.out.size
          clear htl hsg
          go_wp2_with (at_builtin; refine append_cells _ rfl (.tmp 119) (.tmp 126) 32 rfl X.heap.size 2 j0 (.int .i64 0) 1 8 Try.underlying32 hJ0 hy0 hy1 hy2 rfl (by decide) (.slice p6 (k2 + 1) c6) (k2 + 1) _ rfl HW7.out (.slice A2 m2 (q4.dc - k2)) m2 _ rfl HSG7.out (by unfold maxLen; omega) (by omega) HBS.out ?_)
          intro p7 c7 x5 hown hgrow; have hX5 := HX4.out.grown hgrow HX4.out.size (fun i hi => own_block_base HW7.out hi)
          have HX5 : Hid (Below X.heap.size X x5) := hide hX5
          have HW8 := hide hown; have HPB := hide (HP9.out.later hX5); have y4 := HPB.out.c4; have z5 := frB HPB.out.box (i := 4); clear hown hgrow hX5 u4 z4; go_wp2; go_ret
          have hts : (q4.done.take k2 ++ id :: q4.done.drop k2).length = k2 + 1 + m2 := by
           rw [List.length_append, List.length_cons, List.length_take, List.length_drop, HL.out, Nat.min_eq_left hkl, hm2]
           omega
          have h9 := RS.next (q' := ⟨q4.op, q4.oc, q4.vp, q4.vc, p7, c7, q4.pp, q4.pc, q4.reg, q4.out, q4.vec, q4.done.take k2 ++ id :: q4.done.drop k2, q4.ts⟩) HP9.out HX5.out (Only.set (F := (· = b)) x5 b 4 (.slice p7 (k2 + 1 + m2) c7) rfl) (by
            have h8 := heap_set_sameL HPB.out.box 4 (.slice p7 (k2 + 1 + m2) c7)
            rw [h8]
            simp only [RSrow, hts]
            rfl) ⟨HPB.out.vis.out, HPB.out.vis.vec, LRow.of_own (base := X.heap.size) (e := 2) intCells_len hts (by
              have h8 := HW8.out
              have e9 : (q4.done.take k2 ++ id :: q4.done.drop k2).flatMap intCells = (q4.done.take k2).flatMap intCells ++ .int .i64 id :: (q4.done.drop k2).flatMap intCells := by
                rw [List.flatMap_append, List.flatMap_cons]
                simp [intCells]
              show x5.ownsRow X.heap.size 2 1 (.slice p7 _ c7) _ ((q4.done.take k2 ++ id :: q4.done.drop k2).flatMap intCells)
              rw [e9]
              first | exact h8 | simpa [List.append_assoc] using h8), HPB.out.vis.pre, HPB.out.vis.ts⟩ (fun i hi => by
            rcases hi with hi | hi | hi | hi | hi
            · exact .inl (.inl hi)
            · exact .inl (.inr (.inl hi))
            · exact .inr (own_new HW8.out i hi)
            · exact .inl (.inr (.inr (.inr (.inl hi))))
            · exact .inl (.inr (.inr (.inr (.inr hi)))))
          have hins : q4.done.take k2 ++ id :: q4.done.drop k2 = insI id s1.done := by
           rw [← insI_at id q4.done k2 (by rw [HL.out]; exact hkl) HT.out (by
             rcases HEN.out with h7 | h7
             · exact .inl h7
             · exact .inr (by omega)), HDE.out, ← HK1.out]
           rfl
          have hf9 := HFIN.out _ hins
          refine ⟨by rw [hf9.2]; rfl, ?_⟩
          rw [← hf9.1]
          exact HL4.out (RPut.first HB9'.out h9)
         ·
          go_simp
          obtain ⟨x1, hx1⟩ : ∃ x1, x1 = (X.alloc (.cells #[.int .i64 id] 2 (0, 0))).drew := ⟨_, rfl⟩
          rw [← hx1]
          have HX1 : Hid (Below X.heap.size X x1) := hide (by rw [hx1]; exact (alloc_below _ _).drew)
          obtain ⟨nB, hnB⟩ : ∃ nB, X.heap.size = nB := ⟨_, rfl⟩
          have HSG5 : Hid (Seg x1 1 (.slice (some ⟨nB, 0, none⟩) 1 1) 1 [.int .i64 id]) := hide (by rw [hx1, ← hnB]; exact Seg.news (show (X.alloc (.cells #[.int .i64 id] 2 (0, 0))).drew.heap[X.heap.size]? = _ from heap_alloc_new X _) (by simp [Value.oneCell']) rfl (Nat.le_refl _) (by decide))
          have HNB5 : Hid (x1.heap[nB]? = some (.cells #[.int .i64 id] 2 (0, 0))) := hide (by rw [hx1, ← hnB]; exact heap_alloc_new X _)
          have HSX : Hid (x1.heap.size = nB + 1) := hide (by rw [hx1, ← hnB]; show (X.alloc _).heap.size = _; simp)
          have HSG6 : Hid (Seg x1 1 (.slice q4.dp k2 q4.dc) k2 ((q4.done.take k2).flatMap intCells)) := hide (by
            have h9 := LRow.seg (W := x1) (by decide) intCells_len intCells_one ((HP9.out.later HX1.out).vis.done.takeG k2)
            rw [List.length_take, Nat.min_eq_left (by rw [HL.out]; exact hkl)] at h9
            exact h9)
          try rw [hnB]
          clear hx1 hnB
          refine hK.out _ _ HX1.out (fun hHeld => ?_)
          clear hK
          refine rr 8 (o := _) rfl (by kernel_rfl) (fun K hK => ?_)
          refine step_append_cells rfl (.tmp 105) (.tmp 112) 32 rfl x1.heap.size 2 j0 (.int .i64 0) 1 8 Try.underlying32 hJ0 hy0 hy1 hy2 rfl (by decide) (.slice none 0 0) 0 [] (by simp [Act.eval]) (World.ownsRow_nil _ _ _ _) (.slice q4.dp k2 q4.dc) k2 _ (by simp [Act.eval]) HSG6.out (by unfold maxLen; omega) (by omega) (Nat.le_refl _) ?_
          intro p5 c5 x2 hown hgrow
          rw [Nat.zero_add, List.nil_append] at hown
          have hb2 : Below x1.heap.size x1 x2 := (Below.refl _ x1).grown hgrow (Nat.le_refl _) (fun i hi => by simp [Value.ownBlock] at hi)
          have HX2 : Hid (Below X.heap.size X x2) := hide (HX1.out.trans (hb2.mono HX1.out.size))
          have HW6 : Hid (x2.ownsRow X.heap.size 2 1 (.slice p5 k2 c5) k2 ((q4.done.take k2).flatMap intCells)) := hide (ownsRow_base hown HX1.out.size)
          have HSG4 : Hid (Seg x2 1 (.slice (some ⟨nB, 0, none⟩) 1 1) 1 [.int .i64 id]) := hide (Seg.news (below_box hb2 HNB5.out) (by simp [Value.oneCell']) rfl (Nat.le_refl _) (by decide))
          rw [Nat.zero_add]
          clear hown hgrow hb2
          refine hK.out _ _ HX2.out (fun hHeld => ?_)
          clear hK
          simp only [Act.put, List.setIfInBounds_toArray]
          refine rr 12 (o := _) rfl (by kernel_rfl) (fun K hK => ?_)
          refine step_append_cells rfl (.tmp 113) (.tmp 116) 32 rfl X.heap.size 2 j0 (.int .i64 0) 1 8 Try.underlying32 hJ0 hy0 hy1 hy2 rfl (by decide) (.slice p5 k2 c5) k2 _ (by simp [Act.eval]) HW6.out (.slice (some ⟨nB, 0, none⟩) 1 1) 1 _ (by simp [Act.eval]) HSG4.out (by unfold maxLen; omega) (by omega) HX2.out.size ?_
          intro p6 c6 x4 hown hgrow
          have HX4 : Hid (Below X.heap.size X x4) := hide (HX2.out.grown hgrow HX2.out.size (fun i hi => own_block_base HW6.out hi))
          have HW7 := hide hown; clear hown hgrow
          refine hK.out _ _ HX4.out (fun hHeld => ?_)
          clear hK; simp only [Act.put]
          refine tb 13 ?_ rfl (by kernel_rfl) (fun _ _ _ h => h) (by assumption) ?_ ?_
          rotate_left
          ·intro w hSw; go_simp; all_goals with_reducible rfl
          simp only [Act.put]
          refine wpAnyH_done (by kernel_rfl) ?_ _
          have HPA := hide (HP9.out.later HX4.out); clear u0 u1 u4; have u4 := HPA.out.c4
          rw [HL.out] at u4
          have z4 := frB HPA.out.box (i := 4); have htl := HPA.out.vis.done.tailG (j := k2) (by rw [HL.out]; exact hkl)
          rw [Nat.mul_one] at htl
          rw [if_neg (show ¬ q4.dc = k2 by omega)] at htl
          obtain ⟨A2, hA2⟩ : ∃ A2, Option.map (fun x => x.add k2) q4.dp = A2 := ⟨_, rfl⟩
          rw [hA2] at htl
          obtain ⟨m2, hm2⟩ : ∃ m2, L - k2 = m2 := ⟨_, rfl⟩
          have hsg := LRow.seg (by decide) intCells_len intCells_one htl
          rw [List.length_drop, HL.out, hm2] at hsg
          have HSG7 := hide hsg
          have hm8 : m2 ≤ 17592186044416 := by omega
          have qk0 : (k2 : Int) ≤ (L : Int) := by omega
          have HBS : Hid (X.heap.size ≤ x4.heap.size) := hide HX4.out.size
          clear htl hsg
          go_wp2_with (at_builtin; refine append_cells _ rfl (.tmp 119) (.tmp 126) 32 rfl X.heap.size 2 j0 (.int .i64 0) 1 8 Try.underlying32 hJ0 hy0 hy1 hy2 rfl (by decide) (.slice p6 (k2 + 1) c6) (k2 + 1) _ rfl HW7.out (.slice A2 m2 (q4.dc - k2)) m2 _ rfl HSG7.out (by unfold maxLen; omega) (by omega) HBS.out ?_)
          intro p7 c7 x5 hown hgrow; have hX5 := HX4.out.grown hgrow HX4.out.size (fun i hi => own_block_base HW7.out hi)
          have HX5 : Hid (Below X.heap.size X x5) := hide hX5
          have HW8 := hide hown; have HPB := hide (HP9.out.later hX5); have y4 := HPB.out.c4; have z5 := frB HPB.out.box (i := 4); clear hown hgrow hX5 u4 z4; go_wp2; go_ret
          have hts : (q4.done.take k2 ++ id :: q4.done.drop k2).length = k2 + 1 + m2 := by
           rw [List.length_append, List.length_cons, List.length_take, List.length_drop, HL.out, Nat.min_eq_left hkl, hm2]
           omega
          have h9 := RS.next (q' := ⟨q4.op, q4.oc, q4.vp, q4.vc, p7, c7, q4.pp, q4.pc, q4.reg, q4.out, q4.vec, q4.done.take k2 ++ id :: q4.done.drop k2, q4.ts⟩) HP9.out HX5.out (Only.set (F := (· = b)) x5 b 4 (.slice p7 (k2 + 1 + m2) c7) rfl) (by
            have h8 := heap_set_sameL HPB.out.box 4 (.slice p7 (k2 + 1 + m2) c7)
            rw [h8]
            simp only [RSrow, hts]
            rfl) ⟨HPB.out.vis.out, HPB.out.vis.vec, LRow.of_own (base := X.heap.size) (e := 2) intCells_len hts (by
              have h8 := HW8.out
              have e9 : (q4.done.take k2 ++ id :: q4.done.drop k2).flatMap intCells = (q4.done.take k2).flatMap intCells ++ .int .i64 id :: (q4.done.drop k2).flatMap intCells := by
                rw [List.flatMap_append, List.flatMap_cons]
                simp [intCells]
              show x5.ownsRow X.heap.size 2 1 (.slice p7 _ c7) _ ((q4.done.take k2 ++ id :: q4.done.drop k2).flatMap intCells)
              rw [e9]
              first | exact h8 | simpa [List.append_assoc] using h8), HPB.out.vis.pre, HPB.out.vis.ts⟩ (fun i hi => by
            rcases hi with hi | hi | hi | hi | hi
            · exact .inl (.inl hi)
            · exact .inl (.inr (.inl hi))
            · exact .inr (own_new HW8.out i hi)
            · exact .inl (.inr (.inr (.inr (.inl hi))))
            · exact .inl (.inr (.inr (.inr (.inr hi)))))
          have hins : q4.done.take k2 ++ id :: q4.done.drop k2 = insI id s1.done := by
           rw [← insI_at id q4.done k2 (by rw [HL.out]; exact hkl) HT.out (by
             rcases HEN.out with h7 | h7
             · exact .inl h7
             · exact .inr (by omega)), HDE.out, ← HK1.out]
           rfl
          have hf9 := HFIN.out _ hins
          refine ⟨by rw [hf9.2]; rfl, ?_⟩
          rw [← hf9.1]
          exact HL4.out (RPut.first HB9'.out h9)
       ·obtain rfl : k2 = L := by omega
        have f1 : decide ((k2 : Int) < (k2 : Int)) = false := decide_eq_false (by omega)
        have f2 : decide (k2 < k2) = false := decide_eq_false (by omega)
        have HEN : Hid (k2 = q4.done.length ∨ id ≤ q4.done[k2]!) := hide (.inl HL.out.symm)
        have u4' := u4
        go_upto_region 20 with fail
        have HX0 : Hid (Below wr.heap.size wr wr.drew) := hide (Below.refl _ wr).drew
        have HFA := hide (fun (w9 : World) (hSw : Below wr.heap.size wr w9) => And.intro (cell_later hSw u0) (And.intro (cell_later hSw u1) (cell_later hSw u4')))
        refine wp_region_held_drew (S := fun w9 => Below wr.heap.size wr w9) (by kernel_rfl) HX0.out (fun hHeld => ?_)
        refine tk 0 82 ?_ rfl rfl (by kernel_rfl) (fun _ _ _ h => h) (by assumption) ?_ ?_; rotate_left
        ·intro w hSw; go_simp; all_goals with_reducible rfl
        simp only [Act.put]
        refine tk 1 83 ?_ rfl rfl (by kernel_rfl) (fun _ _ _ h => h) (by assumption) ?_ ?_; rotate_left
        ·intro w hSw; go_simp; all_goals with_reducible rfl
        simp only [Act.put]
        refine tk 2 84 ?_ rfl rfl (by kernel_rfl) (fun _ _ _ h => h) (by assumption) ?_ ?_; rotate_left
        ·intro w hSw; go_simp; all_goals with_reducible rfl
        simp only [Act.put]
        refine tk 3 85 ?_ rfl rfl (by kernel_rfl) (fun _ _ _ h => h) (by assumption) ?_ ?_; rotate_left
        ·intro w hSw; go_simp; all_goals with_reducible rfl
        simp only [Act.put]
        refine tk 4 86 ?_ rfl rfl (by kernel_rfl) (fun _ _ _ h => h) (by assumption) ?_ ?_; rotate_left
        ·intro w hSw; go_simp; all_goals with_reducible rfl
        simp only [Act.put]
        refine tk 5 87 ?_ rfl rfl (by kernel_rfl) (fun _ _ _ h => h) (by assumption) ?_ ?_; rotate_left
        ·intro w hSw; obtain ⟨l0, l1, m5⟩ := HFA.out w hSw; go_simp; all_goals with_reducible rfl
        simp only [Act.put]
        refine tk 6 88 ?_ rfl rfl (by kernel_rfl) (fun _ _ _ h => h) (by assumption) ?_ ?_; rotate_left
        ·intro w hSw; go_simp; all_goals with_reducible rfl
        simp only [Act.put]
        refine tk 7 89 ?_ rfl rfl (by kernel_rfl) (fun _ _ _ h => h) (by assumption) ?_ ?_; rotate_left
        ·intro w hSw; go_simp; all_goals with_reducible rfl
        simp only [Act.put]
        refine tk 8 90 ?_ rfl rfl (by kernel_rfl) (fun _ _ _ h => h) (by assumption) ?_ ?_; rotate_left
        ·intro w hSw; go_simp; all_goals with_reducible rfl
        simp only [Act.put]
        refine sk 9 91 rfl rfl (by kernel_rfl) (fun _ _ _ h => h) (by assumption) ?_
        simp only [Act.put]
        refine sk 10 92 rfl rfl (by kernel_rfl) (fun _ _ _ h => h) (by assumption) ?_
        simp only [Act.put]
        refine sk 11 93 rfl rfl (by kernel_rfl) (fun _ _ _ h => h) (by assumption) ?_
        simp only [Act.put]
        refine sk 12 94 rfl rfl (by kernel_rfl) (fun _ _ _ h => h) (by assumption) ?_
        simp only [Act.put]
        refine sk 13 95 rfl rfl (by kernel_rfl) (fun _ _ _ h => h) (by assumption) ?_
        simp only [Act.put]
        refine sk 14 96 rfl rfl (by kernel_rfl) (fun _ _ _ h => h) (by assumption) ?_
        simp only [Act.put]
        refine sk 15 97 rfl rfl (by kernel_rfl) (fun _ _ _ h => h) (by assumption) ?_
        simp only [Act.put]
        refine sk 16 98 rfl rfl (by kernel_rfl) (fun _ _ _ h => h) (by assumption) ?_
        simp only [Act.put]
        refine sk 17 99 rfl rfl (by kernel_rfl) (fun _ _ _ h => h) (by assumption) ?_
        simp only [Act.put]
        refine sk 18 100 rfl rfl (by kernel_rfl) (fun _ _ _ h => h) (by assumption) ?_
        simp only [Act.put]
        refine sk 19 101 rfl rfl (by kernel_rfl) (fun _ _ _ h => h) (by assumption) ?_
        simp only [Act.put]
        refine rk (i := 20) (o := _) rfl (by kernel_rfl) (by kernel_rfl) (fun K hK => ?_)
        go_simp
        refine hK.out _ _ HX0.out (fun hHeld => ?_)
        clear hK
        refine wpAnyH_done (by kernel_rfl) ?_ _
        obtain ⟨X, hXE⟩ : ∃ X, X = wr.drew := ⟨_, rfl⟩
        rw [← hXE]
        have hX : Below wr.heap.size wr X := by rw [hXE]; exact HX0.out
        clear hXE; clear HFA
        have HB9' : Hid (Below w6.heap.size w6 X) := hide (HB.out.trans (hX.mono HB.out.size))
        have hlt : k2 ≤ k2 := Nat.le_refl _
        clear hX u4' u4 u0 u1 f1 f2; have HP9 := hide (HP7.out.later HB9'.out); have HV9' := hide (below_box HB9'.out HV7.out)
        have hkl : k2 ≤ k2 := by omega
        have hkc : k2 ≤ q4.dc := by omega
        obtain ⟨j0, hJ0, hy0, hy1, hy2⟩ := info_parts Try.infoN
        have u0 := cellB HV9'.out (i := 0) rfl; have u1 := cellB HV9'.out (i := 1) rfl; have u4 := HP9.out.c4
        rw [HL.out] at u4
        have HSG3 : Hid (Seg X.drew 1 (.slice q4.dp k2 q4.dc) k2 ((q4.done.take k2).flatMap intCells)) := hide (by
          have h9 := LRow.seg (W := X.drew) (by decide) intCells_len intCells_one ((HP9.out.later (Below.refl _ X).drew).vis.done.takeG k2)
          rw [List.length_take, Nat.min_eq_left (by rw [HL.out]; exact hkl)] at h9
          exact h9)
        go_upto_region 23 with fail
        refine wp_region_held_drew (S := fun w9 => Below X.heap.size X w9) (by kernel_rfl) ((Below.refl _ X).drew) (fun hHeld => ?_)
        refine tb 0 ?_ rfl (by kernel_rfl) (fun _ _ _ h => h) (by assumption) ?_ ?_
        rotate_left
        ·intro w hSw; have l0 := cell_later hSw u0; have l1 := cell_later hSw u1; have m4 := cell_later hSw u4; go_simp; all_goals with_reducible rfl
        simp only [Act.put]
        refine tb 1 ?_ rfl (by kernel_rfl) (fun _ _ _ h => h) (by assumption) ?_ ?_
        rotate_left
        ·intro w hSw; have l0 := cell_later hSw u0; have l1 := cell_later hSw u1; have m4 := cell_later hSw u4; go_simp; all_goals with_reducible rfl
        simp only [Act.put]
        refine tb 2 ?_ rfl (by kernel_rfl) (fun _ _ _ h => h) (by assumption) ?_ ?_
        rotate_left
        ·intro w hSw; have l0 := cell_later hSw u0; have l1 := cell_later hSw u1; have m4 := cell_later hSw u4; go_simp; all_goals with_reducible rfl
        simp only [Act.put]
        refine tb 3 ?_ rfl (by kernel_rfl) (fun _ _ _ h => h) (by assumption) ?_ ?_
        rotate_left
        ·intro w hSw; have l0 := cell_later hSw u0; have l1 := cell_later hSw u1; have m4 := cell_later hSw u4; go_simp; all_goals with_reducible rfl
        simp only [Act.put]
        refine tb 4 ?_ rfl (by kernel_rfl) (fun _ _ _ h => h) (by assumption) ?_ ?_
        rotate_left
        ·intro w hSw; have l0 := cell_later hSw u0; have l1 := cell_later hSw u1; have m4 := cell_later hSw u4; go_simp; all_goals with_reducible rfl
        simp only [Act.put]
        refine tb 5 ?_ rfl (by kernel_rfl) (fun _ _ _ h => h) (by assumption) ?_ ?_
        rotate_left
        ·intro w hSw; have l0 := cell_later hSw u0; have l1 := cell_later hSw u1; have m4 := cell_later hSw u4; go_simp; all_goals with_reducible rfl
        simp only [Act.put]
        refine tb 6 ?_ rfl (by kernel_rfl) (fun _ _ _ h => h) (by assumption) ?_ ?_
        rotate_left
        ·intro w hSw; have l0 := cell_later hSw u0; have l1 := cell_later hSw u1; have m4 := cell_later hSw u4; go_simp; all_goals with_reducible rfl
        simp only [Act.put]
        refine tb 7 ?_ rfl (by kernel_rfl) (fun _ _ _ h => h) (by assumption) ?_ ?_
        rotate_left
        ·intro w hSw; have l0 := cell_later hSw u0; have l1 := cell_later hSw u1; have m4 := cell_later hSw u4; go_simp; all_goals with_reducible rfl
        simp only [Act.put]
        refine tb 9 ?_ rfl (by kernel_rfl) (fun _ _ _ h => h) (by assumption) ?_ ?_
        rotate_left
        ·intro w hSw; have l0 := cell_later hSw u0; have l1 := cell_later hSw u1; have m4 := cell_later hSw u4; go_simp; all_goals with_reducible rfl
        simp only [Act.put]
        refine tb 10 ?_ rfl (by kernel_rfl) (fun _ _ _ h => h) (by assumption) ?_ ?_
        rotate_left
        ·intro w hSw; have l0 := cell_later hSw u0; have l1 := cell_later hSw u1; have m4 := cell_later hSw u4; go_simp; all_goals with_reducible rfl
        simp only [Act.put]
        refine wpAnyH_ready (rs := [8, 11]) (by kernel_rfl) (by simp) ?_
        refine AllReadyH.cons (o := _) rfl (fun K hK => ?_) (AllReadyH.cons (o := _) rfl (fun K hK => ?_) AllReadyH.nil)
        ·
         refine step_append_cells rfl (.tmp 105) (.tmp 112) 32 rfl X.heap.size 2 j0 (.int .i64 0) 1 8 Try.underlying32 hJ0 hy0 hy1 hy2 rfl (by decide) (.slice none 0 0) 0 [] (by simp [Act.eval]) (World.ownsRow_nil _ _ _ _) (.slice q4.dp k2 q4.dc) k2 _ (by simp [Act.eval]) HSG3.out (by unfold maxLen; omega) (by omega) (Nat.le_refl _) ?_
         intro p5 c5 x1 hown hgrow
         rw [Nat.zero_add, List.nil_append] at hown
         have HX1 : Hid (Below X.heap.size X x1) := hide (((Below.refl _ X).drew).grown hgrow (Nat.le_refl _) (fun i hi => by simp [Value.ownBlock] at hi))
         have HW5 := hide hown
         rw [Nat.zero_add]
         clear hown hgrow
         refine hK.out _ _ HX1.out (fun hHeld => ?_)
         clear hK
         simp only [Act.put, List.setIfInBounds_toArray]
         refine rr 11 (o := _) rfl (by kernel_rfl) (fun K hK => ?_)
         go_simp
         obtain ⟨x2, hx2⟩ : ∃ x2, x2 = x1.alloc (.cells #[.int .i64 id] 2 (0, 0)) := ⟨_, rfl⟩
         rw [← hx2]
         have b0 : Below x1.heap.size x1 x2 := by rw [hx2]; exact alloc_below _ _
         have HX2 : Hid (Below X.heap.size X x2) := hide (HX1.out.trans (b0.mono HX1.out.size))
         have HW6 := hide (ownsRow_later HW5.out b0)
         obtain ⟨nB, hnB⟩ : ∃ nB, x1.heap.size = nB := ⟨_, rfl⟩
         have HSG4 : Hid (Seg x2 1 (.slice (some ⟨nB, 0, none⟩) 1 1) 1 [.int .i64 id]) := hide (by rw [hx2, ← hnB]; exact Seg.news (heap_alloc_new x1 _) (by simp [Value.oneCell']) rfl (Nat.le_refl _) (by decide))
         try rw [hnB]
         clear hx2 b0 hnB
         refine hK.out _ _ HX2.out (fun hHeld => ?_)
         clear hK
         refine rr 12 (o := _) rfl (by kernel_rfl) (fun K hK => ?_)
         refine step_append_cells rfl (.tmp 113) (.tmp 116) 32 rfl X.heap.size 2 j0 (.int .i64 0) 1 8 Try.underlying32 hJ0 hy0 hy1 hy2 rfl (by decide) (.slice p5 k2 c5) k2 _ (by simp [Act.eval]) HW6.out (.slice (some ⟨nB, 0, none⟩) 1 1) 1 _ (by simp [Act.eval]) HSG4.out (by unfold maxLen; omega) (by omega) HX2.out.size ?_
         intro p6 c6 x4 hown hgrow
         have HX4 : Hid (Below X.heap.size X x4) := hide (HX2.out.grown hgrow HX2.out.size (fun i hi => own_block_base HW6.out hi))
         have HW7 := hide hown; clear hown hgrow
         refine hK.out _ _ HX4.out (fun hHeld => ?_)
         clear hK
         simp only [Act.put, List.setIfInBounds_toArray]
         refine tb 13 ?_ rfl (by kernel_rfl) (fun _ _ _ h => h) (by assumption) ?_ ?_
         rotate_left
         ·intro w hSw; go_simp; all_goals with_reducible rfl
         simp only [Act.put]
         refine wpAnyH_done (by kernel_rfl) ?_ _
         have HPA := hide (HP9.out.later HX4.out); clear u0 u1 u4; have u4 := HPA.out.c4
         rw [HL.out] at u4
         have z4 := frB HPA.out.box (i := 4); have htl := HPA.out.vis.done.tailG (j := k2) (by rw [HL.out]; exact hkl)
         rw [Nat.mul_one] at htl
         obtain ⟨A2, hA2⟩ : ∃ A2, (if q4.dc = k2 then q4.dp else Option.map (fun x => x.add k2) q4.dp) = A2 := ⟨_, rfl⟩
         rw [hA2] at htl
         obtain ⟨m2, hm2⟩ : ∃ m2, k2 - k2 = m2 := ⟨_, rfl⟩
         have hsg := LRow.seg (by decide) intCells_len intCells_one htl
         rw [List.length_drop, HL.out, hm2] at hsg
         have HSG7 := hide hsg
         have hm8 : m2 ≤ 17592186044416 := by omega
         have qk0 : (k2 : Int) ≤ (k2 : Int) := by omega
         have HBS : Hid (X.heap.size ≤ x4.heap.size) := hide HX4.out.size
         clear htl hsg
         go_wp2_with (at_builtin; refine append_cells _ rfl (.tmp 119) (.tmp 126) 32 rfl X.heap.size 2 j0 (.int .i64 0) 1 8 Try.underlying32 hJ0 hy0 hy1 hy2 rfl (by decide) (.slice p6 (k2 + 1) c6) (k2 + 1) _ rfl HW7.out (.slice A2 m2 (q4.dc - k2)) m2 _ rfl HSG7.out (by unfold maxLen; omega) (by omega) HBS.out ?_)
         intro p7 c7 x5 hown hgrow; have hX5 := HX4.out.grown hgrow HX4.out.size (fun i hi => own_block_base HW7.out hi)
         have HX5 : Hid (Below X.heap.size X x5) := hide hX5
         have HW8 := hide hown; have HPB := hide (HP9.out.later hX5); have y4 := HPB.out.c4; have z5 := frB HPB.out.box (i := 4); clear hown hgrow hX5 u4 z4; go_wp2; go_ret
         have hts : (q4.done.take k2 ++ id :: q4.done.drop k2).length = k2 + 1 + m2 := by
          rw [List.length_append, List.length_cons, List.length_take, List.length_drop, HL.out, Nat.min_eq_left hkl, hm2]
          omega
         have h9 := RS.next (q' := ⟨q4.op, q4.oc, q4.vp, q4.vc, p7, c7, q4.pp, q4.pc, q4.reg, q4.out, q4.vec, q4.done.take k2 ++ id :: q4.done.drop k2, q4.ts⟩) HP9.out HX5.out (Only.set (F := (· = b)) x5 b 4 (.slice p7 (k2 + 1 + m2) c7) rfl) (by
           have h8 := heap_set_sameL HPB.out.box 4 (.slice p7 (k2 + 1 + m2) c7)
           rw [h8]
           simp only [RSrow, hts]
           rfl) ⟨HPB.out.vis.out, HPB.out.vis.vec, LRow.of_own (base := X.heap.size) (e := 2) intCells_len hts (by
             have h8 := HW8.out
             have e9 : (q4.done.take k2 ++ id :: q4.done.drop k2).flatMap intCells = (q4.done.take k2).flatMap intCells ++ .int .i64 id :: (q4.done.drop k2).flatMap intCells := by
               rw [List.flatMap_append, List.flatMap_cons]
               simp [intCells]
             show x5.ownsRow X.heap.size 2 1 (.slice p7 _ c7) _ ((q4.done.take k2 ++ id :: q4.done.drop k2).flatMap intCells)
             rw [e9]
             first | exact h8 | simpa [List.append_assoc] using h8), HPB.out.vis.pre, HPB.out.vis.ts⟩ (fun i hi => by
           rcases hi with hi | hi | hi | hi | hi
           · exact .inl (.inl hi)
           · exact .inl (.inr (.inl hi))
           · exact .inr (own_new HW8.out i hi)
           · exact .inl (.inr (.inr (.inr (.inl hi))))
           · exact .inl (.inr (.inr (.inr (.inr hi)))))
         have hins : q4.done.take k2 ++ id :: q4.done.drop k2 = insI id s1.done := by
          rw [← insI_at id q4.done k2 (by rw [HL.out]; exact hkl) HT.out (by
            rcases HEN.out with h7 | h7
            · exact .inl h7
            · exact .inr (by omega)), HDE.out, ← HK1.out]
          rfl
         have hf9 := HFIN.out _ hins
         refine ⟨by rw [hf9.2]; rfl, ?_⟩
         rw [← hf9.1]
         exact HL4.out (RPut.first HB9'.out h9)
        ·
         go_simp
         obtain ⟨x1, hx1⟩ : ∃ x1, x1 = (X.alloc (.cells #[.int .i64 id] 2 (0, 0))).drew := ⟨_, rfl⟩
         rw [← hx1]
         have HX1 : Hid (Below X.heap.size X x1) := hide (by rw [hx1]; exact (alloc_below _ _).drew)
         obtain ⟨nB, hnB⟩ : ∃ nB, X.heap.size = nB := ⟨_, rfl⟩
         have HSG5 : Hid (Seg x1 1 (.slice (some ⟨nB, 0, none⟩) 1 1) 1 [.int .i64 id]) := hide (by rw [hx1, ← hnB]; exact Seg.news (show (X.alloc (.cells #[.int .i64 id] 2 (0, 0))).drew.heap[X.heap.size]? = _ from heap_alloc_new X _) (by simp [Value.oneCell']) rfl (Nat.le_refl _) (by decide))
         have HNB5 : Hid (x1.heap[nB]? = some (.cells #[.int .i64 id] 2 (0, 0))) := hide (by rw [hx1, ← hnB]; exact heap_alloc_new X _)
         have HSX : Hid (x1.heap.size = nB + 1) := hide (by rw [hx1, ← hnB]; show (X.alloc _).heap.size = _; simp)
         have HSG6 : Hid (Seg x1 1 (.slice q4.dp k2 q4.dc) k2 ((q4.done.take k2).flatMap intCells)) := hide (by
           have h9 := LRow.seg (W := x1) (by decide) intCells_len intCells_one ((HP9.out.later HX1.out).vis.done.takeG k2)
           rw [List.length_take, Nat.min_eq_left (by rw [HL.out]; exact hkl)] at h9
           exact h9)
         try rw [hnB]
         clear hx1 hnB
         refine hK.out _ _ HX1.out (fun hHeld => ?_)
         clear hK
         refine rr 8 (o := _) rfl (by kernel_rfl) (fun K hK => ?_)
         refine step_append_cells rfl (.tmp 105) (.tmp 112) 32 rfl x1.heap.size 2 j0 (.int .i64 0) 1 8 Try.underlying32 hJ0 hy0 hy1 hy2 rfl (by decide) (.slice none 0 0) 0 [] (by simp [Act.eval]) (World.ownsRow_nil _ _ _ _) (.slice q4.dp k2 q4.dc) k2 _ (by simp [Act.eval]) HSG6.out (by unfold maxLen; omega) (by omega) (Nat.le_refl _) ?_
         intro p5 c5 x2 hown hgrow
         rw [Nat.zero_add, List.nil_append] at hown
         have hb2 : Below x1.heap.size x1 x2 := (Below.refl _ x1).grown hgrow (Nat.le_refl _) (fun i hi => by simp [Value.ownBlock] at hi)
         have HX2 : Hid (Below X.heap.size X x2) := hide (HX1.out.trans (hb2.mono HX1.out.size))
         have HW6 : Hid (x2.ownsRow X.heap.size 2 1 (.slice p5 k2 c5) k2 ((q4.done.take k2).flatMap intCells)) := hide (ownsRow_base hown HX1.out.size)
         have HSG4 : Hid (Seg x2 1 (.slice (some ⟨nB, 0, none⟩) 1 1) 1 [.int .i64 id]) := hide (Seg.news (below_box hb2 HNB5.out) (by simp [Value.oneCell']) rfl (Nat.le_refl _) (by decide))
         rw [Nat.zero_add]
         clear hown hgrow hb2
         refine hK.out _ _ HX2.out (fun hHeld => ?_)
         clear hK
         simp only [Act.put, List.setIfInBounds_toArray]
         refine rr 12 (o := _) rfl (by kernel_rfl) (fun K hK => ?_)
         refine step_append_cells rfl (.tmp 113) (.tmp 116) 32 rfl X.heap.size 2 j0 (.int .i64 0) 1 8 Try.underlying32 hJ0 hy0 hy1 hy2 rfl (by decide) (.slice p5 k2 c5) k2 _ (by simp [Act.eval]) HW6.out (.slice (some ⟨nB, 0, none⟩) 1 1) 1 _ (by simp [Act.eval]) HSG4.out (by unfold maxLen; omega) (by omega) HX2.out.size ?_
         intro p6 c6 x4 hown hgrow
         have HX4 : Hid (Below X.heap.size X x4) := hide (HX2.out.grown hgrow HX2.out.size (fun i hi => own_block_base HW6.out hi))
         have HW7 := hide hown; clear hown hgrow
         refine hK.out _ _ HX4.out (fun hHeld => ?_)
         clear hK; simp only [Act.put]
         refine tb 13 ?_ rfl (by kernel_rfl) (fun _ _ _ h => h) (by assumption) ?_ ?_
         rotate_left
         ·intro w hSw; go_simp; all_goals with_reducible rfl
         simp only [Act.put]
         refine wpAnyH_done (by kernel_rfl) ?_ _
         have HPA := hide (HP9.out.later HX4.out); clear u0 u1 u4; have u4 := HPA.out.c4
         rw [HL.out] at u4
         have z4 := frB HPA.out.box (i := 4); have htl := HPA.out.vis.done.tailG (j := k2) (by rw [HL.out]; exact hkl)
         rw [Nat.mul_one] at htl
         obtain ⟨A2, hA2⟩ : ∃ A2, (if q4.dc = k2 then q4.dp else Option.map (fun x => x.add k2) q4.dp) = A2 := ⟨_, rfl⟩
         rw [hA2] at htl
         obtain ⟨m2, hm2⟩ : ∃ m2, k2 - k2 = m2 := ⟨_, rfl⟩
         have hsg := LRow.seg (by decide) intCells_len intCells_one htl
         rw [List.length_drop, HL.out, hm2] at hsg
         have HSG7 := hide hsg
         have hm8 : m2 ≤ 17592186044416 := by omega
         have qk0 : (k2 : Int) ≤ (k2 : Int) := by omega
         have HBS : Hid (X.heap.size ≤ x4.heap.size) := hide HX4.out.size
         clear htl hsg
         go_wp2_with (at_builtin; refine append_cells _ rfl (.tmp 119) (.tmp 126) 32 rfl X.heap.size 2 j0 (.int .i64 0) 1 8 Try.underlying32 hJ0 hy0 hy1 hy2 rfl (by decide) (.slice p6 (k2 + 1) c6) (k2 + 1) _ rfl HW7.out (.slice A2 m2 (q4.dc - k2)) m2 _ rfl HSG7.out (by unfold maxLen; omega) (by omega) HBS.out ?_)
         intro p7 c7 x5 hown hgrow; have hX5 := HX4.out.grown hgrow HX4.out.size (fun i hi => own_block_base HW7.out hi)
         have HX5 : Hid (Below X.heap.size X x5) := hide hX5
         have HW8 := hide hown; have HPB := hide (HP9.out.later hX5); have y4 := HPB.out.c4; have z5 := frB HPB.out.box (i := 4); clear hown hgrow hX5 u4 z4; go_wp2; go_ret
         have hts : (q4.done.take k2 ++ id :: q4.done.drop k2).length = k2 + 1 + m2 := by
          rw [List.length_append, List.length_cons, List.length_take, List.length_drop, HL.out, Nat.min_eq_left hkl, hm2]
          omega
         have h9 := RS.next (q' := ⟨q4.op, q4.oc, q4.vp, q4.vc, p7, c7, q4.pp, q4.pc, q4.reg, q4.out, q4.vec, q4.done.take k2 ++ id :: q4.done.drop k2, q4.ts⟩) HP9.out HX5.out (Only.set (F := (· = b)) x5 b 4 (.slice p7 (k2 + 1 + m2) c7) rfl) (by
           have h8 := heap_set_sameL HPB.out.box 4 (.slice p7 (k2 + 1 + m2) c7)
           rw [h8]
           simp only [RSrow, hts]
           rfl) ⟨HPB.out.vis.out, HPB.out.vis.vec, LRow.of_own (base := X.heap.size) (e := 2) intCells_len hts (by
             have h8 := HW8.out
             have e9 : (q4.done.take k2 ++ id :: q4.done.drop k2).flatMap intCells = (q4.done.take k2).flatMap intCells ++ .int .i64 id :: (q4.done.drop k2).flatMap intCells := by
               rw [List.flatMap_append, List.flatMap_cons]
               simp [intCells]
             show x5.ownsRow X.heap.size 2 1 (.slice p7 _ c7) _ ((q4.done.take k2 ++ id :: q4.done.drop k2).flatMap intCells)
             rw [e9]
             first | exact h8 | simpa [List.append_assoc] using h8), HPB.out.vis.pre, HPB.out.vis.ts⟩ (fun i hi => by
           rcases hi with hi | hi | hi | hi | hi
           · exact .inl (.inl hi)
           · exact .inl (.inr (.inl hi))
           · exact .inr (own_new HW8.out i hi)
           · exact .inl (.inr (.inr (.inr (.inl hi))))
           · exact .inl (.inr (.inr (.inr (.inr hi)))))
         have hins : q4.done.take k2 ++ id :: q4.done.drop k2 = insI id s1.done := by
          rw [← insI_at id q4.done k2 (by rw [HL.out]; exact hkl) HT.out (by
            rcases HEN.out with h7 | h7
            · exact .inl h7
            · exact .inr (by omega)), HDE.out, ← HK1.out]
          rfl
         have hf9 := HFIN.out _ hins
         refine ⟨by rw [hf9.2]; rfl, ?_⟩
         rw [← hf9.1]
         exact HL4.out (RPut.first HB9'.out h9)
     ·have e1 : (r != 0) = true := by simpa using hr0
      have HE2 : Hid (comE1 s1 ep id = r ∧ comS1 s1 ep id = s1) := hide (by
        have hdf : ¬ doneC s1 ep id = true := by rw [HD.out]; decide
        have hrr : ¬ suitC s1 ⟨e8, i8, (j : Int), rs8, vs8⟩ = 0 := by rw [HSU.out]; exact hr0
        constructor
        · unfold comE1
          rw [if_neg hdf, HFS.out]
          exact HSU.out
        · unfold comS1
          rw [if_neg hdf, HFS.out]
          simp only
          rw [if_neg hrr])
      clear hr0 u0 u1; go_wp2; go_ret
      refine ⟨by rw [HE2.out.1]; rfl, ?_⟩
      rw [HE2.out.2, ← HK1.out]
      exact HLT.out (RPut.same HP2.out HB6.out)
   ·have HD := hide hd
    have HE2 : Hid (comE1 s1 ep id = 0 ∧ comS1 s1 ep id = s1) := hide ⟨if_pos hd, if_pos hd⟩
    clear hd
    go_wp2_with fail
    refine (rDone_any (rb := true) HP2.out (by rw [HK1.out]; exact HOK1.out) (by rw [HK1.out]; exact HD.out)).mono ?_
    rintro _ w2 ⟨rfl, b2⟩
    clear u0 u1; have HB3 := hide b2; clear b2; go_wp2; go_ret
    refine ⟨by rw [HE2.out.1]; rfl, ?_⟩
    rw [HE2.out.2, ← HK1.out]
    exact HLT.out (RPut.same HP2.out HB3.out)
 ·have HE := hide he
  have HQ : Hid (comE q.sk ep id = 1 ∧ comS q.sk ep id = q.sk) := hide ⟨if_neg he, if_neg he⟩
  rw [HQ.out.1, HQ.out.2]
  clear he
  by_cases h1 : posI ep
  ·have h2 : ¬ posI id := fun h9 => HE.out ⟨h1, h9⟩
   have H1 := hide h1; have H2 := hide h2; clear h1 h2; have HP := hide h; have HOK := hide hok; have HPT := hide hpt; have HDN := hide hdn; clear h hok hpt hdn
   obtain ⟨V, hV⟩ : ∃ V, V = W.alloc (.cells #[.int .i64 ep, .int .i64 id] 55 (0, 0)) := ⟨_, rfl⟩
   have HV : Hid (V.heap[W.heap.size]? = some (.cells #[.int .i64 ep, .int .i64 id] 55 (0, 0))) := hide (by rw [hV]; exact heap_alloc_new W _)
   have HBV : Hid (Below W.heap.size W V) := hide (by rw [hV]; exact alloc_below _ _)
   obtain ⟨bB, hbB⟩ : ∃ bB, W.heap.size = bB := ⟨_, rfl⟩
   rw [hbB] at HV HBV
   have HZbB := hide hbB
   have HBW : Hid (Below W.heap.size W V) := hide (by rw [HZbB.out]; exact HBV.out)
   have HPV : Hid (RS V b n q) := hide (HP.out.later HBW.out)
   go_enter Try.func36, Try.ntmps36
   go_upto_region 1 with fail
   rw [← hV]
   try rw [hbB]
   clear hV hbB; have u0 := cellB HV.out (i := 0) rfl; have u1 := cellB HV.out (i := 1) rfl
   go_wp2_with fail
   refine (pos_any (decide_eq_true H1.out)).mono ?_
   rintro _ _ ⟨rfl, rfl⟩
   rename World => V
   go_wp2_with fail
   refine (pos_any (decide_eq_false H2.out)).mono ?_
   rintro _ _ ⟨rfl, rfl⟩
   rename World => V
   clear u0 u1; go_wp2; go_ret
   exact ⟨rfl, RPut.same HP.out HBW.out⟩
  ·have H1 := hide h1; clear h1; have HP := hide h; have HOK := hide hok; have HPT := hide hpt; have HDN := hide hdn; clear h hok hpt hdn
   obtain ⟨V, hV⟩ : ∃ V, V = W.alloc (.cells #[.int .i64 ep, .int .i64 id] 55 (0, 0)) := ⟨_, rfl⟩
   have HV : Hid (V.heap[W.heap.size]? = some (.cells #[.int .i64 ep, .int .i64 id] 55 (0, 0))) := hide (by rw [hV]; exact heap_alloc_new W _)
   have HBV : Hid (Below W.heap.size W V) := hide (by rw [hV]; exact alloc_below _ _)
   obtain ⟨bB, hbB⟩ : ∃ bB, W.heap.size = bB := ⟨_, rfl⟩
   rw [hbB] at HV HBV
   have HZbB := hide hbB
   have HBW : Hid (Below W.heap.size W V) := hide (by rw [HZbB.out]; exact HBV.out)
   have HPV : Hid (RS V b n q) := hide (HP.out.later HBW.out)
   go_enter Try.func36, Try.ntmps36
   go_upto_region 1 with fail
   rw [← hV]
   try rw [hbB]
   clear hV hbB; have u0 := cellB HV.out (i := 0) rfl; have u1 := cellB HV.out (i := 1) rfl
   go_wp2_with fail
   refine (pos_any (decide_eq_false H1.out)).mono ?_
   rintro _ _ ⟨rfl, rfl⟩
   rename World => V
   clear u0 u1; go_wp2; go_ret
   exact ⟨rfl, RPut.same HP.out HBW.out⟩
end Go.Proofs.Ytboofnkajjnmeaa
