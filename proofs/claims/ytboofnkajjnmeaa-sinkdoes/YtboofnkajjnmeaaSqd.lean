/-
  drop, Abort of the reference's sink. The conditions: that it lies there.
-/
import Derived.Test.YtboofnkajjnmeaaSqb
import Derived.Test.YtboofnkajjnmeaaSof
namespace Go.Proofs.Ytboofnkajjnmeaa
open Go.RowKit Go.Maps Go.Shelf

theorem own_new {w : World} {B k n c m : Nat} {t : TypeId} {p : Option Addr} {xs : List Value} (h : w.ownsRow B t k (.slice p n c) m xs) : ∀ i, InC p c i → B ≤ i ∧ i < w.heap.size := by
  rintro i ⟨a, rfl, _, rfl⟩
  exact ⟨own_block_base h rfl, (own_block_lt h rfl).1⟩
theorem RS.next {W W1 W2 : World} {b n : Nat} {q q' : QK} (h : RS W b n q) (hb : Below W.heap.size W W1) (ho : Only (· = b) W1 W2) (hbox : W2.heap[b]? = some (.cells (RSrow n q') 75 (0, 0))) (hv : QV W1 q') (hk : ∀ i, q'.blk i → q.blk i ∨ (W.heap.size ≤ i ∧ i < W1.heap.size)) : RPut W b n q q'.sk W2 := by
  have hnb : ∀ i, q'.blk i → ¬ i = b := fun i hi e => by
    rcases hk i hi with h9 | h9
    · exact h.nb (e ▸ h9)
    · have := h.bl
      omega
  refine ⟨q', ⟨hbox, hv.only ho hnb, fun i hi => ?_, fun hi => hnb b hi rfl⟩, rfl, (Only.fresh hb _).trans ho, fun i hi => ?_⟩
  · have := ho.size
    have := hb.size
    rcases hk i hi with h9 | h9
    · have := h.lt i h9
      omega
    · omega
  · rcases hk i hi with h9 | h9
    · exact .inl h9
    · exact .inr h9.1
def fl (i : Int) (xs : List TP) : List TP := xs.filter (fun x => x.t.id != i)
theorem fl_snoc {xs : List TP} {k : Nat} {i : Int} (hk : k < xs.length) {x : TP} (hx : xs[k]! = x) : fl i (xs.take (k + 1)) = fl i (xs.take k) ++ (if x.t.id = i then [] else [x]) := by
  unfold fl
  rw [List.take_succ_eq_append_getElem hk, List.filter_append, ← hx, getElem!_pos xs k hk]
  by_cases h : xs[k].t.id = i
  · simp [h]
  · simp [h]
theorem fl_len (i : Int) (xs : List TP) (k : Nat) : (fl i (xs.take k)).length ≤ xs.length := by
  unfold fl
  exact Nat.le_trans (List.length_filter_le _ _) (by rw [List.length_take]; omega)
theorem fl_map (i : Int) (xs : List TP) : (fl i xs).map TP.t = delT i (xs.map TP.t) := by
  unfold fl delT
  rw [List.filter_map]
  rfl
set_option maxRecDepth 100000 in
set_option maxHeartbeats 4000000 in
theorem rdrop_any {W : World} {b n : Nat} {q : QK} {id : Int} (h : RS W b n q) (hl : q.ts.length ≤ 8) :
    Calls Try.prog 71 #[.pointer (some ⟨b, 0, none⟩), .int .i64 id] W fun e w' => e = .returned (.tuple #[]) ∧ RPut W b n q ⟨q.reg, q.out, q.vec, q.done, delT id q.sk.pre⟩ w' := by
  obtain ⟨i0, hI0, hz0, hz1, hz2⟩ := info_parts Try.infoTxn
  have HP := hide h
  obtain ⟨L, hL⟩ : ∃ L, q.ts.length = L := ⟨_, rfl⟩
  have HL := hide hL
  have i1 : q.ts.length ≤ q.pc := h.vis.pre.le
  have i2 := h.vis.pre.top
  have hl8 : L ≤ 8 := by omega
  have HLE : Hid (∀ k, (fl id (q.ts.take k)).length ≤ L) := hide (fun k => by rw [← hL]; exact fl_len id q.ts k)
  rw [hL] at i1
  clear h hL hl
  go_enter Try.func71, Try.ntmps71
  go_wp2_with fail
  go_loopw [5, 4] (fun i s wq => ∃ (k m : Nat) (p1 : Option Addr) (c1 : Nat), k ≤ L ∧ i = .int .i64 (k : Int) ∧ s = .slice p1 m c1 ∧ Hid ((fl id (q.ts.take k)).length = m) ∧ Hid (wq.ownsRow W.heap.size 34 5 (.slice p1 m c1) m ((fl id (q.ts.take k)).flatMap TP.cells)) ∧ Hid (Below W.heap.size W wq)) (fun i _ _ => L - (intOf i).toNat)
  case atStart => exact ⟨0, 0, none, 0, Nat.zero_le _, rfl, rfl, hide rfl, hide (World.ownsRow_nil _ _ _ _), hide (Below.refl _ _)⟩
  case round =>
    obtain ⟨k, m, p1, c1, hk, rfl, rfl, HLm, HOW, HBq⟩ := hrel
    rename World => wq
    have HPq := hide (HP.out.later HBq.out)
    have u5 := HPq.out.c5
    rw [HL.out] at u5
    by_cases hlt : k < L
    · have hlt2 : k < q.ts.length := by rw [HL.out]; exact hlt
      obtain ⟨x, hx⟩ : ∃ x, q.ts[k]! = x := ⟨_, rfl⟩
      obtain ⟨g, o, hpp, a0, a1, a2, a3, a4, _⟩ := TL.at HPq.out.tl hlt2 hx
      rw [hpp] at u5
      have hsn := fl_snoc (i := id) hlt2 hx
      have hle := HLE.out (k + 1)
      have hlt9 := hlt
      obtain ⟨⟨ep, i9, bg, rs, vs⟩, rp, rc, vp, vc⟩ := x
      simp only at a0 a1 a2 a3 a4 hsn
      clear hpp
      by_cases hid : i9 = id
      · have e1 : (i9 != id) = false := by simpa using hid
        rw [if_pos hid, List.append_nil] at hsn
        have HL5 : Hid ((fl id (q.ts.take (k + 1))).length = m) := hide (by rw [hsn]; exact HLm.out)
        have HO5 : Hid (wq.ownsRow W.heap.size 34 5 (.slice p1 m c1) m ((fl id (q.ts.take (k + 1))).flatMap TP.cells)) := by rw [hsn]; exact HOW
        clear hsn hle hx hlt2 hid
        go_wp2
        exact ⟨⟨k + 1, m, p1, c1, hlt9, by first | rfl | go_num, rfl, HL5, HO5, HBq⟩, by simp [intOf]; omega⟩
      · have e1 : (i9 != id) = true := by simpa using hid
        rw [if_neg hid] at hsn
        rw [hsn, List.length_append, HLm.out] at hle
        simp only [List.length_cons, List.length_nil, Nat.zero_add] at hle
        have HS := hide hsn
        have hab := alloc_below wq (.cells #[.int .i64 ep, .int .i64 i9, .int .i64 bg, .slice rp rs.length rc, .slice vp vs.length vc] 34 (0, 0))
        have HSG : Hid (Seg (wq.alloc (.cells #[.int .i64 ep, .int .i64 i9, .int .i64 bg, .slice rp rs.length rc, .slice vp vs.length vc] 34 (0, 0))) 5 (.slice (some ⟨wq.heap.size, 0, none⟩) 1 1) 1 [.int .i64 ep, .int .i64 i9, .int .i64 bg, .slice rp rs.length rc, .slice vp vs.length vc]) := hide (Seg.news (heap_alloc_new wq _) (by simp [Value.oneCell']) rfl (Nat.le_refl _) (by decide))
        have HRW := hide (ownsRow_later HOW.out hab)
        have HAB := hide hab
        have HK1 : Hid (m + 1 ≤ maxLen) := by show _ ≤ _; unfold maxLen; omega
        have HK2 : Hid ((m + 1) * 72 ≤ 140737488355328) := by show _ ≤ _; omega
        have HBS : Hid (W.heap.size ≤ (wq.alloc (.cells #[.int .i64 ep, .int .i64 i9, .int .i64 bg, .slice rp rs.length rc, .slice vp vs.length vc] 34 (0, 0))).heap.size) := hide (Nat.le_trans HBq.out.size hab.size)
        clear hsn hle hab hx hlt2 hid
        go_wp2_with (at_builtin; refine append_cells _ rfl (.tmp 27) (.tmp 36) 41 rfl W.heap.size 34 i0 (.agg #[.int .i64 0, .int .i64 0, .int .i64 0, .slice none 0 0, .slice none 0 0]) 5 72 Try.underlying41 hI0 hz0 hz1 hz2 rfl (by decide) (.slice p1 m c1) m _ rfl HRW.out (.slice (some ⟨wq.heap.size, 0, none⟩) 1 1) 1 _ rfl HSG.out HK1.out HK2.out HBS.out ?_)
        intro p' c' w5 hown hgrow
        have HB5 : Hid (Below W.heap.size W w5) := hide ((HBq.out.trans (HAB.out.mono HBq.out.size)).grown hgrow (Nat.le_trans HBq.out.size HAB.out.size) (fun i hi => own_block_base HRW.out hi))
        have HO5 : Hid (w5.ownsRow W.heap.size 34 5 (.slice p' (m + 1) c') (m + 1) ((fl id (q.ts.take (k + 1))).flatMap TP.cells)) := by
          refine hide ?_
          rw [HS.out, List.flatMap_append]
          exact hown
        have HL5 : Hid ((fl id (q.ts.take (k + 1))).length = m + 1) := hide (by rw [HS.out, List.length_append, HLm.out]; rfl)
        clear hown hgrow u5 a0 a1 a2 a3 a4
        go_wp2
        exact ⟨⟨k + 1, m + 1, p', c', hlt9, by first | rfl | go_num, rfl, HL5, HO5, HB5⟩, by simp [intOf]; omega⟩
    · obtain rfl : k = L := by omega
      have hall : q.ts.take k = q.ts := List.take_of_length_le (by rw [HL.out]; exact Nat.le_refl _)
      have hO := HOW.out
      have hm := HLm.out
      rw [hall] at hO hm
      have HO := hide hO
      have HM := hide hm
      have z5 := frB HPq.out.box (i := 5)
      clear hall hO hm
      go_wp2
      refine bodyPost_end (results_none rfl _ _ _) rfl ?_
      have ho : Only (· = b) wq (wq.setCell ⟨b, 5, none⟩ (.slice p1 m c1)) := Only.set (F := (· = b)) wq b 5 _ rfl
      refine ⟨rfl, ?_⟩
      have h9 := RS.next (q' := ⟨q.op, q.oc, q.vp, q.vc, q.dp, q.dc, p1, c1, q.reg, q.out, q.vec, q.done, fl id q.ts⟩) HP.out HBq.out ho (by
        have := heap_set_sameL HPq.out.box 5 (.slice p1 m c1)
        rw [this]
        simp [RSrow, HM.out]) ⟨HPq.out.vis.out, HPq.out.vis.vec, HPq.out.vis.done, LRow.of_own TP.len HM.out HO.out, fun x hx => HPq.out.vis.ts x (List.mem_filter.1 hx).1⟩ (fun i hi => by
        rcases hi with hi | hi | hi | hi | ⟨x, hx, hi⟩
        · exact .inl (.inl hi)
        · exact .inl (.inr (.inl hi))
        · exact .inl (.inr (.inr (.inl hi)))
        · exact .inr (own_new HO.out i hi)
        · exact .inl (.inr (.inr (.inr (.inr ⟨x, (List.mem_filter.1 hx).1, hi⟩)))))
      have h8 : (⟨q.op, q.oc, q.vp, q.vc, q.dp, q.dc, p1, c1, q.reg, q.out, q.vec, q.done, fl id q.ts⟩ : QK).sk = ⟨q.reg, q.out, q.vec, q.done, delT id q.sk.pre⟩ := by
        unfold QK.sk
        rw [fl_map]
      rw [h8] at h9
      exact h9
set_option maxRecDepth 100000 in
set_option maxHeartbeats 4000000 in
theorem rabort_any {W : World} {b n : Nat} {q : QK} {ep id : Int} (h : RS W b n q) (hok : okS q.sk) :
    Calls Try.prog 37 #[.pointer (some ⟨b, 0, none⟩), .agg #[.int .i64 ep, .int .i64 id]] W fun e w' => e = .returned (.int .i64 (aboE q.sk ep id)) ∧ RPut W b n q (aboS q.sk ep id) w' := by
  by_cases he : posI ep
  · by_cases hi : posI id
    · by_cases hf : ep < q.reg
      · have HE := hide he
        have HI := hide hi
        have HQ : Hid (aboE q.sk ep id = 150 ∧ aboS q.sk ep id = q.sk) := hide (abo_late (s := q.sk) he hi hf)
        have HQE : Hid (entC q.sk ep = 150 ∧ raisC q.sk ep = q.sk) := hide ⟨if_pos hf, if_neg (by show ¬ q.reg < ep; omega)⟩
        rw [HQ.out.1, HQ.out.2]
        clear he hi hf
        have HP := hide h
        have HOK := hide hok
        clear h hok
        obtain ⟨V, hV⟩ : ∃ V, V = W.alloc (.cells #[.int .i64 ep, .int .i64 id] 55 (0, 0)) := ⟨_, rfl⟩
        have HV : Hid (V.heap[W.heap.size]? = some (.cells #[.int .i64 ep, .int .i64 id] 55 (0, 0))) := hide (by rw [hV]; exact heap_alloc_new W _)
        have HBV : Hid (Below W.heap.size W V) := hide (by rw [hV]; exact alloc_below _ _)
        obtain ⟨bB, hbB⟩ : ∃ bB, W.heap.size = bB := ⟨_, rfl⟩
        rw [hbB] at HV HBV
        have HZbB := hide hbB
        have HBW : Hid (Below W.heap.size W V) := hide (by rw [HZbB.out]; exact HBV.out)
        have HPV : Hid (RS V b n q) := hide (HP.out.later HBW.out)
        go_enter Try.func37, Try.ntmps37
        go_upto_region 1 with fail
        rw [← hV]
        try rw [hbB]
        clear hV hbB
        have u0 := cellB HV.out (i := 0) rfl
        have u1 := cellB HV.out (i := 1) rfl
        go_wp2_with fail
        refine (pos_any (decide_eq_true HE.out)).mono ?_
        rintro _ _ ⟨rfl, rfl⟩
        rename World => V
        go_wp2_with fail
        refine (pos_any (decide_eq_true HI.out)).mono ?_
        rintro _ _ ⟨rfl, rfl⟩
        rename World => V
        go_wp2_with fail
        refine (rraise_any HPV.out).mono ?_
        rintro _ w1 ⟨rfl, hp⟩
        rw [HQE.out.1]
        rw [HQE.out.2] at hp
        have HU := hide hp
        clear hp u0 u1
        go_wp2
        go_ret
        exact ⟨rfl, RPut.first HBW.out HU.out⟩
      · have HE := hide he
        have HI := hide hi
        obtain ⟨s1, hs1⟩ : ∃ s1, raisC q.sk ep = s1 := ⟨_, rfl⟩
        have HQE : Hid (entC q.sk ep = 0) := hide (if_neg hf)
        have HQ : Hid (aboE q.sk ep id = aboE1 s1 ep id ∧ aboS q.sk ep id = aboS1 s1 ep id) := hide ⟨by unfold aboE; rw [if_pos ⟨he, hi⟩, if_neg (show ¬ ep < q.sk.reg from hf), hs1], by unfold aboS; rw [if_pos ⟨he, hi⟩, if_neg (show ¬ ep < q.sk.reg from hf), hs1]⟩
        have HOK1 : Hid (okS s1) := hide (by rw [← hs1]; unfold raisC; split; exact raise_ok hok he; exact hok)
        have HS1 := hide hs1
        rw [HQ.out.1, HQ.out.2]
        clear he hi hf hs1
        have HP := hide h
        have HOK := hide hok
        clear h hok
        obtain ⟨V, hV⟩ : ∃ V, V = W.alloc (.cells #[.int .i64 ep, .int .i64 id] 55 (0, 0)) := ⟨_, rfl⟩
        have HV : Hid (V.heap[W.heap.size]? = some (.cells #[.int .i64 ep, .int .i64 id] 55 (0, 0))) := hide (by rw [hV]; exact heap_alloc_new W _)
        have HBV : Hid (Below W.heap.size W V) := hide (by rw [hV]; exact alloc_below _ _)
        obtain ⟨bB, hbB⟩ : ∃ bB, W.heap.size = bB := ⟨_, rfl⟩
        rw [hbB] at HV HBV
        have HZbB := hide hbB
        have HBW : Hid (Below W.heap.size W V) := hide (by rw [HZbB.out]; exact HBV.out)
        have HPV : Hid (RS V b n q) := hide (HP.out.later HBW.out)
        go_enter Try.func37, Try.ntmps37
        go_upto_region 1 with fail
        rw [← hV]
        try rw [hbB]
        clear hV hbB
        have u0 := cellB HV.out (i := 0) rfl
        have u1 := cellB HV.out (i := 1) rfl
        go_wp2_with fail
        refine (pos_any (decide_eq_true HE.out)).mono ?_
        rintro _ _ ⟨rfl, rfl⟩
        rename World => V
        go_wp2_with fail
        refine (pos_any (decide_eq_true HI.out)).mono ?_
        rintro _ _ ⟨rfl, rfl⟩
        rename World => V
        go_wp2_with fail
        refine (rraise_any HPV.out).mono ?_
        rintro _ w1 ⟨rfl, q1, h1, h2, h3, h4⟩
        rw [HQE.out]
        rw [HS1.out] at h2
        have HP1 := hide h1
        have HK1 := hide h2
        have HO1 := hide h3
        have HB1 := hide h4
        have HV1 := hide (h3.obj HV.out (fun e9 => by have e8 : bB = b := e9; have := HP.out.bl; have := HZbB.out; omega))
        clear h1 h2 h3 h4 u0 u1
        have u0 := cellB HV1.out (i := 0) rfl
        have u1 := cellB HV1.out (i := 1) rfl
        cases hd : doneC s1 ep id
        · have HD := hide hd
          have HR : Hid (aboE1 s1 ep id = 0 ∧ aboS1 s1 ep id = ⟨s1.reg, s1.out, s1.vec, s1.done, delT id s1.pre⟩) := hide ⟨by unfold aboE1; rw [if_neg (by rw [hd]; decide)], by unfold aboS1; rw [if_neg (by rw [hd]; decide)]⟩
          clear hd
          go_wp2_with fail
          refine (rDone_any (rb := false) HP1.out (by rw [HK1.out]; exact HOK1.out) (by rw [HK1.out]; exact HD.out)).mono ?_
          rintro _ w2 ⟨rfl, b2⟩
          have HP2 := hide (HP1.out.later b2)
          have HV2 := hide (below_box b2 HV1.out)
          have HB2 := hide b2
          clear b2 u0 u1
          have u0 := cellB HV2.out (i := 0) rfl
          have u1 := cellB HV2.out (i := 1) rfl
          go_wp2_with fail
          refine (rdrop_any HP2.out (by have h9 := HOK1.out.room; rw [← HK1.out] at h9; simpa [QK.sk] using h9)).mono ?_
          rintro _ w3 ⟨rfl, hp⟩
          have HU := hide hp
          clear hp u0 u1
          go_wp2
          go_ret
          have h9 := RPut.first HBW.out (RPut.trans HO1.out HB1.out (RPut.first HB2.out HU.out))
          refine ⟨by rw [HR.out.1]; rfl, ?_⟩
          rw [HR.out.2, ← HK1.out]
          exact h9
        · have HD := hide hd
          have HR : Hid (aboE1 s1 ep id = 5 ∧ aboS1 s1 ep id = s1) := hide ⟨by unfold aboE1; rw [if_pos hd], by unfold aboS1; rw [if_pos hd]⟩
          clear hd
          go_wp2_with fail
          refine (rDone_any (rb := true) HP1.out (by rw [HK1.out]; exact HOK1.out) (by rw [HK1.out]; exact HD.out)).mono ?_
          rintro _ w2 ⟨rfl, b2⟩
          have HP2 := hide (HP1.out.later b2)
          have HB2 := hide b2
          clear b2 u0 u1
          go_wp2
          go_ret
          have h9 := RPut.first HBW.out (RPut.trans HO1.out HB1.out (RPut.same HP1.out HB2.out))
          refine ⟨by rw [HR.out.1]; rfl, ?_⟩
          rw [HR.out.2, ← HK1.out]
          exact h9
    · have HE := hide he
      have HI := hide hi
      have HQ : Hid (aboE q.sk ep id = 1 ∧ aboS q.sk ep id = q.sk) := hide ⟨if_neg (fun h9 => hi h9.2), if_neg (fun h9 => hi h9.2)⟩
      rw [HQ.out.1, HQ.out.2]
      clear he hi
      have HP := hide h
      have HOK := hide hok
      clear h hok
      obtain ⟨V, hV⟩ : ∃ V, V = W.alloc (.cells #[.int .i64 ep, .int .i64 id] 55 (0, 0)) := ⟨_, rfl⟩
      have HV : Hid (V.heap[W.heap.size]? = some (.cells #[.int .i64 ep, .int .i64 id] 55 (0, 0))) := hide (by rw [hV]; exact heap_alloc_new W _)
      have HBV : Hid (Below W.heap.size W V) := hide (by rw [hV]; exact alloc_below _ _)
      obtain ⟨bB, hbB⟩ : ∃ bB, W.heap.size = bB := ⟨_, rfl⟩
      rw [hbB] at HV HBV
      have HZbB := hide hbB
      have HBW : Hid (Below W.heap.size W V) := hide (by rw [HZbB.out]; exact HBV.out)
      have HPV : Hid (RS V b n q) := hide (HP.out.later HBW.out)
      go_enter Try.func37, Try.ntmps37
      go_upto_region 1 with fail
      rw [← hV]
      try rw [hbB]
      clear hV hbB
      have u0 := cellB HV.out (i := 0) rfl
      have u1 := cellB HV.out (i := 1) rfl
      go_wp2_with fail
      refine (pos_any (decide_eq_true HE.out)).mono ?_
      rintro _ _ ⟨rfl, rfl⟩
      rename World => V
      go_wp2_with fail
      refine (pos_any (decide_eq_false HI.out)).mono ?_
      rintro _ _ ⟨rfl, rfl⟩
      rename World => V
      clear u0 u1
      go_wp2
      go_ret
      exact ⟨rfl, RPut.same HP.out HBW.out⟩
  · have HE := hide he
    have HQ : Hid (aboE q.sk ep id = 1 ∧ aboS q.sk ep id = q.sk) := hide ⟨if_neg (fun h9 => he h9.1), if_neg (fun h9 => he h9.1)⟩
    rw [HQ.out.1, HQ.out.2]
    clear he
    have HP := hide h
    have HOK := hide hok
    clear h hok
    obtain ⟨V, hV⟩ : ∃ V, V = W.alloc (.cells #[.int .i64 ep, .int .i64 id] 55 (0, 0)) := ⟨_, rfl⟩
    have HV : Hid (V.heap[W.heap.size]? = some (.cells #[.int .i64 ep, .int .i64 id] 55 (0, 0))) := hide (by rw [hV]; exact heap_alloc_new W _)
    have HBV : Hid (Below W.heap.size W V) := hide (by rw [hV]; exact alloc_below _ _)
    obtain ⟨bB, hbB⟩ : ∃ bB, W.heap.size = bB := ⟨_, rfl⟩
    rw [hbB] at HV HBV
    have HZbB := hide hbB
    have HBW : Hid (Below W.heap.size W V) := hide (by rw [HZbB.out]; exact HBV.out)
    have HPV : Hid (RS V b n q) := hide (HP.out.later HBW.out)
    go_enter Try.func37, Try.ntmps37
    go_upto_region 1 with fail
    rw [← hV]
    try rw [hbB]
    clear hV hbB
    have u0 := cellB HV.out (i := 0) rfl
    have u1 := cellB HV.out (i := 1) rfl
    go_wp2_with fail
    refine (pos_any (decide_eq_false HE.out)).mono ?_
    rintro _ _ ⟨rfl, rfl⟩
    rename World => V
    clear u0 u1
    go_wp2
    go_ret
    exact ⟨rfl, RPut.same HP.out HBW.out⟩
end Go.Proofs.Ytboofnkajjnmeaa
