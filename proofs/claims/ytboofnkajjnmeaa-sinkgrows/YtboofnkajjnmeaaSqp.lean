/-
  SinkGrows, plainly and walked. The conditions: that the operations lie there; lengths.
-/
import Derived.Test.YtboofnkajjnmeaaSqo
namespace Go.Proofs.Ytboofnkajjnmeaa
open Go.RowKit Go.Maps Go.Shelf

theorem above_self : ∀ l : List Int, aboveC l l = true
  | [] => rfl
  | a :: l => by
    unfold aboveC
    rw [above_self l]
    simp
/-- What is committed stays, the vector and the register do not fall. -/
def Grow (s s' : SK) : Prop := (∃ t, s'.out = s.out ++ t) ∧ aboveC s'.vec s.vec = true ∧ s.reg ≤ s'.reg
theorem Grow.rfl' (s : SK) : Grow s s := ⟨⟨[], by simp⟩, above_self _, Int.le_refl _⟩
theorem Grow.same {s s' : SK} (h1 : s'.out = s.out) (h2 : s'.vec = s.vec) (h3 : s.reg ≤ s'.reg) : Grow s s' := ⟨⟨[], by rw [h1]; simp⟩, by rw [h2]; exact above_self _, h3⟩
theorem rais_out (s : SK) (e : Int) : (raisC s e).out = s.out := by
  unfold raisC
  split <;> rfl
theorem grow_rais (s : SK) (e : Int) : Grow s (raisC s e) := Grow.same (rais_out s e) (vec_rais s e) (by rw [rais_max]; omega)
theorem grow_fen (s : SK) (e : Int) : Grow s (fenS s e) := by
  unfold fenS
  split
  · exact grow_rais s e
  · exact Grow.rfl' s
theorem grow_pre (p : Int) (s : SK) (t : TX) : Grow s (preS p s t) := by
  have hr := grow_rais s t.ep
  unfold preS
  split
  · split
    · exact Grow.rfl' s
    · unfold preS1
      split
      · exact hr
      · split
        · exact hr
        · split
          · split
            · exact hr
            · exact hr
          · exact hr
  · exact Grow.rfl' s
theorem grow_com (s : SK) (e i : Int) : Grow s (comS s e i) := by
  have hr := grow_rais s e
  unfold comS
  split
  · split
    · exact Grow.rfl' s
    · unfold comS1
      split
      · exact hr
      · split
        · split
          · rename_i t _ hs
            refine ⟨⟨t.rs.drop ((raisC s e).out.length - t.beg.toNat), ?_⟩, ?_, ?_⟩
            · show (raisC s e).out ++ t.rs.drop ((raisC s e).out.length - t.beg.toNat) = s.out ++ t.rs.drop ((raisC s e).out.length - t.beg.toNat)
              rw [rais_out]
            · have h9 := (suit_zero hs).2.1
              rw [vec_rais] at h9
              exact h9
            · exact hr.2.2
          · exact hr
        · exact hr
  · exact Grow.rfl' s
theorem grow_abo (s : SK) (e i : Int) : Grow s (aboS s e i) := by
  have hr := grow_rais s e
  unfold aboS
  split
  · split
    · exact Grow.rfl' s
    · unfold aboS1
      split
      · exact hr
      · exact hr
  · exact Grow.rfl' s
theorem grow_do (n : Nat) (s : SK) (o : OP) : Grow s (doS n s o) := by
  unfold doS
  split
  · exact grow_fen _ _
  · split
    · exact grow_pre _ _ _
    · split
      · exact grow_com _ _ _
      · split
        · exact grow_abo _ _ _
        · exact Grow.rfl' s
theorem do_len (n : Nat) (s : SK) (o : OP) : (doS n s o).done.length ≤ s.done.length + 1 := by
  have h1 := fen_len s o.x.t.ep
  have h2 := pre_len n s o.x.t
  have h3 := com_len s o.x.t.ep o.x.t.id
  have h4 := abo_len s o.x.t.ep o.x.t.id
  unfold doS
  split
  · omega
  · split
    · omega
    · split
      · omega
      · split <;> omega
theorem RP.rs {B : Nat} {W : World} {b n : Nat} {q : QK} (h : RP B W b n q) : RS W b n q ∧ ∀ i, q.blk i → B ≤ i := by
  have key : ∀ {t : TypeId} {k m c : Nat} {p : Option Addr} {xs : List Value}, W.ownsRow B t k (.slice p m c) m xs → t ≠ 75 → ∀ i, InC p c i → B ≤ i ∧ i < W.heap.size ∧ i ≠ b := fun hr ht i hi => by
    have h1 := own_new hr i hi
    refine ⟨h1.1, h1.2, fun e => ?_⟩
    obtain ⟨a, ha, _, hb⟩ := hi
    obtain ⟨_, c2, e2⟩ := own_block_lt hr (b := i) (by rw [ha, hb]; rfl)
    rw [e, h.box] at e2
    simp at e2
    exact ht e2.2.symm
  have all : ∀ i, q.blk i → B ≤ i ∧ i < W.heap.size ∧ i ≠ b := fun i hi => by
    rcases hi with hi | hi | hi | hi | ⟨x, hx, hi⟩
    · exact key h.own.out (by decide) i hi
    · exact key h.own.vec (by decide) i hi
    · exact key h.own.done (by decide) i hi
    · exact key h.own.pre (by decide) i hi
    · rcases hi with hi | hi
      · exact key (h.own.ts x hx).r (by decide) i hi
      · exact key (h.own.ts x hx).v (by decide) i hi
  exact ⟨⟨h.box, h.own.vis, fun i hi => (all i hi).2.1, fun hi => (all b hi).2.2 rfl⟩, fun i hi => (all i hi).1⟩
set_option maxRecDepth 100000 in
set_option maxHeartbeats 16000000 in
theorem grows_walk {W : World} {p : Option Addr} {n c : Nat} {os : List OP} (h : OL W p c os) (hn : os.length = n) (hb : n < 2199023255552) :
    Calls Try.prog 4 #[.slice p n c] W fun e w' => e = .returned (.bool true) ∧ Below W.heap.size W w' := by
  have H := hide h
  have HN := hide hn
  have i1 : os.length ≤ c := h.row.le
  have i2 := h.row.top
  rw [hn] at i1
  clear h hn
  go_enter Try.func4, Try.ntmps4
  go_wp2_with fail
  refine live_any.mono ?_
  rintro _ w0 ⟨rfl, b0⟩
  have HB0 := hide b0
  clear b0
  go_wp2_with fail
  refine (new_ok (W := w0) (n := 2) (by omega) (by omega)).mono ?_
  rintro _ w1 ⟨k0, rfl, hp, hs, hb1⟩
  have HP0 : Hid (PS w0.heap.size w1 k0) := hide hp
  have HS0 : Hid (k0.sk = newS 2) := hide hs
  have HB1 : Hid (Below w0.heap.size w0 w1) := hide hb1
  clear hp hs hb1
  go_wp2_with fail
  refine (rnew_ok (W := w1) (n := 2) (by omega) (by omega)).mono ?_
  rintro _ w2 ⟨rb, qr, rfl, hrp, hrs, b2⟩
  have HTW : Hid (TwS w0.heap.size w2 k0 rb 2 qr) := hide ⟨HP0.out.later b2, hrp.rs.1, fun hi => by have := (HP0.out.lt hi).2; have := hrp.ge; omega, fun i hi hk => by have := (HP0.out.lt hk).2; have := hrp.rs.2 i hi; omega, by have := hrp.ge; have := HB1.out.size; omega⟩
  have HSQ : Hid (qr.sk = k0.sk) := hide (hrs.trans HS0.out.symm)
  have HD0 : Hid (k0.done.length = 0 ∧ k0.vec.length = 2) := hide ⟨by have h9 : k0.done = _ := congrArg SK.done HS0.out; rw [h9]; rfl, by have h9 : k0.vec = _ := congrArg SK.vec HS0.out; rw [h9]; rfl⟩
  have HB2 : Hid (Below w0.heap.size w0 w2) := hide (HB1.out.trans (b2.mono HB1.out.size))
  clear hrp hrs b2
  obtain ⟨kb, hkb⟩ : ∃ kb, k0.b = kb := ⟨_, rfl⟩
  rw [hkb]
  have HKB := hide hkb
  clear hkb
  go_wp2_with fail
  go_loopw [31] (fun i wr => ∃ (j : Nat) (k : PK) (q : QK), j ≤ n ∧ i = .int .i64 (j : Int) ∧ Hid (k.b = kb) ∧ Hid (TwS w0.heap.size wr k rb 2 q) ∧ Hid (q.sk = k.sk) ∧ Hid (k.done.length ≤ j ∧ k.vec.length = 2) ∧ Hid (Below w0.heap.size w0 wr)) (fun i _ => n - (intOf i).toNat)
  case atStart => exact ⟨0, k0, qr, Nat.zero_le _, rfl, HKB, HTW, HSQ, hide ⟨by have := HD0.out; omega, HD0.out.2⟩, HB2⟩
  case round =>
    obtain ⟨j, k, q, hj, rfl, HKE, HTR, HQE, HD, HB⟩ := hrel
    rename World => wr
    obtain rfl := HKE.out
    clear HKE
    by_cases hlt : j < n
    · have hl1 : j < os.length := by rw [HN.out]; exact hlt
      obtain ⟨y, hy⟩ : ∃ y, os[j]! = y := ⟨_, rfl⟩
      have HYM : Hid (y ∈ os) := hide (by rw [← hy, getElem!_pos os j hl1]; exact List.getElem_mem hl1)
      have HWR : Hid (Below W.heap.size W wr) := hide (HB0.out.trans (HB.out.mono HB0.out.size))
      obtain ⟨g, o, rfl, a0, a1, a2, a3, a4, a5⟩ := OL.at (H.out.row.below OP.len HWR.out) hl1 hy
      clear hy hl1
      have hlt9 := hlt
      go_upto_region 10 with fail
      obtain ⟨X, hX⟩ : ∃ X, X = wr.alloc (.cells #[.int .i64 y.d, .int .i64 y.x.t.ep, .int .i64 y.x.t.id, .int .i64 y.x.t.beg, .slice y.x.rp y.x.t.rs.length y.x.rc, .slice y.x.vp y.x.t.vs.length y.x.vc] 36 (0, 0)) := ⟨_, rfl⟩
      rw [← hX]
      have bX : Below wr.heap.size wr X := by rw [hX]; exact alloc_below _ _
      obtain ⟨oB, hoB⟩ : ∃ oB, wr.heap.size = oB := ⟨_, rfl⟩
      have HO : Hid (X.heap[oB]? = some (.cells #[.int .i64 y.d, .int .i64 y.x.t.ep, .int .i64 y.x.t.id, .int .i64 y.x.t.beg, .slice y.x.rp y.x.t.rs.length y.x.rc, .slice y.x.vp y.x.t.vs.length y.x.vc] 36 (0, 0))) := hide (by rw [hX, ← hoB]; exact heap_alloc_new wr _)
      have HTX := hide (HTR.out.later bX)
      have HBX : Hid (Below w0.heap.size w0 X) := hide (HB.out.trans (bX.mono HB.out.size))
      have HNO : Hid (¬ k.blk oB ∧ oB ≠ rb) := hide ⟨fun hi => by have := (HTR.out.ps.lt hi).2; omega, by have := HTR.out.rs.bl; omega⟩
      try rw [hoB]
      clear hX bX hoB a0 a1 a2 a3 a4 a5 HTR HB HWR
      go_wp2_with fail
      refine (plain_any HTX.out.ps (by have := HD.out; omega)).mono ?_
      rintro _ w3 ⟨q3, rfl, hq, hqs, b3⟩
      unfold QK.row
      have HQ3 := hide hq
      have HS3 : Hid (q3.out = k.out) := hide (congrArg SK.out hqs)
      have HT3 := hide (HTX.out.later b3)
      have HO3 := hide (below_box b3 HO.out)
      have HB3 : Hid (Below w0.heap.size w0 w3) := hide (HBX.out.trans (b3.mono HBX.out.size))
      have HZ3 : Hid (∀ i, (k.blk i ∨ i = rb) → i < X.heap.size) := hide (fun i hi => by rcases hi with hi | hi; exact (HTX.out.ps.lt hi).2; rw [hi]; exact HTX.out.rs.bl)
      have HZB : Hid (X.heap.size ≤ w3.heap.size) := hide b3.size
      clear hq hqs b3
      have hf3 : ∀ w : World, (Instr.field 43 (.agg #[.int .i64 q3.reg, .slice q3.op q3.out.length q3.oc, .slice q3.vp q3.vec.length q3.vc, .slice q3.dp q3.done.length q3.dc, .slice q3.pp q3.ts.length q3.pc]) 1).run Try.prog w = .ok (.slice q3.op q3.out.length q3.oc) w := fun _ => by kernel_rfl
      go_wp2_with fail
      refine (vector_call HT3.out.ps).mono ?_
      rintro _ w4 ⟨p4, c4, rfl, o4, b4⟩
      have HV4 := hide o4
      have HQ4 := hide (HQ3.out.later b4)
      have HT4 := hide (HT3.out.later b4)
      have HO4 := hide (below_box b4 HO3.out)
      have HB4 : Hid (Below w0.heap.size w0 w4) := hide (HB3.out.trans (b4.mono HB3.out.size))
      have HZ4 : Hid (X.heap.size ≤ w3.heap.size) := hide HZB.out
      clear o4 b4 hf3
      go_wp2_with fail
      refine (register_any HT4.out.ps).mono ?_
      rintro _ _ ⟨rfl, rfl⟩
      rename World => w4
      have u0 := cellB HO4.out (i := 0) rfl
      have u1 := cellB HO4.out (i := 1) rfl
      have u2 := cellB HO4.out (i := 2) rfl
      have u3 := cellB HO4.out (i := 3) rfl
      have u4 := cellB HO4.out (i := 4) rfl
      have u5 := cellB HO4.out (i := 5) rfl
      have HWW : Hid (Below W.heap.size W w4) := hide (HB0.out.trans (HB4.out.mono HB0.out.size))
      go_wp2_with fail
      refine (does_any (y := y) HT4.out HQE.out HD.out.2 (by have := HD.out; omega) ((H.out.ok y HYM.out).1.later HWW.out) (fun i hi => by
        have h9 := (H.out.ok y HYM.out).2 i hi
        have h8 := HB0.out.size
        refine ⟨fun hk => ?_, fun e => ?_, ?_⟩
        · have := (HT4.out.ps.lt hk).1; omega
        · have := HT4.out.ge; omega
        · have := HWW.out.size; omega)).mono ?_
      rintro _ w5 ⟨rfl, k5, q5, hi5, hs5, hq5⟩
      have HI5 := hide hi5
      have HS5 := hide hs5
      have HQ5 := hide hq5
      have HGR : Hid (Grow k.sk k5.sk) := hide (by rw [hs5]; exact grow_do _ _ _)
      have HD5 : Hid (k5.done.length ≤ j + 1 ∧ k5.vec.length = 2) := hide ⟨by
        have h9 := do_len 2 k.sk y
        rw [← hs5] at h9
        have h8 : k5.sk.done.length ≤ k.sk.done.length + 1 := h9
        have h7 : k.sk.done.length ≤ j := HD.out.1
        show k5.sk.done.length ≤ j + 1
        omega, by
        have h9 := ((above_iff _ _).1 HGR.out.2.1).1
        have h8 : k.sk.vec.length = 2 := HD.out.2
        show k5.sk.vec.length = 2
        omega⟩
      have HB5 : Hid (Below w0.heap.size w0 w5) := hide (HB4.out.trans (hi5.only.below HB4.out.size (fun i hi => by rcases hi with hi | hi; exact (HT4.out.ps.lt hi).1; rw [hi]; exact HT4.out.ge)))
      have HQR5 : Hid (RRow w5 q3.op q3.oc k.out) := hide (by
        rw [← HS3.out]
        exact (HQ4.out.only hi5.only (fun i hi => HZ3.out i hi)).vis.out)
      have HV5 : Hid (NRow w5 p4 c4 k.vec) := hide (NRow.of_own rfl (ownsRow_only HV4.out hi5.only (fun i hi e9 => by have h9 := own_block_base HV4.out hi; have h8 := HZ3.out i e9; have := HZ4.out; omega)))
      have HKB5 : Hid (k5.b = k.b) := hide hi5.kb
      clear hi5 hs5 hq5 u0 u1 u2 u3 u4 u5
      rw [← HKB5.out]
      go_wp2_with fail
      refine (plain_any HI5.out.tw.ps (by have := HD5.out; omega)).mono ?_
      rintro _ w6 ⟨q6, rfl, hq, hqs, b6⟩
      unfold QK.row
      have HR6 : Hid (RRow w6 q6.op q6.oc k5.out) := hide (by rw [← (show q6.out = k5.out from congrArg SK.out hqs)]; exact hq.vis.out)
      have HL6 : Hid (q6.out.length = k5.out.length ∧ q3.out.length = k.out.length) := hide ⟨congrArg (fun s : SK => s.out.length) hqs, congrArg List.length HS3.out⟩
      have HT6 := hide (HI5.out.tw.later b6)
      have HQR6 := hide (HQR5.out.later b6)
      have HV6 := hide (HV5.out.later b6)
      have HB6 : Hid (Below w0.heap.size w0 w6) := hide (HB5.out.trans (b6.mono HB5.out.size))
      clear hq hqs b6
      have hf6 : ∀ w : World, (Instr.field 43 (.agg #[.int .i64 q6.reg, .slice q6.op q6.out.length q6.oc, .slice q6.vp q6.vec.length q6.vc, .slice q6.dp q6.done.length q6.dc, .slice q6.pp q6.ts.length q6.pc]) 1).run Try.prog w = .ok (.slice q6.op q6.out.length q6.oc) w := fun _ => by kernel_rfl
      obtain ⟨L6, hL6⟩ : ∃ L6, q6.out.length = L6 := ⟨_, rfl⟩
      obtain ⟨L3, hL3⟩ : ∃ L3, q3.out.length = L3 := ⟨_, rfl⟩
      have HLL : Hid (k5.out.length = L6 ∧ k.out.length = L3) := hide ⟨by rw [← HL6.out.1]; exact hL6, by rw [← HL6.out.2]; exact hL3⟩
      have HTK : Hid (k5.out.take L3 = k.out) := hide (by
        obtain ⟨tt, ht⟩ := HGR.out.1
        have ht' : k5.out = k.out ++ tt := ht
        rw [ht', ← HLL.out.2, List.take_left])
      have hle : L3 ≤ L6 := by
        obtain ⟨tt, ht⟩ := HGR.out.1
        have ht' : k5.out = k.out ++ tt := ht
        have h9 := congrArg List.length ht'
        rw [List.length_append, HLL.out.1, HLL.out.2] at h9
        omega
      have hlc : L6 ≤ q6.oc := by have := HR6.out.le; rw [HLL.out.1] at this; exact this
      have d1 : decide ((L6 : Int) < (L3 : Int)) = false := decide_eq_false (by omega)
      have n1 : decide (L6 < L3) = false := decide_eq_false (by omega)
      have qk : L3 ≤ q6.oc := by omega
      rw [hL6] at hf6 ⊢
      try rw [hL3]
      clear hL6 hL3
      go_wp2_with fail
      refine (eqrec_all (rb := true) (HR6.out.takeG L3) HQR6.out (by rw [List.length_take, HLL.out.1]; omega) HLL.out.2 (decide_eq_true HTK.out)).mono ?_
      rintro _ w7 ⟨rfl, b7⟩
      have HT7 := hide (HT6.out.later b7)
      have HV7 := hide (HV6.out.later b7)
      have HB7 : Hid (Below w0.heap.size w0 w7) := hide (HB6.out.trans (b7.mono HB6.out.size))
      clear b7 hf6
      go_wp2_with fail
      refine (vector_call HT7.out.ps).mono ?_
      rintro _ w8 ⟨p8, c8, rfl, o8, b8⟩
      have HN8 : Hid (NRow w8 p8 c8 k5.vec) := hide (NRow.of_own rfl o8)
      have HV8 := hide (HV7.out.later b8)
      have HT8 := hide (HT7.out.later b8)
      have HB8 : Hid (Below w0.heap.size w0 w8) := hide (HB7.out.trans (b8.mono HB7.out.size))
      clear o8 b8
      go_wp2_with fail
      refine (rabove_any (rb := true) HN8.out HV8.out rfl rfl HGR.out.2.1).mono ?_
      rintro _ w9 ⟨rfl, b9⟩
      have HT9 := hide (HT8.out.later b9)
      have HB9 : Hid (Below w0.heap.size w0 w9) := hide (HB8.out.trans (b9.mono HB8.out.size))
      clear b9
      go_wp2_with fail
      refine (register_any HT9.out.ps).mono ?_
      rintro _ _ ⟨rfl, rfl⟩
      rename World => w9
      have d3 : decide (k5.reg < k.reg) = false := decide_eq_false (by have h9 : k.reg ≤ k5.reg := HGR.out.2.2; omega)
      rw [HKB5.out]
      go_wp2
      exact ⟨⟨j + 1, k5, q5, hlt9, by first | rfl | go_num, HKB5, HT9, HQ5, HD5, HB9⟩, by simp [intOf]; omega⟩
    · obtain rfl : j = n := by omega
      go_wp2
      go_ret
      exact ⟨rfl, HB0.out.trans (HB.out.mono HB0.out.size)⟩
end Go.Proofs.Ytboofnkajjnmeaa
