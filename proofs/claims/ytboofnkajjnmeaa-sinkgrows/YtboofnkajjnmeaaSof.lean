/-
  SinkFenced walked. The conditions: that the operations lie there; lengths.
-/
import Derived.Test.YtboofnkajjnmeaaSoa
namespace Go.Proofs.Ytboofnkajjnmeaa
open Go.RowKit Go.Maps Go.Shelf

/-- What the answer of a call of an epoch tells of the register. -/
def RegOf (s : SK) (e r : Int) (s' : SK) : Prop := (r = 1 ∧ s'.reg = s.reg) ∨ (r ≠ 1 ∧ s'.reg = max s.reg e)
theorem rais_max (s : SK) (e : Int) : (raisC s e).reg = max s.reg e := by
  unfold raisC
  split
  · show e = _; omega
  · omega
theorem suit_ne (s : SK) (t : TX) : suitC s t ≠ 1 := by
  unfold suitC
  repeat' split
  all_goals decide
theorem preE1_ne (s : SK) (t : TX) : preE1 s t ≠ 1 := by
  unfold preE1
  split
  · decide
  · split
    · split <;> decide
    · split
      · split <;> decide
      · exact suit_ne s t
theorem preS1_reg (s : SK) (t : TX) : (preS1 s t).reg = s.reg := by
  unfold preS1
  repeat' split
  all_goals rfl
theorem comE1_ne (s : SK) (e i : Int) : comE1 s e i ≠ 1 := by
  unfold comE1
  split
  · decide
  · split
    · exact suit_ne _ _
    · decide
theorem comS1_reg (s : SK) (e i : Int) : (comS1 s e i).reg = s.reg := by
  unfold comS1
  repeat' split
  all_goals rfl
theorem aboE1_ne (s : SK) (e i : Int) : aboE1 s e i ≠ 1 := by
  unfold aboE1
  split <;> decide
theorem aboS1_reg (s : SK) (e i : Int) : (aboS1 s e i).reg = s.reg := by
  unfold aboS1
  split <;> rfl
theorem fen_reg (s : SK) (e : Int) : RegOf s e (fenE s e) (fenS s e) := by
  unfold fenE fenS
  split
  · refine .inr ⟨?_, rais_max s e⟩
    unfold entC
    split <;> decide
  · exact .inl ⟨rfl, rfl⟩
theorem pre_reg (p : Int) (s : SK) (t : TX) : RegOf s t.ep (preE p s t) (preS p s t) := by
  unfold preE preS
  split
  · split
    · exact .inr ⟨by decide, by omega⟩
    · exact .inr ⟨preE1_ne _ _, by rw [preS1_reg, rais_max]⟩
  · exact .inl ⟨rfl, rfl⟩
theorem com_reg (s : SK) (e i : Int) : RegOf s e (comE s e i) (comS s e i) := by
  unfold comE comS
  split
  · split
    · exact .inr ⟨by decide, by omega⟩
    · exact .inr ⟨comE1_ne _ _ _, by rw [comS1_reg, rais_max]⟩
  · exact .inl ⟨rfl, rfl⟩
theorem abo_reg (s : SK) (e i : Int) : RegOf s e (aboE s e i) (aboS s e i) := by
  unfold aboE aboS
  split
  · split
    · exact .inr ⟨by decide, by omega⟩
    · exact .inr ⟨aboE1_ne _ _ _, by rw [aboS1_reg, rais_max]⟩
  · exact .inl ⟨rfl, rfl⟩
theorem pre_late {p : Int} {s : SK} {t : TX} (hm : mayC p t) (h : t.ep < s.reg) : preE p s t = 150 ∧ preS p s t = s := by
  unfold preE preS
  rw [if_pos hm, if_pos h, if_pos hm, if_pos h]
  exact ⟨rfl, rfl⟩
theorem com_late {s : SK} {e i : Int} (hp : posI e) (hi : posI i) (h : e < s.reg) : comE s e i = 150 ∧ comS s e i = s := by
  unfold comE comS
  rw [if_pos ⟨hp, hi⟩, if_pos h, if_pos ⟨hp, hi⟩, if_pos h]
  exact ⟨rfl, rfl⟩
theorem abo_late {s : SK} {e i : Int} (hp : posI e) (hi : posI i) (h : e < s.reg) : aboE s e i = 150 ∧ aboS s e i = s := by
  unfold aboE aboS
  rw [if_pos ⟨hp, hi⟩, if_pos h, if_pos ⟨hp, hi⟩, if_pos h]
  exact ⟨rfl, rfl⟩
theorem abo_len (s : SK) (e i : Int) : (aboS s e i).done.length ≤ s.done.length := by
  have hr := rais_done s e
  unfold aboS
  split
  · split
    · omega
    · unfold aboS1
      split
      · exact hr
      · exact hr
  · omega
theorem abo_vec (s : SK) (e i : Int) : (aboS s e i).vec.length = s.vec.length := by
  have hr := vec_rais s e
  unfold aboS
  split
  · split
    · rfl
    · unfold aboS1
      split
      · rw [hr]
      · exact congrArg List.length hr
  · rfl
theorem fen_len (s : SK) (e : Int) : (fenS s e).done.length ≤ s.done.length := by
  have hr := rais_done s e
  unfold fenS
  split
  · exact hr
  · omega
theorem fen_vec (s : SK) (e : Int) : (fenS s e).vec.length = s.vec.length := by
  unfold fenS
  split
  · rw [vec_rais]
  · rfl
theorem reg_at {W : World} {B b : Nat} {k : PK} {r : Int} (h : PS B W k) (hb : k.b = b) (hr : k.reg = r) :
    Calls Try.prog 17 #[.pointer (some ⟨b, 0, none⟩)] W fun e w' => e = .returned (.int .i64 r) ∧ w' = W := by
  subst hb hr
  exact register_any h
theorem SI.trans {B : Nat} {Z : World} {k4 k k' : PK} {w w' : World} (h : SI B Z k4 k w) (h2 : SI B w k k' w') : SI B Z k4 k' w' :=
  ⟨h2.ps, h2.sk.trans h.sk, h2.b.trans h.b, h.only.step h2.only h.blk, fun i hi => by
    rcases h2.blk i hi with h9 | h9
    · exact h.blk i h9
    · exact .inr (Nat.le_trans h.only.size h9)⟩
theorem SI.commitF {B b : Nat} {Z : World} {k4 k : PK} {w : World} {e i : Int} (h : SI B Z k4 k w) (hb : k4.b = b) (hp : posI e) (hi : posI i) (hf : e < k4.reg) (hl : k4.done.length < 4398046511104) :
    Calls Try.prog 21 #[.pointer (some ⟨b, 0, none⟩), .agg #[.int .i64 e, .int .i64 i]] w fun r w' => r = .returned (.int .i64 150) ∧ ∃ k', SI B Z k4 k' w' := by
  subst hb
  have h9 := com_late (s := k4.sk) hp hi hf
  rw [← h.b]
  refine (commit_any h.ps (by rw [h.doneLen]; exact hl)).mono ?_
  rintro _ w' ⟨rfl, hput⟩
  rw [h.sk] at hput ⊢
  exact ⟨by rw [h9.1], h.put h9.2 hput⟩
theorem SI.abortF {B b : Nat} {Z : World} {k4 k : PK} {w : World} {e i : Int} (h : SI B Z k4 k w) (hb : k4.b = b) (hp : posI e) (hi : posI i) (hf : e < k4.reg) (hl : k4.done.length < 4398046511104) :
    Calls Try.prog 23 #[.pointer (some ⟨b, 0, none⟩), .agg #[.int .i64 e, .int .i64 i]] w fun r w' => r = .returned (.int .i64 150) ∧ ∃ k', SI B Z k4 k' w' := by
  subst hb
  have h9 := abo_late (s := k4.sk) hp hi hf
  rw [← h.b]
  refine (abort_any h.ps (by rw [h.doneLen]; exact hl)).mono ?_
  rintro _ w' ⟨rfl, hput⟩
  rw [h.sk] at hput ⊢
  exact ⟨by rw [h9.1], h.put h9.2 hput⟩
theorem SI.preF {B b : Nat} {Z : World} {k4 k : PK} {w : World} {x : TP} (h : SI B Z k4 k w) (hb : k4.b = b) (hm : mayC k4.vec.length x.t) (hf : x.t.ep < k4.reg) (hl : k4.done.length < 4398046511104) (hx : x.ok w) (hxb : ∀ i, x.blk i → ¬ k.blk i) :
    Calls Try.prog 20 #[.pointer (some ⟨b, 0, none⟩), .agg x.row] w fun r w' => r = .returned (.int .i64 150) ∧ ∃ k', SI B Z k4 k' w' := by
  subst hb
  have h9 := pre_late (s := k4.sk) hm hf
  rw [← h.b]
  refine (pre_any h.ps hx hxb (by rw [h.doneLen]; omega)).mono ?_
  rintro _ w' ⟨rfl, hput⟩
  rw [h.sk, h.vecLen] at hput
  rw [h.sk, h.vecLen]
  exact ⟨by rw [h9.1], h.put h9.2 hput⟩
set_option maxRecDepth 100000 in
set_option maxHeartbeats 8000000 in
theorem fenced_walk {W : World} {p p2 : Option Addr} {n c n2 c2 : Nat} {os os2 : List OP} (h : OL W p c os) (hn : os.length = n) (hb : n < 2199023255552) (h2 : OL W p2 c2 os2) (hn2 : os2.length = n2) :
    Calls Try.prog 5 #[.slice p n c, .slice p2 n2 c2] W fun e w' => e = .returned (.bool true) ∧ Below W.heap.size W w' := by
  have H := hide h
  have HN := hide hn
  have H2 := hide h2
  have HN2 := hide hn2
  have i1 : os.length ≤ c := h.row.le
  have i2 := h.row.top
  have i3 : os2.length ≤ c2 := h2.row.le
  have i4 := h2.row.top
  rw [hn] at i1
  rw [hn2] at i3
  clear h hn h2 hn2
  go_enter Try.func5, Try.ntmps5
  go_wp2_with fail
  refine live_any.mono ?_
  rintro _ w0 ⟨rfl, b0⟩
  have HB0 := hide b0
  clear b0
  go_wp2_with fail
  refine (new_ok (W := w0) (n := 2) (by omega) (by omega)).mono ?_
  rintro _ w1 ⟨k0, rfl, hp, hs, hb1⟩
  have HP0 : Hid (PS w0.heap.size w1 k0) := hide hp
  have HS0 : Hid (k0.done.length = 0 ∧ k0.vec.length = 2 ∧ k0.reg = 0) := hide ⟨by have h9 : k0.done = _ := congrArg SK.done hs; rw [h9]; rfl, by have h9 : k0.vec = _ := congrArg SK.vec hs; rw [h9]; rfl, by have h9 : k0.reg = _ := congrArg SK.reg hs; rw [h9]; rfl⟩
  have HB1 : Hid (Below w0.heap.size w0 w1) := hide hb1
  clear hp hs hb1
  obtain ⟨kb, hkb⟩ : ∃ kb, k0.b = kb := ⟨_, rfl⟩
  rw [hkb]
  have HKB := hide hkb
  clear hkb
  go_wp2_with fail
  go_loopw [7, 30] (fun m i wr => ∃ (j : Nat) (k : PK), j ≤ n ∧ m = .int .i64 k.reg ∧ i = .int .i64 (j : Int) ∧ Hid (k.b = kb) ∧ Hid (PS w0.heap.size wr k) ∧ Hid (k.done.length ≤ j ∧ k.vec.length = 2) ∧ Hid (Below w0.heap.size w0 wr)) (fun _ i _ => n - (intOf i).toNat)
  case atStart => exact ⟨0, k0, Nat.zero_le _, by rw [HS0.out.2.2], rfl, HKB, HP0, hide ⟨by have := HS0.out; omega, HS0.out.2.1⟩, HB1⟩
  case round =>
    obtain ⟨j, k, hj, rfl, rfl, HKE, HP, HD, HB⟩ := hrel
    rename World => wr
    obtain rfl := HKE.out
    clear HKE
    by_cases hlt : j < n
    · have hl1 : j < os.length := by rw [HN.out]; exact hlt
      obtain ⟨y, hy⟩ : ∃ y, os[j]! = y := ⟨_, rfl⟩
      have HYM : Hid (y ∈ os) := hide (by rw [← hy, getElem!_pos os j hl1]; exact List.getElem_mem hl1)
      have HWR : Hid (Below W.heap.size W wr) := hide (HB0.out.trans (HB.out.mono HB0.out.size))
      obtain ⟨g, o, rfl, a0, a1, a2, a3, a4, a5⟩ := OL.at (H.out.row.below OP.len HWR.out) hl1 hy
      have HOK : Hid (y.x.ok wr ∧ ∀ i, y.x.blk i → ¬ k.blk i) := hide ⟨(H.out.ok y HYM.out).1.later HWR.out, fun i hi hb => by have h1 := (H.out.ok y HYM.out).2 i hi; have h2 := (HP.out.lt hb).1; have := HB0.out.size; omega⟩
      clear hy hl1
      have hlt9 := hlt
      go_upto_region 10 with fail
      obtain ⟨X, hX⟩ : ∃ X, X = wr.alloc (.cells #[.int .i64 y.d, .int .i64 y.x.t.ep, .int .i64 y.x.t.id, .int .i64 y.x.t.beg, .slice y.x.rp y.x.t.rs.length y.x.rc, .slice y.x.vp y.x.t.vs.length y.x.vc] 36 (0, 0)) := ⟨_, rfl⟩
      rw [← hX]
      have bX : Below wr.heap.size wr X := by rw [hX]; exact alloc_below _ _
      obtain ⟨oB, hoB⟩ : ∃ oB, wr.heap.size = oB := ⟨_, rfl⟩
      have HO : Hid (X.heap[oB]? = some (.cells #[.int .i64 y.d, .int .i64 y.x.t.ep, .int .i64 y.x.t.id, .int .i64 y.x.t.beg, .slice y.x.rp y.x.t.rs.length y.x.rc, .slice y.x.vp y.x.t.vs.length y.x.vc] 36 (0, 0))) := hide (by rw [hX, ← hoB]; exact heap_alloc_new wr _)
      have HPX := hide (HP.out.later bX)
      have HOX : Hid (y.x.ok X ∧ ∀ i, y.x.blk i → ¬ k.blk i) := hide ⟨HOK.out.1.later bX, HOK.out.2⟩
      have HBX : Hid (Below w0.heap.size w0 X) := hide (HB.out.trans (bX.mono HB.out.size))
      have HNO : Hid (¬ k.blk oB) := hide (fun hi => by have := (HP.out.lt hi).2; omega)
      try rw [hoB]
      clear hX bX hoB a0 a1 a2 a3 a4 a5 HP HOK HB HWR
      have u0 := cellB HO.out (i := 0) rfl
      have u1 := cellB HO.out (i := 1) rfl
      have u2 := cellB HO.out (i := 2) rfl
      have u3 := cellB HO.out (i := 3) rfl
      have u4 := cellB HO.out (i := 4) rfl
      have u5 := cellB HO.out (i := 5) rfl
      by_cases h0 : y.d = 0
      · have d0 : (y.d == 0) = true := by simpa using h0
        clear h0
        go_wp2_with fail
        refine (fence_any HPX.out).mono ?_
        rintro _ w3 ⟨rfl, hput⟩
        obtain ⟨k3, r1, r2, r3, r4, r5⟩ := hput
        have HP3 := hide r1
        have HRG : Hid (RegOf k.sk y.x.t.ep (fenE k.sk y.x.t.ep) k3.sk) := hide (by rw [r2]; exact fen_reg k.sk y.x.t.ep)
        have HD3 : Hid (k3.done.length ≤ j + 1 ∧ k3.vec.length = 2) := hide (by
          have e1 : k3.done = _ := congrArg SK.done r2
          have e2 : k3.vec = _ := congrArg SK.vec r2
          have h9 := fen_len k.sk y.x.t.ep
          have h8 := fen_vec k.sk y.x.t.ep
          have h7 : k.sk.done.length ≤ j := HD.out.1
          have h6 : k.sk.vec.length = 2 := HD.out.2
          rw [e1, e2]
          omega)
        have HB3 : Hid (Below w0.heap.size w0 w3) := hide (HBX.out.trans (r4.below HBX.out.size (fun i hi => (HPX.out.lt hi).1)))
        have HK3 : Hid (k3.b = k.b) := hide r3
        have HO3 := hide (r4.obj HO.out (fun hi => HNO.out hi))
        clear r1 r2 r3 r4 r5
        try clear u0 u1 u2 u3 u4 u5
        obtain ⟨r, hr⟩ : ∃ r, fenE k.sk y.x.t.ep = r := ⟨_, rfl⟩
        rw [hr] at HRG ⊢
        clear hr
        have u1 := cellB HO3.out (i := 1) rfl
        rcases HRG.out with ⟨hr1, hr2⟩ | ⟨hr1, hr2⟩
        · have d1 : (r != 1) = false := by simpa using hr1
          have HR2 : Hid (k3.reg = k.reg) := hide hr2
          clear hr1 hr2
          go_wp2_with fail
          refine (reg_at HP3.out HK3.out HR2.out).mono ?_
          rintro _ _ ⟨rfl, rfl⟩
          have d2 : (k.reg != k.reg) = false := by simp
          clear u1
          go_wp2
          exact ⟨⟨j + 1, k3, hlt9, by rw [HR2.out], by first | rfl | go_num, HK3, HP3, HD3, HB3⟩, by simp [intOf]; omega⟩
        · have d1 : (r != 1) = true := by simpa using hr1
          have HR2 : Hid (k3.reg = max k.reg y.x.t.ep) := hide hr2
          clear hr1 hr2
          go_wp2_with fail
          refine (reg_at HP3.out HK3.out HR2.out).mono ?_
          rintro _ _ ⟨rfl, rfl⟩
          have d2 : (max k.reg y.x.t.ep != max k.reg y.x.t.ep) = false := by simp
          clear u1
          go_wp2
          exact ⟨⟨j + 1, k3, hlt9, by rw [HR2.out], by first | rfl | go_num, HK3, HP3, HD3, HB3⟩, by simp [intOf]; omega⟩
      · have d0 : (y.d == 0) = false := by simpa using h0
        by_cases h1 : y.d = 1
        · have d1 : (y.d == 1) = true := by simpa using h1
          clear h0 h1
          go_wp2_with fail
          refine (pre_any (x := y.x) HPX.out HOX.out.1 HOX.out.2 (by have := HD.out; omega)).mono ?_
          rintro _ w3 ⟨rfl, hput⟩
          obtain ⟨k3, r1, r2, r3, r4, r5⟩ := hput
          have HP3 := hide r1
          have HRG : Hid (RegOf k.sk y.x.t.ep (preE k.vec.length k.sk y.x.t) k3.sk) := hide (by rw [r2]; exact pre_reg (k.vec.length : Int) k.sk y.x.t)
          have HD3 : Hid (k3.done.length ≤ j + 1 ∧ k3.vec.length = 2) := hide (by
            have e1 : k3.done = _ := congrArg SK.done r2
            have e2 : k3.vec = _ := congrArg SK.vec r2
            have h9 := pre_len (k.vec.length : Int) k.sk y.x.t
            have h8 := pre_vec (k.vec.length : Int) k.sk y.x.t
            have h7 : k.sk.done.length ≤ j := HD.out.1
            have h6 : k.sk.vec.length = 2 := HD.out.2
            rw [e1, e2]
            omega)
          have HB3 : Hid (Below w0.heap.size w0 w3) := hide (HBX.out.trans (r4.below HBX.out.size (fun i hi => (HPX.out.lt hi).1)))
          have HK3 : Hid (k3.b = k.b) := hide r3
          have HO3 := hide (r4.obj HO.out (fun hi => HNO.out hi))
          clear r1 r2 r3 r4 r5
          try clear u0 u1 u2 u3 u4 u5
          obtain ⟨r, hr⟩ : ∃ r, preE k.vec.length k.sk y.x.t = r := ⟨_, rfl⟩
          rw [hr] at HRG ⊢
          clear hr
          have u1 := cellB HO3.out (i := 1) rfl
          rcases HRG.out with ⟨hr1, hr2⟩ | ⟨hr1, hr2⟩
          · have d1 : (r != 1) = false := by simpa using hr1
            have HR2 : Hid (k3.reg = k.reg) := hide hr2
            clear hr1 hr2
            go_wp2_with fail
            refine (reg_at HP3.out HK3.out HR2.out).mono ?_
            rintro _ _ ⟨rfl, rfl⟩
            have d2 : (k.reg != k.reg) = false := by simp
            clear u1
            go_wp2
            exact ⟨⟨j + 1, k3, hlt9, by rw [HR2.out], by first | rfl | go_num, HK3, HP3, HD3, HB3⟩, by simp [intOf]; omega⟩
          · have d1 : (r != 1) = true := by simpa using hr1
            have HR2 : Hid (k3.reg = max k.reg y.x.t.ep) := hide hr2
            clear hr1 hr2
            go_wp2_with fail
            refine (reg_at HP3.out HK3.out HR2.out).mono ?_
            rintro _ _ ⟨rfl, rfl⟩
            have d2 : (max k.reg y.x.t.ep != max k.reg y.x.t.ep) = false := by simp
            clear u1
            go_wp2
            exact ⟨⟨j + 1, k3, hlt9, by rw [HR2.out], by first | rfl | go_num, HK3, HP3, HD3, HB3⟩, by simp [intOf]; omega⟩
        · have d1 : (y.d == 1) = false := by simpa using h1
          by_cases h2 : y.d = 2
          · have d2 : (y.d == 2) = true := by simpa using h2
            clear h0 h1 h2
            go_wp2_with fail
            refine key_any.mono ?_
            rintro _ wK ⟨rfl, b3⟩
            have HPK := hide (HPX.out.later b3)
            have HOK3 := hide (below_box b3 HO.out)
            have HBK : Hid (Below w0.heap.size w0 wK) := hide (HBX.out.trans (b3.mono HBX.out.size))
            clear b3 u0 u1 u2 u3 u4 u5
            go_wp2_with fail
            refine (commit_any HPK.out (by have := HD.out; omega)).mono ?_
            rintro _ w3 ⟨rfl, hput⟩
            obtain ⟨k3, r1, r2, r3, r4, r5⟩ := hput
            have HP3 := hide r1
            have HRG : Hid (RegOf k.sk y.x.t.ep (comE k.sk y.x.t.ep y.x.t.id) k3.sk) := hide (by rw [r2]; exact com_reg k.sk y.x.t.ep y.x.t.id)
            have HD3 : Hid (k3.done.length ≤ j + 1 ∧ k3.vec.length = 2) := hide (by
              have e1 : k3.done = _ := congrArg SK.done r2
              have e2 : k3.vec = _ := congrArg SK.vec r2
              have h9 := com_len k.sk y.x.t.ep y.x.t.id
              have h8 := com_vec HPK.out.ok y.x.t.ep y.x.t.id
              have h7 : k.sk.done.length ≤ j := HD.out.1
              have h6 : k.sk.vec.length = 2 := HD.out.2
              rw [e1, e2]
              omega)
            have HB3 : Hid (Below w0.heap.size w0 w3) := hide (HBK.out.trans (r4.below HBK.out.size (fun i hi => (HPK.out.lt hi).1)))
            have HK3 : Hid (k3.b = k.b) := hide r3
            have HO3 := hide (r4.obj HOK3.out (fun hi => HNO.out hi))
            clear r1 r2 r3 r4 r5
            try clear u0 u1 u2 u3 u4 u5
            obtain ⟨r, hr⟩ : ∃ r, comE k.sk y.x.t.ep y.x.t.id = r := ⟨_, rfl⟩
            rw [hr] at HRG ⊢
            clear hr
            have u1 := cellB HO3.out (i := 1) rfl
            rcases HRG.out with ⟨hr1, hr2⟩ | ⟨hr1, hr2⟩
            · have d1 : (r != 1) = false := by simpa using hr1
              have HR2 : Hid (k3.reg = k.reg) := hide hr2
              clear hr1 hr2
              go_wp2_with fail
              refine (reg_at HP3.out HK3.out HR2.out).mono ?_
              rintro _ _ ⟨rfl, rfl⟩
              have d2 : (k.reg != k.reg) = false := by simp
              clear u1
              go_wp2
              exact ⟨⟨j + 1, k3, hlt9, by rw [HR2.out], by first | rfl | go_num, HK3, HP3, HD3, HB3⟩, by simp [intOf]; omega⟩
            · have d1 : (r != 1) = true := by simpa using hr1
              have HR2 : Hid (k3.reg = max k.reg y.x.t.ep) := hide hr2
              clear hr1 hr2
              go_wp2_with fail
              refine (reg_at HP3.out HK3.out HR2.out).mono ?_
              rintro _ _ ⟨rfl, rfl⟩
              have d2 : (max k.reg y.x.t.ep != max k.reg y.x.t.ep) = false := by simp
              clear u1
              go_wp2
              exact ⟨⟨j + 1, k3, hlt9, by rw [HR2.out], by first | rfl | go_num, HK3, HP3, HD3, HB3⟩, by simp [intOf]; omega⟩
          · have d2 : (y.d == 2) = false := by simpa using h2
            by_cases h3 : y.d = 3
            · have d3 : (y.d == 3) = true := by simpa using h3
              clear h0 h1 h2 h3
              go_wp2_with fail
              refine key_any.mono ?_
              rintro _ wK ⟨rfl, b3⟩
              have HPK := hide (HPX.out.later b3)
              have HOK3 := hide (below_box b3 HO.out)
              have HBK : Hid (Below w0.heap.size w0 wK) := hide (HBX.out.trans (b3.mono HBX.out.size))
              clear b3 u0 u1 u2 u3 u4 u5
              go_wp2_with fail
              refine (abort_any HPK.out (by have := HD.out; omega)).mono ?_
              rintro _ w3 ⟨rfl, hput⟩
              obtain ⟨k3, r1, r2, r3, r4, r5⟩ := hput
              have HP3 := hide r1
              have HRG : Hid (RegOf k.sk y.x.t.ep (aboE k.sk y.x.t.ep y.x.t.id) k3.sk) := hide (by rw [r2]; exact abo_reg k.sk y.x.t.ep y.x.t.id)
              have HD3 : Hid (k3.done.length ≤ j + 1 ∧ k3.vec.length = 2) := hide (by
                have e1 : k3.done = _ := congrArg SK.done r2
                have e2 : k3.vec = _ := congrArg SK.vec r2
                have h9 := abo_len k.sk y.x.t.ep y.x.t.id
                have h8 := abo_vec k.sk y.x.t.ep y.x.t.id
                have h7 : k.sk.done.length ≤ j := HD.out.1
                have h6 : k.sk.vec.length = 2 := HD.out.2
                rw [e1, e2]
                omega)
              have HB3 : Hid (Below w0.heap.size w0 w3) := hide (HBK.out.trans (r4.below HBK.out.size (fun i hi => (HPK.out.lt hi).1)))
              have HK3 : Hid (k3.b = k.b) := hide r3
              have HO3 := hide (r4.obj HOK3.out (fun hi => HNO.out hi))
              clear r1 r2 r3 r4 r5
              try clear u0 u1 u2 u3 u4 u5
              obtain ⟨r, hr⟩ : ∃ r, aboE k.sk y.x.t.ep y.x.t.id = r := ⟨_, rfl⟩
              rw [hr] at HRG ⊢
              clear hr
              have u1 := cellB HO3.out (i := 1) rfl
              rcases HRG.out with ⟨hr1, hr2⟩ | ⟨hr1, hr2⟩
              · have d1 : (r != 1) = false := by simpa using hr1
                have HR2 : Hid (k3.reg = k.reg) := hide hr2
                clear hr1 hr2
                go_wp2_with fail
                refine (reg_at HP3.out HK3.out HR2.out).mono ?_
                rintro _ _ ⟨rfl, rfl⟩
                have d2 : (k.reg != k.reg) = false := by simp
                clear u1
                go_wp2
                exact ⟨⟨j + 1, k3, hlt9, by rw [HR2.out], by first | rfl | go_num, HK3, HP3, HD3, HB3⟩, by simp [intOf]; omega⟩
              · have d1 : (r != 1) = true := by simpa using hr1
                have HR2 : Hid (k3.reg = max k.reg y.x.t.ep) := hide hr2
                clear hr1 hr2
                go_wp2_with fail
                refine (reg_at HP3.out HK3.out HR2.out).mono ?_
                rintro _ _ ⟨rfl, rfl⟩
                have d2 : (max k.reg y.x.t.ep != max k.reg y.x.t.ep) = false := by simp
                clear u1
                go_wp2
                exact ⟨⟨j + 1, k3, hlt9, by rw [HR2.out], by first | rfl | go_num, HK3, HP3, HD3, HB3⟩, by simp [intOf]; omega⟩
            · have d3 : (y.d == 3) = false := by simpa using h3
              clear h0 h1 h2 h3
              go_wp2
              exact ⟨⟨j + 1, k, hlt9, rfl, by first | rfl | go_num, hide rfl, HPX, hide ⟨by have := HD.out; omega, HD.out.2⟩, HBX⟩, by simp [intOf]; omega⟩
    · obtain rfl : j = n := by omega
      go_wp2_with fail
      refine (rnew_ok (W := wr) (n := 2) (by omega) (by omega)).mono ?_
      rintro _ z1 ⟨rb, qr, rfl, hrp, hrs, b6⟩
      have HPZ := hide (HP.out.later b6)
      have HRB : Hid (z1.cell? ⟨rb, 0, none⟩ = some (.int .i64 2)) := hide (cellB hrp.box rfl)
      have HNR : Hid (¬ k.blk rb) := hide (fun hi => by have := (HP.out.lt hi).2; have := hrp.ge; omega)
      have HBZ : Hid (Below w0.heap.size w0 z1) := hide (HB.out.trans (b6.mono HB.out.size))
      clear b6 hrp hrs
      have HDL : Hid (k.done.length < 4398046511104 ∧ k.vec.length = 2) := hide ⟨by have := HD.out; omega, HD.out.2⟩
      clear HD HB HP
      go_wp2_with fail
      refine (plain_any HPZ.out HDL.out.1).mono ?_
      rintro _ w5 ⟨q, rfl, hq, hqs, b5⟩
      unfold QK.row
      have HP5 := hide (HPZ.out.later b5)
      have HRB5 : Hid (w5.cell? ⟨rb, 0, none⟩ = some (.int .i64 2)) := hide (cell_later b5 HRB.out)
      have HQ5 := hide hq
      have HQS := hide hqs
      have HB5 : Hid (Below w0.heap.size w0 w5) := hide (HBZ.out.trans (b5.mono HBZ.out.size))
      have HKL : Hid (∀ i, k.blk i → i < z1.heap.size) := hide (fun i hi => (HPZ.out.lt hi).2)
      clear hq hqs b5 HBZ HPZ HRB
      go_upto_region 27 with fail
      obtain ⟨Y, hY⟩ : ∃ Y, Y = w5.alloc (.cells #[.int .i64 q.reg, .slice q.op q.out.length q.oc, .slice q.vp q.vec.length q.vc, .slice q.dp q.done.length q.dc, .slice q.pp q.ts.length q.pc] 43 (0, 0)) := ⟨_, rfl⟩
      rw [← hY]
      have bY : Below w5.heap.size w5 Y := by rw [hY]; exact alloc_below _ _
      obtain ⟨pB, hpB⟩ : ∃ pB, w5.heap.size = pB := ⟨_, rfl⟩
      have HSY : Hid (Y.heap[pB]? = some (.cells #[.int .i64 q.reg, .slice q.op q.out.length q.oc, .slice q.vp q.vec.length q.vc, .slice q.dp q.done.length q.dc, .slice q.pp q.ts.length q.pc] 43 (0, 0))) := hide (by rw [hY, ← hpB]; exact heap_alloc_new w5 _)
      have HNP : Hid (¬ k.blk pB) := hide (fun hi => by have := (HP5.out.lt hi).2; omega)
      have HRBY : Hid (Y.cell? ⟨rb, 0, none⟩ = some (.int .i64 2)) := hide (cell_later bY HRB5.out)
      have HQY := hide (HQ5.out.later bY)
      have HBY : Hid (Below w0.heap.size w0 Y) := hide (HB5.out.trans (bY.mono HB5.out.size))
      have HIY : Hid (SI w0.heap.size Y k k Y) := hide (SI.start (HP5.out.later bY))
      try rw [hpB]
      clear hY hpB bY HB5 HP5 HQ5 HRB5
      go_wp2_with fail
      go_loopw [81] (fun i wr => ∃ (j : Nat) (kk : PK), j ≤ n2 ∧ i = .int .i64 (j : Int) ∧ Hid (SI w0.heap.size Y k kk wr)) (fun i _ => n2 - (intOf i).toNat)
      case atStart => exact ⟨0, k, Nat.zero_le _, rfl, HIY⟩
      case round =>
        obtain ⟨j2, kk, hj2, rfl, HI⟩ := hrel
        rename World => wr
        have HP := hide HI.out.ps
        have HB : Hid (Below w0.heap.size w0 wr) := hide (HBY.out.trans (HI.out.only.below HBY.out.size (fun i hi => (HIY.out.ps.lt hi).1)))
        by_cases hlt : j2 < n2
        · have hl1 : j2 < os2.length := by rw [HN2.out]; exact hlt
          obtain ⟨y, hy⟩ : ∃ y, os2[j2]! = y := ⟨_, rfl⟩
          have HYM : Hid (y ∈ os2) := hide (by rw [← hy, getElem!_pos os2 j2 hl1]; exact List.getElem_mem hl1)
          have HWR : Hid (Below W.heap.size W wr) := hide (HB0.out.trans (HB.out.mono HB0.out.size))
          obtain ⟨g, o, rfl, a0, a1, a2, a3, a4, a5⟩ := OL.at (H2.out.row.below OP.len HWR.out) hl1 hy
          have HOK : Hid (y.x.ok wr ∧ ∀ i, y.x.blk i → ¬ kk.blk i) := hide ⟨(H2.out.ok y HYM.out).1.later HWR.out, fun i hi hb => by have h1 := (H2.out.ok y HYM.out).2 i hi; have h2 := (HP.out.lt hb).1; have := HB0.out.size; omega⟩
          clear hy hl1
          have hlt9 := hlt
          go_upto_region 30 with fail
          obtain ⟨X, hX⟩ : ∃ X, X = wr.alloc (.cells #[.int .i64 y.d, .int .i64 y.x.t.ep, .int .i64 y.x.t.id, .int .i64 y.x.t.beg, .slice y.x.rp y.x.t.rs.length y.x.rc, .slice y.x.vp y.x.t.vs.length y.x.vc] 36 (0, 0)) := ⟨_, rfl⟩
          rw [← hX]
          have bX : Below wr.heap.size wr X := by rw [hX]; exact alloc_below _ _
          obtain ⟨oB, hoB⟩ : ∃ oB, wr.heap.size = oB := ⟨_, rfl⟩
          have HO : Hid (X.heap[oB]? = some (.cells #[.int .i64 y.d, .int .i64 y.x.t.ep, .int .i64 y.x.t.id, .int .i64 y.x.t.beg, .slice y.x.rp y.x.t.rs.length y.x.rc, .slice y.x.vp y.x.t.vs.length y.x.vc] 36 (0, 0))) := hide (by rw [hX, ← hoB]; exact heap_alloc_new wr _)
          have HPX := hide (HP.out.later bX)
          have HOX : Hid (y.x.ok X ∧ ∀ i, y.x.blk i → ¬ kk.blk i) := hide ⟨HOK.out.1.later bX, HOK.out.2⟩
          have HBX : Hid (Below w0.heap.size w0 X) := hide (HB.out.trans (bX.mono HB.out.size))
          have HNO : Hid (¬ kk.blk oB) := hide (fun hi => by have := (HP.out.lt hi).2; omega)
          have HIX : Hid (SI w0.heap.size Y k kk X) := hide (HI.out.later bX)
          try rw [hoB]
          clear hX bX hoB a0 a1 a2 a3 a4 a5 HP HOK HB HWR HI
          have u0 := cellB HO.out (i := 0) rfl
          have u1 := cellB HO.out (i := 1) rfl
          have u2 := cellB HO.out (i := 2) rfl
          have u3 := cellB HO.out (i := 3) rfl
          have u4 := cellB HO.out (i := 4) rfl
          have u5 := cellB HO.out (i := 5) rfl
          by_cases g1 : y.x.t.ep ≥ k.reg
          · have e1 : decide (y.x.t.ep ≥ k.reg) = true := decide_eq_true g1
            clear g1
            go_wp2
            exact ⟨⟨j2 + 1, kk, hlt9, by first | rfl | go_num, HIX⟩, by simp [intOf]; omega⟩
          · have e1 : decide (y.x.t.ep ≥ k.reg) = false := decide_eq_false g1
            by_cases g2 : y.x.t.ep < 1
            · have e2 : decide (y.x.t.ep < 1) = true := decide_eq_true g2
              clear g1 g2
              go_wp2
              exact ⟨⟨j2 + 1, kk, hlt9, by first | rfl | go_num, HIX⟩, by simp [intOf]; omega⟩
            · have e2 : decide (y.x.t.ep < 1) = false := decide_eq_false g2
              by_cases g3 : y.x.t.id < 1
              · have e3 : decide (y.x.t.id < 1) = true := decide_eq_true g3
                clear g1 g2 g3
                go_wp2
                exact ⟨⟨j2 + 1, kk, hlt9, by first | rfl | go_num, HIX⟩, by simp [intOf]; omega⟩
              · have e3 : decide (y.x.t.id < 1) = false := decide_eq_false g3
                by_cases g4 : y.x.t.id > 9007199254740992
                · have e4 : decide (y.x.t.id > 9007199254740992) = true := decide_eq_true g4
                  clear g1 g2 g3 g4
                  go_wp2
                  exact ⟨⟨j2 + 1, kk, hlt9, by first | rfl | go_num, HIX⟩, by simp [intOf]; omega⟩
                · have e4 : decide (y.x.t.id > 9007199254740992) = false := decide_eq_false g4
                  have HPE : Hid (posI y.x.t.ep ∧ posI y.x.t.id ∧ y.x.t.ep < kk.reg) := hide (by
                    have h9 : kk.reg = k.reg := congrArg SK.reg HIX.out.sk
                    have h8 : k.reg ≤ 9007199254740992 := HIY.out.ps.ok.reg.2
                    unfold posI
                    omega)
                  clear g1 g2 g3 g4
                  have HKB2 : Hid (kk.b = k.b) := hide HIX.out.b
                  have HDK : Hid (kk.done.length < 4398046511104 ∧ kk.vec.length = 2) := hide ⟨by rw [HIX.out.doneLen]; exact HDL.out.1, by rw [HIX.out.vecLen]; exact HDL.out.2⟩
                  have HS0' : Hid (SI w0.heap.size X kk kk X) := hide (SI.start HPX.out)
                  have HRX : Hid (X.cell? ⟨rb, 0, none⟩ = some (.int .i64 2)) := hide (HIX.out.only.cell HRBY.out HNR.out)
                  by_cases hm : mayC 2 y.x.t
                  · have HM := hide hm
                    clear hm
                    go_wp2_with fail
                    refine (rMay_any HRX.out HOX.out.1.v rfl rfl (decide_eq_true HM.out)).mono ?_
                    rintro _ x1 ⟨rfl, b1⟩
                    have HS1 := hide (HS0'.out.later b1)
                    have HO1 := hide (below_box b1 HO.out)
                    have HBX1 := hide b1
                    clear b1
                    clear u0 u1 u2 u3 u4 u5
                    have u0 := cellB HO1.out (i := 0) rfl
                    have u1 := cellB HO1.out (i := 1) rfl
                    have u2 := cellB HO1.out (i := 2) rfl
                    have u3 := cellB HO1.out (i := 3) rfl
                    have u4 := cellB HO1.out (i := 4) rfl
                    have u5 := cellB HO1.out (i := 5) rfl
                    go_wp2_with fail
                    refine (HS1.out.preF (x := y.x) HKB2.out (by rw [HDK.out.2]; exact HM.out) HPE.out.2.2 HDK.out.1 (HOX.out.1.later HBX1.out) HOX.out.2).mono ?_
                    rintro _ x2 ⟨rfl, k2, hi2⟩
                    have HS2 := hide hi2
                    have HO2 := hide (hi2.only.obj HO.out (fun hi => HNO.out hi))
                    clear hi2
                    clear u0 u1 u2 u3 u4 u5
                    have u0 := cellB HO2.out (i := 0) rfl
                    have u1 := cellB HO2.out (i := 1) rfl
                    have u2 := cellB HO2.out (i := 2) rfl
                    have u3 := cellB HO2.out (i := 3) rfl
                    have u4 := cellB HO2.out (i := 4) rfl
                    have u5 := cellB HO2.out (i := 5) rfl
                    go_wp2_with fail
                    refine key_any.mono ?_
                    rintro _ x3 ⟨rfl, b3⟩
                    have HS3 := hide (HS2.out.later b3)
                    have HO3 := hide (below_box b3 HO2.out)
                    clear b3 u0 u1 u2 u3 u4 u5
                    go_wp2_with fail
                    refine (HS3.out.commitF HKB2.out HPE.out.1 HPE.out.2.1 HPE.out.2.2 HDK.out.1).mono ?_
                    rintro _ x4 ⟨rfl, k4, hi4⟩
                    have HS4 := hide hi4
                    have HO4 := hide (hi4.only.obj HO.out (fun hi => HNO.out hi))
                    clear hi4
                    have u0 := cellB HO4.out (i := 0) rfl
                    have u1 := cellB HO4.out (i := 1) rfl
                    have u2 := cellB HO4.out (i := 2) rfl
                    have u3 := cellB HO4.out (i := 3) rfl
                    have u4 := cellB HO4.out (i := 4) rfl
                    have u5 := cellB HO4.out (i := 5) rfl
                    go_wp2_with fail
                    refine key_any.mono ?_
                    rintro _ x5 ⟨rfl, b5⟩
                    have HS5 := hide (HS4.out.later b5)
                    clear b5 u0 u1 u2 u3 u4 u5
                    go_wp2_with fail
                    refine (HS5.out.abortF HKB2.out HPE.out.1 HPE.out.2.1 HPE.out.2.2 HDK.out.1).mono ?_
                    rintro _ x6 ⟨rfl, k6, hi6⟩
                    have HS6 : Hid (SI w0.heap.size Y k k6 x6) := hide (HIX.out.trans hi6)
                    clear hi6
                    go_wp2
                    exact ⟨⟨j2 + 1, k6, hlt9, by first | rfl | go_num, HS6⟩, by simp [intOf]; omega⟩
                  · have HM := hide hm
                    clear hm
                    go_wp2_with fail
                    refine (rMay_any HRX.out HOX.out.1.v rfl rfl (decide_eq_false HM.out)).mono ?_
                    rintro _ x1 ⟨rfl, b1⟩
                    have HS1 := hide (HS0'.out.later b1)
                    have HO1 := hide (below_box b1 HO.out)
                    have HBX1 := hide b1
                    clear b1
                    clear u0 u1 u2 u3 u4 u5
                    have u0 := cellB HO1.out (i := 0) rfl
                    have u1 := cellB HO1.out (i := 1) rfl
                    have u2 := cellB HO1.out (i := 2) rfl
                    have u3 := cellB HO1.out (i := 3) rfl
                    have u4 := cellB HO1.out (i := 4) rfl
                    have u5 := cellB HO1.out (i := 5) rfl
                    have HS2 := HS1
                    have HO2 := HO1
                    go_wp2_with fail
                    refine key_any.mono ?_
                    rintro _ x3 ⟨rfl, b3⟩
                    have HS3 := hide (HS2.out.later b3)
                    have HO3 := hide (below_box b3 HO2.out)
                    clear b3 u0 u1 u2 u3 u4 u5
                    go_wp2_with fail
                    refine (HS3.out.commitF HKB2.out HPE.out.1 HPE.out.2.1 HPE.out.2.2 HDK.out.1).mono ?_
                    rintro _ x4 ⟨rfl, k4, hi4⟩
                    have HS4 := hide hi4
                    have HO4 := hide (hi4.only.obj HO.out (fun hi => HNO.out hi))
                    clear hi4
                    have u0 := cellB HO4.out (i := 0) rfl
                    have u1 := cellB HO4.out (i := 1) rfl
                    have u2 := cellB HO4.out (i := 2) rfl
                    have u3 := cellB HO4.out (i := 3) rfl
                    have u4 := cellB HO4.out (i := 4) rfl
                    have u5 := cellB HO4.out (i := 5) rfl
                    go_wp2_with fail
                    refine key_any.mono ?_
                    rintro _ x5 ⟨rfl, b5⟩
                    have HS5 := hide (HS4.out.later b5)
                    clear b5 u0 u1 u2 u3 u4 u5
                    go_wp2_with fail
                    refine (HS5.out.abortF HKB2.out HPE.out.1 HPE.out.2.1 HPE.out.2.2 HDK.out.1).mono ?_
                    rintro _ x6 ⟨rfl, k6, hi6⟩
                    have HS6 : Hid (SI w0.heap.size Y k k6 x6) := hide (HIX.out.trans hi6)
                    clear hi6
                    go_wp2
                    exact ⟨⟨j2 + 1, k6, hlt9, by first | rfl | go_num, HS6⟩, by simp [intOf]; omega⟩
        · obtain rfl : j2 = n2 := by omega
          have v0 := cellB HSY.out (i := 0) rfl
          have v1 := cellB HSY.out (i := 1) rfl
          have v2 := cellB HSY.out (i := 2) rfl
          have v3 := cellB HSY.out (i := 3) rfl
          have v4 := cellB HSY.out (i := 4) rfl
          have HI0 : Hid (SI w0.heap.size Y k kk wr.drew) := hide (HI.out.later (Below.refl _ wr).drew)
          go_upto_region 34 with fail
          refine wp_region_held_drew (S := fun w9 => Only k.blk Y w9) (by kernel_rfl) HI0.out.only (fun hHeld => ?_)
          refine wpAnyH_take (i := 0) (oi := _) (v := ?_) rfl (by kernel_rfl) (by kernel_rfl) (by kernel_rfl) (fun _ _ _ h => h) (Or.inl ⟨by kernel_rfl, ?_⟩) (by assumption) ?_
          rotate_left
          · intro w hSw
            have m0 := hSw.cell v0 HNP.out
            have m1 := hSw.cell v1 HNP.out
            have m2 := hSw.cell v2 HNP.out
            have m3 := hSw.cell v3 HNP.out
            have m4 := hSw.cell v4 HNP.out
            go_simp
            all_goals with_reducible rfl
          simp only [Act.put]
          refine wpAnyH_take (i := 2) (oi := _) (v := ?_) rfl (by kernel_rfl) (by kernel_rfl) (by kernel_rfl) (fun _ _ _ h => h) (Or.inl ⟨by kernel_rfl, ?_⟩) (by assumption) ?_
          rotate_left
          · intro w hSw
            have m0 := hSw.cell v0 HNP.out
            have m1 := hSw.cell v1 HNP.out
            have m2 := hSw.cell v2 HNP.out
            have m3 := hSw.cell v3 HNP.out
            have m4 := hSw.cell v4 HNP.out
            go_simp
            all_goals with_reducible rfl
          simp only [Act.put]
          refine wpAnyH_ready (rs := [1]) (by kernel_rfl) (by simp) ?_
          refine AllReadyH.cons (o := _) rfl (fun K hK => ?_) AllReadyH.nil
          go_simp
          refine (HI0.out.plainC HDL.out.1).mono ?_
          rintro _ x1 ⟨q2, rfl, hq2, hqs2, b0⟩
          have HI1 := hide (HI0.out.later b0)
          clear b0
          have HQ2 := hide hq2
          have HQS2 := hide hqs2
          clear hq2 hqs2
          go_wp2_with fail
          refine hK.out _ _ HI1.out.only (fun hHeld => ?_)
          clear hK
          refine wpAnyH_ready (rs := [3]) (by kernel_rfl) (by simp) ?_
          refine AllReadyH.cons (o := _) rfl (fun K hK => ?_) AllReadyH.nil
          go_simp
          refine (rsame_yes (q1 := q2) (q2 := q) HQ2.out.vis (HQY.out.only HI1.out.only HKL.out).vis (HQS2.out.trans HQS.out.symm)).mono ?_
          rintro _ x2 ⟨rfl, b0⟩
          have HI2 := hide (HI1.out.later b0)
          clear b0
          go_wp2_with fail
          refine hK.out _ _ HI2.out.only (fun hHeld => ?_)
          clear hK
          refine wpAnyH_ready (rs := [4]) (by kernel_rfl) (by simp) ?_
          refine AllReadyH.cons (o := _) rfl (fun K hK => ?_) AllReadyH.nil
          go_simp
          refine hK.out _ _ HI2.out.only (fun hHeld => ?_)
          clear hK
          refine wpAnyH_done (by kernel_rfl) ?_ _
          have HBE : Hid (Below w0.heap.size w0 x2) := hide (HBY.out.trans (HI2.out.only.below HBY.out.size (fun i hi => (HIY.out.ps.lt hi).1)))
          clear v0 v1 v2 v3 v4
          go_wp2
          go_ret
          exact ⟨rfl, HB0.out.trans (HBE.out.mono HB0.out.size)⟩
end Go.Proofs.Ytboofnkajjnmeaa
