/-
  EdgeDoes walked: whatever is put into and taken from a queue of any room. The condition: that the operations lie there.
-/
import Derived.Test.YtmmdgffgnpnmeaaEdm
namespace Go.Proofs.Ytmmdgffgnpnmeaa
open Go.RowKit Go.Shelf

theorem Below.step {B : Nat} {A X Y : World} (h : Below B A X) (hb : Below X.heap.size X Y) (hB : B ≤ X.heap.size) : Below B A Y := h.trans (hb.mono hB)
structure Six (W : World) (b : Nat) (d0 d1 d2 d3 d4 d5 : Value) : Prop where
  c0 : W.cell? ⟨b, 0, none⟩ = some d0
  c1 : W.cell? ⟨b, 1, none⟩ = some d1
  c2 : W.cell? ⟨b, 2, none⟩ = some d2
  c3 : W.cell? ⟨b, 3, none⟩ = some d3
  c4 : W.cell? ⟨b, 4, none⟩ = some d4
  c5 : W.cell? ⟨b, 5, none⟩ = some d5
theorem six {W : World} {b : Nat} {t : TypeId} {d0 d1 d2 d3 d4 d5 : Value} (h : W.heap[b]? = some (.cells #[d0, d1, d2, d3, d4, d5] t (0, 0))) : Six W b d0 d1 d2 d3 d4 d5 := by
  constructor <;> simp [World.cell?, h]
theorem cloneq_any {base : Nat} {W : World} {b : Nat} {p : Option Addr} {c : Nat} {q : QC} (h : PQ base W b p c q) (hok : q.ok) :
    Calls Try.prog 15 #[.pointer (some ⟨b, 0, none⟩)] W fun e w' => ∃ b' p' c', e = .returned (.pointer (some ⟨b', 0, none⟩)) ∧ PQ W.heap.size w' b' p' c' q ∧ Below W.heap.size W w' := by
  obtain ⟨room, evs, last⟩ := q
  exact clone_any rfl h hok
/-- What a round of EdgeDoes keeps. -/
def DoI (B : Nat) (W : World) (rb : Nat) (wr : World) (b : Nat) : Prop := ∃ p rp c rc q, Two B wr b rb p rp c rc q q ∧ q.ok ∧ Below B W wr
/-- Behind the clone: the old queue is taken from, and put to. -/
theorem does_cloned {B : Nat} {W w3 w4 w5 w6 w7 : World} {b rb b' : Nat} {p rp p4 p5 : Option Addr} {c rc c4 c5 : Nat} {q q5 q7 : QC} (h : Two B w3 b rb p rp c rc q q) (hB : Below B W w3) (hok : q.ok) (b4 : Below w3.heap.size w3 w4) (Q4 : PQ w3.heap.size w4 b' p4 c4 q) (O4 : PQ B w4 b p c q) (P5 : Put B w4 w5 b p q5)
    (hw5 : ∀ a', p5 = some a' → (∃ a, p = some a ∧ a'.block = a.block) ∨ w4.heap.size ≤ a'.block) (b6 : Below w5.heap.size w5 w6) (Q6 : PQ B w6 b p5 c5 q5) (P7 : Put B w6 w7 b p5 q7) : DoI B W rb w7 b' := by
  have hat : ∀ i, PQ.at b p5 i → PQ.at b p i ∨ w4.heap.size ≤ i := by
    rintro i (rfl | ⟨a, e, rfl⟩)
    · exact .inl (.inl rfl)
    · rcases hw5 a e with ⟨a0, e0, e1⟩ | h1
      · exact .inl (.inr ⟨a0, e0, e1⟩)
      · exact .inr h1
  have ho : Only (fun i => PQ.at b p i ∨ w4.heap.size ≤ i) w4 w7 := ((P5.only.mono (fun i _ e => .inl e)).trans (Only.fresh b6 _)).trans (P7.only.mono (fun i _ e => hat i e))
  have hs4 : B ≤ w4.heap.size := Nat.le_trans h.size b4.size
  refine ⟨_, _, _, _, _, h.cloned b4 Q4 ho, hok, ?_⟩
  have h1 := Below.step hB b4 h.size
  have h2 := h1.trans (P5.below O4)
  have h3 := Below.step h2 b6 (Nat.le_trans hs4 P5.only.size)
  exact h3.trans (P7.below Q6)
set_option maxRecDepth 100000 in
set_option maxHeartbeats 8000000 in
theorem does_walk {W : World} {rm : Int} {lp : Option Addr} {lc n : Nat} {os : List OP} (hrow : ORow W lp lc os) (hn : os.length = n) :
    Calls Try.prog 3 #[.int .i64 rm, .slice lp n lc] W fun e w' => e = .returned (.bool true) ∧ Below W.heap.size W w' := by
  have i1 := hrow.le
  have i2 := hrow.top
  rw [hn] at i1
  have HROW := hide hrow
  have HN := hide hn
  clear hrow hn
  obtain ⟨B, hB⟩ : ∃ B, W.heap.size = B := ⟨_, rfl⟩
  have HBB := hide hB
  rw [hB]
  clear hB
  go_enter Try.func3, Try.ntmps3
  go_wp2_with fail
  refine live_any.mono ?_
  rintro _ w1 ⟨rfl, b1⟩
  rw [HBB.out] at b1
  have HB1 := hide b1
  clear b1
  by_cases hbad : rm < 1 ∨ 64 < rm
  · go_wp2_with fail
    refine (new_bad hbad).mono ?_
    rintro _ w2 ⟨rfl, rfl⟩
    go_wp2_with fail
    refine (rnew_bad hbad).mono ?_
    rintro _ w3 ⟨rfl, rfl⟩
    go_wp2
    go_ret
    exact ⟨rfl, HB1.out⟩
  · obtain ⟨room, rfl, hr1, hr2⟩ : ∃ room : Nat, rm = (room : Int) ∧ 1 ≤ room ∧ room ≤ 64 := ⟨rm.toNat, by omega, by omega, by omega⟩
    clear hbad
    go_wp2_with fail
    refine (new_good (by omega) (by omega)).mono ?_
    rintro _ w2 ⟨rfl, hw2⟩
    have Q2 : PQ w1.heap.size w2 w1.heap.size none 0 ⟨room, [], 0⟩ := by rw [hw2]; exact pq_new w1 room
    have b2 : Below w1.heap.size w1 w2 := by rw [hw2]; exact alloc_below _ _
    have hs1 : B ≤ w1.heap.size := by rw [← HBB.out]; exact HB1.out.size
    have HQ2 := hide (Q2.base hs1)
    have HB2 := hide (Below.step HB1.out b2 hs1)
    have hs2 : B ≤ w2.heap.size := by have := b2.size; omega
    obtain ⟨b0, hb0⟩ : ∃ b0, w1.heap.size = b0 := ⟨_, rfl⟩
    have hb02 : b0 < w2.heap.size := by rw [← hb0]; exact (Array.getElem?_eq_some_iff.1 Q2.box).1
    rw [hb0] at HQ2 ⊢
    clear hw2 Q2 b2 hb0 HB1
    go_wp2_with fail
    refine (rnew_good (by omega) (by omega)).mono ?_
    rintro _ w3 ⟨rfl, hw3⟩
    have Q3 : RQ w2.heap.size w3 w2.heap.size none 0 ⟨room, [], 0⟩ := by rw [hw3]; exact rq_new w2 room
    have b3 : Below w2.heap.size w2 w3 := by rw [hw3]; exact alloc_below _ _
    obtain ⟨rb, hrb⟩ : ∃ rb, w2.heap.size = rb := ⟨_, rfl⟩
    have HDI : Hid (DoI B W rb w3 b0) := by
      refine hide ⟨none, none, 0, 0, ⟨room, [], 0⟩, ⟨HQ2.out.later b3, ⟨?_, Q3.row, ?_⟩, ?_, fun a e => by cases e⟩, new_ok hr1 hr2, Below.step HB2.out b3 hs2⟩
      · rw [← hrb]; exact Q3.box
      · omega
      · rintro (e | ⟨a, e, _⟩)
        · omega
        · cases e
    rw [hrb]
    clear hw3 Q3 b3 hrb HQ2 HB2 hs2 hb02
    go_wp2_with fail
    go_loopw [5, 42] (fun i5 i wr => ∃ (k : Nat) (b : Nat), k ≤ n ∧ i5 = .pointer (some ⟨b, 0, none⟩) ∧ i = .int .i64 (k : Int) ∧ Hid (DoI B W rb wr b)) (fun _ i _ => n - (intOf i).toNat)
    case atStart => exact ⟨0, b0, Nat.zero_le _, rfl, rfl, HDI⟩
    case round =>
      obtain ⟨k, b, hk, rfl, rfl, HI⟩ := hrel
      clear HDI hs1
      obtain ⟨p, rp, c, rc, q, T, hok, BW⟩ := HI.out
      have HT := hide T
      have HOK := hide hok
      have HBW := hide BW
      clear T hok BW HI
      by_cases hlt : k < n
      · have hlt2 : k < os.length := by rw [HN.out]; exact hlt
        obtain ⟨x, hx⟩ : ∃ x, os[k]! = x := ⟨_, rfl⟩
        have BW := HBW.out
        rw [← HBB.out] at BW
        obtain ⟨g, o, rfl, a0, a1, a2, a3, a4, a5⟩ := ORow.at (LRow.below OP.len HROW.out BW) hlt2 hx
        obtain ⟨tk, cl, kd, ky, vl, id⟩ := x
        simp only at a0 a1 a2 a3 a4 a5
        clear hx hlt2 BW
        go_upto_region 12 with fail
        obtain ⟨X0, hX0⟩ : ∃ X0, X0 = wr.alloc (.cells #[.bool tk, .bool cl, .int .i64 kd, .int .i64 ky, .int .i64 vl, .int .i64 id] 36 (0, 0)) := ⟨_, rfl⟩
        rw [← hX0]
        have bX0 : Below wr.heap.size wr X0 := by rw [hX0]; exact alloc_below _ _
        obtain ⟨oB, hoB⟩ : ∃ oB, wr.heap.size = oB := ⟨_, rfl⟩
        have hob : X0.heap[oB]? = some (.cells #[.bool tk, .bool cl, .int .i64 kd, .int .i64 ky, .int .i64 vl, .int .i64 id] 36 (0, 0)) := by rw [hX0, ← hoB]; exact heap_alloc_new wr _
        have HT0 := hide (HT.out.later bX0)
        have HB0 := hide (Below.step HBW.out bX0 HT.out.size)
        have HOL : Hid (∀ i, PQ.at b p i → i < oB) := hide (fun i hi => by rw [← hoB]; exact (HT.out.pq.ges hi).2)
        have hrbo : rb < oB := by rw [← hoB]; exact HT.out.rbs.2
        have HOB := hide hob
        rw [hoB]
        clear hX0 bX0 hoB a0 a1 a2 a3 a4 a5 HT HBW
        obtain ⟨s0, s1, s2, s3, s4, s5⟩ := six hob
        clear hob
        cases tk with
        | true =>
          obtain ⟨x, hx⟩ : ∃ x, q.first = x := ⟨_, rfl⟩
          obtain ⟨bb, hbb⟩ : ∃ bb, q.any = bb := ⟨_, rfl⟩
          obtain ⟨k0, k1, k2, k3⟩ := x
          have HX := hide hx
          have HQB := hide hbb
          clear hx hbb
          go_wp2_with fail
          refine (take_any HT0.out.pq).mono ?_
          rw [HX.out, HQB.out]
          simp only [EV.agg]
          rintro _ w1 ⟨rfl, P1⟩
          have hso : oB < w1.heap.size := Nat.lt_of_lt_of_le (Array.getElem?_eq_some_iff.1 HOB.out).1 P1.only.size
          have HOB1 := hide (P1.only.obj HOB.out (fun e => by have := HOL.out _ e; omega))
          obtain ⟨p1, c1, T1⟩ := HT0.out.put P1
          have HT1 := hide T1
          have HB1 := hide (HB0.out.trans (P1.below HT0.out.pq))
          clear P1 T1 HT0 HB0 s0 s1 s2 s3 s4 s5
          go_upto_region 14 with fail
          obtain ⟨X1, hX1⟩ : ∃ X1, X1 = w1.alloc (.cells #[.int .i64 k0, .int .i64 k1, .int .i64 k2, .int .i64 k3] 34 (0, 0)) := ⟨_, rfl⟩
          rw [← hX1]
          have bX1 : Below w1.heap.size w1 X1 := by rw [hX1]; exact alloc_below _ _
          obtain ⟨aB, haB⟩ : ∃ aB, w1.heap.size = aB := ⟨_, rfl⟩
          have HA1 : Hid (X1.heap[aB]? = some (.cells #[.int .i64 k0, .int .i64 k1, .int .i64 k2, .int .i64 k3] 34 (0, 0))) := by rw [hX1, ← haB]; exact hide (heap_alloc_new w1 _)
          have HTX := hide (HT1.out.later bX1)
          have HBX := hide (Below.step HB1.out bX1 HT1.out.size)
          have HOBX := hide (below_box bX1 HOB1.out)
          have hra : rb < aB := by rw [← haB]; exact HT1.out.rbs.2
          rw [haB] at hso ⊢
          clear hX1 bX1 haB HT1 HB1 HOB1
          go_wp2_with fail
          refine (rtake_any HTX.out.rq HTX.out.hpb).mono ?_
          rw [HX.out, HQB.out]
          simp only [EV.agg]
          rintro _ w2 ⟨rfl, O2, rp2, rc2, Q2, hw2⟩
          have HT2' := hide (HTX.out.rtake O2 Q2 hw2)
          have HB2' := hide (HBX.out.trans (HTX.out.belowR O2))
          have HOB2 := hide (O2.obj HOBX.out (fun e => by have e' : oB = rb := e; omega))
          have HA2 := hide (O2.obj HA1.out (fun e => by have e' : aB = rb := e; omega))
          have has2 : aB < w2.heap.size := (Array.getElem?_eq_some_iff.1 HA2.out).1
          clear O2 Q2 hw2 HTX HBX HOBX HA1
          go_upto_region 15 with fail
          obtain ⟨X2, hX2⟩ : ∃ X2, X2 = w2.alloc (.cells #[.int .i64 k0, .int .i64 k1, .int .i64 k2, .int .i64 k3] 34 (0, 0)) := ⟨_, rfl⟩
          rw [← hX2]
          have bX2 : Below w2.heap.size w2 X2 := by rw [hX2]; exact alloc_below _ _
          obtain ⟨cB, hcB⟩ : ∃ cB, w2.heap.size = cB := ⟨_, rfl⟩
          have hC : X2.heap[cB]? = some (.cells #[.int .i64 k0, .int .i64 k1, .int .i64 k2, .int .i64 k3] 34 (0, 0)) := by rw [hX2, ← hcB]; exact heap_alloc_new w2 _
          have hA := below_box bX2 HA2.out
          have HT2 := hide (HT2'.out.later bX2)
          have HB2 := hide (Below.step HB2'.out bX2 HT2'.out.size)
          have HCL : Hid (X2.cell? ⟨oB, 1, none⟩ = some (.bool cl)) := hide (six (below_box bX2 HOB2.out)).c1
          have HOK2 := hide (QC.rest_ok HOK.out)
          rw [hcB]
          obtain ⟨_, _, _, _, d0, d1, d2, d3⟩ := four hA
          obtain ⟨_, _, _, _, e0, e1, e2, e3⟩ := four hC
          have qbb : (bb != bb) = false := by cases bb <;> rfl
          clear hX2 bX2 hcB hC hA HT2' HB2' HOB2 HA2
          go_wp2_with fail
          refine (same_any HT2.out.pq HT2.out.rq HOK2.out).mono ?_
          rintro _ w3 ⟨rfl, b3⟩
          have HT3 := hide (HT2.out.later b3)
          have HB3 := hide (Below.step HB2.out b3 HT2.out.size)
          have hcl := cell_later b3 HCL.out
          clear b3 HT2 HB2 HCL
          cases cl with
          | false =>
            have HDN : Hid (DoI B W rb w3 b) := hide ⟨_, _, _, _, _, HT3.out, HOK2.out, HB3.out⟩
            clear HT3 HB3
            go_wp2
            exact ⟨⟨k + 1, b, by omega, rfl, by first | rfl | go_num, HDN⟩, by simp [intOf]; omega⟩
          | true =>
            go_wp2_with fail
            refine (cloneq_any HT3.out.pq HOK2.out).mono ?_
            rintro _ w4 ⟨b', p4, c4, rfl, Q4, b4⟩
            have HB4 := hide (Below.step HB3.out b4 HT3.out.size)
            have HQ4 := hide Q4
            have HB4' := hide b4
            have HO4 := hide (HT3.out.pq.later b4)
            clear Q4 b4 hcl
            go_wp2_with fail
            refine (take_any HO4.out).mono ?_
            rintro _ w5 ⟨rfl, P5⟩
            have HP5 := hide P5
            obtain ⟨p5, c5, Q5, hw5⟩ := P5.is
            have HQ5 := hide Q5
            have HW5 := hide hw5
            clear P5 Q5 hw5
            go_wp2_with fail
            refine rec_any.mono ?_
            rintro _ w6 ⟨rfl, b6⟩
            have HB6 := hide b6
            have HQ6 := hide (HQ5.out.later b6)
            clear b6
            go_wp2_with fail
            refine (put_any HQ6.out (QC.rest_ok HOK2.out) ⟨1, 0, 9, 0⟩).mono ?_
            rintro _ w7 ⟨rfl, P7⟩
            have HDN : Hid (DoI B W rb w7 b') := hide (does_cloned HT3.out HB3.out HOK2.out HB4'.out HQ4.out HO4.out HP5.out HW5.out HB6.out HQ6.out P7)
            clear P7 HB4 HQ4 HB4' HO4 HP5 HQ5 HW5 HB6 HQ6 HT3 HB3
            go_wp2
            exact ⟨⟨k + 1, b', by omega, rfl, by first | rfl | go_num, HDN⟩, by simp [intOf]; omega⟩
        | false =>
          obtain ⟨er, her⟩ : ∃ er, q.err ⟨kd, ky, vl, id⟩ = er := ⟨_, rfl⟩
          have HER := hide her
          clear her
          go_upto_region 17 with fail
          have HS0 : Hid (∀ X, Below X0.heap.size X0 X → X.heap[oB]? = some (.cells #[.bool false, .bool cl, .int .i64 kd, .int .i64 ky, .int .i64 vl, .int .i64 id] 36 (0, 0))) := hide (fun X hX => below_box hX HOB.out)
          have B0 : Below X0.heap.size X0 X0.drew := (Below.refl _ X0).drew
          clear s0 s1 s2 s3 s4 s5
          obtain ⟨s0, s1, s2, s3, s4, s5⟩ := six (HS0.out _ B0)
          go_region_held3 (fun w' => (w'.cell? ⟨oB, 2, none⟩ = some (.int .i64 kd) ∧ w'.cell? ⟨oB, 3, none⟩ = some (.int .i64 ky)) ∧ w'.cell? ⟨oB, 4, none⟩ = some (.int .i64 vl) ∧ w'.cell? ⟨oB, 5, none⟩ = some (.int .i64 id)) (go_keep)
            (first
              | (go_at_call 13; refine (rput_any HT1.out.rq HOK.out HT1.out.hpb ⟨kd, ky, vl, id⟩).mono ?_; rw [HER.out]; rintro _ x2 ⟨rfl, P2⟩; have hob2 := P2.only.obj HOB1.out (fun e => by have e' : oB = rb := e; omega); obtain ⟨s0, s1, s2, s3, s4, s5⟩ := six hob2; obtain ⟨rp2, rc2, T2⟩ := HT1.out.rput P2; have HT2 := hide T2; have HB2 := hide (HB1.out.trans (HT1.out.belowR P2.only)); have HOB2 := hide hob2; clear P2 T2 hob2)
              | (go_at_call 12; refine (put_any (HT0.out.later B0).pq HOK.out ⟨kd, ky, vl, id⟩).mono ?_; rw [HER.out]; rintro _ x1 ⟨rfl, P1⟩; have hob1 := P1.only.obj (HS0.out _ B0) (fun e => by have := HOL.out _ e; omega); obtain ⟨s0, s1, s2, s3, s4, s5⟩ := six hob1; obtain ⟨p1, c1, T1⟩ := (HT0.out.later B0).put P1; have HT1 := hide T1; have HB1 := hide ((Below.step HB0.out B0 HT0.out.size).trans (P1.below (HT0.out.later B0).pq)); have HOB1 := hide hob1; clear P1 T1 hob1))
          have HCL : Hid (x2.cell? ⟨oB, 1, none⟩ = some (.bool cl)) := hide (six HOB2.out).c1
          have HOK2 := hide (QC.put_ok HOK.out ⟨kd, ky, vl, id⟩)
          clear s0 s1 s2 s3 s4 s5 HOB2 HS0 HT0 HB0
          go_wp2_with fail
          refine (same_any HT2.out.pq HT2.out.rq HOK2.out).mono ?_
          rintro _ w3 ⟨rfl, b3⟩
          have HT3 := hide (HT2.out.later b3)
          have HB3 := hide (Below.step HB2.out b3 HT2.out.size)
          have hcl := cell_later b3 HCL.out
          clear b3 HT2 HB2 HCL
          cases cl with
          | false =>
            have HDN : Hid (DoI B W rb w3 b) := hide ⟨_, _, _, _, _, HT3.out, HOK2.out, HB3.out⟩
            clear HT3 HB3
            go_wp2
            exact ⟨⟨k + 1, b, by omega, rfl, by first | rfl | go_num, HDN⟩, by simp [intOf]; omega⟩
          | true =>
            go_wp2_with fail
            refine (cloneq_any HT3.out.pq HOK2.out).mono ?_
            rintro _ w4 ⟨b', p4, c4, rfl, Q4, b4⟩
            have HB4 := hide (Below.step HB3.out b4 HT3.out.size)
            have HQ4 := hide Q4
            have HB4' := hide b4
            have HO4 := hide (HT3.out.pq.later b4)
            clear Q4 b4 hcl
            go_wp2_with fail
            refine (take_any HO4.out).mono ?_
            rintro _ w5 ⟨rfl, P5⟩
            have HP5 := hide P5
            obtain ⟨p5, c5, Q5, hw5⟩ := P5.is
            have HQ5 := hide Q5
            have HW5 := hide hw5
            clear P5 Q5 hw5
            go_wp2_with fail
            refine rec_any.mono ?_
            rintro _ w6 ⟨rfl, b6⟩
            have HB6 := hide b6
            have HQ6 := hide (HQ5.out.later b6)
            clear b6
            go_wp2_with fail
            refine (put_any HQ6.out (QC.rest_ok HOK2.out) ⟨1, 0, 9, 0⟩).mono ?_
            rintro _ w7 ⟨rfl, P7⟩
            have HDN : Hid (DoI B W rb w7 b') := hide (does_cloned HT3.out HB3.out HOK2.out HB4'.out HQ4.out HO4.out HP5.out HW5.out HB6.out HQ6.out P7)
            clear P7 HB4 HQ4 HB4' HO4 HP5 HQ5 HW5 HB6 HQ6 HT3 HB3
            go_wp2
            exact ⟨⟨k + 1, b', by omega, rfl, by first | rfl | go_num, HDN⟩, by simp [intOf]; omega⟩
      · obtain rfl : k = n := by omega
        go_wp2_with fail
        refine (same_any HT.out.pq HT.out.rq HOK.out).mono ?_
        rintro _ w9 ⟨rfl, b9⟩
        have HF := hide (Below.step HBW.out b9 HT.out.size)
        clear b9
        go_wp2
        go_ret
        exact ⟨rfl, HF.out⟩
end Go.Proofs.Ytmmdgffgnpnmeaa
