/-
 SinkDoes, as said: whatever comes to a sink, from whatever epochs, each answer and all that is told is the document's, and a clone goes its own way. No conditions. (Walked here, then its frame.)
-/
import Derived.Test.YtboofnkajjnmeaaSva
import Derived.Test.YtboofnkajjnmeaaSqu
import Derived.Test.YtboofnkajjnmeaaSqp
import Derived.Test.YtboofnkajjnmeaaSoc
import Derived.SizedLaws
namespace Go.Proofs.Ytboofnkajjnmeaa
open Go.RowKit Go.Maps Go.Shelf

theorem PS.base {B B2 : Nat} {W : World} {k : PK} (h : PS B W k) (hb : B2 ≤ B) : PS B2 W k :=
  ⟨h.box, h.map, ownsRow_base h.out hb, ownsRow_base h.vec hb, ownsRow_base h.done hb, fun x hx => ⟨ownsRow_base (h.pre x hx).r hb, ownsRow_base (h.pre x hx).v hb⟩, h.ap, ⟨Nat.le_trans hb h.ge.1, Nat.le_trans hb h.ge.2⟩, h.ok⟩
theorem TwS.clone {B : Nat} {W W2 W3 : World} {k c : PK} {b n : Nat} {q : QK} {s : SK} (h : TwS B W k b n q) (hc : PS W.heap.size W2 c) (hb : Below W.heap.size W W2) (hp : Put B W2 k s W3) : TwS B W3 c b n q := by
  obtain ⟨k', h1, h2, h3, h4, h5⟩ := hp
  have hB : B ≤ W.heap.size := Nat.le_trans h.ge (Nat.le_of_lt h.rs.bl)
  have hd : ∀ i, c.blk i → ¬ k.blk i := fun i hi hk => by
    have := (hc.lt hi).1
    have := (h.ps.lt hk).2
    omega
  refine ⟨(hc.only h4 hd).base hB, (h.rs.later hb).only h4 h.nb (fun i hi hk => h.dj i hi hk), fun hi => ?_, fun i hi hk => ?_, h.ge⟩
  · have := (hc.lt hi).1
    have := h.rs.bl
    omega
  · have := (hc.lt hk).1
    have := h.rs.lt i hi
    omega
set_option maxRecDepth 100000 in
set_option maxHeartbeats 2000000 in
theorem rnew_bad {W : World} {x : Int} (h : ¬ (1 ≤ x ∧ x ≤ 4)) : Calls Try.prog 10 #[.int .i64 x] W fun e w' => e = .returned (.tuple #[.pointer none, .int .i64 1]) ∧ w' = W := by
  by_cases h1 : x < 1
  · have e1 : decide (x < 1) = true := decide_eq_true h1
    clear h h1
    go_enter Try.func10, Try.ntmps10
    go_wp2
    go_ret2
    exact ⟨rfl, rfl⟩
  · have e1 : decide (x < 1) = false := decide_eq_false h1
    have e2 : decide (x > 4) = true := decide_eq_true (by omega)
    clear h h1
    go_enter Try.func10, Try.ntmps10
    go_wp2
    go_ret2
    exact ⟨rfl, rfl⟩
set_option maxRecDepth 100000 in
set_option maxHeartbeats 16000000 in
theorem does_walk {W : World} {parts : Int} {p : Option Addr} {n c : Nat} {os : List OP} (h : OL W p c os) (hn : os.length = n) (hb : n < 2199023255552) :
    Calls Try.prog 3 #[.int .i64 parts, .slice p n c] W fun e w' => e = .returned (.bool true) ∧ Below W.heap.size W w' := by
  have H := hide h
  have HN := hide hn
  have i1 : os.length ≤ c := h.row.le
  have i2 := h.row.top
  rw [hn] at i1
  clear h hn
  go_enter Try.func3, Try.ntmps3
  go_wp2_with fail
  refine live_any.mono ?_
  rintro _ w0 ⟨rfl, b0⟩
  have HB0 := hide b0
  clear b0
  by_cases hp : 1 ≤ parts ∧ parts ≤ 4
  · obtain ⟨m, hm⟩ : ∃ m : Nat, parts = (m : Int) := ⟨parts.toNat, by omega⟩
    have hm1 : 1 ≤ m := by omega
    have hm4 : m ≤ 4 := by omega
    subst hm
    have H1 := hide hm1
    have H4 := hide hm4
    clear hp hm1 hm4
    go_wp2_with fail
    refine (new_ok (W := w0) H1.out H4.out).mono ?_
    rintro _ w1 ⟨k0, rfl, hp, hs, hb1⟩
    have HP0 : Hid (PS w0.heap.size w1 k0) := hide hp
    have HS0 : Hid (k0.sk = newS m) := hide hs
    have HB1 : Hid (Below w0.heap.size w0 w1) := hide hb1
    clear hp hs hb1
    obtain ⟨kb, hkb⟩ : ∃ kb, k0.b = kb := ⟨_, rfl⟩
    rw [hkb]
    have HKB := hide hkb
    clear hkb
    go_wp2_with fail
    refine (rnew_ok (W := w1) H1.out H4.out).mono ?_
    rintro _ w2 ⟨rb, qr, rfl, hrp, hrs, b2⟩
    have HTW : Hid (TwS w0.heap.size w2 k0 rb m qr) := hide ⟨HP0.out.later b2, hrp.rs.1, fun hi => by have := (HP0.out.lt hi).2; have := hrp.ge; omega, fun i hi hk => by have := (HP0.out.lt hk).2; have := hrp.rs.2 i hi; omega, by have := hrp.ge; have := HB1.out.size; omega⟩
    have HSQ : Hid (qr.sk = k0.sk) := hide (hrs.trans HS0.out.symm)
    have HD0 : Hid (k0.done.length ≤ 0 ∧ k0.vec.length = m ∧ 0 ≤ n) := hide ⟨by have h9 : k0.done = _ := congrArg SK.done HS0.out; rw [h9]; exact Nat.le_refl _, by have h9 : k0.vec = _ := congrArg SK.vec HS0.out; rw [h9]; exact List.length_replicate .., Nat.zero_le _⟩
    have HB2 : Hid (Below w0.heap.size w0 w2) := hide (HB1.out.trans (b2.mono HB1.out.size))
    clear hrp hrs b2
    go_wp2_with fail
    go_loopw [5, 38] (fun s i wr => ∃ (j : Nat) (k : PK) (q : QK), j ≤ n ∧ s = .pointer (some ⟨k.b, 0, none⟩) ∧ i = .int .i64 (j : Int) ∧ Hid (TwS w0.heap.size wr k rb m q) ∧ Hid (q.sk = k.sk) ∧ Hid (k.done.length ≤ j ∧ k.vec.length = m ∧ j ≤ n) ∧ Hid (Below w0.heap.size w0 wr)) (fun _ i _ => n - (intOf i).toNat)
    case atStart => exact ⟨0, k0, qr, Nat.zero_le _, by rw [HKB.out], rfl, HTW, HSQ, HD0, HB2⟩
    case round =>
      obtain ⟨j, k, q, hj, rfl, rfl, HTR, HQE, HD, HB⟩ := hrel
      rename World => wr
      by_cases hlt : j < n
      · have hl1 : j < os.length := by rw [HN.out]; exact hlt
        obtain ⟨y, hy⟩ : ∃ y, os[j]! = y := ⟨_, rfl⟩
        have HYM : Hid (y ∈ os) := hide (by rw [← hy, getElem!_pos os j hl1]; exact List.getElem_mem hl1)
        have HWR : Hid (Below W.heap.size W wr) := hide (HB0.out.trans (HB.out.mono HB0.out.size))
        obtain ⟨g, o, rfl, a0, a1, a2, a3, a4, a5⟩ := OL.at (H.out.row.below OP.len HWR.out) hl1 hy
        clear hy hl1
        have hlt9 := hlt
        go_upto_region 12 with fail
        obtain ⟨X, hX⟩ : ∃ X, X = wr.alloc (.cells #[.int .i64 y.d, .int .i64 y.x.t.ep, .int .i64 y.x.t.id, .int .i64 y.x.t.beg, .slice y.x.rp y.x.t.rs.length y.x.rc, .slice y.x.vp y.x.t.vs.length y.x.vc] 36 (0, 0)) := ⟨_, rfl⟩
        rw [← hX]
        have bX : Below wr.heap.size wr X := by rw [hX]; exact alloc_below _ _
        obtain ⟨oB, hoB⟩ : ∃ oB, wr.heap.size = oB := ⟨_, rfl⟩
        have HO : Hid (X.heap[oB]? = some (.cells #[.int .i64 y.d, .int .i64 y.x.t.ep, .int .i64 y.x.t.id, .int .i64 y.x.t.beg, .slice y.x.rp y.x.t.rs.length y.x.rc, .slice y.x.vp y.x.t.vs.length y.x.vc] 36 (0, 0))) := hide (by rw [hX, ← hoB]; exact heap_alloc_new wr _)
        have HTX := hide (HTR.out.later bX)
        have HBX : Hid (Below w0.heap.size w0 X) := hide (HB.out.trans (bX.mono HB.out.size))
        have HNO : Hid (¬ (k.blk oB ∨ oB = rb)) := hide (fun hi => by
          rcases hi with hi | hi
          · have := (HTR.out.ps.lt hi).2; omega
          · have := HTR.out.rs.bl; omega)
        try rw [hoB]
        clear hX bX hoB a0 a1 a2 a3 a4 a5 HTR HB HWR
        have y0 := cellB HO.out (i := 0) rfl
        have y1 := cellB HO.out (i := 1) rfl
        have y2 := cellB HO.out (i := 2) rfl
        have y3 := cellB HO.out (i := 3) rfl
        have y4 := cellB HO.out (i := 4) rfl
        have y5 := cellB HO.out (i := 5) rfl
        have HWW : Hid (Below W.heap.size W X) := hide (HB0.out.trans (HBX.out.mono HB0.out.size))
        go_wp2_with fail
        refine (does_any (y := y) HTX.out HQE.out HD.out.2.1 (by have := HD.out; omega) ((H.out.ok y HYM.out).1.later HWW.out) (fun i hi => by
          have h9 := (H.out.ok y HYM.out).2 i hi
          have h8 := HB0.out.size
          refine ⟨fun hk => ?_, fun e => ?_, ?_⟩
          · have := (HTX.out.ps.lt hk).1; omega
          · have := HTX.out.ge; omega
          · have := HWW.out.size; omega)).mono ?_
        rintro _ w5 ⟨rfl, k5, q5, hi5, hs5, hq5⟩
        have HI5 := hide hi5
        have HQ5 := hide hq5
        have HD5 : Hid (k5.done.length ≤ j + 1 ∧ k5.vec.length = m ∧ j + 1 ≤ n) := hide ⟨by
          have h9 := do_len m k.sk y
          rw [← hs5] at h9
          have h8 : k5.sk.done.length ≤ k.sk.done.length + 1 := h9
          have h7 : k.sk.done.length ≤ j := HD.out.1
          show k5.sk.done.length ≤ j + 1
          omega, by
          have h9 := ((above_iff _ _).1 (by have h7 := grow_do m k.sk y; rw [← hs5] at h7; exact h7.2.1)).1
          have h8 : k.sk.vec.length = m := HD.out.2.1
          show k5.sk.vec.length = m
          omega, hlt9⟩
        have HB5 : Hid (Below w0.heap.size w0 w5) := hide (HBX.out.trans (hi5.only.below HBX.out.size (fun i hi => by rcases hi with hi | hi; exact (HTX.out.ps.lt hi).1; rw [hi]; exact HTX.out.ge)))
        have HO5 := hide (hi5.only.obj HO.out HNO.out)
        have HKB5 : Hid (k5.b = k.b) := hide hi5.kb
        clear hi5 hs5 hq5 y0 y1 y2 y3 y4 y5
        have y0 := cellB HO5.out (i := 0) rfl
        have y1 := cellB HO5.out (i := 1) rfl
        have y2 := cellB HO5.out (i := 2) rfl
        have y3 := cellB HO5.out (i := 3) rfl
        have y4 := cellB HO5.out (i := 4) rfl
        have y5 := cellB HO5.out (i := 5) rfl
        rw [← HKB5.out]
        go_wp2_with fail
        refine (same_any (y := y) HI5.out.tw HQ5.out (by have := HD5.out; omega)).mono ?_
        rintro _ w6 ⟨rfl, b6⟩
        have HT6 := hide (HI5.out.tw.later b6)
        have HB6 : Hid (Below w0.heap.size w0 w6) := hide (HB5.out.trans (b6.mono HB5.out.size))
        have HO6 := hide (below_box b6 HO5.out)
        clear b6 y0 y1 y2 y3 y4 y5
        have y0 := cellB HO6.out (i := 0) rfl
        by_cases h4 : y.d = 4
        · have d4 : (y.d == 4) = true := by simpa using h4
          clear h4
          go_wp2_with fail
          refine (clone_any HT6.out.ps (by have := HD5.out; omega)).mono ?_
          rintro _ w7 ⟨c7, rfl, hc, hcs, b7⟩
          have HC7 := hide hc
          have HCS := hide hcs
          have HB67 := hide b7
          have HP7 := hide (HT6.out.ps.later b7)
          have HB7 : Hid (Below w0.heap.size w0 w7) := hide (HB6.out.trans (b7.mono HB6.out.size))
          clear hc hcs b7 y0
          obtain ⟨cb, hcb⟩ : ∃ cb, c7.b = cb := ⟨_, rfl⟩
          have HCB := hide hcb
          rw [hcb]
          clear hcb
          go_wp2_with fail
          refine (fence_any HP7.out).mono ?_
          rintro _ w8 ⟨rfl, hp8⟩
          have HT8 := hide (HT6.out.clone HC7.out HB67.out hp8)
          have HB8 : Hid (Below w0.heap.size w0 w8) := hide (by
            obtain ⟨k', _, _, _, h4, _⟩ := hp8
            exact HB7.out.trans (h4.below HB7.out.size (fun i hi => (HP7.out.lt hi).1)))
          have HQ8 : Hid (q5.sk = c7.sk) := hide (HQ5.out.trans HCS.out.symm)
          have HD8 : Hid (c7.done.length ≤ j + 1 ∧ c7.vec.length = m ∧ j + 1 ≤ n) := hide ⟨by rw [show c7.done = k5.done from congrArg SK.done HCS.out]; exact HD5.out.1, by rw [show c7.vec = k5.vec from congrArg SK.vec HCS.out]; exact HD5.out.2.1, hlt9⟩
          clear hp8
          go_wp2
          exact ⟨⟨j + 1, c7, q5, hlt9, by rw [HCB.out], by first | rfl | go_num, HT8, HQ8, HD8, HB8⟩, by simp [intOf]; omega⟩
        · have d4 : (y.d == 4) = false := by simpa using h4
          clear h4
          go_wp2
          exact ⟨⟨j + 1, k5, q5, hlt9, by rw [HKB5.out], by first | rfl | go_num, HT6, HQ5, HD5, HB6⟩, by simp [intOf]; omega⟩
      · obtain rfl : n = j := by omega
        go_wp2_with fail
        refine (same_any (y := ⟨0, ⟨⟨0, 0, 0, [], []⟩, none, 0, none, 0⟩⟩) HTR.out HQE.out (by have := HD.out; omega)).mono ?_
        rintro _ w6 ⟨rfl, b6⟩
        have HB6 : Hid (Below w0.heap.size w0 w6) := hide (HB.out.trans (b6.mono HB.out.size))
        clear b6
        go_wp2
        go_ret
        exact ⟨rfl, HB0.out.trans (HB6.out.mono HB0.out.size)⟩
  · have HP := hide hp
    clear hp
    go_wp2_with fail
    refine (new_bad HP.out).mono ?_
    rintro _ _ ⟨rfl, rfl⟩
    go_wp2_with fail
    refine (rnew_bad HP.out).mono ?_
    rintro _ _ ⟨rfl, rfl⟩
    go_wp2
    go_ret
    exact ⟨rfl, HB0.out⟩
end Go.Proofs.Ytboofnkajjnmeaa

/-
  SinkDoes, as said: whatever comes to a sink, from whatever epochs, each answer and all that is told is the document's, and a clone goes its own way. No conditions.
-/
namespace Go.Proofs.Ytboofnkajjnmeaa.sinkDoes
open Go.RowKit Go.Proofs.Ytboofnkajjnmeaa Go.ChangeShapes Go.WideShapes Go.ChangeAt

theorem walk {W : World} {parts : Int} {p : Option Addr} {c : Nat} {es : List OP} (_ : I6 parts) (h : OL W p c es) (_ : ∀ e ∈ es, I6 e.d ∧ e.x.lies W) (hb : es.length * 80 ≤ 140737488351232) :
    Calls Try.prog 3 #[.int .i64 parts, .slice p es.length c] W fun e w' => e = .returned (.bool true) ∧ Below W.heap.size W w' := does_walk h rfl (by omega)
set_option maxRecDepth 100000 in
theorem contract (H : Type) (enc : TypeId × Value → H) (W : World) (base : Nat) (args : Array Value) (ds gs : List (DataW H)) (before : List MemPlace)
    (hval : ∀ (j : Nat) t v, Try.f3.params[j]? = some t → args[j]? = some v → Value.okWide Try.prog W .any base t v)
    (hW : DataW.Whole enc Try.prog Try.f3.params.toList Rows.sinkDoesSpec.vars false W args.toList ds gs before) (hsz0 : (DataW.weightsEach Try.prog (Try.f3.params.toList ++ Rows.sinkDoesSpec.plain.varTypes Try.prog) (ds ++ gs)).all (· ≤ reachBytes) = true) :
    Calls Try.prog 3 args W fun e W' => ∃ v, e = .returned v ∧ Rows.sinkDoesSpec.post enc Try.prog Try.f3 false true false false W args v W' := by
  have hW' := hW
  obtain ⟨p, q, hA0, hV, rfl, hfz, hnd⟩ := hW
  have hA : DataW.TrodAll enc Try.prog W 0 (fun _ => true) true Try.f3.params.toList args.toList ds p := hA0
  rw [Try.params3] at hA hval hsz0
  obtain ⟨v0, vs0, d0, ds0, p0, q0, hargs, rfl, rfl, h0, r0⟩ := trodAll_cons hA
  obtain ⟨v1, vs1, d1, ds1, p1, q1, rfl, rfl, rfl, h1, r1⟩ := trodAll_cons r0
  obtain ⟨rfl, rfl, rfl⟩ := trodAll_nil r1
  obtain rfl : args = #[v0, v1] := by cases args; simp_all
  obtain ⟨rfl, rfl⟩ := trodVars_none hV
  obtain ⟨a1, len1, cap1, rfl⟩ := okWide_slice Try.underlying22 (hval 1 22 v1 rfl rfl)
  obtain ⟨n0, rfl, rfl, rfl, wi0⟩ := open_int Try.underlying3 (hval 0 3 v0 rfl rfl) h0
  have bd0 := bounds_i64 wi0
  have k1 := h1
  have lt1 : ∀ x ∈ p1, x.block < W.heap.size := by obtain ⟨m, hm⟩ := k1; exact DataW.trod_lt m _ _ _ hm
  obtain ⟨f1, hf1⟩ := h1
  have hcc1 : (Value.slice a1 len1 cap1).cells.toList = [.slice a1 len1 cap1] := by simp [Value.cells]
  rw [hcc1] at hf1
  obtain ⟨pp1, pc1, es1, ee1, R1, F1, B1, D1⟩ := arg_opsS hf1
  simp only [Value.slice.injEq] at ee1
  obtain ⟨rfl, rfl, rfl⟩ := ee1
  have b1 : es1.length * 80 ≤ 140737488351232 := sized_len (bytes := 80) hsz0 (j := 1) rfl rfl Try.underlying22 (by kernel_rfl) D1
  clear hA0
  refine (walk ⟨bd0.1, by have := bd0.2; omega⟩ R1 F1 (by omega)).mono fun e W' ⟨he, bel⟩ => ?_
  subst he
  exact ⟨_, rfl, _, _, _, [], _, [], hW', trodAll_mk1 (shut_bool Try.underlying4 _), (trodAll_cons_mk (shut_int Try.underlying3 wi0) (trodAll_cons_mk (Below.trod Try.laidOut (by kernel_rfl) (of_decide_eq_true (by kernel_rfl)) k1 bel lt1) trodAll_mk0)), rfl, bel.frame _, fun h => by cases h⟩

set_option maxRecDepth 100000 in
theorem lifted (os : Os) (started : os.Started) (H : Type) (enc : TypeId × Value → H) :
    ReturnsInHanded {} Try.checked os 3 .any (Rows.sinkDoesSpec.pre6 enc Try.prog Try.f3 Rows.sinkDoesRow.domain false) (Rows.sinkDoesSpec.post enc Try.prog Try.f3 false true false false) := by
  refine returnsInHanded_of_change_sized (C := Try.checked) Try.ownK started (by kernel_rfl) Try.func3
    (ChangeSpec.witness6 (enc := enc) (C := Try.checked) false ⟨#[], #[.int .i64 0, .slice none 0 0], []⟩ 8 (by kernel_rfl) (by kernel_rfl) (by kernel_rfl) (by kernel_rfl)) ?_
  intro W base args ds gs before hval hW _ hsz _
  exact contract H enc W base args ds gs before hval hW hsz

set_option maxRecDepth 100000 in
theorem proved : Rows.SinkDoesSaid :=
  OpenClaim.holds_of_wide 3 Try.f3 rfl rfl rfl rfl rfl rfl rfl ⟨rfl, rfl, rfl, rfl, rfl⟩ rfl rfl rfl rfl rfl (by kernel_rfl) Try.func3 (by kernel_rfl)
    (of_decide_eq_true (by kernel_rfl)) (by unfold Func.isWrapper; first | (rw [if_pos (by decide +kernel)]; kernel_rfl) | (rw [if_neg (by decide +kernel)]; exact ⟨rfl, rfl⟩))
    (fun os started H enc _ => lifted os started H enc)

end Go.Proofs.Ytboofnkajjnmeaa.sinkDoes
