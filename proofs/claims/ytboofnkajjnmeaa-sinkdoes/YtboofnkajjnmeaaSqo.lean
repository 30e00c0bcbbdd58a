/-
  An operation with both sinks: does. The conditions: that both lie there, apart, and keep the same; that the operation's lists lie there.
-/
import Derived.Test.YtboofnkajjnmeaaTk0
import Derived.Test.YtboofnkajjnmeaaSqn
import Derived.Test.YtboofnkajjnmeaaSlc
import Derived.Test.YtboofnkajjnmeaaSoa
namespace Go.Proofs.Ytboofnkajjnmeaa
open Go.RowKit Go.Maps Go.Shelf

structure TwS (B : Nat) (W : World) (k : PK) (b n : Nat) (q : QK) : Prop where
  ps : PS B W k
  rs : RS W b n q
  nb : ¬ k.blk b
  dj : ∀ i, q.blk i → ¬ k.blk i
  ge : B ≤ b
theorem TwS.later {B : Nat} {W W' : World} {k : PK} {b n : Nat} {q : QK} (h : TwS B W k b n q) (hb : Below W.heap.size W W') : TwS B W' k b n q := ⟨h.ps.later hb, h.rs.later hb, h.nb, h.dj, h.ge⟩
structure TwI (B : Nat) (Z : World) (k0 : PK) (b n : Nat) (k : PK) (q : QK) (w : World) : Prop where
  tw : TwS B w k b n q
  kb : k.b = k0.b
  only : Only (fun i => k0.blk i ∨ i = b) Z w
  blk : ∀ i, k.blk i → k0.blk i ∨ Z.heap.size ≤ i
theorem TwI.start {B : Nat} {Z : World} {k : PK} {b n : Nat} {q : QK} (h : TwS B Z k b n q) : TwI B Z k b n k q Z := ⟨h, rfl, Only.fresh (Below.refl _ _) _, fun _ hi => .inl hi⟩
theorem TwI.later {B : Nat} {Z : World} {k0 k : PK} {b n : Nat} {q : QK} {w w' : World} (h : TwI B Z k0 b n k q w) (hb : Below w.heap.size w w') : TwI B Z k0 b n k q w' := ⟨h.tw.later hb, h.kb, h.only.trans (Only.fresh hb _), h.blk⟩
theorem TwI.first {B : Nat} {W Z : World} {k0 k : PK} {b n : Nat} {q : QK} {w : World} (h : TwI B Z k0 b n k q w) (hb : Below W.heap.size W Z) : TwI B W k0 b n k q w :=
  ⟨h.tw, h.kb, (Only.fresh hb _).trans h.only, fun i hi => by
    rcases h.blk i hi with h9 | h9
    · exact .inl h9
    · exact .inr (Nat.le_trans hb.size h9)⟩
theorem TwI.prog {B : Nat} {Z : World} {k0 k : PK} {b n : Nat} {q : QK} {w w' : World} {s : SK} (h : TwI B Z k0 b n k q w) (hp : Put B w k s w') : ∃ k', TwI B Z k0 b n k' q w' ∧ k'.sk = s := by
  obtain ⟨k', h1, h2, h3, h4, h5⟩ := hp
  have hlt := h.tw.rs.lt
  have hbl := h.tw.rs.bl
  refine ⟨k', ⟨⟨h1, h.tw.rs.only h4 h.tw.nb h.tw.dj, fun hi => ?_, fun i hi hk => ?_, h.tw.ge⟩, h3.trans h.kb, h.only.step h4 (fun i hi => ?_), fun i hi => ?_⟩, h2⟩
  · rcases h5 b hi with h9 | h9
    · exact h.tw.nb h9
    · omega
  · rcases h5 i hk with h9 | h9
    · exact h.tw.dj i hi h9
    · have := hlt i hi
      omega
  · rcases h.blk i hi with h9 | h9
    · exact .inl (.inl h9)
    · exact .inr h9
  · rcases h5 i hi with h9 | h9
    · exact h.blk i h9
    · exact .inr (Nat.le_trans h.only.size h9)
theorem TwI.refc {B : Nat} {Z : World} {k0 k : PK} {b n : Nat} {q : QK} {w w' : World} {s : SK} (h : TwI B Z k0 b n k q w) (hp : RPut w b n q s w') : ∃ q', TwI B Z k0 b n k q' w' ∧ q'.sk = s := by
  obtain ⟨q', h1, h2, h3, h4⟩ := hp
  refine ⟨q', ⟨⟨h.tw.ps.only h3 (fun i hi e => h.tw.nb (by rw [← (show i = b from e)]; exact hi)), h1, h.tw.nb, fun i hi hk => ?_, h.tw.ge⟩, h.kb, h.only.step h3 (fun i hi => .inl (.inr hi)), h.blk⟩, h2⟩
  rcases h4 i hi with h9 | h9
  · exact h.tw.dj i h9 hk
  · have := (h.tw.ps.lt hk).2
    omega
theorem k_done {k : PK} {s : SK} (h : k.sk = s) (hd : s.done.length < 17592186044416) : k.done.length < 17592186044416 := by rw [← h] at hd; exact hd
theorem k_done2 {k : PK} {s : SK} (h : k.sk = s) (hd : s.done.length < 17592186044416) : k.done.length < 4611686018427387904 := by have := k_done h hd; omega
theorem k_vec {k : PK} {s : SK} {n : Nat} (h : k.sk = s) (hv : s.vec.length = n) : k.vec.length = n := by rw [← h] at hv; exact hv
theorem q_done {q : QK} {s : SK} (h : q.sk = s) (hd : s.done.length < 17592186044416) : q.done.length < 17592186044416 := by rw [← h] at hd; exact hd
theorem q_vec {q : QK} {s : SK} {n : Nat} (h : q.sk = s) (hv : s.vec.length = n) : q.vec.length = n := by rw [← h] at hv; exact hv
def doS (n : Nat) (s : SK) (o : OP) : SK := if o.d = 0 then fenS s o.x.t.ep else if o.d = 1 then preS n s o.x.t else if o.d = 2 then comS s o.x.t.ep o.x.t.id else if o.d = 3 then aboS s o.x.t.ep o.x.t.id else s
set_option maxRecDepth 100000 in
set_option maxHeartbeats 16000000 in
theorem does_any {W : World} {B b n : Nat} {k : PK} {q : QK} {y : OP} (h : TwS B W k b n q) (hs : q.sk = k.sk) (hn : k.vec.length = n) (hdn : k.done.length < 17592186044416) (hx : y.x.ok W) (hxb : ∀ i, y.x.blk i → ¬ k.blk i ∧ ¬ i = b ∧ i < W.heap.size) :
    Calls Try.prog 11 #[.pointer (some ⟨k.b, 0, none⟩), .pointer (some ⟨b, 0, none⟩), .agg #[.int .i64 y.d, .int .i64 y.x.t.ep, .int .i64 y.x.t.id, .int .i64 y.x.t.beg, .slice y.x.rp y.x.t.rs.length y.x.rc, .slice y.x.vp y.x.t.vs.length y.x.vc]] W fun e w' => e = .returned (.bool true) ∧ ∃ k' q', TwI B W k b n k' q' w' ∧ k'.sk = doS n k.sk y ∧ q'.sk = k'.sk := by
  have HW := hide h
  have HSE := hide hs
  have HNN := hide hn
  have HDN := hide hdn
  have HX := hide hx
  have HXB := hide hxb
  clear h hs hn hdn hx hxb
  obtain ⟨V, hV⟩ : ∃ V, V = W.alloc (.cells #[.int .i64 y.d, .int .i64 y.x.t.ep, .int .i64 y.x.t.id, .int .i64 y.x.t.beg, .slice y.x.rp y.x.t.rs.length y.x.rc, .slice y.x.vp y.x.t.vs.length y.x.vc] 36 (0, 0)) := ⟨_, rfl⟩
  have HO : Hid (V.heap[W.heap.size]? = some (.cells #[.int .i64 y.d, .int .i64 y.x.t.ep, .int .i64 y.x.t.id, .int .i64 y.x.t.beg, .slice y.x.rp y.x.t.rs.length y.x.rc, .slice y.x.vp y.x.t.vs.length y.x.vc] 36 (0, 0))) := hide (by rw [hV]; exact heap_alloc_new W _)
  have HBO : Hid (Below W.heap.size W V) := hide (by rw [hV]; exact alloc_below _ _)
  obtain ⟨oB, hoB⟩ : ∃ oB, W.heap.size = oB := ⟨_, rfl⟩
  rw [hoB] at HO HBO
  have HZoB := hide hoB
  have HBW : Hid (Below W.heap.size W V) := hide (by rw [HZoB.out]; exact HBO.out)
  have HI : Hid (TwI B V k b n k q V) := hide (TwI.start (HW.out.later HBW.out))
  have HXV := hide (HX.out.later HBW.out)
  have HSZ : Hid (W.heap.size ≤ V.heap.size) := hide HBW.out.size
  have HOB : Hid (¬ (k.blk oB ∨ oB = b)) := hide (fun h9 => by
    have hz := HZoB.out
    rcases h9 with h9 | h9
    · have := (HW.out.ps.lt h9).2; omega
    · have := HW.out.rs.bl; omega)
  go_enter Try.func11, Try.ntmps11
  go_upto_region 1 with fail
  rw [← hV]
  try rw [hoB]
  clear hV hoB
  have u0 := cellB HO.out (i := 0) rfl
  have u1 := cellB HO.out (i := 1) rfl
  have u2 := cellB HO.out (i := 2) rfl
  have u3 := cellB HO.out (i := 3) rfl
  have u4 := cellB HO.out (i := 4) rfl
  have u5 := cellB HO.out (i := 5) rfl
  by_cases h0 : y.d = 0
  · have d0 : (y.d == 0) = true := by simpa using h0
    have HDO : Hid (doS n k.sk y = fenS k.sk y.x.t.ep) := hide (if_pos h0)
    clear h0
    go_upto_region 3 with fail
    have HI0 : Hid (TwI B V k b n k q V.drew) := hide (HI.out.later (Below.refl _ V).drew)
    obtain ⟨s0, hs0⟩ : ∃ s0, k.sk = s0 := ⟨_, rfl⟩
    have HKS0 := hide hs0
    have HQS0 : Hid (q.sk = s0) := hide (HSE.out.trans hs0)
    have HD0 : Hid (s0.done.length < 17592186044416 ∧ s0.vec.length = n ∧ okS s0) := hide (by rw [← hs0]; exact ⟨HDN.out, HNN.out, HW.out.ps.ok⟩)
    clear hs0
    refine wp_region_held_drew (S := fun w9 => Only (fun i => k.blk i ∨ i = b) V w9) (by kernel_rfl) HI0.out.only (fun hHeld => ?_)
    refine tb 0 ?_ rfl (by kernel_rfl) (fun _ _ _ h => h) (by assumption) ?_ ?_
    rotate_left
    · intro w hSw
      go_simp
      all_goals with_reducible rfl
    simp only [Act.put]
    refine tb 1 ?_ rfl (by kernel_rfl) (fun _ _ _ h => h) (by assumption) ?_ ?_
    rotate_left
    · intro w hSw
      go_simp
      all_goals with_reducible rfl
    simp only [Act.put]
    refine tb 2 ?_ rfl (by kernel_rfl) (fun _ _ _ h => h) (by assumption) ?_ ?_
    rotate_left
    · intro w hSw
      go_simp
      all_goals with_reducible rfl
    simp only [Act.put]
    refine tb 3 ?_ rfl (by kernel_rfl) (fun _ _ _ h => h) (by assumption) ?_ ?_
    rotate_left
    · intro w hSw
      have l0 := hSw.cell u0 HOB.out
      have l1 := hSw.cell u1 HOB.out
      have l2 := hSw.cell u2 HOB.out
      have l3 := hSw.cell u3 HOB.out
      have l4 := hSw.cell u4 HOB.out
      have l5 := hSw.cell u5 HOB.out
      go_simp
      all_goals with_reducible rfl
    simp only [Act.put]
    refine tb 5 ?_ rfl (by kernel_rfl) (fun _ _ _ h => h) (by assumption) ?_ ?_
    rotate_left
    · intro w hSw
      go_simp
      all_goals with_reducible rfl
    simp only [Act.put]
    refine tb 6 ?_ rfl (by kernel_rfl) (fun _ _ _ h => h) (by assumption) ?_ ?_
    rotate_left
    · intro w hSw
      go_simp
      all_goals with_reducible rfl
    simp only [Act.put]
    refine tb 7 ?_ rfl (by kernel_rfl) (fun _ _ _ h => h) (by assumption) ?_ ?_
    rotate_left
    · intro w hSw
      go_simp
      all_goals with_reducible rfl
    simp only [Act.put]
    refine tb 8 ?_ rfl (by kernel_rfl) (fun _ _ _ h => h) (by assumption) ?_ ?_
    rotate_left
    · intro w hSw
      have l0 := hSw.cell u0 HOB.out
      have l1 := hSw.cell u1 HOB.out
      have l2 := hSw.cell u2 HOB.out
      have l3 := hSw.cell u3 HOB.out
      have l4 := hSw.cell u4 HOB.out
      have l5 := hSw.cell u5 HOB.out
      go_simp
      all_goals with_reducible rfl
    simp only [Act.put]
    refine rr 4 (o := _) rfl (by kernel_rfl) (fun K hK => ?_)
    go_simp
    rw [← HI0.out.kb]
    refine (fence_any HI0.out.tw.ps).mono ?_
    rintro _ x1 ⟨rfl, hput⟩
    obtain ⟨k1, hi9, hs9⟩ := HI0.out.prog hput
    have HI1 := hide hi9
    rw [HKS0.out] at hs9
    have HKS1 := hide hs9
    rw [HKS0.out]
    rw [HI0.out.kb]
    clear hput hi9 hs9
    go_wp2_with fail
    refine hK.out _ _ HI1.out.only (fun hHeld => ?_)
    clear hK
    refine rr 9 (o := _) rfl (by kernel_rfl) (fun K hK => ?_)
    go_simp
    refine (rfence_any HI1.out.tw.rs).mono ?_
    rintro _ x2 ⟨rfl, hput⟩
    obtain ⟨q2, hi9, hs9⟩ := HI1.out.refc hput
    have HI2 := hide hi9
    rw [HQS0.out] at hs9
    have HQS2 := hide hs9
    rw [HQS0.out]
    clear hput hi9 hs9
    go_wp2_with fail
    refine hK.out _ _ HI2.out.only (fun hHeld => ?_)
    clear hK
    refine tb 10 ?_ rfl (by kernel_rfl) (fun _ _ _ h => h) (by assumption) ?_ ?_
    rotate_left
    · intro w hSw
      go_simp
      all_goals with_reducible rfl
    simp only [Act.put]
    refine rr 11 (o := _) rfl (by kernel_rfl) (fun K hK => ?_)
    go_simp
    refine hK.out _ _ HI2.out.only (fun hHeld => ?_)
    clear hK
    refine wpAnyH_done (by kernel_rfl) ?_ _
    clear u0 u1 u2 u3 u4 u5
    go_wp2
    go_ret
    exact ⟨by first | rfl | simp, k1, q2, HI2.out.first HBW.out, by rw [HKS1.out, HDO.out, HKS0.out], by rw [HQS2.out, HKS1.out]⟩
  · have d0 : (y.d == 0) = false := by simpa using h0
    by_cases h1 : y.d = 1
    · have d1 : (y.d == 1) = true := by simpa using h1
      have HDO : Hid (doS n k.sk y = preS n k.sk y.x.t) := hide (by unfold doS; rw [if_neg h0, if_pos h1])
      clear h0 h1
      go_upto_region 5 with fail
      have HI0 : Hid (TwI B V k b n k q V.drew) := hide (HI.out.later (Below.refl _ V).drew)
      obtain ⟨s0, hs0⟩ : ∃ s0, k.sk = s0 := ⟨_, rfl⟩
      have HKS0 := hide hs0
      have HQS0 : Hid (q.sk = s0) := hide (HSE.out.trans hs0)
      have HD0 : Hid (s0.done.length < 17592186044416 ∧ s0.vec.length = n ∧ okS s0) := hide (by rw [← hs0]; exact ⟨HDN.out, HNN.out, HW.out.ps.ok⟩)
      clear hs0
      refine wp_region_held_drew (S := fun w9 => Only (fun i => k.blk i ∨ i = b) V w9) (by kernel_rfl) HI0.out.only (fun hHeld => ?_)
      refine tb 0 ?_ rfl (by kernel_rfl) (fun _ _ _ h => h) (by assumption) ?_ ?_
      rotate_left
      · intro w hSw
        go_simp
        all_goals with_reducible rfl
      simp only [Act.put]
      refine tb 1 ?_ rfl (by kernel_rfl) (fun _ _ _ h => h) (by assumption) ?_ ?_
      rotate_left
      · intro w hSw
        go_simp
        all_goals with_reducible rfl
      simp only [Act.put]
      refine tb 2 ?_ rfl (by kernel_rfl) (fun _ _ _ h => h) (by assumption) ?_ ?_
      rotate_left
      · intro w hSw
        have l0 := hSw.cell u0 HOB.out
        have l1 := hSw.cell u1 HOB.out
        have l2 := hSw.cell u2 HOB.out
        have l3 := hSw.cell u3 HOB.out
        have l4 := hSw.cell u4 HOB.out
        have l5 := hSw.cell u5 HOB.out
        go_simp
        all_goals with_reducible rfl
      simp only [Act.put]
      refine tb 4 ?_ rfl (by kernel_rfl) (fun _ _ _ h => h) (by assumption) ?_ ?_
      rotate_left
      · intro w hSw
        go_simp
        all_goals with_reducible rfl
      simp only [Act.put]
      refine tb 5 ?_ rfl (by kernel_rfl) (fun _ _ _ h => h) (by assumption) ?_ ?_
      rotate_left
      · intro w hSw
        go_simp
        all_goals with_reducible rfl
      simp only [Act.put]
      refine tb 6 ?_ rfl (by kernel_rfl) (fun _ _ _ h => h) (by assumption) ?_ ?_
      rotate_left
      · intro w hSw
        have l0 := hSw.cell u0 HOB.out
        have l1 := hSw.cell u1 HOB.out
        have l2 := hSw.cell u2 HOB.out
        have l3 := hSw.cell u3 HOB.out
        have l4 := hSw.cell u4 HOB.out
        have l5 := hSw.cell u5 HOB.out
        go_simp
        all_goals with_reducible rfl
      simp only [Act.put]
      refine rr 3 (o := _) rfl (by kernel_rfl) (fun K hK => ?_)
      go_simp
      rw [← HI0.out.kb]
      refine (pre_any (x := y.x) HI0.out.tw.ps (HXV.out.only HI0.out.only (fun i hi e9 => by have h9 := HXB.out i hi; rcases e9 with e9 | e9; exact h9.1 e9; exact h9.2.1 e9)) (fun i hi hb9 => by have h9 := HXB.out i hi; rcases HI0.out.blk i hb9 with e9 | e9; exact h9.1 e9; have := HSZ.out; omega) (k_done2 HKS0.out HD0.out.1)).mono ?_
      rintro _ x1 ⟨rfl, hput⟩
      obtain ⟨k1, hi9, hs9⟩ := HI0.out.prog hput
      have HI1 := hide hi9
      rw [HKS0.out] at hs9
      rw [k_vec HKS0.out HD0.out.2.1] at hs9
      have HKS1 := hide hs9
      rw [HKS0.out]
      rw [k_vec HKS0.out HD0.out.2.1]
      rw [HI0.out.kb]
      clear hput hi9 hs9
      go_wp2_with fail
      refine hK.out _ _ HI1.out.only (fun hHeld => ?_)
      clear hK
      refine rr 7 (o := _) rfl (by kernel_rfl) (fun K hK => ?_)
      go_simp
      refine (rpre_any (x := y.x) HI1.out.tw.rs (by rw [HQS0.out]; exact HD0.out.2.2) (q_vec HQS0.out HD0.out.2.1) (HXV.out.only HI1.out.only (fun i hi e9 => by have h9 := HXB.out i hi; rcases e9 with e9 | e9; exact h9.1 e9; exact h9.2.1 e9)) (fun i hi => (HXB.out i hi).2.1)).mono ?_
      rintro _ x2 ⟨rfl, hput⟩
      obtain ⟨q2, hi9, hs9⟩ := HI1.out.refc hput
      have HI2 := hide hi9
      rw [HQS0.out] at hs9
      have HQS2 := hide hs9
      rw [HQS0.out]
      clear hput hi9 hs9
      go_wp2_with fail
      refine hK.out _ _ HI2.out.only (fun hHeld => ?_)
      clear hK
      refine tb 8 ?_ rfl (by kernel_rfl) (fun _ _ _ h => h) (by assumption) ?_ ?_
      rotate_left
      · intro w hSw
        go_simp
        all_goals with_reducible rfl
      simp only [Act.put]
      refine rr 9 (o := _) rfl (by kernel_rfl) (fun K hK => ?_)
      go_simp
      refine hK.out _ _ HI2.out.only (fun hHeld => ?_)
      clear hK
      refine wpAnyH_done (by kernel_rfl) ?_ _
      clear u0 u1 u2 u3 u4 u5
      go_wp2
      go_ret
      exact ⟨by first | rfl | simp, k1, q2, HI2.out.first HBW.out, by rw [HKS1.out, HDO.out, HKS0.out], by rw [HQS2.out, HKS1.out]⟩
    · have d1 : (y.d == 1) = false := by simpa using h1
      by_cases h2 : y.d = 2
      · have d2 : (y.d == 2) = true := by simpa using h2
        have HDO : Hid (doS n k.sk y = comS k.sk y.x.t.ep y.x.t.id) := hide (by unfold doS; rw [if_neg h0, if_neg h1, if_pos h2])
        clear h0 h1 h2
        go_upto_region 7 with fail
        have HI0 : Hid (TwI B V k b n k q V.drew) := hide (HI.out.later (Below.refl _ V).drew)
        obtain ⟨s0, hs0⟩ : ∃ s0, k.sk = s0 := ⟨_, rfl⟩
        have HKS0 := hide hs0
        have HQS0 : Hid (q.sk = s0) := hide (HSE.out.trans hs0)
        have HD0 : Hid (s0.done.length < 17592186044416 ∧ s0.vec.length = n ∧ okS s0) := hide (by rw [← hs0]; exact ⟨HDN.out, HNN.out, HW.out.ps.ok⟩)
        clear hs0
        refine wp_region_held_drew (S := fun w9 => Only (fun i => k.blk i ∨ i = b) V w9) (by kernel_rfl) HI0.out.only (fun hHeld => ?_)
        refine tb 0 ?_ rfl (by kernel_rfl) (fun _ _ _ h => h) (by assumption) ?_ ?_
        rotate_left
        · intro w hSw
          go_simp
          all_goals with_reducible rfl
        simp only [Act.put]
        refine tb 1 ?_ rfl (by kernel_rfl) (fun _ _ _ h => h) (by assumption) ?_ ?_
        rotate_left
        · intro w hSw
          have l0 := hSw.cell u0 HOB.out
          have l1 := hSw.cell u1 HOB.out
          have l2 := hSw.cell u2 HOB.out
          have l3 := hSw.cell u3 HOB.out
          have l4 := hSw.cell u4 HOB.out
          have l5 := hSw.cell u5 HOB.out
          go_simp
          all_goals with_reducible rfl
        simp only [Act.put]
        refine tb 4 ?_ rfl (by kernel_rfl) (fun _ _ _ h => h) (by assumption) ?_ ?_
        rotate_left
        · intro w hSw
          go_simp
          all_goals with_reducible rfl
        simp only [Act.put]
        refine tb 5 ?_ rfl (by kernel_rfl) (fun _ _ _ h => h) (by assumption) ?_ ?_
        rotate_left
        · intro w hSw
          have l0 := hSw.cell u0 HOB.out
          have l1 := hSw.cell u1 HOB.out
          have l2 := hSw.cell u2 HOB.out
          have l3 := hSw.cell u3 HOB.out
          have l4 := hSw.cell u4 HOB.out
          have l5 := hSw.cell u5 HOB.out
          go_simp
          all_goals with_reducible rfl
        simp only [Act.put]
        refine rr 2 (o := _) rfl (by kernel_rfl) (fun K hK => ?_)
        go_simp
        refine key_any.mono ?_
        rintro _ x1 ⟨rfl, b0⟩
        have HI1 := hide (HI0.out.later b0)
        clear b0
        go_wp2_with fail
        refine hK.out _ _ HI1.out.only (fun hHeld => ?_)
        clear hK
        refine rr 3 (o := _) rfl (by kernel_rfl) (fun K hK => ?_)
        go_simp
        rw [← HI1.out.kb]
        refine (commit_any HI1.out.tw.ps (k_done HKS0.out HD0.out.1)).mono ?_
        rintro _ x2 ⟨rfl, hput⟩
        obtain ⟨k2, hi9, hs9⟩ := HI1.out.prog hput
        have HI2 := hide hi9
        rw [HKS0.out] at hs9
        have HKS2 := hide hs9
        rw [HKS0.out]
        rw [HI1.out.kb]
        clear hput hi9 hs9
        go_wp2_with fail
        refine hK.out _ _ HI2.out.only (fun hHeld => ?_)
        clear hK
        refine rr 6 (o := _) rfl (by kernel_rfl) (fun K hK => ?_)
        go_simp
        refine key_any.mono ?_
        rintro _ x3 ⟨rfl, b0⟩
        have HI3 := hide (HI2.out.later b0)
        clear b0
        go_wp2_with fail
        refine hK.out _ _ HI3.out.only (fun hHeld => ?_)
        clear hK
        refine rr 7 (o := _) rfl (by kernel_rfl) (fun K hK => ?_)
        go_simp
        refine (rcommit_any HI3.out.tw.rs (by rw [HQS0.out]; exact HD0.out.2.2) (q_vec HQS0.out HD0.out.2.1) (q_done HQS0.out HD0.out.1)).mono ?_
        rintro _ x4 ⟨rfl, hput⟩
        obtain ⟨q4, hi9, hs9⟩ := HI3.out.refc hput
        have HI4 := hide hi9
        rw [HQS0.out] at hs9
        have HQS4 := hide hs9
        rw [HQS0.out]
        clear hput hi9 hs9
        go_wp2_with fail
        refine hK.out _ _ HI4.out.only (fun hHeld => ?_)
        clear hK
        refine tb 8 ?_ rfl (by kernel_rfl) (fun _ _ _ h => h) (by assumption) ?_ ?_
        rotate_left
        · intro w hSw
          go_simp
          all_goals with_reducible rfl
        simp only [Act.put]
        refine rr 9 (o := _) rfl (by kernel_rfl) (fun K hK => ?_)
        go_simp
        refine hK.out _ _ HI4.out.only (fun hHeld => ?_)
        clear hK
        refine wpAnyH_done (by kernel_rfl) ?_ _
        clear u0 u1 u2 u3 u4 u5
        go_wp2
        go_ret
        exact ⟨by first | rfl | simp, k2, q4, HI4.out.first HBW.out, by rw [HKS2.out, HDO.out, HKS0.out], by rw [HQS4.out, HKS2.out]⟩
      · have d2 : (y.d == 2) = false := by simpa using h2
        by_cases h3 : y.d = 3
        · have d3 : (y.d == 3) = true := by simpa using h3
          have HDO : Hid (doS n k.sk y = aboS k.sk y.x.t.ep y.x.t.id) := hide (by unfold doS; rw [if_neg h0, if_neg h1, if_neg h2, if_pos h3])
          clear h0 h1 h2 h3
          go_upto_region 9 with fail
          have HI0 : Hid (TwI B V k b n k q V.drew) := hide (HI.out.later (Below.refl _ V).drew)
          obtain ⟨s0, hs0⟩ : ∃ s0, k.sk = s0 := ⟨_, rfl⟩
          have HKS0 := hide hs0
          have HQS0 : Hid (q.sk = s0) := hide (HSE.out.trans hs0)
          have HD0 : Hid (s0.done.length < 17592186044416 ∧ s0.vec.length = n ∧ okS s0) := hide (by rw [← hs0]; exact ⟨HDN.out, HNN.out, HW.out.ps.ok⟩)
          clear hs0
          refine wp_region_held_drew (S := fun w9 => Only (fun i => k.blk i ∨ i = b) V w9) (by kernel_rfl) HI0.out.only (fun hHeld => ?_)
          refine tb 0 ?_ rfl (by kernel_rfl) (fun _ _ _ h => h) (by assumption) ?_ ?_
          rotate_left
          · intro w hSw
            go_simp
            all_goals with_reducible rfl
          simp only [Act.put]
          refine tb 1 ?_ rfl (by kernel_rfl) (fun _ _ _ h => h) (by assumption) ?_ ?_
          rotate_left
          · intro w hSw
            have l0 := hSw.cell u0 HOB.out
            have l1 := hSw.cell u1 HOB.out
            have l2 := hSw.cell u2 HOB.out
            have l3 := hSw.cell u3 HOB.out
            have l4 := hSw.cell u4 HOB.out
            have l5 := hSw.cell u5 HOB.out
            go_simp
            all_goals with_reducible rfl
          simp only [Act.put]
          refine tb 4 ?_ rfl (by kernel_rfl) (fun _ _ _ h => h) (by assumption) ?_ ?_
          rotate_left
          · intro w hSw
            go_simp
            all_goals with_reducible rfl
          simp only [Act.put]
          refine tb 5 ?_ rfl (by kernel_rfl) (fun _ _ _ h => h) (by assumption) ?_ ?_
          rotate_left
          · intro w hSw
            have l0 := hSw.cell u0 HOB.out
            have l1 := hSw.cell u1 HOB.out
            have l2 := hSw.cell u2 HOB.out
            have l3 := hSw.cell u3 HOB.out
            have l4 := hSw.cell u4 HOB.out
            have l5 := hSw.cell u5 HOB.out
            go_simp
            all_goals with_reducible rfl
          simp only [Act.put]
          refine rr 2 (o := _) rfl (by kernel_rfl) (fun K hK => ?_)
          go_simp
          refine key_any.mono ?_
          rintro _ x1 ⟨rfl, b0⟩
          have HI1 := hide (HI0.out.later b0)
          clear b0
          go_wp2_with fail
          refine hK.out _ _ HI1.out.only (fun hHeld => ?_)
          clear hK
          refine rr 3 (o := _) rfl (by kernel_rfl) (fun K hK => ?_)
          go_simp
          rw [← HI1.out.kb]
          refine (abort_any HI1.out.tw.ps (k_done HKS0.out HD0.out.1)).mono ?_
          rintro _ x2 ⟨rfl, hput⟩
          obtain ⟨k2, hi9, hs9⟩ := HI1.out.prog hput
          have HI2 := hide hi9
          rw [HKS0.out] at hs9
          have HKS2 := hide hs9
          rw [HKS0.out]
          rw [HI1.out.kb]
          clear hput hi9 hs9
          go_wp2_with fail
          refine hK.out _ _ HI2.out.only (fun hHeld => ?_)
          clear hK
          refine rr 6 (o := _) rfl (by kernel_rfl) (fun K hK => ?_)
          go_simp
          refine key_any.mono ?_
          rintro _ x3 ⟨rfl, b0⟩
          have HI3 := hide (HI2.out.later b0)
          clear b0
          go_wp2_with fail
          refine hK.out _ _ HI3.out.only (fun hHeld => ?_)
          clear hK
          refine rr 7 (o := _) rfl (by kernel_rfl) (fun K hK => ?_)
          go_simp
          refine (rabort_any HI3.out.tw.rs (by rw [HQS0.out]; exact HD0.out.2.2)).mono ?_
          rintro _ x4 ⟨rfl, hput⟩
          obtain ⟨q4, hi9, hs9⟩ := HI3.out.refc hput
          have HI4 := hide hi9
          rw [HQS0.out] at hs9
          have HQS4 := hide hs9
          rw [HQS0.out]
          clear hput hi9 hs9
          go_wp2_with fail
          refine hK.out _ _ HI4.out.only (fun hHeld => ?_)
          clear hK
          refine tb 8 ?_ rfl (by kernel_rfl) (fun _ _ _ h => h) (by assumption) ?_ ?_
          rotate_left
          · intro w hSw
            go_simp
            all_goals with_reducible rfl
          simp only [Act.put]
          refine rr 9 (o := _) rfl (by kernel_rfl) (fun K hK => ?_)
          go_simp
          refine hK.out _ _ HI4.out.only (fun hHeld => ?_)
          clear hK
          refine wpAnyH_done (by kernel_rfl) ?_ _
          clear u0 u1 u2 u3 u4 u5
          go_wp2
          go_ret
          exact ⟨by first | rfl | simp, k2, q4, HI4.out.first HBW.out, by rw [HKS2.out, HDO.out, HKS0.out], by rw [HQS4.out, HKS2.out]⟩
        · have d3 : (y.d == 3) = false := by simpa using h3
          have HDO : Hid (doS n k.sk y = k.sk) := hide (by unfold doS; rw [if_neg h0, if_neg h1, if_neg h2, if_neg h3])
          clear h0 h1 h2 h3 u1 u2 u3 u4 u5
          go_wp2
          go_ret
          exact ⟨rfl, k, q, HI.out.first HBW.out, HDO.out.symm, HSE.out⟩
end Go.Proofs.Ytboofnkajjnmeaa
