/-
  Clone of the program's sink, whatever order its map is gone through. The conditions: that it lies there; lengths.
-/
import Derived.Test.YtboofnkajjnmeaaSra
import Derived.Test.YtboofnkajjnmeaaSkr
import Derived.Test.YtboofnkajjnmeaaSkx
import Derived.Test.YtboofnkajjnmeaaSky
import Derived.Test.YtboofnkajjnmeaaTk1
import Derived.Deep.CutRange
namespace Go.Proofs.Ytboofnkajjnmeaa
open Go.RowKit Go.Maps Go.Shelf

theorem tx_sorted : ∀ (l m : List TX), l.Pairwise (fun a b => a.id < b.id) → m.Pairwise (fun a b => a.id < b.id) → (∀ t, t ∈ l ↔ t ∈ m) → l = m
  | [], [], _, _, _ => rfl
  | [], b :: m, _, _, h => absurd ((h b).2 (List.mem_cons_self ..)) (by simp)
  | a :: l, [], _, _, h => absurd ((h a).1 (List.mem_cons_self ..)) (by simp)
  | a :: l, b :: m, hl, hm, h => by
    obtain ⟨l1, l2⟩ := List.pairwise_cons.1 hl
    obtain ⟨m1, m2⟩ := List.pairwise_cons.1 hm
    have hab : a = b := by
      rcases List.mem_cons.1 ((h a).1 (List.mem_cons_self ..)) with e | e
      · exact e
      · rcases List.mem_cons.1 ((h b).2 (List.mem_cons_self ..)) with e2 | e2
        · exact e2.symm
        · have := m1 a e
          have := l1 b e2
          omega
    subst hab
    rw [tx_sorted l m l2 m2 (fun t => ?_)]
    constructor
    · intro ht
      rcases List.mem_cons.1 ((h t).1 (List.mem_cons_of_mem _ ht)) with e | e
      · have := l1 t ht
        rw [e] at this
        omega
      · exact e
    · intro ht
      rcases List.mem_cons.1 ((h t).2 (List.mem_cons_of_mem _ ht)) with e | e
      · have := m1 t ht
        rw [e] at this
        omega
      · exact e
structure CloI (W : World) (cb : Nat) (k : PK) (ss : List (Int × Int)) (k2 : PK) (w : World) : Prop where
  ps : PS W.heap.size w k2
  b : k2.b = cb
  eq : k2.reg = k.reg ∧ k2.out = k.out ∧ k2.vec = k.vec ∧ k2.done = k.done
  mem : ∀ t, t ∈ k2.xs.map TP.t ↔ ∃ x ∈ k.xs, x.t = t ∧ x.nm ∈ ss
  len : k2.xs.length = ss.length
  below : Below W.heap.size W w
theorem CloI.later {W w w' : World} {cb : Nat} {k k2 : PK} {ss : List (Int × Int)} (h : CloI W cb k ss k2 w) (hb : Below w.heap.size w w') : CloI W cb k ss k2 w' := ⟨h.ps.later hb, h.b, h.eq, h.mem, h.len, h.below.trans (hb.mono h.below.size)⟩
theorem CloI.only {W w w' : World} {cb r : Nat} {k k2 : PK} {ss : List (Int × Int)} (h : CloI W cb k ss k2 w) (ho : Only (· = r) w w') (hr : W.heap.size ≤ r) (hn : ∀ i, k2.blk i → ¬ i = r) : CloI W cb k ss k2 w' := ⟨h.ps.only ho hn, h.b, h.eq, h.mem, h.len, h.below.trans (ho.below h.below.size (fun i e => by rw [e]; exact hr))⟩
theorem nm_inj {k : PK} (hN : Named k.xs k.reg) {x y : TP} (hx : x ∈ k.xs) (hy : y ∈ k.xs) (h : x.t.id = y.t.id) : x = y := pair_eq hN.apart hx hy h
theorem CloI.end_ {W w : World} {cb : Nat} {k k2 : PK} {ss : List (Int × Int)} (h : CloI W cb k ss k2 w) (hk : okS k.sk) (hp : ∀ x ∈ k.xs, x.nm ∈ ss) : k2.sk = k.sk := by
  obtain ⟨e1, e2, e3, e4⟩ := h.eq
  have e5 : k2.xs.map TP.t = k.xs.map TP.t := tx_sorted _ _ h.ps.ok.pre hk.pre (fun t => by
    rw [h.mem t, List.mem_map]
    constructor
    · rintro ⟨x, hx, e, _⟩
      exact ⟨x, hx, e⟩
    · rintro ⟨x, hx, e⟩
      exact ⟨x, hx, e, hp x hx⟩)
  unfold PK.sk
  rw [e1, e2, e3, e4, e5]
theorem CloI.next {W w w1 w8 : World} {cb : Nat} {k k2 : PK} {ss : List (Int × Int)} {x y : TP} (h : CloI W cb k ss k2 w) (hy : y.t = x.t) (hN : Named k.xs k.reg) (hx : x ∈ k.xs) (hp : PS W.heap.size w8 ⟨k2.b, k2.mb, k2.op, k2.oc, k2.vp, k2.vc, k2.dp, k2.dc, k2.reg, k2.out, k2.vec, k2.done, insP y k2.xs⟩) (ho : Only (· = k2.mb) w1 w8) (hb : Below w.heap.size w w1) :
    CloI W cb k (ss ++ [x.nm]) ⟨k2.b, k2.mb, k2.op, k2.oc, k2.vp, k2.vc, k2.dp, k2.dc, k2.reg, k2.out, k2.vec, k2.done, insP y k2.xs⟩ w8 := by
  refine ⟨hp, h.b, h.eq, fun t => ?_, ?_, (h.below.trans (hb.mono h.below.size)).trans (ho.below (Nat.le_trans h.below.size hb.size) (fun i e => by rw [e]; exact h.ps.ge.2))⟩
  · show t ∈ (insP y k2.xs).map TP.t ↔ _
    rw [insP_map, insT_mem, h.mem t, hy]
    constructor
    · rintro (e | ⟨z, hz, e, hs⟩)
      · exact ⟨x, hx, e.symm, by simp⟩
      · exact ⟨z, hz, e, List.mem_append.2 (.inl hs)⟩
    · rintro ⟨z, hz, e, hs⟩
      rcases List.mem_append.1 hs with hs | hs
      · exact .inr ⟨z, hz, e, hs⟩
      · simp only [List.mem_singleton] at hs
        have hzx : z = x := nm_inj hN hz hx (by have := congrArg Prod.snd hs; exact this)
        exact .inl (by rw [← e, hzx])
  · show (insP y k2.xs).length = _
    rw [(insP_perm _ _).length_eq, List.length_cons, h.len, List.length_append]
    rfl
theorem CloI.none {W w : World} {cb : Nat} {k k2 : PK} {ss : List (Int × Int)} {x : TP} (h : CloI W cb k ss k2 w) (hN : Named k.xs k.reg) (hx : x ∈ k.xs) (hn : x.nm ∉ ss) : findC k2.sk x.t.id = none := no_find (fun t ht e => by
  obtain ⟨z, hz, e2, hs⟩ := (h.mem t).1 ht
  have hzx : z = x := nm_inj hN hz hx (by rw [e2, e])
  rw [hzx] at hs
  exact hn hs)
theorem at_ent {xs : List TP} {L : List (Lit × DataW Value)} {reg : Int} (hN : Named xs reg) (hL : L.Perm (xs.map ent)) {x : TP} (hx : x ∈ xs) {c : Value} {y : DataW Value × List MemPlace} (hv : valR c = some y) (hat : ∀ z, (DataW.map L).atKey (keyL x.t.ep x.t.id) z = y.1) : c = .agg x.row := by
  obtain ⟨a0, a1, a2⟩ := hN.ep x hx
  have hf := find_L hN hL a0 a1 a2
  rw [find_nm hN hx] at hf
  have h9 := hat (.lit (.bool true))
  unfold DataW.atKey at h9
  simp only [hf] at h9
  unfold valR at hv
  simp only [Option.some.injEq] at hv
  rw [← hv] at h9
  have h8 : DataW.held (.agg x.row) = DataW.held c := h9
  injection h8 with h7
  exact h7.symm
set_option maxRecDepth 100000 in
set_option maxHeartbeats 16000000 in
theorem clone_any {W : World} {B : Nat} {k : PK} (h : PS B W k) (hdn : k.done.length < 17592186044416) :
    Calls Try.prog 13 #[.pointer (some ⟨k.b, 0, none⟩)] W fun e w' => ∃ k' : PK, e = .returned (.pointer (some ⟨k'.b, 0, none⟩)) ∧ PS W.heap.size w' k' ∧ k'.sk = k.sk ∧ Below W.heap.size W w' := by
  have HP := hide h
  have HBD : Hid (k.out.length ≤ 4096 ∧ k.vec.length ≤ 4 ∧ k.done.length < 17592186044416 ∧ k.xs.length ≤ 8) := hide ⟨h.ok.out, h.ok.parts.2, hdn, by have h9 := h.ok.room; simpa [PK.sk] using h9⟩
  clear h hdn
  go_enter Try.func13, Try.ntmps13
  go_wp2_with fail
  refine (made_yes HP.out).mono ?_
  rintro _ _ ⟨rfl, rfl⟩
  rename World => W
  go_upto_region 3 with fail
  have ck0 := HP.out.c0
  have ck1 := HP.out.c1
  have ck2 := HP.out.c2
  have ck3 := HP.out.c3
  have HB0 : Hid (Below W.heap.size W W.drew) := hide (Below.refl _ W).drew
  go_cut [3] from 9 to 31 (fun s wd => ∃ cb mB p1 c1 p2 c2 p3 c3, s = .pointer (some ⟨cb, 0, none⟩) ∧ Hid (wd.heap[cb]? = some (.cells #[.int .i64 k.reg, .slice p1 k.out.length c1, .slice p2 k.vec.length c2, .slice p3 k.done.length c3, .map (some mB)] 63 (0, 0))) ∧ Hid (MapT wd mB 0 []) ∧ Hid (wd.ownsRow W.heap.size 49 2 (.slice p1 k.out.length c1) k.out.length (k.out.flatMap RC.cells)) ∧ Hid (wd.ownsRow W.heap.size 2 1 (.slice p2 k.vec.length c2) k.vec.length (k.vec.flatMap intCells)) ∧ Hid (wd.ownsRow W.heap.size 2 1 (.slice p3 k.done.length c3) k.done.length (k.done.flatMap intCells)) ∧ Hid (Off p2 p3 ∧ W.heap.size ≤ cb ∧ W.heap.size ≤ mB) ∧ Hid (Below W.heap.size W wd))
  case first =>
    have HFA := hide (fun (w9 : World) (hSw : Below W.heap.size W w9) => And.intro (cell_later hSw ck0) (And.intro (cell_later hSw ck1) (And.intro (cell_later hSw ck2) (cell_later hSw ck3))))
    refine wp_region_held_drew (S := fun w9 => Below W.heap.size W w9) (by kernel_rfl) HB0.out (fun hHeld => ?_)
    refine tk 0 9 ?_ rfl rfl (by kernel_rfl) (fun _ _ _ h => h) (by assumption) ?_ ?_; rotate_left
    · intro w hSw; go_simp; all_goals with_reducible rfl
    simp only [Act.put]
    refine tk 1 10 ?_ rfl rfl (by kernel_rfl) (fun _ _ _ h => h) (by assumption) ?_ ?_; rotate_left
    · intro w hSw; go_simp; all_goals with_reducible rfl
    simp only [Act.put]
    refine tk 2 11 ?_ rfl rfl (by kernel_rfl) (fun _ _ _ h => h) (by assumption) ?_ ?_; rotate_left
    · intro w hSw; go_simp; all_goals with_reducible rfl
    simp only [Act.put]
    refine tk 3 12 ?_ rfl rfl (by kernel_rfl) (fun _ _ _ h => h) (by assumption) ?_ ?_; rotate_left
    · intro w hSw; obtain ⟨l0, l1, l2, l3⟩ := HFA.out w hSw; go_simp; all_goals with_reducible rfl
    simp only [Act.put]
    refine tk 4 13 ?_ rfl rfl (by kernel_rfl) (fun _ _ _ h => h) (by assumption) ?_ ?_; rotate_left
    · intro w hSw; go_simp; all_goals with_reducible rfl
    simp only [Act.put]
    refine tk 5 14 ?_ rfl rfl (by kernel_rfl) (fun _ _ _ h => h) (by assumption) ?_ ?_; rotate_left
    · intro w hSw; go_simp; all_goals with_reducible rfl
    simp only [Act.put]
    refine tk 6 15 ?_ rfl rfl (by kernel_rfl) (fun _ _ _ h => h) (by assumption) ?_ ?_; rotate_left
    · intro w hSw; go_simp; all_goals with_reducible rfl
    simp only [Act.put]
    refine tk 7 16 ?_ rfl rfl (by kernel_rfl) (fun _ _ _ h => h) (by assumption) ?_ ?_; rotate_left
    · intro w hSw; obtain ⟨l0, l1, l2, l3⟩ := HFA.out w hSw; go_simp; all_goals with_reducible rfl
    simp only [Act.put]
    refine tk 9 18 ?_ rfl rfl (by kernel_rfl) (fun _ _ _ h => h) (by assumption) ?_ ?_; rotate_left
    · intro w hSw; go_simp; all_goals with_reducible rfl
    simp only [Act.put]
    refine tk 10 19 ?_ rfl rfl (by kernel_rfl) (fun _ _ _ h => h) (by assumption) ?_ ?_; rotate_left
    · intro w hSw; go_simp; all_goals with_reducible rfl
    simp only [Act.put]
    refine tk 11 20 ?_ rfl rfl (by kernel_rfl) (fun _ _ _ h => h) (by assumption) ?_ ?_; rotate_left
    · intro w hSw; go_simp; all_goals with_reducible rfl
    simp only [Act.put]
    refine tk 12 21 ?_ rfl rfl (by kernel_rfl) (fun _ _ _ h => h) (by assumption) ?_ ?_; rotate_left
    · intro w hSw; obtain ⟨l0, l1, l2, l3⟩ := HFA.out w hSw; go_simp; all_goals with_reducible rfl
    simp only [Act.put]
    refine tk 14 23 ?_ rfl rfl (by kernel_rfl) (fun _ _ _ h => h) (by assumption) ?_ ?_; rotate_left
    · intro w hSw; go_simp; all_goals with_reducible rfl
    simp only [Act.put]
    refine tk 15 24 ?_ rfl rfl (by kernel_rfl) (fun _ _ _ h => h) (by assumption) ?_ ?_; rotate_left
    · intro w hSw; go_simp; all_goals with_reducible rfl
    simp only [Act.put]
    refine tk 16 25 ?_ rfl rfl (by kernel_rfl) (fun _ _ _ h => h) (by assumption) ?_ ?_; rotate_left
    · intro w hSw; go_simp; all_goals with_reducible rfl
    simp only [Act.put]
    refine tk 17 26 ?_ rfl rfl (by kernel_rfl) (fun _ _ _ h => h) (by assumption) ?_ ?_; rotate_left
    · intro w hSw; obtain ⟨l0, l1, l2, l3⟩ := HFA.out w hSw; go_simp; all_goals with_reducible rfl
    simp only [Act.put]
    refine rk2 (i := 8) (j := 19) (oi := _) (oj := _) rfl rfl (by kernel_rfl) (by kernel_rfl) (by kernel_rfl) (fun K hK => ?_) (fun K hK => ?_)
    ·
      go_simp
      refine (recClone (HP.out.later HB0.out).orow rfl (by have := HBD.out; omega)).mono ?_
      rintro _ w1 ⟨p1, c1, rfl, hown, b0⟩
      have HB1 : Hid (Below W.heap.size W w1) := hide (HB0.out.trans (b0.mono HB0.out.size))
      have HO1 := hide (ownsRow_base hown HB0.out.size)
      clear hown b0
      go_wp2_with fail
      refine hK.out _ _ HB1.out (fun hHeld => ?_)
      clear hK
      refine rk2 (i := 13) (j := 19) (oi := _) (oj := _) rfl rfl (by kernel_rfl) (by kernel_rfl) (by kernel_rfl) (fun K hK => ?_) (fun K hK => ?_)
      ·
        go_simp
        refine (intClone (HP.out.later HB1.out).vrow rfl (by have := HBD.out; omega)).mono ?_
        rintro _ w2 ⟨p2, c2, rfl, hown, b0⟩
        have HB2 : Hid (Below W.heap.size W w2) := hide (HB1.out.trans (b0.mono HB1.out.size))
        have HO1 := hide (ownsRow_later HO1.out b0)
        have HO2 := hide (ownsRow_base hown HB1.out.size)
        clear hown b0
        go_wp2_with fail
        refine hK.out _ _ HB2.out (fun hHeld => ?_)
        clear hK
        refine rk2 (i := 18) (j := 19) (oi := _) (oj := _) rfl rfl (by kernel_rfl) (by kernel_rfl) (by kernel_rfl) (fun K hK => ?_) (fun K hK => ?_)
        ·
          go_simp
          refine (intClone (HP.out.later HB2.out).drow rfl (by have := HBD.out; omega)).mono ?_
          rintro _ w3 ⟨p3, c3, rfl, hown, b0⟩
          have HB3 : Hid (Below W.heap.size W w3) := hide (HB2.out.trans (b0.mono HB2.out.size))
          have HO2p := HO2
          have HO1 := hide (ownsRow_later HO1.out b0)
          have HO2 := hide (ownsRow_later HO2.out b0)
          have HOF : Hid (Off p2 p3) := hide (fun i hi hj => by
            have h9 := own_block_base hown (InB.to hj)
            have h8 := (row_ge HO2p.out i hi).2
            have h7 : w2.heap.size = w2.heap.size := rfl
            omega)
          have HO3 := hide (ownsRow_base hown HB2.out.size)
          clear hown b0
          go_wp2_with fail
          refine hK.out _ _ HB3.out (fun hHeld => ?_)
          clear hK
          refine rk (i := 19) (o := _) rfl (by kernel_rfl) (by kernel_rfl) (fun K hK => ?_)
          have hmm := @run_mkmapT
          go_simp
          obtain ⟨w4, hw4⟩ : ∃ w9, w9 = w3.alloc (.map #[] 0) := ⟨_, rfl⟩
          rw [← hw4]
          have b0 : Below w3.heap.size w3 w4 := by rw [hw4]; exact alloc_below _ _
          have HB4 : Hid (Below W.heap.size W w4) := hide (HB3.out.trans (b0.mono HB3.out.size))
          obtain ⟨mB, hmB⟩ : ∃ mB, w3.heap.size = mB := ⟨_, rfl⟩
          have HmB : Hid (W.heap.size ≤ mB) := hide (by rw [← hmB]; exact HB3.out.size)
          have HO1 := hide (ownsRow_later HO1.out b0)
          have HO2 := hide (ownsRow_later HO2.out b0)
          have HO3 := hide (ownsRow_later HO3.out b0)
          have HMP : Hid (MapT w4 mB 0 []) := hide (by rw [hw4, ← hmB]; exact MapT.made w3 0)
          clear hmm
          try rw [hmB]
          clear b0 hw4 hmB
          refine hK.out _ _ HB4.out (fun hHeld => ?_)
          clear hK
          refine tk 20 29 ?_ rfl rfl (by kernel_rfl) (fun _ _ _ h => h) (by assumption) ?_ ?_; rotate_left
          · intro w hSw; go_simp; all_goals with_reducible rfl
          simp only [Act.put]
          refine rk (i := 21) (o := _) rfl (by kernel_rfl) (by kernel_rfl) (fun K hK => ?_)
          go_simp
          obtain ⟨w5, hw5⟩ : ∃ w9, w9 = w4.alloc (.cells #[.int .i64 k.reg, .slice p1 k.out.length c1, .slice p2 k.vec.length c2, .slice p3 k.done.length c3, .map (some mB)] 63 (0, 0)) := ⟨_, rfl⟩
          rw [← hw5]
          have b0 : Below w4.heap.size w4 w5 := by rw [hw5]; exact alloc_below _ _
          have HB5 : Hid (Below W.heap.size W w5) := hide (HB4.out.trans (b0.mono HB4.out.size))
          obtain ⟨cB, hcB⟩ : ∃ cB, w4.heap.size = cB := ⟨_, rfl⟩
          have HcB : Hid (W.heap.size ≤ cB) := hide (by rw [← hcB]; exact HB4.out.size)
          have HO1 := hide (ownsRow_later HO1.out b0)
          have HO2 := hide (ownsRow_later HO2.out b0)
          have HO3 := hide (ownsRow_later HO3.out b0)
          have HMP := hide (HMP.out.later b0)
          have HCB : Hid (w5.heap[cB]? = some (.cells #[.int .i64 k.reg, .slice p1 k.out.length c1, .slice p2 k.vec.length c2, .slice p3 k.done.length c3, .map (some mB)] 63 (0, 0))) := hide (by rw [hw5, ← hcB]; exact heap_alloc_new w4 _)
          try rw [hcB]
          clear b0 hw5 hcB
          refine hK.out _ _ HB5.out (fun hHeld => ?_)
          clear hK
          refine rk (i := 22) (o := _) rfl (by kernel_rfl) (by kernel_rfl) (fun K hK => ?_)
          go_simp
          refine hK.out _ _ HB5.out (fun hHeld => ?_)
          clear hK
          refine wpAnyH_done (by kernel_rfl) ?_ _
          clear ck0 ck1 ck2 ck3
          go_wp2_with fail
          go_meet
          case rel => exact ⟨cB, mB, p1, c1, p2, c2, p3, c3, rfl, HCB, HMP, HO1, HO2, HO3, hide ⟨HOF.out, HcB.out, HmB.out⟩, HB5⟩
        ·
          have hmm := @run_mkmapT
          go_simp
          obtain ⟨w3, hw3⟩ : ∃ w9, w9 = w2.alloc (.map #[] 0) := ⟨_, rfl⟩
          rw [← hw3]
          have b0 : Below w2.heap.size w2 w3 := by rw [hw3]; exact alloc_below _ _
          have HB3 : Hid (Below W.heap.size W w3) := hide (HB2.out.trans (b0.mono HB2.out.size))
          obtain ⟨mB, hmB⟩ : ∃ mB, w2.heap.size = mB := ⟨_, rfl⟩
          have HmB : Hid (W.heap.size ≤ mB) := hide (by rw [← hmB]; exact HB2.out.size)
          have HO1 := hide (ownsRow_later HO1.out b0)
          have HO2 := hide (ownsRow_later HO2.out b0)
          have HMP : Hid (MapT w3 mB 0 []) := hide (by rw [hw3, ← hmB]; exact MapT.made w2 0)
          clear hmm
          try rw [hmB]
          clear b0 hw3 hmB
          refine hK.out _ _ HB3.out (fun hHeld => ?_)
          clear hK
          refine rk (i := 18) (o := _) rfl (by kernel_rfl) (by kernel_rfl) (fun K hK => ?_)
          go_simp
          refine (intClone (HP.out.later HB3.out).drow rfl (by have := HBD.out; omega)).mono ?_
          rintro _ w4 ⟨p3, c3, rfl, hown, b0⟩
          have HB4 : Hid (Below W.heap.size W w4) := hide (HB3.out.trans (b0.mono HB3.out.size))
          have HO2p := HO2
          have HO1 := hide (ownsRow_later HO1.out b0)
          have HO2 := hide (ownsRow_later HO2.out b0)
          have HMP := hide (HMP.out.later b0)
          have HOF : Hid (Off p2 p3) := hide (fun i hi hj => by
            have h9 := own_block_base hown (InB.to hj)
            have h8 := (row_ge HO2p.out i hi).2
            have h7 : w3.heap.size = w3.heap.size := rfl
            omega)
          have HO3 := hide (ownsRow_base hown HB3.out.size)
          clear hown b0
          go_wp2_with fail
          refine hK.out _ _ HB4.out (fun hHeld => ?_)
          clear hK
          refine tk 20 29 ?_ rfl rfl (by kernel_rfl) (fun _ _ _ h => h) (by assumption) ?_ ?_; rotate_left
          · intro w hSw; go_simp; all_goals with_reducible rfl
          simp only [Act.put]
          refine rk (i := 21) (o := _) rfl (by kernel_rfl) (by kernel_rfl) (fun K hK => ?_)
          go_simp
          obtain ⟨w5, hw5⟩ : ∃ w9, w9 = w4.alloc (.cells #[.int .i64 k.reg, .slice p1 k.out.length c1, .slice p2 k.vec.length c2, .slice p3 k.done.length c3, .map (some mB)] 63 (0, 0)) := ⟨_, rfl⟩
          rw [← hw5]
          have b0 : Below w4.heap.size w4 w5 := by rw [hw5]; exact alloc_below _ _
          have HB5 : Hid (Below W.heap.size W w5) := hide (HB4.out.trans (b0.mono HB4.out.size))
          obtain ⟨cB, hcB⟩ : ∃ cB, w4.heap.size = cB := ⟨_, rfl⟩
          have HcB : Hid (W.heap.size ≤ cB) := hide (by rw [← hcB]; exact HB4.out.size)
          have HO1 := hide (ownsRow_later HO1.out b0)
          have HO2 := hide (ownsRow_later HO2.out b0)
          have HO3 := hide (ownsRow_later HO3.out b0)
          have HMP := hide (HMP.out.later b0)
          have HCB : Hid (w5.heap[cB]? = some (.cells #[.int .i64 k.reg, .slice p1 k.out.length c1, .slice p2 k.vec.length c2, .slice p3 k.done.length c3, .map (some mB)] 63 (0, 0))) := hide (by rw [hw5, ← hcB]; exact heap_alloc_new w4 _)
          try rw [hcB]
          clear b0 hw5 hcB
          refine hK.out _ _ HB5.out (fun hHeld => ?_)
          clear hK
          refine rk (i := 22) (o := _) rfl (by kernel_rfl) (by kernel_rfl) (fun K hK => ?_)
          go_simp
          refine hK.out _ _ HB5.out (fun hHeld => ?_)
          clear hK
          refine wpAnyH_done (by kernel_rfl) ?_ _
          clear ck0 ck1 ck2 ck3
          go_wp2_with fail
          go_meet
          case rel => exact ⟨cB, mB, p1, c1, p2, c2, p3, c3, rfl, HCB, HMP, HO1, HO2, HO3, hide ⟨HOF.out, HcB.out, HmB.out⟩, HB5⟩
      ·
        have hmm := @run_mkmapT
        go_simp
        obtain ⟨w2, hw2⟩ : ∃ w9, w9 = w1.alloc (.map #[] 0) := ⟨_, rfl⟩
        rw [← hw2]
        have b0 : Below w1.heap.size w1 w2 := by rw [hw2]; exact alloc_below _ _
        have HB2 : Hid (Below W.heap.size W w2) := hide (HB1.out.trans (b0.mono HB1.out.size))
        obtain ⟨mB, hmB⟩ : ∃ mB, w1.heap.size = mB := ⟨_, rfl⟩
        have HmB : Hid (W.heap.size ≤ mB) := hide (by rw [← hmB]; exact HB1.out.size)
        have HO1 := hide (ownsRow_later HO1.out b0)
        have HMP : Hid (MapT w2 mB 0 []) := hide (by rw [hw2, ← hmB]; exact MapT.made w1 0)
        clear hmm
        try rw [hmB]
        clear b0 hw2 hmB
        refine hK.out _ _ HB2.out (fun hHeld => ?_)
        clear hK
        refine rk (i := 13) (o := _) rfl (by kernel_rfl) (by kernel_rfl) (fun K hK => ?_)
        go_simp
        refine (intClone (HP.out.later HB2.out).vrow rfl (by have := HBD.out; omega)).mono ?_
        rintro _ w3 ⟨p2, c2, rfl, hown, b0⟩
        have HB3 : Hid (Below W.heap.size W w3) := hide (HB2.out.trans (b0.mono HB2.out.size))
        have HO1 := hide (ownsRow_later HO1.out b0)
        have HMP := hide (HMP.out.later b0)
        have HO2 := hide (ownsRow_base hown HB2.out.size)
        clear hown b0
        go_wp2_with fail
        refine hK.out _ _ HB3.out (fun hHeld => ?_)
        clear hK
        refine rk (i := 18) (o := _) rfl (by kernel_rfl) (by kernel_rfl) (fun K hK => ?_)
        go_simp
        refine (intClone (HP.out.later HB3.out).drow rfl (by have := HBD.out; omega)).mono ?_
        rintro _ w4 ⟨p3, c3, rfl, hown, b0⟩
        have HB4 : Hid (Below W.heap.size W w4) := hide (HB3.out.trans (b0.mono HB3.out.size))
        have HO2p := HO2
        have HO1 := hide (ownsRow_later HO1.out b0)
        have HO2 := hide (ownsRow_later HO2.out b0)
        have HMP := hide (HMP.out.later b0)
        have HOF : Hid (Off p2 p3) := hide (fun i hi hj => by
          have h9 := own_block_base hown (InB.to hj)
          have h8 := (row_ge HO2p.out i hi).2
          have h7 : w3.heap.size = w3.heap.size := rfl
          omega)
        have HO3 := hide (ownsRow_base hown HB3.out.size)
        clear hown b0
        go_wp2_with fail
        refine hK.out _ _ HB4.out (fun hHeld => ?_)
        clear hK
        refine tk 20 29 ?_ rfl rfl (by kernel_rfl) (fun _ _ _ h => h) (by assumption) ?_ ?_; rotate_left
        · intro w hSw; go_simp; all_goals with_reducible rfl
        simp only [Act.put]
        refine rk (i := 21) (o := _) rfl (by kernel_rfl) (by kernel_rfl) (fun K hK => ?_)
        go_simp
        obtain ⟨w5, hw5⟩ : ∃ w9, w9 = w4.alloc (.cells #[.int .i64 k.reg, .slice p1 k.out.length c1, .slice p2 k.vec.length c2, .slice p3 k.done.length c3, .map (some mB)] 63 (0, 0)) := ⟨_, rfl⟩
        rw [← hw5]
        have b0 : Below w4.heap.size w4 w5 := by rw [hw5]; exact alloc_below _ _
        have HB5 : Hid (Below W.heap.size W w5) := hide (HB4.out.trans (b0.mono HB4.out.size))
        obtain ⟨cB, hcB⟩ : ∃ cB, w4.heap.size = cB := ⟨_, rfl⟩
        have HcB : Hid (W.heap.size ≤ cB) := hide (by rw [← hcB]; exact HB4.out.size)
        have HO1 := hide (ownsRow_later HO1.out b0)
        have HO2 := hide (ownsRow_later HO2.out b0)
        have HO3 := hide (ownsRow_later HO3.out b0)
        have HMP := hide (HMP.out.later b0)
        have HCB : Hid (w5.heap[cB]? = some (.cells #[.int .i64 k.reg, .slice p1 k.out.length c1, .slice p2 k.vec.length c2, .slice p3 k.done.length c3, .map (some mB)] 63 (0, 0))) := hide (by rw [hw5, ← hcB]; exact heap_alloc_new w4 _)
        try rw [hcB]
        clear b0 hw5 hcB
        refine hK.out _ _ HB5.out (fun hHeld => ?_)
        clear hK
        refine rk (i := 22) (o := _) rfl (by kernel_rfl) (by kernel_rfl) (fun K hK => ?_)
        go_simp
        refine hK.out _ _ HB5.out (fun hHeld => ?_)
        clear hK
        refine wpAnyH_done (by kernel_rfl) ?_ _
        clear ck0 ck1 ck2 ck3
        go_wp2_with fail
        go_meet
        case rel => exact ⟨cB, mB, p1, c1, p2, c2, p3, c3, rfl, HCB, HMP, HO1, HO2, HO3, hide ⟨HOF.out, HcB.out, HmB.out⟩, HB5⟩
    ·
      have hmm := @run_mkmapT
      go_simp
      obtain ⟨w1, hw1⟩ : ∃ w9, w9 = (W.alloc (.map #[] 0)).drew := ⟨_, rfl⟩
      rw [← hw1]
      have b0 : Below W.heap.size W w1 := by rw [hw1]; exact (alloc_below _ _).drew
      have HB1 : Hid (Below W.heap.size W w1) := hide (b0)
      obtain ⟨mB, hmB⟩ : ∃ mB, W.heap.size = mB := ⟨_, rfl⟩
      have HmB : Hid (W.heap.size ≤ mB) := hide (by rw [← hmB]; exact Nat.le_refl _)
      have HMP : Hid (MapT w1 mB 0 []) := hide (by rw [hw1, ← hmB]; exact (MapT.made W 0).later (Below.refl _ _).drew)
      clear hmm
      try rw [hmB]
      clear b0 hw1 hmB
      refine hK.out _ _ HB1.out (fun hHeld => ?_)
      clear hK
      refine rk (i := 8) (o := _) rfl (by kernel_rfl) (by kernel_rfl) (fun K hK => ?_)
      go_simp
      refine (recClone (HP.out.later HB1.out).orow rfl (by have := HBD.out; omega)).mono ?_
      rintro _ w2 ⟨p1, c1, rfl, hown, b0⟩
      have HB2 : Hid (Below W.heap.size W w2) := hide (HB1.out.trans (b0.mono HB1.out.size))
      have HMP := hide (HMP.out.later b0)
      have HO1 := hide (ownsRow_base hown HB1.out.size)
      clear hown b0
      go_wp2_with fail
      refine hK.out _ _ HB2.out (fun hHeld => ?_)
      clear hK
      refine rk (i := 13) (o := _) rfl (by kernel_rfl) (by kernel_rfl) (fun K hK => ?_)
      go_simp
      refine (intClone (HP.out.later HB2.out).vrow rfl (by have := HBD.out; omega)).mono ?_
      rintro _ w3 ⟨p2, c2, rfl, hown, b0⟩
      have HB3 : Hid (Below W.heap.size W w3) := hide (HB2.out.trans (b0.mono HB2.out.size))
      have HO1 := hide (ownsRow_later HO1.out b0)
      have HMP := hide (HMP.out.later b0)
      have HO2 := hide (ownsRow_base hown HB2.out.size)
      clear hown b0
      go_wp2_with fail
      refine hK.out _ _ HB3.out (fun hHeld => ?_)
      clear hK
      refine rk (i := 18) (o := _) rfl (by kernel_rfl) (by kernel_rfl) (fun K hK => ?_)
      go_simp
      refine (intClone (HP.out.later HB3.out).drow rfl (by have := HBD.out; omega)).mono ?_
      rintro _ w4 ⟨p3, c3, rfl, hown, b0⟩
      have HB4 : Hid (Below W.heap.size W w4) := hide (HB3.out.trans (b0.mono HB3.out.size))
      have HO2p := HO2
      have HO1 := hide (ownsRow_later HO1.out b0)
      have HO2 := hide (ownsRow_later HO2.out b0)
      have HMP := hide (HMP.out.later b0)
      have HOF : Hid (Off p2 p3) := hide (fun i hi hj => by
        have h9 := own_block_base hown (InB.to hj)
        have h8 := (row_ge HO2p.out i hi).2
        have h7 : w3.heap.size = w3.heap.size := rfl
        omega)
      have HO3 := hide (ownsRow_base hown HB3.out.size)
      clear hown b0
      go_wp2_with fail
      refine hK.out _ _ HB4.out (fun hHeld => ?_)
      clear hK
      refine tk 20 29 ?_ rfl rfl (by kernel_rfl) (fun _ _ _ h => h) (by assumption) ?_ ?_; rotate_left
      · intro w hSw; go_simp; all_goals with_reducible rfl
      simp only [Act.put]
      refine rk (i := 21) (o := _) rfl (by kernel_rfl) (by kernel_rfl) (fun K hK => ?_)
      go_simp
      obtain ⟨w5, hw5⟩ : ∃ w9, w9 = w4.alloc (.cells #[.int .i64 k.reg, .slice p1 k.out.length c1, .slice p2 k.vec.length c2, .slice p3 k.done.length c3, .map (some mB)] 63 (0, 0)) := ⟨_, rfl⟩
      rw [← hw5]
      have b0 : Below w4.heap.size w4 w5 := by rw [hw5]; exact alloc_below _ _
      have HB5 : Hid (Below W.heap.size W w5) := hide (HB4.out.trans (b0.mono HB4.out.size))
      obtain ⟨cB, hcB⟩ : ∃ cB, w4.heap.size = cB := ⟨_, rfl⟩
      have HcB : Hid (W.heap.size ≤ cB) := hide (by rw [← hcB]; exact HB4.out.size)
      have HO1 := hide (ownsRow_later HO1.out b0)
      have HO2 := hide (ownsRow_later HO2.out b0)
      have HO3 := hide (ownsRow_later HO3.out b0)
      have HMP := hide (HMP.out.later b0)
      have HCB : Hid (w5.heap[cB]? = some (.cells #[.int .i64 k.reg, .slice p1 k.out.length c1, .slice p2 k.vec.length c2, .slice p3 k.done.length c3, .map (some mB)] 63 (0, 0))) := hide (by rw [hw5, ← hcB]; exact heap_alloc_new w4 _)
      try rw [hcB]
      clear b0 hw5 hcB
      refine hK.out _ _ HB5.out (fun hHeld => ?_)
      clear hK
      refine rk (i := 22) (o := _) rfl (by kernel_rfl) (by kernel_rfl) (fun K hK => ?_)
      go_simp
      refine hK.out _ _ HB5.out (fun hHeld => ?_)
      clear hK
      refine wpAnyH_done (by kernel_rfl) ?_ _
      clear ck0 ck1 ck2 ck3
      go_wp2_with fail
      go_meet
      case rel => exact ⟨cB, mB, p1, c1, p2, c2, p3, c3, rfl, HCB, HMP, HO1, HO2, HO3, hide ⟨HOF.out, HcB.out, HmB.out⟩, HB5⟩
  case rest =>
    obtain ⟨cb, mB, p1, c1, p2, c2, p3, c3, rfl, HCB, HMP, HO1, HO2, HO3, HOF, HBW⟩ := hcut
    rename World => wd
    clear ck0 ck1 ck2 ck3
    have HC0 : Hid (CloI W cb k [] ⟨cb, mB, p1, c1, p2, c2, p3, c3, k.reg, k.out, k.vec, k.done, []⟩ wd) := hide
      ⟨⟨HCB.out, HMP.out, HO1.out, HO2.out, HO3.out, fun x hx => (by cases hx), ⟨HOF.out.1, fun x hx => (by cases hx)⟩, HOF.out.2, HP.out.ok.first 0⟩, rfl, ⟨rfl, rfl, rfl, rfl⟩, fun t => ⟨fun ht => (by cases ht), fun ⟨_, _, _, e⟩ => (by cases e)⟩, rfl, HBW.out⟩
    have HPW := hide (HP.out.later HBW.out)
    have hN := HP.out.named
    obtain ⟨L, hL, hown⟩ := HPW.out.map
    have HH := hide (has_ent hN hL)
    have HE := hide (fun (kl : Lit) (key : Value) => ent_has (kl := kl) (key := key) hN hL)
    have HAT := hide (fun (x : TP) (hx : x ∈ k.xs) (c : Value) (y : DataW Value × List MemPlace) => at_ent hN hL hx (c := c) (y := y))
    have HZ : Hid (Maps.size (DataW.map L) = k.xs.length) := hide (by have := hL.length_eq; simpa [Maps.size] using this)
    obtain ⟨D0, hD0⟩ : ∃ D0, D0 = DataW.map L := ⟨_, rfl⟩
    rw [← hD0] at HH HE HAT HZ hown
    have HNM := hide hN
    clear hL hD0 hN
    have ck4 := HPW.out.c4
    obtain ⟨nn, hnn⟩ : ∃ nn, k.xs.length = nn := ⟨_, rfl⟩
    rw [hnn] at hown
    have HNN := hide hnn
    clear hnn
    go_wp2_with (first
      | (at_range; refine wpList_range_own _ rfl _ 61 rfl 55 34 keyT Try.underlying61 _ k.mb nn _ rfl hown ?_; intro w0 hrg0 hg0 hs0)
      | go_in)
    go_frame
    go_loopw [4] (fun _ wr => ∃ (left : Lit → Bool) (cnt : Nat) (ss : List (Int × Int)) (k2 : PK), wr.ranges Try.prog 55 valR k.mb wd.heap.size nn D0 left cnt ∧ ss.length + cnt ≤ nn ∧ Gone D0 k.xs left ss ∧ Hid (CloI W cb k ss k2 wr) ∧ Hid ((∀ i, k2.blk i → ¬ i = wd.heap.size) ∧ wd.heap.size < wr.heap.size))
      (fun _ wr => wr.rangeLeft k.mb wd.heap.size)
    case atStart =>
      exact ⟨_, _, [], _, hrg0, by rw [HZ.out, HNN.out]; simp, Gone.start, hide (HC0.out.later ((Below.refl _ wd).grown hg0 (Nat.le_refl _) (fun j hj => by cases hj))), hide ⟨fun i hi => by have := (HC0.out.ps.lt hi).2; omega, by omega⟩⟩
    case round =>
      obtain ⟨left, cnt, ss, k2, hrg, hcs, hC, HI, HIT⟩ := hrel
      go_wp2_with (first
        | (at_next; refine wpList_next_ranges _ rfl _ rfl 55 keyT valR id id (fun key kl hk => ⟨key, rfl⟩) (fun v _ _ => ⟨v, rfl⟩) k.mb wd.heap.size nn _ _ _ rfl hrg ?_ ?_)
        | go_in)
      · intro hc0 hl0
        have HSK : Hid (k2.sk = k.sk) := hide (HI.out.end_ HP.out.ok (fun x hx => (hC.all x hx (HH.out x hx)).2 (hl0 _)))
        go_wp2
        go_ret
        refine ⟨k2, ?_, HI.out.ps, HSK.out, HI.out.below⟩
        rw [HI.out.b]
        rfl
      · intro key c kl yd yp w2 cnt2 hkey hlk hv hat hrg2 hlt hg2 hs2 hen
        obtain ⟨x, hx, e1, rfl⟩ := HE.out kl key hkey (has_true_of_atKey hat)
        have e1' : key = .agg #[.int .i64 x.t.ep, .int .i64 x.t.id] := e1
        subst e1'
        obtain rfl := HAT.out x hx c (yd, yp) hv hat
        have HXM := hide hx
        have hno : x.nm ∉ ss := fun e => by
          have h9 := (hC.all x hx (HH.out x hx)).1 e
          rw [hlk] at h9
          cases h9
        have HG := hide (hC.step HNM.out hx (HH.out x hx) hlk)
        have HF := hide (HI.out.none HNM.out hx hno)
        have HO2' : Hid (Only (· = wd.heap.size) wr w2) := hide (Only.of_grown hg2 (fun k e => by cases e; rfl))
        have HI2 := hide (HI.out.only HO2'.out HBW.out.size HIT.out.1)
        have HK2 := hide (HP.out.later HI2.out.below)
        have HLT := hide hlt
        have HRL := hide hrg.left_eq
        have HMY := hide (HP.out.ok.may x.t (List.mem_map.2 ⟨x, hx, rfl⟩))
        have HXO : Hid (x.ok w2) := hide (HK2.out.pre x hx).ok
        have HL8 : Hid (k2.xs.length < 8) := hide (by
          have h9 := HI.out.len
          have h8 := HBD.out.2.2.2
          have h7 := HNN.out
          omega)
        have HSW : Hid (wd.heap.size < w2.heap.size) := hide (by have := HIT.out.2; omega)
        have HRG := hide hrg2
        have HCS : Hid ((ss ++ [x.nm]).length + cnt2 ≤ nn) := hide (by rw [List.length_append]; have h9 : [x.nm].length = 1 := rfl; omega)
        clear hs2 hg2 hrg2 hlt hat hv hkey hrg hlk hno hC e1 hx hcs
        obtain ⟨⟨ep, id9, bg, rs, vs⟩, rp, rc, xp, xc⟩ := x
        have hen' : (Instr.entry (.pointer (some ⟨wd.heap.size, 0, none⟩))).run Try.prog w2 = .ok (.tuple #[.agg #[.int .i64 ep, .int .i64 id9], .agg #[.int .i64 ep, .int .i64 id9, .int .i64 bg, .slice rp rs.length rc, .slice xp vs.length xc]]) w2 := hen
        clear hen
        obtain ⟨X1, hX1⟩ : ∃ X1, X1 = w2.alloc (.cells #[.int .i64 ep, .int .i64 id9] 55 (0, 0)) := ⟨_, rfl⟩
        obtain ⟨X, hX⟩ : ∃ X, X = X1.alloc (.cells #[.int .i64 ep, .int .i64 id9, .int .i64 bg, .slice rp rs.length rc, .slice xp vs.length xc] 34 (0, 0)) := ⟨_, rfl⟩
        have b1 : Below w2.heap.size w2 X1 := by rw [hX1]; exact alloc_below _ _
        have b2 : Below X1.heap.size X1 X := by rw [hX]; exact alloc_below _ _
        have HQX : Hid (Below w2.heap.size w2 X) := hide (b1.trans (b2.mono b1.size))
        have HKX : Hid (X.heap[w2.heap.size]? = some (.cells #[.int .i64 ep, .int .i64 id9] 55 (0, 0))) := hide (below_box b2 (by rw [hX1]; exact heap_alloc_new w2 _))
        have HTX : Hid (X.heap[X1.heap.size]? = some (.cells #[.int .i64 ep, .int .i64 id9, .int .i64 bg, .slice rp rs.length rc, .slice xp vs.length xc] 34 (0, 0))) := hide (by rw [hX]; exact heap_alloc_new X1 _)
        have hsz : X1.heap.size = w2.heap.size + 1 := by rw [hX1]; simp
        rw [hsz] at HTX
        have HIX := hide (HI2.out.later HQX.out)
        obtain ⟨kb2, mb2, a1, d1, a2, d2, a3, d3, rg1, ou1, ve1, dn1, x1⟩ := k2
        have hkb : cb = kb2 := HI2.out.b.symm
        subst hkb
        have m4 : X.cell? ⟨cb, 4, none⟩ = some (.map (some mb2)) := HIX.out.ps.c4
        obtain ⟨tB, htB⟩ : ∃ tB, w2.heap.size = tB := ⟨_, rfl⟩
        have HTB := hide htB
        rw [htB] at HKX HTX
        have hne1 : ¬ (cb = mb2) := fun e => HIX.out.ps.map.box HIX.out.ps.box e.symm
        have hmt : mb2 < tB := by
          have h9 := (HI2.out.ps.lt (.inr (.inl rfl))).2
          have h8 : mb2 < w2.heap.size := h9
          omega
        have hne2 : ¬ (tB = mb2) := by omega
        have hne3 : ¬ (tB + 1 = mb2) := by omega
        clear b1 b2 hsz hmt
        go_upto_region 7 with fail
        rw [← hX1, ← hX]
        try rw [htB]
        clear hX1 hX htB hen'
        have q0 := cellB HKX.out (i := 0) rfl
        have q1 := cellB HKX.out (i := 1) rfl
        have z0 := cellB HTX.out (i := 0) rfl
        have z1 := cellB HTX.out (i := 1) rfl
        have z2 := cellB HTX.out (i := 2) rfl
        have z3 := cellB HTX.out (i := 3) rfl
        have z4 := cellB HTX.out (i := 4) rfl
        have HX0 : Hid (Only (· = mb2) X X.drew) := hide ((Only.refl _ X).drew)
        have HFA := hide (fun (w9 : World) (hSw : Only (· = mb2) X w9) => And.intro (hSw.cell m4 hne1) (And.intro (hSw.cell q0 hne2) (And.intro (hSw.cell q1 hne2) (And.intro (hSw.cell z0 hne3) (And.intro (hSw.cell z1 hne3) (And.intro (hSw.cell z2 hne3) (And.intro (hSw.cell z3 hne3) (hSw.cell z4 hne3))))))))
        refine wp_region_held_drew (S := fun w9 => Only (· = mb2) X w9) (by kernel_rfl) HX0.out (fun hHeld => ?_)
        refine tk 0 41 ?_ rfl rfl (by kernel_rfl) (fun _ _ _ h => h) (by assumption) ?_ ?_; rotate_left
        · intro w hSw; go_simp; all_goals with_reducible rfl
        simp only [Act.put]
        refine tk 1 42 ?_ rfl rfl (by kernel_rfl) (fun _ _ _ h => h) (by assumption) ?_ ?_; rotate_left
        · intro w hSw; go_simp; all_goals with_reducible rfl
        simp only [Act.put]
        refine tk 2 43 ?_ rfl rfl (by kernel_rfl) (fun _ _ _ h => h) (by assumption) ?_ ?_; rotate_left
        · intro w hSw; go_simp; all_goals with_reducible rfl
        simp only [Act.put]
        refine tk 3 44 ?_ rfl rfl (by kernel_rfl) (fun _ _ _ h => h) (by assumption) ?_ ?_; rotate_left
        · intro w hSw; obtain ⟨l4, k0, k1, t0, t1, t2, t3, t4⟩ := HFA.out w hSw; go_simp; all_goals with_reducible rfl
        simp only [Act.put]
        refine tk 4 45 ?_ rfl rfl (by kernel_rfl) (fun _ _ _ h => h) (by assumption) ?_ ?_; rotate_left
        · intro w hSw; obtain ⟨l4, k0, k1, t0, t1, t2, t3, t4⟩ := HFA.out w hSw; go_simp; all_goals with_reducible rfl
        simp only [Act.put]
        refine tk 5 46 ?_ rfl rfl (by kernel_rfl) (fun _ _ _ h => h) (by assumption) ?_ ?_; rotate_left
        · intro w hSw; obtain ⟨l4, k0, k1, t0, t1, t2, t3, t4⟩ := HFA.out w hSw; go_simp; all_goals with_reducible rfl
        simp only [Act.put]
        refine rk (i := 6) (o := _) rfl (by kernel_rfl) (by kernel_rfl) (fun K hK => ?_)
        go_simp
        refine (cloneTxn_any (ep := ep) (id := id9) (bg := bg) (RRow.later HXO.out.r HQX.out.drew) (NRow.later HXO.out.v HQX.out.drew) rfl rfl (by have h9 : rs.length ≤ 4096 := HMY.out.1.2.2.2.2.1; show rs.length ≤ 1048576; omega) (by have h9 : (vs.length : Int) = k.vec.length := HMY.out.1.2.2.2.2.2.1; have h8 := HBD.out.2.1; show vs.length ≤ 1048576; omega)).mono ?_
        intro e7 w7 hcl
        obtain ⟨pa, ca, qa, da, rfl, o1, o2, b7⟩ := hcl
        have b7' : Below X.heap.size X w7 := (Below.refl _ X).drew.trans b7
        obtain ⟨w8, hup, hps, ho8⟩ := HIX.out.ps.addT (ep := ep) (id := id9) (bg := bg) b7' o1 o2 rfl rfl (show ep = rg1 from (show ep = k.reg from HMY.out.2.1).trans HIX.out.eq.1.symm) (by show mayC (ve1.length : Int) _; rw [show ve1 = k.vec from HIX.out.eq.2.2.1]; exact HMY.out.1) (by rw [show (PK.mk cb mb2 a1 d1 a2 d2 a3 d3 rg1 ou1 ve1 dn1 x1).done = dn1 from rfl, show dn1 = k.done from HIX.out.eq.2.2.2]; exact HMY.out.2.2) HF.out HL8.out
        simp only [keyV] at hup
        have HI8 := hide (CloI.next HIX.out (x := ⟨⟨ep, id9, bg, rs, vs⟩, rp, rc, xp, xc⟩) (y := ⟨⟨ep, id9, bg, rs, vs⟩, pa, ca, qa, da⟩) rfl HNM.out HXM.out hps ho8 b7')
        have HO8 := hide ho8
        have HX7 := hide b7'
        have HOB1 := hide (fun i hi => own_block_base o1 (InB.to (i := i) hi))
        have HOB2 := hide (fun i hi => own_block_base o2 (InB.to (i := i) hi))
        clear o1 o2 b7 b7' ho8 hps
        go_wp2_with fail
        refine hK.out _ _ (Only.fresh HX7.out _) (fun hHeld => ?_)
        clear hK
        refine rk (i := 7) (o := _) rfl (by kernel_rfl) (by kernel_rfl) (fun K hK => ?_)
        go_simp
        refine hK.out _ _ ((Only.fresh HX7.out (· = mb2)).trans HO8.out) (fun hHeld => ?_)
        clear hK
        refine wpAnyH_done (by kernel_rfl) ?_ _
        have HW28 : Hid (Only (· = mb2) w2 w8) := hide ((Only.fresh (HQX.out.trans (HX7.out.mono HQX.out.size)) (· = mb2)).trans HO8.out)
        have HRG8 : Hid (w8.ranges Try.prog 55 valR k.mb wd.heap.size nn D0 (fun z => left z && !z.sameKey (keyL ep id9)) cnt2) := hide (by
          have hge : W.heap.size ≤ mb2 := HIX.out.ps.ge.2
          have hlt9 := HP.out.map.lt
          exact HRG.out.kept (show w2.grownBy w8 (some mb2) from ⟨HW28.out.os, HW28.out.tape, HW28.out.output, HW28.out.size, fun i hi hne => HW28.out.block i hi (fun e => hne (by rw [e]))⟩) (fun e => by have h9 := Option.some.inj e; omega) (fun e => HIT.out.1 mb2 (.inr (.inl rfl)) (Option.some.inj e).symm))
        have HIT8 : Hid ((∀ i, PK.blk ⟨cb, mb2, a1, d1, a2, d2, a3, d3, rg1, ou1, ve1, dn1, insP ⟨⟨ep, id9, bg, rs, vs⟩, pa, ca, qa, da⟩ x1⟩ i → ¬ i = wd.heap.size) ∧ wd.heap.size < w8.heap.size) := hide (by
          have hs1 := HSW.out
          have hs2 := HQX.out.size
          refine ⟨fun i hi => ?_, Nat.lt_of_lt_of_le HSW.out HW28.out.size⟩
          rcases hi with hi | hi | hi | hi | hi | ⟨x', hx', hi⟩
          · exact HIT.out.1 i (.inl hi)
          · exact HIT.out.1 i (.inr (.inl hi))
          · exact HIT.out.1 i (.inr (.inr (.inl hi)))
          · exact HIT.out.1 i (.inr (.inr (.inr (.inl hi))))
          · exact HIT.out.1 i (.inr (.inr (.inr (.inr (.inl hi)))))
          · rcases List.mem_cons.1 ((insP_perm _ _).mem_iff.1 hx') with e | hx'
            · rw [e] at hi
              rcases hi with hi | hi
              · have h9 : X.heap.size ≤ i := HOB1.out i hi
                omega
              · have h9 : X.heap.size ≤ i := HOB2.out i hi
                omega
            · exact HIT.out.1 i (.inr (.inr (.inr (.inr (.inr ⟨x', hx', hi⟩))))))
        clear hHeld HFA
        go_wp2
        go_roundw
        case rel => exact ⟨_, cnt2, _, _, HRG8.out, HCS.out, HG.out, HI8, HIT8⟩
        case measure => rw [HRG8.out.left_eq, HRL.out]; exact HLT.out
end Go.Proofs.Ytboofnkajjnmeaa
