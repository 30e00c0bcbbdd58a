/-
  Epochs of the reference. The conditions: lengths.
-/
import Derived.Test.YtihbdlbnpkmafaaErp
import Derived.Deep.RegionHeld3
import Derived.Deep.Cut
import Derived.Deep.CutBlock
import Derived.BigRegion
import Derived.BigQuiet
import Derived.WalkMore
namespace Go.Proofs.Ytihbdlbnpkmafaa
open Go.RowKit Go.Shelf

set_option maxRecDepth 100000 in
set_option maxHeartbeats 8000000 in
theorem repochs_any {W : World} {p : Option Addr} {c n : Nat} {es : List EV} (h : ERow W p c es) (hn : es.length = n) (hb : n * 32 ≤ 140737488351232) {M : Nat} (hM : (epochsL (knownL es)).length = M) :
    Calls Try.prog 40 #[.slice p n c] W fun e w' => ∃ p c, e = .returned (.slice p M c) ∧ EpsAt w' p c (epochsL (knownL es)) ∧ Below W.heap.size W w' := by
  obtain ⟨i0, hI0, hz0, hz1, hz2⟩ := info_parts Try.infoEpoch
  have hcn : n ≤ c := by rw [← hn]; exact h.le
  have hct := h.top
  have hMn : M ≤ n := by rw [← hM, ← hn]; exact Nat.le_trans (epochs_len _) (List.length_filter_le _ _)
  have HR := hide h
  have HN := hide hn
  have HM := hide hM
  clear h hn hM
  go_enter Try.func40, Try.ntmps40
  go_wp2_with fail
  go_loopw [5, 4, 3] (fun i fr s wq => ∃ (k f m : Nat) (p1 : Option Addr) (c1 : Nat) (dn : List Ep) (vs : List Value), k ≤ n ∧ f ≤ k ∧ i = .int .i64 (k : Int) ∧ fr = .int .i64 (f : Int) ∧ s = .slice p1 m c1 ∧ m ≤ M ∧ Hid (dn.length = m) ∧ Hid (EpR es k f dn) ∧ Hid (wq.ownsRow W.heap.size 56 2 (.slice p1 m c1) m (paCells dn vs)) ∧ Hid (PaL W.heap.size (fun _ => False) wq dn vs) ∧ Hid (Below W.heap.size W wq)) (fun i _ _ _ => n - (intOf i).toNat)
  case atStart => exact ⟨0, 0, 0, none, 0, [], [], Nat.zero_le _, Nat.le_refl _, rfl, rfl, rfl, Nat.zero_le _, hide rfl, hide (EpR.start es), hide (World.ownsRow_nil _ _ _ _), hide (PaL.nil _ _ _), hide (Below.refl _ _)⟩
  case round =>
    obtain ⟨k, f, m, p1, c1, dn, vs, hk, hfk, rfl, rfl, rfl, hmM, HLm, HEP, HOW, HPA, HBq⟩ := hrel
    rename World => wq
    by_cases hlt : k < n
    · have hlt2 : k < es.length := by rw [HN.out]; exact hlt
      obtain ⟨x, hx⟩ : ∃ x, es[k]! = x := ⟨_, rfl⟩
      obtain ⟨g, o, rfl, a0, a1, a2, a3⟩ := (HR.out.later HBq.out).at hlt2 hx
      obtain ⟨kd, ky, vl, id⟩ := x
      simp only at a0 a1 a2 a3
      by_cases hkd : kd = 2
      · subst hkd
        have hbar := HEP.out.bar hlt2 hx (by rfl)
        have hmm := hbar.len
        rw [List.length_append, HLm.out, HM.out] at hmm
        simp only [List.length_cons, List.length_nil, Nat.zero_add] at hmm
        have HBAR := hide hbar
        obtain ⟨N, hN⟩ : ∃ N, (rcsOf ((es.drop f).take (k - f))).length = N := ⟨_, rfl⟩
        have HRC := hide (fun (w : World) (hw : Below wq.heap.size wq w) => rrecords_any (n := k - f) ((((HR.out.later HBq.out).later hw).drop (f := f)).take (k - f)) (by rw [List.length_take, List.length_drop]; omega) (by omega) hN)
        have hcf : ¬ c = f := by omega
        rw [if_neg hcf] at HRC
        have HNN := hide hN
        clear hbar hN hx hlt2
        go_upto_region 7 with fail
        have hadd : (⟨g, o, none⟩ : Addr).add (f * 4) = ⟨g, o + f * 4, none⟩ := by
          simp only [Addr.add]
          split
          · rename_i h0; rw [h0]; rfl
          · rfl
        simp only [Option.map_some, hadd] at HRC
        clear hadd
        have B0 : Below wq.heap.size wq wq.drew := (Below.refl _ wq).drew
        have HK1 : Hid (m + 1 ≤ maxLen) := by show _ ≤ _; unfold maxLen; omega
        have HK2 : Hid ((m + 1) * 32 ≤ 140737488355328) := by show _ ≤ _; omega
        have s0 := cell_later B0 a3
        have hkc : k ≤ c := by omega
        refine wp_region_any (by kernel_rfl) ?_
        try (change wpAny _ _ _ _ _ _ _ (World.drew _))
        refine wpAny_take (i := 0) (v := ?_) rfl (by kernel_rfl) (by kernel_rfl) (by kernel_rfl) (fun _ _ _ h => h) (Or.inl ⟨by rfl, ?_⟩) ?_
        case refine_2 => intro w; go_simp; try with_reducible rfl
        refine wpAny_take (i := 1) (v := ?_) rfl (by kernel_rfl) (by kernel_rfl) (by kernel_rfl) (fun _ _ _ h => h) (Or.inl ⟨by rfl, ?_⟩) ?_
        case refine_2 => intro w; go_simp; try with_reducible rfl
        refine wpAny_take (i := 2) (v := ?_) rfl (by kernel_rfl) (by kernel_rfl) (by kernel_rfl) (fun _ _ _ h => h) (Or.inl ⟨by rfl, ?_⟩) ?_
        case refine_2 => intro w; go_simp; try with_reducible rfl
        refine wpAny_take (i := 6) (v := ?_) rfl (by kernel_rfl) (by kernel_rfl) (by kernel_rfl) (fun _ _ _ h => h) (Or.inl ⟨by rfl, ?_⟩) ?_
        case refine_2 => intro w; go_simp; try with_reducible rfl
        refine wpAny_take (i := 7) (v := ?_) rfl (by kernel_rfl) (by kernel_rfl) (by kernel_rfl) (fun _ _ _ h => h) (Or.inl ⟨by rfl, ?_⟩) ?_
        case refine_2 => intro w; go_simp; try with_reducible rfl
        refine wpAny_take (i := 8) (v := ?_) rfl (by kernel_rfl) (by kernel_rfl) (by kernel_rfl) (fun _ _ _ h => h) (Or.inl ⟨by rfl, ?_⟩) ?_
        case refine_2 => intro w; go_simp; try with_reducible rfl
        refine wpAny_ready (rs := [3, 9]) (by kernel_rfl) (by simp) ?_
        refine AllReady.cons rfl (fun K hK => ?_) ?_
        · go_simp
          refine hK _ _ ?_
          clear hK K
          refine wpAny_take (i := 4) (v := ?_) rfl (by kernel_rfl) (by kernel_rfl) (by kernel_rfl) (fun _ _ _ h => h) (Or.inl ⟨by rfl, ?_⟩) ?_
          case refine_2 => intro w; go_simp; try with_reducible rfl
          refine wpAny_ready (rs := [5, 9]) (by kernel_rfl) (by simp) ?_
          refine AllReady.cons rfl (fun K hK => ?_) ?_
          · go_simp
            refine hK _ _ ?_
            clear hK K
            refine wpAny_ready (rs := [9]) (by kernel_rfl) (by simp) ?_
            refine AllReady.cons rfl (fun K hK => ?_) ?_
            rotate_left
            · exact AllReady.nil
            go_simp
            refine hK _ _ ?_
            clear hK K
            refine wpAny_ready (rs := [10]) (by kernel_rfl) (by simp) ?_
            refine AllReady.cons rfl (fun K hK => ?_) ?_
            rotate_left
            · exact AllReady.nil
            go_simp
            refine (HRC.out _ B0).mono ?_
            rintro _ x1 ⟨p5, c5, rfl, o5, d5⟩
            have B1 : Below wq.heap.size wq x1 := B0.trans d5
            have s1 := cell_later B1 a3
            have O5 := hide o5
            clear o5 d5
            refine hK _ _ ?_
            clear hK K
            refine wpAny_take (i := 11) (v := ?_) rfl (by kernel_rfl) (by kernel_rfl) (by kernel_rfl) (fun _ _ _ h => h) (Or.inl ⟨by rfl, ?_⟩) ?_
            case refine_2 => intro w; go_simp; try with_reducible rfl
            refine wpAny_ready (rs := [12]) (by kernel_rfl) (by simp) ?_
            refine AllReady.cons rfl (fun K hK => ?_) ?_
            rotate_left
            · exact AllReady.nil
            go_simp
            refine hK _ _ ?_
            clear hK K
            refine wpAny_ready (rs := [13]) (by kernel_rfl) (by simp) ?_
            refine AllReady.cons rfl (fun K hK => ?_) ?_
            rotate_left
            · exact AllReady.nil
            refine step_append_cells rfl (.tmp 19) (.tmp 31) 65 rfl W.heap.size 56 i0 (.agg #[.int .i64 0, .slice none 0 0]) 2 32 Try.underlying65 hI0 hz0 hz1 hz2 rfl (by decide) (.slice p1 m c1) m _ rfl (ownsRow_later HOW.out (B1.trans ((alloc_below x1 _).mono B1.size))) (.slice (some ⟨x1.heap.size, 0, none⟩) 1 1) 1 [.int .i64 id, .slice p5 N c5] rfl (Seg.news (heap_alloc_new x1 _) (by simp [Value.oneCell']) rfl (Nat.le_refl _) (by decide)) HK1.out HK2.out (Nat.le_trans HBq.out.size (Nat.le_trans B1.size (alloc_below x1 _).size)) ?_
            intro p6 c6 w6 o6 g6
            have hoX : Only (fun i => (Value.slice p1 m c1).ownBlock = some i) x1 w6 := (Only.alloc _ _ _).trans (Only.of_grown g6 (fun k e => e))
            have hoF : Only (fun i => (Value.slice p1 m c1).ownBlock = some i) wq w6 := (Only.fresh B1 _).trans hoX
            have HB6 : Hid (Below W.heap.size W w6) := hide ((HBq.out.trans ((B1.trans ((alloc_below x1 _).mono B1.size)).mono HBq.out.size)).grown g6 (Nat.le_trans HBq.out.size (Nat.le_trans B1.size (alloc_below x1 _).size)) (fun i hi => own_block_base HOW.out hi))
            have HO6 : Hid (w6.ownsRow W.heap.size 56 2 (.slice p6 (m + 1) c6) (m + 1) (paCells (dn ++ [(id, rcsOf ((es.drop f).take (k - f)))]) (vs ++ [.slice p5 N c5]))) := by
              rw [paCells_snoc HPA.out.1]
              exact hide o6
            have HP6 : Hid (PaL W.heap.size (fun _ => False) w6 (dn ++ [(id, rcsOf ((es.drop f).take (k - f)))]) (vs ++ [.slice p5 N c5])) := by
              refine hide (PaL.snoc (HPA.out.step hoF (fun i e => ?_) (fun _ _ h => h)) ⟨p5, c5, ?_, ?_, fun _ _ h => h⟩)
              · obtain ⟨_, cur, h7⟩ := own_block_lt HOW.out e
                exact .inr ⟨_, _, _, h7, by decide⟩
              · show Value.slice p5 N c5 = .slice p5 (rcsOf ((es.drop f).take (k - f))).length c5
                rw [HNN.out]
              · show World.ownsRow _ _ _ 2 (.slice p5 (rcsOf ((es.drop f).take (k - f))).length c5) (rcsOf ((es.drop f).take (k - f))).length _
                rw [HNN.out]
                refine ownsRow_base (ownsRow_only O5.out hoX (fun b hb e => ?_)) HBq.out.size
                have hb0 : wq.heap.size ≤ b := own_block_base O5.out hb
                have := (own_block_lt HOW.out e).1
                omega
            have HL6 : Hid ((dn ++ [(id, rcsOf ((es.drop f).take (k - f)))]).length = m + 1) := hide (by rw [List.length_append, HLm.out]; rfl)
            clear o6 g6 hoX hoF s1 B1 O5
            refine hK _ _ ?_
            clear hK K
            refine wpAny_ready (rs := [14]) (by kernel_rfl) (by simp) ?_
            refine AllReady.cons rfl (fun K hK => ?_) ?_
            rotate_left
            · exact AllReady.nil
            go_simp
            refine hK _ _ ?_
            clear hK K
            refine wpAny_done (by kernel_rfl) ?_ _
            go_wp2
            exact ⟨⟨k + 1, k + 1, m + 1, p6, c6, _, _, by omega, by omega, by first | rfl | go_num, by first | rfl | go_num, rfl, hmm, HL6, HBAR, HO6, HP6, HB6⟩, by simp [intOf]; omega⟩
          refine AllReady.cons rfl (fun K hK => ?_) ?_
          · go_simp
            refine hK _ _ ?_
            clear hK K
            refine wpAny_ready (rs := [5, 10]) (by kernel_rfl) (by simp) ?_
            refine AllReady.cons rfl (fun K hK => ?_) ?_
            · go_simp
              refine hK _ _ ?_
              clear hK K
              refine wpAny_ready (rs := [10]) (by kernel_rfl) (by simp) ?_
              refine AllReady.cons rfl (fun K hK => ?_) ?_
              rotate_left
              · exact AllReady.nil
              go_simp
              refine (HRC.out _ B0).mono ?_
              rintro _ x1 ⟨p5, c5, rfl, o5, d5⟩
              have B1 : Below wq.heap.size wq x1 := B0.trans d5
              have s1 := cell_later B1 a3
              have O5 := hide o5
              clear o5 d5
              refine hK _ _ ?_
              clear hK K
              refine wpAny_take (i := 11) (v := ?_) rfl (by kernel_rfl) (by kernel_rfl) (by kernel_rfl) (fun _ _ _ h => h) (Or.inl ⟨by rfl, ?_⟩) ?_
              case refine_2 => intro w; go_simp; try with_reducible rfl
              refine wpAny_ready (rs := [12]) (by kernel_rfl) (by simp) ?_
              refine AllReady.cons rfl (fun K hK => ?_) ?_
              rotate_left
              · exact AllReady.nil
              go_simp
              refine hK _ _ ?_
              clear hK K
              refine wpAny_ready (rs := [13]) (by kernel_rfl) (by simp) ?_
              refine AllReady.cons rfl (fun K hK => ?_) ?_
              rotate_left
              · exact AllReady.nil
              refine step_append_cells rfl (.tmp 19) (.tmp 31) 65 rfl W.heap.size 56 i0 (.agg #[.int .i64 0, .slice none 0 0]) 2 32 Try.underlying65 hI0 hz0 hz1 hz2 rfl (by decide) (.slice p1 m c1) m _ rfl (ownsRow_later HOW.out (B1.trans ((alloc_below x1 _).mono B1.size))) (.slice (some ⟨x1.heap.size, 0, none⟩) 1 1) 1 [.int .i64 id, .slice p5 N c5] rfl (Seg.news (heap_alloc_new x1 _) (by simp [Value.oneCell']) rfl (Nat.le_refl _) (by decide)) HK1.out HK2.out (Nat.le_trans HBq.out.size (Nat.le_trans B1.size (alloc_below x1 _).size)) ?_
              intro p6 c6 w6 o6 g6
              have hoX : Only (fun i => (Value.slice p1 m c1).ownBlock = some i) x1 w6 := (Only.alloc _ _ _).trans (Only.of_grown g6 (fun k e => e))
              have hoF : Only (fun i => (Value.slice p1 m c1).ownBlock = some i) wq w6 := (Only.fresh B1 _).trans hoX
              have HB6 : Hid (Below W.heap.size W w6) := hide ((HBq.out.trans ((B1.trans ((alloc_below x1 _).mono B1.size)).mono HBq.out.size)).grown g6 (Nat.le_trans HBq.out.size (Nat.le_trans B1.size (alloc_below x1 _).size)) (fun i hi => own_block_base HOW.out hi))
              have HO6 : Hid (w6.ownsRow W.heap.size 56 2 (.slice p6 (m + 1) c6) (m + 1) (paCells (dn ++ [(id, rcsOf ((es.drop f).take (k - f)))]) (vs ++ [.slice p5 N c5]))) := by
                rw [paCells_snoc HPA.out.1]
                exact hide o6
              have HP6 : Hid (PaL W.heap.size (fun _ => False) w6 (dn ++ [(id, rcsOf ((es.drop f).take (k - f)))]) (vs ++ [.slice p5 N c5])) := by
                refine hide (PaL.snoc (HPA.out.step hoF (fun i e => ?_) (fun _ _ h => h)) ⟨p5, c5, ?_, ?_, fun _ _ h => h⟩)
                · obtain ⟨_, cur, h7⟩ := own_block_lt HOW.out e
                  exact .inr ⟨_, _, _, h7, by decide⟩
                · show Value.slice p5 N c5 = .slice p5 (rcsOf ((es.drop f).take (k - f))).length c5
                  rw [HNN.out]
                · show World.ownsRow _ _ _ 2 (.slice p5 (rcsOf ((es.drop f).take (k - f))).length c5) (rcsOf ((es.drop f).take (k - f))).length _
                  rw [HNN.out]
                  refine ownsRow_base (ownsRow_only O5.out hoX (fun b hb e => ?_)) HBq.out.size
                  have hb0 : wq.heap.size ≤ b := own_block_base O5.out hb
                  have := (own_block_lt HOW.out e).1
                  omega
              have HL6 : Hid ((dn ++ [(id, rcsOf ((es.drop f).take (k - f)))]).length = m + 1) := hide (by rw [List.length_append, HLm.out]; rfl)
              clear o6 g6 hoX hoF s1 B1 O5
              refine hK _ _ ?_
              clear hK K
              refine wpAny_ready (rs := [14]) (by kernel_rfl) (by simp) ?_
              refine AllReady.cons rfl (fun K hK => ?_) ?_
              rotate_left
              · exact AllReady.nil
              go_simp
              refine hK _ _ ?_
              clear hK K
              refine wpAny_done (by kernel_rfl) ?_ _
              go_wp2
              exact ⟨⟨k + 1, k + 1, m + 1, p6, c6, _, _, by omega, by omega, by first | rfl | go_num, by first | rfl | go_num, rfl, hmm, HL6, HBAR, HO6, HP6, HB6⟩, by simp [intOf]; omega⟩
            refine AllReady.cons rfl (fun K hK => ?_) ?_
            · go_simp
              refine (HRC.out _ B0).mono ?_
              rintro _ x1 ⟨p5, c5, rfl, o5, d5⟩
              have B1 : Below wq.heap.size wq x1 := B0.trans d5
              have s1 := cell_later B1 a3
              have O5 := hide o5
              clear o5 d5
              refine hK _ _ ?_
              clear hK K
              refine wpAny_ready (rs := [5]) (by kernel_rfl) (by simp) ?_
              refine AllReady.cons rfl (fun K hK => ?_) ?_
              rotate_left
              · exact AllReady.nil
              go_simp
              refine hK _ _ ?_
              clear hK K
              refine wpAny_take (i := 11) (v := ?_) rfl (by kernel_rfl) (by kernel_rfl) (by kernel_rfl) (fun _ _ _ h => h) (Or.inl ⟨by rfl, ?_⟩) ?_
              case refine_2 => intro w; go_simp; try with_reducible rfl
              refine wpAny_ready (rs := [12]) (by kernel_rfl) (by simp) ?_
              refine AllReady.cons rfl (fun K hK => ?_) ?_
              rotate_left
              · exact AllReady.nil
              go_simp
              refine hK _ _ ?_
              clear hK K
              refine wpAny_ready (rs := [13]) (by kernel_rfl) (by simp) ?_
              refine AllReady.cons rfl (fun K hK => ?_) ?_
              rotate_left
              · exact AllReady.nil
              refine step_append_cells rfl (.tmp 19) (.tmp 31) 65 rfl W.heap.size 56 i0 (.agg #[.int .i64 0, .slice none 0 0]) 2 32 Try.underlying65 hI0 hz0 hz1 hz2 rfl (by decide) (.slice p1 m c1) m _ rfl (ownsRow_later HOW.out (B1.trans ((alloc_below x1 _).mono B1.size))) (.slice (some ⟨x1.heap.size, 0, none⟩) 1 1) 1 [.int .i64 id, .slice p5 N c5] rfl (Seg.news (heap_alloc_new x1 _) (by simp [Value.oneCell']) rfl (Nat.le_refl _) (by decide)) HK1.out HK2.out (Nat.le_trans HBq.out.size (Nat.le_trans B1.size (alloc_below x1 _).size)) ?_
              intro p6 c6 w6 o6 g6
              have hoX : Only (fun i => (Value.slice p1 m c1).ownBlock = some i) x1 w6 := (Only.alloc _ _ _).trans (Only.of_grown g6 (fun k e => e))
              have hoF : Only (fun i => (Value.slice p1 m c1).ownBlock = some i) wq w6 := (Only.fresh B1 _).trans hoX
              have HB6 : Hid (Below W.heap.size W w6) := hide ((HBq.out.trans ((B1.trans ((alloc_below x1 _).mono B1.size)).mono HBq.out.size)).grown g6 (Nat.le_trans HBq.out.size (Nat.le_trans B1.size (alloc_below x1 _).size)) (fun i hi => own_block_base HOW.out hi))
              have HO6 : Hid (w6.ownsRow W.heap.size 56 2 (.slice p6 (m + 1) c6) (m + 1) (paCells (dn ++ [(id, rcsOf ((es.drop f).take (k - f)))]) (vs ++ [.slice p5 N c5]))) := by
                rw [paCells_snoc HPA.out.1]
                exact hide o6
              have HP6 : Hid (PaL W.heap.size (fun _ => False) w6 (dn ++ [(id, rcsOf ((es.drop f).take (k - f)))]) (vs ++ [.slice p5 N c5])) := by
                refine hide (PaL.snoc (HPA.out.step hoF (fun i e => ?_) (fun _ _ h => h)) ⟨p5, c5, ?_, ?_, fun _ _ h => h⟩)
                · obtain ⟨_, cur, h7⟩ := own_block_lt HOW.out e
                  exact .inr ⟨_, _, _, h7, by decide⟩
                · show Value.slice p5 N c5 = .slice p5 (rcsOf ((es.drop f).take (k - f))).length c5
                  rw [HNN.out]
                · show World.ownsRow _ _ _ 2 (.slice p5 (rcsOf ((es.drop f).take (k - f))).length c5) (rcsOf ((es.drop f).take (k - f))).length _
                  rw [HNN.out]
                  refine ownsRow_base (ownsRow_only O5.out hoX (fun b hb e => ?_)) HBq.out.size
                  have hb0 : wq.heap.size ≤ b := own_block_base O5.out hb
                  have := (own_block_lt HOW.out e).1
                  omega
              have HL6 : Hid ((dn ++ [(id, rcsOf ((es.drop f).take (k - f)))]).length = m + 1) := hide (by rw [List.length_append, HLm.out]; rfl)
              clear o6 g6 hoX hoF s1 B1 O5
              refine hK _ _ ?_
              clear hK K
              refine wpAny_ready (rs := [14]) (by kernel_rfl) (by simp) ?_
              refine AllReady.cons rfl (fun K hK => ?_) ?_
              rotate_left
              · exact AllReady.nil
              go_simp
              refine hK _ _ ?_
              clear hK K
              refine wpAny_done (by kernel_rfl) ?_ _
              go_wp2
              exact ⟨⟨k + 1, k + 1, m + 1, p6, c6, _, _, by omega, by omega, by first | rfl | go_num, by first | rfl | go_num, rfl, hmm, HL6, HBAR, HO6, HP6, HB6⟩, by simp [intOf]; omega⟩
            exact AllReady.nil
          exact AllReady.nil
        refine AllReady.cons rfl (fun K hK => ?_) ?_
        · go_simp
          refine hK _ _ ?_
          clear hK K
          refine wpAny_ready (rs := [3, 10]) (by kernel_rfl) (by simp) ?_
          refine AllReady.cons rfl (fun K hK => ?_) ?_
          · go_simp
            refine hK _ _ ?_
            clear hK K
            refine wpAny_take (i := 4) (v := ?_) rfl (by kernel_rfl) (by kernel_rfl) (by kernel_rfl) (fun _ _ _ h => h) (Or.inl ⟨by rfl, ?_⟩) ?_
            case refine_2 => intro w; go_simp; try with_reducible rfl
            refine wpAny_ready (rs := [5, 10]) (by kernel_rfl) (by simp) ?_
            refine AllReady.cons rfl (fun K hK => ?_) ?_
            · go_simp
              refine hK _ _ ?_
              clear hK K
              refine wpAny_ready (rs := [10]) (by kernel_rfl) (by simp) ?_
              refine AllReady.cons rfl (fun K hK => ?_) ?_
              rotate_left
              · exact AllReady.nil
              go_simp
              refine (HRC.out _ B0).mono ?_
              rintro _ x1 ⟨p5, c5, rfl, o5, d5⟩
              have B1 : Below wq.heap.size wq x1 := B0.trans d5
              have s1 := cell_later B1 a3
              have O5 := hide o5
              clear o5 d5
              refine hK _ _ ?_
              clear hK K
              refine wpAny_take (i := 11) (v := ?_) rfl (by kernel_rfl) (by kernel_rfl) (by kernel_rfl) (fun _ _ _ h => h) (Or.inl ⟨by rfl, ?_⟩) ?_
              case refine_2 => intro w; go_simp; try with_reducible rfl
              refine wpAny_ready (rs := [12]) (by kernel_rfl) (by simp) ?_
              refine AllReady.cons rfl (fun K hK => ?_) ?_
              rotate_left
              · exact AllReady.nil
              go_simp
              refine hK _ _ ?_
              clear hK K
              refine wpAny_ready (rs := [13]) (by kernel_rfl) (by simp) ?_
              refine AllReady.cons rfl (fun K hK => ?_) ?_
              rotate_left
              · exact AllReady.nil
              refine step_append_cells rfl (.tmp 19) (.tmp 31) 65 rfl W.heap.size 56 i0 (.agg #[.int .i64 0, .slice none 0 0]) 2 32 Try.underlying65 hI0 hz0 hz1 hz2 rfl (by decide) (.slice p1 m c1) m _ rfl (ownsRow_later HOW.out (B1.trans ((alloc_below x1 _).mono B1.size))) (.slice (some ⟨x1.heap.size, 0, none⟩) 1 1) 1 [.int .i64 id, .slice p5 N c5] rfl (Seg.news (heap_alloc_new x1 _) (by simp [Value.oneCell']) rfl (Nat.le_refl _) (by decide)) HK1.out HK2.out (Nat.le_trans HBq.out.size (Nat.le_trans B1.size (alloc_below x1 _).size)) ?_
              intro p6 c6 w6 o6 g6
              have hoX : Only (fun i => (Value.slice p1 m c1).ownBlock = some i) x1 w6 := (Only.alloc _ _ _).trans (Only.of_grown g6 (fun k e => e))
              have hoF : Only (fun i => (Value.slice p1 m c1).ownBlock = some i) wq w6 := (Only.fresh B1 _).trans hoX
              have HB6 : Hid (Below W.heap.size W w6) := hide ((HBq.out.trans ((B1.trans ((alloc_below x1 _).mono B1.size)).mono HBq.out.size)).grown g6 (Nat.le_trans HBq.out.size (Nat.le_trans B1.size (alloc_below x1 _).size)) (fun i hi => own_block_base HOW.out hi))
              have HO6 : Hid (w6.ownsRow W.heap.size 56 2 (.slice p6 (m + 1) c6) (m + 1) (paCells (dn ++ [(id, rcsOf ((es.drop f).take (k - f)))]) (vs ++ [.slice p5 N c5]))) := by
                rw [paCells_snoc HPA.out.1]
                exact hide o6
              have HP6 : Hid (PaL W.heap.size (fun _ => False) w6 (dn ++ [(id, rcsOf ((es.drop f).take (k - f)))]) (vs ++ [.slice p5 N c5])) := by
                refine hide (PaL.snoc (HPA.out.step hoF (fun i e => ?_) (fun _ _ h => h)) ⟨p5, c5, ?_, ?_, fun _ _ h => h⟩)
                · obtain ⟨_, cur, h7⟩ := own_block_lt HOW.out e
                  exact .inr ⟨_, _, _, h7, by decide⟩
                · show Value.slice p5 N c5 = .slice p5 (rcsOf ((es.drop f).take (k - f))).length c5
                  rw [HNN.out]
                · show World.ownsRow _ _ _ 2 (.slice p5 (rcsOf ((es.drop f).take (k - f))).length c5) (rcsOf ((es.drop f).take (k - f))).length _
                  rw [HNN.out]
                  refine ownsRow_base (ownsRow_only O5.out hoX (fun b hb e => ?_)) HBq.out.size
                  have hb0 : wq.heap.size ≤ b := own_block_base O5.out hb
                  have := (own_block_lt HOW.out e).1
                  omega
              have HL6 : Hid ((dn ++ [(id, rcsOf ((es.drop f).take (k - f)))]).length = m + 1) := hide (by rw [List.length_append, HLm.out]; rfl)
              clear o6 g6 hoX hoF s1 B1 O5
              refine hK _ _ ?_
              clear hK K
              refine wpAny_ready (rs := [14]) (by kernel_rfl) (by simp) ?_
              refine AllReady.cons rfl (fun K hK => ?_) ?_
              rotate_left
              · exact AllReady.nil
              go_simp
              refine hK _ _ ?_
              clear hK K
              refine wpAny_done (by kernel_rfl) ?_ _
              go_wp2
              exact ⟨⟨k + 1, k + 1, m + 1, p6, c6, _, _, by omega, by omega, by first | rfl | go_num, by first | rfl | go_num, rfl, hmm, HL6, HBAR, HO6, HP6, HB6⟩, by simp [intOf]; omega⟩
            refine AllReady.cons rfl (fun K hK => ?_) ?_
            · go_simp
              refine (HRC.out _ B0).mono ?_
              rintro _ x1 ⟨p5, c5, rfl, o5, d5⟩
              have B1 : Below wq.heap.size wq x1 := B0.trans d5
              have s1 := cell_later B1 a3
              have O5 := hide o5
              clear o5 d5
              refine hK _ _ ?_
              clear hK K
              refine wpAny_ready (rs := [5]) (by kernel_rfl) (by simp) ?_
              refine AllReady.cons rfl (fun K hK => ?_) ?_
              rotate_left
              · exact AllReady.nil
              go_simp
              refine hK _ _ ?_
              clear hK K
              refine wpAny_take (i := 11) (v := ?_) rfl (by kernel_rfl) (by kernel_rfl) (by kernel_rfl) (fun _ _ _ h => h) (Or.inl ⟨by rfl, ?_⟩) ?_
              case refine_2 => intro w; go_simp; try with_reducible rfl
              refine wpAny_ready (rs := [12]) (by kernel_rfl) (by simp) ?_
              refine AllReady.cons rfl (fun K hK => ?_) ?_
              rotate_left
              · exact AllReady.nil
              go_simp
              refine hK _ _ ?_
              clear hK K
              refine wpAny_ready (rs := [13]) (by kernel_rfl) (by simp) ?_
              refine AllReady.cons rfl (fun K hK => ?_) ?_
              rotate_left
              · exact AllReady.nil
              refine step_append_cells rfl (.tmp 19) (.tmp 31) 65 rfl W.heap.size 56 i0 (.agg #[.int .i64 0, .slice none 0 0]) 2 32 Try.underlying65 hI0 hz0 hz1 hz2 rfl (by decide) (.slice p1 m c1) m _ rfl (ownsRow_later HOW.out (B1.trans ((alloc_below x1 _).mono B1.size))) (.slice (some ⟨x1.heap.size, 0, none⟩) 1 1) 1 [.int .i64 id, .slice p5 N c5] rfl (Seg.news (heap_alloc_new x1 _) (by simp [Value.oneCell']) rfl (Nat.le_refl _) (by decide)) HK1.out HK2.out (Nat.le_trans HBq.out.size (Nat.le_trans B1.size (alloc_below x1 _).size)) ?_
              intro p6 c6 w6 o6 g6
              have hoX : Only (fun i => (Value.slice p1 m c1).ownBlock = some i) x1 w6 := (Only.alloc _ _ _).trans (Only.of_grown g6 (fun k e => e))
              have hoF : Only (fun i => (Value.slice p1 m c1).ownBlock = some i) wq w6 := (Only.fresh B1 _).trans hoX
              have HB6 : Hid (Below W.heap.size W w6) := hide ((HBq.out.trans ((B1.trans ((alloc_below x1 _).mono B1.size)).mono HBq.out.size)).grown g6 (Nat.le_trans HBq.out.size (Nat.le_trans B1.size (alloc_below x1 _).size)) (fun i hi => own_block_base HOW.out hi))
              have HO6 : Hid (w6.ownsRow W.heap.size 56 2 (.slice p6 (m + 1) c6) (m + 1) (paCells (dn ++ [(id, rcsOf ((es.drop f).take (k - f)))]) (vs ++ [.slice p5 N c5]))) := by
                rw [paCells_snoc HPA.out.1]
                exact hide o6
              have HP6 : Hid (PaL W.heap.size (fun _ => False) w6 (dn ++ [(id, rcsOf ((es.drop f).take (k - f)))]) (vs ++ [.slice p5 N c5])) := by
                refine hide (PaL.snoc (HPA.out.step hoF (fun i e => ?_) (fun _ _ h => h)) ⟨p5, c5, ?_, ?_, fun _ _ h => h⟩)
                · obtain ⟨_, cur, h7⟩ := own_block_lt HOW.out e
                  exact .inr ⟨_, _, _, h7, by decide⟩
                · show Value.slice p5 N c5 = .slice p5 (rcsOf ((es.drop f).take (k - f))).length c5
                  rw [HNN.out]
                · show World.ownsRow _ _ _ 2 (.slice p5 (rcsOf ((es.drop f).take (k - f))).length c5) (rcsOf ((es.drop f).take (k - f))).length _
                  rw [HNN.out]
                  refine ownsRow_base (ownsRow_only O5.out hoX (fun b hb e => ?_)) HBq.out.size
                  have hb0 : wq.heap.size ≤ b := own_block_base O5.out hb
                  have := (own_block_lt HOW.out e).1
                  omega
              have HL6 : Hid ((dn ++ [(id, rcsOf ((es.drop f).take (k - f)))]).length = m + 1) := hide (by rw [List.length_append, HLm.out]; rfl)
              clear o6 g6 hoX hoF s1 B1 O5
              refine hK _ _ ?_
              clear hK K
              refine wpAny_ready (rs := [14]) (by kernel_rfl) (by simp) ?_
              refine AllReady.cons rfl (fun K hK => ?_) ?_
              rotate_left
              · exact AllReady.nil
              go_simp
              refine hK _ _ ?_
              clear hK K
              refine wpAny_done (by kernel_rfl) ?_ _
              go_wp2
              exact ⟨⟨k + 1, k + 1, m + 1, p6, c6, _, _, by omega, by omega, by first | rfl | go_num, by first | rfl | go_num, rfl, hmm, HL6, HBAR, HO6, HP6, HB6⟩, by simp [intOf]; omega⟩
            exact AllReady.nil
          refine AllReady.cons rfl (fun K hK => ?_) ?_
          · go_simp
            refine (HRC.out _ B0).mono ?_
            rintro _ x1 ⟨p5, c5, rfl, o5, d5⟩
            have B1 : Below wq.heap.size wq x1 := B0.trans d5
            have s1 := cell_later B1 a3
            have O5 := hide o5
            clear o5 d5
            refine hK _ _ ?_
            clear hK K
            refine wpAny_ready (rs := [3]) (by kernel_rfl) (by simp) ?_
            refine AllReady.cons rfl (fun K hK => ?_) ?_
            rotate_left
            · exact AllReady.nil
            go_simp
            refine hK _ _ ?_
            clear hK K
            refine wpAny_take (i := 4) (v := ?_) rfl (by kernel_rfl) (by kernel_rfl) (by kernel_rfl) (fun _ _ _ h => h) (Or.inl ⟨by rfl, ?_⟩) ?_
            case refine_2 => intro w; go_simp; try with_reducible rfl
            refine wpAny_ready (rs := [5]) (by kernel_rfl) (by simp) ?_
            refine AllReady.cons rfl (fun K hK => ?_) ?_
            rotate_left
            · exact AllReady.nil
            go_simp
            refine hK _ _ ?_
            clear hK K
            refine wpAny_take (i := 11) (v := ?_) rfl (by kernel_rfl) (by kernel_rfl) (by kernel_rfl) (fun _ _ _ h => h) (Or.inl ⟨by rfl, ?_⟩) ?_
            case refine_2 => intro w; go_simp; try with_reducible rfl
            refine wpAny_ready (rs := [12]) (by kernel_rfl) (by simp) ?_
            refine AllReady.cons rfl (fun K hK => ?_) ?_
            rotate_left
            · exact AllReady.nil
            go_simp
            refine hK _ _ ?_
            clear hK K
            refine wpAny_ready (rs := [13]) (by kernel_rfl) (by simp) ?_
            refine AllReady.cons rfl (fun K hK => ?_) ?_
            rotate_left
            · exact AllReady.nil
            refine step_append_cells rfl (.tmp 19) (.tmp 31) 65 rfl W.heap.size 56 i0 (.agg #[.int .i64 0, .slice none 0 0]) 2 32 Try.underlying65 hI0 hz0 hz1 hz2 rfl (by decide) (.slice p1 m c1) m _ rfl (ownsRow_later HOW.out (B1.trans ((alloc_below x1 _).mono B1.size))) (.slice (some ⟨x1.heap.size, 0, none⟩) 1 1) 1 [.int .i64 id, .slice p5 N c5] rfl (Seg.news (heap_alloc_new x1 _) (by simp [Value.oneCell']) rfl (Nat.le_refl _) (by decide)) HK1.out HK2.out (Nat.le_trans HBq.out.size (Nat.le_trans B1.size (alloc_below x1 _).size)) ?_
            intro p6 c6 w6 o6 g6
            have hoX : Only (fun i => (Value.slice p1 m c1).ownBlock = some i) x1 w6 := (Only.alloc _ _ _).trans (Only.of_grown g6 (fun k e => e))
            have hoF : Only (fun i => (Value.slice p1 m c1).ownBlock = some i) wq w6 := (Only.fresh B1 _).trans hoX
            have HB6 : Hid (Below W.heap.size W w6) := hide ((HBq.out.trans ((B1.trans ((alloc_below x1 _).mono B1.size)).mono HBq.out.size)).grown g6 (Nat.le_trans HBq.out.size (Nat.le_trans B1.size (alloc_below x1 _).size)) (fun i hi => own_block_base HOW.out hi))
            have HO6 : Hid (w6.ownsRow W.heap.size 56 2 (.slice p6 (m + 1) c6) (m + 1) (paCells (dn ++ [(id, rcsOf ((es.drop f).take (k - f)))]) (vs ++ [.slice p5 N c5]))) := by
              rw [paCells_snoc HPA.out.1]
              exact hide o6
            have HP6 : Hid (PaL W.heap.size (fun _ => False) w6 (dn ++ [(id, rcsOf ((es.drop f).take (k - f)))]) (vs ++ [.slice p5 N c5])) := by
              refine hide (PaL.snoc (HPA.out.step hoF (fun i e => ?_) (fun _ _ h => h)) ⟨p5, c5, ?_, ?_, fun _ _ h => h⟩)
              · obtain ⟨_, cur, h7⟩ := own_block_lt HOW.out e
                exact .inr ⟨_, _, _, h7, by decide⟩
              · show Value.slice p5 N c5 = .slice p5 (rcsOf ((es.drop f).take (k - f))).length c5
                rw [HNN.out]
              · show World.ownsRow _ _ _ 2 (.slice p5 (rcsOf ((es.drop f).take (k - f))).length c5) (rcsOf ((es.drop f).take (k - f))).length _
                rw [HNN.out]
                refine ownsRow_base (ownsRow_only O5.out hoX (fun b hb e => ?_)) HBq.out.size
                have hb0 : wq.heap.size ≤ b := own_block_base O5.out hb
                have := (own_block_lt HOW.out e).1
                omega
            have HL6 : Hid ((dn ++ [(id, rcsOf ((es.drop f).take (k - f)))]).length = m + 1) := hide (by rw [List.length_append, HLm.out]; rfl)
            clear o6 g6 hoX hoF s1 B1 O5
            refine hK _ _ ?_
            clear hK K
            refine wpAny_ready (rs := [14]) (by kernel_rfl) (by simp) ?_
            refine AllReady.cons rfl (fun K hK => ?_) ?_
            rotate_left
            · exact AllReady.nil
            go_simp
            refine hK _ _ ?_
            clear hK K
            refine wpAny_done (by kernel_rfl) ?_ _
            go_wp2
            exact ⟨⟨k + 1, k + 1, m + 1, p6, c6, _, _, by omega, by omega, by first | rfl | go_num, by first | rfl | go_num, rfl, hmm, HL6, HBAR, HO6, HP6, HB6⟩, by simp [intOf]; omega⟩
          exact AllReady.nil
        exact AllReady.nil
      · have e1 : (kd == 2) = false := by simpa using hkd
        have HE2 := hide (HEP.out.other hlt2 hx hkd)
        clear hx hlt2 hkd
        go_wp2
        exact ⟨⟨k + 1, f, m, p1, c1, dn, vs, by omega, by omega, by first | rfl | go_num, rfl, rfl, hmM, HLm, HE2, HOW, HPA, HBq⟩, by simp [intOf]; omega⟩
    · obtain rfl : k = n := by omega
      have hend := HEP.out
      rw [← HN.out] at hend
      obtain ⟨e0, e1⟩ := hend.end
      obtain ⟨N, hN⟩ : ∃ N, (rcsOf (es.drop f)).length = N := ⟨_, rfl⟩
      rw [hN] at e0 e1
      have hlen : (es.drop f).length = k - f := by rw [List.length_drop, HN.out]
      have HRC := hide (rrecords_any (n := k - f) ((HR.out.later HBq.out).drop (f := f)) hlen (by omega) hN)
      have HNN := hide hN
      have E0 := hide e0
      have E1 := hide e1
      clear hend e0 e1 hN hlen
      by_cases hcf : c = f
      · rw [if_pos hcf] at HRC
        have hkf : k - f = 0 := by omega
        have hcf0 : c - f = 0 := by omega
        rw [hkf, hcf0] at HRC
        have hkf2 : k = f := by omega
        subst hcf hkf2
        clear hkf hcf0
        go_wp2_with fail
        refine HRC.out.mono ?_
        rintro _ w6 ⟨p6, c6, rfl, o6, b6⟩
        have HB6 := hide (HBq.out.trans (b6.mono HBq.out.size))
        have HO6 := hide o6
        have HOW6 := hide (ownsRow_later HOW.out b6)
        have HP6 : Hid (PaL W.heap.size (fun _ => False) w6 dn vs) := hide (HPA.out.step (Only.fresh b6 (fun _ => False)) (fun i e => e.elim) (fun _ _ h => h))
        have hsz6 := b6.size
        clear o6 b6 HRC
        by_cases hN0 : N = 0
        · have hee := E0.out hN0
          have hmM2 : m = M := by rw [← HM.out, hee]; exact HLm.out.symm
          have HA : Hid (EpsAt w6 p1 c1 (epochsL (knownL es))) := hide (by rw [hee]; exact EpsAt.of_own HOW6.out HP6.out HLm.out)
          subst hN0 hmM2
          clear hee
          go_wp2
          go_ret
          exact ⟨p1, c1, rfl, HA.out, HB6.out⟩
        · have hee := E1.out hN0
          have hmM2 : m + 1 = M := by rw [← HM.out, hee, List.length_append, HLm.out]; rfl
          have d1 : decide ((N : Int) > 0) = true := decide_eq_true (by omega)
          subst hmM2
          have HEE := hide hee
          have hab := alloc_below w6 (.cells #[.int .i64 0, .slice p6 N c6] 56 (0, 0))
          have HAB := hide hab
          have HRW := hide (ownsRow_later HOW6.out hab)
          have HSG : Hid (Seg (w6.alloc (.cells #[.int .i64 0, .slice p6 N c6] 56 (0, 0))) 2 (.slice (some ⟨w6.heap.size, 0, none⟩) 1 1) 1 [.int .i64 0, .slice p6 N c6]) := hide (Seg.news (heap_alloc_new w6 _) (by simp [Value.oneCell']) rfl (Nat.le_refl _) (by decide))
          have HK1 : Hid (m + 1 ≤ maxLen) := by show _ ≤ _; unfold maxLen; omega
          have HK2 : Hid ((m + 1) * 32 ≤ 140737488355328) := by show _ ≤ _; omega
          have HBS : Hid (W.heap.size ≤ (w6.alloc (.cells #[.int .i64 0, .slice p6 N c6] 56 (0, 0))).heap.size) := hide (Nat.le_trans HB6.out.size hab.size)
          clear hee hab
          go_wp2_with (at_builtin; refine append_cells _ rfl (.tmp 42) (.tmp 45) 65 rfl W.heap.size 56 i0 (.agg #[.int .i64 0, .slice none 0 0]) 2 32 Try.underlying65 hI0 hz0 hz1 hz2 rfl (by decide) (.slice p1 m c1) m _ rfl HRW.out (.slice (some ⟨w6.heap.size, 0, none⟩) 1 1) 1 _ rfl HSG.out HK1.out HK2.out HBS.out ?_)
          intro p7 c7 w7 o7 g7
          have hoX : Only (fun i => (Value.slice p1 m c1).ownBlock = some i) w6 w7 := (Only.alloc _ _ _).trans (Only.of_grown g7 (fun k e => e))
          have HB7 : Hid (Below W.heap.size W w7) := hide ((HB6.out.trans (HAB.out.mono HB6.out.size)).grown g7 (Nat.le_trans HB6.out.size HAB.out.size) (fun i hi => own_block_base HOW.out hi))
          have HA : Hid (EpsAt w7 p7 c7 (epochsL (knownL es))) := by
            rw [HEE.out]
            refine hide (EpsAt.of_own (vs := vs ++ [.slice p6 N c6]) (by rw [paCells_snoc HPA.out.1]; exact o7) (PaL.snoc (HP6.out.step hoX (fun i e => ?_) (fun _ _ h => h)) ⟨p6, c6, ?_, ?_, fun _ _ h => h⟩) (by rw [List.length_append, HLm.out]; rfl))
            · obtain ⟨_, cur, h7⟩ := own_block_lt HOW6.out e
              exact .inr ⟨_, _, _, h7, by decide⟩
            · show Value.slice p6 N c6 = .slice p6 (rcsOf (es.drop _)).length c6
              rw [HNN.out]
            · show World.ownsRow _ _ _ 2 (.slice p6 (rcsOf (es.drop _)).length c6) (rcsOf (es.drop _)).length _
              rw [HNN.out]
              refine ownsRow_base (ownsRow_only HO6.out hoX (fun b hb e => ?_)) HBq.out.size
              have hb0 : wq.heap.size ≤ b := own_block_base HO6.out hb
              have := (own_block_lt HOW.out e).1
              omega
          clear o7 g7 hoX
          go_wp2
          go_ret
          exact ⟨p7, c7, rfl, HA.out, HB7.out⟩
      · rw [if_neg hcf] at HRC
        obtain ⟨a, rfl⟩ : ∃ a, p = some a := by
          cases p with
          | none => have := HR.out.nil rfl; omega
          | some a => exact ⟨a, rfl⟩
        simp only [Option.map_some] at HRC
        go_wp2_with fail
        refine HRC.out.mono ?_
        rintro _ w6 ⟨p6, c6, rfl, o6, b6⟩
        have HB6 := hide (HBq.out.trans (b6.mono HBq.out.size))
        have HO6 := hide o6
        have HOW6 := hide (ownsRow_later HOW.out b6)
        have HP6 : Hid (PaL W.heap.size (fun _ => False) w6 dn vs) := hide (HPA.out.step (Only.fresh b6 (fun _ => False)) (fun i e => e.elim) (fun _ _ h => h))
        have hsz6 := b6.size
        clear o6 b6 HRC
        by_cases hN0 : N = 0
        · have hee := E0.out hN0
          have hmM2 : m = M := by rw [← HM.out, hee]; exact HLm.out.symm
          have HA : Hid (EpsAt w6 p1 c1 (epochsL (knownL es))) := hide (by rw [hee]; exact EpsAt.of_own HOW6.out HP6.out HLm.out)
          subst hN0 hmM2
          clear hee
          go_wp2
          go_ret
          exact ⟨p1, c1, rfl, HA.out, HB6.out⟩
        · have hee := E1.out hN0
          have hmM2 : m + 1 = M := by rw [← HM.out, hee, List.length_append, HLm.out]; rfl
          have d1 : decide ((N : Int) > 0) = true := decide_eq_true (by omega)
          subst hmM2
          have HEE := hide hee
          have hab := alloc_below w6 (.cells #[.int .i64 0, .slice p6 N c6] 56 (0, 0))
          have HAB := hide hab
          have HRW := hide (ownsRow_later HOW6.out hab)
          have HSG : Hid (Seg (w6.alloc (.cells #[.int .i64 0, .slice p6 N c6] 56 (0, 0))) 2 (.slice (some ⟨w6.heap.size, 0, none⟩) 1 1) 1 [.int .i64 0, .slice p6 N c6]) := hide (Seg.news (heap_alloc_new w6 _) (by simp [Value.oneCell']) rfl (Nat.le_refl _) (by decide))
          have HK1 : Hid (m + 1 ≤ maxLen) := by show _ ≤ _; unfold maxLen; omega
          have HK2 : Hid ((m + 1) * 32 ≤ 140737488355328) := by show _ ≤ _; omega
          have HBS : Hid (W.heap.size ≤ (w6.alloc (.cells #[.int .i64 0, .slice p6 N c6] 56 (0, 0))).heap.size) := hide (Nat.le_trans HB6.out.size hab.size)
          clear hee hab
          go_wp2_with (at_builtin; refine append_cells _ rfl (.tmp 42) (.tmp 45) 65 rfl W.heap.size 56 i0 (.agg #[.int .i64 0, .slice none 0 0]) 2 32 Try.underlying65 hI0 hz0 hz1 hz2 rfl (by decide) (.slice p1 m c1) m _ rfl HRW.out (.slice (some ⟨w6.heap.size, 0, none⟩) 1 1) 1 _ rfl HSG.out HK1.out HK2.out HBS.out ?_)
          intro p7 c7 w7 o7 g7
          have hoX : Only (fun i => (Value.slice p1 m c1).ownBlock = some i) w6 w7 := (Only.alloc _ _ _).trans (Only.of_grown g7 (fun k e => e))
          have HB7 : Hid (Below W.heap.size W w7) := hide ((HB6.out.trans (HAB.out.mono HB6.out.size)).grown g7 (Nat.le_trans HB6.out.size HAB.out.size) (fun i hi => own_block_base HOW.out hi))
          have HA : Hid (EpsAt w7 p7 c7 (epochsL (knownL es))) := by
            rw [HEE.out]
            refine hide (EpsAt.of_own (vs := vs ++ [.slice p6 N c6]) (by rw [paCells_snoc HPA.out.1]; exact o7) (PaL.snoc (HP6.out.step hoX (fun i e => ?_) (fun _ _ h => h)) ⟨p6, c6, ?_, ?_, fun _ _ h => h⟩) (by rw [List.length_append, HLm.out]; rfl))
            · obtain ⟨_, cur, h7⟩ := own_block_lt HOW6.out e
              exact .inr ⟨_, _, _, h7, by decide⟩
            · show Value.slice p6 N c6 = .slice p6 (rcsOf (es.drop _)).length c6
              rw [HNN.out]
            · show World.ownsRow _ _ _ 2 (.slice p6 (rcsOf (es.drop _)).length c6) (rcsOf (es.drop _)).length _
              rw [HNN.out]
              refine ownsRow_base (ownsRow_only HO6.out hoX (fun b hb e => ?_)) HBq.out.size
              have hb0 : wq.heap.size ≤ b := own_block_base HO6.out hb
              have := (own_block_lt HOW.out e).1
              omega
          clear o7 g7 hoX
          go_wp2
          go_ret
          exact ⟨p7, c7, rfl, HA.out, HB7.out⟩
end Go.Proofs.Ytihbdlbnpkmafaa
