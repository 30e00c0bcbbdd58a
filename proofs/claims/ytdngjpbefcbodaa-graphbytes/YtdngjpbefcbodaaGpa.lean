/-
  Parse of the program. The conditions: lengths.
-/
import Derived.Test.YtdngjpbefcbodaaGrd
import Derived.Test.YtdngjpbefcbodaaGlo
namespace Go.Proofs.Ytdngjpbefcbodaa
open Go.RowKit

theorem results_row_tmp {P : Program} {fn : Func} {p u : Tmp} {ty : TypeId} (h : fn.results = #[.cell p ty, .tmp u]) (tmps : Array Value) (w : World) (g : Nat) (t : TypeId) (cs : Array Value) (fr : Nat × Nat) (d : TypeDesc)
    (hp : tmps.getD p undef = .pointer (some ⟨g, 0, none⟩)) (hg : w.heap[g]? = some (.cells cs t fr))
    (hu : P.underlying ty = some d) (hd : (match d with | .struct _ | .array _ _ => true | _ => false) = true) (hi : (P.info? ty).map (·.size) = some cs.size) :
    (results fn tmps).run P w = .ok (.tuple #[.agg cs, tmps.getD u undef]) w := by
  rw [results_cell_tmp h, hp]
  simp [asAddr, run_loadVar_row w g t ty cs fr d hg hu hd hi]
theorem graph_facts {w : World} {b : Nat} {c0 c1 : Value} (h : w.heap[b]? = some (.cells #[c0, c1] 24 (0, 0))) (d0 : Value) :
    w.cell? ⟨b, 0, none⟩ = some c0 ∧ w.frozen? ⟨b, 0, none⟩ = false ∧ (w.setCell ⟨b, 0, none⟩ d0).cell? ⟨b, 1, none⟩ = some c1 ∧ (w.setCell ⟨b, 0, none⟩ d0).frozen? ⟨b, 1, none⟩ = false := by
  have h1 := heap_setCell_same w b 0 _ _ d0 h
  refine ⟨by simp [World.cell?, h], by simp [World.frozen?, h], ?_, ?_⟩
  · simp only [World.cell?]; rw [h1]; rfl
  · simp only [World.frozen?]; rw [h1]; rfl
theorem set2 {W : World} {b : Nat} {c0 c1 : Value} (h : W.heap[b]? = some (.cells #[c0, c1] 24 (0, 0))) (d0 d1 : Value) :
    ((W.setCell ⟨b, 0, none⟩ d0).setCell ⟨b, 1, none⟩ d1).heap[b]? = some (.cells #[d0, d1] 24 (0, 0)) :=
  heap_setCell_same _ b 1 _ _ d1 (heap_setCell_same W b 0 _ _ d0 h)
theorem only_set2 (W : World) (b : Nat) (d0 d1 : Value) : Only (· = b) W ((W.setCell ⟨b, 0, none⟩ d0).setCell ⟨b, 1, none⟩ d1) :=
  (Only.set (F := (· = b)) W b 0 d0 rfl).trans (Only.set (F := (· = b)) _ b 1 d1 rfl)

set_option maxRecDepth 100000 in
set_option maxHeartbeats 8000000 in
theorem parse_any {W : World} {v : Value} {b : List Int} (hb : Row .u8 W v b) (hu : U8 b) (hs : b.length ≤ 140737488355328) {rp : Int} {ros : List GO} {rc : Int} (hr : parseG b = (rp, ros, rc)) :
    Calls Try.prog 8 #[v] W fun e w' => ∃ p' c' xs N, e = .returned (.tuple #[.agg #[.int .i64 rp, .slice p' N c'], .int .i64 rc]) ∧ xs.length = N ∧ xs.map OV.o = ros ∧ GOwn w' W.heap.size p' c' xs ∧ Below W.heap.size W w' := by
  obtain ⟨i0, hI0, hz0, hz1, hz2⟩ := info_parts Try.infoOp
  obtain ⟨parts, l1, e1, h1⟩ : ∃ a q s, anyR b 0 = (a, q, s) := ⟨_, _, _, rfl⟩
  obtain ⟨cn, l2, e2, h2⟩ : ∃ a q s, cntR l1 e1 = (a, q, s) := ⟨_, _, _, rfl⟩
  obtain ⟨n, hn⟩ : ∃ m : Nat, cn = (m : Int) := ⟨cn.toNat, by have := cnt_bd l1 e1; rw [h2] at this; simp only at this; omega⟩
  subst hn
  have hn1 : n ≤ 1024 := by have := cnt_bd l1 e1; rw [h2] at this; simp only at this; omega
  obtain ⟨os, l3, e3, h3⟩ : ∃ a q s, loopG opR n l2 e2 = (a, q, s) := ⟨_, _, _, rfl⟩
  rw [parseG_eq h1 ((opsR_eq h2).trans h3)] at hr
  have HG0 := hide (Goes.start h3)
  have HHR := hide hr
  have hb0 := alloc_below W (.cells #[.int .i64 0, .slice none 0 0] 24 (0, 0))
  have hvr : (W.alloc (.cells #[.int .i64 0, .slice none 0 0] 24 (0, 0))).heap[W.heap.size]? = some (.cells #[.int .i64 0, .slice none 0 0] 24 (0, 0)) := heap_alloc_new W _
  obtain ⟨V, hV⟩ : ∃ V, V = W.alloc (.cells #[.int .i64 0, .slice none 0 0] 24 (0, 0)) := ⟨_, rfl⟩
  rw [← hV] at hb0 hvr
  have HVB := hide hb0
  have HOP := hide (open_more (hb.below hb0) hu hs)
  obtain ⟨pb, cb, rfl, i1, i2, _, _⟩ := id hb
  obtain ⟨rb, hgB⟩ : ∃ gB, W.heap.size = gB := ⟨_, rfl⟩
  rw [hgB] at hvr
  have HGB := hide hgB
  have hgV : rb < V.heap.size := (Array.getElem?_eq_some_iff.1 hvr).1
  have HH1 := hide h1
  have HH2 := hide h2
  clear hb hb0 hr h1 h2 h3
  go_enter Try.func8, Try.ntmps8
  go_wp2_with fail
  rw [← hV]
  try rw [hgB]
  clear hV hgB
  refine HOP.out.mono ?_
  rintro _ w1 ⟨bu, v1, rfl, hbu, U1, B1, hbl, hvb⟩
  have o1 := below_box B1 hvr
  have HB1 := hide (HVB.out.trans (B1.mono HVB.out.size))
  have U2 : UnpX (fun k => w1.heap.size ≤ k) w1 bu v1 b 0 := U1.other (fun k hk e => by have := (hvb k hk).2; omega)
  obtain ⟨B, hB⟩ : ∃ B, w1.heap.size = B := ⟨_, rfl⟩
  have hbB : bu < B := by omega
  have hWu : W.heap.size ≤ bu := by have := HGB.out; omega
  have hnr : bu ≠ rb := by omega
  rw [hB] at U2
  have HRI := hide (rdInt_any U2 HH1.out)
  have HWB : Hid (W.heap.size ≤ B) := hide (by rw [← hB]; exact HB1.out.size)
  clear U1 U2 B1 HOP hvb hvr HH1
  go_wp2_with fail
  refine HRI.out.mono ?_
  rintro _ w2 ⟨rfl, g2, p2, c2, U2⟩
  have N2 := only_grown g2
  have o2 := N2.obj o1 (fun e => hnr e.symm)
  have HB2 : Hid (Below W.heap.size W w2) := hide (HB1.out.trans (N2.below HB1.out.size (fun i e => by have e' : i = bu := e; omega)))
  have HS2 : Hid (B ≤ w2.heap.size) := hide (by rw [← hB]; exact N2.size)
  have hb3 := alloc_below w2 (.cells #[.int .i64 parts, .slice none 0 0] 24 (0, 0))
  have hbx : (w2.alloc (.cells #[.int .i64 parts, .slice none 0 0] 24 (0, 0))).heap[w2.heap.size]? = some (.cells #[.int .i64 parts, .slice none 0 0] 24 (0, 0)) := heap_alloc_new w2 _
  obtain ⟨w3, hw3⟩ : ∃ w3, w3 = w2.alloc (.cells #[.int .i64 parts, .slice none 0 0] 24 (0, 0)) := ⟨_, rfl⟩
  rw [← hw3] at hb3 hbx
  have HUI := hide (uint_at (U2.below hb3) HH2.out)
  have o3 := below_box hb3 o2
  have HB3 := hide (HB2.out.trans (hb3.mono HB2.out.size))
  obtain ⟨ob, hxB⟩ : ∃ xB, w2.heap.size = xB := ⟨_, rfl⟩
  rw [hxB] at hbx
  have hobB : B ≤ ob := by have := HS2.out; omega
  have hne : bu ≠ ob := by omega
  have hro : rb ≠ ob := by
    have := (Array.getElem?_eq_some_iff.1 o2).1
    omega
  have HS3 : Hid (B ≤ w3.heap.size) := hide (Nat.le_trans HS2.out hb3.size)
  clear g2 N2 U2 o1 o2 hb3 HRI HB1 HB2 HS2 HH2 hB
  go_wp2_with fail
  rw [← hw3]
  try rw [hxB]
  clear hw3 hxB
  refine HUI.out.mono ?_
  rintro _ w4 ⟨rfl, g4, p4, c4, U4⟩
  have N4 := only_grown g4
  have HB4 : Hid (Below W.heap.size W w4) := hide (HB3.out.trans (N4.below HB3.out.size (fun i e => by have e' : i = bu := e; omega)))
  have HS4 : Hid (B ≤ w4.heap.size) := hide (Nat.le_trans HS3.out N4.size)
  have HBX4 := hide (N4.obj hbx (fun e => hne e.symm))
  have HRX4 := hide (N4.obj o3 (fun e => hnr e.symm))
  have HU4 := hide U4
  clear g4 N4 U4 hbx o3 HUI HB3 HS3
  go_wp2_with fail
  go_loopw [6] (fun s wr => ∃ (i m : Nat) (acc : List OV) (l : List Int) (e : Int) (p1 : Option Addr) (c1 : Nat) (pv : Option Addr) (cv : Nat), i ≤ n ∧ s = .int .i64 ((n - i : Nat) : Int) ∧ m ≤ i ∧ Hid (acc.length = m) ∧ Hid (UnpX (fun k => B ≤ k) wr bu (.slice pv l.length cv) l e) ∧ Hid (wr.ownsRow B 38 5 (.slice p1 m c1) m (acc.flatMap OV.cells)) ∧ Hid (∀ x ∈ acc, wr.ownsRow B 40 2 (.slice x.ip x.o.ins.length x.ic) x.o.ins.length (x.o.ins.flatMap GE.cells)) ∧ Hid (wr.heap[ob]? = some (.cells #[.int .i64 parts, .slice p1 m c1] 24 (0, 0))) ∧ Hid (wr.heap[rb]? = some (.cells #[.int .i64 0, .slice none 0 0] 24 (0, 0))) ∧ Hid (Goes opR (n - i) (acc.map OV.o) l e os l3 e3) ∧ Hid (Below W.heap.size W wr) ∧ Hid (B ≤ wr.heap.size)) (fun s _ => (intOf s).toNat)
  case atStart => exact ⟨0, 0, [], l2, e2, none, 0, p4, c4, Nat.zero_le _, rfl, Nat.le_refl _, hide rfl, HU4, hide (World.ownsRow_nil _ _ _ _), hide (fun x hx => absurd hx (by simp)), HBX4, HRX4, HG0, HB4, HS4⟩
  case round =>
    obtain ⟨i, m, acc, l, e, p1, c1, pw, cw, hi, rfl, hm, HAL, HU, HOW, HIN, HBX, HRX, HG, HON, HVS⟩ := hrel
    clear HU4 HBX4 HRX4 HG0 HB4 HS4
    rename World => wr
    by_cases hlt : i < n
    · by_cases he : e = 0
      · subst he
        obtain ⟨⟨kk, pp, ff, aa, ins⟩, l1, e1, ha⟩ : ∃ a q s, opR l 0 = (a, q, s) := ⟨_, _, _, rfl⟩
        obtain ⟨q, hq⟩ : ∃ q, ins.length = q := ⟨_, rfl⟩
        have HGN : Hid (Goes opR (n - (i + 1)) (acc.map OV.o ++ [⟨kk, pp, ff, aa, ins⟩]) l1 e1 os l3 e3) := by
          have h := HG.out
          rw [show n - i = n - (i + 1) + 1 by omega] at h
          exact hide (h.next ha)
        have HER := hide (err_any HU.out)
        have d1 : decide (((n - i : Nat) : Int) > 0) = true := decide_eq_true (by omega)
        have HK1 : Hid (m + 1 ≤ maxLen) := by show _ ≤ _; unfold maxLen; omega
        have HK2 : Hid ((m + 1) * 56 ≤ 140737488355328) := by show _ ≤ _; omega
        have HA1 := hide ha
        clear ha HG
        go_wp2_with fail
        refine HER.out.mono ?_
        rintro _ wy ⟨rfl, rfl⟩
        clear HER
        rename World => wr
        go_upto_region 6 with fail
        have B0 : Below wr.heap.size wr wr.drew := (Below.refl _ wr).drew
        have HC1 := hide (readOp_any (HU.out.below B0) hbB (Nat.le_trans HVS.out B0.size) HA1.out)
        have HD : Hid (Only (· = bu) wr wr.drew) := hide (Only.fresh B0 _)
        have f0 : wr.cell? ⟨ob, 1, none⟩ = some (.slice p1 m c1) := by simp [World.cell?, HBX.out]
        have fd : wr.drew.cell? ⟨ob, 1, none⟩ = some (.slice p1 m c1) := cell_later B0 f0
        clear HU B0 d1
        refine wp_region_any (by kernel_rfl) ?_
        try (change wpAny _ _ _ _ _ _ _ (World.drew _))
        refine wpAny_take (i := 0) (v := ?_) rfl (by kernel_rfl) (by kernel_rfl) (by kernel_rfl) (fun _ _ _ h => h) (Or.inl ⟨by rfl, ?_⟩) ?_
        case refine_2 => intro w; go_simp; try with_reducible rfl
        refine wpAny_take (i := 2) (v := ?_) rfl (by kernel_rfl) (by kernel_rfl) (by kernel_rfl) (fun _ _ _ h => h) (Or.inl ⟨by rfl, ?_⟩) ?_
        case refine_2 => intro w; go_simp; try with_reducible rfl
        refine wpAny_ready (rs := [1, 3]) (by kernel_rfl) (by simp) ?_
        refine AllReady.cons rfl (fun K hK => ?_) ?_
        · go_simp
          refine hK _ _ ?_
          clear hK K
          refine wpAny_ready (rs := [3]) (by kernel_rfl) (by simp) ?_
          refine AllReady.cons rfl (fun K hK => ?_) ?_
          rotate_left
          · exact AllReady.nil
          go_simp
          refine HC1.out.mono ?_
          rintro _ x1 ⟨ip, ic, rfl, OE1, N1, pb, cb, U1⟩
          simp only [OV.val]
          simp only at OE1
          rw [hq] at OE1 ⊢
          have HX1 : Hid (Only (· = bu) wr x1) := hide (HD.out.trans N1)
          have f1 : x1.cell? ⟨ob, 1, none⟩ = some (.slice p1 m c1) := HX1.out.cell f0 (fun e => hne e.symm)
          have f2 : (x1.alloc (.cells #[.int .i64 kk, .int .i64 pp, .int .i64 ff, .int .i64 aa, .slice ip q ic] 38 (0, 0))).cell? ⟨ob, 1, none⟩ = some (.slice p1 m c1) := cell_later (alloc_below x1 _) f1
          have HU1 := hide U1
          have HOE := hide OE1
          clear N1 U1 OE1 HC1
          refine hK _ _ ?_
          clear hK K
          refine wpAny_ready (rs := [4]) (by kernel_rfl) (by simp) ?_
          refine AllReady.cons rfl (fun K hK => ?_) ?_
          rotate_left
          · exact AllReady.nil
          go_simp
          refine hK _ _ ?_
          clear hK K
          refine wpAny_ready (rs := [5]) (by kernel_rfl) (by simp) ?_
          refine AllReady.cons rfl (fun K hK => ?_) ?_
          rotate_left
          · exact AllReady.nil
          have HX3 : Hid (Only (· = bu) wr (x1.alloc (.cells #[.int .i64 kk, .int .i64 pp, .int .i64 ff, .int .i64 aa, .slice ip q ic] 38 (0, 0)))) := hide (HX1.out.trans (Only.alloc _ _ _))
          have HO3 : Hid ((x1.alloc (.cells #[.int .i64 kk, .int .i64 pp, .int .i64 ff, .int .i64 aa, .slice ip q ic] 38 (0, 0))).ownsRow B 38 5 (.slice p1 m c1) m (acc.flatMap OV.cells)) := hide (ownsRow_only HOW.out HX3.out (fun b hb e => by have e' : b = bu := e; have := own_block_base HOW.out hb; omega))
          refine step_append_cells rfl (.tmp 27) (.tmp 30) 22 rfl B 38 i0 (.agg #[.int .i64 0, .int .i64 0, .int .i64 0, .int .i64 0, .slice none 0 0]) 5 56 Try.underlying22 hI0 hz0 hz1 hz2 rfl (by decide) (.slice p1 m c1) m _ rfl HO3.out (.slice (some ⟨x1.heap.size, 0, none⟩) 1 1) 1 [.int .i64 kk, .int .i64 pp, .int .i64 ff, .int .i64 aa, .slice ip q ic] rfl (Seg.news (heap_alloc_new x1 _) (by simp [Value.oneCell']) rfl (Nat.le_refl _) (by decide)) HK1.out HK2.out (Nat.le_trans HVS.out HX3.out.size) ?_
          intro p6 c6 w6 o6 g6
          have hg6 : Only (fun i => (Value.slice p1 m c1).ownBlock = some i) (x1.alloc (.cells #[.int .i64 kk, .int .i64 pp, .int .i64 ff, .int .i64 aa, .slice ip q ic] 38 (0, 0))) w6 := Only.of_grown g6 (fun k e => e)
          have hobn : ∀ i, (Value.slice p1 m c1).ownBlock = some i → i ≠ ob ∧ B ≤ i := fun i e => by
            obtain ⟨_, cur, h7⟩ := own_block_lt HOW.out e
            refine ⟨fun h => ?_, own_block_base HOW.out e⟩
            rw [h, HBX.out] at h7
            simp at h7
          have hb3 : (x1.alloc (.cells #[.int .i64 kk, .int .i64 pp, .int .i64 ff, .int .i64 aa, .slice ip q ic] 38 (0, 0))).heap[ob]? = some (.cells #[.int .i64 parts, .slice p1 m c1] 24 (0, 0)) := HX3.out.obj HBX.out (fun e => hne e.symm)
          have hb6 : w6.heap[ob]? = some (.cells #[.int .i64 parts, .slice p1 m c1] 24 (0, 0)) := hg6.obj hb3 (fun e => (hobn _ e).1 rfl)
          have hr3 : (x1.alloc (.cells #[.int .i64 kk, .int .i64 pp, .int .i64 ff, .int .i64 aa, .slice ip q ic] 38 (0, 0))).heap[rb]? = some (.cells #[.int .i64 0, .slice none 0 0] 24 (0, 0)) := HX3.out.obj HRX.out (fun e => hnr e.symm)
          have hr6 : w6.heap[rb]? = some (.cells #[.int .i64 0, .slice none 0 0] 24 (0, 0)) := hg6.obj hr3 (fun e => by
            obtain ⟨_, cur, h7⟩ := own_block_lt HO3.out e
            rw [hr3] at h7
            simp at h7)
          have f6 : w6.cell? ⟨ob, 1, none⟩ = some (.slice p1 m c1) := by simp [World.cell?, hb6]
          have f7 : w6.frozen? ⟨ob, 1, none⟩ = false := by simp [World.frozen?, hb6]
          have hset : Only (· = ob) w6 (w6.setCell ⟨ob, 1, none⟩ (.slice p6 (m + 1) c6)) := Only.set w6 ob 1 _ rfl
          have HB7 : Hid ((w6.setCell ⟨ob, 1, none⟩ (.slice p6 (m + 1) c6)).heap[ob]? = some (.cells #[.int .i64 parts, .slice p6 (m + 1) c6] 24 (0, 0))) := hide (heap_setCell_same w6 ob 1 _ _ _ hb6)
          have HR7 : Hid ((w6.setCell ⟨ob, 1, none⟩ (.slice p6 (m + 1) c6)).heap[rb]? = some (.cells #[.int .i64 0, .slice none 0 0] 24 (0, 0))) := hide (hset.obj hr6 (fun e => hro e))
          have hkeep : ∀ {b n : Nat} {v : Value} {ys : List Value}, (x1.alloc (.cells #[.int .i64 kk, .int .i64 pp, .int .i64 ff, .int .i64 aa, .slice ip q ic] 38 (0, 0))).ownsRow b 40 2 v n ys → (w6.setCell ⟨ob, 1, none⟩ (.slice p6 (m + 1) c6)).ownsRow b 40 2 v n ys := fun {b n v ys} h => by
            have h8 : w6.ownsRow b 40 2 v n ys := ownsRow_only h hg6 (fun g hg e => rows_apart h HO3.out (by decide) e hg)
            refine ownsRow_only h8 hset (fun g hg e => ?_)
            have e' : g = ob := e
            obtain ⟨_, cur, h7⟩ := own_block_lt h8 hg
            rw [e', hb6] at h7
            simp at h7
          have HO7 : Hid ((w6.setCell ⟨ob, 1, none⟩ (.slice p6 (m + 1) c6)).ownsRow B 38 5 (.slice p6 (m + 1) c6) (m + 1) ((acc ++ [(⟨⟨kk, pp, ff, aa, ins⟩, ip, ic⟩ : OV)]).flatMap OV.cells)) := by
            refine hide ?_
            rw [List.flatMap_append]
            refine ownsRow_only (by simp only [List.flatMap_cons, List.flatMap_nil, List.append_nil, OV.cells]; rw [hq]; exact o6) hset (fun b hb e => ?_)
            have e' : b = ob := e
            obtain ⟨_, cur, h7⟩ := own_block_lt o6 hb
            rw [e', hb6] at h7
            simp at h7
          have HI7 : Hid (∀ x ∈ acc ++ [(⟨⟨kk, pp, ff, aa, ins⟩, ip, ic⟩ : OV)], (w6.setCell ⟨ob, 1, none⟩ (.slice p6 (m + 1) c6)).ownsRow B 40 2 (.slice x.ip x.o.ins.length x.ic) x.o.ins.length (x.o.ins.flatMap GE.cells)) := by
            refine hide (fun x hx => ?_)
            rcases List.mem_append.1 hx with hx | hx
            · exact hkeep (ownsRow_only (HIN.out x hx) HX3.out (fun b hb e => by have e' : b = bu := e; have := own_block_base (HIN.out x hx) hb; omega))
            · simp only [List.mem_cons, List.not_mem_nil, or_false] at hx
              subst hx
              simp only
              rw [hq]
              exact hkeep (ownsRow_later (ownsRow_base HOE.out HVS.out) (alloc_below x1 _))
          have hall : Only (fun i => B ≤ i) x1 (w6.setCell ⟨ob, 1, none⟩ (.slice p6 (m + 1) c6)) := ((Only.alloc _ _ _).trans (hg6.mono (fun i _ e => (hobn _ e).2))).trans (hset.mono (fun i _ e => by have e' : i = ob := e; omega))
          have HU7 : Hid (UnpX (fun k => B ≤ k) (w6.setCell ⟨ob, 1, none⟩ (.slice p6 (m + 1) c6)) bu (.slice pb l1.length cb) l1 e1) := hide (HU1.out.turnB hall (fun i e => e) hbB)
          have HN7 : Hid (Below W.heap.size W (w6.setCell ⟨ob, 1, none⟩ (.slice p6 (m + 1) c6))) := hide (((HON.out.trans (HX3.out.below HON.out.size (fun i e => by have e' : i = bu := e; omega))).trans (hg6.below (Nat.le_trans HON.out.size HX3.out.size) (fun i e => Nat.le_trans HWB.out (hobn _ e).2))).trans (hset.below (Nat.le_trans HON.out.size (Nat.le_trans HX3.out.size hg6.size)) (fun i e => by have e' : i = ob := e; have := HWB.out; omega)))
          have HS7 : Hid (B ≤ (w6.setCell ⟨ob, 1, none⟩ (.slice p6 (m + 1) c6)).heap.size) := hide (Nat.le_trans HVS.out (Nat.le_trans HX3.out.size (Nat.le_trans hg6.size hset.size)))
          have HL7 : Hid ((acc ++ [(⟨⟨kk, pp, ff, aa, ins⟩, ip, ic⟩ : OV)]).length = m + 1) := hide (by rw [List.length_append, HAL.out]; rfl)
          have HG7 : Hid (Goes opR (n - (i + 1)) ((acc ++ [(⟨⟨kk, pp, ff, aa, ins⟩, ip, ic⟩ : OV)]).map OV.o) l1 e1 os l3 e3) := by rw [List.map_append]; exact HGN
          clear o6 g6 hg6 hobn hb3 hb6 hr3 hr6 hset hall hkeep f0 f1 f2 fd HX1 HX3 HO3 HU1 HGN
          refine hK _ _ ?_
          clear hK K
          refine wpAny_take (i := 6) (v := ?_) rfl (by kernel_rfl) (by kernel_rfl) (by kernel_rfl) (fun _ _ _ h => h) (Or.inl ⟨by rfl, ?_⟩) ?_
          case refine_2 => intro w; go_simp; try with_reducible rfl
          refine wpAny_ready (rs := [7]) (by kernel_rfl) (by simp) ?_
          refine AllReady.cons rfl (fun K hK => ?_) ?_
          rotate_left
          · exact AllReady.nil
          go_simp
          refine hK _ _ ?_
          clear hK K
          refine wpAny_done (by kernel_rfl) ?_ _
          go_wp2
          exact ⟨⟨i + 1, m + 1, acc ++ [⟨⟨kk, pp, ff, aa, ins⟩, ip, ic⟩], l1, e1, p6, c6, pb, cb, by omega, by first | rfl | go_num | (congr 1; omega), by omega, HL7, HU7, HO7, HI7, HB7, HR7, HG7, HN7, HS7⟩, by simp [intOf]; omega⟩
        refine AllReady.cons rfl (fun K hK => ?_) ?_
        · go_simp
          refine HC1.out.mono ?_
          rintro _ x1 ⟨ip, ic, rfl, OE1, N1, pb, cb, U1⟩
          simp only [OV.val]
          simp only at OE1
          rw [hq] at OE1 ⊢
          have HX1 : Hid (Only (· = bu) wr x1) := hide (HD.out.trans N1)
          have f1 : x1.cell? ⟨ob, 1, none⟩ = some (.slice p1 m c1) := HX1.out.cell f0 (fun e => hne e.symm)
          have f2 : (x1.alloc (.cells #[.int .i64 kk, .int .i64 pp, .int .i64 ff, .int .i64 aa, .slice ip q ic] 38 (0, 0))).cell? ⟨ob, 1, none⟩ = some (.slice p1 m c1) := cell_later (alloc_below x1 _) f1
          have HU1 := hide U1
          have HOE := hide OE1
          clear N1 U1 OE1 HC1
          refine hK _ _ ?_
          clear hK K
          refine wpAny_ready (rs := [1, 4]) (by kernel_rfl) (by simp) ?_
          refine AllReady.cons rfl (fun K hK => ?_) ?_
          · go_simp
            refine hK _ _ ?_
            clear hK K
            refine wpAny_ready (rs := [4]) (by kernel_rfl) (by simp) ?_
            refine AllReady.cons rfl (fun K hK => ?_) ?_
            rotate_left
            · exact AllReady.nil
            go_simp
            refine hK _ _ ?_
            clear hK K
            refine wpAny_ready (rs := [5]) (by kernel_rfl) (by simp) ?_
            refine AllReady.cons rfl (fun K hK => ?_) ?_
            rotate_left
            · exact AllReady.nil
            have HX3 : Hid (Only (· = bu) wr (x1.alloc (.cells #[.int .i64 kk, .int .i64 pp, .int .i64 ff, .int .i64 aa, .slice ip q ic] 38 (0, 0)))) := hide (HX1.out.trans (Only.alloc _ _ _))
            have HO3 : Hid ((x1.alloc (.cells #[.int .i64 kk, .int .i64 pp, .int .i64 ff, .int .i64 aa, .slice ip q ic] 38 (0, 0))).ownsRow B 38 5 (.slice p1 m c1) m (acc.flatMap OV.cells)) := hide (ownsRow_only HOW.out HX3.out (fun b hb e => by have e' : b = bu := e; have := own_block_base HOW.out hb; omega))
            refine step_append_cells rfl (.tmp 27) (.tmp 30) 22 rfl B 38 i0 (.agg #[.int .i64 0, .int .i64 0, .int .i64 0, .int .i64 0, .slice none 0 0]) 5 56 Try.underlying22 hI0 hz0 hz1 hz2 rfl (by decide) (.slice p1 m c1) m _ rfl HO3.out (.slice (some ⟨x1.heap.size, 0, none⟩) 1 1) 1 [.int .i64 kk, .int .i64 pp, .int .i64 ff, .int .i64 aa, .slice ip q ic] rfl (Seg.news (heap_alloc_new x1 _) (by simp [Value.oneCell']) rfl (Nat.le_refl _) (by decide)) HK1.out HK2.out (Nat.le_trans HVS.out HX3.out.size) ?_
            intro p6 c6 w6 o6 g6
            have hg6 : Only (fun i => (Value.slice p1 m c1).ownBlock = some i) (x1.alloc (.cells #[.int .i64 kk, .int .i64 pp, .int .i64 ff, .int .i64 aa, .slice ip q ic] 38 (0, 0))) w6 := Only.of_grown g6 (fun k e => e)
            have hobn : ∀ i, (Value.slice p1 m c1).ownBlock = some i → i ≠ ob ∧ B ≤ i := fun i e => by
              obtain ⟨_, cur, h7⟩ := own_block_lt HOW.out e
              refine ⟨fun h => ?_, own_block_base HOW.out e⟩
              rw [h, HBX.out] at h7
              simp at h7
            have hb3 : (x1.alloc (.cells #[.int .i64 kk, .int .i64 pp, .int .i64 ff, .int .i64 aa, .slice ip q ic] 38 (0, 0))).heap[ob]? = some (.cells #[.int .i64 parts, .slice p1 m c1] 24 (0, 0)) := HX3.out.obj HBX.out (fun e => hne e.symm)
            have hb6 : w6.heap[ob]? = some (.cells #[.int .i64 parts, .slice p1 m c1] 24 (0, 0)) := hg6.obj hb3 (fun e => (hobn _ e).1 rfl)
            have hr3 : (x1.alloc (.cells #[.int .i64 kk, .int .i64 pp, .int .i64 ff, .int .i64 aa, .slice ip q ic] 38 (0, 0))).heap[rb]? = some (.cells #[.int .i64 0, .slice none 0 0] 24 (0, 0)) := HX3.out.obj HRX.out (fun e => hnr e.symm)
            have hr6 : w6.heap[rb]? = some (.cells #[.int .i64 0, .slice none 0 0] 24 (0, 0)) := hg6.obj hr3 (fun e => by
              obtain ⟨_, cur, h7⟩ := own_block_lt HO3.out e
              rw [hr3] at h7
              simp at h7)
            have f6 : w6.cell? ⟨ob, 1, none⟩ = some (.slice p1 m c1) := by simp [World.cell?, hb6]
            have f7 : w6.frozen? ⟨ob, 1, none⟩ = false := by simp [World.frozen?, hb6]
            have hset : Only (· = ob) w6 (w6.setCell ⟨ob, 1, none⟩ (.slice p6 (m + 1) c6)) := Only.set w6 ob 1 _ rfl
            have HB7 : Hid ((w6.setCell ⟨ob, 1, none⟩ (.slice p6 (m + 1) c6)).heap[ob]? = some (.cells #[.int .i64 parts, .slice p6 (m + 1) c6] 24 (0, 0))) := hide (heap_setCell_same w6 ob 1 _ _ _ hb6)
            have HR7 : Hid ((w6.setCell ⟨ob, 1, none⟩ (.slice p6 (m + 1) c6)).heap[rb]? = some (.cells #[.int .i64 0, .slice none 0 0] 24 (0, 0))) := hide (hset.obj hr6 (fun e => hro e))
            have hkeep : ∀ {b n : Nat} {v : Value} {ys : List Value}, (x1.alloc (.cells #[.int .i64 kk, .int .i64 pp, .int .i64 ff, .int .i64 aa, .slice ip q ic] 38 (0, 0))).ownsRow b 40 2 v n ys → (w6.setCell ⟨ob, 1, none⟩ (.slice p6 (m + 1) c6)).ownsRow b 40 2 v n ys := fun {b n v ys} h => by
              have h8 : w6.ownsRow b 40 2 v n ys := ownsRow_only h hg6 (fun g hg e => rows_apart h HO3.out (by decide) e hg)
              refine ownsRow_only h8 hset (fun g hg e => ?_)
              have e' : g = ob := e
              obtain ⟨_, cur, h7⟩ := own_block_lt h8 hg
              rw [e', hb6] at h7
              simp at h7
            have HO7 : Hid ((w6.setCell ⟨ob, 1, none⟩ (.slice p6 (m + 1) c6)).ownsRow B 38 5 (.slice p6 (m + 1) c6) (m + 1) ((acc ++ [(⟨⟨kk, pp, ff, aa, ins⟩, ip, ic⟩ : OV)]).flatMap OV.cells)) := by
              refine hide ?_
              rw [List.flatMap_append]
              refine ownsRow_only (by simp only [List.flatMap_cons, List.flatMap_nil, List.append_nil, OV.cells]; rw [hq]; exact o6) hset (fun b hb e => ?_)
              have e' : b = ob := e
              obtain ⟨_, cur, h7⟩ := own_block_lt o6 hb
              rw [e', hb6] at h7
              simp at h7
            have HI7 : Hid (∀ x ∈ acc ++ [(⟨⟨kk, pp, ff, aa, ins⟩, ip, ic⟩ : OV)], (w6.setCell ⟨ob, 1, none⟩ (.slice p6 (m + 1) c6)).ownsRow B 40 2 (.slice x.ip x.o.ins.length x.ic) x.o.ins.length (x.o.ins.flatMap GE.cells)) := by
              refine hide (fun x hx => ?_)
              rcases List.mem_append.1 hx with hx | hx
              · exact hkeep (ownsRow_only (HIN.out x hx) HX3.out (fun b hb e => by have e' : b = bu := e; have := own_block_base (HIN.out x hx) hb; omega))
              · simp only [List.mem_cons, List.not_mem_nil, or_false] at hx
                subst hx
                simp only
                rw [hq]
                exact hkeep (ownsRow_later (ownsRow_base HOE.out HVS.out) (alloc_below x1 _))
            have hall : Only (fun i => B ≤ i) x1 (w6.setCell ⟨ob, 1, none⟩ (.slice p6 (m + 1) c6)) := ((Only.alloc _ _ _).trans (hg6.mono (fun i _ e => (hobn _ e).2))).trans (hset.mono (fun i _ e => by have e' : i = ob := e; omega))
            have HU7 : Hid (UnpX (fun k => B ≤ k) (w6.setCell ⟨ob, 1, none⟩ (.slice p6 (m + 1) c6)) bu (.slice pb l1.length cb) l1 e1) := hide (HU1.out.turnB hall (fun i e => e) hbB)
            have HN7 : Hid (Below W.heap.size W (w6.setCell ⟨ob, 1, none⟩ (.slice p6 (m + 1) c6))) := hide (((HON.out.trans (HX3.out.below HON.out.size (fun i e => by have e' : i = bu := e; omega))).trans (hg6.below (Nat.le_trans HON.out.size HX3.out.size) (fun i e => Nat.le_trans HWB.out (hobn _ e).2))).trans (hset.below (Nat.le_trans HON.out.size (Nat.le_trans HX3.out.size hg6.size)) (fun i e => by have e' : i = ob := e; have := HWB.out; omega)))
            have HS7 : Hid (B ≤ (w6.setCell ⟨ob, 1, none⟩ (.slice p6 (m + 1) c6)).heap.size) := hide (Nat.le_trans HVS.out (Nat.le_trans HX3.out.size (Nat.le_trans hg6.size hset.size)))
            have HL7 : Hid ((acc ++ [(⟨⟨kk, pp, ff, aa, ins⟩, ip, ic⟩ : OV)]).length = m + 1) := hide (by rw [List.length_append, HAL.out]; rfl)
            have HG7 : Hid (Goes opR (n - (i + 1)) ((acc ++ [(⟨⟨kk, pp, ff, aa, ins⟩, ip, ic⟩ : OV)]).map OV.o) l1 e1 os l3 e3) := by rw [List.map_append]; exact HGN
            clear o6 g6 hg6 hobn hb3 hb6 hr3 hr6 hset hall hkeep f0 f1 f2 fd HX1 HX3 HO3 HU1 HGN
            refine hK _ _ ?_
            clear hK K
            refine wpAny_take (i := 6) (v := ?_) rfl (by kernel_rfl) (by kernel_rfl) (by kernel_rfl) (fun _ _ _ h => h) (Or.inl ⟨by rfl, ?_⟩) ?_
            case refine_2 => intro w; go_simp; try with_reducible rfl
            refine wpAny_ready (rs := [7]) (by kernel_rfl) (by simp) ?_
            refine AllReady.cons rfl (fun K hK => ?_) ?_
            rotate_left
            · exact AllReady.nil
            go_simp
            refine hK _ _ ?_
            clear hK K
            refine wpAny_done (by kernel_rfl) ?_ _
            go_wp2
            exact ⟨⟨i + 1, m + 1, acc ++ [⟨⟨kk, pp, ff, aa, ins⟩, ip, ic⟩], l1, e1, p6, c6, pb, cb, by omega, by first | rfl | go_num | (congr 1; omega), by omega, HL7, HU7, HO7, HI7, HB7, HR7, HG7, HN7, HS7⟩, by simp [intOf]; omega⟩
          refine AllReady.cons rfl (fun K hK => ?_) ?_
          · go_simp
            refine hK _ _ ?_
            clear hK K
            refine wpAny_ready (rs := [1]) (by kernel_rfl) (by simp) ?_
            refine AllReady.cons rfl (fun K hK => ?_) ?_
            rotate_left
            · exact AllReady.nil
            go_simp
            refine hK _ _ ?_
            clear hK K
            refine wpAny_ready (rs := [5]) (by kernel_rfl) (by simp) ?_
            refine AllReady.cons rfl (fun K hK => ?_) ?_
            rotate_left
            · exact AllReady.nil
            have HX3 : Hid (Only (· = bu) wr (x1.alloc (.cells #[.int .i64 kk, .int .i64 pp, .int .i64 ff, .int .i64 aa, .slice ip q ic] 38 (0, 0)))) := hide (HX1.out.trans (Only.alloc _ _ _))
            have HO3 : Hid ((x1.alloc (.cells #[.int .i64 kk, .int .i64 pp, .int .i64 ff, .int .i64 aa, .slice ip q ic] 38 (0, 0))).ownsRow B 38 5 (.slice p1 m c1) m (acc.flatMap OV.cells)) := hide (ownsRow_only HOW.out HX3.out (fun b hb e => by have e' : b = bu := e; have := own_block_base HOW.out hb; omega))
            refine step_append_cells rfl (.tmp 27) (.tmp 30) 22 rfl B 38 i0 (.agg #[.int .i64 0, .int .i64 0, .int .i64 0, .int .i64 0, .slice none 0 0]) 5 56 Try.underlying22 hI0 hz0 hz1 hz2 rfl (by decide) (.slice p1 m c1) m _ rfl HO3.out (.slice (some ⟨x1.heap.size, 0, none⟩) 1 1) 1 [.int .i64 kk, .int .i64 pp, .int .i64 ff, .int .i64 aa, .slice ip q ic] rfl (Seg.news (heap_alloc_new x1 _) (by simp [Value.oneCell']) rfl (Nat.le_refl _) (by decide)) HK1.out HK2.out (Nat.le_trans HVS.out HX3.out.size) ?_
            intro p6 c6 w6 o6 g6
            have hg6 : Only (fun i => (Value.slice p1 m c1).ownBlock = some i) (x1.alloc (.cells #[.int .i64 kk, .int .i64 pp, .int .i64 ff, .int .i64 aa, .slice ip q ic] 38 (0, 0))) w6 := Only.of_grown g6 (fun k e => e)
            have hobn : ∀ i, (Value.slice p1 m c1).ownBlock = some i → i ≠ ob ∧ B ≤ i := fun i e => by
              obtain ⟨_, cur, h7⟩ := own_block_lt HOW.out e
              refine ⟨fun h => ?_, own_block_base HOW.out e⟩
              rw [h, HBX.out] at h7
              simp at h7
            have hb3 : (x1.alloc (.cells #[.int .i64 kk, .int .i64 pp, .int .i64 ff, .int .i64 aa, .slice ip q ic] 38 (0, 0))).heap[ob]? = some (.cells #[.int .i64 parts, .slice p1 m c1] 24 (0, 0)) := HX3.out.obj HBX.out (fun e => hne e.symm)
            have hb6 : w6.heap[ob]? = some (.cells #[.int .i64 parts, .slice p1 m c1] 24 (0, 0)) := hg6.obj hb3 (fun e => (hobn _ e).1 rfl)
            have hr3 : (x1.alloc (.cells #[.int .i64 kk, .int .i64 pp, .int .i64 ff, .int .i64 aa, .slice ip q ic] 38 (0, 0))).heap[rb]? = some (.cells #[.int .i64 0, .slice none 0 0] 24 (0, 0)) := HX3.out.obj HRX.out (fun e => hnr e.symm)
            have hr6 : w6.heap[rb]? = some (.cells #[.int .i64 0, .slice none 0 0] 24 (0, 0)) := hg6.obj hr3 (fun e => by
              obtain ⟨_, cur, h7⟩ := own_block_lt HO3.out e
              rw [hr3] at h7
              simp at h7)
            have f6 : w6.cell? ⟨ob, 1, none⟩ = some (.slice p1 m c1) := by simp [World.cell?, hb6]
            have f7 : w6.frozen? ⟨ob, 1, none⟩ = false := by simp [World.frozen?, hb6]
            have hset : Only (· = ob) w6 (w6.setCell ⟨ob, 1, none⟩ (.slice p6 (m + 1) c6)) := Only.set w6 ob 1 _ rfl
            have HB7 : Hid ((w6.setCell ⟨ob, 1, none⟩ (.slice p6 (m + 1) c6)).heap[ob]? = some (.cells #[.int .i64 parts, .slice p6 (m + 1) c6] 24 (0, 0))) := hide (heap_setCell_same w6 ob 1 _ _ _ hb6)
            have HR7 : Hid ((w6.setCell ⟨ob, 1, none⟩ (.slice p6 (m + 1) c6)).heap[rb]? = some (.cells #[.int .i64 0, .slice none 0 0] 24 (0, 0))) := hide (hset.obj hr6 (fun e => hro e))
            have hkeep : ∀ {b n : Nat} {v : Value} {ys : List Value}, (x1.alloc (.cells #[.int .i64 kk, .int .i64 pp, .int .i64 ff, .int .i64 aa, .slice ip q ic] 38 (0, 0))).ownsRow b 40 2 v n ys → (w6.setCell ⟨ob, 1, none⟩ (.slice p6 (m + 1) c6)).ownsRow b 40 2 v n ys := fun {b n v ys} h => by
              have h8 : w6.ownsRow b 40 2 v n ys := ownsRow_only h hg6 (fun g hg e => rows_apart h HO3.out (by decide) e hg)
              refine ownsRow_only h8 hset (fun g hg e => ?_)
              have e' : g = ob := e
              obtain ⟨_, cur, h7⟩ := own_block_lt h8 hg
              rw [e', hb6] at h7
              simp at h7
            have HO7 : Hid ((w6.setCell ⟨ob, 1, none⟩ (.slice p6 (m + 1) c6)).ownsRow B 38 5 (.slice p6 (m + 1) c6) (m + 1) ((acc ++ [(⟨⟨kk, pp, ff, aa, ins⟩, ip, ic⟩ : OV)]).flatMap OV.cells)) := by
              refine hide ?_
              rw [List.flatMap_append]
              refine ownsRow_only (by simp only [List.flatMap_cons, List.flatMap_nil, List.append_nil, OV.cells]; rw [hq]; exact o6) hset (fun b hb e => ?_)
              have e' : b = ob := e
              obtain ⟨_, cur, h7⟩ := own_block_lt o6 hb
              rw [e', hb6] at h7
              simp at h7
            have HI7 : Hid (∀ x ∈ acc ++ [(⟨⟨kk, pp, ff, aa, ins⟩, ip, ic⟩ : OV)], (w6.setCell ⟨ob, 1, none⟩ (.slice p6 (m + 1) c6)).ownsRow B 40 2 (.slice x.ip x.o.ins.length x.ic) x.o.ins.length (x.o.ins.flatMap GE.cells)) := by
              refine hide (fun x hx => ?_)
              rcases List.mem_append.1 hx with hx | hx
              · exact hkeep (ownsRow_only (HIN.out x hx) HX3.out (fun b hb e => by have e' : b = bu := e; have := own_block_base (HIN.out x hx) hb; omega))
              · simp only [List.mem_cons, List.not_mem_nil, or_false] at hx
                subst hx
                simp only
                rw [hq]
                exact hkeep (ownsRow_later (ownsRow_base HOE.out HVS.out) (alloc_below x1 _))
            have hall : Only (fun i => B ≤ i) x1 (w6.setCell ⟨ob, 1, none⟩ (.slice p6 (m + 1) c6)) := ((Only.alloc _ _ _).trans (hg6.mono (fun i _ e => (hobn _ e).2))).trans (hset.mono (fun i _ e => by have e' : i = ob := e; omega))
            have HU7 : Hid (UnpX (fun k => B ≤ k) (w6.setCell ⟨ob, 1, none⟩ (.slice p6 (m + 1) c6)) bu (.slice pb l1.length cb) l1 e1) := hide (HU1.out.turnB hall (fun i e => e) hbB)
            have HN7 : Hid (Below W.heap.size W (w6.setCell ⟨ob, 1, none⟩ (.slice p6 (m + 1) c6))) := hide (((HON.out.trans (HX3.out.below HON.out.size (fun i e => by have e' : i = bu := e; omega))).trans (hg6.below (Nat.le_trans HON.out.size HX3.out.size) (fun i e => Nat.le_trans HWB.out (hobn _ e).2))).trans (hset.below (Nat.le_trans HON.out.size (Nat.le_trans HX3.out.size hg6.size)) (fun i e => by have e' : i = ob := e; have := HWB.out; omega)))
            have HS7 : Hid (B ≤ (w6.setCell ⟨ob, 1, none⟩ (.slice p6 (m + 1) c6)).heap.size) := hide (Nat.le_trans HVS.out (Nat.le_trans HX3.out.size (Nat.le_trans hg6.size hset.size)))
            have HL7 : Hid ((acc ++ [(⟨⟨kk, pp, ff, aa, ins⟩, ip, ic⟩ : OV)]).length = m + 1) := hide (by rw [List.length_append, HAL.out]; rfl)
            have HG7 : Hid (Goes opR (n - (i + 1)) ((acc ++ [(⟨⟨kk, pp, ff, aa, ins⟩, ip, ic⟩ : OV)]).map OV.o) l1 e1 os l3 e3) := by rw [List.map_append]; exact HGN
            clear o6 g6 hg6 hobn hb3 hb6 hr3 hr6 hset hall hkeep f0 f1 f2 fd HX1 HX3 HO3 HU1 HGN
            refine hK _ _ ?_
            clear hK K
            refine wpAny_take (i := 6) (v := ?_) rfl (by kernel_rfl) (by kernel_rfl) (by kernel_rfl) (fun _ _ _ h => h) (Or.inl ⟨by rfl, ?_⟩) ?_
            case refine_2 => intro w; go_simp; try with_reducible rfl
            refine wpAny_ready (rs := [7]) (by kernel_rfl) (by simp) ?_
            refine AllReady.cons rfl (fun K hK => ?_) ?_
            rotate_left
            · exact AllReady.nil
            go_simp
            refine hK _ _ ?_
            clear hK K
            refine wpAny_done (by kernel_rfl) ?_ _
            go_wp2
            exact ⟨⟨i + 1, m + 1, acc ++ [⟨⟨kk, pp, ff, aa, ins⟩, ip, ic⟩], l1, e1, p6, c6, pb, cb, by omega, by first | rfl | go_num | (congr 1; omega), by omega, HL7, HU7, HO7, HI7, HB7, HR7, HG7, HN7, HS7⟩, by simp [intOf]; omega⟩
          exact AllReady.nil
        exact AllReady.nil
      · obtain ⟨ho0, hl0, he0⟩ := HG.out.stop (.inr he)
        subst hl0 he0
        have HER := hide (err_any HU.out)
        have dd : decide (((n - i : Nat) : Int) > 0) = true := decide_eq_true (by omega)
        have ne1 := ne_eq he
        clear he
        have HCL := hide (close_any HU.out)
        obtain ⟨cc, hcc⟩ : ∃ cc, closes l e = cc := ⟨_, rfl⟩
        have hhr := HHR.out
        rw [← ho0, hcc] at hhr
        rw [hcc] at HCL
        have HGO : Hid (GOwn wr B p1 c1 acc) := hide ⟨by rw [HAL.out]; exact HOW.out, HIN.out⟩
        have hck := check_any (parts := parts) HGO.out.row
        rw [HAL.out] at hck
        obtain ⟨⟨k1, k2⟩, hkk⟩ : ∃ kk, checkC parts (acc.map OV.o) = kk := ⟨_, rfl⟩
        rw [hkk] at hck
        have HCK := hide hck
        have HKK := hide hkk
        have b0 : wr.cell? ⟨ob, 0, none⟩ = some (.int .i64 parts) := by simp [World.cell?, HBX.out]
        have b1 : wr.cell? ⟨ob, 1, none⟩ = some (.slice p1 m c1) := by simp [World.cell?, HBX.out]
        have hrb : rb < B := by have := HWB.out; have := HGB.out; omega
        clear hcc ho0 hck hkk HG HU HOW HIN HBX
        go_wp2_with fail
        refine HER.out.mono ?_
        rintro _ wz ⟨rfl, rfl⟩
        clear HER
        go_wp2_with fail
        refine HCL.out.mono ?_
        rintro _ wy ⟨rfl, rfl⟩
        clear HCL
        by_cases hc : cc = 0
        · subst hc
          unfold endG at hhr
          rw [if_pos rfl, HKK.out] at hhr
          simp only at hhr
          go_wp2_with fail
          refine HCK.out.mono ?_
          rintro _ w5 ⟨rfl, b5⟩
          have d0 := cell_later b5 b0
          have d1' := cell_later b5 b1
          have o5 := below_box b5 HRX.out
          have HG5 := hide (HGO.out.below b5)
          have HB5 := hide (HON.out.trans (b5.mono HON.out.size))
          clear b5 HCK b0 b1
          try simp only
          by_cases hk : k2 = 0
          · subst hk
            rw [if_pos rfl] at hhr
            simp only [Prod.mk.injEq] at hhr
            obtain ⟨rfl, rfl, rfl⟩ := hhr
            obtain ⟨f0, f1, f2, f3⟩ := graph_facts o5 (.int .i64 parts)
            have hset := only_set2 w5 rb (.int .i64 parts) (.slice p1 m c1)
            have HE := hide (set2 o5 (.int .i64 parts) (.slice p1 m c1))
            obtain ⟨WF, hWF⟩ : ∃ WF, WF = (w5.setCell ⟨rb, 0, none⟩ (.int .i64 parts)).setCell ⟨rb, 1, none⟩ (.slice p1 m c1) := ⟨_, rfl⟩
            rw [← hWF] at hset HE
            have HWF := hide hWF
            have HBF : Hid (Below W.heap.size W WF) := hide (HB5.out.trans (hset.below HB5.out.size (fun i e => by have e' : i = rb := e; have := HGB.out; omega)))
            have hkeep : ∀ {e s n : Nat} {v : Value} {ys : List Value}, w5.ownsRow B e s v n ys → WF.ownsRow W.heap.size e s v n ys := fun h => ownsRow_base (ownsRow_only h hset (fun g hg e => by have e' : g = rb := e; have := own_block_base h hg; omega)) HWB.out
            have HGF : Hid (GOwn WF W.heap.size p1 c1 acc) := hide ⟨hkeep HG5.out.own, fun x hx => hkeep (HG5.out.ins x hx)⟩
            clear o5 hset hWF hkeep HG5 HB5 HGO HRX HON
            go_wp2
            rw [← HWF.out]
            refine bodyPost_ret (results_row_tmp rfl _ _ rb 24 _ _ _ rfl HE.out Try.underlying24 rfl (by kernel_rfl)) rfl ?_
            exact ⟨p1, c1, acc, m, rfl, HAL.out, rfl, HGF.out, HBF.out⟩
          · rw [if_neg hk] at hhr
            simp only [Prod.mk.injEq] at hhr
            obtain ⟨rfl, rfl, rfl⟩ := hhr
            have ne2 : (k2 != 0) = true := by simpa using hk
            obtain ⟨f0, f1, f2, f3⟩ := graph_facts o5 (.int .i64 0)
            have hset := only_set2 w5 rb (.int .i64 0) (.slice none 0 0)
            have HE := hide (set2 o5 (.int .i64 0) (.slice none 0 0))
            have HBF := hide (HB5.out.trans (hset.below HB5.out.size (fun i e => by have e' : i = rb := e; have := HGB.out; omega)))
            clear o5 hset HG5 HB5 HGO HRX HON hk
            go_wp2
            refine bodyPost_ret (results_row_tmp rfl _ _ rb 24 _ _ _ rfl HE.out Try.underlying24 rfl (by kernel_rfl)) rfl ?_
            exact ⟨none, 0, [], 0, rfl, rfl, rfl, ⟨World.ownsRow_nil _ _ _ _, fun x hx => absurd hx (by simp)⟩, HBF.out⟩
        · unfold endG at hhr
          rw [if_neg hc] at hhr
          simp only [Prod.mk.injEq] at hhr
          obtain ⟨rfl, rfl, rfl⟩ := hhr
          have ne2 : (cc != 0) = true := by simpa using hc
          obtain ⟨f0, f1, f2, f3⟩ := graph_facts HRX.out (.int .i64 0)
          have hset := only_set2 wy rb (.int .i64 0) (.slice none 0 0)
          have HE := hide (set2 HRX.out (.int .i64 0) (.slice none 0 0))
          have HBF := hide (HON.out.trans (hset.below HON.out.size (fun i e => by have e' : i = rb := e; have := HGB.out; omega)))
          clear hset HGO HRX HON hc HCK b0 b1
          go_wp2
          refine bodyPost_ret (results_row_tmp rfl _ _ rb 24 _ _ _ rfl HE.out Try.underlying24 rfl (by kernel_rfl)) rfl ?_
          exact ⟨none, 0, [], 0, rfl, rfl, rfl, ⟨World.ownsRow_nil _ _ _ _, fun x hx => absurd hx (by simp)⟩, HBF.out⟩
    · obtain ⟨ho0, hl0, he0⟩ := HG.out.stop (.inl (by omega))
      subst hl0 he0
      have dd : decide (((n - i : Nat) : Int) > 0) = false := decide_eq_false (by omega)
      have HCL := hide (close_any HU.out)
      obtain ⟨cc, hcc⟩ : ∃ cc, closes l e = cc := ⟨_, rfl⟩
      have hhr := HHR.out
      rw [← ho0, hcc] at hhr
      rw [hcc] at HCL
      have HGO : Hid (GOwn wr B p1 c1 acc) := hide ⟨by rw [HAL.out]; exact HOW.out, HIN.out⟩
      have hck := check_any (parts := parts) HGO.out.row
      rw [HAL.out] at hck
      obtain ⟨⟨k1, k2⟩, hkk⟩ : ∃ kk, checkC parts (acc.map OV.o) = kk := ⟨_, rfl⟩
      rw [hkk] at hck
      have HCK := hide hck
      have HKK := hide hkk
      have b0 : wr.cell? ⟨ob, 0, none⟩ = some (.int .i64 parts) := by simp [World.cell?, HBX.out]
      have b1 : wr.cell? ⟨ob, 1, none⟩ = some (.slice p1 m c1) := by simp [World.cell?, HBX.out]
      have hrb : rb < B := by have := HWB.out; have := HGB.out; omega
      clear hcc ho0 hck hkk HG HU HOW HIN HBX
      go_wp2_with fail
      refine HCL.out.mono ?_
      rintro _ wy ⟨rfl, rfl⟩
      clear HCL
      by_cases hc : cc = 0
      · subst hc
        unfold endG at hhr
        rw [if_pos rfl, HKK.out] at hhr
        simp only at hhr
        go_wp2_with fail
        refine HCK.out.mono ?_
        rintro _ w5 ⟨rfl, b5⟩
        have d0 := cell_later b5 b0
        have d1' := cell_later b5 b1
        have o5 := below_box b5 HRX.out
        have HG5 := hide (HGO.out.below b5)
        have HB5 := hide (HON.out.trans (b5.mono HON.out.size))
        clear b5 HCK b0 b1
        try simp only
        by_cases hk : k2 = 0
        · subst hk
          rw [if_pos rfl] at hhr
          simp only [Prod.mk.injEq] at hhr
          obtain ⟨rfl, rfl, rfl⟩ := hhr
          obtain ⟨f0, f1, f2, f3⟩ := graph_facts o5 (.int .i64 parts)
          have hset := only_set2 w5 rb (.int .i64 parts) (.slice p1 m c1)
          have HE := hide (set2 o5 (.int .i64 parts) (.slice p1 m c1))
          obtain ⟨WF, hWF⟩ : ∃ WF, WF = (w5.setCell ⟨rb, 0, none⟩ (.int .i64 parts)).setCell ⟨rb, 1, none⟩ (.slice p1 m c1) := ⟨_, rfl⟩
          rw [← hWF] at hset HE
          have HWF := hide hWF
          have HBF : Hid (Below W.heap.size W WF) := hide (HB5.out.trans (hset.below HB5.out.size (fun i e => by have e' : i = rb := e; have := HGB.out; omega)))
          have hkeep : ∀ {e s n : Nat} {v : Value} {ys : List Value}, w5.ownsRow B e s v n ys → WF.ownsRow W.heap.size e s v n ys := fun h => ownsRow_base (ownsRow_only h hset (fun g hg e => by have e' : g = rb := e; have := own_block_base h hg; omega)) HWB.out
          have HGF : Hid (GOwn WF W.heap.size p1 c1 acc) := hide ⟨hkeep HG5.out.own, fun x hx => hkeep (HG5.out.ins x hx)⟩
          clear o5 hset hWF hkeep HG5 HB5 HGO HRX HON
          go_wp2
          rw [← HWF.out]
          refine bodyPost_ret (results_row_tmp rfl _ _ rb 24 _ _ _ rfl HE.out Try.underlying24 rfl (by kernel_rfl)) rfl ?_
          exact ⟨p1, c1, acc, m, rfl, HAL.out, rfl, HGF.out, HBF.out⟩
        · rw [if_neg hk] at hhr
          simp only [Prod.mk.injEq] at hhr
          obtain ⟨rfl, rfl, rfl⟩ := hhr
          have ne2 : (k2 != 0) = true := by simpa using hk
          obtain ⟨f0, f1, f2, f3⟩ := graph_facts o5 (.int .i64 0)
          have hset := only_set2 w5 rb (.int .i64 0) (.slice none 0 0)
          have HE := hide (set2 o5 (.int .i64 0) (.slice none 0 0))
          have HBF := hide (HB5.out.trans (hset.below HB5.out.size (fun i e => by have e' : i = rb := e; have := HGB.out; omega)))
          clear o5 hset HG5 HB5 HGO HRX HON hk
          go_wp2
          refine bodyPost_ret (results_row_tmp rfl _ _ rb 24 _ _ _ rfl HE.out Try.underlying24 rfl (by kernel_rfl)) rfl ?_
          exact ⟨none, 0, [], 0, rfl, rfl, rfl, ⟨World.ownsRow_nil _ _ _ _, fun x hx => absurd hx (by simp)⟩, HBF.out⟩
      · unfold endG at hhr
        rw [if_neg hc] at hhr
        simp only [Prod.mk.injEq] at hhr
        obtain ⟨rfl, rfl, rfl⟩ := hhr
        have ne2 : (cc != 0) = true := by simpa using hc
        obtain ⟨f0, f1, f2, f3⟩ := graph_facts HRX.out (.int .i64 0)
        have hset := only_set2 wy rb (.int .i64 0) (.slice none 0 0)
        have HE := hide (set2 HRX.out (.int .i64 0) (.slice none 0 0))
        have HBF := hide (HON.out.trans (hset.below HON.out.size (fun i e => by have e' : i = rb := e; have := HGB.out; omega)))
        clear hset HGO HRX HON hc HCK b0 b1
        go_wp2
        refine bodyPost_ret (results_row_tmp rfl _ _ rb 24 _ _ _ rfl HE.out Try.underlying24 rfl (by kernel_rfl)) rfl ?_
        exact ⟨none, 0, [], 0, rfl, rfl, rfl, ⟨World.ownsRow_nil _ _ _ _, fun x hx => absurd hx (by simp)⟩, HBF.out⟩
end Go.Proofs.Ytdngjpbefcbodaa
