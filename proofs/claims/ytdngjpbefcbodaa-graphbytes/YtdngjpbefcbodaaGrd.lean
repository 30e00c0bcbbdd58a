/-
  readAny, readInt, readOp of the program. The conditions: that an unpacker lies there.
-/
import Derived.Test.YtdngjpbefcbodaaGnr
import Derived.Test.YtdngjpbefcbodaaGcl
import Derived.BigRegion
import Derived.BigQuiet
import Derived.WalkMore
namespace Go.Proofs.Ytdngjpbefcbodaa
open Go.RowKit

theorem UnpX.turnB {F : Nat → Prop} {B : Nat} {W w' : World} {bu : Nat} {v : Value} {l : List Int} {e : Int} (h : UnpX (fun k => B ≤ k) W bu v l e) (ho : Only F W w') (hF : ∀ i, F i → B ≤ i) (hb : bu < B) : UnpX (fun k => B ≤ k) w' bu v l e := by
  refine ⟨ho.obj h.block (fun e => by have := hF _ e; omega), ?_, h.apart, h.u8, h.err⟩
  obtain ⟨q, cq, hq, r1, r2, r3, r4⟩ := h.row
  refine ⟨q, cq, hq, r1, r2, r3, fun hp => ?_⟩
  obtain ⟨bb, oo, hqq, hcc⟩ := r4 hp
  refine ⟨bb, oo, hqq, fun j hj => ho.cell (hcc j hj) (fun e => ?_)⟩
  have hap := h.apart.2 bb (by rw [hq, hqq]; rfl)
  exact hap (hF _ e)
theorem RUnp.turnB {F : Nat → Prop} {B : Nat} {W w' : World} {bu : Nat} {v : Value} {l : List Int} {e : Int} (h : RUnp (fun k => B ≤ k) W bu v l e) (ho : Only F W w') (hF : ∀ i, F i → B ≤ i) (hb : bu < B) : RUnp (fun k => B ≤ k) w' bu v l e := by
  refine ⟨ho.obj h.block (fun e => by have := hF _ e; omega), ?_, h.apart, h.u8, h.err⟩
  obtain ⟨q, cq, hq, r1, r2, r3, r4⟩ := h.row
  refine ⟨q, cq, hq, r1, r2, r3, fun hp => ?_⟩
  obtain ⟨bb, oo, hqq, hcc⟩ := r4 hp
  refine ⟨bb, oo, hqq, fun j hj => ho.cell (hcc j hj) (fun e => ?_)⟩
  have hap := (h.apart (by omega)).2 bb (by rw [hq, hqq]; rfl)
  exact hap (hF _ e)
/-- What a store of an operator asks of the block. -/
theorem op_facts {w : World} {b : Nat} {c0 c1 c2 c3 c4 : Value} (h : w.heap[b]? = some (.cells #[c0, c1, c2, c3, c4] 38 (0, 0))) (d0 d1 d2 d3 : Value) :
    w.cell? ⟨b, 0, none⟩ = some c0 ∧ w.frozen? ⟨b, 0, none⟩ = false ∧ (w.setCell ⟨b, 0, none⟩ d0).cell? ⟨b, 1, none⟩ = some c1 ∧ (w.setCell ⟨b, 0, none⟩ d0).frozen? ⟨b, 1, none⟩ = false ∧ ((w.setCell ⟨b, 0, none⟩ d0).setCell ⟨b, 1, none⟩ d1).cell? ⟨b, 2, none⟩ = some c2 ∧ ((w.setCell ⟨b, 0, none⟩ d0).setCell ⟨b, 1, none⟩ d1).frozen? ⟨b, 2, none⟩ = false ∧ (((w.setCell ⟨b, 0, none⟩ d0).setCell ⟨b, 1, none⟩ d1).setCell ⟨b, 2, none⟩ d2).cell? ⟨b, 3, none⟩ = some c3 ∧ (((w.setCell ⟨b, 0, none⟩ d0).setCell ⟨b, 1, none⟩ d1).setCell ⟨b, 2, none⟩ d2).frozen? ⟨b, 3, none⟩ = false ∧ ((((w.setCell ⟨b, 0, none⟩ d0).setCell ⟨b, 1, none⟩ d1).setCell ⟨b, 2, none⟩ d2).setCell ⟨b, 3, none⟩ d3).cell? ⟨b, 4, none⟩ = some c4 ∧ ((((w.setCell ⟨b, 0, none⟩ d0).setCell ⟨b, 1, none⟩ d1).setCell ⟨b, 2, none⟩ d2).setCell ⟨b, 3, none⟩ d3).frozen? ⟨b, 4, none⟩ = false := by
  have h1 := heap_setCell_same _ b 0 _ _ d0 h
  have h2 := heap_setCell_same _ b 1 _ _ d1 h1
  have h3 := heap_setCell_same _ b 2 _ _ d2 h2
  have h4 := heap_setCell_same _ b 3 _ _ d3 h3
  refine ⟨?_, ?_, ?_, ?_, ?_, ?_, ?_, ?_, ?_, ?_⟩
  · simp [World.cell?, h]
  · simp [World.frozen?, h]
  · simp only [World.cell?]; rw [h1]; rfl
  · simp only [World.frozen?]; rw [h1]; rfl
  · simp only [World.cell?]; rw [h2]; rfl
  · simp only [World.frozen?]; rw [h2]; rfl
  · simp only [World.cell?]; rw [h3]; rfl
  · simp only [World.frozen?]; rw [h3]; rfl
  · simp only [World.cell?]; rw [h4]; rfl
  · simp only [World.frozen?]; rw [h4]; rfl
theorem set5 {w : World} {b : Nat} {c0 c1 c2 c3 c4 : Value} (h : w.heap[b]? = some (.cells #[c0, c1, c2, c3, c4] 38 (0, 0))) (d0 d1 d2 d3 d4 : Value) : (((((w.setCell ⟨b, 0, none⟩ d0).setCell ⟨b, 1, none⟩ d1).setCell ⟨b, 2, none⟩ d2).setCell ⟨b, 3, none⟩ d3).setCell ⟨b, 4, none⟩ d4).heap[b]? = some (.cells #[d0, d1, d2, d3, d4] 38 (0, 0)) :=
  heap_setCell_same _ b 4 _ _ d4 (heap_setCell_same _ b 3 _ _ d3 (heap_setCell_same _ b 2 _ _ d2 (heap_setCell_same _ b 1 _ _ d1 (heap_setCell_same _ b 0 _ _ d0 h))))
theorem only_set5 (w : World) (b : Nat) (d0 d1 d2 d3 d4 : Value) : Only (· = b) w (((((w.setCell ⟨b, 0, none⟩ d0).setCell ⟨b, 1, none⟩ d1).setCell ⟨b, 2, none⟩ d2).setCell ⟨b, 3, none⟩ d3).setCell ⟨b, 4, none⟩ d4) := (((((Only.set (F := (· = b)) w b 0 d0 rfl).trans (Only.set (F := (· = b)) _ b 1 d1 rfl)).trans (Only.set (F := (· = b)) _ b 2 d2 rfl)).trans (Only.set (F := (· = b)) _ b 3 d3 rfl)).trans (Only.set (F := (· = b)) _ b 4 d4 rfl))
theorem rdAny_any {W : World} {bu : Nat} {bx : Nat → Prop} {v : Value} {l l1 : List Int} {e e1 n : Int} (h : UnpX bx W bu v l e) (hr : anyR l e = (n, l1, e1)) :
    Calls Try.prog 49 #[.pointer (some ⟨bu, 0, none⟩)] W fun r w' => r = .returned (.int .i64 n) ∧ W.grownBy w' (some bu) ∧ ∃ p cap, UnpX bx w' bu (.slice p l1.length cap) l1 e1 := by
  have HC := hide (uint_at h hr)
  clear h hr
  go_enter Try.func49, Try.ntmps49
  go_wp2_with fail
  refine HC.out.mono ?_
  rintro _ w1 ⟨rfl, g1, p1, c1, U1⟩
  have HG := hide g1
  have HU := hide U1
  clear g1 U1
  go_wp2
  go_ret
  exact ⟨rfl, HG.out, p1, c1, HU.out⟩
theorem rdInt_any {W : World} {bu : Nat} {bx : Nat → Prop} {v : Value} {l l1 : List Int} {e e1 n : Int} (h : UnpX bx W bu v l e) (hr : anyR l e = (n, l1, e1)) :
    Calls Try.prog 21 #[.pointer (some ⟨bu, 0, none⟩)] W fun r w' => r = .returned (.int .i64 n) ∧ W.grownBy w' (some bu) ∧ ∃ p cap, UnpX bx w' bu (.slice p l1.length cap) l1 e1 := by
  have HC := hide (rdAny_any h hr)
  clear h hr
  go_enter Try.func21, Try.ntmps21
  go_wp2_with fail
  refine HC.out.mono ?_
  rintro _ w1 ⟨rfl, g1, p1, c1, U1⟩
  have HG := hide g1
  have HU := hide U1
  clear g1 U1
  go_wp2
  go_ret
  exact ⟨rfl, HG.out, p1, c1, HU.out⟩

set_option maxRecDepth 100000 in
set_option maxHeartbeats 8000000 in
theorem readOp_any {W : World} {bu B : Nat} {v : Value} {l lf : List Int} {e ef : Int} {x : GO} (h : UnpX (fun k => B ≤ k) W bu v l e) (hbB : bu < B) (hBW : B ≤ W.heap.size) (hr : opR l e = (x, lf, ef)) :
    Calls Try.prog 24 #[.pointer (some ⟨bu, 0, none⟩)] W fun r w' => ∃ ip ic, r = .returned (OV.val ⟨x, ip, ic⟩) ∧ w'.ownsRow W.heap.size 40 2 (.slice ip x.ins.length ic) x.ins.length (x.ins.flatMap GE.cells) ∧ Only (· = bu) W w' ∧ ∃ p cap, UnpX (fun k => B ≤ k) w' bu (.slice p lf.length cap) lf ef := by
  obtain ⟨i0, hI0, hz0, hz1, hz2⟩ := info_parts Try.infoEdge
  obtain ⟨kk, l1, e1, h1⟩ : ∃ a q s, anyR l e = (a, q, s) := ⟨_, _, _, rfl⟩
  obtain ⟨pp, l2, e2, h2⟩ : ∃ a q s, anyR l1 e1 = (a, q, s) := ⟨_, _, _, rfl⟩
  obtain ⟨ff, l3, e3, h3⟩ : ∃ a q s, anyR l2 e2 = (a, q, s) := ⟨_, _, _, rfl⟩
  obtain ⟨aa, l4, e4, h4⟩ : ∃ a q s, anyR l3 e3 = (a, q, s) := ⟨_, _, _, rfl⟩
  obtain ⟨cn, l5, e5, h5⟩ : ∃ a q s, cntR l4 e4 = (a, q, s) := ⟨_, _, _, rfl⟩
  obtain ⟨n, hn⟩ : ∃ m : Nat, cn = (m : Int) := ⟨cn.toNat, by have := cnt_bd l4 e4; rw [h5] at this; simp only at this; omega⟩
  subst hn
  have hn1 : n ≤ 1024 := by have := cnt_bd l4 e4; rw [h5] at this; simp only at this; omega
  obtain ⟨ins, l6, e6, h6⟩ : ∃ a q s, loopG edgeR n l5 e5 = (a, q, s) := ⟨_, _, _, rfl⟩
  rw [opR_eq h1 h2 h3 h4 ((insR_eq h5).trans h6)] at hr
  simp only [Prod.mk.injEq] at hr
  obtain ⟨rfl, rfl, rfl⟩ := hr
  have HG0 := hide (Goes.start h6)
  have HIL : Hid (ins.length ≤ n) := hide (by have := loopG_len (R := edgeR) n l5 e5; rw [h6] at this; exact this)
  clear h6
  obtain ⟨V, hV⟩ : ∃ V, V = W.alloc (.cells #[.int .i64 0, .int .i64 0, .int .i64 0, .int .i64 0, .slice none 0 0] 38 (0, 0)) := ⟨_, rfl⟩
  have hb0 : Below W.heap.size W V := by rw [hV]; exact alloc_below W _
  have hvr : V.heap[W.heap.size]? = some (.cells #[.int .i64 0, .int .i64 0, .int .i64 0, .int .i64 0, .slice none 0 0] 38 (0, 0)) := by rw [hV]; exact heap_alloc_new W _
  have HC1 := hide (rdInt_any (h.below hb0) h1)
  have HVO : Hid (Only (· = bu) W V) := hide (Only.fresh hb0 _)
  obtain ⟨rb, hgB⟩ : ∃ gB, W.heap.size = gB := ⟨_, rfl⟩
  have hnr : bu ≠ rb := by omega
  rw [hgB] at hvr
  have HGB := hide hgB
  have HH2 := hide h2
  have HH3 := hide h3
  have HH4 := hide h4
  have HH5 := hide h5
  clear h hb0 h1 h2 h3 h4 h5
  go_enter Try.func24, Try.ntmps24
  go_wp2_with fail
  rw [← hV]
  try rw [hgB]
  clear hV hgB
  refine HC1.out.mono ?_
  rintro _ w1 ⟨rfl, g1, p1, c1, U1⟩
  have HC2 := hide (rdInt_any U1 HH2.out)
  have o1 := (only_grown g1).obj hvr (fun e => hnr e.symm)
  have HO1 : Hid (Only (· = bu) W w1) := hide (HVO.out.trans (only_grown g1))
  clear g1 U1 hvr HC1 HH2 HVO
  go_wp2_with fail
  refine HC2.out.mono ?_
  rintro _ w2 ⟨rfl, g2, p2, c2, U2⟩
  have HC3 := hide (rdInt_any U2 HH3.out)
  have o2 := (only_grown g2).obj o1 (fun e => hnr e.symm)
  have HO2 : Hid (Only (· = bu) W w2) := hide (HO1.out.trans (only_grown g2))
  clear g2 U2 o1 HC2 HH3 HO1
  go_wp2_with fail
  refine HC3.out.mono ?_
  rintro _ w3 ⟨rfl, g3, p3, c3, U3⟩
  have HC4 := hide (rdAny_any U3 HH4.out)
  have o3 := (only_grown g3).obj o2 (fun e => hnr e.symm)
  have HO3 : Hid (Only (· = bu) W w3) := hide (HO2.out.trans (only_grown g3))
  clear g3 U3 o2 HC3 HH4 HO2
  go_wp2_with fail
  refine HC4.out.mono ?_
  rintro _ w4 ⟨rfl, g4, p4, c4, U4⟩
  have o4 := (only_grown g4).obj o3 (fun e => hnr e.symm)
  have HO4 : Hid (Only (· = bu) W w4) := hide (HO3.out.trans (only_grown g4))
  obtain ⟨V5, hV5⟩ : ∃ V5, V5 = w4.alloc (.cells #[.int .i64 kk, .int .i64 pp, .int .i64 ff, .int .i64 aa, .slice none 0 0] 38 (0, 0)) := ⟨_, rfl⟩
  have hb5 : Below w4.heap.size w4 V5 := by rw [hV5]; exact alloc_below w4 _
  have hvo : V5.heap[w4.heap.size]? = some (.cells #[.int .i64 kk, .int .i64 pp, .int .i64 ff, .int .i64 aa, .slice none 0 0] 38 (0, 0)) := by rw [hV5]; exact heap_alloc_new w4 _
  have o5 : V5.heap[rb]? = some (.cells #[.int .i64 0, .int .i64 0, .int .i64 0, .int .i64 0, .slice none 0 0] 38 (0, 0)) := below_box hb5 o4
  have HO5 : Hid (Only (· = bu) W V5) := hide (HO4.out.trans (Only.fresh hb5 _))
  have HC5 := hide (uint_at (U4.below hb5) HH5.out)
  obtain ⟨ob, hob⟩ : ∃ gB, w4.heap.size = gB := ⟨_, rfl⟩
  have hwo : W.heap.size ≤ ob := by rw [← hob]; exact HO4.out.size
  have hro : rb ≠ ob := by
    have := (Array.getElem?_eq_some_iff.1 o4).1
    omega
  have hne : bu ≠ ob := by omega
  rw [hob] at hvo
  have HV5S : Hid (ob < V5.heap.size) := hide ((Array.getElem?_eq_some_iff.1 hvo).1)
  clear g4 U4 o3 o4 HC4 HO3 HO4 hb5
  go_wp2_with fail
  rw [← hV5]
  try rw [hob]
  clear hV5 hob
  refine HC5.out.mono ?_
  rintro _ w6 ⟨rfl, g6, p6, c6, U6⟩
  have hb6 := (only_grown g6).obj hvo (fun e => hne e.symm)
  have hr6 := (only_grown g6).obj o5 (fun e => hnr e.symm)
  have HB6 := hide hb6
  have HR6 := hide hr6
  have HN6 : Hid (Only (· = bu) W w6) := hide (HO5.out.trans (only_grown g6))
  have HU6 := hide U6
  obtain ⟨VB, hVB⟩ : ∃ VB, W.heap.size = VB := ⟨_, rfl⟩
  have HBV : Hid (B ≤ VB) := hide (by omega)
  have HWV : Hid (W.heap.size ≤ VB) := hide (by omega)
  have HS6 : Hid (VB ≤ w6.heap.size) := hide (by rw [← hVB]; exact HN6.out.size)
  have hVo : VB ≤ ob := by omega
  have hbV : bu < VB := by omega
  have HVW := hide hVB
  clear g6 U6 hb6 hr6 hvo o5 HC5 HH5 HO5 hVB
  go_wp2_with fail
  go_loopw [4] (fun s wr => ∃ (i m : Nat) (acc : List GE) (l : List Int) (e : Int) (p1 : Option Addr) (c1 : Nat) (pv : Option Addr) (cv : Nat), i ≤ n ∧ s = .int .i64 ((n - i : Nat) : Int) ∧ m ≤ i ∧ Hid (acc.length = m) ∧ Hid (UnpX (fun k => B ≤ k) wr bu (.slice pv l.length cv) l e) ∧ Hid (wr.ownsRow VB 40 2 (.slice p1 m c1) m (acc.flatMap GE.cells)) ∧ Hid (wr.heap[ob]? = some (.cells #[.int .i64 kk, .int .i64 pp, .int .i64 ff, .int .i64 aa, .slice p1 m c1] 38 (0, 0))) ∧ Hid (wr.heap[rb]? = some (.cells #[.int .i64 0, .int .i64 0, .int .i64 0, .int .i64 0, .slice none 0 0] 38 (0, 0))) ∧ Hid (Goes edgeR (n - i) acc l e ins l6 e6) ∧ Hid (Only (· = bu) W wr) ∧ Hid (VB ≤ wr.heap.size)) (fun s _ => (intOf s).toNat)
  case atStart => exact ⟨0, 0, [], l5, e5, none, 0, p6, c6, Nat.zero_le _, rfl, Nat.le_refl _, hide rfl, HU6, hide (World.ownsRow_nil _ _ _ _), HB6, HR6, HG0, HN6, HS6⟩
  case round =>
    obtain ⟨i, m, acc, l, e, p1, c1, pw, cw, hi, rfl, hm, HAL, HU, HOW, HBX, HRX, HG, HON, HVS⟩ := hrel
    clear HU6 HB6 HR6 HG0 HN6 HS6
    rename World => wr
    by_cases hlt : i < n
    · by_cases he : e = 0
      · subst he
        obtain ⟨ea, la, e1, ha⟩ : ∃ a q s, anyR l 0 = (a, q, s) := ⟨_, _, _, rfl⟩
        obtain ⟨eb, l2, e2, hb⟩ : ∃ a q s, anyR la e1 = (a, q, s) := ⟨_, _, _, rfl⟩
        have HGN : Hid (Goes edgeR (n - (i + 1)) (acc ++ [⟨ea, eb⟩]) l2 e2 ins l6 e6) := by
          have h := HG.out
          rw [show n - i = n - (i + 1) + 1 by omega] at h
          exact hide (h.next (edgeR_eq ha hb))
        have HER := hide (err_any HU.out)
        have d1 : decide (((n - i : Nat) : Int) > 0) = true := decide_eq_true (by omega)
        have HK1 : Hid (m + 1 ≤ maxLen) := by show _ ≤ _; unfold maxLen; omega
        have HK2 : Hid ((m + 1) * 16 ≤ 140737488355328) := by show _ ≤ _; omega
        have HA1 := hide ha
        have HA2 := hide hb
        clear ha hb HG
        go_wp2_with fail
        refine HER.out.mono ?_
        rintro _ wy ⟨rfl, rfl⟩
        clear HER
        rename World => wr
        go_upto_region 5 with fail
        have B0 : Below wr.heap.size wr wr.drew := (Below.refl _ wr).drew
        have HC1 := hide (rdInt_any (HU.out.below B0) HA1.out)
        have HD : Hid (Only (· = bu) wr wr.drew) := hide (Only.fresh B0 _)
        have f0 : wr.cell? ⟨ob, 4, none⟩ = some (.slice p1 m c1) := by simp [World.cell?, HBX.out]
        have fd : wr.drew.cell? ⟨ob, 4, none⟩ = some (.slice p1 m c1) := cell_later B0 f0
        clear HU B0 d1
        refine wp_region_any (by kernel_rfl) ?_
        try (change wpAny _ _ _ _ _ _ _ (World.drew _))
        refine wpAny_take (i := 0) (v := ?_) rfl (by kernel_rfl) (by kernel_rfl) (by kernel_rfl) (fun _ _ _ h => h) (Or.inl ⟨by rfl, ?_⟩) ?_
        case refine_2 => intro w; go_simp; try with_reducible rfl
        refine wpAny_take (i := 2) (v := ?_) rfl (by kernel_rfl) (by kernel_rfl) (by kernel_rfl) (fun _ _ _ h => h) (Or.inl ⟨by rfl, ?_⟩) ?_
        case refine_2 => intro w; go_simp; try with_reducible rfl
        refine wpAny_take (i := 4) (v := ?_) rfl (by kernel_rfl) (by kernel_rfl) (by kernel_rfl) (fun _ _ _ h => h) (Or.inl ⟨by rfl, ?_⟩) ?_
        case refine_2 => intro w; go_simp; try with_reducible rfl
        refine wpAny_ready (rs := [1, 3]) (by kernel_rfl) (by simp) ?_
        refine AllReady.cons rfl (fun K hK => ?_) ?_
        · go_simp
          refine hK _ _ ?_
          clear hK K
          refine wpAny_ready (rs := [3]) (by kernel_rfl) (by simp) ?_
          refine AllReady.cons rfl (fun K hK => ?_) ?_
          rotate_left
          · exact AllReady.nil
          go_simp
          refine HC1.out.mono ?_
          rintro _ x1 ⟨rfl, g1, pa, ca, U1⟩
          have HC2 := hide (rdInt_any U1 HA2.out)
          have hx1 : Only (· = bu) wr x1 := HD.out.trans (only_grown g1)
          have f1 : x1.cell? ⟨ob, 4, none⟩ = some (.slice p1 m c1) := hx1.cell f0 (fun e => hne e.symm)
          have HX1 := hide hx1
          clear g1 U1 hx1
          refine hK _ _ ?_
          clear hK K
          refine wpAny_ready (rs := [5]) (by kernel_rfl) (by simp) ?_
          refine AllReady.cons rfl (fun K hK => ?_) ?_
          rotate_left
          · exact AllReady.nil
          go_simp
          refine HC2.out.mono ?_
          rintro _ x2 ⟨rfl, g2, pb, cb, U2⟩
          have HX2 : Hid (Only (· = bu) wr x2) := hide (HX1.out.trans (only_grown g2))
          have f2 : x2.cell? ⟨ob, 4, none⟩ = some (.slice p1 m c1) := HX2.out.cell f0 (fun e => hne e.symm)
          have f3 : (x2.alloc (.cells #[.int .i64 ea, .int .i64 eb] 40 (0, 0))).cell? ⟨ob, 4, none⟩ = some (.slice p1 m c1) := cell_later (alloc_below x2 _) f2
          have HU2 := hide U2
          clear g2 U2 HC2
          refine hK _ _ ?_
          clear hK K
          refine wpAny_take (i := 6) (v := ?_) rfl (by kernel_rfl) (by kernel_rfl) (by kernel_rfl) (fun _ _ _ h => h) (Or.inl ⟨by rfl, ?_⟩) ?_
          case refine_2 => intro w; go_simp; try with_reducible rfl
          refine wpAny_ready (rs := [7]) (by kernel_rfl) (by simp) ?_
          refine AllReady.cons rfl (fun K hK => ?_) ?_
          rotate_left
          · exact AllReady.nil
          go_simp
          refine hK _ _ ?_
          clear hK K
          refine wpAny_ready (rs := [8]) (by kernel_rfl) (by simp) ?_
          refine AllReady.cons rfl (fun K hK => ?_) ?_
          rotate_left
          · exact AllReady.nil
          have HX3 : Hid (Only (· = bu) wr (x2.alloc (.cells #[.int .i64 ea, .int .i64 eb] 40 (0, 0)))) := hide (HX2.out.trans (Only.alloc _ _ _))
          have HO3 : Hid ((x2.alloc (.cells #[.int .i64 ea, .int .i64 eb] 40 (0, 0))).ownsRow VB 40 2 (.slice p1 m c1) m (acc.flatMap GE.cells)) := hide (ownsRow_only HOW.out HX3.out (fun b hb e => by have e' : b = bu := e; have := own_block_base HOW.out hb; omega))
          refine step_append_cells rfl (.tmp 26) (.tmp 32) 36 rfl VB 40 i0 (.agg #[.int .i64 0, .int .i64 0]) 2 16 Try.underlying36 hI0 hz0 hz1 hz2 rfl (by decide) (.slice p1 m c1) m _ rfl HO3.out (.slice (some ⟨x2.heap.size, 0, none⟩) 1 1) 1 [.int .i64 ea, .int .i64 eb] rfl (Seg.news (heap_alloc_new x2 _) (by simp [Value.oneCell']) rfl (Nat.le_refl _) (by decide)) HK1.out HK2.out (Nat.le_trans HVS.out HX3.out.size) ?_
          intro p6 c6 w6 o6 g6
          have hg6 : Only (fun i => (Value.slice p1 m c1).ownBlock = some i) (x2.alloc (.cells #[.int .i64 ea, .int .i64 eb] 40 (0, 0))) w6 := Only.of_grown g6 (fun k e => e)
          have hobn : ∀ i, (Value.slice p1 m c1).ownBlock = some i → i ≠ ob ∧ VB ≤ i := fun i e => by
            obtain ⟨_, cur, h7⟩ := own_block_lt HOW.out e
            refine ⟨fun h => ?_, own_block_base HOW.out e⟩
            rw [h, HBX.out] at h7
            simp at h7
          have hb3 : (x2.alloc (.cells #[.int .i64 ea, .int .i64 eb] 40 (0, 0))).heap[ob]? = some (.cells #[.int .i64 kk, .int .i64 pp, .int .i64 ff, .int .i64 aa, .slice p1 m c1] 38 (0, 0)) := HX3.out.obj HBX.out (fun e => hne e.symm)
          have hb6 : w6.heap[ob]? = some (.cells #[.int .i64 kk, .int .i64 pp, .int .i64 ff, .int .i64 aa, .slice p1 m c1] 38 (0, 0)) := hg6.obj hb3 (fun e => (hobn _ e).1 rfl)
          have hr3 : (x2.alloc (.cells #[.int .i64 ea, .int .i64 eb] 40 (0, 0))).heap[rb]? = some (.cells #[.int .i64 0, .int .i64 0, .int .i64 0, .int .i64 0, .slice none 0 0] 38 (0, 0)) := HX3.out.obj HRX.out (fun e => hnr e.symm)
          have hr6 : w6.heap[rb]? = some (.cells #[.int .i64 0, .int .i64 0, .int .i64 0, .int .i64 0, .slice none 0 0] 38 (0, 0)) := hg6.obj hr3 (fun e => by
            obtain ⟨_, cur, h7⟩ := own_block_lt HO3.out e
            rw [hr3] at h7
            simp at h7)
          have f6 : w6.cell? ⟨ob, 4, none⟩ = some (.slice p1 m c1) := by simp [World.cell?, hb6]
          have f7 : w6.frozen? ⟨ob, 4, none⟩ = false := by simp [World.frozen?, hb6]
          have hset : Only (· = ob) w6 (w6.setCell ⟨ob, 4, none⟩ (.slice p6 (m + 1) c6)) := Only.set w6 ob 4 _ rfl
          have HB7 : Hid ((w6.setCell ⟨ob, 4, none⟩ (.slice p6 (m + 1) c6)).heap[ob]? = some (.cells #[.int .i64 kk, .int .i64 pp, .int .i64 ff, .int .i64 aa, .slice p6 (m + 1) c6] 38 (0, 0))) := hide (heap_setCell_same w6 ob 4 _ _ _ hb6)
          have HR7 : Hid ((w6.setCell ⟨ob, 4, none⟩ (.slice p6 (m + 1) c6)).heap[rb]? = some (.cells #[.int .i64 0, .int .i64 0, .int .i64 0, .int .i64 0, .slice none 0 0] 38 (0, 0))) := hide (hset.obj hr6 (fun e => hro e))
          have HO7 : Hid ((w6.setCell ⟨ob, 4, none⟩ (.slice p6 (m + 1) c6)).ownsRow VB 40 2 (.slice p6 (m + 1) c6) (m + 1) ((acc ++ [(⟨ea, eb⟩ : GE)]).flatMap GE.cells)) := by
            refine hide ?_
            rw [List.flatMap_append]
            refine ownsRow_only o6 hset (fun b hb e => ?_)
            have e' : b = ob := e
            obtain ⟨_, cur, h7⟩ := own_block_lt o6 hb
            rw [e', hb6] at h7
            simp at h7
          have hall : Only (fun i => B ≤ i) x2 (w6.setCell ⟨ob, 4, none⟩ (.slice p6 (m + 1) c6)) := ((Only.alloc _ _ _).trans (hg6.mono (fun i _ e => Nat.le_trans HBV.out (hobn _ e).2))).trans (hset.mono (fun i _ e => by have e' : i = ob := e; have := HBV.out; omega))
          have HU7 : Hid (UnpX (fun k => B ≤ k) (w6.setCell ⟨ob, 4, none⟩ (.slice p6 (m + 1) c6)) bu (.slice pb l2.length cb) l2 e2) := hide (HU2.out.turnB hall (fun i e => e) hbB)
          have HN7 : Hid (Only (· = bu) W (w6.setCell ⟨ob, 4, none⟩ (.slice p6 (m + 1) c6))) := hide (((HON.out.trans HX3.out).step hg6 (fun i e => .inr (Nat.le_trans HWV.out (hobn _ e).2))).step hset (fun i e => .inr (by have e' : i = ob := e; have := HWV.out; omega)))
          have HS7 : Hid (VB ≤ (w6.setCell ⟨ob, 4, none⟩ (.slice p6 (m + 1) c6)).heap.size) := hide (Nat.le_trans HVS.out (Nat.le_trans HX3.out.size (Nat.le_trans hg6.size hset.size)))
          have HL7 : Hid ((acc ++ [(⟨ea, eb⟩ : GE)]).length = m + 1) := hide (by rw [List.length_append, HAL.out]; rfl)
          clear o6 g6 hg6 hobn hb3 hb6 hr3 hr6 hset hall f0 f1 f2 f3 HX1 HX2 HX3 HO3 HU2
          refine hK _ _ ?_
          clear hK K
          refine wpAny_take (i := 9) (v := ?_) rfl (by kernel_rfl) (by kernel_rfl) (by kernel_rfl) (fun _ _ _ h => h) (Or.inl ⟨by rfl, ?_⟩) ?_
          case refine_2 => intro w; go_simp; try with_reducible rfl
          refine wpAny_ready (rs := [10]) (by kernel_rfl) (by simp) ?_
          refine AllReady.cons rfl (fun K hK => ?_) ?_
          rotate_left
          · exact AllReady.nil
          go_simp
          refine hK _ _ ?_
          clear hK K
          refine wpAny_done (by kernel_rfl) ?_ _
          go_wp2
          exact ⟨⟨i + 1, m + 1, acc ++ [⟨ea, eb⟩], l2, e2, p6, c6, pb, cb, by omega, by first | rfl | go_num | (congr 1; omega), by omega, HL7, HU7, HO7, HB7, HR7, HGN, HN7, HS7⟩, by simp [intOf]; omega⟩
        refine AllReady.cons rfl (fun K hK => ?_) ?_
        · go_simp
          refine HC1.out.mono ?_
          rintro _ x1 ⟨rfl, g1, pa, ca, U1⟩
          have HC2 := hide (rdInt_any U1 HA2.out)
          have hx1 : Only (· = bu) wr x1 := HD.out.trans (only_grown g1)
          have f1 : x1.cell? ⟨ob, 4, none⟩ = some (.slice p1 m c1) := hx1.cell f0 (fun e => hne e.symm)
          have HX1 := hide hx1
          clear g1 U1 hx1
          refine hK _ _ ?_
          clear hK K
          refine wpAny_ready (rs := [1, 5]) (by kernel_rfl) (by simp) ?_
          refine AllReady.cons rfl (fun K hK => ?_) ?_
          · go_simp
            refine hK _ _ ?_
            clear hK K
            refine wpAny_ready (rs := [5]) (by kernel_rfl) (by simp) ?_
            refine AllReady.cons rfl (fun K hK => ?_) ?_
            rotate_left
            · exact AllReady.nil
            go_simp
            refine HC2.out.mono ?_
            rintro _ x2 ⟨rfl, g2, pb, cb, U2⟩
            have HX2 : Hid (Only (· = bu) wr x2) := hide (HX1.out.trans (only_grown g2))
            have f2 : x2.cell? ⟨ob, 4, none⟩ = some (.slice p1 m c1) := HX2.out.cell f0 (fun e => hne e.symm)
            have f3 : (x2.alloc (.cells #[.int .i64 ea, .int .i64 eb] 40 (0, 0))).cell? ⟨ob, 4, none⟩ = some (.slice p1 m c1) := cell_later (alloc_below x2 _) f2
            have HU2 := hide U2
            clear g2 U2 HC2
            refine hK _ _ ?_
            clear hK K
            refine wpAny_take (i := 6) (v := ?_) rfl (by kernel_rfl) (by kernel_rfl) (by kernel_rfl) (fun _ _ _ h => h) (Or.inl ⟨by rfl, ?_⟩) ?_
            case refine_2 => intro w; go_simp; try with_reducible rfl
            refine wpAny_ready (rs := [7]) (by kernel_rfl) (by simp) ?_
            refine AllReady.cons rfl (fun K hK => ?_) ?_
            rotate_left
            · exact AllReady.nil
            go_simp
            refine hK _ _ ?_
            clear hK K
            refine wpAny_ready (rs := [8]) (by kernel_rfl) (by simp) ?_
            refine AllReady.cons rfl (fun K hK => ?_) ?_
            rotate_left
            · exact AllReady.nil
            have HX3 : Hid (Only (· = bu) wr (x2.alloc (.cells #[.int .i64 ea, .int .i64 eb] 40 (0, 0)))) := hide (HX2.out.trans (Only.alloc _ _ _))
            have HO3 : Hid ((x2.alloc (.cells #[.int .i64 ea, .int .i64 eb] 40 (0, 0))).ownsRow VB 40 2 (.slice p1 m c1) m (acc.flatMap GE.cells)) := hide (ownsRow_only HOW.out HX3.out (fun b hb e => by have e' : b = bu := e; have := own_block_base HOW.out hb; omega))
            refine step_append_cells rfl (.tmp 26) (.tmp 32) 36 rfl VB 40 i0 (.agg #[.int .i64 0, .int .i64 0]) 2 16 Try.underlying36 hI0 hz0 hz1 hz2 rfl (by decide) (.slice p1 m c1) m _ rfl HO3.out (.slice (some ⟨x2.heap.size, 0, none⟩) 1 1) 1 [.int .i64 ea, .int .i64 eb] rfl (Seg.news (heap_alloc_new x2 _) (by simp [Value.oneCell']) rfl (Nat.le_refl _) (by decide)) HK1.out HK2.out (Nat.le_trans HVS.out HX3.out.size) ?_
            intro p6 c6 w6 o6 g6
            have hg6 : Only (fun i => (Value.slice p1 m c1).ownBlock = some i) (x2.alloc (.cells #[.int .i64 ea, .int .i64 eb] 40 (0, 0))) w6 := Only.of_grown g6 (fun k e => e)
            have hobn : ∀ i, (Value.slice p1 m c1).ownBlock = some i → i ≠ ob ∧ VB ≤ i := fun i e => by
              obtain ⟨_, cur, h7⟩ := own_block_lt HOW.out e
              refine ⟨fun h => ?_, own_block_base HOW.out e⟩
              rw [h, HBX.out] at h7
              simp at h7
            have hb3 : (x2.alloc (.cells #[.int .i64 ea, .int .i64 eb] 40 (0, 0))).heap[ob]? = some (.cells #[.int .i64 kk, .int .i64 pp, .int .i64 ff, .int .i64 aa, .slice p1 m c1] 38 (0, 0)) := HX3.out.obj HBX.out (fun e => hne e.symm)
            have hb6 : w6.heap[ob]? = some (.cells #[.int .i64 kk, .int .i64 pp, .int .i64 ff, .int .i64 aa, .slice p1 m c1] 38 (0, 0)) := hg6.obj hb3 (fun e => (hobn _ e).1 rfl)
            have hr3 : (x2.alloc (.cells #[.int .i64 ea, .int .i64 eb] 40 (0, 0))).heap[rb]? = some (.cells #[.int .i64 0, .int .i64 0, .int .i64 0, .int .i64 0, .slice none 0 0] 38 (0, 0)) := HX3.out.obj HRX.out (fun e => hnr e.symm)
            have hr6 : w6.heap[rb]? = some (.cells #[.int .i64 0, .int .i64 0, .int .i64 0, .int .i64 0, .slice none 0 0] 38 (0, 0)) := hg6.obj hr3 (fun e => by
              obtain ⟨_, cur, h7⟩ := own_block_lt HO3.out e
              rw [hr3] at h7
              simp at h7)
            have f6 : w6.cell? ⟨ob, 4, none⟩ = some (.slice p1 m c1) := by simp [World.cell?, hb6]
            have f7 : w6.frozen? ⟨ob, 4, none⟩ = false := by simp [World.frozen?, hb6]
            have hset : Only (· = ob) w6 (w6.setCell ⟨ob, 4, none⟩ (.slice p6 (m + 1) c6)) := Only.set w6 ob 4 _ rfl
            have HB7 : Hid ((w6.setCell ⟨ob, 4, none⟩ (.slice p6 (m + 1) c6)).heap[ob]? = some (.cells #[.int .i64 kk, .int .i64 pp, .int .i64 ff, .int .i64 aa, .slice p6 (m + 1) c6] 38 (0, 0))) := hide (heap_setCell_same w6 ob 4 _ _ _ hb6)
            have HR7 : Hid ((w6.setCell ⟨ob, 4, none⟩ (.slice p6 (m + 1) c6)).heap[rb]? = some (.cells #[.int .i64 0, .int .i64 0, .int .i64 0, .int .i64 0, .slice none 0 0] 38 (0, 0))) := hide (hset.obj hr6 (fun e => hro e))
            have HO7 : Hid ((w6.setCell ⟨ob, 4, none⟩ (.slice p6 (m + 1) c6)).ownsRow VB 40 2 (.slice p6 (m + 1) c6) (m + 1) ((acc ++ [(⟨ea, eb⟩ : GE)]).flatMap GE.cells)) := by
              refine hide ?_
              rw [List.flatMap_append]
              refine ownsRow_only o6 hset (fun b hb e => ?_)
              have e' : b = ob := e
              obtain ⟨_, cur, h7⟩ := own_block_lt o6 hb
              rw [e', hb6] at h7
              simp at h7
            have hall : Only (fun i => B ≤ i) x2 (w6.setCell ⟨ob, 4, none⟩ (.slice p6 (m + 1) c6)) := ((Only.alloc _ _ _).trans (hg6.mono (fun i _ e => Nat.le_trans HBV.out (hobn _ e).2))).trans (hset.mono (fun i _ e => by have e' : i = ob := e; have := HBV.out; omega))
            have HU7 : Hid (UnpX (fun k => B ≤ k) (w6.setCell ⟨ob, 4, none⟩ (.slice p6 (m + 1) c6)) bu (.slice pb l2.length cb) l2 e2) := hide (HU2.out.turnB hall (fun i e => e) hbB)
            have HN7 : Hid (Only (· = bu) W (w6.setCell ⟨ob, 4, none⟩ (.slice p6 (m + 1) c6))) := hide (((HON.out.trans HX3.out).step hg6 (fun i e => .inr (Nat.le_trans HWV.out (hobn _ e).2))).step hset (fun i e => .inr (by have e' : i = ob := e; have := HWV.out; omega)))
            have HS7 : Hid (VB ≤ (w6.setCell ⟨ob, 4, none⟩ (.slice p6 (m + 1) c6)).heap.size) := hide (Nat.le_trans HVS.out (Nat.le_trans HX3.out.size (Nat.le_trans hg6.size hset.size)))
            have HL7 : Hid ((acc ++ [(⟨ea, eb⟩ : GE)]).length = m + 1) := hide (by rw [List.length_append, HAL.out]; rfl)
            clear o6 g6 hg6 hobn hb3 hb6 hr3 hr6 hset hall f0 f1 f2 f3 HX1 HX2 HX3 HO3 HU2
            refine hK _ _ ?_
            clear hK K
            refine wpAny_take (i := 9) (v := ?_) rfl (by kernel_rfl) (by kernel_rfl) (by kernel_rfl) (fun _ _ _ h => h) (Or.inl ⟨by rfl, ?_⟩) ?_
            case refine_2 => intro w; go_simp; try with_reducible rfl
            refine wpAny_ready (rs := [10]) (by kernel_rfl) (by simp) ?_
            refine AllReady.cons rfl (fun K hK => ?_) ?_
            rotate_left
            · exact AllReady.nil
            go_simp
            refine hK _ _ ?_
            clear hK K
            refine wpAny_done (by kernel_rfl) ?_ _
            go_wp2
            exact ⟨⟨i + 1, m + 1, acc ++ [⟨ea, eb⟩], l2, e2, p6, c6, pb, cb, by omega, by first | rfl | go_num | (congr 1; omega), by omega, HL7, HU7, HO7, HB7, HR7, HGN, HN7, HS7⟩, by simp [intOf]; omega⟩
          refine AllReady.cons rfl (fun K hK => ?_) ?_
          · go_simp
            refine HC2.out.mono ?_
            rintro _ x2 ⟨rfl, g2, pb, cb, U2⟩
            have HX2 : Hid (Only (· = bu) wr x2) := hide (HX1.out.trans (only_grown g2))
            have f2 : x2.cell? ⟨ob, 4, none⟩ = some (.slice p1 m c1) := HX2.out.cell f0 (fun e => hne e.symm)
            have f3 : (x2.alloc (.cells #[.int .i64 ea, .int .i64 eb] 40 (0, 0))).cell? ⟨ob, 4, none⟩ = some (.slice p1 m c1) := cell_later (alloc_below x2 _) f2
            have HU2 := hide U2
            clear g2 U2 HC2
            refine hK _ _ ?_
            clear hK K
            refine wpAny_take (i := 6) (v := ?_) rfl (by kernel_rfl) (by kernel_rfl) (by kernel_rfl) (fun _ _ _ h => h) (Or.inl ⟨by rfl, ?_⟩) ?_
            case refine_2 => intro w; go_simp; try with_reducible rfl
            refine wpAny_ready (rs := [1, 7]) (by kernel_rfl) (by simp) ?_
            refine AllReady.cons rfl (fun K hK => ?_) ?_
            · go_simp
              refine hK _ _ ?_
              clear hK K
              refine wpAny_ready (rs := [7]) (by kernel_rfl) (by simp) ?_
              refine AllReady.cons rfl (fun K hK => ?_) ?_
              rotate_left
              · exact AllReady.nil
              go_simp
              refine hK _ _ ?_
              clear hK K
              refine wpAny_ready (rs := [8]) (by kernel_rfl) (by simp) ?_
              refine AllReady.cons rfl (fun K hK => ?_) ?_
              rotate_left
              · exact AllReady.nil
              have HX3 : Hid (Only (· = bu) wr (x2.alloc (.cells #[.int .i64 ea, .int .i64 eb] 40 (0, 0)))) := hide (HX2.out.trans (Only.alloc _ _ _))
              have HO3 : Hid ((x2.alloc (.cells #[.int .i64 ea, .int .i64 eb] 40 (0, 0))).ownsRow VB 40 2 (.slice p1 m c1) m (acc.flatMap GE.cells)) := hide (ownsRow_only HOW.out HX3.out (fun b hb e => by have e' : b = bu := e; have := own_block_base HOW.out hb; omega))
              refine step_append_cells rfl (.tmp 26) (.tmp 32) 36 rfl VB 40 i0 (.agg #[.int .i64 0, .int .i64 0]) 2 16 Try.underlying36 hI0 hz0 hz1 hz2 rfl (by decide) (.slice p1 m c1) m _ rfl HO3.out (.slice (some ⟨x2.heap.size, 0, none⟩) 1 1) 1 [.int .i64 ea, .int .i64 eb] rfl (Seg.news (heap_alloc_new x2 _) (by simp [Value.oneCell']) rfl (Nat.le_refl _) (by decide)) HK1.out HK2.out (Nat.le_trans HVS.out HX3.out.size) ?_
              intro p6 c6 w6 o6 g6
              have hg6 : Only (fun i => (Value.slice p1 m c1).ownBlock = some i) (x2.alloc (.cells #[.int .i64 ea, .int .i64 eb] 40 (0, 0))) w6 := Only.of_grown g6 (fun k e => e)
              have hobn : ∀ i, (Value.slice p1 m c1).ownBlock = some i → i ≠ ob ∧ VB ≤ i := fun i e => by
                obtain ⟨_, cur, h7⟩ := own_block_lt HOW.out e
                refine ⟨fun h => ?_, own_block_base HOW.out e⟩
                rw [h, HBX.out] at h7
                simp at h7
              have hb3 : (x2.alloc (.cells #[.int .i64 ea, .int .i64 eb] 40 (0, 0))).heap[ob]? = some (.cells #[.int .i64 kk, .int .i64 pp, .int .i64 ff, .int .i64 aa, .slice p1 m c1] 38 (0, 0)) := HX3.out.obj HBX.out (fun e => hne e.symm)
              have hb6 : w6.heap[ob]? = some (.cells #[.int .i64 kk, .int .i64 pp, .int .i64 ff, .int .i64 aa, .slice p1 m c1] 38 (0, 0)) := hg6.obj hb3 (fun e => (hobn _ e).1 rfl)
              have hr3 : (x2.alloc (.cells #[.int .i64 ea, .int .i64 eb] 40 (0, 0))).heap[rb]? = some (.cells #[.int .i64 0, .int .i64 0, .int .i64 0, .int .i64 0, .slice none 0 0] 38 (0, 0)) := HX3.out.obj HRX.out (fun e => hnr e.symm)
              have hr6 : w6.heap[rb]? = some (.cells #[.int .i64 0, .int .i64 0, .int .i64 0, .int .i64 0, .slice none 0 0] 38 (0, 0)) := hg6.obj hr3 (fun e => by
                obtain ⟨_, cur, h7⟩ := own_block_lt HO3.out e
                rw [hr3] at h7
                simp at h7)
              have f6 : w6.cell? ⟨ob, 4, none⟩ = some (.slice p1 m c1) := by simp [World.cell?, hb6]
              have f7 : w6.frozen? ⟨ob, 4, none⟩ = false := by simp [World.frozen?, hb6]
              have hset : Only (· = ob) w6 (w6.setCell ⟨ob, 4, none⟩ (.slice p6 (m + 1) c6)) := Only.set w6 ob 4 _ rfl
              have HB7 : Hid ((w6.setCell ⟨ob, 4, none⟩ (.slice p6 (m + 1) c6)).heap[ob]? = some (.cells #[.int .i64 kk, .int .i64 pp, .int .i64 ff, .int .i64 aa, .slice p6 (m + 1) c6] 38 (0, 0))) := hide (heap_setCell_same w6 ob 4 _ _ _ hb6)
              have HR7 : Hid ((w6.setCell ⟨ob, 4, none⟩ (.slice p6 (m + 1) c6)).heap[rb]? = some (.cells #[.int .i64 0, .int .i64 0, .int .i64 0, .int .i64 0, .slice none 0 0] 38 (0, 0))) := hide (hset.obj hr6 (fun e => hro e))
              have HO7 : Hid ((w6.setCell ⟨ob, 4, none⟩ (.slice p6 (m + 1) c6)).ownsRow VB 40 2 (.slice p6 (m + 1) c6) (m + 1) ((acc ++ [(⟨ea, eb⟩ : GE)]).flatMap GE.cells)) := by
                refine hide ?_
                rw [List.flatMap_append]
                refine ownsRow_only o6 hset (fun b hb e => ?_)
                have e' : b = ob := e
                obtain ⟨_, cur, h7⟩ := own_block_lt o6 hb
                rw [e', hb6] at h7
                simp at h7
              have hall : Only (fun i => B ≤ i) x2 (w6.setCell ⟨ob, 4, none⟩ (.slice p6 (m + 1) c6)) := ((Only.alloc _ _ _).trans (hg6.mono (fun i _ e => Nat.le_trans HBV.out (hobn _ e).2))).trans (hset.mono (fun i _ e => by have e' : i = ob := e; have := HBV.out; omega))
              have HU7 : Hid (UnpX (fun k => B ≤ k) (w6.setCell ⟨ob, 4, none⟩ (.slice p6 (m + 1) c6)) bu (.slice pb l2.length cb) l2 e2) := hide (HU2.out.turnB hall (fun i e => e) hbB)
              have HN7 : Hid (Only (· = bu) W (w6.setCell ⟨ob, 4, none⟩ (.slice p6 (m + 1) c6))) := hide (((HON.out.trans HX3.out).step hg6 (fun i e => .inr (Nat.le_trans HWV.out (hobn _ e).2))).step hset (fun i e => .inr (by have e' : i = ob := e; have := HWV.out; omega)))
              have HS7 : Hid (VB ≤ (w6.setCell ⟨ob, 4, none⟩ (.slice p6 (m + 1) c6)).heap.size) := hide (Nat.le_trans HVS.out (Nat.le_trans HX3.out.size (Nat.le_trans hg6.size hset.size)))
              have HL7 : Hid ((acc ++ [(⟨ea, eb⟩ : GE)]).length = m + 1) := hide (by rw [List.length_append, HAL.out]; rfl)
              clear o6 g6 hg6 hobn hb3 hb6 hr3 hr6 hset hall f0 f1 f2 f3 HX1 HX2 HX3 HO3 HU2
              refine hK _ _ ?_
              clear hK K
              refine wpAny_take (i := 9) (v := ?_) rfl (by kernel_rfl) (by kernel_rfl) (by kernel_rfl) (fun _ _ _ h => h) (Or.inl ⟨by rfl, ?_⟩) ?_
              case refine_2 => intro w; go_simp; try with_reducible rfl
              refine wpAny_ready (rs := [10]) (by kernel_rfl) (by simp) ?_
              refine AllReady.cons rfl (fun K hK => ?_) ?_
              rotate_left
              · exact AllReady.nil
              go_simp
              refine hK _ _ ?_
              clear hK K
              refine wpAny_done (by kernel_rfl) ?_ _
              go_wp2
              exact ⟨⟨i + 1, m + 1, acc ++ [⟨ea, eb⟩], l2, e2, p6, c6, pb, cb, by omega, by first | rfl | go_num | (congr 1; omega), by omega, HL7, HU7, HO7, HB7, HR7, HGN, HN7, HS7⟩, by simp [intOf]; omega⟩
            refine AllReady.cons rfl (fun K hK => ?_) ?_
            · go_simp
              refine hK _ _ ?_
              clear hK K
              refine wpAny_ready (rs := [1]) (by kernel_rfl) (by simp) ?_
              refine AllReady.cons rfl (fun K hK => ?_) ?_
              rotate_left
              · exact AllReady.nil
              go_simp
              refine hK _ _ ?_
              clear hK K
              refine wpAny_ready (rs := [8]) (by kernel_rfl) (by simp) ?_
              refine AllReady.cons rfl (fun K hK => ?_) ?_
              rotate_left
              · exact AllReady.nil
              have HX3 : Hid (Only (· = bu) wr (x2.alloc (.cells #[.int .i64 ea, .int .i64 eb] 40 (0, 0)))) := hide (HX2.out.trans (Only.alloc _ _ _))
              have HO3 : Hid ((x2.alloc (.cells #[.int .i64 ea, .int .i64 eb] 40 (0, 0))).ownsRow VB 40 2 (.slice p1 m c1) m (acc.flatMap GE.cells)) := hide (ownsRow_only HOW.out HX3.out (fun b hb e => by have e' : b = bu := e; have := own_block_base HOW.out hb; omega))
              refine step_append_cells rfl (.tmp 26) (.tmp 32) 36 rfl VB 40 i0 (.agg #[.int .i64 0, .int .i64 0]) 2 16 Try.underlying36 hI0 hz0 hz1 hz2 rfl (by decide) (.slice p1 m c1) m _ rfl HO3.out (.slice (some ⟨x2.heap.size, 0, none⟩) 1 1) 1 [.int .i64 ea, .int .i64 eb] rfl (Seg.news (heap_alloc_new x2 _) (by simp [Value.oneCell']) rfl (Nat.le_refl _) (by decide)) HK1.out HK2.out (Nat.le_trans HVS.out HX3.out.size) ?_
              intro p6 c6 w6 o6 g6
              have hg6 : Only (fun i => (Value.slice p1 m c1).ownBlock = some i) (x2.alloc (.cells #[.int .i64 ea, .int .i64 eb] 40 (0, 0))) w6 := Only.of_grown g6 (fun k e => e)
              have hobn : ∀ i, (Value.slice p1 m c1).ownBlock = some i → i ≠ ob ∧ VB ≤ i := fun i e => by
                obtain ⟨_, cur, h7⟩ := own_block_lt HOW.out e
                refine ⟨fun h => ?_, own_block_base HOW.out e⟩
                rw [h, HBX.out] at h7
                simp at h7
              have hb3 : (x2.alloc (.cells #[.int .i64 ea, .int .i64 eb] 40 (0, 0))).heap[ob]? = some (.cells #[.int .i64 kk, .int .i64 pp, .int .i64 ff, .int .i64 aa, .slice p1 m c1] 38 (0, 0)) := HX3.out.obj HBX.out (fun e => hne e.symm)
              have hb6 : w6.heap[ob]? = some (.cells #[.int .i64 kk, .int .i64 pp, .int .i64 ff, .int .i64 aa, .slice p1 m c1] 38 (0, 0)) := hg6.obj hb3 (fun e => (hobn _ e).1 rfl)
              have hr3 : (x2.alloc (.cells #[.int .i64 ea, .int .i64 eb] 40 (0, 0))).heap[rb]? = some (.cells #[.int .i64 0, .int .i64 0, .int .i64 0, .int .i64 0, .slice none 0 0] 38 (0, 0)) := HX3.out.obj HRX.out (fun e => hnr e.symm)
              have hr6 : w6.heap[rb]? = some (.cells #[.int .i64 0, .int .i64 0, .int .i64 0, .int .i64 0, .slice none 0 0] 38 (0, 0)) := hg6.obj hr3 (fun e => by
                obtain ⟨_, cur, h7⟩ := own_block_lt HO3.out e
                rw [hr3] at h7
                simp at h7)
              have f6 : w6.cell? ⟨ob, 4, none⟩ = some (.slice p1 m c1) := by simp [World.cell?, hb6]
              have f7 : w6.frozen? ⟨ob, 4, none⟩ = false := by simp [World.frozen?, hb6]
              have hset : Only (· = ob) w6 (w6.setCell ⟨ob, 4, none⟩ (.slice p6 (m + 1) c6)) := Only.set w6 ob 4 _ rfl
              have HB7 : Hid ((w6.setCell ⟨ob, 4, none⟩ (.slice p6 (m + 1) c6)).heap[ob]? = some (.cells #[.int .i64 kk, .int .i64 pp, .int .i64 ff, .int .i64 aa, .slice p6 (m + 1) c6] 38 (0, 0))) := hide (heap_setCell_same w6 ob 4 _ _ _ hb6)
              have HR7 : Hid ((w6.setCell ⟨ob, 4, none⟩ (.slice p6 (m + 1) c6)).heap[rb]? = some (.cells #[.int .i64 0, .int .i64 0, .int .i64 0, .int .i64 0, .slice none 0 0] 38 (0, 0))) := hide (hset.obj hr6 (fun e => hro e))
              have HO7 : Hid ((w6.setCell ⟨ob, 4, none⟩ (.slice p6 (m + 1) c6)).ownsRow VB 40 2 (.slice p6 (m + 1) c6) (m + 1) ((acc ++ [(⟨ea, eb⟩ : GE)]).flatMap GE.cells)) := by
                refine hide ?_
                rw [List.flatMap_append]
                refine ownsRow_only o6 hset (fun b hb e => ?_)
                have e' : b = ob := e
                obtain ⟨_, cur, h7⟩ := own_block_lt o6 hb
                rw [e', hb6] at h7
                simp at h7
              have hall : Only (fun i => B ≤ i) x2 (w6.setCell ⟨ob, 4, none⟩ (.slice p6 (m + 1) c6)) := ((Only.alloc _ _ _).trans (hg6.mono (fun i _ e => Nat.le_trans HBV.out (hobn _ e).2))).trans (hset.mono (fun i _ e => by have e' : i = ob := e; have := HBV.out; omega))
              have HU7 : Hid (UnpX (fun k => B ≤ k) (w6.setCell ⟨ob, 4, none⟩ (.slice p6 (m + 1) c6)) bu (.slice pb l2.length cb) l2 e2) := hide (HU2.out.turnB hall (fun i e => e) hbB)
              have HN7 : Hid (Only (· = bu) W (w6.setCell ⟨ob, 4, none⟩ (.slice p6 (m + 1) c6))) := hide (((HON.out.trans HX3.out).step hg6 (fun i e => .inr (Nat.le_trans HWV.out (hobn _ e).2))).step hset (fun i e => .inr (by have e' : i = ob := e; have := HWV.out; omega)))
              have HS7 : Hid (VB ≤ (w6.setCell ⟨ob, 4, none⟩ (.slice p6 (m + 1) c6)).heap.size) := hide (Nat.le_trans HVS.out (Nat.le_trans HX3.out.size (Nat.le_trans hg6.size hset.size)))
              have HL7 : Hid ((acc ++ [(⟨ea, eb⟩ : GE)]).length = m + 1) := hide (by rw [List.length_append, HAL.out]; rfl)
              clear o6 g6 hg6 hobn hb3 hb6 hr3 hr6 hset hall f0 f1 f2 f3 HX1 HX2 HX3 HO3 HU2
              refine hK _ _ ?_
              clear hK K
              refine wpAny_take (i := 9) (v := ?_) rfl (by kernel_rfl) (by kernel_rfl) (by kernel_rfl) (fun _ _ _ h => h) (Or.inl ⟨by rfl, ?_⟩) ?_
              case refine_2 => intro w; go_simp; try with_reducible rfl
              refine wpAny_ready (rs := [10]) (by kernel_rfl) (by simp) ?_
              refine AllReady.cons rfl (fun K hK => ?_) ?_
              rotate_left
              · exact AllReady.nil
              go_simp
              refine hK _ _ ?_
              clear hK K
              refine wpAny_done (by kernel_rfl) ?_ _
              go_wp2
              exact ⟨⟨i + 1, m + 1, acc ++ [⟨ea, eb⟩], l2, e2, p6, c6, pb, cb, by omega, by first | rfl | go_num | (congr 1; omega), by omega, HL7, HU7, HO7, HB7, HR7, HGN, HN7, HS7⟩, by simp [intOf]; omega⟩
            exact AllReady.nil
          exact AllReady.nil
        exact AllReady.nil
      · obtain ⟨rfl, rfl, rfl⟩ := HG.out.stop (.inr he)
        obtain ⟨q, hq⟩ : ∃ q, acc.length = q := ⟨_, rfl⟩
        obtain rfl : m = acc.length := HAL.out.symm
        have HER := hide (err_any HU.out)
        have d1 : decide (((n - i : Nat) : Int) > 0) = true := decide_eq_true (by omega)
        have ne1 := ne_eq he
        clear he
        have c0 : wr.cell? ⟨ob, 0, none⟩ = some (.int .i64 kk) := by simp [World.cell?, HBX.out]
        have c1' : wr.cell? ⟨ob, 1, none⟩ = some (.int .i64 pp) := by simp [World.cell?, HBX.out]
        have c2' : wr.cell? ⟨ob, 2, none⟩ = some (.int .i64 ff) := by simp [World.cell?, HBX.out]
        have c3' : wr.cell? ⟨ob, 3, none⟩ = some (.int .i64 aa) := by simp [World.cell?, HBX.out]
        have c4' : wr.cell? ⟨ob, 4, none⟩ = some (.slice p1 q c1) := by simp [World.cell?, HBX.out, hq]
        obtain ⟨f0, f1, f2, f3, f4, f5, f6, f7, f8, f9⟩ := op_facts HRX.out (.int .i64 kk) (.int .i64 pp) (.int .i64 ff) (.int .i64 aa)
        obtain ⟨WF, hWF⟩ : ∃ WF, WF = (((((wr.setCell ⟨rb, 0, none⟩ (.int .i64 kk)).setCell ⟨rb, 1, none⟩ (.int .i64 pp)).setCell ⟨rb, 2, none⟩ (.int .i64 ff)).setCell ⟨rb, 3, none⟩ (.int .i64 aa)).setCell ⟨rb, 4, none⟩ (.slice p1 q c1)) := ⟨_, rfl⟩
        have hset : Only (· = rb) wr WF := by rw [hWF]; exact only_set5 wr rb _ _ _ _ _
        have HE : Hid (WF.heap[rb]? = some (.cells #[.int .i64 kk, .int .i64 pp, .int .i64 ff, .int .i64 aa, .slice p1 q c1] 38 (0, 0))) := by rw [hWF]; exact hide (set5 HRX.out _ _ _ _ _)
        have HUF : Hid (UnpX (fun k => B ≤ k) WF bu (.slice pw l.length cw) l e) := hide (HU.out.turnB hset (fun i e => by have e' : i = rb := e; have := HGB.out; omega) hbB)
        have HNF : Hid (Only (· = bu) W WF) := hide (HON.out.step hset (fun i e => .inr (by have e' : i = rb := e; have := HGB.out; omega)))
        have HOF : Hid (WF.ownsRow W.heap.size 40 2 (.slice p1 q c1) q (acc.flatMap GE.cells)) := by
          refine hide (ownsRow_base (ownsRow_only (by rw [← hq]; exact HOW.out) hset (fun b hb e => ?_)) HWV.out)
          have e' : b = rb := e
          obtain ⟨_, cur, h7⟩ := own_block_lt HOW.out (by rw [← hq] at hb; exact hb)
          rw [e', HRX.out] at h7
          simp at h7
        have HQ := hide hq
        have HWF := hide hWF
        clear hset HU HON HOW HBX HRX hWF HG hq
        go_wp2_with fail
        refine HER.out.mono ?_
        rintro _ wy ⟨rfl, rfl⟩
        go_wp2
        rw [← HWF.out]
        refine bodyPost_ret (results_cell_row rfl _ _ rb 38 _ _ _ rfl HE.out Try.underlying38 rfl (by kernel_rfl)) rfl ?_
        refine ⟨p1, c1, ?_, ?_, HNF.out, pw, cw, HUF.out⟩
        · simp only [OV.val]; rw [HQ.out]
        · rw [HQ.out]; exact HOF.out
    · obtain ⟨rfl, rfl, rfl⟩ := HG.out.stop (.inl (by omega))
      obtain ⟨q, hq⟩ : ∃ q, acc.length = q := ⟨_, rfl⟩
      obtain rfl : m = acc.length := HAL.out.symm
      have d1 : decide (((n - i : Nat) : Int) > 0) = false := decide_eq_false (by omega)
      have c0 : wr.cell? ⟨ob, 0, none⟩ = some (.int .i64 kk) := by simp [World.cell?, HBX.out]
      have c1' : wr.cell? ⟨ob, 1, none⟩ = some (.int .i64 pp) := by simp [World.cell?, HBX.out]
      have c2' : wr.cell? ⟨ob, 2, none⟩ = some (.int .i64 ff) := by simp [World.cell?, HBX.out]
      have c3' : wr.cell? ⟨ob, 3, none⟩ = some (.int .i64 aa) := by simp [World.cell?, HBX.out]
      have c4' : wr.cell? ⟨ob, 4, none⟩ = some (.slice p1 q c1) := by simp [World.cell?, HBX.out, hq]
      obtain ⟨f0, f1, f2, f3, f4, f5, f6, f7, f8, f9⟩ := op_facts HRX.out (.int .i64 kk) (.int .i64 pp) (.int .i64 ff) (.int .i64 aa)
      obtain ⟨WF, hWF⟩ : ∃ WF, WF = (((((wr.setCell ⟨rb, 0, none⟩ (.int .i64 kk)).setCell ⟨rb, 1, none⟩ (.int .i64 pp)).setCell ⟨rb, 2, none⟩ (.int .i64 ff)).setCell ⟨rb, 3, none⟩ (.int .i64 aa)).setCell ⟨rb, 4, none⟩ (.slice p1 q c1)) := ⟨_, rfl⟩
      have hset : Only (· = rb) wr WF := by rw [hWF]; exact only_set5 wr rb _ _ _ _ _
      have HE : Hid (WF.heap[rb]? = some (.cells #[.int .i64 kk, .int .i64 pp, .int .i64 ff, .int .i64 aa, .slice p1 q c1] 38 (0, 0))) := by rw [hWF]; exact hide (set5 HRX.out _ _ _ _ _)
      have HUF : Hid (UnpX (fun k => B ≤ k) WF bu (.slice pw l.length cw) l e) := hide (HU.out.turnB hset (fun i e => by have e' : i = rb := e; have := HGB.out; omega) hbB)
      have HNF : Hid (Only (· = bu) W WF) := hide (HON.out.step hset (fun i e => .inr (by have e' : i = rb := e; have := HGB.out; omega)))
      have HOF : Hid (WF.ownsRow W.heap.size 40 2 (.slice p1 q c1) q (acc.flatMap GE.cells)) := by
        refine hide (ownsRow_base (ownsRow_only (by rw [← hq]; exact HOW.out) hset (fun b hb e => ?_)) HWV.out)
        have e' : b = rb := e
        obtain ⟨_, cur, h7⟩ := own_block_lt HOW.out (by rw [← hq] at hb; exact hb)
        rw [e', HRX.out] at h7
        simp at h7
      have HQ := hide hq
      have HWF := hide hWF
      clear hset HU HON HOW HBX HRX hWF HG hq
      go_wp2
      rw [← HWF.out]
      refine bodyPost_ret (results_cell_row rfl _ _ rb 38 _ _ _ rfl HE.out Try.underlying38 rfl (by kernel_rfl)) rfl ?_
      refine ⟨p1, c1, ?_, ?_, HNF.out, pw, cw, HUF.out⟩
      · simp only [OV.val]; rw [HQ.out]
      · rw [HQ.out]; exact HOF.out
end Go.Proofs.Ytdngjpbefcbodaa
