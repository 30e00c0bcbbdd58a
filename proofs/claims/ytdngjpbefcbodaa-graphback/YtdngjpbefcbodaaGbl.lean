/-
  GraphBack: a graph is read back from its bytes, what any bytes say has these bytes, a clone is nobody else's. No condition.
-/
import Derived.Test.YtdngjpbefcbodaaGas
import Derived.Test.YtdngjpbefcbodaaGpa
import Derived.Test.YtdngjpbefcbodaaGby
import Derived.Test.YtdngjpbefcbodaaGrs
import Derived.Test.YtdngjpbefcbodaaGlv
namespace Go.Proofs.Ytdngjpbefcbodaa.graphBack
open Go.ChangeShapes Go.WideShapes Go.ChangeAt Go.RowKit

theorem weight_len {os : List GO} : os.length ≤ weightG os ∧ ∀ o ∈ os, o.ins.length ≤ weightG os := by
  unfold weightG
  induction os with
  | nil => simp
  | cons o os ih =>
    obtain ⟨h1, h2⟩ := ih
    simp only [List.map_cons, List.sum_cons, List.length_cons, GO.wt]
    refine ⟨by omega, fun x hx => ?_⟩
    rcases List.mem_cons.1 hx with rfl | hx
    · omega
    · have := h2 x hx; omega
/-- A clone's memory while it is written to: numbers stay numbers, and the lists of inputs stay where they are. -/
structure Cst (w : World) (lo hi : Nat) (p : Option Addr) (n : Nat) (xc : List OV) : Prop where
  op : ∀ i, i < n → ∃ g, p = some ⟨g, 0, none⟩ ∧ lo ≤ g ∧ g < hi ∧ (∃ v, w.cell? ⟨g, i * 5, none⟩ = some (.int .i64 v)) ∧ w.frozen? ⟨g, i * 5, none⟩ = false ∧ w.cell? ⟨g, i * 5 + 4, none⟩ = some (.slice (xc[i]!).ip (xc[i]!).o.ins.length (xc[i]!).ic)
  ed : ∀ i, i < n → ∀ j, j < (xc[i]!).o.ins.length → ∃ e o, (xc[i]!).ip = some ⟨e, o, none⟩ ∧ lo ≤ e ∧ e < hi ∧ p ≠ some ⟨e, 0, none⟩ ∧ (∃ v, w.cell? ⟨e, o + j * 2 + 1, none⟩ = some (.int .i64 v)) ∧ w.frozen? ⟨e, o + j * 2 + 1, none⟩ = false
  cap : ∀ i, i < n → (xc[i]!).o.ins.length ≤ (xc[i]!).ic ∧ (xc[i]!).ic ≤ 9223372036854775807
theorem int_set {w : World} {a b : Addr} {x : Int} (h : ∃ v, w.cell? a = some (.int .i64 v)) : ∃ v, (w.setCell b (.int .i64 x)).cell? a = some (.int .i64 v) := by
  obtain ⟨v, hv⟩ := h
  by_cases e : b = a
  · subst e
    exact ⟨x, World.cell?_setCell_same _ _ _ hv⟩
  · exact ⟨v, by rw [World.cell?_setCell_other _ _ _ _ e]; exact hv⟩
theorem Cst.below {w w' : World} {lo hi n : Nat} {p : Option Addr} {xc : List OV} (h : Cst w lo hi p n xc) (hz : hi ≤ w.heap.size) (hb : Below w.heap.size w w') : Cst w' lo hi p n xc := by
  refine ⟨fun i hi => ?_, fun i hi j hj => ?_, h.cap⟩
  · obtain ⟨g, h1, h2, h3, ⟨v, hv⟩, h4, h5⟩ := h.op i hi
    refine ⟨g, h1, h2, h3, ⟨v, cell_later hb hv⟩, ?_, cell_later hb h5⟩
    have h6 := hb.block g (by omega)
    simp only [World.frozen?] at h4 ⊢
    rw [h6]
    exact h4
  · obtain ⟨e, o, h1, h2, h3, h4, ⟨v, hv⟩, h5⟩ := h.ed i hi j hj
    refine ⟨e, o, h1, h2, h3, h4, ⟨v, cell_later hb hv⟩, ?_⟩
    have h6 := hb.block e (by omega)
    simp only [World.frozen?] at h5 ⊢
    rw [h6]
    exact h5
theorem Cst.setOp {w : World} {lo hi n k g : Nat} {xc : List OV} (h : Cst w lo hi (some ⟨g, 0, none⟩) n xc) (_ : k < n) (y : Int) : Cst (w.setCell ⟨g, k * 5, none⟩ (.int .i64 y)) lo hi (some ⟨g, 0, none⟩) n xc := by
  refine ⟨fun i hi => ?_, fun i hi j hj => ?_, h.cap⟩
  · obtain ⟨g', h1, h2, h3, hv, h4, h5⟩ := h.op i hi
    simp only [Option.some.injEq, Addr.mk.injEq, and_true] at h1
    subst h1
    refine ⟨g, rfl, h2, h3, int_set hv, by rw [World.frozen?_setCell]; exact h4, ?_⟩
    rw [World.cell?_setCell_other _ _ _ _ (by intro e; simp only [Addr.mk.injEq] at e; omega)]
    exact h5
  · obtain ⟨e, o, h1, h2, h3, h4, hv, h5⟩ := h.ed i hi j hj
    exact ⟨e, o, h1, h2, h3, h4, int_set hv, by rw [World.frozen?_setCell]; exact h5⟩
theorem Cst.setEd {w : World} {lo hi n g e o : Nat} {v : Int} {xc : List OV} (h : Cst w lo hi (some ⟨g, 0, none⟩) n xc) (hne : g ≠ e) (_ : w.cell? ⟨e, o, none⟩ = some (.int .i64 v)) (y : Int) : Cst (w.setCell ⟨e, o, none⟩ (.int .i64 y)) lo hi (some ⟨g, 0, none⟩) n xc := by
  refine ⟨fun i hi => ?_, fun i hi j hj => ?_, h.cap⟩
  · obtain ⟨g', h1, h2, h3, hv, h4, h5⟩ := h.op i hi
    simp only [Option.some.injEq, Addr.mk.injEq, and_true] at h1
    subst h1
    refine ⟨g, rfl, h2, h3, int_set hv, by rw [World.frozen?_setCell]; exact h4, ?_⟩
    rw [World.cell?_setCell_other _ _ _ _ (by intro q; simp only [Addr.mk.injEq] at q; omega)]
    exact h5
  · obtain ⟨e', o', h1, h2, h3, h4, hv, h5⟩ := h.ed i hi j hj
    exact ⟨e', o', h1, h2, h3, h4, int_set hv, by rw [World.frozen?_setCell]; exact h5⟩
theorem Cst.of_own {w : World} {lo n cap : Nat} {p : Option Addr} {xc : List OV} (hl : xc.length = n) (h : GOwn w lo p cap xc) : Cst w lo w.heap.size p n xc := by
  have hr := h.row
  have hown := h.own
  refine ⟨fun i hi => ?_, fun i hi j hj => ?_, fun i hi => ?_⟩
  · obtain ⟨g, o, hp, hc⟩ := hr.cell i (by omega)
    subst hp
    obtain rfl : o = 0 := by
      rcases hown.2 with ⟨e, _⟩ | ⟨g', cap', cur, e, _⟩
      · simp at e
      · simp at e; exact e.1.2
    have hlt := own_block_lt hown (b := g) rfl
    refine ⟨g, rfl, own_block_base hown rfl, hlt.1, ⟨_, by have h0 := hc 0 (by decide); rw [Nat.zero_add, Nat.add_zero] at h0; exact h0⟩, hown.frozenAt _, ?_⟩
    have h4 := hc 4 (by decide)
    rw [Nat.zero_add] at h4
    exact h4
  · have hm : xc[i]! ∈ xc := by rw [getElem!_pos xc i (by omega)]; exact List.getElem_mem _
    have hin := h.ins _ hm
    obtain ⟨e, o, hip, _, hc⟩ := (hr.ok _ hm).cell j hj
    have hin2 := hin
    rw [hip] at hin2
    obtain rfl : o = 0 := by
      rcases hin2.2 with ⟨e, _⟩ | ⟨g', cap', cur, e, _⟩
      · simp at e
      · simp at e; exact e.1.2
    have hlt := own_block_lt hin2 (b := e) rfl
    refine ⟨e, 0, hip, own_block_base hin2 rfl, hlt.1, fun hp => ?_, ⟨_, hc⟩, hin2.frozenAt _⟩
    have ho2 := hown
    rw [hp] at ho2
    obtain ⟨_, cur, q1⟩ := own_block_lt ho2 (b := e) rfl
    obtain ⟨_, cur2, q2⟩ := hlt
    rw [q1] at q2
    simp at q2
  · have hm : xc[i]! ∈ xc := by rw [getElem!_pos xc i (by omega)]; exact List.getElem_mem _
    exact ⟨(hr.ok _ hm).le, (hr.ok _ hm).top⟩

set_option maxRecDepth 100000 in
set_option maxHeartbeats 16000000 in
theorem walk {W : World} {parts : Int} {p : Option Addr} {cap : Nat} {os : List OV} {vb : Value} {b : List Int} (hp : I6 parts) (ho : GRow W p cap os) (hf : ∀ o ∈ os, o.o.fine) (hw : os.length * 56 ≤ 140737488351232) (hwi : ∀ x ∈ os, x.o.ins.length * 16 ≤ 140737488351232) (hb : Row .u8 W vb b) (hu : U8 b) (hs : b.length ≤ 140737488351232) :
    Calls Try.prog 4 #[.agg #[.int .i64 parts, .slice p os.length cap], vb] W fun e w' => e = .returned (.bool true) ∧ Below W.heap.size W w' := by
  obtain ⟨n, hn⟩ : ∃ n, os.length = n := ⟨_, rfl⟩
  obtain ⟨bs, rc, hbs⟩ : ∃ bs rc, bytesG parts (os.map OV.o) = (bs, rc) := ⟨_, _, rfl⟩
  obtain ⟨rp, ros, ec, hpg⟩ : ∃ a c d, parseG b = (a, c, d) := ⟨_, _, _, rfl⟩
  rw [hn]
  have hcl1 : n * 56 ≤ 140737488355328 := by rw [hn] at hw; omega
  have hcl2 : ∀ x ∈ os, x.o.ins.length * 16 ≤ 140737488355328 := fun x hx => by have := hwi x hx; omega
  obtain ⟨V, hV⟩ : ∃ V, V = W.alloc (.cells #[.int .i64 parts, .slice p n cap] 24 (0, 0)) := ⟨_, rfl⟩
  have hb1 : Below W.heap.size W V := by rw [hV]; exact alloc_below _ _
  have u1 : V.heap[W.heap.size]? = some (.cells #[.int .i64 parts, .slice p n cap] 24 (0, 0)) := by rw [hV]; exact heap_alloc_new W _
  obtain ⟨A0, hA0⟩ : ∃ A0, W.heap.size = A0 := ⟨_, rfl⟩
  rw [hA0] at u1
  have HA0 : Hid (A0 < V.heap.size) := hide ((Array.getElem?_eq_some_iff.1 u1).1)
  have z0 : V.cell? ⟨A0, 0, none⟩ = some (.int .i64 parts) := by simp [World.cell?, u1]
  have z1 : V.cell? ⟨A0, 1, none⟩ = some (.slice p n cap) := by simp [World.cell?, u1]
  have HVB := hide hb1
  have HG := hide (ho.below hb1)
  have HR := hide (hb.below hb1)
  have HN := hide hn
  have HF := hide hf
  have HBS := hide hbs
  have HPG := hide hpg
  have HU := hide hu
  have HCL1 := hide hcl1
  have HCL2 := hide hcl2
  obtain ⟨pb, cb, rfl, j1, j2, _, _⟩ := id hb
  clear ho hb hb1 u1 hn hf hbs hpg hu hw hwi hcl1 hcl2
  go_enter Try.func4, Try.ntmps4
  go_wp2_with fail
  rw [← hV]
  try rw [hA0]
  clear hV hA0
  refine live_any.mono ?_
  rintro _ w1 ⟨rfl, b1⟩
  have a0 := cell_later b1 z0
  have a1 := cell_later b1 z1
  have HB1 := hide b1
  have HC := hide (bytes_any (parts := parts) hp (HG.out.below b1) HN.out HF.out HBS.out)
  clear b1
  go_wp2_with fail
  refine HC.out.mono ?_
  rintro _ w2 ⟨px, cx, NX, rfl, hNX, OX, b2⟩
  have HB2 := hide (HB1.out.trans (b2.mono HB1.out.size))
  clear HC a0 a1 b2 HB1
  by_cases hrc : rc = 0
  · subst hrc
    have hbs0 := HBS.out
    have hck : (checkC parts (os.map OV.o)).2 = 0 := by
      apply Classical.byContradiction
      intro h
      unfold bytesG at hbs0
      rw [if_neg h] at hbs0
      simp only [Prod.mk.injEq] at hbs0
      exact h hbs0.2
    have hbs1 : bs = forms (numsG parts (os.map OV.o)) := by
      unfold bytesG at hbs0
      rw [if_pos hck] at hbs0
      simp only [Prod.mk.injEq] at hbs0
      exact hbs0.1.symm
    have hth := parse_there hp (fun o ho => by obtain ⟨x, hx, rfl⟩ := List.mem_map.1 ho; exact HF.out x hx) hck
    rw [← hbs1] at hth
    have hlen : bs.length ≤ 140737488355328 := by
      have h24 := check_small hck
      have h1 := numsG_bd hp (fun o ho => by obtain ⟨x, hx, rfl⟩ := List.mem_map.1 ho; exact HF.out x hx) h24.2 h24.1
      have h2 := forms_len _ h1
      have h3 := numsOs_len (os.map OV.o) h24.2
      rw [hbs1]
      unfold numsG at h2 ⊢
      rw [List.length_append] at h2
      simp only [List.length_cons, List.length_nil] at h2
      omega
    have HC := hide (parse_any (own_row OX) (by rw [hbs1]; exact forms_bd _) hlen hth)
    clear hbs0 hck hbs1 hth hlen OX hNX
    go_wp2_with fail
    refine HC.out.mono ?_
    rintro _ w3 ⟨pQ, cQ, xQ, NQ, rfl, hNQ, hxQ, GQ, b3⟩
    have b4 := alloc_below w3 (.cells #[.int .i64 parts, .slice pQ NQ cQ] 24 (0, 0))
    have v4 : (w3.alloc (.cells #[.int .i64 parts, .slice pQ NQ cQ] 24 (0, 0))).heap[w3.heap.size]? = some (.cells #[.int .i64 parts, .slice pQ NQ cQ] 24 (0, 0)) := heap_alloc_new w3 _
    obtain ⟨w4, hw4⟩ : ∃ w4, w4 = w3.alloc (.cells #[.int .i64 parts, .slice pQ NQ cQ] 24 (0, 0)) := ⟨_, rfl⟩
    rw [← hw4] at b4 v4
    have b34 := b3.trans (b4.mono b3.size)
    have HB4 := hide (HB2.out.trans (b34.mono HB2.out.size))
    have HS := hide (rsame_any (pa := parts) (pb := parts) (GQ.row.below b4) (HG.out.below HB4.out) hNQ HN.out (rb := true) (decide_eq_true ⟨rfl, hxQ⟩))
    obtain ⟨QB, hQB⟩ : ∃ QB, w3.heap.size = QB := ⟨_, rfl⟩
    rw [hQB] at v4
    have t0 : w4.cell? ⟨QB, 0, none⟩ = some (.int .i64 parts) := by simp [World.cell?, v4]
    have t1 : w4.cell? ⟨QB, 1, none⟩ = some (.slice pQ NQ cQ) := by simp [World.cell?, v4]
    have m0 := cell_later HB4.out z0
    have m1 := cell_later HB4.out z1
    clear b3 b4 b34 v4 GQ hNQ hxQ HC HB2
    go_upto_region 6 with fail
    rw [← hw4]
    try rw [hQB]
    clear hw4 hQB
    go_wp2_with fail
    refine HS.out.mono ?_
    rintro _ wy ⟨rfl, b5⟩
    have HBY := hide (HB4.out.trans (b5.mono HB4.out.size))
    clear b5 HS HB4 t0 t1 m0 m1
    have HR1 := hide (HR.out.below HBY.out)
    have HC := hide (parse_any HR1.out HU.out (by omega) HPG.out)
    go_wp2_with fail
    refine HC.out.mono ?_
    rintro _ w6 ⟨pP, cP, xP, NP, rfl, hNP, hxP, GP, b6⟩
    have b7 := alloc_below w6 (.cells #[.int .i64 rp, .slice pP NP cP] 24 (0, 0))
    have v7 : (w6.alloc (.cells #[.int .i64 rp, .slice pP NP cP] 24 (0, 0))).heap[w6.heap.size]? = some (.cells #[.int .i64 rp, .slice pP NP cP] 24 (0, 0)) := heap_alloc_new w6 _
    obtain ⟨w7, hw7⟩ : ∃ w7, w7 = w6.alloc (.cells #[.int .i64 rp, .slice pP NP cP] 24 (0, 0)) := ⟨_, rfl⟩
    rw [← hw7] at b7 v7
    have b67 := b6.trans (b7.mono b6.size)
    have HB7 := hide (HBY.out.trans (b67.mono HBY.out.size))
    have HGP7 := hide (GP.row.below b7)
    obtain ⟨PB, hPB⟩ : ∃ PB, w6.heap.size = PB := ⟨_, rfl⟩
    rw [hPB] at v7
    have t0 : w7.cell? ⟨PB, 0, none⟩ = some (.int .i64 rp) := by simp [World.cell?, v7]
    have t1 : w7.cell? ⟨PB, 1, none⟩ = some (.slice pP NP cP) := by simp [World.cell?, v7]
    have HNP := hide hNP
    have HXP := hide hxP
    clear b6 b7 b67 v7 GP hNP hxP HC HR1
    by_cases hec : ec = 0
    · subst hec
      obtain ⟨hbk, hck, hi6, hfin⟩ := parse_back HU.out HPG.out
      have hbg : bytesG rp (xP.map OV.o) = (b, 0) := by rw [HXP.out]; unfold bytesG; rw [if_pos hck, ← hbk]
      have HC := hide (bytes_any (parts := rp) hi6 HGP7.out HNP.out (fun x hx => hfin x.o (by rw [← HXP.out]; exact List.mem_map.2 ⟨x, hx, rfl⟩)) hbg)
      clear hbk hck hi6 hfin hbg
      go_upto_region 9 with fail
      rw [← hw7]
      try rw [hPB]
      clear hw7 hPB
      go_wp2_with fail
      refine HC.out.mono ?_
      rintro _ wz ⟨px, cx, NX, rfl, hNX, OX, b8⟩
      have HBZ := hide (HB7.out.trans (b8.mono HB7.out.size))
      have HE := hide (equal_any (own_row OX) (HR.out.below HBZ.out) HU.out HU.out)
      rw [decide_eq_true (rfl : b = b)] at HE
      clear b8 OX hNX HC t0 t1
      go_wp2_with fail
      refine HE.out.mono ?_
      rintro _ x0 ⟨rfl, rfl⟩
      clear HE HB7
      rename World => wz
      have HG1 := hide (HG.out.below HBZ.out)
      have HC := hide (gclone_any (parts := parts) HG1.out HN.out HCL1.out HCL2.out)
      have m0 := cell_later HBZ.out z0
      have m1 := cell_later HBZ.out z1
      go_wp2_with fail
      refine HC.out.mono ?_
      rintro _ c1 ⟨pC, cC, xC, rfl, hxC, GC, b1⟩
      have hxl : xC.length = n := by have h9 := congrArg List.length hxC; rw [List.length_map, List.length_map, HN.out] at h9; exact h9
      obtain ⟨lo, hlo⟩ : ∃ lo, wz.heap.size = lo := ⟨_, rfl⟩
      obtain ⟨hi', hhi⟩ : ∃ hi', c1.heap.size = hi' := ⟨_, rfl⟩
      have HCS0 : Hid (Cst c1 lo hi' pC n xC) := hide (by rw [← hlo, ← hhi]; exact Cst.of_own hxl GC)
      have hccap : n ≤ cC ∧ cC ≤ 9223372036854775807 := by have h8 := GC.row.le; have h9 := GC.row.top; rw [hxl] at h8; exact ⟨h8, h9⟩
      have b2 := alloc_below c1 (.cells #[.int .i64 parts, .slice pC n cC] 24 (0, 0))
      have v2 : (c1.alloc (.cells #[.int .i64 parts, .slice pC n cC] 24 (0, 0))).heap[c1.heap.size]? = some (.cells #[.int .i64 parts, .slice pC n cC] 24 (0, 0)) := heap_alloc_new c1 _
      obtain ⟨c2, hc2⟩ : ∃ c2, c2 = c1.alloc (.cells #[.int .i64 parts, .slice pC n cC] 24 (0, 0)) := ⟨_, rfl⟩
      rw [← hc2] at b2 v2
      rw [hhi] at v2
      have b12 := b1.trans (b2.mono b1.size)
      have HB2 := hide (HBZ.out.trans (b12.mono HBZ.out.size))
      have e0 := cell_later HB2.out z0
      have e1 := cell_later HB2.out z1
      have e2 : c2.cell? ⟨hi', 0, none⟩ = some (.int .i64 parts) := by simp [World.cell?, v2]
      have e3 : c2.cell? ⟨hi', 1, none⟩ = some (.slice pC n cC) := by simp [World.cell?, v2]
      have HCS2 := hide (HCS0.out.below (Nat.le_of_eq hhi.symm) b2)
      have HS := hide (rsame_any (pa := parts) (pb := parts) (GC.row.below b2) (HG.out.below HB2.out) hxl HN.out (rb := true) (decide_eq_true ⟨rfl, hxC⟩))
      have HLO := hide hlo
      have HHI := hide hhi
      have HSZ2 : Hid (hi' ≤ c2.heap.size) := hide (by rw [← hhi]; exact b2.size)
      have HLH : Hid (lo ≤ hi') := hide (by rw [← hlo, ← hhi]; exact b1.size)
      have HZ2 : Hid (Below lo wz c2) := hide (by rw [← hlo]; exact b12)
      clear b1 b2 b12 v2 GC hxC HC HCS0 m0 m1 HG1 hlo
      go_upto_region 14 with fail
      rw [← hc2]
      try rw [hhi]
      clear hc2 hhi
      go_wp2_with fail
      refine HS.out.mono ?_
      rintro _ c3 ⟨rfl, b3⟩
      have HB3 := hide (HB2.out.trans (b3.mono HB2.out.size))
      have HZ3 : Hid (Below lo wz c3) := hide (HZ2.out.trans (b3.mono (Nat.le_trans HLH.out HSZ2.out)))
      have HCS3 := hide (HCS2.out.below HSZ2.out b3)
      have HC := hide (gclone_any (parts := parts) (HG.out.below HB3.out) HN.out HCL1.out HCL2.out)
      have e4 := cell_later b3 e2
      have e5 := cell_later b3 e3
      have m0 := cell_later HB3.out z0
      have m1 := cell_later HB3.out z1
      have HSZ3 : Hid (hi' ≤ c3.heap.size) := hide (Nat.le_trans HSZ2.out b3.size)
      clear b3 HS HCS2 HB2 HZ2 HSZ2 e0 e1 e2 e3
      go_wp2_with fail
      refine HC.out.mono ?_
      rintro _ c4 ⟨pD, cD, xD, rfl, hxD, GD, b4⟩
      have hxl2 : xD.length = n := by have h9 := congrArg List.length hxD; rw [List.length_map, List.length_map, HN.out] at h9; exact h9
      have b5 := alloc_below c4 (.cells #[.int .i64 parts, .slice pD n cD] 24 (0, 0))
      have v5 : (c4.alloc (.cells #[.int .i64 parts, .slice pD n cD] 24 (0, 0))).heap[c4.heap.size]? = some (.cells #[.int .i64 parts, .slice pD n cD] 24 (0, 0)) := heap_alloc_new c4 _
      obtain ⟨c5, hc5⟩ : ∃ c5, c5 = c4.alloc (.cells #[.int .i64 parts, .slice pD n cD] 24 (0, 0)) := ⟨_, rfl⟩
      rw [← hc5] at b5 v5
      have b45 := b4.trans (b5.mono b4.size)
      have HB5 := hide (HB3.out.trans (b45.mono HB3.out.size))
      have HZ5 : Hid (Below lo wz c5) := hide (HZ3.out.trans (b45.mono (Nat.le_trans HLH.out HSZ3.out)))
      have HCS5 := hide (HCS3.out.below HSZ3.out b45)
      have HSZ5 : Hid (hi' ≤ c5.heap.size) := hide (Nat.le_trans HSZ3.out b45.size)
      have e6 := cell_later b45 e4
      have e7 := cell_later b45 e5
      have HGD := hide (GD.below b5)
      obtain ⟨D0, hD0⟩ : ∃ D0, c4.heap.size = D0 := ⟨_, rfl⟩
      rw [hD0] at v5
      have f0 : c5.cell? ⟨D0, 0, none⟩ = some (.int .i64 parts) := by simp [World.cell?, v5]
      have f1 : c5.cell? ⟨D0, 1, none⟩ = some (.slice pD n cD) := by simp [World.cell?, v5]
      have hD0h : hi' ≤ D0 := by rw [← hD0]; exact Nat.le_trans HSZ3.out b4.size
      have k0 := cell_later HB5.out z0
      have k1 := cell_later HB5.out z1
      have HXL := hide hxl
      have HXL2 := hide hxl2
      have HXD := hide hxD
      have hA0lo : A0 < lo := by
        have h9 := HA0.out
        have h8 := HLO.out
        have h7 := HBZ.out.size
        omega
      clear b4 b5 b45 v5 GD hxD hxl hxl2 HC HCS3 HB3 HZ3 e4 e5 m0 m1
      go_upto_region 17 with fail
      rw [← hc5]
      try rw [hD0]
      clear hc5 hD0
      go_wp2_with fail
      go_loopw [70] (fun i wr => ∃ k : Nat, k ≤ n ∧ i = .int .i64 (k : Int) ∧ Hid (Cst wr lo hi' pC n xC) ∧ Hid (Only (fun i => lo ≤ i ∧ i < hi') c5 wr)) (fun i _ => n - (intOf i).toNat)
      case atStart => exact ⟨0, Nat.zero_le _, rfl, HCS5, hide (Only.refl _ _)⟩
      case round =>
        obtain ⟨k, hk, rfl, HCS, HO⟩ := hrel
        rename World => wr
        clear HCS5
        have g7 := HO.out.cell e7 (fun e => by have := e.2; simp only at this; omega)
        by_cases hlt : k < n
        · obtain ⟨g, rfl, hg1, hg2, ⟨v, hv⟩, hfz, hsl⟩ := HCS.out.op k hlt
          obtain ⟨hil, hit⟩ := HCS.out.cap k hlt
          obtain ⟨⟨xo, ip, ic⟩, hx⟩ : ∃ x, xC[k]! = x := ⟨_, rfl⟩
          obtain ⟨l, hl⟩ : ∃ l, xo.ins.length = l := ⟨_, rfl⟩
          rw [hx] at hsl hil hit
          simp only at hsl hil hit
          rw [hl] at hsl hil
          have hslot : ∀ y, (wr.setCell ⟨g, k * 5, none⟩ (.int .i64 y)).cell? ⟨g, k * 5 + 4, none⟩ = some (.slice ip l ic) := fun y => by
            rw [World.cell?_setCell_other _ _ _ _ (by intro h; simp only [Addr.mk.injEq] at h; omega)]
            exact hsl
          have hbox : ∀ y, (wr.setCell ⟨g, k * 5, none⟩ (.int .i64 y)).cell? ⟨hi', 1, none⟩ = some (.slice (some ⟨g, 0, none⟩) n cC) := fun y => by
            rw [World.cell?_setCell_other _ _ _ _ (by intro h; simp only [Addr.mk.injEq] at h; omega)]
            exact g7
          have HSET : Hid (∀ y, Cst (wr.setCell ⟨g, k * 5, none⟩ (.int .i64 y)) lo hi' (some ⟨g, 0, none⟩) n xC) := hide (fun y => HCS.out.setOp hlt y)
          have HOS : Hid (∀ y, Only (fun i => lo ≤ i ∧ i < hi') c5 (wr.setCell ⟨g, k * 5, none⟩ (.int .i64 y))) := hide (fun y => HO.out.trans (Only.set wr g (k * 5) _ ⟨hg1, hg2⟩))
          have HX := hide hx
          have HL := hide hl
          clear hx hl
          go_wp2_with fail
          go_loopw [89] (fun i wi => ∃ j : Nat, j ≤ l ∧ i = .int .i64 (j : Int) ∧ Hid (Cst wi lo hi' (some ⟨g, 0, none⟩) n xC) ∧ Hid (Only (fun i => lo ≤ i ∧ i < hi') c5 wi)) (fun i _ => l - (intOf i).toNat)
          case atStart => exact ⟨0, Nat.zero_le _, rfl, hide (HSET.out _), hide (HOS.out _)⟩
          case round =>
            obtain ⟨j, hj, rfl, HCI, HOI⟩ := hrel
            rename World => wi
            have g8 := HOI.out.cell e7 (fun e => by have := e.2; simp only at this; omega)
            by_cases hjt : j < l
            · obtain ⟨g', hg', _, _, _, _, hsl2⟩ := HCI.out.op k hlt
              simp only [Option.some.injEq, Addr.mk.injEq, and_true] at hg'
              subst hg'
              obtain ⟨ee, oo, hip, he1, he2, hne, ⟨v2, hv2⟩, hfz2⟩ := HCI.out.ed k hlt j (by rw [HX.out]; simp only; rw [HL.out]; exact hjt)
              rw [HX.out] at hsl2 hip
              simp only at hsl2 hip
              rw [HL.out] at hsl2
              subst hip
              have HSET2 : Hid (∀ y, Cst (wi.setCell ⟨ee, oo + j * 2 + 1, none⟩ (.int .i64 y)) lo hi' (some ⟨g, 0, none⟩) n xC) := hide (fun y => HCI.out.setEd (fun h => hne (by rw [h])) hv2 y)
              have HOS2 : Hid (∀ y, Only (fun i => lo ≤ i ∧ i < hi') c5 (wi.setCell ⟨ee, oo + j * 2 + 1, none⟩ (.int .i64 y))) := hide (fun y => HOI.out.trans (Only.set wi ee (oo + j * 2 + 1) _ ⟨he1, he2⟩))
              go_wp2
              exact ⟨⟨j + 1, by omega, by first | rfl | go_num, hide (HSET2.out _), hide (HOS2.out _)⟩, by simp [intOf]; omega⟩
            · obtain rfl : j = l := by omega
              go_wp2
              exact ⟨⟨k + 1, by omega, by first | rfl | go_num, HCI, HOI⟩, by simp [intOf]; omega⟩
        · obtain rfl : k = n := by omega
          have q0 := HO.out.cell k0 (fun e => by have := e.1; simp only at this; omega)
          have q1 := HO.out.cell k1 (fun e => by have := e.1; simp only at this; omega)
          have q2 := HO.out.cell f0 (fun e => by have := e.2; simp only at this; omega)
          have q3 := HO.out.cell f1 (fun e => by have := e.2; simp only at this; omega)
          have hbl : Below lo wz wr := HZ5.out.trans (HO.out.below (Nat.le_trans HLH.out HSZ5.out) (fun i e => e.1))
          have hbW : Below W.heap.size W wr := by
            have h1 := HVB.out.trans (HBZ.out.mono HVB.out.size)
            refine h1.trans (hbl.mono ?_)
            rw [← HLO.out]
            exact h1.size
          have hgr : GRow wr p cap os := by
            have h1 := HG.out.below HBZ.out
            have h2 : Below wz.heap.size wz wr := by rw [HLO.out]; exact hbl
            exact h1.below h2
          have hkeepD : ∀ {e s n : Nat} {v : Value} {ys : List Value}, c5.ownsRow c3.heap.size e s v n ys → wr.ownsRow c3.heap.size e s v n ys := fun h => ownsRow_only h HO.out (fun g hg e => by have h8 := own_block_base h hg; have h9 := HSZ3.out; have := e.2; omega)
          have hgd : GOwn wr c3.heap.size pD cD xD := ⟨hkeepD HGD.out.own, fun x hx => hkeepD (HGD.out.ins x hx)⟩
          have HS := hide (rsame_any (pa := parts) (pb := parts) hgd.row hgr HXL2.out HN.out (rb := true) (decide_eq_true ⟨rfl, HXD.out⟩))
          have HBW := hide hbW
          clear hbl hbW hgr hkeepD hgd
          go_wp2_with fail
          refine HS.out.mono ?_
          rintro _ cf ⟨rfl, bf⟩
          have HBF := hide (HBW.out.trans (bf.mono HBW.out.size))
          clear bf
          go_wp2
          go_ret
          exact ⟨rfl, HBF.out⟩
    · have ne2 : (ec == 0) = false := by simpa using hec
      have HBZ := HB7
      clear hec t0 t1
      go_upto_region 9 with fail
      rw [← hw7]
      try rw [hPB]
      clear hw7 hPB HB7
      obtain ⟨wz, hwz⟩ : ∃ wz, w7 = wz := ⟨_, rfl⟩
      rw [hwz] at HBZ HGP7 ⊢
      clear hwz
      have HG1 := hide (HG.out.below HBZ.out)
      have HC := hide (gclone_any (parts := parts) HG1.out HN.out HCL1.out HCL2.out)
      have m0 := cell_later HBZ.out z0
      have m1 := cell_later HBZ.out z1
      go_wp2_with fail
      refine HC.out.mono ?_
      rintro _ c1 ⟨pC, cC, xC, rfl, hxC, GC, b1⟩
      have hxl : xC.length = n := by have h9 := congrArg List.length hxC; rw [List.length_map, List.length_map, HN.out] at h9; exact h9
      obtain ⟨lo, hlo⟩ : ∃ lo, wz.heap.size = lo := ⟨_, rfl⟩
      obtain ⟨hi', hhi⟩ : ∃ hi', c1.heap.size = hi' := ⟨_, rfl⟩
      have HCS0 : Hid (Cst c1 lo hi' pC n xC) := hide (by rw [← hlo, ← hhi]; exact Cst.of_own hxl GC)
      have hccap : n ≤ cC ∧ cC ≤ 9223372036854775807 := by have h8 := GC.row.le; have h9 := GC.row.top; rw [hxl] at h8; exact ⟨h8, h9⟩
      have b2 := alloc_below c1 (.cells #[.int .i64 parts, .slice pC n cC] 24 (0, 0))
      have v2 : (c1.alloc (.cells #[.int .i64 parts, .slice pC n cC] 24 (0, 0))).heap[c1.heap.size]? = some (.cells #[.int .i64 parts, .slice pC n cC] 24 (0, 0)) := heap_alloc_new c1 _
      obtain ⟨c2, hc2⟩ : ∃ c2, c2 = c1.alloc (.cells #[.int .i64 parts, .slice pC n cC] 24 (0, 0)) := ⟨_, rfl⟩
      rw [← hc2] at b2 v2
      rw [hhi] at v2
      have b12 := b1.trans (b2.mono b1.size)
      have HB2 := hide (HBZ.out.trans (b12.mono HBZ.out.size))
      have e0 := cell_later HB2.out z0
      have e1 := cell_later HB2.out z1
      have e2 : c2.cell? ⟨hi', 0, none⟩ = some (.int .i64 parts) := by simp [World.cell?, v2]
      have e3 : c2.cell? ⟨hi', 1, none⟩ = some (.slice pC n cC) := by simp [World.cell?, v2]
      have HCS2 := hide (HCS0.out.below (Nat.le_of_eq hhi.symm) b2)
      have HS := hide (rsame_any (pa := parts) (pb := parts) (GC.row.below b2) (HG.out.below HB2.out) hxl HN.out (rb := true) (decide_eq_true ⟨rfl, hxC⟩))
      have HLO := hide hlo
      have HHI := hide hhi
      have HSZ2 : Hid (hi' ≤ c2.heap.size) := hide (by rw [← hhi]; exact b2.size)
      have HLH : Hid (lo ≤ hi') := hide (by rw [← hlo, ← hhi]; exact b1.size)
      have HZ2 : Hid (Below lo wz c2) := hide (by rw [← hlo]; exact b12)
      clear b1 b2 b12 v2 GC hxC HC HCS0 m0 m1 HG1 hlo
      go_upto_region 14 with fail
      rw [← hc2]
      try rw [hhi]
      clear hc2 hhi
      go_wp2_with fail
      refine HS.out.mono ?_
      rintro _ c3 ⟨rfl, b3⟩
      have HB3 := hide (HB2.out.trans (b3.mono HB2.out.size))
      have HZ3 : Hid (Below lo wz c3) := hide (HZ2.out.trans (b3.mono (Nat.le_trans HLH.out HSZ2.out)))
      have HCS3 := hide (HCS2.out.below HSZ2.out b3)
      have HC := hide (gclone_any (parts := parts) (HG.out.below HB3.out) HN.out HCL1.out HCL2.out)
      have e4 := cell_later b3 e2
      have e5 := cell_later b3 e3
      have m0 := cell_later HB3.out z0
      have m1 := cell_later HB3.out z1
      have HSZ3 : Hid (hi' ≤ c3.heap.size) := hide (Nat.le_trans HSZ2.out b3.size)
      clear b3 HS HCS2 HB2 HZ2 HSZ2 e0 e1 e2 e3
      go_wp2_with fail
      refine HC.out.mono ?_
      rintro _ c4 ⟨pD, cD, xD, rfl, hxD, GD, b4⟩
      have hxl2 : xD.length = n := by have h9 := congrArg List.length hxD; rw [List.length_map, List.length_map, HN.out] at h9; exact h9
      have b5 := alloc_below c4 (.cells #[.int .i64 parts, .slice pD n cD] 24 (0, 0))
      have v5 : (c4.alloc (.cells #[.int .i64 parts, .slice pD n cD] 24 (0, 0))).heap[c4.heap.size]? = some (.cells #[.int .i64 parts, .slice pD n cD] 24 (0, 0)) := heap_alloc_new c4 _
      obtain ⟨c5, hc5⟩ : ∃ c5, c5 = c4.alloc (.cells #[.int .i64 parts, .slice pD n cD] 24 (0, 0)) := ⟨_, rfl⟩
      rw [← hc5] at b5 v5
      have b45 := b4.trans (b5.mono b4.size)
      have HB5 := hide (HB3.out.trans (b45.mono HB3.out.size))
      have HZ5 : Hid (Below lo wz c5) := hide (HZ3.out.trans (b45.mono (Nat.le_trans HLH.out HSZ3.out)))
      have HCS5 := hide (HCS3.out.below HSZ3.out b45)
      have HSZ5 : Hid (hi' ≤ c5.heap.size) := hide (Nat.le_trans HSZ3.out b45.size)
      have e6 := cell_later b45 e4
      have e7 := cell_later b45 e5
      have HGD := hide (GD.below b5)
      obtain ⟨D0, hD0⟩ : ∃ D0, c4.heap.size = D0 := ⟨_, rfl⟩
      rw [hD0] at v5
      have f0 : c5.cell? ⟨D0, 0, none⟩ = some (.int .i64 parts) := by simp [World.cell?, v5]
      have f1 : c5.cell? ⟨D0, 1, none⟩ = some (.slice pD n cD) := by simp [World.cell?, v5]
      have hD0h : hi' ≤ D0 := by rw [← hD0]; exact Nat.le_trans HSZ3.out b4.size
      have k0 := cell_later HB5.out z0
      have k1 := cell_later HB5.out z1
      have HXL := hide hxl
      have HXL2 := hide hxl2
      have HXD := hide hxD
      have hA0lo : A0 < lo := by
        have h9 := HA0.out
        have h8 := HLO.out
        have h7 := HBZ.out.size
        omega
      clear b4 b5 b45 v5 GD hxD hxl hxl2 HC HCS3 HB3 HZ3 e4 e5 m0 m1
      go_upto_region 17 with fail
      rw [← hc5]
      try rw [hD0]
      clear hc5 hD0
      go_wp2_with fail
      go_loopw [70] (fun i wr => ∃ k : Nat, k ≤ n ∧ i = .int .i64 (k : Int) ∧ Hid (Cst wr lo hi' pC n xC) ∧ Hid (Only (fun i => lo ≤ i ∧ i < hi') c5 wr)) (fun i _ => n - (intOf i).toNat)
      case atStart => exact ⟨0, Nat.zero_le _, rfl, HCS5, hide (Only.refl _ _)⟩
      case round =>
        obtain ⟨k, hk, rfl, HCS, HO⟩ := hrel
        rename World => wr
        clear HCS5
        have g7 := HO.out.cell e7 (fun e => by have := e.2; simp only at this; omega)
        by_cases hlt : k < n
        · obtain ⟨g, rfl, hg1, hg2, ⟨v, hv⟩, hfz, hsl⟩ := HCS.out.op k hlt
          obtain ⟨hil, hit⟩ := HCS.out.cap k hlt
          obtain ⟨⟨xo, ip, ic⟩, hx⟩ : ∃ x, xC[k]! = x := ⟨_, rfl⟩
          obtain ⟨l, hl⟩ : ∃ l, xo.ins.length = l := ⟨_, rfl⟩
          rw [hx] at hsl hil hit
          simp only at hsl hil hit
          rw [hl] at hsl hil
          have hslot : ∀ y, (wr.setCell ⟨g, k * 5, none⟩ (.int .i64 y)).cell? ⟨g, k * 5 + 4, none⟩ = some (.slice ip l ic) := fun y => by
            rw [World.cell?_setCell_other _ _ _ _ (by intro h; simp only [Addr.mk.injEq] at h; omega)]
            exact hsl
          have hbox : ∀ y, (wr.setCell ⟨g, k * 5, none⟩ (.int .i64 y)).cell? ⟨hi', 1, none⟩ = some (.slice (some ⟨g, 0, none⟩) n cC) := fun y => by
            rw [World.cell?_setCell_other _ _ _ _ (by intro h; simp only [Addr.mk.injEq] at h; omega)]
            exact g7
          have HSET : Hid (∀ y, Cst (wr.setCell ⟨g, k * 5, none⟩ (.int .i64 y)) lo hi' (some ⟨g, 0, none⟩) n xC) := hide (fun y => HCS.out.setOp hlt y)
          have HOS : Hid (∀ y, Only (fun i => lo ≤ i ∧ i < hi') c5 (wr.setCell ⟨g, k * 5, none⟩ (.int .i64 y))) := hide (fun y => HO.out.trans (Only.set wr g (k * 5) _ ⟨hg1, hg2⟩))
          have HX := hide hx
          have HL := hide hl
          clear hx hl
          go_wp2_with fail
          go_loopw [89] (fun i wi => ∃ j : Nat, j ≤ l ∧ i = .int .i64 (j : Int) ∧ Hid (Cst wi lo hi' (some ⟨g, 0, none⟩) n xC) ∧ Hid (Only (fun i => lo ≤ i ∧ i < hi') c5 wi)) (fun i _ => l - (intOf i).toNat)
          case atStart => exact ⟨0, Nat.zero_le _, rfl, hide (HSET.out _), hide (HOS.out _)⟩
          case round =>
            obtain ⟨j, hj, rfl, HCI, HOI⟩ := hrel
            rename World => wi
            have g8 := HOI.out.cell e7 (fun e => by have := e.2; simp only at this; omega)
            by_cases hjt : j < l
            · obtain ⟨g', hg', _, _, _, _, hsl2⟩ := HCI.out.op k hlt
              simp only [Option.some.injEq, Addr.mk.injEq, and_true] at hg'
              subst hg'
              obtain ⟨ee, oo, hip, he1, he2, hne, ⟨v2, hv2⟩, hfz2⟩ := HCI.out.ed k hlt j (by rw [HX.out]; simp only; rw [HL.out]; exact hjt)
              rw [HX.out] at hsl2 hip
              simp only at hsl2 hip
              rw [HL.out] at hsl2
              subst hip
              have HSET2 : Hid (∀ y, Cst (wi.setCell ⟨ee, oo + j * 2 + 1, none⟩ (.int .i64 y)) lo hi' (some ⟨g, 0, none⟩) n xC) := hide (fun y => HCI.out.setEd (fun h => hne (by rw [h])) hv2 y)
              have HOS2 : Hid (∀ y, Only (fun i => lo ≤ i ∧ i < hi') c5 (wi.setCell ⟨ee, oo + j * 2 + 1, none⟩ (.int .i64 y))) := hide (fun y => HOI.out.trans (Only.set wi ee (oo + j * 2 + 1) _ ⟨he1, he2⟩))
              go_wp2
              exact ⟨⟨j + 1, by omega, by first | rfl | go_num, hide (HSET2.out _), hide (HOS2.out _)⟩, by simp [intOf]; omega⟩
            · obtain rfl : j = l := by omega
              go_wp2
              exact ⟨⟨k + 1, by omega, by first | rfl | go_num, HCI, HOI⟩, by simp [intOf]; omega⟩
        · obtain rfl : k = n := by omega
          have q0 := HO.out.cell k0 (fun e => by have := e.1; simp only at this; omega)
          have q1 := HO.out.cell k1 (fun e => by have := e.1; simp only at this; omega)
          have q2 := HO.out.cell f0 (fun e => by have := e.2; simp only at this; omega)
          have q3 := HO.out.cell f1 (fun e => by have := e.2; simp only at this; omega)
          have hbl : Below lo wz wr := HZ5.out.trans (HO.out.below (Nat.le_trans HLH.out HSZ5.out) (fun i e => e.1))
          have hbW : Below W.heap.size W wr := by
            have h1 := HVB.out.trans (HBZ.out.mono HVB.out.size)
            refine h1.trans (hbl.mono ?_)
            rw [← HLO.out]
            exact h1.size
          have hgr : GRow wr p cap os := by
            have h1 := HG.out.below HBZ.out
            have h2 : Below wz.heap.size wz wr := by rw [HLO.out]; exact hbl
            exact h1.below h2
          have hkeepD : ∀ {e s n : Nat} {v : Value} {ys : List Value}, c5.ownsRow c3.heap.size e s v n ys → wr.ownsRow c3.heap.size e s v n ys := fun h => ownsRow_only h HO.out (fun g hg e => by have h8 := own_block_base h hg; have h9 := HSZ3.out; have := e.2; omega)
          have hgd : GOwn wr c3.heap.size pD cD xD := ⟨hkeepD HGD.out.own, fun x hx => hkeepD (HGD.out.ins x hx)⟩
          have HS := hide (rsame_any (pa := parts) (pb := parts) hgd.row hgr HXL2.out HN.out (rb := true) (decide_eq_true ⟨rfl, HXD.out⟩))
          have HBW := hide hbW
          clear hbl hbW hgr hkeepD hgd
          go_wp2_with fail
          refine HS.out.mono ?_
          rintro _ cf ⟨rfl, bf⟩
          have HBF := hide (HBW.out.trans (bf.mono HBW.out.size))
          clear bf
          go_wp2
          go_ret
          exact ⟨rfl, HBF.out⟩
  · have ne1 : (rc == 0) = false := by simpa using hrc
    have HBY := HB2
    clear hrc OX hNX HB2
    have HR1 := hide (HR.out.below HBY.out)
    have HC := hide (parse_any HR1.out HU.out (by omega) HPG.out)
    go_wp2_with fail
    refine HC.out.mono ?_
    rintro _ w6 ⟨pP, cP, xP, NP, rfl, hNP, hxP, GP, b6⟩
    have b7 := alloc_below w6 (.cells #[.int .i64 rp, .slice pP NP cP] 24 (0, 0))
    have v7 : (w6.alloc (.cells #[.int .i64 rp, .slice pP NP cP] 24 (0, 0))).heap[w6.heap.size]? = some (.cells #[.int .i64 rp, .slice pP NP cP] 24 (0, 0)) := heap_alloc_new w6 _
    obtain ⟨w7, hw7⟩ : ∃ w7, w7 = w6.alloc (.cells #[.int .i64 rp, .slice pP NP cP] 24 (0, 0)) := ⟨_, rfl⟩
    rw [← hw7] at b7 v7
    have b67 := b6.trans (b7.mono b6.size)
    have HB7 := hide (HBY.out.trans (b67.mono HBY.out.size))
    have HGP7 := hide (GP.row.below b7)
    obtain ⟨PB, hPB⟩ : ∃ PB, w6.heap.size = PB := ⟨_, rfl⟩
    rw [hPB] at v7
    have t0 : w7.cell? ⟨PB, 0, none⟩ = some (.int .i64 rp) := by simp [World.cell?, v7]
    have t1 : w7.cell? ⟨PB, 1, none⟩ = some (.slice pP NP cP) := by simp [World.cell?, v7]
    have HNP := hide hNP
    have HXP := hide hxP
    clear b6 b7 b67 v7 GP hNP hxP HC HR1
    by_cases hec : ec = 0
    · subst hec
      obtain ⟨hbk, hck, hi6, hfin⟩ := parse_back HU.out HPG.out
      have hbg : bytesG rp (xP.map OV.o) = (b, 0) := by rw [HXP.out]; unfold bytesG; rw [if_pos hck, ← hbk]
      have HC := hide (bytes_any (parts := rp) hi6 HGP7.out HNP.out (fun x hx => hfin x.o (by rw [← HXP.out]; exact List.mem_map.2 ⟨x, hx, rfl⟩)) hbg)
      clear hbk hck hi6 hfin hbg
      go_upto_region 9 with fail
      rw [← hw7]
      try rw [hPB]
      clear hw7 hPB
      go_wp2_with fail
      refine HC.out.mono ?_
      rintro _ wz ⟨px, cx, NX, rfl, hNX, OX, b8⟩
      have HBZ := hide (HB7.out.trans (b8.mono HB7.out.size))
      have HE := hide (equal_any (own_row OX) (HR.out.below HBZ.out) HU.out HU.out)
      rw [decide_eq_true (rfl : b = b)] at HE
      clear b8 OX hNX HC t0 t1
      go_wp2_with fail
      refine HE.out.mono ?_
      rintro _ x0 ⟨rfl, rfl⟩
      clear HE HB7
      rename World => wz
      have HG1 := hide (HG.out.below HBZ.out)
      have HC := hide (gclone_any (parts := parts) HG1.out HN.out HCL1.out HCL2.out)
      have m0 := cell_later HBZ.out z0
      have m1 := cell_later HBZ.out z1
      go_wp2_with fail
      refine HC.out.mono ?_
      rintro _ c1 ⟨pC, cC, xC, rfl, hxC, GC, b1⟩
      have hxl : xC.length = n := by have h9 := congrArg List.length hxC; rw [List.length_map, List.length_map, HN.out] at h9; exact h9
      obtain ⟨lo, hlo⟩ : ∃ lo, wz.heap.size = lo := ⟨_, rfl⟩
      obtain ⟨hi', hhi⟩ : ∃ hi', c1.heap.size = hi' := ⟨_, rfl⟩
      have HCS0 : Hid (Cst c1 lo hi' pC n xC) := hide (by rw [← hlo, ← hhi]; exact Cst.of_own hxl GC)
      have hccap : n ≤ cC ∧ cC ≤ 9223372036854775807 := by have h8 := GC.row.le; have h9 := GC.row.top; rw [hxl] at h8; exact ⟨h8, h9⟩
      have b2 := alloc_below c1 (.cells #[.int .i64 parts, .slice pC n cC] 24 (0, 0))
      have v2 : (c1.alloc (.cells #[.int .i64 parts, .slice pC n cC] 24 (0, 0))).heap[c1.heap.size]? = some (.cells #[.int .i64 parts, .slice pC n cC] 24 (0, 0)) := heap_alloc_new c1 _
      obtain ⟨c2, hc2⟩ : ∃ c2, c2 = c1.alloc (.cells #[.int .i64 parts, .slice pC n cC] 24 (0, 0)) := ⟨_, rfl⟩
      rw [← hc2] at b2 v2
      rw [hhi] at v2
      have b12 := b1.trans (b2.mono b1.size)
      have HB2 := hide (HBZ.out.trans (b12.mono HBZ.out.size))
      have e0 := cell_later HB2.out z0
      have e1 := cell_later HB2.out z1
      have e2 : c2.cell? ⟨hi', 0, none⟩ = some (.int .i64 parts) := by simp [World.cell?, v2]
      have e3 : c2.cell? ⟨hi', 1, none⟩ = some (.slice pC n cC) := by simp [World.cell?, v2]
      have HCS2 := hide (HCS0.out.below (Nat.le_of_eq hhi.symm) b2)
      have HS := hide (rsame_any (pa := parts) (pb := parts) (GC.row.below b2) (HG.out.below HB2.out) hxl HN.out (rb := true) (decide_eq_true ⟨rfl, hxC⟩))
      have HLO := hide hlo
      have HHI := hide hhi
      have HSZ2 : Hid (hi' ≤ c2.heap.size) := hide (by rw [← hhi]; exact b2.size)
      have HLH : Hid (lo ≤ hi') := hide (by rw [← hlo, ← hhi]; exact b1.size)
      have HZ2 : Hid (Below lo wz c2) := hide (by rw [← hlo]; exact b12)
      clear b1 b2 b12 v2 GC hxC HC HCS0 m0 m1 HG1 hlo
      go_upto_region 14 with fail
      rw [← hc2]
      try rw [hhi]
      clear hc2 hhi
      go_wp2_with fail
      refine HS.out.mono ?_
      rintro _ c3 ⟨rfl, b3⟩
      have HB3 := hide (HB2.out.trans (b3.mono HB2.out.size))
      have HZ3 : Hid (Below lo wz c3) := hide (HZ2.out.trans (b3.mono (Nat.le_trans HLH.out HSZ2.out)))
      have HCS3 := hide (HCS2.out.below HSZ2.out b3)
      have HC := hide (gclone_any (parts := parts) (HG.out.below HB3.out) HN.out HCL1.out HCL2.out)
      have e4 := cell_later b3 e2
      have e5 := cell_later b3 e3
      have m0 := cell_later HB3.out z0
      have m1 := cell_later HB3.out z1
      have HSZ3 : Hid (hi' ≤ c3.heap.size) := hide (Nat.le_trans HSZ2.out b3.size)
      clear b3 HS HCS2 HB2 HZ2 HSZ2 e0 e1 e2 e3
      go_wp2_with fail
      refine HC.out.mono ?_
      rintro _ c4 ⟨pD, cD, xD, rfl, hxD, GD, b4⟩
      have hxl2 : xD.length = n := by have h9 := congrArg List.length hxD; rw [List.length_map, List.length_map, HN.out] at h9; exact h9
      have b5 := alloc_below c4 (.cells #[.int .i64 parts, .slice pD n cD] 24 (0, 0))
      have v5 : (c4.alloc (.cells #[.int .i64 parts, .slice pD n cD] 24 (0, 0))).heap[c4.heap.size]? = some (.cells #[.int .i64 parts, .slice pD n cD] 24 (0, 0)) := heap_alloc_new c4 _
      obtain ⟨c5, hc5⟩ : ∃ c5, c5 = c4.alloc (.cells #[.int .i64 parts, .slice pD n cD] 24 (0, 0)) := ⟨_, rfl⟩
      rw [← hc5] at b5 v5
      have b45 := b4.trans (b5.mono b4.size)
      have HB5 := hide (HB3.out.trans (b45.mono HB3.out.size))
      have HZ5 : Hid (Below lo wz c5) := hide (HZ3.out.trans (b45.mono (Nat.le_trans HLH.out HSZ3.out)))
      have HCS5 := hide (HCS3.out.below HSZ3.out b45)
      have HSZ5 : Hid (hi' ≤ c5.heap.size) := hide (Nat.le_trans HSZ3.out b45.size)
      have e6 := cell_later b45 e4
      have e7 := cell_later b45 e5
      have HGD := hide (GD.below b5)
      obtain ⟨D0, hD0⟩ : ∃ D0, c4.heap.size = D0 := ⟨_, rfl⟩
      rw [hD0] at v5
      have f0 : c5.cell? ⟨D0, 0, none⟩ = some (.int .i64 parts) := by simp [World.cell?, v5]
      have f1 : c5.cell? ⟨D0, 1, none⟩ = some (.slice pD n cD) := by simp [World.cell?, v5]
      have hD0h : hi' ≤ D0 := by rw [← hD0]; exact Nat.le_trans HSZ3.out b4.size
      have k0 := cell_later HB5.out z0
      have k1 := cell_later HB5.out z1
      have HXL := hide hxl
      have HXL2 := hide hxl2
      have HXD := hide hxD
      have hA0lo : A0 < lo := by
        have h9 := HA0.out
        have h8 := HLO.out
        have h7 := HBZ.out.size
        omega
      clear b4 b5 b45 v5 GD hxD hxl hxl2 HC HCS3 HB3 HZ3 e4 e5 m0 m1
      go_upto_region 17 with fail
      rw [← hc5]
      try rw [hD0]
      clear hc5 hD0
      go_wp2_with fail
      go_loopw [70] (fun i wr => ∃ k : Nat, k ≤ n ∧ i = .int .i64 (k : Int) ∧ Hid (Cst wr lo hi' pC n xC) ∧ Hid (Only (fun i => lo ≤ i ∧ i < hi') c5 wr)) (fun i _ => n - (intOf i).toNat)
      case atStart => exact ⟨0, Nat.zero_le _, rfl, HCS5, hide (Only.refl _ _)⟩
      case round =>
        obtain ⟨k, hk, rfl, HCS, HO⟩ := hrel
        rename World => wr
        clear HCS5
        have g7 := HO.out.cell e7 (fun e => by have := e.2; simp only at this; omega)
        by_cases hlt : k < n
        · obtain ⟨g, rfl, hg1, hg2, ⟨v, hv⟩, hfz, hsl⟩ := HCS.out.op k hlt
          obtain ⟨hil, hit⟩ := HCS.out.cap k hlt
          obtain ⟨⟨xo, ip, ic⟩, hx⟩ : ∃ x, xC[k]! = x := ⟨_, rfl⟩
          obtain ⟨l, hl⟩ : ∃ l, xo.ins.length = l := ⟨_, rfl⟩
          rw [hx] at hsl hil hit
          simp only at hsl hil hit
          rw [hl] at hsl hil
          have hslot : ∀ y, (wr.setCell ⟨g, k * 5, none⟩ (.int .i64 y)).cell? ⟨g, k * 5 + 4, none⟩ = some (.slice ip l ic) := fun y => by
            rw [World.cell?_setCell_other _ _ _ _ (by intro h; simp only [Addr.mk.injEq] at h; omega)]
            exact hsl
          have hbox : ∀ y, (wr.setCell ⟨g, k * 5, none⟩ (.int .i64 y)).cell? ⟨hi', 1, none⟩ = some (.slice (some ⟨g, 0, none⟩) n cC) := fun y => by
            rw [World.cell?_setCell_other _ _ _ _ (by intro h; simp only [Addr.mk.injEq] at h; omega)]
            exact g7
          have HSET : Hid (∀ y, Cst (wr.setCell ⟨g, k * 5, none⟩ (.int .i64 y)) lo hi' (some ⟨g, 0, none⟩) n xC) := hide (fun y => HCS.out.setOp hlt y)
          have HOS : Hid (∀ y, Only (fun i => lo ≤ i ∧ i < hi') c5 (wr.setCell ⟨g, k * 5, none⟩ (.int .i64 y))) := hide (fun y => HO.out.trans (Only.set wr g (k * 5) _ ⟨hg1, hg2⟩))
          have HX := hide hx
          have HL := hide hl
          clear hx hl
          go_wp2_with fail
          go_loopw [89] (fun i wi => ∃ j : Nat, j ≤ l ∧ i = .int .i64 (j : Int) ∧ Hid (Cst wi lo hi' (some ⟨g, 0, none⟩) n xC) ∧ Hid (Only (fun i => lo ≤ i ∧ i < hi') c5 wi)) (fun i _ => l - (intOf i).toNat)
          case atStart => exact ⟨0, Nat.zero_le _, rfl, hide (HSET.out _), hide (HOS.out _)⟩
          case round =>
            obtain ⟨j, hj, rfl, HCI, HOI⟩ := hrel
            rename World => wi
            have g8 := HOI.out.cell e7 (fun e => by have := e.2; simp only at this; omega)
            by_cases hjt : j < l
            · obtain ⟨g', hg', _, _, _, _, hsl2⟩ := HCI.out.op k hlt
              simp only [Option.some.injEq, Addr.mk.injEq, and_true] at hg'
              subst hg'
              obtain ⟨ee, oo, hip, he1, he2, hne, ⟨v2, hv2⟩, hfz2⟩ := HCI.out.ed k hlt j (by rw [HX.out]; simp only; rw [HL.out]; exact hjt)
              rw [HX.out] at hsl2 hip
              simp only at hsl2 hip
              rw [HL.out] at hsl2
              subst hip
              have HSET2 : Hid (∀ y, Cst (wi.setCell ⟨ee, oo + j * 2 + 1, none⟩ (.int .i64 y)) lo hi' (some ⟨g, 0, none⟩) n xC) := hide (fun y => HCI.out.setEd (fun h => hne (by rw [h])) hv2 y)
              have HOS2 : Hid (∀ y, Only (fun i => lo ≤ i ∧ i < hi') c5 (wi.setCell ⟨ee, oo + j * 2 + 1, none⟩ (.int .i64 y))) := hide (fun y => HOI.out.trans (Only.set wi ee (oo + j * 2 + 1) _ ⟨he1, he2⟩))
              go_wp2
              exact ⟨⟨j + 1, by omega, by first | rfl | go_num, hide (HSET2.out _), hide (HOS2.out _)⟩, by simp [intOf]; omega⟩
            · obtain rfl : j = l := by omega
              go_wp2
              exact ⟨⟨k + 1, by omega, by first | rfl | go_num, HCI, HOI⟩, by simp [intOf]; omega⟩
        · obtain rfl : k = n := by omega
          have q0 := HO.out.cell k0 (fun e => by have := e.1; simp only at this; omega)
          have q1 := HO.out.cell k1 (fun e => by have := e.1; simp only at this; omega)
          have q2 := HO.out.cell f0 (fun e => by have := e.2; simp only at this; omega)
          have q3 := HO.out.cell f1 (fun e => by have := e.2; simp only at this; omega)
          have hbl : Below lo wz wr := HZ5.out.trans (HO.out.below (Nat.le_trans HLH.out HSZ5.out) (fun i e => e.1))
          have hbW : Below W.heap.size W wr := by
            have h1 := HVB.out.trans (HBZ.out.mono HVB.out.size)
            refine h1.trans (hbl.mono ?_)
            rw [← HLO.out]
            exact h1.size
          have hgr : GRow wr p cap os := by
            have h1 := HG.out.below HBZ.out
            have h2 : Below wz.heap.size wz wr := by rw [HLO.out]; exact hbl
            exact h1.below h2
          have hkeepD : ∀ {e s n : Nat} {v : Value} {ys : List Value}, c5.ownsRow c3.heap.size e s v n ys → wr.ownsRow c3.heap.size e s v n ys := fun h => ownsRow_only h HO.out (fun g hg e => by have h8 := own_block_base h hg; have h9 := HSZ3.out; have := e.2; omega)
          have hgd : GOwn wr c3.heap.size pD cD xD := ⟨hkeepD HGD.out.own, fun x hx => hkeepD (HGD.out.ins x hx)⟩
          have HS := hide (rsame_any (pa := parts) (pb := parts) hgd.row hgr HXL2.out HN.out (rb := true) (decide_eq_true ⟨rfl, HXD.out⟩))
          have HBW := hide hbW
          clear hbl hbW hgr hkeepD hgd
          go_wp2_with fail
          refine HS.out.mono ?_
          rintro _ cf ⟨rfl, bf⟩
          have HBF := hide (HBW.out.trans (bf.mono HBW.out.size))
          clear bf
          go_wp2
          go_ret
          exact ⟨rfl, HBF.out⟩
    · have ne2 : (ec == 0) = false := by simpa using hec
      have HBZ := HB7
      clear hec t0 t1
      go_upto_region 9 with fail
      rw [← hw7]
      try rw [hPB]
      clear hw7 hPB HB7
      obtain ⟨wz, hwz⟩ : ∃ wz, w7 = wz := ⟨_, rfl⟩
      rw [hwz] at HBZ HGP7 ⊢
      clear hwz
      have HG1 := hide (HG.out.below HBZ.out)
      have HC := hide (gclone_any (parts := parts) HG1.out HN.out HCL1.out HCL2.out)
      have m0 := cell_later HBZ.out z0
      have m1 := cell_later HBZ.out z1
      go_wp2_with fail
      refine HC.out.mono ?_
      rintro _ c1 ⟨pC, cC, xC, rfl, hxC, GC, b1⟩
      have hxl : xC.length = n := by have h9 := congrArg List.length hxC; rw [List.length_map, List.length_map, HN.out] at h9; exact h9
      obtain ⟨lo, hlo⟩ : ∃ lo, wz.heap.size = lo := ⟨_, rfl⟩
      obtain ⟨hi', hhi⟩ : ∃ hi', c1.heap.size = hi' := ⟨_, rfl⟩
      have HCS0 : Hid (Cst c1 lo hi' pC n xC) := hide (by rw [← hlo, ← hhi]; exact Cst.of_own hxl GC)
      have hccap : n ≤ cC ∧ cC ≤ 9223372036854775807 := by have h8 := GC.row.le; have h9 := GC.row.top; rw [hxl] at h8; exact ⟨h8, h9⟩
      have b2 := alloc_below c1 (.cells #[.int .i64 parts, .slice pC n cC] 24 (0, 0))
      have v2 : (c1.alloc (.cells #[.int .i64 parts, .slice pC n cC] 24 (0, 0))).heap[c1.heap.size]? = some (.cells #[.int .i64 parts, .slice pC n cC] 24 (0, 0)) := heap_alloc_new c1 _
      obtain ⟨c2, hc2⟩ : ∃ c2, c2 = c1.alloc (.cells #[.int .i64 parts, .slice pC n cC] 24 (0, 0)) := ⟨_, rfl⟩
      rw [← hc2] at b2 v2
      rw [hhi] at v2
      have b12 := b1.trans (b2.mono b1.size)
      have HB2 := hide (HBZ.out.trans (b12.mono HBZ.out.size))
      have e0 := cell_later HB2.out z0
      have e1 := cell_later HB2.out z1
      have e2 : c2.cell? ⟨hi', 0, none⟩ = some (.int .i64 parts) := by simp [World.cell?, v2]
      have e3 : c2.cell? ⟨hi', 1, none⟩ = some (.slice pC n cC) := by simp [World.cell?, v2]
      have HCS2 := hide (HCS0.out.below (Nat.le_of_eq hhi.symm) b2)
      have HS := hide (rsame_any (pa := parts) (pb := parts) (GC.row.below b2) (HG.out.below HB2.out) hxl HN.out (rb := true) (decide_eq_true ⟨rfl, hxC⟩))
      have HLO := hide hlo
      have HHI := hide hhi
      have HSZ2 : Hid (hi' ≤ c2.heap.size) := hide (by rw [← hhi]; exact b2.size)
      have HLH : Hid (lo ≤ hi') := hide (by rw [← hlo, ← hhi]; exact b1.size)
      have HZ2 : Hid (Below lo wz c2) := hide (by rw [← hlo]; exact b12)
      clear b1 b2 b12 v2 GC hxC HC HCS0 m0 m1 HG1 hlo
      go_upto_region 14 with fail
      rw [← hc2]
      try rw [hhi]
      clear hc2 hhi
      go_wp2_with fail
      refine HS.out.mono ?_
      rintro _ c3 ⟨rfl, b3⟩
      have HB3 := hide (HB2.out.trans (b3.mono HB2.out.size))
      have HZ3 : Hid (Below lo wz c3) := hide (HZ2.out.trans (b3.mono (Nat.le_trans HLH.out HSZ2.out)))
      have HCS3 := hide (HCS2.out.below HSZ2.out b3)
      have HC := hide (gclone_any (parts := parts) (HG.out.below HB3.out) HN.out HCL1.out HCL2.out)
      have e4 := cell_later b3 e2
      have e5 := cell_later b3 e3
      have m0 := cell_later HB3.out z0
      have m1 := cell_later HB3.out z1
      have HSZ3 : Hid (hi' ≤ c3.heap.size) := hide (Nat.le_trans HSZ2.out b3.size)
      clear b3 HS HCS2 HB2 HZ2 HSZ2 e0 e1 e2 e3
      go_wp2_with fail
      refine HC.out.mono ?_
      rintro _ c4 ⟨pD, cD, xD, rfl, hxD, GD, b4⟩
      have hxl2 : xD.length = n := by have h9 := congrArg List.length hxD; rw [List.length_map, List.length_map, HN.out] at h9; exact h9
      have b5 := alloc_below c4 (.cells #[.int .i64 parts, .slice pD n cD] 24 (0, 0))
      have v5 : (c4.alloc (.cells #[.int .i64 parts, .slice pD n cD] 24 (0, 0))).heap[c4.heap.size]? = some (.cells #[.int .i64 parts, .slice pD n cD] 24 (0, 0)) := heap_alloc_new c4 _
      obtain ⟨c5, hc5⟩ : ∃ c5, c5 = c4.alloc (.cells #[.int .i64 parts, .slice pD n cD] 24 (0, 0)) := ⟨_, rfl⟩
      rw [← hc5] at b5 v5
      have b45 := b4.trans (b5.mono b4.size)
      have HB5 := hide (HB3.out.trans (b45.mono HB3.out.size))
      have HZ5 : Hid (Below lo wz c5) := hide (HZ3.out.trans (b45.mono (Nat.le_trans HLH.out HSZ3.out)))
      have HCS5 := hide (HCS3.out.below HSZ3.out b45)
      have HSZ5 : Hid (hi' ≤ c5.heap.size) := hide (Nat.le_trans HSZ3.out b45.size)
      have e6 := cell_later b45 e4
      have e7 := cell_later b45 e5
      have HGD := hide (GD.below b5)
      obtain ⟨D0, hD0⟩ : ∃ D0, c4.heap.size = D0 := ⟨_, rfl⟩
      rw [hD0] at v5
      have f0 : c5.cell? ⟨D0, 0, none⟩ = some (.int .i64 parts) := by simp [World.cell?, v5]
      have f1 : c5.cell? ⟨D0, 1, none⟩ = some (.slice pD n cD) := by simp [World.cell?, v5]
      have hD0h : hi' ≤ D0 := by rw [← hD0]; exact Nat.le_trans HSZ3.out b4.size
      have k0 := cell_later HB5.out z0
      have k1 := cell_later HB5.out z1
      have HXL := hide hxl
      have HXL2 := hide hxl2
      have HXD := hide hxD
      have hA0lo : A0 < lo := by
        have h9 := HA0.out
        have h8 := HLO.out
        have h7 := HBZ.out.size
        omega
      clear b4 b5 b45 v5 GD hxD hxl hxl2 HC HCS3 HB3 HZ3 e4 e5 m0 m1
      go_upto_region 17 with fail
      rw [← hc5]
      try rw [hD0]
      clear hc5 hD0
      go_wp2_with fail
      go_loopw [70] (fun i wr => ∃ k : Nat, k ≤ n ∧ i = .int .i64 (k : Int) ∧ Hid (Cst wr lo hi' pC n xC) ∧ Hid (Only (fun i => lo ≤ i ∧ i < hi') c5 wr)) (fun i _ => n - (intOf i).toNat)
      case atStart => exact ⟨0, Nat.zero_le _, rfl, HCS5, hide (Only.refl _ _)⟩
      case round =>
        obtain ⟨k, hk, rfl, HCS, HO⟩ := hrel
        rename World => wr
        clear HCS5
        have g7 := HO.out.cell e7 (fun e => by have := e.2; simp only at this; omega)
        by_cases hlt : k < n
        · obtain ⟨g, rfl, hg1, hg2, ⟨v, hv⟩, hfz, hsl⟩ := HCS.out.op k hlt
          obtain ⟨hil, hit⟩ := HCS.out.cap k hlt
          obtain ⟨⟨xo, ip, ic⟩, hx⟩ : ∃ x, xC[k]! = x := ⟨_, rfl⟩
          obtain ⟨l, hl⟩ : ∃ l, xo.ins.length = l := ⟨_, rfl⟩
          rw [hx] at hsl hil hit
          simp only at hsl hil hit
          rw [hl] at hsl hil
          have hslot : ∀ y, (wr.setCell ⟨g, k * 5, none⟩ (.int .i64 y)).cell? ⟨g, k * 5 + 4, none⟩ = some (.slice ip l ic) := fun y => by
            rw [World.cell?_setCell_other _ _ _ _ (by intro h; simp only [Addr.mk.injEq] at h; omega)]
            exact hsl
          have hbox : ∀ y, (wr.setCell ⟨g, k * 5, none⟩ (.int .i64 y)).cell? ⟨hi', 1, none⟩ = some (.slice (some ⟨g, 0, none⟩) n cC) := fun y => by
            rw [World.cell?_setCell_other _ _ _ _ (by intro h; simp only [Addr.mk.injEq] at h; omega)]
            exact g7
          have HSET : Hid (∀ y, Cst (wr.setCell ⟨g, k * 5, none⟩ (.int .i64 y)) lo hi' (some ⟨g, 0, none⟩) n xC) := hide (fun y => HCS.out.setOp hlt y)
          have HOS : Hid (∀ y, Only (fun i => lo ≤ i ∧ i < hi') c5 (wr.setCell ⟨g, k * 5, none⟩ (.int .i64 y))) := hide (fun y => HO.out.trans (Only.set wr g (k * 5) _ ⟨hg1, hg2⟩))
          have HX := hide hx
          have HL := hide hl
          clear hx hl
          go_wp2_with fail
          go_loopw [89] (fun i wi => ∃ j : Nat, j ≤ l ∧ i = .int .i64 (j : Int) ∧ Hid (Cst wi lo hi' (some ⟨g, 0, none⟩) n xC) ∧ Hid (Only (fun i => lo ≤ i ∧ i < hi') c5 wi)) (fun i _ => l - (intOf i).toNat)
          case atStart => exact ⟨0, Nat.zero_le _, rfl, hide (HSET.out _), hide (HOS.out _)⟩
          case round =>
            obtain ⟨j, hj, rfl, HCI, HOI⟩ := hrel
            rename World => wi
            have g8 := HOI.out.cell e7 (fun e => by have := e.2; simp only at this; omega)
            by_cases hjt : j < l
            · obtain ⟨g', hg', _, _, _, _, hsl2⟩ := HCI.out.op k hlt
              simp only [Option.some.injEq, Addr.mk.injEq, and_true] at hg'
              subst hg'
              obtain ⟨ee, oo, hip, he1, he2, hne, ⟨v2, hv2⟩, hfz2⟩ := HCI.out.ed k hlt j (by rw [HX.out]; simp only; rw [HL.out]; exact hjt)
              rw [HX.out] at hsl2 hip
              simp only at hsl2 hip
              rw [HL.out] at hsl2
              subst hip
              have HSET2 : Hid (∀ y, Cst (wi.setCell ⟨ee, oo + j * 2 + 1, none⟩ (.int .i64 y)) lo hi' (some ⟨g, 0, none⟩) n xC) := hide (fun y => HCI.out.setEd (fun h => hne (by rw [h])) hv2 y)
              have HOS2 : Hid (∀ y, Only (fun i => lo ≤ i ∧ i < hi') c5 (wi.setCell ⟨ee, oo + j * 2 + 1, none⟩ (.int .i64 y))) := hide (fun y => HOI.out.trans (Only.set wi ee (oo + j * 2 + 1) _ ⟨he1, he2⟩))
              go_wp2
              exact ⟨⟨j + 1, by omega, by first | rfl | go_num, hide (HSET2.out _), hide (HOS2.out _)⟩, by simp [intOf]; omega⟩
            · obtain rfl : j = l := by omega
              go_wp2
              exact ⟨⟨k + 1, by omega, by first | rfl | go_num, HCI, HOI⟩, by simp [intOf]; omega⟩
        · obtain rfl : k = n := by omega
          have q0 := HO.out.cell k0 (fun e => by have := e.1; simp only at this; omega)
          have q1 := HO.out.cell k1 (fun e => by have := e.1; simp only at this; omega)
          have q2 := HO.out.cell f0 (fun e => by have := e.2; simp only at this; omega)
          have q3 := HO.out.cell f1 (fun e => by have := e.2; simp only at this; omega)
          have hbl : Below lo wz wr := HZ5.out.trans (HO.out.below (Nat.le_trans HLH.out HSZ5.out) (fun i e => e.1))
          have hbW : Below W.heap.size W wr := by
            have h1 := HVB.out.trans (HBZ.out.mono HVB.out.size)
            refine h1.trans (hbl.mono ?_)
            rw [← HLO.out]
            exact h1.size
          have hgr : GRow wr p cap os := by
            have h1 := HG.out.below HBZ.out
            have h2 : Below wz.heap.size wz wr := by rw [HLO.out]; exact hbl
            exact h1.below h2
          have hkeepD : ∀ {e s n : Nat} {v : Value} {ys : List Value}, c5.ownsRow c3.heap.size e s v n ys → wr.ownsRow c3.heap.size e s v n ys := fun h => ownsRow_only h HO.out (fun g hg e => by have h8 := own_block_base h hg; have h9 := HSZ3.out; have := e.2; omega)
          have hgd : GOwn wr c3.heap.size pD cD xD := ⟨hkeepD HGD.out.own, fun x hx => hkeepD (HGD.out.ins x hx)⟩
          have HS := hide (rsame_any (pa := parts) (pb := parts) hgd.row hgr HXL2.out HN.out (rb := true) (decide_eq_true ⟨rfl, HXD.out⟩))
          have HBW := hide hbW
          clear hbl hbW hgr hkeepD hgd
          go_wp2_with fail
          refine HS.out.mono ?_
          rintro _ cf ⟨rfl, bf⟩
          have HBF := hide (HBW.out.trans (bf.mono HBW.out.size))
          clear bf
          go_wp2
          go_ret
          exact ⟨rfl, HBF.out⟩
set_option maxRecDepth 100000 in
theorem contract (H : Type) (enc : TypeId × Value → H) (W : World) (base : Nat) (args : Array Value) (ds gs : List (DataW H)) (before : List MemPlace)
    (hval : ∀ (j : Nat) t v, Try.f4.params[j]? = some t → args[j]? = some v → Value.okWide Try.prog W .any base t v)
    (hW : DataW.Whole enc Try.prog Try.f4.params.toList Rows.graphBackSpec.vars false W args.toList ds gs before) (hsz0 : (DataW.weightsEach Try.prog (Try.f4.params.toList ++ Rows.graphBackSpec.plain.varTypes Try.prog) (ds ++ gs)).all (· ≤ reachBytes) = true) :
    Calls Try.prog 4 args W fun e W' => ∃ v, e = .returned v ∧ Rows.graphBackSpec.post enc Try.prog Try.f4 false true false false W args v W' := by
  have hW' := hW
  obtain ⟨p, q, hA0, hV, rfl, hfz, hnd⟩ := hW
  have hA : DataW.TrodAll enc Try.prog W 0 (fun _ => true) true Try.f4.params.toList args.toList ds p := hA0
  rw [Try.params4] at hA hval hsz0
  obtain ⟨v0, vs0, d0, ds0, p0, q0, hargs, rfl, rfl, h0, r0⟩ := trodAll_cons hA
  obtain ⟨v1, vs1, d1, ds1, p1, q1, rfl, rfl, rfl, h1, r1⟩ := trodAll_cons r0
  obtain ⟨rfl, rfl, rfl⟩ := trodAll_nil r1
  obtain rfl : args = #[v0, v1] := by cases args; simp_all
  obtain ⟨rfl, rfl⟩ := trodVars_none hV
  obtain ⟨cs0, rfl, hcs0⟩ := okWide_struct Try.underlying24 (hval 0 24 v0 rfl rfl)
  rw [Try.cellsGraph] at hcs0
  obtain ⟨a1, len1, cap1, rfl⟩ := okWide_slice Try.underlying25 (hval 1 25 v1 rfl rfl)
  have k0 := h0
  have lt0 : ∀ x ∈ p0, x.block < W.heap.size := by obtain ⟨m, hm⟩ := k0; exact DataW.trod_lt m _ _ _ hm
  obtain ⟨f0, hf0⟩ := h0
  have hcc0 : (Value.agg cs0).cells.toList = cs0.toList := by simp [Value.cells]
  rw [hcc0] at hf0
  obtain ⟨parts0, gp0, gc0, os0, rfl, I0, G0, F0, B0, E0⟩ := arg_graphS hcs0 (sz_each hsz0 (j := 0) rfl rfl) hf0
  have k1 := h1
  have lt1 : ∀ x ∈ p1, x.block < W.heap.size := by obtain ⟨m, hm⟩ := k1; exact DataW.trod_lt m _ _ _ hm
  obtain ⟨f1, hf1⟩ := h1
  obtain ⟨l1, e1, R1, wf1, D1⟩ := arg_row Try.underlying25 Try.underlying5 (by kernel_rfl) hf1
  have b1 : len1 * 1 ≤ 140737488351232 := sized_len (bytes := 1) hsz0 (j := 1) rfl rfl Try.underlying25 (by kernel_rfl) D1
  clear hA0
  refine (walk I0 G0 F0 B0 E0 R1 (wf_u8 wf1) (by omega)).mono fun e W' ⟨he, bel⟩ => ?_
  subst he
  exact ⟨_, rfl, _, _, _, [], _, [], hW', trodAll_mk1 (shut_bool Try.underlying4 _), (trodAll_cons_mk (Below.trod Try.laidOut (by kernel_rfl) (of_decide_eq_true (by kernel_rfl)) k0 bel lt0) (trodAll_cons_mk (Below.trod Try.laidOut (by kernel_rfl) (of_decide_eq_true (by kernel_rfl)) k1 bel lt1) trodAll_mk0)), rfl, bel.frame _, fun h => by cases h⟩

set_option maxRecDepth 100000 in
theorem lifted (os : Os) (started : os.Started) (H : Type) (enc : TypeId × Value → H) :
    ReturnsInHanded {} Try.checked os 4 .any (Rows.graphBackSpec.pre6 enc Try.prog Try.f4 Rows.graphBackRow.domain false) (Rows.graphBackSpec.post enc Try.prog Try.f4 false true false false) := by
  refine returnsInHanded_of_change_sized (C := Try.checked) Try.ownK started (by kernel_rfl) Try.func4
    (ChangeSpec.witness6 (enc := enc) (C := Try.checked) false ⟨#[], #[.agg #[.int .i64 0, .slice none 0 0], .slice none 0 0], []⟩ 8 (by kernel_rfl) (by kernel_rfl) (by kernel_rfl) (by kernel_rfl)) ?_
  intro W base args ds gs before hval hW _ hsz _
  exact contract H enc W base args ds gs before hval hW hsz

set_option maxRecDepth 100000 in
theorem proved : Rows.GraphBackSaid :=
  OpenClaim.holds_of_wide 4 Try.f4 rfl rfl rfl rfl rfl rfl rfl ⟨rfl, rfl, rfl, rfl, rfl⟩ rfl rfl rfl rfl rfl (by kernel_rfl) Try.func4 (by kernel_rfl)
    (of_decide_eq_true (by kernel_rfl)) (by unfold Func.isWrapper; first | (rw [if_pos (by decide +kernel)]; kernel_rfl) | (rw [if_neg (by decide +kernel)]; exact ⟨rfl, rfl⟩))
    (fun os started H enc _ => lifted os started H enc)

end Go.Proofs.Ytdngjpbefcbodaa.graphBack
