/-
  What a task is made of: buffers, and a shelf of nothing. The conditions: lengths.
-/
import Derived.Test.YtlfipmieaabagaaGreatTsb
import Derived.Test.YtlfipmieaabagaaGreatGed
import Derived.MapFrom
import Derived.Laws.ResultCell
namespace Go.Proofs.YtlfipmieaabagaaGreat
open Go.RowKit

set_option maxRecDepth 100000 in
theorem copied_any {W : World} {p : Option Addr} {n c : Nat} {rs : List RC} (h : RRow W p c rs) (hn : rs.length = n) (hb : n * 16 ≤ 140737488355328) :
    Calls Tryz.prog 110 #[.slice p n c] W fun e w' => ∃ p' c', e = .returned (.slice p' n c') ∧ w'.ownsRow W.heap.size 51 2 (.slice p' n c') n (rs.flatMap RC.cells) ∧ Below W.heap.size W w' := by
  obtain ⟨j0, hj0, hj1, hj2, hj3⟩ := info_parts Tryz.infoRec
  have hs := LRow.seg (by decide) RC.len RC.one h
  rw [hn] at hs
  have HS := hide hs
  have HK1 : Hid (0 + n ≤ maxLen) := by show _ ≤ _; unfold maxLen; omega
  have HK2 : Hid ((0 + n) * 16 ≤ 140737488355328) := by show _ ≤ _; omega
  clear h hs hn hb
  go_enter Tryz.func110, Tryz.ntmps110
  go_wp2_with (at_builtin; refine append_cells _ rfl (.const (.slice none 0 0)) (.tmp 3) 49 rfl W.heap.size 51 j0 (.agg #[.int .i64 0, .int .i64 0]) 2 16 Tryz.underlying49 hj0 hj1 hj2 hj3 rfl (by decide) (.slice none 0 0) 0 [] rfl (World.ownsRow_nil _ _ _ _) (.slice p n c) n _ rfl HS.out HK1.out HK2.out (Nat.le_refl _) ?_)
  intro p6 c6 w6 o6 g6
  have HB : Hid (Below W.heap.size W w6) := hide ((Below.refl _ W).grown g6 (Nat.le_refl _) (by simp [Value.ownBlock]))
  have HO := hide o6
  clear o6 g6
  go_wp2
  go_ret
  first
    | exact ⟨p6, c6, rfl, HO.out, HB.out⟩
    | exact ⟨p6, c6, by rw [Nat.zero_add], by simpa using HO.out, HB.out⟩
theorem Tryz.infoBuf : (Tryz.prog.info? 191).map (fun i => (i.zero, i.size, i.bytes)) = some (some (.agg #[.slice none 0 0, .int .i64 0]), 2, 32) := by kernel_rfl
set_option maxRecDepth 100000 in
set_option maxHeartbeats 2000000 in
theorem newBuffers_any {W : World} {bp : Option Addr} {nb bc : Nat} {xs : List SV} (h : LL W bp bc xs) (hn : xs.length = nb) (hb : nb ≤ 1048576) (hlb : ∀ x ∈ xs, x.rs.length ≤ 1048576) :
    Calls Tryz.prog 76 #[.slice bp nb bc] W fun e w' => ∃ p c, e = .returned (.slice p nb c) ∧ Below W.heap.size W w' := by
  obtain ⟨i0, hI0, hz0, hz1, hz2⟩ := info_parts Tryz.infoBuf
  have i1 := h.row.le
  have i2 := h.row.top
  rw [hn] at i1
  have HX := hide h
  have HN := hide hn
  have HLB := hide hlb
  clear h hn hlb
  go_enter Tryz.func76, Tryz.ntmps76
  go_wp2_with fail
  go_loopw [3, 8] (fun s i wq => ∃ (k : Nat) (p1 : Option Addr) (c1 : Nat), k ≤ nb ∧ i = .int .i64 (k : Int) ∧ s = .slice p1 k c1 ∧ Hid (∃ ys, wq.ownsRow W.heap.size 191 2 (.slice p1 k c1) k ys) ∧ Hid (Below W.heap.size W wq)) (fun _ i _ => nb - (intOf i).toNat)
  case atStart => exact ⟨0, none, 0, Nat.zero_le _, rfl, rfl, hide ⟨[], World.ownsRow_nil _ _ _ _⟩, hide (Below.refl _ _)⟩
  case round =>
    obtain ⟨k, p1, c1, hk, rfl, rfl, HO, HB⟩ := hrel
    rename World => wq
    by_cases hlt : k < nb
    · have hlt2 : k < xs.length := by rw [HN.out]; exact hlt
      have hll := HX.out.later HB.out
      obtain ⟨g2, o2, rfl, hcx⟩ := hll.at hlt2
      have hxm : xs[k]! ∈ xs := by rw [getElem!_pos xs k hlt2]; exact List.getElem_mem _
      have hrow := hll.ok _ hxm
      have hlb := HLB.out _ hxm
      obtain ⟨x, hxx⟩ : ∃ x, xs[k]! = x := ⟨_, rfl⟩
      rw [hxx] at hcx hrow hlb
      obtain ⟨rs, xp, xc⟩ := x
      simp only at hcx hlb
      obtain ⟨L, hL⟩ : ∃ L, rs.length = L := ⟨_, rfl⟩
      rw [hL] at hcx hlb
      have HC := hide (copied_any (W := wq) hrow hL (by omega))
      clear hll hxm hrow hxx hL hlb
      go_wp2_with fail
      refine HC.out.mono ?_
      rintro _ w2 ⟨p2, c2, rfl, _, b2⟩
      obtain ⟨ys, hO⟩ := HO.out
      have ab := alloc_below w2 (.cells #[.slice p2 L c2, .int .i64 0] 191 (0, 0))
      have HRW := hide (ownsRow_later (ownsRow_later hO b2) ab)
      have HSG : Hid (Seg (w2.alloc (.cells #[.slice p2 L c2, .int .i64 0] 191 (0, 0))) 2 (.slice (some ⟨w2.heap.size, 0, none⟩) 1 1) 1 [.slice p2 L c2, .int .i64 0]) := hide (Seg.news (heap_alloc_new w2 _) (by simp [Value.oneCell']) rfl (Nat.le_refl _) (by decide))
      have hb3 : Below W.heap.size W (w2.alloc (.cells #[.slice p2 L c2, .int .i64 0] 191 (0, 0))) := (HB.out.trans (b2.mono HB.out.size)).trans (ab.mono (HB.out.trans (b2.mono HB.out.size)).size)
      have HB3 := hide hb3
      have HLT : Hid (∀ i, (Value.slice p1 k c1).ownBlock = some i → W.heap.size ≤ i) := hide (fun i e => (hO.lt i e).1)
      have HK1 : Hid (k + 1 ≤ maxLen) := by show _ ≤ _; unfold maxLen; omega
      have HK2 : Hid ((k + 1) * 32 ≤ 140737488355328) := hide (by omega)
      clear ab b2 hO hb3 HO HB hcx
      go_wp2_with (at_builtin; refine append_cells _ rfl (.tmp 12) (.tmp 16) 152 rfl W.heap.size 191 i0 (.agg #[.slice none 0 0, .int .i64 0]) 2 32 Tryz.underlying152 hI0 hz0 hz1 hz2 rfl (by decide) (.slice p1 k c1) k _ rfl HRW.out (.slice (some ⟨w2.heap.size, 0, none⟩) 1 1) 1 _ rfl HSG.out HK1.out HK2.out HB3.out.size ?_)
      intro p6 c6 w6 o6 g6
      have HN6 : Hid (Below W.heap.size W w6) := hide (HB3.out.grown g6 HB3.out.size HLT.out)
      have HO6 : Hid (∃ ys, w6.ownsRow W.heap.size 191 2 (.slice p6 (k + 1) c6) (k + 1) ys) := hide ⟨_, o6⟩
      clear o6 g6
      go_wp2
      exact ⟨⟨k + 1, p6, c6, by omega, by first | rfl | go_num, rfl, HO6, HN6⟩, by simp [intOf]; omega⟩
    · obtain rfl : k = nb := by omega
      go_wp2
      go_ret
      exact ⟨p1, c1, rfl, HB.out⟩
theorem twoF {w : World} {b : Nat} {t : TypeId} {c0 c1 : Value} (h : w.heap[b]? = some (.cells #[c0, c1] t (0, 0))) (d0 : Value) :
    w.cell? ⟨b, 0, none⟩ = some c0 ∧ w.frozen? ⟨b, 0, none⟩ = false ∧ (w.setCell ⟨b, 0, none⟩ d0).cell? ⟨b, 1, none⟩ = some c1 ∧ (w.setCell ⟨b, 0, none⟩ d0).frozen? ⟨b, 1, none⟩ = false := by
  have h1 := heap_setCell_same w b 0 _ _ d0 h
  refine ⟨by simp [World.cell?, h], by simp [World.frozen?, h], ?_, ?_⟩
  · simp only [World.cell?]; rw [h1]; rfl
  · simp only [World.frozen?]; rw [h1]; rfl
theorem twoS {W : World} {b : Nat} {t : TypeId} {c0 c1 : Value} (h : W.heap[b]? = some (.cells #[c0, c1] t (0, 0))) (d0 d1 : Value) :
    ((W.setCell ⟨b, 0, none⟩ d0).setCell ⟨b, 1, none⟩ d1).heap[b]? = some (.cells #[d0, d1] t (0, 0)) :=
  heap_setCell_same _ b 1 _ _ d1 (heap_setCell_same W b 0 _ _ d0 h)
open Go.MapKept in
theorem upd_any {w : World} {r : Nat} {es : Array MapEntry} {clock : Nat} (hb : w.heap[r]? = some (.map es clock)) (hks : ∀ x ∈ es.toList, IsKey (.int .i64) x.key) (k : Int) (v : Value) :
    ∃ w', (Instr.mapUpdate 148 (.map (some r)) (.int .i64 k) v).run Tryz.prog w = .ok () w' ∧ (∃ es' cl', w'.heap[r]? = some (.map es' cl') ∧ ∀ x ∈ es'.toList, IsKey (.int .i64) x.key) ∧ Only (· = r) w w' := by
  have hk : IsKey (.int .i64) (.int .i64 k) := rfl
  have hm := Tryz.underlying148
  have hd := Tryz.underlying2
  rcases findNow_spec hk es.toList 0 hks with ⟨h1, _⟩ | ⟨j, e, h1, h2, h3⟩
  · refine ⟨_, by simp [Instr.mapUpdate, run_underlying hm, Go.MapKept.run_getObj_map hb, run_checkKey hd hk, run_findKey hd h1, run_setObj_map _ hb, Result.andThen]; rfl, ⟨_, _, (heap_set hb).1, ?_⟩, put_only⟩
    intro x hx
    simp only [Array.toList_push, List.mem_append, List.mem_singleton] at hx
    rcases hx with hx | rfl
    · exact hks x hx
    · exact hk
  · have hj : es[j]? = some e := by simpa using h2
    refine ⟨_, by simp [Instr.mapUpdate, run_underlying hm, Go.MapKept.run_getObj_map hb, run_checkKey hd hk, run_findKey hd h1, hj, h3, run_keyThatStays hk, run_setObj_map _ hb, Result.andThen]; rfl, ⟨_, _, (heap_set hb).1, ?_⟩, put_only⟩
    intro x hx
    rcases Go.MapFrom.mem_modify hx with hx | ⟨e', _, rfl⟩
    · exact hks x hx
    · exact hk
theorem run_mkmap (w : World) (n : Int) : (Instr.makeMap 148 (some (.int .i64 n))).run Tryz.prog w = .ok (.map (some w.heap.size)) (w.alloc (.map #[] 0)) := by
  simp [Instr.makeMap, run_underlying Tryz.underlying148, asInt, Result.andThen]
  rfl
set_option maxRecDepth 100000 in
set_option maxHeartbeats 4000000 in
theorem newShelf_any {W : World} {kp : Option Addr} {nk kc : Nat} {ks : List Op.KS} (hK : Op.KRow W kp kc ks) (hn : ks.length = nk) : Calls Tryz.prog 75 #[.slice kp nk kc] W fun e w' => ∃ a b, e = .returned (.agg #[a, b]) ∧ Below W.heap.size W w' := by
  obtain ⟨V, hV⟩ : ∃ V, V = W.alloc (.cells #[.map none, .int .i64 0] 150 (0, 0)) := ⟨_, rfl⟩
  have bV : Below W.heap.size W V := by rw [hV]; exact alloc_below _ _
  obtain ⟨sB, hsB⟩ : ∃ sB, W.heap.size = sB := ⟨_, rfl⟩
  have u0 : V.heap[sB]? = some (.cells #[.map none, .int .i64 0] 150 (0, 0)) := by rw [hV, ← hsB]; exact heap_alloc_new W _
  have HS : Hid (W.heap.size ≤ sB) := hide (by omega)
  have HU0 := hide u0
  have HBV := hide bV
  have HK := hide hK
  have HN := hide hn
  obtain ⟨i1, i2, _, _⟩ := hK
  rw [hn] at i1
  by_cases h0 : nk = 0
  · subst h0
    obtain ⟨t0, z0, t1, z1⟩ := twoF u0 (.map none)
    have HT := hide (twoS u0 (.map none) (.int .i64 0))
    have HBF : Hid (Below W.heap.size W ((V.setCell ⟨sB, 0, none⟩ (.map none)).setCell ⟨sB, 1, none⟩ (.int .i64 0))) := hide ((bV.setCell (p := ⟨sB, 0, none⟩) HS.out _).setCell (p := ⟨sB, 1, none⟩) HS.out _)
    clear hn u0 bV
    go_enter Tryz.func75, Tryz.ntmps75
    go_upto_region 1 with fail
    rw [← hV]
    try rw [hsB]
    clear hV hsB
    go_wp2
    refine bodyPost_ret (results_cell_row rfl _ _ sB 150 _ _ _ rfl HT.out Tryz.underlying150 rfl (by kernel_rfl)) rfl ?_
    exact ⟨_, _, rfl, HBF.out⟩
  · have e0 : (nk == 0) = false := by simpa using h0
    have e1 : ((nk : Int) == 0) = false := ne_eq (fun h => h0 (by omega))
    have hmk := run_mkmap
    clear hn u0 bV
    go_enter Tryz.func75, Tryz.ntmps75
    go_upto_region 1 with fail
    rw [← hV]
    try rw [hsB]
    clear hV hsB
    obtain ⟨Y, hY⟩ : ∃ Y, Y = V.alloc (.map #[] 0) := ⟨_, rfl⟩
    obtain ⟨mB, hmB⟩ : ∃ mB, V.heap.size = mB := ⟨_, rfl⟩
    have hmb : Y.heap[mB]? = some (.map #[] 0) := by rw [hY, ← hmB]; exact heap_alloc_new V _
    have bY : Below V.heap.size V Y := by rw [hY]; exact alloc_below _ _
    have HM0 : Hid (∃ es cl, Y.heap[mB]? = some (.map es cl) ∧ ∀ x ∈ es.toList, Go.MapKept.IsKey (.int .i64) x.key) := hide ⟨_, _, hmb, by intro x hx; simp at hx⟩
    have HBY := hide bY
    have HMB : Hid (V.heap.size ≤ mB) := hide (by omega)
    have HUY := hide (below_box bY HU0.out)
    have HBW : Hid (Below W.heap.size W Y) := hide (HBV.out.trans (bY.mono HBV.out.size))
    have HMS : Hid (sB < mB) := hide (by rw [← hmB]; exact (Array.getElem?_eq_some_iff.1 HU0.out).1)
    clear hmb bY HBY
    go_upto_region 4 with fail
    rw [← hY]
    try rw [hmB]
    clear hY hmB hmk
    go_wp2_with fail
    go_loopw [15] (fun s wq => ∃ (k : Nat), k ≤ nk ∧ s = .int .i64 (k : Int) ∧ Hid (∃ es cl, wq.heap[mB]? = some (.map es cl) ∧ ∀ x ∈ es.toList, Go.MapKept.IsKey (.int .i64) x.key) ∧ Hid (wq.heap[sB]? = some (.cells #[.map none, .int .i64 0] 150 (0, 0))) ∧ Hid (Below W.heap.size W wq)) (fun s _ => nk - (intOf s).toNat)
    case atStart => exact ⟨0, Nat.zero_le _, rfl, HM0, HUY, HBW⟩
    case round =>
      obtain ⟨k, hk, rfl, HM, HU, HB⟩ := hrel
      rename World => wq
      clear HM0 HUY HBW
      by_cases hlt : k < nk
      · obtain ⟨_, _, _, hcs⟩ := Op.KRow.later HK.out HB.out
        obtain ⟨g2, o2, rfl, hc⟩ := hcs k (by rw [HN.out]; exact hlt)
        obtain ⟨x, hx⟩ : ∃ x, ks[k]! = x := ⟨_, rfl⟩
        rw [hx] at hc
        obtain ⟨ky, ct, ac⟩ := x
        have d0 : wq.cell? ⟨g2, o2 + k * 3, none⟩ = some (.int .i64 ky) := hc 0 (by omega)
        have d1 : wq.cell? ⟨g2, o2 + k * 3 + 1, none⟩ = some (.int .i64 ct) := hc 1 (by omega)
        have d2 : wq.cell? ⟨g2, o2 + k * 3 + 2, none⟩ = some (.int .i64 ac) := hc 2 (by omega)
        obtain ⟨X1, hX1⟩ : ∃ X, X = wq.alloc (.cells #[.int .i64 ky, .int .i64 ct, .int .i64 ac] 48 (0, 0)) := ⟨_, rfl⟩
        have bX1 : Below wq.heap.size wq X1 := by rw [hX1]; exact alloc_below _ _
        have ux : X1.heap[wq.heap.size]? = some (.cells #[.int .i64 ky, .int .i64 ct, .int .i64 ac] 48 (0, 0)) := by rw [hX1]; exact heap_alloc_new _ _
        obtain ⟨nb, hnb⟩ : ∃ nb, wq.heap.size = nb := ⟨_, rfl⟩
        rw [hnb] at ux
        obtain ⟨y0, y1, y2⟩ := tsBox3 ux
        obtain ⟨es, cl, hm, hks⟩ := HM.out
        obtain ⟨w2, hup, hM2, ho2⟩ := upd_any (below_box bX1 hm) hks ky (.agg #[.int .i64 ky, .int .i64 ct, .int .i64 ac])
        have HM2 := hide hM2
        have hw2 : Below W.heap.size W X1 := HB.out.trans (bX1.mono HB.out.size)
        have HB2 : Hid (Below W.heap.size W w2) := hide (hw2.trans (ho2.below hw2.size (fun i e => by have e' : i = mB := e; have h1 := HS.out; have h2 := HMS.out; omega)))
        have HU2 : Hid (w2.heap[sB]? = some (.cells #[.map none, .int .i64 0] 150 (0, 0))) := hide (ho2.obj (below_box bX1 HU.out) (fun e => by have e' : sB = mB := e; have h2 := HMS.out; omega))
        clear hc hcs hx ux hm hks hM2 ho2 hw2 bX1 HM HB HU
        go_upto_region 7 with fail
        rw [← hX1]
        try rw [hnb]
        clear hX1 hnb d0 d1 d2
        go_wp2
        exact ⟨⟨k + 1, by omega, by first | rfl | go_num, HM2, HU2, HB2⟩, by simp [intOf]; omega⟩
      · obtain rfl : k = nk := by omega
        obtain ⟨t0, z0, t1, z1⟩ := twoF HU.out (.map (some mB))
        have HT := hide (twoS HU.out (.map (some mB)) (.int .i64 (k : Int)))
        have HBF : Hid (Below W.heap.size W ((wq.setCell ⟨sB, 0, none⟩ (.map (some mB))).setCell ⟨sB, 1, none⟩ (.int .i64 (k : Int)))) := hide ((HB.out.setCell (p := ⟨sB, 0, none⟩) HS.out _).setCell (p := ⟨sB, 1, none⟩) HS.out _)
        go_wp2
        refine bodyPost_ret (results_cell_row rfl _ _ sB 150 _ _ _ rfl HT.out Tryz.underlying150 rfl (by kernel_rfl)) rfl ?_
        exact ⟨_, _, rfl, HBF.out⟩
end Go.Proofs.YtlfipmieaabagaaGreat
