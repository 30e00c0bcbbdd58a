/-
  Where ports lead: leadsOf of a graph that may be. The conditions: lengths.
-/
import Derived.Test.YtlfipmieaabagaaGreatFlc
namespace Go.Proofs.YtlfipmieaabagaaGreat
open Go.RowKit
attribute [local go_sem] Oper.semAt_some

set_option maxRecDepth 100000 in
set_option maxHeartbeats 16000000 in
theorem leads_in {W : World} {parts : Int} {p : Option Addr} {cap n : Nat} {os : List OV} (ho : GRow W p cap os) (hn : os.length = n) (hg : Good parts (os.map OV.o)) :
    CallsIn Fence.wide 4 Tryz.prog 39 #[.agg #[.int .i64 parts, .slice p n cap]] W fun e w' => ∃ g, e = .returned (.slice (some ⟨g, 0, none⟩) n n) ∧ Below W.heap.size W w' := by
  obtain ⟨i0, hI0, hz0, hz1, hz2⟩ := info_parts Tryz.infoIns
  obtain ⟨j0, hJ0, hy0, hy1, hy2⟩ := info_parts Tryz.infoIn
  obtain ⟨m0, hM0, hx0, hx1, hx2⟩ := info_parts Tryz.infoI
  have i3 := ho.le
  have i4 := ho.top
  rw [hn] at i3
  have hn24 : n ≤ 24 := by have := hg.len; rw [List.length_map, hn] at this; exact this
  obtain ⟨V, hV⟩ : ∃ V, V = W.alloc (.cells #[.int .i64 parts, .slice p n cap] 24 (0, 0)) := ⟨_, rfl⟩
  have bV : Below W.heap.size W V := by rw [hV]; exact alloc_below _ _
  obtain ⟨gB, hgB⟩ : ∃ gB, W.heap.size = gB := ⟨_, rfl⟩
  have u0 : V.heap[gB]? = some (.cells #[.int .i64 parts, .slice p n cap] 24 (0, 0)) := by rw [hV, ← hgB]; exact heap_alloc_new W _
  obtain ⟨w1, hrun, hown, hgr⟩ := run_make_full V W.heap.size 84 136 i0 (.slice none 0 0) 1 Tryz.underlying84 hI0 hz0 hz1 .i64 .i64 n (by rw [hz2]; omega) (by unfold maxLen; omega) bV.size
  have hb1 : Below V.heap.size V w1 := (Below.refl _ V).grown hgr (Nat.le_refl _) (fun k hk => by simp at hk)
  obtain ⟨L, hL⟩ : ∃ L, V.heap.size = L := ⟨_, rfl⟩
  rw [hL] at hrun hown
  obtain ⟨w2, hw2⟩ : ∃ w2, w2 = w1.alloc (.cells #[.slice (some ⟨L, 0, none⟩) n n] 84 (0, 0)) := ⟨_, rfl⟩
  have hb2 : Below w1.heap.size w1 w2 := by rw [hw2]; exact alloc_below _ _
  obtain ⟨lB, hlB⟩ : ∃ lB, w1.heap.size = lB := ⟨_, rfl⟩
  have ul : w2.heap[lB]? = some (.cells #[.slice (some ⟨L, 0, none⟩) n n] 84 (0, 0)) := by rw [hw2, ← hlB]; exact heap_alloc_new _ _
  have HLD : Hid (∃ vals, LdI w2 W.heap.size L n 0 (os.map OV.o) vals) := hide ⟨_, ⟨by have := hown.1; omega, ownsRow_later hown hb2, fun i hi => absurd hi (Nat.not_lt_zero i)⟩⟩
  have b12 : Below V.heap.size V w2 := hb1.trans (hb2.mono hb1.size)
  have HU0 := hide u0
  have HUL := hide ul
  have HB2 : Hid (Below W.heap.size W w2) := hide (bV.trans (b12.mono bV.size))
  have HUG := hide (below_box b12 u0)
  have HO := hide ho
  have HN := hide hn
  have HG := hide hg
  have HLL : Hid (W.heap.size ≤ L ∧ L < lB ∧ gB < L) := hide ⟨by have := bV.size; omega, by have := hown.lt L (by simp [Value.ownBlock]); omega, by have := (Array.getElem?_eq_some_iff.1 u0).1; omega⟩
  have x1 : V.cell? ⟨gB, 1, none⟩ = some (.slice p n cap) := by simp [World.cell?, u0]
  clear ho hn hg bV u0 ul hown hgr hb1 hb2 b12
  refine callsIn_of_wp_marks Tryz.func39 rfl trivial ?_ rfl
  simp only [Tryz.ntmps39, List.size_toArray, List.length_cons, List.length_nil, Nat.reduceAdd, Nat.reduceSub, Array.replicate_succ, Array.replicate_zero, List.push_toArray, List.append_toArray, List.nil_append, List.cons_append]
  refine wpIn_wide.2 ?_
  go_upto_region 1 with fail
  rw [← hV]
  try rw [hgB]
  clear hV hgB
  go_upto_region 2 with fail
  try rw [← hw2]
  try rw [hlB]
  clear hw2 hlB hrun x1
  have x1 : w2.cell? ⟨gB, 1, none⟩ = some (.slice p n cap) := by have := HUG.out; simp [World.cell?, this]
  go_wp2_with fail
  clear x1
  go_loopw [16] (fun s wq => ∃ (k : Nat), k ≤ n ∧ s = .int .i64 (k : Int) ∧ Hid (∃ vals, LdI wq W.heap.size L n k (os.map OV.o) vals) ∧ Hid (Below W.heap.size W wq) ∧ Hid (wq.heap[lB]? = some (.cells #[.slice (some ⟨L, 0, none⟩) n n] 84 (0, 0))) ∧ Hid (wq.heap[gB]? = some (.cells #[.int .i64 parts, .slice p n cap] 24 (0, 0)))) (fun s _ => n - (intOf s).toNat)
  case atStart => exact ⟨0, Nat.zero_le _, rfl, HLD, HB2, HUL, HUG⟩
  case round =>
    obtain ⟨k, hk, rfl, HLK, HBK, HBL, HBG⟩ := hrel
    rename World => wq
    clear HLD HB2 HUL HUG
    by_cases hlt : k < n
    · have hlt2 : k < os.length := by rw [HN.out]; exact hlt
      obtain ⟨x, hx⟩ : ∃ x, os[k]! = x := ⟨_, rfl⟩
      obtain ⟨g, o, rfl, k0, k1, k2, k3, k4⟩ := grow_at (HO.out.below HBK.out) hlt2 hx
      have hpn : (portsC x.o.kind x.o.arg) = ((pN (os.map OV.o) k : Nat) : Int) := by
        unfold pN portsO
        rw [getO os hlt2, hx, Int.toNat_of_nonneg (portsC_le _ _).1]
      have hp4 := (portsC_le x.o.kind x.o.arg).2
      obtain ⟨⟨kd, pt, fn, ar, ins⟩, ip, ic⟩ := x
      simp only at k0 k1 k2 k3 k4 hpn hp4
      obtain ⟨m, hm⟩ : ∃ m, ins.length = m := ⟨_, rfl⟩
      rw [hm] at k4
      obtain ⟨q, hq⟩ : ∃ q, pN (os.map OV.o) k = q := ⟨_, rfl⟩
      rw [hq] at hpn
      have HQ := hide hq
      obtain ⟨X1, hX1⟩ : ∃ X, X = wq.alloc (.cells #[.int .i64 kd, .int .i64 pt, .int .i64 fn, .int .i64 ar, .slice ip m ic] 95 (0, 0)) := ⟨_, rfl⟩
      have bX1 : Below wq.heap.size wq X1 := by rw [hX1]; exact alloc_below _ _
      have ux : X1.heap[wq.heap.size]? = some (.cells #[.int .i64 kd, .int .i64 pt, .int .i64 fn, .int .i64 ar, .slice ip m ic] 95 (0, 0)) := by rw [hX1]; exact heap_alloc_new _ _
      obtain ⟨oB, hoB⟩ : ∃ oB, wq.heap.size = oB := ⟨_, rfl⟩
      rw [hoB] at ux
      obtain ⟨f0, f1, f2, f3, f4⟩ := opBox5 ux
      have ulx := below_box bX1 HBL.out
      have f5 : X1.cell? ⟨lB, 0, none⟩ = some (.slice (some ⟨L, 0, none⟩) n n) := by simp [World.cell?, ulx]
      have HBX : Hid (Below wq.heap.size wq X1) := hide bX1
      have HOL : Hid (¬ oB = L) := hide (fun e => by have h8 := (Array.getElem?_eq_some_iff.1 HBL.out).1; have := HLL.out.2.1; omega)
      have hq4 : q ≤ 4 := by omega
      have HPN := hide hpn
      clear hx hm hq ux ulx bX1 hpn hp4
      go_upto_region 5 with fail
      rw [← hX1]
      try rw [hoB]
      clear hX1 hoB k0 k1 k2 k3 k4
      refine wp_region_noPanic ?_
      refine wp_region_held_drew (S := (fun w' => w'.cell? ⟨oB, 0, none⟩ = some (.int .i64 kd) ∧ w'.cell? ⟨oB, 1, none⟩ = some (.int .i64 pt) ∧ w'.cell? ⟨oB, 2, none⟩ = some (.int .i64 fn) ∧ w'.cell? ⟨oB, 3, none⟩ = some (.int .i64 ar) ∧ w'.cell? ⟨oB, 4, none⟩ = some (.slice ip m ic) ∧ w'.cell? ⟨lB, 0, none⟩ = some (.slice (some ⟨L, 0, none⟩) n n))) (by kernel_rfl) ⟨f0, f1, f2, f3, f4, f5⟩ (fun hHeld => ?_)
      refine wpAnyH_take (i := 0) (oi := _) (v := ?_) rfl (by kernel_rfl) (by kernel_rfl) (by kernel_rfl) (fun _ _ _ h => h) (Or.inl ⟨by rfl, ?_⟩) (by assumption) ?_
      rotate_left
      · intro w hSw
        (try dsimp only at hSw)
        go_simp
        all_goals with_reducible rfl
      simp only [Act.put, List.setIfInBounds_toArray] --TAKE 1
      refine wpAnyH_take (i := 1) (oi := _) (v := ?_) rfl (by kernel_rfl) (by kernel_rfl) (by kernel_rfl) (fun _ _ _ h => h) (Or.inl ⟨by rfl, ?_⟩) (by assumption) ?_
      rotate_left
      · intro w hSw
        (try dsimp only at hSw)
        go_simp
        all_goals with_reducible rfl
      simp only [Act.put] --TAKE 2
      refine wpAnyH_take (i := 2) (oi := _) (v := ?_) rfl (by kernel_rfl) (by kernel_rfl) (by kernel_rfl) (fun _ _ _ h => h) (Or.inl ⟨by rfl, ?_⟩) (by assumption) ?_
      rotate_left
      · intro w hSw
        (try dsimp only at hSw)
        go_simp
        all_goals with_reducible rfl
      simp only [Act.put] --TAKE 3
      refine wpAnyH_ready (rs := [3]) (by kernel_rfl) (by simp) ?_
      refine AllReadyH.cons (o := _) rfl (fun K hK => ?_) AllReadyH.nil
      go_simp
      refine ports_any.mono ?_
      rintro _ w5 ⟨rfl, b5⟩
      have B5 : Below X1.heap.size X1 w5 := (Below.refl _ X1).drew.trans b5
      rw [HPN.out]
      go_wp2_with fail
      refine hK.out _ _ ⟨cell_later B5 f0, cell_later B5 f1, cell_later B5 f2, cell_later B5 f3, cell_later B5 f4, cell_later B5 f5⟩ (fun hHeld => ?_)
      clear hK
      have BW5 : Below W.heap.size W w5 := (HBK.out.trans (HBX.out.mono HBK.out.size)).trans (B5.mono (HBK.out.trans (HBX.out.mono HBK.out.size)).size)
      obtain ⟨w6, hrun, hown, hgr⟩ := run_make_full w5 W.heap.size 136 142 j0 (.agg #[.int .i64 0, .int .i64 0]) 2 Tryz.underlying136 hJ0 hy0 hy1 .i64 .i64 q (by rw [hy2]; omega) (by unfold maxLen; omega) BW5.size
      have hb6 : Below w5.heap.size w5 w6 := (Below.refl _ w5).grown hgr (Nat.le_refl _) (fun k hk => by simp at hk)
      have B6 : Below X1.heap.size X1 w6 := B5.trans (hb6.mono B5.size)
      have BW6 : Below W.heap.size W w6 := BW5.trans (hb6.mono BW5.size)
      obtain ⟨iB, hiB⟩ : ∃ iB, w5.heap.size = iB := ⟨_, rfl⟩
      rw [hiB] at hrun hown
      obtain ⟨vals, hld⟩ := HLK.out
      have hf := hld.fill (HBX.out.trans (B6.mono HBX.out.size)) hlt (by rw [HQ.out]; exact hown)
      rw [HQ.out] at hf
      have hlo := hld.later (HBX.out.trans (B6.mono HBX.out.size))
      obtain ⟨v9, c9⟩ : ∃ v, w6.cell? ⟨L, k, none⟩ = some v := by
        have h9 := hlo.own.cellAt k (by omega)
        rw [List.getElem?_eq_getElem (by rw [hlo.len]; exact hlt)] at h9
        exact ⟨_, h9⟩
      have z9 : w6.frozen? ⟨L, k, none⟩ = false := hlo.own.frozenAt _
      clear hgr hb6 hiB hown hlo hld b5
      refine wpAnyH_ready (rs := [4]) (by kernel_rfl) (by simp) ?_
      refine AllReadyH.cons (o := _) rfl (fun K hK => ?_) AllReadyH.nil
      go_simp
      refine hK.out _ _ ⟨cell_later B6 f0, cell_later B6 f1, cell_later B6 f2, cell_later B6 f3, cell_later B6 f4, cell_later B6 f5⟩ (fun hHeld => ?_)
      clear hK hrun
      have HF : Hid (∃ vals, LdI (w6.setCell ⟨L, k, none⟩ (.slice (some ⟨iB, 0, none⟩) q q)) W.heap.size L n (k + 1) (os.map OV.o) vals) := hide ⟨_, hf⟩
      have hon : Only (· = L) w6 (w6.setCell ⟨L, k, none⟩ (.slice (some ⟨iB, 0, none⟩) q q)) := Only.set (F := (· = L)) _ _ _ _ rfl
      have HBF : Hid (Below W.heap.size W (w6.setCell ⟨L, k, none⟩ (.slice (some ⟨iB, 0, none⟩) q q))) := hide (BW6.setCell (p := ⟨L, k, none⟩) HLL.out.1 _)
      have HLF : Hid ((w6.setCell ⟨L, k, none⟩ (.slice (some ⟨iB, 0, none⟩) q q)).heap[lB]? = some (.cells #[.slice (some ⟨L, 0, none⟩) n n] 84 (0, 0))) := hide (hon.obj (below_box (HBX.out.trans (B6.mono HBX.out.size)) HBL.out) (fun e => by have e' : lB = L := e; have := HLL.out.2.1; omega))
      have HGF := hide (hon.obj (below_box (HBX.out.trans (B6.mono HBX.out.size)) HBG.out) (fun e => by have e' : gB = L := e; have := HLL.out.2.2; omega))
      have oBn : ¬ oB = L := HOL.out
      have lBn : ¬ lB = L := by have := HLL.out.2.1; omega
      clear hf
      refine wpAnyH_take (i := 5) (oi := _) (v := ?_) rfl (by kernel_rfl) (by kernel_rfl) (by kernel_rfl) (fun _ _ _ h => h) (Or.inl ⟨by rfl, ?_⟩) (by assumption) ?_
      rotate_left
      · intro w hSw
        (try dsimp only at hSw)
        go_simp
        all_goals with_reducible rfl
      simp only [Act.put, List.setIfInBounds_toArray] --TAKE 4
      refine wpAnyH_ready (rs := [6]) (by kernel_rfl) (by simp) ?_
      refine AllReadyH.cons (o := _) rfl (fun K hK => ?_) AllReadyH.nil
      go_simp
      refine hK.out _ _ ⟨hon.cell (cell_later B6 f0) oBn, hon.cell (cell_later B6 f1) oBn, hon.cell (cell_later B6 f2) oBn, hon.cell (cell_later B6 f3) oBn, hon.cell (cell_later B6 f4) oBn, hon.cell (cell_later B6 f5) lBn⟩ (fun hHeld => ?_)
      clear hK
      refine wpAnyH_done (by kernel_rfl) ?_ _
      refine NoPanic.normal ?_
      clear hon oBn lBn hHeld B5 B6 BW5 BW6 c9 z9 f0 f1 f2 f3 f4 f5
      go_wp2
      exact ⟨⟨k + 1, by omega, by first | rfl | go_num, HF, HBF, HLF, HGF⟩, by simp [intOf]; omega⟩
    · have hkn : k = n := by omega
      subst hkn
      have x1 : wq.cell? ⟨gB, 1, none⟩ = some (.slice p k cap) := by have := HBG.out; simp [World.cell?, this]
      obtain ⟨w3, hrun, hown, hgr⟩ := run_make_full wq W.heap.size 88 3 m0 (.int .i64 0) 1 Tryz.underlying88 hM0 hx0 hx1 .i64 .i64 k (by rw [hx2]; omega) (by unfold maxLen; omega) HBK.out.size
      have hb3 : Below wq.heap.size wq w3 := (Below.refl _ wq).grown hgr (Nat.le_refl _) (fun k hk => by simp at hk)
      obtain ⟨S, hS⟩ : ∃ S, wq.heap.size = S := ⟨_, rfl⟩
      rw [hS] at hrun hown
      obtain ⟨w4, hw4⟩ : ∃ w4, w4 = w3.alloc (.cells #[.slice (some ⟨S, 0, none⟩) k k] 88 (0, 0)) := ⟨_, rfl⟩
      have hb4 : Below w3.heap.size w3 w4 := by rw [hw4]; exact alloc_below _ _
      obtain ⟨sB, hsB⟩ : ∃ sB, w3.heap.size = sB := ⟨_, rfl⟩
      have us : w4.heap[sB]? = some (.cells #[.slice (some ⟨S, 0, none⟩) k k] 88 (0, 0)) := by rw [hw4, ← hsB]; exact heap_alloc_new _ _
      have b34 : Below wq.heap.size wq w4 := hb3.trans (hb4.mono hb3.size)
      have HB4 : Hid (Below W.heap.size W w4) := hide (HBK.out.trans (b34.mono HBK.out.size))
      obtain ⟨vals, hld⟩ := HLK.out
      have HL4 := hide (hld.later b34)
      have HUL4 := hide (below_box b34 HBL.out)
      have ug4 := below_box b34 HBG.out
      have y0 : w4.cell? ⟨gB, 0, none⟩ = some (.int .i64 parts) := by simp [World.cell?, ug4]
      have y1 : w4.cell? ⟨gB, 1, none⟩ = some (.slice p k cap) := by simp [World.cell?, ug4]
      have HUS4 := hide us
      have HSE4 : Hid (SeI w4 W.heap.size S k 0) := hide ⟨List.replicate k 0, by simp, by rw [made_ints] at hown; exact ownsRow_later hown hb4, fun v hv => by obtain rfl := (List.mem_replicate.1 hv).2; omega⟩
      have HSS : Hid (L < lB ∧ lB < S ∧ S < sB ∧ W.heap.size ≤ L) := hide ⟨HLL.out.2.1, by have := (Array.getElem?_eq_some_iff.1 HBL.out).1; omega, by have := hown.lt S (by simp [Value.ownBlock]); omega, HLL.out.1⟩
      have HED := hide (edgesOf_any (W := w4) (parts := parts) (HO.out.below HB4.out) HN.out (by omega) (fun x hx => by have := HG.out.four x.o (List.mem_map_of_mem hx); omega))
      clear hld hown hgr hb3 hb4 us b34 ug4 HLK HBK HBL HBG
      go_upto_region 8 with fail
      try rw [← hw4]
      try rw [hsB]
      clear hw4 hsB hrun x1 hS
      go_wp2_with fail
      refine HED.out.mono ?_
      rintro _ w5 ⟨bk, p', c', xs, rfl, hs, G1, X1, hbk, B5⟩
      go_wp2_with fail
      refine (wpIn_wide (n := 4)).1 ?_
      have hw5 := B5.size
      have HB5 := hide (HB4.out.trans (B5.mono HB4.out.size))
      have HL5 := hide (HL4.out.later B5)
      have HUL5 := hide (below_box B5 HUL4.out)
      have HUS5 := hide (below_box B5 HUS4.out)
      have HSE5 := hide (HSE4.out.later B5)
      have HG1 := hide G1
      have HX1 := hide X1
      have HHS := hide hs
      have HTL := hide (tellG_len (os.map OV.o) 0)
      have hS5 : S < w5.heap.size ∧ lB < w5.heap.size ∧ sB < w5.heap.size := ⟨by have := (Array.getElem?_eq_some_iff.1 HUS5.out).1; have := HSS.out; omega, (Array.getElem?_eq_some_iff.1 HUL5.out).1, (Array.getElem?_eq_some_iff.1 HUS5.out).1⟩
      have hsB4 : sB < w4.heap.size := (Array.getElem?_eq_some_iff.1 HUS4.out).1
      have HST : Hid (LeI w5 W.heap.size L S lB sB k (os.map OV.o) vals 0 w5) := hide ⟨HL5.out, HSE5.out, HUL5.out, HUS5.out, Only.refl _ _⟩
      clear HL4 HUL4 HUS4 HSE4 HED hs G1 X1 B5 y0 y1
      refine range_list3 (by omega) (inputs_tells 3 (by omega) (Bk := bk) (p := p') (cap := c') (os := xs)) rfl enInputs ?size (LeI w5 W.heap.size L S lB sB k (os.map OV.o) vals) (fun _ _ _ => False) ?grows ?puts (fun _ _ _ _ _ _ h => h.elim) ?reads ?start
        (fun x X => { tmps := #[.agg #[.int .i64 parts, .slice p k cap], .pointer (some ⟨gB, 0, none⟩), .slice none 0 0, .pointer (some ⟨lB, 0, none⟩), u4, u5, .pointer (some ⟨sB, 0, none⟩), x.getD 0 undef, .pointer (some ⟨X.heap.size, 0, none⟩), .pointer (some ⟨gB, 1, none⟩), .slice p k cap, .int .i64 (k : Int), .slice (some ⟨L, 0, none⟩) k k, .pointer (some ⟨gB, 1, none⟩), .slice p k cap, .int .i64 (k : Int), .int .i64 (k : Int), .bool false, u18, u19, u20, u21, u22, u23, u24, u25, u26, u27, .pointer (some ⟨gB, 1, none⟩), .slice p k cap, .int .i64 (k : Int), .slice (some ⟨S, 0, none⟩) k k, .agg #[.int .i64 parts, .slice p k cap], .func (.func 123) #[] #[.pointer (some ⟨bk, 0, none⟩)], x.getD 0 undef, x.getD 1 undef, undef, undef, undef, undef, undef, undef, undef, undef, undef, undef, undef, undef, undef, undef, undef, undef, undef, undef, undef, undef, undef], defers := [] }) (fun x X => X.alloc (.cells (aggC (x.getD 1 undef)) 119 (0, 0))) (fun k X => alloc_below X _) ?assign ?body ?done (fun _ _ _ _ _ _ h => h.elim)
      case size =>
        intro j hj
        rw [HHS.out] at hj ⊢
        rw [HTL.out] at hj
        rw [tellG_ats _ _ _ hj]
        rfl
      case grows =>
        rintro j W1 W2 ⟨h1, h2, h3, h4, h5⟩ hb
        exact ⟨h1.later hb, h2.later hb, below_box hb h3, below_box hb h4, h5.trans (Only.fresh hb _)⟩
      case puts =>
        rintro j W1 l ob o' ⟨h1, h2, h3, h4, h5⟩ hl1 ho1 hc1
        exact ⟨h1.put ho1 hc1, h2.only put_only (fun e => by have e' : S = l := e; omega), put_only.obj h3 (fun e => by have e' : lB = l := e; omega), put_only.obj h4 (fun e => by have e' : sB = l := e; omega), h5.step put_only (fun i e => .inr (by have e' : i = l := e; omega))⟩
      case reads =>
        rintro j W1 ⟨h1, h2, h3, h4, h5⟩
        obtain ⟨lS, hlS, hoS, _⟩ := HSE5.out
        have hg := HG1.out.only h5 (fun i hi => by
          rcases hi with rfl | ⟨_, cs, hc⟩
          · obtain ⟨_, cur, h9⟩ := own_block_lt hoS (show (Value.slice (some ⟨i, 0, none⟩) k k).ownBlock = some i by simp [Value.ownBlock])
            exact ⟨_, _, h9, by decide, by decide⟩
          · exact ⟨_, _, hc, by decide, by decide⟩)
        have hbx : Boxed W1 bk 22 (.slice p' xs.length c') := h5.obj HX1.out (fun e => by
          rcases e with e | ⟨_, cs, hc⟩
          · have := HSS.out
            omega
          · have h9 := HX1.out
            unfold Boxed at h9
            rw [h9] at hc
            simp at hc)
        exact ⟨hbx.cell, hg.row⟩
      case start => exact HST.out
      case assign =>
        intro l j X K hj hK
        rw [HHS.out] at hj hK ⊢
        rw [HTL.out] at hj
        rw [tellG_ats _ _ _ hj] at hK ⊢
        obtain ⟨e, he⟩ : ∃ e, (flatC (os.map OV.o))[j]! = e := ⟨_, rfl⟩
        obtain ⟨i, hi⟩ : ∃ i, (atsG 0 (os.map OV.o))[j]! = i := ⟨_, rfl⟩
        rw [he, hi] at hK ⊢
        unfold eV at hK ⊢
        clear he hi
        simp only [aggC, Array.getD_eq_getD_getElem?, List.getElem?_toArray, List.getElem?_cons_zero, List.getElem?_cons_succ, Option.getD_some] at hK
        gi_wp2
        exact hK
      case body =>
        rintro l j Z X ⟨h1, h2, h3, h4, h5⟩ hj hsz hoX hlZ hwl
        rw [HHS.out] at hj hoX ⊢
        rw [HTL.out] at hj
        rw [tellG_ats _ _ _ hj] at hoX ⊢
        have hja : j < (atsG 0 (os.map OV.o)).length := by rw [atsG_len]; exact hj
        have hbd := ats_bd (os.map OV.o) 0 j hja
        obtain ⟨e, he⟩ : ∃ e, (flatC (os.map OV.o))[j]! = e := ⟨_, rfl⟩
        have hem : e ∈ flatC (os.map OV.o) := by rw [← he, getElem!_pos (flatC (os.map OV.o)) j hj]; exact List.getElem_mem _
        obtain ⟨q1, q2, q3, q4⟩ := edge_good HG.out.scan hem
        obtain ⟨i, hi⟩ : ∃ i, (atsG 0 (os.map OV.o))[j]! = i := ⟨_, rfl⟩
        have h96 : (flatC (os.map OV.o)).length ≤ 1048576 := by have h9 := flat_96 HG.out.scan HG.out.len; omega
        rw [he, hi] at hoX ⊢
        rw [hi] at hbd
        rw [List.length_map, HN.out] at hbd q2
        obtain ⟨ef, ep⟩ := e
        simp only at q1 q2 q3 q4
        obtain ⟨t, rfl⟩ : ∃ t : Nat, ef = (t : Int) := ⟨ef.toNat, by omega⟩
        obtain ⟨u, rfl⟩ : ∃ u : Nat, ep = (u : Int) := ⟨ep.toNat, by omega⟩
        obtain ⟨s, rfl⟩ : ∃ s : Nat, i = (s : Int) := ⟨i.toNat, by omega⟩
        have ht : t < k := by omega
        have hs : s < k := by omega
        rw [Int.toNat_natCast] at q4
        have hu : u < pN (os.map OV.o) t := by unfold pN; omega
        unfold eV at hoX ⊢
        simp only [aggC, Array.getD_eq_getD_getElem?, List.getElem?_toArray, List.getElem?_cons_zero, List.getElem?_cons_succ, Option.getD_some] at hoX ⊢
        have hpb : X.heap[Z.heap.size]? = some (.cells #[.int .i64 (t : Int), .int .i64 (u : Int)] 119 (0, 0)) := hoX.obj (heap_alloc_new Z _) (fun e => by have e' : Z.heap.size = l := e; omega)
        obtain ⟨zB, hzB⟩ : ∃ zB, Z.heap.size = zB := ⟨_, rfl⟩
        rw [hzB] at hpb ⊢
        obtain ⟨b, hval, ys, hy⟩ := h1.ins t ht
        obtain ⟨q, hq⟩ : ∃ q, pN (os.map OV.o) t = q := ⟨_, rfl⟩
        rw [hq] at hval hy hu
        obtain ⟨ls, hls, hos, hbs⟩ := h2
        have cL : X.drew.cell? ⟨lB, 0, none⟩ = some (.slice (some ⟨L, 0, none⟩) k k) := by show X.cell? _ = _; simp [World.cell?, h3]
        have cS : X.drew.cell? ⟨sB, 0, none⟩ = some (.slice (some ⟨S, 0, none⟩) k k) := by show X.cell? _ = _; simp [World.cell?, h4]
        have cE0 : X.drew.cell? ⟨zB, 0, none⟩ = some (.int .i64 (t : Int)) := by show X.cell? _ = _; simp [World.cell?, hpb]
        have cE1 : X.drew.cell? ⟨zB, 1, none⟩ = some (.int .i64 (u : Int)) := by show X.cell? _ = _; simp [World.cell?, hpb]
        have cO : X.drew.cell? ⟨L, t, none⟩ = some (.slice (some ⟨b, 0, none⟩) q q) := by
          show X.cell? _ = _
          rw [h1.own.cellAt t (by omega)]
          exact hval
        obtain ⟨v, hv⟩ : ∃ v, ls[s]! = v := ⟨_, rfl⟩
        have hvm : v ∈ ls := by rw [← hv, getElem!_pos ls s (by omega)]; exact List.getElem_mem _
        obtain ⟨v0, v1⟩ := hbs v hvm
        have cV : X.drew.cell? ⟨S, s, none⟩ = some (.int .i64 v) := by
          show X.cell? _ = _
          rw [hos.cellAt s (by omega), List.getElem?_map, List.getElem?_eq_getElem (by omega), ← hv, getElem!_pos ls s (by omega)]
          rfl
        obtain ⟨_, bcur, hbb⟩ := own_block_lt hy (show (Value.slice (some ⟨b, 0, none⟩) q q).ownBlock = some b by simp [Value.ownBlock])
        have hyl : ys.length = q * 2 := hy.1
        have cI0 : ∃ x, X.drew.cell? ⟨b, u * 2, none⟩ = some x := by
          have h9 := hy.cellAt (u * 2) (by omega)
          rw [List.getElem?_eq_getElem (by omega)] at h9
          exact ⟨_, h9⟩
        have cI1 : ∃ x, X.drew.cell? ⟨b, u * 2 + 1, none⟩ = some x := by
          have h9 := hy.cellAt (u * 2 + 1) (by omega)
          rw [List.getElem?_eq_getElem (by omega)] at h9
          exact ⟨_, h9⟩
        obtain ⟨i0', cI0⟩ := cI0
        obtain ⟨i1', cI1⟩ := cI1
        have zI0 : X.drew.frozen? ⟨b, u * 2, none⟩ = false := hy.frozenAt _
        have zI1 : X.drew.frozen? ⟨b, u * 2 + 1, none⟩ = false := hy.frozenAt _
        have cX0 : X.cell? ⟨b, u * 2, none⟩ = some i0' := cI0
        have zX0 : X.frozen? ⟨b, u * 2, none⟩ = false := zI0
        obtain ⟨i2', cX1⟩ : ∃ x, (X.setCell ⟨b, u * 2, none⟩ (.int .i64 (s : Int))).cell? ⟨b, u * 2 + 1, none⟩ = some x := by
          obtain ⟨g8, g9⟩ := hy.stored (u * 2) (.int .i64 (s : Int))
          have h9 := g8.cellAt (u * 2 + 1) (by omega)
          rw [List.getElem?_eq_getElem (by rw [List.length_set]; omega)] at h9
          exact ⟨_, h9⟩
        have zX1 : (X.setCell ⟨b, u * 2, none⟩ (.int .i64 (s : Int))).frozen? ⟨b, u * 2 + 1, none⟩ = false := (hy.stored (u * 2) (.int .i64 (s : Int))).1.frozenAt _
        obtain ⟨Y, hY⟩ : ∃ Y, Y = (X.drew.setCell ⟨b, u * 2, none⟩ (.int .i64 (s : Int))).setCell ⟨b, u * 2 + 1, none⟩ (.int .i64 v) := ⟨_, rfl⟩
        have hoY : Only (· = b) X Y := by rw [hY]; exact (Only.refl _ X).drew.trans ((Only.set (F := (· = b)) X.drew b (u * 2) _ rfl).trans (Only.set (F := (· = b)) _ b (u * 2 + 1) _ rfl))
        have hbne : b ≠ lB ∧ b ≠ sB ∧ b ≠ S := by
          refine ⟨fun e => ?_, fun e => ?_, fun e => ?_⟩
          · rw [e, h3] at hbb; simp at hbb
          · rw [e, h4] at hbb; simp at hbb
          · obtain ⟨_, c9, h9⟩ := own_block_lt hos (show (Value.slice (some ⟨S, 0, none⟩) k k).ownBlock = some S by simp [Value.ownBlock])
            rw [e, h9] at hbb; simp at hbb
        have cS2 : Y.cell? ⟨sB, 0, none⟩ = some (.slice (some ⟨S, 0, none⟩) k k) := hoY.cell cS (fun e => hbne.2.1 (by have e' : sB = b := e; exact e'.symm))
        have cV2 : Y.cell? ⟨S, s, none⟩ = some (.int .i64 v) := hoY.cell cV (fun e => hbne.2.2 (by have e' : S = b := e; exact e'.symm))
        have hosY := ownsRow_only hos hoY (fun d hd e => by have e1 : S = d := by simpa [Value.ownBlock] using hd
                                                            have e2 : d = b := e
                                                            exact hbne.2.2 (by omega))
        have zV2 : Y.frozen? ⟨S, s, none⟩ = false := hosY.frozenAt _
        have hwrap : IntKind.i64.wrap (v + 1) = v + 1 := by rw [IntKind.wrap_i64]; omega
        have hend : LeI w5 W.heap.size L S lB sB k (os.map OV.o) vals (j + 1) (Y.setCell ⟨S, s, none⟩ (.int .i64 (v + 1))) := by
          have hS9 : Only (· = S) Y (Y.setCell ⟨S, s, none⟩ (.int .i64 (v + 1))) := Only.set (F := (· = S)) _ _ _ _ rfl
          obtain ⟨_, _, hSb⟩ := own_block_lt hosY (show (Value.slice (some ⟨S, 0, none⟩) k k).ownBlock = some S by simp [Value.ownBlock])
          have hLY : LdI Y W.heap.size L k k (os.map OV.o) vals := by
            rw [hY]
            have g1 : LdI X.drew W.heap.size L k k (os.map OV.o) vals := h1.later (Below.refl _ X).drew
            have g2 := g1.set (j := u * 2) (b := b) (cs := bcur) hbb (.int .i64 (s : Int))
            exact g2.set (j := u * 2 + 1) (b := b) (heap_setCell_same _ b (u * 2) _ _ _ hbb) (.int .i64 v)
          refine ⟨hLY.only hS9 (fun i e cs ty hc => ?_), ?_, ?_, ?_, ?_⟩
          · have e' : i = S := e
            rw [e', hSb] at hc
            simp at hc
            rw [← hc.2]
            exact ⟨by decide, by decide⟩
          · refine ⟨ls.set s (v + 1), by rw [List.length_set]; exact hls, ?_, fun x hx => ?_⟩
            · rw [List.map_set]
              exact (hosY.stored s _).1
            · rcases List.mem_or_eq_of_mem_set hx with hx | rfl
              · have := hbs x hx
                omega
              · omega
          · exact hS9.obj (hoY.obj h3 (fun e => hbne.1 (by have e' : lB = b := e; exact e'.symm))) (fun e => by have e' : lB = S := e; have := HSS.out; omega)
          · exact hS9.obj (hoY.obj h4 (fun e => hbne.2.1 (by have e' : sB = b := e; exact e'.symm))) (fun e => by have e' : sB = S := e; have := HSS.out; omega)
          · have hF1 : Only (fun i => i = S ∨ (W.heap.size ≤ i ∧ ∃ cs, w5.heap[i]? = some (.cells cs 142 (0, 0)))) X Y := hoY.mono (fun i _ e => by
              have e' : i = b := e
              obtain ⟨b', hval', ys', hy'⟩ := HL5.out.ins t ht
              rw [hq] at hval' hy'
              rw [hval] at hval'
              simp at hval'
              subst hval'
              obtain ⟨_, c9, h9⟩ := own_block_lt hy' (show (Value.slice (some ⟨b, 0, none⟩) q q).ownBlock = some b by simp [Value.ownBlock])
              exact .inr ⟨by rw [e']; exact own_block_base hy' (show (Value.slice (some ⟨b, 0, none⟩) q q).ownBlock = some b by simp [Value.ownBlock]), c9, by rw [e']; exact h9⟩)
            exact (h5.trans hF1).trans (hS9.mono (fun i _ e => .inl e))
        have hkp : ∀ B, KeepsFrom B X (Y.setCell ⟨S, s, none⟩ (.int .i64 (v + 1))) := fun B => by
          have hS9 : Only (fun i => i = b ∨ i = S) X (Y.setCell ⟨S, s, none⟩ (.int .i64 (v + 1))) := (hoY.mono (fun i _ e => .inl e)).trans ((Only.set (F := (· = S)) Y S s _ rfl).mono (fun i _ e => .inr e))
          refine ⟨hS9.size, fun d o _ hd hc => hS9.obj hd ?_⟩
          rintro (e | e)
          · rw [e, hbb] at hd
            cases hd
            simp [Obj.isCells] at hc
          · obtain ⟨_, c9, h9⟩ := own_block_lt hos (show (Value.slice (some ⟨S, 0, none⟩) k k).ownBlock = some S by simp [Value.ownBlock])
            rw [e, h9] at hd
            cases hd
            simp [Obj.isCells] at hc
        have HEND := hide hend
        have HKP := hide hkp
        clear hend hkp hosY hoY hbs hos hy hyl hbb h1 h3 h4 h5 hpb hoX he hem hi
        gi_wp2_with fail
        refine region_still_in (by kernel_rfl) 14 rfl (by kernel_rfl) (by kernel_rfl) (by kernel_rfl) (fun i => 36 + i)
          (fun i => match i with | 0 => .slice (some ⟨L, 0, none⟩) k k | 1 => .pointer (some ⟨zB, 0, none⟩) | 2 => .int .i64 (t : Int) | 3 => .pointer (some ⟨L, t, none⟩) | 4 => .slice (some ⟨b, 0, none⟩) q q | 5 => .pointer (some ⟨zB, 1, none⟩) | 6 => .int .i64 (u : Int) | 7 => .int .i64 (s : Int) | 8 => .slice (some ⟨S, 0, none⟩) k k | 9 => .int .i64 (s : Int) | 10 => .pointer (some ⟨S, s, none⟩) | 11 => .int .i64 v | 12 => .agg #[.int .i64 (s : Int), .int .i64 v] | 13 => .pointer (some ⟨b, u * 2, none⟩) | _ => undef) ?inj ?range ?step ?fin
        case inj => intro i j _ _ h; omega
        case range => intro i hi; simp; omega
        case step =>
          intro i hi a K hdep hbase hdf hsa hK
          have e3 : a.tmps.getD 3 undef = .pointer (some ⟨lB, 0, none⟩) := hbase 3 (by intro i hi; omega)
          have e6 : a.tmps.getD 6 undef = .pointer (some ⟨sB, 0, none⟩) := hbase 6 (by intro i hi; omega)
          have e7 : a.tmps.getD 7 undef = .int .i64 (s : Int) := hbase 7 (by intro i hi; omega)
          have e8 : a.tmps.getD 8 undef = .pointer (some ⟨zB, 0, none⟩) := hbase 8 (by intro i hi; omega)
          obtain rfl | rfl | rfl | rfl | rfl | rfl | rfl | rfl | rfl | rfl | rfl | rfl | rfl | rfl : i = 0 ∨ i = 1 ∨ i = 2 ∨ i = 3 ∨ i = 4 ∨ i = 5 ∨ i = 6 ∨ i = 7 ∨ i = 8 ∨ i = 9 ∨ i = 10 ∨ i = 11 ∨ i = 12 ∨ i = 13 := by omega
          · refine step_readF rfl rfl (by intro c hc; cases hc) ?_ hK
            simp [execOp, Act.eval, go_sem, e3, cL]
          · refine step_readF rfl rfl (by intro c hc; cases hc) ?_ hK
            simp [execOp, Act.eval, go_sem, e8]
          · have e37 : a.tmps.getD 37 undef = .pointer (some ⟨zB, 0, none⟩) := hdep 1 (by omega) (by kernel_rfl)
            refine step_readF rfl rfl (by intro c hc; cases hc) ?_ hK
            simp [execOp, Act.eval, go_sem, e37, cE0]
          · have e36 : a.tmps.getD 36 undef = .slice (some ⟨L, 0, none⟩) k k := hdep 0 (by omega) (by kernel_rfl)
            have e38 : a.tmps.getD 38 undef = .int .i64 (t : Int) := hdep 2 (by omega) (by kernel_rfl)
            refine step_readF rfl rfl (by intro c hc; cases hc) ?_ hK
            simp [execOp, Act.eval, go_sem, e36, e38, ht]
          · have e39 : a.tmps.getD 39 undef = .pointer (some ⟨L, t, none⟩) := hdep 3 (by omega) (by kernel_rfl)
            refine step_readF rfl rfl (by intro c hc; cases hc) ?_ hK
            simp [execOp, Act.eval, go_sem, e39, cO]
          · refine step_readF rfl rfl (by intro c hc; cases hc) ?_ hK
            simp [execOp, Act.eval, go_sem, e8]
          · have e41 : a.tmps.getD 41 undef = .pointer (some ⟨zB, 1, none⟩) := hdep 5 (by omega) (by kernel_rfl)
            refine step_readF rfl rfl (by intro c hc; cases hc) ?_ hK
            simp [execOp, Act.eval, go_sem, e41, cE1]
          · refine step_readF rfl rfl (by intro c hc; cases hc) ?_ hK
            simp [execOp, Act.eval, go_sem, e7]
          · refine step_readF rfl rfl (by intro c hc; cases hc) ?_ hK
            simp [execOp, Act.eval, go_sem, e6, cS]
          · refine step_readF rfl rfl (by intro c hc; cases hc) ?_ hK
            simp [execOp, Act.eval, go_sem, e7]
          · have e44 : a.tmps.getD 44 undef = .slice (some ⟨S, 0, none⟩) k k := hdep 8 (by omega) (by kernel_rfl)
            have e45 : a.tmps.getD 45 undef = .int .i64 (s : Int) := hdep 9 (by omega) (by kernel_rfl)
            refine step_readF rfl rfl (by intro c hc; cases hc) ?_ hK
            simp [execOp, Act.eval, go_sem, e44, e45, hs]
          · have e46 : a.tmps.getD 46 undef = .pointer (some ⟨S, s, none⟩) := hdep 10 (by omega) (by kernel_rfl)
            refine step_readF rfl rfl (by intro c hc; cases hc) ?_ hK
            simp [execOp, Act.eval, go_sem, e46, cV]
          · have e43 : a.tmps.getD 43 undef = .int .i64 (s : Int) := hdep 7 (by omega) (by kernel_rfl)
            have e47 : a.tmps.getD 47 undef = .int .i64 v := hdep 11 (by omega) (by kernel_rfl)
            rw [Array.getD_eq_getD_getElem?] at e43 e47
            refine step_readF rfl rfl (by intro c hc; cases hc) ?_ hK
            simp [execOp, Act.eval, go_sem, e43, e47]
          · have e40 : a.tmps.getD 40 undef = .slice (some ⟨b, 0, none⟩) q q := hdep 4 (by omega) (by kernel_rfl)
            have e42 : a.tmps.getD 42 undef = .int .i64 (u : Int) := hdep 6 (by omega) (by kernel_rfl)
            refine step_readF rfl rfl (by intro c hc; cases hc) ?_ hK
            simp [execOp, Act.eval, go_sem, e40, e42, hu]
        case fin =>
          intro a K hv hb hd hsa hQK
          have e48 : a.tmps.getD 48 undef = .agg #[.int .i64 (s : Int), .int .i64 v] := hv 12 (by omega)
          have e49 : a.tmps.getD 49 undef = .pointer (some ⟨b, u * 2, none⟩) := hv 13 (by omega)
          have ea := still_tmps hsa (by simp) hv hb
          have et : a.tmps = #[.agg #[.int .i64 parts, .slice p k cap], .pointer (some ⟨gB, 0, none⟩), .slice none 0 0, .pointer (some ⟨lB, 0, none⟩), u4, u5, .pointer (some ⟨sB, 0, none⟩), .int .i64 (s : Int), .pointer (some ⟨zB, 0, none⟩), .pointer (some ⟨gB, 1, none⟩), .slice p k cap, .int .i64 (k : Int), .slice (some ⟨L, 0, none⟩) k k, .pointer (some ⟨gB, 1, none⟩), .slice p k cap, .int .i64 (k : Int), .int .i64 (k : Int), .bool false, u18, u19, u20, u21, u22, u23, u24, u25, u26, u27, .pointer (some ⟨gB, 1, none⟩), .slice p k cap, .int .i64 (k : Int), .slice (some ⟨S, 0, none⟩) k k, .agg #[.int .i64 parts, .slice p k cap], .func (.func 123) #[] #[.pointer (some ⟨bk, 0, none⟩)], .int .i64 (s : Int), .agg #[.int .i64 (t : Int), .int .i64 (u : Int)], .slice (some ⟨L, 0, none⟩) k k, .pointer (some ⟨zB, 0, none⟩), .int .i64 (t : Int), .pointer (some ⟨L, t, none⟩), .slice (some ⟨b, 0, none⟩) q q, .pointer (some ⟨zB, 1, none⟩), .int .i64 (u : Int), .int .i64 (s : Int), .slice (some ⟨S, 0, none⟩) k k, .int .i64 (s : Int), .pointer (some ⟨S, s, none⟩), .int .i64 v, .agg #[.int .i64 (s : Int), .int .i64 v], .pointer (some ⟨b, u * 2, none⟩), undef, undef, undef, undef, undef, undef, undef] := ea.trans (by kernel_rfl)
          obtain ⟨tm, df⟩ := a
          simp only at et hd e48 e49
          refine step_skipF rfl rfl (by intro c hc; cases hc) (w' := Y) ?_ (hQK _ _ ?_)
          · simp [execOp, Act.eval, go_sem, e48, e49, cX0, zX0, cX1, zX1]
            rw [hY]
            rfl
          · have hd' : df = [] := hd
            clear e48 e49 hv hb hsa ea hd hY cX0 zX0 cX1 zX1 cI0 cI1 zI0 zI1 cL cS cE0 cE1 cO cV
            subst et hd'
            gi_wp2
            exact ⟨HKP.out _, HEND.out⟩
      case done =>
        rintro D X hD ⟨h1, h2, h3, h4, h5⟩ hKD
        have c1 : X.cell? ⟨lB, 0, none⟩ = some (.slice (some ⟨L, 0, none⟩) k k) := by simp [World.cell?, h3]
        have HKD := hide hKD
        have HB : Hid (Below W.heap.size W X) := hide (HB5.out.trans (h5.below HB5.out.size (fun i e => by
          rcases e with e | ⟨e, _⟩
          · have := HSS.out
            omega
          · exact e)))
        have hDW : W.heap.size ≤ D := Nat.le_trans HB5.out.size hD
        clear h1 h2 h3 h4 h5 hKD
        go_wp2
        refine ⟨by simp, .inl ⟨_, _, rfl, run_takeDeferred HKD.out, ?_⟩⟩
        refine ⟨_, results_tmp rfl _ _ _, L, rfl, ?_⟩
        exact HB.out.trans (put_only.below HB.out.size (fun i e => by have e' : i = D := e; omega))
theorem leads_good {W : World} {parts : Int} {p : Option Addr} {cap n : Nat} {os : List OV} (ho : GRow W p cap os) (hn : os.length = n) (hg : Good parts (os.map OV.o)) :
    Calls Tryz.prog 39 #[.agg #[.int .i64 parts, .slice p n cap]] W fun e w' => ∃ g, e = .returned (.slice (some ⟨g, 0, none⟩) n n) ∧ Below W.heap.size W w' :=
  callsIn_wide.1 (leads_in ho hn hg)
end Go.Proofs.YtlfipmieaabagaaGreat
