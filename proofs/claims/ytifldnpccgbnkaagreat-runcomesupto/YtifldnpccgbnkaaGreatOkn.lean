/-
  entriesOf: an entry for each key of some records. The conditions: lengths.
-/
import Derived.Test.YtifldnpccgbnkaaGreatOen
import Derived.Test.YtifldnpccgbnkaaGreatRum
namespace Go.Proofs.YtifldnpccgbnkaaGreat.Op
open Go.RowKit

theorem Tryz.infoEn : (Tryz.prog.info? 149).map (fun i => (i.zero, i.size, i.bytes)) = some (some (.agg #[.int .i64 0, .int .i64 0, .int .i64 0, .int .i64 0, .int .i64 0]), 5, 40) := by kernel_rfl
def fillK (ks : List Int) (j : Nat) : List Int := ks.take j ++ List.replicate (ks.length - j) 0
theorem fillK_next {ks : List Int} {j : Nat} (hj : j < ks.length) : (fillK ks j).set j (ks.getD j 0) = fillK ks (j + 1) := by
  unfold fillK
  rw [show ks.length - j = (ks.length - (j + 1)) + 1 by omega, List.replicate_succ, List.set_append_right _ _ (by simp; omega), List.length_take, Nat.min_eq_left (by omega), Nat.sub_self, List.set_cons_zero, List.take_add_one, List.getElem?_eq_getElem hj, List.append_assoc, List.getD_eq_getElem?_getD, List.getElem?_eq_getElem hj]
  rfl
theorem fillK_at {ks : List Int} {j : Nat} (hj : j < ks.length) : (fillK ks j).getD j 0 = 0 := by
  unfold fillK
  rw [show ks.length - j = (ks.length - (j + 1)) + 1 by omega, List.replicate_succ, List.getD_eq_getElem?_getD, List.getElem?_append_right (by simp; omega), List.length_take, Nat.min_eq_left (by omega), Nat.sub_self]
  rfl
theorem fillK_all {ks : List Int} : fillK ks ks.length = ks := by unfold fillK; simp
theorem fillK_len {ks : List Int} {j : Nat} (hj : j ≤ ks.length) : (fillK ks j).length = ks.length := by unfold fillK; simp; omega

def fillE (es : List EN) (j : Nat) : List EN := es.take j ++ List.replicate (es.length - j) ⟨0, 0, 0, 0, 0⟩
theorem fillE_next {es : List EN} {j : Nat} (hj : j < es.length) : (fillE es j).set j es[j]! = fillE es (j + 1) := by
  unfold fillE
  rw [show es.length - j = (es.length - (j + 1)) + 1 by omega, List.replicate_succ, List.set_append_right _ _ (by simp; omega), List.length_take, Nat.min_eq_left (by omega), Nat.sub_self, List.set_cons_zero, List.take_add_one, List.getElem?_eq_getElem hj, List.append_assoc, getElem!_pos es j hj]
  rfl
theorem fillE_at {es : List EN} {j : Nat} (hj : j < es.length) : (fillE es j)[j]! = ⟨0, 0, 0, 0, 0⟩ := by
  unfold fillE
  rw [show es.length - j = (es.length - (j + 1)) + 1 by omega, List.replicate_succ, List.getElem!_eq_getElem?_getD, List.getElem?_append_right (by simp; omega), List.length_take, Nat.min_eq_left (by omega), Nat.sub_self]
  rfl
theorem fillE_all {es : List EN} : fillE es es.length = es := by unfold fillE; simp
theorem fillE_len {es : List EN} {j : Nat} (hj : j ≤ es.length) : (fillE es j).length = es.length := by unfold fillE; simp; omega
theorem made_ens : ∀ n, (madeCells (Value.agg #[.int .i64 0, .int .i64 0, .int .i64 0, .int .i64 0, .int .i64 0]).cells (n * 5)).toList = (List.replicate n (⟨0, 0, 0, 0, 0⟩ : EN)).flatMap EN.cells := by
  intro n
  have h1 : ∀ n, (List.replicate n (⟨0, 0, 0, 0, 0⟩ : EN)).flatMap EN.cells = List.replicate (n * 5) (Value.int .i64 0) := by
    intro n
    induction n with
    | zero => rfl
    | succ n ih => rw [List.replicate_succ, List.flatMap_cons, ih, Nat.succ_mul, Nat.add_comm, ← List.replicate_append_replicate]; rfl
  rw [h1]
  apply List.ext_getElem
  · simp [size_madeCells]
  · intro i h2 h3
    have h4 : i % 5 < 5 := Nat.mod_lt _ (by decide)
    simp [madeCells, Value.cells]
    rcases (by omega : i % 5 = 0 ∨ i % 5 = 1 ∨ i % 5 = 2 ∨ i % 5 = 3 ∨ i % 5 = 4) with e | e | e | e | e <;> rw [e] <;> rfl
/-- Storing an entry into a row of entries. -/
theorem EN.stored {w : World} {base g n cap k : Nat} {es : List EN} (h : w.ownsRow base 149 5 (.slice (some ⟨g, 0, none⟩) n cap) n (es.flatMap EN.cells)) (hk : k < es.length) (x : EN) :
    (((((w.setCell ⟨g, k * 5, none⟩ (.int .i64 x.first)).setCell ⟨g, k * 5 + 1, none⟩ (.int .i64 x.key)).setCell ⟨g, k * 5 + 2, none⟩ (.int .i64 x.cnt)).setCell ⟨g, k * 5 + 3, none⟩ (.int .i64 x.acc)).setCell ⟨g, k * 5 + 4, none⟩ (.int .i64 x.gap)).ownsRow base 149 5 (.slice (some ⟨g, 0, none⟩) n cap) n ((es.set k x).flatMap EN.cells) := by
  obtain ⟨e, he⟩ : ∃ e, es[k]! = e := ⟨_, rfl⟩
  have hset : ∀ (l : List EN) (y : EN), k < l.length → (l.set k y)[k]! = y := fun l y hl => by rw [getElem!_pos _ k (by simpa using hl), List.getElem_set_self]
  have step : ∀ (w : World) (l : List EN) (a : EN) (j : Nat) (y : EN) (u : Value), j < 5 → k < l.length → l[k]! = a → EN.cells y = (EN.cells a).set j u → w.ownsRow base 149 5 (.slice (some ⟨g, 0, none⟩) n cap) n (l.flatMap EN.cells) → (w.setCell ⟨g, k * 5 + j, none⟩ u).ownsRow base 149 5 (.slice (some ⟨g, 0, none⟩) n cap) n ((l.set k y).flatMap EN.cells) := fun w l a j y u hj hl ha hy h9 => by
    rw [flat_set (cells := EN.cells) l (fun o _ => o.len) k j y u hl hj (by rw [ha]; exact hy)]
    exact (h9.stored (k * 5 + j) u).1
  have s0 := step _ _ e 0 ⟨x.first, e.key, e.cnt, e.acc, e.gap⟩ (.int .i64 x.first) (by decide) hk he rfl h
  have s1 := step _ _ ⟨x.first, e.key, e.cnt, e.acc, e.gap⟩ 1 ⟨x.first, x.key, e.cnt, e.acc, e.gap⟩ (.int .i64 x.key) (by decide) (by simpa using hk) (hset _ _ hk) rfl s0
  have s2 := step _ _ ⟨x.first, x.key, e.cnt, e.acc, e.gap⟩ 2 ⟨x.first, x.key, x.cnt, e.acc, e.gap⟩ (.int .i64 x.cnt) (by decide) (by simpa using hk) (hset _ _ (by simpa using hk)) rfl s1
  have s3 := step _ _ ⟨x.first, x.key, x.cnt, e.acc, e.gap⟩ 3 ⟨x.first, x.key, x.cnt, x.acc, e.gap⟩ (.int .i64 x.acc) (by decide) (by simpa using hk) (hset _ _ (by simpa using hk)) rfl s2
  have s4 := step _ _ ⟨x.first, x.key, x.cnt, x.acc, e.gap⟩ 4 x (.int .i64 x.gap) (by decide) (by simpa using hk) (hset _ _ (by simpa using hk)) rfl s3
  simp only [List.set_set, Nat.add_zero] at s4
  exact s4

set_option maxRecDepth 100000 in
set_option maxHeartbeats 8000000 in
theorem entriesOf_any {W : World} {p : Option Addr} {c n : Nat} {rs : List RC} {nn : Int} (h : RRow W p c rs) (hn : rs.length = n) (hb : n ≤ 1048576) :
    Calls Tryz.prog 79 #[.slice p n c, .int .i64 nn] W fun e w' => ∃ g m es, e = .returned (.slice (some ⟨g, 0, none⟩) m m) ∧ es = (keysC (rs.map RC.key)).map (fun k => (⟨nn, k, 0, 0, 0⟩ : EN)) ∧ es.length = m ∧ w'.ownsRow W.heap.size 149 5 (.slice (some ⟨g, 0, none⟩) m m) m (es.flatMap EN.cells) ∧ Below W.heap.size W w' := by
  obtain ⟨i0, hI0, hz0, hz1, hz2⟩ := info_parts Tryz.infoL
  obtain ⟨j0, hJ0, hy0, hy1, hy2⟩ := info_parts Tryz.infoEn
  have i1 := h.le
  have i2 := h.top
  rw [hn] at i1
  obtain ⟨ks, hks⟩ : ∃ ks, rs.map RC.key = ks := ⟨_, rfl⟩
  have hkl : ks.length = n := by rw [← hks, List.length_map]; exact hn
  rw [hks]
  obtain ⟨w1, hrun, hown, hgr⟩ := run_make_full W W.heap.size 82 2 i0 (.int .i64 0) 1 Tryz.underlying82 hI0 hz0 hz1 .i64 .i64 n (by rw [hz2]; omega) (by unfold maxLen; omega) (Nat.le_refl _)
  rw [made_ints] at hown
  have hb1 : Below W.heap.size W w1 := (Below.refl _ W).grown hgr (Nat.le_refl _) (fun k hk => by simp at hk)
  obtain ⟨g, hg⟩ : ∃ g, W.heap.size = g := ⟨_, rfl⟩
  rw [hg] at hrun
  have HOW0 : Hid (w1.ownsRow W.heap.size 2 1 (.slice (some ⟨g, 0, none⟩) n n) n ((fillK ks 0).map (Value.int .i64))) := by
    unfold fillK
    rw [List.take_zero, List.nil_append, Nat.sub_zero, hkl, ← hg]
    exact hide hown
  have HB1 := hide hb1
  have HR := hide h
  have HN := hide hn
  have HKS := hide hks
  have HKL := hide hkl
  have HG := hide hg
  clear h hn hks hkl hown hgr hb1 hg
  go_enter Tryz.func79, Tryz.ntmps79
  go_wp2_with fail
  go_loopw [16] (fun s wq => ∃ j : Nat, j ≤ n ∧ s = .int .i64 (j : Int) ∧ Hid (wq.ownsRow W.heap.size 2 1 (.slice (some ⟨g, 0, none⟩) n n) n ((fillK ks j).map (Value.int .i64))) ∧ Hid (Below W.heap.size W wq)) (fun s _ => n - (intOf s).toNat)
  case atStart => exact ⟨0, Nat.zero_le _, rfl, HOW0, HB1⟩
  case round =>
    obtain ⟨j, hj, rfl, HO, HB⟩ := hrel
    rename World => wq
    clear HOW0 HB1
    by_cases hlt : j < n
    · have hlt2 : j < rs.length := by rw [HN.out]; exact hlt
      have hlk : j < ks.length := by rw [HKL.out]; exact hlt
      obtain ⟨g2, o2, rfl, hc⟩ := (RRow.later HR.out HB.out).cell j hlt2
      obtain ⟨⟨ky, vl⟩, hx⟩ : ∃ x, rs[j]! = x := ⟨_, rfl⟩
      rw [hx] at hc
      have d0 : wq.cell? ⟨g2, o2 + j * 2, none⟩ = some (.int .i64 ky) := hc 0 (by omega)
      have d1 : wq.cell? ⟨g2, o2 + j * 2 + 1, none⟩ = some (.int .i64 vl) := hc 1 (by omega)
      have hky : ks.getD j 0 = ky := by
        rw [← HKS.out, List.getD_eq_getElem?_getD, List.getElem?_map, List.getElem?_eq_getElem hlt2]
        rw [getElem!_pos rs j hlt2] at hx
        simp [hx]
      have ab := alloc_below wq (.cells #[.int .i64 ky, .int .i64 vl] 71 (0, 0))
      have hbx : (wq.alloc (.cells #[.int .i64 ky, .int .i64 vl] 71 (0, 0))).heap[wq.heap.size]? = some (.cells #[.int .i64 ky, .int .i64 vl] 71 (0, 0)) := heap_alloc_new wq _
      have hO2 := ownsRow_later HO.out ab
      have hnx := fillK_next hlk
      rw [hky] at hnx
      obtain ⟨bb, oo, hbo, _, _, _, hcc⟩ := (own_row hO2).cellAt (by rw [fillK_len (by omega)]; omega)
      simp only [Option.some.injEq, Addr.mk.injEq, and_true] at hbo
      obtain ⟨rfl, rfl⟩ := hbo
      have c0 := hcc j hlt
      rw [Nat.zero_add, fillK_at hlk] at c0
      have f0 : (wq.alloc (.cells #[.int .i64 ky, .int .i64 vl] 71 (0, 0))).frozen? ⟨g, j, none⟩ = false := hO2.frozenAt _
      have HO3 : Hid (((wq.alloc (.cells #[.int .i64 ky, .int .i64 vl] 71 (0, 0))).setCell ⟨g, j, none⟩ (.int .i64 ky)).ownsRow W.heap.size 2 1 (.slice (some ⟨g, 0, none⟩) n n) n ((fillK ks (j + 1)).map (Value.int .i64))) := by
        have h9 := (hO2.stored j (.int .i64 ky)).1
        rw [← List.map_set, hnx] at h9
        exact hide h9
      have HB3 : Hid (Below W.heap.size W ((wq.alloc (.cells #[.int .i64 ky, .int .i64 vl] 71 (0, 0))).setCell ⟨g, j, none⟩ (.int .i64 ky))) := hide ((HB.out.trans (ab.mono HB.out.size)).setCell (p := ⟨g, j, none⟩) (Nat.le_of_eq HG.out) _)
      obtain ⟨v1, hv1⟩ : ∃ v1, v1 = wq.alloc (.cells #[.int .i64 ky, .int .i64 vl] 71 (0, 0)) := ⟨_, rfl⟩
      rw [← hv1] at hbx c0 f0 HO3 HB3
      obtain ⟨xb, hxb⟩ : ∃ xb, wq.heap.size = xb := ⟨_, rfl⟩
      rw [hxb] at hbx
      have e0 : v1.cell? ⟨xb, 0, none⟩ = some (.int .i64 ky) := by simp [World.cell?, hbx]
      clear hc hx hlt2 hlk hky ab hO2 hnx hcc hbx
      go_upto_region 5 with fail
      rw [← hv1]
      try rw [hxb]
      clear hv1 hxb
      go_wp2
      exact ⟨⟨j + 1, by omega, by first | rfl | go_num, HO3, HB3⟩, by simp [intOf]; omega⟩
    · obtain rfl : j = n := by omega
      have hO := HO.out
      rw [show fillK ks j = ks by rw [← HKL.out]; exact fillK_all] at hO
      have HS := hide (sort_any hO (by omega))
      clear hO HO
      go_wp2_with fail
      refine HS.out.mono ?_
      rintro _ w2 ⟨rfl, O2, N2⟩
      have HB2 : Hid (Below W.heap.size W w2) := hide (HB.out.trans (N2.below HB.out.size (fun i e => by have e' : i = g := e; have := HG.out; omega)))
      have HC := hide (compact_any O2 (by omega))
      clear O2 N2 HS HB
      go_wp2_with fail
      refine HC.out.mono ?_
      rintro _ w3 ⟨rfl, O3, N3⟩
      have HB3 : Hid (Below W.heap.size W w3) := hide (HB2.out.trans (N3.below HB2.out.size (fun i e => by have e' : i = g := e; have := HG.out; omega)))
      obtain ⟨qs, hqs⟩ : ∃ qs, keysC ks = qs := ⟨_, rfl⟩
      have hqs2 : Lib.compact (sortC ks) = qs := hqs
      rw [hqs2] at O3 ⊢
      obtain ⟨m, hm⟩ : ∃ m, qs.length = m := ⟨_, rfl⟩
      have hmj : m ≤ j := by
        have h9 := Lib.compact_length_le (sortC ks)
        rw [hqs2, hm, (sortC_perm ks).length_eq, HKL.out] at h9
        exact h9
      rw [hm] at O3 ⊢
      obtain ⟨w4, hrun2, hown2, hgr2⟩ := run_make_full w3 w3.heap.size 142 149 j0 (.agg #[.int .i64 0, .int .i64 0, .int .i64 0, .int .i64 0, .int .i64 0]) 5 Tryz.underlying142 hJ0 hy0 hy1 .i64 .i64 m (by rw [hy2]; omega) (by unfold maxLen; omega) (Nat.le_refl _)
      rw [made_ens] at hown2
      have hb4 : Below w3.heap.size w3 w4 := (Below.refl _ w3).grown hgr2 (Nat.le_refl _) (fun k hk => by simp at hk)
      obtain ⟨es, hes⟩ : ∃ es, qs.map (fun k => (⟨nn, k, 0, 0, 0⟩ : EN)) = es := ⟨_, rfl⟩
      have hel : es.length = m := by rw [← hes, List.length_map]; exact hm
      obtain ⟨g2, hg2⟩ : ∃ g2, w3.heap.size = g2 := ⟨_, rfl⟩
      rw [hg2] at hrun2 hown2
      have HOE0 : Hid (w4.ownsRow g2 149 5 (.slice (some ⟨g2, 0, none⟩) m m) m ((fillE es 0).flatMap EN.cells)) := by
        unfold fillE
        rw [List.take_zero, List.nil_append, Nat.sub_zero, hel]
        exact hide hown2
      have HOK := hide (ownsRow_later O3 hb4)
      have HB4 : Hid (Below W.heap.size W w4) := hide (HB3.out.trans (hb4.mono HB3.out.size))
      have hWg2 : W.heap.size ≤ g2 := by rw [← hg2]; exact HB3.out.size
      have hgg : g < g2 := by rw [← hg2]; exact (O3.lt g rfl).2
      have HQS := hide hqs
      have HM := hide hm
      have HES := hide hes
      have HEL := hide hel
      clear O3 N3 HC hown2 hgr2 hb4 HB2 hg2 hqs hqs2 hm hes hel
      go_wp2_with fail
      go_loopw [36] (fun s wr => ∃ k : Nat, k ≤ m ∧ s = .int .i64 (k : Int) ∧ Hid (wr.ownsRow g2 149 5 (.slice (some ⟨g2, 0, none⟩) m m) m ((fillE es k).flatMap EN.cells)) ∧ Hid (Only (· = g2) w4 wr)) (fun s _ => m - (intOf s).toNat)
      case atStart => exact ⟨0, Nat.zero_le _, rfl, HOE0, hide (Only.refl _ _)⟩
      case round =>
        obtain ⟨k, hk, rfl, HOE, HY⟩ := hrel
        rename World => wr
        clear HOE0
        by_cases hkt : k < m
        · have hkq : k < qs.length := by rw [HM.out]; exact hkt
          have hke : k < es.length := by rw [HEL.out]; exact hkt
          obtain ⟨bb, oo, hbo, _, _, _, hcc⟩ := (own_row HOK.out).cellAt (by omega)
          simp only [Option.some.injEq, Addr.mk.injEq, and_true] at hbo
          obtain ⟨rfl, rfl⟩ := hbo
          have c0 := HY.out.cell (hcc k hkt) (fun e => by have e' : g = g2 := e; omega)
          rw [Nat.zero_add] at c0
          obtain ⟨ky, hky⟩ : ∃ ky, qs.getD k 0 = ky := ⟨_, rfl⟩
          rw [hky] at c0
          have hx : es[k]! = ⟨nn, ky, 0, 0, 0⟩ := by
            rw [getElem!_pos es k hke]
            rw [List.getD_eq_getElem?_getD, List.getElem?_eq_getElem hkq] at hky
            simp only [Option.getD_some] at hky
            simp only [← HES.out, List.getElem_map, hky]
          have hfl : (fillE es k).length = m := by rw [fillE_len (by omega)]; exact HEL.out
          obtain ⟨_, _, _, q4⟩ := own_list (cells := EN.cells) (fun o _ => o.len) hfl HOE.out
          obtain ⟨gg, o2, hpg, hc⟩ := q4 k (by omega)
          simp only [Option.some.injEq, Addr.mk.injEq, and_true] at hpg
          obtain ⟨rfl, rfl⟩ := hpg
          rw [fillE_at hke] at hc
          have hst := EN.stored HOE.out (k := k) (by omega) ⟨nn, ky, 0, 0, 0⟩
          have hnx := fillE_next hke
          rw [hx] at hnx
          rw [hnx] at hst
          have HST := hide hst
          have c1 : wr.cell? ⟨g2, k * 5, none⟩ = some (.int .i64 0) := by have h9 := hc 0 (by decide); rw [Nat.zero_add] at h9; exact h9
          have c2 : wr.cell? ⟨g2, k * 5 + 1, none⟩ = some (.int .i64 0) := by have h9 := hc 1 (by decide); rw [Nat.zero_add] at h9; exact h9
          have c3 : wr.cell? ⟨g2, k * 5 + 2, none⟩ = some (.int .i64 0) := by have h9 := hc 2 (by decide); rw [Nat.zero_add] at h9; exact h9
          have c4 : wr.cell? ⟨g2, k * 5 + 3, none⟩ = some (.int .i64 0) := by have h9 := hc 3 (by decide); rw [Nat.zero_add] at h9; exact h9
          have c5 : wr.cell? ⟨g2, k * 5 + 4, none⟩ = some (.int .i64 0) := by have h9 := hc 4 (by decide); rw [Nat.zero_add] at h9; exact h9
          have fz : ∀ i, wr.frozen? ⟨g2, i, none⟩ = false := fun i => HOE.out.frozenAt _
          have fz0 := fz (k * 5)
          have fz1 := fz (k * 5 + 1)
          have fz2 := fz (k * 5 + 2)
          have fz3 := fz (k * 5 + 3)
          have fz4 := fz (k * 5 + 4)
          have HYF := HY
          clear hcc hky hx hfl q4 hc hst hnx fz hkq hke
          go_wp2
          refine ⟨⟨k + 1, by omega, by first | rfl | go_num, HST, hide ?_⟩, by simp [intOf]; omega⟩
          exact ((((HYF.out.trans (Only.set wr g2 (k * 5) _ rfl)).trans (Only.set _ g2 (k * 5 + 1) _ rfl)).trans (Only.set _ g2 (k * 5 + 2) _ rfl)).trans (Only.set _ g2 (k * 5 + 3) _ rfl)).trans (Only.set _ g2 (k * 5 + 4) _ rfl)
        · obtain rfl : k = m := by omega
          have HF : Hid (wr.ownsRow W.heap.size 149 5 (.slice (some ⟨g2, 0, none⟩) k k) k (es.flatMap EN.cells)) := by
            have h9 := HOE.out
            rw [show fillE es k = es by rw [← HEL.out]; exact fillE_all] at h9
            exact hide (ownsRow_base h9 hWg2)
          have HBF : Hid (Below W.heap.size W wr) := hide (HB4.out.trans (HY.out.below HB4.out.size (fun i e => by have e' : i = g2 := e; omega)))
          clear HOE HY
          go_wp2
          go_ret
          exact ⟨g2, k, es, rfl, by rw [HQS.out]; exact HES.out.symm, HEL.out, HF.out, HBF.out⟩
end Go.Proofs.YtifldnpccgbnkaaGreat.Op
/-
  gap of a ledger: where a new one of a key is to stand. The conditions: lengths.
-/
namespace Go.Proofs.YtifldnpccgbnkaaGreat.Op
open Go.RowKit

def gapC (L : LG) (j1 : Nat) (f1 : Bool) (j2 : Nat) (f2 : Bool) : Int :=
  if f2 = true then min (if f1 = true then (j1 : Int) else (L.old.length : Int)) (L.es[j2]!).gap else (if f1 = true then (j1 : Int) else (L.old.length : Int))

set_option maxRecDepth 100000 in
set_option maxHeartbeats 4000000 in
theorem gap_any {W : World} {base lb : Nat} {A : LA} {L : LG} {t : Int} (h : LRep W base lb A L) (hb1 : 2 * L.lh ≤ 1099511627776) (hb2 : 2 * L.fh ≤ 1099511627776) (ht : lowN ≤ t) (hfr : ∀ j, L.es.length ≤ j → j < L.fh → L.fr.getD (L.fh + j) 0 = lowN) :
    Calls Tryz.prog 83 #[.pointer (some ⟨lb, 0, none⟩), .int .i64 t] W fun e w' => ∃ j1 f1 j2 f2, Found L.left L.lh t j1 f1 ∧ Found L.fr L.fh t j2 f2 ∧ (f2 = true → j2 < L.es.length) ∧ e = .returned (.int .i64 (gapC L j1 f1 j2 f2)) ∧ w' = W := by
  obtain ⟨m, hm⟩ : ∃ m, L.es.length = m := ⟨_, rfl⟩
  obtain ⟨n, hn⟩ : ∃ n, L.old.length = n := ⟨_, rfl⟩
  obtain ⟨l1, hl1⟩ : ∃ l, 2 * L.lh = l := ⟨_, rfl⟩
  obtain ⟨l2, hl2⟩ : ∃ l, 2 * L.fh = l := ⟨_, rfl⟩
  have z0 : W.cell? ⟨lb, 0, none⟩ = some (.slice A.po n A.co) := by rw [← hn]; simp [World.cell?, h.box]
  have z3 : W.cell? ⟨lb, 3, none⟩ = some (.slice (some ⟨A.gl, 0, none⟩) l1 A.cl) := by rw [← hl1]; simp [World.cell?, h.box]
  have z4 : W.cell? ⟨lb, 4, none⟩ = some (.slice A.pe m A.ce) := by rw [← hm]; simp [World.cell?, h.box]
  have z5 : W.cell? ⟨lb, 5, none⟩ = some (.slice (some ⟨A.gf, 0, none⟩) l2 A.cf) := by rw [← hl2]; simp [World.cell?, h.box]
  have h3 := h.left
  have h5 := h.fr
  rw [hl1] at h3 hb1
  rw [hl2] at h5 hb2
  have HF1 := hide (first_any (t := t) (own_row h3) h.pl hb1)
  have HF2 := hide (first_any (t := t) (own_row h5) h.pf hb2)
  have hnr := NRow.of_own rfl h.es
  have i1 := hnr.le
  have i2 := hnr.top
  rw [hm] at i1
  have HNR := hide hnr
  have HM := hide hm
  have HN := hide hn
  have HFR := hide hfr
  clear h h3 h5 hnr hm hn hfr
  go_enter Tryz.func83, Tryz.ntmps83
  go_wp2_with fail
  refine HF1.out.mono ?_
  rintro _ w1 ⟨j1, f1, rfl, hfo1, hw1⟩
  subst hw1
  have HO1 := hide hfo1
  clear HF1 hfo1
  cases f1 with
  | true =>
    go_wp2_with fail
    refine HF2.out.mono ?_
    rintro _ w2 ⟨j2, f2, rfl, hfo2, hw2⟩
    subst hw2
    have HO2 := hide hfo2
    clear HF2
    cases f2 with
    | true =>
      have hj2 : j2 < m := by
        rcases hfo2 with ⟨e, _⟩ | ⟨_, q1, q2, _⟩
        · cases e
        · apply Classical.byContradiction
          intro hq
          have h9 := HFR.out j2 (by rw [HM.out]; omega) q1
          rw [h9] at q2
          omega
      obtain ⟨g, o, hpe, hc⟩ := HNR.out.cell j2 (by rw [HM.out]; exact hj2)
      obtain ⟨⟨x0, x1, x2, x3, x4⟩, hx⟩ : ∃ x, L.es[j2]! = x := ⟨_, rfl⟩
      rw [hx] at hc
      have d4 : w2.cell? ⟨g, o + j2 * 5 + 4, none⟩ = some (.int .i64 x4) := hc 4 (by omega)
      rw [hpe] at z4
      have HQ : Hid (gapC L j1 true j2 true = min (j1 : Int) x4) := hide (by unfold gapC; rw [hx, HN.out]; simp)
      have HJ : Hid (j2 < L.es.length) := hide (by rw [HM.out]; exact hj2)
      clear hfo2 hc hx hpe
      go_wp2
      go_ret
      exact ⟨j1, true, j2, true, HO1.out, HO2.out, fun _ => HJ.out, by rw [HQ.out]; rfl, rfl⟩
    | false =>
      have HQ : Hid (gapC L j1 true j2 false = (j1 : Int)) := hide (by unfold gapC; rw [HN.out]; simp)
      clear hfo2
      go_wp2
      go_ret
      exact ⟨j1, true, j2, false, HO1.out, HO2.out, fun e => (by cases e), by rw [HQ.out]; rfl, rfl⟩
  | false =>
    go_wp2_with fail
    refine HF2.out.mono ?_
    rintro _ w2 ⟨j2, f2, rfl, hfo2, hw2⟩
    subst hw2
    have HO2 := hide hfo2
    clear HF2
    cases f2 with
    | true =>
      have hj2 : j2 < m := by
        rcases hfo2 with ⟨e, _⟩ | ⟨_, q1, q2, _⟩
        · cases e
        · apply Classical.byContradiction
          intro hq
          have h9 := HFR.out j2 (by rw [HM.out]; omega) q1
          rw [h9] at q2
          omega
      obtain ⟨g, o, hpe, hc⟩ := HNR.out.cell j2 (by rw [HM.out]; exact hj2)
      obtain ⟨⟨x0, x1, x2, x3, x4⟩, hx⟩ : ∃ x, L.es[j2]! = x := ⟨_, rfl⟩
      rw [hx] at hc
      have d4 : w2.cell? ⟨g, o + j2 * 5 + 4, none⟩ = some (.int .i64 x4) := hc 4 (by omega)
      rw [hpe] at z4
      have HQ : Hid (gapC L j1 false j2 true = min (n : Int) x4) := hide (by unfold gapC; rw [hx, HN.out]; simp)
      have HJ : Hid (j2 < L.es.length) := hide (by rw [HM.out]; exact hj2)
      clear hfo2 hc hx hpe
      go_wp2
      go_ret
      exact ⟨j1, false, j2, true, HO1.out, HO2.out, fun _ => HJ.out, by rw [HQ.out]; rfl, rfl⟩
    | false =>
      have HQ : Hid (gapC L j1 false j2 false = (n : Int)) := hide (by unfold gapC; rw [HN.out]; simp)
      clear hfo2
      go_wp2
      go_ret
      exact ⟨j1, false, j2, false, HO1.out, HO2.out, fun e => (by cases e), by rw [HQ.out]; rfl, rfl⟩
end Go.Proofs.YtifldnpccgbnkaaGreat.Op
/-
  A ledger one part of which is written to. Nothing is walked.
-/
namespace Go.Proofs.YtifldnpccgbnkaaGreat.Op
open Go.RowKit

theorem row_keeps {W W' : World} {b1 b2 n1 n2 k1 k2 c g : Nat} {e1 e2 : TypeId} {v1 : Value} {xs ys : List Value} (h : W.ownsRow b1 e1 k1 v1 n1 xs) (hr : W.ownsRow b2 e2 k2 (.slice (some ⟨g, 0, none⟩) n2 c) n2 ys) (hne : e1 ≠ e2) (ho : Only (· = g) W W') : W'.ownsRow b1 e1 k1 v1 n1 xs :=
  ownsRow_only h ho (fun b hb e => by
    have e' : b = g := e
    subst e'
    obtain ⟨_, c1, q1⟩ := own_block_lt h hb
    obtain ⟨_, c2, q2⟩ := own_block_lt hr (b := b) rfl
    rw [q1] at q2
    simp at q2
    exact hne q2.2)
theorem box_keeps {W W' : World} {b2 n2 k2 c g lb : Nat} {e1 e2 : TypeId} {cs : Array Value} {ys : List Value} (h : W.heap[lb]? = some (.cells cs e1 (0, 0))) (hr : W.ownsRow b2 e2 k2 (.slice (some ⟨g, 0, none⟩) n2 c) n2 ys) (hne : e1 ≠ e2) (ho : Only (· = g) W W') : W'.heap[lb]? = some (.cells cs e1 (0, 0)) :=
  ho.obj h (fun e => by
    have e' : lb = g := e
    subst e'
    obtain ⟨_, c2, q2⟩ := own_block_lt hr (b := lb) rfl
    rw [h] at q2
    simp at q2
    exact hne q2.2)
theorem LRep.newLeft {W W' : World} {base lb : Nat} {A : LA} {L : LG} {ps : List Int} (h : LRep W base lb A L) (ho : Only (· = A.gl) W W') (hr : W'.ownsRow base 2 1 (.slice (some ⟨A.gl, 0, none⟩) (2 * L.lh) A.cl) (2 * L.lh) (ps.map (Value.int .i64))) (hp : Peak ps L.lh L.lk) : LRep W' base lb A { L with left := ps } :=
  ⟨box_keeps h.box h.left (by decide) ho, row_keeps h.old h.left (by decide) ho, row_keeps h.gone h.left (by decide) ho, row_keeps h.tw h.left (by decide) ho, hr, row_keeps h.es h.left (by decide) ho,
    ownsRow_only h.fr ho (fun b hb e => by have e' : b = A.gl := e; simp [Value.ownBlock] at hb; exact h.apart (by omega)), h.apart, hp, h.pf⟩
theorem LRep.newFresh {W W' : World} {base lb : Nat} {A : LA} {L : LG} {ps : List Int} (h : LRep W base lb A L) (ho : Only (· = A.gf) W W') (hr : W'.ownsRow base 2 1 (.slice (some ⟨A.gf, 0, none⟩) (2 * L.fh) A.cf) (2 * L.fh) (ps.map (Value.int .i64))) (hp : Peak ps L.fh L.fk) : LRep W' base lb A { L with fr := ps } :=
  ⟨box_keeps h.box h.fr (by decide) ho, row_keeps h.old h.fr (by decide) ho, row_keeps h.gone h.fr (by decide) ho, row_keeps h.tw h.fr (by decide) ho,
    ownsRow_only h.left ho (fun b hb e => by have e' : b = A.gf := e; simp [Value.ownBlock] at hb; exact h.apart (by omega)), row_keeps h.es h.fr (by decide) ho, hr, h.apart, h.pl, hp⟩
theorem LRep.newOld {W W' : World} {base lb g : Nat} {A : LA} {L : LG} {os : List KS} (h : LRep W base lb A L) (hg : A.po = some ⟨g, 0, none⟩) (hl : os.length = L.old.length) (ho : Only (· = g) W W') (hr : W'.ownsRow base 105 3 (.slice A.po L.old.length A.co) L.old.length (os.flatMap KS.cells)) : LRep W' base lb A { L with old := os } := by
  have ho1 := h.old
  rw [hg] at ho1
  refine ⟨?_, ?_, ?_, ?_, row_keeps h.left ho1 (by decide) ho, row_keeps h.es ho1 (by decide) ho, row_keeps h.fr ho1 (by decide) ho, h.apart, h.pl, h.pf⟩
  · simp only; rw [hl]; exact box_keeps h.box ho1 (by decide) ho
  · simp only; rw [hl]; exact hr
  · simp only; rw [hl]; exact row_keeps h.gone ho1 (by decide) ho
  · simp only; rw [hl]; exact row_keeps h.tw ho1 (by decide) ho
theorem LRep.newGone {W W' : World} {base lb g : Nat} {A : LA} {L : LG} {gs : List Bool} (h : LRep W base lb A L) (hg : A.pg = some ⟨g, 0, none⟩) (ho : Only (· = g) W W') (hr : W'.ownsRow base 4 1 (.slice A.pg L.old.length A.cg) L.old.length (gs.map Value.bool)) : LRep W' base lb A { L with gone := gs } := by
  have ho1 := h.gone
  rw [hg] at ho1
  exact ⟨box_keeps h.box ho1 (by decide) ho, row_keeps h.old ho1 (by decide) ho, hr, row_keeps h.tw ho1 (by decide) ho, row_keeps h.left ho1 (by decide) ho, row_keeps h.es ho1 (by decide) ho, row_keeps h.fr ho1 (by decide) ho, h.apart, h.pl, h.pf⟩
theorem LRep.newEs {W W' : World} {base lb g : Nat} {A : LA} {L : LG} {es : List EN} (h : LRep W base lb A L) (hg : A.pe = some ⟨g, 0, none⟩) (hl : es.length = L.es.length) (ho : Only (· = g) W W') (hr : W'.ownsRow base 149 5 (.slice A.pe L.es.length A.ce) L.es.length (es.flatMap EN.cells)) : LRep W' base lb A { L with es := es } := by
  have ho1 := h.es
  rw [hg] at ho1
  refine ⟨?_, row_keeps h.old ho1 (by decide) ho, row_keeps h.gone ho1 (by decide) ho, row_keeps h.tw ho1 (by decide) ho, row_keeps h.left ho1 (by decide) ho, ?_, row_keeps h.fr ho1 (by decide) ho, h.apart, h.pl, h.pf⟩
  · simp only; rw [hl]; exact box_keeps h.box ho1 (by decide) ho
  · simp only; rw [hl]; exact hr
end Go.Proofs.YtifldnpccgbnkaaGreat.Op
/-
  drop of a ledger. The conditions: lengths.
-/
namespace Go.Proofs.YtifldnpccgbnkaaGreat.Op
open Go.RowKit

theorem below_drewN {n : Nat} {A B : World} (h : Below n A B) (k : Nat) : Below n A (B.drewN k) := ⟨h.os, h.tape, h.output, h.size, h.block⟩
theorem own_at0 {W : World} {base e k n c : Nat} {p : Option Addr} {xs : List Value} (h : W.ownsRow base e k (.slice p n c) n xs) (hn : 0 < n) : ∃ g, p = some ⟨g, 0, none⟩ := by
  rcases h.2 with ⟨e, _⟩ | ⟨g, cap, cur, e, _⟩
  · simp only [Value.slice.injEq] at e; omega
  · simp only [Value.slice.injEq] at e; exact ⟨g, e.1⟩
theorem EN.storedState {w : World} {base g n cap k : Nat} {es : List EN} (h : w.ownsRow base 149 5 (.slice (some ⟨g, 0, none⟩) n cap) n (es.flatMap EN.cells)) (hk : k < es.length) {e : EN} (he : es[k]! = e) (a b c : Int) :
    (((w.setCell ⟨g, k * 5 + 1, none⟩ (.int .i64 a)).setCell ⟨g, k * 5 + 2, none⟩ (.int .i64 b)).setCell ⟨g, k * 5 + 3, none⟩ (.int .i64 c)).ownsRow base 149 5 (.slice (some ⟨g, 0, none⟩) n cap) n ((es.set k ⟨e.first, a, b, c, e.gap⟩).flatMap EN.cells) := by
  have hset : ∀ (l : List EN) (y : EN), k < l.length → (l.set k y)[k]! = y := fun l y hl => by rw [getElem!_pos _ k (by simpa using hl), List.getElem_set_self]
  have step : ∀ (w : World) (l : List EN) (a : EN) (j : Nat) (y : EN) (u : Value), j < 5 → k < l.length → l[k]! = a → EN.cells y = (EN.cells a).set j u → w.ownsRow base 149 5 (.slice (some ⟨g, 0, none⟩) n cap) n (l.flatMap EN.cells) → (w.setCell ⟨g, k * 5 + j, none⟩ u).ownsRow base 149 5 (.slice (some ⟨g, 0, none⟩) n cap) n ((l.set k y).flatMap EN.cells) := fun w l a j y u hj hl ha hy h9 => by
    rw [flat_set (cells := EN.cells) l (fun o _ => o.len) k j y u hl hj (by rw [ha]; exact hy)]
    exact (h9.stored (k * 5 + j) u).1
  have s1 := step _ _ e 1 ⟨e.first, a, e.cnt, e.acc, e.gap⟩ (.int .i64 a) (by decide) hk he rfl h
  have s2 := step _ _ ⟨e.first, a, e.cnt, e.acc, e.gap⟩ 2 ⟨e.first, a, b, e.acc, e.gap⟩ (.int .i64 b) (by decide) (by simpa using hk) (hset _ _ hk) rfl s1
  have s3 := step _ _ ⟨e.first, a, b, e.acc, e.gap⟩ 3 ⟨e.first, a, b, c, e.gap⟩ (.int .i64 c) (by decide) (by simpa using hk) (hset _ _ (by simpa using hk)) rfl s2
  simp only [List.set_set] at s3
  exact s3

set_option maxRecDepth 100000 in
set_option maxHeartbeats 8000000 in
theorem drop_new {W : World} {base lb k : Nat} {A : LA} {L : LG} {x : Nat} {e : EN} (h : LRep W base lb A L) (hk : k < L.es.length) (hkf : k < L.fh) (hx : L.es[k]! = e) (hf : e.first = (x : Int)) (hn : L.old.length ≤ x) (hb2 : 2 * L.fh ≤ 1099511627776) :
    Calls Tryz.prog 66 #[.pointer (some ⟨lb, 0, none⟩), .int .i64 (k : Int)] W fun r w' => ∃ v ps, r = .returned v ∧ LRep w' base lb A { L with es := L.es.set k ⟨e.first, e.key, 0, 0, e.gap⟩, fr := ps } ∧ Leaves ps L.fr L.fh k lowN ∧ Only (fun i => A.pe = some ⟨i, 0, none⟩ ∨ i = A.gf) W w' := by
  obtain ⟨g, hg⟩ := own_at0 h.es (by omega)
  obtain ⟨m, hm⟩ : ∃ m, L.es.length = m := ⟨_, rfl⟩
  obtain ⟨n, hnn⟩ : ∃ n, L.old.length = n := ⟨_, rfl⟩
  obtain ⟨l2, hl2⟩ : ∃ l, 2 * L.fh = l := ⟨_, rfl⟩
  have z0 : W.cell? ⟨lb, 0, none⟩ = some (.slice A.po n A.co) := by rw [← hnn]; simp [World.cell?, h.box]
  have z4 : W.cell? ⟨lb, 4, none⟩ = some (.slice (some ⟨g, 0, none⟩) m A.ce) := by rw [← hm, ← hg]; simp [World.cell?, h.box]
  have hes := h.es
  rw [hg, hm] at hes
  obtain ⟨i1, i2, _, q4⟩ := own_list (cells := EN.cells) (fun o _ => o.len) hm hes
  obtain ⟨gg, oo, hpg, hc⟩ := q4 k hk
  simp only [Option.some.injEq, Addr.mk.injEq, and_true] at hpg
  obtain ⟨rfl, rfl⟩ := hpg
  rw [hx] at hc
  have d0 : W.cell? ⟨g, k * 5, none⟩ = some (.int .i64 (x : Int)) := by have h9 := hc 0 (by decide); rw [Nat.zero_add] at h9; rw [← hf]; exact h9
  have dn : decide ((x : Int) < (n : Int)) = false := decide_eq_false (by omega)
  have hxn : ¬ x < n := by omega
  have dn2 : decide (x < n) = false := decide_eq_false hxn
  have hkm : k < m := by omega
  have H := hide h
  have HX := hide hx
  have HHK := hide hk
  have HM := hide hm
  have HG := hide hg
  have HL2 := hide hl2
  have HB2 := hide hb2
  clear h hk hx hf hn hm hnn hl2 hes q4 hc hg hb2
  go_enter Tryz.func66, Tryz.ntmps66
  go_upto_region 1 with fail
  go_big_quiet (fail)
  obtain ⟨Y, hY⟩ : ∃ Y, Y = W.drewN nq := ⟨_, rfl⟩
  have hWY : Below W.heap.size W Y := by rw [hY]; exact below_drewN (Below.refl _ W) _
  try rw [← hY]
  have h := H.out.later hWY
  have hes := h.es
  rw [HG.out, HM.out] at hes
  obtain ⟨_, _, _, q4⟩ := own_list (cells := EN.cells) (fun o _ => o.len) HM.out hes
  obtain ⟨gg, oo, hpg, hc⟩ := q4 k HHK.out
  simp only [Option.some.injEq, Addr.mk.injEq, and_true] at hpg
  obtain ⟨rfl, rfl⟩ := hpg
  rw [HX.out] at hc
  have hfz : ∀ i, Y.frozen? ⟨g, i, none⟩ = false := fun i => hes.frozenAt _
  have d1 : Y.cell? ⟨g, k * 5 + 1, none⟩ = some (.int .i64 e.key) := by have h9 := hc 1 (by decide); rw [Nat.zero_add] at h9; exact h9
  have d2 : Y.cell? ⟨g, k * 5 + 2, none⟩ = some (.int .i64 e.cnt) := by have h9 := hc 2 (by decide); rw [Nat.zero_add] at h9; exact h9
  have d3 : Y.cell? ⟨g, k * 5 + 3, none⟩ = some (.int .i64 e.acc) := by have h9 := hc 3 (by decide); rw [Nat.zero_add] at h9; exact h9
  have f1 := hfz (k * 5 + 1)
  have f2 := hfz (k * 5 + 2)
  have f3 := hfz (k * 5 + 3)
  have hst := EN.storedState hes HHK.out HX.out e.key 0 0
  have hon : Only (· = g) Y (((Y.setCell ⟨g, k * 5 + 1, none⟩ (.int .i64 e.key)).setCell ⟨g, k * 5 + 2, none⟩ (.int .i64 0)).setCell ⟨g, k * 5 + 3, none⟩ (.int .i64 0)) := ((Only.set (F := (· = g)) Y g _ _ rfl).trans (Only.set (F := (· = g)) _ g _ _ rfl)).trans (Only.set (F := (· = g)) _ g _ _ rfl)
  have hl1 := h.newEs (es := L.es.set k ⟨e.first, e.key, 0, 0, e.gap⟩) HG.out (List.length_set ..) hon (by rw [HG.out, HM.out]; exact hst)
  obtain ⟨X, hX⟩ : ∃ X, X = ((Y.setCell ⟨g, k * 5 + 1, none⟩ (.int .i64 e.key)).setCell ⟨g, k * 5 + 2, none⟩ (.int .i64 0)).setCell ⟨g, k * 5 + 3, none⟩ (.int .i64 0) := ⟨_, rfl⟩
  rw [← hX] at hl1 hon
  have z5 : X.cell? ⟨lb, 5, none⟩ = some (.slice (some ⟨A.gf, 0, none⟩) l2 A.cf) := by rw [← HL2.out]; simp [World.cell?, hl1.box]
  have HSET := hide (set_any (v := lowN) (pl := k) hl1.fr hl1.pf hkf HB2.out)
  simp only at HSET
  rw [HL2.out] at HSET
  have HL1 := hide hl1
  have HON : Hid (Only (fun i => A.pe = some ⟨i, 0, none⟩ ∨ i = A.gf) W X) := hide ((Only.fresh hWY _).trans (hon.mono (fun i _ e => by have e' : i = g := e; rw [e']; exact .inl HG.out)))
  obtain ⟨ek, hek⟩ : ∃ ek, e.key = ek := ⟨_, rfl⟩
  obtain ⟨ec, hec⟩ : ∃ ek, e.cnt = ek := ⟨_, rfl⟩
  obtain ⟨ea, hea⟩ : ∃ ek, e.acc = ek := ⟨_, rfl⟩
  rw [hek] at d1 hX
  rw [hec] at d2
  rw [hea] at d3
  clear h hes q4 hc hfz hst hon hl1 hWY hY hek hec hea z0 z4 d0
  go_upto_region 6 with fail
  rw [← hX]
  clear hX d1 d2 d3 f1 f2 f3
  go_wp2_with fail
  refine HSET.out.mono ?_
  rintro _ w9 ⟨v9, ps, rfl, o9, p9, l9, n9⟩
  have HLF : Hid (LRep w9 base lb A { L with es := L.es.set k ⟨e.first, e.key, 0, 0, e.gap⟩, fr := ps }) := hide (HL1.out.newFresh n9 (by rw [HL2.out]; exact o9) p9)
  have HLV := hide l9
  have HNF : Hid (Only (fun i => A.pe = some ⟨i, 0, none⟩ ∨ i = A.gf) W w9) := hide (HON.out.trans (n9.mono (fun i _ e => .inr e)))
  clear o9 p9 l9 n9 HSET
  go_wp2
  refine bodyPost_end (results_none rfl _ _ _) rfl ?_
  exact ⟨_, ps, rfl, HLF.out, HLV.out, HNF.out⟩
end Go.Proofs.YtifldnpccgbnkaaGreat.Op
/-
  keep of a ledger where there is no old one. The conditions: lengths.
-/
namespace Go.Proofs.YtifldnpccgbnkaaGreat.Op
open Go.RowKit

theorem EN.storedGap {w : World} {base g n cap k : Nat} {es : List EN} (h : w.ownsRow base 149 5 (.slice (some ⟨g, 0, none⟩) n cap) n (es.flatMap EN.cells)) (hk : k < es.length) {e : EN} (he : es[k]! = e) (a : Int) :
    (w.setCell ⟨g, k * 5 + 4, none⟩ (.int .i64 a)).ownsRow base 149 5 (.slice (some ⟨g, 0, none⟩) n cap) n ((es.set k ⟨e.first, e.key, e.cnt, e.acc, a⟩).flatMap EN.cells) := by
  rw [flat_set (cells := EN.cells) es (fun o _ => o.len) k 4 ⟨e.first, e.key, e.cnt, e.acc, a⟩ (.int .i64 a) hk (by decide) (by rw [he]; rfl)]
  exact (h.stored (k * 5 + 4) (.int .i64 a)).1
theorem es_cells {W : World} {base g n cap k : Nat} {es : List EN} (h : W.ownsRow base 149 5 (.slice (some ⟨g, 0, none⟩) n cap) n (es.flatMap EN.cells)) (hl : es.length = n) (hk : k < n) {e : EN} (he : es[k]! = e) :
    W.cell? ⟨g, k * 5, none⟩ = some (.int .i64 e.first) ∧ W.cell? ⟨g, k * 5 + 1, none⟩ = some (.int .i64 e.key) ∧ W.cell? ⟨g, k * 5 + 2, none⟩ = some (.int .i64 e.cnt) ∧ W.cell? ⟨g, k * 5 + 3, none⟩ = some (.int .i64 e.acc) ∧ W.cell? ⟨g, k * 5 + 4, none⟩ = some (.int .i64 e.gap) ∧ ∀ i, W.frozen? ⟨g, i, none⟩ = false := by
  obtain ⟨_, _, _, q4⟩ := own_list (cells := EN.cells) (fun o _ => o.len) hl h
  obtain ⟨gg, oo, hpg, hc⟩ := q4 k (by omega)
  simp only [Option.some.injEq, Addr.mk.injEq, and_true] at hpg
  obtain ⟨rfl, rfl⟩ := hpg
  rw [he] at hc
  simp only [Nat.zero_add] at hc
  exact ⟨hc 0 (by decide), hc 1 (by decide), hc 2 (by decide), hc 3 (by decide), hc 4 (by decide), fun i => h.frozenAt _⟩
theorem get_setEN {ys : List EN} {k : Nat} {x : EN} (hk : k < ys.length) : (ys.set k x)[k]! = x := by
  rw [getElem!_pos _ k (by simpa using hk), List.getElem_set_self]

set_option maxRecDepth 100000 in
set_option maxHeartbeats 8000000 in
theorem keep_had {W : World} {base lb k : Nat} {A : LA} {L : LG} {x : Nat} {e : EN} {nk nc na : Int} (h : LRep W base lb A L) (hk : k < L.es.length) (hx : L.es[k]! = e) (hf : e.first = (x : Int)) (hn : L.old.length ≤ x) (hcnt : e.cnt ≠ 0) :
    Calls Tryz.prog 65 #[.pointer (some ⟨lb, 0, none⟩), .int .i64 (k : Int), .agg #[.int .i64 nk, .int .i64 nc, .int .i64 na]] W fun r w' => ∃ v, r = .returned v ∧ LRep w' base lb A { L with es := L.es.set k ⟨e.first, nk, nc, na, e.gap⟩ } ∧ Only (fun i => A.pe = some ⟨i, 0, none⟩ ∨ i = A.gf) W w' := by
  obtain ⟨g, hg⟩ := own_at0 h.es (by omega)
  obtain ⟨m, hm⟩ : ∃ m, L.es.length = m := ⟨_, rfl⟩
  obtain ⟨n, hnn⟩ : ∃ n, L.old.length = n := ⟨_, rfl⟩
  obtain ⟨V, hV⟩ : ∃ V, V = W.alloc (.cells #[.int .i64 nk, .int .i64 nc, .int .i64 na] 105 (0, 0)) := ⟨_, rfl⟩
  have hbV : Below W.heap.size W V := by rw [hV]; exact alloc_below _ _
  have u0 : V.heap[W.heap.size]? = some (.cells #[.int .i64 nk, .int .i64 nc, .int .i64 na] 105 (0, 0)) := by rw [hV]; exact heap_alloc_new _ _
  obtain ⟨nb, hnb⟩ : ∃ nb, W.heap.size = nb := ⟨_, rfl⟩
  rw [hnb] at u0
  have h2 := h.later hbV
  have hes := h2.es
  rw [hg, hm] at hes
  obtain ⟨c0, c1, c2, c3, c4, hfz⟩ := es_cells hes hm (by omega) hx
  obtain ⟨_, _, ef, i1, i2⟩ := own_form hes
  simp only [Value.slice.injEq, true_and] at ef
  obtain ⟨rfl, rfl⟩ := ef
  have z0 : V.cell? ⟨lb, 0, none⟩ = some (.slice A.po n A.co) := by rw [← hnn]; simp [World.cell?, h2.box]
  have z4 : V.cell? ⟨lb, 4, none⟩ = some (.slice (some ⟨g, 0, none⟩) m A.ce) := by rw [← hm, ← hg]; simp [World.cell?, h2.box]
  rw [hf] at c0
  have dn : decide ((x : Int) < (n : Int)) = false := decide_eq_false (by omega)
  have dn2 : decide (x < n) = false := decide_eq_false (by omega)
  have hkm : k < m := by omega
  obtain ⟨ct, hct⟩ : ∃ ct, e.cnt = ct := ⟨_, rfl⟩
  rw [hct] at c2 hcnt
  have dc : (ct == 0) = false := by simpa using hcnt
  have H2 := hide h2
  have HX := hide hx
  have HM := hide hm
  have HG := hide hg
  have HBV := hide hbV
  have HU := hide u0
  have HHK := hide hk
  clear h h2 hx hf hn hm hnn hes hg hbV hct hk hcnt c1 c3 c4
  go_enter Tryz.func65, Tryz.ntmps65
  go_upto_region 1 with fail
  rw [← hV]
  try rw [hnb]
  clear hV hnb
  go_upto_region 2 with fail
  go_big_quiet (fail)
  obtain ⟨Y, hY⟩ : ∃ Y, Y = V.drewN nq := ⟨_, rfl⟩
  have hVY : Below V.heap.size V Y := by rw [hY]; exact below_drewN (Below.refl _ V) _
  rw [← hY]
  have h := H2.out.later hVY
  have hes := h.es
  rw [HG.out, HM.out] at hes
  obtain ⟨_, d1, d2, d3, _, hfz2⟩ := es_cells hes HM.out hkm HX.out
  have f1 := hfz2 (k * 5 + 1)
  have f2 := hfz2 (k * 5 + 2)
  have f3 := hfz2 (k * 5 + 3)
  have c2' := cell_later hVY c2
  have y0 := below_box hVY HU.out
  have b0 : Y.cell? ⟨nb, 0, none⟩ = some (.int .i64 nk) := by simp [World.cell?, y0]
  have b1 : Y.cell? ⟨nb, 1, none⟩ = some (.int .i64 nc) := by simp [World.cell?, y0]
  have b2 : Y.cell? ⟨nb, 2, none⟩ = some (.int .i64 na) := by simp [World.cell?, y0]
  have hst := EN.storedState hes HHK.out HX.out nk nc na
  have hon : Only (· = g) Y (((Y.setCell ⟨g, k * 5 + 1, none⟩ (.int .i64 nk)).setCell ⟨g, k * 5 + 2, none⟩ (.int .i64 nc)).setCell ⟨g, k * 5 + 3, none⟩ (.int .i64 na)) := ((Only.set (F := (· = g)) Y g _ _ rfl).trans (Only.set (F := (· = g)) _ g _ _ rfl)).trans (Only.set (F := (· = g)) _ g _ _ rfl)
  have HL1 := hide (h.newEs (es := L.es.set k ⟨e.first, nk, nc, na, e.gap⟩) HG.out (List.length_set ..) hon (by rw [HG.out, HM.out]; exact hst))
  have HON : Hid (Only (fun i => A.pe = some ⟨i, 0, none⟩ ∨ i = A.gf) W (((Y.setCell ⟨g, k * 5 + 1, none⟩ (.int .i64 nk)).setCell ⟨g, k * 5 + 2, none⟩ (.int .i64 nc)).setCell ⟨g, k * 5 + 3, none⟩ (.int .i64 na))) := hide ((Only.fresh (HBV.out.trans (hVY.mono HBV.out.size)) _).trans (hon.mono (fun i _ e => by have e' : i = g := e; rw [e']; exact .inl HG.out)))
  obtain ⟨ek, hek⟩ : ∃ ek, e.key = ek := ⟨_, rfl⟩
  obtain ⟨ea, hea⟩ : ∃ ek, e.acc = ek := ⟨_, rfl⟩
  rw [hek] at d1
  rw [hea] at d3
  clear h hes d2 hst hon hVY hY hfz2 hfz hek hea y0 z0 z4 c0 c2
  go_wp2
  refine bodyPost_end (results_none rfl _ _ _) rfl ?_
  exact ⟨_, rfl, HL1.out, HON.out⟩
end Go.Proofs.YtifldnpccgbnkaaGreat.Op
