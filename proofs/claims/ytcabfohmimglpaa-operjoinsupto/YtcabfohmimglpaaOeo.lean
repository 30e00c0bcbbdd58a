/-
  entriesOf: an entry for each key of some records. The conditions: lengths.
-/
import Derived.Test.YtcabfohmimglpaaOen
namespace Go.Proofs.Ytcabfohmimglpaa
open Go.RowKit

structure RC where
  key : Int
  val : Int
  deriving DecidableEq
instance : Inhabited RC := ⟨⟨0, 0⟩⟩
def RC.cells (x : RC) : List Value := [.int .i64 x.key, .int .i64 x.val]
theorem RC.len (x : RC) : x.cells.length = 2 := rfl
/-- Records as they lie. -/
structure RRow (W : World) (p : Option Addr) (cap : Nat) (rs : List RC) : Prop where
  le : rs.length ≤ cap
  top : cap ≤ 9223372036854775807
  cell : ∀ i, i < rs.length → ∃ g o, p = some ⟨g, o, none⟩ ∧ ∀ j, j < 2 → W.cell? ⟨g, o + i * 2 + j, none⟩ = (rs[i]!).cells[j]?
theorem RRow.below {W W' : World} {p : Option Addr} {cap : Nat} {rs : List RC} (h : RRow W p cap rs) (hb : Below W.heap.size W W') : RRow W' p cap rs :=
  ⟨h.le, h.top, fun i hi => by
    obtain ⟨g, o, e, h1⟩ := h.cell i hi
    refine ⟨g, o, e, fun j hj => ?_⟩
    have h2 := h1 j hj
    have hl : j < (rs[i]!).cells.length := hj
    rw [List.getElem?_eq_getElem hl] at h2 ⊢
    exact cell_later hb h2⟩
theorem Try.infoEn : (Try.prog.info? 74).map (fun i => (i.zero, i.size, i.bytes)) = some (some (.agg #[.int .i64 0, .int .i64 0, .int .i64 0, .int .i64 0, .int .i64 0]), 5, 40) := by kernel_rfl
def fillK (ks : List Int) (j : Nat) : List Int := ks.take j ++ List.replicate (ks.length - j) 0
theorem fillK_next {ks : List Int} {j : Nat} (hj : j < ks.length) : (fillK ks j).set j (ks.getD j 0) = fillK ks (j + 1) := by
  unfold fillK
  rw [show ks.length - j = (ks.length - (j + 1)) + 1 by omega, List.replicate_succ, List.set_append_right _ _ (by simp; omega), List.length_take, Nat.min_eq_left (by omega), Nat.sub_self, List.set_cons_zero, List.take_add_one, List.getElem?_eq_getElem hj, List.append_assoc, List.getD_eq_getElem?_getD, List.getElem?_eq_getElem hj]
  rfl
theorem fillK_at {ks : List Int} {j : Nat} (hj : j < ks.length) : (fillK ks j).getD j 0 = 0 := by
  unfold fillK
  rw [show ks.length - j = (ks.length - (j + 1)) + 1 by omega, List.replicate_succ, List.getD_eq_getElem?_getD, List.getElem?_append_right (by simp; omega), List.length_take, Nat.min_eq_left (by omega), Nat.sub_self]
  rfl
theorem fillK_all {ks : List Int} : fillK ks ks.length = ks := by unfold fillK; simp
theorem fillK_len {ks : List Int} {j : Nat} (hj : j ≤ ks.length) : (fillK ks j).length = ks.length := by unfold fillK; simp; omega

def fillE (es : List EN) (j : Nat) : List EN := es.take j ++ List.replicate (es.length - j) ⟨0, 0, 0, 0, 0⟩
theorem fillE_next {es : List EN} {j : Nat} (hj : j < es.length) : (fillE es j).set j es[j]! = fillE es (j + 1) := by
  unfold fillE
  rw [show es.length - j = (es.length - (j + 1)) + 1 by omega, List.replicate_succ, List.set_append_right _ _ (by simp; omega), List.length_take, Nat.min_eq_left (by omega), Nat.sub_self, List.set_cons_zero, List.take_add_one, List.getElem?_eq_getElem hj, List.append_assoc, getElem!_pos es j hj]
  rfl
theorem fillE_at {es : List EN} {j : Nat} (hj : j < es.length) : (fillE es j)[j]! = ⟨0, 0, 0, 0, 0⟩ := by
  unfold fillE
  rw [show es.length - j = (es.length - (j + 1)) + 1 by omega, List.replicate_succ, List.getElem!_eq_getElem?_getD, List.getElem?_append_right (by simp; omega), List.length_take, Nat.min_eq_left (by omega), Nat.sub_self]
  rfl
theorem fillE_all {es : List EN} : fillE es es.length = es := by unfold fillE; simp
theorem fillE_len {es : List EN} {j : Nat} (hj : j ≤ es.length) : (fillE es j).length = es.length := by unfold fillE; simp; omega
theorem made_ens : ∀ n, (madeCells (Value.agg #[.int .i64 0, .int .i64 0, .int .i64 0, .int .i64 0, .int .i64 0]).cells (n * 5)).toList = (List.replicate n (⟨0, 0, 0, 0, 0⟩ : EN)).flatMap EN.cells := by
  intro n
  have h1 : ∀ n, (List.replicate n (⟨0, 0, 0, 0, 0⟩ : EN)).flatMap EN.cells = List.replicate (n * 5) (Value.int .i64 0) := by
    intro n
    induction n with
    | zero => rfl
    | succ n ih => rw [List.replicate_succ, List.flatMap_cons, ih, Nat.succ_mul, Nat.add_comm, ← List.replicate_append_replicate]; rfl
  rw [h1]
  apply List.ext_getElem
  · simp [size_madeCells]
  · intro i h2 h3
    have h4 : i % 5 < 5 := Nat.mod_lt _ (by decide)
    simp [madeCells, Value.cells]
    rcases (by omega : i % 5 = 0 ∨ i % 5 = 1 ∨ i % 5 = 2 ∨ i % 5 = 3 ∨ i % 5 = 4) with e | e | e | e | e <;> rw [e] <;> rfl
/-- Storing an entry into a row of entries. -/
theorem EN.stored {w : World} {base g n cap k : Nat} {es : List EN} (h : w.ownsRow base 74 5 (.slice (some ⟨g, 0, none⟩) n cap) n (es.flatMap EN.cells)) (hk : k < es.length) (x : EN) :
    (((((w.setCell ⟨g, k * 5, none⟩ (.int .i64 x.first)).setCell ⟨g, k * 5 + 1, none⟩ (.int .i64 x.key)).setCell ⟨g, k * 5 + 2, none⟩ (.int .i64 x.cnt)).setCell ⟨g, k * 5 + 3, none⟩ (.int .i64 x.acc)).setCell ⟨g, k * 5 + 4, none⟩ (.int .i64 x.gap)).ownsRow base 74 5 (.slice (some ⟨g, 0, none⟩) n cap) n ((es.set k x).flatMap EN.cells) := by
  obtain ⟨e, he⟩ : ∃ e, es[k]! = e := ⟨_, rfl⟩
  have hset : ∀ (l : List EN) (y : EN), k < l.length → (l.set k y)[k]! = y := fun l y hl => by rw [getElem!_pos _ k (by simpa using hl), List.getElem_set_self]
  have step : ∀ (w : World) (l : List EN) (a : EN) (j : Nat) (y : EN) (u : Value), j < 5 → k < l.length → l[k]! = a → EN.cells y = (EN.cells a).set j u → w.ownsRow base 74 5 (.slice (some ⟨g, 0, none⟩) n cap) n (l.flatMap EN.cells) → (w.setCell ⟨g, k * 5 + j, none⟩ u).ownsRow base 74 5 (.slice (some ⟨g, 0, none⟩) n cap) n ((l.set k y).flatMap EN.cells) := fun w l a j y u hj hl ha hy h9 => by
    rw [flat_set (cells := EN.cells) l (fun o _ => o.len) k j y u hl hj (by rw [ha]; exact hy)]
    exact (h9.stored (k * 5 + j) u).1
  have s0 := step _ _ e 0 ⟨x.first, e.key, e.cnt, e.acc, e.gap⟩ (.int .i64 x.first) (by decide) hk he rfl h
  have s1 := step _ _ ⟨x.first, e.key, e.cnt, e.acc, e.gap⟩ 1 ⟨x.first, x.key, e.cnt, e.acc, e.gap⟩ (.int .i64 x.key) (by decide) (by simpa using hk) (hset _ _ hk) rfl s0
  have s2 := step _ _ ⟨x.first, x.key, e.cnt, e.acc, e.gap⟩ 2 ⟨x.first, x.key, x.cnt, e.acc, e.gap⟩ (.int .i64 x.cnt) (by decide) (by simpa using hk) (hset _ _ (by simpa using hk)) rfl s1
  have s3 := step _ _ ⟨x.first, x.key, x.cnt, e.acc, e.gap⟩ 3 ⟨x.first, x.key, x.cnt, x.acc, e.gap⟩ (.int .i64 x.acc) (by decide) (by simpa using hk) (hset _ _ (by simpa using hk)) rfl s2
  have s4 := step _ _ ⟨x.first, x.key, x.cnt, x.acc, e.gap⟩ 4 x (.int .i64 x.gap) (by decide) (by simpa using hk) (hset _ _ (by simpa using hk)) rfl s3
  simp only [List.set_set, Nat.add_zero] at s4
  exact s4

set_option maxRecDepth 100000 in
set_option maxHeartbeats 8000000 in
theorem entriesOf_any {W : World} {p : Option Addr} {c n : Nat} {rs : List RC} {nn : Int} (h : RRow W p c rs) (hn : rs.length = n) (hb : n ≤ 1048576) :
    Calls Try.prog 24 #[.slice p n c, .int .i64 nn] W fun e w' => ∃ g m es, e = .returned (.slice (some ⟨g, 0, none⟩) m m) ∧ es = (keysC (rs.map RC.key)).map (fun k => (⟨nn, k, 0, 0, 0⟩ : EN)) ∧ es.length = m ∧ w'.ownsRow W.heap.size 74 5 (.slice (some ⟨g, 0, none⟩) m m) m (es.flatMap EN.cells) ∧ Below W.heap.size W w' := by
  obtain ⟨i0, hI0, hz0, hz1, hz2⟩ := info_parts Try.infoL
  obtain ⟨j0, hJ0, hy0, hy1, hy2⟩ := info_parts Try.infoEn
  have i1 := h.le
  have i2 := h.top
  rw [hn] at i1
  obtain ⟨ks, hks⟩ : ∃ ks, rs.map RC.key = ks := ⟨_, rfl⟩
  have hkl : ks.length = n := by rw [← hks, List.length_map]; exact hn
  rw [hks]
  obtain ⟨w1, hrun, hown, hgr⟩ := run_make_full W W.heap.size 63 2 i0 (.int .i64 0) 1 Try.underlying63 hI0 hz0 hz1 .i64 .i64 n (by rw [hz2]; omega) (by unfold maxLen; omega) (Nat.le_refl _)
  rw [made_ints] at hown
  have hb1 : Below W.heap.size W w1 := (Below.refl _ W).grown hgr (Nat.le_refl _) (fun k hk => by simp at hk)
  obtain ⟨g, hg⟩ : ∃ g, W.heap.size = g := ⟨_, rfl⟩
  rw [hg] at hrun
  have HOW0 : Hid (w1.ownsRow W.heap.size 2 1 (.slice (some ⟨g, 0, none⟩) n n) n ((fillK ks 0).map (Value.int .i64))) := by
    unfold fillK
    rw [List.take_zero, List.nil_append, Nat.sub_zero, hkl, ← hg]
    exact hide hown
  have HB1 := hide hb1
  have HR := hide h
  have HN := hide hn
  have HKS := hide hks
  have HKL := hide hkl
  have HG := hide hg
  clear h hn hks hkl hown hgr hb1 hg
  go_enter Try.func24, Try.ntmps24
  go_wp2_with fail
  go_loopw [16] (fun s wq => ∃ j : Nat, j ≤ n ∧ s = .int .i64 (j : Int) ∧ Hid (wq.ownsRow W.heap.size 2 1 (.slice (some ⟨g, 0, none⟩) n n) n ((fillK ks j).map (Value.int .i64))) ∧ Hid (Below W.heap.size W wq)) (fun s _ => n - (intOf s).toNat)
  case atStart => exact ⟨0, Nat.zero_le _, rfl, HOW0, HB1⟩
  case round =>
    obtain ⟨j, hj, rfl, HO, HB⟩ := hrel
    rename World => wq
    clear HOW0 HB1
    by_cases hlt : j < n
    · have hlt2 : j < rs.length := by rw [HN.out]; exact hlt
      have hlk : j < ks.length := by rw [HKL.out]; exact hlt
      obtain ⟨g2, o2, rfl, hc⟩ := (HR.out.below HB.out).cell j hlt2
      obtain ⟨⟨ky, vl⟩, hx⟩ : ∃ x, rs[j]! = x := ⟨_, rfl⟩
      rw [hx] at hc
      have d0 : wq.cell? ⟨g2, o2 + j * 2, none⟩ = some (.int .i64 ky) := hc 0 (by omega)
      have d1 : wq.cell? ⟨g2, o2 + j * 2 + 1, none⟩ = some (.int .i64 vl) := hc 1 (by omega)
      have hky : ks.getD j 0 = ky := by
        rw [← HKS.out, List.getD_eq_getElem?_getD, List.getElem?_map, List.getElem?_eq_getElem hlt2]
        rw [getElem!_pos rs j hlt2] at hx
        simp [hx]
      have ab := alloc_below wq (.cells #[.int .i64 ky, .int .i64 vl] 39 (0, 0))
      have hbx : (wq.alloc (.cells #[.int .i64 ky, .int .i64 vl] 39 (0, 0))).heap[wq.heap.size]? = some (.cells #[.int .i64 ky, .int .i64 vl] 39 (0, 0)) := heap_alloc_new wq _
      have hO2 := ownsRow_later HO.out ab
      have hnx := fillK_next hlk
      rw [hky] at hnx
      obtain ⟨bb, oo, hbo, _, _, _, hcc⟩ := (own_row hO2).cellAt (by rw [fillK_len (by omega)]; omega)
      simp only [Option.some.injEq, Addr.mk.injEq, and_true] at hbo
      obtain ⟨rfl, rfl⟩ := hbo
      have c0 := hcc j hlt
      rw [Nat.zero_add, fillK_at hlk] at c0
      have f0 : (wq.alloc (.cells #[.int .i64 ky, .int .i64 vl] 39 (0, 0))).frozen? ⟨g, j, none⟩ = false := hO2.frozenAt _
      have HO3 : Hid (((wq.alloc (.cells #[.int .i64 ky, .int .i64 vl] 39 (0, 0))).setCell ⟨g, j, none⟩ (.int .i64 ky)).ownsRow W.heap.size 2 1 (.slice (some ⟨g, 0, none⟩) n n) n ((fillK ks (j + 1)).map (Value.int .i64))) := by
        have h9 := (hO2.stored j (.int .i64 ky)).1
        rw [← List.map_set, hnx] at h9
        exact hide h9
      have HB3 : Hid (Below W.heap.size W ((wq.alloc (.cells #[.int .i64 ky, .int .i64 vl] 39 (0, 0))).setCell ⟨g, j, none⟩ (.int .i64 ky))) := hide ((HB.out.trans (ab.mono HB.out.size)).setCell (p := ⟨g, j, none⟩) (Nat.le_of_eq HG.out) _)
      obtain ⟨v1, hv1⟩ : ∃ v1, v1 = wq.alloc (.cells #[.int .i64 ky, .int .i64 vl] 39 (0, 0)) := ⟨_, rfl⟩
      rw [← hv1] at hbx c0 f0 HO3 HB3
      obtain ⟨xb, hxb⟩ : ∃ xb, wq.heap.size = xb := ⟨_, rfl⟩
      rw [hxb] at hbx
      have e0 : v1.cell? ⟨xb, 0, none⟩ = some (.int .i64 ky) := by simp [World.cell?, hbx]
      clear hc hx hlt2 hlk hky ab hO2 hnx hcc hbx
      go_upto_region 5 with fail
      rw [← hv1]
      try rw [hxb]
      clear hv1 hxb
      go_wp2
      exact ⟨⟨j + 1, by omega, by first | rfl | go_num, HO3, HB3⟩, by simp [intOf]; omega⟩
    · obtain rfl : j = n := by omega
      have hO := HO.out
      rw [show fillK ks j = ks by rw [← HKL.out]; exact fillK_all] at hO
      have HS := hide (sort_any hO (by omega))
      clear hO HO
      go_wp2_with fail
      refine HS.out.mono ?_
      rintro _ w2 ⟨rfl, O2, N2⟩
      have HB2 : Hid (Below W.heap.size W w2) := hide (HB.out.trans (N2.below HB.out.size (fun i e => by have e' : i = g := e; have := HG.out; omega)))
      have HC := hide (compact_any O2 (by omega))
      clear O2 N2 HS HB
      go_wp2_with fail
      refine HC.out.mono ?_
      rintro _ w3 ⟨rfl, O3, N3⟩
      have HB3 : Hid (Below W.heap.size W w3) := hide (HB2.out.trans (N3.below HB2.out.size (fun i e => by have e' : i = g := e; have := HG.out; omega)))
      obtain ⟨qs, hqs⟩ : ∃ qs, keysC ks = qs := ⟨_, rfl⟩
      have hqs2 : Lib.compact (sortC ks) = qs := hqs
      rw [hqs2] at O3 ⊢
      obtain ⟨m, hm⟩ : ∃ m, qs.length = m := ⟨_, rfl⟩
      have hmj : m ≤ j := by
        have h9 := Lib.compact_length_le (sortC ks)
        rw [hqs2, hm, (sortC_perm ks).length_eq, HKL.out] at h9
        exact h9
      rw [hm] at O3 ⊢
      obtain ⟨w4, hrun2, hown2, hgr2⟩ := run_make_full w3 w3.heap.size 66 74 j0 (.agg #[.int .i64 0, .int .i64 0, .int .i64 0, .int .i64 0, .int .i64 0]) 5 Try.underlying66 hJ0 hy0 hy1 .i64 .i64 m (by rw [hy2]; omega) (by unfold maxLen; omega) (Nat.le_refl _)
      rw [made_ens] at hown2
      have hb4 : Below w3.heap.size w3 w4 := (Below.refl _ w3).grown hgr2 (Nat.le_refl _) (fun k hk => by simp at hk)
      obtain ⟨es, hes⟩ : ∃ es, qs.map (fun k => (⟨nn, k, 0, 0, 0⟩ : EN)) = es := ⟨_, rfl⟩
      have hel : es.length = m := by rw [← hes, List.length_map]; exact hm
      obtain ⟨g2, hg2⟩ : ∃ g2, w3.heap.size = g2 := ⟨_, rfl⟩
      rw [hg2] at hrun2 hown2
      have HOE0 : Hid (w4.ownsRow g2 74 5 (.slice (some ⟨g2, 0, none⟩) m m) m ((fillE es 0).flatMap EN.cells)) := by
        unfold fillE
        rw [List.take_zero, List.nil_append, Nat.sub_zero, hel]
        exact hide hown2
      have HOK := hide (ownsRow_later O3 hb4)
      have HB4 : Hid (Below W.heap.size W w4) := hide (HB3.out.trans (hb4.mono HB3.out.size))
      have hWg2 : W.heap.size ≤ g2 := by rw [← hg2]; exact HB3.out.size
      have hgg : g < g2 := by rw [← hg2]; exact (O3.lt g rfl).2
      have HQS := hide hqs
      have HM := hide hm
      have HES := hide hes
      have HEL := hide hel
      clear O3 N3 HC hown2 hgr2 hb4 HB2 hg2 hqs hqs2 hm hes hel
      go_wp2_with fail
      go_loopw [36] (fun s wr => ∃ k : Nat, k ≤ m ∧ s = .int .i64 (k : Int) ∧ Hid (wr.ownsRow g2 74 5 (.slice (some ⟨g2, 0, none⟩) m m) m ((fillE es k).flatMap EN.cells)) ∧ Hid (Only (· = g2) w4 wr)) (fun s _ => m - (intOf s).toNat)
      case atStart => exact ⟨0, Nat.zero_le _, rfl, HOE0, hide (Only.refl _ _)⟩
      case round =>
        obtain ⟨k, hk, rfl, HOE, HY⟩ := hrel
        rename World => wr
        clear HOE0
        by_cases hkt : k < m
        · have hkq : k < qs.length := by rw [HM.out]; exact hkt
          have hke : k < es.length := by rw [HEL.out]; exact hkt
          obtain ⟨bb, oo, hbo, _, _, _, hcc⟩ := (own_row HOK.out).cellAt (by omega)
          simp only [Option.some.injEq, Addr.mk.injEq, and_true] at hbo
          obtain ⟨rfl, rfl⟩ := hbo
          have c0 := HY.out.cell (hcc k hkt) (fun e => by have e' : g = g2 := e; omega)
          rw [Nat.zero_add] at c0
          obtain ⟨ky, hky⟩ : ∃ ky, qs.getD k 0 = ky := ⟨_, rfl⟩
          rw [hky] at c0
          have hx : es[k]! = ⟨nn, ky, 0, 0, 0⟩ := by
            rw [getElem!_pos es k hke]
            rw [List.getD_eq_getElem?_getD, List.getElem?_eq_getElem hkq] at hky
            simp only [Option.getD_some] at hky
            simp only [← HES.out, List.getElem_map, hky]
          have hfl : (fillE es k).length = m := by rw [fillE_len (by omega)]; exact HEL.out
          obtain ⟨_, _, _, q4⟩ := own_list (cells := EN.cells) (fun o _ => o.len) hfl HOE.out
          obtain ⟨gg, o2, hpg, hc⟩ := q4 k (by omega)
          simp only [Option.some.injEq, Addr.mk.injEq, and_true] at hpg
          obtain ⟨rfl, rfl⟩ := hpg
          rw [fillE_at hke] at hc
          have hst := EN.stored HOE.out (k := k) (by omega) ⟨nn, ky, 0, 0, 0⟩
          have hnx := fillE_next hke
          rw [hx] at hnx
          rw [hnx] at hst
          have HST := hide hst
          have c1 : wr.cell? ⟨g2, k * 5, none⟩ = some (.int .i64 0) := by have h9 := hc 0 (by decide); rw [Nat.zero_add] at h9; exact h9
          have c2 : wr.cell? ⟨g2, k * 5 + 1, none⟩ = some (.int .i64 0) := by have h9 := hc 1 (by decide); rw [Nat.zero_add] at h9; exact h9
          have c3 : wr.cell? ⟨g2, k * 5 + 2, none⟩ = some (.int .i64 0) := by have h9 := hc 2 (by decide); rw [Nat.zero_add] at h9; exact h9
          have c4 : wr.cell? ⟨g2, k * 5 + 3, none⟩ = some (.int .i64 0) := by have h9 := hc 3 (by decide); rw [Nat.zero_add] at h9; exact h9
          have c5 : wr.cell? ⟨g2, k * 5 + 4, none⟩ = some (.int .i64 0) := by have h9 := hc 4 (by decide); rw [Nat.zero_add] at h9; exact h9
          have fz : ∀ i, wr.frozen? ⟨g2, i, none⟩ = false := fun i => HOE.out.frozenAt _
          have fz0 := fz (k * 5)
          have fz1 := fz (k * 5 + 1)
          have fz2 := fz (k * 5 + 2)
          have fz3 := fz (k * 5 + 3)
          have fz4 := fz (k * 5 + 4)
          have HYF := HY
          clear hcc hky hx hfl q4 hc hst hnx fz hkq hke
          go_wp2
          refine ⟨⟨k + 1, by omega, by first | rfl | go_num, HST, hide ?_⟩, by simp [intOf]; omega⟩
          exact ((((HYF.out.trans (Only.set wr g2 (k * 5) _ rfl)).trans (Only.set _ g2 (k * 5 + 1) _ rfl)).trans (Only.set _ g2 (k * 5 + 2) _ rfl)).trans (Only.set _ g2 (k * 5 + 3) _ rfl)).trans (Only.set _ g2 (k * 5 + 4) _ rfl)
        · obtain rfl : k = m := by omega
          have HF : Hid (wr.ownsRow W.heap.size 74 5 (.slice (some ⟨g2, 0, none⟩) k k) k (es.flatMap EN.cells)) := by
            have h9 := HOE.out
            rw [show fillE es k = es by rw [← HEL.out]; exact fillE_all] at h9
            exact hide (ownsRow_base h9 hWg2)
          have HBF : Hid (Below W.heap.size W wr) := hide (HB4.out.trans (HY.out.below HB4.out.size (fun i e => by have e' : i = g2 := e; omega)))
          clear HOE HY
          go_wp2
          go_ret
          exact ⟨g2, k, es, rfl, by rw [HQS.out]; exact HES.out.symm, HEL.out, HF.out, HBF.out⟩
end Go.Proofs.Ytcabfohmimglpaa
