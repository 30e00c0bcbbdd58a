/-
  keep of a ledger, of a key of which there is nothing: where the new one stands. The conditions: lengths.
-/
import Derived.Test.YtcabfohmimglpaaOkn
namespace Go.Proofs.Ytcabfohmimglpaa
open Go.RowKit

/-- Where a new one of a key is to stand. -/
def GapAt (L : LG) (t gp : Int) : Prop := ∃ j1 f1 j2 f2, Found L.left L.lh t j1 f1 ∧ Found L.fr L.fh t j2 f2 ∧ gapC L j1 f1 j2 f2 = gp
set_option maxRecDepth 100000 in
set_option maxHeartbeats 8000000 in
theorem keep_gap {W : World} {base lb k : Nat} {A : LA} {L : LG} {x : Nat} {e : EN} {nk nc na : Int} (h : LRep W base lb A L) (hk : k < L.es.length) (hx : L.es[k]! = e) (hf : e.first = (x : Int)) (hn : L.old.length ≤ x) (hcnt : e.cnt = 0) (hkf : k < L.fh) (hb1 : 2 * L.lh ≤ 1099511627776) (hb2 : 2 * L.fh ≤ 1099511627776) (ht : lowN ≤ nk) (hfr : ∀ j, L.es.length ≤ j → j < L.fh → L.fr.getD (L.fh + j) 0 = lowN) :
    Calls Try.prog 15 #[.pointer (some ⟨lb, 0, none⟩), .int .i64 (k : Int), .agg #[.int .i64 nk, .int .i64 nc, .int .i64 na]] W fun r w' => ∃ v gp ps, r = .returned v ∧ LRep w' base lb A { L with es := L.es.set k ⟨e.first, nk, nc, na, gp⟩, fr := ps } ∧ Leaves ps L.fr L.fh k nk ∧ Only (fun i => A.pe = some ⟨i, 0, none⟩ ∨ i = A.gf) W w' ∧ GapAt L nk gp := by
  obtain ⟨g, hg⟩ := own_at0 h.es (by omega)
  obtain ⟨m, hm⟩ : ∃ m, L.es.length = m := ⟨_, rfl⟩
  obtain ⟨n, hnn⟩ : ∃ n, L.old.length = n := ⟨_, rfl⟩
  obtain ⟨V, hV⟩ : ∃ V, V = W.alloc (.cells #[.int .i64 nk, .int .i64 nc, .int .i64 na] 43 (0, 0)) := ⟨_, rfl⟩
  have hbV : Below W.heap.size W V := by rw [hV]; exact alloc_below _ _
  have u0 : V.heap[W.heap.size]? = some (.cells #[.int .i64 nk, .int .i64 nc, .int .i64 na] 43 (0, 0)) := by rw [hV]; exact heap_alloc_new _ _
  obtain ⟨nb, hnb⟩ : ∃ nb, W.heap.size = nb := ⟨_, rfl⟩
  rw [hnb] at u0
  have h2 := h.later hbV
  have hes := h2.es
  rw [hg, hm] at hes
  obtain ⟨c0, c1, c2, c3, c4, hfz⟩ := es_cells hes hm (by omega) hx
  obtain ⟨_, _, ef, i1, i2⟩ := own_form hes
  simp only [Value.slice.injEq, true_and] at ef
  obtain ⟨rfl, rfl⟩ := ef
  have z0 : V.cell? ⟨lb, 0, none⟩ = some (.slice A.po n A.co) := by rw [← hnn]; simp [World.cell?, h2.box]
  have z4 : V.cell? ⟨lb, 4, none⟩ = some (.slice (some ⟨g, 0, none⟩) m A.ce) := by rw [← hm, ← hg]; simp [World.cell?, h2.box]
  rw [hf] at c0
  have dn : decide ((x : Int) < (n : Int)) = false := decide_eq_false (by omega)
  have dn2 : decide (x < n) = false := decide_eq_false (by omega)
  have hkm : k < m := by omega
  obtain ⟨ct, hct⟩ : ∃ ct, e.cnt = ct := ⟨_, rfl⟩
  rw [hct] at c2 hcnt
  subst hcnt
  have H2 := hide h2
  have HX := hide hx
  have HM := hide hm
  have HG := hide hg
  have HBV := hide hbV
  have HU := hide u0
  have HHK := hide hk
  have HB1 := hide hb1
  have HB2 := hide hb2
  have HFR := hide hfr
  obtain ⟨l2, hl2⟩ : ∃ l, 2 * L.fh = l := ⟨_, rfl⟩
  have HL2 := hide hl2
  clear h h2 hx hf hn hm hnn hes hg hbV hct hk c1 c3 c4 hb1 hb2 hfr hl2
  go_enter Try.func15, Try.ntmps15
  go_upto_region 1 with fail
  rw [← hV]
  try rw [hnb]
  clear hV hnb
  go_upto_region 2 with fail
  go_big_quiet (fail)
  obtain ⟨Y, hY⟩ : ∃ Y, Y = V.drewN nq := ⟨_, rfl⟩
  have hVY : Below V.heap.size V Y := by rw [hY]; exact below_drewN (Below.refl _ V) _
  rw [← hY]
  have h := H2.out.later hVY
  have hes := h.es
  rw [HG.out, HM.out] at hes
  obtain ⟨_, d1, d2, d3, d4, hfz2⟩ := es_cells hes HM.out hkm HX.out
  have f4 := hfz2 (k * 5 + 4)
  have c2' := cell_later hVY c2
  have y0 := below_box hVY HU.out
  have b0 : Y.cell? ⟨nb, 0, none⟩ = some (.int .i64 nk) := by simp [World.cell?, y0]
  have HGP := hide (gap_any h HB1.out HB2.out ht HFR.out)
  have HY0 := hide y0
  have HBY := hide (HBV.out.trans (hVY.mono HBV.out.size))
  have H := hide h
  obtain ⟨ek4, hek4⟩ : ∃ ek4, e.gap = ek4 := ⟨_, rfl⟩
  rw [hek4] at d4
  have hnbg : nb ≠ g := fun e9 => by
    obtain ⟨_, cur, h9⟩ := own_block_lt hes (b := g) rfl
    rw [← e9, y0] at h9
    simp only [Option.some.injEq, Obj.cells.injEq] at h9
    exact absurd h9.2.1 (by decide)
  have HNG := hide hnbg
  clear h hes d1 d2 d3 hVY hY hfz2 hfz y0 z0 z4 c0 c2 hek4 hnbg
  go_wp2_with fail
  refine HGP.out.mono ?_
  rintro _ _ ⟨j1, g1, j2, g2, F1, F2, _, rfl, rfl⟩
  rename World => Y
  obtain ⟨gp, hgp⟩ : ∃ gp, gapC L j1 g1 j2 g2 = gp := ⟨_, rfl⟩
  rw [hgp]
  have HGQ : Hid (GapAt L nk gp) := hide ⟨j1, g1, j2, g2, F1, F2, hgp⟩
  clear F1 F2
  have hes := H.out.es
  rw [HG.out, HM.out] at hes
  have hst := EN.storedGap hes HHK.out HX.out gp
  have hon := Only.set (F := (· = g)) Y g (k * 5 + 4) (.int .i64 gp) rfl
  have hl1 := H.out.newEs (es := L.es.set k ⟨e.first, e.key, e.cnt, e.acc, gp⟩) HG.out (List.length_set ..) hon (by rw [HG.out, HM.out]; exact hst)
  obtain ⟨X, hX⟩ : ∃ X, X = Y.setCell ⟨g, k * 5 + 4, none⟩ (.int .i64 gp) := ⟨_, rfl⟩
  rw [← hX] at hl1 hon
  have z5 : X.cell? ⟨lb, 5, none⟩ = some (.slice (some ⟨A.gf, 0, none⟩) l2 A.cf) := by rw [← HL2.out]; simp [World.cell?, hl1.box]
  have x0 := hon.obj HY0.out HNG.out
  have b0' : X.cell? ⟨nb, 0, none⟩ = some (.int .i64 nk) := by simp [World.cell?, x0]
  have hld : Below X.heap.size X X.drew := (Below.refl _ X).drew
  have hl1d := hl1.later hld
  have hset := set_any (v := nk) (pl := k) hl1d.fr hl1d.pf hkf HB2.out
  simp only at hset
  rw [HL2.out] at hset
  have HSET := hide hset
  have HL1 := hide hl1d
  have HX0 := hide x0
  have HON : Hid (Only (fun i => A.pe = some ⟨i, 0, none⟩ ∨ i = A.gf) W X) := hide ((Only.fresh HBY.out _).trans (hon.mono (fun i _ e => by have e' : i = g := e; rw [e']; exact .inl HG.out)))
  clear hes hst hon hl1 hl1d hset hld x0 hgp HGP
  go_upto_region 6 with fail
  rw [← hX]
  clear hX f4 c2' b0 d4
  go_region_with (go_at_call 25; refine HSET.out.mono ?_; rintro _ w9 ⟨v9, ps, rfl, o9, p9, l9, n9⟩)
  all_goals
    have hLF := HL1.out.newFresh n9 (by simp only; rw [HL2.out]; exact o9) p9
    have hng : nb ≠ A.gf := fun e9 => by
      obtain ⟨_, cur, h9⟩ := own_block_lt HL1.out.fr (b := A.gf) rfl
      have x1 : X.drew.heap[nb]? = _ := HX0.out
      rw [← e9, x1] at h9
      simp only [Option.some.injEq, Obj.cells.injEq] at h9
      exact absurd h9.2.1 (by decide)
    have y9 := n9.obj (show X.drew.heap[nb]? = _ from HX0.out) hng
    have b0 : w9.cell? ⟨nb, 0, none⟩ = some (.int .i64 nk) := by simp [World.cell?, y9]
    have b1 : w9.cell? ⟨nb, 1, none⟩ = some (.int .i64 nc) := by simp [World.cell?, y9]
    have b2 : w9.cell? ⟨nb, 2, none⟩ = some (.int .i64 na) := by simp [World.cell?, y9]
    have hes := hLF.es
    simp only [List.length_set] at hes
    rw [HG.out, HM.out] at hes
    have hget : (L.es.set k ⟨e.first, e.key, e.cnt, e.acc, gp⟩)[k]! = ⟨e.first, e.key, e.cnt, e.acc, gp⟩ := get_setEN HHK.out
    have hlen : (L.es.set k ⟨e.first, e.key, e.cnt, e.acc, gp⟩).length = m := by rw [List.length_set]; exact HM.out
    obtain ⟨_, d1, d2, d3, _, hfz2⟩ := es_cells hes hlen hkm hget
    have f1 := hfz2 (k * 5 + 1)
    have f2 := hfz2 (k * 5 + 2)
    have f3 := hfz2 (k * 5 + 3)
    simp only at d1 d2 d3
    have hst := EN.storedState hes (by rw [hlen]; exact hkm) hget nk nc na
    have hon : Only (· = g) w9 (((w9.setCell ⟨g, k * 5 + 1, none⟩ (.int .i64 nk)).setCell ⟨g, k * 5 + 2, none⟩ (.int .i64 nc)).setCell ⟨g, k * 5 + 3, none⟩ (.int .i64 na)) := ((Only.set (F := (· = g)) w9 g _ _ rfl).trans (Only.set (F := (· = g)) _ g _ _ rfl)).trans (Only.set (F := (· = g)) _ g _ _ rfl)
    have hfin := hLF.newEs (es := (L.es.set k ⟨e.first, e.key, e.cnt, e.acc, gp⟩).set k ⟨e.first, nk, nc, na, gp⟩) HG.out (by simp) hon (by simp only [List.length_set]; rw [HG.out, HM.out]; exact hst)
    simp only [List.set_set] at hfin
    have HFIN := hide hfin
    have HLV := hide l9
    have HONF : Hid (Only (fun i => A.pe = some ⟨i, 0, none⟩ ∨ i = A.gf) W (((w9.setCell ⟨g, k * 5 + 1, none⟩ (.int .i64 nk)).setCell ⟨g, k * 5 + 2, none⟩ (.int .i64 nc)).setCell ⟨g, k * 5 + 3, none⟩ (.int .i64 na))) := hide ((HON.out.drew.trans (n9.mono (fun i _ e => .inr e))).trans (hon.mono (fun i _ e => by have e' : i = g := e; rw [e']; exact .inl HG.out)))
    obtain ⟨ek, hek⟩ : ∃ ek, e.key = ek := ⟨_, rfl⟩
    obtain ⟨ec, hec⟩ : ∃ ek, e.cnt = ek := ⟨_, rfl⟩
    obtain ⟨ea, hea⟩ : ∃ ek, e.acc = ek := ⟨_, rfl⟩
    rw [hek] at d1
    rw [hec] at d2
    rw [hea] at d3
    clear hLF hng y9 hes hget hlen hfz2 hst hon hfin l9 o9 p9 n9 hek hec hea HSET
    go_wp2
    refine bodyPost_end (results_none rfl _ _ _) rfl ?_
    exact ⟨⟨_, rfl⟩, gp, ps, HFIN.out, HLV.out, HONF.out, HGQ.out⟩
end Go.Proofs.Ytcabfohmimglpaa
