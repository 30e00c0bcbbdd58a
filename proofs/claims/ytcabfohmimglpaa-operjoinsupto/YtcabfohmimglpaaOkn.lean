/-
  keep of a ledger where there is no old one. The conditions: lengths.
-/
import Derived.Test.YtcabfohmimglpaaOdr
namespace Go.Proofs.Ytcabfohmimglpaa
open Go.RowKit

theorem EN.storedGap {w : World} {base g n cap k : Nat} {es : List EN} (h : w.ownsRow base 74 5 (.slice (some ⟨g, 0, none⟩) n cap) n (es.flatMap EN.cells)) (hk : k < es.length) {e : EN} (he : es[k]! = e) (a : Int) :
    (w.setCell ⟨g, k * 5 + 4, none⟩ (.int .i64 a)).ownsRow base 74 5 (.slice (some ⟨g, 0, none⟩) n cap) n ((es.set k ⟨e.first, e.key, e.cnt, e.acc, a⟩).flatMap EN.cells) := by
  rw [flat_set (cells := EN.cells) es (fun o _ => o.len) k 4 ⟨e.first, e.key, e.cnt, e.acc, a⟩ (.int .i64 a) hk (by decide) (by rw [he]; rfl)]
  exact (h.stored (k * 5 + 4) (.int .i64 a)).1
theorem es_cells {W : World} {base g n cap k : Nat} {es : List EN} (h : W.ownsRow base 74 5 (.slice (some ⟨g, 0, none⟩) n cap) n (es.flatMap EN.cells)) (hl : es.length = n) (hk : k < n) {e : EN} (he : es[k]! = e) :
    W.cell? ⟨g, k * 5, none⟩ = some (.int .i64 e.first) ∧ W.cell? ⟨g, k * 5 + 1, none⟩ = some (.int .i64 e.key) ∧ W.cell? ⟨g, k * 5 + 2, none⟩ = some (.int .i64 e.cnt) ∧ W.cell? ⟨g, k * 5 + 3, none⟩ = some (.int .i64 e.acc) ∧ W.cell? ⟨g, k * 5 + 4, none⟩ = some (.int .i64 e.gap) ∧ ∀ i, W.frozen? ⟨g, i, none⟩ = false := by
  obtain ⟨_, _, _, q4⟩ := own_list (cells := EN.cells) (fun o _ => o.len) hl h
  obtain ⟨gg, oo, hpg, hc⟩ := q4 k (by omega)
  simp only [Option.some.injEq, Addr.mk.injEq, and_true] at hpg
  obtain ⟨rfl, rfl⟩ := hpg
  rw [he] at hc
  simp only [Nat.zero_add] at hc
  exact ⟨hc 0 (by decide), hc 1 (by decide), hc 2 (by decide), hc 3 (by decide), hc 4 (by decide), fun i => h.frozenAt _⟩
theorem get_setEN {ys : List EN} {k : Nat} {x : EN} (hk : k < ys.length) : (ys.set k x)[k]! = x := by
  rw [getElem!_pos _ k (by simpa using hk), List.getElem_set_self]

set_option maxRecDepth 100000 in
set_option maxHeartbeats 8000000 in
theorem keep_had {W : World} {base lb k : Nat} {A : LA} {L : LG} {x : Nat} {e : EN} {nk nc na : Int} (h : LRep W base lb A L) (hk : k < L.es.length) (hx : L.es[k]! = e) (hf : e.first = (x : Int)) (hn : L.old.length ≤ x) (hcnt : e.cnt ≠ 0) :
    Calls Try.prog 15 #[.pointer (some ⟨lb, 0, none⟩), .int .i64 (k : Int), .agg #[.int .i64 nk, .int .i64 nc, .int .i64 na]] W fun r w' => ∃ v, r = .returned v ∧ LRep w' base lb A { L with es := L.es.set k ⟨e.first, nk, nc, na, e.gap⟩ } ∧ Only (fun i => A.pe = some ⟨i, 0, none⟩ ∨ i = A.gf) W w' := by
  obtain ⟨g, hg⟩ := own_at0 h.es (by omega)
  obtain ⟨m, hm⟩ : ∃ m, L.es.length = m := ⟨_, rfl⟩
  obtain ⟨n, hnn⟩ : ∃ n, L.old.length = n := ⟨_, rfl⟩
  obtain ⟨V, hV⟩ : ∃ V, V = W.alloc (.cells #[.int .i64 nk, .int .i64 nc, .int .i64 na] 43 (0, 0)) := ⟨_, rfl⟩
  have hbV : Below W.heap.size W V := by rw [hV]; exact alloc_below _ _
  have u0 : V.heap[W.heap.size]? = some (.cells #[.int .i64 nk, .int .i64 nc, .int .i64 na] 43 (0, 0)) := by rw [hV]; exact heap_alloc_new _ _
  obtain ⟨nb, hnb⟩ : ∃ nb, W.heap.size = nb := ⟨_, rfl⟩
  rw [hnb] at u0
  have h2 := h.later hbV
  have hes := h2.es
  rw [hg, hm] at hes
  obtain ⟨c0, c1, c2, c3, c4, hfz⟩ := es_cells hes hm (by omega) hx
  obtain ⟨_, _, ef, i1, i2⟩ := own_form hes
  simp only [Value.slice.injEq, true_and] at ef
  obtain ⟨rfl, rfl⟩ := ef
  have z0 : V.cell? ⟨lb, 0, none⟩ = some (.slice A.po n A.co) := by rw [← hnn]; simp [World.cell?, h2.box]
  have z4 : V.cell? ⟨lb, 4, none⟩ = some (.slice (some ⟨g, 0, none⟩) m A.ce) := by rw [← hm, ← hg]; simp [World.cell?, h2.box]
  rw [hf] at c0
  have dn : decide ((x : Int) < (n : Int)) = false := decide_eq_false (by omega)
  have dn2 : decide (x < n) = false := decide_eq_false (by omega)
  have hkm : k < m := by omega
  obtain ⟨ct, hct⟩ : ∃ ct, e.cnt = ct := ⟨_, rfl⟩
  rw [hct] at c2 hcnt
  have dc : (ct == 0) = false := by simpa using hcnt
  have H2 := hide h2
  have HX := hide hx
  have HM := hide hm
  have HG := hide hg
  have HBV := hide hbV
  have HU := hide u0
  have HHK := hide hk
  clear h h2 hx hf hn hm hnn hes hg hbV hct hk hcnt c1 c3 c4
  go_enter Try.func15, Try.ntmps15
  go_upto_region 1 with fail
  rw [← hV]
  try rw [hnb]
  clear hV hnb
  go_upto_region 2 with fail
  go_big_quiet (fail)
  obtain ⟨Y, hY⟩ : ∃ Y, Y = V.drewN nq := ⟨_, rfl⟩
  have hVY : Below V.heap.size V Y := by rw [hY]; exact below_drewN (Below.refl _ V) _
  rw [← hY]
  have h := H2.out.later hVY
  have hes := h.es
  rw [HG.out, HM.out] at hes
  obtain ⟨_, d1, d2, d3, _, hfz2⟩ := es_cells hes HM.out hkm HX.out
  have f1 := hfz2 (k * 5 + 1)
  have f2 := hfz2 (k * 5 + 2)
  have f3 := hfz2 (k * 5 + 3)
  have c2' := cell_later hVY c2
  have y0 := below_box hVY HU.out
  have b0 : Y.cell? ⟨nb, 0, none⟩ = some (.int .i64 nk) := by simp [World.cell?, y0]
  have b1 : Y.cell? ⟨nb, 1, none⟩ = some (.int .i64 nc) := by simp [World.cell?, y0]
  have b2 : Y.cell? ⟨nb, 2, none⟩ = some (.int .i64 na) := by simp [World.cell?, y0]
  have hst := EN.storedState hes HHK.out HX.out nk nc na
  have hon : Only (· = g) Y (((Y.setCell ⟨g, k * 5 + 1, none⟩ (.int .i64 nk)).setCell ⟨g, k * 5 + 2, none⟩ (.int .i64 nc)).setCell ⟨g, k * 5 + 3, none⟩ (.int .i64 na)) := ((Only.set (F := (· = g)) Y g _ _ rfl).trans (Only.set (F := (· = g)) _ g _ _ rfl)).trans (Only.set (F := (· = g)) _ g _ _ rfl)
  have HL1 := hide (h.newEs (es := L.es.set k ⟨e.first, nk, nc, na, e.gap⟩) HG.out (List.length_set ..) hon (by rw [HG.out, HM.out]; exact hst))
  have HON : Hid (Only (fun i => A.pe = some ⟨i, 0, none⟩ ∨ i = A.gf) W (((Y.setCell ⟨g, k * 5 + 1, none⟩ (.int .i64 nk)).setCell ⟨g, k * 5 + 2, none⟩ (.int .i64 nc)).setCell ⟨g, k * 5 + 3, none⟩ (.int .i64 na))) := hide ((Only.fresh (HBV.out.trans (hVY.mono HBV.out.size)) _).trans (hon.mono (fun i _ e => by have e' : i = g := e; rw [e']; exact .inl HG.out)))
  obtain ⟨ek, hek⟩ : ∃ ek, e.key = ek := ⟨_, rfl⟩
  obtain ⟨ea, hea⟩ : ∃ ek, e.acc = ek := ⟨_, rfl⟩
  rw [hek] at d1
  rw [hea] at d3
  clear h hes d2 hst hon hVY hY hfz2 hfz hek hea y0 z0 z4 c0 c2
  go_wp2
  refine bodyPost_end (results_none rfl _ _ _) rfl ?_
  exact ⟨_, rfl, HL1.out, HON.out⟩
end Go.Proofs.Ytcabfohmimglpaa
