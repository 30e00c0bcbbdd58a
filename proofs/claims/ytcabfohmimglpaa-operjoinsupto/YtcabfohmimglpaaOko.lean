/-
  keep of a ledger, of a key of which there is an old one. The conditions: lengths.
-/
import Derived.Test.YtcabfohmimglpaaOkn
import Derived.Test.YtcabfohmimglpaaOsp
namespace Go.Proofs.Ytcabfohmimglpaa
open Go.RowKit

theorem KS.stored3 {w : World} {base g n cap k : Nat} {es : List KS} (h : w.ownsRow base 43 3 (.slice (some ⟨g, 0, none⟩) n cap) n (es.flatMap KS.cells)) (hk : k < es.length) (y : KS) :
    (((w.setCell ⟨g, k * 3, none⟩ (.int .i64 y.key)).setCell ⟨g, k * 3 + 1, none⟩ (.int .i64 y.cnt)).setCell ⟨g, k * 3 + 2, none⟩ (.int .i64 y.acc)).ownsRow base 43 3 (.slice (some ⟨g, 0, none⟩) n cap) n ((es.set k y).flatMap KS.cells) := by
  obtain ⟨e, he⟩ : ∃ e, es[k]! = e := ⟨_, rfl⟩
  have hset : ∀ (l : List KS) (y : KS), k < l.length → (l.set k y)[k]! = y := fun l y hl => by rw [getElem!_pos _ k (by simpa using hl), List.getElem_set_self]
  have step : ∀ (w : World) (l : List KS) (a : KS) (j : Nat) (y : KS) (u : Value), j < 3 → k < l.length → l[k]! = a → KS.cells y = (KS.cells a).set j u → w.ownsRow base 43 3 (.slice (some ⟨g, 0, none⟩) n cap) n (l.flatMap KS.cells) → (w.setCell ⟨g, k * 3 + j, none⟩ u).ownsRow base 43 3 (.slice (some ⟨g, 0, none⟩) n cap) n ((l.set k y).flatMap KS.cells) := fun w l a j y u hj hl ha hy h9 => by
    rw [flat_set (cells := KS.cells) l (fun o _ => o.len) k j y u hl hj (by rw [ha]; exact hy)]
    exact (h9.stored (k * 3 + j) u).1
  have s1 := step _ _ e 0 ⟨y.key, e.cnt, e.acc⟩ (.int .i64 y.key) (by decide) hk he rfl h
  have s2 := step _ _ ⟨y.key, e.cnt, e.acc⟩ 1 ⟨y.key, y.cnt, e.acc⟩ (.int .i64 y.cnt) (by decide) (by simpa using hk) (hset _ _ hk) rfl s1
  have s3 := step _ _ ⟨y.key, y.cnt, e.acc⟩ 2 y (.int .i64 y.acc) (by decide) (by simpa using hk) (hset _ _ (by simpa using hk)) rfl s2
  simp only [List.set_set, Nat.add_zero] at s3
  exact s3

set_option maxRecDepth 100000 in
set_option maxHeartbeats 8000000 in
theorem keep_old {W : World} {base lb k : Nat} {A : LA} {L : LG} {x : Nat} {e : EN} {nk nc na : Int} (h : LRep W base lb A L) (hk : k < L.es.length) (hx : L.es[k]! = e) (hf : e.first = (x : Int)) (hn : x < L.old.length) :
    Calls Try.prog 15 #[.pointer (some ⟨lb, 0, none⟩), .int .i64 (k : Int), .agg #[.int .i64 nk, .int .i64 nc, .int .i64 na]] W fun r w' => ∃ v, r = .returned v ∧ LRep w' base lb A { L with old := L.old.set x ⟨nk, nc, na⟩ } ∧ Only (fun i => A.po = some ⟨i, 0, none⟩) W w' := by
  obtain ⟨g, hg⟩ := own_at0 h.es (by omega)
  obtain ⟨go, hgo⟩ := own_at0 h.old (by omega)
  obtain ⟨m, hm⟩ : ∃ m, L.es.length = m := ⟨_, rfl⟩
  obtain ⟨n, hnn⟩ : ∃ n, L.old.length = n := ⟨_, rfl⟩
  obtain ⟨V, hV⟩ : ∃ V, V = W.alloc (.cells #[.int .i64 nk, .int .i64 nc, .int .i64 na] 43 (0, 0)) := ⟨_, rfl⟩
  have hbV : Below W.heap.size W V := by rw [hV]; exact alloc_below _ _
  have u0 : V.heap[W.heap.size]? = some (.cells #[.int .i64 nk, .int .i64 nc, .int .i64 na] 43 (0, 0)) := by rw [hV]; exact heap_alloc_new _ _
  obtain ⟨nb, hnb⟩ : ∃ nb, W.heap.size = nb := ⟨_, rfl⟩
  rw [hnb] at u0
  have h2 := h.later hbV
  have hes := h2.es
  rw [hg, hm] at hes
  obtain ⟨c0, c1, c2, c3, c4, hfz⟩ := es_cells hes hm (by omega) hx
  obtain ⟨_, _, ef, i1, i2⟩ := own_form hes
  simp only [Value.slice.injEq, true_and] at ef
  obtain ⟨rfl, rfl⟩ := ef
  have z0 : V.cell? ⟨lb, 0, none⟩ = some (.slice (some ⟨go, 0, none⟩) n A.co) := by rw [← hnn, ← hgo]; simp [World.cell?, h2.box]
  have z4 : V.cell? ⟨lb, 4, none⟩ = some (.slice (some ⟨g, 0, none⟩) m A.ce) := by rw [← hm, ← hg]; simp [World.cell?, h2.box]
  rw [hf] at c0
  have dn : decide ((x : Int) < (n : Int)) = true := decide_eq_true (by omega)
  have dn2 : decide (x < n) = true := decide_eq_true (by omega)
  have hkm : k < m := by omega
  have H2 := hide h2
  have HX := hide hx
  have HM := hide hm
  have HG := hide hg
  have HBV := hide hbV
  have HU := hide u0
  have HHK := hide hk
  have HGO := hide hgo
  have HNN := hide hnn
  have hold := h2.old
  rw [hgo, hnn] at hold
  have hxn : x < n := by omega
  obtain ⟨_, _, ef2, i3, i4⟩ := own_form hold
  simp only [Value.slice.injEq, true_and] at ef2
  obtain ⟨rfl, rfl⟩ := ef2
  clear h h2 hx hf hn hm hnn hes hg hbV hk c1 c2 c3 c4 hgo hold hfz
  go_enter Try.func15, Try.ntmps15
  go_upto_region 1 with fail
  rw [← hV]
  try rw [hnb]
  clear hV hnb
  go_upto_region 2 with fail
  go_big_quiet (fail)
  obtain ⟨Y, hY⟩ : ∃ Y, Y = V.drewN nq := ⟨_, rfl⟩
  have hVY : Below V.heap.size V Y := by rw [hY]; exact below_drewN (Below.refl _ V) _
  rw [← hY]
  have h := H2.out.later hVY
  have hold := h.old
  rw [HGO.out, HNN.out] at hold
  obtain ⟨o, ho⟩ : ∃ o, L.old[x]! = o := ⟨_, rfl⟩
  obtain ⟨gq, eq, k0, k1, k2⟩ := ks_cells hold HNN.out hxn ho
  simp only [Option.some.injEq, Addr.mk.injEq, and_true] at eq
  subst eq
  have f0 : Y.frozen? ⟨go, x * 3, none⟩ = false := hold.frozenAt _
  have f1 : Y.frozen? ⟨go, x * 3 + 1, none⟩ = false := hold.frozenAt _
  have f2 : Y.frozen? ⟨go, x * 3 + 2, none⟩ = false := hold.frozenAt _
  have y0 := below_box hVY HU.out
  have b0 : Y.cell? ⟨nb, 0, none⟩ = some (.int .i64 nk) := by simp [World.cell?, y0]
  have b1 : Y.cell? ⟨nb, 1, none⟩ = some (.int .i64 nc) := by simp [World.cell?, y0]
  have b2 : Y.cell? ⟨nb, 2, none⟩ = some (.int .i64 na) := by simp [World.cell?, y0]
  have z0' := cell_later hVY z0
  have c0' := cell_later hVY c0
  have hst := KS.stored3 hold (by rw [HNN.out]; exact hxn) ⟨nk, nc, na⟩
  have hon : Only (· = go) Y (((Y.setCell ⟨go, x * 3, none⟩ (.int .i64 nk)).setCell ⟨go, x * 3 + 1, none⟩ (.int .i64 nc)).setCell ⟨go, x * 3 + 2, none⟩ (.int .i64 na)) := ((Only.set (F := (· = go)) Y go _ _ rfl).trans (Only.set (F := (· = go)) _ go _ _ rfl)).trans (Only.set (F := (· = go)) _ go _ _ rfl)
  have HL1 := hide ((h.newOld (os := L.old.set x ⟨nk, nc, na⟩) HGO.out (List.length_set ..) hon (by rw [HGO.out, HNN.out]; exact hst)).later (Below.refl _ _).drew)
  have HON : Hid (Only (fun i => A.po = some ⟨i, 0, none⟩) W (((Y.setCell ⟨go, x * 3, none⟩ (.int .i64 nk)).setCell ⟨go, x * 3 + 1, none⟩ (.int .i64 nc)).setCell ⟨go, x * 3 + 2, none⟩ (.int .i64 na))) := hide ((Only.fresh (HBV.out.trans (hVY.mono HBV.out.size)) _).trans (hon.mono (fun i _ e => by have e' : i = go := e; rw [e']; exact HGO.out)))
  obtain ⟨ok, hok⟩ : ∃ ek, o.key = ek := ⟨_, rfl⟩
  obtain ⟨oc, hoc⟩ : ∃ ek, o.cnt = ek := ⟨_, rfl⟩
  obtain ⟨oa, hoa⟩ : ∃ ek, o.acc = ek := ⟨_, rfl⟩
  rw [hok] at k0
  rw [hoc] at k1
  rw [hoa] at k2
  have e1 := (Only.set (F := (· = go)) Y go (x * 3) (.int .i64 nk) rfl)
  clear h hold hst hon hVY hY y0 z0 z4 c0 hok hoc hoa ho e1
  go_upto_region 3 with fail
  go_region
  all_goals
    go_wp2
    refine bodyPost_ret (results_none rfl _ _ _) rfl ?_
    first
      | exact ⟨_, rfl, HL1.out, HON.out.drew⟩
      | exact ⟨_, rfl, HL1.out, HON.out⟩
end Go.Proofs.Ytcabfohmimglpaa
