/-
  drop of an old one. The conditions: lengths.
-/
import Derived.Test.YtcabfohmimglpaaOdr
namespace Go.Proofs.Ytcabfohmimglpaa
open Go.RowKit

theorem EN.storedFirst {w : World} {base g n cap k : Nat} {es : List EN} (h : w.ownsRow base 74 5 (.slice (some ⟨g, 0, none⟩) n cap) n (es.flatMap EN.cells)) (hk : k < es.length) {e : EN} (he : es[k]! = e) (a : Int) :
    (w.setCell ⟨g, k * 5, none⟩ (.int .i64 a)).ownsRow base 74 5 (.slice (some ⟨g, 0, none⟩) n cap) n ((es.set k ⟨a, e.key, e.cnt, e.acc, e.gap⟩).flatMap EN.cells) := by
  rw [flat_set (cells := EN.cells) es (fun o _ => o.len) k 0 _ (.int .i64 a) hk (by decide) (by rw [he]; rfl)]
  exact (h.stored (k * 5 + 0) _).1
theorem own_cells1 {W : World} {base e n c g : Nat} {xs : List Value} (h : W.ownsRow base e 1 (.slice (some ⟨g, 0, none⟩) n c) n xs) {i : Nat} {v : Value} (hv : xs[i]? = some v) : W.cell? ⟨g, i, none⟩ = some v := by
  rcases h.2 with ⟨e, _⟩ | ⟨g', cap, cur, e, hb, hg, h1, h2, h3, h4⟩
  · cases e
  · simp only [Value.slice.injEq, Option.some.injEq, Addr.mk.injEq, and_true, true_and] at e
    obtain ⟨rfl, rfl⟩ := e
    rw [← h4] at hv
    have hi : i < n * 1 := by
      have := (List.getElem?_eq_some_iff.1 hv).1
      rw [List.length_take] at this
      omega
    rw [List.getElem?_take_of_lt hi, Array.getElem?_toList] at hv
    simp only [World.cell?, hg]
    simpa using hv

set_option maxRecDepth 100000 in
set_option maxHeartbeats 8000000 in
theorem drop_old {W : World} {base lb k : Nat} {A : LA} {L : LG} {x : Nat} {e : EN} {y : Int} (h : LRep W base lb A L) (hk : k < L.es.length) (hx : L.es[k]! = e) (hf : e.first = (x : Int)) (hn : x < L.old.length) (hxl : x < L.lh) (hgl : L.gone.length = L.old.length) (hy : L.tw[x]? = some y) (hb2 : 2 * L.lh ≤ 1099511627776) :
    Calls Try.prog 16 #[.pointer (some ⟨lb, 0, none⟩), .int .i64 (k : Int)] W fun r w' => ∃ v ps, r = .returned v ∧ LRep w' base lb A { L with gone := L.gone.set x true, left := ps, es := L.es.set k ⟨y, e.key, e.cnt, e.acc, e.gap⟩ } ∧ Leaves ps L.left L.lh x lowN ∧ Only (fun i => A.pe = some ⟨i, 0, none⟩ ∨ A.pg = some ⟨i, 0, none⟩ ∨ i = A.gl) W w' := by
  obtain ⟨g, hg⟩ := own_at0 h.es (by omega)
  obtain ⟨gg, hgg⟩ := own_at0 h.gone (by omega)
  obtain ⟨gt, hgt⟩ := own_at0 h.tw (by omega)
  obtain ⟨m, hm⟩ : ∃ m, L.es.length = m := ⟨_, rfl⟩
  obtain ⟨n, hnn⟩ : ∃ n, L.old.length = n := ⟨_, rfl⟩
  obtain ⟨l1, hl1⟩ : ∃ l, 2 * L.lh = l := ⟨_, rfl⟩
  have z0 : W.cell? ⟨lb, 0, none⟩ = some (.slice A.po n A.co) := by rw [← hnn]; simp [World.cell?, h.box]
  have z4 : W.cell? ⟨lb, 4, none⟩ = some (.slice (some ⟨g, 0, none⟩) m A.ce) := by rw [← hm, ← hg]; simp [World.cell?, h.box]
  have hes := h.es
  rw [hg, hm] at hes
  obtain ⟨i1, i2, _, q4⟩ := own_list (cells := EN.cells) (fun o _ => o.len) hm hes
  obtain ⟨g3, oo, hpg, hc⟩ := q4 k hk
  simp only [Option.some.injEq, Addr.mk.injEq, and_true] at hpg
  obtain ⟨rfl, rfl⟩ := hpg
  rw [hx] at hc
  have d0 : W.cell? ⟨g, k * 5, none⟩ = some (.int .i64 (x : Int)) := by have h9 := hc 0 (by decide); rw [Nat.zero_add] at h9; rw [← hf]; exact h9
  have hxn : x < n := by omega
  have dn2 : decide (x < n) = true := decide_eq_true hxn
  have hkm : k < m := by omega
  have H := hide h
  have HX := hide hx
  have HHK := hide hk
  have HM := hide hm
  have HG := hide hg
  have HGG := hide hgg
  have HGT := hide hgt
  have HL1 := hide hl1
  have HB2 := hide hb2
  have HF := hide hf
  have HNN := hide hnn
  have HGL := hide hgl
  have HY := hide hy
  clear h hk hx hf hn hm hnn hl1 hes q4 hc hg hgg hgt hb2 hgl hy
  go_enter Try.func16, Try.ntmps16
  go_upto_region 1 with fail
  go_big_quiet (fail)
  obtain ⟨Y, hY⟩ : ∃ Y, Y = W.drewN nq := ⟨_, rfl⟩
  have hWY : Below W.heap.size W Y := by rw [hY]; exact below_drewN (Below.refl _ W) _
  try rw [← hY]
  have h1 := H.out.later hWY
  have hgo := h1.gone
  rw [HGG.out, HNN.out] at hgo
  have z1 : Y.cell? ⟨lb, 1, none⟩ = some (.slice (some ⟨gg, 0, none⟩) n A.cg) := by rw [← HNN.out, ← HGG.out]; simp [World.cell?, h1.box]
  have d0' : Y.cell? ⟨g, k * 5, none⟩ = some (.int .i64 (x : Int)) := cell_later hWY d0
  obtain ⟨bx, hbx⟩ : ∃ bx, L.gone[x]? = some bx := ⟨_, List.getElem?_eq_getElem (by rw [HGL.out, HNN.out]; exact hxn)⟩
  have cg : Y.cell? ⟨gg, x, none⟩ = some (.bool bx) := own_cells1 hgo (by rw [List.getElem?_map, hbx]; rfl)
  have fg : Y.frozen? ⟨gg, x, none⟩ = false := hgo.frozenAt _
  obtain ⟨_, _, efg, hgc, hgc2⟩ := own_form hgo
  simp only [Value.slice.injEq, true_and] at efg
  obtain ⟨rfl, rfl⟩ := efg
  have hst := (hgo.stored x (.bool true)).1
  rw [← List.map_set] at hst
  have hon : Only (· = gg) Y (Y.setCell ⟨gg, x, none⟩ (.bool true)) := Only.set (F := (· = gg)) Y gg x _ rfl
  have h2 := h1.newGone (gs := L.gone.set x true) HGG.out hon (by rw [HGG.out, HNN.out]; exact hst)
  obtain ⟨X, hX⟩ : ∃ X, X = Y.setCell ⟨gg, x, none⟩ (.bool true) := ⟨_, rfl⟩
  rw [← hX] at h2 hon
  clear hgo hst z0 z4 d0 hY
  go_upto_region 2 with fail
  go_region
  rw [← hX]
  obtain ⟨X2, hX2⟩ : ∃ X2, X2 = X.drew := ⟨_, rfl⟩
  have hXX : Below X.heap.size X X2 := by rw [hX2]; exact (Below.refl _ X).drew
  rw [← hX2]
  have h3 := h2.later hXX
  have d1' : X2.cell? ⟨g, k * 5, none⟩ = some (.int .i64 (x : Int)) := by
    have hes := h3.es
    simp only at hes
    rw [HG.out, HM.out] at hes
    obtain ⟨_, _, _, q4⟩ := own_list (cells := EN.cells) (fun o _ => o.len) HM.out hes
    obtain ⟨g3, oo, hpg, hc⟩ := q4 k HHK.out
    simp only [Option.some.injEq, Addr.mk.injEq, and_true] at hpg
    obtain ⟨rfl, rfl⟩ := hpg
    rw [HX.out] at hc
    have h9 := hc 0 (by decide)
    rw [Nat.zero_add] at h9
    rw [← HF.out]
    exact h9
  have z3 : X2.cell? ⟨lb, 3, none⟩ = some (.slice (some ⟨A.gl, 0, none⟩) l1 A.cl) := by rw [← HL1.out]; simp [World.cell?, h3.box]
  have B0 : Below X2.heap.size X2 X2.drew := (Below.refl _ X2).drew
  have h4 := h3.later B0
  have HSET := hide (set_any (v := lowN) (pl := x) h4.left h4.pl hxl HB2.out)
  simp only at HSET
  rw [HL1.out] at HSET
  have HON : Hid (Only (fun i => A.pe = some ⟨i, 0, none⟩ ∨ A.pg = some ⟨i, 0, none⟩ ∨ i = A.gl) W X2.drew) := hide ((((Only.fresh hWY _).trans (hon.mono (fun i _ e => by have e' : i = gg := e; rw [e']; exact .inr (.inl HGG.out)))).trans (Only.fresh hXX _)).trans (Only.fresh B0 _))
  have H4 := hide h4
  have hnew : ∀ w9, Only (· = A.gl) X2.drew w9 → w9.cell? ⟨lb, 3, none⟩ = some (.slice (some ⟨A.gl, 0, none⟩) l1 A.cl) ∧ w9.cell? ⟨g, k * 5, none⟩ = some (.int .i64 (x : Int)) := fun w9 hw => by
    refine ⟨?_, ?_⟩
    · have hb9 := box_keeps h4.box h4.left (by decide) hw
      rw [← HL1.out]
      simp [World.cell?, hb9]
    · have h9 := h4.es
      simp only at h9
      rw [HG.out] at h9
      refine hw.cell (cell_later B0 d1') (fun e => ?_)
      have e' : g = A.gl := e
      obtain ⟨_, c1, q1⟩ := own_block_lt h9 (b := g) rfl
      obtain ⟨_, c2, q2⟩ := own_block_lt h4.left (b := A.gl) rfl
      rw [e', q2] at q1
      simp at q1
  have HNEW := hide hnew
  have e1 := cell_later B0 d1'
  have e3 := cell_later B0 z3
  clear h1 h2 h3 h4 hon hXX hX hX2 z1 d0' cg fg hbx hWY hnew
  go_upto_region 3 with fail
  go_region_held3 (fun w' => w'.cell? ⟨lb, 3, none⟩ = some (.slice (some ⟨A.gl, 0, none⟩) l1 A.cl) ∧ w'.cell? ⟨g, k * 5, none⟩ = some (.int .i64 (x : Int))) (go_keep)
    (first
      | (go_at_call 25; refine HSET.out.mono ?_; rintro _ w9 ⟨v9, ps, rfl, o9, p9, l9, n9⟩; obtain ⟨t3, t1⟩ := HNEW.out _ n9))
  have h5 := H4.out.newLeft n9 (by simp only; rw [HL1.out]; exact o9) p9
  have HN9 : Hid (Only (fun i => A.pe = some ⟨i, 0, none⟩ ∨ A.pg = some ⟨i, 0, none⟩ ∨ i = A.gl) W w9) := hide (HON.out.trans (n9.mono (fun i _ e => .inr (.inr e))))
  have HLV := hide l9
  clear o9 p9 l9 n9 HSET HON H4 HNEW e1 e3
  have ht := h5.tw
  simp only at ht
  rw [HGT.out, HNN.out] at ht
  have z2 : w9.cell? ⟨lb, 2, none⟩ = some (.slice (some ⟨gt, 0, none⟩) n A.ct) := by rw [← HNN.out, ← HGT.out]; simp [World.cell?, h5.box]
  have ct : w9.cell? ⟨gt, x, none⟩ = some (.int .i64 y) := own_cells1 ht (by rw [List.getElem?_map, HY.out]; rfl)
  obtain ⟨_, _, eft, htc, htc2⟩ := own_form ht
  simp only [Value.slice.injEq, true_and] at eft
  obtain ⟨rfl, rfl⟩ := eft
  have he5 := h5.es
  simp only at he5
  rw [HG.out, HM.out] at he5
  have fe : w9.frozen? ⟨g, k * 5, none⟩ = false := he5.frozenAt _
  have hst := EN.storedFirst he5 HHK.out HX.out y
  have hon : Only (· = g) w9 (w9.setCell ⟨g, k * 5, none⟩ (.int .i64 y)) := Only.set (F := (· = g)) w9 g (k * 5) _ rfl
  have h6 := h5.newEs (es := L.es.set k ⟨y, e.key, e.cnt, e.acc, e.gap⟩) HG.out (List.length_set ..) hon (by simp only; rw [HG.out, HM.out]; exact hst)
  have H6 := hide h6
  have HNF : Hid (Only (fun i => A.pe = some ⟨i, 0, none⟩ ∨ A.pg = some ⟨i, 0, none⟩ ∨ i = A.gl) W (w9.setCell ⟨g, k * 5, none⟩ (.int .i64 y))) := hide (HN9.out.trans (hon.mono (fun i _ e => by have e' : i = g := e; rw [e']; exact .inl HG.out)))
  clear h5 ht he5 hst hon h6 t3
  go_upto_region 4 with fail
  go_region
  go_wp2
  refine bodyPost_ret (results_none rfl _ _ _) rfl ?_
  exact ⟨⟨_, rfl⟩, ps, H6.out.later (Below.refl _ _).drew, HLV.out, HNF.out.drew⟩
end Go.Proofs.Ytcabfohmimglpaa
