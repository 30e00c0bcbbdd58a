/-
  drop of a ledger. The conditions: lengths.
-/
import Derived.Test.YtcabfohmimglpaaOlr
namespace Go.Proofs.Ytcabfohmimglpaa
open Go.RowKit

theorem below_drewN {n : Nat} {A B : World} (h : Below n A B) (k : Nat) : Below n A (B.drewN k) := ⟨h.os, h.tape, h.output, h.size, h.block⟩
theorem own_at0 {W : World} {base e k n c : Nat} {p : Option Addr} {xs : List Value} (h : W.ownsRow base e k (.slice p n c) n xs) (hn : 0 < n) : ∃ g, p = some ⟨g, 0, none⟩ := by
  rcases h.2 with ⟨e, _⟩ | ⟨g, cap, cur, e, _⟩
  · simp only [Value.slice.injEq] at e; omega
  · simp only [Value.slice.injEq] at e; exact ⟨g, e.1⟩
theorem EN.storedState {w : World} {base g n cap k : Nat} {es : List EN} (h : w.ownsRow base 74 5 (.slice (some ⟨g, 0, none⟩) n cap) n (es.flatMap EN.cells)) (hk : k < es.length) {e : EN} (he : es[k]! = e) (a b c : Int) :
    (((w.setCell ⟨g, k * 5 + 1, none⟩ (.int .i64 a)).setCell ⟨g, k * 5 + 2, none⟩ (.int .i64 b)).setCell ⟨g, k * 5 + 3, none⟩ (.int .i64 c)).ownsRow base 74 5 (.slice (some ⟨g, 0, none⟩) n cap) n ((es.set k ⟨e.first, a, b, c, e.gap⟩).flatMap EN.cells) := by
  have hset : ∀ (l : List EN) (y : EN), k < l.length → (l.set k y)[k]! = y := fun l y hl => by rw [getElem!_pos _ k (by simpa using hl), List.getElem_set_self]
  have step : ∀ (w : World) (l : List EN) (a : EN) (j : Nat) (y : EN) (u : Value), j < 5 → k < l.length → l[k]! = a → EN.cells y = (EN.cells a).set j u → w.ownsRow base 74 5 (.slice (some ⟨g, 0, none⟩) n cap) n (l.flatMap EN.cells) → (w.setCell ⟨g, k * 5 + j, none⟩ u).ownsRow base 74 5 (.slice (some ⟨g, 0, none⟩) n cap) n ((l.set k y).flatMap EN.cells) := fun w l a j y u hj hl ha hy h9 => by
    rw [flat_set (cells := EN.cells) l (fun o _ => o.len) k j y u hl hj (by rw [ha]; exact hy)]
    exact (h9.stored (k * 5 + j) u).1
  have s1 := step _ _ e 1 ⟨e.first, a, e.cnt, e.acc, e.gap⟩ (.int .i64 a) (by decide) hk he rfl h
  have s2 := step _ _ ⟨e.first, a, e.cnt, e.acc, e.gap⟩ 2 ⟨e.first, a, b, e.acc, e.gap⟩ (.int .i64 b) (by decide) (by simpa using hk) (hset _ _ hk) rfl s1
  have s3 := step _ _ ⟨e.first, a, b, e.acc, e.gap⟩ 3 ⟨e.first, a, b, c, e.gap⟩ (.int .i64 c) (by decide) (by simpa using hk) (hset _ _ (by simpa using hk)) rfl s2
  simp only [List.set_set] at s3
  exact s3

set_option maxRecDepth 100000 in
set_option maxHeartbeats 8000000 in
theorem drop_new {W : World} {base lb k : Nat} {A : LA} {L : LG} {x : Nat} {e : EN} (h : LRep W base lb A L) (hk : k < L.es.length) (hkf : k < L.fh) (hx : L.es[k]! = e) (hf : e.first = (x : Int)) (hn : L.old.length ≤ x) (hb2 : 2 * L.fh ≤ 1099511627776) :
    Calls Try.prog 16 #[.pointer (some ⟨lb, 0, none⟩), .int .i64 (k : Int)] W fun r w' => ∃ v ps, r = .returned v ∧ LRep w' base lb A { L with es := L.es.set k ⟨e.first, e.key, 0, 0, e.gap⟩, fr := ps } ∧ Leaves ps L.fr L.fh k lowN ∧ Only (fun i => A.pe = some ⟨i, 0, none⟩ ∨ i = A.gf) W w' := by
  obtain ⟨g, hg⟩ := own_at0 h.es (by omega)
  obtain ⟨m, hm⟩ : ∃ m, L.es.length = m := ⟨_, rfl⟩
  obtain ⟨n, hnn⟩ : ∃ n, L.old.length = n := ⟨_, rfl⟩
  obtain ⟨l2, hl2⟩ : ∃ l, 2 * L.fh = l := ⟨_, rfl⟩
  have z0 : W.cell? ⟨lb, 0, none⟩ = some (.slice A.po n A.co) := by rw [← hnn]; simp [World.cell?, h.box]
  have z4 : W.cell? ⟨lb, 4, none⟩ = some (.slice (some ⟨g, 0, none⟩) m A.ce) := by rw [← hm, ← hg]; simp [World.cell?, h.box]
  have hes := h.es
  rw [hg, hm] at hes
  obtain ⟨i1, i2, _, q4⟩ := own_list (cells := EN.cells) (fun o _ => o.len) hm hes
  obtain ⟨gg, oo, hpg, hc⟩ := q4 k hk
  simp only [Option.some.injEq, Addr.mk.injEq, and_true] at hpg
  obtain ⟨rfl, rfl⟩ := hpg
  rw [hx] at hc
  have d0 : W.cell? ⟨g, k * 5, none⟩ = some (.int .i64 (x : Int)) := by have h9 := hc 0 (by decide); rw [Nat.zero_add] at h9; rw [← hf]; exact h9
  have dn : decide ((x : Int) < (n : Int)) = false := decide_eq_false (by omega)
  have hxn : ¬ x < n := by omega
  have dn2 : decide (x < n) = false := decide_eq_false hxn
  have hkm : k < m := by omega
  have H := hide h
  have HX := hide hx
  have HHK := hide hk
  have HM := hide hm
  have HG := hide hg
  have HL2 := hide hl2
  have HB2 := hide hb2
  clear h hk hx hf hn hm hnn hl2 hes q4 hc hg hb2
  go_enter Try.func16, Try.ntmps16
  go_upto_region 1 with fail
  go_big_quiet (fail)
  obtain ⟨Y, hY⟩ : ∃ Y, Y = W.drewN nq := ⟨_, rfl⟩
  have hWY : Below W.heap.size W Y := by rw [hY]; exact below_drewN (Below.refl _ W) _
  try rw [← hY]
  have h := H.out.later hWY
  have hes := h.es
  rw [HG.out, HM.out] at hes
  obtain ⟨_, _, _, q4⟩ := own_list (cells := EN.cells) (fun o _ => o.len) HM.out hes
  obtain ⟨gg, oo, hpg, hc⟩ := q4 k HHK.out
  simp only [Option.some.injEq, Addr.mk.injEq, and_true] at hpg
  obtain ⟨rfl, rfl⟩ := hpg
  rw [HX.out] at hc
  have hfz : ∀ i, Y.frozen? ⟨g, i, none⟩ = false := fun i => hes.frozenAt _
  have d1 : Y.cell? ⟨g, k * 5 + 1, none⟩ = some (.int .i64 e.key) := by have h9 := hc 1 (by decide); rw [Nat.zero_add] at h9; exact h9
  have d2 : Y.cell? ⟨g, k * 5 + 2, none⟩ = some (.int .i64 e.cnt) := by have h9 := hc 2 (by decide); rw [Nat.zero_add] at h9; exact h9
  have d3 : Y.cell? ⟨g, k * 5 + 3, none⟩ = some (.int .i64 e.acc) := by have h9 := hc 3 (by decide); rw [Nat.zero_add] at h9; exact h9
  have f1 := hfz (k * 5 + 1)
  have f2 := hfz (k * 5 + 2)
  have f3 := hfz (k * 5 + 3)
  have hst := EN.storedState hes HHK.out HX.out e.key 0 0
  have hon : Only (· = g) Y (((Y.setCell ⟨g, k * 5 + 1, none⟩ (.int .i64 e.key)).setCell ⟨g, k * 5 + 2, none⟩ (.int .i64 0)).setCell ⟨g, k * 5 + 3, none⟩ (.int .i64 0)) := ((Only.set (F := (· = g)) Y g _ _ rfl).trans (Only.set (F := (· = g)) _ g _ _ rfl)).trans (Only.set (F := (· = g)) _ g _ _ rfl)
  have hl1 := h.newEs (es := L.es.set k ⟨e.first, e.key, 0, 0, e.gap⟩) HG.out (List.length_set ..) hon (by rw [HG.out, HM.out]; exact hst)
  obtain ⟨X, hX⟩ : ∃ X, X = ((Y.setCell ⟨g, k * 5 + 1, none⟩ (.int .i64 e.key)).setCell ⟨g, k * 5 + 2, none⟩ (.int .i64 0)).setCell ⟨g, k * 5 + 3, none⟩ (.int .i64 0) := ⟨_, rfl⟩
  rw [← hX] at hl1 hon
  have z5 : X.cell? ⟨lb, 5, none⟩ = some (.slice (some ⟨A.gf, 0, none⟩) l2 A.cf) := by rw [← HL2.out]; simp [World.cell?, hl1.box]
  have HSET := hide (set_any (v := lowN) (pl := k) hl1.fr hl1.pf hkf HB2.out)
  simp only at HSET
  rw [HL2.out] at HSET
  have HL1 := hide hl1
  have HON : Hid (Only (fun i => A.pe = some ⟨i, 0, none⟩ ∨ i = A.gf) W X) := hide ((Only.fresh hWY _).trans (hon.mono (fun i _ e => by have e' : i = g := e; rw [e']; exact .inl HG.out)))
  obtain ⟨ek, hek⟩ : ∃ ek, e.key = ek := ⟨_, rfl⟩
  obtain ⟨ec, hec⟩ : ∃ ek, e.cnt = ek := ⟨_, rfl⟩
  obtain ⟨ea, hea⟩ : ∃ ek, e.acc = ek := ⟨_, rfl⟩
  rw [hek] at d1 hX
  rw [hec] at d2
  rw [hea] at d3
  clear h hes q4 hc hfz hst hon hl1 hWY hY hek hec hea z0 z4 d0
  go_upto_region 6 with fail
  rw [← hX]
  clear hX d1 d2 d3 f1 f2 f3
  go_wp2_with fail
  refine HSET.out.mono ?_
  rintro _ w9 ⟨v9, ps, rfl, o9, p9, l9, n9⟩
  have HLF : Hid (LRep w9 base lb A { L with es := L.es.set k ⟨e.first, e.key, 0, 0, e.gap⟩, fr := ps }) := hide (HL1.out.newFresh n9 (by rw [HL2.out]; exact o9) p9)
  have HLV := hide l9
  have HNF : Hid (Only (fun i => A.pe = some ⟨i, 0, none⟩ ∨ i = A.gf) W w9) := hide (HON.out.trans (n9.mono (fun i _ e => .inr e)))
  clear o9 p9 l9 n9 HSET
  go_wp2
  refine bodyPost_end (results_none rfl _ _ _) rfl ?_
  exact ⟨_, ps, rfl, HLF.out, HLV.out, HNF.out⟩
end Go.Proofs.Ytcabfohmimglpaa
