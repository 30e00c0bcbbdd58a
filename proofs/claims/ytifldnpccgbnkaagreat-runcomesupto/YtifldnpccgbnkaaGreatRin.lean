/-
  What results has done so far, as it lies in memory: the results of the first operators, their ports emptied where an input has come from them. No conditions.
-/
import Derived.Test.YtifldnpccgbnkaaGreatRso
import Derived.Test.YtifldnpccgbnkaaGreatGck
namespace Go.Proofs.YtifldnpccgbnkaaGreat
open Go.RowKit Go.Shelf

def resC (rf : GO → List (List RC) → RS) (ls : List (List RC)) (dn : List RS) (o : GO) : RS :=
  if o.kind = 1 then ⟨[ls[o.part.toNat]!], [], 0, []⟩ else rf o (o.ins.map fun e => (dn[e.f.toNat]!).ports[e.p.toNat]!)
def RelP (E : List GE) (i : Nat) (x : RV) (r : RS) : Prop :=
  x.keys = r.keys ∧ x.turn = r.turn ∧ x.bufs.map SV.rs = r.bufs ∧ x.ports.length = r.ports.length ∧ ∀ j, j < r.ports.length → (x.ports[j]!).rs = if (⟨(i : Int), (j : Int)⟩ : GE) ∈ E then [] else r.ports[j]!
structure DI (W : World) (B db n k : Nat) (dn : List RS) (E : List GE) (rv : List RV) : Prop where
  len : rv.length = n
  row : W.ownsRow B 62 4 (.slice (some ⟨db, 0, none⟩) n n) n (rv.flatMap RV.cells)
  ok : ∀ i, i < k → (rv[i]!).ok W B
  plain : ∀ i, i < k → RelP E i rv[i]! dn[i]!
  apart : ∀ i i', i < k → i' < k → i ≠ i' → ∀ g, (rv[i]!).pv.ownBlock = some g → (rv[i']!).pv.ownBlock ≠ some g ∧ (rv[i']!).bv.ownBlock ≠ some g
theorem DI.later {W W' : World} {B db n k : Nat} {dn : List RS} {E : List GE} {rv : List RV} (h : DI W B db n k dn E rv) (hb : Below W.heap.size W W') : DI W' B db n k dn E rv :=
  ⟨h.len, ownsRow_later h.row hb, fun i hi => (h.ok i hi).later hb, h.plain, h.apart⟩
theorem get_setRV {ys : List RV} {k i : Nat} {x : RV} (hi : i < ys.length) : (ys.set k x)[i]! = if k = i then x else ys[i]! := by
  rw [getElem!_pos (ys.set k x) i (by simpa using hi), List.getElem_set, getElem!_pos ys i hi]
theorem RV.ok.other {x : RV} {W : World} {B b2 g n c i : Nat} {zs : List Value} {v : Value} (h : x.ok W B) (hr : W.ownsRow b2 26 1 (.slice (some ⟨g, 0, none⟩) n c) n zs) (h1 : x.pv.ownBlock ≠ some g) (h2 : x.bv.ownBlock ≠ some g) : x.ok (W.setCell ⟨g, i, none⟩ v) B := by
  have ho := Only.set (F := fun i => i = g) W g i v rfl
  have ht : ∀ (e : TypeId) (sz m : Nat) (u : Value) (us : List Value), W.ownsRow B e sz u m us → e ≠ 26 → (W.setCell ⟨g, i, none⟩ v).ownsRow B e sz u m us := fun e sz m u us hu he =>
    ownsRow_only hu ho (fun b hb e' => by
      have e2 : b = g := e'
      rw [e2] at hb
      exact rows_apart hu hr he rfl hb)
  exact ⟨ownsRow_only h.prow ho (fun b hb e' => by have e2 : b = g := e'; rw [e2] at hb; exact h1 hb), fun y hy => ht _ _ _ _ _ (h.pown y hy) (by decide), ht _ _ _ _ _ h.krow (by decide),
    ownsRow_only h.brow ho (fun b hb e' => by have e2 : b = g := e'; rw [e2] at hb; exact h2 hb), fun y hy => ht _ _ _ _ _ (h.bown y hy) (by decide), h.apart⟩
theorem SV.own_nil (W : World) (B : Nat) : (default : SV).own W B := World.ownsRow_nil _ _ _ _
theorem flat_same {rv : List RV} {f : Nat} {x : RV} (hf : f < rv.length) (hx : x.cells = (rv[f]!).cells) : (rv.set f x).flatMap RV.cells = rv.flatMap RV.cells := by
  rw [List.flatMap_def, List.flatMap_def, List.map_set, hx]
  congr 1
  apply List.ext_getElem
  · simp
  · intro i h1 h2
    rw [List.getElem_set]
    split
    · rename_i e; subst e; rw [List.getElem_map, getElem!_pos rv f hf]
    · rfl
/-- A port is emptied. -/
theorem DI.empty {W : World} {B db n k : Nat} {dn : List RS} {E : List GE} {rv : List RV} (h : DI W B db n k dn E rv) (hk : k ≤ n) {f j pg : Nat} (hf : f < k) {x : RV} (hx : rv[f]! = x) (hp : x.pp = some ⟨pg, 0, none⟩) (_hj : j < x.ports.length) :
    DI (W.setCell ⟨pg, j, none⟩ (.slice none 0 0)) B db n k dn (E ++ [⟨(f : Int), (j : Int)⟩]) (rv.set f { x with ports := x.ports.set j default }) := by
  have hl := h.len
  have hok := h.ok f hf
  rw [hx] at hok
  have hpv : x.pv = .slice (some ⟨pg, 0, none⟩) x.ports.length x.pc := by unfold RV.pv; rw [hp]
  have hprow := hok.prow
  rw [hpv] at hprow
  have hpb : x.pv.ownBlock = some pg := by rw [hpv]; rfl
  refine ⟨by rw [List.length_set]; exact hl, ?_, ?_, ?_, ?_⟩
  · rw [flat_same (by omega) (by rw [hx]; unfold RV.cells RV.pv RV.kv RV.bv; simp)]
    exact ownsRow_only h.row (Only.set (F := fun i => i = pg) W pg j _ rfl) (fun b hb e => by
      have e2 : b = pg := e
      rw [e2] at hb
      exact rows_apart h.row hprow (by decide) rfl hb)
  · intro i hi
    rw [get_setRV (by omega)]
    by_cases e : f = i
    · rw [if_pos e]
      have ho := Only.set (F := fun i => i = pg) W pg j (.slice none 0 0) rfl
      have ht : ∀ (e : TypeId) (sz m : Nat) (u : Value) (us : List Value), W.ownsRow B e sz u m us → e ≠ 26 → (W.setCell ⟨pg, j, none⟩ (.slice none 0 0)).ownsRow B e sz u m us := fun e sz m u us hu he =>
        ownsRow_only hu ho (fun b hb e' => by
          have e2 : b = pg := e'
          rw [e2] at hb
          exact rows_apart hu hprow he rfl hb)
      refine ⟨?_, ?_, ht _ _ _ _ _ hok.krow (by decide), ?_, fun y hy => ht _ _ _ _ _ (hok.bown y hy) (by decide), ?_⟩
      · have h9 := SV.stored (i := j) hprow (default : SV)
        simp only [RV.pv, List.length_set]
        rw [hp]
        exact h9
      · intro y hy
        rcases List.mem_or_eq_of_mem_set hy with h1 | h1
        · exact ht _ _ _ _ _ (hok.pown y h1) (by decide)
        · rw [h1]; exact SV.own_nil _ _
      · exact ownsRow_only hok.brow ho (fun b hb e' => by
          have e2 : b = pg := e'
          rw [e2] at hb
          exact hok.apart pg hpb hb)
      · intro g hg
        have : x.pv.ownBlock = some g := by
          rw [← hg]
          simp only [RV.pv, List.length_set]
        exact hok.apart g this
    · rw [if_neg e]
      have := h.apart f i hf hi e pg (by rw [hx]; exact hpb)
      exact (h.ok i hi).other hprow this.1 this.2
  · intro i hi
    rw [get_setRV (by omega)]
    have hpl := h.plain i hi
    by_cases e : f = i
    · rw [if_pos e]
      subst e
      rw [hx] at hpl
      obtain ⟨p1, p2, p3, p4, p5⟩ := hpl
      refine ⟨p1, p2, p3, by rw [← p4]; simp, fun j' hj' => ?_⟩
      show ((x.ports.set j default)[j']!).rs = _
      rw [get_setSV (by omega)]
      by_cases e2 : j = j'
      · rw [if_pos e2, if_pos (by rw [e2]; simp)]
        rfl
      · rw [if_neg e2, p5 j' hj']
        have : ((⟨(f : Int), (j' : Int)⟩ : GE) ∈ E ++ [⟨(f : Int), (j : Int)⟩]) ↔ ((⟨(f : Int), (j' : Int)⟩ : GE) ∈ E) := by
          rw [List.mem_append]
          constructor
          · rintro (h1 | h1)
            · exact h1
            · simp only [List.mem_singleton, GE.mk.injEq, true_and] at h1
              omega
          · exact .inl
        by_cases h9 : (⟨(f : Int), (j' : Int)⟩ : GE) ∈ E
        · rw [if_pos h9, if_pos (this.2 h9)]
        · rw [if_neg h9, if_neg (fun h => h9 (this.1 h))]
    · rw [if_neg e]
      obtain ⟨p1, p2, p3, p4, p5⟩ := hpl
      refine ⟨p1, p2, p3, p4, fun j' hj' => ?_⟩
      rw [p5 j' hj']
      have : ((⟨(i : Int), (j' : Int)⟩ : GE) ∈ E ++ [⟨(f : Int), (j : Int)⟩]) ↔ ((⟨(i : Int), (j' : Int)⟩ : GE) ∈ E) := by
        rw [List.mem_append]
        constructor
        · rintro (h1 | h1)
          · exact h1
          · simp only [List.mem_singleton, GE.mk.injEq] at h1
            omega
        · exact .inl
      by_cases h9 : (⟨(i : Int), (j' : Int)⟩ : GE) ∈ E
      · rw [if_pos h9, if_pos (this.2 h9)]
      · rw [if_neg h9, if_neg (fun h => h9 (this.1 h))]
  · intro i i' hi hi' hne g hg
    rw [get_setRV (by omega)] at hg ⊢
    have hsame : ∀ a : Nat, (if f = a then { x with ports := x.ports.set j default } else rv[a]!).pv.ownBlock = (rv[a]!).pv.ownBlock ∧ (if f = a then { x with ports := x.ports.set j default } else rv[a]!).bv.ownBlock = (rv[a]!).bv.ownBlock := fun a => by
      by_cases e : f = a
      · rw [if_pos e, ← e, hx]
        simp only [RV.pv, RV.bv, List.length_set, and_self]
      · rw [if_neg e]; exact ⟨rfl, rfl⟩
    rw [(hsame i).1] at hg
    rw [(hsame i').1, (hsame i').2]
    exact h.apart i i' hi hi' hne g hg
theorem empty_blocks {rv : List RV} {f j : Nat} {x : RV} (_hf : f < rv.length) (hx : rv[f]! = x) (a : Nat) (ha : a < rv.length) : ((rv.set f { x with ports := x.ports.set j default })[a]!).pv.ownBlock = (rv[a]!).pv.ownBlock ∧ ((rv.set f { x with ports := x.ports.set j default })[a]!).bv.ownBlock = (rv[a]!).bv.ownBlock := by
  rw [get_setRV ha]
  by_cases e : f = a
  · rw [if_pos e, ← e, hx]
    simp only [RV.pv, RV.bv, List.length_set, and_self]
  · rw [if_neg e]; exact ⟨rfl, rfl⟩
/-- Four cells of a row of results are written. -/
def setR (W : World) (db k : Nat) (x : RV) : World := (((W.setCell ⟨db, k * 4, none⟩ x.pv).setCell ⟨db, k * 4 + 1, none⟩ x.kv).setCell ⟨db, k * 4 + 2, none⟩ (.int .i64 x.turn)).setCell ⟨db, k * 4 + 3, none⟩ x.bv
theorem setR_only (W : World) (db k : Nat) (x : RV) : Only (· = db) W (setR W db k x) :=
  (Only.set (F := (· = db)) W db _ _ rfl).trans ((Only.set (F := (· = db)) _ db _ _ rfl).trans ((Only.set (F := (· = db)) _ db _ _ rfl).trans (Only.set (F := (· = db)) _ db _ _ rfl)))
theorem RV.stored {W : World} {base g n cap k : Nat} {es : List RV} (h : W.ownsRow base 62 4 (.slice (some ⟨g, 0, none⟩) n cap) n (es.flatMap RV.cells)) (hk : k < es.length) (x : RV) :
    (setR W g k x).ownsRow base 62 4 (.slice (some ⟨g, 0, none⟩) n cap) n ((es.set k x).flatMap RV.cells) := by
  obtain ⟨e, he⟩ : ∃ e, es[k]! = e := ⟨_, rfl⟩
  have hset : ∀ (l : List RV) (y : RV), k < l.length → (l.set k y)[k]! = y := fun l y hl => by rw [getElem!_pos _ k (by simpa using hl), List.getElem_set_self]
  have step : ∀ (w : World) (l : List RV) (a : RV) (j : Nat) (y : RV) (u : Value), j < 4 → k < l.length → l[k]! = a → RV.cells y = (RV.cells a).set j u → w.ownsRow base 62 4 (.slice (some ⟨g, 0, none⟩) n cap) n (l.flatMap RV.cells) → (w.setCell ⟨g, k * 4 + j, none⟩ u).ownsRow base 62 4 (.slice (some ⟨g, 0, none⟩) n cap) n ((l.set k y).flatMap RV.cells) := fun w l a j y u hj hl ha hy h9 => by
    rw [flat_set (cells := RV.cells) l (fun o _ => o.len) k j y u hl hj (by rw [ha]; exact hy)]
    exact (h9.stored (k * 4 + j) u).1
  obtain ⟨xp, xpp, xpc, xk, xkp, xkn, xkc, xt, xb, xbp, xbc⟩ := x
  obtain ⟨ep, epp, epc, ek, ekp, ekn, ekc, et, eb, ebp, ebc⟩ := e
  have s0 := step _ _ _ 0 ⟨xp, xpp, xpc, ek, ekp, ekn, ekc, et, eb, ebp, ebc⟩ (.slice xpp xp.length xpc) (by decide) hk he rfl h
  have s1 := step _ _ ⟨xp, xpp, xpc, ek, ekp, ekn, ekc, et, eb, ebp, ebc⟩ 1 ⟨xp, xpp, xpc, xk, xkp, xkn, xkc, et, eb, ebp, ebc⟩ (.slice xkp xkn xkc) (by decide) (by simpa using hk) (hset _ _ hk) rfl s0
  have s2 := step _ _ ⟨xp, xpp, xpc, xk, xkp, xkn, xkc, et, eb, ebp, ebc⟩ 2 ⟨xp, xpp, xpc, xk, xkp, xkn, xkc, xt, eb, ebp, ebc⟩ (.int .i64 xt) (by decide) (by simpa using hk) (hset _ _ (by simpa using hk)) rfl s1
  have s3 := step _ _ ⟨xp, xpp, xpc, xk, xkp, xkn, xkc, xt, eb, ebp, ebc⟩ 3 ⟨xp, xpp, xpc, xk, xkp, xkn, xkc, xt, xb, xbp, xbc⟩ (.slice xbp xb.length xbc) (by decide) (by simpa using hk) (hset _ _ (by simpa using hk)) rfl s2
  simp only [List.set_set, Nat.add_zero] at s3
  exact s3
/-- A result is put behind the others. -/
theorem DI.push {W : World} {B db n k b2 : Nat} {dn : List RS} {E : List GE} {rv : List RV} (h : DI W B db n k dn E rv) (hk : k < n) {x : RV} (hx : x.ok W b2) (hB : B ≤ b2) (hold : ∀ i, i < k → ∀ g, ((rv[i]!).pv.ownBlock = some g → g < b2) ∧ ((rv[i]!).bv.ownBlock = some g → g < b2)) (hpl : RelP E k x dn[k]!) :
    DI (setR W db k x) B db n (k + 1) dn E (rv.set k x) := by
  have hl := h.len
  have ho := setR_only W db k x
  have ht : ∀ (b : Nat) (e : TypeId) (sz m : Nat) (u : Value) (us : List Value), W.ownsRow b e sz u m us → e ≠ 62 → (setR W db k x).ownsRow b e sz u m us := fun b e sz m u us hu he =>
    ownsRow_only hu ho (fun c hb e' => by
      have e2 : c = db := e'
      rw [e2] at hb
      exact rows_apart hu h.row he rfl hb)
  have hok : ∀ (y : RV) (b : Nat), y.ok W b → y.ok (setR W db k x) b := fun y b hy =>
    ⟨ht _ _ _ _ _ _ hy.prow (by decide), fun z hz => ht _ _ _ _ _ _ (hy.pown z hz) (by decide), ht _ _ _ _ _ _ hy.krow (by decide), ht _ _ _ _ _ _ hy.brow (by decide), fun z hz => ht _ _ _ _ _ _ (hy.bown z hz) (by decide), hy.apart⟩
  refine ⟨by rw [List.length_set]; exact hl, RV.stored h.row (by omega) x, ?_, ?_, ?_⟩
  · intro i hi
    rw [get_setRV (by omega)]
    by_cases e : k = i
    · rw [if_pos e]; exact hok x B (hx.base hB)
    · rw [if_neg e]; exact hok _ B (h.ok i (by omega))
  · intro i hi
    rw [get_setRV (by omega)]
    by_cases e : k = i
    · rw [if_pos e, ← e]; exact hpl
    · rw [if_neg e]; exact h.plain i (by omega)
  · intro i i' hi hi' hne g hg
    rw [get_setRV (by omega)] at hg ⊢
    by_cases e : k = i
    · rw [if_pos e] at hg
      rw [if_neg (by omega)]
      have h1 := own_block_base hx.prow hg
      have h2 := hold i' (by omega) g
      exact ⟨fun h9 => by have := h2.1 h9; omega, fun h9 => by have := h2.2 h9; omega⟩
    · rw [if_neg e] at hg
      by_cases e' : k = i'
      · rw [if_pos e']
        have h2 := (hold i (by omega) g).1 hg
        exact ⟨fun h9 => by have := own_block_base hx.prow h9; omega, fun h9 => by have := own_block_base hx.brow h9; omega⟩
      · rw [if_neg e']
        exact h.apart i i' (by omega) (by omega) hne g hg
theorem DI.old {W : World} {B db n k : Nat} {dn : List RS} {E : List GE} {rv : List RV} (h : DI W B db n k dn E rv) : ∀ i, i < k → ∀ g, ((rv[i]!).pv.ownBlock = some g → g < W.heap.size) ∧ ((rv[i]!).bv.ownBlock = some g → g < W.heap.size) :=
  fun i hi _ => ⟨fun e => (own_block_lt (h.ok i hi).prow e).1, fun e => (own_block_lt (h.ok i hi).brow e).1⟩
theorem row_at {W : World} {base g n cap sz i : Nat} {e : TypeId} {zs : List Value} (h : W.ownsRow base e sz (.slice (some ⟨g, 0, none⟩) n cap) n zs) (hi : i < n * sz) : (∃ v, W.cell? ⟨g, i, none⟩ = some v) ∧ W.frozen? ⟨g, i, none⟩ = false :=
  ⟨⟨zs[i]'(by have := h.1; omega), by rw [h.cellAt i (by have := h.1; omega), List.getElem?_eq_getElem]⟩, h.frozenAt _⟩
theorem setR_facts {W : World} {base g n cap k : Nat} {es : List Value} (h : W.ownsRow base 62 4 (.slice (some ⟨g, 0, none⟩) n cap) n es) (hk : k < n) (d0 d1 d2 : Value) :
    ∃ c0 c1 c2 c3, W.cell? ⟨g, k * 4, none⟩ = some c0 ∧ W.frozen? ⟨g, k * 4, none⟩ = false ∧ (W.setCell ⟨g, k * 4, none⟩ d0).cell? ⟨g, k * 4 + 1, none⟩ = some c1 ∧ (W.setCell ⟨g, k * 4, none⟩ d0).frozen? ⟨g, k * 4 + 1, none⟩ = false ∧
    ((W.setCell ⟨g, k * 4, none⟩ d0).setCell ⟨g, k * 4 + 1, none⟩ d1).cell? ⟨g, k * 4 + 2, none⟩ = some c2 ∧ ((W.setCell ⟨g, k * 4, none⟩ d0).setCell ⟨g, k * 4 + 1, none⟩ d1).frozen? ⟨g, k * 4 + 2, none⟩ = false ∧
    (((W.setCell ⟨g, k * 4, none⟩ d0).setCell ⟨g, k * 4 + 1, none⟩ d1).setCell ⟨g, k * 4 + 2, none⟩ d2).cell? ⟨g, k * 4 + 3, none⟩ = some c3 ∧ (((W.setCell ⟨g, k * 4, none⟩ d0).setCell ⟨g, k * 4 + 1, none⟩ d1).setCell ⟨g, k * 4 + 2, none⟩ d2).frozen? ⟨g, k * 4 + 3, none⟩ = false := by
  have h1 := (h.stored (k * 4) d0).1
  have h2 := (h1.stored (k * 4 + 1) d1).1
  have h3 := (h2.stored (k * 4 + 2) d2).1
  obtain ⟨⟨c0, a0⟩, b0⟩ := row_at h (i := k * 4) (by omega)
  obtain ⟨⟨c1, a1⟩, b1⟩ := row_at h1 (i := k * 4 + 1) (by omega)
  obtain ⟨⟨c2, a2⟩, b2⟩ := row_at h2 (i := k * 4 + 2) (by omega)
  obtain ⟨⟨c3, a3⟩, b3⟩ := row_at h3 (i := k * 4 + 3) (by omega)
  exact ⟨c0, c1, c2, c3, a0, b0, a1, b1, a2, b2, a3, b3⟩
theorem own_getRV {W : World} {base g n k : Nat} {rv : List RV} (h : W.ownsRow base 62 4 (.slice (some ⟨g, 0, none⟩) n n) n (rv.flatMap RV.cells)) (hl : rv.length = n) (hk : k < n) {x : RV} (hx : rv[k]! = x) :
    W.cell? ⟨g, k * 4, none⟩ = some x.pv ∧ W.cell? ⟨g, k * 4 + 1, none⟩ = some x.kv ∧ W.cell? ⟨g, k * 4 + 2, none⟩ = some (.int .i64 x.turn) ∧ W.cell? ⟨g, k * 4 + 3, none⟩ = some x.bv := by
  obtain ⟨g', o', e, hc⟩ := (LRow.of_own RV.len hl h).cell k (by omega)
  simp only [Option.some.injEq, Addr.mk.injEq, and_true] at e
  obtain ⟨rfl, rfl⟩ := e
  simp only [Nat.zero_add] at hc
  rw [hx] at hc
  exact ⟨hc 0 (by decide), hc 1 (by decide), hc 2 (by decide), hc 3 (by decide)⟩
theorem made_res : ∀ n, (madeCells (Value.agg #[.slice none 0 0, .slice none 0 0, .int .i64 0, .slice none 0 0]).cells (n * 4)).toList = (List.replicate n (default : RV)).flatMap RV.cells := by
  intro n
  apply List.ext_getElem?
  intro i
  by_cases hi : i < n * 4
  · have h1 : i = (i / 4) * 4 + i % 4 := by omega
    have h4 : i % 4 < 4 := Nat.mod_lt _ (by decide)
    have h5 : i / 4 < n := by omega
    have h2 := flat_get (cells := RV.cells) (List.replicate n (default : RV)) (fun o _ => o.len) (i / 4) (i % 4) (by simpa using h5) h4
    rw [← h1, getElem!_pos _ (i / 4) (by simpa using h5), List.getElem_replicate] at h2
    rw [h2]
    rw [List.getElem?_eq_getElem (by simp [size_madeCells]; exact hi)]
    simp [madeCells, Value.cells]
    rcases (by omega : i % 4 = 0 ∨ i % 4 = 1 ∨ i % 4 = 2 ∨ i % 4 = 3) with e | e | e | e <;> rw [e] <;> rfl
  · rw [List.getElem?_eq_none (by simp [size_madeCells]; omega), List.getElem?_eq_none (by rw [flat_len (size := 4) _ (fun o _ => o.len)]; simp; omega)]
end Go.Proofs.YtifldnpccgbnkaaGreat

/-
  The inputs of an operator, taken from the ports of those ahead. No conditions.
-/
namespace Go.Proofs.YtifldnpccgbnkaaGreat
open Go.RowKit Go.Shelf

theorem Tryz.infoRes : (Tryz.prog.info? 62).map (fun i => (i.zero, i.size, i.bytes)) = some (some (.agg #[.slice none 0 0, .slice none 0 0, .int .i64 0, .slice none 0 0]), 4, 80) := by kernel_rfl
/-- What is asked of the operators and of what they come to. -/
structure Fits (rf : GO → List (List RC) → RS) (os : List GO) (ls : List (List RC)) (dn : List RS) : Prop where
  len : dn.length = os.length
  at' : ∀ k, k < os.length → dn[k]! = resC rf ls dn os[k]!
  src : ∀ k, k < os.length → (os[k]!).kind = 1 → 0 ≤ (os[k]!).part ∧ (os[k]!).part.toNat < ls.length ∧ (os[k]!).ins = []
  ins : ∀ k, k < os.length → (os[k]!).kind ≠ 1 → (os[k]!).ins.length ≤ 4 ∧ ∀ e ∈ (os[k]!).ins, ∃ f j : Nat, e = ⟨(f : Int), (j : Int)⟩ ∧ f < k ∧ j < (dn[f]!).ports.length
  once : (flatC os).Nodup
  res : ∀ k, k < os.length → (os[k]!).kind ≠ 1 → ResAt os[k]! (rf os[k]!)
  size : ∀ k, k < os.length → ∀ l ∈ (dn[k]!).ports, l.length ≤ lenB ∧ ∀ r ∈ l, r.fine
  few : os.length ≤ 24
theorem flat_take_not {os : List GO} (h : (flatC os).Nodup) {k j : Nat} (hk : k < os.length) (hj : j < (os[k]!).ins.length) : (os[k]!).ins[j]! ∉ flatC (os.take k) ++ (os[k]!).ins.take j := by
  have e1 : flatC os = flatC (os.take k) ++ (os[k]!).ins ++ flatC (os.drop (k + 1)) := by
    have : os = os.take k ++ os[k]! :: os.drop (k + 1) := by
      rw [getElem!_pos os k hk, List.getElem_cons_drop, List.take_append_drop]
    conv => lhs; rw [this]
    unfold flatC
    rw [List.flatMap_append, List.flatMap_cons, List.append_assoc]
  have e2 : (os[k]!).ins = (os[k]!).ins.take j ++ (os[k]!).ins[j]! :: (os[k]!).ins.drop (j + 1) := by
    rw [getElem!_pos (os[k]!).ins j hj, List.getElem_cons_drop, List.take_append_drop]
  rw [e1, e2, List.append_assoc, List.append_assoc, List.nodup_append] at h
  intro hm
  obtain ⟨_, h2, h3⟩ := h
  rw [List.mem_append] at hm
  rcases hm with hm | hm
  · exact h3 _ hm _ (by simp) rfl
  · rw [List.nodup_append] at h2
    exact h2.2.2 _ hm _ (by simp) rfl

/-- What is written to another row of lists leaves what was done alone. -/
theorem DI.other {W : World} {B b2 db n k g m c i : Nat} {dn : List RS} {E : List GE} {rv : List RV} {zs : List Value} {v : Value} (h : DI W B db n k dn E rv) (hr : W.ownsRow b2 26 1 (.slice (some ⟨g, 0, none⟩) m c) m zs) (hne : ∀ a, a < k → (rv[a]!).pv.ownBlock ≠ some g ∧ (rv[a]!).bv.ownBlock ≠ some g) : DI (W.setCell ⟨g, i, none⟩ v) B db n k dn E rv :=
  ⟨h.len, ownsRow_only h.row (Only.set (F := fun i => i = g) W g i v rfl) (fun b hb e => by
    have e2 : b = g := e
    rw [e2] at hb
    exact rows_apart h.row hr (by decide) rfl hb), fun a ha => (h.ok a ha).other hr (hne a ha).1 (hne a ha).2, h.plain, h.apart⟩
/-- No input of the first operators comes from a later one. -/
theorem ahead_not {rf : GO → List (List RC) → RS} {os : List GO} {ls : List (List RC)} {dn : List RS} (h : Fits rf os ls dn) {n k i : Nat} {j : Int} (hk : k ≤ n) (hn : os.length = n) (hi : k ≤ i + 1) : ¬ ((⟨(i : Int), j⟩ : GE) ∈ flatC (os.take k)) := by
  intro hm
  unfold flatC at hm
  rw [List.mem_flatMap] at hm
  obtain ⟨o, ho, he⟩ := hm
  obtain ⟨a, ha, rfl⟩ := List.getElem_of_mem ho
  rw [List.length_take] at ha
  rw [List.getElem_take, ← getElem!_pos os a (by omega)] at he
  by_cases h1 : (os[a]!).kind = 1
  · rw [(h.src a (by omega) h1).2.2] at he
    cases he
  · obtain ⟨f, j', e, hf, _⟩ := (h.ins a (by omega) h1).2 _ he
    simp only [GE.mk.injEq] at e
    omega


structure InI (Wz W : World) (db n k ib xb m j : Nat) (dn : List RS) (E0 : List GE) (ins : List GE) (ob : Obj) (rv : List RV) (ys : List SV) : Prop where
  di : DI Wz W.heap.size db n k dn (E0 ++ ins.take j) rv
  row : Wz.ownsRow W.heap.size 26 1 (.slice (some ⟨ib, 0, none⟩) m m) m (ys.flatMap SV.cells)
  len : ys.length = m
  at' : ∀ i, i < j → (ys[i]!).own Wz W.heap.size ∧ (ys[i]!).rs = (dn[(ins[i]!).f.toNat]!).ports[(ins[i]!).p.toNat]!
  old : ∀ i, i < k → ∀ g, ((rv[i]!).pv.ownBlock = some g → g < ib) ∧ ((rv[i]!).bv.ownBlock = some g → g < ib)
  box : Wz.heap[xb]? = some ob
  below : Below W.heap.size W Wz
theorem InI.later {Wz V W : World} {db n k ib xb m j : Nat} {dn : List RS} {E0 ins : List GE} {ob : Obj} {rv : List RV} {ys : List SV} (h : InI Wz W db n k ib xb m j dn E0 ins ob rv ys) (hb : Below Wz.heap.size Wz V) : InI V W db n k ib xb m j dn E0 ins ob rv ys :=
  ⟨h.di.later hb, ownsRow_later h.row hb, h.len, fun i hi => ⟨(h.at' i hi).1.later hb, (h.at' i hi).2⟩, h.old, below_box hb h.box, h.below.trans (hb.mono h.below.size)⟩
theorem InI.step {Wz W : World} {db n k ib xb m j : Nat} {dn : List RS} {E0 ins : List GE} {cs : Array Value} {rv : List RV} {ys : List SV} (h : InI Wz W db n k ib xb m j dn E0 ins (.cells cs 55 (0, 0)) rv ys) (hk : k ≤ n) (hm : ins.length = m) (hj : j < m) (hxi : xb < ib) {f pj : Nat} (he : ins[j]! = ⟨(f : Int), (pj : Int)⟩) (hf : f < k) (hpj : pj < (dn[f]!).ports.length) (hni : ins[j]! ∉ E0 ++ ins.take j) :
    ∃ (x : RV) (y : SV) (pg M pc : Nat) (c0 : Value), M = x.ports.length ∧ pj < M ∧ M ≤ pc ∧ pc ≤ 9223372036854775807 ∧ Wz.cell? ⟨db, f * 4, none⟩ = some (.slice (some ⟨pg, 0, none⟩) M pc) ∧ Wz.cell? ⟨pg, pj, none⟩ = some (.slice y.p y.rs.length y.c) ∧ Wz.cell? ⟨ib, j, none⟩ = some c0 ∧ Wz.frozen? ⟨ib, j, none⟩ = false ∧
      (Wz.setCell ⟨ib, j, none⟩ (.slice y.p y.rs.length y.c)).cell? ⟨pg, pj, none⟩ = some (.slice y.p y.rs.length y.c) ∧ (Wz.setCell ⟨ib, j, none⟩ (.slice y.p y.rs.length y.c)).frozen? ⟨pg, pj, none⟩ = false ∧
      InI ((Wz.setCell ⟨ib, j, none⟩ (.slice y.p y.rs.length y.c)).setCell ⟨pg, pj, none⟩ (.slice none 0 0)) W db n k ib xb m (j + 1) dn E0 ins (.cells cs 55 (0, 0)) (rv.set f { x with ports := x.ports.set pj default }) (ys.set j y) := by
  have hlen := h.di.len
  obtain ⟨x, hx⟩ : ∃ x, rv[f]! = x := ⟨_, rfl⟩
  have hok := h.di.ok f hf
  have hpl := h.di.plain f hf
  rw [hx] at hok hpl
  obtain ⟨_, _, _, p4, p5⟩ := hpl
  have hpx : pj < x.ports.length := by rw [p4]; exact hpj
  have hprow := hok.prow
  unfold RV.pv at hprow
  obtain ⟨pg, hpg, hcell⟩ := own_cellR hprow hpx
  obtain ⟨y, hy⟩ : ∃ y, x.ports[pj]! = y := ⟨_, rfl⟩
  have hcell2 : Wz.cell? ⟨pg, pj, none⟩ = some (.slice y.p y.rs.length y.c) := by
    rw [hcell, SV.flat, List.getD_eq_getElem?_getD, List.getElem?_map, List.getElem?_eq_getElem hpx, ← hy, getElem!_pos x.ports pj hpx]
    rfl
  rw [hpg] at hprow
  have hym : y ∈ x.ports := by rw [← hy, getElem!_pos x.ports pj hpx]; exact List.getElem_mem _
  have hyo := hok.pown y hym
  have hmem : (⟨(f : Int), (pj : Int)⟩ : GE) ∉ E0 ++ ins.take j := by rw [← he]; exact hni
  have hyr : y.rs = (dn[f]!).ports[pj]! := by
    have := p5 pj hpj
    rw [hy, if_neg hmem] at this
    exact this
  obtain ⟨_, _, ef, q1, q2⟩ := own_form hprow
  simp only [Value.slice.injEq] at ef
  obtain ⟨_, _, rfl⟩ := ef
  have hd0 := (own_getRV h.di.row hlen (by omega) hx).1
  unfold RV.pv at hd0
  rw [hpg] at hd0
  obtain ⟨⟨c0, a0⟩, b0⟩ := row_at h.row (i := j) (by omega)
  have hne : ∀ a, a < k → (rv[a]!).pv.ownBlock ≠ some ib ∧ (rv[a]!).bv.ownBlock ≠ some ib := fun a ha =>
    ⟨fun e => by have := (h.old a ha ib).1 e; omega, fun e => by have := (h.old a ha ib).2 e; omega⟩
  have hpgi : pg < ib := (h.old f hf pg).1 (by rw [hx]; unfold RV.pv; rw [hpg]; rfl)
  have hO1 := Only.set (F := fun i => i = ib) Wz ib j (.slice y.p y.rs.length y.c) rfl
  have hprow1 : (Wz.setCell ⟨ib, j, none⟩ (.slice y.p y.rs.length y.c)).ownsRow W.heap.size 26 1 (.slice (some ⟨pg, 0, none⟩) x.ports.length x.pc) x.ports.length (x.ports.flatMap SV.cells) := ownsRow_only hprow hO1 (fun b hb e => by
    have e2 : b = ib := e
    have e3 : b = pg := by simpa [Value.ownBlock] using hb.symm
    omega)
  have hD1 := h.di.other (i := j) (v := .slice y.p y.rs.length y.c) h.row hne
  have hD2 := hD1.empty hk hf hx hpg hpx
  have hrow1 := SV.stored (i := j) h.row y
  have hO2 := Only.set (F := fun i => i = pg) (Wz.setCell ⟨ib, j, none⟩ (.slice y.p y.rs.length y.c)) pg pj (.slice none 0 0) rfl
  have hpW : W.heap.size ≤ pg := own_block_base hprow (b := pg) rfl
  have hiW : W.heap.size ≤ ib := own_block_base h.row (b := ib) rfl
  have hxp : xb ≠ pg := fun e => by
    obtain ⟨_, cur, h9⟩ := own_block_lt hprow (b := pg) rfl
    rw [← e, h.box] at h9
    simp only [Option.some.injEq, Obj.cells.injEq] at h9
    exact absurd h9.2.1 (by decide)
  refine ⟨x, y, pg, x.ports.length, x.pc, c0, rfl, hpx, q1, q2, hd0, hcell2, a0, b0, hO1.cell hcell2 (fun e => by have e2 : pg = ib := e; omega), hprow1.frozenAt _, ?_⟩
  refine ⟨?_, ?_, by rw [List.length_set]; exact h.len, ?_, ?_, ?_, ?_⟩
  · have e1 : E0 ++ ins.take (j + 1) = E0 ++ ins.take j ++ [⟨(f : Int), (pj : Int)⟩] := by
      rw [List.take_succ_eq_append_getElem (by omega), ← getElem!_pos ins j (by omega), he, List.append_assoc]
    rw [e1]
    exact hD2
  · exact ownsRow_only hrow1 hO2 (fun b hb e => by
      have e2 : b = pg := e
      have e3 : b = ib := by simpa [Value.ownBlock] using hb.symm
      omega)
  · intro i hi
    rw [get_setSV (by rw [h.len]; omega)]
    by_cases e : j = i
    · rw [if_pos e, ← e, he]
      exact ⟨(hyo.set h.row).set hprow1, by simpa using hyr⟩
    · rw [if_neg e]
      have := h.at' i (by omega)
      exact ⟨(this.1.set h.row).set hprow1, this.2⟩
  · intro i hi g
    have e := empty_blocks (j := pj) (show f < rv.length by omega) hx i (by omega)
    rw [e.1, e.2]
    exact h.old i hi g
  · exact hO2.obj (hO1.obj h.box (fun e => by have e2 : xb = ib := e; omega)) (fun e => hxp e)
  · exact (h.below.setCell (p := ⟨ib, j, none⟩) hiW _).setCell (p := ⟨pg, pj, none⟩) hpW _
end Go.Proofs.YtifldnpccgbnkaaGreat
