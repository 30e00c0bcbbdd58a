/-
  What results has done so far, as it lies in memory: the results of the first operators, their ports emptied where an input has come from them. No conditions.
-/
import Derived.Test.YtbcllgddogghbaaRso
import Derived.Test.YtbcllgddogghbaaGpl
namespace Go.Proofs.Ytbcllgddogghbaa
open Go.RowKit Go.Shelf

def resC (rf : GO → List (List RC) → RS) (ls : List (List RC)) (dn : List RS) (o : GO) : RS :=
  if o.kind = 1 then ⟨[ls[o.part.toNat]!], [], 0, []⟩ else rf o (o.ins.map fun e => (dn[e.f.toNat]!).ports[e.p.toNat]!)
def RelP (E : List GE) (i : Nat) (x : RV) (r : RS) : Prop :=
  x.keys = r.keys ∧ x.turn = r.turn ∧ x.bufs.map SV.rs = r.bufs ∧ x.ports.length = r.ports.length ∧ ∀ j, j < r.ports.length → (x.ports[j]!).rs = if (⟨(i : Int), (j : Int)⟩ : GE) ∈ E then [] else r.ports[j]!
structure DI (W : World) (B db n k : Nat) (dn : List RS) (E : List GE) (rv : List RV) : Prop where
  len : rv.length = n
  row : W.ownsRow B 70 4 (.slice (some ⟨db, 0, none⟩) n n) n (rv.flatMap RV.cells)
  ok : ∀ i, i < k → (rv[i]!).ok W B
  plain : ∀ i, i < k → RelP E i rv[i]! dn[i]!
  apart : ∀ i i', i < k → i' < k → i ≠ i' → ∀ g, (rv[i]!).pv.ownBlock = some g → (rv[i']!).pv.ownBlock ≠ some g ∧ (rv[i']!).bv.ownBlock ≠ some g
theorem DI.later {W W' : World} {B db n k : Nat} {dn : List RS} {E : List GE} {rv : List RV} (h : DI W B db n k dn E rv) (hb : Below W.heap.size W W') : DI W' B db n k dn E rv :=
  ⟨h.len, ownsRow_later h.row hb, fun i hi => (h.ok i hi).later hb, h.plain, h.apart⟩
theorem get_setRV {ys : List RV} {k i : Nat} {x : RV} (hi : i < ys.length) : (ys.set k x)[i]! = if k = i then x else ys[i]! := by
  rw [getElem!_pos (ys.set k x) i (by simpa using hi), List.getElem_set, getElem!_pos ys i hi]
theorem RV.ok.other {x : RV} {W : World} {B b2 g n c i : Nat} {zs : List Value} {v : Value} (h : x.ok W B) (hr : W.ownsRow b2 23 1 (.slice (some ⟨g, 0, none⟩) n c) n zs) (h1 : x.pv.ownBlock ≠ some g) (h2 : x.bv.ownBlock ≠ some g) : x.ok (W.setCell ⟨g, i, none⟩ v) B := by
  have ho := Only.set (F := fun i => i = g) W g i v rfl
  have ht : ∀ (e : TypeId) (sz m : Nat) (u : Value) (us : List Value), W.ownsRow B e sz u m us → e ≠ 23 → (W.setCell ⟨g, i, none⟩ v).ownsRow B e sz u m us := fun e sz m u us hu he =>
    ownsRow_only hu ho (fun b hb e' => by
      have e2 : b = g := e'
      rw [e2] at hb
      exact rows_apart hu hr he rfl hb)
  exact ⟨ownsRow_only h.prow ho (fun b hb e' => by have e2 : b = g := e'; rw [e2] at hb; exact h1 hb), fun y hy => ht _ _ _ _ _ (h.pown y hy) (by decide), ht _ _ _ _ _ h.krow (by decide),
    ownsRow_only h.brow ho (fun b hb e' => by have e2 : b = g := e'; rw [e2] at hb; exact h2 hb), fun y hy => ht _ _ _ _ _ (h.bown y hy) (by decide), h.apart⟩
theorem SV.own_nil (W : World) (B : Nat) : (default : SV).own W B := World.ownsRow_nil _ _ _ _
theorem flat_same {rv : List RV} {f : Nat} {x : RV} (hf : f < rv.length) (hx : x.cells = (rv[f]!).cells) : (rv.set f x).flatMap RV.cells = rv.flatMap RV.cells := by
  rw [List.flatMap_def, List.flatMap_def, List.map_set, hx]
  congr 1
  apply List.ext_getElem
  · simp
  · intro i h1 h2
    rw [List.getElem_set]
    split
    · rename_i e; subst e; rw [List.getElem_map, getElem!_pos rv f hf]
    · rfl
/-- A port is emptied. -/
theorem DI.empty {W : World} {B db n k : Nat} {dn : List RS} {E : List GE} {rv : List RV} (h : DI W B db n k dn E rv) (hk : k ≤ n) {f j pg : Nat} (hf : f < k) {x : RV} (hx : rv[f]! = x) (hp : x.pp = some ⟨pg, 0, none⟩) (_hj : j < x.ports.length) :
    DI (W.setCell ⟨pg, j, none⟩ (.slice none 0 0)) B db n k dn (E ++ [⟨(f : Int), (j : Int)⟩]) (rv.set f { x with ports := x.ports.set j default }) := by
  have hl := h.len
  have hok := h.ok f hf
  rw [hx] at hok
  have hpv : x.pv = .slice (some ⟨pg, 0, none⟩) x.ports.length x.pc := by unfold RV.pv; rw [hp]
  have hprow := hok.prow
  rw [hpv] at hprow
  have hpb : x.pv.ownBlock = some pg := by rw [hpv]; rfl
  refine ⟨by rw [List.length_set]; exact hl, ?_, ?_, ?_, ?_⟩
  · rw [flat_same (by omega) (by rw [hx]; unfold RV.cells RV.pv RV.kv RV.bv; simp)]
    exact ownsRow_only h.row (Only.set (F := fun i => i = pg) W pg j _ rfl) (fun b hb e => by
      have e2 : b = pg := e
      rw [e2] at hb
      exact rows_apart h.row hprow (by decide) rfl hb)
  · intro i hi
    rw [get_setRV (by omega)]
    by_cases e : f = i
    · rw [if_pos e]
      have ho := Only.set (F := fun i => i = pg) W pg j (.slice none 0 0) rfl
      have ht : ∀ (e : TypeId) (sz m : Nat) (u : Value) (us : List Value), W.ownsRow B e sz u m us → e ≠ 23 → (W.setCell ⟨pg, j, none⟩ (.slice none 0 0)).ownsRow B e sz u m us := fun e sz m u us hu he =>
        ownsRow_only hu ho (fun b hb e' => by
          have e2 : b = pg := e'
          rw [e2] at hb
          exact rows_apart hu hprow he rfl hb)
      refine ⟨?_, ?_, ht _ _ _ _ _ hok.krow (by decide), ?_, fun y hy => ht _ _ _ _ _ (hok.bown y hy) (by decide), ?_⟩
      · have h9 := SV.stored (i := j) hprow (default : SV)
        simp only [RV.pv, List.length_set]
        rw [hp]
        exact h9
      · intro y hy
        rcases List.mem_or_eq_of_mem_set hy with h1 | h1
        · exact ht _ _ _ _ _ (hok.pown y h1) (by decide)
        · rw [h1]; exact SV.own_nil _ _
      · exact ownsRow_only hok.brow ho (fun b hb e' => by
          have e2 : b = pg := e'
          rw [e2] at hb
          exact hok.apart pg hpb hb)
      · intro g hg
        have : x.pv.ownBlock = some g := by
          rw [← hg]
          simp only [RV.pv, List.length_set]
        exact hok.apart g this
    · rw [if_neg e]
      have := h.apart f i hf hi e pg (by rw [hx]; exact hpb)
      exact (h.ok i hi).other hprow this.1 this.2
  · intro i hi
    rw [get_setRV (by omega)]
    have hpl := h.plain i hi
    by_cases e : f = i
    · rw [if_pos e]
      subst e
      rw [hx] at hpl
      obtain ⟨p1, p2, p3, p4, p5⟩ := hpl
      refine ⟨p1, p2, p3, by rw [← p4]; simp, fun j' hj' => ?_⟩
      show ((x.ports.set j default)[j']!).rs = _
      rw [get_setSV (by omega)]
      by_cases e2 : j = j'
      · rw [if_pos e2, if_pos (by rw [e2]; simp)]
        rfl
      · rw [if_neg e2, p5 j' hj']
        have : ((⟨(f : Int), (j' : Int)⟩ : GE) ∈ E ++ [⟨(f : Int), (j : Int)⟩]) ↔ ((⟨(f : Int), (j' : Int)⟩ : GE) ∈ E) := by
          rw [List.mem_append]
          constructor
          · rintro (h1 | h1)
            · exact h1
            · simp only [List.mem_singleton, GE.mk.injEq, true_and] at h1
              omega
          · exact .inl
        by_cases h9 : (⟨(f : Int), (j' : Int)⟩ : GE) ∈ E
        · rw [if_pos h9, if_pos (this.2 h9)]
        · rw [if_neg h9, if_neg (fun h => h9 (this.1 h))]
    · rw [if_neg e]
      obtain ⟨p1, p2, p3, p4, p5⟩ := hpl
      refine ⟨p1, p2, p3, p4, fun j' hj' => ?_⟩
      rw [p5 j' hj']
      have : ((⟨(i : Int), (j' : Int)⟩ : GE) ∈ E ++ [⟨(f : Int), (j : Int)⟩]) ↔ ((⟨(i : Int), (j' : Int)⟩ : GE) ∈ E) := by
        rw [List.mem_append]
        constructor
        · rintro (h1 | h1)
          · exact h1
          · simp only [List.mem_singleton, GE.mk.injEq] at h1
            omega
        · exact .inl
      by_cases h9 : (⟨(i : Int), (j' : Int)⟩ : GE) ∈ E
      · rw [if_pos h9, if_pos (this.2 h9)]
      · rw [if_neg h9, if_neg (fun h => h9 (this.1 h))]
  · intro i i' hi hi' hne g hg
    rw [get_setRV (by omega)] at hg ⊢
    have hsame : ∀ a : Nat, (if f = a then { x with ports := x.ports.set j default } else rv[a]!).pv.ownBlock = (rv[a]!).pv.ownBlock ∧ (if f = a then { x with ports := x.ports.set j default } else rv[a]!).bv.ownBlock = (rv[a]!).bv.ownBlock := fun a => by
      by_cases e : f = a
      · rw [if_pos e, ← e, hx]
        simp only [RV.pv, RV.bv, List.length_set, and_self]
      · rw [if_neg e]; exact ⟨rfl, rfl⟩
    rw [(hsame i).1] at hg
    rw [(hsame i').1, (hsame i').2]
    exact h.apart i i' hi hi' hne g hg
theorem empty_blocks {rv : List RV} {f j : Nat} {x : RV} (_hf : f < rv.length) (hx : rv[f]! = x) (a : Nat) (ha : a < rv.length) : ((rv.set f { x with ports := x.ports.set j default })[a]!).pv.ownBlock = (rv[a]!).pv.ownBlock ∧ ((rv.set f { x with ports := x.ports.set j default })[a]!).bv.ownBlock = (rv[a]!).bv.ownBlock := by
  rw [get_setRV ha]
  by_cases e : f = a
  · rw [if_pos e, ← e, hx]
    simp only [RV.pv, RV.bv, List.length_set, and_self]
  · rw [if_neg e]; exact ⟨rfl, rfl⟩
/-- Four cells of a row of results are written. -/
def setR (W : World) (db k : Nat) (x : RV) : World := (((W.setCell ⟨db, k * 4, none⟩ x.pv).setCell ⟨db, k * 4 + 1, none⟩ x.kv).setCell ⟨db, k * 4 + 2, none⟩ (.int .i64 x.turn)).setCell ⟨db, k * 4 + 3, none⟩ x.bv
theorem setR_only (W : World) (db k : Nat) (x : RV) : Only (· = db) W (setR W db k x) :=
  (Only.set (F := (· = db)) W db _ _ rfl).trans ((Only.set (F := (· = db)) _ db _ _ rfl).trans ((Only.set (F := (· = db)) _ db _ _ rfl).trans (Only.set (F := (· = db)) _ db _ _ rfl)))
theorem RV.stored {W : World} {base g n cap k : Nat} {es : List RV} (h : W.ownsRow base 70 4 (.slice (some ⟨g, 0, none⟩) n cap) n (es.flatMap RV.cells)) (hk : k < es.length) (x : RV) :
    (setR W g k x).ownsRow base 70 4 (.slice (some ⟨g, 0, none⟩) n cap) n ((es.set k x).flatMap RV.cells) := by
  obtain ⟨e, he⟩ : ∃ e, es[k]! = e := ⟨_, rfl⟩
  have hset : ∀ (l : List RV) (y : RV), k < l.length → (l.set k y)[k]! = y := fun l y hl => by rw [getElem!_pos _ k (by simpa using hl), List.getElem_set_self]
  have step : ∀ (w : World) (l : List RV) (a : RV) (j : Nat) (y : RV) (u : Value), j < 4 → k < l.length → l[k]! = a → RV.cells y = (RV.cells a).set j u → w.ownsRow base 70 4 (.slice (some ⟨g, 0, none⟩) n cap) n (l.flatMap RV.cells) → (w.setCell ⟨g, k * 4 + j, none⟩ u).ownsRow base 70 4 (.slice (some ⟨g, 0, none⟩) n cap) n ((l.set k y).flatMap RV.cells) := fun w l a j y u hj hl ha hy h9 => by
    rw [flat_set (cells := RV.cells) l (fun o _ => o.len) k j y u hl hj (by rw [ha]; exact hy)]
    exact (h9.stored (k * 4 + j) u).1
  obtain ⟨xp, xpp, xpc, xk, xkp, xkn, xkc, xt, xb, xbp, xbc⟩ := x
  obtain ⟨ep, epp, epc, ek, ekp, ekn, ekc, et, eb, ebp, ebc⟩ := e
  have s0 := step _ _ _ 0 ⟨xp, xpp, xpc, ek, ekp, ekn, ekc, et, eb, ebp, ebc⟩ (.slice xpp xp.length xpc) (by decide) hk he rfl h
  have s1 := step _ _ ⟨xp, xpp, xpc, ek, ekp, ekn, ekc, et, eb, ebp, ebc⟩ 1 ⟨xp, xpp, xpc, xk, xkp, xkn, xkc, et, eb, ebp, ebc⟩ (.slice xkp xkn xkc) (by decide) (by simpa using hk) (hset _ _ hk) rfl s0
  have s2 := step _ _ ⟨xp, xpp, xpc, xk, xkp, xkn, xkc, et, eb, ebp, ebc⟩ 2 ⟨xp, xpp, xpc, xk, xkp, xkn, xkc, xt, eb, ebp, ebc⟩ (.int .i64 xt) (by decide) (by simpa using hk) (hset _ _ (by simpa using hk)) rfl s1
  have s3 := step _ _ ⟨xp, xpp, xpc, xk, xkp, xkn, xkc, xt, eb, ebp, ebc⟩ 3 ⟨xp, xpp, xpc, xk, xkp, xkn, xkc, xt, xb, xbp, xbc⟩ (.slice xbp xb.length xbc) (by decide) (by simpa using hk) (hset _ _ (by simpa using hk)) rfl s2
  simp only [List.set_set, Nat.add_zero] at s3
  exact s3
/-- A result is put behind the others. -/
theorem DI.push {W : World} {B db n k b2 : Nat} {dn : List RS} {E : List GE} {rv : List RV} (h : DI W B db n k dn E rv) (hk : k < n) {x : RV} (hx : x.ok W b2) (hB : B ≤ b2) (hold : ∀ i, i < k → ∀ g, ((rv[i]!).pv.ownBlock = some g → g < b2) ∧ ((rv[i]!).bv.ownBlock = some g → g < b2)) (hpl : RelP E k x dn[k]!) :
    DI (setR W db k x) B db n (k + 1) dn E (rv.set k x) := by
  have hl := h.len
  have ho := setR_only W db k x
  have ht : ∀ (b : Nat) (e : TypeId) (sz m : Nat) (u : Value) (us : List Value), W.ownsRow b e sz u m us → e ≠ 70 → (setR W db k x).ownsRow b e sz u m us := fun b e sz m u us hu he =>
    ownsRow_only hu ho (fun c hb e' => by
      have e2 : c = db := e'
      rw [e2] at hb
      exact rows_apart hu h.row he rfl hb)
  have hok : ∀ (y : RV) (b : Nat), y.ok W b → y.ok (setR W db k x) b := fun y b hy =>
    ⟨ht _ _ _ _ _ _ hy.prow (by decide), fun z hz => ht _ _ _ _ _ _ (hy.pown z hz) (by decide), ht _ _ _ _ _ _ hy.krow (by decide), ht _ _ _ _ _ _ hy.brow (by decide), fun z hz => ht _ _ _ _ _ _ (hy.bown z hz) (by decide), hy.apart⟩
  refine ⟨by rw [List.length_set]; exact hl, RV.stored h.row (by omega) x, ?_, ?_, ?_⟩
  · intro i hi
    rw [get_setRV (by omega)]
    by_cases e : k = i
    · rw [if_pos e]; exact hok x B (hx.base hB)
    · rw [if_neg e]; exact hok _ B (h.ok i (by omega))
  · intro i hi
    rw [get_setRV (by omega)]
    by_cases e : k = i
    · rw [if_pos e, ← e]; exact hpl
    · rw [if_neg e]; exact h.plain i (by omega)
  · intro i i' hi hi' hne g hg
    rw [get_setRV (by omega)] at hg ⊢
    by_cases e : k = i
    · rw [if_pos e] at hg
      rw [if_neg (by omega)]
      have h1 := own_block_base hx.prow hg
      have h2 := hold i' (by omega) g
      exact ⟨fun h9 => by have := h2.1 h9; omega, fun h9 => by have := h2.2 h9; omega⟩
    · rw [if_neg e] at hg
      by_cases e' : k = i'
      · rw [if_pos e']
        have h2 := (hold i (by omega) g).1 hg
        exact ⟨fun h9 => by have := own_block_base hx.prow h9; omega, fun h9 => by have := own_block_base hx.brow h9; omega⟩
      · rw [if_neg e']
        exact h.apart i i' (by omega) (by omega) hne g hg
theorem DI.old {W : World} {B db n k : Nat} {dn : List RS} {E : List GE} {rv : List RV} (h : DI W B db n k dn E rv) : ∀ i, i < k → ∀ g, ((rv[i]!).pv.ownBlock = some g → g < W.heap.size) ∧ ((rv[i]!).bv.ownBlock = some g → g < W.heap.size) :=
  fun i hi _ => ⟨fun e => (own_block_lt (h.ok i hi).prow e).1, fun e => (own_block_lt (h.ok i hi).brow e).1⟩
theorem row_at {W : World} {base g n cap sz i : Nat} {e : TypeId} {zs : List Value} (h : W.ownsRow base e sz (.slice (some ⟨g, 0, none⟩) n cap) n zs) (hi : i < n * sz) : (∃ v, W.cell? ⟨g, i, none⟩ = some v) ∧ W.frozen? ⟨g, i, none⟩ = false :=
  ⟨⟨zs[i]'(by have := h.1; omega), by rw [h.cellAt i (by have := h.1; omega), List.getElem?_eq_getElem]⟩, h.frozenAt _⟩
theorem setR_facts {W : World} {base g n cap k : Nat} {es : List Value} (h : W.ownsRow base 70 4 (.slice (some ⟨g, 0, none⟩) n cap) n es) (hk : k < n) (d0 d1 d2 : Value) :
    ∃ c0 c1 c2 c3, W.cell? ⟨g, k * 4, none⟩ = some c0 ∧ W.frozen? ⟨g, k * 4, none⟩ = false ∧ (W.setCell ⟨g, k * 4, none⟩ d0).cell? ⟨g, k * 4 + 1, none⟩ = some c1 ∧ (W.setCell ⟨g, k * 4, none⟩ d0).frozen? ⟨g, k * 4 + 1, none⟩ = false ∧
    ((W.setCell ⟨g, k * 4, none⟩ d0).setCell ⟨g, k * 4 + 1, none⟩ d1).cell? ⟨g, k * 4 + 2, none⟩ = some c2 ∧ ((W.setCell ⟨g, k * 4, none⟩ d0).setCell ⟨g, k * 4 + 1, none⟩ d1).frozen? ⟨g, k * 4 + 2, none⟩ = false ∧
    (((W.setCell ⟨g, k * 4, none⟩ d0).setCell ⟨g, k * 4 + 1, none⟩ d1).setCell ⟨g, k * 4 + 2, none⟩ d2).cell? ⟨g, k * 4 + 3, none⟩ = some c3 ∧ (((W.setCell ⟨g, k * 4, none⟩ d0).setCell ⟨g, k * 4 + 1, none⟩ d1).setCell ⟨g, k * 4 + 2, none⟩ d2).frozen? ⟨g, k * 4 + 3, none⟩ = false := by
  have h1 := (h.stored (k * 4) d0).1
  have h2 := (h1.stored (k * 4 + 1) d1).1
  have h3 := (h2.stored (k * 4 + 2) d2).1
  obtain ⟨⟨c0, a0⟩, b0⟩ := row_at h (i := k * 4) (by omega)
  obtain ⟨⟨c1, a1⟩, b1⟩ := row_at h1 (i := k * 4 + 1) (by omega)
  obtain ⟨⟨c2, a2⟩, b2⟩ := row_at h2 (i := k * 4 + 2) (by omega)
  obtain ⟨⟨c3, a3⟩, b3⟩ := row_at h3 (i := k * 4 + 3) (by omega)
  exact ⟨c0, c1, c2, c3, a0, b0, a1, b1, a2, b2, a3, b3⟩
theorem own_getRV {W : World} {base g n k : Nat} {rv : List RV} (h : W.ownsRow base 70 4 (.slice (some ⟨g, 0, none⟩) n n) n (rv.flatMap RV.cells)) (hl : rv.length = n) (hk : k < n) {x : RV} (hx : rv[k]! = x) :
    W.cell? ⟨g, k * 4, none⟩ = some x.pv ∧ W.cell? ⟨g, k * 4 + 1, none⟩ = some x.kv ∧ W.cell? ⟨g, k * 4 + 2, none⟩ = some (.int .i64 x.turn) ∧ W.cell? ⟨g, k * 4 + 3, none⟩ = some x.bv := by
  obtain ⟨g', o', e, hc⟩ := (LRow.of_own RV.len hl h).cell k (by omega)
  simp only [Option.some.injEq, Addr.mk.injEq, and_true] at e
  obtain ⟨rfl, rfl⟩ := e
  simp only [Nat.zero_add] at hc
  rw [hx] at hc
  exact ⟨hc 0 (by decide), hc 1 (by decide), hc 2 (by decide), hc 3 (by decide)⟩
theorem made_res : ∀ n, (madeCells (Value.agg #[.slice none 0 0, .slice none 0 0, .int .i64 0, .slice none 0 0]).cells (n * 4)).toList = (List.replicate n (default : RV)).flatMap RV.cells := by
  intro n
  apply List.ext_getElem?
  intro i
  by_cases hi : i < n * 4
  · have h1 : i = (i / 4) * 4 + i % 4 := by omega
    have h4 : i % 4 < 4 := Nat.mod_lt _ (by decide)
    have h5 : i / 4 < n := by omega
    have h2 := flat_get (cells := RV.cells) (List.replicate n (default : RV)) (fun o _ => o.len) (i / 4) (i % 4) (by simpa using h5) h4
    rw [← h1, getElem!_pos _ (i / 4) (by simpa using h5), List.getElem_replicate] at h2
    rw [h2]
    rw [List.getElem?_eq_getElem (by simp [size_madeCells]; exact hi)]
    simp [madeCells, Value.cells]
    rcases (by omega : i % 4 = 0 ∨ i % 4 = 1 ∨ i % 4 = 2 ∨ i % 4 = 3) with e | e | e | e <;> rw [e] <;> rfl
  · rw [List.getElem?_eq_none (by simp [size_madeCells]; omega), List.getElem?_eq_none (by rw [flat_len (size := 4) _ (fun o _ => o.len)]; simp; omega)]
end Go.Proofs.Ytbcllgddogghbaa
