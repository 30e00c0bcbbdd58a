/-
  The inputs of an operator, taken from the ports of those ahead. No conditions.
-/
import Derived.Test.YtbcllgddogghbaaRdi
namespace Go.Proofs.Ytbcllgddogghbaa
open Go.RowKit Go.Shelf

theorem Try.infoRes : (Try.prog.info? 70).map (fun i => (i.zero, i.size, i.bytes)) = some (some (.agg #[.slice none 0 0, .slice none 0 0, .int .i64 0, .slice none 0 0]), 4, 80) := by kernel_rfl
/-- What is asked of the operators and of what they come to. -/
structure Fits (rf : GO → List (List RC) → RS) (os : List GO) (ls : List (List RC)) (dn : List RS) : Prop where
  len : dn.length = os.length
  at' : ∀ k, k < os.length → dn[k]! = resC rf ls dn os[k]!
  src : ∀ k, k < os.length → (os[k]!).kind = 1 → 0 ≤ (os[k]!).part ∧ (os[k]!).part.toNat < ls.length ∧ (os[k]!).ins = []
  ins : ∀ k, k < os.length → (os[k]!).kind ≠ 1 → (os[k]!).ins.length ≤ 4 ∧ ∀ e ∈ (os[k]!).ins, ∃ f j : Nat, e = ⟨(f : Int), (j : Int)⟩ ∧ f < k ∧ j < (dn[f]!).ports.length
  once : (flatC os).Nodup
  res : ∀ k, k < os.length → (os[k]!).kind ≠ 1 → ResAt os[k]! (rf os[k]!)
  size : ∀ k, k < os.length → ∀ l ∈ (dn[k]!).ports, l.length ≤ lenB ∧ ∀ r ∈ l, r.fine
  few : os.length ≤ 24
theorem flat_take_not {os : List GO} (h : (flatC os).Nodup) {k j : Nat} (hk : k < os.length) (hj : j < (os[k]!).ins.length) : (os[k]!).ins[j]! ∉ flatC (os.take k) ++ (os[k]!).ins.take j := by
  have e1 : flatC os = flatC (os.take k) ++ (os[k]!).ins ++ flatC (os.drop (k + 1)) := by
    have : os = os.take k ++ os[k]! :: os.drop (k + 1) := by
      rw [getElem!_pos os k hk, List.getElem_cons_drop, List.take_append_drop]
    conv => lhs; rw [this]
    unfold flatC
    rw [List.flatMap_append, List.flatMap_cons, List.append_assoc]
  have e2 : (os[k]!).ins = (os[k]!).ins.take j ++ (os[k]!).ins[j]! :: (os[k]!).ins.drop (j + 1) := by
    rw [getElem!_pos (os[k]!).ins j hj, List.getElem_cons_drop, List.take_append_drop]
  rw [e1, e2, List.append_assoc, List.append_assoc, List.nodup_append] at h
  intro hm
  obtain ⟨_, h2, h3⟩ := h
  rw [List.mem_append] at hm
  rcases hm with hm | hm
  · exact h3 _ hm _ (by simp) rfl
  · rw [List.nodup_append] at h2
    exact h2.2.2 _ hm _ (by simp) rfl

/-- What is written to another row of lists leaves what was done alone. -/
theorem DI.other {W : World} {B b2 db n k g m c i : Nat} {dn : List RS} {E : List GE} {rv : List RV} {zs : List Value} {v : Value} (h : DI W B db n k dn E rv) (hr : W.ownsRow b2 23 1 (.slice (some ⟨g, 0, none⟩) m c) m zs) (hne : ∀ a, a < k → (rv[a]!).pv.ownBlock ≠ some g ∧ (rv[a]!).bv.ownBlock ≠ some g) : DI (W.setCell ⟨g, i, none⟩ v) B db n k dn E rv :=
  ⟨h.len, ownsRow_only h.row (Only.set (F := fun i => i = g) W g i v rfl) (fun b hb e => by
    have e2 : b = g := e
    rw [e2] at hb
    exact rows_apart h.row hr (by decide) rfl hb), fun a ha => (h.ok a ha).other hr (hne a ha).1 (hne a ha).2, h.plain, h.apart⟩
/-- No input of the first operators comes from a later one. -/
theorem ahead_not {rf : GO → List (List RC) → RS} {os : List GO} {ls : List (List RC)} {dn : List RS} (h : Fits rf os ls dn) {n k i : Nat} {j : Int} (hk : k ≤ n) (hn : os.length = n) (hi : k ≤ i + 1) : ¬ ((⟨(i : Int), j⟩ : GE) ∈ flatC (os.take k)) := by
  intro hm
  unfold flatC at hm
  rw [List.mem_flatMap] at hm
  obtain ⟨o, ho, he⟩ := hm
  obtain ⟨a, ha, rfl⟩ := List.getElem_of_mem ho
  rw [List.length_take] at ha
  rw [List.getElem_take, ← getElem!_pos os a (by omega)] at he
  by_cases h1 : (os[a]!).kind = 1
  · rw [(h.src a (by omega) h1).2.2] at he
    cases he
  · obtain ⟨f, j', e, hf, _⟩ := (h.ins a (by omega) h1).2 _ he
    simp only [GE.mk.injEq] at e
    omega


structure InI (Wz W : World) (db n k ib xb m j : Nat) (dn : List RS) (E0 : List GE) (ins : List GE) (ob : Obj) (rv : List RV) (ys : List SV) : Prop where
  di : DI Wz W.heap.size db n k dn (E0 ++ ins.take j) rv
  row : Wz.ownsRow W.heap.size 23 1 (.slice (some ⟨ib, 0, none⟩) m m) m (ys.flatMap SV.cells)
  len : ys.length = m
  at' : ∀ i, i < j → (ys[i]!).own Wz W.heap.size ∧ (ys[i]!).rs = (dn[(ins[i]!).f.toNat]!).ports[(ins[i]!).p.toNat]!
  old : ∀ i, i < k → ∀ g, ((rv[i]!).pv.ownBlock = some g → g < ib) ∧ ((rv[i]!).bv.ownBlock = some g → g < ib)
  box : Wz.heap[xb]? = some ob
  below : Below W.heap.size W Wz
theorem InI.later {Wz V W : World} {db n k ib xb m j : Nat} {dn : List RS} {E0 ins : List GE} {ob : Obj} {rv : List RV} {ys : List SV} (h : InI Wz W db n k ib xb m j dn E0 ins ob rv ys) (hb : Below Wz.heap.size Wz V) : InI V W db n k ib xb m j dn E0 ins ob rv ys :=
  ⟨h.di.later hb, ownsRow_later h.row hb, h.len, fun i hi => ⟨(h.at' i hi).1.later hb, (h.at' i hi).2⟩, h.old, below_box hb h.box, h.below.trans (hb.mono h.below.size)⟩
theorem InI.step {Wz W : World} {db n k ib xb m j : Nat} {dn : List RS} {E0 ins : List GE} {cs : Array Value} {rv : List RV} {ys : List SV} (h : InI Wz W db n k ib xb m j dn E0 ins (.cells cs 46 (0, 0)) rv ys) (hk : k ≤ n) (hm : ins.length = m) (hj : j < m) (hxi : xb < ib) {f pj : Nat} (he : ins[j]! = ⟨(f : Int), (pj : Int)⟩) (hf : f < k) (hpj : pj < (dn[f]!).ports.length) (hni : ins[j]! ∉ E0 ++ ins.take j) :
    ∃ (x : RV) (y : SV) (pg M pc : Nat) (c0 : Value), M = x.ports.length ∧ pj < M ∧ M ≤ pc ∧ pc ≤ 9223372036854775807 ∧ Wz.cell? ⟨db, f * 4, none⟩ = some (.slice (some ⟨pg, 0, none⟩) M pc) ∧ Wz.cell? ⟨pg, pj, none⟩ = some (.slice y.p y.rs.length y.c) ∧ Wz.cell? ⟨ib, j, none⟩ = some c0 ∧ Wz.frozen? ⟨ib, j, none⟩ = false ∧
      (Wz.setCell ⟨ib, j, none⟩ (.slice y.p y.rs.length y.c)).cell? ⟨pg, pj, none⟩ = some (.slice y.p y.rs.length y.c) ∧ (Wz.setCell ⟨ib, j, none⟩ (.slice y.p y.rs.length y.c)).frozen? ⟨pg, pj, none⟩ = false ∧
      InI ((Wz.setCell ⟨ib, j, none⟩ (.slice y.p y.rs.length y.c)).setCell ⟨pg, pj, none⟩ (.slice none 0 0)) W db n k ib xb m (j + 1) dn E0 ins (.cells cs 46 (0, 0)) (rv.set f { x with ports := x.ports.set pj default }) (ys.set j y) := by
  have hlen := h.di.len
  obtain ⟨x, hx⟩ : ∃ x, rv[f]! = x := ⟨_, rfl⟩
  have hok := h.di.ok f hf
  have hpl := h.di.plain f hf
  rw [hx] at hok hpl
  obtain ⟨_, _, _, p4, p5⟩ := hpl
  have hpx : pj < x.ports.length := by rw [p4]; exact hpj
  have hprow := hok.prow
  unfold RV.pv at hprow
  obtain ⟨pg, hpg, hcell⟩ := own_cellR hprow hpx
  obtain ⟨y, hy⟩ : ∃ y, x.ports[pj]! = y := ⟨_, rfl⟩
  have hcell2 : Wz.cell? ⟨pg, pj, none⟩ = some (.slice y.p y.rs.length y.c) := by
    rw [hcell, SV.flat, List.getD_eq_getElem?_getD, List.getElem?_map, List.getElem?_eq_getElem hpx, ← hy, getElem!_pos x.ports pj hpx]
    rfl
  rw [hpg] at hprow
  have hym : y ∈ x.ports := by rw [← hy, getElem!_pos x.ports pj hpx]; exact List.getElem_mem _
  have hyo := hok.pown y hym
  have hmem : (⟨(f : Int), (pj : Int)⟩ : GE) ∉ E0 ++ ins.take j := by rw [← he]; exact hni
  have hyr : y.rs = (dn[f]!).ports[pj]! := by
    have := p5 pj hpj
    rw [hy, if_neg hmem] at this
    exact this
  obtain ⟨_, _, ef, q1, q2⟩ := own_form hprow
  simp only [Value.slice.injEq] at ef
  obtain ⟨_, _, rfl⟩ := ef
  have hd0 := (own_getRV h.di.row hlen (by omega) hx).1
  unfold RV.pv at hd0
  rw [hpg] at hd0
  obtain ⟨⟨c0, a0⟩, b0⟩ := row_at h.row (i := j) (by omega)
  have hne : ∀ a, a < k → (rv[a]!).pv.ownBlock ≠ some ib ∧ (rv[a]!).bv.ownBlock ≠ some ib := fun a ha =>
    ⟨fun e => by have := (h.old a ha ib).1 e; omega, fun e => by have := (h.old a ha ib).2 e; omega⟩
  have hpgi : pg < ib := (h.old f hf pg).1 (by rw [hx]; unfold RV.pv; rw [hpg]; rfl)
  have hO1 := Only.set (F := fun i => i = ib) Wz ib j (.slice y.p y.rs.length y.c) rfl
  have hprow1 : (Wz.setCell ⟨ib, j, none⟩ (.slice y.p y.rs.length y.c)).ownsRow W.heap.size 23 1 (.slice (some ⟨pg, 0, none⟩) x.ports.length x.pc) x.ports.length (x.ports.flatMap SV.cells) := ownsRow_only hprow hO1 (fun b hb e => by
    have e2 : b = ib := e
    have e3 : b = pg := by simpa [Value.ownBlock] using hb.symm
    omega)
  have hD1 := h.di.other (i := j) (v := .slice y.p y.rs.length y.c) h.row hne
  have hD2 := hD1.empty hk hf hx hpg hpx
  have hrow1 := SV.stored (i := j) h.row y
  have hO2 := Only.set (F := fun i => i = pg) (Wz.setCell ⟨ib, j, none⟩ (.slice y.p y.rs.length y.c)) pg pj (.slice none 0 0) rfl
  have hpW : W.heap.size ≤ pg := own_block_base hprow (b := pg) rfl
  have hiW : W.heap.size ≤ ib := own_block_base h.row (b := ib) rfl
  have hxp : xb ≠ pg := fun e => by
    obtain ⟨_, cur, h9⟩ := own_block_lt hprow (b := pg) rfl
    rw [← e, h.box] at h9
    simp only [Option.some.injEq, Obj.cells.injEq] at h9
    exact absurd h9.2.1 (by decide)
  refine ⟨x, y, pg, x.ports.length, x.pc, c0, rfl, hpx, q1, q2, hd0, hcell2, a0, b0, hO1.cell hcell2 (fun e => by have e2 : pg = ib := e; omega), hprow1.frozenAt _, ?_⟩
  refine ⟨?_, ?_, by rw [List.length_set]; exact h.len, ?_, ?_, ?_, ?_⟩
  · have e1 : E0 ++ ins.take (j + 1) = E0 ++ ins.take j ++ [⟨(f : Int), (pj : Int)⟩] := by
      rw [List.take_succ_eq_append_getElem (by omega), ← getElem!_pos ins j (by omega), he, List.append_assoc]
    rw [e1]
    exact hD2
  · exact ownsRow_only hrow1 hO2 (fun b hb e => by
      have e2 : b = pg := e
      have e3 : b = ib := by simpa [Value.ownBlock] using hb.symm
      omega)
  · intro i hi
    rw [get_setSV (by rw [h.len]; omega)]
    by_cases e : j = i
    · rw [if_pos e, ← e, he]
      exact ⟨(hyo.set h.row).set hprow1, by simpa using hyr⟩
    · rw [if_neg e]
      have := h.at' i (by omega)
      exact ⟨(this.1.set h.row).set hprow1, this.2⟩
  · intro i hi g
    have e := empty_blocks (j := pj) (show f < rv.length by omega) hx i (by omega)
    rw [e.1, e.2]
    exact h.old i hi g
  · exact hO2.obj (hO1.obj h.box (fun e => by have e2 : xb = ib := e; omega)) (fun e => hxp e)
  · exact (h.below.setCell (p := ⟨ib, j, none⟩) hiW _).setCell (p := ⟨pg, pj, none⟩) hpW _
end Go.Proofs.Ytbcllgddogghbaa
