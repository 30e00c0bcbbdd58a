/-
  A map of transactions by their names, as it lies in memory. The conditions: numbers are what 64 bits hold.
-/
import Derived.Test.YtboofnkajjnmeaaSkb
import Derived.DeepKeys4
import Derived.Maps.OwnSet
import Derived.Maps.Ext
import Derived.Lib.RowBridge
namespace Go.Proofs.Ytboofnkajjnmeaa
open Go.ChangeShapes Go.WideShapes Go.ChangeAt Go.RowKit Go.Maps
open Go.ChangeMaps (notKey putKey delKey setBlock heap_setBlock_same heap_setBlock_other)

def valR (v : Value) : Option (DataW Value × List MemPlace) := some (.held v, [])
theorem Try.rowK : (55 : TypeId) < Try.prog.types.size := of_decide_eq_true (by kernel_rfl)
theorem Try.wideK : (match Try.prog.underlying 55 with | some (.array _ _) | some (.struct _) => true | _ => false) = true := by rw [Try.underlying55]
set_option maxRecDepth 100000 in
theorem keyT : Keyed Try.prog 55 := Keyed.of_law (deep_law_laid Try.laidOut (m := 2) (by omega) Try.rowK (by kernel_rfl) Try.wideK)
def keyV (e i : Int) : Value := .agg #[.int .i64 e, .int .i64 i]
def keyL (e i : Int) : Lit := .string (keyBytes [.int .i64 e, .int .i64 i])
theorem wf_i {n : Int} (h : posI n) : (Lit.int .i64 n).wf = true := by
  unfold posI at h
  simp [Lit.wf, IntKind.min, IntKind.max, IntKind.signed, IntKind.bits]; omega
theorem Try.ktK : Try.prog.keyType 55 = true := by kernel_rfl
theorem Try.cellsK : Try.prog.cellsOf 55 = 2 := by kernel_rfl
theorem Try.cellsI : Try.prog.cellsOf 2 = 1 := by kernel_rfl
theorem some_succ {k n : Nat} (h : k < n) : ∃ m, n = m + 1 := ⟨n - 1, by omega⟩
set_option maxRecDepth 100000 in
theorem Try.tsz : ∃ m, Try.prog.types.size = m + 1 := some_succ Try.rowK
theorem keyOf_txn {e i : Int} (we : (Lit.int .i64 e).wf = true) (wi : (Lit.int .i64 i).wf = true) : keyOf Try.prog 55 (keyV e i) = some (keyL e i) := by
  obtain ⟨m, hm⟩ := Try.tsz
  unfold keyOf keyV
  simp only [Try.underlying55]
  rw [if_pos (by simp [Try.ktK, Value.formed, Try.underlying55, Try.cellsK]), hm]
  unfold Program.keyLits
  simp only [Try.underlying55, Value.cells]
  rw [if_pos (by rw [Try.cellsK]; exact ⟨rfl, by simp⟩)]
  simp [Try.cellsI, Program.keyLits, Try.underlying2, we, wi, keyL]
theorem keyL_inj {e i e' i' : Int} (we : (Lit.int .i64 e).wf = true) (wi : (Lit.int .i64 i).wf = true) (we' : (Lit.int .i64 e').wf = true) (wi' : (Lit.int .i64 i').wf = true) (h : keyL e i = keyL e' i') : e = e' ∧ i = i' := by
  have h1 := keyOf_txn we wi
  rw [h] at h1
  have := keyT.inj h1 (keyOf_txn we' wi')
  unfold keyV at this
  simpa using this
def ent (x : TP) : Lit × DataW Value := (keyL x.t.ep x.t.id, .held (.agg x.row))
def MapT (w : World) (m n : Nat) (xs : List TP) : Prop := ∃ L, L.Perm (xs.map ent) ∧ w.ownsMap Try.prog 55 valR m n (.map L)
theorem MapT.later {w w' : World} {m n : Nat} {xs : List TP} (h : MapT w m n xs) (hb : Below w.heap.size w w') : MapT w' m n xs := by
  obtain ⟨L, h0, h1⟩ := h
  exact ⟨L, h0, h1.kept ⟨hb.os, hb.tape, hb.output, hb.size, fun i hi _ => hb.block i hi⟩ (row := none) (by simp)⟩
theorem MapT.lt {w : World} {m n : Nat} {xs : List TP} (h : MapT w m n xs) : m < w.heap.size := by
  obtain ⟨L, _, h1⟩ := h
  exact h1.lt
theorem MapT.only {w w' : World} {m n : Nat} {xs : List TP} {F : Nat → Prop} (h : MapT w m n xs) (ho : Only F w w') (hne : ¬ F m) : MapT w' m n xs := by
  obtain ⟨L, h0, es, clock, hb, F', hs, hD⟩ := h
  exact ⟨L, h0, es, clock, ho.obj hb hne, F', hs, hD⟩
theorem MapT.box {w : World} {m n b : Nat} {xs : List TP} {cs : Array Value} {t : TypeId} {fr : Nat × Nat} (h : MapT w m n xs) (hb : w.heap[b]? = some (.cells cs t fr)) : m ≠ b := fun e => by
  obtain ⟨L, _, es, clock, h1, _⟩ := h
  rw [e, hb] at h1
  cases h1
theorem run_mkmapT (w : World) : (Instr.makeMap 61 none).run Try.prog w = .ok (.map (some w.heap.size)) (w.alloc (.map #[] 0)) := by
  simp [Instr.makeMap, Result.andThen]
theorem MapT.made (w : World) (n : Nat) : MapT (w.alloc (.map #[] 0)) w.heap.size n [] := ⟨[], List.Perm.refl _, (World.ownsMap_made w _ _ _).mono (Nat.zero_le _)⟩
theorem MapT.mono {w : World} {m n n' : Nat} {xs : List TP} (h : MapT w m n xs) (hn : n ≤ n') : MapT w m n' xs := by
  obtain ⟨L, h0, h1⟩ := h
  exact ⟨L, h0, h1.mono hn⟩
theorem MapT.len {w : World} {m n : Nat} {xs : List TP} (h : MapT w m n xs) (ty : TypeId) : (Builtin.len_ #[61] ty #[.map (some m)]).run Try.prog w = .ok (.int .i64 (xs.length : Int)) w := by
  obtain ⟨L, h0, h1⟩ := h
  have h2 := h1.len Try.underlying61 ty
  have e : Maps.size (DataW.map L) = xs.length := by rw [Maps.size_eq, h0.length_eq, List.length_map]
  rw [e] at h2
  exact h2
theorem MapT.tight {w : World} {m n : Nat} {xs : List TP} (h : MapT w m n xs) : MapT w m xs.length xs := by
  obtain ⟨L, h0, es, clock, hb, F, hs, hD⟩ := h
  refine ⟨L, h0, es, clock, hb, F, ?_, hD⟩
  have e : L.length = xs.length := by rw [h0.length_eq, List.length_map]
  have e2 : L = (es.toList.map (Go.WideElems.rg Try.prog 55 valR)).foldr DataW.insert [] := by simpa using hD
  have e3 : L.length = es.size := by rw [e2, length_read]
  omega
theorem MapT.clear {w : World} {m n : Nat} {xs : List TP} (h : MapT w m n xs) (ty : TypeId) : ∃ w', (Builtin.clear_ #[61] ty #[.map (some m)]).run Try.prog w = .ok (.tuple #[]) w' ∧ MapT w' m 0 [] ∧ Only (· = m) w w' := by
  obtain ⟨L, h0, es, clock, hb, F, hs, hD⟩ := h
  have hr : (Builtin.clear_ #[61] ty #[.map (some m)]).run Try.prog w = .ok (.tuple #[]) (setBlock w m (.map #[] clock)) := by
    simp [Builtin.clear_, run_underlying Try.underlying61, MapKept.run_getObj_map hb, MapKept.run_setObj_map _ hb, Result.andThen, setBlock]
  refine ⟨_, hr, ⟨[], List.Perm.refl _, #[], clock, heap_setBlock_same hb _, ⟨by simp, MapKept.stamped_empty _, by simp⟩, Nat.le_refl _, rfl⟩, ?_⟩
  exact Only.of_grown (show w.grownBy (setBlock w m (.map #[] clock)) (some m) from ⟨rfl, rfl, rfl, by simp [setBlock], fun i _ hi => heap_setBlock_other hb _ (fun e => hi (by rw [e]))⟩) (fun k hk => by simpa using hk.symm)
theorem sameK {e i e' i' : Int} (we : (Lit.int .i64 e).wf = true) (wi : (Lit.int .i64 i).wf = true) (we' : (Lit.int .i64 e').wf = true) (wi' : (Lit.int .i64 i').wf = true) : (keyL e i).sameKey (keyL e' i') = decide (e = e' ∧ i = i') := by
  by_cases h : e = e' ∧ i = i'
  · obtain ⟨rfl, rfl⟩ := h
    rw [decide_eq_true ⟨rfl, rfl⟩]
    exact WideAt.sameKey_self (keyT.key (keyOf_txn we wi))
  · rw [decide_eq_false h]
    cases hs : (keyL e i).sameKey (keyL e' i')
    · rfl
    · exact absurd (keyL_inj we wi we' wi' (WideAt.sameKey_eq hs)) h
structure Named (xs : List TP) (reg : Int) : Prop where
  ep : ∀ x ∈ xs, x.t.ep = reg ∧ posI x.t.ep ∧ posI x.t.id
  apart : xs.Pairwise (fun a b => a.t.id ≠ b.t.id)
def findP (xs : List TP) (i : Int) : Option TP := xs.find? (fun x => x.t.id == i)
theorem find_map {xs : List TP} {reg : Int} (hN : Named xs reg) {e i : Int} (he : e = reg) (hp : posI e) (hi : posI i) : (xs.map ent).find? (fun p => p.1.sameKey (keyL e i)) = (findP xs i).map ent := by
  unfold findP
  have hE := hN.ep
  clear hN
  induction xs with
  | nil => rfl
  | cons x xs ih =>
    obtain ⟨h1, h2, h3⟩ := hE x (by simp)
    have hs : (ent x).1.sameKey (keyL e i) = (x.t.id == i) := by
      show (keyL x.t.ep x.t.id).sameKey (keyL e i) = _
      rw [sameK (wf_i h2) (wf_i h3) (wf_i hp) (wf_i hi), h1, he]
      by_cases hq : x.t.id = i <;> simp [hq]
    simp only [List.map_cons, List.find?_cons, hs]
    cases hq : (x.t.id == i)
    · exact ih (fun y hy => hE y (by simp [hy]))
    · rfl
theorem find_perm {α : Type} {p : α → Bool} {l m : List α} (h : l.Perm m) (hu : ∀ a ∈ l, ∀ b ∈ l, p a = true → p b = true → a = b) : l.find? p = m.find? p := by
  cases hl : l.find? p with
  | none =>
    symm
    rw [List.find?_eq_none] at hl ⊢
    exact fun x hx => hl x (h.mem_iff.2 hx)
  | some a =>
    cases hm : m.find? p with
    | none =>
      rw [List.find?_eq_none] at hm
      exact absurd (List.find?_some hl) (hm a (h.mem_iff.1 (List.mem_of_find?_eq_some hl)))
    | some b =>
      rw [hu a (List.mem_of_find?_eq_some hl) b (h.mem_iff.2 (List.mem_of_find?_eq_some hm)) (List.find?_some hl) (List.find?_some hm)]
theorem pair_eq {xs : List TP} (h : xs.Pairwise (fun a b => a.t.id ≠ b.t.id)) {a b : TP} (ha : a ∈ xs) (hb : b ∈ xs) (he : a.t.id = b.t.id) : a = b := by
  induction xs with
  | nil => cases ha
  | cons x xs ih =>
    obtain ⟨h1, h2⟩ := List.pairwise_cons.1 h
    rcases List.mem_cons.1 ha with e1 | ha'
    · rcases List.mem_cons.1 hb with e2 | hb'
      · rw [e1, e2]
      · rw [e1] at he; exact absurd he (h1 b hb')
    · rcases List.mem_cons.1 hb with e2 | hb'
      · rw [e2] at he; exact absurd he.symm (h1 a ha')
      · exact ih h2 ha' hb'
theorem find_L {xs : List TP} {L : List (Lit × DataW Value)} {reg : Int} (hN : Named xs reg) (hL : L.Perm (xs.map ent)) {e i : Int} (he : e = reg) (hp : posI e) (hi : posI i) : L.find? (fun p => p.1.sameKey (keyL e i)) = (findP xs i).map ent := by
  rw [← find_map hN he hp hi]
  refine find_perm hL (fun a ha b hb h1 h2 => ?_)
  obtain ⟨x, hx, rfl⟩ := List.mem_map.1 (hL.mem_iff.1 ha)
  obtain ⟨y, hy, rfl⟩ := List.mem_map.1 (hL.mem_iff.1 hb)
  obtain ⟨_, x2, x3⟩ := hN.ep x hx
  obtain ⟨_, y2, y3⟩ := hN.ep y hy
  have e1 : keyL x.t.ep x.t.id = keyL e i := WideAt.sameKey_eq h1
  have e2 : keyL y.t.ep y.t.id = keyL e i := WideAt.sameKey_eq h2
  have e3 := keyL_inj (wf_i x2) (wf_i x3) (wf_i y2) (wf_i y3) (e1.trans e2.symm)
  rw [pair_eq hN.apart hx hy e3.2]
def zeroRow : Array Value := #[.int .i64 0, .int .i64 0, .int .i64 0, .slice none 0 0, .slice none 0 0]
theorem zeroTxn (w : World) : (zeroValue 34).run Try.prog w = .ok (.agg zeroRow) w := by kernel_rfl
def rowOf (x : Option TP) : Value := match x with | some x => .agg x.row | none => .agg zeroRow
theorem MapT.look {w : World} {m n : Nat} {xs : List TP} {reg : Int} (h : MapT w m n xs) (hN : Named xs reg) {e i : Int} (he : e = reg) (hp : posI e) (hi : posI i) :
    (Instr.lookup 61 (.map (some m)) (keyV e i) true).run Try.prog w = .ok (.tuple #[rowOf (findP xs i), .bool (findP xs i).isSome]) w ∧
    (Instr.lookup 61 (.map (some m)) (keyV e i) false).run Try.prog w = .ok (rowOf (findP xs i)) w := by
  obtain ⟨L, h0, h1⟩ := h
  have hk := keyOf_txn (wf_i hp) (wf_i hi)
  have hf := find_L hN h0 he hp hi
  have hat : (DataW.map L).atKey (keyL e i) (.held (.agg zeroRow)) = .held (rowOf (findP xs i)) := by
    unfold DataW.atKey
    simp only [hf]
    cases findP xs i <;> rfl
  have hh : Maps.has (.map L) (keyL e i) = (findP xs i).isSome := by
    rw [Maps.has_eq]
    have : ∀ l : List (Lit × DataW Value), l.any (fun p => p.1.sameKey (keyL e i)) = (l.find? (fun p => p.1.sameKey (keyL e i))).isSome := by
      intro l
      induction l with
      | nil => rfl
      | cons a l ih =>
        simp only [List.any_cons, List.find?_cons]
        cases hq : a.1.sameKey (keyL e i)
        · simpa [hq] using ih
        · simp
    rw [this, hf]
    cases findP xs i <;> rfl
  constructor
  · obtain ⟨v, ps, hr, hR⟩ := h1.look_ok keyT Try.underlying61 (zeroTxn w) (zd := .held (.agg zeroRow)) (zp := []) rfl hk
    rw [hat] at hR
    simp only [valR, Option.some.injEq, Prod.mk.injEq, DataW.held.injEq] at hR
    rw [hr, hR.1, hh]
  · obtain ⟨v, ps, hr, hR⟩ := h1.lookup keyT Try.underlying61 (zeroTxn w) (zd := .held (.agg zeroRow)) (zp := []) rfl hk
    rw [hat] at hR
    simp only [valR, Option.some.injEq, Prod.mk.injEq, DataW.held.injEq] at hR
    rw [hr, hR.1]
theorem notKey_ent {xs : List TP} {reg : Int} (hN : Named xs reg) {e i : Int} (he : e = reg) (hp : posI e) (hi : posI i) : (xs.map ent).filter (notKey (keyL e i)) = (xs.filter (fun x => x.t.id != i)).map ent := by
  have hE := hN.ep
  clear hN
  induction xs with
  | nil => rfl
  | cons x xs ih =>
    obtain ⟨h1, h2, h3⟩ := hE x (by simp)
    have hs : notKey (keyL e i) (ent x) = (x.t.id != i) := by
      show (!((keyL x.t.ep x.t.id).sameKey (keyL e i))) = _
      rw [sameK (wf_i h2) (wf_i h3) (wf_i hp) (wf_i hi), h1, he]
      by_cases hq : x.t.id = i <;> simp [hq]
    have ih' := ih (fun y hy => hE y (by simp [hy]))
    simp only [List.map_cons, List.filter_cons, hs]
    by_cases hq : (x.t.id != i) = true
    · rw [if_pos hq, if_pos hq, List.map_cons, ih']
    · rw [if_neg hq, if_neg hq, ih']
theorem insert_perm' (x : Lit × DataW Value) : ∀ l : List (Lit × DataW Value), (DataW.insert x l).Perm (x :: l)
  | [] => List.Perm.refl _
  | y :: r => by
    unfold DataW.insert
    split
    · exact List.Perm.refl _
    · exact ((insert_perm' x r).cons y).trans (List.Perm.swap _ _ _)
theorem MapT.drop {w : World} {m n : Nat} {xs : List TP} {reg : Int} (h : MapT w m n xs) (hN : Named xs reg) {e i : Int} (he : e = reg) (hp : posI e) (hi : posI i) (ty : TypeId) :
    ∃ w', (Builtin.delete_ #[61, 55] ty #[.map (some m), keyV e i]).run Try.prog w = .ok (.tuple #[]) w' ∧ MapT w' m n (xs.filter (fun x => x.t.id != i)) ∧ Only (· = m) w w' := by
  obtain ⟨L, h0, h1⟩ := h
  have hk := keyOf_txn (wf_i hp) (wf_i hi)
  obtain ⟨w', hr, h2, h3⟩ := h1.drop keyT Try.underlying61 hk ty
  refine ⟨w', hr, ⟨delKey (keyL e i) L, ?_, h2⟩, Only.of_grown h3.grown (fun k hk => by simpa using hk.symm)⟩
  rw [← notKey_ent hN he hp hi]
  exact h0.filter _
theorem MapT.put {w : World} {m n : Nat} {xs : List TP} {reg : Int} (h : MapT w m n xs) (hN : Named xs reg) {x : TP} (he : x.t.ep = reg) (hp : posI x.t.ep) (hi : posI x.t.id) (hf : findP xs x.t.id = none) (hn : n < maxLen) :
    ∃ w', (Instr.mapUpdate 61 (.map (some m)) (keyV x.t.ep x.t.id) (.agg x.row)).run Try.prog w = .ok () w' ∧ (∀ ys, ys.Perm (x :: xs) → MapT w' m (n + 1) ys) ∧ Only (· = m) w w' := by
  obtain ⟨L, h0, h1⟩ := h
  have hk := keyOf_txn (wf_i hp) (wf_i hi)
  obtain ⟨w', hr, h2, h3⟩ := h1.store keyT Try.underlying61 hn hk (val := .agg x.row) (d := .held (.agg x.row)) (ps := []) rfl
  refine ⟨w', hr, fun ys hy => ⟨putKey (keyL x.t.ep x.t.id) (.held (.agg x.row)) L, ?_, h2⟩, Only.of_grown h3.grown (fun k hk => by simpa using hk.symm)⟩
  have hno : ∀ y ∈ xs, (y.t.id != x.t.id) = true := fun y hy' => by
    have := List.find?_eq_none.1 hf y hy'
    simpa using this
  unfold putKey
  refine (insert_perm' _ _).trans (List.Perm.trans ?_ (hy.map ent).symm)
  refine List.Perm.cons _ ((h0.filter _).trans ?_)
  rw [notKey_ent hN he hp hi, List.filter_eq_self.2 hno]
end Go.Proofs.Ytboofnkajjnmeaa
