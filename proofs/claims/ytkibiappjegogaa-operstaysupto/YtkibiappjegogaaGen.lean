/-
  Which inputs an operator may have: the program's inputsFit. The conditions: lengths.
-/
import Derived.Test.YtkibiappjegogaaGfr
import Derived.Test.YtkibiappjegogaaQui
import Derived.Deep.Cut
import Derived.Deep.CutBlock
import Derived.BigRegion
import Derived.WalkMore
import Derived.Deep.RegionHeld3
namespace Go.Proofs.Ytkibiappjegogaa.Op
open Go.RowKit

def leastC (kd : Int) : Int := if kd = 1 then 0 else if kd = 8 then 2 else 1
def mostC (kd : Int) : Int := if kd = 1 then 0 else if kd = 8 then 4 else 1
/-- An input comes from a port of one of those ahead. -/
def edgeC (ahead : List GO) (e : GE) : Bool := decide (0 ≤ e.f ∧ e.f ≤ (ahead.length : Int) - 1) && decide (0 ≤ e.p ∧ e.p ≤ portsC (ahead[e.f.toNat]!).kind (ahead[e.f.toNat]!).arg - 1)
def insC (o : GO) (ahead : List GO) : Bool := decide (leastC o.kind ≤ (o.ins.length : Int) ∧ (o.ins.length : Int) ≤ mostC o.kind) && o.ins.all (edgeC ahead)
theorem portsC_le (kd ar : Int) : 0 ≤ portsC kd ar ∧ portsC kd ar ≤ 4 := by
  unfold portsC
  split
  · split <;> omega
  · split <;> omega
theorem getO (os : List OV) {k : Nat} (hk : k < os.length) : (os.map OV.o)[k]! = (os[k]!).o := by
  rw [getElem!_pos (os.map OV.o) k (by simpa using hk), getElem!_pos os k hk]
  simp
theorem all_snoc {α : Type} {q : α → Bool} {l : List α} {k : Nat} (hk : k < l.length) [Inhabited α] : (l.take (k + 1)).all q = ((l.take k).all q && q (l[k]!)) := by
  rw [List.take_succ_eq_append_getElem hk, List.all_append, getElem!_pos l k hk]
  simp
theorem all_no {α : Type} {q : α → Bool} {l : List α} {k : Nat} (hk : k < l.length) [Inhabited α] (h : q (l[k]!) = false) : l.all q = false := by
  rw [List.all_eq_false]
  exact ⟨l[k]!, by rw [getElem!_pos l k hk]; exact List.getElem_mem _, by rw [h]; exact Bool.false_ne_true⟩

end Go.Proofs.Ytkibiappjegogaa.Op
/-
  Which ports are taken: the program's take. The conditions: the inputs are of ports that may be.
-/
namespace Go.Proofs.Ytkibiappjegogaa.Op
open Go.RowKit

theorem heap_set_same {W : World} {b : Nat} {cs : Array Value} {t : TypeId} (h : W.heap[b]? = some (.cells cs t (0, 0))) (o : Nat) (v : Value) : (W.setCell ⟨b, o, none⟩ v).heap[b]? = some (.cells (cs.setIfInBounds o v) t (0, 0)) := by
  simp only [World.setCell]
  rw [Array.getElem?_modify, if_pos rfl, h]
  rfl
/-- What is taken behind a list, or that something of it was. -/
def takeC (T : List GE) : List GE → Bool × List GE
  | [] => (true, T)
  | e :: es => if e ∈ T then (false, T) else takeC (e :: T) es
def okE (e : GE) : Prop := 0 ≤ e.f ∧ e.f < 24 ∧ 0 ≤ e.p ∧ e.p < 4
theorem takeC_snoc (T : List GE) (es : List GE) (e : GE) : (takeC T (es ++ [e])) = (if (takeC T es).1 = true then takeC (takeC T es).2 [e] else takeC T es) := by
  induction es generalizing T with
  | nil => rw [if_pos (show (takeC T []).1 = true from rfl)]; rfl
  | cons a es ih =>
    simp only [List.cons_append, takeC]
    by_cases h : a ∈ T
    · simp [h]
    · simp only [h, if_false]
      exact ih (a :: T)
theorem takeC_more {T : List GE} {es : List GE} {k : Nat} (h : (takeC T (es.take k)).1 = false) : takeC T es = takeC T (es.take k) := by
  induction es generalizing T k with
  | nil => simp
  | cons a es ih =>
    cases k with
    | zero => simp [takeC] at h
    | succ k =>
      simp only [List.take_succ_cons, takeC] at h ⊢
      by_cases h' : a ∈ T
      · simp [h']
      · simp only [h', if_false] at h ⊢
        exact ih h

end Go.Proofs.Ytkibiappjegogaa.Op
/-
  The first operator with a fault, seen with those ahead of it: the program's opFault. The conditions: lengths, and the number of partitions.
-/
namespace Go.Proofs.Ytkibiappjegogaa.Op
open Go.RowKit

def oneC (parts : Int) (o : GO) (ahead : List GO) (T : List GE) : Int × List GE :=
  if 1 ≤ o.kind ∧ o.kind ≤ 9 then
    if fieldsC o.kind o.part o.fn o.arg parts = true then
      if insC o ahead = true then (if (takeC T o.ins).1 = true then (0, (takeC T o.ins).2) else (53, (takeC T o.ins).2)) else (52, T)
    else (51, T)
  else (50, T)
structure SS where
  bad : Option (Nat × Int)
  T : List GE
  a : List GO
def stepS (parts : Int) (s : SS) (o : GO) : SS :=
  match s.bad with
  | some _ => s
  | none => if (oneC parts o s.a s.T).1 = 0 then ⟨none, (oneC parts o s.a s.T).2, s.a ++ [o]⟩ else ⟨some (s.a.length, (oneC parts o s.a s.T).1), (oneC parts o s.a s.T).2, s.a⟩
def scanS (parts : Int) (os : List GO) : SS := os.foldl (stepS parts) ⟨none, [], []⟩
theorem scanS_snoc (parts : Int) (os : List GO) (o : GO) : scanS parts (os ++ [o]) = stepS parts (scanS parts os) o := by simp [scanS]
theorem scanS_stay {parts : Int} {os : List GO} {x : Nat × Int} : ∀ {s : SS}, s.bad = some x → (os.foldl (stepS parts) s) = s := by
  induction os with
  | nil => intro s _; rfl
  | cons o os ih =>
    intro s h
    have e : stepS parts s o = s := by unfold stepS; rw [h]
    rw [List.foldl_cons, e]
    exact ih h
theorem scanS_more {parts : Int} {os : List GO} {k : Nat} {x : Nat × Int} (h : (scanS parts (os.take k)).bad = some x) : scanS parts os = scanS parts (os.take k) := by
  have e : os = os.take k ++ os.drop k := (List.take_append_drop k os).symm
  have : scanS parts os = (os.drop k).foldl (stepS parts) (scanS parts (os.take k)) := by
    unfold scanS
    conv => lhs; rw [e]
    rw [List.foldl_append]
  rw [this, scanS_stay h]
theorem scanS_from (parts : Int) : ∀ (os : List GO) (s : SS), (os.foldl (stepS parts) s).bad = none → (os.foldl (stepS parts) s).a = s.a ++ os
  | [], s, _ => by simp
  | o :: os, s, h => by
    rw [List.foldl_cons] at h ⊢
    have hb : (stepS parts s o).bad = none := by
      cases hb : (stepS parts s o).bad with
      | none => rfl
      | some x => rw [scanS_stay hb, hb] at h; cases h
    rw [scanS_from parts os _ h]
    unfold stepS at hb ⊢
    cases hs : s.bad with
    | some x => rw [hs] at hb; simp only at hb; rw [hs] at hb; cases hb
    | none =>
      rw [hs] at hb
      simp only at hb ⊢
      by_cases h0 : (oneC parts o s.a s.T).1 = 0
      · rw [if_pos h0]; simp
      · rw [if_neg h0] at hb; cases hb
theorem scanS_ahead {parts : Int} {os : List GO} (h : (scanS parts os).bad = none) : (scanS parts os).a = os := by
  have := scanS_from parts os ⟨none, [], []⟩ h
  exact this
def faultN (s : SS) : Int := match s.bad with | none => 0 | some x => (x.1 : Int)
def faultE (s : SS) : Int := match s.bad with | none => 0 | some x => x.2

theorem ERow.lt {W : World} {p : Option Addr} {cap : Nat} {es : List GE} (h : ERow W p cap es) {i : Nat} (hi : i < es.length) {g o : Nat} (e : p = some ⟨g, o, none⟩) : g < W.heap.size := by
  obtain ⟨g', o', e', h1, _⟩ := h.cell i hi
  rw [e] at e'
  simp at e'
  obtain ⟨rfl, rfl⟩ := e'
  obtain ⟨ob, hob, _⟩ := cells_of_cell h1
  exact (Array.getElem?_eq_some_iff.1 hob).1
theorem GRow.take {W : World} {p : Option Addr} {cap : Nat} {os : List OV} (h : GRow W p cap os) {k : Nat} (hk : k ≤ os.length) : GRow W p cap (os.take k) := by
  have hl : (os.take k).length = k := by simp; omega
  refine ⟨by have := h.le; omega, h.top, fun i hi => ?_, fun x hx => h.ok x (List.mem_of_mem_take hx)⟩
  obtain ⟨g, o, e, hc⟩ := h.cell i (by omega)
  refine ⟨g, o, e, ?_⟩
  have : (os.take k)[i]! = os[i]! := by rw [getElem!_pos (os.take k) i hi, getElem!_pos os i (by omega), List.getElem_take]
  rw [this]
  exact hc
theorem insC_ok {o : GO} {ahead : List GO} (h : insC o ahead = true) (hl : ahead.length ≤ 24) : ∀ e ∈ o.ins, okE e := by
  intro e he
  unfold insC at h
  rw [Bool.and_eq_true, List.all_eq_true] at h
  have := h.2 e he
  unfold edgeC at this
  simp only [Bool.and_eq_true, decide_eq_true_eq] at this
  have hp := portsC_le (ahead[e.f.toNat]!).kind (ahead[e.f.toNat]!).arg
  exact ⟨this.1.1, by omega, this.2.1, by omega⟩

theorem below_box {W W' : World} {b : Nat} {o : Obj} (hb : Below W.heap.size W W') (h : W.heap[b]? = some o) : W'.heap[b]? = some o :=
  (hb.block b (Array.getElem?_eq_some_iff.1 h).1).trans h
theorem scan_one {parts : Int} {os : List GO} {k : Nat} (hk : k < os.length) (h1 : (scanS parts (os.take k)).bad = none) : scanS parts (os.take (k + 1)) = (if (oneC parts (os[k]!) (os.take k) (scanS parts (os.take k)).T).1 = 0 then ⟨none, (oneC parts (os[k]!) (os.take k) (scanS parts (os.take k)).T).2, os.take k ++ [os[k]!]⟩ else ⟨some (k, (oneC parts (os[k]!) (os.take k) (scanS parts (os.take k)).T).1), (oneC parts (os[k]!) (os.take k) (scanS parts (os.take k)).T).2, os.take k⟩) := by
  have e1 : os.take (k + 1) = os.take k ++ [os[k]!] := by rw [List.take_succ_eq_append_getElem hk, getElem!_pos os k hk]
  have e2 := scanS_ahead h1
  have e3 : (os.take k).length = k := by simp; omega
  rw [e1, scanS_snoc]
  unfold stepS
  rw [h1, e2]
  simp only [e3]
theorem scan_hit {parts : Int} {os : List GO} {k : Nat} (hk : k < os.length) {T : List GE} (h1 : (scanS parts (os.take k)).bad = none) (h2 : (scanS parts (os.take k)).T = T) {e : Int} (he : (oneC parts (os[k]!) (os.take k) T).1 = e) (h0 : e ≠ 0) : faultN (scanS parts os) = (k : Int) ∧ faultE (scanS parts os) = e := by
  have h3 := scan_one hk h1
  rw [h2, he, if_neg h0] at h3
  have h4 : (scanS parts (os.take (k + 1))).bad = some (k, e) := by rw [h3]
  rw [scanS_more h4]
  unfold faultN faultE
  rw [h4]
  exact ⟨rfl, rfl⟩
theorem scan_next {parts : Int} {os : List GO} {k : Nat} (hk : k < os.length) {T T' : List GE} (h1 : (scanS parts (os.take k)).bad = none) (h2 : (scanS parts (os.take k)).T = T) (he : oneC parts (os[k]!) (os.take k) T = (0, T')) : (scanS parts (os.take (k + 1))).bad = none ∧ (scanS parts (os.take (k + 1))).T = T' := by
  have h3 := scan_one hk h1
  rw [h2, he, if_pos rfl] at h3
  rw [h3]
  exact ⟨rfl, rfl⟩
end Go.Proofs.Ytkibiappjegogaa.Op
/-
  Each partition has one source, and there is one sink: the program's endsFault. The conditions: lengths, and that sources' partitions may be.
-/
namespace Go.Proofs.Ytkibiappjegogaa.Op
open Go.RowKit

def srcN (os : List GO) (p : Nat) : Nat := (os.filter (fun o => o.kind == 1 && o.part == (p : Int))).length
def sinkN (os : List GO) : Nat := (os.filter (fun o => o.kind == 9)).length
def endsC (parts : Nat) (os : List GO) : Int := if (List.range parts).all (fun p => srcN os p == 1) = true then (if sinkN os = 1 then 0 else 56) else 55
theorem srcN_snoc (os : List GO) (o : GO) (p : Nat) : srcN (os ++ [o]) p = srcN os p + (if o.kind = 1 ∧ o.part = (p : Int) then 1 else 0) := by
  unfold srcN
  rw [List.filter_append, List.length_append]
  congr 1
  by_cases h : o.kind = 1 ∧ o.part = (p : Int)
  · rw [if_pos h, List.filter_cons_of_pos (by simp [h])]; rfl
  · rw [if_neg h, List.filter_cons_of_neg (by simpa using h)]; rfl
theorem sinkN_snoc (os : List GO) (o : GO) : sinkN (os ++ [o]) = sinkN os + (if o.kind = 9 then 1 else 0) := by
  unfold sinkN
  rw [List.filter_append, List.length_append]
  congr 1
  by_cases h : o.kind = 9
  · rw [if_pos h, List.filter_cons_of_pos (by simp [h])]; rfl
  · rw [if_neg h, List.filter_cons_of_neg (by simpa using h)]; rfl
theorem srcN_le (os : List GO) (p : Nat) : srcN os p ≤ os.length := List.length_filter_le _ _
theorem sinkN_le (os : List GO) : sinkN os ≤ os.length := List.length_filter_le _ _
end Go.Proofs.Ytkibiappjegogaa.Op
