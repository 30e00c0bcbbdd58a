/-
  Graphs, plainly and as they lie in memory; how many ports an operator has. No conditions.
-/
import Derived.Test.YtlfipmieaabagaaGreatMem
import Derived.Test.YtlfipmieaabagaaGreatOnl
namespace Go.Proofs.YtlfipmieaabagaaGreat
open Go.RowKit

structure GE where
  f : Int
  p : Int
  deriving DecidableEq
structure GO where
  kind : Int
  part : Int
  fn : Int
  arg : Int
  ins : List GE
structure OV where
  o : GO
  ip : Option Addr
  ic : Nat
instance : Inhabited GE := ⟨⟨0, 0⟩⟩
instance : Inhabited GO := ⟨⟨0, 0, 0, 0, []⟩⟩
instance : Inhabited OV := ⟨⟨default, none, 0⟩⟩
def OV.cells (x : OV) : List Value := [.int .i64 x.o.kind, .int .i64 x.o.part, .int .i64 x.o.fn, .int .i64 x.o.arg, .slice x.ip x.o.ins.length x.ic]
def OV.val (x : OV) : Value := .agg #[.int .i64 x.o.kind, .int .i64 x.o.part, .int .i64 x.o.fn, .int .i64 x.o.arg, .slice x.ip x.o.ins.length x.ic]
/-- A list of inputs as it lies. -/
structure ERow (W : World) (p : Option Addr) (cap : Nat) (es : List GE) : Prop where
  le : es.length ≤ cap
  top : cap ≤ 9223372036854775807
  cell : ∀ i, i < es.length → ∃ g o, p = some ⟨g, o, none⟩ ∧ W.cell? ⟨g, o + i * 2, none⟩ = some (.int .i64 (es[i]!).f) ∧ W.cell? ⟨g, o + i * 2 + 1, none⟩ = some (.int .i64 (es[i]!).p)
def OV.ok (x : OV) (W : World) : Prop := ERow W x.ip x.ic x.o.ins
/-- A list of operators as it lies. -/
structure GRow (W : World) (p : Option Addr) (cap : Nat) (os : List OV) : Prop where
  le : os.length ≤ cap
  top : cap ≤ 9223372036854775807
  cell : ∀ i, i < os.length → ∃ g o, p = some ⟨g, o, none⟩ ∧ ∀ j, j < 5 → W.cell? ⟨g, o + i * 5 + j, none⟩ = (os[i]!).cells[j]?
  ok : ∀ x ∈ os, x.ok W
theorem ERow.below {W W' : World} {p : Option Addr} {cap : Nat} {es : List GE} (h : ERow W p cap es) (hb : Below W.heap.size W W') : ERow W' p cap es :=
  ⟨h.le, h.top, fun i hi => by
    obtain ⟨g, o, e, h1, h2⟩ := h.cell i hi
    exact ⟨g, o, e, cell_later hb h1, cell_later hb h2⟩⟩
theorem cell5 {W W' : World} {g o : Nat} {x : OV} (hb : Below W.heap.size W W') {j : Nat} (hj : j < 5) (h : W.cell? ⟨g, o + j, none⟩ = x.cells[j]?) : W'.cell? ⟨g, o + j, none⟩ = x.cells[j]? := by
  have hl : j < x.cells.length := hj
  rw [List.getElem?_eq_getElem hl] at h ⊢
  exact cell_later hb h
theorem GRow.below {W W' : World} {p : Option Addr} {cap : Nat} {os : List OV} (h : GRow W p cap os) (hb : Below W.heap.size W W') : GRow W' p cap os :=
  ⟨h.le, h.top, fun i hi => by
    obtain ⟨g, o, e, h1⟩ := h.cell i hi
    exact ⟨g, o, e, fun j hj => cell5 hb hj (h1 j hj)⟩, fun x hx => (h.ok x hx).below hb⟩

set_option maxRecDepth 100000 in
theorem within_any {W : World} {n a b : Int} : Calls Tryz.prog 99 #[.int .i64 n, .int .i64 a, .int .i64 b] W fun e w' => e = .returned (.bool (decide (a ≤ n) && decide (n ≤ b))) ∧ w' = W := by
  by_cases h : a ≤ n
  · have h1 : decide (n ≥ a) = true := decide_eq_true h
    go_enter Tryz.func99, Tryz.ntmps99
    go_wp2
    go_ret
    exact ⟨by simp [h], rfl⟩
  · have h1 : decide (n ≥ a) = false := decide_eq_false h
    go_enter Tryz.func99, Tryz.ntmps99
    go_wp2
    go_ret
    exact ⟨by simp, rfl⟩
set_option maxRecDepth 100000 in
theorem within64_any {W : World} {n a b : Int} : Calls Tryz.prog 103 #[.int .i64 n, .int .i64 a, .int .i64 b] W fun e w' => e = .returned (.bool (decide (a ≤ n) && decide (n ≤ b))) ∧ w' = W := by
  by_cases h : a ≤ n
  · have h1 : decide (n ≥ a) = true := decide_eq_true h
    go_enter Tryz.func103, Tryz.ntmps103
    go_wp2
    go_ret
    exact ⟨by simp [h], rfl⟩
  · have h1 : decide (n ≥ a) = false := decide_eq_false h
    go_enter Tryz.func103, Tryz.ntmps103
    go_wp2
    go_ret
    exact ⟨by simp, rfl⟩

def portsC (kd ar : Int) : Int := if kd = 7 then (if 2 ≤ ar ∧ ar ≤ 4 then ar else 0) else if 1 ≤ kd ∧ kd ≤ 8 then 1 else 0
theorem ne_eq {a b : Int} (h : a ≠ b) : (a == b) = false := by simpa using h

set_option maxRecDepth 100000 in
set_option maxHeartbeats 2000000 in
theorem ports_any {W : World} {kd pt fn ar : Int} {ip : Option Addr} {n ic : Nat} :
    Calls Tryz.prog 68 #[.agg #[.int .i64 kd, .int .i64 pt, .int .i64 fn, .int .i64 ar, .slice ip n ic]] W fun e w' => e = .returned (.int .i64 (portsC kd ar)) ∧ Below W.heap.size W w' := by
  by_cases h7 : kd = 7
  · subst h7
    have HW := hide (within64_any (W := W.alloc (.cells #[.int .i64 7, .int .i64 pt, .int .i64 fn, .int .i64 ar, .slice ip n ic] 95)) (n := ar) (a := 2) (b := 4))
    by_cases ha : 2 ≤ ar ∧ ar ≤ 4
    · have e : (decide (2 ≤ ar) && decide (ar ≤ 4)) = true := by simp [ha]
      rw [e] at HW
      have HP : Hid (portsC 7 ar = ar) := hide (by simp [portsC, ha])
      clear ha e
      go_enter Tryz.func68, Tryz.ntmps68
      go_wp2_with fail
      refine HW.out.mono ?_
      rintro _ _ ⟨rfl, rfl⟩
      go_wp2
      go_ret
      exact ⟨by rw [HP.out]; rfl, alloc_below _ _⟩
    · have e : (decide (2 ≤ ar) && decide (ar ≤ 4)) = false := by
        cases h : (decide (2 ≤ ar) && decide (ar ≤ 4)) with
        | false => rfl
        | true => exact absurd (by simpa using h) ha
      rw [e] at HW
      have HP : Hid (portsC 7 ar = 0) := hide (by simp [portsC, ha])
      clear ha e
      go_enter Tryz.func68, Tryz.ntmps68
      go_wp2_with fail
      refine HW.out.mono ?_
      rintro _ _ ⟨rfl, rfl⟩
      go_wp2
      go_ret
      exact ⟨by rw [HP.out]; rfl, alloc_below _ _⟩
  · by_cases h18 : 1 ≤ kd ∧ kd ≤ 8
    · have HP : Hid (portsC kd ar = 1) := hide (by simp [portsC, h7, h18])
      rcases (by omega : kd = 1 ∨ kd = 2 ∨ kd = 3 ∨ kd = 4 ∨ kd = 5 ∨ kd = 6 ∨ kd = 8) with rfl | rfl | rfl | rfl | rfl | rfl | rfl
      all_goals
        clear h7 h18
        go_enter Tryz.func68, Tryz.ntmps68
        go_wp2
        go_ret
        exact ⟨by rw [HP.out]; rfl, alloc_below _ _⟩
    · have HP : Hid (portsC kd ar = 0) := hide (by simp [portsC, h7, h18])
      have e1 := ne_eq (a := kd) (b := 1) (by omega)
      have e2 := ne_eq (a := kd) (b := 2) (by omega)
      have e3 := ne_eq (a := kd) (b := 3) (by omega)
      have e4 := ne_eq (a := kd) (b := 4) (by omega)
      have e5 := ne_eq (a := kd) (b := 5) (by omega)
      have e6 := ne_eq (a := kd) (b := 6) (by omega)
      have e7 := ne_eq (a := kd) (b := 7) (by omega)
      have e8 := ne_eq (a := kd) (b := 8) (by omega)
      clear h7 h18
      go_enter Tryz.func68, Tryz.ntmps68
      go_wp2
      go_ret
      exact ⟨by rw [HP.out]; rfl, alloc_below _ _⟩
end Go.Proofs.YtlfipmieaabagaaGreat
