/-
  Graphs, plainly and as they lie in memory; how many ports an operator has. No conditions.
-/
import Derived.Test.YtifldnpccgbnkaaGreatMem
import Derived.Test.YtifldnpccgbnkaaGreatOnl
namespace Go.Proofs.YtifldnpccgbnkaaGreat
open Go.RowKit

structure GE where
  f : Int
  p : Int
  deriving DecidableEq
structure GO where
  kind : Int
  part : Int
  fn : Int
  arg : Int
  ins : List GE
structure OV where
  o : GO
  ip : Option Addr
  ic : Nat
instance : Inhabited GE := ⟨⟨0, 0⟩⟩
instance : Inhabited GO := ⟨⟨0, 0, 0, 0, []⟩⟩
instance : Inhabited OV := ⟨⟨default, none, 0⟩⟩
def OV.cells (x : OV) : List Value := [.int .i64 x.o.kind, .int .i64 x.o.part, .int .i64 x.o.fn, .int .i64 x.o.arg, .slice x.ip x.o.ins.length x.ic]
def OV.val (x : OV) : Value := .agg #[.int .i64 x.o.kind, .int .i64 x.o.part, .int .i64 x.o.fn, .int .i64 x.o.arg, .slice x.ip x.o.ins.length x.ic]
/-- A list of inputs as it lies. -/
structure ERow (W : World) (p : Option Addr) (cap : Nat) (es : List GE) : Prop where
  le : es.length ≤ cap
  top : cap ≤ 9223372036854775807
  cell : ∀ i, i < es.length → ∃ g o, p = some ⟨g, o, none⟩ ∧ W.cell? ⟨g, o + i * 2, none⟩ = some (.int .i64 (es[i]!).f) ∧ W.cell? ⟨g, o + i * 2 + 1, none⟩ = some (.int .i64 (es[i]!).p)
def OV.ok (x : OV) (W : World) : Prop := ERow W x.ip x.ic x.o.ins
/-- A list of operators as it lies. -/
structure GRow (W : World) (p : Option Addr) (cap : Nat) (os : List OV) : Prop where
  le : os.length ≤ cap
  top : cap ≤ 9223372036854775807
  cell : ∀ i, i < os.length → ∃ g o, p = some ⟨g, o, none⟩ ∧ ∀ j, j < 5 → W.cell? ⟨g, o + i * 5 + j, none⟩ = (os[i]!).cells[j]?
  ok : ∀ x ∈ os, x.ok W
theorem ERow.below {W W' : World} {p : Option Addr} {cap : Nat} {es : List GE} (h : ERow W p cap es) (hb : Below W.heap.size W W') : ERow W' p cap es :=
  ⟨h.le, h.top, fun i hi => by
    obtain ⟨g, o, e, h1, h2⟩ := h.cell i hi
    exact ⟨g, o, e, cell_later hb h1, cell_later hb h2⟩⟩
theorem cell5 {W W' : World} {g o : Nat} {x : OV} (hb : Below W.heap.size W W') {j : Nat} (hj : j < 5) (h : W.cell? ⟨g, o + j, none⟩ = x.cells[j]?) : W'.cell? ⟨g, o + j, none⟩ = x.cells[j]? := by
  have hl : j < x.cells.length := hj
  rw [List.getElem?_eq_getElem hl] at h ⊢
  exact cell_later hb h
theorem GRow.below {W W' : World} {p : Option Addr} {cap : Nat} {os : List OV} (h : GRow W p cap os) (hb : Below W.heap.size W W') : GRow W' p cap os :=
  ⟨h.le, h.top, fun i hi => by
    obtain ⟨g, o, e, h1⟩ := h.cell i hi
    exact ⟨g, o, e, fun j hj => cell5 hb hj (h1 j hj)⟩, fun x hx => (h.ok x hx).below hb⟩

set_option maxRecDepth 100000 in
theorem within_any {W : World} {n a b : Int} : Calls Tryz.prog 35 #[.int .i64 n, .int .i64 a, .int .i64 b] W fun e w' => e = .returned (.bool (decide (a ≤ n) && decide (n ≤ b))) ∧ w' = W := by
  by_cases h : a ≤ n
  · have h1 : decide (n ≥ a) = true := decide_eq_true h
    go_enter Tryz.func35, Tryz.ntmps35
    go_wp2
    go_ret
    exact ⟨by simp [h], rfl⟩
  · have h1 : decide (n ≥ a) = false := decide_eq_false h
    go_enter Tryz.func35, Tryz.ntmps35
    go_wp2
    go_ret
    exact ⟨by simp, rfl⟩
set_option maxRecDepth 100000 in
theorem within64_any {W : World} {n a b : Int} : Calls Tryz.prog 69 #[.int .i64 n, .int .i64 a, .int .i64 b] W fun e w' => e = .returned (.bool (decide (a ≤ n) && decide (n ≤ b))) ∧ w' = W := by
  by_cases h : a ≤ n
  · have h1 : decide (n ≥ a) = true := decide_eq_true h
    go_enter Tryz.func69, Tryz.ntmps69
    go_wp2
    go_ret
    exact ⟨by simp [h], rfl⟩
  · have h1 : decide (n ≥ a) = false := decide_eq_false h
    go_enter Tryz.func69, Tryz.ntmps69
    go_wp2
    go_ret
    exact ⟨by simp, rfl⟩

def portsC (kd ar : Int) : Int := if kd = 7 then (if 2 ≤ ar ∧ ar ≤ 4 then ar else 0) else if 1 ≤ kd ∧ kd ≤ 8 then 1 else 0
theorem ne_eq {a b : Int} (h : a ≠ b) : (a == b) = false := by simpa using h

set_option maxRecDepth 100000 in
set_option maxHeartbeats 2000000 in
theorem ports_any {W : World} {kd pt fn ar : Int} {ip : Option Addr} {n ic : Nat} :
    Calls Tryz.prog 44 #[.agg #[.int .i64 kd, .int .i64 pt, .int .i64 fn, .int .i64 ar, .slice ip n ic]] W fun e w' => e = .returned (.int .i64 (portsC kd ar)) ∧ Below W.heap.size W w' := by
  by_cases h7 : kd = 7
  · subst h7
    have HW := hide (within64_any (W := W.alloc (.cells #[.int .i64 7, .int .i64 pt, .int .i64 fn, .int .i64 ar, .slice ip n ic] 55)) (n := ar) (a := 2) (b := 4))
    by_cases ha : 2 ≤ ar ∧ ar ≤ 4
    · have e : (decide (2 ≤ ar) && decide (ar ≤ 4)) = true := by simp [ha]
      rw [e] at HW
      have HP : Hid (portsC 7 ar = ar) := hide (by simp [portsC, ha])
      clear ha e
      go_enter Tryz.func44, Tryz.ntmps44
      go_wp2_with fail
      refine HW.out.mono ?_
      rintro _ _ ⟨rfl, rfl⟩
      go_wp2
      go_ret
      exact ⟨by rw [HP.out]; rfl, alloc_below _ _⟩
    · have e : (decide (2 ≤ ar) && decide (ar ≤ 4)) = false := by
        cases h : (decide (2 ≤ ar) && decide (ar ≤ 4)) with
        | false => rfl
        | true => exact absurd (by simpa using h) ha
      rw [e] at HW
      have HP : Hid (portsC 7 ar = 0) := hide (by simp [portsC, ha])
      clear ha e
      go_enter Tryz.func44, Tryz.ntmps44
      go_wp2_with fail
      refine HW.out.mono ?_
      rintro _ _ ⟨rfl, rfl⟩
      go_wp2
      go_ret
      exact ⟨by rw [HP.out]; rfl, alloc_below _ _⟩
  · by_cases h18 : 1 ≤ kd ∧ kd ≤ 8
    · have HP : Hid (portsC kd ar = 1) := hide (by simp [portsC, h7, h18])
      rcases (by omega : kd = 1 ∨ kd = 2 ∨ kd = 3 ∨ kd = 4 ∨ kd = 5 ∨ kd = 6 ∨ kd = 8) with rfl | rfl | rfl | rfl | rfl | rfl | rfl
      all_goals
        clear h7 h18
        go_enter Tryz.func44, Tryz.ntmps44
        go_wp2
        go_ret
        exact ⟨by rw [HP.out]; rfl, alloc_below _ _⟩
    · have HP : Hid (portsC kd ar = 0) := hide (by simp [portsC, h7, h18])
      have e1 := ne_eq (a := kd) (b := 1) (by omega)
      have e2 := ne_eq (a := kd) (b := 2) (by omega)
      have e3 := ne_eq (a := kd) (b := 3) (by omega)
      have e4 := ne_eq (a := kd) (b := 4) (by omega)
      have e5 := ne_eq (a := kd) (b := 5) (by omega)
      have e6 := ne_eq (a := kd) (b := 6) (by omega)
      have e7 := ne_eq (a := kd) (b := 7) (by omega)
      have e8 := ne_eq (a := kd) (b := 8) (by omega)
      clear h7 h18
      go_enter Tryz.func44, Tryz.ntmps44
      go_wp2
      go_ret
      exact ⟨by rw [HP.out]; rfl, alloc_below _ _⟩
end Go.Proofs.YtifldnpccgbnkaaGreat

/-
  Which fields an operator may have: the program's functionFits, keyFits, fieldsFit; the reference's Ports and fields. No conditions but on the number of partitions.
-/
namespace Go.Proofs.YtifldnpccgbnkaaGreat
open Go.RowKit

def keyC (fn ar : Int) : Bool := if fn = 1 then ar == 0 else if fn = 2 ∨ fn = 3 then decide (1 ≤ ar) else fn == 4
def fitC (kd fn ar : Int) : Bool :=
  if kd = 2 ∨ kd = 3 then decide (1 ≤ fn ∧ fn ≤ 4 ∧ (fn ≠ 3 ∨ ar = 0))
  else if kd = 4 then keyC fn ar
  else if kd = 5 then decide (1 ≤ fn ∧ fn ≤ 5 ∧ ar = 0)
  else if kd = 6 then decide (1 ≤ fn ∧ fn ≤ 5 ∧ 1 ≤ ar ∧ ar ≤ 64)
  else if kd = 7 then decide (fn = 0 ∧ 2 ≤ ar ∧ ar ≤ 4)
  else decide (fn = 0 ∧ ar = 0)
def fieldsC (kd pt fn ar parts : Int) : Bool :=
  if kd = 1 then decide (0 ≤ pt ∧ pt < parts ∧ fn = 0 ∧ ar = 0) else pt == 0 && fitC kd fn ar
theorem bt {p q : Prop} [Decidable p] [Decidable q] (hp : p) (hq : q) : (decide p && decide q) = true := by simp [hp, hq]
theorem bf {p q : Prop} [Decidable p] [Decidable q] (h : ¬ (p ∧ q)) : (decide p && decide q) = false := by
  cases hb : (decide p && decide q) with
  | false => rfl
  | true => exact absurd (by simpa using hb) h

set_option maxRecDepth 100000 in
set_option maxHeartbeats 2000000 in
theorem key_any {W : World} {fn ar : Int} : Calls Tryz.prog 90 #[.int .i64 fn, .int .i64 ar] W fun e w' => e = .returned (.bool (keyC fn ar)) ∧ w' = W := by
  by_cases h1 : fn = 1
  · subst h1
    go_enter Tryz.func90, Tryz.ntmps90
    go_wp2
    go_ret
    exact ⟨by simp [keyC], rfl⟩
  by_cases h2 : fn = 2
  · subst h2
    go_enter Tryz.func90, Tryz.ntmps90
    go_wp2
    go_ret
    exact ⟨by simp [keyC], rfl⟩
  by_cases h3 : fn = 3
  · subst h3
    go_enter Tryz.func90, Tryz.ntmps90
    go_wp2
    go_ret
    exact ⟨by simp [keyC], rfl⟩
  · have e1 := ne_eq h1
    have e2 := ne_eq h2
    have e3 := ne_eq h3
    go_enter Tryz.func90, Tryz.ntmps90
    go_wp2
    go_ret
    exact ⟨by simp [keyC, h1, h2, h3], rfl⟩

set_option maxRecDepth 100000 in
set_option maxHeartbeats 4000000 in
theorem fit_any {W : World} {kd pt fn ar : Int} {ip : Option Addr} {n ic : Nat} :
    Calls Tryz.prog 71 #[.agg #[.int .i64 kd, .int .i64 pt, .int .i64 fn, .int .i64 ar, .slice ip n ic]] W fun e w' => e = .returned (.bool (fitC kd fn ar)) ∧ Below W.heap.size W w' := by
  by_cases k2 : kd = 2
  · subst k2
    by_cases hw : 1 ≤ fn ∧ fn ≤ 4
    · by_cases h3 : fn = 3
      · subst h3
        by_cases ha : ar = 0
        · subst ha
          have HP : Hid (fitC 2 3 0 = true) := hide (by decide)
          clear hw
          go_enter Tryz.func71, Tryz.ntmps71
          go_wp2_with fail
          refine within_any.mono ?_
          rintro _ _ ⟨rfl, rfl⟩
          go_wp2
          go_ret
          exact ⟨by rw [HP.out]; rfl, alloc_below _ _⟩
        · have e1 := ne_eq ha
          have HP : Hid (fitC 2 3 ar = false) := hide (by simp [fitC, ha])
          clear hw ha
          go_enter Tryz.func71, Tryz.ntmps71
          go_wp2_with fail
          refine within_any.mono ?_
          rintro _ _ ⟨rfl, rfl⟩
          go_wp2
          go_ret
          exact ⟨by rw [HP.out]; rfl, alloc_below _ _⟩
      · have e3 : (fn != 3) = true := by simpa using h3
        have w1 := bt hw.1 hw.2
        have HP : Hid (fitC 2 fn ar = true) := hide (by simp [fitC, hw, h3])
        clear hw h3
        go_enter Tryz.func71, Tryz.ntmps71
        go_wp2_with fail
        refine within_any.mono ?_
        rintro _ _ ⟨rfl, rfl⟩
        go_wp2
        go_ret
        exact ⟨by rw [HP.out]; rfl, alloc_below _ _⟩
    · have w1 := bf hw
      have HP : Hid (fitC 2 fn ar = false) := hide (by simp [fitC]; omega)
      clear hw
      go_enter Tryz.func71, Tryz.ntmps71
      go_wp2_with fail
      refine within_any.mono ?_
      rintro _ _ ⟨rfl, rfl⟩
      go_wp2
      go_ret
      exact ⟨by rw [HP.out]; rfl, alloc_below _ _⟩
  by_cases k3 : kd = 3
  · subst k3
    by_cases hw : 1 ≤ fn ∧ fn ≤ 4
    · by_cases h3 : fn = 3
      · subst h3
        by_cases ha : ar = 0
        · subst ha
          have HP : Hid (fitC 3 3 0 = true) := hide (by decide)
          clear hw
          go_enter Tryz.func71, Tryz.ntmps71
          go_wp2_with fail
          refine within_any.mono ?_
          rintro _ _ ⟨rfl, rfl⟩
          go_wp2
          go_ret
          exact ⟨by rw [HP.out]; rfl, alloc_below _ _⟩
        · have e1 := ne_eq ha
          have HP : Hid (fitC 3 3 ar = false) := hide (by simp [fitC, ha])
          clear hw ha
          go_enter Tryz.func71, Tryz.ntmps71
          go_wp2_with fail
          refine within_any.mono ?_
          rintro _ _ ⟨rfl, rfl⟩
          go_wp2
          go_ret
          exact ⟨by rw [HP.out]; rfl, alloc_below _ _⟩
      · have e3 : (fn != 3) = true := by simpa using h3
        have w1 := bt hw.1 hw.2
        have HP : Hid (fitC 3 fn ar = true) := hide (by simp [fitC, hw, h3])
        clear hw h3
        go_enter Tryz.func71, Tryz.ntmps71
        go_wp2_with fail
        refine within_any.mono ?_
        rintro _ _ ⟨rfl, rfl⟩
        go_wp2
        go_ret
        exact ⟨by rw [HP.out]; rfl, alloc_below _ _⟩
    · have w1 := bf hw
      have HP : Hid (fitC 3 fn ar = false) := hide (by simp [fitC]; omega)
      clear hw
      go_enter Tryz.func71, Tryz.ntmps71
      go_wp2_with fail
      refine within_any.mono ?_
      rintro _ _ ⟨rfl, rfl⟩
      go_wp2
      go_ret
      exact ⟨by rw [HP.out]; rfl, alloc_below _ _⟩
  by_cases k4 : kd = 4
  · subst k4
    have HP : Hid (fitC 4 fn ar = keyC fn ar) := hide (by simp [fitC])
    go_enter Tryz.func71, Tryz.ntmps71
    go_wp2_with fail
    refine key_any.mono ?_
    rintro _ _ ⟨rfl, rfl⟩
    go_wp2
    go_ret
    exact ⟨by rw [HP.out]; rfl, alloc_below _ _⟩
  by_cases k5 : kd = 5
  · subst k5
    by_cases hw : 1 ≤ fn ∧ fn ≤ 5
    · have w1 := bt hw.1 hw.2
      by_cases ha : ar = 0
      · subst ha
        have HP : Hid (fitC 5 fn 0 = true) := hide (by simp [fitC, hw])
        clear hw
        go_enter Tryz.func71, Tryz.ntmps71
        go_wp2_with fail
        refine within_any.mono ?_
        rintro _ _ ⟨rfl, rfl⟩
        go_wp2
        go_ret
        exact ⟨by rw [HP.out]; rfl, alloc_below _ _⟩
      · have e1 := ne_eq ha
        have HP : Hid (fitC 5 fn ar = false) := hide (by simp [fitC, ha])
        clear hw ha
        go_enter Tryz.func71, Tryz.ntmps71
        go_wp2_with fail
        refine within_any.mono ?_
        rintro _ _ ⟨rfl, rfl⟩
        go_wp2
        go_ret
        exact ⟨by rw [HP.out]; rfl, alloc_below _ _⟩
    · have w1 := bf hw
      have HP : Hid (fitC 5 fn ar = false) := hide (by simp [fitC]; omega)
      clear hw
      go_enter Tryz.func71, Tryz.ntmps71
      go_wp2_with fail
      refine within_any.mono ?_
      rintro _ _ ⟨rfl, rfl⟩
      go_wp2
      go_ret
      exact ⟨by rw [HP.out]; rfl, alloc_below _ _⟩
  by_cases k6 : kd = 6
  · subst k6
    by_cases hw : 1 ≤ fn ∧ fn ≤ 5
    · have w1 := bt hw.1 hw.2
      have HP : Hid (fitC 6 fn ar = (decide (1 ≤ ar) && decide (ar ≤ 64))) := hide (by simp [fitC, hw])
      clear hw
      go_enter Tryz.func71, Tryz.ntmps71
      go_wp2_with fail
      refine within_any.mono ?_
      rintro _ _ ⟨rfl, rfl⟩
      go_wp2_with fail
      refine within64_any.mono ?_
      rintro _ _ ⟨rfl, rfl⟩
      go_wp2
      go_ret
      exact ⟨by rw [HP.out]; rfl, alloc_below _ _⟩
    · have w1 := bf hw
      have HP : Hid (fitC 6 fn ar = false) := hide (by simp [fitC]; omega)
      clear hw
      go_enter Tryz.func71, Tryz.ntmps71
      go_wp2_with fail
      refine within_any.mono ?_
      rintro _ _ ⟨rfl, rfl⟩
      go_wp2
      go_ret
      exact ⟨by rw [HP.out]; rfl, alloc_below _ _⟩
  by_cases k7 : kd = 7
  · subst k7
    by_cases hf : fn = 0
    · subst hf
      have HP : Hid (fitC 7 0 ar = (decide (2 ≤ ar) && decide (ar ≤ 4))) := hide (by simp [fitC])
      go_enter Tryz.func71, Tryz.ntmps71
      go_wp2_with fail
      refine within64_any.mono ?_
      rintro _ _ ⟨rfl, rfl⟩
      go_wp2
      go_ret
      exact ⟨by rw [HP.out]; rfl, alloc_below _ _⟩
    · have e1 := ne_eq hf
      have HP : Hid (fitC 7 fn ar = false) := hide (by simp [fitC, hf])
      clear hf
      go_enter Tryz.func71, Tryz.ntmps71
      go_wp2
      go_ret
      exact ⟨by rw [HP.out]; rfl, alloc_below _ _⟩
  have c2 := ne_eq k2
  have c3 := ne_eq k3
  have c4 := ne_eq k4
  have c5 := ne_eq k5
  have c6 := ne_eq k6
  have c7 := ne_eq k7
  by_cases hf : fn = 0
  · subst hf
    by_cases ha : ar = 0
    · subst ha
      have HP : Hid (fitC kd 0 0 = true) := hide (by simp [fitC, k2, k3, k4, k5, k6, k7])
      clear k2 k3 k4 k5 k6 k7
      go_enter Tryz.func71, Tryz.ntmps71
      go_wp2
      go_ret
      exact ⟨by rw [HP.out]; rfl, alloc_below _ _⟩
    · have e1 := ne_eq ha
      have HP : Hid (fitC kd 0 ar = false) := hide (by simp [fitC, k2, k3, k4, k5, k6, k7, ha])
      clear k2 k3 k4 k5 k6 k7 ha
      go_enter Tryz.func71, Tryz.ntmps71
      go_wp2
      go_ret
      exact ⟨by rw [HP.out]; rfl, alloc_below _ _⟩
  · have e1 := ne_eq hf
    have HP : Hid (fitC kd fn ar = false) := hide (by simp [fitC, k2, k3, k4, k5, k6, k7, hf])
    clear k2 k3 k4 k5 k6 k7 hf
    go_enter Tryz.func71, Tryz.ntmps71
    go_wp2
    go_ret
    exact ⟨by rw [HP.out]; rfl, alloc_below _ _⟩

set_option maxRecDepth 100000 in
set_option maxHeartbeats 4000000 in
theorem fields_any {W : World} {kd pt fn ar parts : Int} {ip : Option Addr} {n ic : Nat} (hp1 : 1 ≤ parts) (hp2 : parts ≤ 4) :
    Calls Tryz.prog 51 #[.agg #[.int .i64 kd, .int .i64 pt, .int .i64 fn, .int .i64 ar, .slice ip n ic], .int .i64 parts] W fun e w' => e = .returned (.bool (fieldsC kd pt fn ar parts)) ∧ Below W.heap.size W w' := by
  by_cases k1 : kd = 1
  · subst k1
    by_cases hw : 0 ≤ pt ∧ pt ≤ parts - 1
    · have w1 := bt hw.1 hw.2
      by_cases hf : fn = 0
      · subst hf
        by_cases ha : ar = 0
        · subst ha
          have HP : Hid (fieldsC 1 pt 0 0 parts = true) := hide (by simp [fieldsC]; omega)
          clear hw
          go_enter Tryz.func51, Tryz.ntmps51
          go_wp2_with fail
          refine within_any.mono ?_
          rintro _ _ ⟨rfl, rfl⟩
          go_wp2
          go_ret
          exact ⟨by rw [HP.out]; rfl, alloc_below _ _⟩
        · have e1 := ne_eq ha
          have HP : Hid (fieldsC 1 pt 0 ar parts = false) := hide (by simp [fieldsC, ha])
          clear hw ha
          go_enter Tryz.func51, Tryz.ntmps51
          go_wp2_with fail
          refine within_any.mono ?_
          rintro _ _ ⟨rfl, rfl⟩
          go_wp2
          go_ret
          exact ⟨by rw [HP.out]; rfl, alloc_below _ _⟩
      · have e1 := ne_eq hf
        have HP : Hid (fieldsC 1 pt fn ar parts = false) := hide (by simp [fieldsC, hf])
        clear hw hf
        go_enter Tryz.func51, Tryz.ntmps51
        go_wp2_with fail
        refine within_any.mono ?_
        rintro _ _ ⟨rfl, rfl⟩
        go_wp2
        go_ret
        exact ⟨by rw [HP.out]; rfl, alloc_below _ _⟩
    · have w1 := bf hw
      have HP : Hid (fieldsC 1 pt fn ar parts = false) := hide (by simp [fieldsC]; omega)
      clear hw
      go_enter Tryz.func51, Tryz.ntmps51
      go_wp2_with fail
      refine within_any.mono ?_
      rintro _ _ ⟨rfl, rfl⟩
      go_wp2
      go_ret
      exact ⟨by rw [HP.out]; rfl, alloc_below _ _⟩
  · have c1 := ne_eq k1
    by_cases h0 : pt = 0
    · subst h0
      have HP : Hid (fieldsC kd 0 fn ar parts = fitC kd fn ar) := hide (by simp [fieldsC, k1])
      have hb0 := alloc_below W (.cells #[.int .i64 kd, .int .i64 0, .int .i64 fn, .int .i64 ar, .slice ip n ic] 55)
      have HF := hide (fit_any (W := W.alloc (.cells #[.int .i64 kd, .int .i64 0, .int .i64 fn, .int .i64 ar, .slice ip n ic] 55)) (kd := kd) (pt := 0) (fn := fn) (ar := ar) (ip := ip) (n := n) (ic := ic))
      clear k1
      go_enter Tryz.func51, Tryz.ntmps51
      go_wp2_with fail
      refine HF.out.mono ?_
      rintro _ w1 ⟨rfl, b1⟩
      have HB : Hid (Below W.heap.size W w1) := hide (hb0.trans (b1.mono (by simp)))
      clear b1 hb0 HF
      go_wp2
      go_ret
      exact ⟨by rw [HP.out]; rfl, HB.out⟩
    · have e1 := ne_eq h0
      have HP : Hid (fieldsC kd pt fn ar parts = false) := hide (by simp [fieldsC, k1, h0])
      clear k1 h0
      go_enter Tryz.func51, Tryz.ntmps51
      go_wp2
      go_ret
      exact ⟨by rw [HP.out]; rfl, alloc_below _ _⟩
end Go.Proofs.YtifldnpccgbnkaaGreat

/-
  The reference's Ports and fields. No conditions.
-/
namespace Go.Proofs.YtifldnpccgbnkaaGreat
open Go.RowKit

set_option maxRecDepth 100000 in
set_option maxHeartbeats 4000000 in
theorem rports_any {W : World} {kd pt fn ar : Int} {ip : Option Addr} {n ic : Nat} :
    Calls Tryz.prog 48 #[.agg #[.int .i64 kd, .int .i64 pt, .int .i64 fn, .int .i64 ar, .slice ip n ic]] W fun e w' => e = .returned (.int .i64 (portsC kd ar)) ∧ Below W.heap.size W w' := by
  by_cases h7 : kd = 7
  · subst h7
    by_cases a2 : 2 ≤ ar
    · have e2 : decide (ar ≥ 2) = true := decide_eq_true a2
      by_cases a4 : ar ≤ 4
      · have e4 : decide (ar ≤ 4) = true := decide_eq_true a4
        have HP : Hid (portsC 7 ar = ar) := hide (by simp [portsC, a2, a4])
        clear a2 a4
        go_enter Tryz.func48, Tryz.ntmps48
        go_wp2
        go_ret
        exact ⟨by rw [HP.out]; rfl, alloc_below _ _⟩
      · have e4 : decide (ar ≤ 4) = false := decide_eq_false a4
        have HP : Hid (portsC 7 ar = 0) := hide (by simp [portsC, a4])
        clear a2 a4
        go_enter Tryz.func48, Tryz.ntmps48
        go_wp2
        go_ret
        exact ⟨by rw [HP.out]; rfl, alloc_below _ _⟩
    · have e2 : decide (ar ≥ 2) = false := decide_eq_false a2
      have HP : Hid (portsC 7 ar = 0) := hide (by simp [portsC, a2])
      clear a2
      go_enter Tryz.func48, Tryz.ntmps48
      go_wp2
      go_ret
      exact ⟨by rw [HP.out]; rfl, alloc_below _ _⟩
  · have c7 := ne_eq h7
    by_cases h9 : kd = 9
    · subst h9
      have HP : Hid (portsC 9 ar = 0) := hide (by simp [portsC])
      clear h7
      go_enter Tryz.func48, Tryz.ntmps48
      go_wp2
      go_ret
      exact ⟨by rw [HP.out]; rfl, alloc_below _ _⟩
    · have c9 := ne_eq h9
      by_cases h1 : kd < 1
      · have e1 : decide (kd < 1) = true := decide_eq_true h1
        have HP : Hid (portsC kd ar = 0) := hide (by unfold portsC; rw [if_neg h7, if_neg (by omega)])
        clear h7 h9 h1
        go_enter Tryz.func48, Tryz.ntmps48
        go_wp2
        go_ret
        exact ⟨by rw [HP.out]; rfl, alloc_below _ _⟩
      · have e1 : decide (kd < 1) = false := decide_eq_false h1
        by_cases h8 : 9 < kd
        · have e8 : decide (9 < kd) = true := decide_eq_true h8
          have HP : Hid (portsC kd ar = 0) := hide (by unfold portsC; rw [if_neg h7, if_neg (by omega)])
          clear h7 h9 h1 h8
          go_enter Tryz.func48, Tryz.ntmps48
          go_wp2
          go_ret
          exact ⟨by rw [HP.out]; rfl, alloc_below _ _⟩
        · have e8 : decide (9 < kd) = false := decide_eq_false h8
          have HP : Hid (portsC kd ar = 1) := hide (by unfold portsC; rw [if_neg h7, if_pos (by omega)])
          clear h7 h9 h1 h8
          go_enter Tryz.func48, Tryz.ntmps48
          go_wp2
          go_ret
          exact ⟨by rw [HP.out]; rfl, alloc_below _ _⟩

set_option maxRecDepth 100000 in
set_option maxHeartbeats 8000000 in
theorem rfields_any {W : World} {kd pt fn ar parts : Int} {ip : Option Addr} {n ic : Nat} :
    Calls Tryz.prog 45 #[.agg #[.int .i64 kd, .int .i64 pt, .int .i64 fn, .int .i64 ar, .slice ip n ic], .int .i64 parts] W fun e w' => e = .returned (.bool (fieldsC kd pt fn ar parts)) ∧ Below W.heap.size W w' := by
  by_cases k1 : kd = 1
  · subst k1
    by_cases p0 : 0 ≤ pt
    · have e1 : decide (pt ≥ 0) = true := decide_eq_true p0
      by_cases p1 : pt < parts
      · have e2 : decide (pt < parts) = true := decide_eq_true p1
        by_cases hf : fn = 0
        · subst hf
          by_cases ha : ar = 0
          · subst ha
            have HP : Hid (fieldsC 1 pt 0 0 parts = true) := hide (by simp [fieldsC, p0, p1])
            clear p0 p1
            go_enter Tryz.func45, Tryz.ntmps45
            go_wp2
            go_ret
            exact ⟨by rw [HP.out]; rfl, alloc_below _ _⟩
          · have e3 := ne_eq ha
            have HP : Hid (fieldsC 1 pt 0 ar parts = false) := hide (by simp [fieldsC, ha])
            clear p0 p1 ha
            go_enter Tryz.func45, Tryz.ntmps45
            go_wp2
            go_ret
            exact ⟨by rw [HP.out]; rfl, alloc_below _ _⟩
        · have e3 := ne_eq hf
          have HP : Hid (fieldsC 1 pt fn ar parts = false) := hide (by simp [fieldsC, hf])
          clear p0 p1 hf
          go_enter Tryz.func45, Tryz.ntmps45
          go_wp2
          go_ret
          exact ⟨by rw [HP.out]; rfl, alloc_below _ _⟩
      · have e2 : decide (pt < parts) = false := decide_eq_false p1
        have HP : Hid (fieldsC 1 pt fn ar parts = false) := hide (by simp [fieldsC]; omega)
        clear p0 p1
        go_enter Tryz.func45, Tryz.ntmps45
        go_wp2
        go_ret
        exact ⟨by rw [HP.out]; rfl, alloc_below _ _⟩
    · have e1 : decide (pt ≥ 0) = false := decide_eq_false p0
      have HP : Hid (fieldsC 1 pt fn ar parts = false) := hide (by simp [fieldsC]; omega)
      clear p0
      go_enter Tryz.func45, Tryz.ntmps45
      go_wp2
      go_ret
      exact ⟨by rw [HP.out]; rfl, alloc_below _ _⟩
  have c1 := ne_eq k1
  have c1' : (kd != 1) = true := by simpa using k1
  by_cases h0 : pt = 0
  rotate_left
  · have e0 : (pt != 0) = true := by simpa using h0
    have HP : Hid (fieldsC kd pt fn ar parts = false) := hide (by simp [fieldsC, k1, h0])
    clear k1 h0
    go_enter Tryz.func45, Tryz.ntmps45
    go_wp2
    go_ret
    exact ⟨by rw [HP.out]; rfl, alloc_below _ _⟩
  subst h0
  have HQ : Hid (fieldsC kd 0 fn ar parts = fitC kd fn ar) := hide (by simp [fieldsC, k1])
  by_cases k2 : kd = 2
  · subst k2
    clear c1 c1'
    by_cases f1 : 1 ≤ fn
    · have e1 : decide (fn ≥ 1) = true := decide_eq_true f1
      by_cases f4 : fn ≤ 4
      · have e4 : decide (fn ≤ 4) = true := decide_eq_true f4
        by_cases h3 : fn = 3
        · subst h3
          by_cases ha : ar = 0
          · subst ha
            have HP : Hid (fitC 2 3 0 = true) := hide (by decide)
            clear e1 e4 f1 f4
            go_enter Tryz.func45, Tryz.ntmps45
            go_wp2
            go_ret
            exact ⟨by rw [HQ.out, HP.out]; rfl, alloc_below _ _⟩
          · have e5 := ne_eq ha
            have HP : Hid (fitC 2 3 ar = false) := hide (by simp [fitC, ha])
            clear e1 e4 f1 f4 ha
            go_enter Tryz.func45, Tryz.ntmps45
            go_wp2
            go_ret
            exact ⟨by rw [HQ.out, HP.out]; rfl, alloc_below _ _⟩
        · have e3 : (fn != 3) = true := by simpa using h3
          have HP : Hid (fitC 2 fn ar = true) := hide (by simp [fitC, f1, f4, h3])
          clear f1 f4 h3
          go_enter Tryz.func45, Tryz.ntmps45
          go_wp2
          go_ret
          exact ⟨by rw [HQ.out, HP.out]; rfl, alloc_below _ _⟩
      · have e4 : decide (fn ≤ 4) = false := decide_eq_false f4
        have HP : Hid (fitC 2 fn ar = false) := hide (by simp [fitC]; omega)
        clear f1 f4
        go_enter Tryz.func45, Tryz.ntmps45
        go_wp2
        go_ret
        exact ⟨by rw [HQ.out, HP.out]; rfl, alloc_below _ _⟩
    · have e1 : decide (fn ≥ 1) = false := decide_eq_false f1
      have HP : Hid (fitC 2 fn ar = false) := hide (by simp [fitC]; omega)
      clear f1
      go_enter Tryz.func45, Tryz.ntmps45
      go_wp2
      go_ret
      exact ⟨by rw [HQ.out, HP.out]; rfl, alloc_below _ _⟩
  by_cases k3 : kd = 3
  · subst k3
    clear c1 c1'
    by_cases f1 : 1 ≤ fn
    · have e1 : decide (fn ≥ 1) = true := decide_eq_true f1
      by_cases f4 : fn ≤ 4
      · have e4 : decide (fn ≤ 4) = true := decide_eq_true f4
        by_cases h3 : fn = 3
        · subst h3
          by_cases ha : ar = 0
          · subst ha
            have HP : Hid (fitC 3 3 0 = true) := hide (by decide)
            clear e1 e4 f1 f4
            go_enter Tryz.func45, Tryz.ntmps45
            go_wp2
            go_ret
            exact ⟨by rw [HQ.out, HP.out]; rfl, alloc_below _ _⟩
          · have e5 := ne_eq ha
            have HP : Hid (fitC 3 3 ar = false) := hide (by simp [fitC, ha])
            clear e1 e4 f1 f4 ha
            go_enter Tryz.func45, Tryz.ntmps45
            go_wp2
            go_ret
            exact ⟨by rw [HQ.out, HP.out]; rfl, alloc_below _ _⟩
        · have e3 : (fn != 3) = true := by simpa using h3
          have HP : Hid (fitC 3 fn ar = true) := hide (by simp [fitC, f1, f4, h3])
          clear f1 f4 h3
          go_enter Tryz.func45, Tryz.ntmps45
          go_wp2
          go_ret
          exact ⟨by rw [HQ.out, HP.out]; rfl, alloc_below _ _⟩
      · have e4 : decide (fn ≤ 4) = false := decide_eq_false f4
        have HP : Hid (fitC 3 fn ar = false) := hide (by simp [fitC]; omega)
        clear f1 f4
        go_enter Tryz.func45, Tryz.ntmps45
        go_wp2
        go_ret
        exact ⟨by rw [HQ.out, HP.out]; rfl, alloc_below _ _⟩
    · have e1 : decide (fn ≥ 1) = false := decide_eq_false f1
      have HP : Hid (fitC 3 fn ar = false) := hide (by simp [fitC]; omega)
      clear f1
      go_enter Tryz.func45, Tryz.ntmps45
      go_wp2
      go_ret
      exact ⟨by rw [HQ.out, HP.out]; rfl, alloc_below _ _⟩
  by_cases k4 : kd = 4
  · subst k4
    clear c1 c1' k1 k2 k3
    by_cases f2 : fn = 2
    · subst f2
      have HP : Hid (fitC 4 2 ar = decide (1 ≤ ar)) := hide (by simp [fitC, keyC])
      go_enter Tryz.func45, Tryz.ntmps45
      go_wp2
      go_ret
      exact ⟨by rw [HQ.out, HP.out]; rfl, alloc_below _ _⟩
    have g2 := ne_eq f2
    by_cases f3 : fn = 3
    · subst f3
      have HP : Hid (fitC 4 3 ar = decide (1 ≤ ar)) := hide (by simp [fitC, keyC])
      clear f2 g2
      go_enter Tryz.func45, Tryz.ntmps45
      go_wp2
      go_ret
      exact ⟨by rw [HQ.out, HP.out]; rfl, alloc_below _ _⟩
    have g3 := ne_eq f3
    by_cases f4 : fn = 4
    · subst f4
      have HP : Hid (fitC 4 4 ar = true) := hide (by simp [fitC, keyC])
      clear f2 f3 g2 g3
      go_enter Tryz.func45, Tryz.ntmps45
      go_wp2
      go_ret
      exact ⟨by rw [HQ.out, HP.out]; rfl, alloc_below _ _⟩
    have g4 := ne_eq f4
    by_cases f1 : fn = 1
    · subst f1
      have HP : Hid (fitC 4 1 ar = (ar == 0)) := hide (by simp [fitC, keyC])
      clear f2 f3 f4 g2 g3 g4
      go_enter Tryz.func45, Tryz.ntmps45
      go_wp2
      go_ret
      exact ⟨by rw [HQ.out, HP.out]; rfl, alloc_below _ _⟩
    · have g1 := ne_eq f1
      have HP : Hid (fitC 4 fn ar = false) := hide (by simp [fitC, keyC, f1, f2, f3, f4])
      clear f1 f2 f3 f4
      go_enter Tryz.func45, Tryz.ntmps45
      go_wp2
      go_ret
      exact ⟨by rw [HQ.out, HP.out]; rfl, alloc_below _ _⟩
  by_cases k5 : kd = 5
  · subst k5
    clear c1 c1'
    by_cases f1 : 1 ≤ fn
    · have e1 : decide (fn ≥ 1) = true := decide_eq_true f1
      by_cases f5 : fn ≤ 5
      · have e5 : decide (fn ≤ 5) = true := decide_eq_true f5
        by_cases ha : ar = 0
        · subst ha
          have HP : Hid (fitC 5 fn 0 = true) := hide (by simp [fitC, f1, f5])
          clear f1 f5
          go_enter Tryz.func45, Tryz.ntmps45
          go_wp2
          go_ret
          exact ⟨by rw [HQ.out, HP.out]; rfl, alloc_below _ _⟩
        · have e6 := ne_eq ha
          have HP : Hid (fitC 5 fn ar = false) := hide (by simp [fitC, ha])
          clear f1 f5 ha
          go_enter Tryz.func45, Tryz.ntmps45
          go_wp2
          go_ret
          exact ⟨by rw [HQ.out, HP.out]; rfl, alloc_below _ _⟩
      · have e5 : decide (fn ≤ 5) = false := decide_eq_false f5
        have HP : Hid (fitC 5 fn ar = false) := hide (by simp [fitC]; omega)
        clear f1 f5
        go_enter Tryz.func45, Tryz.ntmps45
        go_wp2
        go_ret
        exact ⟨by rw [HQ.out, HP.out]; rfl, alloc_below _ _⟩
    · have e1 : decide (fn ≥ 1) = false := decide_eq_false f1
      have HP : Hid (fitC 5 fn ar = false) := hide (by simp [fitC]; omega)
      clear f1
      go_enter Tryz.func45, Tryz.ntmps45
      go_wp2
      go_ret
      exact ⟨by rw [HQ.out, HP.out]; rfl, alloc_below _ _⟩
  by_cases k6 : kd = 6
  · subst k6
    clear c1 c1'
    by_cases f1 : 1 ≤ fn
    · have e1 : decide (fn ≥ 1) = true := decide_eq_true f1
      by_cases f5 : fn ≤ 5
      · have e5 : decide (fn ≤ 5) = true := decide_eq_true f5
        by_cases a1 : 1 ≤ ar
        · have e6 : decide (ar ≥ 1) = true := decide_eq_true a1
          have HP : Hid (fitC 6 fn ar = decide (ar ≤ 64)) := hide (by simp [fitC, f1, f5, a1])
          clear f1 f5 a1
          go_enter Tryz.func45, Tryz.ntmps45
          go_wp2
          go_ret
          exact ⟨by rw [HQ.out, HP.out]; rfl, alloc_below _ _⟩
        · have e6 : decide (ar ≥ 1) = false := decide_eq_false a1
          have HP : Hid (fitC 6 fn ar = false) := hide (by simp [fitC]; omega)
          clear f1 f5 a1
          go_enter Tryz.func45, Tryz.ntmps45
          go_wp2
          go_ret
          exact ⟨by rw [HQ.out, HP.out]; rfl, alloc_below _ _⟩
      · have e5 : decide (fn ≤ 5) = false := decide_eq_false f5
        have HP : Hid (fitC 6 fn ar = false) := hide (by simp [fitC]; omega)
        clear f1 f5
        go_enter Tryz.func45, Tryz.ntmps45
        go_wp2
        go_ret
        exact ⟨by rw [HQ.out, HP.out]; rfl, alloc_below _ _⟩
    · have e1 : decide (fn ≥ 1) = false := decide_eq_false f1
      have HP : Hid (fitC 6 fn ar = false) := hide (by simp [fitC]; omega)
      clear f1
      go_enter Tryz.func45, Tryz.ntmps45
      go_wp2
      go_ret
      exact ⟨by rw [HQ.out, HP.out]; rfl, alloc_below _ _⟩
  by_cases k7 : kd = 7
  · subst k7
    clear c1 c1'
    by_cases hf : fn = 0
    · subst hf
      by_cases a2 : 2 ≤ ar
      · have e2 : decide (ar ≥ 2) = true := decide_eq_true a2
        have HP : Hid (fitC 7 0 ar = decide (ar ≤ 4)) := hide (by simp [fitC, a2])
        clear a2
        go_enter Tryz.func45, Tryz.ntmps45
        go_wp2
        go_ret
        exact ⟨by rw [HQ.out, HP.out]; rfl, alloc_below _ _⟩
      · have e2 : decide (ar ≥ 2) = false := decide_eq_false a2
        have HP : Hid (fitC 7 0 ar = false) := hide (by simp [fitC]; omega)
        clear a2
        go_enter Tryz.func45, Tryz.ntmps45
        go_wp2
        go_ret
        exact ⟨by rw [HQ.out, HP.out]; rfl, alloc_below _ _⟩
    · have e1 := ne_eq hf
      have HP : Hid (fitC 7 fn ar = false) := hide (by simp [fitC, hf])
      clear hf
      go_enter Tryz.func45, Tryz.ntmps45
      go_wp2
      go_ret
      exact ⟨by rw [HQ.out, HP.out]; rfl, alloc_below _ _⟩
  have c2 := ne_eq k2
  have c3 := ne_eq k3
  have c4 := ne_eq k4
  have c5 := ne_eq k5
  have c6 := ne_eq k6
  have c7 := ne_eq k7
  by_cases hf : fn = 0
  · subst hf
    have HP : Hid (fitC kd 0 ar = (ar == 0)) := hide (by simp [fitC, k2, k3, k4, k5, k6, k7, Bool.beq_eq_decide_eq])
    clear k1 k2 k3 k4 k5 k6 k7
    go_enter Tryz.func45, Tryz.ntmps45
    go_wp2
    go_ret
    exact ⟨by rw [HQ.out, HP.out]; rfl, alloc_below _ _⟩
  · have e1 := ne_eq hf
    have HP : Hid (fitC kd fn ar = false) := hide (by simp [fitC, k2, k3, k4, k5, k6, k7, hf])
    clear k1 k2 k3 k4 k5 k6 k7 hf
    go_enter Tryz.func45, Tryz.ntmps45
    go_wp2
    go_ret
    exact ⟨by rw [HQ.out, HP.out]; rfl, alloc_below _ _⟩
end Go.Proofs.YtifldnpccgbnkaaGreat
