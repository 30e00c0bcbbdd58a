/-
  What a look-up, a store, a deletion and len give of a store's map of files; and the small functions of package store: made, ready, magnitude. No conditions but that names are strings.
-/
import Derived.Test.YtikpckmlnhcddaaGreatRep
namespace Go.Proofs.YtikpckmlnhcddaaGreat
open Go.RowKit Go.Maps

theorem strKey : Keyed Tryz.prog 9 := string_keyed Tryz.underlying9
theorem zeroFile (w : World) : (zeroValue 75).run Tryz.prog w = .ok (.pointer none) w := by kernel_rfl
theorem Tryz.undMap : Tryz.prog.underlying 61 = some (.map 9 75) := by kernel_rfl
theorem keyStr {s : ByteArray} (hlen : s.size ≤ maxLen) : keyOf Tryz.prog 9 (.string s) = some (.string s.data.toList) := WideMaps.keyOf_string_mk Tryz.underlying9 hlen

theorem sameKey_str (a b : List UInt8) : (Lit.string a).sameKey (.string b) = (a == b) := rfl

/-- The file of a name. -/
def fileOf (fs : List MF) (n : List UInt8) : Option MF := fs.find? (fun f => f.name == n)
theorem fileOf_split {fs : List MF} {n : List UInt8} {f : MF} (h : fileOf fs n = some f) : f.name = n ∧ ∃ l r, fs = l ++ f :: r := by
  have h1 := List.find?_some h
  have h2 := List.mem_of_find?_eq_some h
  exact ⟨by simpa using h1, List.append_of_mem h2⟩
theorem fileOf_none {fs : List MF} {n : List UInt8} (h : fileOf fs n = none) : ∀ f ∈ fs, f.name ≠ n := by
  intro f hf
  have := List.find?_eq_none.1 h f hf
  simpa using this
theorem find_ent (fs : List MF) (n : List UInt8) : (fs.map ent).find? (fun p => p.1.sameKey (.string n)) = (fileOf fs n).map ent := by
  unfold fileOf
  induction fs with
  | nil => rfl
  | cons f fs ih =>
    simp only [List.map_cons, List.find?_cons]
    have : (ent f).1.sameKey (.string n) = (f.name == n) := rfl
    rw [this]
    cases h : (f.name == n) <;> simp [ih]
theorem has_ent (fs : List MF) (n : List UInt8) : Maps.has (.map (fs.map ent)) (.string n) = (fileOf fs n).isSome := by
  rw [Maps.has_eq]
  unfold fileOf
  induction fs with
  | nil => rfl
  | cons f fs ih =>
    simp only [List.map_cons, List.any_cons, List.find?_cons]
    have : (ent f).1.sameKey (.string n) = (f.name == n) := rfl
    rw [this, ih]
    cases h : (f.name == n) <;> simp

/-- What the look-up hands back. -/
def ptrOf (fs : List MF) (n : List UInt8) : Value := .pointer ((fileOf fs n).map fun f => ⟨f.fb, 0, none⟩)

theorem map_look {W : World} {mb n : Nat} {fs : List MF} (h : W.ownsMap Tryz.prog 9 ptrElem mb n (.map (fs.map ent))) {s : ByteArray} (hlen : s.size ≤ maxLen) :
    (Instr.lookup 61 (.map (some mb)) (.string s) true).run Tryz.prog W = .ok (.tuple #[ptrOf fs s.data.toList, .bool (fileOf fs s.data.toList).isSome]) W ∧
    (Instr.lookup 61 (.map (some mb)) (.string s) false).run Tryz.prog W = .ok (ptrOf fs s.data.toList) W := by
  have hv : ∀ {v : Value} {ps : List MemPlace}, ptrElem v = some ((DataW.map (fs.map ent)).atKey (.string s.data.toList) (.lit (.bool false)), ps) → v = ptrOf fs s.data.toList := by
    intro v ps hv
    unfold DataW.atKey at hv
    simp only [find_ent] at hv
    unfold ptrOf
    cases hf : fileOf fs s.data.toList with
    | none => rw [hf] at hv; exact ptrElem_nil hv
    | some f => rw [hf] at hv; exact ptrElem_inv hv
  constructor
  · obtain ⟨v, ps, hr, hR⟩ := h.look_ok strKey Tryz.undMap (zeroFile W) (zd := .lit (.bool false)) (zp := []) rfl (keyStr hlen)
    rw [hr, hv hR, has_ent]
  · obtain ⟨v, ps, hr, hR⟩ := h.lookup strKey Tryz.undMap (zeroFile W) (zd := .lit (.bool false)) (zp := []) rfl (keyStr hlen)
    rw [hr, hv hR]

/-- The bound that a map of files needs. -/
theorem map_tight {H : Type} {P : Program} {k : TypeId} {R : Value → Option (DataW H × List MemPlace)} {W : World} {b n : Nat} {D : DataW H} (h : W.ownsMap P k R b n D) : W.ownsMap P k R b (Maps.size D) D := by
  obtain ⟨es, clock, hb, F, hs, rfl⟩ := h
  exact ⟨es, clock, hb, F, by simp [Maps.size, length_sorted], rfl⟩

theorem box_cells {W : World} {sb : Nat} {a b c d e : Value} {t : TypeId} (h : W.heap[sb]? = some (.cells #[a, b, c, d, e] t (0, 0))) :
    W.cell? ⟨sb, 0, none⟩ = some a ∧ W.cell? ⟨sb, 1, none⟩ = some b ∧ W.cell? ⟨sb, 2, none⟩ = some c ∧ W.cell? ⟨sb, 3, none⟩ = some d ∧ W.cell? ⟨sb, 4, none⟩ = some e := by
  simp [World.cell?, h]
theorem box_frozen {W : World} {sb : Nat} {cs : Array Value} {t : TypeId} (h : W.heap[sb]? = some (.cells cs t (0, 0))) (o : Nat) : W.frozen? ⟨sb, o, none⟩ = false := by
  simp [World.frozen?, h]

theorem neqMap (W : World) (m : Option Nat) : (binOp .neq 61 (.map m) (.map none)).run Tryz.prog W = .ok (.bool m.isSome) W := by
  rw [run_neq_map_nil _ _ _ _ _ Tryz.undMap]
  cases m <;> rfl

set_option maxRecDepth 100000 in
set_option maxHeartbeats 400000 in
/-- s.made(), of a store that is there. -/
theorem made_any {W : World} {sb : Nat} {m : Option Nat} (hc : W.cell? ⟨sb, 0, none⟩ = some (.map m)) :
    Calls Tryz.prog 47 #[.pointer (some ⟨sb, 0, none⟩)] W fun e w' => e = .returned (.bool m.isSome) ∧ w' = W := by
  have q := neqMap
  go_enter Tryz.func47, Tryz.ntmps47
  go_wp2
  go_ret
  exact ⟨rfl, rfl⟩
set_option maxRecDepth 100000 in
theorem made_nil (W : World) : Calls Tryz.prog 47 #[.pointer none] W fun e w' => e = .returned (.bool false) ∧ w' = W := by
  go_enter Tryz.func47, Tryz.ntmps47
  go_wp2
  go_ret
  exact ⟨rfl, rfl⟩

/-- What ready answers. -/
def readyE (m : Option Nat) (up : Bool) : Int := if m.isSome then (if up then 0 else 32) else 2
set_option maxRecDepth 100000 in
set_option maxHeartbeats 400000 in
theorem ready_any {W : World} {sb : Nat} {m : Option Nat} {up : Bool} (hc : W.cell? ⟨sb, 0, none⟩ = some (.map m)) (hu : W.cell? ⟨sb, 4, none⟩ = some (.bool up)) :
    Calls Tryz.prog 50 #[.pointer (some ⟨sb, 0, none⟩)] W fun e w' => e = .returned (.int .i64 (readyE m up)) ∧ w' = W := by
  have HC : Hid (W.cell? ⟨sb, 0, none⟩ = some (.map m)) := hc
  clear hc
  go_enter Tryz.func50, Tryz.ntmps50
  go_wp2_with fail
  refine (made_any HC.out).mono ?_
  rintro _ _ ⟨rfl, rfl⟩
  cases m with
  | none =>
    go_wp2
    go_ret
    exact ⟨rfl, rfl⟩
  | some mb =>
    cases up
    · go_wp2
      go_ret
      exact ⟨rfl, rfl⟩
    · go_wp2
      go_ret
      exact ⟨rfl, rfl⟩
set_option maxRecDepth 100000 in
theorem ready_nil (W : World) : Calls Tryz.prog 50 #[.pointer none] W fun e w' => e = .returned (.int .i64 2) ∧ w' = W := by
  go_enter Tryz.func50, Tryz.ntmps50
  go_wp2_with fail
  refine (made_nil _).mono ?_
  rintro _ _ ⟨rfl, rfl⟩
  go_wp2
  go_ret
  exact ⟨rfl, rfl⟩

/-- The store's pointer is nil, or its cells say that no call made it, or that it is down: what ready answers of it. -/
def Bad (W : World) (v : Value) (e : Int) : Prop := (v = .pointer none ∧ e = 2) ∨ (∃ sb, v = .pointer (some ⟨sb, 0, none⟩) ∧ W.cell? ⟨sb, 0, none⟩ = some (.map none) ∧ (∃ u, W.cell? ⟨sb, 4, none⟩ = some (.bool u)) ∧ e = 2) ∨ (∃ sb mb, v = .pointer (some ⟨sb, 0, none⟩) ∧ W.cell? ⟨sb, 0, none⟩ = some (.map (some mb)) ∧ W.cell? ⟨sb, 4, none⟩ = some (.bool false) ∧ e = 32)
theorem ready_bad {W : World} {v : Value} {e : Int} (h : Bad W v e) : Calls Tryz.prog 50 #[v] W fun r w' => r = .returned (.int .i64 e) ∧ w' = W := by
  rcases h with ⟨rfl, rfl⟩ | ⟨sb, rfl, h1, ⟨u, h2⟩, rfl⟩ | ⟨sb, mb, rfl, h1, h2, rfl⟩
  · exact ready_nil W
  · exact ready_any h1 h2
  · exact ready_any h1 h2
theorem Bad.ne {W : World} {v : Value} {e : Int} (h : Bad W v e) : (e == 0) = false := by
  rcases h with ⟨_, rfl⟩ | ⟨_, _, _, _, rfl⟩ | ⟨_, _, _, _, _, rfl⟩ <;> rfl
theorem Bad.form {W : World} {v : Value} {e : Int} (h : Bad W v e) : ∃ p, v = .pointer p := by
  rcases h with ⟨rfl, _⟩ | ⟨_, rfl, _⟩ | ⟨_, _, rfl, _⟩ <;> exact ⟨_, rfl⟩
theorem ready_up {W : World} {sb mb : Nat} (hc : W.cell? ⟨sb, 0, none⟩ = some (.map (some mb))) (hu : W.cell? ⟨sb, 4, none⟩ = some (.bool true)) :
    Calls Tryz.prog 50 #[.pointer (some ⟨sb, 0, none⟩)] W fun e w' => e = .returned (.int .i64 0) ∧ w' = W := ready_any hc hu

set_option maxRecDepth 100000 in
set_option maxHeartbeats 1000000 in
theorem find_bad {W : World} {v : Value} {er : Int} (h : Bad W v er) (s : ByteArray) :
    Calls Tryz.prog 51 #[v, .string s] W fun e w' => e = .returned (.tuple #[.pointer none, .int .i64 er]) ∧ w' = W := by
  have HR := hide (ready_bad h)
  have hne := h.ne
  obtain ⟨p, rfl⟩ := h.form
  clear h
  go_enter Tryz.func51, Tryz.ntmps51
  go_wp2_with fail
  refine HR.out.mono ?_
  rintro _ _ ⟨rfl, rfl⟩
  go_wp2
  go_ret2
  exact ⟨rfl, rfl⟩

set_option maxRecDepth 100000 in
set_option maxHeartbeats 1000000 in
/-- find, of a store that is up. -/
theorem find_any {W : World} {sb mb n : Nat} {fs : List MF} (hc : W.cell? ⟨sb, 0, none⟩ = some (.map (some mb))) (hu : W.cell? ⟨sb, 4, none⟩ = some (.bool true)) (hm : W.ownsMap Tryz.prog 9 ptrElem mb n (.map (fs.map ent))) {s : ByteArray} (hlen : s.size ≤ maxLen) :
    Calls Tryz.prog 51 #[.pointer (some ⟨sb, 0, none⟩), .string s] W fun e w' => e = .returned (.tuple #[ptrOf fs s.data.toList, .int .i64 (if (fileOf fs s.data.toList).isSome then 0 else 4)]) ∧ w' = W := by
  have HL := hide (ready_up hc hu)
  have hl := (map_look hm hlen).1
  clear hu hm
  unfold ptrOf at hl ⊢
  cases hf : fileOf fs s.data.toList with
  | none =>
    rw [hf] at hl
    simp only [Option.map_none, Option.isSome_none] at hl ⊢
    clear hf
    go_enter Tryz.func51, Tryz.ntmps51
    go_wp2_with fail
    refine HL.out.mono ?_
    rintro _ _ ⟨rfl, rfl⟩
    go_wp2
    go_ret2
    exact ⟨rfl, rfl⟩
  | some f =>
    rw [hf] at hl
    simp only [Option.map_some, Option.isSome_some] at hl ⊢
    clear hf
    go_enter Tryz.func51, Tryz.ntmps51
    go_wp2_with fail
    refine HL.out.mono ?_
    rintro _ _ ⟨rfl, rfl⟩
    go_wp2
    go_ret2
    exact ⟨rfl, rfl⟩
end Go.Proofs.YtikpckmlnhcddaaGreat
