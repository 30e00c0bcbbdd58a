/-
  A store of one file, apart from some blocks: Create, Write, Read. The conditions: within the limits.
-/
import Derived.Test.YtikpckmlnhcddaaNun
namespace Go.Proofs.Ytikpckmlnhcddaa
open Go.RowKit Go.Shelf Go.Maps

/-- Nothing of Ex was turned. -/
def Off (Ex : Nat → Prop) (W W' : World) : Prop := ∃ F : Nat → Prop, Only F W W' ∧ ∀ i, Ex i → ¬ F i
theorem Off.row {Ex : Nat → Prop} {W W' : World} {base n k : Nat} {e : TypeId} {v : Value} {xs : List Value} (h : Off Ex W W') (hr : W.ownsRow base e k v n xs) (hv : ∀ i, v.ownBlock = some i → Ex i) : W'.ownsRow base e k v n xs := by
  obtain ⟨F, h1, h2⟩ := h
  exact ownsRow_only hr h1 (fun b hb => h2 b (hv b hb))

def Sto (Ex : Nat → Prop) (W : World) (sb : Nat) (b : List Int) : Prop := ∃ mb f left pend turn, SRep W sb mb [f] left pend turn true ∧ f.name = [97] ∧ f.c = b ∧ (∀ i, Ex i → ¬ own sb mb [f] i ∧ ¬ covs [f] i)
theorem Sto.only {Ex F : Nat → Prop} {W W' : World} {sb : Nat} {b : List Int} (h : Sto Ex W sb b) (ho : Only F W W') (hF : ∀ i, F i → Ex i) : Sto Ex W' sb b := by
  obtain ⟨mb, f, left, pend, turn, h1, h2, h3, h4⟩ := h
  exact ⟨mb, f, left, pend, turn, h1.only ho (fun i hi hf => (h4 i (hF i hf)).1 hi) (fun i hi hf => (h4 i (hF i hf)).2 hi), h2, h3, h4⟩
theorem Sto.fresh {Ex : Nat → Prop} {W W' : World} {sb : Nat} {b : List Int} (h : Sto Ex W sb b) (hb : Below W.heap.size W W') : Sto Ex W' sb b := by
  obtain ⟨mb, f, left, pend, turn, h1, h2⟩ := h
  exact ⟨mb, f, left, pend, turn, h1.fresh hb, h2⟩
theorem Sto.ex {Ex Ex' : Nat → Prop} {W : World} {sb : Nat} {b : List Int} (h : Sto Ex W sb b) (he : ∀ i, Ex' i → Ex i ∨ W.heap.size ≤ i) : Sto Ex' W sb b := by
  obtain ⟨mb, f, left, pend, turn, h1, h2, h3, h4⟩ := h
  refine ⟨mb, f, left, pend, turn, h1, h2, h3, fun i hi => ?_⟩
  rcases he i hi with h | h
  · exact h4 i h
  · exact ⟨fun ho => by have := h1.own_lt ho; omega, fun ho => by have := h1.cov_lt ho; omega⟩
theorem Sto.read {Ex : Nat → Prop} {W : World} {sb : Nat} {b : List Int} (h : Sto Ex W sb b) (hl : b.length ≤ 4194304) :
    Calls Try.prog 14 #[.pointer (some ⟨sb, 0, none⟩), .string nmA, .int .i64 0, .int .i64 b.length] W fun e w' => ∃ p cap, e = .returned (.tuple #[.slice p b.length cap, .int .i64 0]) ∧ w'.ownsRow W.heap.size 5 1 (.slice p b.length cap) b.length (b.map (Value.int .u8)) ∧ Below W.heap.size W w' := by
  obtain ⟨mb, f, left, pend, turn, h1, h2, rfl, h4⟩ := h
  have := read_some (l := []) (r := []) h1 nmA_len (file_one h2) (at_ := 0) (n := f.c.length) (by omega) hl
  simpa using this

theorem step_off {Ex : Nat → Prop} {W W' : World} {sb mb : Nat} {fs gs : List MF} (h : Step W W' sb mb fs gs) (ho : ∀ i, own sb mb fs i → ¬ Ex i) : Off Ex W W' := ⟨own sb mb fs, h.only, fun i h1 h2 => ho i h2 h1⟩

theorem sto_create {W : World} {B sb : Nat} {Ex : Nat → Prop} {left : Int} (h : Zero B Ex W sb left) (hB : B ≤ W.heap.size) (hE : ∀ i, Ex i → i < W.heap.size) :
    Calls Try.prog 17 #[.pointer (some ⟨sb, 0, none⟩), .string nmA] W fun e w' => e = .returned (.int .i64 0) ∧ Sing B Ex w' sb [] [] left 0 0 true ∧ Below B W w' ∧ Off Ex W w' := by
  obtain ⟨mb, h1, h2⟩ := h
  refine (create_ok h1 nmA_len (by decide) rfl (by decide)).mono ?_
  rintro e w' ⟨rfl, hS, hT⟩
  exact ⟨rfl, ⟨mb, _, hS, rfl, rfl, rfl, step_own hT hB hE h2⟩, step_below hT hB (fun i hi => (h2 i hi).1), step_off hT (fun i hi => (h2 i hi).2)⟩

theorem sto_write {W : World} {B sb : Nat} {Ex : Nat → Prop} (h : Sing B Ex W sb [] [] 4194304 0 0 true) (hB : B ≤ W.heap.size) (hE : ∀ i, Ex i → i < W.heap.size)
    {v : Value} {b : List Int} (hb : Row .u8 W v b) (hx : ∀ i, v.ownBlock = some i → Ex i) (hu : U8 b) (hbl : b.length ≤ 4194304) :
    Calls Try.prog 9 #[.pointer (some ⟨sb, 0, none⟩), .string nmA, .int .i64 0, v] W fun e w' => e = .returned (.int .i64 0) ∧ Sto Ex w' sb b ∧ Below B W w' ∧ Off Ex W w' := by
  obtain ⟨mb, f, h1, h2, h3, h4, h5⟩ := h
  have hws : f.ws = [] := List.map_eq_nil_iff.1 h4
  have hcov : ∀ i, ¬ covs [f] i := by
    rintro i ⟨g, hg, x, hx, _⟩
    obtain rfl : g = f := by simpa using hg
    rw [hws] at hx
    simp at hx
  by_cases hb0 : b = []
  · subst hb0
    obtain ⟨p, cap, rfl, _, _⟩ := hb
    refine (write_empty (l := []) (r := []) (at_ := 0) h1 nmA_len (file_one h2) (Nat.zero_le _) (by decide)).mono ?_
    rintro e w' ⟨rfl, rfl⟩
    exact ⟨rfl, ⟨mb, f, _, _, _, h1, h2, h3, fun i hi => ⟨fun ho => (h5 i ho).2 hi, hcov i⟩⟩, Below.refl _ _, ⟨fun _ => False, Only.refl _ _, fun _ _ h => h⟩⟩
  · refine (write_some (l := []) (r := []) (at_ := 0) h1 nmA_len (file_one h2) hb (fun i hi ho => (h5 i ho).2 (hx i hi)) hu (Nat.zero_le _) (by rw [h3]; decide) hbl hb0 (by rw [hws]; decide) (by rw [h3]; simp; omega) (by decide) (by decide) (by decide) (by decide)).mono ?_
    rintro e w' ⟨rfl, cov, cv, pv, hS, hT⟩
    refine ⟨rfl, ⟨mb, _, _, _, _, hS, h2, ?_, fun i hi => ⟨fun ho => (step_own hT hB hE h5 i ho).2 hi, fun ho => ?_⟩⟩, step_below hT hB (fun i hi => (h5 i hi).1), step_off hT (fun i hi => (h5 i hi).2)⟩
    · simp [written, putL, h3]
    · rcases hT.cov i ho with h | h
      · exact hcov i h
      · have := hE i hi; omega
end Go.Proofs.Ytikpckmlnhcddaa
