/-
  Queues of events, plainly and as they lie in memory: the program's and the reference's. No conditions.
-/
import Derived.Test.YtmmdgffgnpnmeaaEvm
import Derived.OwnWalk
namespace Go.Proofs.Ytmmdgffgnpnmeaa
open Go.RowKit

def fits (e : EV) : Prop := (e.kind = 1 ∧ e.id = 0) ∨ (e.kind = 2 ∧ e.key = 0 ∧ e.val = 0 ∧ 1 ≤ e.id ∧ e.id ≤ 9007199254740992)
instance (e : EV) : Decidable (fits e) := by unfold fits; infer_instance
def checkE (e : EV) : Int := if fits e then 0 else 1
theorem check_yes {e : EV} (h : fits e) : checkE e = 0 := if_pos h
theorem check_no {e : EV} (h : ¬ fits e) : checkE e = 1 := if_neg h
/-- A queue. -/
structure QC where
  room : Nat
  evs : List EV
  last : Int
def QC.ok (q : QC) : Prop := 1 ≤ q.room ∧ q.room ≤ 64 ∧ q.evs.length ≤ q.room ∧ ∀ e ∈ q.evs, e.kind = 1 ∨ e.kind = 2
def QC.with_ (q : QC) (e : EV) : QC := ⟨q.room, q.evs ++ [e], if e.kind = 2 then e.id else q.last⟩
def QC.err (q : QC) (e : EV) : Int := if fits e then (if q.room ≤ q.evs.length then 6 else if e.kind = 2 ∧ e.id ≤ q.last then 7 else 0) else 1
def QC.put (q : QC) (e : EV) : QC := if q.err e = 0 then q.with_ e else q
def QC.rest (q : QC) : QC := ⟨q.room, q.evs.tail, q.last⟩
def QC.first (q : QC) : EV := q.evs.headD ⟨0, 0, 0, 0⟩
def QC.any (q : QC) : Bool := decide (q.evs ≠ [])
def recsC : List EV → Nat
  | [] => 0
  | e :: es => if e.kind = 2 then 0 else recsC es + 1
theorem fits_kind {e : EV} (h : fits e) : e.kind = 1 ∨ e.kind = 2 := by rcases h with h | h; exact .inl h.1; exact .inr h.1
theorem QC.put_ok {q : QC} (h : q.ok) (e : EV) : (q.put e).ok := by
  obtain ⟨h1, h2, h3, h4⟩ := h
  unfold QC.put
  by_cases c : q.err e = 0
  · rw [if_pos c]
    have hf : fits e := by
      unfold QC.err at c
      by_cases hf : fits e
      · exact hf
      · rw [if_neg hf] at c; cases c
    have hr : ¬ q.room ≤ q.evs.length := by
      intro hr
      unfold QC.err at c
      rw [if_pos hf, if_pos hr] at c
      cases c
    refine ⟨h1, h2, ?_, fun x hx => ?_⟩
    · show (q.evs ++ [e]).length ≤ q.room
      simp
      omega
    · rcases List.mem_append.1 (show x ∈ q.evs ++ [e] from hx) with hx | hx
      · exact h4 x hx
      · simp only [List.mem_singleton] at hx
        rw [hx]
        exact fits_kind hf
  · rw [if_neg c]
    exact ⟨h1, h2, h3, h4⟩
theorem QC.rest_ok {q : QC} (h : q.ok) : q.rest.ok := by
  obtain ⟨h1, h2, h3, h4⟩ := h
  exact ⟨h1, h2, by show q.evs.tail.length ≤ q.room; simp; omega, fun x hx => h4 x (List.mem_of_mem_tail hx)⟩
/-- The program's queue, as it lies at block b; its events are a row of its own. -/
structure PQ (base : Nat) (W : World) (b : Nat) (p : Option Addr) (c : Nat) (q : QC) : Prop where
  box : W.heap[b]? = some (.cells #[.int .i64 (q.room : Int), .slice p q.evs.length c, .int .i64 q.last] 54 (0, 0))
  row : W.ownsRow base 34 4 (.slice p q.evs.length c) q.evs.length (q.evs.flatMap EV.cells)
  ge : base ≤ b
/-- The blocks of the program's queue. -/
def PQ.at (b : Nat) (p : Option Addr) (i : Nat) : Prop := i = b ∨ ∃ a, p = some a ∧ i = a.block
/-- The reference's queue, as it lies at block b. -/
structure RQ (base : Nat) (W : World) (b : Nat) (p : Option Addr) (c : Nat) (q : QC) : Prop where
  box : W.heap[b]? = some (.cells #[.slice p q.evs.length c, .int .i64 (q.room : Int), .int .i64 q.last] 58 (0, 0))
  row : ERow W p c q.evs
  ge : base ≤ b
theorem PQ.only {F : Nat → Prop} {base : Nat} {W W' : World} {b : Nat} {p : Option Addr} {c : Nat} {q : QC} (h : PQ base W b p c q) (ho : Only F W W') (hF : ∀ i, PQ.at b p i → ¬ F i) : PQ base W' b p c q :=
  ⟨ho.obj h.box (hF b (.inl rfl)), ownsRow_only h.row ho (fun i hi => hF i (.inr (by
    cases p with
    | none => simp [Value.ownBlock] at hi
    | some a => exact ⟨a, rfl, by simpa [Value.ownBlock] using hi.symm⟩))), h.ge⟩
theorem RQ.only {F : Nat → Prop} {base : Nat} {W W' : World} {b : Nat} {p : Option Addr} {c : Nat} {q : QC} (h : RQ base W b p c q) (ho : Only F W W') (hF : ∀ i, PQ.at b p i → ¬ F i) : RQ base W' b p c q :=
  ⟨ho.obj h.box (hF b (.inl rfl)), ⟨h.row.le, h.row.top, h.row.nil, fun i hi => by
    obtain ⟨g, o, e, h1⟩ := h.row.cell i hi
    refine ⟨g, o, e, fun j hj => ?_⟩
    have h2 := h1 j hj
    rw [List.getElem?_eq_getElem (by rw [EV.len]; exact hj)] at h2 ⊢
    exact ho.cell h2 (hF _ (.inr ⟨_, e, rfl⟩))⟩, h.ge⟩
theorem PQ.later {base : Nat} {W W' : World} {b : Nat} {p : Option Addr} {c : Nat} {q : QC} (h : PQ base W b p c q) (hb : Below W.heap.size W W') : PQ base W' b p c q :=
  h.only (Only.fresh hb (fun _ => False)) (fun _ _ e => e)
theorem RQ.later {base : Nat} {W W' : World} {b : Nat} {p : Option Addr} {c : Nat} {q : QC} (h : RQ base W b p c q) (hb : Below W.heap.size W W') : RQ base W' b p c q :=
  h.only (Only.fresh hb (fun _ => False)) (fun _ _ e => e)
theorem PQ.erow {base : Nat} {W : World} {b : Nat} {p : Option Addr} {c : Nat} {q : QC} (h : PQ base W b p c q) : ERow W p c q.evs := LRow.of_own EV.len rfl h.row
theorem PQ.ges {base : Nat} {W : World} {b : Nat} {p : Option Addr} {c : Nat} {q : QC} (h : PQ base W b p c q) {i : Nat} (hi : PQ.at b p i) : base ≤ i ∧ i < W.heap.size := by
  rcases hi with rfl | ⟨a, rfl, rfl⟩
  · exact ⟨h.ge, (Array.getElem?_eq_some_iff.1 h.box).1⟩
  · exact ⟨own_block_base h.row (b := a.block) rfl, (own_block_lt h.row (b := a.block) rfl).1⟩
end Go.Proofs.Ytmmdgffgnpnmeaa
