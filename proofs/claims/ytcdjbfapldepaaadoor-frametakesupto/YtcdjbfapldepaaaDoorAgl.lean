/-
  How an argument that is a slice of bytes, or of byte strings, is opened: it reads as a list, which lies in memory; what the bound of the second form says of its length; and what the tables hold. No condition.
-/
import Derived.Test.YtcdjbfapldepaaaDoorMak
import Derived.Test.YtcdjbfapldepaaaDoorCards
import Derived.Test.YtcdjbfapldepaaaDoorTie
import Derived.ProofKit
import Derived.OpenShut
import Derived.ChangeOld
import Derived.JoinedCond
import Derived.SizedLaws
import Derived.Deep.DeepHandedRow
import Derived.Lib.LaidTab
namespace Go.Proofs.YtcdjbfapldepaaaDoor
open Go.ChangeShapes Go.WideShapes Go.ChangeAt Go.RowKit

theorem Tryd.laidOut : laidOutB Tryd.prog = true := by kernel_rfl
theorem Tryd.ownK : ownKnob Tryd.prog.godebug = none := by kernel_rfl

/-- What is known of the datum d of a slice of len elements and cap places. -/
def DatumOf {H : Type} (d : DataW H) (len cap : Nat) : Prop := (d = .nil ∧ len = 0 ∧ cap = 0) ∨ ∃ elems spare, d = .slice elems spare ∧ elems.length = len ∧ elems.length + spare.length = cap

theorem arg_row {H : Type} {enc : TypeId × Value → H} {W : World} {t e : TypeId} {k : IntKind} {fuel len cap : Nat} {a : Option Addr} {d : DataW H} {p : List MemPlace}
    (ht : Tryd.prog.underlying t = some (.slice e)) (he : Tryd.prog.underlying e = some (.int k)) (hc : Tryd.prog.cellsOf e = 1)
    (hf : DataW.trod enc Tryd.prog W 0 (fun _ => true) true fuel t (Value.slice a len cap).cells.toList = some (d, p)) :
    ∃ l : List Int, l.length = len ∧ Row k W (.slice a len cap) l ∧ (∀ x ∈ l, (Lit.int k x).wf = true) ∧ DatumOf d len cap := by
  have hcs : (Value.slice a len cap).cells.toList = [.slice a len cap] := by simp [Value.cells]
  rcases open_ints ht he hc hf with ⟨h0, hx⟩ | ⟨x, len', cap', zs, h0, _, hl, hm, hz, hx, hcell, hwz⟩
  · rw [hcs] at h0
    simp at h0
    obtain ⟨rfl, rfl, rfl⟩ := h0
    simp only [Prod.mk.injEq] at hx
    exact ⟨[], rfl, Row.nil _ _, by simp, .inl ⟨hx.1, rfl, rfl⟩⟩
  · rw [hcs] at h0
    simp at h0
    obtain ⟨rfl, rfl, rfl⟩ := h0
    have hz' : zs.length = cap := by simpa using hz
    have e : (zs.take len).length = len := by rw [List.length_take]; omega
    simp only [Prod.mk.injEq] at hx
    refine ⟨zs.take len, e, ⟨some x, cap, by rw [e], by omega, by unfold maxLen at hm; omega, (by intro h; cases h), fun hp => ?_⟩, fun y hy => hwz y (List.mem_of_mem_take hy), .inr ⟨_, _, hx.1, ?_, ?_⟩⟩
    · rw [e] at hp
      obtain ⟨b, o, s⟩ := x
      obtain rfl : s = none := by
        have := World.cell?_spot (hcell 0 (by omega))
        simpa [Addr.add] using this
      refine ⟨b, o, rfl, fun i hi => ?_⟩
      rw [e] at hi
      have := hcell i (by omega)
      rw [Go.WideShapes.add_plain] at this
      rw [this]
      simp [List.getD, hi]
    · simp [lits]; omega
    · simp [lits]; omega

theorem bulk_one {H : Type} (d : DataW H) : 1 ≤ Rows.uptoBulk d := by
  cases d with
  | lit l => cases l <;> simp [Rows.uptoBulk]
  | _ => simp [Rows.uptoBulk]
theorem bulk_many {H : Type} (l : List (DataW H)) : l.length ≤ Rows.uptoBulkAll l := by
  induction l with
  | nil => simp [Rows.uptoBulkAll]
  | cons x r ih => have := bulk_one x; simp only [Rows.uptoBulkAll, List.length_cons]; omega
theorem DatumOf.bulk {H : Type} {d : DataW H} {len cap : Nat} (h : DatumOf d len cap) : len ≤ Rows.uptoBulk d := by
  rcases h with ⟨_, h, _⟩ | ⟨elems, spare, rfl, h, _⟩
  · omega
  · have := bulk_many elems; simp only [Rows.uptoBulk]; omega
theorem wf_u8 {l : List Int} (h : ∀ x ∈ l, (Lit.int .u8 x).wf = true) : U8 l := fun x hx => by have := bounds_u8 (h x hx); omega

/-- What the form's own reach says of a slice's length. -/
theorem sized_len {H : Type} {ts : List TypeId} {ds : List (DataW H)} (h : (DataW.weightsEach Tryd.prog ts ds).all (· ≤ reachBytes) = true) {j : Nat} {t e : TypeId} {len cap bytes : Nat} {d : DataW H}
    (ht : ts[j]? = some t) (hd : ds[j]? = some d) (hu : Tryd.prog.underlying t = some (.slice e)) (hb : Tryd.prog.bytesOf e = bytes) (hD : DatumOf d len cap) : len * bytes ≤ 140737488351232 := by
  rcases hD with ⟨_, hl, _⟩ | ⟨elems, spare, rfl, hl, _⟩
  · rw [hl]; omega
  · have := sized_slice h ht hd hu
    rw [hb] at this
    have h2 : len * bytes ≤ (elems.length + spare.length) * bytes := Nat.mul_le_mul_right _ (by omega)
    unfold reachBytes at this
    omega


theorem Tryd.cellsBytes : Tryd.prog.cellsOf 22 = 1 := by kernel_rfl
theorem one_cell {w : World} {base : Nat} {a : Addr} {cs : List Value} (h : w.cells? base a 1 = some cs) : ∃ c, cs = [c] ∧ w.cell? (a.add 0) = some c := by
  unfold World.cells? at h
  split at h
  · have e : List.range 1 = [0] := by decide
    rw [e] at h
    simp only [List.mapM_cons, List.mapM_nil, Option.bind_eq_bind, Option.bind_eq_some_iff, Option.pure_def, Option.some.injEq] at h
    obtain ⟨c, h0, r, h1, rfl⟩ := h
    subst h1
    exact ⟨c, rfl, h0⟩
  · cases h

/-- A slice of bytes in one cell. -/
theorem cell_row {H : Type} {enc : TypeId × Value → H} {W : World} {fuel : Nat} {c : Value} {d : DataW H} {p : List MemPlace}
    (hf : DataW.trod enc Tryd.prog W 0 (fun _ => true) true fuel 22 [c] = some (d, p)) : ∃ l : List Int, Row .u8 W c l ∧ U8 l ∧ l.length + 1 ≤ Rows.uptoBulk d := by
  have hs : ∃ a len cap, c = .slice a len cap := by
    rcases DataW.trod_slice Tryd.underlying22 hf with ⟨h0, _⟩ | ⟨x, len, cap, _, _, _, _, h0, _⟩
    · simp at h0; exact ⟨_, _, _, h0⟩
    · simp at h0; exact ⟨_, _, _, h0⟩
  obtain ⟨a, len, cap, rfl⟩ := hs
  have hf' : DataW.trod enc Tryd.prog W 0 (fun _ => true) true fuel 22 (Value.slice a len cap).cells.toList = some (d, p) := by
    have : (Value.slice a len cap).cells.toList = [.slice a len cap] := by simp [Value.cells]
    rw [this]; exact hf
  obtain ⟨l, hl, hr, hw, hD⟩ := arg_row Tryd.underlying22 Tryd.underlying5 (by kernel_rfl) hf'
  refine ⟨l, hr, wf_u8 hw, ?_⟩
  rcases hD with ⟨rfl, h, _⟩ | ⟨elems, spare, rfl, h, _⟩
  · simp only [Rows.uptoBulk]; omega
  · have := bulk_many elems; simp only [Rows.uptoBulk]; omega

theorem bulk_sum {H : Type} : ∀ (xs : List (List Int)) (ds : List (DataW H)), xs.length = ds.length → (∀ i, i < xs.length → ∃ d, ds[i]? = some d ∧ (xs.getD i []).length + 1 ≤ Rows.uptoBulk d) → flen xs ≤ 12 * Rows.uptoBulkAll ds := by
  intro xs
  induction xs with
  | nil => intro ds _ _; simp [flen_nil]
  | cons x xs ih =>
    intro ds hl h
    cases ds with
    | nil => simp at hl
    | cons d ds =>
      obtain ⟨d', h1, h2⟩ := h 0 (by simp)
      simp at h1 h2
      subst h1
      have := ih ds (by simpa using hl) (fun i hi => by
        obtain ⟨d', h1, h2⟩ := h (i + 1) (by simp; omega)
        simp at h1 h2
        exact ⟨d', h1, h2⟩)
      rw [flen_cons]
      simp only [Rows.uptoBulkAll]
      omega

theorem arg_rows2 {H : Type} {enc : TypeId × Value → H} {W : World} {fuel len cap : Nat} {a : Option Addr} {d : DataW H} {p : List MemPlace}
    (hf : DataW.trod enc Tryd.prog W 0 (fun _ => true) true fuel 23 (Value.slice a len cap).cells.toList = some (d, p)) :
    ∃ xs : List (List Int), Rows2 W (.slice a len cap) xs ∧ (∀ x ∈ xs, U8 x) ∧ flen xs ≤ 12 * Rows.uptoBulk d := by
  have hcs : (Value.slice a len cap).cells.toList = [.slice a len cap] := by simp [Value.cells]
  rcases DataW.trod_slice Tryd.underlying23 hf with ⟨h0, hx⟩ | ⟨x, len', cap', elems, rest, n, _, h0, hx, _, hl, hm, hlen, hel, hsp, _⟩
  · rw [hcs] at h0
    simp at h0
    obtain ⟨rfl, rfl, rfl⟩ := h0
    exact ⟨[], Rows2.nil _, by simp, by simp [flen_nil]⟩
  · rw [hcs] at h0
    simp at h0
    obtain ⟨rfl, rfl, rfl⟩ := h0
    simp only [Prod.mk.injEq] at hx
    have each : ∀ i, i < len → ∃ (u : Value) (l : List Int) (dd : DataW H), W.cell? (x.add i) = some u ∧ Row .u8 W u l ∧ U8 l ∧ (elems.map (·.1))[i]? = some dd ∧ l.length + 1 ≤ Rows.uptoBulk dd := by
      intro i hi
      have h := hel i hi
      rw [List.getElem?_eq_getElem (by omega), Tryd.cellsBytes, Option.bind_eq_some_iff] at h
      obtain ⟨cs, h1, h2⟩ := h
      obtain ⟨c, rfl, hc⟩ := one_cell h1
      obtain ⟨l, hr, hu, hb⟩ := cell_row h2
      refine ⟨c, l, _, ?_, hr, hu, ?_, hb⟩
      · have e0 : ∀ a : Addr, a.add 0 = a := by intro a; simp [Addr.add]
        rw [Nat.mul_one, e0] at hc
        exact hc
      · simp [List.getElem?_eq_getElem (show i < elems.length by omega)]
    let xs : List (List Int) := (List.range len).map fun i => if h : i < len then (Classical.choose (Classical.choose_spec (each i h))) else []
    have hxl : xs.length = len := by simp [xs]
    have hget : ∀ i (h : i < len), xs.getD i [] = Classical.choose (Classical.choose_spec (each i h)) := by
      intro i h
      simp [xs, List.getD, h]
    have spec : ∀ i, i < len → ∃ (u : Value) (dd : DataW H), W.cell? (x.add i) = some u ∧ Row .u8 W u (xs.getD i []) ∧ U8 (xs.getD i []) ∧ (elems.map (·.1))[i]? = some dd ∧ (xs.getD i []).length + 1 ≤ Rows.uptoBulk dd := by
      intro i h
      obtain ⟨dd, h1, h2, h3, h4, h5⟩ := Classical.choose_spec (Classical.choose_spec (each i h))
      rw [← hget i h] at h2 h3 h5
      exact ⟨_, dd, h1, h2, h3, h4, h5⟩
    refine ⟨xs, ⟨some x, cap, by rw [hxl], by omega, by unfold maxLen at hm; omega, (by intro h; cases h), fun hp => ?_⟩, ?_, ?_⟩
    · rw [hxl] at hp
      obtain ⟨bb, o, s⟩ := x
      obtain rfl : s = none := by
        obtain ⟨u, _, h, _⟩ := spec 0 hp
        have := World.cell?_spot h
        simpa [Addr.add] using this
      refine ⟨bb, o, rfl, fun i hi => ?_⟩
      rw [hxl] at hi
      obtain ⟨u, _, h1, h2, _⟩ := spec i hi
      rw [Go.WideShapes.add_plain] at h1
      exact ⟨u, h1, h2⟩
    · intro y hy
      obtain ⟨i, hi, rfl⟩ := List.getElem_of_mem hy
      obtain ⟨_, _, _, _, h3, _⟩ := spec i (by omega)
      simpa [List.getD, List.getElem?_eq_getElem hi] using h3
    · rw [hx.1]
      have := bulk_sum xs (elems.map (·.1)) (by simp; omega) (fun i hi => by
        obtain ⟨_, dd, _, _, _, h4, h5⟩ := spec i (by omega)
        exact ⟨dd, h4, h5⟩)
      simp only [Rows.uptoBulk]
      omega

/- THE TABLES. -/
theorem gLow : Tryd.prog.globalNamed "pontoon/frame.lowBits" = some 0 := by kernel_rfl
theorem gHigh : Tryd.prog.globalNamed "pontoon/frame.highBits" = some 1 := by kernel_rfl
theorem gLowT : (Tryd.prog.globals[0]?).map (·.type) = some 50 := by kernel_rfl
theorem gHighT : (Tryd.prog.globals[1]?).map (·.type) = some 50 := by kernel_rfl
theorem cellsTab : Tryd.prog.cellsOf 50 = 16 := by kernel_rfl
theorem cellsU32 : Tryd.prog.cellsOf 31 = 1 := by kernel_rfl

theorem cast_getD (l : List Nat) (i : Nat) : (l.map fun n : Nat => (n : Int)).getD i 0 = ((l.getD i 0 : Nat) : Int) := by
  simp only [List.getD, List.getElem?_map]
  cases l[i]? <;> rfl

theorem tables {W : World} (h : laidMetH Tryd.prog Rows.frameMakesRow.laid W) : Tabs W := by
  have h' : laidMet Tryd.prog [("pontoon/frame.lowBits", Lib.tabData .u32 (low.map fun n : Nat => (n : Int))), ("pontoon/frame.highBits", Lib.tabData .u32 (high.map fun n : Nat => (n : Int)))] W := h
  have h1 : Lib.TabIs Tryd.prog W "pontoon/frame.lowBits" .u32 (low.map fun n : Nat => (n : Int)) := Lib.tabIs_of_head gLow gLowT Tryd.underlying50 Tryd.underlying31 cellsU32 cellsTab h'
  have h2 : Lib.TabIs Tryd.prog W "pontoon/frame.highBits" .u32 (high.map fun n : Nat => (n : Int)) := by
    obtain ⟨ps, ⟨g, t, cs, fuel, p, q, _, _, _, _, ⟨g', t', cs', fuel', p', q', hg', ht', hvar, hd, _, _⟩, _⟩, _⟩ := h'
    obtain rfl := Option.some.inj (gHigh.symm.trans hg')
    obtain rfl := Option.some.inj (gHighT.symm.trans ht')
    unfold Lib.TabIs
    rw [hvar, ← Lib.cells_of_tab Tryd.underlying50 Tryd.underlying31 cellsU32 cellsTab hd]
  refine ⟨fun i hi => ?_, fun i hi => ?_⟩
  · have := h1.cell gLow i (by simpa [low] using hi)
    rw [this, cast_getD]
  · have := h2.cell gHigh i (by simpa [high] using hi)
    rw [this, cast_getD]

end Go.Proofs.YtcdjbfapldepaaaDoor
