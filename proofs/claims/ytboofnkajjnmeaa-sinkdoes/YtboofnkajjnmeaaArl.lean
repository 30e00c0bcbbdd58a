/-
  How an argument that is a slice of anything is opened, element by element; and what the bound of the second form says of its length. No condition.
-/
import Derived.Test.YtboofnkajjnmeaaAgs
namespace Go.Proofs.Ytboofnkajjnmeaa
open Go.ChangeShapes Go.WideShapes Go.ChangeAt Go.RowKit

theorem mapM_get {α β : Type} {f : α → Option β} : ∀ (l : List α) (r : List β), l.mapM f = some r → r.length = l.length ∧ ∀ (j : Nat) (a : α), l[j]? = some a → f a = r[j]?
  | [], r, h => by
    simp at h
    subst h
    exact ⟨rfl, fun j a h => by simp at h⟩
  | x :: l, r, h => by
    simp only [List.mapM_cons, Option.bind_eq_bind, Option.bind_eq_some_iff, Option.pure_def, Option.some.injEq] at h
    obtain ⟨y, hy, r', hr, rfl⟩ := h
    obtain ⟨h1, h2⟩ := mapM_get l r' hr
    refine ⟨by simp [h1], fun j a hj => ?_⟩
    cases j with
    | zero => simp at hj; subst hj; simpa using hy
    | succ j => simp at hj; simpa using h2 j a hj
theorem cells_get {w : World} {base n : Nat} {a : Addr} {cs : List Value} (h : w.cells? base a n = some cs) : cs.length = n ∧ ∀ j, j < n → w.cell? (a.add j) = cs[j]? := by
  unfold World.cells? at h
  split at h
  · obtain ⟨h1, h2⟩ := mapM_get _ _ h
    refine ⟨by simpa using h1, fun j hj => ?_⟩
    exact h2 j j (by simp [hj])
  · cases h
theorem pick_list {α : Type} [Inhabited α] {len : Nat} {R : Nat → α → Prop} (each : ∀ i, i < len → ∃ o, R i o) : ∃ os : List α, os.length = len ∧ ∀ i, i < len → R i os[i]! := by
  induction len with
  | zero => exact ⟨[], rfl, fun i hi => by omega⟩
  | succ len ih =>
    obtain ⟨os, h1, h2⟩ := ih (fun i hi => each i (by omega))
    obtain ⟨o, h3⟩ := each len (by omega)
    refine ⟨os ++ [o], by simp [h1], fun i hi => ?_⟩
    rcases Nat.lt_or_ge i len with h' | h'
    · have : (os ++ [o])[i]! = os[i]! := by rw [getElem!_pos _ _ (by simp; omega), getElem!_pos _ _ (by omega), List.getElem_append_left (by omega)]
      rw [this]
      exact h2 i h'
    · obtain rfl : i = len := by omega
      have : (os ++ [o])[i]! = o := by rw [getElem!_pos _ _ (by simp; omega)]; simp [← h1]
      rw [this]
      exact h3
theorem arg_list {H α : Type} [Inhabited α] {enc : TypeId × Value → H} {W : World} {t e : TypeId} {n fuel : Nat} {c : Value} {x : DataW H × List MemPlace} {cells : α → List Value} {wt : α → Nat} {R : α → Prop} (hn : 0 < n)
    (ht : Try.prog.underlying t = some (.slice e)) (hc : Try.prog.cellsOf e = n)
    (hone : ∀ (fuel : Nat) (cs : List Value) (y : DataW H × List MemPlace), cs.length = n → DataW.trod enc Try.prog W 0 (fun _ => true) true fuel e cs = some y → ∃ o : α, cs = cells o ∧ R o ∧ wt o ≤ Rows.uptoBulk y.1)
    (hf : DataW.trod enc Try.prog W 0 (fun _ => true) true fuel t [c] = some x) :
    ∃ (p : Option Addr) (cap : Nat) (os : List α), c = .slice p os.length cap ∧ os.length ≤ cap ∧ cap ≤ 9223372036854775807 ∧ (∀ o ∈ os, R o) ∧
      (∀ i, i < os.length → ∃ g k, p = some ⟨g, k, none⟩ ∧ ∀ j, j < n → W.cell? ⟨g, k + i * n + j, none⟩ = (cells os[i]!)[j]?) ∧ (os.map wt).sum + 1 ≤ Rows.uptoBulk x.1 ∧ (p = none → cap = 0) ∧ DatumOf x.1 os.length cap := by
  rcases DataW.trod_slice ht hf with ⟨h0, hx⟩ | ⟨a, len, cap, elems, rest, m, _, h0, hx, _, hl, hm, hlen, hel, hsp, _⟩
  · simp at h0
    subst h0
    exact ⟨none, 0, [], rfl, Nat.le_refl _, by decide, by simp, fun i hi => by simp at hi, by rw [hx]; simp [Rows.uptoBulk], fun _ => rfl, .inl ⟨by rw [hx], rfl, rfl⟩⟩
  · simp at h0
    subst h0
    have each : ∀ i, i < len → ∃ o : α, R o ∧ (∀ j, j < n → W.cell? ((a.add (i * n)).add j) = (cells o)[j]?) ∧ (∀ y, elems[i]? = some y → wt o ≤ Rows.uptoBulk y.1) := by
      intro i hi
      have h := hel i hi
      rw [List.getElem?_eq_getElem (by omega), hc, Option.bind_eq_some_iff] at h
      obtain ⟨cs, h1, h2⟩ := h
      obtain ⟨k1, k2⟩ := cells_get h1
      obtain ⟨o, e1, e2, e3⟩ := hone _ _ _ k1 h2
      subst e1
      refine ⟨o, e2, k2, fun y hy => ?_⟩
      rw [List.getElem?_eq_getElem (by omega)] at hy
      simp only [Option.some.injEq] at hy
      rw [← hy]
      exact e3
    obtain ⟨os, h1, h2⟩ := pick_list each
    refine ⟨some a, cap, os, by rw [h1], by omega, by unfold maxLen at hm; omega, fun o ho => ?_, fun i hi => ?_, ?_, (fun h => by cases h), .inr ⟨elems.map (·.1), rest.map (·.1), by rw [hx], by simp; omega, ?_⟩⟩
    · obtain ⟨i, hi, rfl⟩ := List.getElem_of_mem ho
      have := (h2 i (by omega)).1
      rw [getElem!_pos os i hi] at this
      exact this
    · obtain ⟨g, o, s⟩ := a
      obtain rfl : s = none := by
        have h00 := hel 0 (by omega)
        rw [List.getElem?_eq_getElem (by omega), hc, Option.bind_eq_some_iff] at h00
        obtain ⟨cs, h1', _⟩ := h00
        obtain ⟨k1, k2⟩ := cells_get h1'
        have k3 := k2 0 hn
        rw [List.getElem?_eq_getElem (by omega)] at k3
        have := World.cell?_spot k3
        simpa [Addr.add] using this
      refine ⟨g, o, rfl, fun j hj => ?_⟩
      have := (h2 i (by omega)).2.1 j hj
      rw [Go.WideShapes.add_plain, Go.WideShapes.add_plain] at this
      exact this
    · rw [hx]
      simp only [Rows.uptoBulk]
      have key : ∀ (os : List α) (ds : List (DataW H × List MemPlace)), os.length = ds.length → (∀ i, i < os.length → ∀ y, ds[i]? = some y → wt os[i]! ≤ Rows.uptoBulk y.1) → (os.map wt).sum ≤ Rows.uptoBulkAll (ds.map (·.1)) := by
        intro os
        induction os with
        | nil => intro ds _ _; simp
        | cons o os ih =>
          intro ds hl h
          cases ds with
          | nil => simp at hl
          | cons d ds =>
            have a1 := h 0 (by simp) d rfl
            have a2 := ih ds (by simpa using hl) (fun i hi y hy => by
              have := h (i + 1) (by simp; omega) y (by simpa using hy)
              have e : (o :: os)[i + 1]! = os[i]! := by rw [getElem!_pos (o :: os) (i + 1) (by simp; omega), getElem!_pos os i hi]; rfl
              rw [e] at this
              exact this)
            have e0 : (o :: os)[0]! = o := rfl
            rw [e0] at a1
            simp only [List.map_cons, List.sum_cons, Rows.uptoBulkAll]
            omega
      have := key os elems (by omega) (fun i hi y hy => (h2 i (by omega)).2.2 y hy)
      omega
    · have := (hsp rfl).1
      simp
      omega
end Go.Proofs.Ytboofnkajjnmeaa
