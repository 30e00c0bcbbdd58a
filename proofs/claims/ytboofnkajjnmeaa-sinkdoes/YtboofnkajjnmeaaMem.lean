/-
  Slices of integers as a view of memory, what is kept from world to world, and bytes.Equal and Clone over any world. The conditions: each slice reads as data.
-/
import Derived.Test.YtboofnkajjnmeaaRows
import Derived.WalkKit
import Derived.WalkSpells
import Derived.WalkLawsBesides
import Derived.Lib.BitFns
import Derived.Laws.BytesArg
import Derived.Lib.Bytes
import Derived.Laws.BitsAllLaws
import Derived.Laws.AppendOwnNone
namespace Go.Proofs.Ytboofnkajjnmeaa
open Go.RowKit

def U8 (l : List Int) : Prop := ∀ x ∈ l, 0 ≤ x ∧ x < 256
/- SLICES OF INTEGERS AS THEY LIE IN MEMORY. 'Row k w v l': v is a slice whose elements, of kind k, are l. -/
def Row (k : IntKind) (w : World) (v : Value) (l : List Int) : Prop :=
  ∃ p cap, v = .slice p l.length cap ∧ l.length ≤ cap ∧ cap ≤ 9223372036854775807 ∧ (p = none → cap = 0) ∧
    (0 < l.length → ∃ b o, p = some ⟨b, o, none⟩ ∧ ∀ i, i < l.length → w.cell? ⟨b, o + i, none⟩ = some (.int k (l.getD i 0)))

theorem Row.nil (k : IntKind) (w : World) : Row k w (.slice none 0 0) [] :=
  ⟨none, 0, rfl, Nat.le_refl _, by decide, fun _ => rfl, fun h => absurd h (by simp)⟩

theorem Row.kept {k : IntKind} {w w' : World} {v : Value} {l : List Int} {row : Option Nat} (h : Row k w v l) (hg : w.grownBy w' row) (hne : v.ownBlock = none ∨ v.ownBlock ≠ row) : Row k w' v l := by
  obtain ⟨p, cap, rfl, h1, h2, h3, h4⟩ := h
  refine ⟨p, cap, rfl, h1, h2, h3, fun hp => ?_⟩
  obtain ⟨b, o, rfl, hc⟩ := h4 hp
  refine ⟨b, o, rfl, fun i hi => hg.cell (hc i hi) ?_⟩
  rcases hne with hne | hne
  · simp [Value.ownBlock] at hne
  · simpa [Value.ownBlock] using hne

theorem Row.below {k : IntKind} {w w' : World} {v : Value} {l : List Int} (h : Row k w v l) (hb : Below w.heap.size w w') : Row k w' v l := by
  obtain ⟨p, cap, rfl, h1, h2, h3, h4⟩ := h
  refine ⟨p, cap, rfl, h1, h2, h3, fun hp => ?_⟩
  obtain ⟨b, o, rfl, hc⟩ := h4 hp
  exact ⟨b, o, rfl, fun i hi => cell_later hb (hc i hi)⟩

theorem Row.news {k : IntKind} {w : World} {v : Value} {l : List Int} (h : Row k w v l) (hp : l ≠ []) :
    ∃ b o cap, v = .slice (some ⟨b, o, none⟩) l.length cap ∧ l.length ≤ cap ∧ (∀ j u, (l.map (Value.int k))[j]? = some u → w.cell? ((⟨b, o, none⟩ : Addr).add j) = some u) := by
  obtain ⟨p, cap, rfl, h1, h2, h3, h4⟩ := h
  have hl : 0 < l.length := List.length_pos_iff.2 hp
  obtain ⟨b, o, rfl, hc⟩ := h4 hl
  refine ⟨b, o, cap, rfl, h1, fun j u hj => ?_⟩
  have hjl : j < l.length := by have := (List.getElem?_eq_some_iff.1 hj).1; simpa using this
  have := hc j hjl
  have e : ((⟨b, o, none⟩ : Addr).add j) = ⟨b, o + j, none⟩ := Go.WideShapes.add_plain _ _ _
  rw [e, this]
  simp [List.getElem?_eq_getElem hjl] at hj
  rw [← hj]
  simp [List.getD, List.getElem?_eq_getElem hjl]

theorem Row.take {k : IntKind} {w : World} {p : Option Addr} {cap : Nat} {l : List Int} (h : Row k w (.slice p l.length cap) l) {j : Nat} (hj : j ≤ l.length) :
    Row k w (.slice p j cap) (l.take j) := by
  obtain ⟨p', cap', he, h1, h2, h3, h4⟩ := h
  simp only [Value.slice.injEq, true_and] at he
  obtain ⟨rfl, rfl⟩ := he
  have e : (l.take j).length = j := by rw [List.length_take]; omega
  refine ⟨p, cap, by rw [e], by omega, h2, h3, ?_⟩
  intro hp
  rw [e] at hp
  obtain ⟨b, o, rfl, hc⟩ := h4 (by omega)
  refine ⟨b, o, rfl, fun i hi => ?_⟩
  rw [e] at hi
  rw [hc i (by omega)]
  simp [List.getD, hi]
theorem U8.drop {l : List Int} (h : U8 l) (j : Nat) : U8 (l.drop j) := fun x hx => h x (List.mem_of_mem_drop hx)
theorem U8.take {l : List Int} (h : U8 l) (j : Nat) : U8 (l.take j) := fun x hx => h x (List.mem_of_mem_take hx)
theorem U8.append {l m : List Int} (h : U8 l) (g : U8 m) : U8 (l ++ m) := fun x hx => (List.mem_append.1 hx).elim (h x) (g x)


end Go.Proofs.Ytboofnkajjnmeaa
