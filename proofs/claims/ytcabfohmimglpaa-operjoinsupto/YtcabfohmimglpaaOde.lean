/-
  search of package oper, slices.Delete of one KeyState, slices.Clone of KeyStates. The conditions: lengths.
-/
import Derived.Test.YtcabfohmimglpaaOin
import Derived.Deep.DeepAppendRoom
import Derived.WalkMore
namespace Go.Proofs.Ytcabfohmimglpaa
open Go.RowKit

theorem zero_cells3 (n : Nat) : (Builtin.zeroCells #[.int .i64 0, .int .i64 0, .int .i64 0] n).toList = List.replicate (n * 3) (.int .i64 0) := by
  apply List.ext_getElem
  · simp [Builtin.zeroCells]
  · intro i h1 h2
    simp only [Builtin.zeroCells, Array.toList_map, Array.toList_range, List.getElem_map, List.getElem_range, List.getElem_replicate]
    have hq : i % 3 < 3 := Nat.mod_lt _ (by decide)
    show (#[Value.int .i64 0, .int .i64 0, .int .i64 0] : Array Value)[i % 3]! = _
    generalize i % 3 = q at hq
    have : q = 0 ∨ q = 1 ∨ q = 2 := by omega
    rcases this with rfl | rfl | rfl <;> rfl
theorem run_clear3 (w : World) (ty : TypeId) (b o n c : Nat) (hn : 0 < n) (hc : ∀ j, j < n * 3 → (w.cell? ⟨b, o + j, none⟩).isSome = true) (hf : ∀ j, j < n * 3 → w.frozen? ⟨b, o + j, none⟩ = false) :
    (Builtin.clear_ #[27] ty #[.slice (some ⟨b, o, none⟩) n c]).run Try.prog w = .ok (.tuple #[]) (w.setCells b o (List.replicate (n * 3) (.int .i64 0))) := by
  have hv : ∀ w, (zeroValue 43).run Try.prog w = .ok (.agg #[.int .i64 0, .int .i64 0, .int .i64 0]) w := fun w => by
    simp [zeroValue]
    rfl
  have hst := run_storeCells_cells (P := Try.prog) b o (List.replicate (n * 3) (.int .i64 0)) 0 w (by simpa using hc) (by simpa using hf) (by intro v hv'; rw [List.eq_of_mem_replicate hv']; rfl)
  simp only [Nat.add_zero] at hst
  obtain ⟨m, rfl⟩ : ∃ m, n = m + 1 := ⟨n - 1, by omega⟩
  have hzc := zero_cells3 (m + 1)
  simp [Builtin.clear_, run_underlying Try.underlying27, hv, Value.cells, hzc, hst]
theorem own_someK {W : World} {base e k n cap g i : Nat} {xs : List Value} (h : W.ownsRow base e k (.slice (some ⟨g, 0, none⟩) n cap) n xs) (hi : i < cap * k) : (W.cell? ⟨g, i, none⟩).isSome = true := by
  rcases h.2 with ⟨e', _⟩ | ⟨g', cap', cur, e', hb, hg, h1, h2, h3, h4⟩
  · cases e'
  · simp only [Value.slice.injEq, Option.some.injEq, Addr.mk.injEq, and_true, true_and] at e'
    obtain ⟨rfl, rfl⟩ := e'
    have hlt : i < cur.size := by omega
    simp [World.cell?, hg, hlt]
/-- append into what is there, one step of a region that draws its order. -/
theorem step_append_spare {P : Program} {ops : Array Oper} {o : Oper} {a : Act} {w : World} {K : Act → World → Prop} {Q : Exit → Act → World → Prop} {E : Prop} (hgd : o.guard = none) (s x : Operand) (t : TypeId)
    (ho : o.op = .call { callee := .builtin .append, args := #[s, x], argTypes := #[t, t] })
    (base : Nat) (e : TypeId) (i : TypeInfo) (size : Nat) (ht : P.underlying t = some (.slice e)) (hi : P.info? e = some i) (hsize : i.size = size)
    (g n cap : Nat) (xs : List Value) (hs : a.eval s = .slice (some ⟨g, 0, none⟩) n cap) (hown : w.ownsRow base e size (.slice (some ⟨g, 0, none⟩) n cap) n xs)
    (ad : Addr) (m c : Nat) (news : List Value) (hx : a.eval x = .slice (some ad) m c) (hl : news.length = m * size) (hnews : ∀ j u, news[j]? = some u → w.cell? (ad.add j) = some u) (h1 : ∀ u ∈ news, u.oneCell' = true)
    (hroom : n + m ≤ cap)
    (h : ∀ w', w'.ownsRow base e size (.slice (some ⟨g, 0, none⟩) (n + m) cap) (n + m) (xs ++ news) → w.grownBy w' (some g) → K (a.put o.dst (.slice (some ⟨g, 0, none⟩) (n + m) cap)) w') :
    if Region.wanted o (yielded ops a.tmps) = true then Oper.wp P o a w K Q else E := by
  have hw : Region.wanted o (yielded ops a.tmps) = true := by simp [Region.wanted, hgd]
  rw [if_pos hw]
  exact wp_append_own_spare w s x t ho base e i size ht hi hsize g n cap xs hs hown ad m c news hx hl hnews h1 hroom h
/-- Where a key stands, or is to stand. -/
structure Found1 (ks : List KS) (key : Int) (i : Nat) (fd : Bool) : Prop where
  le : i ≤ ks.length
  yes : fd = true → i < ks.length ∧ (ks[i]!).key = key
  no : fd = false → (∀ x ∈ ks, x.key ≠ key) ∧ (∀ x ∈ ks.take i, x.key ≤ key) ∧ (i < ks.length → key < (ks[i]!).key)
/-- What search knows behind k rounds. -/
def SrI (ks : List KS) (key : Int) (k a : Nat) : Prop := (∀ x ∈ ks.take k, x.key ≠ key) ∧ (∀ x ∈ ks.take (min a k), x.key ≤ key) ∧ ((a = ks.length ∧ ∀ x ∈ ks.take k, x.key ≤ key) ∨ (a < k ∧ key < (ks[a]!).key))
abbrev KRow (W : World) (p : Option Addr) (cap : Nat) (ks : List KS) : Prop := ks.length ≤ cap ∧ cap ≤ 9223372036854775807 ∧ (p = none → cap = 0) ∧ ∀ i, i < ks.length → ∃ g o, p = some ⟨g, o, none⟩ ∧ ∀ j, j < 3 → W.cell? ⟨g, o + i * 3 + j, none⟩ = (KS.cells ks[i]!)[j]?
theorem KRow.later {W W' : World} {p : Option Addr} {cap : Nat} {ks : List KS} (h : KRow W p cap ks) (hb : Below W.heap.size W W') : KRow W' p cap ks := by
  obtain ⟨h1, h2, h3, h4⟩ := h
  refine ⟨h1, h2, h3, fun i hi => ?_⟩
  obtain ⟨g, o, e, hc⟩ := h4 i hi
  refine ⟨g, o, e, fun j hj => ?_⟩
  have h5 := hc j hj
  rw [List.getElem?_eq_getElem (by rw [KS.len]; exact hj)] at h5 ⊢
  exact cell_later hb h5
theorem take_snocK {ks : List KS} {k : Nat} (hk : k < ks.length) {x : KS} (hx : ks[k]! = x) : ks.take (k + 1) = ks.take k ++ [x] := by
  rw [List.take_succ_eq_append_getElem hk, ← hx, getElem!_pos ks k hk]
theorem sr_low {ks : List KS} {key : Int} {k a : Nat} (h : SrI ks key k a) (hk : k < ks.length) {x : KS} (hx : ks[k]! = x) (hne : x.key ≠ key) (hle : x.key ≤ key) : SrI ks key (k + 1) a := by
  obtain ⟨h1, h2, h3⟩ := h
  have e1 := take_snocK hk hx
  have m1 : ∀ y ∈ ks.take (k + 1), y ∈ ks.take k ∨ y = x := fun y hy => by rw [e1, List.mem_append] at hy; simpa using hy
  refine ⟨fun y hy => ?_, fun y hy => ?_, ?_⟩
  · rcases m1 y hy with hy | rfl
    · exact h1 y hy
    · exact hne
  · rcases h3 with ⟨h3, h4⟩ | ⟨h3, h4⟩
    · rw [Nat.min_eq_right (by omega)] at hy
      rcases m1 y hy with hy | rfl
      · exact h4 y hy
      · exact hle
    · rw [Nat.min_eq_left (by omega)] at hy
      rw [Nat.min_eq_left (by omega)] at h2
      exact h2 y hy
  · rcases h3 with ⟨h3, h4⟩ | ⟨h3, h4⟩
    · exact .inl ⟨h3, fun y hy => by
        rcases m1 y hy with hy | rfl
        · exact h4 y hy
        · exact hle⟩
    · exact .inr ⟨by omega, h4⟩
theorem sr_high {ks : List KS} {key : Int} {k a : Nat} (h : SrI ks key k a) (hk : k < ks.length) {x : KS} (hx : ks[k]! = x) (hgt : key < x.key) : SrI ks key (k + 1) (min a k) := by
  obtain ⟨h1, h2, h3⟩ := h
  have e1 := take_snocK hk hx
  have m1 : ∀ y ∈ ks.take (k + 1), y ∈ ks.take k ∨ y = x := fun y hy => by rw [e1, List.mem_append] at hy; simpa using hy
  refine ⟨fun y hy => ?_, fun y hy => ?_, .inr ?_⟩
  · rcases m1 y hy with hy | rfl
    · exact h1 y hy
    · omega
  · rw [Nat.min_eq_left (by omega)] at hy
    exact h2 y hy
  · rcases h3 with ⟨h3, h4⟩ | ⟨h3, h4⟩
    · rw [Nat.min_eq_right (by omega), hx]
      exact ⟨by omega, hgt⟩
    · rw [Nat.min_eq_left (by omega)]
      exact ⟨by omega, h4⟩
end Go.Proofs.Ytcabfohmimglpaa
