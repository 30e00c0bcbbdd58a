/-
  What the functions on numbers of four bytes return: frame.numberOf and value, the reference's four and number; over any world, in which nothing that was there turns. The conditions: an argument is a value of its Go type; a slice reads as at least four bytes.
-/
import Derived.Test.YtcdjbfapldepaaaDoorSum
import Derived.Lib.EndianBits
import Derived.Handy
namespace Go.Proofs.YtcdjbfapldepaaaDoor
open Go.RowKit

theorem or4 (a b c d : Int) (ha : 0 ≤ a ∧ a < 256) (hb : 0 ≤ b ∧ b < 256) (hc : 0 ≤ c ∧ c < 256) (hd : 0 ≤ d ∧ d < 256) :
    bits .or .u32 (bits .or .u32 (bits .or .u32 (a % 4294967296) (b % 4294967296 * 256 % 4294967296)) (c % 4294967296 * 65536 % 4294967296)) (d % 4294967296 * 16777216 % 4294967296) = ((num [a, b, c, d] : Nat) : Int) := by
  have e1 : bits .or .u32 (a % 4294967296) (b % 4294967296 * 256 % 4294967296) = a + b * 256 := by
    rw [u32_or8 _ _ (by omega) (by omega) (by omega) (by omega) (by omega)]; omega
  rw [e1]
  have e2 : bits .or .u32 (a + b * 256) (c % 4294967296 * 65536 % 4294967296) = a + b * 256 + c * 65536 := by
    rw [u32_or16 _ _ (by omega) (by omega) (by omega) (by omega) (by omega)]; omega
  rw [e2, u32_or24 _ _ (by omega) (by omega) (by omega) (by omega) (by omega)]
  simp only [num, List.getD_cons_zero, List.getD_cons_succ]
  omega

theorem numberOf_any {n : Nat} {a b c d : Int} (w : World) (hn : n < 4294967296) (h4 : four n = [a, b, c, d]) :
    Calls Tryd.prog 25 #[.int .u32 (n : Int)] w fun e w' => e = .returned (.agg #[.int .u8 a, .int .u8 b, .int .u8 c, .int .u8 d]) ∧ Below w.heap.size w w' := by
  have e1 : (n : Int) % 256 = a ∧ (n : Int) / 256 % 256 = b ∧ (n : Int) / 65536 % 256 = c ∧ (n : Int) / 16777216 = d := by
    simp only [four, List.cons.injEq, and_true] at h4
    omega
  obtain ⟨e1, e2, e3, e4⟩ := e1
  clear h4
  go_enter Tryd.func25, Tryd.ntmps25
  go_wp2
  go_returns
  exact ⟨rfl, (Below.refl _ w).alloc (Nat.le_refl _) _⟩

theorem value_any {a b c d : Int} (w : World) (ha : 0 ≤ a ∧ a < 256) (hb : 0 ≤ b ∧ b < 256) (hc : 0 ≤ c ∧ c < 256) (hd : 0 ≤ d ∧ d < 256) :
    Calls Tryd.prog 26 #[.agg #[.int .u8 a, .int .u8 b, .int .u8 c, .int .u8 d]] w fun e w' => e = .returned (.int .u32 ((num [a, b, c, d] : Nat) : Int)) ∧ Below w.heap.size w w' := by
  have e := or4 a b c d ha hb hc hd
  generalize num [a, b, c, d] = m at *
  clear ha hb hc hd
  go_enter Tryd.func26, Tryd.ntmps26
  go_wp2
  go_ret
  exact ⟨rfl, (Below.refl _ w).alloc (Nat.le_refl _) _⟩

/-- A new block of integers, as a slice. -/
theorem new_row (k : IntKind) (w : World) (l : List Int) (t : TypeId) (hl : l.length ≤ 9223372036854775807) : Row k (w.alloc (.cells (l.map (Value.int k)).toArray t)) (.slice (some ⟨w.heap.size, 0, none⟩) l.length l.length) l := by
  refine ⟨some ⟨w.heap.size, 0, none⟩, l.length, rfl, Nat.le_refl _, hl, (by intro h; cases h), fun _ => ⟨w.heap.size, 0, rfl, fun i hi => ?_⟩⟩
  simp [List.getD, hi]

theorem rfour_any {n : Nat} (w : World) (hn : n < 4294967296) :
    Calls Tryd.prog 23 #[.int .u32 (n : Int)] w fun e w' => ∃ v, e = .returned v ∧ Row .u8 w' v (four n) ∧ Below w.heap.size w w' := by
  obtain ⟨a, b, c, d, h4⟩ : ∃ a b c d, four n = [a, b, c, d] := ⟨_, _, _, _, rfl⟩
  have e1 : (n : Int) % 256 = a ∧ (n : Int) / 256 % 256 = b ∧ (n : Int) / 65536 % 256 = c ∧ (n : Int) / 16777216 = d := by
    simp only [four, List.cons.injEq, and_true] at h4
    omega
  obtain ⟨e1, e2, e3, e4⟩ := e1
  have H4 : Hid (four n = [a, b, c, d]) := h4
  clear h4
  go_enter Tryd.func23, Tryd.ntmps23
  go_wp2
  go_ret
  rw [H4.out]
  exact ⟨_, rfl, new_row .u8 w [a, b, c, d] 5 (by simp), (Below.refl _ w).alloc (Nat.le_refl _) _⟩

theorem rnumber_any {v : Value} {l : List Int} {w : World} (h : Row .u8 w v l) (hu : U8 l) (hl : 4 ≤ l.length) :
    Calls Tryd.prog 28 #[v] w fun e w' => e = .returned (.int .u32 ((num l : Nat) : Int)) ∧ Below w.heap.size w w' := by
  obtain ⟨p, cap, rfl, g1, g2, g3, g4⟩ := h
  obtain ⟨bb, o, rfl, hc⟩ := g4 (by omega)
  match l, hl with
  | a :: b :: c :: d :: r, hl =>
    have e := or4 a b c d (hu a (by simp)) (hu b (by simp)) (hu c (by simp)) (hu d (by simp))
    have en : num (a :: b :: c :: d :: r) = num [a, b, c, d] := rfl
    rw [en]
    generalize num [a, b, c, d] = m at *
    have c0 : w.cell? ⟨bb, o, none⟩ = some (.int .u8 a) := by simpa using hc 0 (by omega)
    have c1 : w.cell? ⟨bb, o + 1, none⟩ = some (.int .u8 b) := by simpa using hc 1 (by omega)
    have c2 : w.cell? ⟨bb, o + 2, none⟩ = some (.int .u8 c) := by simpa using hc 2 (by omega)
    have c3 : w.cell? ⟨bb, o + 3, none⟩ = some (.int .u8 d) := by simpa using hc 3 (by omega)
    clear hc g3 g4 hu en
    generalize (a :: b :: c :: d :: r).length = n at *
    have i0 : (0 : Int) < (n : Int) := by omega
    have i1 : (1 : Int) < (n : Int) := by omega
    have i2 : (2 : Int) < (n : Int) := by omega
    have i3 : (3 : Int) < (n : Int) := by omega
    go_enter Tryd.func28, Tryd.ntmps28
    go_wp2
    go_quiet (fail)
    go_wp2
    go_ret
    exact ⟨rfl, below_drewN (Below.refl _ _) _⟩

end Go.Proofs.YtcdjbfapldepaaaDoor
