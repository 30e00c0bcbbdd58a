/-
  slices.Equal of events and of records that are the same. No conditions.
-/
import Derived.Test.YtihbdlbnpkmafaaEvm
import Derived.Deep.Cut
import Derived.Deep.CutBlock
import Derived.BigRegion
import Derived.BigQuiet
import Derived.WalkMore
namespace Go.Proofs.Ytihbdlbnpkmafaa
open Go.RowKit

theorem below_drewN {n : Nat} {A B : World} (h : Below n A B) (k : Nat) : Below n A (B.drewN k) := ⟨h.os, h.tape, h.output, h.size, h.block⟩

set_option maxRecDepth 100000 in
set_option maxHeartbeats 4000000 in
theorem eqev_any {W : World} {p1 p2 : Option Addr} {c1 c2 L : Nat} {es : List EV} (h1 : ERow W p1 c1 es) (h2 : ERow W p2 c2 es) (hL : es.length = L) :
    Calls Try.prog 28 #[.slice p1 L c1, .slice p2 L c2] W fun e w' => e = .returned (.bool true) ∧ Below W.heap.size W w' := by
  have i1 := h1.le
  have i2 := h1.top
  have i3 := h2.le
  have i4 := h2.top
  rw [hL] at i1 i3
  have H1 := hide h1
  have H2 := hide h2
  have HL := hide hL
  clear h1 h2 hL
  go_enter Try.func28, Try.ntmps28
  go_wp2_with fail
  go_loopw [13] (fun i wr => ∃ k : Nat, k ≤ L ∧ i = .int .i64 (k : Int) ∧ Hid (Below W.heap.size W wr)) (fun i _ => L - (intOf i).toNat)
  case atStart => exact ⟨0, Nat.zero_le _, rfl, hide (Below.refl _ _)⟩
  case round =>
    obtain ⟨k, hk, rfl, HB⟩ := hrel
    by_cases hlt : k < L
    · have hlt2 : k < es.length := by rw [HL.out]; exact hlt
      obtain ⟨x, hx⟩ : ∃ x, es[k]! = x := ⟨_, rfl⟩
      obtain ⟨g1, o1, rfl, a0, a1, a2, a3⟩ := (H1.out.later HB.out).at hlt2 hx
      obtain ⟨g2, o2, rfl, b0, b1, b2, b3⟩ := (H2.out.later HB.out).at hlt2 hx
      obtain ⟨x0, x1, x2, x3⟩ := x
      simp only at a0 a1 a2 a3 b0 b1 b2 b3
      clear hx hlt2
      go_upto_region 6 with fail
      go_big_quiet (fail)
      go_wp2
      exact ⟨⟨k + 1, by omega, by first | rfl | go_num, hide (below_drewN HB.out _)⟩, by simp [intOf]; omega⟩
    · obtain rfl : k = L := by omega
      go_wp2
      go_ret
      exact ⟨rfl, HB.out⟩

set_option maxRecDepth 100000 in
set_option maxHeartbeats 4000000 in
theorem eqrc_any {W : World} {p1 p2 : Option Addr} {c1 c2 L : Nat} {es : List RC} (h1 : RRow W p1 c1 es) (h2 : RRow W p2 c2 es) (hL : es.length = L) :
    Calls Try.prog 31 #[.slice p1 L c1, .slice p2 L c2] W fun e w' => e = .returned (.bool true) ∧ Below W.heap.size W w' := by
  have i1 := h1.le
  have i2 := h1.top
  have i3 := h2.le
  have i4 := h2.top
  rw [hL] at i1 i3
  have H1 := hide h1
  have H2 := hide h2
  have HL := hide hL
  clear h1 h2 hL
  go_enter Try.func31, Try.ntmps31
  go_wp2_with fail
  go_loopw [13] (fun i wr => ∃ k : Nat, k ≤ L ∧ i = .int .i64 (k : Int) ∧ Hid (Below W.heap.size W wr)) (fun i _ => L - (intOf i).toNat)
  case atStart => exact ⟨0, Nat.zero_le _, rfl, hide (Below.refl _ _)⟩
  case round =>
    obtain ⟨k, hk, rfl, HB⟩ := hrel
    by_cases hlt : k < L
    · have hlt2 : k < es.length := by rw [HL.out]; exact hlt
      obtain ⟨x, hx⟩ : ∃ x, es[k]! = x := ⟨_, rfl⟩
      obtain ⟨g1, o1, rfl, a0, a1⟩ := (H1.out.later HB.out).at hlt2 hx
      obtain ⟨g2, o2, rfl, b0, b1⟩ := (H2.out.later HB.out).at hlt2 hx
      obtain ⟨x0, x1⟩ := x
      simp only at a0 a1 b0 b1
      clear hx hlt2
      go_upto_region 6 with fail
      go_big_quiet (fail)
      go_wp2
      exact ⟨⟨k + 1, by omega, by first | rfl | go_num, hide (below_drewN HB.out _)⟩, by simp [intOf]; omega⟩
    · obtain rfl : k = L := by omega
      go_wp2
      go_ret
      exact ⟨rfl, HB.out⟩
end Go.Proofs.Ytihbdlbnpkmafaa
