/-
  slices.EqualFunc of the same epochs, by the law's own function. No conditions.
-/
import Derived.Test.YtihbdlbnpkmafaaEjs
import Derived.Test.YtihbdlbnpkmafaaEve
import Derived.BigQuiet
import Derived.WalkMore
namespace Go.Proofs.Ytihbdlbnpkmafaa
open Go.RowKit

set_option maxRecDepth 100000 in
set_option maxHeartbeats 4000000 in
theorem sameEp_any {W : World} {id : Int} {p1 p2 : Option Addr} {c1 c2 n : Nat} {rs : List RC} (h1 : RRow W p1 c1 rs) (h2 : RRow W p2 c2 rs) (hn : rs.length = n) :
    Calls Try.prog 30 #[.agg #[.int .i64 id, .slice p1 n c1], .agg #[.int .i64 id, .slice p2 n c2]] W fun e w' => e = .returned (.bool true) ∧ Below W.heap.size W w' := by
  have HC := hide (fun (w : World) (hw : Below W.heap.size W w) => eqrc_any (RRow.later h1 hw) (RRow.later h2 hw) hn)
  clear h1 h2 hn
  go_enter Try.func30, Try.ntmps30
  go_wp2_with fail
  have hb : Below W.heap.size W ((W.alloc (.cells #[.int .i64 id, .slice p1 n c1] 56 (0, 0))).alloc (.cells #[.int .i64 id, .slice p2 n c2] 56 (0, 0))) := (alloc_below _ _).trans ((alloc_below _ _).mono (alloc_below _ _).size)
  refine (HC.out _ hb).mono ?_
  rintro _ w1 ⟨rfl, b1⟩
  have HB1 := hide (hb.trans (b1.mono hb.size))
  clear b1 hb
  go_wp2
  go_ret
  exact ⟨rfl, HB1.out⟩

set_option maxRecDepth 100000 in
set_option maxHeartbeats 4000000 in
theorem eqf_any {W : World} {p1 p2 : Option Addr} {c1 c2 N : Nat} {eps : List Ep} (h1 : EpsAt W p1 c1 eps) (h2 : EpsAt W p2 c2 eps) (hN : eps.length = N) :
    Calls Try.prog 37 #[.slice p1 N c1, .slice p2 N c2, .func (.func 30) #[] #[]] W fun e w' => e = .returned (.bool true) ∧ Below W.heap.size W w' := by
  have i1 := h1.1
  have i2 := h1.2.1
  have i3 := h2.1
  have i4 := h2.2.1
  rw [hN] at i1 i3
  have H1 := hide h1
  have H2 := hide h2
  have HN := hide hN
  clear h1 h2 hN
  go_enter Try.func37, Try.ntmps37
  go_wp2_with fail
  go_loopw [17] (fun i wr => ∃ k : Nat, k ≤ N ∧ i = .int .i64 (k : Int) ∧ Hid (Below W.heap.size W wr)) (fun i _ => N - (intOf i).toNat)
  case atStart => exact ⟨0, Nat.zero_le _, rfl, hide (Below.refl _ _)⟩
  case round =>
    obtain ⟨k, hk, rfl, HB⟩ := hrel
    rename World => wr
    by_cases hlt : k < N
    · have hlt2 : k < eps.length := by rw [HN.out]; exact hlt
      obtain ⟨⟨id, rs⟩, he⟩ : ∃ e, eps[k]? = some e := ⟨_, List.getElem?_eq_getElem hlt2⟩
      obtain ⟨g1, o1, q1, d1, rfl, a0, a1, r1⟩ := (H1.out.later HB.out).2.2 k _ he
      obtain ⟨g2, o2, q2, d2, rfl, b0, b1, r2⟩ := (H2.out.later HB.out).2.2 k _ he
      obtain ⟨n, hn⟩ : ∃ n, rs.length = n := ⟨_, rfl⟩
      simp only at a0 a1 b0 b1 r1 r2
      rw [hn] at a1 b1
      have hw1 : Below wr.heap.size wr (wr.alloc (.cells #[.int .i64 id, .slice q1 n d1] 56 (0, 0))) := alloc_below _ _
      have hw2 : Below wr.heap.size wr ((wr.alloc (.cells #[.int .i64 id, .slice q1 n d1] 56 (0, 0))).alloc (.cells #[.int .i64 id, .slice q2 n d2] 56 (0, 0))) := hw1.trans ((alloc_below _ _).mono hw1.size)
      have f0 := cell_later hw1 b0
      have f1 := cell_later hw1 b1
      have HC := hide (sameEp_any (id := id) (RRow.later r1 hw2) (RRow.later r2 hw2) hn)
      have HW2 := hide (HB.out.trans (hw2.mono HB.out.size))
      clear he hlt2 r1 r2 hn hw1 hw2
      go_wp2_with fail
      refine HC.out.mono ?_
      rintro _ w1 ⟨rfl, b1⟩
      have HB1 := hide (HW2.out.trans (b1.mono HW2.out.size))
      clear b1 HC HW2
      go_wp2
      exact ⟨⟨k + 1, by omega, by first | rfl | go_num, HB1⟩, by simp [intOf]; omega⟩
    · obtain rfl : k = N := by omega
      go_wp2
      go_ret
      exact ⟨rfl, HB.out⟩
end Go.Proofs.Ytihbdlbnpkmafaa
