/-
  SamePuts and Same of the reference, of two lists that are the same. The conditions: lengths.
-/
import Derived.Test.YtcabfohmimglpaaOal
namespace Go.Proofs.Ytcabfohmimglpaa
open Go.RowKit

theorem pu_cells {W : World} {base n cap k : Nat} {p : Option Addr} {xs : List PU} (h : W.ownsRow base 41 3 (.slice p n cap) n (xs.flatMap PU.cells)) (hl : xs.length = n) (hk : k < n) {x : PU} (hx : xs[k]! = x) :
    ∃ g, p = some ⟨g, 0, none⟩ ∧ W.cell? ⟨g, k * 3, none⟩ = some (.int .i64 x.port) ∧ W.cell? ⟨g, k * 3 + 1, none⟩ = some (.int .i64 x.key) ∧ W.cell? ⟨g, k * 3 + 2, none⟩ = some (.int .i64 x.val) := by
  obtain ⟨g, rfl⟩ := own_at0 h (by omega)
  obtain ⟨_, _, _, q4⟩ := own_list (cells := PU.cells) (fun o _ => o.len) hl h
  obtain ⟨gg, oo, hpg, hc⟩ := q4 k (by omega)
  simp only [Option.some.injEq, Addr.mk.injEq, and_true] at hpg
  obtain ⟨rfl, rfl⟩ := hpg
  rw [hx] at hc
  simp only [Nat.zero_add] at hc
  exact ⟨g, rfl, hc 0 (by decide), hc 1 (by decide), hc 2 (by decide)⟩
theorem ks_cells {W : World} {base n cap k : Nat} {p : Option Addr} {xs : List KS} (h : W.ownsRow base 43 3 (.slice p n cap) n (xs.flatMap KS.cells)) (hl : xs.length = n) (hk : k < n) {x : KS} (hx : xs[k]! = x) :
    ∃ g, p = some ⟨g, 0, none⟩ ∧ W.cell? ⟨g, k * 3, none⟩ = some (.int .i64 x.key) ∧ W.cell? ⟨g, k * 3 + 1, none⟩ = some (.int .i64 x.cnt) ∧ W.cell? ⟨g, k * 3 + 2, none⟩ = some (.int .i64 x.acc) := by
  obtain ⟨g, rfl⟩ := own_at0 h (by omega)
  obtain ⟨_, _, _, q4⟩ := own_list (cells := KS.cells) (fun o _ => o.len) hl h
  obtain ⟨gg, oo, hpg, hc⟩ := q4 k (by omega)
  simp only [Option.some.injEq, Addr.mk.injEq, and_true] at hpg
  obtain ⟨rfl, rfl⟩ := hpg
  rw [hx] at hc
  simp only [Nat.zero_add] at hc
  exact ⟨g, rfl, hc 0 (by decide), hc 1 (by decide), hc 2 (by decide)⟩

set_option maxRecDepth 100000 in
set_option maxHeartbeats 4000000 in
theorem samePuts_any {W : World} {b1 b2 n c c' : Nat} {p p' : Option Addr} {xs : List PU} (h1 : W.ownsRow b1 41 3 (.slice p n c) n (xs.flatMap PU.cells)) (h2 : W.ownsRow b2 41 3 (.slice p' n c') n (xs.flatMap PU.cells)) (hl : xs.length = n) :
    Calls Try.prog 7 #[.slice p n c, .slice p' n c'] W fun e w' => e = .returned (.bool true) ∧ Below W.heap.size W w' := by
  obtain ⟨_, _, ef, i1, i2⟩ := own_form h1
  simp only [Value.slice.injEq, true_and] at ef
  obtain ⟨rfl, rfl⟩ := ef
  obtain ⟨_, _, ef, i3, i4⟩ := own_form h2
  simp only [Value.slice.injEq, true_and] at ef
  obtain ⟨rfl, rfl⟩ := ef
  have H1 := hide h1
  have H2 := hide h2
  have HL := hide hl
  clear h1 h2 hl
  go_enter Try.func7, Try.ntmps7
  go_wp2_with fail
  go_loopw [5] (fun i wr => ∃ (k : Nat), k ≤ n ∧ i = .int .i64 (k : Int) ∧ Hid (Below W.heap.size W wr)) (fun i _ => n - (intOf i).toNat)
  case atStart => exact ⟨0, Nat.zero_le _, rfl, hide (Below.refl _ _)⟩
  case round =>
    obtain ⟨k, hk, rfl, HB⟩ := hrel
    rename World => wr
    by_cases hlt : k < n
    · obtain ⟨x, hx⟩ : ∃ x, xs[k]! = x := ⟨_, rfl⟩
      obtain ⟨g, rfl, c0, c1, c2⟩ := pu_cells (ownsRow_later H1.out HB.out) HL.out hlt hx
      obtain ⟨g', rfl, d0, d1, d2⟩ := pu_cells (ownsRow_later H2.out HB.out) HL.out hlt hx
      obtain ⟨x0, x1, x2⟩ := x
      dsimp only at c0 c1 c2 d0 d1 d2
      clear hx
      go_upto_region 6 with fail
      go_quiet (fail)
      go_wp2
      exact ⟨⟨k + 1, by omega, by go_num, hide (below_drewN HB.out _)⟩, by simp [intOf]; omega⟩
    · obtain rfl : k = n := by omega
      go_wp2
      go_ret
      exact ⟨rfl, HB.out⟩

set_option maxRecDepth 100000 in
set_option maxHeartbeats 4000000 in
theorem same_any {W : World} {b1 b2 n c c' : Nat} {p p' : Option Addr} {xs : List KS} {tn : Int} (h1 : W.ownsRow b1 43 3 (.slice p n c) n (xs.flatMap KS.cells)) (h2 : W.ownsRow b2 43 3 (.slice p' n c') n (xs.flatMap KS.cells)) (hl : xs.length = n) :
    Calls Try.prog 6 #[.agg #[.slice p n c, .int .i64 tn], .agg #[.slice p' n c', .int .i64 tn]] W fun e w' => e = .returned (.bool true) ∧ Below W.heap.size W w' := by
  obtain ⟨_, _, ef, i1, i2⟩ := own_form h1
  simp only [Value.slice.injEq, true_and] at ef
  obtain ⟨rfl, rfl⟩ := ef
  obtain ⟨_, _, ef, i3, i4⟩ := own_form h2
  simp only [Value.slice.injEq, true_and] at ef
  obtain ⟨rfl, rfl⟩ := ef
  obtain ⟨V1, hV1⟩ : ∃ V, V = W.alloc (.cells #[.slice p n c, .int .i64 tn] 29 (0, 0)) := ⟨_, rfl⟩
  obtain ⟨V, hV⟩ : ∃ V, V = V1.alloc (.cells #[.slice p' n c', .int .i64 tn] 29 (0, 0)) := ⟨_, rfl⟩
  have s1 : V1.heap.size = W.heap.size + 1 := by rw [hV1]; simp
  have a1 : Below W.heap.size W V1 := by rw [hV1]; exact alloc_below _ _
  have a2 : Below V1.heap.size V1 V := by rw [hV]; exact alloc_below _ _
  have u0 : V.heap[W.heap.size]? = some (.cells #[.slice p n c, .int .i64 tn] 29 (0, 0)) := below_box a2 (by rw [hV1]; exact heap_alloc_new W _)
  have u1 : V.heap[W.heap.size + 1]? = some (.cells #[.slice p' n c', .int .i64 tn] 29 (0, 0)) := by rw [hV, ← s1]; exact heap_alloc_new V1 _
  have eV : V = (W.alloc (.cells #[.slice p n c, .int .i64 tn] 29 (0, 0))).alloc (.cells #[.slice p' n c', .int .i64 tn] 29 (0, 0)) := by rw [hV, hV1]
  have bV : Below W.heap.size W V := a1.trans (a2.mono a1.size)
  obtain ⟨sB, hsB⟩ : ∃ sB, W.heap.size = sB := ⟨_, rfl⟩
  rw [hsB] at u0 u1
  have HBV := hide bV
  have H1 := hide (ownsRow_later h1 bV)
  have H2 := hide (ownsRow_later h2 bV)
  have HL := hide hl
  have y0 : V.cell? ⟨sB, 0, none⟩ = some (.slice p n c) := by simp [World.cell?, u0]
  have y1 : V.cell? ⟨sB, 1, none⟩ = some (.int .i64 tn) := by simp [World.cell?, u0]
  have y2 : V.cell? ⟨sB + 1, 0, none⟩ = some (.slice p' n c') := by simp [World.cell?, u1]
  have y3 : V.cell? ⟨sB + 1, 1, none⟩ = some (.int .i64 tn) := by simp [World.cell?, u1]
  have HY0 := hide y0
  have HY2 := hide y2
  clear h1 h2 hl hV hV1 s1 a1 a2 u0 u1 bV V1
  go_enter Try.func6, Try.ntmps6
  go_upto_region 1 with fail
  rw [← eV]
  try rw [hsB]
  clear eV hsB
  go_wp2_with fail
  clear y0 y1 y2 y3
  go_loopw [5] (fun i wr => ∃ (k : Nat), k ≤ n ∧ i = .int .i64 (k : Int) ∧ Hid (Below V.heap.size V wr)) (fun i _ => n - (intOf i).toNat)
  case atStart => exact ⟨0, Nat.zero_le _, rfl, hide (Below.refl _ _)⟩
  case round =>
    obtain ⟨k, hk, rfl, HB⟩ := hrel
    rename World => wr
    have z0 := cell_later HB.out HY0.out
    have z2 := cell_later HB.out HY2.out
    by_cases hlt : k < n
    · obtain ⟨x, hx⟩ : ∃ x, xs[k]! = x := ⟨_, rfl⟩
      obtain ⟨g, rfl, c0, c1, c2⟩ := ks_cells (ownsRow_later H1.out HB.out) HL.out hlt hx
      obtain ⟨g', rfl, d0, d1, d2⟩ := ks_cells (ownsRow_later H2.out HB.out) HL.out hlt hx
      obtain ⟨x0, x1, x2⟩ := x
      dsimp only at c0 c1 c2 d0 d1 d2
      clear hx
      go_upto_region 6 with fail
      go_big_quiet (fail)
      go_wp2
      exact ⟨⟨k + 1, by omega, by go_num, hide (below_drewN HB.out _)⟩, by simp [intOf]; omega⟩
    · obtain rfl : k = n := by omega
      go_wp2
      go_ret
      exact ⟨rfl, HBV.out.trans (HB.out.mono HBV.out.size)⟩
end Go.Proofs.Ytcabfohmimglpaa
