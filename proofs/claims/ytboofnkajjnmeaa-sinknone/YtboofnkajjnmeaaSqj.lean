/-
  Pre, Commit, Abort of a sink that no call made; a list that is owned, as it lies. No conditions.
-/
import Derived.Test.YtboofnkajjnmeaaSle
namespace Go.Proofs.Ytboofnkajjnmeaa
open Go.RowKit Go.Maps Go.Shelf

set_option maxRecDepth 100000 in
set_option maxHeartbeats 1000000 in
theorem pre_zero {W : World} {v : Value} {ep id bg : Int} {rp vp : Option Addr} {rn rc vn vc : Nat} (h : Bad W v) : Calls Try.prog 20 #[v, .agg #[.int .i64 ep, .int .i64 id, .int .i64 bg, .slice rp rn rc, .slice vp vn vc]] W fun e w' => e = .returned (.int .i64 2) ∧ Below W.heap.size W w' := by
  obtain ⟨X, hX⟩ : ∃ X, X = W.alloc (.cells #[.int .i64 ep, .int .i64 id, .int .i64 bg, .slice rp rn rc, .slice vp vn vc] 34 (0, 0)) := ⟨_, rfl⟩
  have HB : Hid (Below W.heap.size W X) := hide (by rw [hX]; exact alloc_below _ _)
  have HM := hide (made_no (h.later HB.out))
  obtain ⟨p, rfl⟩ := h.form
  clear h
  go_enter Try.func20, Try.ntmps20
  go_upto_region 1 with fail
  rw [← hX]
  clear hX
  go_wp2_with fail
  refine HM.out.mono ?_
  rintro _ _ ⟨rfl, rfl⟩
  rename World => X
  go_wp2
  go_ret
  exact ⟨rfl, HB.out⟩
set_option maxRecDepth 100000 in
set_option maxHeartbeats 1000000 in
theorem com_zero {W : World} {v : Value} {e i : Int} (h : Bad W v) : Calls Try.prog 21 #[v, .agg #[.int .i64 e, .int .i64 i]] W fun r w' => r = .returned (.int .i64 2) ∧ Below W.heap.size W w' := by
  obtain ⟨X, hX⟩ : ∃ X, X = W.alloc (.cells #[.int .i64 e, .int .i64 i] 55 (0, 0)) := ⟨_, rfl⟩
  have HB : Hid (Below W.heap.size W X) := hide (by rw [hX]; exact alloc_below _ _)
  have HK : Hid (X.heap[W.heap.size]? = some (.cells #[.int .i64 e, .int .i64 i] 55 (0, 0))) := hide (by rw [hX]; exact heap_alloc_new W _)
  obtain ⟨bB, hbB⟩ : ∃ bB, W.heap.size = bB := ⟨_, rfl⟩
  have HZ := hide hbB
  rw [hbB] at HK
  have HM := hide (enterNamed_bad (e := e) (i := i) (h.later HB.out))
  obtain ⟨p, rfl⟩ := h.form
  clear h
  have u0 := cellB HK.out (i := 0) rfl
  have u1 := cellB HK.out (i := 1) rfl
  go_enter Try.func21, Try.ntmps21
  go_upto_region 1 with fail
  rw [← hX]
  try rw [hbB]
  clear hX hbB
  go_wp2_with fail
  refine HM.out.mono ?_
  rintro _ w1 ⟨rfl, b1⟩
  have HB1 : Hid (Below W.heap.size W w1) := hide (HB.out.trans (b1.mono HB.out.size))
  clear b1 u0 u1
  go_wp2
  go_ret
  exact ⟨rfl, HB1.out⟩
set_option maxRecDepth 100000 in
set_option maxHeartbeats 1000000 in
theorem abo_zero {W : World} {v : Value} {e i : Int} (h : Bad W v) : Calls Try.prog 23 #[v, .agg #[.int .i64 e, .int .i64 i]] W fun r w' => r = .returned (.int .i64 2) ∧ Below W.heap.size W w' := by
  obtain ⟨X, hX⟩ : ∃ X, X = W.alloc (.cells #[.int .i64 e, .int .i64 i] 55 (0, 0)) := ⟨_, rfl⟩
  have HB : Hid (Below W.heap.size W X) := hide (by rw [hX]; exact alloc_below _ _)
  have HK : Hid (X.heap[W.heap.size]? = some (.cells #[.int .i64 e, .int .i64 i] 55 (0, 0))) := hide (by rw [hX]; exact heap_alloc_new W _)
  obtain ⟨bB, hbB⟩ : ∃ bB, W.heap.size = bB := ⟨_, rfl⟩
  have HZ := hide hbB
  rw [hbB] at HK
  have HM := hide (enterNamed_bad (e := e) (i := i) (h.later HB.out))
  obtain ⟨p, rfl⟩ := h.form
  clear h
  have u0 := cellB HK.out (i := 0) rfl
  have u1 := cellB HK.out (i := 1) rfl
  go_enter Try.func23, Try.ntmps23
  go_upto_region 1 with fail
  rw [← hX]
  try rw [hbB]
  clear hX hbB
  go_wp2_with fail
  refine HM.out.mono ?_
  rintro _ w1 ⟨rfl, b1⟩
  have HB1 : Hid (Below W.heap.size W w1) := hide (HB.out.trans (b1.mono HB.out.size))
  clear b1 u0 u1
  go_wp2
  go_ret
  exact ⟨rfl, HB1.out⟩
/-- An owned list that is not empty lies in a block of its own, from its first cell on. -/
theorem own_at {w : World} {B k n c : Nat} {t : TypeId} {p : Option Addr} {xs : List Value} (h : w.ownsRow B t k (.slice p n c) n xs) (hx : 0 < xs.length) : ∃ g cs, p = some ⟨g, 0, none⟩ ∧ B ≤ g ∧ w.heap[g]? = some (.cells cs t (0, 0)) ∧ ∀ i, i < xs.length → cs[i]? = xs[i]? := by
  obtain ⟨h1, h2⟩ := h
  rcases h2 with ⟨_, h2⟩ | ⟨g, cap, cs, e1, h3, h4, h5, h6, h7, h8⟩
  · subst h2
    omega
  · simp only [Value.slice.injEq] at e1
    refine ⟨g, cs, e1.1, h3, h4, fun i hi => ?_⟩
    have h9 : (cs.toList.take (n * k))[i]? = xs[i]? := by rw [h8]
    rw [List.getElem?_take, if_pos (by omega), Array.getElem?_toList] at h9
    exact h9
def q0 : QK := ⟨none, 0, none, 0, none, 0, none, 0, 0, [], [], [], []⟩
theorem q0_vis (W : World) : QV W q0 :=
  ⟨⟨Nat.le_refl _, by decide, fun _ => rfl, fun i hi => by cases hi⟩, ⟨Nat.le_refl _, by decide, fun _ => rfl, fun i hi => by cases hi⟩, ⟨Nat.le_refl _, by decide, fun _ => rfl, fun i hi => by cases hi⟩, ⟨Nat.le_refl _, by decide, fun _ => rfl, fun i hi => by cases hi⟩, fun x hx => by cases hx⟩
end Go.Proofs.Ytboofnkajjnmeaa
