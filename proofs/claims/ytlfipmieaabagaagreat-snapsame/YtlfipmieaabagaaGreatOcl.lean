/-
  Check, Clone, and Step of an operator that keeps nothing. The conditions: lengths, numbers of their types.
-/
import Derived.Test.YtlfipmieaabagaaGreatOch
namespace Go.Proofs.YtlfipmieaabagaaGreat.Op
open Go.RowKit

set_option maxRecDepth 100000 in
set_option maxHeartbeats 2000000 in
theorem ocheck_any {W : World} {kd pt fn ar tn : Int} {ip p : Option Addr} {n0 ic n c : Nat} {ks : List KS} (h : KRow W p c ks) (hn : ks.length = n) {er : Int} (her : (if turnOK kd tn n0 ∧ keysOK kd ar ks then 0 else 70) = er) : Calls Tryz.prog 73 #[.agg #[.int .i64 kd, .int .i64 pt, .int .i64 fn, .int .i64 ar, .slice ip n0 ic], .agg #[.slice p n c, .int .i64 tn]] W fun e w' => e = .returned (.int .i64 er) ∧ Below W.heap.size W w' := by
  have HER := hide her
  have HN := hide hn
  obtain ⟨V1, hV1⟩ : ∃ V, V = W.alloc (.cells #[.int .i64 kd, .int .i64 pt, .int .i64 fn, .int .i64 ar, .slice ip n0 ic] 95 (0, 0)) := ⟨_, rfl⟩
  obtain ⟨V, hV⟩ : ∃ V, V = V1.alloc (.cells #[.slice p n c, .int .i64 tn] 43 (0, 0)) := ⟨_, rfl⟩
  obtain ⟨oB, hoB⟩ : ∃ oB, W.heap.size = oB := ⟨_, rfl⟩
  obtain ⟨sB, hsB⟩ : ∃ sB, oB + 1 = sB := ⟨_, rfl⟩
  have s1 : V1.heap.size = sB := by rw [hV1, ← hsB, ← hoB]; simp
  have b1 : Below W.heap.size W V1 := by rw [hV1]; exact alloc_below _ _
  have b2 : Below V1.heap.size V1 V := by rw [hV]; exact alloc_below _ _
  have u1 : V1.heap[oB]? = some (.cells #[.int .i64 kd, .int .i64 pt, .int .i64 fn, .int .i64 ar, .slice ip n0 ic] 95 (0, 0)) := by rw [hV1, ← hoB]; exact heap_alloc_new W _
  have u2 : V.heap[sB]? = some (.cells #[.slice p n c, .int .i64 tn] 43 (0, 0)) := by rw [hV, ← s1]; exact heap_alloc_new V1 _
  have bV : Below W.heap.size W V := b1.trans (b2.mono (by omega))
  have HK := hide (h.later bV)
  have HBV := hide bV
  have HFR : Hid (∀ X, Below V.heap.size V X → X.heap[oB]? = some (.cells #[.int .i64 kd, .int .i64 pt, .int .i64 fn, .int .i64 ar, .slice ip n0 ic] 95 (0, 0)) ∧ X.heap[sB]? = some (.cells #[.slice p n c, .int .i64 tn] 43 (0, 0))) := hide (fun X hX => ⟨below_box hX (below_box b2 u1), below_box hX u2⟩)
  obtain ⟨f1, f2⟩ := HFR.out V (Below.refl _ _)
  have x0 : V.cell? ⟨oB, 0, none⟩ = some (.int .i64 kd) := by simp [World.cell?, f1]
  have x1 : V.cell? ⟨oB, 1, none⟩ = some (.int .i64 pt) := by simp [World.cell?, f1]
  have x2 : V.cell? ⟨oB, 2, none⟩ = some (.int .i64 fn) := by simp [World.cell?, f1]
  have x3 : V.cell? ⟨oB, 3, none⟩ = some (.int .i64 ar) := by simp [World.cell?, f1]
  have x4 : V.cell? ⟨oB, 4, none⟩ = some (.slice ip n0 ic) := by simp [World.cell?, f1]
  have x5 : V.cell? ⟨sB, 1, none⟩ = some (.int .i64 tn) := by simp [World.cell?, f2]
  obtain ⟨qt, hqt⟩ : ∃ qt, decide (turnOK kd tn n0) = qt := ⟨_, rfl⟩
  obtain ⟨qk, hqk⟩ : ∃ qk, decide (keysOK kd ar ks) = qk := ⟨_, rfl⟩
  have HQT := hide hqt
  have HQK := hide hqk
  clear h hn her b1 b2 u1 u2 bV f1 f2 hqt hqk
  go_enter Tryz.func73, Tryz.ntmps73
  go_upto_region 1 with fail
  rw [← hV1, ← hV]
  try rw [hoB]
  try rw [hsB]
  clear hV1 hV hoB hsB s1
  go_wp2_with fail
  refine (turnFits_any HQT.out).mono ?_
  rintro _ w1 ⟨rfl, b1⟩
  have HB1 := hide b1
  obtain ⟨f1, f2⟩ := HFR.out w1 b1
  clear b1 x0 x1 x2 x3 x4 x5
  cases qt with
  | false =>
    have HR : Hid (70 = er) := hide (by rw [← HER.out, if_neg (fun e => (of_decide_eq_false HQT.out) e.1)])
    have HBF := hide (HBV.out.trans (HB1.out.mono HBV.out.size))
    clear f1 f2
    go_wp2
    go_ret
    exact ⟨by rw [← HR.out]; rfl, HBF.out⟩
  | true =>
    have x0 : w1.cell? ⟨oB, 0, none⟩ = some (.int .i64 kd) := by simp [World.cell?, f1]
    have x1 : w1.cell? ⟨oB, 1, none⟩ = some (.int .i64 pt) := by simp [World.cell?, f1]
    have x2 : w1.cell? ⟨oB, 2, none⟩ = some (.int .i64 fn) := by simp [World.cell?, f1]
    have x3 : w1.cell? ⟨oB, 3, none⟩ = some (.int .i64 ar) := by simp [World.cell?, f1]
    have x4 : w1.cell? ⟨oB, 4, none⟩ = some (.slice ip n0 ic) := by simp [World.cell?, f1]
    have x5 : w1.cell? ⟨sB, 0, none⟩ = some (.slice p n c) := by simp [World.cell?, f2]
    clear f1 f2
    go_wp2_with fail
    refine (keysFit_any (HK.out.later HB1.out) HN.out HQK.out).mono ?_
    rintro _ w2 ⟨rfl, b2⟩
    have HBF := hide ((HBV.out.trans (HB1.out.mono HBV.out.size)).trans (b2.mono (Nat.le_trans HBV.out.size HB1.out.size)))
    clear b2 x0 x1 x2 x3 x4 x5
    cases qk with
    | false =>
      have HR : Hid (70 = er) := hide (by rw [← HER.out, if_neg (fun e => (of_decide_eq_false HQK.out) e.2)])
      go_wp2
      go_ret
      exact ⟨by rw [← HR.out]; rfl, HBF.out⟩
    | true =>
      have HR : Hid (0 = er) := hide (by rw [← HER.out, if_pos ⟨of_decide_eq_true HQT.out, of_decide_eq_true HQK.out⟩])
      go_wp2
      go_ret
      exact ⟨by rw [← HR.out]; rfl, HBF.out⟩
end Go.Proofs.YtlfipmieaabagaaGreat.Op
