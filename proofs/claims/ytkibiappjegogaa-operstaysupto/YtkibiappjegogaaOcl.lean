/-
  Check, Clone, and Step of an operator that keeps nothing. The conditions: lengths, numbers of their types.
-/
import Derived.Test.YtkibiappjegogaaOch
import Derived.Test.YtkibiappjegogaaOpp
namespace Go.Proofs.Ytkibiappjegogaa
open Go.RowKit

set_option maxRecDepth 100000 in
set_option maxHeartbeats 2000000 in
theorem ocheck_any {W : World} {kd pt fn ar tn : Int} {ip p : Option Addr} {n0 ic n c : Nat} {ks : List KS} (h : KRow W p c ks) (hn : ks.length = n) {er : Int} (her : (if turnOK kd tn n0 ∧ keysOK kd ar ks then 0 else 70) = er) : Calls Try.prog 8 #[.agg #[.int .i64 kd, .int .i64 pt, .int .i64 fn, .int .i64 ar, .slice ip n0 ic], .agg #[.slice p n c, .int .i64 tn]] W fun e w' => e = .returned (.int .i64 er) ∧ Below W.heap.size W w' := by
  have HER := hide her
  have HN := hide hn
  obtain ⟨V1, hV1⟩ : ∃ V, V = W.alloc (.cells #[.int .i64 kd, .int .i64 pt, .int .i64 fn, .int .i64 ar, .slice ip n0 ic] 35 (0, 0)) := ⟨_, rfl⟩
  obtain ⟨V, hV⟩ : ∃ V, V = V1.alloc (.cells #[.slice p n c, .int .i64 tn] 28 (0, 0)) := ⟨_, rfl⟩
  obtain ⟨oB, hoB⟩ : ∃ oB, W.heap.size = oB := ⟨_, rfl⟩
  obtain ⟨sB, hsB⟩ : ∃ sB, oB + 1 = sB := ⟨_, rfl⟩
  have s1 : V1.heap.size = sB := by rw [hV1, ← hsB, ← hoB]; simp
  have b1 : Below W.heap.size W V1 := by rw [hV1]; exact alloc_below _ _
  have b2 : Below V1.heap.size V1 V := by rw [hV]; exact alloc_below _ _
  have u1 : V1.heap[oB]? = some (.cells #[.int .i64 kd, .int .i64 pt, .int .i64 fn, .int .i64 ar, .slice ip n0 ic] 35 (0, 0)) := by rw [hV1, ← hoB]; exact heap_alloc_new W _
  have u2 : V.heap[sB]? = some (.cells #[.slice p n c, .int .i64 tn] 28 (0, 0)) := by rw [hV, ← s1]; exact heap_alloc_new V1 _
  have bV : Below W.heap.size W V := b1.trans (b2.mono (by omega))
  have HK := hide (h.later bV)
  have HBV := hide bV
  have HFR : Hid (∀ X, Below V.heap.size V X → X.heap[oB]? = some (.cells #[.int .i64 kd, .int .i64 pt, .int .i64 fn, .int .i64 ar, .slice ip n0 ic] 35 (0, 0)) ∧ X.heap[sB]? = some (.cells #[.slice p n c, .int .i64 tn] 28 (0, 0))) := hide (fun X hX => ⟨below_box hX (below_box b2 u1), below_box hX u2⟩)
  obtain ⟨f1, f2⟩ := HFR.out V (Below.refl _ _)
  have x0 : V.cell? ⟨oB, 0, none⟩ = some (.int .i64 kd) := by simp [World.cell?, f1]
  have x1 : V.cell? ⟨oB, 1, none⟩ = some (.int .i64 pt) := by simp [World.cell?, f1]
  have x2 : V.cell? ⟨oB, 2, none⟩ = some (.int .i64 fn) := by simp [World.cell?, f1]
  have x3 : V.cell? ⟨oB, 3, none⟩ = some (.int .i64 ar) := by simp [World.cell?, f1]
  have x4 : V.cell? ⟨oB, 4, none⟩ = some (.slice ip n0 ic) := by simp [World.cell?, f1]
  have x5 : V.cell? ⟨sB, 1, none⟩ = some (.int .i64 tn) := by simp [World.cell?, f2]
  obtain ⟨qt, hqt⟩ : ∃ qt, decide (turnOK kd tn n0) = qt := ⟨_, rfl⟩
  obtain ⟨qk, hqk⟩ : ∃ qk, decide (keysOK kd ar ks) = qk := ⟨_, rfl⟩
  have HQT := hide hqt
  have HQK := hide hqk
  clear h hn her b1 b2 u1 u2 bV f1 f2 hqt hqk
  go_enter Try.func8, Try.ntmps8
  go_upto_region 1 with fail
  rw [← hV1, ← hV]
  try rw [hoB]
  try rw [hsB]
  clear hV1 hV hoB hsB s1
  go_wp2_with fail
  refine (turnFits_any HQT.out).mono ?_
  rintro _ w1 ⟨rfl, b1⟩
  have HB1 := hide b1
  obtain ⟨f1, f2⟩ := HFR.out w1 b1
  clear b1 x0 x1 x2 x3 x4 x5
  cases qt with
  | false =>
    have HR : Hid (70 = er) := hide (by rw [← HER.out, if_neg (fun e => (of_decide_eq_false HQT.out) e.1)])
    have HBF := hide (HBV.out.trans (HB1.out.mono HBV.out.size))
    clear f1 f2
    go_wp2
    go_ret
    exact ⟨by rw [← HR.out]; rfl, HBF.out⟩
  | true =>
    have x0 : w1.cell? ⟨oB, 0, none⟩ = some (.int .i64 kd) := by simp [World.cell?, f1]
    have x1 : w1.cell? ⟨oB, 1, none⟩ = some (.int .i64 pt) := by simp [World.cell?, f1]
    have x2 : w1.cell? ⟨oB, 2, none⟩ = some (.int .i64 fn) := by simp [World.cell?, f1]
    have x3 : w1.cell? ⟨oB, 3, none⟩ = some (.int .i64 ar) := by simp [World.cell?, f1]
    have x4 : w1.cell? ⟨oB, 4, none⟩ = some (.slice ip n0 ic) := by simp [World.cell?, f1]
    have x5 : w1.cell? ⟨sB, 0, none⟩ = some (.slice p n c) := by simp [World.cell?, f2]
    clear f1 f2
    go_wp2_with fail
    refine (keysFit_any (HK.out.later HB1.out) HN.out HQK.out).mono ?_
    rintro _ w2 ⟨rfl, b2⟩
    have HBF := hide ((HBV.out.trans (HB1.out.mono HBV.out.size)).trans (b2.mono (Nat.le_trans HBV.out.size HB1.out.size)))
    clear b2 x0 x1 x2 x3 x4 x5
    cases qk with
    | false =>
      have HR : Hid (70 = er) := hide (by rw [← HER.out, if_neg (fun e => (of_decide_eq_false HQK.out) e.2)])
      go_wp2
      go_ret
      exact ⟨by rw [← HR.out]; rfl, HBF.out⟩
    | true =>
      have HR : Hid (0 = er) := hide (by rw [← HER.out, if_pos ⟨of_decide_eq_true HQT.out, of_decide_eq_true HQK.out⟩])
      go_wp2
      go_ret
      exact ⟨by rw [← HR.out]; rfl, HBF.out⟩
set_option maxRecDepth 100000 in
set_option maxHeartbeats 2000000 in
theorem oclone_any {W : World} {p : Option Addr} {n c : Nat} {tn : Int} {ks : List KS} (h : KRow W p c ks) (hn : ks.length = n) (hb : n * 24 ≤ 140737488355328) :
    Calls Try.prog 20 #[.agg #[.slice p n c, .int .i64 tn]] W fun e w' => ∃ p' c', e = .returned (.agg #[.slice p' n c', .int .i64 tn]) ∧ w'.ownsRow W.heap.size 51 3 (.slice p' n c') n (ks.flatMap KS.cells) ∧ Below W.heap.size W w' := by
  have HN := hide hn
  obtain ⟨V1, hV1⟩ : ∃ V, V = W.alloc (.cells #[.slice p n c, .int .i64 tn] 28 (0, 0)) := ⟨_, rfl⟩
  obtain ⟨V, hV⟩ : ∃ V, V = V1.alloc (.cells #[.slice none 0 0, .int .i64 0] 28 (0, 0)) := ⟨_, rfl⟩
  obtain ⟨sB, hsB⟩ : ∃ sB, W.heap.size = sB := ⟨_, rfl⟩
  obtain ⟨tB, htB⟩ : ∃ tB, sB + 1 = tB := ⟨_, rfl⟩
  have s1 : V1.heap.size = tB := by rw [hV1, ← htB, ← hsB]; simp
  have b1 : Below W.heap.size W V1 := by rw [hV1]; exact alloc_below _ _
  have b2 : Below V1.heap.size V1 V := by rw [hV]; exact alloc_below _ _
  have u1 : V1.heap[sB]? = some (.cells #[.slice p n c, .int .i64 tn] 28 (0, 0)) := by rw [hV1, ← hsB]; exact heap_alloc_new W _
  have u2 : V.heap[tB]? = some (.cells #[.slice none 0 0, .int .i64 0] 28 (0, 0)) := by rw [hV, ← s1]; exact heap_alloc_new V1 _
  have bV : Below W.heap.size W V := b1.trans (b2.mono (by omega))
  have f1 := below_box b2 u1
  have x0 : V.cell? ⟨sB, 0, none⟩ = some (.slice p n c) := by simp [World.cell?, f1]
  have x1 : V.cell? ⟨sB, 1, none⟩ = some (.int .i64 tn) := by simp [World.cell?, f1]
  have HC : Hid (Calls Try.prog 24 #[.slice p n c] V.drew fun e w' => ∃ p' c', e = .returned (.slice p' n c') ∧ w'.ownsRow V.heap.size 51 3 (.slice p' n c') n (ks.flatMap KS.cells) ∧ Below V.heap.size V.drew w') := hide (ksClone (W := V.drew) ((h.later bV).later (Below.refl _ V).drew) hn hb)
  have HBV := hide bV
  have HU := hide u2
  have hWs : sB < tB := by omega
  have HWS : Hid (W.heap.size = sB) := hide hsB
  have hVs : tB < V.heap.size := (Array.getElem?_eq_some_iff.1 u2).1
  have HSS : Hid (∀ X, Below V.heap.size V X → X.cell? ⟨sB, 0, none⟩ = some (.slice p n c) ∧ X.cell? ⟨sB, 1, none⟩ = some (.int .i64 tn)) := hide (fun X hX => ⟨cell_later hX x0, cell_later hX x1⟩)
  have HST : Hid (∀ (X : World) (v1 v2 : Value), (X.cell? ⟨sB, 0, none⟩ = some (.slice p n c) ∧ X.cell? ⟨sB, 1, none⟩ = some (.int .i64 tn)) → (((X.setCell ⟨tB, 0, none⟩ v1).setCell ⟨tB, 1, none⟩ v2).cell? ⟨sB, 0, none⟩ = some (.slice p n c) ∧ ((X.setCell ⟨tB, 0, none⟩ v1).setCell ⟨tB, 1, none⟩ v2).cell? ⟨sB, 1, none⟩ = some (.int .i64 tn))) := hide (fun X v1 v2 ⟨e0, e1⟩ => by
    have hO := (Only.set (F := (· = tB)) X tB 0 v1 rfl).trans (Only.set (F := (· = tB)) _ tB 1 v2 rfl)
    have n1 : ¬ (fun i => i = tB) sB := by show ¬ sB = tB; omega
    exact ⟨hO.cell e0 n1, hO.cell e1 n1⟩)
  clear h hn b1 b2 u1 u2 bV f1
  go_enter Try.func20, Try.ntmps20
  go_upto_region 1 with fail
  rw [← hV1, ← hV]
  try rw [hsB]
  try rw [htB]
  clear hV1 hV hsB htB s1
  go_region_held3 (fun w' => w'.cell? ⟨sB, 0, none⟩ = some (.slice p n c) ∧ w'.cell? ⟨sB, 1, none⟩ = some (.int .i64 tn)) (first | (exact HST.out _ _ _ ⟨x0, x1⟩) | go_keep)
    (first | (go_at_call 24; refine HC.out.mono ?_; rintro _ w9 ⟨pu, cu, rfl, o9, y9⟩; have B9 : Below V.heap.size V w9 := (Below.refl _ V).drew.trans y9; have ht9 := below_box B9 HU.out; have f9 : w9.frozen? ⟨tB, 0, none⟩ = false := (by simp [World.frozen?, ht9]); have f9b : w9.frozen? ⟨tB, 1, none⟩ = false := (by simp [World.frozen?, ht9]); have c9 : w9.cell? ⟨tB, 0, none⟩ = some (.slice none 0 0) := (by simp [World.cell?, ht9]); have c9b : w9.cell? ⟨tB, 1, none⟩ = some (.int .i64 0) := (by simp [World.cell?, ht9]); have HT9 := hide ht9; have HO9 := hide o9; have HB9 := hide B9; obtain ⟨x0, x1⟩ := HSS.out _ B9; clear o9 y9 B9 ht9))
  all_goals
    have hE := heap_setS (heap_setS HT9.out 0 (.slice pu n cu)) 1 (.int .i64 tn)
    have hO9 : Only (· = tB) w9 ((w9.setCell ⟨tB, 0, none⟩ (.slice pu n cu)).setCell ⟨tB, 1, none⟩ (.int .i64 tn)) := (Only.set (F := (· = tB)) w9 tB 0 _ rfl).trans (Only.set (F := (· = tB)) _ tB 1 _ rfl)
    have HE := hide hE
    have HKF := hide (ownsRow_only HO9.out hO9 (fun b hb e => by have e' : b = tB := e; have := own_block_base HO9.out hb; omega))
    have HBF : Hid (Below W.heap.size W ((w9.setCell ⟨tB, 0, none⟩ (.slice pu n cu)).setCell ⟨tB, 1, none⟩ (.int .i64 tn))) := hide ((HBV.out.trans (HB9.out.mono HBV.out.size)).trans (hO9.below (Nat.le_trans HBV.out.size HB9.out.size) (fun b e => by have e' : b = tB := e; have := HWS.out; omega)))
    clear hE hO9
    go_wp2
    refine bodyPost_ret (results_cell_row rfl _ _ tB 28 _ _ _ rfl HE.out Try.underlying28 rfl (by kernel_rfl)) rfl ?_
    exact ⟨pu, cu, rfl, ownsRow_base HKF.out (by have := HBV.out.size; omega), HBF.out⟩
end Go.Proofs.Ytkibiappjegogaa
