/-
  newPeaks: a tree of nothing. The conditions: lengths.
-/
import Derived.Test.YtcabfohmimglpaaOps
import Derived.Laws.OwnMore
namespace Go.Proofs.Ytcabfohmimglpaa
open Go.RowKit

theorem Try.infoL : (Try.prog.info? 2).map (fun i => (i.zero, i.size, i.bytes)) = some (some (.int .i64 0), 1, 8) := by kernel_rfl
theorem made_ints : ∀ n, (madeCells (Value.int .i64 0).cells (n * 1)).toList = (List.replicate n (0 : Int)).map (Value.int .i64) := by
  intro n
  rw [Nat.mul_one, List.map_replicate]
  apply List.ext_getElem
  · simp [size_madeCells]
  · intro i h1 h2
    simp [madeCells, Value.cells, Nat.mod_one]
theorem fill_next {n k : Nat} (hk : k < n) {x : Int} : (List.replicate k x ++ List.replicate (n - k) (0 : Int)).set k x = List.replicate (k + 1) x ++ List.replicate (n - (k + 1)) (0 : Int) := by
  rw [show n - k = (n - (k + 1)) + 1 by omega, List.replicate_succ, List.set_append_right _ _ (by simp), List.length_replicate, Nat.sub_self, List.set_cons_zero, List.replicate_succ', List.append_assoc]
  rfl
theorem fill_at {n k : Nat} (hk : k < n) {x : Int} : (List.replicate k x ++ List.replicate (n - k) (0 : Int)).getD k 0 = 0 := by
  rw [show n - k = (n - (k + 1)) + 1 by omega, List.replicate_succ, List.getD_eq_getElem?_getD, List.getElem?_append_right (by simp)]
  simp
def lowN : Int := -9223372036854775808
theorem Peak.low (H K : Nat) (h : H = 2 ^ K) : Peak (List.replicate (2 * H) lowN) H K := by
  refine ⟨h, by simp, fun i h1 h2 => ?_⟩
  have hg : ∀ j, j < 2 * H → (List.replicate (2 * H) lowN).getD j 0 = lowN := fun j hj => by
    rw [List.getD_eq_getElem?_getD, List.getElem?_replicate, if_pos hj]
    rfl
  rw [hg i (by omega), hg (2 * i) (by omega), hg (2 * i + 1) (by omega), Int.max_self]

set_option maxRecDepth 100000 in
set_option maxHeartbeats 4000000 in
theorem newPeaks_any {W : World} {m : Nat} (hm : m ≤ 1048576) :
    Calls Try.prog 23 #[.int .i64 (m : Int)] W fun e w' => ∃ g c H K, e = .returned (.slice (some ⟨g, 0, none⟩) (2 * H) c) ∧ H = 2 ^ K ∧ m ≤ H ∧ H ≤ 2097152 ∧ w'.ownsRow W.heap.size 2 1 (.slice (some ⟨g, 0, none⟩) (2 * H) c) (2 * H) ((List.replicate (2 * H) lowN).map (Value.int .i64)) ∧ Below W.heap.size W w' := by
  obtain ⟨i0, hI0, hz0, hz1, hz2⟩ := info_parts Try.infoL
  have HI0 := hide hI0
  go_enter Try.func23, Try.ntmps23
  go_wp2_with fail
  go_loopw [3] (fun s wq => ∃ (h k : Nat), s = .int .i64 (h : Int) ∧ Hid (h = 2 ^ k) ∧ 1 ≤ h ∧ h ≤ 2097152 ∧ Hid (wq = W)) (fun s _ => 2097152 - (intOf s).toNat)
  case atStart => exact ⟨1, 0, rfl, hide rfl, Nat.le_refl _, by omega, hide rfl⟩
  case round =>
    obtain ⟨h, k, rfl, HK, h1, h2, HW⟩ := hrel
    rename World => wq
    by_cases hlt : h < m
    · have HK2 : Hid (h * 2 = 2 ^ (k + 1)) := hide (by rw [Nat.pow_succ, ← HK.out])
      go_wp2
      exact ⟨⟨h * 2, k + 1, by first | rfl | go_num, HK2, by omega, by omega, HW⟩, by simp [intOf]; omega⟩
    · obtain ⟨w5, hrun, hown, hgr⟩ := run_make_full wq wq.heap.size 64 2 i0 (.int .i64 0) 1 Try.underlying64 hI0 hz0 hz1 .i64 .i64 (2 * h) (by rw [hz2]; omega) (by unfold maxLen; omega) (Nat.le_refl _)
      rw [made_ints] at hown
      have e2 : ((2 * h : Nat) : Int) = 2 * (h : Int) := by omega
      rw [e2] at hrun
      obtain ⟨g, hg⟩ : ∃ g, wq.heap.size = g := ⟨_, rfl⟩
      rw [hg] at hrun hown
      have HOW0 : Hid (w5.ownsRow g 2 1 (.slice (some ⟨g, 0, none⟩) (2 * h) (2 * h)) (2 * h) ((List.replicate 0 lowN ++ List.replicate (2 * h - 0) (0 : Int)).map (Value.int .i64))) := hide hown
      have HB0 : Hid (Below g wq w5) := hide (by rw [← hg]; exact (Below.refl _ wq).grown hgr (Nat.le_refl _) (fun k hk => by simp at hk))
      have HGW := hide hg
      clear hown hgr e2 hg
      go_wp2_with fail
      obtain ⟨N, hN⟩ : ∃ N, 2 * h = N := ⟨_, rfl⟩
      rw [hN] at HOW0
      have e3 : (2 * (h : Int)) = (N : Int) := by omega
      try rw [hN]
      try rw [e3]
      have hNb : N ≤ 4194304 := by omega
      have HNN := hide hN
      clear e3 hN hrun
      go_loopw [16] (fun s wr => ∃ (j : Nat), j ≤ N ∧ s = .int .i64 (j : Int) ∧ Hid (wr.ownsRow g 2 1 (.slice (some ⟨g, 0, none⟩) N N) N ((List.replicate j lowN ++ List.replicate (N - j) (0 : Int)).map (Value.int .i64))) ∧ Hid (Below g wq wr)) (fun s _ => N - (intOf s).toNat)
      case atStart => exact ⟨0, Nat.zero_le _, rfl, HOW0, HB0⟩
      case round =>
        obtain ⟨j, hj, rfl, HO, HB⟩ := hrel
        rename World => wr
        clear HOW0 HB0
        by_cases hjt : j < N
        · obtain ⟨bb, oo, hbo, _, _, _, hc⟩ := (own_row HO.out).cellAt (by simp; omega)
          simp only [Option.some.injEq, Addr.mk.injEq, and_true] at hbo
          obtain ⟨rfl, rfl⟩ := hbo
          have c0 := hc j hjt
          rw [Nat.zero_add, fill_at hjt] at c0
          have f0 : wr.frozen? ⟨g, j, none⟩ = false := HO.out.frozenAt _
          have HO2 : Hid ((wr.setCell ⟨g, j, none⟩ (.int .i64 lowN)).ownsRow g 2 1 (.slice (some ⟨g, 0, none⟩) N N) N ((List.replicate (j + 1) lowN ++ List.replicate (N - (j + 1)) (0 : Int)).map (Value.int .i64))) := by
            have h9 := (HO.out.stored j (.int .i64 lowN)).1
            rw [← List.map_set, fill_next hjt] at h9
            exact hide h9
          have HB2 : Hid (Below g wq (wr.setCell ⟨g, j, none⟩ (.int .i64 lowN))) := hide (HB.out.setCell (p := ⟨g, j, none⟩) (Nat.le_refl _) _)
          clear hc
          go_wp2
          exact ⟨⟨j + 1, by omega, by first | rfl | go_num, HO2, HB2⟩, by simp [intOf]; omega⟩
        · obtain rfl : j = N := by omega
          have hW := HW.out
          have HF : Hid (wr.ownsRow W.heap.size 2 1 (.slice (some ⟨g, 0, none⟩) (2 * h) j) (2 * h) ((List.replicate (2 * h) lowN).map (Value.int .i64))) := by
            have h9 := HO.out
            rw [Nat.sub_self, List.replicate_zero, List.append_nil] at h9
            rw [HNN.out, ← hW, HGW.out]
            exact hide h9
          have HBF : Hid (Below W.heap.size W wr) := by
            have h9 := HB.out
            rw [← HGW.out, hW] at h9
            exact hide h9
          have HK9 := HK
          clear hW
          go_wp2
          go_ret
          exact ⟨g, j, h, k, by rw [HNN.out]; rfl, HK9.out, by omega, h2, HF.out, HBF.out⟩
end Go.Proofs.Ytcabfohmimglpaa
