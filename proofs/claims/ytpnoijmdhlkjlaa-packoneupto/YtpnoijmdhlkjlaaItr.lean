/-
  What pack.Ints hands back: a function that goes through the numbers with which bytes begin, each with the place behind it, as long as the loop's body goes on; over any world. The conditions: the bytes read as bytes and are at most 1048576; the body leaves the iterator's own memory as it is.
-/
import Derived.RangeFuncNested
import Derived.RangeFuncBound
import Derived.RangeFuncCalls
import Derived.RangeFuncLeaves
import Derived.RangeFuncBox
import Derived.Shelf.Abstract
import Derived.Shelf.RegionOpen
import Derived.WalkKit
import Derived.OwnWalkIn
import Derived.TacticsInMore
import Derived.LoopNIn
import Derived.LoopIn
import Derived.Maps.AppendAt
import Derived.Test.YtpnoijmdhlkjlaaNms
namespace Go.Proofs.Ytpnoijmdhlkjlaa
open Go.RowKit Go.Shelf
attribute [local go_sem] Oper.semAt_some

/-- What a round leaves as it was: the blocks from n1 on below n2. -/
def Kp (n1 n2 : Nat) (W W' : World) : Prop := W.heap.size ≤ W'.heap.size ∧ ∀ k, n1 ≤ k → k < n2 → W'.heap[k]? = W.heap[k]?

theorem Kp.trans {n1 n2 : Nat} {A B C : World} (h : Kp n1 n2 A B) (k : Kp n1 n2 B C) : Kp n1 n2 A C := ⟨Nat.le_trans h.1 k.1, fun i a b => (k.2 i a b).trans (h.2 i a b)⟩
theorem Kp.boxed {n1 n2 Bk : Nat} {W W' : World} {t : TypeId} {v : Value} (h : Kp n1 n2 W W') (hb : Boxed W Bk t v) (a : n1 ≤ Bk) (b : Bk < n2) : Boxed W' Bk t v := (h.2 Bk a b).trans hb
theorem Kp.row {n1 n2 : Nat} {W W' : World} {k : IntKind} {v : Value} {l : List Int} (h : Kp n1 n2 W W') (hr : Row k W v l) (hin : ∀ i, 0 < l.length → v.ownBlock = some i → n1 ≤ i ∧ i < n2) : Row k W' v l := by
  obtain ⟨p, cap, rfl, h1, h2, h3, h4⟩ := hr
  refine ⟨p, cap, rfl, h1, h2, h3, fun hp => ?_⟩
  obtain ⟨b, o, rfl, hc⟩ := h4 hp
  obtain ⟨a1, a2⟩ := hin b hp rfl
  exact ⟨b, o, rfl, fun i hi => (World.cell?_of_block (a := ⟨b, o + i, none⟩) (h.2 b a1 a2)).trans (hc i hi)⟩

set_option maxHeartbeats 1000000 in
theorem ints_any {v : Value} {b : List Int} {w : World} (hv : Row .u8 w v b) (hbig : b.length ≤ 140737488355328) :
    Calls Try.prog 40 #[v] w fun e w' => ∃ Bk vk, e = .returned (.func (.func 50) #[] #[.pointer (some ⟨Bk, 0, none⟩)]) ∧ Boxed w' Bk 22 vk ∧ Row .u8 w' vk b ∧ w.heap.size ≤ Bk ∧ Bk < w'.heap.size ∧
      (∀ i, 0 < b.length → vk.ownBlock = some i → w.heap.size ≤ i ∧ i < w'.heap.size) ∧ Below w.heap.size w w' := by
  have HV : Hid (Row .u8 w v b) := hv
  clear hv
  go_enter Try.func40, Try.ntmps40
  go_wp2_with fail
  refine (clone_any HV.out hbig).mono ?_
  rintro r w1 ⟨v1, rfl, hown1, hb1⟩
  have hR1 := own_row hown1
  obtain ⟨p1, cap1, rfl, _⟩ := id hR1
  have HR1 : Hid (Row .u8 w1 (.slice p1 b.length cap1) b) := hR1
  have HL : Hid (∀ k, (Value.slice p1 b.length cap1).ownBlock = some k → w.heap.size ≤ k ∧ k < w1.heap.size) := hown1.lt
  clear hR1 hown1
  go_wp2_with fail
  go_ret
  refine ⟨w1.heap.size, .slice p1 b.length cap1, rfl, Boxed.new w1 _ _, HR1.out.below (alloc_below _ _), hb1.size, by simp, fun i _ hi => ?_, hb1.alloc hb1.size _⟩
  have := HL.out i hi
  simp
  omega

set_option maxRecDepth 100000 in
set_option maxHeartbeats 2000000 in
theorem ints1_in (n : Nat) (hn : 1 ≤ n) (l Bk n1 n2 : Nat) (vk : Value) (b : List Int) (J Jx : List (Int × Nat) → World → Prop)
    (hY : ∀ pre x W, J pre W → pre.length < (numbers b).length → YieldAt Fence.wide (n - 1) Try.prog l #[.int .i64 x.1, .int .i64 (x.2 : Int)] W fun e W' =>
      (e = .returned (.bool true) ∧ J (pre ++ [x]) W' ∧ Kp n1 n2 W W') ∨ (e = .returned (.bool false) ∧ Jx (pre ++ [x]) W'))
    (W : World) (hbox : Boxed W Bk 22 vk) (hrow : Row .u8 W vk b) (hu : U8 b) (k1 : n1 ≤ Bk) (k2 : Bk < n2) (hin : ∀ i, 0 < b.length → vk.ownBlock = some i → n1 ≤ i ∧ i < n2) (h0 : J [] W) :
    CallsIn Fence.wide n Try.prog 50 #[.func (.yield l) #[] #[], .pointer (some ⟨Bk, 0, none⟩)] W fun e W' => (∃ v, e = .returned v) ∧
      ((∃ ys, ys = numbers b ∧ J ys W') ∨ (∃ pre, pre <+: numbers b ∧ Jx pre W')) := by
  have HY : Hid (∀ pre x W, J pre W → pre.length < (numbers b).length → YieldAt Fence.wide (n - 1) Try.prog l #[.int .i64 x.1, .int .i64 (x.2 : Int)] W fun e W' =>
      (e = .returned (.bool true) ∧ J (pre ++ [x]) W' ∧ Kp n1 n2 W W') ∨ (e = .returned (.bool false) ∧ Jx (pre ++ [x]) W')) := hY
  have HU : Hid (U8 b) := hu
  have HIN : Hid (∀ i, 0 < b.length → vk.ownBlock = some i → n1 ≤ i ∧ i < n2) := hin
  obtain ⟨p, cap, rfl, g1, g2, _⟩ := id hrow
  have HR0 : Hid (Row .u8 W (.slice p b.length cap) b) := hrow
  have HB0 : Hid (Boxed W Bk 22 (.slice p b.length cap)) := hbox
  clear hY hu hin hrow hbox
  refine callsIn_of_wp Try.func50 rfl trivial ?_ rfl
  simp only [Try.ntmps50, List.size_toArray, List.length_cons, List.length_nil, Nat.reduceAdd, Nat.reduceSub, Array.replicate_succ, Array.replicate_zero, List.push_toArray, List.append_toArray, List.nil_append, List.cons_append]
  gi_wp2
  gi_loopw [3] (fun i wr => ∃ (k : Nat) (pre : List (Int × Nat)), k ≤ b.length ∧ i = .int .i64 (k : Int) ∧ Hid (numbers b = pre ++ after b k) ∧ Hid (Boxed wr Bk 22 (.slice p b.length cap)) ∧ Hid (Row .u8 wr (.slice p b.length cap) b) ∧ J pre wr) (fun i _ => b.length - (intOf i).toNat)
  case atStart => exact ⟨0, [], Nat.zero_le _, rfl, by show _ = _; rw [after_zero]; rfl, HB0, HR0, h0⟩
  case round =>
    obtain ⟨k, pre, hk, rfl, HP, HB, HR, hJ⟩ := hrel
    clear HB0 HR0 h0
    have hcell := HB.out.cell
    obtain ⟨n', j, er, hf⟩ : ∃ n' j er, first (b.drop k) = (n', j, er) := ⟨_, _, _, rfl⟩
    have HF : Hid (first (b.drop k) = (n', j, er)) := hf
    clear hf
    gi_wp2_with fail
    · have hck : cap = k := by assumption
      refine ⟨trivial, (callsIn_wide.2 (first_at (HR.out.cutEnd hk hck) (HU.out.drop k) HF.out)).mono ?_⟩
      rintro r w' ⟨rfl, hw'⟩
      obtain rfl : wr = w' := hw'.symm
      by_cases h0 : er = 0
      · subst h0
        obtain ⟨j0, j1, hstep⟩ := after_ok HU.out HF.out
        omega
      · have hn : (er != 0) = true := by simpa using h0
        have HE : Hid (numbers b = pre) := by show _ = _; rw [HP.out, after_err HF.out h0]; simp
        clear h0
        gi_wp2
        refine bodyPost_ret (results_none rfl _ _ _) rfl ?_
        exact ⟨⟨_, rfl⟩, .inl ⟨pre, HE.out.symm, hJ⟩⟩
    · refine ⟨trivial, (callsIn_wide.2 (first_at (HR.out.cut hk) (HU.out.drop k) HF.out)).mono ?_⟩
      rintro r w' ⟨rfl, hw'⟩
      obtain rfl : wr = w' := hw'.symm
      by_cases h0 : er = 0
      · subst h0
        obtain ⟨j0, j1, hstep⟩ := after_ok HU.out HF.out
        have HST : Hid (after b k = (n', k + j) :: after b (k + j)) := hstep
        clear hstep
        obtain ⟨fn, tmps, assign, body, hy, hR⟩ := HY.out pre (n', k + j) wr hJ (by rw [HP.out, HST.out]; simp)
        simp only [Int.natCast_add] at hy
        have HP' : Hid (numbers b = (pre ++ [(n', k + j)]) ++ after b (k + j)) := by show _ = _; rw [HP.out, HST.out]; simp
        gi_wp2
        refine hR.mono ?_
        rintro e W3 (⟨rfl, hJ3, hk3⟩ | ⟨rfl, hJx3⟩)
        · have HB3 : Hid (Boxed W3 Bk 22 (.slice p b.length cap)) := hk3.boxed HB.out k1 k2
          have HR3 : Hid (Row .u8 W3 (.slice p b.length cap) b) := hk3.row HR.out HIN.out
          clear hR hy hcell
          gi_wp2
          go_roundw
          case rel => exact ⟨k + j, pre ++ [(n', k + j)], j1, by go_num, HP', HB3, HR3, hJ3⟩
          case measure => simp [intOf]; omega
        · clear hR hy hcell
          gi_wp2
          refine bodyPost_ret (results_none rfl _ _ _) rfl ?_
          exact ⟨⟨_, rfl⟩, .inr ⟨pre ++ [(n', k + j)], ⟨after b (k + j), HP'.out.symm⟩, hJx3⟩⟩
      · have hn : (er != 0) = true := by simpa using h0
        have HE : Hid (numbers b = pre) := by show _ = _; rw [HP.out, after_err HF.out h0]; simp
        clear h0
        gi_wp2
        refine bodyPost_ret (results_none rfl _ _ _) rfl ?_
        exact ⟨⟨_, rfl⟩, .inl ⟨pre, HE.out.symm, hJ⟩⟩

/-- The iterator's contract. -/
theorem ints_stops (n : Nat) (hn : 1 ≤ n) (Bk n1 n2 : Nat) (vk : Value) (b : List Int) (w : World) (hbox : Boxed w Bk 22 vk) (hrow : Row .u8 w vk b) (hu : U8 b) (k1 : n1 ≤ Bk) (k2 : Bk < n2) (hin : ∀ i, 0 < b.length → vk.ownBlock = some i → n1 ≤ i ∧ i < n2) :
    SeqStopsK Fence.wide n Try.prog 50 #[.pointer (some ⟨Bk, 0, none⟩)] (fun x : Int × Nat => #[.int .i64 x.1, .int .i64 (x.2 : Int)]) (Kp n1 n2) (fun ys => ys = numbers b) (fun pre => pre <+: numbers b) (numbers b).length w := fun l J Jx W hW _ _ hY h0 =>
  ints1_in n hn l Bk n1 n2 vk b J Jx hY W ((hW.block Bk hbox.lt).trans hbox) (hrow.below hW) hu k1 k2 hin h0

end Go.Proofs.Ytpnoijmdhlkjlaa
