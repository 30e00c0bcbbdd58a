/-
  What each law of package guard asks ahead: a region believes for twelve ticks from when it asked. No conditions.
-/
import Derived.Test.YtegffdmlkbdcdaaGdg
namespace Go.Proofs.Ytegffdmlkbdcdaa
open Go.RowKit

structure BG (W : World) (vB : Nat) (l : GE) (wd : World) : Prop where
  box : wd.heap[vB]? = some (.cells #[.int .i64 l.ck, .int .i64 l.ep, .int .i64 l.un, .int .i64 l.se, .int .i64 l.ki, .int .i64 l.ak] 23 (0, 0))
  below : Below W.heap.size W wd
  ge : W.heap.size ≤ vB
theorem BG.later {W wd w' : World} {vB : Nat} {l : GE} (h : BG W vB l wd) (b : Below wd.heap.size wd w') : BG W vB l w' := ⟨below_box b h.box, h.below.trans (b.mono h.below.size), h.ge⟩
set_option maxRecDepth 100000 in
set_option maxHeartbeats 8000000 in
theorem begun_any {W : World} : Calls Try.prog 6 #[] W fun e w' => e = .returned (.bool true) ∧ Below W.heap.size W w' := by
  go_enter Try.func6, Try.ntmps6
  go_wp2_with fail
  refine gnew_any.mono ?_
  simp only [GE.val, GE.row, zeroG]
  rintro _ w1 ⟨rfl, b1⟩
  have HB1 := hide b1
  clear b1
  go_wp2_with fail
  refine tick_any.mono ?_
  rw [show tickG ⟨0, 0, 0, 0, 0, 0⟩ 5 = ⟨5, 0, 0, 0, 0, 0⟩ from by decide]
  try simp only [GE.val, GE.row]
  rintro _ w2 ⟨rfl, b1⟩
  have HB2 := hide (below_next HB1.out b1 HB1.out.size)
  clear HB1 b1
  go_wp2_with fail
  refine ask_any.mono ?_
  rw [show askG ⟨5, 0, 0, 0, 0, 0⟩ = (⟨5, 0, 0, 1, 1, 5⟩, 1, 1, 0) from by decide]
  try simp only [GE.val, GE.row]
  rintro _ w3 ⟨rfl, b1⟩
  have HB3 := hide (below_next HB2.out b1 HB2.out.size)
  clear HB2 b1
  go_upto_region 2 with fail
  obtain ⟨X, hX⟩ : ∃ X, X = w3.alloc (.cells #[.int .i64 5, .int .i64 0, .int .i64 0, .int .i64 1, .int .i64 1, .int .i64 5] 23 (0, 0)) := ⟨_, rfl⟩
  rw [← hX]
  have bX : Below w3.heap.size w3 X := by rw [hX]; exact alloc_below _ _
  obtain ⟨vB, hvB⟩ : ∃ vB, w3.heap.size = vB := ⟨_, rfl⟩
  have HD0 : Hid (BG W vB ⟨5, 0, 0, 1, 1, 5⟩ X) := hide ⟨by rw [hX, ← hvB]; exact heap_alloc_new w3 _, below_next HB3.out bX HB3.out.size, by rw [← hvB]; exact HB3.out.size⟩
  try rw [hvB]
  clear hX bX hvB HB3
  obtain ⟨_, _, _, _, _, _, u0, u1, u2, u3, u4, u5⟩ := six HD0.out.box
  simp only at u0 u1 u2 u3 u4 u5
  go_wp2_with fail
  refine tick_any.mono ?_
  rw [show tickG ⟨5, 0, 0, 1, 1, 5⟩ 3 = ⟨8, 0, 0, 1, 1, 5⟩ from by decide]
  try simp only [GE.val, GE.row]
  rintro _ w4 ⟨rfl, b1⟩
  have HD1 := hide (HD0.out.later b1)
  clear b1 HD0 u0 u1 u2 u3 u4 u5
  obtain ⟨_, _, _, _, _, _, u0, u1, u2, u3, u4, u5⟩ := six HD1.out.box
  simp only at u0 u1 u2 u3 u4 u5
  go_wp2_with fail
  refine grn_any.mono ?_
  rw [show grnG ⟨8, 0, 0, 1, 1, 5⟩ 1 7 = (⟨8, 7, 17, 1, 0, 0⟩, true) from by decide]
  try simp only [GE.val, GE.row]
  rintro _ w5 ⟨rfl, b1⟩
  have HD2 := hide (HD1.out.later b1)
  clear b1 HD1 u0 u1 u2 u3 u4 u5
  obtain ⟨_, _, _, _, _, _, u0, u1, u2, u3, u4, u5⟩ := six HD2.out.box
  simp only at u0 u1 u2 u3 u4 u5
  go_upto_region 5 with fail
  obtain ⟨Y, hY⟩ : ∃ Y, Y = ((((((w5.setCell ⟨vB, 0, none⟩ (.int .i64 8)).setCell ⟨vB, 1, none⟩ (.int .i64 7)).setCell ⟨vB, 2, none⟩ (.int .i64 17)).setCell ⟨vB, 3, none⟩ (.int .i64 1)).setCell ⟨vB, 4, none⟩ (.int .i64 0)).setCell ⟨vB, 5, none⟩ (.int .i64 0)) := ⟨_, rfl⟩
  have HD3 : Hid (BG W vB ⟨8, 7, 17, 1, 0, 0⟩ Y) := hide (by rw [hY]; exact ⟨heap_set6 HD2.out.box (.int .i64 8) (.int .i64 7) (.int .i64 17) (.int .i64 1) (.int .i64 0) (.int .i64 0), HD2.out.below.trans ((only_set6 w5 vB (.int .i64 8) (.int .i64 7) (.int .i64 17) (.int .i64 1) (.int .i64 0) (.int .i64 0)).below HD2.out.below.size (fun i e => by have e' : i = vB := e; have := HD2.out.ge; omega)), HD2.out.ge⟩)
  rw [← hY]
  clear hY HD2 u0 u1 u2 u3 u4 u5
  obtain ⟨_, _, _, _, _, _, u0, u1, u2, u3, u4, u5⟩ := six HD3.out.box
  simp only at u0 u1 u2 u3 u4 u5
  go_wp2_with fail
  refine left_any.mono ?_
  rw [show leftG ⟨8, 7, 17, 1, 0, 0⟩ = 9 from by decide]
  try simp only [GE.val, GE.row]
  rintro _ w6 ⟨rfl, b1⟩
  have HD4 := hide (HD3.out.later b1)
  clear b1 HD3 u0 u1 u2 u3 u4 u5
  obtain ⟨_, _, _, _, _, _, u0, u1, u2, u3, u4, u5⟩ := six HD4.out.box
  simp only at u0 u1 u2 u3 u4 u5
  go_wp2_with fail
  refine tick_any.mono ?_
  rw [show tickG ⟨8, 7, 17, 1, 0, 0⟩ 8 = ⟨16, 7, 17, 1, 0, 0⟩ from by decide]
  try simp only [GE.val, GE.row]
  rintro _ w7 ⟨rfl, b1⟩
  have HD5 := hide (HD4.out.later b1)
  clear b1 HD4 u0 u1 u2 u3 u4 u5
  obtain ⟨_, _, _, _, _, _, u0, u1, u2, u3, u4, u5⟩ := six HD5.out.box
  simp only at u0 u1 u2 u3 u4 u5
  go_wp2_with fail
  refine bel_any.mono ?_
  rw [show belG ⟨16, 7, 17, 1, 0, 0⟩ = true from by decide]
  try simp only [GE.val, GE.row]
  rintro _ w8 ⟨rfl, b1⟩
  have HD6 := hide (HD5.out.later b1)
  clear b1 HD5 u0 u1 u2 u3 u4 u5
  obtain ⟨_, _, _, _, _, _, u0, u1, u2, u3, u4, u5⟩ := six HD6.out.box
  simp only at u0 u1 u2 u3 u4 u5
  go_wp2_with fail
  refine tick_any.mono ?_
  rw [show tickG ⟨8, 7, 17, 1, 0, 0⟩ 9 = ⟨17, 7, 17, 1, 0, 0⟩ from by decide]
  try simp only [GE.val, GE.row]
  rintro _ w9 ⟨rfl, b1⟩
  have HD7 := hide (HD6.out.later b1)
  clear b1 HD6 u0 u1 u2 u3 u4 u5
  obtain ⟨_, _, _, _, _, _, u0, u1, u2, u3, u4, u5⟩ := six HD7.out.box
  simp only at u0 u1 u2 u3 u4 u5
  go_wp2_with fail
  refine bel_any.mono ?_
  rw [show belG ⟨17, 7, 17, 1, 0, 0⟩ = false from by decide]
  try simp only [GE.val, GE.row]
  rintro _ wa ⟨rfl, b1⟩
  have HD8 := hide (HD7.out.later b1)
  clear b1 HD7 u0 u1 u2 u3 u4 u5
  obtain ⟨_, _, _, _, _, _, u0, u1, u2, u3, u4, u5⟩ := six HD8.out.box
  simp only at u0 u1 u2 u3 u4 u5
  go_wp2
  go_ret
  exact ⟨rfl, HD8.out.below⟩
end Go.Proofs.Ytegffdmlkbdcdaa
