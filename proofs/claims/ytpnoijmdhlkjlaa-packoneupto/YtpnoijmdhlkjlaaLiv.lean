/-
  What the statements' function 'live' does, over any world, in which nothing that was there turns: it returns true. No condition.
-/
import Derived.Test.YtpnoijmdhlkjlaaPut
import Derived.Test.YtpnoijmdhlkjlaaUnp
namespace Go.Proofs.Ytpnoijmdhlkjlaa
open Go.RowKit

/-- A slice that the call has just laid, of whatever integers. -/
theorem lit_row (k : IntKind) (w : World) (l : List Int) (t : TypeId) (hl : l.length ≤ 9223372036854775807) : Row k (w.alloc (.cells (l.map (Value.int k)).toArray t)) (.slice (some ⟨w.heap.size, 0, none⟩) l.length l.length) l := by
  refine ⟨some ⟨w.heap.size, 0, none⟩, l.length, rfl, Nat.le_refl _, hl, (by intro h; cases h), fun _ => ⟨w.heap.size, 0, rfl, fun i hi => ?_⟩⟩
  simp [List.getD, List.getElem?_eq_getElem hi]

theorem live_form : ([] : List Int) ++ forms [300, -1] = [132, 88, 1] := by
  have h1 : form 600 = [132, 88] := by unfold form; rw [hi_pos (by decide), show (600 / 128 / 128 : Nat) = 0 by decide, hi_zero]; rfl
  have h2 : form 1 = [1] := by unfold form; rw [show (1 / 128 : Nat) = 0 by decide, hi_zero]; rfl
  rw [forms_cons, forms_cons, forms_nil, show zz 300 = 600 by decide, show zz (-1) = 1 by decide, h1, h2]
  rfl
theorem live_str : [132, 88, 1] ++ form (zz (([7, 8] : List Int).length : Int)) ++ [7, 8] = [132, 88, 1, 4, 7, 8] := by
  have h2 : form 4 = [4] := by unfold form; rw [show (4 / 128 : Nat) = 0 by decide, hi_zero]; rfl
  rw [show zz (([7, 8] : List Int).length : Int) = 4 by decide, h2]
  rfl
theorem live1 : reads [132, 88, 1, 4, 7, 8] 0 0 1000 = (300, [1, 4, 7, 8], 0) := by decide +kernel
theorem live2 : reads [1, 4, 7, 8] 0 (-5) 5 = (-1, [4, 7, 8], 0) := by decide +kernel
theorem live3 : readsStr [4, 7, 8] 0 9 = ([7, 8], [], 0) := by decide +kernel
theorem live4 : closes [] 0 = 0 := by decide

set_option maxHeartbeats 4000000 in
theorem live_any (w : World) : Calls Try.prog 9 #[] w fun r w' => r = .returned (.bool true) ∧ Below w.heap.size w w' := by
  go_enter Try.func9, Try.ntmps9
  go_wp2_with fail
  refine (int_any (Row.nil _ _) (lit_row .i64 w [300, -1] 2 (by decide)) (by intro x hx; simp at hx; omega) (by decide)).mono ?_
  rintro r w1 ⟨v1, rfl, hown1, hb1⟩
  rw [live_form] at hown1
  have H1 : Hid (Row .u8 w1 v1 [132, 88, 1]) := own_row hown1
  clear hown1
  go_wp2_with fail
  refine (str_any (H1.out.below (alloc_below _ _)) (lit_row .u8 w1 [7, 8] 5 (by decide)) (by decide)).mono ?_
  rintro r w2 ⟨v2, rfl, hown2, hb2⟩
  rw [live_str] at hown2
  have H2 : Hid (Row .u8 w2 v2 [132, 88, 1, 4, 7, 8]) := own_row hown2
  clear hown2
  go_wp2_with fail
  refine (open_any H2.out (by intro x hx; simp at hx; omega) (by decide)).mono ?_
  rintro r w3 ⟨bu, v3, rfl, hbu, hu3, hb3⟩
  have H3 : Hid (Unp w3 bu v3 [132, 88, 1, 4, 7, 8] 0) := hu3
  clear hu3
  go_wp2_with fail
  refine (equal_any (l := [132, 88, 1, 4, 7, 8]) (m := [132, 88, 1, 4, 7, 8]) ((H2.out.below hb3).below (alloc_below _ _)) (lit_row .u8 w3 [132, 88, 1, 4, 7, 8] 5 (by decide)) (by intro x hx; simp at hx; omega) (by intro x hx; simp at hx; omega)).mono ?_
  rintro r w' ⟨rfl, rfl⟩
  rw [decide_eq_true rfl]
  go_wp2_with fail
  refine (uint_at (H3.out.below (alloc_below _ _)) live1).mono ?_
  rintro r w4 ⟨rfl, hg4, p4, cap4, hu4⟩
  have H4 : Hid (Unp w4 bu (.slice p4 ([1, 4, 7, 8] : List Int).length cap4) [1, 4, 7, 8] 0) := hu4
  clear hu4
  go_wp2_with fail
  refine (uint_at H4.out live2).mono ?_
  rintro r w5 ⟨rfl, hg5, p5, cap5, hu5⟩
  have H5 : Hid (Unp w5 bu (.slice p5 ([4, 7, 8] : List Int).length cap5) [4, 7, 8] 0) := hu5
  clear hu5
  go_wp2_with fail
  refine (ustr_at H5.out (by decide) live3).mono ?_
  rintro r w6 ⟨v6, rfl, hg6, hown6, v7, hu6⟩
  have H6 : Hid (Unp w6 bu v7 [] 0) := hu6
  have R6 : Hid (Row .u8 w6 v6 [7, 8]) := own_row hown6
  clear hown6 hu6
  go_wp2_with fail
  refine (equal_any (l := [7, 8]) (m := [7, 8]) (R6.out.below (alloc_below _ _)) (lit_row .u8 w6 [7, 8] 5 (by decide)) (by intro x hx; simp at hx; omega) (by intro x hx; simp at hx; omega)).mono ?_
  rintro r w' ⟨rfl, rfl⟩
  rw [decide_eq_true rfl]
  go_wp2_with fail
  refine (close_any (H6.out.below (alloc_below _ _))).mono ?_
  rintro r w' ⟨rfl, rfl⟩
  rw [live4]
  go_wp2_with fail
  go_ret
  refine ⟨rfl, ?_⟩
  have s1 : w.heap.size ≤ w1.heap.size := by have := hb1.size; simp at this; omega
  have s2 : w1.heap.size ≤ w2.heap.size := by have := hb2.size; simp at this; omega
  have s3 := hb3.size
  have s4 : w3.heap.size ≤ w4.heap.size := by have := hg4.size; simp at this; omega
  have s5 := hg5.size
  have s6 := hg6.size
  have B1 : Below w.heap.size w w1 := (alloc_below w _).trans (hb1.mono (by simp))
  have B2 : Below w.heap.size w w2 := B1.trans (((alloc_below w1 _).trans (hb2.mono (by simp))).mono s1)
  have B3 : Below w.heap.size w w3 := B2.trans (hb3.mono (by omega))
  have B4 : Below w.heap.size w w4 := (B3.alloc (by omega) _).grown hg4 (by simp; omega) (fun k hk => by simp at hk; omega)
  have B5 : Below w.heap.size w w5 := B4.grown hg5 (by omega) (fun k hk => by simp at hk; omega)
  have B6 : Below w.heap.size w w6 := B5.grown hg6 (by omega) (fun k hk => by simp at hk; omega)
  exact B6.alloc (by omega) _

end Go.Proofs.Ytpnoijmdhlkjlaa
