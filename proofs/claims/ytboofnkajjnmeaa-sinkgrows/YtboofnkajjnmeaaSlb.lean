/-
  live of the laws: it is true. No conditions.
-/
import Derived.Test.YtboofnkajjnmeaaSla
import Derived.Test.YtboofnkajjnmeaaSkq
namespace Go.Proofs.Ytboofnkajjnmeaa
open Go.RowKit Go.Maps Go.Shelf

theorem nums_new (w : World) (l : List Int) (hl : l.length ≤ 4) : NRow (w.alloc (.cells (l.map (Value.int .i64)).toArray 2 (0, 0))) (some ⟨w.heap.size, 0, none⟩) l.length l :=
  NRow.of_own rfl (base := w.heap.size) (e := 2) ⟨by rw [int_flat]; simp, .inr ⟨w.heap.size, l.length, _, rfl, Nat.le_refl _, heap_alloc_new w _, Nat.le_refl _, by unfold maxLen; omega, by simp, by rw [int_flat, Nat.mul_one, List.take_of_length_le (by simp)]⟩⟩
/-- A transaction that the laws made suits the call: its lists lie there, and are nobody else's. -/
theorem clo_ok {B : Nat} {W w : World} {ep id bg : Int} {rs : List RC} {vs : List Int} {rn vn : Nat} {k : PK} {p q : Option Addr} {c d : Nat} (hk : PS B W k) (h1 : w.ownsRow W.heap.size 49 2 (.slice p rn c) rn (rs.flatMap RC.cells)) (h2 : w.ownsRow W.heap.size 2 1 (.slice q vn d) vn (vs.flatMap intCells)) (hr : rs.length = rn) (hv : vs.length = vn) :
    (⟨⟨ep, id, bg, rs, vs⟩, p, c, q, d⟩ : TP).ok w ∧ ∀ i, (⟨⟨ep, id, bg, rs, vs⟩, p, c, q, d⟩ : TP).blk i → ¬ k.blk i := by
  subst hr hv
  refine ⟨⟨RRow.of_own rfl h1, NRow.of_own rfl h2⟩, fun i hi hb => ?_⟩
  have h9 := (hk.lt hb).2
  rcases hi with ⟨a, ha, _, e⟩ | ⟨a, ha, _, e⟩
  · simp only at ha
    have := own_block_base h1 (b := a.block) (by rw [ha]; rfl)
    omega
  · simp only at ha
    have := own_block_base h2 (b := a.block) (by rw [ha]; rfl)
    omega
def lt1 : TX := ⟨1, 1, 0, [⟨0, 7⟩, ⟨0, 8⟩], [2]⟩
def lt2 : TX := ⟨2, 5, 1, [⟨0, 8⟩, ⟨0, 9⟩], [3]⟩
def lt3 : TX := ⟨2, 6, 1, [⟨0, 9⟩], [4]⟩
def ls1 : SK := ⟨1, [], [0], [], [lt1]⟩
def ls2 : SK := ⟨1, [⟨0, 7⟩, ⟨0, 8⟩], [2], [1], []⟩
def ls3 : SK := ⟨2, [⟨0, 7⟩, ⟨0, 8⟩], [2], [], [lt2]⟩
def ls4 : SK := ⟨2, [⟨0, 7⟩, ⟨0, 8⟩, ⟨0, 9⟩], [3], [5], []⟩
theorem lv1 : preE 1 (newS 1) lt1 = 0 ∧ preS 1 (newS 1) lt1 = ls1 := by decide
theorem lv2 : comE ls1 1 1 = 0 ∧ comS ls1 1 1 = ls2 := by decide
theorem lv3 : preE 1 ls2 lt2 = 0 ∧ preS 1 ls2 lt2 = ls3 := by decide
theorem lv4 : comE ls3 2 5 = 0 ∧ comS ls3 2 5 = ls4 := by decide
theorem lv5 : comE ls4 1 2 = 150 ∧ comS ls4 1 2 = ls4 := by decide
theorem lv6 : preE 1 ls4 lt3 = 152 ∧ preS 1 ls4 lt3 = ls4 := by decide
set_option maxRecDepth 100000 in
set_option maxHeartbeats 4000000 in
theorem live_any {W : World} : Calls Try.prog 8 #[] W fun e w' => e = .returned (.bool true) ∧ Below W.heap.size W w' := by
  go_enter Try.func8, Try.ntmps8
  go_wp2_with fail
  refine (new_ok (W := W) (n := 1) (Nat.le_refl _) (by omega)).mono ?_
  rintro _ w0 ⟨k0, rfl, hp, hs, hb⟩
  have HP0 := hide hp
  have HS0 : Hid (k0.sk = newS 1) := hide hs
  have HB0 := hide hb
  clear hp hs hb
  go_wp2_with fail
  have hnr : NRow (w0.alloc (.cells #[.int .i64 7, .int .i64 8] 2 (0, 0))) (some ⟨w0.heap.size, 0, none⟩) 2 [7, 8] := nums_new w0 [7, 8] (by decide)
  have ba := alloc_below w0 (.cells #[.int .i64 7, .int .i64 8] 2 (0, 0))
  refine (txn_any hnr rfl (by decide)).mono ?_
  rintro _ w1 ⟨p1, c1, q1, d1, rfl, o1, o2, b2⟩
  have HP1' := hide ((HP0.out.later ba).later b2)
  have HX1 := hide (clo_ok (ep := 1) (id := 1) (bg := 0) (HP0.out.later ba) o1 o2 rfl rfl)
  have HB1 : Hid (Below W.heap.size W w1) := hide (HB0.out.trans ((ba.trans (b2.mono ba.size)).mono HB0.out.size))
  clear hnr ba o1 o2 b2
  go_wp2_with fail
  have HP1Q := HP1'
  refine (pre_any (x := ⟨lt1, p1, c1, q1, d1⟩) HP1Q.out HX1.out.1 HX1.out.2 (by have h9 : k0.done = _ := congrArg SK.done HS0.out; rw [h9]; decide)).mono ?_
  rintro _ w2 ⟨rfl, hput⟩
  obtain ⟨k1, r1, r2, r3, r4, r5⟩ := hput
  have HE := (show preE k0.vec.length k0.sk lt1 = _ ∧ preS k0.vec.length k0.sk lt1 = _ by have h9 : k0.vec = _ := congrArg SK.vec HS0.out; rw [h9, HS0.out]; exact lv1)
  rw [HE.1]
  rw [HE.2] at r2
  have HP2 := hide r1
  have HS1 : Hid (k1.sk = ls1) := hide r2
  have HB2 : Hid (Below W.heap.size W w2) := hide (HB1.out.trans (r4.below HB1.out.size (fun i hi => (HP1Q.out.lt hi).1)))
  rw [← r3]
  clear r1 r2 r3 r4 r5 HE
  go_wp2_with fail
  have HP2Q := HP2
  refine (commit_any HP2Q.out (by have h9 : k1.done = _ := congrArg SK.done HS1.out; rw [h9]; decide)).mono ?_
  rintro _ w3 ⟨rfl, hput⟩
  obtain ⟨k2, r1, r2, r3, r4, r5⟩ := hput
  have HE := (show comE k1.sk 1 1 = _ ∧ comS k1.sk 1 1 = _ by rw [HS1.out]; exact lv2)
  rw [HE.1]
  rw [HE.2] at r2
  have HP3 := hide r1
  have HS2 : Hid (k2.sk = ls2) := hide r2
  have HB3 : Hid (Below W.heap.size W w3) := hide (HB2.out.trans (r4.below HB2.out.size (fun i hi => (HP2Q.out.lt hi).1)))
  rw [← r3]
  clear r1 r2 r3 r4 r5 HE
  go_wp2_with fail
  have h9 : k2.out = _ := congrArg SK.out HS2.out
  refine (len_any HP3.out).mono ?_
  rintro _ _ ⟨rfl, rfl⟩
  rename World => w3
  rw [h9]
  clear h9
  go_wp2_with fail
  have hnr : NRow (w3.alloc (.cells #[.int .i64 8, .int .i64 9] 2 (0, 0))) (some ⟨w3.heap.size, 0, none⟩) 2 [8, 9] := nums_new w3 [8, 9] (by decide)
  have ba := alloc_below w3 (.cells #[.int .i64 8, .int .i64 9] 2 (0, 0))
  refine (txn_any hnr rfl (by decide)).mono ?_
  rintro _ w4 ⟨p4, c4, q4, d4, rfl, o1, o2, b2⟩
  have HP4' := hide ((HP3.out.later ba).later b2)
  have HX4 := hide (clo_ok (ep := 2) (id := 5) (bg := 1) (HP3.out.later ba) o1 o2 rfl rfl)
  have HB4 : Hid (Below W.heap.size W w4) := hide (HB3.out.trans ((ba.trans (b2.mono ba.size)).mono HB3.out.size))
  clear hnr ba o1 o2 b2
  go_wp2_with fail
  have HP4Q := HP4'
  refine (pre_any (x := ⟨lt2, p4, c4, q4, d4⟩) HP4Q.out HX4.out.1 HX4.out.2 (by have h9 : k2.done = _ := congrArg SK.done HS2.out; rw [h9]; decide)).mono ?_
  rintro _ w5 ⟨rfl, hput⟩
  obtain ⟨k3, r1, r2, r3, r4, r5⟩ := hput
  have HE := (show preE k2.vec.length k2.sk lt2 = _ ∧ preS k2.vec.length k2.sk lt2 = _ by have h9 : k2.vec = _ := congrArg SK.vec HS2.out; rw [h9, HS2.out]; exact lv3)
  rw [HE.1]
  rw [HE.2] at r2
  have HP5 := hide r1
  have HS3 : Hid (k3.sk = ls3) := hide r2
  have HB5 : Hid (Below W.heap.size W w5) := hide (HB4.out.trans (r4.below HB4.out.size (fun i hi => (HP4Q.out.lt hi).1)))
  rw [← r3]
  clear r1 r2 r3 r4 r5 HE
  go_wp2_with fail
  have h9 : k3.reg = _ := congrArg SK.reg HS3.out
  refine (register_any HP5.out).mono ?_
  rintro _ _ ⟨rfl, rfl⟩
  rename World => w5
  rw [h9]
  clear h9
  go_wp2_with fail
  have HP5Q := HP5
  refine (commit_any HP5Q.out (by have h9 : k3.done = _ := congrArg SK.done HS3.out; rw [h9]; decide)).mono ?_
  rintro _ w6 ⟨rfl, hput⟩
  obtain ⟨k4, r1, r2, r3, r4, r5⟩ := hput
  have HE := (show comE k3.sk 2 5 = _ ∧ comS k3.sk 2 5 = _ by rw [HS3.out]; exact lv4)
  rw [HE.1]
  rw [HE.2] at r2
  have HP6 := hide r1
  have HS4 : Hid (k4.sk = ls4) := hide r2
  have HB6 : Hid (Below W.heap.size W w6) := hide (HB5.out.trans (r4.below HB5.out.size (fun i hi => (HP5Q.out.lt hi).1)))
  rw [← r3]
  clear r1 r2 r3 r4 r5 HE
  go_wp2_with fail
  have h9 : k4.out = _ := congrArg SK.out HS4.out
  refine (len_any HP6.out).mono ?_
  rintro _ _ ⟨rfl, rfl⟩
  rename World => w6
  rw [h9]
  clear h9
  go_wp2_with fail
  have HP6Q := HP6
  refine (commit_any HP6Q.out (by have h9 : k4.done = _ := congrArg SK.done HS4.out; rw [h9]; decide)).mono ?_
  rintro _ w7 ⟨rfl, hput⟩
  obtain ⟨k5, r1, r2, r3, r4, r5⟩ := hput
  have HE := (show comE k4.sk 1 2 = _ ∧ comS k4.sk 1 2 = _ by rw [HS4.out]; exact lv5)
  rw [HE.1]
  rw [HE.2] at r2
  have HP7 := hide r1
  have HS5 : Hid (k5.sk = ls4) := hide r2
  have HB7 : Hid (Below W.heap.size W w7) := hide (HB6.out.trans (r4.below HB6.out.size (fun i hi => (HP6Q.out.lt hi).1)))
  rw [← r3]
  clear r1 r2 r3 r4 r5 HE
  go_wp2_with fail
  have hnr : NRow (w7.alloc (.cells #[.int .i64 9] 2 (0, 0))) (some ⟨w7.heap.size, 0, none⟩) 1 [9] := nums_new w7 [9] (by decide)
  have ba := alloc_below w7 (.cells #[.int .i64 9] 2 (0, 0))
  refine (txn_any hnr rfl (by decide)).mono ?_
  rintro _ w8 ⟨p8, c8, q8, d8, rfl, o1, o2, b2⟩
  have HP8' := hide ((HP7.out.later ba).later b2)
  have HX8 := hide (clo_ok (ep := 2) (id := 6) (bg := 1) (HP7.out.later ba) o1 o2 rfl rfl)
  have HB8 : Hid (Below W.heap.size W w8) := hide (HB7.out.trans ((ba.trans (b2.mono ba.size)).mono HB7.out.size))
  clear hnr ba o1 o2 b2
  go_wp2_with fail
  have HP8Q := HP8'
  refine (pre_any (x := ⟨lt3, p8, c8, q8, d8⟩) HP8Q.out HX8.out.1 HX8.out.2 (by have h9 : k5.done = _ := congrArg SK.done HS5.out; rw [h9]; decide)).mono ?_
  rintro _ w9 ⟨rfl, hput⟩
  obtain ⟨k6, r1, r2, r3, r4, r5⟩ := hput
  have HE := (show preE k5.vec.length k5.sk lt3 = _ ∧ preS k5.vec.length k5.sk lt3 = _ by have h9 : k5.vec = _ := congrArg SK.vec HS5.out; rw [h9, HS5.out]; exact lv6)
  rw [HE.1]
  rw [HE.2] at r2
  have HP9 := hide r1
  have HS6 : Hid (k6.sk = ls4) := hide r2
  have HB9 : Hid (Below W.heap.size W w9) := hide (HB8.out.trans (r4.below HB8.out.size (fun i hi => (HP8Q.out.lt hi).1)))
  rw [← r3]
  clear r1 r2 r3 r4 r5 HE
  go_wp2
  go_ret
  exact ⟨rfl, HB9.out⟩
end Go.Proofs.Ytboofnkajjnmeaa
