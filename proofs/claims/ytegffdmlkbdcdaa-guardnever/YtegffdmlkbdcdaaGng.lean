/-
  A move. The conditions: that the play lies there, and that its numbers are not near the greatest.
-/
import Derived.Test.YtegffdmlkbdcdaaGnf
import Derived.Deep.CutRange
import Derived.Deep.CutBlock
namespace Go.Proofs.Ytegffdmlkbdcdaa
open Go.ChangeShapes Go.WideShapes Go.ChangeAt Go.RowKit

theorem and_in (a : Int) (m : Nat) (hm : m ≤ 15) : 0 ≤ bits .and .i64 a (m : Int) ∧ bits .and .i64 a (m : Int) ≤ (m : Int) := by
  have e : (BitVec.ofInt 64 (m : Int)).toNat = m := by
    rw [BitVec.toNat_ofInt]; omega
  have h : (BitVec.ofInt 64 a &&& BitVec.ofInt 64 (m : Int)).toNat ≤ m := by
    rw [BitVec.toNat_and, e]; exact Nat.and_le_right
  have h2 : bits .and .i64 a (m : Int) = IntKind.i64.wrap ((BitVec.ofInt 64 a &&& BitVec.ofInt 64 (m : Int)).toNat : Int) := rfl
  rw [h2, IntKind.wrap_i64]
  omega
theorem ask_num {g x : GE} {a b : Int} (h : askG g = (x, a, b, 0)) : 0 ≤ a ∧ a ≤ 9007199254740992 := by
  have hk := snd_ok g
  unfold askG askS at h
  unfold okG at hk
  split at h
  · simp at h
  · split at h
    · simp at h
    · simp only [Prod.mk.injEq] at h
      omega
/-- A map is written to. -/
theorem PRep.map0 {B : Nat} {W : World} {pB mA mB n : Nat} {p : PL} {sp : Option Addr} {cap : Nat} {wd w' : World} (h : PRep B W pB mA mB n p sp cap wd) (ho : Only (· = mA) wd w') {f : Int → Int × Int} (hm : MapF w' mA (n + 1) f) : PRep B W pB mA mB (n + 1) ⟨⟨p.r0.g, p.r0.a, p.r0.b, p.r0.had, f⟩, p.r1, p.l, p.bag, p.ck⟩ sp cap w' :=
  ⟨ho.obj h.box (fun e => map_box h.ma h.box e.symm), ownsRow_only h.bag ho (fun i hi e => by obtain ⟨_, c2, h3⟩ := own_block_lt h.bag hi; exact map_box h.ma h3 (show mA = i from e.symm)), hm, (h.mb.only ho (fun e => h.ne.1 e.symm)).mono (Nat.le_succ _), h.ne, h.below.trans (ho.below (Nat.le_trans h.ne.2.1 (Nat.le_of_lt (box_lt h.box))) (fun i e => by have e' : i = mA := e; have := h.ne; omega))⟩
theorem PRep.map1 {B : Nat} {W : World} {pB mA mB n : Nat} {p : PL} {sp : Option Addr} {cap : Nat} {wd w' : World} (h : PRep B W pB mA mB n p sp cap wd) (ho : Only (· = mB) wd w') {f : Int → Int × Int} (hm : MapF w' mB (n + 1) f) : PRep B W pB mA mB (n + 1) ⟨p.r0, ⟨p.r1.g, p.r1.a, p.r1.b, p.r1.had, f⟩, p.l, p.bag, p.ck⟩ sp cap w' :=
  ⟨ho.obj h.box (fun e => map_box h.mb h.box e.symm), ownsRow_only h.bag ho (fun i hi e => by obtain ⟨_, c2, h3⟩ := own_block_lt h.bag hi; exact map_box h.mb h3 (show mB = i from e.symm)), (h.ma.only ho h.ne.1).mono (Nat.le_succ _), hm, h.ne, h.below.trans (ho.below (Nat.le_trans h.ne.2.1 (Nat.le_of_lt (box_lt h.box))) (fun i e => by have e' : i = mB := e; have := h.ne; omega))⟩
theorem and15 (a : Int) : 0 ≤ bits .and .i64 a 15 ∧ bits .and .i64 a 15 ≤ 15 := and_in a 15 (by decide)
theorem and1 (a : Int) : bits .and .i64 a 1 = 0 ∨ bits .and .i64 a 1 = 1 := by
  have h := and_in a 1 (by decide)
  simp only [Int.natCast_one] at h
  omega
set_option maxRecDepth 100000 in
set_option maxHeartbeats 8000000 in
theorem mov_tick0 {W : World} {B pB mA mB n cap : Nat} {sp : Option Addr} {W0 : World} {c0 c1 c2 c3 c4 c5 d0 d1 d2 d3 d4 d5 a0 b0 a1 b1 l0 l1 l2 l3 l4 ck : Int} {h0 h1 so : Bool} {f0 f1 : Int → Int × Int} {bag : List LT} {mr mn mw nn : Int} {mt : Bool} (hP : PRep B W0 pB mA mB n ⟨⟨⟨c0, c1, c2, c3, c4, c5⟩, a0, b0, h0, f0⟩, ⟨⟨d0, d1, d2, d3, d4, d5⟩, a1, b1, h1, f1⟩, ⟨l0, l1, l2, l3, l4, so⟩, bag, ck⟩ sp cap W) (hr : bits .and .i64 mr 1 = 0) (hn : bits .and .i64 mn 15 = nn) :
    Calls Try.prog 18 #[.pointer (some ⟨pB, 0, none⟩), .agg #[.int .i64 0, .int .i64 mr, .int .i64 mn, .int .i64 mw, .bool mt]] W fun e w' => e = .returned (.tuple #[]) ∧ ∃ sp' cap', PRep B W0 pB mA mB n (tickP ⟨⟨⟨c0, c1, c2, c3, c4, c5⟩, a0, b0, h0, f0⟩, ⟨⟨d0, d1, d2, d3, d4, d5⟩, a1, b1, h1, f1⟩, ⟨l0, l1, l2, l3, l4, so⟩, bag, ck⟩ 0 nn) sp' cap' w' := by
  obtain ⟨⟨g0, g1, g2, g3, g4, g5⟩, hg⟩ : ∃ z, tickG ⟨c0, c1, c2, c3, c4, c5⟩ nn = z := ⟨_, rfl⟩
  have HR := hide hg
  have HQ : Hid (tickP ⟨⟨⟨c0, c1, c2, c3, c4, c5⟩, a0, b0, h0, f0⟩, ⟨⟨d0, d1, d2, d3, d4, d5⟩, a1, b1, h1, f1⟩, ⟨l0, l1, l2, l3, l4, so⟩, bag, ck⟩ 0 nn = ⟨⟨⟨g0, g1, g2, g3, g4, g5⟩, a0, b0, h0, f0⟩, ⟨⟨d0, d1, d2, d3, d4, d5⟩, a1, b1, h1, f1⟩, ⟨l0, l1, l2, l3, l4, so⟩, bag, ck⟩) := hide (by
    have e : tickG (PL.at ⟨⟨⟨c0, c1, c2, c3, c4, c5⟩, a0, b0, h0, f0⟩, ⟨⟨d0, d1, d2, d3, d4, d5⟩, a1, b1, h1, f1⟩, ⟨l0, l1, l2, l3, l4, so⟩, bag, ck⟩ 0).g nn = ⟨g0, g1, g2, g3, g4, g5⟩ := hg
    unfold tickP
    rw [e]
    rfl)
  rw [HQ.out]
  clear hg
  obtain ⟨V, hV⟩ : ∃ V, V = W.alloc (.cells #[.int .i64 0, .int .i64 mr, .int .i64 mn, .int .i64 mw, .bool mt] 52 (0, 0)) := ⟨_, rfl⟩
  have bV : Below W.heap.size W V := by rw [hV]; exact alloc_below _ _
  have hx : V.heap[W.heap.size]? = some (.cells #[.int .i64 0, .int .i64 mr, .int .i64 mn, .int .i64 mw, .bool mt] 52 (0, 0)) := by rw [hV]; exact heap_alloc_new W _
  obtain ⟨xB, hxB⟩ : ∃ xB, W.heap.size = xB := ⟨_, rfl⟩
  have HLT : Hid (pB < xB) := hide (by rw [← hxB]; exact box_lt hP.box)
  rw [hxB] at hx
  have HX0 := hide hx
  have HP0 := hide (hP.later bV)
  clear hx bV hP
  go_enter Try.func18, Try.ntmps18
  go_upto_region 1 with fail
  rw [← hV]
  try rw [hxB]
  clear hV hxB
  obtain ⟨_, _, _, _, _, x0, x1, x2, x3, x4⟩ := five HX0.out
  go_upto_region 5 with fail
  have u0 := cellB (i := 0) (v := .int .i64 c0) HP0.out.box rfl
  have u1 := cellB (i := 1) (v := .int .i64 c1) HP0.out.box rfl
  have u2 := cellB (i := 2) (v := .int .i64 c2) HP0.out.box rfl
  have u3 := cellB (i := 3) (v := .int .i64 c3) HP0.out.box rfl
  have u4 := cellB (i := 4) (v := .int .i64 c4) HP0.out.box rfl
  have u5 := cellB (i := 5) (v := .int .i64 c5) HP0.out.box rfl
  have z0 := frB (i := 0) HP0.out.box
  have z1 := frB (i := 1) HP0.out.box
  have z2 := frB (i := 2) HP0.out.box
  have z3 := frB (i := 3) HP0.out.box
  have z4 := frB (i := 4) HP0.out.box
  have z5 := frB (i := 5) HP0.out.box
  have B0 : Below V.heap.size V V.drew := (Below.refl _ V).drew
  have HP1 := hide (HP0.out.later B0)
  refine wp_region_held_drew (S := fun _ => True) (by kernel_rfl) trivial (fun hHeld => ?_)
  refine wpAnyH_take (i := 0) (oi := _) (v := ?_) rfl (by kernel_rfl) (by kernel_rfl) (by kernel_rfl) (fun _ _ _ h => h) (Or.inl ⟨by kernel_rfl, ?_⟩) (by assumption) ?_
  rotate_left
  · intro w hSw
    (try dsimp only at hSw)
    go_simp
    all_goals with_reducible rfl
  simp only [Act.put]
  refine wpAnyH_take (i := 1) (oi := _) (v := ?_) rfl (by kernel_rfl) (by kernel_rfl) (by kernel_rfl) (fun _ _ _ h => h) (Or.inl ⟨by kernel_rfl, ?_⟩) (by assumption) ?_
  rotate_left
  · intro w hSw
    (try dsimp only at hSw)
    go_simp
    all_goals with_reducible rfl
  simp only [Act.put]
  refine wpAnyH_take (i := 2) (oi := _) (v := ?_) rfl (by kernel_rfl) (by kernel_rfl) (by kernel_rfl) (fun _ _ _ h => h) (Or.inl ⟨by kernel_rfl, ?_⟩) (by assumption) ?_
  rotate_left
  · intro w hSw
    (try dsimp only at hSw)
    go_simp
    all_goals with_reducible rfl
  simp only [Act.put]
  refine wpAnyH_take (i := 3) (oi := _) (v := ?_) rfl (by kernel_rfl) (by kernel_rfl) (by kernel_rfl) (fun _ _ _ h => h) (Or.inl ⟨by kernel_rfl, ?_⟩) (by assumption) ?_
  rotate_left
  · intro w hSw
    (try dsimp only at hSw)
    go_simp
    all_goals with_reducible rfl
  simp only [Act.put]
  refine wpAnyH_take (i := 4) (oi := _) (v := ?_) rfl (by kernel_rfl) (by kernel_rfl) (by kernel_rfl) (fun _ _ _ h => h) (Or.inl ⟨by kernel_rfl, ?_⟩) (by assumption) ?_
  rotate_left
  · intro w hSw
    (try dsimp only at hSw)
    go_simp
    all_goals with_reducible rfl
  simp only [Act.put]
  refine wpAnyH_take (i := 5) (oi := _) (v := ?_) rfl (by kernel_rfl) (by kernel_rfl) (by kernel_rfl) (fun _ _ _ h => h) (Or.inl ⟨by kernel_rfl, ?_⟩) (by assumption) ?_
  rotate_left
  · intro w hSw
    (try dsimp only at hSw)
    go_simp
    all_goals with_reducible rfl
  simp only [Act.put]
  refine wpAnyH_take (i := 6) (oi := _) (v := ?_) rfl (by kernel_rfl) (by kernel_rfl) (by kernel_rfl) (fun _ _ _ h => h) (Or.inl ⟨by kernel_rfl, ?_⟩) (by assumption) ?_
  rotate_left
  · intro w hSw
    (try dsimp only at hSw)
    go_simp
    all_goals with_reducible rfl
  simp only [Act.put]
  refine wpAnyH_take (i := 8) (oi := _) (v := ?_) rfl (by kernel_rfl) (by kernel_rfl) (by kernel_rfl) (fun _ _ _ h => h) (Or.inl ⟨by kernel_rfl, ?_⟩) (by assumption) ?_
  rotate_left
  · intro w hSw
    (try dsimp only at hSw)
    go_simp
    all_goals with_reducible rfl
  simp only [Act.put]
  refine wpAnyH_take (i := 10) (oi := _) (v := ?_) rfl (by kernel_rfl) (by kernel_rfl) (by kernel_rfl) (fun _ _ _ h => h) (Or.inl ⟨by kernel_rfl, ?_⟩) (by assumption) ?_
  rotate_left
  · intro w hSw
    (try dsimp only at hSw)
    go_simp
    all_goals with_reducible rfl
  simp only [Act.put]
  refine wpAnyH_take (i := 11) (oi := _) (v := ?_) rfl (by kernel_rfl) (by kernel_rfl) (by kernel_rfl) (fun _ _ _ h => h) (Or.inl ⟨by kernel_rfl, ?_⟩) (by assumption) ?_
  rotate_left
  · intro w hSw
    (try dsimp only at hSw)
    go_simp
    all_goals with_reducible rfl
  simp only [Act.put]
  refine wpAnyH_ready (rs := [7]) (by kernel_rfl) (by simp) ?_
  refine AllReadyH.cons (o := _) rfl (fun K hK => ?_) AllReadyH.nil
  go_simp
  refine hK.out _ _ trivial (fun hHeld => ?_)
  clear hK
  refine wpAnyH_ready (rs := [9]) (by kernel_rfl) (by simp) ?_
  refine AllReadyH.cons (o := _) rfl (fun K hK => ?_) AllReadyH.nil
  go_simp
  refine tick_any.mono ?_
  rw [HR.out]
  simp only [GE.val, GE.row]
  rintro _ y1 ⟨rfl, b1⟩
  have HP2 := hide (HP1.out.later b1)
  clear b1 hHeld u0 z0 u1 z1 u2 z2 u3 z3 u4 z4 u5 z5
  have u0 := cellB (i := 0) (v := .int .i64 c0) HP2.out.box rfl
  have u1 := cellB (i := 1) (v := .int .i64 c1) HP2.out.box rfl
  have u2 := cellB (i := 2) (v := .int .i64 c2) HP2.out.box rfl
  have u3 := cellB (i := 3) (v := .int .i64 c3) HP2.out.box rfl
  have u4 := cellB (i := 4) (v := .int .i64 c4) HP2.out.box rfl
  have u5 := cellB (i := 5) (v := .int .i64 c5) HP2.out.box rfl
  have z0 := frB (i := 0) HP2.out.box
  have z1 := frB (i := 1) HP2.out.box
  have z2 := frB (i := 2) HP2.out.box
  have z3 := frB (i := 3) HP2.out.box
  have z4 := frB (i := 4) HP2.out.box
  have z5 := frB (i := 5) HP2.out.box
  go_wp2_with fail
  refine hK.out _ _ trivial (fun hHeld => ?_)
  clear hK
  refine wpAnyH_take (i := 12) (oi := _) (v := ?_) rfl (by kernel_rfl) (by kernel_rfl) (by kernel_rfl) (fun _ _ _ h => h) (Or.inl ⟨by kernel_rfl, ?_⟩) (by assumption) ?_
  rotate_left
  · intro w hSw
    (try dsimp only at hSw)
    go_simp
    all_goals with_reducible rfl
  simp only [Act.put]
  refine wpAnyH_ready (rs := [13]) (by kernel_rfl) (by simp) ?_
  refine AllReadyH.cons (o := _) rfl (fun K hK => ?_) AllReadyH.nil
  go_simp
  refine hK.out _ _ trivial (fun hHeld => ?_)
  clear hK
  refine wpAnyH_done (by kernel_rfl) ?_ _
  go_wp2
  refine bodyPost_end (results_none rfl _ _ _) rfl ?_
  exact ⟨rfl, sp, cap, HP2.out.put (q := ⟨⟨⟨g0, g1, g2, g3, g4, g5⟩, a0, b0, h0, f0⟩, ⟨⟨d0, d1, d2, d3, d4, d5⟩, a1, b1, h1, f1⟩, ⟨l0, l1, l2, l3, l4, so⟩, bag, ck⟩) (((((((Only.refl (· = pB) y1).trans (Only.set _ pB 0 (.int .i64 g0) rfl)).trans (Only.set _ pB 1 (.int .i64 g1) rfl)).trans (Only.set _ pB 2 (.int .i64 g2) rfl)).trans (Only.set _ pB 3 (.int .i64 g3) rfl)).trans (Only.set _ pB 4 (.int .i64 g4) rfl)).trans (Only.set _ pB 5 (.int .i64 g5) rfl)) (heap_set_sameL (heap_set_sameL (heap_set_sameL (heap_set_sameL (heap_set_sameL (heap_set_sameL HP2.out.box 0 (.int .i64 g0)) 1 (.int .i64 g1)) 2 (.int .i64 g2)) 3 (.int .i64 g3)) 4 (.int .i64 g4)) 5 (.int .i64 g5)) rfl rfl rfl⟩
set_option maxRecDepth 100000 in
set_option maxHeartbeats 8000000 in
theorem mov_tick1 {W : World} {B pB mA mB n cap : Nat} {sp : Option Addr} {W0 : World} {c0 c1 c2 c3 c4 c5 d0 d1 d2 d3 d4 d5 a0 b0 a1 b1 l0 l1 l2 l3 l4 ck : Int} {h0 h1 so : Bool} {f0 f1 : Int → Int × Int} {bag : List LT} {mr mn mw nn : Int} {mt : Bool} (hP : PRep B W0 pB mA mB n ⟨⟨⟨c0, c1, c2, c3, c4, c5⟩, a0, b0, h0, f0⟩, ⟨⟨d0, d1, d2, d3, d4, d5⟩, a1, b1, h1, f1⟩, ⟨l0, l1, l2, l3, l4, so⟩, bag, ck⟩ sp cap W) (hr : bits .and .i64 mr 1 = 1) (hn : bits .and .i64 mn 15 = nn) :
    Calls Try.prog 18 #[.pointer (some ⟨pB, 0, none⟩), .agg #[.int .i64 0, .int .i64 mr, .int .i64 mn, .int .i64 mw, .bool mt]] W fun e w' => e = .returned (.tuple #[]) ∧ ∃ sp' cap', PRep B W0 pB mA mB n (tickP ⟨⟨⟨c0, c1, c2, c3, c4, c5⟩, a0, b0, h0, f0⟩, ⟨⟨d0, d1, d2, d3, d4, d5⟩, a1, b1, h1, f1⟩, ⟨l0, l1, l2, l3, l4, so⟩, bag, ck⟩ 1 nn) sp' cap' w' := by
  obtain ⟨⟨g0, g1, g2, g3, g4, g5⟩, hg⟩ : ∃ z, tickG ⟨d0, d1, d2, d3, d4, d5⟩ nn = z := ⟨_, rfl⟩
  have HR := hide hg
  have HQ : Hid (tickP ⟨⟨⟨c0, c1, c2, c3, c4, c5⟩, a0, b0, h0, f0⟩, ⟨⟨d0, d1, d2, d3, d4, d5⟩, a1, b1, h1, f1⟩, ⟨l0, l1, l2, l3, l4, so⟩, bag, ck⟩ 1 nn = ⟨⟨⟨c0, c1, c2, c3, c4, c5⟩, a0, b0, h0, f0⟩, ⟨⟨g0, g1, g2, g3, g4, g5⟩, a1, b1, h1, f1⟩, ⟨l0, l1, l2, l3, l4, so⟩, bag, ck⟩) := hide (by
    have e : tickG (PL.at ⟨⟨⟨c0, c1, c2, c3, c4, c5⟩, a0, b0, h0, f0⟩, ⟨⟨d0, d1, d2, d3, d4, d5⟩, a1, b1, h1, f1⟩, ⟨l0, l1, l2, l3, l4, so⟩, bag, ck⟩ 1).g nn = ⟨g0, g1, g2, g3, g4, g5⟩ := hg
    unfold tickP
    rw [e]
    rfl)
  rw [HQ.out]
  clear hg
  obtain ⟨V, hV⟩ : ∃ V, V = W.alloc (.cells #[.int .i64 0, .int .i64 mr, .int .i64 mn, .int .i64 mw, .bool mt] 52 (0, 0)) := ⟨_, rfl⟩
  have bV : Below W.heap.size W V := by rw [hV]; exact alloc_below _ _
  have hx : V.heap[W.heap.size]? = some (.cells #[.int .i64 0, .int .i64 mr, .int .i64 mn, .int .i64 mw, .bool mt] 52 (0, 0)) := by rw [hV]; exact heap_alloc_new W _
  obtain ⟨xB, hxB⟩ : ∃ xB, W.heap.size = xB := ⟨_, rfl⟩
  have HLT : Hid (pB < xB) := hide (by rw [← hxB]; exact box_lt hP.box)
  rw [hxB] at hx
  have HX0 := hide hx
  have HP0 := hide (hP.later bV)
  clear hx bV hP
  go_enter Try.func18, Try.ntmps18
  go_upto_region 1 with fail
  rw [← hV]
  try rw [hxB]
  clear hV hxB
  obtain ⟨_, _, _, _, _, x0, x1, x2, x3, x4⟩ := five HX0.out
  go_upto_region 5 with fail
  have u6 := cellB (i := 6) (v := .int .i64 d0) HP0.out.box rfl
  have u7 := cellB (i := 7) (v := .int .i64 d1) HP0.out.box rfl
  have u8 := cellB (i := 8) (v := .int .i64 d2) HP0.out.box rfl
  have u9 := cellB (i := 9) (v := .int .i64 d3) HP0.out.box rfl
  have u10 := cellB (i := 10) (v := .int .i64 d4) HP0.out.box rfl
  have u11 := cellB (i := 11) (v := .int .i64 d5) HP0.out.box rfl
  have z6 := frB (i := 6) HP0.out.box
  have z7 := frB (i := 7) HP0.out.box
  have z8 := frB (i := 8) HP0.out.box
  have z9 := frB (i := 9) HP0.out.box
  have z10 := frB (i := 10) HP0.out.box
  have z11 := frB (i := 11) HP0.out.box
  have B0 : Below V.heap.size V V.drew := (Below.refl _ V).drew
  have HP1 := hide (HP0.out.later B0)
  refine wp_region_held_drew (S := fun _ => True) (by kernel_rfl) trivial (fun hHeld => ?_)
  refine wpAnyH_take (i := 0) (oi := _) (v := ?_) rfl (by kernel_rfl) (by kernel_rfl) (by kernel_rfl) (fun _ _ _ h => h) (Or.inl ⟨by kernel_rfl, ?_⟩) (by assumption) ?_
  rotate_left
  · intro w hSw
    (try dsimp only at hSw)
    go_simp
    all_goals with_reducible rfl
  simp only [Act.put]
  refine wpAnyH_take (i := 1) (oi := _) (v := ?_) rfl (by kernel_rfl) (by kernel_rfl) (by kernel_rfl) (fun _ _ _ h => h) (Or.inl ⟨by kernel_rfl, ?_⟩) (by assumption) ?_
  rotate_left
  · intro w hSw
    (try dsimp only at hSw)
    go_simp
    all_goals with_reducible rfl
  simp only [Act.put]
  refine wpAnyH_take (i := 2) (oi := _) (v := ?_) rfl (by kernel_rfl) (by kernel_rfl) (by kernel_rfl) (fun _ _ _ h => h) (Or.inl ⟨by kernel_rfl, ?_⟩) (by assumption) ?_
  rotate_left
  · intro w hSw
    (try dsimp only at hSw)
    go_simp
    all_goals with_reducible rfl
  simp only [Act.put]
  refine wpAnyH_take (i := 3) (oi := _) (v := ?_) rfl (by kernel_rfl) (by kernel_rfl) (by kernel_rfl) (fun _ _ _ h => h) (Or.inl ⟨by kernel_rfl, ?_⟩) (by assumption) ?_
  rotate_left
  · intro w hSw
    (try dsimp only at hSw)
    go_simp
    all_goals with_reducible rfl
  simp only [Act.put]
  refine wpAnyH_take (i := 4) (oi := _) (v := ?_) rfl (by kernel_rfl) (by kernel_rfl) (by kernel_rfl) (fun _ _ _ h => h) (Or.inl ⟨by kernel_rfl, ?_⟩) (by assumption) ?_
  rotate_left
  · intro w hSw
    (try dsimp only at hSw)
    go_simp
    all_goals with_reducible rfl
  simp only [Act.put]
  refine wpAnyH_take (i := 5) (oi := _) (v := ?_) rfl (by kernel_rfl) (by kernel_rfl) (by kernel_rfl) (fun _ _ _ h => h) (Or.inl ⟨by kernel_rfl, ?_⟩) (by assumption) ?_
  rotate_left
  · intro w hSw
    (try dsimp only at hSw)
    go_simp
    all_goals with_reducible rfl
  simp only [Act.put]
  refine wpAnyH_take (i := 6) (oi := _) (v := ?_) rfl (by kernel_rfl) (by kernel_rfl) (by kernel_rfl) (fun _ _ _ h => h) (Or.inl ⟨by kernel_rfl, ?_⟩) (by assumption) ?_
  rotate_left
  · intro w hSw
    (try dsimp only at hSw)
    go_simp
    all_goals with_reducible rfl
  simp only [Act.put]
  refine wpAnyH_take (i := 8) (oi := _) (v := ?_) rfl (by kernel_rfl) (by kernel_rfl) (by kernel_rfl) (fun _ _ _ h => h) (Or.inl ⟨by kernel_rfl, ?_⟩) (by assumption) ?_
  rotate_left
  · intro w hSw
    (try dsimp only at hSw)
    go_simp
    all_goals with_reducible rfl
  simp only [Act.put]
  refine wpAnyH_take (i := 10) (oi := _) (v := ?_) rfl (by kernel_rfl) (by kernel_rfl) (by kernel_rfl) (fun _ _ _ h => h) (Or.inl ⟨by kernel_rfl, ?_⟩) (by assumption) ?_
  rotate_left
  · intro w hSw
    (try dsimp only at hSw)
    go_simp
    all_goals with_reducible rfl
  simp only [Act.put]
  refine wpAnyH_take (i := 11) (oi := _) (v := ?_) rfl (by kernel_rfl) (by kernel_rfl) (by kernel_rfl) (fun _ _ _ h => h) (Or.inl ⟨by kernel_rfl, ?_⟩) (by assumption) ?_
  rotate_left
  · intro w hSw
    (try dsimp only at hSw)
    go_simp
    all_goals with_reducible rfl
  simp only [Act.put]
  refine wpAnyH_ready (rs := [7]) (by kernel_rfl) (by simp) ?_
  refine AllReadyH.cons (o := _) rfl (fun K hK => ?_) AllReadyH.nil
  go_simp
  refine hK.out _ _ trivial (fun hHeld => ?_)
  clear hK
  refine wpAnyH_ready (rs := [9]) (by kernel_rfl) (by simp) ?_
  refine AllReadyH.cons (o := _) rfl (fun K hK => ?_) AllReadyH.nil
  go_simp
  refine tick_any.mono ?_
  rw [HR.out]
  simp only [GE.val, GE.row]
  rintro _ y1 ⟨rfl, b1⟩
  have HP2 := hide (HP1.out.later b1)
  clear b1 hHeld u6 z6 u7 z7 u8 z8 u9 z9 u10 z10 u11 z11
  have u6 := cellB (i := 6) (v := .int .i64 d0) HP2.out.box rfl
  have u7 := cellB (i := 7) (v := .int .i64 d1) HP2.out.box rfl
  have u8 := cellB (i := 8) (v := .int .i64 d2) HP2.out.box rfl
  have u9 := cellB (i := 9) (v := .int .i64 d3) HP2.out.box rfl
  have u10 := cellB (i := 10) (v := .int .i64 d4) HP2.out.box rfl
  have u11 := cellB (i := 11) (v := .int .i64 d5) HP2.out.box rfl
  have z6 := frB (i := 6) HP2.out.box
  have z7 := frB (i := 7) HP2.out.box
  have z8 := frB (i := 8) HP2.out.box
  have z9 := frB (i := 9) HP2.out.box
  have z10 := frB (i := 10) HP2.out.box
  have z11 := frB (i := 11) HP2.out.box
  go_wp2_with fail
  refine hK.out _ _ trivial (fun hHeld => ?_)
  clear hK
  refine wpAnyH_take (i := 12) (oi := _) (v := ?_) rfl (by kernel_rfl) (by kernel_rfl) (by kernel_rfl) (fun _ _ _ h => h) (Or.inl ⟨by kernel_rfl, ?_⟩) (by assumption) ?_
  rotate_left
  · intro w hSw
    (try dsimp only at hSw)
    go_simp
    all_goals with_reducible rfl
  simp only [Act.put]
  refine wpAnyH_ready (rs := [13]) (by kernel_rfl) (by simp) ?_
  refine AllReadyH.cons (o := _) rfl (fun K hK => ?_) AllReadyH.nil
  go_simp
  refine hK.out _ _ trivial (fun hHeld => ?_)
  clear hK
  refine wpAnyH_done (by kernel_rfl) ?_ _
  go_wp2
  refine bodyPost_end (results_none rfl _ _ _) rfl ?_
  exact ⟨rfl, sp, cap, HP2.out.put (q := ⟨⟨⟨c0, c1, c2, c3, c4, c5⟩, a0, b0, h0, f0⟩, ⟨⟨g0, g1, g2, g3, g4, g5⟩, a1, b1, h1, f1⟩, ⟨l0, l1, l2, l3, l4, so⟩, bag, ck⟩) (((((((Only.refl (· = pB) y1).trans (Only.set _ pB 6 (.int .i64 g0) rfl)).trans (Only.set _ pB 7 (.int .i64 g1) rfl)).trans (Only.set _ pB 8 (.int .i64 g2) rfl)).trans (Only.set _ pB 9 (.int .i64 g3) rfl)).trans (Only.set _ pB 10 (.int .i64 g4) rfl)).trans (Only.set _ pB 11 (.int .i64 g5) rfl)) (heap_set_sameL (heap_set_sameL (heap_set_sameL (heap_set_sameL (heap_set_sameL (heap_set_sameL HP2.out.box 6 (.int .i64 g0)) 7 (.int .i64 g1)) 8 (.int .i64 g2)) 9 (.int .i64 g3)) 10 (.int .i64 g4)) 11 (.int .i64 g5)) rfl rfl rfl⟩
set_option maxRecDepth 100000 in
set_option maxHeartbeats 8000000 in
theorem mov_arb {W : World} {B pB mA mB n cap : Nat} {sp : Option Addr} {W0 : World} {c0 c1 c2 c3 c4 c5 d0 d1 d2 d3 d4 d5 a0 b0 a1 b1 l0 l1 l2 l3 l4 ck : Int} {h0 h1 so : Bool} {f0 f1 : Int → Int × Int} {bag : List LT} {mr mn mw nn : Int} {mt : Bool} (hP : PRep B W0 pB mA mB n ⟨⟨⟨c0, c1, c2, c3, c4, c5⟩, a0, b0, h0, f0⟩, ⟨⟨d0, d1, d2, d3, d4, d5⟩, a1, b1, h1, f1⟩, ⟨l0, l1, l2, l3, l4, so⟩, bag, ck⟩ sp cap W) (hn : bits .and .i64 mn 15 = nn) (hn2 : 0 ≤ nn ∧ nn ≤ 15) (hc : 0 ≤ ck ∧ ck ≤ 9007199254740976) :
    Calls Try.prog 18 #[.pointer (some ⟨pB, 0, none⟩), .agg #[.int .i64 1, .int .i64 mr, .int .i64 mn, .int .i64 mw, .bool mt]] W fun e w' => e = .returned (.tuple #[]) ∧ ∃ sp' cap', PRep B W0 pB mA mB n (arbP ⟨⟨⟨c0, c1, c2, c3, c4, c5⟩, a0, b0, h0, f0⟩, ⟨⟨d0, d1, d2, d3, d4, d5⟩, a1, b1, h1, f1⟩, ⟨l0, l1, l2, l3, l4, so⟩, bag, ck⟩ nn) sp' cap' w' := by
  obtain ⟨⟨m0, m1, m2, m3, m4, ms⟩, hg⟩ : ∃ z, Op.tickC ⟨l0, l1, l2, l3, l4, so⟩ nn = z := ⟨_, rfl⟩
  obtain ⟨ck2, hck⟩ : ∃ z, ck + nn = z := ⟨_, rfl⟩
  have e1 : IntKind.i64.wrap (ck + nn) = ck2 := by rw [← hck, IntKind.wrap_i64]; omega
  have HR := hide hg
  have HQ : Hid (arbP ⟨⟨⟨c0, c1, c2, c3, c4, c5⟩, a0, b0, h0, f0⟩, ⟨⟨d0, d1, d2, d3, d4, d5⟩, a1, b1, h1, f1⟩, ⟨l0, l1, l2, l3, l4, so⟩, bag, ck⟩ nn = ⟨⟨⟨c0, c1, c2, c3, c4, c5⟩, a0, b0, h0, f0⟩, ⟨⟨d0, d1, d2, d3, d4, d5⟩, a1, b1, h1, f1⟩, ⟨m0, m1, m2, m3, m4, ms⟩, bag, ck2⟩) := hide (by
    unfold arbP
    simp only
    rw [hg, hck])
  rw [HQ.out]
  clear hg hck hn2 hc
  obtain ⟨V, hV⟩ : ∃ V, V = W.alloc (.cells #[.int .i64 1, .int .i64 mr, .int .i64 mn, .int .i64 mw, .bool mt] 52 (0, 0)) := ⟨_, rfl⟩
  have bV : Below W.heap.size W V := by rw [hV]; exact alloc_below _ _
  have hx : V.heap[W.heap.size]? = some (.cells #[.int .i64 1, .int .i64 mr, .int .i64 mn, .int .i64 mw, .bool mt] 52 (0, 0)) := by rw [hV]; exact heap_alloc_new W _
  obtain ⟨xB, hxB⟩ : ∃ xB, W.heap.size = xB := ⟨_, rfl⟩
  have HLT : Hid (pB < xB) := hide (by rw [← hxB]; exact box_lt hP.box)
  rw [hxB] at hx
  have HX0 := hide hx
  have HP0 := hide (hP.later bV)
  clear hx bV hP
  go_enter Try.func18, Try.ntmps18
  go_upto_region 1 with fail
  rw [← hV]
  try rw [hxB]
  clear hV hxB
  obtain ⟨_, _, _, _, _, x0, x1, x2, x3, x4⟩ := five HX0.out
  have u12 := cellB (i := 12) (v := .int .i64 l0) HP0.out.box rfl
  have u13 := cellB (i := 13) (v := .int .i64 l1) HP0.out.box rfl
  have u14 := cellB (i := 14) (v := .int .i64 l2) HP0.out.box rfl
  have u15 := cellB (i := 15) (v := .int .i64 l3) HP0.out.box rfl
  have u16 := cellB (i := 16) (v := .int .i64 l4) HP0.out.box rfl
  have u17 := cellB (i := 17) (v := .bool so) HP0.out.box rfl
  have u19 := cellB (i := 19) (v := .int .i64 ck) HP0.out.box rfl
  have z12 := frB (i := 12) HP0.out.box
  have z13 := frB (i := 13) HP0.out.box
  have z14 := frB (i := 14) HP0.out.box
  have z15 := frB (i := 15) HP0.out.box
  have z16 := frB (i := 16) HP0.out.box
  have z17 := frB (i := 17) HP0.out.box
  have z19 := frB (i := 19) HP0.out.box
  have hY := hide (Only.set (F := (· = pB)) V pB 19 (.int .i64 ck2) rfl)
  go_upto_region 8 with fail
  obtain ⟨Y, hYe⟩ : ∃ Y, Y = V.setCell ⟨pB, 19, none⟩ (.int .i64 ck2) := ⟨_, rfl⟩
  have HP1 : Hid (PRep B W0 pB mA mB n ⟨⟨⟨c0, c1, c2, c3, c4, c5⟩, a0, b0, h0, f0⟩, ⟨⟨d0, d1, d2, d3, d4, d5⟩, a1, b1, h1, f1⟩, ⟨l0, l1, l2, l3, l4, so⟩, bag, ck2⟩ sp cap Y) := hide (HP0.out.put (by rw [hYe]; exact hY.out) (by rw [hYe]; exact heap_set_sameL HP0.out.box 19 _) rfl rfl rfl)
  rw [← hYe]
  clear hYe hY HP0 u12 z12 u13 z13 u14 z14 u15 z15 u16 z16 u17 z17 u19 z19 x0 x1 x2 x3 x4
  have u12 := cellB (i := 12) (v := .int .i64 l0) HP1.out.box rfl
  have u13 := cellB (i := 13) (v := .int .i64 l1) HP1.out.box rfl
  have u14 := cellB (i := 14) (v := .int .i64 l2) HP1.out.box rfl
  have u15 := cellB (i := 15) (v := .int .i64 l3) HP1.out.box rfl
  have u16 := cellB (i := 16) (v := .int .i64 l4) HP1.out.box rfl
  have u17 := cellB (i := 17) (v := .bool so) HP1.out.box rfl
  have z12 := frB (i := 12) HP1.out.box
  have z13 := frB (i := 13) HP1.out.box
  have z14 := frB (i := 14) HP1.out.box
  have z15 := frB (i := 15) HP1.out.box
  have z16 := frB (i := 16) HP1.out.box
  have z17 := frB (i := 17) HP1.out.box
  go_wp2_with fail
  refine Op.rtick_any.mono ?_
  rw [HR.out]
  simp only [LE.val, LE.row]
  rintro _ y1 ⟨rfl, b1⟩
  have HP2 := hide (HP1.out.later b1)
  clear b1 u12 z12 u13 z13 u14 z14 u15 z15 u16 z16 u17 z17
  have u12 := cellB (i := 12) (v := .int .i64 l0) HP2.out.box rfl
  have u13 := cellB (i := 13) (v := .int .i64 l1) HP2.out.box rfl
  have u14 := cellB (i := 14) (v := .int .i64 l2) HP2.out.box rfl
  have u15 := cellB (i := 15) (v := .int .i64 l3) HP2.out.box rfl
  have u16 := cellB (i := 16) (v := .int .i64 l4) HP2.out.box rfl
  have u17 := cellB (i := 17) (v := .bool so) HP2.out.box rfl
  have z12 := frB (i := 12) HP2.out.box
  have z13 := frB (i := 13) HP2.out.box
  have z14 := frB (i := 14) HP2.out.box
  have z15 := frB (i := 15) HP2.out.box
  have z16 := frB (i := 16) HP2.out.box
  have z17 := frB (i := 17) HP2.out.box
  go_wp2
  refine bodyPost_end (results_none rfl _ _ _) rfl ?_
  exact ⟨rfl, sp, cap, HP2.out.put (q := ⟨⟨⟨c0, c1, c2, c3, c4, c5⟩, a0, b0, h0, f0⟩, ⟨⟨d0, d1, d2, d3, d4, d5⟩, a1, b1, h1, f1⟩, ⟨m0, m1, m2, m3, m4, ms⟩, bag, ck2⟩) (((((((Only.refl (· = pB) y1).trans (Only.set _ pB 12 (.int .i64 m0) rfl)).trans (Only.set _ pB 13 (.int .i64 m1) rfl)).trans (Only.set _ pB 14 (.int .i64 m2) rfl)).trans (Only.set _ pB 15 (.int .i64 m3) rfl)).trans (Only.set _ pB 16 (.int .i64 m4) rfl)).trans (Only.set _ pB 17 (.bool ms) rfl)) (heap_set_sameL (heap_set_sameL (heap_set_sameL (heap_set_sameL (heap_set_sameL (heap_set_sameL HP2.out.box 12 (.int .i64 m0)) 13 (.int .i64 m1)) 14 (.int .i64 m2)) 15 (.int .i64 m3)) 16 (.int .i64 m4)) 17 (.bool ms)) rfl rfl rfl⟩
set_option maxRecDepth 100000 in
set_option maxHeartbeats 8000000 in
theorem mov_end03z {W : World} {B pB mA mB n cap : Nat} {sp : Option Addr} {W0 : World} {c0 c1 c2 c3 c4 c5 d0 d1 d2 d3 d4 d5 a0 b0 a1 b1 l0 l1 l2 l3 l4 ck : Int} {h0 h1 so : Bool} {f0 f1 : Int → Int × Int} {bag : List LT} {mr mn mw : Int} {mt : Bool} (hP : PRep B W0 pB mA mB n ⟨⟨⟨c0, c1, c2, c3, c4, c5⟩, a0, b0, h0, f0⟩, ⟨⟨d0, d1, d2, d3, d4, d5⟩, a1, b1, h1, f1⟩, ⟨l0, l1, l2, l3, l4, so⟩, bag, ck⟩ sp cap W) (hr : bits .and .i64 mr 1 = 0) (he : c1 = 0) :
    Calls Try.prog 18 #[.pointer (some ⟨pB, 0, none⟩), .agg #[.int .i64 3, .int .i64 mr, .int .i64 mn, .int .i64 mw, .bool mt]] W fun e w' => e = .returned (.tuple #[]) ∧ ∃ sp' cap', PRep B W0 pB mA mB n (endP ⟨⟨⟨c0, c1, c2, c3, c4, c5⟩, a0, b0, h0, f0⟩, ⟨⟨d0, d1, d2, d3, d4, d5⟩, a1, b1, h1, f1⟩, ⟨l0, l1, l2, l3, l4, so⟩, bag, ck⟩ 0 3) sp' cap' w' := by
  have HQ : Hid (endP ⟨⟨⟨c0, c1, c2, c3, c4, c5⟩, a0, b0, h0, f0⟩, ⟨⟨d0, d1, d2, d3, d4, d5⟩, a1, b1, h1, f1⟩, ⟨l0, l1, l2, l3, l4, so⟩, bag, ck⟩ 0 3 = ⟨⟨⟨c0, c1, c2, c3, c4, c5⟩, a0, b0, h0, f0⟩, ⟨⟨d0, d1, d2, d3, d4, d5⟩, a1, b1, h1, f1⟩, ⟨l0, l1, l2, l3, l4, so⟩, bag, ck⟩) := hide (if_pos he)
  rw [HQ.out]
  have hd : (c1 == 0) = true := by simpa using he
  clear he
  obtain ⟨V, hV⟩ : ∃ V, V = W.alloc (.cells #[.int .i64 3, .int .i64 mr, .int .i64 mn, .int .i64 mw, .bool mt] 52 (0, 0)) := ⟨_, rfl⟩
  have bV : Below W.heap.size W V := by rw [hV]; exact alloc_below _ _
  have hx : V.heap[W.heap.size]? = some (.cells #[.int .i64 3, .int .i64 mr, .int .i64 mn, .int .i64 mw, .bool mt] 52 (0, 0)) := by rw [hV]; exact heap_alloc_new W _
  obtain ⟨xB, hxB⟩ : ∃ xB, W.heap.size = xB := ⟨_, rfl⟩
  have HLT : Hid (pB < xB) := hide (by rw [← hxB]; exact box_lt hP.box)
  rw [hxB] at hx
  have HX0 := hide hx
  have HP0 := hide (hP.later bV)
  clear hx bV hP
  go_enter Try.func18, Try.ntmps18
  go_upto_region 1 with fail
  rw [← hV]
  try rw [hxB]
  clear hV hxB
  obtain ⟨_, _, _, _, _, x0, x1, x2, x3, x4⟩ := five HX0.out
  have u0 := cellB (i := 0) (v := .int .i64 c0) HP0.out.box rfl
  have u1 := cellB (i := 1) (v := .int .i64 c1) HP0.out.box rfl
  have u2 := cellB (i := 2) (v := .int .i64 c2) HP0.out.box rfl
  have u3 := cellB (i := 3) (v := .int .i64 c3) HP0.out.box rfl
  have u4 := cellB (i := 4) (v := .int .i64 c4) HP0.out.box rfl
  have u5 := cellB (i := 5) (v := .int .i64 c5) HP0.out.box rfl
  go_wp2
  refine bodyPost_ret (results_none rfl _ _ _) rfl ?_
  exact ⟨rfl, sp, cap, HP0.out⟩
set_option maxRecDepth 100000 in
set_option maxHeartbeats 8000000 in
theorem mov_end13z {W : World} {B pB mA mB n cap : Nat} {sp : Option Addr} {W0 : World} {c0 c1 c2 c3 c4 c5 d0 d1 d2 d3 d4 d5 a0 b0 a1 b1 l0 l1 l2 l3 l4 ck : Int} {h0 h1 so : Bool} {f0 f1 : Int → Int × Int} {bag : List LT} {mr mn mw : Int} {mt : Bool} (hP : PRep B W0 pB mA mB n ⟨⟨⟨c0, c1, c2, c3, c4, c5⟩, a0, b0, h0, f0⟩, ⟨⟨d0, d1, d2, d3, d4, d5⟩, a1, b1, h1, f1⟩, ⟨l0, l1, l2, l3, l4, so⟩, bag, ck⟩ sp cap W) (hr : bits .and .i64 mr 1 = 1) (he : d1 = 0) :
    Calls Try.prog 18 #[.pointer (some ⟨pB, 0, none⟩), .agg #[.int .i64 3, .int .i64 mr, .int .i64 mn, .int .i64 mw, .bool mt]] W fun e w' => e = .returned (.tuple #[]) ∧ ∃ sp' cap', PRep B W0 pB mA mB n (endP ⟨⟨⟨c0, c1, c2, c3, c4, c5⟩, a0, b0, h0, f0⟩, ⟨⟨d0, d1, d2, d3, d4, d5⟩, a1, b1, h1, f1⟩, ⟨l0, l1, l2, l3, l4, so⟩, bag, ck⟩ 1 3) sp' cap' w' := by
  have HQ : Hid (endP ⟨⟨⟨c0, c1, c2, c3, c4, c5⟩, a0, b0, h0, f0⟩, ⟨⟨d0, d1, d2, d3, d4, d5⟩, a1, b1, h1, f1⟩, ⟨l0, l1, l2, l3, l4, so⟩, bag, ck⟩ 1 3 = ⟨⟨⟨c0, c1, c2, c3, c4, c5⟩, a0, b0, h0, f0⟩, ⟨⟨d0, d1, d2, d3, d4, d5⟩, a1, b1, h1, f1⟩, ⟨l0, l1, l2, l3, l4, so⟩, bag, ck⟩) := hide (if_pos he)
  rw [HQ.out]
  have hd : (d1 == 0) = true := by simpa using he
  clear he
  obtain ⟨V, hV⟩ : ∃ V, V = W.alloc (.cells #[.int .i64 3, .int .i64 mr, .int .i64 mn, .int .i64 mw, .bool mt] 52 (0, 0)) := ⟨_, rfl⟩
  have bV : Below W.heap.size W V := by rw [hV]; exact alloc_below _ _
  have hx : V.heap[W.heap.size]? = some (.cells #[.int .i64 3, .int .i64 mr, .int .i64 mn, .int .i64 mw, .bool mt] 52 (0, 0)) := by rw [hV]; exact heap_alloc_new W _
  obtain ⟨xB, hxB⟩ : ∃ xB, W.heap.size = xB := ⟨_, rfl⟩
  have HLT : Hid (pB < xB) := hide (by rw [← hxB]; exact box_lt hP.box)
  rw [hxB] at hx
  have HX0 := hide hx
  have HP0 := hide (hP.later bV)
  clear hx bV hP
  go_enter Try.func18, Try.ntmps18
  go_upto_region 1 with fail
  rw [← hV]
  try rw [hxB]
  clear hV hxB
  obtain ⟨_, _, _, _, _, x0, x1, x2, x3, x4⟩ := five HX0.out
  have u6 := cellB (i := 6) (v := .int .i64 d0) HP0.out.box rfl
  have u7 := cellB (i := 7) (v := .int .i64 d1) HP0.out.box rfl
  have u8 := cellB (i := 8) (v := .int .i64 d2) HP0.out.box rfl
  have u9 := cellB (i := 9) (v := .int .i64 d3) HP0.out.box rfl
  have u10 := cellB (i := 10) (v := .int .i64 d4) HP0.out.box rfl
  have u11 := cellB (i := 11) (v := .int .i64 d5) HP0.out.box rfl
  go_wp2
  refine bodyPost_ret (results_none rfl _ _ _) rfl ?_
  exact ⟨rfl, sp, cap, HP0.out⟩
set_option maxRecDepth 100000 in
set_option maxHeartbeats 8000000 in
theorem mov_end04z {W : World} {B pB mA mB n cap : Nat} {sp : Option Addr} {W0 : World} {c0 c1 c2 c3 c4 c5 d0 d1 d2 d3 d4 d5 a0 b0 a1 b1 l0 l1 l2 l3 l4 ck : Int} {h0 h1 so : Bool} {f0 f1 : Int → Int × Int} {bag : List LT} {mr mn mw : Int} {mt : Bool} (hP : PRep B W0 pB mA mB n ⟨⟨⟨c0, c1, c2, c3, c4, c5⟩, a0, b0, h0, f0⟩, ⟨⟨d0, d1, d2, d3, d4, d5⟩, a1, b1, h1, f1⟩, ⟨l0, l1, l2, l3, l4, so⟩, bag, ck⟩ sp cap W) (hr : bits .and .i64 mr 1 = 0) (he : c1 = 0) :
    Calls Try.prog 18 #[.pointer (some ⟨pB, 0, none⟩), .agg #[.int .i64 4, .int .i64 mr, .int .i64 mn, .int .i64 mw, .bool mt]] W fun e w' => e = .returned (.tuple #[]) ∧ ∃ sp' cap', PRep B W0 pB mA mB n (endP ⟨⟨⟨c0, c1, c2, c3, c4, c5⟩, a0, b0, h0, f0⟩, ⟨⟨d0, d1, d2, d3, d4, d5⟩, a1, b1, h1, f1⟩, ⟨l0, l1, l2, l3, l4, so⟩, bag, ck⟩ 0 4) sp' cap' w' := by
  have HQ : Hid (endP ⟨⟨⟨c0, c1, c2, c3, c4, c5⟩, a0, b0, h0, f0⟩, ⟨⟨d0, d1, d2, d3, d4, d5⟩, a1, b1, h1, f1⟩, ⟨l0, l1, l2, l3, l4, so⟩, bag, ck⟩ 0 4 = ⟨⟨⟨c0, c1, c2, c3, c4, c5⟩, a0, b0, h0, f0⟩, ⟨⟨d0, d1, d2, d3, d4, d5⟩, a1, b1, h1, f1⟩, ⟨l0, l1, l2, l3, l4, so⟩, bag, ck⟩) := hide (if_pos he)
  rw [HQ.out]
  have hd : (c1 == 0) = true := by simpa using he
  clear he
  obtain ⟨V, hV⟩ : ∃ V, V = W.alloc (.cells #[.int .i64 4, .int .i64 mr, .int .i64 mn, .int .i64 mw, .bool mt] 52 (0, 0)) := ⟨_, rfl⟩
  have bV : Below W.heap.size W V := by rw [hV]; exact alloc_below _ _
  have hx : V.heap[W.heap.size]? = some (.cells #[.int .i64 4, .int .i64 mr, .int .i64 mn, .int .i64 mw, .bool mt] 52 (0, 0)) := by rw [hV]; exact heap_alloc_new W _
  obtain ⟨xB, hxB⟩ : ∃ xB, W.heap.size = xB := ⟨_, rfl⟩
  have HLT : Hid (pB < xB) := hide (by rw [← hxB]; exact box_lt hP.box)
  rw [hxB] at hx
  have HX0 := hide hx
  have HP0 := hide (hP.later bV)
  clear hx bV hP
  go_enter Try.func18, Try.ntmps18
  go_upto_region 1 with fail
  rw [← hV]
  try rw [hxB]
  clear hV hxB
  obtain ⟨_, _, _, _, _, x0, x1, x2, x3, x4⟩ := five HX0.out
  have u0 := cellB (i := 0) (v := .int .i64 c0) HP0.out.box rfl
  have u1 := cellB (i := 1) (v := .int .i64 c1) HP0.out.box rfl
  have u2 := cellB (i := 2) (v := .int .i64 c2) HP0.out.box rfl
  have u3 := cellB (i := 3) (v := .int .i64 c3) HP0.out.box rfl
  have u4 := cellB (i := 4) (v := .int .i64 c4) HP0.out.box rfl
  have u5 := cellB (i := 5) (v := .int .i64 c5) HP0.out.box rfl
  go_wp2
  refine bodyPost_ret (results_none rfl _ _ _) rfl ?_
  exact ⟨rfl, sp, cap, HP0.out⟩
set_option maxRecDepth 100000 in
set_option maxHeartbeats 8000000 in
theorem mov_end14z {W : World} {B pB mA mB n cap : Nat} {sp : Option Addr} {W0 : World} {c0 c1 c2 c3 c4 c5 d0 d1 d2 d3 d4 d5 a0 b0 a1 b1 l0 l1 l2 l3 l4 ck : Int} {h0 h1 so : Bool} {f0 f1 : Int → Int × Int} {bag : List LT} {mr mn mw : Int} {mt : Bool} (hP : PRep B W0 pB mA mB n ⟨⟨⟨c0, c1, c2, c3, c4, c5⟩, a0, b0, h0, f0⟩, ⟨⟨d0, d1, d2, d3, d4, d5⟩, a1, b1, h1, f1⟩, ⟨l0, l1, l2, l3, l4, so⟩, bag, ck⟩ sp cap W) (hr : bits .and .i64 mr 1 = 1) (he : d1 = 0) :
    Calls Try.prog 18 #[.pointer (some ⟨pB, 0, none⟩), .agg #[.int .i64 4, .int .i64 mr, .int .i64 mn, .int .i64 mw, .bool mt]] W fun e w' => e = .returned (.tuple #[]) ∧ ∃ sp' cap', PRep B W0 pB mA mB n (endP ⟨⟨⟨c0, c1, c2, c3, c4, c5⟩, a0, b0, h0, f0⟩, ⟨⟨d0, d1, d2, d3, d4, d5⟩, a1, b1, h1, f1⟩, ⟨l0, l1, l2, l3, l4, so⟩, bag, ck⟩ 1 4) sp' cap' w' := by
  have HQ : Hid (endP ⟨⟨⟨c0, c1, c2, c3, c4, c5⟩, a0, b0, h0, f0⟩, ⟨⟨d0, d1, d2, d3, d4, d5⟩, a1, b1, h1, f1⟩, ⟨l0, l1, l2, l3, l4, so⟩, bag, ck⟩ 1 4 = ⟨⟨⟨c0, c1, c2, c3, c4, c5⟩, a0, b0, h0, f0⟩, ⟨⟨d0, d1, d2, d3, d4, d5⟩, a1, b1, h1, f1⟩, ⟨l0, l1, l2, l3, l4, so⟩, bag, ck⟩) := hide (if_pos he)
  rw [HQ.out]
  have hd : (d1 == 0) = true := by simpa using he
  clear he
  obtain ⟨V, hV⟩ : ∃ V, V = W.alloc (.cells #[.int .i64 4, .int .i64 mr, .int .i64 mn, .int .i64 mw, .bool mt] 52 (0, 0)) := ⟨_, rfl⟩
  have bV : Below W.heap.size W V := by rw [hV]; exact alloc_below _ _
  have hx : V.heap[W.heap.size]? = some (.cells #[.int .i64 4, .int .i64 mr, .int .i64 mn, .int .i64 mw, .bool mt] 52 (0, 0)) := by rw [hV]; exact heap_alloc_new W _
  obtain ⟨xB, hxB⟩ : ∃ xB, W.heap.size = xB := ⟨_, rfl⟩
  have HLT : Hid (pB < xB) := hide (by rw [← hxB]; exact box_lt hP.box)
  rw [hxB] at hx
  have HX0 := hide hx
  have HP0 := hide (hP.later bV)
  clear hx bV hP
  go_enter Try.func18, Try.ntmps18
  go_upto_region 1 with fail
  rw [← hV]
  try rw [hxB]
  clear hV hxB
  obtain ⟨_, _, _, _, _, x0, x1, x2, x3, x4⟩ := five HX0.out
  have u6 := cellB (i := 6) (v := .int .i64 d0) HP0.out.box rfl
  have u7 := cellB (i := 7) (v := .int .i64 d1) HP0.out.box rfl
  have u8 := cellB (i := 8) (v := .int .i64 d2) HP0.out.box rfl
  have u9 := cellB (i := 9) (v := .int .i64 d3) HP0.out.box rfl
  have u10 := cellB (i := 10) (v := .int .i64 d4) HP0.out.box rfl
  have u11 := cellB (i := 11) (v := .int .i64 d5) HP0.out.box rfl
  go_wp2
  refine bodyPost_ret (results_none rfl _ _ _) rfl ?_
  exact ⟨rfl, sp, cap, HP0.out⟩
end Go.Proofs.Ytegffdmlkbdcdaa
