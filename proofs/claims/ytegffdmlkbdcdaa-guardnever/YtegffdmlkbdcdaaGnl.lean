/-
  A move with which a letter comes. The conditions: that the play lies there, and how many letters there are.
-/
import Derived.Test.YtegffdmlkbdcdaaGng
import Derived.Test.YtegffdmlkbdcdaaGnk
namespace Go.Proofs.Ytegffdmlkbdcdaa
open Go.ChangeShapes Go.WideShapes Go.ChangeAt Go.RowKit

set_option maxRecDepth 100000 in
set_option maxHeartbeats 8000000 in
theorem mov_comez {W : World} {B pB mA mB n cap : Nat} {sp : Option Addr} {W0 : World} {c0 c1 c2 c3 c4 c5 d0 d1 d2 d3 d4 d5 a0 b0 a1 b1 l0 l1 l2 l3 l4 ck : Int} {h0 h1 so : Bool} {f0 f1 : Int → Int × Int}  {mr mn mw : Int} {mt : Bool} (hP : PRep B W0 pB mA mB n ⟨⟨⟨c0, c1, c2, c3, c4, c5⟩, a0, b0, h0, f0⟩, ⟨⟨d0, d1, d2, d3, d4, d5⟩, a1, b1, h1, f1⟩, ⟨l0, l1, l2, l3, l4, so⟩, [], ck⟩ sp cap W)  :
    Calls Try.prog 18 #[.pointer (some ⟨pB, 0, none⟩), .agg #[.int .i64 5, .int .i64 mr, .int .i64 mn, .int .i64 mw, .bool mt]] W fun e w' => e = .returned (.tuple #[]) ∧ ∃ sp' cap', PRep B W0 pB mA mB n (comeP ⟨⟨⟨c0, c1, c2, c3, c4, c5⟩, a0, b0, h0, f0⟩, ⟨⟨d0, d1, d2, d3, d4, d5⟩, a1, b1, h1, f1⟩, ⟨l0, l1, l2, l3, l4, so⟩, [], ck⟩ 0 mt) sp' cap' w' := by
  have HQ : Hid (comeP ⟨⟨⟨c0, c1, c2, c3, c4, c5⟩, a0, b0, h0, f0⟩, ⟨⟨d0, d1, d2, d3, d4, d5⟩, a1, b1, h1, f1⟩, ⟨l0, l1, l2, l3, l4, so⟩, [], ck⟩ 0 mt = ⟨⟨⟨c0, c1, c2, c3, c4, c5⟩, a0, b0, h0, f0⟩, ⟨⟨d0, d1, d2, d3, d4, d5⟩, a1, b1, h1, f1⟩, ⟨l0, l1, l2, l3, l4, so⟩, [], ck⟩) := hide (if_pos rfl)
  rw [HQ.out]
  obtain ⟨V, hV⟩ : ∃ V, V = W.alloc (.cells #[.int .i64 5, .int .i64 mr, .int .i64 mn, .int .i64 mw, .bool mt] 52 (0, 0)) := ⟨_, rfl⟩
  have bV : Below W.heap.size W V := by rw [hV]; exact alloc_below _ _
  have hx : V.heap[W.heap.size]? = some (.cells #[.int .i64 5, .int .i64 mr, .int .i64 mn, .int .i64 mw, .bool mt] 52 (0, 0)) := by rw [hV]; exact heap_alloc_new W _
  obtain ⟨xB, hxB⟩ : ∃ xB, W.heap.size = xB := ⟨_, rfl⟩
  have HLT : Hid (pB < xB) := hide (by rw [← hxB]; exact box_lt hP.box)
  rw [hxB] at hx
  have HX0 := hide hx
  have HP0 := hide (hP.later bV)
  clear hx bV hP
  go_enter Try.func18, Try.ntmps18
  go_upto_region 1 with fail
  rw [← hV]
  try rw [hxB]
  clear hV hxB
  obtain ⟨_, _, _, _, _, x0, x1, x2, x3, x4⟩ := five HX0.out
  have u18 := cellB (i := 18) (v := .slice sp 0 cap) HP0.out.box rfl
  go_wp2
  refine bodyPost_ret (results_none rfl _ _ _) rfl ?_
  exact ⟨rfl, sp, cap, HP0.out⟩
theorem delete_lb {W : World} {base g cap lb i : Nat} {ks : List LT} (h : W.ownsRow base 64 5 (.slice (some ⟨g, 0, none⟩) lb cap) lb (ks.flatMap LT.cells)) (hn : ks.length = lb) (hi : i < lb) :
    Calls Try.prog 38 #[.slice (some ⟨g, 0, none⟩) lb cap, .int .i64 (i : Int), .int .i64 ((i : Int) + 1)] W fun e w' => e = .returned (.slice (some ⟨g, 0, none⟩) (lb - 1) cap) ∧ w'.ownsRow base 64 5 (.slice (some ⟨g, 0, none⟩) (lb - 1) cap) (lb - 1) ((ks.take i ++ ks.drop (i + 1)).flatMap LT.cells) ∧ Only (· = g) W w' := by
  cases lb with
  | zero => omega
  | succ m => exact delete_at h hn (by omega)
/-- A letter is taken away. -/
theorem PRep.del {B : Nat} {W : World} {pB mA mB n g k : Nat} {p : PL} {cap : Nat} {wd w' : World} (h : PRep B W pB mA mB n p (some ⟨g, 0, none⟩) cap wd) {bag : List LT} (hk : bag.length = k) (ho : w'.ownsRow B 64 5 (.slice (some ⟨g, 0, none⟩) k cap) k (bag.flatMap LT.cells)) (hO : Only (· = g) wd w') :
    PRep B W pB mA mB n ⟨p.r0, p.r1, p.l, bag, p.ck⟩ (some ⟨g, 0, none⟩) cap (w'.setCell ⟨pB, 18, none⟩ (.slice (some ⟨g, 0, none⟩) k cap)) := by
  have hbg : (Value.slice (some ⟨g, 0, none⟩) p.bag.length cap).ownBlock = some g := rfl
  have hne := bag_box h.bag h.box (by decide) g hbg
  have hb := hO.obj h.box (fun e => hne (show pB = g from e).symm)
  have h2 : Only (· = pB) w' (w'.setCell ⟨pB, 18, none⟩ (.slice (some ⟨g, 0, none⟩) k cap)) := Only.set _ pB 18 _ rfl
  have hm : ∀ {m f}, MapF wd m n f → MapF (w'.setCell ⟨pB, 18, none⟩ (.slice (some ⟨g, 0, none⟩) k cap)) m n f := fun {m f} hm => by
    refine MapF.only (MapF.only hm hO (fun e => ?_)) h2 (map_box hm h.box)
    obtain ⟨_, c2, k4⟩ := own_block_lt h.bag hbg
    exact map_box hm k4 e
  subst hk
  refine ⟨heap_set_sameL hb 18 _, ownsRow_only ho h2 (bag_box ho hb (by decide)), hm h.ma, hm h.mb, h.ne, ?_⟩
  exact (h.below.trans (hO.below (Nat.le_trans h.ne.2.1 (Nat.le_of_lt (box_lt h.box))) (fun i e => by have e' : i = g := e; rw [e']; exact own_block_base h.bag hbg))).trans (h2.below (Nat.le_trans h.ne.2.1 (Nat.le_of_lt (box_lt hb))) (fun i e => by have e' : i = pB := e; have := h.ne; omega))
set_option maxRecDepth 100000 in
set_option maxHeartbeats 8000000 in
theorem mov_comet {W : World} {B pB mA mB n cap lb i : Nat} {sp : Option Addr} {W0 : World} {c0 c1 c2 c3 c4 c5 d0 d1 d2 d3 d4 d5 a0 b0 a1 b1 l0 l1 l2 l3 l4 ck : Int} {h0 h1 so : Bool} {f0 f1 : Int → Int × Int} {bag : List LT} {mr mn mw : Int}  (hP : PRep B W0 pB mA mB n ⟨⟨⟨c0, c1, c2, c3, c4, c5⟩, a0, b0, h0, f0⟩, ⟨⟨d0, d1, d2, d3, d4, d5⟩, a1, b1, h1, f1⟩, ⟨l0, l1, l2, l3, l4, so⟩, bag, ck⟩ sp cap W) (h : INV ⟨⟨⟨c0, c1, c2, c3, c4, c5⟩, a0, b0, h0, f0⟩, ⟨⟨d0, d1, d2, d3, d4, d5⟩, a1, b1, h1, f1⟩, ⟨l0, l1, l2, l3, l4, so⟩, bag, ck⟩) (hbig : bag.length ≤ 1000) (hlen : bag.length = lb) (hi : (IntKind.u64.wrap mw).tmod (lb : Int) = (i : Int)) (hlt : i < lb) :
    Calls Try.prog 18 #[.pointer (some ⟨pB, 0, none⟩), .agg #[.int .i64 5, .int .i64 mr, .int .i64 mn, .int .i64 mw, .bool true]] W fun e w' => e = .returned (.tuple #[]) ∧ ∃ sp' cap', PRep B W0 pB mA mB n (comeP ⟨⟨⟨c0, c1, c2, c3, c4, c5⟩, a0, b0, h0, f0⟩, ⟨⟨d0, d1, d2, d3, d4, d5⟩, a1, b1, h1, f1⟩, ⟨l0, l1, l2, l3, l4, so⟩, bag, ck⟩ i true) sp' cap' w' := by
  obtain ⟨⟨xr, xb, xk, xs, xe⟩, hx⟩ : ∃ x, bag[i]! = x := ⟨_, rfl⟩
  have hreg : xr = 0 ∨ xr = 1 := by
    have hm : bag[i]! ∈ bag := by rw [getElem!_pos bag i (by omega)]; exact List.getElem_mem (by omega)
    have := h.regs _ hm
    rw [hx] at this
    exact this
  have HQ : Hid (comeP ⟨⟨⟨c0, c1, c2, c3, c4, c5⟩, a0, b0, h0, f0⟩, ⟨⟨d0, d1, d2, d3, d4, d5⟩, a1, b1, h1, f1⟩, ⟨l0, l1, l2, l3, l4, so⟩, bag, ck⟩ i true = comC ⟨⟨⟨c0, c1, c2, c3, c4, c5⟩, a0, b0, h0, f0⟩, ⟨⟨d0, d1, d2, d3, d4, d5⟩, a1, b1, h1, f1⟩, ⟨l0, l1, l2, l3, l4, so⟩, bag, ck⟩ ⟨xr, xb, xk, xs, xe⟩) := hide (by
    unfold comeP
    rw [if_neg (fun e => by have e' : bag = [] := e; rw [e'] at hlen; simp at hlen; omega)]
    simp only
    rw [hx]
    rfl)
  rw [HQ.out]
  obtain ⟨g, hg⟩ : ∃ g, sp = some ⟨g, 0, none⟩ := by
    rcases hP.bag.2 with ⟨e', _⟩ | ⟨g', cap', cur, e', _⟩
    · simp only [Value.slice.injEq] at e'; have e1 : bag.length = 0 := e'.2.1; omega
    · simp only [Value.slice.injEq] at e'; exact ⟨g', e'.1⟩
  subst hg
  have HLEN := hide hlen
  have HREG := hide hreg
  have HBG := hide hbig
  have HLT0 := hide hlt
  have HX := hide hx
  clear h hreg
  obtain ⟨V, hV⟩ : ∃ V, V = W.alloc (.cells #[.int .i64 5, .int .i64 mr, .int .i64 mn, .int .i64 mw, .bool true] 52 (0, 0)) := ⟨_, rfl⟩
  have bV : Below W.heap.size W V := by rw [hV]; exact alloc_below _ _
  have hx : V.heap[W.heap.size]? = some (.cells #[.int .i64 5, .int .i64 mr, .int .i64 mn, .int .i64 mw, .bool true] 52 (0, 0)) := by rw [hV]; exact heap_alloc_new W _
  obtain ⟨xB, hxB⟩ : ∃ xB, W.heap.size = xB := ⟨_, rfl⟩
  have HLT : Hid (pB < xB) := hide (by rw [← hxB]; exact box_lt hP.box)
  rw [hxB] at hx
  have HX0 := hide hx
  have HP0 := hide (hP.later bV)
  clear hx bV hP
  go_enter Try.func18, Try.ntmps18
  go_upto_region 1 with fail
  rw [← hV]
  try rw [hxB]
  clear hV hxB
  obtain ⟨_, _, _, _, _, x0, x1, x2, x3, x4⟩ := five HX0.out
  have u18 := cellB (i := 18) (v := .slice (some ⟨g, 0, none⟩) lb cap) (by have := HP0.out.box; simp only [prow] at this; rw [HLEN.out] at this; exact this) rfl
  have hcap : lb ≤ cap ∧ cap ≤ 9223372036854775807 := by obtain ⟨_, _, ef, i1, i2⟩ := own_form HP0.out.bag; simp only [Value.slice.injEq] at ef; obtain ⟨_, e1, e2⟩ := ef; rw [← HLEN.out]; exact ⟨by rw [e2]; exact i1, by rw [e2]; exact i2⟩
  have hc1 : (lb : Int) ≤ (cap : Int) := by omega
  have hd : ((lb : Int) == 0) = false := ne_eqL (by omega)
  have hd2 : ¬ lb = 0 := by omega
  have w1 : IntKind.u64.wrap (lb : Int) = (lb : Int) := by rw [IntKind.wrap_u64]; omega
  have w2 : IntKind.i64.wrap (i : Int) = (i : Int) := by rw [IntKind.wrap_i64]; omega
  have hi1 : (0 : Int) ≤ (i : Int) := by omega
  have hi2 : (i : Int) < (lb : Int) := by omega
  have hlb : lb ≤ 1000 := by omega
  have HLB := hide hlb
  clear hlen hbig hx hlb hcap
  go_upto_region 25 with fail
  refine wp_region_held_drew (S := fun w' => w'.cell? ⟨xB, 3, none⟩ = some (.int .i64 mw) ∧ w'.cell? ⟨pB, 18, none⟩ = some (.slice (some ⟨g, 0, none⟩) lb cap)) (by kernel_rfl) ⟨x3, u18⟩ (fun hHeld => ?_)
  refine wpAnyH_take (i := 0) (oi := _) (v := ?_) rfl (by kernel_rfl) (by kernel_rfl) (by kernel_rfl) (fun _ _ _ h => h) (Or.inl ⟨by kernel_rfl, ?_⟩) (by assumption) ?_
  rotate_left
  · intro w hSw
    (try dsimp only at hSw)
    go_simp
    all_goals with_reducible rfl
  simp only [Act.put]
  refine wpAnyH_take (i := 1) (oi := _) (v := ?_) rfl (by kernel_rfl) (by kernel_rfl) (by kernel_rfl) (fun _ _ _ h => h) (Or.inl ⟨by kernel_rfl, ?_⟩) (by assumption) ?_
  rotate_left
  · intro w hSw
    (try dsimp only at hSw)
    go_simp
    all_goals with_reducible rfl
  simp only [Act.put]
  refine wpAnyH_take (i := 2) (oi := _) (v := ?_) rfl (by kernel_rfl) (by kernel_rfl) (by kernel_rfl) (fun _ _ _ h => h) (Or.inl ⟨by kernel_rfl, ?_⟩) (by assumption) ?_
  rotate_left
  · intro w hSw
    (try dsimp only at hSw)
    go_simp
    all_goals with_reducible rfl
  simp only [Act.put]
  refine wpAnyH_take (i := 3) (oi := _) (v := ?_) rfl (by kernel_rfl) (by kernel_rfl) (by kernel_rfl) (fun _ _ _ h => h) (Or.inl ⟨by kernel_rfl, ?_⟩) (by assumption) ?_
  rotate_left
  · intro w hSw
    (try dsimp only at hSw)
    go_simp
    all_goals with_reducible rfl
  simp only [Act.put]
  refine wpAnyH_take (i := 4) (oi := _) (v := ?_) rfl (by kernel_rfl) (by kernel_rfl) (by kernel_rfl) (fun _ _ _ h => h) (Or.inl ⟨by kernel_rfl, ?_⟩) (by assumption) ?_
  rotate_left
  · intro w hSw
    (try dsimp only at hSw)
    go_simp
    all_goals with_reducible rfl
  simp only [Act.put]
  refine wpAnyH_take (i := 5) (oi := _) (v := ?_) rfl (by kernel_rfl) (by kernel_rfl) (by kernel_rfl) (fun _ _ _ h => h) (Or.inl ⟨by kernel_rfl, ?_⟩) (by assumption) ?_
  rotate_left
  · intro w hSw
    (try dsimp only at hSw)
    go_simp
    all_goals with_reducible rfl
  simp only [Act.put]
  refine wpAnyH_take (i := 6) (oi := _) (v := ?_) rfl (by kernel_rfl) (by kernel_rfl) (by kernel_rfl) (fun _ _ _ h => h) (Or.inl ⟨by kernel_rfl, ?_⟩) (by assumption) ?_
  rotate_left
  · intro w hSw
    (try dsimp only at hSw)
    go_simp
    all_goals with_reducible rfl
  simp only [Act.put]
  refine wpAnyH_take (i := 7) (oi := _) (v := ?_) rfl (by kernel_rfl) (by kernel_rfl) (by kernel_rfl) (fun _ _ _ h => h) (Or.inl ⟨by kernel_rfl, ?_⟩) (by assumption) ?_
  rotate_left
  · intro w hSw
    (try dsimp only at hSw)
    go_simp
    all_goals with_reducible rfl
  simp only [Act.put]
  refine wpAnyH_take (i := 8) (oi := _) (v := ?_) rfl (by kernel_rfl) (by kernel_rfl) (by kernel_rfl) (fun _ _ _ h => h) (Or.inl ⟨by kernel_rfl, ?_⟩) (by assumption) ?_
  rotate_left
  · intro w hSw
    (try dsimp only at hSw)
    go_simp
    all_goals with_reducible rfl
  simp only [Act.put]
  refine wpAnyH_take (i := 9) (oi := _) (v := ?_) rfl (by kernel_rfl) (by kernel_rfl) (by kernel_rfl) (fun _ _ _ h => h) (Or.inl ⟨by kernel_rfl, ?_⟩) (by assumption) ?_
  rotate_left
  · intro w hSw
    (try dsimp only at hSw)
    go_simp
    all_goals with_reducible rfl
  simp only [Act.put]
  refine wpAnyH_take (i := 10) (oi := _) (v := ?_) rfl (by kernel_rfl) (by kernel_rfl) (by kernel_rfl) (fun _ _ _ h => h) (Or.inl ⟨by kernel_rfl, ?_⟩) (by assumption) ?_
  rotate_left
  · intro w hSw
    (try dsimp only at hSw)
    go_simp
    all_goals with_reducible rfl
  simp only [Act.put]
  refine wpAnyH_ready (rs := [11]) (by kernel_rfl) (by simp) ?_
  refine AllReadyH.cons (o := _) rfl (fun K hK => ?_) AllReadyH.nil
  go_simp
  refine hK.out _ _ hHeld (fun hHeld => ?_)
  clear hK
  refine wpAnyH_done (by kernel_rfl) ?_ _
  clear hHeld
  have hl0 : i < bag.length := by rw [HLEN.out]; exact HLT0.out
  have hcell : ∀ j, j < 5 → V.cell? ⟨g, i * 5 + j, none⟩ = (LT.cells bag[i]!)[j]? := fun j hj => by
    rw [HP0.out.bag.cellAt (i * 5 + j) (by have : (i + 1) * 5 ≤ bag.length * 5 := Nat.mul_le_mul_right 5 hl0; rw [HLEN.out] at this ⊢; omega)]
    exact flat_get bag (fun o _ => LT.len o) i j hl0 hj
  rw [HX.out] at hcell
  have b0 : V.cell? ⟨g, i * 5, none⟩ = some (.int .i64 xr) := hcell 0 (by decide)
  have b1' : V.cell? ⟨g, i * 5 + 1, none⟩ = some (.bool xb) := hcell 1 (by decide)
  have b2 : V.cell? ⟨g, i * 5 + 2, none⟩ = some (.int .i64 xk) := hcell 2 (by decide)
  have b3 : V.cell? ⟨g, i * 5 + 3, none⟩ = some (.int .i64 xs) := hcell 3 (by decide)
  have b4 : V.cell? ⟨g, i * 5 + 4, none⟩ = some (.int .i64 xe) := hcell 4 (by decide)
  clear hcell hl0
  go_upto_region 27 with fail
  obtain ⟨Z, hZ⟩ : ∃ Z, Z = V.alloc (.cells #[.int .i64 xr, .bool xb, .int .i64 xk, .int .i64 xs, .int .i64 xe] 64 (0, 0)) := ⟨_, rfl⟩
  have bZ : Below V.heap.size V Z := by rw [hZ]; exact alloc_below _ _
  obtain ⟨tB, htB⟩ : ∃ tB, V.heap.size = tB := ⟨_, rfl⟩
  have HT : Hid (Z.heap[tB]? = some (.cells #[.int .i64 xr, .bool xb, .int .i64 xk, .int .i64 xs, .int .i64 xe] 64 (0, 0))) := hide (by rw [hZ, ← htB]; exact heap_alloc_new V _)
  have HGT : Hid (g < tB ∧ pB < tB) := hide ⟨by rw [← htB]; exact World.block_lt_of_cell? V _ b0, by rw [← htB]; exact box_lt HP0.out.box⟩
  have HP2 := hide (HP0.out.later bZ)
  have HX2 := hide (below_box bZ HX0.out)
  rw [← hZ]
  try rw [htB]
  clear hZ htB bZ HP0 HX0 b0 b1' b2 b3 b4 u18 x0 x1 x2 x3 x4
  obtain ⟨_, _, _, _, _, t0, t1, t2, t3, t4⟩ := five HT.out
  obtain ⟨_, _, _, _, _, x0, x1, x2, x3, x4⟩ := five HX2.out
  go_wp2_with fail
  refine (com_any (p := ⟨⟨⟨c0, c1, c2, c3, c4, c5⟩, a0, b0, h0, f0⟩, ⟨⟨d0, d1, d2, d3, d4, d5⟩, a1, b1, h1, f1⟩, ⟨l0, l1, l2, l3, l4, so⟩, bag, ck⟩) (x := ⟨xr, xb, xk, xs, xe⟩) (HP2.out.later ((Below.refl _ Z).drew)) (by exact HBG.out) HREG.out).mono ?_
  rintro _ w9 ⟨rfl, sp9, cap9, hF⟩
  have HF := hide hF
  clear hF
  go_wp2
  refine bodyPost_end (results_none rfl _ _ _) rfl ?_
  exact ⟨rfl, sp9, cap9, HF.out⟩
set_option maxRecDepth 100000 in
set_option maxHeartbeats 8000000 in
theorem mov_comef {W : World} {B pB mA mB n cap lb i : Nat} {sp : Option Addr} {W0 : World} {c0 c1 c2 c3 c4 c5 d0 d1 d2 d3 d4 d5 a0 b0 a1 b1 l0 l1 l2 l3 l4 ck : Int} {h0 h1 so : Bool} {f0 f1 : Int → Int × Int} {bag : List LT} {mr mn mw : Int}  (hP : PRep B W0 pB mA mB n ⟨⟨⟨c0, c1, c2, c3, c4, c5⟩, a0, b0, h0, f0⟩, ⟨⟨d0, d1, d2, d3, d4, d5⟩, a1, b1, h1, f1⟩, ⟨l0, l1, l2, l3, l4, so⟩, bag, ck⟩ sp cap W) (h : INV ⟨⟨⟨c0, c1, c2, c3, c4, c5⟩, a0, b0, h0, f0⟩, ⟨⟨d0, d1, d2, d3, d4, d5⟩, a1, b1, h1, f1⟩, ⟨l0, l1, l2, l3, l4, so⟩, bag, ck⟩) (hbig : bag.length ≤ 1000) (hlen : bag.length = lb) (hi : (IntKind.u64.wrap mw).tmod (lb : Int) = (i : Int)) (hlt : i < lb) :
    Calls Try.prog 18 #[.pointer (some ⟨pB, 0, none⟩), .agg #[.int .i64 5, .int .i64 mr, .int .i64 mn, .int .i64 mw, .bool false]] W fun e w' => e = .returned (.tuple #[]) ∧ ∃ sp' cap', PRep B W0 pB mA mB n (comeP ⟨⟨⟨c0, c1, c2, c3, c4, c5⟩, a0, b0, h0, f0⟩, ⟨⟨d0, d1, d2, d3, d4, d5⟩, a1, b1, h1, f1⟩, ⟨l0, l1, l2, l3, l4, so⟩, bag, ck⟩ i false) sp' cap' w' := by
  obtain ⟨⟨xr, xb, xk, xs, xe⟩, hx⟩ : ∃ x, bag[i]! = x := ⟨_, rfl⟩
  have hreg : xr = 0 ∨ xr = 1 := by
    have hm : bag[i]! ∈ bag := by rw [getElem!_pos bag i (by omega)]; exact List.getElem_mem (by omega)
    have := h.regs _ hm
    rw [hx] at this
    exact this
  have HQ : Hid (comeP ⟨⟨⟨c0, c1, c2, c3, c4, c5⟩, a0, b0, h0, f0⟩, ⟨⟨d0, d1, d2, d3, d4, d5⟩, a1, b1, h1, f1⟩, ⟨l0, l1, l2, l3, l4, so⟩, bag, ck⟩ i false = comC ⟨⟨⟨c0, c1, c2, c3, c4, c5⟩, a0, b0, h0, f0⟩, ⟨⟨d0, d1, d2, d3, d4, d5⟩, a1, b1, h1, f1⟩, ⟨l0, l1, l2, l3, l4, so⟩, (bag.take i ++ bag.drop (i + 1)), ck⟩ ⟨xr, xb, xk, xs, xe⟩) := hide (by
    unfold comeP
    rw [if_neg (fun e => by have e' : bag = [] := e; rw [e'] at hlen; simp at hlen; omega)]
    simp only
    rw [hx]
    unfold cutC; rw [if_neg (by simp), List.eraseIdx_eq_take_drop_succ])
  rw [HQ.out]
  obtain ⟨g, hg⟩ : ∃ g, sp = some ⟨g, 0, none⟩ := by
    rcases hP.bag.2 with ⟨e', _⟩ | ⟨g', cap', cur, e', _⟩
    · simp only [Value.slice.injEq] at e'; have e1 : bag.length = 0 := e'.2.1; omega
    · simp only [Value.slice.injEq] at e'; exact ⟨g', e'.1⟩
  subst hg
  have HLEN := hide hlen
  have HREG := hide hreg
  have HBG := hide hbig
  have HLT0 := hide hlt
  have HX := hide hx
  clear h hreg
  obtain ⟨V, hV⟩ : ∃ V, V = W.alloc (.cells #[.int .i64 5, .int .i64 mr, .int .i64 mn, .int .i64 mw, .bool false] 52 (0, 0)) := ⟨_, rfl⟩
  have bV : Below W.heap.size W V := by rw [hV]; exact alloc_below _ _
  have hx : V.heap[W.heap.size]? = some (.cells #[.int .i64 5, .int .i64 mr, .int .i64 mn, .int .i64 mw, .bool false] 52 (0, 0)) := by rw [hV]; exact heap_alloc_new W _
  obtain ⟨xB, hxB⟩ : ∃ xB, W.heap.size = xB := ⟨_, rfl⟩
  have HLT : Hid (pB < xB) := hide (by rw [← hxB]; exact box_lt hP.box)
  rw [hxB] at hx
  have HX0 := hide hx
  have HP0 := hide (hP.later bV)
  clear hx bV hP
  go_enter Try.func18, Try.ntmps18
  go_upto_region 1 with fail
  rw [← hV]
  try rw [hxB]
  clear hV hxB
  obtain ⟨_, _, _, _, _, x0, x1, x2, x3, x4⟩ := five HX0.out
  have u18 := cellB (i := 18) (v := .slice (some ⟨g, 0, none⟩) lb cap) (by have := HP0.out.box; simp only [prow] at this; rw [HLEN.out] at this; exact this) rfl
  have hcap : lb ≤ cap ∧ cap ≤ 9223372036854775807 := by obtain ⟨_, _, ef, i1, i2⟩ := own_form HP0.out.bag; simp only [Value.slice.injEq] at ef; obtain ⟨_, e1, e2⟩ := ef; rw [← HLEN.out]; exact ⟨by rw [e2]; exact i1, by rw [e2]; exact i2⟩
  have hc1 : (lb : Int) ≤ (cap : Int) := by omega
  have hd : ((lb : Int) == 0) = false := ne_eqL (by omega)
  have hd2 : ¬ lb = 0 := by omega
  have w1 : IntKind.u64.wrap (lb : Int) = (lb : Int) := by rw [IntKind.wrap_u64]; omega
  have w2 : IntKind.i64.wrap (i : Int) = (i : Int) := by rw [IntKind.wrap_i64]; omega
  have hi1 : (0 : Int) ≤ (i : Int) := by omega
  have hi2 : (i : Int) < (lb : Int) := by omega
  have hlb : lb ≤ 1000 := by omega
  have HLB := hide hlb
  clear hlen hbig hx hlb hcap
  go_upto_region 25 with fail
  refine wp_region_held_drew (S := fun w' => w'.cell? ⟨xB, 3, none⟩ = some (.int .i64 mw) ∧ w'.cell? ⟨pB, 18, none⟩ = some (.slice (some ⟨g, 0, none⟩) lb cap)) (by kernel_rfl) ⟨x3, u18⟩ (fun hHeld => ?_)
  refine wpAnyH_take (i := 0) (oi := _) (v := ?_) rfl (by kernel_rfl) (by kernel_rfl) (by kernel_rfl) (fun _ _ _ h => h) (Or.inl ⟨by kernel_rfl, ?_⟩) (by assumption) ?_
  rotate_left
  · intro w hSw
    (try dsimp only at hSw)
    go_simp
    all_goals with_reducible rfl
  simp only [Act.put]
  refine wpAnyH_take (i := 1) (oi := _) (v := ?_) rfl (by kernel_rfl) (by kernel_rfl) (by kernel_rfl) (fun _ _ _ h => h) (Or.inl ⟨by kernel_rfl, ?_⟩) (by assumption) ?_
  rotate_left
  · intro w hSw
    (try dsimp only at hSw)
    go_simp
    all_goals with_reducible rfl
  simp only [Act.put]
  refine wpAnyH_take (i := 2) (oi := _) (v := ?_) rfl (by kernel_rfl) (by kernel_rfl) (by kernel_rfl) (fun _ _ _ h => h) (Or.inl ⟨by kernel_rfl, ?_⟩) (by assumption) ?_
  rotate_left
  · intro w hSw
    (try dsimp only at hSw)
    go_simp
    all_goals with_reducible rfl
  simp only [Act.put]
  refine wpAnyH_take (i := 3) (oi := _) (v := ?_) rfl (by kernel_rfl) (by kernel_rfl) (by kernel_rfl) (fun _ _ _ h => h) (Or.inl ⟨by kernel_rfl, ?_⟩) (by assumption) ?_
  rotate_left
  · intro w hSw
    (try dsimp only at hSw)
    go_simp
    all_goals with_reducible rfl
  simp only [Act.put]
  refine wpAnyH_take (i := 4) (oi := _) (v := ?_) rfl (by kernel_rfl) (by kernel_rfl) (by kernel_rfl) (fun _ _ _ h => h) (Or.inl ⟨by kernel_rfl, ?_⟩) (by assumption) ?_
  rotate_left
  · intro w hSw
    (try dsimp only at hSw)
    go_simp
    all_goals with_reducible rfl
  simp only [Act.put]
  refine wpAnyH_take (i := 5) (oi := _) (v := ?_) rfl (by kernel_rfl) (by kernel_rfl) (by kernel_rfl) (fun _ _ _ h => h) (Or.inl ⟨by kernel_rfl, ?_⟩) (by assumption) ?_
  rotate_left
  · intro w hSw
    (try dsimp only at hSw)
    go_simp
    all_goals with_reducible rfl
  simp only [Act.put]
  refine wpAnyH_take (i := 6) (oi := _) (v := ?_) rfl (by kernel_rfl) (by kernel_rfl) (by kernel_rfl) (fun _ _ _ h => h) (Or.inl ⟨by kernel_rfl, ?_⟩) (by assumption) ?_
  rotate_left
  · intro w hSw
    (try dsimp only at hSw)
    go_simp
    all_goals with_reducible rfl
  simp only [Act.put]
  refine wpAnyH_take (i := 7) (oi := _) (v := ?_) rfl (by kernel_rfl) (by kernel_rfl) (by kernel_rfl) (fun _ _ _ h => h) (Or.inl ⟨by kernel_rfl, ?_⟩) (by assumption) ?_
  rotate_left
  · intro w hSw
    (try dsimp only at hSw)
    go_simp
    all_goals with_reducible rfl
  simp only [Act.put]
  refine wpAnyH_take (i := 8) (oi := _) (v := ?_) rfl (by kernel_rfl) (by kernel_rfl) (by kernel_rfl) (fun _ _ _ h => h) (Or.inl ⟨by kernel_rfl, ?_⟩) (by assumption) ?_
  rotate_left
  · intro w hSw
    (try dsimp only at hSw)
    go_simp
    all_goals with_reducible rfl
  simp only [Act.put]
  refine wpAnyH_take (i := 9) (oi := _) (v := ?_) rfl (by kernel_rfl) (by kernel_rfl) (by kernel_rfl) (fun _ _ _ h => h) (Or.inl ⟨by kernel_rfl, ?_⟩) (by assumption) ?_
  rotate_left
  · intro w hSw
    (try dsimp only at hSw)
    go_simp
    all_goals with_reducible rfl
  simp only [Act.put]
  refine wpAnyH_take (i := 10) (oi := _) (v := ?_) rfl (by kernel_rfl) (by kernel_rfl) (by kernel_rfl) (fun _ _ _ h => h) (Or.inl ⟨by kernel_rfl, ?_⟩) (by assumption) ?_
  rotate_left
  · intro w hSw
    (try dsimp only at hSw)
    go_simp
    all_goals with_reducible rfl
  simp only [Act.put]
  refine wpAnyH_ready (rs := [11]) (by kernel_rfl) (by simp) ?_
  refine AllReadyH.cons (o := _) rfl (fun K hK => ?_) AllReadyH.nil
  go_simp
  refine hK.out _ _ hHeld (fun hHeld => ?_)
  clear hK
  refine wpAnyH_done (by kernel_rfl) ?_ _
  clear hHeld
  have hl0 : i < bag.length := by rw [HLEN.out]; exact HLT0.out
  have hcell : ∀ j, j < 5 → V.cell? ⟨g, i * 5 + j, none⟩ = (LT.cells bag[i]!)[j]? := fun j hj => by
    rw [HP0.out.bag.cellAt (i * 5 + j) (by have : (i + 1) * 5 ≤ bag.length * 5 := Nat.mul_le_mul_right 5 hl0; rw [HLEN.out] at this ⊢; omega)]
    exact flat_get bag (fun o _ => LT.len o) i j hl0 hj
  rw [HX.out] at hcell
  have b0 : V.cell? ⟨g, i * 5, none⟩ = some (.int .i64 xr) := hcell 0 (by decide)
  have b1' : V.cell? ⟨g, i * 5 + 1, none⟩ = some (.bool xb) := hcell 1 (by decide)
  have b2 : V.cell? ⟨g, i * 5 + 2, none⟩ = some (.int .i64 xk) := hcell 2 (by decide)
  have b3 : V.cell? ⟨g, i * 5 + 3, none⟩ = some (.int .i64 xs) := hcell 3 (by decide)
  have b4 : V.cell? ⟨g, i * 5 + 4, none⟩ = some (.int .i64 xe) := hcell 4 (by decide)
  clear hcell hl0
  go_upto_region 27 with fail
  obtain ⟨Z, hZ⟩ : ∃ Z, Z = V.alloc (.cells #[.int .i64 xr, .bool xb, .int .i64 xk, .int .i64 xs, .int .i64 xe] 64 (0, 0)) := ⟨_, rfl⟩
  have bZ : Below V.heap.size V Z := by rw [hZ]; exact alloc_below _ _
  obtain ⟨tB, htB⟩ : ∃ tB, V.heap.size = tB := ⟨_, rfl⟩
  have HT : Hid (Z.heap[tB]? = some (.cells #[.int .i64 xr, .bool xb, .int .i64 xk, .int .i64 xs, .int .i64 xe] 64 (0, 0))) := hide (by rw [hZ, ← htB]; exact heap_alloc_new V _)
  have HGT : Hid (g < tB ∧ pB < tB) := hide ⟨by rw [← htB]; exact World.block_lt_of_cell? V _ b0, by rw [← htB]; exact box_lt HP0.out.box⟩
  have HP2 := hide (HP0.out.later bZ)
  have HX2 := hide (below_box bZ HX0.out)
  rw [← hZ]
  try rw [htB]
  clear hZ htB bZ HP0 HX0 b0 b1' b2 b3 b4 u18 x0 x1 x2 x3 x4
  obtain ⟨_, _, _, _, _, t0, t1, t2, t3, t4⟩ := five HT.out
  obtain ⟨_, _, _, _, _, x0, x1, x2, x3, x4⟩ := five HX2.out
  have u18 := cellB (i := 18) (v := .slice (some ⟨g, 0, none⟩) lb cap) (by have := HP2.out.box; simp only [prow] at this; rw [HLEN.out] at this; exact this) rfl
  have w3 : IntKind.i64.wrap ((i : Int) + 1) = (i : Int) + 1 := by rw [IntKind.wrap_i64]; have := HLB.out; omega
  go_wp2_with fail
  refine (delete_lb (base := B) (ks := bag) (by have := (HP2.out.later ((Below.refl _ Z).drew)).bag; rw [HLEN.out] at this; exact this) HLEN.out HLT0.out).mono ?_
  rintro _ w7 ⟨rfl, o7, O7⟩
  have HP3 := hide (HP2.out.later ((Below.refl _ Z).drew))
  have HO7 := hide o7
  have HQ7 := hide O7
  have ht7 := O7.obj HT.out (fun e => by have e' : tB = g := e; have := HGT.out; omega)
  have hb7 := O7.obj HP3.out.box (fun e => by have := bag_box HP3.out.bag HP3.out.box (by decide) g rfl; exact this (show pB = g from e).symm)
  clear o7 O7 u18 t0 t1 t2 t3 t4 x0 x1 x2 x3 x4
  have u18 := cellB (i := 18) (v := .slice (some ⟨g, 0, none⟩) lb cap) (by have := hb7; simp only [prow] at this; rw [HLEN.out] at this; exact this) rfl
  have z18 := frB (i := 18) hb7
  go_upto_region 29 with fail
  obtain ⟨Y, hY⟩ : ∃ Y, Y = w7.setCell ⟨pB, 18, none⟩ (.slice (some ⟨g, 0, none⟩) (lb - 1) cap) := ⟨_, rfl⟩
  have HP5 : Hid (PRep B W0 pB mA mB n ⟨⟨⟨c0, c1, c2, c3, c4, c5⟩, a0, b0, h0, f0⟩, ⟨⟨d0, d1, d2, d3, d4, d5⟩, a1, b1, h1, f1⟩, ⟨l0, l1, l2, l3, l4, so⟩, (bag.take i ++ bag.drop (i + 1)), ck⟩ (some ⟨g, 0, none⟩) cap Y) := hide (by rw [hY]; exact HP3.out.del (by rw [List.length_append, List.length_take, List.length_drop, HLEN.out]; have := HLT0.out; omega) HO7.out HQ7.out)
  have ht8 : Y.heap[tB]? = some (.cells #[.int .i64 xr, .bool xb, .int .i64 xk, .int .i64 xs, .int .i64 xe] 64 (0, 0)) := by rw [hY]; exact (Only.set (F := (· = pB)) w7 pB 18 _ rfl).obj ht7 (fun e => by have e' : tB = pB := e; have := HGT.out; omega)
  rw [← hY]
  clear hY ht7 hb7 u18 z18 HP3 HP2 HO7 HQ7
  obtain ⟨_, _, _, _, _, t0, t1, t2, t3, t4⟩ := five ht8
  go_wp2_with fail
  refine (com_any (p := ⟨⟨⟨c0, c1, c2, c3, c4, c5⟩, a0, b0, h0, f0⟩, ⟨⟨d0, d1, d2, d3, d4, d5⟩, a1, b1, h1, f1⟩, ⟨l0, l1, l2, l3, l4, so⟩, (bag.take i ++ bag.drop (i + 1)), ck⟩) (x := ⟨xr, xb, xk, xs, xe⟩) HP5.out (by show (bag.take i ++ bag.drop (i + 1)).length ≤ 1000; rw [List.length_append, List.length_take, List.length_drop, HLEN.out]; have := HLB.out; have := HLT0.out; omega) HREG.out).mono ?_
  rintro _ w9 ⟨rfl, sp9, cap9, hF⟩
  have HF := hide hF
  clear hF
  go_wp2
  refine bodyPost_end (results_none rfl _ _ _) rfl ?_
  exact ⟨rfl, sp9, cap9, HF.out⟩
end Go.Proofs.Ytegffdmlkbdcdaa
