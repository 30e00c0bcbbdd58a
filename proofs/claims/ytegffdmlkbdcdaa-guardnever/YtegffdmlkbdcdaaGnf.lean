/-
  A letter comes to the arbiter: what it asks for, what it lets go of; and what is laid under way. The condition: that the play lies there.
-/
import Derived.Test.YtegffdmlkbdcdaaGne
import Derived.Test.YtegffdmlkbdcdaaLrd
namespace Go.Proofs.Ytegffdmlkbdcdaa
open Go.ChangeShapes Go.WideShapes Go.ChangeAt Go.RowKit

/-- A letter is laid under way. -/
theorem PRep.app {B : Nat} {W : World} {pB mA mB n : Nat} {p : PL} {sp : Option Addr} {cap : Nat} {wd w' : World} (h : PRep B W pB mA mB n p sp cap wd) {y : LT} {p' : Option Addr} {c' : Nat} (ho : w'.ownsRow B 64 5 (.slice p' (p.bag.length + 1) c') (p.bag.length + 1) (p.bag.flatMap LT.cells ++ y.cells))
    (hg : wd.grownBy w' (Value.slice sp p.bag.length cap).ownBlock) : PRep B W pB mA mB n (addP p y) p' c' (w'.setCell ⟨pB, 18, none⟩ (.slice p' (p.bag.length + 1) c')) := by
  have hne := bag_box h.bag h.box (by decide)
  have h1 : Only (fun i => (Value.slice sp p.bag.length cap).ownBlock = some i) wd w' := Only.of_grown hg (fun k e => e)
  have hb := h1.obj h.box (fun e => hne _ e rfl)
  have h2 : Only (· = pB) w' (w'.setCell ⟨pB, 18, none⟩ (.slice p' (p.bag.length + 1) c')) := Only.set _ pB 18 _ rfl
  have hlen : (addP p y).bag.length = p.bag.length + 1 := by simp [addP]
  have hm : ∀ {m f}, MapF wd m n f → MapF (w'.setCell ⟨pB, 18, none⟩ (.slice p' (p.bag.length + 1) c')) m n f := fun {m f} hm => by
    have hmp := map_box hm h.box
    refine MapF.only ?_ h2 hmp
    obtain ⟨D, k1, k2⟩ := hm
    refine ⟨D, k1.kept hg (fun e => ?_), k2⟩
    obtain ⟨es, clock, k3, _⟩ := k1
    obtain ⟨_, c2, k4⟩ := own_block_lt h.bag e.symm
    rw [k3] at k4
    cases k4
  refine ⟨?_, ?_, hm h.ma, hm h.mb, h.ne, ?_⟩
  · rw [hlen]; exact heap_set_sameL hb 18 _
  · rw [hlen]
    show World.ownsRow _ B _ 5 _ _ ((p.bag ++ [y]).flatMap LT.cells)
    rw [List.flatMap_append]
    have e : List.flatMap LT.cells [y] = y.cells := by simp
    rw [e]
    exact ownsRow_only ho h2 (bag_box ho hb (by decide))
  · refine (h.below.trans (h1.below (Nat.le_trans h.ne.2.1 (Nat.le_of_lt (box_lt h.box))) (fun i e => own_block_base h.bag e))).trans (h2.below (Nat.le_trans h.ne.2.1 (Nat.le_of_lt (box_lt hb))) (fun i e => by have e' : i = pB := e; have := h.ne; omega))
theorem info_partsL {P : Program} {t : TypeId} {z : Option Value} {s b : Nat} (h : (P.info? t).map (fun i => (i.zero, i.size, i.bytes)) = some (z, s, b)) : ∃ i, P.info? t = some i ∧ i.zero = z ∧ i.size = s ∧ i.bytes = b := by
  cases hi : P.info? t with
  | none => rw [hi] at h; cases h
  | some i =>
    rw [hi] at h
    simp only [Option.map_some, Option.some.injEq, Prod.mk.injEq] at h
    exact ⟨i, rfl, h.1, h.2.1, h.2.2⟩
theorem Try.infoLT : (Try.prog.info? 64).map (fun i => (i.zero, i.size, i.bytes)) = some (some (.agg #[.int .i64 0, .bool false, .int .i64 0, .int .i64 0, .int .i64 0]), 5, 40) := by kernel_rfl
theorem PRep.onlyT {B : Nat} {W : World} {pB mA mB n : Nat} {p : PL} {sp : Option Addr} {cap : Nat} {wd w' : World} (h : PRep B W pB mA mB n p sp cap wd) {tB : Nat} (ho : Only (· = tB) wd w') (h1 : pB < tB) (hv : ∃ cs, wd.heap[tB]? = some (.cells cs 64 (0, 0))) (hb : ∀ i, (Value.slice sp p.bag.length cap).ownBlock = some i → i ≠ tB) : PRep B W pB mA mB n p sp cap w' := by
  obtain ⟨cs, hv⟩ := hv
  refine ⟨ho.obj h.box (fun e => by have e' : pB = tB := e; omega), ownsRow_only h.bag ho hb, h.ma.only ho (map_box h.ma hv), h.mb.only ho (map_box h.mb hv), h.ne, h.below.trans (ho.below (Nat.le_trans h.ne.2.1 (Nat.le_of_lt (box_lt h.box))) (fun i e => by have e' : i = tB := e; have := h.ne; omega))⟩
set_option maxRecDepth 100000 in
set_option maxHeartbeats 8000000 in
theorem com_acq1 {W : World} {B pB mA mB n cap : Nat} {sp : Option Addr} {W0 : World} {c0 c1 c2 c3 c4 c5 d0 d1 d2 d3 d4 d5 a0 b0 a1 b1 l0 l1 l2 l3 l4 ck : Int} {h0 h1 so : Bool} {f0 f1 : Int → Int × Int} {bag : List LT} {xr xs xe m0 m1 m2 m3 m4 nep : Int} {ms : Bool} (hP : PRep B W0 pB mA mB n ⟨⟨⟨c0, c1, c2, c3, c4, c5⟩, a0, b0, h0, f0⟩, ⟨⟨d0, d1, d2, d3, d4, d5⟩, a1, b1, h1, f1⟩, ⟨l0, l1, l2, l3, l4, so⟩, bag, ck⟩ sp cap W) (hbig : bag.length ≤ 1000) (hr : Op.acqC ⟨l0, l1, l2, l3, l4, so⟩ xr = (⟨m0, m1, m2, m3, m4, ms⟩, nep, 0)) :
    Calls Try.prog 39 #[.pointer (some ⟨pB, 0, none⟩), .agg #[.int .i64 xr, .bool false, .int .i64 1, .int .i64 xs, .int .i64 xe]] W fun e w' => e = .returned (.tuple #[]) ∧ ∃ sp' cap', PRep B W0 pB mA mB n (comC ⟨⟨⟨c0, c1, c2, c3, c4, c5⟩, a0, b0, h0, f0⟩, ⟨⟨d0, d1, d2, d3, d4, d5⟩, a1, b1, h1, f1⟩, ⟨l0, l1, l2, l3, l4, so⟩, bag, ck⟩ ⟨xr, false, 1, xs, xe⟩) sp' cap' w' := by
  have HR := hide hr
  have HQ : Hid (comC ⟨⟨⟨c0, c1, c2, c3, c4, c5⟩, a0, b0, h0, f0⟩, ⟨⟨d0, d1, d2, d3, d4, d5⟩, a1, b1, h1, f1⟩, ⟨l0, l1, l2, l3, l4, so⟩, bag, ck⟩ ⟨xr, false, 1, xs, xe⟩ = addP ⟨⟨⟨c0, c1, c2, c3, c4, c5⟩, a0, b0, h0, f0⟩, ⟨⟨d0, d1, d2, d3, d4, d5⟩, a1, b1, h1, f1⟩, ⟨m0, m1, m2, m3, m4, ms⟩, bag, ck⟩ ⟨xr, true, 1, xs, nep⟩) := hide (by
    unfold comC PL.lay addP
    rw [if_neg (by simp), if_pos rfl]
    simp only
    rw [hr]
    simp only [if_true])
  rw [HQ.out]
  clear hr
  obtain ⟨V, hV⟩ : ∃ V, V = W.alloc (.cells #[.int .i64 xr, .bool false, .int .i64 1, .int .i64 xs, .int .i64 xe] 64 (0, 0)) := ⟨_, rfl⟩
  have bV : Below W.heap.size W V := by rw [hV]; exact alloc_below _ _
  have hx : V.heap[W.heap.size]? = some (.cells #[.int .i64 xr, .bool false, .int .i64 1, .int .i64 xs, .int .i64 xe] 64 (0, 0)) := by rw [hV]; exact heap_alloc_new W _
  obtain ⟨xB, hxB⟩ : ∃ xB, W.heap.size = xB := ⟨_, rfl⟩
  have hlt : pB < xB := by rw [← hxB]; exact box_lt hP.box
  have HLT : Hid (pB < xB) := hide hlt
  rw [hxB] at hx
  have HX0 := hide hx
  have HP0 := hide (hP.later bV)
  clear hx bV hP hlt
  go_enter Try.func39, Try.ntmps39
  go_upto_region 1 with fail
  rw [← hV]
  try rw [hxB]
  clear hV hxB
  obtain ⟨_, _, _, _, _, x0, x1, x2, x3, x4⟩ := five HX0.out
  have u12 := cellB (i := 12) (v := .int .i64 l0) HP0.out.box rfl
  have u13 := cellB (i := 13) (v := .int .i64 l1) HP0.out.box rfl
  have u14 := cellB (i := 14) (v := .int .i64 l2) HP0.out.box rfl
  have u15 := cellB (i := 15) (v := .int .i64 l3) HP0.out.box rfl
  have u16 := cellB (i := 16) (v := .int .i64 l4) HP0.out.box rfl
  have u17 := cellB (i := 17) (v := .bool so) HP0.out.box rfl
  have z12 := frB (i := 12) HP0.out.box
  have z13 := frB (i := 13) HP0.out.box
  have z14 := frB (i := 14) HP0.out.box
  have z15 := frB (i := 15) HP0.out.box
  have z16 := frB (i := 16) HP0.out.box
  have z17 := frB (i := 17) HP0.out.box
  go_wp2_with fail
  refine Op.racquire_any.mono ?_
  rw [HR.out]
  simp only [LE.val, LE.row]
  rintro _ y1 ⟨rfl, b1⟩
  have HP1 := hide (HP0.out.later b1)
  have HX1 := hide (below_box b1 HX0.out)
  clear b1 HP0 HX0 x0 x1 x2 x3 x4 u12 z12 u13 z13 u14 z14 u15 z15 u16 z16 u17 z17
  obtain ⟨_, _, _, _, _, x0, x1, x2, x3, x4⟩ := five HX1.out
  have u12 := cellB (i := 12) (v := .int .i64 l0) HP1.out.box rfl
  have u13 := cellB (i := 13) (v := .int .i64 l1) HP1.out.box rfl
  have u14 := cellB (i := 14) (v := .int .i64 l2) HP1.out.box rfl
  have u15 := cellB (i := 15) (v := .int .i64 l3) HP1.out.box rfl
  have u16 := cellB (i := 16) (v := .int .i64 l4) HP1.out.box rfl
  have u17 := cellB (i := 17) (v := .bool so) HP1.out.box rfl
  have z12 := frB (i := 12) HP1.out.box
  have z13 := frB (i := 13) HP1.out.box
  have z14 := frB (i := 14) HP1.out.box
  have z15 := frB (i := 15) HP1.out.box
  have z16 := frB (i := 16) HP1.out.box
  have z17 := frB (i := 17) HP1.out.box
  go_upto_region 19 with fail
  obtain ⟨Y, hY⟩ : ∃ Y, Y = ((((((y1.setCell ⟨pB, 12, none⟩ (.int .i64 m0)).setCell ⟨pB, 13, none⟩ (.int .i64 m1)).setCell ⟨pB, 14, none⟩ (.int .i64 m2)).setCell ⟨pB, 15, none⟩ (.int .i64 m3)).setCell ⟨pB, 16, none⟩ (.int .i64 m4)).setCell ⟨pB, 17, none⟩ (.bool ms)) := ⟨_, rfl⟩
  have oY : Only (· = pB) y1 Y := by rw [hY]; exact (((((((Only.refl (· = pB) y1).trans (Only.set _ pB 12 (.int .i64 m0) rfl)).trans (Only.set _ pB 13 (.int .i64 m1) rfl)).trans (Only.set _ pB 14 (.int .i64 m2) rfl)).trans (Only.set _ pB 15 (.int .i64 m3) rfl)).trans (Only.set _ pB 16 (.int .i64 m4) rfl)).trans (Only.set _ pB 17 (.bool ms) rfl))
  have HP5 : Hid (PRep B W0 pB mA mB n ⟨⟨⟨c0, c1, c2, c3, c4, c5⟩, a0, b0, h0, f0⟩, ⟨⟨d0, d1, d2, d3, d4, d5⟩, a1, b1, h1, f1⟩, ⟨m0, m1, m2, m3, m4, ms⟩, bag, ck⟩ sp cap Y) := hide (HP1.out.put oY (by have HB := hide HP1.out.box; rw [hY]; exact (heap_set_sameL (heap_set_sameL (heap_set_sameL (heap_set_sameL (heap_set_sameL (heap_set_sameL HB.out 12 (.int .i64 m0)) 13 (.int .i64 m1)) 14 (.int .i64 m2)) 15 (.int .i64 m3)) 16 (.int .i64 m4)) 17 (.bool ms))) rfl rfl rfl)
  have HX5 := hide (oY.obj HX1.out (fun e => by have e' : xB = pB := e; have := HLT.out; omega))
  rw [← hY]
  clear hY oY HP1 HX1 x0 x1 x2 x3 x4 u12 z12 u13 z13 u14 z14 u15 z15 u16 z16 u17 z17
  obtain ⟨_, _, _, _, _, x0, x1, x2, x3, x4⟩ := five HX5.out
  go_upto_region 20 with fail
  obtain ⟨Z, hZ⟩ : ∃ Z, Z = Y.alloc (.cells #[.int .i64 xr, .bool true, .int .i64 0, .int .i64 xs, .int .i64 nep] 64 (0, 0)) := ⟨_, rfl⟩
  have bZ : Below Y.heap.size Y Z := by rw [hZ]; exact alloc_below _ _
  obtain ⟨tB, htB⟩ : ∃ tB, Y.heap.size = tB := ⟨_, rfl⟩
  have ht : Z.heap[tB]? = some (.cells #[.int .i64 xr, .bool true, .int .i64 0, .int .i64 xs, .int .i64 nep] 64 (0, 0)) := by rw [hZ, ← htB]; exact heap_alloc_new Y _
  have HLT2 : Hid (pB < tB) := hide (by rw [← htB]; exact box_lt HP5.out.box)
  have HP6 := hide (HP5.out.later bZ)
  have HBT : Hid (∀ i, (Value.slice sp bag.length cap).ownBlock = some i → i ≠ tB) := hide (fun i hi e => by obtain ⟨_, cur, h3⟩ := own_block_lt HP5.out.bag hi; have := box_lt h3; omega)
  rw [← hZ]
  try rw [htB]
  clear hZ htB bZ HP5 x0 x1 x2 x3 x4
  obtain ⟨z0, z1, z2, z3, z4, t0, t1, t2, t3, t4⟩ := five ht
  go_upto_region 22 with fail
  obtain ⟨Q, hQ⟩ : ∃ Q, Q = Z.setCell ⟨tB, 2, none⟩ (.int .i64 1) := ⟨_, rfl⟩
  have oQ : Only (· = tB) Z Q := by rw [hQ]; exact Only.set _ tB 2 _ rfl
  have hq : Q.heap[tB]? = some (.cells #[.int .i64 xr, .bool true, .int .i64 1, .int .i64 xs, .int .i64 nep] 64 (0, 0)) := by rw [hQ]; exact heap_set_sameL ht 2 _
  have HP7 := hide (HP6.out.onlyT oQ HLT2.out ⟨_, ht⟩ HBT.out)
  rw [← hQ]
  clear hQ oQ ht HP6 z0 z1 z2 z3 z4 t0 t1 t2 t3 t4
  obtain ⟨_, _, _, _, _, t0, t1, t2, t3, t4⟩ := five hq
  have HQB := hide hq
  clear hq
  have u18 := cellB (i := 18) (v := .slice sp bag.length cap) HP7.out.box rfl
  have z18 := frB (i := 18) HP7.out.box
  have hne1 : pB ≠ tB := by have := HLT2.out; omega
  have hne2 : tB ≠ pB := hne1.symm
  have HBIG := hide hbig
  clear hbig
  obtain ⟨j0, hj0, hj1, hj2, hj3⟩ := info_partsL Try.infoLT
  refine wp_region_held_drew (S := fun w' => w'.cell? ⟨tB, 0, none⟩ = some (.int .i64 xr) ∧ w'.cell? ⟨tB, 1, none⟩ = some (.bool true) ∧ w'.cell? ⟨tB, 2, none⟩ = some (.int .i64 1) ∧ w'.cell? ⟨tB, 3, none⟩ = some (.int .i64 xs) ∧ w'.cell? ⟨tB, 4, none⟩ = some (.int .i64 nep)) (by kernel_rfl) ⟨t0, t1, t2, t3, t4⟩ (fun hHeld => ?_)
  refine wpAnyH_take (i := 0) (oi := _) (v := ?_) rfl (by kernel_rfl) (by kernel_rfl) (by kernel_rfl) (fun _ _ _ h => h) (Or.inl ⟨by kernel_rfl, ?_⟩) (by assumption) ?_
  rotate_left
  · intro w hSw
    (try dsimp only at hSw)
    go_simp
    all_goals with_reducible rfl
  simp only [Act.put]
  refine wpAnyH_take (i := 1) (oi := _) (v := ?_) rfl (by kernel_rfl) (by kernel_rfl) (by kernel_rfl) (fun _ _ _ h => h) (Or.inl ⟨by kernel_rfl, ?_⟩) (by assumption) ?_
  rotate_left
  · intro w hSw
    (try dsimp only at hSw)
    go_simp
    all_goals with_reducible rfl
  simp only [Act.put]
  refine wpAnyH_take (i := 2) (oi := _) (v := ?_) rfl (by kernel_rfl) (by kernel_rfl) (by kernel_rfl) (fun _ _ _ h => h) (Or.inl ⟨by kernel_rfl, ?_⟩) (by assumption) ?_
  rotate_left
  · intro w hSw
    (try dsimp only at hSw)
    go_simp
    all_goals with_reducible rfl
  simp only [Act.put]
  refine wpAnyH_take (i := 3) (oi := _) (v := ?_) rfl (by kernel_rfl) (by kernel_rfl) (by kernel_rfl) (fun _ _ _ h => h) (Or.inl ⟨by kernel_rfl, ?_⟩) (by assumption) ?_
  rotate_left
  · intro w hSw
    (try dsimp only at hSw)
    go_simp
    all_goals with_reducible rfl
  simp only [Act.put]
  refine wpAnyH_take (i := 5) (oi := _) (v := ?_) rfl (by kernel_rfl) (by kernel_rfl) (by kernel_rfl) (fun _ _ _ h => h) (Or.inl ⟨by kernel_rfl, ?_⟩) (by assumption) ?_
  rotate_left
  · intro w hSw
    (try dsimp only at hSw)
    go_simp
    all_goals with_reducible rfl
  simp only [Act.put]
  refine wpAnyH_ready (rs := [4, 6]) (by kernel_rfl) (by simp) ?_
  refine AllReadyH.cons (o := _) rfl (fun K hK => ?_) (AllReadyH.cons (o := _) rfl (fun K hK => ?_) AllReadyH.nil)
  · go_simp
    refine hK.out _ _ hHeld (fun hHeld => ?_)
    clear hK
    refine wpAnyH_ready (rs := [6]) (by kernel_rfl) (by simp) ?_
    refine AllReadyH.cons (o := _) rfl (fun K hK => ?_) AllReadyH.nil
    go_simp
    refine hK.out _ _ (by go_keep) (fun hHeld => ?_)
    clear hK
    obtain ⟨R, hR⟩ : ∃ R, R = Q.alloc (.cells #[.int .i64 xr, .bool true, .int .i64 1, .int .i64 xs, .int .i64 nep] 64 (0, 0)) := ⟨_, rfl⟩
    have bR : Below Q.heap.size Q R := by rw [hR]; exact alloc_below _ _
    obtain ⟨nB, hnB⟩ : ∃ nB, Q.heap.size = nB := ⟨_, rfl⟩
    have HSG : Hid (Seg R 5 (.slice (some ⟨nB, 0, none⟩) 1 1) 1 [.int .i64 xr, .bool true, .int .i64 1, .int .i64 xs, .int .i64 nep]) := hide (by rw [hR, ← hnB]; exact Seg.news (heap_alloc_new Q _) (by simp [Value.oneCell']) rfl (Nat.le_refl _) (by decide))
    have HP8 := hide (HP7.out.later bR)
    have HT8 := hide (below_box bR HQB.out)
    rw [← hR] at hHeld
    rw [← hR]
    try rw [hnB]
    clear hR hnB bR
    refine wpAnyH_ready (rs := [7]) (by kernel_rfl) (by simp) ?_
    refine AllReadyH.cons (o := _) rfl (fun K hK => ?_) AllReadyH.nil
    refine step_append_cells rfl (.tmp 154) (.tmp 156) 42 rfl B 64 j0 (.agg #[.int .i64 0, .bool false, .int .i64 0, .int .i64 0, .int .i64 0]) 5 40 Try.underlying42 hj0 hj1 hj2 hj3 rfl (by decide) (.slice sp bag.length cap) bag.length _ rfl HP8.out.bag.drew (.slice (some ⟨nB, 0, none⟩) 1 1) 1 _ rfl HSG.out (by have := HBIG.out; unfold maxLen; omega) (by have := HBIG.out; omega) (Nat.le_trans HP8.out.ne.2.1 (Nat.le_of_lt (box_lt HP8.out.box))) ?_
    intro p6 c6 w6 o6 g6
    have HP9 := hide (HP8.out.later ((Below.refl _ R).drew))
    have HF := hide (HP9.out.app (y := ⟨xr, true, 1, xs, nep⟩) o6 g6)
    have ho6 : Only (fun i => (Value.slice sp bag.length cap).ownBlock = some i) R.drew w6 := Only.of_grown g6 (fun k e => e)
    have hb6 := ho6.obj HP9.out.box (fun e => bag_box HP9.out.bag HP9.out.box (by decide) _ e rfl)
    have ht6 := ho6.obj HT8.out (fun e => HBT.out _ e rfl)
    clear o6 g6 ho6 hHeld t0 t1 t2 t3 t4 u18 z18
    obtain ⟨_, _, _, _, _, t0, t1, t2, t3, t4⟩ := five ht6
    have u18 := cellB (i := 18) (v := .slice sp bag.length cap) hb6 rfl
    have z18 := frB (i := 18) hb6
    refine hK.out _ _ ⟨t0, t1, t2, t3, t4⟩ (fun hHeld => ?_)
    clear hK
    refine wpAnyH_take (i := 8) (oi := _) (v := ?_) rfl (by kernel_rfl) (by kernel_rfl) (by kernel_rfl) (fun _ _ _ h => h) (Or.inl ⟨by kernel_rfl, ?_⟩) (by assumption) ?_
    rotate_left
    · intro w hSw
      (try dsimp only at hSw)
      go_simp
      all_goals with_reducible rfl
    simp only [Act.put]
    refine wpAnyH_take (i := 9) (oi := _) (v := ?_) rfl (by kernel_rfl) (by kernel_rfl) (by kernel_rfl) (fun _ _ _ h => h) (Or.inl ⟨by kernel_rfl, ?_⟩) (by assumption) ?_
    rotate_left
    · intro w hSw
      (try dsimp only at hSw)
      go_simp
      all_goals with_reducible rfl
    simp only [Act.put]
    refine wpAnyH_ready (rs := [10]) (by kernel_rfl) (by simp) ?_
    refine AllReadyH.cons (o := _) rfl (fun K hK => ?_) AllReadyH.nil
    go_simp
    refine hK.out _ _ (by go_keep) (fun hHeld => ?_)
    clear hK
    refine wpAnyH_done (by kernel_rfl) ?_ _
    go_wp2
    refine bodyPost_end (results_none rfl _ _ _) rfl ?_
    exact ⟨rfl, p6, c6, HF.out⟩
  · go_simp
    refine hK.out _ _ (by go_keep) (fun hHeld => ?_)
    clear hK
    obtain ⟨R, hR⟩ : ∃ R, R = Q.alloc (.cells #[.int .i64 xr, .bool true, .int .i64 1, .int .i64 xs, .int .i64 nep] 64 (0, 0)) := ⟨_, rfl⟩
    have bR : Below Q.heap.size Q R := by rw [hR]; exact alloc_below _ _
    obtain ⟨nB, hnB⟩ : ∃ nB, Q.heap.size = nB := ⟨_, rfl⟩
    have HSG : Hid (Seg R 5 (.slice (some ⟨nB, 0, none⟩) 1 1) 1 [.int .i64 xr, .bool true, .int .i64 1, .int .i64 xs, .int .i64 nep]) := hide (by rw [hR, ← hnB]; exact Seg.news (heap_alloc_new Q _) (by simp [Value.oneCell']) rfl (Nat.le_refl _) (by decide))
    have HP8 := hide (HP7.out.later bR)
    have HT8 := hide (below_box bR HQB.out)
    rw [← hR] at hHeld
    rw [← hR]
    try rw [hnB]
    clear hR hnB bR
    have v18 := cellB (i := 18) (v := .slice sp bag.length cap) HP8.out.box rfl
    refine wpAnyH_ready (rs := [4]) (by kernel_rfl) (by simp) ?_
    refine AllReadyH.cons (o := _) rfl (fun K hK => ?_) AllReadyH.nil
    go_simp
    refine hK.out _ _ hHeld (fun hHeld => ?_)
    clear hK
    refine wpAnyH_ready (rs := [7]) (by kernel_rfl) (by simp) ?_
    refine AllReadyH.cons (o := _) rfl (fun K hK => ?_) AllReadyH.nil
    refine step_append_cells rfl (.tmp 154) (.tmp 156) 42 rfl B 64 j0 (.agg #[.int .i64 0, .bool false, .int .i64 0, .int .i64 0, .int .i64 0]) 5 40 Try.underlying42 hj0 hj1 hj2 hj3 rfl (by decide) (.slice sp bag.length cap) bag.length _ rfl HP8.out.bag.drew (.slice (some ⟨nB, 0, none⟩) 1 1) 1 _ rfl HSG.out (by have := HBIG.out; unfold maxLen; omega) (by have := HBIG.out; omega) (Nat.le_trans HP8.out.ne.2.1 (Nat.le_of_lt (box_lt HP8.out.box))) ?_
    intro p6 c6 w6 o6 g6
    have HP9 := hide (HP8.out.later ((Below.refl _ R).drew))
    have HF := hide (HP9.out.app (y := ⟨xr, true, 1, xs, nep⟩) o6 g6)
    have ho6 : Only (fun i => (Value.slice sp bag.length cap).ownBlock = some i) R.drew w6 := Only.of_grown g6 (fun k e => e)
    have hb6 := ho6.obj HP9.out.box (fun e => bag_box HP9.out.bag HP9.out.box (by decide) _ e rfl)
    have ht6 := ho6.obj HT8.out (fun e => HBT.out _ e rfl)
    clear o6 g6 ho6 hHeld t0 t1 t2 t3 t4 u18 z18
    obtain ⟨_, _, _, _, _, t0, t1, t2, t3, t4⟩ := five ht6
    have u18 := cellB (i := 18) (v := .slice sp bag.length cap) hb6 rfl
    have z18 := frB (i := 18) hb6
    refine hK.out _ _ ⟨t0, t1, t2, t3, t4⟩ (fun hHeld => ?_)
    clear hK
    refine wpAnyH_take (i := 8) (oi := _) (v := ?_) rfl (by kernel_rfl) (by kernel_rfl) (by kernel_rfl) (fun _ _ _ h => h) (Or.inl ⟨by kernel_rfl, ?_⟩) (by assumption) ?_
    rotate_left
    · intro w hSw
      (try dsimp only at hSw)
      go_simp
      all_goals with_reducible rfl
    simp only [Act.put]
    refine wpAnyH_take (i := 9) (oi := _) (v := ?_) rfl (by kernel_rfl) (by kernel_rfl) (by kernel_rfl) (fun _ _ _ h => h) (Or.inl ⟨by kernel_rfl, ?_⟩) (by assumption) ?_
    rotate_left
    · intro w hSw
      (try dsimp only at hSw)
      go_simp
      all_goals with_reducible rfl
    simp only [Act.put]
    refine wpAnyH_ready (rs := [10]) (by kernel_rfl) (by simp) ?_
    refine AllReadyH.cons (o := _) rfl (fun K hK => ?_) AllReadyH.nil
    go_simp
    refine hK.out _ _ (by go_keep) (fun hHeld => ?_)
    clear hK
    refine wpAnyH_done (by kernel_rfl) ?_ _
    go_wp2
    refine bodyPost_end (results_none rfl _ _ _) rfl ?_
    exact ⟨rfl, p6, c6, HF.out⟩
set_option maxRecDepth 100000 in
set_option maxHeartbeats 8000000 in
theorem com_acq0 {W : World} {B pB mA mB n cap : Nat} {sp : Option Addr} {W0 : World} {c0 c1 c2 c3 c4 c5 d0 d1 d2 d3 d4 d5 a0 b0 a1 b1 l0 l1 l2 l3 l4 ck : Int} {h0 h1 so : Bool} {f0 f1 : Int → Int × Int} {bag : List LT} {xr xs xe m0 m1 m2 m3 m4 nep er : Int} {ms : Bool} (hP : PRep B W0 pB mA mB n ⟨⟨⟨c0, c1, c2, c3, c4, c5⟩, a0, b0, h0, f0⟩, ⟨⟨d0, d1, d2, d3, d4, d5⟩, a1, b1, h1, f1⟩, ⟨l0, l1, l2, l3, l4, so⟩, bag, ck⟩ sp cap W) (hbig : bag.length ≤ 1000) (hr : Op.acqC ⟨l0, l1, l2, l3, l4, so⟩ xr = (⟨m0, m1, m2, m3, m4, ms⟩, nep, er)) (he : er ≠ 0) :
    Calls Try.prog 39 #[.pointer (some ⟨pB, 0, none⟩), .agg #[.int .i64 xr, .bool false, .int .i64 1, .int .i64 xs, .int .i64 xe]] W fun e w' => e = .returned (.tuple #[]) ∧ ∃ sp' cap', PRep B W0 pB mA mB n (comC ⟨⟨⟨c0, c1, c2, c3, c4, c5⟩, a0, b0, h0, f0⟩, ⟨⟨d0, d1, d2, d3, d4, d5⟩, a1, b1, h1, f1⟩, ⟨l0, l1, l2, l3, l4, so⟩, bag, ck⟩ ⟨xr, false, 1, xs, xe⟩) sp' cap' w' := by
  have HR := hide hr
  have HQ : Hid (comC ⟨⟨⟨c0, c1, c2, c3, c4, c5⟩, a0, b0, h0, f0⟩, ⟨⟨d0, d1, d2, d3, d4, d5⟩, a1, b1, h1, f1⟩, ⟨l0, l1, l2, l3, l4, so⟩, bag, ck⟩ ⟨xr, false, 1, xs, xe⟩ = addP ⟨⟨⟨c0, c1, c2, c3, c4, c5⟩, a0, b0, h0, f0⟩, ⟨⟨d0, d1, d2, d3, d4, d5⟩, a1, b1, h1, f1⟩, ⟨m0, m1, m2, m3, m4, ms⟩, bag, ck⟩ ⟨xr, true, 0, xs, nep⟩) := hide (by
    unfold comC PL.lay addP
    rw [if_neg (by simp), if_pos rfl]
    simp only
    rw [hr]
    simp only [if_neg he])
  rw [HQ.out]
  have hd : (er == 0) = false := ne_eqL he
  clear he
  clear hr
  obtain ⟨V, hV⟩ : ∃ V, V = W.alloc (.cells #[.int .i64 xr, .bool false, .int .i64 1, .int .i64 xs, .int .i64 xe] 64 (0, 0)) := ⟨_, rfl⟩
  have bV : Below W.heap.size W V := by rw [hV]; exact alloc_below _ _
  have hx : V.heap[W.heap.size]? = some (.cells #[.int .i64 xr, .bool false, .int .i64 1, .int .i64 xs, .int .i64 xe] 64 (0, 0)) := by rw [hV]; exact heap_alloc_new W _
  obtain ⟨xB, hxB⟩ : ∃ xB, W.heap.size = xB := ⟨_, rfl⟩
  have hlt : pB < xB := by rw [← hxB]; exact box_lt hP.box
  have HLT : Hid (pB < xB) := hide hlt
  rw [hxB] at hx
  have HX0 := hide hx
  have HP0 := hide (hP.later bV)
  clear hx bV hP hlt
  go_enter Try.func39, Try.ntmps39
  go_upto_region 1 with fail
  rw [← hV]
  try rw [hxB]
  clear hV hxB
  obtain ⟨_, _, _, _, _, x0, x1, x2, x3, x4⟩ := five HX0.out
  have u12 := cellB (i := 12) (v := .int .i64 l0) HP0.out.box rfl
  have u13 := cellB (i := 13) (v := .int .i64 l1) HP0.out.box rfl
  have u14 := cellB (i := 14) (v := .int .i64 l2) HP0.out.box rfl
  have u15 := cellB (i := 15) (v := .int .i64 l3) HP0.out.box rfl
  have u16 := cellB (i := 16) (v := .int .i64 l4) HP0.out.box rfl
  have u17 := cellB (i := 17) (v := .bool so) HP0.out.box rfl
  have z12 := frB (i := 12) HP0.out.box
  have z13 := frB (i := 13) HP0.out.box
  have z14 := frB (i := 14) HP0.out.box
  have z15 := frB (i := 15) HP0.out.box
  have z16 := frB (i := 16) HP0.out.box
  have z17 := frB (i := 17) HP0.out.box
  go_wp2_with fail
  refine Op.racquire_any.mono ?_
  rw [HR.out]
  simp only [LE.val, LE.row]
  rintro _ y1 ⟨rfl, b1⟩
  have HP1 := hide (HP0.out.later b1)
  have HX1 := hide (below_box b1 HX0.out)
  clear b1 HP0 HX0 x0 x1 x2 x3 x4 u12 z12 u13 z13 u14 z14 u15 z15 u16 z16 u17 z17
  obtain ⟨_, _, _, _, _, x0, x1, x2, x3, x4⟩ := five HX1.out
  have u12 := cellB (i := 12) (v := .int .i64 l0) HP1.out.box rfl
  have u13 := cellB (i := 13) (v := .int .i64 l1) HP1.out.box rfl
  have u14 := cellB (i := 14) (v := .int .i64 l2) HP1.out.box rfl
  have u15 := cellB (i := 15) (v := .int .i64 l3) HP1.out.box rfl
  have u16 := cellB (i := 16) (v := .int .i64 l4) HP1.out.box rfl
  have u17 := cellB (i := 17) (v := .bool so) HP1.out.box rfl
  have z12 := frB (i := 12) HP1.out.box
  have z13 := frB (i := 13) HP1.out.box
  have z14 := frB (i := 14) HP1.out.box
  have z15 := frB (i := 15) HP1.out.box
  have z16 := frB (i := 16) HP1.out.box
  have z17 := frB (i := 17) HP1.out.box
  go_upto_region 19 with fail
  obtain ⟨Y, hY⟩ : ∃ Y, Y = ((((((y1.setCell ⟨pB, 12, none⟩ (.int .i64 m0)).setCell ⟨pB, 13, none⟩ (.int .i64 m1)).setCell ⟨pB, 14, none⟩ (.int .i64 m2)).setCell ⟨pB, 15, none⟩ (.int .i64 m3)).setCell ⟨pB, 16, none⟩ (.int .i64 m4)).setCell ⟨pB, 17, none⟩ (.bool ms)) := ⟨_, rfl⟩
  have oY : Only (· = pB) y1 Y := by rw [hY]; exact (((((((Only.refl (· = pB) y1).trans (Only.set _ pB 12 (.int .i64 m0) rfl)).trans (Only.set _ pB 13 (.int .i64 m1) rfl)).trans (Only.set _ pB 14 (.int .i64 m2) rfl)).trans (Only.set _ pB 15 (.int .i64 m3) rfl)).trans (Only.set _ pB 16 (.int .i64 m4) rfl)).trans (Only.set _ pB 17 (.bool ms) rfl))
  have HP5 : Hid (PRep B W0 pB mA mB n ⟨⟨⟨c0, c1, c2, c3, c4, c5⟩, a0, b0, h0, f0⟩, ⟨⟨d0, d1, d2, d3, d4, d5⟩, a1, b1, h1, f1⟩, ⟨m0, m1, m2, m3, m4, ms⟩, bag, ck⟩ sp cap Y) := hide (HP1.out.put oY (by have HB := hide HP1.out.box; rw [hY]; exact (heap_set_sameL (heap_set_sameL (heap_set_sameL (heap_set_sameL (heap_set_sameL (heap_set_sameL HB.out 12 (.int .i64 m0)) 13 (.int .i64 m1)) 14 (.int .i64 m2)) 15 (.int .i64 m3)) 16 (.int .i64 m4)) 17 (.bool ms))) rfl rfl rfl)
  have HX5 := hide (oY.obj HX1.out (fun e => by have e' : xB = pB := e; have := HLT.out; omega))
  rw [← hY]
  clear hY oY HP1 HX1 x0 x1 x2 x3 x4 u12 z12 u13 z13 u14 z14 u15 z15 u16 z16 u17 z17
  obtain ⟨_, _, _, _, _, x0, x1, x2, x3, x4⟩ := five HX5.out
  go_upto_region 20 with fail
  obtain ⟨Z, hZ⟩ : ∃ Z, Z = Y.alloc (.cells #[.int .i64 xr, .bool true, .int .i64 0, .int .i64 xs, .int .i64 nep] 64 (0, 0)) := ⟨_, rfl⟩
  have bZ : Below Y.heap.size Y Z := by rw [hZ]; exact alloc_below _ _
  obtain ⟨tB, htB⟩ : ∃ tB, Y.heap.size = tB := ⟨_, rfl⟩
  have ht : Z.heap[tB]? = some (.cells #[.int .i64 xr, .bool true, .int .i64 0, .int .i64 xs, .int .i64 nep] 64 (0, 0)) := by rw [hZ, ← htB]; exact heap_alloc_new Y _
  have HLT2 : Hid (pB < tB) := hide (by rw [← htB]; exact box_lt HP5.out.box)
  have HP6 := hide (HP5.out.later bZ)
  have HBT : Hid (∀ i, (Value.slice sp bag.length cap).ownBlock = some i → i ≠ tB) := hide (fun i hi e => by obtain ⟨_, cur, h3⟩ := own_block_lt HP5.out.bag hi; have := box_lt h3; omega)
  rw [← hZ]
  try rw [htB]
  clear hZ htB bZ HP5 x0 x1 x2 x3 x4
  obtain ⟨z0, z1, z2, z3, z4, t0, t1, t2, t3, t4⟩ := five ht
  go_upto_region 22 with fail
  have HP7 := HP6
  have hq := ht
  obtain ⟨Q, hQ⟩ : ∃ Q, Q = Z := ⟨_, rfl⟩
  rw [← hQ] at HP7 hq t0 t1 t2 t3 t4
  rw [← hQ]
  clear hQ HP6 ht z0 z1 z2 z3 z4
  have HQB := hide hq
  clear hq
  have u18 := cellB (i := 18) (v := .slice sp bag.length cap) HP7.out.box rfl
  have z18 := frB (i := 18) HP7.out.box
  have hne1 : pB ≠ tB := by have := HLT2.out; omega
  have hne2 : tB ≠ pB := hne1.symm
  have HBIG := hide hbig
  clear hbig
  obtain ⟨j0, hj0, hj1, hj2, hj3⟩ := info_partsL Try.infoLT
  refine wp_region_held_drew (S := fun w' => w'.cell? ⟨tB, 0, none⟩ = some (.int .i64 xr) ∧ w'.cell? ⟨tB, 1, none⟩ = some (.bool true) ∧ w'.cell? ⟨tB, 2, none⟩ = some (.int .i64 0) ∧ w'.cell? ⟨tB, 3, none⟩ = some (.int .i64 xs) ∧ w'.cell? ⟨tB, 4, none⟩ = some (.int .i64 nep)) (by kernel_rfl) ⟨t0, t1, t2, t3, t4⟩ (fun hHeld => ?_)
  refine wpAnyH_take (i := 0) (oi := _) (v := ?_) rfl (by kernel_rfl) (by kernel_rfl) (by kernel_rfl) (fun _ _ _ h => h) (Or.inl ⟨by kernel_rfl, ?_⟩) (by assumption) ?_
  rotate_left
  · intro w hSw
    (try dsimp only at hSw)
    go_simp
    all_goals with_reducible rfl
  simp only [Act.put]
  refine wpAnyH_take (i := 1) (oi := _) (v := ?_) rfl (by kernel_rfl) (by kernel_rfl) (by kernel_rfl) (fun _ _ _ h => h) (Or.inl ⟨by kernel_rfl, ?_⟩) (by assumption) ?_
  rotate_left
  · intro w hSw
    (try dsimp only at hSw)
    go_simp
    all_goals with_reducible rfl
  simp only [Act.put]
  refine wpAnyH_take (i := 2) (oi := _) (v := ?_) rfl (by kernel_rfl) (by kernel_rfl) (by kernel_rfl) (fun _ _ _ h => h) (Or.inl ⟨by kernel_rfl, ?_⟩) (by assumption) ?_
  rotate_left
  · intro w hSw
    (try dsimp only at hSw)
    go_simp
    all_goals with_reducible rfl
  simp only [Act.put]
  refine wpAnyH_take (i := 3) (oi := _) (v := ?_) rfl (by kernel_rfl) (by kernel_rfl) (by kernel_rfl) (fun _ _ _ h => h) (Or.inl ⟨by kernel_rfl, ?_⟩) (by assumption) ?_
  rotate_left
  · intro w hSw
    (try dsimp only at hSw)
    go_simp
    all_goals with_reducible rfl
  simp only [Act.put]
  refine wpAnyH_take (i := 5) (oi := _) (v := ?_) rfl (by kernel_rfl) (by kernel_rfl) (by kernel_rfl) (fun _ _ _ h => h) (Or.inl ⟨by kernel_rfl, ?_⟩) (by assumption) ?_
  rotate_left
  · intro w hSw
    (try dsimp only at hSw)
    go_simp
    all_goals with_reducible rfl
  simp only [Act.put]
  refine wpAnyH_ready (rs := [4, 6]) (by kernel_rfl) (by simp) ?_
  refine AllReadyH.cons (o := _) rfl (fun K hK => ?_) (AllReadyH.cons (o := _) rfl (fun K hK => ?_) AllReadyH.nil)
  · go_simp
    refine hK.out _ _ hHeld (fun hHeld => ?_)
    clear hK
    refine wpAnyH_ready (rs := [6]) (by kernel_rfl) (by simp) ?_
    refine AllReadyH.cons (o := _) rfl (fun K hK => ?_) AllReadyH.nil
    go_simp
    refine hK.out _ _ (by go_keep) (fun hHeld => ?_)
    clear hK
    obtain ⟨R, hR⟩ : ∃ R, R = Q.alloc (.cells #[.int .i64 xr, .bool true, .int .i64 0, .int .i64 xs, .int .i64 nep] 64 (0, 0)) := ⟨_, rfl⟩
    have bR : Below Q.heap.size Q R := by rw [hR]; exact alloc_below _ _
    obtain ⟨nB, hnB⟩ : ∃ nB, Q.heap.size = nB := ⟨_, rfl⟩
    have HSG : Hid (Seg R 5 (.slice (some ⟨nB, 0, none⟩) 1 1) 1 [.int .i64 xr, .bool true, .int .i64 0, .int .i64 xs, .int .i64 nep]) := hide (by rw [hR, ← hnB]; exact Seg.news (heap_alloc_new Q _) (by simp [Value.oneCell']) rfl (Nat.le_refl _) (by decide))
    have HP8 := hide (HP7.out.later bR)
    have HT8 := hide (below_box bR HQB.out)
    rw [← hR] at hHeld
    rw [← hR]
    try rw [hnB]
    clear hR hnB bR
    refine wpAnyH_ready (rs := [7]) (by kernel_rfl) (by simp) ?_
    refine AllReadyH.cons (o := _) rfl (fun K hK => ?_) AllReadyH.nil
    refine step_append_cells rfl (.tmp 154) (.tmp 156) 42 rfl B 64 j0 (.agg #[.int .i64 0, .bool false, .int .i64 0, .int .i64 0, .int .i64 0]) 5 40 Try.underlying42 hj0 hj1 hj2 hj3 rfl (by decide) (.slice sp bag.length cap) bag.length _ rfl HP8.out.bag.drew (.slice (some ⟨nB, 0, none⟩) 1 1) 1 _ rfl HSG.out (by have := HBIG.out; unfold maxLen; omega) (by have := HBIG.out; omega) (Nat.le_trans HP8.out.ne.2.1 (Nat.le_of_lt (box_lt HP8.out.box))) ?_
    intro p6 c6 w6 o6 g6
    have HP9 := hide (HP8.out.later ((Below.refl _ R).drew))
    have HF := hide (HP9.out.app (y := ⟨xr, true, 0, xs, nep⟩) o6 g6)
    have ho6 : Only (fun i => (Value.slice sp bag.length cap).ownBlock = some i) R.drew w6 := Only.of_grown g6 (fun k e => e)
    have hb6 := ho6.obj HP9.out.box (fun e => bag_box HP9.out.bag HP9.out.box (by decide) _ e rfl)
    have ht6 := ho6.obj HT8.out (fun e => HBT.out _ e rfl)
    clear o6 g6 ho6 hHeld t0 t1 t2 t3 t4 u18 z18
    obtain ⟨_, _, _, _, _, t0, t1, t2, t3, t4⟩ := five ht6
    have u18 := cellB (i := 18) (v := .slice sp bag.length cap) hb6 rfl
    have z18 := frB (i := 18) hb6
    refine hK.out _ _ ⟨t0, t1, t2, t3, t4⟩ (fun hHeld => ?_)
    clear hK
    refine wpAnyH_take (i := 8) (oi := _) (v := ?_) rfl (by kernel_rfl) (by kernel_rfl) (by kernel_rfl) (fun _ _ _ h => h) (Or.inl ⟨by kernel_rfl, ?_⟩) (by assumption) ?_
    rotate_left
    · intro w hSw
      (try dsimp only at hSw)
      go_simp
      all_goals with_reducible rfl
    simp only [Act.put]
    refine wpAnyH_take (i := 9) (oi := _) (v := ?_) rfl (by kernel_rfl) (by kernel_rfl) (by kernel_rfl) (fun _ _ _ h => h) (Or.inl ⟨by kernel_rfl, ?_⟩) (by assumption) ?_
    rotate_left
    · intro w hSw
      (try dsimp only at hSw)
      go_simp
      all_goals with_reducible rfl
    simp only [Act.put]
    refine wpAnyH_ready (rs := [10]) (by kernel_rfl) (by simp) ?_
    refine AllReadyH.cons (o := _) rfl (fun K hK => ?_) AllReadyH.nil
    go_simp
    refine hK.out _ _ (by go_keep) (fun hHeld => ?_)
    clear hK
    refine wpAnyH_done (by kernel_rfl) ?_ _
    go_wp2
    refine bodyPost_end (results_none rfl _ _ _) rfl ?_
    exact ⟨rfl, p6, c6, HF.out⟩
  · go_simp
    refine hK.out _ _ (by go_keep) (fun hHeld => ?_)
    clear hK
    obtain ⟨R, hR⟩ : ∃ R, R = Q.alloc (.cells #[.int .i64 xr, .bool true, .int .i64 0, .int .i64 xs, .int .i64 nep] 64 (0, 0)) := ⟨_, rfl⟩
    have bR : Below Q.heap.size Q R := by rw [hR]; exact alloc_below _ _
    obtain ⟨nB, hnB⟩ : ∃ nB, Q.heap.size = nB := ⟨_, rfl⟩
    have HSG : Hid (Seg R 5 (.slice (some ⟨nB, 0, none⟩) 1 1) 1 [.int .i64 xr, .bool true, .int .i64 0, .int .i64 xs, .int .i64 nep]) := hide (by rw [hR, ← hnB]; exact Seg.news (heap_alloc_new Q _) (by simp [Value.oneCell']) rfl (Nat.le_refl _) (by decide))
    have HP8 := hide (HP7.out.later bR)
    have HT8 := hide (below_box bR HQB.out)
    rw [← hR] at hHeld
    rw [← hR]
    try rw [hnB]
    clear hR hnB bR
    have v18 := cellB (i := 18) (v := .slice sp bag.length cap) HP8.out.box rfl
    refine wpAnyH_ready (rs := [4]) (by kernel_rfl) (by simp) ?_
    refine AllReadyH.cons (o := _) rfl (fun K hK => ?_) AllReadyH.nil
    go_simp
    refine hK.out _ _ hHeld (fun hHeld => ?_)
    clear hK
    refine wpAnyH_ready (rs := [7]) (by kernel_rfl) (by simp) ?_
    refine AllReadyH.cons (o := _) rfl (fun K hK => ?_) AllReadyH.nil
    refine step_append_cells rfl (.tmp 154) (.tmp 156) 42 rfl B 64 j0 (.agg #[.int .i64 0, .bool false, .int .i64 0, .int .i64 0, .int .i64 0]) 5 40 Try.underlying42 hj0 hj1 hj2 hj3 rfl (by decide) (.slice sp bag.length cap) bag.length _ rfl HP8.out.bag.drew (.slice (some ⟨nB, 0, none⟩) 1 1) 1 _ rfl HSG.out (by have := HBIG.out; unfold maxLen; omega) (by have := HBIG.out; omega) (Nat.le_trans HP8.out.ne.2.1 (Nat.le_of_lt (box_lt HP8.out.box))) ?_
    intro p6 c6 w6 o6 g6
    have HP9 := hide (HP8.out.later ((Below.refl _ R).drew))
    have HF := hide (HP9.out.app (y := ⟨xr, true, 0, xs, nep⟩) o6 g6)
    have ho6 : Only (fun i => (Value.slice sp bag.length cap).ownBlock = some i) R.drew w6 := Only.of_grown g6 (fun k e => e)
    have hb6 := ho6.obj HP9.out.box (fun e => bag_box HP9.out.bag HP9.out.box (by decide) _ e rfl)
    have ht6 := ho6.obj HT8.out (fun e => HBT.out _ e rfl)
    clear o6 g6 ho6 hHeld t0 t1 t2 t3 t4 u18 z18
    obtain ⟨_, _, _, _, _, t0, t1, t2, t3, t4⟩ := five ht6
    have u18 := cellB (i := 18) (v := .slice sp bag.length cap) hb6 rfl
    have z18 := frB (i := 18) hb6
    refine hK.out _ _ ⟨t0, t1, t2, t3, t4⟩ (fun hHeld => ?_)
    clear hK
    refine wpAnyH_take (i := 8) (oi := _) (v := ?_) rfl (by kernel_rfl) (by kernel_rfl) (by kernel_rfl) (fun _ _ _ h => h) (Or.inl ⟨by kernel_rfl, ?_⟩) (by assumption) ?_
    rotate_left
    · intro w hSw
      (try dsimp only at hSw)
      go_simp
      all_goals with_reducible rfl
    simp only [Act.put]
    refine wpAnyH_take (i := 9) (oi := _) (v := ?_) rfl (by kernel_rfl) (by kernel_rfl) (by kernel_rfl) (fun _ _ _ h => h) (Or.inl ⟨by kernel_rfl, ?_⟩) (by assumption) ?_
    rotate_left
    · intro w hSw
      (try dsimp only at hSw)
      go_simp
      all_goals with_reducible rfl
    simp only [Act.put]
    refine wpAnyH_ready (rs := [10]) (by kernel_rfl) (by simp) ?_
    refine AllReadyH.cons (o := _) rfl (fun K hK => ?_) AllReadyH.nil
    go_simp
    refine hK.out _ _ (by go_keep) (fun hHeld => ?_)
    clear hK
    refine wpAnyH_done (by kernel_rfl) ?_ _
    go_wp2
    refine bodyPost_end (results_none rfl _ _ _) rfl ?_
    exact ⟨rfl, p6, c6, HF.out⟩
set_option maxRecDepth 100000 in
set_option maxHeartbeats 8000000 in
theorem com_ren1 {W : World} {B pB mA mB n cap : Nat} {sp : Option Addr} {W0 : World} {c0 c1 c2 c3 c4 c5 d0 d1 d2 d3 d4 d5 a0 b0 a1 b1 l0 l1 l2 l3 l4 ck : Int} {h0 h1 so : Bool} {f0 f1 : Int → Int × Int} {bag : List LT} {xr xs xe m0 m1 m2 m3 m4 : Int} {ms : Bool} (hP : PRep B W0 pB mA mB n ⟨⟨⟨c0, c1, c2, c3, c4, c5⟩, a0, b0, h0, f0⟩, ⟨⟨d0, d1, d2, d3, d4, d5⟩, a1, b1, h1, f1⟩, ⟨l0, l1, l2, l3, l4, so⟩, bag, ck⟩ sp cap W) (hbig : bag.length ≤ 1000) (hr : Op.renewC ⟨l0, l1, l2, l3, l4, so⟩ xr xe = (⟨m0, m1, m2, m3, m4, ms⟩, 0)) :
    Calls Try.prog 39 #[.pointer (some ⟨pB, 0, none⟩), .agg #[.int .i64 xr, .bool false, .int .i64 2, .int .i64 xs, .int .i64 xe]] W fun e w' => e = .returned (.tuple #[]) ∧ ∃ sp' cap', PRep B W0 pB mA mB n (comC ⟨⟨⟨c0, c1, c2, c3, c4, c5⟩, a0, b0, h0, f0⟩, ⟨⟨d0, d1, d2, d3, d4, d5⟩, a1, b1, h1, f1⟩, ⟨l0, l1, l2, l3, l4, so⟩, bag, ck⟩ ⟨xr, false, 2, xs, xe⟩) sp' cap' w' := by
  have HR := hide hr
  have HQ : Hid (comC ⟨⟨⟨c0, c1, c2, c3, c4, c5⟩, a0, b0, h0, f0⟩, ⟨⟨d0, d1, d2, d3, d4, d5⟩, a1, b1, h1, f1⟩, ⟨l0, l1, l2, l3, l4, so⟩, bag, ck⟩ ⟨xr, false, 2, xs, xe⟩ = addP ⟨⟨⟨c0, c1, c2, c3, c4, c5⟩, a0, b0, h0, f0⟩, ⟨⟨d0, d1, d2, d3, d4, d5⟩, a1, b1, h1, f1⟩, ⟨m0, m1, m2, m3, m4, ms⟩, bag, ck⟩ ⟨xr, true, 1, xs, xe⟩) := hide (by
    unfold comC PL.lay addP
    rw [if_neg (by simp), if_neg (by simp), if_pos rfl]
    simp only
    rw [hr]
    simp only [if_true])
  rw [HQ.out]
  clear hr
  obtain ⟨V, hV⟩ : ∃ V, V = W.alloc (.cells #[.int .i64 xr, .bool false, .int .i64 2, .int .i64 xs, .int .i64 xe] 64 (0, 0)) := ⟨_, rfl⟩
  have bV : Below W.heap.size W V := by rw [hV]; exact alloc_below _ _
  have hx : V.heap[W.heap.size]? = some (.cells #[.int .i64 xr, .bool false, .int .i64 2, .int .i64 xs, .int .i64 xe] 64 (0, 0)) := by rw [hV]; exact heap_alloc_new W _
  obtain ⟨xB, hxB⟩ : ∃ xB, W.heap.size = xB := ⟨_, rfl⟩
  have hlt : pB < xB := by rw [← hxB]; exact box_lt hP.box
  have HLT : Hid (pB < xB) := hide hlt
  rw [hxB] at hx
  have HX0 := hide hx
  have HP0 := hide (hP.later bV)
  clear hx bV hP hlt
  go_enter Try.func39, Try.ntmps39
  go_upto_region 1 with fail
  rw [← hV]
  try rw [hxB]
  clear hV hxB
  obtain ⟨_, _, _, _, _, x0, x1, x2, x3, x4⟩ := five HX0.out
  have u12 := cellB (i := 12) (v := .int .i64 l0) HP0.out.box rfl
  have u13 := cellB (i := 13) (v := .int .i64 l1) HP0.out.box rfl
  have u14 := cellB (i := 14) (v := .int .i64 l2) HP0.out.box rfl
  have u15 := cellB (i := 15) (v := .int .i64 l3) HP0.out.box rfl
  have u16 := cellB (i := 16) (v := .int .i64 l4) HP0.out.box rfl
  have u17 := cellB (i := 17) (v := .bool so) HP0.out.box rfl
  have z12 := frB (i := 12) HP0.out.box
  have z13 := frB (i := 13) HP0.out.box
  have z14 := frB (i := 14) HP0.out.box
  have z15 := frB (i := 15) HP0.out.box
  have z16 := frB (i := 16) HP0.out.box
  have z17 := frB (i := 17) HP0.out.box
  have hne1 : pB ≠ xB := by have := HLT.out; omega
  have hne2 : xB ≠ pB := hne1.symm
  have B0 : Below V.heap.size V V.drew := (Below.refl _ V).drew
  have HP1 := hide (HP0.out.later B0)
  have HX1 := hide (below_box B0 HX0.out)
  go_upto_region 16 with fail
  refine wp_region_held_drew (S := fun w' => w'.cell? ⟨xB, 4, none⟩ = some (.int .i64 xe)) (by kernel_rfl) x4 (fun hHeld => ?_)
  refine wpAnyH_take (i := 0) (oi := _) (v := ?_) rfl (by kernel_rfl) (by kernel_rfl) (by kernel_rfl) (fun _ _ _ h => h) (Or.inl ⟨by kernel_rfl, ?_⟩) (by assumption) ?_
  rotate_left
  · intro w hSw
    (try dsimp only at hSw)
    go_simp
    all_goals with_reducible rfl
  simp only [Act.put]
  refine wpAnyH_take (i := 1) (oi := _) (v := ?_) rfl (by kernel_rfl) (by kernel_rfl) (by kernel_rfl) (fun _ _ _ h => h) (Or.inl ⟨by kernel_rfl, ?_⟩) (by assumption) ?_
  rotate_left
  · intro w hSw
    (try dsimp only at hSw)
    go_simp
    all_goals with_reducible rfl
  simp only [Act.put]
  refine wpAnyH_take (i := 2) (oi := _) (v := ?_) rfl (by kernel_rfl) (by kernel_rfl) (by kernel_rfl) (fun _ _ _ h => h) (Or.inl ⟨by kernel_rfl, ?_⟩) (by assumption) ?_
  rotate_left
  · intro w hSw
    (try dsimp only at hSw)
    go_simp
    all_goals with_reducible rfl
  simp only [Act.put]
  refine wpAnyH_take (i := 3) (oi := _) (v := ?_) rfl (by kernel_rfl) (by kernel_rfl) (by kernel_rfl) (fun _ _ _ h => h) (Or.inl ⟨by kernel_rfl, ?_⟩) (by assumption) ?_
  rotate_left
  · intro w hSw
    (try dsimp only at hSw)
    go_simp
    all_goals with_reducible rfl
  simp only [Act.put]
  refine wpAnyH_take (i := 5) (oi := _) (v := ?_) rfl (by kernel_rfl) (by kernel_rfl) (by kernel_rfl) (fun _ _ _ h => h) (Or.inl ⟨by kernel_rfl, ?_⟩) (by assumption) ?_
  rotate_left
  · intro w hSw
    (try dsimp only at hSw)
    go_simp
    all_goals with_reducible rfl
  simp only [Act.put]
  refine wpAnyH_take (i := 6) (oi := _) (v := ?_) rfl (by kernel_rfl) (by kernel_rfl) (by kernel_rfl) (fun _ _ _ h => h) (Or.inl ⟨by kernel_rfl, ?_⟩) (by assumption) ?_
  rotate_left
  · intro w hSw
    (try dsimp only at hSw)
    go_simp
    all_goals with_reducible rfl
  simp only [Act.put]
  refine wpAnyH_take (i := 7) (oi := _) (v := ?_) rfl (by kernel_rfl) (by kernel_rfl) (by kernel_rfl) (fun _ _ _ h => h) (Or.inl ⟨by kernel_rfl, ?_⟩) (by assumption) ?_
  rotate_left
  · intro w hSw
    (try dsimp only at hSw)
    go_simp
    all_goals with_reducible rfl
  simp only [Act.put]
  refine wpAnyH_ready (rs := [4]) (by kernel_rfl) (by simp) ?_
  refine AllReadyH.cons (o := _) rfl (fun K hK => ?_) AllReadyH.nil
  go_simp
  refine hK.out _ _ hHeld (fun hHeld => ?_)
  clear hK
  refine wpAnyH_ready (rs := [8]) (by kernel_rfl) (by simp) ?_
  refine AllReadyH.cons (o := _) rfl (fun K hK => ?_) AllReadyH.nil
  go_simp
  refine Op.rrenew_any.mono ?_
  rw [HR.out]
  simp only [LE.val, LE.row]
  rintro _ y1 ⟨rfl, b1⟩
  have HP2 := hide (HP1.out.later b1)
  have HX2 := hide (below_box b1 HX1.out)
  clear b1 hHeld x0 x1 x2 x3 x4 u12 z12 u13 z13 u14 z14 u15 z15 u16 z16 u17 z17
  obtain ⟨_, _, _, _, _, x0, x1, x2, x3, x4⟩ := five HX2.out
  have u12 := cellB (i := 12) (v := .int .i64 l0) HP2.out.box rfl
  have u13 := cellB (i := 13) (v := .int .i64 l1) HP2.out.box rfl
  have u14 := cellB (i := 14) (v := .int .i64 l2) HP2.out.box rfl
  have u15 := cellB (i := 15) (v := .int .i64 l3) HP2.out.box rfl
  have u16 := cellB (i := 16) (v := .int .i64 l4) HP2.out.box rfl
  have u17 := cellB (i := 17) (v := .bool so) HP2.out.box rfl
  have z12 := frB (i := 12) HP2.out.box
  have z13 := frB (i := 13) HP2.out.box
  have z14 := frB (i := 14) HP2.out.box
  have z15 := frB (i := 15) HP2.out.box
  have z16 := frB (i := 16) HP2.out.box
  have z17 := frB (i := 17) HP2.out.box
  go_wp2_with fail
  refine hK.out _ _ x4 (fun hHeld => ?_)
  clear hK
  refine wpAnyH_take (i := 9) (oi := _) (v := ?_) rfl (by kernel_rfl) (by kernel_rfl) (by kernel_rfl) (fun _ _ _ h => h) (Or.inl ⟨by kernel_rfl, ?_⟩) (by assumption) ?_
  rotate_left
  · intro w hSw
    (try dsimp only at hSw)
    go_simp
    all_goals with_reducible rfl
  simp only [Act.put]
  refine wpAnyH_take (i := 10) (oi := _) (v := ?_) rfl (by kernel_rfl) (by kernel_rfl) (by kernel_rfl) (fun _ _ _ h => h) (Or.inl ⟨by kernel_rfl, ?_⟩) (by assumption) ?_
  rotate_left
  · intro w hSw
    (try dsimp only at hSw)
    go_simp
    all_goals with_reducible rfl
  simp only [Act.put]
  refine wpAnyH_take (i := 11) (oi := _) (v := ?_) rfl (by kernel_rfl) (by kernel_rfl) (by kernel_rfl) (fun _ _ _ h => h) (Or.inl ⟨by kernel_rfl, ?_⟩) (by assumption) ?_
  rotate_left
  · intro w hSw
    (try dsimp only at hSw)
    go_simp
    all_goals with_reducible rfl
  simp only [Act.put]
  refine wpAnyH_take (i := 12) (oi := _) (v := ?_) rfl (by kernel_rfl) (by kernel_rfl) (by kernel_rfl) (fun _ _ _ h => h) (Or.inl ⟨by kernel_rfl, ?_⟩) (by assumption) ?_
  rotate_left
  · intro w hSw
    (try dsimp only at hSw)
    go_simp
    all_goals with_reducible rfl
  simp only [Act.put]
  refine wpAnyH_take (i := 13) (oi := _) (v := ?_) rfl (by kernel_rfl) (by kernel_rfl) (by kernel_rfl) (fun _ _ _ h => h) (Or.inl ⟨by kernel_rfl, ?_⟩) (by assumption) ?_
  rotate_left
  · intro w hSw
    (try dsimp only at hSw)
    go_simp
    all_goals with_reducible rfl
  simp only [Act.put]
  refine wpAnyH_ready (rs := [14]) (by kernel_rfl) (by simp) ?_
  refine AllReadyH.cons (o := _) rfl (fun K hK => ?_) AllReadyH.nil
  go_simp
  refine hK.out _ _ (by go_keep) (fun hHeld => ?_)
  clear hK
  refine wpAnyH_ready (rs := [15]) (by kernel_rfl) (by simp) ?_
  refine AllReadyH.cons (o := _) rfl (fun K hK => ?_) AllReadyH.nil
  go_simp
  refine hK.out _ _ hHeld (fun hHeld => ?_)
  clear hK
  refine wpAnyH_done (by kernel_rfl) ?_ _
  obtain ⟨Y, hY⟩ : ∃ Y, Y = ((((((y1.setCell ⟨pB, 12, none⟩ (.int .i64 m0)).setCell ⟨pB, 13, none⟩ (.int .i64 m1)).setCell ⟨pB, 14, none⟩ (.int .i64 m2)).setCell ⟨pB, 15, none⟩ (.int .i64 m3)).setCell ⟨pB, 16, none⟩ (.int .i64 m4)).setCell ⟨pB, 17, none⟩ (.bool ms)) := ⟨_, rfl⟩
  have oY : Only (· = pB) y1 Y := by rw [hY]; exact (((((((Only.refl (· = pB) y1).trans (Only.set _ pB 12 (.int .i64 m0) rfl)).trans (Only.set _ pB 13 (.int .i64 m1) rfl)).trans (Only.set _ pB 14 (.int .i64 m2) rfl)).trans (Only.set _ pB 15 (.int .i64 m3) rfl)).trans (Only.set _ pB 16 (.int .i64 m4) rfl)).trans (Only.set _ pB 17 (.bool ms) rfl))
  have HP5 : Hid (PRep B W0 pB mA mB n ⟨⟨⟨c0, c1, c2, c3, c4, c5⟩, a0, b0, h0, f0⟩, ⟨⟨d0, d1, d2, d3, d4, d5⟩, a1, b1, h1, f1⟩, ⟨m0, m1, m2, m3, m4, ms⟩, bag, ck⟩ sp cap Y) := hide (HP2.out.put oY (by have HB := hide HP2.out.box; rw [hY]; exact (heap_set_sameL (heap_set_sameL (heap_set_sameL (heap_set_sameL (heap_set_sameL (heap_set_sameL HB.out 12 (.int .i64 m0)) 13 (.int .i64 m1)) 14 (.int .i64 m2)) 15 (.int .i64 m3)) 16 (.int .i64 m4)) 17 (.bool ms))) rfl rfl rfl)
  have HX5 := hide (oY.obj HX2.out (fun e => by have e' : xB = pB := e; have := HLT.out; omega))
  rw [← hY]
  clear hY oY HP0 HP1 HP2 HX0 HX1 HX2 hHeld B0 hne1 hne2 x0 x1 x2 x3 x4 u12 z12 u13 z13 u14 z14 u15 z15 u16 z16 u17 z17
  obtain ⟨_, _, _, _, _, x0, x1, x2, x3, x4⟩ := five HX5.out
  go_upto_region 20 with fail
  obtain ⟨Z, hZ⟩ : ∃ Z, Z = Y.alloc (.cells #[.int .i64 xr, .bool true, .int .i64 0, .int .i64 xs, .int .i64 xe] 64 (0, 0)) := ⟨_, rfl⟩
  have bZ : Below Y.heap.size Y Z := by rw [hZ]; exact alloc_below _ _
  obtain ⟨tB, htB⟩ : ∃ tB, Y.heap.size = tB := ⟨_, rfl⟩
  have ht : Z.heap[tB]? = some (.cells #[.int .i64 xr, .bool true, .int .i64 0, .int .i64 xs, .int .i64 xe] 64 (0, 0)) := by rw [hZ, ← htB]; exact heap_alloc_new Y _
  have HLT2 : Hid (pB < tB) := hide (by rw [← htB]; exact box_lt HP5.out.box)
  have HP6 := hide (HP5.out.later bZ)
  have HBT : Hid (∀ i, (Value.slice sp bag.length cap).ownBlock = some i → i ≠ tB) := hide (fun i hi e => by obtain ⟨_, cur, h3⟩ := own_block_lt HP5.out.bag hi; have := box_lt h3; omega)
  rw [← hZ]
  try rw [htB]
  clear hZ htB bZ HP5 x0 x1 x2 x3 x4
  obtain ⟨z0, z1, z2, z3, z4, t0, t1, t2, t3, t4⟩ := five ht
  go_upto_region 22 with fail
  obtain ⟨Q, hQ⟩ : ∃ Q, Q = Z.setCell ⟨tB, 2, none⟩ (.int .i64 1) := ⟨_, rfl⟩
  have oQ : Only (· = tB) Z Q := by rw [hQ]; exact Only.set _ tB 2 _ rfl
  have hq : Q.heap[tB]? = some (.cells #[.int .i64 xr, .bool true, .int .i64 1, .int .i64 xs, .int .i64 xe] 64 (0, 0)) := by rw [hQ]; exact heap_set_sameL ht 2 _
  have HP7 := hide (HP6.out.onlyT oQ HLT2.out ⟨_, ht⟩ HBT.out)
  rw [← hQ]
  clear hQ oQ ht HP6 z0 z1 z2 z3 z4 t0 t1 t2 t3 t4
  obtain ⟨_, _, _, _, _, t0, t1, t2, t3, t4⟩ := five hq
  have HQB := hide hq
  clear hq
  have u18 := cellB (i := 18) (v := .slice sp bag.length cap) HP7.out.box rfl
  have z18 := frB (i := 18) HP7.out.box
  have hne1 : pB ≠ tB := by have := HLT2.out; omega
  have hne2 : tB ≠ pB := hne1.symm
  have HBIG := hide hbig
  clear hbig
  obtain ⟨j0, hj0, hj1, hj2, hj3⟩ := info_partsL Try.infoLT
  refine wp_region_held_drew (S := fun w' => w'.cell? ⟨tB, 0, none⟩ = some (.int .i64 xr) ∧ w'.cell? ⟨tB, 1, none⟩ = some (.bool true) ∧ w'.cell? ⟨tB, 2, none⟩ = some (.int .i64 1) ∧ w'.cell? ⟨tB, 3, none⟩ = some (.int .i64 xs) ∧ w'.cell? ⟨tB, 4, none⟩ = some (.int .i64 xe)) (by kernel_rfl) ⟨t0, t1, t2, t3, t4⟩ (fun hHeld => ?_)
  refine wpAnyH_take (i := 0) (oi := _) (v := ?_) rfl (by kernel_rfl) (by kernel_rfl) (by kernel_rfl) (fun _ _ _ h => h) (Or.inl ⟨by kernel_rfl, ?_⟩) (by assumption) ?_
  rotate_left
  · intro w hSw
    (try dsimp only at hSw)
    go_simp
    all_goals with_reducible rfl
  simp only [Act.put]
  refine wpAnyH_take (i := 1) (oi := _) (v := ?_) rfl (by kernel_rfl) (by kernel_rfl) (by kernel_rfl) (fun _ _ _ h => h) (Or.inl ⟨by kernel_rfl, ?_⟩) (by assumption) ?_
  rotate_left
  · intro w hSw
    (try dsimp only at hSw)
    go_simp
    all_goals with_reducible rfl
  simp only [Act.put]
  refine wpAnyH_take (i := 2) (oi := _) (v := ?_) rfl (by kernel_rfl) (by kernel_rfl) (by kernel_rfl) (fun _ _ _ h => h) (Or.inl ⟨by kernel_rfl, ?_⟩) (by assumption) ?_
  rotate_left
  · intro w hSw
    (try dsimp only at hSw)
    go_simp
    all_goals with_reducible rfl
  simp only [Act.put]
  refine wpAnyH_take (i := 3) (oi := _) (v := ?_) rfl (by kernel_rfl) (by kernel_rfl) (by kernel_rfl) (fun _ _ _ h => h) (Or.inl ⟨by kernel_rfl, ?_⟩) (by assumption) ?_
  rotate_left
  · intro w hSw
    (try dsimp only at hSw)
    go_simp
    all_goals with_reducible rfl
  simp only [Act.put]
  refine wpAnyH_take (i := 5) (oi := _) (v := ?_) rfl (by kernel_rfl) (by kernel_rfl) (by kernel_rfl) (fun _ _ _ h => h) (Or.inl ⟨by kernel_rfl, ?_⟩) (by assumption) ?_
  rotate_left
  · intro w hSw
    (try dsimp only at hSw)
    go_simp
    all_goals with_reducible rfl
  simp only [Act.put]
  refine wpAnyH_ready (rs := [4, 6]) (by kernel_rfl) (by simp) ?_
  refine AllReadyH.cons (o := _) rfl (fun K hK => ?_) (AllReadyH.cons (o := _) rfl (fun K hK => ?_) AllReadyH.nil)
  · go_simp
    refine hK.out _ _ hHeld (fun hHeld => ?_)
    clear hK
    refine wpAnyH_ready (rs := [6]) (by kernel_rfl) (by simp) ?_
    refine AllReadyH.cons (o := _) rfl (fun K hK => ?_) AllReadyH.nil
    go_simp
    refine hK.out _ _ (by go_keep) (fun hHeld => ?_)
    clear hK
    obtain ⟨R, hR⟩ : ∃ R, R = Q.alloc (.cells #[.int .i64 xr, .bool true, .int .i64 1, .int .i64 xs, .int .i64 xe] 64 (0, 0)) := ⟨_, rfl⟩
    have bR : Below Q.heap.size Q R := by rw [hR]; exact alloc_below _ _
    obtain ⟨nB, hnB⟩ : ∃ nB, Q.heap.size = nB := ⟨_, rfl⟩
    have HSG : Hid (Seg R 5 (.slice (some ⟨nB, 0, none⟩) 1 1) 1 [.int .i64 xr, .bool true, .int .i64 1, .int .i64 xs, .int .i64 xe]) := hide (by rw [hR, ← hnB]; exact Seg.news (heap_alloc_new Q _) (by simp [Value.oneCell']) rfl (Nat.le_refl _) (by decide))
    have HP8 := hide (HP7.out.later bR)
    have HT8 := hide (below_box bR HQB.out)
    rw [← hR] at hHeld
    rw [← hR]
    try rw [hnB]
    clear hR hnB bR
    refine wpAnyH_ready (rs := [7]) (by kernel_rfl) (by simp) ?_
    refine AllReadyH.cons (o := _) rfl (fun K hK => ?_) AllReadyH.nil
    refine step_append_cells rfl (.tmp 154) (.tmp 156) 42 rfl B 64 j0 (.agg #[.int .i64 0, .bool false, .int .i64 0, .int .i64 0, .int .i64 0]) 5 40 Try.underlying42 hj0 hj1 hj2 hj3 rfl (by decide) (.slice sp bag.length cap) bag.length _ rfl HP8.out.bag.drew (.slice (some ⟨nB, 0, none⟩) 1 1) 1 _ rfl HSG.out (by have := HBIG.out; unfold maxLen; omega) (by have := HBIG.out; omega) (Nat.le_trans HP8.out.ne.2.1 (Nat.le_of_lt (box_lt HP8.out.box))) ?_
    intro p6 c6 w6 o6 g6
    have HP9 := hide (HP8.out.later ((Below.refl _ R).drew))
    have HF := hide (HP9.out.app (y := ⟨xr, true, 1, xs, xe⟩) o6 g6)
    have ho6 : Only (fun i => (Value.slice sp bag.length cap).ownBlock = some i) R.drew w6 := Only.of_grown g6 (fun k e => e)
    have hb6 := ho6.obj HP9.out.box (fun e => bag_box HP9.out.bag HP9.out.box (by decide) _ e rfl)
    have ht6 := ho6.obj HT8.out (fun e => HBT.out _ e rfl)
    clear o6 g6 ho6 hHeld t0 t1 t2 t3 t4 u18 z18
    obtain ⟨_, _, _, _, _, t0, t1, t2, t3, t4⟩ := five ht6
    have u18 := cellB (i := 18) (v := .slice sp bag.length cap) hb6 rfl
    have z18 := frB (i := 18) hb6
    refine hK.out _ _ ⟨t0, t1, t2, t3, t4⟩ (fun hHeld => ?_)
    clear hK
    refine wpAnyH_take (i := 8) (oi := _) (v := ?_) rfl (by kernel_rfl) (by kernel_rfl) (by kernel_rfl) (fun _ _ _ h => h) (Or.inl ⟨by kernel_rfl, ?_⟩) (by assumption) ?_
    rotate_left
    · intro w hSw
      (try dsimp only at hSw)
      go_simp
      all_goals with_reducible rfl
    simp only [Act.put]
    refine wpAnyH_take (i := 9) (oi := _) (v := ?_) rfl (by kernel_rfl) (by kernel_rfl) (by kernel_rfl) (fun _ _ _ h => h) (Or.inl ⟨by kernel_rfl, ?_⟩) (by assumption) ?_
    rotate_left
    · intro w hSw
      (try dsimp only at hSw)
      go_simp
      all_goals with_reducible rfl
    simp only [Act.put]
    refine wpAnyH_ready (rs := [10]) (by kernel_rfl) (by simp) ?_
    refine AllReadyH.cons (o := _) rfl (fun K hK => ?_) AllReadyH.nil
    go_simp
    refine hK.out _ _ (by go_keep) (fun hHeld => ?_)
    clear hK
    refine wpAnyH_done (by kernel_rfl) ?_ _
    go_wp2
    refine bodyPost_end (results_none rfl _ _ _) rfl ?_
    exact ⟨rfl, p6, c6, HF.out⟩
  · go_simp
    refine hK.out _ _ (by go_keep) (fun hHeld => ?_)
    clear hK
    obtain ⟨R, hR⟩ : ∃ R, R = Q.alloc (.cells #[.int .i64 xr, .bool true, .int .i64 1, .int .i64 xs, .int .i64 xe] 64 (0, 0)) := ⟨_, rfl⟩
    have bR : Below Q.heap.size Q R := by rw [hR]; exact alloc_below _ _
    obtain ⟨nB, hnB⟩ : ∃ nB, Q.heap.size = nB := ⟨_, rfl⟩
    have HSG : Hid (Seg R 5 (.slice (some ⟨nB, 0, none⟩) 1 1) 1 [.int .i64 xr, .bool true, .int .i64 1, .int .i64 xs, .int .i64 xe]) := hide (by rw [hR, ← hnB]; exact Seg.news (heap_alloc_new Q _) (by simp [Value.oneCell']) rfl (Nat.le_refl _) (by decide))
    have HP8 := hide (HP7.out.later bR)
    have HT8 := hide (below_box bR HQB.out)
    rw [← hR] at hHeld
    rw [← hR]
    try rw [hnB]
    clear hR hnB bR
    have v18 := cellB (i := 18) (v := .slice sp bag.length cap) HP8.out.box rfl
    refine wpAnyH_ready (rs := [4]) (by kernel_rfl) (by simp) ?_
    refine AllReadyH.cons (o := _) rfl (fun K hK => ?_) AllReadyH.nil
    go_simp
    refine hK.out _ _ hHeld (fun hHeld => ?_)
    clear hK
    refine wpAnyH_ready (rs := [7]) (by kernel_rfl) (by simp) ?_
    refine AllReadyH.cons (o := _) rfl (fun K hK => ?_) AllReadyH.nil
    refine step_append_cells rfl (.tmp 154) (.tmp 156) 42 rfl B 64 j0 (.agg #[.int .i64 0, .bool false, .int .i64 0, .int .i64 0, .int .i64 0]) 5 40 Try.underlying42 hj0 hj1 hj2 hj3 rfl (by decide) (.slice sp bag.length cap) bag.length _ rfl HP8.out.bag.drew (.slice (some ⟨nB, 0, none⟩) 1 1) 1 _ rfl HSG.out (by have := HBIG.out; unfold maxLen; omega) (by have := HBIG.out; omega) (Nat.le_trans HP8.out.ne.2.1 (Nat.le_of_lt (box_lt HP8.out.box))) ?_
    intro p6 c6 w6 o6 g6
    have HP9 := hide (HP8.out.later ((Below.refl _ R).drew))
    have HF := hide (HP9.out.app (y := ⟨xr, true, 1, xs, xe⟩) o6 g6)
    have ho6 : Only (fun i => (Value.slice sp bag.length cap).ownBlock = some i) R.drew w6 := Only.of_grown g6 (fun k e => e)
    have hb6 := ho6.obj HP9.out.box (fun e => bag_box HP9.out.bag HP9.out.box (by decide) _ e rfl)
    have ht6 := ho6.obj HT8.out (fun e => HBT.out _ e rfl)
    clear o6 g6 ho6 hHeld t0 t1 t2 t3 t4 u18 z18
    obtain ⟨_, _, _, _, _, t0, t1, t2, t3, t4⟩ := five ht6
    have u18 := cellB (i := 18) (v := .slice sp bag.length cap) hb6 rfl
    have z18 := frB (i := 18) hb6
    refine hK.out _ _ ⟨t0, t1, t2, t3, t4⟩ (fun hHeld => ?_)
    clear hK
    refine wpAnyH_take (i := 8) (oi := _) (v := ?_) rfl (by kernel_rfl) (by kernel_rfl) (by kernel_rfl) (fun _ _ _ h => h) (Or.inl ⟨by kernel_rfl, ?_⟩) (by assumption) ?_
    rotate_left
    · intro w hSw
      (try dsimp only at hSw)
      go_simp
      all_goals with_reducible rfl
    simp only [Act.put]
    refine wpAnyH_take (i := 9) (oi := _) (v := ?_) rfl (by kernel_rfl) (by kernel_rfl) (by kernel_rfl) (fun _ _ _ h => h) (Or.inl ⟨by kernel_rfl, ?_⟩) (by assumption) ?_
    rotate_left
    · intro w hSw
      (try dsimp only at hSw)
      go_simp
      all_goals with_reducible rfl
    simp only [Act.put]
    refine wpAnyH_ready (rs := [10]) (by kernel_rfl) (by simp) ?_
    refine AllReadyH.cons (o := _) rfl (fun K hK => ?_) AllReadyH.nil
    go_simp
    refine hK.out _ _ (by go_keep) (fun hHeld => ?_)
    clear hK
    refine wpAnyH_done (by kernel_rfl) ?_ _
    go_wp2
    refine bodyPost_end (results_none rfl _ _ _) rfl ?_
    exact ⟨rfl, p6, c6, HF.out⟩
set_option maxRecDepth 100000 in
set_option maxHeartbeats 8000000 in
theorem com_ren0 {W : World} {B pB mA mB n cap : Nat} {sp : Option Addr} {W0 : World} {c0 c1 c2 c3 c4 c5 d0 d1 d2 d3 d4 d5 a0 b0 a1 b1 l0 l1 l2 l3 l4 ck : Int} {h0 h1 so : Bool} {f0 f1 : Int → Int × Int} {bag : List LT} {xr xs xe m0 m1 m2 m3 m4 er : Int} {ms : Bool} (hP : PRep B W0 pB mA mB n ⟨⟨⟨c0, c1, c2, c3, c4, c5⟩, a0, b0, h0, f0⟩, ⟨⟨d0, d1, d2, d3, d4, d5⟩, a1, b1, h1, f1⟩, ⟨l0, l1, l2, l3, l4, so⟩, bag, ck⟩ sp cap W) (hbig : bag.length ≤ 1000) (hr : Op.renewC ⟨l0, l1, l2, l3, l4, so⟩ xr xe = (⟨m0, m1, m2, m3, m4, ms⟩, er)) (he : er ≠ 0) :
    Calls Try.prog 39 #[.pointer (some ⟨pB, 0, none⟩), .agg #[.int .i64 xr, .bool false, .int .i64 2, .int .i64 xs, .int .i64 xe]] W fun e w' => e = .returned (.tuple #[]) ∧ ∃ sp' cap', PRep B W0 pB mA mB n (comC ⟨⟨⟨c0, c1, c2, c3, c4, c5⟩, a0, b0, h0, f0⟩, ⟨⟨d0, d1, d2, d3, d4, d5⟩, a1, b1, h1, f1⟩, ⟨l0, l1, l2, l3, l4, so⟩, bag, ck⟩ ⟨xr, false, 2, xs, xe⟩) sp' cap' w' := by
  have HR := hide hr
  have HQ : Hid (comC ⟨⟨⟨c0, c1, c2, c3, c4, c5⟩, a0, b0, h0, f0⟩, ⟨⟨d0, d1, d2, d3, d4, d5⟩, a1, b1, h1, f1⟩, ⟨l0, l1, l2, l3, l4, so⟩, bag, ck⟩ ⟨xr, false, 2, xs, xe⟩ = addP ⟨⟨⟨c0, c1, c2, c3, c4, c5⟩, a0, b0, h0, f0⟩, ⟨⟨d0, d1, d2, d3, d4, d5⟩, a1, b1, h1, f1⟩, ⟨m0, m1, m2, m3, m4, ms⟩, bag, ck⟩ ⟨xr, true, 0, xs, xe⟩) := hide (by
    unfold comC PL.lay addP
    rw [if_neg (by simp), if_neg (by simp), if_pos rfl]
    simp only
    rw [hr]
    simp only [if_neg he])
  rw [HQ.out]
  have hd : (er == 0) = false := ne_eqL he
  clear he
  clear hr
  obtain ⟨V, hV⟩ : ∃ V, V = W.alloc (.cells #[.int .i64 xr, .bool false, .int .i64 2, .int .i64 xs, .int .i64 xe] 64 (0, 0)) := ⟨_, rfl⟩
  have bV : Below W.heap.size W V := by rw [hV]; exact alloc_below _ _
  have hx : V.heap[W.heap.size]? = some (.cells #[.int .i64 xr, .bool false, .int .i64 2, .int .i64 xs, .int .i64 xe] 64 (0, 0)) := by rw [hV]; exact heap_alloc_new W _
  obtain ⟨xB, hxB⟩ : ∃ xB, W.heap.size = xB := ⟨_, rfl⟩
  have hlt : pB < xB := by rw [← hxB]; exact box_lt hP.box
  have HLT : Hid (pB < xB) := hide hlt
  rw [hxB] at hx
  have HX0 := hide hx
  have HP0 := hide (hP.later bV)
  clear hx bV hP hlt
  go_enter Try.func39, Try.ntmps39
  go_upto_region 1 with fail
  rw [← hV]
  try rw [hxB]
  clear hV hxB
  obtain ⟨_, _, _, _, _, x0, x1, x2, x3, x4⟩ := five HX0.out
  have u12 := cellB (i := 12) (v := .int .i64 l0) HP0.out.box rfl
  have u13 := cellB (i := 13) (v := .int .i64 l1) HP0.out.box rfl
  have u14 := cellB (i := 14) (v := .int .i64 l2) HP0.out.box rfl
  have u15 := cellB (i := 15) (v := .int .i64 l3) HP0.out.box rfl
  have u16 := cellB (i := 16) (v := .int .i64 l4) HP0.out.box rfl
  have u17 := cellB (i := 17) (v := .bool so) HP0.out.box rfl
  have z12 := frB (i := 12) HP0.out.box
  have z13 := frB (i := 13) HP0.out.box
  have z14 := frB (i := 14) HP0.out.box
  have z15 := frB (i := 15) HP0.out.box
  have z16 := frB (i := 16) HP0.out.box
  have z17 := frB (i := 17) HP0.out.box
  have hne1 : pB ≠ xB := by have := HLT.out; omega
  have hne2 : xB ≠ pB := hne1.symm
  have B0 : Below V.heap.size V V.drew := (Below.refl _ V).drew
  have HP1 := hide (HP0.out.later B0)
  have HX1 := hide (below_box B0 HX0.out)
  go_upto_region 16 with fail
  refine wp_region_held_drew (S := fun w' => w'.cell? ⟨xB, 4, none⟩ = some (.int .i64 xe)) (by kernel_rfl) x4 (fun hHeld => ?_)
  refine wpAnyH_take (i := 0) (oi := _) (v := ?_) rfl (by kernel_rfl) (by kernel_rfl) (by kernel_rfl) (fun _ _ _ h => h) (Or.inl ⟨by kernel_rfl, ?_⟩) (by assumption) ?_
  rotate_left
  · intro w hSw
    (try dsimp only at hSw)
    go_simp
    all_goals with_reducible rfl
  simp only [Act.put]
  refine wpAnyH_take (i := 1) (oi := _) (v := ?_) rfl (by kernel_rfl) (by kernel_rfl) (by kernel_rfl) (fun _ _ _ h => h) (Or.inl ⟨by kernel_rfl, ?_⟩) (by assumption) ?_
  rotate_left
  · intro w hSw
    (try dsimp only at hSw)
    go_simp
    all_goals with_reducible rfl
  simp only [Act.put]
  refine wpAnyH_take (i := 2) (oi := _) (v := ?_) rfl (by kernel_rfl) (by kernel_rfl) (by kernel_rfl) (fun _ _ _ h => h) (Or.inl ⟨by kernel_rfl, ?_⟩) (by assumption) ?_
  rotate_left
  · intro w hSw
    (try dsimp only at hSw)
    go_simp
    all_goals with_reducible rfl
  simp only [Act.put]
  refine wpAnyH_take (i := 3) (oi := _) (v := ?_) rfl (by kernel_rfl) (by kernel_rfl) (by kernel_rfl) (fun _ _ _ h => h) (Or.inl ⟨by kernel_rfl, ?_⟩) (by assumption) ?_
  rotate_left
  · intro w hSw
    (try dsimp only at hSw)
    go_simp
    all_goals with_reducible rfl
  simp only [Act.put]
  refine wpAnyH_take (i := 5) (oi := _) (v := ?_) rfl (by kernel_rfl) (by kernel_rfl) (by kernel_rfl) (fun _ _ _ h => h) (Or.inl ⟨by kernel_rfl, ?_⟩) (by assumption) ?_
  rotate_left
  · intro w hSw
    (try dsimp only at hSw)
    go_simp
    all_goals with_reducible rfl
  simp only [Act.put]
  refine wpAnyH_take (i := 6) (oi := _) (v := ?_) rfl (by kernel_rfl) (by kernel_rfl) (by kernel_rfl) (fun _ _ _ h => h) (Or.inl ⟨by kernel_rfl, ?_⟩) (by assumption) ?_
  rotate_left
  · intro w hSw
    (try dsimp only at hSw)
    go_simp
    all_goals with_reducible rfl
  simp only [Act.put]
  refine wpAnyH_take (i := 7) (oi := _) (v := ?_) rfl (by kernel_rfl) (by kernel_rfl) (by kernel_rfl) (fun _ _ _ h => h) (Or.inl ⟨by kernel_rfl, ?_⟩) (by assumption) ?_
  rotate_left
  · intro w hSw
    (try dsimp only at hSw)
    go_simp
    all_goals with_reducible rfl
  simp only [Act.put]
  refine wpAnyH_ready (rs := [4]) (by kernel_rfl) (by simp) ?_
  refine AllReadyH.cons (o := _) rfl (fun K hK => ?_) AllReadyH.nil
  go_simp
  refine hK.out _ _ hHeld (fun hHeld => ?_)
  clear hK
  refine wpAnyH_ready (rs := [8]) (by kernel_rfl) (by simp) ?_
  refine AllReadyH.cons (o := _) rfl (fun K hK => ?_) AllReadyH.nil
  go_simp
  refine Op.rrenew_any.mono ?_
  rw [HR.out]
  simp only [LE.val, LE.row]
  rintro _ y1 ⟨rfl, b1⟩
  have HP2 := hide (HP1.out.later b1)
  have HX2 := hide (below_box b1 HX1.out)
  clear b1 hHeld x0 x1 x2 x3 x4 u12 z12 u13 z13 u14 z14 u15 z15 u16 z16 u17 z17
  obtain ⟨_, _, _, _, _, x0, x1, x2, x3, x4⟩ := five HX2.out
  have u12 := cellB (i := 12) (v := .int .i64 l0) HP2.out.box rfl
  have u13 := cellB (i := 13) (v := .int .i64 l1) HP2.out.box rfl
  have u14 := cellB (i := 14) (v := .int .i64 l2) HP2.out.box rfl
  have u15 := cellB (i := 15) (v := .int .i64 l3) HP2.out.box rfl
  have u16 := cellB (i := 16) (v := .int .i64 l4) HP2.out.box rfl
  have u17 := cellB (i := 17) (v := .bool so) HP2.out.box rfl
  have z12 := frB (i := 12) HP2.out.box
  have z13 := frB (i := 13) HP2.out.box
  have z14 := frB (i := 14) HP2.out.box
  have z15 := frB (i := 15) HP2.out.box
  have z16 := frB (i := 16) HP2.out.box
  have z17 := frB (i := 17) HP2.out.box
  go_wp2_with fail
  refine hK.out _ _ x4 (fun hHeld => ?_)
  clear hK
  refine wpAnyH_take (i := 9) (oi := _) (v := ?_) rfl (by kernel_rfl) (by kernel_rfl) (by kernel_rfl) (fun _ _ _ h => h) (Or.inl ⟨by kernel_rfl, ?_⟩) (by assumption) ?_
  rotate_left
  · intro w hSw
    (try dsimp only at hSw)
    go_simp
    all_goals with_reducible rfl
  simp only [Act.put]
  refine wpAnyH_take (i := 10) (oi := _) (v := ?_) rfl (by kernel_rfl) (by kernel_rfl) (by kernel_rfl) (fun _ _ _ h => h) (Or.inl ⟨by kernel_rfl, ?_⟩) (by assumption) ?_
  rotate_left
  · intro w hSw
    (try dsimp only at hSw)
    go_simp
    all_goals with_reducible rfl
  simp only [Act.put]
  refine wpAnyH_take (i := 11) (oi := _) (v := ?_) rfl (by kernel_rfl) (by kernel_rfl) (by kernel_rfl) (fun _ _ _ h => h) (Or.inl ⟨by kernel_rfl, ?_⟩) (by assumption) ?_
  rotate_left
  · intro w hSw
    (try dsimp only at hSw)
    go_simp
    all_goals with_reducible rfl
  simp only [Act.put]
  refine wpAnyH_take (i := 12) (oi := _) (v := ?_) rfl (by kernel_rfl) (by kernel_rfl) (by kernel_rfl) (fun _ _ _ h => h) (Or.inl ⟨by kernel_rfl, ?_⟩) (by assumption) ?_
  rotate_left
  · intro w hSw
    (try dsimp only at hSw)
    go_simp
    all_goals with_reducible rfl
  simp only [Act.put]
  refine wpAnyH_take (i := 13) (oi := _) (v := ?_) rfl (by kernel_rfl) (by kernel_rfl) (by kernel_rfl) (fun _ _ _ h => h) (Or.inl ⟨by kernel_rfl, ?_⟩) (by assumption) ?_
  rotate_left
  · intro w hSw
    (try dsimp only at hSw)
    go_simp
    all_goals with_reducible rfl
  simp only [Act.put]
  refine wpAnyH_ready (rs := [14]) (by kernel_rfl) (by simp) ?_
  refine AllReadyH.cons (o := _) rfl (fun K hK => ?_) AllReadyH.nil
  go_simp
  refine hK.out _ _ (by go_keep) (fun hHeld => ?_)
  clear hK
  refine wpAnyH_ready (rs := [15]) (by kernel_rfl) (by simp) ?_
  refine AllReadyH.cons (o := _) rfl (fun K hK => ?_) AllReadyH.nil
  go_simp
  refine hK.out _ _ hHeld (fun hHeld => ?_)
  clear hK
  refine wpAnyH_done (by kernel_rfl) ?_ _
  obtain ⟨Y, hY⟩ : ∃ Y, Y = ((((((y1.setCell ⟨pB, 12, none⟩ (.int .i64 m0)).setCell ⟨pB, 13, none⟩ (.int .i64 m1)).setCell ⟨pB, 14, none⟩ (.int .i64 m2)).setCell ⟨pB, 15, none⟩ (.int .i64 m3)).setCell ⟨pB, 16, none⟩ (.int .i64 m4)).setCell ⟨pB, 17, none⟩ (.bool ms)) := ⟨_, rfl⟩
  have oY : Only (· = pB) y1 Y := by rw [hY]; exact (((((((Only.refl (· = pB) y1).trans (Only.set _ pB 12 (.int .i64 m0) rfl)).trans (Only.set _ pB 13 (.int .i64 m1) rfl)).trans (Only.set _ pB 14 (.int .i64 m2) rfl)).trans (Only.set _ pB 15 (.int .i64 m3) rfl)).trans (Only.set _ pB 16 (.int .i64 m4) rfl)).trans (Only.set _ pB 17 (.bool ms) rfl))
  have HP5 : Hid (PRep B W0 pB mA mB n ⟨⟨⟨c0, c1, c2, c3, c4, c5⟩, a0, b0, h0, f0⟩, ⟨⟨d0, d1, d2, d3, d4, d5⟩, a1, b1, h1, f1⟩, ⟨m0, m1, m2, m3, m4, ms⟩, bag, ck⟩ sp cap Y) := hide (HP2.out.put oY (by have HB := hide HP2.out.box; rw [hY]; exact (heap_set_sameL (heap_set_sameL (heap_set_sameL (heap_set_sameL (heap_set_sameL (heap_set_sameL HB.out 12 (.int .i64 m0)) 13 (.int .i64 m1)) 14 (.int .i64 m2)) 15 (.int .i64 m3)) 16 (.int .i64 m4)) 17 (.bool ms))) rfl rfl rfl)
  have HX5 := hide (oY.obj HX2.out (fun e => by have e' : xB = pB := e; have := HLT.out; omega))
  rw [← hY]
  clear hY oY HP0 HP1 HP2 HX0 HX1 HX2 hHeld B0 hne1 hne2 x0 x1 x2 x3 x4 u12 z12 u13 z13 u14 z14 u15 z15 u16 z16 u17 z17
  obtain ⟨_, _, _, _, _, x0, x1, x2, x3, x4⟩ := five HX5.out
  go_upto_region 20 with fail
  obtain ⟨Z, hZ⟩ : ∃ Z, Z = Y.alloc (.cells #[.int .i64 xr, .bool true, .int .i64 0, .int .i64 xs, .int .i64 xe] 64 (0, 0)) := ⟨_, rfl⟩
  have bZ : Below Y.heap.size Y Z := by rw [hZ]; exact alloc_below _ _
  obtain ⟨tB, htB⟩ : ∃ tB, Y.heap.size = tB := ⟨_, rfl⟩
  have ht : Z.heap[tB]? = some (.cells #[.int .i64 xr, .bool true, .int .i64 0, .int .i64 xs, .int .i64 xe] 64 (0, 0)) := by rw [hZ, ← htB]; exact heap_alloc_new Y _
  have HLT2 : Hid (pB < tB) := hide (by rw [← htB]; exact box_lt HP5.out.box)
  have HP6 := hide (HP5.out.later bZ)
  have HBT : Hid (∀ i, (Value.slice sp bag.length cap).ownBlock = some i → i ≠ tB) := hide (fun i hi e => by obtain ⟨_, cur, h3⟩ := own_block_lt HP5.out.bag hi; have := box_lt h3; omega)
  rw [← hZ]
  try rw [htB]
  clear hZ htB bZ HP5 x0 x1 x2 x3 x4
  obtain ⟨z0, z1, z2, z3, z4, t0, t1, t2, t3, t4⟩ := five ht
  go_upto_region 22 with fail
  have HP7 := HP6
  have hq := ht
  obtain ⟨Q, hQ⟩ : ∃ Q, Q = Z := ⟨_, rfl⟩
  rw [← hQ] at HP7 hq t0 t1 t2 t3 t4
  rw [← hQ]
  clear hQ HP6 ht z0 z1 z2 z3 z4
  have HQB := hide hq
  clear hq
  have u18 := cellB (i := 18) (v := .slice sp bag.length cap) HP7.out.box rfl
  have z18 := frB (i := 18) HP7.out.box
  have hne1 : pB ≠ tB := by have := HLT2.out; omega
  have hne2 : tB ≠ pB := hne1.symm
  have HBIG := hide hbig
  clear hbig
  obtain ⟨j0, hj0, hj1, hj2, hj3⟩ := info_partsL Try.infoLT
  refine wp_region_held_drew (S := fun w' => w'.cell? ⟨tB, 0, none⟩ = some (.int .i64 xr) ∧ w'.cell? ⟨tB, 1, none⟩ = some (.bool true) ∧ w'.cell? ⟨tB, 2, none⟩ = some (.int .i64 0) ∧ w'.cell? ⟨tB, 3, none⟩ = some (.int .i64 xs) ∧ w'.cell? ⟨tB, 4, none⟩ = some (.int .i64 xe)) (by kernel_rfl) ⟨t0, t1, t2, t3, t4⟩ (fun hHeld => ?_)
  refine wpAnyH_take (i := 0) (oi := _) (v := ?_) rfl (by kernel_rfl) (by kernel_rfl) (by kernel_rfl) (fun _ _ _ h => h) (Or.inl ⟨by kernel_rfl, ?_⟩) (by assumption) ?_
  rotate_left
  · intro w hSw
    (try dsimp only at hSw)
    go_simp
    all_goals with_reducible rfl
  simp only [Act.put]
  refine wpAnyH_take (i := 1) (oi := _) (v := ?_) rfl (by kernel_rfl) (by kernel_rfl) (by kernel_rfl) (fun _ _ _ h => h) (Or.inl ⟨by kernel_rfl, ?_⟩) (by assumption) ?_
  rotate_left
  · intro w hSw
    (try dsimp only at hSw)
    go_simp
    all_goals with_reducible rfl
  simp only [Act.put]
  refine wpAnyH_take (i := 2) (oi := _) (v := ?_) rfl (by kernel_rfl) (by kernel_rfl) (by kernel_rfl) (fun _ _ _ h => h) (Or.inl ⟨by kernel_rfl, ?_⟩) (by assumption) ?_
  rotate_left
  · intro w hSw
    (try dsimp only at hSw)
    go_simp
    all_goals with_reducible rfl
  simp only [Act.put]
  refine wpAnyH_take (i := 3) (oi := _) (v := ?_) rfl (by kernel_rfl) (by kernel_rfl) (by kernel_rfl) (fun _ _ _ h => h) (Or.inl ⟨by kernel_rfl, ?_⟩) (by assumption) ?_
  rotate_left
  · intro w hSw
    (try dsimp only at hSw)
    go_simp
    all_goals with_reducible rfl
  simp only [Act.put]
  refine wpAnyH_take (i := 5) (oi := _) (v := ?_) rfl (by kernel_rfl) (by kernel_rfl) (by kernel_rfl) (fun _ _ _ h => h) (Or.inl ⟨by kernel_rfl, ?_⟩) (by assumption) ?_
  rotate_left
  · intro w hSw
    (try dsimp only at hSw)
    go_simp
    all_goals with_reducible rfl
  simp only [Act.put]
  refine wpAnyH_ready (rs := [4, 6]) (by kernel_rfl) (by simp) ?_
  refine AllReadyH.cons (o := _) rfl (fun K hK => ?_) (AllReadyH.cons (o := _) rfl (fun K hK => ?_) AllReadyH.nil)
  · go_simp
    refine hK.out _ _ hHeld (fun hHeld => ?_)
    clear hK
    refine wpAnyH_ready (rs := [6]) (by kernel_rfl) (by simp) ?_
    refine AllReadyH.cons (o := _) rfl (fun K hK => ?_) AllReadyH.nil
    go_simp
    refine hK.out _ _ (by go_keep) (fun hHeld => ?_)
    clear hK
    obtain ⟨R, hR⟩ : ∃ R, R = Q.alloc (.cells #[.int .i64 xr, .bool true, .int .i64 0, .int .i64 xs, .int .i64 xe] 64 (0, 0)) := ⟨_, rfl⟩
    have bR : Below Q.heap.size Q R := by rw [hR]; exact alloc_below _ _
    obtain ⟨nB, hnB⟩ : ∃ nB, Q.heap.size = nB := ⟨_, rfl⟩
    have HSG : Hid (Seg R 5 (.slice (some ⟨nB, 0, none⟩) 1 1) 1 [.int .i64 xr, .bool true, .int .i64 0, .int .i64 xs, .int .i64 xe]) := hide (by rw [hR, ← hnB]; exact Seg.news (heap_alloc_new Q _) (by simp [Value.oneCell']) rfl (Nat.le_refl _) (by decide))
    have HP8 := hide (HP7.out.later bR)
    have HT8 := hide (below_box bR HQB.out)
    rw [← hR] at hHeld
    rw [← hR]
    try rw [hnB]
    clear hR hnB bR
    refine wpAnyH_ready (rs := [7]) (by kernel_rfl) (by simp) ?_
    refine AllReadyH.cons (o := _) rfl (fun K hK => ?_) AllReadyH.nil
    refine step_append_cells rfl (.tmp 154) (.tmp 156) 42 rfl B 64 j0 (.agg #[.int .i64 0, .bool false, .int .i64 0, .int .i64 0, .int .i64 0]) 5 40 Try.underlying42 hj0 hj1 hj2 hj3 rfl (by decide) (.slice sp bag.length cap) bag.length _ rfl HP8.out.bag.drew (.slice (some ⟨nB, 0, none⟩) 1 1) 1 _ rfl HSG.out (by have := HBIG.out; unfold maxLen; omega) (by have := HBIG.out; omega) (Nat.le_trans HP8.out.ne.2.1 (Nat.le_of_lt (box_lt HP8.out.box))) ?_
    intro p6 c6 w6 o6 g6
    have HP9 := hide (HP8.out.later ((Below.refl _ R).drew))
    have HF := hide (HP9.out.app (y := ⟨xr, true, 0, xs, xe⟩) o6 g6)
    have ho6 : Only (fun i => (Value.slice sp bag.length cap).ownBlock = some i) R.drew w6 := Only.of_grown g6 (fun k e => e)
    have hb6 := ho6.obj HP9.out.box (fun e => bag_box HP9.out.bag HP9.out.box (by decide) _ e rfl)
    have ht6 := ho6.obj HT8.out (fun e => HBT.out _ e rfl)
    clear o6 g6 ho6 hHeld t0 t1 t2 t3 t4 u18 z18
    obtain ⟨_, _, _, _, _, t0, t1, t2, t3, t4⟩ := five ht6
    have u18 := cellB (i := 18) (v := .slice sp bag.length cap) hb6 rfl
    have z18 := frB (i := 18) hb6
    refine hK.out _ _ ⟨t0, t1, t2, t3, t4⟩ (fun hHeld => ?_)
    clear hK
    refine wpAnyH_take (i := 8) (oi := _) (v := ?_) rfl (by kernel_rfl) (by kernel_rfl) (by kernel_rfl) (fun _ _ _ h => h) (Or.inl ⟨by kernel_rfl, ?_⟩) (by assumption) ?_
    rotate_left
    · intro w hSw
      (try dsimp only at hSw)
      go_simp
      all_goals with_reducible rfl
    simp only [Act.put]
    refine wpAnyH_take (i := 9) (oi := _) (v := ?_) rfl (by kernel_rfl) (by kernel_rfl) (by kernel_rfl) (fun _ _ _ h => h) (Or.inl ⟨by kernel_rfl, ?_⟩) (by assumption) ?_
    rotate_left
    · intro w hSw
      (try dsimp only at hSw)
      go_simp
      all_goals with_reducible rfl
    simp only [Act.put]
    refine wpAnyH_ready (rs := [10]) (by kernel_rfl) (by simp) ?_
    refine AllReadyH.cons (o := _) rfl (fun K hK => ?_) AllReadyH.nil
    go_simp
    refine hK.out _ _ (by go_keep) (fun hHeld => ?_)
    clear hK
    refine wpAnyH_done (by kernel_rfl) ?_ _
    go_wp2
    refine bodyPost_end (results_none rfl _ _ _) rfl ?_
    exact ⟨rfl, p6, c6, HF.out⟩
  · go_simp
    refine hK.out _ _ (by go_keep) (fun hHeld => ?_)
    clear hK
    obtain ⟨R, hR⟩ : ∃ R, R = Q.alloc (.cells #[.int .i64 xr, .bool true, .int .i64 0, .int .i64 xs, .int .i64 xe] 64 (0, 0)) := ⟨_, rfl⟩
    have bR : Below Q.heap.size Q R := by rw [hR]; exact alloc_below _ _
    obtain ⟨nB, hnB⟩ : ∃ nB, Q.heap.size = nB := ⟨_, rfl⟩
    have HSG : Hid (Seg R 5 (.slice (some ⟨nB, 0, none⟩) 1 1) 1 [.int .i64 xr, .bool true, .int .i64 0, .int .i64 xs, .int .i64 xe]) := hide (by rw [hR, ← hnB]; exact Seg.news (heap_alloc_new Q _) (by simp [Value.oneCell']) rfl (Nat.le_refl _) (by decide))
    have HP8 := hide (HP7.out.later bR)
    have HT8 := hide (below_box bR HQB.out)
    rw [← hR] at hHeld
    rw [← hR]
    try rw [hnB]
    clear hR hnB bR
    have v18 := cellB (i := 18) (v := .slice sp bag.length cap) HP8.out.box rfl
    refine wpAnyH_ready (rs := [4]) (by kernel_rfl) (by simp) ?_
    refine AllReadyH.cons (o := _) rfl (fun K hK => ?_) AllReadyH.nil
    go_simp
    refine hK.out _ _ hHeld (fun hHeld => ?_)
    clear hK
    refine wpAnyH_ready (rs := [7]) (by kernel_rfl) (by simp) ?_
    refine AllReadyH.cons (o := _) rfl (fun K hK => ?_) AllReadyH.nil
    refine step_append_cells rfl (.tmp 154) (.tmp 156) 42 rfl B 64 j0 (.agg #[.int .i64 0, .bool false, .int .i64 0, .int .i64 0, .int .i64 0]) 5 40 Try.underlying42 hj0 hj1 hj2 hj3 rfl (by decide) (.slice sp bag.length cap) bag.length _ rfl HP8.out.bag.drew (.slice (some ⟨nB, 0, none⟩) 1 1) 1 _ rfl HSG.out (by have := HBIG.out; unfold maxLen; omega) (by have := HBIG.out; omega) (Nat.le_trans HP8.out.ne.2.1 (Nat.le_of_lt (box_lt HP8.out.box))) ?_
    intro p6 c6 w6 o6 g6
    have HP9 := hide (HP8.out.later ((Below.refl _ R).drew))
    have HF := hide (HP9.out.app (y := ⟨xr, true, 0, xs, xe⟩) o6 g6)
    have ho6 : Only (fun i => (Value.slice sp bag.length cap).ownBlock = some i) R.drew w6 := Only.of_grown g6 (fun k e => e)
    have hb6 := ho6.obj HP9.out.box (fun e => bag_box HP9.out.bag HP9.out.box (by decide) _ e rfl)
    have ht6 := ho6.obj HT8.out (fun e => HBT.out _ e rfl)
    clear o6 g6 ho6 hHeld t0 t1 t2 t3 t4 u18 z18
    obtain ⟨_, _, _, _, _, t0, t1, t2, t3, t4⟩ := five ht6
    have u18 := cellB (i := 18) (v := .slice sp bag.length cap) hb6 rfl
    have z18 := frB (i := 18) hb6
    refine hK.out _ _ ⟨t0, t1, t2, t3, t4⟩ (fun hHeld => ?_)
    clear hK
    refine wpAnyH_take (i := 8) (oi := _) (v := ?_) rfl (by kernel_rfl) (by kernel_rfl) (by kernel_rfl) (fun _ _ _ h => h) (Or.inl ⟨by kernel_rfl, ?_⟩) (by assumption) ?_
    rotate_left
    · intro w hSw
      (try dsimp only at hSw)
      go_simp
      all_goals with_reducible rfl
    simp only [Act.put]
    refine wpAnyH_take (i := 9) (oi := _) (v := ?_) rfl (by kernel_rfl) (by kernel_rfl) (by kernel_rfl) (fun _ _ _ h => h) (Or.inl ⟨by kernel_rfl, ?_⟩) (by assumption) ?_
    rotate_left
    · intro w hSw
      (try dsimp only at hSw)
      go_simp
      all_goals with_reducible rfl
    simp only [Act.put]
    refine wpAnyH_ready (rs := [10]) (by kernel_rfl) (by simp) ?_
    refine AllReadyH.cons (o := _) rfl (fun K hK => ?_) AllReadyH.nil
    go_simp
    refine hK.out _ _ (by go_keep) (fun hHeld => ?_)
    clear hK
    refine wpAnyH_done (by kernel_rfl) ?_ _
    go_wp2
    refine bodyPost_end (results_none rfl _ _ _) rfl ?_
    exact ⟨rfl, p6, c6, HF.out⟩
set_option maxRecDepth 100000 in
set_option maxHeartbeats 8000000 in
theorem com_rel {W : World} {B pB mA mB n cap : Nat} {sp : Option Addr} {W0 : World} {c0 c1 c2 c3 c4 c5 d0 d1 d2 d3 d4 d5 a0 b0 a1 b1 l0 l1 l2 l3 l4 ck : Int} {h0 h1 so : Bool} {f0 f1 : Int → Int × Int} {bag : List LT} {xr xs xe m0 m1 m2 m3 m4 er : Int} {ms : Bool} (hP : PRep B W0 pB mA mB n ⟨⟨⟨c0, c1, c2, c3, c4, c5⟩, a0, b0, h0, f0⟩, ⟨⟨d0, d1, d2, d3, d4, d5⟩, a1, b1, h1, f1⟩, ⟨l0, l1, l2, l3, l4, so⟩, bag, ck⟩ sp cap W) (hr : Op.releaseC ⟨l0, l1, l2, l3, l4, so⟩ xr xe = (⟨m0, m1, m2, m3, m4, ms⟩, er)) :
    Calls Try.prog 39 #[.pointer (some ⟨pB, 0, none⟩), .agg #[.int .i64 xr, .bool false, .int .i64 3, .int .i64 xs, .int .i64 xe]] W fun e w' => e = .returned (.tuple #[]) ∧ ∃ sp' cap', PRep B W0 pB mA mB n (comC ⟨⟨⟨c0, c1, c2, c3, c4, c5⟩, a0, b0, h0, f0⟩, ⟨⟨d0, d1, d2, d3, d4, d5⟩, a1, b1, h1, f1⟩, ⟨l0, l1, l2, l3, l4, so⟩, bag, ck⟩ ⟨xr, false, 3, xs, xe⟩) sp' cap' w' := by
  have HR := hide hr
  have HQ : Hid (comC ⟨⟨⟨c0, c1, c2, c3, c4, c5⟩, a0, b0, h0, f0⟩, ⟨⟨d0, d1, d2, d3, d4, d5⟩, a1, b1, h1, f1⟩, ⟨l0, l1, l2, l3, l4, so⟩, bag, ck⟩ ⟨xr, false, 3, xs, xe⟩ = ⟨⟨⟨c0, c1, c2, c3, c4, c5⟩, a0, b0, h0, f0⟩, ⟨⟨d0, d1, d2, d3, d4, d5⟩, a1, b1, h1, f1⟩, ⟨m0, m1, m2, m3, m4, ms⟩, bag, ck⟩) := hide (by
    unfold comC
    rw [if_neg (by simp), if_neg (by simp), if_neg (by simp), if_pos rfl]
    simp only
    rw [hr])
  rw [HQ.out]
  clear hr
  obtain ⟨V, hV⟩ : ∃ V, V = W.alloc (.cells #[.int .i64 xr, .bool false, .int .i64 3, .int .i64 xs, .int .i64 xe] 64 (0, 0)) := ⟨_, rfl⟩
  have bV : Below W.heap.size W V := by rw [hV]; exact alloc_below _ _
  have hx : V.heap[W.heap.size]? = some (.cells #[.int .i64 xr, .bool false, .int .i64 3, .int .i64 xs, .int .i64 xe] 64 (0, 0)) := by rw [hV]; exact heap_alloc_new W _
  obtain ⟨xB, hxB⟩ : ∃ xB, W.heap.size = xB := ⟨_, rfl⟩
  have hlt : pB < xB := by rw [← hxB]; exact box_lt hP.box
  have HLT : Hid (pB < xB) := hide hlt
  rw [hxB] at hx
  have HX0 := hide hx
  have HP0 := hide (hP.later bV)
  clear hx bV hP hlt
  go_enter Try.func39, Try.ntmps39
  go_upto_region 1 with fail
  rw [← hV]
  try rw [hxB]
  clear hV hxB
  obtain ⟨_, _, _, _, _, x0, x1, x2, x3, x4⟩ := five HX0.out
  have u12 := cellB (i := 12) (v := .int .i64 l0) HP0.out.box rfl
  have u13 := cellB (i := 13) (v := .int .i64 l1) HP0.out.box rfl
  have u14 := cellB (i := 14) (v := .int .i64 l2) HP0.out.box rfl
  have u15 := cellB (i := 15) (v := .int .i64 l3) HP0.out.box rfl
  have u16 := cellB (i := 16) (v := .int .i64 l4) HP0.out.box rfl
  have u17 := cellB (i := 17) (v := .bool so) HP0.out.box rfl
  have z12 := frB (i := 12) HP0.out.box
  have z13 := frB (i := 13) HP0.out.box
  have z14 := frB (i := 14) HP0.out.box
  have z15 := frB (i := 15) HP0.out.box
  have z16 := frB (i := 16) HP0.out.box
  have z17 := frB (i := 17) HP0.out.box
  have hne1 : pB ≠ xB := by have := HLT.out; omega
  have hne2 : xB ≠ pB := hne1.symm
  have B0 : Below V.heap.size V V.drew := (Below.refl _ V).drew
  have HP1 := hide (HP0.out.later B0)
  have HX1 := hide (below_box B0 HX0.out)
  go_upto_region 18 with fail
  refine wp_region_held_drew (S := fun w' => w'.cell? ⟨xB, 4, none⟩ = some (.int .i64 xe)) (by kernel_rfl) x4 (fun hHeld => ?_)
  refine wpAnyH_take (i := 0) (oi := _) (v := ?_) rfl (by kernel_rfl) (by kernel_rfl) (by kernel_rfl) (fun _ _ _ h => h) (Or.inl ⟨by kernel_rfl, ?_⟩) (by assumption) ?_
  rotate_left
  · intro w hSw
    (try dsimp only at hSw)
    go_simp
    all_goals with_reducible rfl
  simp only [Act.put]
  refine wpAnyH_take (i := 1) (oi := _) (v := ?_) rfl (by kernel_rfl) (by kernel_rfl) (by kernel_rfl) (fun _ _ _ h => h) (Or.inl ⟨by kernel_rfl, ?_⟩) (by assumption) ?_
  rotate_left
  · intro w hSw
    (try dsimp only at hSw)
    go_simp
    all_goals with_reducible rfl
  simp only [Act.put]
  refine wpAnyH_take (i := 2) (oi := _) (v := ?_) rfl (by kernel_rfl) (by kernel_rfl) (by kernel_rfl) (fun _ _ _ h => h) (Or.inl ⟨by kernel_rfl, ?_⟩) (by assumption) ?_
  rotate_left
  · intro w hSw
    (try dsimp only at hSw)
    go_simp
    all_goals with_reducible rfl
  simp only [Act.put]
  refine wpAnyH_take (i := 3) (oi := _) (v := ?_) rfl (by kernel_rfl) (by kernel_rfl) (by kernel_rfl) (fun _ _ _ h => h) (Or.inl ⟨by kernel_rfl, ?_⟩) (by assumption) ?_
  rotate_left
  · intro w hSw
    (try dsimp only at hSw)
    go_simp
    all_goals with_reducible rfl
  simp only [Act.put]
  refine wpAnyH_take (i := 5) (oi := _) (v := ?_) rfl (by kernel_rfl) (by kernel_rfl) (by kernel_rfl) (fun _ _ _ h => h) (Or.inl ⟨by kernel_rfl, ?_⟩) (by assumption) ?_
  rotate_left
  · intro w hSw
    (try dsimp only at hSw)
    go_simp
    all_goals with_reducible rfl
  simp only [Act.put]
  refine wpAnyH_take (i := 6) (oi := _) (v := ?_) rfl (by kernel_rfl) (by kernel_rfl) (by kernel_rfl) (fun _ _ _ h => h) (Or.inl ⟨by kernel_rfl, ?_⟩) (by assumption) ?_
  rotate_left
  · intro w hSw
    (try dsimp only at hSw)
    go_simp
    all_goals with_reducible rfl
  simp only [Act.put]
  refine wpAnyH_take (i := 7) (oi := _) (v := ?_) rfl (by kernel_rfl) (by kernel_rfl) (by kernel_rfl) (fun _ _ _ h => h) (Or.inl ⟨by kernel_rfl, ?_⟩) (by assumption) ?_
  rotate_left
  · intro w hSw
    (try dsimp only at hSw)
    go_simp
    all_goals with_reducible rfl
  simp only [Act.put]
  refine wpAnyH_ready (rs := [4]) (by kernel_rfl) (by simp) ?_
  refine AllReadyH.cons (o := _) rfl (fun K hK => ?_) AllReadyH.nil
  go_simp
  refine hK.out _ _ hHeld (fun hHeld => ?_)
  clear hK
  refine wpAnyH_ready (rs := [8]) (by kernel_rfl) (by simp) ?_
  refine AllReadyH.cons (o := _) rfl (fun K hK => ?_) AllReadyH.nil
  go_simp
  refine Op.rrelease_any.mono ?_
  rw [HR.out]
  simp only [LE.val, LE.row]
  rintro _ y1 ⟨rfl, b1⟩
  have HP2 := hide (HP1.out.later b1)
  have HX2 := hide (below_box b1 HX1.out)
  clear b1 hHeld x0 x1 x2 x3 x4 u12 z12 u13 z13 u14 z14 u15 z15 u16 z16 u17 z17
  obtain ⟨_, _, _, _, _, x0, x1, x2, x3, x4⟩ := five HX2.out
  have u12 := cellB (i := 12) (v := .int .i64 l0) HP2.out.box rfl
  have u13 := cellB (i := 13) (v := .int .i64 l1) HP2.out.box rfl
  have u14 := cellB (i := 14) (v := .int .i64 l2) HP2.out.box rfl
  have u15 := cellB (i := 15) (v := .int .i64 l3) HP2.out.box rfl
  have u16 := cellB (i := 16) (v := .int .i64 l4) HP2.out.box rfl
  have u17 := cellB (i := 17) (v := .bool so) HP2.out.box rfl
  have z12 := frB (i := 12) HP2.out.box
  have z13 := frB (i := 13) HP2.out.box
  have z14 := frB (i := 14) HP2.out.box
  have z15 := frB (i := 15) HP2.out.box
  have z16 := frB (i := 16) HP2.out.box
  have z17 := frB (i := 17) HP2.out.box
  go_wp2_with fail
  refine hK.out _ _ x4 (fun hHeld => ?_)
  clear hK
  refine wpAnyH_take (i := 9) (oi := _) (v := ?_) rfl (by kernel_rfl) (by kernel_rfl) (by kernel_rfl) (fun _ _ _ h => h) (Or.inl ⟨by kernel_rfl, ?_⟩) (by assumption) ?_
  rotate_left
  · intro w hSw
    (try dsimp only at hSw)
    go_simp
    all_goals with_reducible rfl
  simp only [Act.put]
  refine wpAnyH_take (i := 10) (oi := _) (v := ?_) rfl (by kernel_rfl) (by kernel_rfl) (by kernel_rfl) (fun _ _ _ h => h) (Or.inl ⟨by kernel_rfl, ?_⟩) (by assumption) ?_
  rotate_left
  · intro w hSw
    (try dsimp only at hSw)
    go_simp
    all_goals with_reducible rfl
  simp only [Act.put]
  refine wpAnyH_take (i := 11) (oi := _) (v := ?_) rfl (by kernel_rfl) (by kernel_rfl) (by kernel_rfl) (fun _ _ _ h => h) (Or.inl ⟨by kernel_rfl, ?_⟩) (by assumption) ?_
  rotate_left
  · intro w hSw
    (try dsimp only at hSw)
    go_simp
    all_goals with_reducible rfl
  simp only [Act.put]
  refine wpAnyH_take (i := 12) (oi := _) (v := ?_) rfl (by kernel_rfl) (by kernel_rfl) (by kernel_rfl) (fun _ _ _ h => h) (Or.inl ⟨by kernel_rfl, ?_⟩) (by assumption) ?_
  rotate_left
  · intro w hSw
    (try dsimp only at hSw)
    go_simp
    all_goals with_reducible rfl
  simp only [Act.put]
  refine wpAnyH_take (i := 13) (oi := _) (v := ?_) rfl (by kernel_rfl) (by kernel_rfl) (by kernel_rfl) (fun _ _ _ h => h) (Or.inl ⟨by kernel_rfl, ?_⟩) (by assumption) ?_
  rotate_left
  · intro w hSw
    (try dsimp only at hSw)
    go_simp
    all_goals with_reducible rfl
  simp only [Act.put]
  refine wpAnyH_ready (rs := [14]) (by kernel_rfl) (by simp) ?_
  refine AllReadyH.cons (o := _) rfl (fun K hK => ?_) AllReadyH.nil
  go_simp
  refine hK.out _ _ (by go_keep) (fun hHeld => ?_)
  clear hK
  refine wpAnyH_done (by kernel_rfl) ?_ _
  obtain ⟨Y, hY⟩ : ∃ Y, Y = ((((((y1.setCell ⟨pB, 12, none⟩ (.int .i64 m0)).setCell ⟨pB, 13, none⟩ (.int .i64 m1)).setCell ⟨pB, 14, none⟩ (.int .i64 m2)).setCell ⟨pB, 15, none⟩ (.int .i64 m3)).setCell ⟨pB, 16, none⟩ (.int .i64 m4)).setCell ⟨pB, 17, none⟩ (.bool ms)) := ⟨_, rfl⟩
  have oY : Only (· = pB) y1 Y := by rw [hY]; exact (((((((Only.refl (· = pB) y1).trans (Only.set _ pB 12 (.int .i64 m0) rfl)).trans (Only.set _ pB 13 (.int .i64 m1) rfl)).trans (Only.set _ pB 14 (.int .i64 m2) rfl)).trans (Only.set _ pB 15 (.int .i64 m3) rfl)).trans (Only.set _ pB 16 (.int .i64 m4) rfl)).trans (Only.set _ pB 17 (.bool ms) rfl))
  have HP5 : Hid (PRep B W0 pB mA mB n ⟨⟨⟨c0, c1, c2, c3, c4, c5⟩, a0, b0, h0, f0⟩, ⟨⟨d0, d1, d2, d3, d4, d5⟩, a1, b1, h1, f1⟩, ⟨m0, m1, m2, m3, m4, ms⟩, bag, ck⟩ sp cap Y) := hide (HP2.out.put oY (by have HB := hide HP2.out.box; rw [hY]; exact (heap_set_sameL (heap_set_sameL (heap_set_sameL (heap_set_sameL (heap_set_sameL (heap_set_sameL HB.out 12 (.int .i64 m0)) 13 (.int .i64 m1)) 14 (.int .i64 m2)) 15 (.int .i64 m3)) 16 (.int .i64 m4)) 17 (.bool ms))) rfl rfl rfl)
  have HX5 := hide (oY.obj HX2.out (fun e => by have e' : xB = pB := e; have := HLT.out; omega))
  rw [← hY]
  clear hY oY HP0 HP1 HP2 HX0 HX1 HX2 hHeld B0 hne1 hne2 x0 x1 x2 x3 x4 u12 z12 u13 z13 u14 z14 u15 z15 u16 z16 u17 z17
  obtain ⟨_, _, _, _, _, x0, x1, x2, x3, x4⟩ := five HX5.out
  go_wp2
  refine bodyPost_ret (results_none rfl _ _ _) rfl ?_
  exact ⟨rfl, sp, cap, HP5.out⟩
set_option maxRecDepth 100000 in
set_option maxHeartbeats 8000000 in
theorem com_tra {W : World} {B pB mA mB n cap : Nat} {sp : Option Addr} {W0 : World} {c0 c1 c2 c3 c4 c5 d0 d1 d2 d3 d4 d5 a0 b0 a1 b1 l0 l1 l2 l3 l4 ck : Int} {h0 h1 so : Bool} {f0 f1 : Int → Int × Int} {bag : List LT} {xr xs xe m0 m1 m2 m3 m4 er nep xk : Int} {ms : Bool} (hP : PRep B W0 pB mA mB n ⟨⟨⟨c0, c1, c2, c3, c4, c5⟩, a0, b0, h0, f0⟩, ⟨⟨d0, d1, d2, d3, d4, d5⟩, a1, b1, h1, f1⟩, ⟨l0, l1, l2, l3, l4, so⟩, bag, ck⟩ sp cap W) (hr : Op.transC ⟨l0, l1, l2, l3, l4, so⟩ xr xe (1 - xr) = (⟨m0, m1, m2, m3, m4, ms⟩, nep, er)) (hk1 : xk ≠ 1) (hk2 : xk ≠ 2) (hk3 : xk ≠ 3) (hreg : xr = 0 ∨ xr = 1) :
    Calls Try.prog 39 #[.pointer (some ⟨pB, 0, none⟩), .agg #[.int .i64 xr, .bool false, .int .i64 xk, .int .i64 xs, .int .i64 xe]] W fun e w' => e = .returned (.tuple #[]) ∧ ∃ sp' cap', PRep B W0 pB mA mB n (comC ⟨⟨⟨c0, c1, c2, c3, c4, c5⟩, a0, b0, h0, f0⟩, ⟨⟨d0, d1, d2, d3, d4, d5⟩, a1, b1, h1, f1⟩, ⟨l0, l1, l2, l3, l4, so⟩, bag, ck⟩ ⟨xr, false, xk, xs, xe⟩) sp' cap' w' := by
  have HR := hide hr
  have HQ : Hid (comC ⟨⟨⟨c0, c1, c2, c3, c4, c5⟩, a0, b0, h0, f0⟩, ⟨⟨d0, d1, d2, d3, d4, d5⟩, a1, b1, h1, f1⟩, ⟨l0, l1, l2, l3, l4, so⟩, bag, ck⟩ ⟨xr, false, xk, xs, xe⟩ = ⟨⟨⟨c0, c1, c2, c3, c4, c5⟩, a0, b0, h0, f0⟩, ⟨⟨d0, d1, d2, d3, d4, d5⟩, a1, b1, h1, f1⟩, ⟨m0, m1, m2, m3, m4, ms⟩, bag, ck⟩) := hide (by
    unfold comC
    rw [if_neg (by simp), if_neg hk1, if_neg hk2, if_neg hk3]
    simp only
    rw [hr])
  rw [HQ.out]
  have hq1 : (xk == 1) = false := ne_eqL hk1
  have hq2 : (xk == 2) = false := ne_eqL hk2
  have hq3 : (xk == 3) = false := ne_eqL hk3
  have e1 : IntKind.i64.wrap (1 - xr) = 1 - xr := by rw [IntKind.wrap_i64]; omega
  clear hk1 hk2 hk3 hreg
  clear hr
  obtain ⟨V, hV⟩ : ∃ V, V = W.alloc (.cells #[.int .i64 xr, .bool false, .int .i64 xk, .int .i64 xs, .int .i64 xe] 64 (0, 0)) := ⟨_, rfl⟩
  have bV : Below W.heap.size W V := by rw [hV]; exact alloc_below _ _
  have hx : V.heap[W.heap.size]? = some (.cells #[.int .i64 xr, .bool false, .int .i64 xk, .int .i64 xs, .int .i64 xe] 64 (0, 0)) := by rw [hV]; exact heap_alloc_new W _
  obtain ⟨xB, hxB⟩ : ∃ xB, W.heap.size = xB := ⟨_, rfl⟩
  have hlt : pB < xB := by rw [← hxB]; exact box_lt hP.box
  have HLT : Hid (pB < xB) := hide hlt
  rw [hxB] at hx
  have HX0 := hide hx
  have HP0 := hide (hP.later bV)
  clear hx bV hP hlt
  go_enter Try.func39, Try.ntmps39
  go_upto_region 1 with fail
  rw [← hV]
  try rw [hxB]
  clear hV hxB
  obtain ⟨_, _, _, _, _, x0, x1, x2, x3, x4⟩ := five HX0.out
  have u12 := cellB (i := 12) (v := .int .i64 l0) HP0.out.box rfl
  have u13 := cellB (i := 13) (v := .int .i64 l1) HP0.out.box rfl
  have u14 := cellB (i := 14) (v := .int .i64 l2) HP0.out.box rfl
  have u15 := cellB (i := 15) (v := .int .i64 l3) HP0.out.box rfl
  have u16 := cellB (i := 16) (v := .int .i64 l4) HP0.out.box rfl
  have u17 := cellB (i := 17) (v := .bool so) HP0.out.box rfl
  have z12 := frB (i := 12) HP0.out.box
  have z13 := frB (i := 13) HP0.out.box
  have z14 := frB (i := 14) HP0.out.box
  have z15 := frB (i := 15) HP0.out.box
  have z16 := frB (i := 16) HP0.out.box
  have z17 := frB (i := 17) HP0.out.box
  have hne1 : pB ≠ xB := by have := HLT.out; omega
  have hne2 : xB ≠ pB := hne1.symm
  have B0 : Below V.heap.size V V.drew := (Below.refl _ V).drew
  have HP1 := hide (HP0.out.later B0)
  have HX1 := hide (below_box B0 HX0.out)
  go_upto_region 12 with fail
  refine wp_region_held_drew (S := fun w' => w'.cell? ⟨xB, 4, none⟩ = some (.int .i64 xe)) (by kernel_rfl) x4 (fun hHeld => ?_)
  refine wpAnyH_take (i := 0) (oi := _) (v := ?_) rfl (by kernel_rfl) (by kernel_rfl) (by kernel_rfl) (fun _ _ _ h => h) (Or.inl ⟨by kernel_rfl, ?_⟩) (by assumption) ?_
  rotate_left
  · intro w hSw
    (try dsimp only at hSw)
    go_simp
    all_goals with_reducible rfl
  simp only [Act.put]
  refine wpAnyH_take (i := 1) (oi := _) (v := ?_) rfl (by kernel_rfl) (by kernel_rfl) (by kernel_rfl) (fun _ _ _ h => h) (Or.inl ⟨by kernel_rfl, ?_⟩) (by assumption) ?_
  rotate_left
  · intro w hSw
    (try dsimp only at hSw)
    go_simp
    all_goals with_reducible rfl
  simp only [Act.put]
  refine wpAnyH_take (i := 2) (oi := _) (v := ?_) rfl (by kernel_rfl) (by kernel_rfl) (by kernel_rfl) (fun _ _ _ h => h) (Or.inl ⟨by kernel_rfl, ?_⟩) (by assumption) ?_
  rotate_left
  · intro w hSw
    (try dsimp only at hSw)
    go_simp
    all_goals with_reducible rfl
  simp only [Act.put]
  refine wpAnyH_take (i := 3) (oi := _) (v := ?_) rfl (by kernel_rfl) (by kernel_rfl) (by kernel_rfl) (fun _ _ _ h => h) (Or.inl ⟨by kernel_rfl, ?_⟩) (by assumption) ?_
  rotate_left
  · intro w hSw
    (try dsimp only at hSw)
    go_simp
    all_goals with_reducible rfl
  simp only [Act.put]
  refine wpAnyH_take (i := 5) (oi := _) (v := ?_) rfl (by kernel_rfl) (by kernel_rfl) (by kernel_rfl) (fun _ _ _ h => h) (Or.inl ⟨by kernel_rfl, ?_⟩) (by assumption) ?_
  rotate_left
  · intro w hSw
    (try dsimp only at hSw)
    go_simp
    all_goals with_reducible rfl
  simp only [Act.put]
  refine wpAnyH_take (i := 6) (oi := _) (v := ?_) rfl (by kernel_rfl) (by kernel_rfl) (by kernel_rfl) (fun _ _ _ h => h) (Or.inl ⟨by kernel_rfl, ?_⟩) (by assumption) ?_
  rotate_left
  · intro w hSw
    (try dsimp only at hSw)
    go_simp
    all_goals with_reducible rfl
  simp only [Act.put]
  refine wpAnyH_take (i := 7) (oi := _) (v := ?_) rfl (by kernel_rfl) (by kernel_rfl) (by kernel_rfl) (fun _ _ _ h => h) (Or.inl ⟨by kernel_rfl, ?_⟩) (by assumption) ?_
  rotate_left
  · intro w hSw
    (try dsimp only at hSw)
    go_simp
    all_goals with_reducible rfl
  simp only [Act.put]
  refine wpAnyH_take (i := 8) (oi := _) (v := ?_) rfl (by kernel_rfl) (by kernel_rfl) (by kernel_rfl) (fun _ _ _ h => h) (Or.inl ⟨by kernel_rfl, ?_⟩) (by assumption) ?_
  rotate_left
  · intro w hSw
    (try dsimp only at hSw)
    go_simp
    all_goals with_reducible rfl
  simp only [Act.put]
  refine wpAnyH_take (i := 9) (oi := _) (v := ?_) rfl (by kernel_rfl) (by kernel_rfl) (by kernel_rfl) (fun _ _ _ h => h) (Or.inl ⟨by kernel_rfl, ?_⟩) (by assumption) ?_
  rotate_left
  · intro w hSw
    (try dsimp only at hSw)
    go_simp
    all_goals with_reducible rfl
  simp only [Act.put]
  refine wpAnyH_ready (rs := [4]) (by kernel_rfl) (by simp) ?_
  refine AllReadyH.cons (o := _) rfl (fun K hK => ?_) AllReadyH.nil
  go_simp
  refine hK.out _ _ hHeld (fun hHeld => ?_)
  clear hK
  refine wpAnyH_ready (rs := [10]) (by kernel_rfl) (by simp) ?_
  refine AllReadyH.cons (o := _) rfl (fun K hK => ?_) AllReadyH.nil
  go_simp
  refine Op.rtransfer_any.mono ?_
  rw [HR.out]
  simp only [LE.val, LE.row]
  rintro _ y1 ⟨rfl, b1⟩
  have HP2 := hide (HP1.out.later b1)
  have HX2 := hide (below_box b1 HX1.out)
  clear b1 hHeld x0 x1 x2 x3 x4 u12 z12 u13 z13 u14 z14 u15 z15 u16 z16 u17 z17
  obtain ⟨_, _, _, _, _, x0, x1, x2, x3, x4⟩ := five HX2.out
  have u12 := cellB (i := 12) (v := .int .i64 l0) HP2.out.box rfl
  have u13 := cellB (i := 13) (v := .int .i64 l1) HP2.out.box rfl
  have u14 := cellB (i := 14) (v := .int .i64 l2) HP2.out.box rfl
  have u15 := cellB (i := 15) (v := .int .i64 l3) HP2.out.box rfl
  have u16 := cellB (i := 16) (v := .int .i64 l4) HP2.out.box rfl
  have u17 := cellB (i := 17) (v := .bool so) HP2.out.box rfl
  have z12 := frB (i := 12) HP2.out.box
  have z13 := frB (i := 13) HP2.out.box
  have z14 := frB (i := 14) HP2.out.box
  have z15 := frB (i := 15) HP2.out.box
  have z16 := frB (i := 16) HP2.out.box
  have z17 := frB (i := 17) HP2.out.box
  go_wp2_with fail
  refine hK.out _ _ x4 (fun hHeld => ?_)
  clear hK
  refine wpAnyH_take (i := 11) (oi := _) (v := ?_) rfl (by kernel_rfl) (by kernel_rfl) (by kernel_rfl) (fun _ _ _ h => h) (Or.inl ⟨by kernel_rfl, ?_⟩) (by assumption) ?_
  rotate_left
  · intro w hSw
    (try dsimp only at hSw)
    go_simp
    all_goals with_reducible rfl
  simp only [Act.put]
  refine wpAnyH_take (i := 12) (oi := _) (v := ?_) rfl (by kernel_rfl) (by kernel_rfl) (by kernel_rfl) (fun _ _ _ h => h) (Or.inl ⟨by kernel_rfl, ?_⟩) (by assumption) ?_
  rotate_left
  · intro w hSw
    (try dsimp only at hSw)
    go_simp
    all_goals with_reducible rfl
  simp only [Act.put]
  refine wpAnyH_take (i := 13) (oi := _) (v := ?_) rfl (by kernel_rfl) (by kernel_rfl) (by kernel_rfl) (fun _ _ _ h => h) (Or.inl ⟨by kernel_rfl, ?_⟩) (by assumption) ?_
  rotate_left
  · intro w hSw
    (try dsimp only at hSw)
    go_simp
    all_goals with_reducible rfl
  simp only [Act.put]
  refine wpAnyH_take (i := 14) (oi := _) (v := ?_) rfl (by kernel_rfl) (by kernel_rfl) (by kernel_rfl) (fun _ _ _ h => h) (Or.inl ⟨by kernel_rfl, ?_⟩) (by assumption) ?_
  rotate_left
  · intro w hSw
    (try dsimp only at hSw)
    go_simp
    all_goals with_reducible rfl
  simp only [Act.put]
  refine wpAnyH_take (i := 15) (oi := _) (v := ?_) rfl (by kernel_rfl) (by kernel_rfl) (by kernel_rfl) (fun _ _ _ h => h) (Or.inl ⟨by kernel_rfl, ?_⟩) (by assumption) ?_
  rotate_left
  · intro w hSw
    (try dsimp only at hSw)
    go_simp
    all_goals with_reducible rfl
  simp only [Act.put]
  refine wpAnyH_take (i := 16) (oi := _) (v := ?_) rfl (by kernel_rfl) (by kernel_rfl) (by kernel_rfl) (fun _ _ _ h => h) (Or.inl ⟨by kernel_rfl, ?_⟩) (by assumption) ?_
  rotate_left
  · intro w hSw
    (try dsimp only at hSw)
    go_simp
    all_goals with_reducible rfl
  simp only [Act.put]
  refine wpAnyH_ready (rs := [17]) (by kernel_rfl) (by simp) ?_
  refine AllReadyH.cons (o := _) rfl (fun K hK => ?_) AllReadyH.nil
  go_simp
  refine hK.out _ _ (by go_keep) (fun hHeld => ?_)
  clear hK
  refine wpAnyH_done (by kernel_rfl) ?_ _
  obtain ⟨Y, hY⟩ : ∃ Y, Y = ((((((y1.setCell ⟨pB, 12, none⟩ (.int .i64 m0)).setCell ⟨pB, 13, none⟩ (.int .i64 m1)).setCell ⟨pB, 14, none⟩ (.int .i64 m2)).setCell ⟨pB, 15, none⟩ (.int .i64 m3)).setCell ⟨pB, 16, none⟩ (.int .i64 m4)).setCell ⟨pB, 17, none⟩ (.bool ms)) := ⟨_, rfl⟩
  have oY : Only (· = pB) y1 Y := by rw [hY]; exact (((((((Only.refl (· = pB) y1).trans (Only.set _ pB 12 (.int .i64 m0) rfl)).trans (Only.set _ pB 13 (.int .i64 m1) rfl)).trans (Only.set _ pB 14 (.int .i64 m2) rfl)).trans (Only.set _ pB 15 (.int .i64 m3) rfl)).trans (Only.set _ pB 16 (.int .i64 m4) rfl)).trans (Only.set _ pB 17 (.bool ms) rfl))
  have HP5 : Hid (PRep B W0 pB mA mB n ⟨⟨⟨c0, c1, c2, c3, c4, c5⟩, a0, b0, h0, f0⟩, ⟨⟨d0, d1, d2, d3, d4, d5⟩, a1, b1, h1, f1⟩, ⟨m0, m1, m2, m3, m4, ms⟩, bag, ck⟩ sp cap Y) := hide (HP2.out.put oY (by have HB := hide HP2.out.box; rw [hY]; exact (heap_set_sameL (heap_set_sameL (heap_set_sameL (heap_set_sameL (heap_set_sameL (heap_set_sameL HB.out 12 (.int .i64 m0)) 13 (.int .i64 m1)) 14 (.int .i64 m2)) 15 (.int .i64 m3)) 16 (.int .i64 m4)) 17 (.bool ms))) rfl rfl rfl)
  have HX5 := hide (oY.obj HX2.out (fun e => by have e' : xB = pB := e; have := HLT.out; omega))
  rw [← hY]
  clear hY oY HP0 HP1 HP2 HX0 HX1 HX2 hHeld B0 hne1 hne2 x0 x1 x2 x3 x4 u12 z12 u13 z13 u14 z14 u15 z15 u16 z16 u17 z17
  obtain ⟨_, _, _, _, _, x0, x1, x2, x3, x4⟩ := five HX5.out
  go_wp2
  refine bodyPost_ret (results_none rfl _ _ _) rfl ?_
  exact ⟨rfl, sp, cap, HP5.out⟩
/-- A letter that was under way comes. -/
theorem com_any {W : World} {B pB mA mB n cap : Nat} {sp : Option Addr} {W0 : World} {p : PL} {x : LT} (hP : PRep B W0 pB mA mB n p sp cap W) (hbig : p.bag.length ≤ 1000) (hr : x.reg = 0 ∨ x.reg = 1) :
    Calls Try.prog 39 #[.pointer (some ⟨pB, 0, none⟩), .agg #[.int .i64 x.reg, .bool x.back, .int .i64 x.ki, .int .i64 x.ser, .int .i64 x.ep]] W fun e w' => e = .returned (.tuple #[]) ∧ ∃ sp' cap', PRep B W0 pB mA mB n (comC p x) sp' cap' w' := by
  obtain ⟨⟨⟨c0, c1, c2, c3, c4, c5⟩, a0, b0, h0, f0⟩, ⟨⟨d0, d1, d2, d3, d4, d5⟩, a1, b1, h1, f1⟩, ⟨l0, l1, l2, l3, l4, so⟩, bag, ck⟩ := p
  obtain ⟨xr, xb, xk, xs, xe⟩ := x
  cases xb with
  | true =>
    by_cases hk : xk = 0
    · subst hk
      rcases hr with hr | hr
      · obtain rfl : xr = 0 := hr
        exact com_rfs0 hP
      · obtain rfl : xr = 1 := hr
        exact com_rfs1 hP
    · rcases hr with hr | hr
      · obtain rfl : xr = 0 := hr
        obtain ⟨⟨⟨g0, g1, g2, g3, g4, g5⟩, q⟩, hg⟩ : ∃ q, grnG ⟨c0, c1, c2, c3, c4, c5⟩ xs xe = q := ⟨_, rfl⟩
        cases q with
        | true => exact com_grn0t hP hk hg
        | false => exact com_grn0f hP hk hg
      · obtain rfl : xr = 1 := hr
        obtain ⟨⟨⟨g0, g1, g2, g3, g4, g5⟩, q⟩, hg⟩ : ∃ q, grnG ⟨d0, d1, d2, d3, d4, d5⟩ xs xe = q := ⟨_, rfl⟩
        cases q with
        | true => exact com_grn1t hP hk hg
        | false => exact com_grn1f hP hk hg
  | false =>
    by_cases k1 : xk = 1
    · subst k1
      obtain ⟨⟨⟨m0, m1, m2, m3, m4, ms⟩, nep, er⟩, hg⟩ : ∃ q, Op.acqC ⟨l0, l1, l2, l3, l4, so⟩ xr = q := ⟨_, rfl⟩
      by_cases he : er = 0
      · subst he; exact com_acq1 hP hbig hg
      · exact com_acq0 hP hbig hg he
    · by_cases k2 : xk = 2
      · subst k2
        obtain ⟨⟨⟨m0, m1, m2, m3, m4, ms⟩, er⟩, hg⟩ : ∃ q, Op.renewC ⟨l0, l1, l2, l3, l4, so⟩ xr xe = q := ⟨_, rfl⟩
        by_cases he : er = 0
        · subst he; exact com_ren1 hP hbig hg
        · exact com_ren0 hP hbig hg he
      · by_cases k3 : xk = 3
        · subst k3
          obtain ⟨⟨⟨m0, m1, m2, m3, m4, ms⟩, er⟩, hg⟩ : ∃ q, Op.releaseC ⟨l0, l1, l2, l3, l4, so⟩ xr xe = q := ⟨_, rfl⟩
          exact com_rel hP hg
        · obtain ⟨⟨⟨m0, m1, m2, m3, m4, ms⟩, nep, er⟩, hg⟩ : ∃ q, Op.transC ⟨l0, l1, l2, l3, l4, so⟩ xr xe (1 - xr) = q := ⟨_, rfl⟩
          exact com_tra hP hg k1 k2 k3 hr
end Go.Proofs.Ytegffdmlkbdcdaa
