/-
  A transaction in memory of its own: cloneTxn of the program, clone of the reference. The conditions: that its lists lie there; lengths.
-/
import Derived.Test.YtboofnkajjnmeaaTk0
import Derived.Test.YtboofnkajjnmeaaSkc
import Derived.Deep.RegionHeld3
namespace Go.Proofs.Ytboofnkajjnmeaa
open Go.RowKit

def CloT (W : World) (ep id bg : Int) (rs : List RC) (vs : List Int) (rn vn : Nat) (e : Ending) (w' : World) : Prop :=
  ∃ p c q d, e = .returned (.agg #[.int .i64 ep, .int .i64 id, .int .i64 bg, .slice p rn c, .slice q vn d]) ∧ w'.ownsRow W.heap.size 49 2 (.slice p rn c) rn (rs.flatMap RC.cells) ∧ w'.ownsRow W.heap.size 2 1 (.slice q vn d) vn (vs.flatMap intCells) ∧ Below W.heap.size W w'
theorem five_own {w : World} {b : Nat} {t : TypeId} {d0 d1 d2 d3 d4 : Value} (h : w.heap[b]? = some (.cells #[d0, d1, d2, d3, d4] t (0, 0))) (e0 e1 e2 e3 e4 : Value) : (((((w.setCell ⟨b, 0, none⟩ e0).setCell ⟨b, 1, none⟩ e1).setCell ⟨b, 2, none⟩ e2).setCell ⟨b, 3, none⟩ e3).setCell ⟨b, 4, none⟩ e4).heap[b]? = some (.cells #[e0, e1, e2, e3, e4] t (0, 0)) := heap_set_sameL (heap_set_sameL (heap_set_sameL (heap_set_sameL (heap_set_sameL h 0 e0) 1 e1) 2 e2) 3 e3) 4 e4
theorem only_five (w : World) (b : Nat) (e0 e1 e2 e3 e4 : Value) : Only (· = b) w (((((w.setCell ⟨b, 0, none⟩ e0).setCell ⟨b, 1, none⟩ e1).setCell ⟨b, 2, none⟩ e2).setCell ⟨b, 3, none⟩ e3).setCell ⟨b, 4, none⟩ e4) :=
  ((((Only.set (F := (· = b)) w b 0 e0 rfl).trans (Only.set (F := (· = b)) _ b 1 e1 rfl)).trans (Only.set (F := (· = b)) _ b 2 e2 rfl)).trans (Only.set (F := (· = b)) _ b 3 e3 rfl)).trans (Only.set (F := (· = b)) _ b 4 e4 rfl)
theorem own_type {w w' : World} {b : Nat} {t t' : TypeId} {base k n : Nat} {v : Value} {xs : List Value} {cs : Array Value} {fr : Nat × Nat} (h : w.ownsRow base t k v n xs) (ho : Only (· = b) w w') (hb : w.heap[b]? = some (.cells cs t' fr)) (ht : t ≠ t') : w'.ownsRow base t k v n xs :=
  ownsRow_only h ho (fun i hi e => by
    have e' : i = b := e
    obtain ⟨_, c2, h3⟩ := own_block_lt h hi
    rw [e', hb] at h3
    simp at h3
    exact ht h3.2.1.symm)
structure CLb (W : World) (bB rB : Nat) (ep id bg : Int) (rs : List RC) (vs : List Int) (rn vn : Nat) (w : World) : Prop where
  row : ∃ p c q d, w.heap[bB]? = some (.cells #[.int .i64 ep, .int .i64 id, .int .i64 bg, .slice p rn c, .slice q vn d] 34 (0, 0)) ∧ w.ownsRow W.heap.size 49 2 (.slice p rn c) rn (rs.flatMap RC.cells) ∧ w.ownsRow W.heap.size 2 1 (.slice q vn d) vn (vs.flatMap intCells)
  res : w.heap[rB]? = some (.cells #[.int .i64 0, .int .i64 0, .int .i64 0, .slice none 0 0, .slice none 0 0] 34 (0, 0))
  ne : bB ≠ rB ∧ W.heap.size ≤ bB ∧ W.heap.size ≤ rB
  below : Below W.heap.size W w
set_option maxRecDepth 100000 in
set_option maxHeartbeats 8000000 in
theorem cloneTxn_any {W : World} {ep id bg : Int} {rp vp : Option Addr} {rn rc vn vc : Nat} {rs : List RC} {vs : List Int} (hr : RRow W rp rc rs) (hv : NRow W vp vc vs) (hrn : rs.length = rn) (hvn : vs.length = vn) (hb1 : rn ≤ 1048576) (hb2 : vn ≤ 1048576) :
    Calls Try.prog 46 #[.agg #[.int .i64 ep, .int .i64 id, .int .i64 bg, .slice rp rn rc, .slice vp vn vc]] W (CloT W ep id bg rs vs rn vn) := by
  have HR := hide hr
  have HN := hide hv
  have HRN := hide hrn
  have HVN := hide hvn
  clear hr hv hrn hvn
  obtain ⟨V, hV⟩ : ∃ V, V = W.alloc (.cells #[.int .i64 ep, .int .i64 id, .int .i64 bg, .slice rp rn rc, .slice vp vn vc] 34 (0, 0)) := ⟨_, rfl⟩
  have HV : Hid (V.heap[W.heap.size]? = some (.cells #[.int .i64 ep, .int .i64 id, .int .i64 bg, .slice rp rn rc, .slice vp vn vc] 34 (0, 0))) := hide (by rw [hV]; exact heap_alloc_new W _)
  have HBV : Hid (Below W.heap.size W V) := hide (by rw [hV]; exact alloc_below _ _)
  obtain ⟨bB, hbB⟩ : ∃ bB, W.heap.size = bB := ⟨_, rfl⟩
  rw [hbB] at HV HBV
  have HZbB := hide hbB
  obtain ⟨X, hX⟩ : ∃ X, X = V.alloc (.cells #[.int .i64 0, .int .i64 0, .int .i64 0, .slice none 0 0, .slice none 0 0] 34 (0, 0)) := ⟨_, rfl⟩
  have HX : Hid (X.heap[V.heap.size]? = some (.cells #[.int .i64 0, .int .i64 0, .int .i64 0, .slice none 0 0, .slice none 0 0] 34 (0, 0))) := hide (by rw [hX]; exact heap_alloc_new V _)
  have HBX : Hid (Below V.heap.size V X) := hide (by rw [hX]; exact alloc_below _ _)
  obtain ⟨rB, hrB⟩ : ∃ rB, V.heap.size = rB := ⟨_, rfl⟩
  rw [hrB] at HX HBX
  have HZrB := hide hrB
  have HV0 := hide (below_box (show Below V.heap.size V X by rw [hX]; exact alloc_below _ _) HV.out)
  have HW0 : Hid (Below W.heap.size W X) := hide (by rw [hX, hV]; exact (alloc_below _ _).trans ((alloc_below _ _).mono (by simp)))
  have HX0 := HX
  have hs0 : V.heap.size = bB + 1 := by rw [hV, ← hbB]; simp
  have hrb : bB + 1 = rB := by omega
  have HNE : Hid (bB ≠ rB ∧ W.heap.size ≤ bB ∧ W.heap.size ≤ rB) := hide ⟨by omega, by omega, by omega⟩
  clear HV HBV HBX HX
  go_enter Try.func46, Try.ntmps46
  go_upto_region 1 with fail
  try rw [hbB]
  try rw [hrb]
  rw [← hV, ← hX]
  try rw [hrB]
  clear hV hX hbB hrB hs0 hrb HZbB HZrB
  go_cut [] from 3 to 11 (fun wd => Hid (CLb W bB rB ep id bg rs vs rn vn wd))
  case first =>
    have u3 := cellB HV0.out (i := 3) rfl
    have u4 := cellB HV0.out (i := 4) rfl
    refine wp_region_held_drew (S := fun _ => True) (by kernel_rfl) trivial (fun hHeld => ?_)
    refine tb 0 ?_ rfl (by kernel_rfl) (fun _ _ _ h => h) (by assumption) ?_ ?_
    rotate_left
    · intro w hSw
      (try dsimp only at hSw)
      go_simp
      all_goals with_reducible rfl
    simp only [Act.put]
    refine tb 3 ?_ rfl (by kernel_rfl) (fun _ _ _ h => h) (by assumption) ?_ ?_
    rotate_left
    · intro w hSw
      (try dsimp only at hSw)
      go_simp
      all_goals with_reducible rfl
    simp only [Act.put]
    refine wpAnyH_ready (rs := [1, 4]) (by kernel_rfl) (by simp) ?_
    refine AllReadyH.cons (o := _) rfl (fun K hK => ?_) (AllReadyH.cons (o := _) rfl (fun K hK => ?_) AllReadyH.nil)
    ·
      go_simp
      refine hK.out _ _ trivial (fun hHeld => ?_)
      clear hK
      refine wpAnyH_ready (rs := [2, 4]) (by kernel_rfl) (by simp) ?_
      refine AllReadyH.cons (o := _) rfl (fun K hK => ?_) (AllReadyH.cons (o := _) rfl (fun K hK => ?_) AllReadyH.nil)
      ·
        go_simp
        have HWd := hide HW0.out.drew
        refine (recClone (RRow.later HR.out HWd.out) HRN.out (by omega)).mono ?_
        rintro _ w1 ⟨p1, c1, rfl, hown, b0⟩
        have HV1 := hide (below_box b0 HV0.out)
        have HX1 := hide (below_box b0 HX0.out)
        have HW1 := hide (below_next HWd.out b0 HWd.out.size)
        have HOR := hide (ownsRow_base hown HWd.out.size)
        clear hown b0 HWd u3 u4
        have u3 := cellB HV1.out (i := 3) rfl
        have u4 := cellB HV1.out (i := 4) rfl
        go_wp2_with fail
        refine hK.out _ _ trivial (fun hHeld => ?_)
        clear hK
        refine rr 4 (o := _) rfl (by kernel_rfl) (fun K hK => ?_)
        go_simp
        refine hK.out _ _ trivial (fun hHeld => ?_)
        clear hK
        refine tb 6 ?_ rfl (by kernel_rfl) (fun _ _ _ h => h) (by assumption) ?_ ?_
        rotate_left
        · intro w hSw
          (try dsimp only at hSw)
          go_simp
          all_goals with_reducible rfl
        simp only [Act.put]
        refine rr 5 (o := _) rfl (by kernel_rfl) (fun K hK => ?_)
        go_simp
        have HWd := HW1
        refine (intClone (NRow.later HN.out HWd.out) HVN.out (by omega)).mono ?_
        rintro _ w2 ⟨q1, d1, rfl, hown, b0⟩
        have HV2 := hide (below_box b0 HV1.out)
        have HX2 := hide (below_box b0 HX1.out)
        have HW2 := hide (below_next HWd.out b0 HWd.out.size)
        have HON := hide (ownsRow_base hown HWd.out.size)
        have HOR := hide (ownsRow_later HOR.out b0)
        clear hown b0 HWd u3 u4
        have u3 := cellB HV2.out (i := 3) rfl
        have u4 := cellB HV2.out (i := 4) rfl
        go_wp2_with fail
        refine hK.out _ _ trivial (fun hHeld => ?_)
        clear hK
        refine rr 7 (o := _) rfl (by kernel_rfl) (fun K hK => ?_)
        have z3 := frB HV2.out (i := 3)
        have z4 := frB HV2.out (i := 4)
        go_simp
        refine hK.out _ _ trivial (fun hHeld => ?_)
        clear hK
        refine tb 8 ?_ rfl (by kernel_rfl) (fun _ _ _ h => h) (by assumption) ?_ ?_
        rotate_left
        · intro w hSw
          (try dsimp only at hSw)
          go_simp
          all_goals with_reducible rfl
        simp only [Act.put]
        refine rr 9 (o := _) rfl (by kernel_rfl) (fun K hK => ?_)
        go_simp
        refine hK.out _ _ trivial (fun hHeld => ?_)
        clear hK
        refine wpAnyH_done (by kernel_rfl) ?_ _
        have hoO : Only (· = bB) w2 ((w2.setCell ⟨bB, 3, none⟩ (.slice p1 rn c1)).setCell ⟨bB, 4, none⟩ (.slice q1 vn d1)) := (Only.set (F := (· = bB)) w2 bB 3 _ rfl).trans (Only.set (F := (· = bB)) _ bB 4 _ rfl)
        have HC : Hid (CLb W bB rB ep id bg rs vs rn vn ((w2.setCell ⟨bB, 3, none⟩ (.slice p1 rn c1)).setCell ⟨bB, 4, none⟩ (.slice q1 vn d1))) := hide ⟨⟨p1, c1, q1, d1, heap_set_sameL (heap_set_sameL HV2.out 3 _) 4 _, own_type HOR.out hoO HV2.out (by decide), own_type HON.out hoO HV2.out (by decide)⟩, hoO.obj HX2.out (fun e => by have e' : rB = bB := e; have := HNE.out; omega), HNE.out, HW2.out.trans (hoO.below HW2.out.size (fun i e => by have e' : i = bB := e; have := HNE.out; omega))⟩
        clear hoO u3 u4 z3 z4
        go_wp2_with fail
        go_meet
        case rel => exact HC
      ·
        go_simp
        refine hK.out _ _ trivial (fun hHeld => ?_)
        clear hK
        refine rr 2 (o := _) rfl (by kernel_rfl) (fun K hK => ?_)
        go_simp
        have HWd := hide HW0.out.drew
        refine (recClone (RRow.later HR.out HWd.out) HRN.out (by omega)).mono ?_
        rintro _ w1 ⟨p1, c1, rfl, hown, b0⟩
        have HV1 := hide (below_box b0 HV0.out)
        have HX1 := hide (below_box b0 HX0.out)
        have HW1 := hide (below_next HWd.out b0 HWd.out.size)
        have HOR := hide (ownsRow_base hown HWd.out.size)
        clear hown b0 HWd u3 u4
        have u3 := cellB HV1.out (i := 3) rfl
        have u4 := cellB HV1.out (i := 4) rfl
        go_wp2_with fail
        refine hK.out _ _ trivial (fun hHeld => ?_)
        clear hK
        refine tb 6 ?_ rfl (by kernel_rfl) (fun _ _ _ h => h) (by assumption) ?_ ?_
        rotate_left
        · intro w hSw
          (try dsimp only at hSw)
          go_simp
          all_goals with_reducible rfl
        simp only [Act.put]
        refine rr 5 (o := _) rfl (by kernel_rfl) (fun K hK => ?_)
        go_simp
        have HWd := HW1
        refine (intClone (NRow.later HN.out HWd.out) HVN.out (by omega)).mono ?_
        rintro _ w2 ⟨q1, d1, rfl, hown, b0⟩
        have HV2 := hide (below_box b0 HV1.out)
        have HX2 := hide (below_box b0 HX1.out)
        have HW2 := hide (below_next HWd.out b0 HWd.out.size)
        have HON := hide (ownsRow_base hown HWd.out.size)
        have HOR := hide (ownsRow_later HOR.out b0)
        clear hown b0 HWd u3 u4
        have u3 := cellB HV2.out (i := 3) rfl
        have u4 := cellB HV2.out (i := 4) rfl
        go_wp2_with fail
        refine hK.out _ _ trivial (fun hHeld => ?_)
        clear hK
        refine rr 7 (o := _) rfl (by kernel_rfl) (fun K hK => ?_)
        have z3 := frB HV2.out (i := 3)
        have z4 := frB HV2.out (i := 4)
        go_simp
        refine hK.out _ _ trivial (fun hHeld => ?_)
        clear hK
        refine tb 8 ?_ rfl (by kernel_rfl) (fun _ _ _ h => h) (by assumption) ?_ ?_
        rotate_left
        · intro w hSw
          (try dsimp only at hSw)
          go_simp
          all_goals with_reducible rfl
        simp only [Act.put]
        refine rr 9 (o := _) rfl (by kernel_rfl) (fun K hK => ?_)
        go_simp
        refine hK.out _ _ trivial (fun hHeld => ?_)
        clear hK
        refine wpAnyH_done (by kernel_rfl) ?_ _
        have hoO : Only (· = bB) w2 ((w2.setCell ⟨bB, 3, none⟩ (.slice p1 rn c1)).setCell ⟨bB, 4, none⟩ (.slice q1 vn d1)) := (Only.set (F := (· = bB)) w2 bB 3 _ rfl).trans (Only.set (F := (· = bB)) _ bB 4 _ rfl)
        have HC : Hid (CLb W bB rB ep id bg rs vs rn vn ((w2.setCell ⟨bB, 3, none⟩ (.slice p1 rn c1)).setCell ⟨bB, 4, none⟩ (.slice q1 vn d1))) := hide ⟨⟨p1, c1, q1, d1, heap_set_sameL (heap_set_sameL HV2.out 3 _) 4 _, own_type HOR.out hoO HV2.out (by decide), own_type HON.out hoO HV2.out (by decide)⟩, hoO.obj HX2.out (fun e => by have e' : rB = bB := e; have := HNE.out; omega), HNE.out, HW2.out.trans (hoO.below HW2.out.size (fun i e => by have e' : i = bB := e; have := HNE.out; omega))⟩
        clear hoO u3 u4 z3 z4
        go_wp2_with fail
        go_meet
        case rel => exact HC
    ·
      go_simp
      refine hK.out _ _ trivial (fun hHeld => ?_)
      clear hK
      refine rr 1 (o := _) rfl (by kernel_rfl) (fun K hK => ?_)
      go_simp
      refine hK.out _ _ trivial (fun hHeld => ?_)
      clear hK
      refine rr 2 (o := _) rfl (by kernel_rfl) (fun K hK => ?_)
      go_simp
      have HWd := hide HW0.out.drew
      refine (recClone (RRow.later HR.out HWd.out) HRN.out (by omega)).mono ?_
      rintro _ w1 ⟨p1, c1, rfl, hown, b0⟩
      have HV1 := hide (below_box b0 HV0.out)
      have HX1 := hide (below_box b0 HX0.out)
      have HW1 := hide (below_next HWd.out b0 HWd.out.size)
      have HOR := hide (ownsRow_base hown HWd.out.size)
      clear hown b0 HWd u3 u4
      have u3 := cellB HV1.out (i := 3) rfl
      have u4 := cellB HV1.out (i := 4) rfl
      go_wp2_with fail
      refine hK.out _ _ trivial (fun hHeld => ?_)
      clear hK
      refine tb 6 ?_ rfl (by kernel_rfl) (fun _ _ _ h => h) (by assumption) ?_ ?_
      rotate_left
      · intro w hSw
        (try dsimp only at hSw)
        go_simp
        all_goals with_reducible rfl
      simp only [Act.put]
      refine rr 5 (o := _) rfl (by kernel_rfl) (fun K hK => ?_)
      go_simp
      have HWd := HW1
      refine (intClone (NRow.later HN.out HWd.out) HVN.out (by omega)).mono ?_
      rintro _ w2 ⟨q1, d1, rfl, hown, b0⟩
      have HV2 := hide (below_box b0 HV1.out)
      have HX2 := hide (below_box b0 HX1.out)
      have HW2 := hide (below_next HWd.out b0 HWd.out.size)
      have HON := hide (ownsRow_base hown HWd.out.size)
      have HOR := hide (ownsRow_later HOR.out b0)
      clear hown b0 HWd u3 u4
      have u3 := cellB HV2.out (i := 3) rfl
      have u4 := cellB HV2.out (i := 4) rfl
      go_wp2_with fail
      refine hK.out _ _ trivial (fun hHeld => ?_)
      clear hK
      refine rr 7 (o := _) rfl (by kernel_rfl) (fun K hK => ?_)
      have z3 := frB HV2.out (i := 3)
      have z4 := frB HV2.out (i := 4)
      go_simp
      refine hK.out _ _ trivial (fun hHeld => ?_)
      clear hK
      refine tb 8 ?_ rfl (by kernel_rfl) (fun _ _ _ h => h) (by assumption) ?_ ?_
      rotate_left
      · intro w hSw
        (try dsimp only at hSw)
        go_simp
        all_goals with_reducible rfl
      simp only [Act.put]
      refine rr 9 (o := _) rfl (by kernel_rfl) (fun K hK => ?_)
      go_simp
      refine hK.out _ _ trivial (fun hHeld => ?_)
      clear hK
      refine wpAnyH_done (by kernel_rfl) ?_ _
      have hoO : Only (· = bB) w2 ((w2.setCell ⟨bB, 3, none⟩ (.slice p1 rn c1)).setCell ⟨bB, 4, none⟩ (.slice q1 vn d1)) := (Only.set (F := (· = bB)) w2 bB 3 _ rfl).trans (Only.set (F := (· = bB)) _ bB 4 _ rfl)
      have HC : Hid (CLb W bB rB ep id bg rs vs rn vn ((w2.setCell ⟨bB, 3, none⟩ (.slice p1 rn c1)).setCell ⟨bB, 4, none⟩ (.slice q1 vn d1))) := hide ⟨⟨p1, c1, q1, d1, heap_set_sameL (heap_set_sameL HV2.out 3 _) 4 _, own_type HOR.out hoO HV2.out (by decide), own_type HON.out hoO HV2.out (by decide)⟩, hoO.obj HX2.out (fun e => by have e' : rB = bB := e; have := HNE.out; omega), HNE.out, HW2.out.trans (hoO.below HW2.out.size (fun i e => by have e' : i = bB := e; have := HNE.out; omega))⟩
      clear hoO u3 u4 z3 z4
      go_wp2_with fail
      go_meet
      case rel => exact HC
  case rest =>
    obtain ⟨⟨p1, c1, q1, d1, hb, ho1, ho2⟩, hrs, hne, hbl⟩ := hcut.out
    have HB := hide hb
    have HS := hide hrs
    have HO1 := hide ho1
    have HO2 := hide ho2
    have HNB := hide hne
    have HBL := hide hbl
    rename World => wd
    clear hb hrs ho1 ho2 hne hbl hcut
    have u0 := cellB HB.out (i := 0) rfl
    have r0 := cellB HS.out (i := 0) rfl
    have f0 := frB HS.out (i := 0)
    have u1 := cellB HB.out (i := 1) rfl
    have r1 := cellB HS.out (i := 1) rfl
    have f1 := frB HS.out (i := 1)
    have u2 := cellB HB.out (i := 2) rfl
    have r2 := cellB HS.out (i := 2) rfl
    have f2 := frB HS.out (i := 2)
    have u3 := cellB HB.out (i := 3) rfl
    have r3 := cellB HS.out (i := 3) rfl
    have f3 := frB HS.out (i := 3)
    have u4 := cellB HB.out (i := 4) rfl
    have r4 := cellB HS.out (i := 4) rfl
    have f4 := frB HS.out (i := 4)
    go_wp2
    have hE := five_own HS.out (.int .i64 ep) (.int .i64 id) (.int .i64 bg) (.slice p1 rn c1) (.slice q1 vn d1)
    have hO := only_five wd rB (.int .i64 ep) (.int .i64 id) (.int .i64 bg) (.slice p1 rn c1) (.slice q1 vn d1)
    refine bodyPost_ret (results_cell_one rfl _ _ rB 34 _ _ _ rfl hE Try.underlying34 rfl (by kernel_rfl)) rfl ?_
    exact ⟨p1, c1, q1, d1, rfl, own_type HO1.out hO HS.out (by decide), own_type HO2.out hO HS.out (by decide), HBL.out.trans (hO.below HBL.out.size (fun i e => by have e' : i = rB := e; have := HNB.out; omega))⟩
set_option maxRecDepth 100000 in
set_option maxHeartbeats 8000000 in
theorem rclone_any {W : World} {ep id bg : Int} {rp vp : Option Addr} {rn rc vn vc : Nat} {rs : List RC} {vs : List Int} (hr : RRow W rp rc rs) (hv : NRow W vp vc vs) (hrn : rs.length = rn) (hvn : vs.length = vn) (hb1 : rn ≤ 1048576) (hb2 : vn ≤ 1048576) :
    Calls Try.prog 70 #[.agg #[.int .i64 ep, .int .i64 id, .int .i64 bg, .slice rp rn rc, .slice vp vn vc]] W (CloT W ep id bg rs vs rn vn) := by
  obtain ⟨i0, hI0, hz0, hz1, hz2⟩ := info_parts Try.infoRec
  obtain ⟨j0, hJ0, hy0, hy1, hy2⟩ := info_parts Try.infoN
  have HR := hide hr
  have HN := hide hv
  have HRN := hide hrn
  have HVN := hide hvn
  clear hr hv hrn hvn
  obtain ⟨V, hV⟩ : ∃ V, V = W.alloc (.cells #[.int .i64 ep, .int .i64 id, .int .i64 bg, .slice rp rn rc, .slice vp vn vc] 34 (0, 0)) := ⟨_, rfl⟩
  have HV : Hid (V.heap[W.heap.size]? = some (.cells #[.int .i64 ep, .int .i64 id, .int .i64 bg, .slice rp rn rc, .slice vp vn vc] 34 (0, 0))) := hide (by rw [hV]; exact heap_alloc_new W _)
  have HBV : Hid (Below W.heap.size W V) := hide (by rw [hV]; exact alloc_below _ _)
  obtain ⟨bB, hbB⟩ : ∃ bB, W.heap.size = bB := ⟨_, rfl⟩
  rw [hbB] at HV HBV
  have HZbB := hide hbB
  obtain ⟨X, hX⟩ : ∃ X, X = V.alloc (.cells #[.int .i64 0, .int .i64 0, .int .i64 0, .slice none 0 0, .slice none 0 0] 34 (0, 0)) := ⟨_, rfl⟩
  have HX : Hid (X.heap[V.heap.size]? = some (.cells #[.int .i64 0, .int .i64 0, .int .i64 0, .slice none 0 0, .slice none 0 0] 34 (0, 0))) := hide (by rw [hX]; exact heap_alloc_new V _)
  have HBX : Hid (Below V.heap.size V X) := hide (by rw [hX]; exact alloc_below _ _)
  obtain ⟨rB, hrB⟩ : ∃ rB, V.heap.size = rB := ⟨_, rfl⟩
  rw [hrB] at HX HBX
  have HZrB := hide hrB
  have HV0 := hide (below_box (show Below V.heap.size V X by rw [hX]; exact alloc_below _ _) HV.out)
  have HW0 : Hid (Below W.heap.size W X) := hide (by rw [hX, hV]; exact (alloc_below _ _).trans ((alloc_below _ _).mono (by simp)))
  have HX0 := HX
  have hs0 : V.heap.size = bB + 1 := by rw [hV, ← hbB]; simp
  have hrb : bB + 1 = rB := by omega
  have HNE : Hid (bB ≠ rB ∧ W.heap.size ≤ bB ∧ W.heap.size ≤ rB) := hide ⟨by omega, by omega, by omega⟩
  clear HV HBV HBX HX
  go_enter Try.func70, Try.ntmps70
  go_upto_region 3 with fail
  try rw [hbB]
  try rw [hrb]
  rw [← hV, ← hX]
  try rw [hrB]
  clear hV hX hbB hrB hs0 hrb HZbB HZrB
  have HK1 : Hid (0 + rn ≤ maxLen) := by show _ ≤ _; unfold maxLen; omega
  have HK2 : Hid ((0 + rn) * 16 ≤ 140737488355328) := by show _ ≤ _; omega
  have HK3 : Hid (0 + vn ≤ maxLen) := by show _ ≤ _; unfold maxLen; omega
  have HK4 : Hid ((0 + vn) * 8 ≤ 140737488355328) := by show _ ≤ _; omega
  go_cut [] from 5 to 15 (fun wd => Hid (CLb W bB rB ep id bg rs vs rn vn wd))
  case first =>
    have u3 := cellB HV0.out (i := 3) rfl
    have u4 := cellB HV0.out (i := 4) rfl
    refine wp_region_held_drew (S := fun _ => True) (by kernel_rfl) trivial (fun hHeld => ?_)
    refine tb 0 ?_ rfl (by kernel_rfl) (fun _ _ _ h => h) (by assumption) ?_ ?_
    rotate_left
    · intro w hSw
      (try dsimp only at hSw)
      go_simp
      all_goals with_reducible rfl
    simp only [Act.put]
    refine tb 1 ?_ rfl (by kernel_rfl) (fun _ _ _ h => h) (by assumption) ?_ ?_
    rotate_left
    · intro w hSw
      (try dsimp only at hSw)
      go_simp
      all_goals with_reducible rfl
    simp only [Act.put]
    refine tb 4 ?_ rfl (by kernel_rfl) (fun _ _ _ h => h) (by assumption) ?_ ?_
    rotate_left
    · intro w hSw
      (try dsimp only at hSw)
      go_simp
      all_goals with_reducible rfl
    simp only [Act.put]
    refine tb 5 ?_ rfl (by kernel_rfl) (fun _ _ _ h => h) (by assumption) ?_ ?_
    rotate_left
    · intro w hSw
      (try dsimp only at hSw)
      go_simp
      all_goals with_reducible rfl
    simp only [Act.put]
    refine wpAnyH_ready (rs := [2, 6]) (by kernel_rfl) (by simp) ?_
    refine AllReadyH.cons (o := _) rfl (fun K hK => ?_) (AllReadyH.cons (o := _) rfl (fun K hK => ?_) AllReadyH.nil)
    ·
      go_simp
      refine hK.out _ _ trivial (fun hHeld => ?_)
      clear hK
      refine wpAnyH_ready (rs := [3, 6]) (by kernel_rfl) (by simp) ?_
      refine AllReadyH.cons (o := _) rfl (fun K hK => ?_) (AllReadyH.cons (o := _) rfl (fun K hK => ?_) AllReadyH.nil)
      ·
        have HWd := hide HW0.out.drew
        have HSG := hide (LRow.seg (by decide) RC.len RC.one (RRow.later HR.out HWd.out))
        rw [HRN.out] at HSG
        refine step_append_cells rfl (.tmp 5) (.tmp 7) 31 rfl W.heap.size 49 i0 (.agg #[.int .i64 0, .int .i64 0]) 2 16 Try.underlying31 hI0 hz0 hz1 hz2 rfl (by decide) (.slice none 0 0) 0 [] (by simp [Act.eval]) (World.ownsRow_nil _ _ _ _) (.slice rp rn rc) rn (rs.flatMap RC.cells) (by simp [Act.eval]) HSG.out HK1.out HK2.out HWd.out.size ?_
        intro p1 c1 w1 hown hgrow
        have b0 := (Below.refl _ _).grown hgrow (Nat.le_refl _) (by intro k hk; simp [Value.ownBlock] at hk)
        have HV1 := hide (below_box b0 HV0.out)
        have HX1 := hide (below_box b0 HX0.out)
        have HW1 := hide (below_next HWd.out b0 HWd.out.size)
        rw [Nat.zero_add, List.nil_append] at hown
        have HOR := hide hown
        rw [Nat.zero_add]
        clear hown hgrow b0 HSG HWd u3 u4
        have u3 := cellB HV1.out (i := 3) rfl
        have u4 := cellB HV1.out (i := 4) rfl
        refine hK.out _ _ trivial (fun hHeld => ?_)
        clear hK
        simp only [Act.put, List.setIfInBounds_toArray]
        refine rr 6 (o := _) rfl (by kernel_rfl) (fun K hK => ?_)
        go_simp
        refine hK.out _ _ trivial (fun hHeld => ?_)
        clear hK
        refine tb 8 ?_ rfl (by kernel_rfl) (fun _ _ _ h => h) (by assumption) ?_ ?_
        rotate_left
        · intro w hSw
          (try dsimp only at hSw)
          go_simp
          all_goals with_reducible rfl
        simp only [Act.put]
        refine rr 7 (o := _) rfl (by kernel_rfl) (fun K hK => ?_)
        have HWd := HW1
        have HSG := hide (LRow.seg (by decide) intCells_len intCells_one (NRow.later HN.out HWd.out))
        rw [HVN.out] at HSG
        refine step_append_cells rfl (.tmp 9) (.tmp 11) 32 rfl W.heap.size 2 j0 (.int .i64 0) 1 8 Try.underlying32 hJ0 hy0 hy1 hy2 rfl (by decide) (.slice none 0 0) 0 [] (by simp [Act.eval]) (World.ownsRow_nil _ _ _ _) (.slice vp vn vc) vn (vs.flatMap intCells) (by simp [Act.eval]) HSG.out HK3.out HK4.out HWd.out.size ?_
        intro q1 d1 w2 hown hgrow
        have b0 := (Below.refl _ _).grown hgrow (Nat.le_refl _) (by intro k hk; simp [Value.ownBlock] at hk)
        have HV2 := hide (below_box b0 HV1.out)
        have HX2 := hide (below_box b0 HX1.out)
        have HW2 := hide (below_next HWd.out b0 HWd.out.size)
        rw [Nat.zero_add, List.nil_append] at hown
        have HON := hide hown
        have HOR := hide (ownsRow_later HOR.out b0)
        rw [Nat.zero_add]
        clear hown hgrow b0 HSG HWd u3 u4
        have u3 := cellB HV2.out (i := 3) rfl
        have u4 := cellB HV2.out (i := 4) rfl
        refine hK.out _ _ trivial (fun hHeld => ?_)
        clear hK
        simp only [Act.put, List.setIfInBounds_toArray]
        refine rr 9 (o := _) rfl (by kernel_rfl) (fun K hK => ?_)
        have z3 := frB HV2.out (i := 3)
        have z4 := frB HV2.out (i := 4)
        go_simp
        refine hK.out _ _ trivial (fun hHeld => ?_)
        clear hK
        refine tb 10 ?_ rfl (by kernel_rfl) (fun _ _ _ h => h) (by assumption) ?_ ?_
        rotate_left
        · intro w hSw
          (try dsimp only at hSw)
          go_simp
          all_goals with_reducible rfl
        simp only [Act.put]
        refine rr 11 (o := _) rfl (by kernel_rfl) (fun K hK => ?_)
        go_simp
        refine hK.out _ _ trivial (fun hHeld => ?_)
        clear hK
        refine wpAnyH_done (by kernel_rfl) ?_ _
        have hoO : Only (· = bB) w2 ((w2.setCell ⟨bB, 3, none⟩ (.slice p1 rn c1)).setCell ⟨bB, 4, none⟩ (.slice q1 vn d1)) := (Only.set (F := (· = bB)) w2 bB 3 _ rfl).trans (Only.set (F := (· = bB)) _ bB 4 _ rfl)
        have HC : Hid (CLb W bB rB ep id bg rs vs rn vn ((w2.setCell ⟨bB, 3, none⟩ (.slice p1 rn c1)).setCell ⟨bB, 4, none⟩ (.slice q1 vn d1))) := hide ⟨⟨p1, c1, q1, d1, heap_set_sameL (heap_set_sameL HV2.out 3 _) 4 _, own_type HOR.out hoO HV2.out (by decide), own_type HON.out hoO HV2.out (by decide)⟩, hoO.obj HX2.out (fun e => by have e' : rB = bB := e; have := HNE.out; omega), HNE.out, HW2.out.trans (hoO.below HW2.out.size (fun i e => by have e' : i = bB := e; have := HNE.out; omega))⟩
        clear hoO u3 u4 z3 z4
        go_wp2_with fail
        go_meet
        case rel => exact HC
      ·
        go_simp
        refine hK.out _ _ trivial (fun hHeld => ?_)
        clear hK
        refine rr 3 (o := _) rfl (by kernel_rfl) (fun K hK => ?_)
        have HWd := hide HW0.out.drew
        have HSG := hide (LRow.seg (by decide) RC.len RC.one (RRow.later HR.out HWd.out))
        rw [HRN.out] at HSG
        refine step_append_cells rfl (.tmp 5) (.tmp 7) 31 rfl W.heap.size 49 i0 (.agg #[.int .i64 0, .int .i64 0]) 2 16 Try.underlying31 hI0 hz0 hz1 hz2 rfl (by decide) (.slice none 0 0) 0 [] (by simp [Act.eval]) (World.ownsRow_nil _ _ _ _) (.slice rp rn rc) rn (rs.flatMap RC.cells) (by simp [Act.eval]) HSG.out HK1.out HK2.out HWd.out.size ?_
        intro p1 c1 w1 hown hgrow
        have b0 := (Below.refl _ _).grown hgrow (Nat.le_refl _) (by intro k hk; simp [Value.ownBlock] at hk)
        have HV1 := hide (below_box b0 HV0.out)
        have HX1 := hide (below_box b0 HX0.out)
        have HW1 := hide (below_next HWd.out b0 HWd.out.size)
        rw [Nat.zero_add, List.nil_append] at hown
        have HOR := hide hown
        rw [Nat.zero_add]
        clear hown hgrow b0 HSG HWd u3 u4
        have u3 := cellB HV1.out (i := 3) rfl
        have u4 := cellB HV1.out (i := 4) rfl
        refine hK.out _ _ trivial (fun hHeld => ?_)
        clear hK
        simp only [Act.put, List.setIfInBounds_toArray]
        refine tb 8 ?_ rfl (by kernel_rfl) (fun _ _ _ h => h) (by assumption) ?_ ?_
        rotate_left
        · intro w hSw
          (try dsimp only at hSw)
          go_simp
          all_goals with_reducible rfl
        simp only [Act.put]
        refine rr 7 (o := _) rfl (by kernel_rfl) (fun K hK => ?_)
        have HWd := HW1
        have HSG := hide (LRow.seg (by decide) intCells_len intCells_one (NRow.later HN.out HWd.out))
        rw [HVN.out] at HSG
        refine step_append_cells rfl (.tmp 9) (.tmp 11) 32 rfl W.heap.size 2 j0 (.int .i64 0) 1 8 Try.underlying32 hJ0 hy0 hy1 hy2 rfl (by decide) (.slice none 0 0) 0 [] (by simp [Act.eval]) (World.ownsRow_nil _ _ _ _) (.slice vp vn vc) vn (vs.flatMap intCells) (by simp [Act.eval]) HSG.out HK3.out HK4.out HWd.out.size ?_
        intro q1 d1 w2 hown hgrow
        have b0 := (Below.refl _ _).grown hgrow (Nat.le_refl _) (by intro k hk; simp [Value.ownBlock] at hk)
        have HV2 := hide (below_box b0 HV1.out)
        have HX2 := hide (below_box b0 HX1.out)
        have HW2 := hide (below_next HWd.out b0 HWd.out.size)
        rw [Nat.zero_add, List.nil_append] at hown
        have HON := hide hown
        have HOR := hide (ownsRow_later HOR.out b0)
        rw [Nat.zero_add]
        clear hown hgrow b0 HSG HWd u3 u4
        have u3 := cellB HV2.out (i := 3) rfl
        have u4 := cellB HV2.out (i := 4) rfl
        refine hK.out _ _ trivial (fun hHeld => ?_)
        clear hK
        simp only [Act.put]
        refine rr 9 (o := _) rfl (by kernel_rfl) (fun K hK => ?_)
        have z3 := frB HV2.out (i := 3)
        have z4 := frB HV2.out (i := 4)
        go_simp
        refine hK.out _ _ trivial (fun hHeld => ?_)
        clear hK
        refine tb 10 ?_ rfl (by kernel_rfl) (fun _ _ _ h => h) (by assumption) ?_ ?_
        rotate_left
        · intro w hSw
          (try dsimp only at hSw)
          go_simp
          all_goals with_reducible rfl
        simp only [Act.put]
        refine rr 11 (o := _) rfl (by kernel_rfl) (fun K hK => ?_)
        go_simp
        refine hK.out _ _ trivial (fun hHeld => ?_)
        clear hK
        refine wpAnyH_done (by kernel_rfl) ?_ _
        have hoO : Only (· = bB) w2 ((w2.setCell ⟨bB, 3, none⟩ (.slice p1 rn c1)).setCell ⟨bB, 4, none⟩ (.slice q1 vn d1)) := (Only.set (F := (· = bB)) w2 bB 3 _ rfl).trans (Only.set (F := (· = bB)) _ bB 4 _ rfl)
        have HC : Hid (CLb W bB rB ep id bg rs vs rn vn ((w2.setCell ⟨bB, 3, none⟩ (.slice p1 rn c1)).setCell ⟨bB, 4, none⟩ (.slice q1 vn d1))) := hide ⟨⟨p1, c1, q1, d1, heap_set_sameL (heap_set_sameL HV2.out 3 _) 4 _, own_type HOR.out hoO HV2.out (by decide), own_type HON.out hoO HV2.out (by decide)⟩, hoO.obj HX2.out (fun e => by have e' : rB = bB := e; have := HNE.out; omega), HNE.out, HW2.out.trans (hoO.below HW2.out.size (fun i e => by have e' : i = bB := e; have := HNE.out; omega))⟩
        clear hoO u3 u4 z3 z4
        go_wp2_with fail
        go_meet
        case rel => exact HC
    ·
      go_simp
      refine hK.out _ _ trivial (fun hHeld => ?_)
      clear hK
      refine rr 2 (o := _) rfl (by kernel_rfl) (fun K hK => ?_)
      go_simp
      refine hK.out _ _ trivial (fun hHeld => ?_)
      clear hK
      refine rr 3 (o := _) rfl (by kernel_rfl) (fun K hK => ?_)
      have HWd := hide HW0.out.drew
      have HSG := hide (LRow.seg (by decide) RC.len RC.one (RRow.later HR.out HWd.out))
      rw [HRN.out] at HSG
      refine step_append_cells rfl (.tmp 5) (.tmp 7) 31 rfl W.heap.size 49 i0 (.agg #[.int .i64 0, .int .i64 0]) 2 16 Try.underlying31 hI0 hz0 hz1 hz2 rfl (by decide) (.slice none 0 0) 0 [] (by simp [Act.eval]) (World.ownsRow_nil _ _ _ _) (.slice rp rn rc) rn (rs.flatMap RC.cells) (by simp [Act.eval]) HSG.out HK1.out HK2.out HWd.out.size ?_
      intro p1 c1 w1 hown hgrow
      have b0 := (Below.refl _ _).grown hgrow (Nat.le_refl _) (by intro k hk; simp [Value.ownBlock] at hk)
      have HV1 := hide (below_box b0 HV0.out)
      have HX1 := hide (below_box b0 HX0.out)
      have HW1 := hide (below_next HWd.out b0 HWd.out.size)
      rw [Nat.zero_add, List.nil_append] at hown
      have HOR := hide hown
      rw [Nat.zero_add]
      clear hown hgrow b0 HSG HWd u3 u4
      have u3 := cellB HV1.out (i := 3) rfl
      have u4 := cellB HV1.out (i := 4) rfl
      refine hK.out _ _ trivial (fun hHeld => ?_)
      clear hK
      simp only [Act.put, List.setIfInBounds_toArray]
      refine tb 8 ?_ rfl (by kernel_rfl) (fun _ _ _ h => h) (by assumption) ?_ ?_
      rotate_left
      · intro w hSw
        (try dsimp only at hSw)
        go_simp
        all_goals with_reducible rfl
      simp only [Act.put]
      refine rr 7 (o := _) rfl (by kernel_rfl) (fun K hK => ?_)
      have HWd := HW1
      have HSG := hide (LRow.seg (by decide) intCells_len intCells_one (NRow.later HN.out HWd.out))
      rw [HVN.out] at HSG
      refine step_append_cells rfl (.tmp 9) (.tmp 11) 32 rfl W.heap.size 2 j0 (.int .i64 0) 1 8 Try.underlying32 hJ0 hy0 hy1 hy2 rfl (by decide) (.slice none 0 0) 0 [] (by simp [Act.eval]) (World.ownsRow_nil _ _ _ _) (.slice vp vn vc) vn (vs.flatMap intCells) (by simp [Act.eval]) HSG.out HK3.out HK4.out HWd.out.size ?_
      intro q1 d1 w2 hown hgrow
      have b0 := (Below.refl _ _).grown hgrow (Nat.le_refl _) (by intro k hk; simp [Value.ownBlock] at hk)
      have HV2 := hide (below_box b0 HV1.out)
      have HX2 := hide (below_box b0 HX1.out)
      have HW2 := hide (below_next HWd.out b0 HWd.out.size)
      rw [Nat.zero_add, List.nil_append] at hown
      have HON := hide hown
      have HOR := hide (ownsRow_later HOR.out b0)
      rw [Nat.zero_add]
      clear hown hgrow b0 HSG HWd u3 u4
      have u3 := cellB HV2.out (i := 3) rfl
      have u4 := cellB HV2.out (i := 4) rfl
      refine hK.out _ _ trivial (fun hHeld => ?_)
      clear hK
      simp only [Act.put]
      refine rr 9 (o := _) rfl (by kernel_rfl) (fun K hK => ?_)
      have z3 := frB HV2.out (i := 3)
      have z4 := frB HV2.out (i := 4)
      go_simp
      refine hK.out _ _ trivial (fun hHeld => ?_)
      clear hK
      refine tb 10 ?_ rfl (by kernel_rfl) (fun _ _ _ h => h) (by assumption) ?_ ?_
      rotate_left
      · intro w hSw
        (try dsimp only at hSw)
        go_simp
        all_goals with_reducible rfl
      simp only [Act.put]
      refine rr 11 (o := _) rfl (by kernel_rfl) (fun K hK => ?_)
      go_simp
      refine hK.out _ _ trivial (fun hHeld => ?_)
      clear hK
      refine wpAnyH_done (by kernel_rfl) ?_ _
      have hoO : Only (· = bB) w2 ((w2.setCell ⟨bB, 3, none⟩ (.slice p1 rn c1)).setCell ⟨bB, 4, none⟩ (.slice q1 vn d1)) := (Only.set (F := (· = bB)) w2 bB 3 _ rfl).trans (Only.set (F := (· = bB)) _ bB 4 _ rfl)
      have HC : Hid (CLb W bB rB ep id bg rs vs rn vn ((w2.setCell ⟨bB, 3, none⟩ (.slice p1 rn c1)).setCell ⟨bB, 4, none⟩ (.slice q1 vn d1))) := hide ⟨⟨p1, c1, q1, d1, heap_set_sameL (heap_set_sameL HV2.out 3 _) 4 _, own_type HOR.out hoO HV2.out (by decide), own_type HON.out hoO HV2.out (by decide)⟩, hoO.obj HX2.out (fun e => by have e' : rB = bB := e; have := HNE.out; omega), HNE.out, HW2.out.trans (hoO.below HW2.out.size (fun i e => by have e' : i = bB := e; have := HNE.out; omega))⟩
      clear hoO u3 u4 z3 z4
      go_wp2_with fail
      go_meet
      case rel => exact HC
  case rest =>
    obtain ⟨⟨p1, c1, q1, d1, hb, ho1, ho2⟩, hrs, hne, hbl⟩ := hcut.out
    have HB := hide hb
    have HS := hide hrs
    have HO1 := hide ho1
    have HO2 := hide ho2
    have HNB := hide hne
    have HBL := hide hbl
    rename World => wd
    clear hb hrs ho1 ho2 hne hbl hcut
    have u0 := cellB HB.out (i := 0) rfl
    have r0 := cellB HS.out (i := 0) rfl
    have f0 := frB HS.out (i := 0)
    have u1 := cellB HB.out (i := 1) rfl
    have r1 := cellB HS.out (i := 1) rfl
    have f1 := frB HS.out (i := 1)
    have u2 := cellB HB.out (i := 2) rfl
    have r2 := cellB HS.out (i := 2) rfl
    have f2 := frB HS.out (i := 2)
    have u3 := cellB HB.out (i := 3) rfl
    have r3 := cellB HS.out (i := 3) rfl
    have f3 := frB HS.out (i := 3)
    have u4 := cellB HB.out (i := 4) rfl
    have r4 := cellB HS.out (i := 4) rfl
    have f4 := frB HS.out (i := 4)
    go_wp2
    have hE := five_own HS.out (.int .i64 ep) (.int .i64 id) (.int .i64 bg) (.slice p1 rn c1) (.slice q1 vn d1)
    have hO := only_five wd rB (.int .i64 ep) (.int .i64 id) (.int .i64 bg) (.slice p1 rn c1) (.slice q1 vn d1)
    refine bodyPost_ret (results_cell_one rfl _ _ rB 34 _ _ _ rfl hE Try.underlying34 rfl (by kernel_rfl)) rfl ?_
    exact ⟨p1, c1, q1, d1, rfl, own_type HO1.out hO HS.out (by decide), own_type HO2.out hO HS.out (by decide), HBL.out.trans (hO.below HBL.out.size (fun i e => by have e' : i = rB := e; have := HNB.out; omega))⟩
end Go.Proofs.Ytboofnkajjnmeaa
