/-
  The reference's Step, All of package oper, from nothing kept. The conditions: lengths.
-/
import Derived.Test.YtifldnpccgbnkaaGreatRff
import Derived.Test.YtifldnpccgbnkaaGreatRft
import Derived.Deep.RegionHeld3
namespace Go.Proofs.YtifldnpccgbnkaaGreat.Op
open Go.RowKit

theorem Tryz.infoPut7 : (Tryz.prog.info? 103).map (fun i => (i.zero, i.size, i.bytes)) = some (some (.agg #[.int .i64 0, .int .i64 0, .int .i64 0]), 3, 24) := by kernel_rfl
/-- Step's boxes, while it works. -/
structure St (W V X : World) (oB sB rB tB : Nat) (ob sb rb tb : Obj) : Prop where
  o : X.heap[oB]? = some ob
  s : X.heap[sB]? = some sb
  r : X.heap[rB]? = some rb
  t : X.heap[tB]? = some tb
  below : Below W.heap.size W X
  size : V.heap.size ≤ X.heap.size
theorem St.later {W V X X' : World} {oB sB rB tB : Nat} {ob sb rb tb : Obj} (h : St W V X oB sB rB tB ob sb rb tb) (hb : Below X.heap.size X X') : St W V X' oB sB rB tB ob sb rb tb :=
  ⟨below_box hb h.o, below_box hb h.s, below_box hb h.r, below_box hb h.t, h.below.trans (hb.mono h.below.size), Nat.le_trans h.size hb.size⟩
theorem St.store {W V X : World} {oB sB rB tB : Nat} {ob sb rb : Obj} {c0 c1 : Value} (h : St W V X oB sB rB tB ob sb rb (.cells #[c0, c1] 58 (0, 0))) (h1 : oB < tB) (h2 : sB < tB) (h3 : rB < tB) (hW : W.heap.size ≤ tB) (a b : Value) : St W V ((X.setCell ⟨tB, 0, none⟩ a).setCell ⟨tB, 1, none⟩ b) oB sB rB tB ob sb rb (.cells #[a, b] 58 (0, 0)) := by
  have hO := (Only.set (F := (· = tB)) X tB 0 a rfl).trans (Only.set (F := (· = tB)) _ tB 1 b rfl)
  refine ⟨hO.obj h.o (fun e => ?_), hO.obj h.s (fun e => ?_), hO.obj h.r (fun e => ?_), Go.Proofs.YtifldnpccgbnkaaGreat.two_set h.t _ _, (h.below.setCell (p := ⟨tB, 0, none⟩) hW _).setCell (p := ⟨tB, 1, none⟩) hW _, Nat.le_trans h.size hO.size⟩
  · have e' : oB = tB := e
    omega
  · have e' : sB = tB := e
    omega
  · have e' : rB = tB := e
    omega
theorem St.cells {W V X : World} {oB sB rB tB : Nat} {kd pt fn ar tn ky vl : Int} {ip p : Option Addr} {n0 ic n c : Nat} {tb : Obj} (h : St W V X oB sB rB tB (.cells #[.int .i64 kd, .int .i64 pt, .int .i64 fn, .int .i64 ar, .slice ip n0 ic] 55 (0, 0)) (.cells #[.slice p n c, .int .i64 tn] 58 (0, 0)) (.cells #[.int .i64 ky, .int .i64 vl] 71 (0, 0)) tb) :
    X.cell? ⟨oB, 0, none⟩ = some (.int .i64 kd) ∧ X.cell? ⟨oB, 1, none⟩ = some (.int .i64 pt) ∧ X.cell? ⟨oB, 2, none⟩ = some (.int .i64 fn) ∧ X.cell? ⟨oB, 3, none⟩ = some (.int .i64 ar) ∧ X.cell? ⟨oB, 4, none⟩ = some (.slice ip n0 ic) ∧ X.cell? ⟨sB, 0, none⟩ = some (.slice p n c) ∧ X.cell? ⟨sB, 1, none⟩ = some (.int .i64 tn) ∧ X.cell? ⟨rB, 0, none⟩ = some (.int .i64 ky) ∧ X.cell? ⟨rB, 1, none⟩ = some (.int .i64 vl) :=
  ⟨by simp [World.cell?, h.o], by simp [World.cell?, h.o], by simp [World.cell?, h.o], by simp [World.cell?, h.o], by simp [World.cell?, h.o], (sB_cells h.s).1, (sB_cells h.s).2, by simp [World.cell?, h.r], by simp [World.cell?, h.r]⟩
set_option maxRecDepth 100000 in
set_option maxHeartbeats 8000000 in
theorem rstep_1 {W : World} {pt fn ar tn ky vl : Int} {ip p : Option Addr} {n0 ic n c : Nat} :
    Calls Tryz.prog 70 #[.agg #[.int .i64 1, .int .i64 pt, .int .i64 fn, .int .i64 ar, .slice ip n0 ic], .agg #[.slice p n c, .int .i64 tn], .agg #[.int .i64 ky, .int .i64 vl]] W fun e w' => ∃ po co M, e = .returned (.tuple #[.agg #[.slice p n c, .int .i64 tn], .slice po M co]) ∧ w'.ownsRow W.heap.size 103 3 (.slice po M co) M ([(⟨0, ky, vl⟩ : PU)].flatMap PU.cells) ∧ Below W.heap.size W w' := by
  obtain ⟨V1, hV1⟩ : ∃ V, V = W.alloc (.cells #[.int .i64 1, .int .i64 pt, .int .i64 fn, .int .i64 ar, .slice ip n0 ic] 55 (0, 0)) := ⟨_, rfl⟩
  obtain ⟨V2, hV2⟩ : ∃ V, V = V1.alloc (.cells #[.slice p n c, .int .i64 tn] 58 (0, 0)) := ⟨_, rfl⟩
  obtain ⟨V3, hV3⟩ : ∃ V, V = V2.alloc (.cells #[.int .i64 ky, .int .i64 vl] 71 (0, 0)) := ⟨_, rfl⟩
  obtain ⟨V, hV⟩ : ∃ V, V = V3.alloc (.cells #[.slice none 0 0, .int .i64 0] 58 (0, 0)) := ⟨_, rfl⟩
  obtain ⟨oB, hoB⟩ : ∃ oB, W.heap.size = oB := ⟨_, rfl⟩
  obtain ⟨sB, hsB⟩ : ∃ sB, oB + 1 = sB := ⟨_, rfl⟩
  obtain ⟨rB, hrB⟩ : ∃ rB, sB + 1 = rB := ⟨_, rfl⟩
  obtain ⟨tB, htB⟩ : ∃ tB, rB + 1 = tB := ⟨_, rfl⟩
  have s1 : V1.heap.size = sB := by rw [hV1, ← hsB, ← hoB]; simp
  have s2 : V2.heap.size = rB := by rw [hV2]; simp [s1, hrB]
  have s3 : V3.heap.size = tB := by rw [hV3]; simp [s2, htB]
  have s4 : V.heap.size = tB + 1 := by rw [hV]; simp [s3]
  have HS4 := hide s4
  have HWT : Hid (W.heap.size ≤ tB) := hide (by omega)
  have b1 : Below W.heap.size W V1 := by rw [hV1]; exact alloc_below _ _
  have b2 : Below V1.heap.size V1 V2 := by rw [hV2]; exact alloc_below _ _
  have b3 : Below V2.heap.size V2 V3 := by rw [hV3]; exact alloc_below _ _
  have b4 : Below V3.heap.size V3 V := by rw [hV]; exact alloc_below _ _
  have u1 : V1.heap[oB]? = some (.cells #[.int .i64 1, .int .i64 pt, .int .i64 fn, .int .i64 ar, .slice ip n0 ic] 55 (0, 0)) := by rw [hV1, ← hoB]; exact heap_alloc_new W _
  have u2 : V2.heap[sB]? = some (.cells #[.slice p n c, .int .i64 tn] 58 (0, 0)) := by rw [hV2, ← s1]; exact heap_alloc_new V1 _
  have u3 : V3.heap[rB]? = some (.cells #[.int .i64 ky, .int .i64 vl] 71 (0, 0)) := by rw [hV3, ← s2]; exact heap_alloc_new V2 _
  have u4 : V.heap[tB]? = some (.cells #[.slice none 0 0, .int .i64 0] 58 (0, 0)) := by rw [hV, ← s3]; exact heap_alloc_new V3 _
  have bV : Below W.heap.size W V := ((b1.trans (b2.mono (by omega))).trans (b3.mono (by omega))).trans (b4.mono (by omega))
  have HST : Hid (St W V V oB sB rB tB (.cells #[.int .i64 1, .int .i64 pt, .int .i64 fn, .int .i64 ar, .slice ip n0 ic] 55 (0, 0)) (.cells #[.slice p n c, .int .i64 tn] 58 (0, 0)) (.cells #[.int .i64 ky, .int .i64 vl] 71 (0, 0)) (.cells #[.slice none 0 0, .int .i64 0] 58 (0, 0))) := hide ⟨below_box b4 (below_box b3 (below_box b2 u1)), below_box b4 (below_box b3 u2), below_box b4 u3, u4, bV, Nat.le_refl _⟩
  have HBW := hide bV
  obtain ⟨x0, x1, x2, x3, x4, x5, x6, x7, x8⟩ := HST.out.cells
  clear bV b1 b2 b3 b4 u1 u2 u3 u4
  go_enter Tryz.func70, Tryz.ntmps70
  go_upto_region 1 with fail
  rw [← hV1, ← hV2, ← hV3, ← hV]
  try rw [hoB]
  try rw [hsB]
  try rw [hrB]
  try rw [htB]
  have hl1 : oB < tB := by omega
  have hl2 : sB < tB := by omega
  have hl3 : rB < tB := by omega
  clear hV1 hV2 hV3 hV hoB s1 s2 s3 s4 hsB hrB htB
  go_upto_region 5 with fail
  have hst := HST.out
  refine wp_region_held_drew (S := fun w' => w'.cell? ⟨oB, 0, none⟩ = some (.int .i64 1) ∧ w'.cell? ⟨oB, 1, none⟩ = some (.int .i64 pt) ∧ w'.cell? ⟨oB, 2, none⟩ = some (.int .i64 fn) ∧ w'.cell? ⟨oB, 3, none⟩ = some (.int .i64 ar) ∧ w'.cell? ⟨oB, 4, none⟩ = some (.slice ip n0 ic) ∧ w'.cell? ⟨sB, 0, none⟩ = some (.slice p n c) ∧ w'.cell? ⟨sB, 1, none⟩ = some (.int .i64 tn) ∧ w'.cell? ⟨rB, 0, none⟩ = some (.int .i64 ky) ∧ w'.cell? ⟨rB, 1, none⟩ = some (.int .i64 vl)) (by kernel_rfl) HST.out.cells (fun hHeld => ?_)
  refine wpAnyH_take (i := 0) (oi := _) (v := ?_) rfl (by kernel_rfl) (by kernel_rfl) (by kernel_rfl) (fun _ _ _ h => h) (Or.inl ⟨by rfl, ?_⟩) (by assumption) ?_
  rotate_left
  · intro w hSw
    (try dsimp only at hSw)
    go_simp
    all_goals with_reducible rfl
  simp only [Act.put, List.setIfInBounds_toArray] --TAKE 1
  refine wpAnyH_take (i := 1) (oi := _) (v := ?_) rfl (by kernel_rfl) (by kernel_rfl) (by kernel_rfl) (fun _ _ _ h => h) (Or.inl ⟨by rfl, ?_⟩) (by assumption) ?_
  rotate_left
  · intro w hSw
    (try dsimp only at hSw)
    go_simp
    all_goals with_reducible rfl
  simp only [Act.put] --TAKE 2
  refine wpAnyH_take (i := 2) (oi := _) (v := ?_) rfl (by kernel_rfl) (by kernel_rfl) (by kernel_rfl) (fun _ _ _ h => h) (Or.inl ⟨by rfl, ?_⟩) (by assumption) ?_
  rotate_left
  · intro w hSw
    (try dsimp only at hSw)
    go_simp
    all_goals with_reducible rfl
  simp only [Act.put] --TAKE 3
  refine wpAnyH_ready (rs := [3, 4]) (by kernel_rfl) (by simp) ?_
  refine AllReadyH.cons (o := _) rfl (fun K hK => ?_) ?_
  · go_simp
    have hpo := own_one3 (a := .int .i64 0) (b := .int .i64 ky) (c := .int .i64 vl) (e := 103) (base := V.heap.size) hst.size
    replace hst := hst.later (alloc_below _ (.cells #[.int .i64 0, .int .i64 ky, .int .i64 vl] 103 (0, 0)))
    refine hK.out _ _ hst.cells (fun hHeld => ?_)
    clear hK
    refine wpAnyH_ready (rs := [4]) (by kernel_rfl) (by simp) ?_
    refine AllReadyH.cons (o := _) rfl (fun K hK => ?_) AllReadyH.nil
    obtain ⟨f0, f1, f2, f3⟩ := two_factsO hst.t (.slice p n c)
    go_simp
    clear f0 f1 f2 f3
    replace hst := hst.store hl1 hl2 hl3 HWT.out (.slice p n c) (.int .i64 tn)
    replace hpo := Go.Proofs.YtifldnpccgbnkaaGreat.row_two (q := tB) (a := .slice p n c) (b := .int .i64 tn) hpo (by have := HS4.out; omega)
    refine hK.out _ _ hst.cells (fun hHeld => ?_)
    clear hK
    refine wpAnyH_ready (rs := [5]) (by kernel_rfl) (by simp) ?_
    refine AllReadyH.cons (o := _) rfl (fun K hK => ?_) AllReadyH.nil
    go_simp
    refine hK.out _ _ hst.cells (fun hHeld => ?_)
    clear hK
    refine wpAnyH_done (by kernel_rfl) ?_ _
    go_wp2
    refine bodyPost_ret (Go.Proofs.YtifldnpccgbnkaaGreat.results_cell_two rfl _ _ tB 58 _ _ _ rfl hst.t Tryz.underlying58 rfl (by kernel_rfl)) rfl ?_
    first | exact ⟨_, _, _, rfl, ownsRow_base hpo HBW.out.size, hst.below⟩ | exact ⟨_, _, _, rfl, (ownsRow_base hpo HBW.out.size).drew, hst.below.drew⟩
  refine AllReadyH.cons (o := _) rfl (fun K hK => ?_) AllReadyH.nil
  obtain ⟨f0, f1, f2, f3⟩ := two_factsO hst.t (.slice p n c)
  go_simp
  clear f0 f1 f2 f3
  replace hst := hst.store hl1 hl2 hl3 HWT.out (.slice p n c) (.int .i64 tn)
  refine hK.out _ _ hst.cells (fun hHeld => ?_)
  clear hK
  refine wpAnyH_ready (rs := [3]) (by kernel_rfl) (by simp) ?_
  refine AllReadyH.cons (o := _) rfl (fun K hK => ?_) AllReadyH.nil
  go_simp
  have hpo := own_one3 (a := .int .i64 0) (b := .int .i64 ky) (c := .int .i64 vl) (e := 103) (base := V.heap.size) hst.size
  rw [show (((V).setCell ⟨tB, 0, none⟩ (.slice p n c)).setCell ⟨tB, 1, none⟩ (.int .i64 tn)).heap.size = (V).heap.size from by simp [World.setCell]] at hpo
  replace hst := hst.later (alloc_below _ (.cells #[.int .i64 0, .int .i64 ky, .int .i64 vl] 103 (0, 0)))
  refine hK.out _ _ hst.cells (fun hHeld => ?_)
  clear hK
  refine wpAnyH_ready (rs := [5]) (by kernel_rfl) (by simp) ?_
  refine AllReadyH.cons (o := _) rfl (fun K hK => ?_) AllReadyH.nil
  go_simp
  refine hK.out _ _ hst.cells (fun hHeld => ?_)
  clear hK
  refine wpAnyH_done (by kernel_rfl) ?_ _
  go_wp2
  refine bodyPost_ret (Go.Proofs.YtifldnpccgbnkaaGreat.results_cell_two rfl _ _ tB 58 _ _ _ rfl hst.t Tryz.underlying58 rfl (by kernel_rfl)) rfl ?_
  first | exact ⟨_, _, _, rfl, ownsRow_base hpo HBW.out.size, hst.below⟩ | exact ⟨_, _, _, rfl, (ownsRow_base hpo HBW.out.size).drew, hst.below.drew⟩
set_option maxRecDepth 100000 in
set_option maxHeartbeats 8000000 in
theorem rstep_8 {W : World} {pt fn ar tn ky vl : Int} {ip p : Option Addr} {n0 ic n c : Nat} :
    Calls Tryz.prog 70 #[.agg #[.int .i64 8, .int .i64 pt, .int .i64 fn, .int .i64 ar, .slice ip n0 ic], .agg #[.slice p n c, .int .i64 tn], .agg #[.int .i64 ky, .int .i64 vl]] W fun e w' => ∃ po co M, e = .returned (.tuple #[.agg #[.slice p n c, .int .i64 tn], .slice po M co]) ∧ w'.ownsRow W.heap.size 103 3 (.slice po M co) M ([(⟨0, ky, vl⟩ : PU)].flatMap PU.cells) ∧ Below W.heap.size W w' := by
  obtain ⟨V1, hV1⟩ : ∃ V, V = W.alloc (.cells #[.int .i64 8, .int .i64 pt, .int .i64 fn, .int .i64 ar, .slice ip n0 ic] 55 (0, 0)) := ⟨_, rfl⟩
  obtain ⟨V2, hV2⟩ : ∃ V, V = V1.alloc (.cells #[.slice p n c, .int .i64 tn] 58 (0, 0)) := ⟨_, rfl⟩
  obtain ⟨V3, hV3⟩ : ∃ V, V = V2.alloc (.cells #[.int .i64 ky, .int .i64 vl] 71 (0, 0)) := ⟨_, rfl⟩
  obtain ⟨V, hV⟩ : ∃ V, V = V3.alloc (.cells #[.slice none 0 0, .int .i64 0] 58 (0, 0)) := ⟨_, rfl⟩
  obtain ⟨oB, hoB⟩ : ∃ oB, W.heap.size = oB := ⟨_, rfl⟩
  obtain ⟨sB, hsB⟩ : ∃ sB, oB + 1 = sB := ⟨_, rfl⟩
  obtain ⟨rB, hrB⟩ : ∃ rB, sB + 1 = rB := ⟨_, rfl⟩
  obtain ⟨tB, htB⟩ : ∃ tB, rB + 1 = tB := ⟨_, rfl⟩
  have s1 : V1.heap.size = sB := by rw [hV1, ← hsB, ← hoB]; simp
  have s2 : V2.heap.size = rB := by rw [hV2]; simp [s1, hrB]
  have s3 : V3.heap.size = tB := by rw [hV3]; simp [s2, htB]
  have s4 : V.heap.size = tB + 1 := by rw [hV]; simp [s3]
  have HS4 := hide s4
  have HWT : Hid (W.heap.size ≤ tB) := hide (by omega)
  have b1 : Below W.heap.size W V1 := by rw [hV1]; exact alloc_below _ _
  have b2 : Below V1.heap.size V1 V2 := by rw [hV2]; exact alloc_below _ _
  have b3 : Below V2.heap.size V2 V3 := by rw [hV3]; exact alloc_below _ _
  have b4 : Below V3.heap.size V3 V := by rw [hV]; exact alloc_below _ _
  have u1 : V1.heap[oB]? = some (.cells #[.int .i64 8, .int .i64 pt, .int .i64 fn, .int .i64 ar, .slice ip n0 ic] 55 (0, 0)) := by rw [hV1, ← hoB]; exact heap_alloc_new W _
  have u2 : V2.heap[sB]? = some (.cells #[.slice p n c, .int .i64 tn] 58 (0, 0)) := by rw [hV2, ← s1]; exact heap_alloc_new V1 _
  have u3 : V3.heap[rB]? = some (.cells #[.int .i64 ky, .int .i64 vl] 71 (0, 0)) := by rw [hV3, ← s2]; exact heap_alloc_new V2 _
  have u4 : V.heap[tB]? = some (.cells #[.slice none 0 0, .int .i64 0] 58 (0, 0)) := by rw [hV, ← s3]; exact heap_alloc_new V3 _
  have bV : Below W.heap.size W V := ((b1.trans (b2.mono (by omega))).trans (b3.mono (by omega))).trans (b4.mono (by omega))
  have HST : Hid (St W V V oB sB rB tB (.cells #[.int .i64 8, .int .i64 pt, .int .i64 fn, .int .i64 ar, .slice ip n0 ic] 55 (0, 0)) (.cells #[.slice p n c, .int .i64 tn] 58 (0, 0)) (.cells #[.int .i64 ky, .int .i64 vl] 71 (0, 0)) (.cells #[.slice none 0 0, .int .i64 0] 58 (0, 0))) := hide ⟨below_box b4 (below_box b3 (below_box b2 u1)), below_box b4 (below_box b3 u2), below_box b4 u3, u4, bV, Nat.le_refl _⟩
  have HBW := hide bV
  obtain ⟨x0, x1, x2, x3, x4, x5, x6, x7, x8⟩ := HST.out.cells
  clear bV b1 b2 b3 b4 u1 u2 u3 u4
  go_enter Tryz.func70, Tryz.ntmps70
  go_upto_region 1 with fail
  rw [← hV1, ← hV2, ← hV3, ← hV]
  try rw [hoB]
  try rw [hsB]
  try rw [hrB]
  try rw [htB]
  have hl1 : oB < tB := by omega
  have hl2 : sB < tB := by omega
  have hl3 : rB < tB := by omega
  clear hV1 hV2 hV3 hV hoB s1 s2 s3 s4 hsB hrB htB
  go_upto_region 5 with fail
  have hst := HST.out
  refine wp_region_held_drew (S := fun w' => w'.cell? ⟨oB, 0, none⟩ = some (.int .i64 8) ∧ w'.cell? ⟨oB, 1, none⟩ = some (.int .i64 pt) ∧ w'.cell? ⟨oB, 2, none⟩ = some (.int .i64 fn) ∧ w'.cell? ⟨oB, 3, none⟩ = some (.int .i64 ar) ∧ w'.cell? ⟨oB, 4, none⟩ = some (.slice ip n0 ic) ∧ w'.cell? ⟨sB, 0, none⟩ = some (.slice p n c) ∧ w'.cell? ⟨sB, 1, none⟩ = some (.int .i64 tn) ∧ w'.cell? ⟨rB, 0, none⟩ = some (.int .i64 ky) ∧ w'.cell? ⟨rB, 1, none⟩ = some (.int .i64 vl)) (by kernel_rfl) HST.out.cells (fun hHeld => ?_)
  refine wpAnyH_take (i := 0) (oi := _) (v := ?_) rfl (by kernel_rfl) (by kernel_rfl) (by kernel_rfl) (fun _ _ _ h => h) (Or.inl ⟨by rfl, ?_⟩) (by assumption) ?_
  rotate_left
  · intro w hSw
    (try dsimp only at hSw)
    go_simp
    all_goals with_reducible rfl
  simp only [Act.put, List.setIfInBounds_toArray] --TAKE 4
  refine wpAnyH_take (i := 1) (oi := _) (v := ?_) rfl (by kernel_rfl) (by kernel_rfl) (by kernel_rfl) (fun _ _ _ h => h) (Or.inl ⟨by rfl, ?_⟩) (by assumption) ?_
  rotate_left
  · intro w hSw
    (try dsimp only at hSw)
    go_simp
    all_goals with_reducible rfl
  simp only [Act.put] --TAKE 5
  refine wpAnyH_take (i := 2) (oi := _) (v := ?_) rfl (by kernel_rfl) (by kernel_rfl) (by kernel_rfl) (fun _ _ _ h => h) (Or.inl ⟨by rfl, ?_⟩) (by assumption) ?_
  rotate_left
  · intro w hSw
    (try dsimp only at hSw)
    go_simp
    all_goals with_reducible rfl
  simp only [Act.put] --TAKE 6
  refine wpAnyH_ready (rs := [3, 4]) (by kernel_rfl) (by simp) ?_
  refine AllReadyH.cons (o := _) rfl (fun K hK => ?_) ?_
  · go_simp
    have hpo := own_one3 (a := .int .i64 0) (b := .int .i64 ky) (c := .int .i64 vl) (e := 103) (base := V.heap.size) hst.size
    replace hst := hst.later (alloc_below _ (.cells #[.int .i64 0, .int .i64 ky, .int .i64 vl] 103 (0, 0)))
    refine hK.out _ _ hst.cells (fun hHeld => ?_)
    clear hK
    refine wpAnyH_ready (rs := [4]) (by kernel_rfl) (by simp) ?_
    refine AllReadyH.cons (o := _) rfl (fun K hK => ?_) AllReadyH.nil
    obtain ⟨f0, f1, f2, f3⟩ := two_factsO hst.t (.slice p n c)
    go_simp
    clear f0 f1 f2 f3
    replace hst := hst.store hl1 hl2 hl3 HWT.out (.slice p n c) (.int .i64 tn)
    replace hpo := Go.Proofs.YtifldnpccgbnkaaGreat.row_two (q := tB) (a := .slice p n c) (b := .int .i64 tn) hpo (by have := HS4.out; omega)
    refine hK.out _ _ hst.cells (fun hHeld => ?_)
    clear hK
    refine wpAnyH_ready (rs := [5]) (by kernel_rfl) (by simp) ?_
    refine AllReadyH.cons (o := _) rfl (fun K hK => ?_) AllReadyH.nil
    go_simp
    refine hK.out _ _ hst.cells (fun hHeld => ?_)
    clear hK
    refine wpAnyH_done (by kernel_rfl) ?_ _
    go_wp2
    refine bodyPost_ret (Go.Proofs.YtifldnpccgbnkaaGreat.results_cell_two rfl _ _ tB 58 _ _ _ rfl hst.t Tryz.underlying58 rfl (by kernel_rfl)) rfl ?_
    first | exact ⟨_, _, _, rfl, ownsRow_base hpo HBW.out.size, hst.below⟩ | exact ⟨_, _, _, rfl, (ownsRow_base hpo HBW.out.size).drew, hst.below.drew⟩
  refine AllReadyH.cons (o := _) rfl (fun K hK => ?_) AllReadyH.nil
  obtain ⟨f0, f1, f2, f3⟩ := two_factsO hst.t (.slice p n c)
  go_simp
  clear f0 f1 f2 f3
  replace hst := hst.store hl1 hl2 hl3 HWT.out (.slice p n c) (.int .i64 tn)
  refine hK.out _ _ hst.cells (fun hHeld => ?_)
  clear hK
  refine wpAnyH_ready (rs := [3]) (by kernel_rfl) (by simp) ?_
  refine AllReadyH.cons (o := _) rfl (fun K hK => ?_) AllReadyH.nil
  go_simp
  have hpo := own_one3 (a := .int .i64 0) (b := .int .i64 ky) (c := .int .i64 vl) (e := 103) (base := V.heap.size) hst.size
  rw [show (((V).setCell ⟨tB, 0, none⟩ (.slice p n c)).setCell ⟨tB, 1, none⟩ (.int .i64 tn)).heap.size = (V).heap.size from by simp [World.setCell]] at hpo
  replace hst := hst.later (alloc_below _ (.cells #[.int .i64 0, .int .i64 ky, .int .i64 vl] 103 (0, 0)))
  refine hK.out _ _ hst.cells (fun hHeld => ?_)
  clear hK
  refine wpAnyH_ready (rs := [5]) (by kernel_rfl) (by simp) ?_
  refine AllReadyH.cons (o := _) rfl (fun K hK => ?_) AllReadyH.nil
  go_simp
  refine hK.out _ _ hst.cells (fun hHeld => ?_)
  clear hK
  refine wpAnyH_done (by kernel_rfl) ?_ _
  go_wp2
  refine bodyPost_ret (Go.Proofs.YtifldnpccgbnkaaGreat.results_cell_two rfl _ _ tB 58 _ _ _ rfl hst.t Tryz.underlying58 rfl (by kernel_rfl)) rfl ?_
  first | exact ⟨_, _, _, rfl, ownsRow_base hpo HBW.out.size, hst.below⟩ | exact ⟨_, _, _, rfl, (ownsRow_base hpo HBW.out.size).drew, hst.below.drew⟩
set_option maxRecDepth 100000 in
set_option maxHeartbeats 8000000 in
theorem rstep_2 {W : World} {pt fn ar tn ky vl : Int} {ip p : Option Addr} {n0 ic n c : Nat} {k' v' : Int} (hk : I6 ky) (hv : I6 vl) (ha : I6 ar) (hr : valueC 2 fn ar ky vl = (k', v')) :
    Calls Tryz.prog 70 #[.agg #[.int .i64 2, .int .i64 pt, .int .i64 fn, .int .i64 ar, .slice ip n0 ic], .agg #[.slice p n c, .int .i64 tn], .agg #[.int .i64 ky, .int .i64 vl]] W fun e w' => ∃ po co M, e = .returned (.tuple #[.agg #[.slice p n c, .int .i64 tn], .slice po M co]) ∧ w'.ownsRow W.heap.size 103 3 (.slice po M co) M ([(⟨0, k', v'⟩ : PU)].flatMap PU.cells) ∧ Below W.heap.size W w' := by
  obtain ⟨V1, hV1⟩ : ∃ V, V = W.alloc (.cells #[.int .i64 2, .int .i64 pt, .int .i64 fn, .int .i64 ar, .slice ip n0 ic] 55 (0, 0)) := ⟨_, rfl⟩
  obtain ⟨V2, hV2⟩ : ∃ V, V = V1.alloc (.cells #[.slice p n c, .int .i64 tn] 58 (0, 0)) := ⟨_, rfl⟩
  obtain ⟨V3, hV3⟩ : ∃ V, V = V2.alloc (.cells #[.int .i64 ky, .int .i64 vl] 71 (0, 0)) := ⟨_, rfl⟩
  obtain ⟨V, hV⟩ : ∃ V, V = V3.alloc (.cells #[.slice none 0 0, .int .i64 0] 58 (0, 0)) := ⟨_, rfl⟩
  obtain ⟨oB, hoB⟩ : ∃ oB, W.heap.size = oB := ⟨_, rfl⟩
  obtain ⟨sB, hsB⟩ : ∃ sB, oB + 1 = sB := ⟨_, rfl⟩
  obtain ⟨rB, hrB⟩ : ∃ rB, sB + 1 = rB := ⟨_, rfl⟩
  obtain ⟨tB, htB⟩ : ∃ tB, rB + 1 = tB := ⟨_, rfl⟩
  have s1 : V1.heap.size = sB := by rw [hV1, ← hsB, ← hoB]; simp
  have s2 : V2.heap.size = rB := by rw [hV2]; simp [s1, hrB]
  have s3 : V3.heap.size = tB := by rw [hV3]; simp [s2, htB]
  have s4 : V.heap.size = tB + 1 := by rw [hV]; simp [s3]
  have HS4 := hide s4
  have HWT : Hid (W.heap.size ≤ tB) := hide (by omega)
  have b1 : Below W.heap.size W V1 := by rw [hV1]; exact alloc_below _ _
  have b2 : Below V1.heap.size V1 V2 := by rw [hV2]; exact alloc_below _ _
  have b3 : Below V2.heap.size V2 V3 := by rw [hV3]; exact alloc_below _ _
  have b4 : Below V3.heap.size V3 V := by rw [hV]; exact alloc_below _ _
  have u1 : V1.heap[oB]? = some (.cells #[.int .i64 2, .int .i64 pt, .int .i64 fn, .int .i64 ar, .slice ip n0 ic] 55 (0, 0)) := by rw [hV1, ← hoB]; exact heap_alloc_new W _
  have u2 : V2.heap[sB]? = some (.cells #[.slice p n c, .int .i64 tn] 58 (0, 0)) := by rw [hV2, ← s1]; exact heap_alloc_new V1 _
  have u3 : V3.heap[rB]? = some (.cells #[.int .i64 ky, .int .i64 vl] 71 (0, 0)) := by rw [hV3, ← s2]; exact heap_alloc_new V2 _
  have u4 : V.heap[tB]? = some (.cells #[.slice none 0 0, .int .i64 0] 58 (0, 0)) := by rw [hV, ← s3]; exact heap_alloc_new V3 _
  have bV : Below W.heap.size W V := ((b1.trans (b2.mono (by omega))).trans (b3.mono (by omega))).trans (b4.mono (by omega))
  have HST : Hid (St W V V oB sB rB tB (.cells #[.int .i64 2, .int .i64 pt, .int .i64 fn, .int .i64 ar, .slice ip n0 ic] 55 (0, 0)) (.cells #[.slice p n c, .int .i64 tn] 58 (0, 0)) (.cells #[.int .i64 ky, .int .i64 vl] 71 (0, 0)) (.cells #[.slice none 0 0, .int .i64 0] 58 (0, 0))) := hide ⟨below_box b4 (below_box b3 (below_box b2 u1)), below_box b4 (below_box b3 u2), below_box b4 u3, u4, bV, Nat.le_refl _⟩
  have HBW := hide bV
  obtain ⟨x0, x1, x2, x3, x4, x5, x6, x7, x8⟩ := HST.out.cells
  have HVAL : Hid (∀ X, Calls Tryz.prog 86 #[.agg #[.int .i64 2, .int .i64 pt, .int .i64 fn, .int .i64 ar, .slice ip n0 ic], .agg #[.int .i64 ky, .int .i64 vl]] X fun e w' => e = .returned (.agg #[.int .i64 k', .int .i64 v']) ∧ Below X.heap.size X w') := hide (fun X => rvalue_any hk hv ha hr)
  clear hk hv ha hr
  clear bV b1 b2 b3 b4 u1 u2 u3 u4
  go_enter Tryz.func70, Tryz.ntmps70
  go_upto_region 1 with fail
  rw [← hV1, ← hV2, ← hV3, ← hV]
  try rw [hoB]
  try rw [hsB]
  try rw [hrB]
  try rw [htB]
  have hl1 : oB < tB := by omega
  have hl2 : sB < tB := by omega
  have hl3 : rB < tB := by omega
  clear hV1 hV2 hV3 hV hoB s1 s2 s3 s4 hsB hrB htB
  go_upto_region 8 with fail
  have hst := HST.out
  refine wp_region_held_drew (S := fun w' => w'.cell? ⟨oB, 0, none⟩ = some (.int .i64 2) ∧ w'.cell? ⟨oB, 1, none⟩ = some (.int .i64 pt) ∧ w'.cell? ⟨oB, 2, none⟩ = some (.int .i64 fn) ∧ w'.cell? ⟨oB, 3, none⟩ = some (.int .i64 ar) ∧ w'.cell? ⟨oB, 4, none⟩ = some (.slice ip n0 ic) ∧ w'.cell? ⟨sB, 0, none⟩ = some (.slice p n c) ∧ w'.cell? ⟨sB, 1, none⟩ = some (.int .i64 tn) ∧ w'.cell? ⟨rB, 0, none⟩ = some (.int .i64 ky) ∧ w'.cell? ⟨rB, 1, none⟩ = some (.int .i64 vl)) (by kernel_rfl) HST.out.cells (fun hHeld => ?_)
  refine wpAnyH_take (i := 0) (oi := _) (v := ?_) rfl (by kernel_rfl) (by kernel_rfl) (by kernel_rfl) (fun _ _ _ h => h) (Or.inl ⟨by rfl, ?_⟩) (by assumption) ?_
  rotate_left
  · intro w hSw
    (try dsimp only at hSw)
    go_simp
    all_goals with_reducible rfl
  simp only [Act.put, List.setIfInBounds_toArray] --TAKE 7
  refine wpAnyH_take (i := 1) (oi := _) (v := ?_) rfl (by kernel_rfl) (by kernel_rfl) (by kernel_rfl) (fun _ _ _ h => h) (Or.inl ⟨by rfl, ?_⟩) (by assumption) ?_
  rotate_left
  · intro w hSw
    (try dsimp only at hSw)
    go_simp
    all_goals with_reducible rfl
  simp only [Act.put] --TAKE 8
  refine wpAnyH_take (i := 2) (oi := _) (v := ?_) rfl (by kernel_rfl) (by kernel_rfl) (by kernel_rfl) (fun _ _ _ h => h) (Or.inl ⟨by rfl, ?_⟩) (by assumption) ?_
  rotate_left
  · intro w hSw
    (try dsimp only at hSw)
    go_simp
    all_goals with_reducible rfl
  simp only [Act.put] --TAKE 9
  refine wpAnyH_ready (rs := [3]) (by kernel_rfl) (by simp) ?_
  refine AllReadyH.cons (o := _) rfl (fun K hK => ?_) AllReadyH.nil
  go_simp
  refine (HVAL.out _).mono ?_
  rintro _ w1 ⟨rfl, hb1⟩
  replace hst := hst.later (Go.Proofs.YtifldnpccgbnkaaGreat.below_undrew hb1)
  clear hb1
  go_wp2_with fail
  refine hK.out _ _ hst.cells (fun hHeld => ?_)
  clear hK
  refine wpAnyH_take (i := 4) (oi := _) (v := ?_) rfl (by kernel_rfl) (by kernel_rfl) (by kernel_rfl) (fun _ _ _ h => h) (Or.inl ⟨by rfl, ?_⟩) (by assumption) ?_
  rotate_left
  · intro w hSw
    (try dsimp only at hSw)
    go_simp
    all_goals with_reducible rfl
  simp only [Act.put, List.setIfInBounds_toArray] --TAKE 10
  refine wpAnyH_ready (rs := [5, 6]) (by kernel_rfl) (by simp) ?_
  refine AllReadyH.cons (o := _) rfl (fun K hK => ?_) ?_
  · go_simp
    have hpo := own_one3 (a := .int .i64 0) (b := .int .i64 k') (c := .int .i64 v') (e := 103) (base := V.heap.size) hst.size
    replace hst := hst.later (alloc_below _ (.cells #[.int .i64 0, .int .i64 k', .int .i64 v'] 103 (0, 0)))
    refine hK.out _ _ hst.cells (fun hHeld => ?_)
    clear hK
    refine wpAnyH_ready (rs := [6]) (by kernel_rfl) (by simp) ?_
    refine AllReadyH.cons (o := _) rfl (fun K hK => ?_) AllReadyH.nil
    obtain ⟨f0, f1, f2, f3⟩ := two_factsO hst.t (.slice p n c)
    go_simp
    clear f0 f1 f2 f3
    replace hst := hst.store hl1 hl2 hl3 HWT.out (.slice p n c) (.int .i64 tn)
    replace hpo := Go.Proofs.YtifldnpccgbnkaaGreat.row_two (q := tB) (a := .slice p n c) (b := .int .i64 tn) hpo (by have := HS4.out; omega)
    refine hK.out _ _ hst.cells (fun hHeld => ?_)
    clear hK
    refine wpAnyH_ready (rs := [7]) (by kernel_rfl) (by simp) ?_
    refine AllReadyH.cons (o := _) rfl (fun K hK => ?_) AllReadyH.nil
    go_simp
    refine hK.out _ _ hst.cells (fun hHeld => ?_)
    clear hK
    refine wpAnyH_done (by kernel_rfl) ?_ _
    go_wp2
    refine bodyPost_ret (Go.Proofs.YtifldnpccgbnkaaGreat.results_cell_two rfl _ _ tB 58 _ _ _ rfl hst.t Tryz.underlying58 rfl (by kernel_rfl)) rfl ?_
    first | exact ⟨_, _, _, rfl, ownsRow_base hpo HBW.out.size, hst.below⟩ | exact ⟨_, _, _, rfl, (ownsRow_base hpo HBW.out.size).drew, hst.below.drew⟩
  refine AllReadyH.cons (o := _) rfl (fun K hK => ?_) AllReadyH.nil
  obtain ⟨f0, f1, f2, f3⟩ := two_factsO hst.t (.slice p n c)
  go_simp
  clear f0 f1 f2 f3
  replace hst := hst.store hl1 hl2 hl3 HWT.out (.slice p n c) (.int .i64 tn)
  refine hK.out _ _ hst.cells (fun hHeld => ?_)
  clear hK
  refine wpAnyH_ready (rs := [5]) (by kernel_rfl) (by simp) ?_
  refine AllReadyH.cons (o := _) rfl (fun K hK => ?_) AllReadyH.nil
  go_simp
  have hpo := own_one3 (a := .int .i64 0) (b := .int .i64 k') (c := .int .i64 v') (e := 103) (base := V.heap.size) hst.size
  rw [show (((w1).setCell ⟨tB, 0, none⟩ (.slice p n c)).setCell ⟨tB, 1, none⟩ (.int .i64 tn)).heap.size = (w1).heap.size from by simp [World.setCell]] at hpo
  replace hst := hst.later (alloc_below _ (.cells #[.int .i64 0, .int .i64 k', .int .i64 v'] 103 (0, 0)))
  refine hK.out _ _ hst.cells (fun hHeld => ?_)
  clear hK
  refine wpAnyH_ready (rs := [7]) (by kernel_rfl) (by simp) ?_
  refine AllReadyH.cons (o := _) rfl (fun K hK => ?_) AllReadyH.nil
  go_simp
  refine hK.out _ _ hst.cells (fun hHeld => ?_)
  clear hK
  refine wpAnyH_done (by kernel_rfl) ?_ _
  go_wp2
  refine bodyPost_ret (Go.Proofs.YtifldnpccgbnkaaGreat.results_cell_two rfl _ _ tB 58 _ _ _ rfl hst.t Tryz.underlying58 rfl (by kernel_rfl)) rfl ?_
  first | exact ⟨_, _, _, rfl, ownsRow_base hpo HBW.out.size, hst.below⟩ | exact ⟨_, _, _, rfl, (ownsRow_base hpo HBW.out.size).drew, hst.below.drew⟩
set_option maxRecDepth 100000 in
set_option maxHeartbeats 8000000 in
theorem rstep_4 {W : World} {pt fn ar tn ky vl : Int} {ip p : Option Addr} {n0 ic n c : Nat} {k' v' : Int} (hk : I6 ky) (hv : I6 vl) (ha : I6 ar) (hr : valueC 4 fn ar ky vl = (k', v')) :
    Calls Tryz.prog 70 #[.agg #[.int .i64 4, .int .i64 pt, .int .i64 fn, .int .i64 ar, .slice ip n0 ic], .agg #[.slice p n c, .int .i64 tn], .agg #[.int .i64 ky, .int .i64 vl]] W fun e w' => ∃ po co M, e = .returned (.tuple #[.agg #[.slice p n c, .int .i64 tn], .slice po M co]) ∧ w'.ownsRow W.heap.size 103 3 (.slice po M co) M ([(⟨0, k', v'⟩ : PU)].flatMap PU.cells) ∧ Below W.heap.size W w' := by
  obtain ⟨V1, hV1⟩ : ∃ V, V = W.alloc (.cells #[.int .i64 4, .int .i64 pt, .int .i64 fn, .int .i64 ar, .slice ip n0 ic] 55 (0, 0)) := ⟨_, rfl⟩
  obtain ⟨V2, hV2⟩ : ∃ V, V = V1.alloc (.cells #[.slice p n c, .int .i64 tn] 58 (0, 0)) := ⟨_, rfl⟩
  obtain ⟨V3, hV3⟩ : ∃ V, V = V2.alloc (.cells #[.int .i64 ky, .int .i64 vl] 71 (0, 0)) := ⟨_, rfl⟩
  obtain ⟨V, hV⟩ : ∃ V, V = V3.alloc (.cells #[.slice none 0 0, .int .i64 0] 58 (0, 0)) := ⟨_, rfl⟩
  obtain ⟨oB, hoB⟩ : ∃ oB, W.heap.size = oB := ⟨_, rfl⟩
  obtain ⟨sB, hsB⟩ : ∃ sB, oB + 1 = sB := ⟨_, rfl⟩
  obtain ⟨rB, hrB⟩ : ∃ rB, sB + 1 = rB := ⟨_, rfl⟩
  obtain ⟨tB, htB⟩ : ∃ tB, rB + 1 = tB := ⟨_, rfl⟩
  have s1 : V1.heap.size = sB := by rw [hV1, ← hsB, ← hoB]; simp
  have s2 : V2.heap.size = rB := by rw [hV2]; simp [s1, hrB]
  have s3 : V3.heap.size = tB := by rw [hV3]; simp [s2, htB]
  have s4 : V.heap.size = tB + 1 := by rw [hV]; simp [s3]
  have HS4 := hide s4
  have HWT : Hid (W.heap.size ≤ tB) := hide (by omega)
  have b1 : Below W.heap.size W V1 := by rw [hV1]; exact alloc_below _ _
  have b2 : Below V1.heap.size V1 V2 := by rw [hV2]; exact alloc_below _ _
  have b3 : Below V2.heap.size V2 V3 := by rw [hV3]; exact alloc_below _ _
  have b4 : Below V3.heap.size V3 V := by rw [hV]; exact alloc_below _ _
  have u1 : V1.heap[oB]? = some (.cells #[.int .i64 4, .int .i64 pt, .int .i64 fn, .int .i64 ar, .slice ip n0 ic] 55 (0, 0)) := by rw [hV1, ← hoB]; exact heap_alloc_new W _
  have u2 : V2.heap[sB]? = some (.cells #[.slice p n c, .int .i64 tn] 58 (0, 0)) := by rw [hV2, ← s1]; exact heap_alloc_new V1 _
  have u3 : V3.heap[rB]? = some (.cells #[.int .i64 ky, .int .i64 vl] 71 (0, 0)) := by rw [hV3, ← s2]; exact heap_alloc_new V2 _
  have u4 : V.heap[tB]? = some (.cells #[.slice none 0 0, .int .i64 0] 58 (0, 0)) := by rw [hV, ← s3]; exact heap_alloc_new V3 _
  have bV : Below W.heap.size W V := ((b1.trans (b2.mono (by omega))).trans (b3.mono (by omega))).trans (b4.mono (by omega))
  have HST : Hid (St W V V oB sB rB tB (.cells #[.int .i64 4, .int .i64 pt, .int .i64 fn, .int .i64 ar, .slice ip n0 ic] 55 (0, 0)) (.cells #[.slice p n c, .int .i64 tn] 58 (0, 0)) (.cells #[.int .i64 ky, .int .i64 vl] 71 (0, 0)) (.cells #[.slice none 0 0, .int .i64 0] 58 (0, 0))) := hide ⟨below_box b4 (below_box b3 (below_box b2 u1)), below_box b4 (below_box b3 u2), below_box b4 u3, u4, bV, Nat.le_refl _⟩
  have HBW := hide bV
  obtain ⟨x0, x1, x2, x3, x4, x5, x6, x7, x8⟩ := HST.out.cells
  have HVAL : Hid (∀ X, Calls Tryz.prog 86 #[.agg #[.int .i64 4, .int .i64 pt, .int .i64 fn, .int .i64 ar, .slice ip n0 ic], .agg #[.int .i64 ky, .int .i64 vl]] X fun e w' => e = .returned (.agg #[.int .i64 k', .int .i64 v']) ∧ Below X.heap.size X w') := hide (fun X => rvalue_any hk hv ha hr)
  clear hk hv ha hr
  clear bV b1 b2 b3 b4 u1 u2 u3 u4
  go_enter Tryz.func70, Tryz.ntmps70
  go_upto_region 1 with fail
  rw [← hV1, ← hV2, ← hV3, ← hV]
  try rw [hoB]
  try rw [hsB]
  try rw [hrB]
  try rw [htB]
  have hl1 : oB < tB := by omega
  have hl2 : sB < tB := by omega
  have hl3 : rB < tB := by omega
  clear hV1 hV2 hV3 hV hoB s1 s2 s3 s4 hsB hrB htB
  go_upto_region 8 with fail
  have hst := HST.out
  refine wp_region_held_drew (S := fun w' => w'.cell? ⟨oB, 0, none⟩ = some (.int .i64 4) ∧ w'.cell? ⟨oB, 1, none⟩ = some (.int .i64 pt) ∧ w'.cell? ⟨oB, 2, none⟩ = some (.int .i64 fn) ∧ w'.cell? ⟨oB, 3, none⟩ = some (.int .i64 ar) ∧ w'.cell? ⟨oB, 4, none⟩ = some (.slice ip n0 ic) ∧ w'.cell? ⟨sB, 0, none⟩ = some (.slice p n c) ∧ w'.cell? ⟨sB, 1, none⟩ = some (.int .i64 tn) ∧ w'.cell? ⟨rB, 0, none⟩ = some (.int .i64 ky) ∧ w'.cell? ⟨rB, 1, none⟩ = some (.int .i64 vl)) (by kernel_rfl) HST.out.cells (fun hHeld => ?_)
  refine wpAnyH_take (i := 0) (oi := _) (v := ?_) rfl (by kernel_rfl) (by kernel_rfl) (by kernel_rfl) (fun _ _ _ h => h) (Or.inl ⟨by rfl, ?_⟩) (by assumption) ?_
  rotate_left
  · intro w hSw
    (try dsimp only at hSw)
    go_simp
    all_goals with_reducible rfl
  simp only [Act.put, List.setIfInBounds_toArray] --TAKE 11
  refine wpAnyH_take (i := 1) (oi := _) (v := ?_) rfl (by kernel_rfl) (by kernel_rfl) (by kernel_rfl) (fun _ _ _ h => h) (Or.inl ⟨by rfl, ?_⟩) (by assumption) ?_
  rotate_left
  · intro w hSw
    (try dsimp only at hSw)
    go_simp
    all_goals with_reducible rfl
  simp only [Act.put] --TAKE 12
  refine wpAnyH_take (i := 2) (oi := _) (v := ?_) rfl (by kernel_rfl) (by kernel_rfl) (by kernel_rfl) (fun _ _ _ h => h) (Or.inl ⟨by rfl, ?_⟩) (by assumption) ?_
  rotate_left
  · intro w hSw
    (try dsimp only at hSw)
    go_simp
    all_goals with_reducible rfl
  simp only [Act.put] --TAKE 13
  refine wpAnyH_ready (rs := [3]) (by kernel_rfl) (by simp) ?_
  refine AllReadyH.cons (o := _) rfl (fun K hK => ?_) AllReadyH.nil
  go_simp
  refine (HVAL.out _).mono ?_
  rintro _ w1 ⟨rfl, hb1⟩
  replace hst := hst.later (Go.Proofs.YtifldnpccgbnkaaGreat.below_undrew hb1)
  clear hb1
  go_wp2_with fail
  refine hK.out _ _ hst.cells (fun hHeld => ?_)
  clear hK
  refine wpAnyH_take (i := 4) (oi := _) (v := ?_) rfl (by kernel_rfl) (by kernel_rfl) (by kernel_rfl) (fun _ _ _ h => h) (Or.inl ⟨by rfl, ?_⟩) (by assumption) ?_
  rotate_left
  · intro w hSw
    (try dsimp only at hSw)
    go_simp
    all_goals with_reducible rfl
  simp only [Act.put, List.setIfInBounds_toArray] --TAKE 14
  refine wpAnyH_ready (rs := [5, 6]) (by kernel_rfl) (by simp) ?_
  refine AllReadyH.cons (o := _) rfl (fun K hK => ?_) ?_
  · go_simp
    have hpo := own_one3 (a := .int .i64 0) (b := .int .i64 k') (c := .int .i64 v') (e := 103) (base := V.heap.size) hst.size
    replace hst := hst.later (alloc_below _ (.cells #[.int .i64 0, .int .i64 k', .int .i64 v'] 103 (0, 0)))
    refine hK.out _ _ hst.cells (fun hHeld => ?_)
    clear hK
    refine wpAnyH_ready (rs := [6]) (by kernel_rfl) (by simp) ?_
    refine AllReadyH.cons (o := _) rfl (fun K hK => ?_) AllReadyH.nil
    obtain ⟨f0, f1, f2, f3⟩ := two_factsO hst.t (.slice p n c)
    go_simp
    clear f0 f1 f2 f3
    replace hst := hst.store hl1 hl2 hl3 HWT.out (.slice p n c) (.int .i64 tn)
    replace hpo := Go.Proofs.YtifldnpccgbnkaaGreat.row_two (q := tB) (a := .slice p n c) (b := .int .i64 tn) hpo (by have := HS4.out; omega)
    refine hK.out _ _ hst.cells (fun hHeld => ?_)
    clear hK
    refine wpAnyH_ready (rs := [7]) (by kernel_rfl) (by simp) ?_
    refine AllReadyH.cons (o := _) rfl (fun K hK => ?_) AllReadyH.nil
    go_simp
    refine hK.out _ _ hst.cells (fun hHeld => ?_)
    clear hK
    refine wpAnyH_done (by kernel_rfl) ?_ _
    go_wp2
    refine bodyPost_ret (Go.Proofs.YtifldnpccgbnkaaGreat.results_cell_two rfl _ _ tB 58 _ _ _ rfl hst.t Tryz.underlying58 rfl (by kernel_rfl)) rfl ?_
    first | exact ⟨_, _, _, rfl, ownsRow_base hpo HBW.out.size, hst.below⟩ | exact ⟨_, _, _, rfl, (ownsRow_base hpo HBW.out.size).drew, hst.below.drew⟩
  refine AllReadyH.cons (o := _) rfl (fun K hK => ?_) AllReadyH.nil
  obtain ⟨f0, f1, f2, f3⟩ := two_factsO hst.t (.slice p n c)
  go_simp
  clear f0 f1 f2 f3
  replace hst := hst.store hl1 hl2 hl3 HWT.out (.slice p n c) (.int .i64 tn)
  refine hK.out _ _ hst.cells (fun hHeld => ?_)
  clear hK
  refine wpAnyH_ready (rs := [5]) (by kernel_rfl) (by simp) ?_
  refine AllReadyH.cons (o := _) rfl (fun K hK => ?_) AllReadyH.nil
  go_simp
  have hpo := own_one3 (a := .int .i64 0) (b := .int .i64 k') (c := .int .i64 v') (e := 103) (base := V.heap.size) hst.size
  rw [show (((w1).setCell ⟨tB, 0, none⟩ (.slice p n c)).setCell ⟨tB, 1, none⟩ (.int .i64 tn)).heap.size = (w1).heap.size from by simp [World.setCell]] at hpo
  replace hst := hst.later (alloc_below _ (.cells #[.int .i64 0, .int .i64 k', .int .i64 v'] 103 (0, 0)))
  refine hK.out _ _ hst.cells (fun hHeld => ?_)
  clear hK
  refine wpAnyH_ready (rs := [7]) (by kernel_rfl) (by simp) ?_
  refine AllReadyH.cons (o := _) rfl (fun K hK => ?_) AllReadyH.nil
  go_simp
  refine hK.out _ _ hst.cells (fun hHeld => ?_)
  clear hK
  refine wpAnyH_done (by kernel_rfl) ?_ _
  go_wp2
  refine bodyPost_ret (Go.Proofs.YtifldnpccgbnkaaGreat.results_cell_two rfl _ _ tB 58 _ _ _ rfl hst.t Tryz.underlying58 rfl (by kernel_rfl)) rfl ?_
  first | exact ⟨_, _, _, rfl, ownsRow_base hpo HBW.out.size, hst.below⟩ | exact ⟨_, _, _, rfl, (ownsRow_base hpo HBW.out.size).drew, hst.below.drew⟩
set_option maxRecDepth 100000 in
set_option maxHeartbeats 8000000 in
theorem rstep_3 {W : World} {pt fn ar tn ky vl : Int} {ip p : Option Addr} {n0 ic n c : Nat} {rb : Bool} (hrb : holdsC 3 fn ar vl = rb) :
    Calls Tryz.prog 70 #[.agg #[.int .i64 3, .int .i64 pt, .int .i64 fn, .int .i64 ar, .slice ip n0 ic], .agg #[.slice p n c, .int .i64 tn], .agg #[.int .i64 ky, .int .i64 vl]] W fun e w' => ∃ po co M, e = .returned (.tuple #[.agg #[.slice p n c, .int .i64 tn], .slice po M co]) ∧ w'.ownsRow W.heap.size 103 3 (.slice po M co) M ((if rb = true then [(⟨0, ky, vl⟩ : PU)] else []).flatMap PU.cells) ∧ Below W.heap.size W w' := by
  obtain ⟨V1, hV1⟩ : ∃ V, V = W.alloc (.cells #[.int .i64 3, .int .i64 pt, .int .i64 fn, .int .i64 ar, .slice ip n0 ic] 55 (0, 0)) := ⟨_, rfl⟩
  obtain ⟨V2, hV2⟩ : ∃ V, V = V1.alloc (.cells #[.slice p n c, .int .i64 tn] 58 (0, 0)) := ⟨_, rfl⟩
  obtain ⟨V3, hV3⟩ : ∃ V, V = V2.alloc (.cells #[.int .i64 ky, .int .i64 vl] 71 (0, 0)) := ⟨_, rfl⟩
  obtain ⟨V, hV⟩ : ∃ V, V = V3.alloc (.cells #[.slice none 0 0, .int .i64 0] 58 (0, 0)) := ⟨_, rfl⟩
  obtain ⟨oB, hoB⟩ : ∃ oB, W.heap.size = oB := ⟨_, rfl⟩
  obtain ⟨sB, hsB⟩ : ∃ sB, oB + 1 = sB := ⟨_, rfl⟩
  obtain ⟨rB, hrB⟩ : ∃ rB, sB + 1 = rB := ⟨_, rfl⟩
  obtain ⟨tB, htB⟩ : ∃ tB, rB + 1 = tB := ⟨_, rfl⟩
  have s1 : V1.heap.size = sB := by rw [hV1, ← hsB, ← hoB]; simp
  have s2 : V2.heap.size = rB := by rw [hV2]; simp [s1, hrB]
  have s3 : V3.heap.size = tB := by rw [hV3]; simp [s2, htB]
  have s4 : V.heap.size = tB + 1 := by rw [hV]; simp [s3]
  have HS4 := hide s4
  have HWT : Hid (W.heap.size ≤ tB) := hide (by omega)
  have b1 : Below W.heap.size W V1 := by rw [hV1]; exact alloc_below _ _
  have b2 : Below V1.heap.size V1 V2 := by rw [hV2]; exact alloc_below _ _
  have b3 : Below V2.heap.size V2 V3 := by rw [hV3]; exact alloc_below _ _
  have b4 : Below V3.heap.size V3 V := by rw [hV]; exact alloc_below _ _
  have u1 : V1.heap[oB]? = some (.cells #[.int .i64 3, .int .i64 pt, .int .i64 fn, .int .i64 ar, .slice ip n0 ic] 55 (0, 0)) := by rw [hV1, ← hoB]; exact heap_alloc_new W _
  have u2 : V2.heap[sB]? = some (.cells #[.slice p n c, .int .i64 tn] 58 (0, 0)) := by rw [hV2, ← s1]; exact heap_alloc_new V1 _
  have u3 : V3.heap[rB]? = some (.cells #[.int .i64 ky, .int .i64 vl] 71 (0, 0)) := by rw [hV3, ← s2]; exact heap_alloc_new V2 _
  have u4 : V.heap[tB]? = some (.cells #[.slice none 0 0, .int .i64 0] 58 (0, 0)) := by rw [hV, ← s3]; exact heap_alloc_new V3 _
  have bV : Below W.heap.size W V := ((b1.trans (b2.mono (by omega))).trans (b3.mono (by omega))).trans (b4.mono (by omega))
  have HST : Hid (St W V V oB sB rB tB (.cells #[.int .i64 3, .int .i64 pt, .int .i64 fn, .int .i64 ar, .slice ip n0 ic] 55 (0, 0)) (.cells #[.slice p n c, .int .i64 tn] 58 (0, 0)) (.cells #[.int .i64 ky, .int .i64 vl] 71 (0, 0)) (.cells #[.slice none 0 0, .int .i64 0] 58 (0, 0))) := hide ⟨below_box b4 (below_box b3 (below_box b2 u1)), below_box b4 (below_box b3 u2), below_box b4 u3, u4, bV, Nat.le_refl _⟩
  have HBW := hide bV
  obtain ⟨x0, x1, x2, x3, x4, x5, x6, x7, x8⟩ := HST.out.cells
  have HHO : Hid (Calls Tryz.prog 87 #[.agg #[.int .i64 3, .int .i64 pt, .int .i64 fn, .int .i64 ar, .slice ip n0 ic], .agg #[.int .i64 ky, .int .i64 vl]] V fun e w' => e = .returned (.bool rb) ∧ Below V.heap.size V w') := hide (rholds_any hrb)
  clear hrb
  clear bV b1 b2 b3 b4 u1 u2 u3 u4
  go_enter Tryz.func70, Tryz.ntmps70
  go_upto_region 1 with fail
  rw [← hV1, ← hV2, ← hV3, ← hV]
  try rw [hoB]
  try rw [hsB]
  try rw [hrB]
  try rw [htB]
  have hl1 : oB < tB := by omega
  have hl2 : sB < tB := by omega
  have hl3 : rB < tB := by omega
  clear hV1 hV2 hV3 hV hoB s1 s2 s3 s4 hsB hrB htB
  go_wp2_with fail
  refine HHO.out.mono ?_
  rintro _ w1 ⟨rfl, hB1⟩
  have HST1 := hide (HST.out.later hB1)
  clear x0 x1 x2 x3 x4 x5 x6 x7 x8 HHO hB1
  obtain ⟨x0, x1, x2, x3, x4, x5, x6, x7, x8⟩ := HST1.out.cells
  cases rb with
  | true =>
    go_upto_region 11 with fail
    have hst := HST1.out
    refine wp_region_held_drew (S := fun w' => w'.cell? ⟨oB, 0, none⟩ = some (.int .i64 3) ∧ w'.cell? ⟨oB, 1, none⟩ = some (.int .i64 pt) ∧ w'.cell? ⟨oB, 2, none⟩ = some (.int .i64 fn) ∧ w'.cell? ⟨oB, 3, none⟩ = some (.int .i64 ar) ∧ w'.cell? ⟨oB, 4, none⟩ = some (.slice ip n0 ic) ∧ w'.cell? ⟨sB, 0, none⟩ = some (.slice p n c) ∧ w'.cell? ⟨sB, 1, none⟩ = some (.int .i64 tn) ∧ w'.cell? ⟨rB, 0, none⟩ = some (.int .i64 ky) ∧ w'.cell? ⟨rB, 1, none⟩ = some (.int .i64 vl)) (by kernel_rfl) HST1.out.cells (fun hHeld => ?_)
    refine wpAnyH_take (i := 0) (oi := _) (v := ?_) rfl (by kernel_rfl) (by kernel_rfl) (by kernel_rfl) (fun _ _ _ h => h) (Or.inl ⟨by rfl, ?_⟩) (by assumption) ?_
    rotate_left
    · intro w hSw
      (try dsimp only at hSw)
      go_simp
      all_goals with_reducible rfl
    simp only [Act.put, List.setIfInBounds_toArray] --TAKE 15
    refine wpAnyH_take (i := 1) (oi := _) (v := ?_) rfl (by kernel_rfl) (by kernel_rfl) (by kernel_rfl) (fun _ _ _ h => h) (Or.inl ⟨by rfl, ?_⟩) (by assumption) ?_
    rotate_left
    · intro w hSw
      (try dsimp only at hSw)
      go_simp
      all_goals with_reducible rfl
    simp only [Act.put] --TAKE 16
    refine wpAnyH_take (i := 2) (oi := _) (v := ?_) rfl (by kernel_rfl) (by kernel_rfl) (by kernel_rfl) (fun _ _ _ h => h) (Or.inl ⟨by rfl, ?_⟩) (by assumption) ?_
    rotate_left
    · intro w hSw
      (try dsimp only at hSw)
      go_simp
      all_goals with_reducible rfl
    simp only [Act.put] --TAKE 17
    refine wpAnyH_ready (rs := [3, 4]) (by kernel_rfl) (by simp) ?_
    refine AllReadyH.cons (o := _) rfl (fun K hK => ?_) ?_
    · go_simp
      have hpo := own_one3 (a := .int .i64 0) (b := .int .i64 ky) (c := .int .i64 vl) (e := 103) (base := V.heap.size) hst.size
      replace hst := hst.later (alloc_below _ (.cells #[.int .i64 0, .int .i64 ky, .int .i64 vl] 103 (0, 0)))
      refine hK.out _ _ hst.cells (fun hHeld => ?_)
      clear hK
      refine wpAnyH_ready (rs := [4]) (by kernel_rfl) (by simp) ?_
      refine AllReadyH.cons (o := _) rfl (fun K hK => ?_) AllReadyH.nil
      obtain ⟨f0, f1, f2, f3⟩ := two_factsO hst.t (.slice p n c)
      go_simp
      clear f0 f1 f2 f3
      replace hst := hst.store hl1 hl2 hl3 HWT.out (.slice p n c) (.int .i64 tn)
      replace hpo := Go.Proofs.YtifldnpccgbnkaaGreat.row_two (q := tB) (a := .slice p n c) (b := .int .i64 tn) hpo (by have := HS4.out; omega)
      refine hK.out _ _ hst.cells (fun hHeld => ?_)
      clear hK
      refine wpAnyH_ready (rs := [5]) (by kernel_rfl) (by simp) ?_
      refine AllReadyH.cons (o := _) rfl (fun K hK => ?_) AllReadyH.nil
      go_simp
      refine hK.out _ _ hst.cells (fun hHeld => ?_)
      clear hK
      refine wpAnyH_done (by kernel_rfl) ?_ _
      go_wp2
      refine bodyPost_ret (Go.Proofs.YtifldnpccgbnkaaGreat.results_cell_two rfl _ _ tB 58 _ _ _ rfl hst.t Tryz.underlying58 rfl (by kernel_rfl)) rfl ?_
      first | exact ⟨_, _, _, rfl, ownsRow_base hpo HBW.out.size, hst.below⟩ | exact ⟨_, _, _, rfl, (ownsRow_base hpo HBW.out.size).drew, hst.below.drew⟩
    refine AllReadyH.cons (o := _) rfl (fun K hK => ?_) AllReadyH.nil
    obtain ⟨f0, f1, f2, f3⟩ := two_factsO hst.t (.slice p n c)
    go_simp
    clear f0 f1 f2 f3
    replace hst := hst.store hl1 hl2 hl3 HWT.out (.slice p n c) (.int .i64 tn)
    refine hK.out _ _ hst.cells (fun hHeld => ?_)
    clear hK
    refine wpAnyH_ready (rs := [3]) (by kernel_rfl) (by simp) ?_
    refine AllReadyH.cons (o := _) rfl (fun K hK => ?_) AllReadyH.nil
    go_simp
    have hpo := own_one3 (a := .int .i64 0) (b := .int .i64 ky) (c := .int .i64 vl) (e := 103) (base := V.heap.size) hst.size
    rw [show (((w1).setCell ⟨tB, 0, none⟩ (.slice p n c)).setCell ⟨tB, 1, none⟩ (.int .i64 tn)).heap.size = (w1).heap.size from by simp [World.setCell]] at hpo
    replace hst := hst.later (alloc_below _ (.cells #[.int .i64 0, .int .i64 ky, .int .i64 vl] 103 (0, 0)))
    refine hK.out _ _ hst.cells (fun hHeld => ?_)
    clear hK
    refine wpAnyH_ready (rs := [5]) (by kernel_rfl) (by simp) ?_
    refine AllReadyH.cons (o := _) rfl (fun K hK => ?_) AllReadyH.nil
    go_simp
    refine hK.out _ _ hst.cells (fun hHeld => ?_)
    clear hK
    refine wpAnyH_done (by kernel_rfl) ?_ _
    go_wp2
    refine bodyPost_ret (Go.Proofs.YtifldnpccgbnkaaGreat.results_cell_two rfl _ _ tB 58 _ _ _ rfl hst.t Tryz.underlying58 rfl (by kernel_rfl)) rfl ?_
    first | exact ⟨_, _, _, rfl, ownsRow_base hpo HBW.out.size, hst.below⟩ | exact ⟨_, _, _, rfl, (ownsRow_base hpo HBW.out.size).drew, hst.below.drew⟩
  | false =>
    obtain ⟨f0, f1, f2, f3⟩ := two_factsO HST1.out.t (.slice p n c)
    have HS2 := hide (HST1.out.store hl1 hl2 hl3 HWT.out (.slice p n c) (.int .i64 tn))
    go_wp2
    refine bodyPost_ret (Go.Proofs.YtifldnpccgbnkaaGreat.results_cell_two rfl _ _ tB 58 _ _ _ rfl HS2.out.t Tryz.underlying58 rfl (by kernel_rfl)) rfl ?_
    exact ⟨_, _, _, rfl, World.ownsRow_nil _ _ _ _, HS2.out.below⟩
set_option maxRecDepth 100000 in
set_option maxHeartbeats 8000000 in
theorem rstep_7 {W : World} {pt fn ar tn ky vl : Int} {ip p : Option Addr} {n0 ic n c : Nat} (hk : I6 ky) (ha : I6 ar) :
    Calls Tryz.prog 70 #[.agg #[.int .i64 7, .int .i64 pt, .int .i64 fn, .int .i64 ar, .slice ip n0 ic], .agg #[.slice p n c, .int .i64 tn], .agg #[.int .i64 ky, .int .i64 vl]] W fun e w' => ∃ po co M, e = .returned (.tuple #[.agg #[.slice p n c, .int .i64 tn], .slice po M co]) ∧ w'.ownsRow W.heap.size 103 3 (.slice po M co) M ([(⟨restC ky ar, ky, vl⟩ : PU)].flatMap PU.cells) ∧ Below W.heap.size W w' := by
  obtain ⟨V1, hV1⟩ : ∃ V, V = W.alloc (.cells #[.int .i64 7, .int .i64 pt, .int .i64 fn, .int .i64 ar, .slice ip n0 ic] 55 (0, 0)) := ⟨_, rfl⟩
  obtain ⟨V2, hV2⟩ : ∃ V, V = V1.alloc (.cells #[.slice p n c, .int .i64 tn] 58 (0, 0)) := ⟨_, rfl⟩
  obtain ⟨V3, hV3⟩ : ∃ V, V = V2.alloc (.cells #[.int .i64 ky, .int .i64 vl] 71 (0, 0)) := ⟨_, rfl⟩
  obtain ⟨V, hV⟩ : ∃ V, V = V3.alloc (.cells #[.slice none 0 0, .int .i64 0] 58 (0, 0)) := ⟨_, rfl⟩
  obtain ⟨oB, hoB⟩ : ∃ oB, W.heap.size = oB := ⟨_, rfl⟩
  obtain ⟨sB, hsB⟩ : ∃ sB, oB + 1 = sB := ⟨_, rfl⟩
  obtain ⟨rB, hrB⟩ : ∃ rB, sB + 1 = rB := ⟨_, rfl⟩
  obtain ⟨tB, htB⟩ : ∃ tB, rB + 1 = tB := ⟨_, rfl⟩
  have s1 : V1.heap.size = sB := by rw [hV1, ← hsB, ← hoB]; simp
  have s2 : V2.heap.size = rB := by rw [hV2]; simp [s1, hrB]
  have s3 : V3.heap.size = tB := by rw [hV3]; simp [s2, htB]
  have s4 : V.heap.size = tB + 1 := by rw [hV]; simp [s3]
  have HS4 := hide s4
  have HWT : Hid (W.heap.size ≤ tB) := hide (by omega)
  have b1 : Below W.heap.size W V1 := by rw [hV1]; exact alloc_below _ _
  have b2 : Below V1.heap.size V1 V2 := by rw [hV2]; exact alloc_below _ _
  have b3 : Below V2.heap.size V2 V3 := by rw [hV3]; exact alloc_below _ _
  have b4 : Below V3.heap.size V3 V := by rw [hV]; exact alloc_below _ _
  have u1 : V1.heap[oB]? = some (.cells #[.int .i64 7, .int .i64 pt, .int .i64 fn, .int .i64 ar, .slice ip n0 ic] 55 (0, 0)) := by rw [hV1, ← hoB]; exact heap_alloc_new W _
  have u2 : V2.heap[sB]? = some (.cells #[.slice p n c, .int .i64 tn] 58 (0, 0)) := by rw [hV2, ← s1]; exact heap_alloc_new V1 _
  have u3 : V3.heap[rB]? = some (.cells #[.int .i64 ky, .int .i64 vl] 71 (0, 0)) := by rw [hV3, ← s2]; exact heap_alloc_new V2 _
  have u4 : V.heap[tB]? = some (.cells #[.slice none 0 0, .int .i64 0] 58 (0, 0)) := by rw [hV, ← s3]; exact heap_alloc_new V3 _
  have bV : Below W.heap.size W V := ((b1.trans (b2.mono (by omega))).trans (b3.mono (by omega))).trans (b4.mono (by omega))
  have HST : Hid (St W V V oB sB rB tB (.cells #[.int .i64 7, .int .i64 pt, .int .i64 fn, .int .i64 ar, .slice ip n0 ic] 55 (0, 0)) (.cells #[.slice p n c, .int .i64 tn] 58 (0, 0)) (.cells #[.int .i64 ky, .int .i64 vl] 71 (0, 0)) (.cells #[.slice none 0 0, .int .i64 0] 58 (0, 0))) := hide ⟨below_box b4 (below_box b3 (below_box b2 u1)), below_box b4 (below_box b3 u2), below_box b4 u3, u4, bV, Nat.le_refl _⟩
  have HBW := hide bV
  obtain ⟨x0, x1, x2, x3, x4, x5, x6, x7, x8⟩ := HST.out.cells
  obtain ⟨pr, hpr⟩ : ∃ pr, restC ky ar = pr := ⟨_, rfl⟩
  rw [hpr]
  have HVAL : Hid (∀ X, Calls Tryz.prog 88 #[.int .i64 ky, .int .i64 ar] X fun e w' => e = .returned (.int .i64 pr) ∧ Below X.heap.size X w') := hide (fun X => by
    rw [← hpr]
    refine (rrest_any hk ha).mono ?_
    rintro _ _ ⟨rfl, rfl⟩
    exact ⟨rfl, Below.refl _ _⟩)
  clear hk ha hpr
  clear bV b1 b2 b3 b4 u1 u2 u3 u4
  go_enter Tryz.func70, Tryz.ntmps70
  go_upto_region 1 with fail
  rw [← hV1, ← hV2, ← hV3, ← hV]
  try rw [hoB]
  try rw [hsB]
  try rw [hrB]
  try rw [htB]
  have hl1 : oB < tB := by omega
  have hl2 : sB < tB := by omega
  have hl3 : rB < tB := by omega
  clear hV1 hV2 hV3 hV hoB s1 s2 s3 s4 hsB hrB htB
  go_upto_region 14 with fail
  have hst := HST.out
  refine wp_region_held_drew (S := fun w' => w'.cell? ⟨oB, 0, none⟩ = some (.int .i64 7) ∧ w'.cell? ⟨oB, 1, none⟩ = some (.int .i64 pt) ∧ w'.cell? ⟨oB, 2, none⟩ = some (.int .i64 fn) ∧ w'.cell? ⟨oB, 3, none⟩ = some (.int .i64 ar) ∧ w'.cell? ⟨oB, 4, none⟩ = some (.slice ip n0 ic) ∧ w'.cell? ⟨sB, 0, none⟩ = some (.slice p n c) ∧ w'.cell? ⟨sB, 1, none⟩ = some (.int .i64 tn) ∧ w'.cell? ⟨rB, 0, none⟩ = some (.int .i64 ky) ∧ w'.cell? ⟨rB, 1, none⟩ = some (.int .i64 vl)) (by kernel_rfl) HST.out.cells (fun hHeld => ?_)
  refine wpAnyH_take (i := 0) (oi := _) (v := ?_) rfl (by kernel_rfl) (by kernel_rfl) (by kernel_rfl) (fun _ _ _ h => h) (Or.inl ⟨by rfl, ?_⟩) (by assumption) ?_
  rotate_left
  · intro w hSw
    (try dsimp only at hSw)
    go_simp
    all_goals with_reducible rfl
  simp only [Act.put, List.setIfInBounds_toArray] --TAKE 18
  refine wpAnyH_take (i := 1) (oi := _) (v := ?_) rfl (by kernel_rfl) (by kernel_rfl) (by kernel_rfl) (fun _ _ _ h => h) (Or.inl ⟨by rfl, ?_⟩) (by assumption) ?_
  rotate_left
  · intro w hSw
    (try dsimp only at hSw)
    go_simp
    all_goals with_reducible rfl
  simp only [Act.put] --TAKE 19
  refine wpAnyH_take (i := 2) (oi := _) (v := ?_) rfl (by kernel_rfl) (by kernel_rfl) (by kernel_rfl) (fun _ _ _ h => h) (Or.inl ⟨by rfl, ?_⟩) (by assumption) ?_
  rotate_left
  · intro w hSw
    (try dsimp only at hSw)
    go_simp
    all_goals with_reducible rfl
  simp only [Act.put] --TAKE 20
  refine wpAnyH_take (i := 3) (oi := _) (v := ?_) rfl (by kernel_rfl) (by kernel_rfl) (by kernel_rfl) (fun _ _ _ h => h) (Or.inl ⟨by rfl, ?_⟩) (by assumption) ?_
  rotate_left
  · intro w hSw
    (try dsimp only at hSw)
    go_simp
    all_goals with_reducible rfl
  simp only [Act.put] --TAKE 21
  refine wpAnyH_take (i := 4) (oi := _) (v := ?_) rfl (by kernel_rfl) (by kernel_rfl) (by kernel_rfl) (fun _ _ _ h => h) (Or.inl ⟨by rfl, ?_⟩) (by assumption) ?_
  rotate_left
  · intro w hSw
    (try dsimp only at hSw)
    go_simp
    all_goals with_reducible rfl
  simp only [Act.put] --TAKE 22
  refine wpAnyH_take (i := 6) (oi := _) (v := ?_) rfl (by kernel_rfl) (by kernel_rfl) (by kernel_rfl) (fun _ _ _ h => h) (Or.inl ⟨by rfl, ?_⟩) (by assumption) ?_
  rotate_left
  · intro w hSw
    (try dsimp only at hSw)
    go_simp
    all_goals with_reducible rfl
  simp only [Act.put] --TAKE 23
  refine wpAnyH_ready (rs := [5]) (by kernel_rfl) (by simp) ?_
  refine AllReadyH.cons (o := _) rfl (fun K hK => ?_) AllReadyH.nil
  go_simp
  refine (HVAL.out _).mono ?_
  rintro _ w1 ⟨rfl, hb1⟩
  replace hst := hst.later (Go.Proofs.YtifldnpccgbnkaaGreat.below_undrew hb1)
  clear hb1
  go_wp2_with fail
  refine hK.out _ _ hst.cells (fun hHeld => ?_)
  clear hK
  refine wpAnyH_take (i := 7) (oi := _) (v := ?_) rfl (by kernel_rfl) (by kernel_rfl) (by kernel_rfl) (fun _ _ _ h => h) (Or.inl ⟨by rfl, ?_⟩) (by assumption) ?_
  rotate_left
  · intro w hSw
    (try dsimp only at hSw)
    go_simp
    all_goals with_reducible rfl
  simp only [Act.put, List.setIfInBounds_toArray] --TAKE 24
  refine wpAnyH_ready (rs := [8, 9]) (by kernel_rfl) (by simp) ?_
  refine AllReadyH.cons (o := _) rfl (fun K hK => ?_) ?_
  · go_simp
    have hpo := own_one3 (a := .int .i64 pr) (b := .int .i64 ky) (c := .int .i64 vl) (e := 103) (base := V.heap.size) hst.size
    replace hst := hst.later (alloc_below _ (.cells #[.int .i64 pr, .int .i64 ky, .int .i64 vl] 103 (0, 0)))
    refine hK.out _ _ hst.cells (fun hHeld => ?_)
    clear hK
    refine wpAnyH_ready (rs := [9]) (by kernel_rfl) (by simp) ?_
    refine AllReadyH.cons (o := _) rfl (fun K hK => ?_) AllReadyH.nil
    obtain ⟨f0, f1, f2, f3⟩ := two_factsO hst.t (.slice p n c)
    go_simp
    clear f0 f1 f2 f3
    replace hst := hst.store hl1 hl2 hl3 HWT.out (.slice p n c) (.int .i64 tn)
    replace hpo := Go.Proofs.YtifldnpccgbnkaaGreat.row_two (q := tB) (a := .slice p n c) (b := .int .i64 tn) hpo (by have := HS4.out; omega)
    refine hK.out _ _ hst.cells (fun hHeld => ?_)
    clear hK
    refine wpAnyH_ready (rs := [10]) (by kernel_rfl) (by simp) ?_
    refine AllReadyH.cons (o := _) rfl (fun K hK => ?_) AllReadyH.nil
    go_simp
    refine hK.out _ _ hst.cells (fun hHeld => ?_)
    clear hK
    refine wpAnyH_done (by kernel_rfl) ?_ _
    go_wp2
    refine bodyPost_ret (Go.Proofs.YtifldnpccgbnkaaGreat.results_cell_two rfl _ _ tB 58 _ _ _ rfl hst.t Tryz.underlying58 rfl (by kernel_rfl)) rfl ?_
    first | exact ⟨_, _, _, rfl, ownsRow_base hpo HBW.out.size, hst.below⟩ | exact ⟨_, _, _, rfl, (ownsRow_base hpo HBW.out.size).drew, hst.below.drew⟩
  refine AllReadyH.cons (o := _) rfl (fun K hK => ?_) AllReadyH.nil
  obtain ⟨f0, f1, f2, f3⟩ := two_factsO hst.t (.slice p n c)
  go_simp
  clear f0 f1 f2 f3
  replace hst := hst.store hl1 hl2 hl3 HWT.out (.slice p n c) (.int .i64 tn)
  refine hK.out _ _ hst.cells (fun hHeld => ?_)
  clear hK
  refine wpAnyH_ready (rs := [8]) (by kernel_rfl) (by simp) ?_
  refine AllReadyH.cons (o := _) rfl (fun K hK => ?_) AllReadyH.nil
  go_simp
  have hpo := own_one3 (a := .int .i64 pr) (b := .int .i64 ky) (c := .int .i64 vl) (e := 103) (base := V.heap.size) hst.size
  rw [show (((w1).setCell ⟨tB, 0, none⟩ (.slice p n c)).setCell ⟨tB, 1, none⟩ (.int .i64 tn)).heap.size = (w1).heap.size from by simp [World.setCell]] at hpo
  replace hst := hst.later (alloc_below _ (.cells #[.int .i64 pr, .int .i64 ky, .int .i64 vl] 103 (0, 0)))
  refine hK.out _ _ hst.cells (fun hHeld => ?_)
  clear hK
  refine wpAnyH_ready (rs := [10]) (by kernel_rfl) (by simp) ?_
  refine AllReadyH.cons (o := _) rfl (fun K hK => ?_) AllReadyH.nil
  go_simp
  refine hK.out _ _ hst.cells (fun hHeld => ?_)
  clear hK
  refine wpAnyH_done (by kernel_rfl) ?_ _
  go_wp2
  refine bodyPost_ret (Go.Proofs.YtifldnpccgbnkaaGreat.results_cell_two rfl _ _ tB 58 _ _ _ rfl hst.t Tryz.underlying58 rfl (by kernel_rfl)) rfl ?_
  first | exact ⟨_, _, _, rfl, ownsRow_base hpo HBW.out.size, hst.below⟩ | exact ⟨_, _, _, rfl, (ownsRow_base hpo HBW.out.size).drew, hst.below.drew⟩
set_option maxRecDepth 100000 in
set_option maxHeartbeats 8000000 in
theorem rstep_none {W : World} {pt fn ar tn ky vl : Int} {ip p : Option Addr} {n0 ic n c : Nat} {kd : Int} (hkd : kd < 1 ∨ 8 < kd) :
    Calls Tryz.prog 70 #[.agg #[.int .i64 kd, .int .i64 pt, .int .i64 fn, .int .i64 ar, .slice ip n0 ic], .agg #[.slice p n c, .int .i64 tn], .agg #[.int .i64 ky, .int .i64 vl]] W fun e w' => ∃ po co M, e = .returned (.tuple #[.agg #[.slice p n c, .int .i64 tn], .slice po M co]) ∧ w'.ownsRow W.heap.size 103 3 (.slice po M co) M (([] : List PU).flatMap PU.cells) ∧ Below W.heap.size W w' := by
  obtain ⟨V1, hV1⟩ : ∃ V, V = W.alloc (.cells #[.int .i64 kd, .int .i64 pt, .int .i64 fn, .int .i64 ar, .slice ip n0 ic] 55 (0, 0)) := ⟨_, rfl⟩
  obtain ⟨V2, hV2⟩ : ∃ V, V = V1.alloc (.cells #[.slice p n c, .int .i64 tn] 58 (0, 0)) := ⟨_, rfl⟩
  obtain ⟨V3, hV3⟩ : ∃ V, V = V2.alloc (.cells #[.int .i64 ky, .int .i64 vl] 71 (0, 0)) := ⟨_, rfl⟩
  obtain ⟨V, hV⟩ : ∃ V, V = V3.alloc (.cells #[.slice none 0 0, .int .i64 0] 58 (0, 0)) := ⟨_, rfl⟩
  obtain ⟨oB, hoB⟩ : ∃ oB, W.heap.size = oB := ⟨_, rfl⟩
  obtain ⟨sB, hsB⟩ : ∃ sB, oB + 1 = sB := ⟨_, rfl⟩
  obtain ⟨rB, hrB⟩ : ∃ rB, sB + 1 = rB := ⟨_, rfl⟩
  obtain ⟨tB, htB⟩ : ∃ tB, rB + 1 = tB := ⟨_, rfl⟩
  have s1 : V1.heap.size = sB := by rw [hV1, ← hsB, ← hoB]; simp
  have s2 : V2.heap.size = rB := by rw [hV2]; simp [s1, hrB]
  have s3 : V3.heap.size = tB := by rw [hV3]; simp [s2, htB]
  have s4 : V.heap.size = tB + 1 := by rw [hV]; simp [s3]
  have HS4 := hide s4
  have HWT : Hid (W.heap.size ≤ tB) := hide (by omega)
  have b1 : Below W.heap.size W V1 := by rw [hV1]; exact alloc_below _ _
  have b2 : Below V1.heap.size V1 V2 := by rw [hV2]; exact alloc_below _ _
  have b3 : Below V2.heap.size V2 V3 := by rw [hV3]; exact alloc_below _ _
  have b4 : Below V3.heap.size V3 V := by rw [hV]; exact alloc_below _ _
  have u1 : V1.heap[oB]? = some (.cells #[.int .i64 kd, .int .i64 pt, .int .i64 fn, .int .i64 ar, .slice ip n0 ic] 55 (0, 0)) := by rw [hV1, ← hoB]; exact heap_alloc_new W _
  have u2 : V2.heap[sB]? = some (.cells #[.slice p n c, .int .i64 tn] 58 (0, 0)) := by rw [hV2, ← s1]; exact heap_alloc_new V1 _
  have u3 : V3.heap[rB]? = some (.cells #[.int .i64 ky, .int .i64 vl] 71 (0, 0)) := by rw [hV3, ← s2]; exact heap_alloc_new V2 _
  have u4 : V.heap[tB]? = some (.cells #[.slice none 0 0, .int .i64 0] 58 (0, 0)) := by rw [hV, ← s3]; exact heap_alloc_new V3 _
  have bV : Below W.heap.size W V := ((b1.trans (b2.mono (by omega))).trans (b3.mono (by omega))).trans (b4.mono (by omega))
  have HST : Hid (St W V V oB sB rB tB (.cells #[.int .i64 kd, .int .i64 pt, .int .i64 fn, .int .i64 ar, .slice ip n0 ic] 55 (0, 0)) (.cells #[.slice p n c, .int .i64 tn] 58 (0, 0)) (.cells #[.int .i64 ky, .int .i64 vl] 71 (0, 0)) (.cells #[.slice none 0 0, .int .i64 0] 58 (0, 0))) := hide ⟨below_box b4 (below_box b3 (below_box b2 u1)), below_box b4 (below_box b3 u2), below_box b4 u3, u4, bV, Nat.le_refl _⟩
  have HBW := hide bV
  obtain ⟨x0, x1, x2, x3, x4, x5, x6, x7, x8⟩ := HST.out.cells
  have q1 : (kd == 1) = false := ne_eq (by omega)
  have q2 : (kd == 2) = false := ne_eq (by omega)
  have q3 : (kd == 3) = false := ne_eq (by omega)
  have q4 : (kd == 4) = false := ne_eq (by omega)
  have q5 : (kd == 5) = false := ne_eq (by omega)
  have q6 : (kd == 6) = false := ne_eq (by omega)
  have q7 : (kd == 7) = false := ne_eq (by omega)
  have q8 : (kd == 8) = false := ne_eq (by omega)
  clear hkd
  clear bV b1 b2 b3 b4 u1 u2 u3 u4
  go_enter Tryz.func70, Tryz.ntmps70
  go_upto_region 1 with fail
  rw [← hV1, ← hV2, ← hV3, ← hV]
  try rw [hoB]
  try rw [hsB]
  try rw [hrB]
  try rw [htB]
  have hl1 : oB < tB := by omega
  have hl2 : sB < tB := by omega
  have hl3 : rB < tB := by omega
  clear hV1 hV2 hV3 hV hoB s1 s2 s3 s4 hsB hrB htB
  obtain ⟨f0, f1, f2, f3⟩ := two_factsO HST.out.t (.slice p n c)
  have HS2 := hide (HST.out.store hl1 hl2 hl3 HWT.out (.slice p n c) (.int .i64 tn))
  go_wp2
  refine bodyPost_ret (Go.Proofs.YtifldnpccgbnkaaGreat.results_cell_two rfl _ _ tB 58 _ _ _ rfl HS2.out.t Tryz.underlying58 rfl (by kernel_rfl)) rfl ?_
  exact ⟨_, _, _, rfl, World.ownsRow_nil _ _ _ _, HS2.out.below⟩
set_option maxRecDepth 100000 in
set_option maxHeartbeats 8000000 in
theorem rstep_keep {W : World} {kd pt fn ar tn ky vl : Int} {ip p : Option Addr} {n0 ic n c : Nat} {ks : List KS} (hkp : keepsC kd = true) (h : KRow W p c ks) (hn : ks.length = n) (hb : n ≤ 1048576) (hki : ∀ x ∈ ks, 0 ≤ x.cnt ∧ x.cnt < 9007199254740992) :
    Calls Tryz.prog 70 #[.agg #[.int .i64 kd, .int .i64 pt, .int .i64 fn, .int .i64 ar, .slice ip n0 ic], .agg #[.slice p n c, .int .i64 tn], .agg #[.int .i64 ky, .int .i64 vl]] W fun e w' => ∃ pk ck K po co M, e = .returned (.tuple #[.agg #[.slice pk K ck, .int .i64 tn], .slice po M co]) ∧ w'.ownsRow W.heap.size 105 3 (.slice pk K ck) K ((keysR kd fn ar ks ⟨ky, vl⟩).flatMap KS.cells) ∧ w'.ownsRow W.heap.size 103 3 (.slice po M co) M ((putsR kd fn ar ks ⟨ky, vl⟩).flatMap PU.cells) ∧ Below W.heap.size W w' := by
  obtain ⟨V1, hV1⟩ : ∃ V, V = W.alloc (.cells #[.int .i64 kd, .int .i64 pt, .int .i64 fn, .int .i64 ar, .slice ip n0 ic] 55 (0, 0)) := ⟨_, rfl⟩
  obtain ⟨V2, hV2⟩ : ∃ V, V = V1.alloc (.cells #[.slice p n c, .int .i64 tn] 58 (0, 0)) := ⟨_, rfl⟩
  obtain ⟨V3, hV3⟩ : ∃ V, V = V2.alloc (.cells #[.int .i64 ky, .int .i64 vl] 71 (0, 0)) := ⟨_, rfl⟩
  obtain ⟨V, hV⟩ : ∃ V, V = V3.alloc (.cells #[.slice none 0 0, .int .i64 0] 58 (0, 0)) := ⟨_, rfl⟩
  obtain ⟨oB, hoB⟩ : ∃ oB, W.heap.size = oB := ⟨_, rfl⟩
  obtain ⟨sB, hsB⟩ : ∃ sB, oB + 1 = sB := ⟨_, rfl⟩
  obtain ⟨rB, hrB⟩ : ∃ rB, sB + 1 = rB := ⟨_, rfl⟩
  obtain ⟨tB, htB⟩ : ∃ tB, rB + 1 = tB := ⟨_, rfl⟩
  have s1 : V1.heap.size = sB := by rw [hV1, ← hsB, ← hoB]; simp
  have s2 : V2.heap.size = rB := by rw [hV2]; simp [s1, hrB]
  have s3 : V3.heap.size = tB := by rw [hV3]; simp [s2, htB]
  have s4 : V.heap.size = tB + 1 := by rw [hV]; simp [s3]
  have HS4 := hide s4
  have HWT : Hid (W.heap.size ≤ tB) := hide (by omega)
  have b1 : Below W.heap.size W V1 := by rw [hV1]; exact alloc_below _ _
  have b2 : Below V1.heap.size V1 V2 := by rw [hV2]; exact alloc_below _ _
  have b3 : Below V2.heap.size V2 V3 := by rw [hV3]; exact alloc_below _ _
  have b4 : Below V3.heap.size V3 V := by rw [hV]; exact alloc_below _ _
  have u1 : V1.heap[oB]? = some (.cells #[.int .i64 kd, .int .i64 pt, .int .i64 fn, .int .i64 ar, .slice ip n0 ic] 55 (0, 0)) := by rw [hV1, ← hoB]; exact heap_alloc_new W _
  have u2 : V2.heap[sB]? = some (.cells #[.slice p n c, .int .i64 tn] 58 (0, 0)) := by rw [hV2, ← s1]; exact heap_alloc_new V1 _
  have u3 : V3.heap[rB]? = some (.cells #[.int .i64 ky, .int .i64 vl] 71 (0, 0)) := by rw [hV3, ← s2]; exact heap_alloc_new V2 _
  have u4 : V.heap[tB]? = some (.cells #[.slice none 0 0, .int .i64 0] 58 (0, 0)) := by rw [hV, ← s3]; exact heap_alloc_new V3 _
  have bV : Below W.heap.size W V := ((b1.trans (b2.mono (by omega))).trans (b3.mono (by omega))).trans (b4.mono (by omega))
  have HST : Hid (St W V V oB sB rB tB (.cells #[.int .i64 kd, .int .i64 pt, .int .i64 fn, .int .i64 ar, .slice ip n0 ic] 55 (0, 0)) (.cells #[.slice p n c, .int .i64 tn] 58 (0, 0)) (.cells #[.int .i64 ky, .int .i64 vl] 71 (0, 0)) (.cells #[.slice none 0 0, .int .i64 0] 58 (0, 0))) := hide ⟨below_box b4 (below_box b3 (below_box b2 u1)), below_box b4 (below_box b3 u2), below_box b4 u3, u4, bV, Nat.le_refl _⟩
  have HBW := hide bV
  obtain ⟨x0, x1, x2, x3, x4, x5, x6, x7, x8⟩ := HST.out.cells
  have HFO := hide (folds_any (fn := fn) (ar := ar) (pt := pt) (tn := tn) (ky := ky) (vl := vl) (ip := ip) (n0 := n0) (ic := ic) hkp (KRow.later h bV) hn hb hki)
  have hkd : kd = 5 ∨ kd = 6 := by unfold keepsC at hkp; simpa using hkp
  clear h hn hki hkp
  rcases hkd with kd5 | kd6
  · subst kd5
    clear bV b1 b2 b3 b4 u1 u2 u3 u4
    go_enter Tryz.func70, Tryz.ntmps70
    go_upto_region 1 with fail
    rw [← hV1, ← hV2, ← hV3, ← hV]
    try rw [hoB]
    try rw [hsB]
    try rw [hrB]
    try rw [htB]
    have hl1 : oB < tB := by omega
    have hl2 : sB < tB := by omega
    have hl3 : rB < tB := by omega
    clear hV1 hV2 hV3 hV hoB s1 s2 s3 s4 hsB hrB htB
    go_wp2_with fail
    refine HFO.out.mono ?_
    rintro _ w1 ⟨pk, ck, K, po, co, M, rfl, _, _, h1, h2, hB1⟩
    have hst := HST.out.later hB1
    obtain ⟨f0, f1, f2, f3⟩ := two_factsO hst.t (.slice pk K ck)
    have HS2 := hide (hst.store hl1 hl2 hl3 HWT.out (.slice pk K ck) (.int .i64 tn))
    have HK2 := hide (ownsRow_base (Go.Proofs.YtifldnpccgbnkaaGreat.row_two (q := tB) (a := .slice pk K ck) (b := .int .i64 tn) h1 (by have := HS4.out; omega)) HBW.out.size)
    have HP2 := hide (ownsRow_base (Go.Proofs.YtifldnpccgbnkaaGreat.row_two (q := tB) (a := .slice pk K ck) (b := .int .i64 tn) h2 (by have := HS4.out; omega)) HBW.out.size)
    clear h1 h2 hB1 HFO hst
    go_wp2
    refine bodyPost_ret (Go.Proofs.YtifldnpccgbnkaaGreat.results_cell_two rfl _ _ tB 58 _ _ _ rfl HS2.out.t Tryz.underlying58 rfl (by kernel_rfl)) rfl ?_
    exact ⟨_, _, _, _, _, _, rfl, HK2.out, HP2.out, HS2.out.below⟩
  · subst kd6
    clear bV b1 b2 b3 b4 u1 u2 u3 u4
    go_enter Tryz.func70, Tryz.ntmps70
    go_upto_region 1 with fail
    rw [← hV1, ← hV2, ← hV3, ← hV]
    try rw [hoB]
    try rw [hsB]
    try rw [hrB]
    try rw [htB]
    have hl1 : oB < tB := by omega
    have hl2 : sB < tB := by omega
    have hl3 : rB < tB := by omega
    clear hV1 hV2 hV3 hV hoB s1 s2 s3 s4 hsB hrB htB
    go_wp2_with fail
    refine HFO.out.mono ?_
    rintro _ w1 ⟨pk, ck, K, po, co, M, rfl, _, _, h1, h2, hB1⟩
    have hst := HST.out.later hB1
    obtain ⟨f0, f1, f2, f3⟩ := two_factsO hst.t (.slice pk K ck)
    have HS2 := hide (hst.store hl1 hl2 hl3 HWT.out (.slice pk K ck) (.int .i64 tn))
    have HK2 := hide (ownsRow_base (Go.Proofs.YtifldnpccgbnkaaGreat.row_two (q := tB) (a := .slice pk K ck) (b := .int .i64 tn) h1 (by have := HS4.out; omega)) HBW.out.size)
    have HP2 := hide (ownsRow_base (Go.Proofs.YtifldnpccgbnkaaGreat.row_two (q := tB) (a := .slice pk K ck) (b := .int .i64 tn) h2 (by have := HS4.out; omega)) HBW.out.size)
    clear h1 h2 hB1 HFO hst
    go_wp2
    refine bodyPost_ret (Go.Proofs.YtifldnpccgbnkaaGreat.results_cell_two rfl _ _ tB 58 _ _ _ rfl HS2.out.t Tryz.underlying58 rfl (by kernel_rfl)) rfl ?_
    exact ⟨_, _, _, _, _, _, rfl, HK2.out, HP2.out, HS2.out.below⟩
end Go.Proofs.YtifldnpccgbnkaaGreat.Op

/-
  The reference's All of package oper, from nothing kept. The conditions: lengths.
-/
namespace Go.Proofs.YtifldnpccgbnkaaGreat.Op
open Go.RowKit

def keysN (kd fn ar : Int) (ks : List KS) (r : RC) : List KS := if keepsC kd = true then keysR kd fn ar ks r else []
def putsN (kd fn ar : Int) (ks : List KS) (r : RC) : List PU := if keepsC kd = true then putsR kd fn ar ks r else passC kd fn ar r.key r.val
theorem rstep_any {W : World} {kd pt fn ar tn ky vl : Int} {ip p : Option Addr} {n0 ic n c : Nat} {ks : List KS} (hk : I6 ky) (hv : I6 vl) (ha : I6 ar) (h : KRow W p c ks) (hn : ks.length = n) (hb : n ≤ 1048576) (hki : ∀ x ∈ ks, 0 ≤ x.cnt ∧ x.cnt < 9007199254740992) (hz : keepsC kd = false → p = none ∧ c = 0 ∧ ks = []) :
    Calls Tryz.prog 70 #[.agg #[.int .i64 kd, .int .i64 pt, .int .i64 fn, .int .i64 ar, .slice ip n0 ic], .agg #[.slice p n c, .int .i64 tn], .agg #[.int .i64 ky, .int .i64 vl]] W fun e w' => ∃ pk ck K po co M, e = .returned (.tuple #[.agg #[.slice pk K ck, .int .i64 tn], .slice po M co]) ∧ w'.ownsRow W.heap.size 105 3 (.slice pk K ck) K ((keysN kd fn ar ks ⟨ky, vl⟩).flatMap KS.cells) ∧ w'.ownsRow W.heap.size 103 3 (.slice po M co) M ((putsN kd fn ar ks ⟨ky, vl⟩).flatMap PU.cells) ∧ (keepsC kd = false → pk = none ∧ ck = 0) ∧ Below W.heap.size W w' := by
  cases hkp : keepsC kd with
  | true =>
    refine (rstep_keep hkp h hn hb hki).mono ?_
    rintro _ w' ⟨pk, ck, K, po, co, M, rfl, h1, h2, h3⟩
    have e1 : keysN kd fn ar ks ⟨ky, vl⟩ = keysR kd fn ar ks ⟨ky, vl⟩ := by unfold keysN; rw [if_pos hkp]
    have e2 : putsN kd fn ar ks ⟨ky, vl⟩ = putsR kd fn ar ks ⟨ky, vl⟩ := by unfold putsN; rw [if_pos hkp]
    rw [e1, e2]
    exact ⟨pk, ck, K, po, co, M, rfl, h1, h2, fun e => (by cases e), h3⟩
  | false =>
    obtain ⟨rfl, rfl, rfl⟩ := hz hkp
    obtain rfl : n = 0 := by simpa using hn.symm
    have hkp2 : ¬ keepsC kd = true := by rw [hkp]; decide
    have e1 : keysN kd fn ar [] ⟨ky, vl⟩ = [] := by unfold keysN; rw [if_neg hkp2]
    have e2 : putsN kd fn ar [] ⟨ky, vl⟩ = passC kd fn ar ky vl := by unfold putsN; rw [if_neg hkp2]
    rw [e1, e2]
    have done : ∀ (ps : List PU), passC kd fn ar ky vl = ps → (Calls Tryz.prog 70 #[.agg #[.int .i64 kd, .int .i64 pt, .int .i64 fn, .int .i64 ar, .slice ip n0 ic], .agg #[.slice none 0 0, .int .i64 tn], .agg #[.int .i64 ky, .int .i64 vl]] W fun e w' => ∃ po co M, e = .returned (.tuple #[.agg #[.slice none 0 0, .int .i64 tn], .slice po M co]) ∧ w'.ownsRow W.heap.size 103 3 (.slice po M co) M (ps.flatMap PU.cells) ∧ Below W.heap.size W w') → Calls Tryz.prog 70 #[.agg #[.int .i64 kd, .int .i64 pt, .int .i64 fn, .int .i64 ar, .slice ip n0 ic], .agg #[.slice none 0 0, .int .i64 tn], .agg #[.int .i64 ky, .int .i64 vl]] W fun e w' => ∃ pk ck K po co M, e = .returned (.tuple #[.agg #[.slice pk K ck, .int .i64 tn], .slice po M co]) ∧ w'.ownsRow W.heap.size 105 3 (.slice pk K ck) K (([] : List KS).flatMap KS.cells) ∧ w'.ownsRow W.heap.size 103 3 (.slice po M co) M ((passC kd fn ar ky vl).flatMap PU.cells) ∧ (false = false → pk = none ∧ ck = 0) ∧ Below W.heap.size W w' := fun ps hps hc => by
      rw [hps]
      refine hc.mono ?_
      rintro _ w' ⟨po, co, M, rfl, h2, h3⟩
      exact ⟨none, 0, 0, po, co, M, rfl, World.ownsRow_nil _ _ _ _, h2, fun _ => ⟨rfl, rfl⟩, h3⟩
    have hk56 : kd ≠ 5 ∧ kd ≠ 6 := by
      unfold keepsC at hkp
      refine ⟨fun e => ?_, fun e => ?_⟩ <;> · rw [e] at hkp; cases hkp
    by_cases k1 : kd = 1
    · subst k1; exact done _ (by unfold passC holdsC valueC; simp [passKinds]) rstep_1
    by_cases k8 : kd = 8
    · subst k8; exact done _ (by unfold passC holdsC valueC; simp [passKinds]) rstep_8
    by_cases k2 : kd = 2
    · subst k2
      obtain ⟨⟨a, b⟩, hr⟩ : ∃ q, valueC 2 fn ar ky vl = q := ⟨_, rfl⟩
      exact done _ (by unfold passC; simp [passKinds, holdsC, hr]) (rstep_2 hk hv ha hr)
    by_cases k4 : kd = 4
    · subst k4
      obtain ⟨⟨a, b⟩, hr⟩ : ∃ q, valueC 4 fn ar ky vl = q := ⟨_, rfl⟩
      exact done _ (by unfold passC; simp [passKinds, holdsC, hr]) (rstep_4 hk hv ha hr)
    by_cases k3 : kd = 3
    · subst k3
      obtain ⟨rb, hrb⟩ : ∃ rb, holdsC 3 fn ar vl = rb := ⟨_, rfl⟩
      exact done _ (by unfold passC; rw [hrb]; simp [passKinds, valueC]) (rstep_3 hrb)
    by_cases k7 : kd = 7
    · subst k7; exact done _ (by unfold passC; simp [passKinds]) (rstep_7 hk ha)
    exact done [] (by
      unfold passC passKinds
      rw [if_neg (by simp [k1, k2, k3, k4, k8]), if_neg k7]) (rstep_none (by omega))
theorem count_bound (kd fn ar : Int) : ∀ (rs : List RC) (s : ST) (k : Int), 0 ≤ (s k).1 → (stateC kd fn ar s rs k).1 ≤ (s k).1 + rs.length
  | [], _, _, _ => by simp [stateC]
  | r :: rs, s, k, h0 => by
    have h1 : 0 ≤ (stepC kd fn ar s r k).1 ∧ (stepC kd fn ar s r k).1 ≤ (s k).1 + 1 := by
      unfold stepC
      by_cases e : k = r.key
      · rw [if_pos e]
        split
        · show 0 ≤ countC _ ∧ countC _ ≤ _
          unfold countC
          split <;> omega
        · show (0 : Int) ≤ 0 ∧ (0 : Int) ≤ _
          omega
      · rw [if_neg e]; omega
    have := count_bound kd fn ar rs (stepC kd fn ar s r) k h1.1
    have e2 : stateC kd fn ar s (r :: rs) k = stateC kd fn ar (stepC kd fn ar s r) rs k := rfl
    rw [e2, List.length_cons]
    push_cast
    omega
/-- What the reference keeps and lets out behind records. -/
def keptA (kd fn ar : Int) (rs : List RC) : List KS := if keepsC kd = true then (allR kd fn ar [] rs).1 else []
def putsA (kd fn ar : Int) (rs : List RC) : List PU := if keepsC kd = true then (allR kd fn ar [] rs).2 else passAll kd fn ar rs
theorem keptA_snoc (kd fn ar : Int) (rs : List RC) (r : RC) : keptA kd fn ar (rs ++ [r]) = keysN kd fn ar (keptA kd fn ar rs) r ∧ putsA kd fn ar (rs ++ [r]) = putsA kd fn ar rs ++ putsN kd fn ar (keptA kd fn ar rs) r := by
  by_cases h : keepsC kd = true
  · have e1 : ∀ l, keptA kd fn ar l = (allR kd fn ar [] l).1 := fun l => by unfold keptA; rw [if_pos h]
    have e2 : ∀ l, putsA kd fn ar l = (allR kd fn ar [] l).2 := fun l => by unfold putsA; rw [if_pos h]
    have e3 : ∀ l, keysN kd fn ar l r = keysR kd fn ar l r := fun l => by unfold keysN; rw [if_pos h]
    have e4 : ∀ l, putsN kd fn ar l r = putsR kd fn ar l r := fun l => by unfold putsN; rw [if_pos h]
    rw [e1, e1, e2, e2, e3, e4, allR_snoc]
    exact ⟨rfl, rfl⟩
  · have e1 : ∀ l, keptA kd fn ar l = [] := fun l => by unfold keptA; rw [if_neg h]
    have e2 : ∀ l, putsA kd fn ar l = passAll kd fn ar l := fun l => by unfold putsA; rw [if_neg h]
    have e3 : ∀ l, keysN kd fn ar l r = [] := fun l => by unfold keysN; rw [if_neg h]
    have e4 : ∀ l, putsN kd fn ar l r = passC kd fn ar r.key r.val := fun l => by unfold putsN; rw [if_neg h]
    rw [e1, e2, e2, e3, e4]
    exact ⟨rfl, passAll_snoc kd fn ar rs r⟩
theorem keptA_len (kd fn ar : Int) (rs : List RC) : (keptA kd fn ar rs).length ≤ rs.length ∧ (putsA kd fn ar rs).length ≤ rs.length ∧ ∀ x ∈ keptA kd fn ar rs, 0 ≤ x.cnt ∧ x.cnt ≤ rs.length := by
  unfold keptA putsA
  by_cases h : keepsC kd = true
  · rw [if_pos h, if_pos h]
    obtain ⟨e1, e2⟩ := allR_nil (fn := fn) (ar := ar) h rs
    rw [e1, e2]
    refine ⟨?_, outsC_len _ _ _ _ _, fun x hx => ?_⟩
    · unfold finC
      rw [List.length_map]
      have h1 := keysC_len (rs.map RC.key)
      rw [List.length_map] at h1
      exact Nat.le_trans (List.length_filter_le _ _) h1
    · have h2 := (sk_prog kd fn ar rs).each x hx
      have h3 := count_bound kd fn ar rs ST.none x.key (Int.le_refl 0)
      have h4 := fair_state kd fn ar rs ST.none (fun _ => ⟨Int.le_refl 0, (by decide : (0 : Int) ≤ 9007199254740992)⟩) x.key
      rw [h2.1] at h3 h4
      have e0 : (ST.none x.key).1 = 0 := rfl
      simp only [e0] at h3 h4
      omega
  · rw [if_neg h, if_neg h]
    exact ⟨Nat.zero_le _, passAll_len _ _ _ _, fun x hx => (by cases hx)⟩
structure AllA (W V w : World) (oB sB tB : Nat) (kd pt fn ar : Int) (ip : Option Addr) (n0 ic : Nat) (pk : Option Addr) (ck K : Nat) (ks : List KS) : Prop where
  o : w.heap[oB]? = some (.cells #[.int .i64 kd, .int .i64 pt, .int .i64 fn, .int .i64 ar, .slice ip n0 ic] 55 (0, 0))
  s : w.heap[sB]? = some (.cells #[.slice pk K ck, .int .i64 0] 58 (0, 0))
  t : w.heap[tB]? = some (.cells #[.slice none 0 0, .int .i64 0] 58 (0, 0))
  keys : w.ownsRow V.heap.size 105 3 (.slice pk K ck) K (ks.flatMap KS.cells)
  nil : keepsC kd = false → pk = Option.none ∧ ck = 0
  size : V.heap.size ≤ w.heap.size
  below : Below W.heap.size W w
theorem AllA.later {W V w w' : World} {oB sB tB : Nat} {kd pt fn ar : Int} {ip : Option Addr} {n0 ic : Nat} {pk : Option Addr} {ck K : Nat} {ks : List KS} (h : AllA W V w oB sB tB kd pt fn ar ip n0 ic pk ck K ks) (hb : Below w.heap.size w w') : AllA W V w' oB sB tB kd pt fn ar ip n0 ic pk ck K ks :=
  ⟨below_box hb h.o, below_box hb h.s, below_box hb h.t, ownsRow_later h.keys hb, h.nil, Nat.le_trans h.size hb.size, h.below.trans (hb.mono h.below.size)⟩
theorem pu_one1 (x : PU) : ∀ u ∈ x.cells, u.oneCell' = true := by
  intro u hu
  simp only [PU.cells, List.mem_cons, List.not_mem_nil, or_false] at hu
  rcases hu with rfl | rfl | rfl <;> rfl
/-- What is kept is written to its box. -/
theorem AllA.put {W V w : World} {oB sB tB : Nat} {kd pt fn ar : Int} {ip : Option Addr} {n0 ic : Nat} {pk pk' : Option Addr} {ck K ck' K' B : Nat} {ks ks' : List KS} (h : AllA W V w oB sB tB kd pt fn ar ip n0 ic pk ck K ks) (h1 : oB < sB) (h2 : sB < tB) (hs : sB < V.heap.size) (hw : W.heap.size ≤ sB) (hB : V.heap.size ≤ B) (hk : w.ownsRow B 105 3 (.slice pk' K' ck') K' (ks'.flatMap KS.cells)) (hn : keepsC kd = false → pk' = none ∧ ck' = 0) :
    AllA W V ((w.setCell ⟨sB, 0, none⟩ (.slice pk' K' ck')).setCell ⟨sB, 1, none⟩ (.int .i64 0)) oB sB tB kd pt fn ar ip n0 ic pk' ck' K' ks' := by
  have hO := (Only.set (F := (· = sB)) w sB 0 (.slice pk' K' ck') rfl).trans (Only.set (F := (· = sB)) _ sB 1 (.int .i64 0) rfl)
  refine ⟨hO.obj h.o (fun e => ?_), Go.Proofs.YtifldnpccgbnkaaGreat.two_set h.s _ _, hO.obj h.t (fun e => ?_), ownsRow_only (ownsRow_base hk hB) hO (fun b hb e => ?_), hn, Nat.le_trans h.size hO.size, (h.below.setCell (p := ⟨sB, 0, none⟩) hw _).setCell (p := ⟨sB, 1, none⟩) hw _⟩
  · have e' : oB = sB := e
    omega
  · have e' : tB = sB := e
    omega
  · have e' : b = sB := e
    have := own_block_base hk hb
    omega
/-- What goes out is written to memory of its own. -/
theorem AllA.puts {W V w w' : World} {oB sB tB : Nat} {kd pt fn ar : Int} {ip : Option Addr} {n0 ic : Nat} {pk po : Option Addr} {ck K co M : Nat} {ks : List KS} {xs : List Value} (h : AllA W V w oB sB tB kd pt fn ar ip n0 ic pk ck K ks) (hp : w.ownsRow V.heap.size 103 3 (.slice po M co) M xs) (ho : Only (fun i => (Value.slice po M co).ownBlock = some i) w w') (hW : W.heap.size ≤ V.heap.size) : AllA W V w' oB sB tB kd pt fn ar ip n0 ic pk ck K ks := by
  have key : ∀ {b : Nat} {cs : Array Value} {t : TypeId}, w.heap[b]? = some (.cells cs t (0, 0)) → t ≠ 103 → w'.heap[b]? = some (.cells cs t (0, 0)) := fun {b cs t} hb ht => ho.obj hb (fun e => by
    obtain ⟨_, cur, h1⟩ := own_block_lt hp (b := b) e
    rw [hb] at h1
    simp only [Option.some.injEq, Obj.cells.injEq] at h1
    exact ht h1.2.1)
  exact ⟨key h.o (by decide), key h.s (by decide), key h.t (by decide), ownsRow_only h.keys ho (fun b hb e => rows_apart hp h.keys (by decide) hb e), h.nil, Nat.le_trans h.size ho.size, h.below.trans (ho.below h.below.size (fun i e => Nat.le_trans hW (own_block_base hp e)))⟩

set_option maxRecDepth 100000 in
set_option maxHeartbeats 16000000 in
theorem rall_any {W : World} {p : Option Addr} {c N : Nat} {rs : List RC} {kd pt fn ar : Int} {ip : Option Addr} {n0 ic : Nat} (ha : I6 ar) (h : RRow W p c rs) (hN : rs.length = N) (hb : N ≤ 1048576) (hri : ∀ r ∈ rs, r.fine) :
    Calls Tryz.prog 50 #[.agg #[.int .i64 kd, .int .i64 pt, .int .i64 fn, .int .i64 ar, .slice ip n0 ic], .agg #[.slice none 0 0, .int .i64 0], .slice p N c] W fun e w' => ∃ pk ck K po co M, e = .returned (.tuple #[.agg #[.slice pk K ck, .int .i64 0], .slice po M co]) ∧ w'.ownsRow W.heap.size 105 3 (.slice pk K ck) K ((keptA kd fn ar rs).flatMap KS.cells) ∧ w'.ownsRow W.heap.size 103 3 (.slice po M co) M ((putsA kd fn ar rs).flatMap PU.cells) ∧ Below W.heap.size W w' := by
  obtain ⟨k0, hK0, hz0, hz1, hz2⟩ := info_parts Tryz.infoPut7
  have i1 := h.le
  have i2 := h.top
  rw [hN] at i1
  obtain ⟨V1, hV1⟩ : ∃ V, V = W.alloc (.cells #[.int .i64 kd, .int .i64 pt, .int .i64 fn, .int .i64 ar, .slice ip n0 ic] 55 (0, 0)) := ⟨_, rfl⟩
  obtain ⟨V2, hV2⟩ : ∃ V, V = V1.alloc (.cells #[.slice none 0 0, .int .i64 0] 58 (0, 0)) := ⟨_, rfl⟩
  obtain ⟨V, hV⟩ : ∃ V, V = V2.alloc (.cells #[.slice none 0 0, .int .i64 0] 58 (0, 0)) := ⟨_, rfl⟩
  obtain ⟨oB, hoB⟩ : ∃ oB, W.heap.size = oB := ⟨_, rfl⟩
  obtain ⟨sB, hsB⟩ : ∃ sB, oB + 1 = sB := ⟨_, rfl⟩
  obtain ⟨tB, htB⟩ : ∃ tB, sB + 1 = tB := ⟨_, rfl⟩
  have s1 : V1.heap.size = sB := by rw [hV1, ← hsB, ← hoB]; simp
  have s2 : V2.heap.size = tB := by rw [hV2]; simp [s1, htB]
  have s4 : V.heap.size = tB + 1 := by rw [hV]; simp [s2]
  have HS4 := hide s4
  have HWO : Hid (W.heap.size = oB) := hide hoB
  have b1 : Below W.heap.size W V1 := by rw [hV1]; exact alloc_below _ _
  have b2 : Below V1.heap.size V1 V2 := by rw [hV2]; exact alloc_below _ _
  have b4 : Below V2.heap.size V2 V := by rw [hV]; exact alloc_below _ _
  have u1 : V1.heap[oB]? = some (.cells #[.int .i64 kd, .int .i64 pt, .int .i64 fn, .int .i64 ar, .slice ip n0 ic] 55 (0, 0)) := by rw [hV1, ← hoB]; exact heap_alloc_new W _
  have u2 : V2.heap[sB]? = some (.cells #[.slice none 0 0, .int .i64 0] 58 (0, 0)) := by rw [hV2, ← s1]; exact heap_alloc_new V1 _
  have u4 : V.heap[tB]? = some (.cells #[.slice none 0 0, .int .i64 0] 58 (0, 0)) := by rw [hV, ← s2]; exact heap_alloc_new V2 _
  have bV : Below W.heap.size W V := (b1.trans (b2.mono (by omega))).trans (b4.mono (by omega))
  have HA0 : Hid (AllA W V V oB sB tB kd pt fn ar ip n0 ic none 0 0 (keptA kd fn ar [])) := hide ⟨below_box b4 (below_box b2 u1), below_box b4 u2, u4, by
    have e : keptA kd fn ar [] = [] := by unfold keptA allR; split <;> rfl
    rw [e]; exact World.ownsRow_nil _ _ _ _, fun _ => ⟨rfl, rfl⟩, Nat.le_refl _, bV⟩
  have HR := hide h
  have HN := hide hN
  have HRI := hide hri
  have HBV := hide bV
  clear h hN hri bV b1 b2 b4 u1 u2 u4
  go_enter Tryz.func50, Tryz.ntmps50
  go_upto_region 1 with fail
  rw [← hV1, ← hV2, ← hV]
  try rw [hoB]
  try rw [hsB]
  try rw [htB]
  have hl1 : oB < sB := by omega
  have hl2 : sB < tB := by omega
  clear hV1 hV2 hV hoB s1 s2 s4 hsB htB
  go_wp2_with fail
  go_loopw [8, 9] (fun s8 s9 wq => ∃ (k : Nat) (po : Option Addr) (co M : Nat) (pk : Option Addr) (ck K : Nat), k ≤ N ∧ s9 = .int .i64 (k : Int) ∧ s8 = .slice po M co ∧ Hid (AllA W V wq oB sB tB kd pt fn ar ip n0 ic pk ck K (keptA kd fn ar (rs.take k))) ∧ Hid (wq.ownsRow V.heap.size 103 3 (.slice po M co) M ((putsA kd fn ar (rs.take k)).flatMap PU.cells))) (fun _ s9 _ => N - (intOf s9).toNat)
  case atStart => exact ⟨0, none, 0, 0, none, 0, 0, Nat.zero_le _, rfl, rfl, by rw [List.take_zero]; exact HA0, hide (by
    have e : putsA kd fn ar (rs.take 0) = [] := by rw [List.take_zero]; unfold putsA allR; split <;> rfl
    rw [e]; exact World.ownsRow_nil _ _ _ _)⟩
  case round =>
    obtain ⟨k, po, co, M, pk, ck, K, hk, rfl, rfl, HA, HO⟩ := hrel
    rename World => wq
    clear HA0
    by_cases hlt : k < N
    · have hlt2 : k < rs.length := by rw [HN.out]; exact hlt
      have dk : decide (k < N) = true := decide_eq_true hlt
      have dkI : decide ((k : Int) < (N : Int)) = true := decide_eq_true (by omega)
      obtain ⟨r, hr⟩ : ∃ r, rs[k]! = r := ⟨_, rfl⟩
      obtain ⟨g, o, rfl, c0, c1⟩ := (RRow.later HR.out HA.out.below).at hlt2 hr
      have hrm : r ∈ rs := by rw [← hr, getElem!_pos rs k hlt2]; exact List.getElem_mem _
      have hfi := HRI.out r hrm
      have etk : rs.take (k + 1) = rs.take k ++ [r] := by rw [List.take_succ_eq_append_getElem hlt2, ← hr, getElem!_pos rs k hlt2]
      obtain ⟨ky, vl⟩ := r
      simp only at c0 c1
      have hsn := keptA_snoc kd fn ar (rs.take k) ⟨ky, vl⟩
      rw [← etk] at hsn
      have hkl := keptA_len kd fn ar (rs.take k)
      rw [List.length_take, HN.out] at hkl
      have hkl2 := keptA_len kd fn ar (rs.take (k + 1))
      rw [List.length_take, HN.out] at hkl2
      obtain ⟨kk, hkk⟩ : ∃ kk, keptA kd fn ar (rs.take k) = kk := ⟨_, rfl⟩
      obtain ⟨pp, hpp⟩ : ∃ pp, putsA kd fn ar (rs.take k) = pp := ⟨_, rfl⟩
      rw [hkk, hpp] at hsn
      rw [hkk, hpp] at hkl
      rw [hkk] at HA
      rw [hpp] at HO
      have hKl : kk.length = K := row_len KS.len HA.out.keys
      have hMl : pp.length = M := row_len PU.len HO.out
      have HSN := hide hsn
      have HS : Hid (∀ X, Below wq.heap.size wq X → Calls Tryz.prog 70 #[.agg #[.int .i64 kd, .int .i64 pt, .int .i64 fn, .int .i64 ar, .slice ip n0 ic], .agg #[.slice pk K ck, .int .i64 0], .agg #[.int .i64 ky, .int .i64 vl]] X fun e w' => ∃ pk ck K po co M, e = .returned (.tuple #[.agg #[.slice pk K ck, .int .i64 0], .slice po M co]) ∧ w'.ownsRow X.heap.size 105 3 (.slice pk K ck) K ((keysN kd fn ar kk ⟨ky, vl⟩).flatMap KS.cells) ∧ w'.ownsRow X.heap.size 103 3 (.slice po M co) M ((putsN kd fn ar kk ⟨ky, vl⟩).flatMap PU.cells) ∧ (keepsC kd = false → pk = none ∧ ck = 0) ∧ Below X.heap.size X w') := hide (fun X hX => rstep_any hfi.1 hfi.2 ha (LRow.of_own KS.len hKl (ownsRow_later HA.out.keys hX)) hKl (by omega) (fun x hx => by
        have h9 := hkl.2.2 x hx
        omega) (fun e => by
        obtain ⟨e1, e2⟩ := HA.out.nil e
        refine ⟨e1, e2, ?_⟩
        rw [← hkk]
        unfold keptA
        rw [if_neg (by rw [e]; decide)]))
      have x0 : wq.cell? ⟨oB, 0, none⟩ = some (.int .i64 kd) := by simp [World.cell?, HA.out.o]
      have x1 : wq.cell? ⟨oB, 1, none⟩ = some (.int .i64 pt) := by simp [World.cell?, HA.out.o]
      have x2 : wq.cell? ⟨oB, 2, none⟩ = some (.int .i64 fn) := by simp [World.cell?, HA.out.o]
      have x3 : wq.cell? ⟨oB, 3, none⟩ = some (.int .i64 ar) := by simp [World.cell?, HA.out.o]
      have x4 : wq.cell? ⟨oB, 4, none⟩ = some (.slice ip n0 ic) := by simp [World.cell?, HA.out.o]
      have x5 : wq.cell? ⟨sB, 0, none⟩ = some (.slice pk K ck) := (sB_cells HA.out.s).1
      have x6 : wq.cell? ⟨sB, 1, none⟩ = some (.int .i64 0) := (sB_cells HA.out.s).2
      have ab := alloc_below wq (.cells #[.slice none 0 0, .int .i64 0] 58 (0, 0))
      have n0' := cell_later ab x0
      have n1 := cell_later ab x1
      have n2 := cell_later ab x2
      have n3 := cell_later ab x3
      have n4 := cell_later ab x4
      have n5 := cell_later ab x5
      have n6 := cell_later ab x6
      have n7 := cell_later ab c0
      have n8 := cell_later ab c1
      have HP9 : Hid (pp.length + (putsN kd fn ar kk ⟨ky, vl⟩).length ≤ 1048576) := hide (by
        have h9 := hkl2.2.1
        rw [hsn.2, List.length_append] at h9
        omega)
      have HML := hide hMl
      clear hrm hfi etk hr hlt2 hkl hkl2 hkk hpp hsn hKl hMl
      go_upto_region 5 with fail
      go_cut [10, 11] from 18 to 27 (fun s10 s11 wd => ∃ (q : Nat) (pk2 : Option Addr) (ck2 K2 : Nat) (p2 : Option Addr) (c2 M2 : Nat), s10 = .pointer (some ⟨q, 0, none⟩) ∧ s11 = .slice p2 M2 c2 ∧ Hid (wd.heap[q]? = some (.cells #[.slice pk2 K2 ck2, .int .i64 0] 58 (0, 0))) ∧ Hid (Below wq.heap.size wq wd) ∧ Hid (keepsC kd = false → pk2 = none ∧ ck2 = 0) ∧ Hid (wd.ownsRow wq.heap.size 105 3 (.slice pk2 K2 ck2) K2 ((keysN kd fn ar kk ⟨ky, vl⟩).flatMap KS.cells)) ∧ Hid (wd.ownsRow wq.heap.size 103 3 (.slice p2 M2 c2) M2 ((putsN kd fn ar kk ⟨ky, vl⟩).flatMap PU.cells)))
      case first =>
        go_region_with (go_at_call 70; refine (HS.out _ ?_).mono ?_; · first | exact (Below.refl _ wq).drew | exact (alloc_below wq _).drew
                        rintro _ w1 ⟨pk2, ck2, K2, p2, c2, M2, rfl, hOK, hOM, hz, hB1⟩; try (obtain ⟨k0, k1, k2, k3⟩ := two_factsO (below_box hB1 (heap_alloc_new wq _)) (.slice pk2 K2 ck2)))
        all_goals
          go_wp2_with fail
          go_meet
          case rel =>
            first
            | exact ⟨_, pk2, ck2, K2, p2, c2, M2, rfl, rfl, hide (heap_alloc_new w1 _), hide ((Go.Proofs.YtifldnpccgbnkaaGreat.below_undrew hB1).trans ((alloc_below w1 _).mono hB1.size)), hide hz, hide (ownsRow_later hOK (alloc_below w1 _)), hide (ownsRow_later hOM (alloc_below w1 _))⟩
            | exact ⟨_, pk2, ck2, K2, p2, c2, M2, rfl, rfl, hide (Go.Proofs.YtifldnpccgbnkaaGreat.two_set (below_box (Go.Proofs.YtifldnpccgbnkaaGreat.below_undrew hB1) (heap_alloc_new wq _)) _ _), hide (((ab.trans ((Go.Proofs.YtifldnpccgbnkaaGreat.below_undrew hB1).mono ab.size)).setCell (p := ⟨wq.heap.size, 0, none⟩) (Nat.le_refl _) _).setCell (p := ⟨wq.heap.size, 1, none⟩) (Nat.le_refl _) _), hide hz, hide (ownsRow_base (Go.Proofs.YtifldnpccgbnkaaGreat.row_two hOK (by simp)) ab.size), hide (ownsRow_base (Go.Proofs.YtifldnpccgbnkaaGreat.row_two hOM (by simp)) ab.size)⟩
      case rest =>
      obtain ⟨q, pk2, ck2, K2, p2, c2, M2, rfl, rfl, HQ, HBQ, HZ, HOK, HOM⟩ := hcut
      rename World => w2
      clear HS ab n0' n1 n2 n3 n4 n5 n6 n7 n8 x0 x1 x2 x3 x4 x5 x6 c0 c1
      have hA2 := HA.out.later HBQ.out
      have hA3 := hA2.put hl1 hl2 (show sB < V.heap.size by have := HS4.out; omega) (show W.heap.size ≤ sB by have := HWO.out; omega) HA.out.size HOK.out HZ.out
      have HO3 : Hid (((w2.setCell ⟨sB, 0, none⟩ (.slice pk2 K2 ck2)).setCell ⟨sB, 1, none⟩ (.int .i64 0)).ownsRow V.heap.size 103 3 (.slice po M co) M (pp.flatMap PU.cells)) := hide (Go.Proofs.YtifldnpccgbnkaaGreat.row_two (ownsRow_later HO.out HBQ.out) (by have := HS4.out; omega))
      have hOM3 := Go.Proofs.YtifldnpccgbnkaaGreat.row_two (q := sB) (a := .slice pk2 K2 ck2) (b := .int .i64 0) HOM.out (by have := HS4.out; have := HA.out.size; omega)
      have HSG := hide (LRow.seg (by decide) PU.len pu_one1 (LRow.of_own PU.len (row_len PU.len hOM3) hOM3))
      rw [row_len PU.len hOM3] at HSG
      have q0 : w2.cell? ⟨q, 0, none⟩ = some (.slice pk2 K2 ck2) := (sB_cells HQ.out).1
      have q1 : w2.cell? ⟨q, 1, none⟩ = some (.int .i64 0) := (sB_cells HQ.out).2
      obtain ⟨d0, d1, d2, d3⟩ := two_factsO hA2.s (.slice pk2 K2 ck2)
      obtain ⟨X3, hX3⟩ : ∃ X3, X3 = (w2.setCell ⟨sB, 0, none⟩ (.slice pk2 K2 ck2)).setCell ⟨sB, 1, none⟩ (.int .i64 0) := ⟨_, rfl⟩
      rw [← hX3] at hA3 HO3 hOM3 HSG
      have hM2 : M + M2 ≤ 1048576 := by
        have h9 := HP9.out
        rw [HML.out, row_len PU.len HOM.out] at h9
        exact h9
      have HK1 : Hid (M + M2 ≤ maxLen) := by show _ ≤ _; unfold maxLen; omega
      have HK2 : Hid ((M + M2) * 24 ≤ 140737488355328) := by show _ ≤ _; omega
      have HBS : Hid (V.heap.size ≤ X3.heap.size) := hide hA3.size
      have HA3 := hide hA3
      clear hA2 hA3 hOM3 HO HOK HOM HQ HBQ HA
      go_upto_region 7 with fail
      rw [← hX3]
      clear hX3 q0 q1 d0 d1 d2 d3
      go_wp2_with (at_builtin; refine append_cells _ rfl (.tmp 29) (.tmp 30) 92 rfl V.heap.size 103 k0 (.agg #[.int .i64 0, .int .i64 0, .int .i64 0]) 3 24 Tryz.underlying92 hK0 hz0 hz1 hz2 rfl (by decide) (.slice po M co) M _ rfl HO3.out (.slice p2 M2 c2) M2 _ rfl HSG.out HK1.out HK2.out HBS.out ?_)
      intro p5 c5 w5 hown hgrow
      have ho5 := Only.of_grown (F := fun i => (Value.slice po M co).ownBlock = some i) hgrow (fun k e => e)
      have HA5 : Hid (AllA W V w5 oB sB tB kd pt fn ar ip n0 ic pk2 ck2 K2 (keptA kd fn ar (rs.take (k + 1)))) := hide (by rw [HSN.out.1]; exact HA3.out.puts HO3.out ho5 HBV.out.size)
      have HO5 : Hid (w5.ownsRow V.heap.size 103 3 (.slice p5 (M + M2) c5) (M + M2) ((putsA kd fn ar (rs.take (k + 1))).flatMap PU.cells)) := hide (by rw [HSN.out.2, List.flatMap_append]; exact hown)
      clear hown hgrow ho5 HO3 HSG HK1 HK2 HBS HA3
      go_wp2
      exact ⟨⟨k + 1, p5, c5, M + M2, pk2, ck2, K2, by omega, by first | rfl | go_num, by first | rfl | go_num, HA5, HO5⟩, by simp [intOf]; omega⟩
    · obtain rfl : k = N := by omega
      have dk : decide (k < k) = false := decide_eq_false (by omega)
      have dkI : decide ((k : Int) < (k : Int)) = false := decide_eq_false (by omega)
      have hrs : rs.take k = rs := by rw [← HN.out, List.take_length]
      rw [hrs] at HA HO
      obtain ⟨x5, x6⟩ := sB_cells HA.out.s
      obtain ⟨d0, d1, d2, d3⟩ := two_factsO HA.out.t (.slice pk K ck)
      have hO := (Only.set (F := (· = tB)) wq tB 0 (.slice pk K ck) rfl).trans (Only.set (F := (· = tB)) _ tB 1 (.int .i64 0) rfl)
      have HE := hide (Go.Proofs.YtifldnpccgbnkaaGreat.two_set HA.out.t (.slice pk K ck) (.int .i64 0))
      have HK9 : Hid (((wq.setCell ⟨tB, 0, none⟩ (.slice pk K ck)).setCell ⟨tB, 1, none⟩ (.int .i64 0)).ownsRow W.heap.size 105 3 (.slice pk K ck) K ((keptA kd fn ar rs).flatMap KS.cells)) := hide (ownsRow_base (Go.Proofs.YtifldnpccgbnkaaGreat.row_two HA.out.keys (by have := HS4.out; omega)) HBV.out.size)
      have HP9 : Hid (((wq.setCell ⟨tB, 0, none⟩ (.slice pk K ck)).setCell ⟨tB, 1, none⟩ (.int .i64 0)).ownsRow W.heap.size 103 3 (.slice po M co) M ((putsA kd fn ar rs).flatMap PU.cells)) := hide (ownsRow_base (Go.Proofs.YtifldnpccgbnkaaGreat.row_two HO.out (by have := HS4.out; omega)) HBV.out.size)
      have HBF : Hid (Below W.heap.size W ((wq.setCell ⟨tB, 0, none⟩ (.slice pk K ck)).setCell ⟨tB, 1, none⟩ (.int .i64 0))) := hide ((HA.out.below.setCell (p := ⟨tB, 0, none⟩) (by have := HWO.out; show W.heap.size ≤ tB; omega) _).setCell (p := ⟨tB, 1, none⟩) (by have := HWO.out; show W.heap.size ≤ tB; omega) _)
      clear HA HO hO hrs
      go_wp2
      refine bodyPost_ret (Go.Proofs.YtifldnpccgbnkaaGreat.results_cell_two rfl _ _ tB 58 _ _ _ rfl HE.out Tryz.underlying58 rfl (by kernel_rfl)) rfl ?_
      exact ⟨_, _, _, _, _, _, rfl, HK9.out, HP9.out, HBF.out⟩
end Go.Proofs.YtifldnpccgbnkaaGreat.Op
