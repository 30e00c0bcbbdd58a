/-
  Reading a task's state of a state's form. The conditions: that an unpacker lies there.
-/
import Derived.Test.YtlfipmieaabagaaGreatSng
import Derived.Laws.ResultCell
namespace Go.Proofs.YtlfipmieaabagaaGreat
open Go.RowKit Go.Shelf

/-- What a task keeps, plainly. -/
structure TP where
  ks : List Op.KS
  tn : Int
  bs : List (List RC)
def TV.plain (x : TV) : TP := ⟨x.ks, x.tn, x.xs.map SV.rs⟩
def taskRd (l : List Int) (e : Int) : TP × List Int × Int :=
  let t0 := numRd l e
  let t1 := listR keyRd t0.2.1 t0.2.2
  let t2 := listR bufRd t1.2.1 t1.2.2
  (⟨t1.1, t0.1, t2.1⟩, t2.2)
/-- Blocks that are none of a task's lists. -/
def Safe (F : Nat → Prop) (W : World) : Prop := ∀ i, F i → ∀ cs t, W.heap[i]? = some (.cells cs t (0, 0)) → t ≠ 48 ∧ t ≠ 49 ∧ t ≠ 51
theorem safe_bu {W : World} {B bu : Nat} {l : List Int} {e : Int} (h : UP W B bu l e) : Safe (· = bu) W := fun i e cs t hc => by
  have e' : i = bu := e
  obtain ⟨v, hu⟩ := h.unp
  rw [e', hu.block] at hc
  simp at hc
  rw [← hc.2]
  exact ⟨by decide, by decide, by decide⟩
theorem safe_box {W : World} {b : Nat} {cs : Array Value} {t : TypeId} (h : W.heap[b]? = some (.cells cs t (0, 0))) (ht : t ≠ 48 ∧ t ≠ 49 ∧ t ≠ 51) : Safe (· = b) W := fun i e cs' t' hc => by
  have e' : i = b := e
  rw [e', h] at hc
  simp at hc
  rw [← hc.2]
  exact ht
/-- What a task keeps, owned. -/
structure TVo (y : TV) (W : World) (base : Nat) : Prop where
  keys : W.ownsRow base 48 3 (.slice y.kp y.ks.length y.kc) y.ks.length (y.ks.flatMap Op.KS.cells)
  bufs : W.ownsRow base 49 1 (.slice y.bp y.xs.length y.bc) y.xs.length (y.xs.flatMap SV.cells)
  each : ∀ x ∈ y.xs, SVo x W base
theorem TVo.only {F : Nat → Prop} {y : TV} {W X : World} {base : Nat} (h : TVo y W base) (ho : Only F W X) (hF : Safe F W) : TVo y X base := by
  refine ⟨ownsRow_only h.keys ho (fun b hb hf => ?_), ownsRow_only h.bufs ho (fun b hb hf => ?_), fun x hx => (h.each x hx).only ho (fun b hb hf => ?_)⟩
  · obtain ⟨_, cur, h3⟩ := own_block_lt h.keys hb
    exact (hF b hf _ _ h3).1 rfl
  · obtain ⟨_, cur, h3⟩ := own_block_lt h.bufs hb
    exact (hF b hf _ _ h3).2.1 rfl
  · obtain ⟨_, cur, h3⟩ := own_block_lt (h.each x hx) hb
    exact (hF b hf _ _ h3).2.2 rfl
theorem TVo.base {y : TV} {W : World} {b b' : Nat} (h : TVo y W b) (hb : b' ≤ b) : TVo y W b' := ⟨ownsRow_base h.keys hb, ownsRow_base h.bufs hb, fun x hx => ownsRow_base (h.each x hx) hb⟩
/-- What a reader of a task's state answers and leaves. -/
def TaskRAt (W : World) (B bu : Nat) (x : TP) (r : List Int × Int) (z : Ending) (w' : World) : Prop := ∃ y : TV, ∃ nk nb, z = .returned (.agg #[.slice y.kp nk y.kc, .int .i64 y.tn, .slice y.bp nb y.bc]) ∧ y.ks.length = nk ∧ y.xs.length = nb ∧ y.plain = x ∧ TVo y w' W.heap.size ∧ Only (· = bu) W w' ∧ UP w' B bu r.1 r.2
set_option maxRecDepth 100000 in
set_option maxHeartbeats 8000000 in
theorem rtask_any {W : World} {B bu : Nat} {l : List Int} {e : Int} (h : UP W B bu l e) {x : TP} {r : List Int × Int} (hr : taskRd l e = (x, r)) : Calls Tryz.prog 57 #[.agg #[.pointer (some ⟨bu, 0, none⟩)]] W (TaskRAt W B bu x r) := by
  obtain ⟨V, hV⟩ : ∃ V, V = (W.alloc (.cells #[.pointer (some ⟨bu, 0, none⟩)] 67 (0, 0))).alloc (.cells #[.slice none 0 0, .int .i64 0, .slice none 0 0] 46 (0, 0)) := ⟨_, rfl⟩
  have a1 := alloc_below W (.cells #[.pointer (some ⟨bu, 0, none⟩)] 67 (0, 0))
  have a2 := alloc_below (W.alloc (.cells #[.pointer (some ⟨bu, 0, none⟩)] 67 (0, 0))) (.cells #[.slice none 0 0, .int .i64 0, .slice none 0 0] 46 (0, 0))
  have bV : Below W.heap.size W V := by rw [hV]; exact a1.trans (a2.mono a1.size)
  obtain ⟨rB, hrB⟩ : ∃ rB, W.heap.size = rB := ⟨_, rfl⟩
  obtain ⟨kB, hkB⟩ : ∃ kB, rB + 1 = kB := ⟨_, rfl⟩
  have u0 : V.heap[rB]? = some (.cells #[.pointer (some ⟨bu, 0, none⟩)] 67 (0, 0)) := by rw [hV, ← hrB]; exact below_box a2 (heap_alloc_new W _)
  have u1 : V.heap[kB]? = some (.cells #[.slice none 0 0, .int .i64 0, .slice none 0 0] 46 (0, 0)) := by
    have e : kB = (W.alloc (.cells #[.pointer (some ⟨bu, 0, none⟩)] 67 (0, 0))).heap.size := by rw [← hkB, ← hrB]; simp
    rw [hV, e]
    exact heap_alloc_new _ _
  have HB := hide bV
  have HU := hide (h.later bV)
  have HBR : Hid (B ≤ W.heap.size ∧ bu < B ∧ W.heap.size ≤ rB ∧ rB < kB) := hide ⟨h.le, h.lt, by omega, by omega⟩
  have x0 : V.cell? ⟨rB, 0, none⟩ = some (.pointer (some ⟨bu, 0, none⟩)) := by simp [World.cell?, u0]
  obtain ⟨tn, ta, ht0⟩ : ∃ tn ta, numRd l e = (tn, ta) := ⟨_, _, rfl⟩
  obtain ⟨ks, tb, ht1⟩ : ∃ ks tb, listR keyRd ta.1 ta.2 = (ks, tb) := ⟨_, _, rfl⟩
  obtain ⟨bs, tc, ht2⟩ : ∃ bs tc, listR bufRd tb.1 tb.2 = (bs, tc) := ⟨_, _, rfl⟩
  simp only [taskRd, ht0, ht1, ht2, Prod.mk.injEq] at hr
  obtain ⟨rfl, rfl⟩ := hr
  have HT0 := hide ht0
  have HT1 := hide ht1
  have HT2 := hide ht2
  have HU1 := hide u1
  clear h bV u0 a1 a2 ht0 ht1 ht2 u1
  go_enter Tryz.func57, Tryz.ntmps57
  go_upto_region 1 with fail
  rw [← hV]
  try rw [hrB]
  try rw [hkB]
  clear hV hrB hkB
  refine wp_region_held_drew (S := fun w' => w'.cell? ⟨rB, 0, none⟩ = some (.pointer (some ⟨bu, 0, none⟩))) (by kernel_rfl) x0 (fun hHeld => ?_)
  refine wpAnyH_take (i := 0) (oi := _) (v := ?_) rfl (by kernel_rfl) (by kernel_rfl) (by kernel_rfl) (fun _ _ _ h => h) (Or.inl ⟨by rfl, ?_⟩) (by assumption) ?_
  rotate_left
  · intro w hSw
    (try dsimp only at hSw)
    go_simp
    all_goals with_reducible rfl
  simp only [Act.put, List.setIfInBounds_toArray] --TAKE 1
  refine wpAnyH_take (i := 2) (oi := _) (v := ?_) rfl (by kernel_rfl) (by kernel_rfl) (by kernel_rfl) (fun _ _ _ h => h) (Or.inl ⟨by rfl, ?_⟩) (by assumption) ?_
  rotate_left
  · intro w hSw
    (try dsimp only at hSw)
    go_simp
    all_goals with_reducible rfl
  simp only [Act.put] --TAKE 2
  refine wpAnyH_take (i := 5) (oi := _) (v := ?_) rfl (by kernel_rfl) (by kernel_rfl) (by kernel_rfl) (fun _ _ _ h => h) (Or.inl ⟨by rfl, ?_⟩) (by assumption) ?_
  rotate_left
  · intro w hSw
    (try dsimp only at hSw)
    go_simp
    all_goals with_reducible rfl
  simp only [Act.put] --TAKE 3
  have HOO : Only (· = bu) V V.drew := (Only.refl _ V).drew
  have HUU : UP V.drew B bu l e := HU.out.later (Below.refl _ V).drew
  refine wpAnyH_ready (rs := [1]) (by kernel_rfl) (by simp) ?_
  refine AllReadyH.cons (o := _) rfl (fun K hK => ?_) AllReadyH.nil
  go_simp
  refine (rnum_any HUU).mono ?_
  rintro _ w1 ⟨rfl, o9, u9⟩
  rw [HT0.out] at u9 ⊢
  replace HOO := HOO.trans o9
  replace HUU := u9
  clear o9 u9
  have y1 : w1.cell? ⟨rB, 0, none⟩ = some (.pointer (some ⟨bu, 0, none⟩)) := HOO.cell x0 (fun e => by have e' : rB = bu := e; have := HBR.out; omega)
  go_wp2_with fail
  refine hK.out _ _ y1 (fun hHeld => ?_)
  clear hK
  refine wpAnyH_ready (rs := [3]) (by kernel_rfl) (by simp) ?_
  refine AllReadyH.cons (o := _) rfl (fun K hK => ?_) AllReadyH.nil
  go_simp
  refine (listKey_any HUU HT1.out).mono ?_
  rintro _ w2 ⟨kp, kc, nk, rfl, hnk, ko, o9, u9⟩
  have hkb := Nat.le_trans HB.out.size HOO.size
  replace HOO := HOO.trans o9
  replace HUU := u9
  have ko := ownsRow_base ko hkb
  clear o9 u9 hkb
  have y2 : w2.cell? ⟨rB, 0, none⟩ = some (.pointer (some ⟨bu, 0, none⟩)) := HOO.cell x0 (fun e => by have e' : rB = bu := e; have := HBR.out; omega)
  go_wp2_with fail
  refine hK.out _ _ y2 (fun hHeld => ?_)
  clear hK
  refine wpAnyH_take (i := 4) (oi := _) (v := ?_) rfl (by kernel_rfl) (by kernel_rfl) (by kernel_rfl) (fun _ _ _ h => h) (Or.inl ⟨by rfl, ?_⟩) (by assumption) ?_
  rotate_left
  · intro w hSw
    (try dsimp only at hSw)
    go_simp
    all_goals with_reducible rfl
  simp only [Act.put, List.setIfInBounds_toArray] --TAKE 4
  refine wpAnyH_ready (rs := [6]) (by kernel_rfl) (by simp) ?_
  refine AllReadyH.cons (o := _) rfl (fun K hK => ?_) AllReadyH.nil
  go_simp
  refine (listBuf_any HUU HT2.out).mono ?_
  rintro _ w3 ⟨bp, bc, nb, ys, rfl, hnb, hys, hso, bo, o9, u9⟩
  have hkb := Nat.le_trans HB.out.size HOO.size
  have ko := ownsRow_only ko o9 (fun b hb e => by
    obtain ⟨_, cur, h3⟩ := own_block_lt ko hb
    exact (safe_bu HUU b e _ _ h3).1 rfl)
  replace HOO := HOO.trans o9
  replace HUU := u9
  have bo := ownsRow_base bo hkb
  have hso : ∀ y ∈ ys, SVo y w3 W.heap.size := fun y hy => ownsRow_base (hso y hy) hkb
  clear o9 u9 hkb
  have y3 : w3.cell? ⟨rB, 0, none⟩ = some (.pointer (some ⟨bu, 0, none⟩)) := HOO.cell x0 (fun e => by have e' : rB = bu := e; have := HBR.out; omega)
  go_wp2_with fail
  refine hK.out _ _ y3 (fun hHeld => ?_)
  clear hK
  refine wpAnyH_take (i := 7) (oi := _) (v := ?_) rfl (by kernel_rfl) (by kernel_rfl) (by kernel_rfl) (fun _ _ _ h => h) (Or.inl ⟨by rfl, ?_⟩) (by assumption) ?_
  rotate_left
  · intro w hSw
    (try dsimp only at hSw)
    go_simp
    all_goals with_reducible rfl
  simp only [Act.put, List.setIfInBounds_toArray] --TAKE 5
  have uk : w3.heap[kB]? = some (.cells #[.slice none 0 0, .int .i64 0, .slice none 0 0] 46 (0, 0)) := HOO.obj HU1.out (fun e => by have e' : kB = bu := e; have := HBR.out; omega)
  have c0 : w3.cell? ⟨kB, 0, none⟩ = some (.slice none 0 0) := by simp [World.cell?, uk]
  have z0 : w3.frozen? ⟨kB, 0, none⟩ = false := by simp [World.frozen?, uk]
  have uk1 : (w3.setCell ⟨kB, 0, none⟩ (.slice kp nk kc)).heap[kB]? = some (.cells #[.slice kp nk kc, .int .i64 0, .slice none 0 0] 46 (0, 0)) := heap_setCell_same _ kB 0 _ _ _ uk
  have c1 : (w3.setCell ⟨kB, 0, none⟩ (.slice kp nk kc)).cell? ⟨kB, 1, none⟩ = some (.int .i64 0) := by simp [World.cell?, uk1]
  have z1 : (w3.setCell ⟨kB, 0, none⟩ (.slice kp nk kc)).frozen? ⟨kB, 1, none⟩ = false := by simp [World.frozen?, uk1]
  have uk2 : ((w3.setCell ⟨kB, 0, none⟩ (.slice kp nk kc)).setCell ⟨kB, 1, none⟩ (.int .i64 tn)).heap[kB]? = some (.cells #[.slice kp nk kc, .int .i64 tn, .slice none 0 0] 46 (0, 0)) := heap_setCell_same _ kB 1 _ _ _ uk1
  have c2 : ((w3.setCell ⟨kB, 0, none⟩ (.slice kp nk kc)).setCell ⟨kB, 1, none⟩ (.int .i64 tn)).cell? ⟨kB, 2, none⟩ = some (.slice none 0 0) := by simp [World.cell?, uk2]
  have z2 : ((w3.setCell ⟨kB, 0, none⟩ (.slice kp nk kc)).setCell ⟨kB, 1, none⟩ (.int .i64 tn)).frozen? ⟨kB, 2, none⟩ = false := by simp [World.frozen?, uk2]
  have uk3 : (((w3.setCell ⟨kB, 0, none⟩ (.slice kp nk kc)).setCell ⟨kB, 1, none⟩ (.int .i64 tn)).setCell ⟨kB, 2, none⟩ (.slice bp nb bc)).heap[kB]? = some (.cells #[.slice kp nk kc, .int .i64 tn, .slice bp nb bc] 46 (0, 0)) := heap_setCell_same _ kB 2 _ _ _ uk2
  have hkk : Only (· = kB) w3 (((w3.setCell ⟨kB, 0, none⟩ (.slice kp nk kc)).setCell ⟨kB, 1, none⟩ (.int .i64 tn)).setCell ⟨kB, 2, none⟩ (.slice bp nb bc)) := ((Only.set (F := (· = kB)) w3 kB 0 _ rfl).trans (Only.set (F := (· = kB)) _ kB 1 _ rfl)).trans (Only.set (F := (· = kB)) _ kB 2 _ rfl)
  have HF := hide uk3
  have HTV : Hid (TVo ⟨ks, kp, kc, tn, ys, bp, bc⟩ (((w3.setCell ⟨kB, 0, none⟩ (.slice kp nk kc)).setCell ⟨kB, 1, none⟩ (.int .i64 tn)).setCell ⟨kB, 2, none⟩ (.slice bp nb bc)) W.heap.size) := hide (TVo.only (W := w3) ⟨by show w3.ownsRow _ _ _ (.slice kp ks.length kc) ks.length _; rw [hnk]; exact ko, by show w3.ownsRow _ _ _ (.slice bp ys.length bc) ys.length _; rw [hnb]; exact bo, hso⟩ hkk (safe_box uk ⟨by decide, by decide, by decide⟩))
  have HON : Hid (Only (· = bu) W (((w3.setCell ⟨kB, 0, none⟩ (.slice kp nk kc)).setCell ⟨kB, 1, none⟩ (.int .i64 tn)).setCell ⟨kB, 2, none⟩ (.slice bp nb bc))) := hide (((Only.fresh HB.out (· = bu)).trans HOO).step hkk (fun i e => .inr (by have e' : i = kB := e; have := HBR.out; omega)))
  have HUF : Hid (UP (((w3.setCell ⟨kB, 0, none⟩ (.slice kp nk kc)).setCell ⟨kB, 1, none⟩ (.int .i64 tn)).setCell ⟨kB, 2, none⟩ (.slice bp nb bc)) B bu tc.1 tc.2) := hide (HUU.only hkk (fun i e => by have e' : i = kB := e; have := HBR.out; omega))
  have yF : (((w3.setCell ⟨kB, 0, none⟩ (.slice kp nk kc)).setCell ⟨kB, 1, none⟩ (.int .i64 tn)).setCell ⟨kB, 2, none⟩ (.slice bp nb bc)).cell? ⟨rB, 0, none⟩ = some (.pointer (some ⟨bu, 0, none⟩)) := hkk.cell y3 (fun e => by have e' : rB = kB := e; have := HBR.out; omega)
  have HNK := hide hnk
  have HNB := hide hnb
  have HYS := hide hys
  clear HOO HUU hkk uk uk1 uk2 uk3 ko bo hso hnk hnb hys
  refine wpAnyH_ready (rs := [8]) (by kernel_rfl) (by simp) ?_
  refine AllReadyH.cons (o := _) rfl (fun K hK => ?_) AllReadyH.nil
  go_simp
  refine hK.out _ _ yF (fun hHeld => ?_)
  clear hK
  refine wpAnyH_done (by kernel_rfl) ?_ _
  go_wp2
  refine bodyPost_ret (results_cell_row rfl _ _ kB 46 _ _ _ rfl HF.out Tryz.underlying46 rfl (by kernel_rfl)) rfl ?_
  exact ⟨⟨ks, kp, kc, tn, ys, bp, bc⟩, nk, nb, rfl, HNK.out, HNB.out, by unfold TV.plain; rw [HYS.out], HTV.out, HON.out, HUF.out⟩
end Go.Proofs.YtlfipmieaabagaaGreat

/-
  Reading the list of tasks of a state's form. The conditions: that an unpacker lies there.
-/
namespace Go.Proofs.YtlfipmieaabagaaGreat
open Go.RowKit Go.Shelf

theorem Tryz.infoTS : (Tryz.prog.info? 46).map (fun i => (i.zero, i.size, i.bytes)) = some (some (.agg #[.slice none 0 0, .int .i64 0, .slice none 0 0]), 3, 56) := by kernel_rfl
/-- What a reader of tasks answers and leaves. -/
def TasksAt (W : World) (B bu : Nat) (xs : List TP) (r : List Int × Int) (z : Ending) (w' : World) : Prop := ∃ p c m, ∃ ys : List TV, z = .returned (.slice p m c) ∧ ys.length = m ∧ ys.map TV.plain = xs ∧ (∀ y ∈ ys, TVo y w' W.heap.size) ∧ w'.ownsRow W.heap.size 46 3 (.slice p m c) m (ys.flatMap TV.cells) ∧ Only (· = bu) W w' ∧ UP w' B bu r.1 r.2
set_option maxRecDepth 100000 in
set_option maxHeartbeats 8000000 in
theorem listTask_any {W : World} {B bu : Nat} {l : List Int} {e : Int} (h : UP W B bu l e) {xs : List TP} {r : List Int × Int} (hx : listR taskRd l e = (xs, r)) :
    Calls Tryz.prog 56 #[.agg #[.pointer (some ⟨bu, 0, none⟩)], .func (.func 57) #[] #[]] W (TasksAt W B bu xs r) := by
  obtain ⟨j0, hj0, hj1, hj2, hj3⟩ := info_parts Tryz.infoTS
  obtain ⟨V, hV⟩ : ∃ V, V = W.alloc (.cells #[.pointer (some ⟨bu, 0, none⟩)] 67 (0, 0)) := ⟨_, rfl⟩
  have bV : Below W.heap.size W V := by rw [hV]; exact alloc_below _ _
  obtain ⟨rB, hrB⟩ : ∃ rB, W.heap.size = rB := ⟨_, rfl⟩
  have u0 : V.heap[rB]? = some (.cells #[.pointer (some ⟨bu, 0, none⟩)] 67 (0, 0)) := by rw [hV, ← hrB]; exact heap_alloc_new W _
  have x0 : V.cell? ⟨rB, 0, none⟩ = some (.pointer (some ⟨bu, 0, none⟩)) := by simp [World.cell?, u0]
  obtain ⟨n0, hn0⟩ : ∃ n0 : Nat, (reads l e 0 131072).1 = (n0 : Int) := ⟨(reads l e 0 131072).1.toNat, by have := reads_nonneg (l := l) (e := e) (most := 131072); omega⟩
  obtain ⟨t1, ht1⟩ : ∃ t, (reads l e 0 131072).2 = t := ⟨_, rfl⟩
  have hup := uint_up (least := 0) (most := 131072) (h.later bV)
  rw [hn0, ht1] at hup
  have HUI := hide hup
  have HXS : Hid (loopR taskRd n0 t1.1 t1.2 = (xs, r)) := hide (by rw [← hx]; unfold listR; rw [hn0, ht1, Int.toNat_natCast])
  have hnb : n0 ≤ 131072 := by
    have h9 : (reads l e 0 131072).1 ≤ 131072 := reads_most (by decide)
    omega
  have HB := hide bV
  have HU0 := hide u0
  have HBR : Hid (B ≤ W.heap.size ∧ bu < B ∧ W.heap.size ≤ rB) := hide ⟨h.le, h.lt, by omega⟩
  clear h bV u0 hx hn0 ht1 hup
  go_enter Tryz.func56, Tryz.ntmps56
  go_upto_region 1 with fail
  rw [← hV]
  try rw [hrB]
  clear hV hrB
  go_wp2_with fail
  go_step3
  go_wp2_with fail
  go_step3
  go_wp2_with fail
  refine HUI.out.mono ?_
  rintro _ w1 ⟨rfl, o1, u1⟩
  have HO1 : Hid (Only (· = bu) W w1) := hide ((Only.fresh HB.out (· = bu)).trans o1)
  have HU1 := hide u1
  have HR1 : Hid (w1.heap[rB]? = some (.cells #[.pointer (some ⟨bu, 0, none⟩)] 67 (0, 0))) := hide (o1.obj HU0.out (fun e => by have e' : rB = bu := e; have := HBR.out; omega))
  clear o1 u1 x0 HUI
  go_wp2_with fail
  go_loopw [5, 6] (fun s i wq => ∃ (k : Nat) (ys : List TV) (t : List Int × Int) (q : Option Addr) (qc m : Nat), k ≤ n0 ∧ i = .int .i64 (k : Int) ∧ s = .slice q m qc ∧ Hid (ys.length = m ∧ m + k ≤ n0) ∧ Hid ((ys.map TV.plain ++ (loopR taskRd k t.1 t.2).1, (loopR taskRd k t.1 t.2).2) = (xs, r)) ∧ Hid (∀ y ∈ ys, TVo y wq W.heap.size) ∧ Hid (wq.ownsRow W.heap.size 46 3 (.slice q m qc) m (ys.flatMap TV.cells)) ∧ Hid (Only (· = bu) W wq) ∧ Hid (UP wq B bu t.1 t.2) ∧ Hid (wq.heap[rB]? = some (.cells #[.pointer (some ⟨bu, 0, none⟩)] 67 (0, 0)))) (fun _ i _ => (intOf i).toNat)
  case atStart => exact ⟨n0, [], t1, none, 0, 0, Nat.le_refl _, rfl, rfl, hide ⟨rfl, by omega⟩, hide (by rw [List.map_nil, List.nil_append]; exact HXS.out), hide (fun y hy => by cases hy), hide (World.ownsRow_nil _ _ _ _), HO1, HU1, HR1⟩
  case round =>
    obtain ⟨k, ys, t, q, qc, m, hk, rfl, rfl, HM, HX, HS, HO, HON, HU, HR⟩ := hrel
    rename World => wq
    clear HXS HO1 HU1 HR1
    have hr9 := HR.out
    have x0 : wq.cell? ⟨rB, 0, none⟩ = some (.pointer (some ⟨bu, 0, none⟩)) := by simp [World.cell?, hr9]
    clear hr9
    cases k with
    | zero =>
      have h9 := HX.out
      simp only [loopR, List.append_nil, Prod.mk.injEq] at h9
      obtain ⟨rfl, rfl⟩ := h9
      go_wp2
      go_ret
      exact ⟨q, qc, m, ys, rfl, HM.out.1, rfl, HS.out, HO.out, HON.out, HU.out⟩
    | succ j =>
      have e1 : decide (((j + 1 : Nat) : Int) > 0) = true := decide_eq_true (by omega)
      go_wp2_with fail
      obtain ⟨x, hx⟩ : ∃ x, (taskRd t.1 t.2).1 = x := ⟨_, rfl⟩
      obtain ⟨t2, ht2⟩ : ∃ t2, (taskRd t.1 t.2).2 = t2 := ⟨_, rfl⟩
      refine (rtask_any HU.out (show taskRd t.1 t.2 = (x, t2) by rw [← hx, ← ht2])).mono ?_
      rintro _ w0 ⟨⟨ks, kp, kc, tn, zs, bp, bc⟩, nk, nb, rfl, hnk, hnb, hpl, htv, o0, u0'⟩
      simp only at hnk hnb
      obtain ⟨w2, hw2⟩ : ∃ w2, w2 = w0.alloc (.cells #[.slice kp nk kc, .int .i64 tn, .slice bp nb bc] 46 (0, 0)) := ⟨_, rfl⟩
      have b2 : Below w0.heap.size w0 w2 := by rw [hw2]; exact alloc_below _ _
      have ux : w2.heap[w0.heap.size]? = some (.cells #[.slice kp nk kc, .int .i64 tn, .slice bp nb bc] 46 (0, 0)) := by rw [hw2]; exact heap_alloc_new _ _
      obtain ⟨xB, hxB⟩ : ∃ xB, w0.heap.size = xB := ⟨_, rfl⟩
      rw [hxB] at ux
      have o2 : Only (· = bu) wq w2 := o0.trans (Only.fresh b2 _)
      have u2 : UP w2 B bu t2.1 t2.2 := u0'.later b2
      obtain ⟨d0, d1, d2⟩ := tsBox3 ux
      have HSV : Hid (TVo ⟨ks, kp, kc, tn, zs, bp, bc⟩ w2 W.heap.size) := hide (TVo.only (htv.base HON.out.size) (Only.fresh b2 (fun _ => False)) (fun i e => e.elim))
      have HS2 : Hid (∀ y ∈ ys, TVo y w2 W.heap.size) := hide (fun y hy => TVo.only (HS.out y hy) o2 (safe_bu HU.out))
      have HPL : Hid ((⟨ks, kp, kc, tn, zs, bp, bc⟩ : TV).plain = x) := hide hpl
      have HNK := hide hnk
      have HNB := hide hnb
      have HX2 : Hid ((if t2.2 = 0 then (ys.map TV.plain ++ (x :: (loopR taskRd j t2.1 t2.2).1), (loopR taskRd j t2.1 t2.2).2) else (ys.map TV.plain, t2)) = (xs, r)) := hide (by
        rw [← HX.out]
        simp only [loopR, hx, ht2]
        split <;> simp)
      have HON2 := hide (HON.out.trans o2)
      have HR2 : Hid (w2.heap[rB]? = some (.cells #[.pointer (some ⟨bu, 0, none⟩)] 67 (0, 0))) := hide (o2.obj HR.out (fun e => by have e' : rB = bu := e; have := HBR.out; omega))
      have HO2 : Hid (w2.ownsRow W.heap.size 46 3 (.slice q m qc) m (ys.flatMap TV.cells)) := hide (ownsRow_only HO.out o2 (fun b hb e => by have e' : b = bu := e; have h1 := own_block_base HO.out hb; have := HBR.out; omega))
      have HU2 := hide u2
      have hr9 := HR2.out
      have x1 : w2.cell? ⟨rB, 0, none⟩ = some (.pointer (some ⟨bu, 0, none⟩)) := by simp [World.cell?, hr9]
      have HERR : Hid (Calls Tryz.prog 58 #[.pointer (some ⟨bu, 0, none⟩)] w2 fun r w' => r = .returned (.int .i64 t2.2) ∧ w' = w2) := by
        obtain ⟨v9, h9⟩ := u2.unp
        exact hide (err_any h9)
      clear hx ht2 o2 u2 hr9 x0 HX HO HON HU HR HS ux b2 o0 u0' hnk hnb hpl htv
      go_upto_region 6 with fail
      rw [← hw2]
      try rw [hxB]
      clear hw2 hxB
      go_wp2_with fail
      refine HERR.out.mono ?_
      rintro _ _ ⟨rfl, rfl⟩
      rename World => w2
      by_cases h0 : t2.2 = 0
      · have HX3 : Hid ((((ys ++ [(⟨ks, kp, kc, tn, zs, bp, bc⟩ : TV)]).map TV.plain) ++ (loopR taskRd j t2.1 t2.2).1, (loopR taskRd j t2.1 t2.2).2) = (xs, r)) := hide (by
          rw [← HX2.out, if_pos h0, List.map_append, List.map_cons, HPL.out]
          simp)
        obtain ⟨e2, he2⟩ : ∃ e2, t2.2 = e2 := ⟨_, rfl⟩
        have h0' : e2 = 0 := by rw [← he2]; exact h0
        rw [he2]
        subst h0'
        clear h0 he2
        have ab := alloc_below w2 (.cells #[.slice kp nk kc, .int .i64 tn, .slice bp nb bc] 46 (0, 0))
        have HRW := hide (ownsRow_later HO2.out ab)
        have HSG : Hid (Seg (w2.alloc (.cells #[.slice kp nk kc, .int .i64 tn, .slice bp nb bc] 46 (0, 0))) 3 (.slice (some ⟨w2.heap.size, 0, none⟩) 1 1) 1 [.slice kp nk kc, .int .i64 tn, .slice bp nb bc]) := hide (Seg.news (heap_alloc_new w2 _) (by simp [Value.oneCell']) rfl (Nat.le_refl _) (by decide))
        have HAB := hide ab
        have hm9 := HM.out.2
        have HK1 : Hid (m + 1 ≤ maxLen) := by show _ ≤ _; unfold maxLen; omega
        have HK2 : Hid ((m + 1) * 56 ≤ 140737488355328) := hide (by omega)
        have HZB : Hid (W.heap.size ≤ (w2.alloc (.cells #[.slice kp nk kc, .int .i64 tn, .slice bp nb bc] 46 (0, 0))).heap.size) := hide (Nat.le_trans HON2.out.size ab.size)
        clear ab hm9 x1
        go_wp2_with (at_builtin; refine append_cells _ rfl (.tmp 23) (.tmp 25) 26 rfl W.heap.size 46 j0 (.agg #[.slice none 0 0, .int .i64 0, .slice none 0 0]) 3 56 Tryz.underlying26 hj0 hj1 hj2 hj3 rfl (by decide) (.slice q m qc) m _ rfl HRW.out (.slice (some ⟨w2.heap.size, 0, none⟩) 1 1) 1 _ rfl HSG.out HK1.out HK2.out HZB.out ?_)
        intro q6 c6 w6 o6 g6
        have ho6 : Only (fun i => (Value.slice q m qc).ownBlock = some i) w2 w6 := (Only.fresh HAB.out _).trans (Only.of_grown (F := fun i => (Value.slice q m qc).ownBlock = some i) g6 (fun k e => e))
        have HO6 : Hid (w6.ownsRow W.heap.size 46 3 (.slice q6 (m + 1) c6) (m + 1) ((ys ++ [(⟨ks, kp, kc, tn, zs, bp, bc⟩ : TV)]).flatMap TV.cells)) := hide (by rw [List.flatMap_append]; show w6.ownsRow _ _ _ _ _ (_ ++ [.slice kp ks.length kc, .int .i64 tn, .slice bp zs.length bc]); rw [HNK.out, HNB.out]; exact o6)
        have HON6 : Hid (Only (· = bu) W w6) := hide (HON2.out.step ho6 (fun i e => .inr (own_block_base HO2.out e)))
        have HU6 := hide (HU2.out.only ho6 (fun i e => Nat.le_trans HBR.out.1 (own_block_base HO2.out e)))
        have HR6 : Hid (w6.heap[rB]? = some (.cells #[.pointer (some ⟨bu, 0, none⟩)] 67 (0, 0))) := hide (ho6.obj HR2.out (fun e => by
          obtain ⟨_, cur, h3⟩ := own_block_lt HO2.out e
          rw [HR2.out] at h3
          simp at h3))
        have HS6 : Hid (∀ y ∈ ys ++ [(⟨ks, kp, kc, tn, zs, bp, bc⟩ : TV)], TVo y w6 W.heap.size) := hide (fun y hy => by
          have hall : TVo y w2 W.heap.size := (List.mem_append.1 hy).elim (HS2.out y) (fun h => by obtain rfl := List.mem_singleton.1 h; exact HSV.out)
          exact TVo.only hall ho6 (fun i e cs t hc => by
            obtain ⟨_, cur2, h4⟩ := own_block_lt HO2.out e
            rw [h4] at hc
            simp at hc
            rw [← hc.2]
            exact ⟨by decide, by decide, by decide⟩))
        have HM6 : Hid ((ys ++ [(⟨ks, kp, kc, tn, zs, bp, bc⟩ : TV)]).length = m + 1 ∧ m + 1 + j ≤ n0) := hide ⟨by rw [List.length_append, HM.out.1]; rfl, by have := HM.out.2; omega⟩
        have hwr : IntKind.i64.wrap ((j : Int) + 1 - 1) = (j : Int) := by rw [IntKind.wrap_i64]; have := HM.out.2; omega
        clear o6 g6 ho6 HRW HSG
        go_wp2
        refine ⟨⟨j, ys ++ [(⟨ks, kp, kc, tn, zs, bp, bc⟩ : TV)], t2, q6, c6, m + 1, by omega, by first | rfl | go_num | (simp; omega), rfl, HM6, HX3, HS6, HO6, HON6, HU6, HR6⟩, by simp [intOf]⟩
      · have e0 := ne_eq h0
        have h9 := HX2.out
        rw [if_neg h0] at h9
        simp only [Prod.mk.injEq] at h9
        obtain ⟨rfl, rfl⟩ := h9
        clear x1
        go_wp2
        go_ret
        exact ⟨q, qc, m, ys, rfl, HM.out.1, rfl, HS2.out, HO2.out, HON2.out, HU2.out⟩
end Go.Proofs.YtlfipmieaabagaaGreat

/-
  Reading a state's form. The conditions: that an unpacker lies there.
-/
namespace Go.Proofs.YtlfipmieaabagaaGreat
open Go.RowKit Go.Shelf

/-- A flow's state, plainly. -/
structure FP where
  id : Int
  vs : List Int
  out : Int
  ts : List TP
def stateRd (l : List Int) (e : Int) : FP × List Int × Int :=
  let t0 := numRd l e
  let t1 := listR numRd t0.2.1 t0.2.2
  let t2 := numRd t1.2.1 t1.2.2
  let t3 := listR taskRd t2.2.1 t2.2.2
  (⟨t0.1, t1.1, t2.1, t3.1⟩, t3.2)
theorem loopR_len {α : Type} (one : List Int → Int → α × List Int × Int) : ∀ (n : Nat) (l : List Int) (e : Int), (loopR one n l e).1.length ≤ n
  | 0, _, _ => Nat.le_refl _
  | n + 1, l, e => by
    unfold loopR
    split
    · have := loopR_len one n (one l e).2.1 (one l e).2.2
      rw [List.length_cons]
      omega
    · exact Nat.zero_le _
theorem listR_len {α : Type} (one : List Int → Int → α × List Int × Int) (l : List Int) (e : Int) : (listR one l e).1.length ≤ 131072 := by
  have h1 := loopR_len one (reads l e 0 131072).1.toNat (reads l e 0 131072).2.1 (reads l e 0 131072).2.2
  have h2 : (reads l e 0 131072).1 ≤ 131072 := reads_most (by decide)
  unfold listR
  omega
/-- What the reader of a state answers and leaves. -/
def StateAt (W : World) (B bu : Nat) (x : FP) (r : List Int × Int) (z : Ending) (w' : World) : Prop := ∃ vp vc nv tp tc nt, ∃ ys : List TV, z = .returned (.agg #[.int .i64 x.id, .slice vp nv vc, .int .i64 x.out, .slice tp nt tc]) ∧ x.vs.length = nv ∧ w'.ownsRow W.heap.size 2 1 (.slice vp nv vc) nv (x.vs.map (Value.int .i64)) ∧ ys.length = nt ∧ ys.map TV.plain = x.ts ∧ (∀ y ∈ ys, TVo y w' W.heap.size) ∧ w'.ownsRow W.heap.size 46 3 (.slice tp nt tc) nt (ys.flatMap TV.cells) ∧ Only (· = bu) W w' ∧ UP w' B bu r.1 r.2
set_option maxRecDepth 100000 in
set_option maxHeartbeats 8000000 in
theorem rstate_any {W : World} {B bu : Nat} {l : List Int} {e : Int} (h : UP W B bu l e) {x : FP} {r : List Int × Int} (hr : stateRd l e = (x, r)) : Calls Tryz.prog 24 #[.agg #[.pointer (some ⟨bu, 0, none⟩)]] W (StateAt W B bu x r) := by
  obtain ⟨V, hV⟩ : ∃ V, V = (W.alloc (.cells #[.pointer (some ⟨bu, 0, none⟩)] 67 (0, 0))).alloc (.cells #[.int .i64 0, .slice none 0 0, .int .i64 0, .slice none 0 0] 28 (0, 0)) := ⟨_, rfl⟩
  have a1 := alloc_below W (.cells #[.pointer (some ⟨bu, 0, none⟩)] 67 (0, 0))
  have a2 := alloc_below (W.alloc (.cells #[.pointer (some ⟨bu, 0, none⟩)] 67 (0, 0))) (.cells #[.int .i64 0, .slice none 0 0, .int .i64 0, .slice none 0 0] 28 (0, 0))
  have bV : Below W.heap.size W V := by rw [hV]; exact a1.trans (a2.mono a1.size)
  obtain ⟨rB, hrB⟩ : ∃ rB, W.heap.size = rB := ⟨_, rfl⟩
  obtain ⟨kB, hkB⟩ : ∃ kB, rB + 1 = kB := ⟨_, rfl⟩
  have u0 : V.heap[rB]? = some (.cells #[.pointer (some ⟨bu, 0, none⟩)] 67 (0, 0)) := by rw [hV, ← hrB]; exact below_box a2 (heap_alloc_new W _)
  have u1 : V.heap[kB]? = some (.cells #[.int .i64 0, .slice none 0 0, .int .i64 0, .slice none 0 0] 28 (0, 0)) := by
    have e : kB = (W.alloc (.cells #[.pointer (some ⟨bu, 0, none⟩)] 67 (0, 0))).heap.size := by rw [← hkB, ← hrB]; simp
    rw [hV, e]
    exact heap_alloc_new _ _
  have HB := hide bV
  have HU := hide (h.later bV)
  have HBR : Hid (B ≤ W.heap.size ∧ bu < B ∧ W.heap.size ≤ rB ∧ rB < kB) := hide ⟨h.le, h.lt, by omega, by omega⟩
  have x0 : V.cell? ⟨rB, 0, none⟩ = some (.pointer (some ⟨bu, 0, none⟩)) := by simp [World.cell?, u0]
  obtain ⟨id, ta, ht0⟩ : ∃ id ta, numRd l e = (id, ta) := ⟨_, _, rfl⟩
  obtain ⟨vs, tb, ht1⟩ : ∃ vs tb, listR numRd ta.1 ta.2 = (vs, tb) := ⟨_, _, rfl⟩
  obtain ⟨out, td, ht2⟩ : ∃ out td, numRd tb.1 tb.2 = (out, td) := ⟨_, _, rfl⟩
  obtain ⟨ts, te, ht3⟩ : ∃ ts te, listR taskRd td.1 td.2 = (ts, te) := ⟨_, _, rfl⟩
  simp only [stateRd, ht0, ht1, ht2, ht3, Prod.mk.injEq] at hr
  obtain ⟨rfl, rfl⟩ := hr
  have HT0 := hide ht0
  have HT1 := hide ht1
  have HT2 := hide ht2
  have HT3 := hide ht3
  have HU1 := hide u1
  clear h bV u0 a1 a2 ht0 ht1 ht2 ht3 u1
  go_enter Tryz.func24, Tryz.ntmps24
  go_upto_region 1 with fail
  rw [← hV]
  try rw [hrB]
  try rw [hkB]
  clear hV hrB hkB
  refine wp_region_held_drew (S := fun w' => w'.cell? ⟨rB, 0, none⟩ = some (.pointer (some ⟨bu, 0, none⟩))) (by kernel_rfl) x0 (fun hHeld => ?_)
  refine wpAnyH_take (i := 0) (oi := _) (v := ?_) rfl (by kernel_rfl) (by kernel_rfl) (by kernel_rfl) (fun _ _ _ h => h) (Or.inl ⟨by rfl, ?_⟩) (by assumption) ?_
  rotate_left
  · intro w hSw
    (try dsimp only at hSw)
    go_simp
    all_goals with_reducible rfl
  simp only [Act.put, List.setIfInBounds_toArray] --TAKE 1
  refine wpAnyH_take (i := 2) (oi := _) (v := ?_) rfl (by kernel_rfl) (by kernel_rfl) (by kernel_rfl) (fun _ _ _ h => h) (Or.inl ⟨by rfl, ?_⟩) (by assumption) ?_
  rotate_left
  · intro w hSw
    (try dsimp only at hSw)
    go_simp
    all_goals with_reducible rfl
  simp only [Act.put] --TAKE 2
  refine wpAnyH_take (i := 4) (oi := _) (v := ?_) rfl (by kernel_rfl) (by kernel_rfl) (by kernel_rfl) (fun _ _ _ h => h) (Or.inl ⟨by rfl, ?_⟩) (by assumption) ?_
  rotate_left
  · intro w hSw
    (try dsimp only at hSw)
    go_simp
    all_goals with_reducible rfl
  simp only [Act.put] --TAKE 3
  refine wpAnyH_take (i := 6) (oi := _) (v := ?_) rfl (by kernel_rfl) (by kernel_rfl) (by kernel_rfl) (fun _ _ _ h => h) (Or.inl ⟨by rfl, ?_⟩) (by assumption) ?_
  rotate_left
  · intro w hSw
    (try dsimp only at hSw)
    go_simp
    all_goals with_reducible rfl
  simp only [Act.put] --TAKE 4
  have HOO : Only (· = bu) V V.drew := (Only.refl _ V).drew
  have HUU : UP V.drew B bu l e := HU.out.later (Below.refl _ V).drew
  refine wpAnyH_ready (rs := [1]) (by kernel_rfl) (by simp) ?_
  refine AllReadyH.cons (o := _) rfl (fun K hK => ?_) AllReadyH.nil
  go_simp
  refine (rnum_any HUU).mono ?_
  rintro _ w1 ⟨rfl, o9, u9⟩
  rw [HT0.out] at u9 ⊢
  replace HOO := HOO.trans o9
  replace HUU := u9
  clear o9 u9
  have yw1 : w1.cell? ⟨rB, 0, none⟩ = some (.pointer (some ⟨bu, 0, none⟩)) := HOO.cell x0 (fun e => by have e' : rB = bu := e; have := HBR.out; omega)
  go_wp2_with fail
  refine hK.out _ _ yw1 (fun hHeld => ?_)
  clear hK
  refine wpAnyH_ready (rs := [3]) (by kernel_rfl) (by simp) ?_
  refine AllReadyH.cons (o := _) rfl (fun K hK => ?_) AllReadyH.nil
  go_simp
  refine (listInt_any HUU HT1.out).mono ?_
  rintro _ w2 ⟨vp, vc, nv, rfl, hnv, vo, o9, u9⟩
  have vo := ownsRow_base vo (Nat.le_trans HB.out.size HOO.size)
  replace HOO := HOO.trans o9
  replace HUU := u9
  clear o9 u9
  have yw2 : w2.cell? ⟨rB, 0, none⟩ = some (.pointer (some ⟨bu, 0, none⟩)) := HOO.cell x0 (fun e => by have e' : rB = bu := e; have := HBR.out; omega)
  go_wp2_with fail
  refine hK.out _ _ yw2 (fun hHeld => ?_)
  clear hK
  refine wpAnyH_ready (rs := [5]) (by kernel_rfl) (by simp) ?_
  refine AllReadyH.cons (o := _) rfl (fun K hK => ?_) AllReadyH.nil
  go_simp
  refine (rnum_any HUU).mono ?_
  rintro _ w3 ⟨rfl, o9, u9⟩
  rw [HT2.out] at u9 ⊢
  have vo := ownsRow_only vo o9 (fun b hb e => by
    have e' : b = bu := e
    have := own_block_base vo hb
    have := HBR.out
    omega)
  replace HOO := HOO.trans o9
  replace HUU := u9
  clear o9 u9
  have yw3 : w3.cell? ⟨rB, 0, none⟩ = some (.pointer (some ⟨bu, 0, none⟩)) := HOO.cell x0 (fun e => by have e' : rB = bu := e; have := HBR.out; omega)
  go_wp2_with fail
  refine hK.out _ _ yw3 (fun hHeld => ?_)
  clear hK
  refine wpAnyH_ready (rs := [7]) (by kernel_rfl) (by simp) ?_
  refine AllReadyH.cons (o := _) rfl (fun K hK => ?_) AllReadyH.nil
  go_simp
  refine (listTask_any HUU HT3.out).mono ?_
  rintro _ w4 ⟨tp, tc, nt, ys, rfl, hnt, hys, hso, bo, o9, u9⟩
  have hkb := Nat.le_trans HB.out.size HOO.size
  have vo := ownsRow_only vo o9 (fun b hb e => by
    have e' : b = bu := e
    have := own_block_base vo hb
    have := HBR.out
    omega)
  replace HOO := HOO.trans o9
  replace HUU := u9
  have bo := ownsRow_base bo hkb
  have hso : ∀ y ∈ ys, TVo y w4 W.heap.size := fun y hy => (hso y hy).base hkb
  clear o9 u9 hkb
  have yw4 : w4.cell? ⟨rB, 0, none⟩ = some (.pointer (some ⟨bu, 0, none⟩)) := HOO.cell x0 (fun e => by have e' : rB = bu := e; have := HBR.out; omega)
  go_wp2_with fail
  refine hK.out _ _ yw4 (fun hHeld => ?_)
  clear hK
  refine wpAnyH_take (i := 8) (oi := _) (v := ?_) rfl (by kernel_rfl) (by kernel_rfl) (by kernel_rfl) (fun _ _ _ h => h) (Or.inl ⟨by rfl, ?_⟩) (by assumption) ?_
  rotate_left
  · intro w hSw
    (try dsimp only at hSw)
    go_simp
    all_goals with_reducible rfl
  simp only [Act.put, List.setIfInBounds_toArray] --TAKE 5
  have uk0 : w4.heap[kB]? = some (.cells #[.int .i64 0, .slice none 0 0, .int .i64 0, .slice none 0 0] 28 (0, 0)) := HOO.obj HU1.out (fun e => by have e' : kB = bu := e; have := HBR.out; omega)
  have c0 : (w4).cell? ⟨kB, 0, none⟩ = some (.int .i64 0) := by simp [World.cell?, uk0]
  have z0 : (w4).frozen? ⟨kB, 0, none⟩ = false := by simp [World.frozen?, uk0]
  have uk1 : ((w4).setCell ⟨kB, 0, none⟩ (.int .i64 id)).heap[kB]? = some (.cells #[(.int .i64 id), (.slice none 0 0), (.int .i64 0), (.slice none 0 0)] 28 (0, 0)) := heap_setCell_same _ kB 0 _ _ _ uk0
  have c1 : ((w4).setCell ⟨kB, 0, none⟩ (.int .i64 id)).cell? ⟨kB, 1, none⟩ = some (.slice none 0 0) := by simp [World.cell?, uk1]
  have z1 : ((w4).setCell ⟨kB, 0, none⟩ (.int .i64 id)).frozen? ⟨kB, 1, none⟩ = false := by simp [World.frozen?, uk1]
  have uk2 : (((w4).setCell ⟨kB, 0, none⟩ (.int .i64 id)).setCell ⟨kB, 1, none⟩ (.slice vp nv vc)).heap[kB]? = some (.cells #[(.int .i64 id), (.slice vp nv vc), (.int .i64 0), (.slice none 0 0)] 28 (0, 0)) := heap_setCell_same _ kB 1 _ _ _ uk1
  have c2 : (((w4).setCell ⟨kB, 0, none⟩ (.int .i64 id)).setCell ⟨kB, 1, none⟩ (.slice vp nv vc)).cell? ⟨kB, 2, none⟩ = some (.int .i64 0) := by simp [World.cell?, uk2]
  have z2 : (((w4).setCell ⟨kB, 0, none⟩ (.int .i64 id)).setCell ⟨kB, 1, none⟩ (.slice vp nv vc)).frozen? ⟨kB, 2, none⟩ = false := by simp [World.frozen?, uk2]
  have uk3 : ((((w4).setCell ⟨kB, 0, none⟩ (.int .i64 id)).setCell ⟨kB, 1, none⟩ (.slice vp nv vc)).setCell ⟨kB, 2, none⟩ (.int .i64 out)).heap[kB]? = some (.cells #[(.int .i64 id), (.slice vp nv vc), (.int .i64 out), (.slice none 0 0)] 28 (0, 0)) := heap_setCell_same _ kB 2 _ _ _ uk2
  have c3 : ((((w4).setCell ⟨kB, 0, none⟩ (.int .i64 id)).setCell ⟨kB, 1, none⟩ (.slice vp nv vc)).setCell ⟨kB, 2, none⟩ (.int .i64 out)).cell? ⟨kB, 3, none⟩ = some (.slice none 0 0) := by simp [World.cell?, uk3]
  have z3 : ((((w4).setCell ⟨kB, 0, none⟩ (.int .i64 id)).setCell ⟨kB, 1, none⟩ (.slice vp nv vc)).setCell ⟨kB, 2, none⟩ (.int .i64 out)).frozen? ⟨kB, 3, none⟩ = false := by simp [World.frozen?, uk3]
  have uk4 : (((((w4).setCell ⟨kB, 0, none⟩ (.int .i64 id)).setCell ⟨kB, 1, none⟩ (.slice vp nv vc)).setCell ⟨kB, 2, none⟩ (.int .i64 out)).setCell ⟨kB, 3, none⟩ (.slice tp nt tc)).heap[kB]? = some (.cells #[(.int .i64 id), (.slice vp nv vc), (.int .i64 out), (.slice tp nt tc)] 28 (0, 0)) := heap_setCell_same _ kB 3 _ _ _ uk3
  have hkk : Only (· = kB) w4 (((((w4).setCell ⟨kB, 0, none⟩ (.int .i64 id)).setCell ⟨kB, 1, none⟩ (.slice vp nv vc)).setCell ⟨kB, 2, none⟩ (.int .i64 out)).setCell ⟨kB, 3, none⟩ (.slice tp nt tc)) := (((Only.set (F := (· = kB)) w4 kB 0 _ rfl).trans (Only.set (F := (· = kB)) _ kB 1 _ rfl)).trans (Only.set (F := (· = kB)) _ kB 2 _ rfl)).trans (Only.set (F := (· = kB)) _ kB 3 _ rfl)
  have HF := hide uk4
  have HVO := hide (ownsRow_only vo hkk (fun b hb e => by
    have e' : b = kB := e
    obtain ⟨_, cur, h3⟩ := own_block_lt vo hb
    rw [e', uk0] at h3
    simp at h3))
  have HBO := hide (ownsRow_only bo hkk (fun b hb e => by
    have e' : b = kB := e
    obtain ⟨_, cur, h3⟩ := own_block_lt bo hb
    rw [e', uk0] at h3
    simp at h3))
  have HSO : Hid (∀ y ∈ ys, TVo y (((((w4).setCell ⟨kB, 0, none⟩ (.int .i64 id)).setCell ⟨kB, 1, none⟩ (.slice vp nv vc)).setCell ⟨kB, 2, none⟩ (.int .i64 out)).setCell ⟨kB, 3, none⟩ (.slice tp nt tc)) W.heap.size) := hide (fun y hy => (hso y hy).only hkk (safe_box uk0 ⟨by decide, by decide, by decide⟩))
  have HON : Hid (Only (· = bu) W (((((w4).setCell ⟨kB, 0, none⟩ (.int .i64 id)).setCell ⟨kB, 1, none⟩ (.slice vp nv vc)).setCell ⟨kB, 2, none⟩ (.int .i64 out)).setCell ⟨kB, 3, none⟩ (.slice tp nt tc))) := hide (((Only.fresh HB.out (· = bu)).trans HOO).step hkk (fun i e => .inr (by have e' : i = kB := e; have := HBR.out; omega)))
  have HUF : Hid (UP (((((w4).setCell ⟨kB, 0, none⟩ (.int .i64 id)).setCell ⟨kB, 1, none⟩ (.slice vp nv vc)).setCell ⟨kB, 2, none⟩ (.int .i64 out)).setCell ⟨kB, 3, none⟩ (.slice tp nt tc)) B bu te.1 te.2) := hide (HUU.only hkk (fun i e => by have e' : i = kB := e; have := HBR.out; omega))
  have yF : (((((w4).setCell ⟨kB, 0, none⟩ (.int .i64 id)).setCell ⟨kB, 1, none⟩ (.slice vp nv vc)).setCell ⟨kB, 2, none⟩ (.int .i64 out)).setCell ⟨kB, 3, none⟩ (.slice tp nt tc)).cell? ⟨rB, 0, none⟩ = some (.pointer (some ⟨bu, 0, none⟩)) := hkk.cell yw4 (fun e => by have e' : rB = kB := e; have := HBR.out; omega)
  have HNV := hide hnv
  have HNT := hide hnt
  have HYS := hide hys
  clear HOO HUU hkk uk0 uk1 uk2 uk3 uk4 vo bo hso hnv hnt hys
  refine wpAnyH_ready (rs := [9]) (by kernel_rfl) (by simp) ?_
  refine AllReadyH.cons (o := _) rfl (fun K hK => ?_) AllReadyH.nil
  go_simp
  refine hK.out _ _ yF (fun hHeld => ?_)
  clear hK
  refine wpAnyH_done (by kernel_rfl) ?_ _
  go_wp2
  refine bodyPost_ret (results_cell_row rfl _ _ kB 28 _ _ _ rfl HF.out Tryz.underlying28 rfl (by kernel_rfl)) rfl ?_
  exact ⟨vp, vc, nv, tp, tc, nt, ys, rfl, HNV.out, HVO.out, HNT.out, HYS.out, HSO.out, HBO.out, HON.out, HUF.out⟩
end Go.Proofs.YtlfipmieaabagaaGreat

/-
  Parse of the program. The conditions: lengths, and that bytes are bytes.
-/
namespace Go.Proofs.YtlfipmieaabagaaGreat
open Go.RowKit Go.Shelf

theorem results_cell_twoS {P : Program} {fn : Func} {p u : Tmp} {ty : TypeId} (h : fn.results = #[.cell p ty, .tmp u]) (tmps : Array Value) (w : World) (g : Nat) (t : TypeId) (cs : Array Value) (fr : Nat × Nat) (d : TypeDesc)
    (hp : tmps.getD p undef = .pointer (some ⟨g, 0, none⟩)) (hg : w.heap[g]? = some (.cells cs t fr))
    (hu : P.underlying ty = some d) (hd : (match d with | .struct _ | .array _ _ => true | _ => false) = true) (hi : (P.info? ty).map (·.size) = some cs.size) :
    (results fn tmps).run P w = .ok (.tuple #[.agg cs, tmps.getD u undef]) w := by
  rw [results_cell_tmp h, hp]
  simp [asAddr, run_loadVar_row w g t ty cs fr d hg hu hd hi]
theorem four_facts {w : World} {b : Nat} {t : TypeId} {c0 c1 c2 c3 : Value} (h : w.heap[b]? = some (.cells #[c0, c1, c2, c3] t (0, 0))) (d0 d1 d2 d3 : Value) :
    w.cell? ⟨b, 0, none⟩ = some c0 ∧ w.frozen? ⟨b, 0, none⟩ = false ∧ (w.setCell ⟨b, 0, none⟩ d0).cell? ⟨b, 1, none⟩ = some c1 ∧ (w.setCell ⟨b, 0, none⟩ d0).frozen? ⟨b, 1, none⟩ = false ∧ ((w.setCell ⟨b, 0, none⟩ d0).setCell ⟨b, 1, none⟩ d1).cell? ⟨b, 2, none⟩ = some c2 ∧ ((w.setCell ⟨b, 0, none⟩ d0).setCell ⟨b, 1, none⟩ d1).frozen? ⟨b, 2, none⟩ = false ∧ (((w.setCell ⟨b, 0, none⟩ d0).setCell ⟨b, 1, none⟩ d1).setCell ⟨b, 2, none⟩ d2).cell? ⟨b, 3, none⟩ = some c3 ∧ (((w.setCell ⟨b, 0, none⟩ d0).setCell ⟨b, 1, none⟩ d1).setCell ⟨b, 2, none⟩ d2).frozen? ⟨b, 3, none⟩ = false := by
  have _ := d3
  have h1 : (w.setCell ⟨b, 0, none⟩ d0).heap[b]? = some (.cells #[d0, c1, c2, c3] t (0, 0)) := heap_setCell_same w b 0 _ _ d0 h
  have h2 : ((w.setCell ⟨b, 0, none⟩ d0).setCell ⟨b, 1, none⟩ d1).heap[b]? = some (.cells #[d0, d1, c2, c3] t (0, 0)) := heap_setCell_same _ b 1 _ _ d1 h1
  have h3 : (((w.setCell ⟨b, 0, none⟩ d0).setCell ⟨b, 1, none⟩ d1).setCell ⟨b, 2, none⟩ d2).heap[b]? = some (.cells #[d0, d1, d2, c3] t (0, 0)) := heap_setCell_same _ b 2 _ _ d2 h2
  exact ⟨by simp [World.cell?, h], by simp [World.frozen?, h], by simp [World.cell?, h1], by simp [World.frozen?, h1], by simp [World.cell?, h2], by simp [World.frozen?, h2], by simp [World.cell?, h3], by simp [World.frozen?, h3]⟩
theorem four_set {w : World} {b : Nat} {t : TypeId} {c0 c1 c2 c3 : Value} (h : w.heap[b]? = some (.cells #[c0, c1, c2, c3] t (0, 0))) (d0 d1 d2 d3 : Value) :
    ((((w.setCell ⟨b, 0, none⟩ d0).setCell ⟨b, 1, none⟩ d1).setCell ⟨b, 2, none⟩ d2).setCell ⟨b, 3, none⟩ d3).heap[b]? = some (.cells #[d0, d1, d2, d3] t (0, 0)) :=
  heap_setCell_same _ b 3 _ _ d3 (heap_setCell_same _ b 2 _ _ d2 (heap_setCell_same _ b 1 _ _ d1 (heap_setCell_same w b 0 _ _ d0 h)))
theorem four_only (w : World) (b : Nat) (d0 d1 d2 d3 : Value) : Only (· = b) w ((((w.setCell ⟨b, 0, none⟩ d0).setCell ⟨b, 1, none⟩ d1).setCell ⟨b, 2, none⟩ d2).setCell ⟨b, 3, none⟩ d3) :=
  (((Only.set (F := (· = b)) w b 0 d0 rfl).trans (Only.set (F := (· = b)) _ b 1 d1 rfl)).trans (Only.set (F := (· = b)) _ b 2 d2 rfl)).trans (Only.set (F := (· = b)) _ b 3 d3 rfl)
def TP.tv (x : TP) : TV := ⟨x.ks, none, 0, x.tn, x.bs.map (fun b => ⟨b, none, 0⟩), none, 0⟩
def FP.zero : FP := ⟨0, [], 0, []⟩
def flowP (parts : Int) (os : List GO) (x : FP) : Int := flowC parts os x.id x.out x.vs (x.ts.map TP.tv)
theorem tasksC_plain (os : List GO) (ts : List TV) : tasksC os (ts.map (fun y => y.plain.tv)) = tasksC os ts := by
  unfold tasksC
  congr 1
  funext i
  by_cases h : i < ts.length
  · rw [getElem!_pos (ts.map _) i (by simpa using h), getElem!_pos ts i h, List.getElem_map]
    simp [TP.tv, TV.plain]
  · rw [getElem!_neg (ts.map _) i (by simpa using h), getElem!_neg ts i h]
theorem flow_plain (parts : Int) (os : List GO) (id out : Int) (vs : List Int) (ts : List TV) : flowP parts os ⟨id, vs, out, ts.map TV.plain⟩ = flowC parts os id out vs ts := by
  unfold flowP
  simp only [List.map_map]
  have e : (TP.tv ∘ TV.plain) = fun y : TV => y.plain.tv := rfl
  rw [e]
  unfold flowC
  rw [tasksC_plain, List.length_map]
/-- What Parse answers. -/
def parseC (parts : Int) (os : List GO) (b : List Int) : FP × Int :=
  if b.length ≤ 131072 then
    (if closes (stateRd b 0).2.1 (stateRd b 0).2.2 = 0 then (if flowP parts os (stateRd b 0).1 = 0 then ((stateRd b 0).1, 0) else (FP.zero, flowP parts os (stateRd b 0).1)) else (FP.zero, closes (stateRd b 0).2.1 (stateRd b 0).2.2))
  else (FP.zero, 3)
/-- A flow's state as it lies. -/
def FlowAt (w : World) (x : FP) (v : Value) : Prop := ∃ vp vc nv tp tc nt, ∃ ys : List TV, v = .agg #[.int .i64 x.id, .slice vp nv vc, .int .i64 x.out, .slice tp nt tc] ∧ x.vs.length = nv ∧ NRow w vp vc x.vs ∧ ys.length = nt ∧ ys.map TV.plain = x.ts ∧ TRow w tp tc ys
theorem flowAt_zero (w : World) : FlowAt w FP.zero (.agg #[.int .i64 0, .slice none 0 0, .int .i64 0, .slice none 0 0]) :=
  ⟨none, 0, 0, none, 0, 0, [], rfl, rfl, ⟨Nat.le_refl _, by decide, fun _ => rfl, fun i hi => absurd hi (Nat.not_lt_zero i)⟩, rfl, rfl, ⟨⟨Nat.le_refl _, by decide, fun _ => rfl, fun i hi => absurd hi (Nat.not_lt_zero i)⟩, fun x hx => by cases hx⟩⟩
theorem TVo.ok {y : TV} {W : World} {base : Nat} (h : TVo y W base) : y.ok W := by
  refine ⟨?_, ⟨LRow.of_own SV.len rfl h.bufs, fun x hx => LRow.of_own RC.len rfl (h.each x hx)⟩⟩
  obtain ⟨h1, h2, h3, h4⟩ := own_list (cells := Op.KS.cells) (fun o _ => Op.KS.len o) rfl h.keys
  exact ⟨by omega, h2, h3, h4⟩
theorem loopR_mem {α : Type} (one : List Int → Int → α × List Int × Int) : ∀ (n : Nat) (l : List Int) (e : Int), ∀ x ∈ (loopR one n l e).1, ∃ l' e', x = (one l' e').1
  | 0, _, _, x, h => by cases h
  | n + 1, l, e, x, h => by
    unfold loopR at h
    split at h
    · rcases List.mem_cons.1 h with rfl | h
      · exact ⟨l, e, rfl⟩
      · exact loopR_mem one n _ _ x h
    · cases h
theorem listR_mem {α : Type} (one : List Int → Int → α × List Int × Int) (l : List Int) (e : Int) : ∀ x ∈ (listR one l e).1, ∃ l' e', x = (one l' e').1 := loopR_mem one _ _ _
theorem task_small {l : List Int} {e : Int} {ys : List TV} (h : (stateRd l e).1.ts = ys.map TV.plain) : ∀ x ∈ ys, x.xs.length ≤ 1048576 ∧ ∀ y ∈ x.xs, y.rs.length ≤ 1048576 := by
  intro x hx
  have h1 : x.plain ∈ (stateRd l e).1.ts := by rw [h]; exact List.mem_map_of_mem hx
  obtain ⟨l', e', h2⟩ := listR_mem taskRd _ _ _ h1
  have h3 : x.plain.bs = (listR bufRd (listR keyRd (numRd l' e').2.1 (numRd l' e').2.2).2.1 (listR keyRd (numRd l' e').2.1 (numRd l' e').2.2).2.2).1 := by rw [h2]; rfl
  refine ⟨?_, fun y hy => ?_⟩
  · have h4 := listR_len bufRd (listR keyRd (numRd l' e').2.1 (numRd l' e').2.2).2.1 (listR keyRd (numRd l' e').2.1 (numRd l' e').2.2).2.2
    rw [← h3] at h4
    have h5 : x.plain.bs.length = x.xs.length := by unfold TV.plain; simp
    omega
  · have h4 : y.rs ∈ x.plain.bs := by unfold TV.plain; exact List.mem_map_of_mem hy
    rw [h3] at h4
    obtain ⟨l2, e2, h5⟩ := listR_mem bufRd _ _ _ h4
    rw [h5]
    have h6 := listR_len recRd l2 e2
    unfold bufRd
    omega
set_option maxRecDepth 100000 in
set_option maxHeartbeats 8000000 in
theorem parse_any {W : World} {parts : Int} {p : Option Addr} {cap n : Nat} {os : List OV} {bp : Option Addr} {bc m : Nat} {b : List Int} (ho : GRow W p cap os) (hn : os.length = n) (hb : Row .u8 W (.slice bp m bc) b) (hm : b.length = m) (hu : U8 b) (hbig : m ≤ 140737488355328) {x : FP} {er : Int} (hx : parseC parts (os.map OV.o) b = (x, er)) :
    Calls Tryz.prog 10 #[.agg #[.int .i64 parts, .slice p n cap], .slice bp m bc] W fun z w' => ∃ v, z = .returned (.tuple #[v, .int .i64 er]) ∧ FlowAt w' x v ∧ Below W.heap.size W w' := by
  obtain ⟨V, hV⟩ : ∃ V, V = (W.alloc (.cells #[.int .i64 parts, .slice p n cap] 24 (0, 0))).alloc (.cells #[.int .i64 0, .slice none 0 0, .int .i64 0, .slice none 0 0] 28 (0, 0)) := ⟨_, rfl⟩
  have a1 := alloc_below W (.cells #[.int .i64 parts, .slice p n cap] 24 (0, 0))
  have a2 := alloc_below (W.alloc (.cells #[.int .i64 parts, .slice p n cap] 24 (0, 0))) (.cells #[.int .i64 0, .slice none 0 0, .int .i64 0, .slice none 0 0] 28 (0, 0))
  have bV : Below W.heap.size W V := by rw [hV]; exact a1.trans (a2.mono a1.size)
  obtain ⟨gB, hgB⟩ : ∃ gB, W.heap.size = gB := ⟨_, rfl⟩
  obtain ⟨zB, hzB⟩ : ∃ zB, gB + 1 = zB := ⟨_, rfl⟩
  have u0 : V.heap[gB]? = some (.cells #[.int .i64 parts, .slice p n cap] 24 (0, 0)) := by rw [hV, ← hgB]; exact below_box a2 (heap_alloc_new W _)
  have u1 : V.heap[zB]? = some (.cells #[.int .i64 0, .slice none 0 0, .int .i64 0, .slice none 0 0] 28 (0, 0)) := by
    have e : zB = (W.alloc (.cells #[.int .i64 parts, .slice p n cap] 24 (0, 0))).heap.size := by rw [← hzB, ← hgB]; simp
    rw [hV, e]
    exact heap_alloc_new _ _
  have HBV := hide bV
  have HU0 := hide u0
  have HU1 := hide u1
  have HO := hide ho
  have HN := hide hn
  have HM := hide hm
  have HGZ : Hid (W.heap.size ≤ gB ∧ gB < zB) := hide ⟨by omega, by omega⟩
  have HX := hide hx
  have HOP := hide (open_more (hb.below bV) hu (by rw [hm]; exact hbig))
  obtain ⟨_, _, eb, j1, j2, _, _⟩ := hb
  simp only [Value.slice.injEq] at eb
  obtain ⟨rfl, hmb, rfl⟩ := eb
  clear hmb
  rw [hm] at j1
  clear ho hn hm hu bV u0 u1 a1 a2 hx
  go_enter Tryz.func10, Tryz.ntmps10
  go_upto_region 1 with fail
  rw [← hV]
  try rw [hgB]
  try rw [hzB]
  clear hV hgB hzB
  by_cases hl : m ≤ 131072
  · have e1 : decide (m > 131072) = false := decide_eq_false (by omega)
    have e2 : decide ((m : Int) > 131072) = false := decide_eq_false (by omega)
    go_wp2_with fail
    refine HOP.out.mono ?_
    rintro _ w1 ⟨bu, v1, rfl, hbu, hun, b1, hlt, hvl⟩
    have hup : UP w1 w1.heap.size bu b 0 := ⟨⟨v1, hun.other (fun k hk e => by have := (hvl k hk).2; omega)⟩, hlt, Nat.le_refl _⟩
    obtain ⟨B, hB⟩ : ∃ B, w1.heap.size = B := ⟨_, rfl⟩
    obtain ⟨w2, hw2⟩ : ∃ w2, w2 = w1.alloc (.cells #[.pointer (some ⟨bu, 0, none⟩)] 67 (0, 0)) := ⟨_, rfl⟩
    have b2 : Below w1.heap.size w1 w2 := by rw [hw2]; exact alloc_below _ _
    have ur : w2.heap[B]? = some (.cells #[.pointer (some ⟨bu, 0, none⟩)] 67 (0, 0)) := by rw [hw2, ← hB]; exact heap_alloc_new _ _
    rw [hB] at hup
    have hup2 := hup.later b2
    obtain ⟨s, r, hsr⟩ : ∃ s r, stateRd b 0 = (s, r) := ⟨_, _, rfl⟩
    have HST := hide (rstate_any hup2 hsr)
    have HSR := hide hsr
    have HB2 := hide (HBV.out.trans ((b1.trans (b2.mono b1.size)).mono HBV.out.size))
    have HGa := hide (below_box (b1.trans (b2.mono b1.size)) HU0.out)
    have HZa := hide (below_box (b1.trans (b2.mono b1.size)) HU1.out)
    have HUR := hide ur
    have HBU : Hid (W.heap.size ≤ bu ∧ bu < B ∧ zB < B ∧ W.heap.size ≤ B ∧ bu ≠ gB ∧ bu ≠ zB) := hide (by
      have h1 := (Array.getElem?_eq_some_iff.1 HU1.out).1
      have h2 := HGZ.out
      have h3 := HBV.out.size
      have h4 := b1.size
      omega)
    have x6 : w2.cell? ⟨B, 0, none⟩ = some (.pointer (some ⟨bu, 0, none⟩)) := by simp [World.cell?, ur]
    clear hun hvl hup b1 b2 ur hup2 hsr hbu hlt
    go_upto_region 4 with fail
    rw [← hw2]
    try rw [hB]
    clear hw2 hB
    go_wp2_with fail
    refine HST.out.mono ?_
    rintro _ w3 ⟨vp, vc, nv, tp, tc, nt, ys, rfl, hnv, hvo, hnt, hys, hso, hto, hon, hup3⟩
    obtain ⟨w4, hw4⟩ : ∃ w4, w4 = w3.alloc (.cells #[.int .i64 s.id, .slice vp nv vc, .int .i64 s.out, .slice tp nt tc] 28 (0, 0)) := ⟨_, rfl⟩
    have b4 : Below w3.heap.size w3 w4 := by rw [hw4]; exact alloc_below _ _
    have us : w4.heap[w3.heap.size]? = some (.cells #[.int .i64 s.id, .slice vp nv vc, .int .i64 s.out, .slice tp nt tc] 28 (0, 0)) := by rw [hw4]; exact heap_alloc_new _ _
    obtain ⟨sB, hsB⟩ : ∃ sB, w3.heap.size = sB := ⟨_, rfl⟩
    rw [hsB] at us
    have hon4 : Only (· = bu) w2 w4 := hon.trans (Only.fresh b4 _)
    have HB4 := hide (HB2.out.trans (hon4.below HB2.out.size (fun i e => by have e' : i = bu := e; have := HBU.out; omega)))
    have HGb := hide (hon4.obj HGa.out (fun e => by have e' : gB = bu := e; have := HBU.out; omega))
    have HZb := hide (hon4.obj HZa.out (fun e => by have e' : zB = bu := e; have := HBU.out; omega))
    have HRb := hide (hon4.obj HUR.out (fun e => by have e' : B = bu := e; have := HBU.out; omega))
    have HUS := hide us
    have HVN : Hid (NRow w4 vp vc s.vs) := hide (NRow.later (LRow.of_own intCells_len hnv (by rw [cells_map]; exact hvo)) b4)
    have HTN : Hid (TRow w4 tp tc ys) := hide (TRow.later ⟨LRow.of_own TV.len hnt hto, fun x hx => (hso x hx).ok⟩ b4)
    have HVO := hide (ownsRow_later hvo b4)
    have HTO := hide (ownsRow_later hto b4)
    have HSO : Hid (∀ y ∈ ys, TVo y w4 w2.heap.size) := hide (fun y hy => (hso y hy).only (Only.fresh b4 (fun _ => False)) (fun i e => e.elim))
    have HZ2 : Hid (zB < w2.heap.size) := hide (Array.getElem?_eq_some_iff.1 HZa.out).1
    have HNV := hide hnv
    have HNT := hide hnt
    have HYS := hide hys
    have HSZ : Hid (zB < sB ∧ gB < sB ∧ B < sB) := hide (by
      have h1 := (Array.getElem?_eq_some_iff.1 HUR.out).1
      have h2 := hon.size
      have h3 := HBU.out
      have h4 := HGZ.out
      omega)
    obtain ⟨v9, hun4⟩ := (hup3.later b4).unp
    obtain ⟨ce, hce⟩ : ∃ ce, closes r.1 r.2 = ce := ⟨_, rfl⟩
    have hcl := close_any hun4
    rw [hce] at hcl
    have HCL := hide hcl
    have HCE := hide hce
    have hr9 := HRb.out
    have x7 : w4.cell? ⟨B, 0, none⟩ = some (.pointer (some ⟨bu, 0, none⟩)) := by simp [World.cell?, hr9]
    clear hnv hvo hnt hys hso hto hon hup3 b4 us hon4 hun4 hcl hce hr9 x6 HST
    go_upto_region 5 with fail
    rw [← hw4]
    try rw [hsB]
    clear hw4 hsB
    go_wp2_with fail
    refine HCL.out.mono ?_
    rintro _ _ ⟨rfl, rfl⟩
    rename World => w4
    clear x7 HCL
    by_cases h0 : ce = 0
    · subst h0
      obtain ⟨fe, hfe⟩ : ∃ fe, flowP parts (os.map OV.o) s = fe := ⟨_, rfl⟩
      have hfe2 : flowC parts (os.map OV.o) s.id s.out s.vs ys = fe := by
        rw [← hfe, ← flow_plain, HYS.out]
      have hsm := task_small (l := b) (e := 0) (ys := ys) (by rw [HSR.out]; exact HYS.out.symm)
      have hvl9 : nv ≤ 1048576 := by
        have h1 : s.vs.length ≤ 131072 := by
          have h2 : s = (stateRd b 0).1 := by rw [HSR.out]
          rw [h2]
          exact listR_len _ _ _
        have := HNV.out
        omega
      have HFR := hide (from_all (W := w4) (parts := parts) (HO.out.below HB4.out) HN.out HVN.out HNV.out HTN.out HNT.out hvl9 hsm hfe2)
      have HXE : Hid ((if fe = 0 then (s, 0) else (FP.zero, fe)) = (x, er)) := hide (by
        rw [← HX.out]
        unfold parseC
        rw [HM.out, if_pos hl, HSR.out]
        simp only
        rw [HCE.out, if_pos rfl, hfe])
      obtain ⟨g0, g1⟩ := box2 HGb.out
      obtain ⟨s0, s1, s2, s3⟩ := box4 HUS.out
      clear hfe hfe2 hsm hvl9
      go_wp2_with fail
      refine HFR.out.mono ?_
      rintro _ w5 ⟨pv, rfl, _, b5⟩
      have HB5 := hide (HB4.out.trans (b5.mono HB4.out.size))
      have uz := below_box b5 HZb.out
      have HUSb := hide (below_box b5 HUS.out)
      have HVOb := hide (ownsRow_later HVO.out b5)
      have HTOb := hide (ownsRow_later HTO.out b5)
      have HSOb : Hid (∀ y ∈ ys, TVo y w5 w2.heap.size) := hide (fun y hy => (HSO.out y hy).only (Only.fresh b5 (fun _ => False)) (fun i e => e.elim))
      clear g0 g1 s0 s1 s2 s3 b5 HFR
      by_cases hf0 : fe = 0
      · subst hf0
        have h9 := HXE.out
        simp only [if_pos, Prod.mk.injEq] at h9
        have HX9 := hide h9
        obtain ⟨s0, s1, s2, s3⟩ := box4 HUSb.out
        clear h9
        obtain ⟨c0, f0, c1, f1, c2, f2, c3, f3⟩ := four_facts uz (.int .i64 s.id) (.slice vp nv vc) (.int .i64 s.out) (.slice tp nt tc)
        have HZF := hide (four_set uz (.int .i64 s.id) (.slice vp nv vc) (.int .i64 s.out) (.slice tp nt tc))
        have HZB := hide (four_only w5 zB (.int .i64 s.id) (.slice vp nv vc) (.int .i64 s.out) (.slice tp nt tc))
        have HBF := hide (HB5.out.trans (HZB.out.below HB5.out.size (fun i e => by have e' : i = zB := e; have := HGZ.out; omega)))
        have HVF := hide (ownsRow_only HVOb.out HZB.out (fun b hb e => by have e' : b = zB := e; have := own_block_base HVOb.out hb; have := HZ2.out; omega))
        have HTF := hide (ownsRow_only HTOb.out HZB.out (fun b hb e => by have e' : b = zB := e; have := own_block_base HTOb.out hb; have := HZ2.out; omega))
        have HSF := hide (fun y (hy : y ∈ ys) => (HSOb.out y hy).only HZB.out (safe_box uz ⟨by decide, by decide, by decide⟩))
        clear uz
        go_wp2
        refine bodyPost_ret (results_cell_twoS rfl _ _ zB 28 _ _ _ rfl HZF.out Tryz.underlying28 rfl (by kernel_rfl)) rfl ?_
        refine ⟨_, by rw [← HX9.out.2]; rfl, ?_, HBF.out⟩
        rw [← HX9.out.1]
        exact ⟨vp, vc, nv, tp, tc, nt, ys, rfl, HNV.out, LRow.of_own intCells_len HNV.out (by rw [cells_map]; exact HVF.out), HNT.out, HYS.out, ⟨LRow.of_own TV.len HNT.out HTF.out, fun x hx => (HSF.out x hx).ok⟩⟩
      · have e0 := ne_eq hf0
        have h9 := HXE.out
        rw [if_neg hf0] at h9
        simp only [Prod.mk.injEq] at h9
        have HX9 := hide h9
        clear h9
        obtain ⟨c0, f0, c1, f1, c2, f2, c3, f3⟩ := four_facts uz (.int .i64 0) (.slice none 0 0) (.int .i64 0) (.slice none 0 0)
        have HZF := hide (four_set uz (.int .i64 0) (.slice none 0 0) (.int .i64 0) (.slice none 0 0))
        have HZB := hide (four_only w5 zB (.int .i64 0) (.slice none 0 0) (.int .i64 0) (.slice none 0 0))
        have HBF := hide (HB5.out.trans (HZB.out.below HB5.out.size (fun i e => by have e' : i = zB := e; have := HGZ.out; omega)))
        clear uz
        go_wp2
        refine bodyPost_ret (results_cell_twoS rfl _ _ zB 28 _ _ _ rfl HZF.out Tryz.underlying28 rfl (by kernel_rfl)) rfl ?_
        exact ⟨_, by rw [← HX9.out.2]; rfl, by rw [← HX9.out.1]; exact flowAt_zero _, HBF.out⟩
    · have e0 := ne_eq h0
      have uz := HZb.out
      have h9 : (FP.zero, ce) = (x, er) := by
        rw [← HX.out]
        unfold parseC
        rw [HM.out, if_pos hl, HSR.out]
        simp only
        rw [HCE.out, if_neg h0]
      simp only [Prod.mk.injEq] at h9
      have HX9 := hide h9
      clear h9
      obtain ⟨c0, f0, c1, f1, c2, f2, c3, f3⟩ := four_facts uz (.int .i64 0) (.slice none 0 0) (.int .i64 0) (.slice none 0 0)
      have HZF := hide (four_set uz (.int .i64 0) (.slice none 0 0) (.int .i64 0) (.slice none 0 0))
      have HZB := hide (four_only w4 zB (.int .i64 0) (.slice none 0 0) (.int .i64 0) (.slice none 0 0))
      have HBF := hide (HB4.out.trans (HZB.out.below HB4.out.size (fun i e => by have e' : i = zB := e; have := HGZ.out; omega)))
      clear uz
      go_wp2
      refine bodyPost_ret (results_cell_twoS rfl _ _ zB 28 _ _ _ rfl HZF.out Tryz.underlying28 rfl (by kernel_rfl)) rfl ?_
      exact ⟨_, by rw [← HX9.out.2]; rfl, by rw [← HX9.out.1]; exact flowAt_zero _, HBF.out⟩
  · have e1 : decide (m > 131072) = true := decide_eq_true (by omega)
    have e2 : decide ((m : Int) > 131072) = true := decide_eq_true (by omega)
    have uz := HU1.out
    have h9 : (FP.zero, (3 : Int)) = (x, er) := by
      rw [← HX.out]
      unfold parseC
      rw [HM.out, if_neg hl]
    simp only [Prod.mk.injEq] at h9
    have HX9 := hide h9
    clear h9
    obtain ⟨c0, f0, c1, f1, c2, f2, c3, f3⟩ := four_facts uz (.int .i64 0) (.slice none 0 0) (.int .i64 0) (.slice none 0 0)
    have HZF := hide (four_set uz (.int .i64 0) (.slice none 0 0) (.int .i64 0) (.slice none 0 0))
    have HZB := hide (four_only V zB (.int .i64 0) (.slice none 0 0) (.int .i64 0) (.slice none 0 0))
    have HBF := hide (HBV.out.trans (HZB.out.below HBV.out.size (fun i e => by have e' : i = zB := e; have := HGZ.out; omega)))
    clear uz
    go_wp2
    refine bodyPost_ret (results_cell_twoS rfl _ _ zB 28 _ _ _ rfl HZF.out Tryz.underlying28 rfl (by kernel_rfl)) rfl ?_
    exact ⟨_, by rw [← HX9.out.2]; rfl, by rw [← HX9.out.1]; exact flowAt_zero _, HBF.out⟩
end Go.Proofs.YtlfipmieaabagaaGreat
