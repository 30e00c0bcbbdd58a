/-
  A task made of what it keeps: From, New of the program. The conditions: lengths.
-/
import Derived.Test.YtlfipmieaabagaaGreatTsc
namespace Go.Proofs.YtlfipmieaabagaaGreat
open Go.RowKit

theorem taskFrom_all {W : World} {kd pt fn ar tn : Int} {ip kp bp : Option Addr} {n ic nk kc nb bc : Nat} {ks : List Op.KS} {xs : List SV} (hu : kd = 8 → 2 ≤ n ∧ n ≤ 4) (hp : kd = 9 ∨ 0 < portsC kd ar) (hK : Op.KRow W kp kc ks) (hnk : ks.length = nk) (hL : LL W bp bc xs) (hnb : xs.length = nb) (hb : nb ≤ 1048576) (hlb : ∀ x ∈ xs, x.rs.length ≤ 1048576) {er : Int} (her : taskC kd ar tn n nb ks = er) :
    Calls Tryz.prog 41 #[.agg #[.int .i64 kd, .int .i64 pt, .int .i64 fn, .int .i64 ar, .slice ip n ic], .int .i64 1, .agg #[.slice kp nk kc, .int .i64 tn, .slice bp nb bc]] W (FromAt er W) :=
  taskFrom_any hu hp hK hnk (fun _ hX => newShelf_any (Op.KRow.later hK hX) hnk) (fun _ hX => newBuffers_any (hL.later hX) hnb hb hlb) her
theorem taskC_new {kd ar : Int} {n nb : Nat} (h : (if kd = 8 then n else 0) = nb) : taskC kd ar 0 n nb [] = 0 := by
  have h1 : Op.turnOK kd 0 n := by
    unfold Op.turnOK
    rw [if_neg (by omega)]
  have h2 : Op.keysOK kd ar [] := by
    unfold Op.keysOK
    split
    · exact fun j hj => absurd hj (Nat.not_lt_zero j)
    · rfl
  unfold taskC
  rw [if_pos ⟨h1, h2⟩, if_pos h]
theorem made_lists : ∀ n, (madeCells (Value.slice none 0 0).cells (n * 1)).toList = (List.replicate n (default : SV)).flatMap SV.cells := by
  intro n
  have h1 : ∀ n, (List.replicate n (default : SV)).flatMap SV.cells = List.replicate n (Value.slice none 0 0) := by
    intro n
    induction n with
    | zero => rfl
    | succ n ih => rw [List.replicate_succ, List.flatMap_cons, ih]; rfl
  rw [h1, Nat.mul_one]
  apply List.ext_getElem
  · simp [size_madeCells]
  · intro i h2 h3
    simp [madeCells, Value.cells, Nat.mod_one]
theorem made_LL {W : World} {base g n : Nat} (h : W.ownsRow base 49 1 (.slice (some ⟨g, 0, none⟩) n n) n ((List.replicate n (default : SV)).flatMap SV.cells)) : LL W (some ⟨g, 0, none⟩) n (List.replicate n (default : SV)) := by
  refine ⟨LRow.of_own SV.len (by simp) h, fun x hx => ?_⟩
  obtain rfl := (List.mem_replicate.1 hx).2
  exact ⟨Nat.le_refl _, by decide, fun _ => rfl, fun i hi => absurd hi (Nat.not_lt_zero i)⟩
set_option maxRecDepth 100000 in
set_option maxHeartbeats 4000000 in
theorem taskNew_good {W : World} {kd pt fn ar : Int} {ip : Option Addr} {n ic : Nat} (hu : kd = 8 → 2 ≤ n ∧ n ≤ 4) (hp : kd = 9 ∨ 0 < portsC kd ar) :
    Calls Tryz.prog 67 #[.agg #[.int .i64 kd, .int .i64 pt, .int .i64 fn, .int .i64 ar, .slice ip n ic], .int .i64 1] W (FromAt 0 W) := by
  obtain ⟨i0, hI0, hz0, hz1, hz2⟩ := info_parts Tryz.infoRecs
  obtain ⟨V, hV⟩ : ∃ V, V = W.alloc (.cells #[.int .i64 kd, .int .i64 pt, .int .i64 fn, .int .i64 ar, .slice ip n ic] 95 (0, 0)) := ⟨_, rfl⟩
  have bV : Below W.heap.size W V := by rw [hV]; exact alloc_below _ _
  obtain ⟨oB, hoB⟩ : ∃ oB, W.heap.size = oB := ⟨_, rfl⟩
  have u0 : V.heap[oB]? = some (.cells #[.int .i64 kd, .int .i64 pt, .int .i64 fn, .int .i64 ar, .slice ip n ic] 95 (0, 0)) := by rw [hV, ← hoB]; exact heap_alloc_new W _
  obtain ⟨bn, hbn⟩ : ∃ bn, (if kd = 8 then n else 0) = bn := ⟨_, rfl⟩
  have hb4 : bn ≤ 4 := by rw [← hbn]; split <;> omega
  have HBV := hide bV
  have HBN := hide hbn
  have HU := hide hu
  have HP := hide hp
  obtain ⟨f0, f1, f2, f3, f4⟩ := opBox5 u0
  clear hu hp bV u0 hbn
  go_enter Tryz.func67, Tryz.ntmps67
  go_upto_region 1 with fail
  rw [← hV]
  try rw [hoB]
  clear hV hoB
  refine wp_region_held_drew (S := (fun w' => w'.cell? ⟨oB, 0, none⟩ = some (.int .i64 kd) ∧ w'.cell? ⟨oB, 1, none⟩ = some (.int .i64 pt) ∧ w'.cell? ⟨oB, 2, none⟩ = some (.int .i64 fn) ∧ w'.cell? ⟨oB, 3, none⟩ = some (.int .i64 ar) ∧ w'.cell? ⟨oB, 4, none⟩ = some (.slice ip n ic))) (by kernel_rfl) ⟨f0, f1, f2, f3, f4⟩ (fun hHeld => ?_)
  refine wpAnyH_take (i := 0) (oi := _) (v := ?_) rfl (by kernel_rfl) (by kernel_rfl) (by kernel_rfl) (fun _ _ _ h => h) (Or.inl ⟨by rfl, ?_⟩) (by assumption) ?_
  rotate_left
  · intro w hSw
    (try dsimp only at hSw)
    go_simp
    all_goals with_reducible rfl
  simp only [Act.put, List.setIfInBounds_toArray] --TAKE 1
  refine wpAnyH_take (i := 1) (oi := _) (v := ?_) rfl (by kernel_rfl) (by kernel_rfl) (by kernel_rfl) (fun _ _ _ h => h) (Or.inl ⟨by rfl, ?_⟩) (by assumption) ?_
  rotate_left
  · intro w hSw
    (try dsimp only at hSw)
    go_simp
    all_goals with_reducible rfl
  simp only [Act.put] --TAKE 2
  refine wpAnyH_take (i := 2) (oi := _) (v := ?_) rfl (by kernel_rfl) (by kernel_rfl) (by kernel_rfl) (fun _ _ _ h => h) (Or.inl ⟨by rfl, ?_⟩) (by assumption) ?_
  rotate_left
  · intro w hSw
    (try dsimp only at hSw)
    go_simp
    all_goals with_reducible rfl
  simp only [Act.put] --TAKE 3
  refine wpAnyH_ready (rs := [3]) (by kernel_rfl) (by simp) ?_
  refine AllReadyH.cons (o := _) rfl (fun K hK => ?_) AllReadyH.nil
  go_simp
  refine (bufferCount_any HBN.out).mono ?_
  rintro _ w5 ⟨rfl, b5⟩
  have B5 : Below V.heap.size V w5 := (Below.refl _ V).drew.trans b5
  go_wp2_with fail
  refine hK.out _ _ ⟨cell_later B5 f0, cell_later B5 f1, cell_later B5 f2, cell_later B5 f3, cell_later B5 f4⟩ (fun hHeld => ?_)
  clear hK
  obtain ⟨w6, hrun, hown, hgr⟩ := run_make_full w5 W.heap.size 44 49 i0 (.slice none 0 0) 1 Tryz.underlying44 hI0 hz0 hz1 .i64 .i64 bn (by rw [hz2]; omega) (by unfold maxLen; omega) (Nat.le_trans HBV.out.size B5.size)
  rw [made_lists] at hown
  have hb6 : Below w5.heap.size w5 w6 := (Below.refl _ w5).grown hgr (Nat.le_refl _) (fun k hk => by simp at hk)
  have B6 : Below V.heap.size V w6 := B5.trans (hb6.mono B5.size)
  obtain ⟨g, hg⟩ : ∃ g, w5.heap.size = g := ⟨_, rfl⟩
  rw [hg] at hrun hown
  clear hgr hb6 hg
  refine wpAnyH_ready (rs := [4]) (by kernel_rfl) (by simp) ?_
  refine AllReadyH.cons (o := _) rfl (fun K hK => ?_) AllReadyH.nil
  go_simp
  refine hK.out _ _ ⟨cell_later B6 f0, cell_later B6 f1, cell_later B6 f2, cell_later B6 f3, cell_later B6 f4⟩ (fun hHeld => ?_)
  clear hK hrun
  refine wpAnyH_take (i := 5) (oi := _) (v := ?_) rfl (by kernel_rfl) (by kernel_rfl) (by kernel_rfl) (fun _ _ _ h => h) (Or.inl ⟨by rfl, ?_⟩) (by assumption) ?_
  rotate_left
  · intro w hSw
    (try dsimp only at hSw)
    go_simp
    all_goals with_reducible rfl
  simp only [Act.put, List.setIfInBounds_toArray] --TAKE 4
  refine wpAnyH_ready (rs := [6]) (by kernel_rfl) (by simp) ?_
  refine AllReadyH.cons (o := _) rfl (fun K hK => ?_) AllReadyH.nil
  go_simp
  refine (taskFrom_all (W := w6) (kd := kd) (pt := pt) (fn := fn) (ar := ar) (tn := 0) (ip := ip) (n := n) (ic := ic) (kp := none) (nk := 0) (kc := 0) (ks := []) HU.out HP.out ⟨Nat.le_refl _, by decide, fun _ => rfl, fun i hi => absurd hi (Nat.not_lt_zero i)⟩ rfl (made_LL hown) (by simp) (by omega) (fun x hx => by obtain rfl := (List.mem_replicate.1 hx).2; exact Nat.zero_le _) (taskC_new HBN.out)).mono ?_
  rintro _ w7 ⟨pv, rfl, hpv, b7⟩
  have B7 : Below V.heap.size V w7 := B6.trans (b7.mono B6.size)
  go_wp2_with fail
  refine hK.out _ _ ⟨cell_later B7 f0, cell_later B7 f1, cell_later B7 f2, cell_later B7 f3, cell_later B7 f4⟩ (fun hHeld => ?_)
  clear hK
  refine wpAnyH_take (i := 7) (oi := _) (v := ?_) rfl (by kernel_rfl) (by kernel_rfl) (by kernel_rfl) (fun _ _ _ h => h) (Or.inl ⟨by rfl, ?_⟩) (by assumption) ?_
  rotate_left
  · intro w hSw
    (try dsimp only at hSw)
    go_simp
    all_goals with_reducible rfl
  simp only [Act.put, List.setIfInBounds_toArray] --TAKE 5
  refine wpAnyH_take (i := 8) (oi := _) (v := ?_) rfl (by kernel_rfl) (by kernel_rfl) (by kernel_rfl) (fun _ _ _ h => h) (Or.inl ⟨by rfl, ?_⟩) (by assumption) ?_
  rotate_left
  · intro w hSw
    (try dsimp only at hSw)
    go_simp
    all_goals with_reducible rfl
  simp only [Act.put] --TAKE 6
  refine wpAnyH_ready (rs := [9]) (by kernel_rfl) (by simp) ?_
  refine AllReadyH.cons (o := _) rfl (fun K hK => ?_) AllReadyH.nil
  go_simp
  refine hK.out _ _ ⟨cell_later B7 f0, cell_later B7 f1, cell_later B7 f2, cell_later B7 f3, cell_later B7 f4⟩ (fun hHeld => ?_)
  clear hK
  refine wpAnyH_ready (rs := [10]) (by kernel_rfl) (by simp) ?_
  refine AllReadyH.cons (o := _) rfl (fun K hK => ?_) AllReadyH.nil
  go_simp
  refine hK.out _ _ ⟨cell_later B7 f0, cell_later B7 f1, cell_later B7 f2, cell_later B7 f3, cell_later B7 f4⟩ (fun hHeld => ?_)
  clear hK
  refine wpAnyH_done (by kernel_rfl) ?_ _
  have HBF := hide (HBV.out.trans (B7.mono HBV.out.size))
  clear B5 B6 B7 b5 b7 f0 f1 f2 f3 f4 hown
  go_wp2
  go_ret2
  exact ⟨pv, rfl, fun _ => hpv trivial, HBF.out⟩
end Go.Proofs.YtlfipmieaabagaaGreat
