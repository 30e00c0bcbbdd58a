/-
  A task made of what it keeps: From, New. The conditions: lengths, and what newShelf and newBuffers answer.
-/
import Derived.Test.YtlfipmieaabagaaGreatTsa
import Derived.Test.YtlfipmieaabagaaGreatOcl
import Derived.Test.YtlfipmieaabagaaGreatRum
import Derived.Test.YtlfipmieaabagaaGreatGof
namespace Go.Proofs.YtlfipmieaabagaaGreat
open Go.RowKit

/-- What task.From says of what a task keeps. -/
def taskC (kd ar tn : Int) (n nb : Nat) (ks : List Op.KS) : Int := if Op.turnOK kd tn n ∧ Op.keysOK kd ar ks then (if (if kd = 8 then n else 0) = nb then 0 else 1) else 70
def ShelfOk (W : World) (kp : Option Addr) (nk kc : Nat) : Prop := ∀ X, Below W.heap.size W X → Calls Tryz.prog 75 #[.slice kp nk kc] X fun e w' => ∃ a b, e = .returned (.agg #[a, b]) ∧ Below X.heap.size X w'
def BufOk (W : World) (bp : Option Addr) (nb bc : Nat) : Prop := ∀ X, Below W.heap.size W X → Calls Tryz.prog 76 #[.slice bp nb bc] X fun e w' => ∃ p c, e = .returned (.slice p nb c) ∧ Below X.heap.size X w'
def FromAt (er : Int) (W : World) (e : Ending) (w' : World) : Prop := ∃ pv, e = .returned (.tuple #[.pointer pv, .int .i64 er]) ∧ (er = 0 → ∃ q, pv = some ⟨q, 0, none⟩) ∧ Below W.heap.size W w'
theorem opBox5 {W : World} {b : Nat} {v0 v1 v2 v3 v4 : Value} {t : TypeId} (fu : W.heap[b]? = some (.cells #[v0, v1, v2, v3, v4] t (0, 0))) : W.cell? ⟨b, 0, none⟩ = some v0 ∧ W.cell? ⟨b, 1, none⟩ = some v1 ∧ W.cell? ⟨b, 2, none⟩ = some v2 ∧ W.cell? ⟨b, 3, none⟩ = some v3 ∧ W.cell? ⟨b, 4, none⟩ = some v4 :=
  ⟨by simp [World.cell?, fu], by simp [World.cell?, fu], by simp [World.cell?, fu], by simp [World.cell?, fu], by simp [World.cell?, fu]⟩
theorem tsBox3 {W : World} {b : Nat} {v0 v1 v2 : Value} {t : TypeId} (fu : W.heap[b]? = some (.cells #[v0, v1, v2] t (0, 0))) : W.cell? ⟨b, 0, none⟩ = some v0 ∧ W.cell? ⟨b, 1, none⟩ = some v1 ∧ W.cell? ⟨b, 2, none⟩ = some v2 :=
  ⟨by simp [World.cell?, fu], by simp [World.cell?, fu], by simp [World.cell?, fu]⟩
set_option maxRecDepth 100000 in
set_option maxHeartbeats 8000000 in
theorem taskFrom_any {W : World} {kd pt fn ar tn : Int} {ip kp bp : Option Addr} {n ic nk kc nb bc : Nat} {ks : List Op.KS} (hu : kd = 8 → 2 ≤ n ∧ n ≤ 4) (hp : kd = 9 ∨ 0 < portsC kd ar) (hK : Op.KRow W kp kc ks) (hnk : ks.length = nk) (hsh : ShelfOk W kp nk kc) (hbf : BufOk W bp nb bc) {er : Int} (her : taskC kd ar tn n nb ks = er) :
    Calls Tryz.prog 41 #[.agg #[.int .i64 kd, .int .i64 pt, .int .i64 fn, .int .i64 ar, .slice ip n ic], .int .i64 1, .agg #[.slice kp nk kc, .int .i64 tn, .slice bp nb bc]] W (FromAt er W) := by
  obtain ⟨V, hV⟩ : ∃ V, V = (W.alloc (.cells #[.int .i64 kd, .int .i64 pt, .int .i64 fn, .int .i64 ar, .slice ip n ic] 95 (0, 0))).alloc (.cells #[.slice kp nk kc, .int .i64 tn, .slice bp nb bc] 46 (0, 0)) := ⟨_, rfl⟩
  have a1 := alloc_below W (.cells #[.int .i64 kd, .int .i64 pt, .int .i64 fn, .int .i64 ar, .slice ip n ic] 95 (0, 0))
  have a2 := alloc_below (W.alloc (.cells #[.int .i64 kd, .int .i64 pt, .int .i64 fn, .int .i64 ar, .slice ip n ic] 95 (0, 0))) (.cells #[.slice kp nk kc, .int .i64 tn, .slice bp nb bc] 46 (0, 0))
  have bV : Below W.heap.size W V := by rw [hV]; exact a1.trans (a2.mono a1.size)
  obtain ⟨oB, hoB⟩ : ∃ oB, W.heap.size = oB := ⟨_, rfl⟩
  obtain ⟨tB, htB⟩ : ∃ tB, oB + 1 = tB := ⟨_, rfl⟩
  have u0 : V.heap[oB]? = some (.cells #[.int .i64 kd, .int .i64 pt, .int .i64 fn, .int .i64 ar, .slice ip n ic] 95 (0, 0)) := by rw [hV, ← hoB]; exact below_box a2 (heap_alloc_new W _)
  have u1 : V.heap[tB]? = some (.cells #[.slice kp nk kc, .int .i64 tn, .slice bp nb bc] 46 (0, 0)) := by
    have e : tB = (W.alloc (.cells #[.int .i64 kd, .int .i64 pt, .int .i64 fn, .int .i64 ar, .slice ip n ic] 95 (0, 0))).heap.size := by rw [← htB, ← hoB]; simp
    rw [hV, e]
    exact heap_alloc_new _ _
  have HT : Hid (W.heap.size ≤ oB ∧ oB < tB) := hide ⟨by omega, by omega⟩
  have HBV := hide bV
  have HU0 := hide u0
  have HU1 := hide u1
  have HKR := hide hK
  have HNK := hide hnk
  have HSH := hide hsh
  have HBF := hide hbf
  have HER := hide her
  have hn4 : (if kd = 8 then n else 1) ≤ 4 := by split <;> omega
  obtain ⟨ni, hni⟩ : ∃ ni, (if kd = 8 then n else 1) = ni := ⟨_, rfl⟩
  rw [hni] at hn4
  obtain ⟨bn, hbn⟩ : ∃ bn, (if kd = 8 then n else 0) = bn := ⟨_, rfl⟩
  have HFI := hide (fits_yes (W := V) (pt := pt) (fn := fn) (ip := ip) (ic := ic) hu hp)
  have HNI := hide hni
  have HBN := hide hbn
  obtain ⟨f0, f1, f2, f3, f4⟩ := opBox5 u0
  clear hu hp hK hnk hsh hbf her a1 a2 bV u0 u1 hni hbn
  go_enter Tryz.func41, Tryz.ntmps41
  go_upto_region 1 with fail
  rw [← hV]
  try rw [hoB]
  try rw [htB]
  clear hV hoB htB
  go_wp2_with fail
  refine HFI.out.mono ?_
  rintro _ w1 ⟨rfl, b1⟩
  have HB1 := hide b1
  clear f0 f1 f2 f3 f4
  obtain ⟨f0, f1, f2, f3, f4⟩ := opBox5 (below_box b1 HU0.out)
  clear b1 HFI
  go_wp2_with fail
  refine (inputCount_any HNI.out).mono ?_
  rintro _ w2 ⟨rfl, b2⟩
  have HB2 := hide (HB1.out.trans (b2.mono HB1.out.size))
  clear b2 f0 f1 f2 f3 f4
  go_wp2_with fail
  refine (newQueues_one hn4).mono ?_
  rintro _ w3 ⟨qg, rfl, b3⟩
  have HB3 := hide (HB2.out.trans (b3.mono HB2.out.size))
  obtain ⟨f0, f1, f2, f3, f4⟩ := opBox5 (below_box HB3.out HU0.out)
  obtain ⟨g0, g1, g2⟩ := tsBox3 (below_box HB3.out HU1.out)
  obtain ⟨ce, hce⟩ : ∃ ce, (if Op.turnOK kd tn n ∧ Op.keysOK kd ar ks then (0 : Int) else 70) = ce := ⟨_, rfl⟩
  have HCK := hide (Op.ocheck_any (W := w3) (kd := kd) (pt := pt) (fn := fn) (ar := ar) (tn := tn) (ip := ip) (ic := ic) (Op.KRow.later HKR.out (HBV.out.trans (HB3.out.mono HBV.out.size))) HNK.out hce)
  have HCE := hide hce
  clear b3 hn4 hce
  go_wp2_with fail
  refine HCK.out.mono ?_
  rintro _ w4 ⟨rfl, b4⟩
  have HB4 := hide (HB3.out.trans (b4.mono HB3.out.size))
  clear b4 f0 f1 f2 f3 f4 g0 g1 g2 HCK
  by_cases hok : Op.turnOK kd tn n ∧ Op.keysOK kd ar ks
  · obtain rfl : (0 : Int) = ce := by rw [← HCE.out, if_pos hok]
    have HER2 : Hid ((if bn = nb then 0 else 1) = er) := hide (by rw [← HER.out, ← HBN.out]; unfold taskC; rw [if_pos hok])
    obtain ⟨f0, f1, f2, f3, f4⟩ := opBox5 (below_box HB4.out HU0.out)
    obtain ⟨g0, g1, g2⟩ := tsBox3 (below_box HB4.out HU1.out)
    clear hok HER HCE
    go_upto_region 9 with fail
    refine wp_region_held_drew (S := (fun w' => w'.cell? ⟨oB, 0, none⟩ = some (.int .i64 kd) ∧ w'.cell? ⟨oB, 1, none⟩ = some (.int .i64 pt) ∧ w'.cell? ⟨oB, 2, none⟩ = some (.int .i64 fn) ∧ w'.cell? ⟨oB, 3, none⟩ = some (.int .i64 ar) ∧ w'.cell? ⟨oB, 4, none⟩ = some (.slice ip n ic) ∧ w'.cell? ⟨tB, 0, none⟩ = some (.slice kp nk kc) ∧ w'.cell? ⟨tB, 1, none⟩ = some (.int .i64 tn) ∧ w'.cell? ⟨tB, 2, none⟩ = some (.slice bp nb bc))) (by kernel_rfl) ⟨f0, f1, f2, f3, f4, g0, g1, g2⟩ (fun hHeld => ?_)
    refine wpAnyH_take (i := 0) (oi := _) (v := ?_) rfl (by kernel_rfl) (by kernel_rfl) (by kernel_rfl) (fun _ _ _ h => h) (Or.inl ⟨by rfl, ?_⟩) (by assumption) ?_
    rotate_left
    · intro w hSw
      (try dsimp only at hSw)
      go_simp
      all_goals with_reducible rfl
    simp only [Act.put, List.setIfInBounds_toArray] --TAKE 1
    refine wpAnyH_take (i := 1) (oi := _) (v := ?_) rfl (by kernel_rfl) (by kernel_rfl) (by kernel_rfl) (fun _ _ _ h => h) (Or.inl ⟨by rfl, ?_⟩) (by assumption) ?_
    rotate_left
    · intro w hSw
      (try dsimp only at hSw)
      go_simp
      all_goals with_reducible rfl
    simp only [Act.put] --TAKE 2
    refine wpAnyH_take (i := 2) (oi := _) (v := ?_) rfl (by kernel_rfl) (by kernel_rfl) (by kernel_rfl) (fun _ _ _ h => h) (Or.inl ⟨by rfl, ?_⟩) (by assumption) ?_
    rotate_left
    · intro w hSw
      (try dsimp only at hSw)
      go_simp
      all_goals with_reducible rfl
    simp only [Act.put] --TAKE 3
    refine wpAnyH_take (i := 3) (oi := _) (v := ?_) rfl (by kernel_rfl) (by kernel_rfl) (by kernel_rfl) (fun _ _ _ h => h) (Or.inl ⟨by rfl, ?_⟩) (by assumption) ?_
    rotate_left
    · intro w hSw
      (try dsimp only at hSw)
      go_simp
      all_goals with_reducible rfl
    simp only [Act.put] --TAKE 4
    refine wpAnyH_ready (rs := [4]) (by kernel_rfl) (by simp) ?_
    refine AllReadyH.cons (o := _) rfl (fun K hK => ?_) AllReadyH.nil
    go_simp
    refine (bufferCount_any HBN.out).mono ?_
    rintro _ w5 ⟨rfl, b5⟩
    have B5 : Below w4.heap.size w4 w5 := (Below.refl _ w4).drew.trans b5
    go_wp2_with fail
    refine hK.out _ _ ⟨cell_later B5 f0, cell_later B5 f1, cell_later B5 f2, cell_later B5 f3, cell_later B5 f4, cell_later B5 g0, cell_later B5 g1, cell_later B5 g2⟩ (fun hHeld => ?_)
    clear hK
    refine wpAnyH_take (i := 5) (oi := _) (v := ?_) rfl (by kernel_rfl) (by kernel_rfl) (by kernel_rfl) (fun _ _ _ h => h) (Or.inl ⟨by rfl, ?_⟩) (by assumption) ?_
    rotate_left
    · intro w hSw
      (try dsimp only at hSw)
      go_simp
      all_goals with_reducible rfl
    simp only [Act.put, List.setIfInBounds_toArray] --TAKE 5
    refine wpAnyH_done (by kernel_rfl) ?_ _
    have HB6 := hide (HB4.out.trans (B5.mono HB4.out.size))
    clear b5 B5 f0 f1 f2 f3 f4 g0 g1 g2
    by_cases hnb : bn = nb
    · subst hnb
      have HER3 : Hid (0 = er) := hide (by rw [← HER2.out, if_pos rfl])
      have uo := below_box HB6.out HU0.out
      have ut := below_box HB6.out HU1.out
      have c4 : w5.cell? ⟨oB, 4, none⟩ = some (.slice ip n ic) := by simp [World.cell?, uo]
      have z4 : w5.frozen? ⟨oB, 4, none⟩ = false := by simp [World.frozen?, uo]
      obtain ⟨X, hX⟩ : ∃ X, X = w5.setCell ⟨oB, 4, none⟩ (.slice none 0 0) := ⟨_, rfl⟩
      have uo2 : X.heap[oB]? = some (.cells #[.int .i64 kd, .int .i64 pt, .int .i64 fn, .int .i64 ar, .slice none 0 0] 95 (0, 0)) := by rw [hX]; exact heap_setCell_same _ oB 4 _ _ _ uo
      have hon : Only (· = oB) w5 X := by rw [hX]; exact Only.set (F := (· = oB)) w5 oB 4 _ rfl
      have ut2 : X.heap[tB]? = some (.cells #[.slice kp nk kc, .int .i64 tn, .slice bp bn bc] 46 (0, 0)) := hon.obj ut (fun e => by have e' : tB = oB := e; have := HT.out; omega)
      have HBX : Hid (Below W.heap.size W X) := hide (by rw [hX]; exact (HBV.out.trans (HB6.out.mono HBV.out.size)).setCell (p := ⟨oB, 4, none⟩) HT.out.1 _)
      obtain ⟨f0, f1, f2, f3, f4⟩ := opBox5 uo2
      obtain ⟨g0, g1, g2⟩ := tsBox3 ut2
      clear uo ut hon uo2 ut2
      go_upto_region 12 with fail
      rw [← hX]
      clear hX c4 z4
      refine wp_region_held_drew (S := (fun w' => w'.cell? ⟨oB, 0, none⟩ = some (.int .i64 kd) ∧ w'.cell? ⟨oB, 1, none⟩ = some (.int .i64 pt) ∧ w'.cell? ⟨oB, 2, none⟩ = some (.int .i64 fn) ∧ w'.cell? ⟨oB, 3, none⟩ = some (.int .i64 ar) ∧ w'.cell? ⟨oB, 4, none⟩ = some (.slice none 0 0) ∧ w'.cell? ⟨tB, 0, none⟩ = some (.slice kp nk kc) ∧ w'.cell? ⟨tB, 1, none⟩ = some (.int .i64 tn) ∧ w'.cell? ⟨tB, 2, none⟩ = some (.slice bp bn bc))) (by kernel_rfl) ⟨f0, f1, f2, f3, f4, g0, g1, g2⟩ (fun hHeld => ?_)
      refine wpAnyH_take (i := 0) (oi := _) (v := ?_) rfl (by kernel_rfl) (by kernel_rfl) (by kernel_rfl) (fun _ _ _ h => h) (Or.inl ⟨by rfl, ?_⟩) (by assumption) ?_
      rotate_left
      · intro w hSw
        (try dsimp only at hSw)
        go_simp
        all_goals with_reducible rfl
      simp only [Act.put, List.setIfInBounds_toArray] --TAKE 6
      refine wpAnyH_take (i := 1) (oi := _) (v := ?_) rfl (by kernel_rfl) (by kernel_rfl) (by kernel_rfl) (fun _ _ _ h => h) (Or.inl ⟨by rfl, ?_⟩) (by assumption) ?_
      rotate_left
      · intro w hSw
        (try dsimp only at hSw)
        go_simp
        all_goals with_reducible rfl
      simp only [Act.put] --TAKE 7
      refine wpAnyH_take (i := 2) (oi := _) (v := ?_) rfl (by kernel_rfl) (by kernel_rfl) (by kernel_rfl) (fun _ _ _ h => h) (Or.inl ⟨by rfl, ?_⟩) (by assumption) ?_
      rotate_left
      · intro w hSw
        (try dsimp only at hSw)
        go_simp
        all_goals with_reducible rfl
      simp only [Act.put] --TAKE 8
      refine wpAnyH_take (i := 3) (oi := _) (v := ?_) rfl (by kernel_rfl) (by kernel_rfl) (by kernel_rfl) (fun _ _ _ h => h) (Or.inl ⟨by rfl, ?_⟩) (by assumption) ?_
      rotate_left
      · intro w hSw
        (try dsimp only at hSw)
        go_simp
        all_goals with_reducible rfl
      simp only [Act.put] --TAKE 9
      refine wpAnyH_take (i := 4) (oi := _) (v := ?_) rfl (by kernel_rfl) (by kernel_rfl) (by kernel_rfl) (fun _ _ _ h => h) (Or.inl ⟨by rfl, ?_⟩) (by assumption) ?_
      rotate_left
      · intro w hSw
        (try dsimp only at hSw)
        go_simp
        all_goals with_reducible rfl
      simp only [Act.put] --TAKE 10
      refine wpAnyH_take (i := 6) (oi := _) (v := ?_) rfl (by kernel_rfl) (by kernel_rfl) (by kernel_rfl) (fun _ _ _ h => h) (Or.inl ⟨by rfl, ?_⟩) (by assumption) ?_
      rotate_left
      · intro w hSw
        (try dsimp only at hSw)
        go_simp
        all_goals with_reducible rfl
      simp only [Act.put] --TAKE 11
      refine wpAnyH_take (i := 7) (oi := _) (v := ?_) rfl (by kernel_rfl) (by kernel_rfl) (by kernel_rfl) (fun _ _ _ h => h) (Or.inl ⟨by rfl, ?_⟩) (by assumption) ?_
      rotate_left
      · intro w hSw
        (try dsimp only at hSw)
        go_simp
        all_goals with_reducible rfl
      simp only [Act.put] --TAKE 12
      refine wpAnyH_take (i := 8) (oi := _) (v := ?_) rfl (by kernel_rfl) (by kernel_rfl) (by kernel_rfl) (fun _ _ _ h => h) (Or.inl ⟨by rfl, ?_⟩) (by assumption) ?_
      rotate_left
      · intro w hSw
        (try dsimp only at hSw)
        go_simp
        all_goals with_reducible rfl
      simp only [Act.put] --TAKE 13
      refine wpAnyH_take (i := 9) (oi := _) (v := ?_) rfl (by kernel_rfl) (by kernel_rfl) (by kernel_rfl) (fun _ _ _ h => h) (Or.inl ⟨by rfl, ?_⟩) (by assumption) ?_
      rotate_left
      · intro w hSw
        (try dsimp only at hSw)
        go_simp
        all_goals with_reducible rfl
      simp only [Act.put] --TAKE 14
      refine wpAnyH_take (i := 10) (oi := _) (v := ?_) rfl (by kernel_rfl) (by kernel_rfl) (by kernel_rfl) (fun _ _ _ h => h) (Or.inl ⟨by rfl, ?_⟩) (by assumption) ?_
      rotate_left
      · intro w hSw
        (try dsimp only at hSw)
        go_simp
        all_goals with_reducible rfl
      simp only [Act.put] --TAKE 15
      have BD : Below X.heap.size X X.drew := (Below.refl _ X).drew
      refine wpAnyH_ready (rs := [5]) (by kernel_rfl) (by simp) ?_
      refine AllReadyH.cons (o := _) rfl (fun K hK => ?_) AllReadyH.nil
      go_simp
      refine (HSH.out _ (HBX.out.trans (BD.mono HBX.out.size))).mono ?_
      rintro _ ws ⟨sa, sb, rfl, bs⟩
      have BS : Below X.heap.size X ws := BD.trans (bs.mono BD.size)
      go_wp2_with fail
      refine hK.out _ _ ⟨cell_later BS f0, cell_later BS f1, cell_later BS f2, cell_later BS f3, cell_later BS f4, cell_later BS g0, cell_later BS g1, cell_later BS g2⟩ (fun hHeld => ?_)
      clear hK
      refine wpAnyH_ready (rs := [11]) (by kernel_rfl) (by simp) ?_
      refine AllReadyH.cons (o := _) rfl (fun K hK => ?_) AllReadyH.nil
      go_simp
      refine (HBF.out _ (HBX.out.trans (BS.mono HBX.out.size))).mono ?_
      rintro _ wb ⟨bq, bd, rfl, bb⟩
      have BB : Below X.heap.size X wb := BS.trans (bb.mono BS.size)
      go_wp2_with fail
      refine hK.out _ _ ⟨cell_later BB f0, cell_later BB f1, cell_later BB f2, cell_later BB f3, cell_later BB f4, cell_later BB g0, cell_later BB g1, cell_later BB g2⟩ (fun hHeld => ?_)
      clear hK
      refine wpAnyH_take (i := 12) (oi := _) (v := ?_) rfl (by kernel_rfl) (by kernel_rfl) (by kernel_rfl) (fun _ _ _ h => h) (Or.inl ⟨by rfl, ?_⟩) (by assumption) ?_
      rotate_left
      · intro w hSw
        (try dsimp only at hSw)
        go_simp
        all_goals with_reducible rfl
      simp only [Act.put, List.setIfInBounds_toArray] --TAKE 16
      have BZ : Below X.heap.size X (wb.alloc (.cells #[.int .i64 kd, .int .i64 pt, .int .i64 fn, .int .i64 ar, .slice none 0 0, .slice (some ⟨qg, 0, none⟩) ni ni, sa, sb, .int .i64 tn, .slice bq bn bd, .int .i64 0, .slice none 0 0, .int .i64 0, .slice none 0 0] 155 (0, 0))) := BB.trans ((alloc_below _ _).mono BB.size)
      refine wpAnyH_ready (rs := [13]) (by kernel_rfl) (by simp) ?_
      refine AllReadyH.cons (o := _) rfl (fun K hK => ?_) AllReadyH.nil
      go_simp
      refine hK.out _ _ ⟨cell_later BZ f0, cell_later BZ f1, cell_later BZ f2, cell_later BZ f3, cell_later BZ f4, cell_later BZ g0, cell_later BZ g1, cell_later BZ g2⟩ (fun hHeld => ?_)
      clear hK
      refine wpAnyH_ready (rs := [14]) (by kernel_rfl) (by simp) ?_
      refine AllReadyH.cons (o := _) rfl (fun K hK => ?_) AllReadyH.nil
      go_simp
      refine hK.out _ _ ⟨cell_later BZ f0, cell_later BZ f1, cell_later BZ f2, cell_later BZ f3, cell_later BZ f4, cell_later BZ g0, cell_later BZ g1, cell_later BZ g2⟩ (fun hHeld => ?_)
      clear hK
      refine wpAnyH_ready (rs := [15]) (by kernel_rfl) (by simp) ?_
      refine AllReadyH.cons (o := _) rfl (fun K hK => ?_) AllReadyH.nil
      go_simp
      refine hK.out _ _ ⟨cell_later BZ f0, cell_later BZ f1, cell_later BZ f2, cell_later BZ f3, cell_later BZ f4, cell_later BZ g0, cell_later BZ g1, cell_later BZ g2⟩ (fun hHeld => ?_)
      clear hK
      refine wpAnyH_done (by kernel_rfl) ?_ _
      have HBZ := hide BZ
      clear BZ f0 f1 f2 f3 f4 g0 g1 g2
      go_wp2
      go_ret2
      exact ⟨_, by rw [← HER3.out]; rfl, fun _ => ⟨_, rfl⟩, HBX.out.trans (HBZ.out.mono HBX.out.size)⟩
    · have HER3 : Hid (1 = er) := hide (by rw [← HER2.out, if_neg hnb])
      have e1 : (nb == bn) = false := by simpa using fun h : nb = bn => hnb h.symm
      have e2 : ((nb : Int) == (bn : Int)) = false := ne_eq (fun h => hnb (by omega))
      go_wp2
      go_ret2
      exact ⟨none, by rw [← HER3.out]; rfl, fun e => absurd (HER3.out.trans e) (by decide), HBV.out.trans (HB6.out.mono HBV.out.size)⟩
  · have h70 : (70 : Int) = ce := by rw [← HCE.out, if_neg hok]
    subst h70
    have HER2 : Hid (70 = er) := hide (by rw [← HER.out]; unfold taskC; rw [if_neg hok])
    clear hok HER HCE
    go_wp2
    go_ret2
    exact ⟨none, by rw [← HER2.out]; rfl, fun e => absurd (HER2.out.trans e) (by decide), HBV.out.trans (HB4.out.mono HBV.out.size)⟩
end Go.Proofs.YtlfipmieaabagaaGreat
