/-
  The program's Run of a graph that may be. The conditions: as for results.
-/
import Derived.Test.YtifldnpccgbnkaaGreatRfa
import Derived.Deep.RegionHeld3
namespace Go.Proofs.YtifldnpccgbnkaaGreat
open Go.RowKit Go.Shelf

set_option maxRecDepth 100000 in
set_option maxHeartbeats 8000000 in
theorem run_ok {rf : GO → List (List RC) → RS} {W : World} {parts : Int} {p q : Option Addr} {cap qc n L s f j : Nat} {os : List OV} {xs : List SV} {dn : List RS} (ho : GRow W p cap os) (hn : os.length = n) (hx : LL W q qc xs) (hL : xs.length = L) (hfa : faultC parts (os.map OV.o) L = 0) (hs : firstO sinkF (os.map OV.o) = some s) (hsn : s < n) (hil : 0 < (os[s]!).o.ins.length) (hin : (os[s]!).o.ins[0]! = ⟨(f : Int), (j : Int)⟩) (hfs : f < s) (hf : Fits rf ((os.take (f + 1)).map OV.o) (xs.map SV.rs) dn) (hj : j < (dn[f]!).ports.length) (hxs : ∀ x ∈ xs, x.rs.length ≤ lenB) :
    Calls Tryz.prog 4 #[.agg #[.int .i64 parts, .slice p n cap], .slice q L qc] W fun e w' => ∃ y : SV, e = .returned (.tuple #[.slice y.p y.rs.length y.c, .int .i64 0]) ∧ y.own w' W.heap.size ∧ y.rs = (dn[f]!).ports[j]! ∧ Below W.heap.size W w' := by
  obtain ⟨rsx, hrsx⟩ : ∃ rsx, (dn[f]!).ports[j]! = rsx := ⟨_, rfl⟩
  rw [hrsx]
  have HRX := hide hrsx
  clear hrsx
  have i1 := ho.le
  have i2 := ho.top
  rw [hn] at i1
  obtain ⟨V, hV⟩ : ∃ V, V = W.alloc (.cells #[.int .i64 parts, .slice p n cap] 24 (0, 0)) := ⟨_, rfl⟩
  have hbV : Below W.heap.size W V := by rw [hV]; exact alloc_below _ _
  have x0 : V.heap[W.heap.size]? = some (.cells #[.int .i64 parts, .slice p n cap] 24 (0, 0)) := by rw [hV]; exact heap_alloc_new _ _
  obtain ⟨gB, hgB⟩ : ∃ gB, W.heap.size = gB := ⟨_, rfl⟩
  rw [hgB] at x0
  have hfl := fault_any (parts := parts) (q := q) (qc := qc) (L := L) (ho.below hbV) hn
  rw [hfa] at hfl
  have HFL := hide hfl
  have HSI : Hid (∀ X, Below W.heap.size W X → Calls Tryz.prog 17 #[.agg #[.int .i64 parts, .slice p n cap]] X fun e w' => e = .returned (.tuple #[.int .i64 (s : Int), .bool true]) ∧ Below X.heap.size X w') := hide (fun X hX => by
    have h9 := sink_any (parts := parts) (ho.below hX)
    rw [hn, hs] at h9
    exact h9)
  have HRS : Hid (∀ X, Below W.heap.size W X → Calls Tryz.prog 18 #[.slice p (f + 1) cap, .slice q L qc] X fun e w' => ∃ db rv, e = .returned (.slice (some ⟨db, 0, none⟩) (f + 1) (f + 1)) ∧ DI w' X.heap.size db (f + 1) (f + 1) dn (flatC ((os.take (f + 1)).map OV.o)) rv ∧ Below X.heap.size X w') := hide (fun X hX =>
    results_any ((ho.below hX).take (by omega)) (by rw [List.length_take]; omega) (hx.later hX) hL hf hxs)
  have HOP : Hid (∀ X, Below W.heap.size W X → ∃ g o ip ic m g2 o2, p = some ⟨g, o, none⟩ ∧ X.cell? ⟨g, o + s * 5 + 4, none⟩ = some (.slice ip m ic) ∧ 0 < m ∧ m ≤ ic ∧ ic ≤ 9223372036854775807 ∧ ip = some ⟨g2, o2, none⟩ ∧ X.cell? ⟨g2, o2, none⟩ = some (.int .i64 (f : Int)) ∧ X.cell? ⟨g2, o2 + 1, none⟩ = some (.int .i64 (j : Int))) := hide (fun X hX => by
    have hr := ho.below hX
    obtain ⟨g, o, e, hc⟩ := hr.cell s (by omega)
    have hxm : os[s]! ∈ os := by rw [getElem!_pos os s (by omega)]; exact List.getElem_mem _
    have he := hr.ok _ hxm
    obtain ⟨g2, o2, e2, t0, t1⟩ := ERow.cell he 0 hil
    rw [hin] at t0 t1
    exact ⟨g, o, _, _, _, g2, o2, e, hc 4 (by decide), hil, he.le, he.top, e2, by simpa using t0, by simpa using t1⟩)
  have HBV := hide hbV
  have HX0 := hide x0
  have HNI : Hid ((⟨(f : Int), (j : Int)⟩ : GE) ∉ flatC ((os.take (f + 1)).map OV.o)) := by
    refine hide (fun hm => ?_)
    have h9 := ahead_not hf (n := f + 1) (k := f + 1) (i := f) (j := (j : Int)) (Nat.le_refl _) (by rw [List.length_map, List.length_take]; omega) (Nat.le_refl _)
    rw [List.take_of_length_le (by rw [List.length_map, List.length_take]; omega)] at h9
    exact h9 hm
  obtain ⟨g, o, ip, ic, m, g2, o2, rfl, _, _⟩ := HOP.out W (Below.refl _ _)
  have HGB := hide hgB
  clear ho hn hx hL hfa hs hil hin hf hxs hbV x0 hfl
  go_enter Tryz.func4, Tryz.ntmps4
  go_wp2_with fail
  rw [← hV]
  try rw [hgB]
  clear hV hgB
  refine HFL.out.mono ?_
  rintro _ w1 ⟨rfl, hB1⟩
  have hBW1 : Below W.heap.size W w1 := HBV.out.trans (hB1.mono HBV.out.size)
  have y1 := below_box hB1 HX0.out
  have a0 : w1.cell? ⟨gB, 0, none⟩ = some (.int .i64 parts) := by simp [World.cell?, y1]
  have a1 : w1.cell? ⟨gB, 1, none⟩ = some (.slice (some ⟨g, o, none⟩) n cap) := by simp [World.cell?, y1]
  have HS1 := hide (HSI.out w1 hBW1)
  have HBW1 := hide hBW1
  have HY1 := hide y1
  clear y1 hB1 hBW1 HFL
  go_wp2_with fail
  refine HS1.out.mono ?_
  rintro _ w2 ⟨rfl, hB2⟩
  have hBW2 : Below W.heap.size W w2 := HBW1.out.trans (hB2.mono HBW1.out.size)
  have y2 := below_box hB2 HY1.out
  have b1 : w2.cell? ⟨gB, 1, none⟩ = some (.slice (some ⟨g, o, none⟩) n cap) := by simp [World.cell?, y2]
  obtain ⟨g', o', ip', ic', m', g2', o2', e1, e2, e3, e4, e5, rfl, e7, e8⟩ := HOP.out w2 hBW2
  simp only [Option.some.injEq, Addr.mk.injEq, and_true] at e1
  obtain ⟨rfl, rfl⟩ := e1
  obtain ⟨w3, hw3⟩ : ∃ w3, w3 = w2.alloc (.cells #[.int .i64 (f : Int), .int .i64 (j : Int)] 52 (0, 0)) := ⟨_, rfl⟩
  have hb3 : Below w2.heap.size w2 w3 := by rw [hw3]; exact alloc_below _ _
  have y3 := below_box hb3 y2
  have z3 : w3.heap[w2.heap.size]? = some (.cells #[.int .i64 (f : Int), .int .i64 (j : Int)] 52 (0, 0)) := by rw [hw3]; exact heap_alloc_new _ _
  obtain ⟨eb, heb⟩ : ∃ eb, w2.heap.size = eb := ⟨_, rfl⟩
  rw [heb] at z3
  have c1 : w3.cell? ⟨gB, 1, none⟩ = some (.slice (some ⟨g, o, none⟩) n cap) := by simp [World.cell?, y3]
  have c2 : w3.cell? ⟨eb, 0, none⟩ = some (.int .i64 (f : Int)) := by simp [World.cell?, z3]
  have c3 : w3.cell? ⟨eb, 1, none⟩ = some (.int .i64 (j : Int)) := by simp [World.cell?, z3]
  have hBW3 : Below W.heap.size W w3 := hBW2.trans (hb3.mono hBW2.size)
  have HR3 := hide (HRS.out w3.drew ⟨hBW3.os, hBW3.tape, hBW3.output, hBW3.size, hBW3.block⟩)
  have HBW3 := hide hBW3
  have HZ3 := hide z3
  have hf1 : f + 1 ≤ cap := by omega
  have hf0 : (f : Int) < (f : Int) + 1 := by omega
  have hf2 : (f : Int) + 1 ≤ (cap : Int) := by omega
  have hf3 : (0 : Int) ≤ (f : Int) + 1 := by omega
  have hf4 : ((f : Int) + 1).toNat = f + 1 := by omega
  have hf5 : IntKind.i64.wrap ((f : Int) + 1) = (f : Int) + 1 := by rw [IntKind.wrap_i64]; omega
  clear y2 y3 z3 hB2 hBW2 hBW3 hb3 HS1 HSI HRS HOP
  go_upto_region 6 with fail
  rw [← hw3]
  try rw [heb]
  clear hw3 heb e2 e7 e8 b1
  refine wp_region_held_drew (S := fun w' => w'.cell? ⟨gB, 1, none⟩ = some (.slice (some ⟨g, o, none⟩) n cap) ∧ w'.cell? ⟨eb, 0, none⟩ = some (.int .i64 (f : Int)) ∧ w'.cell? ⟨eb, 1, none⟩ = some (.int .i64 (j : Int))) (by kernel_rfl) ⟨c1, c2, c3⟩ (fun hHeld => ?_)
  refine wpAnyH_take (i := 0) (oi := _) (v := ?_) rfl (by kernel_rfl) (by kernel_rfl) (by kernel_rfl) (fun _ _ _ h => h) (Or.inl ⟨by rfl, ?_⟩) (by assumption) ?_
  rotate_left
  · intro w hSw
    (try dsimp only at hSw)
    go_simp
    all_goals with_reducible rfl
  simp only [Act.put, List.setIfInBounds_toArray]
  refine wpAnyH_take (i := 1) (oi := _) (v := ?_) rfl (by kernel_rfl) (by kernel_rfl) (by kernel_rfl) (fun _ _ _ h => h) (Or.inl ⟨by rfl, ?_⟩) (by assumption) ?_
  rotate_left
  · intro w hSw
    (try dsimp only at hSw)
    go_simp
    all_goals with_reducible rfl
  simp only [Act.put]
  refine wpAnyH_take (i := 2) (oi := _) (v := ?_) rfl (by kernel_rfl) (by kernel_rfl) (by kernel_rfl) (fun _ _ _ h => h) (Or.inl ⟨by rfl, ?_⟩) (by assumption) ?_
  rotate_left
  · intro w hSw
    (try dsimp only at hSw)
    go_simp
    all_goals with_reducible rfl
  simp only [Act.put]
  refine wpAnyH_take (i := 3) (oi := _) (v := ?_) rfl (by kernel_rfl) (by kernel_rfl) (by kernel_rfl) (fun _ _ _ h => h) (Or.inl ⟨by rfl, ?_⟩) (by assumption) ?_
  rotate_left
  · intro w hSw
    (try dsimp only at hSw)
    go_simp
    all_goals with_reducible rfl
  simp only [Act.put]
  refine wpAnyH_take (i := 4) (oi := _) (v := ?_) rfl (by kernel_rfl) (by kernel_rfl) (by kernel_rfl) (fun _ _ _ h => h) (Or.inl ⟨by rfl, ?_⟩) (by assumption) ?_
  rotate_left
  · intro w hSw
    (try dsimp only at hSw)
    go_simp
    all_goals with_reducible rfl
  simp only [Act.put]
  refine wpAnyH_take (i := 5) (oi := _) (v := ?_) rfl (by kernel_rfl) (by kernel_rfl) (by kernel_rfl) (fun _ _ _ h => h) (Or.inl ⟨by rfl, ?_⟩) (by assumption) ?_
  rotate_left
  · intro w hSw
    (try dsimp only at hSw)
    go_simp
    all_goals with_reducible rfl
  simp only [Act.put]
  refine wpAnyH_take (i := 6) (oi := _) (v := ?_) rfl (by kernel_rfl) (by kernel_rfl) (by kernel_rfl) (fun _ _ _ h => h) (Or.inl ⟨by rfl, ?_⟩) (by assumption) ?_
  rotate_left
  · intro w hSw
    (try dsimp only at hSw)
    go_simp
    all_goals with_reducible rfl
  simp only [Act.put]
  refine wpAnyH_take (i := 8) (oi := _) (v := ?_) rfl (by kernel_rfl) (by kernel_rfl) (by kernel_rfl) (fun _ _ _ h => h) (Or.inl ⟨by rfl, ?_⟩) (by assumption) ?_
  rotate_left
  · intro w hSw
    (try dsimp only at hSw)
    go_simp
    all_goals with_reducible rfl
  simp only [Act.put]
  refine wpAnyH_take (i := 9) (oi := _) (v := ?_) rfl (by kernel_rfl) (by kernel_rfl) (by kernel_rfl) (fun _ _ _ h => h) (Or.inl ⟨by rfl, ?_⟩) (by assumption) ?_
  rotate_left
  · intro w hSw
    (try dsimp only at hSw)
    go_simp
    all_goals with_reducible rfl
  simp only [Act.put]
  refine wpAnyH_take (i := 13) (oi := _) (v := ?_) rfl (by kernel_rfl) (by kernel_rfl) (by kernel_rfl) (fun _ _ _ h => h) (Or.inl ⟨by rfl, ?_⟩) (by assumption) ?_
  rotate_left
  · intro w hSw
    (try dsimp only at hSw)
    go_simp
    all_goals with_reducible rfl
  simp only [Act.put]
  refine wpAnyH_take (i := 14) (oi := _) (v := ?_) rfl (by kernel_rfl) (by kernel_rfl) (by kernel_rfl) (fun _ _ _ h => h) (Or.inl ⟨by rfl, ?_⟩) (by assumption) ?_
  rotate_left
  · intro w hSw
    (try dsimp only at hSw)
    go_simp
    all_goals with_reducible rfl
  simp only [Act.put]
  refine wpAnyH_ready (rs := [7]) (by kernel_rfl) (by simp) ?_
  refine AllReadyH.cons (o := _) rfl (fun K hK => ?_) AllReadyH.nil
  go_simp
  refine HR3.out.mono ?_
  rintro _ w4 ⟨db, rv, rfl, hD, hB4⟩
  obtain ⟨y, pg, M, pc, N, k0, k1, k2, k3, k4, k5, k6, k7⟩ := hD.port (Nat.le_refl _) (Nat.lt_succ_self f) hj HNI.out
  have K4 := hide k4
  have K6 := hide k6
  have K7 := hide k7
  have HB4 := hide hB4
  clear hD k4 k6 k7 hB4
  go_wp2_with fail
  refine hK.out _ _ ⟨cell_later HB4.out c1, cell_later HB4.out c2, cell_later HB4.out c3⟩ (fun hHeld => ?_)
  clear hK
  refine wpAnyH_take (i := 10) (oi := _) (v := ?_) rfl (by kernel_rfl) (by kernel_rfl) (by kernel_rfl) (fun _ _ _ h => h) (Or.inl ⟨by rfl, ?_⟩) (by assumption) ?_
  rotate_left
  · intro w hSw
    (try dsimp only at hSw)
    go_simp
    all_goals with_reducible rfl
  simp only [Act.put, List.setIfInBounds_toArray]
  refine wpAnyH_take (i := 11) (oi := _) (v := ?_) rfl (by kernel_rfl) (by kernel_rfl) (by kernel_rfl) (fun _ _ _ h => h) (Or.inl ⟨by rfl, ?_⟩) (by assumption) ?_
  rotate_left
  · intro w hSw
    (try dsimp only at hSw)
    go_simp
    all_goals with_reducible rfl
  simp only [Act.put]
  refine wpAnyH_ready (rs := [12]) (by kernel_rfl) (by simp) ?_
  refine AllReadyH.cons (o := _) rfl (fun K hK => ?_) AllReadyH.nil
  go_simp
  refine hK.out _ _ hHeld (fun hHeld => ?_)
  clear hK
  refine wpAnyH_take (i := 15) (oi := _) (v := ?_) rfl (by kernel_rfl) (by kernel_rfl) (by kernel_rfl) (fun _ _ _ h => h) (Or.inl ⟨by rfl, ?_⟩) (by assumption) ?_
  rotate_left
  · intro w hSw
    (try dsimp only at hSw)
    go_simp
    all_goals with_reducible rfl
  simp only [Act.put, List.setIfInBounds_toArray]
  refine wpAnyH_ready (rs := [16]) (by kernel_rfl) (by simp) ?_
  refine AllReadyH.cons (o := _) rfl (fun K hK => ?_) AllReadyH.nil
  go_simp
  refine hK.out _ _ hHeld (fun hHeld => ?_)
  clear hK
  refine wpAnyH_ready (rs := [17]) (by kernel_rfl) (by simp) ?_
  refine AllReadyH.cons (o := _) rfl (fun K hK => ?_) AllReadyH.nil
  go_simp
  refine hK.out _ _ hHeld (fun hHeld => ?_)
  clear hK
  refine wpAnyH_ready (rs := [18]) (by kernel_rfl) (by simp) ?_
  refine AllReadyH.cons (o := _) rfl (fun K hK => ?_) AllReadyH.nil
  go_simp
  refine hK.out _ _ hHeld (fun hHeld => ?_)
  clear hK
  refine wpAnyH_done (by kernel_rfl) ?_ _
  have HBF : Hid (Below W.heap.size W w4) := hide (HBW3.out.trans ((below_undrew HB4.out).mono HBW3.out.size))
  have HYO : Hid (y.own w4 W.heap.size) := hide (K6.out.base HBW3.out.size)
  go_wp2
  go_ret2
  exact ⟨y, by rw [K4.out]; rfl, HYO.out, by rw [K7.out, HRX.out], HBF.out⟩
end Go.Proofs.YtifldnpccgbnkaaGreat
