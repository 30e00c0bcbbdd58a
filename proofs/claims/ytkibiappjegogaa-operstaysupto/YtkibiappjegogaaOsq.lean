/-
  Step of an operator that keeps nothing. The conditions: lengths, numbers of their types.
-/
import Derived.Test.YtkibiappjegogaaOcl
namespace Go.Proofs.Ytkibiappjegogaa
open Go.RowKit

set_option maxRecDepth 100000 in
set_option maxHeartbeats 4000000 in
theorem step_pass {W : World} {kd pt fn ar tn ky vl : Int} {ip p : Option Addr} {n0 ic n c : Nat} {ks : List KS} (hkp : keepsC kd = false) (h : KRow W p c ks) (hn : ks.length = n) (hb : n * 24 ≤ 140737488355328) (hky : I6 ky) (hvl : I6 vl) (har : I6 ar) :
    Calls Try.prog 9 #[.agg #[.int .i64 kd, .int .i64 pt, .int .i64 fn, .int .i64 ar, .slice ip n0 ic], .agg #[.slice p n c, .int .i64 tn], .agg #[.int .i64 ky, .int .i64 vl]] W fun e w' => ∃ pk ck po co N, e = .returned (.tuple #[.agg #[.slice pk n ck, .int .i64 tn], .slice po N co]) ∧ (passC kd fn ar ky vl).length = N ∧ w'.ownsRow W.heap.size 51 3 (.slice pk n ck) n (ks.flatMap KS.cells) ∧ w'.ownsRow W.heap.size 43 3 (.slice po N co) N ((passC kd fn ar ky vl).flatMap PU.cells) ∧ Below W.heap.size W w' := by
  have HKY := hide hky
  have HVL := hide hvl
  have HAR := hide har
  clear hky hvl har
  obtain ⟨V1, hV1⟩ : ∃ V, V = W.alloc (.cells #[.int .i64 kd, .int .i64 pt, .int .i64 fn, .int .i64 ar, .slice ip n0 ic] 35 (0, 0)) := ⟨_, rfl⟩
  obtain ⟨V2, hV2⟩ : ∃ V, V = V1.alloc (.cells #[.slice p n c, .int .i64 tn] 28 (0, 0)) := ⟨_, rfl⟩
  obtain ⟨V3, hV3⟩ : ∃ V, V = V2.alloc (.cells #[.int .i64 ky, .int .i64 vl] 38 (0, 0)) := ⟨_, rfl⟩
  obtain ⟨V, hV⟩ : ∃ V, V = V3.alloc (.cells #[.slice none 0 0, .int .i64 0] 28 (0, 0)) := ⟨_, rfl⟩
  obtain ⟨oB, hoB⟩ : ∃ oB, W.heap.size = oB := ⟨_, rfl⟩
  obtain ⟨sB, hsB⟩ : ∃ sB, oB + 1 = sB := ⟨_, rfl⟩
  obtain ⟨rB, hrB⟩ : ∃ rB, sB + 1 = rB := ⟨_, rfl⟩
  obtain ⟨tB, htB⟩ : ∃ tB, rB + 1 = tB := ⟨_, rfl⟩
  have s1 : V1.heap.size = sB := by rw [hV1, ← hsB, ← hoB]; simp
  have s2 : V2.heap.size = rB := by rw [hV2]; simp [s1, hrB]
  have s3 : V3.heap.size = tB := by rw [hV3]; simp [s2, htB]
  have s4 : V.heap.size = tB + 1 := by rw [hV]; simp [s3]
  have HWO : Hid (W.heap.size = oB) := hide hoB
  have b1 : Below W.heap.size W V1 := by rw [hV1]; exact alloc_below _ _
  have b2 : Below V1.heap.size V1 V2 := by rw [hV2]; exact alloc_below _ _
  have b3 : Below V2.heap.size V2 V3 := by rw [hV3]; exact alloc_below _ _
  have b4 : Below V3.heap.size V3 V := by rw [hV]; exact alloc_below _ _
  have u1 : V1.heap[oB]? = some (.cells #[.int .i64 kd, .int .i64 pt, .int .i64 fn, .int .i64 ar, .slice ip n0 ic] 35 (0, 0)) := by rw [hV1, ← hoB]; exact heap_alloc_new W _
  have u2 : V2.heap[sB]? = some (.cells #[.slice p n c, .int .i64 tn] 28 (0, 0)) := by rw [hV2, ← s1]; exact heap_alloc_new V1 _
  have u3 : V3.heap[rB]? = some (.cells #[.int .i64 ky, .int .i64 vl] 38 (0, 0)) := by rw [hV3, ← s2]; exact heap_alloc_new V2 _
  have u4 : V.heap[tB]? = some (.cells #[.slice none 0 0, .int .i64 0] 28 (0, 0)) := by rw [hV, ← s3]; exact heap_alloc_new V3 _
  have bV : Below W.heap.size W V := ((b1.trans (b2.mono (by omega))).trans (b3.mono (by omega))).trans (b4.mono (by omega))
  have HFR : Hid (∀ X, Below V.heap.size V X → Fr X oB sB rB tB kd pt fn ar ip n0 ic p n c tn ky vl) := hide (fun X hX => ⟨below_box hX (below_box b4 (below_box b3 (below_box b2 u1))), below_box hX (below_box b4 (below_box b3 u2)), below_box hX (below_box b4 u3), below_box hX u4⟩)
  have HK := hide (h.later bV)
  have HN0 := hide hn
  have HBW := hide bV
  have HKP := hide hkp
  have hF0 := HFR.out V (Below.refl _ _)
  have x0 : V.cell? ⟨oB, 0, none⟩ = some (.int .i64 kd) := by simp [World.cell?, hF0.o]
  have x1 : V.cell? ⟨oB, 1, none⟩ = some (.int .i64 pt) := by simp [World.cell?, hF0.o]
  have x2 : V.cell? ⟨oB, 2, none⟩ = some (.int .i64 fn) := by simp [World.cell?, hF0.o]
  have x3 : V.cell? ⟨oB, 3, none⟩ = some (.int .i64 ar) := by simp [World.cell?, hF0.o]
  have x4 : V.cell? ⟨oB, 4, none⟩ = some (.slice ip n0 ic) := by simp [World.cell?, hF0.o]
  clear h hn bV hkp b1 b2 b3 b4 u1 u2 u3 u4 hF0
  go_enter Try.func9, Try.ntmps9
  go_upto_region 1 with fail
  rw [← hV1, ← hV2, ← hV3, ← hV]
  try rw [hoB]
  try rw [hsB]
  try rw [hrB]
  try rw [htB]
  have hl1 : oB < sB := by omega
  have hl2 : sB < rB := by omega
  have hl3 : rB < tB := by omega
  clear hV1 hV2 hV3 hV hoB s1 s2 s3 hsB hrB htB
  go_wp2_with fail
  refine keeps_any.mono ?_
  rw [HKP.out]
  rintro _ w1 ⟨rfl, b1⟩
  have HB1 := hide b1
  clear b1 x0 x1 x2 x3 x4
  go_upto_region 2 with fail
  have B0 : Below w1.heap.size w1 w1.drew := (Below.refl _ w1).drew
  have HFX := hide (fun (X : World) (hX : Below w1.heap.size w1 X) => HFR.out X (HB1.out.trans (hX.mono HB1.out.size)))
  have HSS : Hid (∀ X, Below w1.heap.size w1 X → (((X.cell? ⟨oB, 0, none⟩ = some (.int .i64 kd) ∧ X.cell? ⟨oB, 1, none⟩ = some (.int .i64 pt)) ∧ X.cell? ⟨oB, 2, none⟩ = some (.int .i64 fn) ∧ X.cell? ⟨oB, 3, none⟩ = some (.int .i64 ar)) ∧ X.cell? ⟨oB, 4, none⟩ = some (.slice ip n0 ic)) ∧ (X.cell? ⟨sB, 0, none⟩ = some (.slice p n c) ∧ X.cell? ⟨sB, 1, none⟩ = some (.int .i64 tn)) ∧ X.cell? ⟨rB, 0, none⟩ = some (.int .i64 ky) ∧ X.cell? ⟨rB, 1, none⟩ = some (.int .i64 vl)) := hide (fun X hX => by
    have f := HFX.out X hX
    refine ⟨⟨⟨⟨?_, ?_⟩, ?_, ?_⟩, ?_⟩, ⟨?_, ?_⟩, ?_, ?_⟩ <;> simp [World.cell?, f.o, f.s, f.r])
  have HST : Hid (∀ (X : World) (v1 v2 : Value), ((((X.cell? ⟨oB, 0, none⟩ = some (.int .i64 kd) ∧ X.cell? ⟨oB, 1, none⟩ = some (.int .i64 pt)) ∧ X.cell? ⟨oB, 2, none⟩ = some (.int .i64 fn) ∧ X.cell? ⟨oB, 3, none⟩ = some (.int .i64 ar)) ∧ X.cell? ⟨oB, 4, none⟩ = some (.slice ip n0 ic)) ∧ (X.cell? ⟨sB, 0, none⟩ = some (.slice p n c) ∧ X.cell? ⟨sB, 1, none⟩ = some (.int .i64 tn)) ∧ X.cell? ⟨rB, 0, none⟩ = some (.int .i64 ky) ∧ X.cell? ⟨rB, 1, none⟩ = some (.int .i64 vl)) → ((((((X.setCell ⟨tB, 0, none⟩ v1).setCell ⟨tB, 1, none⟩ v2).cell? ⟨oB, 0, none⟩ = some (.int .i64 kd) ∧ ((X.setCell ⟨tB, 0, none⟩ v1).setCell ⟨tB, 1, none⟩ v2).cell? ⟨oB, 1, none⟩ = some (.int .i64 pt)) ∧ ((X.setCell ⟨tB, 0, none⟩ v1).setCell ⟨tB, 1, none⟩ v2).cell? ⟨oB, 2, none⟩ = some (.int .i64 fn) ∧ ((X.setCell ⟨tB, 0, none⟩ v1).setCell ⟨tB, 1, none⟩ v2).cell? ⟨oB, 3, none⟩ = some (.int .i64 ar)) ∧ ((X.setCell ⟨tB, 0, none⟩ v1).setCell ⟨tB, 1, none⟩ v2).cell? ⟨oB, 4, none⟩ = some (.slice ip n0 ic)) ∧ (((X.setCell ⟨tB, 0, none⟩ v1).setCell ⟨tB, 1, none⟩ v2).cell? ⟨sB, 0, none⟩ = some (.slice p n c) ∧ ((X.setCell ⟨tB, 0, none⟩ v1).setCell ⟨tB, 1, none⟩ v2).cell? ⟨sB, 1, none⟩ = some (.int .i64 tn)) ∧ ((X.setCell ⟨tB, 0, none⟩ v1).setCell ⟨tB, 1, none⟩ v2).cell? ⟨rB, 0, none⟩ = some (.int .i64 ky) ∧ ((X.setCell ⟨tB, 0, none⟩ v1).setCell ⟨tB, 1, none⟩ v2).cell? ⟨rB, 1, none⟩ = some (.int .i64 vl))) := hide (fun X v1 v2 ⟨⟨⟨⟨o0, o1⟩, o2, o3⟩, o4⟩, ⟨t0, t1⟩, z0, z1⟩ => by
    have hO := (Only.set (F := (· = tB)) X tB 0 v1 rfl).trans (Only.set (F := (· = tB)) _ tB 1 v2 rfl)
    have n1 : ¬ (fun i => i = tB) oB := by show ¬ oB = tB; omega
    have n2 : ¬ (fun i => i = tB) sB := by show ¬ sB = tB; omega
    have n3 : ¬ (fun i => i = tB) rB := by show ¬ rB = tB; omega
    exact ⟨⟨⟨⟨hO.cell o0 n1, hO.cell o1 n1⟩, hO.cell o2 n1, hO.cell o3 n1⟩, hO.cell o4 n1⟩, ⟨hO.cell t0 n2, hO.cell t1 n2⟩, hO.cell z0 n3, hO.cell z1 n3⟩)
  obtain ⟨⟨⟨⟨o0, o1⟩, o2, o3⟩, o4⟩, ⟨t0, t1⟩, z0, z1⟩ := HSS.out _ B0
  obtain ⟨PS, hPS⟩ : ∃ PS, passC kd fn ar ky vl = PS := ⟨_, rfl⟩
  obtain ⟨N, hN⟩ : ∃ N, PS.length = N := ⟨_, rfl⟩
  have HPP : Hid (∀ X, Calls Try.prog 21 #[.slice none 0 0, .agg #[.int .i64 kd, .int .i64 pt, .int .i64 fn, .int .i64 ar, .slice ip n0 ic], .agg #[.int .i64 ky, .int .i64 vl]] X fun e w' => ∃ p' c', e = .returned (.slice p' N c') ∧ w'.ownsRow X.heap.size 43 3 (.slice p' N c') N (PS.flatMap PU.cells) ∧ Below X.heap.size X w') := by
    refine hide (fun X => ?_)
    have h1 := pass_any (W := X) (base := X.heap.size) (pt := pt) (ip := ip) (n := n0) (ic := ic) (fn := fn) (kd := kd) (xs := []) HKY.out HVL.out HAR.out (World.ownsRow_nil _ _ _ _) (Nat.le_refl _) (by decide)
    simp only [Nat.zero_add, List.nil_append, hPS, hN] at h1
    refine h1.mono ?_
    rintro e w' ⟨p', c', he, o', y'⟩
    exact ⟨p', c', he, o', y'.below (Nat.le_refl _) (fun i e => by simp [Value.ownBlock] at e)⟩
  have HPS := hide hPS
  have HN := hide hN
  clear hPS hN
  go_region_held3 (fun w' => (((w'.cell? ⟨oB, 0, none⟩ = some (.int .i64 kd) ∧ w'.cell? ⟨oB, 1, none⟩ = some (.int .i64 pt)) ∧ w'.cell? ⟨oB, 2, none⟩ = some (.int .i64 fn) ∧ w'.cell? ⟨oB, 3, none⟩ = some (.int .i64 ar)) ∧ w'.cell? ⟨oB, 4, none⟩ = some (.slice ip n0 ic)) ∧ (w'.cell? ⟨sB, 0, none⟩ = some (.slice p n c) ∧ w'.cell? ⟨sB, 1, none⟩ = some (.int .i64 tn)) ∧ w'.cell? ⟨rB, 0, none⟩ = some (.int .i64 ky) ∧ w'.cell? ⟨rB, 1, none⟩ = some (.int .i64 vl)) (first | (exact HST.out _ _ _ ⟨⟨⟨⟨o0, o1⟩, o2, o3⟩, o4⟩, ⟨t0, t1⟩, z0, z1⟩) | go_keep)
    (first
      | (go_at_call 21; refine (HPP.out _).mono ?_; rintro _ w9 ⟨pu, cu, rfl, o9, y9⟩; have D9 := D8.trans (y9.mono D8.size); have ht9 := (HFX.out _ D9).t; have f9 : w9.frozen? ⟨tB, 0, none⟩ = false := (by simp [World.frozen?, ht9]); have f9b : w9.frozen? ⟨tB, 1, none⟩ = false := (by simp [World.frozen?, ht9]); have c9 : w9.cell? ⟨tB, 0, none⟩ = some (.slice none 0 0) := (by simp [World.cell?, ht9]); have c9b : w9.cell? ⟨tB, 1, none⟩ = some (.int .i64 0) := (by simp [World.cell?, ht9]); have HT9 := hide ht9; have HO9 := hide o9; have HY9 := hide y9; have HD9 := hide D9; obtain ⟨⟨⟨⟨o0, o1⟩, o2, o3⟩, o4⟩, ⟨t0, t1⟩, z0, z1⟩ := HSS.out _ D9; clear o9 y9 ht9)
      | (go_at_call 20; refine (oclone_any ((HK.out.later HB1.out).later B0) HN0.out hb).mono ?_; rintro _ w8 ⟨pk, ck, rfl, o8, y8⟩; have D8 := B0.trans (y8.mono B0.size); have HO8 := hide o8; obtain ⟨⟨⟨⟨o0, o1⟩, o2, o3⟩, o4⟩, ⟨t0, t1⟩, z0, z1⟩ := HSS.out _ D8; clear o8 y8))
  all_goals
    have hE := heap_setS (heap_setS HT9.out 0 (.slice pk n ck)) 1 (.int .i64 tn)
    have hO9 : Only (· = tB) w9 ((w9.setCell ⟨tB, 0, none⟩ (.slice pk n ck)).setCell ⟨tB, 1, none⟩ (.int .i64 tn)) := (Only.set (F := (· = tB)) w9 tB 0 _ rfl).trans (Only.set (F := (· = tB)) _ tB 1 _ rfl)
    have hsz8 := D8.size
    have hsz1 := HB1.out.size
    have HE := hide hE
    have HKF := hide (ownsRow_only (ownsRow_later HO8.out HY9.out) hO9 (fun b hb e => by have e' : b = tB := e; have h9 : w1.heap.size ≤ b := own_block_base HO8.out hb; omega))
    have HOF := hide (ownsRow_only HO9.out hO9 (fun b hb e => by have e' : b = tB := e; have := own_block_base HO9.out hb; omega))
    have hwv : W.heap.size ≤ w1.heap.size := Nat.le_trans HBW.out.size hsz1
    have HBF : Hid (Below W.heap.size W ((w9.setCell ⟨tB, 0, none⟩ (.slice pk n ck)).setCell ⟨tB, 1, none⟩ (.int .i64 tn))) := hide (((HBW.out.trans (HB1.out.mono HBW.out.size)).trans (HD9.out.mono hwv)).trans (hO9.below (Nat.le_trans hwv HD9.out.size) (fun b e => by have e' : b = tB := e; have := HWO.out; omega)))
    clear hE hO9 o0 o1 o2 o3 o4 t0 t1 z0 z1
    go_wp2
    refine bodyPost_ret (results_cell_bool rfl _ _ tB 28 _ _ _ rfl HE.out Try.underlying28 rfl (by kernel_rfl)) rfl ?_
    exact ⟨pk, ck, pu, cu, N, rfl, by rw [HPS.out]; exact HN.out, ownsRow_base HKF.out hwv, by rw [HPS.out]; exact ownsRow_base HOF.out (Nat.le_trans hwv hsz8), HBF.out⟩
end Go.Proofs.Ytkibiappjegogaa
