/-
  GuardNever walked: whatever comes, not both believe. The condition: that the moves lie there.
-/
import Derived.Test.YtegffdmlkbdcdaaGno
import Derived.Test.YtegffdmlkbdcdaaGnm
import Derived.Test.YtegffdmlkbdcdaaGdi
namespace Go.Proofs.Ytegffdmlkbdcdaa
open Go.ChangeShapes Go.WideShapes Go.ChangeAt Go.RowKit

theorem rnew_any {W : World} : Calls Try.prog 17 #[] W fun e w' => e = .returned (LE.val ⟨-1, -1, 0, 0, 0, false⟩) ∧ Below W.heap.size W w' := by
  go_enter Try.func17, Try.ntmps17
  go_wp2
  refine bodyPost_ret (results_cell_row rfl _ _ W.heap.size 39 _ _ _ rfl (heap_alloc_new W _) Try.underlying39 rfl (by kernel_rfl)) rfl ?_
  exact ⟨rfl, alloc_belowL _ _⟩
theorem inv0 : INV ⟨⟨⟨0, 0, 0, 0, 0, 0⟩, 0, 0, false, fun _ => (0, 0)⟩, ⟨⟨0, 0, 0, 0, 0, 0⟩, 0, 0, false, fun _ => (0, 0)⟩, ⟨-1, -1, 0, 0, 0, false⟩, [], 0⟩ := by
  have e : RI 0 ⟨⟨0, 0, 0, 0, 0, 0⟩, 0, 0, false, fun _ => (0, 0)⟩ ⟨-1, -1, 0, 0, 0, false⟩ [] 0 ∧ RI 1 ⟨⟨0, 0, 0, 0, 0, 0⟩, 0, 0, false, fun _ => (0, 0)⟩ ⟨-1, -1, 0, 0, 0, false⟩ [] 0 := by
    constructor <;> exact ⟨by decide, (fun x h => by cases h), (fun x h => by cases h), (fun x h => by cases h), (fun x h => by cases h), (fun x h => by cases h), Int.le_refl _, fun h => absurd rfl h, ⟨by decide, by decide, by decide, by decide⟩, fun h => absurd rfl h⟩
  exact ⟨e.1, e.2, (fun x h => by cases h), by decide, rfl, rfl, by decide⟩
theorem bad_lag {R : RG} {ck : Int} (h : badC R ck = false) (hh : R.had = true) (hb : belG R.g = true) : ck - R.a - (R.g.ck - R.b) ≤ 4 := by
  unfold badC at h
  rw [hh, hb, Bool.true_and, Bool.true_and] at h
  have := of_decide_eq_false h
  omega
theorem not_both {p : PL} (h : INV p) (hd : drC p = false) : ¬ (belG p.r0.g = true ∧ belG p.r1.g = true) := fun ⟨b0, b1⟩ => by
  unfold drC at hd
  rw [Bool.or_eq_false_iff] at hd
  have e0 := (bel_ok b0).2.1
  have e1 := (bel_ok b1).2.1
  exact h.not b0 b1 (bad_lag hd.1 (h.i0.hold e0).1 b0) (bad_lag hd.2 (h.i1.hold e1).1 b1)
/-- Ahead of the maps. -/
structure P0I (B : Nat) (W : World) (pB : Nat) (r : Array Value) (wd : World) : Prop where
  box : wd.heap[pB]? = some (.cells r 50 (0, 0))
  ge : B ≤ pB
  below : Below B W wd
/-- What the first rounds have made. -/
def MkI (B : Nat) (W : World) (pB : Nat) (z : Int) (wd : World) : Prop :=
  (z = 0 ∧ P0I B W pB #[.int .i64 0, .int .i64 0, .int .i64 0, .int .i64 0, .int .i64 0, .int .i64 0, .int .i64 0, .int .i64 0, .int .i64 0, .int .i64 0, .int .i64 0, .int .i64 0, .int .i64 (-1), .int .i64 (-1), .int .i64 0, .int .i64 0, .int .i64 0, .bool false, .slice none 0 0, .int .i64 0, .map none, .map none, .int .i64 0, .int .i64 0, .int .i64 0, .int .i64 0, .bool false, .bool false] wd) ∨ (z = 1 ∧ ∃ mA, P0I B W pB #[.int .i64 0, .int .i64 0, .int .i64 0, .int .i64 0, .int .i64 0, .int .i64 0, .int .i64 0, .int .i64 0, .int .i64 0, .int .i64 0, .int .i64 0, .int .i64 0, .int .i64 (-1), .int .i64 (-1), .int .i64 0, .int .i64 0, .int .i64 0, .bool false, .slice none 0 0, .int .i64 0, .map (some mA), .map none, .int .i64 0, .int .i64 0, .int .i64 0, .int .i64 0, .bool false, .bool false] wd ∧ MapF wd mA 0 (fun _ => (0, 0)) ∧ B ≤ mA) ∨
  (z = 2 ∧ ∃ mA mB, PRep B W pB mA mB 0 ⟨⟨⟨0, 0, 0, 0, 0, 0⟩, 0, 0, false, fun _ => (0, 0)⟩, ⟨⟨0, 0, 0, 0, 0, 0⟩, 0, 0, false, fun _ => (0, 0)⟩, ⟨-1, -1, 0, 0, 0, false⟩, [], 0⟩ none 0 wd)
/-- What a round keeps. -/
structure NvI (B : Nat) (W : World) (pB mA mB k : Nat) (p : PL) (wd : World) : Prop where
  rep : ∃ sp cap, PRep B W pB mA mB k p sp cap wd
  inv : INV p
  len : p.bag.length ≤ k
  ck : p.ck ≤ 15 * k
set_option maxRecDepth 100000 in
set_option maxHeartbeats 16000000 in
theorem never_walk {W : World} {lp : Option Addr} {lc n0 : Nat} {os : List MV} (hrow : MRow W lp lc os) (hn : os.length = n0) :
    Calls Try.prog 5 #[.slice lp n0 lc] W fun e w' => e = .returned (.bool true) ∧ Below W.heap.size W w' := by
  have i1 := hrow.le
  have i2 := hrow.top
  rw [hn] at i1
  have HROW := hide hrow
  have HN := hide hn
  clear hrow hn
  obtain ⟨B, hB⟩ : ∃ B, W.heap.size = B := ⟨_, rfl⟩
  have HBB := hide hB
  rw [hB]
  clear hB
  go_enter Try.func5, Try.ntmps5
  go_wp2_with fail
  refine begun_any.mono ?_
  rintro _ w1 ⟨rfl, b1⟩
  rw [HBB.out] at b1
  have hz1 : B ≤ w1.heap.size := by have := b1.size; have := HBB.out; omega
  have HB1 := hide b1
  clear b1
  go_wp2_with fail
  refine rnew_any.mono ?_
  simp only [LE.val, LE.row]
  rintro _ w2 ⟨rfl, b2⟩
  have hz2 : B ≤ w2.heap.size := by have := b2.size; omega
  have HB2 := hide (below_next HB1.out b2 hz1)
  clear b2 HB1 hz1
  go_upto_region 4 with fail
  obtain ⟨X, hX⟩ : ∃ X, X = w2.alloc (.cells #[.int .i64 0, .int .i64 0, .int .i64 0, .int .i64 0, .int .i64 0, .int .i64 0, .int .i64 0, .int .i64 0, .int .i64 0, .int .i64 0, .int .i64 0, .int .i64 0, .int .i64 (-1), .int .i64 (-1), .int .i64 0, .int .i64 0, .int .i64 0, .bool false, .slice none 0 0, .int .i64 0, .map none, .map none, .int .i64 0, .int .i64 0, .int .i64 0, .int .i64 0, .bool false, .bool false] 50 (0, 0)) := ⟨_, rfl⟩
  rw [← hX]
  obtain ⟨c1, c2, c3⟩ := alloc_boxG HB2.out hz2 (.cells #[.int .i64 0, .int .i64 0, .int .i64 0, .int .i64 0, .int .i64 0, .int .i64 0, .int .i64 0, .int .i64 0, .int .i64 0, .int .i64 0, .int .i64 0, .int .i64 0, .int .i64 (-1), .int .i64 (-1), .int .i64 0, .int .i64 0, .int .i64 0, .bool false, .slice none 0 0, .int .i64 0, .map none, .map none, .int .i64 0, .int .i64 0, .int .i64 0, .int .i64 0, .bool false, .bool false] 50 (0, 0))
  rw [← hX] at c1 c2
  obtain ⟨pB, hpB⟩ : ∃ pB, w2.heap.size = pB := ⟨_, rfl⟩
  rw [hpB] at c2
  try rw [hpB]
  have HI0 : Hid (MkI B W pB 0 X) := hide (.inl ⟨rfl, c2, by omega, c1⟩)
  clear c1 c2 c3 hX hpB HB2 hz2
  go_wp2_with fail
  go_loopw [4, 12] (fun _ i wr => ∃ (z : Int), (z = 0 ∨ z = 1 ∨ z = 2) ∧ i = .int .i64 z ∧ Hid (MkI B W pB z wr)) (fun _ i _ => 2 - (intOf i).toNat)
  case atStart => exact ⟨0, .inl rfl, rfl, HI0⟩
  case round =>
    obtain ⟨z, hz, rfl, HI⟩ := hrel
    clear HI0
    rcases hz with rfl | rfl | rfl
    · have hI : P0I B W pB #[.int .i64 0, .int .i64 0, .int .i64 0, .int .i64 0, .int .i64 0, .int .i64 0, .int .i64 0, .int .i64 0, .int .i64 0, .int .i64 0, .int .i64 0, .int .i64 0, .int .i64 (-1), .int .i64 (-1), .int .i64 0, .int .i64 0, .int .i64 0, .bool false, .slice none 0 0, .int .i64 0, .map none, .map none, .int .i64 0, .int .i64 0, .int .i64 0, .int .i64 0, .bool false, .bool false] wr := by
        rcases HI.out with h | h | h
        · exact h.2
        · exact absurd h.1 (by decide)
        · exact absurd h.1 (by decide)
      have u20 := cellB (i := 20) (v := .map none) hI.box rfl
      have hmk := run_mkmapM wr
      have bM := alloc_below wr (.map #[] 0)
      have um20 := cellB (i := 20) (v := .map none) (below_box bM hI.box) rfl
      have zm20 := frB (i := 20) (below_box bM hI.box)
      have HN1 : Hid (MkI B W pB 1 ((wr.alloc (.map #[] 0)).setCell ⟨pB, 20, none⟩ (.map (some wr.heap.size)))) := hide (by
        have ho : Only (· = pB) (wr.alloc (.map #[] 0)) ((wr.alloc (.map #[] 0)).setCell ⟨pB, 20, none⟩ (.map (some wr.heap.size))) := Only.set _ pB 20 _ rfl
        have hb := below_box bM hI.box
        have hlt := box_lt hI.box
        refine .inr (.inl ⟨rfl, wr.heap.size, ⟨heap_set_sameL hb 20 _, hI.ge, (below_next hI.below bM (by have := hI.ge; omega)).trans (ho.below (by have := hI.ge; have := box_lt hb; omega) (fun i e => by have e' : i = pB := e; have := hI.ge; omega))⟩, (MapF.made wr).only ho (by omega), by have := hI.ge; omega⟩))
      clear hI HI bM
      go_wp2
      go_round
      case rel => exact ⟨1, by omega, rfl, HN1⟩
      case measure => simp [intOf]
    · obtain ⟨mA, hI, hM, hge⟩ : ∃ mA, P0I B W pB #[.int .i64 0, .int .i64 0, .int .i64 0, .int .i64 0, .int .i64 0, .int .i64 0, .int .i64 0, .int .i64 0, .int .i64 0, .int .i64 0, .int .i64 0, .int .i64 0, .int .i64 (-1), .int .i64 (-1), .int .i64 0, .int .i64 0, .int .i64 0, .bool false, .slice none 0 0, .int .i64 0, .map (some mA), .map none, .int .i64 0, .int .i64 0, .int .i64 0, .int .i64 0, .bool false, .bool false] wr ∧ MapF wr mA 0 (fun _ => (0, 0)) ∧ B ≤ mA := by
        rcases HI.out with h | h | h
        · exact absurd h.1 (by decide)
        · exact h.2
        · exact absurd h.1 (by decide)
      have u21 := cellB (i := 21) (v := .map none) hI.box rfl
      have hmk := run_mkmapM wr
      have bM := alloc_below wr (.map #[] 0)
      have um21 := cellB (i := 21) (v := .map none) (below_box bM hI.box) rfl
      have zm21 := frB (i := 21) (below_box bM hI.box)
      have HN1 : Hid (MkI B W pB 2 ((wr.alloc (.map #[] 0)).setCell ⟨pB, 21, none⟩ (.map (some wr.heap.size)))) := hide (by
        have ho : Only (· = pB) (wr.alloc (.map #[] 0)) ((wr.alloc (.map #[] 0)).setCell ⟨pB, 21, none⟩ (.map (some wr.heap.size))) := Only.set _ pB 21 _ rfl
        have hb := below_box bM hI.box
        have hlt := box_lt hI.box
        have hmlt := hM.lt
        refine .inr (.inr ⟨rfl, mA, wr.heap.size, ⟨heap_set_sameL hb 21 _, World.ownsRow_nil _ _ _ _, (hM.later bM).only ho (map_box hM hI.box), (MapF.made wr).only ho (by omega), ⟨by omega, hI.ge, hge, by have := hI.ge; omega⟩, (below_next hI.below bM (by have := hI.ge; omega)).trans (ho.below (by have := hI.ge; have := box_lt hb; omega) (fun i e => by have e' : i = pB := e; have := hI.ge; omega))⟩⟩))
      clear hI HI bM hM hge
      go_wp2
      go_round
      case rel => exact ⟨2, by omega, rfl, HN1⟩
      case measure => simp [intOf]
    · obtain ⟨mA, mB, hI⟩ : ∃ mA mB, PRep B W pB mA mB 0 ⟨⟨⟨0, 0, 0, 0, 0, 0⟩, 0, 0, false, fun _ => (0, 0)⟩, ⟨⟨0, 0, 0, 0, 0, 0⟩, 0, 0, false, fun _ => (0, 0)⟩, ⟨-1, -1, 0, 0, 0, false⟩, [], 0⟩ none 0 wr := by
        rcases HI.out with h | h | h
        · exact absurd h.1 (by decide)
        · exact absurd h.1 (by decide)
        · exact h.2
      have HNV0 : Hid (NvI B W pB mA mB 0 ⟨⟨⟨0, 0, 0, 0, 0, 0⟩, 0, 0, false, fun _ => (0, 0)⟩, ⟨⟨0, 0, 0, 0, 0, 0⟩, 0, 0, false, fun _ => (0, 0)⟩, ⟨-1, -1, 0, 0, 0, false⟩, [], 0⟩ wr) := hide ⟨⟨_, _, hI⟩, inv0, by decide, by decide⟩
      clear HI hI
      go_upto_region 9 with fail
      obtain ⟨N, hN1, hN2, hN3⟩ : ∃ N, N ≤ n0 ∧ N ≤ 400 ∧ (N = n0 ∨ N = 400) := by
        by_cases h : n0 ≤ 400
        · exact ⟨n0, Nat.le_refl _, h, .inl rfl⟩
        · exact ⟨400, by omega, Nat.le_refl _, .inr rfl⟩
      have c1 : (n0 : Int) ≤ (lc : Int) := by omega
      go_cut [26, 27, 28] from 12 to 28 (fun s26 s27 s28 wd => s26 = .slice lp N lc ∧ s27 = .int .i64 (N : Int) ∧ s28 = .int .i64 0 ∧ wd = wr)
      case first =>
        rcases hN3 with rfl | rfl
        · have c2 : ¬ (400 : Int) < (N : Int) := by omega
          have c3 : (N : Int) ≤ 400 := by omega
          go_wp2_with fail
          go_meet
          exact ⟨rfl, rfl, rfl, rfl⟩
        · have c3 : (400 : Int) ≤ (n0 : Int) := by omega
          have c4 : (400 : Int) ≤ (lc : Int) := by omega
          go_wp2_with fail
          all_goals (go_meet; first | exact ⟨rfl, rfl, rfl, rfl⟩ | (obtain rfl : n0 = 400 := (by omega); exact ⟨rfl, rfl, rfl, rfl⟩))
      case rest =>
      rename World => wq
      obtain ⟨rfl, rfl, rfl, rfl⟩ := hcut
      clear hN3
      go_wp2_with fail
      go_loopw [6, 28] (fun _ i wr => ∃ (k : Nat) (p : PL), k ≤ N ∧ i = .int .i64 (k : Int) ∧ Hid (NvI B W pB mA mB k p wr)) (fun _ i _ => N - (intOf i).toNat)
      case atStart => exact ⟨0, _, Nat.zero_le _, rfl, HNV0⟩
      case round =>
        obtain ⟨k, p, hk, rfl, HI⟩ := hrel
        clear HNV0
        by_cases hlt : k < N
        · have hlt2 : k < os.length := by rw [HN.out]; omega
          obtain ⟨⟨dd, dr, dn, dw, dt⟩, hx⟩ : ∃ x, os[k]! = x := ⟨_, rfl⟩
          obtain ⟨sp, cap, hR⟩ := HI.out.rep
          have bw2 := hR.below
          rw [← HBB.out] at bw2
          obtain ⟨g, oo, rfl, a0, a1, a2, a3, a4⟩ := MRow.at (LRow.below MV.len HROW.out bw2) hlt2 hx
          clear hx hlt2 bw2
          have HR := hide hR
          have HINV := hide HI.out.inv
          have HLEN := hide HI.out.len
          have HCK := hide HI.out.ck
          clear hR HI
          go_upto_region 12 with fail
          obtain ⟨X, hX⟩ : ∃ X, X = wr.alloc (.cells #[.int .i64 dd, .int .i64 dr, .int .i64 dn, .int .i64 dw, .bool dt] 52 (0, 0)) := ⟨_, rfl⟩
          rw [← hX]
          have bX : Below wr.heap.size wr X := by rw [hX]; exact alloc_below _ _
          obtain ⟨xB, hxB⟩ : ∃ xB, wr.heap.size = xB := ⟨_, rfl⟩
          have HX : Hid (X.heap[xB]? = some (.cells #[.int .i64 dd, .int .i64 dr, .int .i64 dn, .int .i64 dw, .bool dt] 52 (0, 0))) := hide (by rw [hX, ← hxB]; exact heap_alloc_new wr _)
          have HR1 := hide (HR.out.later bX)
          try rw [hxB]
          clear hX bX hxB HR a0 a1 a2 a3 a4
          obtain ⟨_, _, _, _, _, x0, x1, x2, x3, x4⟩ := five HX.out
          go_wp2_with fail
          refine (mov_any (p := p) (m := ⟨dd, dr, dn, dw, dt⟩) HR1.out HINV.out (by have := HLEN.out; omega) (by omega) (by have := HCK.out; omega)).mono ?_
          rintro _ w3 ⟨rfl, sp3, cap3, hR3⟩
          have hinv := inv_mov HINV.out (by have := HCK.out; omega) ⟨dd, dr, dn, dw, dt⟩
          have hlen := mov_len p ⟨dd, dr, dn, dw, dt⟩
          obtain ⟨q, hq⟩ : ∃ q, movC p ⟨dd, dr, dn, dw, dt⟩ = q := ⟨_, rfl⟩
          rw [hq] at hR3 hinv hlen
          have hl2 : q.bag.length ≤ k + 1 := by have := HLEN.out; omega
          have hc2 : q.ck ≤ 15 * (k + 1) := by have := HCK.out; omega
          clear hq hlen HLEN HCK HINV HR1 HX x0 x1 x2 x3 x4
          have hnb := not_both hinv
          obtain ⟨⟨⟨c0, c1, c2, c3, c4, c5⟩, a0, b0, h0, f0⟩, ⟨⟨d0, d1, d2, d3, d4, d5⟩, a1, b1, h1, f1⟩, ⟨l0, l1, l2, l3, l4, so⟩, bag, ck⟩ := q
          obtain ⟨dv, hdv⟩ : ∃ dv, drC ⟨⟨⟨c0, c1, c2, c3, c4, c5⟩, a0, b0, h0, f0⟩, ⟨⟨d0, d1, d2, d3, d4, d5⟩, a1, b1, h1, f1⟩, ⟨l0, l1, l2, l3, l4, so⟩, bag, ck⟩ = dv := ⟨_, rfl⟩
          have HDV := hide hdv
          have HR3 := hide hR3
          have HNEW : Hid (INV ⟨⟨⟨c0, c1, c2, c3, c4, c5⟩, a0, b0, h0, f0⟩, ⟨⟨d0, d1, d2, d3, d4, d5⟩, a1, b1, h1, f1⟩, ⟨l0, l1, l2, l3, l4, so⟩, bag, ck⟩) := hide hinv
          simp only at hl2 hc2
          have HL2 := hide hl2
          have HC2 := hide hc2
          have HNB := hide hnb
          clear hR3 hinv hl2 hc2 hnb hdv
          go_wp2_with fail
          refine (drifts_any HR3.out ⟨HNEW.out.i0.st, HNEW.out.i0.ok.1.2, by have := HC2.out; omega⟩ ⟨HNEW.out.i1.st, HNEW.out.i1.ok.1.2, by have := HC2.out; omega⟩).mono ?_
          rw [HDV.out]
          rintro _ w4 ⟨rfl, hR4⟩
          have HR4 := hide hR4
          clear hR4 HR3
          cases dv with
          | true =>
            have HBW := hide HR4.out.below
            go_wp2
            go_ret
            exact ⟨rfl, HBW.out⟩
          | false =>
            obtain ⟨e0, he0⟩ : ∃ e, belG ⟨c0, c1, c2, c3, c4, c5⟩ = e := ⟨_, rfl⟩
            obtain ⟨e1, he1⟩ : ∃ e, belG ⟨d0, d1, d2, d3, d4, d5⟩ = e := ⟨_, rfl⟩
            have hne : ¬ (e0 = true ∧ e1 = true) := fun h => HNB.out HDV.out ⟨he0.trans h.1, he1.trans h.2⟩
            have HE0 := hide he0
            have HE1 := hide he1
            clear he0 he1
            have u0 := cellB (i := 0) (v := .int .i64 c0) HR4.out.box rfl
            have u1 := cellB (i := 1) (v := .int .i64 c1) HR4.out.box rfl
            have u2 := cellB (i := 2) (v := .int .i64 c2) HR4.out.box rfl
            have u3 := cellB (i := 3) (v := .int .i64 c3) HR4.out.box rfl
            have u4 := cellB (i := 4) (v := .int .i64 c4) HR4.out.box rfl
            have u5 := cellB (i := 5) (v := .int .i64 c5) HR4.out.box rfl
            have u6 := cellB (i := 6) (v := .int .i64 d0) HR4.out.box rfl
            have u7 := cellB (i := 7) (v := .int .i64 d1) HR4.out.box rfl
            have u8 := cellB (i := 8) (v := .int .i64 d2) HR4.out.box rfl
            have u9 := cellB (i := 9) (v := .int .i64 d3) HR4.out.box rfl
            have u10 := cellB (i := 10) (v := .int .i64 d4) HR4.out.box rfl
            have u11 := cellB (i := 11) (v := .int .i64 d5) HR4.out.box rfl
            go_wp2_with fail
            refine bel_any.mono ?_
            rw [HE0.out]
            rintro _ w5 ⟨rfl, b5⟩
            have HR5 := hide (HR4.out.later b5)
            clear b5 HR4 u0 u1 u2 u3 u4 u5 u6 u7 u8 u9 u10 u11
            cases e0 with
            | false =>
              have HNX : Hid (NvI B W pB mA mB (k + 1) ⟨⟨⟨c0, c1, c2, c3, c4, c5⟩, a0, b0, h0, f0⟩, ⟨⟨d0, d1, d2, d3, d4, d5⟩, a1, b1, h1, f1⟩, ⟨l0, l1, l2, l3, l4, so⟩, bag, ck⟩ w5) := hide ⟨⟨sp3, cap3, HR5.out⟩, HNEW.out, HL2.out, by have := HC2.out; simp only; omega⟩
              clear hne
              go_wp2
              go_round
              case rel => exact ⟨k + 1, _, by omega, by first | rfl | go_num, HNX⟩
              case measure => simp [intOf]; omega
            | true =>
              have hf : e1 = false := by cases e1 with | false => rfl | true => exact absurd ⟨rfl, rfl⟩ hne
              subst hf
              clear hne
              have u6 := cellB (i := 6) (v := .int .i64 d0) HR5.out.box rfl
              have u7 := cellB (i := 7) (v := .int .i64 d1) HR5.out.box rfl
              have u8 := cellB (i := 8) (v := .int .i64 d2) HR5.out.box rfl
              have u9 := cellB (i := 9) (v := .int .i64 d3) HR5.out.box rfl
              have u10 := cellB (i := 10) (v := .int .i64 d4) HR5.out.box rfl
              have u11 := cellB (i := 11) (v := .int .i64 d5) HR5.out.box rfl
              go_wp2_with fail
              refine bel_any.mono ?_
              rw [HE1.out]
              rintro _ w6 ⟨rfl, b6⟩
              have HR6 := hide (HR5.out.later b6)
              clear b6 HR5 u6 u7 u8 u9 u10 u11
              have HNX : Hid (NvI B W pB mA mB (k + 1) ⟨⟨⟨c0, c1, c2, c3, c4, c5⟩, a0, b0, h0, f0⟩, ⟨⟨d0, d1, d2, d3, d4, d5⟩, a1, b1, h1, f1⟩, ⟨l0, l1, l2, l3, l4, so⟩, bag, ck⟩ w6) := hide ⟨⟨sp3, cap3, HR6.out⟩, HNEW.out, HL2.out, by have := HC2.out; simp only; omega⟩
              go_wp2
              go_round
              case rel => exact ⟨k + 1, _, by omega, by first | rfl | go_num, HNX⟩
              case measure => simp [intOf]; omega
        · obtain rfl : k = N := by omega
          have HBW : Hid (Below B W wr) := hide (by obtain ⟨_, _, h⟩ := HI.out.rep; exact h.below)
          clear HI
          go_wp2
          go_ret
          exact ⟨rfl, HBW.out⟩
end Go.Proofs.Ytegffdmlkbdcdaa
