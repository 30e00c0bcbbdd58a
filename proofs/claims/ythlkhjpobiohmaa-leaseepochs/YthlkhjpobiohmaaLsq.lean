/-
  LeaseEpochs walked: each lease that is granted has a greater epoch than all ahead of it, and under one epoch just one region was ever granted, renewed, or allowed to act alone. The condition: that what is asked lies there.
-/
import Derived.Test.YthlkhjpobiohmaaLsp
namespace Go.Proofs.Ythlkhjpobiohmaa
open Go.ChangeShapes Go.WideShapes Go.ChangeAt Go.RowKit

theorem wf_i64 {n : Int} (h0 : 0 ≤ n) (h1 : n ≤ 9007199254740992) : (Lit.int .i64 n).wf = true := by simp [Lit.wf, IntKind.min, IntKind.max, IntKind.signed, IntKind.bits]; omega
theorem run_mkmapL (w : World) : (Instr.makeMap 42 none).run Try.prog w = .ok (.map (some w.heap.size)) (w.alloc (.map #[] 0)) := by
  simp [Instr.makeMap, Result.andThen]
def MapI (w : World) (mB n : Nat) (l : LE) : Prop := ∃ D : DataW Unit, w.ownsMap Try.prog 2 (plainElem Try.prog 3) mB n D ∧ (l.own ≠ -1 → Maps.has D (.int .i64 l.ep) = true ∧ D.atKey (.int .i64 l.ep) (.lit (.int .i64 0)) = .lit (.int .i64 l.own))
theorem keyL : Maps.Keyed Try.prog 2 := Maps.int_keyed Try.underlying2
theorem MapI.later {w w' : World} {mB n : Nat} {l : LE} (h : MapI w mB n l) (hb : Below w.heap.size w w') : MapI w' mB n l := by
  obtain ⟨D, h1, h2⟩ := h
  exact ⟨D, h1.kept ⟨hb.os, hb.tape, hb.output, hb.size, fun i hi _ => hb.block i hi⟩ (row := none) (by simp), h2⟩
theorem MapI.lt {w : World} {mB n : Nat} {l : LE} (h : MapI w mB n l) : mB < w.heap.size := by
  obtain ⟨D, h1, _⟩ := h
  exact h1.lt
theorem MapI.only {w w' : World} {mB n lB : Nat} {l : LE} (h : MapI w mB n l) (ho : Only (· = lB) w w') (hne : mB ≠ lB) : MapI w' mB n l := by
  obtain ⟨D, h1, h2⟩ := h
  exact ⟨D, h1.kept ⟨ho.os, ho.tape, ho.output, ho.size, fun i hi hr => ho.block i hi (fun e => hr (by have e' : i = lB := e; rw [e']))⟩ (row := some lB) (by simpa using hne), h2⟩
theorem MapI.mono {w : World} {mB n : Nat} {l : LE} (h : MapI w mB n l) : MapI w mB (n + 1) l := by
  obtain ⟨D, h1, h2⟩ := h
  exact ⟨D, h1.mono (Nat.le_succ _), h2⟩
theorem MapI.other {w : World} {mB n : Nat} {l x : LE} (h : MapI w mB n l) (he : x.ep = l.ep) (ho : x.own = -1 ∨ x.own = l.own) : MapI w mB n x := by
  obtain ⟨D, h1, h2⟩ := h
  refine ⟨D, h1, fun hx => ?_⟩
  rcases ho with ho | ho
  · exact absurd ho hx
  · rw [he, ho]; exact h2 (by rw [← ho]; exact hx)
theorem MapI.put {w : World} {mB n : Nat} {l x : LE} (h : MapI w mB n l) (hx : okL x) (hn : n < maxLen) : ∃ w', (Instr.mapUpdate 42 (.map (some mB)) (.int .i64 x.ep) (.int .i64 x.own)).run Try.prog w = .ok () w' ∧ MapI w' mB (n + 1) x ∧ Only (· = mB) w w' := by
  obtain ⟨D, h1, _⟩ := h
  unfold okL at hx
  have hk : keyOf Try.prog 2 (.int .i64 x.ep) = some (.int .i64 x.ep) := Maps.keyOf_int_mk Try.underlying2 (wf_i64 (by omega) (by omega))
  have hv : plainElem (H := Unit) Try.prog 3 (.int .i64 x.own) = some (.lit (.int .i64 x.own), []) := plainElem_int Try.underlying3 (by simp [Lit.wf, IntKind.min, IntKind.max, IntKind.signed, IntKind.bits]; omega)
  obtain ⟨w', hr, h2, h3⟩ := h1.update keyL Try.underlying42 hn hk hv
  refine ⟨w', hr, ⟨_, h2, fun _ => ⟨Maps.has_put_same h1.isMap (by simp [WideAt.IsKeyLit]) _, Maps.atKey_put_same h1.isMap (by simp [WideAt.IsKeyLit]) _ _⟩⟩, Only.of_grown h3 (fun k hk => by simpa using hk.symm)⟩
theorem MapI.look {w : World} {mB n : Nat} {l : LE} (h : MapI w mB n l) (hk : okL l) (ho : l.own ≠ -1) : (Instr.lookup 42 (.map (some mB)) (.int .i64 l.ep) true).run Try.prog w = .ok (.tuple #[.int .i64 l.own, .bool true]) w := by
  obtain ⟨D, h1, h2⟩ := h
  unfold okL at hk
  have hkey : keyOf Try.prog 2 (.int .i64 l.ep) = some (.int .i64 l.ep) := Maps.keyOf_int_mk Try.underlying2 (wf_i64 (by omega) (by omega))
  have hz : (zeroValue 3).run Try.prog w = .ok (.int .i64 0) w := by simp [zeroValue]; rfl
  obtain ⟨v, ps, hr, hv⟩ := h1.look_ok keyL Try.underlying42 hz (plainElem_int (H := Unit) Try.underlying3 (by decide)) hkey
  obtain ⟨c, rfl, hc, _⟩ := plainElem_int_inv Try.underlying3 hv
  obtain ⟨k1, k2⟩ := h2 ho
  rw [k2] at hc
  simp only [Prod.mk.injEq, DataW.lit.injEq, Lit.int.injEq] at hc
  rw [hr, k1, hc.1.2]
/-- What a round keeps. -/
structure EpI (B : Nat) (W : World) (lB mB k : Nat) (l : LE) (wr : World) : Prop where
  box : wr.heap[lB]? = some (.cells #[.int .i64 l.own, .int .i64 l.last, .int .i64 l.ep, .int .i64 l.clk, .int .i64 l.til, .bool l.solo] 23 (0, 0))
  bw : Below B W wr
  ok : okL l
  map : MapI wr mB k l
set_option maxRecDepth 100000 in
set_option maxHeartbeats 8000000 in
theorem epochs_walk {W : World} {lp : Option Addr} {lc n : Nat} {os : List AK} (hrow : ARow W lp lc os) (hn : os.length = n) (hbig : n * 56 ≤ 140737488351232) :
    Calls Try.prog 5 #[.slice lp n lc] W fun e w' => e = .returned (.bool true) ∧ Below W.heap.size W w' := by
  have i1 := hrow.le
  have i2 := hrow.top
  rw [hn] at i1
  have HROW := hide hrow
  have HN := hide hn
  have HBIG := hide hbig
  clear hrow hn hbig
  obtain ⟨B, hB⟩ : ∃ B, W.heap.size = B := ⟨_, rfl⟩
  have HBB := hide hB
  rw [hB]
  clear hB
  go_enter Try.func5, Try.ntmps5
  go_wp2_with fail
  refine live_any.mono ?_
  rintro _ w1 ⟨rfl, b1⟩
  rw [HBB.out] at b1
  have HB1 := hide b1
  have hz1 : B ≤ w1.heap.size := by have := b1.size; have := HBB.out; omega
  clear b1
  go_wp2_with fail
  refine new_any.mono ?_
  simp only [LE.val, LE.row]
  rintro _ w2 ⟨rfl, b2⟩
  have HB2 := hide (below_next HB1.out b2 hz1)
  have hz2 : B ≤ w2.heap.size := by have := b2.size; omega
  clear b2 HB1 hz1
  go_upto_region 4 with fail
  obtain ⟨X1, hX1⟩ : ∃ X, X = w2.alloc (.cells #[.int .i64 (-1), .int .i64 (-1), .int .i64 0, .int .i64 0, .int .i64 0, .bool false] 23 (0, 0)) := ⟨_, rfl⟩
  rw [← hX1]
  obtain ⟨c1, c2, c3⟩ := alloc_box HB2.out hz2 (.cells #[.int .i64 (-1), .int .i64 (-1), .int .i64 0, .int .i64 0, .int .i64 0, .bool false] 23 (0, 0))
  rw [← hX1] at c1 c2
  obtain ⟨lB, hlB⟩ : ∃ lB, w2.heap.size = lB := ⟨_, rfl⟩
  rw [hlB] at c2 ⊢
  have HLX := hide c2
  have HBX := hide c1
  have hlb : B ≤ lB := by omega
  clear c1 c2 c3 hX1 hlB HB2 hz2
  have hmk := run_mkmapL X1
  go_upto_region 6 with fail
  clear hmk
  obtain ⟨X2, hX2⟩ : ∃ X, X = X1.alloc (.map #[] 0) := ⟨_, rfl⟩
  rw [← hX2]
  obtain ⟨mB, hmB⟩ : ∃ mB, X1.heap.size = mB := ⟨_, rfl⟩
  have hlm : lB < mB := by rw [← hmB]; exact box_lt HLX.out
  have HLB : Hid (B ≤ lB ∧ lB < mB) := hide ⟨hlb, hlm⟩
  have HNI0 : Hid (EpI B W lB mB 0 ⟨-1, -1, 0, 0, 0, false⟩ X2) := by
    have hb : Below X1.heap.size X1 X2 := by rw [hX2]; exact alloc_below _ _
    refine hide ⟨below_box hb HLX.out, below_next HBX.out hb (by omega), by decide, ⟨.map [], ?_, fun h => absurd rfl h⟩⟩
    rw [hX2, ← hmB]
    exact World.ownsMap_made X1 Try.prog 2 _
  try rw [hmB]
  clear hX2 hmB hlb hlm HLX HBX
  go_wp2_with fail
  go_loopw [4, 19] (fun t i wr => ∃ (k : Nat) (l : LE), k ≤ n ∧ i = .int .i64 (k : Int) ∧ t = .int .i64 l.ep ∧ Hid (EpI B W lB mB k l wr)) (fun _ i _ => n - (intOf i).toNat)
  case atStart => exact ⟨0, ⟨-1, -1, 0, 0, 0, false⟩, Nat.zero_le _, rfl, rfl, HNI0⟩
  case round =>
    obtain ⟨k, ⟨l0, l1, l2, l3, l4, l5⟩, hk, rfl, rfl, HI⟩ := hrel
    clear HNI0
    obtain ⟨hl, hbw, hok, hmp⟩ := HI.out
    simp only at hl ⊢
    by_cases hlt : k < n
    · have hlt2 : k < os.length := by rw [HN.out]; exact hlt
      obtain ⟨⟨dd, dr, de, dw, dt, dn, ds⟩, hx⟩ : ∃ x, os[k]! = x := ⟨_, rfl⟩
      have bw2 := hbw
      rw [← HBB.out] at bw2
      obtain ⟨g, oo, rfl, a0, a1, a2, a3, a4, a5, a6⟩ := ARow.at (LRow.below AK.len HROW.out bw2) hlt2 hx
      have HL0 := hide hl
      have HB0 := hide hbw
      have HM0 := hide hmp
      have HOKL := hide hok
      clear hx hlt2 bw2 hl hbw hok hmp HI
      go_upto_region 9 with fail
      obtain ⟨X, hX⟩ : ∃ X, X = wr.alloc (.cells #[.int .i64 dd, .int .i64 dr, .int .i64 de, .bool dw, .int .i64 dt, .int .i64 dn, .bool ds] 27 (0, 0)) := ⟨_, rfl⟩
      rw [← hX]
      obtain ⟨c1, c2, c3⟩ := alloc_box HB0.out (by have := box_lt HL0.out; have := HLB.out; omega) (.cells #[.int .i64 dd, .int .i64 dr, .int .i64 de, .bool dw, .int .i64 dt, .int .i64 dn, .bool ds] 27 (0, 0))
      rw [← hX] at c1 c2 c3
      obtain ⟨aB, haB⟩ : ∃ aB, wr.heap.size = aB := ⟨_, rfl⟩
      rw [haB] at c2
      try rw [haB]
      have HL1 := hide (below_box c3 HL0.out)
      have HM1 := hide (HM0.out.later c3)
      have HA1 := hide c2
      have HB1 := hide c1
      clear c1 c2 c3 hX haB HB0 HL0 HM0 a0 a1 a2 a3 a4 a5 a6
      obtain ⟨⟨⟨g0, g1, g2, g3, g4, g5⟩, m, x⟩, hg⟩ : ∃ q, asksC ⟨l0, l1, l2, l3, l4, l5⟩ ⟨dd, dr, de, dw, dt, dn, ds⟩ = q := ⟨_, rfl⟩
      have HG := hide hg
      clear hg
      obtain ⟨F1, F2, F3, F4, F5⟩ := ep_fact HG.out HOKL.out
      simp only at F3 F4 F5
      have HOK := hide F1
      have HF2 := hide F2
      have HF3 := hide F3
      have HF4 := hide F4
      have HF5 := hide F5
      have HC := hide (chk_yes F1)
      clear F1 F2 F3 F4 F5
      obtain ⟨_, _, _, _, _, _, u0, u1, u2, u3, u4, u5⟩ := six HL1.out
      obtain ⟨a0, a1, a2, a3, a4, a5, a6⟩ := seven HA1.out
      go_wp2_with fail
      refine asks_any.mono ?_
      rw [HG.out]
      simp only [LE.val, LE.row]
      rintro _ w3 ⟨rfl, b3⟩
      have HL2 := hide (below_box b3 HL1.out)
      have HM2 := hide (HM1.out.later b3)
      have HA2 := hide (below_box b3 HA1.out)
      have HB2 := hide (below_next HB1.out b3 (by have := box_lt HL1.out; have := HLB.out; omega))
      clear b3 HL1 HA1 HB1 HM1 u0 u1 u2 u3 u4 u5 a0 a1 a2 a3 a4 a5 a6
      go_upto_region 10 with fail
      obtain ⟨Y, hY⟩ : ∃ Y, Y = w3.alloc (.cells #[.int .i64 g0, .int .i64 g1, .int .i64 g2, .int .i64 g3, .int .i64 g4, .bool g5] 23 (0, 0)) := ⟨_, rfl⟩
      rw [← hY]
      obtain ⟨c1, c2, c3⟩ := alloc_box HB2.out (by have := box_lt HL2.out; have := HLB.out; omega) (.cells #[.int .i64 g0, .int .i64 g1, .int .i64 g2, .int .i64 g3, .int .i64 g4, .bool g5] 23 (0, 0))
      rw [← hY] at c1 c2 c3
      obtain ⟨xB, hxB⟩ : ∃ xB, w3.heap.size = xB := ⟨_, rfl⟩
      rw [hxB] at c2
      try rw [hxB]
      have HL3 := hide (below_box c3 HL2.out)
      have HM3 := hide (HM2.out.later c3)
      have HA3 := hide (below_box c3 HA2.out)
      have HX3 := hide c2
      have HB3 := hide c1
      clear c1 c2 c3 hY hxB HB2 HL2 HA2 HM2
      obtain ⟨_, _, _, _, _, _, x0, x1, x2, x3, x4, x5⟩ := six HX3.out
      go_wp2_with fail
      refine check_any.mono ?_
      rw [HC.out]
      rintro _ w4 ⟨rfl, b4⟩
      have HL4 := hide (below_box b4 HL3.out)
      have HM4 := hide (HM3.out.later b4)
      have HA4 := hide (below_box b4 HA3.out)
      have HX4 := hide (below_box b4 HX3.out)
      have HB4 := hide (below_next HB3.out b4 (by have := box_lt HL3.out; have := HLB.out; omega))
      clear b4 HL3 HA3 HX3 HB3 HM3 x0 x1 x2 x3 x4 x5
      obtain ⟨_, _, _, _, _, _, x0, x1, x2, x3, x4, x5⟩ := six HX4.out
      obtain ⟨_, _, _, _, _, _, u0, u1, u2, u3, u4, u5⟩ := six HL4.out
      obtain ⟨a0, a1, a2, a3, a4, a5, a6⟩ := seven HA4.out
      by_cases hx0 : x = 0
      · subst hx0
        by_cases hm : m = 0
        · obtain ⟨k1, k2⟩ := HF4.out rfl hm
          subst hm
          subst k1
          have HM5 : Hid (MapI w4 mB (k + 1) ⟨g0, g1, g2, g3, g4, g5⟩) := hide ((HM4.out.other (x := ⟨g0, g1, g2, g3, g4, g5⟩) rfl k2).mono)
          clear k2
          by_cases hd2 : dd = 2
          · obtain ⟨_, j1, j2⟩ := HF5.out rfl (.inl hd2)
            (try simp only at j1 j2)
            have hlook := HM4.out.look HOKL.out (by simp only; omega)
            simp only at hlook
            subst j1
            clear j2
            subst hd2
            clear u0 u1 u2 u3 u4 u5 x0 x1 x2 x3 x4 x5
            obtain ⟨f0, f1, f2, f3, f4, f5, u0, u1, u2, u3, u4, u5⟩ := six HL4.out
            obtain ⟨_, _, _, _, _, _, x0, x1, x2, x3, x4, x5⟩ := six HX4.out
            have HNI : Hid (EpI B W lB mB (k + 1) ⟨g0, g1, g2, g3, g4, g5⟩ (set6 w4 lB (.int .i64 g0) (.int .i64 g1) (.int .i64 g2) (.int .i64 g3) (.int .i64 g4) (.bool g5))) := hide ⟨heap_set6 HL4.out _ _ _ _ _ _, HB4.out.trans ((only_set6 _ lB _ _ _ _ _ _).below (by have := box_lt HL4.out; have := HLB.out; omega) (fun i e => by have e' : i = lB := e; have := HLB.out; omega)), HOK.out, (HM5.out).only (only_set6 _ lB _ _ _ _ _ _) (by have := HLB.out; omega)⟩
            unfold set6 at HNI
            go_wp2
            go_round
            case rel => exact ⟨k + 1, ⟨g0, g1, g2, g3, g4, g5⟩, by omega, by first | rfl | go_num, rfl, HNI⟩
            case measure => simp [intOf]; omega
          · have hd2b : (dd == 2) = false := ne_eqL hd2
            by_cases hd5 : dd = 5
            · obtain ⟨_, j1, j2⟩ := HF5.out rfl (.inr hd5)
              (try simp only at j1 j2)
              have hlook := HM4.out.look HOKL.out (by simp only; omega)
              simp only at hlook
              subst j1
              clear j2
              subst hd5
              clear u0 u1 u2 u3 u4 u5 x0 x1 x2 x3 x4 x5
              obtain ⟨f0, f1, f2, f3, f4, f5, u0, u1, u2, u3, u4, u5⟩ := six HL4.out
              obtain ⟨_, _, _, _, _, _, x0, x1, x2, x3, x4, x5⟩ := six HX4.out
              have HNI : Hid (EpI B W lB mB (k + 1) ⟨g0, g1, g2, g3, g4, g5⟩ (set6 w4 lB (.int .i64 g0) (.int .i64 g1) (.int .i64 g2) (.int .i64 g3) (.int .i64 g4) (.bool g5))) := hide ⟨heap_set6 HL4.out _ _ _ _ _ _, HB4.out.trans ((only_set6 _ lB _ _ _ _ _ _).below (by have := box_lt HL4.out; have := HLB.out; omega) (fun i e => by have e' : i = lB := e; have := HLB.out; omega)), HOK.out, (HM5.out).only (only_set6 _ lB _ _ _ _ _ _) (by have := HLB.out; omega)⟩
              unfold set6 at HNI
              go_wp2
              go_round
              case rel => exact ⟨k + 1, ⟨g0, g1, g2, g3, g4, g5⟩, by omega, by first | rfl | go_num, rfl, HNI⟩
              case measure => simp [intOf]; omega
            · have hd5b : (dd == 5) = false := ne_eqL hd5
              clear hd2 hd5
              clear u0 u1 u2 u3 u4 u5 x0 x1 x2 x3 x4 x5
              obtain ⟨f0, f1, f2, f3, f4, f5, u0, u1, u2, u3, u4, u5⟩ := six HL4.out
              obtain ⟨_, _, _, _, _, _, x0, x1, x2, x3, x4, x5⟩ := six HX4.out
              have HNI : Hid (EpI B W lB mB (k + 1) ⟨g0, g1, g2, g3, g4, g5⟩ (set6 w4 lB (.int .i64 g0) (.int .i64 g1) (.int .i64 g2) (.int .i64 g3) (.int .i64 g4) (.bool g5))) := hide ⟨heap_set6 HL4.out _ _ _ _ _ _, HB4.out.trans ((only_set6 _ lB _ _ _ _ _ _).below (by have := box_lt HL4.out; have := HLB.out; omega) (fun i e => by have e' : i = lB := e; have := HLB.out; omega)), HOK.out, (HM5.out).only (only_set6 _ lB _ _ _ _ _ _) (by have := HLB.out; omega)⟩
              unfold set6 at HNI
              go_wp2
              go_round
              case rel => exact ⟨k + 1, ⟨g0, g1, g2, g3, g4, g5⟩, by omega, by first | rfl | go_num, rfl, HNI⟩
              case measure => simp [intOf]; omega
        · obtain ⟨k1, k2, k3, k4⟩ := HF3.out rfl hm
          have hm2 : (m != 0) = true := ne_neL hm
          have hm1 : (m == 0) = false := ne_eqL hm
          have hd2b : (dd == 2) = false := ne_eqL k3
          have hd5b : (dd == 5) = false := ne_eqL k4
          have hle : decide (m ≤ l2) = false := decide_eq_false (by omega)
          subst k2
          obtain ⟨w5, hup, hM5, ho5⟩ := HM4.out.put HOK.out (by have := HBIG.out; unfold maxLen; omega)
          simp only at hup
          have HM5 := hide hM5
          have HL5 := hide (ho5.obj HL4.out (fun e => by have e' : lB = mB := e; have := HLB.out; omega))
          have hmlt := HM4.out.lt
          have HXM : Hid (xB ≠ mB) := hide (fun e => by
            obtain ⟨D, ⟨es, cl, q1, _⟩, _⟩ := HM4.out
            have q2 := HX4.out
            rw [e, q1] at q2
            simp at q2)
          have HAM : Hid (aB ≠ mB) := hide (fun e => by
            obtain ⟨D, ⟨es, cl, q1, _⟩, _⟩ := HM4.out
            have q2 := HA4.out
            rw [e, q1] at q2
            simp at q2)
          have HX5 := hide (ho5.obj HX4.out (fun e => HXM.out e))
          have HA5 := hide (ho5.obj HA4.out (fun e => HAM.out e))
          have HB5 := hide (HB4.out.trans (ho5.below (by have := HLB.out; omega) (fun i e => by have e' : i = mB := e; have := HLB.out; omega)))
          clear k1 k3 k4 hm hM5 ho5 hmlt
          go_upto_region 17 with fail
          clear hup u0 u1 u2 u3 u4 u5 x0 x1 x2 x3 x4 x5 a0 a1 a2 a3 a4 a5 a6
          obtain ⟨a0, a1, a2, a3, a4, a5, a6⟩ := seven HA5.out
          obtain ⟨f0, f1, f2, f3, f4, f5, u0, u1, u2, u3, u4, u5⟩ := six HL5.out
          obtain ⟨_, _, _, _, _, _, x0, x1, x2, x3, x4, x5⟩ := six HX5.out
          have HNI : Hid (EpI B W lB mB (k + 1) ⟨g0, g1, g2, g3, g4, g5⟩ (set6 w5 lB (.int .i64 g0) (.int .i64 g1) (.int .i64 g2) (.int .i64 g3) (.int .i64 g4) (.bool g5))) := hide ⟨heap_set6 HL5.out _ _ _ _ _ _, HB5.out.trans ((only_set6 _ lB _ _ _ _ _ _).below (by have := box_lt HL5.out; have := HLB.out; omega) (fun i e => by have e' : i = lB := e; have := HLB.out; omega)), HOK.out, (HM5.out).only (only_set6 _ lB _ _ _ _ _ _) (by have := HLB.out; omega)⟩
          unfold set6 at HNI
          go_wp2
          go_round
          case rel => exact ⟨k + 1, ⟨g0, g1, g2, g3, g4, g5⟩, by omega, by first | rfl | go_num, rfl, HNI⟩
          case measure => simp [intOf]; omega
      · have hx1 : (x == 0) = false := ne_eqL hx0
        have hx2 : (x != 0) = true := ne_neL hx0
        have hsame := HF2.out hx0
        simp only [LE.mk.injEq] at hsame
        obtain ⟨rfl, rfl, rfl, rfl, rfl, rfl⟩ := hsame
        have HM5 := hide HM4.out.mono
        clear hx0
        clear u0 u1 u2 u3 u4 u5 x0 x1 x2 x3 x4 x5
        obtain ⟨f0, f1, f2, f3, f4, f5, u0, u1, u2, u3, u4, u5⟩ := six HL4.out
        obtain ⟨_, _, _, _, _, _, x0, x1, x2, x3, x4, x5⟩ := six HX4.out
        have HNI : Hid (EpI B W lB mB (k + 1) ⟨g0, g1, g2, g3, g4, g5⟩ (set6 w4 lB (.int .i64 g0) (.int .i64 g1) (.int .i64 g2) (.int .i64 g3) (.int .i64 g4) (.bool g5))) := hide ⟨heap_set6 HL4.out _ _ _ _ _ _, HB4.out.trans ((only_set6 _ lB _ _ _ _ _ _).below (by have := box_lt HL4.out; have := HLB.out; omega) (fun i e => by have e' : i = lB := e; have := HLB.out; omega)), HOK.out, (HM5.out).only (only_set6 _ lB _ _ _ _ _ _) (by have := HLB.out; omega)⟩
        unfold set6 at HNI
        go_wp2
        go_round
        case rel => exact ⟨k + 1, ⟨g0, g1, g2, g3, g4, g5⟩, by omega, by first | rfl | go_num, rfl, HNI⟩
        case measure => simp [intOf]; omega
    · obtain rfl : k = n := by omega
      have HBW := hide hbw
      have HK2 := hide hl
      clear HI hl hbw hok hmp
      obtain ⟨_, _, _, _, _, _, u0, u1, u2, u3, u4, u5⟩ := six HK2.out
      go_wp2
      go_ret
      exact ⟨rfl, HBW.out⟩
end Go.Proofs.Ythlkhjpobiohmaa
