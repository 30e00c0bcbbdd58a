/-
  What the statement PackReads's function does over any world, in which nothing that was there turns: it returns true. The conditions: the slices read as data, and are no longer than the form's reach.
-/
import Derived.Test.YtpnoijmdhlkjlaaLiv
import Derived.Test.YtpnoijmdhlkjlaaAsk
import Derived.Test.YtpnoijmdhlkjlaaAks
import Derived.BigRegion
namespace Go.Proofs.Ytpnoijmdhlkjlaa.packReads
open Go.ChangeShapes Go.WideShapes Go.ChangeAt Go.RowKit
attribute [local go_sem ↓] Go.wp_at_zero Go.wp_at_succ

set_option maxHeartbeats 400000 in
theorem ropen_any {w : World} {v : Value} {l : List Int} (h : Row .u8 w v l) (hu : U8 l) {bu : Nat} (hx : 0 < l.length → v.ownBlock ≠ some bu) (hlt : ∀ k, 0 < l.length → v.ownBlock = some k → k < w.heap.size) :
    Calls Try.prog 24 #[v] w fun r w' => r = .returned (.pointer (some ⟨w.heap.size, 0, none⟩)) ∧ RUnp bu w' w.heap.size v l 0 ∧ w' = w.alloc (.cells #[v, .int .i64 0] 51) := by
  have H : Hid (Row .u8 w v l) := h
  obtain ⟨p, cap, rfl, g1, g2, g3, g4⟩ := h
  have HX : Hid (0 < l.length → (Value.slice p l.length cap).ownBlock ≠ some bu) := hx
  have HT : Hid (∀ k, 0 < l.length → (Value.slice p l.length cap).ownBlock = some k → k < w.heap.size) := hlt
  clear g3 g4 hx hlt
  go_enter Try.func24, Try.ntmps24
  go_wp2
  go_ret
  refine ⟨rfl, ⟨heap_alloc_new w _, H.out.below (alloc_below _ _), fun hp => ⟨fun hk => ?_, HX.out hp⟩, hu, fun h => absurd rfl h⟩, rfl⟩
  have := HT.out _ hp hk
  omega

theorem asks_at {w : World} {B bu bw : Nat} {vu vw : Value} {l l1 : List Int} {e e1 d least most n er : Int} (hB1 : B ≤ bu) (hB2 : B ≤ bw) (hBw : B ≤ w.heap.size) (hne : bu ≠ bw)
    (hu : UnpX bw w bu vu l e) (hw : RUnp bu w bw vw l e) (hbig : l.length ≤ 140737488355328) (hr : asked l e d least most n er = (l1, e1)) :
    Calls Try.prog 25 #[.pointer (some ⟨bu, 0, none⟩), .pointer (some ⟨bw, 0, none⟩), .agg #[.int .i64 d, .int .i64 least, .int .i64 most, .int .i64 n, .int .i64 er]] w fun r w' =>
      r = .returned (.bool true) ∧ Below B w w' ∧ ∃ vu' pw capw, UnpX bw w' bu vu' l1 e1 ∧ RUnp bu w' bw (.slice pw l1.length capw) l1 e1 := by
  refine (asks_any hB1 hB2 hBw hne hu hw hbig).mono ?_
  rintro r w' ⟨rfl, hb, vu', vw', h1, h2⟩
  rw [hr] at h1 h2
  obtain ⟨p, cap, rfl, _⟩ := id h2.row
  exact ⟨rfl, hb, vu', p, cap, h1, h2⟩

set_option maxHeartbeats 8000000 in
theorem walk {vb vl : Value} {b : List Int} {len : Nat} (w : World) (hb : Row .u8 w vb b) (hl : Asks w vl len) (ub : U8 b) (sb : b.length ≤ 140737488351232) (sl : len ≤ 140737488351232) :
    Calls Try.prog 5 #[vb, vl] w fun e w' => e = .returned (.bool true) ∧ Below w.heap.size w w' := by
  have HB : Hid (Row .u8 w vb b) := hb
  have HUB : Hid (U8 b) := ub
  obtain ⟨p, cap, rfl, g1, g2, g4⟩ := hl
  have HC : Hid (0 < len → ∃ b o, p = some ⟨b, o, none⟩ ∧ ∀ i, i < len → ∃ d x y n e : Int,
    w.cell? ⟨b, o + i * 5, none⟩ = some (.int .i64 d) ∧ w.cell? ⟨b, o + i * 5 + 1, none⟩ = some (.int .i64 x) ∧ w.cell? ⟨b, o + i * 5 + 2, none⟩ = some (.int .i64 y) ∧
    w.cell? ⟨b, o + i * 5 + 3, none⟩ = some (.int .i64 n) ∧ w.cell? ⟨b, o + i * 5 + 4, none⟩ = some (.int .i64 e)) := g4
  clear hb g4 ub
  go_enter Try.func5, Try.ntmps5
  go_wp2_with fail
  refine (live_any w).mono ?_
  rintro r w1 ⟨rfl, hb1⟩
  go_wp2_with fail
  refine (open_more (HB.out.below hb1) HUB.out (by omega)).mono ?_
  rintro r w2 ⟨bu, vu, rfl, hbu, hu2, hb2, hbz, hblk⟩
  have B2 : Below w.heap.size w w2 := hb1.trans (hb2.mono hb1.size)
  have HU2 : Hid (Unp w2 bu vu b 0) := hu2
  have hz1 : w.heap.size ≤ w1.heap.size := hb1.size
  have HK : Hid (∀ k, vu.ownBlock = some k → w1.heap.size ≤ k ∧ k < w2.heap.size) := hblk
  have HV : Hid (∀ k, 0 < b.length → vb.ownBlock = some k → k < w.heap.size) := fun k hp hk => by
    obtain ⟨p', cap', rfl, _, _, _, h4⟩ := HB.out
    obtain ⟨bb, o, rfl, hc⟩ := h4 hp
    simp [Value.ownBlock] at hk
    subst hk
    exact World.block_lt_of_cell? _ _ (hc 0 hp)
  clear hu2 hb2 hblk
  go_wp2_with fail
  refine (ropen_any (bu := bu) (HB.out.below B2) HUB.out (fun hp hk => by have := HV.out _ hp hk; omega) (fun k hp hk => by have := HV.out _ hp hk; have := B2.size; omega)).mono ?_
  rintro r w3 ⟨rfl, hw3, e3⟩
  have B3 : Below w.heap.size w w3 := by rw [e3]; exact B2.alloc B2.size _
  have HU3 : Hid (UnpX w2.heap.size w3 bu vu b 0) := by
    show UnpX _ _ _ _ _ _
    rw [e3]
    exact (HU2.out.below (alloc_below _ _)).other (fun hk => by have := (HK.out _ hk).2; omega)
  have HW3 : Hid (RUnp bu w3 w2.heap.size vb b 0) := hw3
  have z2 : w.heap.size ≤ w2.heap.size := B2.size
  have z3 : w.heap.size ≤ w3.heap.size := B3.size
  have hne : bu ≠ w2.heap.size := by omega
  generalize w2.heap.size = bw at *
  clear hw3 e3 HU2 HK HV B2
  go_wp2_with fail
  go_loopw [17] (fun i wr => ∃ (k : Nat) (l : List Int) (e : Int) (vu vw : Value), k ≤ len ∧ i = .int .i64 (k : Int) ∧ l.length ≤ b.length ∧ UnpX bw wr bu vu l e ∧ RUnp bu wr bw vw l e ∧ Below w.heap.size w wr) (fun i _ => len - (intOf i).toNat)
  case atStart => exact ⟨0, b, 0, vu, vb, Nat.zero_le _, rfl, Nat.le_refl _, HU3.out, HW3.out, B3⟩
  case round =>
    obtain ⟨k, l, e, vu, vw, hk, rfl, hll, hur, hwr, hbr⟩ := hrel
    have HU : Hid (UnpX bw wr bu vu l e) := hur
    have HW : Hid (RUnp bu wr bw vw l e) := hwr
    clear hur hwr HU3 HW3 B3
    by_cases hlt : k < len
    · obtain ⟨bb, o, rfl, hc⟩ := HC.out (by omega)
      obtain ⟨d, x, y, n, er, c0, c1, c2, c3, c4⟩ := hc k hlt
      have d0 := cell_later hbr c0
      have d1 := cell_later hbr c1
      have d2 := cell_later hbr c2
      have d3 := cell_later hbr c3
      have d4 := cell_later hbr c4
      clear hc HC c0 c1 c2 c3 c4
      go_wp2_with fail
      generalize hW0 : wr.alloc (Obj.cells #[Value.int IntKind.i64 d, Value.int IntKind.i64 x, Value.int IntKind.i64 y, Value.int IntKind.i64 n, Value.int IntKind.i64 er] 47) = W0
      have HU0 : Hid (UnpX bw W0 bu vu l e) := by rw [← hW0]; exact HU.out.below (alloc_below _ _)
      have HW0 : Hid (RUnp bu W0 bw vw l e) := by rw [← hW0]; exact HW.out.below (alloc_below _ _)
      have B0 : Hid (Below w.heap.size w W0) := by rw [← hW0]; exact hbr.alloc hbr.size _
      have Z0 : Hid (w.heap.size ≤ W0.heap.size) := B0.out.size
      have s0 : W0.cell? ⟨wr.heap.size, 0, none⟩ = some (.int .i64 d) := by rw [← hW0]; simp
      have s1 : W0.cell? ⟨wr.heap.size, 1, none⟩ = some (.int .i64 x) := by rw [← hW0]; simp
      have s2 : W0.cell? ⟨wr.heap.size, 2, none⟩ = some (.int .i64 y) := by rw [← hW0]; simp
      have s3 : W0.cell? ⟨wr.heap.size, 3, none⟩ = some (.int .i64 n) := by rw [← hW0]; simp
      have s4 : W0.cell? ⟨wr.heap.size, 4, none⟩ = some (.int .i64 er) := by rw [← hW0]; simp
      obtain ⟨l1, e1, hr⟩ : ∃ l1 e1, asked l e d x y n er = (l1, e1) := ⟨_, _, rfl⟩
      have hl1 : l1.length ≤ l.length := by have := asked_len (l := l) (e := e) (d := d) (least := x) (most := y) (n := n) (er := er); rw [hr] at this; exact this
      have HR : Hid (asked l e d x y n er = (l1, e1)) := hr
      clear hW0 HU HW hr d0 d1 d2 d3 d4
      go_region_with (first
        | (go_at_call 25; refine (asks_at (w := W0.drew) (B := w.heap.size) (by omega) (by omega) Z0.out hne (HU0.out.below ((Below.refl _ _).drew)) (HW0.out.below ((Below.refl _ _).drew)) (by omega) HR.out).mono ?_; rintro r w1 ⟨rfl, hB1, vu1, pw, capw, hu1, hw1⟩; have c0 := hw1.c0; have c1 := hw1.c1; have HU1 := (show Hid (UnpX bw w1 bu vu1 l1 e1) from hu1); have HW1 := (show Hid (RUnp bu w1 bw (.slice pw l1.length capw) l1 e1) from hw1); clear hu1 hw1)
        | (go_at_call 26; refine (err_any HU1.out).mono ?_; rintro r w' ⟨rfl, hw'⟩; obtain rfl : w1 = w' := hw'.symm)
        | (go_at_call 27; refine (rest_any HU1.out).mono ?_; rintro r w' ⟨rfl, hw'⟩; obtain rfl : w1 = w' := hw'.symm)
        | (go_at_call 28; refine (close_any HU1.out).mono ?_; rintro r w' ⟨rfl, hw'⟩; obtain rfl : w1 = w' := hw'.symm)
        | (go_at_call 29; refine (rclose_any HW1.out).mono ?_; rintro r w' ⟨rfl, hw'⟩; obtain rfl : w1 = w' := hw'.symm))
      all_goals
        go_wp2
        go_roundw
        case rel => exact ⟨k + 1, l1, e1, vu1, .slice pw l1.length capw, by omega, by go_num, by omega, HU1.out, HW1.out, B0.out.drew.trans hB1⟩
        case measure => simp [intOf]; omega
    · clear HC
      go_wp2_with fail
      refine (close_any HU.out).mono ?_
      rintro r w' ⟨rfl, hw'⟩
      obtain rfl : wr = w' := hw'.symm
      go_wp2_with fail
      refine (rclose_any HW.out).mono ?_
      rintro r w' ⟨rfl, hw'⟩
      obtain rfl : wr = w' := hw'.symm
      go_wp2_with fail
      go_ret
      exact ⟨by simp, hbr⟩

end Go.Proofs.Ytpnoijmdhlkjlaa.packReads
