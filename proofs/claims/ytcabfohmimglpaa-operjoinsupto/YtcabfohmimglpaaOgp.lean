/-
  gap of a ledger: where a new one of a key is to stand. The conditions: lengths.
-/
import Derived.Test.YtcabfohmimglpaaOeo
namespace Go.Proofs.Ytcabfohmimglpaa
open Go.RowKit

def gapC (L : LG) (j1 : Nat) (f1 : Bool) (j2 : Nat) (f2 : Bool) : Int :=
  if f2 = true then min (if f1 = true then (j1 : Int) else (L.old.length : Int)) (L.es[j2]!).gap else (if f1 = true then (j1 : Int) else (L.old.length : Int))

set_option maxRecDepth 100000 in
set_option maxHeartbeats 4000000 in
theorem gap_any {W : World} {base lb : Nat} {A : LA} {L : LG} {t : Int} (h : LRep W base lb A L) (hb1 : 2 * L.lh ≤ 1099511627776) (hb2 : 2 * L.fh ≤ 1099511627776) (ht : lowN ≤ t) (hfr : ∀ j, L.es.length ≤ j → j < L.fh → L.fr.getD (L.fh + j) 0 = lowN) :
    Calls Try.prog 28 #[.pointer (some ⟨lb, 0, none⟩), .int .i64 t] W fun e w' => ∃ j1 f1 j2 f2, Found L.left L.lh t j1 f1 ∧ Found L.fr L.fh t j2 f2 ∧ (f2 = true → j2 < L.es.length) ∧ e = .returned (.int .i64 (gapC L j1 f1 j2 f2)) ∧ w' = W := by
  obtain ⟨m, hm⟩ : ∃ m, L.es.length = m := ⟨_, rfl⟩
  obtain ⟨n, hn⟩ : ∃ n, L.old.length = n := ⟨_, rfl⟩
  obtain ⟨l1, hl1⟩ : ∃ l, 2 * L.lh = l := ⟨_, rfl⟩
  obtain ⟨l2, hl2⟩ : ∃ l, 2 * L.fh = l := ⟨_, rfl⟩
  have z0 : W.cell? ⟨lb, 0, none⟩ = some (.slice A.po n A.co) := by rw [← hn]; simp [World.cell?, h.box]
  have z3 : W.cell? ⟨lb, 3, none⟩ = some (.slice (some ⟨A.gl, 0, none⟩) l1 A.cl) := by rw [← hl1]; simp [World.cell?, h.box]
  have z4 : W.cell? ⟨lb, 4, none⟩ = some (.slice A.pe m A.ce) := by rw [← hm]; simp [World.cell?, h.box]
  have z5 : W.cell? ⟨lb, 5, none⟩ = some (.slice (some ⟨A.gf, 0, none⟩) l2 A.cf) := by rw [← hl2]; simp [World.cell?, h.box]
  have h3 := h.left
  have h5 := h.fr
  rw [hl1] at h3 hb1
  rw [hl2] at h5 hb2
  have HF1 := hide (first_any (t := t) (own_row h3) h.pl hb1)
  have HF2 := hide (first_any (t := t) (own_row h5) h.pf hb2)
  have hnr := NRow.of_own rfl h.es
  have i1 := hnr.le
  have i2 := hnr.top
  rw [hm] at i1
  have HNR := hide hnr
  have HM := hide hm
  have HN := hide hn
  have HFR := hide hfr
  clear h h3 h5 hnr hm hn hfr
  go_enter Try.func28, Try.ntmps28
  go_wp2_with fail
  refine HF1.out.mono ?_
  rintro _ w1 ⟨j1, f1, rfl, hfo1, hw1⟩
  subst hw1
  have HO1 := hide hfo1
  clear HF1 hfo1
  cases f1 with
  | true =>
    go_wp2_with fail
    refine HF2.out.mono ?_
    rintro _ w2 ⟨j2, f2, rfl, hfo2, hw2⟩
    subst hw2
    have HO2 := hide hfo2
    clear HF2
    cases f2 with
    | true =>
      have hj2 : j2 < m := by
        rcases hfo2 with ⟨e, _⟩ | ⟨_, q1, q2, _⟩
        · cases e
        · apply Classical.byContradiction
          intro hq
          have h9 := HFR.out j2 (by rw [HM.out]; omega) q1
          rw [h9] at q2
          omega
      obtain ⟨g, o, hpe, hc⟩ := HNR.out.cell j2 (by rw [HM.out]; exact hj2)
      obtain ⟨⟨x0, x1, x2, x3, x4⟩, hx⟩ : ∃ x, L.es[j2]! = x := ⟨_, rfl⟩
      rw [hx] at hc
      have d4 : w2.cell? ⟨g, o + j2 * 5 + 4, none⟩ = some (.int .i64 x4) := hc 4 (by omega)
      rw [hpe] at z4
      have HQ : Hid (gapC L j1 true j2 true = min (j1 : Int) x4) := hide (by unfold gapC; rw [hx, HN.out]; simp)
      have HJ : Hid (j2 < L.es.length) := hide (by rw [HM.out]; exact hj2)
      clear hfo2 hc hx hpe
      go_wp2
      go_ret
      exact ⟨j1, true, j2, true, HO1.out, HO2.out, fun _ => HJ.out, by rw [HQ.out]; rfl, rfl⟩
    | false =>
      have HQ : Hid (gapC L j1 true j2 false = (j1 : Int)) := hide (by unfold gapC; rw [HN.out]; simp)
      clear hfo2
      go_wp2
      go_ret
      exact ⟨j1, true, j2, false, HO1.out, HO2.out, fun e => (by cases e), by rw [HQ.out]; rfl, rfl⟩
  | false =>
    go_wp2_with fail
    refine HF2.out.mono ?_
    rintro _ w2 ⟨j2, f2, rfl, hfo2, hw2⟩
    subst hw2
    have HO2 := hide hfo2
    clear HF2
    cases f2 with
    | true =>
      have hj2 : j2 < m := by
        rcases hfo2 with ⟨e, _⟩ | ⟨_, q1, q2, _⟩
        · cases e
        · apply Classical.byContradiction
          intro hq
          have h9 := HFR.out j2 (by rw [HM.out]; omega) q1
          rw [h9] at q2
          omega
      obtain ⟨g, o, hpe, hc⟩ := HNR.out.cell j2 (by rw [HM.out]; exact hj2)
      obtain ⟨⟨x0, x1, x2, x3, x4⟩, hx⟩ : ∃ x, L.es[j2]! = x := ⟨_, rfl⟩
      rw [hx] at hc
      have d4 : w2.cell? ⟨g, o + j2 * 5 + 4, none⟩ = some (.int .i64 x4) := hc 4 (by omega)
      rw [hpe] at z4
      have HQ : Hid (gapC L j1 false j2 true = min (n : Int) x4) := hide (by unfold gapC; rw [hx, HN.out]; simp)
      have HJ : Hid (j2 < L.es.length) := hide (by rw [HM.out]; exact hj2)
      clear hfo2 hc hx hpe
      go_wp2
      go_ret
      exact ⟨j1, false, j2, true, HO1.out, HO2.out, fun _ => HJ.out, by rw [HQ.out]; rfl, rfl⟩
    | false =>
      have HQ : Hid (gapC L j1 false j2 false = (n : Int)) := hide (by unfold gapC; rw [HN.out]; simp)
      clear hfo2
      go_wp2
      go_ret
      exact ⟨j1, false, j2, false, HO1.out, HO2.out, fun e => (by cases e), by rw [HQ.out]; rfl, rfl⟩
end Go.Proofs.Ytcabfohmimglpaa
