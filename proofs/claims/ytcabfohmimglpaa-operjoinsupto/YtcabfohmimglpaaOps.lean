/-
  set of the tree of greatest numbers. The conditions: lengths.
-/
import Derived.Test.YtcabfohmimglpaaOpf
namespace Go.Proofs.Ytcabfohmimglpaa
open Go.RowKit

theorem getD_set {qs : List Int} {k i : Nat} {v : Int} (hk : k < qs.length) : (qs.set k v).getD i 0 = if k = i then v else qs.getD i 0 := by
  simp only [List.getD_eq_getElem?_getD, List.getElem?_set]
  by_cases h : k = i
  · subst h
    simp [hk]
  · simp [h]
/-- All is right but what stands above a. -/
def Okay (qs : List Int) (H a : Nat) : Prop := ∀ i, 1 ≤ i → i < H → (∀ t, 1 ≤ t → a / 2 ^ t ≠ i) → qs.getD i 0 = max (qs.getD (2 * i) 0) (qs.getD (2 * i + 1) 0)
theorem Okay.start {ps : List Int} {H K pl : Nat} {v : Int} (h : Peak ps H K) (hp : pl < H) : Okay (ps.set (H + pl) v) H (H + pl) := fun i h1 h2 h3 => by
  have hl := h.len
  have h4 := h3 1 (Nat.le_refl _)
  rw [Nat.pow_one] at h4
  rw [getD_set (by omega), getD_set (by omega), getD_set (by omega), if_neg (by omega), if_neg (by omega), if_neg (by omega)]
  exact h.heap i h1 h2
theorem Okay.up {qs : List Int} {H a b : Nat} (h : Okay qs H a) (h1 : 1 < a) (h2 : a < 2 * H) (hl : qs.length = 2 * H) (hb : a / 2 = b) : Okay (qs.set b (max (qs.getD (2 * b) 0) (qs.getD (2 * b + 1) 0))) H b := fun i q1 q2 q3 => by
  rw [getD_set (by omega), getD_set (by omega), getD_set (by omega)]
  by_cases e : b = i
  · subst e
    rw [if_pos rfl, if_neg (by omega), if_neg (by omega)]
  · have q4 := q3 1 (Nat.le_refl _)
    rw [Nat.pow_one] at q4
    rw [if_neg e, if_neg (by omega), if_neg (by omega)]
    refine h i q1 q2 (fun t ht => ?_)
    obtain ⟨s, rfl⟩ : ∃ s, t = s + 1 := ⟨t - 1, by omega⟩
    rw [Nat.pow_succ, Nat.mul_comm, ← Nat.div_div_eq_div_mul, hb]
    by_cases hs : s = 0
    · subst hs
      rw [Nat.pow_zero, Nat.div_one]
      exact e
    · exact q3 s (by omega)
theorem Okay.end {qs : List Int} {H K : Nat} (h : Okay qs H 1) (hp : H = 2 ^ K) (hl : qs.length = 2 * H) : Peak qs H K :=
  ⟨hp, hl, fun i h1 h2 => h i h1 h2 (fun t ht => by
    have : 1 / 2 ^ t = 0 := Nat.div_eq_of_lt (by
      obtain ⟨s, rfl⟩ : ∃ s, t = s + 1 := ⟨t - 1, by omega⟩
      rw [Nat.pow_succ]
      have : 0 < 2 ^ s := Nat.pos_of_ne_zero (by simp)
      omega)
    omega)⟩
def Leaves (qs ps : List Int) (H pl : Nat) (v : Int) : Prop := ∀ j, j < H → qs.getD (H + j) 0 = if j = pl then v else ps.getD (H + j) 0

set_option maxRecDepth 100000 in
set_option maxHeartbeats 4000000 in
theorem set_any {W : World} {base g n c H K pl : Nat} {ps : List Int} {v : Int} (ho : W.ownsRow base 2 1 (.slice (some ⟨g, 0, none⟩) n c) n (ps.map (Value.int .i64))) (hp : Peak ps H K) (hpl : pl < H) (hb : n ≤ 1099511627776) :
    Calls Try.prog 25 #[.slice (some ⟨g, 0, none⟩) n c, .int .i64 (pl : Int), .int .i64 v] W fun e w' => ∃ r ps', e = .returned r ∧ w'.ownsRow base 2 1 (.slice (some ⟨g, 0, none⟩) n c) n (ps'.map (Value.int .i64)) ∧ Peak ps' H K ∧ Leaves ps' ps H pl v ∧ Only (· = g) W w' := by
  have hn : ps.length = n := (own_len ho).symm
  have hl := hp.len
  have hn2 : n = 2 * H := by omega
  have hq : ((n : Nat) : Int).tdiv 2 = (H : Int) := by rw [hn2, Int.natCast_mul]; exact Int.mul_tdiv_cancel_left _ (by decide)
  obtain ⟨_, _, ef, hnc, hct⟩ := own_form ho
  simp only [Value.slice.injEq, true_and] at ef
  obtain ⟨rfl, rfl⟩ := ef
  have hcells : ∀ (w : World) (qs : List Int), w.ownsRow base 2 1 (.slice (some ⟨g, 0, none⟩) n c) n (qs.map (Value.int .i64)) → ∀ i, i < n → w.cell? ⟨g, i, none⟩ = some (.int .i64 (qs.getD i 0)) := fun w qs h i hi => by
    have hq2 : qs.length = n := (own_len h).symm
    obtain ⟨b, o, hbo, _, _, _, hc⟩ := (own_row h).cellAt (by omega)
    simp only [Option.some.injEq, Addr.mk.injEq, and_true] at hbo
    obtain ⟨rfl, rfl⟩ := hbo
    have := hc i hi
    rw [Nat.zero_add] at this
    exact this
  have HCE := hide hcells
  have hmem : ∀ (w : World) (qs : List Int) (k : Nat) (x : Int), w.ownsRow base 2 1 (.slice (some ⟨g, 0, none⟩) n c) n (qs.map (Value.int .i64)) → (w.setCell ⟨g, k, none⟩ (.int .i64 x)).ownsRow base 2 1 (.slice (some ⟨g, 0, none⟩) n c) n ((qs.set k x).map (Value.int .i64)) := fun w qs k x h => by
    rw [List.map_set]
    exact (h.stored k _).1
  have HME := hide hmem
  have c0 := hcells _ _ ho (H + pl) (by omega)
  have f0 : W.frozen? ⟨g, H + pl, none⟩ = false := ho.frozenAt _
  have HN := hide hn2
  have HP := hide hp
  have HO1 := hide (hmem _ _ (H + pl) v ho)
  have HK0 := hide (Okay.start (v := v) hp hpl)
  have HL0 : Hid ((ps.set (H + pl) v).length = 2 * H) := hide (by rw [List.length_set]; exact hl)
  have HV0 : Hid (Leaves (ps.set (H + pl) v) ps H pl v) := hide (fun j hj => by
    rw [getD_set (by omega)]
    by_cases e : j = pl
    · subst e; rw [if_pos rfl, if_pos rfl]
    · rw [if_neg (by omega), if_neg e])
  have HY0 : Hid (Only (· = g) W (W.setCell ⟨g, H + pl, none⟩ (.int .i64 v))) := hide (Only.set W g (H + pl) _ rfl)
  have hhp : H + pl < n := by omega
  have ht1 : ((H : Int) + (pl : Int)).toNat = H + pl := by omega
  have ht2 : (H : Int) + (pl : Int) < (n : Int) := by omega
  have ht3 : (0 : Int) ≤ (H : Int) + (pl : Int) := by omega
  clear ho hp hn hl hn2 hcells hmem
  go_enter Try.func25, Try.ntmps25
  go_wp2_with fail
  go_loopw [6] (fun s wq => ∃ (a : Nat) (qs : List Int), s = .int .i64 (a : Int) ∧ a < n ∧ 1 ≤ a ∧ Hid (wq.ownsRow base 2 1 (.slice (some ⟨g, 0, none⟩) n c) n (qs.map (Value.int .i64))) ∧ Hid (Okay qs H a) ∧ Hid (qs.length = 2 * H) ∧ Hid (Leaves qs ps H pl v) ∧ Hid (Only (· = g) W wq)) (fun s _ => (intOf s).toNat)
  case atStart => exact ⟨H + pl, ps.set (H + pl) v, by first | rfl | go_num, hhp, by omega, HO1, HK0, HL0, HV0, HY0⟩
  case round =>
    obtain ⟨a, qs, rfl, han, ha1, HO, HK, HL, HV, HY⟩ := hrel
    rename World => wq
    clear HO1 HK0 HL0 HV0 HY0 c0 f0
    by_cases hlt : 1 < a
    · obtain ⟨a2, ha2⟩ : ∃ a2, a / 2 = a2 := ⟨_, rfl⟩
      have hq2 : ((a : Nat) : Int).tdiv 2 = (a2 : Int) := by
        rw [← ha2]
        rw [Int.tdiv_eq_ediv_of_nonneg (by omega)]
        omega
      have d1 : decide ((a : Int) > 1) = true := decide_eq_true (by omega)
      have h2a : 2 * a2 + 1 < n := by have := HN.out; omega
      have ha2n : a2 < n := by omega
      have e0 := HCE.out _ _ HO.out (2 * a2) (by omega)
      have e1 := HCE.out _ _ HO.out (2 * a2 + 1) h2a
      have e2 := HCE.out _ _ HO.out a2 ha2n
      have f2 : wq.frozen? ⟨g, a2, none⟩ = false := HO.out.frozenAt _
      have HO2 := hide (HME.out _ _ a2 (max (qs.getD (2 * a2) 0) (qs.getD (2 * a2 + 1) 0)) HO.out)
      have HK2 := hide (HK.out.up hlt (by have := HN.out; omega) HL.out ha2)
      have HL2 : Hid ((qs.set a2 (max (qs.getD (2 * a2) 0) (qs.getD (2 * a2 + 1) 0))).length = 2 * H) := hide (by rw [List.length_set]; exact HL.out)
      have HV2 : Hid (Leaves (qs.set a2 (max (qs.getD (2 * a2) 0) (qs.getD (2 * a2 + 1) 0))) ps H pl v) := hide (fun j hj => by
        have h9 := HL.out
        have h8 := HN.out
        rw [getD_set (by omega), if_neg (by omega)]
        exact HV.out j hj)
      have HY2 : Hid (Only (· = g) W (wq.setCell ⟨g, a2, none⟩ (.int .i64 (max (qs.getD (2 * a2) 0) (qs.getD (2 * a2 + 1) 0))))) := hide (HY.out.trans (Only.set wq g a2 _ rfl))
      obtain ⟨x0, hx0⟩ : ∃ x, qs.getD (2 * a2) 0 = x := ⟨_, rfl⟩
      obtain ⟨x1, hx1⟩ : ∃ x, qs.getD (2 * a2 + 1) 0 = x := ⟨_, rfl⟩
      obtain ⟨x2, hx2⟩ : ∃ x, qs.getD a2 0 = x := ⟨_, rfl⟩
      rw [hx0] at e0
      rw [hx1] at e1
      rw [hx2] at e2
      rw [hx0, hx1] at HO2 HK2 HL2 HV2 HY2
      have ha2p : 1 ≤ a2 := by omega
      have ha2l : a2 < a := by omega
      clear hx0 hx1 hx2 HO HK HL HV HY ha2
      go_upto_region 4 with fail
      go_region
      all_goals
        go_wp2
        first
          | exact ⟨⟨a2, _, by first | rfl | go_num, ha2n, ha2p, HO2, HK2, HL2, HV2, HY2⟩, by simp [intOf]; omega⟩
          | exact ⟨⟨a2, _, by first | rfl | go_num, ha2n, ha2p, hide HO2.out, HK2, HL2, HV2, hide HY2.out.drew⟩, by simp [intOf]; omega⟩
    · obtain rfl : a = 1 := by omega
      have HPF := hide (HK.out.end HP.out.pow HL.out)
      go_wp2
      refine bodyPost_end (results_none rfl _ _ _) rfl ?_
      exact ⟨_, qs, rfl, HO.out, HPF.out, HV.out, HY.out⟩
end Go.Proofs.Ytcabfohmimglpaa
