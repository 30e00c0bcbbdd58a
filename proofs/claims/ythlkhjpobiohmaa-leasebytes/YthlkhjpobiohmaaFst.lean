/-
  What pack.First and the reference's First return, over any world, which they leave as it is: the number with whose form bytes begin, its size, and the error. The condition: the slice reads as bytes.
-/
import Derived.Test.YthlkhjpobiohmaaByt
import Derived.WalkMore
import Derived.Deep.LoopGhost
namespace Go.Proofs.Ythlkhjpobiohmaa
open Go.RowKit

theorem shl_or (h : Nat) (c : Int) (hh : h < 144115188075855872) (c0 : 0 ≤ c) (c1 : c < 128) :
    bits .or .u64 ((h : Int) * 128) c = ((h * 128 + c.toNat : Nat) : Int) := by
  have e : bits .or .u64 ((h : Int) * 128) c = bits .or .u64 ((h * 128 : Nat) : Int) ((c.toNat : Nat) : Int) := by
    congr 1; omega
  rw [e, u64_or_nat (h * 128) c.toNat (by omega) (by omega), nat_join 7 (h * 128) c.toNat (by omega) (by omega)]

theorem firstR_cons {l : List Int} {h k : Nat} (hk : k < l.length) : firstR h k (l.drop k) =
    if (k = 0 ∧ l.getD k 0 = 128) ∨ 144115188075855872 ≤ h then (0, 0, 11) else if l.getD k 0 < 128 then (uz (h * 128 + (l.getD k 0).toNat), k + 1, 0) else firstR (h * 128 + ((l.getD k 0).toNat - 128)) (k + 1) (l.drop (k + 1)) := by
  rw [List.drop_eq_getElem_cons hk, firstR]; simp [List.getD, List.getElem?_eq_getElem hk]
theorem firstR_done {l : List Int} {h k : Nat} (hk : ¬ k < l.length) : firstR h k (l.drop k) = (0, 0, 10) := by
  rw [List.drop_of_length_le (by omega), firstR]
theorem U8.at {l : List Int} (h : U8 l) {k : Nat} (hk : k < l.length) : 0 ≤ l.getD k 0 ∧ l.getD k 0 < 256 := by
  have := h (l[k]) (List.getElem_mem hk)
  simpa [List.getD, List.getElem?_eq_getElem hk] using this

def fstV (t : Int × Nat × Int) : Value := .tuple #[.int .i64 t.1, .int .i64 (t.2.1 : Int), .int .i64 t.2.2]


theorem first_bad {t : Int × Nat × Int} {q k : Nat} {x : Int} {a b : Int × Nat × Int} (H : t = if (k = 0 ∧ x = 128) ∨ 144115188075855872 ≤ q then (0, 0, 11) else if x < 128 then a else b) (h : (k = 0 ∧ x = 128) ∨ 144115188075855872 ≤ q) : t = (0, 0, 11) := by rw [H, if_pos h]
theorem first_end {t : Int × Nat × Int} {q k : Nat} {x : Int} {a b : Int × Nat × Int} (H : t = if (k = 0 ∧ x = 128) ∨ 144115188075855872 ≤ q then (0, 0, 11) else if x < 128 then a else b) (h : ¬ ((k = 0 ∧ x = 128) ∨ 144115188075855872 ≤ q)) (hx : x < 128) : t = a := by rw [H, if_neg h, if_pos hx]
theorem first_on {t : Int × Nat × Int} {q k : Nat} {x : Int} {a b : Int × Nat × Int} (H : t = if (k = 0 ∧ x = 128) ∨ 144115188075855872 ≤ q then (0, 0, 11) else if x < 128 then a else b) (h : ¬ ((k = 0 ∧ x = 128) ∨ 144115188075855872 ≤ q)) (hx : ¬ x < 128) : t = b := by rw [H, if_neg h, if_neg hx]

set_option maxHeartbeats 2000000 in
theorem first_any {v : Value} {l : List Int} {w : World} (hv : Row .u8 w v l) (hu : U8 l) :
    Calls Try.prog 65 #[v] w fun e w' => e = .returned (fstV (first l)) ∧ w' = w := by
  obtain ⟨p, cap, rfl, g1, g2, g3, g4⟩ := hv
  have HL : Hid (0 < l.length → ∃ b o, p = some ⟨b, o, none⟩ ∧ ∀ i, i < l.length → w.cell? ⟨b, o + i, none⟩ = some (.int .u8 (l.getD i 0))) := g4
  have HU : Hid (U8 l) := hu
  clear g3 g4 hu
  go_enter Try.func65, Try.ntmps65
  go_wp2; go_step3; go_wp2; go_step3; go_wp2
  go_loop [5, 6, 11] (fun h f i => ∃ q k : Nat, k ≤ l.length ∧ q < 18446744073709551616 ∧ i = .int .i64 (k : Int) ∧ h = .int .u64 (q : Int) ∧ f = .int .i64 10 ∧ Hid (first l = firstR q k (l.drop k))) (fun _ _ i => l.length - (intOf i).toNat)
  case atStart => exact ⟨0, 0, Nat.zero_le _, by decide, rfl, rfl, rfl, rfl⟩
  case round =>
    obtain ⟨q, k, hk, hq, rfl, rfl, rfl, HF⟩ := hrel
    by_cases hlt : k < l.length
    · obtain ⟨bb, o, rfl, hc⟩ := HL.out (by omega)
      obtain ⟨x, hx⟩ : ∃ x, x = l.getD k 0 := ⟨_, rfl⟩
      have hcx : w.cell? ⟨bb, o + k, none⟩ = some (.int .u8 x) := by rw [hx]; exact hc k hlt
      obtain ⟨x0, x1⟩ := HU.out.at hlt
      rw [← hx] at x0 x1
      have HX : Hid (first l = if (k = 0 ∧ x = 128) ∨ 144115188075855872 ≤ q then (0, 0, 11) else if x < 128 then (uz (q * 128 + x.toNat), k + 1, 0) else firstR (q * 128 + (x.toNat - 128)) (k + 1) (l.drop (k + 1))) := by
        show _ = _
        rw [HF.out, hx]; exact firstR_cons hlt
      clear hc hx HL
      by_cases hq57 : 144115188075855872 ≤ q
      · have HE : Hid (first l = (0, 0, 11)) := first_bad HX.out (.inr hq57)
        clear HX HF
        go_wp2
        all_goals go_ret3
        all_goals exact ⟨by rw [HE.out]; rfl, rfl⟩
      · by_cases hk0 : k = 0 ∧ x = 128
        · have HE : Hid (first l = (0, 0, 11)) := first_bad HX.out (.inl hk0)
          obtain ⟨rfl, rfl⟩ := hk0
          rw [Nat.add_zero] at hcx
          clear HX HF
          go_wp2
          all_goals go_ret3
          all_goals exact ⟨by rw [HE.out]; rfl, rfl⟩
        · have hor : ¬ ((k = 0 ∧ x = 128) ∨ 144115188075855872 ≤ q) := fun h => h.elim hk0 hq57
          by_cases hx : x < 128
          · have HE : Hid (first l = (uz (q * 128 + x.toNat), k + 1, 0)) := first_end HX.out hor hx
            have HS : Hid (bits .or .u64 ((q : Int) * 128) x = ((q * 128 + x.toNat : Nat) : Int)) := shl_or q x (by omega) x0 hx
            have HK : Hid (¬ (k = 0 ∧ x = 128)) := hk0
            clear HX HF hk0 hor
            go_wp2_with (go_at_call 69; rw [HS.out]; refine (signed_any _ _ (by omega)).mono ?_; rintro e w' ⟨rfl, rfl⟩)
            all_goals rw [Exit.noGoto_ret]
            all_goals go_ret3
            all_goals exact ⟨by rw [HE.out]; first | rfl | (have hz : k = 0 := by assumption
                                                            subst hz; rfl), rfl⟩
          · have HE : Hid (first l = firstR (q * 128 + (x.toNat - 128)) (k + 1) (l.drop (k + 1))) := first_on HX.out hor hx
            have HS : Hid (bits .or .u64 ((q : Int) * 128) (x - 128) = ((q * 128 + (x - 128).toNat : Nat) : Int)) := shl_or q (x - 128) (by omega) (by omega) (by omega)
            have HT : Hid ((x - 128).toNat = x.toNat - 128) := by show _ = _; omega
            have HK : Hid (¬ (k = 0 ∧ x = 128)) := hk0
            clear HX HF hk0 hor
            go_wp2
            · exact absurd (And.intro ‹k = 0› (eq_of_beq ‹(x == 128) = true›)) HK.out
            all_goals
              go_round
              case rel => exact ⟨q * 128 + (x - 128).toNat, k + 1, by omega, by omega, by go_num, by rw [HS.out], rfl, by show _ = _; rw [HE.out, HT.out]⟩
              case measure => simp [intOf]; omega
    · have HE : Hid (first l = (0, 0, 10)) := by
        show _ = _
        rw [HF.out, firstR_done hlt]
      clear HF HL
      go_wp2
      go_ret3
      exact ⟨by rw [HE.out]; rfl, rfl⟩

theorem mod_lo {x : Int} (x0 : 0 ≤ x) (x1 : x < 128) : x % 128 = x := by omega
set_option maxRecDepth 100000 in
set_option maxHeartbeats 2000000 in
theorem rfirst_any {v : Value} {l : List Int} {w : World} (hv : Row .u8 w v l) (hu : U8 l) :
    Calls Try.prog 67 #[v] w fun e w' => e = .returned (fstV (first l)) ∧ w' = w := by
  obtain ⟨p, cap, rfl, g1, g2, g3, g4⟩ := hv
  have HL : Hid (0 < l.length → ∃ b o, p = some ⟨b, o, none⟩ ∧ ∀ i, i < l.length → w.cell? ⟨b, o + i, none⟩ = some (.int .u8 (l.getD i 0))) := g4
  have HU : Hid (U8 l) := hu
  clear g3 g4 hu
  go_enter Try.func67, Try.ntmps67
  go_wp2
  go_loop [5, 6] (fun h i => ∃ q k : Nat, k ≤ l.length ∧ q < 18446744073709551616 ∧ i = .int .i64 (k : Int) ∧ h = .int .u64 (q : Int) ∧ Hid (first l = firstR q k (l.drop k))) (fun _ i => l.length - (intOf i).toNat)
  case atStart => exact ⟨0, 0, Nat.zero_le _, by decide, rfl, rfl, rfl⟩
  case round =>
    obtain ⟨q, k, hk, hq, rfl, rfl, HF⟩ := hrel
    by_cases hlt : k < l.length
    · obtain ⟨bb, o, rfl, hc⟩ := HL.out (by omega)
      obtain ⟨x, hx⟩ : ∃ x, x = l.getD k 0 := ⟨_, rfl⟩
      have hcx : w.cell? ⟨bb, o + k, none⟩ = some (.int .u8 x) := by rw [hx]; exact hc k hlt
      obtain ⟨x0, x1⟩ := HU.out.at hlt
      rw [← hx] at x0 x1
      have HX : Hid (first l = if (k = 0 ∧ x = 128) ∨ 144115188075855872 ≤ q then (0, 0, 11) else if x < 128 then (uz (q * 128 + x.toNat), k + 1, 0) else firstR (q * 128 + (x.toNat - 128)) (k + 1) (l.drop (k + 1))) := by
        show _ = _
        rw [HF.out, hx]; exact firstR_cons hlt
      clear hc hx HL
      by_cases hkz : k = 0
      · subst hkz
        rw [Nat.add_zero] at hcx
        by_cases hx8 : x = 128
        · subst hx8
          have HE : Hid (first l = (0, 0, 11)) := first_bad HX.out (.inl ⟨rfl, rfl⟩)
          clear HX HF
          go_wp2
          all_goals go_ret3
          all_goals exact ⟨by rw [HE.out]; rfl, rfl⟩
        · have hd : (x == 128) = false := by simpa using hx8
          by_cases hq57 : 144115188075855872 ≤ q
          · have HE : Hid (first l = (0, 0, 11)) := first_bad HX.out (.inr hq57)
            have hdq : decide ((144115188075855872 : Int) ≤ (q : Int)) = true := by simp; omega
            clear HX HF hx8
            go_wp2
            all_goals go_ret3
            all_goals exact ⟨by rw [HE.out]; rfl, rfl⟩
          · have hor : ¬ ((0 = 0 ∧ x = 128) ∨ 144115188075855872 ≤ q) := fun h => h.elim (fun g => hx8 g.2) hq57
            by_cases hx : x < 128
            · have HE : Hid (first l = (uz (q * 128 + x.toNat), 0 + 1, 0)) := first_end HX.out hor hx
              have HS : Hid ((q : Int) * 128 + x % 128 = ((q * 128 + x.toNat : Nat) : Int)) := by show _ = _; omega
              have hdq : decide ((144115188075855872 : Int) ≤ (q : Int)) = false := by simp; omega
              clear HX HF hx8 hor
              go_wp2_with (go_at_call 70; go_must (rw [HS.out]); refine (number_any _ _ (by omega)).mono ?_; rintro e w' ⟨rfl, rfl⟩)
              all_goals go_ret3
              all_goals exact ⟨by rw [HE.out]; rfl, rfl⟩
            · have HE : Hid (first l = firstR (q * 128 + (x.toNat - 128)) (0 + 1) (l.drop (0 + 1))) := first_on HX.out hor hx
              have HS : Hid ((q : Int) * 128 + x % 128 = ((q * 128 + (x.toNat - 128) : Nat) : Int)) := by show _ = _; omega
              have hdq : decide ((144115188075855872 : Int) ≤ (q : Int)) = false := by simp; omega
              clear HX HF hx8 hor
              go_wp2
              go_round
              case rel => exact ⟨q * 128 + (x.toNat - 128), 0 + 1, by omega, by omega, by go_num, by rw [← HS.out], HE⟩
              case measure => simp [intOf]; omega
      · have hk8 : ((k : Int) == 0) = false := by simp; omega
        by_cases hq57 : 144115188075855872 ≤ q
        · have HE : Hid (first l = (0, 0, 11)) := first_bad HX.out (.inr hq57)
          have hdq : decide ((144115188075855872 : Int) ≤ (q : Int)) = true := by simp; omega
          clear HX HF hkz
          go_wp2
          all_goals go_ret3
          all_goals exact ⟨by rw [HE.out]; rfl, rfl⟩
        · have hor : ¬ ((k = 0 ∧ x = 128) ∨ 144115188075855872 ≤ q) := fun h => h.elim (fun g => hkz g.1) hq57
          by_cases hx : x < 128
          · have HE : Hid (first l = (uz (q * 128 + x.toNat), k + 1, 0)) := first_end HX.out hor hx
            have HS : Hid ((q : Int) * 128 + x % 128 = ((q * 128 + x.toNat : Nat) : Int)) := by show _ = _; omega
            have hdq : decide ((144115188075855872 : Int) ≤ (q : Int)) = false := by simp; omega
            clear HX HF hkz hor
            go_wp2_with (go_at_call 70; go_must (rw [HS.out]); refine (number_any _ _ (by omega)).mono ?_; rintro e w' ⟨rfl, rfl⟩)
            all_goals go_ret3
            all_goals exact ⟨by rw [HE.out]; rfl, rfl⟩
          · have HE : Hid (first l = firstR (q * 128 + (x.toNat - 128)) (k + 1) (l.drop (k + 1))) := first_on HX.out hor hx
            have HS : Hid ((q : Int) * 128 + x % 128 = ((q * 128 + (x.toNat - 128) : Nat) : Int)) := by show _ = _; omega
            have hdq : decide ((144115188075855872 : Int) ≤ (q : Int)) = false := by simp; omega
            clear HX HF hkz hor
            go_wp2
            go_round
            case rel => exact ⟨q * 128 + (x.toNat - 128), k + 1, by omega, by omega, by go_num, by rw [← HS.out], HE⟩
            case measure => simp [intOf]; omega
    · have HE : Hid (first l = (0, 0, 10)) := by
        show _ = _
        rw [HF.out, firstR_done hlt]
      clear HF HL
      go_wp2
      go_ret3
      exact ⟨by rw [HE.out]; rfl, rfl⟩
end Go.Proofs.Ythlkhjpobiohmaa
