/-
  Plain facts on forms: what First reads of a form, whatever stands behind it, and that what it reads is that number's form. No condition; nothing of the program is named here.
-/
import Derived.Test.YthlkhjpobiohmaaUnp
namespace Go.Proofs.Ythlkhjpobiohmaa

theorem firstR_hi : ∀ (n u : Nat) (s : List Int), u ≤ n → u < 18446744073709551616 → firstR 0 0 (hi u ++ s) = firstR u (hi u).length s := by
  intro n
  induction n with
  | zero => intro u s h _; obtain rfl : u = 0 := by omega
            rw [hi_zero]; rfl
  | succ n ih =>
    intro u s h hu
    by_cases h0 : u = 0
    · subst h0; rw [hi_zero]; rfl
    · rw [hi_pos (by omega), List.append_assoc, ih (u / 128) _ (by omega) (by omega), List.singleton_append, firstR]
      have hc : ¬ (((hi (u / 128)).length = 0 ∧ ((u % 128 + 128 : Nat) : Int) = 128) ∨ 144115188075855872 ≤ u / 128) := by
        intro hor
        rcases hor with ⟨hl, hc⟩ | hq
        · have hz : u / 128 = 0 := by
            rcases Nat.eq_zero_or_pos (u / 128) with h | h
            · exact h
            · rw [hi_pos h] at hl; simp at hl
          omega
        · omega
      rw [if_neg hc, if_neg (by omega)]
      have e1 : u / 128 * 128 + (((u % 128 + 128 : Nat) : Int).toNat - 128) = u := by omega
      rw [e1]
      simp

theorem first_form (v : Nat) (s : List Int) (h : v < 18446744073709551616) : first (form v ++ s) = (uz v, sz v, 0) := by
  unfold first form sz form
  rw [List.append_assoc, firstR_hi _ _ _ (Nat.le_refl _) (by omega), List.singleton_append, firstR]
  have hc : ¬ (((hi (v / 128)).length = 0 ∧ ((v % 128 : Nat) : Int) = 128) ∨ 144115188075855872 ≤ v / 128) := by omega
  rw [if_neg hc, if_pos (by omega)]
  have e1 : v / 128 * 128 + ((v % 128 : Nat) : Int).toNat = v := by omega
  rw [e1]
  simp

theorem first_num (n : Int) (s : List Int) (h0 : -9223372036854775808 ≤ n) (h1 : n ≤ 9223372036854775807) : first (form (zz n) ++ s) = (n, sz (zz n), 0) := by
  rw [first_form _ _ (zz_lt n h0 h1), uz_zz]

theorem reads_form {n least most : Int} (s : List Int) (h0 : -9223372036854775808 ≤ n) (h1 : n ≤ 9223372036854775807) (hl : least ≤ n) (hm : n ≤ most) : reads (form (zz n) ++ s) 0 least most = (n, s, 0) := by
  rw [reads_in (first_num n s h0 h1) rfl (by omega)]
  have : (form (zz n) ++ s).drop (sz (zz n)) = s := List.drop_left
  rw [this]

theorem readsStr_form (x s : List Int) (hx : x.length ≤ 9223372036854775807) : readsStr (form (zz x.length) ++ (x ++ s)) 0 x.length = (x, s, 0) := by
  have h := reads_form (n := (x.length : Int)) (least := 0) (most := max (x.length : Int) 0) (x ++ s) (by omega) (by omega) (by omega) (by omega)
  unfold readsStr
  rw [h]
  simp only [ne_eq, not_true_eq_false, if_false, Int.toNat_natCast, List.take_left, List.drop_left]
  rw [if_neg (by simp; omega)]

end Go.Proofs.Ythlkhjpobiohmaa
