/-
  What the functions on single numbers do, each over any world, which they leave as it is: pack.natural, signed and Size, bits.Len64, and the reference's natural and number. The conditions are that an argument is a value of its Go type.
-/
import Derived.Test.YtlfipmieaabagaaGreatRows
import Derived.Test.YtlfipmieaabagaaGreatKit
import Derived.Test.YtlfipmieaabagaaGreatLen
import Derived.Lib.Zigzag
namespace Go.Proofs.YtlfipmieaabagaaGreat
open Go.RowKit

theorem xor_ones (b : Nat) (hb : b < 18446744073709551616) : 18446744073709551615 ^^^ b = 18446744073709551615 - b := Lib.xor_ones64 b hb

theorem nat_bits (n : Int) (h0 : -9223372036854775808 ≤ n) (h1 : n ≤ 9223372036854775807) :
    bits .xor .u64 (IntKind.u64.wrap (IntKind.u64.wrap n * 2)) (IntKind.u64.wrap (n / 9223372036854775808)) = ((zz n : Nat) : Int) := by
  by_cases h : 0 ≤ n
  · have e1 : IntKind.u64.wrap (IntKind.u64.wrap n * 2) = (((2 * n).toNat : Nat) : Int) := by rw [IntKind.wrap_u64, IntKind.wrap_u64]; omega
    have e2 : IntKind.u64.wrap (n / 9223372036854775808) = ((0 : Nat) : Int) := by rw [IntKind.wrap_u64]; omega
    rw [e1, e2, bits_xor_u64_nat _ _ (by omega) (by omega)]
    unfold zz
    rw [if_pos h]
    simp
  · have e1 : IntKind.u64.wrap (IntKind.u64.wrap n * 2) = (((2 * n + 18446744073709551616).toNat : Nat) : Int) := by rw [IntKind.wrap_u64, IntKind.wrap_u64]; omega
    have e2 : IntKind.u64.wrap (n / 9223372036854775808) = ((18446744073709551615 : Nat) : Int) := by rw [IntKind.wrap_u64]; omega
    rw [e1, e2, bits_xor_u64_nat _ _ (by omega) (by omega), Nat.xor_comm, xor_ones _ (by omega)]
    unfold zz
    rw [if_neg h]
    omega

set_option maxHeartbeats 400000 in
theorem natural_any (n : Int) (w : World) (h0 : -9223372036854775808 ≤ n) (h1 : n ≤ 9223372036854775807) :
    Calls Tryz.prog 81 #[.int .i64 n] w fun e w' => e = .returned (.int .u64 ((zz n : Nat) : Int)) ∧ w' = w := by
  go_enter Tryz.func81, Tryz.ntmps81
  go_wp2
  go_ret
  exact ⟨retI (nat_bits n h0 h1), rfl⟩

theorem sgn_bits (v : Nat) (h : v < 18446744073709551616) :
    bits .xor .i64 ((v : Int) / 2) (wrap64 (-wrap64 (bits .and .u64 (v : Int) 1))) = uz v := by
  have e1 : bits .and .u64 (v : Int) 1 = ((v % 2 : Nat) : Int) := by
    have := u64_and_nat v 1 h (by decide)
    rw [nat_mask1] at this
    exact this
  rw [e1]
  unfold uz
  by_cases hv : v % 2 = 0
  · rw [hv, if_pos rfl, show wrap64 (-wrap64 ((0 : Nat) : Int)) = 0 by decide +kernel]
    show IntKind.i64.wrap ((BitVec.ofInt 64 ((v : Int) / 2) ^^^ BitVec.ofInt 64 0).toNat : Int) = _
    have h2 : (BitVec.ofInt 64 ((v : Int) / 2)).toNat = v / 2 := by
      rw [show ((v : Int) / 2) = ((v / 2 : Nat) : Int) by omega, BitVec.ofInt_natCast, BitVec.toNat_ofNat]; exact Nat.mod_eq_of_lt (by omega)
    rw [BitVec.toNat_xor, h2, show (BitVec.ofInt 64 0).toNat = 0 by decide, Nat.xor_zero, IntKind.wrap_i64]
    omega
  · rw [show v % 2 = 1 by omega, if_neg (by omega), show wrap64 (-wrap64 ((1 : Nat) : Int)) = -1 by decide +kernel]
    show IntKind.i64.wrap ((BitVec.ofInt 64 ((v : Int) / 2) ^^^ BitVec.ofInt 64 (-1)).toNat : Int) = _
    have h1 : (BitVec.ofInt 64 (-1)).toNat = 18446744073709551615 := by decide
    have h2 : (BitVec.ofInt 64 ((v : Int) / 2)).toNat = v / 2 := by
      rw [show ((v : Int) / 2) = ((v / 2 : Nat) : Int) by omega, BitVec.ofInt_natCast, BitVec.toNat_ofNat]; exact Nat.mod_eq_of_lt (by omega)
    rw [BitVec.toNat_xor, h1, h2, Nat.xor_comm, xor_ones _ (by omega), IntKind.wrap_i64]
    omega

set_option maxHeartbeats 400000 in
theorem signed_any (v : Nat) (w : World) (h : v < 18446744073709551616) :
    Calls Tryz.prog 128 #[.int .u64 (v : Int)] w fun e w' => e = .returned (.int .i64 (uz v)) ∧ w' = w := by
  go_enter Tryz.func128, Tryz.ntmps128
  go_wp2
  go_ret
  exact ⟨retI (sgn_bits v h), rfl⟩

theorem zz_pos {n : Int} (h : 0 ≤ n) : ((zz n : Nat) : Int) = 2 * n := by unfold zz; rw [if_pos h]; omega
theorem zz_neg {n : Int} (h : n < 0) : ((zz n : Nat) : Int) = 2 * -(n + 1) + 1 := by unfold zz; rw [if_neg (by omega)]; omega

set_option maxHeartbeats 400000 in
theorem rnatural_any (n : Int) (w : World) (h0 : -9223372036854775808 ≤ n) (h1 : n ≤ 9223372036854775807) :
    Calls Tryz.prog 89 #[.int .i64 n] w fun e w' => e = .returned (.int .u64 ((zz n : Nat) : Int)) ∧ w' = w := by
  go_enter Tryz.func89, Tryz.ntmps89
  go_wp2
  all_goals go_ret
  · exact ⟨retI (zz_pos (by omega)).symm, rfl⟩
  · exact ⟨retI (zz_neg (by omega)).symm, rfl⟩
theorem uz_even {v : Nat} (h : (v : Int) % 2 = 0) : uz v = (v : Int) / 2 := by unfold uz; rw [if_pos (by omega)]; omega
theorem uz_odd {v : Nat} (h : ¬ (v : Int) % 2 = 0) : uz v = -((v : Int) / 2) - 1 := by unfold uz; rw [if_neg (by omega)]; omega

set_option maxHeartbeats 400000 in
theorem number_any (v : Nat) (w : World) (h : v < 18446744073709551616) :
    Calls Tryz.prog 116 #[.int .u64 (v : Int)] w fun e w' => e = .returned (.int .i64 (uz v)) ∧ w' = w := by
  go_enter Tryz.func116, Tryz.ntmps116
  go_wp2
  all_goals go_ret
  · exact ⟨retI (uz_even (eq_of_beq ‹_›)).symm, rfl⟩
  · exact ⟨retI (uz_odd (ne_of_beq_false ‹_›)).symm, rfl⟩
theorem sz_len (v : Nat) (h : v < 18446744073709551616) : ((Lib.bitLen (v ||| 1) : Nat) + 6 : Int) / 7 = ((sz v : Nat) : Int) := by
  rw [← sz_bits v v (Nat.le_refl _) h]; omega

theorem bitLen_le64 : ∀ (f x : Nat), Lib.bitLenAux f x ≤ f := by
  intro f
  induction f with
  | zero => intro x; simp [Lib.bitLenAux]
  | succ f ih => intro x; simp only [Lib.bitLenAux]; split; omega; have := ih (x / 2); omega

set_option maxHeartbeats 400000 in
theorem size_any (n : Int) (w : World) (h0 : -9223372036854775808 ≤ n) (h1 : n ≤ 9223372036854775807) :
    Calls Tryz.prog 44 #[.int .i64 n] w fun e w' => e = .returned (.int .i64 ((sz (zz n) : Nat) : Int)) ∧ w' = w := by
  have hz := zz_lt n h0 h1
  have ho : bits .or .u64 ((zz n : Nat) : Int) 1 = (((zz n) ||| 1 : Nat) : Int) := u64_or_nat (zz n) 1 hz (by decide)
  have hl : (zz n) ||| 1 < 18446744073709551616 := Nat.or_lt_two_pow (n := 64) hz (by decide)
  have hb : Lib.bitLen ((zz n) ||| 1) ≤ 64 := bitLen_le64 64 _
  go_enter Tryz.func44, Tryz.ntmps44
  go_wp2_with (first
    | (go_at_call 81; refine (natural_any _ _ h0 h1).mono ?_; rintro e w' ⟨rfl, rfl⟩)
    | (go_at_call 80; refine (len64_any _ _ (by omega) (by omega)).mono ?_; rintro e w' ⟨rfl, rfl⟩))
  go_ret
  refine ⟨retI ?_, rfl⟩
  rw [← sz_len (zz n) hz]
  try simp only [Int.toNat_natCast]
  omega

end Go.Proofs.YtlfipmieaabagaaGreat
