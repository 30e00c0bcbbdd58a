/-
  What math/bits.Len64 does over any world, which it leaves as it is: it returns the length of its argument in bits. The condition is that the argument is a uint64.
-/
import Derived.Test.YtlfipmieaabagaaGreatRows
import Derived.Lib.Strings
import Derived.Lib.Slices
import Derived.Lib.Small
import Derived.Lib.Walk
import Derived.Lib.BitFns
namespace Go.Proofs.YtlfipmieaabagaaGreat

/-- The highest byte's length, and the bits below that byte, are the number's length. -/
theorem top_byte (k : Nat) (y x : Int) (hx : x ≤ 18446744073709551615) (hk : 2 ^ k ≤ x.toNat) (hk6 : k ≤ 56) (h0 : 0 ≤ y) (h1 : y ≤ 255) (e : y.toNat = x.toNat / 2 ^ k) :
    ((k : Int) + ((Lib.len8 y + 9223372036854775808) % 18446744073709551616 - 9223372036854775808) + 9223372036854775808) % 18446744073709551616 - 9223372036854775808 = ((Lib.bitLen x.toNat : Nat) : Int) := by
  have hs := Lib.bitLen_shift k x.toNat hk (by omega)
  have h8 := Lib.bitLen_le8' y h0 h1
  rw [Lib.len8_int y h0 h1, hs, ← e]
  omega

set_option maxHeartbeats 4000000 in
set_option maxRecDepth 100000 in
theorem len64_any (x : Int) (w : World) (h0 : 0 ≤ x) (h1 : x ≤ 18446744073709551615) :
    Calls Tryz.prog 80 #[.int .u64 x] w fun e w' => e = .returned (.int .i64 (Lib.bitLen x.toNat)) ∧ w' = w := by
  go_enter Tryz.func80, Tryz.ntmps80
  go_wp2
  all_goals (go_ret; refine ⟨congrArg Ending.returned (congrArg (Value.int IntKind.i64) ?_), rfl⟩)
  · exact top_byte 56 _ x h1 (by omega) (by decide) (by omega) (by omega) (by omega)
  · exact top_byte 48 _ x h1 (by omega) (by decide) (by omega) (by omega) (by omega)
  · exact top_byte 40 _ x h1 (by omega) (by decide) (by omega) (by omega) (by omega)
  · exact top_byte 32 _ x h1 (by omega) (by decide) (by omega) (by omega) (by omega)
  · exact top_byte 24 _ x h1 (by omega) (by decide) (by omega) (by omega) (by omega)
  · exact top_byte 16 _ x h1 (by omega) (by decide) (by omega) (by omega) (by omega)
  · have t := top_byte 8 (x / 256 % 256) x h1 (by omega) (by decide) (by omega) (by omega) (by omega)
    exact t
  · rw [Lib.len8_int (x % 256) (by omega) (by omega), show (x % 256).toNat = x.toNat by omega]

end Go.Proofs.YtlfipmieaabagaaGreat
