/-
  What the functions that read and make byte slices do, over any world, in which nothing that was there turns: bytes.Equal and Clone, pack.begin, put, Int and Str, and the reference's form, Int, One and Str. The conditions: each slice reads as data, and what is made is no longer than 2^47 bytes.
-/
import Derived.Test.YtcabfohmimglpaaNum
namespace Go.Proofs.Ytcabfohmimglpaa
open Go.RowKit

theorem Try.infoU8 : (Try.prog.info? 5).map (fun i => (i.zero, i.size, i.bytes)) = some (some (.int .u8 0), 1, 1) := by kernel_rfl

theorem str_beq {l m : List Int} (hl : U8 l) (hm : U8 m) : ((strOfNums l).toList == (strOfNums m).toList) = decide (l = m) := by
  rw [strOfNums_list, strOfNums_list]
  by_cases h : l = m
  · subst h; simp
  · have : ¬ (l.map fun n => UInt8.ofNat n.toNat) = (m.map fun n => UInt8.ofNat n.toNat) := fun e => h (map_u8_inj l m hl hm e)
    simp [h, this]

theorem dig_or (v k : Nat) : bits .or .u8 ((v : Int) / 2 ^ (7 * k) % 256) 128 = ((v / 128 ^ k % 128 + 128 : Nat) : Int) := by
  have e1 : ((2 : Int) ^ (7 * k)) = ((128 ^ k : Nat) : Int) := by
    rw [Int.pow_mul]; norm_cast
  have e : (v : Int) / 2 ^ (7 * k) % 256 = ((v / 128 ^ k % 256 : Nat) : Int) := by
    rw [e1, ← Int.natCast_ediv]
    generalize v / 128 ^ k = q
    omega
  rw [e, show (128 : Int) = ((128 : Nat) : Int) from rfl, u8_or_nat (v / 128 ^ k % 256) 128 (by omega) (by decide)]
  generalize v / 128 ^ k = q
  have : ∀ y : Fin 256, (y.val ||| 128) = y.val % 128 + 128 := by decide +kernel
  have h := this ⟨q % 256, by omega⟩
  simp only at h
  rw [h]
  omega

theorem hi_step {v i : Nat} (hv : 128 ^ i ≤ v) : hi (v / 128 ^ (i + 1)) ++ [((v / 128 ^ i % 128 + 128 : Nat) : Int)] = hi (v / 128 ^ i) := by
  rw [hi_pos (v := v / 128 ^ i) (Nat.div_pos hv (Nat.pow_pos (by decide))), Nat.div_div_eq_div_mul, ← Nat.pow_succ]


/-- A new block of one cell, as 'append(b, x)' lays it for x. -/
theorem one_row (k : IntKind) (w : World) (x : Int) (t : TypeId) : Row k (w.alloc (.cells #[.int k x] t)) (.slice (some ⟨w.heap.size, 0, none⟩) 1 1) [x] := by
  refine ⟨some ⟨w.heap.size, 0, none⟩, 1, rfl, Nat.le_refl _, by decide, (by intro h; cases h), fun _ => ⟨w.heap.size, 0, rfl, fun i hi => ?_⟩⟩
  have : i = 0 := by simpa using hi
  subst this
  simp

end Go.Proofs.Ytcabfohmimglpaa
