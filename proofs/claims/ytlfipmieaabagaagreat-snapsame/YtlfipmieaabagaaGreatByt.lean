/-
  What the functions that read and make byte slices do, over any world, in which nothing that was there turns: bytes.Equal and Clone, pack.begin, put, Int and Str, and the reference's form, Int, One and Str. The conditions: each slice reads as data, and what is made is no longer than 2^47 bytes.
-/
import Derived.Test.YtlfipmieaabagaaGreatNum
namespace Go.Proofs.YtlfipmieaabagaaGreat
open Go.RowKit

theorem Tryz.infoU8 : (Tryz.prog.info? 5).map (fun i => (i.zero, i.size, i.bytes)) = some (some (.int .u8 0), 1, 1) := by kernel_rfl

theorem str_beq {l m : List Int} (hl : U8 l) (hm : U8 m) : ((strOfNums l).toList == (strOfNums m).toList) = decide (l = m) := by
  rw [strOfNums_list, strOfNums_list]
  by_cases h : l = m
  · subst h; simp
  · have : ¬ (l.map fun n => UInt8.ofNat n.toNat) = (m.map fun n => UInt8.ofNat n.toNat) := fun e => h (map_u8_inj l m hl hm e)
    simp [h, this]

set_option maxHeartbeats 400000 in
theorem equal_any {v1 v2 : Value} {l m : List Int} {w : World} (h1 : Row .u8 w v1 l) (h2 : Row .u8 w v2 m) (hl : U8 l) (hm : U8 m) :
    Calls Tryz.prog 9 #[v1, v2] w fun e w' => e = .returned (.bool (decide (l = m))) ∧ w' = w := by
  have c1 := conv_row h1 29 5 9 Tryz.underlying29 Tryz.underlying5 Tryz.underlying9
  have c2 := conv_row h2 29 5 9 Tryz.underlying29 Tryz.underlying5 Tryz.underlying9
  go_enter Tryz.func9, Tryz.ntmps9
  go_wp2
  go_ret
  exact ⟨congrArg (fun b => Ending.returned (.bool b)) (str_beq hl hm), rfl⟩

set_option maxHeartbeats 1000000 in
theorem clone_any {v : Value} {l : List Int} {w : World} (h : Row .u8 w v l) (hbig : l.length ≤ 140737488355328) :
    Calls Tryz.prog 53 #[v] w fun e w' => ∃ v', e = .returned v' ∧ w'.ownsRow w.heap.size 5 1 v' l.length (l.map (Value.int .u8)) ∧ Below w.heap.size w w' := by
  obtain ⟨i0, hi, hz0, hz1, hz2⟩ := info_parts Tryz.infoU8
  have q : ∀ (w : World) (a : Option Addr) (n c : Nat), (binOp .eql 29 (.slice a n c) (.slice none 0 0)).run Tryz.prog w = .ok (.bool a.isNone) w := fun w a n c => Lib.run_eql_slice_nil w _ _ a n c 0 0 Tryz.underlying29
  obtain ⟨p, cap, rfl, g1, g2, g3, g4⟩ := id h
  cases p with
  | none =>
    obtain rfl : cap = 0 := g3 rfl
    obtain rfl : l = [] := List.eq_nil_of_length_eq_zero (by omega)
    go_enter Tryz.func53, Tryz.ntmps53
    go_wp2
    go_ret
    exact ⟨_, rfl, World.ownsRow_nil _ _ _ _, Below.refl _ _⟩
  | some ad =>
    have HG : Hid (Row .u8 w (.slice (some ad) l.length cap) l) := h
    clear h g3 g4
    go_enter Tryz.func53, Tryz.ntmps53
    go_wp2_with (at_builtin; refine append_row _ rfl _ _ 29 rfl w.heap.size 5 i0 .u8 1 Tryz.underlying29 hi hz0 hz1 hz2 _ _ _ rfl (World.ownsRow_made w #[] 0 (Nat.le_refl _) (Nat.zero_le _) rfl) _ l rfl (HG.out.below ((Below.refl _ w).alloc (Nat.le_refl _) _)) ?_ ?_ ?_ ?_)
    · omega
    · omega
    · simp
    intro v' w1 hown hgrow
    go_wp2
    go_ret
    exact ⟨v', rfl, by simpa using hown, ((Below.refl _ w).alloc (Nat.le_refl _) _).grown hgrow (by simp) (by intro k hk; simp [Value.ownBlock] at hk; omega)⟩

set_option maxHeartbeats 1000000 in
theorem begin_any {v : Value} {l : List Int} {w : World} (h : Row .u8 w v l) (r : Nat) (hbig : l.length + r ≤ 140737488355328) :
    Calls Tryz.prog 45 #[v, .int .i64 (r : Int)] w fun e w' => ∃ v', e = .returned v' ∧ w'.ownsRow w.heap.size 5 1 v' l.length (l.map (Value.int .u8)) ∧ Below w.heap.size w w' := by
  obtain ⟨i0, hi, hz0, hz1, hz2⟩ := info_parts Tryz.infoU8
  have HG : Hid (Row .u8 w v l) := h
  obtain ⟨p, cap, rfl, g1, g2, g3, g4⟩ := h
  clear g3 g4
  go_enter Tryz.func45, Tryz.ntmps45
  go_wp2_with (at_make; refine wpList_make_own _ rfl _ _ 29 rfl w.heap.size 5 i0 (.int .u8 0) 1 Tryz.underlying29 hi hz0 hz1 .i64 .i64 _ (l.length + r) rfl rfl ?_ ?_ ?_ ?_ ?_)
  · omega
  · rw [hz2]; omega
  · unfold maxLen; omega
  · omega
  intro w1 hown hgrow
  go_wp2_with (at_builtin; refine append_row _ rfl _ _ 29 rfl w.heap.size 5 i0 .u8 1 Tryz.underlying29 hi hz0 hz1 hz2 _ _ _ rfl hown _ l rfl (HG.out.kept hgrow (by cases p <;> simp [Value.ownBlock])) ?_ ?_ ?_ ?_)
  · omega
  · omega
  · exact hgrow.size
  intro v' w2 hown2 hgrow2
  go_wp2
  go_ret
  exact ⟨v', rfl, by simpa using hown2, ((Below.refl _ w).grown hgrow (Nat.le_refl _) (by simp)).grown hgrow2 hgrow.size (by intro k hk; simp [Value.ownBlock] at hk; omega)⟩

/- PUT. What a round appends: the digit of 128 to the i, with 128 added. -/
theorem dig_or (v k : Nat) : bits .or .u8 ((v : Int) / 2 ^ (7 * k) % 256) 128 = ((v / 128 ^ k % 128 + 128 : Nat) : Int) := by
  have e1 : ((2 : Int) ^ (7 * k)) = ((128 ^ k : Nat) : Int) := by
    rw [Int.pow_mul]; norm_cast
  have e : (v : Int) / 2 ^ (7 * k) % 256 = ((v / 128 ^ k % 256 : Nat) : Int) := by
    rw [e1, ← Int.natCast_ediv]
    generalize v / 128 ^ k = q
    omega
  rw [e, show (128 : Int) = ((128 : Nat) : Int) from rfl, u8_or_nat (v / 128 ^ k % 256) 128 (by omega) (by decide)]
  generalize v / 128 ^ k = q
  have : ∀ y : Fin 256, (y.val ||| 128) = y.val % 128 + 128 := by decide +kernel
  have h := this ⟨q % 256, by omega⟩
  simp only at h
  rw [h]
  omega

theorem hi_step {v i : Nat} (hv : 128 ^ i ≤ v) : hi (v / 128 ^ (i + 1)) ++ [((v / 128 ^ i % 128 + 128 : Nat) : Int)] = hi (v / 128 ^ i) := by
  rw [hi_pos (v := v / 128 ^ i) (Nat.div_pos hv (Nat.pow_pos (by decide))), Nat.div_div_eq_div_mul, ← Nat.pow_succ]


/-- A new block of one cell, as 'append(b, x)' lays it for x. -/
theorem one_row (k : IntKind) (w : World) (x : Int) (t : TypeId) : Row k (w.alloc (.cells #[.int k x] t)) (.slice (some ⟨w.heap.size, 0, none⟩) 1 1) [x] := by
  refine ⟨some ⟨w.heap.size, 0, none⟩, 1, rfl, Nat.le_refl _, by decide, (by intro h; cases h), fun _ => ⟨w.heap.size, 0, rfl, fun i hi => ?_⟩⟩
  have : i = 0 := by simpa using hi
  subst this
  simp

set_option maxHeartbeats 1000000 in
theorem put_any {v : Value} {xs : List Value} {m base : Nat} {w : World} (n : Int) (h0 : -9223372036854775808 ≤ n) (h1 : n ≤ 9223372036854775807)
    (hown : w.ownsRow base 5 1 v m xs) (hbase : base ≤ w.heap.size) (hbig : m + 10 ≤ 140737488355328) :
    Calls Tryz.prog 46 #[v, .int .i64 n] w fun e w' => ∃ v', e = .returned v' ∧ w'.ownsRow base 5 1 v' (m + sz (zz n)) (xs ++ (form (zz n)).map (Value.int .u8)) ∧ Below base w w' := by
  obtain ⟨i0, hI, hz0, hz1, hz2⟩ := info_parts Tryz.infoU8
  have hz := zz_lt n h0 h1
  have s1 := sz_pos (zz n)
  have s2 := sz_le10 hz
  go_enter Tryz.func46, Tryz.ntmps46
  go_wp2_with (first
    | (go_at_call 81; refine (natural_any _ _ h0 h1).mono ?_; rintro e w' ⟨rfl, rfl⟩)
    | (go_at_call 44; refine (size_any _ _ h0 h1).mono ?_; rintro e w' ⟨rfl, rfl⟩))
  go_loopw [0, 6] (fun b i wr => ∃ k : Nat, k < sz (zz n) ∧ i = .int .i64 (k : Int) ∧ wr.ownsRow base 5 1 b (m + (sz (zz n) - 1 - k)) (xs ++ (hi (zz n / 128 ^ (k + 1))).map (Value.int .u8)) ∧ Below base w' wr) (fun _ i _ => (intOf i).toNat)
  case atStart =>
    refine ⟨sz (zz n) - 1, by omega, by go_num, ?_, Below.refl _ _⟩
    rw [show sz (zz n) - 1 + 1 = sz (zz n) by omega, Nat.div_eq_of_lt (lt_pow_sz _ _ (Nat.le_refl _)), hi_zero]
    simpa using hown
  case round =>
    obtain ⟨k, hk, rfl, hownr, hb⟩ := hrel
    have hbs : base ≤ wr.heap.size := Nat.le_trans hbase hb.size
    have HP : Hid (1 < sz (zz n) → 128 ^ (sz (zz n) - 1) ≤ zz n) := pow_sz_le _ _ (Nat.le_refl _)
    by_cases hk0 : 0 < k
    · go_wp2_with (at_builtin; refine append_row _ rfl _ _ 29 rfl base 5 i0 .u8 1 Tryz.underlying29 hI hz0 hz1 hz2 _ _ _ rfl (hownr.alloc _) _ _ rfl (one_row .u8 _ _ _) ?_ ?_ ?_ ?_)
      · simp; omega
      · simp; omega
      · simp; omega
      intro v1 w1 hown1 hgrow1
      rw [dig_or] at hown1
      have hpow : 128 ^ k ≤ zz n := Nat.le_trans (Nat.pow_le_pow_right (by decide) (by omega)) (HP.out (by omega))
      have R : w1.ownsRow base 5 1 v1 (m + (sz (zz n) - 1 - (k - 1))) (xs ++ (hi (zz n / 128 ^ (k - 1 + 1))).map (Value.int .u8)) := by
        rw [show k - 1 + 1 = k by omega, ← hi_step hpow, show m + (sz (zz n) - 1 - (k - 1)) = m + (sz (zz n) - 1 - k) + [((zz n / 128 ^ k % 128 + 128 : Nat) : Int)].length by simp; omega]
        simpa using hown1
      have B1 : Below base w' w1 := (hb.alloc hbs _).grown hgrow1 (by simp; omega) (fun g hg => (hownr.lt g hg).1)
      clear hown1 hgrow1 hownr hb HP
      go_wp2
      go_roundw
      case rel => exact ⟨k - 1, by omega, by go_num, R, B1⟩
      case measure => simp [intOf]; omega
    · obtain rfl : k = 0 := by omega
      go_wp2_with (at_builtin; refine append_row _ rfl _ _ 29 rfl base 5 i0 .u8 1 Tryz.underlying29 hI hz0 hz1 hz2 _ _ _ rfl (hownr.alloc _) _ _ rfl (one_row .u8 _ _ _) ?_ ?_ ?_ ?_)
      · simp; omega
      · simp; omega
      · simp; omega
      intro v1 w1 hown1 hgrow1
      have R : w1.ownsRow base 5 1 v1 (m + sz (zz n)) (xs ++ (form (zz n)).map (Value.int .u8)) := by
        have e : m + (sz (zz n) - 1) + 1 = m + sz (zz n) := by omega
        unfold form
        simpa [e] using hown1
      have B1 : Below base w' w1 := (hb.alloc hbs _).grown hgrow1 (by simp; omega) (fun g hg => (hownr.lt g hg).1)
      clear hown1 hgrow1 hownr hb HP
      go_wp2
      go_ret
      exact ⟨v1, rfl, R, B1⟩

end Go.Proofs.YtlfipmieaabagaaGreat
