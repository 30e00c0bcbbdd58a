/-
  What the program's Sum and the reference's return, over any world that holds the two tables, in which nothing that was there turns: the sum of the bytes. The conditions: the slice reads as bytes.
-/
import Derived.Test.YtcdjbfapldepaaaDoorCrc
import Derived.Deep.QuietTactic
import Derived.BigQuiet
namespace Go.Proofs.YtcdjbfapldepaaaDoor
open Go.RowKit

/-- The two tables lie in memory as the program's text lays them. -/
def Tabs (w : World) : Prop := (∀ i, i < 16 → w.cell? ⟨0, i, none⟩ = some (.int .u32 ((low.getD i 0 : Nat) : Int))) ∧ (∀ i, i < 16 → w.cell? ⟨1, i, none⟩ = some (.int .u32 ((high.getD i 0 : Nat) : Int)))

theorem Tabs.below {w w' : World} (h : Tabs w) (hb : Below w.heap.size w w') : Tabs w' :=
  ⟨fun i hi => cell_later hb (h.1 i hi), fun i hi => cell_later hb (h.2 i hi)⟩

set_option maxHeartbeats 1000000 in
theorem sum_any {v : Value} {l : List Int} {w : World} (h : Row .u8 w v l) (hu : U8 l) (ht : Tabs w) :
    Calls Tryd.prog 14 #[v] w fun e w' => e = .returned (.int .u32 ((crc l : Nat) : Int)) ∧ Below w.heap.size w w' := by
  obtain ⟨p, cap, rfl, g1, g2, g3, g4⟩ := h
  have HC : Hid (0 < l.length → ∃ b o, p = some ⟨b, o, none⟩ ∧ ∀ i, i < l.length → w.cell? ⟨b, o + i, none⟩ = some (.int .u8 (l.getD i 0))) := g4
  clear g3 g4
  go_enter Tryd.func14, Tryd.ntmps14
  go_wp2
  go_loopw [3, 9] (fun r i wr => ∃ k : Nat, k ≤ l.length ∧ i = .int .i64 (k : Int) ∧ r = .int .u32 ((reg 4294967295 (l.take k) : Nat) : Int) ∧ Below w.heap.size w wr) (fun _ i _ => l.length - (intOf i).toNat)
  case atStart => exact ⟨0, Nat.zero_le _, rfl, rfl, Below.refl _ _⟩
  case round =>
    obtain ⟨k, hk, rfl, rfl, hbr⟩ := hrel
    have hr := reg_lt (l.take k) (r := 4294967295) (by decide) (fun x hx => hu x (List.mem_of_mem_take hx))
    generalize hR : reg 4294967295 (l.take k) = r at hr
    by_cases hlt : k < l.length
    · obtain ⟨bb, o, rfl, hc⟩ := HC.out (by omega)
      obtain ⟨c, hcd⟩ : ∃ c, c = l.getD k 0 := ⟨_, rfl⟩
      have hcx : wr.cell? ⟨bb, o + k, none⟩ = some (.int .u8 c) := by rw [hcd]; exact cell_later hbr (hc k hlt)
      have hcm : 0 ≤ c ∧ c < 256 := hu c (by rw [hcd]; simp [List.getD, List.getElem?_eq_getElem hlt])
      obtain ⟨c0, c1⟩ := hcm
      have HCD : Hid (c = l.getD k 0) := hcd
      have HR : Hid (reg 4294967295 (l.take k) = r) := hR
      clear hc HC hcd hR
      obtain ⟨y, hy⟩ : ∃ y, y = (r % 256) ^^^ c.toNat := ⟨_, rfl⟩
      have hy1 : y < 256 := by rw [hy]; exact Nat.xor_lt_two_pow (n := 8) (by omega) (by omega)
      have e1 : bits .xor .u8 ((r : Int) % 256) c = (y : Int) := by
        obtain ⟨n, rfl⟩ : ∃ n : Nat, c = (n : Int) := ⟨c.toNat, by omega⟩
        rw [hy, show (r : Int) % 256 = ((r % 256 : Nat) : Int) by omega, u8_xor_nat _ _ (by omega) (by omega), Int.toNat_natCast]
      obtain ⟨a, ha⟩ : ∃ a, a = y % 16 := ⟨_, rfl⟩
      have e2 : bits .and .u8 (y : Int) 15 = (a : Int) := by
        rw [ha, show (15 : Int) = ((15 : Nat) : Int) from rfl, u8_and_nat _ _ (by omega) (by decide), nib ⟨y, hy1⟩]
      obtain ⟨d, hd⟩ : ∃ d, d = y / 16 := ⟨_, rfl⟩
      have e3 : (y : Int) / 16 = (d : Int) := by omega
      have a16 : a < 16 := by omega
      have d16 : d < 16 := by omega
      obtain ⟨A, hA⟩ : ∃ A, A = low.getD a 0 := ⟨_, rfl⟩
      obtain ⟨D, hD⟩ : ∃ D, D = high.getD d 0 := ⟨_, rfl⟩
      have A32 : A < 4294967296 := by rw [hA]; exact low_lt ⟨a, a16⟩
      have D32 : D < 4294967296 := by rw [hD]; exact high_lt ⟨d, d16⟩
      have t1 : wr.cell? ⟨0, a, none⟩ = some (.int .u32 (A : Int)) := by rw [hA]; exact (ht.below hbr).1 a a16
      have t2 : wr.cell? ⟨1, d, none⟩ = some (.int .u32 (D : Int)) := by rw [hD]; exact (ht.below hbr).2 d d16
      have HS : Hid (steps 8 (r ^^^ c.toNat) = ((r / 256) ^^^ A) ^^^ D) := by
        show _ = _
        rw [by_table r c.toNat (by omega), ← hy, ← ha, ← hd, ← hA, ← hD]
      clear hy ha hd hA hD
      go_wp2
      go_quiet (fail)
      have e4 : bits .xor .u32 (bits .xor .u32 ((r : Int) / 256) (A : Int)) (D : Int) = ((reg 4294967295 (l.take (k + 1)) : Nat) : Int) := by
        have h1 : r / 256 < 4294967296 := by omega
        rw [show (r : Int) / 256 = ((r / 256 : Nat) : Int) by omega, u32_xor_nat _ _ h1 A32, u32_xor_nat _ _ (Nat.xor_lt_two_pow (n := 32) h1 A32) D32, ← HS.out]
        have h2 : l.take (k + 1) = l.take k ++ [c] := by
          rw [HCD.out, List.take_add_one, List.getElem?_eq_getElem hlt]
          simp [List.getD, List.getElem?_eq_getElem hlt]
        rw [h2, reg_snoc, HR.out]
      go_wp2
      go_roundw
      case rel => exact ⟨k + 1, by omega, by go_num, by rw [e4], below_drewN hbr _⟩
      case measure => simp [intOf]; omega
    · have hk' : k = l.length := by omega
      have HE : Hid ((4294967295 ^^^ r : Nat) = crc l) := by
        show _ = _
        rw [← hR, hk', List.take_length]
        rfl
      clear HC hR
      go_wp2
      go_ret
      refine ⟨retI ?_, hbr⟩
      rw [← HE.out, show IntKind.u32.max = ((4294967295 : Nat) : Int) from rfl, u32_xor_nat _ _ (by decide) hr]

set_option maxHeartbeats 2000000 in
theorem rsum_any {v : Value} {l : List Int} {w : World} (h : Row .u8 w v l) (hu : U8 l) :
    Calls Tryd.prog 15 #[v] w fun e w' => e = .returned (.int .u32 ((crc l : Nat) : Int)) ∧ Below w.heap.size w w' := by
  obtain ⟨p, cap, rfl, g1, g2, g3, g4⟩ := h
  have HC : Hid (0 < l.length → ∃ b o, p = some ⟨b, o, none⟩ ∧ ∀ i, i < l.length → w.cell? ⟨b, o + i, none⟩ = some (.int .u8 (l.getD i 0))) := g4
  clear g3 g4
  go_enter Tryd.func15, Tryd.ntmps15
  go_wp2
  go_loopw [3, 4] (fun r i wr => ∃ k : Nat, k ≤ l.length ∧ i = .int .i64 (k : Int) ∧ r = .int .u32 ((reg 4294967295 (l.take k) : Nat) : Int) ∧ Below w.heap.size w wr) (fun _ i _ => l.length - (intOf i).toNat)
  case atStart => exact ⟨0, Nat.zero_le _, rfl, rfl, Below.refl _ _⟩
  case round =>
    obtain ⟨k, hk, rfl, rfl, hbr⟩ := hrel
    have hr := reg_lt (l.take k) (r := 4294967295) (by decide) (fun x hx => hu x (List.mem_of_mem_take hx))
    generalize hR : reg 4294967295 (l.take k) = r at hr
    by_cases hlt : k < l.length
    · obtain ⟨bb, o, rfl, hc⟩ := HC.out (by omega)
      obtain ⟨c, hcd⟩ : ∃ c, c = l.getD k 0 := ⟨_, rfl⟩
      have hcx : wr.cell? ⟨bb, o + k, none⟩ = some (.int .u8 c) := by rw [hcd]; exact cell_later hbr (hc k hlt)
      have hcm : 0 ≤ c ∧ c < 256 := hu c (by rw [hcd]; simp [List.getD, List.getElem?_eq_getElem hlt])
      obtain ⟨c0, c1⟩ := hcm
      have HS : Hid (steps 8 (r ^^^ c.toNat) = reg 4294967295 (l.take (k + 1))) := by
        have h2 : l.take (k + 1) = l.take k ++ [c] := by
          rw [hcd, List.take_add_one, List.getElem?_eq_getElem hlt]
          simp [List.getD, List.getElem?_eq_getElem hlt]
        show _ = _
        rw [h2, reg_snoc, hR]
      clear hc HC hcd hR
      go_wp2
      go_loopw [3, 5, 6] (fun r' c' i' wi => ∃ (j x y : Nat), j ≤ 8 ∧ i' = .int .i64 (j : Int) ∧ r' = .int .u32 (x : Int) ∧ c' = .int .u8 (y : Int) ∧ x < 4294967296 ∧ y < 2 ^ (8 - j) ∧ Hid (steps (8 - j) (x ^^^ y) = reg 4294967295 (l.take (k + 1))) ∧ wi = wr) (fun _ _ i _ => 8 - (intOf i).toNat)
      case atStart =>
        refine ⟨0, r, c.toNat, by omega, rfl, rfl, by rw [Int.toNat_of_nonneg c0], hr, by simp; omega, HS, rfl⟩
      case round =>
        obtain ⟨j, x, y, hj, rfl, rfl, rfl, hx, hy, hst, rfl⟩ := hrel
        have hy8 : y < 256 := Nat.lt_of_lt_of_le hy (by rw [show (256 : Nat) = 2 ^ 8 from rfl]; exact Nat.pow_le_pow_right (by decide) (by omega))
        by_cases hj8 : j < 8
        · have hy2 : y / 2 < 2 ^ (8 - (j + 1)) := by
            rw [show 8 - j = (8 - (j + 1)) + 1 by omega, Nat.pow_succ] at hy
            omega
          have HB := by_bit (8 - (j + 1)) x y
          rw [show 8 - (j + 1) + 1 = 8 - j by omega, hst.out] at HB
          have HB' : Hid (reg 4294967295 (l.take (k + 1)) = steps (8 - (j + 1)) ((if y % 2 ≠ x % 2 then (x / 2) ^^^ 2197175160 else x / 2) ^^^ (y / 2))) := HB
          clear HB hst hy
          have n1 : (0 : Int) ≤ (y : Int) % 2 := by omega
          by_cases ht : y % 2 = x % 2
          · have ht' : (((y : Int) % 2) != ((x : Int) % 2)) = false := by simp; omega
            go_wp2
            refine ⟨⟨j + 1, x / 2, y / 2, by omega, by go_num, congrArg (Value.int .u32) (by omega), congrArg (Value.int .u8) (by omega), by omega, hy2, ?_, trivial⟩, by simp [intOf]; omega⟩
            show _ = _
            rw [HB'.out, if_neg (by omega)]
          · have ht' : (((y : Int) % 2) != ((x : Int) % 2)) = true := by simp; omega
            have hx2 : bits .xor .u32 ((x : Int) / 2) 2197175160 = (((x / 2) ^^^ 2197175160 : Nat) : Int) := by
              rw [show (x : Int) / 2 = ((x / 2 : Nat) : Int) by omega, show (2197175160 : Int) = ((2197175160 : Nat) : Int) from rfl, u32_xor_nat _ _ (by omega) (by decide)]
            have hx3 : (x / 2) ^^^ 2197175160 < 4294967296 := Nat.xor_lt_two_pow (n := 32) (by omega) (by decide)
            go_wp2
            refine ⟨⟨j + 1, (x / 2) ^^^ 2197175160, y / 2, by omega, by go_num, rfl, congrArg (Value.int .u8) (by omega), hx3, hy2, ?_, trivial⟩, by simp [intOf]; omega⟩
            show _ = _
            rw [HB'.out, if_pos (by omega)]
        · obtain rfl : j = 8 := by omega
          obtain rfl : y = 0 := by simpa using hy
          have HX : Hid (x = reg 4294967295 (l.take (k + 1))) := by
            have := hst.out
            show _ = _
            simpa [steps] using this
          clear hst hy
          go_wp2
          go_roundw
          case rel => exact ⟨k + 1, by omega, by go_num, by rw [HX.out], hbr⟩
          case measure => simp [intOf]; omega
    · have hk' : k = l.length := by omega
      have HE : Hid ((4294967295 ^^^ r : Nat) = crc l) := by
        show _ = _
        rw [← hR, hk', List.take_length]
        rfl
      clear HC hR
      go_wp2
      go_ret
      refine ⟨retI ?_, hbr⟩
      rw [← HE.out, show IntKind.u32.max = ((4294967295 : Nat) : Int) from rfl, u32_xor_nat _ _ (by decide) hr]

end Go.Proofs.YtcdjbfapldepaaaDoor
