/-
  What live returns: true; over any world. No conditions.
-/
import Derived.Test.YtikpckmlnhcddaaGreatSgl
import Derived.Deep.CutRange
namespace Go.Proofs.YtikpckmlnhcddaaGreat
open Go.RowKit Go.Shelf Go.Maps

theorem row_of_block {W : World} {g : Nat} {l : List Int} {t : TypeId} (h : W.heap[g]? = some (.cells (l.map (Value.int .u8)).toArray t (0, 0))) (hl : l.length ≤ 9223372036854775807) : Row .u8 W (.slice (some ⟨g, 0, none⟩) l.length l.length) l := by
  refine ⟨_, l.length, rfl, Nat.le_refl _, hl, (by intro h; cases h), fun _ => ⟨g, 0, rfl, fun i hi => ?_⟩⟩
  simp [World.cell?, h, List.getD, List.getElem?_eq_getElem hi]
def LA : PW := ⟨2, 1, 2, [2, 3]⟩
def LB : PW := ⟨3, 3, 1, []⟩
theorem fitsB : Fits LB [1, 9, 9, 4] := ⟨by decide, by decide, by intro x hx; simp [LB] at hx⟩
theorem fitsA : Fits LA (takeBackL LB [1, 9, 9, 4] 0) := ⟨by decide, by decide, by intro x hx; simp [LA] at hx; rcases hx with rfl | rfl <;> decide⟩
theorem u8s (l : List Int) (h : l.all (fun x => decide (0 ≤ x ∧ x < 256)) = true) : U8 l := fun x hx => by
  have := List.all_eq_true.1 h x hx
  exact of_decide_eq_true this

set_option maxRecDepth 100000 in
set_option maxHeartbeats 8000000 in
theorem live_any (W : World) : Calls Tryz.prog 6 #[] W fun e w' => e = .returned (.bool true) ∧ Below W.heap.size W w' := by
  obtain ⟨W1, hW1⟩ : ∃ W1, W1 = ((((W.alloc (.cells #[.int .u8 1, .int .u8 9, .int .u8 9] 5)).alloc (.cells #[.int .u8 1, .int .u8 9, .int .u8 3] 5)).alloc (.cells #[.int .u8 1, .int .u8 9, .int .u8 9, .int .u8 4] 5)).alloc
      (.cells #[.slice (some ⟨W.heap.size, 0, none⟩) 3 3, .slice (some ⟨W.heap.size + 1, 0, none⟩) 3 3, .slice (some ⟨W.heap.size + 1 + 1, 0, none⟩) 4 4] 31)) := ⟨_, rfl⟩
  have hB1 : Below W.heap.size W W1 := by rw [hW1]; exact (((alloc_below W _).alloc (by simp) _).alloc (by simp; omega) _).alloc (by simp; omega) _
  have hs1 : W1.heap.size = W.heap.size + 4 := by rw [hW1]; simp
  have hO : W1.heap[W.heap.size + 1 + 1 + 1]? = some (.cells #[.slice (some ⟨W.heap.size, 0, none⟩) 3 3, .slice (some ⟨W.heap.size + 1, 0, none⟩) 3 3, .slice (some ⟨W.heap.size + 1 + 1, 0, none⟩) 4 4] 31 (0, 0)) := by
    have := heap_alloc_new (((W.alloc (.cells #[.int .u8 1, .int .u8 9, .int .u8 9] 5)).alloc (.cells #[.int .u8 1, .int .u8 9, .int .u8 3] 5)).alloc (.cells #[.int .u8 1, .int .u8 9, .int .u8 9, .int .u8 4] 5)) (.cells #[.slice (some ⟨W.heap.size, 0, none⟩) 3 3, .slice (some ⟨W.heap.size + 1, 0, none⟩) 3 3, .slice (some ⟨W.heap.size + 1 + 1, 0, none⟩) 4 4] 31)
    simp only [World.size_alloc] at this
    rw [hW1]
    exact this
  have hI2 : W1.heap[W.heap.size + 1 + 1]? = some (.cells #[.int .u8 1, .int .u8 9, .int .u8 9, .int .u8 4] 5 (0, 0)) := by
    have := heap_alloc_new ((W.alloc (.cells #[.int .u8 1, .int .u8 9, .int .u8 9] 5)).alloc (.cells #[.int .u8 1, .int .u8 9, .int .u8 3] 5)) (.cells #[.int .u8 1, .int .u8 9, .int .u8 9, .int .u8 4] 5)
    simp only [World.size_alloc] at this
    rw [hW1]
    exact ((alloc_below _ _).block _ (by simp)).trans this
  have hI1 : W1.heap[W.heap.size + 1]? = some (.cells #[.int .u8 1, .int .u8 9, .int .u8 3] 5 (0, 0)) := by
    have := heap_alloc_new (W.alloc (.cells #[.int .u8 1, .int .u8 9, .int .u8 9] 5)) (.cells #[.int .u8 1, .int .u8 9, .int .u8 3] 5)
    simp only [World.size_alloc] at this
    rw [hW1]
    exact ((alloc_below _ _).block _ (by simp)).trans (((alloc_below _ _).block _ (by simp)).trans this)
  have hI0 : W1.heap[W.heap.size]? = some (.cells #[.int .u8 1, .int .u8 9, .int .u8 9] 5 (0, 0)) := by
    rw [hW1]
    exact ((alloc_below _ _).block _ (by simp; omega)).trans (((alloc_below _ _).block _ (by simp; omega)).trans (((alloc_below _ _).block _ (by simp)).trans (heap_alloc_new W _)))
  have R0 : Hid (Row .u8 W1 (.slice (some ⟨W.heap.size, 0, none⟩) 3 3) [1, 9, 9]) := hide (row_of_block (l := [1, 9, 9]) hI0 (by decide))
  have R1 : Hid (Row .u8 W1 (.slice (some ⟨W.heap.size + 1, 0, none⟩) 3 3) [1, 9, 3]) := hide (row_of_block (l := [1, 9, 3]) hI1 (by decide))
  have R2 : Hid (Row .u8 W1 (.slice (some ⟨W.heap.size + 1 + 1, 0, none⟩) 4 4) [1, 9, 9, 4]) := hide (row_of_block (l := [1, 9, 9, 4]) hI2 (by decide))
  have O0 : Hid (W1.cell? ⟨W.heap.size + 1 + 1 + 1, 0, none⟩ = some (.slice (some ⟨W.heap.size, 0, none⟩) 3 3)) := hide (by simp [World.cell?, hO])
  have O1 : Hid (W1.cell? ⟨W.heap.size + 1 + 1 + 1, 1, none⟩ = some (.slice (some ⟨W.heap.size + 1, 0, none⟩) 3 3)) := hide (by simp [World.cell?, hO])
  have O2 : Hid (W1.cell? ⟨W.heap.size + 1 + 1 + 1, 2, none⟩ = some (.slice (some ⟨W.heap.size + 1 + 1, 0, none⟩) 4 4)) := hide (by simp [World.cell?, hO])
  have HB1 := hide hB1
  have HW1 := hide hW1
  clear hO hI0 hI1 hI2 hB1
  go_enter Tryz.func6, Tryz.ntmps6
  go_wp2_with fail
  rw [← hW1]
  clear hW1
  go_loopw [15] (fun i wr => ∃ k : Nat, k ≤ 3 ∧ i = .int .i64 (k : Int) ∧ Hid (Below W1.heap.size W1 wr)) (fun i _ => 3 - (intOf i).toNat)
  case atStart => exact ⟨0, by omega, rfl, hide (Below.refl _ _)⟩
  case round =>
    obtain ⟨k, hk, rfl, HB⟩ := hrel
    by_cases hlt : k < 3
    · obtain rfl | rfl | rfl : k = 0 ∨ k = 1 ∨ k = 2 := by omega
      · have oc := cell_later HB.out O0.out
        have HW := hide (R0.out.below HB.out)
        have hsw : W.heap.size ≤ wr.heap.size := by have := HB.out.size; omega
        clear O0 O1 O2 R0 R1 R2 hlt hk
        go_wp2_with fail
        refine (sing_new (W := wr) (room := 10) (B := wr.heap.size) (Ex := fun _ => False) (by decide) (by decide) (Nat.le_refl _) (fun _ h => h.elim)).mono ?_
        rintro _ w2 ⟨sb, rfl, hz, hb⟩
        have S := hide hz
        have HB2 : Hid (Below wr.heap.size wr w2) := hide hb
        clear hz hb oc
        go_wp2_with fail
        refine (sing_create S.out HB2.out.size (fun _ h => h.elim)).mono ?_
        rintro _ w3 ⟨rfl, hs, hb⟩
        have S3 := hide hs
        have HB3 : Hid (Below wr.heap.size wr w3) := hide (HB2.out.trans hb)
        clear S HB2 hs hb
        have RB : Hid (Row .u8 (w3.alloc (.cells #[.int .u8 1, .int .u8 2, .int .u8 3] 5)) (.slice (some ⟨w3.heap.size, 0, none⟩) 3 3) [1, 2, 3]) := hide (row_of_block (l := [1, 2, 3]) (heap_alloc_new _ _) (by decide))
        have SX : Hid (Sing wr.heap.size (fun i => i = w3.heap.size) (w3.alloc (.cells #[.int .u8 1, .int .u8 2, .int .u8 3] 5)) sb [] [] 10 0 0 true) := hide ((S3.out.ex (fun i h => .inr (by omega))).later (alloc_below _ _))
        have HSZ : Hid (wr.heap.size ≤ (w3.alloc (.cells #[.int .u8 1, .int .u8 2, .int .u8 3] 5)).heap.size) := by have := HB3.out.size; show _ ≤ _; simp; omega
        have HBX : Hid (Below wr.heap.size wr (w3.alloc (.cells #[.int .u8 1, .int .u8 2, .int .u8 3] 5))) := hide (HB3.out.trans ((alloc_below _ _).mono HB3.out.size))
        clear S3
        go_wp2_with fail
        refine (sing_write (at_ := 0) SX.out HSZ.out (fun i h => by simp; omega) RB.out (fun i h => by simpa [Value.ownBlock] using h.symm) (u8s _ (by decide)) (by decide) (by decide) (by decide) (by decide) (by decide) (by decide) (by decide) (by decide) (by decide) (by decide)).mono ?_
        rintro _ w4 ⟨rfl, hs, hb⟩
        have S4 : Hid (Sing wr.heap.size (fun _ => False) w4 sb [1, 2, 3] [⟨1, 0, 3, []⟩] 7 1 1 true) := hide (hs.ex (fun _ h => h.elim))
        have HB4 : Hid (Below wr.heap.size wr w4) := hide (HBX.out.trans hb)
        clear hs hb RB SX HSZ HBX HB3
        go_wp2_with fail
        refine (sing_sync S4.out HB4.out.size (fun _ h => h.elim) rfl (by decide)).mono ?_
        rintro _ w5 ⟨rfl, hs, hb⟩
        have S5 := hide hs
        have HB5 : Hid (Below wr.heap.size wr w5) := hide (HB4.out.trans hb)
        clear S4 HB4 hs hb
        have RB : Hid (Row .u8 (w5.alloc (.cells #[.int .u8 9, .int .u8 9] 5)) (.slice (some ⟨w5.heap.size, 0, none⟩) 2 2) [9, 9]) := hide (row_of_block (l := [9, 9]) (heap_alloc_new _ _) (by decide))
        have SX : Hid (Sing wr.heap.size (fun i => i = w5.heap.size) (w5.alloc (.cells #[.int .u8 9, .int .u8 9] 5)) sb [1, 2, 3] [] 7 0 1 true) := hide ((S5.out.ex (fun i h => .inr (by omega))).later (alloc_below _ _))
        have HSZ : Hid (wr.heap.size ≤ (w5.alloc (.cells #[.int .u8 9, .int .u8 9] 5)).heap.size) := by have := HB5.out.size; show _ ≤ _; simp; omega
        have HBX : Hid (Below wr.heap.size wr (w5.alloc (.cells #[.int .u8 9, .int .u8 9] 5))) := hide (HB5.out.trans ((alloc_below _ _).mono HB5.out.size))
        clear S5
        go_wp2_with fail
        refine (sing_write (at_ := 1) SX.out HSZ.out (fun i h => by simp; omega) RB.out (fun i h => by simpa [Value.ownBlock] using h.symm) (u8s _ (by decide)) (by decide) (by decide) (by decide) (by decide) (by decide) (by decide) (by decide) (by decide) (by decide) (by decide)).mono ?_
        rintro _ w6 ⟨rfl, hs, hb⟩
        have S6 : Hid (Sing wr.heap.size (fun _ => False) w6 sb [1, 9, 9] [LA] 7 1 2 true) := hide (hs.ex (fun _ h => h.elim))
        have HB6 : Hid (Below wr.heap.size wr w6) := hide (HBX.out.trans hb)
        clear hs hb RB SX HSZ HBX HB5
        have RB : Hid (Row .u8 (w6.alloc (.cells #[.int .u8 4] 5)) (.slice (some ⟨w6.heap.size, 0, none⟩) 1 1) [4]) := hide (row_of_block (l := [4]) (heap_alloc_new _ _) (by decide))
        have SX : Hid (Sing wr.heap.size (fun i => i = w6.heap.size) (w6.alloc (.cells #[.int .u8 4] 5)) sb [1, 9, 9] [LA] 7 1 2 true) := hide ((S6.out.ex (fun i h => .inr (by omega))).later (alloc_below _ _))
        have HSZ : Hid (wr.heap.size ≤ (w6.alloc (.cells #[.int .u8 4] 5)).heap.size) := by have := HB6.out.size; show _ ≤ _; simp; omega
        have HBX : Hid (Below wr.heap.size wr (w6.alloc (.cells #[.int .u8 4] 5))) := hide (HB6.out.trans ((alloc_below _ _).mono HB6.out.size))
        clear S6
        go_wp2_with fail
        refine (sing_write (at_ := 3) SX.out HSZ.out (fun i h => by simp; omega) RB.out (fun i h => by simpa [Value.ownBlock] using h.symm) (u8s _ (by decide)) (by decide) (by decide) (by decide) (by decide) (by decide) (by decide) (by decide) (by decide) (by decide) (by decide)).mono ?_
        rintro _ w7 ⟨rfl, hs, hb⟩
        have S7 : Hid (Sing wr.heap.size (fun _ => False) w7 sb [1, 9, 9, 4] [LA, LB] 6 2 3 true) := hide (hs.ex (fun _ h => h.elim))
        have HB7 : Hid (Below wr.heap.size wr w7) := hide (HBX.out.trans hb)
        clear hs hb RB SX HSZ HBX HB6
        go_wp2_with fail
        refine (sing_pending S7.out).mono ?_
        rintro _ _ ⟨rfl, rfl⟩
        rename World => w8
        go_upto_region 7 with fail
        go_cut [5, 6] from 17 to 111 (fun s5 s6 wd => s5 = .int .i64 1 ∧ s6 = .int .i64 0 ∧ Hid (Below w8.heap.size w8 wd))
        case first =>
          go_region
          all_goals
            go_wp2_with fail
            go_meet
            case rel => exact ⟨rfl, rfl, hide (((alloc_below w8 _).trans ((alloc_below _ _).mono (by simp))).drew)⟩
        case rest =>
        obtain ⟨rfl, rfl, HC⟩ := hcut
        rename World => w9
        have S9 := hide (S7.out.later HC.out)
        have HB9 : Hid (Below wr.heap.size wr w9) := hide (HB7.out.trans (HC.out.mono HB7.out.size))
        clear S7 HB7 HC
        have HE : Hid ([1, 9, 9] = if (mag 1).toNat % 3 = 2 then [1, 9, 9, 4] else if (mag 1).toNat % 3 = 1 then takeBackL LB [1, 9, 9, 4] ((mag 0).toNat % (LB.size + 1)) else takeBackL LA (takeBackL LB [1, 9, 9, 4] 0) ((mag 0).toNat % (LA.size + 1))) := by show _ = _; decide
        go_wp2_with fail
        refine (sing_crash (keep := 1) (torn := 0) S9.out HB9.out.size (fun _ h => h.elim) (by decide) fitsB fitsA (by decide) (by decide) (by decide) (by decide) (by decide) (by decide) (by decide) HE.out).mono ?_
        rintro _ w10 ⟨rfl, ⟨left, hs, _⟩, hb⟩
        have S10 := hide hs
        have HB10 : Hid (Below wr.heap.size wr w10) := hide (HB9.out.trans hb)
        clear S9 HB9 hs hb HE
        go_wp2_with fail
        refine (sing_up S10.out).mono ?_
        rintro _ _ ⟨rfl, rfl⟩
        go_wp2_with fail
        refine (sing_start S10.out HB10.out.size).mono ?_
        rintro _ w11 ⟨rfl, hs, hb⟩
        have S11 := hide hs
        have HB11 : Hid (Below wr.heap.size wr w11) := hide (HB10.out.trans hb)
        clear S10 HB10 hs hb
        go_wp2_with fail
        refine (sing_read (at_ := 0) (n := 3) S11.out (by decide) (by decide)).mono ?_
        rintro _ w12 ⟨p, cp, rfl, hr, hb⟩
        have S12 := hide (S11.out.later hb)
        have HB12 : Hid (Below wr.heap.size wr w12) := hide (HB11.out.trans (hb.mono HB11.out.size))
        have RR : Hid (Row .u8 w12 (.slice p 3 cp) [1, 9, 9]) := hide (own_row hr)
        clear S11 HB11 hr hb
        go_wp2_with fail
        refine (sing_size S12.out).mono ?_
        rintro _ _ ⟨rfl, rfl⟩
        go_wp2_with fail
        refine (equal_any RR.out (HW.out.below HB12.out) (u8s _ (by decide)) (u8s _ (by decide))).mono ?_
        rintro _ _ ⟨rfl, rfl⟩
        go_wp2
        go_roundw
        case rel => exact ⟨1, by omega, rfl, hide (HB.out.trans (HB12.out.mono HB.out.size))⟩
        case measure => simp [intOf]
      · have oc := cell_later HB.out O1.out
        have HW := hide (R1.out.below HB.out)
        have hsw : W.heap.size ≤ wr.heap.size := by have := HB.out.size; omega
        clear O0 O1 O2 R0 R1 R2 hlt hk
        go_wp2_with fail
        refine (sing_new (W := wr) (room := 10) (B := wr.heap.size) (Ex := fun _ => False) (by decide) (by decide) (Nat.le_refl _) (fun _ h => h.elim)).mono ?_
        rintro _ w2 ⟨sb, rfl, hz, hb⟩
        have S := hide hz
        have HB2 : Hid (Below wr.heap.size wr w2) := hide hb
        clear hz hb oc
        go_wp2_with fail
        refine (sing_create S.out HB2.out.size (fun _ h => h.elim)).mono ?_
        rintro _ w3 ⟨rfl, hs, hb⟩
        have S3 := hide hs
        have HB3 : Hid (Below wr.heap.size wr w3) := hide (HB2.out.trans hb)
        clear S HB2 hs hb
        have RB : Hid (Row .u8 (w3.alloc (.cells #[.int .u8 1, .int .u8 2, .int .u8 3] 5)) (.slice (some ⟨w3.heap.size, 0, none⟩) 3 3) [1, 2, 3]) := hide (row_of_block (l := [1, 2, 3]) (heap_alloc_new _ _) (by decide))
        have SX : Hid (Sing wr.heap.size (fun i => i = w3.heap.size) (w3.alloc (.cells #[.int .u8 1, .int .u8 2, .int .u8 3] 5)) sb [] [] 10 0 0 true) := hide ((S3.out.ex (fun i h => .inr (by omega))).later (alloc_below _ _))
        have HSZ : Hid (wr.heap.size ≤ (w3.alloc (.cells #[.int .u8 1, .int .u8 2, .int .u8 3] 5)).heap.size) := by have := HB3.out.size; show _ ≤ _; simp; omega
        have HBX : Hid (Below wr.heap.size wr (w3.alloc (.cells #[.int .u8 1, .int .u8 2, .int .u8 3] 5))) := hide (HB3.out.trans ((alloc_below _ _).mono HB3.out.size))
        clear S3
        go_wp2_with fail
        refine (sing_write (at_ := 0) SX.out HSZ.out (fun i h => by simp; omega) RB.out (fun i h => by simpa [Value.ownBlock] using h.symm) (u8s _ (by decide)) (by decide) (by decide) (by decide) (by decide) (by decide) (by decide) (by decide) (by decide) (by decide) (by decide)).mono ?_
        rintro _ w4 ⟨rfl, hs, hb⟩
        have S4 : Hid (Sing wr.heap.size (fun _ => False) w4 sb [1, 2, 3] [⟨1, 0, 3, []⟩] 7 1 1 true) := hide (hs.ex (fun _ h => h.elim))
        have HB4 : Hid (Below wr.heap.size wr w4) := hide (HBX.out.trans hb)
        clear hs hb RB SX HSZ HBX HB3
        go_wp2_with fail
        refine (sing_sync S4.out HB4.out.size (fun _ h => h.elim) rfl (by decide)).mono ?_
        rintro _ w5 ⟨rfl, hs, hb⟩
        have S5 := hide hs
        have HB5 : Hid (Below wr.heap.size wr w5) := hide (HB4.out.trans hb)
        clear S4 HB4 hs hb
        have RB : Hid (Row .u8 (w5.alloc (.cells #[.int .u8 9, .int .u8 9] 5)) (.slice (some ⟨w5.heap.size, 0, none⟩) 2 2) [9, 9]) := hide (row_of_block (l := [9, 9]) (heap_alloc_new _ _) (by decide))
        have SX : Hid (Sing wr.heap.size (fun i => i = w5.heap.size) (w5.alloc (.cells #[.int .u8 9, .int .u8 9] 5)) sb [1, 2, 3] [] 7 0 1 true) := hide ((S5.out.ex (fun i h => .inr (by omega))).later (alloc_below _ _))
        have HSZ : Hid (wr.heap.size ≤ (w5.alloc (.cells #[.int .u8 9, .int .u8 9] 5)).heap.size) := by have := HB5.out.size; show _ ≤ _; simp; omega
        have HBX : Hid (Below wr.heap.size wr (w5.alloc (.cells #[.int .u8 9, .int .u8 9] 5))) := hide (HB5.out.trans ((alloc_below _ _).mono HB5.out.size))
        clear S5
        go_wp2_with fail
        refine (sing_write (at_ := 1) SX.out HSZ.out (fun i h => by simp; omega) RB.out (fun i h => by simpa [Value.ownBlock] using h.symm) (u8s _ (by decide)) (by decide) (by decide) (by decide) (by decide) (by decide) (by decide) (by decide) (by decide) (by decide) (by decide)).mono ?_
        rintro _ w6 ⟨rfl, hs, hb⟩
        have S6 : Hid (Sing wr.heap.size (fun _ => False) w6 sb [1, 9, 9] [LA] 7 1 2 true) := hide (hs.ex (fun _ h => h.elim))
        have HB6 : Hid (Below wr.heap.size wr w6) := hide (HBX.out.trans hb)
        clear hs hb RB SX HSZ HBX HB5
        have RB : Hid (Row .u8 (w6.alloc (.cells #[.int .u8 4] 5)) (.slice (some ⟨w6.heap.size, 0, none⟩) 1 1) [4]) := hide (row_of_block (l := [4]) (heap_alloc_new _ _) (by decide))
        have SX : Hid (Sing wr.heap.size (fun i => i = w6.heap.size) (w6.alloc (.cells #[.int .u8 4] 5)) sb [1, 9, 9] [LA] 7 1 2 true) := hide ((S6.out.ex (fun i h => .inr (by omega))).later (alloc_below _ _))
        have HSZ : Hid (wr.heap.size ≤ (w6.alloc (.cells #[.int .u8 4] 5)).heap.size) := by have := HB6.out.size; show _ ≤ _; simp; omega
        have HBX : Hid (Below wr.heap.size wr (w6.alloc (.cells #[.int .u8 4] 5))) := hide (HB6.out.trans ((alloc_below _ _).mono HB6.out.size))
        clear S6
        go_wp2_with fail
        refine (sing_write (at_ := 3) SX.out HSZ.out (fun i h => by simp; omega) RB.out (fun i h => by simpa [Value.ownBlock] using h.symm) (u8s _ (by decide)) (by decide) (by decide) (by decide) (by decide) (by decide) (by decide) (by decide) (by decide) (by decide) (by decide)).mono ?_
        rintro _ w7 ⟨rfl, hs, hb⟩
        have S7 : Hid (Sing wr.heap.size (fun _ => False) w7 sb [1, 9, 9, 4] [LA, LB] 6 2 3 true) := hide (hs.ex (fun _ h => h.elim))
        have HB7 : Hid (Below wr.heap.size wr w7) := hide (HBX.out.trans hb)
        clear hs hb RB SX HSZ HBX HB6
        go_wp2_with fail
        refine (sing_pending S7.out).mono ?_
        rintro _ _ ⟨rfl, rfl⟩
        rename World => w8
        go_upto_region 7 with fail
        go_cut [5, 6] from 17 to 111 (fun s5 s6 wd => s5 = .int .i64 0 ∧ s6 = .int .i64 1 ∧ Hid (Below w8.heap.size w8 wd))
        case first =>
          go_region
          all_goals
            go_wp2_with fail
            go_meet
            case rel => exact ⟨rfl, rfl, hide (((alloc_below w8 _).trans ((alloc_below _ _).mono (by simp))).drew)⟩
        case rest =>
        obtain ⟨rfl, rfl, HC⟩ := hcut
        rename World => w9
        have S9 := hide (S7.out.later HC.out)
        have HB9 : Hid (Below wr.heap.size wr w9) := hide (HB7.out.trans (HC.out.mono HB7.out.size))
        clear S7 HB7 HC
        have HE : Hid ([1, 9, 3] = if (mag 0).toNat % 3 = 2 then [1, 9, 9, 4] else if (mag 0).toNat % 3 = 1 then takeBackL LB [1, 9, 9, 4] ((mag 1).toNat % (LB.size + 1)) else takeBackL LA (takeBackL LB [1, 9, 9, 4] 0) ((mag 1).toNat % (LA.size + 1))) := by show _ = _; decide
        go_wp2_with fail
        refine (sing_crash (keep := 0) (torn := 1) S9.out HB9.out.size (fun _ h => h.elim) (by decide) fitsB fitsA (by decide) (by decide) (by decide) (by decide) (by decide) (by decide) (by decide) HE.out).mono ?_
        rintro _ w10 ⟨rfl, ⟨left, hs, _⟩, hb⟩
        have S10 := hide hs
        have HB10 : Hid (Below wr.heap.size wr w10) := hide (HB9.out.trans hb)
        clear S9 HB9 hs hb HE
        go_wp2_with fail
        refine (sing_up S10.out).mono ?_
        rintro _ _ ⟨rfl, rfl⟩
        go_wp2_with fail
        refine (sing_start S10.out HB10.out.size).mono ?_
        rintro _ w11 ⟨rfl, hs, hb⟩
        have S11 := hide hs
        have HB11 : Hid (Below wr.heap.size wr w11) := hide (HB10.out.trans hb)
        clear S10 HB10 hs hb
        go_wp2_with fail
        refine (sing_read (at_ := 0) (n := 3) S11.out (by decide) (by decide)).mono ?_
        rintro _ w12 ⟨p, cp, rfl, hr, hb⟩
        have S12 := hide (S11.out.later hb)
        have HB12 : Hid (Below wr.heap.size wr w12) := hide (HB11.out.trans (hb.mono HB11.out.size))
        have RR : Hid (Row .u8 w12 (.slice p 3 cp) [1, 9, 3]) := hide (own_row hr)
        clear S11 HB11 hr hb
        go_wp2_with fail
        refine (sing_size S12.out).mono ?_
        rintro _ _ ⟨rfl, rfl⟩
        go_wp2_with fail
        refine (equal_any RR.out (HW.out.below HB12.out) (u8s _ (by decide)) (u8s _ (by decide))).mono ?_
        rintro _ _ ⟨rfl, rfl⟩
        go_wp2
        go_roundw
        case rel => exact ⟨2, by omega, rfl, hide (HB.out.trans (HB12.out.mono HB.out.size))⟩
        case measure => simp [intOf]
      · have oc := cell_later HB.out O2.out
        have HW := hide (R2.out.below HB.out)
        have hsw : W.heap.size ≤ wr.heap.size := by have := HB.out.size; omega
        clear O0 O1 O2 R0 R1 R2 hlt hk
        go_wp2_with fail
        refine (sing_new (W := wr) (room := 10) (B := wr.heap.size) (Ex := fun _ => False) (by decide) (by decide) (Nat.le_refl _) (fun _ h => h.elim)).mono ?_
        rintro _ w2 ⟨sb, rfl, hz, hb⟩
        have S := hide hz
        have HB2 : Hid (Below wr.heap.size wr w2) := hide hb
        clear hz hb oc
        go_wp2_with fail
        refine (sing_create S.out HB2.out.size (fun _ h => h.elim)).mono ?_
        rintro _ w3 ⟨rfl, hs, hb⟩
        have S3 := hide hs
        have HB3 : Hid (Below wr.heap.size wr w3) := hide (HB2.out.trans hb)
        clear S HB2 hs hb
        have RB : Hid (Row .u8 (w3.alloc (.cells #[.int .u8 1, .int .u8 2, .int .u8 3] 5)) (.slice (some ⟨w3.heap.size, 0, none⟩) 3 3) [1, 2, 3]) := hide (row_of_block (l := [1, 2, 3]) (heap_alloc_new _ _) (by decide))
        have SX : Hid (Sing wr.heap.size (fun i => i = w3.heap.size) (w3.alloc (.cells #[.int .u8 1, .int .u8 2, .int .u8 3] 5)) sb [] [] 10 0 0 true) := hide ((S3.out.ex (fun i h => .inr (by omega))).later (alloc_below _ _))
        have HSZ : Hid (wr.heap.size ≤ (w3.alloc (.cells #[.int .u8 1, .int .u8 2, .int .u8 3] 5)).heap.size) := by have := HB3.out.size; show _ ≤ _; simp; omega
        have HBX : Hid (Below wr.heap.size wr (w3.alloc (.cells #[.int .u8 1, .int .u8 2, .int .u8 3] 5))) := hide (HB3.out.trans ((alloc_below _ _).mono HB3.out.size))
        clear S3
        go_wp2_with fail
        refine (sing_write (at_ := 0) SX.out HSZ.out (fun i h => by simp; omega) RB.out (fun i h => by simpa [Value.ownBlock] using h.symm) (u8s _ (by decide)) (by decide) (by decide) (by decide) (by decide) (by decide) (by decide) (by decide) (by decide) (by decide) (by decide)).mono ?_
        rintro _ w4 ⟨rfl, hs, hb⟩
        have S4 : Hid (Sing wr.heap.size (fun _ => False) w4 sb [1, 2, 3] [⟨1, 0, 3, []⟩] 7 1 1 true) := hide (hs.ex (fun _ h => h.elim))
        have HB4 : Hid (Below wr.heap.size wr w4) := hide (HBX.out.trans hb)
        clear hs hb RB SX HSZ HBX HB3
        go_wp2_with fail
        refine (sing_sync S4.out HB4.out.size (fun _ h => h.elim) rfl (by decide)).mono ?_
        rintro _ w5 ⟨rfl, hs, hb⟩
        have S5 := hide hs
        have HB5 : Hid (Below wr.heap.size wr w5) := hide (HB4.out.trans hb)
        clear S4 HB4 hs hb
        have RB : Hid (Row .u8 (w5.alloc (.cells #[.int .u8 9, .int .u8 9] 5)) (.slice (some ⟨w5.heap.size, 0, none⟩) 2 2) [9, 9]) := hide (row_of_block (l := [9, 9]) (heap_alloc_new _ _) (by decide))
        have SX : Hid (Sing wr.heap.size (fun i => i = w5.heap.size) (w5.alloc (.cells #[.int .u8 9, .int .u8 9] 5)) sb [1, 2, 3] [] 7 0 1 true) := hide ((S5.out.ex (fun i h => .inr (by omega))).later (alloc_below _ _))
        have HSZ : Hid (wr.heap.size ≤ (w5.alloc (.cells #[.int .u8 9, .int .u8 9] 5)).heap.size) := by have := HB5.out.size; show _ ≤ _; simp; omega
        have HBX : Hid (Below wr.heap.size wr (w5.alloc (.cells #[.int .u8 9, .int .u8 9] 5))) := hide (HB5.out.trans ((alloc_below _ _).mono HB5.out.size))
        clear S5
        go_wp2_with fail
        refine (sing_write (at_ := 1) SX.out HSZ.out (fun i h => by simp; omega) RB.out (fun i h => by simpa [Value.ownBlock] using h.symm) (u8s _ (by decide)) (by decide) (by decide) (by decide) (by decide) (by decide) (by decide) (by decide) (by decide) (by decide) (by decide)).mono ?_
        rintro _ w6 ⟨rfl, hs, hb⟩
        have S6 : Hid (Sing wr.heap.size (fun _ => False) w6 sb [1, 9, 9] [LA] 7 1 2 true) := hide (hs.ex (fun _ h => h.elim))
        have HB6 : Hid (Below wr.heap.size wr w6) := hide (HBX.out.trans hb)
        clear hs hb RB SX HSZ HBX HB5
        have RB : Hid (Row .u8 (w6.alloc (.cells #[.int .u8 4] 5)) (.slice (some ⟨w6.heap.size, 0, none⟩) 1 1) [4]) := hide (row_of_block (l := [4]) (heap_alloc_new _ _) (by decide))
        have SX : Hid (Sing wr.heap.size (fun i => i = w6.heap.size) (w6.alloc (.cells #[.int .u8 4] 5)) sb [1, 9, 9] [LA] 7 1 2 true) := hide ((S6.out.ex (fun i h => .inr (by omega))).later (alloc_below _ _))
        have HSZ : Hid (wr.heap.size ≤ (w6.alloc (.cells #[.int .u8 4] 5)).heap.size) := by have := HB6.out.size; show _ ≤ _; simp; omega
        have HBX : Hid (Below wr.heap.size wr (w6.alloc (.cells #[.int .u8 4] 5))) := hide (HB6.out.trans ((alloc_below _ _).mono HB6.out.size))
        clear S6
        go_wp2_with fail
        refine (sing_write (at_ := 3) SX.out HSZ.out (fun i h => by simp; omega) RB.out (fun i h => by simpa [Value.ownBlock] using h.symm) (u8s _ (by decide)) (by decide) (by decide) (by decide) (by decide) (by decide) (by decide) (by decide) (by decide) (by decide) (by decide)).mono ?_
        rintro _ w7 ⟨rfl, hs, hb⟩
        have S7 : Hid (Sing wr.heap.size (fun _ => False) w7 sb [1, 9, 9, 4] [LA, LB] 6 2 3 true) := hide (hs.ex (fun _ h => h.elim))
        have HB7 : Hid (Below wr.heap.size wr w7) := hide (HBX.out.trans hb)
        clear hs hb RB SX HSZ HBX HB6
        go_wp2_with fail
        refine (sing_pending S7.out).mono ?_
        rintro _ _ ⟨rfl, rfl⟩
        rename World => w8
        go_upto_region 7 with fail
        go_cut [5, 6] from 17 to 111 (fun s5 s6 wd => s5 = .int .i64 2 ∧ s6 = .int .i64 0 ∧ Hid (Below w8.heap.size w8 wd))
        case first =>
          go_region
          all_goals
            go_wp2_with fail
            go_meet
            case rel => exact ⟨rfl, rfl, hide (((alloc_below w8 _).trans ((alloc_below _ _).mono (by simp))).drew)⟩
        case rest =>
        obtain ⟨rfl, rfl, HC⟩ := hcut
        rename World => w9
        have S9 := hide (S7.out.later HC.out)
        have HB9 : Hid (Below wr.heap.size wr w9) := hide (HB7.out.trans (HC.out.mono HB7.out.size))
        clear S7 HB7 HC
        have HE : Hid ([1, 9, 9, 4] = if (mag 2).toNat % 3 = 2 then [1, 9, 9, 4] else if (mag 2).toNat % 3 = 1 then takeBackL LB [1, 9, 9, 4] ((mag 0).toNat % (LB.size + 1)) else takeBackL LA (takeBackL LB [1, 9, 9, 4] 0) ((mag 0).toNat % (LA.size + 1))) := by show _ = _; decide
        go_wp2_with fail
        refine (sing_crash (keep := 2) (torn := 0) S9.out HB9.out.size (fun _ h => h.elim) (by decide) fitsB fitsA (by decide) (by decide) (by decide) (by decide) (by decide) (by decide) (by decide) HE.out).mono ?_
        rintro _ w10 ⟨rfl, ⟨left, hs, _⟩, hb⟩
        have S10 := hide hs
        have HB10 : Hid (Below wr.heap.size wr w10) := hide (HB9.out.trans hb)
        clear S9 HB9 hs hb HE
        go_wp2_with fail
        refine (sing_up S10.out).mono ?_
        rintro _ _ ⟨rfl, rfl⟩
        go_wp2_with fail
        refine (sing_start S10.out HB10.out.size).mono ?_
        rintro _ w11 ⟨rfl, hs, hb⟩
        have S11 := hide hs
        have HB11 : Hid (Below wr.heap.size wr w11) := hide (HB10.out.trans hb)
        clear S10 HB10 hs hb
        go_wp2_with fail
        refine (sing_read (at_ := 0) (n := 4) S11.out (by decide) (by decide)).mono ?_
        rintro _ w12 ⟨p, cp, rfl, hr, hb⟩
        have S12 := hide (S11.out.later hb)
        have HB12 : Hid (Below wr.heap.size wr w12) := hide (HB11.out.trans (hb.mono HB11.out.size))
        have RR : Hid (Row .u8 w12 (.slice p 4 cp) [1, 9, 9, 4]) := hide (own_row hr)
        clear S11 HB11 hr hb
        go_wp2_with fail
        refine (sing_size S12.out).mono ?_
        rintro _ _ ⟨rfl, rfl⟩
        go_wp2_with fail
        refine (equal_any RR.out (HW.out.below HB12.out) (u8s _ (by decide)) (u8s _ (by decide))).mono ?_
        rintro _ _ ⟨rfl, rfl⟩
        go_wp2
        go_roundw
        case rel => exact ⟨3, by omega, rfl, hide (HB.out.trans (HB12.out.mono HB.out.size))⟩
        case measure => simp [intOf]
    · obtain rfl : k = 3 := by omega
      clear O0 O1 O2 R0 R1 R2
      go_wp2
      go_ret
      exact ⟨rfl, HB1.out.trans (HB.out.mono HB1.out.size)⟩
end Go.Proofs.YtikpckmlnhcddaaGreat
