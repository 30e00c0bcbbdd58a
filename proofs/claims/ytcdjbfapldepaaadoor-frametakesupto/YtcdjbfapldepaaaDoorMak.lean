/-
  What frame.Make, the reference's Make and Put, slices.Clone and the statements' function begun return; over any world that holds the tables, in which nothing that was there turns. The conditions: the slices read as data; what is made is at most 2^47 bytes.
-/
import Derived.Test.YtcdjbfapldepaaaDoorPut2
import Derived.Lib.SlBytesConst
namespace Go.Proofs.YtcdjbfapldepaaaDoor
open Go.RowKit

theorem one_row2 {w : World} {u : Value} {x : List Int} (t : TypeId) (h : Row .u8 w u x) : Rows2 (w.alloc (.cells #[u] t)) (.slice (some ⟨w.heap.size, 0, none⟩) 1 1) [x] := by
  refine ⟨some ⟨w.heap.size, 0, none⟩, 1, rfl, Nat.le_refl _, by decide, (by intro h; cases h), fun _ => ⟨w.heap.size, 0, rfl, fun i hi => ?_⟩⟩
  have : i = 0 := by simpa using hi
  subst this
  exact ⟨u, by simp, by simpa using h.below (alloc_below _ _)⟩

set_option maxHeartbeats 1000000 in
theorem make_any {v : Value} {x : List Int} {w : World} (hx : Row .u8 w v x) (hu : U8 x) (ht : Tabs w) (hbig : x.length ≤ 70368744177664) :
    Calls Tryd.prog 9 #[v] w fun e w' => ∃ v', e = .returned (.tuple #[v', .int .i64 (putE [x])]) ∧ w'.ownsRow w.heap.size 5 1 v' (putB [] [x]).length ((putB [] [x]).map (Value.int .u8)) ∧ Below w.heap.size w w' := by
  have HX : Hid (Row .u8 w v x) := hx
  have HU : Hid (U8 x) := hu
  have HT : Hid (Tabs w) := ht
  obtain ⟨p, cap, rfl, _⟩ := hx
  clear hu ht
  go_enter Tryd.func9, Tryd.ntmps9
  go_wp2_with fail
  refine (put_any (Row.nil _ _) (one_row2 _ HX.out) (fun y hy => by simp at hy; rw [hy]; exact HU.out) (HT.out.below (alloc_below _ _)) (by rw [flen_cons, flen_nil]; simp; omega)).mono ?_
  rintro e w1 ⟨v1, rfl, hown1, hb1⟩
  have B1 : Below w.heap.size w w1 := (alloc_below _ _).trans (hb1.mono (by simp))
  have O1 : Hid (w1.ownsRow w.heap.size 5 1 v1 (putB [] [x]).length ((putB [] [x]).map (Value.int .u8))) := own_base hown1 (by simp)
  clear hown1 hb1
  go_wp2
  go_ret2
  exact ⟨v1, rfl, O1.out, B1⟩

theorem putE_one {x : List Int} (h : x.length ≤ 262144) : putE [x] = 0 ∧ putB [] [x] = frameL x := by
  have e : fits [x] = true := by simp [fits, h]
  unfold putE putB
  rw [e]
  exact ⟨rfl, by simp [framesL]⟩
theorem putE_long {x : List Int} (h : ¬ x.length ≤ 262144) : putE [x] = 3 ∧ putB [] [x] = [] := by
  have e : fits [x] = false := by simp [fits]; omega
  unfold putE putB
  rw [e]
  exact ⟨rfl, rfl⟩

theorem none_or (v : Value) : v.ownBlock = none ∨ v.ownBlock ≠ (Value.slice none 0 0).ownBlock := by
  by_cases h : v.ownBlock = none
  · exact .inl h
  · exact .inr h

set_option maxHeartbeats 2000000 in
theorem rmake_any {v : Value} {x : List Int} {w : World} (hx : Row .u8 w v x) (hu : U8 x) :
    Calls Tryd.prog 10 #[v] w fun e w' => ∃ v', e = .returned (.tuple #[v', .int .i64 (putE [x])]) ∧ w'.ownsRow w.heap.size 5 1 v' (putB [] [x]).length ((putB [] [x]).map (Value.int .u8)) ∧ Below w.heap.size w w' := by
  obtain ⟨i0, hi, hz0, hz1, hz2⟩ := info_parts Tryd.infoU8
  have HX : Hid (Row .u8 w v x) := hx
  have HU : Hid (U8 x) := hu
  obtain ⟨p, cap, rfl, g1, g2, _, _⟩ := hx
  clear hu
  by_cases hl : x.length ≤ 262144
  · have hl1 : decide ((262144 : Int) < (x.length : Int)) = false := decide_eq_false (by omega)
    have hcv : (x.length : Int) % 4294967296 = (x.length : Int) := by omega
    obtain ⟨e1, e2⟩ := putE_one hl
    rw [e1, e2]
    clear e1 e2
    go_enter Tryd.func10, Tryd.ntmps10
    go_wp2_with fail
    refine (rfour_any w (n := x.length) (by omega)).mono ?_
    rintro e w1 ⟨v1, rfl, hr1, hb1⟩
    have R1 : Hid (Row .u8 w1 v1 (four x.length)) := hr1
    have B1 : Below w.heap.size w w1 := hb1
    clear hr1 hb1
    go_wp2_with (at_builtin; refine append_row _ rfl _ _ 22 rfl w.heap.size 5 i0 .u8 1 Tryd.underlying22 hi hz0 hz1 hz2 _ _ _ rfl (World.ownsRow_nil _ _ _ _) _ (four x.length) rfl R1.out (by rw [four_len]; omega) (by rw [four_len]; omega) B1.size ?_)
    intro v2 w2 hown2 hg2
    have B2 : Below w.heap.size w w2 := B1.grown hg2 B1.size (fun g hg => by simp [Value.ownBlock] at hg)
    have R2 : Hid (Row .u8 w2 v1 (four x.length)) := R1.out.kept hg2 (none_or _)
    have O2 : Hid (w2.ownsRow w.heap.size 5 1 v2 4 ((four x.length).map (Value.int .u8))) := by show World.ownsRow _ _ _ _ _ _ _; simpa [four_len] using hown2
    clear hown2 hg2 R1 B1
    go_wp2_with fail
    refine (rsum_any R2.out (four_u8 _)).mono ?_
    rintro e w3 ⟨rfl, hb3⟩
    have B3 : Below w.heap.size w w3 := B2.trans (hb3.mono B2.size)
    have O3 : Hid (w3.ownsRow w.heap.size 5 1 v2 4 ((four x.length).map (Value.int .u8))) := own_below O2.out hb3
    clear hb3 R2 O2 B2
    go_wp2_with fail
    refine (rfour_any w3 (crc_lt (four_u8 _))).mono ?_
    rintro e w4 ⟨v4, rfl, hr4, hb4⟩
    have B4 : Below w.heap.size w w4 := B3.trans (hb4.mono B3.size)
    have O4 : Hid (w4.ownsRow w.heap.size 5 1 v2 4 ((four x.length).map (Value.int .u8))) := own_below O3.out hb4
    have R4 : Hid (Row .u8 w4 v4 (four (crc (four x.length)))) := hr4
    clear hb4 hr4 O3 B3
    go_wp2_with (at_builtin; refine append_row _ rfl _ _ 22 rfl w.heap.size 5 i0 .u8 1 Tryd.underlying22 hi hz0 hz1 hz2 _ _ _ rfl O4.out _ (four (crc (four x.length))) rfl R4.out (by rw [four_len]; omega) (by rw [four_len]; omega) B4.size ?_)
    intro v5 w5 hown5 hg5
    have B5 : Below w.heap.size w w5 := B4.grown hg5 B4.size (fun g hg => (O4.out.lt g hg).1)
    have O5 : Hid (w5.ownsRow w.heap.size 5 1 v5 8 ((four x.length).map (Value.int .u8) ++ (four (crc (four x.length))).map (Value.int .u8))) := by show World.ownsRow _ _ _ _ _ _ _; simpa [four_len] using hown5
    clear hown5 hg5 R4 O4 B4
    go_wp2_with (at_builtin; refine append_row _ rfl _ _ 22 rfl w.heap.size 5 i0 .u8 1 Tryd.underlying22 hi hz0 hz1 hz2 _ _ _ rfl O5.out _ x rfl (HX.out.below B5) (by omega) (by omega) B5.size ?_)
    intro v6 w6 hown6 hg6
    have B6 : Below w.heap.size w w6 := B5.grown hg6 B5.size (fun g hg => (O5.out.lt g hg).1)
    have O6 : Hid (w6.ownsRow w.heap.size 5 1 v6 (8 + x.length) ((four x.length).map (Value.int .u8) ++ (four (crc (four x.length))).map (Value.int .u8) ++ x.map (Value.int .u8))) := hown6
    clear hown6 hg6 O5 B5
    go_wp2_with fail
    refine (rsum_any (HX.out.below B6) HU.out).mono ?_
    rintro e w7 ⟨rfl, hb7⟩
    have B7 : Below w.heap.size w w7 := B6.trans (hb7.mono B6.size)
    have O7 : Hid (w7.ownsRow w.heap.size 5 1 v6 (8 + x.length) ((four x.length).map (Value.int .u8) ++ (four (crc (four x.length))).map (Value.int .u8) ++ x.map (Value.int .u8))) := own_below O6.out hb7
    clear hb7 O6 B6
    go_wp2_with fail
    refine (rfour_any w7 (crc_lt HU.out)).mono ?_
    rintro e w8 ⟨v8, rfl, hr8, hb8⟩
    have B8 : Below w.heap.size w w8 := B7.trans (hb8.mono B7.size)
    have O8 : Hid (w8.ownsRow w.heap.size 5 1 v6 (8 + x.length) ((four x.length).map (Value.int .u8) ++ (four (crc (four x.length))).map (Value.int .u8) ++ x.map (Value.int .u8))) := own_below O7.out hb8
    have R8 : Hid (Row .u8 w8 v8 (four (crc x))) := hr8
    clear hb8 hr8 O7 B7
    go_wp2_with (at_builtin; refine append_row _ rfl _ _ 22 rfl w.heap.size 5 i0 .u8 1 Tryd.underlying22 hi hz0 hz1 hz2 _ _ _ rfl O8.out _ (four (crc x)) rfl R8.out (by rw [four_len]; omega) (by rw [four_len]; omega) B8.size ?_)
    intro v9 w9 hown9 hg9
    have B9 : Below w.heap.size w w9 := B8.grown hg9 B8.size (fun g hg => (O8.out.lt g hg).1)
    have O9 : Hid (w9.ownsRow w.heap.size 5 1 v9 (frameL x).length ((frameL x).map (Value.int .u8))) := by
      show World.ownsRow _ _ _ _ _ _ _
      rw [frameL_len, show 12 + x.length = 8 + x.length + (four (crc x)).length by rw [four_len]; omega]
      unfold frameL
      simpa using hown9
    clear hown9 hg9 R8 O8 B8
    go_wp2
    go_ret2
    exact ⟨v9, rfl, O9.out, B9⟩
  · have hl1 : decide ((262144 : Int) < (x.length : Int)) = true := decide_eq_true (by omega)
    obtain ⟨e1, e2⟩ := putE_long hl
    rw [e1, e2]
    clear e1 e2
    go_enter Tryd.func10, Tryd.ntmps10
    go_wp2
    go_ret2
    exact ⟨_, rfl, World.ownsRow_nil _ _ _ _, Below.refl _ _⟩

set_option maxHeartbeats 1000000 in
theorem sclone_any {v : Value} {l : List Int} {w : World} (h : Row .u8 w v l) (hbig : l.length ≤ 140737488355328) :
    Calls Tryd.prog 8 #[v] w fun e w' => ∃ v', e = .returned v' ∧ w'.ownsRow w.heap.size 5 1 v' l.length (l.map (Value.int .u8)) ∧ Below w.heap.size w w' := by
  obtain ⟨i0, hi, hz0, hz1, hz2⟩ := info_parts Tryd.infoU8
  have q : ∀ (w : World) (a : Option Addr) (n c : Nat), (binOp .eql 22 (.slice a n c) (.slice none 0 0)).run Tryd.prog w = .ok (.bool a.isNone) w := fun w a n c => Lib.run_eql_slice_nil w _ _ a n c 0 0 Tryd.underlying22
  obtain ⟨p, cap, rfl, g1, g2, g3, g4⟩ := id h
  cases p with
  | none =>
    obtain rfl : cap = 0 := g3 rfl
    obtain rfl : l = [] := List.eq_nil_of_length_eq_zero (by omega)
    go_enter Tryd.func8, Tryd.ntmps8
    go_wp2
    go_ret
    exact ⟨_, rfl, World.ownsRow_nil _ _ _ _, Below.refl _ _⟩
  | some ad =>
    have HG : Hid (Row .u8 w (.slice (some ad) l.length cap) l) := h
    clear h g3 g4
    go_enter Tryd.func8, Tryd.ntmps8
    go_wp2_with (at_builtin; refine append_row _ rfl _ _ 22 rfl w.heap.size 5 i0 .u8 1 Tryd.underlying22 hi hz0 hz1 hz2 _ _ _ rfl (World.ownsRow_made w #[] 0 (Nat.le_refl _) (Nat.zero_le _) rfl) _ l rfl (HG.out.below ((Below.refl _ w).alloc (Nat.le_refl _) _)) ?_ ?_ ?_ ?_)
    · omega
    · omega
    · simp
    intro v' w1 hown hgrow
    go_wp2
    go_ret
    exact ⟨v', rfl, by simpa using hown, ((Below.refl _ w).alloc (Nat.le_refl _) _).grown hgrow (by simp) (by intro k hk; simp [Value.ownBlock] at hk; omega)⟩

set_option maxHeartbeats 4000000 in
theorem rput_any {vb vl : Value} {b : List Int} {xs : List (List Int)} {w : World} (hb : Row .u8 w vb b) (hl : Rows2 w vl xs) (hu : ∀ x ∈ xs, U8 x) (hbig : b.length + flen xs ≤ 140737488355328) :
    Calls Tryd.prog 12 #[vb, vl] w fun e w' => ∃ v', e = .returned (.tuple #[v', .int .i64 (putE xs)]) ∧ w'.ownsRow w.heap.size 5 1 v' (putB b xs).length ((putB b xs).map (Value.int .u8)) ∧ Below w.heap.size w w' := by
  obtain ⟨i0, hi, hz0, hz1, hz2⟩ := info_parts Tryd.infoU8
  have HB : Hid (Row .u8 w vb b) := hb
  have HU : Hid (∀ x ∈ xs, U8 x) := hu
  have hcount := loads_count xs
  obtain ⟨pb, capb, rfl, gb1, gb2, _, _⟩ := hb
  obtain ⟨p, cap, rfl, g1, g2, _, g4⟩ := hl
  have HL : Hid (0 < xs.length → ∃ b o, p = some ⟨b, o, none⟩ ∧ ∀ i, i < xs.length → ∃ u, w.cell? ⟨b, o + i, none⟩ = some u ∧ Row .u8 w u (xs.getD i [])) := g4
  clear g4 hu
  go_enter Tryd.func12, Tryd.ntmps12
  go_wp2_with (at_builtin; refine append_row _ rfl _ _ 22 rfl w.heap.size 5 i0 .u8 1 Tryd.underlying22 hi hz0 hz1 hz2 _ _ _ rfl (World.ownsRow_nil _ _ _ _) _ b rfl HB.out (by omega) (by omega) (Nat.le_refl _) ?_)
  intro v2 w2 hown2 hg2
  have B2 : Below w.heap.size w w2 := (Below.refl _ w).grown hg2 (Nat.le_refl _) (fun g hg => by simp [Value.ownBlock] at hg)
  have O2 : Hid (w2.ownsRow w.heap.size 5 1 v2 (b.length + flen (xs.take 0)) ((b ++ framesL (xs.take 0)).map (Value.int .u8))) := by
    show World.ownsRow _ _ _ _ _ _ _
    simpa [flen_nil, framesL_nil] using hown2
  clear hown2 hg2
  go_wp2
  go_loopw [6, 7] (fun out i wq => ∃ k : Nat, k ≤ xs.length ∧ i = .int .i64 (k : Int) ∧ (∀ j, j < k → (xs.getD j []).length ≤ 262144) ∧ wq.ownsRow w.heap.size 5 1 out (b.length + flen (xs.take k)) ((b ++ framesL (xs.take k)).map (Value.int .u8)) ∧ Below w.heap.size w wq) (fun _ i _ => xs.length - (intOf i).toNat)
  case atStart => exact ⟨0, Nat.zero_le _, rfl, by omega, O2.out, B2⟩
  case round =>
    obtain ⟨k, hk, rfl, hfit, hownk, Bk⟩ := hrel
    clear O2 B2
    by_cases hlt : k < xs.length
    · obtain ⟨bb, o, rfl, hc⟩ := HL.out (by omega)
      obtain ⟨u, hcu, hru⟩ := hc k hlt
      have hcu' := cell_later Bk hcu
      obtain ⟨x, hx⟩ : ∃ x, x = xs.getD k [] := ⟨_, rfl⟩
      rw [← hx] at hru
      have HR : Hid (Row .u8 wr u x) := hru.below Bk
      have HX : Hid (U8 x) := by rw [hx]; exact HU.out _ (getD_mem hlt)
      have hz' : flen (xs.take (k + 1)) = flen (xs.take k) + (12 + x.length) := by rw [take_snoc hlt, flen_snoc, hx]
      have hft' := flen_take_le xs (k + 1)
      have HS : Hid (framesL (xs.take (k + 1)) = framesL (xs.take k) ++ frameL x) := by show _ = _; rw [take_snoc hlt, framesL_snoc, hx]
      have HXX : Hid (x = xs.getD k []) := hx
      have HFI : Hid (∀ j, j < k → (xs.getD j []).length ≤ 262144) := hfit
      have HO : Hid (wr.ownsRow w.heap.size 5 1 u6 (b.length + flen (xs.take k)) ((b ++ framesL (xs.take k)).map (Value.int .u8))) := hownk
      clear hc hx hru hcu hownk HL hfit
      by_cases hlong : x.length ≤ 262144
      · have hlast : Hid (∀ j, j < k + 1 → (xs.getD j []).length ≤ 262144) := fun j hj => by
          by_cases hjk : j < k
          · exact HFI.out j hjk
          · obtain rfl : j = k := by omega
            rw [← HXX.out]
            exact hlong
        go_wp2_with fail
        refine (rmake_any HR.out HX.out).mono ?_
        rintro e w3 ⟨v3, rfl, hown3, hb3⟩
        obtain ⟨e1, e2⟩ := putE_one hlong
        rw [e1]
        rw [e2] at hown3
        have R3 : Hid (Row .u8 w3 v3 (frameL x)) := own_row hown3
        have B3 : Below w.heap.size w w3 := Bk.trans (hb3.mono Bk.size)
        have O3 : Hid (w3.ownsRow w.heap.size 5 1 u6 (b.length + flen (xs.take k)) ((b ++ framesL (xs.take k)).map (Value.int .u8))) := own_below HO.out hb3
        have hfl := frameL_len x
        clear e1 e2 hown3 hb3 HO HR Bk HFI HXX hcu'
        go_wp2_with (at_builtin; refine append_row _ rfl _ _ 22 rfl w.heap.size 5 i0 .u8 1 Tryd.underlying22 hi hz0 hz1 hz2 _ _ _ rfl O3.out _ (frameL x) rfl R3.out (by omega) (by omega) B3.size ?_)
        intro v4 w4 hown4 hg4
        have B4 : Below w.heap.size w w4 := B3.grown hg4 B3.size (fun g hg => (O3.out.lt g hg).1)
        have O4 : Hid (w4.ownsRow w.heap.size 5 1 v4 (b.length + flen (xs.take (k + 1))) ((b ++ framesL (xs.take (k + 1))).map (Value.int .u8))) := by
          show World.ownsRow _ _ _ _ _ _ _
          rw [HS.out, hz', ← Nat.add_assoc]
          simpa using hown4
        clear hown4 hg4 O3 R3 HS HX hz' hft' hfl B3
        go_wp2
        go_roundw
        case rel => exact ⟨k + 1, by omega, by go_num, hlast.out, O4.out, B4⟩
        case measure => simp [intOf]; omega
      · have HN : Hid (fits xs = false) := fits_not hlt (by rw [← HXX.out]; exact hlong)
        go_wp2_with fail
        refine (rmake_any HR.out HX.out).mono ?_
        rintro e w3 ⟨v3, rfl, hown3, hb3⟩
        obtain ⟨e1, e2⟩ := putE_long hlong
        rw [e1]
        have B3 : Below w.heap.size w w3 := Bk.trans (hb3.mono Bk.size)
        clear e1 e2 hown3 hb3 HO HR Bk HFI HXX hcu'
        go_wp2
        go_ret2
        refine ⟨_, by unfold putE; rw [HN.out]; rfl, ?_, B3⟩
        unfold putB
        rw [HN.out]
        exact World.ownsRow_nil _ _ _ _
    · obtain rfl : k = xs.length := by omega
      rw [List.take_length] at hownk
      have HF : Hid (fits xs = true) := fits_of hfit
      have HO : Hid (wr.ownsRow w.heap.size 5 1 u6 (b.length + flen xs) ((b ++ framesL xs).map (Value.int .u8))) := hownk
      clear hownk hfit HL
      go_wp2
      go_ret2
      refine ⟨u6, by unfold putE; rw [HF.out]; rfl, ?_, Bk⟩
      unfold putB
      rw [HF.out]
      have := HO.out
      unfold flen at this
      simpa using this

theorem sum_digits : crc [49, 50, 51, 52, 53, 54, 55, 56, 57] = 3808858755 := by decide +kernel

set_option maxHeartbeats 2000000 in
theorem begun_any (w : World) (ht : Tabs w) : Calls Tryd.prog 13 #[] w fun e w' => e = .returned (.bool true) ∧ Below w.heap.size w w' := by
  have u78 : U8 [7, 8] := by intro x hx; simp at hx; omega
  have HT : Hid (Tabs w) := ht
  clear ht
  go_enter Tryd.func13, Tryd.ntmps13
  go_wp2_with fail
  refine (make_any (new_row .u8 w [7, 8] 5 (by simp)) u78 (HT.out.below (alloc_below _ _)) (by simp)).mono ?_
  rintro e w1 ⟨v1, rfl, hown1, hb1⟩
  obtain ⟨e1, e2⟩ := putE_one (x := [7, 8]) (by simp)
  rw [e1]
  rw [e2] at hown1
  have R1 : Hid (Row .u8 w1 v1 (frameL [7, 8])) := own_row hown1
  have B1 : Below w.heap.size w w1 := (alloc_below _ _).trans (hb1.mono (by simp))
  have HK : Hid (takeL (frameL [7, 8]) = ([7, 8], 14, 0)) := by
    have := takeL_frame (x := [7, 8]) (by simp) u78 []
    show _ = _
    simpa using this
  clear e1 e2 hown1 hb1
  go_wp2_with fail
  refine (take_at R1.out (frameL_u8 u78) (HT.out.below B1) (by rw [frameL_len]; simp) HK.out).mono ?_
  rintro e w2 ⟨v2, rfl, hown2, hb2⟩
  have R2 : Hid (Row .u8 w2 v2 [7, 8]) := own_row hown2
  have B2 : Below w.heap.size w w2 := B1.trans (hb2.mono B1.size)
  clear hown2 hb2 R1 B1 HK
  have hcv := Lib.run_convert_bytes_const (P := Tryd.prog) w2 22 5 #[Value.int .u8 49, Value.int .u8 50, Value.int .u8 51, Value.int .u8 52, Value.int .u8 53, Value.int .u8 54, Value.int .u8 55, Value.int .u8 56, Value.int .u8 57] 9 9 Tryd.underlying22 Tryd.underlying5
  have hA := alloc_below w2 (.cells #[Value.int .u8 49, Value.int .u8 50, Value.int .u8 51, Value.int .u8 52, Value.int .u8 53, Value.int .u8 54, Value.int .u8 55, Value.int .u8 56, Value.int .u8 57] 5 (9, 10))
  have hN := heap_alloc_new w2 (.cells #[Value.int .u8 49, Value.int .u8 50, Value.int .u8 51, Value.int .u8 52, Value.int .u8 53, Value.int .u8 54, Value.int .u8 55, Value.int .u8 56, Value.int .u8 57] 5 (9, 10))
  have HA : Hid (Below w2.heap.size w2 (w2.alloc (.cells #[Value.int .u8 49, Value.int .u8 50, Value.int .u8 51, Value.int .u8 52, Value.int .u8 53, Value.int .u8 54, Value.int .u8 55, Value.int .u8 56, Value.int .u8 57] 5 (9, 10)))) := hA
  have HN : Hid ((w2.alloc (.cells #[Value.int .u8 49, Value.int .u8 50, Value.int .u8 51, Value.int .u8 52, Value.int .u8 53, Value.int .u8 54, Value.int .u8 55, Value.int .u8 56, Value.int .u8 57] 5 (9, 10))).heap[w2.heap.size]? = some (.cells #[Value.int .u8 49, Value.int .u8 50, Value.int .u8 51, Value.int .u8 52, Value.int .u8 53, Value.int .u8 54, Value.int .u8 55, Value.int .u8 56, Value.int .u8 57] 5 (9, 10))) := hN
  clear hA hN
  go_wp2_with fail
  refine (sum_any (heap_row .u8 [49, 50, 51, 52, 53, 54, 55, 56, 57] HN.out (by simp)) (by intro x hx; simp at hx; omega) ((HT.out.below B2).below HA.out)).mono ?_
  rintro e w3 ⟨rfl, hb3⟩
  rw [sum_digits]
  have h23 : Below w2.heap.size w2 w3 := HA.out.trans (hb3.mono (by simp))
  have R3 : Hid (Row .u8 w3 v2 [7, 8]) := R2.out.below h23
  have B3 : Below w.heap.size w w3 := B2.trans (h23.mono B2.size)
  clear hcv HA HN hb3 h23 R2 B2
  go_wp2_with fail
  refine (equal_any (R3.out.below (alloc_below _ _)) (new_row .u8 w3 [7, 8] 5 (by simp)) u78 u78).mono ?_
  rintro e w4 ⟨rfl, hw4⟩
  have B4 : Below w.heap.size w w4 := by rw [hw4]; exact B3.alloc B3.size _
  rw [decide_eq_true rfl]
  clear hw4 R3 B3
  go_wp2
  go_ret
  exact ⟨rfl, B4⟩

end Go.Proofs.YtcdjbfapldepaaaDoor
