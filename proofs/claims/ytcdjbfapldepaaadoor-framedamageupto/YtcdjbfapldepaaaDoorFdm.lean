/-
  PROVED: the statement FrameDamage in its second form, its card: where the arguments hold together at most 1048576 values, the law returns true: behind a burst of at most 32 bits just the frames ahead of the first one that it touches are told. The two tables of package frame hold what its text lays.
-/
import Derived.Test.YtcdjbfapldepaaaDoorSam
import Derived.Test.YtcdjbfapldepaaaDoorLai
import Derived.Test.YtcdjbfapldepaaaDoorDmg
namespace Go.Proofs.YtcdjbfapldepaaaDoor.frameDamage
open Go.ChangeShapes Go.WideShapes Go.ChangeAt Go.RowKit

theorem fits_Fits {xs : List (List Int)} (h : fits xs = true) (hu : ∀ x ∈ xs, U8 x) : Fits xs := by
  intro x hx
  unfold fits at h
  rw [List.all_eq_true] at h
  exact ⟨by simpa using h x hx, hu x hx⟩

/-- Bits turned of which the first one lies in the frame behind the first k. -/
theorem damaged {xs : List (List Int)} (h : Fits xs) {k m E : Nat} (hE : Short E) (hk : k < xs.length) (h1 : flen (xs.take k) ≤ m) (h2 : m < flen (xs.take k) + (12 + (xs.getD k []).length))
    (z1 : E % 2 ^ (8 * m) = 0) (z2 : E % 2 ^ (8 * (m + 1)) ≠ 0) : loads (turned (framesL xs) E) = xs.take k ∧ errAt (turned (framesL xs) E) = 21 := by
  have hx := h _ (getD_mem hk)
  have ht : Fits (xs.take k) := fun y hy => h y (List.mem_of_mem_take hy)
  have e : xs = xs.take k ++ (xs.getD k [] :: xs.drop (k + 1)) := by
    have h0 : xs.drop k = xs.getD k [] :: xs.drop (k + 1) := by
      rw [List.drop_eq_getElem_cons hk]
      simp [List.getD, List.getElem?_eq_getElem hk]
    rw [← h0, List.take_append_drop]
  have e2 : framesL xs = framesL (xs.take k) ++ (frameL (xs.getD k []) ++ framesL (xs.drop (k + 1))) := by
    conv => lhs; rw [e, framesL_append, framesL_cons]
  rw [e2]
  exact loads_damaged _ ht hx.1 hx.2 hE (mod_le_pow (by omega) z1) (fun hz => z2 (mod_le_pow (by omega) hz))

set_option maxHeartbeats 4000000 in
theorem walk {vl : Value} {xs : List (List Int)} {c m : Int} (w : World) (c0 : 0 ≤ c) (c1 : c ≤ 65535) (m0 : 0 ≤ m) (m1 : m ≤ 4294967295) (hl : Rows2 w vl xs) (ul : ∀ x ∈ xs, U8 x) (ht : Tabs w) (sl : flen xs ≤ 13631488) :
    Calls Tryd.prog 7 #[vl, .int .u16 c, .int .u32 m] w fun e w' => e = .returned (.bool true) ∧ Below w.heap.size w w' := by
  have HL : Hid (Rows2 w vl xs) := hl
  have HUL : Hid (∀ x ∈ xs, U8 x) := ul
  have HT : Hid (Tabs w) := ht
  have hcount := loads_count xs
  obtain ⟨p, cap, rfl, g1, g2, _, g4⟩ := hl
  have HC : Hid (0 < xs.length → ∃ b o, p = some ⟨b, o, none⟩ ∧ ∀ i, i < xs.length → ∃ u, w.cell? ⟨b, o + i, none⟩ = some u ∧ Row .u8 w u (xs.getD i [])) := g4
  clear ul ht g4
  obtain ⟨M, rfl⟩ : ∃ M : Nat, m = (M : Int) := ⟨m.toNat, by omega⟩
  go_enter Tryd.func7, Tryd.ntmps7
  go_wp2_with fail
  refine (put_any (Row.nil _ _) HL.out HUL.out HT.out (by simp; omega)).mono ?_
  rintro e w1 ⟨v1, rfl, hown1, hb1⟩
  have B1 : Below w.heap.size w w1 := hb1
  by_cases hfit : fits xs = true
  · have hE : putE xs = 0 := by unfold putE; rw [hfit]; rfl
    have hPB : putB [] xs = framesL xs := by unfold putB; rw [hfit]; simp
    rw [hE]
    rw [hPB] at hown1
    have O1 : Hid (w1.ownsRow w.heap.size 5 1 v1 (framesL xs).length ((framesL xs).map (Value.int .u8))) := hown1
    have HF : Hid (Fits xs) := fits_Fits hfit HUL.out
    clear hown1 hb1 hE hPB hfit
    go_wp2_with fail
    refine (begun_any w1 (HT.out.below B1)).mono ?_
    rintro e w2 ⟨rfl, hb2⟩
    have B2 : Below w.heap.size w w2 := B1.trans (hb2.mono B1.size)
    have O2 : Hid (w2.ownsRow w.heap.size 5 1 v1 (framesL xs).length ((framesL xs).map (Value.int .u8))) := own_below O1.out hb2
    clear hb2 O1 B1
    have hfl : (framesL xs).length ≤ 13631488 := sl
    have HUF : Hid (U8 (framesL xs)) := framesL_u8 HUL.out
    obtain ⟨p1, cp1, rfl, q1, q2, _, _⟩ := id (own_row O2.out)
    generalize hN : (framesL xs).length = N at *
    have HNN : Hid ((framesL xs).length = N) := hN
    by_cases hN0 : N = 0
    · subst hN0
      go_wp2_with fail
      refine (begun_any w2 (HT.out.below B2)).mono ?_
      rintro e w3 ⟨rfl, hb3⟩
      have B3 : Below w.heap.size w w3 := B2.trans (hb3.mono B2.size)
      clear hb3 B2
      go_wp2
      go_ret
      exact ⟨rfl, B3⟩
    · have hN1 : ((N : Int) == 0) = false := by simp; omega
      have hsl : ∃ g cp, Value.slice p1 N cp1 = .slice (some ⟨g, 0, none⟩) N cp := by
        rcases O2.out.2 with ⟨h, h0⟩ | ⟨g, cp, _, h, _⟩
        · omega
        · exact ⟨g, cp, h⟩
      obtain ⟨g, cp, hsl⟩ := hsl
      simp only [Value.slice.injEq, true_and] at hsl
      obtain ⟨rfl, rfl⟩ := hsl
      obtain ⟨s, hs⟩ : ∃ s : Nat, s = c.toNat % (8 * N) := ⟨_, rfl⟩
      have hsN : s < 8 * N := by rw [hs]; exact Nat.mod_lt _ (by omega)
      have hsi : c % (8 * (N : Int)) = (s : Int) := by
        obtain ⟨m, rfl⟩ : ∃ m : Nat, c = (m : Int) := ⟨c.toNat, by omega⟩
        rw [hs, Int.toNat_natCast, Int.natCast_emod]
        rfl
      clear hs hN
      go_wp2
      go_loopw [10, 42] (fun t i wr => ∃ (k : Nat) (tz : Int), k ≤ 32 ∧ i = .int .i64 (k : Int) ∧ t = .int .i64 tz ∧ Hid (First N (part M s k) tz) ∧ wr.ownsRow w.heap.size 5 1 (.slice (some ⟨g, 0, none⟩) N cp1) N ((turned (framesL xs) (part M s k)).map (Value.int .u8)) ∧ Below w.heap.size w wr) (fun _ i _ => 32 - (intOf i).toNat)
      case atStart =>
        refine ⟨0, -1, by omega, rfl, rfl, ?_, ?_, B2⟩
        · exact .inl ⟨rfl, by rw [part_zero, Nat.zero_mod]⟩
        · rw [part_zero, turned_same _ _ HUF.out (Nat.zero_mod _)]
          exact O2.out
      case round =>
        obtain ⟨k, tz, hk, rfl, rfl, HFi, hown, hbr⟩ := hrel
        clear O2 B2
        have HO : Hid (wr.ownsRow w.heap.size 5 1 (.slice (some ⟨g, 0, none⟩) N cp1) N ((turned (framesL xs) (part M s k)).map (Value.int .u8))) := hown
        clear hown
        by_cases hk32 : k < 32
        · obtain ⟨K, hK⟩ : ∃ K : Nat, K = s + k := ⟨_, rfl⟩
          have hKi : (s : Int) + (k : Int) = (K : Int) := by omega
          obtain ⟨β, hβ⟩ : ∃ β : Nat, β = M / 2 ^ k % 2 := ⟨_, rfl⟩
          have hβi : bits .and .u32 ((M : Int) / 2 ^ k) 1 = (β : Int) := by
            have h1 : (M : Int) / 2 ^ k = ((M / 2 ^ k : Nat) : Int) := by rw [Int.natCast_ediv]; congr 1
            have h2 : M / 2 ^ k < 4294967296 := Nat.lt_of_le_of_lt (Nat.div_le_self _ _) (by omega)
            rw [h1, show (1 : Int) = ((1 : Nat) : Int) from rfl, u32_and_nat _ _ h2 (by decide), Nat.and_one_is_mod, hβ]
          have HP := part_succ M s k
          rw [← hβ, ← hK] at HP
          have HPS : Hid (part M s (k + 1) = part M s k + (if β = 1 then 2 ^ K else 0)) := HP
          have HPL : Hid (part M s k < 2 ^ K) := by have := part_lt M s k; rw [← hK] at this; exact this
          have hβ2 : β = 0 ∨ β = 1 := by omega
          clear HP hβ
          rcases hβ2 with rfl | rfl
          · have HE : Hid (part M s (k + 1) = part M s k) := by show _ = _; rw [HPS.out]; simp
            clear HPS hK
            go_wp2
            refine ⟨⟨k + 1, tz, by omega, by go_num, rfl, by rw [HE.out]; exact HFi, by rw [HE.out]; exact HO.out, hbr⟩, by simp [intOf]; omega⟩
          · have HE : Hid (part M s (k + 1) = part M s k + 2 ^ K) := by show _ = _; rw [HPS.out]; simp
            clear HPS hK
            by_cases hKN : K < 8 * N
            · have hd : decide ((K : Int) < 8 * (N : Int)) = true := decide_eq_true (by omega)
              obtain ⟨q, hq⟩ : ∃ q : Nat, q = K / 8 := ⟨_, rfl⟩
              obtain ⟨r, hr⟩ : ∃ r : Nat, r = K % 8 := ⟨_, rfl⟩
              have hqi : (K : Int) / 8 = (q : Int) := by omega
              have hri : (K : Int) % 8 = (r : Int) := by omega
              have hqN : q < N := by omega
              have hqN1 : (q : Int) < (N : Int) := by omega
              have hqN2 : (0 : Int) ≤ (q : Int) := by omega
              have hr8 : r < 8 := by omega
              have HTL : Hid ((turned (framesL xs) (part M s k)).length = N) := by show _ = _; rw [turned_len, HNN.out]
              obtain ⟨y, hy⟩ : ∃ y, y = (turned (framesL xs) (part M s k)).getD q 0 := ⟨_, rfl⟩
              have hcy : wr.cell? ⟨g, q, none⟩ = some (.int .u8 y) := by
                have := HO.out.cellAt q (by omega)
                rw [this, hy]
                simp [List.getD, List.getElem?_eq_getElem (show q < (turned (framesL xs) (part M s k)).length by rw [HTL.out]; exact hqN)]
              have hfy := HO.out.frozenAt q
              have hyu : 0 ≤ y ∧ y < 256 := by
                have := turned_u8 _ (part M s k) HUF.out
                rw [hy]
                refine this _ ?_
                simp [List.getD, List.getElem?_eq_getElem (show q < (turned (framesL xs) (part M s k)).length by rw [HTL.out]; exact hqN)]
              have HY : Hid (y = (turned (framesL xs) (part M s k)).getD q 0) := hy
              have HQ : Hid (q = K / 8) := hq
              have HR : Hid (r = K % 8) := hr
              clear hy hq hr
              go_wp2
              go_region
              have hr2 : (2 : Nat) ^ r < 256 := by
                have := Nat.pow_lt_pow_right (show 1 < 2 by decide) hr8
                simpa using this
              have hv : bits BinOp.xor IntKind.u8 y (2 ^ r % 256) = ((y.toNat ^^^ 2 ^ r : Nat) : Int) := by
                have e1 : ((2 : Int) ^ r % 256) = ((2 ^ r : Nat) : Int) := by
                  have : ((2 : Int) ^ r) = ((2 ^ r : Nat) : Int) := by rw [Int.natCast_pow]; rfl
                  rw [this, show (256 : Int) = ((256 : Nat) : Int) from rfl, ← Int.natCast_emod, Nat.mod_eq_of_lt hr2]
                rw [e1, u8_xor y _ hyu.1 hyu.2 (by omega) (by omega), Int.toNat_natCast]
              have HON : Hid (((wr.setCell ⟨g, q, none⟩ (.int .u8 (bits BinOp.xor IntKind.u8 y (2 ^ r % 256)))).drew).ownsRow w.heap.size 5 1 (.slice (some ⟨g, 0, none⟩) N cp1) N ((turned (framesL xs) (part M s (k + 1))).map (Value.int .u8))) := by
                show World.ownsRow _ _ _ _ _ _ _
                rw [HE.out, turned_add HPL.out, List.map_set, ← HQ.out, ← HR.out, ← HY.out, ← hv]
                exact (HO.out.stored q _).1.drew
              have HBN : Hid (Below w.heap.size w ((wr.setCell ⟨g, q, none⟩ (.int .u8 (bits BinOp.xor IntKind.u8 y (2 ^ r % 256)))).drew)) :=
                (hbr.grown (HO.out.stored q (.int .u8 (bits BinOp.xor IntKind.u8 y (2 ^ r % 256)))).2 hbr.size (fun g' hg' => by cases hg'; exact (HO.out.lt g rfl).1)).drew
              clear hcy hfy HO hbr hv HY
              generalize ((wr.setCell ⟨g, q, none⟩ (.int .u8 (bits BinOp.xor IntKind.u8 y (2 ^ r % 256)))).drew) = wn at *
              rcases HFi.out with ⟨hz, hz'⟩ | ⟨m', hz, hz'⟩
              · subst hz
                have HFn : Hid (First N (part M s (k + 1)) (q : Int)) := by
                  rw [HE.out, HQ.out]; exact HFi.out.none_add HPL.out hKN
                clear hz' HFi HE
                go_wp2
                refine ⟨⟨k + 1, q, by omega, by go_num, rfl, HFn, HON.out, HBN.out⟩, by simp [intOf]; omega⟩
              · have HFn : Hid (First N (part M s (k + 1)) tz) := by
                  have := HFi.out
                  rw [hz] at this ⊢
                  rw [HE.out]; exact this.add HPL.out
                have htz : 0 ≤ tz := by omega
                clear hz' HFi HE
                subst hz
                go_wp2
                refine ⟨⟨k + 1, m', by omega, by go_num, rfl, HFn, HON.out, HBN.out⟩, by simp [intOf]; omega⟩
            · have hd : decide ((K : Int) < 8 * (N : Int)) = false := decide_eq_false (by omega)
              have HFn : Hid (First N (part M s (k + 1)) tz) := by rw [HE.out]; exact HFi.out.far (by omega)
              have HO' : Hid (wr.ownsRow w.heap.size 5 1 (.slice (some ⟨g, 0, none⟩) N cp1) N ((turned (framesL xs) (part M s (k + 1))).map (Value.int .u8))) := by
                show World.ownsRow _ _ _ _ _ _ _
                rw [HE.out, turned_far HPL.out (by rw [HNN.out]; omega)]
                exact HO.out
              clear HE HFi HO
              go_wp2
              refine ⟨⟨k + 1, tz, by omega, by go_num, rfl, HFn, HO'.out, hbr⟩, by simp [intOf]; omega⟩
        · obtain rfl : k = 32 := by omega
          obtain ⟨D, hD⟩ : ∃ D, D = turned (framesL xs) (part M s 32) := ⟨_, rfl⟩
          have hDl : D.length = N := by rw [hD, turned_len, HNN.out]
          have HDU : Hid (U8 D) := by rw [hD]; exact turned_u8 _ _ HUF.out
          have HDR : Hid (Row .u8 wr (.slice (some ⟨g, 0, none⟩) N cp1) D) := by rw [hD]; exact own_row HO.out
          have HDD : Hid (D = turned (framesL xs) (part M s 32)) := hD
          clear HO hD
          go_wp2_with fail
          refine (scan_any HDR.out HDU.out (HT.out.below hbr) (by omega)).mono ?_
          rintro e w3 ⟨v3, rfl, hown3, hb3⟩
          have B3 : Below w.heap.size w w3 := hbr.trans (hb3.mono hbr.size)
          have L3 : Hid (Rows2 w3 v3 (loads D)) := hown3.rows2
          obtain ⟨at', hat⟩ : ∃ a, flen (loads D) = a := ⟨_, rfl⟩
          obtain ⟨E, hEr⟩ : ∃ a, errAt D = a := ⟨_, rfl⟩
          have HER : Hid (errAt D = E) := hEr
          rw [hat, hEr]
          clear hat hEr hown3 hb3 HDR hbr
          rcases HFi.out with ⟨hz, hz'⟩ | ⟨m', hz, hm', hz1, hz2⟩
          · subst hz
            have hsame : D = framesL xs := by rw [HDD.out]; exact turned_same _ _ HUF.out (by rw [HNN.out]; exact hz')
            have L3' := L3.out
            have hB := HER.out
            rw [hsame, loads_all HF.out] at L3'
            rw [hsame, errAt_all HF.out] at hB
            have LL : Hid (Rows2 w3 v3 xs) := L3'
            subst hB
            clear L3 L3' HER hsame HDD HC hz' HFi
            go_wp2_with fail
            refine (same_any LL.out (HL.out.below B3) HUL.out HUL.out rfl).mono ?_
            rintro e w4 ⟨rfl, hb4⟩
            have B4 : Below w.heap.size w w4 := B3.trans (hb4.mono B3.size)
            clear hb4 LL
            go_wp2
            go_ret
            exact ⟨by simp, B4⟩
          · subst hz
            have HZ1 : Hid (part M s 32 % 2 ^ (8 * m') = 0) := hz1
            have HZ2 : Hid (part M s 32 % 2 ^ (8 * (m' + 1)) ≠ 0) := hz2
            have HSH : Hid (Short (part M s 32)) := part_all _ (by omega)
            clear hz1 hz2 HFi
            go_wp2
            go_loopw [16, 92] (fun z i wr => ∃ k : Nat, k ≤ xs.length ∧ i = .int .i64 (k : Int) ∧ z = .int .i64 ((flen (xs.take k) : Nat) : Int) ∧ flen (xs.take k) ≤ m' ∧ wr = w3) (fun _ i _ => xs.length - (intOf i).toNat)
            case atStart => exact ⟨0, Nat.zero_le _, rfl, by simp [flen_nil], by simp [flen_nil], rfl⟩
            case round =>
              obtain ⟨k, hk, rfl, rfl, hz, hww⟩ := hrel
              replace hww := hww.symm
              subst hww
              obtain ⟨z, hzd⟩ : ∃ z, flen (xs.take k) = z := ⟨_, rfl⟩
              have HZ : Hid (flen (xs.take k) = z) := hzd
              rw [hzd] at hz ⊢
              by_cases hlt : k < xs.length
              · obtain ⟨bb, o, rfl, hc⟩ := HC.out (by omega)
                obtain ⟨u, hcu, hru⟩ := hc k hlt
                have hcu' := cell_later B3 hcu
                obtain ⟨x, hx⟩ : ∃ x, x = xs.getD k [] := ⟨_, rfl⟩
                rw [← hx] at hru
                obtain ⟨pu, cu, rfl, _, _, _, _⟩ := hru
                have hxl : x.length ≤ 262144 := by rw [hx]; exact (HF.out _ (getD_mem hlt)).1
                have HXX : Hid (x = xs.getD k []) := hx
                clear hc hcu hx HC hzd
                by_cases hcut : m' < z + (12 + x.length)
                · have hct : decide ((m' : Int) < (z : Int) + (12 + (x.length : Int))) = true := decide_eq_true (by omega)
                  obtain ⟨t1, t2⟩ := damaged HF.out HSH.out hlt (m := m') (by rw [HZ.out]; exact hz) (by rw [HZ.out, ← HXX.out]; exact hcut) HZ1.out HZ2.out
                  rw [← HDD.out] at t1 t2
                  have L3' := L3.out
                  rw [t1] at L3'
                  have LL : Hid (Rows2 w3 v3 (xs.take k)) := L3'
                  have LK : Hid (Rows2 w3 (.slice (some ⟨bb, o, none⟩) k cap) (xs.take k)) := (HL.out.below B3).take hk
                  have HUK : Hid (∀ x ∈ xs.take k, U8 x) := fun y hy => HUL.out y (List.mem_of_mem_take hy)
                  have hkc : (k : Int) ≤ (cap : Int) := by omega
                  have hkz : (0 : Int) ≤ (k : Int) := by omega
                  rw [HER.out] at t2
                  subst t2
                  clear L3 L3' HXX t1 hcut
                  go_wp2_with fail
                  refine (same_any LL.out LK.out HUK.out HUK.out rfl).mono ?_
                  rintro e w4 ⟨rfl, hb4⟩
                  have B4 : Below w.heap.size w w4 := B3.trans (hb4.mono B3.size)
                  clear hb4 LL LK
                  go_wp2
                  go_ret
                  exact ⟨by simp, B4⟩
                · have hct : decide ((m' : Int) < (z : Int) + (12 + (x.length : Int))) = false := decide_eq_false (by omega)
                  have HZ' : Hid (z + (12 + x.length) = flen (xs.take (k + 1))) := by show _ = _; rw [take_snoc hlt, flen_snoc, HZ.out, ← HXX.out]
                  go_wp2
                  go_roundw
                  case rel => exact ⟨k + 1, by omega, by go_num, by rw [← HZ'.out]; exact congrArg (Value.int .i64) (by omega), by rw [← HZ'.out]; omega, trivial⟩
                  case measure => simp [intOf]; omega
              · exfalso
                have : k = xs.length := by omega
                subst this
                rw [List.take_length] at hzd
                have := HNN.out
                unfold flen at hzd
                omega
  · have hE : putE xs = 3 := by unfold putE; rw [show fits xs = false by simpa using hfit]; rfl
    rw [hE]
    clear hown1 hb1 hE hfit
    go_wp2_with fail
    refine (begun_any w1 (HT.out.below B1)).mono ?_
    rintro e w2 ⟨rfl, hb2⟩
    have B2 : Below w.heap.size w w2 := B1.trans (hb2.mono B1.size)
    clear hb2 B1
    go_wp2_with fail
    refine (begun_any w2 (HT.out.below B2)).mono ?_
    rintro e w3 ⟨rfl, hb3⟩
    have B3 : Below w.heap.size w w3 := B2.trans (hb3.mono B2.size)
    clear hb3 B2
    go_wp2
    go_ret
    exact ⟨rfl, B3⟩

theorem short {H : Type} {d0 d1 d2 : DataW H} (hk : Rows.uptoSmall H [d0, d1, d2] = true) : Rows.uptoBulk d0 ≤ 1048576 ∧ Rows.uptoBulk d1 ≤ 1048576 ∧ Rows.uptoBulk d2 ≤ 1048576 := by
  have h : Rows.uptoBulkAll [d0, d1, d2] ≤ 1048576 := of_decide_eq_true hk
  simp only [Rows.uptoBulkAll] at h
  omega

theorem contract (H : Type) (enc : TypeId × Value → H) (W : World) (base : Nat) (args : Array Value) (ds gs : List (DataW H)) (before : List MemPlace)
    (hval : ∀ (j : Nat) t v, Tryd.f7.params[j]? = some t → args[j]? = some v → Value.okWide Tryd.prog W .any base t v)
    (hW : DataW.Whole enc Tryd.prog Tryd.f7.params.toList Rows.frameDamageSpec.vars false W args.toList ds gs before) (hk : Rows.uptoSmall H (ds ++ gs) = true) (hL : laidMetH Tryd.prog Rows.frameDamageUptoRow.laid W) :
    Calls Tryd.prog 7 args W fun e W' => ∃ v, e = .returned v ∧ Rows.frameDamageSpec.post enc Tryd.prog Tryd.f7 false true false false W args v W' := by
  have hW' := hW
  obtain ⟨p, q, hA0, hV, rfl, hfz, hnd⟩ := hW
  have hA : DataW.TrodAll enc Tryd.prog W 0 (fun _ => true) true Tryd.f7.params.toList args.toList ds p := hA0
  rw [Tryd.params7] at hA hval
  obtain ⟨v0, vs0, d0, ds0, p0, q0, hargs, rfl, rfl, h0, r0⟩ := trodAll_cons hA
  obtain ⟨v1, vs1, d1, ds1, p1, q1, rfl, rfl, rfl, h1, r1⟩ := trodAll_cons r0
  obtain ⟨v2, vs2, d2, ds2, p2, q2, rfl, rfl, rfl, h2, r2⟩ := trodAll_cons r1
  obtain ⟨rfl, rfl, rfl⟩ := trodAll_nil r2
  obtain rfl : args = #[v0, v1, v2] := by cases args; simp_all
  obtain ⟨rfl, rfl⟩ := trodVars_none hV
  obtain ⟨a0, len0, cap0, rfl⟩ := okWide_slice Tryd.underlying23 (hval 0 23 v0 rfl rfl)
  have k0 := h0
  have lt0 : ∀ x ∈ p0, x.block < W.heap.size := by obtain ⟨m, hm⟩ := k0; exact DataW.trod_lt m _ _ _ hm
  obtain ⟨f0, hf0⟩ := h0
  obtain ⟨l0, R0, U0, b0⟩ := arg_rows2 hf0
  obtain ⟨n1, rfl, rfl, rfl, wi1⟩ := open_int Tryd.underlying44 (hval 1 44 v1 rfl rfl) h1
  have bd1 := bounds_u16 wi1
  obtain ⟨n2, rfl, rfl, rfl, wi2⟩ := open_int Tryd.underlying31 (hval 2 31 v2 rfl rfl) h2
  have bd2 := bounds_u32 wi2
  simp only [List.append_nil] at hk
  obtain ⟨s0, s1, s2⟩ := short hk
  clear hA0
  refine (walk W bd1.1 bd1.2 bd2.1 bd2.2 R0 U0 (tables hL) (by omega)).mono fun e W' ⟨he, bel⟩ => ?_
  subst he
  exact ⟨_, rfl, _, _, _, [], _, [], hW', trodAll_mk1 (shut_bool Tryd.underlying4 _), (trodAll_cons_mk (Below.trod Tryd.laidOut (by kernel_rfl) (of_decide_eq_true (by kernel_rfl)) k0 bel lt0) (trodAll_cons_mk (shut_int Tryd.underlying44 wi1) (trodAll_cons_mk (shut_int Tryd.underlying31 wi2) trodAll_mk0))), rfl, bel.frame _, fun h => by cases h⟩

theorem laid_met (os : Os) : laidMet Tryd.prog Rows.frameDamageUptoRow.laid ((laidWorld os).forCall (fun _ _ => 0) ⟨#[], #[.slice none 0 0, .int .u16 0, .int .u32 0], []⟩).memory :=
  laidMet_of_run' 8 (by kernel_rfl) (by kernel_rfl)
theorem reads (os : Os) {H : Type} (enc : TypeId × Value → H) : ∃ places, DataW.whole enc Tryd.prog ((laidWorld os).forCall (fun _ _ => 0) ⟨#[], #[.slice none 0 0, .int .u16 0, .int .u32 0], []⟩).memory Tryd.f7.params.toList Rows.frameDamageSpec.vars false ((#[.slice none 0 0, .int .u16 0, .int .u32 0] : Array Value)).toList 8 = some ([.nil, .lit (.int .u16 0), .lit (.int .u32 0)], [], places) :=
  ⟨[], by kernel_rfl⟩

set_option maxRecDepth 100000 in
theorem lifted (os : Os) (started : os.Started) (H : Type) (enc : TypeId × Value → H) (F : Stop.Interp) :
    ReturnsInHanded {} Tryd.checked os 7 .any ((Rows.OpenSpec.upto Rows.frameDamageSpec).preRow enc Tryd.prog Tryd.f7 Rows.frameDamageUptoRow.domain false Rows.frameDamageUptoRow.laid) (((Rows.OpenSpec.upto Rows.frameDamageSpec).at F).post enc Tryd.prog Tryd.f7 false true false false) := by
  obtain ⟨places, hx⟩ := reads os enc
  refine returnsInHanded_of_row (C := Tryd.checked) (s := Rows.OpenSpec.upto Rows.frameDamageSpec) Tryd.ownK started (by kernel_rfl) Tryd.func7
    (witness_row_at (enc := enc) (C := Tryd.checked) false (laidWorld os) #[.slice none 0 0, .int .u16 0, .int .u32 0] rfl (by kernel_rfl) (by kernel_rfl) (by kernel_rfl)
      (OpenSpec.preRow_of_cond 8 hx (by kernel_rfl) (fun k hk => by cases hk; kernel_rfl) (by kernel_rfl) (laid_met os))) ?_
  intro W base args ds gs before hval hW _ hcond _ hL _ _
  exact contract H enc W base args ds gs before hval hW (hcond _ rfl) hL

theorem said : Rows.FrameDamageUptoSaid :=
  OpenClaim.holds_of_cond 7 Tryd.f7 rfl rfl rfl rfl rfl rfl rfl ⟨rfl, rfl, rfl, rfl, rfl⟩ rfl rfl rfl rfl rfl (by kernel_rfl) Tryd.func7 (by kernel_rfl)
    (of_decide_eq_true (by kernel_rfl)) (by unfold Func.isWrapper; first | (rw [if_pos (by decide +kernel)]; kernel_rfl) | (rw [if_neg (by decide +kernel)]; exact ⟨rfl, rfl⟩))
    (fun os started H enc _ F => by rw [OpenClaim.pre_eq_preRow]; exact lifted os started H enc F)

theorem plain (f : FuncId) (fn : Func) (hf : Tryd.pinned.checked.prog.funcNamed "pontoon/pontoonlaw02.FrameDamage" = some f) (hfn : Tryd.pinned.checked.prog.funcs[f]? = some fn) :
    false = Tryd.pinned.checked.prog.looks [] ∧ ∀ (j : Nat) t, fn.params[j]? = some t → Tryd.pinned.checked.prog.wantsStandIn t = false := by
  obtain rfl : f = 7 := Option.some.inj ((show Tryd.prog.funcNamed "pontoon/pontoonlaw02.FrameDamage" = some 7 by kernel_rfl).symm.trans hf) |>.symm
  obtain rfl : fn = Tryd.f7 := (Option.some.inj (Tryd.func7.symm.trans hfn)).symm
  refine ⟨by kernel_rfl, fun j t ht => ?_⟩
  rw [Tryd.params7] at ht
  have hm := Array.mem_of_getElem? ht
  have all : ∀ t ∈ Tryd.f7.params, Tryd.prog.wantsStandIn t = false := by rw [Tryd.params7]; simp only [List.mem_toArray, List.mem_cons, List.not_mem_nil, or_false, forall_eq_or_imp, forall_eq]; exact ⟨by kernel_rfl, by kernel_rfl, by kernel_rfl⟩
  rw [Tryd.params7] at all
  exact all t hm

theorem proved : Rows.FrameDamageUptoCardSaid :=
  Claim7.holds_tied_plain_at .later [] _ _ _ _ said (fun _ h => by cases h) (by kernel_rfl) (fun _ h => by cases h) frameDamageUpto_row_tie rfl ⟨rfl, rfl⟩ (by kernel_rfl) rfl plain (by kernel_rfl)

end Go.Proofs.YtcdjbfapldepaaaDoor.frameDamage
