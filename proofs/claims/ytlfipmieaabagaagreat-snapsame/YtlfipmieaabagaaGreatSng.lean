/-
  What pack.First and the reference's First return, over any world, which they leave as it is: the number with whose form bytes begin, its size, and the error. The condition: the slice reads as bytes.
-/
import Derived.Test.YtlfipmieaabagaaGreatByt
import Derived.WalkMore
import Derived.Deep.LoopGhost
import Derived.Test.YtlfipmieaabagaaGreatOnl
import Derived.OneCell
import Derived.Test.YtlfipmieaabagaaGreatSnc
namespace Go.Proofs.YtlfipmieaabagaaGreat
open Go.RowKit

theorem shl_or (h : Nat) (c : Int) (hh : h < 144115188075855872) (c0 : 0 ≤ c) (c1 : c < 128) :
    bits .or .u64 ((h : Int) * 128) c = ((h * 128 + c.toNat : Nat) : Int) := by
  have e : bits .or .u64 ((h : Int) * 128) c = bits .or .u64 ((h * 128 : Nat) : Int) ((c.toNat : Nat) : Int) := by
    congr 1; omega
  rw [e, u64_or_nat (h * 128) c.toNat (by omega) (by omega), nat_join 7 (h * 128) c.toNat (by omega) (by omega)]

theorem firstR_cons {l : List Int} {h k : Nat} (hk : k < l.length) : firstR h k (l.drop k) =
    if (k = 0 ∧ l.getD k 0 = 128) ∨ 144115188075855872 ≤ h then (0, 0, 11) else if l.getD k 0 < 128 then (uz (h * 128 + (l.getD k 0).toNat), k + 1, 0) else firstR (h * 128 + ((l.getD k 0).toNat - 128)) (k + 1) (l.drop (k + 1)) := by
  rw [List.drop_eq_getElem_cons hk, firstR]; simp [List.getD, List.getElem?_eq_getElem hk]
theorem firstR_done {l : List Int} {h k : Nat} (hk : ¬ k < l.length) : firstR h k (l.drop k) = (0, 0, 10) := by
  rw [List.drop_of_length_le (by omega), firstR]
theorem U8.at {l : List Int} (h : U8 l) {k : Nat} (hk : k < l.length) : 0 ≤ l.getD k 0 ∧ l.getD k 0 < 256 := by
  have := h (l[k]) (List.getElem_mem hk)
  simpa [List.getD, List.getElem?_eq_getElem hk] using this

def fstV (t : Int × Nat × Int) : Value := .tuple #[.int .i64 t.1, .int .i64 (t.2.1 : Int), .int .i64 t.2.2]


theorem first_bad {t : Int × Nat × Int} {q k : Nat} {x : Int} {a b : Int × Nat × Int} (H : t = if (k = 0 ∧ x = 128) ∨ 144115188075855872 ≤ q then (0, 0, 11) else if x < 128 then a else b) (h : (k = 0 ∧ x = 128) ∨ 144115188075855872 ≤ q) : t = (0, 0, 11) := by rw [H, if_pos h]
theorem first_end {t : Int × Nat × Int} {q k : Nat} {x : Int} {a b : Int × Nat × Int} (H : t = if (k = 0 ∧ x = 128) ∨ 144115188075855872 ≤ q then (0, 0, 11) else if x < 128 then a else b) (h : ¬ ((k = 0 ∧ x = 128) ∨ 144115188075855872 ≤ q)) (hx : x < 128) : t = a := by rw [H, if_neg h, if_pos hx]
theorem first_on {t : Int × Nat × Int} {q k : Nat} {x : Int} {a b : Int × Nat × Int} (H : t = if (k = 0 ∧ x = 128) ∨ 144115188075855872 ≤ q then (0, 0, 11) else if x < 128 then a else b) (h : ¬ ((k = 0 ∧ x = 128) ∨ 144115188075855872 ≤ q)) (hx : ¬ x < 128) : t = b := by rw [H, if_neg h, if_neg hx]

set_option maxHeartbeats 2000000 in
theorem first_any {v : Value} {l : List Int} {w : World} (hv : Row .u8 w v l) (hu : U8 l) :
    Calls Tryz.prog 112 #[v] w fun e w' => e = .returned (fstV (first l)) ∧ w' = w := by
  obtain ⟨p, cap, rfl, g1, g2, g3, g4⟩ := hv
  have HL : Hid (0 < l.length → ∃ b o, p = some ⟨b, o, none⟩ ∧ ∀ i, i < l.length → w.cell? ⟨b, o + i, none⟩ = some (.int .u8 (l.getD i 0))) := g4
  have HU : Hid (U8 l) := hu
  clear g3 g4 hu
  go_enter Tryz.func112, Tryz.ntmps112
  go_wp2; go_step3; go_wp2; go_step3; go_wp2
  go_loop [5, 6, 11] (fun h f i => ∃ q k : Nat, k ≤ l.length ∧ q < 18446744073709551616 ∧ i = .int .i64 (k : Int) ∧ h = .int .u64 (q : Int) ∧ f = .int .i64 10 ∧ Hid (first l = firstR q k (l.drop k))) (fun _ _ i => l.length - (intOf i).toNat)
  case atStart => exact ⟨0, 0, Nat.zero_le _, by decide, rfl, rfl, rfl, rfl⟩
  case round =>
    obtain ⟨q, k, hk, hq, rfl, rfl, rfl, HF⟩ := hrel
    by_cases hlt : k < l.length
    · obtain ⟨bb, o, rfl, hc⟩ := HL.out (by omega)
      obtain ⟨x, hx⟩ : ∃ x, x = l.getD k 0 := ⟨_, rfl⟩
      have hcx : w.cell? ⟨bb, o + k, none⟩ = some (.int .u8 x) := by rw [hx]; exact hc k hlt
      obtain ⟨x0, x1⟩ := HU.out.at hlt
      rw [← hx] at x0 x1
      have HX : Hid (first l = if (k = 0 ∧ x = 128) ∨ 144115188075855872 ≤ q then (0, 0, 11) else if x < 128 then (uz (q * 128 + x.toNat), k + 1, 0) else firstR (q * 128 + (x.toNat - 128)) (k + 1) (l.drop (k + 1))) := by
        show _ = _
        rw [HF.out, hx]; exact firstR_cons hlt
      clear hc hx HL
      by_cases hq57 : 144115188075855872 ≤ q
      · have HE : Hid (first l = (0, 0, 11)) := first_bad HX.out (.inr hq57)
        clear HX HF
        go_wp2
        all_goals go_ret3
        all_goals exact ⟨by rw [HE.out]; rfl, rfl⟩
      · by_cases hk0 : k = 0 ∧ x = 128
        · have HE : Hid (first l = (0, 0, 11)) := first_bad HX.out (.inl hk0)
          obtain ⟨rfl, rfl⟩ := hk0
          rw [Nat.add_zero] at hcx
          clear HX HF
          go_wp2
          all_goals go_ret3
          all_goals exact ⟨by rw [HE.out]; rfl, rfl⟩
        · have hor : ¬ ((k = 0 ∧ x = 128) ∨ 144115188075855872 ≤ q) := fun h => h.elim hk0 hq57
          by_cases hx : x < 128
          · have HE : Hid (first l = (uz (q * 128 + x.toNat), k + 1, 0)) := first_end HX.out hor hx
            have HS : Hid (bits .or .u64 ((q : Int) * 128) x = ((q * 128 + x.toNat : Nat) : Int)) := shl_or q x (by omega) x0 hx
            have HK : Hid (¬ (k = 0 ∧ x = 128)) := hk0
            clear HX HF hk0 hor
            go_wp2_with (go_at_call 128; rw [HS.out]; refine (signed_any _ _ (by omega)).mono ?_; rintro e w' ⟨rfl, rfl⟩)
            all_goals rw [Exit.noGoto_ret]
            all_goals go_ret3
            all_goals exact ⟨by rw [HE.out]; first | rfl | (have hz : k = 0 := by assumption
                                                            subst hz; rfl), rfl⟩
          · have HE : Hid (first l = firstR (q * 128 + (x.toNat - 128)) (k + 1) (l.drop (k + 1))) := first_on HX.out hor hx
            have HS : Hid (bits .or .u64 ((q : Int) * 128) (x - 128) = ((q * 128 + (x - 128).toNat : Nat) : Int)) := shl_or q (x - 128) (by omega) (by omega) (by omega)
            have HT : Hid ((x - 128).toNat = x.toNat - 128) := by show _ = _; omega
            have HK : Hid (¬ (k = 0 ∧ x = 128)) := hk0
            clear HX HF hk0 hor
            go_wp2
            · exact absurd (And.intro ‹k = 0› (eq_of_beq ‹(x == 128) = true›)) HK.out
            all_goals
              go_round
              case rel => exact ⟨q * 128 + (x - 128).toNat, k + 1, by omega, by omega, by go_num, by rw [HS.out], rfl, by show _ = _; rw [HE.out, HT.out]⟩
              case measure => simp [intOf]; omega
    · have HE : Hid (first l = (0, 0, 10)) := by
        show _ = _
        rw [HF.out, firstR_done hlt]
      clear HF HL
      go_wp2
      go_ret3
      exact ⟨by rw [HE.out]; rfl, rfl⟩

theorem mod_lo {x : Int} (x0 : 0 ≤ x) (x1 : x < 128) : x % 128 = x := by omega
set_option maxRecDepth 100000 in
set_option maxHeartbeats 2000000 in
theorem rfirst_any {v : Value} {l : List Int} {w : World} (hv : Row .u8 w v l) (hu : U8 l) :
    Calls Tryz.prog 95 #[v] w fun e w' => e = .returned (fstV (first l)) ∧ w' = w := by
  obtain ⟨p, cap, rfl, g1, g2, g3, g4⟩ := hv
  have HL : Hid (0 < l.length → ∃ b o, p = some ⟨b, o, none⟩ ∧ ∀ i, i < l.length → w.cell? ⟨b, o + i, none⟩ = some (.int .u8 (l.getD i 0))) := g4
  have HU : Hid (U8 l) := hu
  clear g3 g4 hu
  go_enter Tryz.func95, Tryz.ntmps95
  go_wp2
  go_loop [5, 6] (fun h i => ∃ q k : Nat, k ≤ l.length ∧ q < 18446744073709551616 ∧ i = .int .i64 (k : Int) ∧ h = .int .u64 (q : Int) ∧ Hid (first l = firstR q k (l.drop k))) (fun _ i => l.length - (intOf i).toNat)
  case atStart => exact ⟨0, 0, Nat.zero_le _, by decide, rfl, rfl, rfl⟩
  case round =>
    obtain ⟨q, k, hk, hq, rfl, rfl, HF⟩ := hrel
    by_cases hlt : k < l.length
    · obtain ⟨bb, o, rfl, hc⟩ := HL.out (by omega)
      obtain ⟨x, hx⟩ : ∃ x, x = l.getD k 0 := ⟨_, rfl⟩
      have hcx : w.cell? ⟨bb, o + k, none⟩ = some (.int .u8 x) := by rw [hx]; exact hc k hlt
      obtain ⟨x0, x1⟩ := HU.out.at hlt
      rw [← hx] at x0 x1
      have HX : Hid (first l = if (k = 0 ∧ x = 128) ∨ 144115188075855872 ≤ q then (0, 0, 11) else if x < 128 then (uz (q * 128 + x.toNat), k + 1, 0) else firstR (q * 128 + (x.toNat - 128)) (k + 1) (l.drop (k + 1))) := by
        show _ = _
        rw [HF.out, hx]; exact firstR_cons hlt
      clear hc hx HL
      by_cases hkz : k = 0
      · subst hkz
        rw [Nat.add_zero] at hcx
        by_cases hx8 : x = 128
        · subst hx8
          have HE : Hid (first l = (0, 0, 11)) := first_bad HX.out (.inl ⟨rfl, rfl⟩)
          clear HX HF
          go_wp2
          all_goals go_ret3
          all_goals exact ⟨by rw [HE.out]; rfl, rfl⟩
        · have hd : (x == 128) = false := by simpa using hx8
          by_cases hq57 : 144115188075855872 ≤ q
          · have HE : Hid (first l = (0, 0, 11)) := first_bad HX.out (.inr hq57)
            have hdq : decide ((144115188075855872 : Int) ≤ (q : Int)) = true := by simp; omega
            clear HX HF hx8
            go_wp2
            all_goals go_ret3
            all_goals exact ⟨by rw [HE.out]; rfl, rfl⟩
          · have hor : ¬ ((0 = 0 ∧ x = 128) ∨ 144115188075855872 ≤ q) := fun h => h.elim (fun g => hx8 g.2) hq57
            by_cases hx : x < 128
            · have HE : Hid (first l = (uz (q * 128 + x.toNat), 0 + 1, 0)) := first_end HX.out hor hx
              have HS : Hid ((q : Int) * 128 + x % 128 = ((q * 128 + x.toNat : Nat) : Int)) := by show _ = _; omega
              have hdq : decide ((144115188075855872 : Int) ≤ (q : Int)) = false := by simp; omega
              clear HX HF hx8 hor
              go_wp2_with (go_at_call 116; go_must (rw [HS.out]); refine (number_any _ _ (by omega)).mono ?_; rintro e w' ⟨rfl, rfl⟩)
              all_goals go_ret3
              all_goals exact ⟨by rw [HE.out]; rfl, rfl⟩
            · have HE : Hid (first l = firstR (q * 128 + (x.toNat - 128)) (0 + 1) (l.drop (0 + 1))) := first_on HX.out hor hx
              have HS : Hid ((q : Int) * 128 + x % 128 = ((q * 128 + (x.toNat - 128) : Nat) : Int)) := by show _ = _; omega
              have hdq : decide ((144115188075855872 : Int) ≤ (q : Int)) = false := by simp; omega
              clear HX HF hx8 hor
              go_wp2
              go_round
              case rel => exact ⟨q * 128 + (x.toNat - 128), 0 + 1, by omega, by omega, by go_num, by rw [← HS.out], HE⟩
              case measure => simp [intOf]; omega
      · have hk8 : ((k : Int) == 0) = false := by simp; omega
        by_cases hq57 : 144115188075855872 ≤ q
        · have HE : Hid (first l = (0, 0, 11)) := first_bad HX.out (.inr hq57)
          have hdq : decide ((144115188075855872 : Int) ≤ (q : Int)) = true := by simp; omega
          clear HX HF hkz
          go_wp2
          all_goals go_ret3
          all_goals exact ⟨by rw [HE.out]; rfl, rfl⟩
        · have hor : ¬ ((k = 0 ∧ x = 128) ∨ 144115188075855872 ≤ q) := fun h => h.elim (fun g => hkz g.1) hq57
          by_cases hx : x < 128
          · have HE : Hid (first l = (uz (q * 128 + x.toNat), k + 1, 0)) := first_end HX.out hor hx
            have HS : Hid ((q : Int) * 128 + x % 128 = ((q * 128 + x.toNat : Nat) : Int)) := by show _ = _; omega
            have hdq : decide ((144115188075855872 : Int) ≤ (q : Int)) = false := by simp; omega
            clear HX HF hkz hor
            go_wp2_with (go_at_call 116; go_must (rw [HS.out]); refine (number_any _ _ (by omega)).mono ?_; rintro e w' ⟨rfl, rfl⟩)
            all_goals go_ret3
            all_goals exact ⟨by rw [HE.out]; rfl, rfl⟩
          · have HE : Hid (first l = firstR (q * 128 + (x.toNat - 128)) (k + 1) (l.drop (k + 1))) := first_on HX.out hor hx
            have HS : Hid ((q : Int) * 128 + x % 128 = ((q * 128 + (x.toNat - 128) : Nat) : Int)) := by show _ = _; omega
            have hdq : decide ((144115188075855872 : Int) ≤ (q : Int)) = false := by simp; omega
            clear HX HF hkz hor
            go_wp2
            go_round
            case rel => exact ⟨q * 128 + (x.toNat - 128), k + 1, by omega, by omega, by go_num, by rw [← HS.out], HE⟩
            case measure => simp [intOf]; omega
    · have HE : Hid (first l = (0, 0, 10)) := by
        show _ = _
        rw [HF.out, firstR_done hlt]
      clear HF HL
      go_wp2
      go_ret3
      exact ⟨by rw [HE.out]; rfl, rfl⟩
end Go.Proofs.YtlfipmieaabagaaGreat

/-
  What the methods of pack.Unpacker do to an unpacker that Open made, over any world, in which nothing but the unpacker turns. The condition: the unpacker's bytes read as bytes.
-/
namespace Go.Proofs.YtlfipmieaabagaaGreat
open Go.RowKit

/-- An unpacker that Open made, in block bu: its rest v, of the bytes l, and its error; the rest lies neither there nor in block bx. -/
structure UnpX (bx : Nat → Prop) (w : World) (bu : Nat) (v : Value) (l : List Int) (e : Int) : Prop where
  block : w.heap[bu]? = some (.cells #[.bool true, v, .int .i64 e] 122 (0, 0))
  row : Row .u8 w v l
  apart : v.ownBlock ≠ some bu ∧ ∀ k, v.ownBlock = some k → ¬ bx k
  u8 : U8 l
  err : e ≠ 0 → l = []

/-- The same where no other block is of interest. -/
abbrev Unp (w : World) (bu : Nat) (v : Value) (l : List Int) (e : Int) : Prop := UnpX (fun k => k = bu) w bu v l e
theorem UnpX.other {bx by' : Nat → Prop} {w : World} {bu : Nat} {v : Value} {l : List Int} {e : Int} (h : UnpX bx w bu v l e) (hb : ∀ k, v.ownBlock = some k → ¬ by' k) : UnpX by' w bu v l e :=
  ⟨h.block, h.row, ⟨h.apart.1, hb⟩, h.u8, h.err⟩

theorem UnpX.c0 {w : World} {bu : Nat} {bx : Nat → Prop} {v : Value} {l : List Int} {e : Int} (h : UnpX bx w bu v l e) : w.cell? ⟨bu, 0, none⟩ = some (.bool true) := by simp [World.cell?, h.block]
theorem UnpX.c1 {w : World} {bu : Nat} {bx : Nat → Prop} {v : Value} {l : List Int} {e : Int} (h : UnpX bx w bu v l e) : w.cell? ⟨bu, 1, none⟩ = some v := by simp [World.cell?, h.block]
theorem UnpX.c2 {w : World} {bu : Nat} {bx : Nat → Prop} {v : Value} {l : List Int} {e : Int} (h : UnpX bx w bu v l e) : w.cell? ⟨bu, 2, none⟩ = some (.int .i64 e) := by simp [World.cell?, h.block]
theorem UnpX.fz {w : World} {bu : Nat} {bx : Nat → Prop} {v : Value} {l : List Int} {e : Int} (h : UnpX bx w bu v l e) (o : Nat) : w.frozen? ⟨bu, o, none⟩ = false := by simp [World.frozen?, h.block]

set_option maxHeartbeats 400000 in
theorem err_any {w : World} {bu : Nat} {bx : Nat → Prop} {v : Value} {l : List Int} {e : Int} (h : UnpX bx w bu v l e) :
    Calls Tryz.prog 58 #[.pointer (some ⟨bu, 0, none⟩)] w fun r w' => r = .returned (.int .i64 e) ∧ w' = w := by
  have c0 := h.c0
  have c2 := h.c2
  clear h
  go_enter Tryz.func58, Tryz.ntmps58
  go_wp2
  go_ret
  exact ⟨rfl, rfl⟩

/-- What Close tells. -/
def closes (l : List Int) (e : Int) : Int := if e = 0 then (if l = [] then 0 else 12) else e

set_option maxHeartbeats 400000 in
theorem close_any {w : World} {bu : Nat} {bx : Nat → Prop} {v : Value} {l : List Int} {e : Int} (h : UnpX bx w bu v l e) :
    Calls Tryz.prog 25 #[.pointer (some ⟨bu, 0, none⟩)] w fun r w' => r = .returned (.int .i64 (closes l e)) ∧ w' = w := by
  have c1 := h.c1
  have H : Hid (UnpX bx w bu v l e) := h
  obtain ⟨p, cap, rfl, g1, g2, g3, g4⟩ := h.row
  clear h g3 g4
  by_cases he : e = 0
  · subst he
    by_cases hl : 0 < l.length
    · have hc : Hid (closes l 0 = 12) := by show closes l 0 = 12; unfold closes; rw [if_pos rfl, if_neg (by rintro rfl; simp at hl)]
      go_enter Tryz.func25, Tryz.ntmps25
      go_wp2_with (go_at_call 58; refine (err_any H.out).mono ?_; rintro r w' ⟨rfl, rfl⟩)
      go_ret
      exact ⟨by rw [hc.out]; rfl, rfl⟩
    · have hc : Hid (closes l 0 = 0) := by show closes l 0 = 0; unfold closes; rw [if_pos rfl, if_pos (List.eq_nil_of_length_eq_zero (by omega))]
      go_enter Tryz.func25, Tryz.ntmps25
      go_wp2_with (go_at_call 58; refine (err_any H.out).mono ?_; rintro r w' ⟨rfl, rfl⟩)
      go_ret
      exact ⟨by rw [hc.out]; rfl, rfl⟩
  · have hc : Hid (closes l e = e) := by show closes l e = e; unfold closes; rw [if_neg he]
    have hn : (e != 0) = true := by simpa using he
    clear he
    go_enter Tryz.func25, Tryz.ntmps25
    go_wp2_with (go_at_call 58; refine (err_any H.out).mono ?_; rintro r w' ⟨rfl, rfl⟩)
    go_ret
    exact ⟨by rw [hc.out]; rfl, rfl⟩

/- WHAT STORES INTO AN UNPACKER LEAVE. -/
theorem set_block {w : World} {b : Nat} {cs : Array Value} {t : TypeId} {f : Nat × Nat} (h : w.heap[b]? = some (.cells cs t f)) (o : Nat) (x : Value) : (w.setCell ⟨b, o, none⟩ x).heap[b]? = some (.cells (cs.setIfInBounds o x) t f) := by
  simp [World.setCell, Array.getElem?_modify, h]
theorem set_grown (w : World) (b o : Nat) (x : Value) : w.grownBy (w.setCell ⟨b, o, none⟩ x) (some b) :=
  ⟨rfl, rfl, rfl, by simp [World.setCell], fun k hk hne => Below.heap_setCell w ⟨b, o, none⟩ x k (by intro h; exact hne (by rw [h]))⟩

theorem grown_trans {w w1 w2 : World} {row : Option Nat} (h : w.grownBy w1 row) (k : w1.grownBy w2 row) : w.grownBy w2 row :=
  ⟨k.os.trans h.os, k.tape.trans h.tape, k.output.trans h.output, Nat.le_trans h.size k.size, fun i hi hne => (k.block i (Nat.lt_of_lt_of_le hi h.size) hne).trans (h.block i hi hne)⟩

theorem below_grown {w w' : World} (h : Below w.heap.size w w') (row : Option Nat) : w.grownBy w' row :=
  ⟨h.os, h.tape, h.output, h.size, fun k hk _ => h.block k hk⟩

/-- What Spoil makes of the rest and the error. -/
def spoils (l : List Int) (e x : Int) : List Int × Int := if x = 0 ∨ e ≠ 0 then (l, e) else ([], x)

set_option maxHeartbeats 400000 in
theorem spoil_any {w : World} {bu : Nat} {bx : Nat → Prop} {v : Value} {l : List Int} {e x : Int} (h : UnpX bx w bu v l e) :
    Calls Tryz.prog 113 #[.pointer (some ⟨bu, 0, none⟩), .int .i64 x] w fun r w' => r = .returned (.tuple #[]) ∧ w.grownBy w' (some bu) ∧ ∃ v', UnpX bx w' bu v' (spoils l e x).1 (spoils l e x).2 := by
  have H : Hid (UnpX bx w bu v l e) := h
  have c1 := h.c1
  have c2 := h.c2
  have f1 := h.fz 1
  have f2 := h.fz 2
  clear h
  by_cases hx : x = 0
  · subst hx
    have hs : spoils l e 0 = (l, e) := by unfold spoils; rw [if_pos (.inl rfl)]
    have HS : Hid (spoils l e 0 = (l, e)) := hs
    clear hs
    go_enter Tryz.func113, Tryz.ntmps113
    go_wp2_with (go_at_call 58; refine (err_any H.out).mono ?_; rintro r w' ⟨rfl, rfl⟩)
    all_goals refine bodyPost_ret (results_none rfl _ _ _) rfl ?_
    all_goals exact ⟨rfl, World.grownBy.refl _ _, v, by rw [HS.out]; exact H.out⟩
  · have hx8 : (x == 0) = false := by simpa using hx
    by_cases he : e = 0
    · subst he
      have HS : Hid (spoils l 0 x = ([], x)) := by show spoils l 0 x = _; unfold spoils; rw [if_neg (by simp [hx])]
      go_enter Tryz.func113, Tryz.ntmps113
      go_wp2_with (go_at_call 58; refine (err_any H.out).mono ?_; rintro r w' ⟨rfl, rfl⟩)
      go_end0
      refine ⟨rfl, grown_trans (set_grown _ _ _ _) (set_grown _ _ _ _), .slice none 0 0, ?_⟩
      rw [HS.out]
      exact ⟨by rw [set_block (set_block H.out.block 2 _) 1 _]; rfl, Row.nil _ _, by simp [Value.ownBlock], by intro y hy; simp at hy, fun _ => rfl⟩
    · have hn : (e != 0) = true := by simpa using he
      have HS : Hid (spoils l e x = (l, e)) := by show spoils l e x = _; unfold spoils; rw [if_pos (.inr he)]
      clear he
      go_enter Tryz.func113, Tryz.ntmps113
      go_wp2_with (go_at_call 58; refine (err_any H.out).mono ?_; rintro r w' ⟨rfl, rfl⟩)
      all_goals refine bodyPost_ret (results_none rfl _ _ _) rfl ?_
      all_goals exact ⟨rfl, World.grownBy.refl _ _, v, by rw [HS.out]; exact H.out⟩

/-- What Int reads: the number, the rest and the error. -/
def reads (l : List Int) (e least most : Int) : Int × List Int × Int :=
  if e ≠ 0 then (0, l, e) else if (first l).2.2 ≠ 0 then (0, [], (first l).2.2)
  else if (first l).1 < least ∨ most < (first l).1 then (0, [], 11) else ((first l).1, l.drop (first l).2.1, 0)

theorem first_facts {l : List Int} (hu : U8 l) : ((first l).2.2 = 0 ∧ 0 < (first l).2.1 ∧ (first l).2.1 ≤ l.length ∧ -9223372036854775808 ≤ (first l).1 ∧ (first l).1 ≤ 9223372036854775807) ∨
     ((first l).2.2 = 10 ∧ (first l).1 = 0 ∧ (first l).2.1 = 0) ∨ ((first l).2.2 = 11 ∧ (first l).1 = 0 ∧ (first l).2.1 = 0) := by
  have := firstR_facts l 0 0 (by decide) hu
  simpa [first] using this

theorem spoils_new {l : List Int} {x : Int} (hx : x ≠ 0) : spoils l 0 x = ([], x) := by unfold spoils; rw [if_neg (by simp [hx])]


theorem unp_set {w : World} {bu : Nat} {bx : Nat → Prop} {v v' : Value} {l l' : List Int} (h : UnpX bx w bu v l 0) (hr : Row .u8 w v' l') (ha : v'.ownBlock ≠ some bu ∧ ∀ k, v'.ownBlock = some k → ¬ bx k) (hu : U8 l') : UnpX bx (w.setCell ⟨bu, 1, none⟩ v') bu v' l' 0 :=
  ⟨by rw [set_block h.block 1 v']; rfl, hr.kept (set_grown _ _ _ _) (.inr ha.1), ha, hu, fun h => absurd rfl h⟩

theorem first_at {v : Value} {l : List Int} {w : World} {n er : Int} {k : Nat} (hv : Row .u8 w v l) (hu : U8 l) (hf : first l = (n, k, er)) :
    Calls Tryz.prog 112 #[v] w fun e w' => e = .returned (.tuple #[.int .i64 n, .int .i64 (k : Int), .int .i64 er]) ∧ w' = w := by
  refine (first_any hv hu).mono ?_
  rintro e w' ⟨rfl, rfl⟩
  rw [hf]
  exact ⟨rfl, rfl⟩

theorem reads_err {l : List Int} {n er : Int} {k : Nat} (hf : first l = (n, k, er)) (h : er ≠ 0) (least most : Int) : reads l 0 least most = (0, [], er) := by
  unfold reads; rw [if_neg (by simp), hf, if_pos h]
theorem reads_out {l : List Int} {n er : Int} {k : Nat} (hf : first l = (n, k, er)) (h : er = 0) {least most : Int} (ho : n < least ∨ most < n) : reads l 0 least most = (0, [], 11) := by
  unfold reads; rw [if_neg (by simp), hf, if_neg (by simpa using h), if_pos ho]
theorem reads_in {l : List Int} {n er : Int} {k : Nat} (hf : first l = (n, k, er)) (h : er = 0) {least most : Int} (ho : ¬ (n < least ∨ most < n)) : reads l 0 least most = (n, l.drop k, 0) := by
  unfold reads; rw [if_neg (by simp), hf, if_neg (by simpa using h), if_neg ho]

set_option maxHeartbeats 1000000 in
theorem uint_any {w : World} {bu : Nat} {bx : Nat → Prop} {v : Value} {l : List Int} {e least most : Int} (h : UnpX bx w bu v l e) :
    Calls Tryz.prog 90 #[.pointer (some ⟨bu, 0, none⟩), .int .i64 least, .int .i64 most] w fun r w' =>
      r = .returned (.int .i64 (reads l e least most).1) ∧ w.grownBy w' (some bu) ∧ ∃ v', UnpX bx w' bu v' (reads l e least most).2.1 (reads l e least most).2.2 := by
  have H : Hid (UnpX bx w bu v l e) := h
  have c1 := h.c1
  have f1 := h.fz 1
  have ff := first_facts h.u8
  obtain ⟨p, cap, rfl, g1, g2, g3, g4⟩ := h.row
  clear h g3 g4
  by_cases he : e = 0
  · subst he
    obtain ⟨n, k, er, hf⟩ : ∃ n k er, first l = (n, k, er) := ⟨_, _, _, rfl⟩
    rw [hf] at ff
    simp only at ff
    have HF : Hid (first l = (n, k, er)) := hf
    by_cases h0 : er = 0
    · have hk : 0 < k ∧ k ≤ l.length := by omega
      subst h0
      clear ff hf
      by_cases ho : n < least ∨ most < n
      · have HR : Hid (reads l 0 least most = (0, [], 11)) := reads_out HF.out rfl ho
        have HS : Hid (spoils l 0 11 = ([], 11)) := spoils_new (by decide)
        rcases ho with ho | ho
        · go_enter Tryz.func90, Tryz.ntmps90
          go_wp2_with (first
            | (go_at_call 58; refine (err_any H.out).mono ?_; rintro r w' ⟨rfl, rfl⟩)
            | (go_at_call 112; refine (first_at H.out.row H.out.u8 HF.out).mono ?_; rintro r w' ⟨rfl, rfl⟩)
            | (go_at_call 113; refine (spoil_any H.out).mono ?_; rintro r w1 ⟨rfl, hg, v1, hu1⟩))
          go_ret
          exact ⟨by rw [HR.out]; rfl, hg, v1, by rw [HR.out]; rw [HS.out] at hu1; exact hu1⟩
        · by_cases hlo : n < least
          all_goals
            go_enter Tryz.func90, Tryz.ntmps90
            go_wp2_with (first
              | (go_at_call 58; refine (err_any H.out).mono ?_; rintro r w' ⟨rfl, rfl⟩)
              | (go_at_call 112; refine (first_at H.out.row H.out.u8 HF.out).mono ?_; rintro r w' ⟨rfl, rfl⟩)
              | (go_at_call 113; refine (spoil_any H.out).mono ?_; rintro r w1 ⟨rfl, hg, v1, hu1⟩))
            go_ret
            exact ⟨by rw [HR.out]; rfl, hg, v1, by rw [HR.out]; rw [HS.out] at hu1; exact hu1⟩
      · have HR : Hid (reads l 0 least most = (n, l.drop k, 0)) := reads_in HF.out rfl ho
        have h1 : ¬ n < least := fun h => ho (.inl h)
        have h2 : ¬ most < n := fun h => ho (.inr h)
        clear ho
        go_enter Tryz.func90, Tryz.ntmps90
        go_wp2_with (first
          | (go_at_call 58; refine (err_any H.out).mono ?_; rintro r w' ⟨rfl, rfl⟩)
          | (go_at_call 112; refine (first_at H.out.row H.out.u8 HF.out).mono ?_; rintro r w' ⟨rfl, rfl⟩)
          | (go_at_call 113; refine (spoil_any H.out).mono ?_; rintro r w1 ⟨rfl, hg, v1, hu1⟩))
        · go_ret
          refine ⟨by rw [HR.out]; rfl, set_grown _ _ _ _, .slice p (l.length - k) 0, ?_⟩
          rw [HR.out]
          exact unp_set H.out (H.out.row.cutEnd hk.2 ‹cap = k›) (by rw [block_same p _ _ l.length cap]; exact H.out.apart) (H.out.u8.drop k)
        · go_ret
          refine ⟨by rw [HR.out]; rfl, set_grown _ _ _ _, .slice (Option.map (fun x => x.add k) p) (l.length - k) (cap - k), ?_⟩
          rw [HR.out]
          exact unp_set H.out (H.out.row.cut hk.2) (by rw [block_add p _ _ l.length cap k]; exact H.out.apart) (H.out.u8.drop k)
    · have h0n : (er != 0) = true := by simpa using h0
      have h0e : (er == 0) = false := by simpa using h0
      have HR : Hid (reads l 0 least most = (0, [], er)) := reads_err HF.out h0 least most
      have HS : Hid (spoils l 0 er = ([], er)) := spoils_new h0
      clear ff hf h0
      go_enter Tryz.func90, Tryz.ntmps90
      go_wp2_with (first
        | (go_at_call 58; refine (err_any H.out).mono ?_; rintro r w' ⟨rfl, rfl⟩)
        | (go_at_call 112; refine (first_at H.out.row H.out.u8 HF.out).mono ?_; rintro r w' ⟨rfl, rfl⟩)
        | (go_at_call 113; refine (spoil_any H.out).mono ?_; rintro r w1 ⟨rfl, hg, v1, hu1⟩))
      go_ret
      exact ⟨by rw [HR.out]; rfl, hg, v1, by rw [HR.out]; rw [HS.out] at hu1; exact hu1⟩
  · have hn : (e != 0) = true := by simpa using he
    have HR : Hid (reads l e least most = (0, l, e)) := by show reads l e least most = _; unfold reads; rw [if_pos he]
    clear he ff
    go_enter Tryz.func90, Tryz.ntmps90
    go_wp2_with (go_at_call 58; refine (err_any H.out).mono ?_; rintro r w' ⟨rfl, rfl⟩)
    go_ret
    exact ⟨by rw [HR.out]; rfl, World.grownBy.refl _ _, _, by rw [HR.out]; exact H.out⟩

theorem UnpX.below {w w' : World} {bu : Nat} {bx : Nat → Prop} {v : Value} {l : List Int} {e : Int} (h : UnpX bx w bu v l e) (hb : Below w.heap.size w w') : UnpX bx w' bu v l e :=
  ⟨by rw [hb.block bu (Array.getElem?_eq_some_iff.1 h.block).1]; exact h.block, h.row.below hb, h.apart, h.u8, h.err⟩
theorem UnpX.cap {w : World} {bu n cap : Nat} {bx : Nat → Prop} {p : Option Addr} {l : List Int} {e : Int} (h : UnpX bx w bu (.slice p n cap) l e) : n ≤ cap ∧ cap ≤ 9223372036854775807 := by
  obtain ⟨p', cap', he, h1, h2, _⟩ := h.row
  simp only [Value.slice.injEq] at he
  omega

/-- What Str reads: the bytes, the rest and the error. -/
def readsStr (l : List Int) (e most : Int) : List Int × List Int × Int :=
  if (reads l e 0 (max most 0)).2.2 ≠ 0 then ([], (reads l e 0 (max most 0)).2.1, (reads l e 0 (max most 0)).2.2)
  else if ((reads l e 0 (max most 0)).2.1.length : Int) < (reads l e 0 (max most 0)).1 then ([], [], 10)
  else ((reads l e 0 (max most 0)).2.1.take (reads l e 0 (max most 0)).1.toNat, (reads l e 0 (max most 0)).2.1.drop (reads l e 0 (max most 0)).1.toNat, 0)

theorem reads_nonneg {l : List Int} {e most : Int} : 0 ≤ (reads l e 0 most).1 := by
  unfold reads
  split
  · simp
  · split
    · simp
    · split
      · simp
      · rename_i h; simp only; omega
theorem reads_len {l : List Int} {e least most : Int} : (reads l e least most).2.1.length ≤ l.length := by
  unfold reads
  split
  · simp
  · split
    · simp
    · split
      · simp
      · simp

theorem uint_at {w : World} {bu : Nat} {bx : Nat → Prop} {v : Value} {l l1 : List Int} {e e1 least most n : Int} (h : UnpX bx w bu v l e) (hr : reads l e least most = (n, l1, e1)) :
    Calls Tryz.prog 90 #[.pointer (some ⟨bu, 0, none⟩), .int .i64 least, .int .i64 most] w fun r w' =>
      r = .returned (.int .i64 n) ∧ w.grownBy w' (some bu) ∧ ∃ p cap, UnpX bx w' bu (.slice p l1.length cap) l1 e1 := by
  refine (uint_any h).mono ?_
  rintro r w' ⟨rfl, hg, v', hu⟩
  rw [hr] at hu ⊢
  obtain ⟨p, cap, rfl, _⟩ := id hu.row
  exact ⟨rfl, hg, p, cap, hu⟩

set_option maxHeartbeats 1000000 in
theorem open_more {w : World} {v : Value} {l : List Int} (h : Row .u8 w v l) (hu : U8 l) (hbig : l.length ≤ 140737488355328) :
    Calls Tryz.prog 23 #[v] w fun r w' => ∃ bu v', r = .returned (.pointer (some ⟨bu, 0, none⟩)) ∧ w.heap.size ≤ bu ∧ Unp w' bu v' l 0 ∧ Below w.heap.size w w' ∧ bu < w'.heap.size ∧ ∀ k, v'.ownBlock = some k → w.heap.size ≤ k ∧ k < w'.heap.size := by
  have H : Hid (Row .u8 w v l) := h
  clear h
  go_enter Tryz.func23, Tryz.ntmps23
  go_wp2_with (go_at_call 53; refine (clone_any H.out hbig).mono ?_; rintro r w1 ⟨v1, rfl, hown1, hb1⟩; have hR1 := own_row hown1; obtain ⟨p1, cap1, rfl, _⟩ := id hR1; have HR1 := (show Hid (Row _ _ _ _) from hR1); have HO1 := (show Hid (World.ownsRow _ _ _ _ _ _ _) from hown1); clear hR1 hown1)
  go_ret
  have hne : (Value.slice p1 l.length cap1).ownBlock ≠ some w1.heap.size := by
    intro hk
    have := (HO1.out.lt _ hk).2
    omega
  refine ⟨w1.heap.size, .slice p1 l.length cap1, rfl, hb1.size, ?_, hb1.alloc hb1.size _, by simp, fun k hk => ?_⟩
  · exact ⟨heap_alloc_new w1 _, HR1.out.below ((Below.refl _ _).alloc (Nat.le_refl _) _), ⟨hne, fun k hk e => hne (by rw [hk, e])⟩, hu, fun h => absurd rfl h⟩
  · have := HO1.out.lt k hk
    simp
    omega

theorem open_any {w : World} {v : Value} {l : List Int} (h : Row .u8 w v l) (hu : U8 l) (hbig : l.length ≤ 140737488355328) :
    Calls Tryz.prog 23 #[v] w fun r w' => ∃ bu v', r = .returned (.pointer (some ⟨bu, 0, none⟩)) ∧ w.heap.size ≤ bu ∧ Unp w' bu v' l 0 ∧ Below w.heap.size w w' := by
  refine (open_more h hu hbig).mono ?_
  rintro r w' ⟨bu, v', h1, h2, h3, h4, _, _⟩
  exact ⟨bu, v', h1, h2, h3, h4⟩

end Go.Proofs.YtlfipmieaabagaaGreat

/-
  Reading numbers of a state's form: number, lists of numbers. The conditions: that an unpacker lies there.
-/
namespace Go.Proofs.YtlfipmieaabagaaGreat
open Go.RowKit Go.Shelf

/-- An unpacker below B, whose bytes lie below B, too. -/
structure UP (W : World) (B bu : Nat) (l : List Int) (e : Int) : Prop where
  unp : ∃ v, UnpX (fun k => B ≤ k) W bu v l e
  lt : bu < B
  le : B ≤ W.heap.size
theorem UP.only {F : Nat → Prop} {W w' : World} {B bu : Nat} {l : List Int} {e : Int} (h : UP W B bu l e) (ho : Only F W w') (hF : ∀ i, F i → B ≤ i) : UP w' B bu l e := by
  obtain ⟨⟨v, h⟩, h1, h2⟩ := h
  refine ⟨⟨v, ho.obj h.block (fun e => absurd (hF _ e) (by omega)), ?_, h.apart, h.u8, h.err⟩, h1, Nat.le_trans h2 ho.size⟩
  obtain ⟨p, cap, hv, k1, k2, k3, k4⟩ := h.row
  refine ⟨p, cap, hv, k1, k2, k3, fun h0 => ?_⟩
  obtain ⟨b, o, hp, hc⟩ := k4 h0
  refine ⟨b, o, hp, fun i hi => ho.cell (hc i hi) (fun hf => ?_)⟩
  exact h.apart.2 b (by rw [hv, hp]; rfl) (hF b hf)
theorem UP.later {W w' : World} {B bu : Nat} {l : List Int} {e : Int} (h : UP W B bu l e) (hb : Below W.heap.size W w') : UP w' B bu l e :=
  h.only (Only.fresh hb (fun _ => False)) (fun _ e => e.elim)
def numRd (l : List Int) (e : Int) : Int × List Int × Int := reads l e (-9223372036854775808) 9223372036854775807
/-- So many things, one behind the other. -/
def loopR {α : Type} (one : List Int → Int → α × List Int × Int) : Nat → List Int → Int → List α × List Int × Int
  | 0, l, e => ([], l, e)
  | n + 1, l, e => if (one l e).2.2 = 0 then ((one l e).1 :: (loopR one n (one l e).2.1 (one l e).2.2).1, (loopR one n (one l e).2.1 (one l e).2.2).2) else ([], (one l e).2)
def listR {α : Type} (one : List Int → Int → α × List Int × Int) (l : List Int) (e : Int) : List α × List Int × Int :=
  loopR one (reads l e 0 131072).1.toNat (reads l e 0 131072).2.1 (reads l e 0 131072).2.2
theorem reads_most {l : List Int} {e most : Int} (h : 0 ≤ most) : (reads l e 0 most).1 ≤ most := by
  unfold reads
  split
  · exact h
  · split
    · exact h
    · split
      · exact h
      · rename_i h3
        simp only
        omega
/-- What a reader's call answers and leaves. -/
def ReadAt (W : World) (B bu : Nat) (v : Value) (r : List Int × Int) (x : Ending) (w' : World) : Prop := x = .returned v ∧ Only (· = bu) W w' ∧ UP w' B bu r.1 r.2
theorem uint_up {W : World} {B bu : Nat} {l : List Int} {e least most : Int} (h : UP W B bu l e) : Calls Tryz.prog 90 #[.pointer (some ⟨bu, 0, none⟩), .int .i64 least, .int .i64 most] W (ReadAt W B bu (.int .i64 (reads l e least most).1) (reads l e least most).2) := by
  obtain ⟨⟨v, hu⟩, h1, h2⟩ := h
  refine (uint_any hu).mono ?_
  rintro _ w' ⟨rfl, hg, v', hu'⟩
  exact ⟨rfl, Only.of_grown (F := (· = bu)) hg (fun k e => by simpa using e.symm), ⟨v', hu'⟩, h1, Nat.le_trans h2 (Only.of_grown (F := (· = bu)) hg (fun k e => by simpa using e.symm)).size⟩
set_option maxRecDepth 100000 in
theorem rnum_any {W : World} {B bu : Nat} {l : List Int} {e : Int} (h : UP W B bu l e) : Calls Tryz.prog 54 #[.agg #[.pointer (some ⟨bu, 0, none⟩)]] W (ReadAt W B bu (.int .i64 (numRd l e).1) (numRd l e).2) := by
  have ab := alloc_below W (.cells #[.pointer (some ⟨bu, 0, none⟩)] 67 (0, 0))
  have HU := hide (uint_up (least := -9223372036854775808) (most := 9223372036854775807) (h.later ab))
  have HAB := hide ab
  clear h ab
  go_enter Tryz.func54, Tryz.ntmps54
  go_wp2_with fail
  refine HU.out.mono ?_
  rintro _ w1 ⟨rfl, o1, u1⟩
  have HO := hide ((Only.fresh HAB.out (· = bu)).trans o1)
  have HU1 := hide u1
  obtain ⟨n, hn⟩ : ∃ n, (reads l e (-9223372036854775808) 9223372036854775807).1 = n := ⟨_, rfl⟩
  rw [hn]
  have HN := hide hn
  clear o1 u1 hn
  go_wp2
  go_ret
  exact ⟨by unfold numRd; rw [HN.out]; rfl, HO.out, HU1.out⟩
/-- What a reader of a list answers and leaves. -/
def ListAt (W : World) (B bu : Nat) (t : TypeId) (size n : Nat) (cells : List Value) (r : List Int × Int) (z : Ending) (w' : World) : Prop := ∃ p c m, z = .returned (.slice p m c) ∧ n = m ∧ w'.ownsRow W.heap.size t size (.slice p m c) m cells ∧ Only (· = bu) W w' ∧ UP w' B bu r.1 r.2
set_option maxRecDepth 100000 in
set_option maxHeartbeats 8000000 in
theorem listInt_any {W : World} {B bu : Nat} {l : List Int} {e : Int} (h : UP W B bu l e) {xs : List Int} {r : List Int × Int} (hx : listR numRd l e = (xs, r)) :
    Calls Tryz.prog 55 #[.agg #[.pointer (some ⟨bu, 0, none⟩)], .func (.func 54) #[] #[]] W (ListAt W B bu 2 1 xs.length (xs.map (Value.int .i64)) r) := by
  obtain ⟨j0, hj0, hj1, hj2, hj3⟩ := info_parts Tryz.infoN
  obtain ⟨V, hV⟩ : ∃ V, V = W.alloc (.cells #[.pointer (some ⟨bu, 0, none⟩)] 67 (0, 0)) := ⟨_, rfl⟩
  have bV : Below W.heap.size W V := by rw [hV]; exact alloc_below _ _
  obtain ⟨rB, hrB⟩ : ∃ rB, W.heap.size = rB := ⟨_, rfl⟩
  have u0 : V.heap[rB]? = some (.cells #[.pointer (some ⟨bu, 0, none⟩)] 67 (0, 0)) := by rw [hV, ← hrB]; exact heap_alloc_new W _
  have x0 : V.cell? ⟨rB, 0, none⟩ = some (.pointer (some ⟨bu, 0, none⟩)) := by simp [World.cell?, u0]
  obtain ⟨n0, hn0⟩ : ∃ n0 : Nat, (reads l e 0 131072).1 = (n0 : Int) := ⟨(reads l e 0 131072).1.toNat, by have := reads_nonneg (l := l) (e := e) (most := 131072); omega⟩
  obtain ⟨t1, ht1⟩ : ∃ t, (reads l e 0 131072).2 = t := ⟨_, rfl⟩
  have hup := uint_up (least := 0) (most := 131072) (h.later bV)
  rw [hn0, ht1] at hup
  have HUI := hide hup
  have HXS : Hid (loopR numRd n0 t1.1 t1.2 = (xs, r)) := hide (by rw [← hx]; unfold listR; rw [hn0, ht1, Int.toNat_natCast])
  have hnb : n0 ≤ 131072 := by
    have h9 : (reads l e 0 131072).1 ≤ 131072 := reads_most (by decide)
    omega
  have HB := hide bV
  have HU0 := hide u0
  have HBR : Hid (B ≤ W.heap.size ∧ bu < B ∧ W.heap.size ≤ rB) := hide ⟨h.le, h.lt, by omega⟩
  clear h bV u0 hx hn0 ht1 hup
  go_enter Tryz.func55, Tryz.ntmps55
  go_upto_region 1 with fail
  rw [← hV]
  try rw [hrB]
  clear hV hrB
  go_wp2_with fail
  go_step3
  go_wp2_with fail
  go_step3
  go_wp2_with fail
  refine HUI.out.mono ?_
  rintro _ w1 ⟨rfl, o1, u1⟩
  have HO1 : Hid (Only (· = bu) W w1) := hide ((Only.fresh HB.out (· = bu)).trans o1)
  have HU1 := hide u1
  have HR1 : Hid (w1.heap[rB]? = some (.cells #[.pointer (some ⟨bu, 0, none⟩)] 67 (0, 0))) := hide (o1.obj HU0.out (fun e => by have e' : rB = bu := e; have := HBR.out; omega))
  clear o1 u1 x0 HUI
  go_wp2_with fail
  go_loopw [5, 6] (fun s i wq => ∃ (k : Nat) (ys : List Int) (t : List Int × Int) (q : Option Addr) (qc m : Nat), k ≤ n0 ∧ i = .int .i64 (k : Int) ∧ s = .slice q m qc ∧ Hid (ys.length = m ∧ m + k ≤ n0) ∧ Hid ((ys ++ (loopR numRd k t.1 t.2).1, (loopR numRd k t.1 t.2).2) = (xs, r)) ∧ Hid (wq.ownsRow W.heap.size 2 1 (.slice q m qc) m (ys.map (Value.int .i64))) ∧ Hid (Only (· = bu) W wq) ∧ Hid (UP wq B bu t.1 t.2) ∧ Hid (wq.heap[rB]? = some (.cells #[.pointer (some ⟨bu, 0, none⟩)] 67 (0, 0)))) (fun _ i _ => (intOf i).toNat)
  case atStart => exact ⟨n0, [], t1, none, 0, 0, Nat.le_refl _, rfl, rfl, hide ⟨rfl, by omega⟩, hide (by rw [List.nil_append]; exact HXS.out), hide (World.ownsRow_nil _ _ _ _), HO1, HU1, HR1⟩
  case round =>
    obtain ⟨k, ys, t, q, qc, m, hk, rfl, rfl, HM, HX, HO, HON, HU, HR⟩ := hrel
    rename World => wq
    clear HXS HO1 HU1 HR1
    have hr9 := HR.out
    have x0 : wq.cell? ⟨rB, 0, none⟩ = some (.pointer (some ⟨bu, 0, none⟩)) := by simp [World.cell?, hr9]
    clear hr9
    cases k with
    | zero =>
      have h9 := HX.out
      simp only [loopR, List.append_nil, Prod.mk.injEq] at h9
      obtain ⟨rfl, rfl⟩ := h9
      go_wp2
      go_ret
      exact ⟨q, qc, m, rfl, HM.out.1, HO.out, HON.out, HU.out⟩
    | succ j =>
      have e1 : decide (((j + 1 : Nat) : Int) > 0) = true := decide_eq_true (by omega)
      go_wp2_with fail
      refine (rnum_any HU.out).mono ?_
      rintro _ w2 ⟨rfl, o2, u2⟩
      obtain ⟨x, hx⟩ : ∃ x, (numRd t.1 t.2).1 = x := ⟨_, rfl⟩
      obtain ⟨t2, ht2⟩ : ∃ t2, (numRd t.1 t.2).2 = t2 := ⟨_, rfl⟩
      rw [hx]
      rw [ht2] at u2
      have HX2 : Hid ((if t2.2 = 0 then (ys ++ (x :: (loopR numRd j t2.1 t2.2).1), (loopR numRd j t2.1 t2.2).2) else (ys, t2)) = (xs, r)) := hide (by
        rw [← HX.out]
        simp only [loopR, hx, ht2]
        split <;> simp)
      have HON2 := hide (HON.out.trans o2)
      have HR2 : Hid (w2.heap[rB]? = some (.cells #[.pointer (some ⟨bu, 0, none⟩)] 67 (0, 0))) := hide (o2.obj HR.out (fun e => by have e' : rB = bu := e; have := HBR.out; omega))
      have HO2 : Hid (w2.ownsRow W.heap.size 2 1 (.slice q m qc) m (ys.map (Value.int .i64))) := hide (ownsRow_only HO.out o2 (fun b hb e => by have e' : b = bu := e; have h1 := own_block_base HO.out hb; have := HBR.out; omega))
      have HU2 := hide u2
      have hr9 := HR2.out
      have x1 : w2.cell? ⟨rB, 0, none⟩ = some (.pointer (some ⟨bu, 0, none⟩)) := by simp [World.cell?, hr9]
      have HERR : Hid (Calls Tryz.prog 58 #[.pointer (some ⟨bu, 0, none⟩)] w2 fun r w' => r = .returned (.int .i64 t2.2) ∧ w' = w2) := by
        obtain ⟨v9, h9⟩ := u2.unp
        exact hide (err_any h9)
      clear hx ht2 o2 u2 hr9 x0 HX HO HON HU HR
      go_wp2_with fail
      refine HERR.out.mono ?_
      rintro _ _ ⟨rfl, rfl⟩
      rename World => w2
      by_cases h0 : t2.2 = 0
      · have HX3 : Hid (((ys ++ [x]) ++ (loopR numRd j t2.1 t2.2).1, (loopR numRd j t2.1 t2.2).2) = (xs, r)) := hide (by
          rw [← HX2.out, if_pos h0]
          simp)
        obtain ⟨e2, he2⟩ : ∃ e2, t2.2 = e2 := ⟨_, rfl⟩
        have h0' : e2 = 0 := by rw [← he2]; exact h0
        rw [he2]
        subst h0'
        clear h0 he2
        have ab := alloc_below w2 (.cells #[.int .i64 x] 2 (0, 0))
        have HRW := hide (ownsRow_later HO2.out ab)
        have HSG : Hid (Seg (w2.alloc (.cells #[.int .i64 x] 2 (0, 0))) 1 (.slice (some ⟨w2.heap.size, 0, none⟩) 1 1) 1 [.int .i64 x]) := hide (Seg.news (heap_alloc_new w2 _) (by simp [Value.oneCell']) rfl (Nat.le_refl _) (by decide))
        have HAB := hide ab
        have hm9 := HM.out.2
        have HK1 : Hid (m + 1 ≤ maxLen) := by show _ ≤ _; unfold maxLen; omega
        have HK2 : Hid ((m + 1) * 8 ≤ 140737488355328) := hide (by omega)
        have HZB : Hid (W.heap.size ≤ (w2.alloc (.cells #[.int .i64 x] 2 (0, 0))).heap.size) := hide (Nat.le_trans HON2.out.size ab.size)
        clear ab hm9 x1
        go_wp2_with (at_builtin; refine append_cells _ rfl (.tmp 23) (.tmp 25) 25 rfl W.heap.size 2 j0 (.int .i64 0) 1 8 Tryz.underlying25 hj0 hj1 hj2 hj3 rfl (by decide) (.slice q m qc) m _ rfl HRW.out (.slice (some ⟨w2.heap.size, 0, none⟩) 1 1) 1 _ rfl HSG.out HK1.out HK2.out HZB.out ?_)
        intro q6 c6 w6 o6 g6
        have ho6 : Only (fun i => (Value.slice q m qc).ownBlock = some i) w2 w6 := (Only.fresh HAB.out _).trans (Only.of_grown (F := fun i => (Value.slice q m qc).ownBlock = some i) g6 (fun k e => e))
        have HO6 : Hid (w6.ownsRow W.heap.size 2 1 (.slice q6 (m + 1) c6) (m + 1) ((ys ++ [x]).map (Value.int .i64))) := hide (by rw [List.map_append]; exact o6)
        have HON6 : Hid (Only (· = bu) W w6) := hide (HON2.out.step ho6 (fun i e => .inr (own_block_base HO2.out e)))
        have HU6 := hide (HU2.out.only ho6 (fun i e => Nat.le_trans HBR.out.1 (own_block_base HO2.out e)))
        have HR6 : Hid (w6.heap[rB]? = some (.cells #[.pointer (some ⟨bu, 0, none⟩)] 67 (0, 0))) := hide (ho6.obj HR2.out (fun e => by
          obtain ⟨_, cur, h3⟩ := own_block_lt HO2.out e
          rw [HR2.out] at h3
          simp at h3))
        have HM6 : Hid ((ys ++ [x]).length = m + 1 ∧ m + 1 + j ≤ n0) := hide ⟨by rw [List.length_append, HM.out.1]; rfl, by have := HM.out.2; omega⟩
        have hwr : IntKind.i64.wrap ((j : Int) + 1 - 1) = (j : Int) := by rw [IntKind.wrap_i64]; have := HM.out.2; omega
        clear o6 g6 ho6 HRW HSG
        go_wp2
        refine ⟨⟨j, ys ++ [x], t2, q6, c6, m + 1, by omega, by first | rfl | go_num | (simp; omega), rfl, HM6, HX3, HO6, HON6, HU6, HR6⟩, by simp [intOf]⟩
      · have e0 := ne_eq h0
        have h9 := HX2.out
        rw [if_neg h0] at h9
        simp only [Prod.mk.injEq] at h9
        obtain ⟨rfl, rfl⟩ := h9
        clear x1
        go_wp2
        go_ret
        exact ⟨q, qc, m, rfl, HM.out.1, HO2.out, HON2.out, HU2.out⟩
end Go.Proofs.YtlfipmieaabagaaGreat

/-
  Reading keys and records of a state's form. The conditions: that an unpacker lies there.
-/
namespace Go.Proofs.YtlfipmieaabagaaGreat
open Go.RowKit Go.Shelf

def recRd (l : List Int) (e : Int) : RC × List Int × Int :=
  let t0 := numRd l e
  let t1 := numRd t0.2.1 t0.2.2
  (⟨t0.1, t1.1⟩, t1.2)
set_option maxRecDepth 100000 in
set_option maxHeartbeats 4000000 in
theorem rrec_any {W : World} {B bu : Nat} {l : List Int} {e : Int} (h : UP W B bu l e) {ky vl : Int} {r : List Int × Int} (hr : recRd l e = (⟨ky, vl⟩, r)) : Calls Tryz.prog 115 #[.agg #[.pointer (some ⟨bu, 0, none⟩)]] W (ReadAt W B bu (.agg #[.int .i64 ky, .int .i64 vl]) r) := by
  obtain ⟨V, hV⟩ : ∃ V, V = (W.alloc (.cells #[.pointer (some ⟨bu, 0, none⟩)] 67 (0, 0))).alloc (.cells #[.int .i64 0, .int .i64 0] 51 (0, 0)) := ⟨_, rfl⟩
  have a1 := alloc_below W (.cells #[.pointer (some ⟨bu, 0, none⟩)] 67 (0, 0))
  have a2 := alloc_below (W.alloc (.cells #[.pointer (some ⟨bu, 0, none⟩)] 67 (0, 0))) (.cells #[.int .i64 0, .int .i64 0] 51 (0, 0))
  have bV : Below W.heap.size W V := by rw [hV]; exact a1.trans (a2.mono a1.size)
  obtain ⟨rB, hrB⟩ : ∃ rB, W.heap.size = rB := ⟨_, rfl⟩
  obtain ⟨kB, hkB⟩ : ∃ kB, rB + 1 = kB := ⟨_, rfl⟩
  have u0 : V.heap[rB]? = some (.cells #[.pointer (some ⟨bu, 0, none⟩)] 67 (0, 0)) := by rw [hV, ← hrB]; exact below_box a2 (heap_alloc_new W _)
  have u1 : V.heap[kB]? = some (.cells #[.int .i64 0, .int .i64 0] 51 (0, 0)) := by
    have e : kB = (W.alloc (.cells #[.pointer (some ⟨bu, 0, none⟩)] 67 (0, 0))).heap.size := by rw [← hkB, ← hrB]; simp
    rw [hV, e]
    exact heap_alloc_new _ _
  have HB := hide bV
  have HU := hide (h.later bV)
  have HBR : Hid (B ≤ W.heap.size ∧ bu < B ∧ W.heap.size ≤ rB ∧ rB < kB) := hide ⟨h.le, h.lt, by omega, by omega⟩
  have x0 : V.cell? ⟨rB, 0, none⟩ = some (.pointer (some ⟨bu, 0, none⟩)) := by simp [World.cell?, u0]
  obtain ⟨t0, ht0⟩ : ∃ t, numRd l e = t := ⟨_, rfl⟩
  obtain ⟨t1, ht1⟩ : ∃ t, numRd t0.2.1 t0.2.2 = t := ⟨_, rfl⟩
  simp only [recRd, ht0, ht1, Prod.mk.injEq, RC.mk.injEq] at hr
  obtain ⟨⟨q0, q1⟩, qr⟩ := hr
  have HT0 := hide ht0
  have HQ0 := hide q0
  have HT1 := hide ht1
  have HQ1 := hide q1
  have HQR := hide qr
  clear h bV u0 a1 a2 ht0 q0 ht1 q1 qr
  have HU1 := hide u1
  clear u1
  go_enter Tryz.func115, Tryz.ntmps115
  go_upto_region 1 with fail
  rw [← hV]
  try rw [hrB]
  try rw [hkB]
  clear hV hrB hkB
  refine wp_region_held_drew (S := fun w' => w'.cell? ⟨rB, 0, none⟩ = some (.pointer (some ⟨bu, 0, none⟩))) (by kernel_rfl) x0 (fun hHeld => ?_)
  refine wpAnyH_take (i := 0) (oi := _) (v := ?_) rfl (by kernel_rfl) (by kernel_rfl) (by kernel_rfl) (fun _ _ _ h => h) (Or.inl ⟨by rfl, ?_⟩) (by assumption) ?_
  rotate_left
  · intro w hSw
    (try dsimp only at hSw)
    go_simp
    all_goals with_reducible rfl
  simp only [Act.put, List.setIfInBounds_toArray] --TAKE 1
  refine wpAnyH_take (i := 2) (oi := _) (v := ?_) rfl (by kernel_rfl) (by kernel_rfl) (by kernel_rfl) (fun _ _ _ h => h) (Or.inl ⟨by rfl, ?_⟩) (by assumption) ?_
  rotate_left
  · intro w hSw
    (try dsimp only at hSw)
    go_simp
    all_goals with_reducible rfl
  simp only [Act.put] --TAKE 2
  have HOO : Only (· = bu) V V.drew := (Only.refl _ V).drew
  have HUU : UP V.drew B bu l e := HU.out.later (Below.refl _ V).drew
  refine wpAnyH_ready (rs := [1]) (by kernel_rfl) (by simp) ?_
  refine AllReadyH.cons (o := _) rfl (fun K hK => ?_) AllReadyH.nil
  go_simp
  refine (rnum_any HUU).mono ?_
  rintro _ w0 ⟨rfl, o9, u9⟩
  rw [HT0.out] at u9 ⊢
  rw [HQ0.out]
  replace HOO := HOO.trans o9
  replace HUU := u9
  clear o9 u9
  have y0 : w0.cell? ⟨rB, 0, none⟩ = some (.pointer (some ⟨bu, 0, none⟩)) := HOO.cell x0 (fun e => by have e' : rB = bu := e; have := HBR.out; omega)
  go_wp2_with fail
  refine hK.out _ _ y0 (fun hHeld => ?_)
  clear hK
  refine wpAnyH_ready (rs := [3]) (by kernel_rfl) (by simp) ?_
  refine AllReadyH.cons (o := _) rfl (fun K hK => ?_) AllReadyH.nil
  go_simp
  refine (rnum_any HUU).mono ?_
  rintro _ w1 ⟨rfl, o9, u9⟩
  rw [HT1.out] at u9 ⊢
  rw [HQ1.out]
  replace HOO := HOO.trans o9
  replace HUU := u9
  clear o9 u9
  have y1 : w1.cell? ⟨rB, 0, none⟩ = some (.pointer (some ⟨bu, 0, none⟩)) := HOO.cell x0 (fun e => by have e' : rB = bu := e; have := HBR.out; omega)
  go_wp2_with fail
  refine hK.out _ _ y1 (fun hHeld => ?_)
  clear hK
  refine wpAnyH_take (i := 4) (oi := _) (v := ?_) rfl (by kernel_rfl) (by kernel_rfl) (by kernel_rfl) (fun _ _ _ h => h) (Or.inl ⟨by rfl, ?_⟩) (by assumption) ?_
  rotate_left
  · intro w hSw
    (try dsimp only at hSw)
    go_simp
    all_goals with_reducible rfl
  simp only [Act.put, List.setIfInBounds_toArray] --TAKE 3
  have uk : w1.heap[kB]? = some (.cells #[.int .i64 0, .int .i64 0] 51 (0, 0)) := HOO.obj HU1.out (fun e => by have e' : kB = bu := e; have := HBR.out; omega)
  have c0 : (w1).cell? ⟨kB, 0, none⟩ = some (.int .i64 0) := by
    have h9 := uk
    simp [World.cell?, h9]
  have z0 : (w1).frozen? ⟨kB, 0, none⟩ = false := by
    have h9 := uk
    simp [World.frozen?, h9]
  have uk1 : ((w1).setCell ⟨kB, 0, none⟩ (.int .i64 ky)).heap[kB]? = some (.cells #[.int .i64 ky, .int .i64 0] 51 (0, 0)) := heap_setCell_same _ kB 0 _ _ _ uk
  have c1 : ((w1).setCell ⟨kB, 0, none⟩ (.int .i64 ky)).cell? ⟨kB, 1, none⟩ = some (.int .i64 0) := by
    have h9 := uk1
    simp [World.cell?, h9]
  have z1 : ((w1).setCell ⟨kB, 0, none⟩ (.int .i64 ky)).frozen? ⟨kB, 1, none⟩ = false := by
    have h9 := uk1
    simp [World.frozen?, h9]
  have uk2 : (((w1).setCell ⟨kB, 0, none⟩ (.int .i64 ky)).setCell ⟨kB, 1, none⟩ (.int .i64 vl)).heap[kB]? = some (.cells #[.int .i64 ky, .int .i64 vl] 51 (0, 0)) := heap_setCell_same _ kB 1 _ _ _ uk1
  have hkk : Only (· = kB) w1 (((w1).setCell ⟨kB, 0, none⟩ (.int .i64 ky)).setCell ⟨kB, 1, none⟩ (.int .i64 vl)) := ((Only.set (F := (· = kB)) (w1) kB 0 (.int .i64 ky) rfl).trans (Only.set (F := (· = kB)) ((w1).setCell ⟨kB, 0, none⟩ (.int .i64 ky)) kB 1 (.int .i64 vl) rfl))
  have HF := hide uk2
  have HON : Hid (Only (· = bu) W (((w1).setCell ⟨kB, 0, none⟩ (.int .i64 ky)).setCell ⟨kB, 1, none⟩ (.int .i64 vl))) := hide (((Only.fresh HB.out (· = bu)).trans HOO).step hkk (fun i e => .inr (by have e' : i = kB := e; have := HBR.out; omega)))
  have HUF : Hid (UP (((w1).setCell ⟨kB, 0, none⟩ (.int .i64 ky)).setCell ⟨kB, 1, none⟩ (.int .i64 vl)) B bu r.1 r.2) := hide (by
    rw [← HQR.out]
    exact HUU.only hkk (fun i e => by have e' : i = kB := e; have := HBR.out; omega))
  have yF : (((w1).setCell ⟨kB, 0, none⟩ (.int .i64 ky)).setCell ⟨kB, 1, none⟩ (.int .i64 vl)).cell? ⟨rB, 0, none⟩ = some (.pointer (some ⟨bu, 0, none⟩)) := hkk.cell y1 (fun e => by have e' : rB = kB := e; have := HBR.out; omega)
  clear HOO HUU hkk uk uk1 uk2
  refine wpAnyH_ready (rs := [5]) (by kernel_rfl) (by simp) ?_
  refine AllReadyH.cons (o := _) rfl (fun K hK => ?_) AllReadyH.nil
  go_simp
  refine hK.out _ _ yF (fun hHeld => ?_)
  clear hK
  refine wpAnyH_done (by kernel_rfl) ?_ _
  go_wp2
  refine bodyPost_ret (results_cell_row rfl _ _ kB 51 _ _ _ rfl HF.out Tryz.underlying51 rfl (by kernel_rfl)) rfl ?_
  exact ⟨rfl, HON.out, HUF.out⟩
def keyRd (l : List Int) (e : Int) : Op.KS × List Int × Int :=
  let t0 := numRd l e
  let t1 := numRd t0.2.1 t0.2.2
  let t2 := numRd t1.2.1 t1.2.2
  (⟨t0.1, t1.1, t2.1⟩, t2.2)
set_option maxRecDepth 100000 in
set_option maxHeartbeats 4000000 in
theorem rkey_any {W : World} {B bu : Nat} {l : List Int} {e : Int} (h : UP W B bu l e) {ky ct ac : Int} {r : List Int × Int} (hr : keyRd l e = (⟨ky, ct, ac⟩, r)) : Calls Tryz.prog 92 #[.agg #[.pointer (some ⟨bu, 0, none⟩)]] W (ReadAt W B bu (.agg #[.int .i64 ky, .int .i64 ct, .int .i64 ac]) r) := by
  obtain ⟨V, hV⟩ : ∃ V, V = (W.alloc (.cells #[.pointer (some ⟨bu, 0, none⟩)] 67 (0, 0))).alloc (.cells #[.int .i64 0, .int .i64 0, .int .i64 0] 48 (0, 0)) := ⟨_, rfl⟩
  have a1 := alloc_below W (.cells #[.pointer (some ⟨bu, 0, none⟩)] 67 (0, 0))
  have a2 := alloc_below (W.alloc (.cells #[.pointer (some ⟨bu, 0, none⟩)] 67 (0, 0))) (.cells #[.int .i64 0, .int .i64 0, .int .i64 0] 48 (0, 0))
  have bV : Below W.heap.size W V := by rw [hV]; exact a1.trans (a2.mono a1.size)
  obtain ⟨rB, hrB⟩ : ∃ rB, W.heap.size = rB := ⟨_, rfl⟩
  obtain ⟨kB, hkB⟩ : ∃ kB, rB + 1 = kB := ⟨_, rfl⟩
  have u0 : V.heap[rB]? = some (.cells #[.pointer (some ⟨bu, 0, none⟩)] 67 (0, 0)) := by rw [hV, ← hrB]; exact below_box a2 (heap_alloc_new W _)
  have u1 : V.heap[kB]? = some (.cells #[.int .i64 0, .int .i64 0, .int .i64 0] 48 (0, 0)) := by
    have e : kB = (W.alloc (.cells #[.pointer (some ⟨bu, 0, none⟩)] 67 (0, 0))).heap.size := by rw [← hkB, ← hrB]; simp
    rw [hV, e]
    exact heap_alloc_new _ _
  have HB := hide bV
  have HU := hide (h.later bV)
  have HBR : Hid (B ≤ W.heap.size ∧ bu < B ∧ W.heap.size ≤ rB ∧ rB < kB) := hide ⟨h.le, h.lt, by omega, by omega⟩
  have x0 : V.cell? ⟨rB, 0, none⟩ = some (.pointer (some ⟨bu, 0, none⟩)) := by simp [World.cell?, u0]
  obtain ⟨t0, ht0⟩ : ∃ t, numRd l e = t := ⟨_, rfl⟩
  obtain ⟨t1, ht1⟩ : ∃ t, numRd t0.2.1 t0.2.2 = t := ⟨_, rfl⟩
  obtain ⟨t2, ht2⟩ : ∃ t, numRd t1.2.1 t1.2.2 = t := ⟨_, rfl⟩
  simp only [keyRd, ht0, ht1, ht2, Prod.mk.injEq, Op.KS.mk.injEq] at hr
  obtain ⟨⟨q0, q1, q2⟩, qr⟩ := hr
  have HT0 := hide ht0
  have HQ0 := hide q0
  have HT1 := hide ht1
  have HQ1 := hide q1
  have HT2 := hide ht2
  have HQ2 := hide q2
  have HQR := hide qr
  clear h bV u0 a1 a2 ht0 q0 ht1 q1 ht2 q2 qr
  have HU1 := hide u1
  clear u1
  go_enter Tryz.func92, Tryz.ntmps92
  go_upto_region 1 with fail
  rw [← hV]
  try rw [hrB]
  try rw [hkB]
  clear hV hrB hkB
  refine wp_region_held_drew (S := fun w' => w'.cell? ⟨rB, 0, none⟩ = some (.pointer (some ⟨bu, 0, none⟩))) (by kernel_rfl) x0 (fun hHeld => ?_)
  refine wpAnyH_take (i := 0) (oi := _) (v := ?_) rfl (by kernel_rfl) (by kernel_rfl) (by kernel_rfl) (fun _ _ _ h => h) (Or.inl ⟨by rfl, ?_⟩) (by assumption) ?_
  rotate_left
  · intro w hSw
    (try dsimp only at hSw)
    go_simp
    all_goals with_reducible rfl
  simp only [Act.put, List.setIfInBounds_toArray] --TAKE 4
  refine wpAnyH_take (i := 2) (oi := _) (v := ?_) rfl (by kernel_rfl) (by kernel_rfl) (by kernel_rfl) (fun _ _ _ h => h) (Or.inl ⟨by rfl, ?_⟩) (by assumption) ?_
  rotate_left
  · intro w hSw
    (try dsimp only at hSw)
    go_simp
    all_goals with_reducible rfl
  simp only [Act.put] --TAKE 5
  refine wpAnyH_take (i := 4) (oi := _) (v := ?_) rfl (by kernel_rfl) (by kernel_rfl) (by kernel_rfl) (fun _ _ _ h => h) (Or.inl ⟨by rfl, ?_⟩) (by assumption) ?_
  rotate_left
  · intro w hSw
    (try dsimp only at hSw)
    go_simp
    all_goals with_reducible rfl
  simp only [Act.put] --TAKE 6
  have HOO : Only (· = bu) V V.drew := (Only.refl _ V).drew
  have HUU : UP V.drew B bu l e := HU.out.later (Below.refl _ V).drew
  refine wpAnyH_ready (rs := [1]) (by kernel_rfl) (by simp) ?_
  refine AllReadyH.cons (o := _) rfl (fun K hK => ?_) AllReadyH.nil
  go_simp
  refine (rnum_any HUU).mono ?_
  rintro _ w0 ⟨rfl, o9, u9⟩
  rw [HT0.out] at u9 ⊢
  rw [HQ0.out]
  replace HOO := HOO.trans o9
  replace HUU := u9
  clear o9 u9
  have y0 : w0.cell? ⟨rB, 0, none⟩ = some (.pointer (some ⟨bu, 0, none⟩)) := HOO.cell x0 (fun e => by have e' : rB = bu := e; have := HBR.out; omega)
  go_wp2_with fail
  refine hK.out _ _ y0 (fun hHeld => ?_)
  clear hK
  refine wpAnyH_ready (rs := [3]) (by kernel_rfl) (by simp) ?_
  refine AllReadyH.cons (o := _) rfl (fun K hK => ?_) AllReadyH.nil
  go_simp
  refine (rnum_any HUU).mono ?_
  rintro _ w1 ⟨rfl, o9, u9⟩
  rw [HT1.out] at u9 ⊢
  rw [HQ1.out]
  replace HOO := HOO.trans o9
  replace HUU := u9
  clear o9 u9
  have y1 : w1.cell? ⟨rB, 0, none⟩ = some (.pointer (some ⟨bu, 0, none⟩)) := HOO.cell x0 (fun e => by have e' : rB = bu := e; have := HBR.out; omega)
  go_wp2_with fail
  refine hK.out _ _ y1 (fun hHeld => ?_)
  clear hK
  refine wpAnyH_ready (rs := [5]) (by kernel_rfl) (by simp) ?_
  refine AllReadyH.cons (o := _) rfl (fun K hK => ?_) AllReadyH.nil
  go_simp
  refine (rnum_any HUU).mono ?_
  rintro _ w2 ⟨rfl, o9, u9⟩
  rw [HT2.out] at u9 ⊢
  rw [HQ2.out]
  replace HOO := HOO.trans o9
  replace HUU := u9
  clear o9 u9
  have y2 : w2.cell? ⟨rB, 0, none⟩ = some (.pointer (some ⟨bu, 0, none⟩)) := HOO.cell x0 (fun e => by have e' : rB = bu := e; have := HBR.out; omega)
  go_wp2_with fail
  refine hK.out _ _ y2 (fun hHeld => ?_)
  clear hK
  refine wpAnyH_take (i := 6) (oi := _) (v := ?_) rfl (by kernel_rfl) (by kernel_rfl) (by kernel_rfl) (fun _ _ _ h => h) (Or.inl ⟨by rfl, ?_⟩) (by assumption) ?_
  rotate_left
  · intro w hSw
    (try dsimp only at hSw)
    go_simp
    all_goals with_reducible rfl
  simp only [Act.put, List.setIfInBounds_toArray] --TAKE 7
  have uk : w2.heap[kB]? = some (.cells #[.int .i64 0, .int .i64 0, .int .i64 0] 48 (0, 0)) := HOO.obj HU1.out (fun e => by have e' : kB = bu := e; have := HBR.out; omega)
  have c0 : (w2).cell? ⟨kB, 0, none⟩ = some (.int .i64 0) := by
    have h9 := uk
    simp [World.cell?, h9]
  have z0 : (w2).frozen? ⟨kB, 0, none⟩ = false := by
    have h9 := uk
    simp [World.frozen?, h9]
  have uk1 : ((w2).setCell ⟨kB, 0, none⟩ (.int .i64 ky)).heap[kB]? = some (.cells #[.int .i64 ky, .int .i64 0, .int .i64 0] 48 (0, 0)) := heap_setCell_same _ kB 0 _ _ _ uk
  have c1 : ((w2).setCell ⟨kB, 0, none⟩ (.int .i64 ky)).cell? ⟨kB, 1, none⟩ = some (.int .i64 0) := by
    have h9 := uk1
    simp [World.cell?, h9]
  have z1 : ((w2).setCell ⟨kB, 0, none⟩ (.int .i64 ky)).frozen? ⟨kB, 1, none⟩ = false := by
    have h9 := uk1
    simp [World.frozen?, h9]
  have uk2 : (((w2).setCell ⟨kB, 0, none⟩ (.int .i64 ky)).setCell ⟨kB, 1, none⟩ (.int .i64 ct)).heap[kB]? = some (.cells #[.int .i64 ky, .int .i64 ct, .int .i64 0] 48 (0, 0)) := heap_setCell_same _ kB 1 _ _ _ uk1
  have c2 : (((w2).setCell ⟨kB, 0, none⟩ (.int .i64 ky)).setCell ⟨kB, 1, none⟩ (.int .i64 ct)).cell? ⟨kB, 2, none⟩ = some (.int .i64 0) := by
    have h9 := uk2
    simp [World.cell?, h9]
  have z2 : (((w2).setCell ⟨kB, 0, none⟩ (.int .i64 ky)).setCell ⟨kB, 1, none⟩ (.int .i64 ct)).frozen? ⟨kB, 2, none⟩ = false := by
    have h9 := uk2
    simp [World.frozen?, h9]
  have uk3 : ((((w2).setCell ⟨kB, 0, none⟩ (.int .i64 ky)).setCell ⟨kB, 1, none⟩ (.int .i64 ct)).setCell ⟨kB, 2, none⟩ (.int .i64 ac)).heap[kB]? = some (.cells #[.int .i64 ky, .int .i64 ct, .int .i64 ac] 48 (0, 0)) := heap_setCell_same _ kB 2 _ _ _ uk2
  have hkk : Only (· = kB) w2 ((((w2).setCell ⟨kB, 0, none⟩ (.int .i64 ky)).setCell ⟨kB, 1, none⟩ (.int .i64 ct)).setCell ⟨kB, 2, none⟩ (.int .i64 ac)) := (((Only.set (F := (· = kB)) (w2) kB 0 (.int .i64 ky) rfl).trans (Only.set (F := (· = kB)) ((w2).setCell ⟨kB, 0, none⟩ (.int .i64 ky)) kB 1 (.int .i64 ct) rfl)).trans (Only.set (F := (· = kB)) (((w2).setCell ⟨kB, 0, none⟩ (.int .i64 ky)).setCell ⟨kB, 1, none⟩ (.int .i64 ct)) kB 2 (.int .i64 ac) rfl))
  have HF := hide uk3
  have HON : Hid (Only (· = bu) W ((((w2).setCell ⟨kB, 0, none⟩ (.int .i64 ky)).setCell ⟨kB, 1, none⟩ (.int .i64 ct)).setCell ⟨kB, 2, none⟩ (.int .i64 ac))) := hide (((Only.fresh HB.out (· = bu)).trans HOO).step hkk (fun i e => .inr (by have e' : i = kB := e; have := HBR.out; omega)))
  have HUF : Hid (UP ((((w2).setCell ⟨kB, 0, none⟩ (.int .i64 ky)).setCell ⟨kB, 1, none⟩ (.int .i64 ct)).setCell ⟨kB, 2, none⟩ (.int .i64 ac)) B bu r.1 r.2) := hide (by
    rw [← HQR.out]
    exact HUU.only hkk (fun i e => by have e' : i = kB := e; have := HBR.out; omega))
  have yF : ((((w2).setCell ⟨kB, 0, none⟩ (.int .i64 ky)).setCell ⟨kB, 1, none⟩ (.int .i64 ct)).setCell ⟨kB, 2, none⟩ (.int .i64 ac)).cell? ⟨rB, 0, none⟩ = some (.pointer (some ⟨bu, 0, none⟩)) := hkk.cell y2 (fun e => by have e' : rB = kB := e; have := HBR.out; omega)
  clear HOO HUU hkk uk uk1 uk2 uk3
  refine wpAnyH_ready (rs := [7]) (by kernel_rfl) (by simp) ?_
  refine AllReadyH.cons (o := _) rfl (fun K hK => ?_) AllReadyH.nil
  go_simp
  refine hK.out _ _ yF (fun hHeld => ?_)
  clear hK
  refine wpAnyH_done (by kernel_rfl) ?_ _
  go_wp2
  refine bodyPost_ret (results_cell_row rfl _ _ kB 48 _ _ _ rfl HF.out Tryz.underlying48 rfl (by kernel_rfl)) rfl ?_
  exact ⟨rfl, HON.out, HUF.out⟩
end Go.Proofs.YtlfipmieaabagaaGreat

/-
  Reading lists of keys and of records of a state's form. The conditions: that an unpacker lies there.
-/
namespace Go.Proofs.YtlfipmieaabagaaGreat
open Go.RowKit Go.Shelf

theorem Tryz.infoKS : (Tryz.prog.info? 48).map (fun i => (i.zero, i.size, i.bytes)) = some (some (.agg #[.int .i64 0, .int .i64 0, .int .i64 0]), 3, 24) := by kernel_rfl
set_option maxRecDepth 100000 in
set_option maxHeartbeats 8000000 in
theorem listRec_any {W : World} {B bu : Nat} {l : List Int} {e : Int} (h : UP W B bu l e) {xs : List RC} {r : List Int × Int} (hx : listR recRd l e = (xs, r)) :
    Calls Tryz.prog 114 #[.agg #[.pointer (some ⟨bu, 0, none⟩)], .func (.func 115) #[] #[]] W (ListAt W B bu 51 2 xs.length (xs.flatMap RC.cells) r) := by
  obtain ⟨j0, hj0, hj1, hj2, hj3⟩ := info_parts Tryz.infoRec
  obtain ⟨V, hV⟩ : ∃ V, V = W.alloc (.cells #[.pointer (some ⟨bu, 0, none⟩)] 67 (0, 0)) := ⟨_, rfl⟩
  have bV : Below W.heap.size W V := by rw [hV]; exact alloc_below _ _
  obtain ⟨rB, hrB⟩ : ∃ rB, W.heap.size = rB := ⟨_, rfl⟩
  have u0 : V.heap[rB]? = some (.cells #[.pointer (some ⟨bu, 0, none⟩)] 67 (0, 0)) := by rw [hV, ← hrB]; exact heap_alloc_new W _
  have x0 : V.cell? ⟨rB, 0, none⟩ = some (.pointer (some ⟨bu, 0, none⟩)) := by simp [World.cell?, u0]
  obtain ⟨n0, hn0⟩ : ∃ n0 : Nat, (reads l e 0 131072).1 = (n0 : Int) := ⟨(reads l e 0 131072).1.toNat, by have := reads_nonneg (l := l) (e := e) (most := 131072); omega⟩
  obtain ⟨t1, ht1⟩ : ∃ t, (reads l e 0 131072).2 = t := ⟨_, rfl⟩
  have hup := uint_up (least := 0) (most := 131072) (h.later bV)
  rw [hn0, ht1] at hup
  have HUI := hide hup
  have HXS : Hid (loopR recRd n0 t1.1 t1.2 = (xs, r)) := hide (by rw [← hx]; unfold listR; rw [hn0, ht1, Int.toNat_natCast])
  have hnb : n0 ≤ 131072 := by
    have h9 : (reads l e 0 131072).1 ≤ 131072 := reads_most (by decide)
    omega
  have HB := hide bV
  have HU0 := hide u0
  have HBR : Hid (B ≤ W.heap.size ∧ bu < B ∧ W.heap.size ≤ rB) := hide ⟨h.le, h.lt, by omega⟩
  clear h bV u0 hx hn0 ht1 hup
  go_enter Tryz.func114, Tryz.ntmps114
  go_upto_region 1 with fail
  rw [← hV]
  try rw [hrB]
  clear hV hrB
  go_wp2_with fail
  go_step3
  go_wp2_with fail
  go_step3
  go_wp2_with fail
  refine HUI.out.mono ?_
  rintro _ w1 ⟨rfl, o1, u1⟩
  have HO1 : Hid (Only (· = bu) W w1) := hide ((Only.fresh HB.out (· = bu)).trans o1)
  have HU1 := hide u1
  have HR1 : Hid (w1.heap[rB]? = some (.cells #[.pointer (some ⟨bu, 0, none⟩)] 67 (0, 0))) := hide (o1.obj HU0.out (fun e => by have e' : rB = bu := e; have := HBR.out; omega))
  clear o1 u1 x0 HUI
  go_wp2_with fail
  go_loopw [5, 6] (fun s i wq => ∃ (k : Nat) (ys : List RC) (t : List Int × Int) (q : Option Addr) (qc m : Nat), k ≤ n0 ∧ i = .int .i64 (k : Int) ∧ s = .slice q m qc ∧ Hid (ys.length = m ∧ m + k ≤ n0) ∧ Hid ((ys ++ (loopR recRd k t.1 t.2).1, (loopR recRd k t.1 t.2).2) = (xs, r)) ∧ Hid (wq.ownsRow W.heap.size 51 2 (.slice q m qc) m (ys.flatMap RC.cells)) ∧ Hid (Only (· = bu) W wq) ∧ Hid (UP wq B bu t.1 t.2) ∧ Hid (wq.heap[rB]? = some (.cells #[.pointer (some ⟨bu, 0, none⟩)] 67 (0, 0)))) (fun _ i _ => (intOf i).toNat)
  case atStart => exact ⟨n0, [], t1, none, 0, 0, Nat.le_refl _, rfl, rfl, hide ⟨rfl, by omega⟩, hide (by rw [List.nil_append]; exact HXS.out), hide (World.ownsRow_nil _ _ _ _), HO1, HU1, HR1⟩
  case round =>
    obtain ⟨k, ys, t, q, qc, m, hk, rfl, rfl, HM, HX, HO, HON, HU, HR⟩ := hrel
    rename World => wq
    clear HXS HO1 HU1 HR1
    have hr9 := HR.out
    have x0 : wq.cell? ⟨rB, 0, none⟩ = some (.pointer (some ⟨bu, 0, none⟩)) := by simp [World.cell?, hr9]
    clear hr9
    cases k with
    | zero =>
      have h9 := HX.out
      simp only [loopR, List.append_nil, Prod.mk.injEq] at h9
      obtain ⟨rfl, rfl⟩ := h9
      go_wp2
      go_ret
      exact ⟨q, qc, m, rfl, HM.out.1, HO.out, HON.out, HU.out⟩
    | succ j =>
      have e1 : decide (((j + 1 : Nat) : Int) > 0) = true := decide_eq_true (by omega)
      go_wp2_with fail
      obtain ⟨x, hx⟩ : ∃ x, (recRd t.1 t.2).1 = x := ⟨_, rfl⟩
      obtain ⟨t2, ht2⟩ : ∃ t2, (recRd t.1 t.2).2 = t2 := ⟨_, rfl⟩
      obtain ⟨ky, vl⟩ := x
      refine (rrec_any HU.out (show recRd t.1 t.2 = ((⟨ky, vl⟩ : RC), t2) by rw [← hx, ← ht2])).mono ?_
      rintro _ w0 ⟨rfl, o0, u0'⟩
      obtain ⟨w2, hw2⟩ : ∃ w2, w2 = w0.alloc (.cells #[.int .i64 ky, .int .i64 vl] 51 (0, 0)) := ⟨_, rfl⟩
      have b2 : Below w0.heap.size w0 w2 := by rw [hw2]; exact alloc_below _ _
      have ux : w2.heap[w0.heap.size]? = some (.cells #[.int .i64 ky, .int .i64 vl] 51 (0, 0)) := by rw [hw2]; exact heap_alloc_new _ _
      obtain ⟨xB, hxB⟩ : ∃ xB, w0.heap.size = xB := ⟨_, rfl⟩
      rw [hxB] at ux
      have o2 : Only (· = bu) wq w2 := o0.trans (Only.fresh b2 _)
      have u2 : UP w2 B bu t2.1 t2.2 := u0'.later b2
      have d0 : w2.cell? ⟨xB, 0, none⟩ = some (.int .i64 ky) := by simp [World.cell?, ux]
      have d1 : w2.cell? ⟨xB, 1, none⟩ = some (.int .i64 vl) := by simp [World.cell?, ux]
      have HX2 : Hid ((if t2.2 = 0 then (ys ++ ((⟨ky, vl⟩ : RC) :: (loopR recRd j t2.1 t2.2).1), (loopR recRd j t2.1 t2.2).2) else (ys, t2)) = (xs, r)) := hide (by
        rw [← HX.out]
        simp only [loopR, hx, ht2]
        split <;> simp)
      have HON2 := hide (HON.out.trans o2)
      have HR2 : Hid (w2.heap[rB]? = some (.cells #[.pointer (some ⟨bu, 0, none⟩)] 67 (0, 0))) := hide (o2.obj HR.out (fun e => by have e' : rB = bu := e; have := HBR.out; omega))
      have HO2 : Hid (w2.ownsRow W.heap.size 51 2 (.slice q m qc) m (ys.flatMap RC.cells)) := hide (ownsRow_only HO.out o2 (fun b hb e => by have e' : b = bu := e; have h1 := own_block_base HO.out hb; have := HBR.out; omega))
      have HU2 := hide u2
      have hr9 := HR2.out
      have x1 : w2.cell? ⟨rB, 0, none⟩ = some (.pointer (some ⟨bu, 0, none⟩)) := by simp [World.cell?, hr9]
      have HERR : Hid (Calls Tryz.prog 58 #[.pointer (some ⟨bu, 0, none⟩)] w2 fun r w' => r = .returned (.int .i64 t2.2) ∧ w' = w2) := by
        obtain ⟨v9, h9⟩ := u2.unp
        exact hide (err_any h9)
      clear hx ht2 o2 u2 hr9 x0 HX HO HON HU HR ux b2 o0 u0'
      go_upto_region 6 with fail
      rw [← hw2]
      try rw [hxB]
      clear hw2 hxB
      go_wp2_with fail
      refine HERR.out.mono ?_
      rintro _ _ ⟨rfl, rfl⟩
      rename World => w2
      by_cases h0 : t2.2 = 0
      · have HX3 : Hid (((ys ++ [(⟨ky, vl⟩ : RC)]) ++ (loopR recRd j t2.1 t2.2).1, (loopR recRd j t2.1 t2.2).2) = (xs, r)) := hide (by
          rw [← HX2.out, if_pos h0]
          simp)
        obtain ⟨e2, he2⟩ : ∃ e2, t2.2 = e2 := ⟨_, rfl⟩
        have h0' : e2 = 0 := by rw [← he2]; exact h0
        rw [he2]
        subst h0'
        clear h0 he2
        have ab := alloc_below w2 (.cells #[.int .i64 ky, .int .i64 vl] 51 (0, 0))
        have HRW := hide (ownsRow_later HO2.out ab)
        have HSG : Hid (Seg (w2.alloc (.cells #[.int .i64 ky, .int .i64 vl] 51 (0, 0))) 2 (.slice (some ⟨w2.heap.size, 0, none⟩) 1 1) 1 [.int .i64 ky, .int .i64 vl]) := hide (Seg.news (heap_alloc_new w2 _) (by simp [Value.oneCell']) rfl (Nat.le_refl _) (by decide))
        have HAB := hide ab
        have hm9 := HM.out.2
        have HK1 : Hid (m + 1 ≤ maxLen) := by show _ ≤ _; unfold maxLen; omega
        have HK2 : Hid ((m + 1) * 16 ≤ 140737488355328) := hide (by omega)
        have HZB : Hid (W.heap.size ≤ (w2.alloc (.cells #[.int .i64 ky, .int .i64 vl] 51 (0, 0))).heap.size) := hide (Nat.le_trans HON2.out.size ab.size)
        clear ab hm9 x1
        go_wp2_with (at_builtin; refine append_cells _ rfl (.tmp 23) (.tmp 25) 49 rfl W.heap.size 51 j0 (.agg #[.int .i64 0, .int .i64 0]) 2 16 Tryz.underlying49 hj0 hj1 hj2 hj3 rfl (by decide) (.slice q m qc) m _ rfl HRW.out (.slice (some ⟨w2.heap.size, 0, none⟩) 1 1) 1 _ rfl HSG.out HK1.out HK2.out HZB.out ?_)
        intro q6 c6 w6 o6 g6
        have ho6 : Only (fun i => (Value.slice q m qc).ownBlock = some i) w2 w6 := (Only.fresh HAB.out _).trans (Only.of_grown (F := fun i => (Value.slice q m qc).ownBlock = some i) g6 (fun k e => e))
        have HO6 : Hid (w6.ownsRow W.heap.size 51 2 (.slice q6 (m + 1) c6) (m + 1) ((ys ++ [(⟨ky, vl⟩ : RC)]).flatMap RC.cells)) := hide (by rw [List.flatMap_append]; exact o6)
        have HON6 : Hid (Only (· = bu) W w6) := hide (HON2.out.step ho6 (fun i e => .inr (own_block_base HO2.out e)))
        have HU6 := hide (HU2.out.only ho6 (fun i e => Nat.le_trans HBR.out.1 (own_block_base HO2.out e)))
        have HR6 : Hid (w6.heap[rB]? = some (.cells #[.pointer (some ⟨bu, 0, none⟩)] 67 (0, 0))) := hide (ho6.obj HR2.out (fun e => by
          obtain ⟨_, cur, h3⟩ := own_block_lt HO2.out e
          rw [HR2.out] at h3
          simp at h3))
        have HM6 : Hid ((ys ++ [(⟨ky, vl⟩ : RC)]).length = m + 1 ∧ m + 1 + j ≤ n0) := hide ⟨by rw [List.length_append, HM.out.1]; rfl, by have := HM.out.2; omega⟩
        have hwr : IntKind.i64.wrap ((j : Int) + 1 - 1) = (j : Int) := by rw [IntKind.wrap_i64]; have := HM.out.2; omega
        clear o6 g6 ho6 HRW HSG
        go_wp2
        refine ⟨⟨j, ys ++ [(⟨ky, vl⟩ : RC)], t2, q6, c6, m + 1, by omega, by first | rfl | go_num | (simp; omega), rfl, HM6, HX3, HO6, HON6, HU6, HR6⟩, by simp [intOf]⟩
      · have e0 := ne_eq h0
        have h9 := HX2.out
        rw [if_neg h0] at h9
        simp only [Prod.mk.injEq] at h9
        obtain ⟨rfl, rfl⟩ := h9
        clear x1
        go_wp2
        go_ret
        exact ⟨q, qc, m, rfl, HM.out.1, HO2.out, HON2.out, HU2.out⟩
set_option maxRecDepth 100000 in
set_option maxHeartbeats 8000000 in
theorem listKey_any {W : World} {B bu : Nat} {l : List Int} {e : Int} (h : UP W B bu l e) {xs : List Op.KS} {r : List Int × Int} (hx : listR keyRd l e = (xs, r)) :
    Calls Tryz.prog 91 #[.agg #[.pointer (some ⟨bu, 0, none⟩)], .func (.func 92) #[] #[]] W (ListAt W B bu 48 3 xs.length (xs.flatMap Op.KS.cells) r) := by
  obtain ⟨j0, hj0, hj1, hj2, hj3⟩ := info_parts Tryz.infoKS
  obtain ⟨V, hV⟩ : ∃ V, V = W.alloc (.cells #[.pointer (some ⟨bu, 0, none⟩)] 67 (0, 0)) := ⟨_, rfl⟩
  have bV : Below W.heap.size W V := by rw [hV]; exact alloc_below _ _
  obtain ⟨rB, hrB⟩ : ∃ rB, W.heap.size = rB := ⟨_, rfl⟩
  have u0 : V.heap[rB]? = some (.cells #[.pointer (some ⟨bu, 0, none⟩)] 67 (0, 0)) := by rw [hV, ← hrB]; exact heap_alloc_new W _
  have x0 : V.cell? ⟨rB, 0, none⟩ = some (.pointer (some ⟨bu, 0, none⟩)) := by simp [World.cell?, u0]
  obtain ⟨n0, hn0⟩ : ∃ n0 : Nat, (reads l e 0 131072).1 = (n0 : Int) := ⟨(reads l e 0 131072).1.toNat, by have := reads_nonneg (l := l) (e := e) (most := 131072); omega⟩
  obtain ⟨t1, ht1⟩ : ∃ t, (reads l e 0 131072).2 = t := ⟨_, rfl⟩
  have hup := uint_up (least := 0) (most := 131072) (h.later bV)
  rw [hn0, ht1] at hup
  have HUI := hide hup
  have HXS : Hid (loopR keyRd n0 t1.1 t1.2 = (xs, r)) := hide (by rw [← hx]; unfold listR; rw [hn0, ht1, Int.toNat_natCast])
  have hnb : n0 ≤ 131072 := by
    have h9 : (reads l e 0 131072).1 ≤ 131072 := reads_most (by decide)
    omega
  have HB := hide bV
  have HU0 := hide u0
  have HBR : Hid (B ≤ W.heap.size ∧ bu < B ∧ W.heap.size ≤ rB) := hide ⟨h.le, h.lt, by omega⟩
  clear h bV u0 hx hn0 ht1 hup
  go_enter Tryz.func91, Tryz.ntmps91
  go_upto_region 1 with fail
  rw [← hV]
  try rw [hrB]
  clear hV hrB
  go_wp2_with fail
  go_step3
  go_wp2_with fail
  go_step3
  go_wp2_with fail
  refine HUI.out.mono ?_
  rintro _ w1 ⟨rfl, o1, u1⟩
  have HO1 : Hid (Only (· = bu) W w1) := hide ((Only.fresh HB.out (· = bu)).trans o1)
  have HU1 := hide u1
  have HR1 : Hid (w1.heap[rB]? = some (.cells #[.pointer (some ⟨bu, 0, none⟩)] 67 (0, 0))) := hide (o1.obj HU0.out (fun e => by have e' : rB = bu := e; have := HBR.out; omega))
  clear o1 u1 x0 HUI
  go_wp2_with fail
  go_loopw [5, 6] (fun s i wq => ∃ (k : Nat) (ys : List Op.KS) (t : List Int × Int) (q : Option Addr) (qc m : Nat), k ≤ n0 ∧ i = .int .i64 (k : Int) ∧ s = .slice q m qc ∧ Hid (ys.length = m ∧ m + k ≤ n0) ∧ Hid ((ys ++ (loopR keyRd k t.1 t.2).1, (loopR keyRd k t.1 t.2).2) = (xs, r)) ∧ Hid (wq.ownsRow W.heap.size 48 3 (.slice q m qc) m (ys.flatMap Op.KS.cells)) ∧ Hid (Only (· = bu) W wq) ∧ Hid (UP wq B bu t.1 t.2) ∧ Hid (wq.heap[rB]? = some (.cells #[.pointer (some ⟨bu, 0, none⟩)] 67 (0, 0)))) (fun _ i _ => (intOf i).toNat)
  case atStart => exact ⟨n0, [], t1, none, 0, 0, Nat.le_refl _, rfl, rfl, hide ⟨rfl, by omega⟩, hide (by rw [List.nil_append]; exact HXS.out), hide (World.ownsRow_nil _ _ _ _), HO1, HU1, HR1⟩
  case round =>
    obtain ⟨k, ys, t, q, qc, m, hk, rfl, rfl, HM, HX, HO, HON, HU, HR⟩ := hrel
    rename World => wq
    clear HXS HO1 HU1 HR1
    have hr9 := HR.out
    have x0 : wq.cell? ⟨rB, 0, none⟩ = some (.pointer (some ⟨bu, 0, none⟩)) := by simp [World.cell?, hr9]
    clear hr9
    cases k with
    | zero =>
      have h9 := HX.out
      simp only [loopR, List.append_nil, Prod.mk.injEq] at h9
      obtain ⟨rfl, rfl⟩ := h9
      go_wp2
      go_ret
      exact ⟨q, qc, m, rfl, HM.out.1, HO.out, HON.out, HU.out⟩
    | succ j =>
      have e1 : decide (((j + 1 : Nat) : Int) > 0) = true := decide_eq_true (by omega)
      go_wp2_with fail
      obtain ⟨x, hx⟩ : ∃ x, (keyRd t.1 t.2).1 = x := ⟨_, rfl⟩
      obtain ⟨t2, ht2⟩ : ∃ t2, (keyRd t.1 t.2).2 = t2 := ⟨_, rfl⟩
      obtain ⟨ky, ct, ac⟩ := x
      refine (rkey_any HU.out (show keyRd t.1 t.2 = ((⟨ky, ct, ac⟩ : Op.KS), t2) by rw [← hx, ← ht2])).mono ?_
      rintro _ w0 ⟨rfl, o0, u0'⟩
      obtain ⟨w2, hw2⟩ : ∃ w2, w2 = w0.alloc (.cells #[.int .i64 ky, .int .i64 ct, .int .i64 ac] 48 (0, 0)) := ⟨_, rfl⟩
      have b2 : Below w0.heap.size w0 w2 := by rw [hw2]; exact alloc_below _ _
      have ux : w2.heap[w0.heap.size]? = some (.cells #[.int .i64 ky, .int .i64 ct, .int .i64 ac] 48 (0, 0)) := by rw [hw2]; exact heap_alloc_new _ _
      obtain ⟨xB, hxB⟩ : ∃ xB, w0.heap.size = xB := ⟨_, rfl⟩
      rw [hxB] at ux
      have o2 : Only (· = bu) wq w2 := o0.trans (Only.fresh b2 _)
      have u2 : UP w2 B bu t2.1 t2.2 := u0'.later b2
      have d0 : w2.cell? ⟨xB, 0, none⟩ = some (.int .i64 ky) := by simp [World.cell?, ux]
      have d1 : w2.cell? ⟨xB, 1, none⟩ = some (.int .i64 ct) := by simp [World.cell?, ux]
      have d2 : w2.cell? ⟨xB, 2, none⟩ = some (.int .i64 ac) := by simp [World.cell?, ux]
      have HX2 : Hid ((if t2.2 = 0 then (ys ++ ((⟨ky, ct, ac⟩ : Op.KS) :: (loopR keyRd j t2.1 t2.2).1), (loopR keyRd j t2.1 t2.2).2) else (ys, t2)) = (xs, r)) := hide (by
        rw [← HX.out]
        simp only [loopR, hx, ht2]
        split <;> simp)
      have HON2 := hide (HON.out.trans o2)
      have HR2 : Hid (w2.heap[rB]? = some (.cells #[.pointer (some ⟨bu, 0, none⟩)] 67 (0, 0))) := hide (o2.obj HR.out (fun e => by have e' : rB = bu := e; have := HBR.out; omega))
      have HO2 : Hid (w2.ownsRow W.heap.size 48 3 (.slice q m qc) m (ys.flatMap Op.KS.cells)) := hide (ownsRow_only HO.out o2 (fun b hb e => by have e' : b = bu := e; have h1 := own_block_base HO.out hb; have := HBR.out; omega))
      have HU2 := hide u2
      have hr9 := HR2.out
      have x1 : w2.cell? ⟨rB, 0, none⟩ = some (.pointer (some ⟨bu, 0, none⟩)) := by simp [World.cell?, hr9]
      have HERR : Hid (Calls Tryz.prog 58 #[.pointer (some ⟨bu, 0, none⟩)] w2 fun r w' => r = .returned (.int .i64 t2.2) ∧ w' = w2) := by
        obtain ⟨v9, h9⟩ := u2.unp
        exact hide (err_any h9)
      clear hx ht2 o2 u2 hr9 x0 HX HO HON HU HR ux b2 o0 u0'
      go_upto_region 6 with fail
      rw [← hw2]
      try rw [hxB]
      clear hw2 hxB
      go_wp2_with fail
      refine HERR.out.mono ?_
      rintro _ _ ⟨rfl, rfl⟩
      rename World => w2
      by_cases h0 : t2.2 = 0
      · have HX3 : Hid (((ys ++ [(⟨ky, ct, ac⟩ : Op.KS)]) ++ (loopR keyRd j t2.1 t2.2).1, (loopR keyRd j t2.1 t2.2).2) = (xs, r)) := hide (by
          rw [← HX2.out, if_pos h0]
          simp)
        obtain ⟨e2, he2⟩ : ∃ e2, t2.2 = e2 := ⟨_, rfl⟩
        have h0' : e2 = 0 := by rw [← he2]; exact h0
        rw [he2]
        subst h0'
        clear h0 he2
        have ab := alloc_below w2 (.cells #[.int .i64 ky, .int .i64 ct, .int .i64 ac] 48 (0, 0))
        have HRW := hide (ownsRow_later HO2.out ab)
        have HSG : Hid (Seg (w2.alloc (.cells #[.int .i64 ky, .int .i64 ct, .int .i64 ac] 48 (0, 0))) 3 (.slice (some ⟨w2.heap.size, 0, none⟩) 1 1) 1 [.int .i64 ky, .int .i64 ct, .int .i64 ac]) := hide (Seg.news (heap_alloc_new w2 _) (by simp [Value.oneCell']) rfl (Nat.le_refl _) (by decide))
        have HAB := hide ab
        have hm9 := HM.out.2
        have HK1 : Hid (m + 1 ≤ maxLen) := by show _ ≤ _; unfold maxLen; omega
        have HK2 : Hid ((m + 1) * 24 ≤ 140737488355328) := hide (by omega)
        have HZB : Hid (W.heap.size ≤ (w2.alloc (.cells #[.int .i64 ky, .int .i64 ct, .int .i64 ac] 48 (0, 0))).heap.size) := hide (Nat.le_trans HON2.out.size ab.size)
        clear ab hm9 x1
        go_wp2_with (at_builtin; refine append_cells _ rfl (.tmp 23) (.tmp 25) 41 rfl W.heap.size 48 j0 (.agg #[.int .i64 0, .int .i64 0, .int .i64 0]) 3 24 Tryz.underlying41 hj0 hj1 hj2 hj3 rfl (by decide) (.slice q m qc) m _ rfl HRW.out (.slice (some ⟨w2.heap.size, 0, none⟩) 1 1) 1 _ rfl HSG.out HK1.out HK2.out HZB.out ?_)
        intro q6 c6 w6 o6 g6
        have ho6 : Only (fun i => (Value.slice q m qc).ownBlock = some i) w2 w6 := (Only.fresh HAB.out _).trans (Only.of_grown (F := fun i => (Value.slice q m qc).ownBlock = some i) g6 (fun k e => e))
        have HO6 : Hid (w6.ownsRow W.heap.size 48 3 (.slice q6 (m + 1) c6) (m + 1) ((ys ++ [(⟨ky, ct, ac⟩ : Op.KS)]).flatMap Op.KS.cells)) := hide (by rw [List.flatMap_append]; exact o6)
        have HON6 : Hid (Only (· = bu) W w6) := hide (HON2.out.step ho6 (fun i e => .inr (own_block_base HO2.out e)))
        have HU6 := hide (HU2.out.only ho6 (fun i e => Nat.le_trans HBR.out.1 (own_block_base HO2.out e)))
        have HR6 : Hid (w6.heap[rB]? = some (.cells #[.pointer (some ⟨bu, 0, none⟩)] 67 (0, 0))) := hide (ho6.obj HR2.out (fun e => by
          obtain ⟨_, cur, h3⟩ := own_block_lt HO2.out e
          rw [HR2.out] at h3
          simp at h3))
        have HM6 : Hid ((ys ++ [(⟨ky, ct, ac⟩ : Op.KS)]).length = m + 1 ∧ m + 1 + j ≤ n0) := hide ⟨by rw [List.length_append, HM.out.1]; rfl, by have := HM.out.2; omega⟩
        have hwr : IntKind.i64.wrap ((j : Int) + 1 - 1) = (j : Int) := by rw [IntKind.wrap_i64]; have := HM.out.2; omega
        clear o6 g6 ho6 HRW HSG
        go_wp2
        refine ⟨⟨j, ys ++ [(⟨ky, ct, ac⟩ : Op.KS)], t2, q6, c6, m + 1, by omega, by first | rfl | go_num | (simp; omega), rfl, HM6, HX3, HO6, HON6, HU6, HR6⟩, by simp [intOf]⟩
      · have e0 := ne_eq h0
        have h9 := HX2.out
        rw [if_neg h0] at h9
        simp only [Prod.mk.injEq] at h9
        obtain ⟨rfl, rfl⟩ := h9
        clear x1
        go_wp2
        go_ret
        exact ⟨q, qc, m, rfl, HM.out.1, HO2.out, HON2.out, HU2.out⟩
end Go.Proofs.YtlfipmieaabagaaGreat

/-
  Reading buffers of a state's form. The conditions: that an unpacker lies there.
-/
namespace Go.Proofs.YtlfipmieaabagaaGreat
open Go.RowKit Go.Shelf

def bufRd (l : List Int) (e : Int) : List RC × List Int × Int := listR recRd l e
set_option maxRecDepth 100000 in
theorem rbuf_any {W : World} {B bu : Nat} {l : List Int} {e : Int} (h : UP W B bu l e) {xs : List RC} {r : List Int × Int} (hx : bufRd l e = (xs, r)) : Calls Tryz.prog 94 #[.agg #[.pointer (some ⟨bu, 0, none⟩)]] W (ListAt W B bu 51 2 xs.length (xs.flatMap RC.cells) r) := by
  have ab := alloc_below W (.cells #[.pointer (some ⟨bu, 0, none⟩)] 67 (0, 0))
  have HL := hide (listRec_any (h.later ab) hx)
  have HAB := hide ab
  clear h ab hx
  go_enter Tryz.func94, Tryz.ntmps94
  go_wp2_with fail
  refine HL.out.mono ?_
  rintro _ w1 ⟨p, c, m, rfl, hm, o1, on1, u1⟩
  have HO := hide (ownsRow_base o1 HAB.out.size)
  have HON := hide ((Only.fresh HAB.out (· = bu)).trans on1)
  have HU := hide u1
  have HM := hide hm
  clear o1 on1 u1 hm HL
  go_wp2
  go_ret
  exact ⟨p, c, m, rfl, HM.out, HO.out, HON.out, HU.out⟩
/-- A list of records, owned. -/
def SVo (y : SV) (W : World) (base : Nat) : Prop := W.ownsRow base 51 2 (.slice y.p y.rs.length y.c) y.rs.length (y.rs.flatMap RC.cells)
theorem SVo.only {F : Nat → Prop} {y : SV} {W X : World} {base : Nat} (h : SVo y W base) (ho : Only F W X) (hF : ∀ b, (Value.slice y.p y.rs.length y.c).ownBlock = some b → ¬ F b) : SVo y X base := ownsRow_only h ho hF
/-- What a reader of buffers answers and leaves. -/
def BufsAt (W : World) (B bu : Nat) (xs : List (List RC)) (r : List Int × Int) (z : Ending) (w' : World) : Prop := ∃ p c m, ∃ ys : List SV, z = .returned (.slice p m c) ∧ ys.length = m ∧ ys.map SV.rs = xs ∧ (∀ y ∈ ys, SVo y w' W.heap.size) ∧ w'.ownsRow W.heap.size 49 1 (.slice p m c) m (ys.flatMap SV.cells) ∧ Only (· = bu) W w' ∧ UP w' B bu r.1 r.2
set_option maxRecDepth 100000 in
set_option maxHeartbeats 8000000 in
theorem listBuf_any {W : World} {B bu : Nat} {l : List Int} {e : Int} (h : UP W B bu l e) {xs : List (List RC)} {r : List Int × Int} (hx : listR bufRd l e = (xs, r)) :
    Calls Tryz.prog 93 #[.agg #[.pointer (some ⟨bu, 0, none⟩)], .func (.func 94) #[] #[]] W (BufsAt W B bu xs r) := by
  obtain ⟨j0, hj0, hj1, hj2, hj3⟩ := info_parts Tryz.infoRecs
  obtain ⟨V, hV⟩ : ∃ V, V = W.alloc (.cells #[.pointer (some ⟨bu, 0, none⟩)] 67 (0, 0)) := ⟨_, rfl⟩
  have bV : Below W.heap.size W V := by rw [hV]; exact alloc_below _ _
  obtain ⟨rB, hrB⟩ : ∃ rB, W.heap.size = rB := ⟨_, rfl⟩
  have u0 : V.heap[rB]? = some (.cells #[.pointer (some ⟨bu, 0, none⟩)] 67 (0, 0)) := by rw [hV, ← hrB]; exact heap_alloc_new W _
  have x0 : V.cell? ⟨rB, 0, none⟩ = some (.pointer (some ⟨bu, 0, none⟩)) := by simp [World.cell?, u0]
  obtain ⟨n0, hn0⟩ : ∃ n0 : Nat, (reads l e 0 131072).1 = (n0 : Int) := ⟨(reads l e 0 131072).1.toNat, by have := reads_nonneg (l := l) (e := e) (most := 131072); omega⟩
  obtain ⟨t1, ht1⟩ : ∃ t, (reads l e 0 131072).2 = t := ⟨_, rfl⟩
  have hup := uint_up (least := 0) (most := 131072) (h.later bV)
  rw [hn0, ht1] at hup
  have HUI := hide hup
  have HXS : Hid (loopR bufRd n0 t1.1 t1.2 = (xs, r)) := hide (by rw [← hx]; unfold listR; rw [hn0, ht1, Int.toNat_natCast])
  have hnb : n0 ≤ 131072 := by
    have h9 : (reads l e 0 131072).1 ≤ 131072 := reads_most (by decide)
    omega
  have HB := hide bV
  have HU0 := hide u0
  have HBR : Hid (B ≤ W.heap.size ∧ bu < B ∧ W.heap.size ≤ rB) := hide ⟨h.le, h.lt, by omega⟩
  clear h bV u0 hx hn0 ht1 hup
  go_enter Tryz.func93, Tryz.ntmps93
  go_upto_region 1 with fail
  rw [← hV]
  try rw [hrB]
  clear hV hrB
  go_wp2_with fail
  go_step3
  go_wp2_with fail
  go_step3
  go_wp2_with fail
  refine HUI.out.mono ?_
  rintro _ w1 ⟨rfl, o1, u1⟩
  have HO1 : Hid (Only (· = bu) W w1) := hide ((Only.fresh HB.out (· = bu)).trans o1)
  have HU1 := hide u1
  have HR1 : Hid (w1.heap[rB]? = some (.cells #[.pointer (some ⟨bu, 0, none⟩)] 67 (0, 0))) := hide (o1.obj HU0.out (fun e => by have e' : rB = bu := e; have := HBR.out; omega))
  clear o1 u1 x0 HUI
  go_wp2_with fail
  go_loopw [5, 6] (fun s i wq => ∃ (k : Nat) (ys : List SV) (t : List Int × Int) (q : Option Addr) (qc m : Nat), k ≤ n0 ∧ i = .int .i64 (k : Int) ∧ s = .slice q m qc ∧ Hid (ys.length = m ∧ m + k ≤ n0) ∧ Hid ((ys.map SV.rs ++ (loopR bufRd k t.1 t.2).1, (loopR bufRd k t.1 t.2).2) = (xs, r)) ∧ Hid (∀ y ∈ ys, SVo y wq W.heap.size) ∧ Hid (wq.ownsRow W.heap.size 49 1 (.slice q m qc) m (ys.flatMap SV.cells)) ∧ Hid (Only (· = bu) W wq) ∧ Hid (UP wq B bu t.1 t.2) ∧ Hid (wq.heap[rB]? = some (.cells #[.pointer (some ⟨bu, 0, none⟩)] 67 (0, 0)))) (fun _ i _ => (intOf i).toNat)
  case atStart => exact ⟨n0, [], t1, none, 0, 0, Nat.le_refl _, rfl, rfl, hide ⟨rfl, by omega⟩, hide (by rw [List.map_nil, List.nil_append]; exact HXS.out), hide (fun y hy => by cases hy), hide (World.ownsRow_nil _ _ _ _), HO1, HU1, HR1⟩
  case round =>
    obtain ⟨k, ys, t, q, qc, m, hk, rfl, rfl, HM, HX, HS, HO, HON, HU, HR⟩ := hrel
    rename World => wq
    clear HXS HO1 HU1 HR1
    have hr9 := HR.out
    have x0 : wq.cell? ⟨rB, 0, none⟩ = some (.pointer (some ⟨bu, 0, none⟩)) := by simp [World.cell?, hr9]
    clear hr9
    cases k with
    | zero =>
      have h9 := HX.out
      simp only [loopR, List.append_nil, Prod.mk.injEq] at h9
      obtain ⟨rfl, rfl⟩ := h9
      go_wp2
      go_ret
      exact ⟨q, qc, m, ys, rfl, HM.out.1, rfl, HS.out, HO.out, HON.out, HU.out⟩
    | succ j =>
      have e1 : decide (((j + 1 : Nat) : Int) > 0) = true := decide_eq_true (by omega)
      go_wp2_with fail
      obtain ⟨x, hx⟩ : ∃ x, (bufRd t.1 t.2).1 = x := ⟨_, rfl⟩
      obtain ⟨t2, ht2⟩ : ∃ t2, (bufRd t.1 t.2).2 = t2 := ⟨_, rfl⟩
      refine (rbuf_any HU.out (show bufRd t.1 t.2 = (x, t2) by rw [← hx, ← ht2])).mono ?_
      rintro _ w2 ⟨xp, xc, xm, rfl, hxm, xo, o2, u2⟩
      have HSV : Hid (SVo ⟨x, xp, xc⟩ w2 W.heap.size) := hide (by show w2.ownsRow _ _ _ (.slice xp x.length xc) x.length _; rw [hxm]; exact ownsRow_base xo HON.out.size)
      have HXM := hide hxm
      have HS2 : Hid (∀ y ∈ ys, SVo y w2 W.heap.size) := hide (fun y hy => SVo.only (HS.out y hy) o2 (fun b hb e => by have e' : b = bu := e; have h1 := own_block_base (HS.out y hy) hb; have := HBR.out; omega))
      have HX2 : Hid ((if t2.2 = 0 then (ys.map SV.rs ++ (x :: (loopR bufRd j t2.1 t2.2).1), (loopR bufRd j t2.1 t2.2).2) else (ys.map SV.rs, t2)) = (xs, r)) := hide (by
        rw [← HX.out]
        simp only [loopR, hx, ht2]
        split <;> simp)
      have HON2 := hide (HON.out.trans o2)
      have HR2 : Hid (w2.heap[rB]? = some (.cells #[.pointer (some ⟨bu, 0, none⟩)] 67 (0, 0))) := hide (o2.obj HR.out (fun e => by have e' : rB = bu := e; have := HBR.out; omega))
      have HO2 : Hid (w2.ownsRow W.heap.size 49 1 (.slice q m qc) m (ys.flatMap SV.cells)) := hide (ownsRow_only HO.out o2 (fun b hb e => by have e' : b = bu := e; have h1 := own_block_base HO.out hb; have := HBR.out; omega))
      have HU2 := hide u2
      have hr9 := HR2.out
      have x1 : w2.cell? ⟨rB, 0, none⟩ = some (.pointer (some ⟨bu, 0, none⟩)) := by simp [World.cell?, hr9]
      have HERR : Hid (Calls Tryz.prog 58 #[.pointer (some ⟨bu, 0, none⟩)] w2 fun r w' => r = .returned (.int .i64 t2.2) ∧ w' = w2) := by
        obtain ⟨v9, h9⟩ := u2.unp
        exact hide (err_any h9)
      clear hx ht2 o2 u2 hr9 x0 HX HO HON HU HR HS hxm xo
      go_wp2_with fail
      refine HERR.out.mono ?_
      rintro _ _ ⟨rfl, rfl⟩
      rename World => w2
      by_cases h0 : t2.2 = 0
      · have HX3 : Hid ((((ys ++ [(⟨x, xp, xc⟩ : SV)]).map SV.rs) ++ (loopR bufRd j t2.1 t2.2).1, (loopR bufRd j t2.1 t2.2).2) = (xs, r)) := hide (by
          rw [← HX2.out, if_pos h0]
          simp)
        obtain ⟨e2, he2⟩ : ∃ e2, t2.2 = e2 := ⟨_, rfl⟩
        have h0' : e2 = 0 := by rw [← he2]; exact h0
        rw [he2]
        subst h0'
        clear h0 he2
        have ab := alloc_below w2 (.cells #[.slice xp xm xc] 49 (0, 0))
        have HRW := hide (ownsRow_later HO2.out ab)
        have HSG : Hid (Seg (w2.alloc (.cells #[.slice xp xm xc] 49 (0, 0))) 1 (.slice (some ⟨w2.heap.size, 0, none⟩) 1 1) 1 [.slice xp xm xc]) := hide (Seg.news (heap_alloc_new w2 _) (by simp [Value.oneCell']) rfl (Nat.le_refl _) (by decide))
        have HAB := hide ab
        have hm9 := HM.out.2
        have HK1 : Hid (m + 1 ≤ maxLen) := by show _ ≤ _; unfold maxLen; omega
        have HK2 : Hid ((m + 1) * 24 ≤ 140737488355328) := hide (by omega)
        have HZB : Hid (W.heap.size ≤ (w2.alloc (.cells #[.slice xp xm xc] 49 (0, 0))).heap.size) := hide (Nat.le_trans HON2.out.size ab.size)
        clear ab hm9 x1
        go_wp2_with (at_builtin; refine append_cells _ rfl (.tmp 23) (.tmp 25) 44 rfl W.heap.size 49 j0 (.slice none 0 0) 1 24 Tryz.underlying44 hj0 hj1 hj2 hj3 rfl (by decide) (.slice q m qc) m _ rfl HRW.out (.slice (some ⟨w2.heap.size, 0, none⟩) 1 1) 1 _ rfl HSG.out HK1.out HK2.out HZB.out ?_)
        intro q6 c6 w6 o6 g6
        have ho6 : Only (fun i => (Value.slice q m qc).ownBlock = some i) w2 w6 := (Only.fresh HAB.out _).trans (Only.of_grown (F := fun i => (Value.slice q m qc).ownBlock = some i) g6 (fun k e => e))
        have HO6 : Hid (w6.ownsRow W.heap.size 49 1 (.slice q6 (m + 1) c6) (m + 1) ((ys ++ [(⟨x, xp, xc⟩ : SV)]).flatMap SV.cells)) := hide (by rw [List.flatMap_append]; show w6.ownsRow _ _ _ _ _ (_ ++ [.slice xp x.length xc]); rw [HXM.out]; exact o6)
        have HON6 : Hid (Only (· = bu) W w6) := hide (HON2.out.step ho6 (fun i e => .inr (own_block_base HO2.out e)))
        have HU6 := hide (HU2.out.only ho6 (fun i e => Nat.le_trans HBR.out.1 (own_block_base HO2.out e)))
        have HR6 : Hid (w6.heap[rB]? = some (.cells #[.pointer (some ⟨bu, 0, none⟩)] 67 (0, 0))) := hide (ho6.obj HR2.out (fun e => by
          obtain ⟨_, cur, h3⟩ := own_block_lt HO2.out e
          rw [HR2.out] at h3
          simp at h3))
        have HS6 : Hid (∀ y ∈ ys ++ [(⟨x, xp, xc⟩ : SV)], SVo y w6 W.heap.size) := hide (fun y hy => by
          have hall : SVo y w2 W.heap.size := (List.mem_append.1 hy).elim (HS2.out y) (fun h => by obtain rfl := List.mem_singleton.1 h; exact HSV.out)
          exact SVo.only hall ho6 (fun b hb e => by
            obtain ⟨_, cur, h3⟩ := own_block_lt hall hb
            obtain ⟨_, cur2, h4⟩ := own_block_lt HO2.out e
            rw [h4] at h3
            simp at h3))
        have HM6 : Hid ((ys ++ [(⟨x, xp, xc⟩ : SV)]).length = m + 1 ∧ m + 1 + j ≤ n0) := hide ⟨by rw [List.length_append, HM.out.1]; rfl, by have := HM.out.2; omega⟩
        have hwr : IntKind.i64.wrap ((j : Int) + 1 - 1) = (j : Int) := by rw [IntKind.wrap_i64]; have := HM.out.2; omega
        clear o6 g6 ho6 HRW HSG
        go_wp2
        refine ⟨⟨j, ys ++ [⟨x, xp, xc⟩], t2, q6, c6, m + 1, by omega, by first | rfl | go_num | (simp; omega), rfl, HM6, HX3, HS6, HO6, HON6, HU6, HR6⟩, by simp [intOf]⟩
      · have e0 := ne_eq h0
        have h9 := HX2.out
        rw [if_neg h0] at h9
        simp only [Prod.mk.injEq] at h9
        obtain ⟨rfl, rfl⟩ := h9
        clear x1
        go_wp2
        go_ret
        exact ⟨q, qc, m, ys, rfl, HM.out.1, rfl, HS2.out, HO2.out, HON2.out, HU2.out⟩
end Go.Proofs.YtlfipmieaabagaaGreat
