/-
  What the reference's Int, One and Str return, over any world, in which nothing that was there turns. The conditions: each slice reads as data, and what is made is no longer than 2^47 bytes.
-/
import Derived.Test.YthlkhjpobiohmaaPut
namespace Go.Proofs.Ythlkhjpobiohmaa
open Go.RowKit

set_option maxHeartbeats 2000000 in
theorem rint_any {vb vl : Value} {b l : List Int} {w : World} (hb : Row .u8 w vb b) (hl : Row .i64 w vl l) (hi64 : I64 l) (hbig : b.length + 10 * l.length ≤ 140737488355000) :
    Calls Try.prog 39 #[vb, vl] w fun e w' => ∃ v', e = .returned v' ∧ w'.ownsRow w.heap.size 5 1 v' (b ++ forms l).length ((b ++ forms l).map (Value.int .u8)) ∧ Below w.heap.size w w' := by
  obtain ⟨i0, hI, hz0, hz1, hz2⟩ := info_parts Try.infoU8
  obtain ⟨p, cap, rfl, g1, g2, g3, g4⟩ := hl
  have HB : Hid (Row .u8 w vb b) := hb
  have HL : Hid (0 < l.length → ∃ b o, p = some ⟨b, o, none⟩ ∧ ∀ i, i < l.length → w.cell? ⟨b, o + i, none⟩ = some (.int .i64 (l.getD i 0))) := g4
  have HI : Hid (I64 l) := hi64
  clear hb g3 g4 hi64
  go_enter Try.func39, Try.ntmps39
  go_wp2_with (at_builtin; refine append_row _ rfl (.tmp 7) (.tmp 8) 35 rfl w.heap.size 5 i0 .u8 1 Try.underlying35 hI hz0 hz1 hz2 _ _ _ rfl (World.ownsRow_nil w w.heap.size 5 1) _ b rfl HB.out ?_ ?_ ?_ ?_)
  · omega
  · omega
  · omega
  intro v1 w1 hown1 hgrow1
  have B1 : Below w.heap.size w w1 := (Below.refl _ w).grown hgrow1 (Nat.le_refl _) (by intro k hk; simp [Value.ownBlock] at hk)
  have R1 : w1.ownsRow w.heap.size 5 1 v1 b.length (b.map (Value.int .u8)) := by simpa using hown1
  clear hown1 hgrow1
  go_wp2
  go_loopw [5, 6] (fun v i wr => ∃ k : Nat, k ≤ l.length ∧ i = .int .i64 (k : Int) ∧ wr.ownsRow w.heap.size 5 1 v (b ++ forms (l.take k)).length ((b ++ forms (l.take k)).map (Value.int .u8)) ∧ Below w.heap.size w wr) (fun _ i _ => l.length - (intOf i).toNat)
  case atStart => exact ⟨0, Nat.zero_le _, rfl, by simpa [forms] using R1, B1⟩
  case round =>
    obtain ⟨k, hk, rfl, hownr, hbr⟩ := hrel
    have f1 := forms_len (l.take k) (HI.out.take k)
    have f2 : (l.take k).length = k := by rw [List.length_take]; omega
    by_cases hlt : k < l.length
    · obtain ⟨bb, o, rfl, hc⟩ := HL.out (by omega)
      obtain ⟨x, hx⟩ : ∃ x, x = l.getD k 0 := ⟨_, rfl⟩
      have hcx : wr.cell? ⟨bb, o + k, none⟩ = some (.int .i64 x) := by rw [hx]; exact cell_later hbr (hc k hlt)
      obtain ⟨x0, x1⟩ := HI.out.at hlt
      rw [← hx] at x0 x1
      have HX : Hid (x = l.getD k 0) := hx
      have z1 : (form (zz x)).length ≤ 10 := sz_le10 (zz_lt x x0 x1)
      clear hc hx HL R1 B1
      go_wp2_with (first
        | (go_at_call 57; refine (form_any x0 x1).mono ?_; rintro e w2 ⟨v2, rfl, hown2, hbel2⟩)
        | (at_builtin; refine append_row _ rfl (.tmp 16) (.tmp 21) 35 rfl w.heap.size 5 i0 .u8 1 Try.underlying35 hI hz0 hz1 hz2 _ _ _ rfl (own_below hownr hbel2) _ _ rfl (own_row hown2) ?_ ?_ ?_ ?_))
      · simp only [List.length_append]; omega
      · simp only [List.length_append]; omega
      · have := hbr.size; have := hbel2.size; omega
      intro v3 w3 hown3 hgrow3
      have B3 : Below w.heap.size w w3 := (hbr.trans (hbel2.mono hbr.size)).grown hgrow3 (by have := hbr.size; have := hbel2.size; omega) (fun g hg => (hownr.lt g hg).1)
      have R3 : w3.ownsRow w.heap.size 5 1 v3 (b ++ forms (l.take (k + 1))).length ((b ++ forms (l.take (k + 1))).map (Value.int .u8)) := by
        rw [forms_step hlt, ← HX.out, ← List.append_assoc, List.map_append (f := Value.int IntKind.u8), List.length_append (bs := form (zz x))]
        simp only [List.map_append, List.length_append, List.append_assoc]
        exact hown3
      clear hown3 hgrow3 hown2 hbel2 hownr hbr
      go_wp2
      go_roundw
      case rel => exact ⟨k + 1, by omega, by go_num, R3, B3⟩
      case measure => simp [intOf]; omega
    · have hkl : k = l.length := by omega
      subst hkl
      rw [List.take_length] at hownr
      clear R1 B1
      go_wp2
      go_ret
      exact ⟨_, rfl, hownr, hbr⟩

end Go.Proofs.Ythlkhjpobiohmaa
