/-
  What pack.Int and Str, and the reference's form, Int, One and Str, return, over any world, in which nothing that was there turns. The conditions: each slice reads as data, and what is made is no longer than 2^47 bytes.
-/
import Derived.Test.YthlkhjpobiohmaaByt
namespace Go.Proofs.Ythlkhjpobiohmaa
open Go.RowKit

theorem take_succ_x {l : List Int} {k : Nat} (h : k < l.length) : l.take (k + 1) = l.take k ++ [l.getD k 0] := by
  rw [List.take_succ_eq_append_getElem h]; simp [List.getD, List.getElem?_eq_getElem h]
theorem forms_step {l : List Int} {k : Nat} (h : k < l.length) : forms (l.take (k + 1)) = forms (l.take k) ++ form (zz (l.getD k 0)) := by
  rw [take_succ_x h, forms_snoc]
theorem I64.at {l : List Int} (h : I64 l) {k : Nat} (hk : k < l.length) : -9223372036854775808 ≤ l.getD k 0 ∧ l.getD k 0 ≤ 9223372036854775807 := by
  have := h (l[k]) (List.getElem_mem hk)
  simpa [List.getD, List.getElem?_eq_getElem hk] using this
theorem I64.take {l : List Int} (h : I64 l) (k : Nat) : I64 (l.take k) := fun x hx => h x (List.mem_of_mem_take hx)

set_option maxHeartbeats 2000000 in
theorem int_any {vb vl : Value} {b l : List Int} {w : World} (hb : Row .u8 w vb b) (hl : Row .i64 w vl l) (hi64 : I64 l) (hbig : b.length + 10 * l.length ≤ 140737488355000) :
    Calls Try.prog 38 #[vb, vl] w fun e w' => ∃ v', e = .returned v' ∧ w'.ownsRow w.heap.size 5 1 v' (b ++ forms l).length ((b ++ forms l).map (Value.int .u8)) ∧ Below w.heap.size w w' := by
  obtain ⟨p, cap, rfl, g1, g2, g3, g4⟩ := hl
  have HB : Hid (Row .u8 w vb b) := hb
  have HL : Hid (0 < l.length → ∃ b o, p = some ⟨b, o, none⟩ ∧ ∀ i, i < l.length → w.cell? ⟨b, o + i, none⟩ = some (.int .i64 (l.getD i 0))) := g4
  have HI : Hid (I64 l) := hi64
  clear hb g3 g4 hi64
  go_enter Try.func38, Try.ntmps38
  go_wp2
  go_loop [5, 13] (fun t i => ∃ k : Nat, k ≤ l.length ∧ i = .int .i64 (k : Int) ∧ t = .int .i64 (((forms (l.take k)).length : Nat) : Int)) (fun _ i => l.length - (intOf i).toNat)
  case atStart => exact ⟨0, Nat.zero_le _, rfl, rfl⟩
  case round =>
    obtain ⟨k, hk, rfl, rfl⟩ := hrel
    have f1 := forms_len (l.take k) (HI.out.take k)
    have f2 : (l.take k).length = k := by rw [List.length_take]; omega
    by_cases hlt : k < l.length
    · obtain ⟨bb, o, rfl, hc⟩ := HL.out (by omega)
      obtain ⟨x, hx⟩ : ∃ x, x = l.getD k 0 := ⟨_, rfl⟩
      have hcx : w.cell? ⟨bb, o + k, none⟩ = some (.int .i64 x) := by rw [hx]; exact hc k hlt
      obtain ⟨x0, x1⟩ := HI.out.at hlt
      rw [← hx] at x0 x1
      have HX : Hid (x = l.getD k 0) := hx
      have z1 := sz_le10 (zz_lt x x0 x1)
      clear hc hx HL
      go_wp2_with (go_at_call 54; refine (size_any _ _ x0 x1).mono ?_; rintro e w' ⟨rfl, rfl⟩)
      go_round
      case rel => exact ⟨k + 1, by omega, by go_num, by rw [forms_step hlt, ← HX.out, List.length_append]; go_num⟩
      case measure => simp [intOf]; omega
    · have hkl : k = l.length := by omega
      subst hkl
      have f3 : l.take l.length = l := List.take_length
      rw [f3] at f1 ⊢
      clear f2 f3
      have HF : Hid ((forms l).length ≤ 10 * l.length) := f1
      go_wp2_with (go_at_call 55; refine (begin_any HB.out _ (by omega)).mono ?_; rintro e w1 ⟨v1, rfl, hown, hbel⟩)
      go_loopw [8, 27] (fun v i wr => ∃ k : Nat, k ≤ l.length ∧ i = .int .i64 (k : Int) ∧ wr.ownsRow w.heap.size 5 1 v (b ++ forms (l.take k)).length ((b ++ forms (l.take k)).map (Value.int .u8)) ∧ Below w.heap.size w wr) (fun _ i _ => l.length - (intOf i).toNat)
      case atStart => exact ⟨0, Nat.zero_le _, rfl, by simpa [forms] using hown, hbel⟩
      case round =>
        obtain ⟨k, hk, rfl, hownr, hbr⟩ := hrel
        have f1 := forms_len (l.take k) (HI.out.take k)
        have f2 : (l.take k).length = k := by rw [List.length_take]; omega
        by_cases hlt : k < l.length
        · obtain ⟨bb, o, rfl, hc⟩ := HL.out (by omega)
          obtain ⟨x, hx⟩ : ∃ x, x = l.getD k 0 := ⟨_, rfl⟩
          have hcx : wr.cell? ⟨bb, o + k, none⟩ = some (.int .i64 x) := by rw [hx]; exact cell_later hbr (hc k hlt)
          obtain ⟨x0, x1⟩ := HI.out.at hlt
          rw [← hx] at x0 x1
          have HX : Hid (x = l.getD k 0) := hx
          clear hc hx HL hown
          go_wp2_with (go_at_call 56; refine (put_any _ x0 x1 hownr hbr.size (by simp only [List.length_append]; omega)).mono ?_; rintro e w2 ⟨v2, rfl, hown2, hbel2⟩)
          go_roundw
          case rel =>
            refine ⟨k + 1, by omega, by go_num, ?_, hbr.trans hbel2⟩
            rw [forms_step hlt, ← HX.out, ← List.append_assoc, List.map_append (f := Value.int IntKind.u8), List.length_append (bs := form (zz x))]
            exact hown2
          case measure => simp [intOf]; omega
        · have hkl : k = l.length := by omega
          subst hkl
          rw [List.take_length] at hownr
          go_wp2
          go_ret
          exact ⟨_, rfl, hownr, hbr⟩

/-- What a slice of one element owns that the call has just laid. -/
theorem own_one (w : World) (t : TypeId) (x : Value) {base : Nat} (hb : base ≤ w.heap.size) : (w.alloc (.cells #[x] t)).ownsRow base t 1 (.slice (some ⟨w.heap.size, 0, none⟩) 1 1) 1 [x] :=
  ⟨by simp, .inr ⟨w.heap.size, 1, #[x], rfl, hb, heap_alloc_new w _, Nat.le_refl _, by decide, rfl, rfl⟩⟩

set_option maxHeartbeats 1000000 in
theorem form_any {n : Int} {w : World} (h0 : -9223372036854775808 ≤ n) (h1 : n ≤ 9223372036854775807) :
    Calls Try.prog 57 #[.int .i64 n] w fun e w' => ∃ v', e = .returned v' ∧ w'.ownsRow w.heap.size 5 1 v' (form (zz n)).length ((form (zz n)).map (Value.int .u8)) ∧ Below w.heap.size w w' := by
  obtain ⟨i0, hI, hz0, hz1, hz2⟩ := info_parts Try.infoU8
  have hz := zz_lt n h0 h1
  have s2 : (form (zz n)).length ≤ 10 := sz_le10 hz
  go_enter Try.func57, Try.ntmps57
  go_wp2_with (go_at_call 64; refine (rnatural_any _ _ h0 h1).mono ?_; rintro e w' ⟨rfl, rfl⟩)
  go_loopw [3, 4] (fun u v wr => ∃ (q : Nat) (r : List Int), q < 18446744073709551616 ∧ u = .int .u64 (q : Int) ∧ hi q ++ r = form (zz n) ∧ wr.ownsRow w'.heap.size 5 1 v r.length (r.map (Value.int .u8)) ∧ Below w'.heap.size w' wr) (fun u _ _ => (intOf u).toNat)
  case atStart => exact ⟨zz n / 128, [((zz n : Nat) : Int) % 128], by omega, by go_num, by unfold form; simp, own_one w' 5 _ (Nat.le_refl _), (Below.refl _ _).alloc (Nat.le_refl _) _⟩
  case round =>
    obtain ⟨q, r, hq, rfl, hr, hown, hb⟩ := hrel
    have HR : Hid (hi q ++ r = form (zz n)) := hr
    clear hr
    by_cases hq0 : 0 < q
    · have hlen : r.length + 1 ≤ 10 := by
        have := congrArg List.length HR.out
        rw [hi_pos hq0] at this
        simp at this
        omega
      go_wp2_with (at_builtin; refine append_row _ rfl _ _ 35 rfl w'.heap.size 5 i0 .u8 1 Try.underlying35 hI hz0 hz1 hz2 _ _ _ rfl (own_one wr 5 _ hb.size) _ r rfl ((own_row hown).below ((Below.refl _ _).alloc (Nat.le_refl _) _)) ?_ ?_ ?_ ?_)
      · omega
      · omega
      · simp; have := hb.size; omega
      intro v1 w1 hown1 hgrow1
      have R : w1.ownsRow w'.heap.size 5 1 v1 (((q % 128 + 128 : Nat) : Int) :: r).length ((((q % 128 + 128 : Nat) : Int) :: r).map (Value.int .u8)) := by
        rw [show (((q % 128 + 128 : Nat) : Int) :: r).length = 1 + r.length by simp; omega, show ((q % 128 + 128 : Nat) : Int) = (q : Int) % 128 + 128 by omega]
        simpa using hown1
      have B1 : Below w'.heap.size w' w1 := (hb.alloc hb.size _).grown hgrow1 (by simp; have := hb.size; omega) (fun g hg => by simp [Value.ownBlock] at hg; have := hb.size; omega)
      have HR' : Hid (hi (q / 128) ++ (((q % 128 + 128 : Nat) : Int) :: r) = form (zz n)) := by
        show _ = _
        rw [← HR.out, hi_pos hq0]; simp
      clear hown1 hgrow1 hown hb
      go_wp2
      go_roundw
      case rel => exact ⟨q / 128, _, by omega, by go_num, HR'.out, R, B1⟩
      case measure => simp [intOf]; omega
    · obtain rfl : q = 0 := by omega
      have hr : r = form (zz n) := by have := HR.out; rw [hi_zero] at this; simpa using this
      rw [hr] at hown
      clear hr
      go_wp2
      go_ret
      exact ⟨_, rfl, hown, hb⟩

end Go.Proofs.Ythlkhjpobiohmaa
