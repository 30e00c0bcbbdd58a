/-
  EdgeNone walked: a queue that no call made. The condition: none.
-/
import Derived.Test.YtmmdgffgnpnmeaaEqv
namespace Go.Proofs.Ytmmdgffgnpnmeaa
open Go.RowKit Go.Shelf

theorem put_unmade {W : World} {po : Option Addr} {kd ky vl id : Int} (hm : Calls Try.prog 28 #[.pointer po] (W.alloc (.cells #[.int .i64 kd, .int .i64 ky, .int .i64 vl, .int .i64 id] 34 (0, 0))) fun e w' => e = .returned (.bool false) ∧ w' = (W.alloc (.cells #[.int .i64 kd, .int .i64 ky, .int .i64 vl, .int .i64 id] 34 (0, 0)))) :
    Calls Try.prog 12 #[.pointer po, .agg #[.int .i64 kd, .int .i64 ky, .int .i64 vl, .int .i64 id]] W fun r w' => r = .returned (.int .i64 2) ∧ Below W.heap.size W w' := by
  have HM := hide hm
  clear hm
  go_enter Try.func12, Try.ntmps12
  go_wp2_with fail
  refine HM.out.mono ?_
  rintro _ w0 ⟨rfl, rfl⟩
  go_wp2
  go_ret
  exact ⟨rfl, alloc_below _ _⟩
/-- A queue that no call made. -/
structure Void (W : World) (po : Option Addr) : Prop where
  take : ∀ X, Below W.heap.size W X → Calls Try.prog 10 #[.pointer po] X fun e w' => e = .returned (.tuple #[.agg #[.int .i64 0, .int .i64 0, .int .i64 0, .int .i64 0], .bool false]) ∧ Below X.heap.size X w'
  peek : ∀ X, Below W.heap.size W X → Calls Try.prog 25 #[.pointer po] X fun e w' => e = .returned (.tuple #[.agg #[.int .i64 0, .int .i64 0, .int .i64 0, .int .i64 0], .bool false]) ∧ Below X.heap.size X w'
  put : ∀ X kd ky vl id, Below W.heap.size W X → Calls Try.prog 12 #[.pointer po, .agg #[.int .i64 kd, .int .i64 ky, .int .i64 vl, .int .i64 id]] X fun r w' => r = .returned (.int .i64 2) ∧ Below X.heap.size X w'
  len : ∀ X, Below W.heap.size W X → Calls Try.prog 19 #[.pointer po] X fun e w' => e = .returned (.int .i64 0) ∧ w' = X
  left : ∀ X, Below W.heap.size W X → Calls Try.prog 20 #[.pointer po] X fun e w' => e = .returned (.int .i64 0) ∧ Below X.heap.size X w'
  all : ∀ X, Below W.heap.size W X → Calls Try.prog 23 #[.pointer po] X fun e w' => ∃ p c, e = .returned (.tuple #[.slice p 0 c, .bool true]) ∧ c ≤ 9223372036854775807 ∧ Below X.heap.size X w'
  recs : ∀ X, Below W.heap.size W X → Calls Try.prog 26 #[.pointer po] X fun e w' => e = .returned (.int .i64 0) ∧ Below X.heap.size X w'
  clone : ∀ X, Below W.heap.size W X → Calls Try.prog 15 #[.pointer po] X fun e w' => e = .returned (.pointer none) ∧ w' = X
theorem void_nil (W : World) : Void W none :=
  ⟨fun _ _ => take_zero peek_nil, fun _ _ => peek_nil, fun _ _ _ _ _ _ => put_unmade made_nil, fun _ _ => len_nil, fun _ _ => left_nil.mono (fun e w' h => ⟨h.1, by rw [h.2]; exact Below.refl _ _⟩),
    fun X _ => (all_any (qnil_any (W := X)) rfl (by decide)).mono (fun e w' ⟨p, c, h1, h2, h3⟩ => ⟨p, c, h1, by obtain ⟨_, _, e, _, h⟩ := own_form h2; simp only [Value.slice.injEq, true_and] at e; rw [e.2]; exact h, h3⟩),
    fun X _ => records_any (qnil_any (W := X)) rfl (by decide), fun _ _ => clone_nil⟩
theorem void_zero {W : World} {b : Nat} (h : W.heap[b]? = some (.cells #[.int .i64 0, .slice none 0 0, .int .i64 0] 54 (0, 0))) : Void W (some ⟨b, 0, none⟩) := by
  have hc : ∀ X, Below W.heap.size W X → Box.Cells X b 0 none 0 0 0 := fun X hX => (box_cells h).later hX
  have hq : ∀ X, Below W.heap.size W X → ∀ Y, Below X.heap.size X Y → Calls Try.prog 33 #[.pointer (some ⟨b, 0, none⟩)] Y fun e w' => ∃ kb p' c', e = .returned (.func (.func 34) #[] #[.pointer (some ⟨kb, 0, none⟩)]) ∧ KAll kb 0 c' p' [] w' ∧ Y.heap.size ≤ kb ∧ (∀ a, p' = some a → Y.heap.size ≤ a.block) ∧ Below Y.heap.size Y w' := fun X hX Y hY =>
    qall_gen (held_any (hc Y (hX.trans (hY.mono hX.size)))) (es := []) ⟨Nat.le_refl _, by decide, fun _ => rfl, fun i hi => by simp at hi⟩ rfl (by omega)
  exact ⟨fun X hX => take_zero (peek_none (hc _ (hX.trans ((alloc_below _ _).mono hX.size)))), fun X hX => peek_none (hc X hX), fun X _ _ _ _ hX => put_unmade (made_no (hc _ (hX.trans ((alloc_below _ _).mono hX.size))) (by decide)), fun X hX => (len_any (hc X hX)).mono (fun e w' h => h), fun X hX => (left_any (hc X hX) (by decide) (by decide) (by decide)).mono (fun e w' h => h),
    fun X hX => (all_any (hq X hX) rfl (by decide)).mono (fun e w' ⟨p, c, h1, h2, h3⟩ => ⟨p, c, h1, by obtain ⟨_, _, e, _, h⟩ := own_form h2; simp only [Value.slice.injEq, true_and] at e; rw [e.2]; exact h, h3⟩),
    fun X hX => records_any (hq X hX) rfl (by decide), fun X hX => clone_none (hc X hX) (by decide)⟩
set_option maxRecDepth 100000 in
set_option maxHeartbeats 4000000 in
theorem none_walk {W : World} {kd ky vl id : Int} :
    Calls Try.prog 6 #[.agg #[.int .i64 kd, .int .i64 ky, .int .i64 vl, .int .i64 id]] W fun e w' => e = .returned (.bool true) ∧ Below W.heap.size W w' := by
  obtain ⟨V, hV⟩ : ∃ V, V = W.alloc (.cells #[.int .i64 kd, .int .i64 ky, .int .i64 vl, .int .i64 id] 34 (0, 0)) := ⟨_, rfl⟩
  have bV : Below W.heap.size W V := by rw [hV]; exact alloc_below _ _
  have u3 : V.heap[W.heap.size]? = some (.cells #[.int .i64 kd, .int .i64 ky, .int .i64 vl, .int .i64 id] 34 (0, 0)) := by rw [hV]; exact heap_alloc_new W _
  obtain ⟨sB, hsB⟩ : ∃ sB, W.heap.size = sB := ⟨_, rfl⟩
  rw [hsB] at u3
  have HU := hide u3
  have HBV := hide bV
  clear bV u3
  go_enter Try.func6, Try.ntmps6
  go_upto_region 1 with fail
  rw [← hV]
  try rw [hsB]
  clear hV hsB
  go_wp2_with fail
  refine live_any.mono ?_
  rintro _ w1 ⟨rfl, b1⟩
  have HB1 : Hid (Below W.heap.size W w1) := hide (HBV.out.trans (b1.mono HBV.out.size))
  have HU1 := hide ((b1.block sB (Array.getElem?_eq_some_iff.1 HU.out).1).trans HU.out)
  clear b1 HU HBV
  go_wp2_with fail
  obtain ⟨X, hX⟩ : ∃ X, X = (w1.alloc (.cells #[.int .i64 0, .slice none 0 0, .int .i64 0] 54 (0, 0))).alloc (.cells #[.pointer none, .pointer (some ⟨w1.heap.size, 0, none⟩)] 24 (0, 0)) := ⟨_, rfl⟩
  rw [← hX]
  have bX : Below w1.heap.size w1 X := by rw [hX]; exact below2 _ _ _
  obtain ⟨zB, hzB⟩ : ∃ zB, w1.heap.size = zB := ⟨_, rfl⟩
  have hz0 : X.heap[zB]? = some (.cells #[.int .i64 0, .slice none 0 0, .int .i64 0] 54 (0, 0)) := by rw [hX, ← hzB]; exact below_box (alloc_below _ _) (heap_alloc_new w1 _)
  have hz1 : X.heap[zB + 1]? = some (.cells #[.pointer none, .pointer (some ⟨zB, 0, none⟩)] 24 (0, 0)) := by
    have h := heap_alloc_new (w1.alloc (.cells #[.int .i64 0, .slice none 0 0, .int .i64 0] 54 (0, 0))) (.cells #[.pointer none, .pointer (some ⟨w1.heap.size, 0, none⟩)] 24 (0, 0))
    rw [World.size_alloc, hzB] at h
    rw [hX, hzB]
    exact h
  have HZ0 := hide hz0
  have HZ1 := hide hz1
  have HU2 := hide ((bX.block sB (Array.getElem?_eq_some_iff.1 HU1.out).1).trans HU1.out)
  have HBX : Hid (Below W.heap.size W X) := hide (HB1.out.trans (bX.mono HB1.out.size))
  try rw [hzB]
  clear hX bX hzB hz0 hz1 HU1 HB1
  go_loopw [17] (fun i wr => ∃ k : Nat, k ≤ 2 ∧ i = .int .i64 (k : Int) ∧ Hid (Below X.heap.size X wr)) (fun i _ => 2 - (intOf i).toNat)
  case atStart => exact ⟨0, by omega, rfl, hide (Below.refl _ _)⟩
  case round =>
    obtain ⟨k, hk, rfl, HB⟩ := hrel
    by_cases hlt : k < 2
    · obtain ⟨po, hpo, HVD⟩ : ∃ po : Option Addr, wr.cell? ⟨zB + 1, k, none⟩ = some (.pointer po) ∧ Hid (Void wr po) := by
        have h1 := (HB.out.block (zB + 1) (Array.getElem?_eq_some_iff.1 HZ1.out).1).trans HZ1.out
        have h0 := (HB.out.block zB (Array.getElem?_eq_some_iff.1 HZ0.out).1).trans HZ0.out
        have : k = 0 ∨ k = 1 := by omega
        rcases this with rfl | rfl
        · exact ⟨none, by simp [World.cell?, h1], hide (void_nil wr)⟩
        · exact ⟨some ⟨zB, 0, none⟩, by simp [World.cell?, h1], hide (void_zero h0)⟩
      have HU3 := hide ((HB.out.block sB (Array.getElem?_eq_some_iff.1 HU2.out).1).trans HU2.out)
      go_wp2_with fail
      refine (HVD.out.take _ (Below.refl _ _)).mono ?_
      rintro _ w2 ⟨rfl, b2⟩
      have B3 : Below wr.heap.size wr (w2.alloc (.cells #[.int .i64 0, .int .i64 0, .int .i64 0, .int .i64 0] 34 (0, 0))) := b2.trans ((alloc_below _ _).mono b2.size)
      have HB3 := hide B3
      clear hpo b2 B3
      go_wp2_with fail
      refine (HVD.out.peek _ HB3.out).mono ?_
      rintro _ w4 ⟨rfl, b4⟩
      have B5 : Below wr.heap.size wr (w4.alloc (.cells #[.int .i64 0, .int .i64 0, .int .i64 0, .int .i64 0] 34 (0, 0))) := (HB3.out.trans (b4.mono HB3.out.size)).trans ((alloc_below _ _).mono (HB3.out.trans (b4.mono HB3.out.size)).size)
      have HB5 := hide B5
      clear b4 B5 HB3
      go_wp2_with fail
      refine (HVD.out.all _ HB5.out).mono ?_
      rintro _ w6 ⟨pa, ca, rfl, hca, b6⟩
      have HB6 : Hid (Below wr.heap.size wr w6) := hide (HB5.out.trans (b6.mono HB5.out.size))
      have hu6 := (HB6.out.block sB (Array.getElem?_eq_some_iff.1 HU3.out).1).trans HU3.out
      obtain ⟨_, _, _, _, a0, a1, a2, a3⟩ := four hu6
      clear b6 HB5 hu6
      go_wp2_with fail
      refine (HVD.out.put _ kd ky vl id HB6.out).mono ?_
      rintro _ w7 ⟨rfl, b7⟩
      have HB7 : Hid (Below wr.heap.size wr w7) := hide (HB6.out.trans (b7.mono HB6.out.size))
      clear b7 HB6 a0 a1 a2 a3
      go_wp2_with fail
      refine (HVD.out.len _ HB7.out).mono ?_
      rintro _ w8 ⟨rfl, rfl⟩
      go_wp2_with fail
      refine (HVD.out.left _ HB7.out).mono ?_
      rintro _ w9 ⟨rfl, b9⟩
      have HB9 : Hid (Below wr.heap.size wr w9) := hide (HB7.out.trans (b9.mono HB7.out.size))
      clear b9 HB7
      go_wp2_with fail
      refine (HVD.out.recs _ HB9.out).mono ?_
      rintro _ wa ⟨rfl, ba⟩
      have HBa : Hid (Below wr.heap.size wr wa) := hide (HB9.out.trans (ba.mono HB9.out.size))
      clear ba HB9
      go_wp2_with fail
      refine (HVD.out.clone _ HBa.out).mono ?_
      rintro _ wb ⟨rfl, rfl⟩
      have HBF : Hid (Below X.heap.size X wb) := hide (HB.out.trans (HBa.out.mono HB.out.size))
      clear HBa HVD HU3 HB
      go_wp2
      exact ⟨⟨k + 1, by omega, by first | rfl | go_num, HBF⟩, by simp [intOf]; omega⟩
    · obtain rfl : k = 2 := by omega
      have HBF : Hid (Below W.heap.size W wr) := hide (HBX.out.trans (HB.out.mono HBX.out.size))
      go_wp2
      go_ret
      exact ⟨rfl, HBF.out⟩
end Go.Proofs.Ytmmdgffgnpnmeaa
