/-
  Upto of the program, told; Upto of the reference. The conditions: lengths.
-/
import Derived.Test.YtihbdlbnpkmafaaEre
namespace Go.Proofs.Ytihbdlbnpkmafaa
open Go.RowKit Go.Shelf

theorem enUpto : ∀ args w, (callFunc 55 args).run Try.prog w = .ok (.enter 55 args) w := enters_of Try.func55 (by kernel_rfl) rfl
set_option maxRecDepth 100000 in
set_option maxHeartbeats 1000000 in
theorem upto_any {W : World} {p : Option Addr} {n c : Nat} {es : List EV} (h : ERow W p c es) (hn : es.length = n) (hb : n * 32 ≤ 140737488355328) :
    Calls Try.prog 35 #[.slice p n c] W fun e w' => ∃ eb kb p' c', e = .returned (.func (.func 55) #[] #[.pointer (some ⟨eb, 0, none⟩)]) ∧ KRd eb kb n c' p' es w' ∧ Below W.heap.size W w' := by
  have HC := hide (known_any h hn hb)
  clear h
  go_enter Try.func35, Try.ntmps35
  go_wp2_with fail
  refine HC.out.mono ?_
  rintro _ w1 ⟨kb, p', c', rfl, hc, E1, B1⟩
  have hb2 := alloc_below w1 (.cells #[.func (.func 67) #[] #[.pointer (some ⟨kb, 0, none⟩)]] 86 (0, 0))
  have hbx := heap_alloc_new w1 (.cells #[.func (.func 67) #[] #[.pointer (some ⟨kb, 0, none⟩)]] 86 (0, 0))
  have HK : Hid (KRd w1.heap.size kb n c' p' es (w1.alloc (.cells #[.func (.func 67) #[] #[.pointer (some ⟨kb, 0, none⟩)]] 86 (0, 0)))) := hide ⟨by simp only [World.cell?]; rw [hbx]; rfl, cell_later hb2 hc, ERow.later E1 hb2⟩
  have HB := hide (B1.trans (hb2.mono B1.size))
  clear hc E1 B1 hb2 hbx HC
  go_wp2
  go_ret
  exact ⟨w1.heap.size, kb, p', c', rfl, HK.out, HB.out⟩
theorem tellU_rc (ks : List EV) : tellU ks = tellRc ((uptoL ks).map EV.rc) := by
  unfold tellU tellRc
  rw [List.map_map]
  rfl
theorem upto_len (es : List EV) : ((uptoL (knownL es)).map EV.rc).length ≤ es.length := by
  rw [List.length_map]
  unfold uptoL knownL
  exact Nat.le_trans (List.takeWhile_prefix _).length_le (List.length_filter_le _ _)
theorem told_rec {W : World} {eb kb L cap : Nat} {p : Option Addr} {es : List EV} (h : KRd eb kb L cap p es W) (hL : es.length = L) (hb : L * 32 ≤ 140737488351232) {M : Nat} (hM : (rcsOf es).length = M) :
    Calls Try.prog 32 #[.func (.func 54) #[] #[.pointer (some ⟨eb, 0, none⟩)]] W fun e w' => ∃ p c, e = .returned (.slice p M c) ∧ w'.ownsRow W.heap.size 24 2 (.slice p M c) M ((rcsOf es).flatMap RC.cells) ∧ Below W.heap.size W w' := by
  rw [recs_plain] at hM ⊢
  exact callsIn_wide.1 (told_in 5 (Nat.le_refl _) (Rd := KRd eb kb L cap p es) (fun q hq => by rw [← tellR_rc]; exact records_tells q hq hL) enRecords (fun X hX => h.later hX) (by have := rcs_len' (knownL es); have : (knownL es).length ≤ es.length := List.length_filter_le _ _; omega) hM)
theorem told_upto {W : World} {eb kb L cap : Nat} {p : Option Addr} {es : List EV} (h : KRd eb kb L cap p es W) (hL : es.length = L) (hb : L * 32 ≤ 140737488351232) {M : Nat} (hM : (rcsOf (noB es)).length = M) :
    Calls Try.prog 32 #[.func (.func 55) #[] #[.pointer (some ⟨eb, 0, none⟩)]] W fun e w' => ∃ p c, e = .returned (.slice p M c) ∧ w'.ownsRow W.heap.size 24 2 (.slice p M c) M ((rcsOf (noB es)).flatMap RC.cells) ∧ Below W.heap.size W w' := by
  rw [upto_plain] at hM ⊢
  exact callsIn_wide.1 (told_in 5 (Nat.le_refl _) (Rd := KRd eb kb L cap p es) (fun q hq => by rw [← tellU_rc]; exact upto_tells q hq hL) enUpto (fun X hX => h.later hX) (by have := upto_len es; omega) hM)
theorem noB_at : ∀ (es : List EV) (k : Nat), (∀ j, j < k → isB es[j]! = false) → (k < es.length → isB es[k]! = true) → k ≤ es.length → noB es = es.take k
  | [], k, _, _, h => by
    obtain rfl : k = 0 := by simpa using h
    rfl
  | e :: es, 0, _, h2, _ => by
    unfold noB
    rw [List.takeWhile_cons_of_neg (by simpa using h2 (by simp))]
    rfl
  | e :: es, k + 1, h1, h2, h3 => by
    have ih := noB_at es k (fun j hj => by simpa using h1 (j + 1) (by omega)) (fun hk => by simpa using h2 (by simp; omega)) (by simpa using h3)
    unfold noB at ih ⊢
    rw [List.takeWhile_cons_of_pos (by simpa using h1 0 (by omega)), ih]
    rfl
set_option maxRecDepth 100000 in
set_option maxHeartbeats 4000000 in
theorem rupto_any {W : World} {p : Option Addr} {c n : Nat} {es : List EV} (h : ERow W p c es) (hn : es.length = n) (hb : n * 32 ≤ 140737488351232) {M : Nat} (hM : (rcsOf (noB es)).length = M) :
    Calls Try.prog 36 #[.slice p n c] W fun e w' => ∃ p c, e = .returned (.slice p M c) ∧ w'.ownsRow W.heap.size 24 2 (.slice p M c) M ((rcsOf (noB es)).flatMap RC.cells) ∧ Below W.heap.size W w' := by
  have hcn : n ≤ c := by rw [← hn]; exact h.le
  have hct := h.top
  have HR := hide h
  have HN := hide hn
  have HM := hide hM
  have HNB := hide (noB_at es)
  clear h hn hM
  go_enter Try.func36, Try.ntmps36
  go_wp2_with fail
  go_loopw [3] (fun i wq => ∃ k : Nat, k ≤ n ∧ i = .int .i64 (k : Int) ∧ wq = W ∧ Hid (∀ j, j < k → isB es[j]! = false)) (fun i _ => n - (intOf i).toNat)
  case atStart => exact ⟨0, Nat.zero_le _, rfl, rfl, hide (fun j hj => by omega)⟩
  case round =>
    obtain ⟨k, hk, rfl, rfl, HNO⟩ := hrel
    rename World => W
    by_cases hlt : k < n
    · have hlt2 : k < es.length := by rw [HN.out]; exact hlt
      obtain ⟨x, hx⟩ : ∃ x, es[k]! = x := ⟨_, rfl⟩
      obtain ⟨g, o, rfl, a0, a1, a2, a3⟩ := HR.out.at hlt2 hx
      obtain ⟨kd, ky, vl, id⟩ := x
      simp only at a0 a1 a2 a3
      by_cases hkd : kd = 2
      · subst hkd
        have hnb := HNB.out k HNO.out (fun _ => by rw [hx]; rfl) (by omega)
        have hm := HM.out
        rw [hnb] at hm
        have HC := hide (rrecords_any (HR.out.take k) (n := k) (by rw [List.length_take]; omega) (by omega) hm)
        have HNBK := hide hnb
        clear hnb hm hx hlt2
        go_wp2_with fail
        refine HC.out.mono ?_
        rintro _ w2 ⟨p2, c2, rfl, o2, b2⟩
        have HO : Hid (w2.ownsRow W.heap.size 24 2 (.slice p2 M c2) M ((rcsOf (noB es)).flatMap RC.cells)) := by rw [HNBK.out]; exact hide o2
        have HB := hide b2
        clear o2 b2 HC
        go_wp2
        go_ret
        exact ⟨p2, c2, rfl, HO.out, HB.out⟩
      · have e1 : (kd == 2) = false := by simpa using hkd
        have HNO2 : Hid (∀ j, j < k + 1 → isB es[j]! = false) := hide (fun j hj => by
          by_cases h : j = k
          · rw [h, hx]; simpa [isB] using hkd
          · exact HNO.out j (by omega))
        clear hx hlt2 hkd
        go_wp2
        exact ⟨⟨k + 1, by omega, by first | rfl | go_num, by first | rfl | trivial, HNO2⟩, by simp [intOf]; omega⟩
    · obtain rfl : k = n := by omega
      have hnb := HNB.out k HNO.out (fun h => by rw [HN.out] at h; omega) (by rw [HN.out]; exact Nat.le_refl _)
      rw [List.take_of_length_le (by rw [HN.out]; exact Nat.le_refl _)] at hnb
      have hm := HM.out
      rw [hnb] at hm
      have HC := hide (rrecords_any HR.out HN.out hb hm)
      have HNBK := hide hnb
      clear hnb hm
      go_wp2_with fail
      refine HC.out.mono ?_
      rintro _ w2 ⟨p2, c2, rfl, o2, b2⟩
      have HO : Hid (w2.ownsRow W.heap.size 24 2 (.slice p2 M c2) M ((rcsOf (noB es)).flatMap RC.cells)) := by rw [HNBK.out]; exact hide o2
      have HB := hide b2
      clear o2 b2 HC
      go_wp2
      go_ret
      exact ⟨p2, c2, rfl, HO.out, HB.out⟩
end Go.Proofs.Ytihbdlbnpkmafaa
