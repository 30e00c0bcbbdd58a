/-
  Records of the reference's queue, and the reference's Same of two lists that are the same. The conditions: what is handed in is such a queue.
-/
import Derived.Test.YtmmdgffgnpnmeaaEqr
import Derived.BigRegion
namespace Go.Proofs.Ytmmdgffgnpnmeaa
open Go.RowKit

theorem recs_drop : ∀ (es : List EV) (k : Nat), k < es.length → (es[k]!).kind ≠ 2 → recsC (es.drop k) = recsC (es.drop (k + 1)) + 1
  | [], k, h, _ => by simp at h
  | e :: es, 0, _, hk => by
    have hk' : e.kind ≠ 2 := hk
    simp only [List.drop_zero, List.drop_succ_cons, recsC]
    rw [if_neg hk']
  | e :: es, k + 1, h, hk => by
    have e1 : (e :: es)[k + 1]! = es[k]! := by rw [getElem!_pos (e :: es) (k + 1) h, getElem!_pos es k (by simpa using h)]; rfl
    rw [e1] at hk
    simpa using recs_drop es k (by simpa using h) hk
theorem recs_stop : ∀ (es : List EV) (k : Nat), k < es.length → (es[k]!).kind = 2 → recsC (es.drop k) = 0
  | [], k, h, _ => by simp at h
  | e :: es, 0, _, hk => by
    have hk' : e.kind = 2 := hk
    simp only [List.drop_zero, recsC]
    rw [if_pos hk']
  | e :: es, k + 1, h, hk => by
    have e1 : (e :: es)[k + 1]! = es[k]! := by rw [getElem!_pos (e :: es) (k + 1) h, getElem!_pos es k (by simpa using h)]; rfl
    rw [e1] at hk
    simpa using recs_stop es k (by simpa using h) hk
set_option maxRecDepth 100000 in
set_option maxHeartbeats 2000000 in
theorem rrecords_any {W : World} {b c n : Nat} {r l : Int} {p : Option Addr} {es : List EV} (h : RCells W b r p n c l) (hr : ERow W p c es) (hn : es.length = n) (hk : ∀ e ∈ es, e.kind = 1 ∨ e.kind = 2) {a : Nat} (ha : recsC es = a) :
    Calls Try.prog 30 #[.pointer (some ⟨b, 0, none⟩)] W fun e w' => e = .returned (.int .i64 (a : Int)) ∧ w' = W := by
  have c0 := h.c0
  have i1 := hr.le
  have i2 := hr.top
  rw [hn] at i1
  have HR := hide hr
  have HN := hide hn
  have HK := hide hk
  have HA := hide ha
  clear h hr hn hk ha
  go_enter Try.func30, Try.ntmps30
  go_wp2_with fail
  go_loopw [3] (fun i wr => ∃ k : Nat, k ≤ n ∧ i = .int .i64 (k : Int) ∧ Hid (k + recsC (es.drop k) = a) ∧ wr = W) (fun i _ => n - (intOf i).toNat)
  case atStart => exact ⟨0, Nat.zero_le _, rfl, hide (by simp [HA.out]), rfl⟩
  case round =>
    obtain ⟨k, hk, rfl, HS, rfl⟩ := hrel
    by_cases hlt : k < n
    · have hlt2 : k < es.length := by rw [HN.out]; exact hlt
      obtain ⟨x, hx⟩ : ∃ x, es[k]! = x := ⟨_, rfl⟩
      obtain ⟨g, o, rfl, a0, _⟩ := HR.out.at hlt2 hx
      have hmem : x ∈ es := by rw [← hx, getElem!_pos es k hlt2]; exact List.getElem_mem _
      rcases HK.out x hmem with h1 | h1
      · have HS2 : Hid ((k + 1) + recsC (es.drop (k + 1)) = a) := by
          have := recs_drop es k hlt2 (by rw [hx, h1]; decide)
          have h2 := HS.out
          exact hide (by omega)
        rw [h1] at a0
        clear hx hlt2 hmem h1
        go_wp2
        exact ⟨⟨k + 1, by omega, by first | rfl | go_num, HS2, by first | trivial | rfl⟩, by simp [intOf]; omega⟩
      · have HS2 : Hid (k = a) := by
          have := recs_stop es k hlt2 (by rw [hx, h1])
          have h2 := HS.out
          exact hide (by omega)
        rw [h1] at a0
        clear hx hlt2 hmem h1
        go_wp2
        go_ret
        exact ⟨by rw [← HS2.out]; rfl, rfl⟩
    · obtain rfl : k = n := by omega
      have HS2 : Hid (k = a) := by
        have h2 := HS.out
        rw [List.drop_of_length_le (by rw [HN.out]; exact Nat.le_refl _)] at h2
        exact hide h2
      go_wp2
      go_ret
      exact ⟨by rw [← HS2.out]; rfl, rfl⟩
set_option maxRecDepth 100000 in
set_option maxHeartbeats 4000000 in
theorem rsame_any {W : World} {p1 p2 : Option Addr} {c1 c2 L : Nat} {es : List EV} (h1 : ERow W p1 c1 es) (h2 : ERow W p2 c2 es) (hL : es.length = L) :
    Calls Try.prog 24 #[.slice p1 L c1, .slice p2 L c2] W fun e w' => e = .returned (.bool true) ∧ Below W.heap.size W w' := by
  have i1 := h1.le
  have i2 := h1.top
  have i3 := h2.le
  have i4 := h2.top
  rw [hL] at i1 i3
  have H1 := hide h1
  have H2 := hide h2
  have HL := hide hL
  clear h1 h2 hL
  go_enter Try.func24, Try.ntmps24
  go_wp2_with fail
  go_loopw [5] (fun i wr => ∃ k : Nat, k ≤ L ∧ i = .int .i64 (k : Int) ∧ Hid (Below W.heap.size W wr)) (fun i _ => L - (intOf i).toNat)
  case atStart => exact ⟨0, Nat.zero_le _, rfl, hide (Below.refl _ _)⟩
  case round =>
    obtain ⟨k, hk, rfl, HB⟩ := hrel
    by_cases hlt : k < L
    · have hlt2 : k < es.length := by rw [HL.out]; exact hlt
      obtain ⟨x, hx⟩ : ∃ x, es[k]! = x := ⟨_, rfl⟩
      obtain ⟨g1, o1, rfl, a0, a1, a2, a3⟩ := (H1.out.later HB.out).at hlt2 hx
      obtain ⟨g2, o2, rfl, b0, b1, b2, b3⟩ := (H2.out.later HB.out).at hlt2 hx
      obtain ⟨x0, x1, x2, x3⟩ := x
      simp only at a0 a1 a2 a3 b0 b1 b2 b3
      clear hx hlt2
      go_upto_region 6 with fail
      go_big_quiet (fail)
      go_wp2
      exact ⟨⟨k + 1, by omega, by first | rfl | go_num, hide (below_drewN HB.out _)⟩, by simp [intOf]; omega⟩
    · obtain rfl : k = L := by omega
      go_wp2
      go_ret
      exact ⟨rfl, HB.out⟩
end Go.Proofs.Ytmmdgffgnpnmeaa
