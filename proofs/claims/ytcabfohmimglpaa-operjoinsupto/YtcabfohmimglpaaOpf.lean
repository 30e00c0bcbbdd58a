/-
  first of the tree of greatest numbers. The conditions: lengths.
-/
import Derived.Test.YtcabfohmimglpaaOpk
namespace Go.Proofs.Ytcabfohmimglpaa
open Go.RowKit

theorem Row.cellAt {W : World} {p : Option Addr} {n c : Nat} {ps : List Int} (h : Row .i64 W (.slice p n c) ps) (hp : 0 < ps.length) : ∃ b o, p = some ⟨b, o, none⟩ ∧ ps.length = n ∧ n ≤ c ∧ c ≤ 9223372036854775807 ∧ ∀ i, i < n → W.cell? ⟨b, o + i, none⟩ = some (.int .i64 (ps.getD i 0)) := by
  obtain ⟨p', c', e, h1, h2, h3, h4⟩ := h
  simp only [Value.slice.injEq] at e
  obtain ⟨rfl, rfl, rfl⟩ := e
  obtain ⟨b, o, rfl, hc⟩ := h4 hp
  exact ⟨b, o, rfl, rfl, h1, h2, hc⟩
def Found (ps : List Int) (H : Nat) (t : Int) (j : Nat) (fd : Bool) : Prop := (fd = false ∧ j = 0 ∧ ∀ i, i < H → ps.getD (H + i) 0 ≤ t) ∨ (fd = true ∧ j < H ∧ t < ps.getD (H + j) 0 ∧ ∀ i, i < j → ps.getD (H + i) 0 ≤ t)

set_option maxRecDepth 100000 in
set_option maxHeartbeats 4000000 in
theorem first_any {W : World} {p : Option Addr} {n c H K : Nat} {ps : List Int} {t : Int} (hR : Row .i64 W (.slice p n c) ps) (hp : Peak ps H K) (hb : n ≤ 1099511627776) :
    Calls Try.prog 39 #[.slice p n c, .int .i64 t] W fun e w' => ∃ j fd, e = .returned (.tuple #[.int .i64 ((j : Nat) : Int), .bool fd]) ∧ Found ps H t j fd ∧ w' = W := by
  have hH : 0 < H := by rw [hp.pow]; exact Nat.pos_of_ne_zero (by simp)
  obtain ⟨b, o, rfl, hn, hnc, hct, hcell⟩ := hR.cellAt (by rw [hp.len]; omega)
  have hn2 : n = 2 * H := by rw [← hn, hp.len]
  have c1 := hcell 1 (by omega)
  have HC := hide hcell
  have HP := hide hp
  have hq : ((n : Nat) : Int).tdiv 2 = (H : Int) := by rw [hn2, Int.natCast_mul]; exact Int.mul_tdiv_cancel_left _ (by decide)
  have hn1 : 1 < n := by omega
  have HN := hide hn2
  have hHn : H < n := by omega
  obtain ⟨x1, hx1⟩ : ∃ x, ps.getD 1 0 = x := ⟨_, rfl⟩
  rw [hx1] at c1
  clear hcell hp hR hn hn2
  by_cases hle : x1 ≤ t
  · have d1 : decide (x1 ≤ t) = true := decide_eq_true hle
    have HF : Hid (Found ps H t 0 false) := hide (.inl ⟨rfl, rfl, HP.out.none (by rw [hx1]; exact hle)⟩)
    clear hx1
    go_enter Try.func39, Try.ntmps39
    go_wp2
    go_ret2
    exact ⟨0, false, rfl, HF.out, rfl⟩
  · have d1 : decide (x1 ≤ t) = false := decide_eq_false hle
    have HA0 : Hid (At ps H t 1 K) := hide (At.start HP.out (by rw [hx1]; omega))
    clear hx1 hle
    go_enter Try.func39, Try.ntmps39
    go_wp2_with fail
    go_loopw [7] (fun s wq => ∃ (a e : Nat), s = .int .i64 (a : Int) ∧ a < n ∧ 1 ≤ a ∧ Hid (At ps H t a e) ∧ wq = W) (fun s _ => n - (intOf s).toNat)
    case atStart => exact ⟨1, K, rfl, hn1, Nat.le_refl _, HA0, rfl⟩
    case round =>
      obtain ⟨a, e, rfl, han, ha1, HA, hwq⟩ := hrel
      rename World => wq
      subst hwq
      by_cases hlt : a < H
      · obtain ⟨e', rfl, hgo, hri⟩ := HA.out.down HP.out hlt
        have han2 : 2 * a + 1 < n := by have := HN.out; omega
        have cx := HC.out (2 * a) (by omega)
        obtain ⟨x, hx⟩ : ∃ x, ps.getD (2 * a) 0 = x := ⟨_, rfl⟩
        rw [hx] at cx hgo hri
        have cx2 : wq.cell? ⟨b, o + a * 2, none⟩ = some (.int .i64 x) := by rw [Nat.mul_comm a 2]; exact cx
        have HGO := hide hgo
        have HRI := hide hri
        clear hx hgo hri
        by_cases hxt : x ≤ t
        · have d2 : decide (x ≤ t) = true := decide_eq_true hxt
          have HA2 := hide (HRI.out hxt)
          clear HGO HRI hxt
          go_wp2
          exact ⟨⟨2 * a + 1, e', by first | rfl | go_num | (congr 1; omega), by omega, by omega, HA2, by trivial⟩, by simp [intOf]; omega⟩
        · have d2 : decide (x ≤ t) = false := decide_eq_false hxt
          have HA2 := hide (HGO.out (by omega))
          clear HGO HRI hxt
          go_wp2
          exact ⟨⟨2 * a, e', by first | rfl | go_num | (congr 1; omega), by omega, by omega, HA2, by trivial⟩, by simp [intOf]; omega⟩
      · obtain rfl := HA.out.end (by omega)
        have HF : Hid (Found ps H t (a - H) true) := hide (.inr ⟨rfl, by have := HN.out; omega, by rw [show H + (a - H) = a by omega]; exact HA.out.more, fun i hi => HA.out.left (H + i) (by omega) (by simp; omega)⟩)
        have e9 : ((a - H : Nat) : Int) = (a : Int) - (H : Int) := by omega
        go_wp2
        go_ret2
        exact ⟨a - H, true, by rw [e9]; rfl, HF.out, rfl⟩
end Go.Proofs.Ytcabfohmimglpaa
