/-
  place: where a key stands among entries that rise. The conditions: lengths.
-/
import Derived.Test.YtcabfohmimglpaaOpw
namespace Go.Proofs.Ytcabfohmimglpaa
open Go.RowKit

/-- What a ledger knows of a key. -/
structure EN where
  first : Int
  key : Int
  cnt : Int
  acc : Int
  gap : Int
  deriving DecidableEq
instance : Inhabited EN := ⟨⟨0, 0, 0, 0, 0⟩⟩
def EN.cells (x : EN) : List Value := [.int .i64 x.first, .int .i64 x.key, .int .i64 x.cnt, .int .i64 x.acc, .int .i64 x.gap]
theorem EN.len (x : EN) : x.cells.length = 5 := rfl
/-- Entries as they lie. -/
structure NRow (W : World) (p : Option Addr) (cap : Nat) (es : List EN) : Prop where
  le : es.length ≤ cap
  top : cap ≤ 9223372036854775807
  cell : ∀ i, i < es.length → ∃ g o, p = some ⟨g, o, none⟩ ∧ ∀ j, j < 5 → W.cell? ⟨g, o + i * 5 + j, none⟩ = (es[i]!).cells[j]?
theorem NRow.below {W W' : World} {p : Option Addr} {cap : Nat} {es : List EN} (h : NRow W p cap es) (hb : Below W.heap.size W W') : NRow W' p cap es :=
  ⟨h.le, h.top, fun i hi => by
    obtain ⟨g, o, e, h1⟩ := h.cell i hi
    refine ⟨g, o, e, fun j hj => ?_⟩
    have h2 := h1 j hj
    have hl : j < (es[i]!).cells.length := hj
    rw [List.getElem?_eq_getElem hl] at h2 ⊢
    exact cell_later hb h2⟩
def Rises (es : List EN) : Prop := ∀ i j, i < j → j < es.length → (es[i]!).key < (es[j]!).key
def cmpC (a b : Int) : Int := if a < b then -1 else if b < a then 1 else 0

set_option maxRecDepth 100000 in
theorem isNaN_any {W : World} {x : Int} : Calls Try.prog 43 #[.int .i64 x] W fun e w' => e = .returned (.bool false) ∧ w' = W := by
  go_enter Try.func43, Try.ntmps43
  go_wp2
  go_ret
  exact ⟨rfl, rfl⟩
set_option maxRecDepth 100000 in
theorem cmp_any {W : World} {a b : Int} : Calls Try.prog 37 #[.int .i64 a, .int .i64 b] W fun e w' => e = .returned (.int .i64 (cmpC a b)) ∧ w' = W := by
  by_cases h1 : a < b
  · have HR : Hid (cmpC a b = -1) := hide (by unfold cmpC; rw [if_pos h1])
    have d1 : decide (a < b) = true := decide_eq_true h1
    rw [HR.out]
    clear h1
    go_enter Try.func37, Try.ntmps37
    go_wp2_with (go_at_call 43; refine isNaN_any.mono ?_; rintro _ _ ⟨rfl, rfl⟩)
    go_ret
    exact ⟨rfl, rfl⟩
  · have d1 : decide (a < b) = false := decide_eq_false h1
    by_cases h2 : b < a
    · have HR : Hid (cmpC a b = 1) := hide (by unfold cmpC; rw [if_neg h1, if_pos h2])
      have d2 : decide (a > b) = true := decide_eq_true h2
      rw [HR.out]
      clear h1 h2
      go_enter Try.func37, Try.ntmps37
      go_wp2_with (go_at_call 43; refine isNaN_any.mono ?_; rintro _ _ ⟨rfl, rfl⟩)
      go_ret
      exact ⟨rfl, rfl⟩
    · have HR : Hid (cmpC a b = 0) := hide (by unfold cmpC; rw [if_neg h1, if_neg h2])
      have d2 : decide (a > b) = false := decide_eq_false h2
      rw [HR.out]
      clear h1 h2
      go_enter Try.func37, Try.ntmps37
      go_wp2_with (go_at_call 43; refine isNaN_any.mono ?_; rintro _ _ ⟨rfl, rfl⟩)
      go_ret
      exact ⟨rfl, rfl⟩
set_option maxRecDepth 100000 in
theorem placeF_any {W : World} {a b c d e k : Int} : Calls Try.prog 36 #[.agg #[.int .i64 a, .int .i64 b, .int .i64 c, .int .i64 d, .int .i64 e], .int .i64 k] W fun r w' => r = .returned (.int .i64 (cmpC b k)) ∧ Below W.heap.size W w' := by
  have HC := hide (cmp_any (W := W.alloc (.cells #[.int .i64 a, .int .i64 b, .int .i64 c, .int .i64 d, .int .i64 e] 74 (0, 0))) (a := b) (b := k))
  go_enter Try.func36, Try.ntmps36
  go_wp2_with fail
  refine HC.out.mono ?_
  rintro _ _ ⟨rfl, rfl⟩
  go_wp2
  go_ret
  exact ⟨rfl, alloc_below _ _⟩
/-- Where a key stands: all ahead are lesser, none from there on is. -/
def Place (es : List EN) (k : Int) (i : Nat) : Prop := i ≤ es.length ∧ (∀ j, j < i → (es[j]!).key < k) ∧ ∀ j, i ≤ j → j < es.length → k ≤ (es[j]!).key

set_option maxRecDepth 100000 in
set_option maxHeartbeats 4000000 in
theorem search_any {W : World} {p : Option Addr} {c n : Nat} {es : List EN} {k : Int} (h : NRow W p c es) (hn : es.length = n) (hr : Rises es) (hb : n ≤ 1099511627776) :
    Calls Try.prog 35 #[.slice p n c, .int .i64 k, .func (.func 36) #[] #[]] W fun e w' => ∃ i fd, e = .returned (.tuple #[.int .i64 ((i : Nat) : Int), .bool fd]) ∧ Place es k i ∧ fd = decide (i < n ∧ (es[i]!).key = k) ∧ Below W.heap.size W w' := by
  have i1 := h.le
  have i2 := h.top
  rw [hn] at i1
  have HR := hide h
  have HN := hide hn
  have HRI := hide hr
  clear h hn hr
  go_enter Try.func35, Try.ntmps35
  go_wp2_with fail
  go_loopw [9, 10] (fun s t wq => ∃ (i j : Nat), s = .int .i64 (i : Int) ∧ t = .int .i64 (j : Int) ∧ i ≤ j ∧ j ≤ n ∧ Hid (∀ q, q < i → (es[q]!).key < k) ∧ Hid (∀ q, j ≤ q → q < n → k ≤ (es[q]!).key) ∧ Hid (Below W.heap.size W wq)) (fun s t _ => (intOf t).toNat - (intOf s).toNat)
  case atStart => exact ⟨0, n, rfl, rfl, Nat.zero_le _, Nat.le_refl _, hide (fun q hq => absurd hq (Nat.not_lt_zero q)), hide (fun q h1 h2 => absurd h2 (by omega)), hide (Below.refl _ _)⟩
  case round =>
    obtain ⟨i, j, rfl, rfl, hij, hjn, HL, HU, HB⟩ := hrel
    rename World => wq
    by_cases hlt : i < j
    · obtain ⟨m, hm⟩ : ∃ m, (i + j) / 2 = m := ⟨_, rfl⟩
      have hmj : m < j := by omega
      have him : i ≤ m := by omega
      have hmn : m < n := by omega
      have hm2 : m < es.length := by rw [HN.out]; exact hmn
      obtain ⟨g, o, rfl, hc⟩ := (HR.out.below HB.out).cell m hm2
      obtain ⟨⟨x0, x1, x2, x3, x4⟩, hx⟩ : ∃ x, es[m]! = x := ⟨_, rfl⟩
      rw [hx] at hc
      have d0 : wq.cell? ⟨g, o + m * 5, none⟩ = some (.int .i64 x0) := hc 0 (by omega)
      have d1 : wq.cell? ⟨g, o + m * 5 + 1, none⟩ = some (.int .i64 x1) := hc 1 (by omega)
      have d2 : wq.cell? ⟨g, o + m * 5 + 2, none⟩ = some (.int .i64 x2) := hc 2 (by omega)
      have d3 : wq.cell? ⟨g, o + m * 5 + 3, none⟩ = some (.int .i64 x3) := hc 3 (by omega)
      have d4 : wq.cell? ⟨g, o + m * 5 + 4, none⟩ = some (.int .i64 x4) := hc 4 (by omega)
      have HX := hide hx
      clear hc hx hm2
      go_upto_region 5 with fail
      have em : ((i : Int) + (j : Int)) / 2 = (m : Int) := by omega
      rw [em]
      clear em hm
      go_wp2_with fail
      refine placeF_any.mono ?_
      rintro _ w1 ⟨rfl, b1⟩
      have HB1 := hide (HB.out.trans (b1.mono HB.out.size))
      clear b1 d0 d1 d2 d3 d4
      by_cases hk : x1 < k
      · have ec : cmpC x1 k = -1 := by unfold cmpC; rw [if_pos hk]
        rw [ec]
        have HL2 : Hid (∀ q, q < m + 1 → (es[q]!).key < k) := hide (fun q hq => by
          by_cases e : q = m
          · rw [e, HX.out]; exact hk
          · have h9 := HRI.out q m (by omega) (by rw [HN.out]; exact hmn)
            rw [HX.out] at h9
            simp only at h9
            omega)
        clear ec hk
        go_wp2
        exact ⟨⟨m + 1, j, by first | rfl | go_num, rfl, by omega, hjn, HL2, HU, HB1⟩, by simp [intOf]; omega⟩
      · have ec : decide (cmpC x1 k < 0) = false := by
          unfold cmpC
          rw [if_neg hk]
          split <;> decide
        have HU2 : Hid (∀ q, m ≤ q → q < n → k ≤ (es[q]!).key) := hide (fun q h1 h2 => by
          by_cases e : q = m
          · rw [e, HX.out]; simp only; omega
          · have h9 := HRI.out m q (by omega) (by rw [HN.out]; exact h2)
            rw [HX.out] at h9
            simp only at h9
            omega)
        obtain ⟨cv, hcv⟩ : ∃ cv, cmpC x1 k = cv := ⟨_, rfl⟩
        rw [hcv] at ec ⊢
        clear hcv hk
        go_wp2
        exact ⟨⟨i, m, rfl, rfl, him, by omega, HL, HU2, HB1⟩, by simp [intOf]; omega⟩
    · obtain rfl : i = j := by omega
      have HPL : Hid (Place es k i) := hide ⟨by rw [HN.out]; exact hjn, HL.out, fun q h1 h2 => HU.out q h1 (by rw [HN.out] at h2; exact h2)⟩
      by_cases hin : i < n
      · have hm2 : i < es.length := by rw [HN.out]; exact hin
        obtain ⟨g, o, rfl, hc⟩ := (HR.out.below HB.out).cell i hm2
        obtain ⟨⟨x0, x1, x2, x3, x4⟩, hx⟩ : ∃ x, es[i]! = x := ⟨_, rfl⟩
        rw [hx] at hc
        have d0 : wq.cell? ⟨g, o + i * 5, none⟩ = some (.int .i64 x0) := hc 0 (by omega)
        have d1 : wq.cell? ⟨g, o + i * 5 + 1, none⟩ = some (.int .i64 x1) := hc 1 (by omega)
        have d2 : wq.cell? ⟨g, o + i * 5 + 2, none⟩ = some (.int .i64 x2) := hc 2 (by omega)
        have d3 : wq.cell? ⟨g, o + i * 5 + 3, none⟩ = some (.int .i64 x3) := hc 3 (by omega)
        have d4 : wq.cell? ⟨g, o + i * 5 + 4, none⟩ = some (.int .i64 x4) := hc 4 (by omega)
        have HFD : Hid ((cmpC x1 k == 0) = decide (i < n ∧ (es[i]!).key = k)) := hide (by
          rw [hx]
          simp only
          unfold cmpC
          by_cases h1 : x1 < k
          · rw [if_pos h1, decide_eq_false (by omega)]; rfl
          · rw [if_neg h1]
            by_cases h2 : k < x1
            · rw [if_pos h2, decide_eq_false (by omega)]; rfl
            · rw [if_neg h2, decide_eq_true ⟨hin, by omega⟩]; rfl)
        clear hc hx hm2
        go_wp2_with fail
        refine placeF_any.mono ?_
        rintro _ w1 ⟨rfl, b1⟩
        have HB1 := hide (HB.out.trans (b1.mono HB.out.size))
        obtain ⟨cv, hcv⟩ : ∃ cv, cmpC x1 k = cv := ⟨_, rfl⟩
        rw [hcv] at HFD ⊢
        clear b1 d0 d1 d2 d3 d4 hcv
        go_wp2
        go_ret2
        exact ⟨i, cv == 0, rfl, HPL.out, HFD.out, HB1.out⟩
      · have HFD : Hid (false = decide (i < n ∧ (es[i]!).key = k)) := hide (by rw [decide_eq_false (by omega)])
        go_wp2
        go_ret2
        exact ⟨i, false, rfl, HPL.out, HFD.out, HB.out⟩

set_option maxRecDepth 100000 in
set_option maxHeartbeats 4000000 in
theorem place_any {W : World} {p : Option Addr} {c n : Nat} {es : List EN} {k : Int} (h : NRow W p c es) (hn : es.length = n) (hr : Rises es) (hb : n ≤ 1099511627776) :
    Calls Try.prog 26 #[.slice p n c, .int .i64 k] W fun e w' => ∃ i fd, e = .returned (.tuple #[.int .i64 ((i : Nat) : Int), .bool fd]) ∧ Place es k i ∧ fd = decide (i < n ∧ (es[i]!).key = k) ∧ Below W.heap.size W w' := by
  have HC := hide (search_any (k := k) h hn hr hb)
  clear h hn hr
  go_enter Try.func26, Try.ntmps26
  go_wp2_with fail
  refine HC.out.mono ?_
  rintro _ w1 ⟨i, fd, rfl, h1, h2, b1⟩
  have H1 := hide h1
  have H2 := hide h2
  have HB := hide b1
  clear h1 h2 b1 HC
  go_wp2
  go_ret2
  exact ⟨i, fd, rfl, H1.out, H2.out, HB.out⟩
end Go.Proofs.Ytcabfohmimglpaa
