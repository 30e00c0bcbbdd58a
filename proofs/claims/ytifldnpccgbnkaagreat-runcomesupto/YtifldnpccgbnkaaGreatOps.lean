/-
  A tree of greatest numbers, plainly and as the program has it: set, first. The conditions: lengths.
-/
import Derived.Test.YtifldnpccgbnkaaGreatOpp
namespace Go.Proofs.YtifldnpccgbnkaaGreat.Op
open Go.RowKit

/-- A tree over 2^K leaves: each inner place has the greater one of the two below it. -/
structure Peak (ps : List Int) (H K : Nat) : Prop where
  pow : H = 2 ^ K
  len : ps.length = 2 * H
  heap : ∀ i, 1 ≤ i → i < H → ps.getD i 0 = max (ps.getD (2 * i) 0) (ps.getD (2 * i + 1) 0)
theorem Peak.top {ps : List Int} {H K : Nat} (h : Peak ps H K) : ∀ (e a q : Nat), 1 ≤ a → (a + 1) * 2 ^ e ≤ 2 * H → a * 2 ^ e ≤ q → q < (a + 1) * 2 ^ e → ps.getD q 0 ≤ ps.getD a 0
  | 0, a, q, _, _, h2, h3 => by
    have : q = a := by simp at h2 h3; omega
    rw [this]
    exact Int.le_refl _
  | e + 1, a, q, h1, h0, h2, h3 => by
    have hp : 0 < 2 ^ e := Nat.pos_of_ne_zero (by simp)
    have e1 : a * 2 ^ (e + 1) = 2 * (a * 2 ^ e) := by rw [Nat.pow_succ]; rw [Nat.mul_comm (2 ^ e) 2, ← Nat.mul_assoc, Nat.mul_comm a 2, Nat.mul_assoc]
    have e2 : (a + 1) * 2 ^ (e + 1) = 2 * ((a + 1) * 2 ^ e) := by rw [Nat.pow_succ]; rw [Nat.mul_comm (2 ^ e) 2, ← Nat.mul_assoc, Nat.mul_comm (a + 1) 2, Nat.mul_assoc]
    have e3 : (2 * a) * 2 ^ e = 2 * (a * 2 ^ e) := Nat.mul_assoc _ _ _
    have e4 : (2 * a + 1) * 2 ^ e = 2 * (a * 2 ^ e) + 2 ^ e := by rw [Nat.add_mul, e3, Nat.one_mul]
    have e5 : (2 * a + 1 + 1) * 2 ^ e = 2 * (a * 2 ^ e) + 2 ^ e + 2 ^ e := by rw [Nat.add_mul, e4, Nat.one_mul]
    have e6 : (a + 1) * 2 ^ e = a * 2 ^ e + 2 ^ e := by rw [Nat.add_mul, Nat.one_mul]
    have hal : a + 1 ≤ (a + 1) * 2 ^ e := Nat.le_mul_of_pos_right _ hp
    have haH : a < H := by omega
    have hh := h.heap a h1 haH
    by_cases hq : q < (2 * a + 1) * 2 ^ e
    · have h9 := Peak.top h e (2 * a) q (by omega) (by omega) (by omega) hq
      have h8 := Int.le_max_left (ps.getD (2 * a) 0) (ps.getD (2 * a + 1) 0)
      omega
    · have h9 := Peak.top h e (2 * a + 1) q (by omega) (by omega) (by omega) (by omega)
      have h8 := Int.le_max_right (ps.getD (2 * a) 0) (ps.getD (2 * a + 1) 0)
      omega
theorem Peak.none {ps : List Int} {H K : Nat} (h : Peak ps H K) {t : Int} (ht : ps.getD 1 0 ≤ t) : ∀ j, j < H → ps.getD (H + j) 0 ≤ t := fun j hj => by
  have hp := h.pow
  have := h.top K 1 (H + j) (Nat.le_refl _) (by rw [← hp]; omega) (by rw [Nat.one_mul, ← hp]; omega) (by rw [← hp]; omega)
  omega
/-- Where the search stands: at height e, what is left of there is not greater, and there is something greater. -/
structure At (ps : List Int) (H : Nat) (t : Int) (a e : Nat) : Prop where
  one : 1 ≤ a
  lo : H ≤ a * 2 ^ e
  hi : (a + 1) * 2 ^ e ≤ 2 * H
  left : ∀ q, H ≤ q → q < a * 2 ^ e → ps.getD q 0 ≤ t
  more : t < ps.getD a 0
theorem At.start {ps : List Int} {H K : Nat} (h : Peak ps H K) {t : Int} (ht : t < ps.getD 1 0) : At ps H t 1 K :=
  ⟨Nat.le_refl _, by rw [Nat.one_mul, ← h.pow]; exact Nat.le_refl _, by rw [← h.pow]; omega, fun q h1 h2 => by rw [Nat.one_mul, ← h.pow] at h2; omega, ht⟩
theorem At.down {ps : List Int} {H K : Nat} (h : Peak ps H K) {t : Int} {a e : Nat} (ha : At ps H t a e) (hl : a < H) : ∃ e', e = e' + 1 ∧ (t < ps.getD (2 * a) 0 → At ps H t (2 * a) e') ∧ (ps.getD (2 * a) 0 ≤ t → At ps H t (2 * a + 1) e') := by
  cases e with
  | zero => have := ha.lo; simp at this; omega
  | succ e =>
    have hp : 0 < 2 ^ e := Nat.pos_of_ne_zero (by simp)
    have e1 : a * 2 ^ (e + 1) = 2 * (a * 2 ^ e) := by rw [Nat.pow_succ]; rw [Nat.mul_comm (2 ^ e) 2, ← Nat.mul_assoc, Nat.mul_comm a 2, Nat.mul_assoc]
    have e3 : (2 * a) * 2 ^ e = 2 * (a * 2 ^ e) := Nat.mul_assoc _ _ _
    have e4 : (2 * a + 1) * 2 ^ e = 2 * (a * 2 ^ e) + 2 ^ e := by rw [Nat.add_mul, e3, Nat.one_mul]
    have e5 : (2 * a + 1 + 1) * 2 ^ e = 2 * (a * 2 ^ e) + 2 ^ e + 2 ^ e := by rw [Nat.add_mul, e4, Nat.one_mul]
    have e6 : (a + 1) * 2 ^ (e + 1) = 2 * (a * 2 ^ e) + 2 ^ e + 2 ^ e := by rw [Nat.add_mul, e1, Nat.one_mul, Nat.pow_succ]; omega
    have h1 := ha.lo
    have h2 := ha.hi
    have h3 := ha.one
    have hh := h.heap a h3 hl
    have hm := ha.more
    refine ⟨e, rfl, fun hg => ⟨by omega, by omega, by omega, fun q q1 q2 => ha.left q q1 (by omega), hg⟩, fun hg => ⟨by omega, by omega, ?_, fun q q1 q2 => ?_, ?_⟩⟩
    · rw [e5]; rw [e6] at h2; omega
    · by_cases hq : q < (2 * a) * 2 ^ e
      · exact ha.left q q1 (by omega)
      · have := h.top e (2 * a) q (by omega) (by omega) (by omega) (by rw [e4]; omega)
        omega
    · omega
theorem At.end {ps : List Int} {H : Nat} {t : Int} {a e : Nat} (ha : At ps H t a e) (hl : H ≤ a) : e = 0 := by
  cases e with
  | zero => rfl
  | succ e =>
    have h2 := ha.hi
    have h3 := ha.one
    have hp : 0 < 2 ^ e := Nat.pos_of_ne_zero (by simp)
    have hal : a + 1 ≤ (a + 1) * 2 ^ e := Nat.le_mul_of_pos_right _ hp
    have e7 : (a + 1) * 2 ^ (e + 1) = 2 * ((a + 1) * 2 ^ e) := by rw [Nat.pow_succ]; rw [Nat.mul_comm (2 ^ e) 2, ← Nat.mul_assoc, Nat.mul_comm (a + 1) 2, Nat.mul_assoc]
    omega
end Go.Proofs.YtifldnpccgbnkaaGreat.Op
/-
  first of the tree of greatest numbers. The conditions: lengths.
-/
namespace Go.Proofs.YtifldnpccgbnkaaGreat.Op
open Go.RowKit

theorem _root_.Go.Proofs.YtifldnpccgbnkaaGreat.Row.cellAt {W : World} {p : Option Addr} {n c : Nat} {ps : List Int} (h : Row .i64 W (.slice p n c) ps) (hp : 0 < ps.length) : ∃ b o, p = some ⟨b, o, none⟩ ∧ ps.length = n ∧ n ≤ c ∧ c ≤ 9223372036854775807 ∧ ∀ i, i < n → W.cell? ⟨b, o + i, none⟩ = some (.int .i64 (ps.getD i 0)) := by
  obtain ⟨p', c', e, h1, h2, h3, h4⟩ := h
  simp only [Value.slice.injEq] at e
  obtain ⟨rfl, rfl, rfl⟩ := e
  obtain ⟨b, o, rfl, hc⟩ := h4 hp
  exact ⟨b, o, rfl, rfl, h1, h2, hc⟩
def Found (ps : List Int) (H : Nat) (t : Int) (j : Nat) (fd : Bool) : Prop := (fd = false ∧ j = 0 ∧ ∀ i, i < H → ps.getD (H + i) 0 ≤ t) ∨ (fd = true ∧ j < H ∧ t < ps.getD (H + j) 0 ∧ ∀ i, i < j → ps.getD (H + i) 0 ≤ t)

set_option maxRecDepth 100000 in
set_option maxHeartbeats 4000000 in
theorem first_any {W : World} {p : Option Addr} {n c H K : Nat} {ps : List Int} {t : Int} (hR : Row .i64 W (.slice p n c) ps) (hp : Peak ps H K) (hb : n ≤ 1099511627776) :
    Calls Tryz.prog 99 #[.slice p n c, .int .i64 t] W fun e w' => ∃ j fd, e = .returned (.tuple #[.int .i64 ((j : Nat) : Int), .bool fd]) ∧ Found ps H t j fd ∧ w' = W := by
  have hH : 0 < H := by rw [hp.pow]; exact Nat.pos_of_ne_zero (by simp)
  obtain ⟨b, o, rfl, hn, hnc, hct, hcell⟩ := hR.cellAt (by rw [hp.len]; omega)
  have hn2 : n = 2 * H := by rw [← hn, hp.len]
  have c1 := hcell 1 (by omega)
  have HC := hide hcell
  have HP := hide hp
  have hq : ((n : Nat) : Int).tdiv 2 = (H : Int) := by rw [hn2, Int.natCast_mul]; exact Int.mul_tdiv_cancel_left _ (by decide)
  have hn1 : 1 < n := by omega
  have HN := hide hn2
  have hHn : H < n := by omega
  obtain ⟨x1, hx1⟩ : ∃ x, ps.getD 1 0 = x := ⟨_, rfl⟩
  rw [hx1] at c1
  clear hcell hp hR hn hn2
  by_cases hle : x1 ≤ t
  · have d1 : decide (x1 ≤ t) = true := decide_eq_true hle
    have HF : Hid (Found ps H t 0 false) := hide (.inl ⟨rfl, rfl, HP.out.none (by rw [hx1]; exact hle)⟩)
    clear hx1
    go_enter Tryz.func99, Tryz.ntmps99
    go_wp2
    go_ret2
    exact ⟨0, false, rfl, HF.out, rfl⟩
  · have d1 : decide (x1 ≤ t) = false := decide_eq_false hle
    have HA0 : Hid (At ps H t 1 K) := hide (At.start HP.out (by rw [hx1]; omega))
    clear hx1 hle
    go_enter Tryz.func99, Tryz.ntmps99
    go_wp2_with fail
    go_loopw [7] (fun s wq => ∃ (a e : Nat), s = .int .i64 (a : Int) ∧ a < n ∧ 1 ≤ a ∧ Hid (At ps H t a e) ∧ wq = W) (fun s _ => n - (intOf s).toNat)
    case atStart => exact ⟨1, K, rfl, hn1, Nat.le_refl _, HA0, rfl⟩
    case round =>
      obtain ⟨a, e, rfl, han, ha1, HA, hwq⟩ := hrel
      rename World => wq
      subst hwq
      by_cases hlt : a < H
      · obtain ⟨e', rfl, hgo, hri⟩ := HA.out.down HP.out hlt
        have han2 : 2 * a + 1 < n := by have := HN.out; omega
        have cx := HC.out (2 * a) (by omega)
        obtain ⟨x, hx⟩ : ∃ x, ps.getD (2 * a) 0 = x := ⟨_, rfl⟩
        rw [hx] at cx hgo hri
        have cx2 : wq.cell? ⟨b, o + a * 2, none⟩ = some (.int .i64 x) := by rw [Nat.mul_comm a 2]; exact cx
        have HGO := hide hgo
        have HRI := hide hri
        clear hx hgo hri
        by_cases hxt : x ≤ t
        · have d2 : decide (x ≤ t) = true := decide_eq_true hxt
          have HA2 := hide (HRI.out hxt)
          clear HGO HRI hxt
          go_wp2
          exact ⟨⟨2 * a + 1, e', by first | rfl | go_num | (congr 1; omega), by omega, by omega, HA2, by trivial⟩, by simp [intOf]; omega⟩
        · have d2 : decide (x ≤ t) = false := decide_eq_false hxt
          have HA2 := hide (HGO.out (by omega))
          clear HGO HRI hxt
          go_wp2
          exact ⟨⟨2 * a, e', by first | rfl | go_num | (congr 1; omega), by omega, by omega, HA2, by trivial⟩, by simp [intOf]; omega⟩
      · obtain rfl := HA.out.end (by omega)
        have HF : Hid (Found ps H t (a - H) true) := hide (.inr ⟨rfl, by have := HN.out; omega, by rw [show H + (a - H) = a by omega]; exact HA.out.more, fun i hi => HA.out.left (H + i) (by omega) (by simp; omega)⟩)
        have e9 : ((a - H : Nat) : Int) = (a : Int) - (H : Int) := by omega
        go_wp2
        go_ret2
        exact ⟨a - H, true, by rw [e9]; rfl, HF.out, rfl⟩
end Go.Proofs.YtifldnpccgbnkaaGreat.Op
/-
  set of the tree of greatest numbers. The conditions: lengths.
-/
namespace Go.Proofs.YtifldnpccgbnkaaGreat.Op
open Go.RowKit

theorem getD_set {qs : List Int} {k i : Nat} {v : Int} (hk : k < qs.length) : (qs.set k v).getD i 0 = if k = i then v else qs.getD i 0 := by
  simp only [List.getD_eq_getElem?_getD, List.getElem?_set]
  by_cases h : k = i
  · subst h
    simp [hk]
  · simp [h]
/-- All is right but what stands above a. -/
def Okay (qs : List Int) (H a : Nat) : Prop := ∀ i, 1 ≤ i → i < H → (∀ t, 1 ≤ t → a / 2 ^ t ≠ i) → qs.getD i 0 = max (qs.getD (2 * i) 0) (qs.getD (2 * i + 1) 0)
theorem Okay.start {ps : List Int} {H K pl : Nat} {v : Int} (h : Peak ps H K) (hp : pl < H) : Okay (ps.set (H + pl) v) H (H + pl) := fun i h1 h2 h3 => by
  have hl := h.len
  have h4 := h3 1 (Nat.le_refl _)
  rw [Nat.pow_one] at h4
  rw [getD_set (by omega), getD_set (by omega), getD_set (by omega), if_neg (by omega), if_neg (by omega), if_neg (by omega)]
  exact h.heap i h1 h2
theorem Okay.up {qs : List Int} {H a b : Nat} (h : Okay qs H a) (h1 : 1 < a) (h2 : a < 2 * H) (hl : qs.length = 2 * H) (hb : a / 2 = b) : Okay (qs.set b (max (qs.getD (2 * b) 0) (qs.getD (2 * b + 1) 0))) H b := fun i q1 q2 q3 => by
  rw [getD_set (by omega), getD_set (by omega), getD_set (by omega)]
  by_cases e : b = i
  · subst e
    rw [if_pos rfl, if_neg (by omega), if_neg (by omega)]
  · have q4 := q3 1 (Nat.le_refl _)
    rw [Nat.pow_one] at q4
    rw [if_neg e, if_neg (by omega), if_neg (by omega)]
    refine h i q1 q2 (fun t ht => ?_)
    obtain ⟨s, rfl⟩ : ∃ s, t = s + 1 := ⟨t - 1, by omega⟩
    rw [Nat.pow_succ, Nat.mul_comm, ← Nat.div_div_eq_div_mul, hb]
    by_cases hs : s = 0
    · subst hs
      rw [Nat.pow_zero, Nat.div_one]
      exact e
    · exact q3 s (by omega)
theorem Okay.end {qs : List Int} {H K : Nat} (h : Okay qs H 1) (hp : H = 2 ^ K) (hl : qs.length = 2 * H) : Peak qs H K :=
  ⟨hp, hl, fun i h1 h2 => h i h1 h2 (fun t ht => by
    have : 1 / 2 ^ t = 0 := Nat.div_eq_of_lt (by
      obtain ⟨s, rfl⟩ : ∃ s, t = s + 1 := ⟨t - 1, by omega⟩
      rw [Nat.pow_succ]
      have : 0 < 2 ^ s := Nat.pos_of_ne_zero (by simp)
      omega)
    omega)⟩
def Leaves (qs ps : List Int) (H pl : Nat) (v : Int) : Prop := ∀ j, j < H → qs.getD (H + j) 0 = if j = pl then v else ps.getD (H + j) 0

set_option maxRecDepth 100000 in
set_option maxHeartbeats 4000000 in
theorem set_any {W : World} {base g n c H K pl : Nat} {ps : List Int} {v : Int} (ho : W.ownsRow base 2 1 (.slice (some ⟨g, 0, none⟩) n c) n (ps.map (Value.int .i64))) (hp : Peak ps H K) (hpl : pl < H) (hb : n ≤ 1099511627776) :
    Calls Tryz.prog 80 #[.slice (some ⟨g, 0, none⟩) n c, .int .i64 (pl : Int), .int .i64 v] W fun e w' => ∃ r ps', e = .returned r ∧ w'.ownsRow base 2 1 (.slice (some ⟨g, 0, none⟩) n c) n (ps'.map (Value.int .i64)) ∧ Peak ps' H K ∧ Leaves ps' ps H pl v ∧ Only (· = g) W w' := by
  have hn : ps.length = n := (own_len ho).symm
  have hl := hp.len
  have hn2 : n = 2 * H := by omega
  have hq : ((n : Nat) : Int).tdiv 2 = (H : Int) := by rw [hn2, Int.natCast_mul]; exact Int.mul_tdiv_cancel_left _ (by decide)
  obtain ⟨_, _, ef, hnc, hct⟩ := own_form ho
  simp only [Value.slice.injEq, true_and] at ef
  obtain ⟨rfl, rfl⟩ := ef
  have hcells : ∀ (w : World) (qs : List Int), w.ownsRow base 2 1 (.slice (some ⟨g, 0, none⟩) n c) n (qs.map (Value.int .i64)) → ∀ i, i < n → w.cell? ⟨g, i, none⟩ = some (.int .i64 (qs.getD i 0)) := fun w qs h i hi => by
    have hq2 : qs.length = n := (own_len h).symm
    obtain ⟨b, o, hbo, _, _, _, hc⟩ := (own_row h).cellAt (by omega)
    simp only [Option.some.injEq, Addr.mk.injEq, and_true] at hbo
    obtain ⟨rfl, rfl⟩ := hbo
    have := hc i hi
    rw [Nat.zero_add] at this
    exact this
  have HCE := hide hcells
  have hmem : ∀ (w : World) (qs : List Int) (k : Nat) (x : Int), w.ownsRow base 2 1 (.slice (some ⟨g, 0, none⟩) n c) n (qs.map (Value.int .i64)) → (w.setCell ⟨g, k, none⟩ (.int .i64 x)).ownsRow base 2 1 (.slice (some ⟨g, 0, none⟩) n c) n ((qs.set k x).map (Value.int .i64)) := fun w qs k x h => by
    rw [List.map_set]
    exact (h.stored k _).1
  have HME := hide hmem
  have c0 := hcells _ _ ho (H + pl) (by omega)
  have f0 : W.frozen? ⟨g, H + pl, none⟩ = false := ho.frozenAt _
  have HN := hide hn2
  have HP := hide hp
  have HO1 := hide (hmem _ _ (H + pl) v ho)
  have HK0 := hide (Okay.start (v := v) hp hpl)
  have HL0 : Hid ((ps.set (H + pl) v).length = 2 * H) := hide (by rw [List.length_set]; exact hl)
  have HV0 : Hid (Leaves (ps.set (H + pl) v) ps H pl v) := hide (fun j hj => by
    rw [getD_set (by omega)]
    by_cases e : j = pl
    · subst e; rw [if_pos rfl, if_pos rfl]
    · rw [if_neg (by omega), if_neg e])
  have HY0 : Hid (Only (· = g) W (W.setCell ⟨g, H + pl, none⟩ (.int .i64 v))) := hide (Only.set W g (H + pl) _ rfl)
  have hhp : H + pl < n := by omega
  have ht1 : ((H : Int) + (pl : Int)).toNat = H + pl := by omega
  have ht2 : (H : Int) + (pl : Int) < (n : Int) := by omega
  have ht3 : (0 : Int) ≤ (H : Int) + (pl : Int) := by omega
  clear ho hp hn hl hn2 hcells hmem
  go_enter Tryz.func80, Tryz.ntmps80
  go_wp2_with fail
  go_loopw [6] (fun s wq => ∃ (a : Nat) (qs : List Int), s = .int .i64 (a : Int) ∧ a < n ∧ 1 ≤ a ∧ Hid (wq.ownsRow base 2 1 (.slice (some ⟨g, 0, none⟩) n c) n (qs.map (Value.int .i64))) ∧ Hid (Okay qs H a) ∧ Hid (qs.length = 2 * H) ∧ Hid (Leaves qs ps H pl v) ∧ Hid (Only (· = g) W wq)) (fun s _ => (intOf s).toNat)
  case atStart => exact ⟨H + pl, ps.set (H + pl) v, by first | rfl | go_num, hhp, by omega, HO1, HK0, HL0, HV0, HY0⟩
  case round =>
    obtain ⟨a, qs, rfl, han, ha1, HO, HK, HL, HV, HY⟩ := hrel
    rename World => wq
    clear HO1 HK0 HL0 HV0 HY0 c0 f0
    by_cases hlt : 1 < a
    · obtain ⟨a2, ha2⟩ : ∃ a2, a / 2 = a2 := ⟨_, rfl⟩
      have hq2 : ((a : Nat) : Int).tdiv 2 = (a2 : Int) := by
        rw [← ha2]
        rw [Int.tdiv_eq_ediv_of_nonneg (by omega)]
        omega
      have d1 : decide ((a : Int) > 1) = true := decide_eq_true (by omega)
      have h2a : 2 * a2 + 1 < n := by have := HN.out; omega
      have ha2n : a2 < n := by omega
      have e0 := HCE.out _ _ HO.out (2 * a2) (by omega)
      have e1 := HCE.out _ _ HO.out (2 * a2 + 1) h2a
      have e2 := HCE.out _ _ HO.out a2 ha2n
      have f2 : wq.frozen? ⟨g, a2, none⟩ = false := HO.out.frozenAt _
      have HO2 := hide (HME.out _ _ a2 (max (qs.getD (2 * a2) 0) (qs.getD (2 * a2 + 1) 0)) HO.out)
      have HK2 := hide (HK.out.up hlt (by have := HN.out; omega) HL.out ha2)
      have HL2 : Hid ((qs.set a2 (max (qs.getD (2 * a2) 0) (qs.getD (2 * a2 + 1) 0))).length = 2 * H) := hide (by rw [List.length_set]; exact HL.out)
      have HV2 : Hid (Leaves (qs.set a2 (max (qs.getD (2 * a2) 0) (qs.getD (2 * a2 + 1) 0))) ps H pl v) := hide (fun j hj => by
        have h9 := HL.out
        have h8 := HN.out
        rw [getD_set (by omega), if_neg (by omega)]
        exact HV.out j hj)
      have HY2 : Hid (Only (· = g) W (wq.setCell ⟨g, a2, none⟩ (.int .i64 (max (qs.getD (2 * a2) 0) (qs.getD (2 * a2 + 1) 0))))) := hide (HY.out.trans (Only.set wq g a2 _ rfl))
      obtain ⟨x0, hx0⟩ : ∃ x, qs.getD (2 * a2) 0 = x := ⟨_, rfl⟩
      obtain ⟨x1, hx1⟩ : ∃ x, qs.getD (2 * a2 + 1) 0 = x := ⟨_, rfl⟩
      obtain ⟨x2, hx2⟩ : ∃ x, qs.getD a2 0 = x := ⟨_, rfl⟩
      rw [hx0] at e0
      rw [hx1] at e1
      rw [hx2] at e2
      rw [hx0, hx1] at HO2 HK2 HL2 HV2 HY2
      have ha2p : 1 ≤ a2 := by omega
      have HMX : Hid (max x0 x1 = if x0 < x1 then x1 else x0) := hide (by split <;> omega)
      have ha2l : a2 < a := by omega
      clear hx0 hx1 hx2 HO HK HL HV HY ha2
      go_upto_region 4 with fail
      go_region
      all_goals
        go_wp2
        first
          | exact ⟨⟨a2, _, by first | rfl | go_num, ha2n, ha2p, HO2, HK2, HL2, HV2, HY2⟩, by simp [intOf]; omega⟩
          | exact ⟨⟨a2, _, by first | rfl | go_num, ha2n, ha2p, hide HO2.out, HK2, HL2, HV2, hide HY2.out.drew⟩, by simp [intOf]; omega⟩
          | (rw [HMX.out] at HO2 HK2 HL2 HV2 HY2; exact ⟨⟨a2, _, by first | rfl | go_num, ha2n, ha2p, hide HO2.out, HK2, HL2, HV2, hide HY2.out.drew⟩, by simp [intOf]; omega⟩)
          | (rw [HMX.out] at HO2 HK2 HL2 HV2 HY2; exact ⟨⟨a2, _, by first | rfl | go_num, ha2n, ha2p, HO2, HK2, HL2, HV2, HY2⟩, by simp [intOf]; omega⟩)
    · obtain rfl : a = 1 := by omega
      have HPF := hide (HK.out.end HP.out.pow HL.out)
      go_wp2
      refine bodyPost_end (results_none rfl _ _ _) rfl ?_
      exact ⟨_, qs, rfl, HO.out, HPF.out, HV.out, HY.out⟩
end Go.Proofs.YtifldnpccgbnkaaGreat.Op
