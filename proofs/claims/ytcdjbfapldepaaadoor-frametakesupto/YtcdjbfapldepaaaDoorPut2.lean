/-
  What frame.grow, Put and Make and the reference's Make and Put return: bytes, and the frames of loads behind them; over any world that holds the tables, in which nothing that was there turns. The conditions: the slices read as data; what is made is at most 2^47 bytes.
-/
import Derived.Test.YtcdjbfapldepaaaDoorTak
namespace Go.Proofs.YtcdjbfapldepaaaDoor
open Go.RowKit

theorem heap_row (k : IntKind) {w : World} {g : Nat} (l : List Int) {t : TypeId} {fr : Nat × Nat} (h : w.heap[g]? = some (.cells (l.map (Value.int k)).toArray t fr)) (hl : l.length ≤ 9223372036854775807) : Row k w (.slice (some ⟨g, 0, none⟩) l.length l.length) l := by
  refine ⟨some ⟨g, 0, none⟩, l.length, rfl, Nat.le_refl _, hl, (by intro h; cases h), fun _ => ⟨g, 0, rfl, fun i hi => ?_⟩⟩
  rw [World.cell?, h]
  simp [List.getD, hi]
theorem box_kept {w w' : World} {row : Option Nat} {g : Nat} {o : Obj} (hg : w.grownBy w' row) (h : w.heap[g]? = some o) (hne : some g ≠ row) : w'.heap[g]? = some o := by
  rw [← h]
  exact hg.block g (Array.getElem?_eq_some_iff.1 h).1 hne
/-- A block of another type is not the row's. -/
theorem box_apart {w : World} {base n : Nat} {e : TypeId} {v : Value} {xs : List Value} (h : w.ownsRow base e 1 v n xs) {g : Nat} {cs : Array Value} {t : TypeId} {fr : Nat × Nat} (hk : w.heap[g]? = some (.cells cs t fr)) (hne : t ≠ e) : some g ≠ v.ownBlock := by
  rcases h.2 with ⟨rfl, _⟩ | ⟨g', cap, cur, rfl, _, hg, _⟩
  · simp [Value.ownBlock]
  · simp only [Value.ownBlock, ne_eq, Option.some.injEq]
    rintro rfl
    rw [hg] at hk
    simp at hk
    exact hne hk.2.1.symm
theorem below_box {w w' : World} {g : Nat} {o : Obj} (h : Below w.heap.size w w') (hk : w.heap[g]? = some o) : w'.heap[g]? = some o := by
  rw [h.block g (Array.getElem?_eq_some_iff.1 hk).1]
  exact hk

set_option maxHeartbeats 4000000 in
theorem grow_any {v vx : Value} {x : List Int} {xs : List Value} {m : Nat} {w0 w : World} (hown : w.ownsRow w0.heap.size 5 1 v m xs) (hx : Row .u8 w0 vx x) (hu : U8 x) (ht : Tabs w0) (hb : Below w0.heap.size w0 w) (hl : x.length ≤ 262144) (hbig : m + 12 + x.length ≤ 140737488355328) :
    Calls Tryd.prog 24 #[v, vx] w fun e w' => ∃ v', e = .returned v' ∧ w'.ownsRow w0.heap.size 5 1 v' (m + (12 + x.length)) (xs ++ (frameL x).map (Value.int .u8)) ∧ Below w0.heap.size w0 w' := by
  obtain ⟨i0, hi, hz0, hz1, hz2⟩ := info_parts Tryd.infoU8
  have HX : Hid (Row .u8 w0 vx x) := hx
  have HU : Hid (U8 x) := hu
  have HT : Hid (Tabs w0) := ht
  have HO : Hid (w.ownsRow w0.heap.size 5 1 v m xs) := hown
  obtain ⟨p, cap, rfl, g1, g2, _, _⟩ := hx
  obtain ⟨a0, a1, a2, a3, h4⟩ : ∃ q0 q1 q2 q3, four x.length = [q0, q1, q2, q3] := ⟨_, _, _, _, rfl⟩
  have H4 : Hid (four x.length = [a0, a1, a2, a3]) := h4
  have U4 : Hid (U8 [a0, a1, a2, a3]) := by have := four_u8 x.length; rw [h4] at this; exact this
  have hS := crc_lt U4.out
  generalize hSd : crc [a0, a1, a2, a3] = S at hS
  have HS : Hid (crc [a0, a1, a2, a3] = S) := hSd
  obtain ⟨b0, b1, b2, b3, h5⟩ : ∃ q0 q1 q2 q3, four S = [q0, q1, q2, q3] := ⟨_, _, _, _, rfl⟩
  have H5 : Hid (four S = [b0, b1, b2, b3]) := h5
  have hG := crc_lt hu
  generalize hGd : crc x = G at hG
  have HG : Hid (crc x = G) := hGd
  obtain ⟨c0, c1, c2, c3, h6⟩ : ∃ q0 q1 q2 q3, four G = [q0, q1, q2, q3] := ⟨_, _, _, _, rfl⟩
  have H6 : Hid (four G = [c0, c1, c2, c3]) := h6
  have HF : Hid (frameL x = [a0, a1, a2, a3] ++ ([b0, b1, b2, b3] ++ (x ++ [c0, c1, c2, c3]))) := by
    show _ = _
    unfold frameL
    rw [h4, hSd, h5, hGd, h6]
  have hcv : (x.length : Int) % 4294967296 = (x.length : Int) := by omega
  clear h4 h5 h6 hSd hGd hu ht hown
  go_enter Tryd.func24, Tryd.ntmps24
  go_wp2_with fail
  refine (numberOf_any _ (by omega) H4.out).mono ?_
  rintro e w1 ⟨rfl, hb1⟩
  have B1 : Below w0.heap.size w0 w1 := hb.trans (hb1.mono hb.size)
  have O1 : Hid (w1.ownsRow w0.heap.size 5 1 v m xs) := own_below HO.out hb1
  clear hb1 HO
  go_wp2_with fail
  generalize hW2 : w1.alloc (Obj.cells #[Value.int IntKind.u8 a0, Value.int IntKind.u8 a1, Value.int IntKind.u8 a2, Value.int IntKind.u8 a3] 52) = W2
  obtain ⟨g2, hg2⟩ : ∃ g2, g2 = w1.heap.size := ⟨_, rfl⟩
  have X2 : Hid (W2.heap[g2]? = some (.cells ([a0, a1, a2, a3].map (Value.int .u8)).toArray 52)) := by show _ = _; rw [← hW2, hg2]; exact heap_alloc_new _ _
  have A2 : Below w1.heap.size w1 W2 := by rw [← hW2]; exact alloc_below _ _
  have B2 : Below w0.heap.size w0 W2 := B1.trans (A2.mono B1.size)
  have O2 : Hid (W2.ownsRow w0.heap.size 5 1 v m xs) := own_below O1.out A2
  rw [← hg2]
  clear hW2 A2 O1 B1 hg2 hb
  refine (sum_any (heap_row .u8 [a0, a1, a2, a3] X2.out (by simp)) U4.out (HT.out.below B2)).mono ?_
  rintro e w3 ⟨rfl, hb3⟩
  rw [HS.out]
  have B3 : Below w0.heap.size w0 w3 := B2.trans (hb3.mono B2.size)
  have O3 : Hid (w3.ownsRow w0.heap.size 5 1 v m xs) := own_below O2.out hb3
  have X3 : Hid (w3.heap[g2]? = some (.cells ([a0, a1, a2, a3].map (Value.int .u8)).toArray 52)) := below_box hb3 X2.out
  clear hb3 O2 X2 B2
  go_wp2_with fail
  refine (numberOf_any _ hS H5.out).mono ?_
  rintro e w4 ⟨rfl, hb4⟩
  have B4 : Below w0.heap.size w0 w4 := B3.trans (hb4.mono B3.size)
  have O4 : Hid (w4.ownsRow w0.heap.size 5 1 v m xs) := own_below O3.out hb4
  have X4 : Hid (w4.heap[g2]? = some (.cells ([a0, a1, a2, a3].map (Value.int .u8)).toArray 52)) := below_box hb4 X3.out
  clear hb4 O3 X3 B3
  go_wp2_with fail
  refine (sum_any (HX.out.below B4) HU.out (HT.out.below B4)).mono ?_
  rintro e w5 ⟨rfl, hb5⟩
  rw [HG.out]
  have B5 : Below w0.heap.size w0 w5 := B4.trans (hb5.mono B4.size)
  have O5 : Hid (w5.ownsRow w0.heap.size 5 1 v m xs) := own_below O4.out hb5
  have X5 : Hid (w5.heap[g2]? = some (.cells ([a0, a1, a2, a3].map (Value.int .u8)).toArray 52)) := below_box hb5 X4.out
  clear hb5 O4 X4 B4
  go_wp2_with fail
  refine (numberOf_any _ hG H6.out).mono ?_
  rintro e w6 ⟨rfl, hb6⟩
  have B6 : Below w0.heap.size w0 w6 := B5.trans (hb6.mono B5.size)
  have O6 : Hid (w6.ownsRow w0.heap.size 5 1 v m xs) := own_below O5.out hb6
  have X6 : Hid (w6.heap[g2]? = some (.cells ([a0, a1, a2, a3].map (Value.int .u8)).toArray 52)) := below_box hb6 X5.out
  clear hb6 O5 X5 B5
  obtain ⟨W7, hW7⟩ : ∃ W7, W7 = (w6.alloc (Obj.cells #[Value.int IntKind.u8 b0, Value.int IntKind.u8 b1, Value.int IntKind.u8 b2, Value.int IntKind.u8 b3] 52)).alloc (Obj.cells #[Value.int IntKind.u8 c0, Value.int IntKind.u8 c1, Value.int IntKind.u8 c2, Value.int IntKind.u8 c3] 52) := ⟨_, rfl⟩
  have A7 : Below w6.heap.size w6 W7 := by rw [hW7]; exact ((alloc_below _ _).alloc (by simp) _)
  have Xb : Hid (W7.heap[w6.heap.size]? = some (.cells ([b0, b1, b2, b3].map (Value.int .u8)).toArray 52)) := by
    show _ = _
    rw [hW7, heap_alloc_old _ _ (by simp), heap_alloc_new]
    rfl
  have Xc : Hid (W7.heap[w6.heap.size + 1]? = some (.cells ([c0, c1, c2, c3].map (Value.int .u8)).toArray 52)) := by
    show _ = _
    rw [hW7, heap_alloc2_new]
    rfl
  have B7 : Below w0.heap.size w0 W7 := B6.trans (A7.mono B6.size)
  have O7 : Hid (W7.ownsRow w0.heap.size 5 1 v m xs) := own_below O6.out A7
  have X7 : Hid (W7.heap[g2]? = some (.cells ([a0, a1, a2, a3].map (Value.int .u8)).toArray 52)) := below_box A7 X6.out
  have HW7 : Hid (W7 = (w6.alloc (Obj.cells #[Value.int IntKind.u8 b0, Value.int IntKind.u8 b1, Value.int IntKind.u8 b2, Value.int IntKind.u8 b3] 52)).alloc (Obj.cells #[Value.int IntKind.u8 c0, Value.int IntKind.u8 c1, Value.int IntKind.u8 c2, Value.int IntKind.u8 c3] 52)) := hW7
  generalize hgb : w6.heap.size = gb at *
  clear hW7 A7 B6 O6 X6
  go_wp2_with (at_builtin; rw [← HW7.out]; refine append_row _ rfl _ _ 22 rfl w0.heap.size 5 i0 .u8 1 Tryd.underlying22 hi hz0 hz1 hz2 _ _ _ rfl O7.out _ [a0, a1, a2, a3] rfl (heap_row .u8 [a0, a1, a2, a3] X7.out (by simp)) (by first | omega | (simp; omega)) (by first | omega | (simp; omega)) B7.size ?_)
  intro v8 w8 hown8 hg8
  have O8 : Hid (w8.ownsRow w0.heap.size 5 1 v8 (m + 4) (xs ++ [a0, a1, a2, a3].map (Value.int .u8))) := by show World.ownsRow _ _ _ _ _ _ _; simpa using hown8
  have B8 : Below w0.heap.size w0 w8 := B7.grown hg8 B7.size (fun g hg => (O7.out.lt g hg).1)
  have Xb8 : Hid (w8.heap[gb]? = some (.cells ([b0, b1, b2, b3].map (Value.int .u8)).toArray 52)) := box_kept hg8 Xb.out (box_apart O7.out Xb.out (by decide))
  have Xc8 : Hid (w8.heap[gb + 1]? = some (.cells ([c0, c1, c2, c3].map (Value.int .u8)).toArray 52)) := box_kept hg8 Xc.out (box_apart O7.out Xc.out (by decide))
  clear hown8 hg8 O7 B7 X7 Xb Xc HW7 hgb
  go_wp2_with (at_builtin; refine append_row _ rfl _ _ 22 rfl w0.heap.size 5 i0 .u8 1 Tryd.underlying22 hi hz0 hz1 hz2 _ _ _ rfl O8.out _ [b0, b1, b2, b3] rfl (heap_row .u8 [b0, b1, b2, b3] Xb8.out (by simp)) (by first | omega | (simp; omega)) (by first | omega | (simp; omega)) B8.size ?_)
  intro v9 w9 hown9 hg9
  have O9 : Hid (w9.ownsRow w0.heap.size 5 1 v9 (m + 4 + 4) (xs ++ [a0, a1, a2, a3].map (Value.int .u8) ++ [b0, b1, b2, b3].map (Value.int .u8))) := by show World.ownsRow _ _ _ _ _ _ _; simpa using hown9
  have B9 : Below w0.heap.size w0 w9 := B8.grown hg9 B8.size (fun g hg => (O8.out.lt g hg).1)
  have Xc9 : Hid (w9.heap[gb + 1]? = some (.cells ([c0, c1, c2, c3].map (Value.int .u8)).toArray 52)) := box_kept hg9 Xc8.out (box_apart O8.out Xc8.out (by decide))
  clear hown9 hg9 O8 B8 Xb8 Xc8
  go_wp2_with (at_builtin; refine append_row _ rfl _ _ 22 rfl w0.heap.size 5 i0 .u8 1 Tryd.underlying22 hi hz0 hz1 hz2 _ _ _ rfl O9.out _ x rfl (HX.out.below B9) (by first | omega | (simp; omega)) (by first | omega | (simp; omega)) B9.size ?_)
  intro v10 w10 hown10 hg10
  have O10 : Hid (w10.ownsRow w0.heap.size 5 1 v10 (m + 4 + 4 + x.length) (xs ++ [a0, a1, a2, a3].map (Value.int .u8) ++ [b0, b1, b2, b3].map (Value.int .u8) ++ x.map (Value.int .u8))) := by show World.ownsRow _ _ _ _ _ _ _; simpa using hown10
  have B10 : Below w0.heap.size w0 w10 := B9.grown hg10 B9.size (fun g hg => (O9.out.lt g hg).1)
  have Xc10 : Hid (w10.heap[gb + 1]? = some (.cells ([c0, c1, c2, c3].map (Value.int .u8)).toArray 52)) := box_kept hg10 Xc9.out (box_apart O9.out Xc9.out (by decide))
  clear hown10 hg10 O9 B9 Xc9
  go_wp2_with (at_builtin; refine append_row _ rfl _ _ 22 rfl w0.heap.size 5 i0 .u8 1 Tryd.underlying22 hi hz0 hz1 hz2 _ _ _ rfl O10.out _ [c0, c1, c2, c3] rfl (heap_row .u8 [c0, c1, c2, c3] Xc10.out (by simp)) (by first | omega | (simp; omega)) (by first | omega | (simp; omega)) B10.size ?_)
  intro v11 w11 hown11 hg11
  have O11 : Hid (w11.ownsRow w0.heap.size 5 1 v11 (m + (12 + x.length)) (xs ++ (frameL x).map (Value.int .u8))) := by
    show World.ownsRow _ _ _ _ _ _ _
    rw [HF.out, show m + (12 + x.length) = m + 4 + 4 + x.length + 4 by omega]
    simpa using hown11
  have B11 : Below w0.heap.size w0 w11 := B10.grown hg11 B10.size (fun g hg => (O10.out.lt g hg).1)
  clear hown11 hg11 O10 B10 Xc10
  go_wp2
  go_ret
  exact ⟨v11, rfl, O11.out, B11⟩

/- A SLICE OF BYTE STRINGS, AS IT LIES IN MEMORY. -/
def Rows2 (w : World) (v : Value) (xs : List (List Int)) : Prop :=
  ∃ p cap, v = .slice p xs.length cap ∧ xs.length ≤ cap ∧ cap ≤ 9223372036854775807 ∧ (p = none → cap = 0) ∧
    (0 < xs.length → ∃ b o, p = some ⟨b, o, none⟩ ∧ ∀ i, i < xs.length → ∃ u, w.cell? ⟨b, o + i, none⟩ = some u ∧ Row .u8 w u (xs.getD i []))

theorem Rows2.below {w w' : World} {v : Value} {xs : List (List Int)} (h : Rows2 w v xs) (hb : Below w.heap.size w w') : Rows2 w' v xs := by
  obtain ⟨p, cap, rfl, h1, h2, h3, h4⟩ := h
  refine ⟨p, cap, rfl, h1, h2, h3, fun hp => ?_⟩
  obtain ⟨b, o, rfl, hc⟩ := h4 hp
  refine ⟨b, o, rfl, fun i hi => ?_⟩
  obtain ⟨u, hu, hr⟩ := hc i hi
  exact ⟨u, cell_later hb hu, hr.below hb⟩
theorem Rows2.nil (w : World) : Rows2 w (.slice none 0 0) [] := ⟨none, 0, rfl, Nat.le_refl _, by decide, fun _ => rfl, fun h => absurd h (by simp)⟩
theorem Rows2.take {w : World} {p : Option Addr} {cap : Nat} {xs : List (List Int)} (h : Rows2 w (.slice p xs.length cap) xs) {j : Nat} (hj : j ≤ xs.length) : Rows2 w (.slice p j cap) (xs.take j) := by
  obtain ⟨p', cap', he, h1, h2, h3, h4⟩ := h
  simp only [Value.slice.injEq, true_and] at he
  obtain ⟨rfl, rfl⟩ := he
  have e : (xs.take j).length = j := by rw [List.length_take]; omega
  refine ⟨p, cap, by rw [e], by omega, h2, h3, fun hp => ?_⟩
  rw [e] at hp
  obtain ⟨b, o, rfl, hc⟩ := h4 (by omega)
  refine ⟨b, o, rfl, fun i hi => ?_⟩
  rw [e] at hi
  obtain ⟨u, hu, hr⟩ := hc i (by omega)
  refine ⟨u, hu, ?_⟩
  have : (xs.take j).getD i [] = xs.getD i [] := by simp [List.getD, hi]
  rw [this]
  exact hr

def fits (xs : List (List Int)) : Bool := xs.all fun x => decide (x.length ≤ 262144)
def putB (b : List Int) (xs : List (List Int)) : List Int := if fits xs then b ++ framesL xs else []
def putE (xs : List (List Int)) : Int := if fits xs then 0 else 3

theorem getD_mem {xs : List (List Int)} {k : Nat} (h : k < xs.length) : xs.getD k [] ∈ xs := by simp [List.getD, List.getElem?_eq_getElem h]
theorem take_snoc {xs : List (List Int)} {k : Nat} (h : k < xs.length) : xs.take (k + 1) = xs.take k ++ [xs.getD k []] := by
  rw [List.take_add_one, List.getElem?_eq_getElem h]
  simp [List.getD, List.getElem?_eq_getElem h]
theorem fits_of {xs : List (List Int)} (h : ∀ i, i < xs.length → (xs.getD i []).length ≤ 262144) : fits xs = true := by
  unfold fits
  rw [List.all_eq_true]
  intro x hx
  obtain ⟨i, hi, rfl⟩ := List.getElem_of_mem hx
  have := h i hi
  simp [List.getD, List.getElem?_eq_getElem hi] at this
  simpa using this
theorem fits_not {xs : List (List Int)} {k : Nat} (hk : k < xs.length) (h : ¬ (xs.getD k []).length ≤ 262144) : fits xs = false := by
  unfold fits
  rw [List.all_eq_false]
  exact ⟨_, getD_mem hk, by simpa using h⟩
theorem flen_take_le (xs : List (List Int)) (k : Nat) : flen (xs.take k) ≤ flen xs := by
  conv => rhs; rw [← List.take_append_drop k xs]
  rw [flen_append]
  omega

set_option maxHeartbeats 4000000 in
theorem put_any {vb vl : Value} {b : List Int} {xs : List (List Int)} {w : World} (hb : Row .u8 w vb b) (hl : Rows2 w vl xs) (hu : ∀ x ∈ xs, U8 x) (ht : Tabs w) (hbig : b.length + flen xs ≤ 140737488355328) :
    Calls Tryd.prog 11 #[vb, vl] w fun e w' => ∃ v', e = .returned (.tuple #[v', .int .i64 (putE xs)]) ∧ w'.ownsRow w.heap.size 5 1 v' (putB b xs).length ((putB b xs).map (Value.int .u8)) ∧ Below w.heap.size w w' := by
  obtain ⟨i0, hi, hz0, hz1, hz2⟩ := info_parts Tryd.infoU8
  have HB : Hid (Row .u8 w vb b) := hb
  have HT : Hid (Tabs w) := ht
  have HU : Hid (∀ x ∈ xs, U8 x) := hu
  have hcount := loads_count xs
  obtain ⟨pb, capb, rfl, gb1, gb2, _, _⟩ := hb
  obtain ⟨p, cap, rfl, g1, g2, _, g4⟩ := hl
  have HL : Hid (0 < xs.length → ∃ b o, p = some ⟨b, o, none⟩ ∧ ∀ i, i < xs.length → ∃ u, w.cell? ⟨b, o + i, none⟩ = some u ∧ Row .u8 w u (xs.getD i [])) := g4
  clear g4 hu ht
  go_enter Tryd.func11, Tryd.ntmps11
  go_wp2
  go_loopw [6, 16] (fun z i wr => ∃ k : Nat, k ≤ xs.length ∧ i = .int .i64 (k : Int) ∧ z = .int .i64 ((b.length + flen (xs.take k) : Nat) : Int) ∧ (∀ j, j < k → (xs.getD j []).length ≤ 262144) ∧ wr = w) (fun _ i _ => xs.length - (intOf i).toNat)
  case atStart => exact ⟨0, Nat.zero_le _, rfl, by simp [flen_nil], by omega, rfl⟩
  case round =>
    obtain ⟨k, hk, rfl, rfl, hfit, hww⟩ := hrel
    replace hww := hww.symm
    subst hww
    have hft := flen_take_le xs k
    generalize hz : b.length + flen (xs.take k) = z at *
    by_cases hlt : k < xs.length
    · obtain ⟨bb, o, rfl, hc⟩ := HL.out (by omega)
      obtain ⟨u, hcu, hru⟩ := hc k hlt
      obtain ⟨x, hx⟩ : ∃ x, x = xs.getD k [] := ⟨_, rfl⟩
      rw [← hx] at hru
      obtain ⟨pu, cu, rfl, q1, q2, _, _⟩ := hru
      have hz' : flen (xs.take (k + 1)) = flen (xs.take k) + (12 + x.length) := by rw [take_snoc hlt, flen_snoc, hx]
      have hft' := flen_take_le xs (k + 1)
      have HXX : Hid (x = xs.getD k []) := hx
      have HFI : Hid (∀ j, j < k → (xs.getD j []).length ≤ 262144) := hfit
      clear hc hx hfit HL
      by_cases hlong : x.length ≤ 262144
      · have hl1 : decide ((262144 : Int) < (x.length : Int)) = false := decide_eq_false (by omega)
        have hlast : Hid (∀ j, j < k + 1 → (xs.getD j []).length ≤ 262144) := fun j hj => by
          by_cases hjk : j < k
          · exact HFI.out j hjk
          · obtain rfl : j = k := by omega
            rw [← HXX.out]
            exact hlong
        have hzz : Hid (z + (12 + x.length) = b.length + flen (xs.take (k + 1))) := by show _ = _; omega
        have hzb : z + (12 + x.length) ≤ 140737488355328 := by omega
        clear HFI HXX hft hft' hz
        go_wp2
        go_roundw
        case rel => exact ⟨k + 1, by omega, by go_num, by rw [← hzz.out]; exact congrArg (Value.int .i64) (by omega), hlast.out, trivial⟩
        case measure => simp [intOf]; omega
      · have hl1 : decide ((262144 : Int) < (x.length : Int)) = true := decide_eq_true (by omega)
        have HN : Hid (fits xs = false) := fits_not hlt (by rw [← HXX.out]; exact hlong)
        clear HFI HXX hft hft' hz hz'
        go_wp2
        go_ret2
        refine ⟨_, by unfold putE; rw [HN.out]; rfl, ?_, Below.refl _ _⟩
        unfold putB
        rw [HN.out]
        exact World.ownsRow_nil _ _ _ _
    · obtain rfl : k = xs.length := by omega
      rw [List.take_length] at hz
      have HF : Hid (fits xs = true) := fits_of hfit
      clear hfit
      go_wp2_with (at_make; refine wpList_make_own _ rfl _ _ 22 rfl w.heap.size 5 i0 (.int .u8 0) 1 Tryd.underlying22 hi hz0 hz1 .i64 .i64 _ z rfl rfl ?_ ?_ ?_ ?_ ?_)
      · omega
      · rw [hz2]; omega
      · unfold maxLen; omega
      · omega
      intro w1 hown1 hg1
      have B1 : Below w.heap.size w w1 := (Below.refl _ w).grown hg1 (Nat.le_refl _) (by simp)
      have O1 : Hid (w1.ownsRow w.heap.size 5 1 (Value.slice (some { block := w.heap.size, off := 0 }) 0 z) 0 []) := hown1
      have hbs : b.length ≤ 140737488355328 := by omega
      clear hown1 hg1 hft hk hlt
      go_wp2_with (at_builtin; refine append_row _ rfl _ _ 22 rfl w.heap.size 5 i0 .u8 1 Tryd.underlying22 hi hz0 hz1 hz2 _ _ _ rfl O1.out _ b rfl (HB.out.below B1) (by omega) (by omega) B1.size ?_)
      intro v2 w2 hown2 hg2
      have B2 : Below w.heap.size w w2 := B1.grown hg2 B1.size (fun g hg => (O1.out.lt g hg).1)
      have O2 : Hid (w2.ownsRow w.heap.size 5 1 v2 (b.length + flen (xs.take 0)) ((b ++ framesL (xs.take 0)).map (Value.int .u8))) := by
        show World.ownsRow _ _ _ _ _ _ _
        simpa [flen_nil, framesL_nil] using hown2
      clear hown2 hg2 O1 B1
      go_wp2
      go_loopw [9, 35] (fun out i wq => ∃ k : Nat, k ≤ xs.length ∧ i = .int .i64 (k : Int) ∧ wq.ownsRow w.heap.size 5 1 out (b.length + flen (xs.take k)) ((b ++ framesL (xs.take k)).map (Value.int .u8)) ∧ Below w.heap.size w wq) (fun _ i _ => xs.length - (intOf i).toNat)
      case atStart => exact ⟨0, Nat.zero_le _, rfl, O2.out, B2⟩
      case round =>
        obtain ⟨k, hk, rfl, hownk, Bk⟩ := hrel
        clear O2 B2
        by_cases hlt : k < xs.length
        · obtain ⟨bb, o, rfl, hc⟩ := HL.out (by omega)
          obtain ⟨u, hcu, hru⟩ := hc k hlt
          have hcu' := cell_later Bk hcu
          obtain ⟨x, hx⟩ : ∃ x, x = xs.getD k [] := ⟨_, rfl⟩
          rw [← hx] at hru
          have HR : Hid (Row .u8 w u x) := hru
          have HX : Hid (U8 x) := by rw [hx]; exact HU.out _ (getD_mem hlt)
          have hle : x.length ≤ 262144 := by
            have := HF.out
            unfold fits at this
            rw [List.all_eq_true] at this
            have := this _ (getD_mem hlt)
            rw [hx]
            simpa using this
          have hz' : flen (xs.take (k + 1)) = flen (xs.take k) + (12 + x.length) := by rw [take_snoc hlt, flen_snoc, hx]
          have hft' := flen_take_le xs (k + 1)
          have HS : Hid (framesL (xs.take (k + 1)) = framesL (xs.take k) ++ frameL x) := by show _ = _; rw [take_snoc hlt, framesL_snoc, hx]
          have HO : Hid (wr.ownsRow w.heap.size 5 1 u9 (b.length + flen (xs.take k)) ((b ++ framesL (xs.take k)).map (Value.int .u8))) := hownk
          clear hc hx hru hcu hownk
          go_wp2_with fail
          refine (grow_any HO.out HR.out HX.out HT.out Bk hle (by omega)).mono ?_
          rintro e w3 ⟨v3, rfl, hown3, Bk3⟩
          have HO3 : Hid (w3.ownsRow w.heap.size 5 1 v3 (b.length + flen (xs.take (k + 1))) ((b ++ framesL (xs.take (k + 1))).map (Value.int .u8))) := by
            show World.ownsRow _ _ _ _ _ _ _
            rw [HS.out, hz', ← Nat.add_assoc]
            simpa using hown3
          clear hown3 HO HR HX HS hcu' Bk hz' hft'
          go_wp2
          go_roundw
          case rel => exact ⟨k + 1, by omega, by go_num, HO3.out, Bk3⟩
          case measure => simp [intOf]; omega
        · obtain rfl : k = xs.length := by omega
          rw [List.take_length] at hownk
          have HO : Hid (wr.ownsRow w.heap.size 5 1 u9 (b.length + flen xs) ((b ++ framesL xs).map (Value.int .u8))) := hownk
          clear hownk
          go_wp2
          go_ret2
          refine ⟨u9, by unfold putE; rw [HF.out]; rfl, ?_, Bk⟩
          unfold putB
          rw [HF.out]
          have := HO.out
          unfold flen at this
          simpa using this

end Go.Proofs.YtcdjbfapldepaaaDoor
