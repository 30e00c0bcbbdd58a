/-
  What the statements' function 'asks' does: it asks an unpacker and the reference's, which hold the same bytes and the same error, the same, and returns true; then they hold the same bytes and the same error again; nothing else that was there turns. The condition: their bytes read as bytes.
-/
import Derived.Test.YtpnoijmdhlkjlaaRup
import Derived.Deep.RegionHeld3
import Derived.Deep.DrawnRows
namespace Go.Proofs.Ytpnoijmdhlkjlaa
open Go.RowKit
attribute [local go_sem ↓] Go.wp_at_zero Go.wp_at_succ

theorem reads_u8 {l : List Int} {e least most : Int} (h : U8 l) : U8 (reads l e least most).2.1 := by
  unfold reads
  split
  · exact h
  · split
    · intro x hx; simp at hx
    · split
      · intro x hx; simp at hx
      · exact h.drop _
theorem readsStr_u8 {l : List Int} {e n : Int} (h : U8 l) : U8 (readsStr l e n).1 := by
  unfold readsStr
  split
  · intro x hx; simp at hx
  · split
    · intro x hx; simp at hx
    · exact (reads_u8 h).take _
theorem readsStr_len {l : List Int} {e n : Int} : (readsStr l e n).2.1.length ≤ l.length := by
  have := reads_len (l := l) (e := e) (least := 0) (most := max n 0)
  unfold readsStr
  split
  · exact this
  · split
    · simp
    · simp only [List.length_drop]; omega
theorem own_not {w : World} {base n b : Nat} {e : TypeId} {v : Value} {xs : List Value} (h : w.ownsRow base e 1 v n xs) (hb : b < base) : v.ownBlock = none ∨ v.ownBlock ≠ some b := by
  right
  intro hk
  have := (h.lt _ hk).1
  omega

set_option maxHeartbeats 2000000 in
theorem asks0 {w : World} {B bu bw : Nat} {vu vw : Value} {l : List Int} {e least most n er : Int} (hB1 : B ≤ bu) (hB2 : B ≤ bw) (hBw : B ≤ w.heap.size) (hne : bu ≠ bw)
    (hu : UnpX bw w bu vu l e) (hw : RUnp bu w bw vw l e) :
    Calls Try.prog 25 #[.pointer (some ⟨bu, 0, none⟩), .pointer (some ⟨bw, 0, none⟩), .agg #[.int .i64 0, .int .i64 least, .int .i64 most, .int .i64 n, .int .i64 er]] w fun r w' =>
      r = .returned (.bool true) ∧ Below B w w' ∧ ∃ vu' vw', UnpX bw w' bu vu' (reads l e least most).2.1 (reads l e least most).2.2 ∧ RUnp bu w' bw vw' (reads l e least most).2.1 (reads l e least most).2.2 := by
  have HU : Hid (UnpX bw w bu vu l e) := hu
  have HW : Hid (RUnp bu w bw vw l e) := hw
  have zu : bu < w.heap.size := (Array.getElem?_eq_some_iff.1 hu.block).1
  have zw : bw < w.heap.size := (Array.getElem?_eq_some_iff.1 hw.block).1
  clear hu hw
  go_enter Try.func25, Try.ntmps25
  go_wp2_with fail
  generalize hW0 : w.alloc (Obj.cells #[Value.int IntKind.i64 0, Value.int IntKind.i64 least, Value.int IntKind.i64 most, Value.int IntKind.i64 n, Value.int IntKind.i64 er] 47) = W0
  have HU0 : Hid (UnpX bw W0 bu vu l e) := by rw [← hW0]; exact HU.out.below (alloc_below _ _)
  have HW0 : Hid (RUnp bu W0 bw vw l e) := by rw [← hW0]; exact HW.out.below (alloc_below _ _)
  have B0 : Hid (Below B w W0) := by rw [← hW0]; exact (alloc_below w _).mono hBw
  have Z0 : Hid (B ≤ W0.heap.size) := by rw [← hW0]; show _ ≤ _; simp; omega
  have s1 : W0.cell? ⟨w.heap.size, 1, none⟩ = some (.int .i64 least) := by rw [← hW0]; simp
  have s2 : W0.cell? ⟨w.heap.size, 2, none⟩ = some (.int .i64 most) := by rw [← hW0]; simp
  have n1 : (some w.heap.size) ≠ (some bu) := by simp; omega
  have n2 : (some w.heap.size) ≠ (some bw) := by simp; omega
  clear hW0 HU HW
  go_region_held3 (fun w' => w'.cell? ⟨w.heap.size, 1, none⟩ = some (.int .i64 least) ∧ w'.cell? ⟨w.heap.size, 2, none⟩ = some (.int .i64 most)) (go_keep)
    (first
      | (go_at_call 30; refine (uint_any (HU0.out.below ((Below.refl _ _).drew))).mono ?_; rintro r w1 ⟨rfl, hg1, vu1, hu1⟩; have t1 := hg1.cell (a := ⟨w.heap.size, 1, none⟩) s1 n1; have t2 := hg1.cell (a := ⟨w.heap.size, 2, none⟩) s2 n1)
      | (go_at_call 42; refine (ruint_any ((HW0.out.below ((Below.refl _ _).drew)).kept hg1 (Ne.symm hne))).mono ?_; rintro r w2 ⟨rfl, hg2, vw2, hw2⟩; have t3 := hg2.cell (a := ⟨w.heap.size, 1, none⟩) t1 n2; have t4 := hg2.cell (a := ⟨w.heap.size, 2, none⟩) t2 n2))
  have HU1 : Hid (UnpX bw w2 bu vu1 (reads l e least most).2.1 (reads l e least most).2.2) := hu1.kept hg2 hne
  have HW2 : Hid (RUnp bu w2 bw vw2 (reads l e least most).2.1 (reads l e least most).2.2) := hw2
  have B2 : Below B w w2 := (B0.out.drew.grown hg1 Z0.out (fun k hk => by simp at hk; omega)).grown hg2 (Nat.le_trans Z0.out hg1.size) (fun k hk => by simp at hk; omega)
  clear hu1 hw2 hg1 hg2 t1 t2 t3 t4 s1 s2
  go_wp2
  go_ret
  exact ⟨rfl, B2, vu1, vw2, HU1.out, HW2.out⟩

set_option maxHeartbeats 4000000 in
theorem asks1 {w : World} {B bu bw : Nat} {vu vw : Value} {l : List Int} {e least most n er : Int} (hB1 : B ≤ bu) (hB2 : B ≤ bw) (hBw : B ≤ w.heap.size) (hne : bu ≠ bw)
    (hu : UnpX bw w bu vu l e) (hw : RUnp bu w bw vw l e) (hbig : l.length ≤ 140737488355328) :
    Calls Try.prog 25 #[.pointer (some ⟨bu, 0, none⟩), .pointer (some ⟨bw, 0, none⟩), .agg #[.int .i64 1, .int .i64 least, .int .i64 most, .int .i64 n, .int .i64 er]] w fun r w' =>
      r = .returned (.bool true) ∧ Below B w w' ∧ ∃ vu' vw', UnpX bw w' bu vu' (readsStr l e n).2.1 (readsStr l e n).2.2 ∧ RUnp bu w' bw vw' (readsStr l e n).2.1 (readsStr l e n).2.2 := by
  have HU : Hid (UnpX bw w bu vu l e) := hu
  have HW : Hid (RUnp bu w bw vw l e) := hw
  have zu : bu < w.heap.size := (Array.getElem?_eq_some_iff.1 hu.block).1
  have zw : bw < w.heap.size := (Array.getElem?_eq_some_iff.1 hw.block).1
  have HX : Hid (U8 (readsStr l e n).1) := readsStr_u8 hu.u8
  clear hu hw
  go_enter Try.func25, Try.ntmps25
  go_wp2_with fail
  generalize hW0 : w.alloc (Obj.cells #[Value.int IntKind.i64 1, Value.int IntKind.i64 least, Value.int IntKind.i64 most, Value.int IntKind.i64 n, Value.int IntKind.i64 er] 47) = W0
  have HU0 : Hid (UnpX bw W0 bu vu l e) := by rw [← hW0]; exact HU.out.below (alloc_below _ _)
  have HW0 : Hid (RUnp bu W0 bw vw l e) := by rw [← hW0]; exact HW.out.below (alloc_below _ _)
  have B0 : Hid (Below B w W0) := by rw [← hW0]; exact (alloc_below w _).mono hBw
  have Z0 : Hid (B ≤ W0.heap.size) := by rw [← hW0]; show _ ≤ _; simp; omega
  have s1 : W0.cell? ⟨w.heap.size, 3, none⟩ = some (.int .i64 n) := by rw [← hW0]; simp
  have n1 : (some w.heap.size) ≠ (some bu) := by simp; omega
  have n2 : (some w.heap.size) ≠ (some bw) := by simp; omega
  have Y0 : Hid (bu < W0.heap.size ∧ bw < W0.heap.size) := by rw [← hW0]; show _ ∧ _; simp; omega
  clear hW0 HU HW
  go_region_held3 (fun w' => w'.cell? ⟨w.heap.size, 3, none⟩ = some (.int .i64 n)) (go_keep)
    (first
      | (go_at_call 31; refine (ustr_any (HU0.out.below ((Below.refl _ _).drew)) hbig).mono ?_; rintro r w1 ⟨v1, rfl, hg1, hown1, vu1, hu1⟩; have t1 := hg1.cell (a := ⟨w.heap.size, 3, none⟩) s1 n1)
      | (go_at_call 43; refine (rustr_any ((HW0.out.below ((Below.refl _ _).drew)).kept hg1 (Ne.symm hne)) hbig).mono ?_; rintro r w2 ⟨v2, rfl, hg2, hown2, vw2, hw2⟩; have t3 := hg2.cell (a := ⟨w.heap.size, 3, none⟩) t1 n2)
      | (go_at_call 12; refine (equal_any (l := (readsStr l e n).1) (m := (readsStr l e n).1) ((own_row hown1).kept hg2 (own_not hown1 Y0.out.2)) (own_row hown2) HX.out HX.out).mono ?_; rintro r w3 ⟨rfl, hw3⟩; obtain rfl : w2 = w3 := hw3.symm))
  have HU1 : Hid (UnpX bw w2 bu vu1 (readsStr l e n).2.1 (readsStr l e n).2.2) := hu1.kept hg2 hne
  have HW2 : Hid (RUnp bu w2 bw vw2 (readsStr l e n).2.1 (readsStr l e n).2.2) := hw2
  have B2 : Below B w w2 := (B0.out.drew.grown hg1 Z0.out (fun k hk => by simp at hk; omega)).grown hg2 (Nat.le_trans Z0.out hg1.size) (fun k hk => by simp at hk; omega)
  clear hu1 hw2 hg1 hg2 t1 t3 s1 hown1 hown2
  go_wp2
  go_ret
  exact ⟨by simp, B2, vu1, vw2, HU1.out, HW2.out⟩

set_option maxHeartbeats 2000000 in
theorem asks2 {w : World} {B bu bw : Nat} {vu vw : Value} {l : List Int} {e least most n er : Int} (hB1 : B ≤ bu) (hB2 : B ≤ bw) (hBw : B ≤ w.heap.size) (hne : bu ≠ bw)
    (hu : UnpX bw w bu vu l e) (hw : RUnp bu w bw vw l e) :
    Calls Try.prog 25 #[.pointer (some ⟨bu, 0, none⟩), .pointer (some ⟨bw, 0, none⟩), .agg #[.int .i64 2, .int .i64 least, .int .i64 most, .int .i64 n, .int .i64 er]] w fun r w' =>
      r = .returned (.bool true) ∧ Below B w w' ∧ ∃ vu' vw', UnpX bw w' bu vu' (reads l e 0 1).2.1 (reads l e 0 1).2.2 ∧ RUnp bu w' bw vw' (reads l e 0 1).2.1 (reads l e 0 1).2.2 := by
  have HU : Hid (UnpX bw w bu vu l e) := hu
  have HW : Hid (RUnp bu w bw vw l e) := hw
  clear hu hw
  go_enter Try.func25, Try.ntmps25
  go_wp2_with fail
  refine (flag_any (HU.out.below (alloc_below _ _))).mono ?_
  rintro r w1 ⟨rfl, hg1, vu1, hu1⟩
  have HU1 : Hid (UnpX bw w1 bu vu1 (reads l e 0 1).2.1 (reads l e 0 1).2.2) := hu1
  clear hu1
  go_wp2_with fail
  refine (rflag_any ((HW.out.below (alloc_below _ _)).kept hg1 (Ne.symm hne))).mono ?_
  rintro r w2 ⟨rfl, hg2, vw2, hw2⟩
  have HW2 : Hid (RUnp bu w2 bw vw2 (reads l e 0 1).2.1 (reads l e 0 1).2.2) := hw2
  have B2 : Below B w w2 := (((alloc_below w _).mono hBw).grown hg1 (by simp; omega) (fun k hk => by simp at hk; omega)).grown hg2 (by have := hg1.size; simp at this; omega) (fun k hk => by simp at hk; omega)
  have HU2 : Hid (UnpX bw w2 bu vu1 (reads l e 0 1).2.1 (reads l e 0 1).2.2) := HU1.out.kept hg2 hne
  clear hw2 hg1 hg2 HU1
  go_wp2_with fail
  go_ret
  exact ⟨by simp, B2, vu1, vw2, HU2.out, HW2.out⟩

set_option maxHeartbeats 2000000 in
theorem asks3 {w : World} {B bu bw : Nat} {vu vw : Value} {l : List Int} {e d least most n er : Int} (d0 : (d == 0) = false) (d1 : (d == 1) = false) (d2 : (d == 2) = false) (hB1 : B ≤ bu) (hB2 : B ≤ bw) (hBw : B ≤ w.heap.size) (hne : bu ≠ bw)
    (hu : UnpX bw w bu vu l e) (hw : RUnp bu w bw vw l e) :
    Calls Try.prog 25 #[.pointer (some ⟨bu, 0, none⟩), .pointer (some ⟨bw, 0, none⟩), .agg #[.int .i64 d, .int .i64 least, .int .i64 most, .int .i64 n, .int .i64 er]] w fun r w' =>
      r = .returned (.bool true) ∧ Below B w w' ∧ ∃ vu' vw', UnpX bw w' bu vu' (spoils l e er).1 (spoils l e er).2 ∧ RUnp bu w' bw vw' (spoils l e er).1 (spoils l e er).2 := by
  have HU : Hid (UnpX bw w bu vu l e) := hu
  have HW : Hid (RUnp bu w bw vw l e) := hw
  have zu : bu < w.heap.size := (Array.getElem?_eq_some_iff.1 hu.block).1
  clear hu hw
  go_enter Try.func25, Try.ntmps25
  go_wp2_with fail
  refine (spoil_any (HU.out.below (alloc_below _ _))).mono ?_
  rintro r w1 ⟨rfl, hg1, vu1, hu1⟩
  have HU1 : Hid (UnpX bw w1 bu vu1 (spoils l e er).1 (spoils l e er).2) := hu1
  have t4 : w1.cell? ⟨w.heap.size, 4, none⟩ = some (.int .i64 er) := hg1.cell (a := ⟨w.heap.size, 4, none⟩) (by simp) (by simp; omega)
  clear hu1
  go_wp2_with fail
  refine (rspoil_any ((HW.out.below (alloc_below _ _)).kept hg1 (Ne.symm hne))).mono ?_
  rintro r w2 ⟨rfl, hg2, vw2, hw2⟩
  have HW2 : Hid (RUnp bu w2 bw vw2 (spoils l e er).1 (spoils l e er).2) := hw2
  have B2 : Below B w w2 := (((alloc_below w _).mono hBw).grown hg1 (by simp; omega) (fun k hk => by simp at hk; omega)).grown hg2 (by have := hg1.size; simp at this; omega) (fun k hk => by simp at hk; omega)
  have HU2 : Hid (UnpX bw w2 bu vu1 (spoils l e er).1 (spoils l e er).2) := HU1.out.kept hg2 hne
  clear hw2 hg1 hg2 HU1 t4
  go_wp2_with fail
  go_ret
  exact ⟨rfl, B2, vu1, vw2, HU2.out, HW2.out⟩

/-- What a question makes of the rest and the error. -/
def asked (l : List Int) (e d least most n er : Int) : List Int × Int :=
  if d = 0 then (reads l e least most).2 else if d = 1 then (readsStr l e n).2 else if d = 2 then (reads l e 0 1).2 else spoils l e er

theorem asks_any {w : World} {B bu bw : Nat} {vu vw : Value} {l : List Int} {e d least most n er : Int} (hB1 : B ≤ bu) (hB2 : B ≤ bw) (hBw : B ≤ w.heap.size) (hne : bu ≠ bw)
    (hu : UnpX bw w bu vu l e) (hw : RUnp bu w bw vw l e) (hbig : l.length ≤ 140737488355328) :
    Calls Try.prog 25 #[.pointer (some ⟨bu, 0, none⟩), .pointer (some ⟨bw, 0, none⟩), .agg #[.int .i64 d, .int .i64 least, .int .i64 most, .int .i64 n, .int .i64 er]] w fun r w' =>
      r = .returned (.bool true) ∧ Below B w w' ∧ ∃ vu' vw', UnpX bw w' bu vu' (asked l e d least most n er).1 (asked l e d least most n er).2 ∧ RUnp bu w' bw vw' (asked l e d least most n er).1 (asked l e d least most n er).2 := by
  by_cases h0 : d = 0
  · subst h0; exact asks0 hB1 hB2 hBw hne hu hw
  by_cases h1 : d = 1
  · subst h1; exact asks1 hB1 hB2 hBw hne hu hw hbig
  by_cases h2 : d = 2
  · subst h2; exact asks2 hB1 hB2 hBw hne hu hw
  have e3 : asked l e d least most n er = spoils l e er := by unfold asked; rw [if_neg h0, if_neg h1, if_neg h2]
  rw [e3]
  exact asks3 (by simpa using h0) (by simpa using h1) (by simpa using h2) hB1 hB2 hBw hne hu hw

theorem asked_len {l : List Int} {e d least most n er : Int} : (asked l e d least most n er).1.length ≤ l.length := by
  unfold asked
  split
  · exact reads_len
  · split
    · exact readsStr_len
    · split
      · exact reads_len
      · unfold spoils; split <;> simp

end Go.Proofs.Ytpnoijmdhlkjlaa
