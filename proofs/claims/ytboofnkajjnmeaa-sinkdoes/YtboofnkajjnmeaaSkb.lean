/-
  Blocks and lists of numbers and records: slices.Clone, slices.Equal, the reference's SameRecords, SameInts. The conditions: lengths.
-/
import Derived.Test.YtboofnkajjnmeaaSka
import Derived.Test.YtboofnkajjnmeaaQui
import Derived.Test.YtboofnkajjnmeaaRgs
import Derived.BigQuiet
import Derived.BigRegion
import Derived.Deep.Cut
import Derived.Deep.CutBlock
import Derived.Deep.CutRange
import Derived.WalkMore
namespace Go.Proofs.Ytboofnkajjnmeaa
open Go.RowKit

theorem heap_set_sameL {W : World} {b : Nat} {cs : Array Value} {t : TypeId} (h : W.heap[b]? = some (.cells cs t (0, 0))) (o : Nat) (v : Value) : (W.setCell ⟨b, o, none⟩ v).heap[b]? = some (.cells (cs.setIfInBounds o v) t (0, 0)) := by
  simp only [World.setCell]
  rw [Array.getElem?_modify, if_pos rfl, h]
  rfl
theorem box_lt {W : World} {b : Nat} {o : Obj} (h : W.heap[b]? = some o) : b < W.heap.size := (Array.getElem?_eq_some_iff.1 h).1
theorem below_next {B : Nat} {A X Y : World} (h : Below B A X) (hb : Below X.heap.size X Y) (hB : B ≤ X.heap.size) : Below B A Y := h.trans (hb.mono hB)
theorem ne_eq {a b : Int} (h : a ≠ b) : (a == b) = false := by simpa using h
theorem ne_ne8 {a b : Int} (h : a ≠ b) : (a != b) = true := by simpa using h
theorem cellB {W : World} {b i : Nat} {cs : Array Value} {t : TypeId} {v : Value} (h : W.heap[b]? = some (.cells cs t (0, 0))) (hv : cs[i]? = some v) : W.cell? ⟨b, i, none⟩ = some v := by
  simp [World.cell?, h, hv]
theorem frB {W : World} {b i : Nat} {cs : Array Value} {t : TypeId} (h : W.heap[b]? = some (.cells cs t (0, 0))) : W.frozen? ⟨b, i, none⟩ = false := by
  simp [World.frozen?, h]
theorem Try.infoRec : (Try.prog.info? 49).map (fun i => (i.zero, i.size, i.bytes)) = some (some (.agg #[.int .i64 0, .int .i64 0]), 2, 16) := by kernel_rfl
theorem Try.infoN : (Try.prog.info? 2).map (fun i => (i.zero, i.size, i.bytes)) = some (some (.int .i64 0), 1, 8) := by kernel_rfl
theorem take_same {α : Type} [Inhabited α] {a b : List α} {k : Nat} {x y : α} (h : a.take k = b.take k) (ha : k < a.length) (hb : k < b.length) (hx : a[k]! = x) (hy : b[k]! = y) : a.take (k + 1) = b.take (k + 1) ↔ x = y := by
  rw [getElem!_pos a k ha] at hx
  rw [getElem!_pos b k hb] at hy
  rw [List.take_succ_eq_append_getElem ha, List.take_succ_eq_append_getElem hb, h, hx, hy]
  simp
set_option maxRecDepth 100000 in
theorem intClone {W : World} {p : Option Addr} {n c : Nat} {os : List Int} (h : NRow W p c os) (hn : os.length = n) (hb : n * 8 ≤ 140737488355328) :
    Calls Try.prog 45 #[.slice p n c] W fun e w' => ∃ p' c', e = .returned (.slice p' n c') ∧ w'.ownsRow W.heap.size 2 1 (.slice p' n c') n (os.flatMap intCells) ∧ Below W.heap.size W w' := by
  obtain ⟨i0, hI0, hz0, hz1, hz2⟩ := info_parts Try.infoN
  have q : ∀ (w : World) (a : Option Addr) (n c : Nat), (binOp .eql 32 (.slice a n c) (.slice none 0 0)).run Try.prog w = .ok (.bool a.isNone) w := fun w a n c => Lib.run_eql_slice_nil w _ _ a n c 0 0 Try.underlying32
  cases p with
  | none =>
    obtain rfl : os = [] := by
      cases os with
      | nil => rfl
      | cons x os =>
        have := h.cell 0 (by simp)
        simp at this
    obtain rfl : n = 0 := hn.symm
    clear h
    go_enter Try.func45, Try.ntmps45
    go_wp2
    go_ret
    exact ⟨none, 0, rfl, World.ownsRow_nil _ _ _ _, Below.refl _ _⟩
  | some ad =>
    have hsg : Seg W 1 (.slice (some ad) os.length c) os.length (os.flatMap intCells) := h.seg (by decide) intCells_len intCells_one
    rw [hn] at hsg
    have HSG := hide (hsg.below ((Below.refl _ W).alloc (Nat.le_refl _) (.cells #[] 2 (0, 0))))
    have HK1 : Hid (0 + n ≤ maxLen) := by show _ ≤ _; unfold maxLen; omega
    have HK2 : Hid ((0 + n) * 8 ≤ 140737488355328) := by show _ ≤ _; omega
    clear h hsg
    go_enter Try.func45, Try.ntmps45
    go_wp2_with (at_builtin; refine append_cells _ rfl (.tmp 5) (.tmp 6) 32 rfl W.heap.size 2 i0 (.int .i64 0) 1 8 Try.underlying32 hI0 hz0 hz1 hz2 rfl (by decide) (.slice (some ⟨W.heap.size, 0, none⟩) 0 0) 0 [] rfl (World.ownsRow_made W #[] 0 (Nat.le_refl _) (Nat.zero_le _) rfl) (.slice (some ad) n c) n _ rfl HSG.out HK1.out HK2.out (by simp) ?_)
    intro p' c' w1 hown hgrow
    have HO := hide hown
    have HB : Hid (Below W.heap.size W w1) := hide (((Below.refl _ W).alloc (Nat.le_refl _) _).grown hgrow (by simp) (by intro k hk; simp [Value.ownBlock] at hk; omega))
    clear hown hgrow
    go_wp2
    go_ret
    exact ⟨p', c', rfl, HO.out, HB.out⟩
set_option maxRecDepth 100000 in
set_option maxHeartbeats 1000000 in
theorem recClone {W : World} {p : Option Addr} {n c : Nat} {os : List RC} (h : RRow W p c os) (hn : os.length = n) (hb : n * 16 ≤ 140737488355328) :
    Calls Try.prog 44 #[.slice p n c] W fun e w' => ∃ p' c', e = .returned (.slice p' n c') ∧ w'.ownsRow W.heap.size 49 2 (.slice p' n c') n (os.flatMap RC.cells) ∧ Below W.heap.size W w' := by
  obtain ⟨i0, hI0, hz0, hz1, hz2⟩ := info_parts Try.infoRec
  have q : ∀ (w : World) (a : Option Addr) (n c : Nat), (binOp .eql 31 (.slice a n c) (.slice none 0 0)).run Try.prog w = .ok (.bool a.isNone) w := fun w a n c => Lib.run_eql_slice_nil w _ _ a n c 0 0 Try.underlying31
  cases p with
  | none =>
    obtain rfl : os = [] := by
      cases os with
      | nil => rfl
      | cons x os =>
        have := h.cell 0 (by simp)
        simp at this
    obtain rfl : n = 0 := hn.symm
    clear h
    go_enter Try.func44, Try.ntmps44
    go_wp2
    go_ret
    exact ⟨none, 0, rfl, World.ownsRow_nil _ _ _ _, Below.refl _ _⟩
  | some ad =>
    have hsg : Seg W 2 (.slice (some ad) os.length c) os.length (os.flatMap RC.cells) := h.seg (by decide) RC.len RC.one
    rw [hn] at hsg
    have HSG := hide (hsg.below ((Below.refl _ W).alloc (Nat.le_refl _) (.cells #[] 49 (0, 0))))
    have HK1 : Hid (0 + n ≤ maxLen) := by show _ ≤ _; unfold maxLen; omega
    have HK2 : Hid ((0 + n) * 16 ≤ 140737488355328) := by show _ ≤ _; omega
    clear h hsg
    go_enter Try.func44, Try.ntmps44
    go_wp2_with (at_builtin; refine append_cells _ rfl (.tmp 5) (.tmp 6) 31 rfl W.heap.size 49 i0 (.agg #[.int .i64 0, .int .i64 0]) 2 16 Try.underlying31 hI0 hz0 hz1 hz2 rfl (by decide) (.slice (some ⟨W.heap.size, 0, none⟩) 0 0) 0 [] rfl (World.ownsRow_made W #[] 0 (Nat.le_refl _) (Nat.zero_le _) rfl) (.slice (some ad) n c) n _ rfl HSG.out HK1.out HK2.out (by simp) ?_)
    intro p' c' w1 hown hgrow
    have HO := hide hown
    have HB : Hid (Below W.heap.size W w1) := hide (((Below.refl _ W).alloc (Nat.le_refl _) _).grown hgrow (by simp) (by intro k hk; simp [Value.ownBlock] at hk; omega))
    clear hown hgrow
    go_wp2
    go_ret
    exact ⟨p', c', rfl, HO.out, HB.out⟩

set_option maxRecDepth 100000 in
set_option maxHeartbeats 4000000 in
theorem eqnum_all {W : World} {p1 p2 : Option Addr} {c1 c2 L M : Nat} {es fs : List Int} (h1 : NRow W p1 c1 es) (h2 : NRow W p2 c2 fs) (hL : es.length = L) (hM : fs.length = M) {rb : Bool} (hrb : decide (es = fs) = rb) :
    Calls Try.prog 33 #[.slice p1 L c1, .slice p2 M c2] W fun e w' => e = .returned (.bool rb) ∧ Below W.heap.size W w' := by
  have i1 := h1.le
  have i2 := h1.top
  have i3 := h2.le
  have i4 := h2.top
  rw [hL] at i1
  rw [hM] at i3
  by_cases hLM : L = M
  · subst hLM
    have H1 := hide h1
    have H2 := hide h2
    have HL := hide hL
    have HM := hide hM
    have HRB := hide hrb
    clear h1 h2 hL hM hrb
    go_enter Try.func33, Try.ntmps33
    go_wp2_with fail
    go_loopw [13] (fun i wr => ∃ k : Nat, k ≤ L ∧ i = .int .i64 (k : Int) ∧ Hid (es.take k = fs.take k) ∧ Hid (Below W.heap.size W wr)) (fun i _ => L - (intOf i).toNat)
    case atStart => exact ⟨0, Nat.zero_le _, rfl, hide rfl, hide (Below.refl _ _)⟩
    case round =>
      obtain ⟨k, hk, rfl, HT, HB⟩ := hrel
      rename World => wr
      by_cases hlt : k < L
      · have hlt2 : k < es.length := by rw [HL.out]; exact hlt
        have hlt3 : k < fs.length := by rw [HM.out]; exact hlt
        obtain ⟨x, hx⟩ : ∃ x, es[k]! = x := ⟨_, rfl⟩
        obtain ⟨y, hy⟩ : ∃ y, fs[k]! = y := ⟨_, rfl⟩
        obtain ⟨g1, o1, rfl, a0⟩ := NRow.at (NRow.later H1.out HB.out) hlt2 hx
        obtain ⟨g2, o2, rfl, b0⟩ := NRow.at (NRow.later H2.out HB.out) hlt3 hy
        have HTS := hide (take_same HT.out hlt2 hlt3 hx hy)
        have HX := hide hx
        have HY := hide hy
        clear hx hy hlt2 hlt3
        by_cases he : x = y
        · subst he
          have HT2 := hide (HTS.out.2 rfl)
          go_upto_region 6 with fail
          go_big_quiet (fail)
          go_wp2
          exact ⟨⟨k + 1, by omega, by first | rfl | go_num, HT2, hide (below_drewN HB.out _)⟩, by simp [intOf]; omega⟩
        · have HF : Hid (false = rb) := hide (by
            rw [← HRB.out]
            symm
            apply decide_eq_false
            intro h9
            subst h9
            exact he (HX.out.symm.trans HY.out))
          have e1 := ne_eq he
          have e2 := ne_ne8 he
          clear he
          go_upto_region 6 with fail
          go_big_quiet (fail)
          go_wp2
          go_ret
          exact ⟨by rw [HF.out]; rfl, below_drewN HB.out _⟩
      · obtain rfl : k = L := by omega
        have HF : Hid (true = rb) := hide (by
          rw [← HRB.out]
          symm
          apply decide_eq_true
          have h9 := HT.out
          rw [List.take_of_length_le (by rw [HL.out]; exact Nat.le_refl _), List.take_of_length_le (by rw [HM.out]; exact Nat.le_refl _)] at h9
          exact h9)
        go_wp2
        go_ret
        exact ⟨by rw [HF.out]; rfl, HB.out⟩
  · have e2 : ((L : Int) == (M : Int)) = false := ne_eq (fun h => hLM (by omega))
    have e3 : ((L : Int) != (M : Int)) = true := ne_ne8 (fun h => hLM (by omega))
    have HF : Hid (false = rb) := hide (by
      rw [← hrb]
      symm
      apply decide_eq_false
      intro h9
      subst h9
      exact hLM (hL.symm.trans hM))
    clear h1 h2 hL hM hrb hLM
    go_enter Try.func33, Try.ntmps33
    go_wp2
    go_ret
    exact ⟨by rw [HF.out]; rfl, Below.refl _ _⟩
set_option maxRecDepth 100000 in
set_option maxHeartbeats 4000000 in
theorem eqrec_all {W : World} {p1 p2 : Option Addr} {c1 c2 L M : Nat} {es fs : List RC} (h1 : RRow W p1 c1 es) (h2 : RRow W p2 c2 fs) (hL : es.length = L) (hM : fs.length = M) {rb : Bool} (hrb : decide (es = fs) = rb) :
    Calls Try.prog 18 #[.slice p1 L c1, .slice p2 M c2] W fun e w' => e = .returned (.bool rb) ∧ Below W.heap.size W w' := by
  have i1 := h1.le
  have i2 := h1.top
  have i3 := h2.le
  have i4 := h2.top
  rw [hL] at i1
  rw [hM] at i3
  by_cases hLM : L = M
  · subst hLM
    have H1 := hide h1
    have H2 := hide h2
    have HL := hide hL
    have HM := hide hM
    have HRB := hide hrb
    clear h1 h2 hL hM hrb
    go_enter Try.func18, Try.ntmps18
    go_wp2_with fail
    go_loopw [13] (fun i wr => ∃ k : Nat, k ≤ L ∧ i = .int .i64 (k : Int) ∧ Hid (es.take k = fs.take k) ∧ Hid (Below W.heap.size W wr)) (fun i _ => L - (intOf i).toNat)
    case atStart => exact ⟨0, Nat.zero_le _, rfl, hide rfl, hide (Below.refl _ _)⟩
    case round =>
      obtain ⟨k, hk, rfl, HT, HB⟩ := hrel
      rename World => wr
      by_cases hlt : k < L
      · have hlt2 : k < es.length := by rw [HL.out]; exact hlt
        have hlt3 : k < fs.length := by rw [HM.out]; exact hlt
        obtain ⟨x, hx⟩ : ∃ x, es[k]! = x := ⟨_, rfl⟩
        obtain ⟨y, hy⟩ : ∃ y, fs[k]! = y := ⟨_, rfl⟩
        obtain ⟨g1, o1, rfl, a0, a1⟩ := RRow.at (RRow.later H1.out HB.out) hlt2 hx
        obtain ⟨g2, o2, rfl, b0, b1⟩ := RRow.at (RRow.later H2.out HB.out) hlt3 hy
        have HTS := hide (take_same HT.out hlt2 hlt3 hx hy)
        have HX := hide hx
        have HY := hide hy
        obtain ⟨x0, x1⟩ := x
        obtain ⟨y0, y1⟩ := y
        simp only at a0 b0 a1 b1
        clear hx hy hlt2 hlt3
        by_cases he : x0 = y0 ∧ x1 = y1
        · obtain ⟨rfl, rfl⟩ := he
          have HT2 := hide (HTS.out.2 rfl)
          go_upto_region 6 with fail
          go_big_quiet (fail)
          go_wp2
          exact ⟨⟨k + 1, by omega, by first | rfl | go_num, HT2, hide (below_drewN HB.out _)⟩, by simp [intOf]; omega⟩
        · have HF : Hid (false = rb) := hide (by
            rw [← HRB.out]
            symm
            apply decide_eq_false
            intro h9
            subst h9
            have h8 := HX.out.symm.trans HY.out
            simp only [RC.mk.injEq] at h8
            exact he h8)
          by_cases h0 : x0 = y0
          · subst h0
            have e1 := ne_eq (fun h : x1 = y1 => he ⟨rfl, h⟩)
            clear he
            go_upto_region 6 with fail
            go_big_quiet (fail)
            go_wp2
            go_ret
            exact ⟨by rw [HF.out]; rfl, below_drewN HB.out _⟩
          · have e1 := ne_eq h0
            clear he
            go_upto_region 6 with fail
            go_big_quiet (fail)
            go_wp2
            go_ret
            exact ⟨by rw [HF.out]; rfl, below_drewN HB.out _⟩
      · obtain rfl : k = L := by omega
        have HF : Hid (true = rb) := hide (by
          rw [← HRB.out]
          symm
          apply decide_eq_true
          have h9 := HT.out
          rw [List.take_of_length_le (by rw [HL.out]; exact Nat.le_refl _), List.take_of_length_le (by rw [HM.out]; exact Nat.le_refl _)] at h9
          exact h9)
        go_wp2
        go_ret
        exact ⟨by rw [HF.out]; rfl, HB.out⟩
  · have e2 : ((L : Int) == (M : Int)) = false := ne_eq (fun h => hLM (by omega))
    have e3 : ((L : Int) != (M : Int)) = true := ne_ne8 (fun h => hLM (by omega))
    have HF : Hid (false = rb) := hide (by
      rw [← hrb]
      symm
      apply decide_eq_false
      intro h9
      subst h9
      exact hLM (hL.symm.trans hM))
    clear h1 h2 hL hM hrb hLM
    go_enter Try.func18, Try.ntmps18
    go_wp2
    go_ret
    exact ⟨by rw [HF.out]; rfl, Below.refl _ _⟩
set_option maxRecDepth 100000 in
set_option maxHeartbeats 4000000 in
theorem eqkey_all {W : World} {p1 p2 : Option Addr} {c1 c2 L M : Nat} {es fs : List RC} (h1 : RRow W p1 c1 es) (h2 : RRow W p2 c2 fs) (hL : es.length = L) (hM : fs.length = M) {rb : Bool} (hrb : decide (es = fs) = rb) :
    Calls Try.prog 40 #[.slice p1 L c1, .slice p2 M c2] W fun e w' => e = .returned (.bool rb) ∧ Below W.heap.size W w' := by
  have i1 := h1.le
  have i2 := h1.top
  have i3 := h2.le
  have i4 := h2.top
  rw [hL] at i1
  rw [hM] at i3
  by_cases hLM : L = M
  · subst hLM
    have H1 := hide h1
    have H2 := hide h2
    have HL := hide hL
    have HM := hide hM
    have HRB := hide hrb
    clear h1 h2 hL hM hrb
    go_enter Try.func40, Try.ntmps40
    go_wp2_with fail
    go_loopw [13] (fun i wr => ∃ k : Nat, k ≤ L ∧ i = .int .i64 (k : Int) ∧ Hid (es.take k = fs.take k) ∧ Hid (Below W.heap.size W wr)) (fun i _ => L - (intOf i).toNat)
    case atStart => exact ⟨0, Nat.zero_le _, rfl, hide rfl, hide (Below.refl _ _)⟩
    case round =>
      obtain ⟨k, hk, rfl, HT, HB⟩ := hrel
      rename World => wr
      by_cases hlt : k < L
      · have hlt2 : k < es.length := by rw [HL.out]; exact hlt
        have hlt3 : k < fs.length := by rw [HM.out]; exact hlt
        obtain ⟨x, hx⟩ : ∃ x, es[k]! = x := ⟨_, rfl⟩
        obtain ⟨y, hy⟩ : ∃ y, fs[k]! = y := ⟨_, rfl⟩
        obtain ⟨g1, o1, rfl, a0, a1⟩ := RRow.at (RRow.later H1.out HB.out) hlt2 hx
        obtain ⟨g2, o2, rfl, b0, b1⟩ := RRow.at (RRow.later H2.out HB.out) hlt3 hy
        have HTS := hide (take_same HT.out hlt2 hlt3 hx hy)
        have HX := hide hx
        have HY := hide hy
        obtain ⟨x0, x1⟩ := x
        obtain ⟨y0, y1⟩ := y
        simp only at a0 b0 a1 b1
        clear hx hy hlt2 hlt3
        by_cases he : x0 = y0 ∧ x1 = y1
        · obtain ⟨rfl, rfl⟩ := he
          have HT2 := hide (HTS.out.2 rfl)
          go_upto_region 6 with fail
          go_big_quiet (fail)
          go_wp2
          exact ⟨⟨k + 1, by omega, by first | rfl | go_num, HT2, hide (below_drewN HB.out _)⟩, by simp [intOf]; omega⟩
        · have HF : Hid (false = rb) := hide (by
            rw [← HRB.out]
            symm
            apply decide_eq_false
            intro h9
            subst h9
            have h8 := HX.out.symm.trans HY.out
            simp only [RC.mk.injEq] at h8
            exact he h8)
          by_cases h0 : x0 = y0
          · subst h0
            have e1 := ne_eq (fun h : x1 = y1 => he ⟨rfl, h⟩)
            clear he
            go_upto_region 6 with fail
            go_big_quiet (fail)
            go_wp2
            go_ret
            exact ⟨by rw [HF.out]; rfl, below_drewN HB.out _⟩
          · have e1 := ne_eq h0
            clear he
            go_upto_region 6 with fail
            go_big_quiet (fail)
            go_wp2
            go_ret
            exact ⟨by rw [HF.out]; rfl, below_drewN HB.out _⟩
      · obtain rfl : k = L := by omega
        have HF : Hid (true = rb) := hide (by
          rw [← HRB.out]
          symm
          apply decide_eq_true
          have h9 := HT.out
          rw [List.take_of_length_le (by rw [HL.out]; exact Nat.le_refl _), List.take_of_length_le (by rw [HM.out]; exact Nat.le_refl _)] at h9
          exact h9)
        go_wp2
        go_ret
        exact ⟨by rw [HF.out]; rfl, HB.out⟩
  · have e2 : ((L : Int) == (M : Int)) = false := ne_eq (fun h => hLM (by omega))
    have e3 : ((L : Int) != (M : Int)) = true := ne_ne8 (fun h => hLM (by omega))
    have HF : Hid (false = rb) := hide (by
      rw [← hrb]
      symm
      apply decide_eq_false
      intro h9
      subst h9
      exact hLM (hL.symm.trans hM))
    clear h1 h2 hL hM hrb hLM
    go_enter Try.func40, Try.ntmps40
    go_wp2
    go_ret
    exact ⟨by rw [HF.out]; rfl, Below.refl _ _⟩
set_option maxRecDepth 100000 in
set_option maxHeartbeats 4000000 in
theorem samerec_all {W : World} {p1 p2 : Option Addr} {c1 c2 L M : Nat} {es fs : List RC} (h1 : RRow W p1 c1 es) (h2 : RRow W p2 c2 fs) (hL : es.length = L) (hM : fs.length = M) {rb : Bool} (hrb : decide (es = fs) = rb) :
    Calls Try.prog 58 #[.slice p1 L c1, .slice p2 M c2] W fun e w' => e = .returned (.bool rb) ∧ Below W.heap.size W w' := by
  have i1 := h1.le
  have i2 := h1.top
  have i3 := h2.le
  have i4 := h2.top
  rw [hL] at i1
  rw [hM] at i3
  by_cases hLM : L = M
  · subst hLM
    have H1 := hide h1
    have H2 := hide h2
    have HL := hide hL
    have HM := hide hM
    have HRB := hide hrb
    clear h1 h2 hL hM hrb
    go_enter Try.func58, Try.ntmps58
    go_wp2_with fail
    go_loopw [5] (fun i wr => ∃ k : Nat, k ≤ L ∧ i = .int .i64 (k : Int) ∧ Hid (es.take k = fs.take k) ∧ Hid (Below W.heap.size W wr)) (fun i _ => L - (intOf i).toNat)
    case atStart => exact ⟨0, Nat.zero_le _, rfl, hide rfl, hide (Below.refl _ _)⟩
    case round =>
      obtain ⟨k, hk, rfl, HT, HB⟩ := hrel
      rename World => wr
      by_cases hlt : k < L
      · have hlt2 : k < es.length := by rw [HL.out]; exact hlt
        have hlt3 : k < fs.length := by rw [HM.out]; exact hlt
        obtain ⟨x, hx⟩ : ∃ x, es[k]! = x := ⟨_, rfl⟩
        obtain ⟨y, hy⟩ : ∃ y, fs[k]! = y := ⟨_, rfl⟩
        obtain ⟨g1, o1, rfl, a0, a1⟩ := RRow.at (RRow.later H1.out HB.out) hlt2 hx
        obtain ⟨g2, o2, rfl, b0, b1⟩ := RRow.at (RRow.later H2.out HB.out) hlt3 hy
        have HTS := hide (take_same HT.out hlt2 hlt3 hx hy)
        obtain ⟨x0, x1⟩ := x
        obtain ⟨y0, y1⟩ := y
        simp only at a0 a1 b0 b1
        have HX := hide hx
        have HY := hide hy
        clear hx hy hlt2 hlt3
        by_cases he : x0 = y0 ∧ x1 = y1
        · obtain ⟨rfl, rfl⟩ := he
          have HT2 := hide (HTS.out.2 rfl)
          go_upto_region 6 with fail
          go_big_quiet (fail)
          go_wp2
          exact ⟨⟨k + 1, by omega, by first | rfl | go_num, HT2, hide (below_drewN HB.out _)⟩, by simp [intOf]; omega⟩
        · have HF : Hid (false = rb) := hide (by
            rw [← HRB.out]
            symm
            apply decide_eq_false
            intro h9
            subst h9
            have h8 := HX.out.symm.trans HY.out
            simp only [RC.mk.injEq] at h8
            exact he h8)
          by_cases h0 : x0 = y0
          · subst h0
            have e1 := ne_eq (fun h : x1 = y1 => he ⟨rfl, h⟩)
            clear he
            go_upto_region 6 with fail
            go_big_quiet (fail)
            go_wp2
            go_ret
            exact ⟨by rw [HF.out]; rfl, below_drewN HB.out _⟩
          · have e1 := ne_eq h0
            clear he
            go_upto_region 6 with fail
            go_big_quiet (fail)
            go_wp2
            go_ret
            exact ⟨by rw [HF.out]; rfl, below_drewN HB.out _⟩
      · obtain rfl : k = L := by omega
        have HF : Hid (true = rb) := hide (by
          rw [← HRB.out]
          symm
          apply decide_eq_true
          have h9 := HT.out
          rw [List.take_of_length_le (by rw [HL.out]; exact Nat.le_refl _), List.take_of_length_le (by rw [HM.out]; exact Nat.le_refl _)] at h9
          exact h9)
        go_wp2
        go_ret
        exact ⟨by rw [HF.out]; rfl, HB.out⟩
  · have e2 : ((L : Int) == (M : Int)) = false := ne_eq (fun h => hLM (by omega))
    have HF : Hid (false = rb) := hide (by
      rw [← hrb]
      symm
      apply decide_eq_false
      intro h9
      subst h9
      exact hLM (hL.symm.trans hM))
    clear h1 h2 hL hM hrb hLM
    go_enter Try.func58, Try.ntmps58
    go_wp2
    go_ret
    exact ⟨by rw [HF.out]; rfl, Below.refl _ _⟩
set_option maxRecDepth 100000 in
set_option maxHeartbeats 4000000 in
theorem sameint_all {W : World} {p1 p2 : Option Addr} {c1 c2 L M : Nat} {es fs : List Int} (h1 : NRow W p1 c1 es) (h2 : NRow W p2 c2 fs) (hL : es.length = L) (hM : fs.length = M) {rb : Bool} (hrb : decide (es = fs) = rb) :
    Calls Try.prog 59 #[.slice p1 L c1, .slice p2 M c2] W fun e w' => e = .returned (.bool rb) ∧ Below W.heap.size W w' := by
  have i1 := h1.le
  have i2 := h1.top
  have i3 := h2.le
  have i4 := h2.top
  rw [hL] at i1
  rw [hM] at i3
  by_cases hLM : L = M
  · subst hLM
    have H1 := hide h1
    have H2 := hide h2
    have HL := hide hL
    have HM := hide hM
    have HRB := hide hrb
    clear h1 h2 hL hM hrb
    go_enter Try.func59, Try.ntmps59
    go_wp2_with fail
    go_loopw [5] (fun i wr => ∃ k : Nat, k ≤ L ∧ i = .int .i64 (k : Int) ∧ Hid (es.take k = fs.take k) ∧ Hid (Below W.heap.size W wr)) (fun i _ => L - (intOf i).toNat)
    case atStart => exact ⟨0, Nat.zero_le _, rfl, hide rfl, hide (Below.refl _ _)⟩
    case round =>
      obtain ⟨k, hk, rfl, HT, HB⟩ := hrel
      rename World => wr
      by_cases hlt : k < L
      · have hlt2 : k < es.length := by rw [HL.out]; exact hlt
        have hlt3 : k < fs.length := by rw [HM.out]; exact hlt
        obtain ⟨x, hx⟩ : ∃ x, es[k]! = x := ⟨_, rfl⟩
        obtain ⟨y, hy⟩ : ∃ y, fs[k]! = y := ⟨_, rfl⟩
        obtain ⟨g1, o1, rfl, a0⟩ := NRow.at (NRow.later H1.out HB.out) hlt2 hx
        obtain ⟨g2, o2, rfl, b0⟩ := NRow.at (NRow.later H2.out HB.out) hlt3 hy
        have HTS := hide (take_same HT.out hlt2 hlt3 hx hy)
        have HX := hide hx
        have HY := hide hy
        clear hx hy hlt2 hlt3
        by_cases he : x = y
        · subst he
          have HT2 := hide (HTS.out.2 rfl)
          go_upto_region 6 with fail
          go_big_quiet (fail)
          go_wp2
          exact ⟨⟨k + 1, by omega, by first | rfl | go_num, HT2, hide (below_drewN HB.out _)⟩, by simp [intOf]; omega⟩
        · have HF : Hid (false = rb) := hide (by
            rw [← HRB.out]
            symm
            apply decide_eq_false
            intro h9
            subst h9
            exact he (HX.out.symm.trans HY.out))
          have e1 := ne_eq he
          have e2 := ne_ne8 he
          clear he
          go_upto_region 6 with fail
          go_big_quiet (fail)
          go_wp2
          go_ret
          exact ⟨by rw [HF.out]; rfl, below_drewN HB.out _⟩
      · obtain rfl : k = L := by omega
        have HF : Hid (true = rb) := hide (by
          rw [← HRB.out]
          symm
          apply decide_eq_true
          have h9 := HT.out
          rw [List.take_of_length_le (by rw [HL.out]; exact Nat.le_refl _), List.take_of_length_le (by rw [HM.out]; exact Nat.le_refl _)] at h9
          exact h9)
        go_wp2
        go_ret
        exact ⟨by rw [HF.out]; rfl, HB.out⟩
  · have e2 : ((L : Int) == (M : Int)) = false := ne_eq (fun h => hLM (by omega))
    have e3 : ((L : Int) != (M : Int)) = true := ne_ne8 (fun h => hLM (by omega))
    have HF : Hid (false = rb) := hide (by
      rw [← hrb]
      symm
      apply decide_eq_false
      intro h9
      subst h9
      exact hLM (hL.symm.trans hM))
    clear h1 h2 hL hM hrb hLM
    go_enter Try.func59, Try.ntmps59
    go_wp2
    go_ret
    exact ⟨by rw [HF.out]; rfl, Below.refl _ _⟩
end Go.Proofs.Ytboofnkajjnmeaa
