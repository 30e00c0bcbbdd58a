/-
  slices.Clone and slices.Equal of records, the reference's SameRecords, slices.Equal of numbers, the law's records. The conditions: lengths.
-/
import Derived.Test.YtbcllgddogghbaaRrt
namespace Go.Proofs.Ytbcllgddogghbaa
open Go.RowKit Go.Shelf

set_option maxRecDepth 100000 in
set_option maxHeartbeats 1000000 in
theorem recClone {W : World} {p : Option Addr} {n c : Nat} {os : List RC} (h : RRow W p c os) (hn : os.length = n) (hb : n * 16 ≤ 140737488355328) :
    Calls Try.prog 13 #[.slice p n c] W fun e w' => ∃ p' c', e = .returned (.slice p' n c') ∧ w'.ownsRow W.heap.size 40 2 (.slice p' n c') n (os.flatMap RC.cells) ∧ Below W.heap.size W w' := by
  obtain ⟨i0, hI0, hz0, hz1, hz2⟩ := info_parts Try.infoRec
  have q : ∀ (w : World) (a : Option Addr) (n c : Nat), (binOp .eql 23 (.slice a n c) (.slice none 0 0)).run Try.prog w = .ok (.bool a.isNone) w := fun w a n c => Lib.run_eql_slice_nil w _ _ a n c 0 0 Try.underlying23
  cases p with
  | none =>
    obtain rfl : os = [] := by
      cases os with
      | nil => rfl
      | cons x os =>
        have := h.cell 0 (by simp)
        simp at this
    obtain rfl : n = 0 := hn.symm
    clear h
    go_enter Try.func13, Try.ntmps13
    go_wp2
    go_ret
    exact ⟨none, 0, rfl, World.ownsRow_nil _ _ _ _, Below.refl _ _⟩
  | some ad =>
    have hsg : Seg W 2 (.slice (some ad) os.length c) os.length (os.flatMap RC.cells) := h.seg (by decide) RC.len RC.one
    rw [hn] at hsg
    have HSG := hide (hsg.below ((Below.refl _ W).alloc (Nat.le_refl _) (.cells #[] 40 (0, 0))))
    have HK1 : Hid (0 + n ≤ maxLen) := by show _ ≤ _; unfold maxLen; omega
    have HK2 : Hid ((0 + n) * 16 ≤ 140737488355328) := by show _ ≤ _; omega
    clear h hsg
    go_enter Try.func13, Try.ntmps13
    go_wp2_with (at_builtin; refine append_cells _ rfl (.tmp 5) (.tmp 6) 23 rfl W.heap.size 40 i0 (.agg #[.int .i64 0, .int .i64 0]) 2 16 Try.underlying23 hI0 hz0 hz1 hz2 rfl (by decide) (.slice (some ⟨W.heap.size, 0, none⟩) 0 0) 0 [] rfl (World.ownsRow_made W #[] 0 (Nat.le_refl _) (Nat.zero_le _) rfl) (.slice (some ad) n c) n _ rfl HSG.out HK1.out HK2.out (by simp) ?_)
    intro p' c' w1 hown hgrow
    have HO := hide hown
    have HB : Hid (Below W.heap.size W w1) := hide (((Below.refl _ W).alloc (Nat.le_refl _) _).grown hgrow (by simp) (by intro k hk; simp [Value.ownBlock] at hk; omega))
    clear hown hgrow
    go_wp2
    go_ret
    exact ⟨p', c', rfl, HO.out, HB.out⟩


set_option maxRecDepth 100000 in
set_option maxHeartbeats 4000000 in
theorem eqrc_any {W : World} {p1 p2 : Option Addr} {c1 c2 L : Nat} {es : List RC} (h1 : RRow W p1 c1 es) (h2 : RRow W p2 c2 es) (hL : es.length = L) :
    Calls Try.prog 14 #[.slice p1 L c1, .slice p2 L c2] W fun e w' => e = .returned (.bool true) ∧ Below W.heap.size W w' := by
  have i1 := h1.le
  have i2 := h1.top
  have i3 := h2.le
  have i4 := h2.top
  rw [hL] at i1 i3
  have H1 := hide h1
  have H2 := hide h2
  have HL := hide hL
  clear h1 h2 hL
  go_enter Try.func14, Try.ntmps14
  go_wp2_with fail
  go_loopw [13] (fun i wr => ∃ k : Nat, k ≤ L ∧ i = .int .i64 (k : Int) ∧ Hid (Below W.heap.size W wr)) (fun i _ => L - (intOf i).toNat)
  case atStart => exact ⟨0, Nat.zero_le _, rfl, hide (Below.refl _ _)⟩
  case round =>
    obtain ⟨k, hk, rfl, HB⟩ := hrel
    by_cases hlt : k < L
    · have hlt2 : k < es.length := by rw [HL.out]; exact hlt
      obtain ⟨x, hx⟩ : ∃ x, es[k]! = x := ⟨_, rfl⟩
      obtain ⟨g1, o1, rfl, a0, a1⟩ := (RRow.later H1.out HB.out).at hlt2 hx
      obtain ⟨g2, o2, rfl, b0, b1⟩ := (RRow.later H2.out HB.out).at hlt2 hx
      obtain ⟨x0, x1⟩ := x
      simp only at a0 a1 b0 b1
      clear hx hlt2
      go_upto_region 6 with fail
      go_big_quiet (fail)
      go_wp2
      exact ⟨⟨k + 1, by omega, by first | rfl | go_num, hide (below_drewNR HB.out _)⟩, by simp [intOf]; omega⟩
    · obtain rfl : k = L := by omega
      go_wp2
      go_ret
      exact ⟨rfl, HB.out⟩

set_option maxRecDepth 100000 in
set_option maxHeartbeats 4000000 in
theorem samerec_any {W : World} {p1 p2 : Option Addr} {c1 c2 L : Nat} {es : List RC} (h1 : RRow W p1 c1 es) (h2 : RRow W p2 c2 es) (hL : es.length = L) :
    Calls Try.prog 10 #[.slice p1 L c1, .slice p2 L c2] W fun e w' => e = .returned (.bool true) ∧ Below W.heap.size W w' := by
  have i1 := h1.le
  have i2 := h1.top
  have i3 := h2.le
  have i4 := h2.top
  rw [hL] at i1 i3
  have H1 := hide h1
  have H2 := hide h2
  have HL := hide hL
  clear h1 h2 hL
  go_enter Try.func10, Try.ntmps10
  go_wp2_with fail
  go_loopw [5] (fun i wr => ∃ k : Nat, k ≤ L ∧ i = .int .i64 (k : Int) ∧ Hid (Below W.heap.size W wr)) (fun i _ => L - (intOf i).toNat)
  case atStart => exact ⟨0, Nat.zero_le _, rfl, hide (Below.refl _ _)⟩
  case round =>
    obtain ⟨k, hk, rfl, HB⟩ := hrel
    by_cases hlt : k < L
    · have hlt2 : k < es.length := by rw [HL.out]; exact hlt
      obtain ⟨x, hx⟩ : ∃ x, es[k]! = x := ⟨_, rfl⟩
      obtain ⟨g1, o1, rfl, a0, a1⟩ := (RRow.later H1.out HB.out).at hlt2 hx
      obtain ⟨g2, o2, rfl, b0, b1⟩ := (RRow.later H2.out HB.out).at hlt2 hx
      obtain ⟨x0, x1⟩ := x
      simp only at a0 a1 b0 b1
      clear hx hlt2
      go_upto_region 6 with fail
      go_big_quiet (fail)
      go_wp2
      exact ⟨⟨k + 1, by omega, by first | rfl | go_num, hide (below_drewNR HB.out _)⟩, by simp [intOf]; omega⟩
    · obtain rfl : k = L := by omega
      go_wp2
      go_ret
      exact ⟨rfl, HB.out⟩

set_option maxHeartbeats 1000000 in
theorem equalInt_any {v1 v2 : Value} {l m : List Int} {w : World} (h1 : Row .i64 w v1 l) (h2 : Row .i64 w v2 m) (hlm : l = m) :
    Calls Try.prog 11 #[v1, v2] w fun e w' => e = .returned (.bool true) ∧ Below w.heap.size w w' := by
  subst hlm
  obtain ⟨p, cap, rfl, g1, g2, g3, g4⟩ := h1
  obtain ⟨p', cap', rfl, f1, f2, f3, f4⟩ := h2
  have H1 : Hid (0 < l.length → ∃ b o, p = some ⟨b, o, none⟩ ∧ ∀ i, i < l.length → w.cell? ⟨b, o + i, none⟩ = some (.int .i64 (l.getD i 0))) := g4
  have H2 : Hid (0 < l.length → ∃ b o, p' = some ⟨b, o, none⟩ ∧ ∀ i, i < l.length → w.cell? ⟨b, o + i, none⟩ = some (.int .i64 (l.getD i 0))) := f4
  clear g3 g4 f3 f4
  have hne : (((l.length : Nat) : Int) != ((l.length : Nat) : Int)) = false := by simp
  go_enter Try.func11, Try.ntmps11
  go_wp2
  go_loopw [13] (fun i wr => ∃ k : Nat, k ≤ l.length ∧ i = .int .i64 (k : Int) ∧ Below w.heap.size w wr) (fun i _ => l.length - (intOf i).toNat)
  case atStart => exact ⟨0, Nat.zero_le _, rfl, Below.refl _ _⟩
  case round =>
    obtain ⟨k, hk, rfl, hbr⟩ := hrel
    by_cases hlt : k < l.length
    · obtain ⟨b1, o1, rfl, hc1⟩ := H1.out (by omega)
      obtain ⟨b2, o2, rfl, hc2⟩ := H2.out (by omega)
      obtain ⟨x, hx⟩ : ∃ x, x = l.getD k 0 := ⟨_, rfl⟩
      have d1 : wr.cell? ⟨b1, o1 + k, none⟩ = some (.int .i64 x) := by rw [hx]; exact cell_later hbr (hc1 k hlt)
      have d2 : wr.cell? ⟨b2, o2 + k, none⟩ = some (.int .i64 x) := by rw [hx]; exact cell_later hbr (hc2 k hlt)
      have i1 : (0 : Int) ≤ (k : Int) := by omega
      have i2 : (k : Int) < (l.length : Int) := by omega
      clear hc1 hc2 hx H1 H2
      go_wp2
      go_quiet (fail)
      go_wp2
      go_roundw
      case rel => exact ⟨k + 1, by omega, by go_num, below_drewNR hbr _⟩
      case measure => simp [intOf]; omega
    · clear H1 H2
      go_wp2
      go_ret
      exact ⟨rfl, hbr⟩

set_option maxRecDepth 100000 in
set_option maxHeartbeats 4000000 in
theorem records_any {W : World} {p : Option Addr} {n c : Nat} {l : List Int} (h : Row .i64 W (.slice p n c) l) (hb : n ≤ 1048576) :
    Calls Try.prog 19 #[.slice p n c] W fun e w' => ∃ p1 c1, e = .returned (.slice p1 n c1) ∧ w'.ownsRow W.heap.size 40 2 (.slice p1 n c1) n ((l.map (fun v => (⟨0, v⟩ : RC))).flatMap RC.cells) ∧ Below W.heap.size W w' := by
  obtain ⟨i0, hI0, hz0, hz1, hz2⟩ := info_parts Try.infoRec
  obtain ⟨p', cap, e, g1, g2, g3, g4⟩ := h
  simp only [Value.slice.injEq] at e
  obtain ⟨rfl, rfl, rfl⟩ := e
  have H4 := hide g4
  obtain ⟨rs, hrs⟩ : ∃ rs, l.map (fun v => (⟨0, v⟩ : RC)) = rs := ⟨_, rfl⟩
  rw [hrs]
  have HRS := hide hrs
  clear g3 g4 hrs
  go_enter Try.func19, Try.ntmps19
  go_wp2_with fail
  go_loopw [3, 8] (fun s i wq => ∃ (k : Nat) (p1 : Option Addr) (c1 : Nat), k ≤ l.length ∧ i = .int .i64 (k : Int) ∧ s = .slice p1 k c1 ∧ Hid (wq.ownsRow W.heap.size 40 2 (.slice p1 k c1) k ((rs.take k).flatMap RC.cells)) ∧ Hid (Below W.heap.size W wq)) (fun _ i _ => l.length - (intOf i).toNat)
  case atStart => exact ⟨0, none, 0, Nat.zero_le _, rfl, rfl, hide (World.ownsRow_nil _ _ _ _), hide (Below.refl _ _)⟩
  case round =>
    obtain ⟨k, p1, c1, hk, rfl, rfl, HOW, HBq⟩ := hrel
    rename World => wq
    by_cases hlt : k < l.length
    · obtain ⟨b1, o1, rfl, hc1⟩ := H4.out (by omega)
      obtain ⟨x, hx⟩ : ∃ x, l.getD k 0 = x := ⟨_, rfl⟩
      have d1 : wq.cell? ⟨b1, o1 + k, none⟩ = some (.int .i64 x) := by rw [← hx]; exact cell_later HBq.out (hc1 k hlt)
      have HTN : Hid (rs.take (k + 1) = rs.take k ++ [⟨0, x⟩]) := hide (by
        rw [← HRS.out, ← List.map_take, ← List.map_take, List.take_succ_eq_append_getElem hlt, List.map_append]
        rw [List.getD_eq_getElem?_getD, List.getElem?_eq_getElem hlt] at hx
        simp at hx
        simp [hx])
      have hab := alloc_below wq (.cells #[.int .i64 0, .int .i64 x] 40 (0, 0))
      have HSG : Hid (Seg (wq.alloc (.cells #[.int .i64 0, .int .i64 x] 40 (0, 0))) 2 (.slice (some ⟨wq.heap.size, 0, none⟩) 1 1) 1 [.int .i64 0, .int .i64 x]) := hide (Seg.news (heap_alloc_new wq _) (by simp [Value.oneCell']) rfl (Nat.le_refl _) (by decide))
      have HRW := hide (ownsRow_later HOW.out hab)
      have HAB := hide hab
      have HK1 : Hid (k + 1 ≤ maxLen) := by show _ ≤ _; unfold maxLen; omega
      have HK2 : Hid ((k + 1) * 16 ≤ 140737488355328) := by show _ ≤ _; omega
      have HBS : Hid (W.heap.size ≤ (wq.alloc (.cells #[.int .i64 0, .int .i64 x] 40 (0, 0))).heap.size) := hide (Nat.le_trans HBq.out.size hab.size)
      clear hab hx hc1
      go_wp2_with (at_builtin; refine append_cells _ rfl (.tmp 12) (.tmp 15) 23 rfl W.heap.size 40 i0 (.agg #[.int .i64 0, .int .i64 0]) 2 16 Try.underlying23 hI0 hz0 hz1 hz2 rfl (by decide) (.slice p1 k c1) k _ rfl HRW.out (.slice (some ⟨wq.heap.size, 0, none⟩) 1 1) 1 _ rfl HSG.out HK1.out HK2.out HBS.out ?_)
      intro p' c' w5 hown hgrow
      have HB5 : Hid (Below W.heap.size W w5) := hide ((HBq.out.trans (HAB.out.mono HBq.out.size)).grown hgrow (Nat.le_trans HBq.out.size HAB.out.size) (fun i hi => own_block_base HRW.out hi))
      have HO5 : Hid (w5.ownsRow W.heap.size 40 2 (.slice p' (k + 1) c') (k + 1) ((rs.take (k + 1)).flatMap RC.cells)) := by
        refine hide ?_
        rw [HTN.out, List.flatMap_append]
        exact hown
      clear hown hgrow
      go_wp2
      exact ⟨⟨k + 1, p', c', by omega, by first | rfl | go_num, rfl, HO5, HB5⟩, by simp [intOf]; omega⟩
    · obtain rfl : k = l.length := by omega
      have HO : Hid (wq.ownsRow W.heap.size 40 2 (.slice p1 l.length c1) l.length (rs.flatMap RC.cells)) := by
        have h := HOW.out
        rw [List.take_of_length_le (by rw [← HRS.out, List.length_map]; exact Nat.le_refl _)] at h
        exact hide h
      go_wp2
      go_ret
      exact ⟨p1, c1, rfl, HO.out, HBq.out⟩
end Go.Proofs.Ytbcllgddogghbaa
