/-
  slices.Clone of records; Epochs of the program. The conditions: lengths.
-/
import Derived.Test.YtihbdlbnpkmafaaEet
namespace Go.Proofs.Ytihbdlbnpkmafaa
open Go.RowKit Go.Shelf

set_option maxRecDepth 100000 in
set_option maxHeartbeats 1000000 in
theorem recClone {W : World} {p : Option Addr} {n c : Nat} {os : List RC} (h : RRow W p c os) (hn : os.length = n) (hb : n * 16 ≤ 140737488355328) :
    Calls Try.prog 56 #[.slice p n c] W fun e w' => ∃ p' c', e = .returned (.slice p' n c') ∧ w'.ownsRow W.heap.size 24 2 (.slice p' n c') n (os.flatMap RC.cells) ∧ Below W.heap.size W w' := by
  obtain ⟨i0, hI0, hz0, hz1, hz2⟩ := info_parts Try.infoRec
  have q : ∀ (w : World) (a : Option Addr) (n c : Nat), (binOp .eql 54 (.slice a n c) (.slice none 0 0)).run Try.prog w = .ok (.bool a.isNone) w := fun w a n c => Lib.run_eql_slice_nil w _ _ a n c 0 0 Try.underlying54
  cases p with
  | none =>
    obtain rfl : os = [] := by
      cases os with
      | nil => rfl
      | cons x os =>
        have := h.cell 0 (by simp)
        simp at this
    obtain rfl : n = 0 := hn.symm
    clear h
    go_enter Try.func56, Try.ntmps56
    go_wp2
    go_ret
    exact ⟨none, 0, rfl, World.ownsRow_nil _ _ _ _, Below.refl _ _⟩
  | some ad =>
    have hsg : Seg W 2 (.slice (some ad) os.length c) os.length (os.flatMap RC.cells) := h.seg (by decide) RC.len RC.one
    rw [hn] at hsg
    have HSG := hide (hsg.below ((Below.refl _ W).alloc (Nat.le_refl _) (.cells #[] 24 (0, 0))))
    have HK1 : Hid (0 + n ≤ maxLen) := by show _ ≤ _; unfold maxLen; omega
    have HK2 : Hid ((0 + n) * 16 ≤ 140737488355328) := by show _ ≤ _; omega
    clear h hsg
    go_enter Try.func56, Try.ntmps56
    go_wp2_with (at_builtin; refine append_cells _ rfl (.tmp 5) (.tmp 6) 54 rfl W.heap.size 24 i0 (.agg #[.int .i64 0, .int .i64 0]) 2 16 Try.underlying54 hI0 hz0 hz1 hz2 rfl (by decide) (.slice (some ⟨W.heap.size, 0, none⟩) 0 0) 0 [] rfl (World.ownsRow_made W #[] 0 (Nat.le_refl _) (Nat.zero_le _) rfl) (.slice (some ad) n c) n _ rfl HSG.out HK1.out HK2.out (by simp) ?_)
    intro p' c' w1 hown hgrow
    have HO := hide hown
    have HB : Hid (Below W.heap.size W w1) := hide (((Below.refl _ W).alloc (Nat.le_refl _) _).grown hgrow (by simp) (by intro k hk; simp [Value.ownBlock] at hk; omega))
    clear hown hgrow
    go_wp2
    go_ret
    exact ⟨p', c', rfl, HO.out, HB.out⟩


theorem enEpochs : ∀ args w, (callFunc 57 args).run Try.prog w = .ok (.enter 57 args) w := enters_of Try.func57 (by kernel_rfl) rfl
set_option maxRecDepth 100000 in
set_option maxHeartbeats 1000000 in
theorem epochs_any {W : World} {p : Option Addr} {n c : Nat} {es : List EV} (h : ERow W p c es) (hn : es.length = n) (hb : n * 32 ≤ 140737488355328) :
    Calls Try.prog 39 #[.slice p n c] W fun e w' => ∃ eb kb p' c', e = .returned (.func (.func 57) #[] #[.pointer (some ⟨eb, 0, none⟩)]) ∧ KRd eb kb n c' p' es w' ∧ Below W.heap.size W w' := by
  have HC := hide (known_any h hn hb)
  clear h
  go_enter Try.func39, Try.ntmps39
  go_wp2_with fail
  refine HC.out.mono ?_
  rintro _ w1 ⟨kb, p', c', rfl, hc, E1, B1⟩
  have hb2 := alloc_below w1 (.cells #[.func (.func 67) #[] #[.pointer (some ⟨kb, 0, none⟩)]] 86 (0, 0))
  have hbx := heap_alloc_new w1 (.cells #[.func (.func 67) #[] #[.pointer (some ⟨kb, 0, none⟩)]] 86 (0, 0))
  have HK : Hid (KRd w1.heap.size kb n c' p' es (w1.alloc (.cells #[.func (.func 67) #[] #[.pointer (some ⟨kb, 0, none⟩)]] 86 (0, 0)))) := hide ⟨by simp only [World.cell?]; rw [hbx]; rfl, cell_later hb2 hc, ERow.later E1 hb2⟩
  have HB := hide (B1.trans (hb2.mono B1.size))
  clear hc E1 B1 hb2 hbx HC
  go_wp2
  go_ret
  exact ⟨w1.heap.size, kb, p', c', rfl, HK.out, HB.out⟩
end Go.Proofs.Ytihbdlbnpkmafaa
