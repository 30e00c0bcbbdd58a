/-
  tell of the program: what is appended to what goes out. The conditions: lengths.
-/
import Derived.Test.YtcabfohmimglpaaOpx
namespace Go.Proofs.Ytcabfohmimglpaa
open Go.RowKit

/-- What goes out: a port and a record. -/
structure PU where
  port : Int
  key : Int
  val : Int
  deriving DecidableEq
instance : Inhabited PU := ⟨⟨0, 0, 0⟩⟩
def PU.cells (x : PU) : List Value := [.int .i64 x.port, .int .i64 x.key, .int .i64 x.val]
theorem PU.len (x : PU) : x.cells.length = 3 := rfl
theorem Try.infoPut : (Try.prog.info? 41).map (fun i => (i.zero, i.size, i.bytes)) = some (some (.agg #[.int .i64 0, .int .i64 0, .int .i64 0]), 3, 24) := by kernel_rfl
def tellC (kd : Int) (sb : Bool) (key acc : Int) : List PU := if (kd == 6 && sb) = true then [] else [⟨0, key, acc⟩]

set_option maxRecDepth 100000 in
set_option maxHeartbeats 4000000 in
theorem tell_any {W : World} {base m c : Nat} {p : Option Addr} {xs : List PU} {kd pt fn ar key cnt acc : Int} {ip : Option Addr} {n ic : Nat} {sb : Bool} (ho : W.ownsRow base 41 3 (.slice p m c) m (xs.flatMap PU.cells)) (hbs : base ≤ W.heap.size) (hm : (m + 1) * 24 ≤ 140737488355328) :
    Calls Try.prog 17 #[.slice p m c, .agg #[.int .i64 kd, .int .i64 pt, .int .i64 fn, .int .i64 ar, .slice ip n ic], .agg #[.int .i64 key, .int .i64 cnt, .int .i64 acc], .bool sb] W fun e w' => ∃ p' c', e = .returned (.slice p' (m + (tellC kd sb key acc).length) c') ∧ w'.ownsRow base 41 3 (.slice p' (m + (tellC kd sb key acc).length) c') (m + (tellC kd sb key acc).length) ((xs ++ tellC kd sb key acc).flatMap PU.cells) ∧ Only (fun i => (Value.slice p m c).ownBlock = some i) W w' := by
  obtain ⟨i0, hI0, hz0, hz1, hz2⟩ := info_parts Try.infoPut
  have ab1 := alloc_below W (.cells #[.int .i64 kd, .int .i64 pt, .int .i64 fn, .int .i64 ar, .slice ip n ic] 24 (0, 0))
  have ab2 := alloc_below (W.alloc (.cells #[.int .i64 kd, .int .i64 pt, .int .i64 fn, .int .i64 ar, .slice ip n ic] 24 (0, 0))) (.cells #[.int .i64 key, .int .i64 cnt, .int .i64 acc] 43 (0, 0))
  obtain ⟨V, hV⟩ : ∃ V, V = (W.alloc (.cells #[.int .i64 kd, .int .i64 pt, .int .i64 fn, .int .i64 ar, .slice ip n ic] 24 (0, 0))).alloc (.cells #[.int .i64 key, .int .i64 cnt, .int .i64 acc] 43 (0, 0)) := ⟨_, rfl⟩
  have hbV : Below W.heap.size W V := by rw [hV]; exact ab1.trans (ab2.mono ab1.size)
  have u0 : V.heap[W.heap.size]? = some (.cells #[.int .i64 kd, .int .i64 pt, .int .i64 fn, .int .i64 ar, .slice ip n ic] 24 (0, 0)) := by rw [hV]; exact below_box ab2 (heap_alloc_new W _)
  have u1 : V.heap[W.heap.size + 1]? = some (.cells #[.int .i64 key, .int .i64 cnt, .int .i64 acc] 43 (0, 0)) := by
    have e : W.heap.size + 1 = (W.alloc (.cells #[.int .i64 kd, .int .i64 pt, .int .i64 fn, .int .i64 ar, .slice ip n ic] 24 (0, 0))).heap.size := by simp
    rw [hV, e]
    exact heap_alloc_new _ _
  have HVB := hide hbV
  have HO := hide (ownsRow_later ho hbV)
  obtain ⟨sB, hsB⟩ : ∃ sB, W.heap.size = sB := ⟨_, rfl⟩
  rw [hsB] at u0 u1
  have z0 : V.cell? ⟨sB, 0, none⟩ = some (.int .i64 kd) := by simp [World.cell?, u0]
  have z1 : V.cell? ⟨sB + 1, 0, none⟩ = some (.int .i64 key) := by simp [World.cell?, u1]
  have z2 : V.cell? ⟨sB + 1, 2, none⟩ = some (.int .i64 acc) := by simp [World.cell?, u1]
  have HBS : Hid (base ≤ V.heap.size) := hide (Nat.le_trans hbs hbV.size)
  clear ab1 ab2 hbV ho u0 u1
  by_cases hq : (kd == 6 && sb) = true
  · have ht : tellC kd sb key acc = [] := by unfold tellC; rw [if_pos hq]
    rw [ht, List.append_nil]
    simp only [Bool.and_eq_true, beq_iff_eq] at hq
    obtain ⟨rfl, rfl⟩ := hq
    clear ht
    go_enter Try.func17, Try.ntmps17
    go_upto_region 1 with fail
    rw [← hV]
    try rw [hsB]
    clear hV hsB
    go_wp2
    go_ret
    exact ⟨p, c, rfl, HO.out, Only.fresh HVB.out _⟩
  · have ht : tellC kd sb key acc = [⟨0, key, acc⟩] := by unfold tellC; rw [if_neg hq]
    rw [ht]
    have hq2 : (kd == 6 && sb) = false := by simpa using hq
    have HK1 : Hid (m + 1 ≤ maxLen) := by show _ ≤ _; unfold maxLen; omega
    have HK2 : Hid ((m + 1) * 24 ≤ 140737488355328) := hide hm
    have ab := alloc_below V (.cells #[.int .i64 0, .int .i64 key, .int .i64 acc] 41 (0, 0))
    have HRW := hide (ownsRow_later HO.out ab)
    have HSG : Hid (Seg (V.alloc (.cells #[.int .i64 0, .int .i64 key, .int .i64 acc] 41 (0, 0))) 3 (.slice (some ⟨V.heap.size, 0, none⟩) 1 1) 1 [.int .i64 0, .int .i64 key, .int .i64 acc]) := hide (Seg.news (heap_alloc_new V _) (by simp [Value.oneCell']) rfl (Nat.le_refl _) (by decide))
    have HBB : Hid (base ≤ (V.alloc (.cells #[.int .i64 0, .int .i64 key, .int .i64 acc] 41 (0, 0))).heap.size) := hide (Nat.le_trans HBS.out ab.size)
    clear ht hm ab
    by_cases h66 : kd = 6
    · subst h66
      obtain rfl : sb = false := by simpa using hq2
      clear hq hq2
      go_enter Try.func17, Try.ntmps17
      go_upto_region 1 with fail
      rw [← hV]
      try rw [hsB]
      clear hV hsB
      go_wp2_with (at_builtin; refine append_cells _ rfl (.tmp 16) (.tmp 23) 30 rfl base 41 i0 (.agg #[.int .i64 0, .int .i64 0, .int .i64 0]) 3 24 Try.underlying30 hI0 hz0 hz1 hz2 rfl (by decide) (.slice p m c) m _ rfl HRW.out (.slice (some ⟨V.heap.size, 0, none⟩) 1 1) 1 _ rfl HSG.out HK1.out HK2.out HBB.out ?_)
      intro p6 c6 w6 o6 g6
      have HN : Hid (Only (fun i => (Value.slice p m c).ownBlock = some i) W w6) := hide (((Only.fresh HVB.out _).trans (Only.alloc _ _ _)).trans (Only.of_grown g6 (fun k e => e)))
      have HO6 : Hid (w6.ownsRow base 41 3 (.slice p6 (m + 1) c6) (m + 1) ((xs ++ [(⟨0, key, acc⟩ : PU)]).flatMap PU.cells)) := by
        refine hide ?_
        rw [List.flatMap_append]
        exact o6
      clear o6 g6
      go_wp2
      go_ret
      exact ⟨p6, c6, rfl, HO6.out, HN.out⟩
    · have e66 := ne_eq h66
      clear hq hq2 h66
      go_enter Try.func17, Try.ntmps17
      go_upto_region 1 with fail
      rw [← hV]
      try rw [hsB]
      clear hV hsB
      go_wp2_with (at_builtin; refine append_cells _ rfl (.tmp 16) (.tmp 23) 30 rfl base 41 i0 (.agg #[.int .i64 0, .int .i64 0, .int .i64 0]) 3 24 Try.underlying30 hI0 hz0 hz1 hz2 rfl (by decide) (.slice p m c) m _ rfl HRW.out (.slice (some ⟨V.heap.size, 0, none⟩) 1 1) 1 _ rfl HSG.out HK1.out HK2.out HBB.out ?_)
      intro p6 c6 w6 o6 g6
      have HN : Hid (Only (fun i => (Value.slice p m c).ownBlock = some i) W w6) := hide (((Only.fresh HVB.out _).trans (Only.alloc _ _ _)).trans (Only.of_grown g6 (fun k e => e)))
      have HO6 : Hid (w6.ownsRow base 41 3 (.slice p6 (m + 1) c6) (m + 1) ((xs ++ [(⟨0, key, acc⟩ : PU)]).flatMap PU.cells)) := by
        refine hide ?_
        rw [List.flatMap_append]
        exact o6
      clear o6 g6
      go_wp2
      go_ret
      exact ⟨p6, c6, rfl, HO6.out, HN.out⟩
end Go.Proofs.Ytcabfohmimglpaa
