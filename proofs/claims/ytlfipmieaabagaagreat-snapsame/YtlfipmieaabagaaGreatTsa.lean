/-
  Tasks: how many ports, inputs, buffers; queues that are made. The conditions: of small numbers.
-/
import Derived.Test.YtlfipmieaabagaaGreatGrm
import Derived.Test.YtlfipmieaabagaaGreatSeg
import Derived.Laws.OwnMore
import Derived.BigRegion
import Derived.BigQuiet
import Derived.WalkMore
import Derived.OwnWalk
import Derived.Deep.Cut
import Derived.Deep.CutBlock
import Derived.Deep.CutRange
import Derived.Deep.RegionHeld3
namespace Go.Proofs.YtlfipmieaabagaaGreat
open Go.RowKit

set_option maxRecDepth 100000 in
theorem portCount_any {W : World} {kd pt fn ar : Int} {ip : Option Addr} {n ic : Nat} {r : Int} (hr : (if kd = 9 then 1 else portsC kd ar) = r) :
    Calls Tryz.prog 106 #[.agg #[.int .i64 kd, .int .i64 pt, .int .i64 fn, .int .i64 ar, .slice ip n ic]] W fun e w' => e = .returned (.int .i64 r) ∧ Below W.heap.size W w' := by
  have ab := alloc_below W (.cells #[.int .i64 kd, .int .i64 pt, .int .i64 fn, .int .i64 ar, .slice ip n ic] 95 (0, 0))
  by_cases h9 : kd = 9
  · subst h9
    have HR : Hid (1 = r) := hide (by rw [← hr, if_pos rfl])
    have HB := hide ab
    clear hr ab
    go_enter Tryz.func106, Tryz.ntmps106
    go_wp2
    go_ret
    exact ⟨by rw [← HR.out]; rfl, HB.out⟩
  · have e9 := ne_eq h9
    have HR : Hid (portsC kd ar = r) := hide (by rw [← hr, if_neg h9])
    have HB := hide ab
    clear hr ab h9
    go_enter Tryz.func106, Tryz.ntmps106
    go_wp2_with fail
    refine ports_any.mono ?_
    rintro _ w1 ⟨rfl, b1⟩
    have HB1 := hide (HB.out.trans (b1.mono HB.out.size))
    rw [HR.out]
    clear b1
    go_wp2
    go_ret
    exact ⟨rfl, HB1.out⟩
set_option maxRecDepth 100000 in
theorem inputCount_any {W : World} {kd pt fn ar : Int} {ip : Option Addr} {n ic : Nat} {r : Nat} (hr : (if kd = 8 then n else 1) = r) :
    Calls Tryz.prog 72 #[.agg #[.int .i64 kd, .int .i64 pt, .int .i64 fn, .int .i64 ar, .slice ip n ic]] W fun e w' => e = .returned (.int .i64 (r : Int)) ∧ Below W.heap.size W w' := by
  have ab := alloc_below W (.cells #[.int .i64 kd, .int .i64 pt, .int .i64 fn, .int .i64 ar, .slice ip n ic] 95 (0, 0))
  by_cases h9 : kd = 8
  · subst h9
    obtain rfl : n = r := by rw [← hr, if_pos rfl]
    have HB := hide ab
    clear hr ab
    go_enter Tryz.func72, Tryz.ntmps72
    go_wp2
    go_ret
    exact ⟨rfl, HB.out⟩
  · have e9 := ne_eq h9
    obtain rfl : 1 = r := by rw [← hr, if_neg h9]
    have HB := hide ab
    clear hr ab h9
    go_enter Tryz.func72, Tryz.ntmps72
    go_wp2
    go_ret
    exact ⟨rfl, HB.out⟩
set_option maxRecDepth 100000 in
theorem bufferCount_any {W : World} {kd pt fn ar : Int} {ip : Option Addr} {n ic : Nat} {r : Nat} (hr : (if kd = 8 then n else 0) = r) :
    Calls Tryz.prog 74 #[.agg #[.int .i64 kd, .int .i64 pt, .int .i64 fn, .int .i64 ar, .slice ip n ic]] W fun e w' => e = .returned (.int .i64 (r : Int)) ∧ Below W.heap.size W w' := by
  have ab := alloc_below W (.cells #[.int .i64 kd, .int .i64 pt, .int .i64 fn, .int .i64 ar, .slice ip n ic] 95 (0, 0))
  by_cases h9 : kd = 8
  · subst h9
    obtain rfl : n = r := by rw [← hr, if_pos rfl]
    have HB := hide ab
    clear hr ab
    go_enter Tryz.func74, Tryz.ntmps74
    go_wp2
    go_ret
    exact ⟨rfl, HB.out⟩
  · have e9 := ne_eq h9
    obtain rfl : 0 = r := by rw [← hr, if_neg h9]
    have HB := hide ab
    clear hr ab h9
    go_enter Tryz.func74, Tryz.ntmps74
    go_wp2
    go_ret
    exact ⟨rfl, HB.out⟩
set_option maxRecDepth 100000 in
set_option maxHeartbeats 1000000 in
/-- An operator that a task can be of. -/
theorem fits_yes {W : World} {kd pt fn ar : Int} {ip : Option Addr} {n ic : Nat} (hu : kd = 8 → 2 ≤ n ∧ n ≤ 4) (hp : kd = 9 ∨ 0 < portsC kd ar) :
    Calls Tryz.prog 70 #[.agg #[.int .i64 kd, .int .i64 pt, .int .i64 fn, .int .i64 ar, .slice ip n ic]] W fun e w' => e = .returned (.bool true) ∧ Below W.heap.size W w' := by
  obtain ⟨V, hV⟩ : ∃ V, V = W.alloc (.cells #[.int .i64 kd, .int .i64 pt, .int .i64 fn, .int .i64 ar, .slice ip n ic] 95 (0, 0)) := ⟨_, rfl⟩
  have ab : Below W.heap.size W V := by rw [hV]; exact alloc_below _ _
  obtain ⟨r, hr⟩ : ∃ r, (if kd = 9 then 1 else portsC kd ar) = r := ⟨_, rfl⟩
  have hr0 : decide (r > 0) = true := decide_eq_true (by rw [← hr]; split; · omega
                                                         · rcases hp with h | h; · omega
                                                           · exact h)
  have HP := hide (portCount_any (W := V) (pt := pt) (fn := fn) (ip := ip) (n := n) (ic := ic) hr)
  have HB := hide ab
  by_cases h8 : kd = 8
  · subst h8
    obtain ⟨h1, h2⟩ := hu rfl
    have e1 : decide ((n : Int) < 2) = false := decide_eq_false (by omega)
    have e2 : decide ((n : Int) > 4) = false := decide_eq_false (by omega)
    have e3 : decide (n < 2) = false := decide_eq_false (by omega)
    have e4 : decide (n > 4) = false := decide_eq_false (by omega)
    clear ab hr hp hu h1 h2
    go_enter Tryz.func70, Tryz.ntmps70
    go_wp2_with fail
    rw [← hV]
    clear hV
    refine HP.out.mono ?_
    rintro _ w1 ⟨rfl, b1⟩
    have HB1 := hide (HB.out.trans (b1.mono HB.out.size))
    clear b1
    go_wp2
    go_ret
    exact ⟨rfl, HB1.out⟩
  · have e8 := ne_eq h8
    clear ab hr hp hu h8
    go_enter Tryz.func70, Tryz.ntmps70
    go_wp2_with fail
    rw [← hV]
    clear hV
    refine HP.out.mono ?_
    rintro _ w1 ⟨rfl, b1⟩
    have HB1 := hide (HB.out.trans (b1.mono HB.out.size))
    clear b1
    go_wp2
    go_ret
    exact ⟨rfl, HB1.out⟩
set_option maxRecDepth 100000 in
theorem enew_one {W : World} : Calls Tryz.prog 107 #[.int .i64 1] W fun e w' => e = .returned (.tuple #[.pointer (some ⟨W.heap.size, 0, none⟩), .int .i64 0]) ∧ Below W.heap.size W w' := by
  have HB := hide (alloc_below W (.cells #[.int .i64 1, .slice none 0 0, .int .i64 0] 211 (0, 0)))
  go_enter Tryz.func107, Tryz.ntmps107
  go_wp2
  go_ret2
  exact ⟨rfl, HB.out⟩
theorem Tryz.infoPQ : (Tryz.prog.info? 186).map (fun i => (i.zero, i.size, i.bytes)) = some (some (.pointer none), 1, 8) := by kernel_rfl
set_option maxRecDepth 100000 in
set_option maxHeartbeats 2000000 in
theorem newQueues_one {W : World} {n : Nat} (hn : n ≤ 4) : Calls Tryz.prog 71 #[.int .i64 (n : Int), .int .i64 1] W fun e w' => ∃ g, e = .returned (.tuple #[.slice (some ⟨g, 0, none⟩) n n, .int .i64 0]) ∧ Below W.heap.size W w' := by
  obtain ⟨i0, hI0, hz0, hz1, hz2⟩ := info_parts Tryz.infoPQ
  obtain ⟨w1, hrun, hown, hgr⟩ := run_make_full W W.heap.size 144 186 i0 (.pointer none) 1 Tryz.underlying144 hI0 hz0 hz1 .i64 .i64 n (by rw [hz2]; omega) (by unfold maxLen; omega) (Nat.le_refl _)
  have hb1 : Below W.heap.size W w1 := (Below.refl _ W).grown hgr (Nat.le_refl _) (fun k hk => by simp at hk)
  obtain ⟨g, hg⟩ : ∃ g, W.heap.size = g := ⟨_, rfl⟩
  rw [hg] at hrun
  have HOW0 : Hid (∃ xs, xs.length = n ∧ w1.ownsRow W.heap.size 186 1 (.slice (some ⟨g, 0, none⟩) n n) n xs) := by
    rw [← hg]
    exact hide ⟨_, by have := hown.1; omega, hown⟩
  have HB1 := hide hb1
  have HG := hide hg
  clear hown hgr hb1 hg
  go_enter Tryz.func71, Tryz.ntmps71
  go_wp2_with fail
  go_loopw [14] (fun s wq => ∃ (j : Nat), j ≤ n ∧ s = .int .i64 (j : Int) ∧ Hid (∃ xs, xs.length = n ∧ wq.ownsRow W.heap.size 186 1 (.slice (some ⟨g, 0, none⟩) n n) n xs) ∧ Hid (Below W.heap.size W wq)) (fun s _ => n - (intOf s).toNat)
  case atStart => exact ⟨0, Nat.zero_le _, rfl, HOW0, HB1⟩
  case round =>
    obtain ⟨j, hj, rfl, HO, HB⟩ := hrel
    rename World => wq
    clear HOW0 hrun
    by_cases hlt : j < n
    · go_wp2_with fail
      refine enew_one.mono ?_
      rintro _ w2 ⟨rfl, b2⟩
      obtain ⟨xs, hxl, hO⟩ := HO.out
      have hO3 := ownsRow_later hO b2
      obtain ⟨v0, c0⟩ : ∃ v, w2.cell? ⟨g, j, none⟩ = some v := by
        have h9 := hO3.cellAt j (by omega)
        rw [List.getElem?_eq_getElem (by omega)] at h9
        exact ⟨_, h9⟩
      have f0 : w2.frozen? ⟨g, j, none⟩ = false := hO3.frozenAt _
      obtain ⟨qv, hqv⟩ : ∃ qv, (Value.pointer (some ⟨wq.heap.size, 0, none⟩)) = qv := ⟨_, rfl⟩
      have hst := (hO3.stored j qv).1
      have HST : Hid (∃ xs, xs.length = n ∧ (w2.setCell ⟨g, j, none⟩ qv).ownsRow W.heap.size 186 1 (.slice (some ⟨g, 0, none⟩) n n) n xs) := hide ⟨_, by have := hst.1; omega, hst⟩
      have HB3 : Hid (Below W.heap.size W (w2.setCell ⟨g, j, none⟩ qv)) := hide ((HB.out.trans (b2.mono HB.out.size)).setCell (p := ⟨g, j, none⟩) (Nat.le_of_eq HG.out) _)
      subst hqv
      clear hst hO3 hO b2 hxl
      go_wp2
      exact ⟨⟨j + 1, by omega, by first | rfl | go_num, HST, HB3⟩, by simp [intOf]; omega⟩
    · obtain rfl : j = n := by omega
      go_wp2
      go_ret2
      exact ⟨g, rfl, HB.out⟩
end Go.Proofs.YtlfipmieaabagaaGreat
