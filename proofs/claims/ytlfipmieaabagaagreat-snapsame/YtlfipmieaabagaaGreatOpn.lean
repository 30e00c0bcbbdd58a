/-
  Value, keeps, next, tell, pass of the program. The conditions: that numbers are of their types; lengths.
-/
import Derived.Test.YtlfipmieaabagaaGreatOpm
import Derived.Deep.RegionHeld3
import Derived.Deep.Cut
import Derived.Deep.CutBlock
namespace Go.Proofs.YtlfipmieaabagaaGreat.Op
open Go.RowKit

theorem below_box {W W' : World} {b : Nat} {o : Obj} (hb : Below W.heap.size W W') (h : W.heap[b]? = some o) : W'.heap[b]? = some o :=
  (hb.block b (Array.getElem?_eq_some_iff.1 h).1).trans h
theorem rec_facts {w : World} {b : Nat} {c0 c1 : Value} (h : w.heap[b]? = some (.cells #[c0, c1] 51 (0, 0))) (d0 : Value) :
    w.cell? ⟨b, 0, none⟩ = some c0 ∧ w.frozen? ⟨b, 0, none⟩ = false ∧ (w.setCell ⟨b, 0, none⟩ d0).cell? ⟨b, 1, none⟩ = some c1 ∧ (w.setCell ⟨b, 0, none⟩ d0).frozen? ⟨b, 1, none⟩ = false := by
  have h1 := heap_setCell_same w b 0 _ _ d0 h
  refine ⟨by simp [World.cell?, h], by simp [World.frozen?, h], ?_, ?_⟩
  · simp only [World.cell?]; rw [h1]; rfl
  · simp only [World.frozen?]; rw [h1]; rfl
theorem set2 {W : World} {b : Nat} {c0 c1 : Value} (h : W.heap[b]? = some (.cells #[c0, c1] 51 (0, 0))) (d0 d1 : Value) :
    ((W.setCell ⟨b, 0, none⟩ d0).setCell ⟨b, 1, none⟩ d1).heap[b]? = some (.cells #[d0, d1] 51 (0, 0)) :=
  heap_setCell_same _ b 1 _ _ d1 (heap_setCell_same W b 0 _ _ d0 h)
theorem only_set2 (W : World) (b : Nat) (d0 d1 : Value) : Only (· = b) W ((W.setCell ⟨b, 0, none⟩ d0).setCell ⟨b, 1, none⟩ d1) :=
  (Only.set (F := (· = b)) W b 0 d0 rfl).trans (Only.set (F := (· = b)) _ b 1 d1 rfl)
theorem heap_set_other {w : World} {b c o : Nat} {v : Value} {x : Obj} (h : w.heap[c]? = some x) (hne : b ≠ c) : (w.setCell ⟨b, o, none⟩ v).heap[c]? = some x :=
  (Only.set (F := (· = b)) w b o v rfl).obj h (fun e => hne e.symm)

def keepsC (kd : Int) : Bool := kd == 5 || kd == 6
set_option maxRecDepth 100000 in
set_option maxHeartbeats 4000000 in
theorem keeps_any {W : World} {kd pt fn ar : Int} {ip : Option Addr} {n ic : Nat} : Calls Tryz.prog 126 #[.agg #[.int .i64 kd, .int .i64 pt, .int .i64 fn, .int .i64 ar, .slice ip n ic]] W fun e w' => e = .returned (.bool (keepsC kd)) ∧ Below W.heap.size W w' := by
  have HB := hide (alloc_below W (.cells #[.int .i64 kd, .int .i64 pt, .int .i64 fn, .int .i64 ar, .slice ip n ic] 95 (0, 0)))
  by_cases h5 : kd = 5
  · subst h5
    go_enter Tryz.func126, Tryz.ntmps126
    go_wp2
    go_ret
    exact ⟨rfl, HB.out⟩
  · have e5 := ne_eq h5
    by_cases h6 : kd = 6
    · subst h6
      go_enter Tryz.func126, Tryz.ntmps126
      go_wp2
      go_ret
      exact ⟨rfl, HB.out⟩
    · have e6 := ne_eq h6
      have HR : Hid (keepsC kd = false) := hide (by unfold keepsC; rw [e5, e6]; rfl)
      rw [HR.out]
      clear h5 h6
      go_enter Tryz.func126, Tryz.ntmps126
      go_wp2
      go_ret
      exact ⟨rfl, HB.out⟩
end Go.Proofs.YtlfipmieaabagaaGreat.Op
