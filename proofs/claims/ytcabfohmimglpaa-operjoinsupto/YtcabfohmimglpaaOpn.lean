/-
  Value, keeps, next, tell, pass of the program. The conditions: that numbers are of their types; lengths.
-/
import Derived.Test.YtcabfohmimglpaaOpm
import Derived.Deep.RegionHeld3
import Derived.Deep.Cut
import Derived.Deep.CutBlock
namespace Go.Proofs.Ytcabfohmimglpaa
open Go.RowKit

theorem below_box {W W' : World} {b : Nat} {o : Obj} (hb : Below W.heap.size W W') (h : W.heap[b]? = some o) : W'.heap[b]? = some o :=
  (hb.block b (Array.getElem?_eq_some_iff.1 h).1).trans h
theorem rec_facts {w : World} {b : Nat} {c0 c1 : Value} (h : w.heap[b]? = some (.cells #[c0, c1] 39 (0, 0))) (d0 : Value) :
    w.cell? ⟨b, 0, none⟩ = some c0 ∧ w.frozen? ⟨b, 0, none⟩ = false ∧ (w.setCell ⟨b, 0, none⟩ d0).cell? ⟨b, 1, none⟩ = some c1 ∧ (w.setCell ⟨b, 0, none⟩ d0).frozen? ⟨b, 1, none⟩ = false := by
  have h1 := heap_setCell_same w b 0 _ _ d0 h
  refine ⟨by simp [World.cell?, h], by simp [World.frozen?, h], ?_, ?_⟩
  · simp only [World.cell?]; rw [h1]; rfl
  · simp only [World.frozen?]; rw [h1]; rfl
theorem set2 {W : World} {b : Nat} {c0 c1 : Value} (h : W.heap[b]? = some (.cells #[c0, c1] 39 (0, 0))) (d0 d1 : Value) :
    ((W.setCell ⟨b, 0, none⟩ d0).setCell ⟨b, 1, none⟩ d1).heap[b]? = some (.cells #[d0, d1] 39 (0, 0)) :=
  heap_setCell_same _ b 1 _ _ d1 (heap_setCell_same W b 0 _ _ d0 h)
theorem only_set2 (W : World) (b : Nat) (d0 d1 : Value) : Only (· = b) W ((W.setCell ⟨b, 0, none⟩ d0).setCell ⟨b, 1, none⟩ d1) :=
  (Only.set (F := (· = b)) W b 0 d0 rfl).trans (Only.set (F := (· = b)) _ b 1 d1 rfl)
theorem heap_set_other {w : World} {b c o : Nat} {v : Value} {x : Obj} (h : w.heap[c]? = some x) (hne : b ≠ c) : (w.setCell ⟨b, o, none⟩ v).heap[c]? = some x :=
  (Only.set (F := (· = b)) w b o v rfl).obj h (fun e => hne e.symm)

set_option maxRecDepth 100000 in
set_option maxHeartbeats 4000000 in
theorem value_any {W : World} {kd pt fn ar ky vl : Int} {ip : Option Addr} {n ic : Nat} (hk : I6 ky) (hv : I6 vl) (ha : I6 ar) {k' v' : Int} (hr : valueC kd fn ar ky vl = (k', v')) :
    Calls Try.prog 20 #[.agg #[.int .i64 kd, .int .i64 pt, .int .i64 fn, .int .i64 ar, .slice ip n ic], .agg #[.int .i64 ky, .int .i64 vl]] W fun e w' => e = .returned (.agg #[.int .i64 k', .int .i64 v']) ∧ Below W.heap.size W w' := by
  obtain ⟨V, hV⟩ : ∃ V, V = ((W.alloc (.cells #[.int .i64 kd, .int .i64 pt, .int .i64 fn, .int .i64 ar, .slice ip n ic] 24 (0, 0))).alloc (.cells #[.int .i64 ky, .int .i64 vl] 39 (0, 0))).alloc (.cells #[.int .i64 0, .int .i64 0] 39 (0, 0)) := ⟨_, rfl⟩
  have ab1 := alloc_below W (.cells #[.int .i64 kd, .int .i64 pt, .int .i64 fn, .int .i64 ar, .slice ip n ic] 24 (0, 0))
  have ab2 := alloc_below (W.alloc (.cells #[.int .i64 kd, .int .i64 pt, .int .i64 fn, .int .i64 ar, .slice ip n ic] 24 (0, 0))) (.cells #[.int .i64 ky, .int .i64 vl] 39 (0, 0))
  have ab3 := alloc_below ((W.alloc (.cells #[.int .i64 kd, .int .i64 pt, .int .i64 fn, .int .i64 ar, .slice ip n ic] 24 (0, 0))).alloc (.cells #[.int .i64 ky, .int .i64 vl] 39 (0, 0))) (.cells #[.int .i64 0, .int .i64 0] 39 (0, 0))
  have hbV : Below W.heap.size W V := by rw [hV]; exact (ab1.trans (ab2.mono ab1.size)).trans (ab3.mono (Nat.le_trans ab1.size ab2.size))
  have u0 : V.heap[W.heap.size]? = some (.cells #[.int .i64 kd, .int .i64 pt, .int .i64 fn, .int .i64 ar, .slice ip n ic] 24 (0, 0)) := by rw [hV]; exact below_box ab3 (below_box ab2 (heap_alloc_new W _))
  have u1 : V.heap[W.heap.size + 1]? = some (.cells #[.int .i64 ky, .int .i64 vl] 39 (0, 0)) := by
    have e : W.heap.size + 1 = (W.alloc (.cells #[.int .i64 kd, .int .i64 pt, .int .i64 fn, .int .i64 ar, .slice ip n ic] 24 (0, 0))).heap.size := by simp
    rw [hV, e]
    exact below_box ab3 (heap_alloc_new _ _)
  have u2 : V.heap[W.heap.size + 2]? = some (.cells #[.int .i64 0, .int .i64 0] 39 (0, 0)) := by
    have e : W.heap.size + 2 = ((W.alloc (.cells #[.int .i64 kd, .int .i64 pt, .int .i64 fn, .int .i64 ar, .slice ip n ic] 24 (0, 0))).alloc (.cells #[.int .i64 ky, .int .i64 vl] 39 (0, 0))).heap.size := by simp
    rw [hV, e]
    exact heap_alloc_new _ _
  have HVB := hide hbV
  obtain ⟨sB, hsB⟩ : ∃ sB, W.heap.size = sB := ⟨_, rfl⟩
  rw [hsB] at u0 u1 u2
  have HSB := hide hsB
  have HR := hide hr
  clear ab1 ab2 ab3 hbV hr
  by_cases h2 : kd = 2
  · subst h2
    have hq := HR.out
    unfold valueC at hq
    rw [if_pos rfl] at hq
    simp only [Prod.mk.injEq] at hq
    obtain ⟨rfl, rfl⟩ := hq
    obtain ⟨y, hy⟩ : ∃ y, mappedC fn ar vl = y := ⟨_, rfl⟩
    have HC := hide (mapped_any (W := V) (kd := 2) (pt := pt) (fn := fn) (ar := ar) (v := vl) (ip := ip) (n := n) (ic := ic))
    rw [hy] at HC ⊢
    have z0 : V.cell? ⟨sB, 0, none⟩ = some (.int .i64 2) := by simp [World.cell?, u0]
    have z1 : V.cell? ⟨sB, 1, none⟩ = some (.int .i64 pt) := by simp [World.cell?, u0]
    have z2 : V.cell? ⟨sB, 2, none⟩ = some (.int .i64 fn) := by simp [World.cell?, u0]
    have z3 : V.cell? ⟨sB, 3, none⟩ = some (.int .i64 ar) := by simp [World.cell?, u0]
    have z4 : V.cell? ⟨sB, 4, none⟩ = some (.slice ip n ic) := by simp [World.cell?, u0]
    have r0 : V.cell? ⟨sB + 1, 0, none⟩ = some (.int .i64 ky) := by simp [World.cell?, u1]
    have r1 : V.cell? ⟨sB + 1, 1, none⟩ = some (.int .i64 vl) := by simp [World.cell?, u1]
    clear hk hv ha hy
    go_enter Try.func20, Try.ntmps20
    go_upto_region 1 with fail
    rw [← hV]
    try rw [hsB]
    clear hV hsB
    go_wp2_with fail
    refine HC.out.mono ?_
    rintro _ w1 ⟨rfl, b1⟩
    have o1 := below_box b1 u1
    have o2 := below_box b1 u2
    have g0 : w1.cell? ⟨sB + 1, 1, none⟩ = some (.int .i64 vl) := by simp [World.cell?, o1]
    have g1 : w1.frozen? ⟨sB + 1, 1, none⟩ = false := by simp [World.frozen?, o1]
    have p1 := heap_setCell_same w1 (sB + 1) 1 _ _ (.int .i64 y) o1
    have p2 := heap_set_other (o := 1) (v := .int .i64 y) o2 (show sB + 1 ≠ sB + 2 by omega)
    have hbX : Below W.heap.size W (w1.setCell ⟨sB + 1, 1, none⟩ (.int .i64 y)) := (HVB.out.trans (b1.mono HVB.out.size)).trans ((Only.set (F := (· = sB + 1)) w1 (sB + 1) 1 _ rfl).below (Nat.le_trans HVB.out.size b1.size) (fun i e => by have e' : i = sB + 1 := e; have := HSB.out; omega))
    obtain ⟨X, hX⟩ : ∃ X, X = w1.setCell ⟨sB + 1, 1, none⟩ (.int .i64 y) := ⟨_, rfl⟩
    rw [← hX] at p1 p2 hbX
    have HBX := hide hbX
    obtain ⟨f0, f1, f2, f3⟩ := rec_facts p2 (.int .i64 ky)
    have HE := hide (set2 p2 (.int .i64 ky) (.int .i64 y))
    have HBF : Hid (Below W.heap.size W ((X.setCell ⟨sB + 2, 0, none⟩ (.int .i64 ky)).setCell ⟨sB + 2, 1, none⟩ (.int .i64 y))) := hide (HBX.out.trans ((only_set2 X (sB + 2) _ _).below HBX.out.size (fun i e => by have e' : i = sB + 2 := e; have := HSB.out; omega)))
    have q0 : X.cell? ⟨sB + 1, 0, none⟩ = some (.int .i64 ky) := by simp [World.cell?, p1]
    have q1 : X.cell? ⟨sB + 1, 1, none⟩ = some (.int .i64 y) := by simp [World.cell?, p1]
    clear b1 o1 o2 p1 p2 hbX HC z0 z1 z2 z3 z4 r0 r1 u0 u1 u2
    go_upto_region 6 with fail
    rw [← hX]
    clear hX g0 g1
    go_wp2
    refine bodyPost_ret (results_cell_row rfl _ _ (sB + 2) 39 _ _ _ rfl HE.out Try.underlying39 rfl (by kernel_rfl)) rfl ?_
    exact ⟨rfl, HBF.out⟩
  · by_cases h4 : kd = 4
    · subst h4
      have hq := HR.out
      unfold valueC at hq
      rw [if_neg (by decide), if_pos rfl] at hq
      simp only [Prod.mk.injEq] at hq
      obtain ⟨rfl, rfl⟩ := hq
      obtain ⟨y, hy⟩ : ∃ y, keyedC fn ar ky vl = y := ⟨_, rfl⟩
      have HC := hide (keyed_any (W := V) (kd := 4) (pt := pt) (fn := fn) (ar := ar) (ip := ip) (n := n) (ic := ic) hk hv ha)
      rw [hy] at HC ⊢
      have z0 : V.cell? ⟨sB, 0, none⟩ = some (.int .i64 4) := by simp [World.cell?, u0]
      have z1 : V.cell? ⟨sB, 1, none⟩ = some (.int .i64 pt) := by simp [World.cell?, u0]
      have z2 : V.cell? ⟨sB, 2, none⟩ = some (.int .i64 fn) := by simp [World.cell?, u0]
      have z3 : V.cell? ⟨sB, 3, none⟩ = some (.int .i64 ar) := by simp [World.cell?, u0]
      have z4 : V.cell? ⟨sB, 4, none⟩ = some (.slice ip n ic) := by simp [World.cell?, u0]
      have r0 : V.cell? ⟨sB + 1, 0, none⟩ = some (.int .i64 ky) := by simp [World.cell?, u1]
      have r1 : V.cell? ⟨sB + 1, 1, none⟩ = some (.int .i64 vl) := by simp [World.cell?, u1]
      clear hk hv ha hy
      go_enter Try.func20, Try.ntmps20
      go_upto_region 1 with fail
      rw [← hV]
      try rw [hsB]
      clear hV hsB
      go_wp2_with fail
      refine HC.out.mono ?_
      rintro _ w1 ⟨rfl, b1⟩
      have o1 := below_box b1 u1
      have o2 := below_box b1 u2
      have g0 : w1.cell? ⟨sB + 1, 0, none⟩ = some (.int .i64 ky) := by simp [World.cell?, o1]
      have g1 : w1.frozen? ⟨sB + 1, 0, none⟩ = false := by simp [World.frozen?, o1]
      have p1 := heap_setCell_same w1 (sB + 1) 0 _ _ (.int .i64 y) o1
      have p2 := heap_set_other (o := 0) (v := .int .i64 y) o2 (show sB + 1 ≠ sB + 2 by omega)
      have hbX : Below W.heap.size W (w1.setCell ⟨sB + 1, 0, none⟩ (.int .i64 y)) := (HVB.out.trans (b1.mono HVB.out.size)).trans ((Only.set (F := (· = sB + 1)) w1 (sB + 1) 0 _ rfl).below (Nat.le_trans HVB.out.size b1.size) (fun i e => by have e' : i = sB + 1 := e; have := HSB.out; omega))
      obtain ⟨X, hX⟩ : ∃ X, X = w1.setCell ⟨sB + 1, 0, none⟩ (.int .i64 y) := ⟨_, rfl⟩
      rw [← hX] at p1 p2 hbX
      have HBX := hide hbX
      obtain ⟨f0, f1, f2, f3⟩ := rec_facts p2 (.int .i64 y)
      have HE := hide (set2 p2 (.int .i64 y) (.int .i64 vl))
      have HBF : Hid (Below W.heap.size W ((X.setCell ⟨sB + 2, 0, none⟩ (.int .i64 y)).setCell ⟨sB + 2, 1, none⟩ (.int .i64 vl))) := hide (HBX.out.trans ((only_set2 X (sB + 2) _ _).below HBX.out.size (fun i e => by have e' : i = sB + 2 := e; have := HSB.out; omega)))
      have q0 : X.cell? ⟨sB + 1, 0, none⟩ = some (.int .i64 y) := by simp [World.cell?, p1]
      have q1 : X.cell? ⟨sB + 1, 1, none⟩ = some (.int .i64 vl) := by simp [World.cell?, p1]
      clear b1 o1 o2 p1 p2 hbX HC z0 z1 z2 z3 z4 r0 r1 u0 u1 u2
      go_upto_region 6 with fail
      rw [← hX]
      clear hX g0 g1
      go_wp2
      refine bodyPost_ret (results_cell_row rfl _ _ (sB + 2) 39 _ _ _ rfl HE.out Try.underlying39 rfl (by kernel_rfl)) rfl ?_
      exact ⟨rfl, HBF.out⟩
    · have e2 := ne_eq h2
      have e4 := ne_eq h4
      have hq := HR.out
      unfold valueC at hq
      rw [if_neg h2, if_neg h4] at hq
      simp only [Prod.mk.injEq] at hq
      obtain ⟨rfl, rfl⟩ := hq
      have HBX := HVB
      obtain ⟨f0, f1, f2, f3⟩ := rec_facts u2 (.int .i64 ky)
      have HE := hide (set2 u2 (.int .i64 ky) (.int .i64 vl))
      have HBF : Hid (Below W.heap.size W ((V.setCell ⟨sB + 2, 0, none⟩ (.int .i64 ky)).setCell ⟨sB + 2, 1, none⟩ (.int .i64 vl))) := hide (HBX.out.trans ((only_set2 V (sB + 2) _ _).below HBX.out.size (fun i e => by have e' : i = sB + 2 := e; have := HSB.out; omega)))
      have q0 : V.cell? ⟨sB + 1, 0, none⟩ = some (.int .i64 ky) := by simp [World.cell?, u1]
      have q1 : V.cell? ⟨sB + 1, 1, none⟩ = some (.int .i64 vl) := by simp [World.cell?, u1]
      have z0 : V.cell? ⟨sB, 0, none⟩ = some (.int .i64 kd) := by simp [World.cell?, u0]
      clear hk hv ha h2 h4 u0 u1 u2
      go_enter Try.func20, Try.ntmps20
      go_upto_region 1 with fail
      rw [← hV]
      try rw [hsB]
      clear hV hsB
      go_wp2
      refine bodyPost_ret (results_cell_row rfl _ _ (sB + 2) 39 _ _ _ rfl HE.out Try.underlying39 rfl (by kernel_rfl)) rfl ?_
      exact ⟨rfl, HBF.out⟩
def keepsC (kd : Int) : Bool := kd == 5 || kd == 6
set_option maxRecDepth 100000 in
set_option maxHeartbeats 4000000 in
theorem keeps_any {W : World} {kd pt fn ar : Int} {ip : Option Addr} {n ic : Nat} : Calls Try.prog 8 #[.agg #[.int .i64 kd, .int .i64 pt, .int .i64 fn, .int .i64 ar, .slice ip n ic]] W fun e w' => e = .returned (.bool (keepsC kd)) ∧ Below W.heap.size W w' := by
  have HB := hide (alloc_below W (.cells #[.int .i64 kd, .int .i64 pt, .int .i64 fn, .int .i64 ar, .slice ip n ic] 24 (0, 0)))
  by_cases h5 : kd = 5
  · subst h5
    go_enter Try.func8, Try.ntmps8
    go_wp2
    go_ret
    exact ⟨rfl, HB.out⟩
  · have e5 := ne_eq h5
    by_cases h6 : kd = 6
    · subst h6
      go_enter Try.func8, Try.ntmps8
      go_wp2
      go_ret
      exact ⟨rfl, HB.out⟩
    · have e6 := ne_eq h6
      have HR : Hid (keepsC kd = false) := hide (by unfold keepsC; rw [e5, e6]; rfl)
      rw [HR.out]
      clear h5 h6
      go_enter Try.func8, Try.ntmps8
      go_wp2
      go_ret
      exact ⟨rfl, HB.out⟩
end Go.Proofs.Ytcabfohmimglpaa
