/-
  Peek, Take, Records of the reference's queue, and its Same. The conditions: what is handed in is such a queue.
-/
import Derived.Test.YtmmdgffgnpnmeaaEqn
namespace Go.Proofs.Ytmmdgffgnpnmeaa
open Go.RowKit

structure RCells (W : World) (b : Nat) (r : Int) (p : Option Addr) (n c : Nat) (l : Int) : Prop where
  c0 : W.cell? ⟨b, 0, none⟩ = some (.slice p n c)
  c1 : W.cell? ⟨b, 1, none⟩ = some (.int .i64 r)
  c2 : W.cell? ⟨b, 2, none⟩ = some (.int .i64 l)
theorem rbox_cells {W : World} {b n c : Nat} {r l : Int} {p : Option Addr} (h : W.heap[b]? = some (.cells #[.slice p n c, .int .i64 r, .int .i64 l] 58 (0, 0))) : RCells W b r p n c l :=
  ⟨by simp [World.cell?, h], by simp [World.cell?, h], by simp [World.cell?, h]⟩
theorem RCells.later {W W' : World} {b n c : Nat} {r l : Int} {p : Option Addr} (h : RCells W b r p n c l) (hb : Below W.heap.size W W') : RCells W' b r p n c l := ⟨cell_later hb h.c0, cell_later hb h.c1, cell_later hb h.c2⟩
set_option maxHeartbeats 1000000 in
theorem rpeek_some {W : World} {b n c g o : Nat} {r l : Int} {k0 k1 k2 k3 : Int} (h : RCells W b r (some ⟨g, o, none⟩) n c l) (hn : 0 < n) (a0 : W.cell? ⟨g, o, none⟩ = some (.int .i64 k0)) (a1 : W.cell? ⟨g, o + 1, none⟩ = some (.int .i64 k1)) (a2 : W.cell? ⟨g, o + 2, none⟩ = some (.int .i64 k2)) (a3 : W.cell? ⟨g, o + 3, none⟩ = some (.int .i64 k3)) :
    Calls Try.prog 29 #[.pointer (some ⟨b, 0, none⟩)] W fun e w' => e = .returned (.tuple #[.agg #[.int .i64 k0, .int .i64 k1, .int .i64 k2, .int .i64 k3], .bool true]) ∧ Below W.heap.size W w' := by
  obtain ⟨V, hV⟩ : ∃ V, V = W.alloc (.cells #[.int .i64 0, .int .i64 0, .int .i64 0, .int .i64 0] 34 (0, 0)) := ⟨_, rfl⟩
  have bV : Below W.heap.size W V := by rw [hV]; exact alloc_below _ _
  have u3 : V.heap[W.heap.size]? = some (.cells #[.int .i64 0, .int .i64 0, .int .i64 0, .int .i64 0] 34 (0, 0)) := by rw [hV]; exact heap_alloc_new W _
  obtain ⟨sB, hsB⟩ : ∃ sB, W.heap.size = sB := ⟨_, rfl⟩
  rw [hsB] at u3
  have c0 := (h.later bV).c0
  replace a0 := cell_later bV a0
  replace a1 := cell_later bV a1
  replace a2 := cell_later bV a2
  replace a3 := cell_later bV a3
  have HBV := hide bV
  have HSB := hide hsB
  have HU := hide u3
  have e1 : ((n : Int) == 0) = false := ne_eq (by omega)
  have hn' : (0 : Int) < n := by omega
  obtain ⟨f0, f1, f2, f3, u0, u1, u2, u4⟩ := four u3
  clear h bV u3
  go_enter Try.func29, Try.ntmps29
  go_upto_region 1 with fail
  rw [← hV]
  try rw [hsB]
  clear hV hsB
  go_wp2
  have hE := heap_set4 HU.out (.int .i64 k0) (.int .i64 k1) (.int .i64 k2) (.int .i64 k3)
  refine bodyPost_ret (results_cell_bool rfl _ _ sB 34 _ _ _ rfl hE Try.underlying34 rfl (by kernel_rfl)) rfl ?_
  exact ⟨rfl, HBV.out.trans ((only_set4 _ sB _ _ _ _).below HBV.out.size (fun i e => by have e' : i = sB := e; have := HSB.out; omega))⟩
set_option maxHeartbeats 1000000 in
theorem rpeek_none {W : World} {b c : Nat} {r l : Int} {p : Option Addr} (h : RCells W b r p 0 c l) :
    Calls Try.prog 29 #[.pointer (some ⟨b, 0, none⟩)] W fun e w' => e = .returned (.tuple #[.agg #[.int .i64 0, .int .i64 0, .int .i64 0, .int .i64 0], .bool false]) ∧ Below W.heap.size W w' := by
  obtain ⟨V, hV⟩ : ∃ V, V = W.alloc (.cells #[.int .i64 0, .int .i64 0, .int .i64 0, .int .i64 0] 34 (0, 0)) := ⟨_, rfl⟩
  have bV : Below W.heap.size W V := by rw [hV]; exact alloc_below _ _
  have u3 : V.heap[W.heap.size]? = some (.cells #[.int .i64 0, .int .i64 0, .int .i64 0, .int .i64 0] 34 (0, 0)) := by rw [hV]; exact heap_alloc_new W _
  obtain ⟨sB, hsB⟩ : ∃ sB, W.heap.size = sB := ⟨_, rfl⟩
  rw [hsB] at u3
  have c0 := (h.later bV).c0
  have HBV := hide bV
  have HSB := hide hsB
  have HU := hide u3
  obtain ⟨f0, f1, f2, f3, u0, u1, u2, u4⟩ := four u3
  clear h bV u3
  go_enter Try.func29, Try.ntmps29
  go_upto_region 1 with fail
  rw [← hV]
  try rw [hsB]
  clear hV hsB
  go_wp2
  have hE := heap_set4 HU.out (.int .i64 0) (.int .i64 0) (.int .i64 0) (.int .i64 0)
  refine bodyPost_ret (results_cell_bool rfl _ _ sB 34 _ _ _ rfl hE Try.underlying34 rfl (by kernel_rfl)) rfl ?_
  exact ⟨rfl, HBV.out.trans ((only_set4 _ sB _ _ _ _).below HBV.out.size (fun i e => by have e' : i = sB := e; have := HSB.out; omega))⟩
theorem rpeek_any {base : Nat} {W : World} {b : Nat} {p : Option Addr} {c : Nat} {q : QC} (h : RQ base W b p c q) :
    Calls Try.prog 29 #[.pointer (some ⟨b, 0, none⟩)] W fun e w' => e = .returned (.tuple #[q.first.agg, .bool q.any]) ∧ Below W.heap.size W w' := by
  have hb := rbox_cells h.box
  have hr := h.row
  obtain ⟨room, evs, last⟩ := q
  cases evs with
  | nil => exact (rpeek_none hb).mono fun e w' h => h
  | cons x xs =>
    obtain ⟨g, o, rfl, a0, a1, a2, a3⟩ := hr.at (i := 0) (by simp) (x := x) rfl
    simp only [Nat.zero_mul, Nat.add_zero] at a0 a1 a2 a3
    exact (rpeek_some hb (by simp) a0 a1 a2 a3).mono fun e w' h => h
theorem erow_tail {W : World} {g o c : Nat} {x : EV} {xs : List EV} (h : ERow W (some ⟨g, o, none⟩) c (x :: xs)) {A : Addr} (hA : A = if c = 1 then ⟨g, o, none⟩ else ⟨g, o + 4, none⟩) : ERow W (some A) (c - 1) xs := by
  have hle := h.le
  simp only [List.length_cons] at hle
  refine ⟨by omega, by have := h.top; omega, (fun e => by cases e), fun i hi => ?_⟩
  have hc : ¬ c = 1 := by omega
  rw [if_neg hc] at hA
  subst hA
  obtain ⟨g', o', e, h1⟩ := h.cell (i + 1) (by simp; omega)
  simp only [Option.some.injEq, Addr.mk.injEq, and_true] at e
  obtain ⟨rfl, rfl⟩ := e
  refine ⟨g, o + 4, rfl, fun j hj => ?_⟩
  have h2 := h1 j hj
  have e1 : (x :: xs)[i + 1]! = xs[i]! := by rw [getElem!_pos (x :: xs) (i + 1) (by simp; omega), getElem!_pos xs i hi]; rfl
  rw [e1] at h2
  rw [← h2]
  congr 2
  omega
set_option maxHeartbeats 1000000 in
theorem rtake_some {W : World} {b n c g o : Nat} {r l : Int} {k0 k1 k2 k3 : Int} (h : W.heap[b]? = some (.cells #[.slice (some ⟨g, o, none⟩) n c, .int .i64 r, .int .i64 l] 58 (0, 0))) (hn : 0 < n) (_hnc : n ≤ c) (_hcm : c ≤ 9223372036854775807) {A : Option Addr} (hA : (if c = 1 then some (⟨g, o, none⟩ : Addr) else some ⟨g, o + 4, none⟩) = A) (a0 : W.cell? ⟨g, o, none⟩ = some (.int .i64 k0)) (a1 : W.cell? ⟨g, o + 1, none⟩ = some (.int .i64 k1)) (a2 : W.cell? ⟨g, o + 2, none⟩ = some (.int .i64 k2)) (a3 : W.cell? ⟨g, o + 3, none⟩ = some (.int .i64 k3)) :
    Calls Try.prog 11 #[.pointer (some ⟨b, 0, none⟩)] W fun e w' => e = .returned (.tuple #[.agg #[.int .i64 k0, .int .i64 k1, .int .i64 k2, .int .i64 k3], .bool true]) ∧ w'.heap[b]? = some (.cells #[.slice A (n - 1) (c - 1), .int .i64 r, .int .i64 l] 58 (0, 0)) ∧ Only (· = b) W w' := by
  obtain ⟨V, hV⟩ : ∃ V, V = W.alloc (.cells #[.int .i64 0, .int .i64 0, .int .i64 0, .int .i64 0] 34 (0, 0)) := ⟨_, rfl⟩
  have bV : Below W.heap.size W V := by rw [hV]; exact alloc_below _ _
  have u3 : V.heap[W.heap.size]? = some (.cells #[.int .i64 0, .int .i64 0, .int .i64 0, .int .i64 0] 34 (0, 0)) := by rw [hV]; exact heap_alloc_new W _
  obtain ⟨sB, hsB⟩ : ∃ sB, W.heap.size = sB := ⟨_, rfl⟩
  have hbl := (Array.getElem?_eq_some_iff.1 h).1
  have hVs : V.heap.size = sB + 1 := by rw [hV, ← hsB]; simp
  rw [hsB] at u3 hbl
  have hq := (bV.block b (by omega)).trans h
  have c0 := (rbox_cells hq).c0
  replace a0 := cell_later bV a0
  replace a1 := cell_later bV a1
  replace a2 := cell_later bV a2
  replace a3 := cell_later bV a3
  have HBV := hide bV
  have HSB := hide hsB
  have HU := hide u3
  have HQ := hide hq
  have e1 : ((n : Int) == 0) = false := ne_eq (by omega)
  have hn' : (0 : Int) < n := by omega
  clear h bV u3 hq
  go_enter Try.func11, Try.ntmps11
  go_upto_region 1 with fail
  rw [← hV]
  try rw [hsB]
  clear hV hsB
  go_upto_region 4 with fail
  obtain ⟨X, hX⟩ : ∃ X, X = V.alloc (.cells #[.int .i64 k0, .int .i64 k1, .int .i64 k2, .int .i64 k3] 34 (0, 0)) := ⟨_, rfl⟩
  rw [← hX]
  have bX : Below V.heap.size V X := by rw [hX]; exact alloc_below _ _
  have hn1 : X.heap[sB + 1]? = some (.cells #[.int .i64 k0, .int .i64 k1, .int .i64 k2, .int .i64 k3] 34 (0, 0)) := by rw [hX, ← hVs]; exact heap_alloc_new V _
  have hq2 := (bX.block b (by omega)).trans HQ.out
  have hs2 := (bX.block sB (by omega)).trans HU.out
  have x0 := (rbox_cells hq2).c0
  have xf : X.frozen? ⟨b, 0, none⟩ = false := by simp [World.frozen?, hq2]
  have HQ2 := hide hq2
  have HS2 := hide hs2
  have HN1 := hide hn1
  have HBX := hide bX
  obtain ⟨Y, hY⟩ : ∃ Y, Y = X.setCell ⟨b, 0, none⟩ (.slice A (n - 1) (c - 1)) := ⟨_, rfl⟩
  clear hX bX hn1 hq2 hs2 c0 a0 a1 a2 a3
  go_upto_region 5 with fail
  rw [← hY]
  have hY0 : Only (· = b) X Y := by rw [hY]; exact Only.set _ _ _ _ rfl
  have HQ3 : Hid (Y.heap[b]? = some (.cells #[.slice A (n - 1) (c - 1), .int .i64 r, .int .i64 l] 58 (0, 0))) := by rw [hY]; exact hide (heap_set_same HQ2.out 0 _)
  have hs3 := hY0.obj HS2.out (fun e => by have e' : sB = b := e; omega)
  have hn3 := hY0.obj HN1.out (fun e => by have e' : sB + 1 = b := e; omega)
  have HS3 := hide hs3
  have HY0 := hide hY0
  obtain ⟨f0, f1, f2, f3, u0, u1, u2, u4⟩ := four hs3
  obtain ⟨_, _, _, _, v0, v1, v2, v4⟩ := four hn3
  clear hA hY hY0 hs3 hn3 x0 xf
  go_wp2
  have hE := heap_set4 HS3.out (.int .i64 k0) (.int .i64 k1) (.int .i64 k2) (.int .i64 k3)
  have hO := only_set4 Y sB (.int .i64 k0) (.int .i64 k1) (.int .i64 k2) (.int .i64 k3)
  refine bodyPost_ret (results_cell_bool rfl _ _ sB 34 _ _ _ rfl hE Try.underlying34 rfl (by kernel_rfl)) rfl ?_
  have hWX : Below W.heap.size W X := HBV.out.trans (HBX.out.mono (by rw [hVs, HSB.out]; omega))
  refine ⟨rfl, hO.obj HQ3.out (fun e => by have e' : b = sB := e; omega), ?_⟩
  exact ((Only.fresh hWX _).trans HY0.out).step hO (fun i e => .inr (by have e' : i = sB := e; have := HSB.out; omega))
set_option maxHeartbeats 1000000 in
theorem rtake_none {W : World} {b c : Nat} {r l : Int} {p : Option Addr} (h : RCells W b r p 0 c l) :
    Calls Try.prog 11 #[.pointer (some ⟨b, 0, none⟩)] W fun e w' => e = .returned (.tuple #[.agg #[.int .i64 0, .int .i64 0, .int .i64 0, .int .i64 0], .bool false]) ∧ Below W.heap.size W w' := by
  obtain ⟨V, hV⟩ : ∃ V, V = W.alloc (.cells #[.int .i64 0, .int .i64 0, .int .i64 0, .int .i64 0] 34 (0, 0)) := ⟨_, rfl⟩
  have bV : Below W.heap.size W V := by rw [hV]; exact alloc_below _ _
  have u3 : V.heap[W.heap.size]? = some (.cells #[.int .i64 0, .int .i64 0, .int .i64 0, .int .i64 0] 34 (0, 0)) := by rw [hV]; exact heap_alloc_new W _
  obtain ⟨sB, hsB⟩ : ∃ sB, W.heap.size = sB := ⟨_, rfl⟩
  rw [hsB] at u3
  have c0 := (h.later bV).c0
  have HBV := hide bV
  have HSB := hide hsB
  have HU := hide u3
  obtain ⟨f0, f1, f2, f3, u0, u1, u2, u4⟩ := four u3
  clear h bV u3
  go_enter Try.func11, Try.ntmps11
  go_upto_region 1 with fail
  rw [← hV]
  try rw [hsB]
  clear hV hsB
  go_wp2
  have hE := heap_set4 HU.out (.int .i64 0) (.int .i64 0) (.int .i64 0) (.int .i64 0)
  refine bodyPost_ret (results_cell_bool rfl _ _ sB 34 _ _ _ rfl hE Try.underlying34 rfl (by kernel_rfl)) rfl ?_
  exact ⟨rfl, HBV.out.trans ((only_set4 _ sB _ _ _ _).below HBV.out.size (fun i e => by have e' : i = sB := e; have := HSB.out; omega))⟩
theorem erow_only {F : Nat → Prop} {W W' : World} {p : Option Addr} {c : Nat} {es : List EV} (h : ERow W p c es) (ho : Only F W W') (hF : ∀ a, p = some a → ¬ F a.block) : ERow W' p c es :=
  ⟨h.le, h.top, h.nil, fun i hi => by
    obtain ⟨g, o, e, h1⟩ := h.cell i hi
    refine ⟨g, o, e, fun j hj => ?_⟩
    have h2 := h1 j hj
    rw [List.getElem?_eq_getElem (by rw [EV.len]; exact hj)] at h2 ⊢
    exact ho.cell h2 (hF ⟨g, o, none⟩ e)⟩
/-- Take of the reference: the queue without the first one; its events lie where they lay, or nowhere. -/
theorem rtake_any {base : Nat} {W : World} {b : Nat} {p : Option Addr} {c : Nat} {q : QC} (h : RQ base W b p c q) (hpb : ∀ a, p = some a → a.block ≠ b) :
    Calls Try.prog 11 #[.pointer (some ⟨b, 0, none⟩)] W fun e w' => e = .returned (.tuple #[q.first.agg, .bool q.any]) ∧ Only (· = b) W w' ∧ ∃ p' c', RQ base w' b p' c' q.rest ∧ ∀ a', p' = some a' → ∃ a, p = some a ∧ a'.block = a.block := by
  have hr := h.row
  obtain ⟨room, evs, last⟩ := q
  cases evs with
  | nil =>
    refine (rtake_none (rbox_cells h.box)).mono fun e w' h' => ⟨h'.1, Only.fresh h'.2 _, p, c, h.later h'.2, fun a e => ⟨a, e, rfl⟩⟩
  | cons x xs =>
    obtain ⟨g, o, rfl, a0, a1, a2, a3⟩ := hr.at (i := 0) (by simp) (x := x) rfl
    simp only [Nat.zero_mul, Nat.add_zero] at a0 a1 a2 a3
    obtain ⟨A, hA⟩ : ∃ A : Option Addr, (if c = 1 then some (⟨g, o, none⟩ : Addr) else some ⟨g, o + 4, none⟩) = A := ⟨_, rfl⟩
    refine (rtake_some h.box (by simp) hr.le hr.top hA a0 a1 a2 a3).mono ?_
    rintro e w' ⟨he, hb, ho⟩
    replace hA := hA.symm
    obtain ⟨A', rfl⟩ : ∃ A', A = some A' := by rw [hA]; by_cases hc : c = 1 <;> simp [hc]
    have hA' : A' = if c = 1 then ⟨g, o, none⟩ else ⟨g, o + 4, none⟩ := by
      by_cases hc : c = 1
      · rw [if_pos hc] at hA ⊢; simpa using hA
      · rw [if_neg hc] at hA ⊢; simpa using hA
    have hbk : A'.block = g := by rw [hA']; by_cases hc : c = 1 <;> simp [hc]
    refine ⟨he, ho, some A', c - 1, ⟨?_, ?_, h.ge⟩, fun a' e => ⟨_, rfl, ?_⟩⟩
    · exact hb
    · exact erow_only (erow_tail hr hA') ho (fun a e => by
        simp only [Option.some.injEq] at e
        subst e
        intro e2
        have := hpb _ rfl
        rw [hbk] at e2
        exact this e2)
    · simp only [Option.some.injEq] at e
      rw [← e]
      exact hbk
end Go.Proofs.Ytmmdgffgnpnmeaa
