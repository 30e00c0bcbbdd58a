/-
  The law's graph of two sources and a union; what it comes to, plainly. No conditions.
-/
import Derived.Test.YtbcllgddogghbaaRsn
import Derived.Test.YtbcllgddogghbaaRin
import Derived.Test.YtbcllgddogghbaaRfa
namespace Go.Proofs.Ytbcllgddogghbaa
open Go.RowKit Go.Shelf

def mergeO : List GO := [⟨1, 0, 0, 0, []⟩, ⟨1, 1, 0, 0, []⟩, ⟨8, 0, 0, 0, [⟨0, 0⟩, ⟨1, 0⟩]⟩, ⟨9, 0, 0, 0, [⟨2, 0⟩]⟩]
def mergeV (b : Nat) : List OV := [⟨⟨1, 0, 0, 0, []⟩, none, 0⟩, ⟨⟨1, 1, 0, 0, []⟩, none, 0⟩, ⟨⟨8, 0, 0, 0, [⟨0, 0⟩, ⟨1, 0⟩]⟩, some ⟨b + 1, 0, none⟩, 2⟩, ⟨⟨9, 0, 0, 0, [⟨2, 0⟩]⟩, some ⟨b + 2, 0, none⟩, 1⟩]
theorem mergeV_o (b : Nat) : (mergeV b).map OV.o = mergeO := rfl
theorem merge_row {W : World} {b : Nat} (h1 : W.heap[b + 1]? = some (.cells #[.int .i64 0, .int .i64 0, .int .i64 1, .int .i64 0] 68 (0, 0))) (h2 : W.heap[b + 2]? = some (.cells #[.int .i64 2, .int .i64 0] 68 (0, 0)))
    (h3 : W.heap[b + 3]? = some (.cells #[.int .i64 1, .int .i64 0, .int .i64 0, .int .i64 0, .slice none 0 0, .int .i64 1, .int .i64 1, .int .i64 0, .int .i64 0, .slice none 0 0, .int .i64 8, .int .i64 0, .int .i64 0, .int .i64 0, .slice (some ⟨b + 1, 0, none⟩) 2 2, .int .i64 9, .int .i64 0, .int .i64 0, .int .i64 0, .slice (some ⟨b + 2, 0, none⟩) 1 1] 46 (0, 0))) : GRow W (some ⟨b + 3, 0, none⟩) 4 (mergeV b) := by
  refine ⟨Nat.le_refl _, by decide, ?_, ?_⟩
  · intro i hi
    refine ⟨b + 3, 0, rfl, fun j hj => ?_⟩
    have hi4 : i < 4 := hi
    simp only [World.cell?]
    rw [h3]
    rcases (by omega : i = 0 ∨ i = 1 ∨ i = 2 ∨ i = 3) with rfl | rfl | rfl | rfl <;> rcases (by omega : j = 0 ∨ j = 1 ∨ j = 2 ∨ j = 3 ∨ j = 4) with rfl | rfl | rfl | rfl | rfl <;> rfl
  · intro x hx
    simp only [mergeV, List.mem_cons, List.not_mem_nil, or_false] at hx
    rcases hx with rfl | rfl | rfl | rfl
    · exact ⟨Nat.le_refl _, by decide, fun i hi => absurd hi (Nat.not_lt_zero i)⟩
    · exact ⟨Nat.le_refl _, by decide, fun i hi => absurd hi (Nat.not_lt_zero i)⟩
    · refine ⟨Nat.le_refl _, by simp only; omega, fun i hi => ?_⟩
      have hi2 : i < 2 := hi
      refine ⟨b + 1, 0, rfl, ?_, ?_⟩ <;> simp only [World.cell?] <;> rw [h1] <;> rcases (by omega : i = 0 ∨ i = 1) with rfl | rfl <;> rfl
    · refine ⟨Nat.le_refl _, by simp only; omega, fun i hi => ?_⟩
      have hi1 : i < 1 := hi
      obtain rfl : i = 0 := by omega
      refine ⟨b + 2, 0, rfl, ?_, ?_⟩ <;> simp only [World.cell?] <;> rw [h2] <;> rfl

theorem four_alloc (W : World) (a b c d : Obj) : ((((W.alloc a).alloc b).alloc c).alloc d).heap[W.heap.size]? = some a ∧ ((((W.alloc a).alloc b).alloc c).alloc d).heap[W.heap.size + 1]? = some b ∧ ((((W.alloc a).alloc b).alloc c).alloc d).heap[W.heap.size + 2]? = some c ∧ ((((W.alloc a).alloc b).alloc c).alloc d).heap[W.heap.size + 3]? = some d ∧ Below W.heap.size W ((((W.alloc a).alloc b).alloc c).alloc d) := by
  have b0 := alloc_below W a
  have b1 := alloc_below (W.alloc a) b
  have b2 := alloc_below ((W.alloc a).alloc b) c
  have b3 := alloc_below (((W.alloc a).alloc b).alloc c) d
  refine ⟨below_box b3 (below_box b2 (below_box b1 (heap_alloc_new W a))), ?_, ?_, ?_, ?_⟩
  · have h := heap_alloc_new (W.alloc a) b
    rw [World.size_alloc] at h
    exact below_box b3 (below_box b2 h)
  · have h := heap_alloc_new ((W.alloc a).alloc b) c
    rw [World.size_alloc, World.size_alloc] at h
    exact below_box b3 h
  · have h := heap_alloc_new (((W.alloc a).alloc b).alloc c) d
    rw [World.size_alloc, World.size_alloc, World.size_alloc] at h
    exact h
  · exact b0.trans ((b1.mono b0.size).trans ((b2.mono (Nat.le_trans b0.size b1.size)).trans (b3.mono (Nat.le_trans b0.size (Nat.le_trans b1.size b2.size)))))
set_option maxRecDepth 100000 in
set_option maxHeartbeats 4000000 in
theorem merge_any {W : World} : Calls Try.prog 20 #[] W fun e w' => ∃ b, e = .returned (.agg #[.int .i64 2, .slice (some ⟨b + 3, 0, none⟩) 4 4]) ∧ GRow w' (some ⟨b + 3, 0, none⟩) 4 (mergeV b) ∧ Below W.heap.size W w' := by
  go_enter Try.func20, Try.ntmps20
  go_wp2
  obtain ⟨h0, h1, h2, h3, hb⟩ := four_alloc W (.cells #[.int .i64 2, .slice (some ⟨W.heap.size + 1 + 1 + 1, 0, none⟩) 4 4] 34 (0, 0)) (.cells #[.int .i64 0, .int .i64 0, .int .i64 1, .int .i64 0] 68 (0, 0)) (.cells #[.int .i64 2, .int .i64 0] 68 (0, 0)) (.cells #[.int .i64 1, .int .i64 0, .int .i64 0, .int .i64 0, .slice none 0 0, .int .i64 1, .int .i64 1, .int .i64 0, .int .i64 0, .slice none 0 0, .int .i64 8, .int .i64 0, .int .i64 0, .int .i64 0, .slice (some ⟨W.heap.size + 1, 0, none⟩) 2 2, .int .i64 9, .int .i64 0, .int .i64 0, .int .i64 0, .slice (some ⟨W.heap.size + 1 + 1, 0, none⟩) 1 1] 46 (0, 0))
  refine bodyPost_ret (results_cell_row rfl _ _ W.heap.size 34 _ _ _ rfl h0 Try.underlying34 rfl (by kernel_rfl)) rfl ?_
  exact ⟨W.heap.size, rfl, merge_row h1 h2 h3, hb⟩

def l123 : List RC := [⟨0, 1⟩, ⟨0, 2⟩, ⟨0, 3⟩]
def l9 : List RC := [⟨0, 9⟩]
def rfM (o : GO) : List (List RC) → RS := if o.kind = 8 then unionC else sinkC
def dnM : List RS := [⟨[l123], [], 0, []⟩, ⟨[l9], [], 0, []⟩, ⟨[[⟨0, 1⟩, ⟨0, 9⟩, ⟨0, 2⟩]], [], 1, [[⟨0, 3⟩], []]⟩, ⟨[], [], 0, []⟩]
theorem union_merge : unionC [l123, l9] = ⟨[[⟨0, 1⟩, ⟨0, 9⟩, ⟨0, 2⟩]], [], 1, [[⟨0, 3⟩], []]⟩ := by
  have : turnN [l123, l9] 0 = 3 := by decide
  unfold unionC
  rw [this]
  rfl
theorem fits_merge : Fits rfM mergeO [l123, l9] dnM := by
  refine ⟨rfl, ?_, ?_, ?_, by decide, ?_, ?_, by decide⟩
  · intro k hk
    have hk4 : k < 4 := hk
    rcases (by omega : k = 0 ∨ k = 1 ∨ k = 2 ∨ k = 3) with rfl | rfl | rfl | rfl
    · rfl
    · rfl
    · show _ = unionC [l123, l9]
      rw [union_merge]
      rfl
    · rfl
  · intro k hk h1
    have hk4 : k < 4 := hk
    rcases (by omega : k = 0 ∨ k = 1 ∨ k = 2 ∨ k = 3) with rfl | rfl | rfl | rfl
    · exact ⟨by decide, by decide, rfl⟩
    · exact ⟨by decide, by decide, rfl⟩
    · exact absurd h1 (by decide)
    · exact absurd h1 (by decide)
  · intro k hk h1
    have hk4 : k < 4 := hk
    rcases (by omega : k = 0 ∨ k = 1 ∨ k = 2 ∨ k = 3) with rfl | rfl | rfl | rfl
    · exact absurd rfl h1
    · exact absurd rfl h1
    · refine ⟨by decide, fun e he => ?_⟩
      have he2 : e ∈ [(⟨0, 0⟩ : GE), ⟨1, 0⟩] := he
      simp only [List.mem_cons, List.not_mem_nil, or_false] at he2
      rcases he2 with rfl | rfl
      · exact ⟨0, 0, rfl, by decide, by decide⟩
      · exact ⟨1, 0, rfl, by decide, by decide⟩
    · refine ⟨by decide, fun e he => ?_⟩
      have he2 : e ∈ [(⟨2, 0⟩ : GE)] := he
      simp only [List.mem_cons, List.not_mem_nil, or_false] at he2
      subst he2
      exact ⟨2, 0, rfl, by decide, by decide⟩
  · intro k hk h1
    have hk4 : k < 4 := hk
    rcases (by omega : k = 0 ∨ k = 1 ∨ k = 2 ∨ k = 3) with rfl | rfl | rfl | rfl
    · exact absurd rfl h1
    · exact absurd rfl h1
    · exact union_any rfl (by decide)
    · exact sinkR_any rfl (by decide)
  · intro k hk l hl
    have hk4 : k < 4 := hk
    have key : ∀ l ∈ [l123, l9, [⟨0, 1⟩, ⟨0, 9⟩, ⟨0, 2⟩]], l.length ≤ lenB ∧ ∀ r ∈ l, r.fine := by
      intro l hl
      simp only [List.mem_cons, List.not_mem_nil, or_false] at hl
      rcases hl with rfl | rfl | rfl
      all_goals
        refine ⟨by decide, fun r hr => ?_⟩
        simp only [l123, l9, List.mem_cons, List.not_mem_nil, or_false] at hr
        rcases hr with rfl | rfl | rfl <;> exact ⟨⟨by decide, by decide⟩, ⟨by decide, by decide⟩⟩
    rcases (by omega : k = 0 ∨ k = 1 ∨ k = 2 ∨ k = 3) with rfl | rfl | rfl | rfl
    · have hl2 : l ∈ [l123] := hl
      exact key l (by simp only [List.mem_cons, List.not_mem_nil, or_false] at hl2 ⊢; exact .inl hl2)
    · have hl2 : l ∈ [l9] := hl
      exact key l (by simp only [List.mem_cons, List.not_mem_nil, or_false] at hl2 ⊢; exact .inr (.inl hl2))
    · have hl2 : l ∈ [[(⟨0, 1⟩ : RC), ⟨0, 9⟩, ⟨0, 2⟩]] := hl
      exact key l (by simp only [List.mem_cons, List.not_mem_nil, or_false] at hl2 ⊢; exact .inr (.inr hl2))
    · cases hl
theorem fits_merge3 : Fits rfM (mergeO.take 3) [l123, l9] (dnM.take 3) := by
  have h := fits_merge
  refine ⟨rfl, ?_, ?_, ?_, by decide, ?_, ?_, by decide⟩
  · intro k hk
    have hk3 : k < 3 := hk
    rcases (by omega : k = 0 ∨ k = 1 ∨ k = 2) with rfl | rfl | rfl
    · rfl
    · rfl
    · show _ = unionC [l123, l9]
      rw [union_merge]
      rfl
  · intro k hk h1
    have hk3 : k < 3 := hk
    rcases (by omega : k = 0 ∨ k = 1 ∨ k = 2) with rfl | rfl | rfl
    · exact h.src 0 (by decide) rfl
    · exact h.src 1 (by decide) rfl
    · exact absurd h1 (by decide)
  · intro k hk h1
    have hk3 : k < 3 := hk
    rcases (by omega : k = 0 ∨ k = 1 ∨ k = 2) with rfl | rfl | rfl
    · exact absurd rfl h1
    · exact absurd rfl h1
    · refine ⟨by decide, fun e he => ?_⟩
      have he2 : e ∈ [(⟨0, 0⟩ : GE), ⟨1, 0⟩] := he
      simp only [List.mem_cons, List.not_mem_nil, or_false] at he2
      rcases he2 with rfl | rfl
      · exact ⟨0, 0, rfl, by decide, by decide⟩
      · exact ⟨1, 0, rfl, by decide, by decide⟩
  · intro k hk h1
    have hk3 : k < 3 := hk
    rcases (by omega : k = 0 ∨ k = 1 ∨ k = 2) with rfl | rfl | rfl
    · exact absurd rfl h1
    · exact absurd rfl h1
    · exact union_any rfl (by decide)
  · intro k hk l hl
    have hk3 : k < 3 := hk
    rcases (by omega : k = 0 ∨ k = 1 ∨ k = 2) with rfl | rfl | rfl
    · exact h.size 0 (by decide) l hl
    · exact h.size 1 (by decide) l hl
    · exact h.size 2 (by decide) l hl
theorem fault_merge : faultC 2 mergeO 2 = 0 := by decide
theorem sink_merge : firstO sinkF mergeO = some 3 := by decide
end Go.Proofs.Ytbcllgddogghbaa
