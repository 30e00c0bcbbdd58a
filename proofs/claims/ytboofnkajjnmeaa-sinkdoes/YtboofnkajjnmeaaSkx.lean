/-
  New of the program's sink. The conditions: at most four partitions, else the error.
-/
import Derived.Test.YtboofnkajjnmeaaSkw
namespace Go.Proofs.Ytboofnkajjnmeaa
open Go.RowKit Go.Maps Go.Shelf

set_option maxRecDepth 100000 in
theorem new_bad {W : World} {x : Int} (h : ¬ (1 ≤ x ∧ x ≤ 4)) : Calls Try.prog 9 #[.int .i64 x] W fun e w' => e = .returned (.tuple #[.pointer none, .int .i64 1]) ∧ w' = W := by
  by_cases h1 : x < 1
  · have e1 : decide (x < 1) = true := decide_eq_true h1
    clear h h1
    go_enter Try.func9, Try.ntmps9
    go_wp2
    go_ret2
    exact ⟨rfl, rfl⟩
  · have e1 : decide (x < 1) = false := decide_eq_false h1
    have e2 : decide (x > 4) = true := decide_eq_true (by omega)
    clear h h1
    go_enter Try.func9, Try.ntmps9
    go_wp2
    go_ret2
    exact ⟨rfl, rfl⟩
theorem int_flat : ∀ l : List Int, l.flatMap intCells = l.map (Value.int .i64)
  | [] => rfl
  | a :: l => by rw [List.flatMap_cons, int_flat l]; rfl
theorem made_nums (n : Nat) : (madeCells (Value.int .i64 0).cells (n * 1)).toList = (List.replicate n (0 : Int)).map (Value.int .i64) ∧ (madeCells (Value.int .i64 0).cells (n * 1)).size = n := by
  refine ⟨?_, by simp [size_madeCells]⟩
  rw [Nat.mul_one, List.map_replicate]
  apply List.ext_getElem
  · simp [size_madeCells]
  · intro i h2 h3
    simp [madeCells, Value.cells, Nat.mod_one]
theorem make_nums {n : Nat} (hn : n ≤ 4) : ∃ ia : Array Value, ia.toList = (List.replicate n (0 : Int)).flatMap intCells ∧ ia.size = n ∧ ∀ w, (Instr.makeSlice 32 (.int .i64 (n : Int)) (.int .i64 (n : Int))).run Try.prog w = .ok (.slice (some ⟨w.heap.size, 0, none⟩) n n) (w.alloc (.cells ia 2 (0, 0))) := by
  obtain ⟨i0, hI0, hz0, hz1, hz2⟩ := info_parts Try.infoN
  refine ⟨_, (made_nums n).1.trans (int_flat _).symm, (made_nums n).2, fun w => ?_⟩
  have h := run_make (P := Try.prog) w 32 2 i0 (.int .i64 0) Try.underlying32 hI0 hz0 .i64 .i64 (n : Int) (n : Int) (by omega) (by omega) (by rw [hz2]; omega) (by omega)
  rw [hz1, Int.toNat_natCast] at h
  exact h
def newP (W : World) (n : Nat) : PK := ⟨W.heap.size + 2, W.heap.size + 1, none, 0, some ⟨W.heap.size, 0, none⟩, n, none, 0, 0, [], List.replicate n 0, [], []⟩
theorem newS_ok {n : Nat} (h1 : 1 ≤ n) (h2 : n ≤ 4) : okS (newS n) :=
  ⟨by unfold numI newS; simp, by simp [newS], by simp [newS]; omega, fun x hx => by have := List.eq_of_mem_replicate hx; subst this; unfold numI; omega, ⟨List.Pairwise.nil, fun x hx => by simp [newS] at hx⟩, by simp [newS], List.Pairwise.nil, fun t ht => by simp [newS] at ht, fun _ => ⟨rfl, rfl, rfl, fun x hx => List.eq_of_mem_replicate hx⟩⟩
theorem new_rep {W : World} {n : Nat} {ia : Array Value} (h1 : 1 ≤ n) (h2 : n ≤ 4) (hia : ia.toList = (List.replicate n (0 : Int)).flatMap intCells) (his : ia.size = n) :
    PS W.heap.size (((W.alloc (.cells ia 2 (0, 0))).alloc (.map #[] 0)).alloc (.cells #[.int .i64 0, .slice none 0 0, .slice (some ⟨W.heap.size, 0, none⟩) n n, .slice none 0 0, .map (some (W.heap.size + 1))] 63 (0, 0))) (newP W n) ∧ Below W.heap.size W (((W.alloc (.cells ia 2 (0, 0))).alloc (.map #[] 0)).alloc (.cells #[.int .i64 0, .slice none 0 0, .slice (some ⟨W.heap.size, 0, none⟩) n n, .slice none 0 0, .map (some (W.heap.size + 1))] 63 (0, 0))) := by
  have hl : (List.replicate n (0 : Int)).length = n := by simp
  have b1 := alloc_below W (.cells ia 2 (0, 0))
  obtain ⟨V, hV⟩ : ∃ V, V = W.alloc (.cells ia 2 (0, 0)) := ⟨_, rfl⟩
  have sV : V.heap.size = W.heap.size + 1 := by rw [hV]; simp
  have hr : V.ownsRow W.heap.size 2 1 (.slice (some ⟨W.heap.size, 0, none⟩) n n) n ((List.replicate n (0 : Int)).flatMap intCells) := by
    rw [← hia, hV]
    exact ⟨by simp [his], .inr ⟨W.heap.size, n, ia, rfl, Nat.le_refl _, heap_alloc_new W _, Nat.le_refl _, by unfold maxLen; omega, by simp [his], by rw [Nat.mul_one, List.take_of_length_le (by simp [his])]⟩⟩
  rw [← hV] at b1 ⊢
  have b2 := alloc_below V (.map #[] 0)
  have hm : MapT (V.alloc (.map #[] 0)) (W.heap.size + 1) 0 [] := by rw [← sV]; exact MapT.made V 0
  obtain ⟨Z, hZ⟩ : ∃ Z, Z = V.alloc (.map #[] 0) := ⟨_, rfl⟩
  have sZ : Z.heap.size = W.heap.size + 2 := by rw [hZ]; simp [sV]
  rw [← hZ] at b2 hm ⊢
  have b3 := alloc_below Z (.cells #[.int .i64 0, .slice none 0 0, .slice (some ⟨W.heap.size, 0, none⟩) n n, .slice none 0 0, .map (some (W.heap.size + 1))] 63 (0, 0))
  have hx := heap_alloc_new Z (.cells #[.int .i64 0, .slice none 0 0, .slice (some ⟨W.heap.size, 0, none⟩) n n, .slice none 0 0, .map (some (W.heap.size + 1))] 63 (0, 0))
  rw [sZ] at hx
  refine ⟨⟨?_, hm.later b3, World.ownsRow_nil _ _ _ _, ?_, World.ownsRow_nil _ _ _ _, fun x hx => by simp [newP] at hx, ⟨fun i _ h => by obtain ⟨a, ha, _⟩ := h; simp [newP] at ha, fun x hx => by simp [newP] at hx⟩, ⟨by show _ ≤ W.heap.size + 2; omega, by show _ ≤ W.heap.size + 1; omega⟩, newS_ok h1 h2⟩, b1.trans ((b2.trans (b3.mono b2.size)).mono b1.size)⟩
  · show _ = some (Obj.cells #[.int .i64 0, .slice none 0 0, .slice (some ⟨W.heap.size, 0, none⟩) (List.replicate n (0 : Int)).length n, .slice none 0 0, .map (some (W.heap.size + 1))] _ _)
    rw [hl]
    exact hx
  · show World.ownsRow _ _ _ _ (.slice (some ⟨W.heap.size, 0, none⟩) (List.replicate n (0 : Int)).length n) (List.replicate n (0 : Int)).length _
    rw [hl]
    exact ownsRow_later (ownsRow_later hr b2) b3
set_option maxHeartbeats 1000000 in
set_option maxRecDepth 100000 in
theorem new_ok {W : World} {n : Nat} (h1 : 1 ≤ n) (h2 : n ≤ 4) : Calls Try.prog 9 #[.int .i64 (n : Int)] W fun e w' => ∃ k : PK, e = .returned (.tuple #[.pointer (some ⟨k.b, 0, none⟩), .int .i64 0]) ∧ PS W.heap.size w' k ∧ k.sk = newS n ∧ Below W.heap.size W w' := by
  obtain ⟨ia, hia, his, hmk⟩ := make_nums h2
  have hm1 := hmk W
  have hm2 := run_mkmapT (W.alloc (.cells ia 2 (0, 0)))
  have e1 : decide ((n : Int) < 1) = false := decide_eq_false (by omega)
  have e2 : decide ((n : Int) > 4) = false := decide_eq_false (by omega)
  clear hmk
  go_enter Try.func9, Try.ntmps9
  go_wp2
  go_ret2
  exact ⟨newP W n, rfl, (new_rep h1 h2 hia his).1, rfl, (new_rep h1 h2 hia his).2⟩
end Go.Proofs.Ytboofnkajjnmeaa
