/-
  What Names tells: the names, rising, as they are when it is asked; of whatever store. The conditions: the store lies as stores do; at most 2^22 files.
-/
import Derived.Test.YtikpckmlnhcddaaGreatLay
import Derived.Test.YtikpckmlnhcddaaGreatCre
namespace Go.Proofs.YtikpckmlnhcddaaGreat
open Go.RowKit Go.Maps Go.Sort Go.Shelf

theorem bef_lt : ∀ a b : List UInt8, bytesBefore a b = true → a < b
  | [], [], h => by simp [bytesBefore] at h
  | [], _ :: _, _ => by simp
  | _ :: _, [], h => by simp [bytesBefore] at h
  | x :: a, y :: b, h => by
    unfold bytesBefore at h
    simp at h
    rw [List.cons_lt_cons_iff]
    rcases h with h | ⟨rfl, h⟩
    · exact .inl h
    · exact .inr ⟨rfl, bef_lt a b h⟩

theorem sorts_keys (m : Nat) : AnyZ.SortsIn Tryz.prog Tryz.sortedL_ren Fence.wide m :=
  ⟨fun blk off cap ss W hH hblk hsz => callsIn_wide.2 (AnyM.slices_Sort_string Tryz.sortL blk off cap ss W hH hblk hsz),
   fun p cap W => callsIn_wide.2 (AnyM.slices_Sort_string_none Tryz.sortL p cap W)⟩

theorem keys_any (mb : Option Nat) (W : World) : Calls Tryz.prog 69 #[.map mb] W fun e w' => e = .returned (.func (.func 80) #[] #[.pointer (some ⟨W.heap.size, 0, none⟩)]) ∧ w' = W.alloc (.cells #[.map mb] 61) :=
  (callsIn_wide (n := 5)).1 (AnyZ.keys_in Tryz.keysL Fence.wide 5 trivial rfl mb W)

theorem names_sorted {fs : List MF} (h : fs.Pairwise Bef) {ss : List (List UInt8)} (hp : ss.Perm (strKeys (.map (fs.map ent)))) : ss.mergeSort (fun x y => decide (x ≤ y)) = fs.map MF.name := by
  have e : strKeys (.map (fs.map ent)) = fs.map MF.name := by simp [strKeys, ent, strOf]
  rw [e] at hp
  have h1 : (ss.mergeSort (fun x y => decide (x ≤ y))).Pairwise (fun x y => decide (x ≤ y) = true) := List.pairwise_mergeSort (fun a b c h1 h2 => by simp at *; exact List.le_trans h1 h2) (fun a b => by simp; exact List.le_total a b) ss
  have h2 : (fs.map MF.name).Pairwise (fun x y => decide (x ≤ y) = true) := by
    rw [List.pairwise_map]
    exact h.imp fun {a b} hab => by simpa using List.le_of_lt (bef_lt _ _ hab)
  exact List.Perm.eq_of_pairwise (le := fun x y => decide (x ≤ y) = true) (fun a b _ _ h1 h2 => by simp at h1 h2; exact List.le_antisymm h1 h2) h1 h2 ((List.mergeSort_perm ss _).trans hp)

def strV (n : List UInt8) : Value := .string ⟨n.toArray⟩

theorem sorted_any {W : World} {mb n : Nat} {fs : List MF} (hown : W.ownsMap Tryz.prog 9 ptrElem mb n (.map (fs.map ent))) (hs : fs.Pairwise Bef) (hlen : fs.length ≤ 4194304) :
    Calls Tryz.prog 68 #[.func (.func 80) #[] #[.pointer (some ⟨W.heap.size, 0, none⟩)]] (W.alloc (.cells #[.map (some mb)] 61)) fun e w' => ∃ p cap, e = .returned (.slice p fs.length cap) ∧ 
      w'.ownsRow W.heap.size 9 1 (.slice p fs.length cap) fs.length (fs.map fun f => strV f.name) ∧ Below W.heap.size W w' := by
  have hbl := hown.lt
  have hsz : Maps.size (DataW.map (fs.map ent)) = fs.length := by simp [Maps.size]
  have hseq : SeqGives Fence.wide 2 Tryz.prog 80 #[.pointer (some ⟨W.heap.size, 0, none⟩)] encStr (fun ss => ss.Perm (strKeys (.map (fs.map ent)))) (Maps.size (.map (fs.map ent))) (W.alloc (.cells #[.map (some mb)] 61)) :=
    AnyZ.keys_gives (ρ := Tryz.keysL_ren) { Tryz.keysL with } Fence.wide _ trivial rfl (by omega) W.heap.size mb n (.map (fs.map ent)) _ (by simp) (by simp) (by
      obtain ⟨es, clock, hb, Ft, hs, hD⟩ := hown
      exact ⟨es, clock, (Below.heap_alloc _ _ mb hbl).trans hb, Ft, hs, hD⟩)
  refine (callsIn_wide (n := 5)).1 ((AnyZ.sorted_in Tryz.sortedL Fence.wide 5 trivial trivial trivial trivial rfl (by omega) (sorts_keys _) (enters_of Tryz.func79 (by kernel_rfl) rfl) 80 #[.pointer (some ⟨W.heap.size, 0, none⟩)] trivial (enters_of Tryz.func80 (by kernel_rfl) rfl) _ _ (by rw [hsz]; unfold maxLen; omega) (by rw [hsz]; omega) _ hseq).mono ?_)
  rintro e w' ⟨v, ss, rfl, hS, hrow, _, hb⟩
  have hl : ss.length = fs.length := by have := hS.length_eq; simpa [strKeys] using this
  rw [names_sorted hs hS, hl] at hrow
  have hrow' : w'.ownsRow W.heap.size 9 1 v fs.length (fs.map fun f => strV f.name) := by
    have := own_base hrow (show W.heap.size ≤ _ by simp)
    rw [List.map_map] at this
    exact this
  obtain ⟨p, cap, rfl, _, _⟩ := own_form hrow'
  exact ⟨p, cap, rfl, hrow', (alloc_below W _).trans (hb.mono (by simp))⟩

set_option maxRecDepth 100000 in
set_option maxHeartbeats 1000000 in
theorem values_any {W : World} (v : Value) (p : Option Addr) (n cap : Nat) (hv : v = .slice p n cap) : Calls Tryz.prog 70 #[v] W fun e w' => e = .returned (.func (.func 81) #[] #[.pointer (some ⟨W.heap.size, 0, none⟩)]) ∧ w' = W.alloc (.cells #[v] 42) := by
  subst hv
  go_enter Tryz.func70, Tryz.ntmps70
  go_wp2
  go_ret
  exact ⟨rfl, rfl⟩

set_option maxRecDepth 100000 in
set_option maxHeartbeats 1000000 in
theorem names_any {W : World} {sb mb pend turn : Nat} {left : Int} {fs : List MF} {up : Bool} (h : SRep W sb mb fs left pend turn up) (hlen : fs.length ≤ 4194304) :
    Calls Tryz.prog 48 #[.pointer (some ⟨sb, 0, none⟩)] W fun e w' => ∃ k v, e = .returned (.func (.func 81) #[] #[.pointer (some ⟨k, 0, none⟩)]) ∧ Boxed w' k 42 v ∧ w'.ownsRow W.heap.size 9 1 v fs.length (fs.map fun f => strV f.name) ∧ Below W.heap.size W w' ∧ W.heap.size ≤ k := by
  obtain ⟨c0, c1, c2, c3, c4⟩ := box_cells h.box
  have HM := hide (made_any c0)
  have HS := hide (sorted_any h.map h.sorted hlen)
  clear c1 c2 c3 c4 h
  go_enter Tryz.func48, Tryz.ntmps48
  go_wp2_with fail
  refine HM.out.mono ?_
  rintro _ _ ⟨rfl, rfl⟩
  go_wp2_with fail
  refine (keys_any _ _).mono ?_
  rintro _ _ ⟨rfl, rfl⟩
  go_wp2_with fail
  refine HS.out.mono ?_
  rintro _ w2 ⟨p, cap, rfl, hrow, hb⟩
  have HR := hide hrow
  clear HM HS hrow c0
  go_wp2_with fail
  refine (values_any _ p fs.length cap rfl).mono ?_
  rintro _ _ ⟨rfl, rfl⟩
  go_wp2
  go_ret
  exact ⟨w2.heap.size, _, rfl, Boxed.new w2 _ _, ownsRow_later HR.out (alloc_below _ _), hb.trans ((alloc_below _ _).mono hb.size), hb.size⟩

set_option maxRecDepth 100000 in
set_option maxHeartbeats 1000000 in
theorem names_un {W : World} {v : Value} (h : Unmade W v) :
    Calls Tryz.prog 48 #[v] W fun e w' => e = .returned (.func (.func 81) #[] #[.pointer (some ⟨W.heap.size, 0, none⟩)]) ∧ w' = W.alloc (.cells #[.slice none 0 0] 42) := by
  have HM := hide (made_un h)
  obtain ⟨p, rfl⟩ := h.form
  clear h
  go_enter Tryz.func48, Tryz.ntmps48
  go_wp2_with fail
  refine HM.out.mono ?_
  rintro _ _ ⟨rfl, rfl⟩
  go_wp2_with fail
  refine (values_any _ none 0 0 rfl).mono ?_
  rintro _ _ ⟨rfl, rfl⟩
  go_wp2
  go_ret
  exact ⟨rfl, rfl⟩
end Go.Proofs.YtikpckmlnhcddaaGreat
