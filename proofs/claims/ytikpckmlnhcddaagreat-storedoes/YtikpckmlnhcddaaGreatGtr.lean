/-
  What Pending, Left, Up, Start, Size and New answer, of whatever store. The conditions: the store lies as stores do.
-/
import Derived.Test.YtikpckmlnhcddaaGreatBad
namespace Go.Proofs.YtikpckmlnhcddaaGreat
open Go.RowKit Go.Maps

/-- No call made it. -/
def Unmade (W : World) (v : Value) : Prop := v = .pointer none ∨ ∃ sb, v = .pointer (some ⟨sb, 0, none⟩) ∧ W.cell? ⟨sb, 0, none⟩ = some (.map none) ∧ (∃ u, W.cell? ⟨sb, 4, none⟩ = some (.bool u))
theorem Unmade.bad {W : World} {v : Value} (h : Unmade W v) : Bad W v 2 := by
  rcases h with rfl | ⟨sb, rfl, h1, h2⟩
  · exact .inl ⟨rfl, rfl⟩
  · exact .inr (.inl ⟨sb, rfl, h1, h2, rfl⟩)
theorem Unmade.form {W : World} {v : Value} (h : Unmade W v) : ∃ p, v = .pointer p := h.bad.form
theorem made_un {W : World} {v : Value} (h : Unmade W v) : Calls Tryz.prog 47 #[v] W fun e w' => e = .returned (.bool false) ∧ w' = W := by
  rcases h with rfl | ⟨sb, rfl, h1, h2⟩
  · exact made_nil W
  · exact made_any h1

set_option maxRecDepth 100000 in
theorem pending_un {W : World} {v : Value} (h : Unmade W v) : Calls Tryz.prog 20 #[v] W fun e w' => e = .returned (.int .i64 0) ∧ w' = W := by
  have HR := hide (made_un h)
  obtain ⟨p, rfl⟩ := h.form
  clear h
  go_enter Tryz.func20, Tryz.ntmps20
  go_wp2_with fail
  refine HR.out.mono ?_
  rintro _ _ ⟨rfl, rfl⟩
  go_wp2
  go_ret
  exact ⟨rfl, rfl⟩
set_option maxRecDepth 100000 in
theorem left_un {W : World} {v : Value} (h : Unmade W v) : Calls Tryz.prog 24 #[v] W fun e w' => e = .returned (.int .i64 0) ∧ w' = W := by
  have HR := hide (made_un h)
  obtain ⟨p, rfl⟩ := h.form
  clear h
  go_enter Tryz.func24, Tryz.ntmps24
  go_wp2_with fail
  refine HR.out.mono ?_
  rintro _ _ ⟨rfl, rfl⟩
  go_wp2
  go_ret
  exact ⟨rfl, rfl⟩
set_option maxRecDepth 100000 in
theorem left_any {W : World} {sb mb : Nat} {x : Int} (hc : W.cell? ⟨sb, 0, none⟩ = some (.map (some mb))) (h1 : W.cell? ⟨sb, 1, none⟩ = some (.int .i64 x)) :
    Calls Tryz.prog 24 #[.pointer (some ⟨sb, 0, none⟩)] W fun e w' => e = .returned (.int .i64 x) ∧ w' = W := by
  have HR := hide (made_any hc)
  clear hc
  go_enter Tryz.func24, Tryz.ntmps24
  go_wp2_with fail
  refine HR.out.mono ?_
  rintro _ _ ⟨rfl, rfl⟩
  go_wp2
  go_ret
  exact ⟨rfl, rfl⟩
set_option maxRecDepth 100000 in
theorem up_un {W : World} {v : Value} (h : Unmade W v) : Calls Tryz.prog 27 #[v] W fun e w' => e = .returned (.bool false) ∧ w' = W := by
  have HR := hide (made_un h)
  obtain ⟨p, rfl⟩ := h.form
  clear h
  go_enter Tryz.func27, Tryz.ntmps27
  go_wp2_with fail
  refine HR.out.mono ?_
  rintro _ _ ⟨rfl, rfl⟩
  go_wp2
  go_ret
  exact ⟨rfl, rfl⟩
set_option maxRecDepth 100000 in
theorem start_un {W : World} {v : Value} (h : Unmade W v) : Calls Tryz.prog 19 #[v] W fun e w' => e = .returned (.int .i64 2) ∧ w' = W := by
  have HR := hide (made_un h)
  obtain ⟨p, rfl⟩ := h.form
  clear h
  go_enter Tryz.func19, Tryz.ntmps19
  go_wp2_with fail
  refine HR.out.mono ?_
  rintro _ _ ⟨rfl, rfl⟩
  go_wp2
  go_ret
  exact ⟨rfl, rfl⟩
set_option maxRecDepth 100000 in
theorem clone_un {W : World} {p : Option Addr} (h : Unmade W (.pointer p)) : Calls Tryz.prog 11 #[.pointer p] W fun e w' => e = .returned (.pointer none) ∧ Below W.heap.size W w' := by
  have hb : Below W.heap.size W (W.alloc (.cells #[.pointer p] 24)) := alloc_below _ _
  have h' : Unmade (W.alloc (.cells #[.pointer p] 24)) (.pointer p) := by
    rcases h with h | ⟨sb, h1, h2, u, h3⟩
    · exact .inl h
    · exact .inr ⟨sb, h1, cell_later hb h2, u, cell_later hb h3⟩
  have HR := hide (made_un h')
  clear h h' hb
  go_enter Tryz.func11, Tryz.ntmps11
  go_wp2_with fail
  refine HR.out.mono ?_
  rintro _ _ ⟨rfl, rfl⟩
  go_wp2
  go_ret
  exact ⟨rfl, alloc_below _ _⟩
set_option maxRecDepth 100000 in
theorem pending_any {W : World} {sb mb : Nat} {x : Int} (hc : W.cell? ⟨sb, 0, none⟩ = some (.map (some mb))) (h1 : W.cell? ⟨sb, 2, none⟩ = some (.int .i64 x)) :
    Calls Tryz.prog 20 #[.pointer (some ⟨sb, 0, none⟩)] W fun e w' => e = .returned (.int .i64 x) ∧ w' = W := by
  have HR := hide (made_any hc)
  clear hc
  go_enter Tryz.func20, Tryz.ntmps20
  go_wp2_with fail
  refine HR.out.mono ?_
  rintro _ _ ⟨rfl, rfl⟩
  go_wp2
  go_ret
  exact ⟨rfl, rfl⟩
set_option maxRecDepth 100000 in
theorem up_any {W : World} {sb mb : Nat} {u : Bool} (hc : W.cell? ⟨sb, 0, none⟩ = some (.map (some mb))) (h1 : W.cell? ⟨sb, 4, none⟩ = some (.bool u)) :
    Calls Tryz.prog 27 #[.pointer (some ⟨sb, 0, none⟩)] W fun e w' => e = .returned (.bool u) ∧ w' = W := by
  have HR := hide (made_any hc)
  clear hc
  go_enter Tryz.func27, Tryz.ntmps27
  go_wp2_with fail
  refine HR.out.mono ?_
  rintro _ _ ⟨rfl, rfl⟩
  go_wp2
  go_ret
  exact ⟨rfl, rfl⟩
set_option maxRecDepth 100000 in
theorem start_up {W : World} {sb mb : Nat} (hc : W.cell? ⟨sb, 0, none⟩ = some (.map (some mb))) (h1 : W.cell? ⟨sb, 4, none⟩ = some (.bool true)) :
    Calls Tryz.prog 19 #[.pointer (some ⟨sb, 0, none⟩)] W fun e w' => e = .returned (.int .i64 1) ∧ w' = W := by
  have HR := hide (made_any hc)
  clear hc
  go_enter Tryz.func19, Tryz.ntmps19
  go_wp2_with fail
  refine HR.out.mono ?_
  rintro _ _ ⟨rfl, rfl⟩
  go_wp2
  go_ret
  exact ⟨rfl, rfl⟩
set_option maxRecDepth 100000 in
theorem start_down {W : World} {sb mb : Nat} (hc : W.cell? ⟨sb, 0, none⟩ = some (.map (some mb))) (h1 : W.cell? ⟨sb, 4, none⟩ = some (.bool false)) (hf : W.frozen? ⟨sb, 4, none⟩ = false) :
    Calls Tryz.prog 19 #[.pointer (some ⟨sb, 0, none⟩)] W fun e w' => e = .returned (.int .i64 0) ∧ w' = W.setCell ⟨sb, 4, none⟩ (.bool true) := by
  have HR := hide (made_any hc)
  clear hc
  go_enter Tryz.func19, Tryz.ntmps19
  go_wp2_with fail
  refine HR.out.mono ?_
  rintro _ _ ⟨rfl, rfl⟩
  go_wp2
  go_ret
  exact ⟨rfl, rfl⟩

set_option maxRecDepth 100000 in
set_option maxHeartbeats 1000000 in
theorem size_any {W : World} {sb mb pend turn : Nat} {left : Int} {fs : List MF} (h : SRep W sb mb fs left pend turn true) {s : ByteArray} (hlen : s.size ≤ maxLen) :
    Calls Tryz.prog 29 #[.pointer (some ⟨sb, 0, none⟩), .string s] W fun e w' => e = .returned (match fileOf fs s.data.toList with | some f => .tuple #[.int .i64 (f.c.length : Int), .int .i64 0] | none => .tuple #[.int .i64 0, .int .i64 4]) ∧ w' = W := by
  obtain ⟨c0, _, _, _, c4⟩ := box_cells h.box
  have HF := hide (find_any c0 c4 h.map hlen)
  unfold ptrOf at HF
  clear c0 c4
  cases hf : fileOf fs s.data.toList with
  | none =>
    rw [hf] at HF
    simp only [Option.map_none, Option.isSome_none] at HF
    clear hf h
    go_enter Tryz.func29, Tryz.ntmps29
    go_wp2_with fail
    refine HF.out.mono ?_
    rintro _ _ ⟨rfl, rfl⟩
    go_wp2
    go_ret2
    exact ⟨rfl, rfl⟩
  | some f =>
    rw [hf] at HF
    simp only [Option.map_some, Option.isSome_some] at HF
    obtain ⟨_, l, r, hfs⟩ := fileOf_split hf
    have hF := h.files f (by rw [hfs]; simp)
    have hcv : W.cell? ⟨f.fb, 0, none⟩ = some f.cv := by simp [World.cell?, hF.box]
    obtain ⟨p, cap, he, _⟩ := own_row hF.con
    rw [he] at hcv
    clear hf h hfs hF he
    go_enter Tryz.func29, Tryz.ntmps29
    go_wp2_with fail
    refine HF.out.mono ?_
    rintro _ _ ⟨rfl, rfl⟩
    go_wp2
    go_ret2
    exact ⟨rfl, rfl⟩

set_option maxRecDepth 100000 in
set_option maxHeartbeats 1000000 in
theorem new_ok {W : World} {room : Int} (h0 : 0 ≤ room) (h1 : room ≤ 4194304) :
    Calls Tryz.prog 7 #[.int .i64 room] W fun e w' => ∃ sb mb, e = .returned (.tuple #[.pointer (some ⟨sb, 0, none⟩), .int .i64 0]) ∧ SRep w' sb mb [] room 0 0 true ∧ W.heap.size ≤ sb ∧ W.heap.size ≤ mb ∧ Below W.heap.size W w' := by
  have hmm := @run_makeMap Tryz.prog
  go_enter Tryz.func7, Tryz.ntmps7
  go_wp2
  go_ret2
  have e1 : (W.alloc (.map #[] 0)).heap.size = W.heap.size + 1 := by simp
  refine ⟨W.heap.size + 1, W.heap.size, rfl, ⟨?_, ?_, by simp, by simp, by simp, by simp⟩, by omega, Nat.le_refl _, (alloc_below W _).trans ((alloc_below _ _).mono (by simp))⟩
  · have := heap_alloc_new (W.alloc (.map #[] 0)) (.cells #[.map (some W.heap.size), .int .i64 room, .int .i64 0, .int .i64 0, .bool true] 63 (0, 0))
    rw [e1] at this
    exact this
  · exact (World.ownsMap_made W Tryz.prog 9 ptrElem).alloc _

set_option maxRecDepth 100000 in
theorem new_bad {W : World} {room : Int} (h : room < 0 ∨ 4194304 < room) :
    Calls Tryz.prog 7 #[.int .i64 room] W fun e w' => e = .returned (.tuple #[.pointer none, .int .i64 1]) ∧ w' = W := by
  by_cases h0 : room < 0
  · have hh : decide (room < 0) = true := by simpa using h0
    go_enter Tryz.func7, Tryz.ntmps7
    go_wp2
    go_ret2
    exact ⟨rfl, rfl⟩
  · have h1 : 4194304 < room := by omega
    clear h
    have h2 : ¬ room ≤ 4194304 := by omega
    go_enter Tryz.func7, Tryz.ntmps7
    go_wp2
    go_ret2
    exact ⟨rfl, rfl⟩
end Go.Proofs.YtikpckmlnhcddaaGreat
