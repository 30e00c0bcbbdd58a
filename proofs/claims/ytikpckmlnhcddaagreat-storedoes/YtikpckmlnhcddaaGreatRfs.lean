/-
  The refusals of a store that is up: no file of that name, a spot that the file does not have, no room, a name that may not be. No conditions but those.
-/
import Derived.Test.YtikpckmlnhcddaaGreatCre
namespace Go.Proofs.YtikpckmlnhcddaaGreat
open Go.RowKit Go.Maps

theorem find_none {W : World} {sb mb pend turn : Nat} {left : Int} {fs : List MF} (h : SRep W sb mb fs left pend turn true) {s : ByteArray} (hlen : s.size ≤ maxLen) (hf : fileOf fs s.data.toList = none) :
    Calls Tryz.prog 51 #[.pointer (some ⟨sb, 0, none⟩), .string s] W fun e w' => e = .returned (.tuple #[.pointer none, .int .i64 4]) ∧ w' = W := by
  obtain ⟨c0, c1, c2, c3, c4⟩ := box_cells h.box
  have HF := find_any c0 c4 h.map hlen
  unfold ptrOf at HF
  rw [hf] at HF
  exact HF

set_option maxRecDepth 100000 in
set_option maxHeartbeats 1000000 in
theorem write_none {W : World} {sb mb pend turn : Nat} {left : Int} {fs : List MF} (h : SRep W sb mb fs left pend turn true) {s : ByteArray} (hlen : s.size ≤ maxLen) (hf : fileOf fs s.data.toList = none) (k : Int) (p : Option Addr) (n c : Nat) :
    Calls Tryz.prog 13 #[.pointer (some ⟨sb, 0, none⟩), .string s, .int .i64 k, .slice p n c] W fun e w' => e = .returned (.int .i64 4) ∧ w' = W := by
  have HR := hide (find_none h hlen hf)
  clear h hf
  go_enter Tryz.func13, Tryz.ntmps13
  go_wp2_with fail
  refine HR.out.mono ?_
  rintro _ _ ⟨rfl, rfl⟩
  go_wp2
  go_ret
  exact ⟨rfl, rfl⟩

set_option maxRecDepth 100000 in
set_option maxHeartbeats 1000000 in
theorem cut_none {W : World} {sb mb pend turn : Nat} {left : Int} {fs : List MF} (h : SRep W sb mb fs left pend turn true) {s : ByteArray} (hlen : s.size ≤ maxLen) (hf : fileOf fs s.data.toList = none) (k : Int) :
    Calls Tryz.prog 33 #[.pointer (some ⟨sb, 0, none⟩), .string s, .int .i64 k] W fun e w' => e = .returned (.int .i64 4) ∧ w' = W := by
  have HR := hide (find_none h hlen hf)
  clear h hf
  go_enter Tryz.func33, Tryz.ntmps33
  go_wp2_with fail
  refine HR.out.mono ?_
  rintro _ _ ⟨rfl, rfl⟩
  go_wp2
  go_ret
  exact ⟨rfl, rfl⟩

set_option maxRecDepth 100000 in
set_option maxHeartbeats 1000000 in
theorem rename_none {W : World} {sb mb pend turn : Nat} {left : Int} {fs : List MF} (h : SRep W sb mb fs left pend turn true) {s : ByteArray} (hlen : s.size ≤ maxLen) (hf : fileOf fs s.data.toList = none) (t : ByteArray) :
    Calls Tryz.prog 36 #[.pointer (some ⟨sb, 0, none⟩), .string s, .string t] W fun e w' => e = .returned (.int .i64 4) ∧ w' = W := by
  have HR := hide (find_none h hlen hf)
  clear h hf
  go_enter Tryz.func36, Tryz.ntmps36
  go_wp2_with fail
  refine HR.out.mono ?_
  rintro _ _ ⟨rfl, rfl⟩
  go_wp2
  go_ret
  exact ⟨rfl, rfl⟩

set_option maxRecDepth 100000 in
set_option maxHeartbeats 1000000 in
theorem remove_none {W : World} {sb mb pend turn : Nat} {left : Int} {fs : List MF} (h : SRep W sb mb fs left pend turn true) {s : ByteArray} (hlen : s.size ≤ maxLen) (hf : fileOf fs s.data.toList = none)  :
    Calls Tryz.prog 14 #[.pointer (some ⟨sb, 0, none⟩), .string s] W fun e w' => e = .returned (.int .i64 4) ∧ w' = W := by
  have HR := hide (find_none h hlen hf)
  clear h hf
  go_enter Tryz.func14, Tryz.ntmps14
  go_wp2_with fail
  refine HR.out.mono ?_
  rintro _ _ ⟨rfl, rfl⟩
  go_wp2
  go_ret
  exact ⟨rfl, rfl⟩

set_option maxRecDepth 100000 in
set_option maxHeartbeats 1000000 in
theorem read_none {W : World} {sb mb pend turn : Nat} {left : Int} {fs : List MF} (h : SRep W sb mb fs left pend turn true) {s : ByteArray} (hlen : s.size ≤ maxLen) (hf : fileOf fs s.data.toList = none) (k n : Int) :
    Calls Tryz.prog 28 #[.pointer (some ⟨sb, 0, none⟩), .string s, .int .i64 k, .int .i64 n] W fun e w' => e = .returned (.tuple #[.slice none 0 0, .int .i64 4]) ∧ w' = W := by
  have HR := hide (find_none h hlen hf)
  clear h hf
  go_enter Tryz.func28, Tryz.ntmps28
  go_wp2_with fail
  refine HR.out.mono ?_
  rintro _ _ ⟨rfl, rfl⟩
  go_wp2
  go_ret2
  exact ⟨rfl, rfl⟩

set_option maxRecDepth 100000 in
set_option maxHeartbeats 1000000 in
theorem sure_none {W : World} {sb mb pend turn : Nat} {left : Int} {fs : List MF} (h : SRep W sb mb fs left pend turn true) {s : ByteArray} (hlen : s.size ≤ maxLen) (hf : fileOf fs s.data.toList = none)  :
    Calls Tryz.prog 17 #[.pointer (some ⟨sb, 0, none⟩), .string s] W fun e w' => e = .returned (.tuple #[.slice none 0 0, .int .i64 4]) ∧ w' = W := by
  have HR := hide (find_none h hlen hf)
  clear h hf
  go_enter Tryz.func17, Tryz.ntmps17
  go_wp2_with fail
  refine HR.out.mono ?_
  rintro _ _ ⟨rfl, rfl⟩
  go_wp2
  go_ret2
  exact ⟨rfl, rfl⟩

set_option maxRecDepth 100000 in
set_option maxHeartbeats 1000000 in
theorem write_spot {W : World} {sb mb pend turn : Nat} {left : Int} {fs : List MF} {f : MF} (h : SRep W sb mb fs left pend turn true) {s : ByteArray} (hlen : s.size ≤ maxLen) (hf : fileOf fs s.data.toList = some f) {k : Int} (hk : k < 0 ∨ (f.c.length : Int) < k) (p : Option Addr) (n c : Nat) :
    Calls Tryz.prog 13 #[.pointer (some ⟨sb, 0, none⟩), .string s, .int .i64 k, .slice p n c] W fun e w' => e = .returned (.int .i64 33) ∧ w' = W := by
  obtain ⟨c0, c1, c2, c3, c4⟩ := box_cells h.box
  have HF := hide (find_any c0 c4 h.map hlen)
  unfold ptrOf at HF
  rw [hf] at HF
  simp only [Option.map_some, Option.isSome_some] at HF
  have hF := h.files f (List.mem_of_find?_eq_some hf)
  obtain ⟨d0, _, _, _⟩ := hF.fcells
  obtain ⟨q, qcap, he, h1, h2⟩ := hF.con_form
  rw [he] at d0
  clear hf h hF c0 c4 he
  have h3 : decide (k < 0) = true ∨ (decide (k < 0) = false ∧ decide ((f.c.length : Int) < k) = true) := by
    by_cases h0 : k < 0
    · exact .inl (decide_eq_true h0)
    · exact .inr ⟨decide_eq_false h0, decide_eq_true (by omega)⟩
  clear hk
  rcases h3 with h3 | ⟨h3, h4⟩
  all_goals
    go_enter Tryz.func13, Tryz.ntmps13
    go_wp2_with fail
    refine HF.out.mono ?_
    rintro _ _ ⟨rfl, rfl⟩
    go_wp2
    go_ret
    exact ⟨rfl, rfl⟩

set_option maxRecDepth 100000 in
set_option maxHeartbeats 1000000 in
theorem cut_spot {W : World} {sb mb pend turn : Nat} {left : Int} {fs : List MF} {f : MF} (h : SRep W sb mb fs left pend turn true) {s : ByteArray} (hlen : s.size ≤ maxLen) (hf : fileOf fs s.data.toList = some f) {k : Int} (hk : k < 0 ∨ (f.c.length : Int) < k) :
    Calls Tryz.prog 33 #[.pointer (some ⟨sb, 0, none⟩), .string s, .int .i64 k] W fun e w' => e = .returned (.int .i64 33) ∧ w' = W := by
  obtain ⟨c0, c1, c2, c3, c4⟩ := box_cells h.box
  have HF := hide (find_any c0 c4 h.map hlen)
  unfold ptrOf at HF
  rw [hf] at HF
  simp only [Option.map_some, Option.isSome_some] at HF
  have hF := h.files f (List.mem_of_find?_eq_some hf)
  obtain ⟨d0, _, _, _⟩ := hF.fcells
  obtain ⟨q, qcap, he, h1, h2⟩ := hF.con_form
  rw [he] at d0
  clear hf h hF c0 c4 he
  have h3 : decide (k < 0) = true ∨ (decide (k < 0) = false ∧ decide ((f.c.length : Int) < k) = true) := by
    by_cases h0 : k < 0
    · exact .inl (decide_eq_true h0)
    · exact .inr ⟨decide_eq_false h0, decide_eq_true (by omega)⟩
  clear hk
  rcases h3 with h3 | ⟨h3, h4⟩
  all_goals
    go_enter Tryz.func33, Tryz.ntmps33
    go_wp2_with fail
    refine HF.out.mono ?_
    rintro _ _ ⟨rfl, rfl⟩
    go_wp2
    go_ret
    exact ⟨rfl, rfl⟩

set_option maxRecDepth 100000 in
set_option maxHeartbeats 1000000 in
theorem write_room {W : World} {sb mb pend turn : Nat} {left : Int} {fs : List MF} {f : MF} (h : SRep W sb mb fs left pend turn true) {s : ByteArray} (hlen : s.size ≤ maxLen) (hf : fileOf fs s.data.toList = some f) {k : Nat} (hk : k ≤ f.c.length) (hc : f.c.length ≤ 4194304) (p : Option Addr) (n c : Nat) (hn : n ≤ 9223372036854775807) (hl : left < (n : Int) - ((f.c.length : Int) - k)) :
    Calls Tryz.prog 13 #[.pointer (some ⟨sb, 0, none⟩), .string s, .int .i64 k, .slice p n c] W fun e w' => e = .returned (.int .i64 30) ∧ w' = W := by
  obtain ⟨c0, c1, c2, c3, c4⟩ := box_cells h.box
  have HF := hide (find_any c0 c4 h.map hlen)
  unfold ptrOf at HF
  rw [hf] at HF
  simp only [Option.map_some, Option.isSome_some] at HF
  have hF := h.files f (List.mem_of_find?_eq_some hf)
  obtain ⟨d0, _, _, _⟩ := hF.fcells
  obtain ⟨q, qcap, he, h1, h2⟩ := hF.con_form
  rw [he] at d0
  clear hf h hF c0 c4 he
  all_goals
    go_enter Tryz.func13, Tryz.ntmps13
    go_wp2_with fail
    refine HF.out.mono ?_
    rintro _ _ ⟨rfl, rfl⟩
    go_wp2
    go_ret
    exact ⟨rfl, rfl⟩

set_option maxRecDepth 100000 in
set_option maxHeartbeats 1000000 in
theorem read_spot {W : World} {sb mb pend turn : Nat} {left : Int} {fs : List MF} {f : MF} (h : SRep W sb mb fs left pend turn true) {s : ByteArray} (hlen : s.size ≤ maxLen) (hf : fileOf fs s.data.toList = some f) {k n : Int} (hn1 : n ≤ 9223372036854775807) (hk : n < 0 ∨ k < 0 ∨ (f.c.length : Int) < k ∨ (f.c.length : Int) - k < n) :
    Calls Tryz.prog 28 #[.pointer (some ⟨sb, 0, none⟩), .string s, .int .i64 k, .int .i64 n] W fun e w' => e = .returned (.tuple #[.slice none 0 0, .int .i64 33]) ∧ w' = W := by
  obtain ⟨c0, c1, c2, c3, c4⟩ := box_cells h.box
  have HF := hide (find_any c0 c4 h.map hlen)
  unfold ptrOf at HF
  rw [hf] at HF
  simp only [Option.map_some, Option.isSome_some] at HF
  have hF := h.files f (List.mem_of_find?_eq_some hf)
  obtain ⟨d0, _, _, _⟩ := hF.fcells
  obtain ⟨q, qcap, he, h1, h2⟩ := hF.con_form
  rw [he] at d0
  clear hf h hF c0 c4 he
  have h3 : decide (n < 0) = true ∨ (decide (n < 0) = false ∧ decide (k < 0) = true) ∨ (decide (n < 0) = false ∧ decide (k < 0) = false ∧ decide ((f.c.length : Int) < k) = true) ∨ (decide (n < 0) = false ∧ decide (k < 0) = false ∧ decide ((f.c.length : Int) < k) = false ∧ decide ((f.c.length : Int) - k < n) = true ∧ 0 ≤ k ∧ k ≤ (f.c.length : Int)) := by
    by_cases h0 : n < 0
    · exact .inl (decide_eq_true h0)
    · by_cases h1 : k < 0
      · exact .inr (.inl ⟨decide_eq_false h0, decide_eq_true h1⟩)
      · by_cases h2 : (f.c.length : Int) < k
        · exact .inr (.inr (.inl ⟨decide_eq_false h0, decide_eq_false h1, decide_eq_true h2⟩))
        · exact .inr (.inr (.inr ⟨decide_eq_false h0, decide_eq_false h1, decide_eq_false h2, decide_eq_true (by omega), by omega, by omega⟩))
  clear hk
  rcases h3 with h3 | ⟨h3, h4⟩ | ⟨h3, h4, h5⟩ | ⟨h3, h4, h5, h6, h7, h8⟩
  all_goals
    go_enter Tryz.func28, Tryz.ntmps28
    go_wp2_with fail
    refine HF.out.mono ?_
    rintro _ _ ⟨rfl, rfl⟩
    go_wp2
    go_ret2
    exact ⟨rfl, rfl⟩

set_option maxRecDepth 100000 in
set_option maxHeartbeats 1000000 in
theorem create_name {W : World} {sb mb pend turn : Nat} {left : Int} {fs : List MF} (h : SRep W sb mb fs left pend turn true) {s : ByteArray} (hlen : s.size ≤ maxLen) (hs : s.data.toList = [] ∨ (fileOf fs s.data.toList).isSome = true) :
    Calls Tryz.prog 12 #[.pointer (some ⟨sb, 0, none⟩), .string s] W fun e w' => e = .returned (.int .i64 31) ∧ w' = W := by
  obtain ⟨c0, c1, c2, c3, c4⟩ := box_cells h.box
  have HR := hide (ready_up c0 c4)
  have hl := (map_look h.map hlen).1
  obtain ⟨pt, hpt⟩ : ∃ pt, ptrOf fs s.data.toList = .pointer pt := ⟨_, rfl⟩
  rw [hpt] at hl
  have h3 : (fileOf fs s.data.toList).isSome = true ∨ ((fileOf fs s.data.toList).isSome = false ∧ (s.toList == []) = true) := by
    cases hq : (fileOf fs s.data.toList).isSome with
    | true => exact .inl rfl
    | false =>
      refine .inr ⟨rfl, ?_⟩
      rw [hq] at hs
      rw [ByteArray.toList_eq]
      simpa using hs
  clear h hs hpt
  rcases h3 with h3 | ⟨h3, h4⟩
  all_goals
    rw [h3] at hl
    clear h3
    go_enter Tryz.func12, Tryz.ntmps12
    go_wp2_with fail
    refine HR.out.mono ?_
    rintro _ _ ⟨rfl, rfl⟩
    go_wp2
    go_ret
    exact ⟨rfl, rfl⟩

set_option maxRecDepth 100000 in
set_option maxHeartbeats 1000000 in
theorem create_full {W : World} {sb mb pend turn : Nat} {left : Int} {fs : List MF} (h : SRep W sb mb fs left pend turn true) {s : ByteArray} (hlen : s.size ≤ maxLen) (hs : s.data.toList ≠ []) (hf : fileOf fs s.data.toList = none) (hn : 4096 ≤ fs.length) :
    Calls Tryz.prog 12 #[.pointer (some ⟨sb, 0, none⟩), .string s] W fun e w' => e = .returned (.int .i64 6) ∧ w' = W := by
  obtain ⟨c0, c1, c2, c3, c4⟩ := box_cells h.box
  have HR := hide (ready_up c0 c4)
  have hl := (map_look h.map hlen).1
  unfold ptrOf at hl
  rw [hf] at hl
  simp only [Option.map_none, Option.isSome_none] at hl
  have hlen' := h.map.len (t := 61) Tryz.undMap 3
  have hsz : Maps.size (DataW.map (fs.map ent)) = fs.length := by simp [Maps.size]
  rw [hsz] at hlen'
  have hne : (s.toList == []) = false := by
    have : s.toList ≠ [] := by rw [ByteArray.toList_eq]; exact hs
    simpa using this
  clear h hf hs
  go_enter Tryz.func12, Tryz.ntmps12
  go_wp2_with fail
  refine HR.out.mono ?_
  rintro _ _ ⟨rfl, rfl⟩
  go_wp2
  go_ret
  exact ⟨rfl, rfl⟩
end Go.Proofs.YtikpckmlnhcddaaGreat
