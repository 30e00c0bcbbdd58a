/-
  What each call answers of a store that is nil, that no call made, or that is down. No conditions.
-/
import Derived.Test.YtikpckmlnhcddaaGreatLok
namespace Go.Proofs.YtikpckmlnhcddaaGreat
open Go.RowKit Go.Maps

set_option maxRecDepth 100000 in
set_option maxHeartbeats 1000000 in
theorem write_bad {W : World} {v : Value} {er : Int} (h : Bad W v er) (s : ByteArray) (k : Int) (p : Option Addr) (n c : Nat) :
    Calls Tryz.prog 13 #[v, .string s, .int .i64 k, .slice p n c] W fun e w' => e = .returned (.int .i64 er) ∧ w' = W := by
  have HR := hide (find_bad h s)
  have hne := h.ne
  obtain ⟨q, rfl⟩ := h.form
  clear h
  go_enter Tryz.func13, Tryz.ntmps13
  go_wp2_with fail
  refine HR.out.mono ?_
  rintro _ _ ⟨rfl, rfl⟩
  go_wp2
  go_ret
  exact ⟨rfl, rfl⟩

set_option maxRecDepth 100000 in
set_option maxHeartbeats 1000000 in
theorem cut_bad {W : World} {v : Value} {er : Int} (h : Bad W v er) (s : ByteArray) (k : Int) :
    Calls Tryz.prog 33 #[v, .string s, .int .i64 k] W fun e w' => e = .returned (.int .i64 er) ∧ w' = W := by
  have HR := hide (find_bad h s)
  have hne := h.ne
  obtain ⟨p, rfl⟩ := h.form
  clear h
  go_enter Tryz.func33, Tryz.ntmps33
  go_wp2_with fail
  refine HR.out.mono ?_
  rintro _ _ ⟨rfl, rfl⟩
  go_wp2
  go_ret
  exact ⟨rfl, rfl⟩

set_option maxRecDepth 100000 in
set_option maxHeartbeats 1000000 in
theorem sync_bad {W : World} {v : Value} {er : Int} (h : Bad W v er) (s : ByteArray) :
    Calls Tryz.prog 26 #[v, .string s] W fun e w' => e = .returned (.int .i64 er) ∧ w' = W := by
  have HR := hide (find_bad h s)
  have hne := h.ne
  obtain ⟨p, rfl⟩ := h.form
  clear h
  go_enter Tryz.func26, Tryz.ntmps26
  go_wp2_with fail
  refine HR.out.mono ?_
  rintro _ _ ⟨rfl, rfl⟩
  go_wp2
  go_ret
  exact ⟨rfl, rfl⟩

set_option maxRecDepth 100000 in
set_option maxHeartbeats 1000000 in
theorem rename_bad {W : World} {v : Value} {er : Int} (h : Bad W v er) (s : ByteArray) (t : ByteArray) :
    Calls Tryz.prog 36 #[v, .string s, .string t] W fun e w' => e = .returned (.int .i64 er) ∧ w' = W := by
  have HR := hide (find_bad h s)
  have hne := h.ne
  obtain ⟨p, rfl⟩ := h.form
  clear h
  go_enter Tryz.func36, Tryz.ntmps36
  go_wp2_with fail
  refine HR.out.mono ?_
  rintro _ _ ⟨rfl, rfl⟩
  go_wp2
  go_ret
  exact ⟨rfl, rfl⟩

set_option maxRecDepth 100000 in
set_option maxHeartbeats 1000000 in
theorem remove_bad {W : World} {v : Value} {er : Int} (h : Bad W v er) (s : ByteArray) :
    Calls Tryz.prog 14 #[v, .string s] W fun e w' => e = .returned (.int .i64 er) ∧ w' = W := by
  have HR := hide (find_bad h s)
  have hne := h.ne
  obtain ⟨p, rfl⟩ := h.form
  clear h
  go_enter Tryz.func14, Tryz.ntmps14
  go_wp2_with fail
  refine HR.out.mono ?_
  rintro _ _ ⟨rfl, rfl⟩
  go_wp2
  go_ret
  exact ⟨rfl, rfl⟩

set_option maxRecDepth 100000 in
set_option maxHeartbeats 1000000 in
theorem read_bad {W : World} {v : Value} {er : Int} (h : Bad W v er) (s : ByteArray) (k n : Int) :
    Calls Tryz.prog 28 #[v, .string s, .int .i64 k, .int .i64 n] W fun e w' => e = .returned (.tuple #[.slice none 0 0, .int .i64 er]) ∧ w' = W := by
  have HR := hide (find_bad h s)
  have hne := h.ne
  obtain ⟨p, rfl⟩ := h.form
  clear h
  go_enter Tryz.func28, Tryz.ntmps28
  go_wp2_with fail
  refine HR.out.mono ?_
  rintro _ _ ⟨rfl, rfl⟩
  go_wp2
  go_ret2
  exact ⟨rfl, rfl⟩

set_option maxRecDepth 100000 in
set_option maxHeartbeats 1000000 in
theorem size_bad {W : World} {v : Value} {er : Int} (h : Bad W v er) (s : ByteArray) :
    Calls Tryz.prog 29 #[v, .string s] W fun e w' => e = .returned (.tuple #[.int .i64 0, .int .i64 er]) ∧ w' = W := by
  have HR := hide (find_bad h s)
  have hne := h.ne
  obtain ⟨p, rfl⟩ := h.form
  clear h
  go_enter Tryz.func29, Tryz.ntmps29
  go_wp2_with fail
  refine HR.out.mono ?_
  rintro _ _ ⟨rfl, rfl⟩
  go_wp2
  go_ret2
  exact ⟨rfl, rfl⟩

set_option maxRecDepth 100000 in
set_option maxHeartbeats 1000000 in
theorem sure_bad {W : World} {v : Value} {er : Int} (h : Bad W v er) (s : ByteArray) :
    Calls Tryz.prog 17 #[v, .string s] W fun e w' => e = .returned (.tuple #[.slice none 0 0, .int .i64 er]) ∧ w' = W := by
  have HR := hide (find_bad h s)
  have hne := h.ne
  obtain ⟨p, rfl⟩ := h.form
  clear h
  go_enter Tryz.func17, Tryz.ntmps17
  go_wp2_with fail
  refine HR.out.mono ?_
  rintro _ _ ⟨rfl, rfl⟩
  go_wp2
  go_ret2
  exact ⟨rfl, rfl⟩

set_option maxRecDepth 100000 in
set_option maxHeartbeats 1000000 in
theorem create_bad {W : World} {v : Value} {er : Int} (h : Bad W v er) (s : ByteArray) :
    Calls Tryz.prog 12 #[v, .string s] W fun e w' => e = .returned (.int .i64 er) ∧ w' = W := by
  have HR := hide (ready_bad h)
  have hne := h.ne
  obtain ⟨p, rfl⟩ := h.form
  clear h
  go_enter Tryz.func12, Tryz.ntmps12
  go_wp2_with fail
  refine HR.out.mono ?_
  rintro _ _ ⟨rfl, rfl⟩
  go_wp2
  go_ret
  exact ⟨rfl, rfl⟩

end Go.Proofs.YtikpckmlnhcddaaGreat
