/-
  What each call answers of a store that is nil, that no call made, or that is down. No conditions.
-/
import Derived.Test.YtikpckmlnhcddaaLok
namespace Go.Proofs.Ytikpckmlnhcddaa
open Go.RowKit Go.Maps

set_option maxRecDepth 100000 in
set_option maxHeartbeats 1000000 in
theorem write_bad {W : World} {v : Value} {er : Int} (h : Bad W v er) (s : ByteArray) (k : Int) (p : Option Addr) (n c : Nat) :
    Calls Try.prog 9 #[v, .string s, .int .i64 k, .slice p n c] W fun e w' => e = .returned (.int .i64 er) ∧ w' = W := by
  have HR := hide (find_bad h s)
  have hne := h.ne
  obtain ⟨q, rfl⟩ := h.form
  clear h
  go_enter Try.func9, Try.ntmps9
  go_wp2_with fail
  refine HR.out.mono ?_
  rintro _ _ ⟨rfl, rfl⟩
  go_wp2
  go_ret
  exact ⟨rfl, rfl⟩

set_option maxRecDepth 100000 in
set_option maxHeartbeats 1000000 in
theorem cut_bad {W : World} {v : Value} {er : Int} (h : Bad W v er) (s : ByteArray) (k : Int) :
    Calls Try.prog 18 #[v, .string s, .int .i64 k] W fun e w' => e = .returned (.int .i64 er) ∧ w' = W := by
  have HR := hide (find_bad h s)
  have hne := h.ne
  obtain ⟨p, rfl⟩ := h.form
  clear h
  go_enter Try.func18, Try.ntmps18
  go_wp2_with fail
  refine HR.out.mono ?_
  rintro _ _ ⟨rfl, rfl⟩
  go_wp2
  go_ret
  exact ⟨rfl, rfl⟩

set_option maxRecDepth 100000 in
set_option maxHeartbeats 1000000 in
theorem sync_bad {W : World} {v : Value} {er : Int} (h : Bad W v er) (s : ByteArray) :
    Calls Try.prog 8 #[v, .string s] W fun e w' => e = .returned (.int .i64 er) ∧ w' = W := by
  have HR := hide (find_bad h s)
  have hne := h.ne
  obtain ⟨p, rfl⟩ := h.form
  clear h
  go_enter Try.func8, Try.ntmps8
  go_wp2_with fail
  refine HR.out.mono ?_
  rintro _ _ ⟨rfl, rfl⟩
  go_wp2
  go_ret
  exact ⟨rfl, rfl⟩

set_option maxRecDepth 100000 in
set_option maxHeartbeats 1000000 in
theorem rename_bad {W : World} {v : Value} {er : Int} (h : Bad W v er) (s : ByteArray) (t : ByteArray) :
    Calls Try.prog 19 #[v, .string s, .string t] W fun e w' => e = .returned (.int .i64 er) ∧ w' = W := by
  have HR := hide (find_bad h s)
  have hne := h.ne
  obtain ⟨p, rfl⟩ := h.form
  clear h
  go_enter Try.func19, Try.ntmps19
  go_wp2_with fail
  refine HR.out.mono ?_
  rintro _ _ ⟨rfl, rfl⟩
  go_wp2
  go_ret
  exact ⟨rfl, rfl⟩

set_option maxRecDepth 100000 in
set_option maxHeartbeats 1000000 in
theorem remove_bad {W : World} {v : Value} {er : Int} (h : Bad W v er) (s : ByteArray) :
    Calls Try.prog 20 #[v, .string s] W fun e w' => e = .returned (.int .i64 er) ∧ w' = W := by
  have HR := hide (find_bad h s)
  have hne := h.ne
  obtain ⟨p, rfl⟩ := h.form
  clear h
  go_enter Try.func20, Try.ntmps20
  go_wp2_with fail
  refine HR.out.mono ?_
  rintro _ _ ⟨rfl, rfl⟩
  go_wp2
  go_ret
  exact ⟨rfl, rfl⟩

set_option maxRecDepth 100000 in
set_option maxHeartbeats 1000000 in
theorem read_bad {W : World} {v : Value} {er : Int} (h : Bad W v er) (s : ByteArray) (k n : Int) :
    Calls Try.prog 14 #[v, .string s, .int .i64 k, .int .i64 n] W fun e w' => e = .returned (.tuple #[.slice none 0 0, .int .i64 er]) ∧ w' = W := by
  have HR := hide (find_bad h s)
  have hne := h.ne
  obtain ⟨p, rfl⟩ := h.form
  clear h
  go_enter Try.func14, Try.ntmps14
  go_wp2_with fail
  refine HR.out.mono ?_
  rintro _ _ ⟨rfl, rfl⟩
  go_wp2
  go_ret2
  exact ⟨rfl, rfl⟩

set_option maxRecDepth 100000 in
set_option maxHeartbeats 1000000 in
theorem size_bad {W : World} {v : Value} {er : Int} (h : Bad W v er) (s : ByteArray) :
    Calls Try.prog 13 #[v, .string s] W fun e w' => e = .returned (.tuple #[.int .i64 0, .int .i64 er]) ∧ w' = W := by
  have HR := hide (find_bad h s)
  have hne := h.ne
  obtain ⟨p, rfl⟩ := h.form
  clear h
  go_enter Try.func13, Try.ntmps13
  go_wp2_with fail
  refine HR.out.mono ?_
  rintro _ _ ⟨rfl, rfl⟩
  go_wp2
  go_ret2
  exact ⟨rfl, rfl⟩

set_option maxRecDepth 100000 in
set_option maxHeartbeats 1000000 in
theorem sure_bad {W : World} {v : Value} {er : Int} (h : Bad W v er) (s : ByteArray) :
    Calls Try.prog 16 #[v, .string s] W fun e w' => e = .returned (.tuple #[.slice none 0 0, .int .i64 er]) ∧ w' = W := by
  have HR := hide (find_bad h s)
  have hne := h.ne
  obtain ⟨p, rfl⟩ := h.form
  clear h
  go_enter Try.func16, Try.ntmps16
  go_wp2_with fail
  refine HR.out.mono ?_
  rintro _ _ ⟨rfl, rfl⟩
  go_wp2
  go_ret2
  exact ⟨rfl, rfl⟩

set_option maxRecDepth 100000 in
set_option maxHeartbeats 1000000 in
theorem create_bad {W : World} {v : Value} {er : Int} (h : Bad W v er) (s : ByteArray) :
    Calls Try.prog 17 #[v, .string s] W fun e w' => e = .returned (.int .i64 er) ∧ w' = W := by
  have HR := hide (ready_bad h)
  have hne := h.ne
  obtain ⟨p, rfl⟩ := h.form
  clear h
  go_enter Try.func17, Try.ntmps17
  go_wp2_with fail
  refine HR.out.mono ?_
  rintro _ _ ⟨rfl, rfl⟩
  go_wp2
  go_ret
  exact ⟨rfl, rfl⟩

end Go.Proofs.Ytikpckmlnhcddaa
