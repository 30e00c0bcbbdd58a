/-
  What the methods of pack.Unpacker do to an unpacker that no call made (nil, or a zero struct), over any world, which they leave as it is. No condition.
-/
import Derived.Test.YtpnoijmdhlkjlabFst
namespace Go.Proofs.Ytpnoijmdhlkjlab
open Go.RowKit

/-- An unpacker that no call made. -/
def Nop (w : World) (v : Value) : Prop := v = .pointer none ∨ ∃ b, v = .pointer (some ⟨b, 0, none⟩) ∧ w.heap[b]? = some (.cells #[.bool false, .slice none 0 0, .int .i64 0] 27 (0, 0))

theorem nop_cells {w : World} {b : Nat} (h : w.heap[b]? = some (.cells #[.bool false, .slice none 0 0, .int .i64 0] 27 (0, 0))) :
    w.cell? ⟨b, 0, none⟩ = some (.bool false) ∧ w.cell? ⟨b, 1, none⟩ = some (.slice none 0 0) := by constructor <;> simp [World.cell?, h]

set_option maxHeartbeats 400000 in
theorem err_nop {w : World} {v : Value} (h : Nop w v) : Calls Try.prog 10 #[v] w fun r w' => r = .returned (.int .i64 2) ∧ w' = w := by
  rcases h with rfl | ⟨b, rfl, hb⟩
  · go_enter Try.func10, Try.ntmps10
    go_wp2
    go_ret
    exact ⟨rfl, rfl⟩
  · obtain ⟨c0, c1⟩ := nop_cells hb
    clear hb
    go_enter Try.func10, Try.ntmps10
    go_wp2
    go_ret
    exact ⟨rfl, rfl⟩

set_option maxHeartbeats 400000 in
theorem rest_nop {w : World} {v : Value} (h : Nop w v) : Calls Try.prog 9 #[v] w fun r w' => r = .returned (.int .i64 0) ∧ w' = w := by
  rcases h with rfl | ⟨b, rfl, hb⟩
  · go_enter Try.func9, Try.ntmps9
    go_wp2
    go_ret
    exact ⟨rfl, rfl⟩
  · obtain ⟨c0, c1⟩ := nop_cells hb
    clear hb
    go_enter Try.func9, Try.ntmps9
    go_wp2
    go_ret
    exact ⟨rfl, rfl⟩

set_option maxHeartbeats 400000 in
theorem close_nop {w : World} {v : Value} (h : Nop w v) : Calls Try.prog 11 #[v] w fun r w' => r = .returned (.int .i64 2) ∧ w' = w := by
  have H : Hid (Nop w v) := h
  clear h
  go_enter Try.func11, Try.ntmps11
  go_wp2_with (go_at_call 10; refine (err_nop H.out).mono ?_; rintro r w' ⟨rfl, rfl⟩)
  go_ret
  exact ⟨rfl, rfl⟩

set_option maxHeartbeats 400000 in
theorem int_nop {w : World} {v : Value} {least most : Int} (h : Nop w v) : Calls Try.prog 6 #[v, .int .i64 least, .int .i64 most] w fun r w' => r = .returned (.int .i64 0) ∧ w' = w := by
  have H : Hid (Nop w v) := h
  clear h
  go_enter Try.func6, Try.ntmps6
  go_wp2_with (go_at_call 10; refine (err_nop H.out).mono ?_; rintro r w' ⟨rfl, rfl⟩)
  go_ret
  exact ⟨rfl, rfl⟩

set_option maxHeartbeats 400000 in
theorem spoil_nop {w : World} {v : Value} {x : Int} (h : Nop w v) (hx : (x == 0) = false) : Calls Try.prog 5 #[v, .int .i64 x] w fun r w' => r = .returned (.tuple #[]) ∧ w' = w := by
  have H : Hid (Nop w v) := h
  clear h
  go_enter Try.func5, Try.ntmps5
  go_wp2_with (go_at_call 10; refine (err_nop H.out).mono ?_; rintro r w' ⟨rfl, rfl⟩)
  refine bodyPost_ret (results_none rfl _ _ _) rfl ?_
  exact ⟨rfl, rfl⟩

set_option maxHeartbeats 400000 in
theorem flag_nop {w : World} {v : Value} (h : Nop w v) : Calls Try.prog 8 #[v] w fun r w' => r = .returned (.bool false) ∧ w' = w := by
  have H : Hid (Nop w v) := h
  clear h
  go_enter Try.func8, Try.ntmps8
  go_wp2_with (go_at_call 6; refine (int_nop H.out).mono ?_; rintro r w' ⟨rfl, rfl⟩)
  go_ret
  exact ⟨rfl, rfl⟩

set_option maxHeartbeats 400000 in
theorem str_nop {w : World} {v : Value} {most : Int} (h : Nop w v) : Calls Try.prog 7 #[v, .int .i64 most] w fun r w' => r = .returned (.slice none 0 0) ∧ w' = w := by
  have H : Hid (Nop w v) := h
  clear h
  go_enter Try.func7, Try.ntmps7
  go_wp2_with (first
    | (go_at_call 6; refine (int_nop H.out).mono ?_; rintro r w' ⟨rfl, rfl⟩)
    | (go_at_call 10; refine (err_nop H.out).mono ?_; rintro r w' ⟨rfl, rfl⟩))
  go_ret
  exact ⟨rfl, rfl⟩

end Go.Proofs.Ytpnoijmdhlkjlab
