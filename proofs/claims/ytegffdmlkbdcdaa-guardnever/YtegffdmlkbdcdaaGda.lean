/-
  Guards, plainly; within, later, lastUntil, lastKind, lastAsked, mayAsk, awaits, New of package guard. The conditions: that a clock is a number from 0 to the greatest, where it is added to.
-/
import Derived.Test.YtegffdmlkbdcdaaLsb
import Derived.Lib.BitFns
namespace Go.Proofs.Ytegffdmlkbdcdaa
open Go.RowKit

/-- A guard. -/
structure GE where
  ck : Int
  ep : Int
  un : Int
  se : Int
  ki : Int
  ak : Int
deriving DecidableEq
instance : Inhabited GE := ⟨⟨0, 0, 0, 0, 0, 0⟩⟩
def GE.row (g : GE) : Array Value := #[.int .i64 g.ck, .int .i64 g.ep, .int .i64 g.un, .int .i64 g.se, .int .i64 g.ki, .int .i64 g.ak]
def GE.val (g : GE) : Value := .agg g.row
def okG (g : GE) : Prop := (0 ≤ g.ck ∧ g.ck ≤ 9007199254740992) ∧ (0 ≤ g.ep ∧ g.ep ≤ 9007199254740992) ∧ (0 ≤ g.un ∧ g.un ≤ 9007199254740992) ∧ (0 ≤ g.se ∧ g.se ≤ 9007199254740992) ∧ (0 ≤ g.ak ∧ g.ak ≤ 9007199254740992) ∧
  (g.ep = 0 → g.un = 0) ∧ g.un ≤ g.ck + 12 ∧ (0 ≤ g.ki ∧ g.ki ≤ 2) ∧ (g.ki = 0 → g.ak = 0) ∧ (g.ki ≠ 0 → g.se ≠ 0 ∧ g.ak ≤ g.ck) ∧ (g.ki = 2 → g.ep ≠ 0)
instance (g : GE) : Decidable (okG g) := by unfold okG; infer_instance
def zeroG : GE := ⟨0, 0, 0, 0, 0, 0⟩
theorem zero_ok : okG zeroG := by decide
def chkG (g : GE) : Int := if okG g then 0 else 1
def sndG (g : GE) : GE := if okG g then g else zeroG
theorem snd_ok (g : GE) : okG (sndG g) := by
  unfold sndG; split
  · assumption
  · exact zero_ok
theorem snd_same {g : GE} (h : okG g) : sndG g = g := if_pos h
def witC (n l : Int) : Int := min (max n 0) l
def untG (g : GE) : Int := if g.ep = 0 then 0 else laterC g.ck 12
def kinG (g : GE) : Int := if g.se = 0 then 0 else if g.ep = 0 then 1 else 2
def askedG (g : GE) : Int := if g.ki = 0 then 0 else g.ck
def mayG (g : GE) : Bool := decide (g.ki = 0 ∨ 4 ≤ g.ck - g.ak)
def awG (g : GE) (s : Int) : Bool := decide (g.ki ≠ 0 ∧ s = g.se)
def ansG (g : GE) : GE := ⟨g.ck, g.ep, g.un, g.se, 0, 0⟩
theorem ne_neG {a b : Int} (h : a ≠ b) : (a != b) = true := by simpa using h
theorem alloc_belowG (w : World) (o : Obj) : Below w.heap.size w (w.alloc o) := (Below.refl _ _).alloc (Nat.le_refl _) _
theorem results_cell_four {P : Program} {fn : Func} {p u v z : Tmp} {ty : TypeId} (h : fn.results = #[.cell p ty, .tmp u, .tmp v, .tmp z]) (tmps : Array Value) (w : World) (g : Nat) (t : TypeId) (cs : Array Value) (fr : Nat × Nat) (d : TypeDesc)
    (hp : tmps.getD p undef = .pointer (some ⟨g, 0, none⟩)) (hg : w.heap[g]? = some (.cells cs t fr))
    (hu : P.underlying ty = some d) (hd : (match d with | .struct _ | .array _ _ => true | _ => false) = true) (hi : (P.info? ty).map (·.size) = some cs.size) :
    (results fn tmps).run P w = .ok (.tuple #[.agg cs, tmps.getD u undef, tmps.getD v undef, tmps.getD z undef]) w := by
  have hp' : tmps[p]?.getD undef = .pointer (some ⟨g, 0, none⟩) := by simpa using hp
  have hl := run_loadVar_row (P := P) w g t ty cs fr d hg hu hd hi
  simp only [results, h]
  simp [Result.andThen, hp', asAddr, hl]
theorem withinint64_any {W : World} {n l : Int} : Calls Try.prog 43 #[.int .i64 n, .int .i64 l] W fun e w' => e = .returned (.int .i64 (witC n l)) ∧ w' = W := by
  go_enter Try.func43, Try.ntmps43
  go_wp2
  all_goals go_ret
  all_goals exact ⟨retI (by unfold witC; (repeat' split at *) <;> omega), rfl⟩
theorem withinint_any {W : World} {n l : Int} : Calls Try.prog 45 #[.int .i64 n, .int .i64 l] W fun e w' => e = .returned (.int .i64 (witC n l)) ∧ w' = W := by
  go_enter Try.func45, Try.ntmps45
  go_wp2
  all_goals go_ret
  all_goals exact ⟨retI (by unfold witC; (repeat' split at *) <;> omega), rfl⟩
theorem glater_any {W : World} {c n : Int} (h0 : 0 ≤ c) (h1 : c ≤ 9007199254740992) : Calls Try.prog 40 #[.int .i64 c, .int .i64 n] W fun e w' => e = .returned (.int .i64 (laterC c n)) ∧ w' = W := by
  have e1 : IntKind.i64.wrap (9007199254740992 - c) = 9007199254740992 - c := by rw [IntKind.wrap_i64]; omega
  obtain ⟨m, hm⟩ : ∃ m, witC n (9007199254740992 - c) = m := ⟨_, rfl⟩
  have e2 : IntKind.i64.wrap (c + m) = laterC c n := by
    rw [← hm]
    have := later_le (n := n) h0 h1
    unfold laterC witC at *
    rw [IntKind.wrap_i64]; omega
  have HM := hide hm
  clear hm
  go_enter Try.func40, Try.ntmps40
  go_wp2_with (go_at_call 43; refine withinint64_any.mono ?_; rw [HM.out]; rintro _ _ ⟨rfl, rfl⟩)
  go_ret
  exact ⟨by first | rw [e2] | rfl, rfl⟩
set_option maxRecDepth 100000 in
set_option maxHeartbeats 2000000 in
theorem lastun_1 {W : World} {ck ep un se ki ak : Int}   (h : ep = 0) :
    Calls Try.prog 44 #[.agg #[.int .i64 ck, .int .i64 ep, .int .i64 un, .int .i64 se, .int .i64 ki, .int .i64 ak]] W fun e w' => e = .returned (.int .i64 (untG ⟨ck, ep, un, se, ki, ak⟩)) ∧ Below W.heap.size W w' := by
  have HQ : Hid (untG ⟨ck, ep, un, se, ki, ak⟩ = 0) := hide (by exact if_pos h)
  have d1 : (ep == 0) = true := by simpa using h
  clear h
  obtain ⟨V, hV⟩ : ∃ V, V = W.alloc (.cells #[.int .i64 ck, .int .i64 ep, .int .i64 un, .int .i64 se, .int .i64 ki, .int .i64 ak] 23 (0, 0)) := ⟨_, rfl⟩
  have HV : Hid (V.heap[W.heap.size]? = some (.cells #[.int .i64 ck, .int .i64 ep, .int .i64 un, .int .i64 se, .int .i64 ki, .int .i64 ak] 23 (0, 0))) := hide (by rw [hV]; exact heap_alloc_new W _)
  have HBV : Hid (Below W.heap.size W V) := hide (by rw [hV]; exact alloc_below _ _)
  obtain ⟨bB, hbB⟩ : ∃ bB, W.heap.size = bB := ⟨_, rfl⟩
  rw [hbB] at HV HBV
  have HBB := hide hbB
  go_enter Try.func44, Try.ntmps44
  go_upto_region 1 with fail
  rw [← hV]
  try rw [hbB]
  clear hV hbB
  obtain ⟨_, _, _, _, _, _, u0, u1, u2, u3, u4, u5⟩ := six HV.out
  go_wp2
  go_ret
  exact ⟨by first | rw [HQ.out]; rfl | rfl, by rw [HBB.out]; exact HBV.out⟩

set_option maxRecDepth 100000 in
set_option maxHeartbeats 2000000 in
theorem lastun_2 {W : World} {ck ep un se ki ak : Int}  (h0 : 0 ≤ ck ∧ ck ≤ 9007199254740992) (h : ep ≠ 0) :
    Calls Try.prog 44 #[.agg #[.int .i64 ck, .int .i64 ep, .int .i64 un, .int .i64 se, .int .i64 ki, .int .i64 ak]] W fun e w' => e = .returned (.int .i64 (untG ⟨ck, ep, un, se, ki, ak⟩)) ∧ Below W.heap.size W w' := by
  have HQ : Hid (untG ⟨ck, ep, un, se, ki, ak⟩ = laterC ck 12) := hide (by exact if_neg h)
  have d1 : (ep == 0) = false := ne_eqL h
  have HK := hide h0
  clear h h0
  obtain ⟨V, hV⟩ : ∃ V, V = W.alloc (.cells #[.int .i64 ck, .int .i64 ep, .int .i64 un, .int .i64 se, .int .i64 ki, .int .i64 ak] 23 (0, 0)) := ⟨_, rfl⟩
  have HV : Hid (V.heap[W.heap.size]? = some (.cells #[.int .i64 ck, .int .i64 ep, .int .i64 un, .int .i64 se, .int .i64 ki, .int .i64 ak] 23 (0, 0))) := hide (by rw [hV]; exact heap_alloc_new W _)
  have HBV : Hid (Below W.heap.size W V) := hide (by rw [hV]; exact alloc_below _ _)
  obtain ⟨bB, hbB⟩ : ∃ bB, W.heap.size = bB := ⟨_, rfl⟩
  rw [hbB] at HV HBV
  have HBB := hide hbB
  go_enter Try.func44, Try.ntmps44
  go_upto_region 1 with fail
  rw [← hV]
  try rw [hbB]
  clear hV hbB
  obtain ⟨_, _, _, _, _, _, u0, u1, u2, u3, u4, u5⟩ := six HV.out
  go_wp2_with (go_at_call 40; refine (glater_any HK.out.1 HK.out.2).mono ?_; rintro _ _ ⟨rfl, rfl⟩)
  go_ret
  exact ⟨by first | rw [HQ.out]; rfl | rfl, by rw [HBB.out]; exact HBV.out⟩

theorem lastun_any {W : World} {ck ep un se ki ak : Int} (h0 : 0 ≤ ck ∧ ck ≤ 9007199254740992) : Calls Try.prog 44 #[.agg #[.int .i64 ck, .int .i64 ep, .int .i64 un, .int .i64 se, .int .i64 ki, .int .i64 ak]] W fun e w' => e = .returned (.int .i64 (untG ⟨ck, ep, un, se, ki, ak⟩)) ∧ Below W.heap.size W w' := by
  by_cases h : ep = 0
  · exact lastun_1 h
  · exact lastun_2 h0 h
set_option maxRecDepth 100000 in
set_option maxHeartbeats 2000000 in
theorem lastki_1 {W : World} {ck ep un se ki ak : Int}  (h : se = 0) :
    Calls Try.prog 46 #[.agg #[.int .i64 ck, .int .i64 ep, .int .i64 un, .int .i64 se, .int .i64 ki, .int .i64 ak]] W fun e w' => e = .returned (.int .i64 (kinG ⟨ck, ep, un, se, ki, ak⟩)) ∧ Below W.heap.size W w' := by
  have HQ : Hid (kinG ⟨ck, ep, un, se, ki, ak⟩ = 0) := hide (by exact if_pos h)
  have d1 : (se == 0) = true := by simpa using h
  clear h
  obtain ⟨V, hV⟩ : ∃ V, V = W.alloc (.cells #[.int .i64 ck, .int .i64 ep, .int .i64 un, .int .i64 se, .int .i64 ki, .int .i64 ak] 23 (0, 0)) := ⟨_, rfl⟩
  have HV : Hid (V.heap[W.heap.size]? = some (.cells #[.int .i64 ck, .int .i64 ep, .int .i64 un, .int .i64 se, .int .i64 ki, .int .i64 ak] 23 (0, 0))) := hide (by rw [hV]; exact heap_alloc_new W _)
  have HBV : Hid (Below W.heap.size W V) := hide (by rw [hV]; exact alloc_below _ _)
  obtain ⟨bB, hbB⟩ : ∃ bB, W.heap.size = bB := ⟨_, rfl⟩
  rw [hbB] at HV HBV
  have HBB := hide hbB
  go_enter Try.func46, Try.ntmps46
  go_upto_region 1 with fail
  rw [← hV]
  try rw [hbB]
  clear hV hbB
  obtain ⟨_, _, _, _, _, _, u0, u1, u2, u3, u4, u5⟩ := six HV.out
  go_wp2
  go_ret
  exact ⟨by first | rw [HQ.out]; rfl | rfl, by rw [HBB.out]; exact HBV.out⟩

set_option maxRecDepth 100000 in
set_option maxHeartbeats 2000000 in
theorem lastki_2 {W : World} {ck ep un se ki ak : Int}  (h : se ≠ 0) (h2 : ep = 0) :
    Calls Try.prog 46 #[.agg #[.int .i64 ck, .int .i64 ep, .int .i64 un, .int .i64 se, .int .i64 ki, .int .i64 ak]] W fun e w' => e = .returned (.int .i64 (kinG ⟨ck, ep, un, se, ki, ak⟩)) ∧ Below W.heap.size W w' := by
  have HQ : Hid (kinG ⟨ck, ep, un, se, ki, ak⟩ = 1) := hide (by exact (if_neg h).trans (if_pos h2))
  have d1 : (se == 0) = false := ne_eqL h
  have d2 : (ep == 0) = true := by simpa using h2
  clear h h2
  obtain ⟨V, hV⟩ : ∃ V, V = W.alloc (.cells #[.int .i64 ck, .int .i64 ep, .int .i64 un, .int .i64 se, .int .i64 ki, .int .i64 ak] 23 (0, 0)) := ⟨_, rfl⟩
  have HV : Hid (V.heap[W.heap.size]? = some (.cells #[.int .i64 ck, .int .i64 ep, .int .i64 un, .int .i64 se, .int .i64 ki, .int .i64 ak] 23 (0, 0))) := hide (by rw [hV]; exact heap_alloc_new W _)
  have HBV : Hid (Below W.heap.size W V) := hide (by rw [hV]; exact alloc_below _ _)
  obtain ⟨bB, hbB⟩ : ∃ bB, W.heap.size = bB := ⟨_, rfl⟩
  rw [hbB] at HV HBV
  have HBB := hide hbB
  go_enter Try.func46, Try.ntmps46
  go_upto_region 1 with fail
  rw [← hV]
  try rw [hbB]
  clear hV hbB
  obtain ⟨_, _, _, _, _, _, u0, u1, u2, u3, u4, u5⟩ := six HV.out
  go_wp2
  go_ret
  exact ⟨by first | rw [HQ.out]; rfl | rfl, by rw [HBB.out]; exact HBV.out⟩

set_option maxRecDepth 100000 in
set_option maxHeartbeats 2000000 in
theorem lastki_3 {W : World} {ck ep un se ki ak : Int}  (h : se ≠ 0) (h2 : ep ≠ 0) :
    Calls Try.prog 46 #[.agg #[.int .i64 ck, .int .i64 ep, .int .i64 un, .int .i64 se, .int .i64 ki, .int .i64 ak]] W fun e w' => e = .returned (.int .i64 (kinG ⟨ck, ep, un, se, ki, ak⟩)) ∧ Below W.heap.size W w' := by
  have HQ : Hid (kinG ⟨ck, ep, un, se, ki, ak⟩ = 2) := hide (by exact (if_neg h).trans (if_neg h2))
  have d1 : (se == 0) = false := ne_eqL h
  have d2 : (ep == 0) = false := ne_eqL h2
  clear h h2
  obtain ⟨V, hV⟩ : ∃ V, V = W.alloc (.cells #[.int .i64 ck, .int .i64 ep, .int .i64 un, .int .i64 se, .int .i64 ki, .int .i64 ak] 23 (0, 0)) := ⟨_, rfl⟩
  have HV : Hid (V.heap[W.heap.size]? = some (.cells #[.int .i64 ck, .int .i64 ep, .int .i64 un, .int .i64 se, .int .i64 ki, .int .i64 ak] 23 (0, 0))) := hide (by rw [hV]; exact heap_alloc_new W _)
  have HBV : Hid (Below W.heap.size W V) := hide (by rw [hV]; exact alloc_below _ _)
  obtain ⟨bB, hbB⟩ : ∃ bB, W.heap.size = bB := ⟨_, rfl⟩
  rw [hbB] at HV HBV
  have HBB := hide hbB
  go_enter Try.func46, Try.ntmps46
  go_upto_region 1 with fail
  rw [← hV]
  try rw [hbB]
  clear hV hbB
  obtain ⟨_, _, _, _, _, _, u0, u1, u2, u3, u4, u5⟩ := six HV.out
  go_wp2
  go_ret
  exact ⟨by first | rw [HQ.out]; rfl | rfl, by rw [HBB.out]; exact HBV.out⟩

theorem lastki_any {W : World} {ck ep un se ki ak : Int} : Calls Try.prog 46 #[.agg #[.int .i64 ck, .int .i64 ep, .int .i64 un, .int .i64 se, .int .i64 ki, .int .i64 ak]] W fun e w' => e = .returned (.int .i64 (kinG ⟨ck, ep, un, se, ki, ak⟩)) ∧ Below W.heap.size W w' := by
  by_cases h : se = 0
  · exact lastki_1 h
  · by_cases h2 : ep = 0
    · exact lastki_2 h h2
    · exact lastki_3 h h2
set_option maxRecDepth 100000 in
set_option maxHeartbeats 2000000 in
theorem lastak_1 {W : World} {ck ep un se ki ak : Int}  (h : ki = 0) :
    Calls Try.prog 47 #[.agg #[.int .i64 ck, .int .i64 ep, .int .i64 un, .int .i64 se, .int .i64 ki, .int .i64 ak]] W fun e w' => e = .returned (.int .i64 (askedG ⟨ck, ep, un, se, ki, ak⟩)) ∧ Below W.heap.size W w' := by
  have HQ : Hid (askedG ⟨ck, ep, un, se, ki, ak⟩ = 0) := hide (by exact if_pos h)
  have d1 : (ki == 0) = true := by simpa using h
  clear h
  obtain ⟨V, hV⟩ : ∃ V, V = W.alloc (.cells #[.int .i64 ck, .int .i64 ep, .int .i64 un, .int .i64 se, .int .i64 ki, .int .i64 ak] 23 (0, 0)) := ⟨_, rfl⟩
  have HV : Hid (V.heap[W.heap.size]? = some (.cells #[.int .i64 ck, .int .i64 ep, .int .i64 un, .int .i64 se, .int .i64 ki, .int .i64 ak] 23 (0, 0))) := hide (by rw [hV]; exact heap_alloc_new W _)
  have HBV : Hid (Below W.heap.size W V) := hide (by rw [hV]; exact alloc_below _ _)
  obtain ⟨bB, hbB⟩ : ∃ bB, W.heap.size = bB := ⟨_, rfl⟩
  rw [hbB] at HV HBV
  have HBB := hide hbB
  go_enter Try.func47, Try.ntmps47
  go_upto_region 1 with fail
  rw [← hV]
  try rw [hbB]
  clear hV hbB
  obtain ⟨_, _, _, _, _, _, u0, u1, u2, u3, u4, u5⟩ := six HV.out
  go_wp2
  go_ret
  exact ⟨by first | rw [HQ.out]; rfl | rfl, by rw [HBB.out]; exact HBV.out⟩

set_option maxRecDepth 100000 in
set_option maxHeartbeats 2000000 in
theorem lastak_2 {W : World} {ck ep un se ki ak : Int}  (h : ki ≠ 0) :
    Calls Try.prog 47 #[.agg #[.int .i64 ck, .int .i64 ep, .int .i64 un, .int .i64 se, .int .i64 ki, .int .i64 ak]] W fun e w' => e = .returned (.int .i64 (askedG ⟨ck, ep, un, se, ki, ak⟩)) ∧ Below W.heap.size W w' := by
  have HQ : Hid (askedG ⟨ck, ep, un, se, ki, ak⟩ = ck) := hide (by exact if_neg h)
  have d1 : (ki == 0) = false := ne_eqL h
  clear h
  obtain ⟨V, hV⟩ : ∃ V, V = W.alloc (.cells #[.int .i64 ck, .int .i64 ep, .int .i64 un, .int .i64 se, .int .i64 ki, .int .i64 ak] 23 (0, 0)) := ⟨_, rfl⟩
  have HV : Hid (V.heap[W.heap.size]? = some (.cells #[.int .i64 ck, .int .i64 ep, .int .i64 un, .int .i64 se, .int .i64 ki, .int .i64 ak] 23 (0, 0))) := hide (by rw [hV]; exact heap_alloc_new W _)
  have HBV : Hid (Below W.heap.size W V) := hide (by rw [hV]; exact alloc_below _ _)
  obtain ⟨bB, hbB⟩ : ∃ bB, W.heap.size = bB := ⟨_, rfl⟩
  rw [hbB] at HV HBV
  have HBB := hide hbB
  go_enter Try.func47, Try.ntmps47
  go_upto_region 1 with fail
  rw [← hV]
  try rw [hbB]
  clear hV hbB
  obtain ⟨_, _, _, _, _, _, u0, u1, u2, u3, u4, u5⟩ := six HV.out
  go_wp2
  go_ret
  exact ⟨by first | rw [HQ.out]; rfl | rfl, by rw [HBB.out]; exact HBV.out⟩

theorem lastak_any {W : World} {ck ep un se ki ak : Int} : Calls Try.prog 47 #[.agg #[.int .i64 ck, .int .i64 ep, .int .i64 un, .int .i64 se, .int .i64 ki, .int .i64 ak]] W fun e w' => e = .returned (.int .i64 (askedG ⟨ck, ep, un, se, ki, ak⟩)) ∧ Below W.heap.size W w' := by
  by_cases h : ki = 0
  · exact lastak_1 h
  · exact lastak_2 h
set_option maxRecDepth 100000 in
set_option maxHeartbeats 2000000 in
theorem mayask_1 {W : World} {ck ep un se ki ak : Int}   (h : ki = 0) :
    Calls Try.prog 27 #[.agg #[.int .i64 ck, .int .i64 ep, .int .i64 un, .int .i64 se, .int .i64 ki, .int .i64 ak]] W fun e w' => e = .returned (.bool (mayG ⟨ck, ep, un, se, ki, ak⟩)) ∧ Below W.heap.size W w' := by
  have HQ : Hid (mayG ⟨ck, ep, un, se, ki, ak⟩ = true) := hide (by exact decide_eq_true (.inl h))
  have d1 : (ki == 0) = true := by simpa using h
  clear h
  obtain ⟨V, hV⟩ : ∃ V, V = W.alloc (.cells #[.int .i64 ck, .int .i64 ep, .int .i64 un, .int .i64 se, .int .i64 ki, .int .i64 ak] 23 (0, 0)) := ⟨_, rfl⟩
  have HV : Hid (V.heap[W.heap.size]? = some (.cells #[.int .i64 ck, .int .i64 ep, .int .i64 un, .int .i64 se, .int .i64 ki, .int .i64 ak] 23 (0, 0))) := hide (by rw [hV]; exact heap_alloc_new W _)
  have HBV : Hid (Below W.heap.size W V) := hide (by rw [hV]; exact alloc_below _ _)
  obtain ⟨bB, hbB⟩ : ∃ bB, W.heap.size = bB := ⟨_, rfl⟩
  rw [hbB] at HV HBV
  have HBB := hide hbB
  go_enter Try.func27, Try.ntmps27
  go_upto_region 1 with fail
  rw [← hV]
  try rw [hbB]
  clear hV hbB
  obtain ⟨_, _, _, _, _, _, u0, u1, u2, u3, u4, u5⟩ := six HV.out
  go_wp2
  go_ret
  exact ⟨by first | rw [HQ.out]; rfl | rfl, by rw [HBB.out]; exact HBV.out⟩

set_option maxRecDepth 100000 in
set_option maxHeartbeats 2000000 in
theorem mayask_2 {W : World} {ck ep un se ki ak : Int}  (h0 : 0 ≤ ck ∧ ck ≤ 9007199254740992) (h1 : 0 ≤ ak ∧ ak ≤ 9007199254740992) (h : ki ≠ 0) (h2 : 4 ≤ ck - ak) :
    Calls Try.prog 27 #[.agg #[.int .i64 ck, .int .i64 ep, .int .i64 un, .int .i64 se, .int .i64 ki, .int .i64 ak]] W fun e w' => e = .returned (.bool (mayG ⟨ck, ep, un, se, ki, ak⟩)) ∧ Below W.heap.size W w' := by
  have HQ : Hid (mayG ⟨ck, ep, un, se, ki, ak⟩ = true) := hide (by exact decide_eq_true (.inr h2))
  have e1 : IntKind.i64.wrap (ck - ak) = ck - ak := by rw [IntKind.wrap_i64]; omega
  have d1 : (ki == 0) = false := ne_eqL h
  have d2 : decide (ck - ak ≥ 4) = true := decide_eq_true h2
  clear h h2 h0 h1
  obtain ⟨V, hV⟩ : ∃ V, V = W.alloc (.cells #[.int .i64 ck, .int .i64 ep, .int .i64 un, .int .i64 se, .int .i64 ki, .int .i64 ak] 23 (0, 0)) := ⟨_, rfl⟩
  have HV : Hid (V.heap[W.heap.size]? = some (.cells #[.int .i64 ck, .int .i64 ep, .int .i64 un, .int .i64 se, .int .i64 ki, .int .i64 ak] 23 (0, 0))) := hide (by rw [hV]; exact heap_alloc_new W _)
  have HBV : Hid (Below W.heap.size W V) := hide (by rw [hV]; exact alloc_below _ _)
  obtain ⟨bB, hbB⟩ : ∃ bB, W.heap.size = bB := ⟨_, rfl⟩
  rw [hbB] at HV HBV
  have HBB := hide hbB
  go_enter Try.func27, Try.ntmps27
  go_upto_region 1 with fail
  rw [← hV]
  try rw [hbB]
  clear hV hbB
  obtain ⟨_, _, _, _, _, _, u0, u1, u2, u3, u4, u5⟩ := six HV.out
  go_wp2
  go_ret
  exact ⟨by first | rw [HQ.out]; rfl | rfl, by rw [HBB.out]; exact HBV.out⟩

set_option maxRecDepth 100000 in
set_option maxHeartbeats 2000000 in
theorem mayask_3 {W : World} {ck ep un se ki ak : Int}  (h0 : 0 ≤ ck ∧ ck ≤ 9007199254740992) (h1 : 0 ≤ ak ∧ ak ≤ 9007199254740992) (h : ki ≠ 0) (h2 : ¬ 4 ≤ ck - ak) :
    Calls Try.prog 27 #[.agg #[.int .i64 ck, .int .i64 ep, .int .i64 un, .int .i64 se, .int .i64 ki, .int .i64 ak]] W fun e w' => e = .returned (.bool (mayG ⟨ck, ep, un, se, ki, ak⟩)) ∧ Below W.heap.size W w' := by
  have HQ : Hid (mayG ⟨ck, ep, un, se, ki, ak⟩ = false) := hide (by exact decide_eq_false (fun h3 => h3.elim h h2))
  have e1 : IntKind.i64.wrap (ck - ak) = ck - ak := by rw [IntKind.wrap_i64]; omega
  have d1 : (ki == 0) = false := ne_eqL h
  have d2 : decide (ck - ak ≥ 4) = false := decide_eq_false h2
  clear h h2 h0 h1
  obtain ⟨V, hV⟩ : ∃ V, V = W.alloc (.cells #[.int .i64 ck, .int .i64 ep, .int .i64 un, .int .i64 se, .int .i64 ki, .int .i64 ak] 23 (0, 0)) := ⟨_, rfl⟩
  have HV : Hid (V.heap[W.heap.size]? = some (.cells #[.int .i64 ck, .int .i64 ep, .int .i64 un, .int .i64 se, .int .i64 ki, .int .i64 ak] 23 (0, 0))) := hide (by rw [hV]; exact heap_alloc_new W _)
  have HBV : Hid (Below W.heap.size W V) := hide (by rw [hV]; exact alloc_below _ _)
  obtain ⟨bB, hbB⟩ : ∃ bB, W.heap.size = bB := ⟨_, rfl⟩
  rw [hbB] at HV HBV
  have HBB := hide hbB
  go_enter Try.func27, Try.ntmps27
  go_upto_region 1 with fail
  rw [← hV]
  try rw [hbB]
  clear hV hbB
  obtain ⟨_, _, _, _, _, _, u0, u1, u2, u3, u4, u5⟩ := six HV.out
  go_wp2
  go_ret
  exact ⟨by first | rw [HQ.out]; rfl | rfl, by rw [HBB.out]; exact HBV.out⟩

theorem mayask_any {W : World} {ck ep un se ki ak : Int} (h0 : 0 ≤ ck ∧ ck ≤ 9007199254740992) (h1 : 0 ≤ ak ∧ ak ≤ 9007199254740992) : Calls Try.prog 27 #[.agg #[.int .i64 ck, .int .i64 ep, .int .i64 un, .int .i64 se, .int .i64 ki, .int .i64 ak]] W fun e w' => e = .returned (.bool (mayG ⟨ck, ep, un, se, ki, ak⟩)) ∧ Below W.heap.size W w' := by
  by_cases h : ki = 0
  · exact mayask_1 h
  · by_cases h2 : 4 ≤ ck - ak
    · exact mayask_2 h0 h1 h h2
    · exact mayask_3 h0 h1 h h2
set_option maxRecDepth 100000 in
set_option maxHeartbeats 2000000 in
theorem awaits_1 {W : World} {ck ep un se ki ak : Int} {s : Int} (h : ki = 0) :
    Calls Try.prog 41 #[.agg #[.int .i64 ck, .int .i64 ep, .int .i64 un, .int .i64 se, .int .i64 ki, .int .i64 ak], .int .i64 s] W fun e w' => e = .returned (.bool (awG ⟨ck, ep, un, se, ki, ak⟩ s)) ∧ Below W.heap.size W w' := by
  have HQ : Hid (awG ⟨ck, ep, un, se, ki, ak⟩ s = false) := hide (by exact decide_eq_false (fun x => x.1 h))
  have d1 : (ki != 0) = false := by simp [h]
  have d1e : (ki == 0) = true := by simpa using h
  clear h
  obtain ⟨V, hV⟩ : ∃ V, V = W.alloc (.cells #[.int .i64 ck, .int .i64 ep, .int .i64 un, .int .i64 se, .int .i64 ki, .int .i64 ak] 23 (0, 0)) := ⟨_, rfl⟩
  have HV : Hid (V.heap[W.heap.size]? = some (.cells #[.int .i64 ck, .int .i64 ep, .int .i64 un, .int .i64 se, .int .i64 ki, .int .i64 ak] 23 (0, 0))) := hide (by rw [hV]; exact heap_alloc_new W _)
  have HBV : Hid (Below W.heap.size W V) := hide (by rw [hV]; exact alloc_below _ _)
  obtain ⟨bB, hbB⟩ : ∃ bB, W.heap.size = bB := ⟨_, rfl⟩
  rw [hbB] at HV HBV
  have HBB := hide hbB
  go_enter Try.func41, Try.ntmps41
  go_upto_region 1 with fail
  rw [← hV]
  try rw [hbB]
  clear hV hbB
  obtain ⟨_, _, _, _, _, _, u0, u1, u2, u3, u4, u5⟩ := six HV.out
  go_wp2
  go_ret
  exact ⟨by first | rw [HQ.out]; rfl | rfl, by rw [HBB.out]; exact HBV.out⟩

set_option maxRecDepth 100000 in
set_option maxHeartbeats 2000000 in
theorem awaits_2 {W : World} {ck ep un se ki ak : Int} {s : Int} (h : ki ≠ 0) (h2 : s = se) :
    Calls Try.prog 41 #[.agg #[.int .i64 ck, .int .i64 ep, .int .i64 un, .int .i64 se, .int .i64 ki, .int .i64 ak], .int .i64 s] W fun e w' => e = .returned (.bool (awG ⟨ck, ep, un, se, ki, ak⟩ s)) ∧ Below W.heap.size W w' := by
  have HQ : Hid (awG ⟨ck, ep, un, se, ki, ak⟩ s = true) := hide (by exact decide_eq_true ⟨h, h2⟩)
  have d1 : (ki != 0) = true := ne_neG h
  have d1e : (ki == 0) = false := ne_eqL h
  have d2 : (s == se) = true := by simpa using h2
  clear h h2
  obtain ⟨V, hV⟩ : ∃ V, V = W.alloc (.cells #[.int .i64 ck, .int .i64 ep, .int .i64 un, .int .i64 se, .int .i64 ki, .int .i64 ak] 23 (0, 0)) := ⟨_, rfl⟩
  have HV : Hid (V.heap[W.heap.size]? = some (.cells #[.int .i64 ck, .int .i64 ep, .int .i64 un, .int .i64 se, .int .i64 ki, .int .i64 ak] 23 (0, 0))) := hide (by rw [hV]; exact heap_alloc_new W _)
  have HBV : Hid (Below W.heap.size W V) := hide (by rw [hV]; exact alloc_below _ _)
  obtain ⟨bB, hbB⟩ : ∃ bB, W.heap.size = bB := ⟨_, rfl⟩
  rw [hbB] at HV HBV
  have HBB := hide hbB
  go_enter Try.func41, Try.ntmps41
  go_upto_region 1 with fail
  rw [← hV]
  try rw [hbB]
  clear hV hbB
  obtain ⟨_, _, _, _, _, _, u0, u1, u2, u3, u4, u5⟩ := six HV.out
  go_wp2
  go_ret
  exact ⟨by first | rw [HQ.out]; rfl | rfl, by rw [HBB.out]; exact HBV.out⟩

set_option maxRecDepth 100000 in
set_option maxHeartbeats 2000000 in
theorem awaits_3 {W : World} {ck ep un se ki ak : Int} {s : Int} (h : ki ≠ 0) (h2 : s ≠ se) :
    Calls Try.prog 41 #[.agg #[.int .i64 ck, .int .i64 ep, .int .i64 un, .int .i64 se, .int .i64 ki, .int .i64 ak], .int .i64 s] W fun e w' => e = .returned (.bool (awG ⟨ck, ep, un, se, ki, ak⟩ s)) ∧ Below W.heap.size W w' := by
  have HQ : Hid (awG ⟨ck, ep, un, se, ki, ak⟩ s = false) := hide (by exact decide_eq_false (fun x => h2 x.2))
  have d1 : (ki != 0) = true := ne_neG h
  have d1e : (ki == 0) = false := ne_eqL h
  have d2 : (s == se) = false := ne_eqL h2
  clear h h2
  obtain ⟨V, hV⟩ : ∃ V, V = W.alloc (.cells #[.int .i64 ck, .int .i64 ep, .int .i64 un, .int .i64 se, .int .i64 ki, .int .i64 ak] 23 (0, 0)) := ⟨_, rfl⟩
  have HV : Hid (V.heap[W.heap.size]? = some (.cells #[.int .i64 ck, .int .i64 ep, .int .i64 un, .int .i64 se, .int .i64 ki, .int .i64 ak] 23 (0, 0))) := hide (by rw [hV]; exact heap_alloc_new W _)
  have HBV : Hid (Below W.heap.size W V) := hide (by rw [hV]; exact alloc_below _ _)
  obtain ⟨bB, hbB⟩ : ∃ bB, W.heap.size = bB := ⟨_, rfl⟩
  rw [hbB] at HV HBV
  have HBB := hide hbB
  go_enter Try.func41, Try.ntmps41
  go_upto_region 1 with fail
  rw [← hV]
  try rw [hbB]
  clear hV hbB
  obtain ⟨_, _, _, _, _, _, u0, u1, u2, u3, u4, u5⟩ := six HV.out
  go_wp2
  go_ret
  exact ⟨by first | rw [HQ.out]; rfl | rfl, by rw [HBB.out]; exact HBV.out⟩

theorem awaits_any {W : World} {ck ep un se ki ak : Int} {s : Int} : Calls Try.prog 41 #[.agg #[.int .i64 ck, .int .i64 ep, .int .i64 un, .int .i64 se, .int .i64 ki, .int .i64 ak], .int .i64 s] W fun e w' => e = .returned (.bool (awG ⟨ck, ep, un, se, ki, ak⟩ s)) ∧ Below W.heap.size W w' := by
  by_cases h : ki = 0
  · exact awaits_1 h
  · by_cases h2 : s = se
    · exact awaits_2 h h2
    · exact awaits_3 h h2
theorem gnew_any {W : World} : Calls Try.prog 7 #[] W fun e w' => e = .returned (GE.val zeroG) ∧ Below W.heap.size W w' := by
  go_enter Try.func7, Try.ntmps7
  go_wp2
  refine bodyPost_ret (results_cell_row rfl _ _ W.heap.size 23 _ _ _ rfl (heap_alloc_new W _) Try.underlying23 rfl (by kernel_rfl)) rfl ?_
  exact ⟨rfl, alloc_belowG _ _⟩
set_option maxRecDepth 100000 in
set_option maxHeartbeats 2000000 in
theorem ans_any {W : World} {ck ep un se ki ak : Int}   :
    Calls Try.prog 42 #[.agg #[.int .i64 ck, .int .i64 ep, .int .i64 un, .int .i64 se, .int .i64 ki, .int .i64 ak]] W fun e w' => e = .returned (GE.val (ansG ⟨ck, ep, un, se, ki, ak⟩)) ∧ Below W.heap.size W w' := by
  obtain ⟨V0, hV0⟩ : ∃ V0, V0 = W.alloc (.cells #[.int .i64 ck, .int .i64 ep, .int .i64 un, .int .i64 se, .int .i64 ki, .int .i64 ak] 23 (0, 0)) := ⟨_, rfl⟩
  obtain ⟨V, hV⟩ : ∃ V, V = V0.alloc (.cells #[.int .i64 0, .int .i64 0, .int .i64 0, .int .i64 0, .int .i64 0, .int .i64 0] 23 (0, 0)) := ⟨_, rfl⟩
  have bV0 : Below W.heap.size W V0 := by rw [hV0]; exact alloc_below _ _
  have bV1 : Below V0.heap.size V0 V := by rw [hV]; exact alloc_below _ _
  have v0 : V0.heap[W.heap.size]? = some (.cells #[.int .i64 ck, .int .i64 ep, .int .i64 un, .int .i64 se, .int .i64 ki, .int .i64 ak] 23 (0, 0)) := by rw [hV0]; exact heap_alloc_new W _
  have v1 : V.heap[V0.heap.size]? = some (.cells #[.int .i64 0, .int .i64 0, .int .i64 0, .int .i64 0, .int .i64 0, .int .i64 0] 23 (0, 0)) := by rw [hV]; exact heap_alloc_new V0 _
  have v2 := below_box bV1 v0
  have hlt := box_lt v0
  have hs0 : V0.heap.size = W.heap.size + 1 := by rw [hV0]; simp
  obtain ⟨bB, hbB⟩ : ∃ bB, W.heap.size = bB := ⟨_, rfl⟩
  obtain ⟨rB, hrB⟩ : ∃ rB, V0.heap.size = rB := ⟨_, rfl⟩
  have hrb : bB + 1 = rB := by omega
  rw [hbB, hrB] at hlt
  rw [hbB] at v2
  rw [hrB] at v1
  have HBW0 : Hid (Below bB W V) := hide (by rw [← hbB]; exact below_next bV0 bV1 bV0.size)
  have HBX0 := hide v2
  have HRS0 := hide v1
  have HBB := hide hbB
  have HLT := hide hlt
  have HSZ0 := hide (box_lt v1)
  clear v0 v1 v2 bV0 bV1
  go_enter Try.func42, Try.ntmps42
  go_upto_region 1 with fail
  try rw [hbB]
  try rw [hrb]
  rw [← hV0, ← hV]
  try rw [hrB]
  clear hV0 hV hbB hrB hs0 hrb hlt
  obtain ⟨_, _, _, _, _, _, u0, u1, u2, u3, u4, u5⟩ := six HBX0.out
  have hfz := (six HBX0.out).f4
  have hfz5 := (six HBX0.out).f5
  go_upto_region 2 with fail
  obtain ⟨X, hX⟩ : ∃ X, X = ((V.setCell ⟨bB, 4, none⟩ (.int .i64 0)).setCell ⟨bB, 5, none⟩ (.int .i64 0)) := ⟨_, rfl⟩
  have oX : Only (· = bB) V X := by rw [hX]; exact ((Only.set (F := (· = bB)) _ bB 4 (.int .i64 0) rfl).trans (Only.set (F := (· = bB)) _ bB 5 (.int .i64 0) rfl))
  have HBX1 : Hid (X.heap[bB]? = some (.cells #[.int .i64 ck, .int .i64 ep, .int .i64 un, .int .i64 se, .int .i64 0, .int .i64 0] 23 (0, 0))) := hide (by rw [hX]; exact (heap_set_sameL (heap_set_sameL HBX0.out 4 (.int .i64 0)) 5 (.int .i64 0)))
  have HRS1 := hide (oX.obj HRS0.out (fun e => by have e' : rB = bB := e; have := HLT.out; omega))
  have HBW1 := hide (HBW0.out.trans (oX.below (by have := HLT.out; have := HSZ0.out; omega) (fun i e => by have e' : i = bB := e; omega)))
  have HSZ1 := hide (box_lt HRS1.out)
  rw [← hX]
  clear hX oX HBX0 HRS0 HBW0 HSZ0 u0 u1 u2 u3 u4 u5
  obtain ⟨_, _, _, _, _, _, u0, u1, u2, u3, u4, u5⟩ := six HBX1.out
  obtain ⟨f0, f1, f2, f3, f4, f5, r0, r1, r2, r3, r4, r5⟩ := six HRS1.out
  go_wp2
  have hE := heap_set6 HRS1.out (.int .i64 ck) (.int .i64 ep) (.int .i64 un) (.int .i64 se) (.int .i64 0) (.int .i64 0)
  refine bodyPost_ret (results_cell_row rfl _ _ rB 23 _ _ _ rfl hE Try.underlying23 rfl (by kernel_rfl)) rfl ?_
  refine ⟨rfl, ?_⟩
  rw [HBB.out]
  exact HBW1.out.trans ((only_set6 _ rB _ _ _ _ _ _).below (by have := HLT.out; have := HSZ1.out; omega) (fun i e => by have e' : i = rB := e; have := HLT.out; omega))
end Go.Proofs.Ytegffdmlkbdcdaa
