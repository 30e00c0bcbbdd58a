/-
  Crash and the law's names over a store that no call made. No conditions.
-/
import Derived.Test.YtikpckmlnhcddaaLvs
namespace Go.Proofs.Ytikpckmlnhcddaa
open Go.RowKit Go.Shelf Go.Maps

theorem Unmade.later {W W' : World} {v : Value} (h : Unmade W v) (hb : Below W.heap.size W W') : Unmade W' v := by
  rcases h with h | ⟨sb, h1, h2, u, h3⟩
  · exact .inl h
  · exact .inr ⟨sb, h1, cell_later hb h2, u, cell_later hb h3⟩

set_option maxRecDepth 100000 in
set_option maxHeartbeats 4000000 in
theorem crash_un_in (n : Nat) (hn : 4 ≤ n) {W : World} {p : Option Addr} {keep torn : Int} (h : Unmade W (.pointer p)) :
    CallsIn Fence.wide n Try.prog 11 #[.pointer p, .int .i64 keep, .int .i64 torn] W fun e w' => e = .returned (.int .i64 2) ∧ Below W.heap.size W w' := by
  have hb1 : Below W.heap.size W ((W.alloc (.cells #[.pointer p] 26)).alloc (.cells #[.int .i64 torn] 3)) := (alloc_below W _).trans ((alloc_below _ _).mono (by simp))
  have HR1 := hide (ready_bad (h.later hb1).bad)
  have HB1 := hide hb1
  clear h hb1
  refine callsIn_of_wp_marks Try.func11 rfl trivial ?_ rfl
  simp only [Try.ntmps11, List.size_toArray, List.length_cons, List.length_nil, Nat.reduceAdd, Nat.reduceSub, Array.replicate_succ, Array.replicate_zero, List.push_toArray, List.append_toArray, List.nil_append, List.cons_append]
  gi_wp2_with fail
  refine wpIn_scope_wide ?_
  gi_wp2_with fail
  refine ⟨trivial, fun _ => by omega, (callsIn_wide.2 HR1.out).mono ?_⟩
  rintro _ _ ⟨rfl, rfl⟩
  gi_wp2
  exact ⟨_, results_tmp rfl _ _ _, rfl, HB1.out⟩

theorem crash_un {W : World} {p : Option Addr} {keep torn : Int} (h : Unmade W (.pointer p)) :
    Calls Try.prog 11 #[.pointer p, .int .i64 keep, .int .i64 torn] W fun e w' => e = .returned (.int .i64 2) ∧ Below W.heap.size W w' :=
  callsIn_wide.1 (crash_un_in 4 (Nat.le_refl _) h)

def NunI (W : World) (_ : Nat) (X : World) : Prop := Boxed X W.heap.size 30 (.slice none 0 0) ∧ Boxed X (W.heap.size + 1) 30 (.slice none 0 0) ∧ Below W.heap.size W X

set_option maxRecDepth 100000 in
set_option maxHeartbeats 4000000 in
theorem lnames_un_in (n : Nat) (hn : 4 ≤ n) {W : World} {p : Option Addr} (h : Unmade W (.pointer p)) :
    CallsIn Fence.wide n Try.prog 7 #[.pointer p] W fun e w' => e = .returned (.slice none 0 0) ∧ Below W.heap.size W w' := by
  have hb1 := alloc_below W (.cells #[.slice none 0 0] 30)
  have HN := hide (names_un (h.later hb1))
  have HX1 : Hid (Boxed (W.alloc (.cells #[.slice none 0 0] 30)) W.heap.size 30 (.slice none 0 0)) := hide (Boxed.new W _ _)
  have HB1 := hide hb1
  clear h hb1
  refine callsIn_of_wp_marks Try.func7 rfl trivial ?_ rfl
  simp only [Try.ntmps7, List.size_toArray, List.length_cons, List.length_nil, Nat.reduceAdd, Nat.reduceSub, Array.replicate_succ, Array.replicate_zero, List.push_toArray, List.append_toArray, List.nil_append, List.cons_append]
  gi_wp2_with fail
  refine ⟨trivial, fun _ => by omega, (callsIn_wide.2 HN.out).mono ?_⟩
  rintro _ w2 ⟨rfl, hw2⟩
  rw [World.size_alloc]
  have hb2 : Below (W.alloc (.cells #[.slice none 0 0] 30)).heap.size (W.alloc (.cells #[.slice none 0 0] 30)) w2 := by rw [hw2]; exact alloc_below _ _
  have HI : Hid (NunI W 0 w2) := by
    refine hide ⟨below_box hb2 HX1.out, ?_, HB1.out.trans (hb2.mono (by simp))⟩
    have := Boxed.new (W.alloc (.cells #[.slice none 0 0] 30)) 30 (.slice none 0 0)
    rw [World.size_alloc] at this
    rw [hw2]
    exact this
  have hsz2 : w2.heap.size = W.heap.size + 2 := by rw [hw2]; simp
  clear hw2 hb2 HN HX1 HB1
  gi_wp2_with fail
  refine range_list (by omega) (values_tells (n - 1) (by omega) (Bk := W.heap.size + 1) (base := 0) (v := .slice none 0 0) (ns := []) (by simp)) rfl enValues ?size (NunI W) (fun _ _ _ => False) ?grows ?puts (fun _ _ _ _ _ _ h => h.elim) ?reads HI.out
    (fun x => { tmps := #[], defers := [] }) ?assign ?body ?done (fun _ _ _ _ _ _ h => h.elim)
  case size => intro k hk; simp at hk
  case grows =>
    rintro W1 W2 ⟨h1, h2, h3⟩ hb
    exact ⟨below_box hb h1, below_box hb h2, h3.trans (hb.mono h3.size)⟩
  case puts =>
    rintro k W1 l o o' ⟨h1, h2, h3⟩ hl ho hc
    refine ⟨(World.putObj_heap_other (by omega)).trans h1, (World.putObj_heap_other (by omega)).trans h2, h3.trans ((Only.of_grown (F := (· = l)) (grownBy_putObj' W1 l o') (fun k e => by simpa using e.symm)).below h3.size (fun i e => by omega))⟩
  case reads =>
    rintro k W1 ⟨h1, h2, h3⟩
    exact ⟨h2, World.ownsRow_nil _ _ _ _⟩
  case assign => intro l k X K hk; simp at hk
  case body => intro l k X _ hk; simp at hk
  case done =>
    rintro D X hD ⟨h1, h2, h3⟩ hK
    have c1 := h1.cell
    have HB3 := hide h3
    have HK := hide hK
    clear h1 h2 h3 hK HI
    gi_wp2
    refine ⟨by simp, .inl ⟨_, _, rfl, run_takeDeferred HK.out, ?_⟩⟩
    exact ⟨_, results_tmp rfl _ _ _, rfl, HB3.out.trans ((Only.of_grown (F := (· = D)) (grownBy_putObj' X D _) (fun k e => by simpa using e.symm)).below HB3.out.size (fun i e => by omega))⟩
theorem lnames_un {W : World} {p : Option Addr} (h : Unmade W (.pointer p)) :
    Calls Try.prog 7 #[.pointer p] W fun e w' => e = .returned (.slice none 0 0) ∧ Below W.heap.size W w' :=
  callsIn_wide.1 (lnames_un_in 4 (Nat.le_refl _) h)
end Go.Proofs.Ytikpckmlnhcddaa
