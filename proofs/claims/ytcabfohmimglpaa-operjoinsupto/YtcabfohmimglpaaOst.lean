/-
  Step of an operator that keeps something of each key: a fold, a window. The conditions: lengths, counts.
-/
import Derived.Test.YtcabfohmimglpaaOde
import Derived.Test.YtcabfohmimglpaaStp
import Derived.Test.YtcabfohmimglpaaOpt
import Derived.Deep.RegionHeld3
namespace Go.Proofs.Ytcabfohmimglpaa
open Go.RowKit

theorem KRow.of_own {W : World} {base n cap : Nat} {p : Option Addr} {ks : List KS} (hn : ks.length = n) (h : W.ownsRow base 43 3 (.slice p n cap) n (ks.flatMap KS.cells)) : KRow W p cap ks := by
  obtain ⟨h1, h2, h3, h4⟩ := own_list (cells := KS.cells) (fun o _ => o.len) hn h
  exact ⟨by omega, h2, h3, h4⟩
set_option maxRecDepth 100000 in
set_option maxHeartbeats 1000000 in
theorem ksClone {W : World} {p : Option Addr} {n c : Nat} {ks : List KS} (h : KRow W p c ks) (hn : ks.length = n) (hb : n * 24 ≤ 140737488355328) :
    Calls Try.prog 22 #[.slice p n c] W fun e w' => ∃ p' c', e = .returned (.slice p' n c') ∧ w'.ownsRow W.heap.size 43 3 (.slice p' n c') n (ks.flatMap KS.cells) ∧ Below W.heap.size W w' := by
  obtain ⟨i0, hI0, hz0, hz1, hz2⟩ := info_parts Try.infoKeyS
  have q : ∀ (w : World) (a : Option Addr) (n c : Nat), (binOp .eql 27 (.slice a n c) (.slice none 0 0)).run Try.prog w = .ok (.bool a.isNone) w := fun w a n c => Lib.run_eql_slice_nil w _ _ a n c 0 0 Try.underlying27
  obtain ⟨g1, g2, g3, g4⟩ := h
  cases p with
  | none =>
    obtain rfl : ks = [] := by
      cases ks with
      | nil => rfl
      | cons x ks =>
        have := g4 0 (by simp)
        simp at this
    obtain rfl : n = 0 := hn.symm
    clear g4
    go_enter Try.func22, Try.ntmps22
    go_wp2
    go_ret
    exact ⟨none, 0, rfl, World.ownsRow_nil _ _ _ _, Below.refl _ _⟩
  | some ad =>
    have hsg : Seg W 3 (.slice (some ad) ks.length c) ks.length (ks.flatMap KS.cells) := Seg.of_list (by decide) (fun o _ => o.len) (fun o ho u hu => ks_one ks u (List.mem_flatMap.2 ⟨o, ho, hu⟩)) g1 g2 g3 g4
    rw [hn] at hsg
    have HSG := hide (hsg.below ((Below.refl _ W).alloc (Nat.le_refl _) (.cells #[] 43 (0, 0))))
    have HK1 : Hid (0 + n ≤ maxLen) := by show _ ≤ _; unfold maxLen; omega
    have HK2 : Hid ((0 + n) * 24 ≤ 140737488355328) := by show _ ≤ _; omega
    clear g3 g4 hsg
    go_enter Try.func22, Try.ntmps22
    go_wp2_with (at_builtin; refine append_cells _ rfl (.tmp 5) (.tmp 6) 27 rfl W.heap.size 43 i0 (.agg #[.int .i64 0, .int .i64 0, .int .i64 0]) 3 24 Try.underlying27 hI0 hz0 hz1 hz2 rfl (by decide) (.slice (some ⟨W.heap.size, 0, none⟩) 0 0) 0 [] rfl (World.ownsRow_made W #[] 0 (Nat.le_refl _) (Nat.zero_le _) rfl) (.slice (some ad) n c) n _ rfl HSG.out HK1.out HK2.out (by simp) ?_)
    intro p' c' w1 hown hgrow
    have HO := hide hown
    have HB : Hid (Below W.heap.size W w1) := hide (((Below.refl _ W).alloc (Nat.le_refl _) _).grown hgrow (by simp) (by intro k hk; simp [Value.ownBlock] at hk; omega))
    clear hown hgrow
    go_wp2
    go_ret
    exact ⟨p', c', rfl, HO.out, HB.out⟩
/-- What Step makes of what is kept. -/
def hadK (ks : List KS) (ky : Int) (i : Nat) (fd : Bool) : KS := if fd = true then ks[i]! else ⟨ky, 0, 0⟩
def nowK (fn : Int) (h : KS) (vl : Int) : KS := ⟨h.key, countC h.cnt, accC fn h.cnt h.acc vl⟩
def stepK (kd fn ar : Int) (ks : List KS) (ky vl : Int) (i : Nat) (fd : Bool) : List KS :=
  if fd = true then (if staysC kd ar (hadK ks ky i fd).cnt = true then ks.set i (nowK fn (hadK ks ky i fd) vl) else ks.take i ++ ks.drop (i + 1))
  else (if staysC kd ar (hadK ks ky i fd).cnt = true then ks.take i ++ nowK fn (hadK ks ky i fd) vl :: ks.drop i else ks)
def outK (kd fn ar : Int) (ks : List KS) (ky vl : Int) (i : Nat) (fd : Bool) : List PU := tellC kd (staysC kd ar (hadK ks ky i fd).cnt) (hadK ks ky i fd).key (nowK fn (hadK ks ky i fd) vl).acc
theorem heap_setS {W : World} {b : Nat} {cs : Array Value} {t : TypeId} (h : W.heap[b]? = some (.cells cs t (0, 0))) (o : Nat) (v : Value) : (W.setCell ⟨b, o, none⟩ v).heap[b]? = some (.cells (cs.setIfInBounds o v) t (0, 0)) := by
  simp only [World.setCell]
  rw [Array.getElem?_modify, if_pos rfl, h]
  rfl
theorem set3K {ks : List KS} {i : Nat} (hi : i < ks.length) (a b c : Int) : (((ks.flatMap KS.cells).set (i * 3) (.int .i64 a)).set (i * 3 + 1) (.int .i64 b)).set (i * 3 + 2) (.int .i64 c) = (ks.set i ⟨a, b, c⟩).flatMap KS.cells := by
  obtain ⟨x, hx⟩ : ∃ x, ks[i]! = x := ⟨_, rfl⟩
  have g0 : (ks.set i ⟨a, x.cnt, x.acc⟩)[i]! = ⟨a, x.cnt, x.acc⟩ := by rw [getElem!_pos _ i (by simpa using hi), List.getElem_set_self]
  have g1 : (ks.set i ⟨a, b, x.acc⟩)[i]! = ⟨a, b, x.acc⟩ := by rw [getElem!_pos _ i (by simpa using hi), List.getElem_set_self]
  have f0 := flat_set (cells := KS.cells) (size := 3) ks (fun o _ => o.len) i 0 ⟨a, x.cnt, x.acc⟩ (.int .i64 a) hi (by decide) (by rw [hx]; rfl)
  have f1 := flat_set (cells := KS.cells) (size := 3) (ks.set i ⟨a, x.cnt, x.acc⟩) (fun o _ => o.len) i 1 ⟨a, b, x.acc⟩ (.int .i64 b) (by simpa using hi) (by decide) (by rw [g0]; rfl)
  have f2 := flat_set (cells := KS.cells) (size := 3) (ks.set i ⟨a, b, x.acc⟩) (fun o _ => o.len) i 2 ⟨a, b, c⟩ (.int .i64 c) (by simpa using hi) (by decide) (by rw [g1]; rfl)
  rw [List.set_set] at f1 f2
  rw [f2, f1, f0]
  rfl
theorem only_set3K (w : World) (b o : Nat) (d0 d1 d2 : Value) : Only (· = b) w (((w.setCell ⟨b, o, none⟩ d0).setCell ⟨b, o + 1, none⟩ d1).setCell ⟨b, o + 2, none⟩ d2) :=
  ((Only.set (F := (· = b)) w b o d0 rfl).trans (Only.set (F := (· = b)) _ b (o + 1) d1 rfl)).trans (Only.set (F := (· = b)) _ b (o + 2) d2 rfl)
structure Fr (X : World) (oB sB rB tB : Nat) (kd pt fn ar : Int) (ip : Option Addr) (n0 ic : Nat) (p : Option Addr) (n c : Nat) (tn ky vl : Int) : Prop where
  o : X.heap[oB]? = some (.cells #[.int .i64 kd, .int .i64 pt, .int .i64 fn, .int .i64 ar, .slice ip n0 ic] 24 (0, 0))
  s : X.heap[sB]? = some (.cells #[.slice p n c, .int .i64 tn] 29 (0, 0))
  r : X.heap[rB]? = some (.cells #[.int .i64 ky, .int .i64 vl] 39 (0, 0))
  t : X.heap[tB]? = some (.cells #[.slice none 0 0, .int .i64 0] 29 (0, 0))
theorem enTell : ∀ args w, (callFunc 17 args).run Try.prog w = .ok (.enter 17 args) w := enters_of Try.func17 (by kernel_rfl) rfl
end Go.Proofs.Ytcabfohmimglpaa
