/-
  Records of the program, and what told and few make of what is told. The conditions: lengths.
-/
import Derived.Test.YtihbdlbnpkmafaaErt
import Derived.Lib.Bytes
import Derived.Laws.EntriesVeiled
import Derived.OwnWalk
namespace Go.Proofs.Ytihbdlbnpkmafaa
open Go.RowKit Go.Shelf
attribute [local go_sem] Oper.semAt_some

set_option maxRecDepth 100000 in
set_option maxHeartbeats 1000000 in
theorem evClone {W : World} {p : Option Addr} {n c : Nat} {os : List EV} (h : ERow W p c os) (hn : os.length = n) (hb : n * 32 ≤ 140737488355328) :
    Calls Try.prog 66 #[.slice p n c] W fun e w' => ∃ p' c', e = .returned (.slice p' n c') ∧ w'.ownsRow W.heap.size 26 4 (.slice p' n c') n (os.flatMap EV.cells) ∧ Below W.heap.size W w' := by
  obtain ⟨i0, hI0, hz0, hz1, hz2⟩ := info_parts Try.infoEv
  have q : ∀ (w : World) (a : Option Addr) (n c : Nat), (binOp .eql 27 (.slice a n c) (.slice none 0 0)).run Try.prog w = .ok (.bool a.isNone) w := fun w a n c => Lib.run_eql_slice_nil w _ _ a n c 0 0 Try.underlying27
  cases p with
  | none =>
    obtain rfl : os = [] := by
      cases os with
      | nil => rfl
      | cons x os =>
        have := h.cell 0 (by simp)
        simp at this
    obtain rfl : n = 0 := hn.symm
    clear h
    go_enter Try.func66, Try.ntmps66
    go_wp2
    go_ret
    exact ⟨none, 0, rfl, World.ownsRow_nil _ _ _ _, Below.refl _ _⟩
  | some ad =>
    have hsg : Seg W 4 (.slice (some ad) os.length c) os.length (os.flatMap EV.cells) := h.seg (by decide) EV.len EV.one
    rw [hn] at hsg
    have HSG := hide (hsg.below ((Below.refl _ W).alloc (Nat.le_refl _) (.cells #[] 26 (0, 0))))
    have HK1 : Hid (0 + n ≤ maxLen) := by show _ ≤ _; unfold maxLen; omega
    have HK2 : Hid ((0 + n) * 32 ≤ 140737488355328) := by show _ ≤ _; omega
    clear h hsg
    go_enter Try.func66, Try.ntmps66
    go_wp2_with (at_builtin; refine append_cells _ rfl (.tmp 5) (.tmp 6) 27 rfl W.heap.size 26 i0 (.agg #[.int .i64 0, .int .i64 0, .int .i64 0, .int .i64 0]) 4 32 Try.underlying27 hI0 hz0 hz1 hz2 rfl (by decide) (.slice (some ⟨W.heap.size, 0, none⟩) 0 0) 0 [] rfl (World.ownsRow_made W #[] 0 (Nat.le_refl _) (Nat.zero_le _) rfl) (.slice (some ad) n c) n _ rfl HSG.out HK1.out HK2.out (by simp) ?_)
    intro p' c' w1 hown hgrow
    have HO := hide hown
    have HB : Hid (Below W.heap.size W w1) := hide (((Below.refl _ W).alloc (Nat.le_refl _) _).grown hgrow (by simp) (by intro k hk; simp [Value.ownBlock] at hk; omega))
    clear hown hgrow
    go_wp2
    go_ret
    exact ⟨p', c', rfl, HO.out, HB.out⟩

theorem enRecords : ∀ args w, (callFunc 54 args).run Try.prog w = .ok (.enter 54 args) w := enters_of Try.func54 (by kernel_rfl) rfl
set_option maxRecDepth 100000 in
set_option maxHeartbeats 1000000 in
theorem known_any {W : World} {p : Option Addr} {n c : Nat} {es : List EV} (h : ERow W p c es) (hn : es.length = n) (hb : n * 32 ≤ 140737488355328) :
    Calls Try.prog 53 #[.slice p n c] W fun e w' => ∃ kb p' c', e = .returned (.func (.func 67) #[] #[.pointer (some ⟨kb, 0, none⟩)]) ∧ w'.cell? ⟨kb, 0, none⟩ = some (.slice p' n c') ∧ ERow w' p' c' es ∧ Below W.heap.size W w' := by
  have HC := hide (evClone h hn hb)
  clear h
  go_enter Try.func53, Try.ntmps53
  go_wp2_with fail
  refine HC.out.mono ?_
  rintro _ w1 ⟨p', c', rfl, O1, B1⟩
  have hb2 := alloc_below w1 (.cells #[.slice p' n c'] 27 (0, 0))
  have hbx := heap_alloc_new w1 (.cells #[.slice p' n c'] 27 (0, 0))
  have HE := hide (ERow.later (LRow.of_own EV.len hn O1) hb2)
  have HB := hide (B1.trans (hb2.mono B1.size))
  have HX : Hid ((w1.alloc (.cells #[.slice p' n c'] 27 (0, 0))).cell? ⟨w1.heap.size, 0, none⟩ = some (.slice p' n c')) := hide (by simp only [World.cell?]; rw [hbx]; rfl)
  clear O1 B1 hb2 hbx HC
  go_wp2
  go_ret
  exact ⟨w1.heap.size, p', c', rfl, HX.out, HE.out, HB.out⟩
set_option maxRecDepth 100000 in
set_option maxHeartbeats 1000000 in
theorem records_any {W : World} {p : Option Addr} {n c : Nat} {es : List EV} (h : ERow W p c es) (hn : es.length = n) (hb : n * 32 ≤ 140737488355328) :
    Calls Try.prog 33 #[.slice p n c] W fun e w' => ∃ eb kb p' c', e = .returned (.func (.func 54) #[] #[.pointer (some ⟨eb, 0, none⟩)]) ∧ KRd eb kb n c' p' es w' ∧ Below W.heap.size W w' := by
  have HC := hide (known_any h hn hb)
  clear h
  go_enter Try.func33, Try.ntmps33
  go_wp2_with fail
  refine HC.out.mono ?_
  rintro _ w1 ⟨kb, p', c', rfl, hc, E1, B1⟩
  have hb2 := alloc_below w1 (.cells #[.func (.func 67) #[] #[.pointer (some ⟨kb, 0, none⟩)]] 86 (0, 0))
  have hbx := heap_alloc_new w1 (.cells #[.func (.func 67) #[] #[.pointer (some ⟨kb, 0, none⟩)]] 86 (0, 0))
  have HK : Hid (KRd w1.heap.size kb n c' p' es (w1.alloc (.cells #[.func (.func 67) #[] #[.pointer (some ⟨kb, 0, none⟩)]] 86 (0, 0)))) := hide ⟨by simp only [World.cell?]; rw [hbx]; rfl, cell_later hb2 hc, ERow.later E1 hb2⟩
  have HB := hide (B1.trans (hb2.mono B1.size))
  clear hc E1 B1 hb2 hbx HC
  go_wp2
  go_ret
  exact ⟨w1.heap.size, kb, p', c', rfl, HK.out, HB.out⟩
theorem KRd.later {eb kb L cap : Nat} {p : Option Addr} {es : List EV} {W W' : World} (h : KRd eb kb L cap p es W) (hb : Below W.heap.size W W') : KRd eb kb L cap p es W' := ⟨cell_later hb h.1, cell_later hb h.2.1, ERow.later h.2.2 hb⟩
def rcsOf (ks : List EV) : List RC := (ks.filter isR).map EV.rc
def tellRc (rs : List RC) : List (Array Value) := rs.map fun r => #[.agg #[.int .i64 r.key, .int .i64 r.val]]
theorem tellR_rc (ks : List EV) : tellR ks = tellRc (rcsOf ks) := by
  unfold tellR tellRc rcsOf
  rw [List.map_map]
  rfl
theorem tellRc_get {rs : List RC} {k : Nat} (hk : k < (tellRc rs).length) : (tellRc rs).getD k #[] = #[.agg #[.int .i64 (rs[k]!).key, .int .i64 (rs[k]!).val]] := by
  have hk' : k < rs.length := by unfold tellRc at hk; simpa using hk
  unfold tellRc
  rw [getElem!_pos rs k hk', List.getD_eq_getElem?_getD, List.getElem?_map, List.getElem?_eq_getElem hk']
  rfl
theorem take_snocR {rs : List RC} {k : Nat} (hk : k < rs.length) {x : RC} (hx : rs[k]! = x) : rs.take (k + 1) = rs.take k ++ [x] := by
  rw [List.take_succ_eq_append_getElem hk, ← hx, getElem!_pos rs k hk]
/-- What the loop of told keeps. -/
def TdI (V : World) (oB : Nat) (rs : List RC) : Jt := fun S k X =>
  ∃ p c, Boxed X oB 54 (.slice p k c) ∧ ¬ S oB ∧ X.ownsRow (V.heap.size + 2) 24 2 (.slice p k c) k ((rs.take k).flatMap RC.cells) ∧ (∀ b, (Value.slice p k c).ownBlock = some b → ¬ S b) ∧ Only (· = oB) V X ∧ ∀ i, S i → V.heap.size ≤ i
theorem TdI.rob (V : World) (oB : Nat) (rs : List RC) : Robust (TdI V oB rs) := by
  rintro S k X X' ⟨p, c, h1, h2, h3, h4, h5, h6⟩ ho
  exact ⟨p, c, ho.obj h1 h2, h2, ownsRow_only h3 ho (fun b hb e => h4 b hb e), h4, h5.step ho (fun i h => .inr (h6 i h)), h6⟩
theorem TdI.grw (V : World) (oB : Nat) (rs : List RC) : Grows (TdI V oB rs) := by
  rintro S S' k X X' ⟨p, c, h1, h2, h3, h4, h5, h6⟩ hb hs
  have hz := h5.size
  refine ⟨p, c, below_box hb h1, fun h => ?_, ownsRow_later h3 hb, fun b hbk h => ?_, h5.trans (Only.fresh hb _), fun i h => ?_⟩
  · have := (Array.getElem?_eq_some_iff.1 (show X.heap[oB]? = _ from h1)).1
    rcases hs _ h with h | h
    · exact h2 h
    · omega
  · have := (own_block_lt h3 hbk).1
    rcases hs _ h with h | h
    · exact h4 b hbk h
    · omega
  · rcases hs _ h with h | h
    · exact h6 i h
    · omega
theorem TdI.put {V : World} {oB : Nat} {rs : List RC} {S : Nat → Prop} {k : Nat} {X : World} (h : TdI V oB rs S k X) {r : Nat} {o' : Obj} (hr : r = V.heap.size ∨ r = V.heap.size + 1) (hor : oB < V.heap.size) : TdI V oB rs S k (X.putObj r o') := by
  obtain ⟨p, c, h1, h2, h3, h4, h5, h6⟩ := h
  exact ⟨p, c, put_onlyS.obj h1 (fun e => by have e' : oB = r := e; omega), h2, ownsRow_only h3 put_onlyS (fun b hb e => by
    have e' : b = r := e
    have := own_block_base h3 hb
    omega), h4, h5.step put_onlyS (fun i e => .inr (by have e' : i = r := e; omega)), h6⟩
end Go.Proofs.Ytihbdlbnpkmafaa
