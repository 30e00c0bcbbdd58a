/-
  All of the program's queue, and what it tells: places and events, in order. The conditions: that the events lie there; lengths.
-/
import Derived.Test.YtmmdgffgnpnmeaaEqo
import Derived.Test.YtmmdgffgnpnmeaaRgs
import Derived.Lib.Bytes
import Derived.Laws.EntriesVeiled
namespace Go.Proofs.Ytmmdgffgnpnmeaa
open Go.RowKit Go.Shelf
attribute [local go_sem] Oper.semAt_some

def tellE (es : List EV) : List (Array Value) := (List.range es.length).map fun (k : Nat) => #[.int .i64 (k : Int), (es[k]!).agg]
theorem tellE_len (es : List EV) : (tellE es).length = es.length := by unfold tellE; simp
theorem tellE_get {es : List EV} {k : Nat} (hk : k < es.length) {x : EV} (hx : es[k]! = x) : (tellE es).getD k #[] = #[.int .i64 (k : Int), .agg #[.int .i64 x.kind, .int .i64 x.key, .int .i64 x.val, .int .i64 x.id]] := by
  unfold tellE
  rw [List.getD_eq_getElem?_getD, List.getElem?_map, List.getElem?_range hk]
  simp only [Option.map_some, Option.getD_some, hx, EV.agg]
set_option maxRecDepth 100000 in
set_option maxHeartbeats 1000000 in
theorem evClone {W : World} {p : Option Addr} {n c : Nat} {os : List EV} (h : ERow W p c os) (hn : os.length = n) (hb : n * 32 ≤ 140737488355328) :
    Calls Try.prog 31 #[.slice p n c] W fun e w' => ∃ p' c', e = .returned (.slice p' n c') ∧ w'.ownsRow W.heap.size 34 4 (.slice p' n c') n (os.flatMap EV.cells) ∧ Below W.heap.size W w' := by
  obtain ⟨i0, hI0, hz0, hz1, hz2⟩ := info_parts Try.infoEv
  have q : ∀ (w : World) (a : Option Addr) (n c : Nat), (binOp .eql 44 (.slice a n c) (.slice none 0 0)).run Try.prog w = .ok (.bool a.isNone) w := fun w a n c => Lib.run_eql_slice_nil w _ _ a n c 0 0 Try.underlying44
  cases p with
  | none =>
    obtain rfl : os = [] := by
      cases os with
      | nil => rfl
      | cons x os =>
        have := h.cell 0 (by simp)
        simp at this
    obtain rfl : n = 0 := hn.symm
    clear h
    go_enter Try.func31, Try.ntmps31
    go_wp2
    go_ret
    exact ⟨none, 0, rfl, World.ownsRow_nil _ _ _ _, Below.refl _ _⟩
  | some ad =>
    have hsg : Seg W 4 (.slice (some ad) os.length c) os.length (os.flatMap EV.cells) := h.seg (by decide) EV.len EV.one
    rw [hn] at hsg
    have HSG := hide (hsg.below ((Below.refl _ W).alloc (Nat.le_refl _) (.cells #[] 34 (0, 0))))
    have HK1 : Hid (0 + n ≤ maxLen) := by show _ ≤ _; unfold maxLen; omega
    have HK2 : Hid ((0 + n) * 32 ≤ 140737488355328) := by show _ ≤ _; omega
    clear h hsg
    go_enter Try.func31, Try.ntmps31
    go_wp2_with (at_builtin; refine append_cells _ rfl (.tmp 5) (.tmp 6) 44 rfl W.heap.size 34 i0 (.agg #[.int .i64 0, .int .i64 0, .int .i64 0, .int .i64 0]) 4 32 Try.underlying44 hI0 hz0 hz1 hz2 rfl (by decide) (.slice (some ⟨W.heap.size, 0, none⟩) 0 0) 0 [] rfl (World.ownsRow_made W #[] 0 (Nat.le_refl _) (Nat.zero_le _) rfl) (.slice (some ad) n c) n _ rfl HSG.out HK1.out HK2.out (by simp) ?_)
    intro p' c' w1 hown hgrow
    have HO := hide hown
    have HB : Hid (Below W.heap.size W w1) := hide (((Below.refl _ W).alloc (Nat.le_refl _) _).grown hgrow (by simp) (by intro k hk; simp [Value.ownBlock] at hk; omega))
    clear hown hgrow
    go_wp2
    go_ret
    exact ⟨p', c', rfl, HO.out, HB.out⟩


theorem enAll : ∀ args w, (callFunc 34 args).run Try.prog w = .ok (.enter 34 args) w := enters_of Try.func34 (by kernel_rfl) rfl
def KAll (kb L cap : Nat) (p : Option Addr) (es : List EV) (W : World) : Prop := W.cell? ⟨kb, 0, none⟩ = some (.slice p L cap) ∧ ERow W p cap es
theorem KAll.later {kb L cap : Nat} {p : Option Addr} {es : List EV} {W W' : World} (h : KAll kb L cap p es W) (hb : Below W.heap.size W W') : KAll kb L cap p es W' := ⟨cell_later hb h.1, h.2.later hb⟩
theorem KAll.only {F : Nat → Prop} {kb L cap : Nat} {p : Option Addr} {es : List EV} {W W' : World} (h : KAll kb L cap p es W) (ho : Only F W W') (hk : ¬ F kb) (hF : ∀ a, p = some a → ¬ F a.block) : KAll kb L cap p es W' := ⟨ho.cell h.1 hk, erow_only h.2 ho hF⟩
set_option maxRecDepth 100000 in
set_option maxHeartbeats 4000000 in
theorem all_tells (q : Nat) (hq : 1 ≤ q) {kb L cap : Nat} {p : Option Addr} {es : List EV} (hL : es.length = L) :
    TellsS q 34 #[.pointer (some ⟨kb, 0, none⟩)] (tellE es) (KAll kb L cap p es) := by
  intro l J Jx hr hrob hgr hrx hgx hY W h0
  have HR := hide hr
  have HGR := hide hgr
  have HY := hide hY
  have H0 := hide h0
  have HL := hide hL
  obtain ⟨hcell, hrow⟩ := hr _ 0 W h0
  have i3 := hrow.le
  have i4 := hrow.top
  rw [hL] at i3
  clear hr hY h0 hrob hgr hrx hgx hrow hL
  show CallsIn Fence.wide q Try.prog 34 #[.func (.yield l) #[] #[], .pointer (some ⟨kb, 0, none⟩)] W _
  refine callsIn_of_wp Try.func34 rfl trivial ?_ rfl
  simp only [Try.ntmps34, List.size_toArray, List.length_cons, List.length_nil, Nat.reduceAdd, Nat.reduceSub, Array.replicate_succ, Array.replicate_zero, List.push_toArray, List.append_toArray, List.nil_append, List.cons_append]
  gi_wp2
  gi_loopw [7] (fun i wr => ∃ m : Nat, m ≤ L ∧ i = .int .i64 (m : Int) ∧ Hid (J (fun _ => False) m wr)) (fun i _ => L - (intOf i).toNat)
  case atStart => exact ⟨0, Nat.zero_le _, rfl, H0⟩
  case round =>
    obtain ⟨m, hm, rfl, HJ⟩ := hrel
    clear H0 hcell
    by_cases hlt : m < L
    · have hlt2 : m < es.length := by rw [HL.out]; exact hlt
      have hGr := (HR.out _ _ wr HJ.out).2
      obtain ⟨x, hx⟩ : ∃ x, es[m]! = x := ⟨_, rfl⟩
      obtain ⟨g, o, rfl, d0, d1, d2, d3⟩ := hGr.at hlt2 hx
      have y2 := tellE_get hlt2 hx
      obtain ⟨kd, ky, vl, id⟩ := x
      simp only at d0 d1 d2 d3 y2
      have hJ2 := HGR.out (fun _ => False) (fun _ => False) _ _ _ HJ.out (alloc_below wr (.cells #[.int .i64 kd, .int .i64 ky, .int .i64 vl, .int .i64 id] 34 (0, 0))) (fun _ e => e.elim)
      obtain ⟨fn', tmps, assign, body, hyy, hRd⟩ := HY.out _ _ _ hJ2 (by rw [tellE_len]; exact hlt2)
      rw [y2] at hyy
      have HRd := hide hRd
      clear hRd y2 hGr hx hlt2 hJ2
      gi_wp2
      refine HRd.out.mono ?_
      rintro e W3 ⟨_, _, ⟨rfl, hJ3⟩ | ⟨rfl, hJ3⟩⟩
      · have J3 : Hid (J (fun _ => False) (m + 1) W3) := hide hJ3
        clear HRd hyy hJ3 d0 d1 d2 d3
        gi_wp2
        go_roundw
        case rel => exact ⟨m + 1, by omega, by first | rfl | go_num, J3⟩
        case measure => simp [intOf]; omega
      · have J3 := hide hJ3
        clear HRd hyy hJ3 d0 d1 d2 d3
        gi_wp2
        refine bodyPost_ret (results_none rfl _ _ _) rfl ?_
        exact ⟨⟨_, rfl⟩, .inr ⟨_, _, by rw [tellE_len, HL.out]; omega, J3.out⟩⟩
    · obtain rfl : m = L := by omega
      have HJE : Hid (J (fun _ => False) (tellE es).length wr) := by
        have h := HJ.out
        rw [tellE_len, HL.out]
        exact hide h
      gi_wp2
      refine bodyPost_end (results_none rfl _ _ _) rfl ?_
      exact ⟨⟨_, rfl⟩, .inl ⟨_, HJE.out⟩⟩
set_option maxRecDepth 100000 in
set_option maxHeartbeats 1000000 in
theorem qall_gen {W : World} {vq : Value} {p : Option Addr} {n c : Nat} {es : List EV} (hh : Calls Try.prog 32 #[vq] W fun e w' => e = .returned (.slice p n c) ∧ w' = W) (h : ERow W p c es) (hn : es.length = n) (hb : n * 32 ≤ 140737488355328) :
    Calls Try.prog 33 #[vq] W fun e w' => ∃ kb p' c', e = .returned (.func (.func 34) #[] #[.pointer (some ⟨kb, 0, none⟩)]) ∧ KAll kb n c' p' es w' ∧ W.heap.size ≤ kb ∧ (∀ a, p' = some a → W.heap.size ≤ a.block) ∧ Below W.heap.size W w' := by
  have HH := hide hh
  have HC := hide (evClone h hn hb)
  have HN := hide hn
  clear h hh hn
  go_enter Try.func33, Try.ntmps33
  go_wp2_with fail
  refine HH.out.mono ?_
  rintro _ w0 ⟨rfl, rfl⟩
  go_wp2_with fail
  refine HC.out.mono ?_
  rintro _ w1 ⟨p', c', rfl, O1, B1⟩
  have hb2 := alloc_below w1 (.cells #[.slice p' n c'] 44 (0, 0))
  have hbx := heap_alloc_new w1 (.cells #[.slice p' n c'] 44 (0, 0))
  have HE := hide (ERow.later (LRow.of_own EV.len HN.out O1) hb2)
  have HB := hide (B1.trans (hb2.mono B1.size))
  have HBS := hide B1.size
  have HBK : Hid (∀ a, p' = some a → w0.heap.size ≤ a.block) := hide (fun a e => own_block_base O1 (b := a.block) (by rw [e]; rfl))
  have HX : Hid ((w1.alloc (.cells #[.slice p' n c'] 44 (0, 0))).cell? ⟨w1.heap.size, 0, none⟩ = some (.slice p' n c')) := hide (by simp only [World.cell?]; rw [hbx]; rfl)
  clear O1 B1 hb2 hbx HC HH
  go_wp2
  go_ret
  exact ⟨w1.heap.size, p', c', rfl, ⟨HX.out, HE.out⟩, HBS.out, HBK.out, HB.out⟩
end Go.Proofs.Ytmmdgffgnpnmeaa
