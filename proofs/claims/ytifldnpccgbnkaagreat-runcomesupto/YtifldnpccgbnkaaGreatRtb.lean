/-
  slices.Clone and slices.Equal of records, the reference's SameRecords, slices.Equal of numbers, the law's records. The conditions: lengths.
-/
import Derived.Test.YtifldnpccgbnkaaGreatRrt
import Derived.Test.YtifldnpccgbnkaaGreatRtu
namespace Go.Proofs.YtifldnpccgbnkaaGreat
open Go.RowKit Go.Shelf

set_option maxRecDepth 100000 in
set_option maxHeartbeats 1000000 in
theorem recClone {W : World} {p : Option Addr} {n c : Nat} {os : List RC} (h : RRow W p c os) (hn : os.length = n) (hb : n * 16 ≤ 140737488355328) :
    Calls Tryz.prog 30 #[.slice p n c] W fun e w' => ∃ p' c', e = .returned (.slice p' n c') ∧ w'.ownsRow W.heap.size 71 2 (.slice p' n c') n (os.flatMap RC.cells) ∧ Below W.heap.size W w' := by
  obtain ⟨i0, hI0, hz0, hz1, hz2⟩ := info_parts Tryz.infoRec
  have q : ∀ (w : World) (a : Option Addr) (n c : Nat), (binOp .eql 26 (.slice a n c) (.slice none 0 0)).run Tryz.prog w = .ok (.bool a.isNone) w := fun w a n c => Lib.run_eql_slice_nil w _ _ a n c 0 0 Tryz.underlying26
  cases p with
  | none =>
    obtain rfl : os = [] := by
      cases os with
      | nil => rfl
      | cons x os =>
        have := h.cell 0 (by simp)
        simp at this
    obtain rfl : n = 0 := hn.symm
    clear h
    go_enter Tryz.func30, Tryz.ntmps30
    go_wp2
    go_ret
    exact ⟨none, 0, rfl, World.ownsRow_nil _ _ _ _, Below.refl _ _⟩
  | some ad =>
    have hsg : Seg W 2 (.slice (some ad) os.length c) os.length (os.flatMap RC.cells) := h.seg (by decide) RC.len RC.one
    rw [hn] at hsg
    have HSG := hide (hsg.below ((Below.refl _ W).alloc (Nat.le_refl _) (.cells #[] 71 (0, 0))))
    have HK1 : Hid (0 + n ≤ maxLen) := by show _ ≤ _; unfold maxLen; omega
    have HK2 : Hid ((0 + n) * 16 ≤ 140737488355328) := by show _ ≤ _; omega
    clear h hsg
    go_enter Tryz.func30, Tryz.ntmps30
    go_wp2_with (at_builtin; refine append_cells _ rfl (.tmp 5) (.tmp 6) 26 rfl W.heap.size 71 i0 (.agg #[.int .i64 0, .int .i64 0]) 2 16 Tryz.underlying26 hI0 hz0 hz1 hz2 rfl (by decide) (.slice (some ⟨W.heap.size, 0, none⟩) 0 0) 0 [] rfl (World.ownsRow_made W #[] 0 (Nat.le_refl _) (Nat.zero_le _) rfl) (.slice (some ad) n c) n _ rfl HSG.out HK1.out HK2.out (by simp) ?_)
    intro p' c' w1 hown hgrow
    have HO := hide hown
    have HB : Hid (Below W.heap.size W w1) := hide (((Below.refl _ W).alloc (Nat.le_refl _) _).grown hgrow (by simp) (by intro k hk; simp [Value.ownBlock] at hk; omega))
    clear hown hgrow
    go_wp2
    go_ret
    exact ⟨p', c', rfl, HO.out, HB.out⟩


set_option maxRecDepth 100000 in
set_option maxHeartbeats 4000000 in
theorem eqrc_any {W : World} {p1 p2 : Option Addr} {c1 c2 L : Nat} {es : List RC} (h1 : RRow W p1 c1 es) (h2 : RRow W p2 c2 es) (hL : es.length = L) :
    Calls Tryz.prog 24 #[.slice p1 L c1, .slice p2 L c2] W fun e w' => e = .returned (.bool true) ∧ Below W.heap.size W w' := by
  have i1 := h1.le
  have i2 := h1.top
  have i3 := h2.le
  have i4 := h2.top
  rw [hL] at i1 i3
  have H1 := hide h1
  have H2 := hide h2
  have HL := hide hL
  clear h1 h2 hL
  go_enter Tryz.func24, Tryz.ntmps24
  go_wp2_with fail
  go_loopw [13] (fun i wr => ∃ k : Nat, k ≤ L ∧ i = .int .i64 (k : Int) ∧ Hid (Below W.heap.size W wr)) (fun i _ => L - (intOf i).toNat)
  case atStart => exact ⟨0, Nat.zero_le _, rfl, hide (Below.refl _ _)⟩
  case round =>
    obtain ⟨k, hk, rfl, HB⟩ := hrel
    by_cases hlt : k < L
    · have hlt2 : k < es.length := by rw [HL.out]; exact hlt
      obtain ⟨x, hx⟩ : ∃ x, es[k]! = x := ⟨_, rfl⟩
      obtain ⟨g1, o1, rfl, a0, a1⟩ := (RRow.later H1.out HB.out).at hlt2 hx
      obtain ⟨g2, o2, rfl, b0, b1⟩ := (RRow.later H2.out HB.out).at hlt2 hx
      obtain ⟨x0, x1⟩ := x
      simp only at a0 a1 b0 b1
      clear hx hlt2
      go_upto_region 6 with fail
      go_big_quiet (fail)
      go_wp2
      exact ⟨⟨k + 1, by omega, by first | rfl | go_num, hide (below_drewNR HB.out _)⟩, by simp [intOf]; omega⟩
    · obtain rfl : k = L := by omega
      go_wp2
      go_ret
      exact ⟨rfl, HB.out⟩

set_option maxRecDepth 100000 in
set_option maxHeartbeats 4000000 in
theorem samerec_any {W : World} {p1 p2 : Option Addr} {c1 c2 L : Nat} {es : List RC} (h1 : RRow W p1 c1 es) (h2 : RRow W p2 c2 es) (hL : es.length = L) :
    Calls Tryz.prog 7 #[.slice p1 L c1, .slice p2 L c2] W fun e w' => e = .returned (.bool true) ∧ Below W.heap.size W w' := by
  have i1 := h1.le
  have i2 := h1.top
  have i3 := h2.le
  have i4 := h2.top
  rw [hL] at i1 i3
  have H1 := hide h1
  have H2 := hide h2
  have HL := hide hL
  clear h1 h2 hL
  go_enter Tryz.func7, Tryz.ntmps7
  go_wp2_with fail
  go_loopw [5] (fun i wr => ∃ k : Nat, k ≤ L ∧ i = .int .i64 (k : Int) ∧ Hid (Below W.heap.size W wr)) (fun i _ => L - (intOf i).toNat)
  case atStart => exact ⟨0, Nat.zero_le _, rfl, hide (Below.refl _ _)⟩
  case round =>
    obtain ⟨k, hk, rfl, HB⟩ := hrel
    by_cases hlt : k < L
    · have hlt2 : k < es.length := by rw [HL.out]; exact hlt
      obtain ⟨x, hx⟩ : ∃ x, es[k]! = x := ⟨_, rfl⟩
      obtain ⟨g1, o1, rfl, a0, a1⟩ := (RRow.later H1.out HB.out).at hlt2 hx
      obtain ⟨g2, o2, rfl, b0, b1⟩ := (RRow.later H2.out HB.out).at hlt2 hx
      obtain ⟨x0, x1⟩ := x
      simp only at a0 a1 b0 b1
      clear hx hlt2
      go_upto_region 6 with fail
      go_big_quiet (fail)
      go_wp2
      exact ⟨⟨k + 1, by omega, by first | rfl | go_num, hide (below_drewNR HB.out _)⟩, by simp [intOf]; omega⟩
    · obtain rfl : k = L := by omega
      go_wp2
      go_ret
      exact ⟨rfl, HB.out⟩

set_option maxRecDepth 100000 in
set_option maxHeartbeats 4000000 in
theorem records_any {W : World} {p : Option Addr} {n c : Nat} {l : List Int} (h : Row .i64 W (.slice p n c) l) (hb : n ≤ 1048576) :
    Calls Tryz.prog 23 #[.slice p n c] W fun e w' => ∃ p1 c1, e = .returned (.slice p1 n c1) ∧ w'.ownsRow W.heap.size 71 2 (.slice p1 n c1) n ((l.map (fun v => (⟨0, v⟩ : RC))).flatMap RC.cells) ∧ Below W.heap.size W w' := by
  obtain ⟨i0, hI0, hz0, hz1, hz2⟩ := info_parts Tryz.infoRec
  obtain ⟨p', cap, e, g1, g2, g3, g4⟩ := h
  simp only [Value.slice.injEq] at e
  obtain ⟨rfl, rfl, rfl⟩ := e
  have H4 := hide g4
  obtain ⟨rs, hrs⟩ : ∃ rs, l.map (fun v => (⟨0, v⟩ : RC)) = rs := ⟨_, rfl⟩
  rw [hrs]
  have HRS := hide hrs
  clear g3 g4 hrs
  go_enter Tryz.func23, Tryz.ntmps23
  go_wp2_with fail
  go_loopw [3, 8] (fun s i wq => ∃ (k : Nat) (p1 : Option Addr) (c1 : Nat), k ≤ l.length ∧ i = .int .i64 (k : Int) ∧ s = .slice p1 k c1 ∧ Hid (wq.ownsRow W.heap.size 71 2 (.slice p1 k c1) k ((rs.take k).flatMap RC.cells)) ∧ Hid (Below W.heap.size W wq)) (fun _ i _ => l.length - (intOf i).toNat)
  case atStart => exact ⟨0, none, 0, Nat.zero_le _, rfl, rfl, hide (World.ownsRow_nil _ _ _ _), hide (Below.refl _ _)⟩
  case round =>
    obtain ⟨k, p1, c1, hk, rfl, rfl, HOW, HBq⟩ := hrel
    rename World => wq
    by_cases hlt : k < l.length
    · obtain ⟨b1, o1, rfl, hc1⟩ := H4.out (by omega)
      obtain ⟨x, hx⟩ : ∃ x, l.getD k 0 = x := ⟨_, rfl⟩
      have d1 : wq.cell? ⟨b1, o1 + k, none⟩ = some (.int .i64 x) := by rw [← hx]; exact cell_later HBq.out (hc1 k hlt)
      have HTN : Hid (rs.take (k + 1) = rs.take k ++ [⟨0, x⟩]) := hide (by
        rw [← HRS.out, ← List.map_take, ← List.map_take, List.take_succ_eq_append_getElem hlt, List.map_append]
        rw [List.getD_eq_getElem?_getD, List.getElem?_eq_getElem hlt] at hx
        simp at hx
        simp [hx])
      have hab := alloc_below wq (.cells #[.int .i64 0, .int .i64 x] 71 (0, 0))
      have HSG : Hid (Seg (wq.alloc (.cells #[.int .i64 0, .int .i64 x] 71 (0, 0))) 2 (.slice (some ⟨wq.heap.size, 0, none⟩) 1 1) 1 [.int .i64 0, .int .i64 x]) := hide (Seg.news (heap_alloc_new wq _) (by simp [Value.oneCell']) rfl (Nat.le_refl _) (by decide))
      have HRW := hide (ownsRow_later HOW.out hab)
      have HAB := hide hab
      have HK1 : Hid (k + 1 ≤ maxLen) := by show _ ≤ _; unfold maxLen; omega
      have HK2 : Hid ((k + 1) * 16 ≤ 140737488355328) := by show _ ≤ _; omega
      have HBS : Hid (W.heap.size ≤ (wq.alloc (.cells #[.int .i64 0, .int .i64 x] 71 (0, 0))).heap.size) := hide (Nat.le_trans HBq.out.size hab.size)
      clear hab hx hc1
      go_wp2_with (at_builtin; refine append_cells _ rfl (.tmp 12) (.tmp 15) 26 rfl W.heap.size 71 i0 (.agg #[.int .i64 0, .int .i64 0]) 2 16 Tryz.underlying26 hI0 hz0 hz1 hz2 rfl (by decide) (.slice p1 k c1) k _ rfl HRW.out (.slice (some ⟨wq.heap.size, 0, none⟩) 1 1) 1 _ rfl HSG.out HK1.out HK2.out HBS.out ?_)
      intro p' c' w5 hown hgrow
      have HB5 : Hid (Below W.heap.size W w5) := hide ((HBq.out.trans (HAB.out.mono HBq.out.size)).grown hgrow (Nat.le_trans HBq.out.size HAB.out.size) (fun i hi => own_block_base HRW.out hi))
      have HO5 : Hid (w5.ownsRow W.heap.size 71 2 (.slice p' (k + 1) c') (k + 1) ((rs.take (k + 1)).flatMap RC.cells)) := by
        refine hide ?_
        rw [HTN.out, List.flatMap_append]
        exact hown
      clear hown hgrow
      go_wp2
      exact ⟨⟨k + 1, p', c', by omega, by first | rfl | go_num, rfl, HO5, HB5⟩, by simp [intOf]; omega⟩
    · obtain rfl : k = l.length := by omega
      have HO : Hid (wq.ownsRow W.heap.size 71 2 (.slice p1 l.length c1) l.length (rs.flatMap RC.cells)) := by
        have h := HOW.out
        rw [List.take_of_length_le (by rw [← HRS.out, List.length_map]; exact Nat.le_refl _)] at h
        exact hide h
      go_wp2
      go_ret
      exact ⟨p1, c1, rfl, HO.out, HBq.out⟩
end Go.Proofs.YtifldnpccgbnkaaGreat

/-
  The program's behind: what is left of each list. The conditions: lengths.
-/
namespace Go.Proofs.YtifldnpccgbnkaaGreat
open Go.RowKit Go.Shelf

/-- A list of records in memory of its own. -/
def SV.own (x : SV) (W : World) (base : Nat) : Prop := W.ownsRow base 71 2 (.slice x.p x.rs.length x.c) x.rs.length (x.rs.flatMap RC.cells)
theorem SV.own.ok {x : SV} {W : World} {base : Nat} (h : x.own W base) : x.ok W := LRow.of_own RC.len rfl h
theorem SV.own.later {x : SV} {W W' : World} {base : Nat} (h : x.own W base) (hb : Below W.heap.size W W') : x.own W' base := ownsRow_later h hb
theorem SV.own.base {x : SV} {W : World} {base base' : Nat} (h : x.own W base) (hb : base' ≤ base) : x.own W base' := ownsRow_base h hb
/-- What is written to a row of lists leaves the lists alone. -/
theorem SV.own.set {x : SV} {W : World} {base b2 g n c i : Nat} {ys : List Value} {v : Value} (h : x.own W base) (hr : W.ownsRow b2 26 1 (.slice (some ⟨g, 0, none⟩) n c) n ys) : x.own (W.setCell ⟨g, i, none⟩ v) base :=
  ownsRow_only h (Only.set (F := fun i => i = g) W g i v rfl) (fun b hb e => by
    have e' : b = g := e
    rw [e'] at hb
    exact rows_apart h hr (by decide) rfl hb)
theorem RRow.tail {W : World} {p : Option Addr} {c : Nat} {rs : List RC} (h : RRow W p c rs) {j : Nat} (hj : j ≤ rs.length) : RRow W (if c = j then p else Option.map (fun x => x.add (j * 2)) p) (c - j) (rs.drop j) := by
  have h1 := h.le
  have h2 := h.top
  refine ⟨by rw [List.length_drop]; omega, by omega, ?_, ?_⟩
  · intro e
    by_cases hc : c = j
    · omega
    · rw [if_neg hc] at e
      have := h.nil (by simpa using e)
      omega
  · intro i hi
    rw [List.length_drop] at hi
    obtain ⟨g, o, e, hcell⟩ := h.cell (j + i) (by omega)
    rw [if_neg (by omega), e]
    refine ⟨g, o + j * 2, by simp [Addr.add], fun k hk => ?_⟩
    have := hcell k hk
    rw [getElem!_pos rs (j + i) (by omega)] at this
    rw [getElem!_pos (rs.drop j) i (by rw [List.length_drop]; omega), List.getElem_drop, ← this]
    congr 2
    omega
theorem made_lists : ∀ n, (madeCells (Value.slice none 0 0).cells (n * 1)).toList = (List.replicate n (default : SV)).flatMap SV.cells := by
  intro n
  have h1 : ∀ n, (List.replicate n (default : SV)).flatMap SV.cells = List.replicate n (Value.slice none 0 0) := by
    intro n
    induction n with
    | zero => rfl
    | succ n ih => rw [List.replicate_succ, List.flatMap_cons, ih]; rfl
  rw [h1, Nat.mul_one]
  apply List.ext_getElem
  · simp [size_madeCells]
  · intro i h2 h3
    simp [madeCells, Value.cells, Nat.mod_one]
theorem SV.flat (ys : List SV) : ys.flatMap SV.cells = ys.map (fun x => Value.slice x.p x.rs.length x.c) := by
  induction ys with
  | nil => rfl
  | cons y ys ih => rw [List.flatMap_cons, ih]; rfl
theorem SV.stored {W : World} {base g n c i : Nat} {ys : List SV} (h : W.ownsRow base 26 1 (.slice (some ⟨g, 0, none⟩) n c) n (ys.flatMap SV.cells)) (x : SV) : (W.setCell ⟨g, i, none⟩ (.slice x.p x.rs.length x.c)).ownsRow base 26 1 (.slice (some ⟨g, 0, none⟩) n c) n ((ys.set i x).flatMap SV.cells) := by
  rw [SV.flat] at h ⊢
  have h9 := (h.stored i (.slice x.p x.rs.length x.c)).1
  rw [List.map_set]
  exact h9
theorem get_setSV {ys : List SV} {k i : Nat} {x : SV} (hi : i < ys.length) : (ys.set k x)[i]! = if k = i then x else ys[i]! := by
  rw [getElem!_pos (ys.set k x) i (by simpa using hi), List.getElem_set, getElem!_pos ys i hi]

set_option maxRecDepth 100000 in
set_option maxHeartbeats 8000000 in
theorem behind_any {W : World} {p cp : Option Addr} {cap cc n : Nat} {xs : List SV} {cs : List Nat} (hx : LL W p cap xs) (hn : xs.length = n) (hcn : cs.length = n) (hc : Row .i64 W (.slice cp n cc) (cs.map fun m : Nat => (m : Int))) (hle : ∀ i, i < n → cs[i]! ≤ (xs[i]!).rs.length) (hb : n ≤ 1048576) (hlb : ∀ i, i < n → (xs[i]!).rs.length * 16 ≤ 140737488355328) :
    Calls Tryz.prog 41 #[.slice p n cap, .slice cp n cc] W fun e w' => ∃ g, ∃ ys : List SV, e = .returned (.slice (some ⟨g, 0, none⟩) n n) ∧ ys.length = n ∧ w'.ownsRow W.heap.size 26 1 (.slice (some ⟨g, 0, none⟩) n n) n (ys.flatMap SV.cells) ∧ (∀ i, i < n → (ys[i]!).own w' W.heap.size ∧ (ys[i]!).rs = (xs[i]!).rs.drop cs[i]!) ∧ Below W.heap.size W w' := by
  obtain ⟨i0, hI0, hz0, hz1, hz2⟩ := info_parts Tryz.infoRecs
  have i1 := hx.row.le
  have i2 := hx.row.top
  rw [hn] at i1
  obtain ⟨w1, hrun, hown, hgr⟩ := run_make_full W W.heap.size 25 26 i0 (.slice none 0 0) 1 Tryz.underlying25 hI0 hz0 hz1 .i64 .i64 n (by rw [hz2]; omega) (by unfold maxLen; omega) (Nat.le_refl _)
  rw [made_lists] at hown
  have hb1 : Below W.heap.size W w1 := (Below.refl _ W).grown hgr (Nat.le_refl _) (fun k hk => by simp at hk)
  obtain ⟨g, hg⟩ : ∃ g, W.heap.size = g := ⟨_, rfl⟩
  rw [hg] at hrun
  have HOW0 : Hid (w1.ownsRow W.heap.size 26 1 (.slice (some ⟨g, 0, none⟩) n n) n ((List.replicate n (default : SV)).flatMap SV.cells)) := by rw [← hg]; exact hide hown
  obtain ⟨_, _, ce, k1, k2, k3, k4⟩ := hc
  simp only [Value.slice.injEq] at ce
  obtain ⟨rfl, ce2, rfl⟩ := ce
  rw [List.length_map, hcn] at k1 k4
  have HC := hide k4
  have HX := hide hx
  have HN := hide hn
  have HCN := hide hcn
  have HLE := hide hle
  have HLB := hide hlb
  have HB1 := hide hb1
  have HG := hide hg
  clear hx hn hcn hle hlb hown hgr hb1 hg k4 ce2 k3
  go_enter Tryz.func41, Tryz.ntmps41
  go_wp2_with fail
  go_loopw [13] (fun s wq => ∃ (j : Nat) (ys : List SV), j ≤ n ∧ s = .int .i64 (j : Int) ∧ Hid (ys.length = n) ∧ Hid (wq.ownsRow W.heap.size 26 1 (.slice (some ⟨g, 0, none⟩) n n) n (ys.flatMap SV.cells)) ∧ Hid (∀ i, i < j → (ys[i]!).own wq W.heap.size ∧ (ys[i]!).rs = (xs[i]!).rs.drop cs[i]!) ∧ Hid (Below W.heap.size W wq)) (fun s _ => n - (intOf s).toNat)
  case atStart => exact ⟨0, List.replicate n default, Nat.zero_le _, rfl, hide (by simp), HOW0, hide (fun i hi => absurd hi (Nat.not_lt_zero i)), HB1⟩
  case round =>
    obtain ⟨j, ys, hj, rfl, HYL, HO, HYS, HB⟩ := hrel
    rename World => wq
    clear HOW0 hrun
    by_cases hlt : j < n
    · have hlt2 : j < xs.length := by rw [HN.out]; exact hlt
      have hll := HX.out.later HB.out
      obtain ⟨g2, o2, rfl, hcx⟩ := hll.at hlt2
      have hxm : xs[j]! ∈ xs := by rw [getElem!_pos xs j hlt2]; exact List.getElem_mem _
      have hrow := hll.ok _ hxm
      have hle := HLE.out j hlt
      have hlb := HLB.out j hlt
      obtain ⟨b1, o1, rfl, hc1⟩ := HC.out (by omega)
      obtain ⟨m, hm⟩ : ∃ m, cs[j]! = m := ⟨_, rfl⟩
      have dm : wq.cell? ⟨b1, o1 + j, none⟩ = some (.int .i64 (m : Int)) := by
        rw [cell_later HB.out (hc1 j hlt), ← hm, getElem!_pos cs j (by rw [HCN.out]; exact hlt), List.getD_eq_getElem?_getD, List.getElem?_map, List.getElem?_eq_getElem (by rw [HCN.out]; exact hlt)]
        rfl
      obtain ⟨x, hxx⟩ : ∃ x, xs[j]! = x := ⟨_, rfl⟩
      rw [hxx] at hcx hrow hle hlb
      rw [hm] at hle
      obtain ⟨rs, xp, xc⟩ := x
      simp only at hcx hle hlb
      have hrow2 : RRow wq xp xc rs := hrow
      have hrl := hrow2.le
      have hrt := hrow2.top
      have HXJ := hide hxx
      have HMJ := hide hm
      obtain ⟨tp, htp⟩ : ∃ tp, (if xc = m then xp else Option.map (fun x => x.add (m * 2)) xp) = tp := ⟨_, rfl⟩
      have hta := RRow.tail hrow2 hle
      rw [htp] at hta
      obtain ⟨L, hL⟩ : ∃ L, rs.length - m = L := ⟨_, rfl⟩
      have HCL := hide (recClone (n := L) hta (by rw [List.length_drop]; exact hL) (by omega))
      clear hta hrow hrow2 hxm hll hc1 hm hxx
      go_wp2_with fail
      refine HCL.out.mono ?_
      rintro _ w2 ⟨p', c', rfl, hO2, hB2⟩
      have hO3 := ownsRow_later HO.out hB2
      have hcell : ∃ v, w2.cell? ⟨g, j, none⟩ = some v := by
        obtain ⟨g', e', h9⟩ := own_cellR hO3 hlt
        simp only [Option.some.injEq, Addr.mk.injEq, and_true] at e'
        rw [← e'] at h9
        exact ⟨_, h9⟩
      obtain ⟨v0, c0⟩ := hcell
      have f0 : w2.frozen? ⟨g, j, none⟩ = false := hO3.frozenAt _
      have hLd : (rs.drop m).length = L := by rw [List.length_drop]; exact hL
      have hnew : SV.own ⟨rs.drop m, p', c'⟩ w2 W.heap.size := by
        have h9 := ownsRow_base hO2 HB.out.size
        show w2.ownsRow W.heap.size 71 2 (.slice p' (rs.drop m).length c') (rs.drop m).length _
        rw [hLd]
        exact h9
      have hst := SV.stored (i := j) hO3 ⟨rs.drop m, p', c'⟩
      simp only [hLd] at hst
      have HST := hide hst
      have HYL2 : Hid ((ys.set j ⟨rs.drop m, p', c'⟩).length = n) := hide (by rw [List.length_set]; exact HYL.out)
      have HYS2 : Hid (∀ i, i < j + 1 → ((ys.set j ⟨rs.drop m, p', c'⟩)[i]!).own (w2.setCell ⟨g, j, none⟩ (.slice p' L c')) W.heap.size ∧ ((ys.set j ⟨rs.drop m, p', c'⟩)[i]!).rs = (xs[i]!).rs.drop cs[i]!) := by
        refine hide (fun i hi => ?_)
        rw [get_setSV (by rw [HYL.out]; omega)]
        by_cases e : j = i
        · rw [if_pos e, ← e, HXJ.out, HMJ.out]
          exact ⟨hnew.set hO3, rfl⟩
        · rw [if_neg e]
          have := HYS.out i (by omega)
          exact ⟨(this.1.later hB2).set hO3, this.2⟩
      have HB3 : Hid (Below W.heap.size W (w2.setCell ⟨g, j, none⟩ (.slice p' L c'))) := hide ((HB.out.trans (hB2.mono HB.out.size)).setCell (p := ⟨g, j, none⟩) (Nat.le_of_eq HG.out) _)
      clear hnew hst hO3 hO2 hB2 HCL hcx dm
      go_wp2
      exact ⟨⟨j + 1, ys.set j ⟨rs.drop m, p', c'⟩, by omega, by first | rfl | go_num, HYL2, HST, HYS2, HB3⟩, by simp [intOf]; omega⟩
    · obtain rfl : j = n := by omega
      go_wp2
      go_ret
      exact ⟨g, ys, rfl, HYL.out, HO.out, HYS.out, HB.out⟩
end Go.Proofs.YtifldnpccgbnkaaGreat

/-
  The program's Turns where it is nobody's turn. The conditions: lengths.
-/
namespace Go.Proofs.YtifldnpccgbnkaaGreat
open Go.RowKit Go.Shelf
attribute [local go_sem] Oper.semAt_some

def TbI (V : World) (sB cB n : Nat) (tt : Int) (X : World) : Prop :=
  Boxed X sB 3 (.int .i64 tt) ∧ Boxed X (sB + 2) 26 (.slice none 0 0) ∧ Boxed X cB 88 (.slice (some ⟨sB + 3, 0, none⟩) n n) ∧
    X.ownsRow sB 3 1 (.slice (some ⟨sB + 3, 0, none⟩) n n) n ((List.replicate n (0 : Int)).map (Value.int .i64)) ∧ Only (fun _ => False) V X
set_option maxRecDepth 100000 in
set_option maxHeartbeats 8000000 in
theorem turnsB_in (q : Nat) (hq : 5 ≤ q) {W : World} {p : Option Addr} {cap n : Nat} {tt : Int} {xs : List SV} (hx : LL W p cap xs) (hn : xs.length = n) (htt : tt < 0 ∨ (n : Int) ≤ tt) (hb : n ≤ 1048576) :
    CallsIn Fence.wide q Tryz.prog 40 #[.int .i64 tt, .slice p n cap] W fun e w' => ∃ g2, e = .returned (.tuple #[.slice none 0 0, .int .i64 tt, .slice (some ⟨g2, 0, none⟩) n n]) ∧ w'.ownsRow W.heap.size 3 1 (.slice (some ⟨g2, 0, none⟩) n n) n ((List.replicate n (0 : Int)).map (Value.int .i64)) ∧ Below W.heap.size W w' := by
  obtain ⟨k0, hK0, hy0, hy1, hy2⟩ := info_parts Tryz.infoIntR
  obtain ⟨sB, hsB⟩ : ∃ sB, W.heap.size = sB := ⟨_, rfl⟩
  obtain ⟨V3, hV3⟩ : ∃ V3, V3 = ((W.alloc (.cells #[.int .i64 tt] 3 (0, 0))).alloc (.cells #[.slice p n cap] 25 (0, 0))).alloc (.cells #[.slice none 0 0] 26 (0, 0)) := ⟨_, rfl⟩
  have b1 := alloc_below W (.cells #[.int .i64 tt] 3 (0, 0))
  have b2 := alloc_below (W.alloc (.cells #[.int .i64 tt] 3 (0, 0))) (.cells #[.slice p n cap] 25 (0, 0))
  have b3 := alloc_below ((W.alloc (.cells #[.int .i64 tt] 3 (0, 0))).alloc (.cells #[.slice p n cap] 25 (0, 0))) (.cells #[.slice none 0 0] 26 (0, 0))
  have hbV : Below W.heap.size W V3 := by rw [hV3]; exact b1.trans ((b2.mono b1.size).trans (b3.mono (Nat.le_trans b1.size b2.size)))
  have x0 : Boxed V3 sB 3 (.int .i64 tt) := by rw [hV3, ← hsB]; exact below_box b3 (below_box b2 (heap_alloc_new W _))
  have x1 : Boxed V3 (sB + 1) 25 (.slice p n cap) := by
    have e : sB + 1 = (W.alloc (.cells #[.int .i64 tt] 3 (0, 0))).heap.size := by rw [← hsB]; simp
    rw [hV3, e]
    exact below_box b3 (heap_alloc_new _ _)
  have x2 : Boxed V3 (sB + 2) 26 (.slice none 0 0) := by
    have e : sB + 2 = ((W.alloc (.cells #[.int .i64 tt] 3 (0, 0))).alloc (.cells #[.slice p n cap] 25 (0, 0))).heap.size := by rw [← hsB]; simp
    rw [hV3, e]
    exact heap_alloc_new _ _
  have hs3 : V3.heap.size = sB + 3 := by rw [hV3, ← hsB]; simp
  obtain ⟨w1, hrun, hown, hgr⟩ := run_make_full V3 sB 88 3 k0 (.int .i64 0) 1 Tryz.underlying88 hK0 hy0 hy1 .i64 .i64 n (by rw [hy2]; omega) (by unfold maxLen; omega) (by omega)
  rw [made_intsR, hs3] at hown
  rw [hs3, hV3, ← hsB] at hrun
  have hb1 : Below V3.heap.size V3 w1 := (Below.refl _ V3).grown hgr (Nat.le_refl _) (fun k hk => by simp at hk)
  have i3 := hx.row.le
  have i4 := hx.row.top
  rw [hn] at i3
  have HX := hide hx
  have HNN := hide hn
  clear hx hn b1 b2 b3
  refine callsIn_of_wp_marks Tryz.func40 rfl trivial ?_ rfl
  simp only [Tryz.ntmps40, List.size_toArray, List.length_cons, List.length_nil, Nat.reduceAdd, Nat.reduceSub, Array.replicate_succ, Array.replicate_zero, List.push_toArray, List.append_toArray, List.nil_append, List.cons_append]
  obtain ⟨w2, hw2⟩ : ∃ w2, w2 = w1.alloc (.cells #[.slice (some ⟨sB + 3, 0, none⟩) n n] 88 (0, 0)) := ⟨_, rfl⟩
  have hb2 : Below w1.heap.size w1 w2 := by rw [hw2]; exact alloc_below _ _
  have y0 := below_box hb2 (below_box hb1 x0)
  have y1 := below_box hb2 (below_box hb1 x1)
  have y2 := below_box hb2 (below_box hb1 x2)
  have y3 : w2.heap[w1.heap.size]? = some (.cells #[.slice (some ⟨sB + 3, 0, none⟩) n n] 88 (0, 0)) := by rw [hw2]; exact heap_alloc_new _ _
  have ho2 := ownsRow_later hown hb2
  have hs1 : sB + 4 ≤ w1.heap.size := (own_block_lt hown (b := sB + 3) rfl).1
  have hs2 : w2.heap.size = w1.heap.size + 1 := by rw [hw2]; simp
  have hbW2 : Below W.heap.size W w2 := hbV.trans ((hb1.mono hbV.size).trans (hb2.mono (Nat.le_trans hbV.size hb1.size)))
  have c0 : (w1.alloc (.cells #[.slice (some ⟨sB + 3, 0, none⟩) n n] 88 (0, 0))).cell? ⟨sB, 0, none⟩ = some (.int .i64 tt) := by rw [← hw2]; exact Boxed.cell y0
  have c1 : (w1.alloc (.cells #[.slice (some ⟨sB + 3, 0, none⟩) n n] 88 (0, 0))).cell? ⟨sB + 1, 0, none⟩ = some (.slice p n cap) := by rw [← hw2]; exact Boxed.cell y1
  obtain ⟨cB, hcB⟩ : ∃ cB, w1.heap.size = cB := ⟨_, rfl⟩
  rw [hcB] at y3 hs1 hs2
  have HY0 := hide y0
  have HY1 := hide y1
  have HY2 := hide y2
  have HY3 := hide y3
  have HO2 := hide ho2
  have HBW := hide hbW2
  have HS1 := hide hs1
  have HS2 := hide hs2
  have HSB := hide hsB
  have HCB := hide hcB
  clear y0 y1 y2 y3 ho2 hbW2 hs1 hs2 x0 x1 x2 hown hgr hb1 hb2 hs3 hbV
  gi_wp2_with fail
  rw [← hw2]
  clear hrun c0 c1 hw2 hV3
  refine ⟨trivial, fun _ => by omega, (callsIn_wide.2 inTurn_any).mono ?_⟩
  rintro _ w3 ⟨rfl, hw3⟩
  obtain ⟨vB, hvB⟩ : ∃ vB, w2.heap.size = vB := ⟨_, rfl⟩
  rw [hvB]
  have b4 := alloc_below w2 (.cells #[.int .i64 tt] 3 (0, 0))
  have b5 := alloc_below (w2.alloc (.cells #[.int .i64 tt] 3 (0, 0))) (.cells #[.slice p n cap] 25 (0, 0))
  have hb3 : Below w2.heap.size w2 w3 := by rw [hw3]; exact b4.trans (b5.mono b4.size)
  have z0 : Boxed w3 vB 3 (.int .i64 tt) := by rw [hw3, ← hvB]; exact below_box b5 (heap_alloc_new w2 _)
  have z1 : Boxed w3 (vB + 1) 25 (.slice p n cap) := by
    have e : vB + 1 = (w2.alloc (.cells #[.int .i64 tt] 3 (0, 0))).heap.size := by rw [← hvB]; simp
    rw [hw3, e]
    exact heap_alloc_new _ _
  have hs3 : vB + 2 ≤ w3.heap.size := by rw [hw3, ← hvB]; simp
  have hvc : cB < vB := by rw [← hvB, HS2.out]; omega
  have HZL := hide (below_box hb3 HY1.out)
  have HBW3 : Hid (Below W.heap.size W w3) := hide (HBW.out.trans (hb3.mono HBW.out.size))
  have HZ0 := hide z0
  have HZ1 := hide z1
  have HST : Hid (TbI w3 sB cB n tt w3) := hide ⟨below_box hb3 HY0.out, below_box hb3 HY2.out, below_box hb3 HY3.out, ownsRow_later HO2.out hb3, Only.refl _ _⟩
  have hs1 := HS1.out
  clear z0 z1 hw3 b4 b5 hb3 hvB HY0 HY1 HY2 HY3 HO2
  gi_wp2_with fail
  refine range_list2 (by omega) (inTurn_none (q - 1) (by omega) (tB := vB) (lB := vB + 1) (p := p) (cap := cap) htt) rfl enInTurn (fun _ h => by cases h) (fun _ => TbI w3 sB cB n tt) (fun _ _ _ => False) ?grows ?puts (fun _ _ _ _ _ _ h => h.elim) ?reads HST.out
    (fun x X => { tmps := #[.int .i64 tt, .slice p n cap, .pointer (some ⟨sB, 0, none⟩), .pointer (some ⟨sB + 1, 0, none⟩), .slice none 0 0, .int .i64 0, .slice none 0 0, .pointer (some ⟨sB + 1 + 1, 0, none⟩), .pointer (some ⟨cB, 0, none⟩), x.getD 0 undef, .pointer (some ⟨X.heap.size, 0, none⟩), .slice p n cap, .int .i64 (n : Int), .slice (some ⟨sB + 3, 0, none⟩) n n, .int .i64 tt, .slice p n cap, .func (.func 73) #[] #[.pointer (some ⟨vB, 0, none⟩), .pointer (some ⟨vB + 1, 0, none⟩)], x.getD 0 undef, x.getD 1 undef, undef, undef, undef, undef, undef, undef, undef, undef, undef, undef, undef, undef, undef, undef, undef, undef, undef, undef], defers := [] }) (fun x X => X.alloc (.cells (aggR (x.getD 1 undef)) 71 (0, 0))) (fun k X => alloc_below X _) (fun _ _ _ _ h => by cases h) (fun _ _ _ _ _ h => by cases h) ?done (fun _ _ _ _ _ _ h => h.elim)
  case grows =>
    rintro k X Y ⟨h1, h2, h3, h4, h5⟩ hb
    exact ⟨below_box hb h1, below_box hb h2, below_box hb h3, ownsRow_later h4 hb, h5.trans (Only.fresh hb _)⟩
  case puts =>
    rintro k X l o o' ⟨h1, h2, h3, h4, h5⟩ hl ho hc
    exact ⟨put_onlyR.obj h1 (fun e => by have e' : sB = l := e; omega), put_onlyR.obj h2 (fun e => by have e' : sB + 2 = l := e; omega), put_onlyR.obj h3 (fun e => by have e' : cB = l := e; omega), row_putR h4 ho hc, h5.step put_onlyR (fun i e => .inr (by have e' : i = l := e; omega))⟩
  case reads =>
    rintro k X ⟨_, _, _, _, h6⟩
    have u0 : Boxed X vB 3 (.int .i64 tt) := h6.obj HZ0.out (fun e => e)
    have u1 : Boxed X (vB + 1) 25 (.slice p n cap) := h6.obj HZ1.out (fun e => e)
    exact ⟨u0.cell, u1.cell⟩
  case done =>
    rintro D X hD ⟨h1, h2, h3, h5, h6⟩ hK
    have e0 := h1.cell
    have e2 : X.cell? ⟨sB + 1 + 1, 0, none⟩ = some (.slice none 0 0) := h2.cell
    have e4 := h3.cell
    have hK' : X.drew.heap[D]? = some (.deferred (some [])) := hK
    have HK := hide hK'
    have HR2 := hide h5
    have HB : Hid (Below W.heap.size W X) := hide (HBW3.out.trans (h6.below HBW3.out.size (fun i e => e.elim)))
    clear h1 h2 h3 h5 h6 hK hK'
    gi_wp2
    gi_region
    gi_wp2_with fail
    refine ⟨by simp, .inl ⟨_, _, rfl, run_takeDeferred HK.out, ?_⟩⟩
    refine ⟨_, results_tmp3 rfl _ _ _, sB + 3, rfl, ownsRow_base (row_putR HR2.out.drew HK.out rfl) (by have := HSB.out; omega), ?_⟩
    exact HB.out.drew.trans (put_onlyR.below HB.out.size (fun i e => by have e' : i = D := e; have := HBW3.out.size; omega))
theorem turnsB_any {W : World} {p : Option Addr} {cap n : Nat} {tt : Int} {xs : List SV} (hx : LL W p cap xs) (hn : xs.length = n) (htt : tt < 0 ∨ (n : Int) ≤ tt) (hb : n ≤ 1048576) :
    Calls Tryz.prog 40 #[.int .i64 tt, .slice p n cap] W fun e w' => ∃ g2, e = .returned (.tuple #[.slice none 0 0, .int .i64 tt, .slice (some ⟨g2, 0, none⟩) n n]) ∧ w'.ownsRow W.heap.size 3 1 (.slice (some ⟨g2, 0, none⟩) n n) n ((List.replicate n (0 : Int)).map (Value.int .i64)) ∧ Below W.heap.size W w' :=
  callsIn_wide.1 (turnsB_in 5 (Nat.le_refl _) hx hn htt hb)
end Go.Proofs.YtifldnpccgbnkaaGreat
