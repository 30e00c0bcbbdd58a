/-
  Flows: states as they lie; whether there is a flow of a graph, whether a state's numbers fit. The conditions: lengths.
-/
import Derived.Test.YtlfipmieaabagaaGreatTsd
import Derived.Test.YtlfipmieaabagaaGreatGle
import Derived.Test.YtlfipmieaabagaaGreatGlo
namespace Go.Proofs.YtlfipmieaabagaaGreat
open Go.RowKit

theorem Good.fit {parts : Int} {os : List GO} (g : Good parts os) {n : Nat} (hn : n < os.length) : ((os[n]!).kind = 8 → 2 ≤ (os[n]!).ins.length ∧ (os[n]!).ins.length ≤ 4) ∧ ((os[n]!).kind = 9 ∨ 0 < portsC (os[n]!).kind (os[n]!).arg) := by
  obtain ⟨_, _, hi, _, _, _⟩ := one_zero (scan_good g.scan hn).2
  refine ⟨fun h8 => ?_, ?_⟩
  · unfold insC at hi
    rw [Bool.and_eq_true, decide_eq_true_eq] at hi
    have h9 := hi.1
    rw [h8] at h9
    have e1 : leastC 8 = 2 := by decide
    have e2 : mostC 8 = 4 := by decide
    rw [e1, e2] at h9
    omega
  · by_cases h9 : (os[n]!).kind = 9
    · exact .inl h9
    · have := g.ports hn h9
      unfold portsO at this
      exact .inr (by omega)
theorem Good.some {parts : Int} {os : List GO} (g : Good parts os) : 0 < os.length := by
  obtain ⟨s, _, h, _⟩ := g.sink
  omega
def intCells (n : Int) : List Value := [.int .i64 n]
theorem intCells_len (n : Int) : (intCells n).length = 1 := rfl
theorem intCells_one (n : Int) : ∀ u ∈ intCells n, u.oneCell' = true := by
  intro u hu
  simp only [intCells, List.mem_cons, List.not_mem_nil, or_false] at hu
  rcases hu with rfl
  rfl
/-- Numbers as they lie. -/
abbrev NRow (W : World) (p : Option Addr) (cap : Nat) (l : List Int) : Prop := LRow intCells 1 W p cap l
theorem NRow.later {W W' : World} {p : Option Addr} {cap : Nat} {l : List Int} (h : NRow W p cap l) (hb : Below W.heap.size W W') : NRow W' p cap l := LRow.below intCells_len h hb
theorem NRow.at {W : World} {p : Option Addr} {cap : Nat} {l : List Int} (h : NRow W p cap l) {i : Nat} (hi : i < l.length) {x : Int} (hx : l[i]! = x) : ∃ g o, p = some ⟨g, o, none⟩ ∧ W.cell? ⟨g, o + i, none⟩ = some (.int .i64 x) := by
  obtain ⟨g, o, e, hc⟩ := h.cell i hi
  rw [hx] at hc
  have h0 := hc 0 (by decide)
  rw [Nat.mul_one] at h0
  exact ⟨g, o, e, h0⟩
/-- What a task keeps, with where it lies. -/
structure TV where
  ks : List Op.KS
  kp : Option Addr
  kc : Nat
  tn : Int
  xs : List SV
  bp : Option Addr
  bc : Nat
instance : Inhabited TV := ⟨⟨[], none, 0, 0, [], none, 0⟩⟩
def TV.cells (x : TV) : List Value := [.slice x.kp x.ks.length x.kc, .int .i64 x.tn, .slice x.bp x.xs.length x.bc]
theorem TV.len (x : TV) : x.cells.length = 3 := rfl
theorem TV.one (x : TV) : ∀ u ∈ x.cells, u.oneCell' = true := by
  intro u hu
  simp only [TV.cells, List.mem_cons, List.not_mem_nil, or_false] at hu
  rcases hu with rfl | rfl | rfl <;> rfl
structure TV.ok (x : TV) (W : World) : Prop where
  keys : Op.KRow W x.kp x.kc x.ks
  bufs : LL W x.bp x.bc x.xs
structure TRow (W : World) (p : Option Addr) (cap : Nat) (ts : List TV) : Prop where
  row : LRow TV.cells 3 W p cap ts
  ok : ∀ x ∈ ts, x.ok W
theorem TRow.later {W W' : World} {p : Option Addr} {cap : Nat} {ts : List TV} (h : TRow W p cap ts) (hb : Below W.heap.size W W') : TRow W' p cap ts :=
  ⟨h.row.below TV.len hb, fun x hx => ⟨Op.KRow.later (h.ok x hx).keys hb, (h.ok x hx).bufs.later hb⟩⟩
theorem TRow.at {W : World} {p : Option Addr} {cap : Nat} {ts : List TV} (h : TRow W p cap ts) {i : Nat} (hi : i < ts.length) {x : TV} (hx : ts[i]! = x) : ∃ g o, p = some ⟨g, o, none⟩ ∧ W.cell? ⟨g, o + i * 3, none⟩ = some (.slice x.kp x.ks.length x.kc) ∧ W.cell? ⟨g, o + i * 3 + 1, none⟩ = some (.int .i64 x.tn) ∧ W.cell? ⟨g, o + i * 3 + 2, none⟩ = some (.slice x.bp x.xs.length x.bc) := by
  obtain ⟨g, o, e, hc⟩ := h.row.cell i hi
  rw [hx] at hc
  exact ⟨g, o, e, hc 0 (by decide), hc 1 (by decide), hc 2 (by decide)⟩
theorem grow_at {W : World} {p : Option Addr} {cap : Nat} {os : List OV} (h : GRow W p cap os) {i : Nat} (hi : i < os.length) {x : OV} (hx : os[i]! = x) : ∃ g o, p = some ⟨g, o, none⟩ ∧ W.cell? ⟨g, o + i * 5, none⟩ = some (.int .i64 x.o.kind) ∧ W.cell? ⟨g, o + i * 5 + 1, none⟩ = some (.int .i64 x.o.part) ∧ W.cell? ⟨g, o + i * 5 + 2, none⟩ = some (.int .i64 x.o.fn) ∧ W.cell? ⟨g, o + i * 5 + 3, none⟩ = some (.int .i64 x.o.arg) ∧ W.cell? ⟨g, o + i * 5 + 4, none⟩ = some (.slice x.ip x.o.ins.length x.ic) := by
  obtain ⟨g, o, e, hc⟩ := h.cell i hi
  rw [hx] at hc
  exact ⟨g, o, e, hc 0 (by decide), hc 1 (by decide), hc 2 (by decide), hc 3 (by decide), hc 4 (by decide)⟩
set_option maxRecDepth 100000 in
set_option maxHeartbeats 2000000 in
theorem fault_any {W : World} {parts : Int} {p : Option Addr} {cap n : Nat} {os : List OV} (ho : GRow W p cap os) (hn : os.length = n) {er : Int} (her : (checkC parts (os.map OV.o)).2 = er) :
    Calls Tryz.prog 37 #[.agg #[.int .i64 parts, .slice p n cap], .int .i64 1] W fun e w' => e = .returned (.int .i64 er) ∧ Below W.heap.size W w' := by
  obtain ⟨V, hV⟩ : ∃ V, V = W.alloc (.cells #[.int .i64 parts, .slice p n cap] 24 (0, 0)) := ⟨_, rfl⟩
  have bV : Below W.heap.size W V := by rw [hV]; exact alloc_below _ _
  obtain ⟨gB, hgB⟩ : ∃ gB, W.heap.size = gB := ⟨_, rfl⟩
  have u0 : V.heap[gB]? = some (.cells #[.int .i64 parts, .slice p n cap] 24 (0, 0)) := by rw [hV, ← hgB]; exact heap_alloc_new W _
  have HCK := hide (check_any (parts := parts) (ho.below bV))
  rw [hn, her] at HCK
  obtain ⟨c1, hc1⟩ : ∃ c1, (checkC parts (os.map OV.o)).1 = c1 := ⟨_, rfl⟩
  rw [hc1] at HCK
  have HBV := hide bV
  have HU0 := hide u0
  have HO := hide ho
  have HN := hide hn
  have HER := hide her
  have i1 := ho.le
  have i2 := ho.top
  rw [hn] at i1
  have x0 : V.cell? ⟨gB, 0, none⟩ = some (.int .i64 parts) := by simp [World.cell?, u0]
  have x1 : V.cell? ⟨gB, 1, none⟩ = some (.slice p n cap) := by simp [World.cell?, u0]
  clear ho hn her bV u0 hc1
  go_enter Tryz.func37, Tryz.ntmps37
  go_upto_region 1 with fail
  rw [← hV]
  try rw [hgB]
  clear hV hgB
  go_wp2_with fail
  refine HCK.out.mono ?_
  rintro _ w1 ⟨rfl, b1⟩
  have HB1 := hide b1
  have HBW := hide (HBV.out.trans (b1.mono HBV.out.size))
  have x2 := cell_later b1 x1
  clear b1 HCK x0 x1
  by_cases h0 : er = 0
  · subst h0
    have hg := good_of HER.out
    have hpos : 0 < n := by rw [← HN.out]; simpa using hg.some
    have hlt : 0 < os.length := by rw [HN.out]; exact hpos
    obtain ⟨hf1, hf2⟩ := hg.fit (n := 0) (by simpa using hlt)
    rw [getO os hlt] at hf1 hf2
    obtain ⟨x, hx⟩ : ∃ x, os[0]! = x := ⟨_, rfl⟩
    rw [hx] at hf1 hf2
    obtain ⟨g, o, rfl, k0, k1, k2, k3, k4⟩ := grow_at (HO.out.below HBW.out) hlt hx
    rw [Nat.zero_mul, Nat.add_zero] at k0 k1 k2 k3 k4
    obtain ⟨⟨kd, pt, fn, ar, ins⟩, ip, ic⟩ := x
    simp only at k0 k1 k2 k3 k4 hf1 hf2
    obtain ⟨m, hm⟩ : ∃ m, ins.length = m := ⟨_, rfl⟩
    rw [hm] at k4 hf1
    have HT := hide (taskNew_good (W := w1) (pt := pt) (fn := fn) (ip := ip) (ic := ic) hf1 hf2)
    clear hg hlt hf1 hf2 hx hm
    go_wp2_with fail
    refine HT.out.mono ?_
    rintro _ w2 ⟨pv, rfl, _, b2⟩
    have HBF := hide (HBW.out.trans (b2.mono HBW.out.size))
    clear b2
    go_wp2
    go_ret
    exact ⟨rfl, HBF.out⟩
  · have e0 := ne_eq h0
    go_wp2
    go_ret
    exact ⟨rfl, HBW.out⟩
def numOK (n : Int) : Bool := decide (0 ≤ n ∧ n ≤ 9007199254740992)
theorem Tryz.infoN : (Tryz.prog.info? 2).map (fun i => (i.zero, i.size, i.bytes)) = some (some (.int .i64 0), 1, 8) := by kernel_rfl
set_option maxRecDepth 100000 in
set_option maxHeartbeats 2000000 in
theorem numbersFit_any {W : World} {id out : Int} {vp tp : Option Addr} {nv vc nt tc : Nat} {vs : List Int} (hv : NRow W vp vc vs) (hn : vs.length = nv) (hb : nv ≤ 1048576) {rb : Bool} (hrb : (numOK id && (numOK out && vs.all numOK)) = rb) :
    Calls Tryz.prog 38 #[.agg #[.int .i64 id, .slice vp nv vc, .int .i64 out, .slice tp nt tc]] W fun e w' => e = .returned (.bool rb) ∧ Below W.heap.size W w' := by
  obtain ⟨j0, hj0, hj1, hj2, hj3⟩ := info_parts Tryz.infoN
  obtain ⟨V, hV⟩ : ∃ V, V = W.alloc (.cells #[.int .i64 id, .slice vp nv vc, .int .i64 out, .slice tp nt tc] 28 (0, 0)) := ⟨_, rfl⟩
  have bV : Below W.heap.size W V := by rw [hV]; exact alloc_below _ _
  obtain ⟨sB, hsB⟩ : ∃ sB, W.heap.size = sB := ⟨_, rfl⟩
  have u0 : V.heap[sB]? = some (.cells #[.int .i64 id, .slice vp nv vc, .int .i64 out, .slice tp nt tc] 28 (0, 0)) := by rw [hV, ← hsB]; exact heap_alloc_new W _
  have x0 : V.cell? ⟨sB, 0, none⟩ = some (.int .i64 id) := by simp [World.cell?, u0]
  have x1 : V.cell? ⟨sB, 1, none⟩ = some (.slice vp nv vc) := by simp [World.cell?, u0]
  have x2 : V.cell? ⟨sB, 2, none⟩ = some (.int .i64 out) := by simp [World.cell?, u0]
  obtain ⟨X, hX⟩ : ∃ X, X = V.alloc (.cells #[.int .i64 id, .int .i64 out] 2 (0, 0)) := ⟨_, rfl⟩
  have bX : Below V.heap.size V X := by rw [hX]; exact alloc_below _ _
  obtain ⟨xB, hxB⟩ : ∃ xB, V.heap.size = xB := ⟨_, rfl⟩
  have hbx := heap_alloc_new V (.cells #[.int .i64 id, .int .i64 out] 2 (0, 0))
  have HO : Hid (X.ownsRow W.heap.size 2 1 (.slice (some ⟨xB, 0, none⟩) 2 2) 2 [.int .i64 id, .int .i64 out]) := by
    rw [hX, ← hxB]
    exact hide ⟨rfl, .inr ⟨V.heap.size, 2, _, rfl, bV.size, hbx, Nat.le_refl _, by unfold maxLen; omega, rfl, rfl⟩⟩
  have HBX := hide (bV.trans (bX.mono bV.size))
  have hs := LRow.seg (by decide) intCells_len intCells_one (hv.later HBX.out)
  rw [hn] at hs
  have HS := hide hs
  have HK1 : Hid (2 + nv ≤ maxLen) := by show _ ≤ _; unfold maxLen; omega
  have HK2 : Hid ((2 + nv) * 8 ≤ 140737488355328) := by show _ ≤ _; omega
  have y1 := cell_later bX x1
  have HN := hide hn
  have HRB := hide hrb
  subst hX hxB
  clear hv hn hrb hs bV u0 bX hbx
  go_enter Tryz.func38, Tryz.ntmps38
  go_upto_region 1 with fail
  rw [← hV]
  try rw [hsB]
  clear hV hsB
  go_wp2_with (at_builtin; refine append_cells _ rfl (.tmp 9) (.tmp 11) 25 rfl W.heap.size 2 j0 (.int .i64 0) 1 8 Tryz.underlying25 hj0 hj1 hj2 hj3 rfl (by decide) (.slice (some ⟨V.heap.size, 0, none⟩) 2 2) 2 _ rfl HO.out (.slice vp nv vc) nv _ rfl HS.out HK1.out HK2.out HBX.out.size ?_)
  intro p6 c6 w6 o6 g6
  have HB6 : Hid (Below W.heap.size W w6) := hide (HBX.out.grown g6 HBX.out.size (fun i e => own_block_base HO.out e))
  have HNR : Hid (NRow w6 p6 c6 (id :: out :: vs)) := hide (LRow.of_own intCells_len (by rw [List.length_cons, List.length_cons, HN.out]; omega) o6)
  have HNL : Hid ((id :: out :: vs).length = 2 + nv) := hide (by rw [List.length_cons, List.length_cons, HN.out]; omega)
  obtain ⟨l, hl⟩ : ∃ l, id :: out :: vs = l := ⟨_, rfl⟩
  have HRL : Hid (l.all numOK = rb) := hide (by rw [← hl, ← HRB.out]; rfl)
  rw [hl] at HNR HNL
  obtain ⟨N, hN⟩ : ∃ N, 2 + nv = N := ⟨_, rfl⟩
  rw [hN] at HNL ⊢
  have i1 := HNR.out.le
  have i2 := HNR.out.top
  rw [HNL.out] at i1
  have hN2 : N ≤ 1048578 := by omega
  clear o6 g6 x0 x1 x2 y1 hl hN HO HS HRB HN HBX HK1 HK2
  go_wp2_with fail
  go_loopw [14] (fun s wq => ∃ (k : Nat), k ≤ N ∧ s = .int .i64 (k : Int) ∧ Hid ((l.take k).all numOK = true) ∧ Hid (wq = w6)) (fun s _ => N - (intOf s).toNat)
  case atStart => exact ⟨0, Nat.zero_le _, rfl, hide rfl, hide rfl⟩
  case round =>
    obtain ⟨k, hk, rfl, HA, HW⟩ := hrel
    obtain rfl := HW.out
    clear HW
    by_cases hlt : k < N
    · have hlt2 : k < l.length := by rw [HNL.out]; exact hlt
      obtain ⟨x, hx⟩ : ∃ x, l[k]! = x := ⟨_, rfl⟩
      obtain ⟨g, o, rfl, c0⟩ := HNR.out.at hlt2 hx
      have ex : l[k] = x := by rw [← hx, getElem!_pos l k hlt2]
      have etk : l.take (k + 1) = l.take k ++ [x] := by rw [List.take_succ_eq_append_getElem hlt2, ex]
      by_cases h1 : x < 0
      · have e1 : decide (x < 0) = true := decide_eq_true h1
        have HF : Hid (false = rb) := by
          refine hide ?_
          rw [← HRL.out]
          symm
          rw [List.all_eq_false]
          exact ⟨x, by rw [← ex]; exact List.getElem_mem _, by unfold numOK; simp; omega⟩
        clear hx ex etk
        go_wp2
        go_ret
        exact ⟨by rw [HF.out]; rfl, HB6.out⟩
      · have e1 : decide (x < 0) = false := decide_eq_false h1
        by_cases h2 : x > 9007199254740992
        · have e2 : decide (x > 9007199254740992) = true := decide_eq_true h2
          have HF : Hid (false = rb) := by
            refine hide ?_
            rw [← HRL.out]
            symm
            rw [List.all_eq_false]
            exact ⟨x, by rw [← ex]; exact List.getElem_mem _, by unfold numOK; simp; omega⟩
          clear hx ex etk
          go_wp2
          go_ret
          exact ⟨by rw [HF.out]; rfl, HB6.out⟩
        · have e2 : decide (x > 9007199254740992) = false := decide_eq_false h2
          have HA2 : Hid ((l.take (k + 1)).all numOK = true) := hide (by
            rw [etk, List.all_append, HA.out]
            unfold numOK
            simp
            omega)
          clear hx ex etk
          go_wp2
          exact ⟨⟨k + 1, by omega, by first | rfl | go_num, HA2, by first | exact hide rfl | exact hide trivial⟩, by simp [intOf]; omega⟩
    · obtain rfl : k = N := by omega
      have HF : Hid (true = rb) := hide (by rw [← HRL.out, ← HA.out, List.take_of_length_le (by rw [HNL.out]; exact Nat.le_refl _)])
      go_wp2
      go_ret
      exact ⟨by rw [HF.out]; rfl, HB6.out⟩
end Go.Proofs.YtlfipmieaabagaaGreat
