/-
  slices.Clone of operators and of inputs; the program's Clone: a graph like it, in memory of its own. The conditions: lengths.
-/
import Derived.Test.YtlfipmieaabagaaGreatSeg
import Derived.Test.YtlfipmieaabagaaGreatGar
import Derived.Test.YtlfipmieaabagaaGreatGof
import Derived.Lib.Bytes
import Derived.Laws.Rows
namespace Go.Proofs.YtlfipmieaabagaaGreat
open Go.RowKit

theorem Tryz.infoOp : (Tryz.prog.info? 95).map (fun i => (i.zero, i.size, i.bytes)) = some (some (.agg #[.int .i64 0, .int .i64 0, .int .i64 0, .int .i64 0, .slice none 0 0]), 5, 56) := by kernel_rfl
theorem Tryz.infoEdge : (Tryz.prog.info? 119).map (fun i => (i.zero, i.size, i.bytes)) = some (some (.agg #[.int .i64 0, .int .i64 0]), 2, 16) := by kernel_rfl
theorem OV.len (x : OV) : x.cells.length = 5 := rfl
theorem GE.len (x : GE) : x.cells.length = 2 := rfl
theorem OV.one (x : OV) : ∀ u ∈ x.cells, u.oneCell' = true := by
  intro u hu
  simp only [OV.cells, List.mem_cons, List.not_mem_nil, or_false] at hu
  rcases hu with rfl | rfl | rfl | rfl | rfl <;> rfl
theorem GE.one (x : GE) : ∀ u ∈ x.cells, u.oneCell' = true := by
  intro u hu
  simp only [GE.cells, List.mem_cons, List.not_mem_nil, or_false] at hu
  rcases hu with rfl | rfl <;> rfl
theorem ERow.cells {W : World} {p : Option Addr} {cap : Nat} {es : List GE} (h : ERow W p cap es) : ∀ i, i < es.length → ∃ g k, p = some ⟨g, k, none⟩ ∧ ∀ j, j < 2 → W.cell? ⟨g, k + i * 2 + j, none⟩ = (GE.cells es[i]!)[j]? := by
  intro i hi
  obtain ⟨g, k, e, h1, h2⟩ := h.cell i hi
  refine ⟨g, k, e, fun j hj => ?_⟩
  have : j = 0 ∨ j = 1 := by omega
  rcases this with rfl | rfl
  · exact h1
  · exact h2
theorem ERow.of_own {W : World} {base n cap : Nat} {p : Option Addr} {es : List GE} (hn : es.length = n) (h : W.ownsRow base 119 2 (.slice p n cap) n (es.flatMap GE.cells)) : ERow W p cap es := by
  obtain ⟨h1, h2, _, h4⟩ := own_list (cells := GE.cells) (fun o _ => o.len) hn h
  refine ⟨by omega, h2, fun i hi => ?_⟩
  obtain ⟨g, k, e, hc⟩ := h4 i hi
  exact ⟨g, k, e, hc 0 (by decide), hc 1 (by decide)⟩

set_option maxRecDepth 100000 in
set_option maxHeartbeats 1000000 in
theorem opsClone {W : World} {p : Option Addr} {n c : Nat} {os : List OV} (h : GRow W p c os) (hn : os.length = n) (hb : n * 56 ≤ 140737488355328) :
    Calls Tryz.prog 124 #[.slice p n c] W fun e w' => ∃ p' c', e = .returned (.slice p' n c') ∧ w'.ownsRow W.heap.size 95 5 (.slice p' n c') n (os.flatMap OV.cells) ∧ Below W.heap.size W w' := by
  obtain ⟨i0, hI0, hz0, hz1, hz2⟩ := info_parts Tryz.infoOp
  have q : ∀ (w : World) (a : Option Addr) (n c : Nat), (binOp .eql 22 (.slice a n c) (.slice none 0 0)).run Tryz.prog w = .ok (.bool a.isNone) w := fun w a n c => Lib.run_eql_slice_nil w _ _ a n c 0 0 Tryz.underlying22
  cases p with
  | none =>
    obtain rfl : os = [] := by
      cases os with
      | nil => rfl
      | cons x os =>
        have := h.cell 0 (by simp)
        simp at this
    obtain rfl : n = 0 := hn.symm
    clear h
    go_enter Tryz.func124, Tryz.ntmps124
    go_wp2
    go_ret
    exact ⟨none, 0, rfl, World.ownsRow_nil _ _ _ _, Below.refl _ _⟩
  | some ad =>
    have hsg : Seg W 5 (.slice (some ad) os.length c) os.length (os.flatMap OV.cells) := Seg.of_list (by decide) (fun o _ => o.len) (fun o _ => o.one) h.le h.top (fun h => by cases h) h.cell
    rw [hn] at hsg
    have HSG := hide (hsg.below ((Below.refl _ W).alloc (Nat.le_refl _) (.cells #[] 95 (0, 0))))
    have HK1 : Hid (0 + n ≤ maxLen) := by show _ ≤ _; unfold maxLen; omega
    have HK2 : Hid ((0 + n) * 56 ≤ 140737488355328) := by show _ ≤ _; omega
    clear h hsg
    go_enter Tryz.func124, Tryz.ntmps124
    go_wp2_with (at_builtin; refine append_cells _ rfl (.tmp 5) (.tmp 6) 22 rfl W.heap.size 95 i0 (.agg #[.int .i64 0, .int .i64 0, .int .i64 0, .int .i64 0, .slice none 0 0]) 5 56 Tryz.underlying22 hI0 hz0 hz1 hz2 rfl (by decide) (.slice (some ⟨W.heap.size, 0, none⟩) 0 0) 0 [] rfl (World.ownsRow_made W #[] 0 (Nat.le_refl _) (Nat.zero_le _) rfl) (.slice (some ad) n c) n _ rfl HSG.out HK1.out HK2.out (by simp) ?_)
    intro p' c' w1 hown hgrow
    have HO := hide hown
    have HB : Hid (Below W.heap.size W w1) := hide (((Below.refl _ W).alloc (Nat.le_refl _) _).grown hgrow (by simp) (by intro k hk; simp [Value.ownBlock] at hk; omega))
    clear hown hgrow
    go_wp2
    go_ret
    exact ⟨p', c', rfl, HO.out, HB.out⟩

set_option maxRecDepth 100000 in
set_option maxHeartbeats 1000000 in
theorem edgesClone {W : World} {p : Option Addr} {n c : Nat} {os : List GE} (h : ERow W p c os) (hn : os.length = n) (hb : n * 16 ≤ 140737488355328) :
    Calls Tryz.prog 125 #[.slice p n c] W fun e w' => ∃ p' c', e = .returned (.slice p' n c') ∧ w'.ownsRow W.heap.size 119 2 (.slice p' n c') n (os.flatMap GE.cells) ∧ Below W.heap.size W w' := by
  obtain ⟨i0, hI0, hz0, hz1, hz2⟩ := info_parts Tryz.infoEdge
  have q : ∀ (w : World) (a : Option Addr) (n c : Nat), (binOp .eql 93 (.slice a n c) (.slice none 0 0)).run Tryz.prog w = .ok (.bool a.isNone) w := fun w a n c => Lib.run_eql_slice_nil w _ _ a n c 0 0 Tryz.underlying93
  cases p with
  | none =>
    obtain rfl : os = [] := by
      cases os with
      | nil => rfl
      | cons x os =>
        have := h.cell 0 (by simp)
        simp at this
    obtain rfl : n = 0 := hn.symm
    clear h
    go_enter Tryz.func125, Tryz.ntmps125
    go_wp2
    go_ret
    exact ⟨none, 0, rfl, World.ownsRow_nil _ _ _ _, Below.refl _ _⟩
  | some ad =>
    have hsg : Seg W 2 (.slice (some ad) os.length c) os.length (os.flatMap GE.cells) := Seg.of_list (by decide) (fun o _ => o.len) (fun o _ => o.one) h.le h.top (fun h => by cases h) h.cells
    rw [hn] at hsg
    have HSG := hide (hsg.below ((Below.refl _ W).alloc (Nat.le_refl _) (.cells #[] 119 (0, 0))))
    have HK1 : Hid (0 + n ≤ maxLen) := by show _ ≤ _; unfold maxLen; omega
    have HK2 : Hid ((0 + n) * 16 ≤ 140737488355328) := by show _ ≤ _; omega
    clear h hsg
    go_enter Tryz.func125, Tryz.ntmps125
    go_wp2_with (at_builtin; refine append_cells _ rfl (.tmp 5) (.tmp 6) 93 rfl W.heap.size 119 i0 (.agg #[.int .i64 0, .int .i64 0]) 2 16 Tryz.underlying93 hI0 hz0 hz1 hz2 rfl (by decide) (.slice (some ⟨W.heap.size, 0, none⟩) 0 0) 0 [] rfl (World.ownsRow_made W #[] 0 (Nat.le_refl _) (Nat.zero_le _) rfl) (.slice (some ad) n c) n _ rfl HSG.out HK1.out HK2.out (by simp) ?_)
    intro p' c' w1 hown hgrow
    have HO := hide hown
    have HB : Hid (Below W.heap.size W w1) := hide (((Below.refl _ W).alloc (Nat.le_refl _) _).grown hgrow (by simp) (by intro k hk; simp [Value.ownBlock] at hk; omega))
    clear hown hgrow
    go_wp2
    go_ret
    exact ⟨p', c', rfl, HO.out, HB.out⟩

/-- A graph in memory of its own, from the block base on. -/
structure GOwn (W : World) (base : Nat) (p : Option Addr) (cap : Nat) (os : List OV) : Prop where
  own : W.ownsRow base 95 5 (.slice p os.length cap) os.length (os.flatMap OV.cells)
  ins : ∀ x ∈ os, W.ownsRow base 119 2 (.slice x.ip x.o.ins.length x.ic) x.o.ins.length (x.o.ins.flatMap GE.cells)
theorem GOwn.row {W : World} {base cap : Nat} {p : Option Addr} {os : List OV} (h : GOwn W base p cap os) : GRow W p cap os := by
  obtain ⟨h1, h2, _, h4⟩ := own_list (cells := OV.cells) (fun o _ => o.len) rfl h.own
  exact ⟨h1, h2, h4, fun x hx => ERow.of_own rfl (h.ins x hx)⟩
theorem GOwn.below {W W' : World} {base cap : Nat} {p : Option Addr} {os : List OV} (h : GOwn W base p cap os) (hb : Below W.heap.size W W') : GOwn W' base p cap os :=
  ⟨ownsRow_later h.own hb, fun x hx => ownsRow_later (h.ins x hx) hb⟩
/-- What the loop of Clone keeps: the first k operators' inputs are its own. -/
structure CRep (W V : World) (p : Option Addr) (cap k : Nat) (os : List OV) (xs : List OV) (n : Nat) : Prop where
  len : xs.length = n
  same : xs.map OV.o = os.map OV.o
  own : W.ownsRow V.heap.size 95 5 (.slice p n cap) n (xs.flatMap OV.cells)
  ins : ∀ i, i < k → W.ownsRow V.heap.size 119 2 (.slice (xs[i]!).ip (xs[i]!).o.ins.length (xs[i]!).ic) (xs[i]!).o.ins.length ((xs[i]!).o.ins.flatMap GE.cells)
  rest : ∀ i, k ≤ i → i < n → xs[i]! = os[i]!
  bel : Below V.heap.size V W
theorem map_set_o {xs : List OV} {k : Nat} {y : OV} (hk : k < xs.length) (h : y.o = (xs[k]!).o) : (xs.set k y).map OV.o = xs.map OV.o := by
  rw [List.map_set, h, getElem!_pos xs k hk]
  have : (xs[k]).o = (xs.map OV.o)[k]'(by simpa using hk) := by simp
  rw [this, List.set_getElem_self]
theorem set_get {α : Type} [Inhabited α] {xs : List α} {k i : Nat} {y : α} (hi : i < xs.length) : (xs.set k y)[i]! = if k = i then y else xs[i]! := by
  rw [getElem!_pos (xs.set k y) i (by simpa using hi), getElem!_pos xs i hi, List.getElem_set]
theorem rows_apart {W : World} {b1 b2 n1 n2 k1 k2 : Nat} {e1 e2 : TypeId} {v1 v2 : Value} {xs ys : List Value} (h1 : W.ownsRow b1 e1 k1 v1 n1 xs) (h2 : W.ownsRow b2 e2 k2 v2 n2 ys) (hne : e1 ≠ e2) {g : Nat} (hg : v2.ownBlock = some g) : v1.ownBlock ≠ some g := by
  intro h
  obtain ⟨_, c1, q1⟩ := own_block_lt h1 h
  obtain ⟨_, c2, q2⟩ := own_block_lt h2 hg
  rw [q1] at q2
  simp at q2
  exact hne q2.2

set_option maxRecDepth 100000 in
set_option maxHeartbeats 4000000 in
theorem gclone_any {W : World} {parts : Int} {p : Option Addr} {cap n : Nat} {os : List OV} (ho : GRow W p cap os) (hn : os.length = n) (hb : n * 56 ≤ 140737488355328) (hin : ∀ x ∈ os, x.o.ins.length * 16 ≤ 140737488355328) :
    Calls Tryz.prog 105 #[.agg #[.int .i64 parts, .slice p n cap]] W fun e w' => ∃ p' c' xs, e = .returned (.agg #[.int .i64 parts, .slice p' n c']) ∧ xs.map OV.o = os.map OV.o ∧ GOwn w' W.heap.size p' c' xs ∧ Below W.heap.size W w' := by
  have i3 := ho.le
  have i4 := ho.top
  rw [hn] at i3
  obtain ⟨V, hV⟩ : ∃ V, V = (W.alloc (.cells #[.int .i64 parts, .slice p n cap] 24 (0, 0))).alloc (.cells #[.int .i64 0, .slice none 0 0] 24 (0, 0)) := ⟨_, rfl⟩
  have HVB : Hid (Below W.heap.size W V) := by
    rw [hV]
    exact hide ((alloc_below W _).trans ((alloc_below _ _).mono (by simp)))
  have HO := hide (ho.below HVB.out)
  have HIN := hide hin
  clear ho hin
  go_enter Tryz.func105, Tryz.ntmps105
  go_wp2_with fail
  rw [← hV]
  obtain ⟨gB, hgB⟩ : ∃ gB, W.heap.size = gB := ⟨_, rfl⟩
  have hv1 : V.heap[gB]? = some (.cells #[.int .i64 parts, .slice p n cap] 24 (0, 0)) := by
    rw [hV, ← hgB]
    exact below_box (alloc_below _ _) (heap_alloc_new W _)
  have hv2 : V.heap[gB + 1]? = some (.cells #[.int .i64 0, .slice none 0 0] 24 (0, 0)) := by
    have e : gB + 1 = (W.alloc (.cells #[.int .i64 parts, .slice p n cap] 24 (0, 0))).heap.size := by rw [← hgB]; simp
    rw [hV, e]
    exact heap_alloc_new _ _
  have hVs : V.heap.size = gB + 2 := by rw [hV, ← hgB]; simp
  have HSZ := hide hVs
  have z0 : V.cell? ⟨gB, 0, none⟩ = some (.int .i64 parts) := by simp [World.cell?, hv1]
  have HV2 := hide hv2
  have HGB := hide hgB
  try rw [hgB]
  clear hV hv1 hv2 hgB hVs
  refine (opsClone HO.out hn hb).mono ?_
  rintro _ w1 ⟨p', c', rfl, O1, B1⟩
  have HC : Hid (CRep w1 V p' c' 0 os os n) := hide ⟨hn, rfl, O1, fun i hi => absurd hi (Nat.not_lt_zero i), fun _ _ _ => rfl, B1⟩
  clear O1 B1
  go_wp2_with fail
  go_loopw [10] (fun i wr => ∃ (k : Nat) (xs : List OV), k ≤ n ∧ i = .int .i64 (k : Int) ∧ Hid (CRep wr V p' c' k os xs n)) (fun i _ => n - (intOf i).toNat)
  case atStart => exact ⟨0, os, Nat.zero_le _, rfl, HC⟩
  case round =>
    obtain ⟨k, xs, hk, rfl, HC⟩ := hrel
    by_cases hlt : k < n
    · obtain ⟨q1, q2, q3, q4⟩ := own_list (cells := OV.cells) (fun o _ => o.len) HC.out.len HC.out.own
      have hkx : k < xs.length := by rw [HC.out.len]; exact hlt
      obtain ⟨g, o, hp', hc⟩ := q4 k hkx
      subst hp'
      obtain rfl : o = 0 := by
        rcases HC.out.own.2 with ⟨e, _⟩ | ⟨g', cap', cur, e, _⟩
        · simp at e
        · simp at e; exact e.1.2
      have hfz : wr.frozen? ⟨g, k * 5 + 4, none⟩ = false := HC.out.own.frozenAt _
      have hxr := HC.out.rest k (Nat.le_refl _) hlt
      have hxm : os[k]! ∈ os := by rw [getElem!_pos os k (by omega)]; exact List.getElem_mem _
      have HXO := hide ((HO.out.ok _ hxm).below HC.out.bel)
      have hil := HIN.out _ hxm
      rw [hxr] at hc
      have HXK := hide hxr
      obtain ⟨x, hx⟩ : ∃ x, os[k]! = x := ⟨_, rfl⟩
      rw [hx] at hc HXO hil HXK
      obtain ⟨⟨kd, pt, fn, ar, ins⟩, ip, ic⟩ := x
      have d4 : wr.cell? ⟨g, k * 5 + 4, none⟩ = some (.slice ip ins.length ic) := by have h := hc 4 (by omega); rw [Nat.zero_add] at h; exact h
      have hic := HXO.out.le
      have hit := HXO.out.top
      simp only at hic hit hil
      clear hc hx hxm q4 hxr
      obtain ⟨m, hm⟩ : ∃ m, ins.length = m := ⟨_, rfl⟩
      have HM := hide hm
      rw [hm] at d4 hic hil
      clear hm
      go_wp2_with fail
      refine (edgesClone HXO.out HM.out hil).mono ?_
      rintro _ w2 ⟨p2, c2, rfl, O2, B2⟩
      have HC2 : Hid (CRep w2 V (some ⟨g, 0, none⟩) c' k os xs n) := hide ⟨HC.out.len, HC.out.same, ownsRow_later HC.out.own B2, fun i hi => ownsRow_later (HC.out.ins i hi) B2, HC.out.rest, HC.out.bel.trans (B2.mono HC.out.bel.size)⟩
      have f4 := cell_later B2 d4
      have hf2 : w2.frozen? ⟨g, k * 5 + 4, none⟩ = false := HC2.out.own.frozenAt _
      have HSO := hide O2
      have HWS := hide HC.out.bel.size
      clear O2 B2 d4 hfz
      go_wp2
      refine ⟨⟨k + 1, xs.set k ⟨⟨kd, pt, fn, ar, ins⟩, p2, c2⟩, by omega, by first | rfl | go_num, hide ?_⟩, by simp [intOf]; omega⟩
      have C := HC2.out
      have hkx2 : k < xs.length := by rw [C.len]; exact hlt
      have hxk : xs[k]! = ⟨⟨kd, pt, fn, ar, ins⟩, ip, ic⟩ := HXK.out
      obtain ⟨s1, s2⟩ := C.own.stored (k * 5 + 4) (.slice p2 m c2)
      have hone : OV.cells ⟨⟨kd, pt, fn, ar, ins⟩, p2, c2⟩ = (OV.cells (xs[k]!)).set 4 (.slice p2 m c2) := by rw [hxk, ← HM.out]; rfl
      rw [← flat_set (cells := OV.cells) xs (fun o _ => o.len) k 4 _ _ hkx2 (by decide) hone] at s1
      have hapart : ∀ {b n : Nat} {v : Value} {ys : List Value}, w2.ownsRow b 119 2 v n ys → (w2.setCell ⟨g, k * 5 + 4, none⟩ (.slice p2 m c2)).ownsRow b 119 2 v n ys := fun h => h.kept s2 (.inr (rows_apart h C.own (by decide) rfl))
      refine ⟨by rw [List.length_set]; exact C.len, by rw [map_set_o hkx2 (by rw [hxk])]; exact C.same, s1, fun i hi => ?_, fun i hi hin => ?_, ?_⟩
      · rw [set_get (by rw [C.len]; omega)]
        by_cases e : k = i
        · rw [if_pos e]
          have h := hapart HSO.out
          simp only
          rw [HM.out]
          exact ownsRow_base h HWS.out
        · rw [if_neg e]
          exact hapart (C.ins i (by omega))
      · rw [set_get (by rw [C.len]; omega), if_neg (by omega)]
        exact C.rest i (by omega) hin
      · have hgb : V.heap.size ≤ g := (C.own.lt g rfl).1
        exact C.bel.trans ((Below.refl _ _).setCell (by simpa using Nat.le_trans hgb (Nat.le_refl _)) _)
    · obtain rfl : k = n := by omega
      have y0 := cell_later HC.out.bel z0
      have hob : wr.heap[gB + 1]? = some (.cells #[.int .i64 0, .slice none 0 0] 24 (0, 0)) := below_box HC.out.bel HV2.out
      obtain ⟨w5, hw5⟩ : ∃ w5, w5 = wr.setCell ⟨gB + 1, 0, none⟩ (.int .i64 parts) := ⟨_, rfl⟩
      have hob5 : w5.heap[gB + 1]? = some (.cells #[.int .i64 parts, .slice none 0 0] 24 (0, 0)) := by rw [hw5]; exact heap_setCell_same wr (gB + 1) 0 _ _ _ hob
      have hob6 : (w5.setCell ⟨gB + 1, 1, none⟩ (.slice p' k c')).heap[gB + 1]? = some (.cells #[.int .i64 parts, .slice p' k c'] 24 (0, 0)) := heap_setCell_same w5 (gB + 1) 1 _ _ _ hob5
      have hgl : W.heap.size ≤ gB + 1 := by have := HGB.out; omega
      have HFB : Hid (Below W.heap.size W (w5.setCell ⟨gB + 1, 1, none⟩ (.slice p' k c'))) := by
        rw [hw5]
        exact hide (((HVB.out.trans (HC.out.bel.mono HVB.out.size)).setCell (p := ⟨gB + 1, 0, none⟩) hgl _).setCell (p := ⟨gB + 1, 1, none⟩) hgl _)
      have hoo : Only (· = gB + 1) wr (w5.setCell ⟨gB + 1, 1, none⟩ (.slice p' k c')) := by rw [hw5]; exact (Only.set (F := (· = gB + 1)) wr (gB + 1) 0 _ rfl).trans (Only.set (F := (· = gB + 1)) _ (gB + 1) 1 _ rfl)
      have hkeep : ∀ {b e s n : Nat} {v : Value} {ys : List Value}, wr.ownsRow b e s v n ys → V.heap.size ≤ b → (w5.setCell ⟨gB + 1, 1, none⟩ (.slice p' k c')).ownsRow b e s v n ys := fun h hb => ownsRow_only h hoo (fun g hg e => by have e' : g = gB + 1 := e; have := own_block_base h hg; have := HSZ.out; omega)
      have HG : Hid (GOwn (w5.setCell ⟨gB + 1, 1, none⟩ (.slice p' k c')) W.heap.size p' c' xs) := by
        have hle := HVB.out.size
        refine hide ⟨?_, fun x hx => ?_⟩
        · have h := hkeep HC.out.own (Nat.le_refl _)
          rw [HC.out.len]
          exact ownsRow_base h hle
        · obtain ⟨i, hi, rfl⟩ := List.getElem_of_mem hx
          have h := HC.out.ins i (by rw [← HC.out.len]; exact hi)
          rw [getElem!_pos xs i hi] at h
          exact ownsRow_base (hkeep h (Nat.le_refl _)) hle
      have HSM := hide HC.out.same
      have e0 : wr.cell? ⟨gB + 1, 0, none⟩ = some (.int .i64 0) := by simp [World.cell?, hob]
      have e1 : wr.frozen? ⟨gB + 1, 0, none⟩ = false := by simp [World.frozen?, hob]
      have e2 : w5.cell? ⟨gB + 1, 1, none⟩ = some (.slice none 0 0) := by simp [World.cell?, hob5]
      have e3 : w5.frozen? ⟨gB + 1, 1, none⟩ = false := by simp [World.frozen?, hob5]
      rw [hw5] at e2 e3
      have HW5 := hide hw5
      have H6 := hide hob6
      clear hob hob5 hob6 hoo hkeep hw5 HC hgl
      go_wp2
      rw [← HW5.out]
      refine bodyPost_ret (results_cell_row rfl _ _ (gB + 1) 24 _ _ _ rfl H6.out Tryz.underlying24 rfl (by kernel_rfl)) rfl ?_
      exact ⟨p', c', xs, rfl, HSM.out, HG.out, HFB.out⟩
end Go.Proofs.YtlfipmieaabagaaGreat
