/-
  pass of the program: what an operator that keeps nothing lets out. The conditions: lengths, and that numbers are of their types.
-/
import Derived.Test.YtcabfohmimglpaaOpt
namespace Go.Proofs.Ytcabfohmimglpaa
open Go.RowKit

def passKinds (kd : Int) : Bool := kd == 1 || kd == 2 || kd == 3 || kd == 4 || kd == 8
def passC (kd fn ar ky vl : Int) : List PU := if passKinds kd = true then (if holdsC kd fn ar vl = true then [⟨0, (valueC kd fn ar ky vl).1, (valueC kd fn ar ky vl).2⟩] else []) else if kd = 7 then [⟨restC ky ar, ky, vl⟩] else []

set_option maxRecDepth 100000 in
set_option maxHeartbeats 8000000 in
theorem pass_any {W : World} {base m c : Nat} {p : Option Addr} {xs : List PU} {kd pt fn ar ky vl : Int} {ip : Option Addr} {n ic : Nat} (hk : I6 ky) (hv : I6 vl) (ha : I6 ar) (ho : W.ownsRow base 41 3 (.slice p m c) m (xs.flatMap PU.cells)) (hbs : base ≤ W.heap.size) (hm : (m + 1) * 24 ≤ 140737488355328) :
    Calls Try.prog 9 #[.slice p m c, .agg #[.int .i64 kd, .int .i64 pt, .int .i64 fn, .int .i64 ar, .slice ip n ic], .agg #[.int .i64 ky, .int .i64 vl]] W fun e w' => ∃ p' c', e = .returned (.slice p' (m + (passC kd fn ar ky vl).length) c') ∧ w'.ownsRow base 41 3 (.slice p' (m + (passC kd fn ar ky vl).length) c') (m + (passC kd fn ar ky vl).length) ((xs ++ passC kd fn ar ky vl).flatMap PU.cells) ∧ Only (fun i => (Value.slice p m c).ownBlock = some i) W w' := by
  obtain ⟨i0, hI0, hz0, hz1, hz2⟩ := info_parts Try.infoPut
  have ab1 := alloc_below W (.cells #[.int .i64 kd, .int .i64 pt, .int .i64 fn, .int .i64 ar, .slice ip n ic] 24 (0, 0))
  have ab2 := alloc_below (W.alloc (.cells #[.int .i64 kd, .int .i64 pt, .int .i64 fn, .int .i64 ar, .slice ip n ic] 24 (0, 0))) (.cells #[.int .i64 ky, .int .i64 vl] 39 (0, 0))
  obtain ⟨V, hV⟩ : ∃ V, V = (W.alloc (.cells #[.int .i64 kd, .int .i64 pt, .int .i64 fn, .int .i64 ar, .slice ip n ic] 24 (0, 0))).alloc (.cells #[.int .i64 ky, .int .i64 vl] 39 (0, 0)) := ⟨_, rfl⟩
  have hbV : Below W.heap.size W V := by rw [hV]; exact ab1.trans (ab2.mono ab1.size)
  have u0 : V.heap[W.heap.size]? = some (.cells #[.int .i64 kd, .int .i64 pt, .int .i64 fn, .int .i64 ar, .slice ip n ic] 24 (0, 0)) := by rw [hV]; exact below_box ab2 (heap_alloc_new W _)
  have u1 : V.heap[W.heap.size + 1]? = some (.cells #[.int .i64 ky, .int .i64 vl] 39 (0, 0)) := by
    have e : W.heap.size + 1 = (W.alloc (.cells #[.int .i64 kd, .int .i64 pt, .int .i64 fn, .int .i64 ar, .slice ip n ic] 24 (0, 0))).heap.size := by simp
    rw [hV, e]
    exact heap_alloc_new _ _
  have HVB := hide hbV
  have HO := hide (ownsRow_later ho hbV)
  have HOW0 := hide ho
  obtain ⟨sB, hsB⟩ : ∃ sB, W.heap.size = sB := ⟨_, rfl⟩
  rw [hsB] at u0 u1
  have HBS : Hid (base ≤ V.heap.size) := hide (Nat.le_trans hbs hbV.size)
  have HK1 : Hid (m + 1 ≤ maxLen) := by show _ ≤ _; unfold maxLen; omega
  have HK2 : Hid ((m + 1) * 24 ≤ 140737488355328) := hide hm
  have z0 : V.cell? ⟨sB, 0, none⟩ = some (.int .i64 kd) := by simp [World.cell?, u0]
  have z1 : V.cell? ⟨sB, 1, none⟩ = some (.int .i64 pt) := by simp [World.cell?, u0]
  have z2 : V.cell? ⟨sB, 2, none⟩ = some (.int .i64 fn) := by simp [World.cell?, u0]
  have z3 : V.cell? ⟨sB, 3, none⟩ = some (.int .i64 ar) := by simp [World.cell?, u0]
  have z4 : V.cell? ⟨sB, 4, none⟩ = some (.slice ip n ic) := by simp [World.cell?, u0]
  have r0 : V.cell? ⟨sB + 1, 0, none⟩ = some (.int .i64 ky) := by simp [World.cell?, u1]
  have r1 : V.cell? ⟨sB + 1, 1, none⟩ = some (.int .i64 vl) := by simp [World.cell?, u1]
  clear ab1 ab2 hbV ho u0 u1 hm
  by_cases h1 : kd = 1
  · subst h1
    obtain ⟨hb, hhb⟩ : ∃ hb, holdsC 1 fn ar vl = hb := ⟨_, rfl⟩
    obtain ⟨k', v', hkv⟩ : ∃ a b, valueC 1 fn ar ky vl = (a, b) := ⟨_, _, rfl⟩
    have HH := hide (holds_any (W := V) (kd := 1) (pt := pt) (fn := fn) (ar := ar) (ky := ky) (vl := vl) (ip := ip) (n := n) (ic := ic) hhb)
    have HV := hide (fun (w : World) => value_any (W := w) (kd := 1) (pt := pt) (fn := fn) (ar := ar) (ip := ip) (n := n) (ic := ic) hk hv ha hkv)
    cases hb with
    | false =>
      have hp : passC 1 fn ar ky vl = [] := by unfold passC; rw [if_pos (by decide), hhb]; rfl
      rw [hp, List.append_nil]
      clear hp hhb hkv hk hv ha
      go_enter Try.func9, Try.ntmps9
      go_upto_region 1 with fail
      rw [← hV]
      try rw [hsB]
      clear hV hsB
      go_wp2_with fail
      refine HH.out.mono ?_
      rintro _ w1 ⟨rfl, b1⟩
      have HO1 := hide (ownsRow_later HO.out b1)
      have HB1 := hide (HVB.out.trans (b1.mono HVB.out.size))
      clear b1 HH
      go_wp2
      go_ret
      exact ⟨p, c, rfl, HO1.out, Only.fresh HB1.out _⟩
    | true =>
      have hp : passC 1 fn ar ky vl = [⟨0, k', v'⟩] := by unfold passC; rw [if_pos (by decide), hhb, hkv]; rfl
      rw [hp]
      clear hp hhb hkv hk hv ha
      go_enter Try.func9, Try.ntmps9
      go_upto_region 1 with fail
      rw [← hV]
      try rw [hsB]
      clear hV hsB
      go_wp2_with fail
      refine HH.out.mono ?_
      rintro _ w1 ⟨rfl, b1⟩
      have HO1 := hide (ownsRow_later HO.out b1)
      have HB1 := hide (HVB.out.trans (b1.mono HVB.out.size))
      have HBS1 : Hid (base ≤ w1.heap.size) := hide (Nat.le_trans HBS.out b1.size)
      have y0 := cell_later b1 z0
      have y1 := cell_later b1 z1
      have y2 := cell_later b1 z2
      have y3 := cell_later b1 z3
      have y4 := cell_later b1 z4
      have y5 := cell_later b1 r0
      have y6 := cell_later b1 r1
      clear b1 HH z0 z1 z2 z3 z4 r0 r1
      go_wp2_with fail
      refine (HV.out w1).mono ?_
      rintro _ w2 ⟨rfl, b2⟩
      have HB2 := hide (HB1.out.trans (b2.mono HB1.out.size))
      have ab := alloc_below w2 (.cells #[.int .i64 0, .int .i64 k', .int .i64 v'] 41 (0, 0))
      have HRW := hide (ownsRow_later (ownsRow_later HO1.out b2) ab)
      have HSG : Hid (Seg (w2.alloc (.cells #[.int .i64 0, .int .i64 k', .int .i64 v'] 41 (0, 0))) 3 (.slice (some ⟨w2.heap.size, 0, none⟩) 1 1) 1 [.int .i64 0, .int .i64 k', .int .i64 v']) := hide (Seg.news (heap_alloc_new w2 _) (by simp [Value.oneCell']) rfl (Nat.le_refl _) (by decide))
      have HBB : Hid (base ≤ (w2.alloc (.cells #[.int .i64 0, .int .i64 k', .int .i64 v'] 41 (0, 0))).heap.size) := hide (Nat.le_trans HBS1.out (Nat.le_trans b2.size ab.size))
      clear b2 ab HV y0 y1 y2 y3 y4 y5 y6
      go_wp2_with (at_builtin; refine append_cells _ rfl (.tmp 18) (.tmp 23) 30 rfl base 41 i0 (.agg #[.int .i64 0, .int .i64 0, .int .i64 0]) 3 24 Try.underlying30 hI0 hz0 hz1 hz2 rfl (by decide) (.slice p m c) m _ rfl HRW.out (.slice (some ⟨w2.heap.size, 0, none⟩) 1 1) 1 _ rfl HSG.out HK1.out HK2.out HBB.out ?_)
      intro p6 c6 w6 o6 g6
      have HN : Hid (Only (fun i => (Value.slice p m c).ownBlock = some i) W w6) := hide (((Only.fresh HB2.out _).trans (Only.alloc _ _ _)).trans (Only.of_grown g6 (fun k e => e)))
      have HO6 : Hid (w6.ownsRow base 41 3 (.slice p6 (m + 1) c6) (m + 1) ((xs ++ [(⟨0, k', v'⟩ : PU)]).flatMap PU.cells)) := by
        refine hide ?_
        rw [List.flatMap_append]
        exact o6
      clear o6 g6
      go_wp2
      go_ret
      exact ⟨p6, c6, rfl, HO6.out, HN.out⟩
  have e1 := ne_eq h1
  by_cases h2 : kd = 2
  · subst h2
    obtain ⟨hb, hhb⟩ : ∃ hb, holdsC 2 fn ar vl = hb := ⟨_, rfl⟩
    obtain ⟨k', v', hkv⟩ : ∃ a b, valueC 2 fn ar ky vl = (a, b) := ⟨_, _, rfl⟩
    have HH := hide (holds_any (W := V) (kd := 2) (pt := pt) (fn := fn) (ar := ar) (ky := ky) (vl := vl) (ip := ip) (n := n) (ic := ic) hhb)
    have HV := hide (fun (w : World) => value_any (W := w) (kd := 2) (pt := pt) (fn := fn) (ar := ar) (ip := ip) (n := n) (ic := ic) hk hv ha hkv)
    cases hb with
    | false =>
      have hp : passC 2 fn ar ky vl = [] := by unfold passC; rw [if_pos (by decide), hhb]; rfl
      rw [hp, List.append_nil]
      clear hp hhb hkv hk hv ha
      go_enter Try.func9, Try.ntmps9
      go_upto_region 1 with fail
      rw [← hV]
      try rw [hsB]
      clear hV hsB
      go_wp2_with fail
      refine HH.out.mono ?_
      rintro _ w1 ⟨rfl, b1⟩
      have HO1 := hide (ownsRow_later HO.out b1)
      have HB1 := hide (HVB.out.trans (b1.mono HVB.out.size))
      clear b1 HH
      go_wp2
      go_ret
      exact ⟨p, c, rfl, HO1.out, Only.fresh HB1.out _⟩
    | true =>
      have hp : passC 2 fn ar ky vl = [⟨0, k', v'⟩] := by unfold passC; rw [if_pos (by decide), hhb, hkv]; rfl
      rw [hp]
      clear hp hhb hkv hk hv ha
      go_enter Try.func9, Try.ntmps9
      go_upto_region 1 with fail
      rw [← hV]
      try rw [hsB]
      clear hV hsB
      go_wp2_with fail
      refine HH.out.mono ?_
      rintro _ w1 ⟨rfl, b1⟩
      have HO1 := hide (ownsRow_later HO.out b1)
      have HB1 := hide (HVB.out.trans (b1.mono HVB.out.size))
      have HBS1 : Hid (base ≤ w1.heap.size) := hide (Nat.le_trans HBS.out b1.size)
      have y0 := cell_later b1 z0
      have y1 := cell_later b1 z1
      have y2 := cell_later b1 z2
      have y3 := cell_later b1 z3
      have y4 := cell_later b1 z4
      have y5 := cell_later b1 r0
      have y6 := cell_later b1 r1
      clear b1 HH z0 z1 z2 z3 z4 r0 r1
      go_wp2_with fail
      refine (HV.out w1).mono ?_
      rintro _ w2 ⟨rfl, b2⟩
      have HB2 := hide (HB1.out.trans (b2.mono HB1.out.size))
      have ab := alloc_below w2 (.cells #[.int .i64 0, .int .i64 k', .int .i64 v'] 41 (0, 0))
      have HRW := hide (ownsRow_later (ownsRow_later HO1.out b2) ab)
      have HSG : Hid (Seg (w2.alloc (.cells #[.int .i64 0, .int .i64 k', .int .i64 v'] 41 (0, 0))) 3 (.slice (some ⟨w2.heap.size, 0, none⟩) 1 1) 1 [.int .i64 0, .int .i64 k', .int .i64 v']) := hide (Seg.news (heap_alloc_new w2 _) (by simp [Value.oneCell']) rfl (Nat.le_refl _) (by decide))
      have HBB : Hid (base ≤ (w2.alloc (.cells #[.int .i64 0, .int .i64 k', .int .i64 v'] 41 (0, 0))).heap.size) := hide (Nat.le_trans HBS1.out (Nat.le_trans b2.size ab.size))
      clear b2 ab HV y0 y1 y2 y3 y4 y5 y6
      go_wp2_with (at_builtin; refine append_cells _ rfl (.tmp 18) (.tmp 23) 30 rfl base 41 i0 (.agg #[.int .i64 0, .int .i64 0, .int .i64 0]) 3 24 Try.underlying30 hI0 hz0 hz1 hz2 rfl (by decide) (.slice p m c) m _ rfl HRW.out (.slice (some ⟨w2.heap.size, 0, none⟩) 1 1) 1 _ rfl HSG.out HK1.out HK2.out HBB.out ?_)
      intro p6 c6 w6 o6 g6
      have HN : Hid (Only (fun i => (Value.slice p m c).ownBlock = some i) W w6) := hide (((Only.fresh HB2.out _).trans (Only.alloc _ _ _)).trans (Only.of_grown g6 (fun k e => e)))
      have HO6 : Hid (w6.ownsRow base 41 3 (.slice p6 (m + 1) c6) (m + 1) ((xs ++ [(⟨0, k', v'⟩ : PU)]).flatMap PU.cells)) := by
        refine hide ?_
        rw [List.flatMap_append]
        exact o6
      clear o6 g6
      go_wp2
      go_ret
      exact ⟨p6, c6, rfl, HO6.out, HN.out⟩
  have e2 := ne_eq h2
  by_cases h3 : kd = 3
  · subst h3
    obtain ⟨hb, hhb⟩ : ∃ hb, holdsC 3 fn ar vl = hb := ⟨_, rfl⟩
    obtain ⟨k', v', hkv⟩ : ∃ a b, valueC 3 fn ar ky vl = (a, b) := ⟨_, _, rfl⟩
    have HH := hide (holds_any (W := V) (kd := 3) (pt := pt) (fn := fn) (ar := ar) (ky := ky) (vl := vl) (ip := ip) (n := n) (ic := ic) hhb)
    have HV := hide (fun (w : World) => value_any (W := w) (kd := 3) (pt := pt) (fn := fn) (ar := ar) (ip := ip) (n := n) (ic := ic) hk hv ha hkv)
    cases hb with
    | false =>
      have hp : passC 3 fn ar ky vl = [] := by unfold passC; rw [if_pos (by decide), hhb]; rfl
      rw [hp, List.append_nil]
      clear hp hhb hkv hk hv ha
      go_enter Try.func9, Try.ntmps9
      go_upto_region 1 with fail
      rw [← hV]
      try rw [hsB]
      clear hV hsB
      go_wp2_with fail
      refine HH.out.mono ?_
      rintro _ w1 ⟨rfl, b1⟩
      have HO1 := hide (ownsRow_later HO.out b1)
      have HB1 := hide (HVB.out.trans (b1.mono HVB.out.size))
      clear b1 HH
      go_wp2
      go_ret
      exact ⟨p, c, rfl, HO1.out, Only.fresh HB1.out _⟩
    | true =>
      have hp : passC 3 fn ar ky vl = [⟨0, k', v'⟩] := by unfold passC; rw [if_pos (by decide), hhb, hkv]; rfl
      rw [hp]
      clear hp hhb hkv hk hv ha
      go_enter Try.func9, Try.ntmps9
      go_upto_region 1 with fail
      rw [← hV]
      try rw [hsB]
      clear hV hsB
      go_wp2_with fail
      refine HH.out.mono ?_
      rintro _ w1 ⟨rfl, b1⟩
      have HO1 := hide (ownsRow_later HO.out b1)
      have HB1 := hide (HVB.out.trans (b1.mono HVB.out.size))
      have HBS1 : Hid (base ≤ w1.heap.size) := hide (Nat.le_trans HBS.out b1.size)
      have y0 := cell_later b1 z0
      have y1 := cell_later b1 z1
      have y2 := cell_later b1 z2
      have y3 := cell_later b1 z3
      have y4 := cell_later b1 z4
      have y5 := cell_later b1 r0
      have y6 := cell_later b1 r1
      clear b1 HH z0 z1 z2 z3 z4 r0 r1
      go_wp2_with fail
      refine (HV.out w1).mono ?_
      rintro _ w2 ⟨rfl, b2⟩
      have HB2 := hide (HB1.out.trans (b2.mono HB1.out.size))
      have ab := alloc_below w2 (.cells #[.int .i64 0, .int .i64 k', .int .i64 v'] 41 (0, 0))
      have HRW := hide (ownsRow_later (ownsRow_later HO1.out b2) ab)
      have HSG : Hid (Seg (w2.alloc (.cells #[.int .i64 0, .int .i64 k', .int .i64 v'] 41 (0, 0))) 3 (.slice (some ⟨w2.heap.size, 0, none⟩) 1 1) 1 [.int .i64 0, .int .i64 k', .int .i64 v']) := hide (Seg.news (heap_alloc_new w2 _) (by simp [Value.oneCell']) rfl (Nat.le_refl _) (by decide))
      have HBB : Hid (base ≤ (w2.alloc (.cells #[.int .i64 0, .int .i64 k', .int .i64 v'] 41 (0, 0))).heap.size) := hide (Nat.le_trans HBS1.out (Nat.le_trans b2.size ab.size))
      clear b2 ab HV y0 y1 y2 y3 y4 y5 y6
      go_wp2_with (at_builtin; refine append_cells _ rfl (.tmp 18) (.tmp 23) 30 rfl base 41 i0 (.agg #[.int .i64 0, .int .i64 0, .int .i64 0]) 3 24 Try.underlying30 hI0 hz0 hz1 hz2 rfl (by decide) (.slice p m c) m _ rfl HRW.out (.slice (some ⟨w2.heap.size, 0, none⟩) 1 1) 1 _ rfl HSG.out HK1.out HK2.out HBB.out ?_)
      intro p6 c6 w6 o6 g6
      have HN : Hid (Only (fun i => (Value.slice p m c).ownBlock = some i) W w6) := hide (((Only.fresh HB2.out _).trans (Only.alloc _ _ _)).trans (Only.of_grown g6 (fun k e => e)))
      have HO6 : Hid (w6.ownsRow base 41 3 (.slice p6 (m + 1) c6) (m + 1) ((xs ++ [(⟨0, k', v'⟩ : PU)]).flatMap PU.cells)) := by
        refine hide ?_
        rw [List.flatMap_append]
        exact o6
      clear o6 g6
      go_wp2
      go_ret
      exact ⟨p6, c6, rfl, HO6.out, HN.out⟩
  have e3 := ne_eq h3
  by_cases h4 : kd = 4
  · subst h4
    obtain ⟨hb, hhb⟩ : ∃ hb, holdsC 4 fn ar vl = hb := ⟨_, rfl⟩
    obtain ⟨k', v', hkv⟩ : ∃ a b, valueC 4 fn ar ky vl = (a, b) := ⟨_, _, rfl⟩
    have HH := hide (holds_any (W := V) (kd := 4) (pt := pt) (fn := fn) (ar := ar) (ky := ky) (vl := vl) (ip := ip) (n := n) (ic := ic) hhb)
    have HV := hide (fun (w : World) => value_any (W := w) (kd := 4) (pt := pt) (fn := fn) (ar := ar) (ip := ip) (n := n) (ic := ic) hk hv ha hkv)
    cases hb with
    | false =>
      have hp : passC 4 fn ar ky vl = [] := by unfold passC; rw [if_pos (by decide), hhb]; rfl
      rw [hp, List.append_nil]
      clear hp hhb hkv hk hv ha
      go_enter Try.func9, Try.ntmps9
      go_upto_region 1 with fail
      rw [← hV]
      try rw [hsB]
      clear hV hsB
      go_wp2_with fail
      refine HH.out.mono ?_
      rintro _ w1 ⟨rfl, b1⟩
      have HO1 := hide (ownsRow_later HO.out b1)
      have HB1 := hide (HVB.out.trans (b1.mono HVB.out.size))
      clear b1 HH
      go_wp2
      go_ret
      exact ⟨p, c, rfl, HO1.out, Only.fresh HB1.out _⟩
    | true =>
      have hp : passC 4 fn ar ky vl = [⟨0, k', v'⟩] := by unfold passC; rw [if_pos (by decide), hhb, hkv]; rfl
      rw [hp]
      clear hp hhb hkv hk hv ha
      go_enter Try.func9, Try.ntmps9
      go_upto_region 1 with fail
      rw [← hV]
      try rw [hsB]
      clear hV hsB
      go_wp2_with fail
      refine HH.out.mono ?_
      rintro _ w1 ⟨rfl, b1⟩
      have HO1 := hide (ownsRow_later HO.out b1)
      have HB1 := hide (HVB.out.trans (b1.mono HVB.out.size))
      have HBS1 : Hid (base ≤ w1.heap.size) := hide (Nat.le_trans HBS.out b1.size)
      have y0 := cell_later b1 z0
      have y1 := cell_later b1 z1
      have y2 := cell_later b1 z2
      have y3 := cell_later b1 z3
      have y4 := cell_later b1 z4
      have y5 := cell_later b1 r0
      have y6 := cell_later b1 r1
      clear b1 HH z0 z1 z2 z3 z4 r0 r1
      go_wp2_with fail
      refine (HV.out w1).mono ?_
      rintro _ w2 ⟨rfl, b2⟩
      have HB2 := hide (HB1.out.trans (b2.mono HB1.out.size))
      have ab := alloc_below w2 (.cells #[.int .i64 0, .int .i64 k', .int .i64 v'] 41 (0, 0))
      have HRW := hide (ownsRow_later (ownsRow_later HO1.out b2) ab)
      have HSG : Hid (Seg (w2.alloc (.cells #[.int .i64 0, .int .i64 k', .int .i64 v'] 41 (0, 0))) 3 (.slice (some ⟨w2.heap.size, 0, none⟩) 1 1) 1 [.int .i64 0, .int .i64 k', .int .i64 v']) := hide (Seg.news (heap_alloc_new w2 _) (by simp [Value.oneCell']) rfl (Nat.le_refl _) (by decide))
      have HBB : Hid (base ≤ (w2.alloc (.cells #[.int .i64 0, .int .i64 k', .int .i64 v'] 41 (0, 0))).heap.size) := hide (Nat.le_trans HBS1.out (Nat.le_trans b2.size ab.size))
      clear b2 ab HV y0 y1 y2 y3 y4 y5 y6
      go_wp2_with (at_builtin; refine append_cells _ rfl (.tmp 18) (.tmp 23) 30 rfl base 41 i0 (.agg #[.int .i64 0, .int .i64 0, .int .i64 0]) 3 24 Try.underlying30 hI0 hz0 hz1 hz2 rfl (by decide) (.slice p m c) m _ rfl HRW.out (.slice (some ⟨w2.heap.size, 0, none⟩) 1 1) 1 _ rfl HSG.out HK1.out HK2.out HBB.out ?_)
      intro p6 c6 w6 o6 g6
      have HN : Hid (Only (fun i => (Value.slice p m c).ownBlock = some i) W w6) := hide (((Only.fresh HB2.out _).trans (Only.alloc _ _ _)).trans (Only.of_grown g6 (fun k e => e)))
      have HO6 : Hid (w6.ownsRow base 41 3 (.slice p6 (m + 1) c6) (m + 1) ((xs ++ [(⟨0, k', v'⟩ : PU)]).flatMap PU.cells)) := by
        refine hide ?_
        rw [List.flatMap_append]
        exact o6
      clear o6 g6
      go_wp2
      go_ret
      exact ⟨p6, c6, rfl, HO6.out, HN.out⟩
  have e4 := ne_eq h4
  by_cases h8 : kd = 8
  · subst h8
    obtain ⟨hb, hhb⟩ : ∃ hb, holdsC 8 fn ar vl = hb := ⟨_, rfl⟩
    obtain ⟨k', v', hkv⟩ : ∃ a b, valueC 8 fn ar ky vl = (a, b) := ⟨_, _, rfl⟩
    have HH := hide (holds_any (W := V) (kd := 8) (pt := pt) (fn := fn) (ar := ar) (ky := ky) (vl := vl) (ip := ip) (n := n) (ic := ic) hhb)
    have HV := hide (fun (w : World) => value_any (W := w) (kd := 8) (pt := pt) (fn := fn) (ar := ar) (ip := ip) (n := n) (ic := ic) hk hv ha hkv)
    cases hb with
    | false =>
      have hp : passC 8 fn ar ky vl = [] := by unfold passC; rw [if_pos (by decide), hhb]; rfl
      rw [hp, List.append_nil]
      clear hp hhb hkv hk hv ha
      go_enter Try.func9, Try.ntmps9
      go_upto_region 1 with fail
      rw [← hV]
      try rw [hsB]
      clear hV hsB
      go_wp2_with fail
      refine HH.out.mono ?_
      rintro _ w1 ⟨rfl, b1⟩
      have HO1 := hide (ownsRow_later HO.out b1)
      have HB1 := hide (HVB.out.trans (b1.mono HVB.out.size))
      clear b1 HH
      go_wp2
      go_ret
      exact ⟨p, c, rfl, HO1.out, Only.fresh HB1.out _⟩
    | true =>
      have hp : passC 8 fn ar ky vl = [⟨0, k', v'⟩] := by unfold passC; rw [if_pos (by decide), hhb, hkv]; rfl
      rw [hp]
      clear hp hhb hkv hk hv ha
      go_enter Try.func9, Try.ntmps9
      go_upto_region 1 with fail
      rw [← hV]
      try rw [hsB]
      clear hV hsB
      go_wp2_with fail
      refine HH.out.mono ?_
      rintro _ w1 ⟨rfl, b1⟩
      have HO1 := hide (ownsRow_later HO.out b1)
      have HB1 := hide (HVB.out.trans (b1.mono HVB.out.size))
      have HBS1 : Hid (base ≤ w1.heap.size) := hide (Nat.le_trans HBS.out b1.size)
      have y0 := cell_later b1 z0
      have y1 := cell_later b1 z1
      have y2 := cell_later b1 z2
      have y3 := cell_later b1 z3
      have y4 := cell_later b1 z4
      have y5 := cell_later b1 r0
      have y6 := cell_later b1 r1
      clear b1 HH z0 z1 z2 z3 z4 r0 r1
      go_wp2_with fail
      refine (HV.out w1).mono ?_
      rintro _ w2 ⟨rfl, b2⟩
      have HB2 := hide (HB1.out.trans (b2.mono HB1.out.size))
      have ab := alloc_below w2 (.cells #[.int .i64 0, .int .i64 k', .int .i64 v'] 41 (0, 0))
      have HRW := hide (ownsRow_later (ownsRow_later HO1.out b2) ab)
      have HSG : Hid (Seg (w2.alloc (.cells #[.int .i64 0, .int .i64 k', .int .i64 v'] 41 (0, 0))) 3 (.slice (some ⟨w2.heap.size, 0, none⟩) 1 1) 1 [.int .i64 0, .int .i64 k', .int .i64 v']) := hide (Seg.news (heap_alloc_new w2 _) (by simp [Value.oneCell']) rfl (Nat.le_refl _) (by decide))
      have HBB : Hid (base ≤ (w2.alloc (.cells #[.int .i64 0, .int .i64 k', .int .i64 v'] 41 (0, 0))).heap.size) := hide (Nat.le_trans HBS1.out (Nat.le_trans b2.size ab.size))
      clear b2 ab HV y0 y1 y2 y3 y4 y5 y6
      go_wp2_with (at_builtin; refine append_cells _ rfl (.tmp 18) (.tmp 23) 30 rfl base 41 i0 (.agg #[.int .i64 0, .int .i64 0, .int .i64 0]) 3 24 Try.underlying30 hI0 hz0 hz1 hz2 rfl (by decide) (.slice p m c) m _ rfl HRW.out (.slice (some ⟨w2.heap.size, 0, none⟩) 1 1) 1 _ rfl HSG.out HK1.out HK2.out HBB.out ?_)
      intro p6 c6 w6 o6 g6
      have HN : Hid (Only (fun i => (Value.slice p m c).ownBlock = some i) W w6) := hide (((Only.fresh HB2.out _).trans (Only.alloc _ _ _)).trans (Only.of_grown g6 (fun k e => e)))
      have HO6 : Hid (w6.ownsRow base 41 3 (.slice p6 (m + 1) c6) (m + 1) ((xs ++ [(⟨0, k', v'⟩ : PU)]).flatMap PU.cells)) := by
        refine hide ?_
        rw [List.flatMap_append]
        exact o6
      clear o6 g6
      go_wp2
      go_ret
      exact ⟨p6, c6, rfl, HO6.out, HN.out⟩
  have e8 := ne_eq h8
  have hpk : passKinds kd = false := by unfold passKinds; rw [e1, e2, e3, e4, e8]; rfl
  by_cases h7 : kd = 7
  · subst h7
    obtain ⟨rr, hrr⟩ : ∃ rr, restC ky ar = rr := ⟨_, rfl⟩
    have hp : passC 7 fn ar ky vl = [⟨rr, ky, vl⟩] := by unfold passC; rw [hpk, if_neg (by simp), if_pos rfl, hrr]
    rw [hp]
    have HRR := hide (rest_any (W := V.drew) hk ha)
    rw [hrr] at HRR
    have ab : Below V.heap.size V (V.alloc (.cells #[.int .i64 rr, .int .i64 ky, .int .i64 vl] 41 (0, 0))).drew := (alloc_below V (.cells #[.int .i64 rr, .int .i64 ky, .int .i64 vl] 41 (0, 0))).drew
    have HRW := hide (ownsRow_later HO.out ab)
    have HSG : Hid (Seg (V.alloc (.cells #[.int .i64 rr, .int .i64 ky, .int .i64 vl] 41 (0, 0))).drew 3 (.slice (some ⟨V.heap.size, 0, none⟩) 1 1) 1 [.int .i64 rr, .int .i64 ky, .int .i64 vl]) := hide (Seg.news (heap_alloc_new V (.cells #[.int .i64 rr, .int .i64 ky, .int .i64 vl] 41 (0, 0))) (by simp [Value.oneCell']) rfl (Nat.le_refl _) (by decide))
    have HBB : Hid (base ≤ (V.alloc (.cells #[.int .i64 rr, .int .i64 ky, .int .i64 vl] 41 (0, 0))).drew.heap.size) := hide (Nat.le_trans HBS.out ab.size)
    have hlt : ∀ i, (Value.slice p m c).ownBlock = some i → i < sB := fun i hi => by rw [← hsB]; exact (own_block_lt HOW0.out hi).1
    have HLT := hide hlt
    have n0 := World.new_ne V _ z3
    have n1 := World.new_ne V _ r0
    have n2 := World.new_ne V _ r1
    have y0 := cell_later ab z3
    have y1 := cell_later ab r0
    have y2 := cell_later ab r1
    have HAB := hide ab
    clear hp hpk hrr hk hv ha hlt ab
    go_enter Try.func9, Try.ntmps9
    go_upto_region 1 with fail
    rw [← hV]
    try rw [hsB]
    clear hV hsB
    go_upto_region 10 with fail
    go_region_held3 (fun w' => w'.cell? ⟨sB, 3, none⟩ = some (.int .i64 ar) ∧ w'.cell? ⟨sB + 1, 0, none⟩ = some (.int .i64 ky) ∧ w'.cell? ⟨sB + 1, 1, none⟩ = some (.int .i64 vl)) (go_keep)
      (first
        | (go_at_call 21; refine HRR.out.mono ?_; rintro _ _ ⟨rfl, rfl⟩)
        | (refine step_append_cells rfl (.tmp 27) (.tmp 35) 30 rfl base 41 i0 (.agg #[.int .i64 0, .int .i64 0, .int .i64 0]) 3 24 Try.underlying30 hI0 hz0 hz1 hz2 rfl (by decide) (.slice p m c) m _ rfl HRW.out (.slice (some ⟨V.heap.size, 0, none⟩) 1 1) 1 [.int .i64 rr, .int .i64 ky, .int .i64 vl] rfl HSG.out HK1.out HK2.out HBB.out ?_; intro p6 c6 w6 o6 g6; have hg := Only.of_grown g6 (F := fun i => (Value.slice p m c).ownBlock = some i) (fun k e => e); have x0 := hg.cell y0 (fun e => by have := HLT.out _ e; simp only at this; omega); have x1 := hg.cell y1 (fun e => by have := HLT.out _ e; simp only at this; omega); have x2 := hg.cell y2 (fun e => by have := HLT.out _ e; simp only at this; omega)))
    have HN : Hid (Only (fun i => (Value.slice p m c).ownBlock = some i) W w6) := hide (((Only.fresh HVB.out _).trans (Only.fresh HAB.out _)).trans hg)
    have HO6 : Hid (w6.ownsRow base 41 3 (.slice p6 (m + 1) c6) (m + 1) ((xs ++ [(⟨rr, ky, vl⟩ : PU)]).flatMap PU.cells)) := by
      refine hide ?_
      rw [List.flatMap_append]
      exact o6
    clear o6 g6 hg
    go_wp2
    go_ret
    exact ⟨p6, c6, rfl, HO6.out, HN.out⟩
  have e7 := ne_eq h7
  have hp : passC kd fn ar ky vl = [] := by unfold passC; rw [hpk, if_neg (by simp), if_neg h7]
  rw [hp, List.append_nil]
  clear hp hpk h1 h2 h3 h4 h8 h7 hk hv ha
  go_enter Try.func9, Try.ntmps9
  go_upto_region 1 with fail
  rw [← hV]
  try rw [hsB]
  clear hV hsB
  go_wp2
  go_ret
  exact ⟨p, c, rfl, HO.out, Only.fresh HVB.out _⟩
end Go.Proofs.Ytcabfohmimglpaa
