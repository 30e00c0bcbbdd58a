/-
  The program's Edges, and the statements' function 'edges': all inputs, in order. The conditions: lengths.
-/
import Derived.Test.YtmoigniboiekfaaGgn
import Derived.Test.YtmoigniboiekfaaGcl
import Derived.Test.YtmoigniboiekfaaGlo
namespace Go.Proofs.Ytmoigniboiekfaa
open Go.RowKit Go.Shelf
attribute [local go_sem] Oper.semAt_some

def atsG : Nat → List GO → List Int
  | _, [] => []
  | n, o :: os => o.ins.map (fun _ => (n : Int)) ++ atsG (n + 1) os
theorem atsG_len : ∀ (n : Nat) (os : List GO), (atsG n os).length = (flatC os).length
  | _, [] => rfl
  | n, o :: os => by
    have := atsG_len (n + 1) os
    simp only [atsG, flatC, List.flatMap_cons, List.length_append, List.length_map] at this ⊢
    omega
theorem tellG_ats : ∀ (os : List GO) (n k : Nat), k < (flatC os).length → (tellG n os).getD k #[] = #[.int .i64 ((atsG n os)[k]!), eV ((flatC os)[k]!)]
  | [], _, _, h => by cases h
  | o :: os, n, k, h => by
    have e0 : flatC (o :: os) = o.ins ++ flatC os := by simp [flatC]
    rw [e0] at h ⊢
    have hal := atsG_len (n + 1) os
    simp only [tellG, atsG]
    by_cases hk : k < o.ins.length
    · rw [List.getD_eq_getElem?_getD, List.getElem?_append_left (by simpa using hk), getElem!_pos (o.ins ++ flatC os) k h, List.getElem_append_left hk]
      rw [getElem!_pos (o.ins.map (fun _ => (n : Int)) ++ atsG (n + 1) os) k (by simp; omega), List.getElem_append_left (by simpa using hk)]
      simp [List.getElem?_map, List.getElem?_eq_getElem hk]
    · have hk2 : k - o.ins.length < (flatC os).length := by rw [List.length_append] at h; omega
      have hm := tellG_ats os (n + 1) (k - o.ins.length) hk2
      rw [List.getD_eq_getElem?_getD, List.getElem?_append_right (by simp; omega), ← List.getD_eq_getElem?_getD]
      rw [getElem!_pos (o.ins.map (fun _ => (n : Int)) ++ atsG (n + 1) os) k (by simp; omega), List.getElem_append_right (by simp; omega)]
      rw [getElem!_pos (o.ins ++ flatC os) k h, List.getElem_append_right (by omega)]
      rw [getElem!_pos (atsG (n + 1) os) _ (by omega), getElem!_pos (flatC os) _ hk2] at hm
      simp only [List.length_map]
      exact hm
theorem GOwn.only {A B : World} {F : Nat → Prop} {base cap : Nat} {p : Option Addr} {os : List OV} (h : GOwn A base p cap os) (ho : Only F A B) (hF : ∀ i, F i → ∃ cs t, A.heap[i]? = some (.cells cs t (0, 0)) ∧ t ≠ 31 ∧ t ≠ 43) : GOwn B base p cap os := by
  refine ⟨ownsRow_only h.own ho (fun b hb hf => ?_), fun x hx => ownsRow_only (h.ins x hx) ho (fun b hb hf => ?_)⟩
  · obtain ⟨cs, t, h1, h2, _⟩ := hF b hf
    obtain ⟨_, cur, h3⟩ := own_block_lt h.own hb
    rw [h1] at h3
    simp at h3
    exact h2 h3.2
  · obtain ⟨cs, t, h1, _, h2⟩ := hF b hf
    obtain ⟨_, cur, h3⟩ := own_block_lt (h.ins x hx) hb
    rw [h1] at h3
    simp at h3
    exact h2 h3.2
/-- What the loop keeps. -/
def EdI (V : World) (s n2 : Nat) (ats : List Int) (fl : List GE) (k : Nat) (X : World) : Prop :=
  ∃ v u, Boxed X s 39 v ∧ Boxed X (s + 1) 29 u ∧ X.ownsRow n2 3 1 v k ((ats.take k).map (Value.int .i64)) ∧ X.ownsRow n2 43 2 u k ((fl.take k).flatMap GE.cells) ∧ Only (fun i => i = s ∨ i = s + 1) V X
theorem put_only {W1 : World} {l : Nat} {o' : Obj} : Only (· = l) W1 (W1.putObj l o') := Only.of_grown (F := (· = l)) (grownBy_putObj' W1 l o') (fun k e => by simpa using e.symm)
theorem row_put {W1 : World} {l base n k : Nat} {e : TypeId} {v : Value} {xs : List Value} {o o' : Obj} (h : W1.ownsRow base e k v n xs) (ho : W1.heap[l]? = some o) (hc : o.isCells = false) : (W1.putObj l o').ownsRow base e k v n xs :=
  ownsRow_only h put_only (fun b hb e => by
    have e' : b = l := e
    obtain ⟨_, cur, h3⟩ := own_block_lt h hb
    rw [e', ho] at h3
    simp only [Option.some.injEq] at h3
    rw [h3] at hc
    simp [Obj.isCells] at hc)

set_option maxRecDepth 100000 in
set_option maxHeartbeats 4000000 in
theorem edgesOf_any {W : World} {parts : Int} {p : Option Addr} {cap n : Nat} {os : List OV} (ho : GRow W p cap os) (hn : os.length = n) (hb : n * 56 ≤ 140737488355328) (hin : ∀ x ∈ os, x.o.ins.length * 16 ≤ 140737488355328) :
    Calls Try.prog 40 #[.agg #[.int .i64 parts, .slice p n cap]] W fun e w' => ∃ bk p' c' xs, e = .returned (.func (.func 77) #[] #[.pointer (some ⟨bk, 0, none⟩)]) ∧ xs.map OV.o = os.map OV.o ∧ GOwn w' W.heap.size p' c' xs ∧ Boxed w' bk 22 (.slice p' xs.length c') ∧ W.heap.size ≤ bk ∧ Below W.heap.size W w' := by
  have i3 := ho.le
  have i4 := ho.top
  rw [hn] at i3
  have hb0 := alloc_below W (.cells #[.int .i64 parts, .slice p n cap] 24 (0, 0))
  have HC := hide (gclone_any (parts := parts) (ho.below hb0) hn hb hin)
  have HB0 := hide hb0
  clear ho hb0 hin
  go_enter Try.func40, Try.ntmps40
  go_wp2_with fail
  refine HC.out.mono ?_
  rintro _ w1 ⟨p', c', xs, rfl, hs, G1, B1⟩
  have HB1 := hide (HB0.out.trans (B1.mono HB0.out.size))
  have hx : xs.length = n := by have := congrArg List.length hs; simpa [hn] using this
  have HG1 := hide G1
  have HS := hide hs
  have HX := hide hx
  have HSZ := hide B1.size
  clear G1 hs hx B1
  have hfd : ∀ w : World, (Instr.field 24 (.agg #[.int .i64 parts, .slice p' n c']) 1).run Try.prog w = .ok (.slice p' n c') w := fun _ => by kernel_rfl
  go_wp2_with fail
  refine inputs_any.mono ?_
  rintro _ w2 ⟨rfl, hw2⟩
  have hb2 : Below w1.heap.size w1 w2 := by rw [hw2]; exact alloc_below _ _
  have hbox : w2.heap[w1.heap.size]? = some (.cells #[.slice p' n c'] 22 (0, 0)) := by rw [hw2]; exact heap_alloc_new _ _
  have HG2 := hide (HG1.out.below hb2)
  have HBX := hide hbox
  have HB2 := hide (HB1.out.trans (hb2.mono HB1.out.size))
  clear hb2 hbox hw2
  go_wp2
  go_ret
  refine ⟨w1.heap.size, p', c', xs, rfl, HS.out, ⟨ownsRow_base HG2.out.own (by simp), fun x hx => ownsRow_base (HG2.out.ins x hx) (by simp)⟩, ?_, HB1.out.size, HB2.out⟩
  rw [HX.out]
  exact HBX.out

set_option maxRecDepth 100000 in
set_option maxHeartbeats 8000000 in
theorem edges_in (n : Nat) (hn : 4 ≤ n) {W : World} {parts : Int} {p : Option Addr} {cap m : Nat} {os : List OV} (ho : GRow W p cap os) (hm : os.length = m) (hb : m * 56 ≤ 140737488355328) (hin : ∀ x ∈ os, x.o.ins.length * 16 ≤ 140737488355328) {N : Nat} (hN : (flatC (os.map OV.o)).length = N) (hfl : N ≤ 1048576) :
    CallsIn Fence.wide n Try.prog 19 #[.agg #[.int .i64 parts, .slice p m cap]] W fun e w' => ∃ p1 c1 p2 c2, e = .returned (.tuple #[.slice p1 N c1, .slice p2 N c2]) ∧ w'.ownsRow W.heap.size 3 1 (.slice p1 N c1) N ((atsG 0 (os.map OV.o)).map (Value.int .i64)) ∧ w'.ownsRow W.heap.size 43 2 (.slice p2 N c2) N ((flatC (os.map OV.o)).flatMap GE.cells) ∧ Below W.heap.size W w' := by
  have i3 := ho.le
  have i4 := ho.top
  rw [hm] at i3
  obtain ⟨V, hV⟩ : ∃ V, V = ((W.alloc (.cells #[.int .i64 parts, .slice p m cap] 24 (0, 0))).alloc (.cells #[.slice none 0 0] 39 (0, 0))).alloc (.cells #[.slice none 0 0] 29 (0, 0)) := ⟨_, rfl⟩
  have HVB : Hid (Below W.heap.size W V) := by
    rw [hV]
    exact hide ((alloc_below W _).trans (((alloc_below _ _).mono (by simp)).trans ((alloc_below _ _).mono (by simp <;> omega))))
  have HE := hide (edgesOf_any (parts := parts) (ho.below HVB.out) hm hb hin)
  have HN := hide hN
  have HTL := hide (tellG_len (os.map OV.o) 0)
  clear ho hin hN hm
  refine callsIn_of_wp_marks Try.func19 rfl trivial ?_ rfl
  simp only [Try.ntmps19, List.size_toArray, List.length_cons, List.length_nil, Nat.reduceAdd, Nat.reduceSub, Array.replicate_succ, Array.replicate_zero, List.push_toArray, List.append_toArray, List.nil_append, List.cons_append]
  gi_wp2_with fail
  rw [← hV]
  obtain ⟨gB, hgB⟩ : ∃ gB, W.heap.size = gB := ⟨_, rfl⟩
  have hv1 : V.heap[gB]? = some (.cells #[.int .i64 parts, .slice p m cap] 24 (0, 0)) := by
    rw [hV, ← hgB]
    exact below_box (alloc_below _ _) (below_box (alloc_below _ _) (heap_alloc_new W _))
  have hv2 : V.heap[gB + 1]? = some (.cells #[.slice none 0 0] 39 (0, 0)) := by
    have e : gB + 1 = (W.alloc (.cells #[.int .i64 parts, .slice p m cap] 24 (0, 0))).heap.size := by rw [← hgB]; simp
    rw [hV, e]
    exact below_box (alloc_below _ _) (heap_alloc_new _ _)
  have hv3 : V.heap[gB + 1 + 1]? = some (.cells #[.slice none 0 0] 29 (0, 0)) := by
    have e : gB + 1 + 1 = ((W.alloc (.cells #[.int .i64 parts, .slice p m cap] 24 (0, 0))).alloc (.cells #[.slice none 0 0] 39 (0, 0))).heap.size := by rw [← hgB]; simp
    rw [hV, e]
    exact heap_alloc_new _ _
  have hVs : V.heap.size = gB + 3 := by rw [hV, ← hgB]; simp
  have HV2 := hide hv2
  have HV3 := hide hv3
  have HGB := hide hgB
  try rw [hgB]
  clear hV hv1 hv2 hv3 hgB
  refine ⟨trivial, fun _ => by omega, (callsIn_wide.2 HE.out).mono ?_⟩
  rintro _ w1 ⟨bk, p', c', xs, rfl, hs, G1, X1, hbk, B1⟩
  have hw1 : gB + 3 ≤ w1.heap.size := by have := B1.size; omega
  have HB1 := hide (HVB.out.trans (B1.mono HVB.out.size))
  have H2 := hide (below_box B1 HV2.out)
  have H3 := hide (below_box B1 HV3.out)
  have HG1 := hide G1
  have HX1 := hide X1
  have hbl := X1.lt
  have HS := hide hs
  have HST : Hid (EdI w1 (gB + 1) w1.heap.size (atsG 0 (os.map OV.o)) (flatC (os.map OV.o)) 0 w1) := hide ⟨_, _, H2.out, H3.out, World.ownsRow_nil _ _ _ _, World.ownsRow_nil _ _ _ _, Only.refl _ _⟩
  rw [hVs] at hbk
  clear G1 hs X1 B1
  gi_wp2_with fail
  refine range_list3 (by omega) (inputs_tells (n - 1) (by omega) (Bk := bk) (p := p') (cap := c') (os := xs)) rfl enInputs ?size (EdI w1 (gB + 1) w1.heap.size (atsG 0 (os.map OV.o)) (flatC (os.map OV.o))) (fun _ _ _ => False) ?grows ?puts (fun _ _ _ _ _ _ h => h.elim) ?reads ?start
    (fun x X => { tmps := #[.agg #[.int .i64 parts, .slice p m cap], .pointer (some ⟨gB, 0, none⟩), .slice none 0 0, .slice none 0 0, .pointer (some ⟨gB + 1, 0, none⟩), .pointer (some ⟨gB + 1 + 1, 0, none⟩), x.getD 0 undef, .pointer (some ⟨X.heap.size, 0, none⟩), .agg #[.int .i64 parts, .slice p m cap], .func (.func 77) #[] #[.pointer (some ⟨bk, 0, none⟩)], x.getD 0 undef, x.getD 1 undef, undef, undef, undef, undef, undef, undef, undef, undef, undef, undef], defers := [] }) (fun x X => X.alloc (.cells (aggC (x.getD 1 undef)) 43 (0, 0))) (fun k X => alloc_below X _) ?assign ?body ?done (fun _ _ _ _ _ _ h => h.elim)
  case size =>
    intro k hk
    rw [HS.out] at hk ⊢
    rw [HTL.out] at hk
    rw [tellG_ats _ _ _ hk]
    rfl
  case grows =>
    rintro k W1 W2 ⟨v, u, h1, h2, h3, h4, h5⟩ hb
    exact ⟨v, u, below_box hb h1, below_box hb h2, ownsRow_later h3 hb, ownsRow_later h4 hb, h5.trans (Only.fresh hb _)⟩
  case puts =>
    rintro k W1 l ob o' ⟨v, u, h1, h2, h3, h4, h5⟩ hl1 ho1 hc1
    exact ⟨v, u, put_only.obj h1 (fun e => by have e' : gB + 1 = l := e; omega), put_only.obj h2 (fun e => by have e' : gB + 1 + 1 = l := e; omega), row_put h3 ho1 hc1, row_put h4 ho1 hc1, h5.step put_only (fun i e => .inr (by have e' : i = l := e; omega))⟩
  case reads =>
    rintro k W1 ⟨v, u, h1, h2, h3, h4, h5⟩
    have hg := HG1.out.only h5 (fun i hi => by
      rcases hi with rfl | rfl
      · exact ⟨_, _, H2.out, by decide, by decide⟩
      · exact ⟨_, _, H3.out, by decide, by decide⟩)
    have hbx : Boxed W1 bk 22 (.slice p' xs.length c') := h5.obj HX1.out (fun e => by
      rcases e with e | e <;> omega)
    exact ⟨hbx.cell, hg.row⟩
  case start => exact HST.out
  case assign =>
    intro l k X K hk hK
    rw [HS.out] at hk hK ⊢
    rw [HTL.out] at hk
    rw [tellG_ats _ _ _ hk] at hK ⊢
    obtain ⟨e, he⟩ : ∃ e, (flatC (os.map OV.o))[k]! = e := ⟨_, rfl⟩
    obtain ⟨i, hi⟩ : ∃ i, (atsG 0 (os.map OV.o))[k]! = i := ⟨_, rfl⟩
    rw [he, hi] at hK ⊢
    unfold eV at hK ⊢
    clear he hi
    simp only [aggC, Array.getD_eq_getD_getElem?, List.getElem?_toArray, List.getElem?_cons_zero, List.getElem?_cons_succ, Option.getD_some] at hK
    gi_wp2
    exact hK
  case body =>
    rintro l k Z X ⟨v, u, h1, h2, h3, h4, h5⟩ hk hsz hoX hlZ hwl
    rw [HS.out] at hk hoX ⊢
    rw [HTL.out] at hk
    rw [tellG_ats _ _ _ hk] at hoX ⊢
    have hka : k < (atsG 0 (os.map OV.o)).length := by rw [atsG_len]; exact hk
    have ta : (atsG 0 (os.map OV.o)).take (k + 1) = (atsG 0 (os.map OV.o)).take k ++ [(atsG 0 (os.map OV.o))[k]!] := by rw [List.take_succ_eq_append_getElem hka, getElem!_pos (atsG 0 (os.map OV.o)) k hka]
    have tb : (flatC (os.map OV.o)).take (k + 1) = (flatC (os.map OV.o)).take k ++ [(flatC (os.map OV.o))[k]!] := by rw [List.take_succ_eq_append_getElem hk, getElem!_pos (flatC (os.map OV.o)) k hk]
    obtain ⟨e, he⟩ : ∃ e, (flatC (os.map OV.o))[k]! = e := ⟨_, rfl⟩
    obtain ⟨i, hi⟩ : ∃ i, (atsG 0 (os.map OV.o))[k]! = i := ⟨_, rfl⟩
    rw [he, hi] at hoX ⊢
    rw [hi] at ta
    rw [he] at tb
    obtain ⟨ef, ep⟩ := e
    unfold eV at hoX ⊢
    simp only [aggC, Array.getD_eq_getD_getElem?, List.getElem?_toArray, List.getElem?_cons_zero, List.getElem?_cons_succ, Option.getD_some] at hoX ⊢
    have hpb : X.heap[Z.heap.size]? = some (.cells #[.int .i64 ef, .int .i64 ep] 43 (0, 0)) := hoX.obj (heap_alloc_new Z _) (fun e => by have e' : Z.heap.size = l := e; omega)
    have hkN : k ≤ 1048576 := by have := HN.out; omega
    gi_wp2_with fail
    refine wpIn_region_any (by kernel_rfl) ?_
    refine region6 (V := w1) (W := X) (s := gB + 1) (n2 := w1.heap.size) (k := k) (m := k) (q := Z.heap.size) (v := v) (u := u) (xs := ((atsG 0 (os.map OV.o)).take k).map (Value.int .i64)) (ys := ((flatC (os.map OV.o)).take k).flatMap GE.cells) (x := i) (yf := ef) (yp := ep) hkN hkN ?_ 10 false false false false false false false false false false undef undef undef undef undef undef undef undef _ (by decide) ?_
    · intro t12 t13 t14 t15 t16 t17 t18 t19 w2 hI
      obtain ⟨g1, c1, e1, o1⟩ := hI.r1' rfl
      obtain ⟨g2, c2, e2, o2⟩ := hI.r2' rfl
      have hend : EdI w1 (gB + 1) w1.heap.size (atsG 0 (os.map OV.o)) (flatC (os.map OV.o)) (k + 1) w2 := by
        refine ⟨t15, t19, hI.x1' rfl, hI.x2' rfl, ?_, ?_, hI.only⟩
        · rw [ta, List.map_append]; exact o1
        · rw [tb, List.flatMap_append]; exact o2
      have HEND := hide hend
      have HKP := hide hI.keep
      clear hI hend o1 o2
      try gi_wp2_with fail
      exact ⟨HKP.out, HEND.out⟩
    · exact {
        c3 := fun e => by cases e
        c7 := fun e => by cases e
        c8 := fun e => by cases e
        c9 := fun e => by cases e
        c56 := fun e => by cases e
        s12 := fun e => by cases e
        s13 := fun e => by cases e
        s14 := fun e => by cases e
        r1 := fun _ => h3.drew
        r1' := fun e => by cases e
        s16 := fun e => by cases e
        s17 := fun e => by cases e
        s18 := fun e => by cases e
        r2 := fun _ => h4.drew
        r2' := fun e => by cases e
        x1 := fun _ => h1
        x1' := fun e => by cases e
        x2 := fun _ => h2
        x2' := fun e => by cases e
        eb := fun _ => hpb
        keep := ⟨Nat.le_refl _, fun _ _ _ h _ => h⟩
        only := h5.drew
        vsz := rfl
        low := hw1
        sz := h5.size }
  case done =>
    rintro D X hD ⟨v, u, h1, h2, h3, h4, h5⟩ hK
    rw [HS.out, HTL.out] at h3 h4
    have ea : (atsG 0 (os.map OV.o)).take (flatC (os.map OV.o)).length = atsG 0 (os.map OV.o) := List.take_of_length_le (by rw [atsG_len]; exact Nat.le_refl _)
    rw [ea, HN.out] at h3
    rw [List.take_length, HN.out] at h4
    obtain ⟨p1, c1, rfl, _, _⟩ := own_form h3
    obtain ⟨p2, c2, rfl, _, _⟩ := own_form h4
    have hc1 := h1.cell
    have hc2 := h2.cell
    have hK' : X.drew.heap[D]? = some (.deferred (some [])) := hK
    have HK := hide hK'
    have HR1 := hide h3
    have HR2 := hide h4
    have HB : Hid (Below W.heap.size W X) := hide (HB1.out.trans (h5.below (by have := HB1.out.size; omega) (fun i e => by have := HGB.out; rcases e with e | e <;> omega)))
    clear h1 h2 h3 h4 h5 hK hK' ea
    gi_wp2
    gi_region
    gi_wp2_with fail
    refine ⟨by simp, .inl ⟨_, _, rfl, run_takeDeferred HK.out, ?_⟩⟩
    refine ⟨_, results_tmp2 rfl _ _ _, p1, c1, p2, c2, rfl, ownsRow_base (row_put HR1.out.drew HK.out rfl) (by have := HB1.out.size; omega), ownsRow_base (row_put HR2.out.drew HK.out rfl) (by have := HB1.out.size; omega), ?_⟩
    exact HB.out.drew.trans (put_only.below HB.out.size (fun i e => by have e' : i = D := e; have := HB1.out.size; omega))
theorem edges_any {W : World} {parts : Int} {p : Option Addr} {cap m : Nat} {os : List OV} (ho : GRow W p cap os) (hm : os.length = m) (hb : m * 56 ≤ 140737488355328) (hin : ∀ x ∈ os, x.o.ins.length * 16 ≤ 140737488355328) {N : Nat} (hN : (flatC (os.map OV.o)).length = N) (hfl : N ≤ 1048576) :
    Calls Try.prog 19 #[.agg #[.int .i64 parts, .slice p m cap]] W fun e w' => ∃ p1 c1 p2 c2, e = .returned (.tuple #[.slice p1 N c1, .slice p2 N c2]) ∧ w'.ownsRow W.heap.size 3 1 (.slice p1 N c1) N ((atsG 0 (os.map OV.o)).map (Value.int .i64)) ∧ w'.ownsRow W.heap.size 43 2 (.slice p2 N c2) N ((flatC (os.map OV.o)).flatMap GE.cells) ∧ Below W.heap.size W w' :=
  callsIn_wide.1 (edges_in 4 (Nat.le_refl _) ho hm hb hin hN hfl)
end Go.Proofs.Ytmoigniboiekfaa
