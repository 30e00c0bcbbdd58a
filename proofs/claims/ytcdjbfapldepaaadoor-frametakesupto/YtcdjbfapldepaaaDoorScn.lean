/-
  What frame.Scan returns: the loads of the frames with which bytes begin, the place behind the last one, and what keeps the rest from being a frame; over any world that holds the tables, in which nothing that was there turns. The conditions: the bytes read as bytes, at most 2^30 of them.
-/
import Derived.Test.YtcdjbfapldepaaaDoorFrs
import Derived.Deep.RegionLaw
namespace Go.Proofs.YtcdjbfapldepaaaDoor
open Go.RowKit Go.Shelf
attribute [local go_sem] Oper.semAt_some

/- A SLICE OF BYTE STRINGS THAT THE CALL ITSELF HAS MADE, EACH IN MEMORY OF ITS OWN. -/
def OwnL (base : Nat) (W : World) (lv : Value) (xs : List (List Int)) : Prop :=
  ∃ us : List Value, us.length = xs.length ∧ W.ownsRow base 22 1 lv xs.length us ∧ ∀ i, i < xs.length → W.ownsRow base 5 1 (us.getD i undef) (xs.getD i []).length ((xs.getD i []).map (Value.int .u8))

theorem OwnL.nil (base : Nat) (W : World) : OwnL base W (.slice none 0 0) [] := ⟨[], rfl, World.ownsRow_nil _ _ _ _, fun i hi => absurd hi (by simp)⟩
theorem OwnL.below {base : Nat} {W W' : World} {lv : Value} {xs : List (List Int)} (h : OwnL base W lv xs) (hb : Below W.heap.size W W') : OwnL base W' lv xs := by
  obtain ⟨us, h1, h2, h3⟩ := h
  exact ⟨us, h1, own_below h2 hb, fun i hi => own_below (h3 i hi) hb⟩
theorem OwnL.base {base base' : Nat} {W : World} {lv : Value} {xs : List (List Int)} (h : OwnL base W lv xs) (hb : base' ≤ base) : OwnL base' W lv xs := by
  obtain ⟨us, h1, h2, h3⟩ := h
  exact ⟨us, h1, own_base h2 hb, fun i hi => own_base (h3 i hi) hb⟩
theorem OwnL.putObj {base : Nat} {W : World} {lv : Value} {xs : List (List Int)} (h : OwnL base W lv xs) {l : Nat} {o : Obj} (o' : Obj) (hl : W.heap[l]? = some o) (ho : o.isCells = false) : OwnL base (W.putObj l o') lv xs := by
  obtain ⟨us, h1, h2, h3⟩ := h
  exact ⟨us, h1, ownsRow_putObj h2 _ hl ho, fun i hi => ownsRow_putObj (h3 i hi) _ hl ho⟩
theorem OwnL.rows2 {base : Nat} {W : World} {lv : Value} {xs : List (List Int)} (h : OwnL base W lv xs) : Rows2 W lv xs := by
  obtain ⟨us, h1, h2, h3⟩ := h
  rcases h2.2 with ⟨rfl, h0⟩ | ⟨g, cap, cur, rfl, hb, hg, hnc, hcm, hcs, htk⟩
  · have : xs = [] := List.eq_nil_of_length_eq_zero h0
    subst this
    exact Rows2.nil W
  · refine ⟨some ⟨g, 0, none⟩, cap, rfl, hnc, by unfold maxLen at hcm; omega, (by intro h; cases h), fun hp => ⟨g, 0, rfl, fun i hi => ⟨us.getD i undef, ?_, own_row (h3 i hi)⟩⟩⟩
    have := h2.cellAt i (by omega)
    rw [Nat.zero_add, this]
    simp [List.getD, List.getElem?_eq_getElem (show i < us.length by omega)]

/-- Rows of unlike element types are not one row. -/
theorem rows_apart {w : World} {base base' n m : Nat} {e e' : TypeId} {v v' : Value} {xs ys : List Value} (h : w.ownsRow base e 1 v n xs) (h' : w.ownsRow base' e' 1 v' m ys) (hne : e ≠ e') : v.ownBlock = none ∨ v.ownBlock ≠ v'.ownBlock := by
  rcases h.2 with ⟨rfl, _⟩ | ⟨g, cap, cur, rfl, _, hg, _⟩
  · left; rfl
  · right
    rcases h'.2 with ⟨rfl, _⟩ | ⟨g', cap', cur', rfl, _, hg', _⟩
    · simp [Value.ownBlock]
    · simp only [Value.ownBlock, ne_eq, Option.some.injEq]
      rintro rfl
      rw [hg] at hg'
      simp at hg'
      exact hne hg'.2

/-- What a load, put behind, makes. -/
theorem OwnL.snoc {base : Nat} {W W1 : World} {lv lv' u : Value} {pre : List (List Int)} {x : List Int} {us : List Value} (hl : us.length = pre.length) (h2 : W.ownsRow base 22 1 lv pre.length us)
    (h3 : ∀ i, i < pre.length → W.ownsRow base 5 1 (us.getD i undef) (pre.getD i []).length ((pre.getD i []).map (Value.int .u8))) (hu : W.ownsRow base 5 1 u x.length (x.map (Value.int .u8)))
    (hg : W.grownBy W1 lv.ownBlock) (ho : W1.ownsRow base 22 1 lv' (pre.length + 1) (us ++ [u])) : OwnL base W1 lv' (pre ++ [x]) := by
  refine ⟨us ++ [u], by simp [hl], by simpa using ho, fun i hi => ?_⟩
  have hne : (5 : TypeId) ≠ 22 := by decide
  by_cases hlt : i < pre.length
  · have e1 : (us ++ [u]).getD i undef = us.getD i undef := by simp [List.getD, List.getElem?_append_left (show i < us.length by omega)]
    have e2 : (pre ++ [x]).getD i [] = pre.getD i [] := by simp [List.getD, List.getElem?_append_left hlt]
    rw [e1, e2]
    exact (h3 i hlt).kept hg (rows_apart (h3 i hlt) h2 hne)
  · have hi' : i = pre.length := by simp at hi; omega
    subst hi'
    have e1 : (us ++ [u]).getD pre.length undef = u := by rw [← hl]; simp [List.getD]
    have e2 : (pre ++ [x]).getD pre.length [] = x := by simp [List.getD]
    rw [e1, e2]
    exact hu.kept hg (rows_apart hu h2 hne)

theorem Tryd.infoSl : (Tryd.prog.info? 22).map (fun i => (i.zero, i.size, i.bytes)) = some (some (.slice none 0 0), 1, 24) := by kernel_rfl

theorem own_set {W : World} {base g n : Nat} {e : TypeId} {v u : Value} {xs : List Value} (h : W.ownsRow base e 1 v n xs) (hg : g < base) : (W.setCell ⟨g, 0, none⟩ u).ownsRow base e 1 v n xs := by
  refine h.kept (grownBy_setCell' W g u) ?_
  rcases h.2 with ⟨rfl, _⟩ | ⟨g', cap, cur, rfl, hb, _⟩
  · exact .inl rfl
  · refine .inr fun e' => ?_
    simp [Value.ownBlock] at e'
    omega
theorem OwnL.set {base g : Nat} {W : World} {lv u : Value} {xs : List (List Int)} (h : OwnL base W lv xs) (hg : g < base) : OwnL base (W.setCell ⟨g, 0, none⟩ u) lv xs := by
  obtain ⟨us, h1, h2, h3⟩ := h
  exact ⟨us, h1, own_set h2 hg, fun i hi => own_set (h3 i hi) hg⟩
/-- An append to a row leaves whatever is no cells as it lay. -/
theorem keeps_append {W W1 : World} {base n : Nat} {e : TypeId} {v : Value} {xs : List Value} {tmp : Obj} (h : W.ownsRow base e 1 v n xs) (hg : (W.alloc tmp).grownBy W1 v.ownBlock) : KeepsOthers W W1 := by
  refine (KeepsOthers.alloc W tmp).trans (KeepsOthers.of_grownBy hg fun j o ej hj => ?_)
  rcases (h.alloc tmp).2 with ⟨rfl, _⟩ | ⟨g, cap, cur, rfl, _, hgb, _⟩
  · simp [Value.ownBlock] at ej
  · obtain rfl : g = j := by simpa [Value.ownBlock] using ej
    rw [hgb] at hj
    cases hj
    rfl
theorem below_append {W W1 : World} {base n n₀ : Nat} {e : TypeId} {v : Value} {xs : List Value} {tmp : Obj} (h : W.ownsRow base e 1 v n xs) (hg : (W.alloc tmp).grownBy W1 v.ownBlock) (hn : n₀ ≤ W.heap.size) (hb : n₀ ≤ base) : Below n₀ W W1 := by
  refine ((Below.refl n₀ W).alloc hn tmp).grown hg (by simp; omega) fun j ej => ?_
  rcases h.2 with ⟨rfl, _⟩ | ⟨g, cap, cur, rfl, hb', _⟩
  · simp [Value.ownBlock] at ej
  · obtain rfl : g = j := by simpa [Value.ownBlock] using ej
    omega

/-- What Scan's own variables hold when so many frames have come. -/
def Holds (w : World) (g B : Nat) (v : Value) (pre : List (List Int)) (W : World) : Prop :=
  ∃ lv, Boxed W g 23 lv ∧ Boxed W (g + 1) 3 (.int .i64 ((flen pre : Nat) : Int)) ∧ Boxed W (g + 2) 22 v ∧ OwnL B W lv pre ∧ Below w.heap.size w W ∧ B ≤ W.heap.size

set_option maxRecDepth 100000 in
set_option maxHeartbeats 4000000 in
theorem scan_in (n : Nat) (hn : 3 ≤ n) {v : Value} {b : List Int} {w : World} (hv : Row .u8 w v b) (hu : U8 b) (ht : Tabs w) (hbig : b.length ≤ 1073741824) :
    CallsIn Fence.wide n Tryd.prog 19 #[v] w fun e w' => ∃ lv, e = .returned (.tuple #[lv, .int .i64 ((flen (loads b) : Nat) : Int), .int .i64 (errAt b)]) ∧ OwnL w.heap.size w' lv (loads b) ∧ Below w.heap.size w w' := by
  obtain ⟨i0, hI0, hz0, hz1, hz2⟩ := info_parts Tryd.infoSl
  have HV : Hid (Row .u8 w v b) := hv
  have HU : Hid (U8 b) := hu
  have HT : Hid (Tabs w) := ht
  have hN := loads_len b
  obtain ⟨p, cap, rfl, g1, g2, _, _⟩ := hv
  clear hu ht
  refine callsIn_of_wp_marks Tryd.func19 rfl trivial ?_ rfl
  simp only [Tryd.ntmps19, List.size_toArray, List.length_cons, List.length_nil, Nat.reduceAdd, Nat.reduceSub, Array.replicate_succ, Array.replicate_zero, List.push_toArray, List.append_toArray, List.nil_append, List.cons_append]
  gi_wp2_with fail
  refine ⟨trivial, fun _ => by omega, (callsIn_wide.2 (framesOf_any p b.length cap rfl)).mono ?_⟩
  rintro r w1 ⟨rfl, hw1⟩
  have sz2 : ((w.alloc (.cells #[.slice none 0 0] 23)).alloc (.cells #[.int .i64 0] 3)).heap.size = w.heap.size + 2 := by simp
  rw [sz2]
  have B1 : Below w.heap.size w w1 := by rw [hw1]; exact ((alloc_below w _).alloc (by simp) _).alloc (by simp; omega) _
  have z1 : Hid (w1.heap.size = w.heap.size + 3) := by show _ = _; rw [hw1]; simp
  have X1 : Boxed w1 w.heap.size 23 (.slice none 0 0) := by rw [hw1]; exact ((Boxed.new w _ _).alloc _).alloc _
  have X2 : Boxed w1 (w.heap.size + 1) 3 (.int .i64 ((flen [] : Nat) : Int)) := by
    have e := Boxed.new (w.alloc (.cells #[.slice none 0 0] 23)) 3 (.int .i64 0)
    rw [World.size_alloc] at e
    rw [hw1, flen_nil]
    exact e.alloc _
  have X3 : Boxed w1 (w.heap.size + 2) 22 (.slice p b.length cap) := by
    have e := Boxed.new ((w.alloc (.cells #[.slice none 0 0] 23)).alloc (.cells #[.int .i64 0] 3)) 22 (.slice p b.length cap)
    rw [sz2] at e
    rw [hw1]
    exact e
  clear hw1 sz2
  have hstart : Holds w w.heap.size w1.heap.size (.slice p b.length cap) [] w1 := ⟨_, X1, X2, X3, OwnL.nil _ _, B1, Nat.le_refl _⟩
  clear X1 X2 X3 B1
  gi_wp2_with fail
  refine range_frames (by omega) (w.heap.size + 2) w1.heap.size (.slice p b.length cap) b HU.out (by omega) rfl rfl (Holds w w.heap.size w1.heap.size (.slice p b.length cap))
    ?grows ?puts ?reads hstart (fun z u => { tmps := #[.slice p b.length cap, undef, .slice none 0 0, .int .i64 0, .int .i64 0, .pointer (some ⟨w.heap.size, 0, none⟩), .pointer (some ⟨w.heap.size + 1, 0, none⟩), .int .i64 z, u, undef, undef, undef, .slice p b.length cap, .func (.func 31) #[] #[.pointer (some ⟨w.heap.size + 2, 0, none⟩)], .int .i64 z, u, undef, undef, undef, undef, undef, undef, undef, undef, undef, undef, undef, undef, undef, undef, undef, undef, undef, undef, undef, undef, undef, undef], defers := [] }) ?assign ?body ?done
  case grows =>
    rintro pre W W' ⟨lv, h1, h2, h3, h4, h5, h6⟩ hb
    exact ⟨lv, below_box hb h1, below_box hb h2, below_box hb h3, h4.below hb, h5.trans (hb.mono h5.size), Nat.le_trans h6 hb.size⟩
  case puts =>
    have z1 := z1.out
    rintro pre W l o o' ⟨lv, h1, h2, h3, h4, h5, h6⟩ hl ho hc
    have hne : ∀ k, k < w1.heap.size → k ≠ l := fun k hk e => by omega
    exact ⟨lv, (World.putObj_heap_other (hne _ (by omega))).trans h1, (World.putObj_heap_other (hne _ (by omega))).trans h2, (World.putObj_heap_other (hne _ (by omega))).trans h3, h4.putObj _ ho hc,
      h5.grown (grownBy_putObj' W l o') h5.size (fun k e => by cases e; omega), by simpa using h6⟩
  case reads =>
    rintro pre W ⟨lv, h1, h2, h3, h4, h5, h6⟩
    exact ⟨h3, HV.out.below h5, HT.out.below h5, h6⟩
  case assign =>
    intro l z u W K hK
    gi_wp2
    exact hK
  case body =>
    rintro l pre x u W ⟨lv, h1, h2, h3, ⟨us, o1, o2, o3⟩, h5, h6⟩ hown hpre
    have hc1 := h1.cell
    have hf1 := h1.frozen
    have hc2 := h2.cell
    have hf2 := h2.frozen
    have hpl : pre.length ≤ 1073741824 := by
      obtain ⟨r, hr⟩ := hpre
      have := congrArg List.length hr
      simp at this
      omega
    obtain ⟨pu, cu, rfl, _, _, _, _⟩ := own_row hown
    have HO : Hid (W.ownsRow w1.heap.size 5 1 (.slice pu x.length cu) x.length (x.map (Value.int .u8))) := hown
    have HO3 : Hid (∀ i, i < pre.length → W.ownsRow w1.heap.size 5 1 (us.getD i undef) (pre.getD i []).length ((pre.getD i []).map (Value.int .u8))) := o3
    have HX1 : Hid (Boxed W w.heap.size 23 lv) := h1
    have HX2 : Hid (Boxed W (w.heap.size + 1) 3 (.int .i64 ((flen pre : Nat) : Int))) := h2
    have HX3 : Hid (Boxed W (w.heap.size + 2) 22 (.slice p b.length cap)) := h3
    clear hown o3 h1 h2 h3 hpre
    gi_wp2_with (gi_at_builtin; refine wpListIn_append_own _ rfl (.tmp 16) (.tmp 18) 23 rfl w1.heap.size 22 i0 (.slice none 0 0) 1 24 Tryd.underlying23 hI0 hz0 hz1 hz2 rfl (by decide) _ _ _ rfl (o2.alloc _) ⟨W.heap.size, 0, none⟩ 1 1 [.slice pu x.length cu] rfl rfl ?c1 ?c2 ?c3 ?c4 ?c5 ?_)
    case c1 => intro j u' hj; cases j with | zero => (simp at hj; subst hj; simp [Addr.add]) | succ j => simp at hj
    case c2 => intro u' hu'; simp at hu'; subst hu'; rfl
    case c3 => unfold maxLen; omega
    case c4 => omega
    case c5 => simp; omega
    intro lv' w2 hown2 hg2 _
    have z2 := z1.out
    have hsl : ∃ g c, lv' = .slice (some ⟨g, 0, none⟩) (pre.length + 1) c := by
      rcases hown2.2 with ⟨_, h⟩ | ⟨g, c, _, h, _⟩
      · omega
      · exact ⟨g, c, h⟩
    obtain ⟨gl, cl, rfl⟩ := hsl
    have hne23 : (23 : TypeId) ≠ 22 := by decide
    have K1 : Boxed w2 w.heap.size 23 lv := (HX1.out.alloc _).kept hg2 (HX1.out.not_row hne23 o2)
    have K2 : Boxed w2 (w.heap.size + 1) 3 (.int .i64 ((flen pre : Nat) : Int)) := (HX2.out.alloc _).kept hg2 (HX2.out.not_row (by decide) o2)
    have K3 : Boxed w2 (w.heap.size + 2) 22 (.slice p b.length cap) := (HX3.out.alloc _).kept hg2 (fun e => by have := (o2.lt _ e.symm).1; omega)
    have HKO : Hid (KeepsOthers W w2) := keeps_append o2 hg2
    have HBL : Hid (Below w.heap.size W w2) := below_append o2 hg2 (by omega) (by omega)
    have HOL : Hid (OwnL w1.heap.size w2 (.slice (some ⟨gl, 0, none⟩) (pre.length + 1) cl) (pre ++ [x])) := OwnL.snoc o1 (o2.alloc _) (fun i hi => (HO3.out i hi).alloc _) (HO.out.alloc _) hg2 hown2
    have HK1 : Hid (Boxed w2 w.heap.size 23 lv) := K1
    have HK2 : Hid (Boxed w2 (w.heap.size + 1) 3 (.int .i64 ((flen pre : Nat) : Int))) := K2
    have HK3 : Hid (Boxed w2 (w.heap.size + 2) 22 (.slice p b.length cap)) := K3
    have hkc1 := K1.cell
    have hkf1 := K1.frozen
    have hkc2 := (K2.other (show w.heap.size + 1 ≠ w.heap.size by omega) (.slice (some ⟨gl, 0, none⟩) (pre.length + 1) cl)).cell
    have hkf2 := (K2.other (show w.heap.size + 1 ≠ w.heap.size by omega) (.slice (some ⟨gl, 0, none⟩) (pre.length + 1) cl)).frozen
    have hfl : Hid ((flen pre : Int) + (12 + (x.length : Int)) = ((flen (pre ++ [x]) : Nat) : Int)) := by show _ = _; rw [flen_snoc]; omega
    clear z2 K1 K2 K3 hown2 hg2 HO HO3 HX1 HX2 HX3 hc1 hf1 hc2 hf2
    gi_wp2
    rw [hfl.out]
    have z1 := z1.out
    have hs2 := HKO.out.size
    exact ⟨((HKO.out.trans (KeepsOthers.setCell _ _ _)).trans (KeepsOthers.setCell _ _ _)).from _, _, (HK1.out.set _).other (by omega) _, (HK2.out.other (by omega) _).set _, (HK3.out.other (by omega) _).other (by omega) _,
      (HOL.out.set (by omega)).set (by omega), ((h5.trans HBL.out).setCell (p := ⟨w.heap.size, 0, none⟩) (Nat.le_refl _) _).setCell (p := ⟨w.heap.size + 1, 0, none⟩) (Nat.le_succ _) _, by simp; omega⟩
  case done =>
    rintro D W hD ⟨lv, h1, h2, h3, h4, h5, h6⟩ hK
    have hc1 := h1.cell
    have hc2 := h2.cell
    have hfb := loads_flen b
    have HL4 : Hid (OwnL w1.heap.size W lv (loads b)) := h4
    have HZ : Hid (w1.heap.size ≤ W.heap.size) := h6
    have z1 := z1.out
    clear h4 h6
    by_cases hend : flen (loads b) = b.length
    · have HE : Hid (errAt b = 0) := if_pos hend
      have hend' : (((flen (loads b) : Nat) : Int) == (b.length : Int)) = true := by rw [hend]; simp
      clear hend
      gi_wp2
      gi_region
      gi_wp2_with fail
      have hK' : W.drew.heap[D]? = some (.deferred (some [])) := hK
      refine ⟨by simp, .inl ⟨_, _, rfl, run_takeDeferred hK', ?_⟩⟩
      refine ⟨_, results_tmp3 rfl _ _ _, lv, by rw [HE.out]; rfl, ((HL4.out.below ((Below.refl _ _).drew)).putObj _ hK' rfl).base (by omega), h5.drew.trans (belowK_b (w := w) (Nat.le_refl _) W.drew D _ _ (by omega) hK' rfl rfl)⟩
    · obtain ⟨x, m, er, hf⟩ : ∃ x m er, takeL (b.drop (flen (loads b))) = (x, m, er) := ⟨_, _, _, rfl⟩
      have HE : Hid (errAt b = er) := by show _ = _; unfold errAt; rw [if_neg hend, hf]
      have HF : Hid (takeL (b.drop (flen (loads b))) = (x, m, er)) := hf
      have HX1 : Hid (Boxed W w.heap.size 23 lv) := h1
      have HX2 : Hid (Boxed W (w.heap.size + 1) 3 (.int .i64 ((flen (loads b) : Nat) : Int))) := h2
      clear hf h1 h2 h3
      generalize hk : flen (loads b) = k at *
      have HKK : Hid (flen (loads b) = k) := hk
      have hend' : ((k : Int) == (b.length : Int)) = false := by simp; omega
      have k3 : ¬ cap = k := by omega
      have hlt : k < b.length := by omega
      clear hend hk
      gi_wp2_with fail
      refine ⟨trivial, fun _ => by omega, (callsIn_wide.2 (take_at ((HV.out.below h5).cut (by omega)) (HU.out.drop k) (HT.out.below h5) (by rw [List.length_drop]; omega) HF.out)).mono ?_⟩
      rintro r w5 ⟨u, rfl, _, hb5⟩
      have hq1 : Boxed w5 w.heap.size 23 lv := below_box hb5 HX1.out
      have hc1 := hq1.cell
      have hq2 : Boxed w5 (w.heap.size + 1) 3 (.int .i64 (k : Int)) := below_box hb5 HX2.out
      have hc2 := hq2.cell
      have B5 : Below w.heap.size w w5 := h5.trans (hb5.mono h5.size)
      have HL5 : Hid (OwnL w1.heap.size w5 lv (loads b)) := HL4.out.below hb5
      have hK5 : Hid (w5.heap[D]? = some (.deferred (some []))) := below_box hb5 hK
      clear hq1 hq2 hb5 h5 hK HL4 HX1 HX2 HF
      gi_wp2
      gi_region
      gi_wp2_with fail
      have hK' : w5.drew.heap[D]? = some (.deferred (some [])) := hK5.out
      refine ⟨by simp, .inl ⟨_, _, rfl, run_takeDeferred hK', ?_⟩⟩
      refine ⟨_, results_tmp3 rfl _ _ _, lv, by rw [HE.out, HKK.out]; rfl, ((HL5.out.below ((Below.refl _ _).drew)).putObj _ hK' rfl).base (by omega), B5.drew.trans (belowK_b (w := w) (Nat.le_refl _) w5.drew D _ _ (by omega) hK' rfl rfl)⟩

theorem scan_any {v : Value} {b : List Int} {w : World} (hv : Row .u8 w v b) (hu : U8 b) (ht : Tabs w) (hbig : b.length ≤ 1073741824) :
    Calls Tryd.prog 19 #[v] w fun e w' => ∃ lv, e = .returned (.tuple #[lv, .int .i64 ((flen (loads b) : Nat) : Int), .int .i64 (errAt b)]) ∧ OwnL w.heap.size w' lv (loads b) ∧ Below w.heap.size w w' :=
  callsIn_wide.1 (scan_in 3 (Nat.le_refl _) hv hu ht hbig)

end Go.Proofs.YtcdjbfapldepaaaDoor
