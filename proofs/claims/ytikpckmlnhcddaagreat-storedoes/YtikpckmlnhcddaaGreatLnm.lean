/-
  The law's names of a store: its files' names. The conditions: lengths.
-/
import Derived.Test.YtikpckmlnhcddaaGreatPgm
namespace Go.Proofs.YtikpckmlnhcddaaGreat
open Go.RowKit Go.Maps
attribute [local go_sem] Oper.semAt_some

theorem Tryz.infoSt : (Tryz.prog.info? 9).map (fun i => (i.zero, i.size, i.bytes)) = some (some (.string ⟨#[]⟩), 1, 16) := by kernel_rfl
/-- What holds behind k names: they lie in a row of the call's own. -/
def LnI (ns : List Nm) (W0 w2 : World) (k : Nat) (X : World) : Prop := ∃ lv, Boxed X W0.heap.size 42 lv ∧ X.ownsRow w2.heap.size 9 1 lv k ((ns.take k).map strV) ∧ Only (· = W0.heap.size) w2 X

set_option maxRecDepth 100000 in
set_option maxHeartbeats 4000000 in
theorem lnames_in (n : Nat) (hn : 4 ≤ n) {W : World} {sb mb pend turn : Nat} {left : Int} {fs : List MF} {up : Bool} (h : SRep W sb mb fs left pend turn up) (hlen : fs.length ≤ 4194304) :
    CallsIn Fence.wide n Tryz.prog 16 #[.pointer (some ⟨sb, 0, none⟩)] W fun e w' => ∃ p cap, e = .returned (.slice p fs.length cap) ∧ w'.ownsRow W.heap.size 9 1 (.slice p fs.length cap) fs.length ((fs.map MF.name).map strV) ∧ Below W.heap.size W w' := by
  obtain ⟨i0, hI0, hz0, hz1, hz2⟩ := info_parts Tryz.infoSt
  have hb1 := alloc_below W (.cells #[.slice none 0 0] 42)
  have HN := hide (names_any (h.fresh hb1) hlen)
  have HX1 : Hid (Boxed (W.alloc (.cells #[.slice none 0 0] 42)) W.heap.size 42 (.slice none 0 0)) := hide (Boxed.new W _ _)
  have HB1 := hide hb1
  clear h hb1
  refine callsIn_of_wp_marks Tryz.func16 rfl trivial ?_ rfl
  simp only [Tryz.ntmps16, List.size_toArray, List.length_cons, List.length_nil, Nat.reduceAdd, Nat.reduceSub, Array.replicate_succ, Array.replicate_zero, List.push_toArray, List.append_toArray, List.nil_append, List.cons_append]
  gi_wp2_with fail
  refine ⟨trivial, fun _ => by omega, (callsIn_wide.2 HN.out).mono ?_⟩
  rintro _ w2 ⟨kN, vN, rfl, hbN, hrN, hb2, hkN⟩
  have HX2 : Hid (Boxed w2 W.heap.size 42 (.slice none 0 0)) := hide (below_box hb2 HX1.out)
  have HB2 : Hid (Below W.heap.size W w2) := hide (HB1.out.trans (hb2.mono (by simp)))
  have hkN' : W.heap.size + 1 ≤ kN := by simpa using hkN
  have HBN := hide hbN
  have HRN : Hid (w2.ownsRow 0 9 1 vN (fs.map MF.name).length ((fs.map MF.name).map strV)) := by
    have := own_base5 (base' := 0) hrN (Nat.zero_le _)
    rw [List.length_map, List.map_map]
    exact hide this
  have HVN : Hid (vN.ownBlock ≠ some W.heap.size) := hide (fun e => by have := own_block_base hrN e; simp at this; omega)
  have hsz2 : W.heap.size + 1 ≤ w2.heap.size := by have := hb2.size; simpa using this
  clear hbN hrN hb2 hkN HN HX1 HB1
  gi_wp2_with fail
  refine range_list (by omega) (values_tells (n - 1) (by omega) (Bk := kN) (base := 0) (v := vN) (ns := fs.map MF.name) (by simpa using hlen)) rfl enValues ?size (LnI (fs.map MF.name) W w2) (fun _ _ _ => False) ?grows ?puts (fun _ _ _ _ _ _ h => h.elim) ?reads ?start
    (fun x => { tmps := #[.pointer (some ⟨sb, 0, none⟩), undef, .slice none 0 0, .pointer (some ⟨W.heap.size, 0, none⟩), x.getD 0 undef, .pointer (some ⟨sb, 0, none⟩), .func (.func 81) #[] #[.pointer (some ⟨kN, 0, none⟩)], x.getD 0 undef, undef, undef, undef, undef, undef], defers := [] }) ?assign ?body ?done (fun _ _ _ _ _ _ h => h.elim)
  case size => intro k hk; simp at hk; simp [List.getD, List.getElem?_eq_getElem hk]
  case grows =>
    rintro W1 W2 ⟨lv, h1, h2, h3⟩ hb
    exact ⟨lv, below_box hb h1, ownsRow_later h2 hb, h3.trans (Only.fresh hb _)⟩
  case puts =>
    rintro k W1 l o o' ⟨lv, h1, h2, h3⟩ hl ho hc
    exact ⟨lv, (World.putObj_heap_other (by omega)).trans h1, ownsRow_putObj h2 _ ho hc, h3.step (Only.of_grown (F := (· = l)) (grownBy_putObj' W1 l o') (fun k e => by simpa using e.symm)) (fun i e => .inr (by omega))⟩
  case reads =>
    rintro k W1 ⟨lv, h1, h2, h3⟩
    exact ⟨h3.obj HBN.out (by omega), ownsRow_only HRN.out h3 (fun b hb e => by subst e; exact HVN.out hb)⟩
  case start => exact ⟨_, HX2.out, World.ownsRow_nil _ _ _ _, Only.refl _ _⟩
  case assign =>
    intro l k W' K hk hK
    simp at hk
    have e : (((fs.map MF.name).map fun n => #[strV n])).getD k #[] = #[.string ⟨(fs[k].name).toArray⟩] := by simp [List.getD, List.getElem?_eq_getElem hk, strV]
    rw [e] at hK ⊢
    gi_wp2
    exact hK
  case body =>
    intro l k W' hI hk hsz
    simp at hk
    have e : (((fs.map MF.name).map fun n => #[strV n])).getD k #[] = #[.string ⟨(fs[k].name).toArray⟩] := by simp [List.getD, List.getElem?_eq_getElem hk, strV]
    rw [e]
    simp only [Array.getD_eq_getD_getElem?, List.getElem?_toArray, List.getElem?_cons_zero, Option.getD_some]
    obtain ⟨lv, h1, h2, h3⟩ := hI
    obtain ⟨nm, hnm⟩ : ∃ nm, fs[k].name = nm := ⟨_, rfl⟩
    rw [hnm]
    have HTK : Hid (((fs.map MF.name).take (k + 1)).map strV = ((fs.map MF.name).take k).map strV ++ [.string ⟨nm.toArray⟩]) := by
      refine hide ?_
      rw [List.take_succ_eq_append_getElem (by simpa using hk), List.map_append]
      simp [strV, hnm]
    have c1 := h1.cell
    have f1 := h1.frozen
    obtain ⟨lp, lc, rfl, hq1, hq2⟩ := own_form h2
    have hb3 := alloc_below W' (.cells #[.string ⟨nm.toArray⟩] 9 (0, 0))
    have Y2 := hide (ownsRow_later h2 hb3)
    have Y6 : Hid ((W'.alloc (.cells #[.string ⟨nm.toArray⟩] 9 (0, 0))).heap[W'.heap.size]? = some (.cells #[.string ⟨nm.toArray⟩] 9 (0, 0))) := hide (heap_alloc_new _ _)
    have Y3 : Hid (Boxed (W'.alloc (.cells #[.string ⟨nm.toArray⟩] 9 (0, 0))) W.heap.size 42 (.slice lp k lc)) := hide (below_box hb3 h1)
    have Y4 : Hid (Only (· = W.heap.size) w2 (W'.alloc (.cells #[.string ⟨nm.toArray⟩] 9 (0, 0)))) := hide (h3.trans (Only.fresh hb3 _))
    have Y5 : Hid (KeepsFrom w2.heap.size W' (W'.alloc (.cells #[.string ⟨nm.toArray⟩] 9 (0, 0)))) := hide ((KeepsOthers.alloc _ _).from _)
    have hsz3 := h3.size
    clear hnm e h1 h2 h3 hb3
    gi_wp2_with (gi_at_builtin; refine wpListIn_append_own _ rfl (.tmp 8) (.tmp 10) 42 rfl w2.heap.size 9 i0 (.string ⟨#[]⟩) 1 16 Tryz.underlying42 hI0 hz0 hz1 hz2 rfl (by decide) (.slice lp k lc) _ _ rfl Y2.out ⟨W'.heap.size, 0, none⟩ 1 1 [.string ⟨nm.toArray⟩] rfl rfl (World.news_of_block Y6.out) (by simp [Value.oneCell']) ?c3 ?c4 ?c5 ?_)
    case c3 => unfold maxLen; omega
    case c4 => omega
    case c5 => simp; omega
    intro v' w5 hown5 hg5 _
    obtain ⟨p5, cp5, rfl, _, _⟩ := own_form hown5
    have Z1 : Hid (Boxed w5 W.heap.size 42 (.slice lp k lc)) := hide (Y3.out.kept hg5 (Y3.out.not_row (by decide) Y2.out))
    have z1 := Z1.out.cell
    have z2 := Z1.out.frozen
    have Z2 := hide hown5
    have Z3 : Hid (Only (· = W.heap.size) w2 w5) := hide (Y4.out.step (Only.of_grown (F := fun i => (Value.slice lp k lc).ownBlock = some i) hg5 (fun i e => e)) (fun i hi => .inr (own_block_base Y2.out hi)))
    have Z4 : Hid (KeepsFrom w2.heap.size W' w5) := by
      refine hide (Y5.out.trans ((KeepsOthers.of_grownBy hg5 fun b o eb hb => ?_).from _))
      obtain ⟨_, cur, hc⟩ := own_block_lt Y2.out eb
      rw [hc] at hb
      cases hb
      rfl
    clear hown5 hg5 Y2 Y3 Y4 Y5 Y6 c1 f1
    gi_wp2
    refine ⟨Z4.out.trans ((KeepsOthers.setCell _ _ _).from _), .slice p5 (k + 1) cp5, Z1.out.set _, ?_, Z3.out.trans (Only.set _ _ _ _ rfl)⟩
    rw [HTK.out]
    have z5 : w5.ownsRow w2.heap.size 9 1 (.slice p5 (k + 1) cp5) (k + 1) (((fs.map MF.name).take k).map strV ++ [.string ⟨nm.toArray⟩]) := by
      have := Z2.out
      simpa [List.map_take] using this
    refine ownsRow_only (F := (· = W.heap.size)) z5 (Only.set (F := (· = W.heap.size)) _ _ _ _ rfl) (fun b hb e => ?_)
    subst e
    have := own_block_base Z2.out hb
    omega
  case done =>
    rintro D X hD ⟨lv, h1, h2, h3⟩ hK
    have el : (fs.map MF.name).take (((fs.map MF.name).map fun n => #[strV n])).length = fs.map MF.name := List.take_of_length_le (by simp)
    have el2 : (((fs.map MF.name).map fun n => #[strV n])).length = fs.length := by simp
    rw [el] at h2
    rw [el2] at h2
    obtain ⟨p, cap, rfl, _, _⟩ := own_form h2
    have c1 := h1.cell
    have HR := hide h2
    have HB3 : Hid (Below W.heap.size W X) := hide (HB2.out.trans (h3.below HB2.out.size (fun i e => by omega)))
    have HK := hide hK
    clear h1 h2 h3 hK
    gi_wp2
    refine ⟨by simp, .inl ⟨_, _, rfl, run_takeDeferred HK.out, ?_⟩⟩
    exact ⟨_, results_tmp rfl _ _ _, p, cap, rfl, own_base5 (ownsRow_putObj HR.out _ HK.out rfl) HB2.out.size, HB3.out.trans ((Only.of_grown (F := (· = D)) (grownBy_putObj' X D _) (fun k e => by simpa using e.symm)).below HB3.out.size (fun i e => by omega))⟩
theorem lnames_any {W : World} {sb mb N : Nat} {fs : List MF} {r : RC} (h : Prg W sb mb fs r N) :
    Calls Tryz.prog 16 #[.pointer (some ⟨sb, 0, none⟩)] W fun e w' => ∃ p cap, e = .returned (.slice p (r.L.map CF.name).length cap) ∧ w'.ownsRow W.heap.size 9 1 (.slice p (r.L.map CF.name).length cap) (r.L.map CF.name).length ((r.L.map CF.name).map strV) ∧ Below W.heap.size W w' := by
  obtain ⟨J, left, pend, turn, h1, h2⟩ := h
  rw [h2.names, List.length_map]
  exact callsIn_wide.1 (lnames_in 4 (Nat.le_refl _) h1 (by have := h2.files; omega))
end Go.Proofs.YtikpckmlnhcddaaGreat
