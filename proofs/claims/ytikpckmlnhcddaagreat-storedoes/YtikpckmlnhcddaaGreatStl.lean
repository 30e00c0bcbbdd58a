/-
  What settleAll does: no file has pending writes any more. The conditions: the store lies as stores do, within its limits.
-/
import Derived.Test.YtikpckmlnhcddaaGreatOrd
namespace Go.Proofs.YtikpckmlnhcddaaGreat
open Go.RowKit Go.Shelf Go.Maps
attribute [local go_sem] Oper.semAt_some

theorem keeps_step {W W' : World} {sb mb pend turn B : Nat} {left : Int} {fs : List MF} {up : Bool} (h : SRep W sb mb fs left pend turn up) (ho : Only (own sb mb fs) W W') (hmb : mb < B) : KeepsFrom B W W' := by
  refine ⟨ho.size, fun k o hk hko hc => ?_⟩
  refine ho.obj hko (fun hown => ?_)
  rcases hown with rfl | rfl | ⟨f, hf, hi⟩
  · rw [h.box] at hko; cases hko; simp [Obj.isCells] at hc
  · omega
  · obtain ⟨cur, e, he, _⟩ := (h.files f hf).own_kind hi
    rw [he] at hko; cases hko; simp [Obj.isCells] at hc

/-- Nothing pending, else the same. -/
structure Calm (f g : MF) : Prop where
  name : g.name = f.name
  fb : g.fb = f.fb
  c : g.c = f.c
  ws : g.ws = []

/-- What holds behind k rounds. -/
def SetI (fs : List MF) (w : World) (sb mb : Nat) (left : Int) (pend turn k : Nat) (up : Bool) (W : World) : Prop :=
  ∃ gs : List MF, gs.length = min k fs.length ∧ (∀ i (h : i < gs.length) (h' : i < fs.length), Calm fs[i] gs[i]) ∧ SRep W sb mb (gs ++ fs.drop k) left (pend - ((fs.take k).flatMap (·.ws)).length) turn up ∧ Step w W sb mb fs (gs ++ fs.drop k)

set_option maxRecDepth 100000 in
set_option maxHeartbeats 4000000 in
theorem settleAll_in (n : Nat) (hn : 3 ≤ n) {W : World} {sb mb pend turn : Nat} {left : Int} {fs : List MF} {up : Bool} (h : SRep W sb mb fs left pend turn up) (hlen : fs.length ≤ 4194304) (hp : (fs.flatMap (·.ws)).length ≤ pend) (hpb : pend ≤ 2199023255552) (hnm : ∀ f ∈ fs, f.name.length ≤ maxLen) (hcl : ∀ f ∈ fs, f.c.length ≤ 4194304) :
    CallsIn Fence.wide n Tryz.prog 59 #[.pointer (some ⟨sb, 0, none⟩)] W fun e w' => e = .returned (.tuple #[]) ∧ ∃ gs : List MF, gs.length = fs.length ∧ (∀ i (h : i < gs.length) (h' : i < fs.length), Calm fs[i] gs[i]) ∧ SRep w' sb mb gs left (pend - (fs.flatMap (·.ws)).length) turn up ∧ Step W w' sb mb fs gs := by
  have hb1 := alloc_below W (.cells #[.pointer (some ⟨sb, 0, none⟩)] 24)
  have H := hide h
  have HX1 : Hid (Boxed (W.alloc (.cells #[.pointer (some ⟨sb, 0, none⟩)] 24)) W.heap.size 24 (.pointer (some ⟨sb, 0, none⟩))) := hide (Boxed.new W _ _)
  have HS1 := hide (h.fresh hb1)
  have HN1 := hide (names_any HS1.out hlen)
  have HB1 := hide hb1
  have hsz1 : (W.alloc (.cells #[.pointer (some ⟨sb, 0, none⟩)] 24)).heap.size = W.heap.size + 1 := by simp
  clear h hb1
  refine callsIn_of_wp_marks Tryz.func59 rfl trivial ?_ rfl
  simp only [Tryz.ntmps59, List.size_toArray, List.length_cons, List.length_nil, Nat.reduceAdd, Nat.reduceSub, Array.replicate_succ, Array.replicate_zero, List.push_toArray, List.append_toArray, List.nil_append, List.cons_append]
  gi_wp2_with fail
  refine ⟨trivial, fun _ => by omega, (callsIn_wide.2 HN1.out).mono ?_⟩
  rintro _ w3 ⟨kN, vN, rfl, hbN, hrN, hb4, hkN⟩
  have HS := hide (HS1.out.fresh hb4)
  have HX : Hid (Boxed w3 W.heap.size 24 (.pointer (some ⟨sb, 0, none⟩))) := hide (below_box hb4 HX1.out)
  have HB : Hid (Below W.heap.size W w3) := hide (HB1.out.trans (hb4.mono HB1.out.size))
  have HBN := hide hbN
  have hkN' : W.heap.size + 1 ≤ kN := by rw [← hsz1]; exact hkN
  have hrN3 : Hid (∀ b, vN.ownBlock = some b → W.heap.size < b) := hide (fun b hb => by have := own_block_base hrN hb; omega)
  have hrN2 : Hid (w3.ownsRow 0 9 1 vN (fs.map MF.name).length ((fs.map MF.name).map strV)) := by
    have := own_base hrN (Nat.zero_le _)
    rw [List.length_map, List.map_map]
    exact hide this
  clear HN1 HS1 HX1 HB1 hbN hrN hb4 hkN hsz1
  have hlt : ∀ i, own sb mb fs i → i < W.heap.size := fun i hi => H.out.own_lt hi
  gi_wp2_with fail
  refine range_list (by omega) (values_tells (n - 1) (by omega) (Bk := kN) (base := 0) (v := vN) (ns := fs.map MF.name) (by simpa using hlen)) rfl enValues ?size (fun k => SetI fs w3 sb mb left pend turn k up) (fun _ _ _ => False) ?grows ?puts (fun _ _ _ _ _ _ h => h.elim) ?reads ?start
    (fun x => { tmps := #[.pointer (some ⟨sb, 0, none⟩), .pointer (some ⟨W.heap.size, 0, none⟩), x.getD 0 undef, undef, .pointer (some ⟨sb, 0, none⟩), .func (.func 81) #[] #[.pointer (some ⟨kN, 0, none⟩)], x.getD 0 undef, undef, undef, undef, undef, undef, undef, undef, undef, undef, undef, undef, undef, undef, undef, undef, undef, undef, undef, undef, undef, undef, undef, undef], defers := [] }) ?assign ?body ?done (fun _ _ _ _ _ _ h => h.elim)
  case size => intro k hk; simp at hk; simp [List.getD, List.getElem?_eq_getElem hk]
  case grows =>
    rintro W1 W2 ⟨gs, h1, h2, h3, h4⟩ hb
    exact ⟨gs, h1, h2, h3.fresh hb, h4.trans (Step.fresh hb)⟩
  case puts =>
    rintro k W1 l o o' ⟨gs, h1, h2, h3, h4⟩ hl ho hc
    have ho1 : Only (· = l) W1 (W1.putObj l o') := Only.of_grown (grownBy_putObj' W1 l o') (fun k e => by simpa using e.symm)
    have hno : ∀ i, own sb mb (gs ++ fs.drop k) i ∨ covs (gs ++ fs.drop k) i → i ≠ l := fun i hi e => by
      subst e
      rcases hi with (rfl | rfl | ⟨f, hf, hi⟩) | ⟨f, hf, hi⟩
      · rw [h3.box] at ho; cases ho; simp [Obj.isCells] at hc
      · have := hlt i (.inr (.inl rfl)); have := HB.out.size; omega
      · obtain ⟨cur, e, he, _⟩ := (h3.files f hf).own_kind hi
        rw [he] at ho; cases ho; simp [Obj.isCells] at hc
      · obtain ⟨cur, he⟩ := (h3.files f hf).cov_kind hi
        rw [he] at ho; cases ho; simp [Obj.isCells] at hc
    exact ⟨gs, h1, h2, h3.only ho1 (fun i hi => hno i (.inl hi)) (fun i hi => hno i (.inr hi)), ⟨h4.only.step ho1 (fun i e => .inr (by omega)), h4.own, h4.cov⟩⟩
  case reads =>
    rintro k W1 ⟨gs, h1, h2, h3, h4⟩
    refine ⟨h4.only.obj HBN.out (fun hi => by have := hlt _ hi; omega), ownsRow_only hrN2.out h4.only (fun b hb hi => ?_)⟩
    have := hlt _ hi
    have := hrN3.out b hb
    omega
  case start => exact ⟨[], by simp, by simp, by simpa using HS.out, by simpa using Step.refl w3 sb mb fs⟩
  case assign =>
    intro l k W' K hk hK
    simp at hk
    have e : (((fs.map MF.name).map fun n => #[strV n])).getD k #[] = #[.string ⟨(fs[k].name).toArray⟩] := by simp [List.getD, List.getElem?_eq_getElem hk, strV]
    rw [e] at hK ⊢
    gi_wp2
    exact hK
  case body =>
    intro l k W' hI hk hsz
    simp at hk
    have e : (((fs.map MF.name).map fun n => #[strV n])).getD k #[] = #[.string ⟨(fs[k].name).toArray⟩] := by simp [List.getD, List.getElem?_eq_getElem hk, strV]
    rw [e]
    simp only [Array.getD_eq_getD_getElem?, List.getElem?_toArray, List.getElem?_cons_zero, Option.getD_some]
    obtain ⟨gs, h1, h2, h3, h4⟩ := hI
    have h1' : gs.length = k := by omega
    obtain ⟨f, hf⟩ : ∃ f, f = fs[k] := ⟨_, rfl⟩
    have hfm : f ∈ fs := by rw [hf]; exact List.getElem_mem hk
    have hdr : fs.drop k = f :: fs.drop (k + 1) := by rw [hf]; exact List.drop_eq_getElem_cons hk
    obtain ⟨r, hr⟩ : ∃ r, r = fs.drop (k + 1) := ⟨_, rfl⟩
    rw [← hr] at hdr
    rw [hdr] at h3 h4
    have htk : (fs.take (k + 1)).flatMap (·.ws) = (fs.take k).flatMap (·.ws) ++ f.ws := by
      rw [List.take_succ_eq_append_getElem hk, List.flatMap_append, hf]
      simp
    have htot : ((fs.take k).flatMap (·.ws)).length + f.ws.length ≤ pend := by
      have e1 : fs = fs.take k ++ f :: r := by rw [hr, hf]; simp
      have e2 := congrArg (fun l => (l.flatMap (·.ws)).length) e1
      simp only [List.flatMap_append, List.flatMap_cons, List.length_append] at e2
      omega
    obtain ⟨ps, hps⟩ : ∃ ps, ps = ((fs.take k).flatMap (·.ws)).length := ⟨_, rfl⟩
    rw [← hps] at htot h3
    have HX' : Hid (Boxed W' W.heap.size 24 (.pointer (some ⟨sb, 0, none⟩))) := hide (h4.only.obj HX.out (fun hi => by have := hlt _ hi; omega))
    have hlk := (map_look h3.map (s := ⟨f.name.toArray⟩) (by have := hnm f hfm; simpa [ByteArray.size] using this)).2
    have hfo : fileOf (gs ++ f :: r) f.name = some f := by
      have := fileOf_get h3.sorted (k := gs.length) (by simp)
      simpa using this
    unfold ptrOf at hlk
    simp only at hlk
    rw [hfo] at hlk
    simp only [Option.map_some] at hlk
    rw [← hf]
    have HFK := hide hf
    have HR := hide hr
    have HPS := hide hps
    have HTK := hide htk
    obtain ⟨nm, hnm1⟩ : ∃ nm : ByteArray, nm = ⟨f.name.toArray⟩ := ⟨_, rfl⟩
    rw [← hnm1] at hlk ⊢
    have hx := HX'.out.cell
    have hc0 := (box_cells h3.box).1
    have hF := h3.files f (by simp)
    obtain ⟨_, d1, _, _⟩ := hF.fcells
    obtain ⟨pp, pc, hpe, hp1, hp2⟩ := own_form hF.pen
    rw [hpe] at d1
    have hcf := hcl f hfm
    have H1 := hide h1'
    have H2 := hide h2
    have H3 := hide h3
    have H4 := hide h4
    have HMB : Hid (mb < w3.heap.size) := hide (by have := hlt mb (.inr (.inl rfl)); have := HB.out.size; omega)
    have HLT := hide hlt
    clear hf hnm1 e hr hps htk hdr h1 h1' h2 h3 h4 hF hfo hfm hlt
    by_cases h0 : f.ws.length = 0
    · have hws : Hid (f.ws = []) := hide (List.eq_nil_of_length_eq_zero h0)
      rw [h0] at d1
      gi_wp2
      have hl := H1.out
      refine ⟨KeepsFrom.refl _ _, gs ++ [f], ?_, ?_, ?_, ?_⟩
      · simp; omega
      · intro i hi hi'
        by_cases hik : i < gs.length
        · have := H2.out i hik hi'
          simpa [List.getElem_append_left hik] using this
        · have : i = gs.length := by simp at hi; omega
          subst this
          simp only [List.getElem_append_right (Nat.le_refl _), Nat.sub_self, List.getElem_cons_zero]
          have e1 : fs[gs.length] = f := by rw [HFK.out]; simp [hl]
          rw [e1]
          exact ⟨rfl, rfl, rfl, hws.out⟩
      · have := H3.out
        rw [HTK.out, hws.out, List.append_nil, ← HPS.out, ← HR.out]
        simpa using this
      · have := H4.out
        rw [← HR.out]
        simpa using this
    · have hg0 : 0 < f.ws.length := by omega
      gi_wp2_with fail
      refine ⟨trivial, fun _ => by omega, ((callsIn_wide.2 (settle_rep H3.out (by omega) (by omega))).inRound l).mono ?_⟩
      rintro _ w5 ⟨rfl, h5, t5⟩
      have hF5 := h5.files (settled f) (by simp)
      obtain ⟨d0, _, g0, _⟩ := hF5.fcells
      have d0' : w5.cell? ⟨f.fb, 0, none⟩ = some f.cv := d0
      have g0' : w5.frozen? ⟨f.fb, 0, none⟩ = false := g0
      obtain ⟨pq, qc, hce, _, _⟩ := own_form hF5.con
      have hce' : f.cv = .slice pq f.c.length qc := hce
      rw [hce'] at d0'
      have HRW : Hid (Row .u8 w5 (.slice pq f.c.length qc) f.c) := by
        have := own_row hF5.con
        rw [hce] at this
        exact hide this
      have H5 := hide h5
      have T5 := hide t5
      clear h5 t5 hF5 d0 g0 hce hce' hx hc0 hlk d1
      gi_wp2_with fail
      refine ⟨trivial, fun _ => by omega, ((callsIn_wide.2 (clone_len HRW.out (by omega) rfl)).inRound l).mono ?_⟩
      rintro _ w6 ⟨p6, c6, rfl, o6, b6⟩
      have d6 := cell_later b6 d0'
      have g6 : w6.frozen? ⟨f.fb, 0, none⟩ = false := by
        have hbx := (H5.out.fresh b6).files (settled f) (by simp)
        exact hbx.fcells.2.2.1
      have H6 := hide (H5.out.fresh b6)
      have O6 := hide o6
      have B6 := hide b6
      clear o6 b6 d0' g0'
      gi_wp2
      have hFs := H6.out.files (settled f) (by simp)
      obtain ⟨r1, r2⟩ := hFs.setConNew (.slice p6 f.c.length c6) f.c (own_base O6.out (Nat.zero_le _)) hFs.u8
      have hch : Chg w5 (w6.setCell ⟨f.fb, 0, none⟩ (.slice p6 f.c.length c6)) (settled f) { settled f with c := f.c, cv := .slice p6 f.c.length c6 } :=
        ⟨(Only.fresh B6.out _).trans r2, r1, rfl, rfl, fun b hb => .inr (own_block_base O6.out hb), fun b hb => .inl hb, fun b hb => .inl hb, fun x hx => by simp [settled] at hx⟩
      have h7 := H5.out.change hch
      have t7 := T5.out.trans hch.step
      have hl := H1.out
      refine ⟨keeps_step H3.out t7.only HMB.out, gs ++ [{ settled f with c := f.c, cv := .slice p6 f.c.length c6 }], ?_, ?_, ?_, ?_⟩
      · simp; omega
      · intro i hi hi'
        by_cases hik : i < gs.length
        · have := H2.out i hik hi'
          simpa [List.getElem_append_left hik] using this
        · have : i = gs.length := by simp at hi; omega
          subst this
          simp only [List.getElem_append_right (Nat.le_refl _), Nat.sub_self, List.getElem_cons_zero]
          have e1 : fs[gs.length] = f := by rw [HFK.out]; simp [hl]
          rw [e1]
          exact ⟨rfl, rfl, rfl, rfl⟩
      · rw [HTK.out, List.length_append, ← HPS.out, ← Nat.sub_sub, ← HR.out]
        simpa using h7
      · have := H4.out.trans t7
        rw [← HR.out]
        simpa using this
  case done =>
    rintro D W4 hD ⟨gs, h1, h2, h3, h4⟩ hK
    have el : (((fs.map MF.name).map fun n => #[strV n])).length = fs.length := by simp
    rw [el] at h1 h3 h4
    rw [List.drop_length, List.append_nil] at h3 h4
    rw [List.take_length] at h3
    have hmb : ∀ i, own sb mb gs i ∨ covs gs i → i ≠ D := fun i hi e => by
      subst e
      rcases hi with (rfl | rfl | ⟨f, hf, hi⟩) | ⟨f, hf, hi⟩
      · rw [h3.box] at hK; cases hK
      · have := hlt i (.inr (.inl rfl)); have := HB.out.size; omega
      · obtain ⟨cur, e, he, _⟩ := (h3.files f hf).own_kind hi
        rw [he] at hK; cases hK
      · obtain ⟨cur, he⟩ := (h3.files f hf).cov_kind hi
        rw [he] at hK; cases hK
    gi_wp2
    refine ⟨by simp, .inl ⟨_, _, rfl, run_takeDeferred hK, ?_⟩⟩
    have ho1 : Only (· = D) W4 (W4.putObj D (.deferred none)) := Only.of_grown (grownBy_putObj' W4 D _) (fun k e => by simpa using e.symm)
    refine ⟨_, results_none rfl _ _ _, rfl, gs, by omega, h2, h3.only ho1 (fun i hi => hmb i (.inl hi)) (fun i hi => hmb i (.inr hi)), ?_⟩
    have t0 : Step W w3 sb mb fs fs := Step.fresh HB.out
    have t1 := t0.trans h4
    exact ⟨t1.only.step ho1 (fun i e => .inr (by have := HB.out.size; omega)), t1.own, t1.cov⟩
theorem settleAll_any {W : World} {sb mb pend turn : Nat} {left : Int} {fs : List MF} {up : Bool} (h : SRep W sb mb fs left pend turn up) (hlen : fs.length ≤ 4194304) (hp : (fs.flatMap (·.ws)).length ≤ pend) (hpb : pend ≤ 2199023255552) (hnm : ∀ f ∈ fs, f.name.length ≤ maxLen) (hcl : ∀ f ∈ fs, f.c.length ≤ 4194304) :
    Calls Tryz.prog 59 #[.pointer (some ⟨sb, 0, none⟩)] W fun e w' => e = .returned (.tuple #[]) ∧ ∃ gs : List MF, gs.length = fs.length ∧ (∀ i (h : i < gs.length) (h' : i < fs.length), Calm fs[i] gs[i]) ∧ SRep w' sb mb gs left (pend - (fs.flatMap (·.ws)).length) turn up ∧ Step W w' sb mb fs gs :=
  callsIn_wide.1 (settleAll_in 3 (Nat.le_refl _) h hlen hp hpb hnm hcl)
end Go.Proofs.YtikpckmlnhcddaaGreat
