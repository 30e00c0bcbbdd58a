/-
  What order answers: the pending writes of all files, as they came. The conditions: the store lies as stores do, within its limits.
-/
import Derived.Test.YtikpckmlnhcddaaGreatSrt
namespace Go.Proofs.YtikpckmlnhcddaaGreat
open Go.RowKit Go.Shelf Go.Maps
attribute [local go_sem] Oper.semAt_some

def placedOf (f : MF) : List PL := f.ws.map fun x => ⟨f.fb, x⟩

theorem Tryz.infoPl : (Tryz.prog.info? 95).map (fun i => (i.zero, i.size, i.bytes)) = some (some (.agg #[.pointer none, .int .i64 0, .int .i64 0, .int .i64 0, .slice none 0 0]), 5, 56) := by kernel_rfl

theorem below_box {w w' : World} {g : Nat} {o : Obj} (h : Below w.heap.size w w') (hk : w.heap[g]? = some o) : w'.heap[g]? = some o := (h.block g (Array.getElem?_eq_some_iff.1 hk).1).trans hk
theorem enValues : ∀ args w, (callFunc 81 args).run Tryz.prog w = .ok (.enter 81 args) w := enters_of Tryz.func81 (by kernel_rfl) rfl
/-- What order's rounds may turn: the variable all, and rows of pending writes with their files. -/
def OrdF (w : World) (bs aB : Nat) (i : Nat) : Prop := i = aB ∨ (bs ≤ i ∧ ∃ cur, w.heap[i]? = some (.cells cur 95 (0, 0)))
/-- What holds behind k rounds. -/
def OrdI (fs : List MF) (w : World) (bs aB k : Nat) (W : World) : Prop :=
  ∃ av, Boxed W aB 86 av ∧ W.ownsRow bs 95 5 av ((fs.take k).flatMap placedOf).length (((fs.take k).flatMap placedOf).flatMap PL.cells) ∧ Only (OrdF w bs aB) w W

theorem SRep.not_placed {W : World} {sb mb pend turn : Nat} {left : Int} {fs : List MF} {up : Bool} (h : SRep W sb mb fs left pend turn up) {i : Nat} (hi : own sb mb fs i ∨ covs fs i) : ¬ ∃ cur, W.heap[i]? = some (.cells cur 95 (0, 0)) := by
  rintro ⟨cur, hc⟩
  rcases hi with (rfl | rfl | ⟨f, hf, hi⟩) | ⟨f, hf, hi⟩
  · rw [h.box] at hc; simp at hc
  · obtain ⟨es, clock, hb, _⟩ := h.map
    rw [hb] at hc; simp at hc
  · rcases hi with rfl | hi | hi
    · rw [(h.files f hf).box] at hc; simp at hc
    · obtain ⟨_, c', h'⟩ := own_block_lt (h.files f hf).con hi
      rw [h'] at hc; simp at hc
    · obtain ⟨_, c', h'⟩ := own_block_lt (h.files f hf).pen hi
      rw [h'] at hc; simp at hc
  · obtain ⟨c', h'⟩ := (h.files f hf).cov_kind hi
    rw [h'] at hc; simp at hc
theorem box_not {w : World} {i aB : Nat} {cs : Array Value} {e : TypeId} (h : w.heap[i]? = some (.cells cs e (0, 0))) (he : e ≠ 95) (hi : i ≠ aB) {bs : Nat} : ¬ OrdF w bs aB i := by
  rintro (h' | ⟨_, cur, hc⟩)
  · exact hi h'
  · rw [h] at hc; simp at hc; exact he hc.2
theorem row_not {w : World} {base n k aB : Nat} {e : TypeId} {v : Value} {xs : List Value} (h : w.ownsRow base e k v n xs) (he : e ≠ 95) (ha : ∃ cs, w.heap[aB]? = some (.cells cs 86 (0, 0))) (he' : e ≠ 86) {bs : Nat} : Clear (OrdF w bs aB) v := by
  intro b hb
  obtain ⟨_, cur, hc⟩ := own_block_lt h hb
  refine box_not hc he (fun e => ?_)
  subst e
  obtain ⟨cs, hcs⟩ := ha
  rw [hc] at hcs; simp at hcs; exact he' hcs.2
theorem fileOf_get {fs : List MF} (h : fs.Pairwise Bef) {k : Nat} (hk : k < fs.length) : fileOf fs fs[k].name = some fs[k] := by
  unfold fileOf
  induction fs generalizing k with
  | nil => simp at hk
  | cons f fs ih =>
    have hp := List.pairwise_cons.1 h
    cases k with
    | zero => simp
    | succ k =>
      simp only [List.getElem_cons_succ, List.find?_cons]
      have hk' : k < fs.length := by simpa using hk
      have hne : (f.name == (fs[k]).name) = false := by
        have := hp.1 fs[k] (List.getElem_mem hk')
        unfold Bef at this
        apply beq_eq_false_iff_ne.2
        intro e
        rw [e, WideAt.bytes_irrefl] at this
        cases this
      rw [hne]
      exact ih hp.2 hk'

theorem one_pl (a : Addr) (b c d : Int) (p : Option Addr) (n m : Nat) : ∀ u ∈ ([.pointer (some a), .int .i64 b, .int .i64 c, .int .i64 d, .slice p n m] : List Value), u.oneCell' = true := by
  intro u hu
  simp at hu
  rcases hu with rfl | rfl | rfl | rfl | rfl <;> rfl
theorem cells4_get {ws : List MW} {k j : Nat} (hk : k < ws.length) (hj : j < 4) : (ws.flatMap MW.cells)[k * 4 + j]? = (ws[k]).cells[j]? := by
  induction ws generalizing k with
  | nil => simp at hk
  | cons d ds ih =>
    cases k with
    | zero =>
      simp only [List.flatMap_cons, Nat.zero_mul, Nat.zero_add]
      rw [List.getElem?_append_left (by simp [MW.cells]; omega)]
      simp
    | succ k =>
      simp only [List.flatMap_cons]
      rw [List.getElem?_append_right (by simp [MW.cells]; omega)]
      have e : (k + 1) * 4 + j - d.cells.length = k * 4 + j := by simp [MW.cells]; omega
      rw [e, ih (by simpa using hk)]
      simp
theorem write_cells {W : World} {base n cap k : Nat} {p : Option Addr} {ws : List MW} (h : W.ownsRow base 93 4 (.slice p n cap) n (ws.flatMap MW.cells)) (hl : ws.length = n) (hk : k < ws.length) : ∃ g, p = some ⟨g, 0, none⟩ ∧
    W.cell? ⟨g, k * 4, none⟩ = some (.int .i64 (ws[k]).p.turn) ∧ W.cell? ⟨g, k * 4 + 1, none⟩ = some (.int .i64 (ws[k]).p.beg) ∧ W.cell? ⟨g, k * 4 + 2, none⟩ = some (.int .i64 (ws[k]).p.size) ∧ W.cell? ⟨g, k * 4 + 3, none⟩ = some (ws[k]).cov := by
  rcases h.2 with ⟨_, h0⟩ | ⟨g, cap', cur, he, _⟩
  · omega
  · simp only [Value.slice.injEq, true_and] at he
    obtain ⟨rfl, rfl⟩ := he
    have c : ∀ j, j < 4 → W.cell? ⟨g, k * 4 + j, none⟩ = (ws[k]).cells[j]? := fun j hj => by
      rw [h.cellAt (k * 4 + j) (by omega), cells4_get hk hj]
    exact ⟨g, rfl, c 0 (by omega), c 1 (by omega), c 2 (by omega), c 3 (by omega)⟩
/-- What holds behind j rounds of the inner loop. -/
def OrdJ (pre : List PL) (f : MF) (w W0 : World) (bs aB j : Nat) (W : World) : Prop :=
  ∃ av, Boxed W aB 86 av ∧ W.ownsRow bs 95 5 av (pre.length + j) ((pre ++ (placedOf f).take j).flatMap PL.cells) ∧ Only (OrdF w bs aB) w W ∧ KeepsFrom w.heap.size W0 W

set_option maxRecDepth 100000 in
set_option maxHeartbeats 4000000 in
theorem order_in (n : Nat) (hn : 3 ≤ n) {W : World} {sb mb pend turn : Nat} {left : Int} {fs : List MF} {up : Bool} (h : SRep W sb mb fs left pend turn up) (hlen : fs.length ≤ 4194304) (hp : (fs.flatMap placedOf).length = pend) (hpb : pend ≤ 2199023255552) (hnm : ∀ f ∈ fs, f.name.length ≤ maxLen) :
    CallsIn Fence.wide n Tryz.prog 55 #[.pointer (some ⟨sb, 0, none⟩)] W fun e w' => ∃ (p : Option Addr) (cap : Nat) (ds : List PL), e = .returned (.slice p pend cap) ∧ ds.Perm (fs.flatMap placedOf) ∧ ds.Pairwise (fun a b => a.x.p.turn ≤ b.x.p.turn) ∧ w'.ownsRow W.heap.size 95 5 (.slice p pend cap) pend (ds.flatMap PL.cells) ∧ Below W.heap.size W w' := by
  obtain ⟨i0, hI0, hz0, hz1, hz2⟩ := info_parts Tryz.infoPl
  have hb1 := alloc_below W (.cells #[.pointer (some ⟨sb, 0, none⟩)] 24)
  have k2 := cell_later hb1 (box_cells h.box).2.2.1
  have H := hide h
  have HX1 : Hid (Boxed (W.alloc (.cells #[.pointer (some ⟨sb, 0, none⟩)] 24)) W.heap.size 24 (.pointer (some ⟨sb, 0, none⟩))) := hide (Boxed.new W _ _)
  clear h
  refine callsIn_of_wp_marks Tryz.func55 rfl trivial ?_ rfl
  simp only [Tryz.ntmps55, List.size_toArray, List.length_cons, List.length_nil, Nat.reduceAdd, Nat.reduceSub, Array.replicate_succ, Array.replicate_zero, List.push_toArray, List.append_toArray, List.nil_append, List.cons_append]
  gi_wp2_with (gi_at_make; refine wpListIn_make_own _ rfl (.const (.int .i64 0)) (.tmp 11) 86 rfl W.heap.size 95 i0 _ 5 Tryz.underlying86 hI0 hz0 hz1 .i64 .i64 (pend : Int) pend rfl rfl rfl ?b2 ?b3 (by simp) ?_)
  case b2 => rw [hz2]; omega
  case b3 => unfold maxLen; omega
  intro w2 hown2 hg2
  have hb2 : Below W.heap.size W w2 := hb1.grown hg2 (by simp) (by simp)
  have HO2 := hide hown2
  have HB2 := hide hb2
  have HX2 : Hid (Boxed w2 W.heap.size 24 (.pointer (some ⟨sb, 0, none⟩))) := hide (HX1.out.kept hg2 (by simp))
  have hc2 := HX2.out.cell
  have hsz2 : W.heap.size + 1 ≤ w2.heap.size := by have := hg2.size; simpa using this
  clear k2 hown2 hg2 HX1 hb1
  have hb3 := alloc_below w2 (.cells #[.slice (some ⟨W.heap.size + 1, 0, none⟩) 0 pend] 86)
  have k3 := cell_later hb3 hc2
  have hsz3 : (w2.alloc (.cells #[.slice (some ⟨W.heap.size + 1, 0, none⟩) 0 pend] 86)).heap.size = w2.heap.size + 1 := by simp
  have HA3 : Hid (Boxed (w2.alloc (.cells #[.slice (some ⟨W.heap.size + 1, 0, none⟩) 0 pend] 86)) w2.heap.size 86 (.slice (some ⟨W.heap.size + 1, 0, none⟩) 0 pend)) := hide (Boxed.new w2 _ _)
  have HS3 := hide (H.out.fresh (hb2.trans (hb3.mono hb2.size)))
  have HB3 : Hid (Below W.heap.size W (w2.alloc (.cells #[.slice (some ⟨W.heap.size + 1, 0, none⟩) 0 pend] 86))) := hide (hb2.trans (hb3.mono hb2.size))
  have HN3 := hide (names_any HS3.out hlen)
  have HO3 := hide (ownsRow_later HO2.out hb3)
  have HX3 : Hid (Boxed (w2.alloc (.cells #[.slice (some ⟨W.heap.size + 1, 0, none⟩) 0 pend] 86)) W.heap.size 24 (.pointer (some ⟨sb, 0, none⟩))) := hide (HX2.out.alloc _)
  clear hb2 hb3 hc2 HB2 HX2 HO2
  gi_wp2_with fail
  refine ⟨trivial, fun _ => by omega, (callsIn_wide.2 HN3.out).mono ?_⟩
  rintro _ w3 ⟨kN, vN, rfl, hbN, hrN, hb4, hkN⟩
  have HA : Hid (Boxed w3 w2.heap.size 86 (.slice (some ⟨W.heap.size + 1, 0, none⟩) 0 pend)) := hide (below_box hb4 HA3.out)
  have HS := hide (HS3.out.fresh hb4)
  have HO := hide (ownsRow_later HO3.out hb4)
  have HX : Hid (Boxed w3 W.heap.size 24 (.pointer (some ⟨sb, 0, none⟩))) := hide (below_box hb4 HX3.out)
  have HB : Hid (Below W.heap.size W w3) := hide (HB3.out.trans (hb4.mono HB3.out.size))
  have HBN := hide hbN
  have HRN := hide hrN
  have hkN' : w2.heap.size + 1 ≤ kN := by rw [← hsz3]; exact hkN
  have hrN2 : Hid (w3.ownsRow 0 9 1 vN (fs.map MF.name).length ((fs.map MF.name).map strV)) := by
    have := own_base hrN (Nat.zero_le _)
    rw [List.length_map, List.map_map]
    exact hide this
  clear k3 HN3 HA3 HS3 HO3 HX3 HB3 hbN hrN hb4 hkN HRN hsz3
  gi_wp2_with fail
  refine range_list (by omega) (values_tells (n - 1) (by omega) (Bk := kN) (base := 0) (v := vN) (ns := fs.map MF.name) (by simpa using hlen)) rfl enValues ?size (OrdI fs w3 W.heap.size w2.heap.size) (fun _ _ _ => False) ?grows ?puts (fun _ _ _ _ _ _ h => h.elim) ?reads ?start
    (fun x => { tmps := #[.pointer (some ⟨sb, 0, none⟩), .pointer (some ⟨W.heap.size, 0, none⟩), .slice none 0 0, .pointer (some ⟨w2.heap.size, 0, none⟩), x.getD 0 undef, undef, undef, undef, .pointer (some ⟨sb, 0, none⟩), .pointer (some ⟨sb, 0, none⟩), .pointer (some ⟨sb, 2, none⟩), .int .i64 (pend : Int), .slice (some ⟨W.heap.size + 1, 0, none⟩) 0 pend, .pointer (some ⟨sb, 0, none⟩), .func (.func 81) #[] #[.pointer (some ⟨kN, 0, none⟩)], x.getD 0 undef, undef, undef, undef, undef, undef, undef, undef, undef, undef, undef, undef, undef, undef, undef, undef, undef, undef, undef, undef, undef, undef, undef, undef, undef, undef], defers := [] }) ?assign ?body ?done (fun _ _ _ _ _ _ h => h.elim)
  case size => intro k hk; simp at hk; simp [List.getD, List.getElem?_eq_getElem hk]
  case grows =>
    rintro W1 W2 ⟨av, h1, h2, h3⟩ hb
    exact ⟨av, below_box hb h1, ownsRow_later h2 hb, h3.trans (Only.fresh hb _)⟩
  case puts =>
    rintro k W1 l o o' ⟨av, h1, h2, h3⟩ hl ho hc
    have hlt := HA.out.lt
    exact ⟨av, (World.putObj_heap_other (by omega)).trans h1, ownsRow_putObj h2 _ ho hc, h3.step (Only.of_grown (F := (· = l)) (grownBy_putObj' W1 l o') (fun k e => by simpa using e.symm)) (fun i e => .inr (by omega))⟩
  case reads =>
    rintro k W1 ⟨av, h1, h2, h3⟩
    exact ⟨h3.obj HBN.out (box_not HBN.out (by decide) (by omega)), ownsRow_only hrN2.out h3 (row_not hrN2.out (by decide) ⟨_, HA.out⟩ (by decide))⟩
  case start => exact ⟨_, HA.out, by simpa using HO.out, Only.refl _ _⟩
  case assign =>
    intro l k W' K hk hK
    simp at hk
    have e : (((fs.map MF.name).map fun n => #[strV n])).getD k #[] = #[.string ⟨(fs[k].name).toArray⟩] := by simp [List.getD, List.getElem?_eq_getElem hk, strV]
    rw [e] at hK ⊢
    gi_wp2
    exact hK
  case body =>
    intro l k W' hI hk hsz
    simp at hk
    have e : (((fs.map MF.name).map fun n => #[strV n])).getD k #[] = #[.string ⟨(fs[k].name).toArray⟩] := by simp [List.getD, List.getElem?_eq_getElem hk, strV]
    rw [e]
    simp only [Array.getD_eq_getD_getElem?, List.getElem?_toArray, List.getElem?_cons_zero, Option.getD_some]
    obtain ⟨av, h1, h2, h3⟩ := hI
    have hlt : ∀ i, own sb mb fs i ∨ covs fs i → i < w2.heap.size := fun i hi => by
      have : i < W.heap.size := hi.elim (fun h => H.out.own_lt h) (fun h => H.out.cov_lt h)
      omega
    have HS' : Hid (SRep W' sb mb fs left pend turn up) := hide (HS.out.only h3 (fun i hi => by
      rintro (h' | h')
      · have := hlt i (.inl hi); omega
      · exact HS.out.not_placed (.inl hi) h'.2) (fun i hi => by
      rintro (h' | h')
      · have := hlt i (.inr hi); omega
      · exact HS.out.not_placed (.inr hi) h'.2))
    have HX' : Hid (Boxed W' W.heap.size 24 (.pointer (some ⟨sb, 0, none⟩))) := hide (h3.obj HX.out (box_not HX.out (by decide) (by omega)))
    obtain ⟨f, hf⟩ : ∃ f, f = fs[k] := ⟨_, rfl⟩
    have hfm : f ∈ fs := by rw [hf]; exact List.getElem_mem hk
    have hlk := (map_look HS'.out.map (s := ⟨f.name.toArray⟩) (by have := hnm f hfm; simpa [ByteArray.size] using this)).2
    have hfo : fileOf fs f.name = some f := by rw [hf]; exact fileOf_get HS'.out.sorted hk
    unfold ptrOf at hlk
    simp only at hlk
    rw [hfo] at hlk
    simp only [Option.map_some] at hlk
    rw [← hf]
    have HFK := hide hf
    obtain ⟨nm, hnm1⟩ : ∃ nm : ByteArray, nm = ⟨f.name.toArray⟩ := ⟨_, rfl⟩
    rw [← hnm1] at hlk ⊢
    clear hf hnm1 e
    have hx := HX'.out.cell
    have hc0 := (box_cells HS'.out.box).1
    have hF := HS'.out.files f hfm
    obtain ⟨_, d1, _, _⟩ := hF.fcells
    obtain ⟨pp, pc, hpe, hp1, hp2⟩ := own_form hF.pen
    rw [hpe] at d1
    have HF := hide hF
    have HLT := hide hlt
    clear hF hfo hlt
    gi_wp2_with fail
    have HSX : Hid (∀ X, Only (OrdF w3 W.heap.size w2.heap.size) w3 X → SRep X sb mb fs left pend turn up) := hide (fun X hX => HS.out.only hX (fun i hi => by
      rintro (h' | h')
      · have := HLT.out i (.inl hi); omega
      · exact HS.out.not_placed (.inl hi) h'.2) (fun i hi => by
      rintro (h' | h')
      · have := HLT.out i (.inr hi); omega
      · exact HS.out.not_placed (.inr hi) h'.2))
    have HM : Hid (f ∈ fs) := hide hfm
    have HJ0 : Hid (OrdJ ((fs.take k).flatMap placedOf) f w3 W' W.heap.size w2.heap.size 0 W') := hide ⟨av, h1, by simpa using h2, h3, KeepsFrom.refl _ _⟩
    have HPL : Hid (((fs.take k).flatMap placedOf).length + f.ws.length ≤ pend) := by
      show _ ≤ _
      rw [← hp]
      have e1 : fs = fs.take k ++ f :: fs.drop (k + 1) := by
        rw [HFK.out]
        simp
      have e2 := congrArg (fun l => (l.flatMap placedOf).length) e1
      simp only [List.flatMap_append, List.flatMap_cons, List.length_append] at e2
      have e3 : (placedOf f).length = f.ws.length := by simp [placedOf]
      omega
    have hpl := HPL.out
    obtain ⟨pre, hpre⟩ : ∃ pre, pre = (fs.take k).flatMap placedOf := ⟨_, rfl⟩
    rw [← hpre] at HJ0 hpl
    have HPRE := hide hpre
    clear hpre h1 h2 h3 hx hc0 d1 hfm hlk HPL
    gi_loopw [27] (fun i wr => ∃ j : Nat, j ≤ f.ws.length ∧ i = .int .i64 (j : Int) ∧ Hid (OrdJ pre f w3 W' W.heap.size w2.heap.size j wr)) (fun i _ => f.ws.length - (intOf i).toNat)
    case atStart => exact ⟨0, Nat.zero_le _, rfl, HJ0⟩
    case round =>
      obtain ⟨j, hj, rfl, HJ⟩ := hrel
      clear HJ0
      by_cases hlt : j < f.ws.length
      · obtain ⟨av, b1, b2, b3, b4⟩ := HJ.out
        have hF := (HSX.out wr b3).files f HM.out
        have hpen := hF.pen
        rw [hpe] at hpen
        obtain ⟨gw, rfl, x0, x1, x2, x3⟩ := write_cells (k := j) hpen rfl hlt
        obtain ⟨x, hx⟩ : ∃ x, x = f.ws[j] := ⟨_, rfl⟩
        rw [← hx] at x0 x1 x2 x3
        obtain ⟨px, cx, hxe, _, _⟩ := own_form (hF.cov x (by rw [hx]; exact List.getElem_mem hlt)).1
        rw [hxe] at x3
        have HXE := hide hxe
        have HXJ := hide hx
        have hba := b1.cell
        have hbf := b1.frozen
        have HB1 := hide b1
        have HB2 := hide b2
        have HB3 := hide b3
        have HB4 := hide b4
        clear hx hxe hF hpen b1 b2 b3 b4 HJ
        obtain ⟨O1, hO1⟩ : ∃ O1 : Obj, O1 = .cells #[.int .i64 x.p.turn, .int .i64 x.p.beg, .int .i64 x.p.size, .slice px x.p.cl.length cx] 93 (0, 0) := ⟨_, rfl⟩
        obtain ⟨O2, hO2⟩ : ∃ O2 : Obj, O2 = .cells #[.pointer (some ⟨f.fb, 0, none⟩), .int .i64 x.p.turn, .int .i64 x.p.beg, .int .i64 x.p.size, .slice px x.p.cl.length cx] 95 (0, 0) := ⟨_, rfl⟩
        have y1 := cell_later (alloc_below wr O1) hba
        have hbb : Below wr.heap.size wr ((wr.alloc O1).alloc O2) := (alloc_below wr O1).trans ((alloc_below _ O2).mono (by simp))
        have Y2 := hide (ownsRow_later HB2.out hbb)
        have Y3 : Hid (Boxed ((wr.alloc O1).alloc O2) w2.heap.size 86 av) := hide (below_box hbb HB1.out)
        have Y4 : Hid (Only (OrdF w3 W.heap.size w2.heap.size) w3 ((wr.alloc O1).alloc O2)) := hide (HB3.out.trans (Only.fresh hbb _))
        have Y5 : Hid (KeepsFrom w3.heap.size W' ((wr.alloc O1).alloc O2)) := hide (HB4.out.trans (((KeepsOthers.alloc wr O1).trans (KeepsOthers.alloc _ O2)).from _))
        have Y6 : Hid (((wr.alloc O1).alloc O2).heap[wr.heap.size + 1]? = some O2) := by
          have := heap_alloc_new (wr.alloc O1) O2
          rw [World.size_alloc] at this
          exact hide this
        rw [hO1, hO2] at Y2 Y3 Y4 Y5 Y6
        rw [hO1] at y1
        clear hO1 hO2 hbb HB1 HB2 HB3 HB4 hba
        gi_wp2_with (gi_at_builtin; refine wpListIn_append_own _ rfl (.tmp 31) (.tmp 35) 86 rfl W.heap.size 95 i0 (.agg #[.pointer none, .int .i64 0, .int .i64 0, .int .i64 0, .slice none 0 0]) 5 56 Tryz.underlying86 hI0 hz0 hz1 hz2 rfl (by decide) av _ _ rfl Y2.out ⟨wr.heap.size + 1, 0, none⟩ 1 1 [.pointer (some ⟨f.fb, 0, none⟩), .int .i64 x.p.turn, .int .i64 x.p.beg, .int .i64 x.p.size, .slice px x.p.cl.length cx] rfl rfl (World.news_of_block Y6.out) (one_pl _ _ _ _ _ _ _) ?c3 ?c4 ?c5 ?_)
        case c3 => unfold maxLen; omega
        case c4 => omega
        case c5 => exact Nat.le_trans HB.out.size Y4.out.size
        intro av' w5 hown5 hg5 _
        obtain ⟨g5, cap5, rfl⟩ : ∃ g c, av' = .slice (some ⟨g, 0, none⟩) (pre.length + j + 1) c := by
          rcases hown5.2 with ⟨_, h'⟩ | ⟨g, c, _, h', _⟩
          · omega
          · exact ⟨g, c, h'⟩
        have hne5 : some w2.heap.size ≠ av.ownBlock := Y3.out.not_row (by decide) Y2.out
        have Z1 : Hid (Boxed w5 w2.heap.size 86 av) := hide (Y3.out.kept hg5 hne5)
        have z1 := Z1.out.cell
        have z2 := Z1.out.frozen
        have Z2 := hide hown5
        have Z3 : Hid (Only (OrdF w3 W.heap.size w2.heap.size) w3 w5) := by
          refine hide (Y4.out.step (Only.of_grown (F := fun i => av.ownBlock = some i) hg5 (fun i e => e)) (fun i hi => ?_))
          obtain ⟨_, cur, hc⟩ := own_block_lt Y2.out hi
          by_cases hlt3 : i < w3.heap.size
          · by_cases hF : OrdF w3 W.heap.size w2.heap.size i
            · exact .inl hF
            · have := Y4.out.block i hlt3 hF
              rw [hc] at this
              exact absurd (.inr ⟨own_block_base Y2.out hi, cur, this.symm⟩) hF
          · exact .inr (by omega)
        have Z4 : Hid (KeepsFrom w3.heap.size W' w5) := by
          refine hide (Y5.out.trans ((KeepsOthers.of_grownBy hg5 fun b o eb hb => ?_).from _))
          obtain ⟨_, cur, hc⟩ := own_block_lt Y2.out eb
          rw [hc] at hb
          cases hb
          rfl
        clear hown5 hg5 Y2 Y3 Y4 Y5 Y6 y1 hbf x0 x1 x2 x3
        gi_wp2
        go_roundw
        case rel =>
          refine ⟨j + 1, by omega, rfl, hide ⟨.slice (some ⟨g5, 0, none⟩) (pre.length + j + 1) cap5, Z1.out.set _, ?_, ?_, Z4.out.trans ((KeepsOthers.setCell _ _ _).from _)⟩⟩
          · have e1 : (placedOf f).take (j + 1) = (placedOf f).take j ++ [⟨f.fb, x⟩] := by
              have hl : j < (placedOf f).length := by simp [placedOf]; omega
              rw [List.take_succ_eq_append_getElem hl]
              simp [placedOf, HXJ.out]
            have e2 : ((pre ++ (placedOf f).take (j + 1)).flatMap PL.cells) = ((pre ++ (placedOf f).take j).flatMap PL.cells) ++ [.pointer (some ⟨f.fb, 0, none⟩), .int .i64 x.p.turn, .int .i64 x.p.beg, .int .i64 x.p.size, .slice px x.p.cl.length cx] := by
              rw [e1, ← List.append_assoc, List.flatMap_append]
              simp [PL.cells, HXE.out]
            rw [e2]
            have z5 : w5.ownsRow W.heap.size 95 5 (.slice (some ⟨g5, 0, none⟩) (pre.length + j + 1) cap5) (pre.length + (j + 1)) (((pre ++ (placedOf f).take j).flatMap PL.cells) ++ [.pointer (some ⟨f.fb, 0, none⟩), .int .i64 x.p.turn, .int .i64 x.p.beg, .int .i64 x.p.size, .slice px x.p.cl.length cx]) := by
              have := Z2.out
              simpa [Nat.add_assoc] using this
            refine ownsRow_only (F := (· = w2.heap.size)) z5 (Only.set (F := (· = w2.heap.size)) _ w2.heap.size 0 (.slice (some ⟨g5, 0, none⟩) (pre.length + j + 1) cap5) rfl) (fun b hb e => ?_)
            subst e
            exact Z1.out.not_row (by decide) z5 hb.symm
          · exact Z3.out.step (Only.set (F := (· = w2.heap.size)) _ _ _ _ rfl) (fun i e => .inl (.inl e))
        case measure => simp [intOf]; omega
      · obtain rfl : j = f.ws.length := by omega
        gi_wp2
        obtain ⟨av, b1, b2, b3, b4⟩ := HJ.out
        have e1 : (fs.take (k + 1)).flatMap placedOf = pre ++ placedOf f := by
          rw [List.take_succ_eq_append_getElem hk, List.flatMap_append, HPRE.out, HFK.out]
          simp
        have e2 : (placedOf f).take f.ws.length = placedOf f := List.take_of_length_le (by simp [placedOf])
        have e3 : (placedOf f).length = f.ws.length := by simp [placedOf]
        rw [e2] at b2
        refine ⟨b4, av, b1, ?_, b3⟩
        rw [e1, List.length_append, e3]
        exact b2
  case done =>
    rintro D W4 hD ⟨av, h1, h2, h3⟩ hK
    have el : fs.take (((fs.map MF.name).map fun n => #[strV n])).length = fs := by simp
    rw [el, hp] at h2
    obtain ⟨p, cap, rfl, _, _⟩ := own_form h2
    have HCV : Hid (∀ d ∈ fs.flatMap placedOf, ∃ p n c, d.x.cov = .slice p n c) := by
      refine hide fun d hd => ?_
      obtain ⟨f, hf, hd⟩ := List.mem_flatMap.1 hd
      obtain ⟨x, hx, rfl⟩ := List.mem_map.1 hd
      obtain ⟨p, c, he, _⟩ := own_form ((H.out.files f hf).cov x hx).1
      exact ⟨p, _, c, he⟩
    have HSF := hide (sortfunc_any h2 hp HCV.out hpb)
    have hc1 := h1.cell
    have HB1 := hide h1
    have HB2 := hide h2
    have HB4 : Hid (Below W.heap.size W W4) := by
      refine hide (HB.out.trans (h3.below HB.out.size (fun i hi => ?_)))
      rcases hi with rfl | hi
      · omega
      · exact hi.1
    have HK := hide hK
    clear h1 h2 h3 hK HCV
    gi_wp2_with fail
    refine ⟨trivial, fun _ => by omega, (callsIn_wide.2 HSF.out).mono ?_⟩
    rintro _ w6 ⟨rfl, ds', q1, q2, q3, q4⟩
    have HB6 : Hid (Boxed w6 w2.heap.size 86 (.slice p pend cap)) := hide (HB1.out.kept q4 (HB1.out.not_row (by decide) HB2.out))
    have hc6 := HB6.out.cell
    have HK6 : Hid (w6.heap[D]? = some (.deferred (some []))) := by
      refine hide ((q4.block D (Array.getElem?_eq_some_iff.1 HK.out).1 (fun e => ?_)).trans HK.out)
      obtain ⟨_, cur, hc⟩ := own_block_lt HB2.out e.symm
      rw [HK.out] at hc
      cases hc
    have HB7 : Hid (Below W.heap.size W w6) := hide (HB4.out.grown q4 HB4.out.size (fun k e => own_block_base HB2.out e))
    have Q1 := hide q1
    have Q2 := hide q2
    have Q3 := hide q3
    clear q1 q2 q3 q4 HSF hc1 HB1 HB2 HB4 HK
    gi_wp2
    refine ⟨by simp, .inl ⟨_, _, rfl, run_takeDeferred HK6.out, ?_⟩⟩
    refine ⟨_, results_tmp rfl _ _ _, p, cap, ds', rfl, Q1.out, Q2.out, ownsRow_putObj Q3.out _ HK6.out rfl, HB7.out.trans (belowK_b (w := W) (Nat.le_refl _) w6 D _ _ ?_ HK6.out rfl rfl)⟩
    exact Nat.le_trans HB.out.size hD
theorem order_any {W : World} {sb mb pend turn : Nat} {left : Int} {fs : List MF} {up : Bool} (h : SRep W sb mb fs left pend turn up) (hlen : fs.length ≤ 4194304) (hp : (fs.flatMap placedOf).length = pend) (hpb : pend ≤ 2199023255552) (hnm : ∀ f ∈ fs, f.name.length ≤ maxLen) :
    Calls Tryz.prog 55 #[.pointer (some ⟨sb, 0, none⟩)] W fun e w' => ∃ (p : Option Addr) (cap : Nat) (ds : List PL), e = .returned (.slice p pend cap) ∧ ds.Perm (fs.flatMap placedOf) ∧ ds.Pairwise (fun a b => a.x.p.turn ≤ b.x.p.turn) ∧ w'.ownsRow W.heap.size 95 5 (.slice p pend cap) pend (ds.flatMap PL.cells) ∧ Below W.heap.size W w' :=
  callsIn_wide.1 (order_in 3 (Nat.le_refl _) h hlen hp hpb hnm)
end Go.Proofs.YtikpckmlnhcddaaGreat
