/-
  Sure of a file: its content with the pending writes taken back, from the last one on. The conditions: each fits.
-/
import Derived.Test.YtikpckmlnhcddaaGreatRen
import Derived.Test.YtikpckmlnhcddaaGreatBkx
import Derived.Test.YtikpckmlnhcddaaGreatCra
namespace Go.Proofs.YtikpckmlnhcddaaGreat
open Go.RowKit Go.Shelf Go.Maps
attribute [local go_sem] Oper.semAt_some

theorem enBackW : ∀ args w, (callFunc 82 args).run Tryz.prog w = .ok (.enter 82 args) w := enters_of Tryz.func82 (by kernel_rfl) rfl

/-- The content with the last k writes taken back. -/
def sureTo (ws : List MW) (c : List Int) : Nat → List Int
  | 0 => c
  | k + 1 => takeBackL (ws[ws.length - 1 - k]!).p (sureTo ws c k) 0
theorem sureTo_le {ws : List MW} {c : List Int} (h : ∀ k, k < ws.length → Fits (ws[ws.length - 1 - k]!).p (sureTo ws c k)) : ∀ k, k ≤ ws.length → (sureTo ws c k).length ≤ c.length
  | 0, _ => Nat.le_refl _
  | k + 1, hk => Nat.le_trans (takeBackL_le (h k (by omega)) 0) (sureTo_le h k (by omega))

theorem ownB (p : Option Addr) (n c n' c' : Nat) : (Value.slice p n c).ownBlock = (Value.slice p n' c').ownBlock := by cases p <;> rfl

theorem own_raise {w : World} {base base' n : Nat} {e : TypeId} {v : Value} {xs : List Value} (h : w.ownsRow base e 1 v n xs) (hb : ∀ i, v.ownBlock = some i → base' ≤ i) : w.ownsRow base' e 1 v n xs := by
  refine ⟨h.1, ?_⟩
  rcases h.2 with h' | ⟨g, cap, cur, hv, hg, r⟩
  · exact .inl h'
  · exact .inr ⟨g, cap, cur, hv, hb g (by rw [hv]; rfl), r⟩

/-- What sure turns: the box of its content, and the copy. -/
def SuF (cB : Nat) (p1 : Option Addr) (i : Nat) : Prop := i = cB ∨ (Value.slice p1 0 0).ownBlock = some i
def SuI (ws : List MW) (c : List Int) (w3 : World) (cB : Nat) (p1 : Option Addr) (c1 : Nat) (k : Nat) (X : World) : Prop :=
  Boxed X cB 31 (.slice p1 (sureTo ws c k).length c1) ∧ X.ownsRow 0 5 1 (.slice p1 (sureTo ws c k).length c1) (sureTo ws c k).length ((sureTo ws c k).map (Value.int .u8)) ∧ Only (SuF cB p1) w3 X

theorem keeps_sure {X Y : World} {B cB n c1 : Nat} {p1 : Option Addr} {t : TypeId} {v : Value} {xs : List Value} (hb : Boxed X cB t v) (hr : X.ownsRow 0 5 1 (.slice p1 n c1) n xs) (ho : Only (SuF cB p1) X Y) : KeepsFrom B X Y := by
  refine ⟨ho.size, fun k o _ hk hc => ho.obj hk ?_⟩
  rintro (rfl | hi)
  · rw [show X.heap[k]? = _ from hb] at hk
    cases hk
    simp [Obj.isCells] at hc
  · obtain ⟨_, cur, hcur⟩ := own_block_lt hr (b := k) ((ownB _ _ _ _ _).trans hi)
    rw [hcur] at hk
    cases hk
    simp [Obj.isCells] at hc

set_option maxRecDepth 100000 in
set_option maxHeartbeats 4000000 in
theorem fsure_in (n : Nat) (hn : 4 ≤ n) {W : World} {f : MF} (h : FRep W f) (hc : f.c.length ≤ 4194304) (hw : f.ws.length ≤ 2199023255552) (hfit : ∀ k, k < f.ws.length → Fits (f.ws[f.ws.length - 1 - k]!).p (sureTo f.ws f.c k)) :
    CallsIn Fence.wide n Tryz.prog 54 #[.pointer (some ⟨f.fb, 0, none⟩)] W fun e w' => ∃ p cap, e = .returned (.slice p (sureTo f.ws f.c f.ws.length).length cap) ∧ w'.ownsRow W.heap.size 5 1 (.slice p (sureTo f.ws f.c f.ws.length).length cap) (sureTo f.ws f.c f.ws.length).length ((sureTo f.ws f.c f.ws.length).map (Value.int .u8)) ∧ Below W.heap.size W w' := by
  obtain ⟨d0, d1, _, _⟩ := h.fcells
  obtain ⟨q, qcap, he, h1, h2⟩ := h.con_form
  obtain ⟨p, cap, hpe, h3, h4⟩ := own_form h.pen
  rw [he] at d0
  rw [hpe] at d1
  have H := hide h
  have HPE := hide hpe
  have HK := hide (clone_len (by have := own_row h.con; rw [he] at this; exact this) (show f.c.length ≤ 140737488355328 by omega) rfl)
  have HFT := hide hfit
  have HLE := hide (sureTo_le hfit)
  have hwlt : ∀ i, ownF f i ∨ covF f i → i < W.heap.size := by
    rintro i (hi | hi)
    · obtain ⟨cur, e, hk, _⟩ := h.own_kind hi; exact (Array.getElem?_eq_some_iff.1 hk).1
    · obtain ⟨cur, hk⟩ := h.cov_kind hi; exact (Array.getElem?_eq_some_iff.1 hk).1
  have HLT := hide hwlt
  clear h he hpe hfit hwlt
  refine callsIn_of_wp_marks Tryz.func54 rfl trivial ?_ rfl
  simp only [Tryz.ntmps54, List.size_toArray, List.length_cons, List.length_nil, Nat.reduceAdd, Nat.reduceSub, Array.replicate_succ, Array.replicate_zero, List.push_toArray, List.append_toArray, List.nil_append, List.cons_append]
  gi_wp2_with fail
  refine ⟨trivial, fun _ => by omega, (callsIn_wide.2 HK.out).mono ?_⟩
  rintro _ w1 ⟨p1, c1, rfl, o1, b1⟩
  have e1 := cell_later (b1.trans ((alloc_below w1 (.cells #[.slice p1 f.c.length c1] 31)).mono b1.size)) d1
  have O1 := hide o1
  have B1 := hide b1
  clear o1 b1 d0 d1 HK
  gi_wp2_with fail
  refine ⟨trivial, fun _ => by omega, (callsIn_wide.2 (backwardW_any _ p f.ws.length cap rfl)).mono ?_⟩
  rintro _ w3 ⟨rfl, hw3⟩
  rw [World.size_alloc]
  have hb3 : Below w1.heap.size w1 w3 := by rw [hw3]; exact (alloc_below w1 _).trans ((alloc_below _ _).mono (by simp))
  have hs3 : w3.heap.size = w1.heap.size + 2 := by rw [hw3]; simp
  have HX3 : Hid (Boxed w3 w1.heap.size 31 (.slice p1 f.c.length c1)) := by rw [hw3]; exact hide ((Boxed.new w1 _ _).alloc _)
  have HY3 : Hid (Boxed w3 (w1.heap.size + 1) 78 (.slice p f.ws.length cap)) := by
    have := Boxed.new (w1.alloc (.cells #[.slice p1 f.c.length c1] 31)) 78 (.slice p f.ws.length cap)
    rw [World.size_alloc] at this
    rw [hw3]
    exact hide this
  have HO3 := hide (ownsRow_later O1.out hb3)
  have HB3 : Hid (Below W.heap.size W w3) := hide (B1.out.trans (hb3.mono B1.out.size))
  have HBS : Hid (W.heap.size ≤ w1.heap.size) := hide B1.out.size
  have HBK : Hid (∀ i, (Value.slice p1 0 0).ownBlock = some i → W.heap.size ≤ i ∧ i < w1.heap.size) := hide (fun i hi => ⟨own_block_base O1.out ((ownB _ _ _ _ _).trans hi), (own_block_lt O1.out ((ownB _ _ _ _ _).trans hi)).1⟩)
  clear hw3 hb3 e1 O1 B1
  have HCV : Hid (∀ d ∈ f.ws, ∃ p n c, d.cov = .slice p n c) := by
    refine hide fun x hx => ?_
    obtain ⟨p, c, he, _⟩ := own_form (H.out.cov x hx).1
    exact ⟨p, _, c, he⟩
  have HFC : Hid (∀ i, ownF f i ∨ covF f i → ¬ SuF w1.heap.size p1 i) := by
    refine hide fun i hi => ?_
    have h5 := HLT.out i hi
    have h6 := HBS.out
    rintro (rfl | h7)
    · omega
    · have := (HBK.out i h7).1; omega
  have HF3 : Hid (FRep w3 f) := hide (H.out.only (Only.of_below (F := fun i => W.heap.size ≤ i) HB3.out (fun k h1 _ => h1)) (fun i hi hx => by have := HLT.out i (.inl hi); omega) (fun i hi hx => by have := HLT.out i (.inr hi); omega))
  gi_wp2_with fail
  refine range_list2 (by omega) (backwardW_tells (n - 1) (by omega) (Bk := w1.heap.size + 1) (base := 0) (v := .slice p f.ws.length cap) (ds := f.ws) hw HCV.out) rfl enBackW ?size (SuI f.ws f.c w3 w1.heap.size p1 c1) (fun _ _ _ => False) ?grows ?puts (fun _ _ _ _ _ _ h => h.elim) ?reads ?start
    (fun x V => { tmps := #[.pointer (some ⟨f.fb, 0, none⟩), undef, .slice none 0 0, .pointer (some ⟨w1.heap.size, 0, none⟩), undef, .pointer (some ⟨V.heap.size, 0, none⟩), .pointer (some ⟨f.fb, 0, none⟩), .pointer (some ⟨f.fb, 0, none⟩), .pointer (some ⟨f.fb, 0, none⟩), .slice q f.c.length qcap, .slice p1 f.c.length c1, .pointer (some ⟨f.fb, 0, none⟩), .pointer (some ⟨f.fb, 0, none⟩), .pointer (some ⟨f.fb, 1, none⟩), .slice p f.ws.length cap, .func (.func 82) #[] #[.pointer (some ⟨w1.heap.size + 1, 0, none⟩)], x.getD 0 undef, x.getD 1 undef, undef, undef, undef, undef], defers := [] }) (fun x V => V.alloc (.cells (aggCells (x.getD 1 undef)) 93 (0, 0))) (fun k V => alloc_below V _) ?assign ?body ?done (fun _ _ _ _ _ _ h => h.elim)
  case size => intro k hk; simp at hk; simp [List.getD, hk, toldW]
  case grows =>
    rintro k W1 W2 ⟨h1, h2, h3⟩ hb
    exact ⟨below_box hb h1, ownsRow_later h2 hb, h3.trans (Only.fresh hb _)⟩
  case puts =>
    rintro k W1 l o o' ⟨h1, h2, h3⟩ hl ho hc
    exact ⟨(World.putObj_heap_other (by omega)).trans h1, ownsRow_putObj h2 _ ho hc, h3.step (Only.of_grown (F := (· = l)) (grownBy_putObj' W1 l o') (fun k e => by simpa using e.symm)) (fun i e => .inr (by omega))⟩
  case reads =>
    rintro k W1 ⟨h1, h2, h3⟩
    refine ⟨h3.obj HY3.out ?_, ?_⟩
    · rintro (h5 | h5)
      · omega
      · have := (HBK.out _ h5).2; omega
    · have := HF3.out.pen
      rw [HPE.out] at this
      exact ownsRow_only this h3 (fun b hb => HFC.out b (.inl (.inr (.inr (by rw [HPE.out]; exact hb)))))
  case start => exact ⟨HX3.out, own_base HO3.out (Nat.zero_le _), Only.refl _ _⟩
  case assign =>
    intro l k V K hk hK
    simp at hk
    have e : ((List.range f.ws.length).map (toldW f.ws)).getD k #[] = toldW f.ws k := by simp [List.getD, hk]
    have hmem : f.ws[f.ws.length - 1 - k]! ∈ f.ws := by rw [getElem!_pos f.ws _ (by omega)]; exact List.getElem_mem _
    obtain ⟨pc, nc, cc, hce⟩ := HCV.out _ hmem
    rw [e] at hK ⊢
    unfold toldW MW.cells at hK ⊢
    obtain ⟨j, hj⟩ : ∃ j, f.ws.length - 1 - k = j := ⟨_, rfl⟩
    rw [hj] at hK hce ⊢
    obtain ⟨d, hd⟩ : ∃ d, f.ws[j]! = d := ⟨_, rfl⟩
    rw [hd] at hK hce ⊢
    rw [hce] at hK ⊢
    clear e hd hj hce hmem
    simp only [aggCells, Array.getD_eq_getD_getElem?, List.getElem?_toArray, List.getElem?_cons_zero, List.getElem?_cons_succ, Option.getD_some] at hK
    gi_wp2
    exact hK
  case body =>
    intro l k V X hI hk hsz hoX hlV hwl
    simp at hk
    have e : ((List.range f.ws.length).map (toldW f.ws)).getD k #[] = toldW f.ws k := by simp [List.getD, hk]
    have hmem : f.ws[f.ws.length - 1 - k]! ∈ f.ws := by rw [getElem!_pos f.ws _ (by omega)]; exact List.getElem_mem _
    obtain ⟨pc, nc, cc, hce⟩ := HCV.out _ hmem
    have hft := HFT.out k hk
    have hle := HLE.out k (by omega)
    have hsu : sureTo f.ws f.c (k + 1) = takeBackL (f.ws[f.ws.length - 1 - k]!).p (sureTo f.ws f.c k) 0 := rfl
    rw [e] at hoX ⊢
    unfold toldW MW.cells at hoX ⊢
    obtain ⟨j, hj⟩ : ∃ j, f.ws.length - 1 - k = j := ⟨_, rfl⟩
    rw [hj] at hce hoX hft hsu hmem ⊢
    obtain ⟨d, hd⟩ : ∃ d, f.ws[j]! = d := ⟨_, rfl⟩
    rw [hd] at hce hoX hft hsu hmem ⊢
    obtain ⟨i1, i2, i3⟩ := hI
    have hcov := ownsRow_only (HF3.out.cov d hmem).1 i3 (fun b hb => HFC.out b (.inr ⟨d, hmem, hb⟩))
    have HT := hide (takeBack_any i2 hcov hft (first := 0) (Nat.zero_le _) (by omega))
    rw [← hsu, hce] at HT
    rw [hce] at hoX ⊢
    simp only [aggCells, Array.getD_eq_getD_getElem?, List.getElem?_toArray, List.getElem?_cons_zero, List.getElem?_cons_succ, Option.getD_some] at hoX ⊢
    have HPB : Hid (X.heap[V.heap.size]? = some (.cells #[.int .i64 d.p.turn, .int .i64 d.p.beg, .int .i64 d.p.size, .slice pc nc cc] 93 (0, 0))) := hide (hoX.obj (heap_alloc_new V _) (fun e => by omega))
    have b0 : X.cell? ⟨V.heap.size, 0, none⟩ = some (.int .i64 d.p.turn) := by simp [World.cell?, HPB.out]
    have b1 : X.cell? ⟨V.heap.size, 1, none⟩ = some (.int .i64 d.p.beg) := by simp [World.cell?, HPB.out]
    have b2 : X.cell? ⟨V.heap.size, 2, none⟩ = some (.int .i64 d.p.size) := by simp [World.cell?, HPB.out]
    have b3 : X.cell? ⟨V.heap.size, 3, none⟩ = some (.slice pc nc cc) := by simp [World.cell?, HPB.out]
    have cx := i1.cell
    have I1 := hide i1
    have I2 := hide i2
    have I3 := hide i3
    clear e hmem hce hd hj i1 i2 i3 hft hle hoX hcov hsu
    gi_wp2_with fail
    refine ⟨trivial, fun _ => by omega, ((callsIn_wide.2 HT.out).inRound l).mono ?_⟩
    rintro _ Y ⟨rfl, t1, t2⟩
    have hbY : Boxed Y w1.heap.size 31 (.slice p1 (sureTo f.ws f.c k).length c1) := I1.out.kept t2 (I1.out.not_row (by decide) I2.out)
    have cy := hbY.cell
    have fy := hbY.frozen
    have HY := hide hbY
    have T1 := hide t1
    have T2 := hide t2
    clear t1 t2 hbY cx b0 b1 b2 b3 HT
    gi_wp2
    have o1 : Only (SuF w1.heap.size p1) X Y := Only.of_grown T2.out (fun k e => .inr ((ownB _ _ _ _ _).trans e))
    have o2 : Only (SuF w1.heap.size p1) Y (Y.setCell ⟨w1.heap.size, 0, none⟩ (.slice p1 (sureTo f.ws f.c (k + 1)).length c1)) := Only.set _ _ _ _ (.inl rfl)
    refine ⟨keeps_sure I1.out I2.out (o1.trans o2), HY.out.set _, ownsRow_only T1.out (Only.set (F := (· = w1.heap.size)) _ _ _ _ rfl) (fun b hb e => ?_), I3.out.trans (o1.trans o2)⟩
    subst e
    exact HY.out.not_row (by decide) T1.out hb.symm
  case done =>
    rintro D X hD ⟨h1, h2, h3⟩ hK
    have el : ((List.range f.ws.length).map (toldW f.ws)).length = f.ws.length := by simp
    rw [el] at h1 h2
    have cx := h1.cell
    have H2 := hide h2
    have H3 := hide h3
    have HK := hide hK
    clear h1 h2 h3 hK
    gi_wp2
    refine ⟨by simp, .inl ⟨_, _, rfl, run_takeDeferred HK.out, ?_⟩⟩
    refine ⟨_, results_tmp rfl _ _ _, p1, c1, rfl, ownsRow_putObj (own_raise H2.out (fun i hi => (HBK.out i ((ownB _ _ _ _ _).trans hi)).1)) _ HK.out rfl, ?_⟩
    have hb := HB3.out.trans (H3.out.below HB3.out.size (fun i hi => by
      rcases hi with rfl | hi
      · exact HBS.out
      · exact (HBK.out i hi).1))
    have h5 := HB3.out.size
    exact hb.trans ((Only.of_grown (F := (· = D)) (grownBy_putObj' X D _) (fun k e => by simpa using e.symm)).below hb.size (fun i e => by omega))
theorem fsure_any {W : World} {f : MF} (h : FRep W f) (hc : f.c.length ≤ 4194304) (hw : f.ws.length ≤ 2199023255552) (hfit : ∀ k, k < f.ws.length → Fits (f.ws[f.ws.length - 1 - k]!).p (sureTo f.ws f.c k)) :
    Calls Tryz.prog 54 #[.pointer (some ⟨f.fb, 0, none⟩)] W fun e w' => ∃ p cap, e = .returned (.slice p (sureTo f.ws f.c f.ws.length).length cap) ∧ w'.ownsRow W.heap.size 5 1 (.slice p (sureTo f.ws f.c f.ws.length).length cap) (sureTo f.ws f.c f.ws.length).length ((sureTo f.ws f.c f.ws.length).map (Value.int .u8)) ∧ Below W.heap.size W w' :=
  callsIn_wide.1 (fsure_in 4 (Nat.le_refl _) h hc hw hfit)

set_option maxRecDepth 100000 in
set_option maxHeartbeats 2000000 in
theorem sure_some {W : World} {sb mb pend turn : Nat} {left : Int} {fs : List MF} {f : MF} (h : SRep W sb mb fs left pend turn true) {s : ByteArray} (hlen : s.size ≤ maxLen) (hf : fileOf fs s.data.toList = some f) (hc : f.c.length ≤ 4194304) (hw : f.ws.length ≤ 2199023255552) (hfit : ∀ k, k < f.ws.length → Fits (f.ws[f.ws.length - 1 - k]!).p (sureTo f.ws f.c k)) :
    Calls Tryz.prog 17 #[.pointer (some ⟨sb, 0, none⟩), .string s] W fun e w' => ∃ p cap, e = .returned (.tuple #[.slice p (sureTo f.ws f.c f.ws.length).length cap, .int .i64 0]) ∧ w'.ownsRow W.heap.size 5 1 (.slice p (sureTo f.ws f.c f.ws.length).length cap) (sureTo f.ws f.c f.ws.length).length ((sureTo f.ws f.c f.ws.length).map (Value.int .u8)) ∧ Below W.heap.size W w' := by
  obtain ⟨c0, c1, c2, c3, c4⟩ := box_cells h.box
  have HF := hide (find_any c0 c4 h.map hlen)
  unfold ptrOf at HF
  rw [hf] at HF
  simp only [Option.map_some, Option.isSome_some] at HF
  have HS := hide (fsure_any (h.files f (List.mem_of_find?_eq_some hf)) hc hw hfit)
  clear hf h c0 c1 c2 c3 c4 hfit
  go_enter Tryz.func17, Tryz.ntmps17
  go_wp2_with fail
  refine HF.out.mono ?_
  rintro _ _ ⟨rfl, rfl⟩
  go_wp2_with fail
  refine HS.out.mono ?_
  rintro _ w1 ⟨p1, c1, rfl, h1, h2⟩
  have H1 := hide h1
  have H2 := hide h2
  clear h1 h2 HS HF
  go_wp2
  go_ret2
  exact ⟨_, _, rfl, H1.out, H2.out⟩
end Go.Proofs.YtikpckmlnhcddaaGreat
