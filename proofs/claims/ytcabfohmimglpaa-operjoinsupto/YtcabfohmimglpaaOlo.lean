/-
  list of a ledger of what was kept: what is old and what is new, one between the other. The conditions: lengths.
-/
import Derived.Test.YtcabfohmimglpaaOkq
import Derived.Test.YtcabfohmimglpaaOsp
import Derived.Test.YtcabfohmimglpaaOdo
import Derived.Maps.AppendAt
namespace Go.Proofs.Ytcabfohmimglpaa
open Go.RowKit

theorem mrg_len : ∀ (os : List KS) (i : Nat) (gs : List Bool) (fs : List EN), (mrg i os gs fs).length ≤ os.length + fs.length
  | [], i, gs, fs => by unfold mrg; simp
  | o :: os, i, gs, fs => by
    have ih := mrg_len os (i + 1) gs.tail (fs.dropWhile (fun f => f.gap == (i : Int)))
    have h1 := congrArg List.length (List.takeWhile_append_dropWhile (p := fun f : EN => f.gap == (i : Int)) (l := fs))
    rw [List.length_append] at h1
    unfold mrg
    rw [List.length_append, List.length_append, List.length_map, List.length_cons]
    have : (if gs.headD false = true then ([] : List KS) else [o]).length ≤ 1 := by split <;> simp
    omega
theorem mrg_cons {i : Nat} {os : List KS} {gs : List Bool} {f : EN} {fs : List EN} (ho : os ≠ []) (hg : f.gap = (i : Int)) : mrg i os gs (f :: fs) = f.ks :: mrg i os gs fs := by
  cases os with
  | nil => exact absurd rfl ho
  | cons o os =>
    have he : (f.gap == (i : Int)) = true := by simp [hg]
    unfold mrg
    rw [List.takeWhile_cons, if_pos he, List.dropWhile_cons, if_pos he]
    rfl
theorem mrg_stop {i : Nat} {o : KS} {os : List KS} {gs : List Bool} {fs : List EN} (h : fs = [] ∨ ∃ f l, fs = f :: l ∧ f.gap ≠ (i : Int)) : mrg i (o :: os) gs fs = (if gs.headD false = true then [] else [o]) ++ mrg (i + 1) os gs.tail fs := by
  rcases h with rfl | ⟨f, l, rfl, hg⟩
  · conv => lhs; unfold mrg
    rfl
  · have he : ¬ (f.gap == (i : Int)) = true := by simpa using hg
    conv => lhs; unfold mrg
    rw [List.takeWhile_cons, if_neg he, List.dropWhile_cons, if_neg he]
    rfl
theorem NRow.tail {W : World} {p : Option Addr} {c : Nat} {f : EN} {fs : List EN} (h : NRow W p c (f :: fs)) : NRow W (if c = 1 then p else Option.map (fun x => x.add 5) p) (c - 1) fs := by
  have h1 := h.le
  have h2 := h.top
  rw [List.length_cons] at h1
  refine ⟨by omega, by omega, fun i hi => ?_⟩
  obtain ⟨g, o, e, hc⟩ := h.cell (i + 1) (by simpa using hi)
  rw [if_neg (by omega), e]
  refine ⟨g, o + 5, by simp [Addr.add], fun j hj => ?_⟩
  have := hc j hj
  rw [show o + (i + 1) * 5 + j = o + 5 + i * 5 + j by omega] at this
  rw [this]
  rfl
def lenV : Value → Nat
  | .slice _ n _ => n
  | _ => 0
theorem NRow.at0 {W : World} {p : Option Addr} {c : Nat} {f : EN} {fs : List EN} (h : NRow W p c (f :: fs)) : ∃ g o, p = some ⟨g, o, none⟩ ∧ W.cell? ⟨g, o + 1, none⟩ = some (.int .i64 f.key) ∧ W.cell? ⟨g, o + 2, none⟩ = some (.int .i64 f.cnt) ∧ W.cell? ⟨g, o + 3, none⟩ = some (.int .i64 f.acc) ∧ W.cell? ⟨g, o + 4, none⟩ = some (.int .i64 f.gap) := by
  obtain ⟨g, o, e, hc⟩ := h.cell 0 (by simp)
  refine ⟨g, o, e, ?_, ?_, ?_, ?_⟩
  · have := hc 1 (by decide); simp only [Nat.zero_mul, Nat.add_zero] at this; exact this
  · have := hc 2 (by decide); simp only [Nat.zero_mul, Nat.add_zero] at this; exact this
  · have := hc 3 (by decide); simp only [Nat.zero_mul, Nat.add_zero] at this; exact this
  · have := hc 4 (by decide); simp only [Nat.zero_mul, Nat.add_zero] at this; exact this
/-- Where list stands. -/
structure LI (w1 X : World) (tot : List KS) (i : Nat) (os : List KS) (gs : List Bool) (outs : List KS) (D : List EN) (po : Option Addr) (M co : Nat) (fp : Option Addr) (fc : Nat) : Prop where
  len : outs.length = M
  row : X.ownsRow w1.heap.size 43 3 (.slice po M co) M (outs.flatMap KS.cells)
  new : NRow X fp fc D
  eq : outs ++ mrg i os gs D = tot
  below : Below w1.heap.size w1 X
theorem LI.later {w1 X X' : World} {tot : List KS} {i : Nat} {os : List KS} {gs : List Bool} {outs : List KS} {D : List EN} {po : Option Addr} {M co : Nat} {fp : Option Addr} {fc : Nat} (h : LI w1 X tot i os gs outs D po M co fp fc) (hb : Below X.heap.size X X') : LI w1 X' tot i os gs outs D po M co fp fc :=
  ⟨h.len, ownsRow_later h.row hb, h.new.below hb, h.eq, h.below.trans (hb.mono h.below.size)⟩
theorem LI.room {w1 X : World} {tot : List KS} {i : Nat} {os : List KS} {gs : List Bool} {outs : List KS} {D : List EN} {po : Option Addr} {M co : Nat} {fp : Option Addr} {fc : Nat} (h : LI w1 X tot i os gs outs D po M co fp fc) : M ≤ tot.length := by
  rw [← h.eq, List.length_append, h.len]
  omega
/-- One more is put. -/
theorem LI.put {w1 X V w6 : World} {tot : List KS} {i i' : Nat} {os os' : List KS} {gs gs' : List Bool} {outs : List KS} {D D' : List EN} {po p6 : Option Addr} {M co c6 : Nat} {fp fp' : Option Addr} {fc fc' : Nat} {y : KS} (h : LI w1 X tot i os gs outs D po M co fp fc) (hV : Below X.heap.size X V) (g6 : V.grownBy w6 (Value.slice po M co).ownBlock) (o6 : w6.ownsRow w1.heap.size 43 3 (.slice p6 (M + 1) c6) (M + 1) (outs.flatMap KS.cells ++ y.cells)) (hn : NRow w1 fp' fc' D') (heq : mrg i os gs D = y :: mrg i' os' gs' D') :
    LI w1 w6 tot i' os' gs' (outs ++ [y]) D' p6 (M + 1) c6 fp' fc' := by
  have hb6 : Below w1.heap.size w1 w6 := (h.below.trans (hV.mono h.below.size)).grown g6 (Nat.le_trans h.below.size hV.size) (fun k hk => own_block_base h.row hk)
  refine ⟨by rw [List.length_append, h.len]; rfl, ?_, hn.below hb6, ?_, hb6⟩
  · rw [List.flatMap_append]
    have e : [y].flatMap KS.cells = y.cells := by simp
    rw [e]
    exact o6
  · rw [List.append_assoc, ← h.eq, heq]
    rfl
theorem ks_one1 (x : KS) : ∀ u ∈ x.cells, u.oneCell' = true := by
  intro u hu
  simp only [KS.cells, List.mem_cons, List.not_mem_nil, or_false] at hu
  rcases hu with rfl | rfl | rfl <;> rfl

set_option maxRecDepth 100000 in
set_option maxHeartbeats 16000000 in
theorem list_old {W : World} {base lb g : Nat} {A : LA} {L : LG} {tot : List KS} {K : Nat} (h : LRep W base lb A L) (hg : A.pe = some ⟨g, 0, none⟩) (hb : base ≤ W.heap.size) (hm : L.es.length ≤ 1048576) (hnb : L.old.length ≤ 1048576) (hgl : L.gone.length = L.old.length) (htot : mrg 0 L.old L.gone (L.es.filter EN.on) = tot) (hK : tot.length = K) :
    Calls Try.prog 18 #[.pointer (some ⟨lb, 0, none⟩)] W fun e w' => ∃ p c, e = .returned (.slice p K c) ∧ w'.ownsRow base 43 3 (.slice p K c) K (tot.flatMap KS.cells) ∧ Only (· = g) W w' := by
  obtain ⟨i0, hI0, hz0, hz1, hz2⟩ := info_parts Try.infoKeyS
  obtain ⟨m, hmm⟩ : ∃ m, L.es.length = m := ⟨_, rfl⟩
  obtain ⟨n, hn⟩ : ∃ n, L.old.length = n := ⟨_, rfl⟩
  have hes := h.es
  rw [hg, hmm] at hes
  have hgb : base ≤ g := (hes.lt g rfl).1
  have z4 : W.cell? ⟨lb, 4, none⟩ = some (.slice (some ⟨g, 0, none⟩) m A.ce) := by rw [← hmm, ← hg]; simp [World.cell?, h.box]
  have HD := hide (delete_any hes hmm)
  obtain ⟨fs, hfs⟩ : ∃ fs, L.es.filter EN.on = fs := ⟨_, rfl⟩
  have hfl : fs.length ≤ m := by rw [← hfs, ← hmm]; exact List.length_filter_le _ _
  have htl : K ≤ n + m := by
    rw [← hK, ← htot, ← hn]
    refine Nat.le_trans (mrg_len _ _ _ _) ?_
    rw [hfs]
    omega
  obtain ⟨_, _, ef, i1, i2⟩ := own_form hes
  simp only [Value.slice.injEq, true_and] at ef
  obtain ⟨rfl, rfl⟩ := ef
  have hes2 := h.es
  rw [hg] at hes2
  have HX : Hid (∀ X, Only (· = g) W X → X.cell? ⟨lb, 0, none⟩ = some (.slice A.po n A.co) ∧ X.cell? ⟨lb, 1, none⟩ = some (.slice A.pg n A.cg) ∧ X.ownsRow base 43 3 (.slice A.po n A.co) n (L.old.flatMap KS.cells) ∧ X.ownsRow base 4 1 (.slice A.pg n A.cg) n (L.gone.map Value.bool)) := hide (fun X hX => by
    have hb9 := box_keeps h.box hes2 (by decide) hX
    have ho9 := row_keeps h.old hes2 (by decide) hX
    have hg9 := row_keeps h.gone hes2 (by decide) hX
    rw [hn] at ho9 hg9
    exact ⟨by rw [← hn]; simp [World.cell?, hb9], by rw [← hn]; simp [World.cell?, hb9], ho9, hg9⟩)
  obtain ⟨ap, hap⟩ : ∃ x, A.po = x := ⟨_, rfl⟩
  obtain ⟨ag, hag⟩ : ∃ x, A.pg = x := ⟨_, rfl⟩
  rw [hap, hag] at HX
  clear hap hag
  have HF := hide hfs
  have HB := hide hb
  have HGB := hide hgb
  have HN := hide hn
  have HGL := hide hgl
  have HT : Hid (mrg 0 L.old L.gone fs = tot) := hide (by rw [← hfs]; exact htot)
  have HK := hide hK
  rw [hmm] at hm
  rw [hn] at hnb
  clear h hg hfs hes hes2 hb hn hgb hmm hgl htot hK
  go_enter Try.func18, Try.ntmps18
  go_wp2_with fail
  refine HD.out.mono ?_
  rintro _ w1 ⟨m2, rfl, hm2, O1, N1⟩
  rw [HF.out] at O1 hm2
  obtain ⟨y0, y1, OO, OG⟩ := HX.out _ N1
  have HNR := hide (NRow.of_own hm2 O1)
  have HB1 : Hid (Below base W w1) := hide (N1.below HB.out (fun i e => by have e' : i = g := e; rw [e']; exact HGB.out))
  obtain ⟨_, _, ef, j1, j2⟩ := own_form OO
  simp only [Value.slice.injEq, true_and] at ef
  obtain ⟨rfl, rfl⟩ := ef
  obtain ⟨_, _, ef, j3, j4⟩ := own_form OG
  simp only [Value.slice.injEq, true_and] at ef
  obtain ⟨rfl, rfl⟩ := ef
  have HOO := hide OO
  have HOG := hide OG
  have HM2 := hide hm2
  have HY1 := hide y1
  have hle : m2 ≤ A.ce := by omega
  have HN1 := hide N1
  have HI0 : Hid (LI w1 w1 tot 0 (L.old.drop 0) (L.gone.drop 0) [] fs none 0 0 (some ⟨g, 0, none⟩) A.ce) := hide ⟨rfl, World.ownsRow_nil _ _ _ _, HNR.out, HT.out, Below.refl _ _⟩
  clear O1 N1 hm2 HD z4 HX OO OG y1
  go_wp2_with fail
  clear y0
  go_loopw [3, 4, 19] (fun s3 s4 s wq => ∃ (k : Nat) (outs : List KS) (D : List EN) (po : Option Addr) (M co : Nat) (fp : Option Addr) (fc dl : Nat), k ≤ n ∧ s = .int .i64 (k : Int) ∧ s3 = .slice po M co ∧ s4 = .slice fp dl fc ∧ Hid (D.length = dl) ∧ Hid (NRow w1 fp fc D) ∧ Hid (LI w1 wq tot k (L.old.drop k) (L.gone.drop k) outs D po M co fp fc)) (fun _ _ s _ => n - (intOf s).toNat)
  case atStart => exact ⟨0, [], fs, none, 0, 0, some ⟨g, 0, none⟩, A.ce, m2, Nat.zero_le _, rfl, rfl, rfl, HM2, HNR, HI0⟩
  case round =>
    obtain ⟨k, outs, D, po, M, co, fp, fc, dl, hk, rfl, rfl, rfl, HDL, HND, HI⟩ := hrel
    rename World => wq
    clear HI0 HNR HM2
    by_cases hlt : k < n
    · obtain ⟨o, ho⟩ : ∃ o, L.old[k]! = o := ⟨_, rfl⟩
      obtain ⟨go', eg, c0, c1, c2⟩ := ks_cells (ownsRow_later HOO.out HI.out.below) HN.out hlt ho
      subst eg
      have HOD : Hid (L.old.drop k = o :: L.old.drop (k + 1)) := hide (by
        have hkl : k < L.old.length := by rw [HN.out]; exact hlt
        rw [getElem!_pos _ k hkl] at ho
        rw [← ho, List.getElem_cons_drop])
      obtain ⟨x0, x1, x2⟩ := o
      dsimp only at c0 c1 c2
      obtain ⟨V, hV⟩ : ∃ V, V = wq.alloc (.cells #[.int .i64 x0, .int .i64 x1, .int .i64 x2] 43 (0, 0)) := ⟨_, rfl⟩
      have hbV : Below wq.heap.size wq V := by rw [hV]; exact alloc_below _ _
      obtain ⟨kb, hkb⟩ : ∃ kb, wq.heap.size = kb := ⟨_, rfl⟩
      have u0 : V.heap[kb]? = some (.cells #[.int .i64 x0, .int .i64 x1, .int .i64 x2] 43 (0, 0)) := by rw [hV, ← hkb]; exact heap_alloc_new _ _
      have HU := hide u0
      have HIV := hide (HI.out.later hbV)
      have HVB : Hid (w1.heap.size ≤ V.heap.size) := hide HIV.out.below.size
      have hrowb : ∀ b, (Value.slice po M co).ownBlock = some b → b < V.heap.size := fun b hb9 => Nat.lt_of_lt_of_le (own_block_lt HI.out.row hb9).1 hbV.size
      have HKB : Hid (∀ b, (Value.slice po M co).ownBlock = some b → b ≠ kb) := hide (fun b hb9 => by have := (own_block_lt HI.out.row hb9).1; omega)
      clear ho u0 hbV hrowb HI
      go_upto_region 6 with fail
      rw [← hV]
      try rw [hkb]
      clear hV hkb c0 c1 c2
      go_loopw [3, 4] (fun s3 s4 wz => ∃ (outs : List KS) (D : List EN) (po : Option Addr) (M co : Nat) (fp : Option Addr) (fc dl : Nat), s3 = .slice po M co ∧ s4 = .slice fp dl fc ∧ Hid (D.length = dl) ∧ Hid (NRow w1 fp fc D) ∧ Hid (LI w1 wz tot k (L.old.drop k) (L.gone.drop k) outs D po M co fp fc) ∧ Hid (wz.heap[kb]? = some (.cells #[.int .i64 x0, .int .i64 x1, .int .i64 x2] 43 (0, 0))) ∧ Hid (∀ b, (Value.slice po M co).ownBlock = some b → b ≠ kb)) (fun _ s4 _ => lenV s4)
      case atStart => exact ⟨outs, D, po, M, co, fp, fc, dl, rfl, rfl, HDL, HND, HIV, HU, HKB⟩
      case round =>
        clear HIV HU HKB HDL HND
        obtain ⟨outs, D, po, M, co, fp, fc, dl, rfl, rfl, HDL, HND, HI, HU, HKB⟩ := hrel
        rename World => wz
        cases D with
        | nil =>
          have hd0 : dl = 0 := HDL.out.symm
          have dd : decide (dl > 0) = false := decide_eq_false (by omega)
          have ddI : decide ((dl : Int) > 0) = false := decide_eq_false (by omega)
          obtain ⟨D2, hD⟩ : ∃ D : List EN, D = [] := ⟨_, rfl⟩
          have hst : D2 = [] ∨ ∃ f l, D2 = f :: l ∧ f.gap ≠ (k : Int) := .inl hD
          rw [← hD] at HDL HND HI
          clear hD hd0
          obtain ⟨b, hb⟩ : ∃ b, L.gone.getD k false = b := ⟨_, rfl⟩
          have hkg : k < L.gone.length := by rw [HGL.out, HN.out]; exact hlt
          obtain ⟨gg, hgg⟩ := own_at0 HOG.out (by omega)
          subst hgg
          have dg : wz.cell? ⟨gg, k, none⟩ = some (.bool b) := own_cells1 (ownsRow_later HOG.out HI.out.below) (by rw [List.getElem?_map, List.getElem?_eq_getElem hkg, ← hb, List.getD_eq_getElem?_getD, List.getElem?_eq_getElem hkg]; rfl)
          have y1 := cell_later HI.out.below HY1.out
          have HEQ : Hid (mrg k (L.old.drop k) (L.gone.drop k) D2 = (if b = true then [] else [⟨x0, x1, x2⟩]) ++ mrg (k + 1) (L.old.drop (k + 1)) (L.gone.drop (k + 1)) D2) := hide (by
            rw [HOD.out, mrg_stop hst, List.tail_drop]
            have e : (L.gone.drop k).headD false = b := by
              rw [← hb, List.getD_eq_getElem?_getD]
              cases hq : L.gone.drop k with
              | nil =>
                have := congrArg List.length hq
                rw [List.length_drop] at this
                simp at this
                omega
              | cons z zs =>
                have h9 : (L.gone.drop k)[0]? = some z := by rw [hq]; rfl
                rw [List.getElem?_drop, Nat.add_zero] at h9
                rw [h9]
                rfl
            rw [e])
          clear hb hkg hst
          cases b with
          | true =>
            have HIF : Hid (LI w1 wz tot (k + 1) (L.old.drop (k + 1)) (L.gone.drop (k + 1)) outs D2 po M co fp fc) := hide ⟨HI.out.len, HI.out.row, HI.out.new, by rw [← HI.out.eq, HEQ.out, if_pos rfl]; rfl, HI.out.below⟩
            clear HEQ
            go_wp2
            exact ⟨⟨k + 1, outs, D2, po, M, co, fp, fc, dl, by omega, by go_num, rfl, rfl, HDL, HND, HIF⟩, by simp [intOf]; omega⟩
          | false =>
            have hu := HU.out
            have v0 : wz.cell? ⟨kb, 0, none⟩ = some (.int .i64 x0) := by simp [World.cell?, hu]
            have v1 : wz.cell? ⟨kb, 1, none⟩ = some (.int .i64 x1) := by simp [World.cell?, hu]
            have v2 : wz.cell? ⟨kb, 2, none⟩ = some (.int .i64 x2) := by simp [World.cell?, hu]
            have hroom : M + 1 ≤ K := by
              have h9 := congrArg List.length HI.out.eq
              rw [HEQ.out, if_neg (by decide), HK.out, List.length_append, HI.out.len, List.length_append, List.length_singleton] at h9
              omega
            have ab := alloc_below wz (.cells #[.int .i64 x0, .int .i64 x1, .int .i64 x2] 43 (0, 0))
            have HAB := hide ab
            have HRW := hide (ownsRow_later HI.out.row ab)
            have HSG : Hid (Seg (wz.alloc (.cells #[.int .i64 x0, .int .i64 x1, .int .i64 x2] 43 (0, 0))) 3 (.slice (some ⟨wz.heap.size, 0, none⟩) 1 1) 1 [.int .i64 x0, .int .i64 x1, .int .i64 x2]) := hide (Seg.news (heap_alloc_new wz _) (by simp [Value.oneCell']) rfl (Nat.le_refl _) (by decide))
            have HZB : Hid (w1.heap.size ≤ (wz.alloc (.cells #[.int .i64 x0, .int .i64 x1, .int .i64 x2] 43 (0, 0))).heap.size) := hide (Nat.le_trans HI.out.below.size ab.size)
            have HK1 : Hid (M + 1 ≤ maxLen) := by show _ ≤ _; unfold maxLen; omega
            have HK2 : Hid ((M + 1) * 24 ≤ 140737488355328) := hide (by omega)
            clear hu ab hroom
            go_wp2_with (at_builtin; refine append_cells _ rfl (.tmp 52) (.tmp 54) 27 rfl w1.heap.size 43 i0 (.agg #[.int .i64 0, .int .i64 0, .int .i64 0]) 3 24 Try.underlying27 hI0 hz0 hz1 hz2 rfl (by decide) (.slice po M co) M _ rfl HRW.out (.slice (some ⟨wz.heap.size, 0, none⟩) 1 1) 1 _ rfl HSG.out HK1.out HK2.out HZB.out ?_)
            intro p6 c6 w6 o6 g6
            have HIF : Hid (LI w1 w6 tot (k + 1) (L.old.drop (k + 1)) (L.gone.drop (k + 1)) (outs ++ [⟨x0, x1, x2⟩]) D2 p6 (M + 1) c6 fp fc) := hide (HI.out.put HAB.out g6 o6 HND.out (by rw [HEQ.out, if_neg (by decide)]; rfl))
            clear o6 g6 v0 v1 v2 HEQ
            go_wp2
            exact ⟨⟨k + 1, _, D2, p6, M + 1, c6, fp, fc, dl, by omega, by go_num, rfl, rfl, HDL, HND, HIF⟩, by simp [intOf]; omega⟩
        | cons f D =>
          obtain ⟨fg, fo, hfp, e1, e2, e3, e4⟩ := (HND.out.below HI.out.below).at0
          subst hfp
          have hdl : D.length + 1 = dl := HDL.out
          have hdp : 0 < dl := by omega
          have dd : decide (dl > 0) = true := decide_eq_true hdp
          have ddI : decide ((dl : Int) > 0) = true := decide_eq_true (by omega)
          have hfc1 := HND.out.le
          rw [List.length_cons] at hfc1
          have hfc2 := HND.out.top
          by_cases hgp : f.gap = (k : Int)
          · have HEQ : Hid (mrg k (L.old.drop k) (L.gone.drop k) (f :: D) = f.ks :: mrg k (L.old.drop k) (L.gone.drop k) D) := hide (mrg_cons (by rw [HOD.out]; simp) hgp)
            have HNT := hide HND.out.tail
            obtain ⟨f0, f1, f2, f3, f4⟩ := f
            simp only at e1 e2 e3 e4 hgp
            subst hgp
            have hroom : M + 1 ≤ K := by
              have h9 := congrArg List.length HI.out.eq
              rw [HEQ.out, HK.out, List.length_append, HI.out.len, List.length_cons] at h9
              omega
            have ab := alloc_below wz (.cells #[.int .i64 f1, .int .i64 f2, .int .i64 f3] 43 (0, 0))
            have HAB := hide ab
            have HRW := hide (ownsRow_later HI.out.row ab)
            have HZB : Hid (w1.heap.size ≤ (wz.alloc (.cells #[.int .i64 f1, .int .i64 f2, .int .i64 f3] 43 (0, 0))).heap.size) := hide (Nat.le_trans HI.out.below.size ab.size)
            have HK1 : Hid (M + 1 ≤ maxLen) := by show _ ≤ _; unfold maxLen; omega
            have HK2 : Hid ((M + 1) * 24 ≤ 140737488355328) := hide (by omega)
            obtain ⟨tp, htp⟩ : ∃ tp, (if fc = 1 then (some ⟨fg, fo, none⟩ : Option Addr) else Option.map (fun (x : Addr) => x.add 5) (some ⟨fg, fo, none⟩ : Option Addr)) = tp := ⟨_, rfl⟩
            rw [htp] at HNT
            have hc1 : 1 ≤ fc := by omega
            clear ab hroom
            go_wp2_with (at_builtin; refine wpList_append_own_at _ rfl (.tmp 35) (.tmp 40) 27 rfl w1.heap.size 43 i0 (.agg #[.int .i64 0, .int .i64 0, .int .i64 0]) 3 24 Try.underlying27 hI0 hz0 hz1 hz2 rfl (by decide) (.slice po M co) M _ rfl HRW.out ⟨wz.heap.size, 0, none⟩ 1 1 [.int .i64 f1, .int .i64 f2, .int .i64 f3] rfl rfl (World.news_of_block (heap_alloc_new wz _)) (by simp [Value.oneCell']) HK1.out HK2.out HZB.out ?_)
            intro v6 w6 o6 g6 _ k6
            obtain ⟨p6, c6, rfl, _, _⟩ := own_form o6
            have HIF : Hid (LI w1 w6 tot k (L.old.drop k) (L.gone.drop k) (outs ++ [⟨f1, f2, f3⟩]) D p6 (M + 1) c6 tp (fc - 1)) := hide (HI.out.put HAB.out g6 o6 HNT.out HEQ.out)
            have hkb := (Array.getElem?_eq_some_iff.1 HU.out).1
            have HU6 : Hid (w6.heap[kb]? = some (.cells #[.int .i64 x0, .int .i64 x1, .int .i64 x2] 43 (0, 0))) := hide (((Only.alloc (fun i => (Value.slice po M co).ownBlock = some i) wz _).trans (Only.of_grown (F := fun i => (Value.slice po M co).ownBlock = some i) g6 (fun k e => e))).obj HU.out (fun e => HKB.out kb e rfl))
            have HKB6 : Hid (∀ b, (Value.slice p6 (M + 1) c6).ownBlock = some b → b ≠ kb) := hide (fun b hb9 e9 => by
              rcases k6 with h | h
              · rw [h] at hb9; exact HKB.out b hb9 e9
              · rw [h] at hb9
                simp at hb9
                omega)
            have HDL6 : Hid (D.length = dl - 1) := hide (by omega)
            clear o6 g6 k6 hkb HRW HZB HK1 HK2 HAB HI HU HKB HEQ HDL HND e1 e2 e3 e4
            go_wp2
            exact ⟨⟨outs ++ [⟨f1, f2, f3⟩], D, p6, M + 1, c6, tp, fc - 1, dl - 1, rfl, by first | rfl | (rw [← htp]; simp [Addr.add]), HDL6, HNT, HIF, HU6, HKB6⟩, by simp [lenV]; omega⟩
          · have hgk : (f.gap == (k : Int)) = false := by simpa using hgp
            obtain ⟨D2, hD⟩ : ∃ D2 : List EN, D2 = f :: D := ⟨_, rfl⟩
            have hst : D2 = [] ∨ ∃ g l, D2 = g :: l ∧ g.gap ≠ (k : Int) := .inr ⟨f, D, hD, hgp⟩
            rw [← hD] at HDL HND HI
            obtain ⟨fgap, hfg⟩ : ∃ x, f.gap = x := ⟨_, rfl⟩
            rw [hfg] at e4 hgk
            clear hD e1 e2 e3 hfg hgp hdl hfc1
            obtain ⟨b, hb⟩ : ∃ b, L.gone.getD k false = b := ⟨_, rfl⟩
            have hkg : k < L.gone.length := by rw [HGL.out, HN.out]; exact hlt
            obtain ⟨gg, hgg⟩ := own_at0 HOG.out (by omega)
            subst hgg
            have dg : wz.cell? ⟨gg, k, none⟩ = some (.bool b) := own_cells1 (ownsRow_later HOG.out HI.out.below) (by rw [List.getElem?_map, List.getElem?_eq_getElem hkg, ← hb, List.getD_eq_getElem?_getD, List.getElem?_eq_getElem hkg]; rfl)
            have y1 := cell_later HI.out.below HY1.out
            have HEQ : Hid (mrg k (L.old.drop k) (L.gone.drop k) D2 = (if b = true then [] else [⟨x0, x1, x2⟩]) ++ mrg (k + 1) (L.old.drop (k + 1)) (L.gone.drop (k + 1)) D2) := hide (by
              rw [HOD.out, mrg_stop hst, List.tail_drop]
              have e : (L.gone.drop k).headD false = b := by
                rw [← hb, List.getD_eq_getElem?_getD]
                cases hq : L.gone.drop k with
                | nil =>
                  have := congrArg List.length hq
                  rw [List.length_drop] at this
                  simp at this
                  omega
                | cons z zs =>
                  have h9 : (L.gone.drop k)[0]? = some z := by rw [hq]; rfl
                  rw [List.getElem?_drop, Nat.add_zero] at h9
                  rw [h9]
                  rfl
              rw [e])
            clear hb hkg hst
            cases b with
            | true =>
              have HIF : Hid (LI w1 wz tot (k + 1) (L.old.drop (k + 1)) (L.gone.drop (k + 1)) outs D2 po M co (some ⟨fg, fo, none⟩) fc) := hide ⟨HI.out.len, HI.out.row, HI.out.new, by rw [← HI.out.eq, HEQ.out, if_pos rfl]; rfl, HI.out.below⟩
              clear HEQ
              go_wp2
              exact ⟨⟨k + 1, outs, D2, po, M, co, (some ⟨fg, fo, none⟩), fc, dl, by omega, by go_num, rfl, rfl, HDL, HND, HIF⟩, by simp [intOf]; omega⟩
            | false =>
              have hu := HU.out
              have v0 : wz.cell? ⟨kb, 0, none⟩ = some (.int .i64 x0) := by simp [World.cell?, hu]
              have v1 : wz.cell? ⟨kb, 1, none⟩ = some (.int .i64 x1) := by simp [World.cell?, hu]
              have v2 : wz.cell? ⟨kb, 2, none⟩ = some (.int .i64 x2) := by simp [World.cell?, hu]
              have hroom : M + 1 ≤ K := by
                have h9 := congrArg List.length HI.out.eq
                rw [HEQ.out, if_neg (by decide), HK.out, List.length_append, HI.out.len, List.length_append, List.length_singleton] at h9
                omega
              have ab := alloc_below wz (.cells #[.int .i64 x0, .int .i64 x1, .int .i64 x2] 43 (0, 0))
              have HAB := hide ab
              have HRW := hide (ownsRow_later HI.out.row ab)
              have HSG : Hid (Seg (wz.alloc (.cells #[.int .i64 x0, .int .i64 x1, .int .i64 x2] 43 (0, 0))) 3 (.slice (some ⟨wz.heap.size, 0, none⟩) 1 1) 1 [.int .i64 x0, .int .i64 x1, .int .i64 x2]) := hide (Seg.news (heap_alloc_new wz _) (by simp [Value.oneCell']) rfl (Nat.le_refl _) (by decide))
              have HZB : Hid (w1.heap.size ≤ (wz.alloc (.cells #[.int .i64 x0, .int .i64 x1, .int .i64 x2] 43 (0, 0))).heap.size) := hide (Nat.le_trans HI.out.below.size ab.size)
              have HK1 : Hid (M + 1 ≤ maxLen) := by show _ ≤ _; unfold maxLen; omega
              have HK2 : Hid ((M + 1) * 24 ≤ 140737488355328) := hide (by omega)
              clear hu ab hroom
              go_wp2_with (at_builtin; refine append_cells _ rfl (.tmp 52) (.tmp 54) 27 rfl w1.heap.size 43 i0 (.agg #[.int .i64 0, .int .i64 0, .int .i64 0]) 3 24 Try.underlying27 hI0 hz0 hz1 hz2 rfl (by decide) (.slice po M co) M _ rfl HRW.out (.slice (some ⟨wz.heap.size, 0, none⟩) 1 1) 1 _ rfl HSG.out HK1.out HK2.out HZB.out ?_)
              intro p6 c6 w6 o6 g6
              have HIF : Hid (LI w1 w6 tot (k + 1) (L.old.drop (k + 1)) (L.gone.drop (k + 1)) (outs ++ [⟨x0, x1, x2⟩]) D2 p6 (M + 1) c6 (some ⟨fg, fo, none⟩) fc) := hide (HI.out.put HAB.out g6 o6 HND.out (by rw [HEQ.out, if_neg (by decide)]; rfl))
              clear o6 g6 v0 v1 v2 HEQ
              go_wp2
              exact ⟨⟨k + 1, _, D2, p6, M + 1, c6, (some ⟨fg, fo, none⟩), fc, dl, by omega, by go_num, rfl, rfl, HDL, HND, HIF⟩, by simp [intOf]; omega⟩
    · obtain rfl : k = n := by omega
      have HEQ : Hid (mrg k (L.old.drop k) (L.gone.drop k) D = D.map EN.ks) := hide (by
        rw [List.drop_of_length_le (by rw [HN.out]; exact Nat.le_refl _)]
        unfold mrg
        rfl)
      have HTOT : Hid (outs ++ D.map EN.ks = tot) := hide (by rw [← HEQ.out]; exact HI.out.eq)
      have HML : Hid (M + dl = K) := hide (by
        have h9 := congrArg List.length HTOT.out
        rw [List.length_append, HI.out.len, List.length_map, HDL.out, HK.out] at h9
        exact h9)
      have hMK : M + dl ≤ K := by have := HML.out; omega
      have hfc1 := HND.out.le
      have hfc2 := HND.out.top
      rw [HDL.out] at hfc1
      clear HEQ
      go_wp2_with fail
      go_loopw [59, 3] (fun i v wr => ∃ (d c : Nat) (p : Option Addr), d ≤ dl ∧ i = .int .i64 (d : Int) ∧ v = .slice p (M + d) c ∧ Hid (wr.ownsRow w1.heap.size 43 3 (.slice p (M + d) c) (M + d) ((outs ++ (D.take d).map EN.ks).flatMap KS.cells)) ∧ Hid (Below w1.heap.size w1 wr)) (fun i _ _ => dl - (intOf i).toNat)
      case atStart => exact ⟨0, co, po, Nat.zero_le _, rfl, rfl, hide (by rw [List.take_zero, List.map_nil, List.append_nil]; exact HI.out.row), hide HI.out.below⟩
      case round =>
        obtain ⟨d, c, p, hd, rfl, rfl, HO, HBB⟩ := hrel
        rename World => wr
        clear HI
        by_cases hlt2 : d < dl
        · have hdD : d < D.length := by rw [HDL.out]; exact hlt2
          obtain ⟨g3, o3, hfp, hc⟩ := (HND.out.below HBB.out).cell d hdD
          subst hfp
          obtain ⟨x, hx⟩ : ∃ x, D[d]! = x := ⟨_, rfl⟩
          rw [hx] at hc
          obtain ⟨x0, x1, x2, x3, x4⟩ := x
          have c0 : wr.cell? ⟨g3, o3 + d * 5, none⟩ = some (.int .i64 x0) := hc 0 (by decide)
          have c1 : wr.cell? ⟨g3, o3 + d * 5 + 1, none⟩ = some (.int .i64 x1) := hc 1 (by decide)
          have c2 : wr.cell? ⟨g3, o3 + d * 5 + 2, none⟩ = some (.int .i64 x2) := hc 2 (by decide)
          have c3 : wr.cell? ⟨g3, o3 + d * 5 + 3, none⟩ = some (.int .i64 x3) := hc 3 (by decide)
          have c4 : wr.cell? ⟨g3, o3 + d * 5 + 4, none⟩ = some (.int .i64 x4) := hc 4 (by decide)
          have HXX := hide hx
          obtain ⟨V, hV⟩ : ∃ V, V = wr.alloc (.cells #[.int .i64 x0, .int .i64 x1, .int .i64 x2, .int .i64 x3, .int .i64 x4] 74 (0, 0)) := ⟨_, rfl⟩
          have hbV : Below wr.heap.size wr V := by rw [hV]; exact alloc_below _ _
          have u0 : V.heap[wr.heap.size]? = some (.cells #[.int .i64 x0, .int .i64 x1, .int .i64 x2, .int .i64 x3, .int .i64 x4] 74 (0, 0)) := by rw [hV]; exact heap_alloc_new _ _
          obtain ⟨nb, hnb⟩ : ∃ nb, wr.heap.size = nb := ⟨_, rfl⟩
          rw [hnb] at u0
          have v1 : V.cell? ⟨nb, 1, none⟩ = some (.int .i64 x1) := by simp [World.cell?, u0]
          have v2 : V.cell? ⟨nb, 2, none⟩ = some (.int .i64 x2) := by simp [World.cell?, u0]
          have v3 : V.cell? ⟨nb, 3, none⟩ = some (.int .i64 x3) := by simp [World.cell?, u0]
          have ab := alloc_below V (.cells #[.int .i64 x1, .int .i64 x2, .int .i64 x3] 43 (0, 0))
          obtain ⟨N, hN⟩ : ∃ N, M + d = N := ⟨_, rfl⟩
          have hO9 := HO.out
          rw [hN] at hO9 ⊢
          obtain ⟨zs, hzs⟩ : ∃ zs, outs ++ (D.take d).map EN.ks = zs := ⟨_, rfl⟩
          rw [hzs] at hO9
          have HZS := hide hzs
          clear hzs
          have HRW := hide (ownsRow_later (ownsRow_later hO9 hbV) ab)
          have HSG : Hid (Seg (V.alloc (.cells #[.int .i64 x1, .int .i64 x2, .int .i64 x3] 43 (0, 0))) 3 (.slice (some ⟨V.heap.size, 0, none⟩) 1 1) 1 [.int .i64 x1, .int .i64 x2, .int .i64 x3]) := hide (Seg.news (heap_alloc_new V _) (by simp [Value.oneCell']) rfl (Nat.le_refl _) (by decide))
          have HZB : Hid (w1.heap.size ≤ (V.alloc (.cells #[.int .i64 x1, .int .i64 x2, .int .i64 x3] 43 (0, 0))).heap.size) := hide (Nat.le_trans (Nat.le_trans HBB.out.size hbV.size) ab.size)
          have HK1 : Hid (N + 1 ≤ maxLen) := by show _ ≤ _; unfold maxLen; omega
          have HK2 : Hid ((N + 1) * 24 ≤ 140737488355328) := hide (by omega)
          have HBV : Hid (Below w1.heap.size w1 V) := hide (HBB.out.trans (hbV.mono HBB.out.size))
          have HLT : Hid (∀ i, (Value.slice p N c).ownBlock = some i → w1.heap.size ≤ i) := hide (fun i e => (hO9.lt i e).1)
          have HNN : Hid (M + (d + 1) = N + 1) := hide (by omega)
          clear hx u0 hbV ab HO HBB hO9 hN hc
          go_upto_region 15 with fail
          rw [← hV]
          try rw [hnb]
          clear hV hnb c0 c1 c2 c3 c4
          go_wp2_with (at_builtin; refine append_cells _ rfl (.tmp 63) (.tmp 66) 27 rfl w1.heap.size 43 i0 (.agg #[.int .i64 0, .int .i64 0, .int .i64 0]) 3 24 Try.underlying27 hI0 hz0 hz1 hz2 rfl (by decide) (.slice p N c) N _ rfl HRW.out (.slice (some ⟨V.heap.size, 0, none⟩) 1 1) 1 _ rfl HSG.out HK1.out HK2.out HZB.out ?_)
          intro p6 c6 w6 o6 g6
          have HN6 : Hid (Below w1.heap.size w1 w6) := hide (HBV.out.trans (((Only.alloc _ _ _).trans (Only.of_grown (F := fun i => (Value.slice p N c).ownBlock = some i) g6 (fun k e => e))).below HBV.out.size HLT.out))
          have HO6 : Hid (w6.ownsRow w1.heap.size 43 3 (.slice p6 (M + (d + 1)) c6) (M + (d + 1)) ((outs ++ (D.take (d + 1)).map EN.ks).flatMap KS.cells)) := by
            have h2 := HXX.out
            rw [getElem!_pos D d hdD] at h2
            refine hide ?_
            rw [HNN.out, List.take_succ_eq_append_getElem hdD, h2, List.map_append, ← List.append_assoc, HZS.out, List.flatMap_append]
            exact o6
          have HNE := hide HNN.out.symm
          clear o6 g6
          go_wp2
          exact ⟨⟨d + 1, c6, p6, by omega, by go_num, by rw [HNN.out], HO6, HN6⟩, by simp [intOf]; omega⟩
        · obtain rfl : d = dl := by omega
          have HOF : Hid (wr.ownsRow base 43 3 (.slice p K c) K (tot.flatMap KS.cells)) := by
            have h9 := HO.out
            rw [List.take_of_length_le (by rw [HDL.out]; exact Nat.le_refl _), HTOT.out, HML.out] at h9
            exact hide (ownsRow_base h9 (Nat.le_trans HB.out HB1.out.size))
          have HBF : Hid (Only (· = g) W wr) := hide (HN1.out.trans (Only.fresh HBB.out _))
          rw [HML.out]
          clear HO HBB
          go_wp2
          go_ret
          exact ⟨p, c, rfl, HOF.out, HBF.out⟩
end Go.Proofs.Ytcabfohmimglpaa
