/-
  A region that draws its order inside a round of a loop over a function, by an invariant over what has come up; slices.Clone of pending writes, file.clone. The conditions: lengths.
-/
import Derived.Test.YtikpckmlnhcddaaGreatRcl
import Derived.Test.YtikpckmlnhcddaaGreatCra
import Derived.Deep.RegionHeld3
import Derived.Test.YtikpckmlnhcddaaGreatPgm
import Derived.Test.YtikpckmlnhcddaaGreatPsh
namespace Go.Proofs.YtikpckmlnhcddaaGreat
open Go.RowKit Go.Maps

theorem region_inv_in {F : Fence} {n : Nat} {P : Program} {id : Nat} {ops : Array Oper} {Q : Exit → Act → World → Prop} {a0 : Act} {w : World} (hm : P.follows .mixedOrders = true) (hback : backB ops = true) (I : Array Bool → Act → World → Prop)
    (h0 : I (Array.replicate ops.size false) a0 w.drew)
    (hstep : ∀ (listed : Array Bool) (a : Act) (X : World) (i : Nat), listed.size = ops.size → i < ops.size → listed.getD i true = false → (∀ j, Region.waitsFor .any ops i j = true → listed.getD j false = true) → I listed a X → ∀ K : Act → World → Prop, (∀ a' X', I (listed.setIfInBounds i true) a' X' → K a' X') → wpOpIn F n P ops Q i K a X)
    (hend : ∀ (listed : Array Bool) (a : Act) (X : World), (∀ j, j < ops.size → listed.getD j false = true) → I listed a X → Q .normal a X) :
    (Code.region id ops true).wpIn F n P Q a0 w := by
  refine wpIn_region_any hm ?_
  have all_of : ∀ (listed : Array Bool), listed.size = ops.size → Region.ready .any ops listed = [] → ∀ j, j < ops.size → listed.getD j false = true := by
    intro listed hsz hr j hj
    cases hl : listed.getD j false with
    | true => rfl
    | false =>
      exfalso
      have hj' : unl listed j = true := by unfold unl; rw [getD_in (by omega) hl]; rfl
      obtain ⟨i, him, hi, hmin⟩ := least (unl listed) j hj'
      have hget : ops[i]? = some (ops[i]'(by omega)) := Array.getElem?_eq_getElem (by omega)
      have : i ∈ Region.ready .any ops listed := by
        refine mem_ready.2 ⟨by simpa [unl] using hi, _, hget, fun e he _ => ?_⟩
        have hbk := List.all_eq_true.1 hback i (by simp; omega)
        rw [hget] at hbk
        simp only at hbk
        have hlt := of_decide_eq_true (Array.all_eq_true'.1 hbk e he)
        have := hmin e.on hlt
        have hsl : e.on < listed.size := by omega
        simp [unl, hsl] at this
        simp [hsl, this]
      rw [hr] at this
      cases this
  have key : ∀ (fuel : Nat) (listed : Array Bool) (a : Act) (X : World), listed.size = ops.size → I listed a X → (List.range ops.size).countP (unl listed) ≤ fuel → wpAnyIn F n P .any ops Q fuel listed a X := by
    intro fuel
    induction fuel with
    | zero =>
      intro listed a X hsz hI hc
      have hz : (List.range ops.size).countP (unl listed) = 0 := by omega
      have hr : Region.ready .any ops listed = [] := by
        rw [List.eq_nil_iff_forall_not_mem]
        intro i hi
        obtain ⟨hun, oi, hoi, _⟩ := mem_ready.1 hi
        have hilt : i < ops.size := (Array.getElem?_eq_some_iff.1 hoi).1
        have := List.countP_eq_zero.1 hz i (by simp; omega)
        simp [unl, hun] at this
      exact ⟨hr, hend listed a X (all_of listed hsz hr) hI⟩
    | succ fuel ih =>
      intro listed a X hsz hI hc
      refine ⟨fun hr => hend listed a X (all_of listed hsz hr) hI, fun i hi => ?_⟩
      obtain ⟨hun, oi, hoi, hall⟩ := mem_ready.1 hi
      have hilt : i < ops.size := (Array.getElem?_eq_some_iff.1 hoi).1
      have hiu : unl listed i = true := by unfold unl; rw [hun]; rfl
      have hcnt := cnt_set hiu (List.range ops.size) (by simp; omega)
      refine hstep listed a X i hsz hilt hun (fun j hw => ?_) hI _ (fun a' X' hI' => ih _ a' X' (by simp [hsz]) hI' (by omega))
      obtain ⟨o', ho', e, he, hbd, hon⟩ := Region.waitsFor_spec hw
      have : o' = oi := Option.some.inj (ho'.symm.trans hoi)
      subst this
      have := hall e he hbd
      rw [hon] at this
      exact this
  refine key ops.size _ a0 _ (by simp) h0 ?_
  have := List.countP_le_length (p := unl (Array.replicate ops.size false)) (l := List.range ops.size)
  simpa using this

theorem writes_len : ∀ ws : List MW, (ws.flatMap MW.cells).length = ws.length * 4
  | [] => rfl
  | x :: ws => by rw [List.flatMap_cons, List.length_append, writes_len ws]; simp [MW.cells]; omega
theorem writes_one {W : World} {ws : List MW} (h : ∀ x ∈ ws, W.ownsRow 0 5 1 x.cov x.p.cl.length (x.p.cl.map (Value.int .u8)) ∧ U8 x.p.cl) : ∀ u ∈ ws.flatMap MW.cells, u.oneCell' = true := by
  intro u hu
  obtain ⟨x, hx, hux⟩ := List.mem_flatMap.1 hu
  obtain ⟨p, c, e, _, _⟩ := own_form (h x hx).1
  unfold MW.cells at hux
  rw [e] at hux
  simp at hux
  rcases hux with rfl | rfl | rfl | rfl <;> rfl

set_option maxRecDepth 100000 in
set_option maxHeartbeats 1000000 in
theorem wclone_any {W : World} {p : Option Addr} {n c : Nat} {ws : List MW} (h : W.ownsRow 0 93 4 (.slice p n c) n (ws.flatMap MW.cells)) (h1 : ∀ u ∈ ws.flatMap MW.cells, u.oneCell' = true) (hn : ws.length = n) (hb : n ≤ 2199023255552) :
    Calls Tryz.prog 71 #[.slice p n c] W fun e w' => ∃ p' c', e = .returned (.slice p' n c') ∧ w'.ownsRow W.heap.size 93 4 (.slice p' n c') n (ws.flatMap MW.cells) ∧ Below W.heap.size W w' := by
  obtain ⟨i0, hI0, hz0, hz1, hz2⟩ := info_parts Tryz.infoWr
  have q : ∀ (w : World) (a : Option Addr) (n c : Nat), (binOp .eql 78 (.slice a n c) (.slice none 0 0)).run Tryz.prog w = .ok (.bool a.isNone) w := fun w a n c => Lib.run_eql_slice_nil w _ _ a n c 0 0 Tryz.underlying78
  cases p with
  | none =>
    obtain ⟨rfl, rfl⟩ : n = 0 ∧ c = 0 := by
      rcases h.2 with ⟨e, h0⟩ | ⟨g, cap', cur, he, _⟩
      · simp only [Value.slice.injEq] at e; exact ⟨h0, e.2.2⟩
      · simp at he
    obtain rfl : ws = [] := List.eq_nil_of_length_eq_zero hn
    clear h h1
    go_enter Tryz.func71, Tryz.ntmps71
    go_wp2
    go_ret
    exact ⟨none, 0, rfl, World.ownsRow_nil _ _ _ _, Below.refl _ _⟩
  | some ad =>
    have hsg := Seg.of_own h h1 (by rw [writes_len, hn]) (Nat.le_refl _)
    rw [List.take_of_length_le (by rw [writes_len, hn]; exact Nat.le_refl _)] at hsg
    have HSG := hide (hsg.below ((Below.refl _ W).alloc (Nat.le_refl _) (.cells #[] 93 (0, 0))))
    have HK1 : Hid (0 + n ≤ maxLen) := by show _ ≤ _; unfold maxLen; omega
    have HK2 : Hid ((0 + n) * 48 ≤ 140737488355328) := by show _ ≤ _; omega
    clear h h1 hsg
    go_enter Tryz.func71, Tryz.ntmps71
    go_wp2_with (at_builtin; refine append_cells _ rfl (.tmp 5) (.tmp 6) 78 rfl W.heap.size 93 i0 (.agg #[.int .i64 0, .int .i64 0, .int .i64 0, .slice none 0 0]) 4 48 Tryz.underlying78 hI0 hz0 hz1 hz2 rfl (by decide) (.slice (some ⟨W.heap.size, 0, none⟩) 0 0) 0 [] rfl (World.ownsRow_made W #[] 0 (Nat.le_refl _) (Nat.zero_le _) rfl) (.slice (some ad) n c) n _ rfl HSG.out HK1.out HK2.out (by simp) ?_)
    intro p' c' w1 hown hgrow
    have HO := hide hown
    have HB : Hid (Below W.heap.size W w1) := hide (((Below.refl _ W).alloc (Nat.le_refl _) _).grown hgrow (by simp) (by intro k hk; simp [Value.ownBlock] at hk; omega))
    clear hown hgrow
    go_wp2
    go_ret
    exact ⟨p', c', rfl, HO.out, HB.out⟩

set_option maxRecDepth 100000 in
set_option maxHeartbeats 2000000 in
theorem fclone_any {W : World} {f : MF} (h : FRep W f) (hc : f.c.length ≤ 4194304) (hw : f.ws.length ≤ 2199023255552) :
    Calls Tryz.prog 49 #[.pointer (some ⟨f.fb, 0, none⟩)] W fun e w' => ∃ g : MF, e = .returned (.pointer (some ⟨g.fb, 0, none⟩)) ∧ FRep w' g ∧ g.name = f.name ∧ g.c = f.c ∧ g.ws = f.ws ∧ (∀ i, ownF g i → W.heap.size ≤ i) ∧ Below W.heap.size W w' := by
  obtain ⟨cp, cc, hce, hc1, hc2⟩ := own_form h.con
  obtain ⟨pp, pc, hpe, hp1, hp2⟩ := own_form h.pen
  have q1 : W.cell? ⟨f.fb, 0, none⟩ = some (.slice cp f.c.length cc) := by rw [← hce]; simp [World.cell?, h.box]
  have q2 : W.cell? ⟨f.fb, 1, none⟩ = some (.slice pp f.ws.length pc) := by rw [← hpe]; simp [World.cell?, h.box]
  have hlt : f.fb < W.heap.size := (Array.getElem?_eq_some_iff.1 h.box).1
  have H := hide h
  have HCE := hide hce
  have HPE := hide hpe
  have B0 : Below W.heap.size W W.drew := (Below.refl _ W).drew
  clear h hce hpe
  go_enter Tryz.func49, Tryz.ntmps49
  go_upto_region 1 with fail
  go_region_held3 (fun w' => w'.cell? ⟨f.fb, 0, none⟩ = some (.slice cp f.c.length cc) ∧ w'.cell? ⟨f.fb, 1, none⟩ = some (.slice pp f.ws.length pc)) (go_keep)
    (first
      | (go_at_call 61; refine (clone_any (l := f.c) (by rw [← HCE.out]; exact own_row (ownsRow_later H.out.con B0)) (by omega)).mono ?_; rintro _ w1 ⟨v1, rfl, o1, b1⟩; obtain ⟨pa, ca, rfl, _, _⟩ := own_form o1; have B1 : Below W.heap.size W w1 := B0.trans b1; have s1 := cell_later B1 q1; have s2 := cell_later B1 q2; have l1 : f.fb < w1.heap.size := Nat.lt_of_lt_of_le hlt B1.size)
      | (go_at_call 71; refine (wclone_any (ws := f.ws) (by rw [← HPE.out]; exact ownsRow_later H.out.pen B1) (writes_one H.out.cov) rfl hw).mono ?_; rintro _ w2 ⟨p2, c2, rfl, o2, b2⟩; have B2 : Below W.heap.size W w2 := B1.trans (b2.mono B1.size); have s3 := cell_later B2 q1; have s4 := cell_later B2 q2; have l2 : f.fb < w2.heap.size := Nat.lt_of_lt_of_le hlt B2.size))
  have b3 := alloc_below w2 (.cells #[.slice pa f.c.length ca, .slice p2 f.ws.length c2] 80 (0, 0))
  have HO1 := hide (ownsRow_later (ownsRow_later o1 b2) b3)
  have HO2 := hide (ownsRow_later o2 b3)
  have HB3 : Hid (Below W.heap.size W (w2.alloc (.cells #[.slice pa f.c.length ca, .slice p2 f.ws.length c2] 80 (0, 0)))) := hide (B2.trans (b3.mono B2.size))
  have hz1 := B1.size
  have hz2 := B2.size
  clear o1 o2 b1 b2 b3 B0 B1 B2 s1 s2 s3 s4 q1 q2
  go_wp2
  go_ret
  refine ⟨⟨f.name, f.c, f.ws, w2.heap.size, .slice pa f.c.length ca, .slice p2 f.ws.length c2⟩, rfl, ⟨heap_alloc_new _ _, own_base5 HO1.out (Nat.zero_le _), own_base5 HO2.out (Nat.zero_le _), fun x hx => ⟨ownsRow_later (H.out.cov x hx).1 HB3.out, (H.out.cov x hx).2⟩, H.out.u8⟩, rfl, rfl, rfl, fun i hi => ?_, HB3.out⟩
  rcases hi with e | e | e
  · simp only at e; omega
  · exact own_block_base HO1.out e
  · have := own_block_base HO2.out e; omega
end Go.Proofs.YtikpckmlnhcddaaGreat

/-
  The program's Clone: a store with all of the same, in blocks of its own. The conditions: lengths.
-/
namespace Go.Proofs.YtikpckmlnhcddaaGreat
open Go.RowKit Go.Maps
attribute [local go_sem] Oper.semAt_some

theorem run_makeMap_hint (w : World) (n : Int) : (Instr.makeMap 61 (some (.int .i64 n))).run Tryz.prog w = .ok (.map (some w.heap.size)) (w.alloc (.map #[] 0)) := by
  simp [Instr.makeMap, run_underlying Tryz.undMap, asInt, Result.andThen]
  rfl
def MF.key (f : MF) : List UInt8 × List Int × List MW := (f.name, f.c, f.ws)

/-- What holds behind k files. -/
def ClI (nm : Nat) (fs : List MF) (w2 : World) (k : Nat) (X : World) : Prop := ∃ gs : List MF, gs.map MF.key = (fs.take k).map MF.key ∧ X.ownsMap Tryz.prog 9 ptrElem nm gs.length (.map (gs.map ent)) ∧ (∀ g ∈ gs, FRep X g ∧ ∀ i, ownF g i → w2.heap.size ≤ i) ∧ gs.Pairwise (fun f g => f.fb ≠ g.fb ∧ Apart f.cv g.cv ∧ Apart f.pv g.pv) ∧ Only (· = nm) w2 X

theorem FRep.kind {W : World} {f : MF} (h : FRep W f) {i : Nat} (hi : ownF f i ∨ covF f i) : ∃ cur t, W.heap[i]? = some (.cells cur t (0, 0)) := by
  rcases hi with (rfl | e | e) | ⟨x, hx, e⟩
  · exact ⟨_, _, h.box⟩
  · obtain ⟨_, cur, hc⟩ := own_block_lt h.con e; exact ⟨cur, _, hc⟩
  · obtain ⟨_, cur, hc⟩ := own_block_lt h.pen e; exact ⟨cur, _, hc⟩
  · obtain ⟨_, cur, hc⟩ := own_block_lt (h.cov x hx).1 e; exact ⟨cur, _, hc⟩
theorem FRep.put {W : World} {f : MF} (h : FRep W f) {l : Nat} {o o' : Obj} (ho : W.heap[l]? = some o) (hc : o.isCells = false) : FRep (W.putObj l o') f := by
  have hn : ∀ i, (ownF f i ∨ covF f i) → ¬ i = l := fun i hi e => by
    obtain ⟨cur, t, hk⟩ := h.kind hi
    rw [e, ho] at hk
    simp only [Option.some.injEq] at hk
    rw [hk] at hc
    exact absurd hc (by simp [Obj.isCells])
  exact h.only (Only.of_grown (F := (· = l)) (grownBy_putObj' W l o') (fun k e => by simpa using e.symm)) (fun i hi => hn i (.inl hi)) (fun i hi => hn i (.inr hi))
theorem ClI.only {nm : Nat} {fs : List MF} {w2 X Y : World} {k : Nat} {F : Nat → Prop} (h : ClI nm fs w2 k X) (ho : Only F X Y) (h1 : ¬ F nm) (h2 : ∀ i, (∃ cur t, X.heap[i]? = some (.cells cur t (0, 0))) → ¬ F i) (h3 : ∀ i, F i → w2.heap.size ≤ i) : ClI nm fs w2 k Y := by
  obtain ⟨gs, a1, a2, a3, a4, a5⟩ := h
  refine ⟨gs, a1, ownsMap_only a2 ho h1, fun g hg => ⟨(a3 g hg).1.only ho (fun i hi => h2 i ((a3 g hg).1.kind (.inl hi))) (fun i hi => h2 i ((a3 g hg).1.kind (.inr hi))), (a3 g hg).2⟩, a4, a5.step ho (fun i e => .inr (h3 i e))⟩

theorem insF_last {x : MF} : ∀ {gs : List MF}, (∀ y ∈ gs, bytesBefore y.name x.name = true) → insF x gs = gs ++ [x]
  | [], _ => rfl
  | y :: gs, h => by
    unfold insF
    have hn : ¬ bytesBefore x.name y.name = true := fun e => by
      have := WideShapes.bytes_trans _ _ _ (h y (by simp)) e
      rw [WideAt.bytes_irrefl] at this
      exact absurd this (by decide)
    rw [if_neg hn, insF_last (fun z hz => h z (by simp [hz]))]
    rfl
theorem ClI.push {nm : Nat} {fs gs : List MF} {w2 Y X X' : World} {k : Nat} {g : MF} (a1 : gs.map MF.key = (fs.take k).map MF.key) (hmX : X.ownsMap Tryz.prog 9 ptrElem nm gs.length (.map (gs.map ent))) (a3 : ∀ g ∈ gs, FRep Y g ∧ ∀ i, ownF g i → w2.heap.size ≤ i) (a4 : gs.Pairwise (fun f g => f.fb ≠ g.fb ∧ Apart f.cv g.cv ∧ Apart f.pv g.pv)) (a5 : Only (· = nm) w2 Y)
    (hk : k < fs.length) (hso : fs.Pairwise Bef) (hb : Below Y.heap.size Y X) (hg : FRep X g) (hkey : g.key = fs[k].key) (hown : ∀ i, ownF g i → Y.heap.size ≤ i) (hY : w2.heap.size ≤ Y.heap.size)
    (d1 : X'.ownsMap Tryz.prog 9 ptrElem nm (gs.length + 1) ((DataW.map (gs.map ent)).put (.string g.name) (.lit (.int .i64 g.fb)))) (hg' : X.grownBy X' (some nm)) : ClI nm fs w2 (k + 1) X' := by
  have hO : Only (· = nm) X X' := Only.of_grown hg' (fun k e => by simpa using e.symm)
  have nocell : ∀ i, (∃ cur t, X.heap[i]? = some (.cells cur t (0, 0))) → ¬ i = nm := fun i ⟨cur, t, hc⟩ e => by
    obtain ⟨es, clock, hb', _⟩ := hmX
    rw [e, hb'] at hc
    simp at hc
  have nms : gs.map MF.name = (fs.take k).map MF.name := by
    have := congrArg (fun l => l.map (·.1)) a1
    simp only [List.map_map] at this
    exact this
  have hgn : g.name = fs[k].name := congrArg (·.1) hkey
  have bef : ∀ y ∈ gs, bytesBefore y.name g.name = true := fun y hy => by
    have : y.name ∈ (fs.take k).map MF.name := by rw [← nms]; exact List.mem_map.2 ⟨y, hy, rfl⟩
    obtain ⟨z, hz, e⟩ := List.mem_map.1 this
    rw [← e, hgn]
    rw [← List.take_append_drop k fs, List.pairwise_append] at hso
    exact hso.2.2 z hz _ (by rw [List.drop_eq_getElem_cons hk]; exact List.mem_cons_self)
  have ne : ∀ y ∈ gs, y.name ≠ g.name := fun y hy e => by
    have := bef y hy
    rw [e, WideAt.bytes_irrefl] at this
    exact absurd this (by decide)
  rw [put_ent ne, insF_last bef] at d1
  have oldX : ∀ y ∈ gs, FRep X y := fun y hy => (a3 y hy).1.only (Only.fresh hb (fun _ => False)) (fun _ _ e => e) (fun _ _ e => e)
  have keep : ∀ y, FRep X y → FRep X' y := fun y hy => hy.only hO (fun i hi => nocell i (hy.kind (.inl hi))) (fun i hi => nocell i (hy.kind (.inr hi)))
  refine ⟨gs ++ [g], ?_, ?_, ?_, ?_, ?_⟩
  · rw [List.map_append, a1, List.take_succ_eq_append_getElem hk, List.map_append]
    simp [hkey]
  · rw [List.length_append]
    exact d1
  · intro y hy
    rcases List.mem_append.1 hy with hy | hy
    · exact ⟨keep y (oldX y hy), (a3 y hy).2⟩
    · simp only [List.mem_singleton] at hy
      subst hy
      exact ⟨keep _ hg, fun i hi => Nat.le_trans hY (hown i hi)⟩
  · rw [List.pairwise_append]
    refine ⟨a4, List.pairwise_singleton _ _, fun y hy z hz => ?_⟩
    simp only [List.mem_singleton] at hz
    subst hz
    have lt : ∀ i, ownF y i → i < Y.heap.size := fun i hi => by
      obtain ⟨cur, t, hc⟩ := (a3 y hy).1.kind (.inl hi)
      exact (Array.getElem?_eq_some_iff.1 hc).1
    refine ⟨fun e => ?_, fun b hb1 hb2 => ?_, fun b hb1 hb2 => ?_⟩
    · have h1 := lt y.fb (.inl rfl)
      have h2 := hown z.fb (.inl rfl)
      omega
    · have h1 := lt b (.inr (.inl hb1))
      have h2 := hown b (.inr (.inl hb2))
      omega
    · have h1 := lt b (.inr (.inr hb1))
      have h2 := hown b (.inr (.inr hb2))
      omega
  · exact (a5.step (Only.fresh hb (fun i => i = nm)) (fun i e => .inl e)).step hO (fun i e => .inl e)

theorem step_skip_in {l N : Nat} {P : Program} {ops : Array Oper} {Q : Exit → Act → World → Prop} {i : Nat} {o : Oper} {K : Act → World → Prop} {a : Act} {w w' : World} (ho : ops[i]? = some o) (hgd : o.guard = none) (hnd : ∀ c, o.op ≠ .defer c)
    (hrun : (execOp a.eval o).run P w = .ok .skip w') (hK : K (a.put o.dst undef) w') : wpOpIn (Fence.wide.inRound l) N P ops Q i K a w := by
  refine wpOpIn_step ho (fun K' hK' => ?_)
  have hw : Region.wanted o (yielded ops a.tmps) = true := by simp [Region.wanted, hgd]
  rw [if_pos hw]
  unfold Oper.wpIn
  refine ⟨fun f hf => trivial, ?_⟩
  rw [show (Fence.wide.inRound l).round = some l from rfl, Oper.semAt_some l _ _ hnd, hrun]
  exact hK' _ _ hK

theorem getD_off {listed : Array Bool} {i : Nat} (h : listed.getD i true = false) : listed.getD i false = false := by
  simp only [Array.getD_eq_getD_getElem?] at h ⊢
  cases hl : listed[i]? with
  | none => rfl
  | some b => rw [hl] at h; simpa using h
theorem getD_on {listed : Array Bool} {i : Nat} (h : i < listed.size) : (listed.setIfInBounds i true).getD i false = true := by
  simp [Array.getD_eq_getD_getElem?, h]
theorem enFClone : ∀ args w, (callFunc 49 args).run Tryz.prog w = .ok (.enter 49 args) w := enters_of Tryz.func49 (by kernel_rfl) rfl
/-- What holds as the operations of a round come up. -/
structure RI (a0 : Act) (val : Nat → Value) (G : World → Prop) (Fin : World → Prop) (Cx : Value → World → Prop) (Z : World) (listed : Array Bool) (a : Act) (X : World) : Prop where
  base : ∀ s, s < 21 → a.tmps.getD s undef = a0.tmps.getD s undef
  size : a.tmps.size = 31
  vals : ∀ i, i < 9 → listed.getD i false = true → a.tmps.getD (21 + i) undef = val i
  good : G X
  mc : listed.getD 10 false = true → listed.getD 9 false = true
  fin : listed.getD 10 false = true → Fin X
  call : listed.getD 9 false = true → listed.getD 10 false = false → Cx (a.tmps.getD 30 undef) X
  none : listed.getD 9 false = false → X = Z
theorem RI.read {a0 : Act} {val : Nat → Value} {G Fin : World → Prop} {Cx : Value → World → Prop} {Z : World} {listed : Array Bool} {a : Act} {X : World} (h : RI a0 val G Fin Cx Z listed a X) {i : Nat} (hi : i < 9) : RI a0 val G Fin Cx Z (listed.setIfInBounds i true) (a.put (some (21 + i)) (val i)) X := by
  refine ⟨fun s hs => ?_, by simpa [Act.put] using h.size, fun j hj hl => ?_, h.good, ?_, ?_, ?_, ?_⟩
  · rw [put_getD, if_neg (by omega)]
    exact h.base s hs
  · rw [put_getD]
    by_cases hij : i = j
    · subst hij
      rw [if_pos ⟨rfl, by rw [h.size]; omega⟩]
    · rw [if_neg (by omega)]
      rw [getD_set_ne false hij] at hl
      exact h.vals j hj hl
  · rw [getD_set_ne false (by omega), getD_set_ne false (by omega)]
    exact h.mc
  · rw [getD_set_ne false (by omega)]
    exact h.fin
  · rw [getD_set_ne false (by omega), getD_set_ne false (by omega), put_getD, if_neg (by omega)]
    exact h.call
  · rw [getD_set_ne false (by omega)]
    exact h.none

set_option maxRecDepth 100000 in
set_option maxHeartbeats 4000000 in
theorem clone_in (n : Nat) (hn : 4 ≤ n) {W : World} {sb mb pend turn : Nat} {left : Int} {fs : List MF} {up : Bool} (h : SRep W sb mb fs left pend turn up) (hlen : fs.length ≤ 4096) (hcl : ∀ f ∈ fs, f.c.length ≤ 4194304 ∧ f.ws.length ≤ 2199023255552) (hnm : ∀ f ∈ fs, f.name.length ≤ maxLen) :
    CallsIn Fence.wide n Tryz.prog 11 #[.pointer (some ⟨sb, 0, none⟩)] W fun e w' => ∃ cb nm gs, e = .returned (.pointer (some ⟨cb, 0, none⟩)) ∧ SRep w' cb nm gs left pend turn up ∧ gs.map MF.key = fs.map MF.key ∧ (∀ i, own cb nm gs i → W.heap.size ≤ i) ∧ Below W.heap.size W w' := by
  obtain ⟨S, hS⟩ : ∃ S, W.heap.size = S := ⟨_, rfl⟩
  have hb1 := alloc_below W (.cells #[.pointer (some ⟨sb, 0, none⟩)] 24)
  have h1 := h.fresh hb1
  obtain ⟨c0, c1, c2, c3, c4⟩ := box_cells h1.box
  have HM := hide (made_any c0)
  have H := hide h
  have hb2 := alloc_below (W.alloc (.cells #[.pointer (some ⟨sb, 0, none⟩)] 24)) (.cells #[.map (some mb), .int .i64 left, .int .i64 pend, .int .i64 turn, .bool up] 63)
  have e0 := cell_later hb2 c0
  have hlm := (h1.fresh hb2).map.len (t := 61) Tryz.undMap 3
  have hsz : Maps.size (DataW.map (fs.map ent)) = fs.length := by simp [Maps.size]
  rw [hsz] at hlm
  have hmh := run_makeMap_hint
  clear h h1 hb1 hb2
  refine callsIn_of_wp_marks Tryz.func11 rfl trivial ?_ rfl
  simp only [Tryz.ntmps11, List.size_toArray, List.length_cons, List.length_nil, Nat.reduceAdd, Nat.reduceSub, Array.replicate_succ, Array.replicate_zero, List.push_toArray, List.append_toArray, List.nil_append, List.cons_append]
  gi_wp2_with fail
  refine ⟨trivial, fun _ => by omega, (callsIn_wide.2 HM.out).mono ?_⟩
  rintro _ _ ⟨rfl, rfl⟩
  gi_wp2_with fail
  obtain ⟨nm, hnm'⟩ : ∃ nm, S + 1 + 1 = nm := ⟨_, rfl⟩
  rw [hnm']
  obtain ⟨V, hV⟩ : ∃ V, V = ((W.alloc (.cells #[.pointer (some ⟨sb, 0, none⟩)] 24)).alloc (.cells #[.map (some nm), .int .i64 left, .int .i64 pend, .int .i64 turn, .bool up] 63)).alloc (.map #[] 0) := ⟨_, rfl⟩
  rw [← hV]
  have HBV : Hid (Below S W V) := by
    rw [hV, ← hS]
    exact hide ((alloc_below W _).trans (((alloc_below _ _).mono (by simp)).trans ((alloc_below _ _).mono (by simp; omega))))
  have hV0 : V.heap.size = nm + 1 := by rw [hV, ← hnm', ← hS]; simp
  have HV1 : Hid (V.heap[S]? = some (.cells #[.pointer (some ⟨sb, 0, none⟩)] 24)) := by
    rw [hV, ← hS]
    exact hide (below_box ((alloc_below _ _).trans ((alloc_below _ _).mono (by simp))) (heap_alloc_new W _))
  have HV2 : Hid (V.heap[S + 1]? = some (.cells #[.map (some nm), .int .i64 left, .int .i64 pend, .int .i64 turn, .bool up] 63)) := by
    have e : S + 1 = (W.alloc (.cells #[.pointer (some ⟨sb, 0, none⟩)] 24)).heap.size := by rw [← hS]; simp
    rw [hV, e]
    exact hide (below_box (alloc_below _ _) (heap_alloc_new _ _))
  have HV3 : Hid (V.ownsMap Tryz.prog 9 ptrElem nm 0 (.map ([].map ent))) := by
    have e : nm = ((W.alloc (.cells #[.pointer (some ⟨sb, 0, none⟩)] 24)).alloc (.cells #[.map (some nm), .int .i64 left, .int .i64 pend, .int .i64 turn, .bool up] 63)).heap.size := by rw [← hnm', ← hS]; simp
    have := World.ownsMap_made ((W.alloc (.cells #[.pointer (some ⟨sb, 0, none⟩)] 24)).alloc (.cells #[.map (some nm), .int .i64 left, .int .i64 pend, .int .i64 turn, .bool up] 63)) Tryz.prog 9 ptrElem
    rw [← e, ← hV] at this
    exact hide this
  have hBV : Below W.heap.size W V := by rw [hS]; exact HBV.out
  have HSV := hide (H.out.fresh hBV)
  have HN := hide (names_any HSV.out (by omega))
  clear hV c0 c1 c2 c3 c4 e0 hlm hmh hsz hBV HM
  refine ⟨trivial, fun _ => by omega, (callsIn_wide.2 HN.out).mono ?_⟩
  rintro _ w2 ⟨kN, vN, rfl, hbN, hrN, hb2, hkN⟩
  have hz2 : V.heap.size ≤ w2.heap.size := hb2.size
  have HB2 : Hid (Below S W w2) := hide (HBV.out.trans (hb2.mono (by omega)))
  have H1 := hide (below_box hb2 HV1.out)
  have H2 := hide (below_box hb2 HV2.out)
  have H3 : Hid (w2.ownsMap Tryz.prog 9 ptrElem nm 0 (.map ([].map ent))) := hide (ownsMap_only HV3.out (Only.fresh hb2 (fun _ => False)) (fun e => e))
  have HS2 := hide (HSV.out.fresh hb2)
  have HBN := hide hbN
  have HRN : Hid (w2.ownsRow 0 9 1 vN (fs.map MF.name).length ((fs.map MF.name).map strV)) := by
    have := own_base5 (base' := 0) hrN (Nat.zero_le _)
    rw [List.length_map, List.map_map]
    exact hide this
  have HVN : Hid (vN.ownBlock ≠ some nm) := hide (fun e => by have := own_block_base hrN e; omega)
  clear hbN hrN hb2 HN HV1 HV2 HV3 HSV HBV
  gi_wp2_with fail
  refine range_list (by omega) (values_tells (n - 1) (by omega) (Bk := kN) (base := 0) (v := vN) (ns := fs.map MF.name) (by simpa using Nat.le_trans hlen (by decide))) rfl enValues ?size (ClI nm fs w2) (fun _ _ _ => False) ?grows ?puts (fun _ _ _ _ _ _ h => h.elim) ?reads ?start
    (fun x => { tmps := #[.pointer (some ⟨sb, 0, none⟩), .pointer (some ⟨S, 0, none⟩), .pointer none, .pointer (some ⟨S + 1, 0, none⟩), x.getD 0 undef, .pointer (some ⟨sb, 0, none⟩), .bool true, .bool false, .pointer (some ⟨sb, 0, none⟩), .pointer (some ⟨sb, 0, none⟩), .agg #[.map (some mb), .int .i64 left, .int .i64 pend, .int .i64 turn, .bool up], .pointer (some ⟨sb, 0, none⟩), .pointer (some ⟨sb, 0, none⟩), .pointer (some ⟨sb, 0, none⟩), .map (some mb), .int .i64 fs.length, .map (some nm), .pointer (some ⟨S + 1, 0, none⟩), .pointer (some ⟨sb, 0, none⟩), .func (.func 81) #[] #[.pointer (some ⟨kN, 0, none⟩)], x.getD 0 undef, undef, undef, undef, undef, undef, undef, undef, undef, undef, undef], defers := [] }) ?assign ?body ?done (fun _ _ _ _ _ _ h => h.elim)
  case size => intro k hk; simp at hk; simp [List.getD, List.getElem?_eq_getElem hk]
  case grows =>
    intro W1 W2 hI hb
    exact hI.only (Only.fresh hb (fun _ => False)) (fun e => e) (fun _ _ e => e) (fun _ e => e.elim)
  case puts =>
    intro k W1 l o o' hI hl ho hc
    refine hI.only (Only.of_grown (F := (· = l)) (grownBy_putObj' W1 l o') (fun k e => by simpa using e.symm)) (fun e => ?_) (fun i ⟨cur, t, hk⟩ e => ?_) (fun i e => by have e' : i = l := e; omega)
    · have e' : nm = l := e; omega
    · have e' : i = l := e
      rw [e', ho] at hk
      simp only [Option.some.injEq] at hk
      rw [hk] at hc
      exact absurd hc (by simp [Obj.isCells])
  case reads =>
    rintro k W1 ⟨gs, _, _, _, _, h5⟩
    exact ⟨h5.obj HBN.out (by omega), ownsRow_only HRN.out h5 (fun b hb e => by subst e; exact HVN.out hb)⟩
  case start => exact ⟨[], rfl, H3.out, by simp, List.Pairwise.nil, Only.refl _ _⟩
  case assign =>
    intro l k W' K hk hK
    simp at hk
    have e : (((fs.map MF.name).map fun n => #[strV n])).getD k #[] = #[.string ⟨(fs[k].name).toArray⟩] := by simp [List.getD, List.getElem?_eq_getElem hk, strV]
    rw [e] at hK ⊢
    gi_wp2
    exact hK
  case body =>
    intro l k Y hI hk hsz
    simp at hk
    have e : (((fs.map MF.name).map fun n => #[strV n])).getD k #[] = #[.string ⟨(fs[k].name).toArray⟩] := by simp [List.getD, List.getElem?_eq_getElem hk, strV]
    rw [e]
    simp only [Array.getD_eq_getD_getElem?, List.getElem?_toArray, List.getElem?_cons_zero, Option.getD_some]
    obtain ⟨f, hf⟩ : ∃ f, fs[k] = f := ⟨_, rfl⟩
    have hfm : f ∈ fs := by rw [← hf]; exact List.getElem_mem _
    obtain ⟨s, hs⟩ : ∃ s : ByteArray, (⟨f.name.toArray⟩ : ByteArray) = s := ⟨_, rfl⟩
    have hsn : s.data.toList = f.name := by rw [← hs]
    have hsl : s.size ≤ maxLen := by
      have := hnm f hfm
      rw [← hs]
      simpa [ByteArray.size] using this
    have hO5 : Only (· = nm) w2 Y := by obtain ⟨_, _, _, _, _, h5⟩ := id hI; exact h5
    have hownS : ∀ i, own sb mb fs i → i < S := fun i hi => by rw [← hS]; exact H.out.own_lt hi
    have hcovS : ∀ i, covs fs i → i < S := fun i hi => by rw [← hS]; exact H.out.cov_lt hi
    have hSY : SRep Y sb mb fs left pend turn up := HS2.out.only hO5 (fun i hi e => by have := hownS i hi; have e' : i = nm := e; omega) (fun i hi e => by have := hcovS i hi; have e' : i = nm := e; omega)
    have hfo : fileOf fs s.data.toList = some f := by
      rw [hsn]
      cases hq : fileOf fs f.name with
      | none => exact absurd rfl (fileOf_none hq f hfm)
      | some g =>
        obtain ⟨hgm, hgn⟩ := mem_of_fileOf hq
        congr 1
        obtain ⟨i, hi, rfl⟩ := List.getElem_of_mem hgm
        rcases Nat.lt_trichotomy i k with h' | h' | h'
        · have := (List.pairwise_iff_getElem.1 HS2.out.sorted) i k hi hk h'
          unfold Bef at this
          rw [hf, hgn, WideAt.bytes_irrefl] at this
          exact absurd this (by decide)
        · subst h'; exact hf
        · have := (List.pairwise_iff_getElem.1 HS2.out.sorted) k i hk hi h'
          unfold Bef at this
          rw [hf, hgn, WideAt.bytes_irrefl] at this
          exact absurd this (by decide)
    have HG : Hid (∀ X, Only (· = nm) w2 X → X.cell? ⟨S, 0, none⟩ = some (.pointer (some ⟨sb, 0, none⟩)) ∧ X.cell? ⟨S + 1, 0, none⟩ = some (.map (some nm)) ∧ X.cell? ⟨sb, 0, none⟩ = some (.map (some mb)) ∧ (Instr.lookup 61 (.map (some mb)) (.string s) false).run Tryz.prog X = .ok (.pointer (some ⟨f.fb, 0, none⟩)) X) := hide (fun X hX => by
      have h1 := hX.obj H1.out (by omega)
      have h2 := hX.obj H2.out (by omega)
      have h3 : SRep X sb mb fs left pend turn up := HS2.out.only hX (fun i hi e => by have := hownS i hi; have e' : i = nm := e; omega) (fun i hi e => by have := hcovS i hi; have e' : i = nm := e; omega)
      have h4 := (map_look h3.map hsl).2
      unfold ptrOf at h4
      rw [hfo] at h4
      exact ⟨by simp [World.cell?, h1], by simp [World.cell?, h2], (box_cells h3.box).1, h4⟩)
    have HOB : Hid (∀ X, Below Y.heap.size Y X → Only (· = nm) w2 X) := hide (fun X hX => hO5.step (Only.fresh hX (· = nm)) (fun i e => .inl e))
    have HFC : Hid (Calls Tryz.prog 49 #[.pointer (some ⟨f.fb, 0, none⟩)] Y.drew fun e w' => ∃ g : MF, e = .returned (.pointer (some ⟨g.fb, 0, none⟩)) ∧ FRep w' g ∧ g.name = f.name ∧ g.c = f.c ∧ g.ws = f.ws ∧ (∀ i, ownF g i → Y.drew.heap.size ≤ i) ∧ Below Y.drew.heap.size Y.drew w') := hide (fclone_any ((hSY.fresh (Below.refl _ Y).drew).files f hfm) (hcl f hfm).1 (hcl f hfm).2)
    have HSO := hide HS2.out.sorted
    have HI := hide hI
    rw [hf, hs]
    gi_wp2_with fail
    refine region_inv_in (by kernel_rfl) (by kernel_rfl) (RI { tmps := #[.pointer (some ⟨sb, 0, none⟩), .pointer (some ⟨S, 0, none⟩), .pointer none, .pointer (some ⟨S + 1, 0, none⟩), .string s, .pointer (some ⟨sb, 0, none⟩), .bool true, .bool false, .pointer (some ⟨sb, 0, none⟩), .pointer (some ⟨sb, 0, none⟩), .agg #[.map (some mb), .int .i64 left, .int .i64 pend, .int .i64 turn, .bool up], .pointer (some ⟨sb, 0, none⟩), .pointer (some ⟨sb, 0, none⟩), .pointer (some ⟨sb, 0, none⟩), .map (some mb), .int .i64 fs.length, .map (some nm), .pointer (some ⟨S + 1, 0, none⟩), .pointer (some ⟨sb, 0, none⟩), .func (.func 81) #[] #[.pointer (some ⟨kN, 0, none⟩)], .string s, undef, undef, undef, undef, undef, undef, undef, undef, undef, undef], defers := [] } (fun i => match i with | 0 => .pointer (some ⟨S + 1, 0, none⟩) | 1 => .map (some nm) | 2 => .string s | 3 => .pointer (some ⟨sb, 0, none⟩) | 4 => .pointer (some ⟨sb, 0, none⟩) | 5 => .pointer (some ⟨sb, 0, none⟩) | 6 => .map (some mb) | 7 => .string s | _ => .pointer (some ⟨f.fb, 0, none⟩))
      (fun X => X.cell? ⟨S, 0, none⟩ = some (.pointer (some ⟨sb, 0, none⟩)) ∧ X.cell? ⟨S + 1, 0, none⟩ = some (.map (some nm)) ∧ X.cell? ⟨sb, 0, none⟩ = some (.map (some mb)) ∧ (Instr.lookup 61 (.map (some mb)) (.string s) false).run Tryz.prog X = .ok (.pointer (some ⟨f.fb, 0, none⟩)) X)
      (fun X => KeepsFrom w2.heap.size Y X ∧ ClI nm fs w2 (k + 1) X)
      (fun v X => ∃ g : MF, v = .pointer (some ⟨g.fb, 0, none⟩) ∧ FRep X g ∧ g.key = f.key ∧ (∀ i, ownF g i → Y.heap.size ≤ i) ∧ Below Y.heap.size Y X) Y.drew) ?h0 ?hstep ?hend
    case h0 =>
      refine ⟨fun _ _ => rfl, rfl, fun i _ hl => ?_, HG.out _ (HOB.out _ (Below.refl _ Y).drew), fun hl => ?_, fun hl => ?_, fun hl => ?_, fun _ => rfl⟩ <;> (rw [getD_replicate_false] at hl; cases hl)
    case hend =>
      intro listed a X hall hR
      exact hR.fin (hall 10 (by decide))
    case hstep =>
      intro listed a X i hls hi hun hdep hR K hK
      have e1 : a.tmps.getD 1 undef = .pointer (some ⟨S, 0, none⟩) := hR.base 1 (by omega)
      have e3 : a.tmps.getD 3 undef = .pointer (some ⟨S + 1, 0, none⟩) := hR.base 3 (by omega)
      have e4 : a.tmps.getD 4 undef = .string s := hR.base 4 (by omega)
      obtain ⟨g1, g2, g3, g4⟩ := hR.good
      have hi' : i = 0 ∨ i = 1 ∨ i = 2 ∨ i = 3 ∨ i = 4 ∨ i = 5 ∨ i = 6 ∨ i = 7 ∨ i = 8 ∨ i = 9 ∨ i = 10 := by
        have : i < 11 := hi
        omega
      rcases hi' with rfl | rfl | rfl | rfl | rfl | rfl | rfl | rfl | rfl | rfl | rfl
      · refine step_read_in rfl rfl (by intro c hc; cases hc) ?_ (hK _ _ (hR.read (i := 0) (by omega)))
        simp [execOp, Act.eval, go_sem, e3]
      · have d := hR.vals 0 (by omega) (hdep 0 (by kernel_rfl))
        refine step_read_in rfl rfl (by intro c hc; cases hc) ?_ (hK _ _ (hR.read (i := 1) (by omega)))
        simp [execOp, Act.eval, go_sem, d, g2]
      · refine step_read_in rfl rfl (by intro c hc; cases hc) ?_ (hK _ _ (hR.read (i := 2) (by omega)))
        simp [execOp, Act.eval, go_sem, e4]
      · refine step_read_in rfl rfl (by intro c hc; cases hc) ?_ (hK _ _ (hR.read (i := 3) (by omega)))
        simp [execOp, Act.eval, go_sem, e1, g1]
      · have d := hR.vals 3 (by omega) (hdep 3 (by kernel_rfl))
        refine step_read_in rfl rfl (by intro c hc; cases hc) ?_ (hK _ _ (hR.read (i := 4) (by omega)))
        simp [execOp, Act.eval, go_sem, d]
      · have d := hR.vals 4 (by omega) (hdep 4 (by kernel_rfl))
        refine step_read_in rfl rfl (by intro c hc; cases hc) ?_ (hK _ _ (hR.read (i := 5) (by omega)))
        simp [execOp, Act.eval, go_sem, d]
      · have d := hR.vals 5 (by omega) (hdep 5 (by kernel_rfl))
        refine step_read_in rfl rfl (by intro c hc; cases hc) ?_ (hK _ _ (hR.read (i := 6) (by omega)))
        simp [execOp, Act.eval, go_sem, d, g3]
      · refine step_read_in rfl rfl (by intro c hc; cases hc) ?_ (hK _ _ (hR.read (i := 7) (by omega)))
        simp [execOp, Act.eval, go_sem, e4]
      · have d := hR.vals 6 (by omega) (hdep 6 (by kernel_rfl))
        have d' := hR.vals 7 (by omega) (hdep 7 (by kernel_rfl))
        refine step_read_in rfl rfl (by intro c hc; cases hc) ?_ (hK _ _ (hR.read (i := 8) (by omega)))
        simp [execOp, Act.eval, go_sem, d, d', g4]
      · have c9 : listed.getD 9 false = false := getD_off hun
        obtain rfl := hR.none c9
        have d := hR.vals 8 (by omega) (hdep 8 (by kernel_rfl))
        refine step_call_in rfl rfl (by intro c hc; cases hc) 49 #[.tmp 29] #[75] rfl #[.pointer (some ⟨f.fb, 0, none⟩)] (by simp [Act.eval, d]) enFClone (by omega) _ HFC.out ?_
        rintro _ w1 ⟨g, rfl, q1, q2, q3, q4, q5, q6⟩
        refine ⟨_, rfl, hK (a.put (some 30) (.pointer (some ⟨g.fb, 0, none⟩))) w1 ?_⟩
        have hbw : Below Y.heap.size Y w1 := (Below.refl _ Y).drew.trans q6
        refine ⟨fun s' hs' => ?_, by simpa [Act.put] using hR.size, fun i hi hl => ?_, HG.out _ (HOB.out _ hbw), fun _ => ?_, fun hl => ?_, fun _ _ => ?_, fun hl => ?_⟩
        · rw [put_getD, if_neg (by omega)]; exact hR.base s' hs'
        · rw [put_getD, if_neg (by omega)]
          rw [getD_set_ne false (by omega)] at hl
          exact hR.vals i hi hl
        · exact getD_on (by rw [hls]; exact hi)
        · rw [getD_set_ne false (by omega)] at hl
          rw [hR.mc hl] at c9
          cases c9
        · rw [put_getD, if_pos ⟨rfl, by rw [hR.size]; omega⟩]
          refine ⟨g, rfl, q1, ?_, q5, hbw⟩
          unfold MF.key
          rw [q2, q3, q4]
        · rw [getD_on (by rw [hls]; exact hi)] at hl
          cases hl
      · have c10 : listed.getD 10 false = false := getD_off hun
        have c9 := hdep 9 (by kernel_rfl)
        obtain ⟨g, hv, q1, hkey, hown, hb⟩ := hR.call c9 c10
        have d1 := hR.vals 1 (by omega) (hdep 1 (by kernel_rfl))
        have d2 := hR.vals 2 (by omega) (hdep 2 (by kernel_rfl))
        obtain ⟨gs, a1, a2, a3, a4, a5⟩ := id HI.out
        have hgl : gs.length ≤ 4096 := by
          have := congrArg List.length a1
          simp at this
          omega
        have hmX : X.ownsMap Tryz.prog 9 ptrElem nm gs.length (.map (gs.map ent)) := ownsMap_only a2 (Only.fresh hb (fun _ => False)) (fun e => e)
        obtain ⟨X', hst, hm', hg'⟩ := hmX.update strKey Tryz.undMap (by unfold maxLen; omega) (keyStr hsl) (ptrElem_mk g.fb)
        have hgn : g.name = f.name := congrArg (·.1) hkey
        rw [hsn, ← hgn] at hm'
        have hfin := ClI.push a1 hmX a3 a4 a5 hk HSO.out hb q1 (by rw [hf]; exact hkey) hown (by omega) hm' hg'
        have hO' : Only (· = nm) w2 X' := (HOB.out _ hb).step (Only.of_grown (F := (· = nm)) hg' (fun k e => by simpa using e.symm)) (fun i e => .inl e)
        have hkp : KeepsFrom w2.heap.size Y X' := KeepsFrom.trans ⟨hb.size, fun j o _ hj _ => (hb.block j (Array.getElem?_eq_some_iff.1 hj).1).trans hj⟩ (KeepsFrom.of_grownBy hg' (fun j e => by have h9 : nm = j := (by simpa using e); omega))
        refine step_skip_in rfl rfl (by intro c hc; cases hc) (w' := X') ?_ (hK a X' ?_)
        · simp [execOp, Act.eval, go_sem, d1, d2, hv, hst]
        · refine ⟨hR.base, hR.size, fun i hi hl => ?_, HG.out _ hO', fun _ => ?_, fun _ => ⟨hkp, hfin⟩, fun _ hl => ?_, fun hl => ?_⟩
          · rw [getD_set_ne false (by omega)] at hl
            exact hR.vals i hi hl
          · rw [getD_set_ne false (by omega)]; exact c9
          · rw [getD_on (by rw [hls]; exact hi)] at hl
            cases hl
          · rw [getD_set_ne false (by omega), c9] at hl
            cases hl
  case done =>
    rintro D X hD ⟨gs, a1, a2, a3, a4, a5⟩ hK
    have el : fs.take (((fs.map MF.name).map fun n => #[strV n])).length = fs := List.take_of_length_le (by simp)
    rw [el] at a1
    have hown2 : ∀ i, own (S + 1) nm gs i → S ≤ i := fun i hi => by
      rcases hi with e1 | e1 | ⟨g, hg, hi⟩
      · omega
      · omega
      · have := (a3 g hg).2 i hi; omega
    have nms : gs.map MF.name = fs.map MF.name := by
      have := congrArg (fun l => l.map (·.1)) a1
      simp only [List.map_map] at this
      exact this
    have hSR : SRep X (S + 1) nm gs left pend turn up := by
      refine ⟨a5.obj H2.out (by omega), a2, fun g hg => (a3 g hg).1, ?_, a4, fun f hf g hg x hx b hb1 hb2 => ?_⟩
      · have q : (fs.map MF.name).Pairwise (fun a b => bytesBefore a b = true) := by rw [List.pairwise_map]; exact HS2.out.sorted
        rw [← nms, List.pairwise_map] at q
        exact q
      · have h1 := (a3 f hf).2 b (.inr (.inl hb1))
        have hgk : g.key ∈ fs.map MF.key := by rw [← a1]; exact List.mem_map.2 ⟨g, hg, rfl⟩
        obtain ⟨f', hf', e'⟩ := List.mem_map.1 hgk
        have e2 : f'.ws = g.ws := congrArg (·.2.2) e'
        have h2 := H.out.cov_lt ⟨f', hf', x, by rw [e2]; exact hx, hb2⟩
        omega
    have HSR := hide hSR
    have HW2 := hide hown2
    have HKY := hide a1
    have HB3 : Hid (Below S W X) := hide (HB2.out.trans (a5.below (by omega) (fun i e => by have e' : i = nm := e; omega)))
    have HK := hide hK
    clear hSR hown2 nms a1 a2 a3 a4 a5 hK el
    gi_wp2
    refine ⟨by simp, .inl ⟨_, _, rfl, run_takeDeferred HK.out, ?_⟩⟩
    have hOD : Only (· = D) X (X.putObj D (.deferred none)) := Only.of_grown (F := (· = D)) (grownBy_putObj' X D _) (fun k e => by simpa using e.symm)
    have hkind : ∀ i, (∃ cur t, X.heap[i]? = some (.cells cur t (0, 0))) → ¬ i = D := fun i ⟨cur, t, hc⟩ e => by
      rw [e, HK.out] at hc
      simp at hc
    refine ⟨_, results_tmp rfl _ _ _, S + 1, nm, gs, rfl, ?_, HKY.out, ?_, ?_⟩
    · refine HSR.out.only hOD (fun i hi e => ?_) (fun i hi => hkind i ?_)
      · have e' : i = D := e
        rcases hi with e1 | e1 | ⟨g, hg, hi⟩
        · omega
        · omega
        · exact hkind i ((HSR.out.files g hg).kind (.inl hi)) e
      · obtain ⟨g, hg, hi⟩ := hi
        exact (HSR.out.files g hg).kind (.inr hi)
    · rw [hS]; exact HW2.out
    · rw [hS]; exact HB3.out.trans (hOD.below (by have := HB3.out.size; omega) (fun i e => by have e' : i = D := e; omega))
end Go.Proofs.YtikpckmlnhcddaaGreat

/-
  The program's Clone, held against the document's store: it is the same one. The conditions: lengths.
-/
namespace Go.Proofs.YtikpckmlnhcddaaGreat
open Go.RowKit Go.Maps

def newfb (gs : List MF) (n : Nm) : Nat := match fileOf gs n with | some g => g.fb | none => 0
def conv (gs : List MF) (j : PL × CP) : PL × CP := (⟨newfb gs j.2.name, j.1.x⟩, j.2)
theorem cov_conv (gs : List MF) : ∀ {J : List (PL × CP)} {B : Nm → By}, Cov B J → Cov B (J.map (conv gs))
  | [], _, _ => trivial
  | _ :: _, _, h => ⟨⟨h.1.beg, h.1.size, h.1.spot, h.1.cl⟩, cov_conv gs h.2⟩
theorem key_of {fs gs : List MF} (hk : gs.map MF.key = fs.map MF.key) {g : MF} (hg : g ∈ gs) : ∃ f ∈ fs, f.name = g.name ∧ f.c = g.c ∧ f.ws = g.ws := by
  have : g.key ∈ fs.map MF.key := by rw [← hk]; exact List.mem_map.2 ⟨g, hg, rfl⟩
  obtain ⟨f, hf, e⟩ := List.mem_map.1 this
  exact ⟨f, hf, congrArg (·.1) e, congrArg (·.2.1) e, congrArg (·.2.2) e⟩
theorem InvJ.clone {J : List (PL × CP)} {fs gs : List MF} {left : Int} {pend turn N : Nat} {r : RC} (h : InvJ J fs left pend turn r N) (hk : gs.map MF.key = fs.map MF.key) (hfb : gs.Pairwise (fun f g => f.fb ≠ g.fb)) : InvJ (J.map (conv gs)) gs left pend turn r N := by
  have nms : gs.map MF.name = fs.map MF.name := by
    have := congrArg (fun l => l.map (·.1)) hk
    simp only [List.map_map] at this
    exact this
  have cs : gs.map MF.c = fs.map MF.c := by
    have := congrArg (fun l => l.map (·.2.1)) hk
    simp only [List.map_map] at this
    exact this
  have len : gs.length = fs.length := by have := congrArg List.length nms; simpa using this
  refine { P := ?_, ws := fun g hg => ?_, link := fun j hj => ?_, rise := ?_, last := fun j hj => ?_, names := by rw [nms]; exact h.names, cov := cov_conv gs h.cov, con := fun g hg => ?_, pend := by rw [List.length_map]; exact h.pend, room := ?_, left0 := h.left0, most := h.most, files := by rw [len]; exact h.files, nm := fun g hg => ?_, sorted := ?_, fbs := hfb, lu8 := h.lu8, pu8 := h.pu8, down := fun hd => by rw [h.down hd]; rfl, turn := h.turn, len := by rw [List.length_map]; exact h.len }
  · rw [h.P, List.map_map]
    rfl
  · obtain ⟨f, hf, e1, _, e3⟩ := key_of hk hg
    rw [← e3, h.ws f hf, List.filter_map, List.map_map, e1]
    rfl
  · obtain ⟨j', hj', rfl⟩ := List.mem_map.1 hj
    obtain ⟨f, hf, _, e2⟩ := h.link j' hj'
    have : f.name ∈ gs.map MF.name := by rw [nms]; exact List.mem_map.2 ⟨f, hf, rfl⟩
    obtain ⟨g0, hg0, e0⟩ := List.mem_map.1 this
    cases hq : fileOf gs j'.2.name with
    | none => exact absurd (e0.trans e2) (fileOf_none hq g0 hg0)
    | some g =>
      obtain ⟨hgm, hgn⟩ := mem_of_fileOf hq
      exact ⟨g, hgm, by show g.fb = newfb gs j'.2.name; unfold newfb; rw [hq], hgn⟩
  · rw [List.pairwise_map]
    exact h.rise
  · obtain ⟨j', hj', rfl⟩ := List.mem_map.1 hj
    exact h.last j' hj'
  · obtain ⟨f, hf, e1, e2, _⟩ := key_of hk hg
    rw [← e2, h.con f hf, e1]
  · have e : lens (gs.map MF.core) = lens (fs.map MF.core) := by
      have e1 : lens (gs.map MF.core) = ((gs.map MF.c).map List.length).sum := by unfold lens; rw [List.map_map, List.map_map]; rfl
      have e2 : lens (fs.map MF.core) = ((fs.map MF.c).map List.length).sum := by unfold lens; rw [List.map_map, List.map_map]; rfl
      rw [e1, e2, cs]
    rw [e]
    exact h.room
  · obtain ⟨f, hf, e1, _, _⟩ := key_of hk hg
    rw [← e1]
    exact h.nm f hf
  · have q : (fs.map MF.name).Pairwise (fun a b => bytesBefore a b = true) := by rw [List.pairwise_map]; exact h.sorted
    rw [← nms, List.pairwise_map] at q
    exact q
theorem pclone {W : World} {sb mb N : Nat} {fs : List MF} {r : RC} (h : Prg W sb mb fs r N) (hP : r.P.length ≤ 2199023255552) :
    Calls Tryz.prog 11 #[.pointer (some ⟨sb, 0, none⟩)] W fun e w' => ∃ cb nm gs, e = .returned (.pointer (some ⟨cb, 0, none⟩)) ∧ Prg w' cb nm gs r N ∧ (∀ i, own cb nm gs i → W.heap.size ≤ i) ∧ (∀ i, covs gs i → covs fs i) ∧ Below W.heap.size W w' := by
  obtain ⟨J, left, pend, turn, h1, h2⟩ := h
  refine (callsIn_wide.1 (clone_in 4 (Nat.le_refl _) h1 h2.files (fun f hf => ⟨h2.clen' hf, ?_⟩) h2.nm)).mono ?_
  · rw [h2.ws f hf, List.length_map]
    refine Nat.le_trans (List.length_filter_le _ _) ?_
    rw [h2.P] at hP
    simpa using hP
  · rintro e w' ⟨cb, nm, gs, rfl, s1, hk, ho, hb⟩
    refine ⟨cb, nm, gs, rfl, ⟨_, left, pend, turn, s1, h2.clone hk (s1.apart.imp (fun h => h.1))⟩, ho, fun i hi => ?_, hb⟩
    obtain ⟨g, hg, x, hx, hxi⟩ := hi
    obtain ⟨f, hf, _, _, e3⟩ := key_of hk hg
    exact ⟨f, hf, x, by rw [e3]; exact hx, hxi⟩
end Go.Proofs.YtikpckmlnhcddaaGreat
