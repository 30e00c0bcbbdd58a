/-
  A flow made of a state: From of the program. The conditions: lengths.
-/
import Derived.Test.YtlfipmieaabagaaGreatFlb
namespace Go.Proofs.YtlfipmieaabagaaGreat
open Go.RowKit

set_option maxRecDepth 100000 in
theorem intClone {W : World} {p : Option Addr} {n c : Nat} {os : List Int} (h : NRow W p c os) (hn : os.length = n) (hb : n * 8 ≤ 140737488355328) :
    Calls Tryz.prog 40 #[.slice p n c] W fun e w' => ∃ p' c', e = .returned (.slice p' n c') ∧ w'.ownsRow W.heap.size 2 1 (.slice p' n c') n (os.flatMap intCells) ∧ Below W.heap.size W w' := by
  obtain ⟨i0, hI0, hz0, hz1, hz2⟩ := info_parts Tryz.infoN
  have q : ∀ (w : World) (a : Option Addr) (n c : Nat), (binOp .eql 25 (.slice a n c) (.slice none 0 0)).run Tryz.prog w = .ok (.bool a.isNone) w := fun w a n c => Lib.run_eql_slice_nil w _ _ a n c 0 0 Tryz.underlying25
  cases p with
  | none =>
    obtain rfl : os = [] := by
      cases os with
      | nil => rfl
      | cons x os =>
        have := h.cell 0 (by simp)
        simp at this
    obtain rfl : n = 0 := hn.symm
    clear h
    go_enter Tryz.func40, Tryz.ntmps40
    go_wp2
    go_ret
    exact ⟨none, 0, rfl, World.ownsRow_nil _ _ _ _, Below.refl _ _⟩
  | some ad =>
    have hsg : Seg W 1 (.slice (some ad) os.length c) os.length (os.flatMap intCells) := h.seg (by decide) intCells_len intCells_one
    rw [hn] at hsg
    have HSG := hide (hsg.below ((Below.refl _ W).alloc (Nat.le_refl _) (.cells #[] 2 (0, 0))))
    have HK1 : Hid (0 + n ≤ maxLen) := by show _ ≤ _; unfold maxLen; omega
    have HK2 : Hid ((0 + n) * 8 ≤ 140737488355328) := by show _ ≤ _; omega
    clear h hsg
    go_enter Tryz.func40, Tryz.ntmps40
    go_wp2_with (at_builtin; refine append_cells _ rfl (.tmp 5) (.tmp 6) 25 rfl W.heap.size 2 i0 (.int .i64 0) 1 8 Tryz.underlying25 hI0 hz0 hz1 hz2 rfl (by decide) (.slice (some ⟨W.heap.size, 0, none⟩) 0 0) 0 [] rfl (World.ownsRow_made W #[] 0 (Nat.le_refl _) (Nat.zero_le _) rfl) (.slice (some ad) n c) n _ rfl HSG.out HK1.out HK2.out (by simp) ?_)
    intro p' c' w1 hown hgrow
    have HO := hide hown
    have HB : Hid (Below W.heap.size W w1) := hide (((Below.refl _ W).alloc (Nat.le_refl _) _).grown hgrow (by simp) (by intro k hk; simp [Value.ownBlock] at hk; omega))
    clear hown hgrow
    go_wp2
    go_ret
    exact ⟨p', c', rfl, HO.out, HB.out⟩
def taskAt (os : List OV) (ts : List TV) (i : Nat) : Int := taskC (os[i]!).o.kind (os[i]!).o.arg (ts[i]!).tn (os[i]!).o.ins.length (ts[i]!).xs.length (ts[i]!).ks
/-- What flow.From says of a state's tasks. -/
def tasksC (os : List GO) (ts : List TV) : Bool := (List.range os.length).all (fun i => taskC (os[i]!).kind (os[i]!).arg (ts[i]!).tn (os[i]!).ins.length (ts[i]!).xs.length (ts[i]!).ks == 0)
/-- What flow.From says. -/
def flowC (parts : Int) (os : List GO) (id out : Int) (vs : List Int) (ts : List TV) : Int :=
  if (checkC parts os).2 = 0 then (if (numOK id && (numOK out && vs.all numOK)) = true ∧ (vs.length : Int) = parts ∧ ts.length = os.length ∧ tasksC os ts = true then 0 else 70) else (checkC parts os).2
theorem Tryz.infoPT : (Tryz.prog.info? 96).map (fun i => (i.zero, i.size, i.bytes)) = some (some (.pointer none), 1, 8) := by kernel_rfl
theorem Tryz.infoEvs : (Tryz.prog.info? 163).map (fun i => (i.zero, i.size, i.bytes)) = some (some (.slice none 0 0), 1, 24) := by kernel_rfl
theorem box4 {W : World} {b : Nat} {v0 v1 v2 v3 : Value} {t : TypeId} (fu : W.heap[b]? = some (.cells #[v0, v1, v2, v3] t (0, 0))) : W.cell? ⟨b, 0, none⟩ = some v0 ∧ W.cell? ⟨b, 1, none⟩ = some v1 ∧ W.cell? ⟨b, 2, none⟩ = some v2 ∧ W.cell? ⟨b, 3, none⟩ = some v3 :=
  ⟨by simp [World.cell?, fu], by simp [World.cell?, fu], by simp [World.cell?, fu], by simp [World.cell?, fu]⟩
theorem box2 {W : World} {b : Nat} {v0 v1 : Value} {t : TypeId} (fu : W.heap[b]? = some (.cells #[v0, v1] t (0, 0))) : W.cell? ⟨b, 0, none⟩ = some v0 ∧ W.cell? ⟨b, 1, none⟩ = some v1 :=
  ⟨by simp [World.cell?, fu], by simp [World.cell?, fu]⟩
/-- A flow as it is made, as far as it is looked at: its tasks and its sources. -/
def FlB (X : World) (fB : Nat) (v0 v2 : Value) : Prop := ∃ c1 c3 c4 c5 c6 c7 c8 c9 c10 c11, X.heap[fB]? = some (.cells #[v0, c1, v2, c3, c4, c5, c6, c7, c8, c9, c10, c11] 92 (0, 0))
theorem FlB.later {X X' : World} {fB : Nat} {v0 v2 : Value} (h : FlB X fB v0 v2) (hb : Below X.heap.size X X') : FlB X' fB v0 v2 := by
  obtain ⟨c1, c3, c4, c5, c6, c7, c8, c9, c10, c11, h⟩ := h
  exact ⟨c1, c3, c4, c5, c6, c7, c8, c9, c10, c11, below_box hb h⟩
theorem FlB.only {X X' : World} {fB : Nat} {v0 v2 : Value} {F : Nat → Prop} (h : FlB X fB v0 v2) (ho : Only F X X') (hF : ¬ F fB) : FlB X' fB v0 v2 := by
  obtain ⟨c1, c3, c4, c5, c6, c7, c8, c9, c10, c11, h⟩ := h
  exact ⟨c1, c3, c4, c5, c6, c7, c8, c9, c10, c11, ho.obj h hF⟩
theorem FlB.cell0 {X : World} {fB : Nat} {v0 v2 : Value} (h : FlB X fB v0 v2) : X.cell? ⟨fB, 0, none⟩ = some v0 ∧ X.frozen? ⟨fB, 0, none⟩ = false := by
  obtain ⟨c1, c3, c4, c5, c6, c7, c8, c9, c10, c11, h⟩ := h
  exact ⟨by simp [World.cell?, h], by simp [World.frozen?, h]⟩
theorem FlB.cell2 {X : World} {fB : Nat} {v0 v2 : Value} (h : FlB X fB v0 v2) : X.cell? ⟨fB, 2, none⟩ = some v2 ∧ X.frozen? ⟨fB, 2, none⟩ = false := by
  obtain ⟨c1, c3, c4, c5, c6, c7, c8, c9, c10, c11, h⟩ := h
  exact ⟨by simp [World.cell?, h], by simp [World.frozen?, h]⟩
theorem FlB.cell3 {X : World} {fB : Nat} {v0 v2 : Value} (h : FlB X fB v0 v2) : (∃ v, X.cell? ⟨fB, 3, none⟩ = some v) ∧ X.frozen? ⟨fB, 3, none⟩ = false := by
  obtain ⟨c1, c3, c4, c5, c6, c7, c8, c9, c10, c11, h⟩ := h
  exact ⟨⟨c3, by simp [World.cell?, h]⟩, by simp [World.frozen?, h]⟩
theorem FlB.set0 {X : World} {fB : Nat} {v0 v2 : Value} (h : FlB X fB v0 v2) (v : Value) : FlB (X.setCell ⟨fB, 0, none⟩ v) fB v v2 := by
  obtain ⟨c1, c3, c4, c5, c6, c7, c8, c9, c10, c11, h⟩ := h
  exact ⟨c1, c3, c4, c5, c6, c7, c8, c9, c10, c11, heap_setCell_same _ fB 0 _ _ _ h⟩
theorem FlB.set2 {X : World} {fB : Nat} {v0 v2 : Value} (h : FlB X fB v0 v2) (v : Value) : FlB (X.setCell ⟨fB, 2, none⟩ v) fB v0 v := by
  obtain ⟨c1, c3, c4, c5, c6, c7, c8, c9, c10, c11, h⟩ := h
  exact ⟨c1, c3, c4, c5, c6, c7, c8, c9, c10, c11, heap_setCell_same _ fB 2 _ _ _ h⟩
theorem FlB.apart {X : World} {fB base n k b : Nat} {e : TypeId} {v0 v2 v : Value} {xs : List Value} (h : FlB X fB v0 v2) (hr : X.ownsRow base e k v n xs) (hne : e ≠ 92) (hb : v.ownBlock = some b) : b ≠ fB := by
  obtain ⟨c1, c3, c4, c5, c6, c7, c8, c9, c10, c11, h⟩ := h
  rintro rfl
  obtain ⟨_, cur, h3⟩ := own_block_lt hr hb
  rw [h] at h3
  simp at h3
  exact hne h3.2.symm
theorem ready_run {P : Program} {md : Region.Mode} {ops : Array Oper} {Q : Exit → Act → World → Prop} {S : World → Prop} {fuel : Nat} {listed : Array Bool} {a : Act} {w w' : World} {i : Nat} {o : Oper} {v : Value} (ho : ops[i]? = some o) (hgd : o.guard = none)
    (hrun : (execOp a.eval o).run P w = .ok (.value v) w') (hS : S w') (h : wpAnyH P md ops Q S fuel (listed.setIfInBounds i true) (a.put o.dst v) w') : AllReadyH P md ops Q S fuel listed a w [i] := by
  refine AllReadyH.cons ho (fun K hK => ?_) AllReadyH.nil
  have hw : Region.wanted o (yielded ops a.tmps) = true := by simp [Region.wanted, hgd]
  rw [if_pos hw]
  unfold Oper.wp
  rw [hrun]
  exact hK.out _ _ hS (fun _ => h)
set_option maxRecDepth 100000 in
set_option maxHeartbeats 16000000 in
theorem from_any {W : World} {P : Nat} {id out : Int} {p vp tp : Option Addr} {cap n nv vc nt tc : Nat} {os : List OV} {vs : List Int} {ts : List TV} (ho : GRow W p cap os) (hn : os.length = n) (hv : NRow W vp vc vs) (hnv : vs.length = nv) (ht : TRow W tp tc ts) (hnt : ts.length = nt) (hb : nv ≤ 1048576) (hbt : ∀ x ∈ ts, x.xs.length ≤ 1048576 ∧ ∀ y ∈ x.xs, y.rs.length ≤ 1048576) {er : Int} (her : flowC (P : Int) (os.map OV.o) id out vs ts = er) (hgd : (checkC (P : Int) (os.map OV.o)).2 = 0) :
    Calls Tryz.prog 15 #[.agg #[.int .i64 (P : Int), .slice p n cap], .int .i64 1, .agg #[.int .i64 id, .slice vp nv vc, .int .i64 out, .slice tp nt tc]] W (FromAt er W) := by
  obtain ⟨e0, hE0, he0, he1, he2⟩ := info_parts Tryz.infoEvs
  obtain ⟨t0, hT0, ht0, ht1, ht2⟩ := info_parts Tryz.infoPT
  obtain ⟨m0, hM0, hx0, hx1, hx2⟩ := info_parts Tryz.infoI
  have hg := good_of hgd
  have hP4 : P ≤ 4 ∧ 1 ≤ P := by
    have h9 := hgd
    unfold checkC at h9
    by_cases h1 : 1 ≤ (P : Int) ∧ (P : Int) ≤ 4
    · omega
    · rw [if_neg h1] at h9; simp at h9
  have hn24 : n ≤ 24 := by have := hg.len; rw [List.length_map, hn] at this; exact this
  have i3 := ho.le
  have i4 := ho.top
  rw [hn] at i3
  have i5 := hv.le
  have i6 := hv.top
  rw [hnv] at i5
  have i7 := ht.row.le
  have i8 := ht.row.top
  rw [hnt] at i7
  obtain ⟨V, hV⟩ : ∃ V, V = (W.alloc (.cells #[.int .i64 (P : Int), .slice p n cap] 24 (0, 0))).alloc (.cells #[.int .i64 id, .slice vp nv vc, .int .i64 out, .slice tp nt tc] 28 (0, 0)) := ⟨_, rfl⟩
  have a1 := alloc_below W (.cells #[.int .i64 (P : Int), .slice p n cap] 24 (0, 0))
  have a2 := alloc_below (W.alloc (.cells #[.int .i64 (P : Int), .slice p n cap] 24 (0, 0))) (.cells #[.int .i64 id, .slice vp nv vc, .int .i64 out, .slice tp nt tc] 28 (0, 0))
  have bV : Below W.heap.size W V := by rw [hV]; exact a1.trans (a2.mono a1.size)
  obtain ⟨gB, hgB⟩ : ∃ gB, W.heap.size = gB := ⟨_, rfl⟩
  obtain ⟨sB, hsB⟩ : ∃ sB, gB + 1 = sB := ⟨_, rfl⟩
  have u0 : V.heap[gB]? = some (.cells #[.int .i64 (P : Int), .slice p n cap] 24 (0, 0)) := by rw [hV, ← hgB]; exact below_box a2 (heap_alloc_new W _)
  have u1 : V.heap[sB]? = some (.cells #[.int .i64 id, .slice vp nv vc, .int .i64 out, .slice tp nt tc] 28 (0, 0)) := by
    have e : sB = (W.alloc (.cells #[.int .i64 (P : Int), .slice p n cap] 24 (0, 0))).heap.size := by rw [← hsB, ← hgB]; simp
    rw [hV, e]
    exact heap_alloc_new _ _
  have HBV := hide bV
  have HU0 := hide u0
  have HU1 := hide u1
  have HO := hide ho
  have HN := hide hn
  have HVR := hide hv
  have HNV := hide hnv
  have HTR := hide ht
  have HNT := hide hnt
  have HBT := hide hbt
  have HG := hide hg
  have HFA := hide (fault_any (parts := (P : Int)) (ho.below bV) hn hgd)
  obtain ⟨rb, hrb⟩ : ∃ rb, (numOK id && (numOK out && vs.all numOK)) = rb := ⟨_, rfl⟩
  have HER : Hid ((if rb = true ∧ nv = P ∧ nt = n ∧ tasksC (os.map OV.o) ts = true then 0 else 70) = er) := hide (by
    rw [← her]
    unfold flowC
    rw [if_pos hgd, hrb, hnv, hnt, List.length_map, hn]
    congr 1
    simp only [eq_iff_iff]
    constructor
    · rintro ⟨k1, k2, k3, k4⟩; exact ⟨k1, by omega, k3, k4⟩
    · rintro ⟨k1, k2, k3, k4⟩; exact ⟨k1, by omega, k3, k4⟩)
  have HNF := hide (fun X (hX : Below W.heap.size W X) => numbersFit_any (W := X) (id := id) (out := out) (tp := tp) (nt := nt) (tc := tc) (hv.later hX) hnv hb hrb)
  obtain ⟨x0, x1⟩ := box2 u0
  clear ho hn hv hnv ht hnt hbt her hgd hg bV u0 u1 a1 a2 hrb
  go_enter Tryz.func15, Tryz.ntmps15
  go_upto_region 1 with fail
  rw [← hV]
  try rw [hgB]
  try rw [hsB]
  have HGS : Hid (W.heap.size ≤ gB ∧ gB < sB) := hide ⟨by omega, by omega⟩
  clear hV hgB hsB
  go_wp2_with fail
  refine HFA.out.mono ?_
  rintro _ w1 ⟨rfl, b1⟩
  have HB1 := hide (HBV.out.trans (b1.mono HBV.out.size))
  have HU0a := hide (below_box b1 HU0.out)
  have HU1a := hide (below_box b1 HU1.out)
  clear b1 x0 x1
  obtain ⟨x0, x1⟩ := box2 HU0a.out
  obtain ⟨s0, s1, s2, s3⟩ := box4 HU1a.out
  go_upto_region 4 with fail
  go_wp2_with fail
  refine (HNF.out _ HB1.out).mono ?_
  rintro _ w2 ⟨rfl, b2⟩
  have HB2 := hide (HB1.out.trans (b2.mono HB1.out.size))
  have HU0b := hide (below_box b2 HU0a.out)
  have HU1b := hide (below_box b2 HU1a.out)
  clear b2 x0 x1 s0 s1 s2 s3
  obtain ⟨x0, x1⟩ := box2 HU0b.out
  obtain ⟨s0, s1, s2, s3⟩ := box4 HU1b.out
  by_cases hok : rb = true ∧ nv = P ∧ nt = n
  · obtain ⟨rfl, rfl, rfl⟩ := hok
    have HER2 : Hid ((if tasksC (os.map OV.o) ts = true then 0 else 70) = er) := hide (by rw [← HER.out]; simp)
    go_upto_region 6 with fail
    go_cut [9] from 43 to 56 (fun s9 wd => ∃ fB : Nat, s9 = .pointer (some ⟨fB, 0, none⟩) ∧ Hid (FlB wd fB (.slice none 0 0) (.slice none 0 0)) ∧ Hid (w2.heap.size ≤ fB) ∧ Hid (Below w2.heap.size w2 wd))
    case first =>
      refine wp_region_held_drew (S := (fun w' => w'.cell? ⟨gB, 0, none⟩ = some (.int .i64 (nv : Int)) ∧ w'.cell? ⟨gB, 1, none⟩ = some (.slice p nt cap) ∧ w'.cell? ⟨sB, 0, none⟩ = some (.int .i64 id) ∧ w'.cell? ⟨sB, 1, none⟩ = some (.slice vp nv vc) ∧ w'.cell? ⟨sB, 2, none⟩ = some (.int .i64 out) ∧ w'.cell? ⟨sB, 3, none⟩ = some (.slice tp nt tc))) (by kernel_rfl) ⟨x0, x1, s0, s1, s2, s3⟩ (fun hHeld => ?_)
      refine wpAnyH_take (i := 0) (oi := _) (v := ?_) rfl (by kernel_rfl) (by kernel_rfl) (by kernel_rfl) (fun _ _ _ h => h) (Or.inl ⟨by rfl, ?_⟩) (by assumption) ?_
      rotate_left
      · intro w hSw
        (try dsimp only at hSw)
        go_simp
        all_goals with_reducible rfl
      simp only [Act.put, List.setIfInBounds_toArray] --TAKE 1
      refine wpAnyH_take (i := 2) (oi := _) (v := ?_) rfl (by kernel_rfl) (by kernel_rfl) (by kernel_rfl) (fun _ _ _ h => h) (Or.inl ⟨by rfl, ?_⟩) (by assumption) ?_
      rotate_left
      · intro w hSw
        (try dsimp only at hSw)
        go_simp
        all_goals with_reducible rfl
      simp only [Act.put] --TAKE 2
      refine wpAnyH_take (i := 3) (oi := _) (v := ?_) rfl (by kernel_rfl) (by kernel_rfl) (by kernel_rfl) (fun _ _ _ h => h) (Or.inl ⟨by rfl, ?_⟩) (by assumption) ?_
      rotate_left
      · intro w hSw
        (try dsimp only at hSw)
        go_simp
        all_goals with_reducible rfl
      simp only [Act.put] --TAKE 3
      refine wpAnyH_take (i := 5) (oi := _) (v := ?_) rfl (by kernel_rfl) (by kernel_rfl) (by kernel_rfl) (fun _ _ _ h => h) (Or.inl ⟨by rfl, ?_⟩) (by assumption) ?_
      rotate_left
      · intro w hSw
        (try dsimp only at hSw)
        go_simp
        all_goals with_reducible rfl
      simp only [Act.put] --TAKE 4
      refine wpAnyH_take (i := 6) (oi := _) (v := ?_) rfl (by kernel_rfl) (by kernel_rfl) (by kernel_rfl) (fun _ _ _ h => h) (Or.inl ⟨by rfl, ?_⟩) (by assumption) ?_
      rotate_left
      · intro w hSw
        (try dsimp only at hSw)
        go_simp
        all_goals with_reducible rfl
      simp only [Act.put] --TAKE 5
      refine wpAnyH_take (i := 8) (oi := _) (v := ?_) rfl (by kernel_rfl) (by kernel_rfl) (by kernel_rfl) (fun _ _ _ h => h) (Or.inl ⟨by rfl, ?_⟩) (by assumption) ?_
      rotate_left
      · intro w hSw
        (try dsimp only at hSw)
        go_simp
        all_goals with_reducible rfl
      simp only [Act.put] --TAKE 6
      refine wpAnyH_take (i := 9) (oi := _) (v := ?_) rfl (by kernel_rfl) (by kernel_rfl) (by kernel_rfl) (fun _ _ _ h => h) (Or.inl ⟨by rfl, ?_⟩) (by assumption) ?_
      rotate_left
      · intro w hSw
        (try dsimp only at hSw)
        go_simp
        all_goals with_reducible rfl
      simp only [Act.put] --TAKE 7
      refine wpAnyH_take (i := 10) (oi := _) (v := ?_) rfl (by kernel_rfl) (by kernel_rfl) (by kernel_rfl) (fun _ _ _ h => h) (Or.inl ⟨by rfl, ?_⟩) (by assumption) ?_
      rotate_left
      · intro w hSw
        (try dsimp only at hSw)
        go_simp
        all_goals with_reducible rfl
      simp only [Act.put] --TAKE 8
      refine wpAnyH_take (i := 11) (oi := _) (v := ?_) rfl (by kernel_rfl) (by kernel_rfl) (by kernel_rfl) (fun _ _ _ h => h) (Or.inl ⟨by rfl, ?_⟩) (by assumption) ?_
      rotate_left
      · intro w hSw
        (try dsimp only at hSw)
        go_simp
        all_goals with_reducible rfl
      simp only [Act.put] --TAKE 9
      have BD : Below w2.heap.size w2 w2.drew := (Below.refl _ w2).drew
      refine wpAnyH_all (rs := [1, 4]) (by kernel_rfl) (by simp) ?_
      intro i hi
      rcases (show i = 1 ∨ i = 4 by simpa using hi) with rfl | rfl
      · refine AllReadyH.cons (i := 1) (rs := []) (o := _) rfl (fun K hK => ?_) AllReadyH.nil 1 (by simp)
        go_simp
        refine (leads_good (parts := (nv : Int)) (HO.out.below (HB2.out.trans (BD.mono HB2.out.size))) HN.out HG.out).mono ?_
        rintro _ wl ⟨lg, rfl, b9⟩
        replace BD := BD.trans (b9.mono BD.size)
        clear b9
        go_wp2_with fail
        refine hK.out _ _ ⟨cell_later BD x0, cell_later BD x1, cell_later BD s0, cell_later BD s1, cell_later BD s2, cell_later BD s3⟩ (fun hHeld => ?_)
        clear hK
        refine wpAnyH_all (rs := [4, 7]) (by kernel_rfl) (by simp) ?_
        intro i hi
        rcases (show i = 4 ∨ i = 7 by simpa using hi) with rfl | rfl
        · obtain ⟨wm, hrun, _, hgr⟩ := run_make_full wl W.heap.size 86 163 e0 (.slice none 0 0) 1 Tryz.underlying86 hE0 he0 he1 .i64 .i64 nv (by rw [he2]; omega) (by unfold maxLen; omega) (Nat.le_trans HB2.out.size BD.size)
          replace BD := BD.grown hgr BD.size (fun k hk => by simp at hk)
          obtain ⟨mg, hmg⟩ : ∃ mg, wl.heap.size = mg := ⟨_, rfl⟩
          rw [hmg] at hrun
          clear hgr hmg
          refine ready_run (i := 4) (o := _) rfl rfl (v := .slice (some ⟨mg, 0, none⟩) nv nv) (w' := wm) (by simp [execOp, Act.eval, go_sem, hrun]) ⟨cell_later BD x0, cell_later BD x1, cell_later BD s0, cell_later BD s1, cell_later BD s2, cell_later BD s3⟩ ?_ 4 (by simp)
          clear hrun hHeld
          have hHeld : (fun w' => w'.cell? ⟨gB, 0, none⟩ = some (.int .i64 (nv : Int)) ∧ w'.cell? ⟨gB, 1, none⟩ = some (.slice p nt cap) ∧ w'.cell? ⟨sB, 0, none⟩ = some (.int .i64 id) ∧ w'.cell? ⟨sB, 1, none⟩ = some (.slice vp nv vc) ∧ w'.cell? ⟨sB, 2, none⟩ = some (.int .i64 out) ∧ w'.cell? ⟨sB, 3, none⟩ = some (.slice tp nt tc)) wm := ⟨cell_later BD x0, cell_later BD x1, cell_later BD s0, cell_later BD s1, cell_later BD s2, cell_later BD s3⟩
          simp only [Act.put, List.setIfInBounds_toArray] --TAKE 10
          refine wpAnyH_ready (rs := [7]) (by kernel_rfl) (by simp) ?_
          refine AllReadyH.cons (i := 7) (rs := []) (o := _) rfl (fun K hK => ?_) AllReadyH.nil
          go_simp
          refine (intClone (HVR.out.later (HB2.out.trans (BD.mono HB2.out.size))) HNV.out (by omega)).mono ?_
          rintro _ wc ⟨cp, cc, rfl, _, b9⟩
          replace BD := BD.trans (b9.mono BD.size)
          clear b9
          go_wp2_with fail
          refine hK.out _ _ ⟨cell_later BD x0, cell_later BD x1, cell_later BD s0, cell_later BD s1, cell_later BD s2, cell_later BD s3⟩ (fun hHeld => ?_)
          clear hK
          refine wpAnyH_take (i := 12) (oi := _) (v := ?_) rfl (by kernel_rfl) (by kernel_rfl) (by kernel_rfl) (fun _ _ _ h => h) (Or.inl ⟨by rfl, ?_⟩) (by assumption) ?_
          rotate_left
          · intro w hSw
            (try dsimp only at hSw)
            go_simp
            all_goals with_reducible rfl
          simp only [Act.put, List.setIfInBounds_toArray] --TAKE 11
          have HFB : Hid (FlB (wc.alloc (.cells #[.slice none 0 0, .slice (some ⟨lg, 0, none⟩) nt nt, .slice none 0 0, .int .i64 0, .slice (some ⟨mg, 0, none⟩) nv nv, .slice cp nv cc, .int .i64 out, .slice none 0 0, .int .i64 id, .int .i64 0, .slice none 0 0, .int .i64 0] 92 (0, 0))) wc.heap.size (.slice none 0 0) (.slice none 0 0)) := hide ⟨_, _, _, _, _, _, _, _, _, _, heap_alloc_new wc (.cells #[.slice none 0 0, .slice (some ⟨lg, 0, none⟩) nt nt, .slice none 0 0, .int .i64 0, .slice (some ⟨mg, 0, none⟩) nv nv, .slice cp nv cc, .int .i64 out, .slice none 0 0, .int .i64 id, .int .i64 0, .slice none 0 0, .int .i64 0] 92 (0, 0))⟩
          have HGE : Hid (w2.heap.size ≤ wc.heap.size) := hide BD.size
          replace BD := BD.trans ((alloc_below wc (.cells #[.slice none 0 0, .slice (some ⟨lg, 0, none⟩) nt nt, .slice none 0 0, .int .i64 0, .slice (some ⟨mg, 0, none⟩) nv nv, .slice cp nv cc, .int .i64 out, .slice none 0 0, .int .i64 id, .int .i64 0, .slice none 0 0, .int .i64 0] 92 (0, 0))).mono BD.size)
          refine wpAnyH_ready (rs := [13]) (by kernel_rfl) (by simp) ?_
          refine AllReadyH.cons (o := _) rfl (fun K hK => ?_) AllReadyH.nil
          go_simp
          refine hK.out _ _ ⟨cell_later BD x0, cell_later BD x1, cell_later BD s0, cell_later BD s1, cell_later BD s2, cell_later BD s3⟩ (fun hHeld => ?_)
          clear hK
          refine wpAnyH_ready (rs := [14]) (by kernel_rfl) (by simp) ?_
          refine AllReadyH.cons (o := _) rfl (fun K hK => ?_) AllReadyH.nil
          go_simp
          refine hK.out _ _ ⟨cell_later BD x0, cell_later BD x1, cell_later BD s0, cell_later BD s1, cell_later BD s2, cell_later BD s3⟩ (fun hHeld => ?_)
          clear hK
          refine wpAnyH_done (by kernel_rfl) ?_ _
          have HBD := hide BD
          clear BD
          go_wp2_with fail
          go_meet
          case rel => exact ⟨wc.heap.size, rfl, HFB, HGE, HBD⟩
        · refine AllReadyH.cons (i := 7) (rs := []) (o := _) rfl (fun K hK => ?_) AllReadyH.nil 7 (by simp)
          go_simp
          refine (intClone (HVR.out.later (HB2.out.trans (BD.mono HB2.out.size))) HNV.out (by omega)).mono ?_
          rintro _ wc ⟨cp, cc, rfl, _, b9⟩
          replace BD := BD.trans (b9.mono BD.size)
          clear b9
          go_wp2_with fail
          refine hK.out _ _ ⟨cell_later BD x0, cell_later BD x1, cell_later BD s0, cell_later BD s1, cell_later BD s2, cell_later BD s3⟩ (fun hHeld => ?_)
          clear hK
          refine wpAnyH_ready (rs := [4]) (by kernel_rfl) (by simp) ?_
          obtain ⟨wm, hrun, _, hgr⟩ := run_make_full wc W.heap.size 86 163 e0 (.slice none 0 0) 1 Tryz.underlying86 hE0 he0 he1 .i64 .i64 nv (by rw [he2]; omega) (by unfold maxLen; omega) (Nat.le_trans HB2.out.size BD.size)
          replace BD := BD.grown hgr BD.size (fun k hk => by simp at hk)
          obtain ⟨mg, hmg⟩ : ∃ mg, wc.heap.size = mg := ⟨_, rfl⟩
          rw [hmg] at hrun
          clear hgr hmg
          refine ready_run (i := 4) (o := _) rfl rfl (v := .slice (some ⟨mg, 0, none⟩) nv nv) (w' := wm) (by simp [execOp, Act.eval, go_sem, hrun]) ⟨cell_later BD x0, cell_later BD x1, cell_later BD s0, cell_later BD s1, cell_later BD s2, cell_later BD s3⟩ ?_
          clear hrun hHeld
          have hHeld : (fun w' => w'.cell? ⟨gB, 0, none⟩ = some (.int .i64 (nv : Int)) ∧ w'.cell? ⟨gB, 1, none⟩ = some (.slice p nt cap) ∧ w'.cell? ⟨sB, 0, none⟩ = some (.int .i64 id) ∧ w'.cell? ⟨sB, 1, none⟩ = some (.slice vp nv vc) ∧ w'.cell? ⟨sB, 2, none⟩ = some (.int .i64 out) ∧ w'.cell? ⟨sB, 3, none⟩ = some (.slice tp nt tc)) wm := ⟨cell_later BD x0, cell_later BD x1, cell_later BD s0, cell_later BD s1, cell_later BD s2, cell_later BD s3⟩
          simp only [Act.put, List.setIfInBounds_toArray] --TAKE 12
          refine wpAnyH_take (i := 12) (oi := _) (v := ?_) rfl (by kernel_rfl) (by kernel_rfl) (by kernel_rfl) (fun _ _ _ h => h) (Or.inl ⟨by rfl, ?_⟩) (by assumption) ?_
          rotate_left
          · intro w hSw
            (try dsimp only at hSw)
            go_simp
            all_goals with_reducible rfl
          simp only [Act.put] --TAKE 13
          have HFB : Hid (FlB (wm.alloc (.cells #[.slice none 0 0, .slice (some ⟨lg, 0, none⟩) nt nt, .slice none 0 0, .int .i64 0, .slice (some ⟨mg, 0, none⟩) nv nv, .slice cp nv cc, .int .i64 out, .slice none 0 0, .int .i64 id, .int .i64 0, .slice none 0 0, .int .i64 0] 92 (0, 0))) wm.heap.size (.slice none 0 0) (.slice none 0 0)) := hide ⟨_, _, _, _, _, _, _, _, _, _, heap_alloc_new wm (.cells #[.slice none 0 0, .slice (some ⟨lg, 0, none⟩) nt nt, .slice none 0 0, .int .i64 0, .slice (some ⟨mg, 0, none⟩) nv nv, .slice cp nv cc, .int .i64 out, .slice none 0 0, .int .i64 id, .int .i64 0, .slice none 0 0, .int .i64 0] 92 (0, 0))⟩
          have HGE : Hid (w2.heap.size ≤ wm.heap.size) := hide BD.size
          replace BD := BD.trans ((alloc_below wm (.cells #[.slice none 0 0, .slice (some ⟨lg, 0, none⟩) nt nt, .slice none 0 0, .int .i64 0, .slice (some ⟨mg, 0, none⟩) nv nv, .slice cp nv cc, .int .i64 out, .slice none 0 0, .int .i64 id, .int .i64 0, .slice none 0 0, .int .i64 0] 92 (0, 0))).mono BD.size)
          refine wpAnyH_ready (rs := [13]) (by kernel_rfl) (by simp) ?_
          refine AllReadyH.cons (o := _) rfl (fun K hK => ?_) AllReadyH.nil
          go_simp
          refine hK.out _ _ ⟨cell_later BD x0, cell_later BD x1, cell_later BD s0, cell_later BD s1, cell_later BD s2, cell_later BD s3⟩ (fun hHeld => ?_)
          clear hK
          refine wpAnyH_ready (rs := [14]) (by kernel_rfl) (by simp) ?_
          refine AllReadyH.cons (o := _) rfl (fun K hK => ?_) AllReadyH.nil
          go_simp
          refine hK.out _ _ ⟨cell_later BD x0, cell_later BD x1, cell_later BD s0, cell_later BD s1, cell_later BD s2, cell_later BD s3⟩ (fun hHeld => ?_)
          clear hK
          refine wpAnyH_done (by kernel_rfl) ?_ _
          have HBD := hide BD
          clear BD
          go_wp2_with fail
          go_meet
          case rel => exact ⟨wm.heap.size, rfl, HFB, HGE, HBD⟩
      · obtain ⟨wm, hrun, _, hgr⟩ := run_make_full w2.drew W.heap.size 86 163 e0 (.slice none 0 0) 1 Tryz.underlying86 hE0 he0 he1 .i64 .i64 nv (by rw [he2]; omega) (by unfold maxLen; omega) (Nat.le_trans HB2.out.size BD.size)
        replace BD := BD.grown hgr BD.size (fun k hk => by simp at hk)
        obtain ⟨mg, hmg⟩ : ∃ mg, w2.drew.heap.size = mg := ⟨_, rfl⟩
        rw [hmg] at hrun
        clear hgr hmg
        refine ready_run (i := 4) (o := _) rfl rfl (v := .slice (some ⟨mg, 0, none⟩) nv nv) (w' := wm) (by simp [execOp, Act.eval, go_sem, hrun]) ⟨cell_later BD x0, cell_later BD x1, cell_later BD s0, cell_later BD s1, cell_later BD s2, cell_later BD s3⟩ ?_ 4 (by simp)
        clear hrun hHeld
        have hHeld : (fun w' => w'.cell? ⟨gB, 0, none⟩ = some (.int .i64 (nv : Int)) ∧ w'.cell? ⟨gB, 1, none⟩ = some (.slice p nt cap) ∧ w'.cell? ⟨sB, 0, none⟩ = some (.int .i64 id) ∧ w'.cell? ⟨sB, 1, none⟩ = some (.slice vp nv vc) ∧ w'.cell? ⟨sB, 2, none⟩ = some (.int .i64 out) ∧ w'.cell? ⟨sB, 3, none⟩ = some (.slice tp nt tc)) wm := ⟨cell_later BD x0, cell_later BD x1, cell_later BD s0, cell_later BD s1, cell_later BD s2, cell_later BD s3⟩
        simp only [Act.put] --TAKE 14
        refine wpAnyH_ready (rs := [1]) (by kernel_rfl) (by simp) ?_
        refine AllReadyH.cons (i := 1) (rs := []) (o := _) rfl (fun K hK => ?_) AllReadyH.nil
        go_simp
        refine (leads_good (parts := (nv : Int)) (HO.out.below (HB2.out.trans (BD.mono HB2.out.size))) HN.out HG.out).mono ?_
        rintro _ wl ⟨lg, rfl, b9⟩
        replace BD := BD.trans (b9.mono BD.size)
        clear b9
        go_wp2_with fail
        refine hK.out _ _ ⟨cell_later BD x0, cell_later BD x1, cell_later BD s0, cell_later BD s1, cell_later BD s2, cell_later BD s3⟩ (fun hHeld => ?_)
        clear hK
        refine wpAnyH_ready (rs := [7]) (by kernel_rfl) (by simp) ?_
        refine AllReadyH.cons (i := 7) (rs := []) (o := _) rfl (fun K hK => ?_) AllReadyH.nil
        go_simp
        refine (intClone (HVR.out.later (HB2.out.trans (BD.mono HB2.out.size))) HNV.out (by omega)).mono ?_
        rintro _ wc ⟨cp, cc, rfl, _, b9⟩
        replace BD := BD.trans (b9.mono BD.size)
        clear b9
        go_wp2_with fail
        refine hK.out _ _ ⟨cell_later BD x0, cell_later BD x1, cell_later BD s0, cell_later BD s1, cell_later BD s2, cell_later BD s3⟩ (fun hHeld => ?_)
        clear hK
        refine wpAnyH_take (i := 12) (oi := _) (v := ?_) rfl (by kernel_rfl) (by kernel_rfl) (by kernel_rfl) (fun _ _ _ h => h) (Or.inl ⟨by rfl, ?_⟩) (by assumption) ?_
        rotate_left
        · intro w hSw
          (try dsimp only at hSw)
          go_simp
          all_goals with_reducible rfl
        simp only [Act.put, List.setIfInBounds_toArray] --TAKE 15
        have HFB : Hid (FlB (wc.alloc (.cells #[.slice none 0 0, .slice (some ⟨lg, 0, none⟩) nt nt, .slice none 0 0, .int .i64 0, .slice (some ⟨mg, 0, none⟩) nv nv, .slice cp nv cc, .int .i64 out, .slice none 0 0, .int .i64 id, .int .i64 0, .slice none 0 0, .int .i64 0] 92 (0, 0))) wc.heap.size (.slice none 0 0) (.slice none 0 0)) := hide ⟨_, _, _, _, _, _, _, _, _, _, heap_alloc_new wc (.cells #[.slice none 0 0, .slice (some ⟨lg, 0, none⟩) nt nt, .slice none 0 0, .int .i64 0, .slice (some ⟨mg, 0, none⟩) nv nv, .slice cp nv cc, .int .i64 out, .slice none 0 0, .int .i64 id, .int .i64 0, .slice none 0 0, .int .i64 0] 92 (0, 0))⟩
        have HGE : Hid (w2.heap.size ≤ wc.heap.size) := hide BD.size
        replace BD := BD.trans ((alloc_below wc (.cells #[.slice none 0 0, .slice (some ⟨lg, 0, none⟩) nt nt, .slice none 0 0, .int .i64 0, .slice (some ⟨mg, 0, none⟩) nv nv, .slice cp nv cc, .int .i64 out, .slice none 0 0, .int .i64 id, .int .i64 0, .slice none 0 0, .int .i64 0] 92 (0, 0))).mono BD.size)
        refine wpAnyH_ready (rs := [13]) (by kernel_rfl) (by simp) ?_
        refine AllReadyH.cons (o := _) rfl (fun K hK => ?_) AllReadyH.nil
        go_simp
        refine hK.out _ _ ⟨cell_later BD x0, cell_later BD x1, cell_later BD s0, cell_later BD s1, cell_later BD s2, cell_later BD s3⟩ (fun hHeld => ?_)
        clear hK
        refine wpAnyH_ready (rs := [14]) (by kernel_rfl) (by simp) ?_
        refine AllReadyH.cons (o := _) rfl (fun K hK => ?_) AllReadyH.nil
        go_simp
        refine hK.out _ _ ⟨cell_later BD x0, cell_later BD x1, cell_later BD s0, cell_later BD s1, cell_later BD s2, cell_later BD s3⟩ (fun hHeld => ?_)
        clear hK
        refine wpAnyH_done (by kernel_rfl) ?_ _
        have HBD := hide BD
        clear BD
        go_wp2_with fail
        go_meet
        case rel => exact ⟨wc.heap.size, rfl, HFB, HGE, HBD⟩
    case rest =>
      obtain ⟨fB, rfl, HF, HGE, HBD⟩ := hcut
      rename World => w3
      have HB3 := hide (HB2.out.trans (HBD.out.mono HB2.out.size))
      have HU0c := hide (below_box HBD.out HU0b.out)
      have HU1c := hide (below_box HBD.out HU1b.out)
      clear x0 x1 s0 s1 s2 s3
      obtain ⟨x0, x1⟩ := box2 HU0c.out
      have HFS : Hid (sB < fB ∧ W.heap.size ≤ fB) := hide ⟨Nat.lt_of_lt_of_le (Array.getElem?_eq_some_iff.1 HU1b.out).1 HGE.out, Nat.le_trans HB2.out.size HGE.out⟩
      go_wp2_with fail
      clear x0 x1
      have HF0 : Hid (Below w2.heap.size w2 w3) := HBD
      go_loopw [60] (fun s wq => ∃ (k : Nat) (q : Option Addr) (qc : Nat), k ≤ nt ∧ s = .int .i64 (k : Int) ∧ Hid (FlB wq fB (.slice q k qc) (.slice none 0 0)) ∧ Hid (∃ ys, wq.ownsRow w2.heap.size 96 1 (.slice q k qc) k ys) ∧ Hid (∀ i, i < k → taskAt os ts i = 0) ∧ Hid (Below w2.heap.size w2 wq)) (fun s _ => nt - (intOf s).toNat)
      case atStart => exact ⟨0, none, 0, Nat.zero_le _, rfl, HF, hide ⟨[], World.ownsRow_nil _ _ _ _⟩, hide (fun i hi => absurd hi (Nat.not_lt_zero i)), HF0⟩
      case round =>
        obtain ⟨k, q, qc, hk, rfl, HFk, HOk, HTk, HBk⟩ := hrel
        rename World => wq
        clear HF HBD HF0
        by_cases hlt : k < nt
        · have hlt1 : k < os.length := by rw [HN.out]; exact hlt
          have hlt2 : k < ts.length := by rw [HNT.out]; exact hlt
          have HBW := hide (HB2.out.trans (HBk.out.mono HB2.out.size))
          obtain ⟨x, hx⟩ : ∃ x, os[k]! = x := ⟨_, rfl⟩
          obtain ⟨y, hy⟩ : ∃ y, ts[k]! = y := ⟨_, rfl⟩
          have hym : y ∈ ts := by rw [← hy, getElem!_pos ts k hlt2]; exact List.getElem_mem _
          have hyo := (HTR.out.later HBW.out).ok y hym
          have hyb := HBT.out y hym
          obtain ⟨hf1, hf2⟩ := HG.out.fit (n := k) (by simpa using hlt1)
          rw [getO os hlt1, hx] at hf1 hf2
          obtain ⟨er1, her1⟩ : ∃ er1, taskAt os ts k = er1 := ⟨_, rfl⟩
          have HE1 := hide her1
          obtain ⟨g, o, rfl, k0, k1, k2, k3, k4⟩ := grow_at (HO.out.below HBW.out) hlt1 hx
          obtain ⟨g2, o2, rfl, d0, d1, d2⟩ := (HTR.out.later HBW.out).at hlt2 hy
          have hta : taskC x.o.kind x.o.arg y.tn x.o.ins.length y.xs.length y.ks = er1 := by rw [← her1]; unfold taskAt; rw [hx, hy]
          obtain ⟨⟨kd, pt, fn, ar, ins⟩, ip, ic⟩ := x
          obtain ⟨ks, kp, kc, tn, xs, bp, bc⟩ := y
          simp only at k0 k1 k2 k3 k4 hf1 hf2 d0 d1 d2 hta hyb
          obtain ⟨m, hm⟩ : ∃ m, ins.length = m := ⟨_, rfl⟩
          obtain ⟨nk, hnk⟩ : ∃ nk, ks.length = nk := ⟨_, rfl⟩
          obtain ⟨nb, hnb⟩ : ∃ nb, xs.length = nb := ⟨_, rfl⟩
          rw [hm] at k4 hf1 hta
          rw [hnb] at d2 hta hyb
          rw [hnk] at d0
          obtain ⟨X1, hX1⟩ : ∃ X, X = wq.alloc (.cells #[.int .i64 kd, .int .i64 pt, .int .i64 fn, .int .i64 ar, .slice ip m ic] 95 (0, 0)) := ⟨_, rfl⟩
          have bX1 : Below wq.heap.size wq X1 := by rw [hX1]; exact alloc_below _ _
          have ux : X1.heap[wq.heap.size]? = some (.cells #[.int .i64 kd, .int .i64 pt, .int .i64 fn, .int .i64 ar, .slice ip m ic] 95 (0, 0)) := by rw [hX1]; exact heap_alloc_new _ _
          obtain ⟨oB, hoB⟩ : ∃ oB, wq.heap.size = oB := ⟨_, rfl⟩
          rw [hoB] at ux
          obtain ⟨f0, f1, f2, f3, f4⟩ := opBox5 ux
          obtain ⟨_, _, _, f5⟩ := box4 (below_box (HBk.out.trans (bX1.mono HBk.out.size)) HU1b.out)
          have f6 := cell_later bX1 d0
          have f7 := cell_later bX1 d1
          have f8 := cell_later bX1 d2
          have HBX : Hid (Below wq.heap.size wq X1) := hide bX1
          have HTF := hide (fun Z (hZ : Below X1.heap.size X1 Z) => taskFrom_all (W := Z) (kd := kd) (pt := pt) (fn := fn) (ar := ar) (tn := tn) (ip := ip) (n := m) (ic := ic) hf1 hf2 (Op.KRow.later hyo.keys (bX1.trans (hZ.mono bX1.size))) hnk (hyo.bufs.later (bX1.trans (hZ.mono bX1.size))) hnb hyb.1 hyb.2 hta)
          clear hx hy hym hyo hyb hf1 hf2 hta hm hnk hnb ux bX1 her1
          go_upto_region 10 with fail
          rw [← hX1]
          try rw [hoB]
          clear hX1 hoB k0 k1 k2 k3 k4 d0 d1 d2
          refine wp_region_held_drew (S := (fun w' => w'.cell? ⟨oB, 0, none⟩ = some (.int .i64 kd) ∧ w'.cell? ⟨oB, 1, none⟩ = some (.int .i64 pt) ∧ w'.cell? ⟨oB, 2, none⟩ = some (.int .i64 fn) ∧ w'.cell? ⟨oB, 3, none⟩ = some (.int .i64 ar) ∧ w'.cell? ⟨oB, 4, none⟩ = some (.slice ip m ic) ∧ w'.cell? ⟨sB, 3, none⟩ = some (.slice (some ⟨g2, o2, none⟩) nt tc) ∧ w'.cell? ⟨g2, o2 + k * 3, none⟩ = some (.slice kp nk kc) ∧ w'.cell? ⟨g2, o2 + k * 3 + 1, none⟩ = some (.int .i64 tn) ∧ w'.cell? ⟨g2, o2 + k * 3 + 2, none⟩ = some (.slice bp nb bc))) (by kernel_rfl) ⟨f0, f1, f2, f3, f4, f5, f6, f7, f8⟩ (fun hHeld => ?_)
          refine wpAnyH_take (i := 0) (oi := _) (v := ?_) rfl (by kernel_rfl) (by kernel_rfl) (by kernel_rfl) (fun _ _ _ h => h) (Or.inl ⟨by rfl, ?_⟩) (by assumption) ?_
          rotate_left
          · intro w hSw
            (try dsimp only at hSw)
            go_simp
            all_goals with_reducible rfl
          simp only [Act.put, List.setIfInBounds_toArray] --TAKE 16
          refine wpAnyH_take (i := 1) (oi := _) (v := ?_) rfl (by kernel_rfl) (by kernel_rfl) (by kernel_rfl) (fun _ _ _ h => h) (Or.inl ⟨by rfl, ?_⟩) (by assumption) ?_
          rotate_left
          · intro w hSw
            (try dsimp only at hSw)
            go_simp
            all_goals with_reducible rfl
          simp only [Act.put] --TAKE 17
          refine wpAnyH_take (i := 2) (oi := _) (v := ?_) rfl (by kernel_rfl) (by kernel_rfl) (by kernel_rfl) (fun _ _ _ h => h) (Or.inl ⟨by rfl, ?_⟩) (by assumption) ?_
          rotate_left
          · intro w hSw
            (try dsimp only at hSw)
            go_simp
            all_goals with_reducible rfl
          simp only [Act.put] --TAKE 18
          refine wpAnyH_take (i := 3) (oi := _) (v := ?_) rfl (by kernel_rfl) (by kernel_rfl) (by kernel_rfl) (fun _ _ _ h => h) (Or.inl ⟨by rfl, ?_⟩) (by assumption) ?_
          rotate_left
          · intro w hSw
            (try dsimp only at hSw)
            go_simp
            all_goals with_reducible rfl
          simp only [Act.put] --TAKE 19
          refine wpAnyH_take (i := 4) (oi := _) (v := ?_) rfl (by kernel_rfl) (by kernel_rfl) (by kernel_rfl) (fun _ _ _ h => h) (Or.inl ⟨by rfl, ?_⟩) (by assumption) ?_
          rotate_left
          · intro w hSw
            (try dsimp only at hSw)
            go_simp
            all_goals with_reducible rfl
          simp only [Act.put] --TAKE 20
          refine wpAnyH_take (i := 5) (oi := _) (v := ?_) rfl (by kernel_rfl) (by kernel_rfl) (by kernel_rfl) (fun _ _ _ h => h) (Or.inl ⟨by rfl, ?_⟩) (by assumption) ?_
          rotate_left
          · intro w hSw
            (try dsimp only at hSw)
            go_simp
            all_goals with_reducible rfl
          simp only [Act.put] --TAKE 21
          refine wpAnyH_take (i := 6) (oi := _) (v := ?_) rfl (by kernel_rfl) (by kernel_rfl) (by kernel_rfl) (fun _ _ _ h => h) (Or.inl ⟨by rfl, ?_⟩) (by assumption) ?_
          rotate_left
          · intro w hSw
            (try dsimp only at hSw)
            go_simp
            all_goals with_reducible rfl
          simp only [Act.put] --TAKE 22
          refine wpAnyH_ready (rs := [7]) (by kernel_rfl) (by simp) ?_
          refine AllReadyH.cons (o := _) rfl (fun K hK => ?_) AllReadyH.nil
          go_simp
          refine (HTF.out _ (Below.refl _ X1).drew).mono ?_
          rintro _ w5 ⟨pv, rfl, hpv, b5⟩
          have B5 : Below X1.heap.size X1 w5 := (Below.refl _ X1).drew.trans b5
          go_wp2_with fail
          refine hK.out _ _ ⟨cell_later B5 f0, cell_later B5 f1, cell_later B5 f2, cell_later B5 f3, cell_later B5 f4, cell_later B5 f5, cell_later B5 f6, cell_later B5 f7, cell_later B5 f8⟩ (fun hHeld => ?_)
          clear hK
          refine wpAnyH_take (i := 8) (oi := _) (v := ?_) rfl (by kernel_rfl) (by kernel_rfl) (by kernel_rfl) (fun _ _ _ h => h) (Or.inl ⟨by rfl, ?_⟩) (by assumption) ?_
          rotate_left
          · intro w hSw
            (try dsimp only at hSw)
            go_simp
            all_goals with_reducible rfl
          simp only [Act.put, List.setIfInBounds_toArray] --TAKE 23
          refine wpAnyH_take (i := 9) (oi := _) (v := ?_) rfl (by kernel_rfl) (by kernel_rfl) (by kernel_rfl) (fun _ _ _ h => h) (Or.inl ⟨by rfl, ?_⟩) (by assumption) ?_
          rotate_left
          · intro w hSw
            (try dsimp only at hSw)
            go_simp
            all_goals with_reducible rfl
          simp only [Act.put] --TAKE 24
          refine wpAnyH_take (i := 10) (oi := _) (v := ?_) rfl (by kernel_rfl) (by kernel_rfl) (by kernel_rfl) (fun _ _ _ h => h) (Or.inl ⟨by rfl, ?_⟩) (by assumption) ?_
          rotate_left
          · intro w hSw
            (try dsimp only at hSw)
            go_simp
            all_goals with_reducible rfl
          simp only [Act.put] --TAKE 25
          refine wpAnyH_ready (rs := [11]) (by kernel_rfl) (by simp) ?_
          refine AllReadyH.cons (o := _) rfl (fun K hK => ?_) AllReadyH.nil
          go_simp
          refine hK.out _ _ ⟨cell_later B5 f0, cell_later B5 f1, cell_later B5 f2, cell_later B5 f3, cell_later B5 f4, cell_later B5 f5, cell_later B5 f6, cell_later B5 f7, cell_later B5 f8⟩ (fun hHeld => ?_)
          clear hK
          refine wpAnyH_ready (rs := [12]) (by kernel_rfl) (by simp) ?_
          refine AllReadyH.cons (o := _) rfl (fun K hK => ?_) AllReadyH.nil
          go_simp
          refine hK.out _ _ ⟨cell_later B5 f0, cell_later B5 f1, cell_later B5 f2, cell_later B5 f3, cell_later B5 f4, cell_later B5 f5, cell_later B5 f6, cell_later B5 f7, cell_later B5 f8⟩ (fun hHeld => ?_)
          clear hK
          refine wpAnyH_done (by kernel_rfl) ?_ _
          have HB5 := hide (HBX.out.trans (B5.mono HBX.out.size))
          clear hHeld B5 b5 f0 f1 f2 f3 f4 f5 f6 f7 f8
          by_cases h0 : er1 = 0
          · subst h0
            have hfl := HFk.out.later HB5.out
            obtain ⟨c0, z0⟩ := hfl.cell0
            obtain ⟨ys, hys⟩ := HOk.out
            have hys5 := ownsRow_later hys HB5.out
            obtain ⟨Z, hZ⟩ : ∃ Z, Z = w5.alloc (.cells #[.pointer pv] 96 (0, 0)) := ⟨_, rfl⟩
            have bZ : Below w5.heap.size w5 Z := by rw [hZ]; exact alloc_below _ _
            have HRW := hide (ownsRow_later hys5 bZ)
            have HSG : Hid (Seg Z 1 (.slice (some ⟨w5.heap.size, 0, none⟩) 1 1) 1 [.pointer pv]) := hide (by rw [hZ]; exact Seg.news (heap_alloc_new w5 _) (by simp [Value.oneCell']) rfl (Nat.le_refl _) (by decide))
            have hbz : Below w2.heap.size w2 Z := (HBk.out.trans (HB5.out.mono HBk.out.size)).trans (bZ.mono (HBk.out.trans (HB5.out.mono HBk.out.size)).size)
            have HBZ := hide hbz
            have HFZ := hide (hfl.later bZ)
            have HK1 : Hid (k + 1 ≤ maxLen) := by show _ ≤ _; unfold maxLen; omega
            have HK2 : Hid ((k + 1) * 8 ≤ 140737488355328) := hide (by omega)
            clear hfl hys hys5 bZ hbz
            subst hZ
            go_wp2_with (at_builtin; refine append_cells _ rfl (.tmp 82) (.tmp 84) 87 rfl w2.heap.size 96 t0 (.pointer none) 1 8 Tryz.underlying87 hT0 ht0 ht1 ht2 rfl (by decide) (.slice q k qc) k _ rfl HRW.out (.slice (some ⟨w5.heap.size, 0, none⟩) 1 1) 1 _ rfl HSG.out HK1.out HK2.out HBZ.out.size ?_)
            intro q6 c6 w6 o6 g6
            have hf6 : FlB w6 fB (.slice q k qc) (.slice none 0 0) := HFZ.out.only (Only.of_grown (F := fun i => (Value.slice q k qc).ownBlock = some i) g6 (fun k e => e)) (fun e => HFZ.out.apart HRW.out (by decide) e rfl)
            obtain ⟨c1, z1⟩ := hf6.cell0
            have hb6 : Below w2.heap.size w2 w6 := HBZ.out.grown g6 HBZ.out.size (fun i e => own_block_base HRW.out e)
            have HFF := hide (hf6.set0 (.slice q6 (k + 1) c6))
            have HBF : Hid (Below w2.heap.size w2 (w6.setCell ⟨fB, 0, none⟩ (.slice q6 (k + 1) c6))) := hide (hb6.setCell (p := ⟨fB, 0, none⟩) HGE.out _)
            have HOF : Hid (∃ ys, (w6.setCell ⟨fB, 0, none⟩ (.slice q6 (k + 1) c6)).ownsRow w2.heap.size 96 1 (.slice q6 (k + 1) c6) (k + 1) ys) := hide ⟨_, ownsRow_only o6 (Only.set (F := (· = fB)) _ _ _ _ rfl) (fun b hb e => hf6.apart o6 (by decide) hb e)⟩
            have HTF2 : Hid (∀ i, i < k + 1 → taskAt os ts i = 0) := hide (fun i hi => by
              by_cases e : i = k
              · rw [e]; exact HE1.out
              · exact HTk.out i (by omega))
            clear o6 g6 hf6 hb6 c0 z0
            go_wp2
            exact ⟨⟨k + 1, q6, c6, by omega, by first | rfl | go_num, HFF, HOF, HTF2, HBF⟩, by simp [intOf]; omega⟩
          · have e0 := ne_eq h0
            have HER3 : Hid (70 = er) := hide (by
              rw [← HER2.out, if_neg]
              intro h9
              unfold tasksC at h9
              rw [List.all_eq_true] at h9
              have h8 := h9 k (by simpa using hlt1)
              rw [getO os hlt1] at h8
              have h7 := HE1.out
              unfold taskAt at h7
              rw [h7] at h8
              exact h0 (by simpa using h8))
            have HEX : Hid (FromAt er W (.returned (.tuple #[.pointer none, .int .i64 70])) w5) := hide ⟨none, by rw [HER3.out], fun e => absurd (HER3.out.trans e) (by decide), HBW.out.trans (HB5.out.mono HBW.out.size)⟩
            go_wp2
            go_ret2
            exact HEX.out
        · have hkn : k = nt := by omega
          subst hkn
          have HER3 : Hid (0 = er) := hide (by
            rw [← HER2.out, if_pos]
            unfold tasksC
            rw [List.all_eq_true, List.length_map, HN.out]
            intro i hi
            have hi' : i < k := by simpa using hi
            have h9 := HTk.out i hi'
            unfold taskAt at h9
            rw [getO os (by rw [HN.out]; exact hi')]
            simpa using h9)
          obtain ⟨x0, x1⟩ := box2 (below_box HBk.out HU0b.out)
          go_wp2_with fail
          clear x0 x1
          go_loopw [91] (fun s wr => ∃ (j : Nat) (r : Option Addr) (rc : Nat), j ≤ nv ∧ s = .int .i64 (j : Int) ∧ Hid (FlB wr fB (.slice q k qc) (.slice r j rc)) ∧ Hid (∃ ys, wr.ownsRow w2.heap.size 3 1 (.slice r j rc) j ys) ∧ Hid (Below w2.heap.size w2 wr)) (fun s _ => nv - (intOf s).toNat)
          case atStart => exact ⟨0, none, 0, Nat.zero_le _, rfl, HFk, hide ⟨[], World.ownsRow_nil _ _ _ _⟩, HBk⟩
          case round =>
            obtain ⟨j, r, rc, hj, rfl, HFj, HOj, HBj⟩ := hrel
            rename World => wr
            obtain ⟨x0, x1⟩ := box2 (below_box HBj.out HU0b.out)
            have HBW := hide (HB2.out.trans (HBj.out.mono HB2.out.size))
            by_cases hlj : j < nv
            · have HSO := hide (source_any (W := wr) (parts := (nv : Int)) (part := (j : Int)) (HO.out.below HBW.out))
              rw [HN.out] at HSO
              go_wp2_with fail
              refine HSO.out.mono ?_
              rintro _ w5 ⟨rfl, b5⟩
              obtain ⟨sv, hsv⟩ : ∃ sv, atN (firstO (sourceF (j : Int)) (os.map OV.o)) = sv := ⟨_, rfl⟩
              obtain ⟨bv, hbv⟩ : ∃ bv, (firstO (sourceF (j : Int)) (os.map OV.o)).isSome = bv := ⟨_, rfl⟩
              rw [hsv, hbv]
              clear hsv hbv HSO x0 x1
              have hfl := HFj.out.later b5
              obtain ⟨c0, z0⟩ := hfl.cell2
              obtain ⟨ys, hys⟩ := HOj.out
              have hys5 := ownsRow_later hys b5
              obtain ⟨Z, hZ⟩ : ∃ Z, Z = w5.alloc (.cells #[.int .i64 sv] 3 (0, 0)) := ⟨_, rfl⟩
              have bZ : Below w5.heap.size w5 Z := by rw [hZ]; exact alloc_below _ _
              have HRW := hide (ownsRow_later hys5 bZ)
              have HSG : Hid (Seg Z 1 (.slice (some ⟨w5.heap.size, 0, none⟩) 1 1) 1 [.int .i64 sv]) := hide (by rw [hZ]; exact Seg.news (heap_alloc_new w5 _) (by simp [Value.oneCell']) rfl (Nat.le_refl _) (by decide))
              have hbz : Below w2.heap.size w2 Z := (HBj.out.trans (b5.mono HBj.out.size)).trans (bZ.mono (HBj.out.trans (b5.mono HBj.out.size)).size)
              have HBZ := hide hbz
              have HFZ := hide (hfl.later bZ)
              have HK1 : Hid (j + 1 ≤ maxLen) := by show _ ≤ _; unfold maxLen; omega
              have HK2 : Hid ((j + 1) * 8 ≤ 140737488355328) := hide (by omega)
              clear hfl hys hys5 bZ hbz b5
              subst hZ
              go_wp2_with (at_builtin; refine append_cells _ rfl (.tmp 104) (.tmp 106) 88 rfl w2.heap.size 3 m0 (.int .i64 0) 1 8 Tryz.underlying88 hM0 hx0 hx1 hx2 rfl (by decide) (.slice r j rc) j _ rfl HRW.out (.slice (some ⟨w5.heap.size, 0, none⟩) 1 1) 1 _ rfl HSG.out HK1.out HK2.out HBZ.out.size ?_)
              intro q6 c6 w6 o6 g6
              have hf6 : FlB w6 fB (.slice q k qc) (.slice r j rc) := HFZ.out.only (Only.of_grown (F := fun i => (Value.slice r j rc).ownBlock = some i) g6 (fun k e => e)) (fun e => HFZ.out.apart HRW.out (by decide) e rfl)
              obtain ⟨c1, z1⟩ := hf6.cell2
              have hb6 : Below w2.heap.size w2 w6 := HBZ.out.grown g6 HBZ.out.size (fun i e => own_block_base HRW.out e)
              have HFF := hide (hf6.set2 (.slice q6 (j + 1) c6))
              have HBF : Hid (Below w2.heap.size w2 (w6.setCell ⟨fB, 2, none⟩ (.slice q6 (j + 1) c6))) := hide (hb6.setCell (p := ⟨fB, 2, none⟩) HGE.out _)
              have HOF : Hid (∃ ys, (w6.setCell ⟨fB, 2, none⟩ (.slice q6 (j + 1) c6)).ownsRow w2.heap.size 3 1 (.slice q6 (j + 1) c6) (j + 1) ys) := hide ⟨_, ownsRow_only o6 (Only.set (F := (· = fB)) _ _ _ _ rfl) (fun b hb e => hf6.apart o6 (by decide) hb e)⟩
              clear o6 g6 hf6 hb6 c0 z0
              go_wp2
              exact ⟨⟨j + 1, q6, c6, by omega, by first | rfl | go_num, HFF, HOF, HBF⟩, by simp [intOf]; omega⟩
            · have hjn : j = nv := by omega
              subst hjn
              have HSK := hide (sink_any (W := wr) (parts := (j : Int)) (HO.out.below HBW.out))
              rw [HN.out] at HSK
              go_wp2_with fail
              refine HSK.out.mono ?_
              rintro _ w5 ⟨rfl, b5⟩
              obtain ⟨sv, hsv⟩ : ∃ sv, atN (firstO sinkF (os.map OV.o)) = sv := ⟨_, rfl⟩
              obtain ⟨bv, hbv⟩ : ∃ bv, (firstO sinkF (os.map OV.o)).isSome = bv := ⟨_, rfl⟩
              rw [hsv, hbv]
              clear hsv hbv HSK x0 x1
              obtain ⟨⟨v3, c3⟩, z3⟩ := (HFj.out.later b5).cell3
              have HBF : Hid (Below W.heap.size W (w5.setCell ⟨fB, 3, none⟩ (.int .i64 sv))) := hide ((HBW.out.trans (b5.mono HBW.out.size)).setCell (p := ⟨fB, 3, none⟩) HFS.out.2 _)
              clear b5
              go_wp2
              go_ret2
              exact ⟨_, by rw [← HER3.out]; rfl, fun _ => ⟨_, rfl⟩, HBF.out⟩
  · have HER2 : Hid (70 = er) := hide (by rw [← HER.out, if_neg (fun h => hok ⟨h.1, h.2.1, h.2.2.1⟩)])
    have HEX : Hid (FromAt er W (.returned (.tuple #[.pointer none, .int .i64 70])) w2) := hide ⟨none, by rw [HER2.out], fun e => absurd (HER2.out.trans e) (by decide), HB2.out⟩
    cases rb with
    | false =>
      go_wp2
      go_ret2
      exact HEX.out
    | true =>
      by_cases h1 : nv = P
      · subst h1
        have h2 : nt ≠ n := fun h => hok ⟨rfl, rfl, h⟩
        have e1 : (nt == n) = false := by simpa using h2
        have e2 : ((nt : Int) == (n : Int)) = false := ne_eq (fun h => h2 (by omega))
        clear hok
        go_wp2
        go_ret2
        exact HEX.out
      · have e1 : (nv == P) = false := by simpa using h1
        have e2 : ((nv : Int) == (P : Int)) = false := ne_eq (fun h => h1 (by omega))
        clear hok
        go_wp2
        go_ret2
        exact HEX.out
end Go.Proofs.YtlfipmieaabagaaGreat
