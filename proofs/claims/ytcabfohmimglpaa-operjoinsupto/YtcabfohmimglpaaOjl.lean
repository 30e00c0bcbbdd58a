/-
  OperJoins walked. The conditions: lengths.
-/
import Derived.Test.YtcabfohmimglpaaOlv
import Derived.Test.YtcabfohmimglpaaOjq
import Derived.Deep.RegionHeld3
import Derived.Deep.Cut
import Derived.Deep.CutBlock
import Derived.Deep.CutRange
namespace Go.Proofs.Ytcabfohmimglpaa
open Go.RowKit

theorem Try.infoRcdJ : (Try.prog.info? 39).map (fun i => (i.zero, i.size, i.bytes)) = some (some (.agg #[.int .i64 0, .int .i64 0]), 2, 16) := by kernel_rfl
theorem RRow.of_own {W : World} {base n cap : Nat} {p : Option Addr} {rs : List RC} (hn : rs.length = n) (h : W.ownsRow base 39 2 (.slice p n cap) n (rs.flatMap RC.cells)) : RRow W p cap rs := by
  obtain ⟨h1, h2, _, h4⟩ := own_list (cells := RC.cells) (fun o _ => o.len) hn h
  exact ⟨by omega, h2, h4⟩
theorem RRow.seg {W : World} {p : Option Addr} {c n : Nat} {rs : List RC} (h : RRow W p c rs) (h0 : p = none → c = 0) (hn : rs.length = n) : Seg W 2 (.slice p n c) n (rs.flatMap RC.cells) := by
  rw [← hn]
  exact Seg.of_list (by decide) (fun o _ => rfl) (fun o _ u hu => by simp [RC.cells] at hu; rcases hu with rfl | rfl <;> rfl) h.le h.top h0 h.cell
/-- append, at a guarded operation that is wanted. -/
theorem append_wanted {P : Program} (w : World) {ops : Array Oper} {rest : List Oper} {o : Oper} {a : Act} {Q : Exit → Act → World → Prop} (hw : Region.wanted o (yielded ops a.tmps) = true) (s x : Operand) (t : TypeId)
    (ho : o.op = .call { callee := .builtin .append, args := #[s, x], argTypes := #[t, t] })
    (base : Nat) (e : TypeId) (i : TypeInfo) (z : Value) (size bytes : Nat) (ht : P.underlying t = some (.slice e)) (hi : P.info? e = some i) (hz : i.zero = some z)
    (hsize : i.size = size) (hby : i.bytes = bytes) (hzs : z.cells.size = size) (hsz : 0 < size)
    (v : Value) (n : Nat) (xs : List Value) (hs : a.eval s = v) (hown : w.ownsRow base e size v n xs)
    (vx : Value) (m : Nat) (news : List Value) (hx : a.eval x = vx) (hseg : Seg w size vx m news) (h63 : n + m ≤ maxLen) (hbytes : (n + m) * bytes ≤ 140737488355328) (hbase : base ≤ w.heap.size)
    (h : ∀ p' c' w', w'.ownsRow base e size (.slice p' (n + m) c') (n + m) (xs ++ news) → w.grownBy w' v.ownBlock → wpList P ops Q rest (a.put o.dst (.slice p' (n + m) c')) w') : wpList P ops Q (o :: rest) a w :=
  wpList_step fun K hK => by
    rw [if_pos hw]
    exact wp_append_cells w s x t ho base e i z size bytes ht hi hz hsize hby hzs hsz v n xs hs hown vx m news hx hseg h63 hbytes hbase fun p' c' w' h2 h3 => hK _ _ (h p' c' w' h2 h3)
theorem enAll : ∀ args w, (callFunc 5 args).run Try.prog w = .ok (.enter 5 args) w := enters_of Try.func5 (by kernel_rfl) rfl
theorem puSeg {W : World} {base n cap : Nat} {p : Option Addr} {us : List PU} (h : W.ownsRow base 41 3 (.slice p n cap) n (us.flatMap PU.cells)) (hn : us.length = n) : Seg W 3 (.slice p n cap) n (us.flatMap PU.cells) := by
  have e : (us.flatMap PU.cells).length = n * 3 := by rw [← hn]; clear h hn; induction us with
    | nil => rfl
    | cons u us ih => rw [List.flatMap_cons, List.length_append, ih, List.length_cons]; show 3 + _ = _; omega
  have h9 := Seg.of_own h (fun u hu => by rw [List.mem_flatMap] at hu; obtain ⟨x, _, hx⟩ := hu; simp [PU.cells] at hx; rcases hx with rfl | rfl | rfl <;> rfl) e (Nat.le_refl n)
  rw [List.take_of_length_le (by omega)] at h9
  exact h9
theorem box_grown {A B : World} {v : Option Nat} {b : Nat} {o : Obj} (g : A.grownBy B v) (h : A.heap[b]? = some o) (hv : v ≠ some b) : B.heap[b]? = some o :=
  (Only.of_grown (F := fun i => v = some i) g (fun _ e => e)).obj h (fun e => hv e)
theorem own_not_boxK {W : World} {base n k b : Nat} {e t : TypeId} {v : Value} {xs : List Value} {cs : Array Value} (h : W.ownsRow base e k v n xs) (hb : W.heap[b]? = some (.cells cs t (0, 0))) (hne : e ≠ t) (he : v.ownBlock = some b) : False := by
  obtain ⟨_, cur, h1⟩ := own_block_lt h he
  rw [hb] at h1
  simp at h1
  exact hne h1.2.symm
theorem own_not_boxJ {W : World} {base n k b : Nat} {v : Value} {xs : List Value} {cs : Array Value} (h : W.ownsRow base 39 k v n xs) (hb : W.heap[b]? = some (.cells cs 29 (0, 0))) (he : v.ownBlock = some b) : False := own_not_boxK h hb (by decide) he
structure OpBox (W : World) (b : Nat) (kd pt fn ar : Int) (ip : Option Addr) (n ic : Nat) : Prop where
  c0 : W.cell? ⟨b, 0, none⟩ = some (.int .i64 kd)
  c1 : W.cell? ⟨b, 1, none⟩ = some (.int .i64 pt)
  c2 : W.cell? ⟨b, 2, none⟩ = some (.int .i64 fn)
  c3 : W.cell? ⟨b, 3, none⟩ = some (.int .i64 ar)
  c4 : W.cell? ⟨b, 4, none⟩ = some (.slice ip n ic)
theorem opBox {W : World} {b : Nat} {kd pt fn ar : Int} {ip : Option Addr} {n ic : Nat} (fu : W.heap[b]? = some (.cells #[.int .i64 kd, .int .i64 pt, .int .i64 fn, .int .i64 ar, .slice ip n ic] 24 (0, 0))) : OpBox W b kd pt fn ar ip n ic :=
  ⟨by simp [World.cell?, fu], by simp [World.cell?, fu], by simp [World.cell?, fu], by simp [World.cell?, fu], by simp [World.cell?, fu]⟩
theorem stBox {W : World} {b : Nat} {v : Value} (fu : W.heap[b]? = some (.cells #[v, .int .i64 0] 29 (0, 0))) : W.cell? ⟨b, 0, none⟩ = some v ∧ W.cell? ⟨b, 1, none⟩ = some (.int .i64 0) :=
  ⟨by simp [World.cell?, fu], by simp [World.cell?, fu]⟩

set_option maxRecDepth 100000 in
set_option maxHeartbeats 16000000 in
theorem joins_walk {W : World} {kd pt fn ar : Int} {ip p q : Option Addr} {n ic c d m l : Nat} {rs rs' : List RC} (ha : I6 ar) (h : RRow W p c rs) (h0 : p = none → c = 0) (hm : rs.length = m) (h' : RRow W q d rs') (h0' : q = none → d = 0) (hl : rs'.length = l) (hb : m + l ≤ 1048576) (hri : ∀ r ∈ rs, r.fine) (hri' : ∀ r ∈ rs', r.fine) :
    Calls Try.prog 3 #[.agg #[.int .i64 kd, .int .i64 pt, .int .i64 fn, .int .i64 ar, .slice ip n ic], .slice p m c, .slice q l d] W fun e w' => e = .returned (.bool true) ∧ Below W.heap.size W w' := by
  obtain ⟨j0, hj0, hj1, hj2, hj3⟩ := info_parts Try.infoRcdJ
  obtain ⟨q0, hq0, hq1, hq2, hq3⟩ := info_parts Try.infoPut
  obtain ⟨V, hV⟩ : ∃ V, V = W.alloc (.cells #[.int .i64 kd, .int .i64 pt, .int .i64 fn, .int .i64 ar, .slice ip n ic] 24 (0, 0)) := ⟨_, rfl⟩
  have bV : Below W.heap.size W V := by rw [hV]; exact alloc_below _ _
  have u3 : V.heap[W.heap.size]? = some (.cells #[.int .i64 kd, .int .i64 pt, .int .i64 fn, .int .i64 ar, .slice ip n ic] 24 (0, 0)) := by rw [hV]; exact heap_alloc_new W _
  obtain ⟨sB, hsB⟩ : ∃ sB, W.heap.size = sB := ⟨_, rfl⟩
  rw [hsB] at u3
  have HBV := hide bV
  have HU3 := hide u3
  have HR := hide (h.below bV)
  have HR' := hide (h'.below bV)
  have HM := hide hm
  have HL := hide hl
  have HRI := hide hri
  have HRI' := hide hri'
  have HHA := hide ha
  have H0 := hide h0
  have H0' := hide h0'
  clear h0 h0' h h' bV u3 hm hl hri hri' ha
  go_enter Try.func3, Try.ntmps3
  go_upto_region 1 with fail
  rw [← hV]
  try rw [hsB]
  clear hV hsB
  go_wp2_with fail
  refine live_any.mono ?_
  rintro _ w1 ⟨rfl, b1⟩
  have HB1 := hide b1
  have HR1 := hide (HR.out.below b1)
  obtain ⟨f0, f1, f2, f3, f4⟩ := opBox (below_box b1 HU3.out)
  have HC1 := hide (all_first (kd := kd) (pt := pt) (fn := fn) (ar := ar) (ip := ip) (n := n) (ic := ic) HHA.out HR1.out HM.out (by omega) HRI.out)
  clear b1
  go_wp2_with fail
  refine HC1.out.mono ?_
  rintro _ w5 ⟨pk, ck, K, po, co, N5, ks, us, rfl, d1, k1, k2, k3, k4, o1, o2, b5⟩
  obtain ⟨Y1, hY1⟩ : ∃ Y, Y = w5.alloc (.cells #[.slice pk K ck, .int .i64 0] 29 (0, 0)) := ⟨_, rfl⟩
  have ab1 : Below w5.heap.size w5 Y1 := by rw [hY1]; exact alloc_below _ _
  have uy1 : Y1.heap[w5.heap.size]? = some (.cells #[.slice pk K ck, .int .i64 0] 29 (0, 0)) := by rw [hY1]; exact heap_alloc_new _ _
  obtain ⟨yb1, hyb1⟩ : ∃ yb, w5.heap.size = yb := ⟨_, rfl⟩
  rw [hyb1] at uy1
  have bb1 : Below w1.heap.size w1 Y1 := b5.trans (ab1.mono b5.size)
  have HBb : Hid (Below V.heap.size V Y1) := hide (HB1.out.trans (bb1.mono HB1.out.size))
  have HOO1 := hide (ownsRow_later o2 ab1)
  have HKK1 := hide (ownsRow_later o1 ab1)
  have HN5 : Hid (us.length = N5) := hide k2
  have HD1 := hide d1
  rw [HM.out] at k3
  have HC2 := hide (all_next (kd := kd) (pt := pt) (fn := fn) (ar := ar) (ip := ip) (n := n) (ic := ic) HHA.out (HR'.out.below HBb.out) HL.out (by omega) HRI'.out d1 (KRow.of_own k1 HKK1.out) k1 (by omega) k4)
  clear f0 f1 f2 f3 f4
  obtain ⟨f0, f1, f2, f3, f4⟩ := opBox (below_box HBb.out HU3.out)
  obtain ⟨g0, g1⟩ := stBox uy1
  clear d1 k1 k2 k3 k4 o1 o2 b5 ab1 uy1 bb1 HC1
  go_upto_region 4 with fail
  rw [← hY1]
  try rw [hyb1]
  clear hY1 hyb1
  go_wp2_with fail
  refine HC2.out.mono ?_
  rintro _ w7 ⟨pk2, ck2, K2, po2, co2, N7, ks2, us2, rfl, d2, k1, k2, o1, o2, b7⟩
  obtain ⟨Y2, hY2⟩ : ∃ Y, Y = w7.alloc (.cells #[.slice pk2 K2 ck2, .int .i64 0] 29 (0, 0)) := ⟨_, rfl⟩
  have ab2 : Below w7.heap.size w7 Y2 := by rw [hY2]; exact alloc_below _ _
  have uy2 : Y2.heap[w7.heap.size]? = some (.cells #[.slice pk2 K2 ck2, .int .i64 0] 29 (0, 0)) := by rw [hY2]; exact heap_alloc_new _ _
  obtain ⟨yb2, hyb2⟩ : ∃ yb, w7.heap.size = yb := ⟨_, rfl⟩
  rw [hyb2] at uy2
  have HUY2 := hide uy2
  have bb2 : Below Y1.heap.size Y1 Y2 := b7.trans (ab2.mono b7.size)
  have HBc : Hid (Below V.heap.size V Y2) := hide (HBb.out.trans (bb2.mono HBb.out.size))
  have HOO := hide (ownsRow_later HOO1.out bb2)
  have HQ2 := hide (ownsRow_later o2 ab2)
  have HP2 := hide (ownsRow_later o1 ab2)
  have HN7 : Hid (us2.length = N7) := hide k2
  have HK7 : Hid (ks2.length = K2) := hide k1
  have HD2 := hide d2
  have HRc := hide (HR.out.below HBc.out)
  have HRc' := hide (HR'.out.below HBc.out)
  have HFI : Hid (∀ r ∈ rs ++ rs', r.fine) := hide (fun r hr => (List.mem_append.1 hr).elim (HRI.out r) (HRI'.out r))
  clear f0 f1 f2 f3 f4 g0 g1
  obtain ⟨f0, f1, f2, f3, f4⟩ := opBox (below_box HBc.out HU3.out)
  have HU3c := hide (below_box HBc.out HU3.out)
  have HK1 : Hid (0 + m ≤ maxLen) := by show _ ≤ _; unfold maxLen; omega
  have HK2 : Hid ((0 + m) * 16 ≤ 140737488355328) := by show _ ≤ _; omega
  have HK3 : Hid (m + l ≤ maxLen) := by show _ ≤ _; unfold maxLen; omega
  have HK4 : Hid ((m + l) * 16 ≤ 140737488355328) := by show _ ≤ _; omega
  have HLB := hide hb
  clear d2 k1 k2 o1 o2 b7 ab2 uy2 bb2 HC2 HOO1 HKK1
  go_upto_region 5 with fail
  rw [← hY2]
  try rw [hyb2]
  clear hY2 hyb2
  go_cut [11, 12] from 29 to 38 (fun s11 s12 wd => ∃ (tb : Nat) (pk : Option Addr) (K ck : Nat) (po : Option Addr) (co N : Nat) (ks : List KS) (us : List PU), s11 = .pointer (some ⟨tb, 0, none⟩) ∧ s12 = .slice po N co ∧ Hid (wd.heap[tb]? = some (.cells #[.slice pk K ck, .int .i64 0] 29 (0, 0))) ∧ Hid (Did kd fn ar (rs ++ rs') ks us) ∧ Hid (ks.length = K) ∧ Hid (us.length = N) ∧ Hid (wd.ownsRow 0 43 3 (.slice pk K ck) K (ks.flatMap KS.cells)) ∧ Hid (wd.ownsRow 0 41 3 (.slice po N co) N (us.flatMap PU.cells)) ∧ Hid (Below Y2.heap.size Y2 wd))
  case first =>
    refine wp_region_held_drew (S := fun w' => w'.cell? ⟨sB, 0, none⟩ = some (.int .i64 kd) ∧ w'.cell? ⟨sB, 1, none⟩ = some (.int .i64 pt) ∧ w'.cell? ⟨sB, 2, none⟩ = some (.int .i64 fn) ∧ w'.cell? ⟨sB, 3, none⟩ = some (.int .i64 ar) ∧ w'.cell? ⟨sB, 4, none⟩ = some (.slice ip n ic)) (by kernel_rfl) ⟨f0, f1, f2, f3, f4⟩ (fun hHeld => ?_)
    refine wpAnyH_take (i := 0) (oi := _) (v := ?_) rfl (by kernel_rfl) (by kernel_rfl) (by kernel_rfl) (fun _ _ _ h => h) (Or.inl ⟨by rfl, ?_⟩) (by assumption) ?_
    rotate_left
    · intro w hSw
      (try dsimp only at hSw)
      go_simp
      all_goals with_reducible rfl
    simp only [Act.put, List.setIfInBounds_toArray] --TAKE 1
    refine wpAnyH_take (i := 1) (oi := _) (v := ?_) rfl (by kernel_rfl) (by kernel_rfl) (by kernel_rfl) (fun _ _ _ h => h) (Or.inl ⟨by rfl, ?_⟩) (by assumption) ?_
    rotate_left
    · intro w hSw
      (try dsimp only at hSw)
      go_simp
      all_goals with_reducible rfl
    simp only [Act.put] --TAKE 2
    refine wpAnyH_take (i := 2) (oi := _) (v := ?_) rfl (by kernel_rfl) (by kernel_rfl) (by kernel_rfl) (fun _ _ _ h => h) (Or.inl ⟨by rfl, ?_⟩) (by assumption) ?_
    rotate_left
    · intro w hSw
      (try dsimp only at hSw)
      go_simp
      all_goals with_reducible rfl
    simp only [Act.put] --TAKE 3
    refine wpAnyH_take (i := 4) (oi := _) (v := ?_) rfl (by kernel_rfl) (by kernel_rfl) (by kernel_rfl) (fun _ _ _ h => h) (Or.inl ⟨by rfl, ?_⟩) (by assumption) ?_
    rotate_left
    · intro w hSw
      (try dsimp only at hSw)
      go_simp
      all_goals with_reducible rfl
    simp only [Act.put] --TAKE 4
    have BD : Below Y2.heap.size Y2 Y2.drew := (Below.refl _ Y2).drew
    refine wpAnyH_ready (rs := [3, 10]) (by kernel_rfl) (by simp) ?_
    refine AllReadyH.cons (o := _) rfl (fun K hK => ?_) ?_
    · refine step_append_cells rfl (.const (.slice none 0 0)) (.tmp 32) 25 rfl Y2.heap.size 39 j0 (.agg #[.int .i64 0, .int .i64 0]) 2 16 Try.underlying25 hj0 hj1 hj2 hj3 rfl (by decide) (.slice none 0 0) 0 [] rfl (World.ownsRow_nil _ _ _ _) (.slice p m c) m (rs.flatMap RC.cells) (by first | rfl | simp [Act.eval, Act.put]) ((HRc.out.seg H0.out HM.out).below BD) HK1.out HK2.out BD.size ?_
      intro p1 c1 wa O g3
      replace BD := BD.grown g3 BD.size (by simp [Value.ownBlock])
      rw [Nat.zero_add, List.nil_append] at O
      simp only [Nat.zero_add]
      clear g3
      refine hK.out _ _ ⟨cell_later BD f0, cell_later BD f1, cell_later BD f2, cell_later BD f3, cell_later BD f4⟩ (fun hHeld => ?_)
      clear hK
      simp only [Act.put] --TAKE 5
      refine wpAnyH_ready (rs := [5, 10]) (by kernel_rfl) (by simp) ?_
      refine AllReadyH.cons (o := _) rfl (fun K hK => ?_) ?_
      · refine step_append_cells rfl (.tmp 33) (.tmp 34) 25 rfl Y2.heap.size 39 j0 (.agg #[.int .i64 0, .int .i64 0]) 2 16 Try.underlying25 hj0 hj1 hj2 hj3 rfl (by decide) (.slice p1 m c1) m (rs.flatMap RC.cells) (by first | rfl | simp [Act.eval, Act.put]) O (.slice q l d) l (rs'.flatMap RC.cells) (by first | rfl | simp [Act.eval, Act.put]) ((HRc'.out.seg H0'.out HL.out).below BD) HK3.out HK4.out BD.size ?_
        intro p2 c2 wb O' g4
        replace BD := BD.grown g4 BD.size (fun i e => own_block_base O e)
        clear g4 O
        have O := O'
        clear O'
        rw [← List.flatMap_append] at O
        refine hK.out _ _ ⟨cell_later BD f0, cell_later BD f1, cell_later BD f2, cell_later BD f3, cell_later BD f4⟩ (fun hHeld => ?_)
        clear hK
        simp only [Act.put] --TAKE 6
        refine wpAnyH_ready (rs := [6, 10]) (by kernel_rfl) (by simp) ?_
        refine AllReadyH.cons (o := _) rfl (fun K hK => ?_) ?_
        · refine step_calls rfl 5 #[.tmp 30, .tmp 31, .tmp 35] #[24, 29, 25] rfl #[.agg #[.int .i64 kd, .int .i64 pt, .int .i64 fn, .int .i64 ar, .slice ip n ic], .agg #[.slice none 0 0, .int .i64 0], .slice p2 (m + l) c2] (by simp [Act.eval]) enAll _ (all_first HHA.out (RRow.of_own (by rw [List.length_append, HM.out, HL.out]) O) (by rw [List.length_append, HM.out, HL.out]) HLB.out HFI.out) ?_
          rintro _ wx ⟨pk3, ck3, K3, po3, co3, N8, ks3, us3, rfl, d3, k1, k2, k3, k4, O1, O2, b8⟩
          clear k3 k4
          replace BD := BD.trans (b8.mono BD.size)
          clear b8 O
          refine ⟨_, rfl, ?_⟩
          refine hK.out _ _ ⟨cell_later BD f0, cell_later BD f1, cell_later BD f2, cell_later BD f3, cell_later BD f4⟩ (fun hHeld => ?_)
          clear hK
          simp only [Act.put] --TAKE 7
          refine wpAnyH_take (i := 7) (oi := _) (v := ?_) rfl (by kernel_rfl) (by kernel_rfl) (by kernel_rfl) (fun _ _ _ h => h) (Or.inl ⟨by rfl, ?_⟩) (by assumption) ?_
          rotate_left
          · intro w hSw
            (try dsimp only at hSw)
            go_simp
            all_goals with_reducible rfl
          simp only [Act.put] --TAKE 8
          refine wpAnyH_take (i := 8) (oi := _) (v := ?_) rfl (by kernel_rfl) (by kernel_rfl) (by kernel_rfl) (fun _ _ _ h => h) (Or.inl ⟨by rfl, ?_⟩) (by assumption) ?_
          rotate_left
          · intro w hSw
            (try dsimp only at hSw)
            go_simp
            all_goals with_reducible rfl
          simp only [Act.put] --TAKE 9
          refine wpAnyH_take (i := 9) (oi := _) (v := ?_) rfl (by kernel_rfl) (by kernel_rfl) (by kernel_rfl) (fun _ _ _ h => h) (Or.inl ⟨by rfl, ?_⟩) (by assumption) ?_
          rotate_left
          · intro w hSw
            (try dsimp only at hSw)
            go_simp
            all_goals with_reducible rfl
          simp only [Act.put] --TAKE 10
          refine wpAnyH_ready (rs := [10]) (by kernel_rfl) (by simp) ?_
          refine AllReadyH.cons (o := _) rfl (fun K hK => ?_) AllReadyH.nil
          go_simp
          have T : (wx.alloc (.cells #[.slice none 0 0, .int .i64 0] 29 (0, 0))).heap[wx.heap.size]? = some (.cells #[.slice none 0 0, .int .i64 0] 29 (0, 0)) := heap_alloc_new wx (.cells #[.slice none 0 0, .int .i64 0] 29 (0, 0))
          have GE : Y2.heap.size ≤ wx.heap.size := BD.size
          replace BD := BD.trans ((alloc_below wx (.cells #[.slice none 0 0, .int .i64 0] 29 (0, 0))).mono BD.size)
          replace O1 := ownsRow_later O1 (alloc_below wx (.cells #[.slice none 0 0, .int .i64 0] 29 (0, 0)))
          replace O2 := ownsRow_later O2 (alloc_below wx (.cells #[.slice none 0 0, .int .i64 0] 29 (0, 0)))
          refine hK.out _ _ ⟨cell_later BD f0, cell_later BD f1, cell_later BD f2, cell_later BD f3, cell_later BD f4⟩ (fun hHeld => ?_)
          clear hK
          obtain ⟨Y, hY⟩ : ∃ Y, Y = wx.alloc (.cells #[.slice none 0 0, .int .i64 0] 29 (0, 0)) := ⟨_, rfl⟩
          rw [← hY] at T BD O1 O2 ⊢
          clear hY
          obtain ⟨tb, htb⟩ : ∃ tb, wx.heap.size = tb := ⟨_, rfl⟩
          rw [htb] at T ⊢
          replace GE : Y2.heap.size ≤ tb := by rw [← htb]; exact GE
          clear htb
          obtain ⟨t0, z0, t1, z1⟩ := two_facts T (.slice pk3 K3 ck3)
          have HTT := hide (two_set T (.slice pk3 K3 ck3) (.int .i64 0))
          have BD3 := (BD.setCell (p := ⟨tb, 0, none⟩) GE (.slice pk3 K3 ck3)).setCell (p := ⟨tb, 1, none⟩) GE (.int .i64 0)
          have HON := hide ((Only.set (F := (· = tb)) Y tb 0 (.slice pk3 K3 ck3) rfl).trans (Only.set (F := (· = tb)) _ tb 1 (.int .i64 0) rfl))
          have HO1 := hide (ownsRow_only O1 HON.out (fun b hb e => by have e' : b = tb := e; subst e'; exact own_not_boxK O1 T (by decide) hb))
          have HO2 := hide (ownsRow_only O2 HON.out (fun b hb e => by have e' : b = tb := e; subst e'; exact own_not_boxK O2 T (by decide) hb))
          clear T GE BD O1 O2 HON
          refine wpAnyH_ready (rs := [11]) (by kernel_rfl) (by simp) ?_
          refine AllReadyH.cons (o := _) rfl (fun K hK => ?_) AllReadyH.nil
          go_simp
          refine hK.out _ _ ⟨cell_later BD3 f0, cell_later BD3 f1, cell_later BD3 f2, cell_later BD3 f3, cell_later BD3 f4⟩ (fun hHeld => ?_)
          clear hK
          refine wpAnyH_ready (rs := [12]) (by kernel_rfl) (by simp) ?_
          refine AllReadyH.cons (o := _) rfl (fun K hK => ?_) AllReadyH.nil
          go_simp
          refine hK.out _ _ ⟨cell_later BD3 f0, cell_later BD3 f1, cell_later BD3 f2, cell_later BD3 f3, cell_later BD3 f4⟩ (fun hHeld => ?_)
          clear hK
          refine wpAnyH_done (by kernel_rfl) ?_ _
          go_wp2_with fail
          go_meet
          case rel => exact ⟨tb, pk3, K3, ck3, po3, co3, N8, ks3, us3, rfl, rfl, HTT, hide d3, hide k1, hide k2, hide (ownsRow_base HO1.out (Nat.zero_le _)), hide (ownsRow_base HO2.out (Nat.zero_le _)), hide BD3⟩
        refine AllReadyH.cons (o := _) rfl (fun K hK => ?_) AllReadyH.nil
        go_simp
        have T : (wb.alloc (.cells #[.slice none 0 0, .int .i64 0] 29 (0, 0))).heap[wb.heap.size]? = some (.cells #[.slice none 0 0, .int .i64 0] 29 (0, 0)) := heap_alloc_new wb (.cells #[.slice none 0 0, .int .i64 0] 29 (0, 0))
        have GE : Y2.heap.size ≤ wb.heap.size := BD.size
        replace BD := BD.trans ((alloc_below wb (.cells #[.slice none 0 0, .int .i64 0] 29 (0, 0))).mono BD.size)
        replace O := ownsRow_later O (alloc_below wb (.cells #[.slice none 0 0, .int .i64 0] 29 (0, 0)))
        refine hK.out _ _ ⟨cell_later BD f0, cell_later BD f1, cell_later BD f2, cell_later BD f3, cell_later BD f4⟩ (fun hHeld => ?_)
        clear hK
        refine wpAnyH_ready (rs := [6]) (by kernel_rfl) (by simp) ?_
        refine AllReadyH.cons (o := _) rfl (fun K hK => ?_) AllReadyH.nil
        refine step_calls rfl 5 #[.tmp 30, .tmp 31, .tmp 35] #[24, 29, 25] rfl #[.agg #[.int .i64 kd, .int .i64 pt, .int .i64 fn, .int .i64 ar, .slice ip n ic], .agg #[.slice none 0 0, .int .i64 0], .slice p2 (m + l) c2] (by simp [Act.eval]) enAll _ (all_first HHA.out (RRow.of_own (by rw [List.length_append, HM.out, HL.out]) O) (by rw [List.length_append, HM.out, HL.out]) HLB.out HFI.out) ?_
        rintro _ wx ⟨pk3, ck3, K3, po3, co3, N8, ks3, us3, rfl, d3, k1, k2, k3, k4, O1, O2, b8⟩
        clear k3 k4
        replace T := below_box b8 T
        replace BD := BD.trans (b8.mono BD.size)
        clear b8 O
        refine ⟨_, rfl, ?_⟩
        refine hK.out _ _ ⟨cell_later BD f0, cell_later BD f1, cell_later BD f2, cell_later BD f3, cell_later BD f4⟩ (fun hHeld => ?_)
        clear hK
        simp only [Act.put, List.setIfInBounds_toArray] --TAKE 11
        refine wpAnyH_take (i := 7) (oi := _) (v := ?_) rfl (by kernel_rfl) (by kernel_rfl) (by kernel_rfl) (fun _ _ _ h => h) (Or.inl ⟨by rfl, ?_⟩) (by assumption) ?_
        rotate_left
        · intro w hSw
          (try dsimp only at hSw)
          go_simp
          all_goals with_reducible rfl
        simp only [Act.put] --TAKE 12
        refine wpAnyH_take (i := 8) (oi := _) (v := ?_) rfl (by kernel_rfl) (by kernel_rfl) (by kernel_rfl) (fun _ _ _ h => h) (Or.inl ⟨by rfl, ?_⟩) (by assumption) ?_
        rotate_left
        · intro w hSw
          (try dsimp only at hSw)
          go_simp
          all_goals with_reducible rfl
        simp only [Act.put] --TAKE 13
        refine wpAnyH_take (i := 9) (oi := _) (v := ?_) rfl (by kernel_rfl) (by kernel_rfl) (by kernel_rfl) (fun _ _ _ h => h) (Or.inl ⟨by rfl, ?_⟩) (by assumption) ?_
        rotate_left
        · intro w hSw
          (try dsimp only at hSw)
          go_simp
          all_goals with_reducible rfl
        simp only [Act.put] --TAKE 14
        obtain ⟨tb, htb⟩ : ∃ tb, wb.heap.size = tb := ⟨_, rfl⟩
        rw [htb] at T ⊢
        replace GE : Y2.heap.size ≤ tb := by rw [← htb]; exact GE
        clear htb
        obtain ⟨t0, z0, t1, z1⟩ := two_facts T (.slice pk3 K3 ck3)
        have HTT := hide (two_set T (.slice pk3 K3 ck3) (.int .i64 0))
        have BD3 := (BD.setCell (p := ⟨tb, 0, none⟩) GE (.slice pk3 K3 ck3)).setCell (p := ⟨tb, 1, none⟩) GE (.int .i64 0)
        have HON := hide ((Only.set (F := (· = tb)) wx tb 0 (.slice pk3 K3 ck3) rfl).trans (Only.set (F := (· = tb)) _ tb 1 (.int .i64 0) rfl))
        have HO1 := hide (ownsRow_only O1 HON.out (fun b hb e => by have e' : b = tb := e; subst e'; exact own_not_boxK O1 T (by decide) hb))
        have HO2 := hide (ownsRow_only O2 HON.out (fun b hb e => by have e' : b = tb := e; subst e'; exact own_not_boxK O2 T (by decide) hb))
        clear T GE BD O1 O2 HON
        refine wpAnyH_ready (rs := [11]) (by kernel_rfl) (by simp) ?_
        refine AllReadyH.cons (o := _) rfl (fun K hK => ?_) AllReadyH.nil
        go_simp
        refine hK.out _ _ ⟨cell_later BD3 f0, cell_later BD3 f1, cell_later BD3 f2, cell_later BD3 f3, cell_later BD3 f4⟩ (fun hHeld => ?_)
        clear hK
        refine wpAnyH_ready (rs := [12]) (by kernel_rfl) (by simp) ?_
        refine AllReadyH.cons (o := _) rfl (fun K hK => ?_) AllReadyH.nil
        go_simp
        refine hK.out _ _ ⟨cell_later BD3 f0, cell_later BD3 f1, cell_later BD3 f2, cell_later BD3 f3, cell_later BD3 f4⟩ (fun hHeld => ?_)
        clear hK
        refine wpAnyH_done (by kernel_rfl) ?_ _
        go_wp2_with fail
        go_meet
        case rel => exact ⟨tb, pk3, K3, ck3, po3, co3, N8, ks3, us3, rfl, rfl, HTT, hide d3, hide k1, hide k2, hide (ownsRow_base HO1.out (Nat.zero_le _)), hide (ownsRow_base HO2.out (Nat.zero_le _)), hide BD3⟩
      refine AllReadyH.cons (o := _) rfl (fun K hK => ?_) AllReadyH.nil
      go_simp
      have T : (wa.alloc (.cells #[.slice none 0 0, .int .i64 0] 29 (0, 0))).heap[wa.heap.size]? = some (.cells #[.slice none 0 0, .int .i64 0] 29 (0, 0)) := heap_alloc_new wa (.cells #[.slice none 0 0, .int .i64 0] 29 (0, 0))
      have GE : Y2.heap.size ≤ wa.heap.size := BD.size
      replace BD := BD.trans ((alloc_below wa (.cells #[.slice none 0 0, .int .i64 0] 29 (0, 0))).mono BD.size)
      replace O := ownsRow_later O (alloc_below wa (.cells #[.slice none 0 0, .int .i64 0] 29 (0, 0)))
      refine hK.out _ _ ⟨cell_later BD f0, cell_later BD f1, cell_later BD f2, cell_later BD f3, cell_later BD f4⟩ (fun hHeld => ?_)
      clear hK
      refine wpAnyH_ready (rs := [5]) (by kernel_rfl) (by simp) ?_
      refine AllReadyH.cons (o := _) rfl (fun K hK => ?_) AllReadyH.nil
      refine step_append_cells rfl (.tmp 33) (.tmp 34) 25 rfl Y2.heap.size 39 j0 (.agg #[.int .i64 0, .int .i64 0]) 2 16 Try.underlying25 hj0 hj1 hj2 hj3 rfl (by decide) (.slice p1 m c1) m (rs.flatMap RC.cells) (by first | rfl | simp [Act.eval, Act.put]) O (.slice q l d) l (rs'.flatMap RC.cells) (by first | rfl | simp [Act.eval, Act.put]) ((HRc'.out.seg H0'.out HL.out).below BD) HK3.out HK4.out BD.size ?_
      intro p2 c2 wb O' g4
      replace T := box_grown g4 T (fun e => own_not_boxJ O T e)
      replace BD := BD.grown g4 BD.size (fun i e => own_block_base O e)
      clear g4 O
      have O := O'
      clear O'
      rw [← List.flatMap_append] at O
      refine hK.out _ _ ⟨cell_later BD f0, cell_later BD f1, cell_later BD f2, cell_later BD f3, cell_later BD f4⟩ (fun hHeld => ?_)
      clear hK
      simp only [Act.put, List.setIfInBounds_toArray] --TAKE 15
      refine wpAnyH_ready (rs := [6]) (by kernel_rfl) (by simp) ?_
      refine AllReadyH.cons (o := _) rfl (fun K hK => ?_) AllReadyH.nil
      refine step_calls rfl 5 #[.tmp 30, .tmp 31, .tmp 35] #[24, 29, 25] rfl #[.agg #[.int .i64 kd, .int .i64 pt, .int .i64 fn, .int .i64 ar, .slice ip n ic], .agg #[.slice none 0 0, .int .i64 0], .slice p2 (m + l) c2] (by simp [Act.eval]) enAll _ (all_first HHA.out (RRow.of_own (by rw [List.length_append, HM.out, HL.out]) O) (by rw [List.length_append, HM.out, HL.out]) HLB.out HFI.out) ?_
      rintro _ wx ⟨pk3, ck3, K3, po3, co3, N8, ks3, us3, rfl, d3, k1, k2, k3, k4, O1, O2, b8⟩
      clear k3 k4
      replace T := below_box b8 T
      replace BD := BD.trans (b8.mono BD.size)
      clear b8 O
      refine ⟨_, rfl, ?_⟩
      refine hK.out _ _ ⟨cell_later BD f0, cell_later BD f1, cell_later BD f2, cell_later BD f3, cell_later BD f4⟩ (fun hHeld => ?_)
      clear hK
      simp only [Act.put] --TAKE 16
      refine wpAnyH_take (i := 7) (oi := _) (v := ?_) rfl (by kernel_rfl) (by kernel_rfl) (by kernel_rfl) (fun _ _ _ h => h) (Or.inl ⟨by rfl, ?_⟩) (by assumption) ?_
      rotate_left
      · intro w hSw
        (try dsimp only at hSw)
        go_simp
        all_goals with_reducible rfl
      simp only [Act.put] --TAKE 17
      refine wpAnyH_take (i := 8) (oi := _) (v := ?_) rfl (by kernel_rfl) (by kernel_rfl) (by kernel_rfl) (fun _ _ _ h => h) (Or.inl ⟨by rfl, ?_⟩) (by assumption) ?_
      rotate_left
      · intro w hSw
        (try dsimp only at hSw)
        go_simp
        all_goals with_reducible rfl
      simp only [Act.put] --TAKE 18
      refine wpAnyH_take (i := 9) (oi := _) (v := ?_) rfl (by kernel_rfl) (by kernel_rfl) (by kernel_rfl) (fun _ _ _ h => h) (Or.inl ⟨by rfl, ?_⟩) (by assumption) ?_
      rotate_left
      · intro w hSw
        (try dsimp only at hSw)
        go_simp
        all_goals with_reducible rfl
      simp only [Act.put] --TAKE 19
      obtain ⟨tb, htb⟩ : ∃ tb, wa.heap.size = tb := ⟨_, rfl⟩
      rw [htb] at T ⊢
      replace GE : Y2.heap.size ≤ tb := by rw [← htb]; exact GE
      clear htb
      obtain ⟨t0, z0, t1, z1⟩ := two_facts T (.slice pk3 K3 ck3)
      have HTT := hide (two_set T (.slice pk3 K3 ck3) (.int .i64 0))
      have BD3 := (BD.setCell (p := ⟨tb, 0, none⟩) GE (.slice pk3 K3 ck3)).setCell (p := ⟨tb, 1, none⟩) GE (.int .i64 0)
      have HON := hide ((Only.set (F := (· = tb)) wx tb 0 (.slice pk3 K3 ck3) rfl).trans (Only.set (F := (· = tb)) _ tb 1 (.int .i64 0) rfl))
      have HO1 := hide (ownsRow_only O1 HON.out (fun b hb e => by have e' : b = tb := e; subst e'; exact own_not_boxK O1 T (by decide) hb))
      have HO2 := hide (ownsRow_only O2 HON.out (fun b hb e => by have e' : b = tb := e; subst e'; exact own_not_boxK O2 T (by decide) hb))
      clear T GE BD O1 O2 HON
      refine wpAnyH_ready (rs := [11]) (by kernel_rfl) (by simp) ?_
      refine AllReadyH.cons (o := _) rfl (fun K hK => ?_) AllReadyH.nil
      go_simp
      refine hK.out _ _ ⟨cell_later BD3 f0, cell_later BD3 f1, cell_later BD3 f2, cell_later BD3 f3, cell_later BD3 f4⟩ (fun hHeld => ?_)
      clear hK
      refine wpAnyH_ready (rs := [12]) (by kernel_rfl) (by simp) ?_
      refine AllReadyH.cons (o := _) rfl (fun K hK => ?_) AllReadyH.nil
      go_simp
      refine hK.out _ _ ⟨cell_later BD3 f0, cell_later BD3 f1, cell_later BD3 f2, cell_later BD3 f3, cell_later BD3 f4⟩ (fun hHeld => ?_)
      clear hK
      refine wpAnyH_done (by kernel_rfl) ?_ _
      go_wp2_with fail
      go_meet
      case rel => exact ⟨tb, pk3, K3, ck3, po3, co3, N8, ks3, us3, rfl, rfl, HTT, hide d3, hide k1, hide k2, hide (ownsRow_base HO1.out (Nat.zero_le _)), hide (ownsRow_base HO2.out (Nat.zero_le _)), hide BD3⟩
    refine AllReadyH.cons (o := _) rfl (fun K hK => ?_) AllReadyH.nil
    go_simp
    have T : (Y2.drew.alloc (.cells #[.slice none 0 0, .int .i64 0] 29 (0, 0))).heap[Y2.heap.size]? = some (.cells #[.slice none 0 0, .int .i64 0] 29 (0, 0)) := heap_alloc_new Y2.drew (.cells #[.slice none 0 0, .int .i64 0] 29 (0, 0))
    have GE : Y2.heap.size ≤ Y2.heap.size := BD.size
    replace BD := BD.trans ((alloc_below Y2.drew (.cells #[.slice none 0 0, .int .i64 0] 29 (0, 0))).mono BD.size)
    refine hK.out _ _ ⟨cell_later BD f0, cell_later BD f1, cell_later BD f2, cell_later BD f3, cell_later BD f4⟩ (fun hHeld => ?_)
    clear hK
    refine wpAnyH_ready (rs := [3]) (by kernel_rfl) (by simp) ?_
    refine AllReadyH.cons (o := _) rfl (fun K hK => ?_) AllReadyH.nil
    refine step_append_cells rfl (.const (.slice none 0 0)) (.tmp 32) 25 rfl Y2.heap.size 39 j0 (.agg #[.int .i64 0, .int .i64 0]) 2 16 Try.underlying25 hj0 hj1 hj2 hj3 rfl (by decide) (.slice none 0 0) 0 [] rfl (World.ownsRow_nil _ _ _ _) (.slice p m c) m (rs.flatMap RC.cells) (by first | rfl | simp [Act.eval, Act.put]) ((HRc.out.seg H0.out HM.out).below BD) HK1.out HK2.out BD.size ?_
    intro p1 c1 wa O g3
    replace T := box_grown g3 T (by simp [Value.ownBlock])
    replace BD := BD.grown g3 BD.size (by simp [Value.ownBlock])
    rw [Nat.zero_add, List.nil_append] at O
    simp only [Nat.zero_add]
    clear g3
    refine hK.out _ _ ⟨cell_later BD f0, cell_later BD f1, cell_later BD f2, cell_later BD f3, cell_later BD f4⟩ (fun hHeld => ?_)
    clear hK
    simp only [Act.put, List.setIfInBounds_toArray] --TAKE 20
    refine wpAnyH_ready (rs := [5]) (by kernel_rfl) (by simp) ?_
    refine AllReadyH.cons (o := _) rfl (fun K hK => ?_) AllReadyH.nil
    refine step_append_cells rfl (.tmp 33) (.tmp 34) 25 rfl Y2.heap.size 39 j0 (.agg #[.int .i64 0, .int .i64 0]) 2 16 Try.underlying25 hj0 hj1 hj2 hj3 rfl (by decide) (.slice p1 m c1) m (rs.flatMap RC.cells) (by first | rfl | simp [Act.eval, Act.put]) O (.slice q l d) l (rs'.flatMap RC.cells) (by first | rfl | simp [Act.eval, Act.put]) ((HRc'.out.seg H0'.out HL.out).below BD) HK3.out HK4.out BD.size ?_
    intro p2 c2 wb O' g4
    replace T := box_grown g4 T (fun e => own_not_boxJ O T e)
    replace BD := BD.grown g4 BD.size (fun i e => own_block_base O e)
    clear g4 O
    have O := O'
    clear O'
    rw [← List.flatMap_append] at O
    refine hK.out _ _ ⟨cell_later BD f0, cell_later BD f1, cell_later BD f2, cell_later BD f3, cell_later BD f4⟩ (fun hHeld => ?_)
    clear hK
    simp only [Act.put] --TAKE 21
    refine wpAnyH_ready (rs := [6]) (by kernel_rfl) (by simp) ?_
    refine AllReadyH.cons (o := _) rfl (fun K hK => ?_) AllReadyH.nil
    refine step_calls rfl 5 #[.tmp 30, .tmp 31, .tmp 35] #[24, 29, 25] rfl #[.agg #[.int .i64 kd, .int .i64 pt, .int .i64 fn, .int .i64 ar, .slice ip n ic], .agg #[.slice none 0 0, .int .i64 0], .slice p2 (m + l) c2] (by simp [Act.eval]) enAll _ (all_first HHA.out (RRow.of_own (by rw [List.length_append, HM.out, HL.out]) O) (by rw [List.length_append, HM.out, HL.out]) HLB.out HFI.out) ?_
    rintro _ wx ⟨pk3, ck3, K3, po3, co3, N8, ks3, us3, rfl, d3, k1, k2, k3, k4, O1, O2, b8⟩
    clear k3 k4
    replace T := below_box b8 T
    replace BD := BD.trans (b8.mono BD.size)
    clear b8 O
    refine ⟨_, rfl, ?_⟩
    refine hK.out _ _ ⟨cell_later BD f0, cell_later BD f1, cell_later BD f2, cell_later BD f3, cell_later BD f4⟩ (fun hHeld => ?_)
    clear hK
    simp only [Act.put] --TAKE 22
    refine wpAnyH_take (i := 7) (oi := _) (v := ?_) rfl (by kernel_rfl) (by kernel_rfl) (by kernel_rfl) (fun _ _ _ h => h) (Or.inl ⟨by rfl, ?_⟩) (by assumption) ?_
    rotate_left
    · intro w hSw
      (try dsimp only at hSw)
      go_simp
      all_goals with_reducible rfl
    simp only [Act.put] --TAKE 23
    refine wpAnyH_take (i := 8) (oi := _) (v := ?_) rfl (by kernel_rfl) (by kernel_rfl) (by kernel_rfl) (fun _ _ _ h => h) (Or.inl ⟨by rfl, ?_⟩) (by assumption) ?_
    rotate_left
    · intro w hSw
      (try dsimp only at hSw)
      go_simp
      all_goals with_reducible rfl
    simp only [Act.put] --TAKE 24
    refine wpAnyH_take (i := 9) (oi := _) (v := ?_) rfl (by kernel_rfl) (by kernel_rfl) (by kernel_rfl) (fun _ _ _ h => h) (Or.inl ⟨by rfl, ?_⟩) (by assumption) ?_
    rotate_left
    · intro w hSw
      (try dsimp only at hSw)
      go_simp
      all_goals with_reducible rfl
    simp only [Act.put] --TAKE 25
    obtain ⟨tb, htb⟩ : ∃ tb, Y2.heap.size = tb := ⟨_, rfl⟩
    rw [htb] at T ⊢
    replace GE : Y2.heap.size ≤ tb := by rw [← htb]; exact GE
    clear htb
    obtain ⟨t0, z0, t1, z1⟩ := two_facts T (.slice pk3 K3 ck3)
    have HTT := hide (two_set T (.slice pk3 K3 ck3) (.int .i64 0))
    have BD3 := (BD.setCell (p := ⟨tb, 0, none⟩) GE (.slice pk3 K3 ck3)).setCell (p := ⟨tb, 1, none⟩) GE (.int .i64 0)
    have HON := hide ((Only.set (F := (· = tb)) wx tb 0 (.slice pk3 K3 ck3) rfl).trans (Only.set (F := (· = tb)) _ tb 1 (.int .i64 0) rfl))
    have HO1 := hide (ownsRow_only O1 HON.out (fun b hb e => by have e' : b = tb := e; subst e'; exact own_not_boxK O1 T (by decide) hb))
    have HO2 := hide (ownsRow_only O2 HON.out (fun b hb e => by have e' : b = tb := e; subst e'; exact own_not_boxK O2 T (by decide) hb))
    clear T GE BD O1 O2 HON
    refine wpAnyH_ready (rs := [11]) (by kernel_rfl) (by simp) ?_
    refine AllReadyH.cons (o := _) rfl (fun K hK => ?_) AllReadyH.nil
    go_simp
    refine hK.out _ _ ⟨cell_later BD3 f0, cell_later BD3 f1, cell_later BD3 f2, cell_later BD3 f3, cell_later BD3 f4⟩ (fun hHeld => ?_)
    clear hK
    refine wpAnyH_ready (rs := [12]) (by kernel_rfl) (by simp) ?_
    refine AllReadyH.cons (o := _) rfl (fun K hK => ?_) AllReadyH.nil
    go_simp
    refine hK.out _ _ ⟨cell_later BD3 f0, cell_later BD3 f1, cell_later BD3 f2, cell_later BD3 f3, cell_later BD3 f4⟩ (fun hHeld => ?_)
    clear hK
    refine wpAnyH_done (by kernel_rfl) ?_ _
    go_wp2_with fail
    go_meet
    case rel => exact ⟨tb, pk3, K3, ck3, po3, co3, N8, ks3, us3, rfl, rfl, HTT, hide d3, hide k1, hide k2, hide (ownsRow_base HO1.out (Nat.zero_le _)), hide (ownsRow_base HO2.out (Nat.zero_le _)), hide BD3⟩
  case rest =>
    obtain ⟨tb, pk3, K3, ck3, po3, co3, N8, ks3, us3, rfl, rfl, HT, HD3, HK8, HN8, HO8, HP8, HBD⟩ := hcut
    rename World => w9
    clear f0 f1 f2 f3 f4
    obtain ⟨e1, e2⟩ := HD2.out.one HD3.out
    subst e1
    obtain rfl : K3 = K2 := HK8.out.symm.trans HK7.out
    have hN8 : N5 + N7 = N8 := by rw [← HN5.out, ← HN7.out, ← HN8.out, ← e2, List.length_append]
    subst hN8
    have HP9 : Hid (w9.ownsRow 0 41 3 (.slice po3 (N5 + N7) co3) (N5 + N7) ((us ++ us2).flatMap PU.cells)) := by rw [e2]; exact HP8
    obtain ⟨g0, g1⟩ := stBox (below_box HBD.out HUY2.out)
    obtain ⟨h0, h1⟩ := stBox HT.out
    have hlen := HD2.out.len
    rw [List.length_append, List.length_append, HN5.out, HN7.out, HM.out, HL.out] at hlen
    have HL9 : Hid (N5 + N7 ≤ 1048576) := hide (by omega)
    have HSM := hide (same_any (tn := 0) (ownsRow_later HP2.out HBD.out) HO8.out HK8.out)
    clear e2 hlen HD2 HD3
    go_wp2_with fail
    refine HSM.out.mono ?_
    rintro _ w10 ⟨rfl, b10⟩
    have HBE := hide (HBD.out.trans (b10.mono HBD.out.size))
    have HOO9 := hide (puSeg (ownsRow_later HOO.out HBE.out) HN5.out)
    have HQ9 := hide (puSeg (ownsRow_later HQ2.out HBE.out) HN7.out)
    have HP10 := hide (ownsRow_later HP9.out b10)
    have HK5 : Hid (0 + N5 ≤ maxLen) := by show _ ≤ _; have := HL9.out; unfold maxLen; omega
    have HK6 : Hid ((0 + N5) * 24 ≤ 140737488355328) := by show _ ≤ _; have := HL9.out; omega
    have HKA : Hid (N5 + N7 ≤ maxLen) := by show _ ≤ _; have := HL9.out; unfold maxLen; omega
    have HKB : Hid ((N5 + N7) * 24 ≤ 140737488355328) := by show _ ≤ _; have := HL9.out; omega
    clear b10 g0 g1 h0 h1
    go_wp2_with (at_builtin; refine append_wanted _ (by first | rfl | decide | kernel_rfl) (.const (.slice none 0 0)) (.tmp 43) 30 rfl w10.heap.size 41 q0 (.agg #[.int .i64 0, .int .i64 0, .int .i64 0]) 3 24 Try.underlying30 hq0 hq1 hq2 hq3 rfl (by decide) (.slice none 0 0) 0 [] rfl (World.ownsRow_nil _ _ _ _) (.slice po N5 co) N5 _ rfl HOO9.out HK5.out HK6.out (Nat.le_refl _) ?_)
    intro p6 c6 w6 o6 g6
    have b6 : Below w10.heap.size w10 w6 := (Below.refl _ w10).grown g6 (Nat.le_refl _) (by simp [Value.ownBlock])
    have HO6 := hide o6
    have HB6 := hide b6
    have HQA := hide (HQ9.out.below b6)
    clear o6 g6 b6
    go_wp2_with (at_builtin; refine append_wanted _ (by first | rfl | decide | kernel_rfl) (.tmp 44) (.tmp 45) 30 rfl w10.heap.size 41 q0 (.agg #[.int .i64 0, .int .i64 0, .int .i64 0]) 3 24 Try.underlying30 hq0 hq1 hq2 hq3 rfl (by decide) (.slice p6 N5 c6) N5 _ rfl HO6.out (.slice po2 N7 co2) N7 _ rfl HQA.out HKA.out HKB.out HB6.out.size ?_)
    intro p7 c7 w7' o7 g7
    have b7 : Below w10.heap.size w10 w7' := HB6.out.grown g7 HB6.out.size (fun i e => own_block_base HO6.out e)
    rw [← List.flatMap_append] at o7
    have HSP := hide (samePuts_any o7 (ownsRow_later HP10.out b7) (by rw [List.length_append, HN5.out, HN7.out]))
    have HBF := hide (HBE.out.trans (b7.mono HBE.out.size))
    clear o7 g7 b7
    go_wp2_with fail
    refine HSP.out.mono ?_
    rintro _ w11 ⟨rfl, b11⟩
    have HBG : Hid (Below W.heap.size W w11) := hide (HBV.out.trans ((HBc.out.trans ((HBF.out.trans (b11.mono HBF.out.size)).mono HBc.out.size)).mono HBV.out.size))
    clear b11
    go_wp2
    go_ret
    exact ⟨rfl, HBG.out⟩
end Go.Proofs.Ytcabfohmimglpaa
