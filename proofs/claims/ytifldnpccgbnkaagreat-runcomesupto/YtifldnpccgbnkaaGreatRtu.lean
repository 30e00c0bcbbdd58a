/-
  The program's Turns. The conditions: lengths.
-/
import Derived.Test.YtifldnpccgbnkaaGreatRit
import Derived.Laws.OwnMore
import Derived.Maps.OwnIn
namespace Go.Proofs.YtifldnpccgbnkaaGreat
open Go.RowKit Go.Shelf
attribute [local go_sem] Oper.semAt_some

def aggR : Value → Array Value
  | .agg a => a
  | _ => #[]
theorem put_onlyR {W1 : World} {l : Nat} {o' : Obj} : Only (· = l) W1 (W1.putObj l o') := Only.of_grown (F := (· = l)) (grownBy_putObj' W1 l o') (fun k e => by simpa using e.symm)
theorem row_putR {W1 : World} {l base n k : Nat} {e : TypeId} {v : Value} {xs : List Value} {o o' : Obj} (h : W1.ownsRow base e k v n xs) (ho : W1.heap[l]? = some o) (hc : o.isCells = false) : (W1.putObj l o').ownsRow base e k v n xs :=
  ownsRow_only h put_onlyR (fun b hb e => by
    have e' : b = l := e
    obtain ⟨_, cur, h3⟩ := own_block_lt h hb
    rw [e', ho] at h3
    simp only [Option.some.injEq] at h3
    rw [h3] at hc
    cases hc)
theorem keeps_only {F : Nat → Prop} {B : Nat} {X Y : World} (ho : Only F X Y) (hF : ∀ i, F i → ∃ cs t, X.heap[i]? = some (.cells cs t (0, 0))) : KeepsFrom B X Y :=
  ⟨ho.size, fun k o _ hk hc => ho.obj hk (fun e => by
    obtain ⟨cs, t, h⟩ := hF k e
    rw [h] at hk
    simp only [Option.some.injEq] at hk
    rw [← hk] at hc
    cases hc)⟩
theorem made_intsR : ∀ n, (madeCells (Value.int .i64 0).cells (n * 1)).toList = (List.replicate n (0 : Int)).map (Value.int .i64) := by
  intro n
  rw [Nat.mul_one, List.map_replicate]
  apply List.ext_getElem
  · simp [size_madeCells]
  · intro i h1 h2
    simp [madeCells, Value.cells, Nat.mod_one]
theorem Tryz.infoIntR : (Tryz.prog.info? 3).map (fun i => (i.zero, i.size, i.bytes)) = some (some (.int .i64 0), 1, 8) := by kernel_rfl
def countsC (n t j : Nat) : List Int := (List.range n).map fun i => ((countC n t j i : Nat) : Int)
theorem countsC_zero (n t : Nat) : countsC n t 0 = List.replicate n 0 := by
  unfold countsC
  apply List.ext_getElem
  · simp
  · intro i h1 h2
    simp [count_zero]
theorem countsC_len (n t j : Nat) : (countsC n t j).length = n := by simp [countsC]
theorem countsC_at {n t j i : Nat} (hi : i < n) : (countsC n t j).getD i 0 = ((countC n t j i : Nat) : Int) := by
  simp [countsC, List.getD_eq_getElem?_getD, List.getElem?_map, List.getElem?_range hi]
theorem countsC_next {n t j : Nat} (ht : t < n) : (countsC n t j).set (whoC n t j) ((countC n t j (whoC n t j) : Nat) + 1 : Int) = countsC n t (j + 1) := by
  apply List.ext_getElem
  · simp [countsC]
  · intro i h1 h2
    have hi : i < n := by simpa [countsC] using h2
    rw [List.getElem_set]
    simp only [countsC, List.getElem_map, List.getElem_range]
    rw [count_next ht hi]
    by_cases e : whoC n t j = i
    · rw [if_pos e, if_pos e.symm, e]; omega
    · rw [if_neg e, if_neg (fun h => e h.symm)]; omega
theorem own_int_at {W : World} {base g n c i : Nat} {e : TypeId} {l : List Int} (h : W.ownsRow base e 1 (.slice (some ⟨g, 0, none⟩) n c) n (l.map (Value.int .i64))) (hl : l.length = n) (hi : i < n) : W.cell? ⟨g, i, none⟩ = some (.int .i64 (l.getD i 0)) := by
  obtain ⟨p', c', e1, h1, h2, h3, h4⟩ := own_row h
  simp only [Value.slice.injEq] at e1
  obtain ⟨rfl, rfl, rfl⟩ := e1
  obtain ⟨b, o, e2, hc⟩ := h4 (by omega)
  simp only [Option.some.injEq, Addr.mk.injEq, and_true] at e2
  obtain ⟨rfl, rfl⟩ := e2
  have := hc i hi
  rw [Nat.zero_add] at this
  exact this
/-- What the loop keeps. -/
def TuI (V : World) (sB cB : Nat) (ls : List (List RC)) (n t j : Nat) (X : World) : Prop :=
  ∃ p c, Boxed X sB 3 (.int .i64 ((whoC n t j : Nat) : Int)) ∧ Boxed X (sB + 2) 26 (.slice p j c) ∧ Boxed X cB 88 (.slice (some ⟨sB + 3, 0, none⟩) n n) ∧
    X.ownsRow V.heap.size 71 2 (.slice p j c) j ((takenC ls t j).flatMap RC.cells) ∧ X.ownsRow sB 3 1 (.slice (some ⟨sB + 3, 0, none⟩) n n) n ((countsC n t j).map (Value.int .i64)) ∧ Only (fun i => i = sB ∨ i = sB + 2 ∨ i = sB + 3) V X
theorem TuI.grow {V X Y : World} {sB cB n t j : Nat} {ls : List (List RC)} (h : TuI V sB cB ls n t j X) (hb : Below X.heap.size X Y) : TuI V sB cB ls n t j Y := by
  obtain ⟨p, c, h1, h2, h3, h4, h5, h6⟩ := h
  exact ⟨p, c, below_box hb h1, below_box hb h2, below_box hb h3, ownsRow_later h4 hb, ownsRow_later h5 hb, h6.trans (Only.fresh hb _)⟩
theorem TuI.put {V X : World} {sB cB n t j l : Nat} {ls : List (List RC)} {o o' : Obj} (h : TuI V sB cB ls n t j X) (hs : sB + 4 ≤ cB) (hs2 : cB < V.heap.size) (hl : V.heap.size ≤ l) (ho : X.heap[l]? = some o) (hc : o.isCells = false) : TuI V sB cB ls n t j (X.putObj l o') := by
  obtain ⟨p, c, h1, h2, h3, h4, h5, h6⟩ := h
  exact ⟨p, c, put_onlyR.obj h1 (fun e => by have e' : sB = l := e; omega), put_onlyR.obj h2 (fun e => by have e' : sB + 2 = l := e; omega), put_onlyR.obj h3 (fun e => by have e' : cB = l := e; omega), row_putR h4 ho hc, row_putR h5 ho hc, h6.step put_onlyR (fun i e => .inr (by have e' : i = l := e; omega))⟩

set_option maxRecDepth 100000 in
set_option maxHeartbeats 8000000 in
theorem turns_in (q : Nat) (hq : 5 ≤ q) {W : World} {p : Option Addr} {cap n t N : Nat} {xs : List SV} (hx : LL W p cap xs) (hn : xs.length = n) (ht : t < n) (hN : Stop (xs.map SV.rs) t N) (hb : n ≤ 1048576) (hNb : N * 16 ≤ 140737488355328) :
    CallsIn Fence.wide q Tryz.prog 40 #[.int .i64 (t : Int), .slice p n cap] W fun e w' => ∃ p1 c1 g2, e = .returned (.tuple #[.slice p1 N c1, .int .i64 ((whoC n t N : Nat) : Int), .slice (some ⟨g2, 0, none⟩) n n]) ∧ w'.ownsRow W.heap.size 71 2 (.slice p1 N c1) N ((takenC (xs.map SV.rs) t N).flatMap RC.cells) ∧ w'.ownsRow W.heap.size 3 1 (.slice (some ⟨g2, 0, none⟩) n n) n ((countsC n t N).map (Value.int .i64)) ∧ Below W.heap.size W w' := by
  obtain ⟨i0, hI0, hz0, hz1, hz2⟩ := info_parts Tryz.infoRec
  obtain ⟨k0, hK0, hy0, hy1, hy2⟩ := info_parts Tryz.infoIntR
  obtain ⟨sB, hsB⟩ : ∃ sB, W.heap.size = sB := ⟨_, rfl⟩
  obtain ⟨V3, hV3⟩ : ∃ V3, V3 = ((W.alloc (.cells #[.int .i64 (t : Int)] 3 (0, 0))).alloc (.cells #[.slice p n cap] 25 (0, 0))).alloc (.cells #[.slice none 0 0] 26 (0, 0)) := ⟨_, rfl⟩
  have b1 := alloc_below W (.cells #[.int .i64 (t : Int)] 3 (0, 0))
  have b2 := alloc_below (W.alloc (.cells #[.int .i64 (t : Int)] 3 (0, 0))) (.cells #[.slice p n cap] 25 (0, 0))
  have b3 := alloc_below ((W.alloc (.cells #[.int .i64 (t : Int)] 3 (0, 0))).alloc (.cells #[.slice p n cap] 25 (0, 0))) (.cells #[.slice none 0 0] 26 (0, 0))
  have hbV : Below W.heap.size W V3 := by rw [hV3]; exact b1.trans ((b2.mono b1.size).trans (b3.mono (Nat.le_trans b1.size b2.size)))
  have x0 : Boxed V3 sB 3 (.int .i64 (t : Int)) := by rw [hV3, ← hsB]; exact below_box b3 (below_box b2 (heap_alloc_new W _))
  have x1 : Boxed V3 (sB + 1) 25 (.slice p n cap) := by
    have e : sB + 1 = (W.alloc (.cells #[.int .i64 (t : Int)] 3 (0, 0))).heap.size := by rw [← hsB]; simp
    rw [hV3, e]
    exact below_box b3 (heap_alloc_new _ _)
  have x2 : Boxed V3 (sB + 2) 26 (.slice none 0 0) := by
    have e : sB + 2 = ((W.alloc (.cells #[.int .i64 (t : Int)] 3 (0, 0))).alloc (.cells #[.slice p n cap] 25 (0, 0))).heap.size := by rw [← hsB]; simp
    rw [hV3, e]
    exact heap_alloc_new _ _
  have hs3 : V3.heap.size = sB + 3 := by rw [hV3, ← hsB]; simp
  obtain ⟨w1, hrun, hown, hgr⟩ := run_make_full V3 sB 88 3 k0 (.int .i64 0) 1 Tryz.underlying88 hK0 hy0 hy1 .i64 .i64 n (by rw [hy2]; omega) (by unfold maxLen; omega) (by omega)
  rw [made_intsR, hs3, ← countsC_zero n t] at hown
  rw [hs3, hV3, ← hsB] at hrun
  have hb1 : Below V3.heap.size V3 w1 := (Below.refl _ V3).grown hgr (Nat.le_refl _) (fun k hk => by simp at hk)
  have i3 := hx.row.le
  have i4 := hx.row.top
  rw [hn] at i3
  have HX := hide hx
  have HN := hide hN
  have HNN := hide hn
  clear hx hN hn b1 b2 b3
  refine callsIn_of_wp_marks Tryz.func40 rfl trivial ?_ rfl
  simp only [Tryz.ntmps40, List.size_toArray, List.length_cons, List.length_nil, Nat.reduceAdd, Nat.reduceSub, Array.replicate_succ, Array.replicate_zero, List.push_toArray, List.append_toArray, List.nil_append, List.cons_append]
  obtain ⟨w2, hw2⟩ : ∃ w2, w2 = w1.alloc (.cells #[.slice (some ⟨sB + 3, 0, none⟩) n n] 88 (0, 0)) := ⟨_, rfl⟩
  have hb2 : Below w1.heap.size w1 w2 := by rw [hw2]; exact alloc_below _ _
  have y0 := below_box hb2 (below_box hb1 x0)
  have y1 := below_box hb2 (below_box hb1 x1)
  have y2 := below_box hb2 (below_box hb1 x2)
  have y3 : w2.heap[w1.heap.size]? = some (.cells #[.slice (some ⟨sB + 3, 0, none⟩) n n] 88 (0, 0)) := by rw [hw2]; exact heap_alloc_new _ _
  have ho2 := ownsRow_later hown hb2
  have hs1 : sB + 4 ≤ w1.heap.size := (own_block_lt hown (b := sB + 3) rfl).1
  have hs2 : w2.heap.size = w1.heap.size + 1 := by rw [hw2]; simp
  have hbW2 : Below W.heap.size W w2 := hbV.trans ((hb1.mono hbV.size).trans (hb2.mono (Nat.le_trans hbV.size hb1.size)))
  have c0 : (w1.alloc (.cells #[.slice (some ⟨sB + 3, 0, none⟩) n n] 88 (0, 0))).cell? ⟨sB, 0, none⟩ = some (.int .i64 (t : Int)) := by rw [← hw2]; exact Boxed.cell y0
  have c1 : (w1.alloc (.cells #[.slice (some ⟨sB + 3, 0, none⟩) n n] 88 (0, 0))).cell? ⟨sB + 1, 0, none⟩ = some (.slice p n cap) := by rw [← hw2]; exact Boxed.cell y1
  obtain ⟨cB, hcB⟩ : ∃ cB, w1.heap.size = cB := ⟨_, rfl⟩
  rw [hcB] at y3 hs1 hs2
  have HY0 := hide y0
  have HY1 := hide y1
  have HY2 := hide y2
  have HY3 := hide y3
  have HO2 := hide ho2
  have HBW := hide hbW2
  have HS1 := hide hs1
  have HS2 := hide hs2
  have HSB := hide hsB
  have HCB := hide hcB
  clear y0 y1 y2 y3 ho2 hbW2 hs1 hs2 x0 x1 x2 hown hgr hb1 hb2 hs3 hbV
  gi_wp2_with fail
  rw [← hw2]
  clear hrun c0 c1 hw2 hV3
  refine ⟨trivial, fun _ => by omega, (callsIn_wide.2 inTurn_any).mono ?_⟩
  rintro _ w3 ⟨rfl, hw3⟩
  obtain ⟨vB, hvB⟩ : ∃ vB, w2.heap.size = vB := ⟨_, rfl⟩
  rw [hvB]
  have b4 := alloc_below w2 (.cells #[.int .i64 (t : Int)] 3 (0, 0))
  have b5 := alloc_below (w2.alloc (.cells #[.int .i64 (t : Int)] 3 (0, 0))) (.cells #[.slice p n cap] 25 (0, 0))
  have hb3 : Below w2.heap.size w2 w3 := by rw [hw3]; exact b4.trans (b5.mono b4.size)
  have z0 : Boxed w3 vB 3 (.int .i64 (t : Int)) := by rw [hw3, ← hvB]; exact below_box b5 (heap_alloc_new w2 _)
  have z1 : Boxed w3 (vB + 1) 25 (.slice p n cap) := by
    have e : vB + 1 = (w2.alloc (.cells #[.int .i64 (t : Int)] 3 (0, 0))).heap.size := by rw [← hvB]; simp
    rw [hw3, e]
    exact heap_alloc_new _ _
  have hs3 : vB + 2 ≤ w3.heap.size := by rw [hw3, ← hvB]; simp
  have hvc : cB < vB := by rw [← hvB, HS2.out]; omega
  have HZL := hide (below_box hb3 HY1.out)
  have HBW3 : Hid (Below W.heap.size W w3) := hide (HBW.out.trans (hb3.mono HBW.out.size))
  have HZ0 := hide z0
  have HZ1 := hide z1
  have HST : Hid (TuI w3 sB cB (xs.map SV.rs) n t 0 w3) := hide ⟨none, 0, by rw [who_zero ht]; exact below_box hb3 HY0.out, below_box hb3 HY2.out, below_box hb3 HY3.out, World.ownsRow_nil _ _ _ _, ownsRow_later HO2.out hb3, Only.refl _ _⟩
  have hs1 := HS1.out
  have hNb2 : N ≤ 4611686018427387904 := by omega
  have ht2 : t < xs.length := by rw [HNN.out]; exact ht
  have htell := fun m hm => inTurn_tells m hm (tB := vB) (lB := vB + 1) (p := p) (cap := cap) ht2 HN.out hNb2
  have HTE := hide htell
  have hml : (xs.map SV.rs).length = n := by rw [List.length_map]; exact HNN.out
  have HML := hide hml
  have HTL := hide (tellT_len (xs.map SV.rs) t N)
  have HTG : Hid (∀ k, k < N → (tellT (xs.map SV.rs) t N).getD k #[] = #[.int .i64 ((whoC n t k : Nat) : Int), rV (recAt (xs.map SV.rs) t k)]) := hide (fun k hk => by rw [tellT_get hk, HML.out])
  clear z0 z1 hw3 b4 b5 hb3 hvB htell ht2 hml HY0 HY1 HY2 HY3 HO2
  gi_wp2_with fail
  refine range_list2 (by omega) (HTE.out (q - 1) (by omega)) rfl enInTurn ?size (TuI w3 sB cB (xs.map SV.rs) n t) (fun _ _ _ => False) ?grows ?puts (fun _ _ _ _ _ _ h => h.elim) ?reads HST.out
    (fun x X => { tmps := #[.int .i64 (t : Int), .slice p n cap, .pointer (some ⟨sB, 0, none⟩), .pointer (some ⟨sB + 1, 0, none⟩), .slice none 0 0, .int .i64 0, .slice none 0 0, .pointer (some ⟨sB + 1 + 1, 0, none⟩), .pointer (some ⟨cB, 0, none⟩), x.getD 0 undef, .pointer (some ⟨X.heap.size, 0, none⟩), .slice p n cap, .int .i64 (n : Int), .slice (some ⟨sB + 3, 0, none⟩) n n, .int .i64 (t : Int), .slice p n cap, .func (.func 73) #[] #[.pointer (some ⟨vB, 0, none⟩), .pointer (some ⟨vB + 1, 0, none⟩)], x.getD 0 undef, x.getD 1 undef, undef, undef, undef, undef, undef, undef, undef, undef, undef, undef, undef, undef, undef, undef, undef, undef, undef, undef], defers := [] }) (fun x X => X.alloc (.cells (aggR (x.getD 1 undef)) 71 (0, 0))) (fun k X => alloc_below X _) ?assign ?body ?done (fun _ _ _ _ _ _ h => h.elim)
  case size =>
    intro k hk
    rw [HTL.out] at hk
    rw [HTG.out k hk]
    rfl
  case grows =>
    exact fun k X Y h hb => h.grow hb
  case puts =>
    exact fun k X l o o' h hl ho hc => h.put hs1 (by omega) (by omega) ho hc
  case reads =>
    intro k X h
    have hb9 : Below W.heap.size W X := by
      obtain ⟨_, _, _, _, _, _, _, h6⟩ := h
      exact HBW3.out.trans (h6.below HBW3.out.size (fun i e => by have := HSB.out; rcases e with e | e | e <;> omega))
    obtain ⟨_, _, _, _, _, _, _, h6⟩ := h
    have u0 : Boxed X vB 3 (.int .i64 (t : Int)) := h6.obj HZ0.out (fun e => by rcases e with e | e | e <;> omega)
    have u1 : Boxed X (vB + 1) 25 (.slice p n cap) := h6.obj HZ1.out (fun e => by rcases e with e | e | e <;> omega)
    exact ⟨u0.cell, by rw [HNN.out]; exact u1.cell, HX.out.later hb9⟩
  case assign =>
    intro l k X K hk hK
    rw [HTL.out] at hk
    rw [HTG.out k hk] at hK ⊢
    obtain ⟨r, hr⟩ : ∃ r, recAt (xs.map SV.rs) t k = r := ⟨_, rfl⟩
    rw [hr] at hK ⊢
    unfold rV at hK ⊢
    clear hr
    simp only [aggR, Array.getD_eq_getD_getElem?, List.getElem?_toArray, List.getElem?_cons_zero, List.getElem?_cons_succ, Option.getD_some] at hK
    gi_wp2
    exact hK
  case body =>
    rintro l k Z X ⟨p1, c1, h1, h2, h3, h4, h5, h6⟩ hk hsz hoX hlZ hwl
    rw [HTL.out] at hk
    rw [HTG.out k hk] at hoX ⊢
    obtain ⟨r, hr⟩ : ∃ r, recAt (xs.map SV.rs) t k = r := ⟨_, rfl⟩
    have HTN : Hid (takenC (xs.map SV.rs) t (k + 1) = takenC (xs.map SV.rs) t k ++ [r]) := hide (by rw [taken_next, hr])
    rw [hr] at hoX ⊢
    obtain ⟨ky, vl⟩ := r
    unfold rV at hoX ⊢
    obtain ⟨i, hi⟩ : ∃ i, whoC n t k = i := ⟨_, rfl⟩
    have hin : i < n := by rw [← hi]; exact who_lt ht
    have HWN : Hid (whoC n t (k + 1) = (i + 1) % n) := hide (by rw [who_next, hi])
    obtain ⟨ct, hct⟩ : ∃ ct, countC n t k i = ct := ⟨_, rfl⟩
    have hctk : ct ≤ k := by
      have := count_who (N := k) ht
      rw [hi, hct] at this
      rw [this]
      exact Nat.div_le_self _ _
    have HCN : Hid ((countsC n t k).set i ((ct : Int) + 1) = countsC n t (k + 1)) := by
      have := countsC_next (j := k) ht
      rw [hi, hct] at this
      exact hide this
    have HCT := hide hct
    rw [hi] at hoX h1 ⊢
    simp only [aggR, Array.getD_eq_getD_getElem?, List.getElem?_toArray, List.getElem?_cons_zero, List.getElem?_cons_succ, Option.getD_some] at hoX ⊢
    have hpb : X.heap[Z.heap.size]? = some (.cells #[.int .i64 ky, .int .i64 vl] 71 (0, 0)) := hoX.obj (heap_alloc_new Z _) (fun e => by have e' : Z.heap.size = l := e; omega)
    have d0 : X.cell? ⟨Z.heap.size, 0, none⟩ = some (.int .i64 ky) := by simp [World.cell?, hpb]
    have d1 : X.cell? ⟨Z.heap.size, 1, none⟩ = some (.int .i64 vl) := by simp [World.cell?, hpb]
    have hXs : w3.heap.size ≤ X.heap.size := by have := hoX.size; simp at this; omega
    have co : X.cell? ⟨sB + 1 + 1, 0, none⟩ = some (.slice p1 k c1) := h2.cell
    have HRW := hide (ownsRow_later h4 (alloc_below X (.cells #[.int .i64 ky, .int .i64 vl] 71 (0, 0))))
    have HK1 : Hid (k + 1 ≤ maxLen) := by show _ ≤ _; unfold maxLen; omega
    have HK2 : Hid ((k + 1) * 16 ≤ 140737488355328) := by show _ ≤ _; omega
    have HBB : Hid (w3.heap.size ≤ (X.alloc (.cells #[.int .i64 ky, .int .i64 vl] 71 (0, 0))).heap.size) := hide (by simp; omega)
    obtain ⟨_, _, ef, ec1, ec2⟩ := own_form h4
    simp only [Value.slice.injEq, true_and] at ef
    obtain ⟨rfl, rfl⟩ := ef
    have hk9 : k ≤ 8796093022208 := by omega
    have H1 := hide h1
    have H2 := hide h2
    have H3 := hide h3
    have H4 := hide h4
    have H5 := hide h5
    have H6 := hide h6
    have HZ9 : Hid (Boxed X (sB + 1) 25 (.slice p n cap)) := by
      exact hide (h6.obj HZL.out (fun e => by rcases e with e | e | e <;> omega))
    clear h1 h2 h3 h4 h5 h6 hoX hpb hr hi hct hk hwl hlZ
    gi_wp2_with (gi_at_builtin; refine wpListIn_append_own_at _ rfl (.tmp 19) (.tmp 21) 26 rfl w3.heap.size 71 i0 (.agg #[.int .i64 0, .int .i64 0]) 2 16 Tryz.underlying26 hI0 hz0 hz1 hz2 rfl (by decide) (.slice p1 k c1) k _ rfl HRW.out ⟨X.heap.size, 0, none⟩ 1 1 [.int .i64 ky, .int .i64 vl] rfl rfl (World.news_of_block (heap_alloc_new X _)) (by simp [Value.oneCell']) HK1.out HK2.out HBB.out ?_)
    intro v4 w4 hown hgrow _ hwhere
    obtain ⟨p4, c4, rfl, _, _⟩ := own_form hown
    have hoW : Only (fun i => (Value.slice p1 k c1).ownBlock = some i) X w4 := (Only.alloc _ _ _).trans (Only.of_grown hgrow (fun k e => e))
    have hnoB : ∀ i, (Value.slice p1 k c1).ownBlock = some i → w3.heap.size ≤ i := fun i e => own_block_base H4.out e
    have n0 : ∀ b, b < w3.heap.size → ¬ (Value.slice p1 k c1).ownBlock = some b := fun b hb e => by have := hnoB _ e; omega
    have bx0 : Boxed w4 sB 3 (.int .i64 (i : Int)) := hoW.obj H1.out (n0 _ (by omega))
    have bx1 : Boxed w4 (sB + 1) 25 (.slice p n cap) := hoW.obj HZ9.out (n0 _ (by omega))
    have bx2 : Boxed w4 (sB + 2) 26 (.slice p1 k c1) := hoW.obj H2.out (n0 _ (by omega))
    have bx4 : Boxed w4 cB 88 (.slice (some ⟨sB + 3, 0, none⟩) n n) := hoW.obj H3.out (n0 _ (by omega))
    have hrc : w4.ownsRow sB 3 1 (.slice (some ⟨sB + 3, 0, none⟩) n n) n ((countsC n t k).map (Value.int .i64)) := ownsRow_only H5.out hoW (fun b hb e => by
      have hb' : b = sB + 3 := by simpa [Value.ownBlock] using hb.symm
      exact n0 b (by omega) e)
    have f4 : w4.frozen? ⟨sB + 1 + 1, 0, none⟩ = false := bx2.frozen
    have g4 : w4.cell? ⟨sB + 1 + 1, 0, none⟩ = some (.slice p1 k c1) := bx2.cell
    obtain ⟨w5, hw5⟩ : ∃ w5, w5 = w4.setCell ⟨sB + 1 + 1, 0, none⟩ (.slice p4 (k + 1) c4) := ⟨_, rfl⟩
    have ho5 : Only (fun i => i = sB + 2) w4 w5 := by rw [hw5]; exact Only.set (F := fun i => i = sB + 2) w4 (sB + 2) 0 _ rfl
    have bx5 : Boxed w5 (sB + 2) 26 (.slice p4 (k + 1) c4) := by rw [hw5]; exact bx2.set _
    have bx50 : Boxed w5 sB 3 (.int .i64 (i : Int)) := ho5.obj bx0 (fun e => by have e' : sB = sB + 2 := e; omega)
    have bx51 : Boxed w5 (sB + 1) 25 (.slice p n cap) := ho5.obj bx1 (fun e => by have e' : sB + 1 = sB + 2 := e; omega)
    have bx54 : Boxed w5 cB 88 (.slice (some ⟨sB + 3, 0, none⟩) n n) := ho5.obj bx4 (fun e => by have e' : cB = sB + 2 := e; omega)
    have hrc5 : w5.ownsRow sB 3 1 (.slice (some ⟨sB + 3, 0, none⟩) n n) n ((countsC n t k).map (Value.int .i64)) := ownsRow_only hrc ho5 (fun b hb e => by
      have hb' : b = sB + 3 := by simpa [Value.ownBlock] using hb.symm
      have e' : b = sB + 2 := e
      omega)
    have htk5 : w5.ownsRow w3.heap.size 71 2 (.slice p4 (k + 1) c4) (k + 1) _ := ownsRow_only hown ho5 (fun b hb e => by
      have := own_block_base hown hb
      have e' : b = sB + 2 := e
      omega)
    have cc5 : w5.cell? ⟨sB + 3, i, none⟩ = some (.int .i64 (ct : Int)) := by
      rw [own_int_at hrc5 (countsC_len _ _ _) hin, countsC_at hin, HCT.out]
    have ff5 : w5.frozen? ⟨sB + 3, i, none⟩ = false := hrc5.frozenAt _
    have cb5 := bx54.cell
    obtain ⟨w6, hw6⟩ : ∃ w6, w6 = w5.setCell ⟨sB + 3, i, none⟩ (.int .i64 ((ct : Int) + 1)) := ⟨_, rfl⟩
    have ho6 : Only (fun i => i = sB + 3) w5 w6 := by rw [hw6]; exact Only.set (F := fun i => i = sB + 3) w5 (sB + 3) i _ rfl
    have bx60 : Boxed w6 sB 3 (.int .i64 (i : Int)) := ho6.obj bx50 (fun e => by have e' : sB = sB + 3 := e; omega)
    have bx61 : Boxed w6 (sB + 1) 25 (.slice p n cap) := ho6.obj bx51 (fun e => by have e' : sB + 1 = sB + 3 := e; omega)
    have bx62 : Boxed w6 (sB + 2) 26 (.slice p4 (k + 1) c4) := ho6.obj bx5 (fun e => by have e' : sB + 2 = sB + 3 := e; omega)
    have bx64 : Boxed w6 cB 88 (.slice (some ⟨sB + 3, 0, none⟩) n n) := ho6.obj bx54 (fun e => by have e' : cB = sB + 3 := e; omega)
    have hrc6 : w6.ownsRow sB 3 1 (.slice (some ⟨sB + 3, 0, none⟩) n n) n ((countsC n t (k + 1)).map (Value.int .i64)) := by
      have h9 := (hrc5.stored i (.int .i64 ((ct : Int) + 1))).1
      rw [← List.map_set, HCN.out] at h9
      rw [hw6]
      exact h9
    have htk6 := ownsRow_only htk5 ho6 (fun b hb e => by
      have := own_block_base hown hb
      have e' : b = sB + 3 := e
      omega)
    have c61 := bx61.cell
    have f60 := bx60.frozen
    have c60 := bx60.cell
    obtain ⟨w7, hw7⟩ : ∃ w7, w7 = w6.setCell ⟨sB, 0, none⟩ (.int .i64 (((i : Int) + 1) % (n : Int))) := ⟨_, rfl⟩
    have ho7 : Only (fun i => i = sB) w6 w7 := by rw [hw7]; exact Only.set (F := fun i => i = sB) w6 sB 0 _ rfl
    have bx70 : Boxed w7 sB 3 (.int .i64 ((whoC n t (k + 1) : Nat) : Int)) := by
      rw [hw7, HWN.out, Int.natCast_emod, Int.natCast_add]
      exact bx60.set _
    have hO7 : Only (fun i => (Value.slice p1 k c1).ownBlock = some i ∨ i = sB ∨ i = sB + 2 ∨ i = sB + 3) X w7 :=
      (hoW.mono (fun i _ e => .inl e)).trans ((ho5.mono (fun i _ e => .inr (.inr (.inl e)))).trans ((ho6.mono (fun i _ e => .inr (.inr (.inr e)))).trans (ho7.mono (fun i _ e => .inr (.inl e)))))
    have hend : TuI w3 sB cB (xs.map SV.rs) n t (k + 1) w7 := by
      refine ⟨p4, c4, bx70, ho7.obj bx62 (fun e => by have e' : sB + 2 = sB := e; omega), ho7.obj bx64 (fun e => by have e' : cB = sB := e; omega), ?_, ?_, H6.out.step hO7 (fun i e => ?_)⟩
      · rw [HTN.out, List.flatMap_append]
        exact ownsRow_only htk6 ho7 (fun b hb e => by
          have := own_block_base hown hb
          have e' : b = sB := e
          omega)
      · exact ownsRow_only hrc6 ho7 (fun b hb e => by
          have hb' : b = sB + 3 := by simpa [Value.ownBlock] using hb.symm
          have e' : b = sB := e
          omega)
      · rcases e with e | e
        · exact .inr (hnoB _ e)
        · exact .inl e
    have hkp : KeepsFrom w3.heap.size X w7 := keeps_only hO7 (fun i e => by
      rcases e with e | e | e | e
      · obtain ⟨_, cs, h9⟩ := own_block_lt H4.out e
        exact ⟨cs, _, h9⟩
      · rw [e]; exact ⟨_, _, H1.out⟩
      · rw [e]; exact ⟨_, _, H2.out⟩
      · rw [e]
        obtain ⟨_, cs, h9⟩ := own_block_lt H5.out (b := sB + 3) rfl
        exact ⟨cs, _, h9⟩)
    have HEND := hide hend
    have HKP := hide hkp
    rw [hw5] at cc5 ff5 cb5
    rw [hw6, hw5] at c61 f60 c60
    rw [hw7, hw6, hw5] at HEND HKP
    clear hend hkp hO7 htk6 htk5 hrc6 hrc5 hrc bx0 bx1 bx2 bx4 bx5 bx50 bx51 bx54 bx60 bx61 bx62 bx64 bx70 hoW hnoB n0 ho5 ho6 ho7 hown hgrow hwhere
    gi_wp2
    exact ⟨HKP.out, HEND.out⟩
  case done =>
    rintro D X hD ⟨p1, c1, h1, h2, h3, h4, h5, h6⟩ hK
    rw [HTL.out] at h1 h2 h4 h5
    have e0 := h1.cell
    have e2 : X.cell? ⟨sB + 1 + 1, 0, none⟩ = some (.slice p1 N c1) := h2.cell
    have e4 := h3.cell
    have hK' : X.drew.heap[D]? = some (.deferred (some [])) := hK
    have HK := hide hK'
    have HR1 := hide h4
    have HR2 := hide h5
    have HB : Hid (Below W.heap.size W X) := hide (HBW3.out.trans (h6.below HBW3.out.size (fun i e => by have := HSB.out; rcases e with e | e | e <;> omega)))
    clear h1 h2 h3 h4 h5 h6 hK hK'
    gi_wp2
    gi_region
    gi_wp2_with fail
    refine ⟨by simp, .inl ⟨_, _, rfl, run_takeDeferred HK.out, ?_⟩⟩
    refine ⟨_, results_tmp3 rfl _ _ _, p1, c1, sB + 3, rfl, ownsRow_base (row_putR HR1.out.drew HK.out rfl) (by have := HBW3.out.size; omega), ownsRow_base (row_putR HR2.out.drew HK.out rfl) (by have := HSB.out; omega), ?_⟩
    exact HB.out.drew.trans (put_onlyR.below HB.out.size (fun i e => by have e' : i = D := e; have := HBW3.out.size; omega))
theorem turns_any {W : World} {p : Option Addr} {cap n t N : Nat} {xs : List SV} (hx : LL W p cap xs) (hn : xs.length = n) (ht : t < n) (hN : Stop (xs.map SV.rs) t N) (hb : n ≤ 1048576) (hNb : N * 16 ≤ 140737488355328) :
    Calls Tryz.prog 40 #[.int .i64 (t : Int), .slice p n cap] W fun e w' => ∃ p1 c1 g2, e = .returned (.tuple #[.slice p1 N c1, .int .i64 ((whoC n t N : Nat) : Int), .slice (some ⟨g2, 0, none⟩) n n]) ∧ w'.ownsRow W.heap.size 71 2 (.slice p1 N c1) N ((takenC (xs.map SV.rs) t N).flatMap RC.cells) ∧ w'.ownsRow W.heap.size 3 1 (.slice (some ⟨g2, 0, none⟩) n n) n ((countsC n t N).map (Value.int .i64)) ∧ Below W.heap.size W w' :=
  callsIn_wide.1 (turns_in 5 (Nat.le_refl _) hx hn ht hN hb hNb)
end Go.Proofs.YtifldnpccgbnkaaGreat
