/-
  The program's byPorts: what goes out, port by port. The conditions: lengths, and that each port is one of them.
-/
import Derived.Test.YtbdiohbjkpeifaaRsk
import Derived.Test.YtbdiohbjkpeifaaOpp
import Derived.Deep.RegionLaw
import Derived.Maps.AppendAt
namespace Go.Proofs.Ytbdiohbjkpeifaa
open Go.RowKit Go.Shelf

/-- append, one step of a region that draws its order: where the row lies then. -/
theorem step_append_at {P : Program} {ops : Array Oper} {o : Oper} {a : Act} {w : World} {K : Act → World → Prop} {Q : Exit → Act → World → Prop} {E : Prop} (hgd : o.guard = none) (s x : Operand) (t : TypeId)
    (ho : o.op = .call { callee := .builtin .append, args := #[s, x], argTypes := #[t, t] })
    (base : Nat) (e : TypeId) (i : TypeInfo) (z : Value) (size bytes : Nat) (ht : P.underlying t = some (.slice e)) (hi : P.info? e = some i) (hz : i.zero = some z)
    (hsize : i.size = size) (hby : i.bytes = bytes) (hzs : z.cells.size = size) (hsz : 0 < size)
    (v : Value) (n : Nat) (xs : List Value) (hs : a.eval s = v) (hown : w.ownsRow base e size v n xs)
    (ad : Addr) (m c : Nat) (news : List Value) (hx : a.eval x = .slice (some ad) m c) (hl : news.length = m * size) (hnews : ∀ j u, news[j]? = some u → w.cell? (ad.add j) = some u) (h1 : ∀ u ∈ news, u.oneCell' = true) (h63 : n + m ≤ maxLen) (hbytes : (n + m) * bytes ≤ 140737488355328) (hbase : base ≤ w.heap.size)
    (h : ∀ p' c' w', w'.ownsRow base e size (.slice p' (n + m) c') (n + m) (xs ++ news) → w.grownBy w' v.ownBlock → ((Value.slice p' (n + m) c').ownBlock = v.ownBlock ∨ (Value.slice p' (n + m) c').ownBlock = some w.heap.size) → K (a.put o.dst (.slice p' (n + m) c')) w') :
    if Region.wanted o (yielded ops a.tmps) = true then Oper.wp P o a w K Q else E := by
  have hw : Region.wanted o (yielded ops a.tmps) = true := by simp [Region.wanted, hgd]
  rw [if_pos hw]
  obtain ⟨v', w', hr, h2, h3, _, h4⟩ := run_append_own_at (P := P) w base t o.type e i z size bytes ht hi hz hsize hby hzs hsz v n xs hown ad m c news hl hnews h1 h63 hbytes hbase
  obtain ⟨p', c', rfl, _, _⟩ := own_form h2
  unfold Oper.wp execOp
  simp only [ho, resolve, invoke, builtin, Sem.run_bind, Sem.run_pure, Result.andThen_ok, List.map_toArray, List.map_cons, List.map_nil, hs, hx, hr]
  exact h p' c' w' h2 h3 h4
def recP (x : Op.PU) : RC := ⟨x.key, x.val⟩
def onlyP (p : Nat) (l : List Op.PU) : List RC := (l.filter (fun x => decide (x.port = (p : Int)))).map recP
theorem onlyP_snoc (p : Nat) (l : List Op.PU) (x : Op.PU) : onlyP p (l ++ [x]) = onlyP p l ++ (if x.port = (p : Int) then [recP x] else []) := by
  unfold onlyP
  rw [List.filter_append, List.map_append]
  congr 1
  by_cases h : x.port = (p : Int)
  · rw [if_pos h, List.filter_cons_of_pos (by simp [h])]; rfl
  · rw [if_neg h, List.filter_cons_of_neg (by simp [h])]; rfl
theorem onlyP_len (p : Nat) (l : List Op.PU) : (onlyP p l).length ≤ l.length := by
  unfold onlyP
  rw [List.length_map]
  exact List.length_filter_le _ _
/-- Lists of records in memory of their own, apart. -/
structure BP (W : World) (B g P : Nat) (ys : List SV) : Prop where
  len : ys.length = P
  row : W.ownsRow B 26 1 (.slice (some ⟨g, 0, none⟩) P P) P (ys.flatMap SV.cells)
  own : ∀ i, i < P → (ys[i]!).own W B
  apart : ∀ i j, i < P → j < P → i ≠ j → ∀ b, (Value.slice (ys[i]!).p (ys[i]!).rs.length (ys[i]!).c).ownBlock = some b → (Value.slice (ys[j]!).p (ys[j]!).rs.length (ys[j]!).c).ownBlock ≠ some b
theorem BP.later {W W' : World} {B g P : Nat} {ys : List SV} (h : BP W B g P ys) (hb : Below W.heap.size W W') : BP W' B g P ys :=
  ⟨h.len, ownsRow_later h.row hb, fun i hi => (h.own i hi).later hb, h.apart⟩
theorem BP.put {Y V w6 : World} {B g P i n : Nat} {ys : List SV} {y : SV} {r : RC} {p6 : Option Addr} {c6 : Nat} (h : BP Y B g P ys) (hi : i < P) (hy : ys[i]! = y) (hn : y.rs.length = n) (hV : Below Y.heap.size Y V)
    (o6 : w6.ownsRow B 33 2 (.slice p6 (n + 1) c6) (n + 1) (y.rs.flatMap RC.cells ++ r.cells)) (g6 : V.grownBy w6 (Value.slice y.p n y.c).ownBlock) (k6 : (Value.slice p6 (n + 1) c6).ownBlock = (Value.slice y.p n y.c).ownBlock ∨ (Value.slice p6 (n + 1) c6).ownBlock = some V.heap.size) :
    BP (w6.setCell ⟨g, i, none⟩ (.slice p6 (n + 1) c6)) B g P (ys.set i ⟨y.rs ++ [r], p6, c6⟩) := by
  subst hn
  have hl6 : (y.rs ++ [r]).length = y.rs.length + 1 := by simp
  have hV' := h.later hV
  have hyo := hV'.own i hi
  rw [hy] at hyo
  have ho6 := Only.of_grown (F := fun k => (Value.slice y.p y.rs.length y.c).ownBlock = some k) g6 (fun k e => e)
  have hrow6 : w6.ownsRow B 26 1 (.slice (some ⟨g, 0, none⟩) P P) P (ys.flatMap SV.cells) := ownsRow_only hV'.row ho6 (fun b hb e => rows_apart hyo hV'.row (by decide) hb e)
  have hst := SV.stored (i := i) hrow6 ⟨y.rs ++ [r], p6, c6⟩
  simp only [hl6] at hst
  have hnew : SV.own ⟨y.rs ++ [r], p6, c6⟩ w6 B := by
    show w6.ownsRow B 33 2 (.slice p6 (y.rs ++ [r]).length c6) (y.rs ++ [r]).length ((y.rs ++ [r]).flatMap RC.cells)
    rw [hl6, List.flatMap_append]
    simpa using o6
  have hoth : ∀ j, j < P → i ≠ j → (ys[j]!).own w6 B := fun j hj hne => ownsRow_only (hV'.own j hj) ho6 (fun b hb e => h.apart j i hj hi (Ne.symm hne) b hb (by rw [hy]; exact e))
  have holdb : ∀ j, j < P → ∀ b, (Value.slice (ys[j]!).p (ys[j]!).rs.length (ys[j]!).c).ownBlock = some b → b < Y.heap.size := fun j hj b hb => (own_block_lt (h.own j hj) hb).1
  have hVs := hV.size
  refine ⟨by rw [List.length_set]; exact h.len, hst, fun j hj => ?_, fun a b ha hb hne k hk => ?_⟩
  · rw [get_setSV (by rw [h.len]; exact hj)]
    by_cases e : i = j
    · rw [if_pos e]; exact hnew.set hrow6
    · rw [if_neg e]; exact (hoth j hj e).set hrow6
  · rw [get_setSV (by rw [h.len]; exact ha)] at hk
    rw [get_setSV (by rw [h.len]; exact hb)]
    by_cases ea : i = a
    · rw [if_pos ea] at hk
      rw [if_neg (by omega)]
      simp only [hl6] at hk
      intro e
      rcases k6 with k7 | k7
      · rw [k7] at hk
        exact h.apart b i hb hi (by omega) k e (by rw [hy]; exact hk)
      · rw [k7] at hk
        have := holdb b hb k e
        simp only [Option.some.injEq] at hk
        omega
    · rw [if_neg ea] at hk
      by_cases eb : i = b
      · rw [if_pos eb]
        simp only [hl6]
        intro e
        rcases k6 with k7 | k7
        · rw [k7] at e
          exact h.apart a i ha hi (Ne.symm ea) k hk (by rw [hy]; exact e)
        · rw [k7] at e
          have := holdb a ha k hk
          simp only [Option.some.injEq] at e
          omega
      · rw [if_neg eb]
        exact h.apart a b ha hb hne k hk
theorem bp_start {W : World} {B g P : Nat} (h : W.ownsRow B 26 1 (.slice (some ⟨g, 0, none⟩) P P) P ((List.replicate P (default : SV)).flatMap SV.cells)) : BP W B g P (List.replicate P default) := by
  have hd : ∀ i, i < P → (List.replicate P (default : SV))[i]! = default := fun i hi => by rw [getElem!_pos _ i (by simpa using hi), List.getElem_replicate]
  refine ⟨by simp, h, fun i hi => ?_, fun i j hi hj _ b hb => ?_⟩
  · rw [hd i hi]; exact World.ownsRow_nil _ _ _ _
  · rw [hd i hi] at hb
    have hb' : (Value.slice none 0 0).ownBlock = some b := hb
    simp [Value.ownBlock] at hb'

set_option maxRecDepth 100000 in
set_option maxHeartbeats 4000000 in
theorem byPorts_any {W : World} {p : Option Addr} {c N P : Nat} {puts : List Op.PU} (h : LRow Op.PU.cells 3 W p c puts) (hN : puts.length = N) (hb : N ≤ 1048576) (hP : P ≤ 4) (hp : ∀ x ∈ puts, 0 ≤ x.port ∧ x.port < (P : Int)) :
    Calls Try.prog 28 #[.slice p N c, .int .i64 (P : Int)] W fun e w' => ∃ g ys, e = .returned (.slice (some ⟨g, 0, none⟩) P P) ∧ BP w' W.heap.size g P ys ∧ (∀ i, i < P → (ys[i]!).rs = onlyP i puts) ∧ Below W.heap.size W w' := by
  obtain ⟨i0, hI0, hz0, hz1, hz2⟩ := info_parts Try.infoRecs
  obtain ⟨j0, hJ0, hy0, hy1, hy2⟩ := info_parts Try.infoRec
  have i1 := h.le
  have i2 := h.top
  rw [hN] at i1
  obtain ⟨w1, hrun, hown, hgr⟩ := run_make_full W W.heap.size 25 26 i0 (.slice none 0 0) 1 Try.underlying25 hI0 hz0 hz1 .i64 .i64 P (by rw [hz2]; omega) (by unfold maxLen; omega) (Nat.le_refl _)
  rw [made_lists] at hown
  have hb1 : Below W.heap.size W w1 := (Below.refl _ W).grown hgr (Nat.le_refl _) (fun k hk => by simp at hk)
  obtain ⟨g, hg⟩ : ∃ g, W.heap.size = g := ⟨_, rfl⟩
  rw [hg] at hrun
  have HBP0 : Hid (BP w1 W.heap.size g P (List.replicate P default)) := hide (bp_start (by rw [← hg]; exact hown))
  have HH := hide h
  have HN := hide hN
  have HP := hide hp
  have HB1 := hide hb1
  have hgB : W.heap.size ≤ g := by omega
  have HGB := hide hgB
  clear h hN hp hown hgr hb1 hg hgB
  go_enter Try.func28, Try.ntmps28
  go_wp2_with fail
  go_loopw [12] (fun s wq => ∃ (k : Nat) (ys : List SV), k ≤ N ∧ s = .int .i64 (k : Int) ∧ Hid (BP wq W.heap.size g P ys) ∧ Hid (∀ i, i < P → (ys[i]!).rs = onlyP i (puts.take k)) ∧ Hid (Below W.heap.size W wq)) (fun s _ => N - (intOf s).toNat)
  case atStart => exact ⟨0, _, Nat.zero_le _, rfl, HBP0, hide (fun i hi => by rw [getElem!_pos _ i (by simpa using hi), List.getElem_replicate, List.take_zero]; rfl), HB1⟩
  case round =>
    obtain ⟨k, ys, hk, rfl, HBP, HYS, HB⟩ := hrel
    rename World => wq
    clear HBP0 HB1 hrun
    by_cases hlt : k < N
    · have hlt2 : k < puts.length := by rw [HN.out]; exact hlt
      obtain ⟨x, hx⟩ : ∃ x, puts[k]! = x := ⟨_, rfl⟩
      have hxm : x ∈ puts := by rw [← hx, getElem!_pos puts k hlt2]; exact List.getElem_mem _
      have hpx := HP.out x hxm
      obtain ⟨g2, o2, rfl, hc⟩ := (LRow.below Op.PU.len HH.out HB.out).cell k hlt2
      rw [hx] at hc
      have etk : puts.take (k + 1) = puts.take k ++ [x] := by rw [List.take_succ_eq_append_getElem hlt2, ← hx, getElem!_pos puts k hlt2]
      obtain ⟨pt, ky, vl⟩ := x
      simp only at hpx
      obtain ⟨j, rfl⟩ : ∃ j : Nat, pt = (j : Int) := ⟨pt.toNat, by omega⟩
      have hj : j < P := by omega
      have d0 : wq.cell? ⟨g2, o2 + k * 3, none⟩ = some (.int .i64 (j : Int)) := hc 0 (by omega)
      have d1 : wq.cell? ⟨g2, o2 + k * 3 + 1, none⟩ = some (.int .i64 ky) := hc 1 (by omega)
      have d2 : wq.cell? ⟨g2, o2 + k * 3 + 2, none⟩ = some (.int .i64 vl) := hc 2 (by omega)
      obtain ⟨Y, hY⟩ : ∃ Y, Y = wq.alloc (.cells #[.int .i64 (j : Int), .int .i64 ky, .int .i64 vl] 110 (0, 0)) := ⟨_, rfl⟩
      have bY : Below wq.heap.size wq Y := by rw [hY]; exact alloc_below _ _
      have uY : Y.heap[wq.heap.size]? = some (.cells #[.int .i64 (j : Int), .int .i64 ky, .int .i64 vl] 110 (0, 0)) := by rw [hY]; exact heap_alloc_new _ _
      obtain ⟨xb, hxb⟩ : ∃ xb, wq.heap.size = xb := ⟨_, rfl⟩
      rw [hxb] at uY
      have e0 : Y.cell? ⟨xb, 0, none⟩ = some (.int .i64 (j : Int)) := by simp [World.cell?, uY]
      have e1 : Y.cell? ⟨xb, 1, none⟩ = some (.int .i64 ky) := by simp [World.cell?, uY]
      have e2 : Y.cell? ⟨xb, 2, none⟩ = some (.int .i64 vl) := by simp [World.cell?, uY]
      have hBPY := HBP.out.later bY
      obtain ⟨y, hy⟩ : ∃ y, ys[j]! = y := ⟨_, rfl⟩
      have hyo := hBPY.own j hj
      rw [hy] at hyo
      obtain ⟨g', e', h9⟩ := own_cellR hBPY.row hj
      simp only [Option.some.injEq, Addr.mk.injEq, and_true] at e'
      rw [← e'] at h9
      have e3 : Y.cell? ⟨g, j, none⟩ = some (.slice y.p y.rs.length y.c) := by
        rw [h9, SV.flat, List.getD_eq_getElem?_getD, List.getElem?_map, List.getElem?_eq_getElem (by rw [hBPY.len]; exact hj), ← hy, getElem!_pos ys j (by rw [hBPY.len]; exact hj)]
        rfl
      have hyr := HYS.out j hj
      rw [hy] at hyr
      obtain ⟨yrs, yp, yc⟩ := y
      simp only at hyr e3
      obtain ⟨n, hn⟩ : ∃ n, yrs.length = n := ⟨_, rfl⟩
      have hnb : n ≤ 1048576 := by
        have h8 := onlyP_len j (puts.take k)
        rw [← hyr, List.length_take] at h8
        omega
      have hyo2 : Y.ownsRow W.heap.size 33 2 (.slice yp n yc) n (yrs.flatMap RC.cells) := by
        have h8 : Y.ownsRow W.heap.size 33 2 (.slice yp yrs.length yc) yrs.length (yrs.flatMap RC.cells) := hyo
        rw [hn] at h8
        exact h8
      rw [hn] at e3
      have hab := alloc_below Y (.cells #[.int .i64 ky, .int .i64 vl] 33 (0, 0))
      have HAB := hide hab
      have HRW := hide (ownsRow_later hyo2 hab)
      have HK1 : Hid (n + 1 ≤ maxLen) := by show _ ≤ _; unfold maxLen; omega
      have HK2 : Hid ((n + 1) * 16 ≤ 140737488355328) := by show _ ≤ _; omega
      have HGE : Hid (W.heap.size ≤ (Y.alloc (.cells #[.int .i64 ky, .int .i64 vl] 33 (0, 0))).heap.size) := hide (Nat.le_trans HB.out.size (Nat.le_trans bY.size hab.size))
      have HNY := hide hyo2
      have HBPY := hide hBPY
      have HYJ := hide hy
      have HNN := hide hn
      have HBY := hide (HB.out.trans (bY.mono HB.out.size))
      have hxbY : xb < Y.heap.size := (Array.getElem?_eq_some_iff.1 uY).1
      have HUY := hide uY
      have HET := hide etk
      have hg2 : g < Y.heap.size := (own_block_lt hBPY.row (b := g) rfl).1
      have HFG : Hid (∀ w6, Only (fun i => (Value.slice yp n yc).ownBlock = some i) Y w6 → (∃ v, w6.cell? ⟨g, j, none⟩ = some v) ∧ w6.frozen? ⟨g, j, none⟩ = false ∧ w6.cell? ⟨xb, 0, none⟩ = some (.int .i64 (j : Int))) := hide (fun w6 ho => by
        have hr6 : w6.ownsRow W.heap.size 26 1 (.slice (some ⟨g, 0, none⟩) P P) P (ys.flatMap SV.cells) := ownsRow_only HBPY.out.row ho (fun b hb e => rows_apart HNY.out HBPY.out.row (by decide) hb e)
        obtain ⟨g', e', h9⟩ := own_cellR hr6 hj
        simp only [Option.some.injEq, Addr.mk.injEq, and_true] at e'
        rw [← e'] at h9
        refine ⟨⟨_, h9⟩, hr6.frozenAt _, ho.cell e0 (fun e => ?_)⟩
        obtain ⟨_, cur, h1⟩ := own_block_lt HNY.out (b := xb) e
        rw [HUY.out] at h1
        simp at h1)
      clear hc hx hxm hpx etk uY hBPY hy hyo hyo2 h9 e' hyr hn hab hlt2 bY
      go_upto_region 5 with fail
      rw [← hY]
      try rw [hxb]
      clear hY hxb d0 d1 d2
      go_region_law (refine step_append_at rfl (.tmp 23) (.tmp 26) 26 rfl W.heap.size 33 j0 (.agg #[.int .i64 0, .int .i64 0]) 2 16 Try.underlying26 hJ0 hy0 hy1 hy2 rfl (by decide) (.slice yp n yc) n _ (by simp [Act.eval]) HRW.out.drew ⟨Y.heap.size, 0, none⟩ 1 1 [.int .i64 ky, .int .i64 vl] (by simp [Act.eval]) rfl (World.news_of_block (heap_alloc_new Y _)) (by simp [Value.oneCell']) HK1.out HK2.out HGE.out ?_; intro p6 c6 w6 o6 g6 k6; have hoW : Only (fun i => (Value.slice yp n yc).ownBlock = some i) Y w6 := (Only.alloc (fun i => (Value.slice yp n yc).ownBlock = some i) Y _).drew.trans (Only.of_grown g6 (fun k e => e)); obtain ⟨⟨v6, c60⟩, f60, q60⟩ := HFG.out w6 hoW)
      all_goals
        have HPU := hide (BP.put (r := ⟨ky, vl⟩) HBPY.out hj HYJ.out HNN.out HAB.out.drew o6 g6 k6)
        have HBF : Hid (Below W.heap.size W (w6.setCell ⟨g, j, none⟩ (.slice p6 (n + 1) c6))) := hide ((HBY.out.trans (hoW.below HBY.out.size (fun i e => own_block_base HNY.out e))).setCell (p := ⟨g, j, none⟩) HGB.out _)
        have HYF : Hid (∀ i, i < P → ((ys.set j ⟨yrs ++ [⟨ky, vl⟩], p6, c6⟩)[i]!).rs = onlyP i (puts.take (k + 1))) := hide (fun i hi => by
          rw [get_setSV (by rw [HBPY.out.len]; exact hi), HET.out, onlyP_snoc]
          have h8 := HYS.out i hi
          by_cases e : j = i
          · rw [if_pos e, if_pos (by simp [e]), ← h8, ← e, HYJ.out]
            rfl
          · rw [if_neg e, if_neg (by simp only; omega), List.append_nil]
            exact h8)
        clear o6 g6 k6 hoW c60 f60 q60 HRW HAB HGE HK1 HK2 HFG HBPY HNY e0 e1 e2 e3
        go_wp2
        first
          | exact ⟨⟨k + 1, _, by omega, by first | rfl | go_num, HPU, HYF, HBF⟩, by simp [intOf]; omega⟩
          | exact ⟨⟨k + 1, _, by omega, by first | rfl | go_num, hide (HPU.out.later (Below.refl _ _).drew), HYF, hide HBF.out.drew⟩, by simp [intOf]; omega⟩
    · obtain rfl : k = N := by omega
      have HYF : Hid (∀ i, i < P → (ys[i]!).rs = onlyP i puts) := hide (fun i hi => by have := HYS.out i hi; rw [← HN.out, List.take_length] at this; exact this)
      go_wp2
      go_ret
      exact ⟨g, ys, rfl, HBP.out, HYF.out, HB.out⟩
end Go.Proofs.Ytbdiohbjkpeifaa
