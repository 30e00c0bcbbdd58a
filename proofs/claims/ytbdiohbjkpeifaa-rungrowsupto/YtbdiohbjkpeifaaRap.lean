/-
  The program's resultOf of a sink. The conditions: lengths.
-/
import Derived.Test.YtbdiohbjkpeifaaRsk
import Derived.Test.YtbdiohbjkpeifaaOpp
namespace Go.Proofs.Ytbdiohbjkpeifaa
open Go.RowKit Go.Shelf

def sinkC (_ : List (List RC)) : RS := ⟨[], [], 0, []⟩
set_option maxRecDepth 100000 in
set_option maxHeartbeats 8000000 in
theorem sinkR_any {o : GO} (hk : o.kind = 9) (hi : 0 < o.ins.length) : ResAt o sinkC := by
  intro W ip p ic cap n xs hx hn hno hn4 hlb _
  obtain ⟨kd, pt, fn, ar, ins⟩ := o
  simp only at hk hi hno
  subst hk
  obtain ⟨il, hil⟩ : ∃ il, ins.length = il := ⟨_, rfl⟩
  simp only [hil]
  rw [hil] at hno hi
  subst hno
  have i1 := hx.row.le
  have i2 := hx.row.top
  rw [hn] at i1
  obtain ⟨V, hV⟩ : ∃ V, V = (W.alloc (.cells #[.int .i64 9, .int .i64 pt, .int .i64 fn, .int .i64 ar, .slice ip n ic] 40 (0, 0))).alloc (.cells #[.slice none 0 0, .slice none 0 0, .int .i64 0, .slice none 0 0] 53 (0, 0)) := ⟨_, rfl⟩
  have a1 := alloc_below W (.cells #[.int .i64 9, .int .i64 pt, .int .i64 fn, .int .i64 ar, .slice ip n ic] 40 (0, 0))
  have a2 := alloc_below (W.alloc (.cells #[.int .i64 9, .int .i64 pt, .int .i64 fn, .int .i64 ar, .slice ip n ic] 40 (0, 0))) (.cells #[.slice none 0 0, .slice none 0 0, .int .i64 0, .slice none 0 0] 53 (0, 0))
  have hbV : Below W.heap.size W V := by rw [hV]; exact a1.trans (a2.mono a1.size)
  obtain ⟨oB, hoB⟩ : ∃ oB, W.heap.size = oB := ⟨_, rfl⟩
  have hop : V.heap[oB]? = some (.cells #[.int .i64 9, .int .i64 pt, .int .i64 fn, .int .i64 ar, .slice ip n ic] 40 (0, 0)) := by rw [hV, ← hoB]; exact below_box a2 (heap_alloc_new W _)
  have hres : V.heap[oB + 1]? = some (.cells #[.slice none 0 0, .slice none 0 0, .int .i64 0, .slice none 0 0] 53 (0, 0)) := by
    have e : oB + 1 = (W.alloc (.cells #[.int .i64 9, .int .i64 pt, .int .i64 fn, .int .i64 ar, .slice ip n ic] 40 (0, 0))).heap.size := by rw [← hoB]; simp
    rw [hV, e]
    exact heap_alloc_new _ _
  have hVs : oB + 2 ≤ V.heap.size := by rw [hV, ← hoB]; simp
  obtain ⟨g, o2, rfl, hc⟩ := (hx.later hbV).at (show 0 < xs.length by omega)
  have hxm : xs[0]! ∈ xs := by rw [getElem!_pos xs 0 (by omega)]; exact List.getElem_mem _
  have hrow : RRow V (xs[0]!).p (xs[0]!).c (xs[0]!).rs := (hx.later hbV).ok _ hxm
  obtain ⟨xp, hxp⟩ : ∃ xp, (xs[0]!).p = xp := ⟨_, rfl⟩
  obtain ⟨xc, hxc⟩ : ∃ xc, (xs[0]!).c = xc := ⟨_, rfl⟩
  obtain ⟨rs, hrs⟩ : ∃ rs, (xs[0]!).rs = rs := ⟨_, rfl⟩
  rw [hxp, hxc, hrs] at hc hrow
  obtain ⟨N, hN⟩ : ∃ N, rs.length = N := ⟨_, rfl⟩
  rw [hN] at hc
  have hc0 : V.cell? ⟨g, o2, none⟩ = some (.slice xp N xc) := hc
  have HA : Hid (∀ X, Below V.heap.size V X → Calls Try.prog 27 #[.agg #[.int .i64 9, .int .i64 pt, .int .i64 fn, .int .i64 ar, .slice ip n ic], .agg #[.slice none 0 0, .int .i64 0], .slice xp N xc] X fun e w' => e = .returned (.tuple #[.agg #[.slice none 0 0, .int .i64 0], .slice none 0 0]) ∧ Below X.heap.size X w') := hide (fun X hX => all_sink (RRow.later hrow hX) hN)
  have d0 : V.cell? ⟨oB, 0, none⟩ = some (.int .i64 9) := by simp [World.cell?, hop]
  have d1 : V.cell? ⟨oB, 1, none⟩ = some (.int .i64 pt) := by simp [World.cell?, hop]
  have d2 : V.cell? ⟨oB, 2, none⟩ = some (.int .i64 fn) := by simp [World.cell?, hop]
  have d3 : V.cell? ⟨oB, 3, none⟩ = some (.int .i64 ar) := by simp [World.cell?, hop]
  have d4 : V.cell? ⟨oB, 4, none⟩ = some (.slice ip n ic) := by simp [World.cell?, hop]
  have HBV := hide hbV
  have HRES := hide hres
  have HOP := hide hop
  have HOB := hide hoB
  clear hx hn hlb hbV hres hop a1 a2 hil hrow hxp hxc hrs hN hc hxm
  go_enter Try.func19, Try.ntmps19
  go_upto_region 5 with fail
  rw [← hV]
  clear hV
  have ab := alloc_below V (.cells #[.slice none 0 0, .int .i64 0] 49 (0, 0))
  have m0 := cell_later ab hc0
  have m1 := cell_later ab d0
  have m2 := cell_later ab d1
  have m3 := cell_later ab d2
  have m4 := cell_later ab d3
  have m5 := cell_later ab d4
  go_cut [9, 10] from 30 to 39 (fun s9 s10 wd => ∃ q, s9 = .pointer (some ⟨q, 0, none⟩) ∧ s10 = .slice none 0 0 ∧ Hid (wd.heap[q]? = some (.cells #[.slice none 0 0, .int .i64 0] 49 (0, 0))) ∧ Hid (Below V.heap.size V wd) ∧ Hid (V.heap.size ≤ q))
  case first =>
    go_region_with (go_at_call 27; refine (HA.out _ ?_).mono ?_; · first | exact (Below.refl _ V).drew | exact (alloc_below V _).drew
                    rintro _ w1 ⟨rfl, hB1⟩; try (obtain ⟨k0, k1, k2, k3⟩ := two_facts (below_box hB1 (heap_alloc_new V _)) (.slice none 0 0)))
    all_goals
      go_wp2_with fail
      go_meet
      case rel =>
        first
        | exact ⟨_, rfl, rfl, hide (heap_alloc_new w1 _), hide ((below_undrew hB1).trans ((alloc_below w1 _).mono hB1.size)), hide hB1.size⟩
        | exact ⟨_, rfl, rfl, hide (two_set (below_box (below_undrew hB1) (heap_alloc_new V _)) _ _), hide (((ab.trans ((below_undrew hB1).mono ab.size)).setCell (p := ⟨V.heap.size, 0, none⟩) (Nat.le_refl _) _).setCell (p := ⟨V.heap.size, 1, none⟩) (Nat.le_refl _) _), hide (Nat.le_refl _)⟩
  case rest =>
  obtain ⟨q, rfl, rfl, HQ, HBQ, HVQ⟩ := hcut
  rename World => w2
  clear HA ab m0 m1 m2 m3 m4 m5
  have y0 := below_box HBQ.out HOP.out
  have e0 : w2.cell? ⟨oB, 0, none⟩ = some (.int .i64 9) := by simp [World.cell?, y0]
  have e1 : w2.cell? ⟨oB, 1, none⟩ = some (.int .i64 pt) := by simp [World.cell?, y0]
  have e2 : w2.cell? ⟨oB, 2, none⟩ = some (.int .i64 fn) := by simp [World.cell?, y0]
  have e3 : w2.cell? ⟨oB, 3, none⟩ = some (.int .i64 ar) := by simp [World.cell?, y0]
  have e4 : w2.cell? ⟨oB, 4, none⟩ = some (.slice ip n ic) := by simp [World.cell?, y0]
  have q0 : w2.cell? ⟨q, 0, none⟩ = some (.slice none 0 0) := by simp [World.cell?, HQ.out]
  have q1 : w2.cell? ⟨q, 1, none⟩ = some (.int .i64 0) := by simp [World.cell?, HQ.out]
  have HR2 := hide (below_box HBQ.out HRES.out)
  clear y0 d0 d1 d2 d3 d4 hc0
  go_wp2_with fail
  go_region_with (first
    | (go_at_call 29; refine ports_sink.mono ?_; rintro _ w3 ⟨rfl, hB3⟩; have s0 := cell_later hB3 q0; have s1 := cell_later hB3 q1)
    | (go_at_call 28; refine byPorts_nil.mono ?_; rintro _ w4 ⟨rfl, hO4, hB4⟩; have t0 := cell_later hB4 s0; have t1 := cell_later hB4 s1; obtain ⟨f0, f1, f2, f3, f4, f5, f6, f7⟩ := res_facts (below_box hB4 (below_box (below_undrew hB3) HR2.out)) (.slice (some ⟨w3.heap.size, 0, none⟩) 0 0) (.slice none 0 0) (.int .i64 0)))
  all_goals
    have hb9 : Below V.heap.size V w4 := HBQ.out.trans ((below_undrew hB3).trans (hB4.mono hB3.size) |>.mono HBQ.out.size)
    have r4 := below_box hB4 (below_box (below_undrew hB3) HR2.out)
    have hBW4 : Below W.heap.size W w4 := HBV.out.trans (hb9.mono HBV.out.size)
    have hO5 := set4_only w4 (oB + 1) (.slice (some ⟨w3.heap.size, 0, none⟩) 0 0) (.slice none 0 0) (.int .i64 0) (.slice none 0 0)
    have HE := hide (set4_heap r4 (.slice (some ⟨w3.heap.size, 0, none⟩) 0 0) (.slice none 0 0) (.int .i64 0) (.slice none 0 0))
    have HBF : Hid (Below W.heap.size W (set4 w4 (oB + 1) (.slice (some ⟨w3.heap.size, 0, none⟩) 0 0) (.slice none 0 0) (.int .i64 0) (.slice none 0 0))) := hide (hBW4.trans (hO5.below hBW4.size (fun i e => by have e' : i = oB + 1 := e; have := HOB.out; omega)))
    have hle3 : W.heap.size ≤ w3.heap.size := Nat.le_trans HBV.out.size (Nat.le_trans HBQ.out.size hB3.size)
    have HP : Hid ((set4 w4 (oB + 1) (.slice (some ⟨w3.heap.size, 0, none⟩) 0 0) (.slice none 0 0) (.int .i64 0) (.slice none 0 0)).ownsRow W.heap.size 26 1 (.slice (some ⟨w3.heap.size, 0, none⟩) 0 0) 0 []) := hide (ownsRow_only (ownsRow_base hO4 hle3) hO5 (fun b hb e => by
      have e' : b = oB + 1 := e
      have h9 := own_block_base hO4 hb
      have := HBQ.out.size
      have := hB3.size
      simp at this
      omega))
    unfold set4 at HE HBF HP
    clear hb9 r4 hBW4 hO5 hO4 hB4 hB3
    go_wp2
    refine bodyPost_ret (results_cell_row rfl _ _ (oB + 1) 53 _ _ _ rfl HE.out Try.underlying53 rfl (by kernel_rfl)) rfl ?_
    exact ⟨⟨[], some ⟨w3.heap.size, 0, none⟩, 0, [], none, 0, 0, 0, [], none, 0⟩, rfl, ⟨HP.out, fun y hy => (by cases hy), World.ownsRow_nil _ _ _ _, World.ownsRow_nil _ _ _ _, fun y hy => (by cases hy), fun g _ h9 => (by simp [RV.bv, Value.ownBlock] at h9)⟩, rfl, HBF.out⟩
end Go.Proofs.Ytbdiohbjkpeifaa

/-
  All of the program, of an operator that keeps nothing. The conditions: lengths.
-/
namespace Go.Proofs.Ytbdiohbjkpeifaa
open Go.RowKit Go.Shelf

def passAll (kd fn ar : Int) (rs : List RC) : List Op.PU := rs.flatMap (fun r => Op.passC kd fn ar r.key r.val)
theorem passAll_snoc (kd fn ar : Int) (rs : List RC) (r : RC) : passAll kd fn ar (rs ++ [r]) = passAll kd fn ar rs ++ Op.passC kd fn ar r.key r.val := by
  unfold passAll
  rw [List.flatMap_append]
  simp
theorem passC_one (kd fn ar ky vl : Int) : (Op.passC kd fn ar ky vl).length ≤ 1 := by
  unfold Op.passC
  split
  · split <;> simp
  · split <;> simp
theorem passAll_len (kd fn ar : Int) : ∀ rs : List RC, (passAll kd fn ar rs).length ≤ rs.length
  | [] => Nat.le_refl _
  | r :: rs => by
    have ih := passAll_len kd fn ar rs
    have h1 := passC_one kd fn ar r.key r.val
    show (Op.passC kd fn ar r.key r.val ++ passAll kd fn ar rs).length ≤ _
    rw [List.length_append, List.length_cons]
    omega
set_option maxRecDepth 100000 in
set_option maxHeartbeats 4000000 in
theorem all_pass {W : World} {p : Option Addr} {c N : Nat} {rs : List RC} {kd pt fn ar tn : Int} {ip : Option Addr} {n ic : Nat} (hkp : Op.keepsC kd = false) (ha : I6 ar) (h : RRow W p c rs) (hN : rs.length = N) (hb : N ≤ 1048576) (hri : ∀ r ∈ rs, r.fine) : Calls Try.prog 27 #[.agg #[.int .i64 kd, .int .i64 pt, .int .i64 fn, .int .i64 ar, .slice ip n ic], .agg #[.slice none 0 0, .int .i64 tn], .slice p N c] W fun e w' => ∃ po co M, e = .returned (.tuple #[.agg #[.slice none 0 0, .int .i64 tn], .slice po M co]) ∧ (passAll kd fn ar rs).length = M ∧ w'.ownsRow W.heap.size 110 3 (.slice po M co) M ((passAll kd fn ar rs).flatMap Op.PU.cells) ∧ Below W.heap.size W w' := by
  have i1 := h.le
  have i2 := h.top
  rw [hN] at i1
  obtain ⟨V, hV⟩ : ∃ V, V = ((W.alloc (.cells #[.int .i64 kd, .int .i64 pt, .int .i64 fn, .int .i64 ar, .slice ip n ic] 40 (0, 0))).alloc (.cells #[.slice none 0 0, .int .i64 tn] 49 (0, 0))).alloc (.cells #[.slice none 0 0, .int .i64 0] 49 (0, 0)) := ⟨_, rfl⟩
  have a1 := alloc_below W (.cells #[.int .i64 kd, .int .i64 pt, .int .i64 fn, .int .i64 ar, .slice ip n ic] 40 (0, 0))
  have a2 := alloc_below (W.alloc (.cells #[.int .i64 kd, .int .i64 pt, .int .i64 fn, .int .i64 ar, .slice ip n ic] 40 (0, 0))) (.cells #[.slice none 0 0, .int .i64 tn] 49 (0, 0))
  have a3 := alloc_below ((W.alloc (.cells #[.int .i64 kd, .int .i64 pt, .int .i64 fn, .int .i64 ar, .slice ip n ic] 40 (0, 0))).alloc (.cells #[.slice none 0 0, .int .i64 tn] 49 (0, 0))) (.cells #[.slice none 0 0, .int .i64 0] 49 (0, 0))
  have hbV : Below W.heap.size W V := by rw [hV]; exact a1.trans ((a2.mono a1.size).trans (a3.mono (Nat.le_trans a1.size a2.size)))
  obtain ⟨sB, hsB⟩ : ∃ sB, W.heap.size = sB := ⟨_, rfl⟩
  have x0 : V.heap[sB]? = some (.cells #[.int .i64 kd, .int .i64 pt, .int .i64 fn, .int .i64 ar, .slice ip n ic] 40 (0, 0)) := by rw [hV, ← hsB]; exact below_box a3 (below_box a2 (heap_alloc_new W _))
  have x1 : V.heap[sB + 1]? = some (.cells #[.slice none 0 0, .int .i64 tn] 49 (0, 0)) := by
    have e : sB + 1 = (W.alloc (.cells #[.int .i64 kd, .int .i64 pt, .int .i64 fn, .int .i64 ar, .slice ip n ic] 40 (0, 0))).heap.size := by rw [← hsB]; simp
    rw [hV, e]
    exact below_box a3 (heap_alloc_new _ _)
  have x2 : V.heap[sB + 2]? = some (.cells #[.slice none 0 0, .int .i64 0] 49 (0, 0)) := by
    have e : sB + 2 = ((W.alloc (.cells #[.int .i64 kd, .int .i64 pt, .int .i64 fn, .int .i64 ar, .slice ip n ic] 40 (0, 0))).alloc (.cells #[.slice none 0 0, .int .i64 tn] 49 (0, 0))).heap.size := by rw [← hsB]; simp
    rw [hV, e]
    exact heap_alloc_new _ _
  have hVs : sB + 3 ≤ V.heap.size := by rw [hV, ← hsB]; simp
  have HX0 := hide x0
  have HX1 := hide x1
  have HX2 := hide x2
  have HBV := hide hbV
  have HR := hide (RRow.later h hbV)
  have HN := hide hN
  have HSB := hide hsB
  have HRI := hide hri
  have c0 : V.cell? ⟨sB, 0, none⟩ = some (.int .i64 kd) := by simp [World.cell?, x0]
  have c1 : V.cell? ⟨sB, 1, none⟩ = some (.int .i64 pt) := by simp [World.cell?, x0]
  have c2 : V.cell? ⟨sB, 2, none⟩ = some (.int .i64 fn) := by simp [World.cell?, x0]
  have c3 : V.cell? ⟨sB, 3, none⟩ = some (.int .i64 ar) := by simp [World.cell?, x0]
  have c4 : V.cell? ⟨sB, 4, none⟩ = some (.slice ip n ic) := by simp [World.cell?, x0]
  clear h hN x0 x1 x2 hbV a1 a2 a3 hri
  go_enter Try.func27, Try.ntmps27
  go_upto_region 1 with fail
  rw [← hV]
  try rw [hsB]
  clear hV hsB
  go_wp2_with fail
  refine Op.keeps_any.mono ?_
  rintro _ w1 ⟨rfl, hB1⟩
  rw [hkp]
  have HB1 := hide hB1
  clear hB1 hkp c0 c1 c2 c3 c4
  go_wp2_with fail
  go_loopw [8, 22] (fun s i wq => ∃ (k : Nat) (po : Option Addr) (co M : Nat), k ≤ N ∧ i = .int .i64 (k : Int) ∧ s = .slice po M co ∧ Hid ((passAll kd fn ar (rs.take k)).length = M) ∧ Hid (wq.ownsRow V.heap.size 110 3 (.slice po M co) M ((passAll kd fn ar (rs.take k)).flatMap Op.PU.cells)) ∧ Hid (Below V.heap.size V wq)) (fun _ i _ => N - (intOf i).toNat)
  case atStart => exact ⟨0, none, 0, 0, Nat.zero_le _, rfl, rfl, hide (by rw [List.take_zero]; rfl), hide (by rw [List.take_zero]; exact World.ownsRow_nil _ _ _ _), HB1⟩
  case round =>
    obtain ⟨k, po, co, M, hk, rfl, rfl, HM, HO, HBq⟩ := hrel
    rename World => wq
    by_cases hlt : k < N
    · have hlt2 : k < rs.length := by rw [HN.out]; exact hlt
      obtain ⟨r, hr⟩ : ∃ r, rs[k]! = r := ⟨_, rfl⟩
      obtain ⟨g, o, rfl, c0, c1⟩ := (RRow.later HR.out HBq.out).at hlt2 hr
      have hrm : r ∈ rs := by rw [← hr, getElem!_pos rs k hlt2]; exact List.getElem_mem _
      have hfi := HRI.out r hrm
      have etk : rs.take (k + 1) = rs.take k ++ [r] := by rw [List.take_succ_eq_append_getElem hlt2, ← hr, getElem!_pos rs k hlt2]
      obtain ⟨ky, vl⟩ := r
      simp only at c0 c1
      obtain ⟨wr, hwr⟩ : ∃ wr, wr = wq.alloc (.cells #[.int .i64 ky, .int .i64 vl] 33 (0, 0)) := ⟨_, rfl⟩
      have b1 : Below wq.heap.size wq wr := by rw [hwr]; exact alloc_below _ _
      have y0 := below_box b1 (below_box HBq.out HX0.out)
      have d0 : wr.cell? ⟨sB, 0, none⟩ = some (.int .i64 kd) := by simp [World.cell?, y0]
      have d1 : wr.cell? ⟨sB, 1, none⟩ = some (.int .i64 pt) := by simp [World.cell?, y0]
      have d2 : wr.cell? ⟨sB, 2, none⟩ = some (.int .i64 fn) := by simp [World.cell?, y0]
      have d3 : wr.cell? ⟨sB, 3, none⟩ = some (.int .i64 ar) := by simp [World.cell?, y0]
      have d4 : wr.cell? ⟨sB, 4, none⟩ = some (.slice ip n ic) := by simp [World.cell?, y0]
      rw [hwr] at d0 d1 d2 d3 d4
      have HB2 : Hid (Below V.heap.size V wr) := hide (HBq.out.trans (b1.mono HBq.out.size))
      have hMk : M ≤ 1048576 := by
        have h9 := passAll_len kd fn ar (rs.take k)
        rw [HM.out, List.length_take] at h9
        omega
      have HP := hide (Op.pass_any (kd := kd) (pt := pt) (fn := fn) (ip := ip) (n := n) (ic := ic) (xs := passAll kd fn ar (rs.take k)) hfi.1 hfi.2 ha (ownsRow_later HO.out b1) HB2.out.size (by omega))
      obtain ⟨pl, hpl⟩ : ∃ pl, (Op.passC kd fn ar ky vl).length = pl := ⟨_, rfl⟩
      rw [hpl] at HP
      have HPL := hide hpl
      have HET := hide etk
      clear b1 y0 hr hlt2 hrm hfi hpl etk
      go_wp2_with fail
      rw [← hwr]
      clear hwr d0 d1 d2 d3 d4 c0 c1
      refine HP.out.mono ?_
      rintro _ w3 ⟨p3, c3, rfl, hO3, hn3⟩
      have HB3 : Hid (Below V.heap.size V w3) := hide (HB2.out.trans (hn3.below HB2.out.size (fun i e => own_block_base HO.out e)))
      have HO3 : Hid (w3.ownsRow V.heap.size 110 3 (.slice p3 (M + pl) c3) (M + pl) ((passAll kd fn ar (rs.take (k + 1))).flatMap Op.PU.cells)) := hide (by rw [HET.out, passAll_snoc]; exact hO3)
      have HM3 : Hid ((passAll kd fn ar (rs.take (k + 1))).length = M + pl) := hide (by rw [HET.out, passAll_snoc, List.length_append, HM.out, HPL.out])
      clear hO3 hn3 HP HO HM
      go_wp2
      exact ⟨⟨k + 1, p3, c3, M + pl, by omega, by first | rfl | go_num, by first | rfl | go_num, HM3, HO3, HB3⟩, by simp [intOf]; omega⟩
    · obtain rfl : k = N := by omega
      have y1 := below_box HBq.out HX1.out
      have d0 : wq.cell? ⟨sB + 1, 0, none⟩ = some (.slice none 0 0) := by simp [World.cell?, y1]
      have d1 : wq.cell? ⟨sB + 1, 1, none⟩ = some (.int .i64 tn) := by simp [World.cell?, y1]
      have HRS : Hid (rs.take k = rs) := hide (by rw [← HN.out, List.take_length])
      clear y1
      go_wp2_with fail
      refine oclone_nil.mono ?_
      rintro _ w4 ⟨rfl, hB4⟩
      have y2 := below_box hB4 (below_box HBq.out HX2.out)
      obtain ⟨f0, f1, f2, f3⟩ := two_facts y2 (.slice none 0 0)
      have HE := hide (two_set y2 (.slice none 0 0) (.int .i64 tn))
      have hBW : Below W.heap.size W w4 := HBV.out.trans ((HBq.out.trans (hB4.mono HBq.out.size)).mono HBV.out.size)
      have HBF : Hid (Below W.heap.size W ((w4.setCell ⟨sB + 2, 0, none⟩ (.slice none 0 0)).setCell ⟨sB + 2, 1, none⟩ (.int .i64 tn))) := hide ((hBW.setCell (p := ⟨sB + 2, 0, none⟩) (by have := HSB.out; show W.heap.size ≤ sB + 2; omega) _).setCell (p := ⟨sB + 2, 1, none⟩) (by have := HSB.out; show W.heap.size ≤ sB + 2; omega) _)
      have HOF : Hid (((w4.setCell ⟨sB + 2, 0, none⟩ (.slice none 0 0)).setCell ⟨sB + 2, 1, none⟩ (.int .i64 tn)).ownsRow W.heap.size 110 3 (.slice po M co) M ((passAll kd fn ar rs).flatMap Op.PU.cells)) := by
        have h9 := ownsRow_later HO.out hB4
        rw [HRS.out] at h9
        refine hide (ownsRow_only (ownsRow_base h9 HBV.out.size) ((Only.set (F := (· = sB + 2)) w4 (sB + 2) 0 _ rfl).trans (Only.set (F := (· = sB + 2)) _ (sB + 2) 1 _ rfl)) (fun b hb e => ?_))
        have e' : b = sB + 2 := e
        have := own_block_base h9 hb
        omega
      have HMF : Hid ((passAll kd fn ar rs).length = M) := hide (by rw [← HM.out, HRS.out])
      clear y2 hB4 hBW HO HM
      go_wp2
      refine bodyPost_ret (results_cell_two rfl _ _ (sB + 1 + 1) 49 _ _ _ rfl HE.out Try.underlying49 rfl (by kernel_rfl)) rfl ?_
      exact ⟨po, co, M, rfl, HMF.out, HOF.out, HBF.out⟩
end Go.Proofs.Ytbdiohbjkpeifaa
