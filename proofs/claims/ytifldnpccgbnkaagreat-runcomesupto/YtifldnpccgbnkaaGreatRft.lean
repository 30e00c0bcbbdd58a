/-
  The program's resultOf of an operator that is neither a source, a union nor a sink. The conditions: lengths.
-/
import Derived.Test.YtifldnpccgbnkaaGreatRgw
import Derived.Test.YtifldnpccgbnkaaGreatOal
import Derived.Laws.Closers25b
namespace Go.Proofs.YtifldnpccgbnkaaGreat
open Go.RowKit Go.Shelf

theorem all_solo {W : World} {p : Option Addr} {c N : Nat} {rs : List RC} {kd pt fn ar : Int} {ins : List GE} {ip : Option Addr} {n ic : Nat} (ha : I6 ar) (h : RRow W p c rs) (hN : rs.length = N) (hb : N ≤ 1048576) (hri : ∀ r ∈ rs, r.fine) : Calls Tryz.prog 42 #[.agg #[.int .i64 kd, .int .i64 pt, .int .i64 fn, .int .i64 ar, .slice ip n ic], .agg #[.slice none 0 0, .int .i64 0], .slice p N c] W fun e w' => ∃ pk ck K po co M, e = .returned (.tuple #[.agg #[.slice pk K ck, .int .i64 0], .slice po M co]) ∧ (putsC ⟨kd, pt, fn, ar, ins⟩ rs).length = M ∧ w'.ownsRow W.heap.size 105 3 (.slice pk K ck) K (keysO ⟨kd, pt, fn, ar, ins⟩ rs) ∧ w'.ownsRow W.heap.size 103 3 (.slice po M co) M ((putsC ⟨kd, pt, fn, ar, ins⟩ rs).flatMap Op.PU.cells) ∧ Below W.heap.size W w' := by
  cases hk : Op.keepsC kd with
  | true =>
    refine (Op.all_keeps hk h hN hb (fun r hr => (hri r hr).1)).mono ?_
    rintro _ w' ⟨pk, ck, K, po, co, M, rfl, _, h2, h3, h4, h5⟩
    have e1 : putsC ⟨kd, pt, fn, ar, ins⟩ rs = Op.outsC kd fn ar Op.ST.none rs := by unfold putsC; rw [if_pos hk]
    have e2 : keysO ⟨kd, pt, fn, ar, ins⟩ rs = (Op.finC (Op.stateC kd fn ar Op.ST.none rs) (Op.keysC (rs.map RC.key))).flatMap Op.KS.cells := by unfold keysO; rw [if_pos hk]
    rw [e1, e2]
    exact ⟨pk, ck, K, po, co, M, rfl, h2, h3, h4, h5⟩
  | false =>
    refine (all_pass hk ha h hN hb hri).mono ?_
    rintro _ w' ⟨po, co, M, rfl, h2, h4, h5⟩
    have hk2 : ¬ Op.keepsC kd = true := by rw [hk]; decide
    have e1 : putsC ⟨kd, pt, fn, ar, ins⟩ rs = passAll kd fn ar rs := by unfold putsC; rw [if_neg hk2]
    have e2 : keysO ⟨kd, pt, fn, ar, ins⟩ rs = [] := by unfold keysO; rw [if_neg hk2]
    rw [e1, e2]
    exact ⟨none, 0, 0, po, co, M, rfl, h2, World.ownsRow_nil _ _ _ _, h4, h5⟩
theorem outs_port (kd fn ar : Int) : ∀ (rs : List RC) (s : Op.ST), ∀ x ∈ Op.outsC kd fn ar s rs, x.port = 0
  | [], _, x, h => by cases h
  | r :: rs, s, x, h => by
    have h' : x ∈ Op.outC kd fn ar s r ++ Op.outsC kd fn ar (Op.stepC kd fn ar s r) rs := h
    rw [List.mem_append] at h'
    rcases h' with h1 | h1
    · unfold Op.outC Op.tellC at h1
      split at h1
      · cases h1
      · simp only [List.mem_singleton] at h1
        rw [h1]
    · exact outs_port kd fn ar rs _ x h1
theorem puts_port {o : GO} (hk : 1 ≤ o.kind ∧ o.kind ≤ 8) (h7 : o.kind = 7 → 2 ≤ o.arg ∧ o.arg ≤ 4) {rs : List RC} : ∀ x ∈ putsC o rs, 0 ≤ x.port ∧ x.port < portsC o.kind o.arg := by
  intro x hx
  unfold putsC at hx
  have hp1 : o.kind ≠ 7 → portsC o.kind o.arg = 1 := fun h => by unfold portsC; rw [if_neg h, if_pos hk]
  split at hx
  · rename_i hkp
    have h0 := outs_port _ _ _ _ _ x hx
    have hn7 : o.kind ≠ 7 := fun e => by rw [e] at hkp; cases hkp
    rw [hp1 hn7]
    omega
  · unfold passAll at hx
    rw [List.mem_flatMap] at hx
    obtain ⟨r, _, hr⟩ := hx
    unfold Op.passC at hr
    split at hr
    · rename_i hpk
      split at hr
      · simp only [List.mem_singleton] at hr
        have hn7 : o.kind ≠ 7 := fun e => by rw [e] at hpk; cases hpk
        rw [hp1 hn7, hr]
        simp only
        omega
      · cases hr
    · split at hr
      · rename_i h8
        simp only [List.mem_singleton] at hr
        have h9 := h7 h8
        have hb := Op.restC_bd (x := r.key) (a := o.arg) (by omega)
        have : portsC o.kind o.arg = o.arg := by unfold portsC; rw [if_pos h8, if_pos h9]
        rw [this, hr]
        exact hb
      · cases hr
theorem row_two {w : World} {B q n k : Nat} {e : TypeId} {v a b : Value} {xs : List Value} (h : w.ownsRow B e k v n xs) (hq : q < B) : ((w.setCell ⟨q, 0, none⟩ a).setCell ⟨q, 1, none⟩ b).ownsRow B e k v n xs :=
  ownsRow_only h ((Only.set (F := (· = q)) w q 0 a rfl).trans (Only.set (F := (· = q)) _ q 1 b rfl)) (fun c hc e => by
    have e' : c = q := e
    have := own_block_base h hc
    omega)

set_option maxRecDepth 100000 in
set_option maxHeartbeats 8000000 in
theorem soloR_any {o : GO} (hk2 : 2 ≤ o.kind) (hk7 : o.kind ≤ 7) (h7 : o.kind = 7 → 2 ≤ o.arg ∧ o.arg ≤ 4) (ha : I6 o.arg) (hi : 0 < o.ins.length) : ResAt o (soloC o) := by
  intro W ip p ic cap n xs hx hn hno hn4 hlb hfi
  have hpp : ∀ rs : List RC, ∀ x ∈ putsC o rs, 0 ≤ x.port ∧ x.port < portsC o.kind o.arg := fun rs => puts_port ⟨by omega, by omega⟩ h7
  obtain ⟨kd, pt, fn, ar, ins⟩ := o
  simp only at hk2 hk7 hi hno ha hpp
  obtain ⟨il, hil⟩ : ∃ il, ins.length = il := ⟨_, rfl⟩
  simp only [hil]
  rw [hil] at hno hi
  subst hno
  have i1 := hx.row.le
  have i2 := hx.row.top
  rw [hn] at i1
  have e8 : (kd == 8) = false := ne_eq (by omega)
  obtain ⟨P, hP⟩ : ∃ P : Nat, portsC kd ar = (P : Int) := ⟨(portsC kd ar).toNat, by have := (portsC_le kd ar).1; omega⟩
  have hP4 : P ≤ 4 := by have := (portsC_le kd ar).2; omega
  have HPO : Hid (∀ X, Calls Tryz.prog 44 #[.agg #[.int .i64 kd, .int .i64 pt, .int .i64 fn, .int .i64 ar, .slice ip n ic]] X fun e w' => e = .returned (.int .i64 (P : Int)) ∧ Below X.heap.size X w') := hide (fun X => by rw [← hP]; exact ports_any)
  obtain ⟨V, hV⟩ : ∃ V, V = (W.alloc (.cells #[.int .i64 kd, .int .i64 pt, .int .i64 fn, .int .i64 ar, .slice ip n ic] 55 (0, 0))).alloc (.cells #[.slice none 0 0, .slice none 0 0, .int .i64 0, .slice none 0 0] 62 (0, 0)) := ⟨_, rfl⟩
  have a1 := alloc_below W (.cells #[.int .i64 kd, .int .i64 pt, .int .i64 fn, .int .i64 ar, .slice ip n ic] 55 (0, 0))
  have a2 := alloc_below (W.alloc (.cells #[.int .i64 kd, .int .i64 pt, .int .i64 fn, .int .i64 ar, .slice ip n ic] 55 (0, 0))) (.cells #[.slice none 0 0, .slice none 0 0, .int .i64 0, .slice none 0 0] 62 (0, 0))
  have hbV : Below W.heap.size W V := by rw [hV]; exact a1.trans (a2.mono a1.size)
  obtain ⟨oB, hoB⟩ : ∃ oB, W.heap.size = oB := ⟨_, rfl⟩
  have hop : V.heap[oB]? = some (.cells #[.int .i64 kd, .int .i64 pt, .int .i64 fn, .int .i64 ar, .slice ip n ic] 55 (0, 0)) := by rw [hV, ← hoB]; exact below_box a2 (heap_alloc_new W _)
  have hres : V.heap[oB + 1]? = some (.cells #[.slice none 0 0, .slice none 0 0, .int .i64 0, .slice none 0 0] 62 (0, 0)) := by
    have e : oB + 1 = (W.alloc (.cells #[.int .i64 kd, .int .i64 pt, .int .i64 fn, .int .i64 ar, .slice ip n ic] 55 (0, 0))).heap.size := by rw [← hoB]; simp
    rw [hV, e]
    exact heap_alloc_new _ _
  have hVs : oB + 2 ≤ V.heap.size := by rw [hV, ← hoB]; simp
  obtain ⟨g, o2, rfl, hc⟩ := (hx.later hbV).at (show 0 < xs.length by omega)
  have hxm : xs[0]! ∈ xs := by rw [getElem!_pos xs 0 (by omega)]; exact List.getElem_mem _
  have hrow : RRow V (xs[0]!).p (xs[0]!).c (xs[0]!).rs := (hx.later hbV).ok _ hxm
  have hlb0 := hlb _ hxm
  have hfi0 := hfi _ hxm
  obtain ⟨xp, hxp⟩ : ∃ xp, (xs[0]!).p = xp := ⟨_, rfl⟩
  obtain ⟨xc, hxc⟩ : ∃ xc, (xs[0]!).c = xc := ⟨_, rfl⟩
  obtain ⟨rs, hrs⟩ : ∃ rs, (xs[0]!).rs = rs := ⟨_, rfl⟩
  rw [hxp, hxc, hrs] at hc hrow
  rw [hrs] at hlb0 hfi0
  unfold lenB at hlb0
  have hrs0 : (xs.map SV.rs)[0]! = rs := by rw [← hrs, getElem!_pos _ 0 (by simpa using (show 0 < xs.length by omega)), List.getElem_map, getElem!_pos xs 0 (by omega)]
  have hsolo : soloC ⟨kd, pt, fn, ar, ins⟩ (xs.map SV.rs) = ⟨byC P (putsC ⟨kd, pt, fn, ar, ins⟩ rs), keysO ⟨kd, pt, fn, ar, ins⟩ rs, 0, []⟩ := by
    unfold soloC
    rw [hrs0]
    simp only [hP, Int.toNat_natCast]
  rw [hsolo]
  have hppr := hpp rs
  rw [hP] at hppr
  have hpl := puts_len ⟨kd, pt, fn, ar, ins⟩ rs
  have hAll : ∀ X, Below V.heap.size V X → ∀ N, rs.length = N → Calls Tryz.prog 42 #[.agg #[.int .i64 kd, .int .i64 pt, .int .i64 fn, .int .i64 ar, .slice ip n ic], .agg #[.slice none 0 0, .int .i64 0], .slice xp N xc] X fun e w' => ∃ pk ck K po co M, e = .returned (.tuple #[.agg #[.slice pk K ck, .int .i64 0], .slice po M co]) ∧ (putsC ⟨kd, pt, fn, ar, ins⟩ rs).length = M ∧ w'.ownsRow X.heap.size 105 3 (.slice pk K ck) K (keysO ⟨kd, pt, fn, ar, ins⟩ rs) ∧ w'.ownsRow X.heap.size 103 3 (.slice po M co) M ((putsC ⟨kd, pt, fn, ar, ins⟩ rs).flatMap Op.PU.cells) ∧ Below X.heap.size X w' := fun X hX N hN => all_solo ha (RRow.later hrow hX) hN (by omega) hfi0
  obtain ⟨puts, hputs⟩ : ∃ l, putsC ⟨kd, pt, fn, ar, ins⟩ rs = l := ⟨_, rfl⟩
  obtain ⟨keys, hkeys⟩ : ∃ l, keysO ⟨kd, pt, fn, ar, ins⟩ rs = l := ⟨_, rfl⟩
  rw [hputs] at hAll hppr hpl ⊢
  rw [hkeys] at hAll ⊢
  obtain ⟨N, hN⟩ : ∃ N, rs.length = N := ⟨_, rfl⟩
  rw [hN] at hc
  have hputb : puts.length ≤ 1048576 := by omega
  have hc0 : V.cell? ⟨g, o2, none⟩ = some (.slice xp N xc) := hc
  have HA : Hid (∀ X, Below V.heap.size V X → Calls Tryz.prog 42 #[.agg #[.int .i64 kd, .int .i64 pt, .int .i64 fn, .int .i64 ar, .slice ip n ic], .agg #[.slice none 0 0, .int .i64 0], .slice xp N xc] X fun e w' => ∃ pk ck K po co M, e = .returned (.tuple #[.agg #[.slice pk K ck, .int .i64 0], .slice po M co]) ∧ puts.length = M ∧ w'.ownsRow X.heap.size 105 3 (.slice pk K ck) K keys ∧ w'.ownsRow X.heap.size 103 3 (.slice po M co) M (puts.flatMap Op.PU.cells) ∧ Below X.heap.size X w') := hide (fun X hX => hAll X hX N hN)
  have d0 : V.cell? ⟨oB, 0, none⟩ = some (.int .i64 kd) := by simp [World.cell?, hop]
  have d1 : V.cell? ⟨oB, 1, none⟩ = some (.int .i64 pt) := by simp [World.cell?, hop]
  have d2 : V.cell? ⟨oB, 2, none⟩ = some (.int .i64 fn) := by simp [World.cell?, hop]
  have d3 : V.cell? ⟨oB, 3, none⟩ = some (.int .i64 ar) := by simp [World.cell?, hop]
  have d4 : V.cell? ⟨oB, 4, none⟩ = some (.slice ip n ic) := by simp [World.cell?, hop]
  have HBV := hide hbV
  have HRES := hide hres
  have HOP := hide hop
  have HOB := hide hoB
  have HPP := hide hppr
  have HPB := hide hputb
  have HP4 := hide hP4
  clear hx hn hlb hfi hbV hres hop a1 a2 hil hrow hxp hxc hrs hN hc hxm hAll hppr hpl hputs hkeys hpp hrs0 hsolo hlb0 hfi0 hputb hP hP4 ha h7 hk2 hk7
  go_enter Tryz.func31, Tryz.ntmps31
  go_upto_region 5 with fail
  rw [← hV]
  clear hV
  have ab := alloc_below V (.cells #[.slice none 0 0, .int .i64 0] 58 (0, 0))
  have m0 := cell_later ab hc0
  have m1 := cell_later ab d0
  have m2 := cell_later ab d1
  have m3 := cell_later ab d2
  have m4 := cell_later ab d3
  have m5 := cell_later ab d4
  go_cut [9, 10] from 30 to 39 (fun s9 s10 wd => ∃ (q : Nat) (pk : Option Addr) (ck K : Nat) (po : Option Addr) (co M : Nat), s9 = .pointer (some ⟨q, 0, none⟩) ∧ s10 = .slice po M co ∧ Hid (wd.heap[q]? = some (.cells #[.slice pk K ck, .int .i64 0] 58 (0, 0))) ∧ Hid (Below V.heap.size V wd) ∧ Hid (V.heap.size ≤ q) ∧ Hid (puts.length = M) ∧ Hid (wd.ownsRow V.heap.size 105 3 (.slice pk K ck) K keys) ∧ Hid (wd.ownsRow V.heap.size 103 3 (.slice po M co) M (puts.flatMap Op.PU.cells)))
  case first =>
    go_region_with (go_at_call 42; refine (HA.out _ ?_).mono ?_; · first | exact (Below.refl _ V).drew | exact (alloc_below V _).drew
                    rintro _ w1 ⟨pk, ck, K, po, co, M, rfl, hM, hOK, hOM, hB1⟩; try (obtain ⟨k0, k1, k2, k3⟩ := two_facts (below_box hB1 (heap_alloc_new V _)) (.slice pk K ck)))
    all_goals
      go_wp2_with fail
      go_meet
      case rel =>
        first
        | exact ⟨_, pk, ck, K, po, co, M, rfl, rfl, hide (heap_alloc_new w1 _), hide ((below_undrew hB1).trans ((alloc_below w1 _).mono hB1.size)), hide hB1.size, hide hM, hide (ownsRow_later hOK (alloc_below w1 _)), hide (ownsRow_later hOM (alloc_below w1 _))⟩
        | exact ⟨_, pk, ck, K, po, co, M, rfl, rfl, hide (two_set (below_box (below_undrew hB1) (heap_alloc_new V _)) _ _), hide (((ab.trans ((below_undrew hB1).mono ab.size)).setCell (p := ⟨V.heap.size, 0, none⟩) (Nat.le_refl _) _).setCell (p := ⟨V.heap.size, 1, none⟩) (Nat.le_refl _) _), hide (Nat.le_refl _), hide hM, hide (ownsRow_base (row_two hOK (by simp)) ab.size), hide (ownsRow_base (row_two hOM (by simp)) ab.size)⟩
  case rest =>
  obtain ⟨q, pk, ck, K, po, co, M, rfl, rfl, HQ, HBQ, HVQ, HM, HOK, HOM⟩ := hcut
  rename World => w2
  clear HA ab m0 m1 m2 m3 m4 m5
  have y0 := below_box HBQ.out HOP.out
  have e0 : w2.cell? ⟨oB, 0, none⟩ = some (.int .i64 kd) := by simp [World.cell?, y0]
  have e1 : w2.cell? ⟨oB, 1, none⟩ = some (.int .i64 pt) := by simp [World.cell?, y0]
  have e2 : w2.cell? ⟨oB, 2, none⟩ = some (.int .i64 fn) := by simp [World.cell?, y0]
  have e3 : w2.cell? ⟨oB, 3, none⟩ = some (.int .i64 ar) := by simp [World.cell?, y0]
  have e4 : w2.cell? ⟨oB, 4, none⟩ = some (.slice ip n ic) := by simp [World.cell?, y0]
  have q0 : w2.cell? ⟨q, 0, none⟩ = some (.slice pk K ck) := by simp [World.cell?, HQ.out]
  have q1 : w2.cell? ⟨q, 1, none⟩ = some (.int .i64 0) := by simp [World.cell?, HQ.out]
  have HR2 := hide (below_box HBQ.out HRES.out)
  have HBY : Hid (∀ X, Below w2.heap.size w2 X → Calls Tryz.prog 43 #[.slice po M co, .int .i64 (P : Int)] X fun e w' => ∃ g ys, e = .returned (.slice (some ⟨g, 0, none⟩) P P) ∧ BP w' X.heap.size g P ys ∧ (∀ i, i < P → (ys[i]!).rs = onlyP i puts) ∧ Below X.heap.size X w') := hide (fun X hX => byPorts_any (LRow.of_own Op.PU.len HM.out (ownsRow_later HOM.out hX)) HM.out (by have := HPB.out; have := HM.out; omega) HP4.out HPP.out)
  clear y0 d0 d1 d2 d3 d4 hc0
  go_wp2_with fail
  go_region_with (first
    | (go_at_call 44; refine (HPO.out _).mono ?_; rintro _ w3 ⟨rfl, hB3⟩; have s0 := cell_later hB3 q0; have s1 := cell_later hB3 q1)
    | (go_at_call 43; refine (HBY.out _ (below_undrew hB3)).mono ?_; rintro _ w4 ⟨g4, ys, rfl, hBP, hYS, hB4⟩; have t0 := cell_later hB4 s0; have t1 := cell_later hB4 s1; obtain ⟨f0, f1, f2, f3, f4, f5, f6, f7⟩ := res_facts (below_box hB4 (below_box (below_undrew hB3) HR2.out)) (.slice (some ⟨g4, 0, none⟩) P P) (.slice pk K ck) (.int .i64 0)))
  all_goals
    have hB34 : Below w2.heap.size w2 w4 := (below_undrew hB3).trans (hB4.mono hB3.size)
    have hb9 : Below V.heap.size V w4 := HBQ.out.trans (hB34.mono HBQ.out.size)
    have r4 := below_box hB4 (below_box (below_undrew hB3) HR2.out)
    have hBW4 : Below W.heap.size W w4 := HBV.out.trans (hb9.mono HBV.out.size)
    have hO5 := set4_only w4 (oB + 1) (.slice (some ⟨g4, 0, none⟩) P P) (.slice pk K ck) (.int .i64 0) (.slice none 0 0)
    have HE := hide (set4_heap r4 (.slice (some ⟨g4, 0, none⟩) P P) (.slice pk K ck) (.int .i64 0) (.slice none 0 0))
    have HBF : Hid (Below W.heap.size W (set4 w4 (oB + 1) (.slice (some ⟨g4, 0, none⟩) P P) (.slice pk K ck) (.int .i64 0) (.slice none 0 0))) := hide (hBW4.trans (hO5.below hBW4.size (fun i e => by have e' : i = oB + 1 := e; have := HOB.out; omega)))
    have hle3 : W.heap.size ≤ w3.heap.size := Nat.le_trans HBV.out.size (Nat.le_trans HBQ.out.size hB3.size)
    have hkeep : ∀ (v : Value) (e : TypeId) (k m : Nat) (zs : List Value), w4.ownsRow W.heap.size e k v m zs → e ≠ 62 → (set4 w4 (oB + 1) (.slice (some ⟨g4, 0, none⟩) P P) (.slice pk K ck) (.int .i64 0) (.slice none 0 0)).ownsRow W.heap.size e k v m zs := fun v e k m zs h9 hn9 =>
      ownsRow_only h9 hO5 (fun b hb e9 => by
        have e' : b = oB + 1 := e9
        subst e'
        obtain ⟨_, cur, h10⟩ := own_block_lt h9 hb
        rw [r4] at h10
        simp only [Option.some.injEq, Obj.cells.injEq] at h10
        exact hn9 h10.2.1.symm)
    have HP : Hid ((set4 w4 (oB + 1) (.slice (some ⟨g4, 0, none⟩) P P) (.slice pk K ck) (.int .i64 0) (.slice none 0 0)).ownsRow W.heap.size 26 1 (.slice (some ⟨g4, 0, none⟩) ys.length P) ys.length (ys.flatMap SV.cells)) := hide (by rw [hBP.len]; exact hkeep _ _ _ _ _ (ownsRow_base hBP.row hle3) (by decide))
    have HPW : Hid (∀ y ∈ ys, y.own (set4 w4 (oB + 1) (.slice (some ⟨g4, 0, none⟩) P P) (.slice pk K ck) (.int .i64 0) (.slice none 0 0)) W.heap.size) := hide (fun y hy => by
      obtain ⟨i, hi, rfl⟩ := List.getElem_of_mem hy
      have h9 := hBP.own i (by have := hBP.len; omega)
      rw [getElem!_pos ys i hi] at h9
      exact hkeep _ _ _ _ _ (ownsRow_base h9 hle3) (by decide))
    have HKW : Hid ((set4 w4 (oB + 1) (.slice (some ⟨g4, 0, none⟩) P P) (.slice pk K ck) (.int .i64 0) (.slice none 0 0)).ownsRow W.heap.size 105 3 (.slice pk K ck) K keys) := hide (hkeep _ _ _ _ _ (ownsRow_base (ownsRow_later HOK.out hB34) HBV.out.size) (by decide))
    have HYL := hide hBP.len
    have HPL : Hid (ys.map SV.rs = byC P puts) := hide (by
      apply List.ext_getElem
      · rw [List.length_map, by_len, hBP.len]
      · intro i h1 h2
        have hi : i < P := by rw [by_len] at h2; exact h2
        rw [List.getElem_map, ← getElem!_pos ys i (by rw [hBP.len]; exact hi), hYS i hi, ← getElem!_pos (byC P puts) i h2, by_get _ hi])
    unfold set4 at HE HBF HP HPW HKW
    clear hb9 r4 hBW4 hO5 hBP hYS hB4 hB3 hB34 hkeep
    go_wp2
    refine bodyPost_ret (results_cell_row rfl _ _ (oB + 1) 62 _ _ _ rfl HE.out Tryz.underlying62 rfl (by kernel_rfl)) rfl ?_
    refine ⟨⟨ys, some ⟨g4, 0, none⟩, P, keys, pk, K, ck, 0, [], none, 0⟩, ?_, ⟨HP.out, HPW.out, HKW.out, World.ownsRow_nil _ _ _ _, fun y hy => (by cases hy), fun g _ h9 => (by simp [RV.bv, Value.ownBlock] at h9)⟩, ?_, HBF.out⟩
    · simp only [RV.val, RV.pv, RV.kv, RV.bv, HYL.out]
      rfl
    · simp only [RV.plain, HPL.out]
      rfl
end Go.Proofs.YtifldnpccgbnkaaGreat

/-
  What the operators of a graph without a fault come to fits the program's results, plainly. Nothing is walked.
-/
namespace Go.Proofs.YtifldnpccgbnkaaGreat
open Go.RowKit Go.Shelf

theorem wrap_I6 (n : Int) : I6 (wrap64 n) := by unfold I6 wrap64; omega
theorem mapped_I6 {fn ar v : Int} (hv : I6 v) : I6 (Op.mappedC fn ar v) := by
  unfold Op.mappedC
  split
  · exact wrap_I6 _
  · split
    · exact wrap_I6 _
    · split
      · exact wrap_I6 _
      · split
        · exact bits_within .xor .i64 v ar
        · exact hv
theorem rest_I6 {x a : Int} (ha : I6 a) : I6 (Op.restC x a) := by
  by_cases h : 1 ≤ a
  · have := Op.restC_bd (x := x) h
    unfold I6 at ha ⊢
    omega
  · unfold Op.restC
    rw [if_pos (by omega)]
    exact ⟨by omega, by omega⟩
theorem value_I6 {kd fn ar k v : Int} (hk : I6 k) (hv : I6 v) (ha : I6 ar) : I6 (Op.valueC kd fn ar k v).1 ∧ I6 (Op.valueC kd fn ar k v).2 := by
  unfold Op.valueC
  split
  · exact ⟨hk, mapped_I6 hv⟩
  · split
    · refine ⟨?_, hv⟩
      show I6 (Op.keyedC fn ar k v)
      unfold Op.keyedC
      split
      · exact rest_I6 ha
      · split
        · exact rest_I6 ha
        · split
          · exact ha
          · exact hk
    · exact ⟨hk, hv⟩
theorem acc_I6 {fn cnt acc v : Int} (ha : I6 acc) (hv : I6 v) : I6 (Op.accC fn cnt acc v) := by
  unfold Op.accC
  split
  · split
    · exact ⟨by decide, by decide⟩
    · exact hv
  · split
    · exact wrap_I6 _
    · split
      · exact wrap_I6 _
      · unfold I6 at ha hv ⊢
        split
        · omega
        · split
          · omega
          · exact hv
theorem outs_fine (kd fn ar : Int) : ∀ (rs : List RC) (s : Op.ST), (∀ k, I6 (s k).2) → (∀ r ∈ rs, r.fine) → ∀ x ∈ Op.outsC kd fn ar s rs, (recP x).fine
  | [], _, _, _, x, h => by cases h
  | r :: rs, s, hs, hf, x, h => by
    have hr := hf r (by simp)
    have h' : x ∈ Op.outC kd fn ar s r ++ Op.outsC kd fn ar (Op.stepC kd fn ar s r) rs := h
    rw [List.mem_append] at h'
    rcases h' with h1 | h1
    · unfold Op.outC Op.tellC at h1
      split at h1
      · cases h1
      · simp only [List.mem_singleton] at h1
        rw [h1]
        exact ⟨hr.1, acc_I6 (hs _) hr.2⟩
    · refine outs_fine kd fn ar rs _ (fun k => ?_) (fun r hr => hf r (by simp [hr])) x h1
      unfold Op.stepC
      split
      · split
        · exact acc_I6 (hs k) hr.2
        · exact ⟨by decide, by decide⟩
      · exact hs k
theorem puts_fine {o : GO} (ha : I6 o.arg) {rs : List RC} (hf : ∀ r ∈ rs, r.fine) : ∀ x ∈ putsC o rs, (recP x).fine := by
  intro x hx
  unfold putsC at hx
  split at hx
  · exact outs_fine _ _ _ rs _ (fun k => ⟨by show _ ≤ (0 : Int); decide, by show (0 : Int) ≤ _; decide⟩) hf x hx
  · unfold passAll at hx
    rw [List.mem_flatMap] at hx
    obtain ⟨r, hr, hx⟩ := hx
    have hrf := hf r hr
    unfold Op.passC at hx
    split at hx
    · split at hx
      · simp only [List.mem_singleton] at hx
        rw [hx]
        exact value_I6 hrf.1 hrf.2 ha
      · cases hx
    · split at hx
      · simp only [List.mem_singleton] at hx
        rw [hx]
        exact hrf
      · cases hx
theorem taken_fine {ls : List (List RC)} (hn : 0 < ls.length) (hf : ∀ l ∈ ls, ∀ r ∈ l, r.fine) : ∀ r ∈ takenC ls 0 (turnN ls 0), r.fine := by
  intro r hr
  unfold takenC at hr
  rw [List.mem_map] at hr
  obtain ⟨j, hj, rfl⟩ := hr
  have h1 := (turn_stop (ls := ls) (t := 0) hn).long j (by simpa using hj)
  unfold LongC lenAt at h1
  have hw := who_lt (n := ls.length) (t := 0) (N := j) hn
  unfold recAt
  refine hf (ls[whoC ls.length 0 j]!) (by rw [getElem!_pos ls _ hw]; exact List.getElem_mem _) _ ?_
  rw [getElem!_pos (ls[whoC ls.length 0 j]!) (j / ls.length) h1]
  exact List.getElem_mem _
theorem rf_fine {o : GO} (ha : I6 o.arg) {ins : List (List RC)} (hn : 0 < ins.length) (hf : ∀ l ∈ ins, ∀ r ∈ l, r.fine) : ∀ l ∈ (rfC o ins).ports, ∀ r ∈ l, r.fine := by
  unfold rfC
  by_cases h8 : o.kind = 8
  · rw [if_pos h8]
    intro l hl r hr
    have hl' : l ∈ [takenC ins 0 (turnN ins 0)] := hl
    simp only [List.mem_singleton] at hl'
    subst hl'
    exact taken_fine hn hf r hr
  · rw [if_neg h8]
    by_cases h9 : o.kind = 9
    · rw [if_pos h9]
      intro l hl
      cases hl
    · rw [if_neg h9]
      intro l hl r hr
      have hl' : l ∈ byC (portsC o.kind o.arg).toNat (putsC o (ins[0]!)) := hl
      unfold byC onlyP at hl'
      rw [List.mem_map] at hl'
      obtain ⟨p, _, rfl⟩ := hl'
      rw [List.mem_map] at hr
      obtain ⟨x, hx, rfl⟩ := hr
      refine puts_fine ha (rs := ins[0]!) (fun r hr => hf (ins[0]!) ?_ r hr) x (List.mem_filter.1 hx).1
      rw [getElem!_pos ins 0 hn]
      exact List.getElem_mem _
theorem get_fine {ls : List (List RC)} (hf : ∀ l ∈ ls, ∀ r ∈ l, r.fine) (i : Nat) : ∀ r ∈ ls[i]!, r.fine := by
  intro r hr
  by_cases hi : i < ls.length
  · rw [getElem!_pos ls i hi] at hr
    exact hf _ (List.getElem_mem _) r hr
  · rw [getElem!_neg ls i hi] at hr
    cases hr
theorem dn_fine {parts : Int} {os : List GO} {ls : List (List RC)} (g : Good parts os) (ho : ∀ o ∈ os, o.fine) (hf : ∀ l ∈ ls, ∀ r ∈ l, r.fine) : ∀ k, k < os.length → ∀ l ∈ ((dnC ls os)[k]!).ports, ∀ r ∈ l, r.fine := by
  intro k
  induction k using Nat.strongRecOn with
  | ind k ih =>
    intro hk
    rw [dn_res g hk]
    unfold resC
    by_cases h1 : (os[k]!).kind = 1
    · rw [if_pos h1]
      intro l hl r hr
      have hl' : l ∈ [ls[(os[k]!).part.toNat]!] := hl
      simp only [List.mem_singleton] at hl'
      rw [hl'] at hr
      exact get_fine hf _ r hr
    · rw [if_neg h1]
      refine rf_fine (ho _ (by rw [getElem!_pos os k hk]; exact List.getElem_mem _)).2.2.2.1 (by rw [List.length_map]; exact (g.ins hk h1).1) ?_
      intro l hl r hr
      rw [List.mem_map] at hl
      obtain ⟨e, he, rfl⟩ := hl
      have := g.edge hk he
      exact get_fine (ih _ (by omega) (by omega)) _ r hr
theorem Good.route {parts : Int} {os : List GO} (g : Good parts os) {k : Nat} (hk : k < os.length) (h7 : (os[k]!).kind = 7) : 2 ≤ (os[k]!).arg ∧ (os[k]!).arg ≤ 4 := by
  have hf := (one_zero (scan_good g.scan hk).2).2.2.2.1
  unfold fieldsC at hf
  rw [if_neg (by omega)] at hf
  unfold fitC at hf
  rw [if_neg (by omega), if_neg (by omega), if_neg (by omega), if_neg (by omega), if_pos h7] at hf
  rw [Bool.and_eq_true, decide_eq_true_eq] at hf
  exact hf.2.2
theorem res_all {parts : Int} {os : List GO} (g : Good parts os) (ho : ∀ o ∈ os, o.fine) {k : Nat} (hk : k < os.length) (h1 : (os[k]!).kind ≠ 1) : ResAt os[k]! (rfC os[k]!) := by
  have hi := (g.ins hk h1).1
  have hkd := g.kind hk
  by_cases h8 : (os[k]!).kind = 8
  · have e : rfC os[k]! = unionC := funext fun ins => by unfold rfC; rw [if_pos h8]
    rw [e]
    exact union_any h8 hi
  · by_cases h9 : (os[k]!).kind = 9
    · have e : rfC os[k]! = sinkC := funext fun ins => by unfold rfC; rw [if_neg h8, if_pos h9]
      rw [e]
      exact sinkR_any h9 hi
    · have e : rfC os[k]! = soloC os[k]! := funext fun ins => by unfold rfC; rw [if_neg h8, if_neg h9]
      rw [e]
      exact soloR_any (by omega) (by omega) (g.route hk) (ho _ (by rw [getElem!_pos os k hk]; exact List.getElem_mem _)).2.2.2.1 hi
theorem fits_dn {parts : Int} {os : List GO} {ls : List (List RC)} (g : Good parts os) (hl : (ls.length : Int) = parts) (ho : ∀ o ∈ os, o.fine) (hf : ∀ l ∈ ls, ∀ r ∈ l, r.fine) (hT : (ls.map List.length).sum ≤ 1048576) {m : Nat} (hm : m ≤ os.length) : Fits rfC (os.take m) ls (dnC ls (os.take m)) := by
  have hlen : (os.take m).length = m := by rw [List.length_take]; omega
  have hget : ∀ k, k < m → (dnC ls (os.take m))[k]! = (dnC ls os)[k]! := fun k hk => dn_take_get hk hm
  have hog : ∀ k, k < m → (os.take m)[k]! = os[k]! := fun k hk => take_get hm hk
  refine ⟨dn_len _ _, fun k hk => ?_, fun k hk h1 => ?_, fun k hk h1 => ?_, ?_, fun k hk h1 => ?_, fun k hk l hl2 => ?_, by rw [hlen]; exact Nat.le_trans hm g.len⟩
  · rw [hlen] at hk
    rw [hget k hk, hog k hk, dn_res g (by omega)]
    exact res_same (fun e he => by have := g.edge (by omega) he; exact (hget _ (by omega)).symm)
  · rw [hlen] at hk
    rw [hog k hk] at h1 ⊢
    have := g.part (by omega) h1
    exact ⟨this.1, by omega, this.2.2⟩
  · rw [hlen] at hk
    rw [hog k hk] at h1 ⊢
    refine ⟨(g.ins (by omega) h1).2, fun e he => ?_⟩
    obtain ⟨e1, e2, e3, e4⟩ := g.edge (by omega) he
    obtain ⟨f, p⟩ := e
    simp only at e1 e2 e3 e4
    refine ⟨f.toNat, p.toNat, ?_, by omega, ?_⟩
    · rw [Int.toNat_of_nonneg e1, Int.toNat_of_nonneg e3]
    · rw [hget _ (by omega), dn_ports (by omega)]
      omega
  · have hnd := flat_nodup g.scan
    have e0 : flatC os = flatC (os.take m) ++ flatC (os.drop m) := by
      conv => lhs; rw [← List.take_append_drop m os]
      unfold flatC
      rw [List.flatMap_append]
    rw [e0, List.nodup_append] at hnd
    exact hnd.1
  · rw [hlen] at hk
    rw [hog k hk] at h1 ⊢
    exact res_all g ho (by omega) h1
  · rw [hlen] at hk
    rw [hget k hk] at hl2
    refine ⟨?_, dn_fine g ho hf k (by omega) l hl2⟩
    have := port_le g hl (by omega) l hl2
    unfold lenB
    omega
end Go.Proofs.YtifldnpccgbnkaaGreat
