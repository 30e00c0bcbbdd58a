/-
  The reference's Same and SameAll of states of operators that are the same; what Run, Ports and States of the program and of the reference come to, together. The conditions: lengths.
-/
import Derived.Test.YtifldnpccgbnkaaGreatRc8
import Derived.Test.YtifldnpccgbnkaaGreatRd8
import Derived.Test.YtifldnpccgbnkaaGreatRsl
import Derived.Test.YtifldnpccgbnkaaGreatRbg
namespace Go.Proofs.YtifldnpccgbnkaaGreat
open Go.RowKit Go.Shelf

/-- What an operator keeps, as it lies. -/
structure TS (w : World) (x : RV) (r : RS) : Prop where
  keys : ∃ b, w.ownsRow b 105 3 x.kv x.kn r.keys
  turn : x.turn = r.turn
  bufs : LL w x.bp x.bc x.bufs
  rs : x.bufs.map SV.rs = r.bufs
theorem TS.later {w w' : World} {x : RV} {r : RS} (h : TS w x r) (hb : Below w.heap.size w w') : TS w' x r :=
  ⟨h.keys.elim fun b h1 => ⟨b, ownsRow_later h1 hb⟩, h.turn, h.bufs.later hb, h.rs⟩
theorem TS.of_ok {w : World} {B : Nat} {x : RV} {r : RS} (h : x.ok w B) (h1 : x.keys = r.keys) (h2 : x.turn = r.turn) (h3 : x.bufs.map SV.rs = r.bufs) : TS w x r :=
  ⟨⟨B, by rw [← h1]; exact h.krow⟩, h2, ⟨LRow.of_own SV.len rfl h.brow, fun y hy => (h.bown y hy).ok⟩, h3⟩
set_option maxRecDepth 100000 in
set_option maxHeartbeats 4000000 in
theorem tsame_any {W : World} {x y : RV} {r : RS} {ks : List Op.KS} (hx : TS W x r) (hy : TS W y r) (hk : r.keys = ks.flatMap Op.KS.cells) :
    Calls Tryz.prog 26 #[.agg #[.slice x.kp x.kn x.kc, .int .i64 x.turn, .slice x.bp x.bufs.length x.bc], .agg #[.slice y.kp y.kn y.kc, .int .i64 y.turn, .slice y.bp y.bufs.length y.bc]] W fun e w' => e = .returned (.bool true) ∧ Below W.heap.size W w' := by
  obtain ⟨⟨b1, k1⟩, t1, l1, s1⟩ := hx
  obtain ⟨⟨b2, k2⟩, t2, l2, s2⟩ := hy
  rw [hk] at k1 k2
  have k1' : W.ownsRow b1 105 3 (.slice x.kp x.kn x.kc) x.kn (ks.flatMap Op.KS.cells) := k1
  have k2' : W.ownsRow b2 105 3 (.slice y.kp y.kn y.kc) y.kn (ks.flatMap Op.KS.cells) := k2
  have n1 := Op.row_len Op.KS.len k1'
  have n2 := Op.row_len Op.KS.len k2'
  have hbl : y.bufs.length = x.bufs.length := by
    have h9 := congrArg List.length (s1.trans s2.symm)
    rw [List.length_map, List.length_map] at h9
    exact h9.symm
  obtain ⟨kn, hkn⟩ : ∃ kn, x.kn = kn := ⟨_, rfl⟩
  have hkn2 : y.kn = kn := by omega
  obtain ⟨bl, hbn⟩ : ∃ bl, x.bufs.length = bl := ⟨_, rfl⟩
  obtain ⟨tn, htn⟩ : ∃ tn, r.turn = tn := ⟨_, rfl⟩
  rw [htn] at t1 t2
  rw [hkn] at k1' n1 
  rw [hkn2] at k2'
  rw [hkn, hkn2, hbl, hbn, t1, t2]
  obtain ⟨V, hV⟩ : ∃ V, V = (W.alloc (.cells #[.slice x.kp kn x.kc, .int .i64 tn, .slice x.bp bl x.bc] 60 (0, 0))).alloc (.cells #[.slice y.kp kn y.kc, .int .i64 tn, .slice y.bp bl y.bc] 60 (0, 0)) := ⟨_, rfl⟩
  have a1 := alloc_below W (.cells #[.slice x.kp kn x.kc, .int .i64 tn, .slice x.bp bl x.bc] 60 (0, 0))
  have bV : Below W.heap.size W V := by rw [hV]; exact a1.trans ((alloc_below _ _).mono a1.size)
  obtain ⟨aB, haB⟩ : ∃ aB, W.heap.size = aB := ⟨_, rfl⟩
  obtain ⟨cB, hcB⟩ : ∃ cB, aB + 1 = cB := ⟨_, rfl⟩
  have hba : V.heap[aB]? = some (.cells #[.slice x.kp kn x.kc, .int .i64 tn, .slice x.bp bl x.bc] 60 (0, 0)) := by
    rw [hV, ← haB]
    exact below_box (alloc_below _ _) (heap_alloc_new W _)
  have hbc : V.heap[cB]? = some (.cells #[.slice y.kp kn y.kc, .int .i64 tn, .slice y.bp bl y.bc] 60 (0, 0)) := by
    have h := heap_alloc_new (W.alloc (.cells #[.slice x.kp kn x.kc, .int .i64 tn, .slice x.bp bl x.bc] 60 (0, 0))) (.cells #[.slice y.kp kn y.kc, .int .i64 tn, .slice y.bp bl y.bc] 60 (0, 0))
    rw [World.size_alloc, haB, hcB] at h
    rw [hV]
    exact h
  have HS := hide (Op.same_any (tn := tn) (ownsRow_later k1' bV) (ownsRow_later k2' bV) n1)
  have HL : Hid (∀ X, Below W.heap.size W X → Calls Tryz.prog 10 #[.slice x.bp bl x.bc, .slice y.bp bl y.bc] X fun e w' => e = .returned (.bool true) ∧ Below X.heap.size X w') := hide (fun X hX => samelists_any (l1.later hX) (l2.later hX) hbn (s1.trans s2.symm))
  have HBV := hide bV
  have HBA := hide hba
  have HBC := hide hbc
  have c0 : V.cell? ⟨aB, 0, none⟩ = some (.slice x.kp kn x.kc) := by simp [World.cell?, hba]
  have c1 : V.cell? ⟨aB, 1, none⟩ = some (.int .i64 tn) := by simp [World.cell?, hba]
  have d0 : V.cell? ⟨cB, 0, none⟩ = some (.slice y.kp kn y.kc) := by simp [World.cell?, hbc]
  have d1 : V.cell? ⟨cB, 1, none⟩ = some (.int .i64 tn) := by simp [World.cell?, hbc]
  clear k1 k2 k1' k2' n1 n2 l1 l2 s1 s2 t1 t2 hbl hkn hkn2 hbn htn bV hba hbc a1 hk
  go_enter Tryz.func26, Tryz.ntmps26
  go_upto_region 1 with fail
  rw [← hV]
  try rw [haB]
  try rw [hcB]
  clear hV haB hcB
  go_wp2_with fail
  refine HS.out.mono ?_
  rintro _ w1 ⟨rfl, hB1⟩
  have y1 := below_box hB1 HBA.out
  have y2 := below_box hB1 HBC.out
  have e2 : w1.cell? ⟨aB, 2, none⟩ = some (.slice x.bp bl x.bc) := by simp [World.cell?, y1]
  have f2 : w1.cell? ⟨cB, 2, none⟩ = some (.slice y.bp bl y.bc) := by simp [World.cell?, y2]
  have HB1 := hide (HBV.out.trans (hB1.mono HBV.out.size))
  have HL1 := hide (HL.out w1 HB1.out)
  clear y1 y2 hB1 HS HL c0 c1 d0 d1
  go_wp2_with fail
  refine HL1.out.mono ?_
  rintro _ w2 ⟨rfl, hB2⟩
  have HB2 := hide (HB1.out.trans (hB2.mono HB1.out.size))
  clear hB2 HL1 e2 f2
  go_wp2
  go_ret
  exact ⟨rfl, HB2.out⟩

theorem task_cells {W : World} {base n c k : Nat} {p : Option Addr} {rv : List RV} (h : W.ownsRow base 60 3 (.slice p n c) n (rv.flatMap RV.task)) (hl : rv.length = n) (hk : k < n) {x : RV} (hx : rv[k]! = x) :
    ∃ g o, p = some ⟨g, o, none⟩ ∧ W.cell? ⟨g, o + k * 3, none⟩ = some (.slice x.kp x.kn x.kc) ∧ W.cell? ⟨g, o + k * 3 + 1, none⟩ = some (.int .i64 x.turn) ∧ W.cell? ⟨g, o + k * 3 + 2, none⟩ = some (.slice x.bp x.bufs.length x.bc) := by
  obtain ⟨g, o, e, hc⟩ := (LRow.of_own RV.tlen hl h).cell k (by omega)
  rw [hx] at hc
  exact ⟨g, o, e, hc 0 (by decide), hc 1 (by decide), hc 2 (by decide)⟩
attribute [local irreducible] wpQuiet in
set_option maxRecDepth 100000 in
set_option maxHeartbeats 8000000 in
theorem sameall_any {W : World} {b1 b2 c d n : Nat} {p q : Option Addr} {xs ys : List RV} {rs : List RS} (hx : W.ownsRow b1 60 3 (.slice p n c) n (xs.flatMap RV.task)) (hy : W.ownsRow b2 60 3 (.slice q n d) n (ys.flatMap RV.task)) (hxl : xs.length = n) (hyl : ys.length = n) (h1 : ∀ i, i < n → TS W xs[i]! rs[i]!) (h2 : ∀ i, i < n → TS W ys[i]! rs[i]!) (hk : ∀ i, i < n → ∃ ks : List Op.KS, (rs[i]!).keys = ks.flatMap Op.KS.cells) :
    Calls Tryz.prog 15 #[.slice p n c, .slice q n d] W fun e w' => e = .returned (.bool true) ∧ Below W.heap.size W w' := by
  have i1 := (own_le hx).1
  have i2 := (own_le hx).2
  have i3 := (own_le hy).1
  have i4 := (own_le hy).2
  have HX := hide hx
  have HY := hide hy
  have HXL := hide hxl
  have HYL := hide hyl
  have H1 := hide h1
  have H2 := hide h2
  have HKK := hide hk
  clear hx hy hxl hyl h1 h2 hk
  go_enter Tryz.func15, Tryz.ntmps15
  go_wp2_with fail
  go_loopw [5] (fun i wr => ∃ k : Nat, k ≤ n ∧ i = .int .i64 (k : Int) ∧ Hid (Below W.heap.size W wr)) (fun i _ => n - (intOf i).toNat)
  case atStart => exact ⟨0, Nat.zero_le _, rfl, hide (Below.refl _ _)⟩
  case round =>
    obtain ⟨k, hk, rfl, HB⟩ := hrel
    rename World => wr
    by_cases hlt : k < n
    · obtain ⟨x, hx⟩ : ∃ x, xs[k]! = x := ⟨_, rfl⟩
      obtain ⟨y, hy⟩ : ∃ y, ys[k]! = y := ⟨_, rfl⟩
      obtain ⟨g1, o1, rfl, a0, a1, a2⟩ := task_cells (ownsRow_later HX.out HB.out) HXL.out hlt hx
      obtain ⟨g2, o2, rfl, d0, d1, d2⟩ := task_cells (ownsRow_later HY.out HB.out) HYL.out hlt hy
      obtain ⟨ks, hks⟩ := HKK.out k hlt
      have hc := fun X hX => tsame_any ((H1.out k hlt).later (HB.out.trans hX)) ((H2.out k hlt).later (HB.out.trans hX)) hks (W := X)
      rw [hx, hy] at hc
      obtain ⟨xb, hxb⟩ : ∃ xb, x.bufs.length = xb := ⟨_, rfl⟩
      obtain ⟨yb, hyb⟩ : ∃ yb, y.bufs.length = yb := ⟨_, rfl⟩
      rw [hxb, hyb] at hc
      rw [hxb] at a2
      rw [hyb] at d2
      have HC : Hid (∀ X, Below wr.heap.size wr X → Calls Tryz.prog 26 #[.agg #[.slice x.kp x.kn x.kc, .int .i64 x.turn, .slice x.bp xb x.bc], .agg #[.slice y.kp y.kn y.kc, .int .i64 y.turn, .slice y.bp yb y.bc]] X fun e w' => e = .returned (.bool true) ∧ Below X.heap.size X w') := hide (fun X hX => hc X (hX.mono HB.out.size))
      have u6 : (0 : Int) ≤ (k : Int) := by omega
      have u7 : (k : Int) < (n : Int) := by omega
      clear hc hx hy hxb hyb hks
      go_upto_region 6 with fail
      refine region_class (fun X => Below wr.heap.size wr X) (by kernel_rfl) (by kernel_rfl) (Below.refl _ wr).drew ?_
      repeat
        first
          | (refine BigFrame.wpQuiet_want (by rfl) (fun K hK => ?_)
             unfold Oper.quiet
             apply Exists.intro
             refine ⟨fun X hX => ?_, hK _ ?_⟩
             · have l0 := cell_later hX a0
               have l1 := cell_later hX a1
               have l2 := cell_later hX a2
               have m0 := cell_later hX d0
               have m1 := cell_later hX d1
               have m2 := cell_later hX d2
               first
                | (go_simp; done)
                | (go_simp; exact rfl)
                | (go_simp
                   (go_at_call 26; refine (HC.out X hX).mono ?_; rintro e w3 ⟨rfl, hb3⟩; exact ⟨rfl, hX.trans (hb3.mono hX.size)⟩))
             clear hK K
             simp only [Act.put, List.setIfInBounds_toArray, List.set_cons_zero, List.set_cons_succ])
      refine wpQuiet_nil (fun X hX => ?_)
      have HB2 := hide (HB.out.trans (hX.mono HB.out.size))
      clear hX HC a0 a1 a2 d0 d1 d2
      go_wp2
      exact ⟨⟨k + 1, by omega, by first | rfl | go_num, HB2⟩, by simp [intOf]; omega⟩
    · obtain rfl : k = n := by omega
      go_wp2
      go_ret
      exact ⟨rfl, HB.out⟩

theorem keysO_is (o : GO) (l : List RC) : ∃ ks : List Op.KS, keysO o l = ks.flatMap Op.KS.cells := by
  unfold keysO
  split
  · exact ⟨_, rfl⟩
  · exact ⟨[], rfl⟩
theorem rf_keys (o : GO) (ins : List (List RC)) : ∃ ks : List Op.KS, (rfC o ins).keys = ks.flatMap Op.KS.cells := by
  unfold rfC
  split
  · exact ⟨[], rfl⟩
  · split
    · exact ⟨[], rfl⟩
    · exact keysO_is o _
theorem dn_keys {ls : List (List RC)} {os : List GO} {k : Nat} (hk : k < os.length) : ∃ ks : List Op.KS, ((dnC ls os)[k]!).keys = ks.flatMap Op.KS.cells := by
  rw [dn_get hk]
  unfold resC
  split
  · exact ⟨[], rfl⟩
  · exact rf_keys _ _
theorem rrow_nil (W : World) : RRow W none 0 [] := ⟨Nat.le_refl _, by omega, fun _ => rfl, fun i hi => absurd hi (Nat.not_lt_zero i)⟩
theorem ll_nil (W : World) : LL W none 0 [] := ⟨⟨Nat.le_refl _, by omega, fun _ => rfl, fun i hi => absurd hi (Nat.not_lt_zero i)⟩, fun x hx => (by cases hx)⟩

/-- What a Run comes to. -/
def RunAt (F : Nat) (W : World) (gv pv : Value) (es : List RC) (L : Nat) (er : Int) : Prop := ∀ X, Below W.heap.size W X → Calls Tryz.prog F #[gv, pv] X fun e w' => ∃ yp yc, e = .returned (.tuple #[.slice yp L yc, .int .i64 er]) ∧ RRow w' yp yc es ∧ Below X.heap.size X w'
def PortsAt (F : Nat) (W : World) (gv ov pv : Value) (rs : List (List RC)) (M : Nat) (er : Int) : Prop := ∀ X, Below W.heap.size W X → Calls Tryz.prog F #[gv, ov, pv] X fun e w' => ∃ yp yc, ∃ ys : List SV, e = .returned (.tuple #[.slice yp M yc, .int .i64 er]) ∧ ys.length = M ∧ LL w' yp yc ys ∧ ys.map SV.rs = rs ∧ Below X.heap.size X w'
def StatesAt (F : Nat) (W : World) (gv pv : Value) (rs : List RS) (N : Nat) (er : Int) : Prop := ∀ X, Below W.heap.size W X → Calls Tryz.prog F #[gv, pv] X fun e w' => ∃ yp yc, ∃ rv : List RV, e = .returned (.tuple #[.slice yp N yc, .int .i64 er]) ∧ w'.ownsRow X.heap.size 60 3 (.slice yp N yc) N (rv.flatMap RV.task) ∧ rv.length = N ∧ (∀ i, i < N → TS w' rv[i]! rs[i]!) ∧ Below X.heap.size X w'
theorem comes {W : World} {parts : Int} {p q : Option Addr} {cap qc n L : Nat} {os : List OV} {xs : List SV} {op : Int} (ho : GRow W p cap os) (hn : os.length = n) (hx : LL W q qc xs) (hL : xs.length = L) (hof : ∀ o ∈ os, o.o.fine) (hf : ∀ x ∈ xs, ∀ r ∈ x.rs, r.fine) (hT : ((xs.map SV.rs).map List.length).sum ≤ 1048576) :
    ∃ (es : List RC) (E : Nat) (er : Int) (rs : List (List RC)) (M : Nat) (er2 : Int) (ts : List RS) (N : Nat), es.length = E ∧ E ≤ 1048576 ∧ (∀ i, i < N → ∃ ks : List Op.KS, (ts[i]!).keys = ks.flatMap Op.KS.cells) ∧
    RunAt 4 W (.agg #[.int .i64 parts, .slice p n cap]) (.slice q L qc) es E er ∧ RunAt 5 W (.agg #[.int .i64 parts, .slice p n cap]) (.slice q L qc) es E er ∧
    PortsAt 8 W (.agg #[.int .i64 parts, .slice p n cap]) (.int .i64 op) (.slice q L qc) rs M er2 ∧ PortsAt 9 W (.agg #[.int .i64 parts, .slice p n cap]) (.int .i64 op) (.slice q L qc) rs M er2 ∧
    StatesAt 11 W (.agg #[.int .i64 parts, .slice p n cap]) (.slice q L qc) ts N er ∧ StatesAt 12 W (.agg #[.int .i64 parts, .slice p n cap]) (.slice q L qc) ts N er := by
  obtain ⟨fa, hfa⟩ : ∃ fa, faultC parts (os.map OV.o) L = fa := ⟨_, rfl⟩
  by_cases h0 : fa = 0
  · subst h0
    have hck : (checkC parts (os.map OV.o)).2 = 0 ∧ (L : Int) = parts := by
      unfold faultC at hfa
      by_cases h1 : (checkC parts (os.map OV.o)).2 = 0
      · rw [if_pos h1] at hfa
        by_cases h2 : (L : Int) = parts
        · exact ⟨h1, h2⟩
        · rw [if_neg h2] at hfa
          omega
      · rw [if_neg h1] at hfa
        exact absurd hfa h1
    have g := good_of hck.1
    have hml : (os.map OV.o).length = n := by rw [List.length_map]; exact hn
    have hof2 : ∀ o ∈ os.map OV.o, o.fine := fun o ho9 => by
      rw [List.mem_map] at ho9
      obtain ⟨x, hx9, rfl⟩ := ho9
      exact hof x hx9
    have hf2 : ∀ l ∈ xs.map SV.rs, ∀ r ∈ l, r.fine := fun l hl => by
      rw [List.mem_map] at hl
      obtain ⟨x, hx9, rfl⟩ := hl
      exact hf x hx9
    have hll : ((xs.map SV.rs).length : Int) = parts := by rw [List.length_map, hL]; exact hck.2
    obtain ⟨s, f, j, k1, k2, k3, k4, k5⟩ := g.sink
    rw [hml] at k2
    have hport : (((dnC (xs.map SV.rs) (os.map OV.o))[f]!).ports[j]!).length ≤ 1048576 := by
      have hjl : j < ((dnC (xs.map SV.rs) (os.map OV.o))[f]!).ports.length := by rw [dn_ports (by omega)]; omega
      refine Nat.le_trans (port_le (k := f) g hll (by rw [hml]; omega) _ ?_) hT
      rw [getElem!_pos _ j hjl]
      exact List.getElem_mem _
    have hfit := fits_dn (m := (os.map OV.o).length) g hll hof2 hf2 hT (Nat.le_refl _)
    rw [List.take_length] at hfit
    have hlen : ∀ x ∈ xs, x.rs.length ≤ lenB := fun x hx9 => by
      have := mem_sum (xs.map SV.rs) x.rs (List.mem_map_of_mem hx9)
      unfold lenB
      omega
    have hrun : RunAt 4 W (.agg #[.int .i64 parts, .slice p n cap]) (.slice q L qc) (((dnC (xs.map SV.rs) (os.map OV.o))[f]!).ports[j]!) (((dnC (xs.map SV.rs) (os.map OV.o))[f]!).ports[j]!).length 0 := fun X hX =>
      (run_full g hck.2 (ho.below hX) hn (hx.later hX) rfl hL hfa hof2 hf2 hT k1 k2 k3 k4 k5).mono (by rintro _ w' ⟨yp, yc, N, rfl, h1, h2, h3⟩; exact ⟨yp, yc, by rw [h1], h2, h3⟩)
    have hrunr : RunAt 5 W (.agg #[.int .i64 parts, .slice p n cap]) (.slice q L qc) (((dnC (xs.map SV.rs) (os.map OV.o))[f]!).ports[j]!) (((dnC (xs.map SV.rs) (os.map OV.o))[f]!).ports[j]!).length 0 := fun X hX =>
      (rrun_ok g hck.2 (ho.below hX) hn (hx.later hX) rfl hL hfa hof2 hf2 hT k1 k2 k3 k4 k5).mono (by rintro _ w' ⟨yp, yc, N, rfl, h1, h2, h3⟩; exact ⟨yp, yc, by rw [h1], h2, h3⟩)
    have hst : StatesAt 11 W (.agg #[.int .i64 parts, .slice p n cap]) (.slice q L qc) (dnC (xs.map SV.rs) (os.map OV.o)) n 0 := fun X hX =>
      (states_ok (rf := rfC) (ho.below hX) hn (hx.later hX) hL hfa hfit hlen).mono (by
        rintro _ w' ⟨sb, db, rv, rfl, h1, h2, h3⟩
        refine ⟨_, _, rv, rfl, h1, h2.len, fun i hi => ?_, h3⟩
        obtain ⟨e1, e2, e3, _⟩ := h2.plain i hi
        exact TS.of_ok (h2.ok i hi) e1 e2 e3)
    have hstr : StatesAt 12 W (.agg #[.int .i64 parts, .slice p n cap]) (.slice q L qc) (dnC (xs.map SV.rs) (os.map OV.o)) n 0 := fun X hX =>
      (rstates_ok g hck.2 (ho.below hX) hn (hx.later hX) rfl hL hfa hof2 hf2 hT).mono (by
        rintro _ w' ⟨po, co, pt, ct, rv, rfl, h1, h3⟩
        refine ⟨_, _, rv, rfl, h1.sts, h1.len, fun i hi => ?_, h3⟩
        have e := h1.plain i hi
        exact TS.of_ok (h1.ok _ (by rw [getElem!_pos rv i (by rw [h1.len]; exact hi)]; exact List.getElem_mem _)) (by rw [← e]; rfl) (by rw [← e]; rfl) (by rw [← e]; rfl))
    by_cases hop : op < 0 ∨ (n : Int) ≤ op
    · exact ⟨_, _, 0, [], 0, 1, _, n, rfl, hport, fun i hi => dn_keys (by omega), hrun, hrunr,
        fun X hX => (ports_no (ho.below hX) hn hfa hop).mono (by rintro _ w' ⟨rfl, h1⟩; exact ⟨none, 0, [], rfl, rfl, ll_nil _, rfl, h1⟩),
        fun X hX => (rports_no (ho.below hX) hn hfa hop).mono (by rintro _ w' ⟨rfl, h1⟩; exact ⟨none, 0, [], rfl, rfl, ll_nil _, rfl, h1⟩), hst, hstr⟩
    · obtain ⟨k, rfl⟩ : ∃ k : Nat, op = (k : Int) := ⟨op.toNat, by omega⟩
      have hk : k < n := by omega
      refine ⟨_, _, 0, ((dnC (xs.map SV.rs) (os.map OV.o))[k]!).ports, ((dnC (xs.map SV.rs) (os.map OV.o))[k]!).ports.length, 0, _, n, rfl, hport, fun i hi => dn_keys (by omega), hrun, hrunr,
        fun X hX => (ports_full g hck.2 (ho.below hX) hn (hx.later hX) rfl hL hfa hof2 hf2 hT hk).mono ?_, fun X hX => (rports_ok g hck.2 (ho.below hX) hn (hx.later hX) rfl hL hfa hof2 hf2 hT hk).mono ?_, hst, hstr⟩
      · rintro _ w' ⟨M, pp, pc, ys, rfl, h1, _, h2, h3, h4⟩
        have e : ((dnC (xs.map SV.rs) (os.map OV.o))[k]!).ports.length = M := by rw [← h3, List.length_map]; exact h1
        rw [e]
        exact ⟨pp, pc, ys, rfl, h1, h2, h3, h4⟩
      · rintro _ w' ⟨M, pp, pc, ys, rfl, h1, h2, h3, h4⟩
        have e : ((dnC (xs.map SV.rs) (os.map OV.o))[k]!).ports.length = M := by rw [← h3, List.length_map]; exact h1
        rw [e]
        exact ⟨pp, pc, ys, rfl, h1, h2, h3, h4⟩
  · exact ⟨[], 0, fa, [], 0, fa, [], 0, rfl, by omega, fun i hi => absurd hi (Nat.not_lt_zero i),
      fun X hX => (run_err (ho.below hX) hn hfa h0).mono (by rintro _ w' ⟨rfl, h1⟩; exact ⟨none, 0, rfl, rrow_nil _, h1⟩),
      fun X hX => (rrun_err (ho.below hX) hn hfa h0).mono (by rintro _ w' ⟨rfl, h1⟩; exact ⟨none, 0, rfl, rrow_nil _, h1⟩),
      fun X hX => (ports_err (ho.below hX) hn hfa h0).mono (by rintro _ w' ⟨rfl, h1⟩; exact ⟨none, 0, [], rfl, rfl, ll_nil _, rfl, h1⟩),
      fun X hX => (rports_err (ho.below hX) hn hfa h0).mono (by rintro _ w' ⟨rfl, h1⟩; exact ⟨none, 0, [], rfl, rfl, ll_nil _, rfl, h1⟩),
      fun X hX => (states_err (ho.below hX) hn hfa h0).mono (by rintro _ w' ⟨rfl, h1⟩; exact ⟨none, 0, [], rfl, World.ownsRow_nil _ _ _ _, rfl, fun i hi => absurd hi (Nat.not_lt_zero i), h1⟩),
      fun X hX => (rstates_err (ho.below hX) hn hfa h0).mono (by rintro _ w' ⟨rfl, h1⟩; exact ⟨none, 0, [], rfl, World.ownsRow_nil _ _ _ _, rfl, fun i hi => absurd hi (Nat.not_lt_zero i), h1⟩)⟩
end Go.Proofs.YtifldnpccgbnkaaGreat

/-
  RunComes, as the program is given: true for every graph, every list of records of its partitions and every operator's number, as far as the statement's own bound on the sizes of its arguments goes.
-/
namespace Go.Proofs.YtifldnpccgbnkaaGreat.runComes
open Go.RowKit Go.Shelf Go.Proofs.YtifldnpccgbnkaaGreat Go.ChangeShapes Go.WideShapes Go.ChangeAt

set_option maxRecDepth 100000 in
set_option maxHeartbeats 8000000 in
theorem walk {W : World} {parts op : Int} {gp p1 : Option Addr} {gc c1 : Nat} {os : List OV} {xs : List SV} (_ : I6 parts) (hG : GRow W gp gc os) (hgf : ∀ o ∈ os, o.o.fine) (_ : weightG (os.map OV.o) + 1 ≤ 1048576) (hx : LL W p1 c1 xs) (hxf : ∀ x ∈ xs, ∀ r ∈ x.rs, r.fine) (hw : weightL (xs.map SV.rs) + 1 ≤ 1048576) (_ : I6 op) :
    Calls Tryz.prog 3 #[.agg #[.int .i64 parts, .slice gp os.length gc], .slice p1 xs.length c1, .int .i64 op] W fun e w' => e = .returned (.bool true) ∧ Below W.heap.size W w' := by
  obtain ⟨n, hn⟩ : ∃ n, os.length = n := ⟨_, rfl⟩
  obtain ⟨L, hL⟩ : ∃ n, xs.length = n := ⟨_, rfl⟩
  obtain ⟨es, E, er, rs, M, er2, ts, N, hE, hEb, hks, R1, R2, P1, P2, S1, S2⟩ := comes (parts := parts) (op := op) hG hn hx hL hgf hxf (by have := plain_sum (xs.map SV.rs); omega)
  rw [hn, hL]
  obtain ⟨V, hV⟩ : ∃ V, V = W.alloc (.cells #[.int .i64 parts, .slice gp n gc] 24 (0, 0)) := ⟨_, rfl⟩
  have hbV : Below W.heap.size W V := by rw [hV]; exact alloc_below _ _
  obtain ⟨gB, hgB⟩ : ∃ gB, W.heap.size = gB := ⟨_, rfl⟩
  have x0 : V.heap[gB]? = some (.cells #[.int .i64 parts, .slice gp n gc] 24 (0, 0)) := by rw [hV, ← hgB]; exact heap_alloc_new _ _
  have HX0 := hide x0
  have HBV := hide hbV
  have HE := hide hE
  have HEB := hide hEb
  have HKS := hide hks
  have HR1 := hide R1
  have HR2 := hide R2
  have HP1 := hide P1
  have HP2 := hide P2
  have HS1 := hide S1
  have HS2 := hide S2
  have HG0 : Hid (∀ X, Below V.heap.size V X → X.cell? ⟨gB, 0, none⟩ = some (.int .i64 parts) ∧ X.cell? ⟨gB, 1, none⟩ = some (.slice gp n gc)) := hide (fun X hX => by
    have y := below_box hX HX0.out
    exact ⟨by simp [World.cell?, y], by simp [World.cell?, y]⟩)
  have q1 : (er != er) = false := by simp
  have q2 : (er2 != er2) = false := by simp
  have q3 : (er == er) = true := by simp
  have HC1 := hide (R1 V hbV)
  clear hG hgf hx hxf hw hn hL hE hEb hks R1 R2 P1 P2 S1 S2 hbV x0
  go_enter Tryz.func3, Tryz.ntmps3
  go_wp2_with fail
  rw [← hV]
  try rw [hgB]
  clear hV hgB
  refine HC1.out.mono ?_
  rintro _ w1 ⟨y1, e1, rfl, r1, b1⟩
  have HV1 : Hid (Below V.heap.size V w1) := hide b1
  have HRW1 := hide r1
  have HC2 := hide (HR2.out w1 (HBV.out.trans (b1.mono HBV.out.size)))
  obtain ⟨g0, g1⟩ := HG0.out w1 b1
  clear r1 b1 HC1
  go_wp2_with fail
  refine HC2.out.mono ?_
  rintro _ w2 ⟨y2, e2, rfl, r2, b2⟩
  have HV2 : Hid (Below V.heap.size V w2) := hide (HV1.out.trans (b2.mono HV1.out.size))
  have HRA2 := hide (RRow.later HRW1.out b2)
  have HRB2 := hide r2
  clear r2 b2 HC2 g0 g1 HRW1
  go_wp2_with fail
  refine begun_any.mono ?_
  rintro _ w3 ⟨rfl, b3⟩
  have HV3 : Hid (Below V.heap.size V w3) := hide (HV2.out.trans (b3.mono HV2.out.size))
  have HRB3 := hide (RRow.later HRB2.out b3)
  have HC3 := hide (samerec_any (RRow.later HRA2.out b3) HRB3.out HE.out)
  clear b3 HRA2 HRB2
  go_wp2_with fail
  refine HC3.out.mono ?_
  rintro _ w4 ⟨rfl, b4⟩
  have HV4 : Hid (Below V.heap.size V w4) := hide (HV3.out.trans (b4.mono HV3.out.size))
  have HRB4 := hide (RRow.later HRB3.out b4)
  have HC4 := hide (HP1.out w4 (HBV.out.trans (HV4.out.mono HBV.out.size)))
  obtain ⟨g0, g1⟩ := HG0.out w4 HV4.out
  clear b4 HC3 HRB3
  go_wp2_with fail
  refine HC4.out.mono ?_
  rintro _ w5 ⟨y5, e5, ys5, rfl, l5, ll5, m5, b5⟩
  have HV5 : Hid (Below V.heap.size V w5) := hide (HV4.out.trans (b5.mono HV4.out.size))
  have HRB5 := hide (RRow.later HRB4.out b5)
  have HL5 := hide ll5
  have HM5 := hide m5
  have HN5 := hide l5
  have HC5 := hide (HP2.out w5 (HBV.out.trans (HV5.out.mono HBV.out.size)))
  obtain ⟨k0, k1⟩ := HG0.out w5 HV5.out
  clear b5 ll5 m5 l5 HC4 HRB4 g0 g1
  go_wp2_with fail
  refine HC5.out.mono ?_
  rintro _ w6 ⟨y6, e6, ys6, rfl, l6, ll6, m6, b6⟩
  have HV6 : Hid (Below V.heap.size V w6) := hide (HV5.out.trans (b6.mono HV5.out.size))
  have HRB6 := hide (RRow.later HRB5.out b6)
  have HC6 := hide (samelists_any (HL5.out.later b6) ll6 HN5.out (HM5.out.trans m6.symm))
  clear b6 ll6 m6 l6 HC5 HRB5 HL5 HM5 HN5 k0 k1
  go_wp2_with fail
  refine HC6.out.mono ?_
  rintro _ w7 ⟨rfl, b7⟩
  have HV7 : Hid (Below V.heap.size V w7) := hide (HV6.out.trans (b7.mono HV6.out.size))
  have HRB7 := hide (RRow.later HRB6.out b7)
  have HC7 := hide (HS1.out w7 (HBV.out.trans (HV7.out.mono HBV.out.size)))
  obtain ⟨g0, g1⟩ := HG0.out w7 HV7.out
  clear b7 HC6 HRB6
  go_wp2_with fail
  refine HC7.out.mono ?_
  rintro _ w8 ⟨y8, e8, rv8, rfl, o8, l8, t8, b8⟩
  have HV8 : Hid (Below V.heap.size V w8) := hide (HV7.out.trans (b8.mono HV7.out.size))
  have HRB8 := hide (RRow.later HRB7.out b8)
  have HO8 := hide o8
  have HN8 := hide l8
  have HT8 := hide t8
  have HC8 := hide (HS2.out w8 (HBV.out.trans (HV8.out.mono HBV.out.size)))
  obtain ⟨k0, k1⟩ := HG0.out w8 HV8.out
  clear b8 o8 l8 t8 HC7 HRB7 g0 g1
  go_wp2_with fail
  refine HC8.out.mono ?_
  rintro _ w9 ⟨y9, e9, rv9, rfl, o9, l9, t9, b9⟩
  have HV9 : Hid (Below V.heap.size V w9) := hide (HV8.out.trans (b9.mono HV8.out.size))
  have HRB9 := hide (RRow.later HRB8.out b9)
  have HO8' := hide (ownsRow_later HO8.out b9)
  have HT8' : Hid (∀ i, i < N → TS w9 rv8[i]! ts[i]!) := hide (fun i hi => (HT8.out i hi).later b9)
  have HO9 := hide o9
  have HN9 := hide l9
  have HT9 := hide t9
  have HC9 := hide (out_any (W := w9) rfl (fun X hX => HR1.out X ((HBV.out.trans (HV9.out.mono HBV.out.size)).trans (hX.mono (Nat.le_trans HBV.out.size HV9.out.size)))) HE.out)
  obtain ⟨g0, g1⟩ := HG0.out w9 HV9.out
  clear b9 o9 l9 t9 HC8 HRB8 HO8 HT8 k0 k1
  go_wp2_with fail
  refine HC9.out.mono ?_
  rintro _ wa ⟨kb, pk, ck, rfl, ka, ba⟩
  have HVa : Hid (Below V.heap.size V wa) := hide (HV9.out.trans (ba.mono HV9.out.size))
  have HBa := hide ba
  have HCa := hide (told_any ka HE.out (by have := HEB.out; omega))
  clear ba ka HC9 g0 g1
  go_wp2_with fail
  refine HCa.out.mono ?_
  rintro _ wb ⟨pb, cb, rfl, ob, bb⟩
  have HVb : Hid (Below V.heap.size V wb) := hide (HVa.out.trans (bb.mono HVa.out.size))
  have hb9 : Below w9.heap.size w9 wb := HBa.out.trans (bb.mono HBa.out.size)
  have HRBb := hide (RRow.later HRB9.out hb9)
  have HLb : Hid (RRow wb pb cb es) := hide (LRow.of_own RC.len HE.out ob)
  have HCb := hide (sameall_any (ownsRow_later HO8'.out hb9) (ownsRow_later HO9.out hb9) HN8.out HN9.out (fun i hi => (HT8'.out i hi).later hb9) (fun i hi => (HT9.out i hi).later hb9) HKS.out)
  clear bb ob hb9 HCa HRB9 HO8' HO9 HT8' HT9 HBa
  go_wp2_with fail
  refine HCb.out.mono ?_
  rintro _ wc ⟨rfl, bc⟩
  have HVc : Hid (Below V.heap.size V wc) := hide (HVb.out.trans (bc.mono HVb.out.size))
  have HCc := hide (samerec_any (RRow.later HLb.out bc) (RRow.later HRBb.out bc) HE.out)
  clear bc HCb
  go_wp2_with fail
  refine HCc.out.mono ?_
  rintro _ wd ⟨rfl, bd⟩
  have HVd : Hid (Below W.heap.size W wd) := hide (HBV.out.trans ((HVc.out.trans (bd.mono HVc.out.size)).mono HBV.out.size))
  clear bd HCc
  go_wp2
  go_ret
  exact ⟨rfl, HVd.out⟩
theorem short {H : Type} {d0 d1 d2 : DataW H} (hk : Rows.uptoSmall H [d0, d1, d2] = true) : Rows.uptoBulk d0 ≤ 1048576 ∧ Rows.uptoBulk d1 ≤ 1048576 ∧ Rows.uptoBulk d2 ≤ 1048576 := by
  have h : Rows.uptoBulkAll [d0, d1, d2] ≤ 1048576 := of_decide_eq_true hk
  simp only [Rows.uptoBulkAll] at h
  omega

set_option maxRecDepth 100000 in
theorem contract (H : Type) (enc : TypeId × Value → H) (W : World) (base : Nat) (args : Array Value) (ds gs : List (DataW H)) (before : List MemPlace)
    (hval : ∀ (j : Nat) t v, Tryz.f3.params[j]? = some t → args[j]? = some v → Value.okWide Tryz.prog W .any base t v)
    (hW : DataW.Whole enc Tryz.prog Tryz.f3.params.toList Rows.runComesSpec.vars false W args.toList ds gs before) (hk : Rows.uptoSmall H (ds ++ gs) = true) :
    Calls Tryz.prog 3 args W fun e W' => ∃ v, e = .returned v ∧ Rows.runComesSpec.post enc Tryz.prog Tryz.f3 false true false false W args v W' := by
  have hW' := hW
  obtain ⟨p, q, hA0, hV, rfl, hfz, hnd⟩ := hW
  have hA : DataW.TrodAll enc Tryz.prog W 0 (fun _ => true) true Tryz.f3.params.toList args.toList ds p := hA0
  rw [Tryz.params3] at hA hval
  obtain ⟨v0, vs0, d0, ds0, p0, q0, hargs, rfl, rfl, h0, r0⟩ := trodAll_cons hA
  obtain ⟨v1, vs1, d1, ds1, p1, q1, rfl, rfl, rfl, h1, r1⟩ := trodAll_cons r0
  obtain ⟨v2, vs2, d2, ds2, p2, q2, rfl, rfl, rfl, h2, r2⟩ := trodAll_cons r1
  obtain ⟨rfl, rfl, rfl⟩ := trodAll_nil r2
  obtain rfl : args = #[v0, v1, v2] := by cases args; simp_all
  obtain ⟨rfl, rfl⟩ := trodVars_none hV
  obtain ⟨cs0, rfl, hcs0⟩ := okWide_struct Tryz.underlying24 (hval 0 24 v0 rfl rfl)
  rw [Tryz.cellsGraph] at hcs0
  obtain ⟨a1, len1, cap1, rfl⟩ := okWide_slice Tryz.underlying25 (hval 1 25 v1 rfl rfl)
  have k0 := h0
  have lt0 : ∀ x ∈ p0, x.block < W.heap.size := by obtain ⟨m, hm⟩ := k0; exact DataW.trod_lt m _ _ _ hm
  obtain ⟨f0, hf0⟩ := h0
  have hcc0 : (Value.agg cs0).cells.toList = cs0.toList := by simp [Value.cells]
  rw [hcc0] at hf0
  obtain ⟨parts0, gp0, gc0, os0, rfl, I0, G0, F0, B0⟩ := arg_graph hcs0 hf0
  have k1 := h1
  have lt1 : ∀ x ∈ p1, x.block < W.heap.size := by obtain ⟨m, hm⟩ := k1; exact DataW.trod_lt m _ _ _ hm
  obtain ⟨f1, hf1⟩ := h1
  have hcc1 : (Value.slice a1 len1 cap1).cells.toList = [.slice a1 len1 cap1] := by simp [Value.cells]
  rw [hcc1] at hf1
  obtain ⟨pp1, pc1, xs1, ee1, R1, F1, B1⟩ := arg_lists hf1
  simp only [Value.slice.injEq] at ee1
  obtain ⟨rfl, rfl, rfl⟩ := ee1
  obtain ⟨n2, rfl, rfl, rfl, wi2⟩ := open_int Tryz.underlying3 (hval 2 3 v2 rfl rfl) h2
  have bd2 := bounds_i64 wi2
  simp only [List.append_nil] at hk
  obtain ⟨s0, s1, s2⟩ := short hk
  simp only at B0
  simp only at B1
  clear hA0
  refine (walk I0 G0 F0 (by omega) R1 F1 (by omega) ⟨bd2.1, by have := bd2.2; omega⟩).mono fun e W' ⟨he, bel⟩ => ?_
  subst he
  exact ⟨_, rfl, _, _, _, [], _, [], hW', trodAll_mk1 (shut_bool Tryz.underlying4 _), (trodAll_cons_mk (Below.trod Tryz.laidOut (by kernel_rfl) (of_decide_eq_true (by kernel_rfl)) k0 bel lt0) (trodAll_cons_mk (Below.trod Tryz.laidOut (by kernel_rfl) (of_decide_eq_true (by kernel_rfl)) k1 bel lt1) (trodAll_cons_mk (shut_int Tryz.underlying3 wi2) trodAll_mk0))), rfl, bel.frame _, fun h => by cases h⟩

set_option maxRecDepth 100000 in
theorem lifted (os : Os) (started : os.Started) (H : Type) (enc : TypeId × Value → H) (F : Stop.Interp) :
    ReturnsInHanded {} Tryz.checked os 3 .any ((Rows.OpenSpec.upto Rows.runComesSpec).pre6 enc Tryz.prog Tryz.f3 Rows.runComesUptoRow.domain false) (((Rows.OpenSpec.upto Rows.runComesSpec).at F).post enc Tryz.prog Tryz.f3 false true false false) := by
  refine returnsInHanded_of_cond (C := Tryz.checked) (s := Rows.OpenSpec.upto Rows.runComesSpec) (k := Rows.uptoSmall) rfl Tryz.ownK started (by kernel_rfl) Tryz.func3
    (OpenSpec.witness (enc := enc) (C := Tryz.checked) (s := Rows.OpenSpec.upto Rows.runComesSpec) (k := Rows.uptoSmall) rfl false ⟨#[], #[.agg #[.int .i64 0, .slice none 0 0], .slice none 0 0, .int .i64 0], []⟩ 8 (by kernel_rfl) (by kernel_rfl) (by kernel_rfl)
      (x := ([.agg [.lit (.int .i64 0), .nil], .nil, .lit (.int .i64 0)], [], [])) (by kernel_rfl) rfl (by kernel_rfl)) ?_
  intro W base args ds gs before hval hW _ hk _
  exact contract H enc W base args ds gs before hval hW hk

set_option maxRecDepth 100000 in
theorem proved : Rows.RunComesUptoSaid :=
  OpenClaim.holds_of_cond 3 Tryz.f3 rfl rfl rfl rfl rfl rfl rfl ⟨rfl, rfl, rfl, rfl, rfl⟩ rfl rfl rfl rfl rfl (by kernel_rfl) Tryz.func3 (by kernel_rfl)
    (of_decide_eq_true (by kernel_rfl)) (by unfold Func.isWrapper; first | (rw [if_pos (by decide +kernel)]; kernel_rfl) | (rw [if_neg (by decide +kernel)]; exact ⟨rfl, rfl⟩))
    (fun os started H enc _ F => lifted os started H enc F)

end Go.Proofs.YtifldnpccgbnkaaGreat.runComes
