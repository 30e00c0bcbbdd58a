/-
  The reference's one of an operator that is no union. The conditions: lengths.
-/
import Derived.Test.YtifldnpccgbnkaaGreatRa7
import Derived.Test.YtifldnpccgbnkaaGreatRft
import Derived.Test.YtifldnpccgbnkaaGreatRrt
namespace Go.Proofs.YtifldnpccgbnkaaGreat
open Go.RowKit Go.Shelf

/-- What the reference's one comes to, of an operator that is no union. -/
def soloA (o : GO) (rs : List RC) : RS := ⟨byC (portsC o.kind o.arg).toNat (Op.putsA o.kind o.fn o.arg rs), (Op.keptA o.kind o.fn o.arg rs).flatMap Op.KS.cells, 0, []⟩
theorem putsA_is (o : GO) (rs : List RC) : Op.putsA o.kind o.fn o.arg rs = putsC o rs ∧ (Op.keptA o.kind o.fn o.arg rs).flatMap Op.KS.cells = keysO o rs := by
  unfold Op.putsA Op.keptA putsC keysO
  by_cases h : Op.keepsC o.kind = true
  · rw [if_pos h, if_pos h, if_pos h, if_pos h, (Op.allR_nil h rs).1, (Op.allR_nil h rs).2]
    exact ⟨rfl, rfl⟩
  · rw [if_neg h, if_neg h, if_neg h, if_neg h]
    exact ⟨rfl, rfl⟩
theorem soloA_is (o : GO) (ins : List (List RC)) : soloA o (ins[0]!) = soloC o ins := by
  unfold soloA soloC
  rw [(putsA_is o _).1, (putsA_is o _).2]
theorem passAll_source (fn ar : Int) (rs : List RC) : passAll 1 fn ar rs = rs.map (fun r => (⟨0, r.key, r.val⟩ : Op.PU)) := by
  induction rs with
  | nil => rfl
  | cons r rs ih =>
    show Op.passC 1 fn ar r.key r.val ++ passAll 1 fn ar rs = _
    rw [ih]
    rfl
theorem only_source (rs : List RC) : onlyP 0 (rs.map (fun r => (⟨0, r.key, r.val⟩ : Op.PU))) = rs := by
  induction rs with
  | nil => rfl
  | cons r rs ih =>
    unfold onlyP at ih ⊢
    rw [List.map_cons, List.filter_cons_of_pos (by rfl), List.map_cons, ih]
    rfl
theorem solo_source {o : GO} (hk : o.kind = 1) (rs : List RC) : soloA o rs = ⟨[rs], [], 0, []⟩ := by
  obtain ⟨kd, pt, fn, ar, ins⟩ := o
  simp only at hk
  subst hk
  have hkp : ¬ Op.keepsC 1 = true := by decide
  unfold soloA Op.putsA Op.keptA
  simp only
  rw [if_neg hkp, if_neg hkp, passAll_source]
  have e : (portsC 1 ar).toNat = 1 := rfl
  rw [e]
  show (⟨[onlyP 0 _], [], 0, []⟩ : RS) = _
  rw [only_source]
theorem solo_sink {o : GO} (hk : o.kind = 9) (rs : List RC) : soloA o rs = ⟨[], [], 0, []⟩ := by
  obtain ⟨kd, pt, fn, ar, ins⟩ := o
  simp only at hk
  subst hk
  have hkp : ¬ Op.keepsC 9 = true := by decide
  unfold soloA Op.putsA Op.keptA
  simp only
  rw [if_neg hkp, if_neg hkp]
  rfl
theorem task_facts {w : World} {b : Nat} {t : TypeId} {c0 c1 c2 : Value} (h : w.heap[b]? = some (.cells #[c0, c1, c2] t (0, 0))) (d0 d1 : Value) :
    w.cell? ⟨b, 0, none⟩ = some c0 ∧ w.frozen? ⟨b, 0, none⟩ = false ∧ (w.setCell ⟨b, 0, none⟩ d0).cell? ⟨b, 1, none⟩ = some c1 ∧ (w.setCell ⟨b, 0, none⟩ d0).frozen? ⟨b, 1, none⟩ = false ∧
    ((w.setCell ⟨b, 0, none⟩ d0).setCell ⟨b, 1, none⟩ d1).cell? ⟨b, 2, none⟩ = some c2 ∧ ((w.setCell ⟨b, 0, none⟩ d0).setCell ⟨b, 1, none⟩ d1).frozen? ⟨b, 2, none⟩ = false := by
  have h1 := heap_setCell_same w b 0 _ _ d0 h
  have h2 := heap_setCell_same _ b 1 _ _ d1 h1
  refine ⟨by simp [World.cell?, h], by simp [World.frozen?, h], ?_, ?_, ?_, ?_⟩
  · simp only [World.cell?]; rw [h1]; rfl
  · simp only [World.frozen?]; rw [h1]; rfl
  · simp only [World.cell?]; rw [h2]; rfl
  · simp only [World.frozen?]; rw [h2]; rfl
theorem results_two_cell {P : Program} {fn : Func} {p u : Tmp} {ty : TypeId} (h : fn.results = #[.tmp u, .cell p ty]) (tmps : Array Value) (w : World) (g : Nat) (t : TypeId) (cs : Array Value) (fr : Nat × Nat) (d : TypeDesc)
    (hp : tmps.getD p undef = .pointer (some ⟨g, 0, none⟩)) (hg : w.heap[g]? = some (.cells cs t fr))
    (hu : P.underlying ty = some d) (hd : (match d with | .struct _ | .array _ _ => true | _ => false) = true) (hi : (P.info? ty).map (·.size) = some cs.size) :
    (results fn tmps).run P w = .ok (.tuple #[tmps.getD u undef, .agg cs]) w := by
  have hp' : tmps[p]?.getD undef = .pointer (some ⟨g, 0, none⟩) := by simpa using hp
  have hl := run_loadVar_row (P := P) w g t ty cs fr d hg hu hd hi
  simp only [results, h]
  simp [Result.andThen, hp', asAddr, hl]

def set3T (W : World) (b : Nat) (d0 d1 d2 : Value) : World := ((W.setCell ⟨b, 0, none⟩ d0).setCell ⟨b, 1, none⟩ d1).setCell ⟨b, 2, none⟩ d2
theorem set3T_heap {W : World} {b : Nat} {t : TypeId} {c0 c1 c2 : Value} (h : W.heap[b]? = some (.cells #[c0, c1, c2] t (0, 0))) (d0 d1 d2 : Value) : (set3T W b d0 d1 d2).heap[b]? = some (.cells #[d0, d1, d2] t (0, 0)) :=
  heap_setCell_same _ b 2 _ _ d2 (heap_setCell_same _ b 1 _ _ d1 (heap_setCell_same W b 0 _ _ d0 h))
theorem set3T_only (W : World) (b : Nat) (d0 d1 d2 : Value) : Only (· = b) W (set3T W b d0 d1 d2) :=
  (Only.set (F := (· = b)) W b 0 d0 rfl).trans ((Only.set (F := (· = b)) _ b 1 d1 rfl).trans (Only.set (F := (· = b)) _ b 2 d2 rfl))
/-- What one answers, as it lies. -/
theorem one_ok {W w : World} {B g P K : Nat} {pk : Option Addr} {ck : Nat} {ys : List SV} {keys : List Value} {tB : Nat} {d0 d1 d2 : Value} {cs : Array Value} (hBP : BP w B g P ys) (hk : w.ownsRow B 105 3 (.slice pk K ck) K keys) (ht : w.heap[tB]? = some (.cells cs 60 (0, 0))) (hB : W.heap.size ≤ B) :
    RV.ok ⟨ys, some ⟨g, 0, none⟩, P, keys, pk, K, ck, 0, [], none, 0⟩ (set3T w tB d0 d1 d2) W.heap.size := by
  have hO := set3T_only w tB d0 d1 d2
  have hkeep : ∀ (v : Value) (e : TypeId) (k m : Nat) (zs : List Value), w.ownsRow B e k v m zs → e ≠ 60 → (set3T w tB d0 d1 d2).ownsRow W.heap.size e k v m zs := fun v e k m zs h9 hn9 =>
    ownsRow_only (ownsRow_base h9 hB) hO (fun b hb e9 => by
      have e' : b = tB := e9
      subst e'
      obtain ⟨_, cur, h10⟩ := own_block_lt h9 hb
      rw [ht] at h10
      simp only [Option.some.injEq, Obj.cells.injEq] at h10
      exact hn9 h10.2.1.symm)
  refine ⟨?_, fun y hy => ?_, hkeep _ _ _ _ _ hk (by decide), World.ownsRow_nil _ _ _ _, fun y hy => (by cases hy), fun g _ h9 => (by simp [RV.bv, Value.ownBlock] at h9)⟩
  · show (set3T w tB d0 d1 d2).ownsRow W.heap.size 26 1 (.slice (some ⟨g, 0, none⟩) ys.length P) ys.length (ys.flatMap SV.cells)
    rw [hBP.len]
    exact hkeep _ _ _ _ _ hBP.row (by decide)
  · obtain ⟨i, hi, rfl⟩ := List.getElem_of_mem hy
    have h9 := hBP.own i (by have := hBP.len; have h8 : i < ys.length := hi; omega)
    rw [getElem!_pos ys i hi] at h9
    exact hkeep _ _ _ _ _ h9 (by decide)

/-- What one has from All, while it puts records to ports. -/
structure OI (w : World) (B q : Nat) (pk : Option Addr) (ck K : Nat) (po : Option Addr) (co M : Nat) (keys ps : List Value) : Prop where
  box : w.heap[q]? = some (.cells #[.slice pk K ck, .int .i64 0] 58 (0, 0))
  keys : w.ownsRow B 105 3 (.slice pk K ck) K keys
  puts : w.ownsRow B 103 3 (.slice po M co) M ps
theorem OI.other {w w' : World} {B q : Nat} {pk : Option Addr} {ck K : Nat} {po : Option Addr} {co M : Nat} {keys ps : List Value} {b k n : Nat} {e : TypeId} {v : Value} {xs : List Value} (h : OI w B q pk ck K po co M keys ps) (hr : w.ownsRow b e k v n xs) (h1 : 58 ≠ e) (h2 : 105 ≠ e) (h3 : 103 ≠ e) (ho : Only (fun i => v.ownBlock = some i) w w') : OI w' B q pk ck K po co M keys ps :=
  ⟨ho.obj h.box (fun e9 => by
    obtain ⟨_, cur, h9⟩ := own_block_lt hr (b := q) e9
    rw [h.box] at h9
    simp only [Option.some.injEq, Obj.cells.injEq] at h9
    exact h1 h9.2.1), ownsRow_only h.keys ho (fun b hb e9 => by
    obtain ⟨_, c1, q1⟩ := own_block_lt h.keys hb
    obtain ⟨_, c2, q2⟩ := own_block_lt hr e9
    rw [q1] at q2
    simp only [Option.some.injEq, Obj.cells.injEq] at q2
    exact h2 q2.2.1), ownsRow_only h.puts ho (fun b hb e9 => by
    obtain ⟨_, c1, q1⟩ := own_block_lt h.puts hb
    obtain ⟨_, c2, q2⟩ := own_block_lt hr e9
    rw [q1] at q2
    simp only [Option.some.injEq, Obj.cells.injEq] at q2
    exact h3 q2.2.1)⟩
theorem OI.later {w w' : World} {B q : Nat} {pk : Option Addr} {ck K : Nat} {po : Option Addr} {co M : Nat} {keys ps : List Value} (h : OI w B q pk ck K po co M keys ps) (hb : Below w.heap.size w w') : OI w' B q pk ck K po co M keys ps := ⟨below_box hb h.box, ownsRow_later h.keys hb, ownsRow_later h.puts hb⟩
set_option maxRecDepth 100000 in
set_option maxHeartbeats 16000000 in
theorem one_solo {o : GO} {W : World} {ip p : Option Addr} {ic cap n : Nat} {xs : List SV} (hk8 : o.kind ≠ 8) (hk : 1 ≤ o.kind ∧ o.kind ≤ 9) (h7 : o.kind = 7 → 2 ≤ o.arg ∧ o.arg ≤ 4) (ha : I6 o.arg) (hx : LL W p cap xs) (hn : xs.length = n) (hn1 : 0 < n) (hlb : (xs[0]!).rs.length ≤ 1048576) (hfi : ∀ r ∈ (xs[0]!).rs, r.fine) :
    Calls Tryz.prog 33 #[.agg #[.int .i64 o.kind, .int .i64 o.part, .int .i64 o.fn, .int .i64 o.arg, .slice ip o.ins.length ic], .slice p n cap] W fun e w' => ∃ x : RV, e = .returned (.tuple #[x.pv, .agg #[x.kv, .int .i64 x.turn, x.bv]]) ∧ x.ok w' W.heap.size ∧ x.plain = soloA o (xs[0]!).rs ∧ Below W.heap.size W w' := by
  obtain ⟨i0, hI0, hz0, hz1, hz2⟩ := info_parts Tryz.infoRecs
  obtain ⟨j0, hJ0, hy0, hy1, hy2⟩ := info_parts Tryz.infoRec
  have hpp : ∀ x ∈ putsC o (xs[0]!).rs, 0 ≤ x.port ∧ x.port < portsC o.kind o.arg := by
    by_cases h9 : o.kind = 9
    · intro x hx9
      exfalso
      unfold putsC at hx9
      rw [h9, if_neg (by decide)] at hx9
      unfold passAll at hx9
      rw [List.mem_flatMap] at hx9
      obtain ⟨r, _, hr⟩ := hx9
      unfold Op.passC at hr
      rw [if_neg (by decide), if_neg (by decide)] at hr
      cases hr
    · exact puts_port ⟨hk.1, by omega⟩ h7
  rw [← (putsA_is o (xs[0]!).rs).1] at hpp
  have hpl : (Op.putsA o.kind o.fn o.arg (xs[0]!).rs).length ≤ (xs[0]!).rs.length := (Op.keptA_len o.kind o.fn o.arg (xs[0]!).rs).2.1
  obtain ⟨kd, pt, fn, ar, ins⟩ := o
  simp only at hk8 hk h7 ha hpp hpl
  obtain ⟨il, hil⟩ : ∃ il, ins.length = il := ⟨_, rfl⟩
  simp only [hil]
  have i1 := hx.row.le
  have i2 := hx.row.top
  rw [hn] at i1
  have e8 : (kd == 8) = false := ne_eq hk8
  obtain ⟨P, hP⟩ : ∃ P : Nat, portsC kd ar = (P : Int) := ⟨(portsC kd ar).toNat, by have := (portsC_le kd ar).1; omega⟩
  have hP4 : P ≤ 4 := by have := (portsC_le kd ar).2; omega
  have HPO : Hid (∀ X, Calls Tryz.prog 48 #[.agg #[.int .i64 kd, .int .i64 pt, .int .i64 fn, .int .i64 ar, .slice ip il ic]] X fun e w' => e = .returned (.int .i64 (P : Int)) ∧ Below X.heap.size X w') := hide (fun X => by rw [← hP]; exact rports_any)
  have HSO : Hid (soloA ⟨kd, pt, fn, ar, ins⟩ (xs[0]!).rs = ⟨byC P (Op.putsA kd fn ar (xs[0]!).rs), (Op.keptA kd fn ar (xs[0]!).rs).flatMap Op.KS.cells, 0, []⟩) := hide (by unfold soloA; simp only [hP, Int.toNat_natCast])
  rw [HSO.out]
  rw [hP] at hpp
  clear HSO
  obtain ⟨V1, hV1⟩ : ∃ V, V = W.alloc (.cells #[.int .i64 kd, .int .i64 pt, .int .i64 fn, .int .i64 ar, .slice ip il ic] 55 (0, 0)) := ⟨_, rfl⟩
  obtain ⟨V, hV⟩ : ∃ V, V = V1.alloc (.cells #[.slice none 0 0, .int .i64 0, .slice none 0 0] 60 (0, 0)) := ⟨_, rfl⟩
  obtain ⟨oB, hoB⟩ : ∃ oB, W.heap.size = oB := ⟨_, rfl⟩
  obtain ⟨tB, htB⟩ : ∃ tB, oB + 1 = tB := ⟨_, rfl⟩
  have s1 : V1.heap.size = tB := by rw [hV1, ← htB, ← hoB]; simp
  have s4 : V.heap.size = tB + 1 := by rw [hV]; simp [s1]
  have HS4 := hide s4
  have HWO : Hid (W.heap.size ≤ tB) := hide (by omega)
  have b1 : Below W.heap.size W V1 := by rw [hV1]; exact alloc_below _ _
  have b2 : Below V1.heap.size V1 V := by rw [hV]; exact alloc_below _ _
  have bV : Below W.heap.size W V := b1.trans (b2.mono b1.size)
  have hop : V.heap[oB]? = some (.cells #[.int .i64 kd, .int .i64 pt, .int .i64 fn, .int .i64 ar, .slice ip il ic] 55 (0, 0)) := below_box b2 (by rw [hV1, ← hoB]; exact heap_alloc_new W _)
  have htb : V.heap[tB]? = some (.cells #[.slice none 0 0, .int .i64 0, .slice none 0 0] 60 (0, 0)) := by rw [hV, ← s1]; exact heap_alloc_new V1 _
  have hxm : xs[0]! ∈ xs := by rw [getElem!_pos xs 0 (by omega)]; exact List.getElem_mem _
  have hll := hx.later bV
  obtain ⟨g, o2, rfl, hc⟩ := hll.at (show 0 < xs.length by omega)
  have hrow : RRow V (xs[0]!).p (xs[0]!).c (xs[0]!).rs := hll.ok _ hxm
  obtain ⟨⟨rs, xp, xc⟩, hx0⟩ : ∃ x, xs[0]! = x := ⟨_, rfl⟩
  rw [hx0] at hc hrow hlb hfi hpp hpl ⊢
  simp only at hc hrow hlb hfi hpp hpl ⊢
  obtain ⟨N, hN⟩ : ∃ N, rs.length = N := ⟨_, rfl⟩
  rw [hN] at hc hlb hpl
  have hc0 : V.cell? ⟨g, o2, none⟩ = some (.slice xp N xc) := hc
  have HA : Hid (∀ X, Below V.heap.size V X → Calls Tryz.prog 50 #[.agg #[.int .i64 kd, .int .i64 pt, .int .i64 fn, .int .i64 ar, .slice ip il ic], .agg #[.slice none 0 0, .int .i64 0], .slice xp N xc] X fun e w' => ∃ pk ck K po co M, e = .returned (.tuple #[.agg #[.slice pk K ck, .int .i64 0], .slice po M co]) ∧ w'.ownsRow X.heap.size 105 3 (.slice pk K ck) K ((Op.keptA kd fn ar rs).flatMap Op.KS.cells) ∧ w'.ownsRow X.heap.size 103 3 (.slice po M co) M ((Op.putsA kd fn ar rs).flatMap Op.PU.cells) ∧ Below X.heap.size X w') := hide (fun X hX => Op.rall_any ha (RRow.later hrow hX) hN hlb hfi)
  obtain ⟨puts, hputs⟩ : ∃ l, Op.putsA kd fn ar rs = l := ⟨_, rfl⟩
  obtain ⟨keys, hkeys⟩ : ∃ l, (Op.keptA kd fn ar rs).flatMap Op.KS.cells = l := ⟨_, rfl⟩
  rw [hputs, hkeys] at HA
  rw [hputs] at hpp hpl ⊢
  rw [hkeys]
  have HPB : Hid (puts.length ≤ 1048576) := hide (by omega)
  have d0 : V.cell? ⟨oB, 0, none⟩ = some (.int .i64 kd) := by simp [World.cell?, hop]
  have d1 : V.cell? ⟨oB, 1, none⟩ = some (.int .i64 pt) := by simp [World.cell?, hop]
  have d2 : V.cell? ⟨oB, 2, none⟩ = some (.int .i64 fn) := by simp [World.cell?, hop]
  have d3 : V.cell? ⟨oB, 3, none⟩ = some (.int .i64 ar) := by simp [World.cell?, hop]
  have d4 : V.cell? ⟨oB, 4, none⟩ = some (.slice ip il ic) := by simp [World.cell?, hop]
  have HBV := hide bV
  have HTB := hide htb
  have HOP := hide hop
  have HPP := hide hpp
  clear hx hn hlb hfi bV hop htb b1 b2 hil hrow hx0 hN hc hxm hll hputs hkeys hpp hpl hP ha h7 hk hk8
  go_enter Tryz.func33, Tryz.ntmps33
  go_upto_region 1 with fail
  rw [← hV1, ← hV]
  try rw [hoB]
  try rw [htB]
  clear hV1 hV hoB htB s1 s4
  go_wp2_with fail
  refine (HPO.out _).mono ?_
  rintro _ w1 ⟨rfl, hB1⟩
  obtain ⟨w2, hrun, hown, hgr⟩ := run_make_full w1 w1.heap.size 25 26 i0 (.slice none 0 0) 1 Tryz.underlying25 hI0 hz0 hz1 .i64 .i64 P (by rw [hz2]; omega) (by unfold maxLen; omega) (Nat.le_refl _)
  rw [made_lists] at hown
  have hb2 : Below w1.heap.size w1 w2 := (Below.refl _ w1).grown hgr (Nat.le_refl _) (fun k hk => by simp at hk)
  obtain ⟨pg, hpg⟩ : ∃ pg, w1.heap.size = pg := ⟨_, rfl⟩
  rw [hpg] at hrun hown
  have HBV2 := hide (hB1.trans (hb2.mono hB1.size))
  have HBP0 : Hid (BP w2 pg pg P (List.replicate P default)) := hide (bp_start hown)
  have HPG : Hid (V.heap.size ≤ pg) := hide (by rw [← hpg]; exact hB1.size)
  have e0 := cell_later HBV2.out d0
  have e1 := cell_later HBV2.out d1
  have e2 := cell_later HBV2.out d2
  have e3 := cell_later HBV2.out d3
  have e4 := cell_later HBV2.out d4
  have c2 := cell_later HBV2.out hc0
  clear hB1 hb2 hown hgr hpg d0 d1 d2 d3 d4 hc0
  go_upto_region 10 with fail
  clear hrun
  have ab := alloc_below w2 (.cells #[.slice none 0 0, .int .i64 0] 58 (0, 0))
  have m0 := cell_later ab c2
  have m1 := cell_later ab e0
  have m2 := cell_later ab e1
  have m3 := cell_later ab e2
  have m4 := cell_later ab e3
  have m5 := cell_later ab e4
  go_cut [12, 13] from 54 to 62 (fun s12 s13 wd => ∃ (q : Nat) (pk : Option Addr) (ck K : Nat) (po : Option Addr) (co M : Nat), s12 = .pointer (some ⟨q, 0, none⟩) ∧ s13 = .slice po M co ∧ Hid (wd.heap[q]? = some (.cells #[.slice pk K ck, .int .i64 0] 58 (0, 0))) ∧ Hid (Below w2.heap.size w2 wd) ∧ Hid (wd.ownsRow w2.heap.size 105 3 (.slice pk K ck) K keys) ∧ Hid (wd.ownsRow w2.heap.size 103 3 (.slice po M co) M (puts.flatMap Op.PU.cells)))
  case first =>
    go_region_with (go_at_call 50; refine (HA.out _ ?_).mono ?_; · first | exact HBV2.out.drew | exact (HBV2.out.trans (ab.mono HBV2.out.size)).drew
                    rintro _ w3 ⟨pk, ck, K, po, co, M, rfl, hOK, hOM, hB3⟩; try (obtain ⟨k0, k1, k2, k3⟩ := two_facts (below_box hB3 (heap_alloc_new w2 _)) (.slice pk K ck)))
    all_goals
      go_wp2_with fail
      go_meet
      case rel =>
        first
        | exact ⟨_, pk, ck, K, po, co, M, rfl, rfl, hide (heap_alloc_new w3 _), hide ((below_undrew hB3).trans ((alloc_below w3 _).mono hB3.size)), hide (ownsRow_later hOK (alloc_below w3 _)), hide (ownsRow_later hOM (alloc_below w3 _))⟩
        | exact ⟨_, pk, ck, K, po, co, M, rfl, rfl, hide (two_set (below_box (below_undrew hB3) (heap_alloc_new w2 _)) _ _), hide (((ab.trans ((below_undrew hB3).mono ab.size)).setCell (p := ⟨w2.heap.size, 0, none⟩) (Nat.le_refl _) _).setCell (p := ⟨w2.heap.size, 1, none⟩) (Nat.le_refl _) _), hide (ownsRow_base (row_two hOK (by simp)) ab.size), hide (ownsRow_base (row_two hOM (by simp)) ab.size)⟩
  case rest =>
  obtain ⟨q, pk, ck, K, po, co, M, rfl, rfl, HQ, HBQ, HOK, HOM⟩ := hcut
  rename World => w4
  clear HA ab m0 m1 m2 m3 m4 m5 e0 e1 e2 e3 e4 c2
  have HBP4 := hide (HBP0.out.later HBQ.out)
  have HMM : Hid (puts.length = M) := hide (Op.row_len Op.PU.len HOM.out)
  have HPR := hide (LRow.of_own Op.PU.len HMM.out HOM.out)
  have r1 := HPR.out.le
  have r2 := HPR.out.top
  rw [HMM.out] at r1
  have hMB : M ≤ 1048576 := by have := HPB.out; have := HMM.out; omega
  have HB24 : Hid (w2.heap.size ≤ w4.heap.size) := hide HBQ.out.size
  have HPW : Hid (pg ≤ w2.heap.size) := hide (Nat.le_of_lt (own_block_lt HBP0.out.row (b := pg) rfl).1)
  clear HBP0
  go_wp2_with fail
  go_loopw [14] (fun s wq => ∃ (k : Nat) (ys : List SV), k ≤ M ∧ s = .int .i64 (k : Int) ∧ Hid (BP wq pg pg P ys) ∧ Hid (∀ i, i < P → (ys[i]!).rs = onlyP i (puts.take k)) ∧ Hid (OI wq w2.heap.size q pk ck K po co M keys (puts.flatMap Op.PU.cells)) ∧ Hid (Below V.heap.size V wq)) (fun s _ => M - (intOf s).toNat)
  case atStart => exact ⟨0, _, Nat.zero_le _, rfl, HBP4, hide (fun i hi => by rw [getElem!_pos _ i (by simpa using hi), List.getElem_replicate, List.take_zero]; rfl), hide ⟨HQ.out, HOK.out, HOM.out⟩, hide (HBV2.out.trans (HBQ.out.mono HBV2.out.size))⟩
  case round =>
    obtain ⟨k, ys, hk, rfl, HBP, HYS, HOI, HB⟩ := hrel
    rename World => wq
    clear HBP4 HPR
    by_cases hlt : k < M
    · have hlt2 : k < puts.length := by rw [HMM.out]; exact hlt
      have dk : decide (k < M) = true := decide_eq_true hlt
      have dkI : decide ((k : Int) < (M : Int)) = true := decide_eq_true (by omega)
      obtain ⟨x, hx⟩ : ∃ x, puts[k]! = x := ⟨_, rfl⟩
      have hxm : x ∈ puts := by rw [← hx, getElem!_pos puts k hlt2]; exact List.getElem_mem _
      have hpx := HPP.out x hxm
      obtain ⟨g2, o3, rfl, hc⟩ := (LRow.of_own Op.PU.len HMM.out HOI.out.puts).cell k hlt2
      rw [hx] at hc
      have etk : puts.take (k + 1) = puts.take k ++ [x] := by rw [List.take_succ_eq_append_getElem hlt2, ← hx, getElem!_pos puts k hlt2]
      obtain ⟨pt', ky, vl⟩ := x
      simp only at hpx
      obtain ⟨j, rfl⟩ : ∃ j : Nat, pt' = (j : Int) := ⟨pt'.toNat, by omega⟩
      have hj : j < P := by omega
      have d0 : wq.cell? ⟨g2, o3 + k * 3, none⟩ = some (.int .i64 (j : Int)) := hc 0 (by omega)
      have d1 : wq.cell? ⟨g2, o3 + k * 3 + 1, none⟩ = some (.int .i64 ky) := hc 1 (by omega)
      have d2 : wq.cell? ⟨g2, o3 + k * 3 + 2, none⟩ = some (.int .i64 vl) := hc 2 (by omega)
      have hBPY := HBP.out
      obtain ⟨y, hy⟩ : ∃ y, ys[j]! = y := ⟨_, rfl⟩
      have hyo := hBPY.own j hj
      rw [hy] at hyo
      obtain ⟨g', e', h9⟩ := own_cellR hBPY.row hj
      simp only [Option.some.injEq, Addr.mk.injEq, and_true] at e'
      rw [← e'] at h9
      have e3 : wq.cell? ⟨pg, j, none⟩ = some (.slice y.p y.rs.length y.c) := by
        rw [h9, SV.flat, List.getD_eq_getElem?_getD, List.getElem?_map, List.getElem?_eq_getElem (by rw [hBPY.len]; exact hj), ← hy, getElem!_pos ys j (by rw [hBPY.len]; exact hj)]
        rfl
      have hyr := HYS.out j hj
      rw [hy] at hyr
      obtain ⟨yrs, yp, yc⟩ := y
      simp only at hyr e3
      obtain ⟨n5, hn5⟩ : ∃ n, yrs.length = n := ⟨_, rfl⟩
      have hnb : n5 ≤ 1048576 := by
        have h8 := onlyP_len j (puts.take k)
        rw [← hyr, List.length_take] at h8
        omega
      have hyo2 : wq.ownsRow pg 71 2 (.slice yp n5 yc) n5 (yrs.flatMap RC.cells) := by
        have h8 : wq.ownsRow pg 71 2 (.slice yp yrs.length yc) yrs.length (yrs.flatMap RC.cells) := hyo
        rw [hn5] at h8
        exact h8
      rw [hn5] at e3
      have hab := alloc_below wq (.cells #[.int .i64 ky, .int .i64 vl] 71 (0, 0))
      have HAB := hide hab
      have HRW := hide (ownsRow_later hyo2 hab)
      have HK1 : Hid (n5 + 1 ≤ maxLen) := by show _ ≤ _; unfold maxLen; omega
      have HK2 : Hid ((n5 + 1) * 16 ≤ 140737488355328) := by show _ ≤ _; omega
      have HGE : Hid (pg ≤ (wq.alloc (.cells #[.int .i64 ky, .int .i64 vl] 71 (0, 0))).heap.size) := hide (Nat.le_trans (Nat.le_of_lt (own_block_lt hBPY.row (b := pg) rfl).1) hab.size)
      have HNY := hide hyo2
      have HBPY := hide hBPY
      have HYJ := hide hy
      have HNN := hide hn5
      have HET := hide etk
      have HFG : Hid (∀ w6, Only (fun i => (Value.slice yp n5 yc).ownBlock = some i) wq w6 → (∃ v, w6.cell? ⟨pg, j, none⟩ = some v) ∧ w6.frozen? ⟨pg, j, none⟩ = false ∧ w6.cell? ⟨g2, o3 + k * 3, none⟩ = some (.int .i64 (j : Int))) := hide (fun w6 ho => by
        have hr6 : w6.ownsRow pg 26 1 (.slice (some ⟨pg, 0, none⟩) P P) P (ys.flatMap SV.cells) := ownsRow_only HBPY.out.row ho (fun b hb e => rows_apart HNY.out HBPY.out.row (by decide) hb e)
        obtain ⟨g', e', h9⟩ := own_cellR hr6 hj
        simp only [Option.some.injEq, Addr.mk.injEq, and_true] at e'
        rw [← e'] at h9
        have hp6 := (HOI.out.other HNY.out (by decide) (by decide) (by decide) ho).puts
        obtain ⟨g7, o7, e7, hc7⟩ := (LRow.of_own Op.PU.len HMM.out hp6).cell k (by rw [HMM.out]; exact hlt)
        simp only [Option.some.injEq, Addr.mk.injEq, and_true] at e7
        obtain ⟨rfl, rfl⟩ := e7
        have h10 := hc7 0 (by decide)
        rw [hx] at h10
        exact ⟨⟨_, h9⟩, hr6.frozenAt _, h10⟩)
      have hgp := own_block_base HBPY.out.row (b := pg) rfl
      clear hc hxm hpx etk hBPY hy hyo hyo2 h9 e' hyr hn5 hab hlt2 hx hgp
      have n0 := cell_later HAB.out d0
      have n1 := cell_later HAB.out d1
      have n2 := cell_later HAB.out d2
      have n3 := cell_later HAB.out e3
      go_upto_region 14 with fail
      go_region_law (refine step_append_at rfl (.tmp 82) (.tmp 88) 26 rfl pg 71 j0 (.agg #[.int .i64 0, .int .i64 0]) 2 16 Tryz.underlying26 hJ0 hy0 hy1 hy2 rfl (by decide) (.slice yp n5 yc) n5 _ (by first | (simp [Act.eval]; done) | simp [Act.eval, Act.put]) HRW.out.drew ⟨wq.heap.size, 0, none⟩ 1 1 [.int .i64 ky, .int .i64 vl] (by first | (simp [Act.eval]; done) | simp [Act.eval, Act.put]) rfl (World.news_of_block (heap_alloc_new wq _)) (by simp [Value.oneCell']) HK1.out HK2.out HGE.out ?_; intro p6 c6 w6 o6 g6 k6; have hoW : Only (fun i => (Value.slice yp n5 yc).ownBlock = some i) wq w6 := (Only.alloc (fun i => (Value.slice yp n5 yc).ownBlock = some i) wq _).drew.trans (Only.of_grown g6 (fun k e => e)); obtain ⟨⟨v6, c60⟩, f60, q60⟩ := HFG.out w6 hoW)
      all_goals
        have HPU := hide (BP.put (r := ⟨ky, vl⟩) HBPY.out hj HYJ.out HNN.out HAB.out.drew o6 g6 k6)
        have HBF : Hid (Below V.heap.size V (w6.setCell ⟨pg, j, none⟩ (.slice p6 (n5 + 1) c6))) := hide ((HB.out.trans (hoW.below HB.out.size (fun i e => Nat.le_trans HPG.out (own_block_base HNY.out e)))).setCell (p := ⟨pg, j, none⟩) HPG.out _)
        have hr6 : w6.ownsRow pg 26 1 (.slice (some ⟨pg, 0, none⟩) P P) P (ys.flatMap SV.cells) := ownsRow_only HBPY.out.row hoW (fun b hb e => rows_apart HNY.out HBPY.out.row (by decide) hb e)
        have HOF : Hid (OI (w6.setCell ⟨pg, j, none⟩ (.slice p6 (n5 + 1) c6)) w2.heap.size q pk ck K (some ⟨g2, o3, none⟩) co M keys (puts.flatMap Op.PU.cells)) := hide ((HOI.out.other HNY.out (by decide) (by decide) (by decide) hoW).other hr6 (by decide) (by decide) (by decide) ((Only.set (F := (· = pg)) w6 pg j _ rfl).mono (fun i _ e => by have e' : i = pg := e; rw [e']; rfl)))
        have HYF : Hid (∀ i, i < P → ((ys.set j ⟨yrs ++ [⟨ky, vl⟩], p6, c6⟩)[i]!).rs = onlyP i (puts.take (k + 1))) := hide (fun i hi => by
          rw [get_setSV (by rw [HBPY.out.len]; exact hi), HET.out, onlyP_snoc]
          have h8 := HYS.out i hi
          by_cases e : j = i
          · rw [if_pos e, if_pos (by simp [e]), ← h8, ← e, HYJ.out]
            rfl
          · rw [if_neg e, if_neg (by simp only; omega), List.append_nil]
            exact h8)
        clear o6 g6 k6 hoW c60 f60 q60 HRW HAB HGE HK1 HK2 HFG HBPY HNY d0 d1 d2 e3 hr6
        go_wp2
        first
          | exact ⟨⟨k + 1, _, by omega, by first | rfl | go_num, HPU, HYF, HOF, HBF⟩, by simp [intOf]; omega⟩
          | exact ⟨⟨k + 1, _, by omega, by first | rfl | go_num, hide (HPU.out.later (Below.refl _ _).drew), HYF, hide (HOF.out.later (Below.refl _ _).drew), hide HBF.out.drew⟩, by simp [intOf]; omega⟩
    · obtain rfl : k = M := by omega
      have dk : decide (k < k) = false := decide_eq_false (by omega)
      have dkI : decide ((k : Int) < (k : Int)) = false := decide_eq_false (by omega)
      have ht := below_box HB.out HTB.out
      obtain ⟨q0, q1⟩ := Op.sB_cells HOI.out.box
      obtain ⟨f0, f1, f2, f3, f4, f5⟩ := task_facts ht (.slice pk K ck) (.int .i64 0)
      have HE := hide (set3T_heap ht (.slice pk K ck) (.int .i64 0) (.slice none 0 0))
      have HOKF := hide (one_ok (W := W) (d0 := .slice pk K ck) (d1 := .int .i64 0) (d2 := .slice none 0 0) HBP.out (ownsRow_base HOI.out.keys HPW.out) ht (Nat.le_trans HBV.out.size HPG.out))
      have HBF : Hid (Below W.heap.size W (set3T wq tB (.slice pk K ck) (.int .i64 0) (.slice none 0 0))) := hide ((HBV.out.trans (HB.out.mono HBV.out.size)).trans ((set3T_only wq tB _ _ _).below (Nat.le_trans HBV.out.size HB.out.size) (fun i e => by have e' : i = tB := e; have := HWO.out; omega)))
      have HYL := hide HBP.out.len
      have HPL : Hid (ys.map SV.rs = byC P puts) := hide (by
        apply List.ext_getElem
        · rw [List.length_map, by_len, HBP.out.len]
        · intro i h1 h2
          have hi : i < P := by rw [by_len] at h2; exact h2
          have h8 := HYS.out i hi
          rw [← HMM.out, List.take_length] at h8
          rw [List.getElem_map, ← getElem!_pos ys i (by rw [HBP.out.len]; exact hi), h8, ← getElem!_pos (byC P puts) i h2, by_get _ hi])
      unfold set3T at HE HOKF HBF
      clear ht
      go_upto_region 15 with fail
      go_region
      all_goals
        go_wp2
        refine bodyPost_ret (results_two_cell rfl _ _ tB 60 _ _ _ rfl HE.out Tryz.underlying60 rfl (by kernel_rfl)) rfl ?_
        exact ⟨⟨ys, some ⟨pg, 0, none⟩, P, keys, pk, K, ck, 0, [], none, 0⟩, by first | (simp [RV.pv, RV.kv, RV.bv, HYL.out]; done) | simp [RV.pv, RV.kv, RV.bv, HYL.out, Act.eval, Act.put], HOKF.out.later (Below.refl _ _).drew, by show (⟨ys.map SV.rs, keys, 0, []⟩ : RS) = _; rw [HPL.out], HBF.out.drew⟩
end Go.Proofs.YtifldnpccgbnkaaGreat

/-
  The reference's one of a union. The conditions: lengths.
-/
namespace Go.Proofs.YtifldnpccgbnkaaGreat
open Go.RowKit Go.Shelf

/-- What one of a union has while it lays its buffers. -/
structure UI (w : World) (B sB tB : Nat) (wt : Int) (p1 : Option Addr) (N c1 : Nat) (T : List RC) (cv : Value) (cn : Nat) (cs : List Value) (pb : Option Addr) (k cb : Nat) (ys : List SV) : Prop where
  box : w.heap[sB]? = some (.cells #[.slice none 0 0, .int .i64 wt, .slice pb k cb] 60 (0, 0))
  res : w.heap[tB]? = some (.cells #[.slice none 0 0, .int .i64 0, .slice none 0 0] 60 (0, 0))
  len : ys.length = k
  row : w.ownsRow B 26 1 (.slice pb k cb) k (ys.flatMap SV.cells)
  own : ∀ y ∈ ys, y.own w B
  took : w.ownsRow B 71 2 (.slice p1 N c1) N (T.flatMap RC.cells)
  cnt : w.ownsRow B 3 1 cv cn cs
theorem UI.later {w w' : World} {B sB tB : Nat} {wt : Int} {p1 : Option Addr} {N c1 : Nat} {T : List RC} {cv : Value} {cn : Nat} {cs : List Value} {pb : Option Addr} {k cb : Nat} {ys : List SV} (h : UI w B sB tB wt p1 N c1 T cv cn cs pb k cb ys) (hb : Below w.heap.size w w') : UI w' B sB tB wt p1 N c1 T cv cn cs pb k cb ys :=
  ⟨below_box hb h.box, below_box hb h.res, h.len, ownsRow_later h.row hb, fun y hy => (h.own y hy).later hb, ownsRow_later h.took hb, ownsRow_later h.cnt hb⟩
theorem own_not_box {w : World} {B b k n : Nat} {e t : TypeId} {v : Value} {xs : List Value} {cs : Array Value} (h : w.ownsRow B e k v n xs) (hb : w.heap[b]? = some (.cells cs t (0, 0))) (hne : t ≠ e) : v.ownBlock ≠ some b := fun e9 => by
  obtain ⟨_, cur, h9⟩ := own_block_lt h e9
  rw [hb] at h9
  simp only [Option.some.injEq, Obj.cells.injEq] at h9
  exact hne h9.2.1
theorem UI.put {w w1 w2 : World} {B sB tB : Nat} {wt : Int} {p1 : Option Addr} {N c1 : Nat} {T : List RC} {cv : Value} {cn : Nat} {cs : List Value} {pb pb' : Option Addr} {k cb cb' L : Nat} {ys : List SV} {y : SV} (h : UI w B sB tB wt p1 N c1 T cv cn cs pb k cb ys) (hne : sB ≠ tB) (hb : Below w.heap.size w w1) (hy : y.own w1 B) (hl : y.rs.length = L)
    (ho : Only (fun i => (Value.slice pb k cb).ownBlock = some i) w1 w2) (h2 : w2.ownsRow B 26 1 (.slice pb' (k + 1) cb') (k + 1) (ys.flatMap SV.cells ++ [.slice y.p L y.c])) :
    UI (w2.setCell ⟨sB, 2, none⟩ (.slice pb' (k + 1) cb')) B sB tB wt p1 N c1 T cv cn cs pb' (k + 1) cb' (ys ++ [y]) := by
  have h1 := h.later hb
  have hc : ∀ {e : TypeId} {j n : Nat} {v : Value} {xs : List Value}, w1.ownsRow B e j v n xs → e ≠ 26 → w2.ownsRow B e j v n xs := fun {e j n v xs} hr hn => ownsRow_only hr ho (fun b hb e9 => rows_apart h1.row hr (Ne.symm hn) hb e9)
  have hs2 := ho.obj h1.box (fun e9 => own_not_box h1.row h1.box (by decide) e9)
  have ht2 := ho.obj h1.res (fun e9 => own_not_box h1.row h1.res (by decide) e9)
  have hO := Only.set (F := (· = sB)) w2 sB 2 (.slice pb' (k + 1) cb') rfl
  have hk : ∀ {e : TypeId} {j n : Nat} {v : Value} {xs : List Value}, w2.ownsRow B e j v n xs → e ≠ 60 → (w2.setCell ⟨sB, 2, none⟩ (.slice pb' (k + 1) cb')).ownsRow B e j v n xs := fun {e j n v xs} hr hn => ownsRow_only hr hO (fun b hb e9 => by
    have e' : b = sB := e9
    subst e'
    exact own_not_box hr hs2 (Ne.symm hn) hb)
  refine ⟨heap_setCell_same w2 sB 2 _ _ _ hs2, hO.obj ht2 (fun e9 => hne (Eq.symm e9)), by rw [List.length_append, h.len]; rfl, ?_, fun z hz => ?_, hk (hc h1.took (by decide)) (by decide), hk (hc h1.cnt (by decide)) (by decide)⟩
  · rw [List.flatMap_append]
    have e : [y].flatMap SV.cells = [.slice y.p L y.c] := by rw [← hl]; rfl
    rw [e]
    exact hk h2 (by decide)
  · rw [List.mem_append] at hz
    rcases hz with hz | hz
    · exact hk (hc (h1.own z hz) (by decide)) (by decide)
    · simp only [List.mem_singleton] at hz
      rw [hz]
      exact hk (hc hy (by decide)) (by decide)
theorem one_okU {w : World} {B sB tB : Nat} {wt : Int} {p1 : Option Addr} {N c1 : Nat} {T : List RC} {cv : Value} {cn : Nat} {cs : List Value} {pb : Option Addr} {k cb : Nat} {ys : List SV} (h : UI w B sB tB wt p1 N c1 T cv cn cs pb k cb ys) (hT : T.length = N) (hB : B ≤ w.heap.size) (d0 d1 d2 : Value) :
    RV.ok ⟨[⟨T, p1, c1⟩], some ⟨w.heap.size, 0, none⟩, 1, [], none, 0, 0, wt, ys, pb, cb⟩ (set3T (w.alloc (.cells #[.slice p1 N c1] 26 (0, 0))) tB d0 d1 d2) B := by
  have ha := alloc_below w (.cells #[.slice p1 N c1] 26 (0, 0))
  have h1 := h.later ha
  have hone : (w.alloc (.cells #[.slice p1 N c1] 26 (0, 0))).ownsRow B 26 1 (.slice (some ⟨w.heap.size, 0, none⟩) 1 1) 1 [.slice p1 N c1] := own_one hB
  have hO := set3T_only (w.alloc (.cells #[.slice p1 N c1] 26 (0, 0))) tB d0 d1 d2
  have hk : ∀ {e : TypeId} {j n : Nat} {v : Value} {xs : List Value}, (w.alloc (.cells #[.slice p1 N c1] 26 (0, 0))).ownsRow B e j v n xs → e ≠ 60 → (set3T (w.alloc (.cells #[.slice p1 N c1] 26 (0, 0))) tB d0 d1 d2).ownsRow B e j v n xs := fun {e j n v xs} hr hn => ownsRow_only hr hO (fun b hb e9 => by
    have e' : b = tB := e9
    subst e'
    exact own_not_box hr h1.res (Ne.symm hn) hb)
  refine ⟨?_, fun y hy => ?_, World.ownsRow_nil _ _ _ _, ?_, fun y hy => hk (h1.own y hy) (by decide), fun g hg h9 => ?_⟩
  · show (set3T _ tB d0 d1 d2).ownsRow B 26 1 (.slice (some ⟨w.heap.size, 0, none⟩) 1 1) 1 [.slice p1 T.length c1]
    rw [hT]
    exact hk hone (by decide)
  · simp only [List.mem_singleton] at hy
    rw [hy]
    show (set3T _ tB d0 d1 d2).ownsRow B 71 2 (.slice p1 T.length c1) T.length _
    rw [hT]
    exact hk h1.took (by decide)
  · show (set3T _ tB d0 d1 d2).ownsRow B 26 1 (.slice pb ys.length cb) ys.length _
    rw [h.len]
    exact hk h1.row (by decide)
  · have e1 : g = w.heap.size := by simpa [RV.pv, Value.ownBlock] using hg.symm
    have e2 : (Value.slice pb k cb).ownBlock = some g := by
      have : (Value.slice pb ys.length cb).ownBlock = some g := h9
      rw [h.len] at this
      exact this
    have := (own_block_lt h.row e2).1
    omega

set_option maxRecDepth 100000 in
set_option maxHeartbeats 16000000 in
theorem one_union {o : GO} {W : World} {ip p : Option Addr} {ic cap n : Nat} {xs : List SV} (hk8 : o.kind = 8) (hx : LL W p cap xs) (hn : xs.length = n) (hn1 : 0 < n) (hn4 : n ≤ 4) (hlb : ∀ x ∈ xs, x.rs.length ≤ 1048576) :
    Calls Tryz.prog 33 #[.agg #[.int .i64 o.kind, .int .i64 o.part, .int .i64 o.fn, .int .i64 o.arg, .slice ip o.ins.length ic], .slice p n cap] W fun e w' => ∃ x : RV, e = .returned (.tuple #[x.pv, .agg #[x.kv, .int .i64 x.turn, x.bv]]) ∧ x.ok w' W.heap.size ∧ x.plain = unionC (xs.map SV.rs) ∧ Below W.heap.size W w' := by
  obtain ⟨i0, hI0, hz0, hz1, hz2⟩ := info_parts Tryz.infoRecs
  obtain ⟨j0, hJ0, hy0, hy1, hy2⟩ := info_parts Tryz.infoRec
  obtain ⟨kd, pt, fn, ar, ins⟩ := o
  simp only at hk8
  subst hk8
  obtain ⟨il, hil⟩ : ∃ il, ins.length = il := ⟨_, rfl⟩
  simp only [hil]
  clear hil
  have i1 := hx.row.le
  have i2 := hx.row.top
  rw [hn] at i1
  have hml : (xs.map SV.rs).length = n := by rw [List.length_map]; exact hn
  have hst := turn_stop (ls := xs.map SV.rs) (t := 0) (by omega)
  have hNle := turnN_le (ls := xs.map SV.rs) (t := 0) (by omega)
  obtain ⟨N, hN⟩ : ∃ N, turnN (xs.map SV.rs) 0 = N := ⟨_, rfl⟩
  rw [hN] at hst hNle
  have hlenx : ∀ i, i < n → (xs[i]!).rs.length ≤ 1048576 := fun i h => hlb _ (by rw [getElem!_pos xs i (by omega)]; exact List.getElem_mem _)
  have hN2 : N ≤ 4194304 := by
    rw [hml, lenAt_map (by omega)] at hNle
    have h1 := hlenx 0 hn1
    have h2 : n * (xs[0]!).rs.length ≤ 4 * 1048576 := Nat.mul_le_mul hn4 h1
    omega
  have hcl : ∀ i, i < n → countC n 0 N i ≤ (xs[i]!).rs.length := fun i h => by
    have h9 := count_len (ls := xs.map SV.rs) (t := 0) (N := N) (i := i) (by omega) (by omega) N hst.long
    rw [hml, lenAt_map (by omega)] at h9
    exact h9
  obtain ⟨V1, hV1⟩ : ∃ V, V = W.alloc (.cells #[.int .i64 8, .int .i64 pt, .int .i64 fn, .int .i64 ar, .slice ip il ic] 55 (0, 0)) := ⟨_, rfl⟩
  obtain ⟨V, hV⟩ : ∃ V, V = V1.alloc (.cells #[.slice none 0 0, .int .i64 0, .slice none 0 0] 60 (0, 0)) := ⟨_, rfl⟩
  obtain ⟨oB, hoB⟩ : ∃ oB, W.heap.size = oB := ⟨_, rfl⟩
  obtain ⟨tB, htB⟩ : ∃ tB, oB + 1 = tB := ⟨_, rfl⟩
  have s1 : V1.heap.size = tB := by rw [hV1, ← htB, ← hoB]; simp
  have s4 : V.heap.size = tB + 1 := by rw [hV]; simp [s1]
  have HS4 := hide s4
  have HWO : Hid (W.heap.size ≤ tB) := hide (by omega)
  have b1 : Below W.heap.size W V1 := by rw [hV1]; exact alloc_below _ _
  have b2 : Below V1.heap.size V1 V := by rw [hV]; exact alloc_below _ _
  have bV : Below W.heap.size W V := b1.trans (b2.mono b1.size)
  have htb : V.heap[tB]? = some (.cells #[.slice none 0 0, .int .i64 0, .slice none 0 0] 60 (0, 0)) := by rw [hV, ← s1]; exact heap_alloc_new V1 _
  have hop : V.heap[oB]? = some (.cells #[.int .i64 8, .int .i64 pt, .int .i64 fn, .int .i64 ar, .slice ip il ic] 55 (0, 0)) := below_box b2 (by rw [hV1, ← hoB]; exact heap_alloc_new W _)
  have HT := hide (rturns_any (t := 0) (hx.later bV) hn hn1 hst (by omega) (by omega))
  have d0 : V.cell? ⟨oB, 0, none⟩ = some (.int .i64 8) := by simp [World.cell?, hop]
  have HCL := hide hcl
  have HX := hide hx
  have HN := hide hN
  have HNX := hide hn
  have HML := hide hml
  have HLB := hide hlenx
  have HBV := hide bV
  have HTB := hide htb
  clear hx hn hlb hN hst hNle hlenx hcl bV htb hop b1 b2 hml
  go_enter Tryz.func33, Tryz.ntmps33
  go_upto_region 1 with fail
  rw [← hV1, ← hV]
  try rw [hoB]
  try rw [htB]
  clear hV1 hV hoB htB s1 s4
  go_wp2_with fail
  refine HT.out.mono ?_
  rintro _ w1 ⟨p1, c1, p2, c2, rfl, hO1, hO2, hB1⟩
  obtain ⟨wt, hwt⟩ : ∃ wt, whoC n 0 N = wt := ⟨_, rfl⟩
  rw [hwt]
  have HWT := hide hwt
  clear hwt HT d0
  have hBW1 : Below W.heap.size W w1 := HBV.out.trans (hB1.mono HBV.out.size)
  obtain ⟨w2, hw2⟩ : ∃ w2, w2 = w1.alloc (.cells #[.slice none 0 0, .int .i64 (wt : Int), .slice none 0 0] 60 (0, 0)) := ⟨_, rfl⟩
  have b2 : Below w1.heap.size w1 w2 := by rw [hw2]; exact alloc_below _ _
  obtain ⟨sB, hsB⟩ : ∃ sB, w1.heap.size = sB := ⟨_, rfl⟩
  have hbox : w2.heap[sB]? = some (.cells #[.slice none 0 0, .int .i64 (wt : Int), .slice none 0 0] 60 (0, 0)) := by rw [hw2, ← hsB]; exact heap_alloc_new w1 _
  have HST : Hid (sB ≠ tB) := hide (by have h9 := HS4.out; have := hB1.size; omega)
  have HBW2 : Hid (Below W.heap.size W w2) := hide (hBW1.trans (b2.mono hBW1.size))
  have HSW : Hid (W.heap.size ≤ sB) := hide (by rw [← hsB]; exact hBW1.size)
  obtain ⟨T, hTd⟩ : ∃ T, takenC (xs.map SV.rs) 0 N = T := ⟨_, rfl⟩
  rw [hTd] at hO1
  have HU0 : Hid (UI w2 W.heap.size sB tB (wt : Int) p1 N c1 T (.slice p2 n c2) n ((countsC n 0 N).map (Value.int .i64)) none 0 0 []) := hide ⟨hbox, below_box (hB1.trans (b2.mono hB1.size)) HTB.out, rfl, World.ownsRow_nil _ _ _ _, fun y hy => (by cases hy), ownsRow_base (ownsRow_later hO1 b2) HBV.out.size, ownsRow_base (ownsRow_later hO2 b2) HBV.out.size⟩
  have HTD := hide hTd
  have HCR : Hid (∀ i, i < n → ∀ X : World, X.ownsRow W.heap.size 3 1 (.slice p2 n c2) n ((countsC n 0 N).map (Value.int .i64)) → ∃ b1 o1, p2 = some ⟨b1, o1, none⟩ ∧ X.cell? ⟨b1, o1 + i, none⟩ = some (.int .i64 ((countC n 0 N i : Nat) : Int))) := hide (fun i hi X hX => by
    obtain ⟨_, _, ce, k1, k2, k3, k4⟩ := own_row hX
    simp only [Value.slice.injEq] at ce
    obtain ⟨rfl, ce2, rfl⟩ := ce
    have hl : (countsC n 0 N).length = n := by unfold countsC; simp
    obtain ⟨b1, o1, e, hc1⟩ := k4 (by rw [hl]; omega)
    refine ⟨b1, o1, e, ?_⟩
    rw [hc1 i (by rw [hl]; exact hi), List.getD_eq_getElem?_getD, List.getElem?_eq_getElem (by rw [hl]; exact hi)]
    unfold countsC
    simp)
  clear hO1 hO2 hB1 hBW1 b2 hbox hTd
  go_upto_region 4 with fail
  rw [← hw2]
  try rw [hsB]
  clear hw2 hsB
  go_wp2_with fail
  go_loopw [10] (fun s wq => ∃ (k : Nat) (pb : Option Addr) (cb : Nat) (ys : List SV), k ≤ n ∧ s = .int .i64 (k : Int) ∧ Hid (UI wq W.heap.size sB tB (wt : Int) p1 N c1 T (.slice p2 n c2) n ((countsC n 0 N).map (Value.int .i64)) pb k cb ys) ∧ Hid (∀ i, i < k → (ys[i]!).rs = (xs[i]!).rs.drop (countC n 0 N i)) ∧ Hid (Below W.heap.size W wq)) (fun s _ => n - (intOf s).toNat)
  case atStart => exact ⟨0, none, 0, [], Nat.zero_le _, rfl, HU0, hide (fun i hi => absurd hi (Nat.not_lt_zero i)), HBW2⟩
  case round =>
    obtain ⟨k, pb, cb, ys, hk, rfl, HU, HYS, HB⟩ := hrel
    rename World => wq
    clear HU0
    by_cases hlt : k < n
    · have hlt2 : k < xs.length := by rw [HNX.out]; exact hlt
      have hll := HX.out.later HB.out
      obtain ⟨g2, o2, rfl, hcx⟩ := hll.at hlt2
      have hxm : xs[k]! ∈ xs := by rw [getElem!_pos xs k hlt2]; exact List.getElem_mem _
      have hrow := hll.ok _ hxm
      have hle := HCL.out k hlt
      have hlb := HLB.out k hlt
      obtain ⟨bm, om, rfl, dm⟩ := HCR.out k hlt wq HU.out.cnt
      obtain ⟨m, hm⟩ : ∃ m, countC n 0 N k = m := ⟨_, rfl⟩
      rw [hm] at dm hle
      obtain ⟨x, hxx⟩ : ∃ x, xs[k]! = x := ⟨_, rfl⟩
      rw [hxx] at hcx hrow hle hlb
      obtain ⟨rs, xp, xc⟩ := x
      simp only at hcx hle hlb
      have hrow2 : RRow wq xp xc rs := hrow
      have hrl := hrow2.le
      have hrt := hrow2.top
      obtain ⟨tp, htp⟩ : ∃ tp, (if xc = m then xp else Option.map (fun x => x.add (m * 2)) xp) = tp := ⟨_, rfl⟩
      have hta := RRow.tail hrow2 hle
      rw [htp] at hta
      obtain ⟨L, hL⟩ : ∃ L, rs.length - m = L := ⟨_, rfl⟩
      have hLd : (rs.drop m).length = L := by rw [List.length_drop]; exact hL
      have HSEG : Hid (∀ X, Below wq.heap.size wq X → Seg X 2 (.slice tp L (xc - m)) L ((rs.drop m).flatMap RC.cells)) := hide (fun X hX => by
        have := LRow.seg (by decide) RC.len RC.one (RRow.later hta hX)
        rw [hLd] at this
        exact this)
      have HYD : Hid ((xs[k]!).rs.drop (countC n 0 N k) = rs.drop m) := hide (by rw [hxx, hm])
      have HLD := hide hLd
      have HK1 : Hid (0 + L ≤ maxLen) := by show _ ≤ _; unfold maxLen; omega
      have HK2 : Hid ((0 + L) * 16 ≤ 140737488355328) := by show _ ≤ _; omega
      have HK3 : Hid (k + 1 ≤ maxLen) := by show _ ≤ _; unfold maxLen; omega
      have HK4 : Hid ((k + 1) * 24 ≤ 140737488355328) := by show _ ≤ _; omega
      have HBS : Hid (W.heap.size ≤ wq.heap.size) := hide HB.out.size
      have hbx := HU.out.box
      have cb2 : wq.cell? ⟨sB, 2, none⟩ = some (.slice pb k cb) := by simp [World.cell?, hbx]
      have HBX := hide hbx
      clear hta hrow hrow2 hxm hll hm hxx hLd hbx hlt2
      go_upto_region 7 with fail
      go_region_law (first
        | (refine step_append_cells rfl (.const (.slice none 0 0)) (.tmp 43) 26 rfl wq.heap.size 71 j0 (.agg #[.int .i64 0, .int .i64 0]) 2 16 Tryz.underlying26 hJ0 hy0 hy1 hy2 rfl (by decide) (.slice none 0 0) 0 [] rfl (World.ownsRow_nil _ _ _ _) (.slice tp L (xc - m)) L ((rs.drop m).flatMap RC.cells) (by first | rfl | simp [Act.eval, Act.put]) (HSEG.out _ (Below.refl _ wq).drew) HK1.out HK2.out (Nat.le_refl _) ?_; intro p1' c1' w3 o3 g3; have B3 : Below wq.heap.size wq w3 := (Below.refl _ wq).drew.grown g3 (Nat.le_refl _) (by simp [Value.ownBlock]); have hs3 := below_box B3 HBX.out; have r0 : w3.cell? ⟨sB, 2, none⟩ = some (.slice pb k cb) := (by simp [World.cell?, hs3]); have O3 : Hid (w3.ownsRow wq.heap.size 71 2 (.slice p1' L c1') L ((rs.drop m).flatMap RC.cells)) := (by { rw [Nat.zero_add, List.nil_append] at o3; exact hide o3 }); have r1 := cell_later (alloc_below w3 (.cells #[.slice p1' L c1'] 26 (0, 0))) r0; have HB3 := hide B3; clear o3 g3 B3 hs3)
        | (refine step_append_cells rfl (.tmp 34) (.tmp 45) 25 rfl W.heap.size 26 i0 (.slice none 0 0) 1 24 Tryz.underlying25 hI0 hz0 hz1 hz2 rfl (by decide) (.slice pb k cb) k (ys.flatMap SV.cells) (by first | rfl | simp [Act.eval, Act.put]) (ownsRow_later HU.out.row (HB3.out.trans ((alloc_below w3 _).mono HB3.out.size))) (.slice (some ⟨w3.heap.size, 0, none⟩) 1 1) 1 [.slice p1' L c1'] (by first | rfl | simp [Act.eval, Act.put]) (Seg.news (heap_alloc_new w3 _) (by intro u hu; simp at hu; rcases hu with rfl; rfl) rfl (by decide) (by decide)) HK3.out HK4.out (Nat.le_trans HBS.out (Nat.le_trans HB3.out.size (alloc_below w3 _).size)) ?_; intro p5 c5 w5 o5 g5; have ho5 := (Only.alloc (fun i => (Value.slice pb k cb).ownBlock = some i) w3 _).trans (Only.of_grown (F := fun i => (Value.slice pb k cb).ownBlock = some i) g5 (fun k e => e)); have HP5 := hide (HU.out.put (y := ⟨rs.drop m, p1', c1'⟩) HST.out HB3.out (by { show w3.ownsRow W.heap.size 71 2 (.slice p1' (rs.drop m).length c1') (rs.drop m).length _; rw [HLD.out]; exact ownsRow_base O3.out HBS.out }) HLD.out ho5 o5); have HB5 : Hid (Below W.heap.size W w5) := hide ((HB.out.trans (HB3.out.mono HBS.out)).trans (ho5.below (Nat.le_trans HBS.out HB3.out.size) (fun i e => own_block_base HU.out.row e))); have hs5 := ho5.obj (below_box HB3.out HBX.out) (fun e9 => own_not_box (ownsRow_later HU.out.row HB3.out) (below_box HB3.out HBX.out) (by decide) e9); have q0 : w5.cell? ⟨sB, 2, none⟩ = some (.slice pb k cb) := (by simp [World.cell?, hs5]); have q1 : w5.frozen? ⟨sB, 2, none⟩ = false := (by simp [World.frozen?, hs5])))
      all_goals
        have HBF : Hid (Below W.heap.size W (w5.setCell ⟨sB, 2, none⟩ (.slice p5 (k + 1) c5))) := hide (HB5.out.setCell (p := ⟨sB, 2, none⟩) HSW.out _)
        have HYF : Hid (∀ i, i < k + 1 → ((ys ++ [⟨rs.drop m, p1', c1'⟩])[i]!).rs = (xs[i]!).rs.drop (countC n 0 N i)) := hide (fun i hi => by
          have hl := HU.out.len
          by_cases e : i < k
          · have h9 := HYS.out i e
            rw [getElem!_pos ys i (by omega)] at h9
            rw [getElem!_pos _ i (by rw [List.length_append]; simp; omega), List.getElem_append_left (by omega)]
            exact h9
          · obtain rfl : i = k := by omega
            rw [HYD.out, getElem!_pos _ i (by rw [List.length_append]; simp; omega), List.getElem_append_right (by omega)]
            simp [hl])
        clear o5 g5 ho5 hs5 q0 q1 r0 r1 HB5 HB3 O3
        go_wp2
        first
          | exact ⟨⟨k + 1, _, _, _, by omega, by first | rfl | go_num, HP5, HYF, HBF⟩, by simp [intOf]; omega⟩
          | exact ⟨⟨k + 1, _, _, _, by omega, by first | rfl | go_num, hide (HP5.out.later (Below.refl _ _).drew), HYF, hide HBF.out.drew⟩, by simp [intOf]; omega⟩
    · obtain rfl : k = n := by omega
      have hbx := HU.out.box
      have k0 : wq.cell? ⟨sB, 0, none⟩ = some (.slice none 0 0) := by simp [World.cell?, hbx]
      have k1 : wq.cell? ⟨sB, 1, none⟩ = some (.int .i64 (wt : Int)) := by simp [World.cell?, hbx]
      have k2 : wq.cell? ⟨sB, 2, none⟩ = some (.slice pb k cb) := by simp [World.cell?, hbx]
      have hr := HU.out.res
      have ab := alloc_below wq (.cells #[.slice p1 N c1] 26 (0, 0))
      have a0 := cell_later ab k0
      have a1 := cell_later ab k1
      have a2 := cell_later ab k2
      obtain ⟨f0, f1, f2, f3, f4, f5⟩ := task_facts (below_box ab hr) (.slice none 0 0) (.int .i64 (wt : Int))
      have HE := hide (set3T_heap (below_box ab hr) (.slice none 0 0) (.int .i64 (wt : Int)) (.slice pb k cb))
      have HTL : Hid (T.length = N) := hide (by rw [← HTD.out, taken_len])
      have HOK := hide (one_okU HU.out HTL.out HB.out.size (.slice none 0 0) (.int .i64 (wt : Int)) (.slice pb k cb))
      have HBF : Hid (Below W.heap.size W (set3T (wq.alloc (.cells #[.slice p1 N c1] 26 (0, 0))) tB (.slice none 0 0) (.int .i64 (wt : Int)) (.slice pb k cb))) := hide ((HB.out.trans (ab.mono HB.out.size)).trans ((set3T_only _ tB _ _ _).below (Nat.le_trans HB.out.size ab.size) (fun i e => by have e' : i = tB := e; have := HWO.out; omega)))
      have HYL := hide HU.out.len
      have HPL : Hid ((⟨[T], [], (wt : Int), ys.map SV.rs⟩ : RS) = unionC (xs.map SV.rs)) := hide (by
        unfold unionC
        rw [HN.out, HML.out, HWT.out, HTD.out]
        simp only [RS.mk.injEq, true_and]
        apply List.ext_getElem
        · rw [List.length_map, HYL.out]; simp
        · intro i h1 h2
          have hi : i < k := by simpa using h2
          have h9 := HYS.out i hi
          rw [getElem!_pos ys i (by have := HYL.out; omega), getElem!_pos xs i (by have := HNX.out; omega)] at h9
          rw [List.getElem_map, h9, List.getElem_map, List.getElem_range, getElem!_pos (xs.map SV.rs) i (by have := HML.out; omega), List.getElem_map])
      unfold set3T at HE HOK HBF
      clear hbx hr ab
      go_upto_region 8 with fail
      go_region
      all_goals
        go_wp2
        refine bodyPost_ret (results_two_cell rfl _ _ tB 60 _ _ _ rfl HE.out Tryz.underlying60 rfl (by kernel_rfl)) rfl ?_
        exact ⟨⟨[⟨T, p1, c1⟩], some ⟨wq.heap.size, 0, none⟩, 1, [], none, 0, 0, (wt : Int), ys, pb, cb⟩, by first | (simp [RV.pv, RV.kv, RV.bv, HYL.out]; done) | simp [RV.pv, RV.kv, RV.bv, HYL.out, Act.eval, Act.put], HOK.out.later (Below.refl _ _).drew, by show (⟨[T], [], (wt : Int), ys.map SV.rs⟩ : RS) = _; exact HPL.out, HBF.out.drew⟩
end Go.Proofs.YtifldnpccgbnkaaGreat
