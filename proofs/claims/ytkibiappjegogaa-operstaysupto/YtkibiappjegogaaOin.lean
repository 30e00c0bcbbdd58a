/-
  slices.Insert of one KeyState into a row of its own. The conditions: lengths, and that what is put in lies elsewhere.
-/
import Derived.Test.YtkibiappjegogaaOli
import Derived.Maps.AppendAt
import Derived.Lib.Overlaps
import Derived.Lib.AppendZerosOnto
import Derived.Laws.CopyRow
import Derived.Deep.RegionLaw
import Derived.Laws.Externs
namespace Go.Proofs.Ytkibiappjegogaa
open Go.RowKit

/-- copy of elements of any size, into a block that is known whole. -/
theorem run_copyK {P : Program} {size : Nat} (w : World) (dT sT ty elem : TypeId) (g o dLen dCap : Nat) (a : Addr) (sLen sCap : Nat) (cur : Array Value) (t : TypeId) (cs : List Value) (n : Nat)
    (hu : P.underlying dT = some (.slice elem)) (hs : (P.info? elem).map (·.size) = some size)
    (hg : w.heap[g]? = some (.cells cur t (0, 0))) (hn : Nat.min sLen dLen = n) (hl : cs.length = n * size)
    (hsrc : ∀ j v, cs[j]? = some v → w.cell? (a.add j) = some v) (hfit : o + cs.length ≤ cur.size) (h1 : ∀ v ∈ cs, v.oneCell' = true) :
    (Builtin.copy_ #[dT, sT] ty #[.slice (some ⟨g, o, none⟩) dLen dCap, .slice (some a) sLen sCap]).run P w =
      .ok (goInt n) (w.setRow g (cur.toList.take o ++ cs ++ cur.toList.drop (o + cs.length)).toArray) := by
  have hld := run_loadCells_list (P := P) w a cs hsrc
  have hst := run_storeCells_at P g o t cs 0 cur w hg (by simpa using hfit) h1
  rw [hl] at hld
  cases hq : P.info? elem with
  | none => simp [hq] at hs
  | some i =>
    have hi : i.size = size := by simpa [hq] using hs
    simp [Builtin.copy_, run_underlying hu, Builtin.lenOf, Builtin.firstCells, sizeOf, typeInfo, hq, hi, hn, hld, hst]
theorem step_copy_run {P : Program} {ops : Array Oper} {o : Oper} {a : Act} {w : World} {K : Act → World → Prop} {Q : Exit → Act → World → Prop} {E : Prop}
    (hg : o.guard = none) (d x : Operand) (dT sT : TypeId) (hop : o.op = Op.call { callee := Callee.builtin Builtin.copy, args := #[d, x], argTypes := #[dT, sT] })
    (v u : Value) (hd : a.eval d = v) (hx : a.eval x = u) {v' : Value} {w' : World} (hr : (Builtin.copy_ #[dT, sT] o.type #[v, u]).run P w = .ok v' w') (hK : K (a.put o.dst v') w') :
    if Region.wanted o (yielded ops a.tmps) = true then Oper.wp P o a w K Q else E := by
  have hw : Region.wanted o (yielded ops a.tmps) = true := by simp [Region.wanted, hg]
  rw [if_pos hw]
  unfold Oper.wp
  simp [execOp, hop, resolve, invoke, builtin, hd, hx, hr, Result.andThen]
  exact hK
theorem ks_one (ks : List KS) : ∀ u ∈ ks.flatMap KS.cells, u.oneCell' = true := by
  intro u hu
  obtain ⟨x, _, hx⟩ := List.mem_flatMap.1 hu
  simp only [KS.cells, List.mem_cons, List.not_mem_nil, or_false] at hx
  rcases hx with rfl | rfl | rfl <;> rfl
theorem ks_len (ks : List KS) : (ks.flatMap KS.cells).length = ks.length * 3 := flat_len ks (fun o _ => KS.len o)
theorem ks_take : ∀ (ks : List KS) (i : Nat), (ks.flatMap KS.cells).take (i * 3) = (ks.take i).flatMap KS.cells
  | [], i => by simp
  | c :: cs, 0 => by simp
  | c :: cs, i + 1 => by
    have e1 : (i + 1) * 3 = c.cells.length + i * 3 := by rw [KS.len]; omega
    rw [List.flatMap_cons, e1, List.take_length_add_append, ks_take cs i, List.take_succ_cons, List.flatMap_cons]
theorem ks_drop : ∀ (ks : List KS) (i : Nat), (ks.flatMap KS.cells).drop (i * 3) = (ks.drop i).flatMap KS.cells
  | [], i => by simp
  | c :: cs, 0 => by simp
  | c :: cs, i + 1 => by
    have e1 : (i + 1) * 3 = c.cells.length + i * 3 := by rw [KS.len]; omega
    rw [List.flatMap_cons, e1, List.drop_length_add_append, ks_drop cs i, List.drop_succ_cons]
theorem only_row {g : Nat} {cs : Array Value} (w : World) : Only (· = g) w (w.setRow g cs) := ⟨rfl, rfl, rfl, by simp [World.setRow], fun k _ hk => setRow_other w g k cs (fun e => hk (by simp [e]))⟩
/-- The block where a slice lies. -/
def InP (p : Option Addr) (i : Nat) : Prop := ∃ a, p = some a ∧ i = a.block
theorem InP.of {p : Option Addr} {n c i : Nat} (h : (Value.slice p n c).ownBlock = some i) : InP p i := by
  cases p with
  | none => simp [Value.ownBlock] at h
  | some a => exact ⟨a, rfl, by simpa [Value.ownBlock] using h.symm⟩
set_option maxRecDepth 100000 in
theorem insert_end {W : World} {base n vb : Nat} {p : Option Addr} {cap : Nat} {ks : List KS} {k0 k1 k2 : Int} (h : W.ownsRow base 51 3 (.slice p n cap) n (ks.flatMap KS.cells)) (hv : W.heap[vb]? = some (.cells #[.int .i64 k0, .int .i64 k1, .int .i64 k2] 51 (0, 0))) (hb : (n + 1) * 24 ≤ 140737488355328) (hbase : base ≤ W.heap.size) :
    Calls Try.prog 26 #[.slice p n cap, .int .i64 (n : Int), .slice (some ⟨vb, 0, none⟩) 1 1] W fun e w' => ∃ p' c', e = .returned (.slice p' (n + 1) c') ∧ w'.ownsRow base 51 3 (.slice p' (n + 1) c') (n + 1) ((ks ++ [(⟨k0, k1, k2⟩ : KS)]).flatMap KS.cells) ∧ Only (InP p) W w' := by
  obtain ⟨i0, hI0, hz0, hz1, hz2⟩ := info_parts Try.infoKeyS
  obtain ⟨_, _, ef, i1, i2⟩ := own_form h
  simp only [Value.slice.injEq, true_and] at ef
  obtain ⟨rfl, rfl⟩ := ef
  have HK1 : Hid (n + 1 ≤ maxLen) := by show _ ≤ _; unfold maxLen; omega
  have HK2 : Hid ((n + 1) * 24 ≤ 140737488355328) := hb
  have HR := hide h
  have HV := hide hv
  have HBA := hide hbase
  have q1 : (n : Int) ≤ (n : Int) := by omega
  clear h hv hbase
  go_enter Try.func26, Try.ntmps26
  go_wp2_with (at_builtin; refine append_cells _ rfl (.tmp 23) (.tmp 24) 26 rfl base 51 i0 (.agg #[.int .i64 0, .int .i64 0, .int .i64 0]) 3 24 Try.underlying26 hI0 hz0 hz1 hz2 rfl (by decide) (.slice p n cap) n _ rfl HR.out (.slice (some ⟨vb, 0, none⟩) 1 1) 1 [.int .i64 k0, .int .i64 k1, .int .i64 k2] rfl (Seg.news HV.out (by simp [Value.oneCell']) rfl (Nat.le_refl _) (by decide)) HK1.out HK2.out HBA.out ?_)
  all_goals
    intro p4 c4 w4 o4 g4
    have HO4 : Hid (w4.ownsRow base 51 3 (.slice p4 (n + 1) c4) (n + 1) ((ks ++ [(⟨k0, k1, k2⟩ : KS)]).flatMap KS.cells)) := hide (by rw [List.flatMap_append]; exact o4)
    have HG4 : Hid (Only (InP p) W w4) := hide (Only.of_grown g4 (fun _ e => InP.of e))
    clear o4 g4
    go_wp2
    go_ret
    exact ⟨p4, c4, rfl, HO4.out, HG4.out⟩
set_option maxRecDepth 100000 in
set_option maxHeartbeats 2000000 in
theorem insert_room {W : World} {base n vb g i cap : Nat} {ks : List KS} {k0 k1 k2 : Int} (h : W.ownsRow base 51 3 (.slice (some ⟨g, 0, none⟩) n cap) n (ks.flatMap KS.cells)) (hn : ks.length = n) (hv : W.heap[vb]? = some (.cells #[.int .i64 k0, .int .i64 k1, .int .i64 k2] 51 (0, 0))) (hvg : vb ≠ g) (hi : i < n) (hc : n + 1 ≤ cap) :
    Calls Try.prog 26 #[.slice (some ⟨g, 0, none⟩) n cap, .int .i64 (i : Int), .slice (some ⟨vb, 0, none⟩) 1 1] W fun e w' => ∃ p' c', e = .returned (.slice p' (n + 1) c') ∧ w'.ownsRow base 51 3 (.slice p' (n + 1) c') (n + 1) ((ks.take i ++ (⟨k0, k1, k2⟩ : KS) :: ks.drop i).flatMap KS.cells) ∧ Only (InP (some ⟨g, 0, none⟩)) W w' := by
  obtain ⟨i0, hI0, hz0, hz1, hz2⟩ := info_parts Try.infoKeyS
  rcases h.2 with ⟨e', _⟩ | ⟨g', cap', cur, e', hbg, hg, hnc, hcm, hcs, htk⟩
  · cases e'
  · simp only [Value.slice.injEq, Option.some.injEq, Addr.mk.injEq, and_true, true_and] at e'
    obtain ⟨rfl, rfl⟩ := e'
    have hsz : (Try.prog.info? 51).map (·.size) = some 3 := by rw [hI0]; simp [hz1]
    have hdl : ((ks.drop i).flatMap KS.cells).length = (n - i) * 3 := by rw [ks_len, List.length_drop, hn]
    have hcur : ∀ j v, (ks.flatMap KS.cells)[j]? = some v → W.cell? ⟨g, j, none⟩ = some v := fun j v hj => by
      have hjl : j < n * 3 := by have := (List.getElem?_eq_some_iff.1 hj).1; rw [ks_len, hn] at this; exact this
      rw [h.cellAt j hjl]; exact hj
    have hmax : cap ≤ 9223372036854775807 := by unfold maxLen at hcm; omega
    -- what the first copy leaves
    obtain ⟨cur1, hcur1⟩ : ∃ cur1, cur1 = (cur.toList.take ((i + 1) * 3) ++ (ks.drop i).flatMap KS.cells ++ cur.toList.drop ((i + 1) * 3 + ((ks.drop i).flatMap KS.cells).length)).toArray := ⟨_, rfl⟩
    have hs1 : cur1.size = cur.size := by
      rw [hcur1, List.size_toArray, List.length_append, List.length_append, List.length_take, List.length_drop, hdl, Array.length_toList, hcs]
      omega
    have r1 : ∀ ty dc sc, (Builtin.copy_ #[26, 26] ty #[.slice (some ⟨g, (i + 1) * 3, none⟩) (n - i) dc, .slice (some ⟨g, i * 3, none⟩) (n + 1 - i) sc]).run Try.prog W.drew = .ok (goInt ((n - i : Nat))) (W.drew.setRow g cur1) := fun ty dc sc => by
      have := run_copyK (P := Try.prog) (size := 3) W.drew 26 26 ty 51 g ((i + 1) * 3) (n - i) dc ⟨g, i * 3, none⟩ (n + 1 - i) sc cur 51 ((ks.drop i).flatMap KS.cells) (n - i) Try.underlying26 hsz hg (by simp only [Nat.min_def]; split <;> omega) hdl (fun j v hj => by
        rw [Go.WideShapes.add_plain]
        have h2 := hcur (i * 3 + j) v (by rw [← List.getElem?_drop, ks_drop]; exact hj)
        exact h2) (by rw [hdl, hcs]; omega) (ks_one _)
      rw [hcur1]
      exact this
    obtain ⟨W1, hW1⟩ : ∃ W1, W1 = W.drew.setRow g cur1 := ⟨_, rfl⟩
    have hg1 : W1.heap[g]? = some (.cells cur1 51 (0, 0)) := by rw [hW1]; exact setRow_heap W.drew g cur _ _ _ hg
    have ho1 : Only (· = g) W W1 := by rw [hW1]; exact (Only.refl _ W).drew.trans (only_row _)
    have hv1 : W1.heap[vb]? = some (.cells #[.int .i64 k0, .int .i64 k1, .int .i64 k2] 51 (0, 0)) := ho1.obj hv (fun e => hvg e)
    obtain ⟨cur2, hcur2⟩ : ∃ cur2 : Array Value, cur2 = (cur1.toList.take (i * 3) ++ [Value.int .i64 k0, Value.int .i64 k1, Value.int .i64 k2] ++ cur1.toList.drop (i * 3 + 3)).toArray := ⟨_, rfl⟩
    have r2 : ∀ ty dc, (Builtin.copy_ #[26, 26] ty #[.slice (some ⟨g, i * 3, none⟩) (n + 1 - i) dc, .slice (some ⟨vb, 0, none⟩) 1 1]).run Try.prog W1 = .ok (goInt 1) (W1.setRow g cur2) := fun ty dc => by
      have := run_copyK (P := Try.prog) (size := 3) W1 26 26 ty 51 g (i * 3) (n + 1 - i) dc ⟨vb, 0, none⟩ 1 1 cur1 51 [.int .i64 k0, .int .i64 k1, .int .i64 k2] 1 Try.underlying26 hsz hg1 (by simp only [Nat.min_def]; split <;> omega) rfl (World.news_of_block hv1) (by rw [hs1, hcs]; simp; omega) (by simp [Value.oneCell'])
      rw [hcur2]
      exact this
    have htake : cur2.toList.take ((n + 1) * 3) = (ks.take i ++ (⟨k0, k1, k2⟩ : KS) :: ks.drop i).flatMap KS.cells := by
      have hci : cur.toList.take (i * 3) = (ks.take i).flatMap KS.cells := by
        rw [← ks_take, ← htk, List.take_take, Nat.min_eq_left (by omega)]
      have h1 : cur1.toList.take (i * 3) = (ks.take i).flatMap KS.cells := by
        rw [hcur1]
        dsimp only
        rw [List.append_assoc, List.take_append_of_le_length (by rw [List.length_take, Array.length_toList, hcs]; omega), List.take_take, Nat.min_eq_left (by omega), hci]
      have h2 : cur1.toList.drop (i * 3 + 3) = (ks.drop i).flatMap KS.cells ++ cur.toList.drop ((i + 1) * 3 + ((ks.drop i).flatMap KS.cells).length) := by
        rw [hcur1]
        dsimp only
        rw [List.append_assoc, List.drop_append_of_le_length (by rw [List.length_take, Array.length_toList, hcs]; omega), List.drop_of_length_le (by rw [List.length_take]; omega), List.nil_append]
      rw [hcur2]
      dsimp only
      rw [h1, h2, List.flatMap_append, List.flatMap_cons]
      have e3 : KS.cells ⟨k0, k1, k2⟩ = [.int .i64 k0, .int .i64 k1, .int .i64 k2] := rfl
      rw [e3, ← List.append_assoc, List.take_append_of_le_length (by
        rw [List.length_append, List.length_append, hdl, ks_len, List.length_take, hn]
        simp
        omega), List.take_of_length_le (by
        rw [List.length_append, List.length_append, hdl, ks_len, List.length_take, hn]
        simp
        omega), List.append_assoc]
    have HOW : Hid ((W1.setRow g cur2).ownsRow base 51 3 (.slice (some ⟨g, 0, none⟩) (n + 1) cap) (n + 1) ((ks.take i ++ (⟨k0, k1, k2⟩ : KS) :: ks.drop i).flatMap KS.cells)) := by
      refine hide ⟨by rw [ks_len, List.length_append, List.length_cons, List.length_take, List.length_drop, hn]; omega, .inr ⟨g, cap, cur2, rfl, hbg, setRow_heap W1 g cur1 _ _ _ hg1, hc, hcm, ?_, htake⟩⟩
      rw [hcur2, List.size_toArray, List.length_append, List.length_append, List.length_take, List.length_drop, Array.length_toList, hs1, hcs]
      simp
      omega
    have HON : Hid (Only (InP (some ⟨g, 0, none⟩)) W (W1.setRow g cur2)) := hide ((ho1.trans (only_row _)).mono (fun j _ e => ⟨_, rfl, e⟩))
    have hzz : ∀ w, (Go.sizeOf 51).run Try.prog w = .ok 3 w := fun w => by simp [sizeOf, typeInfo, hI0, hz1]
    have rov : ∀ dc, (callFunc 39 #[.slice (some ⟨vb, 0, none⟩) 1 1, .slice (some ⟨g, (i + 1) * 3, none⟩) (n - i) dc]).run Try.prog W = .ok (.value (.bool false)) W := fun dc => by
      rw [run_callFunc_extern Try.func39 (by kernel_rfl) (by kernel_rfl) (by kernel_rfl) (e := Extern.SlicesOverlaps.overlaps #[26, 26] #[4]) (by kernel_rfl),
        Lib.run_overlaps_apart W 26 4 51 Try.underlying26 3 hzz ⟨vb, 0, none⟩ ⟨g, (i + 1) * 3, none⟩ 1 1 (n - i) dc hvg 51 51 3 cur.size (by simp [World.shape?, hv]) (by simp [World.shape?, hg]) (by rw [hcs]; omega) (by simp [World.frozen?, hv]) (by simp [World.frozen?, hv])]
      rfl
    have HR1 := hide r1
    have HR2 := hide r2
    have hic : ¬ cap = i := by omega
    have hic1 : ¬ cap = i + 1 := by omega
    have q1 : ((i : Int) == (n : Int)) = false := by simpa using (by omega : ¬ (i : Int) = n)
    have q2 : decide ((n : Int) + 1 > (cap : Int)) = false := decide_eq_false (by omega)
    have q3 : (i : Int) ≤ n := by omega
    have q4 : (n : Int) + 1 ≤ cap := by omega
    have q5 : (i : Int) + 1 ≤ (n : Int) + 1 := by omega
    have q6 : (i : Int) ≤ (n : Int) + 1 := by omega
    have qw : IntKind.i64.wrap ((i : Int) + 1) = (i : Int) + 1 := by rw [IntKind.wrap_i64]; omega
    have qz : (0 : Int) ≤ (i : Int) + 1 := by omega
    have qt : ((i : Int) + 1).toNat = i + 1 := by omega
    have qs : n + 1 - (i + 1) = n - i := by omega
    clear h hcur hg1 ho1 hv1 htake hcur1 hcur2 hs1 htk hdl r1 r2
    go_enter Try.func26, Try.ntmps26
    go_upto_region 15 with fail
    go_region_law (refine step_copy_run rfl (.tmp 73) (.tmp 76) 26 26 rfl (.slice (some ⟨g, (i + 1) * 3, none⟩) (n - i) (cap - (i + 1))) (.slice (some ⟨g, i * 3, none⟩) (n + 1 - i) (cap - i)) (by simp [Act.eval, Act.put]) (by simp [Act.eval, Act.put]) (HR1.out _ _ _) ?_)
    all_goals
      rw [← hW1]
      clear hW1
      have r2' := HR2.out
      go_wp2
      go_ret
      exact ⟨_, _, rfl, HOW.out, HON.out⟩
/-- append, where its run is known by an equation. -/
theorem append_run {P : Program} (w : World) {ops : Array Oper} {rest : List Oper} {o : Oper} {a : Act} {Q : Exit → Act → World → Prop} (hgd : o.guard = none) (d s : Operand) (t t' : TypeId)
    (ho : o.op = .call { callee := .builtin .append, args := #[d, s], argTypes := #[t, t'] }) (v u : Value) (hd : a.eval d = v) (hs : a.eval s = u) {v' : Value} {w' : World}
    (hr : (Builtin.append_ #[t, t'] o.type #[v, u]).run P w = .ok v' w') (h : wpList P ops Q rest (a.put o.dst v') w') : wpList P ops Q (o :: rest) a w :=
  wpList_plain hgd fun _ hK => by
    unfold Oper.wp execOp
    simp only [ho, resolve, invoke, builtin, Sem.run_bind, Sem.run_pure, Result.andThen_ok, List.map_toArray, List.map_cons, List.map_nil, hd, hs, hr]
    exact hK _ _ h
theorem zero_len3 (k : Nat) : (Builtin.zeroCells (Value.agg #[.int .i64 0, .int .i64 0, .int .i64 0]).cells k).toList.length = k * 3 := by
  simp [Builtin.zeroCells, Value.cells]
set_option maxRecDepth 100000 in
set_option maxHeartbeats 2000000 in
theorem insert_grow {W : World} {base n vb g i cap : Nat} {ks : List KS} {k0 k1 k2 : Int} (h : W.ownsRow base 51 3 (.slice (some ⟨g, 0, none⟩) n cap) n (ks.flatMap KS.cells)) (hn : ks.length = n) (hv : W.heap[vb]? = some (.cells #[.int .i64 k0, .int .i64 k1, .int .i64 k2] 51 (0, 0))) (hi : i < n) (hc : cap < n + 1) (hb : (n + 1) * 24 ≤ 140737488355328) (hbase : base ≤ W.heap.size) :
    Calls Try.prog 26 #[.slice (some ⟨g, 0, none⟩) n cap, .int .i64 (i : Int), .slice (some ⟨vb, 0, none⟩) 1 1] W fun e w' => ∃ p' c', e = .returned (.slice p' (n + 1) c') ∧ w'.ownsRow base 51 3 (.slice p' (n + 1) c') (n + 1) ((ks.take i ++ (⟨k0, k1, k2⟩ : KS) :: ks.drop i).flatMap KS.cells) ∧ Only (InP (some ⟨g, 0, none⟩)) W w' := by
  obtain ⟨i0, hI0, hz0, hz1, hz2⟩ := info_parts Try.infoKeyS
  have hgl := (own_block_lt h (b := g) rfl).1
  have hvl := (Array.getElem?_eq_some_iff.1 hv).1
  obtain ⟨_, _, ef, i1, i2⟩ := own_form h
  simp only [Value.slice.injEq, true_and] at ef
  obtain ⟨rfl, rfl⟩ := ef
  have hsz : (Try.prog.info? 51).map (·.size) = some 3 := by rw [hI0]; simp [hz1]
  have hdl : ((ks.drop i).flatMap KS.cells).length = (n - i) * 3 := by rw [ks_len, List.length_drop, hn]
  have htl : ((ks.take i).flatMap KS.cells).length = i * 3 := by rw [ks_len, List.length_take, hn]; omega
  have hcur : ∀ j v, (ks.flatMap KS.cells)[j]? = some v → W.cell? ⟨g, j, none⟩ = some v := fun j v hj => by
    have hjl : j < n * 3 := by have := (List.getElem?_eq_some_iff.1 hj).1; rw [ks_len, hn] at this; exact this
    rw [h.cellAt j hjl]; exact hj
  obtain ⟨G, hG⟩ : ∃ G, G = grownCap W (n + 1) cap 51 := ⟨_, rfl⟩
  have hG1 : n + 1 ≤ G := by rw [hG]; exact grownCap_ge _ _ _ _
  have hG2 : G ≤ maxLen := by rw [hG]; exact grownCap_le_maxLen _ _ _ _ (by unfold maxLen; omega)
  obtain ⟨ROW, hROW⟩ : ∃ ROW : Array Value, ROW = ((ks.take i).flatMap KS.cells).toArray ++ Builtin.zeroCells (Value.agg #[.int .i64 0, .int .i64 0, .int .i64 0]).cells (n + 1 - i) ++ Builtin.zeroCells (Value.agg #[.int .i64 0, .int .i64 0, .int .i64 0]).cells (G - (n + 1)) := ⟨_, rfl⟩
  have hRs : ROW.size = G * 3 := by
    have z1 := zero_len3 (n + 1 - i)
    have z2 := zero_len3 (G - (n + 1))
    rw [Array.length_toList] at z1 z2
    rw [hROW, Array.size_append, Array.size_append, List.size_toArray, htl, z1, z2]
    omega
  have hRt : ROW.toList.take (i * 3) = (ks.take i).flatMap KS.cells := by
    rw [hROW, Array.toList_append, Array.toList_append, List.append_assoc, List.take_append_of_le_length (by show _ ≤ ((ks.take i).flatMap KS.cells).length; omega), List.take_of_length_le (by show ((ks.take i).flatMap KS.cells).length ≤ _; omega)]
  have hold : (Builtin.firstCells i0.size i (.slice (some ⟨g, 0, none⟩) i cap)).run Try.prog W.drew = .ok ((ks.take i).flatMap KS.cells).toArray W.drew := by
    rw [hz1]
    exact run_firstCells_some W.drew 3 i ⟨g, 0, none⟩ i cap ((ks.take i).flatMap KS.cells) htl (fun j v hj => by
      rw [Go.WideShapes.add_plain, Nat.zero_add]
      refine hcur j v ?_
      rw [← ks_take, List.getElem?_take] at hj
      split at hj
      · exact hj
      · cases hj)
  have hik : i + (n + 1 - i) = n + 1 := by omega
  have hkk : ((n : Int) + 1 - (i : Int)) = ((n + 1 - i : Nat) : Int) := by omega
  obtain ⟨W1, hW1⟩ : ∃ W1, W1 = W.drew.alloc (.cells ROW 51 (0, 0)) := ⟨_, rfl⟩
  have ra : ∀ ty, (Builtin.append_ #[26, 3] ty #[.slice (some ⟨g, 0, none⟩) i cap, .int .i64 ((n : Int) + 1 - (i : Int))]).run Try.prog W = .ok (.slice (some ⟨W.heap.size, 0, none⟩) (n + 1) G) W1 := fun ty => by
    have h3 := Lib.run_append_grow_zeros W 26 3 ty 51 i0 _ .i64 .i64 Try.underlying26 Try.underlying3 hI0 hz0 (some ⟨g, 0, none⟩) i cap ((ks.take i).flatMap KS.cells) hold (n + 1 - i) (by omega) (by omega) (by omega) (by omega) (by rw [hz2]; omega) (by rw [hz2, hik]; exact growslice_fits hc hb)
    rw [hik] at h3
    rw [hkk, hW1, hROW, hG]
    exact h3
  obtain ⟨N, hN⟩ : ∃ N, W.heap.size = N := ⟨_, rfl⟩
  have hB1 : Below W.heap.size W W1 := by rw [hW1]; exact ((Below.refl _ W).drew).alloc (Nat.le_refl _) _
  have hg1 : W1.heap[N]? = some (.cells ROW 51 (0, 0)) := by rw [hW1, ← hN]; exact heap_alloc_new W.drew _
  have hv1 : W1.heap[vb]? = some (.cells #[.int .i64 k0, .int .i64 k1, .int .i64 k2] 51 (0, 0)) := (hB1.block vb hvl).trans hv
  obtain ⟨cur1, hcur1⟩ : ∃ cur1 : Array Value, cur1 = (ROW.toList.take (i * 3) ++ [Value.int .i64 k0, Value.int .i64 k1, Value.int .i64 k2] ++ ROW.toList.drop (i * 3 + 3)).toArray := ⟨_, rfl⟩
  have hs1 : cur1.size = G * 3 := by
    rw [hcur1, List.size_toArray, List.length_append, List.length_append, List.length_take, List.length_drop, Array.length_toList, hRs]
    simp
    omega
  obtain ⟨W2, hW2⟩ : ∃ W2, W2 = W1.setRow N cur1 := ⟨_, rfl⟩
  have r1 : ∀ ty dc, (Builtin.copy_ #[26, 26] ty #[.slice (some ⟨N, i * 3, none⟩) (n + 1 - i) dc, .slice (some ⟨vb, 0, none⟩) 1 1]).run Try.prog W1 = .ok (goInt 1) W2 := fun ty dc => by
    have := run_copyK (P := Try.prog) (size := 3) W1 26 26 ty 51 N (i * 3) (n + 1 - i) dc ⟨vb, 0, none⟩ 1 1 ROW 51 [.int .i64 k0, .int .i64 k1, .int .i64 k2] 1 Try.underlying26 hsz hg1 (by simp only [Nat.min_def]; split <;> omega) rfl (World.news_of_block hv1) (by rw [hRs]; simp; omega) (by simp [Value.oneCell'])
    rw [hW2, hcur1]
    exact this
  have hg2 : W2.heap[N]? = some (.cells cur1 51 (0, 0)) := by rw [hW2]; exact setRow_heap W1 N ROW _ _ _ hg1
  have ho2 : Only (· = N) W1 W2 := by rw [hW2]; exact only_row _
  have hc2 : ∀ j v, (ks.flatMap KS.cells)[j]? = some v → W2.drew.cell? ⟨g, j, none⟩ = some v := fun j v hj => ho2.cell (cell_later hB1 (hcur j v hj)) (fun e => by have e' : g = N := e; omega)
  obtain ⟨cur2, hcur2⟩ : ∃ cur2 : Array Value, cur2 = (cur1.toList.take ((i + 1) * 3) ++ (ks.drop i).flatMap KS.cells ++ cur1.toList.drop ((i + 1) * 3 + ((ks.drop i).flatMap KS.cells).length)).toArray := ⟨_, rfl⟩
  have r2 : ∀ ty dc sc, (Builtin.copy_ #[26, 26] ty #[.slice (some ⟨N, (i + 1) * 3, none⟩) (n - i) dc, .slice (some ⟨g, i * 3, none⟩) (n - i) sc]).run Try.prog W2.drew = .ok (goInt ((n - i : Nat))) (W2.drew.setRow N cur2) := fun ty dc sc => by
    have := run_copyK (P := Try.prog) (size := 3) W2.drew 26 26 ty 51 N ((i + 1) * 3) (n - i) dc ⟨g, i * 3, none⟩ (n - i) sc cur1 51 ((ks.drop i).flatMap KS.cells) (n - i) Try.underlying26 hsz hg2 (by simp only [Nat.min_def]; split <;> omega) hdl (fun j v hj => by
      rw [Go.WideShapes.add_plain]
      exact hc2 (i * 3 + j) v (by rw [← List.getElem?_drop, ks_drop]; exact hj)) (by rw [hdl, hs1]; omega) (ks_one _)
    rw [hcur2]
    exact this
  have htake : cur2.toList.take ((n + 1) * 3) = (ks.take i ++ (⟨k0, k1, k2⟩ : KS) :: ks.drop i).flatMap KS.cells := by
    have h1 : cur1.toList.take ((i + 1) * 3) = (ks.take i).flatMap KS.cells ++ [Value.int .i64 k0, Value.int .i64 k1, Value.int .i64 k2] := by
      rw [hcur1]
      dsimp only
      rw [hRt, List.take_append_of_le_length (by rw [List.length_append, htl]; simp; omega), List.take_of_length_le (by rw [List.length_append, htl]; simp; omega)]
    rw [hcur2]
    dsimp only
    rw [h1, List.flatMap_append, List.flatMap_cons]
    have e3 : KS.cells ⟨k0, k1, k2⟩ = [.int .i64 k0, .int .i64 k1, .int .i64 k2] := rfl
    rw [e3, List.take_append_of_le_length (by
      rw [List.length_append, List.length_append, hdl, htl]
      simp
      omega), List.take_of_length_le (by
      rw [List.length_append, List.length_append, hdl, htl]
      simp
      omega), List.append_assoc]
  have HOW : Hid ((W2.drew.setRow N cur2).ownsRow base 51 3 (.slice (some ⟨N, 0, none⟩) (n + 1) G) (n + 1) ((ks.take i ++ (⟨k0, k1, k2⟩ : KS) :: ks.drop i).flatMap KS.cells)) := by
    refine hide ⟨by rw [ks_len, List.length_append, List.length_cons, List.length_take, List.length_drop, hn]; omega, .inr ⟨N, G, cur2, rfl, by omega, setRow_heap W2.drew N cur1 _ _ _ hg2, hG1, hG2, ?_, htake⟩⟩
    rw [hcur2, List.size_toArray, List.length_append, List.length_append, List.length_take, List.length_drop, hdl, Array.length_toList, hs1]
    omega
  have HON : Hid (Only (InP (some ⟨g, 0, none⟩)) W (W2.drew.setRow N cur2)) := hide (((Only.fresh hB1 _).step ho2 (fun j e => .inr (by have e' : j = N := e; omega))).step ((Only.refl _ W2).drew.trans (only_row (g := N) _)) (fun j e => .inr (by have e' : j = N := e; omega)))
  have HR2 := hide r2
  have HRA := hide ra
  have hic : ¬ cap = i := by omega
  have hGi : ¬ G = i := by omega
  have hGi1 : ¬ G = i + 1 := by omega
  have q1 : ((i : Int) == (n : Int)) = false := by simpa using (by omega : ¬ (i : Int) = n)
  have q2 : decide ((n : Int) + 1 > (cap : Int)) = true := decide_eq_true (by omega)
  have q3 : (i : Int) ≤ n := by omega
  have q4 : (i : Int) ≤ cap := by omega
  have q5 : (i : Int) + 1 ≤ (n : Int) + 1 := by omega
  have q6 : (i : Int) ≤ (n : Int) + 1 := by omega
  have qw : IntKind.i64.wrap ((i : Int) + 1) = (i : Int) + 1 := by rw [IntKind.wrap_i64]; omega
  have qw2 : IntKind.i64.wrap ((n : Int) + 1 - (i : Int)) = (n : Int) + 1 - (i : Int) := by rw [IntKind.wrap_i64]; omega
  have qz : (0 : Int) ≤ (i : Int) + 1 := by omega
  have qt : ((i : Int) + 1).toNat = i + 1 := by omega
  have qs : n + 1 - (i + 1) = n - i := by omega
  clear h hcur hg1 hv1 htake hcur1 hcur2 hs1 hdl htl r2 ra hG hROW hRs hRt hold hik hkk hW1 hW2 hB1 hg2 ho2 hc2
  go_enter Try.func26, Try.ntmps26
  go_wp2_with (at_builtin; refine append_run _ rfl (.tmp 34) (.tmp 39) 26 3 rfl (.slice (some ⟨g, 0, none⟩) i cap) (.int .i64 ((n : Int) + 1 - (i : Int))) rfl rfl (HRA.out _) ?_)
  try rw [hN]
  try clear hN
  try go_upto_region 11 with fail
  go_region_law (refine step_copy_run rfl (.tmp 50) (.tmp 53) 26 26 rfl (.slice (some ⟨N, (i + 1) * 3, none⟩) (n - i) (G - (i + 1))) (.slice (some ⟨g, i * 3, none⟩) (n - i) (cap - i)) (by simp [Act.eval, Act.put]) (by simp [Act.eval, Act.put]) (HR2.out _ _ _) ?_)
  all_goals
    go_wp2
    go_ret
    exact ⟨_, _, rfl, HOW.out, HON.out⟩
/-- slices.Insert of one. -/
theorem insert_any {W : World} {base n vb i cap : Nat} {p : Option Addr} {ks : List KS} {k0 k1 k2 : Int} (h : W.ownsRow base 51 3 (.slice p n cap) n (ks.flatMap KS.cells)) (hn : ks.length = n) (hv : W.heap[vb]? = some (.cells #[.int .i64 k0, .int .i64 k1, .int .i64 k2] 51 (0, 0))) (hvg : ∀ a, p = some a → vb ≠ a.block) (hi : i ≤ n) (hb : (n + 1) * 24 ≤ 140737488355328) (hbase : base ≤ W.heap.size) :
    Calls Try.prog 26 #[.slice p n cap, .int .i64 (i : Int), .slice (some ⟨vb, 0, none⟩) 1 1] W fun e w' => ∃ p' c', e = .returned (.slice p' (n + 1) c') ∧ w'.ownsRow base 51 3 (.slice p' (n + 1) c') (n + 1) ((ks.take i ++ (⟨k0, k1, k2⟩ : KS) :: ks.drop i).flatMap KS.cells) ∧ Only (InP p) W w' := by
  by_cases he : i = n
  · subst he
    have e1 : ks.take i ++ (⟨k0, k1, k2⟩ : KS) :: ks.drop i = ks ++ [⟨k0, k1, k2⟩] := by
      rw [List.take_of_length_le (by omega), List.drop_of_length_le (by omega)]
    rw [e1]
    exact insert_end h hv hb hbase
  · rcases h.2 with ⟨e', h0⟩ | ⟨g, cap', cur, e', _⟩
    · omega
    · simp only [Value.slice.injEq, true_and] at e'
      obtain ⟨rfl, rfl⟩ := e'
      by_cases hc : n + 1 ≤ cap
      · exact insert_room h hn hv (hvg _ rfl) (by omega) hc
      · exact insert_grow h hn hv (by omega) (by omega) hb hbase
end Go.Proofs.Ytkibiappjegogaa
