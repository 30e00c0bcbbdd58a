/-
  The reference: Sync. The conditions: lengths.
-/
import Derived.Test.YtikpckmlnhcddaaGreatRws
namespace Go.Proofs.YtikpckmlnhcddaaGreat
open Go.RowKit Go.Maps

theorem own_setc {w : World} {base g n cap size j : Nat} {e : TypeId} {xs : List Value} (h : w.ownsRow base e size (.slice (some ⟨g, 0, none⟩) n cap) n xs) (u : Value) : (w.setCell ⟨g, j, none⟩ u).ownsRow base e size (.slice (some ⟨g, 0, none⟩) n cap) n (xs.set j u) := by
  refine ⟨by rw [List.length_set]; exact h.1, ?_⟩
  rcases h.2 with ⟨he, _⟩ | ⟨g', cap', cur, he, hb, hh, h1, h2, h3, h4⟩
  · simp at he
  · simp only [Value.slice.injEq, Option.some.injEq, Addr.mk.injEq, and_true, true_and] at he
    obtain ⟨rfl, rfl⟩ := he
    refine .inr ⟨g, cap, cur.setIfInBounds j u, rfl, hb, heap_set_same hh j u, h1, h2, by simpa using h3, ?_⟩
    rw [Array.toList_setIfInBounds, List.take_set, h4]
theorem cells_set {L : List RF} {i : Nat} (hi : i < L.length) (c : By) (v : Value) : (L.set i { L[i]! with b := c, bv := v }).flatMap RF.cells = (L.flatMap RF.cells).set (i * 2 + 1) v := by
  induction L generalizing i with
  | nil => simp at hi
  | cons f L ih =>
    cases i with
    | zero => simp [RF.cells]
    | succ i =>
      have hi' : i < L.length := by simpa using hi
      have e : (i + 1) * 2 + 1 = (i * 2 + 1) + 2 := by omega
      rw [List.set_cons_succ, List.flatMap_cons, List.flatMap_cons, e]
      have e2 : (f :: L)[i + 1]! = L[i]! := by simp
      rw [e2, ih hi']
      simp [RF.cells]

/-- A file's bytes are made others. -/
theorem RRep.setB {W : World} {rb g cap : Nat} {R : RS} (h : RRep W rb R) (he : R.lv = .slice (some ⟨g, 0, none⟩) R.L.length cap) {i : Nat} (hi : i < R.L.length) {v : Value} {c : By} (hv : Row .u8 W v c) (hu : U8 c) (hs : c ≠ [] → ∀ k, v.ownBlock = some k → ¬ rown rb R k) :
    RRep (W.setCell ⟨g, i * 2 + 1, none⟩ v) rb { R with L := R.L.set i { R.L[i]! with b := c, bv := v } } := by
  have hlo : R.lv.ownBlock = some g := by rw [he]; rfl
  have ho : Only (· = g) W (W.setCell ⟨g, i * 2 + 1, none⟩ v) := Only.set _ _ _ _ rfl
  have hgrb : rb ≠ g := fun e => h.l_rb (by rw [e]; exact hlo)
  have hlp : R.pv.ownBlock ≠ some g := fun h2 => by
    obtain ⟨_, cur, hc⟩ := own_block_lt h.lrow hlo
    obtain ⟨_, cur', hc'⟩ := own_block_lt h.prow h2
    rw [hc] at hc'; simp at hc'
  have hmem : ∀ f ∈ R.L.set i { R.L[i]! with b := c, bv := v }, f = { R.L[i]! with b := c, bv := v } ∨ f ∈ R.L := fun f hf => by
    rcases List.mem_or_eq_of_mem_set hf with h' | h'
    · exact .inr h'
    · exact .inl h'
  refine ⟨ho.obj h.box hgrb, ?_, ownsRow_only h.prow ho (fun b hb e => by subst e; exact hlp hb), fun f hf => ?_, fun p hp => ⟨(h.pb p hp).1.only0 ho (fun hl b hb e => by subst e; exact h.sep _ (.inr ⟨p, hp, hl, hb⟩) (.inr (.inl hlo))), (h.pb p hp).2⟩, ?_⟩
  · simp only [List.length_set]
    rw [cells_set hi, he]
    have := h.lrow
    rw [he] at this
    exact own_setc this v
  · rcases hmem f hf with rfl | hf
    · exact ⟨hv.only0 ho (fun hl b hb e => by subst e; exact hs hl _ hb (.inr (.inl hlo))), hu⟩
    · exact ⟨(h.lb f hf).1.only0 ho (fun hl b hb e => by subst e; exact h.sep _ (.inl ⟨f, hf, hl, hb⟩) (.inr (.inl hlo))), (h.lb f hf).2⟩
  · rintro k (⟨f, hf, hl, hb⟩ | hp)
    · rcases hmem f hf with rfl | hf
      · exact hs hl k hb
      · exact h.sep k (.inl ⟨f, hf, hl, hb⟩)
    · exact h.sep k (.inr hp)
theorem setB_core {R : RS} (hs : Sole R) {n : Nm} {i : Nat} (ha : atL R.L n = some i) (c : By) (v : Value) : (R.L.set i { R.L[i]! with b := c, bv := v }).map RF.core = setC (R.L.map RF.core) n c := by
  obtain ⟨hi, hn⟩ := atL_get ha
  refine List.ext_getElem? (fun j => ?_)
  unfold setC
  simp only [List.getElem?_map, List.getElem?_set]
  by_cases hj : i = j
  · subst hj
    rw [if_pos rfl, if_pos hi, List.getElem?_eq_getElem hi]
    rw [getElem!_pos R.L i hi] at hn ⊢
    simp [RF.core, hn]
  · rw [if_neg hj]
    rcases Nat.lt_or_ge j R.L.length with h' | h'
    · rw [List.getElem?_eq_getElem h']
      have hne : R.L[j].name ≠ n := by
        intro e
        have h1 := hs.at_ h'
        rw [getElem!_pos R.L j h', e, ha] at h1
        simp at h1
        exact hj h1
      simp [RF.core, hne]
    · rw [List.getElem?_eq_none h']; rfl
theorem withoutL_core (P : List RP) (n : Nm) : (withoutL P n).map RP.core = offP (P.map RP.core) n := by
  unfold withoutL offP
  rw [List.filter_map]
  rfl
theorem without_mem {P : List RP} {n : Nm} {p : RP} (h : p ∈ withoutL P n) : p ∈ P := (List.mem_filter.1 h).1

set_option maxRecDepth 100000 in
set_option maxHeartbeats 4000000 in
theorem rsync_may {W : World} {rb : Nat} {R : RS} (h : RRep W rb R) {s : ByteArray} {E : Int} (hE : R.core.may s.data.toList = E) (hE0 : (E == 0) = false) :
    Calls Tryz.prog 35 #[.pointer (some ⟨rb, 0, none⟩), .string s] W fun e w' => e = .returned (.int .i64 E) ∧ w' = W := by
  have HM := hide (may_calls h s)
  rw [hE] at HM
  have hb : (E != 0) = true := by rw [bne, hE0]; rfl
  clear hE h
  go_enter Tryz.func35, Tryz.ntmps35
  go_wp2_with fail
  refine HM.out.mono ?_
  rintro _ _ ⟨rfl, rfl⟩
  go_wp2
  go_ret
  exact ⟨rfl, rfl⟩

theorem enAt : ∀ args w, (callFunc 62 args).run Tryz.prog w = .ok (.enter 62 args) w := enters_of Tryz.func62 (by kernel_rfl) rfl
theorem enAll : ∀ args w, (callFunc 65 args).run Tryz.prog w = .ok (.enter 65 args) w := enters_of Tryz.func65 (by kernel_rfl) rfl

set_option maxRecDepth 100000 in
set_option maxHeartbeats 4000000 in
theorem rsync_ok {W : World} {rb : Nat} {R : RS} (h : RRep W rb R) (hok : RefOk R) (hs : Sole R) {s : ByteArray} (hu : U8 (R.core.all s.data.toList)) (hE : R.core.may s.data.toList = 0) :
    Calls Tryz.prog 35 #[.pointer (some ⟨rb, 0, none⟩), .string s] W fun e w' => e = .returned (.int .i64 0) ∧ ∃ R', RRep w' rb R' ∧ RStep W w' rb R R' ∧ R'.core = { R.core with L := setC R.core.L s.data.toList (R.core.all s.data.toList), P := offP R.core.P s.data.toList } := by
  have HM := hide (may_calls h s)
  rw [hE] at HM
  obtain ⟨_, j, hj⟩ := may_zero hE
  obtain ⟨hjl, hjn⟩ := atL_get hj
  obtain ⟨c, hc⟩ : ∃ c, R.core.all s.data.toList = c := ⟨_, rfl⟩
  obtain ⟨N, hN⟩ : ∃ N, c.length = N := ⟨_, rfl⟩
  have HA1 : Hid (∀ X, Below W.heap.size W X → Calls Tryz.prog 62 #[.pointer (some ⟨rb, 0, none⟩), .string s] X fun e w' => e = .returned (.int .i64 (j : Int)) ∧ w' = X) := hide (fun X hX => by
    have := at_any (h.fresh hX) (s := s)
    rw [show atI R.L s.data.toList = (j : Int) by simp [atI, hj]] at this
    exact this)
  have HA2 := hide (all_calls h.drew hok hs hj hc hN)
  rw [hc] at hu ⊢
  obtain ⟨c0, c1, c2, c3⟩ := h.rcells
  obtain ⟨p, cap, he, h1, h2⟩ := own_form h.lrow
  have hlr := h.lrow
  rw [he] at c0 hlr
  obtain ⟨g, rfl, d0, d1, f0, f1⟩ := file_cells hlr rfl hjl
  obtain ⟨fb, hfb⟩ : ∃ fb, (R.L[j]!).bv = fb := ⟨_, rfl⟩
  rw [hfb] at d1
  have HLR := hide hlr
  have HSET : Hid (∀ X p1 c1, Below W.heap.size W X → Row .u8 X (.slice p1 N c1) c → (∀ i, (Value.slice p1 0 0).ownBlock = some i → ((R.L[j]!).bv.ownBlock = some i ∧ c = (R.L[j]!).b) ∨ W.heap.size ≤ i) → RRep (X.setCell ⟨g, j * 2 + 1, none⟩ (.slice p1 N c1)) rb { R with L := R.L.set j { R.L[j]! with b := c, bv := .slice p1 N c1 } } ∧ RStep W (X.setCell ⟨g, j * 2 + 1, none⟩ (.slice p1 N c1)) rb R { R with L := R.L.set j { R.L[j]! with b := c, bv := .slice p1 N c1 } }) := by
    refine hide (fun X p1 c1 hX hrow hblk => ?_)
    have hbk : c ≠ [] → ∀ k, (Value.slice p1 N c1).ownBlock = some k → rcov R k ∨ W.heap.size ≤ k := fun hcne k hk => by
      rcases hblk k ((ownB _ _ _ _ _).trans hk) with h' | h'
      · exact .inl (.inl ⟨R.L[j]!, by rw [getElem!_pos R.L j hjl]; exact List.getElem_mem _, by rw [← h'.2]; exact hcne, h'.1⟩)
      · exact .inr h'
    refine ⟨(h.fresh hX).setB he hjl hrow hu (fun hcne k hk hr => ?_), ⟨(Only.fresh hX _).trans (Only.set _ _ _ _ (.inr (.inl (by rw [he]; rfl)))), fun i hi => .inl hi, fun i hi => ?_⟩⟩
    · rcases hbk hcne k hk with h' | h'
      · exact h.sep k h' hr
      · have := h.rown_lt hr; omega
    · rcases hi with ⟨f, hf, hl, hi⟩ | hi
      · rcases List.mem_or_eq_of_mem_set hf with hf | rfl
        · exact .inl (.inl ⟨f, hf, hl, hi⟩)
        · exact hbk hl i hi
      · exact .inl (.inr hi)
  have HP := hide hok.P
  have HS := hide hs
  have HJ := hide hj
  have H := hide h
  clear hE h hok hj c1 c2 c3 d0 f0 hlr hfb hc hs hu hjn
  go_enter Tryz.func35, Tryz.ntmps35
  go_wp2_with fail
  refine HM.out.mono ?_
  rintro _ W ⟨rfl, rfl⟩
  go_upto_region 4 with fail
  go_cut [] from 5 (fun wd => ∃ v, Hid (RRep wd rb { R with L := R.L.set j { R.L[j]! with b := c, bv := v } } ∧ RStep W wd rb R { R with L := R.L.set j { R.L[j]! with b := c, bv := v } }))
  case first =>
    go_region_law (first
      | (refine step_calls rfl 62 #[.tmp 16, .tmp 17] #[28, 9] rfl #[.pointer (some ⟨rb, 0, none⟩), .string s] (by first | (simp [Act.eval]; done) | (simp [Act.eval, Act.put]; done)) enAt _ (HA1.out _ (by first | exact (Below.refl _ W).drew | exact HBA.out)) ?_; rintro r w0 ⟨rfl, rfl⟩; refine ⟨_, rfl, ?_⟩)
      | (refine step_calls rfl 65 #[.tmp 19, .tmp 20] #[28, 9] rfl #[.pointer (some ⟨rb, 0, none⟩), .string s] (by first | (simp [Act.eval]; done) | (simp [Act.eval, Act.put]; done)) enAll _ HA2.out ?_; rintro r w1 ⟨p1, c1, rfl, hrow, hq1, hq2, hblk, hb⟩; have HBA : Hid (Below W.heap.size W w1) := hide (below_undrew hb); have r0 := cell_later HBA.out c0; have r1 := cell_later HBA.out d1; have rf : w1.frozen? ⟨g, j * 2 + 1, none⟩ = false := (ownsRow_later HLR.out HBA.out).frozenAt _; have HQ := hide (HSET.out w1 p1 c1 HBA.out hrow hblk); clear hrow hblk hb; refine ⟨_, rfl, ?_⟩))
    all_goals
      go_wp2_with fail
      go_meet
      case rel => exact ⟨_, HQ⟩
  case rest =>
    obtain ⟨v, HQ⟩ := hcut
    rename World => wd
    obtain ⟨R1, hR1⟩ : ∃ R1 : RS, R1 = { R with L := R.L.set j { R.L[j]! with b := c, bv := v } } := ⟨_, rfl⟩
    rw [← hR1] at HQ
    have e1 : R1.P = R.P := by rw [hR1]
    have HC1 : Hid (R1.core.L = setC R.core.L s.data.toList c) := by rw [hR1]; exact hide (setB_core HS.out HJ.out c v)
    have HC2 : Hid (R1.most = R.most ∧ R1.down = R.down) := by rw [hR1]; exact hide ⟨rfl, rfl⟩
    clear hR1
    have HW := hide (without_any HQ.out.1 (s := s) (by rw [e1]; exact HP.out))
    have r1 := HQ.out.1.rcells.2.1
    have rz := HQ.out.1.frozen 1
    have HE1 := hide e1
    clear HA1 HA2 HSET HLR c0 d1 f1 e1
    go_wp2_with fail
    refine HW.out.mono ?_
    rintro _ w2 ⟨p2, c2, rfl, o2, b2⟩
    have k1 := cell_later b2 r1
    have kz : w2.frozen? ⟨rb, 1, none⟩ = false := (HQ.out.1.fresh b2).frozen 1
    have HO2 := hide o2
    have HB2 := hide b2
    clear o2 b2 r1 rz
    go_wp2
    go_ret
    have hb2 := HB2.out.size
    have hst := HQ.out.2.only.size
    refine ⟨rfl, _, (HQ.out.1.fresh HB2.out).setP (P := withoutL R1.P s.data.toList) (own_base5 (base := wd.heap.size) HO2.out (Nat.zero_le _)) (fun f hf => ⟨(HQ.out.1.pb f (without_mem hf)).1.below HB2.out, (HQ.out.1.pb f (without_mem hf)).2⟩) (fun f hf hl i hi => ⟨HQ.out.1.sep i (.inr ⟨f, without_mem hf, hl, hi⟩), fun e => ?_⟩) (fun i hi e => ?_), HQ.out.2.trans ⟨(Only.fresh HB2.out _).trans (Only.set _ _ _ _ (.inl rfl)), fun i hi => ?_, fun i hi => ?_⟩, ?_⟩
    · have := (HQ.out.1.pb f (without_mem hf)).1.block_lt hl hi
      have := own_block_base HO2.out e
      omega
    · have := HQ.out.1.rcov_lt hi
      have := own_block_base HO2.out e
      omega
    · rcases hi with e | e | e
      · exact .inl (.inl e)
      · exact .inl (.inr (.inl e))
      · exact .inr (own_block_base HO2.out e)
    · rcases hi with hi | ⟨f, hf, hl, hi⟩
      · exact .inl (.inl hi)
      · exact .inl (.inr ⟨f, without_mem hf, hl, hi⟩)
    · have a1 := HC1.out
      have a2 := HC2.out
      have a3 := HE1.out
      unfold RS.core at a1 ⊢
      simp only at a1 ⊢
      rw [a1, withoutL_core, a2.1, a2.2, a3]
end Go.Proofs.YtikpckmlnhcddaaGreat

/-
  The reference: Cut. The conditions: lengths.
-/
namespace Go.Proofs.YtikpckmlnhcddaaGreat
open Go.RowKit Go.Maps

theorem Row.take3 {k : IntKind} {w : World} {p : Option Addr} {cap : Nat} {l : List Int} (h : Row k w (.slice p l.length cap) l) {n : Nat} (hn : n ≤ l.length) : Row k w (.slice p n n) (l.take n) := by
  have hl : (l.take n).length = n := by simp; omega
  obtain ⟨p', cap', he, h1, h2, h3, h4⟩ := h
  simp only [Value.slice.injEq, true_and] at he
  obtain ⟨rfl, rfl⟩ := he
  refine ⟨p, n, by rw [hl], by omega, by omega, fun hp => by have := h3 hp; omega, fun hp => ?_⟩
  obtain ⟨b, o, rfl, hc⟩ := h4 (by omega)
  refine ⟨b, o, rfl, fun i hi => ?_⟩
  rw [hl] at hi
  rw [hc i (by omega)]
  congr 2
  simp only [List.getD_eq_getElem?_getD]
  rw [List.getElem?_take_of_lt hi]
theorem setC_setC (L : List CF) (n : Nm) (b c : By) : setC (setC L n b) n c = setC L n c := by
  unfold setC
  rw [List.map_map]
  refine List.map_congr_left (fun f _ => ?_)
  simp only [Function.comp]
  by_cases e : f.name = n
  · simp [e]
  · simp [e]

set_option maxRecDepth 100000 in
set_option maxHeartbeats 4000000 in
theorem rcut_may {W : World} {rb : Nat} {R : RS} (h : RRep W rb R) {s : ByteArray} (k : Int) {E : Int} (hE : R.core.may s.data.toList = E) (hE0 : (E == 0) = false) :
    Calls Tryz.prog 34 #[.pointer (some ⟨rb, 0, none⟩), .string s, .int .i64 k] W fun e w' => e = .returned (.int .i64 E) ∧ w' = W := by
  have HM := hide (may_calls h s)
  rw [hE] at HM
  have hb : (E != 0) = true := by rw [bne, hE0]; rfl
  clear hE h
  go_enter Tryz.func34, Tryz.ntmps34
  go_wp2_with fail
  refine HM.out.mono ?_
  rintro _ _ ⟨rfl, rfl⟩
  go_wp2
  go_ret
  exact ⟨rfl, rfl⟩

set_option maxRecDepth 100000 in
set_option maxHeartbeats 4000000 in
theorem rcut_spot {W : World} {rb : Nat} {R : RS} (h : RRep W rb R) (hok : RefOk R) (hs : Sole R) {s : ByteArray} (hE : R.core.may s.data.toList = 0) {k : Int} (hk : k < 0 ∨ ((R.core.all s.data.toList).length : Int) < k) :
    Calls Tryz.prog 34 #[.pointer (some ⟨rb, 0, none⟩), .string s, .int .i64 k] W fun e w' => e = .returned (.int .i64 33) ∧ Below W.heap.size W w' := by
  have HM := hide (may_calls h s)
  rw [hE] at HM
  obtain ⟨_, j, hj⟩ := may_zero hE
  obtain ⟨N, hN⟩ : ∃ N, (R.core.all s.data.toList).length = N := ⟨_, rfl⟩
  have HA := hide (all_calls h hok hs hj rfl hN)
  rw [hN] at hk
  by_cases h0 : k < 0
  · have hd : decide (k < 0) = true := decide_eq_true h0
    clear hE h hok hs hj hN hk HA
    go_enter Tryz.func34, Tryz.ntmps34
    go_wp2_with fail
    refine HM.out.mono ?_
    rintro _ _ ⟨rfl, rfl⟩
    go_wp2
    go_ret
    exact ⟨rfl, Below.refl _ _⟩
  · have hd : decide (k < 0) = false := decide_eq_false h0
    have hd2 : decide ((N : Int) < k) = true := decide_eq_true (by omega)
    clear hE h hok hs hj hN hk
    go_enter Tryz.func34, Tryz.ntmps34
    go_wp2_with fail
    refine HM.out.mono ?_
    rintro _ _ ⟨rfl, rfl⟩
    go_wp2_with fail
    refine HA.out.mono ?_
    rintro _ w1 ⟨p, cap, rfl, _, _, _, _, hb⟩
    go_wp2
    go_ret
    exact ⟨rfl, hb⟩

set_option maxRecDepth 100000 in
set_option maxHeartbeats 4000000 in
theorem rcut_ok {W : World} {rb : Nat} {R : RS} (h : RRep W rb R) (hok : RefOk R) (hs : Sole R) {s : ByteArray} (hu : U8 (R.core.all s.data.toList)) (hE : R.core.may s.data.toList = 0) {k : Nat} (hk : k ≤ (R.core.all s.data.toList).length) :
    Calls Tryz.prog 34 #[.pointer (some ⟨rb, 0, none⟩), .string s, .int .i64 k] W fun e w' => e = .returned (.int .i64 0) ∧ ∃ R', RRep w' rb R' ∧ RStep W w' rb R R' ∧ R'.core = { R.core with L := setC R.core.L s.data.toList ((R.core.all s.data.toList).take k), P := offP R.core.P s.data.toList } := by
  have HM := hide (may_calls h s)
  rw [hE] at HM
  obtain ⟨_, j, hj⟩ := may_zero hE
  have hN1 := all_len hok hs hj
  obtain ⟨c, hc⟩ : ∃ c, R.core.all s.data.toList = c := ⟨_, rfl⟩
  obtain ⟨N, hN⟩ : ∃ N, c.length = N := ⟨_, rfl⟩
  have HA := hide (all_calls h hok hs hj hc hN)
  have HSY : Hid (∀ X, Below W.heap.size W X → Calls Tryz.prog 35 #[.pointer (some ⟨rb, 0, none⟩), .string s] X fun e w' => e = .returned (.int .i64 0) ∧ ∃ R', RRep w' rb R' ∧ RStep W w' rb R R' ∧ R'.core = { R.core with L := setC R.core.L s.data.toList c, P := offP R.core.P s.data.toList }) := by
    refine hide (fun X hX => (rsync_ok (h.fresh hX) hok hs hu hE).mono ?_)
    rintro e w' ⟨rfl, R', a1, a2, a3⟩
    rw [hc] at a3
    exact ⟨rfl, R', a1, (RStep.fresh hX).trans a2, a3⟩
  rw [hc] at hk hu hN1 ⊢
  rw [hN] at hk hN1
  have HS := hide hs
  have HJ := hide hj
  have HU := hide hu
  have HN := hide hN
  clear hE h hok hs hj hc hu hN
  go_enter Tryz.func34, Tryz.ntmps34
  go_wp2_with fail
  refine HM.out.mono ?_
  rintro _ W ⟨rfl, rfl⟩
  have hd : decide ((k : Int) < 0) = false := decide_eq_false (by omega)
  have hd2 : decide ((N : Int) < (k : Int)) = false := decide_eq_false (by omega)
  go_wp2_with fail
  refine HA.out.mono ?_
  rintro _ w1 ⟨p, cap, rfl, _, _, _, _, hb⟩
  have HB := hide hb
  clear hb HA HM
  go_wp2_with fail
  refine (HSY.out _ HB.out).mono ?_
  rintro _ w2 ⟨rfl, R1, a1, a2, a3⟩
  have hnm : R1.L.map RF.name = R.L.map RF.name := by
    have := congrArg (fun r => RC.L r) a3
    simp only at this
    rw [← core_names, ← core_names, this, setC_names]
  have hs1 : Sole R1 := by unfold Sole; rw [hnm]; exact HS.out
  have hj1 : ∃ j1, atL R1.L s.data.toList = some j1 := by
    have : (atL R1.L s.data.toList).isSome = true := by
      rw [atL_isSome, hnm, ← atL_isSome, HJ.out]; rfl
    exact Option.isSome_iff_exists.1 this
  obtain ⟨j1, hj1⟩ := hj1
  obtain ⟨hjl, hjn⟩ := atL_get hj1
  have hb1 : (R1.L[j1]!).b = c := by
    have h1 := hs1.baseE hjl
    rw [hjn] at h1
    rw [← h1]
    have : R1.core.L = setC R.core.L s.data.toList c := congrArg (fun r => RC.L r) a3
    rw [this, base_set (by rw [core_names, ← atL_isSome, HJ.out]; rfl), upd_same]
  have HA1 := hide (at_any a1 (s := s))
  rw [show atI R1.L s.data.toList = (j1 : Int) by simp [atI, hj1]] at HA1
  obtain ⟨c0, _, _, _⟩ := a1.rcells
  obtain ⟨pl, lcap, he, h1, h2⟩ := own_form a1.lrow
  have hlr := a1.lrow
  rw [he] at c0 hlr
  obtain ⟨g, rfl, d0, d1, f0, f1⟩ := file_cells hlr rfl hjl
  have hfm : R1.L[j1]! ∈ R1.L := by rw [getElem!_pos R1.L j1 hjl]; exact List.getElem_mem _
  have hrow := (a1.lb _ hfm).1
  obtain ⟨pb, cb, hbe, hb2, hb3, _, _⟩ := id hrow
  rw [hb1] at hbe hb2 hrow
  rw [HN.out] at hbe hb2
  rw [hbe] at d1 hrow
  have HR := hide hrow
  have HH := hide (a1.setB he hjl (v := .slice pb k k) (c := c.take k) (by
    have hr := hrow
    rw [← HN.out] at hr
    exact hr.take3 (by rw [HN.out]; exact hk)) (fun x hx => HU.out x (List.mem_of_mem_take hx)) (fun hcne i hi => a1.sep i (.inl ⟨R1.L[j1]!, hfm, by rw [hb1]; rintro rfl; simp at hcne, by rw [hbe]; exact (ownB _ _ _ _ _).trans hi⟩)))
  have HST : Hid (RStep W (w2.setCell ⟨g, j1 * 2 + 1, none⟩ (.slice pb k k)) rb R { R1 with L := R1.L.set j1 { R1.L[j1]! with b := c.take k, bv := .slice pb k k } }) := by
    refine hide (a2.trans ⟨Only.set _ _ _ _ (.inr (.inl (by rw [he]; rfl))), fun i hi => .inl hi, fun i hi => .inl ?_⟩)
    rcases hi with ⟨f, hf, hl, hi⟩ | hi
    · rcases List.mem_or_eq_of_mem_set hf with hf | rfl
      · exact .inl ⟨f, hf, hl, hi⟩
      · exact .inl ⟨R1.L[j1]!, hfm, by rw [hb1]; rintro rfl; simp at hl, by rw [hbe]; exact (ownB _ _ _ _ _).trans hi⟩
    · exact .inr hi
  have HCR : Hid (RS.core { R1 with L := R1.L.set j1 { R1.L[j1]! with b := c.take k, bv := .slice pb k k } } = { R.core with L := setC R.core.L s.data.toList (c.take k), P := offP R.core.P s.data.toList }) := by
    refine hide ?_
    have b1 : R1.core.L = setC R.core.L s.data.toList c := congrArg (fun r => RC.L r) a3
    have b2 : R1.core.P = offP R.core.P s.data.toList := congrArg (fun r => RC.P r) a3
    have b3 : R1.most = R.most := congrArg (fun r => RC.most r) a3
    have b4 : R1.down = R.down := congrArg (fun r => RC.down r) a3
    have b5 := setB_core hs1 hj1 (c.take k) (.slice pb k k)
    have b6 : R1.L.map RF.core = R1.core.L := rfl
    rw [b6, b1, setC_setC] at b5
    have b7 : R1.P.map RP.core = R1.core.P := rfl
    show RC.mk _ _ _ _ = _
    simp only
    rw [b5, b7, b2, b3, b4]
    rfl
  have q1 : (k : Int) ≤ (cb : Int) := by omega
  clear hnm hs1 hj1 hb1 hfm hrow hbe hlr he a1 a2 a3 hjn d0 f0 HSY HR HB
  go_wp2_with fail
  refine HA1.out.mono ?_
  rintro _ w2 ⟨rfl, rfl⟩
  go_wp2_with fail
  go_region
  go_wp2
  go_ret
  exact ⟨rfl, _, HH.out.drew, HST.out.drew, HCR.out⟩
end Go.Proofs.YtikpckmlnhcddaaGreat

/-
  The reference: Remove. The conditions: lengths.
-/
namespace Go.Proofs.YtikpckmlnhcddaaGreat
open Go.RowKit Go.Maps

def delR (L : List RF) (j : Nat) : List RF := L.take j ++ L.drop (j + 1)
theorem mem_delR {L : List RF} {j : Nat} {f : RF} (h : f ∈ delR L j) : f ∈ L := by
  unfold delR at h
  simp only [List.mem_append] at h
  rcases h with h | h
  · exact List.mem_of_mem_take h
  · exact List.mem_of_mem_drop h
theorem delR_len {L : List RF} {j : Nat} (h : j < L.length) : (delR L j).length = j + (L.length - (j + 1)) := by unfold delR; simp; omega
theorem delR_core {R : RS} (hs : Sole R) {n : Nm} {j : Nat} (ha : atL R.L n = some j) : (delR R.L j).map RF.core = offL (R.L.map RF.core) n := by
  obtain ⟨hj, hn⟩ := atL_get ha
  have off : ∀ k (hk : k < R.L.length), k ≠ j → R.L[k].name ≠ n := fun k hk hne e => by
    have h1 := hs.at_ hk
    rw [getElem!_pos R.L k hk, e, ha] at h1
    simp at h1
    exact hne h1.symm
  rw [getElem!_pos R.L j hj] at hn
  unfold delR offL
  have e : R.L = R.L.take j ++ R.L[j] :: R.L.drop (j + 1) := by simp
  conv => rhs; rw [e]
  rw [List.map_append, List.map_append, List.map_cons, List.filter_append, List.filter_cons_of_neg (by simp [RF.core, hn])]
  congr 1
  · symm
    refine List.filter_eq_self.2 (fun f hf => ?_)
    obtain ⟨x, hx, rfl⟩ := List.mem_map.1 hf
    obtain ⟨k, hk, rfl⟩ := List.getElem_of_mem hx
    rw [List.length_take] at hk
    rw [List.getElem_take]
    have := off k (by omega) (by omega)
    simpa [RF.core] using this
  · symm
    refine List.filter_eq_self.2 (fun f hf => ?_)
    obtain ⟨x, hx, rfl⟩ := List.mem_map.1 hf
    obtain ⟨k, hk, rfl⟩ := List.getElem_of_mem hx
    rw [List.length_drop] at hk
    rw [List.getElem_drop]
    have := off (j + 1 + k) (by omega) (by omega)
    simpa [RF.core] using this
/-- The list of files less one. -/
theorem RRep.delL {W w3 : World} {rb n cap : Nat} {p : Option Addr} {R : RS} (h : RRep W rb R) (hb : Below W.heap.size W w3) {j : Nat} (hn : (delR R.L j).length = n) (hv : w3.ownsRow W.heap.size 100 2 (.slice p n cap) n ((delR R.L j).flatMap RF.cells)) :
    RRep (w3.setCell ⟨rb, 0, none⟩ (.slice p n cap)) rb { R with L := delR R.L j, lv := .slice p n cap } ∧ RStep W (w3.setCell ⟨rb, 0, none⟩ (.slice p n cap)) rb R { R with L := delR R.L j, lv := .slice p n cap } := by
  have hbase : ∀ i, (Value.slice p n cap).ownBlock = some i → W.heap.size ≤ i := fun i hi => own_block_base hv hi
  refine ⟨(h.fresh hb).setL (own_base5 (base := W.heap.size) (by rw [hn]; exact hv) (Nat.zero_le _)) (fun f hf => ⟨(h.lb f (mem_delR hf)).1.below hb, (h.lb f (mem_delR hf)).2⟩) (fun f hf hl i hi => ⟨h.sep i (.inl ⟨f, mem_delR hf, hl, hi⟩), fun e => ?_⟩) (fun i hi e => ?_), ⟨(Only.fresh hb _).trans (Only.set _ _ _ _ (.inl rfl)), ?_, ?_⟩⟩
  · have h1 := (h.lb f (mem_delR hf)).1.block_lt hl hi
    have h2 := hbase i e
    omega
  · have h1 := h.rcov_lt hi
    have h2 := hbase i e
    omega
  · rintro i (e | e | e)
    · exact .inl (.inl e)
    · exact .inr (hbase i e)
    · exact .inl (.inr (.inr e))
  · rintro i (⟨f, hf, hl, hi⟩ | hi)
    · exact .inl (.inl ⟨f, mem_delR hf, hl, hi⟩)
    · exact .inl (.inr hi)

set_option maxRecDepth 100000 in
set_option maxHeartbeats 4000000 in
theorem rremove_may {W : World} {rb : Nat} {R : RS} (h : RRep W rb R) {s : ByteArray} {E : Int} (hE : R.core.may s.data.toList = E) (hE0 : (E == 0) = false) :
    Calls Tryz.prog 38 #[.pointer (some ⟨rb, 0, none⟩), .string s] W fun e w' => e = .returned (.int .i64 E) ∧ w' = W := by
  have HM := hide (may_calls h s)
  rw [hE] at HM
  have hb : (E != 0) = true := by rw [bne, hE0]; rfl
  clear hE h
  go_enter Tryz.func38, Tryz.ntmps38
  go_wp2_with fail
  refine HM.out.mono ?_
  rintro _ _ ⟨rfl, rfl⟩
  go_wp2
  go_ret
  exact ⟨rfl, rfl⟩

set_option maxRecDepth 100000 in
set_option maxHeartbeats 4000000 in
theorem rremove_ok {W : World} {rb : Nat} {R : RS} (h : RRep W rb R) (hok : RefOk R) (hs : Sole R) {s : ByteArray} (hE : R.core.may s.data.toList = 0) :
    Calls Tryz.prog 38 #[.pointer (some ⟨rb, 0, none⟩), .string s] W fun e w' => e = .returned (.int .i64 0) ∧ ∃ R', RRep w' rb R' ∧ RStep W w' rb R R' ∧ R'.core = { R.core with L := offL R.core.L s.data.toList, P := offP R.core.P s.data.toList } := by
  have HM := hide (may_calls h s)
  rw [hE] at HM
  obtain ⟨_, j, hj⟩ := may_zero hE
  obtain ⟨hjl, hjn⟩ := atL_get hj
  have HA := hide (at_any h (s := s))
  rw [show atI R.L s.data.toList = (j : Int) by simp [atI, hj]] at HA
  obtain ⟨i0, hI0, hz0, hz1, hz2⟩ := info_parts Tryz.infoFi
  obtain ⟨c0, c1, c2, c3⟩ := h.rcells
  obtain ⟨p, cap, he, h1, h2⟩ := own_form h.lrow
  have hlr := h.lrow
  rw [he] at c0 hlr
  have hone := file_one h.lb
  have hL := hok.L
  have HS1 : Hid (Seg W 2 (.slice p j cap) j ((R.L.take j).flatMap RF.cells)) := by
    have := (Seg.of_own hlr hone (flat_len (c := RF.cells) (n := 2) (fun _ => rfl) R.L) (by omega : j ≤ R.L.length))
    rw [flat_take (c := RF.cells) (n := 2) (fun _ => rfl)] at this
    exact hide this
  obtain ⟨A, hA, HS2⟩ : ∃ A, (if cap = j + 1 then p else Option.map (fun y => y.add ((j + 1) * 2)) p) = A ∧ Hid (Seg W 2 (.slice A (R.L.length - (j + 1)) (cap - (j + 1))) (R.L.length - (j + 1)) ((R.L.drop (j + 1)).flatMap RF.cells)) := by
    have := (Seg.of_tail hlr hone (flat_len (c := RF.cells) (n := 2) (fun _ => rfl) R.L) (by omega : j + 1 ≤ R.L.length))
    rw [flat_drop (c := RF.cells) (n := 2) (fun _ => rfl)] at this
    exact ⟨_, rfl, hide this⟩
  have HK1 : Hid (0 + j ≤ maxLen) := by show _ ≤ _; unfold maxLen; omega
  have HK2 : Hid ((0 + j) * 40 ≤ 140737488355328) := by show _ ≤ _; omega
  have HK3 : Hid (j + (R.L.length - (j + 1)) ≤ maxLen) := by show _ ≤ _; unfold maxLen; omega
  have HK4 : Hid ((j + (R.L.length - (j + 1))) * 40 ≤ 140737488355328) := by show _ ≤ _; omega
  have HP := hide hok.P
  have HS := hide hs
  have HJ := hide hj
  have H := hide h
  clear hE h hok hj c1 c2 c3 hs hjn hlr hone he
  go_enter Tryz.func38, Tryz.ntmps38
  go_wp2_with fail
  refine HM.out.mono ?_
  rintro _ W ⟨rfl, rfl⟩
  go_wp2_with fail
  refine HA.out.mono ?_
  rintro _ W ⟨rfl, rfl⟩
  go_wp2_with (at_builtin; refine append_cells _ rfl (.tmp 17) (.tmp 23) 64 rfl W.heap.size 100 i0 (.agg #[.string ⟨#[]⟩, .slice none 0 0]) 2 40 Tryz.underlying64 hI0 hz0 hz1 hz2 rfl (by decide) (.slice none 0 0) 0 [] rfl (World.ownsRow_nil _ _ _ _) (.slice p j cap) j _ rfl HS1.out HK1.out HK2.out (Nat.le_refl _) ?_)
  intro p1 c1 w1 o1 g1
  have B1 : Below W.heap.size W w1 := after_append (Below.refl _ W) g1
  obtain ⟨_, _, he1, hq1, hq2⟩ := own_form o1
  simp only [Value.slice.injEq, true_and] at he1
  obtain ⟨rfl, rfl⟩ := he1
  have k0 := cell_later B1 c0
  have O1 := hide o1
  have HB1 := hide B1
  have HS3 := hide (HS2.out.below B1)
  have C0 := hide c0
  clear o1 g1 B1 HM HA HS1 HS2 c0
  go_wp2_with (at_builtin; refine append_cells _ rfl (.tmp 26) (.tmp 33) 64 rfl W.heap.size 100 i0 (.agg #[.string ⟨#[]⟩, .slice none 0 0]) 2 40 Tryz.underlying64 hI0 hz0 hz1 hz2 rfl (by decide) (.slice p1 j c1) j _ rfl O1.out (.slice A (R.L.length - (j + 1)) (cap - (j + 1))) (R.L.length - (j + 1)) _ rfl HS3.out HK3.out HK4.out HB1.out.size ?_)
  intro p2 c2 w2 o2 g2
  have B2 : Below W.heap.size W w2 := HB1.out.grown g2 HB1.out.size (fun i hi => own_block_base O1.out hi)
  obtain ⟨hd1, hd2⟩ := H.out.delL B2 (delR_len hjl) (by unfold delR; rw [List.flatMap_append]; exact o2)
  obtain ⟨R1, hR1⟩ : ∃ R1 : RS, R1 = { R with L := delR R.L j, lv := .slice p2 (j + (R.L.length - (j + 1))) c2 } := ⟨_, rfl⟩
  rw [← hR1] at hd1 hd2
  have HC1 : Hid (R1.core.L = offL R.core.L s.data.toList) := by rw [hR1]; exact hide (delR_core HS.out HJ.out)
  have HC2 : Hid (R1.most = R.most ∧ R1.down = R.down ∧ R1.P = R.P) := by rw [hR1]; exact hide ⟨rfl, rfl, rfl⟩
  have k1 : w2.cell? ⟨rb, 0, none⟩ = some (.slice p R.L.length cap) := cell_later B2 C0.out
  have z1 : w2.frozen? ⟨rb, 0, none⟩ = false := (H.out.fresh B2).frozen 0
  have HQ := hide (And.intro hd1 hd2)
  have HW := hide (without_any hd1 (s := s) (by rw [HC2.out.2.2]; exact HP.out))
  have r1 := hd1.rcells.2.1
  clear hR1 hd1 hd2 o2 g2 B2 O1 HB1 HS3 k0
  go_wp2_with fail
  refine HW.out.mono ?_
  rintro _ w3 ⟨p3, c3, rfl, o3, b3⟩
  have m1 := cell_later b3 r1
  have mz : w3.frozen? ⟨rb, 1, none⟩ = false := (HQ.out.1.fresh b3).frozen 1
  have HO2 := hide o3
  have HB2 := hide b3
  clear o3 b3 r1
  go_wp2
  go_ret
  have hb2 := HB2.out.size
  have hst := HQ.out.2.only.size
  refine ⟨rfl, _, (HQ.out.1.fresh HB2.out).setP (P := withoutL R1.P s.data.toList) (own_base5 (base := _) HO2.out (Nat.zero_le _)) (fun f hf => ⟨(HQ.out.1.pb f (without_mem hf)).1.below HB2.out, (HQ.out.1.pb f (without_mem hf)).2⟩) (fun f hf hl i hi => ⟨HQ.out.1.sep i (.inr ⟨f, without_mem hf, hl, hi⟩), fun e => ?_⟩) (fun i hi e => ?_), HQ.out.2.trans ⟨(Only.fresh HB2.out _).trans (Only.set _ _ _ _ (.inl rfl)), fun i hi => ?_, fun i hi => ?_⟩, ?_⟩
  · have := (HQ.out.1.pb f (without_mem hf)).1.block_lt hl hi
    have := own_block_base HO2.out e
    omega
  · have := HQ.out.1.rcov_lt hi
    have := own_block_base HO2.out e
    omega
  · rcases hi with e | e | e
    · exact .inl (.inl e)
    · exact .inl (.inr (.inl e))
    · exact .inr (own_block_base HO2.out e)
  · rcases hi with hi | ⟨f, hf, hl, hi⟩
    · exact .inl (.inl hi)
    · exact .inl (.inr ⟨f, without_mem hf, hl, hi⟩)
  · have a1 := HC1.out
    have a2 := HC2.out
    unfold RS.core at a1 ⊢
    simp only at a1 ⊢
    rw [a1, withoutL_core, a2.1, a2.2.1, a2.2.2]
end Go.Proofs.YtikpckmlnhcddaaGreat
