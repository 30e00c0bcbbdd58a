/-
  The reference: Size, Read, Sure, Names. The conditions: lengths.
-/
import Derived.Test.YtikpckmlnhcddaaGreatRrn
import Derived.Test.YtikpckmlnhcddaaGreatRff
import Derived.Test.YtikpckmlnhcddaaGreatPsh
namespace Go.Proofs.YtikpckmlnhcddaaGreat
open Go.RowKit Go.Maps

theorem Tryz.infoSt2 : (Tryz.prog.info? 9).map (fun i => (i.zero, i.size, i.bytes)) = some (some (.string ⟨#[]⟩), 1, 16) := by kernel_rfl
def RC.sizeN (r : RC) (n : Nm) : Nat := if r.may n = 0 then (r.all n).length else 0

set_option maxRecDepth 100000 in
set_option maxHeartbeats 4000000 in
theorem rsize_any {W : World} {rb : Nat} {R : RS} (h : RRep W rb R) (hok : RefOk R) (hs : Sole R) {s : ByteArray} :
    Calls Tryz.prog 44 #[.pointer (some ⟨rb, 0, none⟩), .string s] W fun e w' => e = .returned (.tuple #[.int .i64 (R.core.sizeN s.data.toList : Nat), .int .i64 (R.core.may s.data.toList)]) ∧ Below W.heap.size W w' := by
  have HM := hide (may_calls h s)
  by_cases hm : R.core.may s.data.toList = 0
  · obtain ⟨_, j, hj⟩ := may_zero hm
    obtain ⟨N, hN⟩ : ∃ N, (R.core.all s.data.toList).length = N := ⟨_, rfl⟩
    have HA := hide (all_calls h hok hs hj rfl hN)
    have e : R.core.sizeN s.data.toList = N := by unfold RC.sizeN; rw [if_pos hm, hN]
    rw [e, hm]
    rw [hm] at HM
    clear h hok hs hj hN e hm
    go_enter Tryz.func44, Tryz.ntmps44
    go_wp2_with fail
    refine HM.out.mono ?_
    rintro _ W ⟨rfl, rfl⟩
    go_wp2_with fail
    refine HA.out.mono ?_
    rintro _ w1 ⟨p, cap, rfl, _, _, _, _, hb⟩
    go_wp2
    go_ret2
    exact ⟨rfl, hb⟩
  · have e : R.core.sizeN s.data.toList = 0 := by unfold RC.sizeN; rw [if_neg hm]
    rw [e]
    obtain ⟨E, hE⟩ : ∃ E, R.core.may s.data.toList = E := ⟨_, rfl⟩
    rw [hE] at hm HM ⊢
    have hb : (E != 0) = true := by simpa using hm
    clear h hok hs e hm hE
    go_enter Tryz.func44, Tryz.ntmps44
    go_wp2_with fail
    refine HM.out.mono ?_
    rintro _ W ⟨rfl, rfl⟩
    go_wp2
    go_ret2
    exact ⟨rfl, Below.refl _ _⟩

/-- What Read answers: its error, and bytes. -/
def RC.readE (r : RC) (n : Nm) (k m : Int) : Int := if r.may n = 0 then (if m < 0 ∨ k < 0 ∨ ((r.all n).length : Int) < k ∨ ((r.all n).length : Int) - k < m then 33 else 0) else r.may n
def RC.readB (r : RC) (n : Nm) (k m : Int) : By := if r.readE n k m = 0 then ((r.all n).drop k.toNat).take m.toNat else []

set_option maxRecDepth 100000 in
set_option maxHeartbeats 4000000 in
theorem rread_no {W : World} {rb : Nat} {R : RS} (h : RRep W rb R) (hok : RefOk R) (hs : Sole R) {s : ByteArray} {k m : Int} (hm1 : m ≤ 9223372036854775807) (hE : R.core.readE s.data.toList k m ≠ 0) :
    Calls Tryz.prog 45 #[.pointer (some ⟨rb, 0, none⟩), .string s, .int .i64 k, .int .i64 m] W fun e w' => e = .returned (.tuple #[.slice none 0 0, .int .i64 (R.core.readE s.data.toList k m)]) ∧ Below W.heap.size W w' := by
  have HM := hide (may_calls h s)
  by_cases hm : R.core.may s.data.toList = 0
  · obtain ⟨_, j, hj⟩ := may_zero hm
    have hN1 := all_len hok hs hj
    obtain ⟨N, hN⟩ : ∃ N, (R.core.all s.data.toList).length = N := ⟨_, rfl⟩
    have HA := hide (all_calls h hok hs hj rfl hN)
    have hbad : m < 0 ∨ k < 0 ∨ (N : Int) < k ∨ (N : Int) - k < m := by
      refine Classical.byContradiction (fun hc => hE ?_)
      unfold RC.readE
      rw [if_pos hm, hN, if_neg hc]
    have e : R.core.readE s.data.toList k m = 33 := by unfold RC.readE; rw [if_pos hm, hN, if_pos hbad]
    rw [e]
    rw [hm] at HM
    rw [hN] at hN1
    clear h hok hs hj hN e hm hE
    have hcase : decide (m < 0) = true ∨ (decide (m < 0) = false ∧ decide (k < 0) = true) ∨ (decide (m < 0) = false ∧ decide (k < 0) = false ∧ decide ((N : Int) < k) = true) ∨ (decide (m < 0) = false ∧ decide (k < 0) = false ∧ decide ((N : Int) < k) = false ∧ decide ((N : Int) - k < m) = true ∧ 0 ≤ k ∧ k ≤ (N : Int)) := by
      by_cases q1 : m < 0
      · exact .inl (decide_eq_true q1)
      · by_cases q2 : k < 0
        · exact .inr (.inl ⟨decide_eq_false q1, decide_eq_true q2⟩)
        · by_cases q3 : (N : Int) < k
          · exact .inr (.inr (.inl ⟨decide_eq_false q1, decide_eq_false q2, decide_eq_true q3⟩))
          · exact .inr (.inr (.inr ⟨decide_eq_false q1, decide_eq_false q2, decide_eq_false q3, decide_eq_true (by omega), by omega, by omega⟩))
    clear hbad
    rcases hcase with q1 | ⟨q1, q2⟩ | ⟨q1, q2, q3⟩ | ⟨q1, q2, q3, q4, q5, q6⟩
    all_goals
      go_enter Tryz.func45, Tryz.ntmps45
      go_wp2_with fail
      refine HM.out.mono ?_
      rintro _ W ⟨rfl, rfl⟩
      go_wp2_with fail
      refine HA.out.mono ?_
      rintro _ w1 ⟨p, cap, rfl, _, _, _, _, hb⟩
      go_wp2
      go_ret2
      exact ⟨rfl, hb⟩
  · have e : R.core.readE s.data.toList k m = R.core.may s.data.toList := by unfold RC.readE; rw [if_neg hm]
    rw [e]
    obtain ⟨E, hE'⟩ : ∃ E, R.core.may s.data.toList = E := ⟨_, rfl⟩
    rw [hE'] at hm HM ⊢
    have hb : (E != 0) = true := by simpa using hm
    clear h hok hs e hm hE hE'
    go_enter Tryz.func45, Tryz.ntmps45
    go_wp2_with fail
    refine HM.out.mono ?_
    rintro _ W ⟨rfl, rfl⟩
    go_wp2
    go_ret2
    exact ⟨rfl, Below.refl _ _⟩

set_option maxRecDepth 100000 in
set_option maxHeartbeats 4000000 in
theorem rread_ok {W : World} {rb : Nat} {R : RS} (h : RRep W rb R) (hok : RefOk R) (hs : Sole R) {s : ByteArray} {k m : Nat} (hm : R.core.may s.data.toList = 0) (hk : k + m ≤ (R.core.all s.data.toList).length) :
    Calls Tryz.prog 45 #[.pointer (some ⟨rb, 0, none⟩), .string s, .int .i64 k, .int .i64 m] W fun e w' => ∃ p cap, e = .returned (.tuple #[.slice p m cap, .int .i64 0]) ∧ w'.ownsRow W.heap.size 5 1 (.slice p m cap) m ((((R.core.all s.data.toList).drop k).take m).map (Value.int .u8)) ∧ Below W.heap.size W w' := by
  obtain ⟨i0, hi, hz0, hz1, hz2⟩ := info_parts Tryz.infoU8
  have HM := hide (may_calls h s)
  rw [hm] at HM
  obtain ⟨_, j, hj⟩ := may_zero hm
  have hN1 := all_len hok hs hj
  obtain ⟨c, hc⟩ : ∃ c, R.core.all s.data.toList = c := ⟨_, rfl⟩
  obtain ⟨N, hN⟩ : ∃ N, c.length = N := ⟨_, rfl⟩
  have HA := hide (all_calls h hok hs hj hc hN)
  rw [hc] at hk hN1 ⊢
  rw [hN] at hk hN1
  have HN := hide hN
  obtain ⟨D, hD⟩ : ∃ D, D = (c.drop k).take m := ⟨_, rfl⟩
  rw [← hD]
  have HD := hide hD
  clear h hok hs hj hc hm hN hD
  have q1 : decide ((m : Int) < 0) = false := decide_eq_false (by omega)
  have q2 : decide ((k : Int) < 0) = false := decide_eq_false (by omega)
  have q3 : decide ((N : Int) < (k : Int)) = false := decide_eq_false (by omega)
  have q4 : decide ((N : Int) - (k : Int) < (m : Int)) = false := decide_eq_false (by omega)
  have q5 : ((k : Int) + (m : Int)).toNat - k = m := by omega
  go_enter Tryz.func45, Tryz.ntmps45
  go_wp2_with fail
  refine HM.out.mono ?_
  rintro _ W ⟨rfl, rfl⟩
  go_wp2_with fail
  refine HA.out.mono ?_
  rintro _ w1 ⟨p, cap, rfl, hrow, hc1, hc2, _, hb⟩
  obtain ⟨A, hA, HR⟩ : ∃ A, (if cap = k then p else Option.map (fun x => x.add k) p) = A ∧ Hid (Row .u8 w1 (.slice A m (cap - k)) D) := by
    have hr := hrow
    rw [← HN.out] at hr
    rw [HD.out]
    exact ⟨_, rfl, hide (hr.cutIf (by rw [HN.out]; omega))⟩
  have HB := hide hb
  have HL : Hid (D.length = m) := hide (by have := HN.out; rw [HD.out]; simp; omega)
  have hz := hb.size
  clear hrow hb HA HM
  have HSG : Hid (Seg w1 1 (.slice A m (cap - k)) m (D.map (Value.int .u8))) := by
    have := Seg.of_row HR.out
    rw [HL.out] at this
    exact hide this
  go_wp2_with (at_builtin; refine append_cells _ rfl (.tmp 42) (.tmp 48) 31 rfl W.heap.size 5 i0 (.int .u8 0) 1 1 Tryz.underlying31 hi hz0 hz1 hz2 rfl (by decide) (.slice none 0 0) 0 [] rfl (World.ownsRow_nil _ _ _ _) (.slice A m (cap - k)) m _ rfl HSG.out (by unfold maxLen; omega) (by omega) hz ?_)
  intro p2 c2 w2 o2 g2
  have HO := hide o2
  have HB2 : Hid (Below W.heap.size W w2) := hide (HB.out.grown g2 hz (by intro k hk; simp [Value.ownBlock] at hk))
  clear o2 g2
  go_wp2
  go_ret2
  exact ⟨p2, c2, rfl, HO.out, HB2.out⟩

set_option maxRecDepth 100000 in
set_option maxHeartbeats 4000000 in
theorem rnames_any {W : World} {rb : Nat} {R : RS} (h : RRep W rb R) (hL : R.L.length ≤ 4194304) :
    Calls Tryz.prog 42 #[.pointer (some ⟨rb, 0, none⟩)] W fun e w' => ∃ p cap, e = .returned (.slice p R.L.length cap) ∧ w'.ownsRow W.heap.size 9 1 (.slice p R.L.length cap) R.L.length ((R.L.map RF.name).map strV) ∧ Below W.heap.size W w' := by
  obtain ⟨i0, hI0, hz0, hz1, hz2⟩ := info_parts Tryz.infoSt2
  obtain ⟨c0, c1, c2, c3⟩ := h.rcells
  obtain ⟨p, cap, he, h1, h2⟩ := own_form h.lrow
  rw [he] at c0
  have H := hide h
  have HE := hide he
  clear h he c1 c2 c3
  go_enter Tryz.func42, Tryz.ntmps42
  go_wp2_with fail
  go_loopw [3, 4] (fun lv i wr => ∃ (k : Nat) (q : Option Addr) (cq : Nat), k ≤ R.L.length ∧ i = .int .i64 (k : Int) ∧ lv = .slice q k cq ∧ k ≤ cq ∧ cq ≤ 9223372036854775807 ∧ Hid (wr.ownsRow W.heap.size 9 1 (.slice q k cq) k (((R.L.take k).map RF.name).map strV)) ∧ Hid (Below W.heap.size W wr)) (fun _ i _ => R.L.length - (intOf i).toNat)
  case atStart => exact ⟨0, none, 0, Nat.zero_le _, rfl, rfl, Nat.le_refl _, by decide, hide (by simpa using World.ownsRow_nil _ _ _ _), hide (Below.refl _ _)⟩
  case round =>
    obtain ⟨k, q, cq, hk, rfl, rfl, hq1, hq2, HR, HB⟩ := hrel
    have c0' := cell_later HB.out c0
    by_cases hlt : k < R.L.length
    · have hlr := ownsRow_later H.out.lrow HB.out
      rw [HE.out] at hlr
      obtain ⟨g, rfl, d0, _, _, _⟩ := file_cells hlr rfl hlt
      obtain ⟨f, hf⟩ : ∃ f, R.L[k]! = f := ⟨_, rfl⟩
      have HT : Hid (((R.L.take (k + 1)).map RF.name).map strV = ((R.L.take k).map RF.name).map strV ++ [.string ⟨f.name.toArray⟩]) := by
        refine hide ?_
        rw [List.take_succ_eq_append_getElem hlt, List.map_append, List.map_append, ← hf, getElem!_pos R.L k hlt]
        rfl
      rw [hf] at d0
      unfold strV at d0
      clear hlr hf
      have hb6 := alloc_below wr (.cells #[.string ⟨f.name.toArray⟩] 9 (0, 0))
      have HR6 := hide (ownsRow_later HR.out hb6)
      have HB6 : Hid (Below W.heap.size W (wr.alloc (.cells #[.string ⟨f.name.toArray⟩] 9 (0, 0)))) := hide (HB.out.trans (hb6.mono HB.out.size))
      have HNW : Hid (Seg (wr.alloc (.cells #[.string ⟨f.name.toArray⟩] 9 (0, 0))) 1 (.slice (some ⟨wr.heap.size, 0, none⟩) 1 1) 1 [.string ⟨f.name.toArray⟩]) := hide (Seg.news (heap_alloc_new _ _) (by intro u hu; simp at hu; subst hu; rfl) rfl (by decide) (by decide))
      clear hb6
      go_wp2_with (at_builtin; refine append_cells _ rfl (.tmp 14) (.tmp 23) 42 rfl W.heap.size 9 i0 (.string ⟨#[]⟩) 1 16 Tryz.underlying42 hI0 hz0 hz1 hz2 rfl (by decide) (.slice q k cq) k _ rfl HR6.out (.slice (some ⟨wr.heap.size, 0, none⟩) 1 1) 1 _ rfl HNW.out (by unfold maxLen; omega) (by omega) HB6.out.size ?_)
      intro q5 cq5 w5 o5 g5
      obtain ⟨_, _, he5, hc5, hc6⟩ := own_form o5
      simp only [Value.slice.injEq, true_and] at he5
      obtain ⟨rfl, rfl⟩ := he5
      have Z1 := hide o5
      have Z2 : Hid (Below W.heap.size W w5) := hide (HB6.out.grown g5 HB6.out.size (fun i hi => own_block_base HR6.out hi))
      clear o5 g5 HR6 HB6 HNW HR HB d0 c0'
      go_wp2
      refine ⟨⟨k + 1, q5, cq5, by omega, by go_num, rfl, hc5, hc6, ?_, Z2⟩, by simp [intOf]; omega⟩
      rw [HT.out]
      have := Z1.out
      exact hide (by simpa using this)
    · obtain rfl : k = R.L.length := by omega
      go_wp2
      go_ret
      rw [List.take_length] at HR
      exact ⟨q, cq, rfl, HR.out, HB.out⟩
end Go.Proofs.YtikpckmlnhcddaaGreat

/-
  The reference: Sure. The conditions: lengths.
-/
namespace Go.Proofs.YtikpckmlnhcddaaGreat
open Go.RowKit Go.Maps

set_option maxRecDepth 100000 in
set_option maxHeartbeats 4000000 in
theorem rsure_no {W : World} {rb : Nat} {R : RS} (h : RRep W rb R) {s : ByteArray} {E : Int} (hE : R.core.may s.data.toList = E) (hE0 : (E == 0) = false) :
    Calls Tryz.prog 46 #[.pointer (some ⟨rb, 0, none⟩), .string s] W fun e w' => e = .returned (.tuple #[.slice none 0 0, .int .i64 E]) ∧ w' = W := by
  have HM := hide (may_calls h s)
  rw [hE] at HM
  have hb : (E != 0) = true := by rw [bne, hE0]; rfl
  clear hE h
  go_enter Tryz.func46, Tryz.ntmps46
  go_wp2_with fail
  refine HM.out.mono ?_
  rintro _ W ⟨rfl, rfl⟩
  go_wp2
  go_ret2
  exact ⟨rfl, rfl⟩

set_option maxRecDepth 100000 in
set_option maxHeartbeats 4000000 in
theorem rsure_ok {W : World} {rb : Nat} {R : RS} (h : RRep W rb R) (hok : RefOk R) (hs : Sole R) {s : ByteArray} (hm : R.core.may s.data.toList = 0) {c : By} (hc : base R.core.L s.data.toList = c) {N : Nat} (hN : c.length = N) :
    Calls Tryz.prog 46 #[.pointer (some ⟨rb, 0, none⟩), .string s] W fun e w' => ∃ p cap, e = .returned (.tuple #[.slice p N cap, .int .i64 0]) ∧ w'.ownsRow W.heap.size 5 1 (.slice p N cap) N (c.map (Value.int .u8)) ∧ Below W.heap.size W w' := by
  obtain ⟨i0, hi, hz0, hz1, hz2⟩ := info_parts Tryz.infoU8
  have HM := hide (may_calls h s)
  rw [hm] at HM
  obtain ⟨_, j, hj⟩ := may_zero hm
  obtain ⟨hjl, hjn⟩ := atL_get hj
  have HA := hide (at_any h.drew (s := s))
  rw [show atI R.L s.data.toList = (j : Int) by simp [atI, hj]] at HA
  have hbl : c.length ≤ 4194304 := by
    have h1 := (hok.all j hjl).len 0 (by omega)
    have h2 := hs.baseE hjl
    rw [hjn, hc] at h2
    rw [h2]
    exact h1
  obtain ⟨c0, _, _, _⟩ := h.rcells
  obtain ⟨p, cap, he, h1, h2⟩ := own_form h.lrow
  have hlr := h.lrow
  rw [he] at c0 hlr
  obtain ⟨g, rfl, _, d1, _, _⟩ := file_cells hlr rfl hjl
  have hfm : R.L[j]! ∈ R.L := by rw [getElem!_pos R.L j hjl]; exact List.getElem_mem _
  have hr := (h.lb _ hfm).1
  have hbe : (R.L[j]!).b = c := by
    have h2 := hs.baseE hjl
    rw [hjn, hc] at h2
    exact h2.symm
  rw [hbe] at hr
  obtain ⟨pb, cb, hve, hb1, hb2, _, _⟩ := id hr
  rw [hN] at hve
  rw [hve] at d1 hr
  have HSG : Hid (Seg W.drew 1 (.slice pb N cb) N (c.map (Value.int .u8))) := by
    have := Seg.of_row (hr.below (Below.refl _ W).drew)
    rw [hN] at this
    exact hide this
  have HK1 : Hid (0 + N ≤ maxLen) := by show _ ≤ _; unfold maxLen; omega
  have HK2 : Hid ((0 + N) * 1 ≤ 140737488355328) := by show _ ≤ _; omega
  clear h hok hs hj hjn hm hc hlr he hfm hr hbe hve
  go_enter Tryz.func46, Tryz.ntmps46
  go_wp2_with fail
  refine HM.out.mono ?_
  rintro _ W ⟨rfl, rfl⟩
  go_upto_region 5 with fail
  go_region_law (first
    | (refine step_calls rfl 62 #[.tmp 19, .tmp 20] #[28, 9] rfl #[.pointer (some ⟨rb, 0, none⟩), .string s] (by first | (simp [Act.eval]; done) | (simp [Act.eval, Act.put]; done)) enAt _ HA.out ?_; rintro r w0 ⟨rfl, rfl⟩; refine ⟨_, rfl, ?_⟩)
    | (refine step_append_cells (by rfl) (.tmp 14) (.tmp 24) 31 (by rfl) W.heap.size 5 i0 (.int .u8 0) 1 1 Tryz.underlying31 hi hz0 hz1 hz2 rfl (by decide) (.slice none 0 0) 0 [] (by first | (simp [Act.eval]; done) | (simp [Act.eval, Act.put]; done)) (World.ownsRow_nil _ _ _ _) (.slice pb N cb) N (c.map (Value.int .u8)) (by first | (simp [Act.eval]; done) | (simp [Act.eval, Act.put]; done)) HSG.out HK1.out HK2.out (Nat.le_refl _) ?_; intro p1 c1 w1 o1 g1; have B1 : Below W.heap.size W w1 := below_undrew (after_append (Below.refl _ W.drew) g1); have O1 : Hid (w1.ownsRow W.heap.size 5 1 (.slice p1 N c1) N (c.map (Value.int .u8))) := by { rw [Nat.zero_add, List.nil_append] at o1; exact hide o1 }; have HB1 := hide B1; clear o1 g1 B1))
  all_goals
    go_wp2
    go_ret2
    exact ⟨p1, c1, rfl, O1.out, HB1.out⟩
end Go.Proofs.YtikpckmlnhcddaaGreat

/-
  What both stores answer to Size, Read and Sure, whatever is asked: in the document's words. The conditions: lengths.
-/
namespace Go.Proofs.YtikpckmlnhcddaaGreat
open Go.RowKit Go.Maps

def RC.sureB (r : RC) (n : Nm) : By := if r.may n = 0 then base r.L n else []
def BPost (W : World) (b : By) (n : Nat) (E : Int) (e : Ending) (w' : World) : Prop := ∃ p cap, e = .returned (.tuple #[.slice p n cap, .int .i64 E]) ∧ Row .u8 w' (.slice p n cap) b ∧ Below W.heap.size W w'
theorem BPost.nil {W w' : World} {b : By} {n : Nat} {E : Int} {e : Ending} (hb : b = []) (hn : b.length = n) (he : e = .returned (.tuple #[.slice none 0 0, .int .i64 E])) (hB : Below W.heap.size W w') : BPost W b n E e w' := by
  subst hb
  simp at hn
  subst hn
  exact ⟨none, 0, he, Row.nil _ _, hB⟩
theorem BPost.own {W w' : World} {b : By} {n base : Nat} {E : Int} {e : Ending} {p : Option Addr} {cap : Nat} (he : e = .returned (.tuple #[.slice p n cap, .int .i64 E])) (ho : w'.ownsRow base 5 1 (.slice p n cap) n (b.map (Value.int .u8))) (hB : Below W.heap.size W w') : BPost W b n E e w' :=
  ⟨p, cap, he, own_row ho, hB⟩

theorem may_has {r : RC} {n : Nm} (h : r.may n = 0) : n ∈ r.L.map CF.name := has_iff.1 (may_up h).2
theorem psize_any {W : World} {sb mb N : Nat} {fs : List MF} {r : RC} (h : Prg W sb mb fs r N) {s : ByteArray} (hlen : s.size ≤ maxLen) : Calls Tryz.prog 29 #[.pointer (some ⟨sb, 0, none⟩), .string s] W fun e w' => e = .returned (.tuple #[.int .i64 (r.sizeN s.data.toList : Nat), .int .i64 (r.may s.data.toList)]) ∧ w' = W := by
  by_cases hm : r.may s.data.toList = 0
  · have := psize h (may_up hm).1 (may_has hm) rfl
    unfold RC.sizeN
    rw [if_pos hm, hm]
    exact this
  · unfold RC.sizeN
    rw [if_neg hm]
    rcases may_not hm with ⟨hd, he⟩ | ⟨hd, hh, he⟩
    · rw [he]
      exact size_bad (h.down_bad hd) s
    · obtain ⟨J, left, pend, turn, h1, h2⟩ := h
      rw [hd] at h1
      have := size_any h1 hlen
      rw [h2.has_none hh] at this
      rw [he]
      exact this
theorem pread_any {W : World} {sb mb N : Nat} {fs : List MF} {r : RC} (h : Prg W sb mb fs r N) {s : ByteArray} (hlen : s.size ≤ maxLen) {k m : Int} (hm1 : m ≤ 9223372036854775807) {b : By} (hb : r.readB s.data.toList k m = b) {n : Nat} (hn : b.length = n) {E : Int} (hE : r.readE s.data.toList k m = E) : Calls Tryz.prog 28 #[.pointer (some ⟨sb, 0, none⟩), .string s, .int .i64 k, .int .i64 m] W (BPost W b n E) := by
  by_cases hm : r.may s.data.toList = 0
  · obtain ⟨hd, hh⟩ := may_up hm
    obtain ⟨J, left, pend, turn, h1, h2⟩ := h
    rw [hd] at h1
    obtain ⟨f, hf⟩ := h2.has_some hh
    obtain ⟨hfm, hfn⟩ := mem_of_fileOf hf
    have hfc : f.c = r.all s.data.toList := by rw [h2.con f hfm, hfn]
    by_cases hk : m < 0 ∨ k < 0 ∨ ((r.all s.data.toList).length : Int) < k ∨ ((r.all s.data.toList).length : Int) - k < m
    · have e1 : r.readE s.data.toList k m = 33 := by unfold RC.readE; rw [if_pos hm, if_pos hk]
      have e2 : r.readB s.data.toList k m = [] := by unfold RC.readB; rw [e1]; rfl
      refine (read_spot h1 hlen hf (k := k) (n := m) hm1 (by rw [hfc]; exact hk)).mono ?_
      rintro e w' ⟨rfl, rfl⟩
      exact BPost.nil (by rw [← hb, e2]) hn (by rw [← hE, e1]) (Below.refl _ _)
    · have e1 : r.readE s.data.toList k m = 0 := by unfold RC.readE; rw [if_pos hm, if_neg hk]
      have e2 : r.readB s.data.toList k m = ((r.all s.data.toList).drop k.toNat).take m.toNat := by unfold RC.readB; rw [if_pos e1]
      obtain ⟨kn, rfl⟩ : ∃ kn : Nat, k = (kn : Int) := ⟨k.toNat, by omega⟩
      obtain ⟨mn, rfl⟩ : ∃ mn : Nat, m = (mn : Int) := ⟨m.toNat, by omega⟩
      simp only [Int.toNat_natCast] at e2
      obtain ⟨_, l, rr, hs⟩ := fileOf_split hf
      subst hs
      have hnm : n = mn := by rw [← hn, ← hb, e2]; simp; omega
      subst hnm
      refine (read_some h1 hlen hf (at_ := kn) (n := n) (by rw [hfc]; omega) (h2.clen' hfm)).mono ?_
      rintro e w' ⟨p, cap, rfl, h3, h4⟩
      rw [hfc, ← e2, hb] at h3
      exact BPost.own (by rw [← hE, e1]) h3 h4
  · have e1 : r.readE s.data.toList k m = r.may s.data.toList := by unfold RC.readE; rw [if_neg hm]
    have e2 : r.readB s.data.toList k m = [] := by unfold RC.readB; rw [e1, if_neg hm]
    rcases may_not hm with ⟨hd, he⟩ | ⟨hd, hh, he⟩
    · refine (read_bad (h.down_bad hd) s k m).mono ?_
      rintro e w' ⟨rfl, rfl⟩
      exact BPost.nil (by rw [← hb, e2]) hn (by rw [← hE, e1, he]) (Below.refl _ _)
    · obtain ⟨J, left, pend, turn, h1, h2⟩ := h
      rw [hd] at h1
      refine (read_none h1 hlen (h2.has_none hh) k m).mono ?_
      rintro e w' ⟨rfl, rfl⟩
      exact BPost.nil (by rw [← hb, e2]) hn (by rw [← hE, e1, he]) (Below.refl _ _)
theorem psure_any {W : World} {sb mb N : Nat} {fs : List MF} {r : RC} (h : Prg W sb mb fs r N) (hP : r.P.length ≤ 2199023255552) {s : ByteArray} (hlen : s.size ≤ maxLen) {b : By} (hb : r.sureB s.data.toList = b) {n : Nat} (hn : b.length = n) {E : Int} (hE : r.may s.data.toList = E) : Calls Tryz.prog 17 #[.pointer (some ⟨sb, 0, none⟩), .string s] W (BPost W b n E) := by
  by_cases hm : r.may s.data.toList = 0
  · have e2 : base r.L s.data.toList = b := by rw [← hb]; unfold RC.sureB; rw [if_pos hm]
    refine (psure h (may_up hm).1 hP (may_has hm) e2 hn).mono ?_
    rintro e w' ⟨p, cap, rfl, h3, h4⟩
    exact BPost.own (by rw [← hE, hm]) h3 h4
  · have e2 : r.sureB s.data.toList = [] := by unfold RC.sureB; rw [if_neg hm]
    rcases may_not hm with ⟨hd, he⟩ | ⟨hd, hh, he⟩
    · refine (sure_bad (h.down_bad hd) s).mono ?_
      rintro e w' ⟨rfl, rfl⟩
      exact BPost.nil (by rw [← hb, e2]) hn (by rw [← hE, he]) (Below.refl _ _)
    · obtain ⟨J, left, pend, turn, h1, h2⟩ := h
      rw [hd] at h1
      refine (sure_none h1 hlen (h2.has_none hh)).mono ?_
      rintro e w' ⟨rfl, rfl⟩
      exact BPost.nil (by rw [← hb, e2]) hn (by rw [← hE, he]) (Below.refl _ _)
theorem qread_any {W : World} {rb : Nat} {R : RS} (h : RRep W rb R) (g : Good R) {s : ByteArray} {k m : Int} (hm1 : m ≤ 9223372036854775807) {b : By} (hb : R.core.readB s.data.toList k m = b) {n : Nat} (hn : b.length = n) {E : Int} (hE : R.core.readE s.data.toList k m = E) : Calls Tryz.prog 45 #[.pointer (some ⟨rb, 0, none⟩), .string s, .int .i64 k, .int .i64 m] W (BPost W b n E) := by
  by_cases hE0 : R.core.readE s.data.toList k m = 0
  · have hm : R.core.may s.data.toList = 0 := by
      unfold RC.readE at hE0
      by_cases hm : R.core.may s.data.toList = 0
      · exact hm
      · rw [if_neg hm] at hE0; exact absurd hE0 hm
    have hk : ¬ (m < 0 ∨ k < 0 ∨ ((R.core.all s.data.toList).length : Int) < k ∨ ((R.core.all s.data.toList).length : Int) - k < m) := fun hc => by
      unfold RC.readE at hE0
      rw [if_pos hm, if_pos hc] at hE0
      exact absurd hE0 (by decide)
    have e2 : R.core.readB s.data.toList k m = ((R.core.all s.data.toList).drop k.toNat).take m.toNat := by unfold RC.readB; rw [if_pos hE0]
    obtain ⟨kn, rfl⟩ : ∃ kn : Nat, k = (kn : Int) := ⟨k.toNat, by omega⟩
    obtain ⟨mn, rfl⟩ : ∃ mn : Nat, m = (mn : Int) := ⟨m.toNat, by omega⟩
    simp only [Int.toNat_natCast] at e2
    have hnm : n = mn := by rw [← hn, ← hb, e2]; simp; omega
    subst hnm
    refine (rread_ok h g.ok g.sole (k := kn) (m := n) hm (by omega)).mono ?_
    rintro e w' ⟨p, cap, rfl, h3, h4⟩
    rw [← e2, hb] at h3
    exact BPost.own (by rw [← hE, hE0]) h3 h4
  · have e2 : R.core.readB s.data.toList k m = [] := by unfold RC.readB; rw [if_neg hE0]
    refine (rread_no h g.ok g.sole hm1 hE0).mono ?_
    rintro e w' ⟨rfl, h4⟩
    exact BPost.nil (by rw [← hb, e2]) hn (by rw [← hE]) h4
theorem qsure_any {W : World} {rb : Nat} {R : RS} (h : RRep W rb R) (g : Good R) {s : ByteArray} {b : By} (hb : R.core.sureB s.data.toList = b) {n : Nat} (hn : b.length = n) {E : Int} (hE : R.core.may s.data.toList = E) : Calls Tryz.prog 46 #[.pointer (some ⟨rb, 0, none⟩), .string s] W (BPost W b n E) := by
  by_cases hm : R.core.may s.data.toList = 0
  · have e2 : base R.core.L s.data.toList = b := by rw [← hb]; unfold RC.sureB; rw [if_pos hm]
    refine (rsure_ok h g.ok g.sole hm e2 hn).mono ?_
    rintro e w' ⟨p, cap, rfl, h3, h4⟩
    exact BPost.own (by rw [← hE, hm]) h3 h4
  · have e2 : R.core.sureB s.data.toList = [] := by unfold RC.sureB; rw [if_neg hm]
    refine (rsure_no h hE (by rw [← hE]; exact ne_beq hm)).mono ?_
    rintro e w' ⟨rfl, rfl⟩
    exact BPost.nil (by rw [← hb, e2]) hn rfl (Below.refl _ _)

theorem pleft {W : World} {sb mb N : Nat} {fs : List MF} {r : RC} (h : Prg W sb mb fs r N) : Calls Tryz.prog 24 #[.pointer (some ⟨sb, 0, none⟩)] W fun e w' => e = .returned (.int .i64 r.left) ∧ w' = W := by
  obtain ⟨J, left, pend, turn, h1, h2⟩ := h
  obtain ⟨c0, c1, _, _, _⟩ := box_cells h1.box
  have := left_any c0 c1
  rw [h2.leftE] at this
  exact this
theorem pup {W : World} {sb mb N : Nat} {fs : List MF} {r : RC} (h : Prg W sb mb fs r N) : Calls Tryz.prog 27 #[.pointer (some ⟨sb, 0, none⟩)] W fun e w' => e = .returned (.bool (!r.down)) ∧ w' = W := by
  obtain ⟨J, left, pend, turn, h1, h2⟩ := h
  obtain ⟨c0, _, _, _, c4⟩ := box_cells h1.box
  exact up_any c0 c4
end Go.Proofs.YtikpckmlnhcddaaGreat
