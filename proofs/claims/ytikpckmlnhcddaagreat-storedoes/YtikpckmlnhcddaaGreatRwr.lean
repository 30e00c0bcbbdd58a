/-
  The reference: Create. The conditions: lengths.
-/
import Derived.Test.YtikpckmlnhcddaaGreatRpu
import Derived.Test.YtikpckmlnhcddaaGreatPgm
namespace Go.Proofs.YtikpckmlnhcddaaGreat
open Go.RowKit Go.Maps

theorem insR_core (x : RF) : ∀ L : List RF, (insR x L).map RF.core = insC x.core (L.map RF.core)
  | [] => rfl
  | y :: L => by
    unfold insR
    simp only [List.map_cons, insC]
    have e : bytesBefore y.core.name x.core.name = bytesBefore y.name x.name := rfl
    rw [e]
    split
    · rw [List.map_cons, insR_core x L]
    · rfl
theorem RS.core_down (R : RS) : R.core.down = R.down := rfl
theorem nil_eq {s : ByteArray} (h : s.data.toList = []) : (s.toList == ([] : List UInt8)) = true := by
  rw [ByteArray.toList_eq, h]; rfl
theorem nil_ne {s : ByteArray} (h : s.data.toList ≠ []) : (s.toList == ([] : List UInt8)) = false := by
  rw [ByteArray.toList_eq]; simpa using h

set_option maxRecDepth 100000 in
set_option maxHeartbeats 4000000 in
theorem rcreate_no {W : World} {rb : Nat} {R : RS} (h : RRep W rb R) (hL : R.L.length ≤ 4194304) {s : ByteArray} (hE : R.core.createE s.data.toList ≠ 0) :
    Calls Tryz.prog 31 #[.pointer (some ⟨rb, 0, none⟩), .string s] W fun e w' => e = .returned (.int .i64 (R.core.createE s.data.toList)) ∧ w' = W := by
  have HA := hide (at_any h (s := s))
  obtain ⟨c0, c1, c2, c3⟩ := h.rcells
  obtain ⟨p, cap, he, h1, h2⟩ := own_form h.lrow
  rw [he] at c0
  cases hd : R.down with
  | true =>
    have e : R.core.createE s.data.toList = 32 := by unfold RC.createE; rw [R.core_down, hd]; rfl
    rw [e]
    rw [hd] at c3
    clear hE e h HA he hL
    go_enter Tryz.func31, Tryz.ntmps31
    go_wp2
    go_ret
    exact ⟨rfl, rfl⟩
  | false =>
    rw [hd] at c3
    by_cases hs : s.data.toList = []
    · have e : R.core.createE s.data.toList = 31 := by unfold RC.createE; rw [R.core_down, hd, if_neg (by simp), if_pos (.inl hs)]
      rw [e]
      have hn := nil_eq hs
      clear hE e h HA he hs hL
      go_enter Tryz.func31, Tryz.ntmps31
      go_wp2
      go_ret
      exact ⟨rfl, rfl⟩
    · have hn := nil_ne hs
      cases ha : atL R.L s.data.toList with
      | some i =>
        have e : R.core.createE s.data.toList = 31 := by unfold RC.createE; rw [R.core_down, hd, if_neg (by simp), if_pos (.inr (by rw [hasR, ha]; rfl))]
        have e2 : atI R.L s.data.toList = (i : Int) := by simp [atI, ha]
        rw [e]
        rw [e2] at HA
        have hi : decide ((0 : Int) ≤ (i : Int)) = true := decide_eq_true (by omega)
        clear hE e h he hs hL ha e2
        go_enter Tryz.func31, Tryz.ntmps31
        go_wp2_with fail
        refine HA.out.mono ?_
        rintro _ _ ⟨rfl, rfl⟩
        go_wp2
        go_ret
        exact ⟨rfl, rfl⟩
      | none =>
        have hf : 4096 ≤ R.L.length := by
          refine Classical.byContradiction (fun hc => hE ?_)
          unfold RC.createE
          rw [R.core_down, hd, if_neg (by simp), if_neg (by rw [hasR, ha]; simp [hs]), if_neg (by simpa [RS.core] using hc)]
        have e : R.core.createE s.data.toList = 6 := by
          unfold RC.createE
          rw [R.core_down, hd, if_neg (by simp), if_neg (by rw [hasR, ha]; simp [hs]), if_pos (by simpa [RS.core] using hf)]
        have e2 : atI R.L s.data.toList = -1 := by simp [atI, ha]
        rw [e]
        rw [e2] at HA
        clear hE e h he hs ha e2
        go_enter Tryz.func31, Tryz.ntmps31
        go_wp2_with fail
        refine HA.out.mono ?_
        rintro _ _ ⟨rfl, rfl⟩
        go_wp2
        go_ret
        exact ⟨rfl, rfl⟩

set_option maxRecDepth 100000 in
set_option maxHeartbeats 4000000 in
theorem rcreate_ok {W : World} {rb : Nat} {R : RS} (h : RRep W rb R) (hL : R.L.length ≤ 4194304) {s : ByteArray} (hE : R.core.createE s.data.toList = 0) :
    Calls Tryz.prog 31 #[.pointer (some ⟨rb, 0, none⟩), .string s] W fun e w' => e = .returned (.int .i64 0) ∧ ∃ R', RRep w' rb R' ∧ RStep W w' rb R R' ∧ R'.core = { R.core with L := insC ⟨s.data.toList, []⟩ R.core.L } := by
  have HA := hide (at_any h (s := s))
  obtain ⟨c0, c1, c2, c3⟩ := h.rcells
  obtain ⟨p, cap, he, h1, h2⟩ := own_form h.lrow
  rw [he] at c0
  have hd : R.down = false := by
    cases hd : R.down with
    | false => rfl
    | true => unfold RC.createE at hE; rw [R.core_down, hd] at hE; simp at hE
  have hs : s.data.toList ≠ [] := fun hs => by unfold RC.createE at hE; rw [R.core_down, hd, if_neg (by simp), if_pos (.inl hs)] at hE; simp at hE
  have hn := nil_ne hs
  have ha : atL R.L s.data.toList = none := by
    cases ha : atL R.L s.data.toList with
    | none => rfl
    | some i => unfold RC.createE at hE; rw [R.core_down, hd, if_neg (by simp), if_pos (.inr (by rw [hasR, ha]; rfl))] at hE; simp at hE
  have hf : R.L.length < 4096 := by
    refine Classical.byContradiction (fun hc => ?_)
    unfold RC.createE at hE
    rw [R.core_down, hd, if_neg (by simp), if_neg (by rw [hasR, ha]; simp [hs]), if_pos (by simpa [RS.core] using hc)] at hE
    simp at hE
  have e2 : atI R.L s.data.toList = -1 := by simp [atI, ha]
  rw [e2] at HA
  rw [hd] at c3
  have hP := rput_any h (x := ⟨s.data.toList, [], .slice none 0 0⟩) ⟨⟨none, 0, rfl, by simp, by simp, fun _ => rfl, fun hp => by simp at hp⟩, fun x hx => by simp at hx⟩ (fun hc => absurd rfl hc) hL
  have es : strV s.data.toList = .string s := by simp [strV]
  simp only [es] at hP
  have HP := hide hP
  have H := hide h
  clear hE h he hs ha e2 hP es
  go_enter Tryz.func31, Tryz.ntmps31
  go_wp2_with fail
  refine HA.out.mono ?_
  rintro _ _ ⟨rfl, rfl⟩
  go_wp2_with fail
  refine HP.out.mono ?_
  rintro _ w1 ⟨rfl, v, h3, h4, h5⟩
  have H3 := hide h3
  clear h3
  go_wp2
  go_ret
  refine ⟨rfl, _, H3.out, ⟨h4, ?_, ?_⟩, ?_⟩
  · rintro i (rfl | hi | hi)
    · exact .inl (.inl rfl)
    · exact .inr (h5 i hi)
    · exact .inl (.inr (.inr hi))
  · rintro i (⟨f, hf, hl, hi⟩ | hi)
    · rcases mem_insR.1 hf with rfl | hf
      · exact absurd rfl hl
      · exact .inl (.inl ⟨f, hf, hl, hi⟩)
    · exact .inl (.inr hi)
  · unfold RS.core
    simp only
    rw [insR_core]
    rfl
end Go.Proofs.YtikpckmlnhcddaaGreat

/-
  The reference: Write. The conditions: lengths.
-/
namespace Go.Proofs.YtikpckmlnhcddaaGreat
open Go.RowKit Go.Maps

theorem may_zero {R : RS} {n : Nm} (h : R.core.may n = 0) : R.down = false ∧ ∃ j, atL R.L n = some j := by
  rw [mayR] at h
  unfold mayL at h
  cases hd : R.down with
  | true => rw [hd] at h; simp at h
  | false =>
    rw [hd] at h
    cases ha : atL R.L n with
    | none => rw [ha] at h; simp at h
    | some j => exact ⟨rfl, j, rfl⟩
theorem may_calls {W : World} {rb : Nat} {R : RS} (h : RRep W rb R) (s : ByteArray) :
    Calls Tryz.prog 64 #[.pointer (some ⟨rb, 0, none⟩), .string s] W fun e w' => e = .returned (.int .i64 (R.core.may s.data.toList)) ∧ w' = W := by
  rw [mayR]; exact may_any h
/-- all, in a letter for its length. -/
theorem all_calls {W : World} {rb : Nat} {R : RS} (h : RRep W rb R) (hok : RefOk R) (hs : Sole R) {s : ByteArray} {j : Nat} (hj : atL R.L s.data.toList = some j) {c : By} (hc : R.core.all s.data.toList = c) {N : Nat} (hN : c.length = N) :
    Calls Tryz.prog 65 #[.pointer (some ⟨rb, 0, none⟩), .string s] W fun e w' => ∃ p cap, e = .returned (.slice p N cap) ∧ Row .u8 w' (.slice p N cap) c ∧ N ≤ cap ∧ cap ≤ 9223372036854775807 ∧
      (∀ i, (Value.slice p 0 0).ownBlock = some i → ((R.L[j]!).bv.ownBlock = some i ∧ c = (R.L[j]!).b) ∨ W.heap.size ≤ i) ∧ Below W.heap.size W w' := by
  obtain ⟨hk, hn⟩ := atL_get hj
  have hall := hok.all j hk
  rw [hn] at hall
  have := all_any h hj hall hok.P
  rw [hs.at_all hj, hc, hN] at this
  refine this.mono ?_
  rintro e w' ⟨p, cap, rfl, h1, h2, h3⟩
  obtain ⟨p', cap', he, g1, g2, _⟩ := id h1
  simp only [Value.slice.injEq] at he
  obtain ⟨rfl, _, rfl⟩ := he
  exact ⟨p, cap, rfl, h1, by omega, g2, h2, h3⟩
theorem left_calls {W : World} {rb : Nat} {R : RS} (h : RRep W rb R) (hok : RefOk R) (hs : Sole R) :
    Calls Tryz.prog 43 #[.pointer (some ⟨rb, 0, none⟩)] W fun e w' => e = .returned (.int .i64 R.core.left) ∧ Below W.heap.size W w' := by
  have := rleft_any h hok
  rw [sizesE hs] at this
  exact this
theorem left_bounds {R : RS} (hok : RefOk R) (hs : Sole R) : 0 ≤ R.core.left ∧ R.core.left ≤ 4194304 := by
  have h1 := hok.sum R.L.length (Nat.le_refl _)
  rw [sizesE hs] at h1
  have h2 := hok.most
  unfold RC.left
  have : R.core.most = R.most := rfl
  omega
theorem all_len {R : RS} (hok : RefOk R) (hs : Sole R) {n : Nm} {j : Nat} (hj : atL R.L n = some j) : (R.core.all n).length ≤ 4194304 := by
  obtain ⟨hk, hn⟩ := atL_get hj
  have := (hok.all j hk).len R.P.length (Nat.le_refl _)
  rw [hs.allE hk, hn] at this
  exact this

set_option maxRecDepth 100000 in
set_option maxHeartbeats 4000000 in
/-- What is refused for want of the store or of the file. -/
theorem rwrite_may {W : World} {rb : Nat} {R : RS} (h : RRep W rb R) {s : ByteArray} (k : Int) (vb : Value) {E : Int} (hE : R.core.may s.data.toList = E) (hE0 : (E == 0) = false) :
    Calls Tryz.prog 32 #[.pointer (some ⟨rb, 0, none⟩), .string s, .int .i64 k, vb] W fun e w' => e = .returned (.int .i64 E) ∧ w' = W := by
  have HM := hide (may_calls h s)
  rw [hE] at HM
  have hb : (E != 0) = true := by rw [bne, hE0]; rfl
  clear hE h
  go_enter Tryz.func32, Tryz.ntmps32
  go_wp2_with fail
  refine HM.out.mono ?_
  rintro _ _ ⟨rfl, rfl⟩
  go_wp2
  go_ret
  exact ⟨rfl, rfl⟩

set_option maxRecDepth 100000 in
set_option maxHeartbeats 4000000 in
theorem rwrite_spot {W : World} {rb : Nat} {R : RS} (h : RRep W rb R) (hok : RefOk R) (hs : Sole R) {s : ByteArray} (hE : R.core.may s.data.toList = 0) {k : Int} (hk : k < 0 ∨ ((R.core.all s.data.toList).length : Int) < k) (vb : Value) :
    Calls Tryz.prog 32 #[.pointer (some ⟨rb, 0, none⟩), .string s, .int .i64 k, vb] W fun e w' => e = .returned (.int .i64 33) ∧ Below W.heap.size W w' := by
  have HM := hide (may_calls h s)
  rw [hE] at HM
  obtain ⟨_, j, hj⟩ := may_zero hE
  obtain ⟨N, hN⟩ : ∃ N, (R.core.all s.data.toList).length = N := ⟨_, rfl⟩
  have HA := hide (all_calls h hok hs hj rfl hN)
  rw [hN] at hk
  have hk' : decide (k < 0) = true ∨ (decide (k < 0) = false ∧ decide ((N : Int) < k) = true) := by
    by_cases h0 : k < 0
    · exact .inl (decide_eq_true h0)
    · exact .inr ⟨decide_eq_false h0, decide_eq_true (by omega)⟩
  clear hE h hok hs hj hN hk
  rcases hk' with hk1 | ⟨hk1, hk2⟩
  all_goals
    go_enter Tryz.func32, Tryz.ntmps32
    go_wp2_with fail
    refine HM.out.mono ?_
    rintro _ _ ⟨rfl, rfl⟩
    go_wp2_with fail
    refine HA.out.mono ?_
    rintro _ w1 ⟨p, cap, rfl, _, _, _, _, hb⟩
    go_wp2
    go_ret
    exact ⟨rfl, hb⟩

set_option maxRecDepth 100000 in
set_option maxHeartbeats 4000000 in
theorem rwrite_room {W : World} {rb : Nat} {R : RS} (h : RRep W rb R) (hok : RefOk R) (hs : Sole R) {s : ByteArray} (hE : R.core.may s.data.toList = 0) {k : Nat} {N : Nat} (hN : (R.core.all s.data.toList).length = N) (hk : k ≤ N) {p : Option Addr} {n cap : Nat} (hn : n ≤ 9223372036854775807)
    (hm : R.core.left < (n : Int) - ((N : Int) - k)) :
    Calls Tryz.prog 32 #[.pointer (some ⟨rb, 0, none⟩), .string s, .int .i64 k, .slice p n cap] W fun e w' => e = .returned (.int .i64 30) ∧ Below W.heap.size W w' := by
  have HM := hide (may_calls h s)
  rw [hE] at HM
  obtain ⟨_, j, hj⟩ := may_zero hE
  have HA := hide (all_calls h hok hs hj rfl hN)
  have hN1 := all_len hok hs hj
  rw [hN] at hN1
  obtain ⟨l0, l1⟩ := left_bounds hok hs
  have HL : Hid (∀ w1, Below W.heap.size W w1 → Calls Tryz.prog 43 #[.pointer (some ⟨rb, 0, none⟩)] w1 fun e w' => e = .returned (.int .i64 R.core.left) ∧ Below w1.heap.size w1 w') := hide (fun w1 hb => left_calls (h.fresh hb) hok hs)
  obtain ⟨LF, hLF⟩ : ∃ LF, R.core.left = LF := ⟨_, rfl⟩
  rw [hLF] at HL hm l0 l1
  clear hE h hok hs hj hN hLF
  go_enter Tryz.func32, Tryz.ntmps32
  go_wp2_with fail
  refine HM.out.mono ?_
  rintro _ W ⟨rfl, rfl⟩
  go_wp2_with fail
  refine HA.out.mono ?_
  rintro _ w1 ⟨p1, cap1, rfl, _, _, _, _, hb⟩
  have HB := hide hb
  clear hb
  have hd1 : decide (0 < (n : Int) - ((N : Int) - k)) = true := decide_eq_true (by omega)
  have hd2 : decide (LF < (n : Int) - ((N : Int) - k)) = true := decide_eq_true hm
  go_wp2_with fail
  refine (HL.out _ HB.out).mono ?_
  rintro _ w2 ⟨rfl, hb2⟩
  have HB2 : Hid (Below W.heap.size W w2) := hide (HB.out.trans (hb2.mono HB.out.size))
  clear hb2
  go_wp2
  go_ret
  exact ⟨rfl, HB2.out⟩

set_option maxRecDepth 100000 in
set_option maxHeartbeats 4000000 in
/-- A write of no bytes. -/
theorem rwrite_empty {W : World} {rb : Nat} {R : RS} (h : RRep W rb R) (hok : RefOk R) (hs : Sole R) {s : ByteArray} (hE : R.core.may s.data.toList = 0) {k : Nat} (hk : k ≤ (R.core.all s.data.toList).length) {p : Option Addr} {cap : Nat} :
    Calls Tryz.prog 32 #[.pointer (some ⟨rb, 0, none⟩), .string s, .int .i64 k, .slice p 0 cap] W fun e w' => e = .returned (.int .i64 0) ∧ Below W.heap.size W w' := by
  have HM := hide (may_calls h s)
  rw [hE] at HM
  obtain ⟨_, j, hj⟩ := may_zero hE
  have hN1 := all_len hok hs hj
  obtain ⟨N, hN⟩ : ∃ N, (R.core.all s.data.toList).length = N := ⟨_, rfl⟩
  have HA := hide (all_calls h hok hs hj rfl hN)
  rw [hN] at hN1 hk
  clear hE h hok hs hj hN
  go_enter Tryz.func32, Tryz.ntmps32
  go_wp2_with fail
  refine HM.out.mono ?_
  rintro _ W ⟨rfl, rfl⟩
  go_wp2_with fail
  refine HA.out.mono ?_
  rintro _ w1 ⟨p1, cap1, rfl, _, _, _, _, hb⟩
  have HB := hide hb
  clear hb
  have hd1 : decide (0 < ((0 : Nat) : Int) - ((N : Int) - k)) = false := decide_eq_false (by omega)
  go_wp2
  go_ret
  exact ⟨rfl, HB.out⟩

theorem pend_one {P : List RP} {W : World} (h : ∀ f ∈ P, Row .u8 W f.bv f.b ∧ U8 f.b) : ∀ u ∈ P.flatMap RP.cells, u.oneCell' = true := by
  intro u hu
  obtain ⟨f, hf, hu⟩ := List.mem_flatMap.1 hu
  obtain ⟨p, cap, he, _⟩ := (h f hf).1
  simp only [RP.cells, List.mem_cons, List.not_mem_nil, or_false] at hu
  rcases hu with rfl | rfl | rfl
  · rfl
  · rfl
  · rw [he]; rfl

/-- A pending write is put behind the others. -/
theorem RRep.pushP {W w1 w2 : World} {rb : Nat} {R : RS} {p1 p2 : Option Addr} {c1 c2 n k : Nat} {nm : Nm} {b : By} (h : RRep W rb R) (hb1 : Below W.heap.size W w1) (o1 : w1.ownsRow W.heap.size 5 1 (.slice p1 n c1) n (b.map (Value.int .u8))) (hn : b.length = n) (hu : U8 b)
    (o2 : w2.ownsRow 0 98 3 (.slice p2 (R.P.length + 1) c2) (R.P.length + 1) (R.P.flatMap RP.cells ++ [.string ⟨nm.toArray⟩, .int .i64 k, .slice p1 n c1])) (X : World) (hX : Below w1.heap.size w1 X) (g2 : X.grownBy w2 R.pv.ownBlock) (hl : (Value.slice p2 (R.P.length + 1) c2).ownBlock = R.pv.ownBlock ∨ (∃ i, (Value.slice p2 (R.P.length + 1) c2).ownBlock = some i ∧ w1.heap.size ≤ i)) :
    ∃ R', RRep (w2.setCell ⟨rb, 1, none⟩ (.slice p2 (R.P.length + 1) c2)) rb R' ∧ RStep W (w2.setCell ⟨rb, 1, none⟩ (.slice p2 (R.P.length + 1) c2)) rb R R' ∧ R'.core = { R.core with P := R.core.P ++ [⟨nm, k, b⟩] } := by
  obtain ⟨v2, hv2⟩ : ∃ v2, v2 = Value.slice p2 (R.P.length + 1) c2 := ⟨_, rfl⟩
  rw [← hv2] at o2 hl ⊢
  have hsz := hb1.size
  have hbX : Below W.heap.size W X := hb1.trans (hX.mono hsz)
  have hRX : RRep X rb R := h.fresh hbX
  have hg : Only (fun i => R.pv.ownBlock = some i) X w2 := Only.of_grown g2 (fun k e => e)
  have hbox : w2.heap[rb]? = some (.cells #[R.lv, R.pv, .int .i64 R.most, .bool R.down] 67 (0, 0)) := hg.obj hRX.box hRX.p_rb
  have hset : Only (· = rb) w2 (w2.setCell ⟨rb, 1, none⟩ v2) := Only.set _ _ _ _ rfl
  have hF : Only (fun i => R.pv.ownBlock = some i ∨ i = rb) X (w2.setCell ⟨rb, 1, none⟩ v2) := (hg.mono (fun i _ e => .inl e)).trans (hset.mono (fun i _ e => .inr e))
  have hv2rb : v2.ownBlock ≠ some rb := fun e => by
    obtain ⟨_, cur, hc⟩ := own_block_lt o2 e
    rw [hbox] at hc; simp at hc
  have hlp : ∀ i, R.lv.ownBlock = some i → R.pv.ownBlock ≠ some i := fun i h1 h2 => by
    obtain ⟨_, cur, hc⟩ := own_block_lt h.lrow h1
    obtain ⟨_, cur', hc'⟩ := own_block_lt h.prow h2
    rw [hc] at hc'; simp at hc'
  have hrow1 : Row .u8 w1 (.slice p1 n c1) b := by
    have := own_row (by rw [hn]; exact o1 : w1.ownsRow W.heap.size 5 1 (.slice p1 n c1) b.length (b.map (Value.int .u8)))
    exact this
  have hnew : ∀ i, (Value.slice p1 n c1).ownBlock = some i → W.heap.size ≤ i ∧ i < w1.heap.size := fun i hi => ⟨own_block_base o1 hi, (own_block_lt o1 hi).1⟩
  have notF : ∀ i, rcov R i → ¬ (R.pv.ownBlock = some i ∨ i = rb) := fun i hi hf => h.sep i hi (hf.elim (fun e => .inr (.inr e)) (fun e => .inl e))
  refine ⟨{ R with P := R.P ++ [⟨nm, k, b, .slice p1 n c1⟩], pv := v2 }, ⟨?_, ?_, ?_, fun f hf => ⟨?_, (h.lb f hf).2⟩, fun f hf => ?_, ?_⟩, ⟨?_, ?_, ?_⟩, ?_⟩
  · rw [heap_set_same hbox]; rfl
  · exact ownsRow_only hRX.lrow hF (fun i hi hf => hf.elim (fun e => hlp i hi e) (fun e => by subst e; exact hRX.l_rb hi))
  · refine ownsRow_only ?_ hset (fun i hi e => by subst e; exact hv2rb hi)
    simpa [RP.cells, strV] using o2
  · exact (hRX.lb f hf).1.only0 hF (fun hl i hi => notF i (.inl ⟨f, hf, hl, hi⟩))
  · simp only [List.mem_append, List.mem_singleton] at hf
    rcases hf with hf | rfl
    · exact ⟨(hRX.pb f hf).1.only0 hF (fun hl i hi => notF i (.inr ⟨f, hf, hl, hi⟩)), (h.pb f hf).2⟩
    · refine ⟨(hrow1.below hX).only0 hF (fun _ i hi hf => ?_), hu⟩
      have := (hnew i hi).1
      rcases hf with hf | hf
      · have := h.rown_lt (.inr (.inr hf)); omega
      · have := h.rown_lt (.inl hf); omega
  · have v2not : ∀ i, i < w1.heap.size → ¬ R.pv.ownBlock = some i → v2.ownBlock ≠ some i := fun i h1 h2 e => by
      rcases hl with h' | ⟨j, h', h''⟩
      · exact h2 (by rw [← h']; exact e)
      · rw [e] at h'; simp at h'; omega
    have old : ∀ i, rcov R i → ¬ rown rb { R with P := R.P ++ [⟨nm, k, b, .slice p1 n c1⟩], pv := v2 } i := by
      intro i hi
      have hlt := h.rcov_lt hi
      rintro (e | e | e)
      · exact h.sep i hi (.inl e)
      · exact h.sep i hi (.inr (.inl e))
      · exact v2not i (by omega) (fun e' => h.sep i hi (.inr (.inr e'))) e
    rintro i (⟨f, hf, hl', hi⟩ | ⟨f, hf, hl', hi⟩)
    · exact old i (.inl ⟨f, hf, hl', hi⟩)
    · simp only [List.mem_append, List.mem_singleton] at hf
      rcases hf with hf | rfl
      · exact old i (.inr ⟨f, hf, hl', hi⟩)
      · have hb := hnew i hi
        rintro (e | e | e)
        · have := h.rown_lt (.inl e); omega
        · have := h.rown_lt (.inr (.inl e)); omega
        · exact v2not i hb.2 (fun e' => by have := h.rown_lt (.inr (.inr e')); omega) e
  · exact (Only.fresh hbX _).trans (hF.mono (fun i _ e => e.elim (fun e => .inr (.inr e)) (fun e => .inl e)))
  · rintro i (e | e | e)
    · exact .inl (.inl e)
    · exact .inl (.inr (.inl e))
    · rcases hl with h' | ⟨j, h', h''⟩
      · exact .inl (.inr (.inr (by rw [← h']; exact e)))
      · have e' : v2.ownBlock = some i := e
        rw [e'] at h'
        simp at h'
        exact .inr (by omega)
  · rintro i (⟨f, hf, hl', hi⟩ | ⟨f, hf, hl', hi⟩)
    · exact .inl (.inl ⟨f, hf, hl', hi⟩)
    · simp only [List.mem_append, List.mem_singleton] at hf
      rcases hf with hf | rfl
      · exact .inl (.inr ⟨f, hf, hl', hi⟩)
      · exact .inr (hnew i hi).1
  · unfold RS.core
    simp [RP.core]
end Go.Proofs.YtikpckmlnhcddaaGreat
