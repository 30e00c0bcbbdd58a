/-
  Bytes: the program's and the reference's. The conditions: that numbers are of their types.
-/
import Derived.Test.YtihbdlbnpkmafaaEvq
namespace Go.Proofs.Ytihbdlbnpkmafaa
open Go.RowKit

def bytesC (es : List EV) : List Int × Int := if es.all (fun e => checkE e == 0) = true then (if es.length ≤ 4096 then (forms ((es.length : Int) :: es.flatMap numsE), 0) else ([], 3)) else ([], 60)
theorem check_vals (e : EV) : checkE e = 0 ∨ checkE e = 60 := by unfold checkE; split; exact .inl rfl; exact .inr rfl
theorem bytes_bad {es : List EV} {k : Nat} (hk : k < es.length) (h : checkE es[k]! ≠ 0) : bytesC es = ([], 60) := by
  unfold bytesC
  rw [if_neg]
  intro ha
  rw [List.all_eq_true] at ha
  have := ha es[k]! (by rw [getElem!_pos es k hk]; exact List.getElem_mem _)
  simp at this
  exact h (by simpa using this)
theorem all_ok {es : List EV} (h : ∀ j, j < es.length → checkE es[j]! = 0) : es.all (fun e => checkE e == 0) = true := by
  rw [List.all_eq_true]
  intro e he
  obtain ⟨i, hi, rfl⟩ := List.getElem_of_mem he
  have := h i hi
  rw [getElem!_pos es i hi] at this
  rw [this]
  rfl
theorem bytes_long {es : List EV} (h : ∀ j, j < es.length → checkE es[j]! = 0) (hl : 4096 < es.length) : bytesC es = ([], 3) := by
  unfold bytesC
  rw [if_pos (all_ok h), if_neg (by omega)]
theorem bytes_good {es : List EV} (h : ∀ j, j < es.length → checkE es[j]! = 0) (hl : es.length ≤ 4096) : bytesC es = (forms ((es.length : Int) :: es.flatMap numsE), 0) := by
  unfold bytesC
  rw [if_pos (all_ok h), if_pos hl]
theorem nums_all : ∀ es : List EV, (es.flatMap numsE).length ≤ 3 * es.length
  | [] => Nat.le_refl _
  | e :: es => by
    have := nums_all es
    have := nums_len e
    simp only [List.flatMap_cons, List.length_append, List.length_cons]
    omega
theorem nums_bds {es : List EV} (h : ∀ e ∈ es, e.fine) : I64 (es.flatMap numsE) := by
  intro x hx
  obtain ⟨e, he, hx⟩ := List.mem_flatMap.1 hx
  exact nums_bd (h e he) x hx
theorem take_snoc {α : Type} [Inhabited α] {es : List α} {k : Nat} (hk : k < es.length) {x : α} (hx : es[k]! = x) : es.take (k + 1) = es.take k ++ [x] := by
  rw [List.take_succ_eq_append_getElem hk, ← hx, getElem!_pos es k hk]
theorem mem_at {α : Type} [Inhabited α] {es : List α} {k : Nat} (hk : k < es.length) {x : α} (hx : es[k]! = x) : x ∈ es := by
  rw [← hx, getElem!_pos es k hk]; exact List.getElem_mem _

set_option maxRecDepth 100000 in
set_option maxHeartbeats 4000000 in
theorem bytes_any {W : World} {p : Option Addr} {cap L : Nat} {es : List EV} (ho : ERow W p cap es) (hf : ∀ e ∈ es, e.fine) (hL : es.length = L) {rb : List Int} {re : Int} (hr : bytesC es = (rb, re)) :
    Calls Try.prog 9 #[.slice p L cap] W fun e w' => ∃ p' c', e = .returned (.tuple #[.slice p' rb.length c', .int .i64 re]) ∧ w'.ownsRow W.heap.size 5 1 (.slice p' rb.length c') rb.length (rb.map (Value.int .u8)) ∧ Below W.heap.size W w' := by
  have i3 := ho.le
  have i4 := ho.top
  rw [hL] at i3
  have HO := hide ho
  have HF := hide hf
  have HL := hide hL
  have HR := hide hr
  clear ho hf hL hr
  go_enter Try.func9, Try.ntmps9
  go_wp2_with fail
  go_loopw [12] (fun i wr => ∃ k : Nat, k ≤ L ∧ i = .int .i64 (k : Int) ∧ Hid (Below W.heap.size W wr) ∧ Hid (∀ j, j < k → checkE es[j]! = 0)) (fun i _ => L - (intOf i).toNat)
  case atStart => exact ⟨0, Nat.zero_le _, rfl, hide (Below.refl _ _), hide (fun j hj => absurd hj (Nat.not_lt_zero j))⟩
  case round =>
    obtain ⟨k, hk, rfl, HB, HN⟩ := hrel
    by_cases hlt : k < L
    · have hlt2 : k < es.length := by rw [HL.out]; exact hlt
      obtain ⟨x, hx⟩ : ∃ x, es[k]! = x := ⟨_, rfl⟩
      obtain ⟨g, o, rfl, d0, d1, d2, d3⟩ := (HO.out.later HB.out).at hlt2 hx
      have HX := hide hx
      have HK := hide hlt2
      obtain ⟨kd, ky, vl, id⟩ := x
      simp only at d0 d1 d2 d3
      clear hx hlt2
      go_wp2_with fail
      refine check_any.mono ?_
      rintro _ w1 ⟨rfl, b1⟩
      have HB1 : Hid (Below W.heap.size W w1) := hide (HB.out.trans (((alloc_below _ _).trans (b1.mono (by simp))).mono HB.out.size))
      clear b1 d0 d1 d2 d3
      rcases check_vals ⟨kd, ky, vl, id⟩ with hc | hc
      · have HN2 : Hid (∀ j, j < k + 1 → checkE es[j]! = 0) := by
          refine hide (fun j hj => ?_)
          by_cases e : j = k
          · subst e; rw [HX.out]; exact hc
          · exact HN.out j (by omega)
        rw [hc]
        clear hc
        go_wp2
        exact ⟨⟨k + 1, by omega, by first | rfl | go_num, HB1, HN2⟩, by simp [intOf]; omega⟩
      · have HQ : Hid (bytesC es = ([], 60)) := hide (bytes_bad HK.out (by rw [HX.out, hc]; decide))
        rw [hc]
        clear hc
        go_wp2
        go_ret2
        have e := HR.out
        rw [HQ.out] at e
        simp only [Prod.mk.injEq] at e
        obtain ⟨rfl, rfl⟩ := e
        exact ⟨none, 0, rfl, World.ownsRow_nil _ _ _ _, HB1.out⟩
    · obtain rfl : k = L := by omega
      have HN2 : Hid (∀ j, j < es.length → checkE es[j]! = 0) := hide (fun j hj => HN.out j (by rw [← HL.out]; exact hj))
      by_cases h4 : 4096 < k
      · have HQ : Hid (bytesC es = ([], 3)) := hide (bytes_long HN2.out (by rw [HL.out]; exact h4))
        go_wp2
        go_ret2
        have e := HR.out
        rw [HQ.out] at e
        simp only [Prod.mk.injEq] at e
        obtain ⟨rfl, rfl⟩ := e
        exact ⟨none, 0, rfl, World.ownsRow_nil _ _ _ _, HB.out⟩
      · have HQ : Hid (bytesC es = (forms ((k : Int) :: es.flatMap numsE), 0)) := hide (by rw [bytes_good HN2.out (by rw [HL.out]; omega), HL.out])
        have HST : Hid ((wr.alloc (.cells #[.int .i64 (k : Int)] 2 (0, 0))).ownsRow wr.heap.size 2 1 (.slice (some ⟨wr.heap.size, 0, none⟩) 1 1) 1 (([(k : Int)] ++ (es.take 0).flatMap numsE).map (Value.int .i64))) := hide (World.ownsRow_lit wr #[.int .i64 (k : Int)] 1 (Nat.le_refl _) (by decide) rfl)
        have HBS : Hid (Below W.heap.size W (wr.alloc (.cells #[.int .i64 (k : Int)] 2 (0, 0)))) := hide (HB.out.trans ((alloc_below _ _).mono HB.out.size))
        obtain ⟨B0, hB0⟩ : ∃ B0, wr.heap.size = B0 := ⟨_, rfl⟩
        rw [hB0] at HST
        have HWB : Hid (W.heap.size ≤ B0) := hide (by rw [← hB0]; exact HB.out.size)
        have hnl : ∀ j, ((es.take j).flatMap numsE).length ≤ 3 * j := fun j => Nat.le_trans (nums_all _) (by rw [List.length_take]; omega)
        have HNL := hide hnl
        clear HN hnl
        go_wp2_with fail
        try rw [hB0]
        go_loopw [30, 7] (fun i s wq => ∃ (j m : Nat) (p1 : Option Addr) (c1 : Nat), j ≤ k ∧ i = .int .i64 (j : Int) ∧ s = .slice p1 m c1 ∧ m = 1 + ((es.take j).flatMap numsE).length ∧ Hid (wq.ownsRow B0 2 1 (.slice p1 m c1) m (([(k : Int)] ++ (es.take j).flatMap numsE).map (Value.int .i64))) ∧ Hid (Below W.heap.size W wq) ∧ Hid (B0 ≤ wq.heap.size)) (fun i _ _ => k - (intOf i).toNat)
        case atStart => exact ⟨0, 1, _, _, Nat.zero_le _, rfl, rfl, rfl, HST, HBS, hide (by rw [← hB0]; simp)⟩
        case round =>
          obtain ⟨j, m, p1, c1, hj, rfl, rfl, hm, HOW, HBq, HSZ⟩ := hrel
          rename World => wq
          clear HST HBS
          by_cases hjl : j < k
          · have hjl2 : j < es.length := by rw [HL.out]; exact hjl
            obtain ⟨x, hx⟩ : ∃ x, es[j]! = x := ⟨_, rfl⟩
            obtain ⟨g, o, rfl, d0, d1, d2, d3⟩ := (HO.out.later HBq.out).at hjl2 hx
            have HT := hide (take_snoc hjl2 hx)
            obtain ⟨kd, ky, vl, id⟩ := x
            simp only at d0 d1 d2 d3
            have hab := alloc_below wq (.cells #[.int .i64 kd, .int .i64 ky, .int .i64 vl, .int .i64 id] 26 (0, 0))
            have hmb := HNL.out j
            have HA := hide (add_any (kd := kd) (ky := ky) (vl := vl) (id := id) (ownsRow_later HOW.out hab) (Nat.le_trans HSZ.out hab.size) (by omega))
            have HAB := hide hab
            have HM := hide hm
            clear hx hjl2 hab hmb hm
            go_wp2_with fail
            refine HA.out.mono ?_
            rintro _ w2 ⟨p2, c2, rfl, O2, N2⟩
            have hbw : ∀ i, (Value.slice p1 m c1).ownBlock = some i → B0 ≤ i := fun i e => own_block_base HOW.out e
            have HB2 : Hid (Below W.heap.size W w2) := hide ((HBq.out.trans (HAB.out.mono HBq.out.size)).trans (N2.below (Nat.le_trans HBq.out.size HAB.out.size) (fun i e => Nat.le_trans HWB.out (hbw i e))))
            have HS2 : Hid (B0 ≤ w2.heap.size) := hide (Nat.le_trans HSZ.out (Nat.le_trans HAB.out.size N2.size))
            have HO2 : Hid (w2.ownsRow B0 2 1 (.slice p2 (m + (numsE ⟨kd, ky, vl, id⟩).length) c2) (m + (numsE ⟨kd, ky, vl, id⟩).length) (([(k : Int)] ++ (es.take (j + 1)).flatMap numsE).map (Value.int .i64))) := by
              refine hide ?_
              rw [HT.out, List.flatMap_append, ← List.append_assoc]
              simpa using O2
            obtain ⟨nl, hnl⟩ : ∃ nl, (numsE ⟨kd, ky, vl, id⟩).length = nl := ⟨_, rfl⟩
            have HM2 : Hid (m + nl = 1 + ((es.take (j + 1)).flatMap numsE).length) := by
              refine hide ?_
              rw [HT.out, List.flatMap_append, List.length_append, HM.out, ← hnl]
              simp
              omega
            rw [hnl] at HO2 ⊢
            clear O2 N2 hbw d0 d1 d2 d3 HA hnl
            go_wp2
            exact ⟨⟨j + 1, m + nl, p2, c2, by omega, by first | rfl | go_num, rfl, HM2.out, HO2, HB2, HS2⟩, by simp [intOf]; omega⟩
          · obtain rfl : j = k := by omega
            have ht : es.take j = es := List.take_of_length_le (by rw [HL.out]; exact Nat.le_refl _)
            have hml := HNL.out j
            rw [ht] at HOW hm hml
            have HI := hide (int_any (w := wq) (Row.nil .u8 wq) (own_row HOW.out) (by
              intro x hx
              rcases List.mem_append.1 hx with hx | hx
              · simp only [List.mem_singleton] at hx; subst hx; omega
              · exact nums_bds HF.out x hx) (by rw [List.length_append]; simp only [List.length_nil, List.length_cons]; omega))
            clear ht hml hm
            go_wp2_with fail
            refine HI.out.mono ?_
            rintro _ w2 ⟨v2, rfl, O2, B2⟩
            rw [List.nil_append] at O2
            have e := HR.out
            rw [HQ.out] at e
            simp only [Prod.mk.injEq] at e
            obtain ⟨e1, rfl⟩ := e
            have e2 : forms ([(j : Int)] ++ es.flatMap numsE) = rb := by rw [← e1]; rfl
            rw [e2] at O2
            obtain ⟨p2, c2, rfl, O3⟩ := own_bytes O2
            have HO3 := hide (ownsRow_base O3 HBq.out.size)
            have HB2 := hide (HBq.out.trans (B2.mono HBq.out.size))
            clear O2 O3 B2 HI e1 e2
            go_wp2
            go_ret2
            exact ⟨p2, c2, rfl, HO3.out, HB2.out⟩

set_option maxRecDepth 100000 in
set_option maxHeartbeats 4000000 in
theorem rbytes_any {W : World} {p : Option Addr} {cap L : Nat} {es : List EV} (ho : ERow W p cap es) (hf : ∀ e ∈ es, e.fine) (hL : es.length = L) {rb : List Int} {re : Int} (hr : bytesC es = (rb, re)) :
    Calls Try.prog 10 #[.slice p L cap] W fun e w' => ∃ p' c', e = .returned (.tuple #[.slice p' rb.length c', .int .i64 re]) ∧ Row .u8 w' (.slice p' rb.length c') rb ∧ Below W.heap.size W w' := by
  have i3 := ho.le
  have i4 := ho.top
  rw [hL] at i3
  have HO := hide ho
  have HF := hide hf
  have HL := hide hL
  have HR := hide hr
  clear ho hf hL hr
  go_enter Try.func10, Try.ntmps10
  go_wp2_with fail
  go_loopw [4] (fun i wr => ∃ k : Nat, k ≤ L ∧ i = .int .i64 (k : Int) ∧ Hid (Below W.heap.size W wr) ∧ Hid (∀ j, j < k → checkE es[j]! = 0)) (fun i _ => L - (intOf i).toNat)
  case atStart => exact ⟨0, Nat.zero_le _, rfl, hide (Below.refl _ _), hide (fun j hj => absurd hj (Nat.not_lt_zero j))⟩
  case round =>
    obtain ⟨k, hk, rfl, HB, HN⟩ := hrel
    by_cases hlt : k < L
    · have hlt2 : k < es.length := by rw [HL.out]; exact hlt
      obtain ⟨x, hx⟩ : ∃ x, es[k]! = x := ⟨_, rfl⟩
      obtain ⟨g, o, rfl, d0, d1, d2, d3⟩ := (HO.out.later HB.out).at hlt2 hx
      have HX := hide hx
      have HK := hide hlt2
      obtain ⟨kd, ky, vl, id⟩ := x
      simp only at d0 d1 d2 d3
      clear hx hlt2
      go_wp2_with fail
      refine rcheck_any.mono ?_
      rintro _ w1 ⟨rfl, b1⟩
      have HB1 : Hid (Below W.heap.size W w1) := hide (HB.out.trans (b1.mono HB.out.size))
      clear b1 d0 d1 d2 d3
      rcases check_vals ⟨kd, ky, vl, id⟩ with hc | hc
      · have HN2 : Hid (∀ j, j < k + 1 → checkE es[j]! = 0) := by
          refine hide (fun j hj => ?_)
          by_cases e : j = k
          · subst e; rw [HX.out]; exact hc
          · exact HN.out j (by omega)
        rw [hc]
        clear hc
        go_wp2
        exact ⟨⟨k + 1, by omega, by first | rfl | go_num, HB1, HN2⟩, by simp [intOf]; omega⟩
      · have HQ : Hid (bytesC es = ([], 60)) := hide (bytes_bad HK.out (by rw [HX.out, hc]; decide))
        rw [hc]
        clear hc
        go_wp2
        go_ret2
        have e := HR.out
        rw [HQ.out] at e
        simp only [Prod.mk.injEq] at e
        obtain ⟨rfl, rfl⟩ := e
        exact ⟨none, 0, rfl, Row.nil _ _, HB1.out⟩
    · obtain rfl : k = L := by omega
      have HN2 : Hid (∀ j, j < es.length → checkE es[j]! = 0) := hide (fun j hj => HN.out j (by rw [← HL.out]; exact hj))
      by_cases h4 : 4096 < k
      · have HQ : Hid (bytesC es = ([], 3)) := hide (bytes_long HN2.out (by rw [HL.out]; exact h4))
        go_wp2
        go_ret2
        have e := HR.out
        rw [HQ.out] at e
        simp only [Prod.mk.injEq] at e
        obtain ⟨rfl, rfl⟩ := e
        exact ⟨none, 0, rfl, Row.nil _ _, HB.out⟩
      · have HQ : Hid (bytesC es = (forms ((k : Int) :: es.flatMap numsE), 0)) := hide (by rw [bytes_good HN2.out (by rw [HL.out]; omega), HL.out])
        have HBS : Hid (Below W.heap.size W (wr.alloc (.cells #[.int .i64 (k : Int)] 2 (0, 0)))) := hide (HB.out.trans ((alloc_below _ _).mono HB.out.size))
        have HI := hide (rint_any (w := wr.alloc (.cells #[.int .i64 (k : Int)] 2 (0, 0))) (Row.nil .u8 _) (Row.of_lit (k := .i64) (l := [(k : Int)]) (n := 1) rfl (heap_alloc_new wr _) (by decide)) (by intro x hx; simp only [List.mem_singleton] at hx; subst hx; omega) (by simp))
        have hnl : ∀ j, j ≤ k → (forms ((k : Int) :: (es.take j).flatMap numsE)).length ≤ 122890 := fun j hj => by
          have h1 : I64 ((k : Int) :: (es.take j).flatMap numsE) := by
            intro x hx
            rcases List.mem_cons.1 hx with rfl | hx
            · omega
            · exact nums_bds (fun e he => HF.out e (List.mem_of_mem_take he)) x hx
          have h2 := forms_len _ h1
          have h3 := nums_all (es.take j)
          rw [List.length_take] at h3
          simp only [List.length_cons] at h2
          omega
        have HNL := hide hnl
        clear HN hnl
        go_wp2_with fail
        refine HI.out.mono ?_
        rintro _ w2 ⟨v2, rfl, O2, B2⟩
        obtain ⟨p2, c2, rfl, O3⟩ := own_bytes O2
        have HO3 : Hid (Row .u8 w2 (.slice p2 (forms ((k : Int) :: (es.take 0).flatMap numsE)).length c2) (forms ((k : Int) :: (es.take 0).flatMap numsE))) := hide (own_row O3)
        have HB2 := hide (HBS.out.trans (B2.mono HBS.out.size))
        have e0 : ([] ++ forms [(k : Int)]).length = (forms ((k : Int) :: (es.take 0).flatMap numsE)).length := rfl
        rw [e0]
        obtain ⟨l0, hl0⟩ : ∃ l0, (forms ((k : Int) :: (es.take 0).flatMap numsE)).length = l0 := ⟨_, rfl⟩
        rw [hl0] at HO3 ⊢
        clear O2 O3 B2 HI HBS e0
        go_wp2_with fail
        go_loopw [7, 6] (fun i s wq => ∃ (j m : Nat) (p1 : Option Addr) (c1 : Nat), j ≤ k ∧ i = .int .i64 (j : Int) ∧ s = .slice p1 m c1 ∧ m = (forms ((k : Int) :: (es.take j).flatMap numsE)).length ∧ Hid (Row .u8 wq (.slice p1 m c1) (forms ((k : Int) :: (es.take j).flatMap numsE))) ∧ Hid (Below W.heap.size W wq)) (fun i _ _ => k - (intOf i).toNat)
        case atStart => exact ⟨0, l0, _, _, Nat.zero_le _, rfl, rfl, hl0.symm, HO3, HB2⟩
        case round =>
          obtain ⟨j, m, p1, c1, hj, rfl, rfl, hm, HOW, HBq⟩ := hrel
          rename World => wq
          have HM := hide hm
          clear HO3 HB2 hl0 hm
          by_cases hjl : j < k
          · have hjl2 : j < es.length := by rw [HL.out]; exact hjl
            obtain ⟨x, hx⟩ : ∃ x, es[j]! = x := ⟨_, rfl⟩
            obtain ⟨g, o, rfl, d0, d1, d2, d3⟩ := (HO.out.later HBq.out).at hjl2 hx
            have HT := hide (take_snoc hjl2 hx)
            have hxf := HF.out x (mem_at hjl2 hx)
            obtain ⟨kd, ky, vl, id⟩ := x
            simp only at d0 d1 d2 d3
            have hmb := HNL.out j hj
            have HA := hide (rput_ev HOW.out (by omega) hxf)
            clear hx hjl2 hmb hxf
            go_wp2_with fail
            refine HA.out.mono ?_
            rintro _ w2 ⟨p2, c2, rfl, R2, B2⟩
            have ef : forms ((k : Int) :: (es.take j).flatMap numsE) ++ forms (numsE ⟨kd, ky, vl, id⟩) = forms ((k : Int) :: (es.take (j + 1)).flatMap numsE) := by
              rw [← forms_append, HT.out, List.flatMap_append]
              simp
            rw [ef] at R2 ⊢
            obtain ⟨l1, hl1⟩ : ∃ l1, (forms ((k : Int) :: (es.take (j + 1)).flatMap numsE)).length = l1 := ⟨_, rfl⟩
            rw [hl1] at R2 ⊢
            have HR2 := hide R2
            have HL1 := hide hl1
            have HB2 : Hid (Below W.heap.size W w2) := hide (HBq.out.trans (B2.mono HBq.out.size))
            clear R2 B2 d0 d1 d2 d3 HA ef hl1
            go_wp2
            exact ⟨⟨j + 1, l1, p2, c2, by omega, by first | rfl | go_num, rfl, HL1.out.symm, HR2, HB2⟩, by simp [intOf]; omega⟩
          · obtain rfl : j = k := by omega
            have ht : es.take j = es := List.take_of_length_le (by rw [HL.out]; exact Nat.le_refl _)
            have hm := HM.out
            rw [ht] at HOW hm
            have e := HR.out
            rw [HQ.out] at e
            simp only [Prod.mk.injEq] at e
            obtain ⟨e1, rfl⟩ := e
            rw [e1] at HOW hm
            subst hm
            clear ht e1
            go_wp2
            go_ret2
            exact ⟨p1, c1, rfl, HOW.out, HBq.out⟩
end Go.Proofs.Ytihbdlbnpkmafaa
