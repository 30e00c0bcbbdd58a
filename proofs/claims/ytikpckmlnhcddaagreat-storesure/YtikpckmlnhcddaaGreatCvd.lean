/-
  The law's covered and pending: whether a pending write of the reference covers a byte, is of a file. The conditions: lengths.
-/
import Derived.Test.YtikpckmlnhcddaaGreatHad
namespace Go.Proofs.YtikpckmlnhcddaaGreat
open Go.RowKit Go.Maps

theorem InvJ.ends {J : List (PL × CP)} {fs : List MF} {left : Int} {pend turn N : Nat} {r : RC} (h : InvJ J fs left pend turn r N) : ∀ p ∈ r.P, p.beg + p.b.length ≤ 4194304 := by
  intro p hp
  rw [h.P] at hp
  obtain ⟨j, hj, rfl⟩ := List.mem_map.1 hp
  obtain ⟨i, hi, rfl⟩ := List.getElem_of_mem hj
  obtain ⟨f, hf, _, e2⟩ := h.link _ hj
  have hc := cov_get h.cov hi
  have hl := h.lenAt hf (i + 1)
  rw [List.take_succ_eq_append_getElem hi, List.map_append, List.map_singleton, allB_snoc, e2, one_same, putL_length hc.spot] at hl
  omega
theorem Prg.ends {W : World} {sb mb N : Nat} {fs : List MF} {r : RC} (h : Prg W sb mb fs r N) : ∀ p ∈ r.P, p.beg + p.b.length ≤ 4194304 := by
  obtain ⟨J, left, pend, turn, _, h2⟩ := h
  exact h2.ends

theorem covC_snoc (P : List RP) (x : RP) (n : Nm) (i : Nat) : covC ((P ++ [x]).map RP.core) n i = (covC (P.map RP.core) n i || (x.name == n && decide (x.beg ≤ i) && decide (i < x.beg + x.b.length))) := by
  simp [covC, RP.core]
theorem covC_more {P : List RP} {n : Nm} {i k : Nat} (h : covC ((P.take k).map RP.core) n i = true) : covC (P.map RP.core) n i = true := by
  unfold covC at h ⊢
  rw [List.any_eq_true] at h ⊢
  obtain ⟨x, hx, h2⟩ := h
  obtain ⟨y, hy, rfl⟩ := List.mem_map.1 hx
  exact ⟨_, List.mem_map.2 ⟨y, List.mem_of_mem_take hy, rfl⟩, h2⟩
theorem penC_snoc (P : List RP) (x : RP) (n : Nm) : penC ((P ++ [x]).map RP.core) n = (penC (P.map RP.core) n || x.name == n) := by
  simp [penC, RP.core]
theorem penC_more {P : List RP} {n : Nm} {k : Nat} (h : penC ((P.take k).map RP.core) n = true) : penC (P.map RP.core) n = true := by
  unfold penC at h ⊢
  rw [List.any_eq_true] at h ⊢
  obtain ⟨x, hx, h2⟩ := h
  obtain ⟨y, hy, rfl⟩ := List.mem_map.1 hx
  exact ⟨_, List.mem_map.2 ⟨y, List.mem_of_mem_take hy, rfl⟩, h2⟩

set_option maxRecDepth 100000 in
set_option maxHeartbeats 2000000 in
theorem covered_any {W : World} {rb : Nat} {R : RS} (h : RRep W rb R) (hend : ∀ p ∈ R.core.P, p.beg + p.b.length ≤ 4194304) {s : ByteArray} {i : Nat} :
    Calls Tryz.prog 21 #[.pointer (some ⟨rb, 0, none⟩), .string s, .int .i64 (i : Int)] W fun e w' => e = .returned (.bool (covC R.core.P s.data.toList i)) ∧ Below W.heap.size W w' := by
  obtain ⟨c0, c1, c2, c3⟩ := h.rcells
  obtain ⟨p, cap, he, h1, h2⟩ := own_form h.prow
  rw [he] at c1
  have H := hide h
  have HE := hide he
  have HEN := hide hend
  clear h he c0 c2 c3 hend
  go_enter Tryz.func21, Tryz.ntmps21
  go_wp2_with fail
  go_loopw [14] (fun iv wr => ∃ (k : Nat), k ≤ R.P.length ∧ iv = .int .i64 (k : Int) ∧ Hid (covC ((R.P.take k).map RP.core) s.data.toList i = false) ∧ Hid (Below W.heap.size W wr)) (fun iv _ => R.P.length - (intOf iv).toNat)
  case atStart => exact ⟨0, Nat.zero_le _, rfl, hide (by simp [covC]), hide (Below.refl _ _)⟩
  case round =>
    obtain ⟨k, hk, rfl, HC, HB⟩ := hrel
    by_cases hlt : k < R.P.length
    · have hpr := ownsRow_later H.out.prow HB.out
      rw [HE.out] at hpr
      obtain ⟨g, rfl, d0, d1, d2⟩ := pend_cells hpr rfl hlt
      obtain ⟨x, hx⟩ : ∃ x, R.P[k]! = x := ⟨_, rfl⟩
      have hxm : x ∈ R.P := by rw [← hx, getElem!_pos R.P k hlt]; exact List.getElem_mem _
      have HT : Hid (R.P.take (k + 1) = R.P.take k ++ [x]) := by
        refine hide ?_
        rw [List.take_succ_eq_append_getElem hlt, ← hx, getElem!_pos R.P k hlt]
      rw [hx] at d0 d1 d2
      obtain ⟨px, cx, hxe, hx1, hx2, _, _⟩ := id (H.out.pb x hxm).1
      rw [hxe] at d2
      have hen : x.beg + x.b.length ≤ 4194304 := HEN.out x.core (List.mem_map.2 ⟨x, hxm, rfl⟩)
      unfold strV at d0
      obtain ⟨O1, hO1⟩ : ∃ O1 : Obj, O1 = .cells #[.string ⟨x.name.toArray⟩, .int .i64 x.beg, .slice px x.b.length cx] 98 (0, 0) := ⟨_, rfl⟩
      have YB : Hid (Below W.heap.size W (wr.alloc O1)) := hide (HB.out.trans ((alloc_below wr O1).mono HB.out.size))
      rw [hO1] at YB
      clear hpr hx hxm hxe hO1
      by_cases hq : x.name = s.data.toList
      · have he : (x.name == s.toList) = true := by rw [ByteArray.toList_eq, hq]; simp
        by_cases hb1 : x.beg ≤ i
        · have hb1' : decide ((i : Int) ≥ (x.beg : Int)) = true := decide_eq_true (by omega)
          by_cases hb2 : i < x.beg + x.b.length
          · have hb2' : decide ((i : Int) < (x.beg : Int) + (x.b.length : Int)) = true := decide_eq_true (by omega)
            have HR : Hid (covC R.core.P s.data.toList i = true) := by
              refine hide (covC_more (k := k + 1) ?_)
              rw [HT.out, covC_snoc]
              simp [hq, hb1, hb2]
            clear hq
            go_wp2
            go_ret
            exact ⟨by rw [HR.out]; rfl, YB.out⟩
          · have hb2' : decide ((i : Int) < (x.beg : Int) + (x.b.length : Int)) = false := decide_eq_false (by omega)
            have HR : Hid (covC ((R.P.take (k + 1)).map RP.core) s.data.toList i = false) := by
              refine hide ?_
              rw [HT.out, covC_snoc, HC.out]
              simp [hq, hb1, hb2]
            clear hq
            go_wp2
            exact ⟨⟨k + 1, by omega, by go_num, HR, YB⟩, by simp [intOf]; omega⟩
        · have hb1' : decide ((i : Int) ≥ (x.beg : Int)) = false := decide_eq_false (by omega)
          have HR : Hid (covC ((R.P.take (k + 1)).map RP.core) s.data.toList i = false) := by
            refine hide ?_
            rw [HT.out, covC_snoc, HC.out]
            simp [hq, hb1]
          clear hq
          go_wp2
          exact ⟨⟨k + 1, by omega, by go_num, HR, YB⟩, by simp [intOf]; omega⟩
      · have he : (x.name == s.toList) = false := by
          rw [ByteArray.toList_eq]
          simpa using hq
        have HR : Hid (covC ((R.P.take (k + 1)).map RP.core) s.data.toList i = false) := by
          refine hide ?_
          rw [HT.out, covC_snoc, HC.out]
          simp [hq]
        clear hq
        go_wp2
        exact ⟨⟨k + 1, by omega, by go_num, HR, YB⟩, by simp [intOf]; omega⟩
    · obtain rfl : k = R.P.length := by omega
      have HR : Hid (covC R.core.P s.data.toList i = false) := by
        have := HC.out
        rw [List.take_length] at this
        exact hide this
      go_wp2
      go_ret
      exact ⟨by rw [HR.out]; rfl, HB.out⟩

set_option maxRecDepth 100000 in
set_option maxHeartbeats 2000000 in
theorem lpending_any {W : World} {rb : Nat} {R : RS} (h : RRep W rb R) {s : ByteArray} :
    Calls Tryz.prog 22 #[.pointer (some ⟨rb, 0, none⟩), .string s] W fun e w' => e = .returned (.bool (penC R.core.P s.data.toList)) ∧ Below W.heap.size W w' := by
  obtain ⟨c0, c1, c2, c3⟩ := h.rcells
  obtain ⟨p, cap, he, h1, h2⟩ := own_form h.prow
  rw [he] at c1
  have H := hide h
  have HE := hide he
  clear h he c0 c2 c3
  go_enter Tryz.func22, Tryz.ntmps22
  go_wp2_with fail
  go_loopw [12] (fun iv wr => ∃ (k : Nat), k ≤ R.P.length ∧ iv = .int .i64 (k : Int) ∧ Hid (penC ((R.P.take k).map RP.core) s.data.toList = false) ∧ Hid (Below W.heap.size W wr)) (fun iv _ => R.P.length - (intOf iv).toNat)
  case atStart => exact ⟨0, Nat.zero_le _, rfl, hide (by simp [penC]), hide (Below.refl _ _)⟩
  case round =>
    obtain ⟨k, hk, rfl, HC, HB⟩ := hrel
    by_cases hlt : k < R.P.length
    · have hpr := ownsRow_later H.out.prow HB.out
      rw [HE.out] at hpr
      obtain ⟨g, rfl, d0, d1, d2⟩ := pend_cells hpr rfl hlt
      obtain ⟨x, hx⟩ : ∃ x, R.P[k]! = x := ⟨_, rfl⟩
      have hxm : x ∈ R.P := by rw [← hx, getElem!_pos R.P k hlt]; exact List.getElem_mem _
      have HT : Hid (R.P.take (k + 1) = R.P.take k ++ [x]) := by
        refine hide ?_
        rw [List.take_succ_eq_append_getElem hlt, ← hx, getElem!_pos R.P k hlt]
      rw [hx] at d0 d1 d2
      obtain ⟨px, cx, hxe, hx1, hx2, _, _⟩ := id (H.out.pb x hxm).1
      rw [hxe] at d2
      unfold strV at d0
      obtain ⟨O1, hO1⟩ : ∃ O1 : Obj, O1 = .cells #[.string ⟨x.name.toArray⟩, .int .i64 x.beg, .slice px x.b.length cx] 98 (0, 0) := ⟨_, rfl⟩
      have YB : Hid (Below W.heap.size W (wr.alloc O1)) := hide (HB.out.trans ((alloc_below wr O1).mono HB.out.size))
      rw [hO1] at YB
      clear hpr hx hxm hxe hO1
      by_cases hq : x.name = s.data.toList
      · have he : (x.name == s.toList) = true := by rw [ByteArray.toList_eq, hq]; simp
        have HR : Hid (penC R.core.P s.data.toList = true) := by
          refine hide (penC_more (k := k + 1) ?_)
          rw [HT.out, penC_snoc]
          simp [hq]
        clear hq
        go_wp2
        go_ret
        exact ⟨by rw [HR.out]; rfl, YB.out⟩
      · have he : (x.name == s.toList) = false := by
          rw [ByteArray.toList_eq]
          simpa using hq
        have HR : Hid (penC ((R.P.take (k + 1)).map RP.core) s.data.toList = false) := by
          refine hide ?_
          rw [HT.out, penC_snoc, HC.out]
          simpa using hq
        clear hq
        go_wp2
        exact ⟨⟨k + 1, by omega, by go_num, HR, YB⟩, by simp [intOf]; omega⟩
    · obtain rfl : k = R.P.length := by omega
      have HR : Hid (penC R.core.P s.data.toList = false) := by
        have := HC.out
        rw [List.take_length] at this
        exact hide this
      go_wp2
      go_ret
      exact ⟨by rw [HR.out]; rfl, HB.out⟩
end Go.Proofs.YtikpckmlnhcddaaGreat
