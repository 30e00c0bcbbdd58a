/-
  What the operators of a graph without a fault come to fits the program's results, plainly. Nothing is walked.
-/
import Derived.Test.YtbdiohbjkpeifaaRsr
import Derived.Laws.Closers25b
namespace Go.Proofs.Ytbdiohbjkpeifaa
open Go.RowKit Go.Shelf

theorem wrap_I6 (n : Int) : I6 (wrap64 n) := by unfold I6 wrap64; omega
theorem mapped_I6 {fn ar v : Int} (hv : I6 v) : I6 (Op.mappedC fn ar v) := by
  unfold Op.mappedC
  split
  · exact wrap_I6 _
  · split
    · exact wrap_I6 _
    · split
      · exact wrap_I6 _
      · split
        · exact bits_within .xor .i64 v ar
        · exact hv
theorem rest_I6 {x a : Int} (ha : I6 a) : I6 (Op.restC x a) := by
  by_cases h : 1 ≤ a
  · have := Op.restC_bd (x := x) h
    unfold I6 at ha ⊢
    omega
  · unfold Op.restC
    rw [if_pos (by omega)]
    exact ⟨by omega, by omega⟩
theorem value_I6 {kd fn ar k v : Int} (hk : I6 k) (hv : I6 v) (ha : I6 ar) : I6 (Op.valueC kd fn ar k v).1 ∧ I6 (Op.valueC kd fn ar k v).2 := by
  unfold Op.valueC
  split
  · exact ⟨hk, mapped_I6 hv⟩
  · split
    · refine ⟨?_, hv⟩
      show I6 (Op.keyedC fn ar k v)
      unfold Op.keyedC
      split
      · exact rest_I6 ha
      · split
        · exact rest_I6 ha
        · split
          · exact ha
          · exact hk
    · exact ⟨hk, hv⟩
theorem acc_I6 {fn cnt acc v : Int} (ha : I6 acc) (hv : I6 v) : I6 (Op.accC fn cnt acc v) := by
  unfold Op.accC
  split
  · split
    · exact ⟨by decide, by decide⟩
    · exact hv
  · split
    · exact wrap_I6 _
    · split
      · exact wrap_I6 _
      · unfold I6 at ha hv ⊢
        split
        · omega
        · split
          · omega
          · exact hv
theorem outs_fine (kd fn ar : Int) : ∀ (rs : List RC) (s : Op.ST), (∀ k, I6 (s k).2) → (∀ r ∈ rs, r.fine) → ∀ x ∈ Op.outsC kd fn ar s rs, (recP x).fine
  | [], _, _, _, x, h => by cases h
  | r :: rs, s, hs, hf, x, h => by
    have hr := hf r (by simp)
    have h' : x ∈ Op.outC kd fn ar s r ++ Op.outsC kd fn ar (Op.stepC kd fn ar s r) rs := h
    rw [List.mem_append] at h'
    rcases h' with h1 | h1
    · unfold Op.outC Op.tellC at h1
      split at h1
      · cases h1
      · simp only [List.mem_singleton] at h1
        rw [h1]
        exact ⟨hr.1, acc_I6 (hs _) hr.2⟩
    · refine outs_fine kd fn ar rs _ (fun k => ?_) (fun r hr => hf r (by simp [hr])) x h1
      unfold Op.stepC
      split
      · split
        · exact acc_I6 (hs k) hr.2
        · exact ⟨by decide, by decide⟩
      · exact hs k
theorem puts_fine {o : GO} (ha : I6 o.arg) {rs : List RC} (hf : ∀ r ∈ rs, r.fine) : ∀ x ∈ putsC o rs, (recP x).fine := by
  intro x hx
  unfold putsC at hx
  split at hx
  · exact outs_fine _ _ _ rs _ (fun k => ⟨by show _ ≤ (0 : Int); decide, by show (0 : Int) ≤ _; decide⟩) hf x hx
  · unfold passAll at hx
    rw [List.mem_flatMap] at hx
    obtain ⟨r, hr, hx⟩ := hx
    have hrf := hf r hr
    unfold Op.passC at hx
    split at hx
    · split at hx
      · simp only [List.mem_singleton] at hx
        rw [hx]
        exact value_I6 hrf.1 hrf.2 ha
      · cases hx
    · split at hx
      · simp only [List.mem_singleton] at hx
        rw [hx]
        exact hrf
      · cases hx
theorem taken_fine {ls : List (List RC)} (hn : 0 < ls.length) (hf : ∀ l ∈ ls, ∀ r ∈ l, r.fine) : ∀ r ∈ takenC ls 0 (turnN ls 0), r.fine := by
  intro r hr
  unfold takenC at hr
  rw [List.mem_map] at hr
  obtain ⟨j, hj, rfl⟩ := hr
  have h1 := (turn_stop (ls := ls) (t := 0) hn).long j (by simpa using hj)
  unfold LongC lenAt at h1
  have hw := who_lt (n := ls.length) (t := 0) (N := j) hn
  unfold recAt
  refine hf (ls[whoC ls.length 0 j]!) (by rw [getElem!_pos ls _ hw]; exact List.getElem_mem _) _ ?_
  rw [getElem!_pos (ls[whoC ls.length 0 j]!) (j / ls.length) h1]
  exact List.getElem_mem _
theorem rf_fine {o : GO} (ha : I6 o.arg) {ins : List (List RC)} (hn : 0 < ins.length) (hf : ∀ l ∈ ins, ∀ r ∈ l, r.fine) : ∀ l ∈ (rfC o ins).ports, ∀ r ∈ l, r.fine := by
  unfold rfC
  by_cases h8 : o.kind = 8
  · rw [if_pos h8]
    intro l hl r hr
    have hl' : l ∈ [takenC ins 0 (turnN ins 0)] := hl
    simp only [List.mem_singleton] at hl'
    subst hl'
    exact taken_fine hn hf r hr
  · rw [if_neg h8]
    by_cases h9 : o.kind = 9
    · rw [if_pos h9]
      intro l hl
      cases hl
    · rw [if_neg h9]
      intro l hl r hr
      have hl' : l ∈ byC (portsC o.kind o.arg).toNat (putsC o (ins[0]!)) := hl
      unfold byC onlyP at hl'
      rw [List.mem_map] at hl'
      obtain ⟨p, _, rfl⟩ := hl'
      rw [List.mem_map] at hr
      obtain ⟨x, hx, rfl⟩ := hr
      refine puts_fine ha (rs := ins[0]!) (fun r hr => hf (ins[0]!) ?_ r hr) x (List.mem_filter.1 hx).1
      rw [getElem!_pos ins 0 hn]
      exact List.getElem_mem _
theorem get_fine {ls : List (List RC)} (hf : ∀ l ∈ ls, ∀ r ∈ l, r.fine) (i : Nat) : ∀ r ∈ ls[i]!, r.fine := by
  intro r hr
  by_cases hi : i < ls.length
  · rw [getElem!_pos ls i hi] at hr
    exact hf _ (List.getElem_mem _) r hr
  · rw [getElem!_neg ls i hi] at hr
    cases hr
theorem dn_fine {parts : Int} {os : List GO} {ls : List (List RC)} (g : Good parts os) (ho : ∀ o ∈ os, o.fine) (hf : ∀ l ∈ ls, ∀ r ∈ l, r.fine) : ∀ k, k < os.length → ∀ l ∈ ((dnC ls os)[k]!).ports, ∀ r ∈ l, r.fine := by
  intro k
  induction k using Nat.strongRecOn with
  | ind k ih =>
    intro hk
    rw [dn_res g hk]
    unfold resC
    by_cases h1 : (os[k]!).kind = 1
    · rw [if_pos h1]
      intro l hl r hr
      have hl' : l ∈ [ls[(os[k]!).part.toNat]!] := hl
      simp only [List.mem_singleton] at hl'
      rw [hl'] at hr
      exact get_fine hf _ r hr
    · rw [if_neg h1]
      refine rf_fine (ho _ (by rw [getElem!_pos os k hk]; exact List.getElem_mem _)).2.2.2.1 (by rw [List.length_map]; exact (g.ins hk h1).1) ?_
      intro l hl r hr
      rw [List.mem_map] at hl
      obtain ⟨e, he, rfl⟩ := hl
      have := g.edge hk he
      exact get_fine (ih _ (by omega) (by omega)) _ r hr
theorem Good.route {parts : Int} {os : List GO} (g : Good parts os) {k : Nat} (hk : k < os.length) (h7 : (os[k]!).kind = 7) : 2 ≤ (os[k]!).arg ∧ (os[k]!).arg ≤ 4 := by
  have hf := (one_zero (scan_good g.scan hk).2).2.2.2.1
  unfold fieldsC at hf
  rw [if_neg (by omega)] at hf
  unfold fitC at hf
  rw [if_neg (by omega), if_neg (by omega), if_neg (by omega), if_neg (by omega), if_pos h7] at hf
  rw [Bool.and_eq_true, decide_eq_true_eq] at hf
  exact hf.2.2
theorem res_all {parts : Int} {os : List GO} (g : Good parts os) (ho : ∀ o ∈ os, o.fine) {k : Nat} (hk : k < os.length) (h1 : (os[k]!).kind ≠ 1) : ResAt os[k]! (rfC os[k]!) := by
  have hi := (g.ins hk h1).1
  have hkd := g.kind hk
  by_cases h8 : (os[k]!).kind = 8
  · have e : rfC os[k]! = unionC := funext fun ins => by unfold rfC; rw [if_pos h8]
    rw [e]
    exact union_any h8 hi
  · by_cases h9 : (os[k]!).kind = 9
    · have e : rfC os[k]! = sinkC := funext fun ins => by unfold rfC; rw [if_neg h8, if_pos h9]
      rw [e]
      exact sinkR_any h9 hi
    · have e : rfC os[k]! = soloC os[k]! := funext fun ins => by unfold rfC; rw [if_neg h8, if_neg h9]
      rw [e]
      exact soloR_any (by omega) (by omega) (g.route hk) (ho _ (by rw [getElem!_pos os k hk]; exact List.getElem_mem _)).2.2.2.1 hi
theorem fits_dn {parts : Int} {os : List GO} {ls : List (List RC)} (g : Good parts os) (hl : (ls.length : Int) = parts) (ho : ∀ o ∈ os, o.fine) (hf : ∀ l ∈ ls, ∀ r ∈ l, r.fine) (hT : (ls.map List.length).sum ≤ 1048576) {m : Nat} (hm : m ≤ os.length) : Fits rfC (os.take m) ls (dnC ls (os.take m)) := by
  have hlen : (os.take m).length = m := by rw [List.length_take]; omega
  have hget : ∀ k, k < m → (dnC ls (os.take m))[k]! = (dnC ls os)[k]! := fun k hk => dn_take_get hk hm
  have hog : ∀ k, k < m → (os.take m)[k]! = os[k]! := fun k hk => take_get hm hk
  refine ⟨dn_len _ _, fun k hk => ?_, fun k hk h1 => ?_, fun k hk h1 => ?_, ?_, fun k hk h1 => ?_, fun k hk l hl2 => ?_, by rw [hlen]; exact Nat.le_trans hm g.len⟩
  · rw [hlen] at hk
    rw [hget k hk, hog k hk, dn_res g (by omega)]
    exact res_same (fun e he => by have := g.edge (by omega) he; exact (hget _ (by omega)).symm)
  · rw [hlen] at hk
    rw [hog k hk] at h1 ⊢
    have := g.part (by omega) h1
    exact ⟨this.1, by omega, this.2.2⟩
  · rw [hlen] at hk
    rw [hog k hk] at h1 ⊢
    refine ⟨(g.ins (by omega) h1).2, fun e he => ?_⟩
    obtain ⟨e1, e2, e3, e4⟩ := g.edge (by omega) he
    obtain ⟨f, p⟩ := e
    simp only at e1 e2 e3 e4
    refine ⟨f.toNat, p.toNat, ?_, by omega, ?_⟩
    · rw [Int.toNat_of_nonneg e1, Int.toNat_of_nonneg e3]
    · rw [hget _ (by omega), dn_ports (by omega)]
      omega
  · have hnd := flat_nodup g.scan
    have e0 : flatC os = flatC (os.take m) ++ flatC (os.drop m) := by
      conv => lhs; rw [← List.take_append_drop m os]
      unfold flatC
      rw [List.flatMap_append]
    rw [e0, List.nodup_append] at hnd
    exact hnd.1
  · rw [hlen] at hk
    rw [hog k hk] at h1 ⊢
    exact res_all g ho (by omega) h1
  · rw [hlen] at hk
    rw [hget k hk] at hl2
    refine ⟨?_, dn_fine g ho hf k (by omega) l hl2⟩
    have := port_le g hl (by omega) l hl2
    unfold lenB
    omega
end Go.Proofs.Ytbdiohbjkpeifaa
