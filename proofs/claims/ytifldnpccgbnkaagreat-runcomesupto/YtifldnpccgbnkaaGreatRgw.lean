/-
  What a graph comes to, plainly: with more records what comes out begins with what it was; no port has more than all prefixes together. Nothing is walked.
-/
import Derived.Test.YtifldnpccgbnkaaGreatRgd
import Derived.Test.YtifldnpccgbnkaaGreatOfo
import Derived.Test.YtifldnpccgbnkaaGreatRin
import Derived.Test.YtifldnpccgbnkaaGreatRbp
namespace Go.Proofs.YtifldnpccgbnkaaGreat
open Go.RowKit

def putsC (o : GO) (rs : List RC) : List Op.PU :=
  if Op.keepsC o.kind = true then Op.outsC o.kind o.fn o.arg Op.ST.none rs else passAll o.kind o.fn o.arg rs
def keysO (o : GO) (rs : List RC) : List Value :=
  if Op.keepsC o.kind = true then (Op.finC (Op.stateC o.kind o.fn o.arg Op.ST.none rs) (Op.keysC (rs.map RC.key))).flatMap Op.KS.cells else []
def byC (n : Nat) (l : List Op.PU) : List (List RC) := (List.range n).map (fun p => onlyP p l)
def soloC (o : GO) (ins : List (List RC)) : RS := ⟨byC (portsC o.kind o.arg).toNat (putsC o (ins[0]!)), keysO o (ins[0]!), 0, []⟩
def rfC (o : GO) (ins : List (List RC)) : RS := if o.kind = 8 then unionC ins else if o.kind = 9 then sinkC ins else soloC o ins
theorem by_len (n : Nat) (l : List Op.PU) : (byC n l).length = n := by unfold byC; simp
theorem by_get {n p : Nat} (l : List Op.PU) (hp : p < n) : (byC n l)[p]! = onlyP p l := by
  rw [getElem!_pos _ p (by rw [by_len]; exact hp)]
  unfold byC
  simp
theorem rf_ports (o : GO) (ins : List (List RC)) : (rfC o ins).ports.length = (portsC o.kind o.arg).toNat := by
  unfold rfC
  by_cases h8 : o.kind = 8
  · rw [if_pos h8, h8]; rfl
  · rw [if_neg h8]
    by_cases h9 : o.kind = 9
    · rw [if_pos h9, h9]; rfl
    · rw [if_neg h9]
      exact by_len _ _
def dnC (ls : List (List RC)) (os : List GO) : List RS := os.foldl (fun dn o => dn ++ [resC rfC ls dn o]) []
theorem fold_app (ls : List (List RC)) : ∀ (b : List GO) (dn : List RS), ∃ t, b.foldl (fun dn o => dn ++ [resC rfC ls dn o]) dn = dn ++ t ∧ t.length = b.length
  | [], dn => ⟨[], by simp, rfl⟩
  | o :: b, dn => by
    obtain ⟨t, h1, h2⟩ := fold_app ls b (dn ++ [resC rfC ls dn o])
    exact ⟨resC rfC ls dn o :: t, by rw [List.foldl_cons, h1, List.append_assoc]; rfl, by simp [h2]⟩
theorem dn_app (ls : List (List RC)) (a b : List GO) : ∃ t, dnC ls (a ++ b) = dnC ls a ++ t := by
  obtain ⟨t, h, _⟩ := fold_app ls b (dnC ls a)
  exact ⟨t, by unfold dnC at h ⊢; rw [List.foldl_append]; exact h⟩
theorem dn_len (ls : List (List RC)) (os : List GO) : (dnC ls os).length = os.length := by
  obtain ⟨t, h1, h2⟩ := fold_app ls os []
  unfold dnC
  rw [h1]
  simpa using h2
theorem dn_get {ls : List (List RC)} {os : List GO} {k : Nat} (hk : k < os.length) : (dnC ls os)[k]! = resC rfC ls (dnC ls (os.take k)) os[k]! := by
  have e : os = (os.take k ++ [os[k]]) ++ os.drop (k + 1) := by rw [List.append_assoc, List.singleton_append, List.getElem_cons_drop, List.take_append_drop]
  obtain ⟨t, h⟩ := dn_app ls (os.take k ++ [os[k]]) (os.drop (k + 1))
  rw [← e] at h
  have h2 : dnC ls (os.take k ++ [os[k]]) = dnC ls (os.take k) ++ [resC rfC ls (dnC ls (os.take k)) os[k]] := by unfold dnC; rw [List.foldl_append]; rfl
  have hl : (dnC ls (os.take k)).length = k := by rw [dn_len, List.length_take]; omega
  rw [h, h2, getElem!_pos _ k (by simp [hl]), List.getElem_append_left (by simp [hl]), List.getElem_append_right (by omega)]
  simp [hl, getElem!_pos os k hk]
theorem dn_take_get {ls : List (List RC)} {os : List GO} {j k : Nat} (hj : j < k) (hk : k ≤ os.length) : (dnC ls (os.take k))[j]! = (dnC ls os)[j]! := by
  obtain ⟨t, h⟩ := dn_app ls (os.take k) (os.drop k)
  rw [List.take_append_drop] at h
  have hl : (dnC ls (os.take k)).length = k := by rw [dn_len, List.length_take]; omega
  rw [h, getElem!_pos _ j (by omega), getElem!_pos _ j (by rw [List.length_append]; omega), List.getElem_append_left]
theorem res_same {ls : List (List RC)} {dn dn' : List RS} {o : GO} (h : ∀ e ∈ o.ins, dn[e.f.toNat]! = dn'[e.f.toNat]!) : resC rfC ls dn o = resC rfC ls dn' o := by
  unfold resC
  split
  · rfl
  · congr 1
    exact List.map_congr_left (fun e he => by rw [h e he])
theorem dn_res {parts : Int} {ls : List (List RC)} {os : List GO} (g : Good parts os) {k : Nat} (hk : k < os.length) : (dnC ls os)[k]! = resC rfC ls (dnC ls os) os[k]! := by
  rw [dn_get hk]
  exact res_same (fun e he => dn_take_get (by have := g.edge hk he; omega) (by omega))
theorem dn_ports {ls : List (List RC)} {os : List GO} {k : Nat} (hk : k < os.length) : ((dnC ls os)[k]!).ports.length = (portsO os k).toNat := by
  rw [dn_get hk]
  unfold resC portsO
  by_cases h1 : (os[k]!).kind = 1
  · rw [if_pos h1, h1]; rfl
  · rw [if_neg h1]
    exact rf_ports _ _

/-- Each list begins with the other's. -/
def Grow (a b : List (List RC)) : Prop := a.length = b.length ∧ ∀ i : Nat, a[i]! <+: b[i]!
theorem grow_of {a b : List (List RC)} (h : a.length = b.length) (h2 : ∀ i, i < a.length → a[i]! <+: b[i]!) : Grow a b :=
  ⟨h, fun i => by
    by_cases hi : i < a.length
    · exact h2 i hi
    · rw [getElem!_neg a i hi, getElem!_neg b i (by omega)]
      exact List.prefix_refl _⟩
theorem outs_app (kd fn ar : Int) : ∀ (a : List RC) (s : Op.ST) (b : List RC), Op.outsC kd fn ar s (a ++ b) = Op.outsC kd fn ar s a ++ Op.outsC kd fn ar (Op.stateC kd fn ar s a) b
  | [], s, b => rfl
  | r :: a, s, b => by
    show Op.outC kd fn ar s r ++ Op.outsC kd fn ar (Op.stepC kd fn ar s r) (a ++ b) = (Op.outC kd fn ar s r ++ Op.outsC kd fn ar (Op.stepC kd fn ar s r) a) ++ _
    rw [outs_app kd fn ar a _ b, List.append_assoc]
    rfl
theorem puts_pre (o : GO) {a b : List RC} (h : a <+: b) : putsC o a <+: putsC o b := by
  obtain ⟨t, rfl⟩ := h
  unfold putsC
  split
  · rw [outs_app]; exact List.prefix_append _ _
  · unfold passAll; rw [List.flatMap_append]; exact List.prefix_append _ _
theorem by_grow {n : Nat} {l m : List Op.PU} (h : l <+: m) : Grow (byC n l) (byC n m) := by
  obtain ⟨t, rfl⟩ := h
  refine grow_of (by rw [by_len, by_len]) (fun i hi => ?_)
  rw [by_len] at hi
  rw [by_get _ hi, by_get _ hi]
  unfold onlyP
  rw [List.filter_append, List.map_append]
  exact List.prefix_append _ _
theorem pre_get {a b : List RC} (h : a <+: b) {q : Nat} (hq : q < a.length) : a[q]! = b[q]! := by
  obtain ⟨t, rfl⟩ := h
  rw [getElem!_pos a q hq, getElem!_pos _ q (by rw [List.length_append]; omega), List.getElem_append_left]
theorem long_more {ls ls' : List (List RC)} (h : Grow ls ls') {j : Nat} (hj : LongC ls 0 j) : LongC ls' 0 j := by
  unfold LongC lenAt at hj ⊢
  rw [← h.1]
  exact Nat.lt_of_lt_of_le hj (h.2 _).length_le
theorem taken_more (ls : List (List RC)) (N : Nat) : ∀ d, takenC ls 0 N <+: takenC ls 0 (N + d)
  | 0 => List.prefix_refl _
  | d + 1 => by
    rw [← Nat.add_assoc, taken_next]
    exact (taken_more ls N d).trans (List.prefix_append _ _)
theorem union_pre {ls ls' : List (List RC)} (h : Grow ls ls') (hn : 0 < ls.length) : takenC ls 0 (turnN ls 0) <+: takenC ls' 0 (turnN ls' 0) := by
  have s1 := turn_stop (ls := ls) (t := 0) hn
  have s2 := turn_stop (ls := ls') (t := 0) (by rw [← h.1]; exact hn)
  obtain ⟨N, hN⟩ : ∃ N, turnN ls 0 = N := ⟨_, rfl⟩
  obtain ⟨M, hM⟩ : ∃ M, turnN ls' 0 = M := ⟨_, rfl⟩
  rw [hN] at s1 ⊢
  rw [hM] at s2 ⊢
  have hle : N ≤ M := by
    apply Classical.byContradiction
    intro hc
    exact s2.ends (long_more h (s1.long M (by omega)))
  obtain ⟨d, rfl⟩ : ∃ d, M = N + d := ⟨M - N, by omega⟩
  have e : takenC ls 0 N = takenC ls' 0 N := by
    unfold takenC
    refine List.map_congr_left (fun j hj => ?_)
    have hj2 := s1.long j (by simpa using hj)
    unfold LongC lenAt at hj2
    unfold recAt
    rw [← h.1]
    exact pre_get (h.2 _) hj2
  rw [e]
  exact taken_more ls' N d
theorem grow_one {a b : List RC} (h : a <+: b) : Grow [a] [b] := grow_of rfl (fun i hi => by
  have : i = 0 := by simpa using hi
  subst this
  exact h)
theorem rf_grow (o : GO) {ins ins' : List (List RC)} (h : Grow ins ins') (hn : 0 < ins.length) : Grow (rfC o ins).ports (rfC o ins').ports := by
  unfold rfC
  by_cases h8 : o.kind = 8
  · rw [if_pos h8, if_pos h8]
    exact grow_one (union_pre h hn)
  · rw [if_neg h8, if_neg h8]
    by_cases h9 : o.kind = 9
    · rw [if_pos h9, if_pos h9]
      exact grow_of rfl (fun i hi => by cases hi)
    · rw [if_neg h9, if_neg h9]
      exact by_grow (puts_pre o (h.2 0))
theorem Good.ins {parts : Int} {os : List GO} (g : Good parts os) {k : Nat} (hk : k < os.length) (h1 : (os[k]!).kind ≠ 1) : 0 < (os[k]!).ins.length ∧ (os[k]!).ins.length ≤ 4 := by
  have := g.few hk
  unfold leastC mostC at this
  rw [if_neg h1, if_neg h1] at this
  split at this <;> omega
theorem dn_grow {parts : Int} {os : List GO} {ls ls' : List (List RC)} (g : Good parts os) (h : Grow ls ls') : ∀ k, k < os.length → Grow ((dnC ls os)[k]!).ports ((dnC ls' os)[k]!).ports := by
  intro k
  induction k using Nat.strongRecOn with
  | ind k ih =>
    intro hk
    rw [dn_res g hk, dn_res g hk]
    unfold resC
    by_cases h1 : (os[k]!).kind = 1
    · rw [if_pos h1, if_pos h1]
      exact grow_one (h.2 _)
    · rw [if_neg h1, if_neg h1]
      refine rf_grow _ (grow_of (by simp) (fun i hi => ?_)) (by rw [List.length_map]; exact (g.ins hk h1).1)
      rw [List.length_map] at hi
      rw [getElem!_pos _ i (by simpa using hi), getElem!_pos _ i (by simpa using hi), List.getElem_map, List.getElem_map]
      have he := g.edge hk (List.getElem_mem hi)
      exact (ih _ (by omega) (by omega)).2 _

/-- How many records come out of a port. -/
def wtE (dn : List RS) (e : GE) : Nat := ((dn[e.f.toNat]!).ports[e.p.toNat]!).length
theorem sum_nodup (g : Nat → Nat) : ∀ (n : Nat) (S : List Nat), S.Nodup → (∀ x ∈ S, x < n) → (S.map g).sum ≤ ((List.range n).map g).sum
  | 0, S, _, h => by
    cases S with
    | nil => simp
    | cons x xs => have := h x (by simp); omega
  | n + 1, S, hn, h => by
    rw [List.range_succ, List.map_append, List.sum_append]
    by_cases hm : n ∈ S
    · have hp := List.perm_cons_erase hm
      have h1 := (hp.map g).sum_nat
      have h2 := sum_nodup g n (S.erase n) (hn.erase n) (fun x hx => by
        have hx1 := (hn.mem_erase_iff).1 hx
        have := h x hx1.2
        omega)
      rw [h1]
      simp only [List.map_cons, List.sum_cons, List.map_nil, List.sum_nil]
      omega
    · have := sum_nodup g n S hn (fun x hx => by
        have := h x hx
        have h3 : x ≠ n := fun e => hm (e ▸ hx)
        omega)
      omega
theorem sum_filter {α : Type} (g : α → Nat) (q : α → Bool) : ∀ l : List α, (l.map g).sum = ((l.filter q).map g).sum + ((l.filter (fun x => !q x)).map g).sum
  | [] => rfl
  | x :: l => by
    have ih := sum_filter g q l
    cases hq : q x with
    | true => rw [List.filter_cons_of_pos hq, List.filter_cons_of_neg (by simp [hq])]; simp only [List.map_cons, List.sum_cons]; omega
    | false => rw [List.filter_cons_of_neg (by simp [hq]), List.filter_cons_of_pos (by simp [hq])]; simp only [List.map_cons, List.sum_cons]; omega
theorem filter_port (l : List Op.PU) (n : Nat) : (l.filter (fun x => decide (0 ≤ x.port ∧ x.port < ((n + 1 : Nat) : Int)))).length = (l.filter (fun x => decide (0 ≤ x.port ∧ x.port < (n : Int)))).length + (l.filter (fun x => decide (x.port = (n : Int)))).length := by
  induction l with
  | nil => rfl
  | cons x l ih =>
    simp only [List.filter_cons]
    by_cases h1 : 0 ≤ x.port ∧ x.port < (n : Int)
    · have h2 : 0 ≤ x.port ∧ x.port < ((n + 1 : Nat) : Int) := by omega
      have h3 : ¬ x.port = (n : Int) := by omega
      rw [if_pos (decide_eq_true h2), if_pos (decide_eq_true h1), if_neg (by rw [decide_eq_true_eq]; exact h3), List.length_cons, List.length_cons]
      omega
    · by_cases h3 : x.port = (n : Int)
      · have h2 : 0 ≤ x.port ∧ x.port < ((n + 1 : Nat) : Int) := by omega
        rw [if_pos (decide_eq_true h2), if_neg (by rw [decide_eq_true_eq]; exact h1), if_pos (decide_eq_true h3), List.length_cons, List.length_cons]
        omega
      · have h2 : ¬ (0 ≤ x.port ∧ x.port < ((n + 1 : Nat) : Int)) := by omega
        rw [if_neg (by rw [decide_eq_true_eq]; exact h2), if_neg (by rw [decide_eq_true_eq]; exact h1), if_neg (by rw [decide_eq_true_eq]; exact h3)]
        exact ih
theorem by_sum (l : List Op.PU) : ∀ n, ((byC n l).map List.length).sum = (l.filter (fun x => decide (0 ≤ x.port ∧ x.port < (n : Int)))).length
  | 0 => by
    rw [List.filter_eq_nil_iff.2 (fun x _ => by rw [decide_eq_true_eq]; omega)]
    rfl
  | n + 1 => by
    have ih := by_sum l n
    rw [filter_port, ← ih]
    unfold byC
    rw [List.range_succ, List.map_append, List.map_append, List.sum_append]
    simp [onlyP]
theorem puts_len (o : GO) (rs : List RC) : (putsC o rs).length ≤ rs.length := by
  unfold putsC
  split
  · exact Op.outsC_len _ _ _ _ _
  · exact passAll_len _ _ _ rs
theorem sum_if (w : Nat) : ∀ n, ((List.range n).map (fun i => if i = w then 1 else 0)).sum = if w < n then 1 else 0
  | 0 => by simp
  | n + 1 => by
    rw [List.range_succ, List.map_append, List.sum_append, sum_if w n]
    simp only [List.map_cons, List.map_nil, List.sum_cons, List.sum_nil]
    by_cases h : w < n
    · rw [if_pos h, if_neg (by omega), if_pos (by omega)]; rfl
    · rw [if_neg h]
      by_cases h2 : n = w
      · rw [if_pos h2, if_pos (by omega)]; rfl
      · rw [if_neg h2, if_neg (by omega)]; rfl
theorem sum_add (f g : Nat → Nat) : ∀ l : List Nat, (l.map (fun i => f i + g i)).sum = (l.map f).sum + (l.map g).sum
  | [] => rfl
  | x :: l => by simp only [List.map_cons, List.sum_cons, sum_add f g l]; omega
theorem count_sum {n : Nat} (hn : 0 < n) : ∀ N, ((List.range n).map (countC n 0 N)).sum = N
  | 0 => by
    have : (List.range n).map (countC n 0 0) = (List.range n).map (fun _ => 0) := List.map_congr_left (fun i _ => count_zero)
    rw [this]
    clear this
    induction n with
    | zero => rfl
    | succ n ih =>
      rw [List.range_succ, List.map_append, List.sum_append]
      by_cases h : 0 < n
      · rw [ih h]; rfl
      · obtain rfl : n = 0 := by omega
        rfl
  | N + 1 => by
    have e : (List.range n).map (countC n 0 (N + 1)) = (List.range n).map (fun i => countC n 0 N i + if i = whoC n 0 N then 1 else 0) := List.map_congr_left (fun i hi => count_next hn (by simpa using hi))
    rw [e, sum_add, count_sum hn N, sum_if, if_pos (who_lt hn)]
theorem sum_le (f g : Nat → Nat) : ∀ l : List Nat, (∀ x ∈ l, f x ≤ g x) → (l.map f).sum ≤ (l.map g).sum
  | [], _ => Nat.le_refl _
  | x :: l, h => by
    have := sum_le f g l (fun y hy => h y (by simp [hy]))
    have := h x (by simp)
    simp only [List.map_cons, List.sum_cons]
    omega
theorem map_range (l : List (List RC)) : l.map List.length = (List.range l.length).map (fun i => (l[i]!).length) := by
  apply List.ext_getElem
  · simp
  · intro i h1 h2
    rw [List.getElem_map, List.getElem_map, List.getElem_range, getElem!_pos l i (by simpa using h1)]
theorem union_sum {ls : List (List RC)} (hn : 0 < ls.length) : turnN ls 0 ≤ (ls.map List.length).sum := by
  have s1 := turn_stop (ls := ls) (t := 0) hn
  rw [map_range]
  conv => lhs; rw [← count_sum hn (turnN ls 0)]
  exact sum_le _ _ _ (fun i hi => count_len (N := 0) hn (by simpa using hi) _ s1.long)
theorem len_sum {ins : List (List RC)} (hn : 0 < ins.length) : (ins[0]!).length ≤ (ins.map List.length).sum := by
  cases ins with
  | nil => cases hn
  | cons x xs => simp
theorem rf_sum (o : GO) {ins : List (List RC)} (hn : 0 < ins.length) : ((rfC o ins).ports.map List.length).sum ≤ (ins.map List.length).sum := by
  unfold rfC
  by_cases h8 : o.kind = 8
  · rw [if_pos h8]
    show ((takenC ins 0 (turnN ins 0)).length + 0) ≤ _
    rw [taken_len]
    exact union_sum hn
  · rw [if_neg h8]
    by_cases h9 : o.kind = 9
    · rw [if_pos h9]
      exact Nat.zero_le _
    · rw [if_neg h9]
      show ((byC _ (putsC o (ins[0]!))).map List.length).sum ≤ _
      rw [by_sum]
      exact Nat.le_trans (List.length_filter_le _ _) (Nat.le_trans (puts_len _ _) (len_sum hn))
def srcSum (ls : List (List RC)) (os : List GO) : Nat := ((os.filter (fun o => o.kind == 1)).map (fun o => (ls[o.part.toNat]!).length)).sum
theorem flow_sum {parts : Int} {os : List GO} {ls : List (List RC)} (g : Good parts os) : ∀ k, k ≤ os.length → ∀ S : List GE, S.Nodup → (∀ e ∈ S, 0 ≤ e.f ∧ e.f < (k : Int) ∧ 0 ≤ e.p ∧ e.p < portsO os e.f.toNat) → (∀ e ∈ S, e ∉ flatC (os.take k)) → (S.map (wtE (dnC ls os))).sum ≤ srcSum ls (os.take k)
  | 0, _, S, _, h, _ => by
    cases S with
    | nil => simp
    | cons x xs => have := h x (by simp); omega
  | k + 1, hk, S, hn, h, hf => by
    have hk1 : k < os.length := by omega
    have et : os.take (k + 1) = os.take k ++ [os[k]!] := by rw [List.take_succ_eq_append_getElem hk1, getElem!_pos os k hk1]
    have ef : flatC (os.take (k + 1)) = flatC (os.take k) ++ (os[k]!).ins := by
      rw [et]
      unfold flatC
      rw [List.flatMap_append]
      simp
    have hnd := flat_nodup g.scan
    have e0 : flatC os = flatC (os.take (k + 1)) ++ flatC (os.drop (k + 1)) := by
      conv => lhs; rw [← List.take_append_drop (k + 1) os]
      unfold flatC
      rw [List.flatMap_append]
    rw [e0, List.nodup_append] at hnd
    have hnd1 := hnd.1
    rw [ef, List.nodup_append] at hnd1
    rw [ef] at hf
    have ih := flow_sum (ls := ls) g k (by omega) (S.filter (fun e => !decide (e.f = (k : Int))) ++ (os[k]!).ins) (by
      rw [List.nodup_append]
      refine ⟨hn.filter _, hnd1.2.1, fun a ha b hb e => ?_⟩
      subst e
      exact hf a (List.mem_filter.1 ha).1 (List.mem_append_right _ hb)) (by
      intro e he
      rw [List.mem_append] at he
      rcases he with he | he
      · obtain ⟨h1, h2⟩ := List.mem_filter.1 he
        have h3 := h e h1
        have h4 : ¬ e.f = (k : Int) := by simpa using h2
        exact ⟨h3.1, by omega, h3.2.2⟩
      · exact g.edge hk1 he) (by
      intro e he hm
      rw [List.mem_append] at he
      rcases he with he | he
      · exact hf e (List.mem_filter.1 he).1 (List.mem_append_left _ hm)
      · exact hnd1.2.2 e hm e he rfl)
    rw [List.map_append, List.sum_append] at ih
    rw [sum_filter (wtE (dnC ls os)) (fun e => decide (e.f = (k : Int))) S]
    have hnew : ((S.filter (fun e => decide (e.f = (k : Int)))).map (wtE (dnC ls os))).sum ≤ (((dnC ls os)[k]!).ports.map List.length).sum := by
      have e1 : (S.filter (fun e => decide (e.f = (k : Int)))).map (wtE (dnC ls os)) = ((S.filter (fun e => decide (e.f = (k : Int)))).map (fun e => e.p.toNat)).map (fun p => (((dnC ls os)[k]!).ports[p]!).length) := by
        rw [List.map_map]
        refine List.map_congr_left (fun e he => ?_)
        have h2 : e.f = (k : Int) := by simpa using (List.mem_filter.1 he).2
        show wtE _ e = _
        unfold wtE
        rw [h2, Int.toNat_natCast]
        rfl
      rw [e1, map_range]
      refine sum_nodup _ _ _ ?_ ?_
      · unfold List.Nodup
        rw [List.pairwise_map]
        refine List.Pairwise.imp_of_mem ?_ (hn.filter _)
        intro a b ha hb hne heq
        obtain ⟨a1, a2⟩ := List.mem_filter.1 ha
        obtain ⟨b1, b2⟩ := List.mem_filter.1 hb
        have a3 := h a a1
        have b3 := h b b1
        have a4 : a.f = (k : Int) := by simpa using a2
        have b4 : b.f = (k : Int) := by simpa using b2
        apply hne
        obtain ⟨af, ap⟩ := a
        obtain ⟨bf, bp⟩ := b
        simp only at a3 b3 a4 b4 heq
        simp only [GE.mk.injEq]
        omega
      · intro p hp
        rw [List.mem_map] at hp
        obtain ⟨e, he, rfl⟩ := hp
        obtain ⟨a1, a2⟩ := List.mem_filter.1 he
        have a3 := h e a1
        have a4 : e.f = (k : Int) := by simpa using a2
        rw [a4, Int.toNat_natCast] at a3
        rw [dn_ports hk1]
        omega
    have hres := dn_res (ls := ls) g hk1
    have hsum : (((dnC ls os)[k]!).ports.map List.length).sum + srcSum ls (os.take k) ≤ ((os[k]!).ins.map (wtE (dnC ls os))).sum + srcSum ls (os.take (k + 1)) := by
      rw [hres]
      unfold resC srcSum
      rw [et, List.filter_append, List.map_append, List.sum_append]
      by_cases h1 : (os[k]!).kind = 1
      · rw [if_pos h1, List.filter_cons_of_pos (by rw [h1]; rfl)]
        simp only [List.map_cons, List.map_nil, List.sum_cons, List.sum_nil, List.filter_nil]
        omega
      · rw [if_neg h1, List.filter_cons_of_neg (p := fun o : GO => o.kind == 1) (fun e => h1 (eq_of_beq e))]
        have h3 := rf_sum (os[k]!) (ins := (os[k]!).ins.map fun e => ((dnC ls os)[e.f.toNat]!).ports[e.p.toNat]!) (by rw [List.length_map]; exact (g.ins hk1 h1).1)
        rw [List.map_map] at h3
        have e2 : (os[k]!).ins.map (List.length ∘ fun e => ((dnC ls os)[e.f.toNat]!).ports[e.p.toNat]!) = (os[k]!).ins.map (wtE (dnC ls os)) := rfl
        rw [e2] at h3
        simp only [List.filter_nil, List.map_nil, List.sum_nil]
        omega
    omega
theorem src_le {parts : Int} {os : List GO} {ls : List (List RC)} (g : Good parts os) (hl : (ls.length : Int) = parts) (k : Nat) : srcSum ls (os.take k) ≤ (ls.map List.length).sum := by
  unfold srcSum
  rw [map_range]
  have e : ((os.take k).filter (fun o => o.kind == 1)).map (fun o => (ls[o.part.toNat]!).length) = (((os.take k).filter (fun o => o.kind == 1)).map (fun o => o.part.toNat)).map (fun i => (ls[i]!).length) := by rw [List.map_map]; rfl
  rw [e]
  refine sum_nodup _ _ _ ?_ ?_
  · exact List.Pairwise.sublist (((List.take_sublist k os).filter _).map _) g.once
  · intro p hp
    rw [List.mem_map] at hp
    obtain ⟨o, ho, rfl⟩ := hp
    obtain ⟨h1, h2⟩ := List.mem_filter.1 ho
    obtain ⟨i, hi, rfl⟩ := List.getElem_of_mem (List.mem_of_mem_take h1)
    have := g.part hi (by rw [getElem!_pos os i hi]; simpa using h2)
    rw [getElem!_pos os i hi] at this
    omega
theorem port_le {parts : Int} {os : List GO} {ls : List (List RC)} (g : Good parts os) (hl : (ls.length : Int) = parts) {k : Nat} (hk : k < os.length) : ∀ l ∈ ((dnC ls os)[k]!).ports, l.length ≤ (ls.map List.length).sum := by
  intro l hm
  obtain ⟨j, hj, rfl⟩ := List.getElem_of_mem hm
  have hj2 := hj
  rw [dn_ports hk] at hj2
  have h1 := flow_sum (ls := ls) g (k + 1) (by omega) [⟨(k : Int), (j : Int)⟩] (by simp) (by
    intro e he
    simp only [List.mem_singleton] at he
    subst he
    simp only [Int.toNat_natCast]
    omega) (by
    intro e he hm
    simp only [List.mem_singleton] at he
    subst he
    obtain ⟨i, hi, h3⟩ := mem_flat.1 hm
    have hi2 : i < k + 1 := by rw [List.length_take] at hi; omega
    rw [take_get (by omega) hi2] at h3
    have := g.edge (by omega) h3
    simp only at this
    omega)
  have h2 := src_le (ls := ls) g hl (k + 1)
  simp only [List.map_cons, List.map_nil, List.sum_cons, List.sum_nil] at h1
  unfold wtE at h1
  simp only [Int.toNat_natCast] at h1
  rw [getElem!_pos _ j hj] at h1
  omega
end Go.Proofs.YtifldnpccgbnkaaGreat
