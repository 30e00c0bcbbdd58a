/-
  Plainly: an operator's fault by those taken so far is its fault by counting; a fault that comes first. No conditions.
-/
import Derived.Test.YtlfipmieaabagaaGreatGmy
namespace Go.Proofs.YtlfipmieaabagaaGreat
open Go.RowKit

theorem cntE_count (es : List GE) (e : GE) : cntE es e = es.count e := by
  unfold cntE
  rw [List.count, List.countP_eq_length_filter]
  rfl
def flatC (os : List GO) : List GE := os.flatMap GO.ins
theorem takeC_yes {es : List GE} : ∀ {T : List GE}, (takeC T es).1 = true → (takeC T es).2 = es.reverse ++ T := by
  induction es with
  | nil => intro T _; rfl
  | cons e es ih =>
    intro T h
    simp only [takeC] at h ⊢
    by_cases he : e ∈ T
    · rw [if_pos he] at h; cases h
    · rw [if_neg he] at h ⊢
      rw [ih h]
      simp
theorem takeC_iff {es : List GE} : ∀ {T : List GE}, T.Nodup → ((takeC T es).1 = true ↔ (es.reverse ++ T).Nodup) := by
  induction es with
  | nil => intro T h; simpa [takeC] using h
  | cons e es ih =>
    intro T h
    simp only [takeC]
    by_cases he : e ∈ T
    · rw [if_pos he]
      refine ⟨fun h => (by cases h), fun h => ?_⟩
      rw [List.reverse_cons, List.append_assoc, List.nodup_append] at h
      have := h.2.1
      rw [List.cons_append, List.nil_append, List.nodup_cons] at this
      exact absurd he this.1
    · rw [if_neg he, ih (List.nodup_cons.2 ⟨he, h⟩)]
      simp
def rOneC (parts : Int) (os : List GO) (k : Nat) : Int :=
  if 1 ≤ (os[k]!).kind ∧ (os[k]!).kind ≤ 9 then
    if fieldsC (os[k]!).kind (os[k]!).part (os[k]!).fn (os[k]!).arg parts = true then
      if insC (os[k]!) (os.take k) = true then (if (os[k]!).ins.all (fun e => decide (manyC (os.take (k + 1)) e ≤ 1)) = true then 0 else 53) else 52
    else 51
  else 50
theorem takeS {os : List GO} {k : Nat} (hk : k < os.length) : os.take (k + 1) = os.take k ++ [os[k]!] := by
  rw [List.take_succ_eq_append_getElem hk, getElem!_pos os k hk]
theorem flat_snoc (os : List GO) (o : GO) : flatC (os ++ [o]) = flatC os ++ o.ins := by simp [flatC]
theorem nodup_of_counts {l r : List GE} (hl : l.Nodup) (h : ∀ e ∈ r, (l ++ r).count e ≤ 1) : (l ++ r).Nodup := by
  rw [List.nodup_iff_count]
  intro e
  by_cases he : e ∈ r
  · exact h e he
  · rw [List.count_append, List.count_eq_zero.2 he]
    exact List.nodup_iff_count.1 hl e
theorem one_same {parts : Int} {os : List GO} {k : Nat} (hk : k < os.length) {T : List GE} (hT : T.Perm (flatC (os.take k))) (hd : T.Nodup) : (oneC parts (os[k]!) (os.take k) T).1 = rOneC parts os k := by
  unfold oneC rOneC
  split
  · split
    · split
      · have key : (takeC T (os[k]!).ins).1 = true ↔ (os[k]!).ins.all (fun e => decide (manyC (os.take (k + 1)) e ≤ 1)) = true := by
          have hp : ((os[k]!).ins.reverse ++ T).Perm (flatC (os.take k) ++ (os[k]!).ins) :=
            (List.perm_append_comm).trans (hT.append (List.reverse_perm _))
          have hm : ∀ e, manyC (os.take (k + 1)) e = (flatC (os.take k) ++ (os[k]!).ins).count e := fun e => by
            rw [← flat_snoc, ← takeS hk, ← cntE_count]
            rfl
          rw [takeC_iff hd, hp.nodup_iff, List.all_eq_true]
          constructor
          · intro h e _
            rw [decide_eq_true_eq, hm]
            exact List.nodup_iff_count.1 h e
          · intro h
            refine nodup_of_counts (hT.nodup_iff.1 hd) (fun e he => ?_)
            have := h e he
            rw [decide_eq_true_eq, hm] at this
            exact this
        by_cases h : (takeC T (os[k]!).ins).1 = true
        · rw [if_pos h, if_pos (key.1 h)]
        · rw [if_neg h, if_neg (fun x => h (key.2 x))]
      · rfl
    · rfl
  · rfl
theorem one_zero {parts : Int} {o : GO} {a : List GO} {T : List GE} (h : (oneC parts o a T).1 = 0) : (takeC T o.ins).1 = true ∧ (oneC parts o a T).2 = (takeC T o.ins).2 ∧ insC o a = true ∧ fieldsC o.kind o.part o.fn o.arg parts = true ∧ 1 ≤ o.kind ∧ o.kind ≤ 9 := by
  unfold oneC at h ⊢
  by_cases h1 : 1 ≤ o.kind ∧ o.kind ≤ 9
  · rw [if_pos h1] at h ⊢
    by_cases h2 : fieldsC o.kind o.part o.fn o.arg parts = true
    · rw [if_pos h2] at h ⊢
      by_cases h3 : insC o a = true
      · rw [if_pos h3] at h ⊢
        by_cases h4 : (takeC T o.ins).1 = true
        · rw [if_pos h4]; exact ⟨h4, rfl, h3, h2, h1⟩
        · rw [if_neg h4] at h; exact absurd h (by simp)
      · rw [if_neg h3] at h; exact absurd h (by simp)
    · rw [if_neg h2] at h; exact absurd h (by simp)
  · rw [if_neg h1] at h; exact absurd h (by simp)
/-- As long as no fault is found, those taken are the inputs so far, each once; and every operator so far is as it must be. -/
theorem scan_taken {parts : Int} {os : List GO} : ∀ {k : Nat}, k ≤ os.length → (scanS parts (os.take k)).bad = none → (scanS parts (os.take k)).T.Perm (flatC (os.take k)) ∧ (scanS parts (os.take k)).T.Nodup
  | 0, _, _ => by simp [scanS, flatC]
  | k + 1, hk, h => by
    have hk' : k < os.length := by omega
    have hb : (scanS parts (os.take k)).bad = none := by
      cases hb : (scanS parts (os.take k)).bad with
      | none => rfl
      | some x =>
        have e : (os.take (k + 1)).take k = os.take k := by rw [List.take_take]; congr 1; omega
        rw [scanS_more (os := os.take (k + 1)) (k := k) (x := x) (by rw [e]; exact hb), e, hb] at h
        cases h
    obtain ⟨ip, id⟩ := scan_taken (k := k) (by omega) hb
    have h3 := scan_one hk' hb
    by_cases h0 : (oneC parts (os[k]!) (os.take k) (scanS parts (os.take k)).T).1 = 0
    · obtain ⟨o1, o2, _⟩ := one_zero h0
      rw [if_pos h0] at h3
      have hT : (scanS parts (os.take (k + 1))).T = (os[k]!).ins.reverse ++ (scanS parts (os.take k)).T := by rw [h3, ← takeC_yes o1, ← o2]
      rw [hT]
      refine ⟨?_, (takeC_iff id).1 o1⟩
      rw [takeS hk', flat_snoc]
      exact (List.perm_append_comm).trans (ip.append (List.reverse_perm _))
    · rw [if_neg h0] at h3
      rw [h3] at h
      cases h
theorem one_eq {parts : Int} {os : List GO} {k : Nat} (hk : k < os.length) (h : (scanS parts (os.take k)).bad = none) : (oneC parts (os[k]!) (os.take k) (scanS parts (os.take k)).T).1 = rOneC parts os k :=
  have ⟨a, b⟩ := scan_taken (by omega) h
  one_same hk a b
theorem scan_good {parts : Int} {os : List GO} (h : (scanS parts os).bad = none) {k : Nat} (hk : k < os.length) : (scanS parts (os.take k)).bad = none ∧ (oneC parts (os[k]!) (os.take k) (scanS parts (os.take k)).T).1 = 0 := by
  have hb : ∀ j, (scanS parts (os.take j)).bad = none := fun j => by
    cases hb : (scanS parts (os.take j)).bad with
    | none => rfl
    | some x => rw [scanS_more hb, hb] at h; cases h
  refine ⟨hb k, ?_⟩
  have h3 := scan_one hk (hb k)
  by_cases h0 : (oneC parts (os[k]!) (os.take k) (scanS parts (os.take k)).T).1 = 0
  · exact h0
  · rw [if_neg h0] at h3
    have := hb (k + 1)
    rw [h3] at this
    cases this
theorem mem_flat {os : List GO} {e : GE} : e ∈ flatC os ↔ ∃ k, k < os.length ∧ e ∈ (os[k]!).ins := by
  unfold flatC
  rw [List.mem_flatMap]
  constructor
  · rintro ⟨o, ho, he⟩
    obtain ⟨k, hk, rfl⟩ := List.getElem_of_mem ho
    exact ⟨k, hk, by rw [getElem!_pos os k hk]; exact he⟩
  · rintro ⟨k, hk, he⟩
    exact ⟨os[k]!, by rw [getElem!_pos os k hk]; exact List.getElem_mem _, he⟩
theorem take_get {os : List GO} {k j : Nat} (hk : k ≤ os.length) (hj : j < k) : (os.take k)[j]! = os[j]! := by
  rw [getElem!_pos (os.take k) j (by simp; omega), getElem!_pos os j (by omega), List.getElem_take]
def portsO (os : List GO) (n : Nat) : Int := portsC (os[n]!).kind (os[n]!).arg
theorem edge_good {parts : Int} {os : List GO} (h : (scanS parts os).bad = none) {e : GE} (he : e ∈ flatC os) : 0 ≤ e.f ∧ e.f < (os.length : Int) ∧ 0 ≤ e.p ∧ e.p < portsO os e.f.toNat := by
  obtain ⟨k, hk, hm⟩ := mem_flat.1 he
  have hi := (one_zero (scan_good h hk).2).2.2.1
  unfold insC at hi
  rw [Bool.and_eq_true, List.all_eq_true] at hi
  have := hi.2 e hm
  have hl : (os.take k).length = k := by simp; omega
  unfold edgeC at this
  simp only [Bool.and_eq_true, decide_eq_true_eq, hl] at this
  have ht : (os.take k)[e.f.toNat]! = os[e.f.toNat]! := take_get (by omega) (by omega)
  rw [ht] at this
  unfold portsO
  exact ⟨this.1.1, by omega, this.2.1, by omega⟩
theorem flat_nodup {parts : Int} {os : List GO} (h : (scanS parts os).bad = none) : (flatC os).Nodup := by
  have e : os.take os.length = os := List.take_length
  have := scan_taken (parts := parts) (os := os) (k := os.length) (Nat.le_refl _) (by rw [e]; exact h)
  rw [e] at this
  exact this.1.nodup_iff.1 this.2
theorem nodup_len {α : Type} [DecidableEq α] : ∀ {l r : List α}, l.Nodup → (∀ x ∈ l, x ∈ r) → l.length ≤ r.length
  | [], _, _, _ => Nat.zero_le _
  | a :: l, r, hd, hs => by
    rw [List.nodup_cons] at hd
    have ha := hs a (by simp)
    have h1 := nodup_len (l := l) (r := r.erase a) hd.2 (fun x hx => (List.mem_erase_of_ne (by rintro rfl; exact hd.1 hx)).2 (hs x (by simp [hx])))
    rw [List.length_erase_of_mem ha] at h1
    have := List.length_pos_of_mem ha
    simp only [List.length_cons]
    omega
def fromN (os : List GO) (n : Nat) : List GE := (flatC os).filter (fun e => decide (e.f = (n : Int)))
def leftC (os : List GO) (n : Nat) : Int := portsO os n - ((fromN os n).length : Int)
def looseP (os : List GO) (n : Nat) : Bool := (List.range (portsO os n).toNat).any (fun p => manyC os ⟨(n : Int), (p : Int)⟩ == 0)
theorem many_zero {os : List GO} {e : GE} : manyC os e = 0 ↔ e ∉ flatC os := by
  unfold manyC
  rw [cntE_count, List.count_eq_zero]
  rfl
theorem left_loose {parts : Int} {os : List GO} (h : (scanS parts os).bad = none) {n : Nat} : 0 < leftC os n ↔ looseP os n = true := by
  have hnd : (fromN os n).Nodup := (flat_nodup h).filter _
  have hpl : 0 ≤ portsO os n := (portsC_le _ _).1
  have hsub : ∀ e ∈ fromN os n, e ∈ (List.range (portsO os n).toNat).map (fun p : Nat => (⟨(n : Int), (p : Int)⟩ : GE)) := by
    intro e he
    unfold fromN at he
    rw [List.mem_filter, decide_eq_true_eq] at he
    have hg := edge_good h he.1
    rw [he.2, Int.toNat_natCast] at hg
    rw [List.mem_map]
    refine ⟨e.p.toNat, by simp; omega, ?_⟩
    obtain ⟨f, p⟩ := e
    simp only at he hg ⊢
    rw [he.2, Int.toNat_of_nonneg hg.2.2.1]
  unfold looseP
  rw [List.any_eq_true]
  constructor
  · intro hl
    by_cases hx : ∃ p : Nat, p < (portsO os n).toNat ∧ (⟨(n : Int), (p : Int)⟩ : GE) ∉ flatC os
    · obtain ⟨p, hp, hm⟩ := hx
      exact ⟨p, by simpa using hp, by rw [many_zero.2 hm]; rfl⟩
    · exfalso
      have h1 := nodup_len (l := (List.range (portsO os n).toNat).map (fun p : Nat => (⟨(n : Int), (p : Int)⟩ : GE))) (r := fromN os n) (by
        rw [List.nodup_iff_pairwise_ne, List.pairwise_map]
        refine List.Pairwise.imp ?_ List.nodup_range
        intro a b hab e
        injection e with _ e
        exact hab (by omega)) (by
        intro e he
        rw [List.mem_map] at he
        obtain ⟨p, hp, rfl⟩ := he
        unfold fromN
        rw [List.mem_filter]
        refine ⟨?_, by simp⟩
        by_cases hm : (⟨(n : Int), (p : Int)⟩ : GE) ∈ flatC os
        · exact hm
        · exact absurd ⟨p, by simpa using hp, hm⟩ hx)
      rw [List.length_map, List.length_range] at h1
      unfold leftC at hl
      omega
  · rintro ⟨p, hp, hm⟩
    rw [List.mem_range] at hp
    rw [beq_iff_eq, many_zero] at hm
    have h1 := nodup_len (l := (⟨(n : Int), (p : Int)⟩ : GE) :: fromN os n) (r := (List.range (portsO os n).toNat).map (fun p : Nat => (⟨(n : Int), (p : Int)⟩ : GE))) (List.nodup_cons.2 ⟨fun hf => hm (List.mem_filter.1 hf).1, hnd⟩) (by
      intro e he
      rcases List.mem_cons.1 he with rfl | he
      · rw [List.mem_map]; exact ⟨p, by simpa using hp, rfl⟩
      · exact hsub e he)
    rw [List.length_map, List.length_range, List.length_cons] at h1
    unfold leftC
    omega
end Go.Proofs.YtlfipmieaabagaaGreat
