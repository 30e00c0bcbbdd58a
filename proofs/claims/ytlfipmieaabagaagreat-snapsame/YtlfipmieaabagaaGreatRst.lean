/-
  A region that draws its order, inside a round of a loop over a function: all its operations but the last one read alone, each one value in the region's one world; the last one comes last in every order. No condition; nothing of the program is named here.
-/
import Derived.Test.YtlfipmieaabagaaGreatOnl
import Derived.OrdersIn
import Derived.StillTail
namespace Go.Proofs.YtlfipmieaabagaaGreat
open Go.RowKit

def unl (listed : Array Bool) (i : Nat) : Bool := !listed.getD i true
theorem unl_mono {listed : Array Bool} {i j : Nat} (h : unl (listed.setIfInBounds i true) j = true) : unl listed j = true := by
  unfold unl at *
  by_cases hij : i = j
  · subst hij
    by_cases hlt : i < listed.size
    · simp [hlt] at h
    · rw [Array.setIfInBounds_eq_of_size_le (by omega)] at h; exact h
  · rw [getD_set_ne true hij] at h; exact h
theorem cnt_mono {listed : Array Bool} {i : Nat} : ∀ l : List Nat, l.countP (unl (listed.setIfInBounds i true)) ≤ l.countP (unl listed)
  | [] => by simp
  | x :: l => by
    simp only [List.countP_cons]
    have := cnt_mono (listed := listed) (i := i) l
    by_cases h : unl (listed.setIfInBounds i true) x = true
    · simp [h, unl_mono h]; omega
    · simp [h]; omega
theorem cnt_set {listed : Array Bool} {i : Nat} (hi : unl listed i = true) : ∀ l : List Nat, i ∈ l → l.countP (unl (listed.setIfInBounds i true)) + 1 ≤ l.countP (unl listed)
  | [], h => by simp at h
  | x :: l, h => by
    simp only [List.countP_cons]
    have hlt : i < listed.size := by
      unfold unl at hi
      rcases Nat.lt_or_ge i listed.size with h' | h'
      · exact h'
      · simp [Array.getElem?_eq_none h'] at hi
    by_cases hx : x = i
    · subst hx
      have h1 : unl (listed.setIfInBounds x true) x = false := by simp [unl, hlt]
      have := cnt_mono (listed := listed) (i := x) l
      simp [h1, hi]; omega
    · have hl : i ∈ l := by simpa [Ne.symm hx] using h
      have := cnt_set hi l hl
      have e : unl (listed.setIfInBounds i true) x = unl listed x := by unfold unl; rw [getD_set_ne true (Ne.symm hx)]
      rw [e]; omega

theorem least (p : Nat → Bool) : ∀ m, p m = true → ∃ i, i ≤ m ∧ p i = true ∧ ∀ j, j < i → p j = false := by
  intro m
  induction m using Nat.strongRecOn with
  | _ m ih =>
    intro hm
    by_cases h : ∃ j, j < m ∧ p j = true
    · obtain ⟨j, hj, hpj⟩ := h
      obtain ⟨i, h1, h2, h3⟩ := ih j hj hpj
      exact ⟨i, by omega, h2, h3⟩
    · refine ⟨m, Nat.le_refl _, hm, fun j hj => ?_⟩
      cases hp : p j with
      | false => rfl
      | true => exact absurd ⟨j, hj, hp⟩ h

/-- Every operation waits for earlier ones alone. -/
def backB (ops : Array Oper) : Bool := (List.range ops.size).all fun i => match ops[i]? with | some o => o.after.all fun e => decide (e.on < i) | none => true

theorem put_getD {a : Act} {d s : Nat} {v : Value} : (a.put (some d) v).tmps.getD s undef = if d = s ∧ d < a.tmps.size then v else a.tmps.getD s undef := by
  simp only [Act.put, Array.getD_eq_getD_getElem?, Array.getElem?_setIfInBounds]
  by_cases h : d = s
  · subst h
    by_cases hl : d < a.tmps.size
    · simp [hl]
    · simp [hl]
  · simp [h]

theorem region_still_in {F : Fence} {n : Nat} {P : Program} {id : Nat} {ops : Array Oper} {Q : Exit → Act → World → Prop} {a0 : Act} {w : World} (hm : P.follows .mixedOrders = true) (m : Nat) (hsz : ops.size = m + 1) (hback : backB ops = true) (hsink : Region.sinkB .any ops m = true) (hchain : Region.chainB .any ops m = true)
    (dst : Nat → Nat) (val : Nat → Value) (hinj : ∀ i j, i < m → j < m → dst i = dst j → i = j) (hrange : ∀ i, i < m → dst i < a0.tmps.size)
    (hstep : ∀ i, i < m → ∀ (a : Act) (K : Act → World → Prop), (∀ j, j < m → Region.waitsFor .any ops i j = true → a.tmps.getD (dst j) undef = val j) → (∀ s, (∀ i, i < m → dst i ≠ s) → a.tmps.getD s undef = a0.tmps.getD s undef) → a.defers = a0.defers → a.tmps.size = a0.tmps.size → K (a.put (some (dst i)) (val i)) w.drew → wpOpIn F n P ops Q i K a w.drew)
    (hfin : ∀ (a : Act) (K : Act → World → Prop), (∀ i, i < m → a.tmps.getD (dst i) undef = val i) → (∀ s, (∀ i, i < m → dst i ≠ s) → a.tmps.getD s undef = a0.tmps.getD s undef) → a.defers = a0.defers → a.tmps.size = a0.tmps.size → (∀ a' w', Q .normal a' w' → K a' w') → wpOpIn F n P ops Q m K a w.drew) :
    (Code.region id ops true).wpIn F n P Q a0 w := by
  refine wpIn_region_any hm ?_
  have key : ∀ (fuel : Nat) (listed : Array Bool) (a : Act), HeadInv .any ops m listed → (∀ i, i < m → listed.getD i false = true → a.tmps.getD (dst i) undef = val i) → (∀ s, (∀ i, i < m → dst i ≠ s) → a.tmps.getD s undef = a0.tmps.getD s undef) → a.defers = a0.defers → a.tmps.size = a0.tmps.size →
      (List.range (m + 1)).countP (unl listed) ≤ fuel → wpAnyIn F n P .any ops Q fuel listed a w.drew := by
    intro fuel
    induction fuel with
    | zero =>
      intro listed a inv _ _ _ _ hc
      exfalso
      have : (List.range (m + 1)).countP (unl listed) = 0 := by omega
      have h1 := List.countP_eq_zero.1 this m (by simp)
      have h2 := inv.tail m (Nat.le_refl _) (by omega)
      simp [unl, h2] at h1
    | succ fuel ih =>
      intro listed a inv hv hb hd hs hc
      -- the least one that has not come up is ready
      have hex : ∃ i, i ∈ Region.ready .any ops listed := by
        have hm' : unl listed m = true := by unfold unl; rw [inv.tail m (Nat.le_refl _) (by omega)]; rfl
        obtain ⟨i, him, hi, hmin⟩ := least (unl listed) m hm'
        have hget : ops[i]? = some (ops[i]'(by omega)) := Array.getElem?_eq_getElem (by omega)
        refine ⟨i, mem_ready.2 ⟨by simpa [unl] using hi, _, hget, fun e he _ => ?_⟩⟩
        have hbk := List.all_eq_true.1 hback i (by simp; omega)
        rw [hget] at hbk
        simp only at hbk
        have hlt := of_decide_eq_true (Array.all_eq_true'.1 hbk e he)
        have := hmin e.on hlt
        have hsl : e.on < listed.size := by rw [inv.size]; omega
        simp [unl, hsl] at this
        simp [hsl, this]
      refine ⟨fun h0 => (by obtain ⟨i, hi⟩ := hex; rw [h0] at hi; cases hi), fun i hi => ?_⟩
      obtain ⟨hun, oi, hoi, hall⟩ := mem_ready.1 hi
      have hilt : i < ops.size := (Array.getElem?_eq_some_iff.1 hoi).1
      have hiu : unl listed i = true := by unfold unl; rw [hun]; rfl
      have hcnt := cnt_set hiu (List.range (m + 1)) (by simp; omega)
      by_cases him : i < m
      · refine hstep i him a _ (fun j hj hw => ?_) hb hd hs ?_
        · obtain ⟨o', ho', e, he, hbd, hon⟩ := Region.waitsFor_spec hw
          have : o' = oi := Option.some.inj (ho'.symm.trans hoi)
          subst this
          have := hall e he hbd
          rw [hon] at this
          exact hv j hj this
        · refine ih _ _ (inv.set hi him) (fun j hj hl => ?_) (fun s hsn => ?_) (by simpa [Act.put] using hd) (by simpa [Act.put] using hs) (by omega)
          · rw [put_getD]
            by_cases hij : dst i = dst j
            · have := hinj i j him hj hij
              subst this
              rw [if_pos ⟨rfl, by rw [hs]; exact hrange i him⟩]
            · rw [if_neg (fun h => hij h.1)]
              refine hv j hj ?_
              rw [getD_set_ne false (fun e => hij (by rw [e]))] at hl
              exact hl
          · rw [put_getD, if_neg (fun h => hsn i him h.1)]
            exact hb s hsn
      · obtain rfl : i = m := by omega
        have hdone : ∀ j, j < i → listed.getD j false = true := fun j hj => by
          cases hl : listed.getD j false with
          | true => rfl
          | false => exact absurd hi (tail_waits hsink hchain hilt inv _ j rfl hj (getD_in (by rw [inv.size]; omega) hl) i (Nat.le_refl _))
        refine hfin a _ (fun j hj => hv j hj (hdone j hj)) hb hd hs (fun a' w' hQ => wpAnyIn_done ?_ hQ _)
        unfold Region.ready
        rw [List.filter_eq_nil_iff]
        intro j hj
        have hj' : j < i + 1 := by simp at hj; omega
        have : (listed.setIfInBounds i true).getD j true = true := by
          by_cases hji : i = j
          · subst hji; simp [inv.size, hilt]
          · rw [getD_set_ne true hji]
            have h1 := hdone j (by omega)
            have h2 : j < listed.size := by rw [inv.size]; omega
            simp [h2] at h1 ⊢
            exact h1
        simp [this]
  refine key ops.size _ a0 ?_ ?_ (fun _ _ => rfl) rfl rfl ?_
  · exact ⟨by simp, fun j oj _ hl => (by rw [getD_replicate_false] at hl; cases hl), fun t _ ht => getD_in (by simpa using ht) (getD_replicate_false _ _)⟩
  · intro i _ hl
    rw [getD_replicate_false] at hl; cases hl
  · have := List.countP_le_length (p := unl (Array.replicate ops.size false)) (l := List.range (m + 1))
    simp at this
    omega
end Go.Proofs.YtlfipmieaabagaaGreat
