/-
  LeaseEpochs walked: each lease that is granted has a greater epoch than all ahead of it, and under one epoch just one region was ever granted, renewed, or allowed to act alone. The condition: that what is asked lies there.
-/
import Derived.Test.YthlkhjpobiohmaaLsi
namespace Go.Proofs.Ythlkhjpobiohmaa
open Go.ChangeShapes Go.WideShapes Go.ChangeAt Go.RowKit

/-- What one answer does to a lease that may be. -/
structure EpF (l x : LE) (a : AK) (m e : Int) : Prop where
  ok : okL x
  same : e ≠ 0 → x = l
  more : e = 0 → m ≠ 0 → m = l.ep + 1 ∧ x.ep = m ∧ a.act ≠ 2 ∧ a.act ≠ 5
  less : e = 0 → m = 0 → x.ep = l.ep ∧ (x.own = -1 ∨ x.own = l.own)
  mine : e = 0 → a.act = 2 ∨ a.act = 5 → m = 0 ∧ l.own = a.reg ∧ a.reg ≠ -1
theorem grant_ep {l x : LE} {r n e : Int} {a : AK} (ha : a.act ≠ 2 ∧ a.act ≠ 5) (h : grantC l r = (x, n, e)) (hk : okL l) (hr : 0 ≤ r ∧ r < 2) : EpF l x a n e := by
  unfold grantC at h
  split at h
  · simp only [Prod.mk.injEq] at h
    obtain ⟨rfl, rfl, rfl⟩ := h
    exact ⟨hk, fun _ => rfl, fun h => by omega, fun h => by omega, fun h => by omega⟩
  · rename_i hm
    simp only [Prod.mk.injEq] at h
    obtain ⟨rfl, rfl, rfl⟩ := h
    unfold okL at hk
    have hl := later_le (n := 16) hk.2.2.2.1.1 hk.2.2.2.1.2
    refine ⟨?_, fun h => absurd rfl h, fun _ _ => ⟨rfl, rfl, ha⟩, fun _ h => ?_, fun _ h => ?_⟩
    · unfold okL
      refine ⟨by simp only; omega, by simp only; omega, by simp only; omega, by simp only; omega, by simp only; omega, .inr rfl, fun h => by simp only at h; omega, fun h => by simp only; omega, fun h => by simp only at h; omega⟩
    · omega
    · omega
theorem same_ep {l : LE} {a : AK} {e : Int} (hk : okL l) (he : e ≠ 0) : EpF l l a 0 e := ⟨hk, fun _ => rfl, fun h => absurd h he, fun h => absurd h he, fun h => absurd h he⟩
theorem ep_fact {l x : LE} {a : AK} {m e : Int} (h : asksC l a = (x, m, e)) (hk : okL l) : EpF l x a m e := by
  have hk' := hk
  unfold okL at hk'
  unfold asksC at h
  split at h
  · rename_i h1
    unfold acqC at h
    split at h
    · rename_i hr
      split at h
      · simp only [Prod.mk.injEq] at h; obtain ⟨rfl, rfl, rfl⟩ := h; exact same_ep hk (by decide)
      · split at h
        · simp only [Prod.mk.injEq] at h; obtain ⟨rfl, rfl, rfl⟩ := h; exact same_ep hk (by decide)
        · exact grant_ep (by omega) h hk hr.2
    · simp only [Prod.mk.injEq] at h; obtain ⟨rfl, rfl, rfl⟩ := h; exact same_ep hk (by decide)
  · split at h
    · rename_i h1 h2
      unfold renewC at h
      split at h
      · rename_i hc
        simp only [Prod.mk.injEq] at h
        obtain ⟨rfl, rfl, rfl⟩ := h
        have c := claim_ok hc
        have hl := later_le (n := 16) hk'.2.2.2.1.1 hk'.2.2.2.1.2
        refine ⟨?_, fun h => absurd rfl h, fun _ h => absurd rfl h, fun _ _ => ⟨rfl, .inr rfl⟩, fun _ _ => ⟨rfl, c.2.2.1, by omega⟩⟩
        unfold okL
        refine ⟨?_, ?_, ?_, ?_, ?_, ?_, ?_, ?_, ?_⟩ <;> first | exact .inl rfl | exact hk'.2.2.2.2.2.2.1 | exact hk'.2.2.2.2.2.2.2.1 | (simp only; omega) | (intro h; simp only at h ⊢; omega) | (simp only; done)
      · rename_i hc
        simp only [Prod.mk.injEq] at h
        obtain ⟨rfl, rfl, rfl⟩ := h
        exact same_ep hk hc
    · split at h
      · rename_i h1 h2 h3
        unfold releaseC at h
        split at h
        · rename_i hc
          simp only [Prod.mk.injEq] at h
          obtain ⟨rfl, rfl, rfl⟩ := h
          refine ⟨?_, fun h => absurd rfl h, fun _ h => absurd rfl h, fun _ _ => ⟨rfl, .inl rfl⟩, fun _ h => by omega⟩
          unfold okL
          refine ⟨?_, ?_, ?_, ?_, ?_, ?_, ?_, ?_, ?_⟩ <;> first | exact .inl rfl | exact hk'.2.2.2.2.2.2.1 | exact hk'.2.2.2.2.2.2.2.1 | (simp only; omega) | (intro h; simp only at h ⊢; omega) | (simp only; done)
        · rename_i hc
          simp only [Prod.mk.injEq] at h
          obtain ⟨rfl, rfl, rfl⟩ := h
          exact same_ep hk hc
      · split at h
        · rename_i h4
          unfold transC at h
          split at h
          · rename_i hr
            split at h
            · split at h
              · simp only [Prod.mk.injEq] at h; obtain ⟨rfl, rfl, rfl⟩ := h; exact same_ep hk (by decide)
              · exact grant_ep (by omega) h hk hr.1
            · rename_i hc
              simp only [Prod.mk.injEq] at h; obtain ⟨rfl, rfl, rfl⟩ := h; exact same_ep hk hc
          · simp only [Prod.mk.injEq] at h; obtain ⟨rfl, rfl, rfl⟩ := h; exact same_ep hk (by decide)
        · split at h
          · rename_i h5
            unfold aloneC at h
            split at h
            · rename_i hc
              simp only [Prod.mk.injEq] at h
              obtain ⟨rfl, rfl, rfl⟩ := h
              have c := claim_ok hc
              refine ⟨?_, fun h => absurd rfl h, fun _ h => absurd rfl h, fun _ _ => ⟨rfl, .inr rfl⟩, fun _ _ => ⟨rfl, c.2.2.1, by omega⟩⟩
              unfold okL
              refine ⟨?_, ?_, ?_, ?_, ?_, ?_, ?_, ?_, ?_⟩ <;> first | exact .inl rfl | exact hk'.2.2.2.2.2.2.1 | exact hk'.2.2.2.2.2.2.2.1 | (simp only; omega) | (intro h; simp only at h ⊢; omega) | (simp only; done)
            · rename_i hc
              simp only [Prod.mk.injEq] at h
              obtain ⟨rfl, rfl, rfl⟩ := h
              exact same_ep hk hc
          · simp only [Prod.mk.injEq] at h
            obtain ⟨rfl, rfl, rfl⟩ := h
            unfold tickC
            rw [if_pos hk]
            have hl := later_le (n := a.n) hk'.2.2.2.1.1 hk'.2.2.2.1.2
            refine ⟨?_, fun h => absurd rfl h, fun _ h => absurd rfl h, fun _ _ => ⟨rfl, .inr rfl⟩, fun _ h => by omega⟩
            unfold okL
            refine ⟨?_, ?_, ?_, ?_, ?_, ?_, ?_, ?_, ?_⟩ <;> first | exact .inl rfl | exact hk'.2.2.2.2.2.2.1 | exact hk'.2.2.2.2.2.2.2.1 | (simp only; omega) | (intro h; simp only at h ⊢; omega) | (simp only; done)
end Go.Proofs.Ythlkhjpobiohmaa
