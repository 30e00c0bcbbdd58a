/-
  Plain facts on bytes that First reads: what it reads is that number's form, and so the numbers with which bytes begin are the forms that stand there. No condition; nothing of the program is named here.
-/
import Derived.Test.YtpnoijmdhlkjlaaNms
namespace Go.Proofs.Ytpnoijmdhlkjlaa

theorem firstR_back : ∀ (l : List Int) (h i : Nat) (n : Int) (k : Nat), U8 l → i = (hi h).length → firstR h i l = (n, k, 0) → (hi h ++ l).take k = form (zz n) := by
  intro l
  induction l with
  | nil => intro h i n k _ _ hf; simp [firstR] at hf
  | cons c r ih =>
    intro h i n k hu hi0 hf
    have hc := hu c (by simp)
    rw [firstR] at hf
    split at hf
    · simp at hf
    · rename_i hn
      split at hf
      · rename_i hlt
        simp only [Prod.mk.injEq] at hf
        obtain ⟨rfl, rfl, _⟩ := hf
        rw [zz_uz]
        unfold form
        have e1 : (h * 128 + c.toNat) / 128 = h := by omega
        have e2 : (((h * 128 + c.toNat) % 128 : Nat) : Int) = c := by omega
        rw [e1, e2, hi0, List.take_append, List.take_of_length_le (by omega)]
        simp
      · rename_i hge
        have h0 : 0 < h * 128 + (c.toNat - 128) := by
          rcases Nat.eq_zero_or_pos h with e | e
          · subst e
            rw [hi_zero] at hi0
            simp at hi0
            subst hi0
            have : c ≠ 128 := fun e => hn (.inl ⟨rfl, e⟩)
            omega
          · omega
        have e1 : (h * 128 + (c.toNat - 128)) / 128 = h := by omega
        have e2 : (((h * 128 + (c.toNat - 128)) % 128 + 128 : Nat) : Int) = c := by omega
        have eh : hi (h * 128 + (c.toNat - 128)) = hi h ++ [c] := by rw [hi_pos h0, e1, e2]
        have := ih _ _ _ _ (fun x hx => hu x (by simp [hx])) (by rw [eh, hi0]; simp) hf
        rw [eh, List.append_assoc] at this
        exact this

theorem first_back {l : List Int} {n : Int} {k : Nat} (hu : U8 l) (hf : first l = (n, k, 0)) : l.take k = form (zz n) := by
  have := firstR_back l 0 0 n k hu (by rw [hi_zero]; rfl) hf
  rwa [hi_zero, List.nil_append] at this

/-- The place behind the last number. -/
def last : Nat → List (Int × Nat) → Nat
  | p, [] => p
  | _, x :: r => last x.2 r

theorem last_get : ∀ (xs : List (Int × Nat)) (p : Nat), xs ≠ [] → (snds xs).getD (xs.length - 1) 0 = (last p xs : Int) := by
  intro xs
  induction xs with
  | nil => intro p h; exact absurd rfl h
  | cons x r ih =>
    intro p _
    cases r with
    | nil => simp [snds, last]
    | cons y s =>
      have := ih x.2 (by simp)
      simp only [last] at this ⊢
      rw [← this]
      simp [snds]

theorem nums_back : ∀ (f p : Nat) (l : List Int), U8 l → p ≤ last p (nums f p l) ∧ last p (nums f p l) ≤ p + l.length ∧ l.take (last p (nums f p l) - p) = forms (fsts (nums f p l)) ∧ I64 (fsts (nums f p l)) := by
  intro f
  induction f with
  | zero => intro p l _; simp [nums, last, fsts, forms, I64]
  | succ f ih =>
    intro p l hu
    simp only [nums]
    split
    · rename_i h0
      have ff := first_facts hu
      obtain ⟨n, k, hf⟩ : ∃ n k, first l = (n, k, 0) := ⟨(first l).1, (first l).2.1, by rw [← h0]⟩
      rw [hf] at ff ⊢
      simp only at ff ⊢
      have hk : 0 < k ∧ k ≤ l.length ∧ -9223372036854775808 ≤ n ∧ n ≤ 9223372036854775807 := by omega
      obtain ⟨a1, a2, a3, a4⟩ := ih (p + k) (l.drop k) (hu.drop k)
      rw [List.length_drop] at a2
      simp only [last]
      refine ⟨by omega, by omega, ?_, ?_⟩
      · obtain ⟨d, hd⟩ : ∃ d, last (p + k) (nums f (p + k) (l.drop k)) = p + k + d := ⟨last (p + k) (nums f (p + k) (l.drop k)) - (p + k), by omega⟩
        rw [hd] at a3 ⊢
        rw [show p + k + d - (p + k) = d by omega] at a3
        rw [show p + k + d - p = k + d by omega, List.take_add, a3, first_back hu hf]
        simp [fsts, forms]
      · intro x hx
        simp only [fsts, List.map_cons, List.mem_cons] at hx
        rcases hx with rfl | hx
        · exact hk.2.2
        · exact a4 x hx
    · simp [last, fsts, forms, I64]

theorem numbers_back {b : List Int} (hu : U8 b) : last 0 (numbers b) ≤ b.length ∧ b.take (last 0 (numbers b)) = forms (fsts (numbers b)) ∧ I64 (fsts (numbers b)) := by
  have := nums_back b.length 0 b hu
  simp only [Nat.zero_add, Nat.sub_zero] at this
  exact this.2

theorem readsStr_back {b x l1 : List Int} {m : Int} (hu : U8 b) (h : readsStr b 0 m = (x, l1, 0)) : l1.length ≤ b.length ∧ form (zz x.length) ++ x = b.take (b.length - l1.length) ∧ U8 x := by
  have ff := first_facts hu
  unfold readsStr at h
  split at h
  · rename_i hne
    simp only [Prod.mk.injEq] at h
    exact absurd h.2.2 hne
  · rename_i he
    have he : (reads b 0 0 (max m 0)).2.2 = 0 := Classical.not_not.1 he
    split at h
    · simp at h
    · rename_i hlen
      unfold reads at he h hlen
      simp only [ne_eq, not_true_eq_false, if_false] at he h hlen
      split at he
      · exact absurd he ‹_›
      · split at he
        · simp at he
        · rename_i h0 hrange
          have h0 : (first b).2.2 = 0 := Classical.not_not.1 h0
          obtain ⟨n, k, hf⟩ : ∃ n k, first b = (n, k, 0) := ⟨(first b).1, (first b).2.1, by rw [← h0]⟩
          rw [hf] at ff hrange h hlen
          simp only [not_true_eq_false, if_false, if_neg hrange] at ff h hlen
          simp only [Prod.mk.injEq] at h
          obtain ⟨rfl, rfl, _⟩ := h
          obtain ⟨j, rfl⟩ : ∃ j : Nat, n = (j : Int) := ⟨n.toNat, by omega⟩
          rw [List.length_drop] at hlen
          have hk : k ≤ b.length := by omega
          rw [Int.toNat_natCast]
          refine ⟨by simp, ?_, ?_⟩
          · have e1 : ((b.drop k).take j).length = j := by rw [List.length_take, List.length_drop]; omega
            have e2 : b.length - ((b.drop k).drop j).length = k + j := by rw [List.length_drop, List.length_drop]; omega
            rw [e1, e2, List.take_add, first_back hu hf]
          · intro y hy
            exact hu y (List.mem_of_mem_drop (List.mem_of_mem_take hy))

end Go.Proofs.Ytpnoijmdhlkjlaa
