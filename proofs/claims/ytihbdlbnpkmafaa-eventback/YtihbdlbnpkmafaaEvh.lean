/-
  Plainly: what Bytes makes is parsed as it was, and what is parsed has those bytes. No walk.
-/
import Derived.Test.YtihbdlbnpkmafaaEvr
import Derived.Test.YtihbdlbnpkmafaaEvy
import Derived.Test.YtihbdlbnpkmafaaMth
namespace Go.Proofs.Ytihbdlbnpkmafaa
open Go.RowKit

theorem firstR_back : ∀ (l : List Int) (h i : Nat) (n : Int) (k : Nat), U8 l → i = (hi h).length → firstR h i l = (n, k, 0) → (hi h ++ l).take k = form (zz n) := by
  intro l
  induction l with
  | nil => intro h i n k _ _ hf; simp [firstR] at hf
  | cons c r ih =>
    intro h i n k hu hi0 hf
    have hc := hu c (by simp)
    rw [firstR] at hf
    split at hf
    · simp at hf
    · rename_i hn
      split at hf
      · rename_i hlt
        simp only [Prod.mk.injEq] at hf
        obtain ⟨rfl, rfl, _⟩ := hf
        rw [zz_uz]
        unfold form
        have e1 : (h * 128 + c.toNat) / 128 = h := by omega
        have e2 : (((h * 128 + c.toNat) % 128 : Nat) : Int) = c := by omega
        rw [e1, e2, hi0, List.take_append, List.take_of_length_le (by omega)]
        simp
      · rename_i hge
        have h0 : 0 < h * 128 + (c.toNat - 128) := by
          rcases Nat.eq_zero_or_pos h with e | e
          · subst e
            rw [hi_zero] at hi0
            simp at hi0
            subst hi0
            have : c ≠ 128 := fun e => hn (.inl ⟨rfl, e⟩)
            omega
          · omega
        have e1 : (h * 128 + (c.toNat - 128)) / 128 = h := by omega
        have e2 : (((h * 128 + (c.toNat - 128)) % 128 + 128 : Nat) : Int) = c := by omega
        have eh : hi (h * 128 + (c.toNat - 128)) = hi h ++ [c] := by rw [hi_pos h0, e1, e2]
        have := ih _ _ _ _ (fun x hx => hu x (by simp [hx])) (by rw [eh, hi0]; simp) hf
        rw [eh, List.append_assoc] at this
        exact this

theorem first_back {l : List Int} {n : Int} {k : Nat} (hu : U8 l) (hf : first l = (n, k, 0)) : l.take k = form (zz n) := by
  have := firstR_back l 0 0 n k hu (by rw [hi_zero]; rfl) hf
  rwa [hi_zero, List.nil_append] at this


/-- What is read without an error is that number's form. -/
theorem reads_back {l l1 : List Int} {a b n : Int} (hu : U8 l) (h : reads l 0 a b = (n, l1, 0)) : l = form (zz n) ++ l1 ∧ a ≤ n ∧ n ≤ b ∧ U8 l1 ∧ I6 n := by
  unfold reads at h
  rw [if_neg (by simp)] at h
  by_cases h1 : (first l).2.2 = 0
  · rw [if_neg (by simpa using h1)] at h
    by_cases h2 : (first l).1 < a ∨ b < (first l).1
    · rw [if_pos h2] at h
      simp at h
    · rw [if_neg h2] at h
      simp only [Prod.mk.injEq, and_true] at h
      obtain ⟨rfl, rfl⟩ := h
      have hf : first l = ((first l).1, (first l).2.1, 0) := by rw [← h1]
      have hb := first_back hu hf
      rcases first_facts hu with ⟨_, _, _, g1, g2⟩ | ⟨g, _⟩ | ⟨g, _⟩
      · refine ⟨by rw [← hb, List.take_append_drop], by omega, by omega, hu.drop _, ⟨g1, g2⟩⟩
      · rw [h1] at g; cases g
      · rw [h1] at g; cases g
  · rw [if_pos h1] at h
    simp only [Prod.mk.injEq] at h
    exact absurd h.2.2 h1
theorem reads_err0 {l l1 : List Int} {e a b n : Int} (h : reads l e a b = (n, l1, 0)) : e = 0 := by
  by_cases he : e = 0
  · exact he
  · rw [reads_same he] at h
    simp only [Prod.mk.injEq] at h
    exact absurd h.2.2 he
theorem rec_back {l l2 : List Int} {r : RC} (hu : U8 l) (h : recR l 0 = (r, l2, 0)) : l = forms [r.key, r.val] ++ l2 ∧ U8 l2 ∧ r.fine := by
  obtain ⟨n1, l1, e1, h1⟩ : ∃ n1 l1 e1, anyR l 0 = (n1, l1, e1) := ⟨_, _, _, rfl⟩
  obtain ⟨n2, l2', e2, h2⟩ : ∃ n2 l2' e2, anyR l1 e1 = (n2, l2', e2) := ⟨_, _, _, rfl⟩
  unfold recR at h
  rw [h1] at h
  simp only at h
  rw [h2] at h
  simp only [Prod.mk.injEq] at h
  obtain ⟨rfl, rfl, rfl⟩ := h
  have e0 := reads_err0 h2
  subst e0
  obtain ⟨a1, _, _, a4, a5⟩ := reads_back hu h1
  obtain ⟨b1, _, _, b4, b5⟩ := reads_back a4 h2
  refine ⟨?_, b4, ⟨a5, b5⟩⟩
  simp only [forms_cons, forms_nil, List.append_nil]
  rw [List.append_assoc, ← b1]
  exact a1
theorem take_back {l l2 : List Int} {x : EV} (hu : U8 l) (h : takeR l 0 = (x, l2, 0)) : l = forms (numsE x) ++ l2 ∧ U8 l2 ∧ x.fine ∧ checkE x = 0 := by
  obtain ⟨kd, l1, e1, h1⟩ : ∃ kd l1 e1, kindR l 0 = (kd, l1, e1) := ⟨_, _, _, rfl⟩
  have hkv := kind_vals l 0
  rw [h1] at hkv
  simp only at hkv
  rcases hkv with ⟨hk, he⟩ | ⟨hk, he⟩
  · subst he
    obtain ⟨a1, _, _, a4, a5⟩ := reads_back hu h1
    rcases hk with rfl | rfl
    · obtain ⟨r, l2', e2, h2⟩ : ∃ r l2' e2, recR l1 0 = (r, l2', e2) := ⟨_, _, _, rfl⟩
      unfold takeR at h
      rw [h1, if_neg (by simp), if_pos rfl] at h
      simp only [h2, Prod.mk.injEq] at h
      obtain ⟨rfl, rfl, rfl⟩ := h
      obtain ⟨b1, b2, b3⟩ := rec_back a4 h2
      have hc : clean ⟨1, r.key, r.val, 0⟩ 0 = ⟨1, r.key, r.val, 0⟩ := if_pos rfl
      have hck : checkE ⟨1, r.key, r.val, 0⟩ = 0 := check_yes (.inl ⟨rfl, rfl⟩)
      rw [hc]
      refine ⟨?_, b2, ⟨by unfold I6; simp, b3.1, b3.2, by unfold I6; simp⟩, hck⟩
      have hn : numsE ⟨1, r.key, r.val, 0⟩ = [1, r.key, r.val] := by unfold numsE; rw [if_pos hck, if_pos rfl]
      rw [hn, forms_cons, List.append_assoc, ← b1]
      exact a1
    · obtain ⟨id, l2', e2, h2⟩ : ∃ id l2' e2, idR l1 0 = (id, l2', e2) := ⟨_, _, _, rfl⟩
      unfold takeR at h
      rw [h1, if_pos rfl] at h
      simp only [h2, Prod.mk.injEq] at h
      obtain ⟨rfl, rfl, rfl⟩ := h
      obtain ⟨b1, b2, b3, b4, b5⟩ := reads_back a4 h2
      have hc : clean ⟨2, 0, 0, id⟩ 0 = ⟨2, 0, 0, id⟩ := if_pos rfl
      have hck : checkE ⟨2, 0, 0, id⟩ = 0 := check_yes (.inr ⟨rfl, rfl, rfl, b2, b3⟩)
      rw [hc]
      refine ⟨?_, b4, ⟨by unfold I6; simp, by unfold I6; simp, by unfold I6; simp, b5⟩, hck⟩
      have hn : numsE ⟨2, 0, 0, id⟩ = [2, id] := by unfold numsE; rw [if_pos hck, if_neg (by simp)]
      rw [hn, forms_cons, forms_cons, forms_nil, List.append_nil, List.append_assoc, ← b1]
      exact a1
  · exfalso
    unfold takeR at h
    rw [h1, if_neg (by simp [hk]), if_neg (by simp [hk])] at h
    simp only [Prod.mk.injEq] at h
    exact he h.2.2
theorem loop_back : ∀ (k : Nat) (l : List Int) (xs : List EV), U8 l → loopR k l 0 = (xs, [], 0) → l = forms (xs.flatMap numsE) ∧ xs.length = k ∧ (∀ x ∈ xs, x.fine ∧ checkE x = 0)
  | 0, l, xs, _, h => by
    simp only [loopR, Prod.mk.injEq] at h
    obtain ⟨rfl, rfl, _⟩ := h
    exact ⟨rfl, rfl, by simp⟩
  | k + 1, l, xs, hu, h => by
    obtain ⟨x, l1, e1, ht⟩ : ∃ x l1 e1, takeR l 0 = (x, l1, e1) := ⟨_, _, _, rfl⟩
    rw [loopR_next ht] at h
    simp only [Prod.mk.injEq] at h
    obtain ⟨rfl, h2⟩ := h
    by_cases he : e1 = 0
    · subst he
      obtain ⟨a1, a2, a3, a4⟩ := take_back hu ht
      obtain ⟨ys, lf, ef, hl⟩ : ∃ ys lf ef, loopR k l1 0 = (ys, lf, ef) := ⟨_, _, _, rfl⟩
      rw [hl] at h2 ⊢
      simp only [Prod.mk.injEq] at h2
      obtain ⟨rfl, rfl⟩ := h2
      obtain ⟨b1, b2, b3⟩ := loop_back k l1 ys a2 hl
      refine ⟨?_, by simp [b2], fun y hy => ?_⟩
      · rw [List.flatMap_cons, forms_append, ← b1]; exact a1
      · rcases List.mem_cons.1 hy with rfl | hy
        · exact ⟨a3, a4⟩
        · exact b3 y hy
    · rw [loopR_err he] at h2
      simp only [Prod.mk.injEq] at h2
      exact absurd h2.2 he
/-- What is parsed has those bytes. -/
theorem parse_back {b : List Int} {xs : List EV} (hu : U8 b) (h : parseC b = (xs, 0)) : bytesC xs = (b, 0) ∧ ∀ x ∈ xs, x.fine := by
  obtain ⟨cn, l, e, h1⟩ : ∃ cn l e, countR b = (cn, l, e) := ⟨_, _, _, rfl⟩
  obtain ⟨ys, lf, ef, h2⟩ : ∃ ys lf ef, loopR cn.toNat l e = (ys, lf, ef) := ⟨_, _, _, rfl⟩
  unfold parseC at h
  rw [h1] at h
  simp only [h2] at h
  by_cases hc : closes lf ef = 0
  · rw [if_pos hc] at h
    simp only [Prod.mk.injEq, and_true] at h
    subst h
    have hcl : ef = 0 ∧ lf = [] := by
      unfold closes at hc
      split at hc
      · split at hc
        · exact ⟨by assumption, by assumption⟩
        · cases hc
      · exact absurd hc (by assumption)
    obtain ⟨rfl, rfl⟩ := hcl
    have he : e = 0 := by
      by_cases he : e = 0
      · exact he
      · rw [loopR_err he] at h2
        simp only [Prod.mk.injEq] at h2
        exact absurd h2.2.2 he
    subst he
    obtain ⟨a1, a2, a3, a4, _⟩ := reads_back hu h1
    obtain ⟨b1, b2, b3⟩ := loop_back _ _ _ a4 h2
    refine ⟨?_, fun x hx => (b3 x hx).1⟩
    rw [bytes_good (fun j hj => (b3 _ (by rw [getElem!_pos ys j hj]; exact List.getElem_mem _)).2) (by omega)]
    rw [forms_cons, ← b1, b2]
    have e : ((cn.toNat : Nat) : Int) = cn := by omega
    rw [e, ← a1]
  · rw [if_neg hc] at h
    simp only [Prod.mk.injEq] at h
    exact absurd h.2 hc
theorem any_form {n : Int} (s : List Int) (h : I6 n) : anyR (form (zz n) ++ s) 0 = (n, s, 0) := reads_form s h.1 h.2 h.1 h.2
theorem rec_there {r : RC} (s : List Int) (h : r.fine) : recR (forms [r.key, r.val] ++ s) 0 = (r, s, 0) := by
  unfold recR
  simp only [forms_cons, forms_nil, List.append_nil, List.append_assoc]
  rw [any_form _ h.1]
  simp only
  rw [any_form _ h.2]
theorem check_one {x : EV} (h : checkE x = 0) : (x.kind = 1 ∧ x.id = 0) ∨ (x.kind = 2 ∧ x.key = 0 ∧ x.val = 0 ∧ 1 ≤ x.id ∧ x.id ≤ 9007199254740992) := by
  unfold checkE at h
  split at h
  · assumption
  · cases h
theorem take_there {x : EV} (s : List Int) (h : x.fine) (hc : checkE x = 0) : takeR (forms (numsE x) ++ s) 0 = (x, s, 0) := by
  have hck := hc
  rcases check_one hc with ⟨h1, h2⟩ | ⟨h1, h2, h3, h4, h5⟩
  · have hn : numsE x = [1, x.key, x.val] := by unfold numsE; rw [if_pos hck, if_pos h1]
    have hk : kindR (forms (numsE x) ++ s) 0 = (1, forms [x.key, x.val] ++ s, 0) := by
      rw [hn, forms_cons, List.append_assoc]
      exact reads_form _ (by decide) (by decide) (by decide) (by decide)
    unfold takeR
    rw [hk, if_neg (by simp), if_pos rfl]
    simp only
    have hr := rec_there (r := ⟨x.key, x.val⟩) s ⟨h.2.1, h.2.2.1⟩
    simp only at hr
    rw [hr]
    obtain ⟨kd, ky, vl, id⟩ := x
    simp only at h1 h2
    subst h1 h2
    rfl
  · have hn : numsE x = [2, x.id] := by unfold numsE; rw [if_pos hck, if_neg (by omega)]
    have hk : kindR (forms (numsE x) ++ s) 0 = (2, form (zz x.id) ++ s, 0) := by
      rw [hn, forms_cons, forms_cons, forms_nil, List.append_nil, List.append_assoc]
      exact reads_form _ (by decide) (by decide) (by decide) (by decide)
    unfold takeR
    rw [hk, if_pos rfl]
    simp only
    have hr : idR (form (zz x.id) ++ s) 0 = (x.id, s, 0) := reads_form s h.2.2.2.1 h.2.2.2.2 h4 h5
    rw [hr]
    obtain ⟨kd, ky, vl, id⟩ := x
    simp only at h1 h2 h3
    subst h1 h2 h3
    rfl
theorem loop_there : ∀ (es : List EV), (∀ x ∈ es, x.fine ∧ checkE x = 0) → loopR es.length (forms (es.flatMap numsE)) 0 = (es, [], 0)
  | [], _ => rfl
  | x :: es, h => by
    have hx := h x (by simp)
    have ih := loop_there es (fun y hy => h y (by simp [hy]))
    rw [List.flatMap_cons, forms_append, List.length_cons, loopR_next (take_there _ hx.1 hx.2), ih]
/-- What Bytes makes is parsed as it was. -/
theorem parse_there {es : List EV} {rb : List Int} (hf : ∀ e ∈ es, e.fine) (h : bytesC es = (rb, 0)) : parseC rb = (es, 0) := by
  unfold bytesC at h
  split at h
  · rename_i ha
    split at h
    · rename_i hl
      simp only [Prod.mk.injEq, and_true] at h
      subst h
      have hall : ∀ x ∈ es, x.fine ∧ checkE x = 0 := fun x hx => ⟨hf x hx, by
        rw [List.all_eq_true] at ha
        simpa using ha x hx⟩
      have h1 : countR (forms ((es.length : Int) :: es.flatMap numsE)) = ((es.length : Int), forms (es.flatMap numsE), 0) := by
        rw [forms_cons]
        exact reads_form _ (by omega) (by omega) (by omega) (by omega)
      unfold parseC
      rw [h1]
      simp only [Int.toNat_natCast]
      rw [loop_there es hall]
      rfl
    · simp at h
  · simp at h
theorem prec_there {r : RC} (h : r.fine) : precC (forms [r.key, r.val]) = (r, 0) := by
  have hr := rec_there [] h
  rw [List.append_nil] at hr
  unfold precC
  rw [hr]
  rfl
end Go.Proofs.Ytihbdlbnpkmafaa
