/-
  Sinks, plainly: what is put in order, what stays right. No conditions.
-/
import Derived.Test.YtboofnkajjnmeaaSkh
import Derived.Test.YtboofnkajjnmeaaSki
namespace Go.Proofs.Ytboofnkajjnmeaa
open Go.RowKit

def insP (x : TP) : List TP → List TP
  | [] => [x]
  | y :: l => if y.t.id < x.t.id then y :: insP x l else x :: y :: l
theorem insP_map (x : TP) : ∀ l : List TP, (insP x l).map TP.t = insT x.t (l.map TP.t)
  | [] => rfl
  | y :: l => by
    unfold insP
    rw [List.map_cons]
    unfold insT
    by_cases h : y.t.id < x.t.id
    · rw [if_pos h, if_pos h, List.map_cons, insP_map x l]
    · rw [if_neg h, if_neg h]; rfl
theorem insP_perm (x : TP) : ∀ l : List TP, (insP x l).Perm (x :: l)
  | [] => List.Perm.refl _
  | y :: l => by
    unfold insP
    split
    · exact ((insP_perm x l).cons y).trans (List.Perm.swap _ _ _)
    · exact List.Perm.refl _
theorem insT_mem (t : TX) : ∀ (l : List TX) {y : TX}, y ∈ insT t l ↔ y = t ∨ y ∈ l
  | [], y => by simp [insT]
  | x :: l, y => by
    unfold insT
    split
    · rw [List.mem_cons, insT_mem t l, List.mem_cons]
      constructor
      · rintro (h | h | h)
        · exact .inr (.inl h)
        · exact .inl h
        · exact .inr (.inr h)
      · rintro (h | h | h)
        · exact .inr (.inl h)
        · exact .inl h
        · exact .inr (.inr h)
    · rw [List.mem_cons]
theorem insT_len (t : TX) : ∀ l : List TX, (insT t l).length = l.length + 1
  | [] => rfl
  | x :: l => by
    unfold insT
    split
    · rw [List.length_cons, insT_len t l, List.length_cons]
    · rfl
theorem insT_pw (t : TX) : ∀ l : List TX, l.Pairwise (fun a b => a.id < b.id) → (∀ y ∈ l, y.id ≠ t.id) → (insT t l).Pairwise (fun a b => a.id < b.id)
  | [], _, _ => by simp [insT]
  | x :: l, h, hn => by
    obtain ⟨h1, h2⟩ := List.pairwise_cons.1 h
    unfold insT
    split
    · rename_i hx
      refine List.pairwise_cons.2 ⟨fun y hy => ?_, insT_pw t l h2 (fun y hy => hn y (by simp [hy]))⟩
      rcases (insT_mem t l).1 hy with rfl | hy
      · exact hx
      · exact h1 y hy
    · rename_i hx
      have hne := hn x (by simp)
      refine List.pairwise_cons.2 ⟨fun y hy => ?_, h⟩
      rcases List.mem_cons.1 hy with rfl | hy
      · omega
      · have := h1 y hy; omega
theorem insI_mem (n : Int) : ∀ (l : List Int) {y : Int}, y ∈ insI n l ↔ y = n ∨ y ∈ l
  | [], y => by simp [insI]
  | x :: l, y => by
    unfold insI
    split
    · rw [List.mem_cons, insI_mem n l, List.mem_cons]
      constructor
      · rintro (h | h | h)
        · exact .inr (.inl h)
        · exact .inl h
        · exact .inr (.inr h)
      · rintro (h | h | h)
        · exact .inr (.inl h)
        · exact .inl h
        · exact .inr (.inr h)
    · rw [List.mem_cons]
theorem insI_len (n : Int) : ∀ l : List Int, (insI n l).length = l.length + 1
  | [] => rfl
  | x :: l => by
    unfold insI
    split
    · rw [List.length_cons, insI_len n l, List.length_cons]
    · rfl
theorem insI_pw (n : Int) : ∀ l : List Int, l.Pairwise (· < ·) → n ∉ l → (insI n l).Pairwise (· < ·)
  | [], _, _ => by simp [insI]
  | x :: l, h, hn => by
    obtain ⟨h1, h2⟩ := List.pairwise_cons.1 h
    unfold insI
    split
    · rename_i hx
      refine List.pairwise_cons.2 ⟨fun y hy => ?_, insI_pw n l h2 (fun hy => hn (by simp [hy]))⟩
      rcases (insI_mem n l).1 hy with rfl | hy
      · exact hx
      · exact h1 y hy
    · rename_i hx
      have hne : n ≠ x := fun e => hn (by simp [e])
      refine List.pairwise_cons.2 ⟨fun y hy => ?_, h⟩
      rcases List.mem_cons.1 hy with rfl | hy
      · omega
      · have := h1 y hy; omega
theorem find_none {s : SK} {i : Int} (h : findC s i = none) : ∀ y ∈ s.pre, y.id ≠ i := fun y hy => by
  have := List.find?_eq_none.1 h y hy
  simpa using this
theorem find_mem {s : SK} {i : Int} {t : TX} (h : findC s i = some t) : t ∈ s.pre ∧ t.id = i :=
  ⟨List.mem_of_find?_eq_some h, by simpa using List.find?_some h⟩
theorem find_P (k : PK) (i : Int) : findC k.sk i = (findP k.xs i).map TP.t := by
  unfold findC findP PK.sk
  simp only
  induction k.xs with
  | nil => rfl
  | cons x xs ih =>
    simp only [List.map_cons, List.find?_cons]
    cases (x.t.id == i)
    · exact ih
    · rfl
theorem reg_ne {s : SK} (h : okS s) {t : TX} (ht : t ∈ s.pre) : s.reg ≠ 0 := fun e => by
  obtain ⟨h1, h2, _⟩ := h.may t ht
  have := h1.1
  unfold posI at this
  omega
theorem ins_ok {s : SK} (h : okS s) {t : TX} (hm : mayC s.vec.length t) (he : t.ep = s.reg) (hd : doneC s t.ep t.id = false) (hf : findC s t.id = none) (hr : s.pre.length < 8) : okS ⟨s.reg, s.out, s.vec, s.done, insT t s.pre⟩ := by
  have hdn : t.id ∉ s.done := fun hi => by
    have := of_decide_eq_false hd
    exact this ⟨he, hi⟩
  refine ⟨h.reg, h.out, h.parts, h.vec, h.done, by rw [insT_len]; omega, insT_pw t _ h.pre (find_none hf), fun y hy => ?_, fun h0 => ?_⟩
  · rcases (insT_mem t s.pre).1 hy with rfl | hy
    · exact ⟨hm, he, hdn⟩
    · exact h.may y hy
  · have := hm.1
    unfold posI at this
    have h0' : s.reg = 0 := h0
    omega
theorem del_ok {s : SK} (h : okS s) (i : Int) : okS ⟨s.reg, s.out, s.vec, s.done, delT i s.pre⟩ :=
  ⟨h.reg, h.out, h.parts, h.vec, h.done, Nat.le_trans (List.length_filter_le _ _) h.room, h.pre.filter _, fun y hy => h.may y (List.mem_filter.1 hy).1, fun h0 => by
    obtain ⟨a, b, c, d⟩ := h.zero h0
    exact ⟨a, b, by show delT i s.pre = []; rw [c]; rfl, d⟩⟩
theorem suit_zero {s : SK} {t : TX} (h : suitC s t = 0) : t.beg ≤ s.out.length ∧ aboveC t.vs s.vec = true ∧ (s.out.length : Int) ≤ t.beg + t.rs.length ∧ sameC s t = true ∧ t.beg + t.rs.length ≤ 4096 := by
  unfold suitC at h
  split at h
  · cases h
  · split at h
    · cases h
    · split at h
      · cases h
      · split at h
        · cases h
        · rename_i a b c d
          refine ⟨by omega, ?_, ?_, by simpa using c, by omega⟩
          · cases hq : aboveC t.vs s.vec
            · exact absurd (.inl hq) b
            · rfl
          · rcases Int.lt_or_le (t.beg + t.rs.length) s.out.length with hlt | hle
            · exact absurd (.inr hlt) b
            · exact hle
theorem put_ok {s : SK} (h : okS s) {t : TX} {i : Int} (hf : findC s i = some t) (hd : doneC s s.reg i = false) (hs : suitC s t = 0) : okS (putC s t i) := by
  obtain ⟨hm, hi⟩ := find_mem hf
  obtain ⟨h1, h2, h3⟩ := h.may t hm
  obtain ⟨a, b, c, _, e⟩ := suit_zero hs
  have hdn : i ∉ s.done := fun hh => by
    have := of_decide_eq_false hd
    exact this ⟨rfl, hh⟩
  have hne := reg_ne h hm
  obtain ⟨m1, m2, m3, m4, m5, m6, m7⟩ := h1
  have hv : t.vs.length = s.vec.length := by exact_mod_cast m6
  refine ⟨h.reg, ?_, by show 1 ≤ t.vs.length ∧ t.vs.length ≤ 4; rw [hv]; exact h.parts, m7, ⟨insI_pw i _ h.done.1 hdn, fun x hx => ?_⟩, Nat.le_trans (List.length_filter_le _ _) h.room, h.pre.filter _, fun y hy => ?_, fun h0 => absurd h0 hne⟩
  · show (s.out ++ t.rs.drop (s.out.length - t.beg.toNat)).length ≤ 4096
    rw [List.length_append, List.length_drop]
    omega
  · rcases (insI_mem i s.done).1 hx with rfl | hx
    · rw [← hi]; exact m2
    · exact h.done.2 x hx
  · obtain ⟨hy1, hy2⟩ := List.mem_filter.1 hy
    obtain ⟨y1, y2, y3⟩ := h.may y hy1
    refine ⟨by show mayC (t.vs.length : Int) y; rw [hv]; exact y1, y2, fun hh => ?_⟩
    rcases (insI_mem i s.done).1 hh with e1 | hh
    · rw [e1] at hy2; simp at hy2
    · exact y3 hh
theorem rais_reg (s : SK) (e : Int) : (raisC s e).reg = if s.reg < e then e else s.reg := by
  unfold raisC; split <;> rfl
end Go.Proofs.Ytboofnkajjnmeaa
