/-
  What the reference's folds does, plainly, and that it keeps just what the program keeps. Nothing is walked.
-/
import Derived.Test.YtifldnpccgbnkaaGreatRgw
import Derived.Test.YtifldnpccgbnkaaGreatOpn
namespace Go.Proofs.YtifldnpccgbnkaaGreat.Op
open Go.RowKit

/-- Where the first one of a key stands, or how many there are. -/
def atK (ks : List KS) (ky : Int) : Nat := (ks.takeWhile (fun x => decide (x.key ≠ ky))).length
/-- Where the first one of a greater key stands, or how many there are. -/
def gtK (ks : List KS) (ky : Int) : Nat := (ks.takeWhile (fun x => decide (x.key ≤ ky))).length
def hadR (ks : List KS) (ky : Int) : Bool := decide (atK ks ky < ks.length)
def oldR (ks : List KS) (ky : Int) : KS := if hadR ks ky = true then ks[atK ks ky]! else ⟨ky, 0, 0⟩
def nowR (fn : Int) (x : KS) (vl : Int) : KS := ⟨x.key, (if x.cnt < 9007199254740992 then x.cnt + 1 else x.cnt), accC fn x.cnt x.acc vl⟩
def posR (ks : List KS) (ky : Int) : Nat := if hadR ks ky = true then atK ks ky else gtK ks ky
def stayR (kd ar : Int) (x : KS) : Bool := (kd != 6) || decide (x.cnt < ar)
def keysR (kd fn ar : Int) (ks : List KS) (r : RC) : List KS :=
  ks.take (posR ks r.key) ++ ((if stayR kd ar (nowR fn (oldR ks r.key) r.val) = true then [nowR fn (oldR ks r.key) r.val] else []) ++ ks.drop (if hadR ks r.key = true then posR ks r.key + 1 else posR ks r.key))
def putsR (kd fn ar : Int) (ks : List KS) (r : RC) : List PU :=
  if (kd == 6 && decide ((nowR fn (oldR ks r.key) r.val).cnt < ar)) = true then [] else [⟨0, r.key, (nowR fn (oldR ks r.key) r.val).acc⟩]

/-- What is kept, by keys, rising. -/
structure SK (s : ST) (ks : List KS) : Prop where
  rise : (ks.map KS.key).Pairwise (· < ·)
  each : ∀ x ∈ ks, s x.key = (x.cnt, x.acc) ∧ x.cnt ≠ 0
  all : ∀ k, (s k).1 ≠ 0 → ∃ x ∈ ks, x.key = k
theorem rise_eq : ∀ {a b : List KS}, (a.map KS.key).Pairwise (· < ·) → (b.map KS.key).Pairwise (· < ·) → (∀ x ∈ a, x ∈ b) → (∀ x ∈ b, x ∈ a) → a = b
  | [], [], _, _, _, _ => rfl
  | [], y :: b, _, _, _, h => by have := h y (by simp); cases this
  | x :: a, [], _, _, h, _ => by have := h x (by simp); cases this
  | x :: a, y :: b, ha, hb, h1, h2 => by
    rw [List.map_cons, List.pairwise_cons] at ha hb
    have hax : ∀ z ∈ a, x.key < z.key := fun z hz => ha.1 _ (List.mem_map_of_mem hz)
    have hby : ∀ z ∈ b, y.key < z.key := fun z hz => hb.1 _ (List.mem_map_of_mem hz)
    have e : x = y := by
      rcases List.mem_cons.1 (h1 x (by simp)) with e | e
      · exact e
      · rcases List.mem_cons.1 (h2 y (by simp)) with e2 | e2
        · exact e2.symm
        · have := hby x e
          have := hax y e2
          omega
    subst e
    congr 1
    refine rise_eq ha.2 hb.2 (fun z hz => ?_) (fun z hz => ?_)
    · rcases List.mem_cons.1 (h1 z (by simp [hz])) with e | e
      · have := hax z hz
        rw [e] at this
        omega
      · exact e
    · rcases List.mem_cons.1 (h2 z (by simp [hz])) with e | e
      · have := hby z hz
        rw [e] at this
        omega
      · exact e
theorem SK.one {s : ST} {a b : List KS} (h1 : SK s a) (h2 : SK s b) : a = b := by
  have key : ∀ {a b : List KS}, SK s a → SK s b → ∀ x ∈ a, x ∈ b := fun {a b} h1 h2 x hx => by
    obtain ⟨e1, e2⟩ := h1.each x hx
    obtain ⟨y, hy, hk⟩ := h2.all x.key (by rw [e1]; exact e2)
    obtain ⟨f1, _⟩ := h2.each y hy
    rw [hk, e1] at f1
    obtain ⟨yk, yc, ya⟩ := y
    obtain ⟨xk, xc, xa⟩ := x
    simp only [Prod.mk.injEq] at f1 hk
    obtain ⟨rfl, rfl⟩ := f1
    subst hk
    exact hy
  exact rise_eq h1.rise h2.rise (key h1 h2) (key h2 h1)
theorem sk_fin {s : ST} {ks : List Int} (hp : ks.Pairwise (· < ·)) (h : ∀ k, (s k).1 ≠ 0 → k ∈ ks) : SK s (finC s ks) := by
  refine ⟨?_, fun x hx => ?_, fun k hk => ?_⟩
  · unfold finC
    rw [List.map_map]
    have e : (ks.filter (fun k => decide ((s k).1 ≠ 0))).map (KS.key ∘ fun k => (⟨k, (s k).1, (s k).2⟩ : KS)) = ks.filter (fun k => decide ((s k).1 ≠ 0)) := List.map_id'' (fun _ => rfl) _
    rw [e]
    exact hp.filter _
  · unfold finC at hx
    rw [List.mem_map] at hx
    obtain ⟨k, hk, rfl⟩ := hx
    have := (List.mem_filter.1 hk).2
    exact ⟨rfl, by simpa using this⟩
  · refine ⟨⟨k, (s k).1, (s k).2⟩, ?_, rfl⟩
    unfold finC
    rw [List.mem_map]
    exact ⟨k, List.mem_filter.2 ⟨h k hk, by simpa using hk⟩, rfl⟩
theorem state_touch (kd fn ar : Int) : ∀ (rs : List RC) (s : ST) (k : Int), (stateC kd fn ar s rs k).1 ≠ 0 → (s k).1 ≠ 0 ∨ k ∈ rs.map RC.key
  | [], _, _, h => .inl h
  | r :: rs, s, k, h => by
    rcases state_touch kd fn ar rs (stepC kd fn ar s r) k h with h1 | h1
    · unfold stepC at h1
      by_cases e : k = r.key
      · exact .inr (by simp [e])
      · rw [if_neg e] at h1
        exact .inl h1
    · exact .inr (by rw [List.map_cons]; exact List.mem_cons_of_mem _ h1)
theorem sk_prog (kd fn ar : Int) (rs : List RC) : SK (stateC kd fn ar ST.none rs) (finC (stateC kd fn ar ST.none rs) (keysC (rs.map RC.key))) :=
  sk_fin (keysC_facts _).1 (fun k hk => ((keysC_facts _).2 k).2 (by
    rcases state_touch kd fn ar rs ST.none k hk with h | h
    · exact absurd rfl h
    · exact h))
theorem take_while_get {α : Type} (q : α → Bool) : ∀ (l : List α), (∀ x ∈ l.take (l.takeWhile q).length, q x = true) ∧ (∀ y, l[(l.takeWhile q).length]? = some y → q y = false)
  | [] => ⟨by simp, by simp⟩
  | x :: l => by
    obtain ⟨h1, h2⟩ := take_while_get q l
    cases hx : q x with
    | true =>
      rw [List.takeWhile_cons_of_pos hx, List.length_cons]
      refine ⟨fun y hy => ?_, fun y hy => h2 y (by simpa using hy)⟩
      rw [List.take_succ_cons] at hy
      rcases List.mem_cons.1 hy with rfl | hy
      · exact hx
      · exact h1 y hy
    | false =>
      rw [List.takeWhile_cons_of_neg (by simp [hx])]
      refine ⟨by simp, fun y hy => ?_⟩
      have : x = y := by simpa using hy
      rw [← this]; exact hx
theorem while_le {α : Type} (q : α → Bool) : ∀ (l : List α), (l.takeWhile q).length ≤ l.length
  | [] => Nat.le_refl _
  | x :: l => by
    have := while_le q l
    cases hx : q x with
    | true => rw [List.takeWhile_cons_of_pos hx, List.length_cons, List.length_cons]; omega
    | false => rw [List.takeWhile_cons_of_neg (by simp [hx])]; simp
theorem had_yes {ks : List KS} {ky : Int} (h : hadR ks ky = true) : atK ks ky < ks.length ∧ (ks[atK ks ky]!).key = ky := by
  have hl : atK ks ky < ks.length := by unfold hadR at h; simpa using h
  refine ⟨hl, ?_⟩
  have := (take_while_get (fun x : KS => decide (x.key ≠ ky)) ks).2 _ (List.getElem?_eq_getElem hl)
  rw [getElem!_pos ks _ hl]
  simpa using this
theorem had_no {ks : List KS} {ky : Int} (h : hadR ks ky = false) : ∀ x ∈ ks, x.key ≠ ky := by
  have hl : ks.length ≤ atK ks ky := by unfold hadR at h; simpa using h
  intro x hx
  have h1 := (take_while_get (fun x : KS => decide (x.key ≠ ky)) ks).1
  have h2 : ks.take (ks.takeWhile (fun x : KS => decide (x.key ≠ ky))).length = ks := List.take_of_length_le hl
  rw [h2] at h1
  simpa using h1 x hx
theorem sk_had {s : ST} {ks : List KS} (h : SK s ks) (ky : Int) : s ky = ((oldR ks ky).cnt, (oldR ks ky).acc) ∨ ((s ky).1 = 0 ∧ hadR ks ky = false) := by
  cases hh : hadR ks ky with
  | true =>
    obtain ⟨h1, h2⟩ := had_yes hh
    have hm : ks[atK ks ky]! ∈ ks := by rw [getElem!_pos ks _ h1]; exact List.getElem_mem _
    have := (h.each _ hm).1
    unfold oldR
    rw [if_pos hh, ← this, h2]
    exact .inl rfl
  | false =>
    refine .inr ⟨?_, rfl⟩
    apply Classical.byContradiction
    intro hc
    obtain ⟨x, hx, hk⟩ := h.all ky hc
    exact had_no hh x hx hk
/-- States that keep nothing of a key keep no accumulator of it. -/
def ST.tidy (s : ST) : Prop := ∀ k, (s k).1 = 0 → (s k).2 = 0
theorem tidy_step {kd fn ar : Int} {s : ST} (ht : ST.tidy s) (hf : ST.fair s) (r : RC) : ST.tidy (stepC kd fn ar s r) := fun k => by
  unfold stepC
  by_cases e : k = r.key
  · rw [if_pos e]
    split
    · intro h
      have := hf k
      have h' : countC (s k).1 = 0 := h
      unfold countC at h'
      split at h' <;> omega
    · intro _; rfl
  · rw [if_neg e]; exact ht k
theorem tidy_state (kd fn ar : Int) : ∀ (rs : List RC) (s : ST), ST.tidy s → ST.fair s → ST.tidy (stateC kd fn ar s rs)
  | [], _, h, _ => h
  | r :: rs, s, h, hf => tidy_state kd fn ar rs (stepC kd fn ar s r) (tidy_step h hf r) (fair_step hf r)
theorem sk_old {s : ST} {ks : List KS} (h : SK s ks) (ht : ST.tidy s) (ky : Int) : (oldR ks ky).key = ky ∧ s ky = ((oldR ks ky).cnt, (oldR ks ky).acc) := by
  cases hh : hadR ks ky with
  | true =>
    refine ⟨?_, ?_⟩
    · unfold oldR; rw [if_pos hh]; exact (had_yes hh).2
    · rcases sk_had h ky with e | ⟨_, e⟩
      · exact e
      · rw [hh] at e; cases e
  | false =>
    have ho : oldR ks ky = ⟨ky, 0, 0⟩ := by unfold oldR; rw [if_neg (by rw [hh]; decide)]
    rw [ho]
    refine ⟨rfl, ?_⟩
    rcases sk_had h ky with e | ⟨e, _⟩
    · rw [ho] at e; exact e
    · exact Prod.ext e (ht ky e)
theorem count_eq {c : Int} (h : c ≤ 9007199254740992) : (if c < 9007199254740992 then c + 1 else c) = countC c := by
  unfold countC
  split
  · rfl
  · omega
theorem stay_eq {kd ar c a k : Int} (hk : keepsC kd = true) (hc : (c : Int) ≤ 9007199254740992) {fn vl : Int} : stayR kd ar (nowR fn ⟨k, c, a⟩ vl) = staysC kd ar c := by
  unfold stayR staysC nowR
  simp only [count_eq hc]
  unfold keepsC at hk
  have : kd = 5 ∨ kd = 6 := by simpa using hk
  rcases this with rfl | rfl
  · simp
  · simp
theorem take_drop_mem {ks : List KS} {i : Nat} (hi : i < ks.length) {x : KS} : x ∈ ks ↔ x ∈ ks.take i ∨ x = ks[i]! ∨ x ∈ ks.drop (i + 1) := by
  conv => lhs; rw [← List.take_append_drop i ks, ← List.getElem_cons_drop hi]
  rw [List.mem_append, List.mem_cons, getElem!_pos ks i hi]
/-- The parts ahead of and behind the place of a key. -/
theorem pos_parts {ks : List KS} (hr : (ks.map KS.key).Pairwise (· < ·)) (ky : Int) : (∀ x ∈ ks.take (posR ks ky), x.key < ky) ∧ (∀ x ∈ ks.drop (if hadR ks ky = true then posR ks ky + 1 else posR ks ky), ky < x.key) ∧ (∀ x ∈ ks, x.key = ky ∨ x ∈ ks.take (posR ks ky) ∨ x ∈ ks.drop (if hadR ks ky = true then posR ks ky + 1 else posR ks ky)) := by
  have hget := List.pairwise_iff_getElem.1 hr
  have hlen : (ks.map KS.key).length = ks.length := List.length_map ..
  cases hh : hadR ks ky with
  | true =>
    obtain ⟨h1, h2⟩ := had_yes hh
    have hp : posR ks ky = atK ks ky := by unfold posR; rw [if_pos hh]
    rw [hp, if_pos rfl]
    rw [getElem!_pos ks _ h1] at h2
    refine ⟨fun x hx => ?_, fun x hx => ?_, fun x hx => ?_⟩
    · obtain ⟨i, hi, rfl⟩ := List.getElem_of_mem hx
      rw [List.length_take] at hi
      rw [List.getElem_take]
      have := hget i (atK ks ky) (by omega) (by omega) (by omega)
      rw [List.getElem_map, List.getElem_map, h2] at this
      exact this
    · obtain ⟨i, hi, rfl⟩ := List.getElem_of_mem hx
      rw [List.length_drop] at hi
      rw [List.getElem_drop]
      have := hget (atK ks ky) (atK ks ky + 1 + i) (by omega) (by omega) (by omega)
      rw [List.getElem_map, List.getElem_map, h2] at this
      exact this
    · rcases (take_drop_mem h1).1 hx with e | e | e
      · exact .inr (.inl e)
      · rw [getElem!_pos ks _ h1] at e
        exact .inl (by rw [e]; exact h2)
      · exact .inr (.inr e)
  | false =>
    have hp : posR ks ky = gtK ks ky := by unfold posR; rw [if_neg (by rw [hh]; decide)]
    rw [hp, if_neg (by decide)]
    obtain ⟨w1, w2⟩ := take_while_get (fun x : KS => decide (x.key ≤ ky)) ks
    refine ⟨fun x hx => ?_, fun x hx => ?_, fun x hx => ?_⟩
    · have h3 : x.key ≤ ky := by simpa using w1 x hx
      have h4 := had_no hh x (List.mem_of_mem_take hx)
      omega
    · obtain ⟨i, hi, rfl⟩ := List.getElem_of_mem hx
      rw [List.length_drop] at hi
      rw [List.getElem_drop]
      have hg : gtK ks ky < ks.length := by omega
      have h5 : ky < (ks[gtK ks ky]).key := by
        have := w2 _ (List.getElem?_eq_getElem hg)
        have h6 : ¬ (ks[gtK ks ky]).key ≤ ky := by simpa using this
        omega
      by_cases e : i = 0
      · subst e; exact h5
      · have := hget (gtK ks ky) (gtK ks ky + i) (by omega) (by omega) (by omega)
        rw [List.getElem_map, List.getElem_map] at this
        exact Int.lt_trans h5 this
    · rw [← List.take_append_drop (gtK ks ky) ks, List.mem_append] at hx
      exact .inr hx
theorem sk_step {kd fn ar : Int} {s : ST} {ks : List KS} (hk : keepsC kd = true) (h : SK s ks) (ht : ST.tidy s) (hf : ST.fair s) (r : RC) : SK (stepC kd fn ar s r) (keysR kd fn ar ks r) ∧ putsR kd fn ar ks r = outC kd fn ar s r := by
  obtain ⟨ok, os⟩ := sk_old h ht r.key
  obtain ⟨⟨xk, xc, xa⟩, hx⟩ : ∃ x, oldR ks r.key = x := ⟨_, rfl⟩
  rw [hx] at ok os
  simp only at ok os
  subst ok
  have hfr := hf r.key
  rw [os] at hfr
  simp only at hfr
  have hst : stayR kd ar (nowR fn ⟨r.key, xc, xa⟩ r.val) = staysC kd ar xc := stay_eq hk hfr.2
  have hnow : nowR fn ⟨r.key, xc, xa⟩ r.val = ⟨r.key, countC xc, accC fn xc xa r.val⟩ := by unfold nowR; simp only [count_eq hfr.2]
  obtain ⟨p1, p2, p3⟩ := pos_parts h.rise r.key
  have hstep : ∀ k, stepC kd fn ar s r k = if k = r.key then (if staysC kd ar xc = true then (countC xc, accC fn xc xa r.val) else (0, 0)) else s k := fun k => by
    unfold stepC
    by_cases e : k = r.key
    · rw [if_pos e, if_pos e, e, os]
    · rw [if_neg e, if_neg e]
  have hc1 : countC xc ≠ 0 := by unfold countC; split <;> omega
  refine ⟨?_, ?_⟩
  · unfold keysR
    rw [hx, hst, hnow]
    obtain ⟨A, hA⟩ : ∃ A, ks.take (posR ks r.key) = A := ⟨_, rfl⟩
    obtain ⟨B, hB⟩ : ∃ B, ks.drop (if hadR ks r.key = true then posR ks r.key + 1 else posR ks r.key) = B := ⟨_, rfl⟩
    rw [hA] at p1 p3 ⊢
    rw [hB] at p2 p3 ⊢
    have hAks : ∀ x ∈ A, x ∈ ks := fun x hx => by rw [← hA] at hx; exact List.mem_of_mem_take hx
    have hBks : ∀ x ∈ B, x ∈ ks := fun x hx => by rw [← hB] at hx; exact List.mem_of_mem_drop hx
    have hAr : (A.map KS.key).Pairwise (· < ·) := by rw [← hA, List.map_take]; exact h.rise.sublist (List.take_sublist _ _)
    have hBr : (B.map KS.key).Pairwise (· < ·) := by rw [← hB, List.map_drop]; exact h.rise.sublist (List.drop_sublist _ _)
    have hM : ∀ x ∈ (if staysC kd ar xc = true then [(⟨r.key, countC xc, accC fn xc xa r.val⟩ : KS)] else []), staysC kd ar xc = true ∧ x = ⟨r.key, countC xc, accC fn xc xa r.val⟩ := fun x hx => by
      split at hx
      · rename_i hs
        exact ⟨hs, by simpa using hx⟩
      · cases hx
    refine ⟨?_, fun x hx => ?_, fun k hk2 => ?_⟩
    · rw [List.map_append, List.map_append, List.pairwise_append]
      refine ⟨hAr, ?_, ?_⟩
      · rw [List.pairwise_append]
        refine ⟨?_, hBr, ?_⟩
        · split <;> simp
        · intro a ha b hb
          rw [List.mem_map] at ha hb
          obtain ⟨x, hx, rfl⟩ := ha
          obtain ⟨y, hy, rfl⟩ := hb
          rw [(hM x hx).2]
          exact p2 y hy
      · intro a ha b hb
        rw [List.mem_map] at ha
        obtain ⟨x, hx, rfl⟩ := ha
        have hxl := p1 x hx
        rw [List.mem_append, List.mem_map, List.mem_map] at hb
        rcases hb with ⟨y, hy, rfl⟩ | ⟨y, hy, rfl⟩
        · rw [(hM y hy).2]; exact hxl
        · exact Int.lt_trans hxl (p2 y hy)
    · rw [List.mem_append, List.mem_append] at hx
      rw [hstep]
      rcases hx with hx | hx | hx
      · rw [if_neg (by have := p1 x hx; omega)]
        exact h.each x (hAks x hx)
      · obtain ⟨h1, h2⟩ := hM x hx
        rw [h2, if_pos rfl, if_pos h1]
        exact ⟨rfl, hc1⟩
      · rw [if_neg (by have := p2 x hx; omega)]
        exact h.each x (hBks x hx)
    · rw [hstep] at hk2
      by_cases e : k = r.key
      · rw [if_pos e] at hk2
        by_cases hs : staysC kd ar xc = true
        · refine ⟨⟨r.key, countC xc, accC fn xc xa r.val⟩, ?_, e.symm⟩
          rw [List.mem_append, List.mem_append, if_pos hs]
          exact .inr (.inl (by simp))
        · rw [if_neg hs] at hk2
          exact absurd rfl hk2
      · rw [if_neg e] at hk2
        obtain ⟨x, hx, hxk⟩ := h.all k hk2
        refine ⟨x, ?_, hxk⟩
        rw [List.mem_append, List.mem_append]
        rcases p3 x hx with e2 | e2 | e2
        · rw [hxk] at e2; exact absurd e2 e
        · exact .inl e2
        · exact .inr (.inr e2)
  · unfold putsR outC tellC
    rw [hx, hnow, os]
    simp only
    unfold staysC
    unfold keepsC at hk
    have : kd = 5 ∨ kd = 6 := by simpa using hk
    rcases this with rfl | rfl
    · simp
    · simp
/-- All that the reference does with records, plainly. -/
def allR (kd fn ar : Int) : List KS → List RC → List KS × List PU
  | ks, [] => (ks, [])
  | ks, r :: rs => ((allR kd fn ar (keysR kd fn ar ks r) rs).1, putsR kd fn ar ks r ++ (allR kd fn ar (keysR kd fn ar ks r) rs).2)
theorem allR_snoc (kd fn ar : Int) : ∀ (rs : List RC) (ks : List KS) (r : RC), allR kd fn ar ks (rs ++ [r]) = (keysR kd fn ar (allR kd fn ar ks rs).1 r, (allR kd fn ar ks rs).2 ++ putsR kd fn ar (allR kd fn ar ks rs).1 r)
  | [], ks, r => by simp [allR]
  | x :: rs, ks, r => by
    simp only [List.cons_append, allR]
    rw [allR_snoc kd fn ar rs (keysR kd fn ar ks x) r]
    simp [List.append_assoc]
theorem allR_is {kd fn ar : Int} (hk : keepsC kd = true) : ∀ (rs : List RC) (s : ST) (ks : List KS), SK s ks → ST.tidy s → ST.fair s → SK (stateC kd fn ar s rs) (allR kd fn ar ks rs).1 ∧ (allR kd fn ar ks rs).2 = outsC kd fn ar s rs
  | [], s, ks, h, _, _ => ⟨h, rfl⟩
  | r :: rs, s, ks, h, ht, hf => by
    obtain ⟨h1, h2⟩ := sk_step (fn := fn) (ar := ar) hk h ht hf r
    obtain ⟨i1, i2⟩ := allR_is hk rs (stepC kd fn ar s r) (keysR kd fn ar ks r) h1 (tidy_step ht hf r) (fair_step hf r)
    refine ⟨i1, ?_⟩
    show putsR kd fn ar ks r ++ (allR kd fn ar (keysR kd fn ar ks r) rs).2 = outC kd fn ar s r ++ outsC kd fn ar (stepC kd fn ar s r) rs
    rw [h2, i2]
theorem allR_nil {kd fn ar : Int} (hk : keepsC kd = true) (rs : List RC) : (allR kd fn ar [] rs).1 = finC (stateC kd fn ar ST.none rs) (keysC (rs.map RC.key)) ∧ (allR kd fn ar [] rs).2 = outsC kd fn ar ST.none rs := by
  have h0 : SK ST.none [] := ⟨List.Pairwise.nil, fun x hx => (by cases hx), fun k hk2 => absurd rfl hk2⟩
  obtain ⟨i1, i2⟩ := allR_is (fn := fn) (ar := ar) hk rs ST.none [] h0 (fun _ _ => rfl) (fun _ => ⟨Int.le_refl 0, (by decide : (0 : Int) ≤ 9007199254740992)⟩)
  exact ⟨i1.one (sk_prog kd fn ar rs), i2⟩
end Go.Proofs.YtifldnpccgbnkaaGreat.Op

/-
  The reference's rest, Value, Holds, Acc. The conditions: that numbers are of their types.
-/
namespace Go.Proofs.YtifldnpccgbnkaaGreat.Op
open Go.RowKit

theorem odd_eq (v : Int) : (v.tmod 2 != 0) = (bits .and .i64 v 1 != 0) := by
  have h : bits .and .i64 v 1 = (((v % 18446744073709551616).toNat % 2 : Nat) : Int) := by
    unfold bits
    have h1 : (BitVec.ofInt IntKind.i64.bits v &&& BitVec.ofInt IntKind.i64.bits 1).toNat = (v % 18446744073709551616).toNat % 2 := by
      rw [BitVec.toNat_and]
      have e1 : (BitVec.ofInt IntKind.i64.bits 1).toNat = 1 := by decide
      have e2 : (BitVec.ofInt IntKind.i64.bits v).toNat = (v % 18446744073709551616).toNat := by
        rw [BitVec.toNat_ofInt]
        rfl
      rw [e1, e2, Nat.and_one_is_mod]
    show IntKind.i64.wrap ((BitVec.ofInt IntKind.i64.bits v &&& BitVec.ofInt IntKind.i64.bits 1).toNat : Int) = _
    rw [h1, IntKind.wrap_i64]
    omega
  rw [h]
  have h2 : v.tmod 2 = 0 ↔ v % 2 = 0 := by
    rw [← Int.dvd_iff_tmod_eq_zero, Int.dvd_iff_emod_eq_zero]
  by_cases h3 : v % 2 = 0
  · have a : v.tmod 2 = 0 := h2.2 h3
    have b : (v % 18446744073709551616).toNat % 2 = 0 := by omega
    rw [a, b]
    rfl
  · have a : v.tmod 2 ≠ 0 := fun e => h3 (h2.1 e)
    have b : (v % 18446744073709551616).toNat % 2 = 1 := by omega
    rw [b]
    simpa using a

set_option maxRecDepth 100000 in
set_option maxHeartbeats 2000000 in
theorem rrest_any {W : World} {x a : Int} (_hx : I6 x) (ha : I6 a) : Calls Tryz.prog 88 #[.int .i64 x, .int .i64 a] W fun e w' => e = .returned (.int .i64 (restC x a)) ∧ w' = W := by
  by_cases h1 : a < 1
  · have d1 : decide (a < 1) = true := decide_eq_true h1
    have HR : Hid (restC x a = 0) := hide (by unfold restC; rw [if_pos h1])
    go_enter Tryz.func88, Tryz.ntmps88
    go_wp2
    go_ret
    exact ⟨by rw [HR.out]; rfl, rfl⟩
  · have d1 : decide (a < 1) = false := decide_eq_false h1
    have hne : a ≠ 0 := by omega
    have hb1 := Int.tmod_lt_of_pos x (show 0 < a by omega)
    have hb2 : -a < x.tmod a := by
      have := Int.tmod_lt_of_pos (-x) (show 0 < a by omega)
      rw [Int.neg_tmod] at this
      omega
    unfold I6 at ha
    by_cases h2 : x.tmod a < 0
    · have d2 : decide (x.tmod a < 0) = true := decide_eq_true h2
      have HR : Hid (restC x a = x.tmod a + a) := hide (by unfold restC; rw [if_neg h1, if_pos h2])
      go_enter Tryz.func88, Tryz.ntmps88
      go_wp2
      go_ret
      exact ⟨by rw [HR.out]; rfl, rfl⟩
    · have d2 : decide (x.tmod a < 0) = false := decide_eq_false h2
      have HR : Hid (restC x a = x.tmod a) := hide (by unfold restC; rw [if_neg h1, if_neg h2])
      go_enter Tryz.func88, Tryz.ntmps88
      go_wp2
      go_ret
      exact ⟨by rw [HR.out]; rfl, rfl⟩

set_option maxRecDepth 100000 in
set_option maxHeartbeats 4000000 in
theorem rholds_any {W : World} {kd pt fn ar ky vl : Int} {ip : Option Addr} {n ic : Nat} {rb : Bool} (hrb : holdsC kd fn ar vl = rb) : Calls Tryz.prog 87 #[.agg #[.int .i64 kd, .int .i64 pt, .int .i64 fn, .int .i64 ar, .slice ip n ic], .agg #[.int .i64 ky, .int .i64 vl]] W fun e w' => e = .returned (.bool rb) ∧ Below W.heap.size W w' := by
  have HB : Hid (Below W.heap.size W ((W.alloc (.cells #[.int .i64 kd, .int .i64 pt, .int .i64 fn, .int .i64 ar, .slice ip n ic] 55 (0, 0))).alloc (.cells #[.int .i64 ky, .int .i64 vl] 71 (0, 0)))) := hide ((alloc_below _ _).trans ((alloc_below _ _).mono (alloc_below _ _).size))
  by_cases hkd : kd = 3
  · subst hkd
    by_cases h1 : fn = 1
    · subst h1
      have hr : decide (vl < ar) = rb := by rw [← hrb]; unfold holdsC; simp
      subst hr
      clear hrb
      go_enter Tryz.func87, Tryz.ntmps87
      go_wp2
      go_ret
      exact ⟨rfl, HB.out⟩
    · have e1 := ne_eq h1
      by_cases h2 : fn = 2
      · subst h2
        have hr : (vl == ar) = rb := by rw [← hrb]; unfold holdsC; simp
        subst hr
        clear hrb
        go_enter Tryz.func87, Tryz.ntmps87
        go_wp2
        go_ret
        exact ⟨rfl, HB.out⟩
      · have e2 := ne_eq h2
        by_cases h3 : fn = 3
        · subst h3
          have hr : (vl.tmod 2 != 0) = rb := by rw [← hrb, odd_eq]; unfold holdsC; simp
          subst hr
          clear hrb
          go_enter Tryz.func87, Tryz.ntmps87
          go_wp2
          go_ret
          exact ⟨rfl, HB.out⟩
        · have e3 := ne_eq h3
          by_cases h4 : fn = 4
          · subst h4
            have hr : (bits .and .i64 vl ar != 0) = rb := by rw [← hrb]; unfold holdsC; simp
            subst hr
            clear hrb
            go_enter Tryz.func87, Tryz.ntmps87
            go_wp2
            go_ret
            exact ⟨rfl, HB.out⟩
          · have e4 := ne_eq h4
            have hr : false = rb := by rw [← hrb]; unfold holdsC; rw [if_pos rfl, if_neg h1, if_neg h2, if_neg h3, if_neg h4]
            subst hr
            clear hrb h1 h2 h3 h4
            go_enter Tryz.func87, Tryz.ntmps87
            go_wp2
            go_ret
            exact ⟨rfl, HB.out⟩
  · have e0 : (kd != 3) = true := by simpa using hkd
    have hr : true = rb := by rw [← hrb]; unfold holdsC; rw [if_neg hkd]
    subst hr
    clear hrb hkd
    go_enter Tryz.func87, Tryz.ntmps87
    go_wp2
    go_ret
    exact ⟨rfl, HB.out⟩

set_option maxRecDepth 100000 in
set_option maxHeartbeats 4000000 in
theorem racc_any {W : World} {fn key cnt acc v : Int} : Calls Tryz.prog 101 #[.int .i64 fn, .agg #[.int .i64 key, .int .i64 cnt, .int .i64 acc], .int .i64 v] W fun e w' => e = .returned (.int .i64 (accC fn cnt acc v)) ∧ Below W.heap.size W w' := by
  have HB : Hid (Below W.heap.size W (W.alloc (.cells #[.int .i64 key, .int .i64 cnt, .int .i64 acc] 105 (0, 0)))) := hide (alloc_below _ _)
  by_cases hc : cnt < 1
  · have d : decide (cnt < 1) = true := decide_eq_true hc
    have HR : Hid (accC fn cnt acc v = if fn = 2 then 1 else v) := hide (by unfold accC; rw [if_pos hc])
    rw [HR.out]
    clear HR
    by_cases h2 : fn = 2
    · subst h2
      rw [if_pos rfl]
      go_enter Tryz.func101, Tryz.ntmps101
      go_wp2
      go_ret
      exact ⟨rfl, HB.out⟩
    · rw [if_neg h2]
      have e2 := ne_eq h2
      clear h2
      go_enter Tryz.func101, Tryz.ntmps101
      go_wp2
      go_ret
      exact ⟨rfl, HB.out⟩
  · have d : decide (cnt < 1) = false := decide_eq_false hc
    have HR0 : Hid (accC fn cnt acc v = if fn = 1 then wrap64 (acc + v) else if fn = 2 then wrap64 (acc + 1) else if fn = 3 then max acc v else if fn = 4 then min acc v else v) := hide (by unfold accC; rw [if_neg hc])
    rw [HR0.out]
    clear HR0
    by_cases h1 : fn = 1
    · subst h1
      rw [if_pos rfl]
      go_enter Tryz.func101, Tryz.ntmps101
      go_wp2
      go_ret
      exact ⟨rfl, HB.out⟩
    · have e1 := ne_eq h1
      by_cases h2 : fn = 2
      · subst h2
        rw [if_neg (by decide), if_pos rfl]
        go_enter Tryz.func101, Tryz.ntmps101
        go_wp2
        go_ret
        exact ⟨rfl, HB.out⟩
      · have e2 := ne_eq h2
        by_cases h3 : fn = 3
        · subst h3
          rw [if_neg (by decide), if_neg (by decide), if_pos rfl]
          go_enter Tryz.func101, Tryz.ntmps101
          go_wp2
          all_goals
            go_ret
            first
            | exact ⟨rfl, HB.out⟩
            | exact ⟨(retI (by omega) : Ending.returned (.int .i64 v) = Ending.returned (.int .i64 (max acc v))), HB.out⟩
            | exact ⟨(retI (by omega) : Ending.returned (.int .i64 acc) = Ending.returned (.int .i64 (max acc v))), HB.out⟩
        · have e3 := ne_eq h3
          by_cases h4 : fn = 4
          · subst h4
            rw [if_neg (by decide), if_neg (by decide), if_neg (by decide), if_pos rfl]
            go_enter Tryz.func101, Tryz.ntmps101
            go_wp2
            all_goals
              go_ret
              first
              | exact ⟨rfl, HB.out⟩
              | exact ⟨(retI (by omega) : Ending.returned (.int .i64 v) = Ending.returned (.int .i64 (min acc v))), HB.out⟩
              | exact ⟨(retI (by omega) : Ending.returned (.int .i64 acc) = Ending.returned (.int .i64 (min acc v))), HB.out⟩
          · have e4 := ne_eq h4
            rw [if_neg h1, if_neg h2, if_neg h3, if_neg h4]
            clear h1 h2 h3 h4
            go_enter Tryz.func101, Tryz.ntmps101
            go_wp2
            go_ret
            exact ⟨rfl, HB.out⟩
set_option maxRecDepth 100000 in
set_option maxHeartbeats 8000000 in
theorem rvalue_any {W : World} {kd pt fn ar ky vl : Int} {ip : Option Addr} {n ic : Nat} (hk : I6 ky) (hv : I6 vl) (ha : I6 ar) {k' v' : Int} (hr : valueC kd fn ar ky vl = (k', v')) :
    Calls Tryz.prog 86 #[.agg #[.int .i64 kd, .int .i64 pt, .int .i64 fn, .int .i64 ar, .slice ip n ic], .agg #[.int .i64 ky, .int .i64 vl]] W fun e w' => e = .returned (.agg #[.int .i64 k', .int .i64 v']) ∧ Below W.heap.size W w' := by
  obtain ⟨V, hV⟩ : ∃ V, V = ((W.alloc (.cells #[.int .i64 kd, .int .i64 pt, .int .i64 fn, .int .i64 ar, .slice ip n ic] 55 (0, 0))).alloc (.cells #[.int .i64 ky, .int .i64 vl] 71 (0, 0))).alloc (.cells #[.int .i64 0, .int .i64 0] 71 (0, 0)) := ⟨_, rfl⟩
  have ab1 := alloc_below W (.cells #[.int .i64 kd, .int .i64 pt, .int .i64 fn, .int .i64 ar, .slice ip n ic] 55 (0, 0))
  have ab2 := alloc_below (W.alloc (.cells #[.int .i64 kd, .int .i64 pt, .int .i64 fn, .int .i64 ar, .slice ip n ic] 55 (0, 0))) (.cells #[.int .i64 ky, .int .i64 vl] 71 (0, 0))
  have ab3 := alloc_below ((W.alloc (.cells #[.int .i64 kd, .int .i64 pt, .int .i64 fn, .int .i64 ar, .slice ip n ic] 55 (0, 0))).alloc (.cells #[.int .i64 ky, .int .i64 vl] 71 (0, 0))) (.cells #[.int .i64 0, .int .i64 0] 71 (0, 0))
  have hbV : Below W.heap.size W V := by rw [hV]; exact (ab1.trans (ab2.mono ab1.size)).trans (ab3.mono (Nat.le_trans ab1.size ab2.size))
  have u0 : V.heap[W.heap.size]? = some (.cells #[.int .i64 kd, .int .i64 pt, .int .i64 fn, .int .i64 ar, .slice ip n ic] 55 (0, 0)) := by rw [hV]; exact below_box ab3 (below_box ab2 (heap_alloc_new W _))
  have u1 : V.heap[W.heap.size + 1]? = some (.cells #[.int .i64 ky, .int .i64 vl] 71 (0, 0)) := by
    have e : W.heap.size + 1 = (W.alloc (.cells #[.int .i64 kd, .int .i64 pt, .int .i64 fn, .int .i64 ar, .slice ip n ic] 55 (0, 0))).heap.size := by simp
    rw [hV, e]
    exact below_box ab3 (heap_alloc_new _ _)
  have u2 : V.heap[W.heap.size + 2]? = some (.cells #[.int .i64 0, .int .i64 0] 71 (0, 0)) := by
    have e : W.heap.size + 2 = ((W.alloc (.cells #[.int .i64 kd, .int .i64 pt, .int .i64 fn, .int .i64 ar, .slice ip n ic] 55 (0, 0))).alloc (.cells #[.int .i64 ky, .int .i64 vl] 71 (0, 0))).heap.size := by simp
    rw [hV, e]
    exact heap_alloc_new _ _
  have HVB := hide hbV
  obtain ⟨sB, hsB⟩ : ∃ sB, W.heap.size = sB := ⟨_, rfl⟩
  rw [hsB] at u0 u1 u2
  have HSB := hide hsB
  have HR := hide hr
  have z0 : V.cell? ⟨sB, 0, none⟩ = some (.int .i64 kd) := by simp [World.cell?, u0]
  have z2 : V.cell? ⟨sB, 2, none⟩ = some (.int .i64 fn) := by simp [World.cell?, u0]
  have z3 : V.cell? ⟨sB, 3, none⟩ = some (.int .i64 ar) := by simp [World.cell?, u0]
  have r0 : V.cell? ⟨sB + 1, 0, none⟩ = some (.int .i64 ky) := by simp [World.cell?, u1]
  have r1 : V.cell? ⟨sB + 1, 1, none⟩ = some (.int .i64 vl) := by simp [World.cell?, u1]
  have s0 : V.frozen? ⟨sB + 1, 0, none⟩ = false := by simp [World.frozen?, u1]
  have s1 : V.frozen? ⟨sB + 1, 1, none⟩ = false := by simp [World.frozen?, u1]
  clear ab1 ab2 ab3 hbV hr
  by_cases k2 : kd = 2
  · subst k2
    by_cases h1 : fn = 1
    · subst h1
      have hq := HR.out
      unfold valueC at hq
      rw [if_pos rfl] at hq
      unfold mappedC at hq
      rw [if_pos rfl] at hq
      simp only [Prod.mk.injEq] at hq
      obtain ⟨hqk, hqv⟩ := hq
      subst hqk
      have p1 := heap_setCell_same V (sB + 1) 1 _ _ (.int .i64 v') u1
      have p2 := heap_set_other (o := 1) (v := .int .i64 v') u2 (show sB + 1 ≠ sB + 2 by omega)
      have hbX : Below W.heap.size W (V.setCell ⟨sB + 1, 1, none⟩ (.int .i64 v')) := HVB.out.trans ((Only.set (F := (· = sB + 1)) V (sB + 1) 1 _ rfl).below HVB.out.size (fun i e => by have e' : i = sB + 1 := e; have := HSB.out; omega))
      obtain ⟨X, hX⟩ : ∃ X, X = V.setCell ⟨sB + 1, 1, none⟩ (.int .i64 v') := ⟨_, rfl⟩
      rw [← hX] at p1 p2 hbX
      have HBX := hide hbX
      obtain ⟨f0, f1, f2, f3⟩ := rec_facts p2 (.int .i64 ky)
      have HE := hide (set2 p2 (.int .i64 ky) (.int .i64 v'))
      have HBF : Hid (Below W.heap.size W ((X.setCell ⟨sB + 2, 0, none⟩ (.int .i64 ky)).setCell ⟨sB + 2, 1, none⟩ (.int .i64 v'))) := hide (HBX.out.trans ((only_set2 X (sB + 2) _ _).below HBX.out.size (fun i e => by have e' : i = sB + 2 := e; have := HSB.out; omega)))
      have q0 : X.cell? ⟨sB + 1, 0, none⟩ = some (.int .i64 ky) := by simp [World.cell?, p1]
      have q1 : X.cell? ⟨sB + 1, 1, none⟩ = some (.int .i64 v') := by simp [World.cell?, p1]
      clear hk hv ha u0 u1 u2 p1 p2 hbX
      go_enter Tryz.func86, Tryz.ntmps86
      go_upto_region 1 with fail
      rw [← hV]
      try rw [hsB]
      clear hV hsB
      go_upto_region 15 with fail
      try rw [hqv]
      rw [← hX]
      clear hX
      go_wp2
      refine bodyPost_ret (results_cell_row rfl _ _ (sB + 2) 71 _ _ _ rfl HE.out Tryz.underlying71 rfl (by kernel_rfl)) rfl ?_
      exact ⟨rfl, HBF.out⟩
    · have e1 := ne_eq h1
      by_cases h2 : fn = 2
      · subst h2
        have hq := HR.out
        unfold valueC at hq
        rw [if_pos rfl] at hq
        unfold mappedC at hq
        rw [if_neg (by decide), if_pos rfl] at hq
        simp only [Prod.mk.injEq] at hq
        obtain ⟨hqk, hqv⟩ := hq
        subst hqk
        have p1 := heap_setCell_same V (sB + 1) 1 _ _ (.int .i64 v') u1
        have p2 := heap_set_other (o := 1) (v := .int .i64 v') u2 (show sB + 1 ≠ sB + 2 by omega)
        have hbX : Below W.heap.size W (V.setCell ⟨sB + 1, 1, none⟩ (.int .i64 v')) := HVB.out.trans ((Only.set (F := (· = sB + 1)) V (sB + 1) 1 _ rfl).below HVB.out.size (fun i e => by have e' : i = sB + 1 := e; have := HSB.out; omega))
        obtain ⟨X, hX⟩ : ∃ X, X = V.setCell ⟨sB + 1, 1, none⟩ (.int .i64 v') := ⟨_, rfl⟩
        rw [← hX] at p1 p2 hbX
        have HBX := hide hbX
        obtain ⟨f0, f1, f2, f3⟩ := rec_facts p2 (.int .i64 ky)
        have HE := hide (set2 p2 (.int .i64 ky) (.int .i64 v'))
        have HBF : Hid (Below W.heap.size W ((X.setCell ⟨sB + 2, 0, none⟩ (.int .i64 ky)).setCell ⟨sB + 2, 1, none⟩ (.int .i64 v'))) := hide (HBX.out.trans ((only_set2 X (sB + 2) _ _).below HBX.out.size (fun i e => by have e' : i = sB + 2 := e; have := HSB.out; omega)))
        have q0 : X.cell? ⟨sB + 1, 0, none⟩ = some (.int .i64 ky) := by simp [World.cell?, p1]
        have q1 : X.cell? ⟨sB + 1, 1, none⟩ = some (.int .i64 v') := by simp [World.cell?, p1]
        clear hk hv ha u0 u1 u2 p1 p2 hbX
        go_enter Tryz.func86, Tryz.ntmps86
        go_upto_region 1 with fail
        rw [← hV]
        try rw [hsB]
        clear hV hsB
        go_upto_region 15 with fail
        try rw [hqv]
        rw [← hX]
        clear hX
        go_wp2
        refine bodyPost_ret (results_cell_row rfl _ _ (sB + 2) 71 _ _ _ rfl HE.out Tryz.underlying71 rfl (by kernel_rfl)) rfl ?_
        exact ⟨rfl, HBF.out⟩
      · have e2 := ne_eq h2
        by_cases h3 : fn = 3
        · subst h3
          have hq := HR.out
          unfold valueC at hq
          rw [if_pos rfl] at hq
          unfold mappedC at hq
          rw [if_neg (by decide), if_neg (by decide), if_pos rfl] at hq
          simp only [Prod.mk.injEq] at hq
          obtain ⟨hqk, hqv⟩ := hq
          subst hqk
          have p1 := heap_setCell_same V (sB + 1) 1 _ _ (.int .i64 v') u1
          have p2 := heap_set_other (o := 1) (v := .int .i64 v') u2 (show sB + 1 ≠ sB + 2 by omega)
          have hbX : Below W.heap.size W (V.setCell ⟨sB + 1, 1, none⟩ (.int .i64 v')) := HVB.out.trans ((Only.set (F := (· = sB + 1)) V (sB + 1) 1 _ rfl).below HVB.out.size (fun i e => by have e' : i = sB + 1 := e; have := HSB.out; omega))
          obtain ⟨X, hX⟩ : ∃ X, X = V.setCell ⟨sB + 1, 1, none⟩ (.int .i64 v') := ⟨_, rfl⟩
          rw [← hX] at p1 p2 hbX
          have HBX := hide hbX
          obtain ⟨f0, f1, f2, f3⟩ := rec_facts p2 (.int .i64 ky)
          have HE := hide (set2 p2 (.int .i64 ky) (.int .i64 v'))
          have HBF : Hid (Below W.heap.size W ((X.setCell ⟨sB + 2, 0, none⟩ (.int .i64 ky)).setCell ⟨sB + 2, 1, none⟩ (.int .i64 v'))) := hide (HBX.out.trans ((only_set2 X (sB + 2) _ _).below HBX.out.size (fun i e => by have e' : i = sB + 2 := e; have := HSB.out; omega)))
          have q0 : X.cell? ⟨sB + 1, 0, none⟩ = some (.int .i64 ky) := by simp [World.cell?, p1]
          have q1 : X.cell? ⟨sB + 1, 1, none⟩ = some (.int .i64 v') := by simp [World.cell?, p1]
          clear hk hv ha u0 u1 u2 p1 p2 hbX
          go_enter Tryz.func86, Tryz.ntmps86
          go_upto_region 1 with fail
          rw [← hV]
          try rw [hsB]
          clear hV hsB
          go_upto_region 15 with fail
          try rw [hqv]
          rw [← hX]
          clear hX
          go_wp2
          refine bodyPost_ret (results_cell_row rfl _ _ (sB + 2) 71 _ _ _ rfl HE.out Tryz.underlying71 rfl (by kernel_rfl)) rfl ?_
          exact ⟨rfl, HBF.out⟩
        · have e3 := ne_eq h3
          by_cases h4 : fn = 4
          · subst h4
            have hq := HR.out
            unfold valueC at hq
            rw [if_pos rfl] at hq
            unfold mappedC at hq
            rw [if_neg (by decide), if_neg (by decide), if_neg (by decide), if_pos rfl] at hq
            simp only [Prod.mk.injEq] at hq
            obtain ⟨hqk, hqv⟩ := hq
            subst hqk
            have p1 := heap_setCell_same V (sB + 1) 1 _ _ (.int .i64 v') u1
            have p2 := heap_set_other (o := 1) (v := .int .i64 v') u2 (show sB + 1 ≠ sB + 2 by omega)
            have hbX : Below W.heap.size W (V.setCell ⟨sB + 1, 1, none⟩ (.int .i64 v')) := HVB.out.trans ((Only.set (F := (· = sB + 1)) V (sB + 1) 1 _ rfl).below HVB.out.size (fun i e => by have e' : i = sB + 1 := e; have := HSB.out; omega))
            obtain ⟨X, hX⟩ : ∃ X, X = V.setCell ⟨sB + 1, 1, none⟩ (.int .i64 v') := ⟨_, rfl⟩
            rw [← hX] at p1 p2 hbX
            have HBX := hide hbX
            obtain ⟨f0, f1, f2, f3⟩ := rec_facts p2 (.int .i64 ky)
            have HE := hide (set2 p2 (.int .i64 ky) (.int .i64 v'))
            have HBF : Hid (Below W.heap.size W ((X.setCell ⟨sB + 2, 0, none⟩ (.int .i64 ky)).setCell ⟨sB + 2, 1, none⟩ (.int .i64 v'))) := hide (HBX.out.trans ((only_set2 X (sB + 2) _ _).below HBX.out.size (fun i e => by have e' : i = sB + 2 := e; have := HSB.out; omega)))
            have q0 : X.cell? ⟨sB + 1, 0, none⟩ = some (.int .i64 ky) := by simp [World.cell?, p1]
            have q1 : X.cell? ⟨sB + 1, 1, none⟩ = some (.int .i64 v') := by simp [World.cell?, p1]
            clear hk hv ha u0 u1 u2 p1 p2 hbX
            go_enter Tryz.func86, Tryz.ntmps86
            go_upto_region 1 with fail
            rw [← hV]
            try rw [hsB]
            clear hV hsB
            go_upto_region 15 with fail
            try rw [hqv]
            rw [← hX]
            clear hX
            go_wp2
            refine bodyPost_ret (results_cell_row rfl _ _ (sB + 2) 71 _ _ _ rfl HE.out Tryz.underlying71 rfl (by kernel_rfl)) rfl ?_
            exact ⟨rfl, HBF.out⟩
          · have e4 := ne_eq h4
            have hq := HR.out
            unfold valueC at hq
            rw [if_pos rfl] at hq
            unfold mappedC at hq
            rw [if_neg h1, if_neg h2, if_neg h3, if_neg h4] at hq
            clear h1 h2 h3 h4
            simp only [Prod.mk.injEq] at hq
            obtain ⟨hqk, hqv⟩ := hq
            subst hqk
            subst hqv
            obtain ⟨f0, f1, f2, f3⟩ := rec_facts u2 (.int .i64 ky)
            have HE := hide (set2 u2 (.int .i64 ky) (.int .i64 vl))
            have HBF : Hid (Below W.heap.size W ((V.setCell ⟨sB + 2, 0, none⟩ (.int .i64 ky)).setCell ⟨sB + 2, 1, none⟩ (.int .i64 vl))) := hide (HVB.out.trans ((only_set2 V (sB + 2) _ _).below HVB.out.size (fun i e => by have e' : i = sB + 2 := e; have := HSB.out; omega)))
            clear hk hv ha u0 u1 u2
            go_enter Tryz.func86, Tryz.ntmps86
            go_upto_region 1 with fail
            rw [← hV]
            try rw [hsB]
            clear hV hsB
            go_wp2
            refine bodyPost_ret (results_cell_row rfl _ _ (sB + 2) 71 _ _ _ rfl HE.out Tryz.underlying71 rfl (by kernel_rfl)) rfl ?_
            exact ⟨rfl, HBF.out⟩
  · have g2 := ne_eq k2
    by_cases k4 : kd = 4
    · subst k4
      by_cases h2 : fn = 2
      · subst h2
        have hq := HR.out
        unfold valueC at hq
        rw [if_neg (by decide), if_pos rfl] at hq
        unfold keyedC at hq
        rw [if_pos rfl] at hq
        simp only [Prod.mk.injEq] at hq
        obtain ⟨hqk, hqv⟩ := hq
        subst hqv
        have HC := hide (rrest_any (W := V) (x := ky) hk ha)
        rw [hqk] at HC
        have p1 := heap_setCell_same V (sB + 1) 0 _ _ (.int .i64 k') u1
        have p2 := heap_set_other (o := 0) (v := .int .i64 k') u2 (show sB + 1 ≠ sB + 2 by omega)
        have hbX : Below W.heap.size W (V.setCell ⟨sB + 1, 0, none⟩ (.int .i64 k')) := HVB.out.trans ((Only.set (F := (· = sB + 1)) V (sB + 1) 0 _ rfl).below HVB.out.size (fun i e => by have e' : i = sB + 1 := e; have := HSB.out; omega))
        obtain ⟨X, hX⟩ : ∃ X, X = V.setCell ⟨sB + 1, 0, none⟩ (.int .i64 k') := ⟨_, rfl⟩
        rw [← hX] at p1 p2 hbX
        have HBX := hide hbX
        obtain ⟨f0, f1, f2, f3⟩ := rec_facts p2 (.int .i64 k')
        have HE := hide (set2 p2 (.int .i64 k') (.int .i64 vl))
        have HBF : Hid (Below W.heap.size W ((X.setCell ⟨sB + 2, 0, none⟩ (.int .i64 k')).setCell ⟨sB + 2, 1, none⟩ (.int .i64 vl))) := hide (HBX.out.trans ((only_set2 X (sB + 2) _ _).below HBX.out.size (fun i e => by have e' : i = sB + 2 := e; have := HSB.out; omega)))
        have q0 : X.cell? ⟨sB + 1, 0, none⟩ = some (.int .i64 k') := by simp [World.cell?, p1]
        have q1 : X.cell? ⟨sB + 1, 1, none⟩ = some (.int .i64 vl) := by simp [World.cell?, p1]
        clear hk hv ha u0 u1 u2 p1 p2 hbX
        go_enter Tryz.func86, Tryz.ntmps86
        go_upto_region 1 with fail
        rw [← hV]
        try rw [hsB]
        clear hV hsB
        go_wp2_with fail
        refine HC.out.mono ?_
        rintro _ _ ⟨rfl, rfl⟩
        clear HC
        go_upto_region 15 with fail
        rw [← hX]
        clear hX
        go_wp2
        refine bodyPost_ret (results_cell_row rfl _ _ (sB + 2) 71 _ _ _ rfl HE.out Tryz.underlying71 rfl (by kernel_rfl)) rfl ?_
        exact ⟨rfl, HBF.out⟩
      · have e2 := ne_eq h2
        by_cases h3 : fn = 3
        · subst h3
          have hq := HR.out
          unfold valueC at hq
          rw [if_neg (by decide), if_pos rfl] at hq
          unfold keyedC at hq
          rw [if_neg (by decide), if_pos rfl] at hq
          simp only [Prod.mk.injEq] at hq
          obtain ⟨hqk, hqv⟩ := hq
          subst hqv
          have HC := hide (rrest_any (W := V) (x := vl) hv ha)
          rw [hqk] at HC
          have p1 := heap_setCell_same V (sB + 1) 0 _ _ (.int .i64 k') u1
          have p2 := heap_set_other (o := 0) (v := .int .i64 k') u2 (show sB + 1 ≠ sB + 2 by omega)
          have hbX : Below W.heap.size W (V.setCell ⟨sB + 1, 0, none⟩ (.int .i64 k')) := HVB.out.trans ((Only.set (F := (· = sB + 1)) V (sB + 1) 0 _ rfl).below HVB.out.size (fun i e => by have e' : i = sB + 1 := e; have := HSB.out; omega))
          obtain ⟨X, hX⟩ : ∃ X, X = V.setCell ⟨sB + 1, 0, none⟩ (.int .i64 k') := ⟨_, rfl⟩
          rw [← hX] at p1 p2 hbX
          have HBX := hide hbX
          obtain ⟨f0, f1, f2, f3⟩ := rec_facts p2 (.int .i64 k')
          have HE := hide (set2 p2 (.int .i64 k') (.int .i64 vl))
          have HBF : Hid (Below W.heap.size W ((X.setCell ⟨sB + 2, 0, none⟩ (.int .i64 k')).setCell ⟨sB + 2, 1, none⟩ (.int .i64 vl))) := hide (HBX.out.trans ((only_set2 X (sB + 2) _ _).below HBX.out.size (fun i e => by have e' : i = sB + 2 := e; have := HSB.out; omega)))
          have q0 : X.cell? ⟨sB + 1, 0, none⟩ = some (.int .i64 k') := by simp [World.cell?, p1]
          have q1 : X.cell? ⟨sB + 1, 1, none⟩ = some (.int .i64 vl) := by simp [World.cell?, p1]
          clear hk hv ha u0 u1 u2 p1 p2 hbX
          go_enter Tryz.func86, Tryz.ntmps86
          go_upto_region 1 with fail
          rw [← hV]
          try rw [hsB]
          clear hV hsB
          go_wp2_with fail
          refine HC.out.mono ?_
          rintro _ _ ⟨rfl, rfl⟩
          clear HC
          go_upto_region 15 with fail
          rw [← hX]
          clear hX
          go_wp2
          refine bodyPost_ret (results_cell_row rfl _ _ (sB + 2) 71 _ _ _ rfl HE.out Tryz.underlying71 rfl (by kernel_rfl)) rfl ?_
          exact ⟨rfl, HBF.out⟩
        · have e3 := ne_eq h3
          by_cases h4 : fn = 4
          · subst h4
            have hq := HR.out
            unfold valueC at hq
            rw [if_neg (by decide), if_pos rfl] at hq
            unfold keyedC at hq
            rw [if_neg (by decide), if_neg (by decide), if_pos rfl] at hq
            simp only [Prod.mk.injEq] at hq
            obtain ⟨hqk, hqv⟩ := hq
            subst hqv
            subst hqk
            have p1 := heap_setCell_same V (sB + 1) 0 _ _ (.int .i64 ar) u1
            have p2 := heap_set_other (o := 0) (v := .int .i64 ar) u2 (show sB + 1 ≠ sB + 2 by omega)
            have hbX : Below W.heap.size W (V.setCell ⟨sB + 1, 0, none⟩ (.int .i64 ar)) := HVB.out.trans ((Only.set (F := (· = sB + 1)) V (sB + 1) 0 _ rfl).below HVB.out.size (fun i e => by have e' : i = sB + 1 := e; have := HSB.out; omega))
            obtain ⟨X, hX⟩ : ∃ X, X = V.setCell ⟨sB + 1, 0, none⟩ (.int .i64 ar) := ⟨_, rfl⟩
            rw [← hX] at p1 p2 hbX
            have HBX := hide hbX
            obtain ⟨f0, f1, f2, f3⟩ := rec_facts p2 (.int .i64 ar)
            have HE := hide (set2 p2 (.int .i64 ar) (.int .i64 vl))
            have HBF : Hid (Below W.heap.size W ((X.setCell ⟨sB + 2, 0, none⟩ (.int .i64 ar)).setCell ⟨sB + 2, 1, none⟩ (.int .i64 vl))) := hide (HBX.out.trans ((only_set2 X (sB + 2) _ _).below HBX.out.size (fun i e => by have e' : i = sB + 2 := e; have := HSB.out; omega)))
            have q0 : X.cell? ⟨sB + 1, 0, none⟩ = some (.int .i64 ar) := by simp [World.cell?, p1]
            have q1 : X.cell? ⟨sB + 1, 1, none⟩ = some (.int .i64 vl) := by simp [World.cell?, p1]
            clear hk hv ha u0 u1 u2 p1 p2 hbX
            go_enter Tryz.func86, Tryz.ntmps86
            go_upto_region 1 with fail
            rw [← hV]
            try rw [hsB]
            clear hV hsB
            go_upto_region 15 with fail
            rw [← hX]
            clear hX
            go_wp2
            refine bodyPost_ret (results_cell_row rfl _ _ (sB + 2) 71 _ _ _ rfl HE.out Tryz.underlying71 rfl (by kernel_rfl)) rfl ?_
            exact ⟨rfl, HBF.out⟩
          · have e4 := ne_eq h4
            have hq := HR.out
            unfold valueC at hq
            rw [if_neg (by decide), if_pos rfl] at hq
            unfold keyedC at hq
            rw [if_neg h2, if_neg h3, if_neg h4] at hq
            clear h2 h3 h4
            simp only [Prod.mk.injEq] at hq
            obtain ⟨hqk, hqv⟩ := hq
            subst hqk
            subst hqv
            obtain ⟨f0, f1, f2, f3⟩ := rec_facts u2 (.int .i64 ky)
            have HE := hide (set2 u2 (.int .i64 ky) (.int .i64 vl))
            have HBF : Hid (Below W.heap.size W ((V.setCell ⟨sB + 2, 0, none⟩ (.int .i64 ky)).setCell ⟨sB + 2, 1, none⟩ (.int .i64 vl))) := hide (HVB.out.trans ((only_set2 V (sB + 2) _ _).below HVB.out.size (fun i e => by have e' : i = sB + 2 := e; have := HSB.out; omega)))
            clear hk hv ha u0 u1 u2
            go_enter Tryz.func86, Tryz.ntmps86
            go_upto_region 1 with fail
            rw [← hV]
            try rw [hsB]
            clear hV hsB
            go_wp2
            refine bodyPost_ret (results_cell_row rfl _ _ (sB + 2) 71 _ _ _ rfl HE.out Tryz.underlying71 rfl (by kernel_rfl)) rfl ?_
            exact ⟨rfl, HBF.out⟩
    · have g4 := ne_eq k4
      have hq := HR.out
      unfold valueC at hq
      rw [if_neg k2, if_neg k4] at hq
      clear k2 k4
      simp only [Prod.mk.injEq] at hq
      obtain ⟨hqk, hqv⟩ := hq
      subst hqk
      subst hqv
      obtain ⟨f0, f1, f2, f3⟩ := rec_facts u2 (.int .i64 ky)
      have HE := hide (set2 u2 (.int .i64 ky) (.int .i64 vl))
      have HBF : Hid (Below W.heap.size W ((V.setCell ⟨sB + 2, 0, none⟩ (.int .i64 ky)).setCell ⟨sB + 2, 1, none⟩ (.int .i64 vl))) := hide (HVB.out.trans ((only_set2 V (sB + 2) _ _).below HVB.out.size (fun i e => by have e' : i = sB + 2 := e; have := HSB.out; omega)))
      clear hk hv ha u0 u1 u2
      go_enter Tryz.func86, Tryz.ntmps86
      go_upto_region 1 with fail
      rw [← hV]
      try rw [hsB]
      clear hV hsB
      go_wp2
      refine bodyPost_ret (results_cell_row rfl _ _ (sB + 2) 71 _ _ _ rfl HE.out Tryz.underlying71 rfl (by kernel_rfl)) rfl ?_
      exact ⟨rfl, HBF.out⟩
end Go.Proofs.YtifldnpccgbnkaaGreat.Op
