/-
  A ledger of what was kept by rising keys, plainly: each record keeps it right. Nothing is walked.
-/
import Derived.Test.YtcabfohmimglpaaOkp
namespace Go.Proofs.Ytcabfohmimglpaa
open Go.RowKit

/-- What holds of a ledger while records go through it. -/
structure KI (s : ST) (L : LG) : Prop where
  gl : L.gone.length = L.old.length
  tl : ∀ x, x < L.old.length → (∃ k, k < L.es.length ∧ (L.es[k]!).key = (L.old[x]!).key) → L.tw[x]? = some (L.old.length : Int)
  rise : (L.old.map KS.key).Pairwise (· < ·)
  er : Rises L.es
  live : ∀ x, x < L.old.length → L.gone.getD x false = false → s (L.old[x]!).key = ((L.old[x]!).cnt, (L.old[x]!).acc) ∧ (L.old[x]!).cnt ≠ 0
  ent : ∀ k, k < L.es.length → (∃ x : Nat, x < L.old.length ∧ (L.es[k]!).first = (x : Int) ∧ (L.old[x]!).key = (L.es[k]!).key ∧ L.gone.getD x false = false ∧ (L.es[k]!).cnt = 0 ∧ (L.es[k]!).acc = 0) ∨ ((L.es[k]!).first = (L.old.length : Int) ∧ s (L.es[k]!).key = ((L.es[k]!).cnt, (L.es[k]!).acc) ∧ ∀ x, x < L.old.length → L.gone.getD x false = false → (L.old[x]!).key ≠ (L.es[k]!).key)
  all : ∀ key, (s key).1 ≠ 0 → (∃ x, x < L.old.length ∧ L.gone.getD x false = false ∧ (L.old[x]!).key = key) ∨ ∃ k, k < L.es.length ∧ (L.es[k]!).key = key ∧ (L.es[k]!).cnt ≠ 0
  left : ∀ x, x < L.lh → L.left.getD (L.lh + x) 0 = if x < L.old.length ∧ L.gone.getD x false = false then (L.old[x]!).key else lowN
  fresh : ∀ k, k < L.fh → L.fr.getD (L.fh + k) 0 = if k < L.es.length ∧ (L.es[k]!).cnt ≠ 0 then (L.es[k]!).key else lowN
  lf : L.old.length ≤ L.lh
  ff : L.es.length ≤ L.fh
  gap : ∀ k, k < L.es.length → (L.es[k]!).cnt ≠ 0 → 0 ≤ (L.es[k]!).gap ∧ (L.es[k]!).gap ≤ L.old.length ∧ ∀ x, x < L.old.length → L.gone.getD x false = false → ((x : Int) < (L.es[k]!).gap → (L.old[x]!).key < (L.es[k]!).key) ∧ ((L.es[k]!).gap ≤ (x : Int) → (L.es[k]!).key < (L.old[x]!).key)
  mono : ∀ i j, i < j → j < L.es.length → (L.es[i]!).cnt ≠ 0 → (L.es[j]!).cnt ≠ 0 → (L.es[i]!).gap ≤ (L.es[j]!).gap
theorem get_at {α : Type} [Inhabited α] (l : List α) (k i : Nat) (x : α) (hi : i < l.length) : (l.set k x)[i]! = if k = i then x else l[i]! := by
  rw [getElem!_pos (l.set k x) i (by simpa using hi), List.getElem_set, getElem!_pos l i hi]
theorem getB_set (l : List Bool) (k i : Nat) (x : Bool) (hi : i < l.length) : (l.set k x).getD i false = if k = i then x else l.getD i false := by
  rw [List.getD_eq_getElem?_getD, List.getElem?_set]
  by_cases e : k = i
  · rw [if_pos e, if_pos e, if_pos (by omega)]; rfl
  · rw [if_neg e, if_neg e, List.getD_eq_getElem?_getD]
theorem pair_get {os : List KS} (h : (os.map KS.key).Pairwise (· < ·)) {i j : Nat} (hij : i < j) (hj : j < os.length) : (os[i]!).key < (os[j]!).key := by
  rw [List.pairwise_map, List.pairwise_iff_getElem] at h
  have := h i j (by omega) hj hij
  rw [getElem!_pos os i (by omega), getElem!_pos os j hj]
  exact this
/-- What had answers. -/
theorem KI.had {s : ST} {L : LG} (h : KI s L) {k : Nat} (hk : k < L.es.length) : hadC L k = ⟨(L.es[k]!).key, (s (L.es[k]!).key).1, (s (L.es[k]!).key).2⟩ := by
  unfold hadC
  rcases h.ent k hk with ⟨x, h1, h2, h3, h4, _, _⟩ | ⟨h1, h2, _⟩
  · rw [if_pos (by rw [h2]; exact Int.ofNat_lt.2 h1), h2, Int.toNat_natCast, ← h3, (h.live x h1 h4).1]
  · rw [if_neg (by rw [h1]; omega), h2]
theorem KI.uniq {s : ST} {L : LG} (h : KI s L) {i j : Nat} (hi : i < L.es.length) (hj : j < L.es.length) (e : (L.es[i]!).key = (L.es[j]!).key) : i = j := by
  apply Classical.byContradiction
  intro hne
  rcases Nat.lt_or_gt_of_ne hne with h1 | h1
  · have := h.er i j h1 hj; omega
  · have := h.er j i h1 hi; omega
/-- A new one is put, written over, or dropped. -/
theorem KI.setNew {s s' : ST} {L : LG} (h : KI s L) {k : Nat} (hk : k < L.es.length) (hf : (L.es[k]!).first = (L.old.length : Int)) {c a gp : Int} (hs : ∀ key, key ≠ (L.es[k]!).key → s' key = s key) (hs2 : s' (L.es[k]!).key = (c, a)) {fr : List Int}
    (hfr : ∀ j, j < L.fh → fr.getD (L.fh + j) 0 = if j = k then (if c ≠ 0 then (L.es[k]!).key else lowN) else L.fr.getD (L.fh + j) 0)
    (hg : c ≠ 0 → 0 ≤ gp ∧ gp ≤ L.old.length ∧ (∀ x, x < L.old.length → L.gone.getD x false = false → ((x : Int) < gp → (L.old[x]!).key < (L.es[k]!).key) ∧ (gp ≤ (x : Int) → (L.es[k]!).key < (L.old[x]!).key)) ∧ (∀ i, i < k → (L.es[i]!).cnt ≠ 0 → (L.es[i]!).gap ≤ gp) ∧ ∀ j, k < j → j < L.es.length → (L.es[j]!).cnt ≠ 0 → gp ≤ (L.es[j]!).gap) :
    KI s' { L with es := L.es.set k ⟨L.old.length, (L.es[k]!).key, c, a, gp⟩, fr := fr } := by
  obtain ⟨e, he⟩ : ∃ e, L.es[k]! = e := ⟨_, rfl⟩
  rw [he] at hf hs hs2 hfr hg ⊢
  have hno : ∀ x, x < L.old.length → L.gone.getD x false = false → (L.old[x]!).key ≠ e.key := by
    rcases h.ent k hk with ⟨x, h1, h2, _⟩ | ⟨_, _, h3⟩
    · rw [he, hf] at h2; omega
    · rw [he] at h3; exact h3
  have hkey : ∀ i, i < L.es.length → ((L.es.set k ⟨L.old.length, e.key, c, a, gp⟩)[i]!).key = (L.es[i]!).key := fun i hi => by
    rw [get_at _ _ _ _ hi]
    by_cases e9 : k = i
    · rw [if_pos e9, ← e9, he]
    · rw [if_neg e9]
  have hne : ∀ i, i < L.es.length → k ≠ i → (L.es[i]!).key ≠ e.key := fun i hi hn e9 => hn (h.uniq hk hi (by rw [he]; exact e9.symm))
  refine ⟨h.gl, fun x hx ⟨q, hq, he9⟩ => h.tl x hx ⟨q, by simpa using hq, by rw [← hkey q (by simpa using hq)]; exact he9⟩, h.rise, fun i j hij hj => ?_, fun x hx hg' => ?_, fun i hi => ?_, fun key hkey' => ?_, h.left, fun j hj => ?_, h.lf, by simp only [List.length_set]; exact h.ff, fun i hi hc => ?_, fun i j hij hj hci hcj => ?_⟩
  · simp only [List.length_set] at hj ⊢
    rw [hkey i (by omega), hkey j hj]
    exact h.er i j hij hj
  · simp only at hx hg' ⊢
    rw [hs _ (hno x hx hg')]
    exact h.live x hx hg'
  · simp only [List.length_set] at hi ⊢
    rw [get_at _ _ _ _ hi]
    by_cases e9 : k = i
    · rw [if_pos e9]
      exact .inr ⟨rfl, hs2, hno⟩
    · rw [if_neg e9]
      rcases h.ent i hi with h1 | ⟨h1, h2, h3⟩
      · exact .inl h1
      · exact .inr ⟨h1, by rw [hs _ (hne i hi e9)]; exact h2, h3⟩
  · simp only [List.length_set]
    by_cases e9 : key = e.key
    · rw [e9, hs2] at hkey'
      exact .inr ⟨k, hk, by rw [hkey k hk, he, e9], by rw [get_at _ _ _ _ hk, if_pos rfl]; exact hkey'⟩
    · rw [hs key e9] at hkey'
      rcases h.all key hkey' with h1 | ⟨j, h1, h2, h3⟩
      · exact .inl h1
      · refine .inr ⟨j, h1, by rw [hkey j h1]; exact h2, ?_⟩
        rw [get_at _ _ _ _ h1, if_neg (fun e8 => by rw [← e8, he] at h2; exact e9 h2.symm)]
        exact h3
  · simp only [List.length_set] at hj ⊢
    rw [hfr j hj]
    by_cases e9 : j = k
    · subst e9
      rw [if_pos rfl, get_at _ _ _ _ hk, if_pos rfl]
      by_cases hc : c ≠ 0
      · rw [if_pos hc, if_pos ⟨hk, hc⟩]
      · rw [if_neg hc, if_neg (fun h9 => hc h9.2)]
    · rw [if_neg e9, h.fresh j hj]
      by_cases hjl : j < L.es.length
      · have hgj : (L.es.set k ⟨L.old.length, e.key, c, a, gp⟩)[j]! = L.es[j]! := by rw [get_at _ _ _ _ hjl, if_neg (fun e8 => e9 e8.symm)]
        rw [hgj]
      · rw [if_neg (fun h9 => hjl h9.1), if_neg (fun h9 => hjl h9.1)]
  · simp only [List.length_set] at hi hc ⊢
    rw [get_at _ _ _ _ hi] at hc ⊢
    by_cases e9 : k = i
    · rw [if_pos e9] at hc ⊢
      obtain ⟨g1, g2, g3, _⟩ := hg hc
      exact ⟨g1, g2, g3⟩
    · rw [if_neg e9] at hc ⊢
      exact h.gap i hi hc
  · simp only [List.length_set] at hj hci hcj ⊢
    rw [get_at _ _ _ _ (by omega)] at hci ⊢
    rw [get_at _ _ _ _ hj] at hcj ⊢
    by_cases e9 : k = i
    · rw [if_pos e9] at hci ⊢
      rw [if_neg (by omega)] at hcj ⊢
      exact (hg hci).2.2.2.2 j (by omega) hj hcj
    · rw [if_neg e9] at hci ⊢
      by_cases e8 : k = j
      · rw [if_pos e8] at hcj ⊢
        exact (hg hcj).2.2.2.1 i (by omega) hci
      · rw [if_neg e8] at hcj ⊢
        exact h.mono i j hij hj hci hcj
/-- Where a new one of a key is put. -/
theorem KI.gapOk {s : ST} {L : LG} (h : KI s L) {k : Nat} (hk : k < L.es.length) (hf : (L.es[k]!).first = (L.old.length : Int)) (hlow : lowN ≤ (L.es[k]!).key) {j1 j2 : Nat} {f1 f2 : Bool} (F1 : Found L.left L.lh (L.es[k]!).key j1 f1) (F2 : Found L.fr L.fh (L.es[k]!).key j2 f2) :
    0 ≤ gapC L j1 f1 j2 f2 ∧ gapC L j1 f1 j2 f2 ≤ L.old.length ∧ (∀ x, x < L.old.length → L.gone.getD x false = false → ((x : Int) < gapC L j1 f1 j2 f2 → (L.old[x]!).key < (L.es[k]!).key) ∧ (gapC L j1 f1 j2 f2 ≤ (x : Int) → (L.es[k]!).key < (L.old[x]!).key)) ∧ (∀ i, i < k → (L.es[i]!).cnt ≠ 0 → (L.es[i]!).gap ≤ gapC L j1 f1 j2 f2) ∧ ∀ j, k < j → j < L.es.length → (L.es[j]!).cnt ≠ 0 → gapC L j1 f1 j2 f2 ≤ (L.es[j]!).gap := by
  obtain ⟨t, ht⟩ : ∃ t, (L.es[k]!).key = t := ⟨_, rfl⟩
  rw [ht] at hlow F1 F2 ⊢
  have hno : ∀ x, x < L.old.length → L.gone.getD x false = false → (L.old[x]!).key ≠ t := by
    rcases h.ent k hk with ⟨x, h1, h2, _⟩ | ⟨_, _, h3⟩
    · rw [hf] at h2; omega
    · rw [ht] at h3; exact h3
  -- the old one
  obtain ⟨g1, hg1⟩ : ∃ g, (if f1 = true then (j1 : Int) else (L.old.length : Int)) = g := ⟨_, rfl⟩
  have A1 : 0 ≤ g1 ∧ g1 ≤ L.old.length ∧ ∀ x, x < L.old.length → L.gone.getD x false = false → ((x : Int) < g1 → (L.old[x]!).key < t) ∧ (g1 ≤ (x : Int) → t < (L.old[x]!).key) := by
    rcases F1 with ⟨rfl, _, hall⟩ | ⟨rfl, hj, hgt, hall⟩
    · rw [if_neg (by decide)] at hg1
      refine ⟨by omega, by omega, fun x hx hg => ⟨fun _ => ?_, fun h9 => by omega⟩⟩
      have h8 := hall x (by have := h.lf; omega)
      rw [h.left x (by have := h.lf; omega), if_pos ⟨hx, hg⟩] at h8
      have := hno x hx hg
      omega
    · rw [if_pos rfl] at hg1
      rw [h.left j1 hj] at hgt
      by_cases hq : j1 < L.old.length ∧ L.gone.getD j1 false = false
      · rw [if_pos hq] at hgt
        refine ⟨by omega, by omega, fun x hx hg => ⟨fun h9 => ?_, fun h9 => ?_⟩⟩
        · have h8 := hall x (by omega)
          rw [h.left x (by have := h.lf; omega), if_pos ⟨hx, hg⟩] at h8
          have := hno x hx hg
          omega
        · rcases Nat.lt_or_ge j1 x with h8 | h8
          · have := pair_get h.rise h8 hx
            omega
          · have : x = j1 := by omega
            rw [this]; exact hgt
      · rw [if_neg hq] at hgt
        omega
  -- the new one
  have hgap : gapC L j1 f1 j2 f2 = if f2 = true then min g1 (L.es[j2]!).gap else g1 := by unfold gapC; rw [hg1]
  have low : ∀ i, i < k → (L.es[i]!).cnt ≠ 0 → (L.es[i]!).gap ≤ g1 := fun i hi hci => by
    obtain ⟨p1, p2, p3⟩ := h.gap i (by omega) hci
    have hki := h.er i k hi hk
    rw [ht] at hki
    rcases F1 with ⟨rfl, _, _⟩ | ⟨rfl, hj, hgt, _⟩
    · rw [if_neg (by decide)] at hg1
      omega
    · rw [if_pos rfl] at hg1
      rw [h.left j1 hj] at hgt
      by_cases hq : j1 < L.old.length ∧ L.gone.getD j1 false = false
      · rw [if_pos hq] at hgt
        apply Classical.byContradiction
        intro hcon
        have := (p3 j1 hq.1 hq.2).1 (by omega)
        omega
      · rw [if_neg hq] at hgt
        omega
  rcases F2 with ⟨rfl, _, hall⟩ | ⟨rfl, hj, hgt, hall⟩
  · rw [hgap, if_neg (by decide)]
    refine ⟨A1.1, A1.2.1, A1.2.2, low, fun j hj hjl hcj => ?_⟩
    have h8 := hall j (by have := h.ff; omega)
    rw [h.fresh j (by have := h.ff; omega), if_pos ⟨hjl, hcj⟩] at h8
    have := h.er k j hj hjl
    omega
  · rw [h.fresh j2 hj] at hgt
    have hq : j2 < L.es.length ∧ (L.es[j2]!).cnt ≠ 0 := by
      apply Classical.byContradiction
      intro hq
      rw [if_neg hq] at hgt
      omega
    rw [if_pos hq] at hgt
    obtain ⟨p1, p2, p3⟩ := h.gap j2 hq.1 hq.2
    have hkj : k < j2 := by
      rcases Nat.lt_trichotomy k j2 with h9 | h9 | h9
      · exact h9
      · rw [← h9] at hgt; omega
      · have := h.er j2 k h9 hk; omega
    rw [hgap, if_pos rfl]
    refine ⟨by omega, by omega, fun x hx hg => ⟨fun h9 => (A1.2.2 x hx hg).1 (by omega), fun h9 => ?_⟩, fun i hi hci => ?_, fun j hj' hjl hcj => ?_⟩
    · by_cases hm : g1 ≤ (x : Int)
      · exact (A1.2.2 x hx hg).2 hm
      · have := (p3 x hx hg).2 (by omega)
        omega
    · have := low i hi hci
      have := h.mono i j2 (by omega) hq.1 hci hq.2
      omega
    · have h8 : (L.es[j2]!).gap ≤ (L.es[j]!).gap := by
        rcases Nat.lt_trichotomy j j2 with h9 | h9 | h9
        · have h7 := hall j h9
          rw [h.fresh j (by have := h.ff; omega), if_pos ⟨hjl, hcj⟩] at h7
          have := h.er k j hj' hjl
          omega
        · rw [h9]; exact Int.le_refl _
        · exact h.mono j2 j h9 hjl hq.2 hcj
      omega
/-- An old one is written over. -/
theorem KI.setOld {s s' : ST} {L : LG} (h : KI s L) {x : Nat} (hx : x < L.old.length) (hgx : L.gone.getD x false = false) {c a : Int} (hc : c ≠ 0) (hs : ∀ key, key ≠ (L.old[x]!).key → s' key = s key) (hs2 : s' (L.old[x]!).key = (c, a)) :
    KI s' { L with old := L.old.set x ⟨(L.old[x]!).key, c, a⟩ } := by
  obtain ⟨o, ho⟩ : ∃ o, L.old[x]! = o := ⟨_, rfl⟩
  rw [ho] at hs hs2 ⊢
  have hkey : ∀ i, i < L.old.length → ((L.old.set x ⟨o.key, c, a⟩)[i]!).key = (L.old[i]!).key := fun i hi => by
    rw [get_at _ _ _ _ hi]
    by_cases e9 : x = i
    · rw [if_pos e9, ← e9, ho]
    · rw [if_neg e9]
  have hne : ∀ i, i < L.old.length → x ≠ i → (L.old[i]!).key ≠ o.key := fun i hi hn e9 => by
    rw [← ho] at e9
    rcases Nat.lt_or_gt_of_ne hn with h1 | h1
    · have := pair_get h.rise h1 hi; omega
    · have := pair_get h.rise h1 hx; omega
  have hmap : (L.old.set x ⟨o.key, c, a⟩).map KS.key = L.old.map KS.key := by
    apply List.ext_getElem
    · simp
    · intro i h1 h2
      have hi : i < L.old.length := by simpa using h2
      have := hkey i hi
      rw [getElem!_pos _ i (by simpa using hi), getElem!_pos _ i hi] at this
      rw [List.getElem_map, List.getElem_map]
      exact this
  refine ⟨by simp only [List.length_set]; exact h.gl, fun i hi hq => ?_, by simp only [hmap]; exact h.rise, h.er, fun i hi hgi => ?_, fun k hk => ?_, fun key hk => ?_, fun i hi => ?_, h.fresh, by simp only [List.length_set]; exact h.lf, h.ff, fun k hk hck => ?_, h.mono⟩
  · simp only [List.length_set] at hi ⊢
    obtain ⟨q, hq, he9⟩ := hq
    exact h.tl i hi ⟨q, hq, by rw [← hkey i hi]; exact he9⟩
  · simp only [List.length_set] at hi ⊢
    rw [get_at _ _ _ _ hi]
    by_cases e9 : x = i
    · rw [if_pos e9]
      exact ⟨hs2, hc⟩
    · rw [if_neg e9, hs _ (hne i hi e9)]
      exact h.live i hi hgi
  · simp only [List.length_set] at hk ⊢
    rcases h.ent k hk with ⟨y, h1, h2, h3, h4⟩ | ⟨h1, h2, h3⟩
    · exact .inl ⟨y, h1, h2, by rw [hkey y h1]; exact h3, h4⟩
    · refine .inr ⟨h1, ?_, fun i hi hgi => by rw [hkey i hi]; exact h3 i hi hgi⟩
      rw [hs _ (fun e9 => h3 x hx hgx (by rw [ho]; exact e9.symm))]
      exact h2
  · simp only [List.length_set]
    by_cases e9 : key = o.key
    · exact .inl ⟨x, hx, hgx, by rw [hkey x hx, ho, e9]⟩
    · rw [hs key e9] at hk
      rcases h.all key hk with ⟨y, h1, h2, h3⟩ | h1
      · exact .inl ⟨y, h1, h2, by rw [hkey y h1]; exact h3⟩
      · exact .inr h1
  · simp only [List.length_set] at hi ⊢
    rw [h.left i hi]
    by_cases hq : i < L.old.length ∧ L.gone.getD i false = false
    · rw [if_pos hq, if_pos hq, hkey i hq.1]
    · rw [if_neg hq, if_neg hq]
  · simp only [List.length_set] at hk ⊢
    obtain ⟨p1, p2, p3⟩ := h.gap k hk hck
    exact ⟨p1, p2, fun i hi hgi => by rw [hkey i hi]; exact p3 i hi hgi⟩
/-- An old one is dropped. -/
theorem KI.dropOld {s s' : ST} {L : LG} (h : KI s L) {k x : Nat} (hk : k < L.es.length) (hx : x < L.old.length) (hf : (L.es[k]!).first = (x : Int)) (hs : ∀ key, key ≠ (L.es[k]!).key → s' key = s key) (hs2 : s' (L.es[k]!).key = (0, 0)) {left : List Int} (hl : Leaves left L.left L.lh x lowN) :
    KI s' { L with gone := L.gone.set x true, left := left, es := L.es.set k ⟨L.old.length, (L.es[k]!).key, (L.es[k]!).cnt, (L.es[k]!).acc, (L.es[k]!).gap⟩ } := by
  obtain ⟨e, he⟩ : ∃ e, L.es[k]! = e := ⟨_, rfl⟩
  have hent := h.ent k hk
  rw [he] at hf hs hs2 hent ⊢
  have hE : (L.old[x]!).key = e.key ∧ L.gone.getD x false = false ∧ e.cnt = 0 ∧ e.acc = 0 := by
    rcases hent with ⟨y, h1, h2, h3, h4, h5, h6⟩ | ⟨h1, _, _⟩
    · rw [hf] at h2
      obtain rfl : x = y := by omega
      exact ⟨h3, h4, h5, h6⟩
    · rw [hf] at h1; omega
  obtain ⟨hox, hgx, hec, hea⟩ := hE
  have hgone : ∀ i, i < L.old.length → ((L.gone.set x true).getD i false = false ↔ L.gone.getD i false = false ∧ i ≠ x) := fun i hi => by
    rw [getB_set _ _ _ _ (by rw [h.gl]; exact hi)]
    by_cases e9 : x = i
    · rw [if_pos e9]; simp [e9]
    · rw [if_neg e9]; exact ⟨fun h9 => ⟨h9, fun e8 => e9 e8.symm⟩, fun h9 => h9.1⟩
  have hne : ∀ i, i < L.old.length → i ≠ x → (L.old[i]!).key ≠ e.key := fun i hi hn e9 => by
    rw [← hox] at e9
    rcases Nat.lt_or_gt_of_ne hn with h1 | h1
    · have := pair_get h.rise h1 hx; omega
    · have := pair_get h.rise h1 hi; omega
  have hget : ∀ i, i < L.es.length → ((L.es.set k ⟨L.old.length, e.key, e.cnt, e.acc, e.gap⟩)[i]!).key = (L.es[i]!).key ∧ ((L.es.set k ⟨L.old.length, e.key, e.cnt, e.acc, e.gap⟩)[i]!).cnt = (L.es[i]!).cnt ∧ ((L.es.set k ⟨L.old.length, e.key, e.cnt, e.acc, e.gap⟩)[i]!).gap = (L.es[i]!).gap := fun i hi => by
    rw [get_at _ _ _ _ hi]
    by_cases e9 : k = i
    · rw [if_pos e9, ← e9, he]; exact ⟨rfl, rfl, rfl⟩
    · rw [if_neg e9]; exact ⟨rfl, rfl, rfl⟩
  refine ⟨by simp only [List.length_set]; exact h.gl, fun x hx ⟨q, hq, he9⟩ => h.tl x hx ⟨q, by simpa using hq, by rw [← (hget q (by simpa using hq)).1]; exact he9⟩, h.rise, fun i j hij hj => ?_, fun i hi hgi => ?_, fun i hi => ?_, fun key hk' => ?_, fun i hi => ?_, fun j hj => ?_, h.lf, by simp only [List.length_set]; exact h.ff, fun i hi hci => ?_, fun i j hij hj hci hcj => ?_⟩
  · simp only [List.length_set] at hj ⊢
    rw [(hget i (by omega)).1, (hget j hj).1]
    exact h.er i j hij hj
  · simp only at hi hgi ⊢
    obtain ⟨g1, g2⟩ := (hgone i hi).1 hgi
    rw [hs _ (hne i hi g2)]
    exact h.live i hi g1
  · simp only [List.length_set] at hi ⊢
    rw [get_at _ _ _ _ hi]
    by_cases e9 : k = i
    · rw [if_pos e9]
      refine .inr ⟨rfl, by simp only; rw [hs2, hec, hea], fun j hj hgj => ?_⟩
      obtain ⟨g1, g2⟩ := (hgone j hj).1 hgj
      exact hne j hj g2
    · rw [if_neg e9]
      have hkne : (L.es[i]!).key ≠ e.key := fun e8 => e9 (h.uniq hk hi (by rw [he]; exact e8.symm))
      rcases h.ent i hi with ⟨y, h1, h2, h3, h4, h5⟩ | ⟨h1, h2, h3⟩
      · exact .inl ⟨y, h1, h2, h3, (hgone y h1).2 ⟨h4, fun e8 => hkne (by rw [← h3, e8]; exact hox)⟩, h5⟩
      · exact .inr ⟨h1, by rw [hs _ hkne]; exact h2, fun j hj hgj => h3 j hj ((hgone j hj).1 hgj).1⟩
  · simp only [List.length_set]
    by_cases e9 : key = e.key
    · rw [e9, hs2] at hk'
      exact absurd rfl hk'
    · rw [hs key e9] at hk'
      rcases h.all key hk' with ⟨y, h1, h2, h3⟩ | ⟨j, h1, h2, h3⟩
      · exact .inl ⟨y, h1, (hgone y h1).2 ⟨h2, fun e8 => e9 (by rw [← h3, e8]; exact hox)⟩, h3⟩
      · exact .inr ⟨j, h1, by rw [(hget j h1).1]; exact h2, by rw [(hget j h1).2.1]; exact h3⟩
  · simp only at hi ⊢
    rw [hl i hi, h.left i hi]
    by_cases e9 : i = x
    · rw [if_pos e9, if_neg (fun h9 => ((hgone i h9.1).1 h9.2).2 e9)]
    · rw [if_neg e9]
      by_cases hq : i < L.old.length ∧ L.gone.getD i false = false
      · rw [if_pos hq, if_pos ⟨hq.1, (hgone i hq.1).2 ⟨hq.2, e9⟩⟩]
      · rw [if_neg hq, if_neg (fun h9 => hq ⟨h9.1, ((hgone i h9.1).1 h9.2).1⟩)]
  · simp only [List.length_set] at hj ⊢
    rw [h.fresh j hj]
    by_cases hjl : j < L.es.length
    · rw [(hget j hjl).1, (hget j hjl).2.1]
    · rw [if_neg (fun h9 => hjl h9.1), if_neg (fun h9 => hjl h9.1)]
  · simp only [List.length_set] at hi hci ⊢
    obtain ⟨q1, q2, q3⟩ := hget i hi
    rw [q2] at hci
    obtain ⟨p1, p2, p3⟩ := h.gap i hi hci
    rw [q1, q3]
    exact ⟨p1, p2, fun j hj hgj => p3 j hj ((hgone j hj).1 hgj).1⟩
  · simp only [List.length_set] at hj hci hcj ⊢
    rw [(hget i (by omega)).2.1] at hci
    rw [(hget j hj).2.1] at hcj
    rw [(hget i (by omega)).2.2, (hget j hj).2.2]
    exact h.mono i j hij hj hci hcj
/-- What is listed in the end. -/
theorem KI.fin {s : ST} {L : LG} (h : KI s L) : SKp s (mrg 0 L.old L.gone (L.es.filter EN.on)) := by
  have hon : ∀ f ∈ L.es.filter EN.on, ∃ k, k < L.es.length ∧ L.es[k]! = f ∧ f.cnt ≠ 0 := fun f hf => by
    rw [List.mem_filter] at hf
    obtain ⟨k, hk, rfl⟩ := List.getElem_of_mem hf.1
    exact ⟨k, hk, getElem!_pos _ _ _, by simpa [EN.on] using hf.2⟩
  have hsub : (L.es.filter EN.on).Sublist L.es := List.filter_sublist
  have hkeys : (L.es.map EN.key).Pairwise (· < ·) := by
    rw [List.pairwise_map, List.pairwise_iff_getElem]
    intro i j hi hj hij
    have := h.er i j hij hj
    rw [getElem!_pos _ i hi, getElem!_pos _ j hj] at this
    exact this
  have hgaps : (L.es.filter EN.on).Pairwise (fun a b => a.gap ≤ b.gap) := by
    have h1 : L.es.Pairwise (fun a b => a.cnt ≠ 0 → b.cnt ≠ 0 → a.gap ≤ b.gap) := by
      rw [List.pairwise_iff_getElem]
      intro i j hi hj hij hci hcj
      have := h.mono i j hij hj (by rw [getElem!_pos _ i hi]; exact hci) (by rw [getElem!_pos _ j hj]; exact hcj)
      rw [getElem!_pos _ i hi, getElem!_pos _ j hj] at this
      exact this
    have h2 := h1.sublist hsub
    rw [List.pairwise_iff_forall_sublist] at h2 ⊢
    intro a b hab
    have ha := hon a (hab.subset (by simp))
    have hb := hon b (hab.subset (by simp))
    obtain ⟨_, _, _, ca⟩ := ha
    obtain ⟨_, _, _, cb⟩ := hb
    exact h2 hab ca cb
  refine ⟨rise_mrg L.old 0 L.gone _ (hkeys.sublist (hsub.map _)) h.rise (fun f hf => ?_) hgaps (fun f hf j hj hg => ?_), fun x hx => ?_, fun key hk => ?_⟩
  · obtain ⟨k, hk, rfl, hc⟩ := hon f hf
    exact (h.gap k hk hc).1
  · obtain ⟨k, hk, rfl, hc⟩ := hon f hf
    have := (h.gap k hk hc).2.2 j hj hg
    simpa using this
  · rw [mem_mrg] at hx
    rcases hx with ⟨j, h1, h2, rfl⟩ | ⟨f, h1, rfl⟩
    · exact h.live j h1 h2
    · obtain ⟨k, hk, rfl, hc⟩ := hon f h1
      rcases h.ent k hk with ⟨x, _, _, _, _, h5, _⟩ | ⟨_, h2, _⟩
      · exact absurd h5 hc
      · exact ⟨h2, hc⟩
  · rcases h.all key hk with ⟨x, h1, h2, h3⟩ | ⟨k, h1, h2, h3⟩
    · exact ⟨L.old[x]!, (mem_mrg _ _ _ _ _).2 (.inl ⟨x, h1, h2, rfl⟩), h3⟩
    · exact ⟨(L.es[k]!).ks, (mem_mrg _ _ _ _ _).2 (.inr ⟨L.es[k]!, List.mem_filter.2 ⟨by rw [getElem!_pos _ k h1]; exact List.getElem_mem _, by simpa [EN.on] using h3⟩, rfl⟩), h2⟩
/-- How far a ledger of what is kept has been opened: from j on. -/
structure OpI (ks : List KS) (keys : List Int) (j : Nat) (L : LG) : Prop where
  old : L.old = ks
  gone : L.gone = List.replicate ks.length false
  keys : L.es.map EN.key = keys
  each : ∀ k, k < L.es.length → (L.es[k]!).cnt = 0 ∧ (L.es[k]!).acc = 0 ∧ ((∃ x : Nat, j ≤ x ∧ x < ks.length ∧ (ks[x]!).key = (L.es[k]!).key ∧ (L.es[k]!).first = (x : Int)) ∨ ((L.es[k]!).first = (ks.length : Int) ∧ ∀ x, j ≤ x → x < ks.length → (ks[x]!).key ≠ (L.es[k]!).key))
  tl : L.tw.length = ks.length
  tw : ∀ x, j ≤ x → x < ks.length → (∃ k, k < L.es.length ∧ (L.es[k]!).key = (ks[x]!).key) → L.tw[x]? = some (ks.length : Int)
  left : ∀ x, x < L.lh → L.left.getD (L.lh + x) 0 = if j ≤ x ∧ x < ks.length then (ks[x]!).key else lowN
  fresh : ∀ k, k < L.fh → L.fr.getD (L.fh + k) 0 = lowN
  lf : ks.length ≤ L.lh
  ff : L.es.length ≤ L.fh
/-- Where nothing has come, nothing is kept. -/
def Zn (s : ST) : Prop := ∀ k, (s k).1 = 0 → s k = (0, 0)
theorem zn_step {kd fn ar : Int} {s : ST} (h : Zn s) (hf : ST.fair s) (r : RC) : Zn (stepC kd fn ar s r) := fun k hk => by
  unfold stepC at hk ⊢
  by_cases e : k = r.key
  · rw [if_pos e] at hk ⊢
    by_cases h2 : staysC kd ar (s k).1 = true
    · rw [if_pos h2] at hk
      have h9 : countC (s k).1 = 0 := hk
      have := (hf k).1
      unfold countC at h9
      split at h9 <;> omega
    · rw [if_neg h2]
  · rw [if_neg e] at hk ⊢
    exact h k hk
theorem zn_state (kd fn ar : Int) : ∀ (rs : List RC) (s : ST), Zn s → ST.fair s → Zn (stateC kd fn ar s rs)
  | [], _, h, _ => h
  | r :: rs, s, h, hf => zn_state kd fn ar rs (stepC kd fn ar s r) (zn_step h hf r) (fair_step hf r)
theorem OpI.ki {s : ST} {ks : List KS} {keys : List Int} {L : LG} (h : OpI ks keys 0 L) (hz : Zn s) (hs : SKp s ks) (hk : keys.Pairwise (· < ·)) : KI s L := by
  have hold := h.old
  have hgone : ∀ x, L.gone.getD x false = false := fun x => by
    rw [h.gone, List.getD_eq_getElem?_getD, List.getElem?_replicate]
    split <;> rfl
  have hks := h.keys
  refine ⟨by rw [h.gone, hold]; simp, fun x hx hq => ?_, by rw [hold]; exact hs.rise, fun i j hij hj => ?_, fun x hx _ => ?_, fun k hk' => ?_, fun key hkey => ?_, fun x hx => ?_, fun k hk' => ?_, by rw [hold]; exact h.lf, h.ff, fun k hk' hc => absurd (h.each k hk').1 hc, fun i j _ hj hci _ => absurd (h.each i (by omega)).1 hci⟩
  · rw [hold] at hx hq ⊢
    exact h.tw x (Nat.zero_le _) hx hq
  · rw [← hks, List.pairwise_map, List.pairwise_iff_getElem] at hk
    have := hk i j (by omega) hj hij
    rw [getElem!_pos _ i (by omega), getElem!_pos _ j hj]
    exact this
  · rw [hold] at hx ⊢
    exact hs.each _ (by rw [getElem!_pos ks x hx]; exact List.getElem_mem _)
  · rw [hold]
    obtain ⟨c1, c2, ⟨x, _, h2, h3, h4⟩ | ⟨h1, h2⟩⟩ := h.each k hk'
    · exact .inl ⟨x, h2, h4, h3, hgone x, c1, c2⟩
    · refine .inr ⟨h1, ?_, fun x hx _ => h2 x (Nat.zero_le _) hx⟩
      rw [c1, c2]
      have h0 : (s (L.es[k]!).key).1 = 0 := by
        apply Classical.byContradiction
        intro hne
        obtain ⟨x, hx, hxk⟩ := hs.all _ hne
        obtain ⟨i, hi, rfl⟩ := List.getElem_of_mem hx
        exact h2 i (Nat.zero_le _) hi (by rw [getElem!_pos ks i hi]; exact hxk)
      exact hz _ h0
  · obtain ⟨x, hx, hxk⟩ := hs.all key hkey
    obtain ⟨i, hi, rfl⟩ := List.getElem_of_mem hx
    exact .inl ⟨i, by rw [hold]; exact hi, hgone i, by rw [hold, getElem!_pos ks i hi]; exact hxk⟩
  · rw [h.left x hx, hold]
    by_cases hq : x < ks.length
    · rw [if_pos ⟨Nat.zero_le _, hq⟩, if_pos ⟨hq, hgone x⟩]
    · rw [if_neg (fun h9 => hq h9.2), if_neg (fun h9 => hq h9.1)]
  · rw [h.fresh k hk']
    rw [if_neg]
    rintro ⟨h1, h2⟩
    exact h2 (h.each k h1).1
/-- One more is opened, of whose key no record comes. -/
theorem OpI.skip {ks : List KS} {keys : List Int} {j : Nat} {L : LG} (h : OpI ks keys (j + 1) L) (hj : j < ks.length) {ps : List Int} (hl : Leaves ps L.left L.lh j (ks[j]!).key) (hno : ∀ k, k < L.es.length → (L.es[k]!).key ≠ (ks[j]!).key) : OpI ks keys j { L with left := ps } := by
  refine ⟨h.old, h.gone, h.keys, fun k hk => ?_, h.tl, fun x hx hxl hq => ?_, fun x hx => ?_, h.fresh, h.lf, h.ff⟩
  · obtain ⟨c1, c2, ⟨x, h1, h2⟩ | ⟨h1, h2⟩⟩ := h.each k hk
    · exact ⟨c1, c2, .inl ⟨x, by omega, h2⟩⟩
    · refine ⟨c1, c2, .inr ⟨h1, fun x hx hxl => ?_⟩⟩
      by_cases e : x = j
      · rw [e]; exact Ne.symm (hno k hk)
      · exact h2 x (by omega) hxl
  · by_cases e : x = j
    · obtain ⟨k, hk, he⟩ := hq
      rw [e] at he
      exact absurd he (hno k hk)
    · exact h.tw x (by omega) hxl hq
  · simp only at hx ⊢
    rw [hl x hx, h.left x hx]
    by_cases e : x = j
    · rw [if_pos e, if_pos ⟨by omega, by omega⟩, e]
    · rw [if_neg e]
      by_cases hq : j + 1 ≤ x ∧ x < ks.length
      · rw [if_pos hq, if_pos ⟨by omega, hq.2⟩]
      · rw [if_neg hq, if_neg (fun h9 => hq ⟨by omega, h9.2⟩)]
/-- One more is opened, of whose key a record comes. -/
theorem OpI.hit {ks : List KS} {keys : List Int} {j : Nat} {L : LG} (h : OpI ks keys (j + 1) L) (hj : j < ks.length) (hr : (ks.map KS.key).Pairwise (· < ·)) (hkp : keys.Pairwise (· < ·)) {ps : List Int} (hl : Leaves ps L.left L.lh j (ks[j]!).key) {k : Nat} (hk : k < L.es.length) (hkey : (L.es[k]!).key = (ks[j]!).key) :
    (L.es[k]!).first = (ks.length : Int) ∧ OpI ks keys j { L with left := ps, tw := L.tw.set j (ks.length : Int), es := L.es.set k ⟨(j : Int), (L.es[k]!).key, (L.es[k]!).cnt, (L.es[k]!).acc, (L.es[k]!).gap⟩ } := by
  have hks := h.keys
  have hu : ∀ i, i < L.es.length → (L.es[i]!).key = (L.es[k]!).key → i = k := fun i hi e => by
    rw [← hks, List.pairwise_map, List.pairwise_iff_getElem] at hkp
    rw [getElem!_pos _ i hi, getElem!_pos _ k hk] at e
    rcases Nat.lt_trichotomy i k with h9 | h9 | h9
    · have := hkp i k hi hk h9; omega
    · exact h9
    · have := hkp k i hk hi h9; omega
  have hf : (L.es[k]!).first = (ks.length : Int) := by
    obtain ⟨_, _, ⟨x, h1, h2, h3, _⟩ | ⟨h1, _⟩⟩ := h.each k hk
    · rw [hkey] at h3
      have := pair_get hr (show j < x by omega) h2
      omega
    · exact h1
  have hget : ∀ i, i < L.es.length → ((L.es.set k ⟨(j : Int), (L.es[k]!).key, (L.es[k]!).cnt, (L.es[k]!).acc, (L.es[k]!).gap⟩)[i]!).key = (L.es[i]!).key := fun i hi => by
    rw [get_at _ _ _ _ hi]
    by_cases e9 : k = i
    · rw [if_pos e9, e9]
    · rw [if_neg e9]
  refine ⟨hf, h.old, h.gone, ?_, fun i hi => ?_, by simp only [List.length_set]; exact h.tl, fun x hx hxl hq => ?_, fun x hx => ?_, h.fresh, h.lf, by simp only [List.length_set]; exact h.ff⟩
  · rw [← hks]
    apply List.ext_getElem
    · simp
    · intro i h1 h2
      have hi : i < L.es.length := by simpa using h2
      have := hget i hi
      rw [getElem!_pos _ i (by simpa using hi), getElem!_pos _ i hi] at this
      rw [List.getElem_map, List.getElem_map]
      exact this
  · simp only [List.length_set] at hi ⊢
    rw [get_at _ _ _ _ hi]
    by_cases e9 : k = i
    · rw [if_pos e9]
      exact ⟨(h.each k hk).1, (h.each k hk).2.1, .inl ⟨j, Nat.le_refl _, hj, hkey.symm, rfl⟩⟩
    · rw [if_neg e9]
      obtain ⟨c1, c2, ⟨x, h1, h2⟩ | ⟨h1, h2⟩⟩ := h.each i hi
      · exact ⟨c1, c2, .inl ⟨x, by omega, h2⟩⟩
      · refine ⟨c1, c2, .inr ⟨h1, fun x hx hxl e8 => ?_⟩⟩
        by_cases e : x = j
        · rw [e, ← hkey] at e8
          exact e9 (hu i hi e8.symm).symm
        · exact h2 x (by omega) hxl e8
  · simp only [List.length_set] at hq ⊢
    by_cases e : x = j
    · rw [e, List.getElem?_set, if_pos rfl, if_pos (by rw [h.tl]; exact hj)]
    · rw [List.getElem?_set, if_neg (fun e8 => e e8.symm)]
      obtain ⟨q, hq1, hq2⟩ := hq
      exact h.tw x (by omega) hxl ⟨q, hq1, by rw [← hget q hq1]; exact hq2⟩
  · simp only at hx ⊢
    rw [hl x hx, h.left x hx]
    by_cases e : x = j
    · rw [if_pos e, if_pos ⟨by omega, by omega⟩, e]
    · rw [if_neg e]
      by_cases hq : j + 1 ≤ x ∧ x < ks.length
      · rw [if_pos hq, if_pos ⟨by omega, hq.2⟩]
      · rw [if_neg hq, if_neg (fun h9 => hq ⟨by omega, h9.2⟩)]
end Go.Proofs.Ytcabfohmimglpaa
