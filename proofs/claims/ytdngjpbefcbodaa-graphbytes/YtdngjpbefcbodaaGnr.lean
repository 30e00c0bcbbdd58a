/-
  Graphs as numbers and as bytes, and how they are read, plainly; what an unpacker keeps where other blocks turn. No walk.
-/
import Derived.Test.YtdngjpbefcbodaaMth
import Derived.Test.YtdngjpbefcbodaaUnp
import Derived.Test.YtdngjpbefcbodaaRup
import Derived.Test.YtdngjpbefcbodaaGle
import Derived.Test.YtdngjpbefcbodaaGar
namespace Go.Proofs.Ytdngjpbefcbodaa
open Go.RowKit

def anyR (l : List Int) (e : Int) : Int × List Int × Int := reads l e (-9223372036854775808) 9223372036854775807
def cntR (l : List Int) (e : Int) : Int × List Int × Int := reads l e 0 1024
theorem reads_same {l : List Int} {e : Int} (h : e ≠ 0) (a b : Int) : reads l e a b = (0, l, e) := by unfold reads; rw [if_pos h]
theorem reads_bd {l : List Int} {e a b : Int} (ha : -9223372036854775808 ≤ a) (hb : b ≤ 9223372036854775807) : I6 (reads l e a b).1 := by
  unfold I6 reads
  split
  · simp
  · split
    · simp
    · split
      · simp
      · simp only; omega
theorem cnt_bd (l : List Int) (e : Int) : 0 ≤ (cntR l e).1 ∧ (cntR l e).1 ≤ 1024 := by
  unfold cntR reads
  split
  · simp
  · split
    · simp
    · split
      · simp
      · simp only; omega
/-- So many things, as long as there is no error. -/
def loopG {α : Type} (R : List Int → Int → α × List Int × Int) : Nat → List Int → Int → List α × List Int × Int
  | 0, l, e => ([], l, e)
  | k + 1, l, e => if e = 0 then ((R l e).1 :: (loopG R k (R l e).2.1 (R l e).2.2).1, (loopG R k (R l e).2.1 (R l e).2.2).2) else ([], l, e)
theorem loopG_err {α : Type} {R : List Int → Int → α × List Int × Int} {k : Nat} {l : List Int} {e : Int} (h : e ≠ 0) : loopG R k l e = ([], l, e) := by
  cases k with
  | zero => rfl
  | succ k => simp only [loopG]; rw [if_neg h]
theorem loopG_next {α : Type} {R : List Int → Int → α × List Int × Int} {k : Nat} {l l1 : List Int} {e1 : Int} {x : α} (ht : R l 0 = (x, l1, e1)) : loopG R (k + 1) l 0 = (x :: (loopG R k l1 e1).1, (loopG R k l1 e1).2) := by
  simp only [loopG]
  rw [if_pos trivial, ht]
theorem loopG_len {α : Type} {R : List Int → Int → α × List Int × Int} : ∀ (k : Nat) (l : List Int) (e : Int), (loopG R k l e).1.length ≤ k
  | 0, _, _ => Nat.le_refl _
  | k + 1, l, e => by
    simp only [loopG]
    split
    · have := loopG_len (R := R) k (R l e).2.1 (R l e).2.2
      simp only [List.length_cons]
      omega
    · simp
/-- What a loop keeps: what is read so far and what is to come make the whole. -/
def Goes {α : Type} (R : List Int → Int → α × List Int × Int) (k : Nat) (acc : List α) (l : List Int) (e : Int) (xs : List α) (lf : List Int) (ef : Int) : Prop := acc ++ (loopG R k l e).1 = xs ∧ (loopG R k l e).2 = (lf, ef)
theorem Goes.next {α : Type} {R : List Int → Int → α × List Int × Int} {k : Nat} {acc xs : List α} {l l1 lf : List Int} {e1 ef : Int} {x : α} (h : Goes R (k + 1) acc l 0 xs lf ef) (ht : R l 0 = (x, l1, e1)) : Goes R k (acc ++ [x]) l1 e1 xs lf ef := by
  obtain ⟨h1, h2⟩ := h
  rw [loopG_next ht] at h1 h2
  exact ⟨by rw [← h1]; simp, h2⟩
theorem Goes.stop {α : Type} {R : List Int → Int → α × List Int × Int} {k : Nat} {acc xs : List α} {l lf : List Int} {e ef : Int} (h : Goes R k acc l e xs lf ef) (hk : k = 0 ∨ e ≠ 0) : acc = xs ∧ l = lf ∧ e = ef := by
  have hl : loopG R k l e = ([], l, e) := by
    rcases hk with rfl | hk
    · rfl
    · exact loopG_err hk
  obtain ⟨h1, h2⟩ := h
  rw [hl] at h1 h2
  simp only [List.append_nil, Prod.mk.injEq] at h1 h2
  exact ⟨h1, h2.1, h2.2⟩
theorem Goes.start {α : Type} {R : List Int → Int → α × List Int × Int} {k : Nat} {xs : List α} {l lf : List Int} {e ef : Int} (h : loopG R k l e = (xs, lf, ef)) : Goes R k [] l e xs lf ef := ⟨by rw [h]; rfl, by rw [h]⟩
def edgeR (l : List Int) (e : Int) : GE × List Int × Int := (⟨(anyR l e).1, (anyR (anyR l e).2.1 (anyR l e).2.2).1⟩, (anyR (anyR l e).2.1 (anyR l e).2.2).2)
theorem edgeR_eq {l l1 l2 : List Int} {e e1 e2 a b : Int} (h1 : anyR l e = (a, l1, e1)) (h2 : anyR l1 e1 = (b, l2, e2)) : edgeR l e = (⟨a, b⟩, l2, e2) := by
  unfold edgeR; rw [h1]; simp only; rw [h2]
def insR (l : List Int) (e : Int) : List GE × List Int × Int := loopG edgeR (cntR l e).1.toNat (cntR l e).2.1 (cntR l e).2.2
theorem insR_eq {l l1 : List Int} {e e1 : Int} {n : Nat} (h1 : cntR l e = ((n : Int), l1, e1)) : insR l e = loopG edgeR n l1 e1 := by
  unfold insR; rw [h1]; rfl
def opR (l : List Int) (e : Int) : GO × List Int × Int :=
  (⟨(anyR l e).1, (anyR (anyR l e).2.1 (anyR l e).2.2).1, (anyR (anyR (anyR l e).2.1 (anyR l e).2.2).2.1 (anyR (anyR l e).2.1 (anyR l e).2.2).2.2).1,
    (anyR (anyR (anyR (anyR l e).2.1 (anyR l e).2.2).2.1 (anyR (anyR l e).2.1 (anyR l e).2.2).2.2).2.1 (anyR (anyR (anyR l e).2.1 (anyR l e).2.2).2.1 (anyR (anyR l e).2.1 (anyR l e).2.2).2.2).2.2).1,
    (insR (anyR (anyR (anyR (anyR l e).2.1 (anyR l e).2.2).2.1 (anyR (anyR l e).2.1 (anyR l e).2.2).2.2).2.1 (anyR (anyR (anyR l e).2.1 (anyR l e).2.2).2.1 (anyR (anyR l e).2.1 (anyR l e).2.2).2.2).2.2).2.1 (anyR (anyR (anyR (anyR l e).2.1 (anyR l e).2.2).2.1 (anyR (anyR l e).2.1 (anyR l e).2.2).2.2).2.1 (anyR (anyR (anyR l e).2.1 (anyR l e).2.2).2.1 (anyR (anyR l e).2.1 (anyR l e).2.2).2.2).2.2).2.2).1⟩,
    (insR (anyR (anyR (anyR (anyR l e).2.1 (anyR l e).2.2).2.1 (anyR (anyR l e).2.1 (anyR l e).2.2).2.2).2.1 (anyR (anyR (anyR l e).2.1 (anyR l e).2.2).2.1 (anyR (anyR l e).2.1 (anyR l e).2.2).2.2).2.2).2.1 (anyR (anyR (anyR (anyR l e).2.1 (anyR l e).2.2).2.1 (anyR (anyR l e).2.1 (anyR l e).2.2).2.2).2.1 (anyR (anyR (anyR l e).2.1 (anyR l e).2.2).2.1 (anyR (anyR l e).2.1 (anyR l e).2.2).2.2).2.2).2.2).2)
theorem opR_eq {l l1 l2 l3 l4 l5 : List Int} {e e1 e2 e3 e4 e5 k p f a : Int} {ins : List GE} (h1 : anyR l e = (k, l1, e1)) (h2 : anyR l1 e1 = (p, l2, e2)) (h3 : anyR l2 e2 = (f, l3, e3)) (h4 : anyR l3 e3 = (a, l4, e4)) (h5 : insR l4 e4 = (ins, l5, e5)) : opR l e = (⟨k, p, f, a, ins⟩, l5, e5) := by
  unfold opR; rw [h1]; simp only; rw [h2]; simp only; rw [h3]; simp only; rw [h4]; simp only; rw [h5]
def opsR (l : List Int) (e : Int) : List GO × List Int × Int := loopG opR (cntR l e).1.toNat (cntR l e).2.1 (cntR l e).2.2
theorem opsR_eq {l l1 : List Int} {e e1 : Int} {n : Nat} (h1 : cntR l e = ((n : Int), l1, e1)) : opsR l e = loopG opR n l1 e1 := by
  unfold opsR; rw [h1]; rfl
def endG (parts : Int) (os : List GO) (c : Int) : Int × List GO × Int :=
  if c = 0 then (if (checkC parts os).2 = 0 then (parts, os, 0) else (0, [], (checkC parts os).2)) else (0, [], c)
def parseG (b : List Int) : Int × List GO × Int :=
  endG (anyR b 0).1 (opsR (anyR b 0).2.1 (anyR b 0).2.2).1 (closes (opsR (anyR b 0).2.1 (anyR b 0).2.2).2.1 (opsR (anyR b 0).2.1 (anyR b 0).2.2).2.2)
theorem parseG_eq {b l1 l2 : List Int} {e1 e2 p : Int} {os : List GO} (h1 : anyR b 0 = (p, l1, e1)) (h2 : opsR l1 e1 = (os, l2, e2)) : parseG b = endG p os (closes l2 e2) := by
  unfold parseG; rw [h1]; simp only; rw [h2]

def numsE (e : GE) : List Int := [e.f, e.p]
def numsO (o : GO) : List Int := [o.kind, o.part, o.fn, o.arg, (o.ins.length : Int)] ++ o.ins.flatMap numsE
def numsG (parts : Int) (os : List GO) : List Int := [parts, (os.length : Int)] ++ os.flatMap numsO
def bytesG (parts : Int) (os : List GO) : List Int × Int := if (checkC parts os).2 = 0 then (forms (numsG parts os), 0) else ([], (checkC parts os).2)

theorem firstR_back : ∀ (l : List Int) (h i : Nat) (n : Int) (k : Nat), U8 l → i = (hi h).length → firstR h i l = (n, k, 0) → (hi h ++ l).take k = form (zz n) := by
  intro l
  induction l with
  | nil => intro h i n k _ _ hf; simp [firstR] at hf
  | cons c r ih =>
    intro h i n k hu hi0 hf
    have hc := hu c (by simp)
    rw [firstR] at hf
    split at hf
    · simp at hf
    · rename_i hn
      split at hf
      · rename_i hlt
        simp only [Prod.mk.injEq] at hf
        obtain ⟨rfl, rfl, _⟩ := hf
        rw [zz_uz]
        unfold form
        have e1 : (h * 128 + c.toNat) / 128 = h := by omega
        have e2 : (((h * 128 + c.toNat) % 128 : Nat) : Int) = c := by omega
        rw [e1, e2, hi0, List.take_append, List.take_of_length_le (by omega)]
        simp
      · rename_i hge
        have h0 : 0 < h * 128 + (c.toNat - 128) := by
          rcases Nat.eq_zero_or_pos h with e | e
          · subst e
            rw [hi_zero] at hi0
            simp at hi0
            subst hi0
            have : c ≠ 128 := fun e => hn (.inl ⟨rfl, e⟩)
            omega
          · omega
        have e1 : (h * 128 + (c.toNat - 128)) / 128 = h := by omega
        have e2 : (((h * 128 + (c.toNat - 128)) % 128 + 128 : Nat) : Int) = c := by omega
        have eh : hi (h * 128 + (c.toNat - 128)) = hi h ++ [c] := by rw [hi_pos h0, e1, e2]
        have := ih _ _ _ _ (fun x hx => hu x (by simp [hx])) (by rw [eh, hi0]; simp) hf
        rw [eh, List.append_assoc] at this
        exact this

theorem first_back {l : List Int} {n : Int} {k : Nat} (hu : U8 l) (hf : first l = (n, k, 0)) : l.take k = form (zz n) := by
  have := firstR_back l 0 0 n k hu (by rw [hi_zero]; rfl) hf
  rwa [hi_zero, List.nil_append] at this


/-- What is read without an error is that number's form. -/
theorem reads_back {l l1 : List Int} {a b n : Int} (hu : U8 l) (h : reads l 0 a b = (n, l1, 0)) : l = form (zz n) ++ l1 ∧ a ≤ n ∧ n ≤ b ∧ U8 l1 ∧ I6 n := by
  unfold reads at h
  rw [if_neg (by simp)] at h
  by_cases h1 : (first l).2.2 = 0
  · rw [if_neg (by simpa using h1)] at h
    by_cases h2 : (first l).1 < a ∨ b < (first l).1
    · rw [if_pos h2] at h
      simp at h
    · rw [if_neg h2] at h
      simp only [Prod.mk.injEq, and_true] at h
      obtain ⟨rfl, rfl⟩ := h
      have hf : first l = ((first l).1, (first l).2.1, 0) := by rw [← h1]
      have hb := first_back hu hf
      rcases first_facts hu with ⟨_, _, _, g1, g2⟩ | ⟨g, _⟩ | ⟨g, _⟩
      · refine ⟨by rw [← hb, List.take_append_drop], by omega, by omega, hu.drop _, ⟨g1, g2⟩⟩
      · rw [h1] at g; cases g
      · rw [h1] at g; cases g
  · rw [if_pos h1] at h
    simp only [Prod.mk.injEq] at h
    exact absurd h.2.2 h1
theorem reads_err0 {l l1 : List Int} {e a b n : Int} (h : reads l e a b = (n, l1, 0)) : e = 0 := by
  by_cases he : e = 0
  · exact he
  · rw [reads_same he] at h
    simp only [Prod.mk.injEq] at h
    exact absurd h.2.2 he

theorem any_form {n : Int} (s : List Int) (h : I6 n) : anyR (form (zz n) ++ s) 0 = (n, s, 0) := reads_form s h.1 h.2 h.1 h.2
theorem cnt_form {n : Nat} (s : List Int) (h : n ≤ 1024) : cntR (form (zz (n : Int)) ++ s) 0 = ((n : Int), s, 0) := reads_form s (by omega) (by omega) (by omega) (by omega)
theorem edge_there {x : GE} (s : List Int) (h : x.fine) : edgeR (forms (numsE x) ++ s) 0 = (x, s, 0) := by
  obtain ⟨a, b⟩ := x
  refine edgeR_eq (l1 := form (zz b) ++ s) (e1 := 0) ?_ (any_form s h.2)
  rw [← any_form (form (zz b) ++ s) h.1]
  simp [numsE, forms]
theorem loop_there {α : Type} {R : List Int → Int → α × List Int × Int} {nums : α → List Int} {ok : α → Prop} (hR : ∀ x s, ok x → R (forms (nums x) ++ s) 0 = (x, s, 0)) : ∀ (xs : List α) (s : List Int), (∀ x ∈ xs, ok x) → loopG R xs.length (forms (xs.flatMap nums) ++ s) 0 = (xs, s, 0)
  | [], s, _ => rfl
  | x :: xs, s, h => by
    have e : forms ((x :: xs).flatMap nums) ++ s = forms (nums x) ++ (forms (xs.flatMap nums) ++ s) := by rw [List.flatMap_cons, forms_append, List.append_assoc]
    rw [List.length_cons, e, loopG_next (hR x _ (h x (by simp))), loop_there hR xs s (fun y hy => h y (by simp [hy]))]
theorem op_there {x : GO} (s : List Int) (h : x.fine ∧ x.ins.length ≤ 1024) : opR (forms (numsO x) ++ s) 0 = (x, s, 0) := by
  obtain ⟨k, p, f, a, ins⟩ := x
  obtain ⟨⟨h1, h2, h3, h4, h5⟩, h6⟩ := h
  simp only at h1 h2 h3 h4 h5 h6
  refine opR_eq (l1 := form (zz p) ++ (form (zz f) ++ (form (zz a) ++ (form (zz (ins.length : Int)) ++ (forms (ins.flatMap numsE) ++ s))))) (e1 := 0) ?_ (any_form _ h2) (any_form _ h3) (any_form _ h4) ?_
  · rw [← any_form _ h1]
    simp [numsO, forms]
  · rw [insR_eq (cnt_form _ h6)]
    exact loop_there (ok := GE.fine) (fun x s h => edge_there s h) ins s h5
theorem parse_there {parts : Int} {os : List GO} (hp : I6 parts) (hf : ∀ o ∈ os, o.fine) (hc : (checkC parts os).2 = 0) : parseG (forms (numsG parts os)) = (parts, os, 0) := by
  have hg := good_of hc
  have h24 : os.length ≤ 24 := by
    apply Classical.byContradiction
    intro hn
    unfold checkC at hc
    by_cases h1 : 1 ≤ parts ∧ parts ≤ 4
    · rw [if_pos h1, if_neg hn] at hc; simp at hc
    · rw [if_neg h1] at hc; simp at hc
  have e : parseG (forms (numsG parts os)) = endG parts os (closes [] 0) := by
    refine parseG_eq (l1 := form (zz (os.length : Int)) ++ (forms (os.flatMap numsO) ++ [])) (e1 := 0) ?_ ?_
    · rw [← any_form _ hp]
      simp [numsG, forms]
    · rw [opsR_eq (cnt_form _ (by omega))]
      exact loop_there (ok := fun o => o.fine ∧ o.ins.length ≤ 1024) (fun x s h => op_there s h) os [] (fun x hx => ⟨hf x hx, by have := hg.four x hx; omega⟩)
  rw [e]
  simp [endG, closes, hc]
theorem edge_back {l l2 : List Int} {x : GE} (hu : U8 l) (h : edgeR l 0 = (x, l2, 0)) : l = forms (numsE x) ++ l2 ∧ U8 l2 ∧ x.fine := by
  obtain ⟨a, l1, e1, h1⟩ : ∃ a l1 e1, anyR l 0 = (a, l1, e1) := ⟨_, _, _, rfl⟩
  obtain ⟨b, l2', e2, h2⟩ : ∃ b l2 e2, anyR l1 e1 = (b, l2, e2) := ⟨_, _, _, rfl⟩
  rw [edgeR_eq h1 h2] at h
  simp only [Prod.mk.injEq] at h
  obtain ⟨rfl, rfl, rfl⟩ := h
  obtain rfl := reads_err0 h2
  obtain ⟨e3, _, _, u1, f1⟩ := reads_back hu h1
  obtain ⟨e4, _, _, u2, f2⟩ := reads_back u1 h2
  refine ⟨?_, u2, f1, f2⟩
  rw [e3, e4]
  simp [numsE, forms]
theorem loop_back {α : Type} {R : List Int → Int → α × List Int × Int} {nums : α → List Int} {ok : α → Prop} (hR : ∀ l x l1, U8 l → R l 0 = (x, l1, 0) → l = forms (nums x) ++ l1 ∧ U8 l1 ∧ ok x) : ∀ (k : Nat) (l l1 : List Int) (xs : List α), U8 l → loopG R k l 0 = (xs, l1, 0) → l = forms (xs.flatMap nums) ++ l1 ∧ xs.length = k ∧ U8 l1 ∧ ∀ x ∈ xs, ok x
  | 0, l, l1, xs, hu, h => by
    simp only [loopG, Prod.mk.injEq] at h
    obtain ⟨rfl, rfl, _⟩ := h
    exact ⟨rfl, rfl, hu, by simp⟩
  | k + 1, l, l1, xs, hu, h => by
    obtain ⟨x, l2, e2, h2⟩ : ∃ x l2 e2, R l 0 = (x, l2, e2) := ⟨_, _, _, rfl⟩
    rw [loopG_next h2] at h
    simp only [Prod.mk.injEq] at h
    obtain ⟨rfl, h3⟩ := h
    have he : e2 = 0 := by
      apply Classical.byContradiction
      intro hne
      rw [loopG_err hne] at h3
      simp only [Prod.mk.injEq] at h3
      exact hne h3.2
    subst he
    obtain ⟨r1, r2, r3⟩ := hR l x l2 hu h2
    obtain ⟨s1, s2, s3, s4⟩ := loop_back hR k l2 l1 (loopG R k l2 0).1 r2 (by rw [← h3])
    refine ⟨?_, by rw [List.length_cons, s2], s3, ?_⟩
    · rw [List.flatMap_cons, forms_append, List.append_assoc, ← s1]; exact r1
    · intro y hy
      rcases List.mem_cons.1 hy with rfl | hy
      · exact r3
      · exact s4 y hy
theorem cnt_back {l l1 : List Int} {n : Int} (hu : U8 l) (h : cntR l 0 = (n, l1, 0)) : ∃ m : Nat, n = (m : Int) ∧ l = form (zz (m : Int)) ++ l1 ∧ U8 l1 ∧ m ≤ 1024 := by
  obtain ⟨e3, h0, h1, u1, _⟩ := reads_back hu h
  obtain ⟨m, rfl⟩ : ∃ m : Nat, n = (m : Int) := ⟨n.toNat, by omega⟩
  exact ⟨m, rfl, e3, u1, by omega⟩
theorem loopG_err0 {α : Type} {R : List Int → Int → α × List Int × Int} {k : Nat} {l l1 : List Int} {e : Int} {xs : List α} (h : loopG R k l e = (xs, l1, 0)) : e = 0 := by
  apply Classical.byContradiction
  intro hne
  rw [loopG_err hne] at h
  simp only [Prod.mk.injEq] at h
  exact hne h.2.2
theorem op_back {l l2 : List Int} {x : GO} (hu : U8 l) (h : opR l 0 = (x, l2, 0)) : l = forms (numsO x) ++ l2 ∧ U8 l2 ∧ x.fine := by
  obtain ⟨k, l1, e1, h1⟩ : ∃ a l1 e1, anyR l 0 = (a, l1, e1) := ⟨_, _, _, rfl⟩
  obtain ⟨p, m2, e2, h2⟩ : ∃ a q1 e3, anyR l1 e1 = (a, q1, e3) := ⟨_, _, _, rfl⟩
  obtain ⟨f, m3, e3, h3⟩ : ∃ a l1 e1, anyR m2 e2 = (a, l1, e1) := ⟨_, _, _, rfl⟩
  obtain ⟨a, m4, e4, h4⟩ : ∃ a l1 e1, anyR m3 e3 = (a, l1, e1) := ⟨_, _, _, rfl⟩
  obtain ⟨n, m5, e5, h5⟩ : ∃ a l1 e1, cntR m4 e4 = (a, l1, e1) := ⟨_, _, _, rfl⟩
  obtain ⟨n', hn'⟩ : ∃ m : Nat, n = (m : Int) := ⟨n.toNat, by have := cnt_bd m4 e4; rw [h5] at this; simp only at this; omega⟩
  subst hn'
  obtain ⟨ins, m6, e6, h6⟩ : ∃ a l1 e1, loopG edgeR n' m5 e5 = (a, l1, e1) := ⟨_, _, _, rfl⟩
  rw [opR_eq h1 h2 h3 h4 ((insR_eq h5).trans h6)] at h
  simp only [Prod.mk.injEq] at h
  obtain ⟨rfl, rfl, rfl⟩ := h
  obtain rfl := loopG_err0 h6
  obtain rfl := reads_err0 h5
  obtain rfl := reads_err0 h4
  obtain rfl := reads_err0 h3
  obtain rfl := reads_err0 h2
  obtain ⟨r1, _, _, u1, f1⟩ := reads_back hu h1
  obtain ⟨r2, _, _, u2, f2⟩ := reads_back u1 h2
  obtain ⟨r3, _, _, u3, f3⟩ := reads_back u2 h3
  obtain ⟨r4, _, _, u4, f4⟩ := reads_back u3 h4
  obtain ⟨m, hm, r5, u5, hle⟩ := cnt_back u4 h5
  obtain rfl : n' = m := by omega
  obtain ⟨r6, s2, s3, s4⟩ := loop_back (nums := numsE) (ok := GE.fine) (fun l x l1 hu h => edge_back hu h) n' m5 _ ins u5 h6
  refine ⟨?_, s3, f1, f2, f3, f4, s4⟩
  rw [r1, r2, r3, r4, r5, r6, ← s2]
  simp [numsO, forms]
theorem parse_back {b : List Int} {parts : Int} {os : List GO} (hu : U8 b) (h : parseG b = (parts, os, 0)) : b = forms (numsG parts os) ∧ (checkC parts os).2 = 0 ∧ I6 parts ∧ ∀ o ∈ os, o.fine := by
  obtain ⟨p, l1, e1, h1⟩ : ∃ a l1 e1, anyR b 0 = (a, l1, e1) := ⟨_, _, _, rfl⟩
  obtain ⟨n, l2, e2, h2⟩ : ∃ a l2 e2, cntR l1 e1 = (a, l2, e2) := ⟨_, _, _, rfl⟩
  obtain ⟨n', hn'⟩ : ∃ m : Nat, n = (m : Int) := ⟨n.toNat, by have := cnt_bd l1 e1; rw [h2] at this; simp only at this; omega⟩
  subst hn'
  obtain ⟨xs, l3, e3, h3⟩ : ∃ a l1 e1, loopG opR n' l2 e2 = (a, l1, e1) := ⟨_, _, _, rfl⟩
  rw [parseG_eq h1 ((opsR_eq h2).trans h3)] at h
  unfold endG at h
  by_cases hc : closes l3 e3 = 0
  · rw [if_pos hc] at h
    by_cases hk : (checkC p xs).2 = 0
    · rw [if_pos hk] at h
      simp only [Prod.mk.injEq] at h
      obtain ⟨rfl, rfl, _⟩ := h
      have he3 : e3 = 0 ∧ l3 = [] := by
        unfold closes at hc
        by_cases h0 : e3 = 0
        · rw [if_pos h0] at hc
          by_cases h4 : l3 = []
          · exact ⟨h0, h4⟩
          · rw [if_neg h4] at hc; simp at hc
        · rw [if_neg h0] at hc; exact absurd hc h0
      obtain ⟨rfl, rfl⟩ := he3
      obtain rfl := loopG_err0 h3
      obtain rfl := reads_err0 h2
      obtain ⟨r1, _, _, u1, f1⟩ := reads_back hu h1
      obtain ⟨m, hm, r2, u2, hle⟩ := cnt_back u1 h2
      obtain rfl : n' = m := by omega
      obtain ⟨r3, s2, s3, s4⟩ := loop_back (nums := numsO) (ok := GO.fine) (fun l x l1 hu h => op_back hu h) n' l2 _ xs u2 h3
      refine ⟨?_, hk, f1, s4⟩
      rw [r1, r2, r3, ← s2]
      simp [numsG, forms]
    · rw [if_neg hk] at h
      simp only [Prod.mk.injEq] at h
      exact absurd h.2.2 hk
  · rw [if_neg hc] at h
    simp only [Prod.mk.injEq] at h
    exact absurd h.2.2 hc

/-- A block whose cells are no bytes. -/
def NoBytes (W : World) (i : Nat) : Prop := ∃ cs t f, W.heap[i]? = some (.cells cs t f) ∧ ∀ u ∈ cs.toList, ∀ x, u ≠ .int .u8 x
theorem Row.turn {F : Nat → Prop} {W w' : World} {v : Value} {l : List Int} (h : Row .u8 W v l) (ho : Only F W w') (hF : ∀ i, F i → W.heap.size ≤ i ∨ NoBytes W i) : Row .u8 w' v l := by
  obtain ⟨p, cap, rfl, h1, h2, h3, h4⟩ := h
  refine ⟨p, cap, rfl, h1, h2, h3, fun hp => ?_⟩
  obtain ⟨b, o, rfl, hc⟩ := h4 hp
  refine ⟨b, o, rfl, fun i hi => ho.cell (hc i hi) (fun hf => ?_)⟩
  have hc0 := hc i hi
  obtain ⟨ob, hob, hcell⟩ := cells_of_cell hc0
  rcases hF b hf with h | ⟨cs, t, f, h5, h6⟩
  · have := (Array.getElem?_eq_some_iff.1 hob).1
    simp only at this
    omega
  · simp only [World.cell?] at hc0
    rw [h5] at hc0
    simp only at hc0
    have hm : (.int .u8 (l.getD i 0)) ∈ cs.toList := by
      rw [Array.mem_toList_iff]
      exact Array.mem_of_getElem? hc0
    exact h6 _ hm _ rfl
theorem UnpX.turn {F : Nat → Prop} {W w' : World} {bu : Nat} {bx : Nat → Prop} {v : Value} {l : List Int} {e : Int} (h : UnpX bx W bu v l e) (ho : Only F W w') (hb : ¬ F bu) (hF : ∀ i, F i → W.heap.size ≤ i ∨ NoBytes W i) : UnpX bx w' bu v l e :=
  ⟨ho.obj h.block hb, h.row.turn ho hF, h.apart, h.u8, h.err⟩
theorem RUnp.turn {F : Nat → Prop} {W w' : World} {bw : Nat} {bx : Nat → Prop} {v : Value} {l : List Int} {e : Int} (h : RUnp bx W bw v l e) (ho : Only F W w') (hb : ¬ F bw) (hF : ∀ i, F i → W.heap.size ≤ i ∨ NoBytes W i) : RUnp bx w' bw v l e :=
  ⟨ho.obj h.block hb, h.row.turn ho hF, h.apart, h.u8, h.err⟩
theorem UnpX.lt {W : World} {bu : Nat} {bx : Nat → Prop} {v : Value} {l : List Int} {e : Int} (h : UnpX bx W bu v l e) : bu < W.heap.size := (Array.getElem?_eq_some_iff.1 h.block).1
theorem RUnp.lt {W : World} {bw : Nat} {bx : Nat → Prop} {v : Value} {l : List Int} {e : Int} (h : RUnp bx W bw v l e) : bw < W.heap.size := (Array.getElem?_eq_some_iff.1 h.block).1
theorem UnpX.noBytes {W : World} {bu : Nat} {bx : Nat → Prop} {v : Value} {l : List Int} {e : Int} (h : UnpX bx W bu v l e) : NoBytes W bu := by
  refine ⟨_, _, _, h.block, fun u hu x hx => ?_⟩
  obtain ⟨p, cap, rfl, _⟩ := h.row
  simp only [List.mem_cons, List.not_mem_nil, or_false] at hu
  rcases hu with rfl | rfl | rfl <;> simp at hx
theorem RUnp.noBytes {W : World} {bw : Nat} {bx : Nat → Prop} {v : Value} {l : List Int} {e : Int} (h : RUnp bx W bw v l e) : NoBytes W bw := by
  refine ⟨_, _, _, h.block, fun u hu x hx => ?_⟩
  obtain ⟨p, cap, rfl, _⟩ := h.row
  simp only [List.mem_cons, List.not_mem_nil, or_false] at hu
  rcases hu with rfl | rfl <;> simp at hx
theorem noBytes_of {W : World} {i : Nat} {l : List Int} {t : TypeId} {f : Nat × Nat} (h : W.heap[i]? = some (.cells (l.map (Value.int .i64)).toArray t f)) : NoBytes W i := by
  refine ⟨_, _, _, h, fun u hu x hx => ?_⟩
  simp only [List.mem_map] at hu
  obtain ⟨y, _, rfl⟩ := hu
  simp at hx
theorem only_grown {W w' : World} {b : Nat} (h : W.grownBy w' (some b)) : Only (· = b) W w' := Only.of_grown h (fun k e => by simpa using e.symm)
end Go.Proofs.Ytdngjpbefcbodaa
