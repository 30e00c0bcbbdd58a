/-
  Plain facts that the proofs of this seat stand on: the number forms of package pack as functions on lists, slices of integers as a view of memory, and what is kept from world to world. No condition; nothing of the program is named here.
-/
import Derived.WalkKit
import Derived.WalkSpells
import Derived.WalkLawsBesides
import Derived.Lib.BitFns
import Derived.Laws.BytesArg
import Derived.Lib.Bytes
import Derived.Laws.BitsAllLaws
import Derived.Laws.AppendOwnNone
namespace Go.Proofs.YtlfipmieaabagaaGreat
open Go.RowKit

/- THE NATURAL NUMBER OF A NUMBER, AND BACK. -/
def zz (n : Int) : Nat := if 0 ≤ n then (2 * n).toNat else (-2 * n - 1).toNat
def uz (v : Nat) : Int := if v % 2 = 0 then (v / 2 : Nat) else -((v / 2 : Nat) : Int) - 1

theorem zz_lt (n : Int) (h0 : -9223372036854775808 ≤ n) (h1 : n ≤ 9223372036854775807) : zz n < 18446744073709551616 := by
  unfold zz; split <;> omega
theorem uz_zz (n : Int) : uz (zz n) = n := by
  unfold uz zz; split <;> split <;> omega
theorem zz_uz (v : Nat) : zz (uz v) = v := by
  unfold uz zz; split <;> split <;> omega
theorem uz_lo (v : Nat) (h : v < 18446744073709551616) : -9223372036854775808 ≤ uz v ∧ uz v ≤ 9223372036854775807 := by
  unfold uz; split <;> omega
theorem zz_inj {a b : Int} (h : zz a = zz b) : a = b := by rw [← uz_zz a, ← uz_zz b, h]

/- THE DIGITS. 'hi v': the digits of v to the base 128, the highest first, each with 128 added; none of 0. -/
def hi (v : Nat) : List Int := if _h : v = 0 then [] else hi (v / 128) ++ [((v % 128 + 128 : Nat) : Int)]
termination_by v
decreasing_by omega

theorem hi_zero : hi 0 = [] := by rw [hi]; simp
theorem hi_pos {v : Nat} (h : 0 < v) : hi v = hi (v / 128) ++ [((v % 128 + 128 : Nat) : Int)] := by
  rw [hi]; rw [dif_neg (by omega)]

/-- A natural number's form. -/
def form (v : Nat) : List Int := hi (v / 128) ++ [((v % 128 : Nat) : Int)]
/-- How many bytes a natural number's form has. -/
def sz (v : Nat) : Nat := (form v).length

theorem sz_small {v : Nat} (h : v < 128) : sz v = 1 := by
  unfold sz form; rw [show v / 128 = 0 by omega, hi_zero]; rfl
theorem sz_big {v : Nat} (h : 128 ≤ v) : sz v = sz (v / 128) + 1 := by
  unfold sz form; rw [hi_pos (show 0 < v / 128 by omega)]; simp
theorem sz_pos (v : Nat) : 1 ≤ sz v := by unfold sz form; simp

theorem sz_le (k : Nat) : ∀ v, v < 128 ^ (k + 1) → sz v ≤ k + 1 := by
  induction k with
  | zero => intro v h; rw [sz_small (by simpa using h)]; omega
  | succ k ih =>
    intro v h
    by_cases hv : v < 128
    · rw [sz_small hv]; omega
    · rw [sz_big (by omega)]
      have := ih (v / 128) (by rw [Nat.pow_succ] at h; omega)
      omega
theorem sz_le10 {v : Nat} (h : v < 18446744073709551616) : sz v ≤ 10 :=
  sz_le 9 v (Nat.lt_of_lt_of_le h (by decide))

theorem lt_pow_sz : ∀ (n v : Nat), v ≤ n → v < 128 ^ sz v := by
  intro n
  induction n with
  | zero => intro v h; obtain rfl : v = 0 := by omega
            rw [sz_small (by omega)]; decide
  | succ n ih =>
    intro v h
    by_cases hv : v < 128
    · rw [sz_small hv]; simpa using hv
    · rw [sz_big (by omega), Nat.pow_succ]
      have := ih (v / 128) (by omega)
      omega

theorem pow_sz_le : ∀ (n v : Nat), v ≤ n → 1 < sz v → 128 ^ (sz v - 1) ≤ v := by
  intro n
  induction n with
  | zero => intro v h h1; obtain rfl : v = 0 := by omega
            rw [sz_small (by omega)] at h1; omega
  | succ n ih =>
    intro v h h1
    by_cases hv : v < 128
    · rw [sz_small hv] at h1; omega
    · rw [sz_big (by omega)]
      by_cases h2 : 1 < sz (v / 128)
      · have := ih (v / 128) (by omega) h2
        have e : sz (v / 128) + 1 - 1 = (sz (v / 128) - 1) + 1 := by omega
        rw [e, Nat.pow_succ]
        omega
      · have := sz_pos (v / 128)
        rw [show sz (v / 128) + 1 - 1 = 1 by omega]
        simpa using (show 128 ≤ v by omega)

theorem bitLen_or1 : ∀ v, v < 2 ^ 63 → 0 < v → Lib.bitLen (v ||| 1) = Lib.bitLen v := by
  intro v hv h0
  have e : (v ||| 1) / 2 = v / 2 := by
    have := Nat.or_div_two_pow (a := v) (b := 1) (n := 1)
    simpa using this
  have hb : v ||| 1 < 2 ^ 64 := Nat.or_lt_two_pow (by omega) (by decide)
  have hn : v ||| 1 ≠ 0 := by
    intro h
    have := Nat.left_le_or (n := v) (m := 1)
    omega
  rw [Lib.bitLen_half _ hn hb, Lib.bitLen_half v (by omega) (by omega), e]

theorem bits7 : ∀ v : Fin 128, (Lib.bitLen (v.val ||| 1) + 6) / 7 = 1 := by decide +kernel

theorem sz_bits : ∀ (n v : Nat), v ≤ n → v < 2 ^ 64 → (Lib.bitLen (v ||| 1) + 6) / 7 = sz v := by
  intro n
  induction n with
  | zero => intro v h _; obtain rfl : v = 0 := by omega
            rw [sz_small (by omega)]; exact bits7 ⟨0, by decide⟩
  | succ n ih =>
    intro v h hv
    by_cases h1 : v < 128
    · rw [sz_small h1]; exact bits7 ⟨v, h1⟩
    · have hb : v ||| 1 < 2 ^ 64 := Nat.or_lt_two_pow hv (by decide)
      have e : (v ||| 1) / 2 ^ 7 = v / 128 := by
        have := Nat.or_div_two_pow (a := v) (b := 1) (n := 7)
        simpa using this
      have hl := Nat.left_le_or (n := v) (m := 1)
      rw [sz_big (by omega), Lib.bitLen_shift 7 (v ||| 1) (by omega) hb, e, ← ih (v / 128) (by omega) (by omega), bitLen_or1 (v / 128) (by omega) (by omega)]
      omega

theorem hi_bd : ∀ (n v : Nat), v ≤ n → ∀ x ∈ hi v, 128 ≤ x ∧ x < 256 := by
  intro n
  induction n with
  | zero => intro v h; obtain rfl : v = 0 := by omega
            rw [hi_zero]; simp
  | succ n ih =>
    intro v h
    by_cases h0 : v = 0
    · subst h0; rw [hi_zero]; simp
    · rw [hi_pos (by omega)]
      intro x hx
      rcases List.mem_append.1 hx with hx | hx
      · exact ih (v / 128) (by omega) x hx
      · simp at hx; omega
theorem form_bd (v : Nat) : ∀ x ∈ form v, 0 ≤ x ∧ x < 256 := by
  intro x hx
  unfold form at hx
  rcases List.mem_append.1 hx with hx | hx
  · have := hi_bd _ _ (Nat.le_refl _) x hx; omega
  · simp at hx; omega

/-- The forms of numbers, one behind the other. -/
def forms (l : List Int) : List Int := l.flatMap fun n => form (zz n)
theorem forms_nil : forms [] = [] := rfl
theorem forms_cons (n : Int) (l : List Int) : forms (n :: l) = form (zz n) ++ forms l := by simp [forms]
theorem forms_snoc (l : List Int) (n : Int) : forms (l ++ [n]) = forms l ++ form (zz n) := by simp [forms]
theorem forms_append (l m : List Int) : forms (l ++ m) = forms l ++ forms m := by simp [forms]
theorem forms_bd (l : List Int) : ∀ x ∈ forms l, 0 ≤ x ∧ x < 256 := by
  intro x hx
  obtain ⟨n, _, h⟩ := List.mem_flatMap.1 hx
  exact form_bd _ x h
def I64 (l : List Int) : Prop := ∀ x ∈ l, -9223372036854775808 ≤ x ∧ x ≤ 9223372036854775807
def U8 (l : List Int) : Prop := ∀ x ∈ l, 0 ≤ x ∧ x < 256
theorem forms_len (l : List Int) (h : I64 l) : (forms l).length ≤ 10 * l.length := by
  induction l with
  | nil => simp [forms]
  | cons n l ih =>
    rw [forms_cons]
    have h1 : (form (zz n)).length ≤ 10 := sz_le10 (zz_lt n (h n (by simp)).1 (h n (by simp)).2)
    have h2 := ih fun x hx => h x (by simp [hx])
    simp only [List.length_append, List.length_cons]; omega
theorem forms_ge (l : List Int) : l.length ≤ (forms l).length := by
  induction l with
  | nil => simp
  | cons n l ih =>
    rw [forms_cons]
    have h1 : 1 ≤ (form (zz n)).length := sz_pos (zz n)
    simp only [List.length_append, List.length_cons]; omega

/- THE NUMBER WITH WHICH BYTES BEGIN. 'firstR h i l': h: the number so far; i: how many bytes were read; l: the rest. -/
def firstR (h i : Nat) : List Int → Int × Nat × Int
  | [] => (0, 0, 10)
  | c :: r => if (i = 0 ∧ c = 128) ∨ 144115188075855872 ≤ h then (0, 0, 11) else if c < 128 then (uz (h * 128 + c.toNat), i + 1, 0) else firstR (h * 128 + (c.toNat - 128)) (i + 1) r
def first (l : List Int) : Int × Nat × Int := firstR 0 0 l

theorem drop_cons {α : Type} (l : List α) (k : Nat) (h : k < l.length) : l.drop k = l[k] :: l.drop (k + 1) := (List.drop_eq_getElem_cons h)

/-- What 'first' says: OK with a size of at least one byte and at most so many as there are, or an error that is 10 or 11. -/
theorem firstR_facts : ∀ (l : List Int) (h i : Nat), h < 18446744073709551616 → U8 l →
    (((firstR h i l).2.2 = 0 ∧ i < (firstR h i l).2.1 ∧ (firstR h i l).2.1 ≤ i + l.length ∧ -9223372036854775808 ≤ (firstR h i l).1 ∧ (firstR h i l).1 ≤ 9223372036854775807) ∨
     ((firstR h i l).2.2 = 10 ∧ (firstR h i l).1 = 0 ∧ (firstR h i l).2.1 = 0) ∨ ((firstR h i l).2.2 = 11 ∧ (firstR h i l).1 = 0 ∧ (firstR h i l).2.1 = 0)) := by
  intro l
  induction l with
  | nil => intro h i _ _; right; left; simp [firstR]
  | cons c r ih =>
    intro h i hh hu
    have hc := hu c (by simp)
    rw [firstR]
    split
    · right; right; simp
    · rename_i hn
      split
      · left
        have hb := uz_lo (h * 128 + c.toNat) (by omega)
        refine ⟨rfl, by simp, by simp, hb.1, hb.2⟩
      · have := ih (h * 128 + (c.toNat - 128)) (i + 1) (by omega) (fun x hx => hu x (by simp [hx]))
        rcases this with h1 | h1 | h1
        · left; refine ⟨h1.1, by omega, by simp only [List.length_cons]; omega, h1.2.2.2⟩
        · right; left; exact h1
        · right; right; exact h1

/- SLICES OF INTEGERS AS THEY LIE IN MEMORY. 'Row k w v l': v is a slice whose elements, of kind k, are l. -/
def Row (k : IntKind) (w : World) (v : Value) (l : List Int) : Prop :=
  ∃ p cap, v = .slice p l.length cap ∧ l.length ≤ cap ∧ cap ≤ 9223372036854775807 ∧ (p = none → cap = 0) ∧
    (0 < l.length → ∃ b o, p = some ⟨b, o, none⟩ ∧ ∀ i, i < l.length → w.cell? ⟨b, o + i, none⟩ = some (.int k (l.getD i 0)))

theorem Row.nil (k : IntKind) (w : World) : Row k w (.slice none 0 0) [] :=
  ⟨none, 0, rfl, Nat.le_refl _, by decide, fun _ => rfl, fun h => absurd h (by simp)⟩

/-- Nothing old has turned: the slice reads as it did. -/
theorem Row.kept {k : IntKind} {w w' : World} {v : Value} {l : List Int} {row : Option Nat} (h : Row k w v l) (hg : w.grownBy w' row) (hne : v.ownBlock = none ∨ v.ownBlock ≠ row) : Row k w' v l := by
  obtain ⟨p, cap, rfl, h1, h2, h3, h4⟩ := h
  refine ⟨p, cap, rfl, h1, h2, h3, fun hp => ?_⟩
  obtain ⟨b, o, rfl, hc⟩ := h4 hp
  refine ⟨b, o, rfl, fun i hi => hg.cell (hc i hi) ?_⟩
  rcases hne with hne | hne
  · simp [Value.ownBlock] at hne
  · simpa [Value.ownBlock] using hne

theorem Row.below {k : IntKind} {w w' : World} {v : Value} {l : List Int} (h : Row k w v l) (hb : Below w.heap.size w w') : Row k w' v l := by
  obtain ⟨p, cap, rfl, h1, h2, h3, h4⟩ := h
  refine ⟨p, cap, rfl, h1, h2, h3, fun hp => ?_⟩
  obtain ⟨b, o, rfl, hc⟩ := h4 hp
  exact ⟨b, o, rfl, fun i hi => cell_later hb (hc i hi)⟩

/-- What the call owns reads so. -/
theorem own_row {k : IntKind} {w : World} {base n : Nat} {e : TypeId} {v : Value} {l : List Int} (h : w.ownsRow base e 1 v n (l.map (Value.int k))) : Row k w v l := by
  have hl : l.length = n := by have := h.1; simpa using this
  rcases h.2 with ⟨rfl, h0⟩ | ⟨g, cap, cur, rfl, hb, hg, hnc, hcm, hcs, htk⟩
  · obtain rfl : l = [] := List.eq_nil_of_length_eq_zero (by omega)
    exact Row.nil k w
  · refine ⟨some ⟨g, 0, none⟩, cap, by rw [hl], by omega, by unfold maxLen at hcm; omega, (by intro h; cases h), fun hp => ⟨g, 0, rfl, fun i hi => ?_⟩⟩
    have := h.cellAt i (by omega)
    rw [Nat.zero_add, this]
    simp [List.getD, List.getElem?_eq_getElem hi]

theorem own_len {k : IntKind} {w : World} {base n : Nat} {e : TypeId} {v : Value} {l : List Int} (h : w.ownsRow base e 1 v n (l.map (Value.int k))) : n = l.length := by
  have := h.1; simp at this; omega

theorem own_base {w : World} {base base' n : Nat} {e : TypeId} {v : Value} {xs : List Value} (h : w.ownsRow base e 1 v n xs) (hb : base' ≤ base) : w.ownsRow base' e 1 v n xs := by
  refine ⟨h.1, ?_⟩
  rcases h.2 with h' | ⟨g, cap, cur, hv, hg, r⟩
  · exact .inl h'
  · exact .inr ⟨g, cap, cur, hv, by omega, r⟩

theorem own_below {w w' : World} {base n : Nat} {e : TypeId} {v : Value} {xs : List Value} (h : w.ownsRow base e 1 v n xs) (hb : Below w.heap.size w w') : w'.ownsRow base e 1 v n xs := by
  refine ⟨h.1, ?_⟩
  rcases h.2 with h' | ⟨g, cap, cur, hv, hg, hh, r⟩
  · exact .inl h'
  · exact .inr ⟨g, cap, cur, hv, hg, by rw [hb.block g (Array.getElem?_eq_some_iff.1 hh).1]; exact hh, r⟩

/-- The cells that a law on append asks of what is appended. -/
theorem Row.news {k : IntKind} {w : World} {v : Value} {l : List Int} (h : Row k w v l) (hp : l ≠ []) :
    ∃ b o cap, v = .slice (some ⟨b, o, none⟩) l.length cap ∧ l.length ≤ cap ∧ (∀ j u, (l.map (Value.int k))[j]? = some u → w.cell? ((⟨b, o, none⟩ : Addr).add j) = some u) := by
  obtain ⟨p, cap, rfl, h1, h2, h3, h4⟩ := h
  have hl : 0 < l.length := List.length_pos_iff.2 hp
  obtain ⟨b, o, rfl, hc⟩ := h4 hl
  refine ⟨b, o, cap, rfl, h1, fun j u hj => ?_⟩
  have hjl : j < l.length := by have := (List.getElem?_eq_some_iff.1 hj).1; simpa using this
  have := hc j hjl
  have e : ((⟨b, o, none⟩ : Addr).add j) = ⟨b, o + j, none⟩ := Go.WideShapes.add_plain _ _ _
  rw [e, this]
  simp [List.getElem?_eq_getElem hjl] at hj
  rw [← hj]
  simp [List.getD, List.getElem?_eq_getElem hjl]

theorem ints_one (k : IntKind) (l : List Int) : ∀ u ∈ l.map (Value.int k), u.oneCell' = true := by
  intro u hu
  obtain ⟨x, _, rfl⟩ := List.mem_map.1 hu
  rfl

theorem retI {k : IntKind} {a b : Int} (h : a = b) : Ending.returned (.int k a) = .returned (.int k b) := congrArg (fun x => Ending.returned (.int k x)) h

/-- append(own, x ..), whatever slice of integers x is: nil, empty, or at an address. -/
theorem append_row {P : Program} (w : World) {ops : Array Oper} {rest : List Oper} {o : Oper} {a : Act} {Q : Exit → Act → World → Prop} (hgd : o.guard = none) (s x : Operand) (t : TypeId)
    (ho : o.op = .call { callee := .builtin .append, args := #[s, x], argTypes := #[t, t] })
    (base : Nat) (e : TypeId) (i : TypeInfo) (k : IntKind) (bytes : Nat) (ht : P.underlying t = some (.slice e)) (hi : P.info? e = some i) (hz : i.zero = some (.int k 0))
    (hsize : i.size = 1) (hby : i.bytes = bytes)
    (v : Value) (n : Nat) (xs : List Value) (hs : a.eval s = v) (hown : w.ownsRow base e 1 v n xs)
    (vx : Value) (l : List Int) (hx : a.eval x = vx) (hrow : Row k w vx l)
    (h63 : n + l.length ≤ 9223372036854775807) (hbytes : (n + l.length) * bytes ≤ 140737488355328) (hbase : base ≤ w.heap.size)
    (h : ∀ v' w', w'.ownsRow base e 1 v' (n + l.length) (xs ++ l.map (Value.int k)) → w.grownBy w' v.ownBlock → wpList P ops Q rest (a.put o.dst v') w') : wpList P ops Q (o :: rest) a w := by
  obtain ⟨p, cap, rfl, h1, h2, h3, h4⟩ := id hrow
  cases p with
  | none =>
    obtain rfl : cap = 0 := h3 rfl
    obtain rfl : l = [] := List.eq_nil_of_length_eq_zero (by omega)
    refine wpList_append_own_none hgd s x t ho base e i 1 ht hi v n xs hs hown hx ?_
    exact h v w (by simpa using hown) ⟨rfl, rfl, rfl, Nat.le_refl _, fun _ _ _ => rfl⟩
  | some ad =>
    refine wpList_append_own w hgd s x t ho base e i (.int k 0) 1 bytes ht hi hz hsize hby rfl (by decide) v n xs hs hown ad l.length cap (l.map (Value.int k)) hx (by simp) ?_ (ints_one k l) (by unfold maxLen; omega) hbytes hbase (fun v' w' g1 g2 _ => h v' w' g1 g2)
    intro j u hj
    have hl : l ≠ [] := by rintro rfl; simp at hj
    obtain ⟨b, o', cap', he, _, hc⟩ := hrow.news hl
    simp only [Value.slice.injEq, Option.some.injEq] at he
    rw [he.1]
    exact hc j u hj

/-- string(b) of bytes that lie so. -/
theorem conv_row {P : Program} {w : World} {v : Value} {l : List Int} (h : Row .u8 w v l) (src e dst : TypeId) (hs : P.underlying src = some (.slice e)) (he : P.underlying e = some (.int .u8)) (hd : P.underlying dst = some .string) :
    (convert src dst v).run P w = .ok (.string (strOfNums l)) w := by
  obtain ⟨p, cap, rfl, h1, h2, h3, h4⟩ := h
  cases hl : l with
  | nil =>
    rw [run_convert_bytes_string w src dst e _ _ cap hs he hd]
    cases p <;> simp [Conv.bytesToString, loadCells]
    all_goals rfl
  | cons c r =>
    obtain ⟨b, o, rfl, hc⟩ := h4 (by rw [hl]; simp)
    rw [← hl]
    exact run_convert_bytes_arg (P := P) w src e hs he b o l.length cap l rfl hc dst hd

theorem strOfNums_list (l : List Int) : (strOfNums l).toList = l.map fun n => UInt8.ofNat n.toNat := Lib.strOfNums_toList l

theorem map_u8_inj : ∀ (l m : List Int), U8 l → U8 m → (l.map fun n => UInt8.ofNat n.toNat) = (m.map fun n => UInt8.ofNat n.toNat) → l = m := by
  intro l
  induction l with
  | nil => intro m _ _ h; cases m with | nil => rfl | cons _ _ => simp at h
  | cons a l ih =>
    intro m hl hm h
    cases m with
    | nil => simp at h
    | cons b m =>
      simp only [List.map_cons, List.cons.injEq] at h
      have ha := hl a (by simp)
      have hb := hm b (by simp)
      have e : a = b := by
        have := congrArg UInt8.toNat h.1
        simp at this
        omega
      rw [e, ih m (fun x hx => hl x (by simp [hx])) (fun x hx => hm x (by simp [hx])) h.2]


/-- x[j:]. -/
theorem Row.cut {k : IntKind} {w : World} {p : Option Addr} {cap : Nat} {l : List Int} (h : Row k w (.slice p l.length cap) l) {j : Nat} (hj : j ≤ l.length) :
    Row k w (.slice (Option.map (fun x => x.add j) p) (l.length - j) (cap - j)) (l.drop j) := by
  obtain ⟨p', cap', he, h1, h2, h3, h4⟩ := h
  simp only [Value.slice.injEq, true_and] at he
  obtain ⟨rfl, rfl⟩ := he
  refine ⟨Option.map (fun x => x.add j) p, cap - j, by rw [List.length_drop], by rw [List.length_drop]; omega, by omega, ?_, ?_⟩
  · intro hn
    have : p = none := by cases p with | none => rfl | some _ => simp at hn
    have := h3 this; omega
  · intro hp
    rw [List.length_drop] at hp
    obtain ⟨b, o, rfl, hc⟩ := h4 (by omega)
    refine ⟨b, o + j, by simp [Go.WideShapes.add_plain], fun i hi => ?_⟩
    rw [List.length_drop] at hi
    have := hc (j + i) (by omega)
    rw [Nat.add_assoc, this]
    simp [List.getD]
/-- x[j:] at the very end of the capacity. -/
theorem Row.cutEnd {k : IntKind} {w : World} {p : Option Addr} {cap : Nat} {l : List Int} (h : Row k w (.slice p l.length cap) l) {j : Nat} (hj : j ≤ l.length) (hc : cap = j) :
    Row k w (.slice p (l.length - j) 0) (l.drop j) := by
  obtain ⟨p', cap', he, h1, h2, h3, h4⟩ := h
  simp only [Value.slice.injEq, true_and] at he
  obtain ⟨rfl, rfl⟩ := he
  have e : l.drop j = [] := List.drop_of_length_le (by omega)
  rw [e, show l.length - j = 0 by omega]
  exact ⟨p, 0, rfl, Nat.le_refl _, by decide, fun _ => rfl, fun h => absurd h (by simp)⟩
/-- x[:j]. -/
theorem Row.take {k : IntKind} {w : World} {p : Option Addr} {cap : Nat} {l : List Int} (h : Row k w (.slice p l.length cap) l) {j : Nat} (hj : j ≤ l.length) :
    Row k w (.slice p j cap) (l.take j) := by
  obtain ⟨p', cap', he, h1, h2, h3, h4⟩ := h
  simp only [Value.slice.injEq, true_and] at he
  obtain ⟨rfl, rfl⟩ := he
  have e : (l.take j).length = j := by rw [List.length_take]; omega
  refine ⟨p, cap, by rw [e], by omega, h2, h3, ?_⟩
  intro hp
  rw [e] at hp
  obtain ⟨b, o, rfl, hc⟩ := h4 (by omega)
  refine ⟨b, o, rfl, fun i hi => ?_⟩
  rw [e] at hi
  rw [hc i (by omega)]
  simp [List.getD, hi]
theorem block_add (p : Option Addr) (n c n' c' j : Nat) : Value.ownBlock (.slice (Option.map (fun x : Addr => x.add j) p) n c) = Value.ownBlock (.slice p n' c') := by
  cases p with
  | none => rfl
  | some a => obtain ⟨b, o, s⟩ := a; simp [Value.ownBlock, Addr.add]; split <;> rfl
theorem block_same (p : Option Addr) (n c n' c' : Nat) : Value.ownBlock (.slice p n c) = Value.ownBlock (.slice p n' c') := by
  cases p <;> rfl
theorem U8.drop {l : List Int} (h : U8 l) (j : Nat) : U8 (l.drop j) := fun x hx => h x (List.mem_of_mem_drop hx)
theorem U8.take {l : List Int} (h : U8 l) (j : Nat) : U8 (l.take j) := fun x hx => h x (List.mem_of_mem_take hx)
theorem U8.append {l m : List Int} (h : U8 l) (g : U8 m) : U8 (l ++ m) := fun x hx => (List.mem_append.1 hx).elim (h x) (g x)

end Go.Proofs.YtlfipmieaabagaaGreat
