/-
  Slices of integers as a view of memory, what is kept from world to world, and bytes.Equal and Clone over any world. The conditions: each slice reads as data.
-/
import Derived.Test.YtboofnkajjnmeaaRows
import Derived.WalkKit
import Derived.WalkSpells
import Derived.WalkLawsBesides
import Derived.Lib.BitFns
import Derived.Laws.BytesArg
import Derived.Lib.Bytes
import Derived.Laws.BitsAllLaws
import Derived.Laws.AppendOwnNone
namespace Go.Proofs.Ytboofnkajjnmeaa
open Go.RowKit

def U8 (l : List Int) : Prop := ∀ x ∈ l, 0 ≤ x ∧ x < 256
/- SLICES OF INTEGERS AS THEY LIE IN MEMORY. 'Row k w v l': v is a slice whose elements, of kind k, are l. -/
def Row (k : IntKind) (w : World) (v : Value) (l : List Int) : Prop :=
  ∃ p cap, v = .slice p l.length cap ∧ l.length ≤ cap ∧ cap ≤ 9223372036854775807 ∧ (p = none → cap = 0) ∧
    (0 < l.length → ∃ b o, p = some ⟨b, o, none⟩ ∧ ∀ i, i < l.length → w.cell? ⟨b, o + i, none⟩ = some (.int k (l.getD i 0)))

theorem Row.nil (k : IntKind) (w : World) : Row k w (.slice none 0 0) [] :=
  ⟨none, 0, rfl, Nat.le_refl _, by decide, fun _ => rfl, fun h => absurd h (by simp)⟩

/-- Nothing old has turned: the slice reads as it did. -/
theorem Row.kept {k : IntKind} {w w' : World} {v : Value} {l : List Int} {row : Option Nat} (h : Row k w v l) (hg : w.grownBy w' row) (hne : v.ownBlock = none ∨ v.ownBlock ≠ row) : Row k w' v l := by
  obtain ⟨p, cap, rfl, h1, h2, h3, h4⟩ := h
  refine ⟨p, cap, rfl, h1, h2, h3, fun hp => ?_⟩
  obtain ⟨b, o, rfl, hc⟩ := h4 hp
  refine ⟨b, o, rfl, fun i hi => hg.cell (hc i hi) ?_⟩
  rcases hne with hne | hne
  · simp [Value.ownBlock] at hne
  · simpa [Value.ownBlock] using hne

theorem Row.below {k : IntKind} {w w' : World} {v : Value} {l : List Int} (h : Row k w v l) (hb : Below w.heap.size w w') : Row k w' v l := by
  obtain ⟨p, cap, rfl, h1, h2, h3, h4⟩ := h
  refine ⟨p, cap, rfl, h1, h2, h3, fun hp => ?_⟩
  obtain ⟨b, o, rfl, hc⟩ := h4 hp
  exact ⟨b, o, rfl, fun i hi => cell_later hb (hc i hi)⟩

/-- What the call owns reads so. -/
theorem own_row {k : IntKind} {w : World} {base n : Nat} {e : TypeId} {v : Value} {l : List Int} (h : w.ownsRow base e 1 v n (l.map (Value.int k))) : Row k w v l := by
  have hl : l.length = n := by have := h.1; simpa using this
  rcases h.2 with ⟨rfl, h0⟩ | ⟨g, cap, cur, rfl, hb, hg, hnc, hcm, hcs, htk⟩
  · obtain rfl : l = [] := List.eq_nil_of_length_eq_zero (by omega)
    exact Row.nil k w
  · refine ⟨some ⟨g, 0, none⟩, cap, by rw [hl], by omega, by unfold maxLen at hcm; omega, (by intro h; cases h), fun hp => ⟨g, 0, rfl, fun i hi => ?_⟩⟩
    have := h.cellAt i (by omega)
    rw [Nat.zero_add, this]
    simp [List.getD, List.getElem?_eq_getElem hi]

theorem own_len {k : IntKind} {w : World} {base n : Nat} {e : TypeId} {v : Value} {l : List Int} (h : w.ownsRow base e 1 v n (l.map (Value.int k))) : n = l.length := by
  have := h.1; simp at this; omega

theorem own_base {w : World} {base base' n : Nat} {e : TypeId} {v : Value} {xs : List Value} (h : w.ownsRow base e 1 v n xs) (hb : base' ≤ base) : w.ownsRow base' e 1 v n xs := by
  refine ⟨h.1, ?_⟩
  rcases h.2 with h' | ⟨g, cap, cur, hv, hg, r⟩
  · exact .inl h'
  · exact .inr ⟨g, cap, cur, hv, by omega, r⟩

theorem own_below {w w' : World} {base n : Nat} {e : TypeId} {v : Value} {xs : List Value} (h : w.ownsRow base e 1 v n xs) (hb : Below w.heap.size w w') : w'.ownsRow base e 1 v n xs := by
  refine ⟨h.1, ?_⟩
  rcases h.2 with h' | ⟨g, cap, cur, hv, hg, hh, r⟩
  · exact .inl h'
  · exact .inr ⟨g, cap, cur, hv, hg, by rw [hb.block g (Array.getElem?_eq_some_iff.1 hh).1]; exact hh, r⟩

/-- The cells that a law on append asks of what is appended. -/
theorem Row.news {k : IntKind} {w : World} {v : Value} {l : List Int} (h : Row k w v l) (hp : l ≠ []) :
    ∃ b o cap, v = .slice (some ⟨b, o, none⟩) l.length cap ∧ l.length ≤ cap ∧ (∀ j u, (l.map (Value.int k))[j]? = some u → w.cell? ((⟨b, o, none⟩ : Addr).add j) = some u) := by
  obtain ⟨p, cap, rfl, h1, h2, h3, h4⟩ := h
  have hl : 0 < l.length := List.length_pos_iff.2 hp
  obtain ⟨b, o, rfl, hc⟩ := h4 hl
  refine ⟨b, o, cap, rfl, h1, fun j u hj => ?_⟩
  have hjl : j < l.length := by have := (List.getElem?_eq_some_iff.1 hj).1; simpa using this
  have := hc j hjl
  have e : ((⟨b, o, none⟩ : Addr).add j) = ⟨b, o + j, none⟩ := Go.WideShapes.add_plain _ _ _
  rw [e, this]
  simp [List.getElem?_eq_getElem hjl] at hj
  rw [← hj]
  simp [List.getD, List.getElem?_eq_getElem hjl]

theorem ints_one (k : IntKind) (l : List Int) : ∀ u ∈ l.map (Value.int k), u.oneCell' = true := by
  intro u hu
  obtain ⟨x, _, rfl⟩ := List.mem_map.1 hu
  rfl

theorem retI {k : IntKind} {a b : Int} (h : a = b) : Ending.returned (.int k a) = .returned (.int k b) := congrArg (fun x => Ending.returned (.int k x)) h

/-- append(own, x ..), whatever slice of integers x is: nil, empty, or at an address. -/
theorem append_row {P : Program} (w : World) {ops : Array Oper} {rest : List Oper} {o : Oper} {a : Act} {Q : Exit → Act → World → Prop} (hgd : o.guard = none) (s x : Operand) (t : TypeId)
    (ho : o.op = .call { callee := .builtin .append, args := #[s, x], argTypes := #[t, t] })
    (base : Nat) (e : TypeId) (i : TypeInfo) (k : IntKind) (bytes : Nat) (ht : P.underlying t = some (.slice e)) (hi : P.info? e = some i) (hz : i.zero = some (.int k 0))
    (hsize : i.size = 1) (hby : i.bytes = bytes)
    (v : Value) (n : Nat) (xs : List Value) (hs : a.eval s = v) (hown : w.ownsRow base e 1 v n xs)
    (vx : Value) (l : List Int) (hx : a.eval x = vx) (hrow : Row k w vx l)
    (h63 : n + l.length ≤ 9223372036854775807) (hbytes : (n + l.length) * bytes ≤ 140737488355328) (hbase : base ≤ w.heap.size)
    (h : ∀ v' w', w'.ownsRow base e 1 v' (n + l.length) (xs ++ l.map (Value.int k)) → w.grownBy w' v.ownBlock → wpList P ops Q rest (a.put o.dst v') w') : wpList P ops Q (o :: rest) a w := by
  obtain ⟨p, cap, rfl, h1, h2, h3, h4⟩ := id hrow
  cases p with
  | none =>
    obtain rfl : cap = 0 := h3 rfl
    obtain rfl : l = [] := List.eq_nil_of_length_eq_zero (by omega)
    refine wpList_append_own_none hgd s x t ho base e i 1 ht hi v n xs hs hown hx ?_
    exact h v w (by simpa using hown) ⟨rfl, rfl, rfl, Nat.le_refl _, fun _ _ _ => rfl⟩
  | some ad =>
    refine wpList_append_own w hgd s x t ho base e i (.int k 0) 1 bytes ht hi hz hsize hby rfl (by decide) v n xs hs hown ad l.length cap (l.map (Value.int k)) hx (by simp) ?_ (ints_one k l) (by unfold maxLen; omega) hbytes hbase (fun v' w' g1 g2 _ => h v' w' g1 g2)
    intro j u hj
    have hl : l ≠ [] := by rintro rfl; simp at hj
    obtain ⟨b, o', cap', he, _, hc⟩ := hrow.news hl
    simp only [Value.slice.injEq, Option.some.injEq] at he
    rw [he.1]
    exact hc j u hj

/-- string(b) of bytes that lie so. -/
theorem conv_row {P : Program} {w : World} {v : Value} {l : List Int} (h : Row .u8 w v l) (src e dst : TypeId) (hs : P.underlying src = some (.slice e)) (he : P.underlying e = some (.int .u8)) (hd : P.underlying dst = some .string) :
    (convert src dst v).run P w = .ok (.string (strOfNums l)) w := by
  obtain ⟨p, cap, rfl, h1, h2, h3, h4⟩ := h
  cases hl : l with
  | nil =>
    rw [run_convert_bytes_string w src dst e _ _ cap hs he hd]
    cases p <;> simp [Conv.bytesToString, loadCells]
    all_goals rfl
  | cons c r =>
    obtain ⟨b, o, rfl, hc⟩ := h4 (by rw [hl]; simp)
    rw [← hl]
    exact run_convert_bytes_arg (P := P) w src e hs he b o l.length cap l rfl hc dst hd

theorem strOfNums_list (l : List Int) : (strOfNums l).toList = l.map fun n => UInt8.ofNat n.toNat := Lib.strOfNums_toList l

theorem map_u8_inj : ∀ (l m : List Int), U8 l → U8 m → (l.map fun n => UInt8.ofNat n.toNat) = (m.map fun n => UInt8.ofNat n.toNat) → l = m := by
  intro l
  induction l with
  | nil => intro m _ _ h; cases m with | nil => rfl | cons _ _ => simp at h
  | cons a l ih =>
    intro m hl hm h
    cases m with
    | nil => simp at h
    | cons b m =>
      simp only [List.map_cons, List.cons.injEq] at h
      have ha := hl a (by simp)
      have hb := hm b (by simp)
      have e : a = b := by
        have := congrArg UInt8.toNat h.1
        simp at this
        omega
      rw [e, ih m (fun x hx => hl x (by simp [hx])) (fun x hx => hm x (by simp [hx])) h.2]


/-- x[j:]. -/
theorem Row.cut {k : IntKind} {w : World} {p : Option Addr} {cap : Nat} {l : List Int} (h : Row k w (.slice p l.length cap) l) {j : Nat} (hj : j ≤ l.length) :
    Row k w (.slice (Option.map (fun x => x.add j) p) (l.length - j) (cap - j)) (l.drop j) := by
  obtain ⟨p', cap', he, h1, h2, h3, h4⟩ := h
  simp only [Value.slice.injEq, true_and] at he
  obtain ⟨rfl, rfl⟩ := he
  refine ⟨Option.map (fun x => x.add j) p, cap - j, by rw [List.length_drop], by rw [List.length_drop]; omega, by omega, ?_, ?_⟩
  · intro hn
    have : p = none := by cases p with | none => rfl | some _ => simp at hn
    have := h3 this; omega
  · intro hp
    rw [List.length_drop] at hp
    obtain ⟨b, o, rfl, hc⟩ := h4 (by omega)
    refine ⟨b, o + j, by simp [Go.WideShapes.add_plain], fun i hi => ?_⟩
    rw [List.length_drop] at hi
    have := hc (j + i) (by omega)
    rw [Nat.add_assoc, this]
    simp [List.getD]
/-- x[j:] at the very end of the capacity. -/
theorem Row.cutEnd {k : IntKind} {w : World} {p : Option Addr} {cap : Nat} {l : List Int} (h : Row k w (.slice p l.length cap) l) {j : Nat} (hj : j ≤ l.length) (hc : cap = j) :
    Row k w (.slice p (l.length - j) 0) (l.drop j) := by
  obtain ⟨p', cap', he, h1, h2, h3, h4⟩ := h
  simp only [Value.slice.injEq, true_and] at he
  obtain ⟨rfl, rfl⟩ := he
  have e : l.drop j = [] := List.drop_of_length_le (by omega)
  rw [e, show l.length - j = 0 by omega]
  exact ⟨p, 0, rfl, Nat.le_refl _, by decide, fun _ => rfl, fun h => absurd h (by simp)⟩
/-- x[:j]. -/
theorem Row.take {k : IntKind} {w : World} {p : Option Addr} {cap : Nat} {l : List Int} (h : Row k w (.slice p l.length cap) l) {j : Nat} (hj : j ≤ l.length) :
    Row k w (.slice p j cap) (l.take j) := by
  obtain ⟨p', cap', he, h1, h2, h3, h4⟩ := h
  simp only [Value.slice.injEq, true_and] at he
  obtain ⟨rfl, rfl⟩ := he
  have e : (l.take j).length = j := by rw [List.length_take]; omega
  refine ⟨p, cap, by rw [e], by omega, h2, h3, ?_⟩
  intro hp
  rw [e] at hp
  obtain ⟨b, o, rfl, hc⟩ := h4 (by omega)
  refine ⟨b, o, rfl, fun i hi => ?_⟩
  rw [e] at hi
  rw [hc i (by omega)]
  simp [List.getD, hi]
theorem block_add (p : Option Addr) (n c n' c' j : Nat) : Value.ownBlock (.slice (Option.map (fun x : Addr => x.add j) p) n c) = Value.ownBlock (.slice p n' c') := by
  cases p with
  | none => rfl
  | some a => obtain ⟨b, o, s⟩ := a; simp [Value.ownBlock, Addr.add]; split <;> rfl
theorem block_same (p : Option Addr) (n c n' c' : Nat) : Value.ownBlock (.slice p n c) = Value.ownBlock (.slice p n' c') := by
  cases p <;> rfl
theorem U8.drop {l : List Int} (h : U8 l) (j : Nat) : U8 (l.drop j) := fun x hx => h x (List.mem_of_mem_drop hx)
theorem U8.take {l : List Int} (h : U8 l) (j : Nat) : U8 (l.take j) := fun x hx => h x (List.mem_of_mem_take hx)
theorem U8.append {l m : List Int} (h : U8 l) (g : U8 m) : U8 (l ++ m) := fun x hx => (List.mem_append.1 hx).elim (h x) (g x)


theorem Try.infoU8 : (Try.prog.info? 5).map (fun i => (i.zero, i.size, i.bytes)) = some (some (.int .u8 0), 1, 1) := by kernel_rfl

theorem str_beq {l m : List Int} (hl : U8 l) (hm : U8 m) : ((strOfNums l).toList == (strOfNums m).toList) = decide (l = m) := by
  rw [strOfNums_list, strOfNums_list]
  by_cases h : l = m
  · subst h; simp
  · have : ¬ (l.map fun n => UInt8.ofNat n.toNat) = (m.map fun n => UInt8.ofNat n.toNat) := fun e => h (map_u8_inj l m hl hm e)
    simp [h, this]

/-- A new block of one cell, as 'append(b, x)' lays it for x. -/
theorem one_row (k : IntKind) (w : World) (x : Int) (t : TypeId) : Row k (w.alloc (.cells #[.int k x] t)) (.slice (some ⟨w.heap.size, 0, none⟩) 1 1) [x] := by
  refine ⟨some ⟨w.heap.size, 0, none⟩, 1, rfl, Nat.le_refl _, by decide, (by intro h; cases h), fun _ => ⟨w.heap.size, 0, rfl, fun i hi => ?_⟩⟩
  have : i = 0 := by simpa using hi
  subst this
  simp


end Go.Proofs.Ytboofnkajjnmeaa
