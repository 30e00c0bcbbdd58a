/-
  What a crash leaves alone, plainly: bytes that no pending write covers. No conditions.
-/
import Derived.Test.YtikpckmlnhcddaaGreatPsh
namespace Go.Proofs.YtikpckmlnhcddaaGreat
open Go.RowKit Go.Maps

/-- A pending write of the file covers the byte. -/
def covC (P : List CP) (n : Nm) (i : Nat) : Bool := P.any (fun p => p.name == n && decide (p.beg ≤ i) && decide (i < p.beg + p.b.length))
def penC (P : List CP) (n : Nm) : Bool := P.any (fun p => p.name == n)

theorem putL_off {c b : List Int} {k i : Nat} (hi : i < c.length) (h : i < k ∨ k + b.length ≤ i) : (putL c k b)[i]? = c[i]? := by
  unfold putL
  rw [← List.append_assoc, List.getElem?_append, List.getElem?_append]
  simp only [List.length_append, List.length_take]
  rcases h with h | h
  · rw [if_pos (by omega), if_pos (by omega), List.getElem?_take_of_lt h]
  · rw [if_neg (by omega), List.getElem?_drop]
    congr 1; omega
theorem allB_off_at {n : Nm} {i : Nat} : ∀ {ps : List CP} {B : Nm → By}, i < (B n).length → covC ps n i = false → (allB B ps n)[i]? = (B n)[i]?
  | [], _, _, _ => rfl
  | p :: ps, B, hi, hc => by
    rw [allB_cons]
    unfold covC at hc
    rw [List.any_cons, Bool.or_eq_false_iff] at hc
    have hl : (B n).length ≤ (one B p n).length := len_mono [p] B n
    rw [allB_off_at (ps := ps) (B := one B p) (by omega) hc.2]
    by_cases e : p.name = n
    · subst e
      rw [one_same]
      refine putL_off hi ?_
      have := hc.1
      simp at this
      omega
    · rw [one_off B (fun h => e h.symm)]
theorem kept_of {P : List CP} {k : Nat} {torn : Int} {q : CP} (h : q ∈ kept P k torn) : ∃ p ∈ P, p.name = q.name ∧ p.beg = q.beg ∧ q.b.length ≤ p.b.length := by
  unfold kept at h
  simp only [List.mem_append, List.mem_map] at h
  rcases h with h | ⟨p, hp, rfl⟩
  · exact ⟨q, List.mem_of_mem_take h, rfl, rfl, Nat.le_refl _⟩
  · exact ⟨p, List.mem_of_mem_drop (List.mem_of_mem_take hp), rfl, rfl, by simp; omega⟩
theorem kept_cov {P : List CP} {k i : Nat} {torn : Int} {n : Nm} (h : covC P n i = false) : covC (kept P k torn) n i = false := by
  unfold covC at h ⊢
  rw [List.any_eq_false] at h ⊢
  intro q hq
  obtain ⟨p, hp, e1, e2, e3⟩ := kept_of hq
  have := h p hp
  simp only [Bool.and_eq_true, decide_eq_true_eq, beq_iff_eq, not_and] at this ⊢
  rw [← e1, ← e2]
  intro hx hy
  have := this hx
  omega
theorem kept_pen {P : List CP} {k : Nat} {torn : Int} {n : Nm} (h : penC P n = false) : ∀ q ∈ kept P k torn, q.name ≠ n := by
  intro q hq e
  obtain ⟨p, hp, e1, _, _⟩ := kept_of hq
  unfold penC at h
  rw [List.any_eq_false] at h
  have := h p hp
  simp [e1, e] at this

/-- What a crash left of a file. -/
theorem crash_base {r : RC} (hd : r.down = false) {keep torn : Int} {m : Nm} (hm : m ∈ r.L.map CF.name) : base ((r.crash keep torn).start).L m = allB (base r.L) (kept r.P ((mag keep).toNat % (r.P.length + 1)) torn) m := by
  unfold RC.crash
  rw [if_neg (by simp [hd])]
  unfold RC.start
  simp only [if_true]
  generalize kept r.P ((mag keep).toNat % (r.P.length + 1)) torn = K
  have e1 : fileC (r.L.map (fun f => { f with b := allB (base r.L) K f.name })) m = (fileC r.L m).map (fun f => { f with b := allB (base r.L) K f.name }) := by
    unfold fileC
    rw [List.find?_map]
    rfl
  have e0 : base (r.L.map (fun f => { f with b := allB (base r.L) K f.name })) m = (match fileC (r.L.map (fun f => { f with b := allB (base r.L) K f.name })) m with | some f => f.b | none => []) := rfl
  rw [e0, e1]
  cases hf : fileC r.L m with
  | none => exact absurd hm (fileC_none.1 hf)
  | some f =>
    have : f.name = m := by simpa using List.find?_some hf
    simp [this]
structure Left (r : RC) (had b : By) (n : Nm) : Prop where
  len : had.length ≤ b.length
  cov : ∀ i, i < had.length → covC r.P n i = false → b[i]? = had[i]?
  pen : penC r.P n = false → b.length = had.length
theorem crash_left {r : RC} (hd : r.down = false) {keep torn : Int} {m : Nm} (hm : m ∈ r.L.map CF.name) : Left r (base r.L m) (base ((r.crash keep torn).start).L m) m := by
  rw [crash_base hd hm]
  refine ⟨len_mono _ _ _, fun i hi hc => allB_off_at hi (kept_cov hc), fun h => ?_⟩
  rw [allB_off (kept_pen h)]
theorem crash_P {r : RC} (hd : r.down = false) {keep torn : Int} : ((r.crash keep torn).start).P = [] := by
  unfold RC.crash
  rw [if_neg (by simp [hd])]
  unfold RC.start
  simp only [if_true]
end Go.Proofs.YtikpckmlnhcddaaGreat

/-
  A map from names to slices, that the law makes: what it holds. No conditions.
-/
namespace Go.Proofs.YtikpckmlnhcddaaGreat
open Go.RowKit Go.Maps

theorem Tryz.undHad : Tryz.prog.underlying 41 = some (.map 9 31) := by kernel_rfl
theorem zeroBytes (w : World) : (zeroValue 31).run Tryz.prog w = .ok (.slice none 0 0) w := by kernel_rfl

def anyElem (v : Value) : Option (DataW Value × List MemPlace) := some (.held v, [])
def hadD (xs : List (Nm × Value)) : DataW Value := xs.foldl (fun D x => D.put (.string x.1) (.held x.2)) (.map [])
theorem hadD_snoc (xs : List (Nm × Value)) (x : Nm × Value) : hadD (xs ++ [x]) = (hadD xs).put (.string x.1) (.held x.2) := by simp [hadD]
theorem isKeyS (n : Nm) : WideAt.IsKeyLit (.string n) := trivial
theorem lit_ne {a b : Nm} (h : a ≠ b) : (Lit.string a) ≠ .string b := fun e => h (by injection e)

theorem tidy_rev : ∀ xs : List (Nm × Value), Tidy (hadD xs.reverse)
  | [] => tidy_empty
  | x :: xs => by rw [List.reverse_cons, hadD_snoc]; exact (tidy_rev xs).put (isKeyS _) _
theorem hadD_tidy (xs : List (Nm × Value)) : Tidy (hadD xs) := by
  have := tidy_rev xs.reverse
  rwa [List.reverse_reverse] at this
theorem has_rev (n : Nm) : ∀ xs : List (Nm × Value), (∀ x ∈ xs, x.1 ≠ n) → has (hadD xs.reverse) (.string n) = false
  | [], _ => rfl
  | x :: xs, h => by
    rw [List.reverse_cons, hadD_snoc, has_put_other (lit_ne (fun e => h x (by simp) e.symm))]
    exact has_rev n xs (fun y hy => h y (by simp [hy]))
theorem hadD_has {n : Nm} {xs : List (Nm × Value)} (h : ∀ x ∈ xs, x.1 ≠ n) : has (hadD xs) (.string n) = false := by
  have := has_rev n xs.reverse (fun x hx => h x (by simpa using hx))
  rwa [List.reverse_reverse] at this
theorem size_rev : ∀ xs : List (Nm × Value), (xs.map (·.1)).Nodup → Maps.size (hadD xs.reverse) = xs.length
  | [], _ => rfl
  | x :: xs, h => by
    rw [List.map_cons, List.nodup_cons] at h
    rw [List.reverse_cons, hadD_snoc, size_put (hadD_tidy _), hadD_has (fun y hy e => h.1 (List.mem_map.2 ⟨y, by simpa using hy, e⟩)), size_rev xs h.2]
    simp
theorem hadD_size {xs : List (Nm × Value)} (h : (xs.map (·.1)).Nodup) : Maps.size (hadD xs) = xs.length := by
  have := size_rev xs.reverse (by rw [List.map_reverse]; exact List.pairwise_reverse.2 (h.imp (fun hne e => hne e.symm)))
  rwa [List.reverse_reverse, List.length_reverse] at this
theorem at_rev (z : DataW Value) : ∀ xs : List (Nm × Value), (xs.map (·.1)).Nodup → ∀ x ∈ xs, (hadD xs.reverse).atKey (.string x.1) z = .held x.2
  | [], _, _, hx => by simp at hx
  | y :: xs, h, x, hx => by
    rw [List.map_cons, List.nodup_cons] at h
    rw [List.reverse_cons, hadD_snoc]
    rcases List.mem_cons.1 hx with rfl | hx
    · exact atKey_put_same (hadD_tidy _).isMap (isKeyS _) _ _
    · rw [atKey_put_other (lit_ne (fun e => h.1 (List.mem_map.2 ⟨x, hx, e⟩)))]
      exact at_rev z xs h.2 x hx
theorem hadD_at {z : DataW Value} {xs : List (Nm × Value)} (h : (xs.map (·.1)).Nodup) {x : Nm × Value} (hx : x ∈ xs) : (hadD xs).atKey (.string x.1) z = .held x.2 := by
  have := at_rev z xs.reverse (by rw [List.map_reverse]; exact List.pairwise_reverse.2 (h.imp (fun hne e => hne e.symm))) x (by simpa using hx)
  rwa [List.reverse_reverse] at this

/-- The look-up of a name that is there. -/
theorem had_look {W : World} {hb n : Nat} {xs : List (Nm × Value)} (h : W.ownsMap Tryz.prog 9 anyElem hb n (hadD xs)) (hn : (xs.map (·.1)).Nodup) {s : ByteArray} (hlen : s.size ≤ maxLen) {v : Value} (hv : (s.data.toList, v) ∈ xs) :
    (Instr.lookup 41 (.map (some hb)) (.string s) false).run Tryz.prog W = .ok v W := by
  obtain ⟨u, ps, hr, hR⟩ := h.lookup strKey Tryz.undHad (zeroBytes W) (zd := .held (.slice none 0 0)) (zp := []) rfl (keyStr hlen)
  rw [hadD_at hn hv] at hR
  unfold anyElem at hR
  simp only [Option.some.injEq, Prod.mk.injEq, DataW.held.injEq] at hR
  rw [hr, hR.1]

/-- The map of what was sure, and the slices in it. -/
structure Had (W : World) (S hb : Nat) (L : Nm → By) (xs : List (Nm × Value)) : Prop where
  map : W.ownsMap Tryz.prog 9 anyElem hb xs.length (hadD xs)
  nodup : (xs.map (·.1)).Nodup
  lo : S ≤ hb
  rows : ∀ x ∈ xs, Row .u8 W x.2 (L x.1) ∧ ∀ i, x.2.ownBlock = some i → hb < i ∧ i < W.heap.size
theorem Had.only {W W' : World} {S hb : Nat} {L : Nm → By} {xs : List (Nm × Value)} (h : Had W S hb L xs) {F : Nat → Prop} (ho : Only F W W') (hF : ∀ i, F i → i < S) : Had W' S hb L xs := by
  have hlt := h.map.lt
  refine ⟨ownsMap_only h.map ho (fun e => by have := hF _ e; have := h.lo; omega), h.nodup, h.lo, fun x hx => ⟨?_, fun i hi => ?_⟩⟩
  · refine (h.rows x hx).1.only0 ho (fun _ i hi e => ?_)
    have := (h.rows x hx).2 i hi
    have := hF i e
    have := h.lo
    omega
  · exact ⟨((h.rows x hx).2 i hi).1, Nat.lt_of_lt_of_le ((h.rows x hx).2 i hi).2 ho.size⟩
theorem Had.fresh {W W' : World} {S hb : Nat} {L : Nm → By} {xs : List (Nm × Value)} (h : Had W S hb L xs) (hb' : Below W.heap.size W W') : Had W' S hb L xs :=
  h.only (Only.fresh hb' (fun _ => False)) (fun _ e => e.elim)
theorem Had.put {W W' W'' : World} {S hb : Nat} {L : Nm → By} {xs : List (Nm × Value)} (h : Had W S hb L xs) (hb' : Below W.heap.size W W') {n : Nm} {v : Value} (hn : ∀ x ∈ xs, x.1 ≠ n)
    (ho : W'.ownsRow W.heap.size 5 1 v (L n).length ((L n).map (Value.int .u8))) (hm : W''.ownsMap Tryz.prog 9 anyElem hb (xs.length + 1) ((hadD xs).put (.string n) (.held v))) (hg : W'.grownBy W'' (some hb)) : Had W'' S hb L (xs ++ [(n, v)]) := by
  have h' := h.fresh hb'
  have hlt := h.map.lt
  have hO : Only (· = hb) W' W'' := Only.of_grown hg (fun k e => by simpa using e.symm)
  refine ⟨?_, ?_, h.lo, fun x hx => ?_⟩
  · rw [hadD_snoc, List.length_append]
    exact hm
  · rw [List.map_append, List.nodup_append]
    refine ⟨h.nodup, by simp, ?_⟩
    intro a ha b hb2 e
    obtain ⟨x, hx, rfl⟩ := List.mem_map.1 ha
    simp only [List.map_cons, List.map_nil, List.mem_singleton] at hb2
    subst hb2
    exact hn x hx e
  · rcases List.mem_append.1 hx with hx | hx
    · refine ⟨(h'.rows x hx).1.only0 hO (fun _ i hi e => ?_), fun i hi => ⟨((h'.rows x hx).2 i hi).1, Nat.lt_of_lt_of_le ((h'.rows x hx).2 i hi).2 hO.size⟩⟩
      have := ((h'.rows x hx).2 i hi).1
      have e' : i = hb := e
      omega
    · simp only [List.mem_singleton] at hx
      subst hx
      refine ⟨(own_row ho).only0 hO (fun _ i hi e => ?_), fun i hi => ?_⟩
      · have := own_block_base ho hi
        have e' : i = hb := e
        omega
      · have := own_block_base ho hi
        have := (own_block_lt ho hi).1
        have := hO.size
        exact ⟨by omega, by omega⟩
end Go.Proofs.YtikpckmlnhcddaaGreat
