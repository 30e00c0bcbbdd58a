/-
  What slices.SortFunc leaves of the pending writes of all files: the same ones, each behind those that came ahead of it. The conditions: they lie in a row of the call's own.
-/
import Derived.Test.YtikpckmlnhcddaaGreatBkw
namespace Go.Proofs.YtikpckmlnhcddaaGreat
open Go.RowKit Go.Shelf Go.Sort Go.Lib

/-- .. whose covered bytes are a slice. -/
def PQ : Type := { d : PL // ∃ p n c, d.x.cov = .slice p n c }
instance : Inhabited PQ := ⟨⟨⟨0, ⟨⟨0, 0, 0, []⟩, .slice none 0 0⟩⟩, none, 0, 0, rfl⟩⟩
def PQ.enc (d : PQ) : List Value := d.1.cells

theorem pq_len (d : PQ) : d.enc.length = 5 := rfl
theorem pq_one (d : PQ) : ∀ v ∈ d.enc, v.oneCell' = true := by
  obtain ⟨d, p, n, c, h⟩ := d
  intro v hv
  simp [PQ.enc, PL.cells, h] at hv
  rcases hv with rfl | rfl | rfl | rfl | rfl <;> rfl

def cfP (x y : PQ) : Int := Lib.compareInt (x.1.x.p.turn : Int) (y.1.x.p.turn : Int)
theorem ltP (x y : PQ) : ltOf cfP x y = decide (x.1.x.p.turn < y.1.x.p.turn) := by
  unfold ltOf cfP Lib.compareInt
  by_cases h1 : x.1.x.p.turn < y.1.x.p.turn
  · simp [h1]
  · by_cases h2 : y.1.x.p.turn < x.1.x.p.turn <;> simp [h1, h2]
theorem swoP : SWO (ltOf cfP) where
  irrefl x := by rw [ltP]; simp
  trans x y z h1 h2 := by rw [ltP] at *; simp at *; omega
  ntrans x y z h1 h2 := by rw [ltP] at *; simp at *; omega

set_option maxRecDepth 100000 in
set_option maxHeartbeats 1000000 in
theorem closureP (x y : PQ) (W : World) : Calls Tryz.prog 75 #[.agg x.enc.toArray, .agg y.enc.toArray] W fun e w' => e = .returned (.int .i64 (cfP x y)) ∧ ∃ q os', w' = grow (W.drewN q) os' := by
  obtain ⟨d, p, n, c, h⟩ := x
  obtain ⟨d', p', n', c', h'⟩ := y
  have hcon := fun W' => AnyG.cmp_Compare_int Tryz.cmpL (d.x.p.turn : Int) (d'.x.p.turn : Int) W'
  change ∀ W', Calls Tryz.prog 76 _ _ _ at hcon
  simp only [PQ.enc, PL.cells, h, h', cfP]
  generalize Lib.compareInt (d.x.p.turn : Int) (d'.x.p.turn : Int) = r at hcon ⊢
  go_enter Tryz.func75, Tryz.ntmps75
  go_wp2_with fail
  refine (hcon _).mono ?_
  rintro _ _ ⟨rfl, rfl⟩
  go_wp2
  go_ret
  exact ⟨rfl, 0, _, by rw [alloc_eq_grow, alloc_eq_grow, grow_grow]; rfl⟩

theorem holds_own {W : World} {base n cap g : Nat} {ds : List PL} (h : W.ownsRow base 95 5 (.slice (some ⟨g, 0, none⟩) n cap) n (ds.flatMap PL.cells)) (hl : ds.length = n) {d : Array PQ} (hd : d.toList.map (·.1) = ds) : HoldsK PQ.enc 5 W g 0 d := by
  intro t ht
  have hds : d.size = n := by rw [← hl, ← hd]; simp
  rw [size_flatK] at ht
  have hcur : ∃ cur, W.heap[g]? = some (.cells cur 95 (0, 0)) := (own_block_lt h (b := g) rfl).2
  obtain ⟨cur, hcur⟩ := hcur
  refine ⟨?_, box_frozen hcur _⟩
  rw [get_flatK _ _ _ _ ht]
  rw [h.cellAt (0 + t) (by omega), Nat.zero_add]
  have e := cells5_get (ds := ds) (k := t / 5) (j := t % 5) (by omega) (Nat.mod_lt _ (by decide))
  rw [show t / 5 * 5 + t % 5 = t from Nat.div_add_mod' t 5] at e
  rw [e]
  have e2 : ds[t / 5]! = (d[t / 5]!).1 := by
    have h1 : t / 5 < d.size := by omega
    rw [getElem!_pos ds (t / 5) (by omega), getElem!_pos d (t / 5) h1]
    simp [← hd]
  rw [e2]
  have h5 : t % 5 < (PL.cells (d[t / 5]!).1).length := Nat.mod_lt _ (by decide)
  show (PL.cells (d[t / 5]!).1)[t % 5]? = some ((PL.cells (d[t / 5]!).1)[t % 5]!)
  rw [List.getElem?_eq_getElem h5]
  exact congrArg some (getElem!_pos (PL.cells (d[t / 5]!).1) (t % 5) h5).symm

theorem heap_sort {W : World} {g k : Nat} {cur : Array Value} {e : TypeId} (hg : W.heap[g]? = some (.cells cur e (0, 0))) (d : Array PQ) (os : Array Obj) : (sortWorldK PQ.enc 5 W g 0 k d os).heap[g]? = some (.cells (putCells id 0 (flatK PQ.enc 5 d) cur) e (0, 0)) := by
  have hlt := (Array.getElem?_eq_some_iff.1 hg).1
  unfold sortWorldK grow putRowK putRow mapBlock Sort.ahead
  simp only
  rw [Array.getElem?_append_left (by simpa using hlt), Array.getElem?_modify, if_pos rfl, hg]
  rfl
theorem sort_grown {W : World} {g k : Nat} (d : Array PQ) (os : Array Obj) : W.grownBy (sortWorldK PQ.enc 5 W g 0 k d os) (some g) := by
  refine ⟨rfl, rfl, rfl, ?_, fun i hi hne => ?_⟩
  · unfold sortWorldK grow putRowK putRow mapBlock Sort.ahead
    simp
  · unfold sortWorldK grow putRowK putRow mapBlock Sort.ahead
    simp only
    rw [Array.getElem?_append_left (by simpa using hi), Array.getElem?_modify, if_neg (fun e => hne (by rw [e]))]
theorem sorted_own {W : World} {base n cap g k : Nat} {xs : List Value} (h : W.ownsRow base 95 5 (.slice (some ⟨g, 0, none⟩) n cap) n xs) {d : Array PQ} (hd : d.size = n) (os : Array Obj) :
    (sortWorldK PQ.enc 5 W g 0 k d os).ownsRow base 95 5 (.slice (some ⟨g, 0, none⟩) n cap) n ((d.toList.map (·.1)).flatMap PL.cells) ∧ W.grownBy (sortWorldK PQ.enc 5 W g 0 k d os) (some g) := by
  rcases h.2 with ⟨he, _⟩ | ⟨g', cap', cur, he, hb, hg, hn, hcm, hcur, htk⟩
  · cases he
  · simp only [Value.slice.injEq, Option.some.injEq, Addr.mk.injEq, and_true, true_and] at he
    obtain ⟨rfl, rfl⟩ := he
    refine ⟨own_back (heap_sort hg d os) hb hn hcm (by simp [putCells, hcur]) ?_, sort_grown d os⟩
    have hml : (d.toList.map (·.1)).length = n := by simp [hd]
    have hfl : ((d.toList.map (·.1)).flatMap PL.cells).length = n * 5 := by
      have : ∀ l : List PL, (l.flatMap PL.cells).length = l.length * 5 := fun l => by
        induction l with
        | nil => rfl
        | cons a l ih => simp only [List.flatMap_cons, List.length_append, ih, List.length_cons]; simp [PL.cells]; omega
      rw [this, hml]
    have hle := Nat.mul_le_mul_right 5 hn
    apply List.ext_getElem?
    intro t
    by_cases ht : t < n * 5
    · rw [List.getElem?_take_of_lt ht, Array.getElem?_toList]
      have hc : t < cur.size := by omega
      unfold putCells
      rw [Array.getElem?_mapIdx, Array.getElem?_eq_getElem hc]
      simp only [Option.map_some, Nat.sub_zero, Nat.zero_le, true_and, Nat.zero_add, size_flatK, id]
      rw [if_pos (by rw [hd]; exact ht), get_flatK _ _ _ _ (by rw [hd]; exact ht)]
      have e := cells5_get (ds := d.toList.map (·.1)) (k := t / 5) (j := t % 5) (by omega) (Nat.mod_lt _ (by decide))
      rw [show t / 5 * 5 + t % 5 = t from Nat.div_add_mod' t 5] at e
      rw [e]
      have e2 : (d.toList.map (·.1))[t / 5]! = (d[t / 5]!).1 := by
        have h1 : t / 5 < d.size := by omega
        rw [getElem!_pos _ (t / 5) (by omega), getElem!_pos d (t / 5) h1]
        simp
      rw [e2]
      have h5 : t % 5 < (PL.cells (d[t / 5]!).1).length := Nat.mod_lt _ (by decide)
      rw [List.getElem?_eq_getElem h5]
      exact congrArg some (getElem!_pos (PL.cells (d[t / 5]!).1) (t % 5) h5)
    · rw [List.getElem?_eq_none (by simp; omega), List.getElem?_eq_none (by omega)]

theorem lift_pq : ∀ ds : List PL, (∀ d ∈ ds, ∃ p n c, d.x.cov = .slice p n c) → ∃ l : List PQ, l.map (·.1) = ds
  | [], _ => ⟨[], rfl⟩
  | d :: ds, h => by
    obtain ⟨l, hl⟩ := lift_pq ds (fun x hx => h x (by simp [hx]))
    exact ⟨(⟨d, h d (by simp)⟩ : PQ) :: l, congrArg (d :: ·) hl⟩

set_option maxHeartbeats 1000000 in
theorem sortfunc_any {W : World} {base n cap : Nat} {p : Option Addr} {ds : List PL} (h : W.ownsRow base 95 5 (.slice p n cap) n (ds.flatMap PL.cells)) (hl : ds.length = n) (hcov : ∀ d ∈ ds, ∃ p n c, d.x.cov = .slice p n c) (hn : n ≤ 2199023255552) :
    Calls Tryz.prog 74 #[.slice p n cap, .func (.func 75) #[] #[]] W fun e w' => e = .returned (.tuple #[]) ∧ ∃ ds' : List PL, ds'.Perm ds ∧ ds'.Pairwise (fun a b => a.x.p.turn ≤ b.x.p.turn) ∧ w'.ownsRow base 95 5 (.slice p n cap) n (ds'.flatMap PL.cells) ∧ W.grownBy w' (Value.slice p n cap).ownBlock := by
  by_cases h0 : n = 0
  · subst h0
    have hds : ds = [] := List.eq_nil_of_length_eq_zero hl
    subst hds
    refine (AnyF.slices_SortFunc_none Tryz.sortfL p cap _ W).mono ?_
    rintro e w' ⟨rfl, rfl⟩
    exact ⟨rfl, [], List.Perm.refl _, List.Pairwise.nil, h, ⟨rfl, rfl, rfl, Nat.le_refl _, fun _ _ _ => rfl⟩⟩
  · obtain ⟨g, rfl⟩ : ∃ g, p = some ⟨g, 0, none⟩ := by
      obtain ⟨g, cap', he, _⟩ := h.form (by omega)
      simp only [Value.slice.injEq, true_and] at he
      exact ⟨g, he.1⟩
    have hg := (own_block_lt h (b := g) rfl).1
    obtain ⟨l, hl'⟩ := lift_pq ds hcov
    obtain ⟨d, hd⟩ : ∃ d : Array PQ, d.toList.map (·.1) = ds := ⟨l.toArray, by simpa using hl'⟩
    have hds : d.size = n := by rw [← hl, ← hd]; simp
    have hH := holds_own h hl hd
    have hcon := AnyQ.slices_SortFunc Tryz.sortfL 5 Tryz.isAgg95 Tryz.sizeOf95 PQ.enc pq_len pq_one cfP swoP 75 #[] g 0 cap d W (enters_of Tryz.func75 (by kernel_rfl) rfl) (fun _ _ _ _ x y => closureP x y _) hH hg (by omega)
    rw [hds] at hcon
    refine hcon.mono ?_
    rintro e w' ⟨rfl, d', k, os, hp, hs, rfl⟩
    have hd' : d'.size = n := by rw [hp.1, hds]
    obtain ⟨r1, r2⟩ := sorted_own (k := k) h hd' os
    have hperm : d'.toList.Perm d.toList := by
      have := hp.2.2
      rw [show d'.extract 0 n = d' by rw [← hd']; simp, show d.extract 0 n = d by rw [← hds]; simp] at this
      exact this
    refine ⟨rfl, d'.toList.map (·.1), by rw [← hd]; exact hperm.map _, ?_, r1, r2⟩
    rw [List.pairwise_map, List.pairwise_iff_getElem]
    intro i j hi hj hij
    have hj' : j < d'.size := by simpa using hj
    have := hs i j (Nat.zero_le _) hij (by omega)
    rw [ltP] at this
    simp at this
    rw [getElem!_pos d' i (by omega), getElem!_pos d' j hj'] at this
    simpa using this

end Go.Proofs.YtikpckmlnhcddaaGreat
