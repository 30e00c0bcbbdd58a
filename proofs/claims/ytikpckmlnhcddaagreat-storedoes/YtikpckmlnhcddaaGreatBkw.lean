/-
  What slices.Backward tells of the pending writes of all files, from the last one on. The conditions: the slice stays.
-/
import Derived.Test.YtikpckmlnhcddaaGreatRng
namespace Go.Proofs.YtikpckmlnhcddaaGreat
open Go.RowKit Go.Shelf
attribute [local go_sem] Oper.semAt_some

/-- A pending write, and its file. -/
structure PL where
  fb : Nat
  x : MW
instance : Inhabited PL := ⟨⟨0, ⟨⟨0, 0, 0, []⟩, undef⟩⟩⟩
def PL.cells (d : PL) : List Value := [.pointer (some ⟨d.fb, 0, none⟩), .int .i64 d.x.p.turn, .int .i64 d.x.p.beg, .int .i64 d.x.p.size, d.x.cov]

theorem cells5_get {ds : List PL} {k j : Nat} (hk : k < ds.length) (hj : j < 5) : (ds.flatMap PL.cells)[k * 5 + j]? = (ds[k]!).cells[j]? := by
  induction ds generalizing k with
  | nil => simp at hk
  | cons d ds ih =>
    cases k with
    | zero =>
      simp only [List.flatMap_cons, Nat.zero_mul, Nat.zero_add]
      rw [List.getElem?_append_left (by simp [PL.cells]; omega)]
      simp
    | succ k =>
      simp only [List.flatMap_cons]
      rw [List.getElem?_append_right (by simp [PL.cells]; omega)]
      have e : (k + 1) * 5 + j - d.cells.length = k * 5 + j := by simp [PL.cells]; omega
      rw [e, ih (by simpa using hk)]
      simp

theorem placed_cells {W : World} {base n cap k : Nat} {p : Option Addr} {ds : List PL} (h : W.ownsRow base 95 5 (.slice p n cap) n (ds.flatMap PL.cells)) (hl : ds.length = n) (hk : k < n) : ∃ g, p = some ⟨g, 0, none⟩ ∧
    W.cell? ⟨g, k * 5, none⟩ = some (.pointer (some ⟨(ds[k]!).fb, 0, none⟩)) ∧ W.cell? ⟨g, k * 5 + 1, none⟩ = some (.int .i64 (ds[k]!).x.p.turn) ∧ W.cell? ⟨g, k * 5 + 2, none⟩ = some (.int .i64 (ds[k]!).x.p.beg) ∧ W.cell? ⟨g, k * 5 + 3, none⟩ = some (.int .i64 (ds[k]!).x.p.size) ∧ W.cell? ⟨g, k * 5 + 4, none⟩ = some (ds[k]!).x.cov := by
  rcases h.2 with ⟨_, h0⟩ | ⟨g, cap', cur, he, _⟩
  · omega
  · simp only [Value.slice.injEq, true_and] at he
    obtain ⟨rfl, rfl⟩ := he
    have c : ∀ j, j < 5 → W.cell? ⟨g, k * 5 + j, none⟩ = (ds[k]!).cells[j]? := fun j hj => by
      rw [h.cellAt (k * 5 + j) (by omega), cells5_get (by omega) hj]
    exact ⟨g, rfl, c 0 (by omega), c 1 (by omega), c 2 (by omega), c 3 (by omega), c 4 (by omega)⟩

/-- What is told in round k. -/
def toldP (ds : List PL) (k : Nat) : Array Value := #[.int .i64 ((ds.length - 1 - k : Nat) : Int), .agg (ds[ds.length - 1 - k]!).cells.toArray]

set_option maxRecDepth 100000 in
set_option maxHeartbeats 2000000 in
theorem backward_any {W : World} (v : Value) (p : Option Addr) (n cap : Nat) (hv : v = .slice p n cap) : Calls Tryz.prog 57 #[v] W fun e w' => e = .returned (.func (.func 77) #[] #[.pointer (some ⟨W.heap.size, 0, none⟩)]) ∧ w' = W.alloc (.cells #[v] 86) := by
  subst hv
  go_enter Tryz.func57, Tryz.ntmps57
  go_wp2
  go_ret
  exact ⟨rfl, rfl⟩

set_option maxRecDepth 100000 in
set_option maxHeartbeats 2000000 in
theorem backward_tells (m : Nat) (hm : 1 ≤ m) {Bk base : Nat} {v : Value} {ds : List PL} (hlen : ds.length ≤ 2199023255552) (hcov : ∀ d ∈ ds, ∃ p n c, d.x.cov = .slice p n c) :
    Tells m 77 #[.pointer (some ⟨Bk, 0, none⟩)] ((List.range ds.length).map (toldP ds)) (fun W => Boxed W Bk 86 v ∧ W.ownsRow base 95 5 v ds.length (ds.flatMap PL.cells)) := by
  intro l J Jx hr hY W h0
  have HR := hide hr
  have HY := hide hY
  have H0 := hide h0
  obtain ⟨hbox, hrow⟩ := hr 0 W h0
  obtain ⟨p, cap, rfl, hc1, hc2⟩ := own_form hrow
  have hcell := hbox.cell
  clear hr hY h0 hbox hrow
  rw [List.length_map, List.length_range] at *
  show CallsIn Fence.wide m Tryz.prog 77 #[.func (.yield l) #[] #[], .pointer (some ⟨Bk, 0, none⟩)] W _
  refine callsIn_of_wp Tryz.func77 rfl trivial ?_ rfl
  simp only [Tryz.ntmps77, List.size_toArray, List.length_cons, List.length_nil, Nat.reduceAdd, Nat.reduceSub, Array.replicate_succ, Array.replicate_zero, List.push_toArray, List.append_toArray, List.nil_append, List.cons_append]
  have HCV := hide hcov
  clear hcov
  gi_wp2
  gi_loopw [3] (fun i wr => ∃ r k : Nat, r + k = ds.length ∧ i = .int .i64 ((r : Int) - 1) ∧ Hid (J k wr)) (fun i _ => (intOf i + 1).toNat)
  case atStart => exact ⟨ds.length, 0, rfl, rfl, H0⟩
  case round =>
    obtain ⟨r, k, hk, rfl, HJ⟩ := hrel
    clear H0 hcell
    cases r with
    | zero =>
      obtain rfl : k = ds.length := by omega
      gi_wp2
      refine bodyPost_end (results_none rfl _ _ _) rfl ?_
      exact ⟨⟨_, rfl⟩, .inl HJ.out⟩
    | succ j =>
      have hcell := (HR.out k wr HJ.out).1.cell
      obtain ⟨g, rfl, d0, d1, d2, d3, d4⟩ := placed_cells (k := j) (HR.out k wr HJ.out).2 rfl (by omega)
      obtain ⟨pc, nc, cc, hce⟩ := HCV.out (ds[j]!) (by rw [getElem!_pos ds j (by omega)]; exact List.getElem_mem _)
      rw [hce] at d4
      have hnk : ((List.range ds.length).map (toldP ds)).getD k #[] = #[.int .i64 (j : Int), .agg #[.pointer (some ⟨(ds[j]!).fb, 0, none⟩), .int .i64 (ds[j]!).x.p.turn, .int .i64 (ds[j]!).x.p.beg, .int .i64 (ds[j]!).x.p.size, .slice pc nc cc]] := by
        have e : ds.length - 1 - k = j := by omega
        simp only [List.getD, List.getElem?_map, List.getElem?_range (show k < ds.length by omega), Option.map_some, Option.getD_some, toldP, e, PL.cells, hce]
      obtain ⟨fn, tmps, assign, body, hy, hRd⟩ := HY.out k wr HJ.out (by omega)
      rw [hnk] at hy
      obtain ⟨d, hd⟩ : ∃ d, ds[j]! = d := ⟨_, rfl⟩
      rw [hd] at d0 d1 d2 d3 hy
      have HRd := hide hRd
      have e1 : ((j + 1 : Nat) : Int) - 1 = (j : Int) := by omega
      rw [e1]
      have q0 : (j : Int) < (ds.length : Int) := by omega
      clear hRd hnk hd hce
      gi_wp2
      refine HRd.out.mono ?_
      rintro e W3 (⟨rfl, hJ3⟩ | ⟨rfl, hJ3⟩)
      · have J3 := hide hJ3
        clear HRd hy hJ3
        gi_wp2
        go_roundw
        case rel => exact ⟨j, k + 1, by omega, rfl, J3⟩
        case measure => simp [intOf]
      · have J3 := hide hJ3
        clear HRd hy hJ3
        gi_wp2
        refine bodyPost_ret (results_none rfl _ _ _) rfl ?_
        exact ⟨⟨_, rfl⟩, .inr ⟨k + 1, by omega, J3.out⟩⟩
end Go.Proofs.YtikpckmlnhcddaaGreat
