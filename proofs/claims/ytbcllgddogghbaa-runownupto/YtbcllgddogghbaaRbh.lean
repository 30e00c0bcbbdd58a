/-
  The program's behind: what is left of each list. The conditions: lengths.
-/
import Derived.Test.YtbcllgddogghbaaRrc
namespace Go.Proofs.Ytbcllgddogghbaa
open Go.RowKit Go.Shelf

/-- A list of records in memory of its own. -/
def SV.own (x : SV) (W : World) (base : Nat) : Prop := W.ownsRow base 40 2 (.slice x.p x.rs.length x.c) x.rs.length (x.rs.flatMap RC.cells)
theorem SV.own.ok {x : SV} {W : World} {base : Nat} (h : x.own W base) : x.ok W := LRow.of_own RC.len rfl h
theorem SV.own.later {x : SV} {W W' : World} {base : Nat} (h : x.own W base) (hb : Below W.heap.size W W') : x.own W' base := ownsRow_later h hb
theorem SV.own.base {x : SV} {W : World} {base base' : Nat} (h : x.own W base) (hb : base' ≤ base) : x.own W base' := ownsRow_base h hb
/-- What is written to a row of lists leaves the lists alone. -/
theorem SV.own.set {x : SV} {W : World} {base b2 g n c i : Nat} {ys : List Value} {v : Value} (h : x.own W base) (hr : W.ownsRow b2 23 1 (.slice (some ⟨g, 0, none⟩) n c) n ys) : x.own (W.setCell ⟨g, i, none⟩ v) base :=
  ownsRow_only h (Only.set (F := fun i => i = g) W g i v rfl) (fun b hb e => by
    have e' : b = g := e
    rw [e'] at hb
    exact rows_apart h hr (by decide) rfl hb)
theorem RRow.tail {W : World} {p : Option Addr} {c : Nat} {rs : List RC} (h : RRow W p c rs) {j : Nat} (hj : j ≤ rs.length) : RRow W (if c = j then p else Option.map (fun x => x.add (j * 2)) p) (c - j) (rs.drop j) := by
  have h1 := h.le
  have h2 := h.top
  refine ⟨by rw [List.length_drop]; omega, by omega, ?_, ?_⟩
  · intro e
    by_cases hc : c = j
    · omega
    · rw [if_neg hc] at e
      have := h.nil (by simpa using e)
      omega
  · intro i hi
    rw [List.length_drop] at hi
    obtain ⟨g, o, e, hcell⟩ := h.cell (j + i) (by omega)
    rw [if_neg (by omega), e]
    refine ⟨g, o + j * 2, by simp [Addr.add], fun k hk => ?_⟩
    have := hcell k hk
    rw [getElem!_pos rs (j + i) (by omega)] at this
    rw [getElem!_pos (rs.drop j) i (by rw [List.length_drop]; omega), List.getElem_drop, ← this]
    congr 2
    omega
theorem made_lists : ∀ n, (madeCells (Value.slice none 0 0).cells (n * 1)).toList = (List.replicate n (default : SV)).flatMap SV.cells := by
  intro n
  have h1 : ∀ n, (List.replicate n (default : SV)).flatMap SV.cells = List.replicate n (Value.slice none 0 0) := by
    intro n
    induction n with
    | zero => rfl
    | succ n ih => rw [List.replicate_succ, List.flatMap_cons, ih]; rfl
  rw [h1, Nat.mul_one]
  apply List.ext_getElem
  · simp [size_madeCells]
  · intro i h2 h3
    simp [madeCells, Value.cells, Nat.mod_one]
theorem SV.flat (ys : List SV) : ys.flatMap SV.cells = ys.map (fun x => Value.slice x.p x.rs.length x.c) := by
  induction ys with
  | nil => rfl
  | cons y ys ih => rw [List.flatMap_cons, ih]; rfl
theorem SV.stored {W : World} {base g n c i : Nat} {ys : List SV} (h : W.ownsRow base 23 1 (.slice (some ⟨g, 0, none⟩) n c) n (ys.flatMap SV.cells)) (x : SV) : (W.setCell ⟨g, i, none⟩ (.slice x.p x.rs.length x.c)).ownsRow base 23 1 (.slice (some ⟨g, 0, none⟩) n c) n ((ys.set i x).flatMap SV.cells) := by
  rw [SV.flat] at h ⊢
  have h9 := (h.stored i (.slice x.p x.rs.length x.c)).1
  rw [List.map_set]
  exact h9
theorem get_setSV {ys : List SV} {k i : Nat} {x : SV} (hi : i < ys.length) : (ys.set k x)[i]! = if k = i then x else ys[i]! := by
  rw [getElem!_pos (ys.set k x) i (by simpa using hi), List.getElem_set, getElem!_pos ys i hi]

set_option maxRecDepth 100000 in
set_option maxHeartbeats 8000000 in
theorem behind_any {W : World} {p cp : Option Addr} {cap cc n : Nat} {xs : List SV} {cs : List Nat} (hx : LL W p cap xs) (hn : xs.length = n) (hcn : cs.length = n) (hc : Row .i64 W (.slice cp n cc) (cs.map fun m : Nat => (m : Int))) (hle : ∀ i, i < n → cs[i]! ≤ (xs[i]!).rs.length) (hb : n ≤ 1048576) (hlb : ∀ i, i < n → (xs[i]!).rs.length * 16 ≤ 140737488355328) :
    Calls Try.prog 37 #[.slice p n cap, .slice cp n cc] W fun e w' => ∃ g, ∃ ys : List SV, e = .returned (.slice (some ⟨g, 0, none⟩) n n) ∧ ys.length = n ∧ w'.ownsRow W.heap.size 23 1 (.slice (some ⟨g, 0, none⟩) n n) n (ys.flatMap SV.cells) ∧ (∀ i, i < n → (ys[i]!).own w' W.heap.size ∧ (ys[i]!).rs = (xs[i]!).rs.drop cs[i]!) ∧ Below W.heap.size W w' := by
  obtain ⟨i0, hI0, hz0, hz1, hz2⟩ := info_parts Try.infoRecs
  have i1 := hx.row.le
  have i2 := hx.row.top
  rw [hn] at i1
  obtain ⟨w1, hrun, hown, hgr⟩ := run_make_full W W.heap.size 22 23 i0 (.slice none 0 0) 1 Try.underlying22 hI0 hz0 hz1 .i64 .i64 n (by rw [hz2]; omega) (by unfold maxLen; omega) (Nat.le_refl _)
  rw [made_lists] at hown
  have hb1 : Below W.heap.size W w1 := (Below.refl _ W).grown hgr (Nat.le_refl _) (fun k hk => by simp at hk)
  obtain ⟨g, hg⟩ : ∃ g, W.heap.size = g := ⟨_, rfl⟩
  rw [hg] at hrun
  have HOW0 : Hid (w1.ownsRow W.heap.size 23 1 (.slice (some ⟨g, 0, none⟩) n n) n ((List.replicate n (default : SV)).flatMap SV.cells)) := by rw [← hg]; exact hide hown
  obtain ⟨_, _, ce, k1, k2, k3, k4⟩ := hc
  simp only [Value.slice.injEq] at ce
  obtain ⟨rfl, ce2, rfl⟩ := ce
  rw [List.length_map, hcn] at k1 k4
  have HC := hide k4
  have HX := hide hx
  have HN := hide hn
  have HCN := hide hcn
  have HLE := hide hle
  have HLB := hide hlb
  have HB1 := hide hb1
  have HG := hide hg
  clear hx hn hcn hle hlb hown hgr hb1 hg k4 ce2 k3
  go_enter Try.func37, Try.ntmps37
  go_wp2_with fail
  go_loopw [13] (fun s wq => ∃ (j : Nat) (ys : List SV), j ≤ n ∧ s = .int .i64 (j : Int) ∧ Hid (ys.length = n) ∧ Hid (wq.ownsRow W.heap.size 23 1 (.slice (some ⟨g, 0, none⟩) n n) n (ys.flatMap SV.cells)) ∧ Hid (∀ i, i < j → (ys[i]!).own wq W.heap.size ∧ (ys[i]!).rs = (xs[i]!).rs.drop cs[i]!) ∧ Hid (Below W.heap.size W wq)) (fun s _ => n - (intOf s).toNat)
  case atStart => exact ⟨0, List.replicate n default, Nat.zero_le _, rfl, hide (by simp), HOW0, hide (fun i hi => absurd hi (Nat.not_lt_zero i)), HB1⟩
  case round =>
    obtain ⟨j, ys, hj, rfl, HYL, HO, HYS, HB⟩ := hrel
    rename World => wq
    clear HOW0 hrun
    by_cases hlt : j < n
    · have hlt2 : j < xs.length := by rw [HN.out]; exact hlt
      have hll := HX.out.later HB.out
      obtain ⟨g2, o2, rfl, hcx⟩ := hll.at hlt2
      have hxm : xs[j]! ∈ xs := by rw [getElem!_pos xs j hlt2]; exact List.getElem_mem _
      have hrow := hll.ok _ hxm
      have hle := HLE.out j hlt
      have hlb := HLB.out j hlt
      obtain ⟨b1, o1, rfl, hc1⟩ := HC.out (by omega)
      obtain ⟨m, hm⟩ : ∃ m, cs[j]! = m := ⟨_, rfl⟩
      have dm : wq.cell? ⟨b1, o1 + j, none⟩ = some (.int .i64 (m : Int)) := by
        rw [cell_later HB.out (hc1 j hlt), ← hm, getElem!_pos cs j (by rw [HCN.out]; exact hlt), List.getD_eq_getElem?_getD, List.getElem?_map, List.getElem?_eq_getElem (by rw [HCN.out]; exact hlt)]
        rfl
      obtain ⟨x, hxx⟩ : ∃ x, xs[j]! = x := ⟨_, rfl⟩
      rw [hxx] at hcx hrow hle hlb
      rw [hm] at hle
      obtain ⟨rs, xp, xc⟩ := x
      simp only at hcx hle hlb
      have hrow2 : RRow wq xp xc rs := hrow
      have hrl := hrow2.le
      have hrt := hrow2.top
      have HXJ := hide hxx
      have HMJ := hide hm
      obtain ⟨tp, htp⟩ : ∃ tp, (if xc = m then xp else Option.map (fun x => x.add (m * 2)) xp) = tp := ⟨_, rfl⟩
      have hta := RRow.tail hrow2 hle
      rw [htp] at hta
      obtain ⟨L, hL⟩ : ∃ L, rs.length - m = L := ⟨_, rfl⟩
      have HCL := hide (recClone (n := L) hta (by rw [List.length_drop]; exact hL) (by omega))
      clear hta hrow hrow2 hxm hll hc1 hm hxx
      go_wp2_with fail
      refine HCL.out.mono ?_
      rintro _ w2 ⟨p', c', rfl, hO2, hB2⟩
      have hO3 := ownsRow_later HO.out hB2
      have hcell : ∃ v, w2.cell? ⟨g, j, none⟩ = some v := by
        obtain ⟨g', e', h9⟩ := own_cellR hO3 hlt
        simp only [Option.some.injEq, Addr.mk.injEq, and_true] at e'
        rw [← e'] at h9
        exact ⟨_, h9⟩
      obtain ⟨v0, c0⟩ := hcell
      have f0 : w2.frozen? ⟨g, j, none⟩ = false := hO3.frozenAt _
      have hLd : (rs.drop m).length = L := by rw [List.length_drop]; exact hL
      have hnew : SV.own ⟨rs.drop m, p', c'⟩ w2 W.heap.size := by
        have h9 := ownsRow_base hO2 HB.out.size
        show w2.ownsRow W.heap.size 40 2 (.slice p' (rs.drop m).length c') (rs.drop m).length _
        rw [hLd]
        exact h9
      have hst := SV.stored (i := j) hO3 ⟨rs.drop m, p', c'⟩
      simp only [hLd] at hst
      have HST := hide hst
      have HYL2 : Hid ((ys.set j ⟨rs.drop m, p', c'⟩).length = n) := hide (by rw [List.length_set]; exact HYL.out)
      have HYS2 : Hid (∀ i, i < j + 1 → ((ys.set j ⟨rs.drop m, p', c'⟩)[i]!).own (w2.setCell ⟨g, j, none⟩ (.slice p' L c')) W.heap.size ∧ ((ys.set j ⟨rs.drop m, p', c'⟩)[i]!).rs = (xs[i]!).rs.drop cs[i]!) := by
        refine hide (fun i hi => ?_)
        rw [get_setSV (by rw [HYL.out]; omega)]
        by_cases e : j = i
        · rw [if_pos e, ← e, HXJ.out, HMJ.out]
          exact ⟨hnew.set hO3, rfl⟩
        · rw [if_neg e]
          have := HYS.out i (by omega)
          exact ⟨(this.1.later hB2).set hO3, this.2⟩
      have HB3 : Hid (Below W.heap.size W (w2.setCell ⟨g, j, none⟩ (.slice p' L c'))) := hide ((HB.out.trans (hB2.mono HB.out.size)).setCell (p := ⟨g, j, none⟩) (Nat.le_of_eq HG.out) _)
      clear hnew hst hO3 hO2 hB2 HCL hcx dm
      go_wp2
      exact ⟨⟨j + 1, ys.set j ⟨rs.drop m, p', c'⟩, by omega, by first | rfl | go_num, HYL2, HST, HYS2, HB3⟩, by simp [intOf]; omega⟩
    · obtain rfl : j = n := by omega
      go_wp2
      go_ret
      exact ⟨g, ys, rfl, HYL.out, HO.out, HYS.out, HB.out⟩
end Go.Proofs.Ytbcllgddogghbaa
