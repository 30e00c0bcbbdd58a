/-
  The program's Edges, and the statements' function 'edges': all inputs, in order. The conditions: lengths.
-/
import Derived.Test.YtlfipmieaabagaaGreatGgn
import Derived.Test.YtlfipmieaabagaaGreatGcl
import Derived.Test.YtlfipmieaabagaaGreatGlo
namespace Go.Proofs.YtlfipmieaabagaaGreat
open Go.RowKit Go.Shelf
attribute [local go_sem] Oper.semAt_some

def atsG : Nat → List GO → List Int
  | _, [] => []
  | n, o :: os => o.ins.map (fun _ => (n : Int)) ++ atsG (n + 1) os
theorem atsG_len : ∀ (n : Nat) (os : List GO), (atsG n os).length = (flatC os).length
  | _, [] => rfl
  | n, o :: os => by
    have := atsG_len (n + 1) os
    simp only [atsG, flatC, List.flatMap_cons, List.length_append, List.length_map] at this ⊢
    omega
theorem tellG_ats : ∀ (os : List GO) (n k : Nat), k < (flatC os).length → (tellG n os).getD k #[] = #[.int .i64 ((atsG n os)[k]!), eV ((flatC os)[k]!)]
  | [], _, _, h => by cases h
  | o :: os, n, k, h => by
    have e0 : flatC (o :: os) = o.ins ++ flatC os := by simp [flatC]
    rw [e0] at h ⊢
    have hal := atsG_len (n + 1) os
    simp only [tellG, atsG]
    by_cases hk : k < o.ins.length
    · rw [List.getD_eq_getElem?_getD, List.getElem?_append_left (by simpa using hk), getElem!_pos (o.ins ++ flatC os) k h, List.getElem_append_left hk]
      rw [getElem!_pos (o.ins.map (fun _ => (n : Int)) ++ atsG (n + 1) os) k (by simp; omega), List.getElem_append_left (by simpa using hk)]
      simp [List.getElem?_map, List.getElem?_eq_getElem hk]
    · have hk2 : k - o.ins.length < (flatC os).length := by rw [List.length_append] at h; omega
      have hm := tellG_ats os (n + 1) (k - o.ins.length) hk2
      rw [List.getD_eq_getElem?_getD, List.getElem?_append_right (by simp; omega), ← List.getD_eq_getElem?_getD]
      rw [getElem!_pos (o.ins.map (fun _ => (n : Int)) ++ atsG (n + 1) os) k (by simp; omega), List.getElem_append_right (by simp; omega)]
      rw [getElem!_pos (o.ins ++ flatC os) k h, List.getElem_append_right (by omega)]
      rw [getElem!_pos (atsG (n + 1) os) _ (by omega), getElem!_pos (flatC os) _ hk2] at hm
      simp only [List.length_map]
      exact hm
theorem GOwn.only {A B : World} {F : Nat → Prop} {base cap : Nat} {p : Option Addr} {os : List OV} (h : GOwn A base p cap os) (ho : Only F A B) (hF : ∀ i, F i → ∃ cs t, A.heap[i]? = some (.cells cs t (0, 0)) ∧ t ≠ 95 ∧ t ≠ 119) : GOwn B base p cap os := by
  refine ⟨ownsRow_only h.own ho (fun b hb hf => ?_), fun x hx => ownsRow_only (h.ins x hx) ho (fun b hb hf => ?_)⟩
  · obtain ⟨cs, t, h1, h2, _⟩ := hF b hf
    obtain ⟨_, cur, h3⟩ := own_block_lt h.own hb
    rw [h1] at h3
    simp at h3
    exact h2 h3.2
  · obtain ⟨cs, t, h1, _, h2⟩ := hF b hf
    obtain ⟨_, cur, h3⟩ := own_block_lt (h.ins x hx) hb
    rw [h1] at h3
    simp at h3
    exact h2 h3.2
/-- What the loop keeps. -/
def EdI (V : World) (s n2 : Nat) (ats : List Int) (fl : List GE) (k : Nat) (X : World) : Prop :=
  ∃ v u, Boxed X s 88 v ∧ Boxed X (s + 1) 93 u ∧ X.ownsRow n2 3 1 v k ((ats.take k).map (Value.int .i64)) ∧ X.ownsRow n2 119 2 u k ((fl.take k).flatMap GE.cells) ∧ Only (fun i => i = s ∨ i = s + 1) V X
theorem put_only {W1 : World} {l : Nat} {o' : Obj} : Only (· = l) W1 (W1.putObj l o') := Only.of_grown (F := (· = l)) (grownBy_putObj' W1 l o') (fun k e => by simpa using e.symm)
theorem row_put {W1 : World} {l base n k : Nat} {e : TypeId} {v : Value} {xs : List Value} {o o' : Obj} (h : W1.ownsRow base e k v n xs) (ho : W1.heap[l]? = some o) (hc : o.isCells = false) : (W1.putObj l o').ownsRow base e k v n xs :=
  ownsRow_only h put_only (fun b hb e => by
    have e' : b = l := e
    obtain ⟨_, cur, h3⟩ := own_block_lt h hb
    rw [e', ho] at h3
    simp only [Option.some.injEq] at h3
    rw [h3] at hc
    simp [Obj.isCells] at hc)

set_option maxRecDepth 100000 in
set_option maxHeartbeats 4000000 in
theorem edgesOf_any {W : World} {parts : Int} {p : Option Addr} {cap n : Nat} {os : List OV} (ho : GRow W p cap os) (hn : os.length = n) (hb : n * 56 ≤ 140737488355328) (hin : ∀ x ∈ os, x.o.ins.length * 16 ≤ 140737488355328) :
    Calls Tryz.prog 69 #[.agg #[.int .i64 parts, .slice p n cap]] W fun e w' => ∃ bk p' c' xs, e = .returned (.func (.func 123) #[] #[.pointer (some ⟨bk, 0, none⟩)]) ∧ xs.map OV.o = os.map OV.o ∧ GOwn w' W.heap.size p' c' xs ∧ Boxed w' bk 22 (.slice p' xs.length c') ∧ W.heap.size ≤ bk ∧ Below W.heap.size W w' := by
  have i3 := ho.le
  have i4 := ho.top
  rw [hn] at i3
  have hb0 := alloc_below W (.cells #[.int .i64 parts, .slice p n cap] 24 (0, 0))
  have HC := hide (gclone_any (parts := parts) (ho.below hb0) hn hb hin)
  have HB0 := hide hb0
  clear ho hb0 hin
  go_enter Tryz.func69, Tryz.ntmps69
  go_wp2_with fail
  refine HC.out.mono ?_
  rintro _ w1 ⟨p', c', xs, rfl, hs, G1, B1⟩
  have HB1 := hide (HB0.out.trans (B1.mono HB0.out.size))
  have hx : xs.length = n := by have := congrArg List.length hs; simpa [hn] using this
  have HG1 := hide G1
  have HS := hide hs
  have HX := hide hx
  have HSZ := hide B1.size
  clear G1 hs hx B1
  have hfd : ∀ w : World, (Instr.field 24 (.agg #[.int .i64 parts, .slice p' n c']) 1).run Tryz.prog w = .ok (.slice p' n c') w := fun _ => by kernel_rfl
  go_wp2_with fail
  refine inputs_any.mono ?_
  rintro _ w2 ⟨rfl, hw2⟩
  have hb2 : Below w1.heap.size w1 w2 := by rw [hw2]; exact alloc_below _ _
  have hbox : w2.heap[w1.heap.size]? = some (.cells #[.slice p' n c'] 22 (0, 0)) := by rw [hw2]; exact heap_alloc_new _ _
  have HG2 := hide (HG1.out.below hb2)
  have HBX := hide hbox
  have HB2 := hide (HB1.out.trans (hb2.mono HB1.out.size))
  clear hb2 hbox hw2
  go_wp2
  go_ret
  refine ⟨w1.heap.size, p', c', xs, rfl, HS.out, ⟨ownsRow_base HG2.out.own (by simp), fun x hx => ownsRow_base (HG2.out.ins x hx) (by simp)⟩, ?_, HB1.out.size, HB2.out⟩
  rw [HX.out]
  exact HBX.out

end Go.Proofs.YtlfipmieaabagaaGreat
