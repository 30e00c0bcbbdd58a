/-
 Plain of the program's sink. The conditions: that the sink lies there; lengths.
-/
import Derived.Test.YtboofnkajjnmeaaTk0
import Derived.Test.YtboofnkajjnmeaaSkx
import Derived.Deep.CutRange
namespace Go.Proofs.Ytboofnkajjnmeaa
open Go.RowKit Go.Maps Go.Shelf

structure QK where
 op : Option Addr
 oc : Nat
 vp : Option Addr
 vc : Nat
 dp : Option Addr
 dc : Nat
 pp : Option Addr
 pc : Nat
 reg : Int
 out : List RC
 vec : List Int
 done : List Int
 ts : List TP
def QK.sk (q : QK) : SK := ⟨q.reg, q.out, q.vec, q.done, q.ts.map TP.t⟩
def QK.row (q : QK) : Array Value := #[.int .i64 q.reg, .slice q.op q.out.length q.oc, .slice q.vp q.vec.length q.vc, .slice q.dp q.done.length q.dc, .slice q.pp q.ts.length q.pc]
structure QO (B : Nat) (W : World) (q : QK) : Prop where
 out : W.ownsRow B 49 2 (.slice q.op q.out.length q.oc) q.out.length (q.out.flatMap RC.cells)
 vec : W.ownsRow B 2 1 (.slice q.vp q.vec.length q.vc) q.vec.length (q.vec.flatMap intCells)
 done : W.ownsRow B 2 1 (.slice q.dp q.done.length q.dc) q.done.length (q.done.flatMap intCells)
 pre : W.ownsRow B 34 5 (.slice q.pp q.ts.length q.pc) q.ts.length (q.ts.flatMap TP.cells)
 ts : ∀ x ∈ q.ts, TO B W x
theorem QO.later {B : Nat} {W W' : World} {q : QK} (h : QO B W q) (hb : Below W.heap.size W W') : QO B W' q :=
 ⟨ownsRow_later h.out hb, ownsRow_later h.vec hb, ownsRow_later h.done hb, ownsRow_later h.pre hb, fun x hx => (h.ts x hx).later hb⟩
theorem own_types {w w' : World} {F : Nat → Prop} {t : TypeId} {base k n : Nat} {v : Value} {xs : List Value} (h : w.ownsRow base t k v n xs) (ho : Only F w w') (hF : ∀ i, F i → ∀ cur, w.heap[i]? ≠ some (.cells cur t (0, 0))) : w'.ownsRow base t k v n xs :=
 ownsRow_only h ho (fun i hi e => by
   obtain ⟨_, c2, h3⟩ := own_block_lt h hi
   exact hF i e c2 h3)
structure PlnI (W : World) (pB rB : Nat) (k : PK) (j : Nat) (q : QK) (w : World) : Prop where
 box : w.heap[pB]? = some (.cells q.row 43 (0, 0))
 res : w.heap[rB]? = some (.cells #[.int .i64 0, .slice none 0 0, .slice none 0 0, .slice none 0 0, .slice none 0 0] 43 (0, 0))
 own : QO W.heap.size w q
 eq : q.reg = k.reg ∧ q.out = k.out ∧ q.vec = k.vec ∧ q.done = k.done ∧ q.ts.map TP.t = (k.xs.take j).map TP.t
 ne : pB ≠ rB ∧ W.heap.size ≤ pB ∧ W.heap.size ≤ rB
 below : Below W.heap.size W w
theorem PlnI.later {W : World} {pB rB : Nat} {k : PK} {j : Nat} {q : QK} {w w' : World} (h : PlnI W pB rB k j q w) (hb : Below w.heap.size w w') : PlnI W pB rB k j q w' :=
 ⟨below_box hb h.box, below_box hb h.res, h.own.later hb, h.eq, h.ne, h.below.trans (hb.mono h.below.size)⟩
theorem PlnI.sk {W : World} {pB rB : Nat} {k : PK} {j : Nat} {q : QK} {w : World} (h : PlnI W pB rB k j q w) (hj : k.xs.length = j) : q.sk = k.sk := by
 obtain ⟨e1, e2, e3, e4, e5⟩ := h.eq
 rw [← hj, List.take_length] at e5
 unfold QK.sk PK.sk
 rw [e1, e2, e3, e4, e5]
theorem QO.set {B : Nat} {W W' : World} {q : QK} {b : Nat} {cs : Array Value} {fr : Nat × Nat} (h : QO B W q) (ho : Only (· = b) W W') (hb : W.heap[b]? = some (.cells cs 43 fr)) : QO B W' q :=
 ⟨own_type h.out ho hb (by decide), own_type h.vec ho hb (by decide), own_type h.done ho hb (by decide), own_type h.pre ho hb (by decide), fun x hx => ⟨own_type (h.ts x hx).r ho hb (by decide), own_type (h.ts x hx).v ho hb (by decide)⟩⟩
theorem pre_ty {B : Nat} {W : World} {q : QK} (h : QO B W q) {t : TypeId} (ht : 34 ≠ t) : ∀ i, (Value.slice q.pp q.ts.length q.pc).ownBlock = some i → ∀ cur, W.heap[i]? ≠ some (.cells cur t (0, 0)) := fun i hi cur e => by
 obtain ⟨_, c1, e1⟩ := own_block_lt h.pre hi
 rw [e] at e1
 simp at e1
 exact ht e1.2.symm
theorem PlnI.app {W : World} {pB rB : Nat} {k : PK} {j : Nat} {q : QK} {w w' : World} (h : PlnI W pB rB k j q w) {y : TP} (hy : TO W.heap.size w y) (hj : j < k.xs.length) (ht : y.t = k.xs[j]!.t) {p6 : Option Addr} {c6 : Nat} (o6 : w'.ownsRow W.heap.size 34 5 (.slice p6 (q.ts.length + 1) c6) (q.ts.length + 1) (q.ts.flatMap TP.cells ++ y.cells)) (g6 : w.grownBy w' (Value.slice q.pp q.ts.length q.pc).ownBlock) :
  w'.heap[pB]? = some (.cells q.row 43 (0, 0)) ∧ PlnI W pB rB k (j + 1) ⟨q.op, q.oc, q.vp, q.vc, q.dp, q.dc, p6, c6, q.reg, q.out, q.vec, q.done, q.ts ++ [y]⟩ (w'.setCell ⟨pB, 4, none⟩ (.slice p6 (q.ts.length + 1) c6)) := by
 have ho : Only (fun i => (Value.slice q.pp q.ts.length q.pc).ownBlock = some i) w w' := Only.of_grown g6 (fun k e => e)
 have hnb : ∀ {b : Nat} {cs : Array Value}, w.heap[b]? = some (.cells cs 43 (0, 0)) → ¬ (Value.slice q.pp q.ts.length q.pc).ownBlock = some b := fun hb e => pre_ty h.own (t := 43) (by decide) _ e _ hb
 have hb1 := ho.obj h.box (hnb h.box); have hb2 := ho.obj h.res (hnb h.res)
 have hq : QO W.heap.size w' ⟨q.op, q.oc, q.vp, q.vc, q.dp, q.dc, p6, c6, q.reg, q.out, q.vec, q.done, q.ts ++ [y]⟩ := by
  refine ⟨own_types h.own.out ho (pre_ty h.own (by decide)), own_types h.own.vec ho (pre_ty h.own (by decide)), own_types h.own.done ho (pre_ty h.own (by decide)), ?_, fun x hx => ?_⟩
  ·show w'.ownsRow _ _ _ (.slice p6 (q.ts ++ [y]).length c6) (q.ts ++ [y]).length ((q.ts ++ [y]).flatMap TP.cells)
   rw [List.flatMap_append, List.length_append]
   have e1 : [y].flatMap TP.cells = y.cells := by simp
   rw [e1]
   exact o6
  ·have hx2 : TO W.heap.size w x := by
    rcases List.mem_append.1 hx with hx | hx
    ·exact h.own.ts x hx
    ·obtain rfl : x = y := by simpa using hx
     exact hy
   exact ⟨own_types hx2.r ho (pre_ty h.own (by decide)), own_types hx2.v ho (pre_ty h.own (by decide))⟩
 have hs : Only (· = pB) w' (w'.setCell ⟨pB, 4, none⟩ (.slice p6 (q.ts.length + 1) c6)) := Only.set (F := (· = pB)) w' pB 4 _ rfl
 refine ⟨hb1, ?_, ?_, hq.set hs hb1, ?_, h.ne, ?_⟩
 ·have := heap_set_sameL hb1 4 (.slice p6 (q.ts.length + 1) c6)
  rw [this]
  simp [QK.row]
 ·exact hs.obj hb2 (fun e => h.ne.1 (by have e' : rB = pB := e; exact e'.symm))
 ·obtain ⟨e1, e2, e3, e4, e5⟩ := h.eq
  refine ⟨e1, e2, e3, e4, ?_⟩
  show (q.ts ++ [y]).map TP.t = _
  rw [List.map_append, e5, List.take_succ_eq_append_getElem hj, List.map_append]
  simp only [List.map_cons, List.map_nil]
  rw [ht, getElem!_pos k.xs j hj]
 ·have hoo : Only (fun i => (Value.slice q.pp q.ts.length q.pc).ownBlock = some i ∨ i = pB) w (w'.setCell ⟨pB, 4, none⟩ (.slice p6 (q.ts.length + 1) c6)) := (ho.mono (fun _ _ e => .inl e)).trans (Only.set w' pB 4 _ (.inr rfl))
  refine h.below.trans (hoo.below h.below.size (fun i e => ?_))
  rcases e with e | e
  ·exact own_block_base h.own.pre e
  ·have := h.ne
   omega
theorem nm_at {W : World} {p : Option Addr} {cap : Nat} {os : List (Int × Int)} (h : LRow nmC 2 W p cap os) {i : Nat} (hi : i < os.length) {x : Int × Int} (hx : os[i]! = x) : ∃ g o, p = some ⟨g, o, none⟩ ∧ W.cell? ⟨g, o + i * 2, none⟩ = some (.int .i64 x.1) ∧ W.cell? ⟨g, o + i * 2 + 1, none⟩ = some (.int .i64 x.2) := by
 obtain ⟨g, o, e, hc⟩ := h.cell i hi
 rw [hx] at hc
 exact ⟨g, o, e, hc 0 (by decide), hc 1 (by decide)⟩
theorem find_nm {xs : List TP} {reg : Int} (hN : Named xs reg) {x : TP} (hx : x ∈ xs) : findP xs x.t.id = some x := by
 unfold findP
 cases hf : xs.find? (fun y => y.t.id == x.t.id) with
 | none =>
  rw [List.find?_eq_none] at hf
  exact absurd (by simp) (hf x hx)
 | some y =>
  have h1 := List.mem_of_find?_eq_some hf; have h2 := List.find?_some hf
  rw [pair_eq hN.apart h1 hx (by simpa using h2)]
theorem Try.infoTxn : (Try.prog.info? 34).map (fun i => (i.zero, i.size, i.bytes)) = some (some (.agg #[.int .i64 0, .int .i64 0, .int .i64 0, .slice none 0 0, .slice none 0 0]), 5, 72) := by kernel_rfl
set_option maxRecDepth 100000 in
set_option maxHeartbeats 8000000 in
theorem plain_any {W : World} {B : Nat} {k : PK} (h : PS B W k) (hdn : k.done.length < 17592186044416) :
  Calls Try.prog 15 #[.pointer (some ⟨k.b, 0, none⟩)] W fun e w' => ∃ q : QK, e = .returned (.agg q.row) ∧ QO W.heap.size w' q ∧ q.sk = k.sk ∧ Below W.heap.size W w' := by
 have HP := hide h
 have HBD : Hid (k.out.length ≤ 4096 ∧ k.vec.length ≤ 4 ∧ k.done.length < 17592186044416 ∧ k.xs.length ≤ 8) := hide ⟨h.ok.out, h.ok.parts.2, hdn, by have h9 := h.ok.room; simpa [PK.sk] using h9⟩
 clear h hdn
 obtain ⟨V, hV⟩ : ∃ V, V = W.alloc (.cells #[.int .i64 0, .slice none 0 0, .slice none 0 0, .slice none 0 0, .slice none 0 0] 43 (0, 0)) := ⟨_, rfl⟩
 have HR : Hid (V.heap[W.heap.size]? = some (.cells #[.int .i64 0, .slice none 0 0, .slice none 0 0, .slice none 0 0, .slice none 0 0] 43 (0, 0))) := hide (by rw [hV]; exact heap_alloc_new W _)
 have HBR : Hid (Below W.heap.size W V) := hide (by rw [hV]; exact alloc_below _ _)
 obtain ⟨rB, hrB⟩ : ∃ rB, W.heap.size = rB := ⟨_, rfl⟩
 rw [hrB] at HR HBR
 have HZrB := hide hrB
 have HW0 : Hid (Below W.heap.size W V) := hide (by rw [HZrB.out]; exact HBR.out)
 have HRB : Hid (W.heap.size ≤ rB) := hide (by have := HZrB.out; omega)
 have HPV := hide (HP.out.later HW0.out); have HM := hide (made_yes HPV.out)
 go_enter Try.func15, Try.ntmps15
 go_upto_region 1 with fail
 rw [← hV]
 try rw [hrB]
 clear hV hrB
 go_wp2_with fail
 refine HM.out.mono ?_
 rintro _ _ ⟨rfl, rfl⟩
 rename World => V
 go_upto_region 3 with fail
 have u0 := HPV.out.c0; have u1 := HPV.out.c1; have u2 := HPV.out.c2; have u3 := HPV.out.c3
 have HB0 : Hid (Below V.heap.size V V.drew) := hide (Below.refl _ V).drew
 clear HM
 go_cut [3] from 10 to 29 (fun s3 wd => ∃ pB q, s3 = .pointer (some ⟨pB, 0, none⟩) ∧ Hid (PlnI W pB rB k 0 q wd))
 case first =>
  refine wp_region_held_drew (S := fun w9 => Below V.heap.size V w9) (by kernel_rfl) (Below.refl _ V).drew (fun hHeld => ?_)
  refine tb 0 ?_ rfl (by kernel_rfl) (fun _ _ _ h => h) (by assumption) ?_ ?_
  rotate_left
  ·intro w hSw; have l0 := cell_later hSw u0
   have l1 := cell_later hSw u1; have l2 := cell_later hSw u2; have l3 := cell_later hSw u3
   go_simp
   all_goals with_reducible rfl
  simp only [Act.put]
  refine tb 1 ?_ rfl (by kernel_rfl) (fun _ _ _ h => h) (by assumption) ?_ ?_
  rotate_left
  ·intro w hSw; have l0 := cell_later hSw u0
   have l1 := cell_later hSw u1; have l2 := cell_later hSw u2; have l3 := cell_later hSw u3
   go_simp
   all_goals with_reducible rfl
  simp only [Act.put]
  refine tb 2 ?_ rfl (by kernel_rfl) (fun _ _ _ h => h) (by assumption) ?_ ?_
  rotate_left
  ·intro w hSw; have l0 := cell_later hSw u0
   have l1 := cell_later hSw u1; have l2 := cell_later hSw u2; have l3 := cell_later hSw u3
   go_simp
   all_goals with_reducible rfl
  simp only [Act.put]
  refine tb 3 ?_ rfl (by kernel_rfl) (fun _ _ _ h => h) (by assumption) ?_ ?_
  rotate_left
  ·intro w hSw; have l0 := cell_later hSw u0
   have l1 := cell_later hSw u1; have l2 := cell_later hSw u2; have l3 := cell_later hSw u3
   go_simp
   all_goals with_reducible rfl
  simp only [Act.put]
  refine tb 4 ?_ rfl (by kernel_rfl) (fun _ _ _ h => h) (by assumption) ?_ ?_
  rotate_left
  ·intro w hSw; have l0 := cell_later hSw u0
   have l1 := cell_later hSw u1; have l2 := cell_later hSw u2; have l3 := cell_later hSw u3
   go_simp
   all_goals with_reducible rfl
  simp only [Act.put]
  refine tb 5 ?_ rfl (by kernel_rfl) (fun _ _ _ h => h) (by assumption) ?_ ?_
  rotate_left
  ·intro w hSw; have l0 := cell_later hSw u0
   have l1 := cell_later hSw u1; have l2 := cell_later hSw u2; have l3 := cell_later hSw u3
   go_simp
   all_goals with_reducible rfl
  simp only [Act.put]
  refine tb 6 ?_ rfl (by kernel_rfl) (fun _ _ _ h => h) (by assumption) ?_ ?_
  rotate_left
  ·intro w hSw; have l0 := cell_later hSw u0
   have l1 := cell_later hSw u1; have l2 := cell_later hSw u2; have l3 := cell_later hSw u3
   go_simp
   all_goals with_reducible rfl
  simp only [Act.put]
  refine tb 7 ?_ rfl (by kernel_rfl) (fun _ _ _ h => h) (by assumption) ?_ ?_
  rotate_left
  ·intro w hSw; have l0 := cell_later hSw u0
   have l1 := cell_later hSw u1; have l2 := cell_later hSw u2; have l3 := cell_later hSw u3
   go_simp
   all_goals with_reducible rfl
  simp only [Act.put]
  refine tb 9 ?_ rfl (by kernel_rfl) (fun _ _ _ h => h) (by assumption) ?_ ?_
  rotate_left
  ·intro w hSw; have l0 := cell_later hSw u0
   have l1 := cell_later hSw u1; have l2 := cell_later hSw u2; have l3 := cell_later hSw u3
   go_simp
   all_goals with_reducible rfl
  simp only [Act.put]
  refine tb 10 ?_ rfl (by kernel_rfl) (fun _ _ _ h => h) (by assumption) ?_ ?_
  rotate_left
  ·intro w hSw; have l0 := cell_later hSw u0
   have l1 := cell_later hSw u1; have l2 := cell_later hSw u2; have l3 := cell_later hSw u3
   go_simp
   all_goals with_reducible rfl
  simp only [Act.put]
  refine tb 11 ?_ rfl (by kernel_rfl) (fun _ _ _ h => h) (by assumption) ?_ ?_
  rotate_left
  ·intro w hSw; have l0 := cell_later hSw u0
   have l1 := cell_later hSw u1; have l2 := cell_later hSw u2; have l3 := cell_later hSw u3
   go_simp
   all_goals with_reducible rfl
  simp only [Act.put]
  refine tb 12 ?_ rfl (by kernel_rfl) (fun _ _ _ h => h) (by assumption) ?_ ?_
  rotate_left
  ·intro w hSw; have l0 := cell_later hSw u0
   have l1 := cell_later hSw u1; have l2 := cell_later hSw u2; have l3 := cell_later hSw u3
   go_simp
   all_goals with_reducible rfl
  simp only [Act.put]
  refine tb 14 ?_ rfl (by kernel_rfl) (fun _ _ _ h => h) (by assumption) ?_ ?_
  rotate_left
  ·intro w hSw; have l0 := cell_later hSw u0
   have l1 := cell_later hSw u1; have l2 := cell_later hSw u2; have l3 := cell_later hSw u3
   go_simp
   all_goals with_reducible rfl
  simp only [Act.put]
  refine tb 15 ?_ rfl (by kernel_rfl) (fun _ _ _ h => h) (by assumption) ?_ ?_
  rotate_left
  ·intro w hSw; have l0 := cell_later hSw u0
   have l1 := cell_later hSw u1; have l2 := cell_later hSw u2; have l3 := cell_later hSw u3
   go_simp
   all_goals with_reducible rfl
  simp only [Act.put]
  refine tb 16 ?_ rfl (by kernel_rfl) (fun _ _ _ h => h) (by assumption) ?_ ?_
  rotate_left
  ·intro w hSw; have l0 := cell_later hSw u0
   have l1 := cell_later hSw u1; have l2 := cell_later hSw u2; have l3 := cell_later hSw u3
   go_simp
   all_goals with_reducible rfl
  simp only [Act.put]
  refine tb 17 ?_ rfl (by kernel_rfl) (fun _ _ _ h => h) (by assumption) ?_ ?_
  rotate_left
  ·intro w hSw; have l0 := cell_later hSw u0
   have l1 := cell_later hSw u1; have l2 := cell_later hSw u2; have l3 := cell_later hSw u3
   go_simp
   all_goals with_reducible rfl
  simp only [Act.put]
  refine wpAnyH_ready (rs := [8, 20]) (by kernel_rfl) (by simp) ?_
  refine AllReadyH.cons (o := _) rfl (fun K hK => ?_) (AllReadyH.cons (o := _) rfl (fun K hK => ?_) AllReadyH.nil)
  ·
   go_simp
   have HWd : Hid (Below W.heap.size W V.drew) := hide (HW0.out.trans (HB0.out.mono HW0.out.size))
   refine (recClone (HP.out.later HWd.out).orow rfl (by have := HBD.out; omega)).mono ?_
   rintro _ w1 ⟨op1, oc1, rfl, hown, b0⟩
   have HB1 : Hid (Below V.heap.size V w1) := hide (HB0.out.trans (b0.mono HB0.out.size))
   have HO1 := hide (ownsRow_base hown HWd.out.size); clear hown b0 HWd
   go_wp2_with fail
   refine hK.out _ _ HB1.out (fun hHeld => ?_)
   clear hK
   refine wpAnyH_ready (rs := [13, 20]) (by kernel_rfl) (by simp) ?_
   refine AllReadyH.cons (o := _) rfl (fun K hK => ?_) (AllReadyH.cons (o := _) rfl (fun K hK => ?_) AllReadyH.nil)
   ·
    go_simp
    have HWd : Hid (Below W.heap.size W w1) := hide (HW0.out.trans (HB1.out.mono HW0.out.size))
    refine (intClone (HP.out.later HWd.out).vrow rfl (by have := HBD.out; omega)).mono ?_
    rintro _ w2 ⟨vp1, vc1, rfl, hown, b0⟩
    have HB2 : Hid (Below V.heap.size V w2) := hide (HB1.out.trans (b0.mono HB1.out.size))
    have HO2 := hide (ownsRow_base hown HWd.out.size); have HO1 := hide (ownsRow_later HO1.out b0); clear hown b0 HWd
    go_wp2_with fail
    refine hK.out _ _ HB2.out (fun hHeld => ?_)
    clear hK
    refine wpAnyH_ready (rs := [18, 20]) (by kernel_rfl) (by simp) ?_
    refine AllReadyH.cons (o := _) rfl (fun K hK => ?_) (AllReadyH.cons (o := _) rfl (fun K hK => ?_) AllReadyH.nil)
    ·
     go_simp
     have HWd : Hid (Below W.heap.size W w2) := hide (HW0.out.trans (HB2.out.mono HW0.out.size))
     refine (intClone (HP.out.later HWd.out).drow rfl (by have := HBD.out; omega)).mono ?_
     rintro _ w3 ⟨dp1, dc1, rfl, hown, b0⟩
     have HB3 : Hid (Below V.heap.size V w3) := hide (HB2.out.trans (b0.mono HB2.out.size))
     have HO3 := hide (ownsRow_base hown HWd.out.size); have HO1 := hide (ownsRow_later HO1.out b0); have HO2 := hide (ownsRow_later HO2.out b0); clear hown b0 HWd
     go_wp2_with fail
     refine hK.out _ _ HB3.out (fun hHeld => ?_)
     clear hK
     refine tb 19 ?_ rfl (by kernel_rfl) (fun _ _ _ h => h) (by assumption) ?_ ?_
     rotate_left
     ·intro w hSw; have l0 := cell_later hSw u0
      have l1 := cell_later hSw u1; have l2 := cell_later hSw u2; have l3 := cell_later hSw u3
      go_simp
      all_goals with_reducible rfl
     simp only [Act.put]
     refine rr 20 (o := _) rfl (by kernel_rfl) (fun K hK => ?_)
     go_simp
     obtain ⟨w4, hw4⟩ : ∃ w9, w9 = w3.alloc (.cells #[.int .i64 0, .slice none 0 0, .slice none 0 0, .slice none 0 0, .slice none 0 0] 43 (0, 0)) := ⟨_, rfl⟩
     rw [← hw4]
     have b0 : Below w3.heap.size w3 w4 := by rw [hw4]; exact alloc_below _ _
     have HB4 : Hid (Below V.heap.size V w4) := hide (HB3.out.trans (b0.mono HB3.out.size))
     obtain ⟨pB, hpB⟩ : ∃ pB, w3.heap.size = pB := ⟨_, rfl⟩
     have HBK : Hid (w4.heap[pB]? = some (.cells #[.int .i64 0, .slice none 0 0, .slice none 0 0, .slice none 0 0, .slice none 0 0] 43 (0, 0))) := hide (by rw [hw4, ← hpB]; exact heap_alloc_new w3 _)
     have HPB : Hid (V.heap.size ≤ pB) := hide (by rw [← hpB]; exact HB3.out.size)
     try rw [hpB]
     have HO1 := hide (ownsRow_later HO1.out b0); have HO2 := hide (ownsRow_later HO2.out b0); have HO3 := hide (ownsRow_later HO3.out b0); clear b0 hw4 hpB
     refine hK.out _ _ HB4.out (fun hHeld => ?_)
     clear hK
     refine rr 21 (o := _) rfl (by kernel_rfl) (fun K hK => ?_)
     have z0 := frB HBK.out (i := 0); have z1 := frB HBK.out (i := 1); have z2 := frB HBK.out (i := 2); have z3 := frB HBK.out (i := 3); have z4 := frB HBK.out (i := 4); have y0 := cellB HBK.out (i := 0) rfl; have y1 := cellB HBK.out (i := 1) rfl; have y2 := cellB HBK.out (i := 2) rfl; have y3 := cellB HBK.out (i := 3) rfl; have y4 := cellB HBK.out (i := 4) rfl
     go_simp
     refine hK.out _ _ (HB4.out.trans ((only_five w4 pB _ _ _ _ _).below HB4.out.size (fun i e => by have e9 : i = pB := e; have := HPB.out; omega))) (fun hHeld => ?_)
     clear hK
     refine wpAnyH_done (by kernel_rfl) ?_ _
     have hoO := only_five w4 pB (.int .i64 k.reg) (.slice op1 k.out.length oc1) (.slice vp1 k.vec.length vc1) (.slice dp1 k.done.length dc1) (.slice none 0 0); have hbx := five_own HBK.out (.int .i64 k.reg) (.slice op1 k.out.length oc1) (.slice vp1 k.vec.length vc1) (.slice dp1 k.done.length dc1) (.slice none 0 0)
     have HC : Hid (PlnI W pB rB k 0 ⟨op1, oc1, vp1, vc1, dp1, dc1, none, 0, k.reg, k.out, k.vec, k.done, []⟩ (((((w4.setCell ⟨pB, 0, none⟩ (.int .i64 k.reg)).setCell ⟨pB, 1, none⟩ (.slice op1 k.out.length oc1)).setCell ⟨pB, 2, none⟩ (.slice vp1 k.vec.length vc1)).setCell ⟨pB, 3, none⟩ (.slice dp1 k.done.length dc1)).setCell ⟨pB, 4, none⟩ (.slice none 0 0))) := hide ⟨hbx, hoO.obj (below_box HB4.out HR.out) (fun e => by have e9 : rB = pB := e; have := box_lt HR.out; have := HPB.out; omega), ⟨own_type HO1.out hoO HBK.out (by decide), own_type HO2.out hoO HBK.out (by decide), own_type HO3.out hoO HBK.out (by decide), World.ownsRow_nil _ _ _ _, fun x hx => by simp at hx⟩, ⟨rfl, rfl, rfl, rfl, by simp⟩, ⟨fun e => by have := box_lt HR.out; have := HPB.out; omega, by have := HPB.out; have := HW0.out.size; omega, HRB.out⟩, HW0.out.trans ((HB4.out.trans (hoO.below HB4.out.size (fun i e => by have e9 : i = pB := e; have := HPB.out; omega))).mono HW0.out.size)⟩
     clear hoO hbx z0 z1 z2 z3 z4 y0 y1 y2 y3 y4 u0 u1 u2 u3
     go_wp2_with fail
     go_meet
     case rel => exact ⟨pB, _, rfl, HC⟩
    ·
     go_simp
     obtain ⟨w3, hw3⟩ : ∃ w9, w9 = w2.alloc (.cells #[.int .i64 0, .slice none 0 0, .slice none 0 0, .slice none 0 0, .slice none 0 0] 43 (0, 0)) := ⟨_, rfl⟩
     rw [← hw3]
     have b0 : Below w2.heap.size w2 w3 := by rw [hw3]; exact alloc_below _ _
     have HB3 : Hid (Below V.heap.size V w3) := hide (HB2.out.trans (b0.mono HB2.out.size))
     obtain ⟨pB, hpB⟩ : ∃ pB, w2.heap.size = pB := ⟨_, rfl⟩
     have HBK : Hid (w3.heap[pB]? = some (.cells #[.int .i64 0, .slice none 0 0, .slice none 0 0, .slice none 0 0, .slice none 0 0] 43 (0, 0))) := hide (by rw [hw3, ← hpB]; exact heap_alloc_new w2 _)
     have HPB : Hid (V.heap.size ≤ pB) := hide (by rw [← hpB]; exact HB2.out.size)
     try rw [hpB]
     have HO1 := hide (ownsRow_later HO1.out b0); have HO2 := hide (ownsRow_later HO2.out b0); clear b0 hw3 hpB
     refine hK.out _ _ HB3.out (fun hHeld => ?_)
     clear hK
     refine rr 18 (o := _) rfl (by kernel_rfl) (fun K hK => ?_)
     go_simp
     have HWd : Hid (Below W.heap.size W w3) := hide (HW0.out.trans (HB3.out.mono HW0.out.size))
     refine (intClone (HP.out.later HWd.out).drow rfl (by have := HBD.out; omega)).mono ?_
     rintro _ w4 ⟨dp1, dc1, rfl, hown, b0⟩
     have HB4 : Hid (Below V.heap.size V w4) := hide (HB3.out.trans (b0.mono HB3.out.size))
     have HO3 := hide (ownsRow_base hown HWd.out.size); have HO1 := hide (ownsRow_later HO1.out b0); have HO2 := hide (ownsRow_later HO2.out b0); have HBK := hide (below_box b0 HBK.out); clear hown b0 HWd
     go_wp2_with fail
     refine hK.out _ _ HB4.out (fun hHeld => ?_)
     clear hK
     refine tb 19 ?_ rfl (by kernel_rfl) (fun _ _ _ h => h) (by assumption) ?_ ?_
     rotate_left
     ·intro w hSw; have l0 := cell_later hSw u0
      have l1 := cell_later hSw u1; have l2 := cell_later hSw u2; have l3 := cell_later hSw u3
      go_simp
      all_goals with_reducible rfl
     simp only [Act.put]
     refine rr 21 (o := _) rfl (by kernel_rfl) (fun K hK => ?_)
     have z0 := frB HBK.out (i := 0); have z1 := frB HBK.out (i := 1); have z2 := frB HBK.out (i := 2); have z3 := frB HBK.out (i := 3); have z4 := frB HBK.out (i := 4); have y0 := cellB HBK.out (i := 0) rfl; have y1 := cellB HBK.out (i := 1) rfl; have y2 := cellB HBK.out (i := 2) rfl; have y3 := cellB HBK.out (i := 3) rfl; have y4 := cellB HBK.out (i := 4) rfl
     go_simp
     refine hK.out _ _ (HB4.out.trans ((only_five w4 pB _ _ _ _ _).below HB4.out.size (fun i e => by have e9 : i = pB := e; have := HPB.out; omega))) (fun hHeld => ?_)
     clear hK
     refine wpAnyH_done (by kernel_rfl) ?_ _
     have hoO := only_five w4 pB (.int .i64 k.reg) (.slice op1 k.out.length oc1) (.slice vp1 k.vec.length vc1) (.slice dp1 k.done.length dc1) (.slice none 0 0); have hbx := five_own HBK.out (.int .i64 k.reg) (.slice op1 k.out.length oc1) (.slice vp1 k.vec.length vc1) (.slice dp1 k.done.length dc1) (.slice none 0 0)
     have HC : Hid (PlnI W pB rB k 0 ⟨op1, oc1, vp1, vc1, dp1, dc1, none, 0, k.reg, k.out, k.vec, k.done, []⟩ (((((w4.setCell ⟨pB, 0, none⟩ (.int .i64 k.reg)).setCell ⟨pB, 1, none⟩ (.slice op1 k.out.length oc1)).setCell ⟨pB, 2, none⟩ (.slice vp1 k.vec.length vc1)).setCell ⟨pB, 3, none⟩ (.slice dp1 k.done.length dc1)).setCell ⟨pB, 4, none⟩ (.slice none 0 0))) := hide ⟨hbx, hoO.obj (below_box HB4.out HR.out) (fun e => by have e9 : rB = pB := e; have := box_lt HR.out; have := HPB.out; omega), ⟨own_type HO1.out hoO HBK.out (by decide), own_type HO2.out hoO HBK.out (by decide), own_type HO3.out hoO HBK.out (by decide), World.ownsRow_nil _ _ _ _, fun x hx => by simp at hx⟩, ⟨rfl, rfl, rfl, rfl, by simp⟩, ⟨fun e => by have := box_lt HR.out; have := HPB.out; omega, by have := HPB.out; have := HW0.out.size; omega, HRB.out⟩, HW0.out.trans ((HB4.out.trans (hoO.below HB4.out.size (fun i e => by have e9 : i = pB := e; have := HPB.out; omega))).mono HW0.out.size)⟩
     clear hoO hbx z0 z1 z2 z3 z4 y0 y1 y2 y3 y4 u0 u1 u2 u3
     go_wp2_with fail
     go_meet
     case rel => exact ⟨pB, _, rfl, HC⟩
   ·
    go_simp
    obtain ⟨w2, hw2⟩ : ∃ w9, w9 = w1.alloc (.cells #[.int .i64 0, .slice none 0 0, .slice none 0 0, .slice none 0 0, .slice none 0 0] 43 (0, 0)) := ⟨_, rfl⟩
    rw [← hw2]
    have b0 : Below w1.heap.size w1 w2 := by rw [hw2]; exact alloc_below _ _
    have HB2 : Hid (Below V.heap.size V w2) := hide (HB1.out.trans (b0.mono HB1.out.size))
    obtain ⟨pB, hpB⟩ : ∃ pB, w1.heap.size = pB := ⟨_, rfl⟩
    have HBK : Hid (w2.heap[pB]? = some (.cells #[.int .i64 0, .slice none 0 0, .slice none 0 0, .slice none 0 0, .slice none 0 0] 43 (0, 0))) := hide (by rw [hw2, ← hpB]; exact heap_alloc_new w1 _)
    have HPB : Hid (V.heap.size ≤ pB) := hide (by rw [← hpB]; exact HB1.out.size)
    try rw [hpB]
    have HO1 := hide (ownsRow_later HO1.out b0); clear b0 hw2 hpB
    refine hK.out _ _ HB2.out (fun hHeld => ?_)
    clear hK
    refine rr 13 (o := _) rfl (by kernel_rfl) (fun K hK => ?_)
    go_simp
    have HWd : Hid (Below W.heap.size W w2) := hide (HW0.out.trans (HB2.out.mono HW0.out.size))
    refine (intClone (HP.out.later HWd.out).vrow rfl (by have := HBD.out; omega)).mono ?_
    rintro _ w3 ⟨vp1, vc1, rfl, hown, b0⟩
    have HB3 : Hid (Below V.heap.size V w3) := hide (HB2.out.trans (b0.mono HB2.out.size))
    have HO2 := hide (ownsRow_base hown HWd.out.size); have HO1 := hide (ownsRow_later HO1.out b0); have HBK := hide (below_box b0 HBK.out); clear hown b0 HWd
    go_wp2_with fail
    refine hK.out _ _ HB3.out (fun hHeld => ?_)
    clear hK
    refine rr 18 (o := _) rfl (by kernel_rfl) (fun K hK => ?_)
    go_simp
    have HWd : Hid (Below W.heap.size W w3) := hide (HW0.out.trans (HB3.out.mono HW0.out.size))
    refine (intClone (HP.out.later HWd.out).drow rfl (by have := HBD.out; omega)).mono ?_
    rintro _ w4 ⟨dp1, dc1, rfl, hown, b0⟩
    have HB4 : Hid (Below V.heap.size V w4) := hide (HB3.out.trans (b0.mono HB3.out.size))
    have HO3 := hide (ownsRow_base hown HWd.out.size); have HO1 := hide (ownsRow_later HO1.out b0); have HO2 := hide (ownsRow_later HO2.out b0); have HBK := hide (below_box b0 HBK.out); clear hown b0 HWd
    go_wp2_with fail
    refine hK.out _ _ HB4.out (fun hHeld => ?_)
    clear hK
    refine tb 19 ?_ rfl (by kernel_rfl) (fun _ _ _ h => h) (by assumption) ?_ ?_
    rotate_left
    ·intro w hSw; have l0 := cell_later hSw u0
     have l1 := cell_later hSw u1; have l2 := cell_later hSw u2; have l3 := cell_later hSw u3
     go_simp
     all_goals with_reducible rfl
    simp only [Act.put]
    refine rr 21 (o := _) rfl (by kernel_rfl) (fun K hK => ?_)
    have z0 := frB HBK.out (i := 0); have z1 := frB HBK.out (i := 1); have z2 := frB HBK.out (i := 2); have z3 := frB HBK.out (i := 3); have z4 := frB HBK.out (i := 4); have y0 := cellB HBK.out (i := 0) rfl; have y1 := cellB HBK.out (i := 1) rfl; have y2 := cellB HBK.out (i := 2) rfl; have y3 := cellB HBK.out (i := 3) rfl; have y4 := cellB HBK.out (i := 4) rfl
    go_simp
    refine hK.out _ _ (HB4.out.trans ((only_five w4 pB _ _ _ _ _).below HB4.out.size (fun i e => by have e9 : i = pB := e; have := HPB.out; omega))) (fun hHeld => ?_)
    clear hK
    refine wpAnyH_done (by kernel_rfl) ?_ _
    have hoO := only_five w4 pB (.int .i64 k.reg) (.slice op1 k.out.length oc1) (.slice vp1 k.vec.length vc1) (.slice dp1 k.done.length dc1) (.slice none 0 0); have hbx := five_own HBK.out (.int .i64 k.reg) (.slice op1 k.out.length oc1) (.slice vp1 k.vec.length vc1) (.slice dp1 k.done.length dc1) (.slice none 0 0)
    have HC : Hid (PlnI W pB rB k 0 ⟨op1, oc1, vp1, vc1, dp1, dc1, none, 0, k.reg, k.out, k.vec, k.done, []⟩ (((((w4.setCell ⟨pB, 0, none⟩ (.int .i64 k.reg)).setCell ⟨pB, 1, none⟩ (.slice op1 k.out.length oc1)).setCell ⟨pB, 2, none⟩ (.slice vp1 k.vec.length vc1)).setCell ⟨pB, 3, none⟩ (.slice dp1 k.done.length dc1)).setCell ⟨pB, 4, none⟩ (.slice none 0 0))) := hide ⟨hbx, hoO.obj (below_box HB4.out HR.out) (fun e => by have e9 : rB = pB := e; have := box_lt HR.out; have := HPB.out; omega), ⟨own_type HO1.out hoO HBK.out (by decide), own_type HO2.out hoO HBK.out (by decide), own_type HO3.out hoO HBK.out (by decide), World.ownsRow_nil _ _ _ _, fun x hx => by simp at hx⟩, ⟨rfl, rfl, rfl, rfl, by simp⟩, ⟨fun e => by have := box_lt HR.out; have := HPB.out; omega, by have := HPB.out; have := HW0.out.size; omega, HRB.out⟩, HW0.out.trans ((HB4.out.trans (hoO.below HB4.out.size (fun i e => by have e9 : i = pB := e; have := HPB.out; omega))).mono HW0.out.size)⟩
    clear hoO hbx z0 z1 z2 z3 z4 y0 y1 y2 y3 y4 u0 u1 u2 u3
    go_wp2_with fail
    go_meet
    case rel => exact ⟨pB, _, rfl, HC⟩
  ·
   go_simp
   obtain ⟨w1, hw1⟩ : ∃ w9, w9 = (V.alloc (.cells #[.int .i64 0, .slice none 0 0, .slice none 0 0, .slice none 0 0, .slice none 0 0] 43 (0, 0))).drew := ⟨_, rfl⟩
   rw [← hw1]
   have b0 : Below V.heap.size V w1 := by rw [hw1]; exact (alloc_below _ _).drew
   have HB1 : Hid (Below V.heap.size V w1) := hide (b0)
   obtain ⟨pB, hpB⟩ : ∃ pB, V.heap.size = pB := ⟨_, rfl⟩
   have HBK : Hid (w1.heap[pB]? = some (.cells #[.int .i64 0, .slice none 0 0, .slice none 0 0, .slice none 0 0, .slice none 0 0] 43 (0, 0))) := hide (by rw [hw1, ← hpB]; exact heap_alloc_new V _)
   have HPB : Hid (V.heap.size ≤ pB) := hide (by rw [← hpB]; exact Nat.le_refl _)
   try rw [hpB]
   clear b0 hw1 hpB
   refine hK.out _ _ HB1.out (fun hHeld => ?_)
   clear hK
   refine rr 8 (o := _) rfl (by kernel_rfl) (fun K hK => ?_)
   go_simp
   have HWd : Hid (Below W.heap.size W w1) := hide (HW0.out.trans (HB1.out.mono HW0.out.size))
   refine (recClone (HP.out.later HWd.out).orow rfl (by have := HBD.out; omega)).mono ?_
   rintro _ w2 ⟨op1, oc1, rfl, hown, b0⟩
   have HB2 : Hid (Below V.heap.size V w2) := hide (HB1.out.trans (b0.mono HB1.out.size))
   have HO1 := hide (ownsRow_base hown HWd.out.size); have HBK := hide (below_box b0 HBK.out); clear hown b0 HWd
   go_wp2_with fail
   refine hK.out _ _ HB2.out (fun hHeld => ?_)
   clear hK
   refine rr 13 (o := _) rfl (by kernel_rfl) (fun K hK => ?_)
   go_simp
   have HWd : Hid (Below W.heap.size W w2) := hide (HW0.out.trans (HB2.out.mono HW0.out.size))
   refine (intClone (HP.out.later HWd.out).vrow rfl (by have := HBD.out; omega)).mono ?_
   rintro _ w3 ⟨vp1, vc1, rfl, hown, b0⟩
   have HB3 : Hid (Below V.heap.size V w3) := hide (HB2.out.trans (b0.mono HB2.out.size))
   have HO2 := hide (ownsRow_base hown HWd.out.size); have HO1 := hide (ownsRow_later HO1.out b0); have HBK := hide (below_box b0 HBK.out); clear hown b0 HWd
   go_wp2_with fail
   refine hK.out _ _ HB3.out (fun hHeld => ?_)
   clear hK
   refine rr 18 (o := _) rfl (by kernel_rfl) (fun K hK => ?_)
   go_simp
   have HWd : Hid (Below W.heap.size W w3) := hide (HW0.out.trans (HB3.out.mono HW0.out.size))
   refine (intClone (HP.out.later HWd.out).drow rfl (by have := HBD.out; omega)).mono ?_
   rintro _ w4 ⟨dp1, dc1, rfl, hown, b0⟩
   have HB4 : Hid (Below V.heap.size V w4) := hide (HB3.out.trans (b0.mono HB3.out.size))
   have HO3 := hide (ownsRow_base hown HWd.out.size); have HO1 := hide (ownsRow_later HO1.out b0); have HO2 := hide (ownsRow_later HO2.out b0); have HBK := hide (below_box b0 HBK.out); clear hown b0 HWd
   go_wp2_with fail
   refine hK.out _ _ HB4.out (fun hHeld => ?_)
   clear hK
   refine tb 19 ?_ rfl (by kernel_rfl) (fun _ _ _ h => h) (by assumption) ?_ ?_
   rotate_left
   ·intro w hSw; have l0 := cell_later hSw u0
    have l1 := cell_later hSw u1; have l2 := cell_later hSw u2; have l3 := cell_later hSw u3
    go_simp
    all_goals with_reducible rfl
   simp only [Act.put]
   refine rr 21 (o := _) rfl (by kernel_rfl) (fun K hK => ?_)
   have z0 := frB HBK.out (i := 0); have z1 := frB HBK.out (i := 1); have z2 := frB HBK.out (i := 2); have z3 := frB HBK.out (i := 3); have z4 := frB HBK.out (i := 4); have y0 := cellB HBK.out (i := 0) rfl; have y1 := cellB HBK.out (i := 1) rfl; have y2 := cellB HBK.out (i := 2) rfl; have y3 := cellB HBK.out (i := 3) rfl; have y4 := cellB HBK.out (i := 4) rfl
   go_simp
   refine hK.out _ _ (HB4.out.trans ((only_five w4 pB _ _ _ _ _).below HB4.out.size (fun i e => by have e9 : i = pB := e; have := HPB.out; omega))) (fun hHeld => ?_)
   clear hK
   refine wpAnyH_done (by kernel_rfl) ?_ _
   have hoO := only_five w4 pB (.int .i64 k.reg) (.slice op1 k.out.length oc1) (.slice vp1 k.vec.length vc1) (.slice dp1 k.done.length dc1) (.slice none 0 0); have hbx := five_own HBK.out (.int .i64 k.reg) (.slice op1 k.out.length oc1) (.slice vp1 k.vec.length vc1) (.slice dp1 k.done.length dc1) (.slice none 0 0)
   have HC : Hid (PlnI W pB rB k 0 ⟨op1, oc1, vp1, vc1, dp1, dc1, none, 0, k.reg, k.out, k.vec, k.done, []⟩ (((((w4.setCell ⟨pB, 0, none⟩ (.int .i64 k.reg)).setCell ⟨pB, 1, none⟩ (.slice op1 k.out.length oc1)).setCell ⟨pB, 2, none⟩ (.slice vp1 k.vec.length vc1)).setCell ⟨pB, 3, none⟩ (.slice dp1 k.done.length dc1)).setCell ⟨pB, 4, none⟩ (.slice none 0 0))) := hide ⟨hbx, hoO.obj (below_box HB4.out HR.out) (fun e => by have e9 : rB = pB := e; have := box_lt HR.out; have := HPB.out; omega), ⟨own_type HO1.out hoO HBK.out (by decide), own_type HO2.out hoO HBK.out (by decide), own_type HO3.out hoO HBK.out (by decide), World.ownsRow_nil _ _ _ _, fun x hx => by simp at hx⟩, ⟨rfl, rfl, rfl, rfl, by simp⟩, ⟨fun e => by have := box_lt HR.out; have := HPB.out; omega, by have := HPB.out; have := HW0.out.size; omega, HRB.out⟩, HW0.out.trans ((HB4.out.trans (hoO.below HB4.out.size (fun i e => by have e9 : i = pB := e; have := HPB.out; omega))).mono HW0.out.size)⟩
   clear hoO hbx z0 z1 z2 z3 z4 y0 y1 y2 y3 y4 u0 u1 u2 u3
   go_wp2_with fail
   go_meet
   case rel => exact ⟨pB, _, rfl, HC⟩
 case rest =>
  obtain ⟨pB, q0, rfl, HI⟩ := hcut
  rename World => wd
  clear HB0 u0 u1 u2 u3
  obtain ⟨n, hn⟩ : ∃ n, k.xs.length = n := ⟨_, rfl⟩
  have HN := hide hn; clear hn
  have HPW : Hid (PS B wd k) := hide (HP.out.later HI.out.below)
  go_wp2_with fail
  refine (open_any HPW.out HN.out).mono ?_
  rintro _ w1 ⟨p, c, rfl, hrow, b1⟩
  have HI1 := hide (HI.out.later b1)
  have HKR : Hid (LRow nmC 2 w1 p c (k.xs.map TP.nm)) := hide (LRow.of_own (fun _ => rfl) (by simpa using HN.out) hrow)
  have HKB : Hid (w1.ownsRow wd.heap.size 55 2 (.slice p n c) n ((k.xs.map TP.nm).flatMap nmC)) := hide hrow
  clear hrow b1 HI HPW HPV HRB HBR HR
  go_wp2_with fail
  go_loopw [33] (fun i wr => ∃ (j : Nat) (q : QK), j ≤ n ∧ i = .int .i64 (j : Int) ∧ Hid (PlnI W pB rB k j q wr) ∧ Hid (wr.ownsRow wd.heap.size 55 2 (.slice p n c) n ((k.xs.map TP.nm).flatMap nmC))) (fun i _ => n - (intOf i).toNat)
  case atStart => exact ⟨0, q0, Nat.zero_le _, rfl, HI1, HKB⟩
  case round =>
   obtain ⟨j, q, hj, rfl, HI, HK⟩ := hrel
   rename World => wr
   have hn8 : n ≤ 8 := by have := HBD.out; have := HN.out; omega
   by_cases hlt : j < n
   ·obtain ⟨x, hx⟩ : ∃ x, k.xs[j]! = x := ⟨_, rfl⟩
    have hlt2 : j < k.xs.length := by rw [HN.out]; exact hlt
    have HXM : Hid (x ∈ k.xs) := hide (by rw [← hx, getElem!_pos k.xs j hlt2]; exact List.getElem_mem hlt2)
    have hnm : (k.xs.map TP.nm)[j]! = x.nm := by rw [getElem!_pos _ j (by simpa using hlt2), List.getElem_map, ← hx, getElem!_pos k.xs j hlt2]
    obtain ⟨g, o, rfl, a0, a1⟩ := nm_at (LRow.of_own (cells := nmC) (fun _ => rfl) (by simpa using HN.out) HK.out) (by simpa using hlt2) hnm
    have HX := hide hx; have HJ := hide hlt2; have HJN := hide hlt
    obtain ⟨e1, he1⟩ : ∃ e1, x.t.ep = e1 := ⟨_, rfl⟩
    obtain ⟨i1, hi1⟩ : ∃ i1, x.t.id = i1 := ⟨_, rfl⟩
    have n1 : x.nm.1 = e1 := he1
    have n2 : x.nm.2 = i1 := hi1
    rw [n1] at a0
    rw [n2] at a1
    have HE := hide he1; have HI1' := hide hi1; clear hx hlt2 hnm n1 n2 he1 hi1 HKR HKB HI1
    go_upto_region 7 with fail
    obtain ⟨X, hX⟩ : ∃ X, X = wr.alloc (.cells #[.int .i64 e1, .int .i64 i1] 55 (0, 0)) := ⟨_, rfl⟩
    rw [← hX]
    have bX : Below wr.heap.size wr X := by rw [hX]; exact alloc_below _ _
    obtain ⟨kB, hkB⟩ : ∃ kB, wr.heap.size = kB := ⟨_, rfl⟩
    have HKBX : Hid (X.heap[kB]? = some (.cells #[.int .i64 e1, .int .i64 i1] 55 (0, 0))) := hide (by rw [hX, ← hkB]; exact heap_alloc_new wr _)
    have HF0 : Hid (∀ i, (i = pB ∨ (Value.slice q.pp q.ts.length q.pc).ownBlock = some i) → i < kB ∧ W.heap.size ≤ i) := hide (by
      rintro i (e | e)
      · have := box_lt HI.out.box
        have := HI.out.ne
        omega
      · have := (own_block_lt HI.out.own.pre e).1
        have := own_block_base HI.out.own.pre e
        omega)
    have HIX := hide (HI.out.later bX); have HKX := hide (ownsRow_later HK.out bX)
    try rw [hkB]
    clear hX bX hkB a0 a1 HI HK; have HPX := hide (HP.out.later HIX.out.below); have u4 := HPX.out.c4; have k0 := cellB HKBX.out (i := 0) rfl; have k1 := cellB HKBX.out (i := 1) rfl
    have HLQ : Hid (∀ w, Only (fun i => i = pB ∨ (Value.slice q.pp q.ts.length q.pc).ownBlock = some i) X w → (Instr.lookup 61 (.map (some k.mb)) (.agg #[.int .i64 e1, .int .i64 i1]) false).run Try.prog w = .ok (.agg #[.int .i64 x.t.ep, .int .i64 x.t.id, .int .i64 x.t.beg, .slice x.rp x.t.rs.length x.rc, .slice x.vp x.t.vs.length x.vc]) w) := hide (fun w hw => by
      have hm := HPX.out.map.only hw (fun h9 => by have := (HF0.out _ h9).2; have := HP.out.map.lt; omega)
      obtain ⟨h1, h2, h3⟩ := HP.out.named.ep x HXM.out
      have := (hm.look HP.out.named h1 h2 h3).2
      rw [find_nm HP.out.named HXM.out, HE.out, HI1'.out] at this
      exact this)
    have HQL : Hid (q.ts.length ≤ 8) := hide (by
      have h9 := congrArg List.length HIX.out.eq.2.2.2.2
      simp only [List.length_map, List.length_take] at h9
      have := HBD.out
      omega)
    have HXB : Hid (x.t.rs.length ≤ 1048576 ∧ x.t.vs.length ≤ 1048576) := hide (by
      have h9 := (HP.out.ok.may x.t (List.mem_map.2 ⟨x, HXM.out, rfl⟩)).1
      have h8 : (x.t.vs.length : Int) = (k.vec.length : Int) := h9.2.2.2.2.2.1
      have := h9.2.2.2.2.1
      have := HBD.out
      omega)
    obtain ⟨j0, hJ0, hz0, hz1, hz2⟩ := info_parts Try.infoTxn
    have HK0 : Hid (¬ (k.b = pB ∨ (Value.slice q.pp q.ts.length q.pc).ownBlock = some k.b)) := hide (fun h9 => by have := (HF0.out _ h9).2; have := box_lt HP.out.box; omega)
    have HK1 : Hid (¬ (kB = pB ∨ (Value.slice q.pp q.ts.length q.pc).ownBlock = some kB)) := hide (fun h9 => by have := (HF0.out _ h9).1; omega)
    have HI0 : Hid (PlnI W pB rB k j q X.drew) := hide (HIX.out.later (Below.refl _ X).drew)
    have HS0 : Hid (Only (fun i => i = pB ∨ (Value.slice q.pp q.ts.length q.pc).ownBlock = some i) X X.drew) := hide (Only.fresh (Below.refl _ X).drew _)
    refine wp_region_held_drew (S := fun w9 => Only (fun i => i = pB ∨ (Value.slice q.pp q.ts.length q.pc).ownBlock = some i) X w9) (by kernel_rfl) HS0.out (fun hHeld => ?_)
    refine tb 0 ?_ rfl (by kernel_rfl) (fun _ _ _ h => h) (by assumption) ?_ ?_
    rotate_left
    ·intro w hSw; have l4 := hSw.cell u4 HK0.out
     have lk0 := hSw.cell k0 HK1.out; have lk1 := hSw.cell k1 HK1.out; have lq := HLQ.out w hSw
     go_simp
     all_goals with_reducible rfl
    simp only [Act.put]
    refine tb 2 ?_ rfl (by kernel_rfl) (fun _ _ _ h => h) (by assumption) ?_ ?_
    rotate_left
    ·intro w hSw; have l4 := hSw.cell u4 HK0.out
     have lk0 := hSw.cell k0 HK1.out; have lk1 := hSw.cell k1 HK1.out; have lq := HLQ.out w hSw
     go_simp
     all_goals with_reducible rfl
    simp only [Act.put]
    refine tb 3 ?_ rfl (by kernel_rfl) (fun _ _ _ h => h) (by assumption) ?_ ?_
    rotate_left
    ·intro w hSw; have l4 := hSw.cell u4 HK0.out
     have lk0 := hSw.cell k0 HK1.out; have lk1 := hSw.cell k1 HK1.out; have lq := HLQ.out w hSw
     go_simp
     all_goals with_reducible rfl
    simp only [Act.put]
    refine tb 4 ?_ rfl (by kernel_rfl) (fun _ _ _ h => h) (by assumption) ?_ ?_
    rotate_left
    ·intro w hSw; have l4 := hSw.cell u4 HK0.out
     have lk0 := hSw.cell k0 HK1.out; have lk1 := hSw.cell k1 HK1.out; have lq := HLQ.out w hSw
     go_simp
     all_goals with_reducible rfl
    simp only [Act.put]
    refine tb 5 ?_ rfl (by kernel_rfl) (fun _ _ _ h => h) (by assumption) ?_ ?_
    rotate_left
    ·intro w hSw; have l4 := hSw.cell u4 HK0.out
     have lk0 := hSw.cell k0 HK1.out; have lk1 := hSw.cell k1 HK1.out; have lq := HLQ.out w hSw
     go_simp
     all_goals with_reducible rfl
    simp only [Act.put]
    refine tb 6 ?_ rfl (by kernel_rfl) (fun _ _ _ h => h) (by assumption) ?_ ?_
    rotate_left
    ·intro w hSw; have l4 := hSw.cell u4 HK0.out
     have lk0 := hSw.cell k0 HK1.out; have lk1 := hSw.cell k1 HK1.out; have lq := HLQ.out w hSw
     go_simp
     all_goals with_reducible rfl
    simp only [Act.put]
    refine tb 7 ?_ rfl (by kernel_rfl) (fun _ _ _ h => h) (by assumption) ?_ ?_
    rotate_left
    ·intro w hSw; have l4 := hSw.cell u4 HK0.out
     have lk0 := hSw.cell k0 HK1.out; have lk1 := hSw.cell k1 HK1.out; have lq := HLQ.out w hSw
     go_simp
     all_goals with_reducible rfl
    simp only [Act.put]
    refine wpAnyH_ready (rs := [1, 8]) (by kernel_rfl) (by simp) ?_
    refine AllReadyH.cons (o := _) rfl (fun K hK => ?_) (AllReadyH.cons (o := _) rfl (fun K hK => ?_) AllReadyH.nil)
    ·
     have y4 : World.cell? X.drew ⟨pB, 4, none⟩ = some (.slice q.pp q.ts.length q.pc) := cellB HI0.out.box rfl
     go_simp
     refine hK.out _ _ HS0.out (fun hHeld => ?_)
     clear hK; clear y4
     refine rr 8 (o := _) rfl (by kernel_rfl) (fun K hK => ?_)
     go_simp
     refine (cloneTxn_any ((HP.out.later HI0.out.below).pre x HXM.out).ok.r ((HP.out.later HI0.out.below).pre x HXM.out).ok.v rfl rfl HXB.out.1 HXB.out.2).mono ?_
     rintro _ w1 ⟨p2, c2, q2, d2, rfl, o1, o2, b0⟩
     have HI1 := hide (HI0.out.later b0)
     have HS1 : Hid (Only (fun i => i = pB ∨ (Value.slice q.pp q.ts.length q.pc).ownBlock = some i) X w1) := hide (HS0.out.trans (Only.fresh b0 _))
     have HO : Hid (TO W.heap.size w1 ⟨x.t, p2, c2, q2, d2⟩) := hide ⟨ownsRow_base o1 HI0.out.below.size, ownsRow_base o2 HI0.out.below.size⟩
     clear o1 o2 b0
     go_wp2_with fail
     refine hK.out _ _ HS1.out (fun hHeld => ?_)
     clear hK
     refine rr 9 (o := _) rfl (by kernel_rfl) (fun K hK => ?_)
     go_simp
     obtain ⟨w2, hw2⟩ : ∃ w9, w9 = w1.alloc (.cells #[.int .i64 x.t.ep, .int .i64 x.t.id, .int .i64 x.t.beg, .slice p2 x.t.rs.length c2, .slice q2 x.t.vs.length d2] 34 (0, 0)) := ⟨_, rfl⟩
     rw [← hw2]
     have b0 : Below w1.heap.size w1 w2 := by rw [hw2]; exact alloc_below _ _
     have HI2 := hide (HI1.out.later b0)
     have HS2 : Hid (Only (fun i => i = pB ∨ (Value.slice q.pp q.ts.length q.pc).ownBlock = some i) X w2) := hide (HS1.out.trans (Only.fresh b0 _))
     have HO9 := hide (HO.out.later b0)
     obtain ⟨nB, hnB⟩ : ∃ nB, w1.heap.size = nB := ⟨_, rfl⟩
     have HSG : Hid (Seg w2 5 (.slice (some ⟨nB, 0, none⟩) 1 1) 1 [.int .i64 x.t.ep, .int .i64 x.t.id, .int .i64 x.t.beg, .slice p2 x.t.rs.length c2, .slice q2 x.t.vs.length d2]) := hide (by rw [hw2, ← hnB]; exact Seg.news (heap_alloc_new w1 _) (by simp [Value.oneCell']) rfl (Nat.le_refl _) (by decide))
     try rw [hnB]
     clear hw2 b0 hnB
     refine hK.out _ _ HS2.out (fun hHeld => ?_)
     clear hK
     refine rr 10 (o := _) rfl (by kernel_rfl) (fun K hK => ?_)
     refine step_append_cells rfl (.tmp 38) (.tmp 46) 41 rfl W.heap.size 34 j0 (.agg #[.int .i64 0, .int .i64 0, .int .i64 0, .slice none 0 0, .slice none 0 0]) 5 72 Try.underlying41 hJ0 hz0 hz1 hz2 rfl (by decide) (.slice q.pp q.ts.length q.pc) q.ts.length _ rfl HI2.out.own.pre (.slice (some ⟨nB, 0, none⟩) 1 1) 1 _ rfl HSG.out (by have := HQL.out; unfold maxLen; omega) (by have := HQL.out; omega) HI2.out.below.size ?_
     intro p6 c6 w3 o6 g6; have hap := HI2.out.app HO9.out HJ.out (by rw [HX.out]) o6 g6
     have HBX := hide hap.1; have HFI := hide hap.2
     have HS3 : Hid (Only (fun i => i = pB ∨ (Value.slice q.pp q.ts.length q.pc).ownBlock = some i) X w3) := hide (HS2.out.trans (Only.of_grown g6 (fun k e => .inr e)))
     clear hap o6 g6
     refine hK.out _ _ HS3.out (fun hHeld => ?_)
     clear hK
     refine tb 11 ?_ rfl (by kernel_rfl) (fun _ _ _ h => h) (by assumption) ?_ ?_
     rotate_left
     ·intro w hSw; have l4 := hSw.cell u4 HK0.out
      have lk0 := hSw.cell k0 HK1.out; have lk1 := hSw.cell k1 HK1.out; have lq := HLQ.out w hSw
      go_simp
      all_goals with_reducible rfl
     simp only [Act.put]
     refine rr 12 (o := _) rfl (by kernel_rfl) (fun K hK => ?_)
     have y4 := cellB HBX.out (i := 4) rfl; have z4 := frB HBX.out (i := 4)
     go_simp
     refine hK.out _ _ (HS3.out.trans (Only.set (F := (fun i => i = pB ∨ (Value.slice q.pp q.ts.length q.pc).ownBlock = some i)) w3 pB 4 _ (.inl rfl))) (fun hHeld => ?_)
     clear hK
     refine wpAnyH_done (by kernel_rfl) ?_ _
     have HKF : Hid ((w3.setCell ⟨pB, 4, none⟩ (.slice p6 (q.ts.length + 1) c6)).ownsRow wd.heap.size 55 2 (.slice (some ⟨g, o, none⟩) n c) n ((k.xs.map TP.nm).flatMap nmC)) := hide (own_types HKX.out (HS3.out.trans (Only.set (F := (fun i => i = pB ∨ (Value.slice q.pp q.ts.length q.pc).ownBlock = some i)) w3 pB 4 _ (.inl rfl))) (by
       rintro i (e | e) cur h9
       · rw [e, HIX.out.box] at h9
         simp at h9
       · exact pre_ty HIX.out.own (by decide) i e cur h9))
     clear y4 z4 hHeld u4 k0 k1; have hlt9 := HJN.out; go_wp2
     exact ⟨⟨j + 1, _, HJN.out, by first | rfl | go_num, HFI, HKF⟩, by simp [intOf]; omega⟩
    ·
     go_simp
     refine (cloneTxn_any ((HP.out.later HI0.out.below).pre x HXM.out).ok.r ((HP.out.later HI0.out.below).pre x HXM.out).ok.v rfl rfl HXB.out.1 HXB.out.2).mono ?_
     rintro _ w1 ⟨p2, c2, q2, d2, rfl, o1, o2, b0⟩
     have HI1 := hide (HI0.out.later b0)
     have HS1 : Hid (Only (fun i => i = pB ∨ (Value.slice q.pp q.ts.length q.pc).ownBlock = some i) X w1) := hide (HS0.out.trans (Only.fresh b0 _))
     have HO : Hid (TO W.heap.size w1 ⟨x.t, p2, c2, q2, d2⟩) := hide ⟨ownsRow_base o1 HI0.out.below.size, ownsRow_base o2 HI0.out.below.size⟩
     clear o1 o2 b0
     go_wp2_with fail
     refine hK.out _ _ HS1.out (fun hHeld => ?_)
     clear hK
     refine wpAnyH_ready (rs := [1, 9]) (by kernel_rfl) (by simp) ?_
     refine AllReadyH.cons (o := _) rfl (fun K hK => ?_) (AllReadyH.cons (o := _) rfl (fun K hK => ?_) AllReadyH.nil)
     ·
      have y4 : World.cell? w1 ⟨pB, 4, none⟩ = some (.slice q.pp q.ts.length q.pc) := cellB HI1.out.box rfl
      go_simp
      refine hK.out _ _ HS1.out (fun hHeld => ?_)
      clear hK; clear y4
      refine rr 9 (o := _) rfl (by kernel_rfl) (fun K hK => ?_)
      go_simp
      obtain ⟨w2, hw2⟩ : ∃ w9, w9 = w1.alloc (.cells #[.int .i64 x.t.ep, .int .i64 x.t.id, .int .i64 x.t.beg, .slice p2 x.t.rs.length c2, .slice q2 x.t.vs.length d2] 34 (0, 0)) := ⟨_, rfl⟩
      rw [← hw2]
      have b0 : Below w1.heap.size w1 w2 := by rw [hw2]; exact alloc_below _ _
      have HI2 := hide (HI1.out.later b0)
      have HS2 : Hid (Only (fun i => i = pB ∨ (Value.slice q.pp q.ts.length q.pc).ownBlock = some i) X w2) := hide (HS1.out.trans (Only.fresh b0 _))
      have HO9 := hide (HO.out.later b0)
      obtain ⟨nB, hnB⟩ : ∃ nB, w1.heap.size = nB := ⟨_, rfl⟩
      have HSG : Hid (Seg w2 5 (.slice (some ⟨nB, 0, none⟩) 1 1) 1 [.int .i64 x.t.ep, .int .i64 x.t.id, .int .i64 x.t.beg, .slice p2 x.t.rs.length c2, .slice q2 x.t.vs.length d2]) := hide (by rw [hw2, ← hnB]; exact Seg.news (heap_alloc_new w1 _) (by simp [Value.oneCell']) rfl (Nat.le_refl _) (by decide))
      try rw [hnB]
      clear hw2 b0 hnB
      refine hK.out _ _ HS2.out (fun hHeld => ?_)
      clear hK
      refine rr 10 (o := _) rfl (by kernel_rfl) (fun K hK => ?_)
      refine step_append_cells rfl (.tmp 38) (.tmp 46) 41 rfl W.heap.size 34 j0 (.agg #[.int .i64 0, .int .i64 0, .int .i64 0, .slice none 0 0, .slice none 0 0]) 5 72 Try.underlying41 hJ0 hz0 hz1 hz2 rfl (by decide) (.slice q.pp q.ts.length q.pc) q.ts.length _ rfl HI2.out.own.pre (.slice (some ⟨nB, 0, none⟩) 1 1) 1 _ rfl HSG.out (by have := HQL.out; unfold maxLen; omega) (by have := HQL.out; omega) HI2.out.below.size ?_
      intro p6 c6 w3 o6 g6; have hap := HI2.out.app HO9.out HJ.out (by rw [HX.out]) o6 g6
      have HBX := hide hap.1; have HFI := hide hap.2
      have HS3 : Hid (Only (fun i => i = pB ∨ (Value.slice q.pp q.ts.length q.pc).ownBlock = some i) X w3) := hide (HS2.out.trans (Only.of_grown g6 (fun k e => .inr e)))
      clear hap o6 g6
      refine hK.out _ _ HS3.out (fun hHeld => ?_)
      clear hK
      refine tb 11 ?_ rfl (by kernel_rfl) (fun _ _ _ h => h) (by assumption) ?_ ?_
      rotate_left
      ·intro w hSw; have l4 := hSw.cell u4 HK0.out
       have lk0 := hSw.cell k0 HK1.out; have lk1 := hSw.cell k1 HK1.out; have lq := HLQ.out w hSw
       go_simp
       all_goals with_reducible rfl
      simp only [Act.put]
      refine rr 12 (o := _) rfl (by kernel_rfl) (fun K hK => ?_)
      have y4 := cellB HBX.out (i := 4) rfl; have z4 := frB HBX.out (i := 4)
      go_simp
      refine hK.out _ _ (HS3.out.trans (Only.set (F := (fun i => i = pB ∨ (Value.slice q.pp q.ts.length q.pc).ownBlock = some i)) w3 pB 4 _ (.inl rfl))) (fun hHeld => ?_)
      clear hK
      refine wpAnyH_done (by kernel_rfl) ?_ _
      have HKF : Hid ((w3.setCell ⟨pB, 4, none⟩ (.slice p6 (q.ts.length + 1) c6)).ownsRow wd.heap.size 55 2 (.slice (some ⟨g, o, none⟩) n c) n ((k.xs.map TP.nm).flatMap nmC)) := hide (own_types HKX.out (HS3.out.trans (Only.set (F := (fun i => i = pB ∨ (Value.slice q.pp q.ts.length q.pc).ownBlock = some i)) w3 pB 4 _ (.inl rfl))) (by
        rintro i (e | e) cur h9
        · rw [e, HIX.out.box] at h9
          simp at h9
        · exact pre_ty HIX.out.own (by decide) i e cur h9))
      clear y4 z4 hHeld u4 k0 k1; have hlt9 := HJN.out; go_wp2
      exact ⟨⟨j + 1, _, HJN.out, by first | rfl | go_num, HFI, HKF⟩, by simp [intOf]; omega⟩
     ·
      go_simp
      obtain ⟨w2, hw2⟩ : ∃ w9, w9 = w1.alloc (.cells #[.int .i64 x.t.ep, .int .i64 x.t.id, .int .i64 x.t.beg, .slice p2 x.t.rs.length c2, .slice q2 x.t.vs.length d2] 34 (0, 0)) := ⟨_, rfl⟩
      rw [← hw2]
      have b0 : Below w1.heap.size w1 w2 := by rw [hw2]; exact alloc_below _ _
      have HI2 := hide (HI1.out.later b0)
      have HS2 : Hid (Only (fun i => i = pB ∨ (Value.slice q.pp q.ts.length q.pc).ownBlock = some i) X w2) := hide (HS1.out.trans (Only.fresh b0 _))
      have HO9 := hide (HO.out.later b0)
      obtain ⟨nB, hnB⟩ : ∃ nB, w1.heap.size = nB := ⟨_, rfl⟩
      have HSG : Hid (Seg w2 5 (.slice (some ⟨nB, 0, none⟩) 1 1) 1 [.int .i64 x.t.ep, .int .i64 x.t.id, .int .i64 x.t.beg, .slice p2 x.t.rs.length c2, .slice q2 x.t.vs.length d2]) := hide (by rw [hw2, ← hnB]; exact Seg.news (heap_alloc_new w1 _) (by simp [Value.oneCell']) rfl (Nat.le_refl _) (by decide))
      try rw [hnB]
      clear hw2 b0 hnB
      refine hK.out _ _ HS2.out (fun hHeld => ?_)
      clear hK
      refine rr 1 (o := _) rfl (by kernel_rfl) (fun K hK => ?_)
      have y4 : World.cell? w2 ⟨pB, 4, none⟩ = some (.slice q.pp q.ts.length q.pc) := cellB HI2.out.box rfl
      go_simp
      refine hK.out _ _ HS2.out (fun hHeld => ?_)
      clear hK; clear y4
      refine rr 10 (o := _) rfl (by kernel_rfl) (fun K hK => ?_)
      refine step_append_cells rfl (.tmp 38) (.tmp 46) 41 rfl W.heap.size 34 j0 (.agg #[.int .i64 0, .int .i64 0, .int .i64 0, .slice none 0 0, .slice none 0 0]) 5 72 Try.underlying41 hJ0 hz0 hz1 hz2 rfl (by decide) (.slice q.pp q.ts.length q.pc) q.ts.length _ rfl HI2.out.own.pre (.slice (some ⟨nB, 0, none⟩) 1 1) 1 _ rfl HSG.out (by have := HQL.out; unfold maxLen; omega) (by have := HQL.out; omega) HI2.out.below.size ?_
      intro p6 c6 w3 o6 g6; have hap := HI2.out.app HO9.out HJ.out (by rw [HX.out]) o6 g6
      have HBX := hide hap.1; have HFI := hide hap.2
      have HS3 : Hid (Only (fun i => i = pB ∨ (Value.slice q.pp q.ts.length q.pc).ownBlock = some i) X w3) := hide (HS2.out.trans (Only.of_grown g6 (fun k e => .inr e)))
      clear hap o6 g6
      refine hK.out _ _ HS3.out (fun hHeld => ?_)
      clear hK
      refine tb 11 ?_ rfl (by kernel_rfl) (fun _ _ _ h => h) (by assumption) ?_ ?_
      rotate_left
      ·intro w hSw; have l4 := hSw.cell u4 HK0.out
       have lk0 := hSw.cell k0 HK1.out; have lk1 := hSw.cell k1 HK1.out; have lq := HLQ.out w hSw
       go_simp
       all_goals with_reducible rfl
      simp only [Act.put]
      refine rr 12 (o := _) rfl (by kernel_rfl) (fun K hK => ?_)
      have y4 := cellB HBX.out (i := 4) rfl; have z4 := frB HBX.out (i := 4)
      go_simp
      refine hK.out _ _ (HS3.out.trans (Only.set (F := (fun i => i = pB ∨ (Value.slice q.pp q.ts.length q.pc).ownBlock = some i)) w3 pB 4 _ (.inl rfl))) (fun hHeld => ?_)
      clear hK
      refine wpAnyH_done (by kernel_rfl) ?_ _
      have HKF : Hid ((w3.setCell ⟨pB, 4, none⟩ (.slice p6 (q.ts.length + 1) c6)).ownsRow wd.heap.size 55 2 (.slice (some ⟨g, o, none⟩) n c) n ((k.xs.map TP.nm).flatMap nmC)) := hide (own_types HKX.out (HS3.out.trans (Only.set (F := (fun i => i = pB ∨ (Value.slice q.pp q.ts.length q.pc).ownBlock = some i)) w3 pB 4 _ (.inl rfl))) (by
        rintro i (e | e) cur h9
        · rw [e, HIX.out.box] at h9
          simp at h9
        · exact pre_ty HIX.out.own (by decide) i e cur h9))
      clear y4 z4 hHeld u4 k0 k1; have hlt9 := HJN.out; go_wp2
      exact ⟨⟨j + 1, _, HJN.out, by first | rfl | go_num, HFI, HKF⟩, by simp [intOf]; omega⟩
   ·obtain rfl : j = n := by omega
    have y0 : wr.cell? ⟨pB, 0, none⟩ = some (.int .i64 q.reg) := cellB HI.out.box rfl
    have y1 : wr.cell? ⟨pB, 1, none⟩ = some (.slice q.op q.out.length q.oc) := cellB HI.out.box rfl
    have y2 : wr.cell? ⟨pB, 2, none⟩ = some (.slice q.vp q.vec.length q.vc) := cellB HI.out.box rfl
    have y3 : wr.cell? ⟨pB, 3, none⟩ = some (.slice q.dp q.done.length q.dc) := cellB HI.out.box rfl
    have y4 : wr.cell? ⟨pB, 4, none⟩ = some (.slice q.pp q.ts.length q.pc) := cellB HI.out.box rfl
    have z0 := frB HI.out.res (i := 0); have z1 := frB HI.out.res (i := 1); have z2 := frB HI.out.res (i := 2); have z3 := frB HI.out.res (i := 3); have z4 := frB HI.out.res (i := 4); have x0 := cellB HI.out.res (i := 0) rfl; have x1 := cellB HI.out.res (i := 1) rfl; have x2 := cellB HI.out.res (i := 2) rfl; have x3 := cellB HI.out.res (i := 3) rfl; have x4 := cellB HI.out.res (i := 4) rfl; go_wp2; have hE := five_own HI.out.res (.int .i64 q.reg) (.slice q.op q.out.length q.oc) (.slice q.vp q.vec.length q.vc) (.slice q.dp q.done.length q.dc) (.slice q.pp q.ts.length q.pc); have hO := only_five wr rB (.int .i64 q.reg) (.slice q.op q.out.length q.oc) (.slice q.vp q.vec.length q.vc) (.slice q.dp q.done.length q.dc) (.slice q.pp q.ts.length q.pc)
    refine bodyPost_ret (results_cell_one rfl _ _ rB 43 _ _ _ rfl hE Try.underlying43 rfl (by kernel_rfl)) rfl ?_
    exact ⟨q, rfl, HI.out.own.set hO HI.out.res, HI.out.sk HN.out, HI.out.below.trans (hO.below HI.out.below.size (fun i e => by have e' : i = rB := e; have := HI.out.ne; omega))⟩
end Go.Proofs.Ytboofnkajjnmeaa
