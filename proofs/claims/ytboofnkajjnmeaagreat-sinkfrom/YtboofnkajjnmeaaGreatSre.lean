/-
 From of the reference's sink. The conditions: that the lists lie there; lengths.
-/
import Derived.Test.YtboofnkajjnmeaaGreatSrd
import Derived.Test.YtboofnkajjnmeaaGreatSqa
import Derived.Test.YtboofnkajjnmeaaGreatTk1
namespace Go.Proofs.YtboofnkajjnmeaaGreat
open Go.RowKit Go.Maps Go.Shelf

theorem pos_b {W : World} {n : Int} {rb : Bool} (hrb : decide (posI n) = rb) : Calls Tryz.prog 25 #[.int .i64 n] W fun e w' => e = .returned (.bool rb) ∧ Below W.heap.size W w' :=
 (pos_any hrb).mono fun _ _ ⟨h1, h2⟩ => ⟨h1, h2 ▸ Below.refl _ _⟩
def RFro (W : World) (n : Nat) (s : SK) (e : Ending) (w' : World) : Prop :=
 (Fit n s ∧ ∃ (b : Nat) (q : QK), e = .returned (.tuple #[.pointer (some ⟨b, 0, none⟩), .int .i64 0]) ∧ RP W.heap.size w' b n q ∧ q.sk = s ∧ Below W.heap.size W w') ∨
 (¬ Fit n s ∧ e = .returned (.tuple #[.pointer none, .int .i64 1]) ∧ Below W.heap.size W w')
def Ahead (l : List Int) (k : Nat) (m : Int) : Prop := (k = 0 ∧ m = 0) ∨ ∃ j, k = j + 1 ∧ l[j]! = m
theorem QO.base {B B2 : Nat} {W : World} {q : QK} (h : QO B W q) (hb : B2 ≤ B) : QO B2 W q :=
 ⟨ownsRow_base h.out hb, ownsRow_base h.vec hb, ownsRow_base h.done hb, ownsRow_base h.pre hb, fun x hx => ⟨ownsRow_base (h.ts x hx).r hb, ownsRow_base (h.ts x hx).v hb⟩⟩
structure RFroI (W : World) (b n : Nat) (s : SK) (j : Nat) (q : QK) (w : World) : Prop where
 rp : RP W.heap.size w b n q
 eq : q.reg = s.reg ∧ q.out = s.out ∧ q.vec = s.vec ∧ q.done = s.done ∧ q.ts.map TP.t = s.pre.take j
 below : Below W.heap.size W w
theorem RFroI.later {W w w' : World} {b n j : Nat} {s : SK} {q : QK} (h : RFroI W b n s j q w) (hb : Below w.heap.size w w') : RFroI W b n s j q w' := ⟨h.rp.later hb, h.eq, h.below.trans (hb.mono h.below.size)⟩
theorem RFroI.sk {W w : World} {b n j : Nat} {s : SK} {q : QK} (h : RFroI W b n s j q w) (hj : s.pre.length ≤ j) : q.sk = s := by
 obtain ⟨e1, e2, e3, e4, e5⟩ := h.eq
 rw [List.take_of_length_le hj] at e5
 unfold QK.sk
 rw [e1, e2, e3, e4, e5]
theorem RFroI.len {W w : World} {b n j : Nat} {s : SK} {q : QK} (h : RFroI W b n s j q w) (hj : j ≤ s.pre.length) : q.ts.length = j := by
 have h9 := congrArg List.length h.eq.2.2.2.2
 rw [List.length_map, List.length_take] at h9
 omega
theorem ids_take {ts : List TP} {k : Nat} (hk : k < ts.length) {x : TP} (hx : ts[k]! = x) : (ts.map (fun x => x.t.id))[k]! = x.t.id := by
 rw [getElem!_pos (ts.map (fun x => x.t.id)) k (by rw [List.length_map]; exact hk), List.getElem_map, ← hx, getElem!_pos ts k hk]
theorem Fit.num {n : Int} {s : SK} (h : Fit n s) : numI s.reg := by
 rcases h.reg with h8 | h8
 ·rw [h8]; exact ⟨by omega, by omega⟩
 ·exact ⟨by have := h8.1; omega, h8.2⟩
theorem RFroI.app {W w w' : World} {b n j : Nat} {s : SK} {q : QK} (h : RFroI W b n s j q w) {y : TP} (hy : TO W.heap.size w y) (hj : j < s.pre.length) (ht : y.t = s.pre[j]!) {p6 : Option Addr} {c6 : Nat} (o6 : w'.ownsRow W.heap.size 28 5 (.slice p6 (q.ts.length + 1) c6) (q.ts.length + 1) (q.ts.flatMap TP.cells ++ y.cells)) (g6 : w.grownBy w' (Value.slice q.pp q.ts.length q.pc).ownBlock) :
  w'.heap[b]? = some (.cells (RSrow n q) 67 (0, 0)) ∧ RFroI W b n s (j + 1) ⟨q.op, q.oc, q.vp, q.vc, q.dp, q.dc, p6, c6, q.reg, q.out, q.vec, q.done, q.ts ++ [y]⟩ (w'.setCell ⟨b, 5, none⟩ (.slice p6 (q.ts.length + 1) c6)) := by
 have ho : Only (fun i => (Value.slice q.pp q.ts.length q.pc).ownBlock = some i) w w' := Only.of_grown g6 (fun k e => e)
 have hb1 := ho.obj h.rp.box (fun e => pre_ty h.rp.own (t := 67) (by decide) _ e _ h.rp.box)
 have hq : QO W.heap.size w' ⟨q.op, q.oc, q.vp, q.vc, q.dp, q.dc, p6, c6, q.reg, q.out, q.vec, q.done, q.ts ++ [y]⟩ := by
  refine ⟨own_types h.rp.own.out ho (pre_ty h.rp.own (by decide)), own_types h.rp.own.vec ho (pre_ty h.rp.own (by decide)), own_types h.rp.own.done ho (pre_ty h.rp.own (by decide)), ?_, fun x hx => ?_⟩
  ·show w'.ownsRow _ _ _ (.slice p6 (q.ts ++ [y]).length c6) (q.ts ++ [y]).length ((q.ts ++ [y]).flatMap TP.cells)
   rw [List.flatMap_append, List.length_append]
   have e1 : [y].flatMap TP.cells = y.cells := by simp
   rw [e1]
   exact o6
  ·have hx2 : TO W.heap.size w x := by
    rcases List.mem_append.1 hx with hx | hx
    ·exact h.rp.own.ts x hx
    ·obtain rfl : x = y := by simpa using hx
     exact hy
   exact ⟨own_types hx2.r ho (pre_ty h.rp.own (by decide)), own_types hx2.v ho (pre_ty h.rp.own (by decide))⟩
 have hs : Only (· = b) w' (w'.setCell ⟨b, 5, none⟩ (.slice p6 (q.ts.length + 1) c6)) := Only.set (F := (· = b)) w' b 5 _ rfl
 have hq2 : QO W.heap.size (w'.setCell ⟨b, 5, none⟩ (.slice p6 (q.ts.length + 1) c6)) ⟨q.op, q.oc, q.vp, q.vc, q.dp, q.dc, p6, c6, q.reg, q.out, q.vec, q.done, q.ts ++ [y]⟩ :=
  ⟨own_type hq.out hs hb1 (by decide), own_type hq.vec hs hb1 (by decide), own_type hq.done hs hb1 (by decide), own_type hq.pre hs hb1 (by decide), fun x hx => ⟨own_type (hq.ts x hx).r hs hb1 (by decide), own_type (hq.ts x hx).v hs hb1 (by decide)⟩⟩
 refine ⟨hb1, ⟨?_, hq2, h.rp.ge⟩, ?_, ?_⟩
 ·have := heap_set_sameL hb1 5 (.slice p6 (q.ts.length + 1) c6)
  rw [this]
  simp
 ·obtain ⟨e1, e2, e3, e4, e5⟩ := h.eq
  refine ⟨e1, e2, e3, e4, ?_⟩
  show (q.ts ++ [y]).map TP.t = _
  rw [List.map_append, e5, List.take_succ_eq_append_getElem hj]
  simp only [List.map_cons, List.map_nil]
  rw [ht, getElem!_pos s.pre j hj]
 ·have hoo : Only (fun i => (Value.slice q.pp q.ts.length q.pc).ownBlock = some i ∨ i = b) w (w'.setCell ⟨b, 5, none⟩ (.slice p6 (q.ts.length + 1) c6)) := (ho.mono (fun _ _ e => .inl e)).trans (Only.set w' b 5 _ (.inr rfl))
  refine h.below.trans (hoo.below h.below.size (fun i e => ?_))
  rcases e with e | e
  ·exact own_block_base h.rp.own.pre e
  ·rw [e]; exact h.rp.ge
theorem zeros_above {n : Nat} {vec : List Int} (hv : vecI n vec) : aboveC (List.replicate n 0) vec = true ↔ ∀ x ∈ vec, x = 0 := by
 rw [above_iff]
 have hl : vec.length = n := by have := hv.1; omega
 constructor
 ·rintro ⟨_, h2⟩ x hx
  obtain ⟨i, hi, rfl⟩ := List.getElem_of_mem hx
  have h3 := h2 i (by rw [List.length_replicate]; omega)
  rw [getElem!_pos vec i hi, getElem!_pos _ i (by rw [List.length_replicate]; omega), List.getElem_replicate] at h3
  have := (hv.2 vec[i] (List.getElem_mem hi)).1
  omega
 ·intro h
  refine ⟨by rw [List.length_replicate, hl], fun i hi => ?_⟩
  rw [List.length_replicate] at hi
  rw [getElem!_pos vec i (by omega), getElem!_pos _ i (by rw [List.length_replicate]; omega), List.getElem_replicate, h _ (List.getElem_mem (by omega))]
  exact Int.le_refl _
set_option maxRecDepth 100000 in
set_option maxHeartbeats 2000000 in
theorem rnew_bad {W : World} {x : Int} (h : ¬ (1 ≤ x ∧ x ≤ 4)) : Calls Tryz.prog 22 #[.int .i64 x] W fun e w' => e = .returned (.tuple #[.pointer none, .int .i64 1]) ∧ w' = W := by
 by_cases h1 : x < 1
 ·have e1 : decide (x < 1) = true := decide_eq_true h1
  clear h h1
  go_enter Tryz.func22, Tryz.ntmps22
  go_wp2
  go_ret2
  exact ⟨rfl, rfl⟩
 ·have e1 : decide (x < 1) = false := decide_eq_false h1
  have e2 : decide (x > 4) = true := decide_eq_true (by omega)
  clear h h1
  go_enter Tryz.func22, Tryz.ntmps22
  go_wp2
  go_ret2
  exact ⟨rfl, rfl⟩
set_option maxRecDepth 100000 in
set_option maxHeartbeats 2000000 in
theorem rfrom_bad {W : World} {x : Int} {cs : Array Value} (h : ¬ (1 ≤ x ∧ x ≤ 4)) : Calls Tryz.prog 6 #[.int .i64 x, .agg cs] W fun e w' => e = .returned (.tuple #[.pointer none, .int .i64 1]) ∧ Below W.heap.size W w' := by
 have H := hide h; clear h
 obtain ⟨V, hV⟩ : ∃ V, V = W.alloc (.cells cs 26 (0, 0)) := ⟨_, rfl⟩
 have HBV : Hid (Below W.heap.size W V) := hide (by rw [hV]; exact alloc_below _ _)
 go_enter Tryz.func6, Tryz.ntmps6
 go_upto_region 1 with fail
 rw [← hV]
 clear hV
 go_wp2_with fail
 refine (rnew_bad H.out).mono ?_
 rintro _ _ ⟨rfl, rfl⟩
 go_wp2
 go_ret2
 exact ⟨rfl, HBV.out⟩
set_option maxRecDepth 100000 in
set_option maxHeartbeats 16000000 in
theorem rfrom_any {W : World} {reg : Int} {op vp dp pp : Option Addr} {on oc vn vc dn dc tn pc n : Nat} {out : List RC} {vec done : List Int} {ts : List TP} (h1 : 1 ≤ n) (h4 : n ≤ 4) (hr : RRow W op oc out) (ho : out.length = on) (hv : NRow W vp vc vec) (hvn : vec.length = vn) (hd : NRow W dp dc done) (hdn : done.length = dn) (hdb : dn < 17592186044416) (ht : TL W pp pc ts) (htn : ts.length = tn) :
  Calls Tryz.prog 6 #[.int .i64 (n : Int), .agg #[.int .i64 reg, .slice op on oc, .slice vp vn vc, .slice dp dn dc, .slice pp tn pc]] W (RFro W n ⟨reg, out, vec, done, ts.map TP.t⟩) := by
 have HR := hide hr; have HO := hide ho; have HN := hide hv; have HVN := hide hvn; have HD := hide hd; have HDN := hide hdn; have HDB := hide hdb; have HT := hide ht; have HTN := hide htn; have H1 := hide h1; have H4 := hide h4
 have i1 : ts.length ≤ pc := ht.row.le
 have i2 := ht.row.top
 have i3 : done.length ≤ dc := hd.le
 have i4 := hd.top
 rw [htn] at i1
 rw [hdn] at i3
 clear hr ho hv hvn hd hdn ht htn h1 h4
 obtain ⟨V, hV⟩ : ∃ V, V = W.alloc (.cells #[.int .i64 reg, .slice op on oc, .slice vp vn vc, .slice dp dn dc, .slice pp tn pc] 26 (0, 0)) := ⟨_, rfl⟩
 have HV : Hid (V.heap[W.heap.size]? = some (.cells #[.int .i64 reg, .slice op on oc, .slice vp vn vc, .slice dp dn dc, .slice pp tn pc] 26 (0, 0))) := hide (by rw [hV]; exact heap_alloc_new W _)
 have HBV : Hid (Below W.heap.size W V) := hide (by rw [hV]; exact alloc_below _ _)
 obtain ⟨bB, hbB⟩ : ∃ bB, W.heap.size = bB := ⟨_, rfl⟩
 rw [hbB] at HV HBV
 have HZbB := hide hbB
 have HBW : Hid (Below W.heap.size W V) := hide (by rw [HZbB.out]; exact HBV.out)
 have HVL : Hid (bB < V.heap.size) := hide (box_lt HV.out)
 go_enter Tryz.func6, Tryz.ntmps6
 go_upto_region 1 with fail
 rw [← hV]
 try rw [hbB]
 clear hV hbB; have u0 := cellB HV.out (i := 0) rfl; have u1 := cellB HV.out (i := 1) rfl; have u2 := cellB HV.out (i := 2) rfl; have u3 := cellB HV.out (i := 3) rfl; have u4 := cellB HV.out (i := 4) rfl
 go_wp2_with fail
 refine (rnew_ok H1.out H4.out).mono ?_
 rintro _ w1 ⟨b, q0, rfl, hq, hs, b1⟩
 have HP1 := hide hq; have HS0 := hide hs; have HB1 := hide b1; have HV1 := hide (below_box b1 HV.out)
 have HW1 : Hid (Below W.heap.size W w1) := hide (HBW.out.trans (b1.mono HBW.out.size))
 clear hq hs b1 u0 u1 u2 u3 u4; have u0 := cellB HV1.out (i := 0) rfl; have u1 := cellB HV1.out (i := 1) rfl; have u2 := cellB HV1.out (i := 2) rfl; have u3 := cellB HV1.out (i := 3) rfl; have u4 := cellB HV1.out (i := 4) rfl
 by_cases c1 : numI reg
 ·have HC1 := hide c1; clear c1
  by_cases c2 : on ≤ 4096
  ·have e2 : decide ((on : Int) > 4096) = false := decide_eq_false (by omega)
   have f2 : decide (on > 4096) = false := decide_eq_false (by omega)
   have HC2 := hide c2; clear c2
   by_cases c3 : vecI n vec
   ·have HC3 := hide c3; clear c3
    by_cases c4 : tn ≤ 8
    ·have e4 : decide ((tn : Int) > 8) = false := decide_eq_false (by omega)
     have f4 : decide (tn > 8) = false := decide_eq_false (by omega)
     have HC4 := hide c4
     go_wp2_with fail
     refine (num_any (decide_eq_true HC1.out)).mono ?_
     rintro _ _ ⟨rfl, rfl⟩
     go_wp2_with fail
     refine (vector_any (parts := (n : Int)) (cellB HP1.out.box rfl) (NRow.later HN.out HW1.out) HVN.out (decide_eq_true HC3.out)).mono ?_
     rintro _ w2 ⟨rfl, b2⟩
     have HB2 : Hid (Below V.heap.size V w2) := hide (HB1.out.trans (b2.mono HB1.out.size))
     have HV2 := hide (below_box b2 HV1.out); have HP2 := hide (HP1.out.later b2); clear b2 u0 u1 u2 u3 u4; have u0 := cellB HV2.out (i := 0) rfl; have u1 := cellB HV2.out (i := 1) rfl; have u2 := cellB HV2.out (i := 2) rfl; have u3 := cellB HV2.out (i := 3) rfl; have u4 := cellB HV2.out (i := 4) rfl
     go_wp2_with fail
     clear u0 u1 u2 u3 u4 e2 f2 e4 f4
     go_loopw [8] (fun i wr => ∃ (k : Nat) (m : Int), k ≤ dn ∧ i = .int .i64 (k : Int) ∧ Hid (RisI done k m) ∧ Hid (Ahead done k m) ∧ Hid (Below w2.heap.size w2 wr)) (fun i _ => dn - (intOf i).toNat)
     case atStart => exact ⟨0, 0, Nat.zero_le _, rfl, hide (RisI.start _), hide (.inl ⟨rfl, rfl⟩), hide (Below.refl _ _)⟩
     case round =>
      obtain ⟨k, m, hk, rfl, HRI, HAH, HB0⟩ := hrel
      rename World => wr
      have HB : Hid (Below V.heap.size V wr) := hide (HB2.out.trans (HB0.out.mono HB2.out.size))
      have HVr := hide (below_box HB0.out HV2.out); have u3 := cellB HVr.out (i := 3) rfl
      by_cases hlt : k < dn
      ·have hlt2 : k < done.length := by rw [HDN.out]; exact hlt
       obtain ⟨x, hx⟩ : ∃ x, done[k]! = x := ⟨_, rfl⟩
       have HDr := hide (NRow.later HD.out (HBW.out.trans (HB.out.mono HBW.out.size)))
       obtain ⟨g, o, hdp, a0⟩ := NRow.at HDr.out hlt2 hx
       have HDP := hide hdp
       rw [hdp] at u3
       have HX := hide hx; have HL2 := hide hlt2; clear hdp hx hlt2
       have q1 : decide ((k : Int) < (dn : Int)) = true := decide_eq_true (by omega)
       have q2 : decide (k < dn) = true := decide_eq_true hlt
       by_cases hp : posI x
       ·have HPX := hide hp; clear hp
        by_cases h0 : k = 0
        ·have HRN : Hid (RisI done (k + 1) x) := hide (HRI.out.step HL2.out HX.out (by
           rcases HAH.out with ⟨_, e9⟩ | ⟨j, e9, _⟩
           · have := HPX.out.1; omega
           · omega) HPX.out)
         have g1 : decide ((k : Int) > 0) = false := decide_eq_false (by omega)
         have g2 : decide (k > 0) = false := decide_eq_false (by omega)
         have HAN : Hid (Ahead done (k + 1) x) := hide (.inr ⟨k, rfl, HX.out⟩)
         clear h0
         go_upto_region 9 with fail
         have HX0 : Hid (Below wr.heap.size wr wr.drew) := hide (Below.refl _ wr).drew
         have HFA := hide (fun (w9 : World) (hSw : Below wr.heap.size wr w9) => And.intro (cell_later hSw u3) (cell_later hSw a0))
         refine wp_region_held_drew (S := fun w9 => Below wr.heap.size wr w9) (by kernel_rfl) HX0.out (fun hHeld => ?_)
         refine tk 0 53 ?_ rfl rfl (by kernel_rfl) (fun _ _ _ h => h) (by assumption) ?_ ?_; rotate_left
         ·intro w hSw; go_simp; all_goals with_reducible rfl
         simp only [Act.put]
         refine tk 1 54 ?_ rfl rfl (by kernel_rfl) (fun _ _ _ h => h) (by assumption) ?_ ?_; rotate_left
         ·intro w hSw; obtain ⟨l3, l0⟩ := HFA.out w hSw; go_simp; all_goals with_reducible rfl
         simp only [Act.put]
         refine tk 2 55 ?_ rfl rfl (by kernel_rfl) (fun _ _ _ h => h) (by assumption) ?_ ?_; rotate_left
         ·intro w hSw; go_simp; all_goals with_reducible rfl
         simp only [Act.put]
         refine tk 3 56 ?_ rfl rfl (by kernel_rfl) (fun _ _ _ h => h) (by assumption) ?_ ?_; rotate_left
         ·intro w hSw; go_simp; all_goals with_reducible rfl
         simp only [Act.put]
         refine tk 4 57 ?_ rfl rfl (by kernel_rfl) (fun _ _ _ h => h) (by assumption) ?_ ?_; rotate_left
         ·intro w hSw; obtain ⟨l3, l0⟩ := HFA.out w hSw; go_simp; all_goals with_reducible rfl
         simp only [Act.put]
         refine rk (i := 5) (o := _) rfl (by kernel_rfl) (by kernel_rfl) (fun K hK => ?_)
         obtain ⟨l3, l0⟩ := HFA.out _ HX0.out
         go_simp
         refine (pos_b (decide_eq_true HPX.out)).mono ?_
         rintro _ x1 ⟨rfl, b0⟩
         have HX1 : Hid (Below wr.heap.size wr x1) := hide (HX0.out.trans (b0.mono HX0.out.size))
         clear b0; clear l3 l0
         go_wp2_with fail
         refine hK.out _ _ HX1.out (fun hHeld => ?_)
         clear hK
         refine tk 6 59 ?_ rfl rfl (by kernel_rfl) (fun _ _ _ h => h) (by assumption) ?_ ?_; rotate_left
         ·intro w hSw; go_simp; all_goals with_reducible rfl
         simp only [Act.put]
         refine tk 7 60 ?_ rfl rfl (by kernel_rfl) (fun _ _ _ h => h) (by assumption) ?_ ?_; rotate_left
         ·intro w hSw; go_simp; all_goals with_reducible rfl
         simp only [Act.put]
         refine tk 8 61 ?_ rfl rfl (by kernel_rfl) (fun _ _ _ h => h) (by assumption) ?_ ?_; rotate_left
         ·intro w hSw; go_simp; all_goals with_reducible rfl
         simp only [Act.put]
         refine tk 9 62 ?_ rfl rfl (by kernel_rfl) (fun _ _ _ h => h) (by assumption) ?_ ?_; rotate_left
         ·intro w hSw; go_simp; all_goals with_reducible rfl
         simp only [Act.put]
         refine tk 10 63 ?_ rfl rfl (by kernel_rfl) (fun _ _ _ h => h) (by assumption) ?_ ?_; rotate_left
         ·intro w hSw; go_simp; all_goals with_reducible rfl
         simp only [Act.put]
         refine sk 11 64 rfl rfl (by kernel_rfl) (fun _ _ _ h => h) (by assumption) ?_
         simp only [Act.put]
         refine sk 12 65 rfl rfl (by kernel_rfl) (fun _ _ _ h => h) (by assumption) ?_
         simp only [Act.put]
         refine sk 13 66 rfl rfl (by kernel_rfl) (fun _ _ _ h => h) (by assumption) ?_
         simp only [Act.put]
         refine sk 14 67 rfl rfl (by kernel_rfl) (fun _ _ _ h => h) (by assumption) ?_
         simp only [Act.put]
         refine sk 15 68 rfl rfl (by kernel_rfl) (fun _ _ _ h => h) (by assumption) ?_
         simp only [Act.put]
         refine sk 16 69 rfl rfl (by kernel_rfl) (fun _ _ _ h => h) (by assumption) ?_
         simp only [Act.put]
         refine sk 17 70 rfl rfl (by kernel_rfl) (fun _ _ _ h => h) (by assumption) ?_
         simp only [Act.put]
         refine sk 18 71 rfl rfl (by kernel_rfl) (fun _ _ _ h => h) (by assumption) ?_
         simp only [Act.put]
         refine sk 19 72 rfl rfl (by kernel_rfl) (fun _ _ _ h => h) (by assumption) ?_
         simp only [Act.put]
         refine sk 20 73 rfl rfl (by kernel_rfl) (fun _ _ _ h => h) (by assumption) ?_
         simp only [Act.put]
         refine sk 21 74 rfl rfl (by kernel_rfl) (fun _ _ _ h => h) (by assumption) ?_
         simp only [Act.put]
         refine sk 22 75 rfl rfl (by kernel_rfl) (fun _ _ _ h => h) (by assumption) ?_
         simp only [Act.put]
         refine tk 23 76 ?_ rfl rfl (by kernel_rfl) (fun _ _ _ h => h) (by assumption) ?_ ?_; rotate_left
         ·intro w hSw; go_simp; all_goals with_reducible rfl
         simp only [Act.put]
         refine rk (i := 24) (o := _) rfl (by kernel_rfl) (by kernel_rfl) (fun K hK => ?_)
         go_simp
         refine hK.out _ _ HX1.out (fun hHeld => ?_)
         clear hK
         refine wpAnyH_done (by kernel_rfl) ?_ _
         obtain ⟨X9, rfl⟩ : ∃ X9, X9 = x1 := ⟨_, rfl⟩
         have hX9 := HX1.out; clear HFA
         have HB9 : Hid (Below V.heap.size V X9) := hide (HB.out.trans (hX9.mono HB.out.size))
         have HB9W : Hid (Below w2.heap.size w2 X9) := hide (HB0.out.trans (hX9.mono HB0.out.size))
         clear hX9 u3; go_wp2
         exact ⟨⟨k + 1, x, by omega, by first | rfl | go_num, HRN, HAN, HB9W⟩, by simp [intOf]; omega⟩
        ·obtain ⟨j, hj, hm⟩ : ∃ j, k = j + 1 ∧ done[j]! = m := by
          rcases HAH.out with ⟨e9, _⟩ | h9
          ·exact absurd e9 h0
          ·exact h9
         have g1 : decide ((k : Int) > 0) = true := decide_eq_true (by omega)
         have g2 : decide (k > 0) = true := decide_eq_true (by omega)
         have g3 : IntKind.i64.wrap ((k : Int) - 1) = (j : Int) := by have := HDB.out; rw [IntKind.wrap_i64]; omega
         obtain ⟨ga, oa, e9, a1⟩ := NRow.at HDr.out (i := j) (by have := HL2.out; omega) hm
         rw [HDP.out] at e9
         simp only [Option.some.injEq, Addr.mk.injEq, and_true] at e9
         obtain ⟨rfl, rfl⟩ := e9
         have hjd : j < dn := by omega
         have q3 : decide ((j : Int) < (dn : Int)) = true := decide_eq_true (by omega)
         have q4 : decide (j < dn) = true := decide_eq_true hjd
         have HJ := hide hj; clear hm hj h0
         obtain ⟨sb, hsb⟩ : ∃ sb, decide (x ≤ m) = sb := ⟨_, rfl⟩
         have HSB := hide hsb
         go_upto_region 9 with fail
         have HX0 : Hid (Below wr.heap.size wr wr.drew) := hide (Below.refl _ wr).drew
         have HFA := hide (fun (w9 : World) (hSw : Below wr.heap.size wr w9) => And.intro (cell_later hSw u3) (And.intro (cell_later hSw a0) (cell_later hSw a1)))
         refine wp_region_held_drew (S := fun w9 => Below wr.heap.size wr w9) (by kernel_rfl) HX0.out (fun hHeld => ?_)
         refine tk 0 53 ?_ rfl rfl (by kernel_rfl) (fun _ _ _ h => h) (by assumption) ?_ ?_; rotate_left
         ·intro w hSw; go_simp; all_goals with_reducible rfl
         simp only [Act.put]
         refine tk 1 54 ?_ rfl rfl (by kernel_rfl) (fun _ _ _ h => h) (by assumption) ?_ ?_; rotate_left
         ·intro w hSw; obtain ⟨l3, l0, l1⟩ := HFA.out w hSw; go_simp; all_goals with_reducible rfl
         simp only [Act.put]
         refine tk 2 55 ?_ rfl rfl (by kernel_rfl) (fun _ _ _ h => h) (by assumption) ?_ ?_; rotate_left
         ·intro w hSw; go_simp; all_goals with_reducible rfl
         simp only [Act.put]
         refine tk 3 56 ?_ rfl rfl (by kernel_rfl) (fun _ _ _ h => h) (by assumption) ?_ ?_; rotate_left
         ·intro w hSw; go_simp; all_goals with_reducible rfl
         simp only [Act.put]
         refine tk 4 57 ?_ rfl rfl (by kernel_rfl) (fun _ _ _ h => h) (by assumption) ?_ ?_; rotate_left
         ·intro w hSw; obtain ⟨l3, l0, l1⟩ := HFA.out w hSw; go_simp; all_goals with_reducible rfl
         simp only [Act.put]
         refine rk (i := 5) (o := _) rfl (by kernel_rfl) (by kernel_rfl) (fun K hK => ?_)
         obtain ⟨l3, l0, l1⟩ := HFA.out _ HX0.out
         go_simp
         refine (pos_b (decide_eq_true HPX.out)).mono ?_
         rintro _ x1 ⟨rfl, b0⟩
         have HX1 : Hid (Below wr.heap.size wr x1) := hide (HX0.out.trans (b0.mono HX0.out.size))
         clear b0; clear l3 l0 l1
         go_wp2_with fail
         refine hK.out _ _ HX1.out (fun hHeld => ?_)
         clear hK
         refine tk 6 59 ?_ rfl rfl (by kernel_rfl) (fun _ _ _ h => h) (by assumption) ?_ ?_; rotate_left
         ·intro w hSw; go_simp; all_goals with_reducible rfl
         simp only [Act.put]
         refine tk 7 60 ?_ rfl rfl (by kernel_rfl) (fun _ _ _ h => h) (by assumption) ?_ ?_; rotate_left
         ·intro w hSw; go_simp; all_goals with_reducible rfl
         simp only [Act.put]
         refine tk 8 61 ?_ rfl rfl (by kernel_rfl) (fun _ _ _ h => h) (by assumption) ?_ ?_; rotate_left
         ·intro w hSw; go_simp; all_goals with_reducible rfl
         simp only [Act.put]
         refine tk 9 62 ?_ rfl rfl (by kernel_rfl) (fun _ _ _ h => h) (by assumption) ?_ ?_; rotate_left
         ·intro w hSw; go_simp; all_goals with_reducible rfl
         simp only [Act.put]
         refine tk 10 63 ?_ rfl rfl (by kernel_rfl) (fun _ _ _ h => h) (by assumption) ?_ ?_; rotate_left
         ·intro w hSw; go_simp; all_goals with_reducible rfl
         simp only [Act.put]
         refine tk 11 64 ?_ rfl rfl (by kernel_rfl) (fun _ _ _ h => h) (by assumption) ?_ ?_; rotate_left
         ·intro w hSw; go_simp; all_goals with_reducible rfl
         simp only [Act.put]
         refine tk 12 65 ?_ rfl rfl (by kernel_rfl) (fun _ _ _ h => h) (by assumption) ?_ ?_; rotate_left
         ·intro w hSw; obtain ⟨l3, l0, l1⟩ := HFA.out w hSw; go_simp; all_goals with_reducible rfl
         simp only [Act.put]
         refine tk 13 66 ?_ rfl rfl (by kernel_rfl) (fun _ _ _ h => h) (by assumption) ?_ ?_; rotate_left
         ·intro w hSw; go_simp; all_goals with_reducible rfl
         simp only [Act.put]
         refine tk 14 67 ?_ rfl rfl (by kernel_rfl) (fun _ _ _ h => h) (by assumption) ?_ ?_; rotate_left
         ·intro w hSw; go_simp; all_goals with_reducible rfl
         simp only [Act.put]
         refine tk 15 68 ?_ rfl rfl (by kernel_rfl) (fun _ _ _ h => h) (by assumption) ?_ ?_; rotate_left
         ·intro w hSw; obtain ⟨l3, l0, l1⟩ := HFA.out w hSw; go_simp; all_goals with_reducible rfl
         simp only [Act.put]
         refine tk 16 69 ?_ rfl rfl (by kernel_rfl) (fun _ _ _ h => h) (by assumption) ?_ ?_; rotate_left
         ·intro w hSw; go_simp; all_goals with_reducible rfl
         simp only [Act.put]
         refine tk 17 70 ?_ rfl rfl (by kernel_rfl) (fun _ _ _ h => h) (by assumption) ?_ ?_; rotate_left
         ·intro w hSw; obtain ⟨l3, l0, l1⟩ := HFA.out w hSw; go_simp; all_goals with_reducible rfl
         simp only [Act.put]
         refine tk 18 71 ?_ rfl rfl (by kernel_rfl) (fun _ _ _ h => h) (by assumption) ?_ ?_; rotate_left
         ·intro w hSw; go_simp; all_goals with_reducible rfl
         simp only [Act.put]
         refine tk 19 72 ?_ rfl rfl (by kernel_rfl) (fun _ _ _ h => h) (by assumption) ?_ ?_; rotate_left
         ·intro w hSw; go_simp; all_goals with_reducible rfl
         simp only [Act.put]
         refine tk 20 73 ?_ rfl rfl (by kernel_rfl) (fun _ _ _ h => h) (by assumption) ?_ ?_; rotate_left
         ·intro w hSw; go_simp; all_goals with_reducible rfl
         simp only [Act.put]
         refine tk 21 74 ?_ rfl rfl (by kernel_rfl) (fun _ _ _ h => h) (by assumption) ?_ ?_; rotate_left
         ·intro w hSw; obtain ⟨l3, l0, l1⟩ := HFA.out w hSw; go_simp; all_goals with_reducible rfl
         simp only [Act.put]
         refine tk 22 75 ?_ rfl rfl (by kernel_rfl) (fun _ _ _ h => h) (by assumption) ?_ ?_; rotate_left
         ·intro w hSw; go_simp; all_goals with_reducible rfl
         simp only [Act.put]
         refine tk 23 76 ?_ rfl rfl (by kernel_rfl) (fun _ _ _ h => h) (by assumption) ?_ ?_; rotate_left
         ·intro w hSw; go_simp; all_goals with_reducible rfl
         simp only [Act.put]
         refine rk (i := 24) (o := _) rfl (by kernel_rfl) (by kernel_rfl) (fun K hK => ?_)
         go_simp
         refine hK.out _ _ HX1.out (fun hHeld => ?_)
         clear hK
         refine wpAnyH_done (by kernel_rfl) ?_ _
         obtain ⟨X9, rfl⟩ : ∃ X9, X9 = x1 := ⟨_, rfl⟩
         have hX9 := HX1.out; clear HFA
         have HB9 : Hid (Below V.heap.size V X9) := hide (HB.out.trans (hX9.mono HB.out.size))
         have HB9W : Hid (Below w2.heap.size w2 X9) := hide (HB0.out.trans (hX9.mono HB0.out.size))
         clear hX9 u3; clear hsb a0 a1
         cases sb with
         | true =>
          have HNR := hide (HRI.out.not HL2.out HX.out (of_decide_eq_true HSB.out)); go_wp2
          go_ret2
          exact .inr ⟨fun h9 => HNR.out h9.done, rfl, HBW.out.trans (HB9.out.mono HBW.out.size)⟩
         | false =>
          have HRN : Hid (RisI done (k + 1) x) := hide (HRI.out.step HL2.out HX.out (of_decide_eq_false HSB.out) HPX.out)
          have HAN : Hid (Ahead done (k + 1) x) := hide (.inr ⟨k, rfl, HX.out⟩)
          go_wp2
          exact ⟨⟨k + 1, x, by omega, by first | rfl | go_num, HRN, HAN, HB9W⟩, by simp [intOf]; omega⟩
       ·have HPX := hide hp
        have HNR : Hid (¬ ris done) := hide (fun h9 => hp (h9.2 x (mem_at HL2.out HX.out)))
        clear hp
        go_upto_region 9 with fail
        have HX0 : Hid (Below wr.heap.size wr wr.drew) := hide (Below.refl _ wr).drew
        have HFA := hide (fun (w9 : World) (hSw : Below wr.heap.size wr w9) => And.intro (cell_later hSw u3) (cell_later hSw a0))
        refine wp_region_held_drew (S := fun w9 => Below wr.heap.size wr w9) (by kernel_rfl) HX0.out (fun hHeld => ?_)
        refine tk 0 53 ?_ rfl rfl (by kernel_rfl) (fun _ _ _ h => h) (by assumption) ?_ ?_; rotate_left
        ·intro w hSw; go_simp; all_goals with_reducible rfl
        simp only [Act.put]
        refine tk 1 54 ?_ rfl rfl (by kernel_rfl) (fun _ _ _ h => h) (by assumption) ?_ ?_; rotate_left
        ·intro w hSw; obtain ⟨l3, l0⟩ := HFA.out w hSw; go_simp; all_goals with_reducible rfl
        simp only [Act.put]
        refine tk 2 55 ?_ rfl rfl (by kernel_rfl) (fun _ _ _ h => h) (by assumption) ?_ ?_; rotate_left
        ·intro w hSw; go_simp; all_goals with_reducible rfl
        simp only [Act.put]
        refine tk 3 56 ?_ rfl rfl (by kernel_rfl) (fun _ _ _ h => h) (by assumption) ?_ ?_; rotate_left
        ·intro w hSw; go_simp; all_goals with_reducible rfl
        simp only [Act.put]
        refine tk 4 57 ?_ rfl rfl (by kernel_rfl) (fun _ _ _ h => h) (by assumption) ?_ ?_; rotate_left
        ·intro w hSw; obtain ⟨l3, l0⟩ := HFA.out w hSw; go_simp; all_goals with_reducible rfl
        simp only [Act.put]
        refine rk (i := 5) (o := _) rfl (by kernel_rfl) (by kernel_rfl) (fun K hK => ?_)
        obtain ⟨l3, l0⟩ := HFA.out _ HX0.out
        go_simp
        refine (pos_b (decide_eq_false HPX.out)).mono ?_
        rintro _ x1 ⟨rfl, b0⟩
        have HX1 : Hid (Below wr.heap.size wr x1) := hide (HX0.out.trans (b0.mono HX0.out.size))
        clear b0; clear l3 l0
        go_wp2_with fail
        refine hK.out _ _ HX1.out (fun hHeld => ?_)
        clear hK
        refine tk 6 59 ?_ rfl rfl (by kernel_rfl) (fun _ _ _ h => h) (by assumption) ?_ ?_; rotate_left
        ·intro w hSw; go_simp; all_goals with_reducible rfl
        simp only [Act.put]
        refine tk 7 60 ?_ rfl rfl (by kernel_rfl) (fun _ _ _ h => h) (by assumption) ?_ ?_; rotate_left
        ·intro w hSw; go_simp; all_goals with_reducible rfl
        simp only [Act.put]
        refine sk 8 61 rfl rfl (by kernel_rfl) (fun _ _ _ h => h) (by assumption) ?_
        simp only [Act.put]
        refine sk 9 62 rfl rfl (by kernel_rfl) (fun _ _ _ h => h) (by assumption) ?_
        simp only [Act.put]
        refine sk 10 63 rfl rfl (by kernel_rfl) (fun _ _ _ h => h) (by assumption) ?_
        simp only [Act.put]
        refine sk 11 64 rfl rfl (by kernel_rfl) (fun _ _ _ h => h) (by assumption) ?_
        simp only [Act.put]
        refine sk 12 65 rfl rfl (by kernel_rfl) (fun _ _ _ h => h) (by assumption) ?_
        simp only [Act.put]
        refine sk 13 66 rfl rfl (by kernel_rfl) (fun _ _ _ h => h) (by assumption) ?_
        simp only [Act.put]
        refine sk 14 67 rfl rfl (by kernel_rfl) (fun _ _ _ h => h) (by assumption) ?_
        simp only [Act.put]
        refine sk 15 68 rfl rfl (by kernel_rfl) (fun _ _ _ h => h) (by assumption) ?_
        simp only [Act.put]
        refine sk 16 69 rfl rfl (by kernel_rfl) (fun _ _ _ h => h) (by assumption) ?_
        simp only [Act.put]
        refine sk 17 70 rfl rfl (by kernel_rfl) (fun _ _ _ h => h) (by assumption) ?_
        simp only [Act.put]
        refine sk 18 71 rfl rfl (by kernel_rfl) (fun _ _ _ h => h) (by assumption) ?_
        simp only [Act.put]
        refine sk 19 72 rfl rfl (by kernel_rfl) (fun _ _ _ h => h) (by assumption) ?_
        simp only [Act.put]
        refine sk 20 73 rfl rfl (by kernel_rfl) (fun _ _ _ h => h) (by assumption) ?_
        simp only [Act.put]
        refine sk 21 74 rfl rfl (by kernel_rfl) (fun _ _ _ h => h) (by assumption) ?_
        simp only [Act.put]
        refine sk 22 75 rfl rfl (by kernel_rfl) (fun _ _ _ h => h) (by assumption) ?_
        simp only [Act.put]
        refine sk 23 76 rfl rfl (by kernel_rfl) (fun _ _ _ h => h) (by assumption) ?_
        simp only [Act.put]
        refine rk (i := 24) (o := _) rfl (by kernel_rfl) (by kernel_rfl) (fun K hK => ?_)
        go_simp
        refine hK.out _ _ HX1.out (fun hHeld => ?_)
        clear hK
        refine wpAnyH_done (by kernel_rfl) ?_ _
        obtain ⟨X9, rfl⟩ : ∃ X9, X9 = x1 := ⟨_, rfl⟩
        have hX9 := HX1.out; clear HFA
        have HB9 : Hid (Below V.heap.size V X9) := hide (HB.out.trans (hX9.mono HB.out.size))
        have HB9W : Hid (Below w2.heap.size w2 X9) := hide (HB0.out.trans (hX9.mono HB0.out.size))
        clear hX9 u3; go_wp2
        go_ret2
        exact .inr ⟨fun h9 => HNR.out h9.done, rfl, HBW.out.trans (HB9.out.mono HBW.out.size)⟩
      ·obtain rfl : dn = k := by omega
       have HRD : Hid (ris done) := hide (HRI.out.end_ (by rw [HDN.out]; exact Nat.le_refl _))
       have HP3 := hide (HP2.out.later HB0.out); have u4 := cellB HVr.out (i := 4) rfl
       go_wp2_with fail
       clear u3 u4
       go_loopw [9] (fun i ws => ∃ (k2 : Nat) (m2 : Int), k2 ≤ tn ∧ i = .int .i64 (k2 : Int) ∧ Hid (FoI n reg done ((ts.take k2).map TP.t)) ∧ Hid (RisI (ts.map (fun x => x.t.id)) k2 m2) ∧ Hid (Ahead (ts.map (fun x => x.t.id)) k2 m2) ∧ Hid (Below wr.heap.size wr ws)) (fun i _ => tn - (intOf i).toNat)
       case atStart => exact ⟨0, 0, Nat.zero_le _, rfl, hide (by intro t ht; simp at ht), hide (RisI.start _), hide (.inl ⟨rfl, rfl⟩), hide (Below.refl _ _)⟩
       case round =>
        obtain ⟨k2, m2, hk2, rfl, HFO, HRI2, HAH2, HBr⟩ := hrel
        rename World => ws
        have HBs : Hid (Below V.heap.size V ws) := hide (HB.out.trans (HBr.out.mono HB.out.size))
        have HVs := hide (below_box HBr.out HVr.out); have v0 := cellB HVs.out (i := 0) rfl; have v1 := cellB HVs.out (i := 1) rfl; have v2 := cellB HVs.out (i := 2) rfl; have v3 := cellB HVs.out (i := 3) rfl; have v4 := cellB HVs.out (i := 4) rfl; have HTs := hide (HT.out.later (HBW.out.trans (HBs.out.mono HBW.out.size))); have HDS := hide (NRow.later HD.out (HBW.out.trans (HBs.out.mono HBW.out.size))); have HPs := hide (HP3.out.later HBr.out)
        by_cases hlt : k2 < tn
        ·have hlt2 : k2 < ts.length := by rw [HTN.out]; exact hlt
         obtain ⟨x, hx⟩ : ∃ x, ts[k2]! = x := ⟨_, rfl⟩
         obtain ⟨g, o, hpp, b0, b1, b2, b3, b4, hxo⟩ := TL.at HTs.out hlt2 hx
         have HPP := hide hpp
         rw [hpp] at v4
         have HTX := hide (TL.tx HTs.out hlt2 hx); have HME := hide (mem_ts hlt2 hx); have HIX := hide (ids_take hlt2 hx)
         have HL2 : Hid (k2 < (ts.map (fun x => x.t.id)).length) := hide (by rw [List.length_map]; exact hlt2)
         have hxn := hxo.v
         obtain ⟨⟨ep, id, bg, rs, vs⟩, rp, rc, xp, xc⟩ := x
         simp only at b0 b1 b2 b3 b4 hxn HTX HME HIX
         have HXN : Hid (NRow ws xp xc vs) := hide hxn
         obtain ⟨X, hX⟩ : ∃ X, X = ws.alloc (.cells #[.int .i64 ep, .int .i64 id, .int .i64 bg, .slice rp rs.length rc, .slice xp vs.length xc] 28 (0, 0)) := ⟨_, rfl⟩
         have HXX : Hid (X.heap[ws.heap.size]? = some (.cells #[.int .i64 ep, .int .i64 id, .int .i64 bg, .slice rp rs.length rc, .slice xp vs.length xc] 28 (0, 0))) := hide (by rw [hX]; exact heap_alloc_new ws _)
         have HQX : Hid (Below ws.heap.size ws X) := hide (by rw [hX]; exact alloc_below _ _)
         have HPX := hide (HPs.out.later HQX.out)
         obtain ⟨tB, htB⟩ : ∃ tB, ws.heap.size = tB := ⟨_, rfl⟩
         have HVX := hide (below_box HQX.out HVs.out)
         rw [htB] at HXX
         have u0 := cellB HVX.out (i := 0) rfl; have u3 := cellB HVX.out (i := 3) rfl; have u4 := cellB HVX.out (i := 4) rfl
         rw [hpp] at u4
         have z0 := cellB HXX.out (i := 0) rfl; have z1 := cellB HXX.out (i := 1) rfl; have z2 := cellB HXX.out (i := 2) rfl; have z3 := cellB HXX.out (i := 3) rfl; have z4 := cellB HXX.out (i := 4) rfl
         have q1 : decide ((k2 : Int) < (tn : Int)) = true := decide_eq_true (by omega)
         have q2 : decide (k2 < tn) = true := decide_eq_true hlt
         clear hxo hxn hx hpp v0 v1 v2 v3
         by_cases hm : mayC n ⟨ep, id, bg, rs, vs⟩
         ·have HM := hide hm
          by_cases he : ep = reg
          ·have e1 : (ep != reg) = false := by simpa using he
           by_cases hi : id ∈ done
           ·have HI := hide hi
            have HNO : Hid (¬ FitO n ⟨reg, out, vec, done, ts.map TP.t⟩) := hide (fun h9 => (h9.may _ HME.out).2.2 hi)
            clear hm he hi
            go_upto_region 15 with fail
            rw [← hX]
            try rw [htB]
            clear hX htB b0 b1 b2 b3 b4 v4
            have HX0 : Hid (Below X.heap.size X X.drew) := hide (Below.refl _ X).drew
            have HFA := hide (fun (w9 : World) (hSw : Below X.heap.size X w9) => And.intro (cell_later hSw z0) (And.intro (cell_later hSw z1) (And.intro (cell_later hSw z2) (And.intro (cell_later hSw z3) (And.intro (cell_later hSw z4) (And.intro (cell_later hSw u0) (And.intro (cell_later hSw u3) (cell_later hSw u4))))))))
            refine wp_region_held_drew (S := fun w9 => Below X.heap.size X w9) (by kernel_rfl) HX0.out (fun hHeld => ?_)
            refine tk 0 90 ?_ rfl rfl (by kernel_rfl) (fun _ _ _ h => h) (by assumption) ?_ ?_; rotate_left
            ·intro w hSw; go_simp; all_goals with_reducible rfl
            simp only [Act.put]
            refine tk 1 91 ?_ rfl rfl (by kernel_rfl) (fun _ _ _ h => h) (by assumption) ?_ ?_; rotate_left
            ·intro w hSw; obtain ⟨l0, l1, l2, l3, l4, p0, p3, p4⟩ := HFA.out w hSw; go_simp; all_goals with_reducible rfl
            simp only [Act.put]
            refine rk (i := 2) (o := _) rfl (by kernel_rfl) (by kernel_rfl) (fun K hK => ?_)
            obtain ⟨l0, l1, l2, l3, l4, p0, p3, p4⟩ := HFA.out _ HX0.out
            go_simp
            refine (rMay_any (parts := (n : Int)) (cellB (below_box HX0.out HPX.out.box) rfl) (NRow.later HXN.out (HQX.out.trans (HX0.out.mono HQX.out.size))) rfl rfl (decide_eq_true HM.out)).mono ?_
            rintro _ x1 ⟨rfl, b0⟩
            have HX1 : Hid (Below X.heap.size X x1) := hide (HX0.out.trans (b0.mono HX0.out.size))
            clear b0; clear l0 l1 l2 l3 l4 p0 p3 p4
            go_wp2_with fail
            refine hK.out _ _ HX1.out (fun hHeld => ?_)
            clear hK
            refine tk 3 93 ?_ rfl rfl (by kernel_rfl) (fun _ _ _ h => h) (by assumption) ?_ ?_; rotate_left
            ·intro w hSw; go_simp; all_goals with_reducible rfl
            simp only [Act.put]
            refine tk 4 94 ?_ rfl rfl (by kernel_rfl) (fun _ _ _ h => h) (by assumption) ?_ ?_; rotate_left
            ·intro w hSw; go_simp; all_goals with_reducible rfl
            simp only [Act.put]
            refine tk 5 95 ?_ rfl rfl (by kernel_rfl) (fun _ _ _ h => h) (by assumption) ?_ ?_; rotate_left
            ·intro w hSw; go_simp; all_goals with_reducible rfl
            simp only [Act.put]
            refine tk 6 96 ?_ rfl rfl (by kernel_rfl) (fun _ _ _ h => h) (by assumption) ?_ ?_; rotate_left
            ·intro w hSw; obtain ⟨l0, l1, l2, l3, l4, p0, p3, p4⟩ := HFA.out w hSw; go_simp; all_goals with_reducible rfl
            simp only [Act.put]
            refine tk 7 97 ?_ rfl rfl (by kernel_rfl) (fun _ _ _ h => h) (by assumption) ?_ ?_; rotate_left
            ·intro w hSw; go_simp; all_goals with_reducible rfl
            simp only [Act.put]
            refine tk 8 98 ?_ rfl rfl (by kernel_rfl) (fun _ _ _ h => h) (by assumption) ?_ ?_; rotate_left
            ·intro w hSw; obtain ⟨l0, l1, l2, l3, l4, p0, p3, p4⟩ := HFA.out w hSw; go_simp; all_goals with_reducible rfl
            simp only [Act.put]
            refine tk 9 99 ?_ rfl rfl (by kernel_rfl) (fun _ _ _ h => h) (by assumption) ?_ ?_; rotate_left
            ·intro w hSw; go_simp; all_goals with_reducible rfl
            simp only [Act.put]
            refine tk 10 100 ?_ rfl rfl (by kernel_rfl) (fun _ _ _ h => h) (by assumption) ?_ ?_; rotate_left
            ·intro w hSw; go_simp; all_goals with_reducible rfl
            simp only [Act.put]
            refine tk 11 101 ?_ rfl rfl (by kernel_rfl) (fun _ _ _ h => h) (by assumption) ?_ ?_; rotate_left
            ·intro w hSw; go_simp; all_goals with_reducible rfl
            simp only [Act.put]
            refine tk 12 102 ?_ rfl rfl (by kernel_rfl) (fun _ _ _ h => h) (by assumption) ?_ ?_; rotate_left
            ·intro w hSw; go_simp; all_goals with_reducible rfl
            simp only [Act.put]
            refine tk 13 103 ?_ rfl rfl (by kernel_rfl) (fun _ _ _ h => h) (by assumption) ?_ ?_; rotate_left
            ·intro w hSw; obtain ⟨l0, l1, l2, l3, l4, p0, p3, p4⟩ := HFA.out w hSw; go_simp; all_goals with_reducible rfl
            simp only [Act.put]
            refine tk 14 104 ?_ rfl rfl (by kernel_rfl) (fun _ _ _ h => h) (by assumption) ?_ ?_; rotate_left
            ·intro w hSw; go_simp; all_goals with_reducible rfl
            simp only [Act.put]
            refine tk 15 105 ?_ rfl rfl (by kernel_rfl) (fun _ _ _ h => h) (by assumption) ?_ ?_; rotate_left
            ·intro w hSw; obtain ⟨l0, l1, l2, l3, l4, p0, p3, p4⟩ := HFA.out w hSw; go_simp; all_goals with_reducible rfl
            simp only [Act.put]
            refine rk (i := 16) (o := _) rfl (by kernel_rfl) (by kernel_rfl) (fun K hK => ?_)
            obtain ⟨l0, l1, l2, l3, l4, p0, p3, p4⟩ := HFA.out _ HX1.out
            go_simp
            refine (hasInt_any (NRow.later HDS.out (HQX.out.trans (HX1.out.mono HQX.out.size))) HDN.out (decide_eq_true HI.out)).mono ?_
            rintro _ x2 ⟨rfl, b0⟩
            have HX2 : Hid (Below X.heap.size X x2) := hide (HX1.out.trans (b0.mono HX1.out.size))
            clear b0; clear l0 l1 l2 l3 l4 p0 p3 p4
            go_wp2_with fail
            refine hK.out _ _ HX2.out (fun hHeld => ?_)
            clear hK
            refine tk 17 107 ?_ rfl rfl (by kernel_rfl) (fun _ _ _ h => h) (by assumption) ?_ ?_; rotate_left
            ·intro w hSw; go_simp; all_goals with_reducible rfl
            simp only [Act.put]
            refine tk 18 108 ?_ rfl rfl (by kernel_rfl) (fun _ _ _ h => h) (by assumption) ?_ ?_; rotate_left
            ·intro w hSw; go_simp; all_goals with_reducible rfl
            simp only [Act.put]
            refine sk 19 109 rfl rfl (by kernel_rfl) (fun _ _ _ h => h) (by assumption) ?_
            simp only [Act.put]
            refine sk 20 110 rfl rfl (by kernel_rfl) (fun _ _ _ h => h) (by assumption) ?_
            simp only [Act.put]
            refine sk 21 111 rfl rfl (by kernel_rfl) (fun _ _ _ h => h) (by assumption) ?_
            simp only [Act.put]
            refine sk 22 112 rfl rfl (by kernel_rfl) (fun _ _ _ h => h) (by assumption) ?_
            simp only [Act.put]
            refine sk 23 113 rfl rfl (by kernel_rfl) (fun _ _ _ h => h) (by assumption) ?_
            simp only [Act.put]
            refine sk 24 114 rfl rfl (by kernel_rfl) (fun _ _ _ h => h) (by assumption) ?_
            simp only [Act.put]
            refine sk 25 115 rfl rfl (by kernel_rfl) (fun _ _ _ h => h) (by assumption) ?_
            simp only [Act.put]
            refine sk 26 116 rfl rfl (by kernel_rfl) (fun _ _ _ h => h) (by assumption) ?_
            simp only [Act.put]
            refine sk 27 117 rfl rfl (by kernel_rfl) (fun _ _ _ h => h) (by assumption) ?_
            simp only [Act.put]
            refine sk 28 118 rfl rfl (by kernel_rfl) (fun _ _ _ h => h) (by assumption) ?_
            simp only [Act.put]
            refine sk 29 119 rfl rfl (by kernel_rfl) (fun _ _ _ h => h) (by assumption) ?_
            simp only [Act.put]
            refine sk 30 120 rfl rfl (by kernel_rfl) (fun _ _ _ h => h) (by assumption) ?_
            simp only [Act.put]
            refine sk 31 121 rfl rfl (by kernel_rfl) (fun _ _ _ h => h) (by assumption) ?_
            simp only [Act.put]
            refine sk 32 122 rfl rfl (by kernel_rfl) (fun _ _ _ h => h) (by assumption) ?_
            simp only [Act.put]
            refine rk (i := 33) (o := _) rfl (by kernel_rfl) (by kernel_rfl) (fun K hK => ?_)
            go_simp
            refine hK.out _ _ HX2.out (fun hHeld => ?_)
            clear hK
            refine wpAnyH_done (by kernel_rfl) ?_ _
            obtain ⟨X9, rfl⟩ : ∃ X9, X9 = x2 := ⟨_, rfl⟩
            have hX9 := HX2.out; clear HFA
            have HB9 : Hid (Below V.heap.size V X9) := hide (HBs.out.trans ((HQX.out.trans (hX9.mono HQX.out.size)).mono HBs.out.size))
            have HB9W : Hid (Below wr.heap.size wr X9) := hide (HBr.out.trans ((HQX.out.trans (hX9.mono HQX.out.size)).mono HBr.out.size))
            clear hX9 u0 u3 u4 z0 z1 z2 z3 z4; go_wp2
            go_ret2
            exact .inr ⟨fun h9 => HNO.out h9.pre, rfl, HBW.out.trans (HB9.out.mono HBW.out.size)⟩
           ·have HI := hide hi
            have HFN : Hid (FoI n reg done ((ts.take (k2 + 1)).map TP.t)) := hide (by rw [HTX.out]; exact HFO.out.step hm he hi)
            have HPI : Hid (posI id) := hide hm.2.1
            clear hm he hi
            by_cases h0 : k2 = 0
            ·have HRN : Hid (RisI (ts.map (fun x => x.t.id)) (k2 + 1) id) := hide (HRI2.out.step HL2.out HIX.out (by
               rcases HAH2.out with ⟨_, e9⟩ | ⟨j, e9, _⟩
               · have := HPI.out.1; omega
               · omega) HPI.out)
             have HAN : Hid (Ahead (ts.map (fun x => x.t.id)) (k2 + 1) id) := hide (.inr ⟨k2, rfl, HIX.out⟩)
             have g1 : decide ((k2 : Int) > 0) = false := decide_eq_false (by omega)
             have g2 : decide (k2 > 0) = false := decide_eq_false (by omega)
             clear h0
             go_upto_region 15 with fail
             rw [← hX]
             try rw [htB]
             clear hX htB b0 b1 b2 b3 b4 v4
             have HX0 : Hid (Below X.heap.size X X.drew) := hide (Below.refl _ X).drew
             have HFA := hide (fun (w9 : World) (hSw : Below X.heap.size X w9) => And.intro (cell_later hSw z0) (And.intro (cell_later hSw z1) (And.intro (cell_later hSw z2) (And.intro (cell_later hSw z3) (And.intro (cell_later hSw z4) (And.intro (cell_later hSw u0) (And.intro (cell_later hSw u3) (cell_later hSw u4))))))))
             refine wp_region_held_drew (S := fun w9 => Below X.heap.size X w9) (by kernel_rfl) HX0.out (fun hHeld => ?_)
             refine tk 0 90 ?_ rfl rfl (by kernel_rfl) (fun _ _ _ h => h) (by assumption) ?_ ?_; rotate_left
             ·intro w hSw; go_simp; all_goals with_reducible rfl
             simp only [Act.put]
             refine tk 1 91 ?_ rfl rfl (by kernel_rfl) (fun _ _ _ h => h) (by assumption) ?_ ?_; rotate_left
             ·intro w hSw; obtain ⟨l0, l1, l2, l3, l4, p0, p3, p4⟩ := HFA.out w hSw; go_simp; all_goals with_reducible rfl
             simp only [Act.put]
             refine rk (i := 2) (o := _) rfl (by kernel_rfl) (by kernel_rfl) (fun K hK => ?_)
             obtain ⟨l0, l1, l2, l3, l4, p0, p3, p4⟩ := HFA.out _ HX0.out
             go_simp
             refine (rMay_any (parts := (n : Int)) (cellB (below_box HX0.out HPX.out.box) rfl) (NRow.later HXN.out (HQX.out.trans (HX0.out.mono HQX.out.size))) rfl rfl (decide_eq_true HM.out)).mono ?_
             rintro _ x1 ⟨rfl, b0⟩
             have HX1 : Hid (Below X.heap.size X x1) := hide (HX0.out.trans (b0.mono HX0.out.size))
             clear b0; clear l0 l1 l2 l3 l4 p0 p3 p4
             go_wp2_with fail
             refine hK.out _ _ HX1.out (fun hHeld => ?_)
             clear hK
             refine tk 3 93 ?_ rfl rfl (by kernel_rfl) (fun _ _ _ h => h) (by assumption) ?_ ?_; rotate_left
             ·intro w hSw; go_simp; all_goals with_reducible rfl
             simp only [Act.put]
             refine tk 4 94 ?_ rfl rfl (by kernel_rfl) (fun _ _ _ h => h) (by assumption) ?_ ?_; rotate_left
             ·intro w hSw; go_simp; all_goals with_reducible rfl
             simp only [Act.put]
             refine tk 5 95 ?_ rfl rfl (by kernel_rfl) (fun _ _ _ h => h) (by assumption) ?_ ?_; rotate_left
             ·intro w hSw; go_simp; all_goals with_reducible rfl
             simp only [Act.put]
             refine tk 6 96 ?_ rfl rfl (by kernel_rfl) (fun _ _ _ h => h) (by assumption) ?_ ?_; rotate_left
             ·intro w hSw; obtain ⟨l0, l1, l2, l3, l4, p0, p3, p4⟩ := HFA.out w hSw; go_simp; all_goals with_reducible rfl
             simp only [Act.put]
             refine tk 7 97 ?_ rfl rfl (by kernel_rfl) (fun _ _ _ h => h) (by assumption) ?_ ?_; rotate_left
             ·intro w hSw; go_simp; all_goals with_reducible rfl
             simp only [Act.put]
             refine tk 8 98 ?_ rfl rfl (by kernel_rfl) (fun _ _ _ h => h) (by assumption) ?_ ?_; rotate_left
             ·intro w hSw; obtain ⟨l0, l1, l2, l3, l4, p0, p3, p4⟩ := HFA.out w hSw; go_simp; all_goals with_reducible rfl
             simp only [Act.put]
             refine tk 9 99 ?_ rfl rfl (by kernel_rfl) (fun _ _ _ h => h) (by assumption) ?_ ?_; rotate_left
             ·intro w hSw; go_simp; all_goals with_reducible rfl
             simp only [Act.put]
             refine tk 10 100 ?_ rfl rfl (by kernel_rfl) (fun _ _ _ h => h) (by assumption) ?_ ?_; rotate_left
             ·intro w hSw; go_simp; all_goals with_reducible rfl
             simp only [Act.put]
             refine tk 11 101 ?_ rfl rfl (by kernel_rfl) (fun _ _ _ h => h) (by assumption) ?_ ?_; rotate_left
             ·intro w hSw; go_simp; all_goals with_reducible rfl
             simp only [Act.put]
             refine tk 12 102 ?_ rfl rfl (by kernel_rfl) (fun _ _ _ h => h) (by assumption) ?_ ?_; rotate_left
             ·intro w hSw; go_simp; all_goals with_reducible rfl
             simp only [Act.put]
             refine tk 13 103 ?_ rfl rfl (by kernel_rfl) (fun _ _ _ h => h) (by assumption) ?_ ?_; rotate_left
             ·intro w hSw; obtain ⟨l0, l1, l2, l3, l4, p0, p3, p4⟩ := HFA.out w hSw; go_simp; all_goals with_reducible rfl
             simp only [Act.put]
             refine tk 14 104 ?_ rfl rfl (by kernel_rfl) (fun _ _ _ h => h) (by assumption) ?_ ?_; rotate_left
             ·intro w hSw; go_simp; all_goals with_reducible rfl
             simp only [Act.put]
             refine tk 15 105 ?_ rfl rfl (by kernel_rfl) (fun _ _ _ h => h) (by assumption) ?_ ?_; rotate_left
             ·intro w hSw; obtain ⟨l0, l1, l2, l3, l4, p0, p3, p4⟩ := HFA.out w hSw; go_simp; all_goals with_reducible rfl
             simp only [Act.put]
             refine rk (i := 16) (o := _) rfl (by kernel_rfl) (by kernel_rfl) (fun K hK => ?_)
             obtain ⟨l0, l1, l2, l3, l4, p0, p3, p4⟩ := HFA.out _ HX1.out
             go_simp
             refine (hasInt_any (NRow.later HDS.out (HQX.out.trans (HX1.out.mono HQX.out.size))) HDN.out (decide_eq_false HI.out)).mono ?_
             rintro _ x2 ⟨rfl, b0⟩
             have HX2 : Hid (Below X.heap.size X x2) := hide (HX1.out.trans (b0.mono HX1.out.size))
             clear b0; clear l0 l1 l2 l3 l4 p0 p3 p4
             go_wp2_with fail
             refine hK.out _ _ HX2.out (fun hHeld => ?_)
             clear hK
             refine tk 17 107 ?_ rfl rfl (by kernel_rfl) (fun _ _ _ h => h) (by assumption) ?_ ?_; rotate_left
             ·intro w hSw; go_simp; all_goals with_reducible rfl
             simp only [Act.put]
             refine tk 18 108 ?_ rfl rfl (by kernel_rfl) (fun _ _ _ h => h) (by assumption) ?_ ?_; rotate_left
             ·intro w hSw; go_simp; all_goals with_reducible rfl
             simp only [Act.put]
             refine tk 19 109 ?_ rfl rfl (by kernel_rfl) (fun _ _ _ h => h) (by assumption) ?_ ?_; rotate_left
             ·intro w hSw; go_simp; all_goals with_reducible rfl
             simp only [Act.put]
             refine tk 20 110 ?_ rfl rfl (by kernel_rfl) (fun _ _ _ h => h) (by assumption) ?_ ?_; rotate_left
             ·intro w hSw; go_simp; all_goals with_reducible rfl
             simp only [Act.put]
             refine tk 21 111 ?_ rfl rfl (by kernel_rfl) (fun _ _ _ h => h) (by assumption) ?_ ?_; rotate_left
             ·intro w hSw; go_simp; all_goals with_reducible rfl
             simp only [Act.put]
             refine sk 22 112 rfl rfl (by kernel_rfl) (fun _ _ _ h => h) (by assumption) ?_
             simp only [Act.put]
             refine sk 23 113 rfl rfl (by kernel_rfl) (fun _ _ _ h => h) (by assumption) ?_
             simp only [Act.put]
             refine sk 24 114 rfl rfl (by kernel_rfl) (fun _ _ _ h => h) (by assumption) ?_
             simp only [Act.put]
             refine sk 25 115 rfl rfl (by kernel_rfl) (fun _ _ _ h => h) (by assumption) ?_
             simp only [Act.put]
             refine sk 26 116 rfl rfl (by kernel_rfl) (fun _ _ _ h => h) (by assumption) ?_
             simp only [Act.put]
             refine sk 27 117 rfl rfl (by kernel_rfl) (fun _ _ _ h => h) (by assumption) ?_
             simp only [Act.put]
             refine sk 28 118 rfl rfl (by kernel_rfl) (fun _ _ _ h => h) (by assumption) ?_
             simp only [Act.put]
             refine sk 29 119 rfl rfl (by kernel_rfl) (fun _ _ _ h => h) (by assumption) ?_
             simp only [Act.put]
             refine sk 30 120 rfl rfl (by kernel_rfl) (fun _ _ _ h => h) (by assumption) ?_
             simp only [Act.put]
             refine sk 31 121 rfl rfl (by kernel_rfl) (fun _ _ _ h => h) (by assumption) ?_
             simp only [Act.put]
             refine tk 32 122 ?_ rfl rfl (by kernel_rfl) (fun _ _ _ h => h) (by assumption) ?_ ?_; rotate_left
             ·intro w hSw; go_simp; all_goals with_reducible rfl
             simp only [Act.put]
             refine rk (i := 33) (o := _) rfl (by kernel_rfl) (by kernel_rfl) (fun K hK => ?_)
             go_simp
             refine hK.out _ _ HX2.out (fun hHeld => ?_)
             clear hK
             refine wpAnyH_done (by kernel_rfl) ?_ _
             obtain ⟨X9, rfl⟩ : ∃ X9, X9 = x2 := ⟨_, rfl⟩
             have hX9 := HX2.out; clear HFA
             have HB9 : Hid (Below V.heap.size V X9) := hide (HBs.out.trans ((HQX.out.trans (hX9.mono HQX.out.size)).mono HBs.out.size))
             have HB9W : Hid (Below wr.heap.size wr X9) := hide (HBr.out.trans ((HQX.out.trans (hX9.mono HQX.out.size)).mono HBr.out.size))
             clear hX9 u0 u3 u4 z0 z1 z2 z3 z4; go_wp2
             exact ⟨⟨k2 + 1, id, by omega, by first | rfl | go_num, HFN, HRN, HAN, HB9W⟩, by simp [intOf]; omega⟩
            ·obtain ⟨j, hj, hmm⟩ : ∃ j, k2 = j + 1 ∧ (ts.map (fun x => x.t.id))[j]! = m2 := by
              rcases HAH2.out with ⟨e9, _⟩ | h9
              ·exact absurd e9 h0
              ·exact h9
             have g1 : decide ((k2 : Int) > 0) = true := decide_eq_true (by omega)
             have g2 : decide (k2 > 0) = true := decide_eq_true (by omega)
             have g3 : IntKind.i64.wrap ((k2 : Int) - 1) = (j : Int) := by rw [IntKind.wrap_i64]; omega
             have hjt : j < ts.length := by omega
             obtain ⟨y, hy⟩ : ∃ y, ts[j]! = y := ⟨_, rfl⟩
             obtain ⟨ga, oa, e9, _, a1, _, _, _, _⟩ := TL.at HTs.out hjt hy
             rw [HPP.out] at e9
             simp only [Option.some.injEq, Addr.mk.injEq, and_true] at e9
             obtain ⟨rfl, rfl⟩ := e9
             rw [ids_take hjt hy] at hmm
             rw [hmm] at a1
             have a1 := cell_later HQX.out a1
             have hjd : j < tn := by omega
             have q3 : decide ((j : Int) < (tn : Int)) = true := decide_eq_true (by omega)
             have q4 : decide (j < tn) = true := decide_eq_true hjd
             have HJ := hide hj; clear hmm hj h0 hy hjt hlt2
             obtain ⟨sb, hsb⟩ : ∃ sb, decide (id ≤ m2) = sb := ⟨_, rfl⟩
             have HSB := hide hsb
             go_upto_region 15 with fail
             rw [← hX]
             try rw [htB]
             clear hX htB b0 b1 b2 b3 b4 v4
             have HX0 : Hid (Below X.heap.size X X.drew) := hide (Below.refl _ X).drew
             have HFA := hide (fun (w9 : World) (hSw : Below X.heap.size X w9) => And.intro (cell_later hSw z0) (And.intro (cell_later hSw z1) (And.intro (cell_later hSw z2) (And.intro (cell_later hSw z3) (And.intro (cell_later hSw z4) (And.intro (cell_later hSw u0) (And.intro (cell_later hSw u3) (And.intro (cell_later hSw u4) (cell_later hSw a1)))))))))
             refine wp_region_held_drew (S := fun w9 => Below X.heap.size X w9) (by kernel_rfl) HX0.out (fun hHeld => ?_)
             refine tk 0 90 ?_ rfl rfl (by kernel_rfl) (fun _ _ _ h => h) (by assumption) ?_ ?_; rotate_left
             ·intro w hSw; go_simp; all_goals with_reducible rfl
             simp only [Act.put]
             refine tk 1 91 ?_ rfl rfl (by kernel_rfl) (fun _ _ _ h => h) (by assumption) ?_ ?_; rotate_left
             ·intro w hSw; obtain ⟨l0, l1, l2, l3, l4, p0, p3, p4, c1⟩ := HFA.out w hSw; go_simp; all_goals with_reducible rfl
             simp only [Act.put]
             refine rk (i := 2) (o := _) rfl (by kernel_rfl) (by kernel_rfl) (fun K hK => ?_)
             obtain ⟨l0, l1, l2, l3, l4, p0, p3, p4, c1⟩ := HFA.out _ HX0.out
             go_simp
             refine (rMay_any (parts := (n : Int)) (cellB (below_box HX0.out HPX.out.box) rfl) (NRow.later HXN.out (HQX.out.trans (HX0.out.mono HQX.out.size))) rfl rfl (decide_eq_true HM.out)).mono ?_
             rintro _ x1 ⟨rfl, b0⟩
             have HX1 : Hid (Below X.heap.size X x1) := hide (HX0.out.trans (b0.mono HX0.out.size))
             clear b0; clear l0 l1 l2 l3 l4 p0 p3 p4 c1
             go_wp2_with fail
             refine hK.out _ _ HX1.out (fun hHeld => ?_)
             clear hK
             refine tk 3 93 ?_ rfl rfl (by kernel_rfl) (fun _ _ _ h => h) (by assumption) ?_ ?_; rotate_left
             ·intro w hSw; go_simp; all_goals with_reducible rfl
             simp only [Act.put]
             refine tk 4 94 ?_ rfl rfl (by kernel_rfl) (fun _ _ _ h => h) (by assumption) ?_ ?_; rotate_left
             ·intro w hSw; go_simp; all_goals with_reducible rfl
             simp only [Act.put]
             refine tk 5 95 ?_ rfl rfl (by kernel_rfl) (fun _ _ _ h => h) (by assumption) ?_ ?_; rotate_left
             ·intro w hSw; go_simp; all_goals with_reducible rfl
             simp only [Act.put]
             refine tk 6 96 ?_ rfl rfl (by kernel_rfl) (fun _ _ _ h => h) (by assumption) ?_ ?_; rotate_left
             ·intro w hSw; obtain ⟨l0, l1, l2, l3, l4, p0, p3, p4, c1⟩ := HFA.out w hSw; go_simp; all_goals with_reducible rfl
             simp only [Act.put]
             refine tk 7 97 ?_ rfl rfl (by kernel_rfl) (fun _ _ _ h => h) (by assumption) ?_ ?_; rotate_left
             ·intro w hSw; go_simp; all_goals with_reducible rfl
             simp only [Act.put]
             refine tk 8 98 ?_ rfl rfl (by kernel_rfl) (fun _ _ _ h => h) (by assumption) ?_ ?_; rotate_left
             ·intro w hSw; obtain ⟨l0, l1, l2, l3, l4, p0, p3, p4, c1⟩ := HFA.out w hSw; go_simp; all_goals with_reducible rfl
             simp only [Act.put]
             refine tk 9 99 ?_ rfl rfl (by kernel_rfl) (fun _ _ _ h => h) (by assumption) ?_ ?_; rotate_left
             ·intro w hSw; go_simp; all_goals with_reducible rfl
             simp only [Act.put]
             refine tk 10 100 ?_ rfl rfl (by kernel_rfl) (fun _ _ _ h => h) (by assumption) ?_ ?_; rotate_left
             ·intro w hSw; go_simp; all_goals with_reducible rfl
             simp only [Act.put]
             refine tk 11 101 ?_ rfl rfl (by kernel_rfl) (fun _ _ _ h => h) (by assumption) ?_ ?_; rotate_left
             ·intro w hSw; go_simp; all_goals with_reducible rfl
             simp only [Act.put]
             refine tk 12 102 ?_ rfl rfl (by kernel_rfl) (fun _ _ _ h => h) (by assumption) ?_ ?_; rotate_left
             ·intro w hSw; go_simp; all_goals with_reducible rfl
             simp only [Act.put]
             refine tk 13 103 ?_ rfl rfl (by kernel_rfl) (fun _ _ _ h => h) (by assumption) ?_ ?_; rotate_left
             ·intro w hSw; obtain ⟨l0, l1, l2, l3, l4, p0, p3, p4, c1⟩ := HFA.out w hSw; go_simp; all_goals with_reducible rfl
             simp only [Act.put]
             refine tk 14 104 ?_ rfl rfl (by kernel_rfl) (fun _ _ _ h => h) (by assumption) ?_ ?_; rotate_left
             ·intro w hSw; go_simp; all_goals with_reducible rfl
             simp only [Act.put]
             refine tk 15 105 ?_ rfl rfl (by kernel_rfl) (fun _ _ _ h => h) (by assumption) ?_ ?_; rotate_left
             ·intro w hSw; obtain ⟨l0, l1, l2, l3, l4, p0, p3, p4, c1⟩ := HFA.out w hSw; go_simp; all_goals with_reducible rfl
             simp only [Act.put]
             refine rk (i := 16) (o := _) rfl (by kernel_rfl) (by kernel_rfl) (fun K hK => ?_)
             obtain ⟨l0, l1, l2, l3, l4, p0, p3, p4, c1⟩ := HFA.out _ HX1.out
             go_simp
             refine (hasInt_any (NRow.later HDS.out (HQX.out.trans (HX1.out.mono HQX.out.size))) HDN.out (decide_eq_false HI.out)).mono ?_
             rintro _ x2 ⟨rfl, b0⟩
             have HX2 : Hid (Below X.heap.size X x2) := hide (HX1.out.trans (b0.mono HX1.out.size))
             clear b0; clear l0 l1 l2 l3 l4 p0 p3 p4 c1
             go_wp2_with fail
             refine hK.out _ _ HX2.out (fun hHeld => ?_)
             clear hK
             refine tk 17 107 ?_ rfl rfl (by kernel_rfl) (fun _ _ _ h => h) (by assumption) ?_ ?_; rotate_left
             ·intro w hSw; go_simp; all_goals with_reducible rfl
             simp only [Act.put]
             refine tk 18 108 ?_ rfl rfl (by kernel_rfl) (fun _ _ _ h => h) (by assumption) ?_ ?_; rotate_left
             ·intro w hSw; go_simp; all_goals with_reducible rfl
             simp only [Act.put]
             refine tk 19 109 ?_ rfl rfl (by kernel_rfl) (fun _ _ _ h => h) (by assumption) ?_ ?_; rotate_left
             ·intro w hSw; go_simp; all_goals with_reducible rfl
             simp only [Act.put]
             refine tk 20 110 ?_ rfl rfl (by kernel_rfl) (fun _ _ _ h => h) (by assumption) ?_ ?_; rotate_left
             ·intro w hSw; go_simp; all_goals with_reducible rfl
             simp only [Act.put]
             refine tk 21 111 ?_ rfl rfl (by kernel_rfl) (fun _ _ _ h => h) (by assumption) ?_ ?_; rotate_left
             ·intro w hSw; go_simp; all_goals with_reducible rfl
             simp only [Act.put]
             refine tk 22 112 ?_ rfl rfl (by kernel_rfl) (fun _ _ _ h => h) (by assumption) ?_ ?_; rotate_left
             ·intro w hSw; go_simp; all_goals with_reducible rfl
             simp only [Act.put]
             refine tk 23 113 ?_ rfl rfl (by kernel_rfl) (fun _ _ _ h => h) (by assumption) ?_ ?_; rotate_left
             ·intro w hSw; obtain ⟨l0, l1, l2, l3, l4, p0, p3, p4, c1⟩ := HFA.out w hSw; go_simp; all_goals with_reducible rfl
             simp only [Act.put]
             refine tk 24 114 ?_ rfl rfl (by kernel_rfl) (fun _ _ _ h => h) (by assumption) ?_ ?_; rotate_left
             ·intro w hSw; go_simp; all_goals with_reducible rfl
             simp only [Act.put]
             refine tk 25 115 ?_ rfl rfl (by kernel_rfl) (fun _ _ _ h => h) (by assumption) ?_ ?_; rotate_left
             ·intro w hSw; obtain ⟨l0, l1, l2, l3, l4, p0, p3, p4, c1⟩ := HFA.out w hSw; go_simp; all_goals with_reducible rfl
             simp only [Act.put]
             refine tk 26 116 ?_ rfl rfl (by kernel_rfl) (fun _ _ _ h => h) (by assumption) ?_ ?_; rotate_left
             ·intro w hSw; go_simp; all_goals with_reducible rfl
             simp only [Act.put]
             refine tk 27 117 ?_ rfl rfl (by kernel_rfl) (fun _ _ _ h => h) (by assumption) ?_ ?_; rotate_left
             ·intro w hSw; go_simp; all_goals with_reducible rfl
             simp only [Act.put]
             refine tk 28 118 ?_ rfl rfl (by kernel_rfl) (fun _ _ _ h => h) (by assumption) ?_ ?_; rotate_left
             ·intro w hSw; go_simp; all_goals with_reducible rfl
             simp only [Act.put]
             refine tk 29 119 ?_ rfl rfl (by kernel_rfl) (fun _ _ _ h => h) (by assumption) ?_ ?_; rotate_left
             ·intro w hSw; go_simp; all_goals with_reducible rfl
             simp only [Act.put]
             refine tk 30 120 ?_ rfl rfl (by kernel_rfl) (fun _ _ _ h => h) (by assumption) ?_ ?_; rotate_left
             ·intro w hSw; obtain ⟨l0, l1, l2, l3, l4, p0, p3, p4, c1⟩ := HFA.out w hSw; go_simp; all_goals with_reducible rfl
             simp only [Act.put]
             refine tk 31 121 ?_ rfl rfl (by kernel_rfl) (fun _ _ _ h => h) (by assumption) ?_ ?_; rotate_left
             ·intro w hSw; go_simp; all_goals with_reducible rfl
             simp only [Act.put]
             refine tk 32 122 ?_ rfl rfl (by kernel_rfl) (fun _ _ _ h => h) (by assumption) ?_ ?_; rotate_left
             ·intro w hSw; go_simp; all_goals with_reducible rfl
             simp only [Act.put]
             refine rk (i := 33) (o := _) rfl (by kernel_rfl) (by kernel_rfl) (fun K hK => ?_)
             go_simp
             refine hK.out _ _ HX2.out (fun hHeld => ?_)
             clear hK
             refine wpAnyH_done (by kernel_rfl) ?_ _
             obtain ⟨X9, rfl⟩ : ∃ X9, X9 = x2 := ⟨_, rfl⟩
             have hX9 := HX2.out; clear HFA
             have HB9 : Hid (Below V.heap.size V X9) := hide (HBs.out.trans ((HQX.out.trans (hX9.mono HQX.out.size)).mono HBs.out.size))
             have HB9W : Hid (Below wr.heap.size wr X9) := hide (HBr.out.trans ((HQX.out.trans (hX9.mono HQX.out.size)).mono HBr.out.size))
             clear hX9 u0 u3 u4 z0 z1 z2 z3 z4; clear hsb a1
             cases sb with
             | true =>
              have HNO : Hid (¬ ris (ts.map (fun x => x.t.id))) := hide (HRI2.out.not HL2.out HIX.out (of_decide_eq_true HSB.out))
              go_wp2
              go_ret2
              exact .inr ⟨fun h9 => HNO.out (by have h8 := h9.pre.ids; rw [show (SK.mk reg out vec done (ts.map TP.t)).pre = ts.map TP.t from rfl, List.map_map] at h8; exact h8), rfl, HBW.out.trans (HB9.out.mono HBW.out.size)⟩
             | false =>
              have HRN : Hid (RisI (ts.map (fun x => x.t.id)) (k2 + 1) id) := hide (HRI2.out.step HL2.out HIX.out (of_decide_eq_false HSB.out) HPI.out)
              have HAN : Hid (Ahead (ts.map (fun x => x.t.id)) (k2 + 1) id) := hide (.inr ⟨k2, rfl, HIX.out⟩)
              go_wp2
              exact ⟨⟨k2 + 1, id, by omega, by first | rfl | go_num, HFN, HRN, HAN, HB9W⟩, by simp [intOf]; omega⟩
          ·have e1 : (ep != reg) = true := by simpa using he
           have HNO : Hid (¬ FitO n ⟨reg, out, vec, done, ts.map TP.t⟩) := hide (fun h9 => he (h9.may _ HME.out).2.1)
           clear hm he
           go_upto_region 15 with fail
           rw [← hX]
           try rw [htB]
           clear hX htB b0 b1 b2 b3 b4 v4
           have HX0 : Hid (Below X.heap.size X X.drew) := hide (Below.refl _ X).drew
           have HFA := hide (fun (w9 : World) (hSw : Below X.heap.size X w9) => And.intro (cell_later hSw z0) (And.intro (cell_later hSw z1) (And.intro (cell_later hSw z2) (And.intro (cell_later hSw z3) (And.intro (cell_later hSw z4) (And.intro (cell_later hSw u0) (And.intro (cell_later hSw u3) (cell_later hSw u4))))))))
           refine wp_region_held_drew (S := fun w9 => Below X.heap.size X w9) (by kernel_rfl) HX0.out (fun hHeld => ?_)
           refine tk 0 90 ?_ rfl rfl (by kernel_rfl) (fun _ _ _ h => h) (by assumption) ?_ ?_; rotate_left
           ·intro w hSw; go_simp; all_goals with_reducible rfl
           simp only [Act.put]
           refine tk 1 91 ?_ rfl rfl (by kernel_rfl) (fun _ _ _ h => h) (by assumption) ?_ ?_; rotate_left
           ·intro w hSw; obtain ⟨l0, l1, l2, l3, l4, p0, p3, p4⟩ := HFA.out w hSw; go_simp; all_goals with_reducible rfl
           simp only [Act.put]
           refine rk (i := 2) (o := _) rfl (by kernel_rfl) (by kernel_rfl) (fun K hK => ?_)
           obtain ⟨l0, l1, l2, l3, l4, p0, p3, p4⟩ := HFA.out _ HX0.out
           go_simp
           refine (rMay_any (parts := (n : Int)) (cellB (below_box HX0.out HPX.out.box) rfl) (NRow.later HXN.out (HQX.out.trans (HX0.out.mono HQX.out.size))) rfl rfl (decide_eq_true HM.out)).mono ?_
           rintro _ x1 ⟨rfl, b0⟩
           have HX1 : Hid (Below X.heap.size X x1) := hide (HX0.out.trans (b0.mono HX0.out.size))
           clear b0; clear l0 l1 l2 l3 l4 p0 p3 p4
           go_wp2_with fail
           refine hK.out _ _ HX1.out (fun hHeld => ?_)
           clear hK
           refine tk 3 93 ?_ rfl rfl (by kernel_rfl) (fun _ _ _ h => h) (by assumption) ?_ ?_; rotate_left
           ·intro w hSw; go_simp; all_goals with_reducible rfl
           simp only [Act.put]
           refine tk 4 94 ?_ rfl rfl (by kernel_rfl) (fun _ _ _ h => h) (by assumption) ?_ ?_; rotate_left
           ·intro w hSw; go_simp; all_goals with_reducible rfl
           simp only [Act.put]
           refine tk 5 95 ?_ rfl rfl (by kernel_rfl) (fun _ _ _ h => h) (by assumption) ?_ ?_; rotate_left
           ·intro w hSw; go_simp; all_goals with_reducible rfl
           simp only [Act.put]
           refine tk 6 96 ?_ rfl rfl (by kernel_rfl) (fun _ _ _ h => h) (by assumption) ?_ ?_; rotate_left
           ·intro w hSw; obtain ⟨l0, l1, l2, l3, l4, p0, p3, p4⟩ := HFA.out w hSw; go_simp; all_goals with_reducible rfl
           simp only [Act.put]
           refine tk 7 97 ?_ rfl rfl (by kernel_rfl) (fun _ _ _ h => h) (by assumption) ?_ ?_; rotate_left
           ·intro w hSw; go_simp; all_goals with_reducible rfl
           simp only [Act.put]
           refine tk 8 98 ?_ rfl rfl (by kernel_rfl) (fun _ _ _ h => h) (by assumption) ?_ ?_; rotate_left
           ·intro w hSw; obtain ⟨l0, l1, l2, l3, l4, p0, p3, p4⟩ := HFA.out w hSw; go_simp; all_goals with_reducible rfl
           simp only [Act.put]
           refine tk 9 99 ?_ rfl rfl (by kernel_rfl) (fun _ _ _ h => h) (by assumption) ?_ ?_; rotate_left
           ·intro w hSw; go_simp; all_goals with_reducible rfl
           simp only [Act.put]
           refine tk 10 100 ?_ rfl rfl (by kernel_rfl) (fun _ _ _ h => h) (by assumption) ?_ ?_; rotate_left
           ·intro w hSw; go_simp; all_goals with_reducible rfl
           simp only [Act.put]
           refine tk 11 101 ?_ rfl rfl (by kernel_rfl) (fun _ _ _ h => h) (by assumption) ?_ ?_; rotate_left
           ·intro w hSw; go_simp; all_goals with_reducible rfl
           simp only [Act.put]
           refine sk 12 102 rfl rfl (by kernel_rfl) (fun _ _ _ h => h) (by assumption) ?_
           simp only [Act.put]
           refine sk 13 103 rfl rfl (by kernel_rfl) (fun _ _ _ h => h) (by assumption) ?_
           simp only [Act.put]
           refine sk 14 104 rfl rfl (by kernel_rfl) (fun _ _ _ h => h) (by assumption) ?_
           simp only [Act.put]
           refine sk 15 105 rfl rfl (by kernel_rfl) (fun _ _ _ h => h) (by assumption) ?_
           simp only [Act.put]
           refine sk 16 106 rfl rfl (by kernel_rfl) (fun _ _ _ h => h) (by assumption) ?_
           simp only [Act.put]
           refine tk 17 107 ?_ rfl rfl (by kernel_rfl) (fun _ _ _ h => h) (by assumption) ?_ ?_; rotate_left
           ·intro w hSw; go_simp; all_goals with_reducible rfl
           simp only [Act.put]
           refine tk 18 108 ?_ rfl rfl (by kernel_rfl) (fun _ _ _ h => h) (by assumption) ?_ ?_; rotate_left
           ·intro w hSw; go_simp; all_goals with_reducible rfl
           simp only [Act.put]
           refine sk 19 109 rfl rfl (by kernel_rfl) (fun _ _ _ h => h) (by assumption) ?_
           simp only [Act.put]
           refine sk 20 110 rfl rfl (by kernel_rfl) (fun _ _ _ h => h) (by assumption) ?_
           simp only [Act.put]
           refine sk 21 111 rfl rfl (by kernel_rfl) (fun _ _ _ h => h) (by assumption) ?_
           simp only [Act.put]
           refine sk 22 112 rfl rfl (by kernel_rfl) (fun _ _ _ h => h) (by assumption) ?_
           simp only [Act.put]
           refine sk 23 113 rfl rfl (by kernel_rfl) (fun _ _ _ h => h) (by assumption) ?_
           simp only [Act.put]
           refine sk 24 114 rfl rfl (by kernel_rfl) (fun _ _ _ h => h) (by assumption) ?_
           simp only [Act.put]
           refine sk 25 115 rfl rfl (by kernel_rfl) (fun _ _ _ h => h) (by assumption) ?_
           simp only [Act.put]
           refine sk 26 116 rfl rfl (by kernel_rfl) (fun _ _ _ h => h) (by assumption) ?_
           simp only [Act.put]
           refine sk 27 117 rfl rfl (by kernel_rfl) (fun _ _ _ h => h) (by assumption) ?_
           simp only [Act.put]
           refine sk 28 118 rfl rfl (by kernel_rfl) (fun _ _ _ h => h) (by assumption) ?_
           simp only [Act.put]
           refine sk 29 119 rfl rfl (by kernel_rfl) (fun _ _ _ h => h) (by assumption) ?_
           simp only [Act.put]
           refine sk 30 120 rfl rfl (by kernel_rfl) (fun _ _ _ h => h) (by assumption) ?_
           simp only [Act.put]
           refine sk 31 121 rfl rfl (by kernel_rfl) (fun _ _ _ h => h) (by assumption) ?_
           simp only [Act.put]
           refine sk 32 122 rfl rfl (by kernel_rfl) (fun _ _ _ h => h) (by assumption) ?_
           simp only [Act.put]
           refine rk (i := 33) (o := _) rfl (by kernel_rfl) (by kernel_rfl) (fun K hK => ?_)
           go_simp
           refine hK.out _ _ HX1.out (fun hHeld => ?_)
           clear hK
           refine wpAnyH_done (by kernel_rfl) ?_ _
           obtain ⟨X9, rfl⟩ : ∃ X9, X9 = x1 := ⟨_, rfl⟩
           have hX9 := HX1.out; clear HFA
           have HB9 : Hid (Below V.heap.size V X9) := hide (HBs.out.trans ((HQX.out.trans (hX9.mono HQX.out.size)).mono HBs.out.size))
           have HB9W : Hid (Below wr.heap.size wr X9) := hide (HBr.out.trans ((HQX.out.trans (hX9.mono HQX.out.size)).mono HBr.out.size))
           clear hX9 u0 u3 u4 z0 z1 z2 z3 z4; go_wp2
           go_ret2
           exact .inr ⟨fun h9 => HNO.out h9.pre, rfl, HBW.out.trans (HB9.out.mono HBW.out.size)⟩
         ·have HM := hide hm
          have HNO : Hid (¬ FitO n ⟨reg, out, vec, done, ts.map TP.t⟩) := hide (fun h9 => hm (h9.may _ HME.out).1)
          clear hm
          go_upto_region 15 with fail
          rw [← hX]
          try rw [htB]
          clear hX htB b0 b1 b2 b3 b4 v4
          have HX0 : Hid (Below X.heap.size X X.drew) := hide (Below.refl _ X).drew
          have HFA := hide (fun (w9 : World) (hSw : Below X.heap.size X w9) => And.intro (cell_later hSw z0) (And.intro (cell_later hSw z1) (And.intro (cell_later hSw z2) (And.intro (cell_later hSw z3) (And.intro (cell_later hSw z4) (And.intro (cell_later hSw u0) (And.intro (cell_later hSw u3) (cell_later hSw u4))))))))
          refine wp_region_held_drew (S := fun w9 => Below X.heap.size X w9) (by kernel_rfl) HX0.out (fun hHeld => ?_)
          refine tk 0 90 ?_ rfl rfl (by kernel_rfl) (fun _ _ _ h => h) (by assumption) ?_ ?_; rotate_left
          ·intro w hSw; go_simp; all_goals with_reducible rfl
          simp only [Act.put]
          refine tk 1 91 ?_ rfl rfl (by kernel_rfl) (fun _ _ _ h => h) (by assumption) ?_ ?_; rotate_left
          ·intro w hSw; obtain ⟨l0, l1, l2, l3, l4, p0, p3, p4⟩ := HFA.out w hSw; go_simp; all_goals with_reducible rfl
          simp only [Act.put]
          refine rk (i := 2) (o := _) rfl (by kernel_rfl) (by kernel_rfl) (fun K hK => ?_)
          obtain ⟨l0, l1, l2, l3, l4, p0, p3, p4⟩ := HFA.out _ HX0.out
          go_simp
          refine (rMay_any (parts := (n : Int)) (cellB (below_box HX0.out HPX.out.box) rfl) (NRow.later HXN.out (HQX.out.trans (HX0.out.mono HQX.out.size))) rfl rfl (decide_eq_false HM.out)).mono ?_
          rintro _ x1 ⟨rfl, b0⟩
          have HX1 : Hid (Below X.heap.size X x1) := hide (HX0.out.trans (b0.mono HX0.out.size))
          clear b0; clear l0 l1 l2 l3 l4 p0 p3 p4
          go_wp2_with fail
          refine hK.out _ _ HX1.out (fun hHeld => ?_)
          clear hK
          refine tk 3 93 ?_ rfl rfl (by kernel_rfl) (fun _ _ _ h => h) (by assumption) ?_ ?_; rotate_left
          ·intro w hSw; go_simp; all_goals with_reducible rfl
          simp only [Act.put]
          refine tk 4 94 ?_ rfl rfl (by kernel_rfl) (fun _ _ _ h => h) (by assumption) ?_ ?_; rotate_left
          ·intro w hSw; go_simp; all_goals with_reducible rfl
          simp only [Act.put]
          refine sk 5 95 rfl rfl (by kernel_rfl) (fun _ _ _ h => h) (by assumption) ?_
          simp only [Act.put]
          refine sk 6 96 rfl rfl (by kernel_rfl) (fun _ _ _ h => h) (by assumption) ?_
          simp only [Act.put]
          refine sk 7 97 rfl rfl (by kernel_rfl) (fun _ _ _ h => h) (by assumption) ?_
          simp only [Act.put]
          refine sk 8 98 rfl rfl (by kernel_rfl) (fun _ _ _ h => h) (by assumption) ?_
          simp only [Act.put]
          refine sk 9 99 rfl rfl (by kernel_rfl) (fun _ _ _ h => h) (by assumption) ?_
          simp only [Act.put]
          refine tk 10 100 ?_ rfl rfl (by kernel_rfl) (fun _ _ _ h => h) (by assumption) ?_ ?_; rotate_left
          ·intro w hSw; go_simp; all_goals with_reducible rfl
          simp only [Act.put]
          refine tk 11 101 ?_ rfl rfl (by kernel_rfl) (fun _ _ _ h => h) (by assumption) ?_ ?_; rotate_left
          ·intro w hSw; go_simp; all_goals with_reducible rfl
          simp only [Act.put]
          refine sk 12 102 rfl rfl (by kernel_rfl) (fun _ _ _ h => h) (by assumption) ?_
          simp only [Act.put]
          refine sk 13 103 rfl rfl (by kernel_rfl) (fun _ _ _ h => h) (by assumption) ?_
          simp only [Act.put]
          refine sk 14 104 rfl rfl (by kernel_rfl) (fun _ _ _ h => h) (by assumption) ?_
          simp only [Act.put]
          refine sk 15 105 rfl rfl (by kernel_rfl) (fun _ _ _ h => h) (by assumption) ?_
          simp only [Act.put]
          refine sk 16 106 rfl rfl (by kernel_rfl) (fun _ _ _ h => h) (by assumption) ?_
          simp only [Act.put]
          refine tk 17 107 ?_ rfl rfl (by kernel_rfl) (fun _ _ _ h => h) (by assumption) ?_ ?_; rotate_left
          ·intro w hSw; go_simp; all_goals with_reducible rfl
          simp only [Act.put]
          refine tk 18 108 ?_ rfl rfl (by kernel_rfl) (fun _ _ _ h => h) (by assumption) ?_ ?_; rotate_left
          ·intro w hSw; go_simp; all_goals with_reducible rfl
          simp only [Act.put]
          refine sk 19 109 rfl rfl (by kernel_rfl) (fun _ _ _ h => h) (by assumption) ?_
          simp only [Act.put]
          refine sk 20 110 rfl rfl (by kernel_rfl) (fun _ _ _ h => h) (by assumption) ?_
          simp only [Act.put]
          refine sk 21 111 rfl rfl (by kernel_rfl) (fun _ _ _ h => h) (by assumption) ?_
          simp only [Act.put]
          refine sk 22 112 rfl rfl (by kernel_rfl) (fun _ _ _ h => h) (by assumption) ?_
          simp only [Act.put]
          refine sk 23 113 rfl rfl (by kernel_rfl) (fun _ _ _ h => h) (by assumption) ?_
          simp only [Act.put]
          refine sk 24 114 rfl rfl (by kernel_rfl) (fun _ _ _ h => h) (by assumption) ?_
          simp only [Act.put]
          refine sk 25 115 rfl rfl (by kernel_rfl) (fun _ _ _ h => h) (by assumption) ?_
          simp only [Act.put]
          refine sk 26 116 rfl rfl (by kernel_rfl) (fun _ _ _ h => h) (by assumption) ?_
          simp only [Act.put]
          refine sk 27 117 rfl rfl (by kernel_rfl) (fun _ _ _ h => h) (by assumption) ?_
          simp only [Act.put]
          refine sk 28 118 rfl rfl (by kernel_rfl) (fun _ _ _ h => h) (by assumption) ?_
          simp only [Act.put]
          refine sk 29 119 rfl rfl (by kernel_rfl) (fun _ _ _ h => h) (by assumption) ?_
          simp only [Act.put]
          refine sk 30 120 rfl rfl (by kernel_rfl) (fun _ _ _ h => h) (by assumption) ?_
          simp only [Act.put]
          refine sk 31 121 rfl rfl (by kernel_rfl) (fun _ _ _ h => h) (by assumption) ?_
          simp only [Act.put]
          refine sk 32 122 rfl rfl (by kernel_rfl) (fun _ _ _ h => h) (by assumption) ?_
          simp only [Act.put]
          refine rk (i := 33) (o := _) rfl (by kernel_rfl) (by kernel_rfl) (fun K hK => ?_)
          go_simp
          refine hK.out _ _ HX1.out (fun hHeld => ?_)
          clear hK
          refine wpAnyH_done (by kernel_rfl) ?_ _
          obtain ⟨X9, rfl⟩ : ∃ X9, X9 = x1 := ⟨_, rfl⟩
          have hX9 := HX1.out; clear HFA
          have HB9 : Hid (Below V.heap.size V X9) := hide (HBs.out.trans ((HQX.out.trans (hX9.mono HQX.out.size)).mono HBs.out.size))
          have HB9W : Hid (Below wr.heap.size wr X9) := hide (HBr.out.trans ((HQX.out.trans (hX9.mono HQX.out.size)).mono HBr.out.size))
          clear hX9 u0 u3 u4 z0 z1 z2 z3 z4; go_wp2
          go_ret2
          exact .inr ⟨fun h9 => HNO.out h9.pre, rfl, HBW.out.trans (HB9.out.mono HBW.out.size)⟩
        ·obtain rfl : tn = k2 := by omega
         have hall : ts.take tn = ts := List.take_of_length_le (by rw [HTN.out]; exact Nat.le_refl _)
         have hFO := HFO.out
         rw [hall] at hFO
         have HFI : Hid (FitO n ⟨reg, out, vec, done, ts.map TP.t⟩) := hide ⟨by show (ts.map TP.t).length ≤ 8; rw [List.length_map, HTN.out]; exact HC4.out, hFO, by
          have h9 := HRI2.out.end_ (by rw [List.length_map, HTN.out]; exact Nat.le_refl _)
          show ris ((ts.map TP.t).map TX.id)
          rw [List.map_map]
          exact h9⟩
         have HVC : Hid (q0.vec = List.replicate n 0) := hide (congrArg SK.vec HS0.out)
         have r3 : ws.cell? ⟨b, 3, none⟩ = some (.slice q0.vp q0.vec.length q0.vc) := cellB HPs.out.box rfl
         rw [HVC.out, List.length_replicate] at r3
         clear hall hFO
         go_upto_region 17 with fail
         go_cut [149] from 124 to 150 (fun s wd => ∃ c : Bool, s = .bool c ∧ Hid (c = true → ¬ Fit n ⟨reg, out, vec, done, ts.map TP.t⟩) ∧ Hid (c = false → Fit n ⟨reg, out, vec, done, ts.map TP.t⟩) ∧ Hid (Below ws.heap.size ws wd))
         case first =>
          by_cases hz : reg = 0
          ·have d0 : (reg == 0) = true := by simpa using hz
           have HZ0 := hide hz; clear hz
           by_cases ho : on = 0
           ·have d1 : decide ((on : Int) > 0) = false := decide_eq_false (by omega)
            have d1' : decide (on > 0) = false := decide_eq_false (by omega)
            by_cases hdz : dn = 0
            ·have d2 : decide ((dn : Int) > 0) = false := decide_eq_false (by omega)
             have d2' : decide (dn > 0) = false := decide_eq_false (by omega)
             have HO0 := hide ho; have HD0 := hide hdz; clear ho hdz
             obtain ⟨ra, hra⟩ : ∃ ra, aboveC (List.replicate n 0) vec = ra := ⟨_, rfl⟩
             have HRA := hide hra
             have HNF : Hid (ra = false → ¬ Fit n ⟨reg, out, vec, done, ts.map TP.t⟩) := hide (fun h8 h9 => absurd ((zeros_above HC3.out).2 (h9.zero HZ0.out).2.2.2) (by rw [HRA.out, h8]; decide))
             have HFT : Hid (ra = true → Fit n ⟨reg, out, vec, done, ts.map TP.t⟩) := hide (fun h8 => ⟨.inl HZ0.out, by show out.length ≤ 4096; rw [HO.out]; exact HC2.out, HC3.out, HRD.out, HFI.out, fun _ => by
               have hp0 : ts = [] := by
                 cases ts with
                 | nil => rfl
                 | cons y l =>
                   have h9 := HFI.out.may y.t (by simp)
                   have h8 : 1 ≤ y.t.ep := h9.1.1.1
                   have h7 : y.t.ep = reg := h9.2.1
                   rw [HZ0.out] at h7
                   omega
               refine ⟨List.eq_nil_of_length_eq_zero (by rw [HO.out]; exact HO0.out), List.eq_nil_of_length_eq_zero (by rw [HDN.out]; exact HD0.out), ?_, (zeros_above HC3.out).1 (by rw [HRA.out, h8])⟩
               show ts.map TP.t = []
               rw [hp0]
               rfl⟩)
             clear hra
             have HX0 : Hid (Below ws.heap.size ws ws.drew) := hide (Below.refl _ ws).drew
             have HFA := hide (fun (w9 : World) (hSw : Below ws.heap.size ws w9) => And.intro (cell_later hSw v0) (And.intro (cell_later hSw v1) (And.intro (cell_later hSw v2) (And.intro (cell_later hSw v3) (cell_later hSw r3)))))
             refine wp_region_held_drew (S := fun w9 => Below ws.heap.size ws w9) (by kernel_rfl) HX0.out (fun hHeld => ?_)
             refine tk 0 124 ?_ rfl rfl (by kernel_rfl) (fun _ _ _ h => h) (by assumption) ?_ ?_; rotate_left
             ·intro w hSw; go_simp; all_goals with_reducible rfl
             simp only [Act.put]
             refine tk 1 125 ?_ rfl rfl (by kernel_rfl) (fun _ _ _ h => h) (by assumption) ?_ ?_; rotate_left
             ·intro w hSw; obtain ⟨p0, p1, p2, p3, p5⟩ := HFA.out w hSw; go_simp; all_goals with_reducible rfl
             simp only [Act.put]
             refine tk 2 126 ?_ rfl rfl (by kernel_rfl) (fun _ _ _ h => h) (by assumption) ?_ ?_; rotate_left
             ·intro w hSw; go_simp; all_goals with_reducible rfl
             simp only [Act.put]
             refine tk 3 127 ?_ rfl rfl (by kernel_rfl) (fun _ _ _ h => h) (by assumption) ?_ ?_; rotate_left
             ·intro w hSw; go_simp; all_goals with_reducible rfl
             simp only [Act.put]
             refine tk 4 128 ?_ rfl rfl (by kernel_rfl) (fun _ _ _ h => h) (by assumption) ?_ ?_; rotate_left
             ·intro w hSw; go_simp; all_goals with_reducible rfl
             simp only [Act.put]
             refine tk 5 129 ?_ rfl rfl (by kernel_rfl) (fun _ _ _ h => h) (by assumption) ?_ ?_; rotate_left
             ·intro w hSw; obtain ⟨p0, p1, p2, p3, p5⟩ := HFA.out w hSw; go_simp; all_goals with_reducible rfl
             simp only [Act.put]
             refine tk 6 130 ?_ rfl rfl (by kernel_rfl) (fun _ _ _ h => h) (by assumption) ?_ ?_; rotate_left
             ·intro w hSw; go_simp; all_goals with_reducible rfl
             simp only [Act.put]
             refine tk 7 131 ?_ rfl rfl (by kernel_rfl) (fun _ _ _ h => h) (by assumption) ?_ ?_; rotate_left
             ·intro w hSw; go_simp; all_goals with_reducible rfl
             simp only [Act.put]
             refine tk 8 132 ?_ rfl rfl (by kernel_rfl) (fun _ _ _ h => h) (by assumption) ?_ ?_; rotate_left
             ·intro w hSw; go_simp; all_goals with_reducible rfl
             simp only [Act.put]
             refine tk 9 133 ?_ rfl rfl (by kernel_rfl) (fun _ _ _ h => h) (by assumption) ?_ ?_; rotate_left
             ·intro w hSw; go_simp; all_goals with_reducible rfl
             simp only [Act.put]
             refine tk 10 134 ?_ rfl rfl (by kernel_rfl) (fun _ _ _ h => h) (by assumption) ?_ ?_; rotate_left
             ·intro w hSw; obtain ⟨p0, p1, p2, p3, p5⟩ := HFA.out w hSw; go_simp; all_goals with_reducible rfl
             simp only [Act.put]
             refine tk 11 135 ?_ rfl rfl (by kernel_rfl) (fun _ _ _ h => h) (by assumption) ?_ ?_; rotate_left
             ·intro w hSw; go_simp; all_goals with_reducible rfl
             simp only [Act.put]
             refine tk 12 136 ?_ rfl rfl (by kernel_rfl) (fun _ _ _ h => h) (by assumption) ?_ ?_; rotate_left
             ·intro w hSw; go_simp; all_goals with_reducible rfl
             simp only [Act.put]
             refine tk 13 137 ?_ rfl rfl (by kernel_rfl) (fun _ _ _ h => h) (by assumption) ?_ ?_; rotate_left
             ·intro w hSw; go_simp; all_goals with_reducible rfl
             simp only [Act.put]
             refine tk 14 138 ?_ rfl rfl (by kernel_rfl) (fun _ _ _ h => h) (by assumption) ?_ ?_; rotate_left
             ·intro w hSw; go_simp; all_goals with_reducible rfl
             simp only [Act.put]
             refine tk 15 139 ?_ rfl rfl (by kernel_rfl) (fun _ _ _ h => h) (by assumption) ?_ ?_; rotate_left
             ·intro w hSw; go_simp; all_goals with_reducible rfl
             simp only [Act.put]
             refine tk 16 140 ?_ rfl rfl (by kernel_rfl) (fun _ _ _ h => h) (by assumption) ?_ ?_; rotate_left
             ·intro w hSw; go_simp; all_goals with_reducible rfl
             simp only [Act.put]
             refine tk 17 141 ?_ rfl rfl (by kernel_rfl) (fun _ _ _ h => h) (by assumption) ?_ ?_; rotate_left
             ·intro w hSw; go_simp; all_goals with_reducible rfl
             simp only [Act.put]
             refine tk 18 142 ?_ rfl rfl (by kernel_rfl) (fun _ _ _ h => h) (by assumption) ?_ ?_; rotate_left
             ·intro w hSw; go_simp; all_goals with_reducible rfl
             simp only [Act.put]
             refine tk 19 143 ?_ rfl rfl (by kernel_rfl) (fun _ _ _ h => h) (by assumption) ?_ ?_; rotate_left
             ·intro w hSw; obtain ⟨p0, p1, p2, p3, p5⟩ := HFA.out w hSw; go_simp; all_goals with_reducible rfl
             simp only [Act.put]
             refine tk 20 144 ?_ rfl rfl (by kernel_rfl) (fun _ _ _ h => h) (by assumption) ?_ ?_; rotate_left
             ·intro w hSw; go_simp; all_goals with_reducible rfl
             simp only [Act.put]
             refine tk 21 145 ?_ rfl rfl (by kernel_rfl) (fun _ _ _ h => h) (by assumption) ?_ ?_; rotate_left
             ·intro w hSw; obtain ⟨p0, p1, p2, p3, p5⟩ := HFA.out w hSw; go_simp; all_goals with_reducible rfl
             simp only [Act.put]
             refine rk (i := 22) (o := _) rfl (by kernel_rfl) (by kernel_rfl) (fun K hK => ?_)
             obtain ⟨p0, p1, p2, p3, p5⟩ := HFA.out _ HX0.out
             go_simp
             refine (rabove_any (a := List.replicate n 0) (by have h9 := (HPs.out.own.vis.later HX0.out).vec; rw [HVC.out] at h9; exact h9) (NRow.later HN.out (HBW.out.trans ((HBs.out.trans (HX0.out.mono HBs.out.size)).mono HBW.out.size))) (List.length_replicate ..) HVN.out HRA.out).mono ?_
             rintro _ x1 ⟨rfl, b0⟩
             have HX1 : Hid (Below ws.heap.size ws x1) := hide (HX0.out.trans (b0.mono HX0.out.size))
             clear b0; clear p0 p1 p2 p3 p5
             go_wp2_with fail
             refine hK.out _ _ HX1.out (fun hHeld => ?_)
             clear hK
             refine tk 23 147 ?_ rfl rfl (by kernel_rfl) (fun _ _ _ h => h) (by assumption) ?_ ?_; rotate_left
             ·intro w hSw; go_simp; all_goals with_reducible rfl
             simp only [Act.put]
             refine tk 24 148 ?_ rfl rfl (by kernel_rfl) (fun _ _ _ h => h) (by assumption) ?_ ?_; rotate_left
             ·intro w hSw; go_simp; all_goals with_reducible rfl
             simp only [Act.put]
             refine rk (i := 25) (o := _) rfl (by kernel_rfl) (by kernel_rfl) (fun K hK => ?_)
             go_simp
             refine hK.out _ _ HX1.out (fun hHeld => ?_)
             clear hK
             refine wpAnyH_done (by kernel_rfl) ?_ _
             obtain ⟨X9, rfl⟩ : ∃ X9, X9 = x1 := ⟨_, rfl⟩
             have hX9 := HX1.out; clear HFA
             have HQ9 : Hid (Below ws.heap.size ws X9) := hide hX9
             clear hX9 v0 v1 v2 v3 v4 r3
             go_wp2_with fail
             go_meet
             case rel => exact ⟨!ra, rfl, hide (fun h8 => HNF.out (by cases ra <;> simp_all)), hide (fun h8 => HFT.out (by cases ra <;> simp_all)), HQ9⟩
            ·have d2 : decide ((dn : Int) > 0) = true := decide_eq_true (by omega)
             have d2' : decide (dn > 0) = true := decide_eq_true (by omega)
             have HD0 := hide hdz; clear ho hdz
             have HX0 : Hid (Below ws.heap.size ws ws.drew) := hide (Below.refl _ ws).drew
             have HFA := hide (fun (w9 : World) (hSw : Below ws.heap.size ws w9) => And.intro (cell_later hSw v0) (And.intro (cell_later hSw v1) (And.intro (cell_later hSw v2) (And.intro (cell_later hSw v3) (cell_later hSw r3)))))
             refine wp_region_held_drew (S := fun w9 => Below ws.heap.size ws w9) (by kernel_rfl) HX0.out (fun hHeld => ?_)
             refine tk 0 124 ?_ rfl rfl (by kernel_rfl) (fun _ _ _ h => h) (by assumption) ?_ ?_; rotate_left
             ·intro w hSw; go_simp; all_goals with_reducible rfl
             simp only [Act.put]
             refine tk 1 125 ?_ rfl rfl (by kernel_rfl) (fun _ _ _ h => h) (by assumption) ?_ ?_; rotate_left
             ·intro w hSw; obtain ⟨p0, p1, p2, p3, p5⟩ := HFA.out w hSw; go_simp; all_goals with_reducible rfl
             simp only [Act.put]
             refine tk 2 126 ?_ rfl rfl (by kernel_rfl) (fun _ _ _ h => h) (by assumption) ?_ ?_; rotate_left
             ·intro w hSw; go_simp; all_goals with_reducible rfl
             simp only [Act.put]
             refine tk 3 127 ?_ rfl rfl (by kernel_rfl) (fun _ _ _ h => h) (by assumption) ?_ ?_; rotate_left
             ·intro w hSw; go_simp; all_goals with_reducible rfl
             simp only [Act.put]
             refine tk 4 128 ?_ rfl rfl (by kernel_rfl) (fun _ _ _ h => h) (by assumption) ?_ ?_; rotate_left
             ·intro w hSw; go_simp; all_goals with_reducible rfl
             simp only [Act.put]
             refine tk 5 129 ?_ rfl rfl (by kernel_rfl) (fun _ _ _ h => h) (by assumption) ?_ ?_; rotate_left
             ·intro w hSw; obtain ⟨p0, p1, p2, p3, p5⟩ := HFA.out w hSw; go_simp; all_goals with_reducible rfl
             simp only [Act.put]
             refine tk 6 130 ?_ rfl rfl (by kernel_rfl) (fun _ _ _ h => h) (by assumption) ?_ ?_; rotate_left
             ·intro w hSw; go_simp; all_goals with_reducible rfl
             simp only [Act.put]
             refine tk 7 131 ?_ rfl rfl (by kernel_rfl) (fun _ _ _ h => h) (by assumption) ?_ ?_; rotate_left
             ·intro w hSw; go_simp; all_goals with_reducible rfl
             simp only [Act.put]
             refine tk 8 132 ?_ rfl rfl (by kernel_rfl) (fun _ _ _ h => h) (by assumption) ?_ ?_; rotate_left
             ·intro w hSw; go_simp; all_goals with_reducible rfl
             simp only [Act.put]
             refine tk 9 133 ?_ rfl rfl (by kernel_rfl) (fun _ _ _ h => h) (by assumption) ?_ ?_; rotate_left
             ·intro w hSw; go_simp; all_goals with_reducible rfl
             simp only [Act.put]
             refine tk 10 134 ?_ rfl rfl (by kernel_rfl) (fun _ _ _ h => h) (by assumption) ?_ ?_; rotate_left
             ·intro w hSw; obtain ⟨p0, p1, p2, p3, p5⟩ := HFA.out w hSw; go_simp; all_goals with_reducible rfl
             simp only [Act.put]
             refine tk 11 135 ?_ rfl rfl (by kernel_rfl) (fun _ _ _ h => h) (by assumption) ?_ ?_; rotate_left
             ·intro w hSw; go_simp; all_goals with_reducible rfl
             simp only [Act.put]
             refine tk 12 136 ?_ rfl rfl (by kernel_rfl) (fun _ _ _ h => h) (by assumption) ?_ ?_; rotate_left
             ·intro w hSw; go_simp; all_goals with_reducible rfl
             simp only [Act.put]
             refine tk 13 137 ?_ rfl rfl (by kernel_rfl) (fun _ _ _ h => h) (by assumption) ?_ ?_; rotate_left
             ·intro w hSw; go_simp; all_goals with_reducible rfl
             simp only [Act.put]
             refine tk 14 138 ?_ rfl rfl (by kernel_rfl) (fun _ _ _ h => h) (by assumption) ?_ ?_; rotate_left
             ·intro w hSw; go_simp; all_goals with_reducible rfl
             simp only [Act.put]
             refine sk 15 139 rfl rfl (by kernel_rfl) (fun _ _ _ h => h) (by assumption) ?_
             simp only [Act.put]
             refine sk 16 140 rfl rfl (by kernel_rfl) (fun _ _ _ h => h) (by assumption) ?_
             simp only [Act.put]
             refine sk 17 141 rfl rfl (by kernel_rfl) (fun _ _ _ h => h) (by assumption) ?_
             simp only [Act.put]
             refine sk 18 142 rfl rfl (by kernel_rfl) (fun _ _ _ h => h) (by assumption) ?_
             simp only [Act.put]
             refine sk 19 143 rfl rfl (by kernel_rfl) (fun _ _ _ h => h) (by assumption) ?_
             simp only [Act.put]
             refine sk 20 144 rfl rfl (by kernel_rfl) (fun _ _ _ h => h) (by assumption) ?_
             simp only [Act.put]
             refine sk 21 145 rfl rfl (by kernel_rfl) (fun _ _ _ h => h) (by assumption) ?_
             simp only [Act.put]
             refine sk 22 146 rfl rfl (by kernel_rfl) (fun _ _ _ h => h) (by assumption) ?_
             simp only [Act.put]
             refine sk 23 147 rfl rfl (by kernel_rfl) (fun _ _ _ h => h) (by assumption) ?_
             simp only [Act.put]
             refine tk 24 148 ?_ rfl rfl (by kernel_rfl) (fun _ _ _ h => h) (by assumption) ?_ ?_; rotate_left
             ·intro w hSw; go_simp; all_goals with_reducible rfl
             simp only [Act.put]
             refine rk (i := 25) (o := _) rfl (by kernel_rfl) (by kernel_rfl) (fun K hK => ?_)
             go_simp
             refine hK.out _ _ HX0.out (fun hHeld => ?_)
             clear hK
             refine wpAnyH_done (by kernel_rfl) ?_ _
             obtain ⟨X9, hXE⟩ : ∃ X9, X9 = ws.drew := ⟨_, rfl⟩
             rw [← hXE]
             have hX9 : Below ws.heap.size ws X9 := by rw [hXE]; exact HX0.out
             clear hXE; clear HFA
             have HQ9 : Hid (Below ws.heap.size ws X9) := hide hX9
             clear hX9 v0 v1 v2 v3 v4 r3
             go_wp2_with fail
             go_meet
             case rel => exact ⟨true, rfl, hide (fun _ h9 => HD0.out (by rw [← HDN.out]; have h8 : done = [] := (h9.zero HZ0.out).2.1; rw [h8]; rfl)), hide (fun h8 => by cases h8), HQ9⟩
           ·have d1 : decide ((on : Int) > 0) = true := decide_eq_true (by omega)
            have d1' : decide (on > 0) = true := decide_eq_true (by omega)
            have HO0 := hide ho; clear ho
            have HX0 : Hid (Below ws.heap.size ws ws.drew) := hide (Below.refl _ ws).drew
            have HFA := hide (fun (w9 : World) (hSw : Below ws.heap.size ws w9) => And.intro (cell_later hSw v0) (And.intro (cell_later hSw v1) (And.intro (cell_later hSw v2) (And.intro (cell_later hSw v3) (cell_later hSw r3)))))
            refine wp_region_held_drew (S := fun w9 => Below ws.heap.size ws w9) (by kernel_rfl) HX0.out (fun hHeld => ?_)
            refine tk 0 124 ?_ rfl rfl (by kernel_rfl) (fun _ _ _ h => h) (by assumption) ?_ ?_; rotate_left
            ·intro w hSw; go_simp; all_goals with_reducible rfl
            simp only [Act.put]
            refine tk 1 125 ?_ rfl rfl (by kernel_rfl) (fun _ _ _ h => h) (by assumption) ?_ ?_; rotate_left
            ·intro w hSw; obtain ⟨p0, p1, p2, p3, p5⟩ := HFA.out w hSw; go_simp; all_goals with_reducible rfl
            simp only [Act.put]
            refine tk 2 126 ?_ rfl rfl (by kernel_rfl) (fun _ _ _ h => h) (by assumption) ?_ ?_; rotate_left
            ·intro w hSw; go_simp; all_goals with_reducible rfl
            simp only [Act.put]
            refine tk 3 127 ?_ rfl rfl (by kernel_rfl) (fun _ _ _ h => h) (by assumption) ?_ ?_; rotate_left
            ·intro w hSw; go_simp; all_goals with_reducible rfl
            simp only [Act.put]
            refine tk 4 128 ?_ rfl rfl (by kernel_rfl) (fun _ _ _ h => h) (by assumption) ?_ ?_; rotate_left
            ·intro w hSw; go_simp; all_goals with_reducible rfl
            simp only [Act.put]
            refine tk 5 129 ?_ rfl rfl (by kernel_rfl) (fun _ _ _ h => h) (by assumption) ?_ ?_; rotate_left
            ·intro w hSw; obtain ⟨p0, p1, p2, p3, p5⟩ := HFA.out w hSw; go_simp; all_goals with_reducible rfl
            simp only [Act.put]
            refine tk 6 130 ?_ rfl rfl (by kernel_rfl) (fun _ _ _ h => h) (by assumption) ?_ ?_; rotate_left
            ·intro w hSw; go_simp; all_goals with_reducible rfl
            simp only [Act.put]
            refine tk 7 131 ?_ rfl rfl (by kernel_rfl) (fun _ _ _ h => h) (by assumption) ?_ ?_; rotate_left
            ·intro w hSw; go_simp; all_goals with_reducible rfl
            simp only [Act.put]
            refine tk 8 132 ?_ rfl rfl (by kernel_rfl) (fun _ _ _ h => h) (by assumption) ?_ ?_; rotate_left
            ·intro w hSw; go_simp; all_goals with_reducible rfl
            simp only [Act.put]
            refine sk 9 133 rfl rfl (by kernel_rfl) (fun _ _ _ h => h) (by assumption) ?_
            simp only [Act.put]
            refine sk 10 134 rfl rfl (by kernel_rfl) (fun _ _ _ h => h) (by assumption) ?_
            simp only [Act.put]
            refine sk 11 135 rfl rfl (by kernel_rfl) (fun _ _ _ h => h) (by assumption) ?_
            simp only [Act.put]
            refine sk 12 136 rfl rfl (by kernel_rfl) (fun _ _ _ h => h) (by assumption) ?_
            simp only [Act.put]
            refine tk 13 137 ?_ rfl rfl (by kernel_rfl) (fun _ _ _ h => h) (by assumption) ?_ ?_; rotate_left
            ·intro w hSw; go_simp; all_goals with_reducible rfl
            simp only [Act.put]
            refine tk 14 138 ?_ rfl rfl (by kernel_rfl) (fun _ _ _ h => h) (by assumption) ?_ ?_; rotate_left
            ·intro w hSw; go_simp; all_goals with_reducible rfl
            simp only [Act.put]
            refine sk 15 139 rfl rfl (by kernel_rfl) (fun _ _ _ h => h) (by assumption) ?_
            simp only [Act.put]
            refine sk 16 140 rfl rfl (by kernel_rfl) (fun _ _ _ h => h) (by assumption) ?_
            simp only [Act.put]
            refine sk 17 141 rfl rfl (by kernel_rfl) (fun _ _ _ h => h) (by assumption) ?_
            simp only [Act.put]
            refine sk 18 142 rfl rfl (by kernel_rfl) (fun _ _ _ h => h) (by assumption) ?_
            simp only [Act.put]
            refine sk 19 143 rfl rfl (by kernel_rfl) (fun _ _ _ h => h) (by assumption) ?_
            simp only [Act.put]
            refine sk 20 144 rfl rfl (by kernel_rfl) (fun _ _ _ h => h) (by assumption) ?_
            simp only [Act.put]
            refine sk 21 145 rfl rfl (by kernel_rfl) (fun _ _ _ h => h) (by assumption) ?_
            simp only [Act.put]
            refine sk 22 146 rfl rfl (by kernel_rfl) (fun _ _ _ h => h) (by assumption) ?_
            simp only [Act.put]
            refine sk 23 147 rfl rfl (by kernel_rfl) (fun _ _ _ h => h) (by assumption) ?_
            simp only [Act.put]
            refine tk 24 148 ?_ rfl rfl (by kernel_rfl) (fun _ _ _ h => h) (by assumption) ?_ ?_; rotate_left
            ·intro w hSw; go_simp; all_goals with_reducible rfl
            simp only [Act.put]
            refine rk (i := 25) (o := _) rfl (by kernel_rfl) (by kernel_rfl) (fun K hK => ?_)
            go_simp
            refine hK.out _ _ HX0.out (fun hHeld => ?_)
            clear hK
            refine wpAnyH_done (by kernel_rfl) ?_ _
            obtain ⟨X9, hXE⟩ : ∃ X9, X9 = ws.drew := ⟨_, rfl⟩
            rw [← hXE]
            have hX9 : Below ws.heap.size ws X9 := by rw [hXE]; exact HX0.out
            clear hXE; clear HFA
            have HQ9 : Hid (Below ws.heap.size ws X9) := hide hX9
            clear hX9 v0 v1 v2 v3 v4 r3
            go_wp2_with fail
            go_meet
            case rel => exact ⟨true, rfl, hide (fun _ h9 => HO0.out (by rw [← HO.out]; have h8 : out = [] := (h9.zero HZ0.out).1; rw [h8]; rfl)), hide (fun h8 => by cases h8), HQ9⟩
          ·have d0 : (reg == 0) = false := by simpa using hz
           have HFT : Hid (Fit n ⟨reg, out, vec, done, ts.map TP.t⟩) := hide ⟨.inr ⟨by have h9 : 0 ≤ reg := HC1.out.1; show 1 ≤ reg; omega, HC1.out.2⟩, by show out.length ≤ 4096; rw [HO.out]; exact HC2.out, HC3.out, HRD.out, HFI.out, fun h9 => absurd h9 hz⟩
           clear hz
           have HX0 : Hid (Below ws.heap.size ws ws.drew) := hide (Below.refl _ ws).drew
           have HFA := hide (fun (w9 : World) (hSw : Below ws.heap.size ws w9) => And.intro (cell_later hSw v0) (And.intro (cell_later hSw v1) (And.intro (cell_later hSw v2) (And.intro (cell_later hSw v3) (cell_later hSw r3)))))
           refine wp_region_held_drew (S := fun w9 => Below ws.heap.size ws w9) (by kernel_rfl) HX0.out (fun hHeld => ?_)
           refine tk 0 124 ?_ rfl rfl (by kernel_rfl) (fun _ _ _ h => h) (by assumption) ?_ ?_; rotate_left
           ·intro w hSw; go_simp; all_goals with_reducible rfl
           simp only [Act.put]
           refine tk 1 125 ?_ rfl rfl (by kernel_rfl) (fun _ _ _ h => h) (by assumption) ?_ ?_; rotate_left
           ·intro w hSw; obtain ⟨p0, p1, p2, p3, p5⟩ := HFA.out w hSw; go_simp; all_goals with_reducible rfl
           simp only [Act.put]
           refine tk 2 126 ?_ rfl rfl (by kernel_rfl) (fun _ _ _ h => h) (by assumption) ?_ ?_; rotate_left
           ·intro w hSw; go_simp; all_goals with_reducible rfl
           simp only [Act.put]
           refine tk 3 127 ?_ rfl rfl (by kernel_rfl) (fun _ _ _ h => h) (by assumption) ?_ ?_; rotate_left
           ·intro w hSw; go_simp; all_goals with_reducible rfl
           simp only [Act.put]
           refine sk 4 128 rfl rfl (by kernel_rfl) (fun _ _ _ h => h) (by assumption) ?_
           simp only [Act.put]
           refine sk 5 129 rfl rfl (by kernel_rfl) (fun _ _ _ h => h) (by assumption) ?_
           simp only [Act.put]
           refine sk 6 130 rfl rfl (by kernel_rfl) (fun _ _ _ h => h) (by assumption) ?_
           simp only [Act.put]
           refine sk 7 131 rfl rfl (by kernel_rfl) (fun _ _ _ h => h) (by assumption) ?_
           simp only [Act.put]
           refine sk 8 132 rfl rfl (by kernel_rfl) (fun _ _ _ h => h) (by assumption) ?_
           simp only [Act.put]
           refine sk 9 133 rfl rfl (by kernel_rfl) (fun _ _ _ h => h) (by assumption) ?_
           simp only [Act.put]
           refine sk 10 134 rfl rfl (by kernel_rfl) (fun _ _ _ h => h) (by assumption) ?_
           simp only [Act.put]
           refine sk 11 135 rfl rfl (by kernel_rfl) (fun _ _ _ h => h) (by assumption) ?_
           simp only [Act.put]
           refine sk 12 136 rfl rfl (by kernel_rfl) (fun _ _ _ h => h) (by assumption) ?_
           simp only [Act.put]
           refine sk 13 137 rfl rfl (by kernel_rfl) (fun _ _ _ h => h) (by assumption) ?_
           simp only [Act.put]
           refine sk 14 138 rfl rfl (by kernel_rfl) (fun _ _ _ h => h) (by assumption) ?_
           simp only [Act.put]
           refine sk 15 139 rfl rfl (by kernel_rfl) (fun _ _ _ h => h) (by assumption) ?_
           simp only [Act.put]
           refine sk 16 140 rfl rfl (by kernel_rfl) (fun _ _ _ h => h) (by assumption) ?_
           simp only [Act.put]
           refine sk 17 141 rfl rfl (by kernel_rfl) (fun _ _ _ h => h) (by assumption) ?_
           simp only [Act.put]
           refine sk 18 142 rfl rfl (by kernel_rfl) (fun _ _ _ h => h) (by assumption) ?_
           simp only [Act.put]
           refine sk 19 143 rfl rfl (by kernel_rfl) (fun _ _ _ h => h) (by assumption) ?_
           simp only [Act.put]
           refine sk 20 144 rfl rfl (by kernel_rfl) (fun _ _ _ h => h) (by assumption) ?_
           simp only [Act.put]
           refine sk 21 145 rfl rfl (by kernel_rfl) (fun _ _ _ h => h) (by assumption) ?_
           simp only [Act.put]
           refine sk 22 146 rfl rfl (by kernel_rfl) (fun _ _ _ h => h) (by assumption) ?_
           simp only [Act.put]
           refine sk 23 147 rfl rfl (by kernel_rfl) (fun _ _ _ h => h) (by assumption) ?_
           simp only [Act.put]
           refine sk 24 148 rfl rfl (by kernel_rfl) (fun _ _ _ h => h) (by assumption) ?_
           simp only [Act.put]
           refine rk (i := 25) (o := _) rfl (by kernel_rfl) (by kernel_rfl) (fun K hK => ?_)
           go_simp
           refine hK.out _ _ HX0.out (fun hHeld => ?_)
           clear hK
           refine wpAnyH_done (by kernel_rfl) ?_ _
           obtain ⟨X9, hXE⟩ : ∃ X9, X9 = ws.drew := ⟨_, rfl⟩
           rw [← hXE]
           have hX9 : Below ws.heap.size ws X9 := by rw [hXE]; exact HX0.out
           clear hXE; clear HFA
           have HQ9 : Hid (Below ws.heap.size ws X9) := hide hX9
           clear hX9 v0 v1 v2 v3 v4 r3
           go_wp2_with fail
           go_meet
           case rel => exact ⟨false, rfl, hide (fun h8 => by cases h8), hide (fun _ => HFT.out), HQ9⟩
         case rest =>
          obtain ⟨c9, rfl, HCT, HCF, HQ9⟩ := hcut
          rename World => X9
          have HB9 : Hid (Below V.heap.size V X9) := hide (HBs.out.trans (HQ9.out.mono HBs.out.size))
          cases c9 with
          | true =>
           have HNF := hide (HCT.out rfl); clear HCT HCF; go_wp2
           go_ret2
           exact .inr ⟨fun h9 => HNF.out h9, rfl, HBW.out.trans (HB9.out.mono HBW.out.size)⟩
          | false =>
           have HFT := hide (HCF.out rfl); clear HCT HCF v0 v1 v2 v3 v4 r3; have HPz := hide (HPs.out.later HQ9.out); have HVz := hide (below_box HQ9.out HVs.out)
           have HWz : Hid (Below W.heap.size W X9) := hide (HBW.out.trans (HB9.out.mono HBW.out.size))
           obtain ⟨i0, hI0, hz0, hz1, hz2⟩ := info_parts Tryz.infoTxn
           obtain ⟨i7, hI7, hq0, hq1, hq2⟩ := info_parts Tryz.infoRec
           obtain ⟨j0, hJ0, hy0, hy1, hy2⟩ := info_parts Tryz.infoN
           have hne : ¬ (bB = b) := fun e => by
            have h9 : V.heap.size ≤ b := HPz.out.ge
            have := HVL.out
            omega
           have HKB : Hid (X9.heap[b]? = some (.cells (RSrow n q0) 67 (0, 0))) := hide HPz.out.box
           have u0 := cellB HVz.out (i := 0) rfl; have u1 := cellB HVz.out (i := 1) rfl; have u2 := cellB HVz.out (i := 2) rfl; have u3 := cellB HVz.out (i := 3) rfl; have u4 := cellB HVz.out (i := 4) rfl
           have HSO : Hid (Seg X9 2 (.slice op on oc) on (out.flatMap RC.cells)) := hide (by have h9 := LRow.seg (by decide) RC.len RC.one (RRow.later HR.out HWz.out); rw [HO.out] at h9; exact h9)
           go_upto_region 21 with fail
           have HX0 : Hid (Only (· = b) X9 X9.drew) := hide ((Only.refl _ X9).drew)
           have HFA := hide (fun (w9 : World) (hSw : Only (· = b) X9 w9) => And.intro (hSw.cell u0 hne) (And.intro (hSw.cell u1 hne) (And.intro (hSw.cell u2 hne) (And.intro (hSw.cell u3 hne) (hSw.cell u4 hne)))))
           refine wp_region_held_drew (S := fun w9 => Only (· = b) X9 w9) (by kernel_rfl) HX0.out (fun hHeld => ?_)
           refine tk 0 150 ?_ rfl rfl (by kernel_rfl) (fun _ _ _ h => h) (by assumption) ?_ ?_; rotate_left
           ·intro w hSw; go_simp; all_goals with_reducible rfl
           simp only [Act.put]
           refine tk 1 151 ?_ rfl rfl (by kernel_rfl) (fun _ _ _ h => h) (by assumption) ?_ ?_; rotate_left
           ·intro w hSw; go_simp; all_goals with_reducible rfl
           simp only [Act.put]
           refine tk 2 152 ?_ rfl rfl (by kernel_rfl) (fun _ _ _ h => h) (by assumption) ?_ ?_; rotate_left
           ·intro w hSw; obtain ⟨l0, l1, l2, l3, l4⟩ := HFA.out w hSw; go_simp; all_goals with_reducible rfl
           simp only [Act.put]
           refine tk 3 153 ?_ rfl rfl (by kernel_rfl) (fun _ _ _ h => h) (by assumption) ?_ ?_; rotate_left
           ·intro w hSw; go_simp; all_goals with_reducible rfl
           simp only [Act.put]
           refine tk 4 154 ?_ rfl rfl (by kernel_rfl) (fun _ _ _ h => h) (by assumption) ?_ ?_; rotate_left
           ·intro w hSw; go_simp; all_goals with_reducible rfl
           simp only [Act.put]
           refine tk 5 155 ?_ rfl rfl (by kernel_rfl) (fun _ _ _ h => h) (by assumption) ?_ ?_; rotate_left
           ·intro w hSw; obtain ⟨l0, l1, l2, l3, l4⟩ := HFA.out w hSw; go_simp; all_goals with_reducible rfl
           simp only [Act.put]
           refine tk 7 157 ?_ rfl rfl (by kernel_rfl) (fun _ _ _ h => h) (by assumption) ?_ ?_; rotate_left
           ·intro w hSw; go_simp; all_goals with_reducible rfl
           simp only [Act.put]
           refine tk 8 158 ?_ rfl rfl (by kernel_rfl) (fun _ _ _ h => h) (by assumption) ?_ ?_; rotate_left
           ·intro w hSw; go_simp; all_goals with_reducible rfl
           simp only [Act.put]
           refine tk 9 159 ?_ rfl rfl (by kernel_rfl) (fun _ _ _ h => h) (by assumption) ?_ ?_; rotate_left
           ·intro w hSw; obtain ⟨l0, l1, l2, l3, l4⟩ := HFA.out w hSw; go_simp; all_goals with_reducible rfl
           simp only [Act.put]
           refine tk 11 161 ?_ rfl rfl (by kernel_rfl) (fun _ _ _ h => h) (by assumption) ?_ ?_; rotate_left
           ·intro w hSw; go_simp; all_goals with_reducible rfl
           simp only [Act.put]
           refine tk 12 162 ?_ rfl rfl (by kernel_rfl) (fun _ _ _ h => h) (by assumption) ?_ ?_; rotate_left
           ·intro w hSw; go_simp; all_goals with_reducible rfl
           simp only [Act.put]
           refine tk 13 163 ?_ rfl rfl (by kernel_rfl) (fun _ _ _ h => h) (by assumption) ?_ ?_; rotate_left
           ·intro w hSw; obtain ⟨l0, l1, l2, l3, l4⟩ := HFA.out w hSw; go_simp; all_goals with_reducible rfl
           simp only [Act.put]; have hdb9 := HDB.out; have hn9 := H4.out
           have hvl : vn = n := by have h9 := HC3.out.1; have h8 := HVN.out; omega
           have HVL2 := hide hvl; clear hvl
           have hvn4 : vn ≤ 4 := by have := HVL2.out; omega
           have hon4 := HC2.out
           refine rk (i := 6) (o := _) rfl (by kernel_rfl) (by kernel_rfl) (fun K hK => ?_)
           refine wp_append_cells X9.drew (.tmp 153) (.tmp 155) 22 rfl X9.heap.size 54 i7 (.agg #[.int .i64 0, .int .i64 0]) 2 16 Tryz.underlying22 hI7 hq0 hq1 hq2 rfl (by decide) (.slice none 0 0) 0 [] (by kernel_rfl) (World.ownsRow_nil _ _ _ _) (.slice op on oc) on _ (by simp only [Act.eval]; kernel_rfl) HSO.out (by unfold maxLen; omega) (by omega) (Nat.le_refl _) ?_
           intro pap pac y1 hown hgrow
           rw [Nat.zero_add, List.nil_append] at hown
           have HX1 : Hid (Below X9.heap.size X9 y1) := hide ((Below.refl _ X9).drew.grown hgrow (Nat.le_refl _) (fun i hi => by simp [Value.ownBlock] at hi))
           have HOa := hide hown
           rw [Nat.zero_add]
           clear hown hgrow
           refine hK.out _ _ (Only.fresh HX1.out _) (fun hHeld => ?_)
           clear hK
           have HSV : Hid (Seg y1 1 (.slice vp vn vc) vn (vec.flatMap intCells)) := hide (by have h9 := LRow.seg (by decide) intCells_len intCells_one (NRow.later HN.out (HWz.out.trans (HX1.out.mono HWz.out.size))); rw [HVN.out] at h9; exact h9)
           refine rk (i := 10) (o := _) rfl (by kernel_rfl) (by kernel_rfl) (fun K hK => ?_)
           refine wp_append_cells y1 (.tmp 157) (.tmp 159) 23 rfl X9.heap.size 2 j0 (.int .i64 0) 1 8 Tryz.underlying23 hJ0 hy0 hy1 hy2 rfl (by decide) (.slice none 0 0) 0 [] (by kernel_rfl) (World.ownsRow_nil _ _ _ _) (.slice vp vn vc) vn _ (by simp only [Act.eval]; kernel_rfl) HSV.out (by unfold maxLen; omega) (by omega) HX1.out.size ?_
           intro pbp pbc y2 hown hgrow
           rw [Nat.zero_add, List.nil_append] at hown
           have HX2 : Hid (Below X9.heap.size X9 y2) := hide (HX1.out.grown hgrow HX1.out.size (fun i hi => by simp [Value.ownBlock] at hi))
           have HOb := hide hown
           have HOa := hide (ownsRow_later HOa.out (show Below y1.heap.size y1 y2 from (Below.refl _ y1).grown hgrow (Nat.le_refl _) (fun i hi => by simp [Value.ownBlock] at hi)))
           rw [Nat.zero_add]
           clear hown hgrow
           refine hK.out _ _ (Only.fresh HX2.out _) (fun hHeld => ?_)
           clear hK
           have HSD : Hid (Seg y2 1 (.slice dp dn dc) dn (done.flatMap intCells)) := hide (by have h9 := LRow.seg (by decide) intCells_len intCells_one (NRow.later HD.out (HWz.out.trans (HX2.out.mono HWz.out.size))); rw [HDN.out] at h9; exact h9)
           refine rk (i := 14) (o := _) rfl (by kernel_rfl) (by kernel_rfl) (fun K hK => ?_)
           refine wp_append_cells y2 (.tmp 161) (.tmp 163) 23 rfl X9.heap.size 2 j0 (.int .i64 0) 1 8 Tryz.underlying23 hJ0 hy0 hy1 hy2 rfl (by decide) (.slice none 0 0) 0 [] (by kernel_rfl) (World.ownsRow_nil _ _ _ _) (.slice dp dn dc) dn _ (by simp only [Act.eval]; kernel_rfl) HSD.out (by unfold maxLen; omega) (by omega) HX2.out.size ?_
           intro pdp pdc y3 hown hgrow
           rw [Nat.zero_add, List.nil_append] at hown
           have HX3 : Hid (Below X9.heap.size X9 y3) := hide (HX2.out.grown hgrow HX2.out.size (fun i hi => by simp [Value.ownBlock] at hi))
           have HOc := hide hown
           have hb23 : Below y2.heap.size y2 y3 := (Below.refl _ y2).grown hgrow (Nat.le_refl _) (fun i hi => by simp [Value.ownBlock] at hi)
           have HOa := hide (ownsRow_later HOa.out hb23); have HOb := hide (ownsRow_later HOb.out hb23)
           rw [Nat.zero_add]
           clear hown hgrow hb23
           refine hK.out _ _ (Only.fresh HX3.out _) (fun hHeld => ?_)
           clear hK; have HKB3 := hide (below_box HX3.out HKB.out); have k1 := cellB HKB3.out (i := 1) rfl; have z1 := frB HKB3.out (i := 1); have k2 := cellB HKB3.out (i := 2) rfl; have z2 := frB HKB3.out (i := 2); have k3 := cellB HKB3.out (i := 3) rfl; have z3 := frB HKB3.out (i := 3); have k4 := cellB HKB3.out (i := 4) rfl; have z4 := frB HKB3.out (i := 4); have k5 := cellB HKB3.out (i := 5) rfl; have z5 := frB HKB3.out (i := 5)
           refine tk 15 165 ?_ rfl rfl (by kernel_rfl) (fun _ _ _ h => h) (by assumption) ?_ ?_; rotate_left
           ·intro w hSw; go_simp; all_goals with_reducible rfl
           simp only [Act.put]
           refine tk 16 166 ?_ rfl rfl (by kernel_rfl) (fun _ _ _ h => h) (by assumption) ?_ ?_; rotate_left
           ·intro w hSw; go_simp; all_goals with_reducible rfl
           simp only [Act.put]
           refine tk 17 167 ?_ rfl rfl (by kernel_rfl) (fun _ _ _ h => h) (by assumption) ?_ ?_; rotate_left
           ·intro w hSw; go_simp; all_goals with_reducible rfl
           simp only [Act.put]
           refine rk (i := 18) (o := _) rfl (by kernel_rfl) (by kernel_rfl) (fun K hK => ?_)
           go_simp
           refine hK.out _ _ ((Only.fresh HX3.out (· = b)).trans (((((Only.set (F := (· = b)) y3 b 1 _ rfl).trans (Only.set (F := (· = b)) _ b 2 _ rfl)).trans (Only.set (F := (· = b)) _ b 3 _ rfl)).trans (Only.set (F := (· = b)) _ b 4 _ rfl)).trans (Only.set (F := (· = b)) _ b 5 _ rfl))) (fun hHeld => ?_)
           clear hK
           refine wpAnyH_done (by kernel_rfl) ?_ _
           obtain ⟨y, hy⟩ : ∃ y, y = (((((y3.setCell ⟨b, 1, none⟩ (.int .i64 reg)).setCell ⟨b, 2, none⟩ (.slice pap on pac)).setCell ⟨b, 3, none⟩ (.slice pbp vn pbc)).setCell ⟨b, 4, none⟩ (.slice pdp dn pdc)).setCell ⟨b, 5, none⟩ (.slice none 0 0)) := ⟨_, rfl⟩
           have HOY : Hid (Only (· = b) y3 y) := hide (by rw [hy]; exact (((((Only.set (F := (· = b)) y3 b 1 _ rfl).trans (Only.set (F := (· = b)) _ b 2 _ rfl)).trans (Only.set (F := (· = b)) _ b 3 _ rfl)).trans (Only.set (F := (· = b)) _ b 4 _ rfl)).trans (Only.set (F := (· = b)) _ b 5 _ rfl)))
           have HYB : Hid (y.heap[b]? = some (.cells (RSrow n ⟨pap, pac, pbp, pbc, pdp, pdc, none, 0, reg, out, vec, done, []⟩) 67 (0, 0))) := hide (by
             rw [hy]
             have h9 := heap_set_sameL (heap_set_sameL (heap_set_sameL (heap_set_sameL (heap_set_sameL HKB3.out 1 (.int .i64 reg)) 2 (.slice pap on pac)) 3 (.slice pbp vn pbc)) 4 (.slice pdp dn pdc)) 5 (.slice none 0 0)
             rw [h9]
             unfold RSrow
             simp only [HO.out, HVN.out, HDN.out]
             rfl)
           rw [← hy]
           clear hy k1 k2 k3 k4 k5 z1 z2 z3 z4 z5 u0 u1 u2 u3 u4 hne HFA hHeld
           have hge : V.heap.size ≤ X9.heap.size := HB9.out.size
           have HI0 : Hid (RFroI V b n ⟨reg, out, vec, done, ts.map TP.t⟩ 0 ⟨pap, pac, pbp, pbc, pdp, pdc, none, 0, reg, out, vec, done, []⟩ y) := hide (by
             refine ⟨⟨HYB.out, ⟨own_type (t' := 67) ?_ HOY.out HKB3.out (by decide), own_type (t' := 67) ?_ HOY.out HKB3.out (by decide), own_type (t' := 67) ?_ HOY.out HKB3.out (by decide), World.ownsRow_nil _ _ _ _, fun x hx => (by cases hx)⟩, HPz.out.ge⟩, ⟨rfl, rfl, rfl, rfl, rfl⟩, ?_⟩
             · show y3.ownsRow V.heap.size _ 2 (.slice pap out.length pac) out.length _
               rw [HO.out]
               exact ownsRow_base HOa.out hge
             · show y3.ownsRow V.heap.size _ 1 (.slice pbp vec.length pbc) vec.length _
               rw [HVN.out]
               exact ownsRow_base HOb.out hge
             · show y3.ownsRow V.heap.size _ 1 (.slice pdp done.length pdc) done.length _
               rw [HDN.out]
               exact ownsRow_base HOc.out hge
             · exact (HB9.out.trans (HX3.out.mono hge)).trans (HOY.out.below (Nat.le_trans hge HX3.out.size) (fun i e => by
                 have e' : i = b := e
                 rw [e']
                 exact HPz.out.ge)))
           have HVY : Hid (y.heap[bB]? = some (.cells #[.int .i64 reg, .slice op on oc, .slice vp vn vc, .slice dp dn dc, .slice pp tn pc] 26 (0, 0))) := hide (HOY.out.obj (below_box HX3.out HVz.out) (fun e => by
             have e' : bB = b := e
             have h9 : V.heap.size ≤ b := HPz.out.ge
             have := HVL.out
             omega))
           clear hge hdb9 hn9 hvn4 hon4; have u4 := cellB HVY.out (i := 4) rfl
           go_wp2_with fail
           clear u4
           go_loopw [14] (fun i wr => ∃ (j : Nat) (q : QK), j ≤ tn ∧ i = .int .i64 (j : Int) ∧ Hid (RFroI V b n ⟨reg, out, vec, done, ts.map TP.t⟩ j q wr) ∧ Hid (wr.heap[bB]? = some (.cells #[.int .i64 reg, .slice op on oc, .slice vp vn vc, .slice dp dn dc, .slice pp tn pc] 26 (0, 0)))) (fun i _ => tn - (intOf i).toNat)
           case atStart => exact ⟨0, _, Nat.zero_le _, rfl, HI0, HVY⟩
           case round =>
            obtain ⟨j, q, hj, rfl, HI, HVq⟩ := hrel
            rename World => wq
            by_cases hlt : j < tn
            ·have hlt2 : j < ts.length := by rw [HTN.out]; exact hlt
             have hlt3 : j < (ts.map TP.t).length := by rw [List.length_map]; exact hlt2
             have HTq := hide (HT.out.later (HBW.out.trans (HI.out.below.mono HBW.out.size))); have u4 := cellB HVq.out (i := 4) rfl
             obtain ⟨x, hx⟩ : ∃ x, ts[j]! = x := ⟨_, rfl⟩
             have hx3 : (ts.map TP.t)[j]! = x.t := by rw [getElem!_pos (ts.map TP.t) j hlt3, List.getElem_map, ← hx, getElem!_pos ts j hlt2]
             obtain ⟨g, o, hpp, b0, b1, b2, b3, b4, hxo⟩ := TL.at HTq.out hlt2 hx
             obtain ⟨g', o', hpp', b0', _, _, _, _, _⟩ := TL.at HT.out hlt2 hx
             have hg : g < W.heap.size := by
              have h9 := World.block_lt_of_cell? W _ b0'
              rw [hpp] at hpp'
              simp only [Option.some.injEq, Addr.mk.injEq, and_true] at hpp'
              rw [hpp'.1]
              exact h9
             rw [hpp] at u4
             have hxr := hxo.r; have hxn := hxo.v; have HMA := hide (HFT.out.pre.may x.t (by rw [← hx, getElem!_pos ts j hlt2]; exact List.mem_map.2 ⟨_, List.getElem_mem hlt2, rfl⟩)); have HX3 := hide hx3; have HJ3 := hide hlt3
             obtain ⟨⟨ep, id, bg, rs, vs⟩, rp, rc, xp, xc⟩ := x
             simp only at b0 b1 b2 b3 b4 hxr hxn HX3 HMA
             have HXR : Hid (RRow wq rp rc rs) := hide hxr
             have HXN : Hid (NRow wq xp xc vs) := hide hxn
             have HXB : Hid (rs.length ≤ 1048576 ∧ vs.length ≤ 1048576) := hide (by
               have h9 : rs.length ≤ 4096 := HMA.out.1.2.2.2.2.1
               have h8 : (vs.length : Int) = n := HMA.out.1.2.2.2.2.2.1
               have := H4.out
               omega)
             have HQL : Hid (q.ts.length ≤ 8) := hide (by
               have h9 := HI.out.len (by show j ≤ (ts.map TP.t).length; omega)
               have h8 := HC4.out
               omega)
             have HNB : Hid (¬ (bB = b ∨ (Value.slice q.pp q.ts.length q.pc).ownBlock = some bB) ∧ ¬ (g = b ∨ (Value.slice q.pp q.ts.length q.pc).ownBlock = some g)) := hide (by
               have h9 : V.heap.size ≤ b := HI.out.rp.ge
               have h8 := HVL.out
               have h7 := HBW.out.size
               refine ⟨fun e => ?_, fun e => ?_⟩
               · rcases e with e | e
                 · omega
                 · have := own_block_base HI.out.rp.own.pre e
                   omega
               · rcases e with e | e
                 · omega
                 · have := own_block_base HI.out.rp.own.pre e
                   omega)
             have q1 : decide ((j : Int) < (tn : Int)) = true := decide_eq_true (by omega)
             have q2 : decide (j < tn) = true := decide_eq_true hlt
             clear hxo hxr hxn hx hx3 hlt2 hlt3 hpp hpp' b0' hg
             go_upto_region 25 with fail
             have HI0 := hide (HI.out.later (Below.refl _ wq).drew)
             have HQ0 : Hid (Below wq.heap.size wq wq.drew) := hide (Below.refl _ wq).drew
             have HS0 : Hid (Only (fun i => i = b ∨ (Value.slice q.pp q.ts.length q.pc).ownBlock = some i) wq wq.drew) := hide ((Only.refl _ wq).drew)
             have HFA := hide (fun (w9 : World) (hSw : Only (fun i => i = b ∨ (Value.slice q.pp q.ts.length q.pc).ownBlock = some i) wq w9) => And.intro (hSw.cell u4 HNB.out.1) (And.intro (hSw.cell b0 HNB.out.2) (And.intro (hSw.cell b1 HNB.out.2) (And.intro (hSw.cell b2 HNB.out.2) (And.intro (hSw.cell b3 HNB.out.2) (hSw.cell b4 HNB.out.2))))))
             refine wp_region_held_drew (S := fun w9 => Only (fun i => i = b ∨ (Value.slice q.pp q.ts.length q.pc).ownBlock = some i) wq w9) (by kernel_rfl) HS0.out (fun hHeld => ?_)
             refine tk 0 175 ?_ rfl rfl (by kernel_rfl) (fun _ _ _ h => h) (by assumption) ?_ ?_; rotate_left
             ·intro w hSw; go_simp; all_goals with_reducible rfl
             simp only [Act.put]
             refine tk 1 176 ?_ rfl rfl (by kernel_rfl) (fun _ _ _ h => h) (by assumption) ?_ ?_; rotate_left
             ·intro w hSw; go_simp; all_goals with_reducible rfl
             simp only [Act.put]
             refine tk 2 177 ?_ rfl rfl (by kernel_rfl) (fun _ _ _ h => h) (by assumption) ?_ ?_; rotate_left
             ·intro w hSw; go_simp; all_goals with_reducible rfl
             simp only [Act.put]
             refine tk 3 178 ?_ rfl rfl (by kernel_rfl) (fun _ _ _ h => h) (by assumption) ?_ ?_; rotate_left
             ·intro w hSw; go_simp; all_goals with_reducible rfl
             simp only [Act.put]
             refine tk 4 179 ?_ rfl rfl (by kernel_rfl) (fun _ _ _ h => h) (by assumption) ?_ ?_; rotate_left
             ·intro w hSw; go_simp; all_goals with_reducible rfl
             simp only [Act.put]
             refine tk 6 181 ?_ rfl rfl (by kernel_rfl) (fun _ _ _ h => h) (by assumption) ?_ ?_; rotate_left
             ·intro w hSw; go_simp; all_goals with_reducible rfl
             simp only [Act.put]
             refine tk 7 182 ?_ rfl rfl (by kernel_rfl) (fun _ _ _ h => h) (by assumption) ?_ ?_; rotate_left
             ·intro w hSw; obtain ⟨t4, x0, x1, x2, x3, x4⟩ := HFA.out w hSw; go_simp; all_goals with_reducible rfl
             simp only [Act.put]
             refine tk 8 183 ?_ rfl rfl (by kernel_rfl) (fun _ _ _ h => h) (by assumption) ?_ ?_; rotate_left
             ·intro w hSw; go_simp; all_goals with_reducible rfl
             simp only [Act.put]
             refine tk 9 184 ?_ rfl rfl (by kernel_rfl) (fun _ _ _ h => h) (by assumption) ?_ ?_; rotate_left
             ·intro w hSw; go_simp; all_goals with_reducible rfl
             simp only [Act.put]
             refine tk 10 185 ?_ rfl rfl (by kernel_rfl) (fun _ _ _ h => h) (by assumption) ?_ ?_; rotate_left
             ·intro w hSw; obtain ⟨t4, x0, x1, x2, x3, x4⟩ := HFA.out w hSw; go_simp; all_goals with_reducible rfl
             simp only [Act.put]
             refine rk2 (i := 5) (j := 11) (oi := _) (oj := _) rfl rfl (by kernel_rfl) (by kernel_rfl) (by kernel_rfl) (fun K hK => ?_) (fun K hK => ?_)
             ·
              have y5 : World.cell? wq.drew ⟨b, 5, none⟩ = some (.slice q.pp q.ts.length q.pc) := cellB HI0.out.rp.box rfl
              go_simp
              refine hK.out _ _ HS0.out (fun hHeld => ?_)
              clear hK; clear y5
              refine rk (i := 11) (o := _) rfl (by kernel_rfl) (by kernel_rfl) (fun K hK => ?_)
              go_simp
              refine (rclone_any (RRow.later HXR.out HQ0.out) (NRow.later HXN.out HQ0.out) rfl rfl HXB.out.1 HXB.out.2).mono ?_
              rintro _ w1 ⟨p7, c7, q7, d7, rfl, o1, o2, b9⟩
              have HI1 := hide (HI0.out.later b9)
              have HQ1 : Hid (Below wq.heap.size wq w1) := hide (HQ0.out.trans (b9.mono HQ0.out.size))
              have HS1 : Hid (Only (fun i => i = b ∨ (Value.slice q.pp q.ts.length q.pc).ownBlock = some i) wq w1) := hide (HS0.out.trans (Only.fresh b9 _))
              have HTO : Hid (TO V.heap.size w1 ⟨⟨ep, id, bg, rs, vs⟩, p7, c7, q7, d7⟩) := hide ⟨ownsRow_base o1 (Nat.le_trans HI0.out.below.size (Nat.le_refl _)), ownsRow_base o2 (Nat.le_trans HI0.out.below.size (Nat.le_refl _))⟩
              clear o1 o2 b9
              go_wp2_with fail
              refine hK.out _ _ HS1.out (fun hHeld => ?_)
              clear hK
              refine rk (i := 12) (o := _) rfl (by kernel_rfl) (by kernel_rfl) (fun K hK => ?_)
              go_simp
              obtain ⟨w2, hw2⟩ : ∃ w9, w9 = w1.alloc (.cells #[.int .i64 ep, .int .i64 id, .int .i64 bg, .slice p7 rs.length c7, .slice q7 vs.length d7] 28 (0, 0)) := ⟨_, rfl⟩
              rw [← hw2]
              have b9 : Below w1.heap.size w1 w2 := by rw [hw2]; exact alloc_below _ _
              have HI2 := hide (HI1.out.later b9)
              have HQ2 : Hid (Below wq.heap.size wq w2) := hide (HQ1.out.trans (b9.mono HQ1.out.size))
              have HS2 : Hid (Only (fun i => i = b ∨ (Value.slice q.pp q.ts.length q.pc).ownBlock = some i) wq w2) := hide (HS1.out.trans (Only.fresh b9 _))
              have HTO := hide (HTO.out.later b9)
              obtain ⟨nB, hnB⟩ : ∃ nB, w1.heap.size = nB := ⟨_, rfl⟩
              have HSG : Hid (Seg w2 5 (.slice (some ⟨nB, 0, none⟩) 1 1) 1 [.int .i64 ep, .int .i64 id, .int .i64 bg, .slice p7 rs.length c7, .slice q7 vs.length d7]) := hide (by rw [hw2, ← hnB]; exact Seg.news (heap_alloc_new w1 _) (by simp [Value.oneCell']) rfl (Nat.le_refl _) (by decide))
              try rw [hnB]
              clear hw2 b9 hnB
              refine hK.out _ _ HS2.out (fun hHeld => ?_)
              clear hK
              refine rk (i := 13) (o := _) rfl (by kernel_rfl) (by kernel_rfl) (fun K hK => ?_)
              refine wp_append_cells w2 (.tmp 180) (.tmp 187) 24 rfl V.heap.size 28 i0 (.agg #[.int .i64 0, .int .i64 0, .int .i64 0, .slice none 0 0, .slice none 0 0]) 5 72 Tryz.underlying24 hI0 hz0 hz1 hz2 rfl (by decide) (.slice q.pp q.ts.length q.pc) q.ts.length _ (by kernel_rfl) HI2.out.rp.own.pre (.slice (some ⟨nB, 0, none⟩) 1 1) 1 _ (by kernel_rfl) HSG.out (by have := HQL.out; unfold maxLen; omega) (by have := HQL.out; omega) HI2.out.below.size ?_
              intro p6 c6 w3 o6 g6; have hap := RFroI.app HI2.out HTO.out HJ3.out HX3.out.symm o6 g6
              have HBX := hide hap.1; have HFI := hide hap.2
              have HS3 : Hid (Only (fun i => i = b ∨ (Value.slice q.pp q.ts.length q.pc).ownBlock = some i) wq w3) := hide (HS2.out.trans (Only.of_grown g6 (fun k e => .inr e)))
              have HVF : Hid ((w3.setCell ⟨b, 5, none⟩ (.slice p6 (q.ts.length + 1) c6)).heap[bB]? = some (.cells #[.int .i64 reg, .slice op on oc, .slice vp vn vc, .slice dp dn dc, .slice pp tn pc] 26 (0, 0))) := hide ((HS3.out.trans (Only.set (F := (fun i => i = b ∨ (Value.slice q.pp q.ts.length q.pc).ownBlock = some i)) w3 b 5 _ (.inl rfl))).obj HVq.out HNB.out.1)
              clear hap o6 g6
              refine hK.out _ _ HS3.out (fun hHeld => ?_)
              clear hK
              refine tk 14 189 ?_ rfl rfl (by kernel_rfl) (fun _ _ _ h => h) (by assumption) ?_ ?_; rotate_left
              ·intro w hSw; go_simp; all_goals with_reducible rfl
              simp only [Act.put]
              refine tk 15 190 ?_ rfl rfl (by kernel_rfl) (fun _ _ _ h => h) (by assumption) ?_ ?_; rotate_left
              ·intro w hSw; go_simp; all_goals with_reducible rfl
              simp only [Act.put]
              refine tk 16 191 ?_ rfl rfl (by kernel_rfl) (fun _ _ _ h => h) (by assumption) ?_ ?_; rotate_left
              ·intro w hSw; go_simp; all_goals with_reducible rfl
              simp only [Act.put]
              refine rk (i := 17) (o := _) rfl (by kernel_rfl) (by kernel_rfl) (fun K hK => ?_)
              have y5 := cellB HBX.out (i := 5) rfl; have z5 := frB HBX.out (i := 5)
              go_simp
              refine hK.out _ _ (HS3.out.trans (Only.set (F := (fun i => i = b ∨ (Value.slice q.pp q.ts.length q.pc).ownBlock = some i)) w3 b 5 _ (.inl rfl))) (fun hHeld => ?_)
              clear hK
              refine wpAnyH_done (by kernel_rfl) ?_ _
              clear y5 z5 hHeld u4 b0 b1 b2 b3 b4; go_wp2
              exact ⟨⟨j + 1, _, by omega, by first | rfl | go_num, HFI, HVF⟩, by simp [intOf]; omega⟩
             ·
              go_simp
              refine (rclone_any (RRow.later HXR.out HQ0.out) (NRow.later HXN.out HQ0.out) rfl rfl HXB.out.1 HXB.out.2).mono ?_
              rintro _ w1 ⟨p7, c7, q7, d7, rfl, o1, o2, b9⟩
              have HI1 := hide (HI0.out.later b9)
              have HQ1 : Hid (Below wq.heap.size wq w1) := hide (HQ0.out.trans (b9.mono HQ0.out.size))
              have HS1 : Hid (Only (fun i => i = b ∨ (Value.slice q.pp q.ts.length q.pc).ownBlock = some i) wq w1) := hide (HS0.out.trans (Only.fresh b9 _))
              have HTO : Hid (TO V.heap.size w1 ⟨⟨ep, id, bg, rs, vs⟩, p7, c7, q7, d7⟩) := hide ⟨ownsRow_base o1 (Nat.le_trans HI0.out.below.size (Nat.le_refl _)), ownsRow_base o2 (Nat.le_trans HI0.out.below.size (Nat.le_refl _))⟩
              clear o1 o2 b9
              go_wp2_with fail
              refine hK.out _ _ HS1.out (fun hHeld => ?_)
              clear hK
              refine rk2 (i := 5) (j := 12) (oi := _) (oj := _) rfl rfl (by kernel_rfl) (by kernel_rfl) (by kernel_rfl) (fun K hK => ?_) (fun K hK => ?_)
              ·
               have y5 : World.cell? w1 ⟨b, 5, none⟩ = some (.slice q.pp q.ts.length q.pc) := cellB HI1.out.rp.box rfl
               go_simp
               refine hK.out _ _ HS1.out (fun hHeld => ?_)
               clear hK; clear y5
               refine rk (i := 12) (o := _) rfl (by kernel_rfl) (by kernel_rfl) (fun K hK => ?_)
               go_simp
               obtain ⟨w2, hw2⟩ : ∃ w9, w9 = w1.alloc (.cells #[.int .i64 ep, .int .i64 id, .int .i64 bg, .slice p7 rs.length c7, .slice q7 vs.length d7] 28 (0, 0)) := ⟨_, rfl⟩
               rw [← hw2]
               have b9 : Below w1.heap.size w1 w2 := by rw [hw2]; exact alloc_below _ _
               have HI2 := hide (HI1.out.later b9)
               have HQ2 : Hid (Below wq.heap.size wq w2) := hide (HQ1.out.trans (b9.mono HQ1.out.size))
               have HS2 : Hid (Only (fun i => i = b ∨ (Value.slice q.pp q.ts.length q.pc).ownBlock = some i) wq w2) := hide (HS1.out.trans (Only.fresh b9 _))
               have HTO := hide (HTO.out.later b9)
               obtain ⟨nB, hnB⟩ : ∃ nB, w1.heap.size = nB := ⟨_, rfl⟩
               have HSG : Hid (Seg w2 5 (.slice (some ⟨nB, 0, none⟩) 1 1) 1 [.int .i64 ep, .int .i64 id, .int .i64 bg, .slice p7 rs.length c7, .slice q7 vs.length d7]) := hide (by rw [hw2, ← hnB]; exact Seg.news (heap_alloc_new w1 _) (by simp [Value.oneCell']) rfl (Nat.le_refl _) (by decide))
               try rw [hnB]
               clear hw2 b9 hnB
               refine hK.out _ _ HS2.out (fun hHeld => ?_)
               clear hK
               refine rk (i := 13) (o := _) rfl (by kernel_rfl) (by kernel_rfl) (fun K hK => ?_)
               refine wp_append_cells w2 (.tmp 180) (.tmp 187) 24 rfl V.heap.size 28 i0 (.agg #[.int .i64 0, .int .i64 0, .int .i64 0, .slice none 0 0, .slice none 0 0]) 5 72 Tryz.underlying24 hI0 hz0 hz1 hz2 rfl (by decide) (.slice q.pp q.ts.length q.pc) q.ts.length _ (by kernel_rfl) HI2.out.rp.own.pre (.slice (some ⟨nB, 0, none⟩) 1 1) 1 _ (by kernel_rfl) HSG.out (by have := HQL.out; unfold maxLen; omega) (by have := HQL.out; omega) HI2.out.below.size ?_
               intro p6 c6 w3 o6 g6; have hap := RFroI.app HI2.out HTO.out HJ3.out HX3.out.symm o6 g6
               have HBX := hide hap.1; have HFI := hide hap.2
               have HS3 : Hid (Only (fun i => i = b ∨ (Value.slice q.pp q.ts.length q.pc).ownBlock = some i) wq w3) := hide (HS2.out.trans (Only.of_grown g6 (fun k e => .inr e)))
               have HVF : Hid ((w3.setCell ⟨b, 5, none⟩ (.slice p6 (q.ts.length + 1) c6)).heap[bB]? = some (.cells #[.int .i64 reg, .slice op on oc, .slice vp vn vc, .slice dp dn dc, .slice pp tn pc] 26 (0, 0))) := hide ((HS3.out.trans (Only.set (F := (fun i => i = b ∨ (Value.slice q.pp q.ts.length q.pc).ownBlock = some i)) w3 b 5 _ (.inl rfl))).obj HVq.out HNB.out.1)
               clear hap o6 g6
               refine hK.out _ _ HS3.out (fun hHeld => ?_)
               clear hK
               refine tk 14 189 ?_ rfl rfl (by kernel_rfl) (fun _ _ _ h => h) (by assumption) ?_ ?_; rotate_left
               ·intro w hSw; go_simp; all_goals with_reducible rfl
               simp only [Act.put]
               refine tk 15 190 ?_ rfl rfl (by kernel_rfl) (fun _ _ _ h => h) (by assumption) ?_ ?_; rotate_left
               ·intro w hSw; go_simp; all_goals with_reducible rfl
               simp only [Act.put]
               refine tk 16 191 ?_ rfl rfl (by kernel_rfl) (fun _ _ _ h => h) (by assumption) ?_ ?_; rotate_left
               ·intro w hSw; go_simp; all_goals with_reducible rfl
               simp only [Act.put]
               refine rk (i := 17) (o := _) rfl (by kernel_rfl) (by kernel_rfl) (fun K hK => ?_)
               have y5 := cellB HBX.out (i := 5) rfl; have z5 := frB HBX.out (i := 5)
               go_simp
               refine hK.out _ _ (HS3.out.trans (Only.set (F := (fun i => i = b ∨ (Value.slice q.pp q.ts.length q.pc).ownBlock = some i)) w3 b 5 _ (.inl rfl))) (fun hHeld => ?_)
               clear hK
               refine wpAnyH_done (by kernel_rfl) ?_ _
               clear y5 z5 hHeld u4 b0 b1 b2 b3 b4; go_wp2
               exact ⟨⟨j + 1, _, by omega, by first | rfl | go_num, HFI, HVF⟩, by simp [intOf]; omega⟩
              ·
               go_simp
               obtain ⟨w2, hw2⟩ : ∃ w9, w9 = w1.alloc (.cells #[.int .i64 ep, .int .i64 id, .int .i64 bg, .slice p7 rs.length c7, .slice q7 vs.length d7] 28 (0, 0)) := ⟨_, rfl⟩
               rw [← hw2]
               have b9 : Below w1.heap.size w1 w2 := by rw [hw2]; exact alloc_below _ _
               have HI2 := hide (HI1.out.later b9)
               have HQ2 : Hid (Below wq.heap.size wq w2) := hide (HQ1.out.trans (b9.mono HQ1.out.size))
               have HS2 : Hid (Only (fun i => i = b ∨ (Value.slice q.pp q.ts.length q.pc).ownBlock = some i) wq w2) := hide (HS1.out.trans (Only.fresh b9 _))
               have HTO := hide (HTO.out.later b9)
               obtain ⟨nB, hnB⟩ : ∃ nB, w1.heap.size = nB := ⟨_, rfl⟩
               have HSG : Hid (Seg w2 5 (.slice (some ⟨nB, 0, none⟩) 1 1) 1 [.int .i64 ep, .int .i64 id, .int .i64 bg, .slice p7 rs.length c7, .slice q7 vs.length d7]) := hide (by rw [hw2, ← hnB]; exact Seg.news (heap_alloc_new w1 _) (by simp [Value.oneCell']) rfl (Nat.le_refl _) (by decide))
               try rw [hnB]
               clear hw2 b9 hnB
               refine hK.out _ _ HS2.out (fun hHeld => ?_)
               clear hK
               refine rk (i := 5) (o := _) rfl (by kernel_rfl) (by kernel_rfl) (fun K hK => ?_)
               have y5 : World.cell? w2 ⟨b, 5, none⟩ = some (.slice q.pp q.ts.length q.pc) := cellB HI2.out.rp.box rfl
               go_simp
               refine hK.out _ _ HS2.out (fun hHeld => ?_)
               clear hK; clear y5
               refine rk (i := 13) (o := _) rfl (by kernel_rfl) (by kernel_rfl) (fun K hK => ?_)
               refine wp_append_cells w2 (.tmp 180) (.tmp 187) 24 rfl V.heap.size 28 i0 (.agg #[.int .i64 0, .int .i64 0, .int .i64 0, .slice none 0 0, .slice none 0 0]) 5 72 Tryz.underlying24 hI0 hz0 hz1 hz2 rfl (by decide) (.slice q.pp q.ts.length q.pc) q.ts.length _ (by kernel_rfl) HI2.out.rp.own.pre (.slice (some ⟨nB, 0, none⟩) 1 1) 1 _ (by kernel_rfl) HSG.out (by have := HQL.out; unfold maxLen; omega) (by have := HQL.out; omega) HI2.out.below.size ?_
               intro p6 c6 w3 o6 g6; have hap := RFroI.app HI2.out HTO.out HJ3.out HX3.out.symm o6 g6
               have HBX := hide hap.1; have HFI := hide hap.2
               have HS3 : Hid (Only (fun i => i = b ∨ (Value.slice q.pp q.ts.length q.pc).ownBlock = some i) wq w3) := hide (HS2.out.trans (Only.of_grown g6 (fun k e => .inr e)))
               have HVF : Hid ((w3.setCell ⟨b, 5, none⟩ (.slice p6 (q.ts.length + 1) c6)).heap[bB]? = some (.cells #[.int .i64 reg, .slice op on oc, .slice vp vn vc, .slice dp dn dc, .slice pp tn pc] 26 (0, 0))) := hide ((HS3.out.trans (Only.set (F := (fun i => i = b ∨ (Value.slice q.pp q.ts.length q.pc).ownBlock = some i)) w3 b 5 _ (.inl rfl))).obj HVq.out HNB.out.1)
               clear hap o6 g6
               refine hK.out _ _ HS3.out (fun hHeld => ?_)
               clear hK
               refine tk 14 189 ?_ rfl rfl (by kernel_rfl) (fun _ _ _ h => h) (by assumption) ?_ ?_; rotate_left
               ·intro w hSw; go_simp; all_goals with_reducible rfl
               simp only [Act.put]
               refine tk 15 190 ?_ rfl rfl (by kernel_rfl) (fun _ _ _ h => h) (by assumption) ?_ ?_; rotate_left
               ·intro w hSw; go_simp; all_goals with_reducible rfl
               simp only [Act.put]
               refine tk 16 191 ?_ rfl rfl (by kernel_rfl) (fun _ _ _ h => h) (by assumption) ?_ ?_; rotate_left
               ·intro w hSw; go_simp; all_goals with_reducible rfl
               simp only [Act.put]
               refine rk (i := 17) (o := _) rfl (by kernel_rfl) (by kernel_rfl) (fun K hK => ?_)
               have y5 := cellB HBX.out (i := 5) rfl; have z5 := frB HBX.out (i := 5)
               go_simp
               refine hK.out _ _ (HS3.out.trans (Only.set (F := (fun i => i = b ∨ (Value.slice q.pp q.ts.length q.pc).ownBlock = some i)) w3 b 5 _ (.inl rfl))) (fun hHeld => ?_)
               clear hK
               refine wpAnyH_done (by kernel_rfl) ?_ _
               clear y5 z5 hHeld u4 b0 b1 b2 b3 b4; go_wp2
               exact ⟨⟨j + 1, _, by omega, by first | rfl | go_num, HFI, HVF⟩, by simp [intOf]; omega⟩
            ·obtain rfl : tn = j := by omega
             have hsk := HI.out.sk (by show (ts.map TP.t).length ≤ tn; rw [List.length_map, HTN.out]; exact Nat.le_refl _); have HSK := hide hsk; clear hsk; have u4 := cellB HVq.out (i := 4) rfl; go_wp2
             go_ret2
             exact .inl ⟨HFT.out, b, q, rfl, ⟨HI.out.rp.box, HI.out.rp.own.base HBW.out.size, Nat.le_trans HBW.out.size HI.out.rp.ge⟩, HSK.out, HBW.out.trans (HI.out.below.mono HBW.out.size)⟩
    ·have e4 : decide ((tn : Int) > 8) = true := decide_eq_true (by omega)
     have f4 : decide (tn > 8) = true := decide_eq_true (by omega)
     have HC4 := hide c4; clear c4
     go_wp2_with fail
     refine (num_any (decide_eq_true HC1.out)).mono ?_
     rintro _ _ ⟨rfl, rfl⟩
     go_wp2_with fail
     refine (vector_any (parts := (n : Int)) (cellB HP1.out.box rfl) (NRow.later HN.out HW1.out) HVN.out (decide_eq_true HC3.out)).mono ?_
     rintro _ w2 ⟨rfl, b2⟩
     have HB2 : Hid (Below V.heap.size V w2) := hide (HB1.out.trans (b2.mono HB1.out.size))
     have HV2 := hide (below_box b2 HV1.out); have HP2 := hide (HP1.out.later b2); clear b2 u0 u1 u2 u3 u4; have u0 := cellB HV2.out (i := 0) rfl; have u1 := cellB HV2.out (i := 1) rfl; have u2 := cellB HV2.out (i := 2) rfl; have u3 := cellB HV2.out (i := 3) rfl; have u4 := cellB HV2.out (i := 4) rfl; go_wp2
     go_ret2
     exact .inr ⟨fun h9 => HC4.out (by have h8 : (ts.map TP.t).length ≤ 8 := h9.pre.room; rw [List.length_map, HTN.out] at h8; exact h8), rfl, HBW.out.trans (HB2.out.mono HBW.out.size)⟩
   ·have HC3 := hide c3; clear c3
    go_wp2_with fail
    refine (num_any (decide_eq_true HC1.out)).mono ?_
    rintro _ _ ⟨rfl, rfl⟩
    go_wp2_with fail
    refine (vector_any (parts := (n : Int)) (cellB HP1.out.box rfl) (NRow.later HN.out HW1.out) HVN.out (decide_eq_false HC3.out)).mono ?_
    rintro _ w2 ⟨rfl, b2⟩
    have HB2 : Hid (Below V.heap.size V w2) := hide (HB1.out.trans (b2.mono HB1.out.size))
    have HV2 := hide (below_box b2 HV1.out); have HP2 := hide (HP1.out.later b2); clear b2 u0 u1 u2 u3 u4; have u0 := cellB HV2.out (i := 0) rfl; have u1 := cellB HV2.out (i := 1) rfl; have u2 := cellB HV2.out (i := 2) rfl; have u3 := cellB HV2.out (i := 3) rfl; have u4 := cellB HV2.out (i := 4) rfl; go_wp2
    go_ret2
    exact .inr ⟨fun h9 => HC3.out h9.vec, rfl, HBW.out.trans (HB2.out.mono HBW.out.size)⟩
  ·have e2 : decide ((on : Int) > 4096) = true := decide_eq_true (by omega)
   have f2 : decide (on > 4096) = true := decide_eq_true (by omega)
   have HC2 := hide c2; clear c2
   go_wp2_with fail
   refine (num_any (decide_eq_true HC1.out)).mono ?_
   rintro _ _ ⟨rfl, rfl⟩
   go_wp2
   go_ret2
   exact .inr ⟨fun h9 => HC2.out (by rw [← HO.out]; exact h9.out), rfl, HBW.out.trans (HB1.out.mono HBW.out.size)⟩
 ·have HC1 := hide c1; clear c1
  go_wp2_with fail
  refine (num_any (decide_eq_false HC1.out)).mono ?_
  rintro _ _ ⟨rfl, rfl⟩
  go_wp2
  go_ret2
  exact .inr ⟨fun h9 => HC1.out h9.num, rfl, HBW.out.trans (HB1.out.mono HBW.out.size)⟩
end Go.Proofs.YtboofnkajjnmeaaGreat
