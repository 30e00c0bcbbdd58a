/-
 The reference's sink, as it lies; Len, raise, Fence, hasInt, Done, find. The conditions: that it lies there.
-/
import Derived.Test.YtboofnkajjnmeaaTk0
import Derived.Test.YtboofnkajjnmeaaSkz
import Derived.Test.YtboofnkajjnmeaaSkm
import Derived.Deep.CutRange
namespace Go.Proofs.Ytboofnkajjnmeaa
open Go.RowKit Go.Maps Go.Shelf

def QK.blk (q : QK) (i : Nat) : Prop := InC q.op q.oc i ∨ InC q.vp q.vc i ∨ InC q.dp q.dc i ∨ InC q.pp q.pc i ∨ ∃ x ∈ q.ts, x.blk i
theorem QV.only {W W' : World} {q : QK} {F : Nat → Prop} (h : QV W q) (ho : Only F W W') (hF : ∀ i, q.blk i → ¬ F i) : QV W' q :=
 ⟨h.out.onlyC RC.len ho (fun i e => hF i (.inl e)), h.vec.onlyC intCells_len ho (fun i e => hF i (.inr (.inl e))), h.done.onlyC intCells_len ho (fun i e => hF i (.inr (.inr (.inl e)))), h.pre.onlyC TP.len ho (fun i e => hF i (.inr (.inr (.inr (.inl e))))), fun x hx => (h.ts x hx).only ho (fun i e => hF i (.inr (.inr (.inr (.inr ⟨x, hx, e⟩)))))⟩
def RSrow (n : Nat) (q : QK) : Array Value := #[.int .i64 (n : Int), .int .i64 q.reg, .slice q.op q.out.length q.oc, .slice q.vp q.vec.length q.vc, .slice q.dp q.done.length q.dc, .slice q.pp q.ts.length q.pc]
structure RS (W : World) (b n : Nat) (q : QK) : Prop where
 box : W.heap[b]? = some (.cells (RSrow n q) 75 (0, 0))
 vis : QV W q
 lt : ∀ i, q.blk i → i < W.heap.size
 nb : ¬ q.blk b
theorem RS.later {W W' : World} {b n : Nat} {q : QK} (h : RS W b n q) (hb : Below W.heap.size W W') : RS W' b n q := ⟨below_box hb h.box, h.vis.later hb, fun i hi => Nat.lt_of_lt_of_le (h.lt i hi) hb.size, h.nb⟩
theorem RS.only {W W' : World} {b n : Nat} {q : QK} {F : Nat → Prop} (h : RS W b n q) (ho : Only F W W') (hb : ¬ F b) (hF : ∀ i, q.blk i → ¬ F i) : RS W' b n q :=
 ⟨ho.obj h.box hb, h.vis.only ho hF, fun i hi => Nat.lt_of_lt_of_le (h.lt i hi) ho.size, h.nb⟩
theorem RS.bl {W : World} {b n : Nat} {q : QK} (h : RS W b n q) : b < W.heap.size := box_lt h.box
theorem RS.tl {W : World} {b n : Nat} {q : QK} (h : RS W b n q) : TL W q.pp q.pc q.ts := h.vis.tl
theorem RS.c0 {W : World} {b n : Nat} {q : QK} (h : RS W b n q) : W.cell? ⟨b, 0, none⟩ = some (.int .i64 (n : Int)) := cellB h.box rfl
theorem RS.c1 {W : World} {b n : Nat} {q : QK} (h : RS W b n q) : W.cell? ⟨b, 1, none⟩ = some (.int .i64 q.reg) := cellB h.box rfl
theorem RS.c2 {W : World} {b n : Nat} {q : QK} (h : RS W b n q) : W.cell? ⟨b, 2, none⟩ = some (.slice q.op q.out.length q.oc) := cellB h.box rfl
theorem RS.c3 {W : World} {b n : Nat} {q : QK} (h : RS W b n q) : W.cell? ⟨b, 3, none⟩ = some (.slice q.vp q.vec.length q.vc) := cellB h.box rfl
theorem RS.c4 {W : World} {b n : Nat} {q : QK} (h : RS W b n q) : W.cell? ⟨b, 4, none⟩ = some (.slice q.dp q.done.length q.dc) := cellB h.box rfl
theorem RS.c5 {W : World} {b n : Nat} {q : QK} (h : RS W b n q) : W.cell? ⟨b, 5, none⟩ = some (.slice q.pp q.ts.length q.pc) := cellB h.box rfl
def RPut (W : World) (b n : Nat) (q : QK) (s : SK) (W' : World) : Prop := ∃ q' : QK, RS W' b n q' ∧ q'.sk = s ∧ Only (· = b) W W' ∧ ∀ i, q'.blk i → q.blk i ∨ W.heap.size ≤ i
theorem RPut.same {W W' : World} {b n : Nat} {q : QK} (h : RS W b n q) (hb : Below W.heap.size W W') : RPut W b n q q.sk W' := ⟨q, h.later hb, rfl, Only.fresh hb _, fun _ hi => .inl hi⟩
theorem RPut.trans {W W1 W2 : World} {b n : Nat} {q q1 : QK} {s : SK} (ho : Only (· = b) W W1) (hk : ∀ i, q1.blk i → q.blk i ∨ W.heap.size ≤ i) (h2 : RPut W1 b n q1 s W2) : RPut W b n q s W2 := by
 obtain ⟨q2, h3, h4, h5, h6⟩ := h2
 refine ⟨q2, h3, h4, ho.trans h5, fun i hi => ?_⟩
 rcases h6 i hi with h9 | h9
 ·exact hk i h9
 ·exact .inr (Nat.le_trans ho.size h9)
theorem RPut.first {W W1 W2 : World} {b n : Nat} {q : QK} {s : SK} (hb : Below W.heap.size W W1) (h2 : RPut W1 b n q s W2) : RPut W b n q s W2 := RPut.trans (Only.fresh hb _) (fun _ hi => .inl hi) h2
set_option maxRecDepth 100000 in
set_option maxHeartbeats 2000000 in
theorem rLen_any {W : World} {b n : Nat} {q : QK} (h : RS W b n q) :
  Calls Try.prog 39 #[.pointer (some ⟨b, 0, none⟩)] W fun e w' => e = .returned (.int .i64 (q.out.length : Int)) ∧ w' = W := by
 have u2 := h.c2; clear h
 go_enter Try.func39, Try.ntmps39
 go_wp2
 go_ret
 exact ⟨rfl, rfl⟩
set_option maxRecDepth 100000 in
set_option maxHeartbeats 2000000 in
theorem rraise_any {W : World} {b n : Nat} {q : QK} {ep : Int} (h : RS W b n q) :
  Calls Try.prog 67 #[.pointer (some ⟨b, 0, none⟩), .int .i64 ep] W fun e w' => e = .returned (.int .i64 (entC q.sk ep)) ∧ RPut W b n q (raisC q.sk ep) w' := by
 by_cases h1 : ep < q.reg
 ·have e1 : decide (ep < q.reg) = true := decide_eq_true h1
  have HQ : Hid (entC q.sk ep = 150 ∧ raisC q.sk ep = q.sk) := hide ⟨if_pos h1, if_neg (by show ¬ q.reg < ep; omega)⟩
  rw [HQ.out.1, HQ.out.2]
  have HP := hide h; have u1 := h.c1; clear h h1
  go_enter Try.func67, Try.ntmps67
  go_wp2
  go_ret
  exact ⟨rfl, RPut.same HP.out (Below.refl _ _)⟩
 ·have e1 : decide (ep < q.reg) = false := decide_eq_false h1
  by_cases h2 : q.reg < ep
  ·have e2 : decide (ep > q.reg) = true := decide_eq_true h2
   have HQ : Hid (entC q.sk ep = 0 ∧ raisC q.sk ep = ⟨ep, q.out, q.vec, [], []⟩) := hide ⟨if_neg h1, if_pos h2⟩
   rw [HQ.out.1, HQ.out.2]
   have HP := hide h; have u1 := h.c1; have u4 := h.c4; have u5 := h.c5; have z1 := frB h.box (i := 1); have z4 := frB h.box (i := 4); have z5 := frB h.box (i := 5); clear h h1 h2
   go_enter Try.func67, Try.ntmps67
   go_wp2
   go_ret
   have hP := HP.out
   have ho : Only (· = b) W (((W.setCell ⟨b, 1, none⟩ (.int .i64 ep)).setCell ⟨b, 4, none⟩ (.slice none 0 0)).setCell ⟨b, 5, none⟩ (.slice none 0 0)) := ((Only.set (F := (· = b)) W b 1 _ rfl).trans (Only.set (F := (· = b)) _ b 4 _ rfl)).trans (Only.set (F := (· = b)) _ b 5 _ rfl)
   have hv := hP.vis.only ho (fun i hi e => hP.nb (e ▸ hi))
   have hlt : ∀ i, (⟨q.op, q.oc, q.vp, q.vc, none, 0, none, 0, ep, q.out, q.vec, [], []⟩ : QK).blk i → q.blk i := fun i hi => by
    rcases hi with hi | hi | hi | hi | ⟨x, hx, _⟩
    ·exact .inl hi
    ·exact .inr (.inl hi)
    ·obtain ⟨_, e9, _⟩ := hi; cases e9
    ·obtain ⟨_, e9, _⟩ := hi; cases e9
    ·cases hx
   refine ⟨rfl, ⟨q.op, q.oc, q.vp, q.vc, none, 0, none, 0, ep, q.out, q.vec, [], []⟩, ⟨?_, ⟨hv.out, hv.vec, ⟨Nat.le_refl _, by show (0 : Nat) ≤ _; decide, fun _ => rfl, fun i hi => by cases hi⟩, ⟨Nat.le_refl _, by show (0 : Nat) ≤ _; decide, fun _ => rfl, fun i hi => by cases hi⟩, fun x hx => by cases hx⟩, fun i hi => Nat.lt_of_lt_of_le (hP.lt i (hlt i hi)) ho.size, fun hi => hP.nb (hlt _ hi)⟩, rfl, ho, fun i hi => .inl (hlt i hi)⟩
   exact heap_set_sameL (heap_set_sameL (heap_set_sameL hP.box 1 _) 4 _) 5 _
  ·have e2 : decide (ep > q.reg) = false := decide_eq_false h2
   have HQ : Hid (entC q.sk ep = 0 ∧ raisC q.sk ep = q.sk) := hide ⟨if_neg h1, if_neg h2⟩
   rw [HQ.out.1, HQ.out.2]
   have HP := hide h; have u1 := h.c1; clear h h1 h2
   go_enter Try.func67, Try.ntmps67
   go_wp2
   go_ret
   exact ⟨rfl, RPut.same HP.out (Below.refl _ _)⟩
set_option maxRecDepth 100000 in
set_option maxHeartbeats 2000000 in
theorem rfence_any {W : World} {b n : Nat} {q : QK} {ep : Int} (h : RS W b n q) :
  Calls Try.prog 34 #[.pointer (some ⟨b, 0, none⟩), .int .i64 ep] W fun e w' => e = .returned (.int .i64 (fenE q.sk ep)) ∧ RPut W b n q (fenS q.sk ep) w' := by
 by_cases he : posI ep
 ·have HQ : Hid (fenE q.sk ep = entC q.sk ep ∧ fenS q.sk ep = raisC q.sk ep) := hide ⟨if_pos he, if_pos he⟩
  rw [HQ.out.1, HQ.out.2]
  have HP := hide h; have HE := hide he; clear h he
  go_enter Try.func34, Try.ntmps34
  go_wp2_with fail
  refine (pos_any (decide_eq_true HE.out)).mono ?_
  rintro _ _ ⟨rfl, rfl⟩
  go_wp2_with fail
  refine (rraise_any HP.out).mono ?_
  rintro _ w1 ⟨rfl, hp⟩
  have HU := hide hp; clear hp; go_wp2; go_ret
  exact ⟨rfl, HU.out⟩
 ·have HQ : Hid (fenE q.sk ep = 1 ∧ fenS q.sk ep = q.sk) := hide ⟨if_neg he, if_neg he⟩
  rw [HQ.out.1, HQ.out.2]
  have HP := hide h; have HE := hide he; clear h he
  go_enter Try.func34, Try.ntmps34
  go_wp2_with fail
  refine (pos_any (decide_eq_false HE.out)).mono ?_
  rintro _ _ ⟨rfl, rfl⟩
  go_wp2
  go_ret
  exact ⟨rfl, RPut.same HP.out (Below.refl _ _)⟩
theorem mem_take_succ {l : List Int} {k : Nat} {m x : Int} (hk : k < l.length) (hx : l[k]! = x) (h : m ∉ l.take k) (hne : x ≠ m) : m ∉ l.take (k + 1) := by
 rw [List.take_succ_eq_append_getElem hk, List.mem_append]
 rintro (h1 | h1)
 ·exact h h1
 ·rw [getElem!_pos l k hk] at hx
  simp only [List.mem_singleton] at h1
  exact hne (by rw [← hx, h1])
set_option maxRecDepth 100000 in
set_option maxHeartbeats 2000000 in
theorem hasInt_any {W : World} {p : Option Addr} {L c : Nat} {l : List Int} {m : Int} (h : NRow W p c l) (hL : l.length = L) {rb : Bool} (hrb : decide (m ∈ l) = rb) :
  Calls Try.prog 72 #[.slice p L c, .int .i64 m] W fun e w' => e = .returned (.bool rb) ∧ Below W.heap.size W w' := by
 have H := hide h; have HL := hide hL; have HRB := hide hrb
 have i1 : l.length ≤ c := h.le
 have i2 := h.top
 rw [hL] at i1
 clear h hL hrb
 go_enter Try.func72, Try.ntmps72
 go_wp2
 go_loopw [5] (fun i wr => ∃ j : Nat, j ≤ L ∧ i = .int .i64 (j : Int) ∧ Hid (m ∉ l.take j) ∧ Hid (Below W.heap.size W wr)) (fun i _ => L - (intOf i).toNat)
 case atStart => exact ⟨0, Nat.zero_le _, rfl, hide (by simp), hide (Below.refl _ _)⟩
 case round =>
  obtain ⟨j, hj, rfl, HM, HB⟩ := hrel
  rename World => wr
  by_cases hlt : j < L
  ·have hl1 : j < l.length := by rw [HL.out]; exact hlt
   obtain ⟨x, hx⟩ : ∃ x, l[j]! = x := ⟨_, rfl⟩
   obtain ⟨g, o, rfl, a0⟩ := NRow.at (NRow.later H.out HB.out) hl1 hx
   have hlt9 := hlt
   by_cases hxm : x = m
   ·have d1 : (x == m) = true := by simpa using hxm
    have HF : Hid (rb = true) := hide (by rw [← HRB.out]; exact decide_eq_true (by rw [← hxm, ← hx, getElem!_pos l j hl1]; exact List.getElem_mem hl1))
    clear hx hxm hl1; go_wp2; go_ret
    exact ⟨by rw [HF.out]; rfl, HB.out⟩
   ·have d1 : (x == m) = false := by simpa using hxm
    have HN : Hid (m ∉ l.take (j + 1)) := hide (mem_take_succ hl1 hx HM.out hxm)
    clear hx hxm hl1; go_wp2
    exact ⟨⟨j + 1, hlt9, by first | rfl | go_num, HN, HB⟩, by simp [intOf]; omega⟩
  ·obtain rfl : j = L := by omega
   have HF : Hid (rb = false) := hide (by rw [← HRB.out]; exact decide_eq_false (by have := HM.out; rwa [← HL.out, List.take_length] at this))
   go_wp2
   go_ret
   exact ⟨by rw [HF.out]; rfl, HB.out⟩
set_option maxRecDepth 100000 in
set_option maxHeartbeats 2000000 in
theorem rDone_any {W : World} {b n : Nat} {q : QK} {ep id : Int} (h : RS W b n q) (hok : okS q.sk) {rb : Bool} (hrb : doneC q.sk ep id = rb) :
  Calls Try.prog 42 #[.pointer (some ⟨b, 0, none⟩), .agg #[.int .i64 ep, .int .i64 id]] W fun e w' => e = .returned (.bool rb) ∧ Below W.heap.size W w' := by
 have HP := hide h; have HOK := hide hok; have HRB := hide hrb; clear h hok hrb
 obtain ⟨V, hV⟩ : ∃ V, V = W.alloc (.cells #[.int .i64 ep, .int .i64 id] 55 (0, 0)) := ⟨_, rfl⟩
 have HV : Hid (V.heap[W.heap.size]? = some (.cells #[.int .i64 ep, .int .i64 id] 55 (0, 0))) := hide (by rw [hV]; exact heap_alloc_new W _)
 have HBV : Hid (Below W.heap.size W V) := hide (by rw [hV]; exact alloc_below _ _)
 obtain ⟨bB, hbB⟩ : ∃ bB, W.heap.size = bB := ⟨_, rfl⟩
 rw [hbB] at HV HBV
 have HZbB := hide hbB
 have HBW : Hid (Below W.heap.size W V) := hide (by rw [HZbB.out]; exact HBV.out)
 have HPV : Hid (RS V b n q) := hide (HP.out.later HBW.out)
 go_enter Try.func42, Try.ntmps42
 go_upto_region 1 with fail
 rw [← hV]
 try rw [hbB]
 clear hV hbB; have u0 := cellB HV.out (i := 0) rfl; have u1 := cellB HV.out (i := 1) rfl
 by_cases h1 : ep = q.reg
 ·have d1 : (ep == q.reg) = true := by simpa using h1
  by_cases h2 : ep ≥ 1
  ·have d2 : decide (ep ≥ 1) = true := decide_eq_true h2
   have HRM : Hid (decide (id ∈ q.done) = rb) := hide (by
     rw [← HRB.out]
     unfold doneC
     exact decide_eq_decide.2 ⟨fun h9 => ⟨h1, h9⟩, fun h9 => h9.2⟩)
   clear h1 h2
   have HX0 : Hid (Below V.heap.size V V.drew) := hide (Below.refl _ V).drew
   refine wp_region_held_drew (S := fun w9 => Below V.heap.size V w9) (by kernel_rfl) HX0.out (fun hHeld => ?_)
   refine tb 0 ?_ rfl (by kernel_rfl) (fun _ _ _ h => h) (by assumption) ?_ ?_
   rotate_left
   ·intro w hSw; have l0 := cell_later hSw u0
    have l1 := cell_later hSw u1; have m1 := (HPV.out.later hSw).c1; have m4 := (HPV.out.later hSw).c4
    go_simp
    all_goals with_reducible rfl
   simp only [Act.put]
   refine tb 1 ?_ rfl (by kernel_rfl) (fun _ _ _ h => h) (by assumption) ?_ ?_
   rotate_left
   ·intro w hSw; have l0 := cell_later hSw u0
    have l1 := cell_later hSw u1; have m1 := (HPV.out.later hSw).c1; have m4 := (HPV.out.later hSw).c4
    go_simp
    all_goals with_reducible rfl
   simp only [Act.put]
   refine tb 2 ?_ rfl (by kernel_rfl) (fun _ _ _ h => h) (by assumption) ?_ ?_
   rotate_left
   ·intro w hSw; have l0 := cell_later hSw u0
    have l1 := cell_later hSw u1; have m1 := (HPV.out.later hSw).c1; have m4 := (HPV.out.later hSw).c4
    go_simp
    all_goals with_reducible rfl
   simp only [Act.put]
   refine tb 3 ?_ rfl (by kernel_rfl) (fun _ _ _ h => h) (by assumption) ?_ ?_
   rotate_left
   ·intro w hSw; have l0 := cell_later hSw u0
    have l1 := cell_later hSw u1; have m1 := (HPV.out.later hSw).c1; have m4 := (HPV.out.later hSw).c4
    go_simp
    all_goals with_reducible rfl
   simp only [Act.put]
   refine tb 4 ?_ rfl (by kernel_rfl) (fun _ _ _ h => h) (by assumption) ?_ ?_
   rotate_left
   ·intro w hSw; have l0 := cell_later hSw u0
    have l1 := cell_later hSw u1; have m1 := (HPV.out.later hSw).c1; have m4 := (HPV.out.later hSw).c4
    go_simp
    all_goals with_reducible rfl
   simp only [Act.put]
   refine tb 5 ?_ rfl (by kernel_rfl) (fun _ _ _ h => h) (by assumption) ?_ ?_
   rotate_left
   ·intro w hSw; have l0 := cell_later hSw u0
    have l1 := cell_later hSw u1; have m1 := (HPV.out.later hSw).c1; have m4 := (HPV.out.later hSw).c4
    go_simp
    all_goals with_reducible rfl
   simp only [Act.put]
   refine tb 6 ?_ rfl (by kernel_rfl) (fun _ _ _ h => h) (by assumption) ?_ ?_
   rotate_left
   ·intro w hSw; have l0 := cell_later hSw u0
    have l1 := cell_later hSw u1; have m1 := (HPV.out.later hSw).c1; have m4 := (HPV.out.later hSw).c4
    go_simp
    all_goals with_reducible rfl
   simp only [Act.put]
   refine tb 7 ?_ rfl (by kernel_rfl) (fun _ _ _ h => h) (by assumption) ?_ ?_
   rotate_left
   ·intro w hSw; have l0 := cell_later hSw u0
    have l1 := cell_later hSw u1; have m1 := (HPV.out.later hSw).c1; have m4 := (HPV.out.later hSw).c4
    go_simp
    all_goals with_reducible rfl
   simp only [Act.put]
   refine tb 8 ?_ rfl (by kernel_rfl) (fun _ _ _ h => h) (by assumption) ?_ ?_
   rotate_left
   ·intro w hSw; have l0 := cell_later hSw u0
    have l1 := cell_later hSw u1; have m1 := (HPV.out.later hSw).c1; have m4 := (HPV.out.later hSw).c4
    go_simp
    all_goals with_reducible rfl
   simp only [Act.put]
   refine tb 9 ?_ rfl (by kernel_rfl) (fun _ _ _ h => h) (by assumption) ?_ ?_
   rotate_left
   ·intro w hSw; have l0 := cell_later hSw u0
    have l1 := cell_later hSw u1; have m1 := (HPV.out.later hSw).c1; have m4 := (HPV.out.later hSw).c4
    go_simp
    all_goals with_reducible rfl
   simp only [Act.put]
   refine tb 10 ?_ rfl (by kernel_rfl) (fun _ _ _ h => h) (by assumption) ?_ ?_
   rotate_left
   ·intro w hSw; have l0 := cell_later hSw u0
    have l1 := cell_later hSw u1; have m1 := (HPV.out.later hSw).c1; have m4 := (HPV.out.later hSw).c4
    go_simp
    all_goals with_reducible rfl
   simp only [Act.put]
   refine tb 11 ?_ rfl (by kernel_rfl) (fun _ _ _ h => h) (by assumption) ?_ ?_
   rotate_left
   ·intro w hSw; have l0 := cell_later hSw u0
    have l1 := cell_later hSw u1; have m1 := (HPV.out.later hSw).c1; have m4 := (HPV.out.later hSw).c4
    go_simp
    all_goals with_reducible rfl
   simp only [Act.put]
   refine tb 12 ?_ rfl (by kernel_rfl) (fun _ _ _ h => h) (by assumption) ?_ ?_
   rotate_left
   ·intro w hSw; have l0 := cell_later hSw u0
    have l1 := cell_later hSw u1; have m1 := (HPV.out.later hSw).c1; have m4 := (HPV.out.later hSw).c4
    go_simp
    all_goals with_reducible rfl
   simp only [Act.put]
   refine tb 13 ?_ rfl (by kernel_rfl) (fun _ _ _ h => h) (by assumption) ?_ ?_
   rotate_left
   ·intro w hSw; have l0 := cell_later hSw u0
    have l1 := cell_later hSw u1; have m1 := (HPV.out.later hSw).c1; have m4 := (HPV.out.later hSw).c4
    go_simp
    all_goals with_reducible rfl
   simp only [Act.put]
   refine tb 14 ?_ rfl (by kernel_rfl) (fun _ _ _ h => h) (by assumption) ?_ ?_
   rotate_left
   ·intro w hSw; have l0 := cell_later hSw u0
    have l1 := cell_later hSw u1; have m1 := (HPV.out.later hSw).c1; have m4 := (HPV.out.later hSw).c4
    go_simp
    all_goals with_reducible rfl
   simp only [Act.put]
   refine tb 15 ?_ rfl (by kernel_rfl) (fun _ _ _ h => h) (by assumption) ?_ ?_
   rotate_left
   ·intro w hSw; have l0 := cell_later hSw u0
    have l1 := cell_later hSw u1; have m1 := (HPV.out.later hSw).c1; have m4 := (HPV.out.later hSw).c4
    go_simp
    all_goals with_reducible rfl
   simp only [Act.put]
   refine tb 16 ?_ rfl (by kernel_rfl) (fun _ _ _ h => h) (by assumption) ?_ ?_
   rotate_left
   ·intro w hSw; have l0 := cell_later hSw u0
    have l1 := cell_later hSw u1; have m1 := (HPV.out.later hSw).c1; have m4 := (HPV.out.later hSw).c4
    go_simp
    all_goals with_reducible rfl
   simp only [Act.put]
   refine tb 17 ?_ rfl (by kernel_rfl) (fun _ _ _ h => h) (by assumption) ?_ ?_
   rotate_left
   ·intro w hSw; have l0 := cell_later hSw u0
    have l1 := cell_later hSw u1; have m1 := (HPV.out.later hSw).c1; have m4 := (HPV.out.later hSw).c4
    go_simp
    all_goals with_reducible rfl
   simp only [Act.put]
   refine tb 18 ?_ rfl (by kernel_rfl) (fun _ _ _ h => h) (by assumption) ?_ ?_
   rotate_left
   ·intro w hSw; have l0 := cell_later hSw u0
    have l1 := cell_later hSw u1; have m1 := (HPV.out.later hSw).c1; have m4 := (HPV.out.later hSw).c4
    go_simp
    all_goals with_reducible rfl
   simp only [Act.put]
   refine tb 19 ?_ rfl (by kernel_rfl) (fun _ _ _ h => h) (by assumption) ?_ ?_
   rotate_left
   ·intro w hSw; have l0 := cell_later hSw u0
    have l1 := cell_later hSw u1; have m1 := (HPV.out.later hSw).c1; have m4 := (HPV.out.later hSw).c4
    go_simp
    all_goals with_reducible rfl
   simp only [Act.put]
   refine tb 20 ?_ rfl (by kernel_rfl) (fun _ _ _ h => h) (by assumption) ?_ ?_
   rotate_left
   ·intro w hSw; have l0 := cell_later hSw u0
    have l1 := cell_later hSw u1; have m1 := (HPV.out.later hSw).c1; have m4 := (HPV.out.later hSw).c4
    go_simp
    all_goals with_reducible rfl
   simp only [Act.put]
   refine rr 21 (o := _) rfl (by kernel_rfl) (fun K hK => ?_)
   have hSw : Below V.heap.size V _ := HX0.out
   have l0 := cell_later hSw u0; have l1 := cell_later hSw u1; have m1 := (HPV.out.later hSw).c1; have m4 := (HPV.out.later hSw).c4
   go_simp
   refine (hasInt_any (HPV.out.later HX0.out).vis.done rfl HRM.out).mono ?_
   rintro _ x1 ⟨rfl, b0⟩
   have HX1 : Hid (Below V.heap.size V x1) := hide (HX0.out.trans (b0.mono HX0.out.size))
   clear b0
   go_wp2_with fail
   refine hK.out _ _ HX1.out (fun hHeld => ?_)
   clear hK
   refine tb 22 ?_ rfl (by kernel_rfl) (fun _ _ _ h => h) (by assumption) ?_ ?_
   rotate_left
   ·intro w hSw; have l0 := cell_later hSw u0
    have l1 := cell_later hSw u1; have m1 := (HPV.out.later hSw).c1; have m4 := (HPV.out.later hSw).c4
    go_simp
    all_goals with_reducible rfl
   simp only [Act.put]
   refine rr 23 (o := _) rfl (by kernel_rfl) (fun K hK => ?_)
   have hSw : Below V.heap.size V x1 := HX1.out
   have l0 := cell_later hSw u0; have l1 := cell_later hSw u1; have m1 := (HPV.out.later hSw).c1; have m4 := (HPV.out.later hSw).c4
   go_simp
   refine hK.out _ _ HX1.out (fun hHeld => ?_)
   clear hK
   refine wpAnyH_done (by kernel_rfl) ?_ _
   obtain ⟨X, rfl⟩ : ∃ X, X = x1 := ⟨_, rfl⟩
   have hX := HX1.out
   have HBX : Hid (Below W.heap.size W X) := hide (HBW.out.trans (hX.mono HBW.out.size))
   clear hX; go_wp2; go_ret
   exact ⟨rfl, HBX.out⟩
  ·have d2 : decide (ep ≥ 1) = false := decide_eq_false h2
   have HF : Hid (rb = false) := hide (by
     rw [← HRB.out]
     refine decide_eq_false (fun h9 => ?_)
     have h8 : q.sk.reg = ep := h1.symm
     have h7 := HOK.out.reg.1
     have h6 := (HOK.out.zero (by omega)).2.1
     rw [h6] at h9
     cases h9.2)
   clear h1 h2
   have HX0 : Hid (Below V.heap.size V V.drew) := hide (Below.refl _ V).drew
   refine wp_region_held_drew (S := fun w9 => Below V.heap.size V w9) (by kernel_rfl) HX0.out (fun hHeld => ?_)
   refine tb 0 ?_ rfl (by kernel_rfl) (fun _ _ _ h => h) (by assumption) ?_ ?_
   rotate_left
   ·intro w hSw; have l0 := cell_later hSw u0
    have l1 := cell_later hSw u1; have m1 := (HPV.out.later hSw).c1; have m4 := (HPV.out.later hSw).c4
    go_simp
    all_goals with_reducible rfl
   simp only [Act.put]
   refine tb 1 ?_ rfl (by kernel_rfl) (fun _ _ _ h => h) (by assumption) ?_ ?_
   rotate_left
   ·intro w hSw; have l0 := cell_later hSw u0
    have l1 := cell_later hSw u1; have m1 := (HPV.out.later hSw).c1; have m4 := (HPV.out.later hSw).c4
    go_simp
    all_goals with_reducible rfl
   simp only [Act.put]
   refine tb 2 ?_ rfl (by kernel_rfl) (fun _ _ _ h => h) (by assumption) ?_ ?_
   rotate_left
   ·intro w hSw; have l0 := cell_later hSw u0
    have l1 := cell_later hSw u1; have m1 := (HPV.out.later hSw).c1; have m4 := (HPV.out.later hSw).c4
    go_simp
    all_goals with_reducible rfl
   simp only [Act.put]
   refine tb 3 ?_ rfl (by kernel_rfl) (fun _ _ _ h => h) (by assumption) ?_ ?_
   rotate_left
   ·intro w hSw; have l0 := cell_later hSw u0
    have l1 := cell_later hSw u1; have m1 := (HPV.out.later hSw).c1; have m4 := (HPV.out.later hSw).c4
    go_simp
    all_goals with_reducible rfl
   simp only [Act.put]
   refine tb 4 ?_ rfl (by kernel_rfl) (fun _ _ _ h => h) (by assumption) ?_ ?_
   rotate_left
   ·intro w hSw; have l0 := cell_later hSw u0
    have l1 := cell_later hSw u1; have m1 := (HPV.out.later hSw).c1; have m4 := (HPV.out.later hSw).c4
    go_simp
    all_goals with_reducible rfl
   simp only [Act.put]
   refine tb 5 ?_ rfl (by kernel_rfl) (fun _ _ _ h => h) (by assumption) ?_ ?_
   rotate_left
   ·intro w hSw; have l0 := cell_later hSw u0
    have l1 := cell_later hSw u1; have m1 := (HPV.out.later hSw).c1; have m4 := (HPV.out.later hSw).c4
    go_simp
    all_goals with_reducible rfl
   simp only [Act.put]
   refine tb 6 ?_ rfl (by kernel_rfl) (fun _ _ _ h => h) (by assumption) ?_ ?_
   rotate_left
   ·intro w hSw; have l0 := cell_later hSw u0
    have l1 := cell_later hSw u1; have m1 := (HPV.out.later hSw).c1; have m4 := (HPV.out.later hSw).c4
    go_simp
    all_goals with_reducible rfl
   simp only [Act.put]
   refine tb 7 ?_ rfl (by kernel_rfl) (fun _ _ _ h => h) (by assumption) ?_ ?_
   rotate_left
   ·intro w hSw; have l0 := cell_later hSw u0
    have l1 := cell_later hSw u1; have m1 := (HPV.out.later hSw).c1; have m4 := (HPV.out.later hSw).c4
    go_simp
    all_goals with_reducible rfl
   simp only [Act.put]
   refine tb 8 ?_ rfl (by kernel_rfl) (fun _ _ _ h => h) (by assumption) ?_ ?_
   rotate_left
   ·intro w hSw; have l0 := cell_later hSw u0
    have l1 := cell_later hSw u1; have m1 := (HPV.out.later hSw).c1; have m4 := (HPV.out.later hSw).c4
    go_simp
    all_goals with_reducible rfl
   simp only [Act.put]
   refine tb 9 ?_ rfl (by kernel_rfl) (fun _ _ _ h => h) (by assumption) ?_ ?_
   rotate_left
   ·intro w hSw; have l0 := cell_later hSw u0
    have l1 := cell_later hSw u1; have m1 := (HPV.out.later hSw).c1; have m4 := (HPV.out.later hSw).c4
    go_simp
    all_goals with_reducible rfl
   simp only [Act.put]
   refine tb 10 ?_ rfl (by kernel_rfl) (fun _ _ _ h => h) (by assumption) ?_ ?_
   rotate_left
   ·intro w hSw; have l0 := cell_later hSw u0
    have l1 := cell_later hSw u1; have m1 := (HPV.out.later hSw).c1; have m4 := (HPV.out.later hSw).c4
    go_simp
    all_goals with_reducible rfl
   simp only [Act.put]
   refine tb 11 ?_ rfl (by kernel_rfl) (fun _ _ _ h => h) (by assumption) ?_ ?_
   rotate_left
   ·intro w hSw; have l0 := cell_later hSw u0
    have l1 := cell_later hSw u1; have m1 := (HPV.out.later hSw).c1; have m4 := (HPV.out.later hSw).c4
    go_simp
    all_goals with_reducible rfl
   simp only [Act.put]
   refine tb 12 ?_ rfl (by kernel_rfl) (fun _ _ _ h => h) (by assumption) ?_ ?_
   rotate_left
   ·intro w hSw; have l0 := cell_later hSw u0
    have l1 := cell_later hSw u1; have m1 := (HPV.out.later hSw).c1; have m4 := (HPV.out.later hSw).c4
    go_simp
    all_goals with_reducible rfl
   simp only [Act.put]
   refine tb 13 ?_ rfl (by kernel_rfl) (fun _ _ _ h => h) (by assumption) ?_ ?_
   rotate_left
   ·intro w hSw; have l0 := cell_later hSw u0
    have l1 := cell_later hSw u1; have m1 := (HPV.out.later hSw).c1; have m4 := (HPV.out.later hSw).c4
    go_simp
    all_goals with_reducible rfl
   simp only [Act.put]
   refine wpAnyH_take (i := 14) (oi := _) (v := undef) rfl (by kernel_rfl) (by kernel_rfl) (by kernel_rfl) (fun _ _ _ h => h) (Or.inr ⟨by kernel_rfl, rfl⟩) (by assumption) ?_
   simp only [Act.put]
   refine wpAnyH_take (i := 15) (oi := _) (v := undef) rfl (by kernel_rfl) (by kernel_rfl) (by kernel_rfl) (fun _ _ _ h => h) (Or.inr ⟨by kernel_rfl, rfl⟩) (by assumption) ?_
   simp only [Act.put]
   refine wpAnyH_take (i := 16) (oi := _) (v := undef) rfl (by kernel_rfl) (by kernel_rfl) (by kernel_rfl) (fun _ _ _ h => h) (Or.inr ⟨by kernel_rfl, rfl⟩) (by assumption) ?_
   simp only [Act.put]
   refine wpAnyH_take (i := 17) (oi := _) (v := undef) rfl (by kernel_rfl) (by kernel_rfl) (by kernel_rfl) (fun _ _ _ h => h) (Or.inr ⟨by kernel_rfl, rfl⟩) (by assumption) ?_
   simp only [Act.put]
   refine wpAnyH_take (i := 18) (oi := _) (v := undef) rfl (by kernel_rfl) (by kernel_rfl) (by kernel_rfl) (fun _ _ _ h => h) (Or.inr ⟨by kernel_rfl, rfl⟩) (by assumption) ?_
   simp only [Act.put]
   refine wpAnyH_take (i := 19) (oi := _) (v := undef) rfl (by kernel_rfl) (by kernel_rfl) (by kernel_rfl) (fun _ _ _ h => h) (Or.inr ⟨by kernel_rfl, rfl⟩) (by assumption) ?_
   simp only [Act.put]
   refine wpAnyH_take (i := 20) (oi := _) (v := undef) rfl (by kernel_rfl) (by kernel_rfl) (by kernel_rfl) (fun _ _ _ h => h) (Or.inr ⟨by kernel_rfl, rfl⟩) (by assumption) ?_
   simp only [Act.put]
   refine wpAnyH_take (i := 21) (oi := _) (v := undef) rfl (by kernel_rfl) (by kernel_rfl) (by kernel_rfl) (fun _ _ _ h => h) (Or.inr ⟨by kernel_rfl, rfl⟩) (by assumption) ?_
   simp only [Act.put]
   refine tb 22 ?_ rfl (by kernel_rfl) (fun _ _ _ h => h) (by assumption) ?_ ?_
   rotate_left
   ·intro w hSw; have l0 := cell_later hSw u0
    have l1 := cell_later hSw u1; have m1 := (HPV.out.later hSw).c1; have m4 := (HPV.out.later hSw).c4
    go_simp
    all_goals with_reducible rfl
   simp only [Act.put]
   refine rr 23 (o := _) rfl (by kernel_rfl) (fun K hK => ?_)
   have hSw : Below V.heap.size V _ := HX0.out
   have l0 := cell_later hSw u0; have l1 := cell_later hSw u1; have m1 := (HPV.out.later hSw).c1; have m4 := (HPV.out.later hSw).c4
   go_simp
   refine hK.out _ _ HX0.out (fun hHeld => ?_)
   clear hK
   refine wpAnyH_done (by kernel_rfl) ?_ _
   obtain ⟨X, hXE⟩ : ∃ X, X = V.drew := ⟨_, rfl⟩
   rw [← hXE]
   have hX : Below V.heap.size V X := by rw [hXE]; exact HX0.out
   clear hXE
   have HBX : Hid (Below W.heap.size W X) := hide (HBW.out.trans (hX.mono HBW.out.size))
   clear hX; go_wp2; go_ret
   exact ⟨by rw [HF.out]; rfl, HBX.out⟩
 ·have d1 : (ep == q.reg) = false := by simpa using h1
  have HF : Hid (rb = false) := hide (by
    rw [← HRB.out]
    exact decide_eq_false (fun h9 => h1 h9.1))
  clear h1
  have HX0 : Hid (Below V.heap.size V V.drew) := hide (Below.refl _ V).drew
  refine wp_region_held_drew (S := fun w9 => Below V.heap.size V w9) (by kernel_rfl) HX0.out (fun hHeld => ?_)
  refine tb 0 ?_ rfl (by kernel_rfl) (fun _ _ _ h => h) (by assumption) ?_ ?_
  rotate_left
  ·intro w hSw; have l0 := cell_later hSw u0
   have l1 := cell_later hSw u1; have m1 := (HPV.out.later hSw).c1; have m4 := (HPV.out.later hSw).c4
   go_simp
   all_goals with_reducible rfl
  simp only [Act.put]
  refine tb 1 ?_ rfl (by kernel_rfl) (fun _ _ _ h => h) (by assumption) ?_ ?_
  rotate_left
  ·intro w hSw; have l0 := cell_later hSw u0
   have l1 := cell_later hSw u1; have m1 := (HPV.out.later hSw).c1; have m4 := (HPV.out.later hSw).c4
   go_simp
   all_goals with_reducible rfl
  simp only [Act.put]
  refine tb 2 ?_ rfl (by kernel_rfl) (fun _ _ _ h => h) (by assumption) ?_ ?_
  rotate_left
  ·intro w hSw; have l0 := cell_later hSw u0
   have l1 := cell_later hSw u1; have m1 := (HPV.out.later hSw).c1; have m4 := (HPV.out.later hSw).c4
   go_simp
   all_goals with_reducible rfl
  simp only [Act.put]
  refine tb 3 ?_ rfl (by kernel_rfl) (fun _ _ _ h => h) (by assumption) ?_ ?_
  rotate_left
  ·intro w hSw; have l0 := cell_later hSw u0
   have l1 := cell_later hSw u1; have m1 := (HPV.out.later hSw).c1; have m4 := (HPV.out.later hSw).c4
   go_simp
   all_goals with_reducible rfl
  simp only [Act.put]
  refine tb 4 ?_ rfl (by kernel_rfl) (fun _ _ _ h => h) (by assumption) ?_ ?_
  rotate_left
  ·intro w hSw; have l0 := cell_later hSw u0
   have l1 := cell_later hSw u1; have m1 := (HPV.out.later hSw).c1; have m4 := (HPV.out.later hSw).c4
   go_simp
   all_goals with_reducible rfl
  simp only [Act.put]
  refine tb 5 ?_ rfl (by kernel_rfl) (fun _ _ _ h => h) (by assumption) ?_ ?_
  rotate_left
  ·intro w hSw; have l0 := cell_later hSw u0
   have l1 := cell_later hSw u1; have m1 := (HPV.out.later hSw).c1; have m4 := (HPV.out.later hSw).c4
   go_simp
   all_goals with_reducible rfl
  simp only [Act.put]
  refine tb 6 ?_ rfl (by kernel_rfl) (fun _ _ _ h => h) (by assumption) ?_ ?_
  rotate_left
  ·intro w hSw; have l0 := cell_later hSw u0
   have l1 := cell_later hSw u1; have m1 := (HPV.out.later hSw).c1; have m4 := (HPV.out.later hSw).c4
   go_simp
   all_goals with_reducible rfl
  simp only [Act.put]
  refine tb 7 ?_ rfl (by kernel_rfl) (fun _ _ _ h => h) (by assumption) ?_ ?_
  rotate_left
  ·intro w hSw; have l0 := cell_later hSw u0
   have l1 := cell_later hSw u1; have m1 := (HPV.out.later hSw).c1; have m4 := (HPV.out.later hSw).c4
   go_simp
   all_goals with_reducible rfl
  simp only [Act.put]
  refine tb 8 ?_ rfl (by kernel_rfl) (fun _ _ _ h => h) (by assumption) ?_ ?_
  rotate_left
  ·intro w hSw; have l0 := cell_later hSw u0
   have l1 := cell_later hSw u1; have m1 := (HPV.out.later hSw).c1; have m4 := (HPV.out.later hSw).c4
   go_simp
   all_goals with_reducible rfl
  simp only [Act.put]
  refine wpAnyH_take (i := 9) (oi := _) (v := undef) rfl (by kernel_rfl) (by kernel_rfl) (by kernel_rfl) (fun _ _ _ h => h) (Or.inr ⟨by kernel_rfl, rfl⟩) (by assumption) ?_
  simp only [Act.put]
  refine wpAnyH_take (i := 10) (oi := _) (v := undef) rfl (by kernel_rfl) (by kernel_rfl) (by kernel_rfl) (fun _ _ _ h => h) (Or.inr ⟨by kernel_rfl, rfl⟩) (by assumption) ?_
  simp only [Act.put]
  refine wpAnyH_take (i := 11) (oi := _) (v := undef) rfl (by kernel_rfl) (by kernel_rfl) (by kernel_rfl) (fun _ _ _ h => h) (Or.inr ⟨by kernel_rfl, rfl⟩) (by assumption) ?_
  simp only [Act.put]
  refine tb 12 ?_ rfl (by kernel_rfl) (fun _ _ _ h => h) (by assumption) ?_ ?_
  rotate_left
  ·intro w hSw; have l0 := cell_later hSw u0
   have l1 := cell_later hSw u1; have m1 := (HPV.out.later hSw).c1; have m4 := (HPV.out.later hSw).c4
   go_simp
   all_goals with_reducible rfl
  simp only [Act.put]
  refine tb 13 ?_ rfl (by kernel_rfl) (fun _ _ _ h => h) (by assumption) ?_ ?_
  rotate_left
  ·intro w hSw; have l0 := cell_later hSw u0
   have l1 := cell_later hSw u1; have m1 := (HPV.out.later hSw).c1; have m4 := (HPV.out.later hSw).c4
   go_simp
   all_goals with_reducible rfl
  simp only [Act.put]
  refine wpAnyH_take (i := 14) (oi := _) (v := undef) rfl (by kernel_rfl) (by kernel_rfl) (by kernel_rfl) (fun _ _ _ h => h) (Or.inr ⟨by kernel_rfl, rfl⟩) (by assumption) ?_
  simp only [Act.put]
  refine wpAnyH_take (i := 15) (oi := _) (v := undef) rfl (by kernel_rfl) (by kernel_rfl) (by kernel_rfl) (fun _ _ _ h => h) (Or.inr ⟨by kernel_rfl, rfl⟩) (by assumption) ?_
  simp only [Act.put]
  refine wpAnyH_take (i := 16) (oi := _) (v := undef) rfl (by kernel_rfl) (by kernel_rfl) (by kernel_rfl) (fun _ _ _ h => h) (Or.inr ⟨by kernel_rfl, rfl⟩) (by assumption) ?_
  simp only [Act.put]
  refine wpAnyH_take (i := 17) (oi := _) (v := undef) rfl (by kernel_rfl) (by kernel_rfl) (by kernel_rfl) (fun _ _ _ h => h) (Or.inr ⟨by kernel_rfl, rfl⟩) (by assumption) ?_
  simp only [Act.put]
  refine wpAnyH_take (i := 18) (oi := _) (v := undef) rfl (by kernel_rfl) (by kernel_rfl) (by kernel_rfl) (fun _ _ _ h => h) (Or.inr ⟨by kernel_rfl, rfl⟩) (by assumption) ?_
  simp only [Act.put]
  refine wpAnyH_take (i := 19) (oi := _) (v := undef) rfl (by kernel_rfl) (by kernel_rfl) (by kernel_rfl) (fun _ _ _ h => h) (Or.inr ⟨by kernel_rfl, rfl⟩) (by assumption) ?_
  simp only [Act.put]
  refine wpAnyH_take (i := 20) (oi := _) (v := undef) rfl (by kernel_rfl) (by kernel_rfl) (by kernel_rfl) (fun _ _ _ h => h) (Or.inr ⟨by kernel_rfl, rfl⟩) (by assumption) ?_
  simp only [Act.put]
  refine wpAnyH_take (i := 21) (oi := _) (v := undef) rfl (by kernel_rfl) (by kernel_rfl) (by kernel_rfl) (fun _ _ _ h => h) (Or.inr ⟨by kernel_rfl, rfl⟩) (by assumption) ?_
  simp only [Act.put]
  refine tb 22 ?_ rfl (by kernel_rfl) (fun _ _ _ h => h) (by assumption) ?_ ?_
  rotate_left
  ·intro w hSw; have l0 := cell_later hSw u0
   have l1 := cell_later hSw u1; have m1 := (HPV.out.later hSw).c1; have m4 := (HPV.out.later hSw).c4
   go_simp
   all_goals with_reducible rfl
  simp only [Act.put]
  refine rr 23 (o := _) rfl (by kernel_rfl) (fun K hK => ?_)
  have hSw : Below V.heap.size V _ := HX0.out
  have l0 := cell_later hSw u0; have l1 := cell_later hSw u1; have m1 := (HPV.out.later hSw).c1; have m4 := (HPV.out.later hSw).c4
  go_simp
  refine hK.out _ _ HX0.out (fun hHeld => ?_)
  clear hK
  refine wpAnyH_done (by kernel_rfl) ?_ _
  obtain ⟨X, hXE⟩ : ∃ X, X = V.drew := ⟨_, rfl⟩
  rw [← hXE]
  have hX : Below V.heap.size V X := by rw [hXE]; exact HX0.out
  clear hXE
  have HBX : Hid (Below W.heap.size W X) := hide (HBW.out.trans (hX.mono HBW.out.size))
  clear hX; go_wp2; go_ret
  exact ⟨by rw [HF.out]; rfl, HBX.out⟩
theorem tat {l : List TP} {k : Nat} (hk : k < l.length) : l[k]! = l[k] := getElem!_pos l k hk
theorem findQ_none {q : QK} {i : Int} (h : ∀ k, k < q.ts.length → q.ts[k]!.t.id ≠ i) : findC q.sk i = none := by
 unfold findC
 rw [List.find?_eq_none]
 intro t ht
 obtain ⟨x, hx, rfl⟩ := List.mem_map.1 (show t ∈ q.ts.map TP.t from ht)
 obtain ⟨k, hk, rfl⟩ := List.getElem_of_mem hx
 have := h k hk
 rw [tat hk] at this
 simpa using this
theorem findQ_some {q : QK} {i : Int} {k : Nat} (hk : k < q.ts.length) (h : ∀ j, j < k → q.ts[j]!.t.id ≠ i) (hi : q.ts[k]!.t.id = i) : findC q.sk i = some q.ts[k]!.t := by
 unfold findC
 show (q.ts.map TP.t).find? _ = _
 rw [List.find?_eq_some_iff_getElem]
 refine ⟨by simpa using hi, k, by simpa using hk, by simp [tat hk], fun j hj => ?_⟩
 have hj2 : j < q.ts.length := by omega
 have := h j hj
 rw [tat hj2] at this
 simpa using this
set_option maxRecDepth 100000 in
set_option maxHeartbeats 2000000 in
theorem rfind_any {W : World} {b n : Nat} {q : QK} {id : Int} (h : RS W b n q) :
  Calls Try.prog 68 #[.pointer (some ⟨b, 0, none⟩), .int .i64 id] W fun e w' => Below W.heap.size W w' ∧ ((e = .returned (.int .i64 (-1)) ∧ findC q.sk id = none) ∨ ∃ k : Nat, k < q.ts.length ∧ e = .returned (.int .i64 (k : Int)) ∧ findC q.sk id = some q.ts[k]!.t) := by
 have HP := hide h
 obtain ⟨L, hL⟩ : ∃ L, q.ts.length = L := ⟨_, rfl⟩
 have HL := hide hL
 have i1 : q.ts.length ≤ q.pc := h.vis.pre.le
 have i2 := h.vis.pre.top
 rw [hL] at i1
 clear h hL
 go_enter Try.func68, Try.ntmps68
 go_wp2
 go_loopw [5] (fun i wr => ∃ j : Nat, j ≤ L ∧ i = .int .i64 (j : Int) ∧ Hid (∀ k, k < j → q.ts[k]!.t.id ≠ id) ∧ Hid (Below W.heap.size W wr)) (fun i _ => L - (intOf i).toNat)
 case atStart => exact ⟨0, Nat.zero_le _, rfl, hide (fun k hk => by omega), hide (Below.refl _ _)⟩
 case round =>
  obtain ⟨j, hj, rfl, HM, HB⟩ := hrel
  rename World => wr
  have u5 := (HP.out.later HB.out).c5
  rw [HL.out] at u5
  by_cases hlt : j < L
  ·have hl1 : j < q.ts.length := by rw [HL.out]; exact hlt
   obtain ⟨x, hx⟩ : ∃ x, q.ts[j]! = x := ⟨_, rfl⟩
   obtain ⟨g, o, hpp, a0, a1, a2, a3, a4, _⟩ := TL.at (HP.out.later HB.out).tl hl1 hx
   have u6 := u5
   rw [hpp] at u6
   have hlt9 := hlt; clear u5 a0 a2 a3 a4; have u5 := u6; clear u6
   by_cases hxm : x.t.id = id
   ·have d1 : (x.t.id == id) = true := by simpa using hxm
    have HF : Hid (findC q.sk id = some q.ts[j]!.t) := hide (findQ_some hl1 HM.out (by rw [hx]; exact hxm))
    have HJ := hide hl1; clear hx hxm hl1 hpp; go_wp2; go_ret
    exact ⟨HB.out, .inr ⟨j, HJ.out, rfl, HF.out⟩⟩
   ·have d1 : (x.t.id == id) = false := by simpa using hxm
    have HN : Hid (∀ k, k < j + 1 → q.ts[k]!.t.id ≠ id) := hide (fun k hk => by
      by_cases hk9 : k < j
      · exact HM.out k hk9
      · obtain rfl : k = j := by omega
        rw [hx]
        exact hxm)
    have HU := hide u5; clear hx hxm hl1 hpp; go_wp2
    exact ⟨⟨j + 1, hlt9, by first | rfl | go_num, HN, HB⟩, by simp [intOf]; omega⟩
  ·obtain rfl : j = L := by omega
   have HF : Hid (findC q.sk id = none) := hide (findQ_none (by rw [HL.out]; exact HM.out))
   go_wp2
   go_ret
   exact ⟨HB.out, .inl ⟨rfl, HF.out⟩⟩
end Go.Proofs.Ytboofnkajjnmeaa
