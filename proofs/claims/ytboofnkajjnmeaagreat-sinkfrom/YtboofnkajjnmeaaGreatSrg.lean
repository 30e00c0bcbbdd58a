/-
 SinkFrom, as said: which things that were kept are a sink's, by both, that such a sink goes on as the document's does by any operation, and which lists are above each other. No conditions. (Walked here, then its argument and its frame.)
-/
import Derived.Test.YtboofnkajjnmeaaGreatSre
import Derived.Test.YtboofnkajjnmeaaGreatSqu
import Derived.Test.YtboofnkajjnmeaaGreatSqp
import Derived.Test.YtboofnkajjnmeaaGreatSoc
import Derived.SizedLaws
namespace Go.Proofs.YtboofnkajjnmeaaGreat
open Go.RowKit Go.Maps Go.Shelf

def PFro (W : World) (n : Nat) (s : SK) (e : Ending) (w' : World) : Prop := (Fit n s ∧ FroO W s e w') ∨ (¬ Fit n s ∧ e = .returned (.tuple #[.pointer none, .int .i64 1]) ∧ Below W.heap.size W w')
theorem from_any {W : World} {reg : Int} {op vp dp pp : Option Addr} {on oc vn vc dn dc tn pc n : Nat} {out : List RC} {vec done : List Int} {ts : List TP} (h1 : 1 ≤ n) (h4 : n ≤ 4) (hr : RRow W op oc out) (ho : out.length = on) (hv : NRow W vp vc vec) (hvn : vec.length = vn) (hd : NRow W dp dc done) (hdn : done.length = dn) (hdb : dn < 17592186044416) (ht : TL W pp pc ts) (htn : ts.length = tn) : Calls Tryz.prog 5 #[.int .i64 (n : Int), .agg #[.int .i64 reg, .slice op on oc, .slice vp vn vc, .slice dp dn dc, .slice pp tn pc]] W (PFro W n ⟨reg, out, vec, done, ts.map TP.t⟩) := by
 by_cases hf : Fit n ⟨reg, out, vec, done, ts.map TP.t⟩
 ·exact (from_ok h1 h4 hr ho hv hvn hd hdn hdb ht htn hf).mono fun _ _ h => .inl ⟨hf, h⟩
 ·exact (from_no h1 h4 hr ho hv hvn hd hdn hdb ht htn hf).mono fun _ _ h => .inr ⟨hf, h⟩
set_option maxRecDepth 100000 in
set_option maxHeartbeats 16000000 in
theorem sinkfrom_walk {W : World} {parts reg d ep id bg : Int} {op vp dp pp vvp rp xp : Option Addr} {on oc vn vc dn dc tn pc nn nc rc xc : Nat} {out rs : List RC} {vec done nv vs : List Int} {ts : List TP} (hr : RRow W op oc out) (ho : out.length = on) (hv : NRow W vp vc vec) (hvn : vec.length = vn) (hd : NRow W dp dc done) (hdn : done.length = dn) (hdb : dn < 17592186044000) (ht : TL W pp pc ts) (htn : ts.length = tn) (hnv : NRow W vvp nc nv) (hnn : nv.length = nn) (hx : TP.ok ⟨⟨ep, id, bg, rs, vs⟩, rp, rc, xp, xc⟩ W) (hxb : ∀ i, TP.blk ⟨⟨ep, id, bg, rs, vs⟩, rp, rc, xp, xc⟩ i → i < W.heap.size) :
  Calls Tryz.prog 3 #[.agg #[.int .i64 parts, .int .i64 reg, .slice op on oc, .slice vp vn vc, .slice dp dn dc, .slice pp tn pc, .int .i64 d, .int .i64 ep, .int .i64 id, .int .i64 bg, .slice rp rs.length rc, .slice xp vs.length xc, .slice vvp nn nc]] W fun e w' => e = .returned (.bool true) ∧ Below W.heap.size W w' := by
 have HR := hide hr; have HO := hide ho; have HN := hide hv; have HVN := hide hvn; have HD := hide hd; have HDN := hide hdn; have HDB := hide hdb; have HT := hide ht; have HTN := hide htn; have HNV := hide hnv; have HNN := hide hnn; have HX := hide hx; have HXB := hide hxb; clear hr ho hv hvn hd hdn hdb ht htn hnv hnn hx hxb
 obtain ⟨V, hV⟩ : ∃ V, V = W.alloc (.cells #[.int .i64 parts, .int .i64 reg, .slice op on oc, .slice vp vn vc, .slice dp dn dc, .slice pp tn pc, .int .i64 d, .int .i64 ep, .int .i64 id, .int .i64 bg, .slice rp rs.length rc, .slice xp vs.length xc, .slice vvp nn nc] 32 (0, 0)) := ⟨_, rfl⟩
 have HV : Hid (V.heap[W.heap.size]? = some (.cells #[.int .i64 parts, .int .i64 reg, .slice op on oc, .slice vp vn vc, .slice dp dn dc, .slice pp tn pc, .int .i64 d, .int .i64 ep, .int .i64 id, .int .i64 bg, .slice rp rs.length rc, .slice xp vs.length xc, .slice vvp nn nc] 32 (0, 0))) := hide (by rw [hV]; exact heap_alloc_new W _)
 have HBV : Hid (Below W.heap.size W V) := hide (by rw [hV]; exact alloc_below _ _)
 obtain ⟨bB, hbB⟩ : ∃ bB, W.heap.size = bB := ⟨_, rfl⟩
 rw [hbB] at HV HBV
 have HZbB := hide hbB
 have HBW : Hid (Below W.heap.size W V) := hide (by rw [HZbB.out]; exact HBV.out)
 go_enter Tryz.func3, Tryz.ntmps3
 go_upto_region 1 with fail
 rw [← hV]
 try rw [hbB]
 clear hV hbB; have ck0 := cellB HV.out (i := 0) rfl; have ck1 := cellB HV.out (i := 1) rfl; have ck2 := cellB HV.out (i := 2) rfl; have ck3 := cellB HV.out (i := 3) rfl; have ck4 := cellB HV.out (i := 4) rfl; have ck5 := cellB HV.out (i := 5) rfl; have ck6 := cellB HV.out (i := 6) rfl; have ck7 := cellB HV.out (i := 7) rfl; have ck8 := cellB HV.out (i := 8) rfl; have ck9 := cellB HV.out (i := 9) rfl; have ck10 := cellB HV.out (i := 10) rfl; have ck11 := cellB HV.out (i := 11) rfl; have ck12 := cellB HV.out (i := 12) rfl
 go_cut [3, 4, 5, 6] from 11 to 19 (fun a b c e wd => ∃ xB oB, a = .int .i64 parts ∧ b = .pointer (some ⟨xB, 0, none⟩) ∧ c = .pointer (some ⟨oB, 0, none⟩) ∧ e = .slice vvp nn nc ∧ Hid (wd.heap[xB]? = some (.cells #[.int .i64 reg, .slice op on oc, .slice vp vn vc, .slice dp dn dc, .slice pp tn pc] 26 (0, 0))) ∧ Hid (wd.heap[oB]? = some (.cells #[.int .i64 d, .int .i64 ep, .int .i64 id, .int .i64 bg, .slice rp rs.length rc, .slice xp vs.length xc] 30 (0, 0))) ∧ Hid (Below V.heap.size V wd))
 case first =>
  have HB0 : Hid (Below V.heap.size V V.drew) := hide (Below.refl _ V).drew
  have HFA := hide (fun (w9 : World) (hSw : Below V.heap.size V w9) => And.intro (cell_later hSw ck0) (And.intro (cell_later hSw ck1) (And.intro (cell_later hSw ck2) (And.intro (cell_later hSw ck3) (And.intro (cell_later hSw ck4) (And.intro (cell_later hSw ck5) (And.intro (cell_later hSw ck6) (And.intro (cell_later hSw ck7) (And.intro (cell_later hSw ck8) (And.intro (cell_later hSw ck9) (And.intro (cell_later hSw ck10) (And.intro (cell_later hSw ck11) (cell_later hSw ck12)))))))))))))
  refine wp_region_held_drew (S := fun w9 => Below V.heap.size V w9) (by kernel_rfl) HB0.out (fun hHeld => ?_)
  refine tk 0 11 ?_ rfl rfl (by kernel_rfl) (fun _ _ _ h => h) (by assumption) ?_ ?_; rotate_left
  ·intro w hSw; go_simp; all_goals with_reducible rfl
  simp only [Act.put]
  refine tk 1 12 ?_ rfl rfl (by kernel_rfl) (fun _ _ _ h => h) (by assumption) ?_ ?_; rotate_left
  ·intro w hSw; obtain ⟨l0, l1, l2, l3, l4, l5, l6, l7, l8, l9, l10, l11, l12⟩ := HFA.out w hSw; go_simp; all_goals with_reducible rfl
  simp only [Act.put]
  refine tk 2 13 ?_ rfl rfl (by kernel_rfl) (fun _ _ _ h => h) (by assumption) ?_ ?_; rotate_left
  ·intro w hSw; go_simp; all_goals with_reducible rfl
  simp only [Act.put]
  refine tk 3 14 ?_ rfl rfl (by kernel_rfl) (fun _ _ _ h => h) (by assumption) ?_ ?_; rotate_left
  ·intro w hSw; obtain ⟨l0, l1, l2, l3, l4, l5, l6, l7, l8, l9, l10, l11, l12⟩ := HFA.out w hSw; go_simp; all_goals with_reducible rfl
  simp only [Act.put]
  refine tk 4 15 ?_ rfl rfl (by kernel_rfl) (fun _ _ _ h => h) (by assumption) ?_ ?_; rotate_left
  ·intro w hSw; go_simp; all_goals with_reducible rfl
  simp only [Act.put]
  refine tk 5 16 ?_ rfl rfl (by kernel_rfl) (fun _ _ _ h => h) (by assumption) ?_ ?_; rotate_left
  ·intro w hSw; obtain ⟨l0, l1, l2, l3, l4, l5, l6, l7, l8, l9, l10, l11, l12⟩ := HFA.out w hSw; go_simp; all_goals with_reducible rfl
  simp only [Act.put]
  refine tk 6 17 ?_ rfl rfl (by kernel_rfl) (fun _ _ _ h => h) (by assumption) ?_ ?_; rotate_left
  ·intro w hSw; go_simp; all_goals with_reducible rfl
  simp only [Act.put]
  refine tk 7 18 ?_ rfl rfl (by kernel_rfl) (fun _ _ _ h => h) (by assumption) ?_ ?_; rotate_left
  ·intro w hSw; obtain ⟨l0, l1, l2, l3, l4, l5, l6, l7, l8, l9, l10, l11, l12⟩ := HFA.out w hSw; go_simp; all_goals with_reducible rfl
  simp only [Act.put]
  refine rk2 (i := 8) (j := 9) (oi := _) (oj := _) rfl rfl (by kernel_rfl) (by kernel_rfl) (by kernel_rfl) (fun K hK => ?_) (fun K hK => ?_)
  ·
   go_simp
   obtain ⟨w1, hw1⟩ : ∃ w9, w9 = (V.alloc (.cells #[.int .i64 0, .slice none 0 0, .slice none 0 0, .slice none 0 0, .slice none 0 0] 26 (0, 0))).drew := ⟨_, rfl⟩
   rw [← hw1]
   have b0 : Below V.heap.size V w1 := by rw [hw1]; exact (alloc_below _ _).drew
   have HB1 : Hid (Below V.heap.size V w1) := hide (b0)
   obtain ⟨xB, hxB⟩ : ∃ xB, V.heap.size = xB := ⟨_, rfl⟩
   have HXK : Hid (w1.heap[xB]? = some (.cells #[.int .i64 0, .slice none 0 0, .slice none 0 0, .slice none 0 0, .slice none 0 0] 26 (0, 0))) := hide (by rw [hw1, ← hxB]; exact heap_alloc_new V _)
   have HXKB : Hid (V.heap.size ≤ xB) := hide (by rw [← hxB]; exact Nat.le_refl _)
   try rw [hxB]
   have HLT : Hid (xB < w1.heap.size) := hide (box_lt HXK.out)
   clear b0 hw1 hxB
   refine hK.out _ _ HB1.out (fun hHeld => ?_)
   clear hK
   refine rk (i := 9) (o := _) rfl (by kernel_rfl) (by kernel_rfl) (fun K hK => ?_)
   go_simp
   obtain ⟨w2, hw2⟩ : ∃ w9, w9 = w1.alloc (.cells #[.int .i64 0, .int .i64 0, .int .i64 0, .int .i64 0, .slice none 0 0, .slice none 0 0] 30 (0, 0)) := ⟨_, rfl⟩
   rw [← hw2]
   have b0 : Below w1.heap.size w1 w2 := by rw [hw2]; exact alloc_below _ _
   have HB2 : Hid (Below V.heap.size V w2) := hide (HB1.out.trans (b0.mono HB1.out.size))
   obtain ⟨oB, hoB⟩ : ∃ oB, w1.heap.size = oB := ⟨_, rfl⟩
   have HOK : Hid (w2.heap[oB]? = some (.cells #[.int .i64 0, .int .i64 0, .int .i64 0, .int .i64 0, .slice none 0 0, .slice none 0 0] 30 (0, 0))) := hide (by rw [hw2, ← hoB]; exact heap_alloc_new w1 _)
   have HOKB : Hid (V.heap.size ≤ oB) := hide (by rw [← hoB]; exact HB1.out.size)
   try rw [hoB]
   have HXK := hide (below_box b0 HXK.out)
   have HNE : Hid (xB ≠ oB) := hide (by have h9 := box_lt HXK.out; have h8 := box_lt HXK.out; rw [hw2, World.size_alloc] at h9;  intro h7; have h6 : xB < w1.heap.size := HLT.out; omega)
   clear b0 hw2 hoB
   refine hK.out _ _ HB2.out (fun hHeld => ?_)
   clear hK
   refine tk 10 3 ?_ rfl rfl (by kernel_rfl) (fun _ _ _ h => h) (by assumption) ?_ ?_; rotate_left
   ·intro w hSw; go_simp; all_goals with_reducible rfl
   simp only [Act.put]
   refine rk (i := 11) (o := _) rfl (by kernel_rfl) (by kernel_rfl) (fun K hK => ?_)
   have z0 := frB HXK.out (i := 0); have y0 := cellB HXK.out (i := 0) rfl; have z1 := frB HXK.out (i := 1); have y1 := cellB HXK.out (i := 1) rfl; have z2 := frB HXK.out (i := 2); have y2 := cellB HXK.out (i := 2) rfl; have z3 := frB HXK.out (i := 3); have y3 := cellB HXK.out (i := 3) rfl; have z4 := frB HXK.out (i := 4); have y4 := cellB HXK.out (i := 4) rfl
   go_simp
   obtain ⟨w3, hw3⟩ : ∃ w9, w9 = (((((w2.setCell ⟨xB, 0, none⟩ (.int .i64 reg)).setCell ⟨xB, 1, none⟩ (.slice op on oc)).setCell ⟨xB, 2, none⟩ (.slice vp vn vc)).setCell ⟨xB, 3, none⟩ (.slice dp dn dc)).setCell ⟨xB, 4, none⟩ (.slice pp tn pc)) := ⟨_, rfl⟩
   rw [← hw3]
   have ho9 : Only (· = xB) w2 w3 := by rw [hw3]; exact (((((Only.set (F := (· = xB)) w2 xB 0 _ rfl).trans (Only.set (F := (· = xB)) _ xB 1 _ rfl)).trans (Only.set (F := (· = xB)) _ xB 2 _ rfl)).trans (Only.set (F := (· = xB)) _ xB 3 _ rfl)).trans (Only.set (F := (· = xB)) _ xB 4 _ rfl))
   have HXK2 : Hid (w3.heap[xB]? = some (.cells #[.int .i64 reg, .slice op on oc, .slice vp vn vc, .slice dp dn dc, .slice pp tn pc] 26 (0, 0))) := hide (by rw [hw3]; exact (heap_set_sameL (heap_set_sameL (heap_set_sameL (heap_set_sameL (heap_set_sameL HXK.out 0 (.int .i64 reg)) 1 (.slice op on oc)) 2 (.slice vp vn vc)) 3 (.slice dp dn dc)) 4 (.slice pp tn pc)))
   have HB3 : Hid (Below V.heap.size V w3) := hide (HB2.out.trans (ho9.below HB2.out.size (fun i e => by have e9 : i = xB := e; have := HXKB.out; omega)))
   have HOK := hide (ho9.obj HOK.out (fun e => by have e9 : oB = xB := e; exact HNE.out e9.symm))
   clear hw3 ho9 z0 y0 z1 y1 z2 y2 z3 y3 z4 y4
   refine hK.out _ _ HB3.out (fun hHeld => ?_)
   clear hK
   refine rk (i := 12) (o := _) rfl (by kernel_rfl) (by kernel_rfl) (fun K hK => ?_)
   have z0 := frB HOK.out (i := 0); have y0 := cellB HOK.out (i := 0) rfl; have z1 := frB HOK.out (i := 1); have y1 := cellB HOK.out (i := 1) rfl; have z2 := frB HOK.out (i := 2); have y2 := cellB HOK.out (i := 2) rfl; have z3 := frB HOK.out (i := 3); have y3 := cellB HOK.out (i := 3) rfl; have z4 := frB HOK.out (i := 4); have y4 := cellB HOK.out (i := 4) rfl; have z5 := frB HOK.out (i := 5); have y5 := cellB HOK.out (i := 5) rfl
   go_simp
   obtain ⟨w4, hw4⟩ : ∃ w9, w9 = ((((((w3.setCell ⟨oB, 0, none⟩ (.int .i64 d)).setCell ⟨oB, 1, none⟩ (.int .i64 ep)).setCell ⟨oB, 2, none⟩ (.int .i64 id)).setCell ⟨oB, 3, none⟩ (.int .i64 bg)).setCell ⟨oB, 4, none⟩ (.slice rp rs.length rc)).setCell ⟨oB, 5, none⟩ (.slice xp vs.length xc)) := ⟨_, rfl⟩
   rw [← hw4]
   have ho9 : Only (· = oB) w3 w4 := by rw [hw4]; exact ((((((Only.set (F := (· = oB)) w3 oB 0 _ rfl).trans (Only.set (F := (· = oB)) _ oB 1 _ rfl)).trans (Only.set (F := (· = oB)) _ oB 2 _ rfl)).trans (Only.set (F := (· = oB)) _ oB 3 _ rfl)).trans (Only.set (F := (· = oB)) _ oB 4 _ rfl)).trans (Only.set (F := (· = oB)) _ oB 5 _ rfl))
   have HOK2 : Hid (w4.heap[oB]? = some (.cells #[.int .i64 d, .int .i64 ep, .int .i64 id, .int .i64 bg, .slice rp rs.length rc, .slice xp vs.length xc] 30 (0, 0))) := hide (by rw [hw4]; exact (heap_set_sameL (heap_set_sameL (heap_set_sameL (heap_set_sameL (heap_set_sameL (heap_set_sameL HOK.out 0 (.int .i64 d)) 1 (.int .i64 ep)) 2 (.int .i64 id)) 3 (.int .i64 bg)) 4 (.slice rp rs.length rc)) 5 (.slice xp vs.length xc)))
   have HB4 : Hid (Below V.heap.size V w4) := hide (HB3.out.trans (ho9.below HB3.out.size (fun i e => by have e9 : i = oB := e; have := HOKB.out; omega)))
   have HXK2 := hide (ho9.obj HXK2.out (fun e => by have e9 : xB = oB := e; exact HNE.out e9))
   clear hw4 ho9 z0 y0 z1 y1 z2 y2 z3 y3 z4 y4 z5 y5
   refine hK.out _ _ HB4.out (fun hHeld => ?_)
   clear hK
   refine rk (i := 13) (o := _) rfl (by kernel_rfl) (by kernel_rfl) (fun K hK => ?_)
   go_simp
   refine hK.out _ _ HB4.out (fun hHeld => ?_)
   clear hK
   refine wpAnyH_done (by kernel_rfl) ?_ _
   clear ck0 ck1 ck2 ck3 ck4 ck5 ck6 ck7 ck8 ck9 ck10 ck11 ck12
   go_wp2_with fail
   go_meet
   case rel => exact ⟨xB, oB, rfl, rfl, rfl, rfl, HXK2, HOK2, HB4⟩
  ·
   go_simp
   obtain ⟨w1, hw1⟩ : ∃ w9, w9 = (V.alloc (.cells #[.int .i64 0, .int .i64 0, .int .i64 0, .int .i64 0, .slice none 0 0, .slice none 0 0] 30 (0, 0))).drew := ⟨_, rfl⟩
   rw [← hw1]
   have b0 : Below V.heap.size V w1 := by rw [hw1]; exact (alloc_below _ _).drew
   have HB1 : Hid (Below V.heap.size V w1) := hide (b0)
   obtain ⟨oB, hoB⟩ : ∃ oB, V.heap.size = oB := ⟨_, rfl⟩
   have HOK : Hid (w1.heap[oB]? = some (.cells #[.int .i64 0, .int .i64 0, .int .i64 0, .int .i64 0, .slice none 0 0, .slice none 0 0] 30 (0, 0))) := hide (by rw [hw1, ← hoB]; exact heap_alloc_new V _)
   have HOKB : Hid (V.heap.size ≤ oB) := hide (by rw [← hoB]; exact Nat.le_refl _)
   try rw [hoB]
   have HLT : Hid (oB < w1.heap.size) := hide (box_lt HOK.out)
   clear b0 hw1 hoB
   refine hK.out _ _ HB1.out (fun hHeld => ?_)
   clear hK
   refine rk (i := 8) (o := _) rfl (by kernel_rfl) (by kernel_rfl) (fun K hK => ?_)
   go_simp
   obtain ⟨w2, hw2⟩ : ∃ w9, w9 = w1.alloc (.cells #[.int .i64 0, .slice none 0 0, .slice none 0 0, .slice none 0 0, .slice none 0 0] 26 (0, 0)) := ⟨_, rfl⟩
   rw [← hw2]
   have b0 : Below w1.heap.size w1 w2 := by rw [hw2]; exact alloc_below _ _
   have HB2 : Hid (Below V.heap.size V w2) := hide (HB1.out.trans (b0.mono HB1.out.size))
   obtain ⟨xB, hxB⟩ : ∃ xB, w1.heap.size = xB := ⟨_, rfl⟩
   have HXK : Hid (w2.heap[xB]? = some (.cells #[.int .i64 0, .slice none 0 0, .slice none 0 0, .slice none 0 0, .slice none 0 0] 26 (0, 0))) := hide (by rw [hw2, ← hxB]; exact heap_alloc_new w1 _)
   have HXKB : Hid (V.heap.size ≤ xB) := hide (by rw [← hxB]; exact HB1.out.size)
   try rw [hxB]
   have HOK := hide (below_box b0 HOK.out)
   have HNE : Hid (xB ≠ oB) := hide (by have h9 := box_lt HOK.out; have h8 := box_lt HOK.out; rw [hw2, World.size_alloc] at h9;  intro h7; have h6 : oB < w1.heap.size := HLT.out; omega)
   clear b0 hw2 hxB
   refine hK.out _ _ HB2.out (fun hHeld => ?_)
   clear hK
   refine tk 10 3 ?_ rfl rfl (by kernel_rfl) (fun _ _ _ h => h) (by assumption) ?_ ?_; rotate_left
   ·intro w hSw; go_simp; all_goals with_reducible rfl
   simp only [Act.put]
   refine rk (i := 11) (o := _) rfl (by kernel_rfl) (by kernel_rfl) (fun K hK => ?_)
   have z0 := frB HXK.out (i := 0); have y0 := cellB HXK.out (i := 0) rfl; have z1 := frB HXK.out (i := 1); have y1 := cellB HXK.out (i := 1) rfl; have z2 := frB HXK.out (i := 2); have y2 := cellB HXK.out (i := 2) rfl; have z3 := frB HXK.out (i := 3); have y3 := cellB HXK.out (i := 3) rfl; have z4 := frB HXK.out (i := 4); have y4 := cellB HXK.out (i := 4) rfl
   go_simp
   obtain ⟨w3, hw3⟩ : ∃ w9, w9 = (((((w2.setCell ⟨xB, 0, none⟩ (.int .i64 reg)).setCell ⟨xB, 1, none⟩ (.slice op on oc)).setCell ⟨xB, 2, none⟩ (.slice vp vn vc)).setCell ⟨xB, 3, none⟩ (.slice dp dn dc)).setCell ⟨xB, 4, none⟩ (.slice pp tn pc)) := ⟨_, rfl⟩
   rw [← hw3]
   have ho9 : Only (· = xB) w2 w3 := by rw [hw3]; exact (((((Only.set (F := (· = xB)) w2 xB 0 _ rfl).trans (Only.set (F := (· = xB)) _ xB 1 _ rfl)).trans (Only.set (F := (· = xB)) _ xB 2 _ rfl)).trans (Only.set (F := (· = xB)) _ xB 3 _ rfl)).trans (Only.set (F := (· = xB)) _ xB 4 _ rfl))
   have HXK2 : Hid (w3.heap[xB]? = some (.cells #[.int .i64 reg, .slice op on oc, .slice vp vn vc, .slice dp dn dc, .slice pp tn pc] 26 (0, 0))) := hide (by rw [hw3]; exact (heap_set_sameL (heap_set_sameL (heap_set_sameL (heap_set_sameL (heap_set_sameL HXK.out 0 (.int .i64 reg)) 1 (.slice op on oc)) 2 (.slice vp vn vc)) 3 (.slice dp dn dc)) 4 (.slice pp tn pc)))
   have HB3 : Hid (Below V.heap.size V w3) := hide (HB2.out.trans (ho9.below HB2.out.size (fun i e => by have e9 : i = xB := e; have := HXKB.out; omega)))
   have HOK := hide (ho9.obj HOK.out (fun e => by have e9 : oB = xB := e; exact HNE.out e9.symm))
   clear hw3 ho9 z0 y0 z1 y1 z2 y2 z3 y3 z4 y4
   refine hK.out _ _ HB3.out (fun hHeld => ?_)
   clear hK
   refine rk (i := 12) (o := _) rfl (by kernel_rfl) (by kernel_rfl) (fun K hK => ?_)
   have z0 := frB HOK.out (i := 0); have y0 := cellB HOK.out (i := 0) rfl; have z1 := frB HOK.out (i := 1); have y1 := cellB HOK.out (i := 1) rfl; have z2 := frB HOK.out (i := 2); have y2 := cellB HOK.out (i := 2) rfl; have z3 := frB HOK.out (i := 3); have y3 := cellB HOK.out (i := 3) rfl; have z4 := frB HOK.out (i := 4); have y4 := cellB HOK.out (i := 4) rfl; have z5 := frB HOK.out (i := 5); have y5 := cellB HOK.out (i := 5) rfl
   go_simp
   obtain ⟨w4, hw4⟩ : ∃ w9, w9 = ((((((w3.setCell ⟨oB, 0, none⟩ (.int .i64 d)).setCell ⟨oB, 1, none⟩ (.int .i64 ep)).setCell ⟨oB, 2, none⟩ (.int .i64 id)).setCell ⟨oB, 3, none⟩ (.int .i64 bg)).setCell ⟨oB, 4, none⟩ (.slice rp rs.length rc)).setCell ⟨oB, 5, none⟩ (.slice xp vs.length xc)) := ⟨_, rfl⟩
   rw [← hw4]
   have ho9 : Only (· = oB) w3 w4 := by rw [hw4]; exact ((((((Only.set (F := (· = oB)) w3 oB 0 _ rfl).trans (Only.set (F := (· = oB)) _ oB 1 _ rfl)).trans (Only.set (F := (· = oB)) _ oB 2 _ rfl)).trans (Only.set (F := (· = oB)) _ oB 3 _ rfl)).trans (Only.set (F := (· = oB)) _ oB 4 _ rfl)).trans (Only.set (F := (· = oB)) _ oB 5 _ rfl))
   have HOK2 : Hid (w4.heap[oB]? = some (.cells #[.int .i64 d, .int .i64 ep, .int .i64 id, .int .i64 bg, .slice rp rs.length rc, .slice xp vs.length xc] 30 (0, 0))) := hide (by rw [hw4]; exact (heap_set_sameL (heap_set_sameL (heap_set_sameL (heap_set_sameL (heap_set_sameL (heap_set_sameL HOK.out 0 (.int .i64 d)) 1 (.int .i64 ep)) 2 (.int .i64 id)) 3 (.int .i64 bg)) 4 (.slice rp rs.length rc)) 5 (.slice xp vs.length xc)))
   have HB4 : Hid (Below V.heap.size V w4) := hide (HB3.out.trans (ho9.below HB3.out.size (fun i e => by have e9 : i = oB := e; have := HOKB.out; omega)))
   have HXK2 := hide (ho9.obj HXK2.out (fun e => by have e9 : xB = oB := e; exact HNE.out e9))
   clear hw4 ho9 z0 y0 z1 y1 z2 y2 z3 y3 z4 y4 z5 y5
   refine hK.out _ _ HB4.out (fun hHeld => ?_)
   clear hK
   refine rk (i := 13) (o := _) rfl (by kernel_rfl) (by kernel_rfl) (fun K hK => ?_)
   go_simp
   refine hK.out _ _ HB4.out (fun hHeld => ?_)
   clear hK
   refine wpAnyH_done (by kernel_rfl) ?_ _
   clear ck0 ck1 ck2 ck3 ck4 ck5 ck6 ck7 ck8 ck9 ck10 ck11 ck12
   go_wp2_with fail
   go_meet
   case rel => exact ⟨xB, oB, rfl, rfl, rfl, rfl, HXK2, HOK2, HB4⟩
 case rest =>
  obtain ⟨xB, oB, rfl, rfl, rfl, rfl, HXK0, HOK0, HB0⟩ := hcut
  rename World => wd
  clear ck0 ck1 ck2 ck3 ck4 ck5 ck6 ck7 ck8 ck9 ck10 ck11 ck12
  go_wp2_with fail
  refine live_any.mono ?_
  rintro _ w1 ⟨rfl, b1⟩
  have HB1 : Hid (Below V.heap.size V w1) := hide (HB0.out.trans (b1.mono HB0.out.size))
  have HXK1 := hide (below_box b1 HXK0.out); have HOK1 := hide (below_box b1 HOK0.out)
  have HW1 : Hid (Below W.heap.size W w1) := hide (HBW.out.trans (HB1.out.mono HBW.out.size))
  clear b1; have x0 := cellB HXK1.out (i := 0) rfl; have x1 := cellB HXK1.out (i := 1) rfl; have x2 := cellB HXK1.out (i := 2) rfl; have x3 := cellB HXK1.out (i := 3) rfl; have x4 := cellB HXK1.out (i := 4) rfl
  by_cases hp : 1 ≤ parts ∧ parts ≤ 4
  ·obtain ⟨n, hn⟩ : ∃ n : Nat, parts = (n : Int) := ⟨parts.toNat, by omega⟩
   have hn1 : 1 ≤ n := by omega
   have hn4 : n ≤ 4 := by omega
   subst hn
   have H1 := hide hn1; have H4 := hide hn4; clear hp hn1 hn4
   go_wp2_with fail
   refine (from_any H1.out H4.out (RRow.later HR.out HW1.out) HO.out (NRow.later HN.out HW1.out) HVN.out (NRow.later HD.out HW1.out) HDN.out (by have := HDB.out; omega) (HT.out.later HW1.out) HTN.out).mono ?_
   rintro e2 w2 (⟨hf, k, rfl, hk, hs, b2⟩ | ⟨hf, rfl, b2⟩)
   ·have HF := hide hf; have HK := hide hk; have HS := hide hs; have HSZ := hide b2.size
    have HB2 : Hid (Below V.heap.size V w2) := hide (HB1.out.trans (b2.mono HB1.out.size))
    have HXK2 := hide (below_box b2 HXK1.out); have HOK2 := hide (below_box b2 HOK1.out)
    have HW2 : Hid (Below W.heap.size W w2) := hide (HBW.out.trans (HB2.out.mono HBW.out.size))
    clear hf hk hs b2; clear x0 x1 x2 x3 x4; have x0 := cellB HXK2.out (i := 0) rfl; have x1 := cellB HXK2.out (i := 1) rfl; have x2 := cellB HXK2.out (i := 2) rfl; have x3 := cellB HXK2.out (i := 3) rfl; have x4 := cellB HXK2.out (i := 4) rfl
    obtain ⟨kb, hkb⟩ : ∃ kb, k.b = kb := ⟨_, rfl⟩
    have HKB := hide hkb
    rw [hkb]
    clear hkb
    go_wp2_with fail
    refine (rfrom_any H1.out H4.out (RRow.later HR.out HW2.out) HO.out (NRow.later HN.out HW2.out) HVN.out (NRow.later HD.out HW2.out) HDN.out (by have := HDB.out; omega) (HT.out.later HW2.out) HTN.out).mono ?_
    rintro e3 w3 (⟨_, b, q, rfl, hq, hqs, b3⟩ | ⟨hf, rfl, b3⟩)
    ·have HQ := hide hq; have HQS := hide hqs
     have HB3 : Hid (Below V.heap.size V w3) := hide (HB2.out.trans (b3.mono HB2.out.size))
     have HXK3 := hide (below_box b3 HXK2.out); have HOK3 := hide (below_box b3 HOK2.out)
     have HW3 : Hid (Below W.heap.size W w3) := hide (HBW.out.trans (HB3.out.mono HBW.out.size))
     have HTW : Hid (TwS w1.heap.size w3 k b n q) := hide (by
       obtain ⟨hrs, hge⟩ := hq.rs
       have hlt : ∀ i, k.blk i → i < w2.heap.size := fun i hi => (HK.out.lt hi).2
       exact ⟨HK.out.later b3, hrs, fun h9 => by have := hlt b h9; have := hq.ge; omega, fun i hi h9 => by have := hlt i h9; have := hge i hi; omega, Nat.le_trans HSZ.out hq.ge⟩)
     clear hq hqs b3; clear x0 x1 x2 x3 x4; have x0 := cellB HXK3.out (i := 0) rfl; have x1 := cellB HXK3.out (i := 1) rfl; have x2 := cellB HXK3.out (i := 2) rfl; have x3 := cellB HXK3.out (i := 3) rfl; have x4 := cellB HXK3.out (i := 4) rfl
     obtain ⟨ra, hra⟩ : ∃ ra, aboveC nv vec = ra := ⟨_, rfl⟩
     have HRA := hide hra; clear hra
     go_upto_region 6 with fail
     have HZ0 : Hid (Below w3.heap.size w3 w3.drew) := hide (Below.refl _ w3).drew
     have HFA := hide (fun (w9 : World) (hSw : Below w3.heap.size w3 w9) => cell_later hSw x2)
     refine wp_region_held_drew (S := fun w9 => Below w3.heap.size w3 w9) (by kernel_rfl) HZ0.out (fun hHeld => ?_)
     refine tk 0 33 ?_ rfl rfl (by kernel_rfl) (fun _ _ _ h => h) (by assumption) ?_ ?_; rotate_left
     ·intro w hSw; go_simp; all_goals with_reducible rfl
     simp only [Act.put]
     refine tk 1 34 ?_ rfl rfl (by kernel_rfl) (fun _ _ _ h => h) (by assumption) ?_ ?_; rotate_left
     ·intro w hSw; go_simp; all_goals with_reducible rfl
     simp only [Act.put]
     refine tk 2 35 ?_ rfl rfl (by kernel_rfl) (fun _ _ _ h => h) (by assumption) ?_ ?_; rotate_left
     ·intro w hSw; go_simp; all_goals with_reducible rfl
     simp only [Act.put]
     refine tk 3 36 ?_ rfl rfl (by kernel_rfl) (fun _ _ _ h => h) (by assumption) ?_ ?_; rotate_left
     ·intro w hSw; go_simp; all_goals with_reducible rfl
     simp only [Act.put]
     refine tk 4 37 ?_ rfl rfl (by kernel_rfl) (fun _ _ _ h => h) (by assumption) ?_ ?_; rotate_left
     ·intro w hSw; go_simp; all_goals with_reducible rfl
     simp only [Act.put]
     refine tk 5 38 ?_ rfl rfl (by kernel_rfl) (fun _ _ _ h => h) (by assumption) ?_ ?_; rotate_left
     ·intro w hSw; go_simp; all_goals with_reducible rfl
     simp only [Act.put]
     refine tk 6 39 ?_ rfl rfl (by kernel_rfl) (fun _ _ _ h => h) (by assumption) ?_ ?_; rotate_left
     ·intro w hSw; go_simp; all_goals with_reducible rfl
     simp only [Act.put]
     refine tk 7 40 ?_ rfl rfl (by kernel_rfl) (fun _ _ _ h => h) (by assumption) ?_ ?_; rotate_left
     ·intro w hSw; go_simp; all_goals with_reducible rfl
     simp only [Act.put]
     refine tk 8 41 ?_ rfl rfl (by kernel_rfl) (fun _ _ _ h => h) (by assumption) ?_ ?_; rotate_left
     ·intro w hSw; go_simp; all_goals with_reducible rfl
     simp only [Act.put]
     refine tk 9 42 ?_ rfl rfl (by kernel_rfl) (fun _ _ _ h => h) (by assumption) ?_ ?_; rotate_left
     ·intro w hSw; go_simp; all_goals with_reducible rfl
     simp only [Act.put]
     refine tk 10 43 ?_ rfl rfl (by kernel_rfl) (fun _ _ _ h => h) (by assumption) ?_ ?_; rotate_left
     ·intro w hSw; go_simp; all_goals with_reducible rfl
     simp only [Act.put]
     refine tk 11 44 ?_ rfl rfl (by kernel_rfl) (fun _ _ _ h => h) (by assumption) ?_ ?_; rotate_left
     ·intro w hSw; go_simp; all_goals with_reducible rfl
     simp only [Act.put]
     refine tk 12 45 ?_ rfl rfl (by kernel_rfl) (fun _ _ _ h => h) (by assumption) ?_ ?_; rotate_left
     ·intro w hSw; go_simp; all_goals with_reducible rfl
     simp only [Act.put]
     refine tk 13 46 ?_ rfl rfl (by kernel_rfl) (fun _ _ _ h => h) (by assumption) ?_ ?_; rotate_left
     ·intro w hSw; have l2 := HFA.out w hSw; go_simp; all_goals with_reducible rfl
     simp only [Act.put]
     refine tk 15 48 ?_ rfl rfl (by kernel_rfl) (fun _ _ _ h => h) (by assumption) ?_ ?_; rotate_left
     ·intro w hSw; go_simp; all_goals with_reducible rfl
     simp only [Act.put]
     refine tk 16 49 ?_ rfl rfl (by kernel_rfl) (fun _ _ _ h => h) (by assumption) ?_ ?_; rotate_left
     ·intro w hSw; go_simp; all_goals with_reducible rfl
     simp only [Act.put]
     refine tk 17 50 ?_ rfl rfl (by kernel_rfl) (fun _ _ _ h => h) (by assumption) ?_ ?_; rotate_left
     ·intro w hSw; have l2 := HFA.out w hSw; go_simp; all_goals with_reducible rfl
     simp only [Act.put]
     refine rk (i := 14) (o := _) rfl (by kernel_rfl) (by kernel_rfl) (fun K hK => ?_)
     go_simp
     refine (above_any (a := nv) (b := vec) (NRow.later HNV.out (HW3.out.trans (HZ0.out.mono HW3.out.size))) (NRow.later HN.out (HW3.out.trans (HZ0.out.mono HW3.out.size))) HNN.out HVN.out HRA.out).mono ?_
     rintro _ z1 ⟨rfl, b9⟩
     have HZ1 : Hid (Below w3.heap.size w3 z1) := hide (HZ0.out.trans (b9.mono HZ0.out.size))
     clear b9
     go_wp2_with fail
     refine hK.out _ _ HZ1.out (fun hHeld => ?_)
     clear hK
     refine rk (i := 18) (o := _) rfl (by kernel_rfl) (by kernel_rfl) (fun K hK => ?_)
     go_simp
     refine (rabove_any (a := nv) (b := vec) (NRow.later HNV.out (HW3.out.trans (HZ1.out.mono HW3.out.size))) (NRow.later HN.out (HW3.out.trans (HZ1.out.mono HW3.out.size))) HNN.out HVN.out HRA.out).mono ?_
     rintro _ z2 ⟨rfl, b9⟩
     have HZ2 : Hid (Below w3.heap.size w3 z2) := hide (HZ1.out.trans (b9.mono HZ1.out.size))
     clear b9
     go_wp2_with fail
     refine hK.out _ _ HZ2.out (fun hHeld => ?_)
     clear hK
     refine tk 19 52 ?_ rfl rfl (by kernel_rfl) (fun _ _ _ h => h) (by assumption) ?_ ?_; rotate_left
     ·intro w hSw; go_simp; all_goals with_reducible rfl
     simp only [Act.put]
     refine rk (i := 20) (o := _) rfl (by kernel_rfl) (by kernel_rfl) (fun K hK => ?_)
     go_simp
     refine hK.out _ _ HZ2.out (fun hHeld => ?_)
     clear hK
     refine wpAnyH_done (by kernel_rfl) ?_ _
     obtain ⟨X6, rfl⟩ : ∃ X6, X6 = z2 := ⟨_, rfl⟩
     have HX6 := HZ2; clear HFA hHeld
     have HW6 : Hid (Below W.heap.size W X6) := hide (HW3.out.trans (HX6.out.mono HW3.out.size))
     have HT6 := hide (HTW.out.later HX6.out); have HOK6 := hide (below_box HX6.out HOK3.out); clear x0 x1 x2 x3 x4; have y0 := cellB HOK6.out (i := 0) rfl; have y1 := cellB HOK6.out (i := 1) rfl; have y2 := cellB HOK6.out (i := 2) rfl; have y3 := cellB HOK6.out (i := 3) rfl; have y4 := cellB HOK6.out (i := 4) rfl; have y5 := cellB HOK6.out (i := 5) rfl
     go_upto_region 8 with fail
     have HXX : Hid (∀ i, TP.blk ⟨⟨ep, id, bg, rs, vs⟩, rp, rc, xp, xc⟩ i → ¬ k.blk i ∧ ¬ i = b ∧ i < X6.heap.size) := hide (fun i hi => by
       have h9 := HXB.out i hi
       have h8 := HW1.out.size
       refine ⟨fun h7 => ?_, fun h7 => ?_, Nat.lt_of_lt_of_le h9 HW6.out.size⟩
       · have := (HK.out.lt h7).1
         omega
       · have h6 := HT6.out.ge
         omega)
     have HOB : Hid (¬ (k.blk oB ∨ oB = b)) := hide (fun h9 => by
       have h8 := box_lt HOK1.out
       rcases h9 with h9 | h9
       · have := (HK.out.lt h9).1
         omega
       · have h6 := HT6.out.ge
         omega)
     have HSE : Hid (q.sk = k.sk) := hide (by rw [HQS.out, HS.out])
     have HVE : Hid (k.vec.length = n) := hide (by
       have h9 : (k.vec.length : Int) = n := by
         rw [show k.vec = vec from congrArg SK.vec HS.out]
         exact HF.out.vec.1
       omega)
     have HDE : Hid (k.sk.done.length < 17592186044000) := hide (by
       rw [show k.sk.done = done from congrArg SK.done HS.out, HDN.out]
       exact HDB.out)
     go_wp2_with fail
     rw [← HKB.out]
     refine (does_any (y := ⟨d, ⟨⟨ep, id, bg, rs, vs⟩, rp, rc, xp, xc⟩⟩) HT6.out HSE.out HVE.out (by have := HDE.out; have h9 : k.done.length = k.sk.done.length := rfl; omega) (HX.out.later HW6.out) HXX.out).mono ?_
     rintro _ w8 ⟨rfl, k8, q8, hi8, hk8, hq8⟩
     have HI8 := hide hi8; have HK8 := hide hk8; have HQ8 := hide hq8
     have HON8 : Hid (Only (fun i => k.blk i ∨ i = b) X6 w8) := hide HI8.out.only
     clear hi8 hk8 hq8
     rw [HKB.out]
     have l0 := HON8.out.cell y0 HOB.out; have l1 := HON8.out.cell y1 HOB.out; have l2 := HON8.out.cell y2 HOB.out; have l3 := HON8.out.cell y3 HOB.out; have l4 := HON8.out.cell y4 HOB.out; have l5 := HON8.out.cell y5 HOB.out; clear y0 y1 y2 y3 y4 y5
     go_wp2_with fail
     rw [← HKB.out, ← HI8.out.kb]
     refine (same_any (y := ⟨d, ⟨⟨ep, id, bg, rs, vs⟩, rp, rc, xp, xc⟩⟩) HI8.out.tw HQ8.out (by
       have h9 := do_len n k.sk ⟨d, ⟨⟨ep, id, bg, rs, vs⟩, rp, rc, xp, xc⟩⟩
       rw [← HK8.out] at h9
       have h8 := HDE.out
       have h7 : k8.sk.done.length = k8.done.length := rfl
       omega)).mono ?_
     rintro _ w9 ⟨rfl, b9⟩
     have HON9 : Hid (Only (fun i => k.blk i ∨ i = b) X6 w9) := hide (HON8.out.trans (Only.fresh b9 _))
     clear b9 l0 l1 l2 l3 l4 l5; go_wp2; go_ret
     refine ⟨rfl, HW6.out.trans (HON9.out.below HW6.out.size (fun i e => ?_))⟩
     rcases e with e | e
     ·have := (HK.out.lt e).1
      have := HW1.out.size
      omega
     ·have := HT6.out.ge
      have := HW1.out.size
      omega
    ·exact absurd HF.out hf
   ·have HF := hide hf
    have HB2 : Hid (Below V.heap.size V w2) := hide (HB1.out.trans (b2.mono HB1.out.size))
    have HXK2 := hide (below_box b2 HXK1.out); have HOK2 := hide (below_box b2 HOK1.out)
    have HW2 : Hid (Below W.heap.size W w2) := hide (HBW.out.trans (HB2.out.mono HBW.out.size))
    clear hf b2; clear x0 x1 x2 x3 x4; have x0 := cellB HXK2.out (i := 0) rfl; have x1 := cellB HXK2.out (i := 1) rfl; have x2 := cellB HXK2.out (i := 2) rfl; have x3 := cellB HXK2.out (i := 3) rfl; have x4 := cellB HXK2.out (i := 4) rfl
    go_wp2_with fail
    refine (rfrom_any H1.out H4.out (RRow.later HR.out HW2.out) HO.out (NRow.later HN.out HW2.out) HVN.out (NRow.later HD.out HW2.out) HDN.out (by have := HDB.out; omega) (HT.out.later HW2.out) HTN.out).mono ?_
    rintro e3 w3 (⟨hf, b, q, rfl, hq, hqs, b3⟩ | ⟨_, rfl, b3⟩)
    ·exact absurd hf HF.out
    ·
     have HB3 : Hid (Below V.heap.size V w3) := hide (HB2.out.trans (b3.mono HB2.out.size))
     have HXK3 := hide (below_box b3 HXK2.out); have HOK3 := hide (below_box b3 HOK2.out)
     have HW3 : Hid (Below W.heap.size W w3) := hide (HBW.out.trans (HB3.out.mono HBW.out.size))
     clear b3; clear x0 x1 x2 x3 x4; have x0 := cellB HXK3.out (i := 0) rfl; have x1 := cellB HXK3.out (i := 1) rfl; have x2 := cellB HXK3.out (i := 2) rfl; have x3 := cellB HXK3.out (i := 3) rfl; have x4 := cellB HXK3.out (i := 4) rfl
     obtain ⟨ra, hra⟩ : ∃ ra, aboveC nv vec = ra := ⟨_, rfl⟩
     have HRA := hide hra; clear hra
     go_upto_region 6 with fail
     have HZ0 : Hid (Below w3.heap.size w3 w3.drew) := hide (Below.refl _ w3).drew
     have HFA := hide (fun (w9 : World) (hSw : Below w3.heap.size w3 w9) => cell_later hSw x2)
     refine wp_region_held_drew (S := fun w9 => Below w3.heap.size w3 w9) (by kernel_rfl) HZ0.out (fun hHeld => ?_)
     refine tk 0 33 ?_ rfl rfl (by kernel_rfl) (fun _ _ _ h => h) (by assumption) ?_ ?_; rotate_left
     ·intro w hSw; go_simp; all_goals with_reducible rfl
     simp only [Act.put]
     refine tk 1 34 ?_ rfl rfl (by kernel_rfl) (fun _ _ _ h => h) (by assumption) ?_ ?_; rotate_left
     ·intro w hSw; go_simp; all_goals with_reducible rfl
     simp only [Act.put]
     refine tk 2 35 ?_ rfl rfl (by kernel_rfl) (fun _ _ _ h => h) (by assumption) ?_ ?_; rotate_left
     ·intro w hSw; go_simp; all_goals with_reducible rfl
     simp only [Act.put]
     refine tk 3 36 ?_ rfl rfl (by kernel_rfl) (fun _ _ _ h => h) (by assumption) ?_ ?_; rotate_left
     ·intro w hSw; go_simp; all_goals with_reducible rfl
     simp only [Act.put]
     refine tk 4 37 ?_ rfl rfl (by kernel_rfl) (fun _ _ _ h => h) (by assumption) ?_ ?_; rotate_left
     ·intro w hSw; go_simp; all_goals with_reducible rfl
     simp only [Act.put]
     refine tk 5 38 ?_ rfl rfl (by kernel_rfl) (fun _ _ _ h => h) (by assumption) ?_ ?_; rotate_left
     ·intro w hSw; go_simp; all_goals with_reducible rfl
     simp only [Act.put]
     refine tk 6 39 ?_ rfl rfl (by kernel_rfl) (fun _ _ _ h => h) (by assumption) ?_ ?_; rotate_left
     ·intro w hSw; go_simp; all_goals with_reducible rfl
     simp only [Act.put]
     refine tk 7 40 ?_ rfl rfl (by kernel_rfl) (fun _ _ _ h => h) (by assumption) ?_ ?_; rotate_left
     ·intro w hSw; go_simp; all_goals with_reducible rfl
     simp only [Act.put]
     refine tk 8 41 ?_ rfl rfl (by kernel_rfl) (fun _ _ _ h => h) (by assumption) ?_ ?_; rotate_left
     ·intro w hSw; go_simp; all_goals with_reducible rfl
     simp only [Act.put]
     refine tk 9 42 ?_ rfl rfl (by kernel_rfl) (fun _ _ _ h => h) (by assumption) ?_ ?_; rotate_left
     ·intro w hSw; go_simp; all_goals with_reducible rfl
     simp only [Act.put]
     refine tk 10 43 ?_ rfl rfl (by kernel_rfl) (fun _ _ _ h => h) (by assumption) ?_ ?_; rotate_left
     ·intro w hSw; go_simp; all_goals with_reducible rfl
     simp only [Act.put]
     refine tk 11 44 ?_ rfl rfl (by kernel_rfl) (fun _ _ _ h => h) (by assumption) ?_ ?_; rotate_left
     ·intro w hSw; go_simp; all_goals with_reducible rfl
     simp only [Act.put]
     refine tk 12 45 ?_ rfl rfl (by kernel_rfl) (fun _ _ _ h => h) (by assumption) ?_ ?_; rotate_left
     ·intro w hSw; go_simp; all_goals with_reducible rfl
     simp only [Act.put]
     refine tk 13 46 ?_ rfl rfl (by kernel_rfl) (fun _ _ _ h => h) (by assumption) ?_ ?_; rotate_left
     ·intro w hSw; have l2 := HFA.out w hSw; go_simp; all_goals with_reducible rfl
     simp only [Act.put]
     refine tk 15 48 ?_ rfl rfl (by kernel_rfl) (fun _ _ _ h => h) (by assumption) ?_ ?_; rotate_left
     ·intro w hSw; go_simp; all_goals with_reducible rfl
     simp only [Act.put]
     refine tk 16 49 ?_ rfl rfl (by kernel_rfl) (fun _ _ _ h => h) (by assumption) ?_ ?_; rotate_left
     ·intro w hSw; go_simp; all_goals with_reducible rfl
     simp only [Act.put]
     refine tk 17 50 ?_ rfl rfl (by kernel_rfl) (fun _ _ _ h => h) (by assumption) ?_ ?_; rotate_left
     ·intro w hSw; have l2 := HFA.out w hSw; go_simp; all_goals with_reducible rfl
     simp only [Act.put]
     refine rk (i := 14) (o := _) rfl (by kernel_rfl) (by kernel_rfl) (fun K hK => ?_)
     go_simp
     refine (above_any (a := nv) (b := vec) (NRow.later HNV.out (HW3.out.trans (HZ0.out.mono HW3.out.size))) (NRow.later HN.out (HW3.out.trans (HZ0.out.mono HW3.out.size))) HNN.out HVN.out HRA.out).mono ?_
     rintro _ z1 ⟨rfl, b9⟩
     have HZ1 : Hid (Below w3.heap.size w3 z1) := hide (HZ0.out.trans (b9.mono HZ0.out.size))
     clear b9
     go_wp2_with fail
     refine hK.out _ _ HZ1.out (fun hHeld => ?_)
     clear hK
     refine rk (i := 18) (o := _) rfl (by kernel_rfl) (by kernel_rfl) (fun K hK => ?_)
     go_simp
     refine (rabove_any (a := nv) (b := vec) (NRow.later HNV.out (HW3.out.trans (HZ1.out.mono HW3.out.size))) (NRow.later HN.out (HW3.out.trans (HZ1.out.mono HW3.out.size))) HNN.out HVN.out HRA.out).mono ?_
     rintro _ z2 ⟨rfl, b9⟩
     have HZ2 : Hid (Below w3.heap.size w3 z2) := hide (HZ1.out.trans (b9.mono HZ1.out.size))
     clear b9
     go_wp2_with fail
     refine hK.out _ _ HZ2.out (fun hHeld => ?_)
     clear hK
     refine tk 19 52 ?_ rfl rfl (by kernel_rfl) (fun _ _ _ h => h) (by assumption) ?_ ?_; rotate_left
     ·intro w hSw; go_simp; all_goals with_reducible rfl
     simp only [Act.put]
     refine rk (i := 20) (o := _) rfl (by kernel_rfl) (by kernel_rfl) (fun K hK => ?_)
     go_simp
     refine hK.out _ _ HZ2.out (fun hHeld => ?_)
     clear hK
     refine wpAnyH_done (by kernel_rfl) ?_ _
     obtain ⟨X6, rfl⟩ : ∃ X6, X6 = z2 := ⟨_, rfl⟩
     have HX6 := HZ2; clear HFA hHeld
     have HW6 : Hid (Below W.heap.size W X6) := hide (HW3.out.trans (HX6.out.mono HW3.out.size))
     clear x0 x1 x2 x3 x4; go_wp2; go_ret
     exact ⟨rfl, HW6.out⟩
  ·have HP := hide hp; clear hp
   go_wp2_with fail
   refine (from_bad rfl HP.out).mono ?_
   rintro _ w2 ⟨rfl, b2⟩
   have HB2 : Hid (Below V.heap.size V w2) := hide (HB1.out.trans (b2.mono HB1.out.size))
   have HXK2 := hide (below_box b2 HXK1.out); have HOK2 := hide (below_box b2 HOK1.out)
   have HW2 : Hid (Below W.heap.size W w2) := hide (HBW.out.trans (HB2.out.mono HBW.out.size))
   clear b2; clear x0 x1 x2 x3 x4; have x0 := cellB HXK2.out (i := 0) rfl; have x1 := cellB HXK2.out (i := 1) rfl; have x2 := cellB HXK2.out (i := 2) rfl; have x3 := cellB HXK2.out (i := 3) rfl; have x4 := cellB HXK2.out (i := 4) rfl
   go_wp2_with fail
   refine (rfrom_bad HP.out).mono ?_
   rintro _ w3 ⟨rfl, b3⟩
   have HB3 : Hid (Below V.heap.size V w3) := hide (HB2.out.trans (b3.mono HB2.out.size))
   have HXK3 := hide (below_box b3 HXK2.out); have HOK3 := hide (below_box b3 HOK2.out)
   have HW3 : Hid (Below W.heap.size W w3) := hide (HBW.out.trans (HB3.out.mono HBW.out.size))
   clear b3; clear x0 x1 x2 x3 x4; have x0 := cellB HXK3.out (i := 0) rfl; have x1 := cellB HXK3.out (i := 1) rfl; have x2 := cellB HXK3.out (i := 2) rfl; have x3 := cellB HXK3.out (i := 3) rfl; have x4 := cellB HXK3.out (i := 4) rfl
   obtain ⟨ra, hra⟩ : ∃ ra, aboveC nv vec = ra := ⟨_, rfl⟩
   have HRA := hide hra; clear hra
   go_upto_region 6 with fail
   have HZ0 : Hid (Below w3.heap.size w3 w3.drew) := hide (Below.refl _ w3).drew
   have HFA := hide (fun (w9 : World) (hSw : Below w3.heap.size w3 w9) => cell_later hSw x2)
   refine wp_region_held_drew (S := fun w9 => Below w3.heap.size w3 w9) (by kernel_rfl) HZ0.out (fun hHeld => ?_)
   refine tk 0 33 ?_ rfl rfl (by kernel_rfl) (fun _ _ _ h => h) (by assumption) ?_ ?_; rotate_left
   ·intro w hSw; go_simp; all_goals with_reducible rfl
   simp only [Act.put]
   refine tk 1 34 ?_ rfl rfl (by kernel_rfl) (fun _ _ _ h => h) (by assumption) ?_ ?_; rotate_left
   ·intro w hSw; go_simp; all_goals with_reducible rfl
   simp only [Act.put]
   refine tk 2 35 ?_ rfl rfl (by kernel_rfl) (fun _ _ _ h => h) (by assumption) ?_ ?_; rotate_left
   ·intro w hSw; go_simp; all_goals with_reducible rfl
   simp only [Act.put]
   refine tk 3 36 ?_ rfl rfl (by kernel_rfl) (fun _ _ _ h => h) (by assumption) ?_ ?_; rotate_left
   ·intro w hSw; go_simp; all_goals with_reducible rfl
   simp only [Act.put]
   refine tk 4 37 ?_ rfl rfl (by kernel_rfl) (fun _ _ _ h => h) (by assumption) ?_ ?_; rotate_left
   ·intro w hSw; go_simp; all_goals with_reducible rfl
   simp only [Act.put]
   refine tk 5 38 ?_ rfl rfl (by kernel_rfl) (fun _ _ _ h => h) (by assumption) ?_ ?_; rotate_left
   ·intro w hSw; go_simp; all_goals with_reducible rfl
   simp only [Act.put]
   refine tk 6 39 ?_ rfl rfl (by kernel_rfl) (fun _ _ _ h => h) (by assumption) ?_ ?_; rotate_left
   ·intro w hSw; go_simp; all_goals with_reducible rfl
   simp only [Act.put]
   refine tk 7 40 ?_ rfl rfl (by kernel_rfl) (fun _ _ _ h => h) (by assumption) ?_ ?_; rotate_left
   ·intro w hSw; go_simp; all_goals with_reducible rfl
   simp only [Act.put]
   refine tk 8 41 ?_ rfl rfl (by kernel_rfl) (fun _ _ _ h => h) (by assumption) ?_ ?_; rotate_left
   ·intro w hSw; go_simp; all_goals with_reducible rfl
   simp only [Act.put]
   refine tk 9 42 ?_ rfl rfl (by kernel_rfl) (fun _ _ _ h => h) (by assumption) ?_ ?_; rotate_left
   ·intro w hSw; go_simp; all_goals with_reducible rfl
   simp only [Act.put]
   refine tk 10 43 ?_ rfl rfl (by kernel_rfl) (fun _ _ _ h => h) (by assumption) ?_ ?_; rotate_left
   ·intro w hSw; go_simp; all_goals with_reducible rfl
   simp only [Act.put]
   refine tk 11 44 ?_ rfl rfl (by kernel_rfl) (fun _ _ _ h => h) (by assumption) ?_ ?_; rotate_left
   ·intro w hSw; go_simp; all_goals with_reducible rfl
   simp only [Act.put]
   refine tk 12 45 ?_ rfl rfl (by kernel_rfl) (fun _ _ _ h => h) (by assumption) ?_ ?_; rotate_left
   ·intro w hSw; go_simp; all_goals with_reducible rfl
   simp only [Act.put]
   refine tk 13 46 ?_ rfl rfl (by kernel_rfl) (fun _ _ _ h => h) (by assumption) ?_ ?_; rotate_left
   ·intro w hSw; have l2 := HFA.out w hSw; go_simp; all_goals with_reducible rfl
   simp only [Act.put]
   refine tk 15 48 ?_ rfl rfl (by kernel_rfl) (fun _ _ _ h => h) (by assumption) ?_ ?_; rotate_left
   ·intro w hSw; go_simp; all_goals with_reducible rfl
   simp only [Act.put]
   refine tk 16 49 ?_ rfl rfl (by kernel_rfl) (fun _ _ _ h => h) (by assumption) ?_ ?_; rotate_left
   ·intro w hSw; go_simp; all_goals with_reducible rfl
   simp only [Act.put]
   refine tk 17 50 ?_ rfl rfl (by kernel_rfl) (fun _ _ _ h => h) (by assumption) ?_ ?_; rotate_left
   ·intro w hSw; have l2 := HFA.out w hSw; go_simp; all_goals with_reducible rfl
   simp only [Act.put]
   refine rk (i := 14) (o := _) rfl (by kernel_rfl) (by kernel_rfl) (fun K hK => ?_)
   go_simp
   refine (above_any (a := nv) (b := vec) (NRow.later HNV.out (HW3.out.trans (HZ0.out.mono HW3.out.size))) (NRow.later HN.out (HW3.out.trans (HZ0.out.mono HW3.out.size))) HNN.out HVN.out HRA.out).mono ?_
   rintro _ z1 ⟨rfl, b9⟩
   have HZ1 : Hid (Below w3.heap.size w3 z1) := hide (HZ0.out.trans (b9.mono HZ0.out.size))
   clear b9
   go_wp2_with fail
   refine hK.out _ _ HZ1.out (fun hHeld => ?_)
   clear hK
   refine rk (i := 18) (o := _) rfl (by kernel_rfl) (by kernel_rfl) (fun K hK => ?_)
   go_simp
   refine (rabove_any (a := nv) (b := vec) (NRow.later HNV.out (HW3.out.trans (HZ1.out.mono HW3.out.size))) (NRow.later HN.out (HW3.out.trans (HZ1.out.mono HW3.out.size))) HNN.out HVN.out HRA.out).mono ?_
   rintro _ z2 ⟨rfl, b9⟩
   have HZ2 : Hid (Below w3.heap.size w3 z2) := hide (HZ1.out.trans (b9.mono HZ1.out.size))
   clear b9
   go_wp2_with fail
   refine hK.out _ _ HZ2.out (fun hHeld => ?_)
   clear hK
   refine tk 19 52 ?_ rfl rfl (by kernel_rfl) (fun _ _ _ h => h) (by assumption) ?_ ?_; rotate_left
   ·intro w hSw; go_simp; all_goals with_reducible rfl
   simp only [Act.put]
   refine rk (i := 20) (o := _) rfl (by kernel_rfl) (by kernel_rfl) (fun K hK => ?_)
   go_simp
   refine hK.out _ _ HZ2.out (fun hHeld => ?_)
   clear hK
   refine wpAnyH_done (by kernel_rfl) ?_ _
   obtain ⟨X6, rfl⟩ : ∃ X6, X6 = z2 := ⟨_, rfl⟩
   have HX6 := HZ2; clear HFA hHeld
   have HW6 : Hid (Below W.heap.size W X6) := hide (HW3.out.trans (HX6.out.mono HW3.out.size))
   clear x0 x1 x2 x3 x4; go_wp2; go_ret
   exact ⟨rfl, HW6.out⟩
end Go.Proofs.YtboofnkajjnmeaaGreat

/-
  SinkFrom's argument, as said; its frame. No conditions.
-/
namespace Go.Proofs.YtboofnkajjnmeaaGreat
open Go.ChangeShapes Go.WideShapes Go.ChangeAt Go.RowKit

def Sz {H : Type} (t : TypeId) (d : DataW H) : Prop := (d.weights Tryz.prog t).all (· ≤ reachBytes) = true
theorem sz_each {H : Type} {ts : List TypeId} {ds : List (DataW H)} (h : (DataW.weightsEach Tryz.prog ts ds).all (· ≤ reachBytes) = true) {j : Nat} {t : TypeId} {d : DataW H} (ht : ts[j]? = some t) (hd : ds[j]? = some d) : Sz t d :=
  List.all_eq_true.2 (fun w hw => List.all_eq_true.1 h w (DataW.weights_mem_each ht hd w hw))
theorem sz_field {H : Type} {t ty : TypeId} {fs : Array Field} {ds : List (DataW H)} {d : DataW H} {j : Nat} (hu : Tryz.prog.underlying t = some (.struct fs)) (h : Sz t (.agg ds)) (ht : (fs.toList.map (·.type))[j]? = some ty) (hd : ds[j]? = some d) : Sz ty d := by
  unfold Sz at h
  simp only [DataW.weights, hu] at h
  exact sz_each h ht hd
theorem sized_of {H : Type} {t e : TypeId} {d : DataW H} {len cap bytes : Nat} (h : Sz t d) (hu : Tryz.prog.underlying t = some (.slice e)) (hb : Tryz.prog.bytesOf e = bytes) (hD : DatumOf d len cap) : len * bytes ≤ 140737488351232 := by
  rcases hD with ⟨_, hl, _⟩ | ⟨elems, spare, rfl, hl, _⟩
  · rw [hl]; omega
  · have h9 : (elems.length + spare.length) * Tryz.prog.bytesOf e ≤ reachBytes := by
      unfold Sz at h
      simp only [DataW.weights, hu] at h
      have := List.all_eq_true.1 h ((elems.length + spare.length) * Tryz.prog.bytesOf e) (by simp)
      simpa using this
    rw [hb] at h9
    have h2 : len * bytes ≤ (elems.length + spare.length) * bytes := Nat.mul_le_mul_right _ (by omega)
    unfold reachBytes at h9
    omega
theorem Tryz.cellsSinkS : Tryz.prog.cellsOf 26 = 5 := by kernel_rfl
theorem Tryz.cellsTxnsS : Tryz.prog.cellsOf 24 = 1 := by kernel_rfl
theorem Tryz.cellsKeptS : Tryz.prog.cellsOf 32 = 13 := by kernel_rfl
theorem arg_txnsS {H : Type} {enc : TypeId × Value → H} {W : World} {fuel : Nat} {c : Value} {x : DataW H × List MemPlace} (h : DataW.trod enc Tryz.prog W 0 (fun _ => true) true fuel 24 [c] = some x) :
    ∃ (p : Option Addr) (cap : Nat) (es : List TP), c = .slice p es.length cap ∧ TL W p cap es := by
  obtain ⟨p, cap, es, h1, h2, h3, h4, h5, h6, h7, h8⟩ := arg_list (cells := TP.cells) (wt := fun _ => 1) (R := fun x : TP => x.lies W) (by decide) Tryz.underlying24 Tryz.cellsTxnS arg_txnS h
  exact ⟨p, cap, es, h1, ⟨h2, h3, h7, h5⟩, fun x hx => (h4 x hx).1⟩
theorem arg_sinkS {H : Type} {enc : TypeId × Value → H} {W : World} (fuel : Nat) (cs : List Value) (y : DataW H × List MemPlace) (hl : cs.length = 5) (hsz : Sz 26 y.1) (h : DataW.trod enc Tryz.prog W 0 (fun _ => true) true fuel 26 cs = some y) :
    ∃ (reg : Int) (op vp dp pp : Option Addr) (oc vc dc pc : Nat) (out : List RC) (vec done : List Int) (ts : List TP), cs = [.int .i64 reg, .slice op out.length oc, .slice vp vec.length vc, .slice dp done.length dc, .slice pp ts.length pc] ∧ RRow W op oc out ∧ NRow W vp vc vec ∧ NRow W dp dc done ∧ done.length * 8 ≤ 140737488351232 ∧ TL W pp pc ts := by
  match cs, hl with
  | [c0, c1, c2, c3, c4], _ =>
    obtain ⟨xs, m, _, hy, _, hxl, hfs⟩ := DataW.trod_struct Tryz.underlying26 h
    have hxl' : xs.length = 5 := hxl
    match xs, hxl' with
    | [y0, y1, y2, y3, y4], _ =>
      have g0 : DataW.trod enc Tryz.prog W 0 (fun _ => true) true m 2 (([c0, c1, c2, c3, c4].drop 0).take (Tryz.prog.cellsOf 2)) = [y0, y1, y2, y3, y4][0]? := hfs 0 _ rfl
      rw [Tryz.cellsI64S] at g0
      replace g0 : DataW.trod enc Tryz.prog W 0 (fun _ => true) true m 2 [c0] = some y0 := g0
      have g1 : DataW.trod enc Tryz.prog W 0 (fun _ => true) true m 22 (([c0, c1, c2, c3, c4].drop 1).take (Tryz.prog.cellsOf 22)) = [y0, y1, y2, y3, y4][1]? := hfs 1 _ rfl
      rw [Tryz.cellsRecsS] at g1
      replace g1 : DataW.trod enc Tryz.prog W 0 (fun _ => true) true m 22 [c1] = some y1 := g1
      have g2 : DataW.trod enc Tryz.prog W 0 (fun _ => true) true m 23 (([c0, c1, c2, c3, c4].drop 2).take (Tryz.prog.cellsOf 23)) = [y0, y1, y2, y3, y4][2]? := hfs 2 _ rfl
      rw [Tryz.cellsNumsS] at g2
      replace g2 : DataW.trod enc Tryz.prog W 0 (fun _ => true) true m 23 [c2] = some y2 := g2
      have g3 : DataW.trod enc Tryz.prog W 0 (fun _ => true) true m 23 (([c0, c1, c2, c3, c4].drop 3).take (Tryz.prog.cellsOf 23)) = [y0, y1, y2, y3, y4][3]? := hfs 3 _ rfl
      rw [Tryz.cellsNumsS] at g3
      replace g3 : DataW.trod enc Tryz.prog W 0 (fun _ => true) true m 23 [c3] = some y3 := g3
      have g4 : DataW.trod enc Tryz.prog W 0 (fun _ => true) true m 24 (([c0, c1, c2, c3, c4].drop 4).take (Tryz.prog.cellsOf 24)) = [y0, y1, y2, y3, y4][4]? := hfs 4 _ rfl
      rw [Tryz.cellsTxnsS] at g4
      replace g4 : DataW.trod enc Tryz.prog W 0 (fun _ => true) true m 24 [c4] = some y4 := g4
      rw [hy] at hsz
      have z3 := sz_field (j := 3) Tryz.underlying26 hsz rfl rfl
      obtain ⟨n0, e0, _, w0⟩ := DataW.trod_int Tryz.underlying2 g0
      obtain ⟨op, oc, out, e1, R1, _, _, _, _⟩ := arg_recsS g1
      obtain ⟨vp, vc, vec, e2, R2, _, _, _, _⟩ := arg_numsS g2
      obtain ⟨dp, dc, done, e3, R3, _, _, _, D3⟩ := arg_numsS g3
      obtain ⟨pp, pc, ts, e4, R4⟩ := arg_txnsS g4
      simp only [List.cons.injEq, and_true] at e0
      subst e0 e1 e2 e3 e4
      exact ⟨n0, op, vp, dp, pp, oc, vc, dc, pc, out, vec, done, ts, rfl, R1, R2, R3, sized_of z3 Tryz.underlying23 (by kernel_rfl) D3, R4⟩
theorem arg_keptS {H : Type} {enc : TypeId × Value → H} {W : World} (fuel : Nat) (cs : List Value) (y : DataW H × List MemPlace) (hl : cs.length = 13) (hsz : Sz 32 y.1) (h : DataW.trod enc Tryz.prog W 0 (fun _ => true) true fuel 32 cs = some y) :
    ∃ (parts reg d : Int) (t : TX) (op vp dp pp vvp rp xp : Option Addr) (oc vc dc pc nc rc xc : Nat) (out : List RC) (vec done nv : List Int) (ts : List TP), cs = [.int .i64 parts, .int .i64 reg, .slice op out.length oc, .slice vp vec.length vc, .slice dp done.length dc, .slice pp ts.length pc, .int .i64 d, .int .i64 t.ep, .int .i64 t.id, .int .i64 t.beg, .slice rp t.rs.length rc, .slice xp t.vs.length xc, .slice vvp nv.length nc] ∧ RRow W op oc out ∧ NRow W vp vc vec ∧ NRow W dp dc done ∧ done.length * 8 ≤ 140737488351232 ∧ TL W pp pc ts ∧ NRow W vvp nc nv ∧ TP.lies W ⟨t, rp, rc, xp, xc⟩ := by
  match cs, hl with
  | [c0, c1, c2, c3, c4, c5, c6, c7, c8, c9, c10, c11, c12], _ =>
    obtain ⟨xs, m, _, hy, _, hxl, hfs⟩ := DataW.trod_struct Tryz.underlying32 h
    have hxl' : xs.length = 4 := hxl
    match xs, hxl' with
    | [y0, y1, y2, y3], _ =>
      have g0 : DataW.trod enc Tryz.prog W 0 (fun _ => true) true m 3 (([c0, c1, c2, c3, c4, c5, c6, c7, c8, c9, c10, c11, c12].drop 0).take (Tryz.prog.cellsOf 3)) = [y0, y1, y2, y3][0]? := hfs 0 _ rfl
      rw [Tryz.cellsIntS] at g0
      replace g0 : DataW.trod enc Tryz.prog W 0 (fun _ => true) true m 3 [c0] = some y0 := g0
      have g1 : DataW.trod enc Tryz.prog W 0 (fun _ => true) true m 26 (([c0, c1, c2, c3, c4, c5, c6, c7, c8, c9, c10, c11, c12].drop 1).take (Tryz.prog.cellsOf 26)) = [y0, y1, y2, y3][1]? := hfs 1 _ rfl
      rw [Tryz.cellsSinkS] at g1
      replace g1 : DataW.trod enc Tryz.prog W 0 (fun _ => true) true m 26 [c1, c2, c3, c4, c5] = some y1 := g1
      have g2 : DataW.trod enc Tryz.prog W 0 (fun _ => true) true m 30 (([c0, c1, c2, c3, c4, c5, c6, c7, c8, c9, c10, c11, c12].drop 6).take (Tryz.prog.cellsOf 30)) = [y0, y1, y2, y3][2]? := hfs 2 _ rfl
      rw [Tryz.cellsOpS] at g2
      replace g2 : DataW.trod enc Tryz.prog W 0 (fun _ => true) true m 30 [c6, c7, c8, c9, c10, c11] = some y2 := g2
      have g3 : DataW.trod enc Tryz.prog W 0 (fun _ => true) true m 23 (([c0, c1, c2, c3, c4, c5, c6, c7, c8, c9, c10, c11, c12].drop 12).take (Tryz.prog.cellsOf 23)) = [y0, y1, y2, y3][3]? := hfs 3 _ rfl
      rw [Tryz.cellsNumsS] at g3
      replace g3 : DataW.trod enc Tryz.prog W 0 (fun _ => true) true m 23 [c12] = some y3 := g3
      rw [hy] at hsz
      have z1 := sz_field (j := 1) Tryz.underlying32 hsz rfl rfl
      obtain ⟨n0, e0, _, w0⟩ := DataW.trod_int Tryz.underlying3 g0
      obtain ⟨reg, op, vp, dp, pp, oc, vc, dc, pc, out, vec, done, ts, e1, R1, R2, R3, B3, R4⟩ := arg_sinkS _ _ _ rfl z1 g1
      obtain ⟨⟨d, ⟨t, rp, rc, xp, xc⟩⟩, e2, L2, _⟩ := arg_opS _ _ _ rfl g2
      obtain ⟨vvp, nc, nv, e3, R5, _, _, _, _⟩ := arg_numsS g3
      simp only [OP.cells, List.cons.injEq, and_true] at e0 e1 e2
      obtain ⟨rfl, rfl, rfl, rfl, rfl⟩ := e1
      obtain ⟨rfl, rfl, rfl, rfl, rfl, rfl⟩ := e2
      subst e0 e3
      exact ⟨n0, reg, d, t, op, vp, dp, pp, vvp, rp, xp, oc, vc, dc, pc, nc, rc, xc, out, vec, done, nv, ts, rfl, R1, R2, R3, B3, R4, R5, L2.2⟩
end Go.Proofs.YtboofnkajjnmeaaGreat
namespace Go.Proofs.YtboofnkajjnmeaaGreat.sinkFrom
open Go.RowKit Go.Proofs.YtboofnkajjnmeaaGreat Go.ChangeShapes Go.WideShapes Go.ChangeAt

set_option maxRecDepth 100000 in
theorem contract (H : Type) (enc : TypeId × Value → H) (W : World) (base : Nat) (args : Array Value) (ds gs : List (DataW H)) (before : List MemPlace)
    (hval : ∀ (j : Nat) t v, Tryz.f3.params[j]? = some t → args[j]? = some v → Value.okWide Tryz.prog W .any base t v)
    (hW : DataW.Whole enc Tryz.prog Tryz.f3.params.toList Rows.sinkFromSpec.vars false W args.toList ds gs before) (hsz0 : (DataW.weightsEach Tryz.prog (Tryz.f3.params.toList ++ Rows.sinkFromSpec.plain.varTypes Tryz.prog) (ds ++ gs)).all (· ≤ reachBytes) = true) :
    Calls Tryz.prog 3 args W fun e W' => ∃ v, e = .returned v ∧ Rows.sinkFromSpec.post enc Tryz.prog Tryz.f3 false true false false W args v W' := by
  have hW' := hW
  obtain ⟨p, q, hA0, hV, rfl, hfz, hnd⟩ := hW
  have hA : DataW.TrodAll enc Tryz.prog W 0 (fun _ => true) true Tryz.f3.params.toList args.toList ds p := hA0
  rw [Tryz.params3] at hA hval hsz0
  obtain ⟨v0, vs0, d0, ds0, p0, q0, hargs, rfl, rfl, h0, r0⟩ := trodAll_cons hA
  obtain ⟨rfl, rfl, rfl⟩ := trodAll_nil r0
  obtain rfl : args = #[v0] := by cases args; simp_all
  obtain ⟨rfl, rfl⟩ := trodVars_none hV
  obtain ⟨cs0, rfl, hcs0⟩ := okWide_struct Tryz.underlying32 (hval 0 32 v0 rfl rfl)
  rw [Tryz.cellsKeptS] at hcs0
  have k0 := h0
  have lt0 : ∀ x ∈ p0, x.block < W.heap.size := by obtain ⟨m, hm⟩ := k0; exact DataW.trod_lt m _ _ _ hm
  obtain ⟨f0, hf0⟩ := h0
  have hcc0 : (Value.agg cs0).cells.toList = cs0.toList := by simp [Value.cells]
  rw [hcc0] at hf0
  obtain ⟨parts, reg, d, t, op, vp, dp, pp, vvp, rp, xp, oc, vc, dc, pc, nc, rc, xc, out, vec, done, nv, ts, ec, R1, R2, R3, B3, R4, R5, L2⟩ := arg_keptS _ _ _ (by simpa using hcs0) (sz_each hsz0 (j := 0) rfl rfl) hf0
  obtain rfl : cs0 = #[.int .i64 parts, .int .i64 reg, .slice op out.length oc, .slice vp vec.length vc, .slice dp done.length dc, .slice pp ts.length pc, .int .i64 d, .int .i64 t.ep, .int .i64 t.id, .int .i64 t.beg, .slice rp t.rs.length rc, .slice xp t.vs.length xc, .slice vvp nv.length nc] := by
    have h9 := congrArg List.toArray ec
    simpa using h9
  obtain ⟨ep, id, bg, rs, vs⟩ := t
  clear hA0
  refine (sinkfrom_walk R1 rfl R2 rfl R3 rfl (by omega) R4 rfl R5 rfl L2.1 L2.2.1).mono fun e W' ⟨he, bel⟩ => ?_
  subst he
  exact ⟨_, rfl, _, _, _, [], _, [], hW', trodAll_mk1 (shut_bool Tryz.underlying4 _), (trodAll_cons_mk (Below.trod Tryz.laidOut (by kernel_rfl) (of_decide_eq_true (by kernel_rfl)) k0 bel lt0) trodAll_mk0), rfl, bel.frame _, fun h => by cases h⟩

set_option maxRecDepth 100000 in
theorem lifted (os : Os) (started : os.Started) (H : Type) (enc : TypeId × Value → H) :
    ReturnsInHanded {} Tryz.checked os 3 .any (Rows.sinkFromSpec.pre6 enc Tryz.prog Tryz.f3 Rows.sinkFromRow.domain false) (Rows.sinkFromSpec.post enc Tryz.prog Tryz.f3 false true false false) := by
  refine returnsInHanded_of_change_sized (C := Tryz.checked) Tryz.ownK started (by kernel_rfl) Tryz.func3
    (ChangeSpec.witness6 (enc := enc) (C := Tryz.checked) false ⟨#[], #[.agg #[.int .i64 0, .int .i64 0, .slice none 0 0, .slice none 0 0, .slice none 0 0, .slice none 0 0, .int .i64 0, .int .i64 0, .int .i64 0, .int .i64 0, .slice none 0 0, .slice none 0 0, .slice none 0 0]], []⟩ 8 (by kernel_rfl) (by kernel_rfl) (by kernel_rfl) (by kernel_rfl)) ?_
  intro W base args ds gs before hval hW _ hsz _
  exact contract H enc W base args ds gs before hval hW hsz

set_option maxRecDepth 100000 in
theorem proved : Rows.SinkFromSaid :=
  OpenClaim.holds_of_wide 3 Tryz.f3 rfl rfl rfl rfl rfl rfl rfl ⟨rfl, rfl, rfl, rfl, rfl⟩ rfl rfl rfl rfl rfl (by kernel_rfl) Tryz.func3 (by kernel_rfl)
    (of_decide_eq_true (by kernel_rfl)) (by unfold Func.isWrapper; first | (rw [if_pos (by decide +kernel)]; kernel_rfl) | (rw [if_neg (by decide +kernel)]; exact ⟨rfl, rfl⟩))
    (fun os started H enc _ => lifted os started H enc)

end Go.Proofs.YtboofnkajjnmeaaGreat.sinkFrom
