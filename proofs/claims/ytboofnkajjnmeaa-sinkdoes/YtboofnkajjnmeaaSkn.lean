/-
 Pre of the program's sink. The conditions: that the sink and the transaction's lists lie there, apart.
-/
import Derived.Test.YtboofnkajjnmeaaTk0
import Derived.Test.YtboofnkajjnmeaaSkl
import Derived.Test.YtboofnkajjnmeaaSkm
import Derived.Test.YtboofnkajjnmeaaSkd
import Derived.Test.YtboofnkajjnmeaaSkf
import Derived.Test.YtboofnkajjnmeaaSkg
namespace Go.Proofs.Ytboofnkajjnmeaa
open Go.RowKit

attribute [local irreducible] wpQuiet in
set_option maxRecDepth 100000 in
set_option maxHeartbeats 8000000 in
theorem pre_bad {W : World} {B : Nat} {k : PK} {ep id bg : Int} {rp vp : Option Addr} {rn rc vn vc : Nat} {rs : List RC} {vs : List Int} (h : PS B W k) (hr : RRow W rp rc rs) (hv : NRow W vp vc vs) (hrn : rs.length = rn) (hvn : vs.length = vn) (hd : ∀ i, InC rp rc i ∨ InC vp vc i → ¬ k.blk i) (hdn : k.done.length < 4611686018427387904) (hm : ¬ mayC k.vec.length ⟨ep, id, bg, rs, vs⟩) :
  Calls Try.prog 20 #[.pointer (some ⟨k.b, 0, none⟩), .agg #[.int .i64 ep, .int .i64 id, .int .i64 bg, .slice rp rn rc, .slice vp vn vc]] W fun e w' => e = .returned (.int .i64 1) ∧ Below W.heap.size W w' := by
 have HM := hide hm; clear hm; have HP := hide h; have HR := hide hr; have HN := hide hv; have HRN := hide hrn; have HVN := hide hvn; have HD := hide hd; have HDN := hide hdn; clear h hr hv hrn hvn hd hdn
 obtain ⟨V, hV⟩ : ∃ V, V = W.alloc (.cells #[.int .i64 ep, .int .i64 id, .int .i64 bg, .slice rp rn rc, .slice vp vn vc] 34 (0, 0)) := ⟨_, rfl⟩
 have HV : Hid (V.heap[W.heap.size]? = some (.cells #[.int .i64 ep, .int .i64 id, .int .i64 bg, .slice rp rn rc, .slice vp vn vc] 34 (0, 0))) := hide (by rw [hV]; exact heap_alloc_new W _)
 have HBV : Hid (Below W.heap.size W V) := hide (by rw [hV]; exact alloc_below _ _)
 obtain ⟨bB, hbB⟩ : ∃ bB, W.heap.size = bB := ⟨_, rfl⟩
 rw [hbB] at HV HBV
 have HZbB := hide hbB
 have HBW : Hid (Below W.heap.size W V) := hide (by rw [HZbB.out]; exact HBV.out)
 have HPV : Hid (PS B V k) := hide (HP.out.later HBW.out)
 go_enter Try.func20, Try.ntmps20
 go_upto_region 1 with fail
 rw [← hV]
 try rw [hbB]
 clear hV hbB
 go_wp2_with fail
 refine (made_yes HPV.out).mono ?_
 rintro _ _ ⟨rfl, rfl⟩
 rename World => V
 go_upto_region 3 with fail
 have u0 := cellB HV.out (i := 0) rfl; have u1 := cellB HV.out (i := 1) rfl; have u2 := cellB HV.out (i := 2) rfl; have u3 := cellB HV.out (i := 3) rfl; have u4 := cellB HV.out (i := 4) rfl
 refine region_class (fun X => Below V.heap.size V X) (by kernel_rfl) (by kernel_rfl) (Below.refl _ V).drew ?_
 repeat
  first
   | (refine BigFrame.wpQuiet_skip (by rfl) ?_
      simp only [Act.put, List.setIfInBounds_toArray, List.set_cons_zero, List.set_cons_succ])
   | (refine BigFrame.wpQuiet_want (by rfl) (fun K hK => ?_)
      unfold Oper.quiet
      apply Exists.intro
      refine ⟨fun X hX => ?_, hK _ ?_⟩
      · have hW := HBW.out.trans (hX.mono HBW.out.size)
        have l0 := cell_later hX u0
        have l1 := cell_later hX u1
        have l2 := cell_later hX u2
        have l3 := cell_later hX u3
        have l4 := cell_later hX u4
        have m2 := (HP.out.later hW).c2
        first
         | (go_simp; done)
         | (go_simp; exact rfl)
         | (go_simp
            first
            | (go_at_call 49; refine (mayBe_any (NRow.later HN.out hW) HRN.out HVN.out (decide_eq_false HM.out)).mono ?_; rintro e w3 ⟨rfl, hb3⟩; exact ⟨rfl, hX.trans (hb3.mono hX.size)⟩)
           )
      clear hK K
      simp only [Act.put, List.setIfInBounds_toArray, List.set_cons_zero, List.set_cons_succ])
 refine wpQuiet_nil (fun X hX => ?_)
 have HBX := hide (HBW.out.trans (hX.mono HBW.out.size)); have HPX := hide (HP.out.later HBX.out); have HVX := hide (below_box hX HV.out); clear hX u0 u1 u2 u3 u4; go_wp2; go_ret
 exact ⟨rfl, HBX.out⟩
attribute [local irreducible] wpQuiet in
set_option maxRecDepth 100000 in
set_option maxHeartbeats 8000000 in
theorem pre_off {W : World} {B : Nat} {k : PK} {ep id bg : Int} {rp vp : Option Addr} {rn rc vn vc : Nat} {rs : List RC} {vs : List Int} (h : PS B W k) (hr : RRow W rp rc rs) (hv : NRow W vp vc vs) (hrn : rs.length = rn) (hvn : vs.length = vn) (hd : ∀ i, InC rp rc i ∨ InC vp vc i → ¬ k.blk i) (hdn : k.done.length < 4611686018427387904) (hm : mayC k.vec.length ⟨ep, id, bg, rs, vs⟩) (hf : ep < k.reg) :
  Calls Try.prog 20 #[.pointer (some ⟨k.b, 0, none⟩), .agg #[.int .i64 ep, .int .i64 id, .int .i64 bg, .slice rp rn rc, .slice vp vn vc]] W fun e w' => e = .returned (.int .i64 150) ∧ Put B W k k.sk w' := by
 have HM := hide hm
 have HE : Hid (entC k.sk ep = 150 ∧ raisC k.sk ep = k.sk) := hide ⟨if_pos hf, if_neg (by show ¬ k.reg < ep; omega)⟩
 clear hm hf; have HP := hide h; have HR := hide hr; have HN := hide hv; have HRN := hide hrn; have HVN := hide hvn; have HD := hide hd; have HDN := hide hdn; clear h hr hv hrn hvn hd hdn
 obtain ⟨V, hV⟩ : ∃ V, V = W.alloc (.cells #[.int .i64 ep, .int .i64 id, .int .i64 bg, .slice rp rn rc, .slice vp vn vc] 34 (0, 0)) := ⟨_, rfl⟩
 have HV : Hid (V.heap[W.heap.size]? = some (.cells #[.int .i64 ep, .int .i64 id, .int .i64 bg, .slice rp rn rc, .slice vp vn vc] 34 (0, 0))) := hide (by rw [hV]; exact heap_alloc_new W _)
 have HBV : Hid (Below W.heap.size W V) := hide (by rw [hV]; exact alloc_below _ _)
 obtain ⟨bB, hbB⟩ : ∃ bB, W.heap.size = bB := ⟨_, rfl⟩
 rw [hbB] at HV HBV
 have HZbB := hide hbB
 have HBW : Hid (Below W.heap.size W V) := hide (by rw [HZbB.out]; exact HBV.out)
 have HPV : Hid (PS B V k) := hide (HP.out.later HBW.out)
 go_enter Try.func20, Try.ntmps20
 go_upto_region 1 with fail
 rw [← hV]
 try rw [hbB]
 clear hV hbB
 go_wp2_with fail
 refine (made_yes HPV.out).mono ?_
 rintro _ _ ⟨rfl, rfl⟩
 rename World => V
 go_upto_region 3 with fail
 have u0 := cellB HV.out (i := 0) rfl; have u1 := cellB HV.out (i := 1) rfl; have u2 := cellB HV.out (i := 2) rfl; have u3 := cellB HV.out (i := 3) rfl; have u4 := cellB HV.out (i := 4) rfl
 refine region_class (fun X => Below V.heap.size V X) (by kernel_rfl) (by kernel_rfl) (Below.refl _ V).drew ?_
 repeat
  first
   | (refine BigFrame.wpQuiet_skip (by rfl) ?_
      simp only [Act.put, List.setIfInBounds_toArray, List.set_cons_zero, List.set_cons_succ])
   | (refine BigFrame.wpQuiet_want (by rfl) (fun K hK => ?_)
      unfold Oper.quiet
      apply Exists.intro
      refine ⟨fun X hX => ?_, hK _ ?_⟩
      · have hW := HBW.out.trans (hX.mono HBW.out.size)
        have l0 := cell_later hX u0
        have l1 := cell_later hX u1
        have l2 := cell_later hX u2
        have l3 := cell_later hX u3
        have l4 := cell_later hX u4
        have m2 := (HP.out.later hW).c2
        first
         | (go_simp; done)
         | (go_simp; exact rfl)
         | (go_simp
            first
            | (go_at_call 49; refine (mayBe_any (NRow.later HN.out hW) HRN.out HVN.out (decide_eq_true HM.out)).mono ?_; rintro e w3 ⟨rfl, hb3⟩; exact ⟨rfl, hX.trans (hb3.mono hX.size)⟩)
           )
      clear hK K
      simp only [Act.put, List.setIfInBounds_toArray, List.set_cons_zero, List.set_cons_succ])
 refine wpQuiet_nil (fun X hX => ?_)
 have HBX := hide (HBW.out.trans (hX.mono HBW.out.size)); have HPX := hide (HP.out.later HBX.out); have HVX := hide (below_box hX HV.out); clear hX u0 u1 u2 u3 u4; have u0 := cellB HVX.out (i := 0) rfl; have u1 := cellB HVX.out (i := 1) rfl; have u2 := cellB HVX.out (i := 2) rfl; have u3 := cellB HVX.out (i := 3) rfl; have u4 := cellB HVX.out (i := 4) rfl
 go_wp2_with fail
 refine (enter_any HPX.out HM.out.1).mono ?_
 rintro _ w1 ⟨rfl, hput⟩
 rw [HE.out.1]
 rw [HE.out.2] at hput
 have HU := hide hput; clear hput u0 u1 u2 u3 u4; go_wp2; go_ret
 exact ⟨rfl, Put.first HBX.out HU.out⟩
structure PreI (B : Nat) (W : World) (k k1 : PK) (bB : Nat) (cs : Array Value) (w1 : World) : Prop where
 ps : PS B w1 k1
 b : k1.b = k.b
 only : Only k.blk W w1
 blk : ∀ i, k1.blk i → k.blk i ∨ W.heap.size ≤ i
 box : w1.heap[bB]? = some (.cells cs 34 (0, 0))
 nb : ¬ k1.blk bB ∧ W.heap.size ≤ bB
theorem PreI.later {B : Nat} {W : World} {k k1 : PK} {bB : Nat} {cs : Array Value} {w1 w2 : World} (h : PreI B W k k1 bB cs w1) (hb : Below w1.heap.size w1 w2) : PreI B W k k1 bB cs w2 :=
 ⟨h.ps.later hb, h.b, h.only.step (Only.fresh hb (fun _ => False)) (fun _ e => e.elim), h.blk, below_box hb h.box, h.nb⟩
theorem PreI.put {B : Nat} {W : World} {k k1 : PK} {bB : Nat} {cs : Array Value} {w1 w2 : World} (h : PreI B W k k1 bB cs w1) (hb : Below w1.heap.size w1 w2) : Put B W k k1.sk w2 :=
 Put.trans h.b h.only h.blk (Put.same h.ps hb)
theorem PreI.row {B : Nat} {W : World} {k k1 : PK} {bB : Nat} {cs : Array Value} {w1 : World} (h : PreI B W k k1 bB cs w1) {rp : Option Addr} {rc : Nat} {rs : List RC} (hr : RRow W rp rc rs) (hd : ∀ i, InC rp rc i → ¬ k.blk i) : RRow w1 rp rc rs := hr.onlyC RC.len h.only hd
theorem PreI.num {B : Nat} {W : World} {k k1 : PK} {bB : Nat} {cs : Array Value} {w1 : World} (h : PreI B W k k1 bB cs w1) {vp : Option Addr} {vc : Nat} {vs : List Int} (hv : NRow W vp vc vs) (hd : ∀ i, InC vp vc i → ¬ k.blk i) : NRow w1 vp vc vs := hv.onlyC intCells_len h.only hd
attribute [local irreducible] wpQuiet in
set_option maxRecDepth 100000 in
set_option maxHeartbeats 8000000 in
theorem pre_done {W : World} {B : Nat} {k : PK} {ep id bg : Int} {rp vp : Option Addr} {rn rc vn vc : Nat} {rs : List RC} {vs : List Int} {s1 : SK} (h : PS B W k) (hr : RRow W rp rc rs) (hv : NRow W vp vc vs) (hrn : rs.length = rn) (hvn : vs.length = vn) (hd : ∀ i, InC rp rc i ∨ InC vp vc i → ¬ k.blk i) (hdn : k.done.length < 4611686018427387904) (hm : mayC k.vec.length ⟨ep, id, bg, rs, vs⟩) (hf : ¬ ep < k.reg) (hk1 : raisC k.sk ep = s1) (hdo : doneC s1 ep id = true) :
  Calls Try.prog 20 #[.pointer (some ⟨k.b, 0, none⟩), .agg #[.int .i64 ep, .int .i64 id, .int .i64 bg, .slice rp rn rc, .slice vp vn vc]] W fun e w' => e = .returned (.int .i64 0) ∧ Put B W k (s1) w' := by
 have HDO0 := hide hdo
 clear hdo
 have HM := hide hm
 have HE : Hid (entC k.sk ep = 0) := hide (if_neg hf)
 have HF := hide hf; have HK1 := hide hk1; clear hm hf hk1; have HP := hide h; have HR := hide hr; have HN := hide hv; have HRN := hide hrn; have HVN := hide hvn; have HD := hide hd; have HDN := hide hdn; clear h hr hv hrn hvn hd hdn
 obtain ⟨V, hV⟩ : ∃ V, V = W.alloc (.cells #[.int .i64 ep, .int .i64 id, .int .i64 bg, .slice rp rn rc, .slice vp vn vc] 34 (0, 0)) := ⟨_, rfl⟩
 have HV : Hid (V.heap[W.heap.size]? = some (.cells #[.int .i64 ep, .int .i64 id, .int .i64 bg, .slice rp rn rc, .slice vp vn vc] 34 (0, 0))) := hide (by rw [hV]; exact heap_alloc_new W _)
 have HBV : Hid (Below W.heap.size W V) := hide (by rw [hV]; exact alloc_below _ _)
 obtain ⟨bB, hbB⟩ : ∃ bB, W.heap.size = bB := ⟨_, rfl⟩
 rw [hbB] at HV HBV
 have HZbB := hide hbB
 have HBW : Hid (Below W.heap.size W V) := hide (by rw [HZbB.out]; exact HBV.out)
 have HPV : Hid (PS B V k) := hide (HP.out.later HBW.out)
 go_enter Try.func20, Try.ntmps20
 go_upto_region 1 with fail
 rw [← hV]
 try rw [hbB]
 clear hV hbB
 go_wp2_with fail
 refine (made_yes HPV.out).mono ?_
 rintro _ _ ⟨rfl, rfl⟩
 rename World => V
 go_upto_region 3 with fail
 have u0 := cellB HV.out (i := 0) rfl; have u1 := cellB HV.out (i := 1) rfl; have u2 := cellB HV.out (i := 2) rfl; have u3 := cellB HV.out (i := 3) rfl; have u4 := cellB HV.out (i := 4) rfl
 refine region_class (fun X => Below V.heap.size V X) (by kernel_rfl) (by kernel_rfl) (Below.refl _ V).drew ?_
 repeat
  first
   | (refine BigFrame.wpQuiet_skip (by rfl) ?_
      simp only [Act.put, List.setIfInBounds_toArray, List.set_cons_zero, List.set_cons_succ])
   | (refine BigFrame.wpQuiet_want (by rfl) (fun K hK => ?_)
      unfold Oper.quiet
      apply Exists.intro
      refine ⟨fun X hX => ?_, hK _ ?_⟩
      · have hW := HBW.out.trans (hX.mono HBW.out.size)
        have l0 := cell_later hX u0
        have l1 := cell_later hX u1
        have l2 := cell_later hX u2
        have l3 := cell_later hX u3
        have l4 := cell_later hX u4
        have m2 := (HP.out.later hW).c2
        first
         | (go_simp; done)
         | (go_simp; exact rfl)
         | (go_simp
            first
            | (go_at_call 49; refine (mayBe_any (NRow.later HN.out hW) HRN.out HVN.out (decide_eq_true HM.out)).mono ?_; rintro e w3 ⟨rfl, hb3⟩; exact ⟨rfl, hX.trans (hb3.mono hX.size)⟩)
           )
      clear hK K
      simp only [Act.put, List.setIfInBounds_toArray, List.set_cons_zero, List.set_cons_succ])
 refine wpQuiet_nil (fun X hX => ?_)
 have HBX := hide (HBW.out.trans (hX.mono HBW.out.size)); have HPX := hide (HP.out.later HBX.out); have HVX := hide (below_box hX HV.out); clear hX u0 u1 u2 u3 u4
 have HNB : Hid (¬ k.blk bB ∧ W.heap.size ≤ bB) := hide ⟨fun hb9 => by have := (HP.out.lt hb9).2; have := HZbB.out; omega, by have := HZbB.out; omega⟩
 have u0 := cellB HVX.out (i := 0) rfl; have u1 := cellB HVX.out (i := 1) rfl; have u2 := cellB HVX.out (i := 2) rfl; have u3 := cellB HVX.out (i := 3) rfl; have u4 := cellB HVX.out (i := 4) rfl
 go_wp2_with fail
 refine (enter_any HPX.out HM.out.1).mono ?_
 rintro _ w1 ⟨rfl, hput⟩
 rw [HE.out]
 obtain ⟨k1, p1, p2, p3, p4, p5⟩ := hput
 rw [HK1.out] at p2
 have HI1 : Hid (PreI B W k k1 bB #[.int .i64 ep, .int .i64 id, .int .i64 bg, .slice rp rn rc, .slice vp vn vc] w1) := hide ⟨p1, p3, (Only.fresh HBX.out _).trans p4, fun i hi => (p5 i hi).imp (fun h9 => h9) (fun h9 => Nat.le_trans HBX.out.size h9), p4.obj HVX.out HNB.out.1, fun hb9 => (p5 _ hb9).elim HNB.out.1 (fun h9 => by have := box_lt HVX.out; omega), HNB.out.2⟩
 have HSK := hide p2
 have HRG : Hid (k1.reg = ep) := hide (by
   have h9 : k1.sk.reg = (raisC k.sk ep).reg := by rw [p2, HK1.out]
   rw [rais_reg] at h9
   have h8 : k1.reg = if k.reg < ep then ep else k.reg := h9
   have := HF.out
   split at h8 <;> omega)
 have HDN1 : Hid (k1.done.length < 4611686018427387904) := hide (by
   have h9 : k1.sk.done = (raisC k.sk ep).done := by rw [p2, HK1.out]
   have h8 : k1.done = (raisC k.sk ep).done := h9
   rw [h8]
   unfold raisC
   split
   · show ([] : List Int).length < 4611686018427387904; simp
   · exact HDN.out)
 have HVE : Hid (k1.vec.length = k.vec.length) := hide (by
   have h9 : k1.sk.vec = (raisC k.sk ep).vec := by rw [p2, HK1.out]
   have h8 : k1.vec = (raisC k.sk ep).vec := h9
   rw [h8]
   unfold raisC
   split <;> rfl)
 rw [← p3]
 clear p1 p2 p3 p4 p5 u0 u1 u2 u3 u4 HPX HVX HBX HPV HBW HV HBV; have u0 := cellB HI1.out.box (i := 0) rfl; have u1 := cellB HI1.out.box (i := 1) rfl; have u2 := cellB HI1.out.box (i := 2) rfl; have u3 := cellB HI1.out.box (i := 3) rfl; have u4 := cellB HI1.out.box (i := 4) rfl
 go_wp2_with fail
 refine name_any.mono ?_
 rintro _ w2 ⟨rfl, b2⟩
 have HI2 := hide (HI1.out.later b2); clear b2 HI1 u0 u1 u2 u3 u4; have u0 := cellB HI2.out.box (i := 0) rfl; have u1 := cellB HI2.out.box (i := 1) rfl; have u2 := cellB HI2.out.box (i := 2) rfl; have u3 := cellB HI2.out.box (i := 3) rfl; have u4 := cellB HI2.out.box (i := 4) rfl
 go_upto_region 9 with fail
 obtain ⟨X, hX⟩ : ∃ X, X = w2.alloc (.cells #[.int .i64 ep, .int .i64 id] 55 (0, 0)) := ⟨_, rfl⟩
 rw [← hX]
 have bX : Below w2.heap.size w2 X := by rw [hX]; exact alloc_below _ _
 obtain ⟨nB, hnB⟩ : ∃ nB, w2.heap.size = nB := ⟨_, rfl⟩
 have HNX : Hid (X.heap[nB]? = some (.cells #[.int .i64 ep, .int .i64 id] 55 (0, 0))) := hide (by rw [← hnB, hX]; exact heap_alloc_new w2 _)
 have HI3 := hide (HI2.out.later bX)
 have HNL : Hid (¬ k1.blk nB ∧ nB ≠ bB) := hide ⟨fun hb9 => by have := (HI2.out.ps.lt hb9).2; omega, fun e9 => by have := box_lt HI2.out.box; omega⟩
 try rw [hnB]
 clear hX bX hnB HI2 u0 u1 u2 u3 u4; have n0 := cellB HNX.out (i := 0) rfl; have n1 := cellB HNX.out (i := 1) rfl
 have HDO : Hid (doneC k1.sk ep id = true) := hide (by rw [HSK.out]; exact HDO0.out)
 go_wp2_with fail
 refine (done_any HI3.out.ps HDN1.out HDO.out).mono ?_
 rintro _ w4 ⟨rfl, b4⟩
 have HI4 := hide (HI3.out.later b4); have HN4 := hide (below_box b4 HNX.out); clear b4 HI3 HNX n0 n1; go_wp2; go_ret
 exact ⟨rfl, by rw [← HSK.out]; exact HI4.out.put (Below.refl _ _)⟩
attribute [local irreducible] wpQuiet in
set_option maxRecDepth 100000 in
set_option maxHeartbeats 8000000 in
theorem pre_same {W : World} {B : Nat} {k : PK} {ep id bg : Int} {rp vp : Option Addr} {rn rc vn vc : Nat} {rs : List RC} {vs : List Int} {s1 : SK} (h : PS B W k) (hr : RRow W rp rc rs) (hv : NRow W vp vc vs) (hrn : rs.length = rn) (hvn : vs.length = vn) (hd : ∀ i, InC rp rc i ∨ InC vp vc i → ¬ k.blk i) (hdn : k.done.length < 4611686018427387904) (hm : mayC k.vec.length ⟨ep, id, bg, rs, vs⟩) (hf : ¬ ep < k.reg) (hk1 : raisC k.sk ep = s1) {ht : TX} (hdo : doneC s1 ep id = false) (hfi : findC s1 id = some ht) (hht : ht = ⟨ep, id, bg, rs, vs⟩) :
  Calls Try.prog 20 #[.pointer (some ⟨k.b, 0, none⟩), .agg #[.int .i64 ep, .int .i64 id, .int .i64 bg, .slice rp rn rc, .slice vp vn vc]] W fun e w' => e = .returned (.int .i64 0) ∧ Put B W k (s1) w' := by
 have HDO0 := hide hdo
 have HFI0 := hide hfi; have HHT := hide hht; clear hdo hfi hht; have HM := hide hm
 have HE : Hid (entC k.sk ep = 0) := hide (if_neg hf)
 have HF := hide hf; have HK1 := hide hk1; clear hm hf hk1; have HP := hide h; have HR := hide hr; have HN := hide hv; have HRN := hide hrn; have HVN := hide hvn; have HD := hide hd; have HDN := hide hdn; clear h hr hv hrn hvn hd hdn
 obtain ⟨V, hV⟩ : ∃ V, V = W.alloc (.cells #[.int .i64 ep, .int .i64 id, .int .i64 bg, .slice rp rn rc, .slice vp vn vc] 34 (0, 0)) := ⟨_, rfl⟩
 have HV : Hid (V.heap[W.heap.size]? = some (.cells #[.int .i64 ep, .int .i64 id, .int .i64 bg, .slice rp rn rc, .slice vp vn vc] 34 (0, 0))) := hide (by rw [hV]; exact heap_alloc_new W _)
 have HBV : Hid (Below W.heap.size W V) := hide (by rw [hV]; exact alloc_below _ _)
 obtain ⟨bB, hbB⟩ : ∃ bB, W.heap.size = bB := ⟨_, rfl⟩
 rw [hbB] at HV HBV
 have HZbB := hide hbB
 have HBW : Hid (Below W.heap.size W V) := hide (by rw [HZbB.out]; exact HBV.out)
 have HPV : Hid (PS B V k) := hide (HP.out.later HBW.out)
 go_enter Try.func20, Try.ntmps20
 go_upto_region 1 with fail
 rw [← hV]
 try rw [hbB]
 clear hV hbB
 go_wp2_with fail
 refine (made_yes HPV.out).mono ?_
 rintro _ _ ⟨rfl, rfl⟩
 rename World => V
 go_upto_region 3 with fail
 have u0 := cellB HV.out (i := 0) rfl; have u1 := cellB HV.out (i := 1) rfl; have u2 := cellB HV.out (i := 2) rfl; have u3 := cellB HV.out (i := 3) rfl; have u4 := cellB HV.out (i := 4) rfl
 refine region_class (fun X => Below V.heap.size V X) (by kernel_rfl) (by kernel_rfl) (Below.refl _ V).drew ?_
 repeat
  first
   | (refine BigFrame.wpQuiet_skip (by rfl) ?_
      simp only [Act.put, List.setIfInBounds_toArray, List.set_cons_zero, List.set_cons_succ])
   | (refine BigFrame.wpQuiet_want (by rfl) (fun K hK => ?_)
      unfold Oper.quiet
      apply Exists.intro
      refine ⟨fun X hX => ?_, hK _ ?_⟩
      · have hW := HBW.out.trans (hX.mono HBW.out.size)
        have l0 := cell_later hX u0
        have l1 := cell_later hX u1
        have l2 := cell_later hX u2
        have l3 := cell_later hX u3
        have l4 := cell_later hX u4
        have m2 := (HP.out.later hW).c2
        first
         | (go_simp; done)
         | (go_simp; exact rfl)
         | (go_simp
            first
            | (go_at_call 49; refine (mayBe_any (NRow.later HN.out hW) HRN.out HVN.out (decide_eq_true HM.out)).mono ?_; rintro e w3 ⟨rfl, hb3⟩; exact ⟨rfl, hX.trans (hb3.mono hX.size)⟩)
           )
      clear hK K
      simp only [Act.put, List.setIfInBounds_toArray, List.set_cons_zero, List.set_cons_succ])
 refine wpQuiet_nil (fun X hX => ?_)
 have HBX := hide (HBW.out.trans (hX.mono HBW.out.size)); have HPX := hide (HP.out.later HBX.out); have HVX := hide (below_box hX HV.out); clear hX u0 u1 u2 u3 u4
 have HNB : Hid (¬ k.blk bB ∧ W.heap.size ≤ bB) := hide ⟨fun hb9 => by have := (HP.out.lt hb9).2; have := HZbB.out; omega, by have := HZbB.out; omega⟩
 have u0 := cellB HVX.out (i := 0) rfl; have u1 := cellB HVX.out (i := 1) rfl; have u2 := cellB HVX.out (i := 2) rfl; have u3 := cellB HVX.out (i := 3) rfl; have u4 := cellB HVX.out (i := 4) rfl
 go_wp2_with fail
 refine (enter_any HPX.out HM.out.1).mono ?_
 rintro _ w1 ⟨rfl, hput⟩
 rw [HE.out]
 obtain ⟨k1, p1, p2, p3, p4, p5⟩ := hput
 rw [HK1.out] at p2
 have HI1 : Hid (PreI B W k k1 bB #[.int .i64 ep, .int .i64 id, .int .i64 bg, .slice rp rn rc, .slice vp vn vc] w1) := hide ⟨p1, p3, (Only.fresh HBX.out _).trans p4, fun i hi => (p5 i hi).imp (fun h9 => h9) (fun h9 => Nat.le_trans HBX.out.size h9), p4.obj HVX.out HNB.out.1, fun hb9 => (p5 _ hb9).elim HNB.out.1 (fun h9 => by have := box_lt HVX.out; omega), HNB.out.2⟩
 have HSK := hide p2
 have HRG : Hid (k1.reg = ep) := hide (by
   have h9 : k1.sk.reg = (raisC k.sk ep).reg := by rw [p2, HK1.out]
   rw [rais_reg] at h9
   have h8 : k1.reg = if k.reg < ep then ep else k.reg := h9
   have := HF.out
   split at h8 <;> omega)
 have HDN1 : Hid (k1.done.length < 4611686018427387904) := hide (by
   have h9 : k1.sk.done = (raisC k.sk ep).done := by rw [p2, HK1.out]
   have h8 : k1.done = (raisC k.sk ep).done := h9
   rw [h8]
   unfold raisC
   split
   · show ([] : List Int).length < 4611686018427387904; simp
   · exact HDN.out)
 have HVE : Hid (k1.vec.length = k.vec.length) := hide (by
   have h9 : k1.sk.vec = (raisC k.sk ep).vec := by rw [p2, HK1.out]
   have h8 : k1.vec = (raisC k.sk ep).vec := h9
   rw [h8]
   unfold raisC
   split <;> rfl)
 rw [← p3]
 clear p1 p2 p3 p4 p5 u0 u1 u2 u3 u4 HPX HVX HBX HPV HBW HV HBV; have u0 := cellB HI1.out.box (i := 0) rfl; have u1 := cellB HI1.out.box (i := 1) rfl; have u2 := cellB HI1.out.box (i := 2) rfl; have u3 := cellB HI1.out.box (i := 3) rfl; have u4 := cellB HI1.out.box (i := 4) rfl
 go_wp2_with fail
 refine name_any.mono ?_
 rintro _ w2 ⟨rfl, b2⟩
 have HI2 := hide (HI1.out.later b2); clear b2 HI1 u0 u1 u2 u3 u4; have u0 := cellB HI2.out.box (i := 0) rfl; have u1 := cellB HI2.out.box (i := 1) rfl; have u2 := cellB HI2.out.box (i := 2) rfl; have u3 := cellB HI2.out.box (i := 3) rfl; have u4 := cellB HI2.out.box (i := 4) rfl
 go_upto_region 9 with fail
 obtain ⟨X, hX⟩ : ∃ X, X = w2.alloc (.cells #[.int .i64 ep, .int .i64 id] 55 (0, 0)) := ⟨_, rfl⟩
 rw [← hX]
 have bX : Below w2.heap.size w2 X := by rw [hX]; exact alloc_below _ _
 obtain ⟨nB, hnB⟩ : ∃ nB, w2.heap.size = nB := ⟨_, rfl⟩
 have HNX : Hid (X.heap[nB]? = some (.cells #[.int .i64 ep, .int .i64 id] 55 (0, 0))) := hide (by rw [← hnB, hX]; exact heap_alloc_new w2 _)
 have HI3 := hide (HI2.out.later bX)
 have HNL : Hid (¬ k1.blk nB ∧ nB ≠ bB) := hide ⟨fun hb9 => by have := (HI2.out.ps.lt hb9).2; omega, fun e9 => by have := box_lt HI2.out.box; omega⟩
 try rw [hnB]
 clear hX bX hnB HI2 u0 u1 u2 u3 u4; have n0 := cellB HNX.out (i := 0) rfl; have n1 := cellB HNX.out (i := 1) rfl
 have HDO : Hid (doneC k1.sk ep id = false) := hide (by rw [HSK.out]; exact HDO0.out)
 go_wp2_with fail
 refine (done_any HI3.out.ps HDN1.out HDO.out).mono ?_
 rintro _ w4 ⟨rfl, b4⟩
 have HI4 := hide (HI3.out.later b4); have HN4 := hide (below_box b4 HNX.out); clear b4 HI3 HNX n0 n1
 obtain ⟨x, hx, hxt⟩ : ∃ x, findP k1.xs id = some x ∧ x.t = ht := by
  have h9 := HFI0.out
  rw [← HSK.out, find_P] at h9
  obtain ⟨x, h8, h7⟩ := Option.map_eq_some_iff.1 h9
  exact ⟨x, h8, h7⟩
 have HXM : Hid (x.ok w4) := hide (HI4.out.ps.pre x (List.mem_of_find?_eq_some hx)).ok
 have hlq : ∀ w, Below w4.heap.size w4 w → (Instr.lookup 61 (.map (some k1.mb)) (keyV ep id) true).run Try.prog w = .ok (.tuple #[rowOf (some x), .bool true]) w := fun w hw => by
  have h9 := ((HI4.out.ps.map.later hw).look HI4.out.ps.named HRG.out.symm HM.out.1 HM.out.2.1).1
  rw [hx] at h9
  exact h9
 obtain ⟨⟨e2, i2, g2, rs2, vs2⟩, rp2, rc2, vp2, vc2⟩ := x
 obtain ⟨rn2, hrn2⟩ : ∃ n, rs2.length = n := ⟨_, rfl⟩
 obtain ⟨vn2, hvn2⟩ : ∃ n, vs2.length = n := ⟨_, rfl⟩
 simp only at hxt
 have HXT := hide hxt
 simp only [rowOf, TP.row, keyV, hrn2, hvn2] at hlq
 have HLQ := hide hlq; have HRN2 := hide hrn2; have HVN2 := hide hvn2; clear hlq hrn2 hvn2 hxt hx; have n0 := cellB HN4.out (i := 0) rfl; have n1 := cellB HN4.out (i := 1) rfl; have m4 := HI4.out.ps.c4
 go_upto_region 11 with fail
 refine wp_region_held_drew (S := fun w9 => Below w4.heap.size w4 w9) (by kernel_rfl) (Below.refl _ w4).drew (fun hHeld => ?_)
 refine tb 0 ?_ rfl (by kernel_rfl) (fun _ _ _ h => h) (by assumption) ?_ ?_
 rotate_left
 ·intro w hSw; have l4 := cell_later hSw m4; have l0 := cell_later hSw n0; have l1 := cell_later hSw n1; have lq := HLQ.out w hSw; go_simp; all_goals with_reducible rfl
 simp only [Act.put]
 refine tb 1 ?_ rfl (by kernel_rfl) (fun _ _ _ h => h) (by assumption) ?_ ?_
 rotate_left
 ·intro w hSw; have l4 := cell_later hSw m4; have l0 := cell_later hSw n0; have l1 := cell_later hSw n1; have lq := HLQ.out w hSw; go_simp; all_goals with_reducible rfl
 simp only [Act.put]
 refine tb 2 ?_ rfl (by kernel_rfl) (fun _ _ _ h => h) (by assumption) ?_ ?_
 rotate_left
 ·intro w hSw; have l4 := cell_later hSw m4; have l0 := cell_later hSw n0; have l1 := cell_later hSw n1; have lq := HLQ.out w hSw; go_simp; all_goals with_reducible rfl
 simp only [Act.put]
 refine tb 3 ?_ rfl (by kernel_rfl) (fun _ _ _ h => h) (by assumption) ?_ ?_
 rotate_left
 ·intro w hSw; have l4 := cell_later hSw m4; have l0 := cell_later hSw n0; have l1 := cell_later hSw n1; have lq := HLQ.out w hSw; go_simp; all_goals with_reducible rfl
 simp only [Act.put]
 refine tb 4 ?_ rfl (by kernel_rfl) (fun _ _ _ h => h) (by assumption) ?_ ?_
 rotate_left
 ·intro w hSw; have l4 := cell_later hSw m4; have l0 := cell_later hSw n0; have l1 := cell_later hSw n1; have lq := HLQ.out w hSw; go_simp; all_goals with_reducible rfl
 simp only [Act.put]
 refine tb 5 ?_ rfl (by kernel_rfl) (fun _ _ _ h => h) (by assumption) ?_ ?_
 rotate_left
 ·intro w hSw; have l4 := cell_later hSw m4; have l0 := cell_later hSw n0; have l1 := cell_later hSw n1; have lq := HLQ.out w hSw; go_simp; all_goals with_reducible rfl
 simp only [Act.put]
 refine tb 6 ?_ rfl (by kernel_rfl) (fun _ _ _ h => h) (by assumption) ?_ ?_
 rotate_left
 ·intro w hSw; have l4 := cell_later hSw m4; have l0 := cell_later hSw n0; have l1 := cell_later hSw n1; have lq := HLQ.out w hSw; go_simp; all_goals with_reducible rfl
 simp only [Act.put]
 refine tb 7 ?_ rfl (by kernel_rfl) (fun _ _ _ h => h) (by assumption) ?_ ?_
 rotate_left
 ·intro w hSw; have l4 := cell_later hSw m4; have l0 := cell_later hSw n0; have l1 := cell_later hSw n1; have lq := HLQ.out w hSw; go_simp; all_goals with_reducible rfl
 simp only [Act.put]
 refine tb 8 ?_ rfl (by kernel_rfl) (fun _ _ _ h => h) (by assumption) ?_ ?_
 rotate_left
 ·intro w hSw; have l4 := cell_later hSw m4; have l0 := cell_later hSw n0; have l1 := cell_later hSw n1; have lq := HLQ.out w hSw; go_simp; all_goals with_reducible rfl
 simp only [Act.put]
 refine rr 9 (o := _) rfl (by kernel_rfl) (fun K hK => ?_)
 go_simp
 refine hK.out _ _ ((alloc_below w4 _).drew) (fun hHeld => ?_)
 clear hK
 refine rr 10 (o := _) rfl (by kernel_rfl) (fun K hK => ?_)
 go_simp
 refine hK.out _ _ ((alloc_below w4 _).drew) (fun hHeld => ?_)
 clear hK
 refine rr 11 (o := _) rfl (by kernel_rfl) (fun K hK => ?_)
 go_simp
 refine hK.out _ _ ((alloc_below w4 _).drew) (fun hHeld => ?_)
 clear hK
 refine wpAnyH_done (by kernel_rfl) ?_ _
 obtain ⟨Y, hY⟩ : ∃ Y, Y = (w4.alloc (.cells #[.int .i64 e2, .int .i64 i2, .int .i64 g2, .slice rp2 rn2 rc2, .slice vp2 vn2 vc2] 34 (0, 0))).drew := ⟨_, rfl⟩
 rw [← hY]
 have bY : Below w4.heap.size w4 Y := by rw [hY]; exact (alloc_below _ _).drew
 obtain ⟨hB, hhB⟩ : ∃ hB, w4.heap.size = hB := ⟨_, rfl⟩
 have hhx : Y.heap[hB]? = some (.cells #[.int .i64 e2, .int .i64 i2, .int .i64 g2, .slice rp2 rn2 rc2, .slice vp2 vn2 vc2] 34 (0, 0)) := by rw [← hhB, hY]; exact heap_alloc_new w4 _
 have HI5 := hide (HI4.out.later bY); have HX5 := hide (HXM.out.later bY)
 try rw [hhB]
 clear hY bY hhB hHeld HI4 HN4 HXM n0 n1 m4; have v0 := cellB hhx (i := 0) rfl; have v1 := cellB hhx (i := 1) rfl; have v2 := cellB hhx (i := 2) rfl; have v3 := cellB hhx (i := 3) rfl; have v4 := cellB hhx (i := 4) rfl; have u0 := cellB HI5.out.box (i := 0) rfl; have u1 := cellB HI5.out.box (i := 1) rfl; have u2 := cellB HI5.out.box (i := 2) rfl; have u3 := cellB HI5.out.box (i := 3) rfl; have u4 := cellB HI5.out.box (i := 4) rfl; clear hhx
 go_wp2_with fail
 refine (sametxn_all HX5.out.r HX5.out.v (HI5.out.row HR.out (fun i hi => HD.out i (.inl hi))) (HI5.out.num HN.out (fun i hi => HD.out i (.inr hi))) HRN2.out HVN2.out HRN.out HVN.out (rb := true) (by rw [HXT.out]; exact decide_eq_true HHT.out)).mono ?_
 rintro _ w6 ⟨rfl, b6⟩
 have HI6 := hide (HI5.out.later b6); clear b6 HI5 HX5 u0 v0 u1 v1 u2 v2 u3 v3 u4 v4; go_wp2; go_ret
 exact ⟨rfl, by rw [← HSK.out]; exact HI6.out.put (Below.refl _ _)⟩
attribute [local irreducible] wpQuiet in
set_option maxRecDepth 100000 in
set_option maxHeartbeats 8000000 in
theorem pre_twice {W : World} {B : Nat} {k : PK} {ep id bg : Int} {rp vp : Option Addr} {rn rc vn vc : Nat} {rs : List RC} {vs : List Int} {s1 : SK} (h : PS B W k) (hr : RRow W rp rc rs) (hv : NRow W vp vc vs) (hrn : rs.length = rn) (hvn : vs.length = vn) (hd : ∀ i, InC rp rc i ∨ InC vp vc i → ¬ k.blk i) (hdn : k.done.length < 4611686018427387904) (hm : mayC k.vec.length ⟨ep, id, bg, rs, vs⟩) (hf : ¬ ep < k.reg) (hk1 : raisC k.sk ep = s1) {ht : TX} (hdo : doneC s1 ep id = false) (hfi : findC s1 id = some ht) (hht : ¬ ht = ⟨ep, id, bg, rs, vs⟩) :
  Calls Try.prog 20 #[.pointer (some ⟨k.b, 0, none⟩), .agg #[.int .i64 ep, .int .i64 id, .int .i64 bg, .slice rp rn rc, .slice vp vn vc]] W fun e w' => e = .returned (.int .i64 5) ∧ Put B W k (s1) w' := by
 have HDO0 := hide hdo
 have HFI0 := hide hfi; have HHT := hide hht; clear hdo hfi hht; have HM := hide hm
 have HE : Hid (entC k.sk ep = 0) := hide (if_neg hf)
 have HF := hide hf; have HK1 := hide hk1; clear hm hf hk1; have HP := hide h; have HR := hide hr; have HN := hide hv; have HRN := hide hrn; have HVN := hide hvn; have HD := hide hd; have HDN := hide hdn; clear h hr hv hrn hvn hd hdn
 obtain ⟨V, hV⟩ : ∃ V, V = W.alloc (.cells #[.int .i64 ep, .int .i64 id, .int .i64 bg, .slice rp rn rc, .slice vp vn vc] 34 (0, 0)) := ⟨_, rfl⟩
 have HV : Hid (V.heap[W.heap.size]? = some (.cells #[.int .i64 ep, .int .i64 id, .int .i64 bg, .slice rp rn rc, .slice vp vn vc] 34 (0, 0))) := hide (by rw [hV]; exact heap_alloc_new W _)
 have HBV : Hid (Below W.heap.size W V) := hide (by rw [hV]; exact alloc_below _ _)
 obtain ⟨bB, hbB⟩ : ∃ bB, W.heap.size = bB := ⟨_, rfl⟩
 rw [hbB] at HV HBV
 have HZbB := hide hbB
 have HBW : Hid (Below W.heap.size W V) := hide (by rw [HZbB.out]; exact HBV.out)
 have HPV : Hid (PS B V k) := hide (HP.out.later HBW.out)
 go_enter Try.func20, Try.ntmps20
 go_upto_region 1 with fail
 rw [← hV]
 try rw [hbB]
 clear hV hbB
 go_wp2_with fail
 refine (made_yes HPV.out).mono ?_
 rintro _ _ ⟨rfl, rfl⟩
 rename World => V
 go_upto_region 3 with fail
 have u0 := cellB HV.out (i := 0) rfl; have u1 := cellB HV.out (i := 1) rfl; have u2 := cellB HV.out (i := 2) rfl; have u3 := cellB HV.out (i := 3) rfl; have u4 := cellB HV.out (i := 4) rfl
 refine region_class (fun X => Below V.heap.size V X) (by kernel_rfl) (by kernel_rfl) (Below.refl _ V).drew ?_
 repeat
  first
   | (refine BigFrame.wpQuiet_skip (by rfl) ?_
      simp only [Act.put, List.setIfInBounds_toArray, List.set_cons_zero, List.set_cons_succ])
   | (refine BigFrame.wpQuiet_want (by rfl) (fun K hK => ?_)
      unfold Oper.quiet
      apply Exists.intro
      refine ⟨fun X hX => ?_, hK _ ?_⟩
      · have hW := HBW.out.trans (hX.mono HBW.out.size)
        have l0 := cell_later hX u0
        have l1 := cell_later hX u1
        have l2 := cell_later hX u2
        have l3 := cell_later hX u3
        have l4 := cell_later hX u4
        have m2 := (HP.out.later hW).c2
        first
         | (go_simp; done)
         | (go_simp; exact rfl)
         | (go_simp
            first
            | (go_at_call 49; refine (mayBe_any (NRow.later HN.out hW) HRN.out HVN.out (decide_eq_true HM.out)).mono ?_; rintro e w3 ⟨rfl, hb3⟩; exact ⟨rfl, hX.trans (hb3.mono hX.size)⟩)
           )
      clear hK K
      simp only [Act.put, List.setIfInBounds_toArray, List.set_cons_zero, List.set_cons_succ])
 refine wpQuiet_nil (fun X hX => ?_)
 have HBX := hide (HBW.out.trans (hX.mono HBW.out.size)); have HPX := hide (HP.out.later HBX.out); have HVX := hide (below_box hX HV.out); clear hX u0 u1 u2 u3 u4
 have HNB : Hid (¬ k.blk bB ∧ W.heap.size ≤ bB) := hide ⟨fun hb9 => by have := (HP.out.lt hb9).2; have := HZbB.out; omega, by have := HZbB.out; omega⟩
 have u0 := cellB HVX.out (i := 0) rfl; have u1 := cellB HVX.out (i := 1) rfl; have u2 := cellB HVX.out (i := 2) rfl; have u3 := cellB HVX.out (i := 3) rfl; have u4 := cellB HVX.out (i := 4) rfl
 go_wp2_with fail
 refine (enter_any HPX.out HM.out.1).mono ?_
 rintro _ w1 ⟨rfl, hput⟩
 rw [HE.out]
 obtain ⟨k1, p1, p2, p3, p4, p5⟩ := hput
 rw [HK1.out] at p2
 have HI1 : Hid (PreI B W k k1 bB #[.int .i64 ep, .int .i64 id, .int .i64 bg, .slice rp rn rc, .slice vp vn vc] w1) := hide ⟨p1, p3, (Only.fresh HBX.out _).trans p4, fun i hi => (p5 i hi).imp (fun h9 => h9) (fun h9 => Nat.le_trans HBX.out.size h9), p4.obj HVX.out HNB.out.1, fun hb9 => (p5 _ hb9).elim HNB.out.1 (fun h9 => by have := box_lt HVX.out; omega), HNB.out.2⟩
 have HSK := hide p2
 have HRG : Hid (k1.reg = ep) := hide (by
   have h9 : k1.sk.reg = (raisC k.sk ep).reg := by rw [p2, HK1.out]
   rw [rais_reg] at h9
   have h8 : k1.reg = if k.reg < ep then ep else k.reg := h9
   have := HF.out
   split at h8 <;> omega)
 have HDN1 : Hid (k1.done.length < 4611686018427387904) := hide (by
   have h9 : k1.sk.done = (raisC k.sk ep).done := by rw [p2, HK1.out]
   have h8 : k1.done = (raisC k.sk ep).done := h9
   rw [h8]
   unfold raisC
   split
   · show ([] : List Int).length < 4611686018427387904; simp
   · exact HDN.out)
 have HVE : Hid (k1.vec.length = k.vec.length) := hide (by
   have h9 : k1.sk.vec = (raisC k.sk ep).vec := by rw [p2, HK1.out]
   have h8 : k1.vec = (raisC k.sk ep).vec := h9
   rw [h8]
   unfold raisC
   split <;> rfl)
 rw [← p3]
 clear p1 p2 p3 p4 p5 u0 u1 u2 u3 u4 HPX HVX HBX HPV HBW HV HBV; have u0 := cellB HI1.out.box (i := 0) rfl; have u1 := cellB HI1.out.box (i := 1) rfl; have u2 := cellB HI1.out.box (i := 2) rfl; have u3 := cellB HI1.out.box (i := 3) rfl; have u4 := cellB HI1.out.box (i := 4) rfl
 go_wp2_with fail
 refine name_any.mono ?_
 rintro _ w2 ⟨rfl, b2⟩
 have HI2 := hide (HI1.out.later b2); clear b2 HI1 u0 u1 u2 u3 u4; have u0 := cellB HI2.out.box (i := 0) rfl; have u1 := cellB HI2.out.box (i := 1) rfl; have u2 := cellB HI2.out.box (i := 2) rfl; have u3 := cellB HI2.out.box (i := 3) rfl; have u4 := cellB HI2.out.box (i := 4) rfl
 go_upto_region 9 with fail
 obtain ⟨X, hX⟩ : ∃ X, X = w2.alloc (.cells #[.int .i64 ep, .int .i64 id] 55 (0, 0)) := ⟨_, rfl⟩
 rw [← hX]
 have bX : Below w2.heap.size w2 X := by rw [hX]; exact alloc_below _ _
 obtain ⟨nB, hnB⟩ : ∃ nB, w2.heap.size = nB := ⟨_, rfl⟩
 have HNX : Hid (X.heap[nB]? = some (.cells #[.int .i64 ep, .int .i64 id] 55 (0, 0))) := hide (by rw [← hnB, hX]; exact heap_alloc_new w2 _)
 have HI3 := hide (HI2.out.later bX)
 have HNL : Hid (¬ k1.blk nB ∧ nB ≠ bB) := hide ⟨fun hb9 => by have := (HI2.out.ps.lt hb9).2; omega, fun e9 => by have := box_lt HI2.out.box; omega⟩
 try rw [hnB]
 clear hX bX hnB HI2 u0 u1 u2 u3 u4; have n0 := cellB HNX.out (i := 0) rfl; have n1 := cellB HNX.out (i := 1) rfl
 have HDO : Hid (doneC k1.sk ep id = false) := hide (by rw [HSK.out]; exact HDO0.out)
 go_wp2_with fail
 refine (done_any HI3.out.ps HDN1.out HDO.out).mono ?_
 rintro _ w4 ⟨rfl, b4⟩
 have HI4 := hide (HI3.out.later b4); have HN4 := hide (below_box b4 HNX.out); clear b4 HI3 HNX n0 n1
 obtain ⟨x, hx, hxt⟩ : ∃ x, findP k1.xs id = some x ∧ x.t = ht := by
  have h9 := HFI0.out
  rw [← HSK.out, find_P] at h9
  obtain ⟨x, h8, h7⟩ := Option.map_eq_some_iff.1 h9
  exact ⟨x, h8, h7⟩
 have HXM : Hid (x.ok w4) := hide (HI4.out.ps.pre x (List.mem_of_find?_eq_some hx)).ok
 have hlq : ∀ w, Below w4.heap.size w4 w → (Instr.lookup 61 (.map (some k1.mb)) (keyV ep id) true).run Try.prog w = .ok (.tuple #[rowOf (some x), .bool true]) w := fun w hw => by
  have h9 := ((HI4.out.ps.map.later hw).look HI4.out.ps.named HRG.out.symm HM.out.1 HM.out.2.1).1
  rw [hx] at h9
  exact h9
 obtain ⟨⟨e2, i2, g2, rs2, vs2⟩, rp2, rc2, vp2, vc2⟩ := x
 obtain ⟨rn2, hrn2⟩ : ∃ n, rs2.length = n := ⟨_, rfl⟩
 obtain ⟨vn2, hvn2⟩ : ∃ n, vs2.length = n := ⟨_, rfl⟩
 simp only at hxt
 have HXT := hide hxt
 simp only [rowOf, TP.row, keyV, hrn2, hvn2] at hlq
 have HLQ := hide hlq; have HRN2 := hide hrn2; have HVN2 := hide hvn2; clear hlq hrn2 hvn2 hxt hx; have n0 := cellB HN4.out (i := 0) rfl; have n1 := cellB HN4.out (i := 1) rfl; have m4 := HI4.out.ps.c4
 go_upto_region 11 with fail
 refine wp_region_held_drew (S := fun w9 => Below w4.heap.size w4 w9) (by kernel_rfl) (Below.refl _ w4).drew (fun hHeld => ?_)
 refine tb 0 ?_ rfl (by kernel_rfl) (fun _ _ _ h => h) (by assumption) ?_ ?_
 rotate_left
 ·intro w hSw; have l4 := cell_later hSw m4; have l0 := cell_later hSw n0; have l1 := cell_later hSw n1; have lq := HLQ.out w hSw; go_simp; all_goals with_reducible rfl
 simp only [Act.put]
 refine tb 1 ?_ rfl (by kernel_rfl) (fun _ _ _ h => h) (by assumption) ?_ ?_
 rotate_left
 ·intro w hSw; have l4 := cell_later hSw m4; have l0 := cell_later hSw n0; have l1 := cell_later hSw n1; have lq := HLQ.out w hSw; go_simp; all_goals with_reducible rfl
 simp only [Act.put]
 refine tb 2 ?_ rfl (by kernel_rfl) (fun _ _ _ h => h) (by assumption) ?_ ?_
 rotate_left
 ·intro w hSw; have l4 := cell_later hSw m4; have l0 := cell_later hSw n0; have l1 := cell_later hSw n1; have lq := HLQ.out w hSw; go_simp; all_goals with_reducible rfl
 simp only [Act.put]
 refine tb 3 ?_ rfl (by kernel_rfl) (fun _ _ _ h => h) (by assumption) ?_ ?_
 rotate_left
 ·intro w hSw; have l4 := cell_later hSw m4; have l0 := cell_later hSw n0; have l1 := cell_later hSw n1; have lq := HLQ.out w hSw; go_simp; all_goals with_reducible rfl
 simp only [Act.put]
 refine tb 4 ?_ rfl (by kernel_rfl) (fun _ _ _ h => h) (by assumption) ?_ ?_
 rotate_left
 ·intro w hSw; have l4 := cell_later hSw m4; have l0 := cell_later hSw n0; have l1 := cell_later hSw n1; have lq := HLQ.out w hSw; go_simp; all_goals with_reducible rfl
 simp only [Act.put]
 refine tb 5 ?_ rfl (by kernel_rfl) (fun _ _ _ h => h) (by assumption) ?_ ?_
 rotate_left
 ·intro w hSw; have l4 := cell_later hSw m4; have l0 := cell_later hSw n0; have l1 := cell_later hSw n1; have lq := HLQ.out w hSw; go_simp; all_goals with_reducible rfl
 simp only [Act.put]
 refine tb 6 ?_ rfl (by kernel_rfl) (fun _ _ _ h => h) (by assumption) ?_ ?_
 rotate_left
 ·intro w hSw; have l4 := cell_later hSw m4; have l0 := cell_later hSw n0; have l1 := cell_later hSw n1; have lq := HLQ.out w hSw; go_simp; all_goals with_reducible rfl
 simp only [Act.put]
 refine tb 7 ?_ rfl (by kernel_rfl) (fun _ _ _ h => h) (by assumption) ?_ ?_
 rotate_left
 ·intro w hSw; have l4 := cell_later hSw m4; have l0 := cell_later hSw n0; have l1 := cell_later hSw n1; have lq := HLQ.out w hSw; go_simp; all_goals with_reducible rfl
 simp only [Act.put]
 refine tb 8 ?_ rfl (by kernel_rfl) (fun _ _ _ h => h) (by assumption) ?_ ?_
 rotate_left
 ·intro w hSw; have l4 := cell_later hSw m4; have l0 := cell_later hSw n0; have l1 := cell_later hSw n1; have lq := HLQ.out w hSw; go_simp; all_goals with_reducible rfl
 simp only [Act.put]
 refine rr 9 (o := _) rfl (by kernel_rfl) (fun K hK => ?_)
 go_simp
 refine hK.out _ _ ((alloc_below w4 _).drew) (fun hHeld => ?_)
 clear hK
 refine rr 10 (o := _) rfl (by kernel_rfl) (fun K hK => ?_)
 go_simp
 refine hK.out _ _ ((alloc_below w4 _).drew) (fun hHeld => ?_)
 clear hK
 refine rr 11 (o := _) rfl (by kernel_rfl) (fun K hK => ?_)
 go_simp
 refine hK.out _ _ ((alloc_below w4 _).drew) (fun hHeld => ?_)
 clear hK
 refine wpAnyH_done (by kernel_rfl) ?_ _
 obtain ⟨Y, hY⟩ : ∃ Y, Y = (w4.alloc (.cells #[.int .i64 e2, .int .i64 i2, .int .i64 g2, .slice rp2 rn2 rc2, .slice vp2 vn2 vc2] 34 (0, 0))).drew := ⟨_, rfl⟩
 rw [← hY]
 have bY : Below w4.heap.size w4 Y := by rw [hY]; exact (alloc_below _ _).drew
 obtain ⟨hB, hhB⟩ : ∃ hB, w4.heap.size = hB := ⟨_, rfl⟩
 have hhx : Y.heap[hB]? = some (.cells #[.int .i64 e2, .int .i64 i2, .int .i64 g2, .slice rp2 rn2 rc2, .slice vp2 vn2 vc2] 34 (0, 0)) := by rw [← hhB, hY]; exact heap_alloc_new w4 _
 have HI5 := hide (HI4.out.later bY); have HX5 := hide (HXM.out.later bY)
 try rw [hhB]
 clear hY bY hhB hHeld HI4 HN4 HXM n0 n1 m4; have v0 := cellB hhx (i := 0) rfl; have v1 := cellB hhx (i := 1) rfl; have v2 := cellB hhx (i := 2) rfl; have v3 := cellB hhx (i := 3) rfl; have v4 := cellB hhx (i := 4) rfl; have u0 := cellB HI5.out.box (i := 0) rfl; have u1 := cellB HI5.out.box (i := 1) rfl; have u2 := cellB HI5.out.box (i := 2) rfl; have u3 := cellB HI5.out.box (i := 3) rfl; have u4 := cellB HI5.out.box (i := 4) rfl; clear hhx
 go_wp2_with fail
 refine (sametxn_all HX5.out.r HX5.out.v (HI5.out.row HR.out (fun i hi => HD.out i (.inl hi))) (HI5.out.num HN.out (fun i hi => HD.out i (.inr hi))) HRN2.out HVN2.out HRN.out HVN.out (rb := false) (by rw [HXT.out]; exact decide_eq_false HHT.out)).mono ?_
 rintro _ w6 ⟨rfl, b6⟩
 have HI6 := hide (HI5.out.later b6); clear b6 HI5 HX5 u0 v0 u1 v1 u2 v2 u3 v3 u4 v4; go_wp2; go_ret
 exact ⟨rfl, by rw [← HSK.out]; exact HI6.out.put (Below.refl _ _)⟩
attribute [local irreducible] wpQuiet in
set_option maxRecDepth 100000 in
set_option maxHeartbeats 8000000 in
theorem pre_unfit {W : World} {B : Nat} {k : PK} {ep id bg : Int} {rp vp : Option Addr} {rn rc vn vc : Nat} {rs : List RC} {vs : List Int} {s1 : SK} (h : PS B W k) (hr : RRow W rp rc rs) (hv : NRow W vp vc vs) (hrn : rs.length = rn) (hvn : vs.length = vn) (hd : ∀ i, InC rp rc i ∨ InC vp vc i → ¬ k.blk i) (hdn : k.done.length < 4611686018427387904) (hm : mayC k.vec.length ⟨ep, id, bg, rs, vs⟩) (hf : ¬ ep < k.reg) (hk1 : raisC k.sk ep = s1) {q : Int} (hdo : doneC s1 ep id = false) (hfi : findC s1 id = none) (hsu : suitC s1 ⟨ep, id, bg, rs, vs⟩ = q) (hsn : q ≠ 0) :
  Calls Try.prog 20 #[.pointer (some ⟨k.b, 0, none⟩), .agg #[.int .i64 ep, .int .i64 id, .int .i64 bg, .slice rp rn rc, .slice vp vn vc]] W fun e w' => e = .returned (.int .i64 q) ∧ Put B W k (s1) w' := by
 have HDO0 := hide hdo
 have HFI0 := hide hfi; have HSU0 := hide hsu; clear hdo hfi hsu; have HSN := hide hsn
 have q1 : (q != 0) = true := ne_ne8 hsn
 clear hsn; have HM := hide hm
 have HE : Hid (entC k.sk ep = 0) := hide (if_neg hf)
 have HF := hide hf; have HK1 := hide hk1; clear hm hf hk1; have HP := hide h; have HR := hide hr; have HN := hide hv; have HRN := hide hrn; have HVN := hide hvn; have HD := hide hd; have HDN := hide hdn; clear h hr hv hrn hvn hd hdn
 obtain ⟨V, hV⟩ : ∃ V, V = W.alloc (.cells #[.int .i64 ep, .int .i64 id, .int .i64 bg, .slice rp rn rc, .slice vp vn vc] 34 (0, 0)) := ⟨_, rfl⟩
 have HV : Hid (V.heap[W.heap.size]? = some (.cells #[.int .i64 ep, .int .i64 id, .int .i64 bg, .slice rp rn rc, .slice vp vn vc] 34 (0, 0))) := hide (by rw [hV]; exact heap_alloc_new W _)
 have HBV : Hid (Below W.heap.size W V) := hide (by rw [hV]; exact alloc_below _ _)
 obtain ⟨bB, hbB⟩ : ∃ bB, W.heap.size = bB := ⟨_, rfl⟩
 rw [hbB] at HV HBV
 have HZbB := hide hbB
 have HBW : Hid (Below W.heap.size W V) := hide (by rw [HZbB.out]; exact HBV.out)
 have HPV : Hid (PS B V k) := hide (HP.out.later HBW.out)
 go_enter Try.func20, Try.ntmps20
 go_upto_region 1 with fail
 rw [← hV]
 try rw [hbB]
 clear hV hbB
 go_wp2_with fail
 refine (made_yes HPV.out).mono ?_
 rintro _ _ ⟨rfl, rfl⟩
 rename World => V
 go_upto_region 3 with fail
 have u0 := cellB HV.out (i := 0) rfl; have u1 := cellB HV.out (i := 1) rfl; have u2 := cellB HV.out (i := 2) rfl; have u3 := cellB HV.out (i := 3) rfl; have u4 := cellB HV.out (i := 4) rfl
 refine region_class (fun X => Below V.heap.size V X) (by kernel_rfl) (by kernel_rfl) (Below.refl _ V).drew ?_
 repeat
  first
   | (refine BigFrame.wpQuiet_skip (by rfl) ?_
      simp only [Act.put, List.setIfInBounds_toArray, List.set_cons_zero, List.set_cons_succ])
   | (refine BigFrame.wpQuiet_want (by rfl) (fun K hK => ?_)
      unfold Oper.quiet
      apply Exists.intro
      refine ⟨fun X hX => ?_, hK _ ?_⟩
      · have hW := HBW.out.trans (hX.mono HBW.out.size)
        have l0 := cell_later hX u0
        have l1 := cell_later hX u1
        have l2 := cell_later hX u2
        have l3 := cell_later hX u3
        have l4 := cell_later hX u4
        have m2 := (HP.out.later hW).c2
        first
         | (go_simp; done)
         | (go_simp; exact rfl)
         | (go_simp
            first
            | (go_at_call 49; refine (mayBe_any (NRow.later HN.out hW) HRN.out HVN.out (decide_eq_true HM.out)).mono ?_; rintro e w3 ⟨rfl, hb3⟩; exact ⟨rfl, hX.trans (hb3.mono hX.size)⟩)
           )
      clear hK K
      simp only [Act.put, List.setIfInBounds_toArray, List.set_cons_zero, List.set_cons_succ])
 refine wpQuiet_nil (fun X hX => ?_)
 have HBX := hide (HBW.out.trans (hX.mono HBW.out.size)); have HPX := hide (HP.out.later HBX.out); have HVX := hide (below_box hX HV.out); clear hX u0 u1 u2 u3 u4
 have HNB : Hid (¬ k.blk bB ∧ W.heap.size ≤ bB) := hide ⟨fun hb9 => by have := (HP.out.lt hb9).2; have := HZbB.out; omega, by have := HZbB.out; omega⟩
 have u0 := cellB HVX.out (i := 0) rfl; have u1 := cellB HVX.out (i := 1) rfl; have u2 := cellB HVX.out (i := 2) rfl; have u3 := cellB HVX.out (i := 3) rfl; have u4 := cellB HVX.out (i := 4) rfl
 go_wp2_with fail
 refine (enter_any HPX.out HM.out.1).mono ?_
 rintro _ w1 ⟨rfl, hput⟩
 rw [HE.out]
 obtain ⟨k1, p1, p2, p3, p4, p5⟩ := hput
 rw [HK1.out] at p2
 have HI1 : Hid (PreI B W k k1 bB #[.int .i64 ep, .int .i64 id, .int .i64 bg, .slice rp rn rc, .slice vp vn vc] w1) := hide ⟨p1, p3, (Only.fresh HBX.out _).trans p4, fun i hi => (p5 i hi).imp (fun h9 => h9) (fun h9 => Nat.le_trans HBX.out.size h9), p4.obj HVX.out HNB.out.1, fun hb9 => (p5 _ hb9).elim HNB.out.1 (fun h9 => by have := box_lt HVX.out; omega), HNB.out.2⟩
 have HSK := hide p2
 have HRG : Hid (k1.reg = ep) := hide (by
   have h9 : k1.sk.reg = (raisC k.sk ep).reg := by rw [p2, HK1.out]
   rw [rais_reg] at h9
   have h8 : k1.reg = if k.reg < ep then ep else k.reg := h9
   have := HF.out
   split at h8 <;> omega)
 have HDN1 : Hid (k1.done.length < 4611686018427387904) := hide (by
   have h9 : k1.sk.done = (raisC k.sk ep).done := by rw [p2, HK1.out]
   have h8 : k1.done = (raisC k.sk ep).done := h9
   rw [h8]
   unfold raisC
   split
   · show ([] : List Int).length < 4611686018427387904; simp
   · exact HDN.out)
 have HVE : Hid (k1.vec.length = k.vec.length) := hide (by
   have h9 : k1.sk.vec = (raisC k.sk ep).vec := by rw [p2, HK1.out]
   have h8 : k1.vec = (raisC k.sk ep).vec := h9
   rw [h8]
   unfold raisC
   split <;> rfl)
 rw [← p3]
 clear p1 p2 p3 p4 p5 u0 u1 u2 u3 u4 HPX HVX HBX HPV HBW HV HBV; have u0 := cellB HI1.out.box (i := 0) rfl; have u1 := cellB HI1.out.box (i := 1) rfl; have u2 := cellB HI1.out.box (i := 2) rfl; have u3 := cellB HI1.out.box (i := 3) rfl; have u4 := cellB HI1.out.box (i := 4) rfl
 go_wp2_with fail
 refine name_any.mono ?_
 rintro _ w2 ⟨rfl, b2⟩
 have HI2 := hide (HI1.out.later b2); clear b2 HI1 u0 u1 u2 u3 u4; have u0 := cellB HI2.out.box (i := 0) rfl; have u1 := cellB HI2.out.box (i := 1) rfl; have u2 := cellB HI2.out.box (i := 2) rfl; have u3 := cellB HI2.out.box (i := 3) rfl; have u4 := cellB HI2.out.box (i := 4) rfl
 go_upto_region 9 with fail
 obtain ⟨X, hX⟩ : ∃ X, X = w2.alloc (.cells #[.int .i64 ep, .int .i64 id] 55 (0, 0)) := ⟨_, rfl⟩
 rw [← hX]
 have bX : Below w2.heap.size w2 X := by rw [hX]; exact alloc_below _ _
 obtain ⟨nB, hnB⟩ : ∃ nB, w2.heap.size = nB := ⟨_, rfl⟩
 have HNX : Hid (X.heap[nB]? = some (.cells #[.int .i64 ep, .int .i64 id] 55 (0, 0))) := hide (by rw [← hnB, hX]; exact heap_alloc_new w2 _)
 have HI3 := hide (HI2.out.later bX)
 have HNL : Hid (¬ k1.blk nB ∧ nB ≠ bB) := hide ⟨fun hb9 => by have := (HI2.out.ps.lt hb9).2; omega, fun e9 => by have := box_lt HI2.out.box; omega⟩
 try rw [hnB]
 clear hX bX hnB HI2 u0 u1 u2 u3 u4; have n0 := cellB HNX.out (i := 0) rfl; have n1 := cellB HNX.out (i := 1) rfl
 have HDO : Hid (doneC k1.sk ep id = false) := hide (by rw [HSK.out]; exact HDO0.out)
 go_wp2_with fail
 refine (done_any HI3.out.ps HDN1.out HDO.out).mono ?_
 rintro _ w4 ⟨rfl, b4⟩
 have HI4 := hide (HI3.out.later b4); have HN4 := hide (below_box b4 HNX.out); clear b4 HI3 HNX n0 n1
 have HFN : Hid (findP k1.xs id = none) := hide (by
   have h9 := HFI0.out
   rw [← HSK.out, find_P] at h9
   exact Option.map_eq_none_iff.1 h9)
 have hlq : ∀ w, Below w4.heap.size w4 w → (Instr.lookup 61 (.map (some k1.mb)) (keyV ep id) true).run Try.prog w = .ok (.tuple #[rowOf none, .bool false]) w := fun w hw => by
  have h9 := ((HI4.out.ps.map.later hw).look HI4.out.ps.named HRG.out.symm HM.out.1 HM.out.2.1).1
  rw [HFN.out] at h9
  exact h9
 simp only [rowOf, zeroRow, keyV] at hlq
 have HLQ := hide hlq; clear hlq; have n0 := cellB HN4.out (i := 0) rfl; have n1 := cellB HN4.out (i := 1) rfl; have m4 := HI4.out.ps.c4
 go_upto_region 11 with fail
 refine wp_region_held_drew (S := fun w9 => Below w4.heap.size w4 w9) (by kernel_rfl) (Below.refl _ w4).drew (fun hHeld => ?_)
 refine tb 0 ?_ rfl (by kernel_rfl) (fun _ _ _ h => h) (by assumption) ?_ ?_
 rotate_left
 ·intro w hSw; have l4 := cell_later hSw m4; have l0 := cell_later hSw n0; have l1 := cell_later hSw n1; have lq := HLQ.out w hSw; go_simp; all_goals with_reducible rfl
 simp only [Act.put]
 refine tb 1 ?_ rfl (by kernel_rfl) (fun _ _ _ h => h) (by assumption) ?_ ?_
 rotate_left
 ·intro w hSw; have l4 := cell_later hSw m4; have l0 := cell_later hSw n0; have l1 := cell_later hSw n1; have lq := HLQ.out w hSw; go_simp; all_goals with_reducible rfl
 simp only [Act.put]
 refine tb 2 ?_ rfl (by kernel_rfl) (fun _ _ _ h => h) (by assumption) ?_ ?_
 rotate_left
 ·intro w hSw; have l4 := cell_later hSw m4; have l0 := cell_later hSw n0; have l1 := cell_later hSw n1; have lq := HLQ.out w hSw; go_simp; all_goals with_reducible rfl
 simp only [Act.put]
 refine tb 3 ?_ rfl (by kernel_rfl) (fun _ _ _ h => h) (by assumption) ?_ ?_
 rotate_left
 ·intro w hSw; have l4 := cell_later hSw m4; have l0 := cell_later hSw n0; have l1 := cell_later hSw n1; have lq := HLQ.out w hSw; go_simp; all_goals with_reducible rfl
 simp only [Act.put]
 refine tb 4 ?_ rfl (by kernel_rfl) (fun _ _ _ h => h) (by assumption) ?_ ?_
 rotate_left
 ·intro w hSw; have l4 := cell_later hSw m4; have l0 := cell_later hSw n0; have l1 := cell_later hSw n1; have lq := HLQ.out w hSw; go_simp; all_goals with_reducible rfl
 simp only [Act.put]
 refine tb 5 ?_ rfl (by kernel_rfl) (fun _ _ _ h => h) (by assumption) ?_ ?_
 rotate_left
 ·intro w hSw; have l4 := cell_later hSw m4; have l0 := cell_later hSw n0; have l1 := cell_later hSw n1; have lq := HLQ.out w hSw; go_simp; all_goals with_reducible rfl
 simp only [Act.put]
 refine tb 6 ?_ rfl (by kernel_rfl) (fun _ _ _ h => h) (by assumption) ?_ ?_
 rotate_left
 ·intro w hSw; have l4 := cell_later hSw m4; have l0 := cell_later hSw n0; have l1 := cell_later hSw n1; have lq := HLQ.out w hSw; go_simp; all_goals with_reducible rfl
 simp only [Act.put]
 refine tb 7 ?_ rfl (by kernel_rfl) (fun _ _ _ h => h) (by assumption) ?_ ?_
 rotate_left
 ·intro w hSw; have l4 := cell_later hSw m4; have l0 := cell_later hSw n0; have l1 := cell_later hSw n1; have lq := HLQ.out w hSw; go_simp; all_goals with_reducible rfl
 simp only [Act.put]
 refine tb 8 ?_ rfl (by kernel_rfl) (fun _ _ _ h => h) (by assumption) ?_ ?_
 rotate_left
 ·intro w hSw; have l4 := cell_later hSw m4; have l0 := cell_later hSw n0; have l1 := cell_later hSw n1; have lq := HLQ.out w hSw; go_simp; all_goals with_reducible rfl
 simp only [Act.put]
 refine rr 9 (o := _) rfl (by kernel_rfl) (fun K hK => ?_)
 go_simp
 refine hK.out _ _ ((alloc_below w4 _).drew) (fun hHeld => ?_)
 clear hK
 refine rr 10 (o := _) rfl (by kernel_rfl) (fun K hK => ?_)
 go_simp
 refine hK.out _ _ ((alloc_below w4 _).drew) (fun hHeld => ?_)
 clear hK
 refine rr 11 (o := _) rfl (by kernel_rfl) (fun K hK => ?_)
 go_simp
 refine hK.out _ _ ((alloc_below w4 _).drew) (fun hHeld => ?_)
 clear hK
 refine wpAnyH_done (by kernel_rfl) ?_ _
 obtain ⟨Y, hY⟩ : ∃ Y, Y = (w4.alloc (.cells #[.int .i64 0, .int .i64 0, .int .i64 0, .slice none 0 0, .slice none 0 0] 34 (0, 0))).drew := ⟨_, rfl⟩
 rw [← hY]
 have bY : Below w4.heap.size w4 Y := by rw [hY]; exact (alloc_below _ _).drew
 have HI5 := hide (HI4.out.later bY); have HN5 := hide (below_box bY HN4.out); clear hY bY hHeld HI4 HN4 n0 n1 m4; have u0 := cellB HI5.out.box (i := 0) rfl; have u1 := cellB HI5.out.box (i := 1) rfl; have u2 := cellB HI5.out.box (i := 2) rfl; have u3 := cellB HI5.out.box (i := 3) rfl; have u4 := cellB HI5.out.box (i := 4) rfl
 have HTP : Hid (TP.ok ⟨⟨ep, id, bg, rs, vs⟩, rp, rc, vp, vc⟩ Y) := hide ⟨HI5.out.row HR.out (fun i hi => HD.out i (.inl hi)), HI5.out.num HN.out (fun i hi => HD.out i (.inr hi))⟩
 have hsu9 := suits_any (q := q) HI5.out.ps HTP.out (by rw [HVE.out]; exact HM.out) (by rw [HSK.out]; exact HSU0.out)
 simp only [TP.row, HRN.out, HVN.out] at hsu9
 go_wp2_with fail
 refine hsu9.mono ?_
 rintro _ w6 ⟨rfl, b6⟩
 have HI6 := hide (HI5.out.later b6); have HN6 := hide (below_box b6 HN5.out); clear b6 HI5 HN5 HTP hsu9 u0 u1 u2 u3 u4; go_wp2; go_ret
 exact ⟨rfl, by rw [← HSK.out]; exact HI6.out.put (Below.refl _ _)⟩
attribute [local irreducible] wpQuiet in
set_option maxRecDepth 100000 in
set_option maxHeartbeats 8000000 in
theorem pre_full {W : World} {B : Nat} {k : PK} {ep id bg : Int} {rp vp : Option Addr} {rn rc vn vc : Nat} {rs : List RC} {vs : List Int} {s1 : SK} (h : PS B W k) (hr : RRow W rp rc rs) (hv : NRow W vp vc vs) (hrn : rs.length = rn) (hvn : vs.length = vn) (hd : ∀ i, InC rp rc i ∨ InC vp vc i → ¬ k.blk i) (hdn : k.done.length < 4611686018427387904) (hm : mayC k.vec.length ⟨ep, id, bg, rs, vs⟩) (hf : ¬ ep < k.reg) (hk1 : raisC k.sk ep = s1) (hdo : doneC s1 ep id = false) (hfi : findC s1 id = none) (hsu : suitC s1 ⟨ep, id, bg, rs, vs⟩ = 0) (hfu : s1.pre.length = 8) :
  Calls Try.prog 20 #[.pointer (some ⟨k.b, 0, none⟩), .agg #[.int .i64 ep, .int .i64 id, .int .i64 bg, .slice rp rn rc, .slice vp vn vc]] W fun e w' => e = .returned (.int .i64 6) ∧ Put B W k (s1) w' := by
 have HDO0 := hide hdo
 have HFI0 := hide hfi; have HSU0 := hide hsu; clear hdo hfi hsu; have HFU := hide hfu; clear hfu; have HM := hide hm
 have HE : Hid (entC k.sk ep = 0) := hide (if_neg hf)
 have HF := hide hf; have HK1 := hide hk1; clear hm hf hk1; have HP := hide h; have HR := hide hr; have HN := hide hv; have HRN := hide hrn; have HVN := hide hvn; have HD := hide hd; have HDN := hide hdn; clear h hr hv hrn hvn hd hdn
 obtain ⟨V, hV⟩ : ∃ V, V = W.alloc (.cells #[.int .i64 ep, .int .i64 id, .int .i64 bg, .slice rp rn rc, .slice vp vn vc] 34 (0, 0)) := ⟨_, rfl⟩
 have HV : Hid (V.heap[W.heap.size]? = some (.cells #[.int .i64 ep, .int .i64 id, .int .i64 bg, .slice rp rn rc, .slice vp vn vc] 34 (0, 0))) := hide (by rw [hV]; exact heap_alloc_new W _)
 have HBV : Hid (Below W.heap.size W V) := hide (by rw [hV]; exact alloc_below _ _)
 obtain ⟨bB, hbB⟩ : ∃ bB, W.heap.size = bB := ⟨_, rfl⟩
 rw [hbB] at HV HBV
 have HZbB := hide hbB
 have HBW : Hid (Below W.heap.size W V) := hide (by rw [HZbB.out]; exact HBV.out)
 have HPV : Hid (PS B V k) := hide (HP.out.later HBW.out)
 go_enter Try.func20, Try.ntmps20
 go_upto_region 1 with fail
 rw [← hV]
 try rw [hbB]
 clear hV hbB
 go_wp2_with fail
 refine (made_yes HPV.out).mono ?_
 rintro _ _ ⟨rfl, rfl⟩
 rename World => V
 go_upto_region 3 with fail
 have u0 := cellB HV.out (i := 0) rfl; have u1 := cellB HV.out (i := 1) rfl; have u2 := cellB HV.out (i := 2) rfl; have u3 := cellB HV.out (i := 3) rfl; have u4 := cellB HV.out (i := 4) rfl
 refine region_class (fun X => Below V.heap.size V X) (by kernel_rfl) (by kernel_rfl) (Below.refl _ V).drew ?_
 repeat
  first
   | (refine BigFrame.wpQuiet_skip (by rfl) ?_
      simp only [Act.put, List.setIfInBounds_toArray, List.set_cons_zero, List.set_cons_succ])
   | (refine BigFrame.wpQuiet_want (by rfl) (fun K hK => ?_)
      unfold Oper.quiet
      apply Exists.intro
      refine ⟨fun X hX => ?_, hK _ ?_⟩
      · have hW := HBW.out.trans (hX.mono HBW.out.size)
        have l0 := cell_later hX u0
        have l1 := cell_later hX u1
        have l2 := cell_later hX u2
        have l3 := cell_later hX u3
        have l4 := cell_later hX u4
        have m2 := (HP.out.later hW).c2
        first
         | (go_simp; done)
         | (go_simp; exact rfl)
         | (go_simp
            first
            | (go_at_call 49; refine (mayBe_any (NRow.later HN.out hW) HRN.out HVN.out (decide_eq_true HM.out)).mono ?_; rintro e w3 ⟨rfl, hb3⟩; exact ⟨rfl, hX.trans (hb3.mono hX.size)⟩)
           )
      clear hK K
      simp only [Act.put, List.setIfInBounds_toArray, List.set_cons_zero, List.set_cons_succ])
 refine wpQuiet_nil (fun X hX => ?_)
 have HBX := hide (HBW.out.trans (hX.mono HBW.out.size)); have HPX := hide (HP.out.later HBX.out); have HVX := hide (below_box hX HV.out); clear hX u0 u1 u2 u3 u4
 have HNB : Hid (¬ k.blk bB ∧ W.heap.size ≤ bB) := hide ⟨fun hb9 => by have := (HP.out.lt hb9).2; have := HZbB.out; omega, by have := HZbB.out; omega⟩
 have u0 := cellB HVX.out (i := 0) rfl; have u1 := cellB HVX.out (i := 1) rfl; have u2 := cellB HVX.out (i := 2) rfl; have u3 := cellB HVX.out (i := 3) rfl; have u4 := cellB HVX.out (i := 4) rfl
 go_wp2_with fail
 refine (enter_any HPX.out HM.out.1).mono ?_
 rintro _ w1 ⟨rfl, hput⟩
 rw [HE.out]
 obtain ⟨k1, p1, p2, p3, p4, p5⟩ := hput
 rw [HK1.out] at p2
 have HI1 : Hid (PreI B W k k1 bB #[.int .i64 ep, .int .i64 id, .int .i64 bg, .slice rp rn rc, .slice vp vn vc] w1) := hide ⟨p1, p3, (Only.fresh HBX.out _).trans p4, fun i hi => (p5 i hi).imp (fun h9 => h9) (fun h9 => Nat.le_trans HBX.out.size h9), p4.obj HVX.out HNB.out.1, fun hb9 => (p5 _ hb9).elim HNB.out.1 (fun h9 => by have := box_lt HVX.out; omega), HNB.out.2⟩
 have HSK := hide p2
 have HRG : Hid (k1.reg = ep) := hide (by
   have h9 : k1.sk.reg = (raisC k.sk ep).reg := by rw [p2, HK1.out]
   rw [rais_reg] at h9
   have h8 : k1.reg = if k.reg < ep then ep else k.reg := h9
   have := HF.out
   split at h8 <;> omega)
 have HDN1 : Hid (k1.done.length < 4611686018427387904) := hide (by
   have h9 : k1.sk.done = (raisC k.sk ep).done := by rw [p2, HK1.out]
   have h8 : k1.done = (raisC k.sk ep).done := h9
   rw [h8]
   unfold raisC
   split
   · show ([] : List Int).length < 4611686018427387904; simp
   · exact HDN.out)
 have HVE : Hid (k1.vec.length = k.vec.length) := hide (by
   have h9 : k1.sk.vec = (raisC k.sk ep).vec := by rw [p2, HK1.out]
   have h8 : k1.vec = (raisC k.sk ep).vec := h9
   rw [h8]
   unfold raisC
   split <;> rfl)
 rw [← p3]
 clear p1 p2 p3 p4 p5 u0 u1 u2 u3 u4 HPX HVX HBX HPV HBW HV HBV; have u0 := cellB HI1.out.box (i := 0) rfl; have u1 := cellB HI1.out.box (i := 1) rfl; have u2 := cellB HI1.out.box (i := 2) rfl; have u3 := cellB HI1.out.box (i := 3) rfl; have u4 := cellB HI1.out.box (i := 4) rfl
 go_wp2_with fail
 refine name_any.mono ?_
 rintro _ w2 ⟨rfl, b2⟩
 have HI2 := hide (HI1.out.later b2); clear b2 HI1 u0 u1 u2 u3 u4; have u0 := cellB HI2.out.box (i := 0) rfl; have u1 := cellB HI2.out.box (i := 1) rfl; have u2 := cellB HI2.out.box (i := 2) rfl; have u3 := cellB HI2.out.box (i := 3) rfl; have u4 := cellB HI2.out.box (i := 4) rfl
 go_upto_region 9 with fail
 obtain ⟨X, hX⟩ : ∃ X, X = w2.alloc (.cells #[.int .i64 ep, .int .i64 id] 55 (0, 0)) := ⟨_, rfl⟩
 rw [← hX]
 have bX : Below w2.heap.size w2 X := by rw [hX]; exact alloc_below _ _
 obtain ⟨nB, hnB⟩ : ∃ nB, w2.heap.size = nB := ⟨_, rfl⟩
 have HNX : Hid (X.heap[nB]? = some (.cells #[.int .i64 ep, .int .i64 id] 55 (0, 0))) := hide (by rw [← hnB, hX]; exact heap_alloc_new w2 _)
 have HI3 := hide (HI2.out.later bX)
 have HNL : Hid (¬ k1.blk nB ∧ nB ≠ bB) := hide ⟨fun hb9 => by have := (HI2.out.ps.lt hb9).2; omega, fun e9 => by have := box_lt HI2.out.box; omega⟩
 try rw [hnB]
 clear hX bX hnB HI2 u0 u1 u2 u3 u4; have n0 := cellB HNX.out (i := 0) rfl; have n1 := cellB HNX.out (i := 1) rfl
 have HDO : Hid (doneC k1.sk ep id = false) := hide (by rw [HSK.out]; exact HDO0.out)
 go_wp2_with fail
 refine (done_any HI3.out.ps HDN1.out HDO.out).mono ?_
 rintro _ w4 ⟨rfl, b4⟩
 have HI4 := hide (HI3.out.later b4); have HN4 := hide (below_box b4 HNX.out); clear b4 HI3 HNX n0 n1
 have HFN : Hid (findP k1.xs id = none) := hide (by
   have h9 := HFI0.out
   rw [← HSK.out, find_P] at h9
   exact Option.map_eq_none_iff.1 h9)
 have hlq : ∀ w, Below w4.heap.size w4 w → (Instr.lookup 61 (.map (some k1.mb)) (keyV ep id) true).run Try.prog w = .ok (.tuple #[rowOf none, .bool false]) w := fun w hw => by
  have h9 := ((HI4.out.ps.map.later hw).look HI4.out.ps.named HRG.out.symm HM.out.1 HM.out.2.1).1
  rw [HFN.out] at h9
  exact h9
 simp only [rowOf, zeroRow, keyV] at hlq
 have HLQ := hide hlq; clear hlq; have n0 := cellB HN4.out (i := 0) rfl; have n1 := cellB HN4.out (i := 1) rfl; have m4 := HI4.out.ps.c4
 go_upto_region 11 with fail
 refine wp_region_held_drew (S := fun w9 => Below w4.heap.size w4 w9) (by kernel_rfl) (Below.refl _ w4).drew (fun hHeld => ?_)
 refine tb 0 ?_ rfl (by kernel_rfl) (fun _ _ _ h => h) (by assumption) ?_ ?_
 rotate_left
 ·intro w hSw; have l4 := cell_later hSw m4; have l0 := cell_later hSw n0; have l1 := cell_later hSw n1; have lq := HLQ.out w hSw; go_simp; all_goals with_reducible rfl
 simp only [Act.put]
 refine tb 1 ?_ rfl (by kernel_rfl) (fun _ _ _ h => h) (by assumption) ?_ ?_
 rotate_left
 ·intro w hSw; have l4 := cell_later hSw m4; have l0 := cell_later hSw n0; have l1 := cell_later hSw n1; have lq := HLQ.out w hSw; go_simp; all_goals with_reducible rfl
 simp only [Act.put]
 refine tb 2 ?_ rfl (by kernel_rfl) (fun _ _ _ h => h) (by assumption) ?_ ?_
 rotate_left
 ·intro w hSw; have l4 := cell_later hSw m4; have l0 := cell_later hSw n0; have l1 := cell_later hSw n1; have lq := HLQ.out w hSw; go_simp; all_goals with_reducible rfl
 simp only [Act.put]
 refine tb 3 ?_ rfl (by kernel_rfl) (fun _ _ _ h => h) (by assumption) ?_ ?_
 rotate_left
 ·intro w hSw; have l4 := cell_later hSw m4; have l0 := cell_later hSw n0; have l1 := cell_later hSw n1; have lq := HLQ.out w hSw; go_simp; all_goals with_reducible rfl
 simp only [Act.put]
 refine tb 4 ?_ rfl (by kernel_rfl) (fun _ _ _ h => h) (by assumption) ?_ ?_
 rotate_left
 ·intro w hSw; have l4 := cell_later hSw m4; have l0 := cell_later hSw n0; have l1 := cell_later hSw n1; have lq := HLQ.out w hSw; go_simp; all_goals with_reducible rfl
 simp only [Act.put]
 refine tb 5 ?_ rfl (by kernel_rfl) (fun _ _ _ h => h) (by assumption) ?_ ?_
 rotate_left
 ·intro w hSw; have l4 := cell_later hSw m4; have l0 := cell_later hSw n0; have l1 := cell_later hSw n1; have lq := HLQ.out w hSw; go_simp; all_goals with_reducible rfl
 simp only [Act.put]
 refine tb 6 ?_ rfl (by kernel_rfl) (fun _ _ _ h => h) (by assumption) ?_ ?_
 rotate_left
 ·intro w hSw; have l4 := cell_later hSw m4; have l0 := cell_later hSw n0; have l1 := cell_later hSw n1; have lq := HLQ.out w hSw; go_simp; all_goals with_reducible rfl
 simp only [Act.put]
 refine tb 7 ?_ rfl (by kernel_rfl) (fun _ _ _ h => h) (by assumption) ?_ ?_
 rotate_left
 ·intro w hSw; have l4 := cell_later hSw m4; have l0 := cell_later hSw n0; have l1 := cell_later hSw n1; have lq := HLQ.out w hSw; go_simp; all_goals with_reducible rfl
 simp only [Act.put]
 refine tb 8 ?_ rfl (by kernel_rfl) (fun _ _ _ h => h) (by assumption) ?_ ?_
 rotate_left
 ·intro w hSw; have l4 := cell_later hSw m4; have l0 := cell_later hSw n0; have l1 := cell_later hSw n1; have lq := HLQ.out w hSw; go_simp; all_goals with_reducible rfl
 simp only [Act.put]
 refine rr 9 (o := _) rfl (by kernel_rfl) (fun K hK => ?_)
 go_simp
 refine hK.out _ _ ((alloc_below w4 _).drew) (fun hHeld => ?_)
 clear hK
 refine rr 10 (o := _) rfl (by kernel_rfl) (fun K hK => ?_)
 go_simp
 refine hK.out _ _ ((alloc_below w4 _).drew) (fun hHeld => ?_)
 clear hK
 refine rr 11 (o := _) rfl (by kernel_rfl) (fun K hK => ?_)
 go_simp
 refine hK.out _ _ ((alloc_below w4 _).drew) (fun hHeld => ?_)
 clear hK
 refine wpAnyH_done (by kernel_rfl) ?_ _
 obtain ⟨Y, hY⟩ : ∃ Y, Y = (w4.alloc (.cells #[.int .i64 0, .int .i64 0, .int .i64 0, .slice none 0 0, .slice none 0 0] 34 (0, 0))).drew := ⟨_, rfl⟩
 rw [← hY]
 have bY : Below w4.heap.size w4 Y := by rw [hY]; exact (alloc_below _ _).drew
 have HI5 := hide (HI4.out.later bY); have HN5 := hide (below_box bY HN4.out); clear hY bY hHeld HI4 HN4 n0 n1 m4; have u0 := cellB HI5.out.box (i := 0) rfl; have u1 := cellB HI5.out.box (i := 1) rfl; have u2 := cellB HI5.out.box (i := 2) rfl; have u3 := cellB HI5.out.box (i := 3) rfl; have u4 := cellB HI5.out.box (i := 4) rfl
 have HTP : Hid (TP.ok ⟨⟨ep, id, bg, rs, vs⟩, rp, rc, vp, vc⟩ Y) := hide ⟨HI5.out.row HR.out (fun i hi => HD.out i (.inl hi)), HI5.out.num HN.out (fun i hi => HD.out i (.inr hi))⟩
 have hsu9 := suits_any (q := 0) HI5.out.ps HTP.out (by rw [HVE.out]; exact HM.out) (by rw [HSK.out]; exact HSU0.out)
 simp only [TP.row, HRN.out, HVN.out] at hsu9
 go_wp2_with fail
 refine hsu9.mono ?_
 rintro _ w6 ⟨rfl, b6⟩
 have HI6 := hide (HI5.out.later b6); have HN6 := hide (below_box b6 HN5.out); clear b6 HI5 HN5 HTP hsu9 u0 u1 u2 u3 u4; have m4 := HI6.out.ps.c4
 have hlen : k1.xs.length = s1.pre.length := by rw [← HSK.out]; show k1.xs.length = (k1.xs.map TP.t).length; rw [List.length_map]
 have qlen := fun ty => HI6.out.ps.map.len ty
 have d8 : ((k1.xs.length : Int) == 8) = true := by have := HFU.out; simpa using (by omega : (k1.xs.length : Int) = 8)
 have d9 : (k1.xs.length == 8) = true := by have := HFU.out; simpa using (by omega : k1.xs.length = 8)
 have HLE := hide hlen; clear hlen; go_wp2; go_ret
 exact ⟨rfl, by rw [← HSK.out]; exact HI6.out.put (Below.refl _ _)⟩
attribute [local irreducible] wpQuiet in
set_option maxRecDepth 100000 in
set_option maxHeartbeats 8000000 in
theorem pre_put {W : World} {B : Nat} {k : PK} {ep id bg : Int} {rp vp : Option Addr} {rn rc vn vc : Nat} {rs : List RC} {vs : List Int} {s1 : SK} (h : PS B W k) (hr : RRow W rp rc rs) (hv : NRow W vp vc vs) (hrn : rs.length = rn) (hvn : vs.length = vn) (hd : ∀ i, InC rp rc i ∨ InC vp vc i → ¬ k.blk i) (hdn : k.done.length < 4611686018427387904) (hm : mayC k.vec.length ⟨ep, id, bg, rs, vs⟩) (hf : ¬ ep < k.reg) (hk1 : raisC k.sk ep = s1) (hdo : doneC s1 ep id = false) (hfi : findC s1 id = none) (hsu : suitC s1 ⟨ep, id, bg, rs, vs⟩ = 0) (hfu : s1.pre.length < 8) :
  Calls Try.prog 20 #[.pointer (some ⟨k.b, 0, none⟩), .agg #[.int .i64 ep, .int .i64 id, .int .i64 bg, .slice rp rn rc, .slice vp vn vc]] W fun e w' => e = .returned (.int .i64 0) ∧ Put B W k (⟨s1.reg, s1.out, s1.vec, s1.done, insT ⟨ep, id, bg, rs, vs⟩ s1.pre⟩) w' := by
 have HDO0 := hide hdo
 have HFI0 := hide hfi; have HSU0 := hide hsu; clear hdo hfi hsu; have HFU := hide hfu; clear hfu; have HM := hide hm
 have HE : Hid (entC k.sk ep = 0) := hide (if_neg hf)
 have HF := hide hf; have HK1 := hide hk1; clear hm hf hk1; have HP := hide h; have HR := hide hr; have HN := hide hv; have HRN := hide hrn; have HVN := hide hvn; have HD := hide hd; have HDN := hide hdn; clear h hr hv hrn hvn hd hdn
 obtain ⟨V, hV⟩ : ∃ V, V = W.alloc (.cells #[.int .i64 ep, .int .i64 id, .int .i64 bg, .slice rp rn rc, .slice vp vn vc] 34 (0, 0)) := ⟨_, rfl⟩
 have HV : Hid (V.heap[W.heap.size]? = some (.cells #[.int .i64 ep, .int .i64 id, .int .i64 bg, .slice rp rn rc, .slice vp vn vc] 34 (0, 0))) := hide (by rw [hV]; exact heap_alloc_new W _)
 have HBV : Hid (Below W.heap.size W V) := hide (by rw [hV]; exact alloc_below _ _)
 obtain ⟨bB, hbB⟩ : ∃ bB, W.heap.size = bB := ⟨_, rfl⟩
 rw [hbB] at HV HBV
 have HZbB := hide hbB
 have HBW : Hid (Below W.heap.size W V) := hide (by rw [HZbB.out]; exact HBV.out)
 have HPV : Hid (PS B V k) := hide (HP.out.later HBW.out)
 go_enter Try.func20, Try.ntmps20
 go_upto_region 1 with fail
 rw [← hV]
 try rw [hbB]
 clear hV hbB
 go_wp2_with fail
 refine (made_yes HPV.out).mono ?_
 rintro _ _ ⟨rfl, rfl⟩
 rename World => V
 go_upto_region 3 with fail
 have u0 := cellB HV.out (i := 0) rfl; have u1 := cellB HV.out (i := 1) rfl; have u2 := cellB HV.out (i := 2) rfl; have u3 := cellB HV.out (i := 3) rfl; have u4 := cellB HV.out (i := 4) rfl
 refine region_class (fun X => Below V.heap.size V X) (by kernel_rfl) (by kernel_rfl) (Below.refl _ V).drew ?_
 repeat
  first
   | (refine BigFrame.wpQuiet_skip (by rfl) ?_
      simp only [Act.put, List.setIfInBounds_toArray, List.set_cons_zero, List.set_cons_succ])
   | (refine BigFrame.wpQuiet_want (by rfl) (fun K hK => ?_)
      unfold Oper.quiet
      apply Exists.intro
      refine ⟨fun X hX => ?_, hK _ ?_⟩
      · have hW := HBW.out.trans (hX.mono HBW.out.size)
        have l0 := cell_later hX u0
        have l1 := cell_later hX u1
        have l2 := cell_later hX u2
        have l3 := cell_later hX u3
        have l4 := cell_later hX u4
        have m2 := (HP.out.later hW).c2
        first
         | (go_simp; done)
         | (go_simp; exact rfl)
         | (go_simp
            first
            | (go_at_call 49; refine (mayBe_any (NRow.later HN.out hW) HRN.out HVN.out (decide_eq_true HM.out)).mono ?_; rintro e w3 ⟨rfl, hb3⟩; exact ⟨rfl, hX.trans (hb3.mono hX.size)⟩)
           )
      clear hK K
      simp only [Act.put, List.setIfInBounds_toArray, List.set_cons_zero, List.set_cons_succ])
 refine wpQuiet_nil (fun X hX => ?_)
 have HBX := hide (HBW.out.trans (hX.mono HBW.out.size)); have HPX := hide (HP.out.later HBX.out); have HVX := hide (below_box hX HV.out); clear hX u0 u1 u2 u3 u4
 have HNB : Hid (¬ k.blk bB ∧ W.heap.size ≤ bB) := hide ⟨fun hb9 => by have := (HP.out.lt hb9).2; have := HZbB.out; omega, by have := HZbB.out; omega⟩
 have u0 := cellB HVX.out (i := 0) rfl; have u1 := cellB HVX.out (i := 1) rfl; have u2 := cellB HVX.out (i := 2) rfl; have u3 := cellB HVX.out (i := 3) rfl; have u4 := cellB HVX.out (i := 4) rfl
 go_wp2_with fail
 refine (enter_any HPX.out HM.out.1).mono ?_
 rintro _ w1 ⟨rfl, hput⟩
 rw [HE.out]
 obtain ⟨k1, p1, p2, p3, p4, p5⟩ := hput
 rw [HK1.out] at p2
 have HI1 : Hid (PreI B W k k1 bB #[.int .i64 ep, .int .i64 id, .int .i64 bg, .slice rp rn rc, .slice vp vn vc] w1) := hide ⟨p1, p3, (Only.fresh HBX.out _).trans p4, fun i hi => (p5 i hi).imp (fun h9 => h9) (fun h9 => Nat.le_trans HBX.out.size h9), p4.obj HVX.out HNB.out.1, fun hb9 => (p5 _ hb9).elim HNB.out.1 (fun h9 => by have := box_lt HVX.out; omega), HNB.out.2⟩
 have HSK := hide p2
 have HRG : Hid (k1.reg = ep) := hide (by
   have h9 : k1.sk.reg = (raisC k.sk ep).reg := by rw [p2, HK1.out]
   rw [rais_reg] at h9
   have h8 : k1.reg = if k.reg < ep then ep else k.reg := h9
   have := HF.out
   split at h8 <;> omega)
 have HDN1 : Hid (k1.done.length < 4611686018427387904) := hide (by
   have h9 : k1.sk.done = (raisC k.sk ep).done := by rw [p2, HK1.out]
   have h8 : k1.done = (raisC k.sk ep).done := h9
   rw [h8]
   unfold raisC
   split
   · show ([] : List Int).length < 4611686018427387904; simp
   · exact HDN.out)
 have HVE : Hid (k1.vec.length = k.vec.length) := hide (by
   have h9 : k1.sk.vec = (raisC k.sk ep).vec := by rw [p2, HK1.out]
   have h8 : k1.vec = (raisC k.sk ep).vec := h9
   rw [h8]
   unfold raisC
   split <;> rfl)
 rw [← p3]
 clear p1 p2 p3 p4 p5 u0 u1 u2 u3 u4 HPX HVX HBX HPV HBW HV HBV; have u0 := cellB HI1.out.box (i := 0) rfl; have u1 := cellB HI1.out.box (i := 1) rfl; have u2 := cellB HI1.out.box (i := 2) rfl; have u3 := cellB HI1.out.box (i := 3) rfl; have u4 := cellB HI1.out.box (i := 4) rfl
 go_wp2_with fail
 refine name_any.mono ?_
 rintro _ w2 ⟨rfl, b2⟩
 have HI2 := hide (HI1.out.later b2); clear b2 HI1 u0 u1 u2 u3 u4; have u0 := cellB HI2.out.box (i := 0) rfl; have u1 := cellB HI2.out.box (i := 1) rfl; have u2 := cellB HI2.out.box (i := 2) rfl; have u3 := cellB HI2.out.box (i := 3) rfl; have u4 := cellB HI2.out.box (i := 4) rfl
 go_upto_region 9 with fail
 obtain ⟨X, hX⟩ : ∃ X, X = w2.alloc (.cells #[.int .i64 ep, .int .i64 id] 55 (0, 0)) := ⟨_, rfl⟩
 rw [← hX]
 have bX : Below w2.heap.size w2 X := by rw [hX]; exact alloc_below _ _
 obtain ⟨nB, hnB⟩ : ∃ nB, w2.heap.size = nB := ⟨_, rfl⟩
 have HNX : Hid (X.heap[nB]? = some (.cells #[.int .i64 ep, .int .i64 id] 55 (0, 0))) := hide (by rw [← hnB, hX]; exact heap_alloc_new w2 _)
 have HI3 := hide (HI2.out.later bX)
 have HNL : Hid (¬ k1.blk nB ∧ nB ≠ bB) := hide ⟨fun hb9 => by have := (HI2.out.ps.lt hb9).2; omega, fun e9 => by have := box_lt HI2.out.box; omega⟩
 try rw [hnB]
 clear hX bX hnB HI2 u0 u1 u2 u3 u4; have n0 := cellB HNX.out (i := 0) rfl; have n1 := cellB HNX.out (i := 1) rfl
 have HDO : Hid (doneC k1.sk ep id = false) := hide (by rw [HSK.out]; exact HDO0.out)
 go_wp2_with fail
 refine (done_any HI3.out.ps HDN1.out HDO.out).mono ?_
 rintro _ w4 ⟨rfl, b4⟩
 have HI4 := hide (HI3.out.later b4); have HN4 := hide (below_box b4 HNX.out); clear b4 HI3 HNX n0 n1
 have HFN : Hid (findP k1.xs id = none) := hide (by
   have h9 := HFI0.out
   rw [← HSK.out, find_P] at h9
   exact Option.map_eq_none_iff.1 h9)
 have hlq : ∀ w, Below w4.heap.size w4 w → (Instr.lookup 61 (.map (some k1.mb)) (keyV ep id) true).run Try.prog w = .ok (.tuple #[rowOf none, .bool false]) w := fun w hw => by
  have h9 := ((HI4.out.ps.map.later hw).look HI4.out.ps.named HRG.out.symm HM.out.1 HM.out.2.1).1
  rw [HFN.out] at h9
  exact h9
 simp only [rowOf, zeroRow, keyV] at hlq
 have HLQ := hide hlq; clear hlq; have n0 := cellB HN4.out (i := 0) rfl; have n1 := cellB HN4.out (i := 1) rfl; have m4 := HI4.out.ps.c4
 go_upto_region 11 with fail
 refine wp_region_held_drew (S := fun w9 => Below w4.heap.size w4 w9) (by kernel_rfl) (Below.refl _ w4).drew (fun hHeld => ?_)
 refine tb 0 ?_ rfl (by kernel_rfl) (fun _ _ _ h => h) (by assumption) ?_ ?_
 rotate_left
 ·intro w hSw; have l4 := cell_later hSw m4; have l0 := cell_later hSw n0; have l1 := cell_later hSw n1; have lq := HLQ.out w hSw; go_simp; all_goals with_reducible rfl
 simp only [Act.put]
 refine tb 1 ?_ rfl (by kernel_rfl) (fun _ _ _ h => h) (by assumption) ?_ ?_
 rotate_left
 ·intro w hSw; have l4 := cell_later hSw m4; have l0 := cell_later hSw n0; have l1 := cell_later hSw n1; have lq := HLQ.out w hSw; go_simp; all_goals with_reducible rfl
 simp only [Act.put]
 refine tb 2 ?_ rfl (by kernel_rfl) (fun _ _ _ h => h) (by assumption) ?_ ?_
 rotate_left
 ·intro w hSw; have l4 := cell_later hSw m4; have l0 := cell_later hSw n0; have l1 := cell_later hSw n1; have lq := HLQ.out w hSw; go_simp; all_goals with_reducible rfl
 simp only [Act.put]
 refine tb 3 ?_ rfl (by kernel_rfl) (fun _ _ _ h => h) (by assumption) ?_ ?_
 rotate_left
 ·intro w hSw; have l4 := cell_later hSw m4; have l0 := cell_later hSw n0; have l1 := cell_later hSw n1; have lq := HLQ.out w hSw; go_simp; all_goals with_reducible rfl
 simp only [Act.put]
 refine tb 4 ?_ rfl (by kernel_rfl) (fun _ _ _ h => h) (by assumption) ?_ ?_
 rotate_left
 ·intro w hSw; have l4 := cell_later hSw m4; have l0 := cell_later hSw n0; have l1 := cell_later hSw n1; have lq := HLQ.out w hSw; go_simp; all_goals with_reducible rfl
 simp only [Act.put]
 refine tb 5 ?_ rfl (by kernel_rfl) (fun _ _ _ h => h) (by assumption) ?_ ?_
 rotate_left
 ·intro w hSw; have l4 := cell_later hSw m4; have l0 := cell_later hSw n0; have l1 := cell_later hSw n1; have lq := HLQ.out w hSw; go_simp; all_goals with_reducible rfl
 simp only [Act.put]
 refine tb 6 ?_ rfl (by kernel_rfl) (fun _ _ _ h => h) (by assumption) ?_ ?_
 rotate_left
 ·intro w hSw; have l4 := cell_later hSw m4; have l0 := cell_later hSw n0; have l1 := cell_later hSw n1; have lq := HLQ.out w hSw; go_simp; all_goals with_reducible rfl
 simp only [Act.put]
 refine tb 7 ?_ rfl (by kernel_rfl) (fun _ _ _ h => h) (by assumption) ?_ ?_
 rotate_left
 ·intro w hSw; have l4 := cell_later hSw m4; have l0 := cell_later hSw n0; have l1 := cell_later hSw n1; have lq := HLQ.out w hSw; go_simp; all_goals with_reducible rfl
 simp only [Act.put]
 refine tb 8 ?_ rfl (by kernel_rfl) (fun _ _ _ h => h) (by assumption) ?_ ?_
 rotate_left
 ·intro w hSw; have l4 := cell_later hSw m4; have l0 := cell_later hSw n0; have l1 := cell_later hSw n1; have lq := HLQ.out w hSw; go_simp; all_goals with_reducible rfl
 simp only [Act.put]
 refine rr 9 (o := _) rfl (by kernel_rfl) (fun K hK => ?_)
 go_simp
 refine hK.out _ _ ((alloc_below w4 _).drew) (fun hHeld => ?_)
 clear hK
 refine rr 10 (o := _) rfl (by kernel_rfl) (fun K hK => ?_)
 go_simp
 refine hK.out _ _ ((alloc_below w4 _).drew) (fun hHeld => ?_)
 clear hK
 refine rr 11 (o := _) rfl (by kernel_rfl) (fun K hK => ?_)
 go_simp
 refine hK.out _ _ ((alloc_below w4 _).drew) (fun hHeld => ?_)
 clear hK
 refine wpAnyH_done (by kernel_rfl) ?_ _
 obtain ⟨Y, hY⟩ : ∃ Y, Y = (w4.alloc (.cells #[.int .i64 0, .int .i64 0, .int .i64 0, .slice none 0 0, .slice none 0 0] 34 (0, 0))).drew := ⟨_, rfl⟩
 rw [← hY]
 have bY : Below w4.heap.size w4 Y := by rw [hY]; exact (alloc_below _ _).drew
 have HI5 := hide (HI4.out.later bY); have HN5 := hide (below_box bY HN4.out); clear hY bY hHeld HI4 HN4 n0 n1 m4; have u0 := cellB HI5.out.box (i := 0) rfl; have u1 := cellB HI5.out.box (i := 1) rfl; have u2 := cellB HI5.out.box (i := 2) rfl; have u3 := cellB HI5.out.box (i := 3) rfl; have u4 := cellB HI5.out.box (i := 4) rfl
 have HTP : Hid (TP.ok ⟨⟨ep, id, bg, rs, vs⟩, rp, rc, vp, vc⟩ Y) := hide ⟨HI5.out.row HR.out (fun i hi => HD.out i (.inl hi)), HI5.out.num HN.out (fun i hi => HD.out i (.inr hi))⟩
 have hsu9 := suits_any (q := 0) HI5.out.ps HTP.out (by rw [HVE.out]; exact HM.out) (by rw [HSK.out]; exact HSU0.out)
 simp only [TP.row, HRN.out, HVN.out] at hsu9
 go_wp2_with fail
 refine hsu9.mono ?_
 rintro _ w6 ⟨rfl, b6⟩
 have HI6 := hide (HI5.out.later b6); have HN6 := hide (below_box b6 HN5.out); clear b6 HI5 HN5 HTP hsu9 u0 u1 u2 u3 u4; have m4 := HI6.out.ps.c4
 have hlen : k1.xs.length = s1.pre.length := by rw [← HSK.out]; show k1.xs.length = (k1.xs.map TP.t).length; rw [List.length_map]
 have qlen := fun ty => HI6.out.ps.map.len ty
 have d8 : ((k1.xs.length : Int) == 8) = false := by have := HFU.out; simpa using (by omega : ¬ (k1.xs.length : Int) = 8)
 have d9 : (k1.xs.length == 8) = false := by have := HFU.out; simpa using (by omega : ¬ k1.xs.length = 8)
 have HLE := hide hlen; clear hlen
 go_upto_region 21 with fail
 clear qlen d8 d9; have u0 := cellB HI6.out.box (i := 0) rfl; have u1 := cellB HI6.out.box (i := 1) rfl; have u2 := cellB HI6.out.box (i := 2) rfl; have u3 := cellB HI6.out.box (i := 3) rfl; have u4 := cellB HI6.out.box (i := 4) rfl; have n0 := cellB HN6.out (i := 0) rfl; have n1 := cellB HN6.out (i := 1) rfl
 have hne1 : k1.b ≠ k1.mb := fun e9 => HI6.out.ps.map.box HI6.out.ps.box e9.symm
 have hne2 : nB ≠ k1.mb := fun e9 => HNL.out.1 (.inr (.inl e9))
 have hne3 : bB ≠ k1.mb := fun e9 => HI6.out.nb.1 (.inr (.inl e9))
 have HRW6 := hide (HI6.out.row HR.out (fun i hi => HD.out i (.inl hi))); have HNW6 := hide (HI6.out.num HN.out (fun i hi => HD.out i (.inr hi)))
 refine wp_region_held_drew (S := fun w9 => Only (· = k1.mb) w6 w9) (by kernel_rfl) ((Only.refl _ w6).drew) (fun hHeld => ?_)
 refine tb 0 ?_ rfl (by kernel_rfl) (fun _ _ _ h => h) (by assumption) ?_ ?_
 rotate_left
 ·intro w hSw; have l4 := hSw.cell m4 hne1; have l0 := hSw.cell n0 hne2; have l1 := hSw.cell n1 hne2; have t0 := hSw.cell u0 hne3; have t1 := hSw.cell u1 hne3; have t2 := hSw.cell u2 hne3; have t3 := hSw.cell u3 hne3; have t4 := hSw.cell u4 hne3; go_simp; all_goals with_reducible rfl
 simp only [Act.put]
 refine tb 1 ?_ rfl (by kernel_rfl) (fun _ _ _ h => h) (by assumption) ?_ ?_
 rotate_left
 ·intro w hSw; have l4 := hSw.cell m4 hne1; have l0 := hSw.cell n0 hne2; have l1 := hSw.cell n1 hne2; have t0 := hSw.cell u0 hne3; have t1 := hSw.cell u1 hne3; have t2 := hSw.cell u2 hne3; have t3 := hSw.cell u3 hne3; have t4 := hSw.cell u4 hne3; go_simp; all_goals with_reducible rfl
 simp only [Act.put]
 refine tb 2 ?_ rfl (by kernel_rfl) (fun _ _ _ h => h) (by assumption) ?_ ?_
 rotate_left
 ·intro w hSw; have l4 := hSw.cell m4 hne1; have l0 := hSw.cell n0 hne2; have l1 := hSw.cell n1 hne2; have t0 := hSw.cell u0 hne3; have t1 := hSw.cell u1 hne3; have t2 := hSw.cell u2 hne3; have t3 := hSw.cell u3 hne3; have t4 := hSw.cell u4 hne3; go_simp; all_goals with_reducible rfl
 simp only [Act.put]
 refine tb 3 ?_ rfl (by kernel_rfl) (fun _ _ _ h => h) (by assumption) ?_ ?_
 rotate_left
 ·intro w hSw; have l4 := hSw.cell m4 hne1; have l0 := hSw.cell n0 hne2; have l1 := hSw.cell n1 hne2; have t0 := hSw.cell u0 hne3; have t1 := hSw.cell u1 hne3; have t2 := hSw.cell u2 hne3; have t3 := hSw.cell u3 hne3; have t4 := hSw.cell u4 hne3; go_simp; all_goals with_reducible rfl
 simp only [Act.put]
 refine tb 4 ?_ rfl (by kernel_rfl) (fun _ _ _ h => h) (by assumption) ?_ ?_
 rotate_left
 ·intro w hSw; have l4 := hSw.cell m4 hne1; have l0 := hSw.cell n0 hne2; have l1 := hSw.cell n1 hne2; have t0 := hSw.cell u0 hne3; have t1 := hSw.cell u1 hne3; have t2 := hSw.cell u2 hne3; have t3 := hSw.cell u3 hne3; have t4 := hSw.cell u4 hne3; go_simp; all_goals with_reducible rfl
 simp only [Act.put]
 refine tb 5 ?_ rfl (by kernel_rfl) (fun _ _ _ h => h) (by assumption) ?_ ?_
 rotate_left
 ·intro w hSw; have l4 := hSw.cell m4 hne1; have l0 := hSw.cell n0 hne2; have l1 := hSw.cell n1 hne2; have t0 := hSw.cell u0 hne3; have t1 := hSw.cell u1 hne3; have t2 := hSw.cell u2 hne3; have t3 := hSw.cell u3 hne3; have t4 := hSw.cell u4 hne3; go_simp; all_goals with_reducible rfl
 simp only [Act.put]
 refine rr 6 (o := _) rfl (by kernel_rfl) (fun K hK => ?_)
 go_simp
 refine (cloneTxn_any (RRow.later HRW6.out (Below.refl _ w6).drew) (NRow.later HNW6.out (Below.refl _ w6).drew) HRN.out HVN.out (by have := HM.out.2.2.2.2.1; have h9 : rs.length ≤ 4096 := this; have := HRN.out; omega) (by have h9 : (vs.length : Int) = k.vec.length := HM.out.2.2.2.2.2.1; have h8 : k.vec.length ≤ 4 := HP.out.ok.parts.2; have := HVN.out; omega)).mono ?_
 intro e7 w7 hcl
 obtain ⟨p, c, q, d, rfl, o1, o2, b7⟩ := hcl
 have b7' : Below w6.heap.size w6 w7 := (Below.refl _ w6).drew.trans b7
 have HI7 := hide (HI6.out.later b7'); have hms := HI7.out.ps.map
 obtain ⟨w8, hup, hm8, ho8⟩ := hms.put HI7.out.ps.named (x := ⟨⟨ep, id, bg, rs, vs⟩, p, c, q, d⟩) HRG.out.symm HM.out.1 HM.out.2.1 HFN.out (by have := HLE.out; have h9 := HI7.out.ps.ok.room; have h8 : (k1.xs.map TP.t).length ≤ 8 := h9; rw [List.length_map] at h8; unfold maxLen; omega)
 simp only [TP.row, keyV, HRN.out, HVN.out] at hup
 have HO1 := hide o1; have HO2 := hide o2; have HM8 := hide hm8; have HO8 := hide ho8; have HB7 := hide b7'; clear o1 o2 b7 hm8 ho8 hms b7'
 go_wp2_with fail
 refine hK.out _ _ (Only.fresh HB7.out _) (fun hHeld => ?_)
 clear hK
 refine rr 7 (o := _) rfl (by kernel_rfl) (fun K hK => ?_)
 go_simp
 refine hK.out _ _ ((Only.fresh HB7.out (· = k1.mb)).trans HO8.out) (fun hHeld => ?_)
 clear hK
 refine wpAnyH_done (by kernel_rfl) ?_ _
 go_wp2
 go_ret
 refine ⟨rfl, ?_⟩
 have hps := HI7.out.ps
 have hsz : w6.heap.size ≤ w7.heap.size := HB7.out.size
 have hold : ∀ i, k1.blk i → i < w6.heap.size := fun i hi => (HI6.out.ps.lt hi).2
 have hge : B ≤ w6.heap.size := by have := HI6.out.ps.lt (.inl rfl); omega
 have hx1 : ∀ i, InB p i → w6.heap.size ≤ i := fun i hi => own_block_base HO1.out (InB.to hi)
 have hx2 : ∀ i, InB q i → w6.heap.size ≤ i := fun i hi => own_block_base HO2.out (InB.to hi)
 have ht1 : TO B w7 ⟨⟨ep, id, bg, rs, vs⟩, p, c, q, d⟩ := ⟨by show w7.ownsRow B _ 2 (.slice p rs.length c) rs.length _; rw [HRN.out]; exact ownsRow_base HO1.out hge, by show w7.ownsRow B _ 1 (.slice q vs.length d) vs.length _; rw [HVN.out]; exact ownsRow_base HO2.out hge⟩
 have hF : ∀ i, k1.blk i → i ≠ k1.mb → ¬ (i = k1.mb) := fun i _ h9 => h9
 have ht8 : ∀ x ∈ k1.xs, TO B w8 x := fun x hx => (hps.pre x hx).only HO8.out (fun i hi => row_map (hps.pre x hx).r hps.map i hi) (fun i hi => row_map (hps.pre x hx).v hps.map i hi)
 have hk2 : PS B w8 ⟨k1.b, k1.mb, k1.op, k1.oc, k1.vp, k1.vc, k1.dp, k1.dc, k1.reg, k1.out, k1.vec, k1.done, insP ⟨⟨ep, id, bg, rs, vs⟩, p, c, q, d⟩ k1.xs⟩ := by
  refine ⟨HO8.out.obj hps.box (fun e9 => hps.map.box hps.box e9.symm), ?_, ownsRow_only hps.out HO8.out (fun i hi => row_map hps.out hps.map i (InB.of hi)), ownsRow_only hps.vec HO8.out (fun i hi => row_map hps.vec hps.map i (InB.of hi)), ownsRow_only hps.done HO8.out (fun i hi => row_map hps.done hps.map i (InB.of hi)), fun x hx => ?_, ⟨hps.ap.1, fun x hx => ?_⟩, hps.ge, ?_⟩
  ·have h9 := HM8.out (insP ⟨⟨ep, id, bg, rs, vs⟩, p, c, q, d⟩ k1.xs) (insP_perm _ _)
   have h8 : (insP (⟨⟨ep, id, bg, rs, vs⟩, p, c, q, d⟩ : TP) k1.xs).length = k1.xs.length + 1 := (insP_perm _ _).length_eq
   show MapT w8 k1.mb (insP (⟨⟨ep, id, bg, rs, vs⟩, p, c, q, d⟩ : TP) k1.xs).length _
   rw [h8]
   exact h9
  ·rcases List.mem_cons.1 ((insP_perm _ _).mem_iff.1 hx) with rfl | hx
   ·exact ht1.only HO8.out (fun i hi => row_map ht1.r hps.map i hi) (fun i hi => row_map ht1.v hps.map i hi)
   ·exact ht8 x hx
  ·rcases List.mem_cons.1 ((insP_perm _ _).mem_iff.1 hx) with rfl | hx
   ·exact ⟨fun i hi hj => by have := hx1 i hi; have := hold i (.inr (.inr (.inl hj))); omega, fun i hi hj => by have := hx2 i hi; have := hold i (.inr (.inr (.inr (.inr (.inl hj))))); omega⟩
   ·exact hps.ap.2 x hx
  ·have h9 : okS k1.sk := hps.ok
   have h8 := ins_ok h9 (t := ⟨ep, id, bg, rs, vs⟩) (by show mayC (k1.vec.length : Int) _; rw [HVE.out]; exact HM.out) HRG.out.symm HDO.out (by rw [HSK.out]; exact HFI0.out) (by show (k1.xs.map TP.t).length < 8; rw [List.length_map]; have h6 : (k1.xs.map TP.t).length ≤ 8 := h9.room; rw [List.length_map] at h6; have := HFU.out; have := HLE.out; omega)
   show okS ⟨k1.reg, k1.out, k1.vec, k1.done, (insP _ k1.xs).map TP.t⟩
   rw [insP_map]
   exact h8
 have hput : Put B W k (PK.sk ⟨k1.b, k1.mb, k1.op, k1.oc, k1.vp, k1.vc, k1.dp, k1.dc, k1.reg, k1.out, k1.vec, k1.done, insP ⟨⟨ep, id, bg, rs, vs⟩, p, c, q, d⟩ k1.xs⟩) w8 := by
  refine Put.trans HI6.out.b HI6.out.only HI6.out.blk ⟨_, hk2, rfl, rfl, (Only.fresh HB7.out _).trans (HO8.out.mono (fun i _ e9 => .inr (.inl e9))), fun i hi => ?_⟩
  rcases hi with hi | hi | hi | hi | hi | ⟨x, hx, hi⟩
  ·exact .inl (.inl hi)
  ·exact .inl (.inr (.inl hi))
  ·exact .inl (.inr (.inr (.inl hi)))
  ·exact .inl (.inr (.inr (.inr (.inl hi))))
  ·exact .inl (.inr (.inr (.inr (.inr (.inl hi)))))
  ·rcases List.mem_cons.1 ((insP_perm _ _).mem_iff.1 hx) with rfl | hx
   ·rcases hi with hi | hi
    ·exact .inr (hx1 i hi)
    ·exact .inr (hx2 i hi)
   ·exact .inl (.inr (.inr (.inr (.inr (.inr ⟨x, hx, hi⟩)))))
 have he : PK.sk ⟨k1.b, k1.mb, k1.op, k1.oc, k1.vp, k1.vc, k1.dp, k1.dc, k1.reg, k1.out, k1.vec, k1.done, insP ⟨⟨ep, id, bg, rs, vs⟩, p, c, q, d⟩ k1.xs⟩ = ⟨s1.reg, s1.out, s1.vec, s1.done, insT ⟨ep, id, bg, rs, vs⟩ s1.pre⟩ := by
  rw [← HSK.out]
  show SK.mk k1.reg k1.out k1.vec k1.done ((insP _ k1.xs).map TP.t) = _
  rw [insP_map]
  rfl
 rw [he] at hput
 exact hput
theorem preC_done {s : SK} {t : TX} (h : doneC s t.ep t.id = true) : preE1 s t = 0 ∧ preS1 s t = s := by unfold preE1 preS1; simp [h]
theorem preC_same {s : SK} {t ht : TX} (h : doneC s t.ep t.id = false) (hf : findC s t.id = some ht) (he : ht = t) : preE1 s t = 0 ∧ preS1 s t = s := by unfold preE1 preS1; simp [h, hf, he]
theorem preC_twice {s : SK} {t ht : TX} (h : doneC s t.ep t.id = false) (hf : findC s t.id = some ht) (he : ¬ ht = t) : preE1 s t = 5 ∧ preS1 s t = s := by unfold preE1 preS1; simp [h, hf, he]
theorem preC_unfit {s : SK} {t : TX} (h : doneC s t.ep t.id = false) (hf : findC s t.id = none) (he : ¬ suitC s t = 0) : preE1 s t = suitC s t ∧ preS1 s t = s := by unfold preE1 preS1; simp [h, hf, he]
theorem preC_full {s : SK} {t : TX} (h : doneC s t.ep t.id = false) (hf : findC s t.id = none) (he : suitC s t = 0) (hl : 8 ≤ s.pre.length) : preE1 s t = 6 ∧ preS1 s t = s := by unfold preE1 preS1; simp [h, hf, he, hl]
theorem preC_put {s : SK} {t : TX} (h : doneC s t.ep t.id = false) (hf : findC s t.id = none) (he : suitC s t = 0) (hl : ¬ 8 ≤ s.pre.length) : preE1 s t = 0 ∧ preS1 s t = ⟨s.reg, s.out, s.vec, s.done, insT t s.pre⟩ := by unfold preE1 preS1; simp [h, hf, he, hl]
theorem pre_any {B : Nat} {W : World} {k : PK} {x : TP} (h : PS B W k) (hx : x.ok W) (hd : ∀ i, x.blk i → ¬ k.blk i) (hdn : k.done.length < 4611686018427387904) :
  Calls Try.prog 20 #[.pointer (some ⟨k.b, 0, none⟩), .agg x.row] W fun r w' => r = .returned (.int .i64 (preE k.vec.length k.sk x.t)) ∧ Put B W k (preS k.vec.length k.sk x.t) w' := by
 obtain ⟨⟨ep, id, bg, rs, vs⟩, rp, rc, vp, vc⟩ := x
 have hr := hx.r; have hv := hx.v
 simp only at hr hv
 have hd' : ∀ i, InC rp rc i ∨ InC vp vc i → ¬ k.blk i := fun i hi => hd i hi
 show Calls Try.prog 20 #[.pointer (some ⟨k.b, 0, none⟩), .agg #[.int .i64 ep, .int .i64 id, .int .i64 bg, .slice rp rs.length rc, .slice vp vs.length vc]] W _
 by_cases hm : mayC k.vec.length ⟨ep, id, bg, rs, vs⟩
 ·by_cases hf : ep < k.reg
  ·have e1 : preE k.vec.length k.sk ⟨ep, id, bg, rs, vs⟩ = 150 := by unfold preE; rw [if_pos hm, if_pos (show ep < k.sk.reg from hf)]
   have e2 : preS k.vec.length k.sk ⟨ep, id, bg, rs, vs⟩ = k.sk := by unfold preS; rw [if_pos hm, if_pos (show ep < k.sk.reg from hf)]
   rw [e1, e2]
   exact pre_off h hr hv rfl rfl hd' hdn hm hf
  ·have e1 : preE k.vec.length k.sk ⟨ep, id, bg, rs, vs⟩ = preE1 (raisC k.sk ep) ⟨ep, id, bg, rs, vs⟩ := by unfold preE; rw [if_pos hm, if_neg (show ¬ ep < k.sk.reg from hf)]
   have e2 : preS k.vec.length k.sk ⟨ep, id, bg, rs, vs⟩ = preS1 (raisC k.sk ep) ⟨ep, id, bg, rs, vs⟩ := by unfold preS; rw [if_pos hm, if_neg (show ¬ ep < k.sk.reg from hf)]
   rw [e1, e2]
   obtain ⟨s1, hs1⟩ : ∃ s1, raisC k.sk ep = s1 := ⟨_, rfl⟩
   rw [hs1]
   cases hdo : doneC s1 ep id
   ·cases hfi : findC s1 id with
    | some ht =>
     by_cases hht : ht = ⟨ep, id, bg, rs, vs⟩
     ·obtain ⟨q1, q2⟩ := preC_same (t := ⟨ep, id, bg, rs, vs⟩) hdo hfi hht
      rw [q1, q2]
      exact pre_same h hr hv rfl rfl hd' hdn hm hf hs1 hdo hfi hht
     ·obtain ⟨q1, q2⟩ := preC_twice (t := ⟨ep, id, bg, rs, vs⟩) hdo hfi hht
      rw [q1, q2]
      exact pre_twice h hr hv rfl rfl hd' hdn hm hf hs1 hdo hfi hht
    | none =>
     by_cases hsu : suitC s1 ⟨ep, id, bg, rs, vs⟩ = 0
     ·by_cases hfu : 8 ≤ s1.pre.length
      ·obtain ⟨q1, q2⟩ := preC_full (t := ⟨ep, id, bg, rs, vs⟩) hdo hfi hsu hfu
       rw [q1, q2]
       refine (pre_full h hr hv rfl rfl hd' hdn hm hf hs1 hdo hfi hsu ?_)
       have h9 : s1.pre.length ≤ 8 := by
        rw [← hs1]
        unfold raisC
        split
        ·simp
        ·exact h.ok.room
       omega
      ·obtain ⟨q1, q2⟩ := preC_put (t := ⟨ep, id, bg, rs, vs⟩) hdo hfi hsu hfu
       rw [q1, q2]
       exact pre_put h hr hv rfl rfl hd' hdn hm hf hs1 hdo hfi hsu (by omega)
     ·obtain ⟨q1, q2⟩ := preC_unfit (t := ⟨ep, id, bg, rs, vs⟩) hdo hfi hsu
      rw [q1, q2]
      exact pre_unfit h hr hv rfl rfl hd' hdn hm hf hs1 hdo hfi rfl hsu
   ·obtain ⟨q1, q2⟩ := preC_done (t := ⟨ep, id, bg, rs, vs⟩) hdo
    rw [q1, q2]
    exact pre_done h hr hv rfl rfl hd' hdn hm hf hs1 hdo
 ·have e1 : preE k.vec.length k.sk ⟨ep, id, bg, rs, vs⟩ = 1 := by unfold preE; rw [if_neg hm]
  have e2 : preS k.vec.length k.sk ⟨ep, id, bg, rs, vs⟩ = k.sk := by unfold preS; rw [if_neg hm]
  rw [e1, e2]
  exact (pre_bad h hr hv rfl rfl hd' hdn hm).mono fun e w' h' => ⟨h'.1, Put.same h h'.2⟩
end Go.Proofs.Ytboofnkajjnmeaa
