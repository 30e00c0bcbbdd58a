/-
 Commit of the program's sink. The conditions: that the sink lies there; lengths.
-/
import Derived.Test.YtboofnkajjnmeaaTk0
import Derived.Test.YtboofnkajjnmeaaSkp
import Derived.Deep.CutRange
namespace Go.Proofs.Ytboofnkajjnmeaa
open Go.RowKit

set_option maxRecDepth 100000 in
set_option maxHeartbeats 4000000 in
theorem commit_err {W : World} {B : Nat} {k : PK} {e i : Int} {q : Int} (h : PS B W k) (hdn : k.done.length < 17592186044416) (hne : nameE k.sk e i = q) (hns : nameS k.sk e i = k.sk) (hq : q ≠ 0) :
  Calls Try.prog 21 #[.pointer (some ⟨k.b, 0, none⟩), .agg #[.int .i64 e, .int .i64 i]] W fun r w' => r = .returned (.int .i64 q) ∧ Put B W k k.sk w' := by
 have HNE := hide hne; have HNS := hide hns
 have q1 : (q != 0) = true := ne_ne8 hq
 clear hne hns hq; have HP := hide h; have HDN := hide hdn; clear h hdn
 obtain ⟨V, hV⟩ : ∃ V, V = W.alloc (.cells #[.int .i64 e, .int .i64 i] 55 (0, 0)) := ⟨_, rfl⟩
 have HV : Hid (V.heap[W.heap.size]? = some (.cells #[.int .i64 e, .int .i64 i] 55 (0, 0))) := hide (by rw [hV]; exact heap_alloc_new W _)
 have HBV : Hid (Below W.heap.size W V) := hide (by rw [hV]; exact alloc_below _ _)
 obtain ⟨bB, hbB⟩ : ∃ bB, W.heap.size = bB := ⟨_, rfl⟩
 rw [hbB] at HV HBV
 have HZbB := hide hbB
 have HBW : Hid (Below W.heap.size W V) := hide (by rw [HZbB.out]; exact HBV.out)
 have HPV : Hid (PS B V k) := hide (HP.out.later HBW.out)
 go_enter Try.func21, Try.ntmps21
 go_upto_region 1 with fail
 rw [← hV]
 try rw [hbB]
 clear hV hbB; have u0 := cellB HV.out (i := 0) rfl; have u1 := cellB HV.out (i := 1) rfl; have hen := enterNamed_any (e := e) (i := i) HPV.out
 rw [show (if posI e ∧ posI i then entC k.sk e else 1) = nameE k.sk e i from rfl, show (if posI e ∧ posI i then raisC k.sk e else k.sk) = nameS k.sk e i from rfl, HNE.out, HNS.out] at hen
 go_wp2_with fail
 refine hen.mono ?_
 rintro _ w1 ⟨rfl, hput⟩
 clear hen; have HU := hide hput; clear hput u0 u1; go_wp2; go_ret
 exact ⟨rfl, Put.first HBW.out HU.out⟩
attribute [local irreducible] wpQuiet in
set_option maxRecDepth 100000 in
set_option maxHeartbeats 8000000 in
theorem commit_done {W : World} {B : Nat} {k : PK} {e i : Int} {s1 : SK} (h : PS B W k) (hdn : k.done.length < 17592186044416) (hne : nameE k.sk e i = 0) (hns : nameS k.sk e i = s1) (hpe : posI e ∧ posI i ∧ ¬ e < k.reg) (hdo : doneC s1 e i = true) :
  Calls Try.prog 21 #[.pointer (some ⟨k.b, 0, none⟩), .agg #[.int .i64 e, .int .i64 i]] W fun r w' => r = .returned (.int .i64 0) ∧ Put B W k (s1) w' := by
 have HDO0 := hide hdo
 clear hdo
 have HNE : Hid (nameE k.sk e i = 0) := hide hne
 have HNS := hide hns; have HPE := hide hpe; clear hne hns hpe; have HP := hide h; have HDN := hide hdn; clear h hdn
 obtain ⟨V, hV⟩ : ∃ V, V = W.alloc (.cells #[.int .i64 e, .int .i64 i] 55 (0, 0)) := ⟨_, rfl⟩
 have HV : Hid (V.heap[W.heap.size]? = some (.cells #[.int .i64 e, .int .i64 i] 55 (0, 0))) := hide (by rw [hV]; exact heap_alloc_new W _)
 have HBV : Hid (Below W.heap.size W V) := hide (by rw [hV]; exact alloc_below _ _)
 obtain ⟨bB, hbB⟩ : ∃ bB, W.heap.size = bB := ⟨_, rfl⟩
 rw [hbB] at HV HBV
 have HZbB := hide hbB
 have HBW : Hid (Below W.heap.size W V) := hide (by rw [HZbB.out]; exact HBV.out)
 have HPV : Hid (PS B V k) := hide (HP.out.later HBW.out)
 go_enter Try.func21, Try.ntmps21
 go_upto_region 1 with fail
 rw [← hV]
 try rw [hbB]
 clear hV hbB; have u0 := cellB HV.out (i := 0) rfl; have u1 := cellB HV.out (i := 1) rfl; have hen := enterNamed_any (e := e) (i := i) HPV.out
 rw [show (if posI e ∧ posI i then entC k.sk e else 1) = nameE k.sk e i from rfl, show (if posI e ∧ posI i then raisC k.sk e else k.sk) = nameS k.sk e i from rfl, HNE.out, HNS.out] at hen
 go_wp2_with fail
 refine hen.mono ?_
 rintro _ w1 ⟨rfl, hput⟩
 clear hen
 have HNB : Hid (¬ k.blk bB ∧ W.heap.size ≤ bB) := hide ⟨fun hb9 => by have := (HP.out.lt hb9).2; have := HZbB.out; omega, by have := HZbB.out; omega⟩
 obtain ⟨k1, p1, p2, p3, p4, p5⟩ := hput
 have HI1 : Hid (KeyI B W k k1 bB #[.int .i64 e, .int .i64 i] w1) := hide ⟨p1, p3, (Only.fresh HBW.out _).trans p4, fun i hi => (p5 i hi).imp (fun h9 => h9) (fun h9 => Nat.le_trans HBW.out.size h9), p4.obj HV.out HNB.out.1, fun hb9 => (p5 _ hb9).elim HNB.out.1 (fun h9 => by have := box_lt HV.out; omega), HNB.out.2⟩
 have HSK := hide p2
 have HSR : Hid (s1 = raisC k.sk e) := hide (by rw [← HNS.out]; unfold nameS; rw [if_pos ⟨HPE.out.1, HPE.out.2.1⟩])
 have HRG : Hid (k1.reg = e) := hide (by
   have h9 : k1.sk.reg = (raisC k.sk e).reg := by rw [p2, HSR.out]
   rw [rais_reg] at h9
   have h8 : k1.reg = if k.reg < e then e else k.reg := h9
   have := HPE.out.2.2
   split at h8 <;> omega)
 have HDN1 : Hid (k1.done.length < 17592186044416) := hide (by
   have h9 : k1.sk.done = (raisC k.sk e).done := by rw [p2, HSR.out]
   have h8 : k1.done = (raisC k.sk e).done := h9
   rw [h8]
   unfold raisC
   split
   · show ([] : List Int).length < 17592186044416; simp
   · exact HDN.out)
 have HDN2 : Hid (k1.done.length < 4611686018427387904) := hide (by have := HDN1.out; omega)
 rw [← p3]
 clear p1 p2 p3 p4 p5 u0 u1 HPV HBW HV HBV; have u0 := cellB HI1.out.box (i := 0) rfl; have u1 := cellB HI1.out.box (i := 1) rfl
 have HDO : Hid (doneC k1.sk e i = true) := hide (by rw [HSK.out]; exact HDO0.out)
 go_wp2_with fail
 refine (done_any HI1.out.ps HDN2.out HDO.out).mono ?_
 rintro _ w2 ⟨rfl, b2⟩
 have HI2 := hide (HI1.out.later b2); clear b2 HI1 u0 u1; go_wp2; go_ret
 exact ⟨rfl, by rw [← HSK.out]; exact HI2.out.put (Below.refl _ _)⟩
attribute [local irreducible] wpQuiet in
set_option maxRecDepth 100000 in
set_option maxHeartbeats 8000000 in
theorem commit_none {W : World} {B : Nat} {k : PK} {e i : Int} {s1 : SK} (h : PS B W k) (hdn : k.done.length < 17592186044416) (hne : nameE k.sk e i = 0) (hns : nameS k.sk e i = s1) (hpe : posI e ∧ posI i ∧ ¬ e < k.reg) (hdo : doneC s1 e i = false) (hfi : findC s1 i = none) :
  Calls Try.prog 21 #[.pointer (some ⟨k.b, 0, none⟩), .agg #[.int .i64 e, .int .i64 i]] W fun r w' => r = .returned (.int .i64 4) ∧ Put B W k (s1) w' := by
 have HDO0 := hide hdo
 have HFI0 := hide hfi; clear hdo hfi
 have HNE : Hid (nameE k.sk e i = 0) := hide hne
 have HNS := hide hns; have HPE := hide hpe; clear hne hns hpe; have HP := hide h; have HDN := hide hdn; clear h hdn
 obtain ⟨V, hV⟩ : ∃ V, V = W.alloc (.cells #[.int .i64 e, .int .i64 i] 55 (0, 0)) := ⟨_, rfl⟩
 have HV : Hid (V.heap[W.heap.size]? = some (.cells #[.int .i64 e, .int .i64 i] 55 (0, 0))) := hide (by rw [hV]; exact heap_alloc_new W _)
 have HBV : Hid (Below W.heap.size W V) := hide (by rw [hV]; exact alloc_below _ _)
 obtain ⟨bB, hbB⟩ : ∃ bB, W.heap.size = bB := ⟨_, rfl⟩
 rw [hbB] at HV HBV
 have HZbB := hide hbB
 have HBW : Hid (Below W.heap.size W V) := hide (by rw [HZbB.out]; exact HBV.out)
 have HPV : Hid (PS B V k) := hide (HP.out.later HBW.out)
 go_enter Try.func21, Try.ntmps21
 go_upto_region 1 with fail
 rw [← hV]
 try rw [hbB]
 clear hV hbB; have u0 := cellB HV.out (i := 0) rfl; have u1 := cellB HV.out (i := 1) rfl; have hen := enterNamed_any (e := e) (i := i) HPV.out
 rw [show (if posI e ∧ posI i then entC k.sk e else 1) = nameE k.sk e i from rfl, show (if posI e ∧ posI i then raisC k.sk e else k.sk) = nameS k.sk e i from rfl, HNE.out, HNS.out] at hen
 go_wp2_with fail
 refine hen.mono ?_
 rintro _ w1 ⟨rfl, hput⟩
 clear hen
 have HNB : Hid (¬ k.blk bB ∧ W.heap.size ≤ bB) := hide ⟨fun hb9 => by have := (HP.out.lt hb9).2; have := HZbB.out; omega, by have := HZbB.out; omega⟩
 obtain ⟨k1, p1, p2, p3, p4, p5⟩ := hput
 have HI1 : Hid (KeyI B W k k1 bB #[.int .i64 e, .int .i64 i] w1) := hide ⟨p1, p3, (Only.fresh HBW.out _).trans p4, fun i hi => (p5 i hi).imp (fun h9 => h9) (fun h9 => Nat.le_trans HBW.out.size h9), p4.obj HV.out HNB.out.1, fun hb9 => (p5 _ hb9).elim HNB.out.1 (fun h9 => by have := box_lt HV.out; omega), HNB.out.2⟩
 have HSK := hide p2
 have HSR : Hid (s1 = raisC k.sk e) := hide (by rw [← HNS.out]; unfold nameS; rw [if_pos ⟨HPE.out.1, HPE.out.2.1⟩])
 have HRG : Hid (k1.reg = e) := hide (by
   have h9 : k1.sk.reg = (raisC k.sk e).reg := by rw [p2, HSR.out]
   rw [rais_reg] at h9
   have h8 : k1.reg = if k.reg < e then e else k.reg := h9
   have := HPE.out.2.2
   split at h8 <;> omega)
 have HDN1 : Hid (k1.done.length < 17592186044416) := hide (by
   have h9 : k1.sk.done = (raisC k.sk e).done := by rw [p2, HSR.out]
   have h8 : k1.done = (raisC k.sk e).done := h9
   rw [h8]
   unfold raisC
   split
   · show ([] : List Int).length < 17592186044416; simp
   · exact HDN.out)
 have HDN2 : Hid (k1.done.length < 4611686018427387904) := hide (by have := HDN1.out; omega)
 rw [← p3]
 clear p1 p2 p3 p4 p5 u0 u1 HPV HBW HV HBV; have u0 := cellB HI1.out.box (i := 0) rfl; have u1 := cellB HI1.out.box (i := 1) rfl
 have HDO : Hid (doneC k1.sk e i = false) := hide (by rw [HSK.out]; exact HDO0.out)
 go_wp2_with fail
 refine (done_any HI1.out.ps HDN2.out HDO.out).mono ?_
 rintro _ w2 ⟨rfl, b2⟩
 have HI2 := hide (HI1.out.later b2); clear b2 HI1 u0 u1
 have HFN : Hid (findP k1.xs i = none) := hide (by
   have h9 := HFI0.out
   rw [← HSK.out, find_P] at h9
   exact Option.map_eq_none_iff.1 h9)
 have hlq : ∀ w, Below w2.heap.size w2 w → (Instr.lookup 61 (.map (some k1.mb)) (keyV e i) true).run Try.prog w = .ok (.tuple #[rowOf none, .bool false]) w := fun w hw => by
  have h9 := ((HI2.out.ps.map.later hw).look HI2.out.ps.named HRG.out.symm HPE.out.1 HPE.out.2.1).1
  rw [HFN.out] at h9
  exact h9
 simp only [rowOf, zeroRow, keyV] at hlq
 have HLQ := hide hlq; clear hlq; have n0 := cellB HI2.out.box (i := 0) rfl; have n1 := cellB HI2.out.box (i := 1) rfl; have m4 := HI2.out.ps.c4
 go_upto_region 6 with fail
 refine wp_region_held_drew (S := fun w9 => Below w2.heap.size w2 w9) (by kernel_rfl) (Below.refl _ w2).drew (fun hHeld => ?_)
 refine tb 0 ?_ rfl (by kernel_rfl) (fun _ _ _ h => h) (by assumption) ?_ ?_
 rotate_left
 ·intro w hSw; have l4 := cell_later hSw m4
  have l0 := cell_later hSw n0; have l1 := cell_later hSw n1; have lq := HLQ.out w hSw
  go_simp
  all_goals with_reducible rfl
 simp only [Act.put]
 refine tb 1 ?_ rfl (by kernel_rfl) (fun _ _ _ h => h) (by assumption) ?_ ?_
 rotate_left
 ·intro w hSw; have l4 := cell_later hSw m4
  have l0 := cell_later hSw n0; have l1 := cell_later hSw n1; have lq := HLQ.out w hSw
  go_simp
  all_goals with_reducible rfl
 simp only [Act.put]
 refine tb 2 ?_ rfl (by kernel_rfl) (fun _ _ _ h => h) (by assumption) ?_ ?_
 rotate_left
 ·intro w hSw; have l4 := cell_later hSw m4
  have l0 := cell_later hSw n0; have l1 := cell_later hSw n1; have lq := HLQ.out w hSw
  go_simp
  all_goals with_reducible rfl
 simp only [Act.put]
 refine tb 3 ?_ rfl (by kernel_rfl) (fun _ _ _ h => h) (by assumption) ?_ ?_
 rotate_left
 ·intro w hSw; have l4 := cell_later hSw m4
  have l0 := cell_later hSw n0; have l1 := cell_later hSw n1; have lq := HLQ.out w hSw
  go_simp
  all_goals with_reducible rfl
 simp only [Act.put]
 refine tb 4 ?_ rfl (by kernel_rfl) (fun _ _ _ h => h) (by assumption) ?_ ?_
 rotate_left
 ·intro w hSw; have l4 := cell_later hSw m4
  have l0 := cell_later hSw n0; have l1 := cell_later hSw n1; have lq := HLQ.out w hSw
  go_simp
  all_goals with_reducible rfl
 simp only [Act.put]
 refine tb 5 ?_ rfl (by kernel_rfl) (fun _ _ _ h => h) (by assumption) ?_ ?_
 rotate_left
 ·intro w hSw; have l4 := cell_later hSw m4
  have l0 := cell_later hSw n0; have l1 := cell_later hSw n1; have lq := HLQ.out w hSw
  go_simp
  all_goals with_reducible rfl
 simp only [Act.put]
 refine tb 6 ?_ rfl (by kernel_rfl) (fun _ _ _ h => h) (by assumption) ?_ ?_
 rotate_left
 ·intro w hSw; have l4 := cell_later hSw m4
  have l0 := cell_later hSw n0; have l1 := cell_later hSw n1; have lq := HLQ.out w hSw
  go_simp
  all_goals with_reducible rfl
 simp only [Act.put]
 refine tb 7 ?_ rfl (by kernel_rfl) (fun _ _ _ h => h) (by assumption) ?_ ?_
 rotate_left
 ·intro w hSw; have l4 := cell_later hSw m4
  have l0 := cell_later hSw n0; have l1 := cell_later hSw n1; have lq := HLQ.out w hSw
  go_simp
  all_goals with_reducible rfl
 simp only [Act.put]
 refine tb 8 ?_ rfl (by kernel_rfl) (fun _ _ _ h => h) (by assumption) ?_ ?_
 rotate_left
 ·intro w hSw; have l4 := cell_later hSw m4
  have l0 := cell_later hSw n0; have l1 := cell_later hSw n1; have lq := HLQ.out w hSw
  go_simp
  all_goals with_reducible rfl
 simp only [Act.put]
 refine rr 9 (o := _) rfl (by kernel_rfl) (fun K hK => ?_)
 go_simp
 refine hK.out _ _ ((alloc_below w2 _).drew) (fun hHeld => ?_)
 clear hK
 refine rr 10 (o := _) rfl (by kernel_rfl) (fun K hK => ?_)
 go_simp
 refine hK.out _ _ ((alloc_below w2 _).drew) (fun hHeld => ?_)
 clear hK
 refine rr 11 (o := _) rfl (by kernel_rfl) (fun K hK => ?_)
 go_simp
 refine hK.out _ _ ((alloc_below w2 _).drew) (fun hHeld => ?_)
 clear hK
 refine wpAnyH_done (by kernel_rfl) ?_ _
 obtain ⟨Y, hY⟩ : ∃ Y, Y = (w2.alloc (.cells #[.int .i64 0, .int .i64 0, .int .i64 0, .slice none 0 0, .slice none 0 0] 34 (0, 0))).drew := ⟨_, rfl⟩
 rw [← hY]
 have bY : Below w2.heap.size w2 Y := by rw [hY]; exact (alloc_below _ _).drew
 obtain ⟨hB, hhB⟩ : ∃ hB, w2.heap.size = hB := ⟨_, rfl⟩
 have HHX : Hid (Y.heap[hB]? = some (.cells #[.int .i64 0, .int .i64 0, .int .i64 0, .slice none 0 0, .slice none 0 0] 34 (0, 0))) := hide (by rw [← hhB, hY]; exact heap_alloc_new w2 _)
 have HI3 := hide (HI2.out.later bY)
 have HHN : Hid (¬ k1.blk hB) := hide (fun hb9 => by have := (HI2.out.ps.lt hb9).2; omega)
 try rw [hhB]
 clear hY bY hhB hHeld n0 n1 m4; go_wp2; go_ret
 exact ⟨rfl, by rw [← HSK.out]; exact HI3.out.put (Below.refl _ _)⟩
def ComA (B : Nat) (w4 : World) (k1 : PK) (out : List RC) (hB : Nat) (cs : Array Value) (wd : World) : Prop :=
 ∃ p c, wd.heap[k1.b]? = some (.cells #[.int .i64 k1.reg, .slice p out.length c, .slice k1.vp k1.vec.length k1.vc, .slice k1.dp k1.done.length k1.dc, .map (some k1.mb)] 63 (0, 0)) ∧ wd.ownsRow B 49 2 (.slice p out.length c) out.length (out.flatMap RC.cells) ∧ Only (fun i => i = k1.b ∨ InB k1.op i) w4 wd ∧ (∀ i, InB p i → InB k1.op i ∨ w4.heap.size ≤ i) ∧ wd.heap[hB]? = some (.cells cs 34 (0, 0))
theorem com_end {B : Nat} {W w4 Y Q w8 : World} {k k1 : PK} {bB D P : Nat} {cs : Array Value} {p6 vp2 rp2 p9 : Option Addr} {c6 vc2 rc2 c9 : Nat} {out2 rs2 : List RC} {vs2 : List Int} {e2 i2 g2 i : Int} {s1 : SK} {ht : TX}
  (hI : KeyI B W k k1 bB cs w4) (hP : PS B Y ⟨k1.b, k1.mb, p6, c6, vp2, vc2, k1.dp, k1.dc, k1.reg, out2, vs2, k1.done, k1.xs⟩) (hok : okS (putC k1.sk ht i)) (ho : Only (fun i => i = k1.b ∨ InB k1.op i) w4 Y)
  (hoQ : Only (fun i => i = k1.b ∨ InB k1.dp i) Y Q) (ho8 : Only (· = k1.mb) Q w8) (hmq : MapT Q k1.mb k1.xs.length k1.xs)
  (hbq : Q.heap[k1.b]? = some (.cells #[.int .i64 k1.reg, .slice p6 out2.length c6, .slice vp2 vs2.length vc2, .slice p9 (D + 1) c9, .map (some k1.mb)] 63 (0, 0)))
  (hrq : Q.ownsRow B 2 1 (.slice p9 (D + 1) c9) (D + 1) ((k1.done.take P ++ i :: k1.done.drop P).flatMap intCells))
  (hm8 : MapT w8 k1.mb k1.xs.length (k1.xs.filter (fun x => x.t.id != i)))
  (hk9 : ∀ a, p9 = some a → InB k1.dp a.block ∨ Y.heap.size ≤ a.block) (hw6 : ∀ i, InB p6 i → InB k1.op i ∨ w4.heap.size ≤ i)
  (hx : (⟨⟨e2, i2, g2, rs2, vs2⟩, rp2, rc2, vp2, vc2⟩ : TP) ∈ k1.xs) (hsk : k1.sk = s1) (hxt : (⟨e2, i2, g2, rs2, vs2⟩ : TX) = ht) (hrl : out2 = (putC k1.sk ht i).out) (hpp : posC k1.done i = P) (hd : k1.done.length = D) : Put B W k (putC s1 ht i) w8 := by
 have hoY : Only (fun i => (i = k1.b ∨ InB k1.dp i) ∨ i = k1.mb) Y w8 := (hoQ.mono (fun i _ e => .inl e)).trans (ho8.mono (fun i _ e => .inr e))
 have hin : insI i k1.done = k1.done.take P ++ i :: k1.done.drop P := by rw [ins_pos k1.done hP.ok.done.1 i, hpp]
 have hil : (insI i k1.done).length = D + 1 := by rw [insI_len, hd]
 have hF : ∀ {t : TypeId} {n c B2 sz : Nat} {p : Option Addr} {xs : List Value}, Y.ownsRow B2 t sz (.slice p n c) n xs → t ≠ 63 → Off p k1.dp → ∀ i, InB p i → ¬ ((i = k1.b ∨ InB k1.dp i) ∨ i = k1.mb) := fun hrow hne hoff i hi h9 => by
  rcases h9 with (h9 | h9) | h9
  ·exact row_box hrow hP.box hne i hi h9
  ·exact hoff i hi h9
  ·exact row_map hrow hP.map i hi h9
 have hp9 : ∀ i, InB p9 i → InB k1.dp i ∨ Y.heap.size ≤ i := fun i hi => by
  obtain ⟨a, e1, e2⟩ := hi
  rw [e2]
  exact hk9 a e1
 have hvs : vs2 = ht.vs := by rw [← hxt]
 have hsk5 : PK.sk ⟨k1.b, k1.mb, p6, c6, vp2, vc2, p9, c9, k1.reg, out2, vs2, insI i k1.done, k1.xs.filter (fun x => x.t.id != i)⟩ = putC k1.sk ht i := by
  show SK.mk k1.reg out2 vs2 (insI i k1.done) ((k1.xs.filter (fun x => x.t.id != i)).map TP.t) = _
  rw [del_map, hrl, hvs]
  rfl
 have hk5 : PS B w8 ⟨k1.b, k1.mb, p6, c6, vp2, vc2, p9, c9, k1.reg, out2, vs2, insI i k1.done, k1.xs.filter (fun x => x.t.id != i)⟩ := by
  refine ⟨?_, hm8.tight, ownsRow_only hP.out hoY (fun i hi => hF hP.out (by decide) (row_type hP.out hP.done (by decide)) i (InB.of hi)), ownsRow_only hP.vec hoY (fun i hi => hF hP.vec (by decide) hP.ap.1 i (InB.of hi)), ?_, fun x hx => ?_, ⟨fun i hi hj => ?_, fun x hx => ⟨(hP.ap.2 x (List.mem_filter.1 hx).1).1, fun i hi hj => ?_⟩⟩, hP.ge, ?_⟩
  ·rw [← hil] at hbq
   exact ho8.obj hbq (fun e9 => hmq.box hbq e9.symm)
  ·have h9 := ownsRow_only hrq ho8 (fun i hi => row_map hrq hmq i (InB.of hi))
   rw [← hin, ← hil] at h9
   exact h9
  ·have h9 := hP.pre x (List.mem_filter.1 hx).1
   exact h9.only hoY (fun i hi => hF h9.r (by decide) (row_type h9.r hP.done (by decide)) i hi) (fun i hi => hF h9.v (by decide) (hP.ap.2 x (List.mem_filter.1 hx).1).2 i hi)
  ·rcases hp9 i hj with h9 | h9
   ·exact hP.ap.1 i hi h9
   ·have := (row_ge hP.vec i hi).2; omega
  ·rcases hp9 i hj with h9 | h9
   ·exact (hP.ap.2 x (List.mem_filter.1 hx).1).2 i hi h9
   ·have := (row_ge (hP.pre x (List.mem_filter.1 hx).1).v i hi).2; omega
  ·rw [hsk5]; exact hok
 rw [← hsk, ← hsk5]
 refine Put.trans hI.b hI.only hI.blk ⟨_, hk5, rfl, rfl, (ho.mono (fun i _ e9 => ?_)).trans (hoY.step (Only.refl (fun _ => False) w8) (fun _ e9 => e9.elim) |>.mono (fun i _ e9 => ?_)), fun i hi => ?_⟩
 ·rcases e9 with e9 | e9
  ·exact .inl e9
  ·exact .inr (.inr (.inl e9))
 ·rcases e9 with (e9 | e9) | e9
  ·exact .inl e9
  ·exact .inr (.inr (.inr (.inr (.inl e9))))
  ·exact .inr (.inl e9)
 ·rcases hi with hi | hi | hi | hi | hi | ⟨x, hx', hi⟩
  ·exact .inl (.inl hi)
  ·exact .inl (.inr (.inl hi))
  ·rcases hw6 i hi with h9 | h9
   ·exact .inl (.inr (.inr (.inl h9)))
   ·exact .inr h9
  ·exact .inl (.inr (.inr (.inr (.inr (.inr ⟨_, hx, .inr hi⟩)))))
  ·rcases hp9 i hi with h9 | h9
   ·exact .inl (.inr (.inr (.inr (.inr (.inl h9)))))
   ·exact .inr (Nat.le_trans ho.size h9)
  ·exact .inl (.inr (.inr (.inr (.inr (.inr ⟨x, (List.mem_filter.1 hx').1, hi⟩)))))
attribute [local irreducible] wpQuiet in
set_option maxRecDepth 100000 in
set_option maxHeartbeats 8000000 in
theorem commit_unfit {W : World} {B : Nat} {k : PK} {e i : Int} {s1 : SK} (h : PS B W k) (hdn : k.done.length < 17592186044416) (hne : nameE k.sk e i = 0) (hns : nameS k.sk e i = s1) (hpe : posI e ∧ posI i ∧ ¬ e < k.reg) {ht : TX} {q : Int} (hdo : doneC s1 e i = false) (hfi : findC s1 i = some ht) (hsu : suitC s1 ht = q) (hsn : q ≠ 0) :
  Calls Try.prog 21 #[.pointer (some ⟨k.b, 0, none⟩), .agg #[.int .i64 e, .int .i64 i]] W fun r w' => r = .returned (.int .i64 q) ∧ Put B W k (s1) w' := by
 have HDO0 := hide hdo
 have HFI0 := hide hfi; have HSU0 := hide hsu
 have q1 : (q != 0) = true := ne_ne8 hsn
 clear hsn; clear hdo hfi hsu
 have HNE : Hid (nameE k.sk e i = 0) := hide hne
 have HNS := hide hns; have HPE := hide hpe; clear hne hns hpe; have HP := hide h; have HDN := hide hdn; clear h hdn
 obtain ⟨V, hV⟩ : ∃ V, V = W.alloc (.cells #[.int .i64 e, .int .i64 i] 55 (0, 0)) := ⟨_, rfl⟩
 have HV : Hid (V.heap[W.heap.size]? = some (.cells #[.int .i64 e, .int .i64 i] 55 (0, 0))) := hide (by rw [hV]; exact heap_alloc_new W _)
 have HBV : Hid (Below W.heap.size W V) := hide (by rw [hV]; exact alloc_below _ _)
 obtain ⟨bB, hbB⟩ : ∃ bB, W.heap.size = bB := ⟨_, rfl⟩
 rw [hbB] at HV HBV
 have HZbB := hide hbB
 have HBW : Hid (Below W.heap.size W V) := hide (by rw [HZbB.out]; exact HBV.out)
 have HPV : Hid (PS B V k) := hide (HP.out.later HBW.out)
 go_enter Try.func21, Try.ntmps21
 go_upto_region 1 with fail
 rw [← hV]
 try rw [hbB]
 clear hV hbB; have u0 := cellB HV.out (i := 0) rfl; have u1 := cellB HV.out (i := 1) rfl; have hen := enterNamed_any (e := e) (i := i) HPV.out
 rw [show (if posI e ∧ posI i then entC k.sk e else 1) = nameE k.sk e i from rfl, show (if posI e ∧ posI i then raisC k.sk e else k.sk) = nameS k.sk e i from rfl, HNE.out, HNS.out] at hen
 go_wp2_with fail
 refine hen.mono ?_
 rintro _ w1 ⟨rfl, hput⟩
 clear hen
 have HNB : Hid (¬ k.blk bB ∧ W.heap.size ≤ bB) := hide ⟨fun hb9 => by have := (HP.out.lt hb9).2; have := HZbB.out; omega, by have := HZbB.out; omega⟩
 obtain ⟨k1, p1, p2, p3, p4, p5⟩ := hput
 have HI1 : Hid (KeyI B W k k1 bB #[.int .i64 e, .int .i64 i] w1) := hide ⟨p1, p3, (Only.fresh HBW.out _).trans p4, fun i hi => (p5 i hi).imp (fun h9 => h9) (fun h9 => Nat.le_trans HBW.out.size h9), p4.obj HV.out HNB.out.1, fun hb9 => (p5 _ hb9).elim HNB.out.1 (fun h9 => by have := box_lt HV.out; omega), HNB.out.2⟩
 have HSK := hide p2
 have HSR : Hid (s1 = raisC k.sk e) := hide (by rw [← HNS.out]; unfold nameS; rw [if_pos ⟨HPE.out.1, HPE.out.2.1⟩])
 have HRG : Hid (k1.reg = e) := hide (by
   have h9 : k1.sk.reg = (raisC k.sk e).reg := by rw [p2, HSR.out]
   rw [rais_reg] at h9
   have h8 : k1.reg = if k.reg < e then e else k.reg := h9
   have := HPE.out.2.2
   split at h8 <;> omega)
 have HDN1 : Hid (k1.done.length < 17592186044416) := hide (by
   have h9 : k1.sk.done = (raisC k.sk e).done := by rw [p2, HSR.out]
   have h8 : k1.done = (raisC k.sk e).done := h9
   rw [h8]
   unfold raisC
   split
   · show ([] : List Int).length < 17592186044416; simp
   · exact HDN.out)
 have HDN2 : Hid (k1.done.length < 4611686018427387904) := hide (by have := HDN1.out; omega)
 rw [← p3]
 clear p1 p2 p3 p4 p5 u0 u1 HPV HBW HV HBV; have u0 := cellB HI1.out.box (i := 0) rfl; have u1 := cellB HI1.out.box (i := 1) rfl
 have HDO : Hid (doneC k1.sk e i = false) := hide (by rw [HSK.out]; exact HDO0.out)
 go_wp2_with fail
 refine (done_any HI1.out.ps HDN2.out HDO.out).mono ?_
 rintro _ w2 ⟨rfl, b2⟩
 have HI2 := hide (HI1.out.later b2); clear b2 HI1 u0 u1
 obtain ⟨x, hx, hxt⟩ : ∃ x, findP k1.xs i = some x ∧ x.t = ht := by
  have h9 := HFI0.out
  rw [← HSK.out, find_P] at h9
  obtain ⟨x, h8, h7⟩ := Option.map_eq_some_iff.1 h9
  exact ⟨x, h8, h7⟩
 have HXF := hide hx; have hxin := List.mem_of_find?_eq_some hx; have hmay := HI2.out.ps.ok.may x.t (List.mem_map.2 ⟨x, hxin, rfl⟩)
 have hlq : ∀ w, Below w2.heap.size w2 w → (Instr.lookup 61 (.map (some k1.mb)) (keyV e i) true).run Try.prog w = .ok (.tuple #[rowOf (some x), .bool true]) w := fun w hw => by
  have h9 := ((HI2.out.ps.map.later hw).look HI2.out.ps.named HRG.out.symm HPE.out.1 HPE.out.2.1).1
  rw [hx] at h9
  exact h9
 obtain ⟨⟨e2, i2, g2, rs2, vs2⟩, rp2, rc2, vp2, vc2⟩ := x
 obtain ⟨j, rfl⟩ : ∃ j : Nat, g2 = (j : Int) := ⟨g2.toNat, by have h9 := hmay.1.2.2.1; have h8 : 0 ≤ g2 := h9; omega⟩
 obtain ⟨rn2, hrn2⟩ : ∃ n, rs2.length = n := ⟨_, rfl⟩
 obtain ⟨vn2, hvn2⟩ : ∃ n, vs2.length = n := ⟨_, rfl⟩
 simp only at hxt
 have HXT := hide hxt; have HXI := hide hxin; have HMY := hide hmay
 simp only [rowOf, TP.row, keyV, hrn2, hvn2] at hlq
 have HLQ := hide hlq; have HRN2 := hide hrn2; have HVN2 := hide hvn2; clear hlq hrn2 hvn2 hxt hx hxin hmay; have n0 := cellB HI2.out.box (i := 0) rfl; have n1 := cellB HI2.out.box (i := 1) rfl; have m4 := HI2.out.ps.c4
 go_upto_region 6 with fail
 refine wp_region_held_drew (S := fun w9 => Below w2.heap.size w2 w9) (by kernel_rfl) (Below.refl _ w2).drew (fun hHeld => ?_)
 refine tb 0 ?_ rfl (by kernel_rfl) (fun _ _ _ h => h) (by assumption) ?_ ?_
 rotate_left
 ·intro w hSw; have l4 := cell_later hSw m4
  have l0 := cell_later hSw n0; have l1 := cell_later hSw n1; have lq := HLQ.out w hSw
  go_simp
  all_goals with_reducible rfl
 simp only [Act.put]
 refine tb 1 ?_ rfl (by kernel_rfl) (fun _ _ _ h => h) (by assumption) ?_ ?_
 rotate_left
 ·intro w hSw; have l4 := cell_later hSw m4
  have l0 := cell_later hSw n0; have l1 := cell_later hSw n1; have lq := HLQ.out w hSw
  go_simp
  all_goals with_reducible rfl
 simp only [Act.put]
 refine tb 2 ?_ rfl (by kernel_rfl) (fun _ _ _ h => h) (by assumption) ?_ ?_
 rotate_left
 ·intro w hSw; have l4 := cell_later hSw m4
  have l0 := cell_later hSw n0; have l1 := cell_later hSw n1; have lq := HLQ.out w hSw
  go_simp
  all_goals with_reducible rfl
 simp only [Act.put]
 refine tb 3 ?_ rfl (by kernel_rfl) (fun _ _ _ h => h) (by assumption) ?_ ?_
 rotate_left
 ·intro w hSw; have l4 := cell_later hSw m4
  have l0 := cell_later hSw n0; have l1 := cell_later hSw n1; have lq := HLQ.out w hSw
  go_simp
  all_goals with_reducible rfl
 simp only [Act.put]
 refine tb 4 ?_ rfl (by kernel_rfl) (fun _ _ _ h => h) (by assumption) ?_ ?_
 rotate_left
 ·intro w hSw; have l4 := cell_later hSw m4
  have l0 := cell_later hSw n0; have l1 := cell_later hSw n1; have lq := HLQ.out w hSw
  go_simp
  all_goals with_reducible rfl
 simp only [Act.put]
 refine tb 5 ?_ rfl (by kernel_rfl) (fun _ _ _ h => h) (by assumption) ?_ ?_
 rotate_left
 ·intro w hSw; have l4 := cell_later hSw m4
  have l0 := cell_later hSw n0; have l1 := cell_later hSw n1; have lq := HLQ.out w hSw
  go_simp
  all_goals with_reducible rfl
 simp only [Act.put]
 refine tb 6 ?_ rfl (by kernel_rfl) (fun _ _ _ h => h) (by assumption) ?_ ?_
 rotate_left
 ·intro w hSw; have l4 := cell_later hSw m4
  have l0 := cell_later hSw n0; have l1 := cell_later hSw n1; have lq := HLQ.out w hSw
  go_simp
  all_goals with_reducible rfl
 simp only [Act.put]
 refine tb 7 ?_ rfl (by kernel_rfl) (fun _ _ _ h => h) (by assumption) ?_ ?_
 rotate_left
 ·intro w hSw; have l4 := cell_later hSw m4
  have l0 := cell_later hSw n0; have l1 := cell_later hSw n1; have lq := HLQ.out w hSw
  go_simp
  all_goals with_reducible rfl
 simp only [Act.put]
 refine tb 8 ?_ rfl (by kernel_rfl) (fun _ _ _ h => h) (by assumption) ?_ ?_
 rotate_left
 ·intro w hSw; have l4 := cell_later hSw m4
  have l0 := cell_later hSw n0; have l1 := cell_later hSw n1; have lq := HLQ.out w hSw
  go_simp
  all_goals with_reducible rfl
 simp only [Act.put]
 refine rr 9 (o := _) rfl (by kernel_rfl) (fun K hK => ?_)
 go_simp
 refine hK.out _ _ ((alloc_below w2 _).drew) (fun hHeld => ?_)
 clear hK
 refine rr 10 (o := _) rfl (by kernel_rfl) (fun K hK => ?_)
 go_simp
 refine hK.out _ _ ((alloc_below w2 _).drew) (fun hHeld => ?_)
 clear hK
 refine rr 11 (o := _) rfl (by kernel_rfl) (fun K hK => ?_)
 go_simp
 refine hK.out _ _ ((alloc_below w2 _).drew) (fun hHeld => ?_)
 clear hK
 refine wpAnyH_done (by kernel_rfl) ?_ _
 obtain ⟨Y, hY⟩ : ∃ Y, Y = (w2.alloc (.cells #[.int .i64 e2, .int .i64 i2, .int .i64 (j : Int), .slice rp2 rn2 rc2, .slice vp2 vn2 vc2] 34 (0, 0))).drew := ⟨_, rfl⟩
 rw [← hY]
 have bY : Below w2.heap.size w2 Y := by rw [hY]; exact (alloc_below _ _).drew
 obtain ⟨hB, hhB⟩ : ∃ hB, w2.heap.size = hB := ⟨_, rfl⟩
 have HHX : Hid (Y.heap[hB]? = some (.cells #[.int .i64 e2, .int .i64 i2, .int .i64 (j : Int), .slice rp2 rn2 rc2, .slice vp2 vn2 vc2] 34 (0, 0))) := hide (by rw [← hhB, hY]; exact heap_alloc_new w2 _)
 have HI3 := hide (HI2.out.later bY)
 have HHN : Hid (¬ k1.blk hB) := hide (fun hb9 => by have := (HI2.out.ps.lt hb9).2; omega)
 try rw [hhB]
 clear hY bY hhB hHeld n0 n1 m4; have v0 := cellB HHX.out (i := 0) rfl; have v1 := cellB HHX.out (i := 1) rfl; have v2 := cellB HHX.out (i := 2) rfl; have v3 := cellB HHX.out (i := 3) rfl; have v4 := cellB HHX.out (i := 4) rfl; have HXO := hide (HI3.out.ps.pre _ HXI.out); have hsu9 := suits_any (q := q) HI3.out.ps HXO.out.ok (by have h9 := HMY.out.1; exact h9) (by rw [HSK.out, HXT.out]; exact HSU0.out)
 simp only [TP.row, HRN2.out, HVN2.out] at hsu9
 go_wp2_with fail
 refine hsu9.mono ?_
 rintro _ w4 ⟨rfl, b4⟩
 have HI4 := hide (HI3.out.later b4); have HH4 := hide (below_box b4 HHX.out); clear b4 HI3 HHX HXO hsu9 v0 v1 v2 v3 v4; go_wp2; go_ret
 exact ⟨rfl, by rw [← HSK.out]; exact HI4.out.put (Below.refl _ _)⟩
attribute [local irreducible] wpQuiet in
set_option maxRecDepth 100000 in
set_option maxHeartbeats 8000000 in
theorem commit_put {W : World} {B : Nat} {k : PK} {e i : Int} {s1 : SK} (h : PS B W k) (hdn : k.done.length < 17592186044416) (hne : nameE k.sk e i = 0) (hns : nameS k.sk e i = s1) (hpe : posI e ∧ posI i ∧ ¬ e < k.reg) {ht : TX} (hdo : doneC s1 e i = false) (hfi : findC s1 i = some ht) (hsu : suitC s1 ht = 0) :
  Calls Try.prog 21 #[.pointer (some ⟨k.b, 0, none⟩), .agg #[.int .i64 e, .int .i64 i]] W fun r w' => r = .returned (.int .i64 0) ∧ Put B W k (putC s1 ht i) w' := by
 have HDO0 := hide hdo
 have HFI0 := hide hfi; have HSU0 := hide hsu; clear hdo hfi hsu
 have HNE : Hid (nameE k.sk e i = 0) := hide hne
 have HNS := hide hns; have HPE := hide hpe; clear hne hns hpe; have HP := hide h; have HDN := hide hdn; clear h hdn
 obtain ⟨V, hV⟩ : ∃ V, V = W.alloc (.cells #[.int .i64 e, .int .i64 i] 55 (0, 0)) := ⟨_, rfl⟩
 have HV : Hid (V.heap[W.heap.size]? = some (.cells #[.int .i64 e, .int .i64 i] 55 (0, 0))) := hide (by rw [hV]; exact heap_alloc_new W _)
 have HBV : Hid (Below W.heap.size W V) := hide (by rw [hV]; exact alloc_below _ _)
 obtain ⟨bB, hbB⟩ : ∃ bB, W.heap.size = bB := ⟨_, rfl⟩
 rw [hbB] at HV HBV
 have HZbB := hide hbB
 have HBW : Hid (Below W.heap.size W V) := hide (by rw [HZbB.out]; exact HBV.out)
 have HPV : Hid (PS B V k) := hide (HP.out.later HBW.out)
 go_enter Try.func21, Try.ntmps21
 go_upto_region 1 with fail
 rw [← hV]
 try rw [hbB]
 clear hV hbB; have u0 := cellB HV.out (i := 0) rfl; have u1 := cellB HV.out (i := 1) rfl; have hen := enterNamed_any (e := e) (i := i) HPV.out
 rw [show (if posI e ∧ posI i then entC k.sk e else 1) = nameE k.sk e i from rfl, show (if posI e ∧ posI i then raisC k.sk e else k.sk) = nameS k.sk e i from rfl, HNE.out, HNS.out] at hen
 go_wp2_with fail
 refine hen.mono ?_
 rintro _ w1 ⟨rfl, hput⟩
 clear hen
 have HNB : Hid (¬ k.blk bB ∧ W.heap.size ≤ bB) := hide ⟨fun hb9 => by have := (HP.out.lt hb9).2; have := HZbB.out; omega, by have := HZbB.out; omega⟩
 obtain ⟨k1, p1, p2, p3, p4, p5⟩ := hput
 have HI1 : Hid (KeyI B W k k1 bB #[.int .i64 e, .int .i64 i] w1) := hide ⟨p1, p3, (Only.fresh HBW.out _).trans p4, fun i hi => (p5 i hi).imp (fun h9 => h9) (fun h9 => Nat.le_trans HBW.out.size h9), p4.obj HV.out HNB.out.1, fun hb9 => (p5 _ hb9).elim HNB.out.1 (fun h9 => by have := box_lt HV.out; omega), HNB.out.2⟩
 have HSK := hide p2
 have HSR : Hid (s1 = raisC k.sk e) := hide (by rw [← HNS.out]; unfold nameS; rw [if_pos ⟨HPE.out.1, HPE.out.2.1⟩])
 have HRG : Hid (k1.reg = e) := hide (by
   have h9 : k1.sk.reg = (raisC k.sk e).reg := by rw [p2, HSR.out]
   rw [rais_reg] at h9
   have h8 : k1.reg = if k.reg < e then e else k.reg := h9
   have := HPE.out.2.2
   split at h8 <;> omega)
 have HDN1 : Hid (k1.done.length < 17592186044416) := hide (by
   have h9 : k1.sk.done = (raisC k.sk e).done := by rw [p2, HSR.out]
   have h8 : k1.done = (raisC k.sk e).done := h9
   rw [h8]
   unfold raisC
   split
   · show ([] : List Int).length < 17592186044416; simp
   · exact HDN.out)
 have HDN2 : Hid (k1.done.length < 4611686018427387904) := hide (by have := HDN1.out; omega)
 rw [← p3]
 clear p1 p2 p3 p4 p5 u0 u1 HPV HBW HV HBV; have u0 := cellB HI1.out.box (i := 0) rfl; have u1 := cellB HI1.out.box (i := 1) rfl
 have HDO : Hid (doneC k1.sk e i = false) := hide (by rw [HSK.out]; exact HDO0.out)
 go_wp2_with fail
 refine (done_any HI1.out.ps HDN2.out HDO.out).mono ?_
 rintro _ w2 ⟨rfl, b2⟩
 have HI2 := hide (HI1.out.later b2); clear b2 HI1 u0 u1
 obtain ⟨x, hx, hxt⟩ : ∃ x, findP k1.xs i = some x ∧ x.t = ht := by
  have h9 := HFI0.out
  rw [← HSK.out, find_P] at h9
  obtain ⟨x, h8, h7⟩ := Option.map_eq_some_iff.1 h9
  exact ⟨x, h8, h7⟩
 have HXF := hide hx; have hxin := List.mem_of_find?_eq_some hx; have hmay := HI2.out.ps.ok.may x.t (List.mem_map.2 ⟨x, hxin, rfl⟩)
 have hlq : ∀ w, Below w2.heap.size w2 w → (Instr.lookup 61 (.map (some k1.mb)) (keyV e i) true).run Try.prog w = .ok (.tuple #[rowOf (some x), .bool true]) w := fun w hw => by
  have h9 := ((HI2.out.ps.map.later hw).look HI2.out.ps.named HRG.out.symm HPE.out.1 HPE.out.2.1).1
  rw [hx] at h9
  exact h9
 obtain ⟨⟨e2, i2, g2, rs2, vs2⟩, rp2, rc2, vp2, vc2⟩ := x
 obtain ⟨j, rfl⟩ : ∃ j : Nat, g2 = (j : Int) := ⟨g2.toNat, by have h9 := hmay.1.2.2.1; have h8 : 0 ≤ g2 := h9; omega⟩
 obtain ⟨rn2, hrn2⟩ : ∃ n, rs2.length = n := ⟨_, rfl⟩
 obtain ⟨vn2, hvn2⟩ : ∃ n, vs2.length = n := ⟨_, rfl⟩
 simp only at hxt
 have HXT := hide hxt; have HXI := hide hxin; have HMY := hide hmay
 simp only [rowOf, TP.row, keyV, hrn2, hvn2] at hlq
 have HLQ := hide hlq; have HRN2 := hide hrn2; have HVN2 := hide hvn2; clear hlq hrn2 hvn2 hxt hx hxin hmay; have n0 := cellB HI2.out.box (i := 0) rfl; have n1 := cellB HI2.out.box (i := 1) rfl; have m4 := HI2.out.ps.c4
 go_upto_region 6 with fail
 refine wp_region_held_drew (S := fun w9 => Below w2.heap.size w2 w9) (by kernel_rfl) (Below.refl _ w2).drew (fun hHeld => ?_)
 refine tb 0 ?_ rfl (by kernel_rfl) (fun _ _ _ h => h) (by assumption) ?_ ?_
 rotate_left
 ·intro w hSw; have l4 := cell_later hSw m4
  have l0 := cell_later hSw n0; have l1 := cell_later hSw n1; have lq := HLQ.out w hSw
  go_simp
  all_goals with_reducible rfl
 simp only [Act.put]
 refine tb 1 ?_ rfl (by kernel_rfl) (fun _ _ _ h => h) (by assumption) ?_ ?_
 rotate_left
 ·intro w hSw; have l4 := cell_later hSw m4
  have l0 := cell_later hSw n0; have l1 := cell_later hSw n1; have lq := HLQ.out w hSw
  go_simp
  all_goals with_reducible rfl
 simp only [Act.put]
 refine tb 2 ?_ rfl (by kernel_rfl) (fun _ _ _ h => h) (by assumption) ?_ ?_
 rotate_left
 ·intro w hSw; have l4 := cell_later hSw m4
  have l0 := cell_later hSw n0; have l1 := cell_later hSw n1; have lq := HLQ.out w hSw
  go_simp
  all_goals with_reducible rfl
 simp only [Act.put]
 refine tb 3 ?_ rfl (by kernel_rfl) (fun _ _ _ h => h) (by assumption) ?_ ?_
 rotate_left
 ·intro w hSw; have l4 := cell_later hSw m4
  have l0 := cell_later hSw n0; have l1 := cell_later hSw n1; have lq := HLQ.out w hSw
  go_simp
  all_goals with_reducible rfl
 simp only [Act.put]
 refine tb 4 ?_ rfl (by kernel_rfl) (fun _ _ _ h => h) (by assumption) ?_ ?_
 rotate_left
 ·intro w hSw; have l4 := cell_later hSw m4
  have l0 := cell_later hSw n0; have l1 := cell_later hSw n1; have lq := HLQ.out w hSw
  go_simp
  all_goals with_reducible rfl
 simp only [Act.put]
 refine tb 5 ?_ rfl (by kernel_rfl) (fun _ _ _ h => h) (by assumption) ?_ ?_
 rotate_left
 ·intro w hSw; have l4 := cell_later hSw m4
  have l0 := cell_later hSw n0; have l1 := cell_later hSw n1; have lq := HLQ.out w hSw
  go_simp
  all_goals with_reducible rfl
 simp only [Act.put]
 refine tb 6 ?_ rfl (by kernel_rfl) (fun _ _ _ h => h) (by assumption) ?_ ?_
 rotate_left
 ·intro w hSw; have l4 := cell_later hSw m4
  have l0 := cell_later hSw n0; have l1 := cell_later hSw n1; have lq := HLQ.out w hSw
  go_simp
  all_goals with_reducible rfl
 simp only [Act.put]
 refine tb 7 ?_ rfl (by kernel_rfl) (fun _ _ _ h => h) (by assumption) ?_ ?_
 rotate_left
 ·intro w hSw; have l4 := cell_later hSw m4
  have l0 := cell_later hSw n0; have l1 := cell_later hSw n1; have lq := HLQ.out w hSw
  go_simp
  all_goals with_reducible rfl
 simp only [Act.put]
 refine tb 8 ?_ rfl (by kernel_rfl) (fun _ _ _ h => h) (by assumption) ?_ ?_
 rotate_left
 ·intro w hSw; have l4 := cell_later hSw m4
  have l0 := cell_later hSw n0; have l1 := cell_later hSw n1; have lq := HLQ.out w hSw
  go_simp
  all_goals with_reducible rfl
 simp only [Act.put]
 refine rr 9 (o := _) rfl (by kernel_rfl) (fun K hK => ?_)
 go_simp
 refine hK.out _ _ ((alloc_below w2 _).drew) (fun hHeld => ?_)
 clear hK
 refine rr 10 (o := _) rfl (by kernel_rfl) (fun K hK => ?_)
 go_simp
 refine hK.out _ _ ((alloc_below w2 _).drew) (fun hHeld => ?_)
 clear hK
 refine rr 11 (o := _) rfl (by kernel_rfl) (fun K hK => ?_)
 go_simp
 refine hK.out _ _ ((alloc_below w2 _).drew) (fun hHeld => ?_)
 clear hK
 refine wpAnyH_done (by kernel_rfl) ?_ _
 obtain ⟨Y, hY⟩ : ∃ Y, Y = (w2.alloc (.cells #[.int .i64 e2, .int .i64 i2, .int .i64 (j : Int), .slice rp2 rn2 rc2, .slice vp2 vn2 vc2] 34 (0, 0))).drew := ⟨_, rfl⟩
 rw [← hY]
 have bY : Below w2.heap.size w2 Y := by rw [hY]; exact (alloc_below _ _).drew
 obtain ⟨hB, hhB⟩ : ∃ hB, w2.heap.size = hB := ⟨_, rfl⟩
 have HHX : Hid (Y.heap[hB]? = some (.cells #[.int .i64 e2, .int .i64 i2, .int .i64 (j : Int), .slice rp2 rn2 rc2, .slice vp2 vn2 vc2] 34 (0, 0))) := hide (by rw [← hhB, hY]; exact heap_alloc_new w2 _)
 have HI3 := hide (HI2.out.later bY)
 have HHN : Hid (¬ k1.blk hB) := hide (fun hb9 => by have := (HI2.out.ps.lt hb9).2; omega)
 try rw [hhB]
 clear hY bY hhB hHeld n0 n1 m4; have v0 := cellB HHX.out (i := 0) rfl; have v1 := cellB HHX.out (i := 1) rfl; have v2 := cellB HHX.out (i := 2) rfl; have v3 := cellB HHX.out (i := 3) rfl; have v4 := cellB HHX.out (i := 4) rfl; have HXO := hide (HI3.out.ps.pre _ HXI.out); have hsu9 := suits_any (q := 0) HI3.out.ps HXO.out.ok (by have h9 := HMY.out.1; exact h9) (by rw [HSK.out, HXT.out]; exact HSU0.out)
 simp only [TP.row, HRN2.out, HVN2.out] at hsu9
 go_wp2_with fail
 refine hsu9.mono ?_
 rintro _ w4 ⟨rfl, b4⟩
 have HI4 := hide (HI3.out.later b4); have HH4 := hide (below_box b4 HHX.out); clear b4 HI3 HHX HXO hsu9 v0 v1 v2 v3 v4
 have HZ : Hid (j ≤ k1.out.length ∧ k1.out.length ≤ j + rn2 ∧ j + rn2 ≤ 4096) := hide (by
   have h9 := suit_zero (show suitC k1.sk ht = 0 by rw [HSK.out]; exact HSU0.out)
   rw [← HXT.out] at h9
   obtain ⟨a1, _, a3, _, a5⟩ := h9
   have b1 : (j : Int) ≤ k1.out.length := a1
   have b3 : (k1.out.length : Int) ≤ (j : Int) + rs2.length := a3
   have b5 : (j : Int) + rs2.length ≤ 4096 := a5
   rw [HRN2.out] at b3 b5
   omega)
 obtain ⟨N, hN⟩ : ∃ N, k1.out.length = N := ⟨_, rfl⟩
 obtain ⟨d, hd⟩ : ∃ d, N = j + d := ⟨N - j, by have := HZ.out; omega⟩
 obtain ⟨m, hm⟩ : ∃ m, rn2 = d + m := ⟨rn2 - d, by have := HZ.out; omega⟩
 have HNN := hide hN; have HDD := hide hd; have HMM := hide hm
 have qw : IntKind.i64.wrap ((N : Int) - (j : Int)) = (d : Int) := by have := HZ.out; rw [IntKind.wrap_i64]; omega
 have qd0 : (0 : Int) ≤ (d : Int) := by omega
 have qd1 : (d : Int) ≤ (rn2 : Int) := by omega
 have qd2 : d ≤ rn2 := by omega
 have qm : rn2 - d = m := by omega
 have c1 := HI4.out.ps.c1
 rw [hN] at c1
 have hlen9 := len_any (HI4.out.ps.later (Below.refl _ w4).drew)
 rw [hN] at hlen9
 have HLEN := hide hlen9; have HX4 := hide (HI4.out.ps.pre _ HXI.out); have htl := HX4.out.ok.r.tail (j := d) (by show d ≤ rs2.length; rw [HRN2.out]; omega); have hle2 := HX4.out.ok.r.le
 obtain ⟨A, hA⟩ : ∃ A, (if rc2 = d then rp2 else Option.map (fun x => x.add (d * 2)) rp2) = A := ⟨_, rfl⟩
 simp only at htl hle2
 rw [hA] at htl
 rw [HRN2.out] at hle2
 have hsg := LRow.seg (by decide) RC.len RC.one htl
 rw [List.length_drop, HRN2.out, qm] at hsg
 have HSG := hide hsg; have HAA := hide hA
 obtain ⟨i0, hI0, hz0, hz1, hz2⟩ := info_parts Try.infoRec
 have hown0 := HI4.out.ps.out
 rw [hN] at hown0
 have HOWN := hide (ownsRow_later hown0 (Below.refl _ w4).drew)
 have HK1 : Hid (N + m ≤ maxLen) := by have := HZ.out; show _ ≤ _; unfold maxLen; omega
 have HK2 : Hid ((N + m) * 16 ≤ 140737488355328) := by have := HZ.out; show _ ≤ _; omega
 have HBS : Hid (B ≤ w4.drew.heap.size) := hide (by have := HI4.out.ps.lt (.inl rfl); show B ≤ w4.heap.size; omega)
 clear hd hm hN htl hsg hown0 hlen9; have v0 := cellB HH4.out (i := 0) rfl; have v1 := cellB HH4.out (i := 1) rfl; have v2 := cellB HH4.out (i := 2) rfl; have v3 := cellB HH4.out (i := 3) rfl; have v4 := cellB HH4.out (i := 4) rfl
 have hne4 : ¬ (hB = k1.b ∨ InB k1.op hB) := fun h9 => HHN.out (by rcases h9 with h9 | h9; exact .inl h9; exact .inr (.inr (.inl h9)))
 go_upto_region 12 with fail
 go_cut [] from 37 to 52 (fun wd => Hid (ComA B w4 k1 (k1.out ++ rs2.drop d) hB #[.int .i64 e2, .int .i64 i2, .int .i64 (j : Int), .slice rp2 rn2 rc2, .slice vp2 vn2 vc2] wd))
 case first =>
  refine wp_region_held_drew (S := fun w9 => Only (fun i => i = k1.b ∨ InB k1.op i) w4 w9) (by kernel_rfl) ((Only.refl _ w4).drew) (fun hHeld => ?_)
  refine tb 0 ?_ rfl (by kernel_rfl) (fun _ _ _ h => h) (by assumption) ?_ ?_
  rotate_left
  ·intro w hSw; have l0 := hSw.cell v0 hne4
   have l1 := hSw.cell v1 hne4; have l2 := hSw.cell v2 hne4; have l3 := hSw.cell v3 hne4; have l4 := hSw.cell v4 hne4
   go_simp
   all_goals with_reducible rfl
  simp only [Act.put]
  refine tb 1 ?_ rfl (by kernel_rfl) (fun _ _ _ h => h) (by assumption) ?_ ?_
  rotate_left
  ·intro w hSw; have l0 := hSw.cell v0 hne4
   have l1 := hSw.cell v1 hne4; have l2 := hSw.cell v2 hne4; have l3 := hSw.cell v3 hne4; have l4 := hSw.cell v4 hne4
   go_simp
   all_goals with_reducible rfl
  simp only [Act.put]
  refine tb 2 ?_ rfl (by kernel_rfl) (fun _ _ _ h => h) (by assumption) ?_ ?_
  rotate_left
  ·intro w hSw; have l0 := hSw.cell v0 hne4
   have l1 := hSw.cell v1 hne4; have l2 := hSw.cell v2 hne4; have l3 := hSw.cell v3 hne4; have l4 := hSw.cell v4 hne4
   go_simp
   all_goals with_reducible rfl
  simp only [Act.put]
  refine tb 3 ?_ rfl (by kernel_rfl) (fun _ _ _ h => h) (by assumption) ?_ ?_
  rotate_left
  ·intro w hSw; have l0 := hSw.cell v0 hne4
   have l1 := hSw.cell v1 hne4; have l2 := hSw.cell v2 hne4; have l3 := hSw.cell v3 hne4; have l4 := hSw.cell v4 hne4
   go_simp
   all_goals with_reducible rfl
  simp only [Act.put]
  refine tb 5 ?_ rfl (by kernel_rfl) (fun _ _ _ h => h) (by assumption) ?_ ?_
  rotate_left
  ·intro w hSw; have l0 := hSw.cell v0 hne4
   have l1 := hSw.cell v1 hne4; have l2 := hSw.cell v2 hne4; have l3 := hSw.cell v3 hne4; have l4 := hSw.cell v4 hne4
   go_simp
   all_goals with_reducible rfl
  simp only [Act.put]
  refine tb 6 ?_ rfl (by kernel_rfl) (fun _ _ _ h => h) (by assumption) ?_ ?_
  rotate_left
  ·intro w hSw; have l0 := hSw.cell v0 hne4
   have l1 := hSw.cell v1 hne4; have l2 := hSw.cell v2 hne4; have l3 := hSw.cell v3 hne4; have l4 := hSw.cell v4 hne4
   go_simp
   all_goals with_reducible rfl
  simp only [Act.put]
  refine tb 7 ?_ rfl (by kernel_rfl) (fun _ _ _ h => h) (by assumption) ?_ ?_
  rotate_left
  ·intro w hSw; have l0 := hSw.cell v0 hne4
   have l1 := hSw.cell v1 hne4; have l2 := hSw.cell v2 hne4; have l3 := hSw.cell v3 hne4; have l4 := hSw.cell v4 hne4
   go_simp
   all_goals with_reducible rfl
  simp only [Act.put]
  refine tb 9 ?_ rfl (by kernel_rfl) (fun _ _ _ h => h) (by assumption) ?_ ?_
  rotate_left
  ·intro w hSw; have l0 := hSw.cell v0 hne4
   have l1 := hSw.cell v1 hne4; have l2 := hSw.cell v2 hne4; have l3 := hSw.cell v3 hne4; have l4 := hSw.cell v4 hne4
   go_simp
   all_goals with_reducible rfl
  simp only [Act.put]
  refine tb 10 ?_ rfl (by kernel_rfl) (fun _ _ _ h => h) (by assumption) ?_ ?_
  rotate_left
  ·intro w hSw; have l0 := hSw.cell v0 hne4
   have l1 := hSw.cell v1 hne4; have l2 := hSw.cell v2 hne4; have l3 := hSw.cell v3 hne4; have l4 := hSw.cell v4 hne4
   go_simp
   all_goals with_reducible rfl
  simp only [Act.put]
  refine wpAnyH_ready (rs := [4, 8]) (by kernel_rfl) (by simp) ?_
  refine AllReadyH.cons (o := _) rfl (fun K hK => ?_) (AllReadyH.cons (o := _) rfl (fun K hK => ?_) AllReadyH.nil)
  ·
   go_simp
   refine hK.out _ _ hHeld (fun hHeld => ?_)
   clear hK
   refine rr 8 (o := _) rfl (by kernel_rfl) (fun K hK => ?_)
   go_simp
   refine HLEN.out.mono ?_
   rintro _ _ ⟨rfl, rfl⟩
   go_wp2_with fail
   refine hK.out _ _ hHeld (fun hHeld => ?_)
   clear hK
   refine tb 11 ?_ rfl (by kernel_rfl) (fun _ _ _ h => h) (by assumption) ?_ ?_
   rotate_left
   ·intro w hSw; have l0 := hSw.cell v0 hne4
    have l1 := hSw.cell v1 hne4; have l2 := hSw.cell v2 hne4; have l3 := hSw.cell v3 hne4; have l4 := hSw.cell v4 hne4
    go_simp
    all_goals with_reducible rfl
   simp only [Act.put]
   refine tb 12 ?_ rfl (by kernel_rfl) (fun _ _ _ h => h) (by assumption) ?_ ?_
   rotate_left
   ·intro w hSw; have l0 := hSw.cell v0 hne4
    have l1 := hSw.cell v1 hne4; have l2 := hSw.cell v2 hne4; have l3 := hSw.cell v3 hne4; have l4 := hSw.cell v4 hne4
    go_simp
    all_goals with_reducible rfl
   simp only [Act.put]
   refine rr 13 (o := _) rfl (by kernel_rfl) (fun K hK => ?_)
   refine step_append_where rfl (.tmp 41) (.tmp 49) 31 rfl B 49 i0 (.agg #[.int .i64 0, .int .i64 0]) 2 16 Try.underlying31 hI0 hz0 hz1 hz2 rfl (by decide) (.slice k1.op N k1.oc) N _ (by simp [Act.eval]) HOWN.out (.slice A m (rc2 - d)) m ((rs2.drop d).flatMap RC.cells) (by simp [Act.eval]) (HSG.out.below (Below.refl _ w4).drew) HK1.out HK2.out HBS.out ?_
   intro p6 c6 w6 hown6 hgr6 hwh6
   have hO6' : Only (InB k1.op) w4.drew w6 := Only.of_grown hgr6 (fun i e => InB.of e)
   have hO6 : Only (InB k1.op) w4 w6 := ⟨hO6'.os, hO6'.tape, hO6'.output, hO6'.size, hO6'.block⟩
   have HWH := hide hwh6; have HO6 := hide hO6; have HW6 := hide hown6; have hb6 := hO6.obj HI4.out.ps.box (fun e9 => row_box HI4.out.ps.out HI4.out.ps.box (by decide) k1.b e9 rfl); have y1 := cellB hb6 (i := 1) rfl; have z1 := frB hb6 (i := 1); have HB6 := hide hb6; clear hgr6 hown6 hO6 hO6' hb6 hwh6
   refine hK.out _ _ (HO6.out.mono (fun i _ e9 => .inr e9)) (fun hHeld => ?_)
   clear hK
   simp only [Act.put, List.setIfInBounds_toArray]
   refine tb 14 ?_ rfl (by kernel_rfl) (fun _ _ _ h => h) (by assumption) ?_ ?_
   rotate_left
   ·intro w hSw; have l0 := hSw.cell v0 hne4
    have l1 := hSw.cell v1 hne4; have l2 := hSw.cell v2 hne4; have l3 := hSw.cell v3 hne4; have l4 := hSw.cell v4 hne4
    go_simp
    all_goals with_reducible rfl
   simp only [Act.put]
   refine tb 15 ?_ rfl (by kernel_rfl) (fun _ _ _ h => h) (by assumption) ?_ ?_
   rotate_left
   ·intro w hSw; have l0 := hSw.cell v0 hne4
    have l1 := hSw.cell v1 hne4; have l2 := hSw.cell v2 hne4; have l3 := hSw.cell v3 hne4; have l4 := hSw.cell v4 hne4
    go_simp
    all_goals with_reducible rfl
   simp only [Act.put]
   refine rr 16 (o := _) rfl (by kernel_rfl) (fun K hK => ?_)
   go_simp
   refine hK.out _ _ ((HO6.out.mono (fun i _ e9 => .inr e9)).trans (Only.set (F := fun i => i = k1.b ∨ InB k1.op i) w6 k1.b 1 _ (.inl rfl))) (fun hHeld => ?_)
   clear hK
   have hS6 : Only (· = k1.b) w6 (w6.setCell ⟨k1.b, 1, none⟩ (.slice p6 (N + m) c6)) := Only.set (F := (· = k1.b)) w6 k1.b 1 _ rfl
   have HC : Hid (ComA B w4 k1 (k1.out ++ rs2.drop d) hB #[.int .i64 e2, .int .i64 i2, .int .i64 (j : Int), .slice rp2 rn2 rc2, .slice vp2 vn2 vc2] (w6.setCell ⟨k1.b, 1, none⟩ (.slice p6 (N + m) c6))) := by
    refine hide ⟨p6, c6, ?_, ?_, (HO6.out.mono (fun i _ e9 => .inr e9)).trans (Only.set (F := fun i => i = k1.b ∨ InB k1.op i) w6 k1.b 1 _ (.inl rfl)), fun i hi => ?_, ?_⟩
    ·have h9 : (k1.out ++ rs2.drop d).length = N + m := by rw [List.length_append, HNN.out, List.length_drop, HRN2.out]; have := HMM.out; omega
     rw [h9]
     exact heap_set_sameL HB6.out 1 _
    ·have h9 : (k1.out ++ rs2.drop d).length = N + m := by rw [List.length_append, HNN.out, List.length_drop, HRN2.out]; have := HMM.out; omega
     rw [h9, List.flatMap_append]
     exact own_type HW6.out hS6 HB6.out (by decide)
    ·rcases HWH.out with h9 | h9
     ·exact .inl (InB.of (h9 ▸ InB.to hi))
     ·have h8 := InB.to (n := N + m) (c := c6) hi
      rw [h9] at h8
      simp only [Option.some.injEq] at h8
      exact .inr (by rw [← h8]; exact Nat.le_refl _)
    ·exact hS6.obj (HO6.out.obj HH4.out (fun e9 => hne4 (.inr e9))) (fun e9 => hne4 (.inl e9))
   clear hS6
   refine wpAnyH_done (by kernel_rfl) ?_ _
   go_wp2_with fail
   go_meet
   case rel => exact HC
  ·
   go_simp
   refine HLEN.out.mono ?_
   rintro _ _ ⟨rfl, rfl⟩
   go_wp2_with fail
   refine hK.out _ _ hHeld (fun hHeld => ?_)
   clear hK
   refine tb 11 ?_ rfl (by kernel_rfl) (fun _ _ _ h => h) (by assumption) ?_ ?_
   rotate_left
   ·intro w hSw; have l0 := hSw.cell v0 hne4
    have l1 := hSw.cell v1 hne4; have l2 := hSw.cell v2 hne4; have l3 := hSw.cell v3 hne4; have l4 := hSw.cell v4 hne4
    go_simp
    all_goals with_reducible rfl
   simp only [Act.put]
   refine tb 12 ?_ rfl (by kernel_rfl) (fun _ _ _ h => h) (by assumption) ?_ ?_
   rotate_left
   ·intro w hSw; have l0 := hSw.cell v0 hne4
    have l1 := hSw.cell v1 hne4; have l2 := hSw.cell v2 hne4; have l3 := hSw.cell v3 hne4; have l4 := hSw.cell v4 hne4
    go_simp
    all_goals with_reducible rfl
   simp only [Act.put]
   refine rr 4 (o := _) rfl (by kernel_rfl) (fun K hK => ?_)
   go_simp
   refine hK.out _ _ hHeld (fun hHeld => ?_)
   clear hK
   refine rr 13 (o := _) rfl (by kernel_rfl) (fun K hK => ?_)
   refine step_append_where rfl (.tmp 41) (.tmp 49) 31 rfl B 49 i0 (.agg #[.int .i64 0, .int .i64 0]) 2 16 Try.underlying31 hI0 hz0 hz1 hz2 rfl (by decide) (.slice k1.op N k1.oc) N _ (by simp [Act.eval]) HOWN.out (.slice A m (rc2 - d)) m ((rs2.drop d).flatMap RC.cells) (by simp [Act.eval]) (HSG.out.below (Below.refl _ w4).drew) HK1.out HK2.out HBS.out ?_
   intro p6 c6 w6 hown6 hgr6 hwh6
   have hO6' : Only (InB k1.op) w4.drew w6 := Only.of_grown hgr6 (fun i e => InB.of e)
   have hO6 : Only (InB k1.op) w4 w6 := ⟨hO6'.os, hO6'.tape, hO6'.output, hO6'.size, hO6'.block⟩
   have HWH := hide hwh6; have HO6 := hide hO6; have HW6 := hide hown6; have hb6 := hO6.obj HI4.out.ps.box (fun e9 => row_box HI4.out.ps.out HI4.out.ps.box (by decide) k1.b e9 rfl); have y1 := cellB hb6 (i := 1) rfl; have z1 := frB hb6 (i := 1); have HB6 := hide hb6; clear hgr6 hown6 hO6 hO6' hb6 hwh6
   refine hK.out _ _ (HO6.out.mono (fun i _ e9 => .inr e9)) (fun hHeld => ?_)
   clear hK
   simp only [Act.put, List.setIfInBounds_toArray]
   refine tb 14 ?_ rfl (by kernel_rfl) (fun _ _ _ h => h) (by assumption) ?_ ?_
   rotate_left
   ·intro w hSw; have l0 := hSw.cell v0 hne4
    have l1 := hSw.cell v1 hne4; have l2 := hSw.cell v2 hne4; have l3 := hSw.cell v3 hne4; have l4 := hSw.cell v4 hne4
    go_simp
    all_goals with_reducible rfl
   simp only [Act.put]
   refine tb 15 ?_ rfl (by kernel_rfl) (fun _ _ _ h => h) (by assumption) ?_ ?_
   rotate_left
   ·intro w hSw; have l0 := hSw.cell v0 hne4
    have l1 := hSw.cell v1 hne4; have l2 := hSw.cell v2 hne4; have l3 := hSw.cell v3 hne4; have l4 := hSw.cell v4 hne4
    go_simp
    all_goals with_reducible rfl
   simp only [Act.put]
   refine rr 16 (o := _) rfl (by kernel_rfl) (fun K hK => ?_)
   go_simp
   refine hK.out _ _ ((HO6.out.mono (fun i _ e9 => .inr e9)).trans (Only.set (F := fun i => i = k1.b ∨ InB k1.op i) w6 k1.b 1 _ (.inl rfl))) (fun hHeld => ?_)
   clear hK
   have hS6 : Only (· = k1.b) w6 (w6.setCell ⟨k1.b, 1, none⟩ (.slice p6 (N + m) c6)) := Only.set (F := (· = k1.b)) w6 k1.b 1 _ rfl
   have HC : Hid (ComA B w4 k1 (k1.out ++ rs2.drop d) hB #[.int .i64 e2, .int .i64 i2, .int .i64 (j : Int), .slice rp2 rn2 rc2, .slice vp2 vn2 vc2] (w6.setCell ⟨k1.b, 1, none⟩ (.slice p6 (N + m) c6))) := by
    refine hide ⟨p6, c6, ?_, ?_, (HO6.out.mono (fun i _ e9 => .inr e9)).trans (Only.set (F := fun i => i = k1.b ∨ InB k1.op i) w6 k1.b 1 _ (.inl rfl)), fun i hi => ?_, ?_⟩
    ·have h9 : (k1.out ++ rs2.drop d).length = N + m := by rw [List.length_append, HNN.out, List.length_drop, HRN2.out]; have := HMM.out; omega
     rw [h9]
     exact heap_set_sameL HB6.out 1 _
    ·have h9 : (k1.out ++ rs2.drop d).length = N + m := by rw [List.length_append, HNN.out, List.length_drop, HRN2.out]; have := HMM.out; omega
     rw [h9, List.flatMap_append]
     exact own_type HW6.out hS6 HB6.out (by decide)
    ·rcases HWH.out with h9 | h9
     ·exact .inl (InB.of (h9 ▸ InB.to hi))
     ·have h8 := InB.to (n := N + m) (c := c6) hi
      rw [h9] at h8
      simp only [Option.some.injEq] at h8
      exact .inr (by rw [← h8]; exact Nat.le_refl _)
    ·exact hS6.obj (HO6.out.obj HH4.out (fun e9 => hne4 (.inr e9))) (fun e9 => hne4 (.inl e9))
   clear hS6
   refine wpAnyH_done (by kernel_rfl) ?_ _
   go_wp2_with fail
   go_meet
   case rel => exact HC
 case rest =>
  obtain ⟨p6, c6, hb6, hr6, ho6, hw6, hh6⟩ := hcut.out
  rename World => wd
  clear hcut qw qd0 qd1 qd2 qm c1 hle2 hne4 i0 hI0 hz0 hz1 hz2 HOWN HK1 HK2 HBS HSG HLEN HAA v0 v1 v2 v3 v4; have hps := HI4.out.ps; have HX4 := hide (hps.pre _ HXI.out); have HPOK := hide (put_ok (show okS k1.sk from hps.ok) (t := ht) (i := i) (by rw [HSK.out]; exact HFI0.out) (by have h9 := HDO.out; rw [← HRG.out] at h9; exact h9) (by rw [HSK.out]; exact HSU0.out))
  have hFn : ∀ {n c : Nat} {p : Option Addr} {xs : List Value} {B2 : Nat}, w4.ownsRow B2 2 1 (.slice p n c) n xs → ∀ i, InB p i → ¬ (i = k1.b ∨ InB k1.op i) := fun hrow i hi h9 => by
   rcases h9 with h9 | h9
   ·exact row_box hrow hps.box (by decide) i hi h9
   ·exact row_type hrow hps.out (by decide) i hi h9
  have hdl : d = k1.sk.out.length - ht.beg.toNat := by
   have h9 : ht.beg = (j : Int) := by rw [← HXT.out]
   have h8 : k1.sk.out.length = N := HNN.out
   rw [h9, h8]
   have := HDD.out
   omega
  have hrl : k1.out ++ rs2.drop d = (putC k1.sk ht i).out := by
   show _ = k1.sk.out ++ ht.rs.drop (k1.sk.out.length - ht.beg.toNat)
   rw [hdl, ← HXT.out]
   rfl
  obtain ⟨out2, hout2⟩ : ∃ o, k1.out ++ rs2.drop d = o := ⟨_, rfl⟩
  rw [hout2] at hb6 hr6 hrl
  have hcap : k1.sk.reg ≠ 0 := reg_ne hps.ok (List.mem_map.2 ⟨_, HXI.out, rfl⟩)
  have hP2 : PS B wd ⟨k1.b, k1.mb, p6, c6, k1.vp, k1.vc, k1.dp, k1.dc, k1.reg, out2, k1.vec, k1.done, k1.xs⟩ := by
   refine ⟨hb6, hps.map.only ho6 (fun h9 => by rcases h9 with h9 | h9; exact hps.map.box hps.box h9; exact row_map hps.out hps.map _ h9 rfl), hr6, ownsRow_only hps.vec ho6 (fun i hi => hFn hps.vec i (InB.of hi)), ownsRow_only hps.done ho6 (fun i hi => hFn hps.done i (InB.of hi)), fun x hx => ?_, ⟨hps.ap.1, fun x hx => ⟨fun i hi hj => ?_, (hps.ap.2 x hx).2⟩⟩, hps.ge, ?_⟩
   ·refine (hps.pre x hx).only ho6 (fun i hi h9 => ?_) (fun i hi => hFn (hps.pre x hx).v i hi)
    rcases h9 with h9 | h9
    ·exact row_box (hps.pre x hx).r hps.box (by decide) i hi h9
    ·exact (hps.ap.2 x hx).1 i hi h9
   ·rcases hw6 i hj with h9 | h9
    ·exact (hps.ap.2 x hx).1 i hi h9
    ·have := (row_ge (hps.pre x hx).r i hi).2; omega
   ·refine ⟨hps.ok.reg, ?_, hps.ok.parts, hps.ok.vec, hps.ok.done, hps.ok.room, hps.ok.pre, hps.ok.may, fun h0 => absurd h0 hcap⟩
    show out2.length ≤ 4096
    rw [hrl]
    exact HPOK.out.out
  have hkb : bB ≠ k1.b ∧ ¬ InB k1.op bB := ⟨fun e9 => HI4.out.nb.1 (.inl e9), fun e9 => HI4.out.nb.1 (.inr (.inr (.inl e9)))⟩
  have HKY := hide (ho6.obj HI4.out.box (fun h9 => by rcases h9 with h9 | h9; exact hkb.1 h9; exact hkb.2 h9))
  have HP2 := hide hP2; have HH6 := hide hh6; have HO6 := hide ho6; have HW6 := hide hw6; have HRL := hide hrl; have HX2 := hide ((hP2.pre _ HXI.out)); have u1 := cellB hb6 (i := 1) rfl; have u2 := cellB hb6 (i := 2) rfl; have z2 := frB hb6 (i := 2); have a4 := cellB hh6 (i := 4) rfl; have HB6 := hide hb6; clear hps hFn hdl hrl hcap hP2 hkb hb6 hr6 ho6 hw6 hh6
  go_upto_region 14 with fail
  obtain ⟨X, hX⟩ : ∃ X, X = wd.setCell ⟨k1.b, 2, none⟩ (.slice vp2 vn2 vc2) := ⟨_, rfl⟩
  rw [← hX]
  have ho7 : Only (· = k1.b) wd X := by rw [hX]; exact Only.set (F := (· = k1.b)) wd k1.b 2 _ rfl
  have hb7 : X.heap[k1.b]? = some (.cells #[.int .i64 k1.reg, .slice p6 out2.length c6, .slice vp2 vn2 vc2, .slice k1.dp k1.done.length k1.dc, .map (some k1.mb)] 63 (0, 0)) := by rw [hX]; exact heap_set_sameL HB6.out 2 _
  have hvl : vs2.length = k1.vec.length := by
   have h9 := HMY.out.1.2.2.2.2.2.1
   have h8 : (vs2.length : Int) = (k1.vec.length : Int) := h9
   omega
  have hp2 := HP2.out
  have hP3 : PS B X ⟨k1.b, k1.mb, p6, c6, vp2, vc2, k1.dp, k1.dc, k1.reg, out2, vs2, k1.done, k1.xs⟩ := by
   refine ⟨by rw [← HVN2.out] at hb7; exact hb7, hp2.map.only ho7 (fun h9 => hp2.map.box hp2.box h9), own_type hp2.out ho7 hp2.box (by decide), own_type HX2.out.v ho7 hp2.box (by decide), own_type hp2.done ho7 hp2.box (by decide), fun x hx => ⟨own_type (hp2.pre x hx).r ho7 hp2.box (by decide), own_type (hp2.pre x hx).v ho7 hp2.box (by decide)⟩, ⟨(hp2.ap.2 _ HXI.out).2, hp2.ap.2⟩, hp2.ge, ?_⟩
   have hk := hp2.ok
   refine ⟨hk.reg, hk.out, by show 1 ≤ vs2.length ∧ vs2.length ≤ 4; rw [hvl]; exact hk.parts, HMY.out.1.2.2.2.2.2.2, hk.done, hk.room, hk.pre, fun y hy => ?_, fun h0 => ?_⟩
   ·show mayC (vs2.length : Int) y ∧ _
    rw [hvl]
    exact hk.may y hy
   ·exact absurd h0 (show k1.reg ≠ 0 from reg_ne (s := k1.sk) HI4.out.ps.ok (List.mem_map.2 ⟨_, HXI.out, rfl⟩))
  have HP3 := hide hP3; have HK7 := hide (ho7.obj HKY.out (fun e9 => HI4.out.nb.1 (.inl e9)))
  have HO7 : Hid (Only (fun i => i = k1.b ∨ InB k1.op i) w4 X) := hide (HO6.out.trans (ho7.mono (fun i _ e9 => .inl e9)))
  clear hX ho7 hb7 hp2 hP3 u1 u2 z2 a4 HB6; have n1 := cellB HK7.out (i := 1) rfl; have n0 := cellB HK7.out (i := 0) rfl
  have hdo9 : decide (i ∈ k1.done) = false := by
   have h9 := HDO.out
   unfold doneC at h9
   have h8 := of_decide_eq_false h9
   exact decide_eq_false (fun h7 => h8 ⟨HRG.out.symm, h7⟩)
  have HDF := hide hdo9
  obtain ⟨P, hPP⟩ : ∃ P, posC k1.done i = P := ⟨_, rfl⟩
  have HPP := hide hPP; clear hdo9 hPP
  refine region_class (fun Y => Below X.heap.size X Y) (by kernel_rfl) (by kernel_rfl) (Below.refl _ X).drew ?_
  repeat
   first
    | (refine BigFrame.wpQuiet_skip (by rfl) ?_
       simp only [Act.put, List.setIfInBounds_toArray, List.set_cons_zero, List.set_cons_succ])
    | (refine BigFrame.wpQuiet_want (by rfl) (fun K hK => ?_)
       unfold Oper.quiet
       apply Exists.intro
       refine ⟨fun Y hX => ?_, hK _ ?_⟩
       · have l0 := cell_later hX n0
         have l1 := cell_later hX n1
         have m3 := (HP3.out.later hX).c3
         first
          | (go_simp; done)
          | (go_simp; exact rfl)
          | (go_simp
             first
             | (go_at_call 54; refine (bs_any (HP3.out.later hX).drow rfl HDN2.out (HP3.out.ok.done.1.imp (fun h => Int.le_of_lt h)) HPP.out HDF.out).mono ?_; rintro e w3 ⟨rfl, hb3⟩; exact ⟨rfl, hX.trans (hb3.mono hX.size)⟩)
            )
       clear hK K
       simp only [Act.put, List.setIfInBounds_toArray, List.set_cons_zero, List.set_cons_succ])
  refine wpQuiet_nil (fun Y hX => ?_)
  have HP4 := hide (HP3.out.later hX); have HK8 := hide (below_box hX HK7.out)
  have HO8 : Hid (Only (fun i => i = k1.b ∨ InB k1.op i) w4 Y) := hide (HO7.out.step (Only.fresh hX (fun _ => False)) (fun _ e9 => e9.elim))
  have HYS : Hid (w4.heap.size ≤ Y.heap.size) := hide HO8.out.size
  clear hX n0 n1 HP3 HK7 HO7; have c3 := HP4.out.c3; have n0 := cellB HK8.out (i := 0) rfl; have n1 := cellB HK8.out (i := 1) rfl
  obtain ⟨D, hD⟩ : ∃ D, k1.done.length = D := ⟨_, rfl⟩
  have HDD2 := hide hD
  have hne5 : ¬ (bB = k1.b ∨ InB k1.dp bB) := fun h9 => HI4.out.nb.1 (by rcases h9 with h9 | h9; exact .inl h9; exact .inr (.inr (.inr (.inr (.inl h9)))))
  simp only at c3
  rw [hD] at c3
  have hdrow := HP4.out.done
  simp only at hdrow
  rw [hD] at hdrow
  have HDR := hide hdrow; clear hdrow hD
  go_upto_region 15 with fail
  refine wp_region_held_drew (S := fun w9 => Only (fun i => i = k1.b ∨ InB k1.dp i) Y w9) (by kernel_rfl) ((Only.refl _ Y).drew) (fun hHeld => ?_)
  refine tb 0 ?_ rfl (by kernel_rfl) (fun _ _ _ h => h) (by assumption) ?_ ?_
  rotate_left
  ·intro w hSw; have l0 := hSw.cell n0 hne5
   have l1 := hSw.cell n1 hne5
   go_simp
   all_goals with_reducible rfl
  simp only [Act.put]
  refine tb 1 ?_ rfl (by kernel_rfl) (fun _ _ _ h => h) (by assumption) ?_ ?_
  rotate_left
  ·intro w hSw; have l0 := hSw.cell n0 hne5
   have l1 := hSw.cell n1 hne5
   go_simp
   all_goals with_reducible rfl
  simp only [Act.put]
  refine tb 2 ?_ rfl (by kernel_rfl) (fun _ _ _ h => h) (by assumption) ?_ ?_
  rotate_left
  ·intro w hSw; have l0 := hSw.cell n0 hne5
   have l1 := hSw.cell n1 hne5
   go_simp
   all_goals with_reducible rfl
  simp only [Act.put]
  refine tb 3 ?_ rfl (by kernel_rfl) (fun _ _ _ h => h) (by assumption) ?_ ?_
  rotate_left
  ·intro w hSw; have l0 := hSw.cell n0 hne5
   have l1 := hSw.cell n1 hne5
   go_simp
   all_goals with_reducible rfl
  simp only [Act.put]
  refine tb 5 ?_ rfl (by kernel_rfl) (fun _ _ _ h => h) (by assumption) ?_ ?_
  rotate_left
  ·intro w hSw; have l0 := hSw.cell n0 hne5
   have l1 := hSw.cell n1 hne5
   go_simp
   all_goals with_reducible rfl
  simp only [Act.put]
  refine tb 6 ?_ rfl (by kernel_rfl) (fun _ _ _ h => h) (by assumption) ?_ ?_
  rotate_left
  ·intro w hSw; have l0 := hSw.cell n0 hne5
   have l1 := hSw.cell n1 hne5
   go_simp
   all_goals with_reducible rfl
  simp only [Act.put]
  refine tb 7 ?_ rfl (by kernel_rfl) (fun _ _ _ h => h) (by assumption) ?_ ?_
  rotate_left
  ·intro w hSw; have l0 := hSw.cell n0 hne5
   have l1 := hSw.cell n1 hne5
   go_simp
   all_goals with_reducible rfl
  simp only [Act.put]
  refine wpAnyH_ready (rs := [4, 8]) (by kernel_rfl) (by simp) ?_
  refine AllReadyH.cons (o := _) rfl (fun K hK => ?_) (AllReadyH.cons (o := _) rfl (fun K hK => ?_) AllReadyH.nil)
  ·
   go_simp
   refine hK.out _ _ hHeld (fun hHeld => ?_)
   clear hK
   refine rr 8 (o := _) rfl (by kernel_rfl) (fun K hK => ?_)
   go_simp
   refine hK.out _ _ (by refine hHeld.trans ?_; exact (Only.alloc _ _ _)) (fun hHeld => ?_)
   clear hK
   obtain ⟨Z, hZ⟩ : ∃ Z, Z = Y.alloc (.cells #[.int .i64 i] 2 (0, 0)) := ⟨_, rfl⟩
   have bZ : Below Y.heap.size Y Z := by rw [hZ]; exact alloc_below _ _
   obtain ⟨vB, hvB⟩ : ∃ vB, Y.heap.size = vB := ⟨_, rfl⟩
   have HVX : Hid (Z.heap[vB]? = some (.cells #[.int .i64 i] 2 (0, 0))) := hide (by rw [← hvB, hZ]; exact heap_alloc_new Y _)
   have HBZ := hide bZ; have c3z := cell_later bZ c3
   have HVB : Hid (Y.heap.size = vB) := hide hvB
   rw [← hZ] at hHeld
   rw [← hZ]
   try rw [hvB]
   clear hZ bZ hvB
   refine rr 9 (o := _) rfl (by kernel_rfl) (fun K hK => ?_)
   go_simp
   refine (insert_any (W := Z.drew) (base := B) (vb := vB) (i := P) (ownsRow_later HDR.out (HBZ.out.trans ((Below.refl _ Z).drew.mono HBZ.out.size))) HDD2.out HVX.out (fun a ha e9 => by
     have h9 := (row_ge HDR.out a.block ⟨a, ha, rfl⟩).2
     have := HVB.out
     omega) (by rw [← HPP.out, ← HDD2.out]; exact posC_le _ _) (by have := HDN1.out; have := HDD2.out; omega) (by have := HP4.out.lt (.inl rfl); have := HBZ.out.size; show B ≤ Z.heap.size; omega)).mono ?_
   intro e9 w9 hin
   obtain ⟨p9, c9, rfl, r9, o9, k9⟩ := hin
   have hO9 : Only (InP k1.dp) Z w9 := ⟨o9.os, o9.tape, o9.output, o9.size, o9.block⟩
   have hb9 := hO9.obj (below_box HBZ.out HP4.out.box) (fun e8 => row_box HP4.out.done HP4.out.box (by decide) k1.b e8 rfl); have HB9 := hide hb9; have y3 := cellB hb9 (i := 3) rfl; have f3 := frB hb9 (i := 3); have HR9 := hide r9; have HO9 := hide hO9
   have HK9 : Hid (∀ a, p9 = some a → InP k1.dp a.block ∨ Z.heap.size ≤ a.block) := hide k9
   clear r9 o9 k9 hO9 hb9
   go_wp2_with fail
   refine hK.out _ _ ((Only.fresh HBZ.out _).trans (HO9.out.mono (fun i _ e8 => .inr e8))) (fun hHeld => ?_)
   clear hK
   refine tb 10 ?_ rfl (by kernel_rfl) (fun _ _ _ h => h) (by assumption) ?_ ?_
   rotate_left
   ·intro w hSw; have l0 := hSw.cell n0 hne5
    have l1 := hSw.cell n1 hne5
    go_simp
    all_goals with_reducible rfl
   simp only [Act.put]
   refine tb 11 ?_ rfl (by kernel_rfl) (fun _ _ _ h => h) (by assumption) ?_ ?_
   rotate_left
   ·intro w hSw; have l0 := hSw.cell n0 hne5
    have l1 := hSw.cell n1 hne5
    go_simp
    all_goals with_reducible rfl
   simp only [Act.put]
   refine rr 12 (o := _) rfl (by kernel_rfl) (fun K hK => ?_)
   go_simp
   refine hK.out _ _ (((Only.fresh HBZ.out _).trans (HO9.out.mono (fun i _ e8 => .inr e8))).trans (Only.set (F := fun i => i = k1.b ∨ InB k1.dp i) w9 k1.b 3 _ (.inl rfl))) (fun hHeld => ?_)
   clear hK
   refine wpAnyH_done (by kernel_rfl) ?_ _
   clear hHeld
   obtain ⟨Q, hQ⟩ : ∃ Q, Q = w9.setCell ⟨k1.b, 3, none⟩ (.slice p9 (D + 1) c9) := ⟨_, rfl⟩
   rw [← hQ]
   have hS : Only (· = k1.b) w9 Q := by rw [hQ]; exact Only.set (F := (· = k1.b)) w9 k1.b 3 _ rfl
   have hbq : Q.heap[k1.b]? = some (.cells #[.int .i64 k1.reg, .slice p6 out2.length c6, .slice vp2 vs2.length vc2, .slice p9 (D + 1) c9, .map (some k1.mb)] 63 (0, 0)) := by rw [hQ]; exact heap_set_sameL HB9.out 3 _
   have HOQ : Hid (Only (fun i => i = k1.b ∨ InB k1.dp i) Y Q) := hide (((Only.fresh HBZ.out _).trans (HO9.out.mono (fun i _ e8 => .inr e8))).trans (hS.mono (fun i _ e8 => .inl e8)))
   have HRQ := hide (own_type HR9.out hS HB9.out (by decide)); have HBQ := hide hbq; have HKQ := hide (HOQ.out.obj HK8.out hne5)
   have hmq := HP4.out.map.only HOQ.out (fun h9 => by rcases h9 with h9 | h9; exact HP4.out.map.box HP4.out.box h9; exact row_map HP4.out.done HP4.out.map _ h9 rfl)
   have hm4 : Q.cell? ⟨k1.b, 4, none⟩ = some (.map (some k1.mb)) := cellB hbq rfl
   have m0 := cellB HKQ.out (i := 0) rfl; have m1 := cellB HKQ.out (i := 1) rfl
   have hne1 : k1.b ≠ k1.mb := fun e9 => hmq.box hbq e9.symm
   have hne2 : bB ≠ k1.mb := fun e9 => HI4.out.nb.1 (.inr (.inl e9))
   have HMQ := hide hmq; clear hQ hS hbq n0 n1 c3 y3 f3 hmq c3z
   go_upto_region 16 with fail
   obtain ⟨w8, hdl, hm8, ho8⟩ := (HMQ.out.later (Below.refl _ Q).drew).drop HP4.out.named HRG.out.symm HPE.out.1 HPE.out.2.1 0
   simp only [keyV] at hdl
   have HM8 := hide hm8
   have HO8' : Hid (Only (· = k1.mb) Q w8) := hide ⟨ho8.os, ho8.tape, ho8.output, ho8.size, ho8.block⟩
   clear hm8 ho8
   refine wp_region_held_drew (S := fun w9 => Only (· = k1.mb) Q w9) (by kernel_rfl) ((Only.refl _ Q).drew) (fun hHeld => ?_)
   refine tb 0 ?_ rfl (by kernel_rfl) (fun _ _ _ h => h) (by assumption) ?_ ?_
   rotate_left
   ·intro w hSw; have l4 := hSw.cell hm4 hne1
    have l0 := hSw.cell m0 hne2; have l1 := hSw.cell m1 hne2
    go_simp
    all_goals with_reducible rfl
   simp only [Act.put]
   refine tb 1 ?_ rfl (by kernel_rfl) (fun _ _ _ h => h) (by assumption) ?_ ?_
   rotate_left
   ·intro w hSw; have l4 := hSw.cell hm4 hne1
    have l0 := hSw.cell m0 hne2; have l1 := hSw.cell m1 hne2
    go_simp
    all_goals with_reducible rfl
   simp only [Act.put]
   refine tb 2 ?_ rfl (by kernel_rfl) (fun _ _ _ h => h) (by assumption) ?_ ?_
   rotate_left
   ·intro w hSw; have l4 := hSw.cell hm4 hne1
    have l0 := hSw.cell m0 hne2; have l1 := hSw.cell m1 hne2
    go_simp
    all_goals with_reducible rfl
   simp only [Act.put]
   refine tb 3 ?_ rfl (by kernel_rfl) (fun _ _ _ h => h) (by assumption) ?_ ?_
   rotate_left
   ·intro w hSw; have l4 := hSw.cell hm4 hne1
    have l0 := hSw.cell m0 hne2; have l1 := hSw.cell m1 hne2
    go_simp
    all_goals with_reducible rfl
   simp only [Act.put]
   refine tb 4 ?_ rfl (by kernel_rfl) (fun _ _ _ h => h) (by assumption) ?_ ?_
   rotate_left
   ·intro w hSw; have l4 := hSw.cell hm4 hne1
    have l0 := hSw.cell m0 hne2; have l1 := hSw.cell m1 hne2
    go_simp
    all_goals with_reducible rfl
   simp only [Act.put]
   refine rr 5 (o := _) rfl (by kernel_rfl) (fun K hK => ?_)
   go_simp
   refine hK.out _ _ HO8'.out (fun hHeld => ?_)
   clear hK
   refine wpAnyH_done (by kernel_rfl) ?_ _
   go_wp2
   go_ret
   refine ⟨rfl, ?_⟩
   exact com_end HI4.out HP4.out HPOK.out HO8.out HOQ.out HO8'.out HMQ.out HBQ.out HRQ.out HM8.out (fun a ha => (HK9.out a ha).imp (fun h9 => h9) (fun h9 => by have := HBZ.out.size; omega)) HW6.out HXI.out HSK.out HXT.out HRL.out HPP.out HDD2.out
  ·
   go_simp
   refine hK.out _ _ (by refine hHeld.trans ?_; exact (Only.alloc _ _ _)) (fun hHeld => ?_)
   clear hK
   obtain ⟨Z, hZ⟩ : ∃ Z, Z = Y.alloc (.cells #[.int .i64 i] 2 (0, 0)) := ⟨_, rfl⟩
   have bZ : Below Y.heap.size Y Z := by rw [hZ]; exact alloc_below _ _
   obtain ⟨vB, hvB⟩ : ∃ vB, Y.heap.size = vB := ⟨_, rfl⟩
   have HVX : Hid (Z.heap[vB]? = some (.cells #[.int .i64 i] 2 (0, 0))) := hide (by rw [← hvB, hZ]; exact heap_alloc_new Y _)
   have HBZ := hide bZ; have c3z := cell_later bZ c3
   have HVB : Hid (Y.heap.size = vB) := hide hvB
   rw [← hZ] at hHeld
   rw [← hZ]
   try rw [hvB]
   clear hZ bZ hvB
   refine rr 4 (o := _) rfl (by kernel_rfl) (fun K hK => ?_)
   go_simp
   refine hK.out _ _ hHeld (fun hHeld => ?_)
   clear hK
   refine rr 9 (o := _) rfl (by kernel_rfl) (fun K hK => ?_)
   go_simp
   refine (insert_any (W := Z.drew) (base := B) (vb := vB) (i := P) (ownsRow_later HDR.out (HBZ.out.trans ((Below.refl _ Z).drew.mono HBZ.out.size))) HDD2.out HVX.out (fun a ha e9 => by
     have h9 := (row_ge HDR.out a.block ⟨a, ha, rfl⟩).2
     have := HVB.out
     omega) (by rw [← HPP.out, ← HDD2.out]; exact posC_le _ _) (by have := HDN1.out; have := HDD2.out; omega) (by have := HP4.out.lt (.inl rfl); have := HBZ.out.size; show B ≤ Z.heap.size; omega)).mono ?_
   intro e9 w9 hin
   obtain ⟨p9, c9, rfl, r9, o9, k9⟩ := hin
   have hO9 : Only (InP k1.dp) Z w9 := ⟨o9.os, o9.tape, o9.output, o9.size, o9.block⟩
   have hb9 := hO9.obj (below_box HBZ.out HP4.out.box) (fun e8 => row_box HP4.out.done HP4.out.box (by decide) k1.b e8 rfl); have HB9 := hide hb9; have y3 := cellB hb9 (i := 3) rfl; have f3 := frB hb9 (i := 3); have HR9 := hide r9; have HO9 := hide hO9
   have HK9 : Hid (∀ a, p9 = some a → InP k1.dp a.block ∨ Z.heap.size ≤ a.block) := hide k9
   clear r9 o9 k9 hO9 hb9
   go_wp2_with fail
   refine hK.out _ _ ((Only.fresh HBZ.out _).trans (HO9.out.mono (fun i _ e8 => .inr e8))) (fun hHeld => ?_)
   clear hK
   refine tb 10 ?_ rfl (by kernel_rfl) (fun _ _ _ h => h) (by assumption) ?_ ?_
   rotate_left
   ·intro w hSw; have l0 := hSw.cell n0 hne5
    have l1 := hSw.cell n1 hne5
    go_simp
    all_goals with_reducible rfl
   simp only [Act.put]
   refine tb 11 ?_ rfl (by kernel_rfl) (fun _ _ _ h => h) (by assumption) ?_ ?_
   rotate_left
   ·intro w hSw; have l0 := hSw.cell n0 hne5
    have l1 := hSw.cell n1 hne5
    go_simp
    all_goals with_reducible rfl
   simp only [Act.put]
   refine rr 12 (o := _) rfl (by kernel_rfl) (fun K hK => ?_)
   go_simp
   refine hK.out _ _ (((Only.fresh HBZ.out _).trans (HO9.out.mono (fun i _ e8 => .inr e8))).trans (Only.set (F := fun i => i = k1.b ∨ InB k1.dp i) w9 k1.b 3 _ (.inl rfl))) (fun hHeld => ?_)
   clear hK
   refine wpAnyH_done (by kernel_rfl) ?_ _
   clear hHeld
   obtain ⟨Q, hQ⟩ : ∃ Q, Q = w9.setCell ⟨k1.b, 3, none⟩ (.slice p9 (D + 1) c9) := ⟨_, rfl⟩
   rw [← hQ]
   have hS : Only (· = k1.b) w9 Q := by rw [hQ]; exact Only.set (F := (· = k1.b)) w9 k1.b 3 _ rfl
   have hbq : Q.heap[k1.b]? = some (.cells #[.int .i64 k1.reg, .slice p6 out2.length c6, .slice vp2 vs2.length vc2, .slice p9 (D + 1) c9, .map (some k1.mb)] 63 (0, 0)) := by rw [hQ]; exact heap_set_sameL HB9.out 3 _
   have HOQ : Hid (Only (fun i => i = k1.b ∨ InB k1.dp i) Y Q) := hide (((Only.fresh HBZ.out _).trans (HO9.out.mono (fun i _ e8 => .inr e8))).trans (hS.mono (fun i _ e8 => .inl e8)))
   have HRQ := hide (own_type HR9.out hS HB9.out (by decide)); have HBQ := hide hbq; have HKQ := hide (HOQ.out.obj HK8.out hne5)
   have hmq := HP4.out.map.only HOQ.out (fun h9 => by rcases h9 with h9 | h9; exact HP4.out.map.box HP4.out.box h9; exact row_map HP4.out.done HP4.out.map _ h9 rfl)
   have hm4 : Q.cell? ⟨k1.b, 4, none⟩ = some (.map (some k1.mb)) := cellB hbq rfl
   have m0 := cellB HKQ.out (i := 0) rfl; have m1 := cellB HKQ.out (i := 1) rfl
   have hne1 : k1.b ≠ k1.mb := fun e9 => hmq.box hbq e9.symm
   have hne2 : bB ≠ k1.mb := fun e9 => HI4.out.nb.1 (.inr (.inl e9))
   have HMQ := hide hmq; clear hQ hS hbq n0 n1 c3 y3 f3 hmq c3z
   go_upto_region 16 with fail
   obtain ⟨w8, hdl, hm8, ho8⟩ := (HMQ.out.later (Below.refl _ Q).drew).drop HP4.out.named HRG.out.symm HPE.out.1 HPE.out.2.1 0
   simp only [keyV] at hdl
   have HM8 := hide hm8
   have HO8' : Hid (Only (· = k1.mb) Q w8) := hide ⟨ho8.os, ho8.tape, ho8.output, ho8.size, ho8.block⟩
   clear hm8 ho8
   refine wp_region_held_drew (S := fun w9 => Only (· = k1.mb) Q w9) (by kernel_rfl) ((Only.refl _ Q).drew) (fun hHeld => ?_)
   refine tb 0 ?_ rfl (by kernel_rfl) (fun _ _ _ h => h) (by assumption) ?_ ?_
   rotate_left
   ·intro w hSw; have l4 := hSw.cell hm4 hne1
    have l0 := hSw.cell m0 hne2; have l1 := hSw.cell m1 hne2
    go_simp
    all_goals with_reducible rfl
   simp only [Act.put]
   refine tb 1 ?_ rfl (by kernel_rfl) (fun _ _ _ h => h) (by assumption) ?_ ?_
   rotate_left
   ·intro w hSw; have l4 := hSw.cell hm4 hne1
    have l0 := hSw.cell m0 hne2; have l1 := hSw.cell m1 hne2
    go_simp
    all_goals with_reducible rfl
   simp only [Act.put]
   refine tb 2 ?_ rfl (by kernel_rfl) (fun _ _ _ h => h) (by assumption) ?_ ?_
   rotate_left
   ·intro w hSw; have l4 := hSw.cell hm4 hne1
    have l0 := hSw.cell m0 hne2; have l1 := hSw.cell m1 hne2
    go_simp
    all_goals with_reducible rfl
   simp only [Act.put]
   refine tb 3 ?_ rfl (by kernel_rfl) (fun _ _ _ h => h) (by assumption) ?_ ?_
   rotate_left
   ·intro w hSw; have l4 := hSw.cell hm4 hne1
    have l0 := hSw.cell m0 hne2; have l1 := hSw.cell m1 hne2
    go_simp
    all_goals with_reducible rfl
   simp only [Act.put]
   refine tb 4 ?_ rfl (by kernel_rfl) (fun _ _ _ h => h) (by assumption) ?_ ?_
   rotate_left
   ·intro w hSw; have l4 := hSw.cell hm4 hne1
    have l0 := hSw.cell m0 hne2; have l1 := hSw.cell m1 hne2
    go_simp
    all_goals with_reducible rfl
   simp only [Act.put]
   refine rr 5 (o := _) rfl (by kernel_rfl) (fun K hK => ?_)
   go_simp
   refine hK.out _ _ HO8'.out (fun hHeld => ?_)
   clear hK
   refine wpAnyH_done (by kernel_rfl) ?_ _
   go_wp2
   go_ret
   refine ⟨rfl, ?_⟩
   exact com_end HI4.out HP4.out HPOK.out HO8.out HOQ.out HO8'.out HMQ.out HBQ.out HRQ.out HM8.out (fun a ha => (HK9.out a ha).imp (fun h9 => h9) (fun h9 => by have := HBZ.out.size; omega)) HW6.out HXI.out HSK.out HXT.out HRL.out HPP.out HDD2.out
theorem comC_done {s : SK} {e i : Int} (h : doneC s e i = true) : comE1 s e i = 0 ∧ comS1 s e i = s := by unfold comE1 comS1; simp [h]
theorem comC_none {s : SK} {e i : Int} (h : doneC s e i = false) (hf : findC s i = none) : comE1 s e i = 4 ∧ comS1 s e i = s := by unfold comE1 comS1; simp [h, hf]
theorem comC_unfit {s : SK} {e i : Int} {t : TX} (h : doneC s e i = false) (hf : findC s i = some t) (hs : ¬ suitC s t = 0) : comE1 s e i = suitC s t ∧ comS1 s e i = s := by unfold comE1 comS1; simp [h, hf, hs]
theorem comC_put {s : SK} {e i : Int} {t : TX} (h : doneC s e i = false) (hf : findC s i = some t) (hs : suitC s t = 0) : comE1 s e i = 0 ∧ comS1 s e i = putC s t i := by unfold comE1 comS1; simp [h, hf, hs]
theorem aboC_done {s : SK} {e i : Int} (h : doneC s e i = true) : aboE1 s e i = 5 ∧ aboS1 s e i = s := by unfold aboE1 aboS1; simp [h]
theorem aboC_del {s : SK} {e i : Int} (h : doneC s e i = false) : aboE1 s e i = 0 ∧ aboS1 s e i = ⟨s.reg, s.out, s.vec, s.done, delT i s.pre⟩ := by unfold aboE1 aboS1; simp [h]
theorem commit_any {B : Nat} {W : World} {k : PK} {e i : Int} (h : PS B W k) (hdn : k.done.length < 17592186044416) :
  Calls Try.prog 21 #[.pointer (some ⟨k.b, 0, none⟩), .agg #[.int .i64 e, .int .i64 i]] W fun r w' => r = .returned (.int .i64 (comE k.sk e i)) ∧ Put B W k (comS k.sk e i) w' := by
 by_cases hp : posI e ∧ posI i
 ·by_cases hf : e < k.reg
  ·have e1 : comE k.sk e i = 150 := by unfold comE; rw [if_pos hp, if_pos (show e < k.sk.reg from hf)]
   have e2 : comS k.sk e i = k.sk := by unfold comS; rw [if_pos hp, if_pos (show e < k.sk.reg from hf)]
   rw [e1, e2]
   exact commit_err h hdn (q := 150) (by unfold nameE; rw [if_pos hp]; exact if_pos hf) (by unfold nameS; rw [if_pos hp]; exact if_neg (by show ¬ k.reg < e; omega)) (by decide)
  ·have e1 : comE k.sk e i = comE1 (raisC k.sk e) e i := by unfold comE; rw [if_pos hp, if_neg (show ¬ e < k.sk.reg from hf)]
   have e2 : comS k.sk e i = comS1 (raisC k.sk e) e i := by unfold comS; rw [if_pos hp, if_neg (show ¬ e < k.sk.reg from hf)]
   rw [e1, e2]
   obtain ⟨s1, hs1⟩ : ∃ s1, raisC k.sk e = s1 := ⟨_, rfl⟩
   rw [hs1]
   have hne : nameE k.sk e i = 0 := by unfold nameE; rw [if_pos hp]; exact if_neg hf
   have hns : nameS k.sk e i = s1 := by unfold nameS; rw [if_pos hp, hs1]
   have hpe : posI e ∧ posI i ∧ ¬ e < k.reg := ⟨hp.1, hp.2, hf⟩
   cases hdo : doneC s1 e i
   ·cases hfi : findC s1 i with
    | some ht =>
     by_cases hsu : suitC s1 ht = 0
     ·obtain ⟨q1, q2⟩ := comC_put hdo hfi hsu
      rw [q1, q2]
      exact commit_put h hdn hne hns hpe hdo hfi hsu
     ·obtain ⟨q1, q2⟩ := comC_unfit hdo hfi hsu
      rw [q1, q2]
      exact commit_unfit h hdn hne hns hpe hdo hfi rfl hsu
    | none =>
     obtain ⟨q1, q2⟩ := comC_none hdo hfi
     rw [q1, q2]
     exact commit_none h hdn hne hns hpe hdo hfi
   ·obtain ⟨q1, q2⟩ := comC_done hdo
    rw [q1, q2]
    exact commit_done h hdn hne hns hpe hdo
 ·have e1 : comE k.sk e i = 1 := by unfold comE; rw [if_neg hp]
  have e2 : comS k.sk e i = k.sk := by unfold comS; rw [if_neg hp]
  rw [e1, e2]
  exact commit_err h hdn (q := 1) (by unfold nameE; rw [if_neg hp]) (by unfold nameS; rw [if_neg hp]) (by decide)
theorem abort_any {B : Nat} {W : World} {k : PK} {e i : Int} (h : PS B W k) (hdn : k.done.length < 17592186044416) :
  Calls Try.prog 23 #[.pointer (some ⟨k.b, 0, none⟩), .agg #[.int .i64 e, .int .i64 i]] W fun r w' => r = .returned (.int .i64 (aboE k.sk e i)) ∧ Put B W k (aboS k.sk e i) w' := by
 by_cases hp : posI e ∧ posI i
 ·by_cases hf : e < k.reg
  ·have e1 : aboE k.sk e i = 150 := by unfold aboE; rw [if_pos hp, if_pos (show e < k.sk.reg from hf)]
   have e2 : aboS k.sk e i = k.sk := by unfold aboS; rw [if_pos hp, if_pos (show e < k.sk.reg from hf)]
   rw [e1, e2]
   exact abort_err h hdn (q := 150) (by unfold nameE; rw [if_pos hp]; exact if_pos hf) (by unfold nameS; rw [if_pos hp]; exact if_neg (by show ¬ k.reg < e; omega)) (by decide)
  ·have e1 : aboE k.sk e i = aboE1 (raisC k.sk e) e i := by unfold aboE; rw [if_pos hp, if_neg (show ¬ e < k.sk.reg from hf)]
   have e2 : aboS k.sk e i = aboS1 (raisC k.sk e) e i := by unfold aboS; rw [if_pos hp, if_neg (show ¬ e < k.sk.reg from hf)]
   rw [e1, e2]
   obtain ⟨s1, hs1⟩ : ∃ s1, raisC k.sk e = s1 := ⟨_, rfl⟩
   rw [hs1]
   have hne : nameE k.sk e i = 0 := by unfold nameE; rw [if_pos hp]; exact if_neg hf
   have hns : nameS k.sk e i = s1 := by unfold nameS; rw [if_pos hp, hs1]
   have hpe : posI e ∧ posI i ∧ ¬ e < k.reg := ⟨hp.1, hp.2, hf⟩
   cases hdo : doneC s1 e i
   ·obtain ⟨q1, q2⟩ := aboC_del hdo
    rw [q1, q2]
    exact abort_del h hdn hne hns hpe hdo
   ·obtain ⟨q1, q2⟩ := aboC_done hdo
    rw [q1, q2]
    exact abort_done h hdn hne hns hpe hdo
 ·have e1 : aboE k.sk e i = 1 := by unfold aboE; rw [if_neg hp]
  have e2 : aboS k.sk e i = k.sk := by unfold aboS; rw [if_neg hp]
  rw [e1, e2]
  exact abort_err h hdn (q := 1) (by unfold nameE; rw [if_neg hp]) (by unfold nameS; rw [if_neg hp]) (by decide)
end Go.Proofs.Ytboofnkajjnmeaa
