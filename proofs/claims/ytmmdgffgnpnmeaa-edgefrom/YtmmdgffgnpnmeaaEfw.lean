/-
  EdgeFrom: which events a queue is made of, and that it goes on as one to which they came. No condition.
-/
import Derived.Test.YtmmdgffgnpnmeaaEfr
namespace Go.Proofs.Ytmmdgffgnpnmeaa
open Go.RowKit Go.Shelf

theorem rq_base {B B' : Nat} {W : World} {b : Nat} {p : Option Addr} {c : Nat} {q : QC} (h : RQ B' W b p c q) (hB : B ≤ B') : RQ B W b p c q := ⟨h.box, h.row, Nat.le_trans hB h.ge⟩
set_option maxRecDepth 100000 in
set_option maxHeartbeats 8000000 in
theorem from_walk {W : World} {rm : Int} {lp : Option Addr} {lc n : Nat} {es : List EV} {kd ky vl id : Int} (hrow : ERow W lp lc es) (hn : es.length = n) :
    Calls Try.prog 4 #[.int .i64 rm, .slice lp n lc, .agg #[.int .i64 kd, .int .i64 ky, .int .i64 vl, .int .i64 id]] W fun e w' => e = .returned (.bool true) ∧ Below W.heap.size W w' := by
  have HN := hide hn
  obtain ⟨V, hV⟩ : ∃ V, V = W.alloc (.cells #[.int .i64 kd, .int .i64 ky, .int .i64 vl, .int .i64 id] 34 (0, 0)) := ⟨_, rfl⟩
  have bV : Below W.heap.size W V := by rw [hV]; exact alloc_below _ _
  obtain ⟨sB, hsB⟩ : ∃ sB, W.heap.size = sB := ⟨_, rfl⟩
  obtain ⟨B, hB⟩ : ∃ B, V.heap.size = B := ⟨_, rfl⟩
  have hsb : sB + 1 = B := by rw [← hB, ← hsB, hV]; simp
  have u3 : V.heap[sB]? = some (.cells #[.int .i64 kd, .int .i64 ky, .int .i64 vl, .int .i64 id] 34 (0, 0)) := by rw [hV, ← hsB]; exact heap_alloc_new W _
  have HROW := hide (hrow.later bV)
  have HBE := hide hB
  have HFN : Hid (∀ X, Below B V X → Below W.heap.size W X) := hide (fun X hX => bV.trans (hX.mono (by omega)))
  have HUX : Hid (∀ X, Below B V X → X.heap[sB]? = some (.cells #[.int .i64 kd, .int .i64 ky, .int .i64 vl, .int .i64 id] 34 (0, 0))) := hide (fun X hX => (hX.block sB (by omega)).trans u3)
  obtain ⟨f, hf⟩ : ∃ f, fromC rm es = f := ⟨_, rfl⟩
  have HF := hide hf
  clear hrow hn bV u3 hf
  go_enter Try.func4, Try.ntmps4
  go_upto_region 1 with fail
  rw [← hV]
  try rw [hsB]
  clear hV hsB hB
  go_wp2_with fail
  refine live_any.mono ?_
  rintro _ w1 ⟨rfl, b1⟩
  have HR1 := hide (HROW.out.later b1)
  rw [HBE.out] at b1
  have HB1 := hide b1
  have hs1 : B ≤ w1.heap.size := by rw [← HBE.out]; exact HB1.out.size
  clear b1 HROW
  go_wp2_with fail
  refine (from_any HR1.out HN.out HF.out).mono ?_
  rintro e2 w2 ⟨b2, h2⟩
  have HR2 := hide (HR1.out.later b2)
  have HB2 := hide (Below.step HB1.out b2 hs1)
  have hs2 : w1.heap.size ≤ w2.heap.size := b2.size
  clear b2 HR1 HB1
  rcases h2 with ⟨hne, rfl⟩ | ⟨h0, b, p, c, rfl, Q2, hok⟩
  · have HNE := hide hne
    clear hne
    go_wp2_with fail
    refine (rfrom_any HR2.out HN.out HF.out).mono ?_
    rintro e3 w3 ⟨b3, h3⟩
    have HB3 := hide (Below.step HB2.out b3 (by omega))
    clear b3
    rcases h3 with ⟨_, rfl⟩ | ⟨h0, _⟩
    · obtain ⟨f1, f2⟩ := f
      simp only at HNE
      have q1 : (f1 == 0) = false := ne_eq HNE.out
      have q2 : (f1 != 0) = true := by simpa using HNE.out
      clear HNE HF HN HR2 HB2
      go_wp2
      go_ret
      exact ⟨rfl, HFN.out _ HB3.out⟩
    · exact absurd h0 HNE.out
  · have H0 := hide h0
    have HQ2 := hide Q2
    have HOK := hide hok
    clear h0 Q2 hok
    go_wp2_with fail
    refine (rfrom_any HR2.out HN.out HF.out).mono ?_
    rintro e3 w3 ⟨b3, h3⟩
    rcases h3 with ⟨hne, _⟩ | ⟨_, rb, rp, rc, rfl, Q3, _, hap⟩
    · exact absurd H0.out hne
    · have HT : Hid (Two B w3 b rb p rp c rc f.2 f.2) := by
        have hs3 := b3.size
        have hg := Q3.ge
        have hP : ∀ i, PQ.at b p i → i < w2.heap.size := fun i hi => (HQ2.out.ges hi).2
        refine hide ⟨(HQ2.out.later b3).base (by omega), rq_base Q3 (by omega), fun e => by have := hP _ e; omega, fun a e => ?_⟩
        obtain ⟨y1, y2, y3⟩ := hap a e
        exact ⟨y1, fun e' => by have := hP _ e'; omega, by omega, y3⟩
      have HB3 := hide (Below.step HB2.out b3 (by omega))
      clear b3 Q3 hap HQ2 HB2 HR2 HN HF H0
      obtain ⟨q, hq⟩ : ∃ q, f.2 = q := ⟨_, rfl⟩
      rw [hq] at HT HOK
      clear hq
      go_wp2_with fail
      refine (take_any HT.out.pq).mono ?_
      rintro _ w4 ⟨rfl, P4⟩
      obtain ⟨p4, c4, T4⟩ := HT.out.put P4
      have HT4 := hide T4
      have HB4 := hide (HB3.out.trans (P4.below HT.out.pq))
      clear P4 T4 HT HB3
      go_wp2_with fail
      refine (rtake_any HT4.out.rq HT4.out.hpb).mono ?_
      rintro _ w5 ⟨rfl, O5, rp5, rc5, Q5, hw5⟩
      have HT5 := hide (HT4.out.rtake O5 Q5 hw5)
      have HB5 := hide (HB4.out.trans (HT4.out.belowR O5))
      have HOK5 := hide (QC.rest_ok HOK.out)
      clear O5 Q5 hw5 HT4 HB4 HOK
      obtain ⟨er, her⟩ : ∃ er, q.rest.err ⟨kd, ky, vl, id⟩ = er := ⟨_, rfl⟩
      have HER := hide her
      clear her
      go_upto_region 11 with fail
      have B0 : Below w5.heap.size w5 w5.drew := (Below.refl _ w5).drew
      have HBD : Hid (Below B V w5.drew) := hide (Below.step HB5.out B0 HT5.out.size)
      obtain ⟨_, _, _, _, s0, s1, s2, s3⟩ := four (HUX.out _ HBD.out)
      have HS1 : Hid (∀ X, Below B V X → (X.cell? ⟨sB, 0, none⟩ = some (.int .i64 kd) ∧ X.cell? ⟨sB, 1, none⟩ = some (.int .i64 ky)) ∧ X.cell? ⟨sB, 2, none⟩ = some (.int .i64 vl) ∧ X.cell? ⟨sB, 3, none⟩ = some (.int .i64 id)) := hide (fun X hX => by
        obtain ⟨_, _, _, _, s0, s1, s2, s3⟩ := four (HUX.out _ hX)
        exact ⟨⟨s0, s1⟩, s2, s3⟩)
      go_region_held3 (fun w' => (w'.cell? ⟨sB, 0, none⟩ = some (.int .i64 kd) ∧ w'.cell? ⟨sB, 1, none⟩ = some (.int .i64 ky)) ∧ w'.cell? ⟨sB, 2, none⟩ = some (.int .i64 vl) ∧ w'.cell? ⟨sB, 3, none⟩ = some (.int .i64 id)) (go_keep)
        (first
          | (go_at_call 14; refine (same_any HT7.out.pq HT7.out.rq (QC.put_ok HOK5.out ⟨kd, ky, vl, id⟩)).mono ?_; rintro _ x8 ⟨rfl, b8⟩; have HB8 := hide (Below.step HB7.out b8 HT7.out.size); obtain ⟨⟨s0, s1⟩, s2, s3⟩ := HS1.out _ HB8.out)
          | (go_at_call 13; refine (rput_any HT6.out.rq HOK5.out HT6.out.hpb ⟨kd, ky, vl, id⟩).mono ?_; rw [HER.out]; rintro _ x7 ⟨rfl, P7⟩; obtain ⟨rp7, rc7, T7⟩ := HT6.out.rput P7; have HT7 := hide T7; have HB7 := hide (HB6.out.trans (HT6.out.belowR P7.only)); obtain ⟨⟨s0, s1⟩, s2, s3⟩ := HS1.out _ HB7.out; clear P7 T7)
          | (go_at_call 12; refine (put_any (HT5.out.later B0).pq HOK5.out ⟨kd, ky, vl, id⟩).mono ?_; rw [HER.out]; rintro _ x6 ⟨rfl, P6⟩; obtain ⟨p6, c6, T6⟩ := (HT5.out.later B0).put P6; have HT6 := hide T6; have HB6 := hide (HBD.out.trans (P6.below (HT5.out.later B0).pq)); obtain ⟨⟨s0, s1⟩, s2, s3⟩ := HS1.out _ HB6.out; clear P6 T6))
      go_wp2
      go_ret
      exact ⟨rfl, HFN.out _ HB8.out⟩
end Go.Proofs.Ytmmdgffgnpnmeaa
namespace Go.Proofs.Ytmmdgffgnpnmeaa.edgeFrom
open Go.RowKit Go.Shelf Go.Proofs.Ytmmdgffgnpnmeaa Go.ChangeShapes Go.WideShapes Go.ChangeAt

theorem walk {W : World} {rm : Int} {lp : Option Addr} {lc : Nat} {es : List EV} {kd ky vl id : Int} (_ : I6 rm) (hrow : ERow W lp lc es) (_ : ∀ e ∈ es, e.fine) (_ : es.length * 32 ≤ 140737488351232) (_ : EV.fine ⟨kd, ky, vl, id⟩) :
    Calls Try.prog 4 #[.int .i64 rm, .slice lp es.length lc, .agg #[.int .i64 kd, .int .i64 ky, .int .i64 vl, .int .i64 id]] W fun e w' => e = .returned (.bool true) ∧ Below W.heap.size W w' := from_walk hrow rfl
set_option maxRecDepth 100000 in
theorem contract (H : Type) (enc : TypeId × Value → H) (W : World) (base : Nat) (args : Array Value) (ds gs : List (DataW H)) (before : List MemPlace)
    (hval : ∀ (j : Nat) t v, Try.f4.params[j]? = some t → args[j]? = some v → Value.okWide Try.prog W .any base t v)
    (hW : DataW.Whole enc Try.prog Try.f4.params.toList Rows.edgeFromSpec.vars false W args.toList ds gs before) (hsz0 : (DataW.weightsEach Try.prog (Try.f4.params.toList ++ Rows.edgeFromSpec.plain.varTypes Try.prog) (ds ++ gs)).all (· ≤ reachBytes) = true) :
    Calls Try.prog 4 args W fun e W' => ∃ v, e = .returned v ∧ Rows.edgeFromSpec.post enc Try.prog Try.f4 false true false false W args v W' := by
  have hW' := hW
  obtain ⟨p, q, hA0, hV, rfl, hfz, hnd⟩ := hW
  have hA : DataW.TrodAll enc Try.prog W 0 (fun _ => true) true Try.f4.params.toList args.toList ds p := hA0
  rw [Try.params4] at hA hval hsz0
  obtain ⟨v0, vs0, d0, ds0, p0, q0, hargs, rfl, rfl, h0, r0⟩ := trodAll_cons hA
  obtain ⟨v1, vs1, d1, ds1, p1, q1, rfl, rfl, rfl, h1, r1⟩ := trodAll_cons r0
  obtain ⟨v2, vs2, d2, ds2, p2, q2, rfl, rfl, rfl, h2, r2⟩ := trodAll_cons r1
  obtain ⟨rfl, rfl, rfl⟩ := trodAll_nil r2
  obtain rfl : args = #[v0, v1, v2] := by cases args; simp_all
  obtain ⟨rfl, rfl⟩ := trodVars_none hV
  obtain ⟨a1, len1, cap1, rfl⟩ := okWide_slice Try.underlying44 (hval 1 44 v1 rfl rfl)
  obtain ⟨cs2, rfl, hcs2⟩ := okWide_struct Try.underlying34 (hval 2 34 v2 rfl rfl)
  rw [Try.cellsEv] at hcs2
  obtain ⟨n0, rfl, rfl, rfl, wi0⟩ := open_int Try.underlying3 (hval 0 3 v0 rfl rfl) h0
  have bd0 := bounds_i64 wi0
  have k1 := h1
  have lt1 : ∀ x ∈ p1, x.block < W.heap.size := by obtain ⟨m, hm⟩ := k1; exact DataW.trod_lt m _ _ _ hm
  obtain ⟨f1, hf1⟩ := h1
  have hcc1 : (Value.slice a1 len1 cap1).cells.toList = [.slice a1 len1 cap1] := by simp [Value.cells]
  rw [hcc1] at hf1
  obtain ⟨pp1, pc1, es1, ee1, R1, F1, B1, D1⟩ := arg_evs hf1
  simp only [Value.slice.injEq] at ee1
  obtain ⟨rfl, rfl, rfl⟩ := ee1
  have k2 := h2
  have lt2 : ∀ x ∈ p2, x.block < W.heap.size := by obtain ⟨m, hm⟩ := k2; exact DataW.trod_lt m _ _ _ hm
  obtain ⟨f2, hf2⟩ := h2
  have hcc2 : (Value.agg cs2).cells.toList = cs2.toList := by simp [Value.cells]
  rw [hcc2] at hf2
  obtain ⟨o2, oc2, F2, _⟩ := arg_ev _ _ _ (by simpa using hcs2) hf2
  obtain rfl : cs2 = (EV.cells o2).toArray := by rw [← oc2]
  obtain ⟨kd2, ky2, vl2, id2⟩ := o2
  have b1 : es1.length * 32 ≤ 140737488351232 := sized_len (bytes := 32) hsz0 (j := 1) rfl rfl Try.underlying44 (by kernel_rfl) D1
  clear hA0
  refine (walk ⟨bd0.1, by have := bd0.2; omega⟩ R1 F1 (by omega) F2).mono fun e W' ⟨he, bel⟩ => ?_
  subst he
  exact ⟨_, rfl, _, _, _, [], _, [], hW', trodAll_mk1 (shut_bool Try.underlying4 _), (trodAll_cons_mk (shut_int Try.underlying3 wi0) (trodAll_cons_mk (Below.trod Try.laidOut (by kernel_rfl) (of_decide_eq_true (by kernel_rfl)) k1 bel lt1) (trodAll_cons_mk (Below.trod Try.laidOut (by kernel_rfl) (of_decide_eq_true (by kernel_rfl)) k2 bel lt2) trodAll_mk0))), rfl, bel.frame _, fun h => by cases h⟩

set_option maxRecDepth 100000 in
theorem lifted (os : Os) (started : os.Started) (H : Type) (enc : TypeId × Value → H) :
    ReturnsInHanded {} Try.checked os 4 .any (Rows.edgeFromSpec.pre6 enc Try.prog Try.f4 Rows.edgeFromRow.domain false) (Rows.edgeFromSpec.post enc Try.prog Try.f4 false true false false) := by
  refine returnsInHanded_of_change_sized (C := Try.checked) Try.ownK started (by kernel_rfl) Try.func4
    (ChangeSpec.witness6 (enc := enc) (C := Try.checked) false ⟨#[], #[.int .i64 0, .slice none 0 0, .agg #[.int .i64 0, .int .i64 0, .int .i64 0, .int .i64 0]], []⟩ 8 (by kernel_rfl) (by kernel_rfl) (by kernel_rfl) (by kernel_rfl)) ?_
  intro W base args ds gs before hval hW _ hsz _
  exact contract H enc W base args ds gs before hval hW hsz

set_option maxRecDepth 100000 in
theorem proved : Rows.EdgeFromSaid :=
  OpenClaim.holds_of_wide 4 Try.f4 rfl rfl rfl rfl rfl rfl rfl ⟨rfl, rfl, rfl, rfl, rfl⟩ rfl rfl rfl rfl rfl (by kernel_rfl) Try.func4 (by kernel_rfl)
    (of_decide_eq_true (by kernel_rfl)) (by unfold Func.isWrapper; first | (rw [if_pos (by decide +kernel)]; kernel_rfl) | (rw [if_neg (by decide +kernel)]; exact ⟨rfl, rfl⟩))
    (fun os started H enc _ => lifted os started H enc)

end Go.Proofs.Ytmmdgffgnpnmeaa.edgeFrom
