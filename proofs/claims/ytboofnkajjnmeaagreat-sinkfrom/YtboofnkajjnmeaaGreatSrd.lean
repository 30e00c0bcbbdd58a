/-
 fitsOpen and fits of the program. The conditions: that the lists lie there; lengths.
-/
import Derived.Test.YtboofnkajjnmeaaGreatTk0
import Derived.Test.YtboofnkajjnmeaaGreatSrb
import Derived.Test.YtboofnkajjnmeaaGreatSkg
import Derived.Test.YtboofnkajjnmeaaGreatSki
import Derived.Test.YtboofnkajjnmeaaGreatSkx
namespace Go.Proofs.YtboofnkajjnmeaaGreat
open Go.RowKit Go.Maps Go.Shelf

def FoI (n reg : Int) (done : List Int) (l : List TX) : Prop := ∀ t ∈ l, mayC n t ∧ t.ep = reg ∧ t.id ∉ done
theorem TL.tx {W : World} {p : Option Addr} {c : Nat} {ts : List TP} (_ : TL W p c ts) {k : Nat} (hk : k < ts.length) {x : TP} (hx : ts[k]! = x) : (ts.take (k + 1)).map TP.t = (ts.take k).map TP.t ++ [x.t] := by
 rw [List.take_succ_eq_append_getElem hk, List.map_append, ← hx, getElem!_pos ts k hk]
 rfl
theorem mem_ts {ts : List TP} {k : Nat} (hk : k < ts.length) {x : TP} (hx : ts[k]! = x) : x.t ∈ ts.map TP.t := List.mem_map.2 ⟨x, by rw [← hx, getElem!_pos ts k hk]; exact List.getElem_mem hk, rfl⟩
theorem FoI.step {n reg : Int} {done : List Int} {l : List TX} {t : TX} (h : FoI n reg done l) (h1 : mayC n t) (h2 : t.ep = reg) (h3 : t.id ∉ done) : FoI n reg done (l ++ [t]) := fun y hy => by
 rcases List.mem_append.1 hy with hy | hy
 ·exact h y hy
 ·simp only [List.mem_singleton] at hy
  rw [hy]
  exact ⟨h1, h2, h3⟩
set_option maxRecDepth 100000 in
set_option maxHeartbeats 4000000 in
theorem fitsOpen_any {W : World} {reg : Int} {op vp dp pp : Option Addr} {on oc vn vc dn dc tn pc : Nat} {out : List RC} {vec done : List Int} {ts : List TP} {n : Int} (hd : NRow W dp dc done) (hdn : done.length = dn) (hdb : dn < 4611686018427387904) (hrs : ris done) (ht : TL W pp pc ts) (htn : ts.length = tn) {rb : Bool} (hrb : rb = true ↔ FitO n ⟨reg, out, vec, done, ts.map TP.t⟩) :
  Calls Tryz.prog 61 #[.agg #[.int .i64 reg, .slice op on oc, .slice vp vn vc, .slice dp dn dc, .slice pp tn pc], .int .i64 n] W fun e w' => e = .returned (.bool rb) ∧ Below W.heap.size W w' := by
 obtain ⟨j0, hJ0, hy0, hy1, hy2⟩ := info_parts Tryz.infoN
 have HD := hide hd; have HDN := hide hdn; have HDB := hide hdb
 have HS : Hid (done.Pairwise (· ≤ ·)) := hide (hrs.1.imp (fun {a b} h => by omega))
 have HT := hide ht; have HTN := hide htn; have HRB := hide hrb
 have i1 : ts.length ≤ pc := ht.row.le
 have i2 := ht.row.top
 rw [htn] at i1
 clear hd hdn hdb hrs ht htn hrb
 by_cases hl : tn ≤ 8
 ·
  have e1 : decide ((tn : Int) > 8) = false := decide_eq_false (by omega)
  have e2 : decide (tn > 8) = false := decide_eq_false (by omega)
  obtain ⟨V, hV⟩ : ∃ V, V = W.alloc (.cells #[.int .i64 reg, .slice op on oc, .slice vp vn vc, .slice dp dn dc, .slice pp tn pc] 26 (0, 0)) := ⟨_, rfl⟩
  have HV : Hid (V.heap[W.heap.size]? = some (.cells #[.int .i64 reg, .slice op on oc, .slice vp vn vc, .slice dp dn dc, .slice pp tn pc] 26 (0, 0))) := hide (by rw [hV]; exact heap_alloc_new W _)
  have HBV : Hid (Below W.heap.size W V) := hide (by rw [hV]; exact alloc_below _ _)
  obtain ⟨bB, hbB⟩ : ∃ bB, W.heap.size = bB := ⟨_, rfl⟩
  rw [hbB] at HV HBV
  have HZbB := hide hbB
  have HBW : Hid (Below W.heap.size W V) := hide (by rw [HZbB.out]; exact HBV.out)
  go_enter Tryz.func61, Tryz.ntmps61
  go_upto_region 1 with fail
  rw [← hV]
  try rw [hbB]
  clear hV hbB; have u0 := cellB HV.out (i := 0) rfl; have u3 := cellB HV.out (i := 3) rfl; have u4 := cellB HV.out (i := 4) rfl
  go_wp2_with fail
  clear u0 u3 u4
  go_loopw [5, 17] (fun s i wr => ∃ (k : Nat) (p1 : Option Addr) (c1 : Nat), k ≤ tn ∧ i = .int .i64 (k : Int) ∧ s = .slice p1 k c1 ∧ Hid (FoI n reg done ((ts.take k).map TP.t)) ∧ Hid (wr.ownsRow V.heap.size 2 1 (.slice p1 k c1) k (((ts.take k).map (fun x => x.t.id)).flatMap intCells)) ∧ Hid (Below V.heap.size V wr)) (fun _ i _ => tn - (intOf i).toNat)
  case atStart => exact ⟨0, none, 0, Nat.zero_le _, rfl, rfl, hide (by intro t ht; simp at ht), hide (World.ownsRow_nil _ _ _ _), hide (Below.refl _ _)⟩
  case round =>
   obtain ⟨k, p1, c1, hk, rfl, rfl, HFO, HOW, HB⟩ := hrel
   rename World => wq
   have HVq := hide (below_box HB.out HV.out); have HTq := hide (HT.out.later (HBW.out.trans (HB.out.mono HBW.out.size))); have u0 := cellB HVq.out (i := 0) rfl; have u3 := cellB HVq.out (i := 3) rfl; have u4 := cellB HVq.out (i := 4) rfl
   by_cases hlt : k < tn
   ·have hlt2 : k < ts.length := by rw [HTN.out]; exact hlt
    obtain ⟨x, hx⟩ : ∃ x, ts[k]! = x := ⟨_, rfl⟩
    obtain ⟨g, o, rfl, b0, b1, b2, b3, b4, hxo⟩ := TL.at HTq.out hlt2 hx
    have HTX := hide (TL.tx HTq.out hlt2 hx); have HME := hide (mem_ts hlt2 hx)
    have HXV : Hid (NRow wq x.vp x.vc x.t.vs) := hide hxo.v
    obtain ⟨⟨ep, id, bg, rs, vs⟩, rp, rc, xp, xc⟩ := x
    simp only at b0 b1 b2 b3 b4 HTX HME HXV
    obtain ⟨X, hX⟩ : ∃ X, X = wq.alloc (.cells #[.int .i64 ep, .int .i64 id, .int .i64 bg, .slice rp rs.length rc, .slice xp vs.length xc] 28 (0, 0)) := ⟨_, rfl⟩
    have HXX : Hid (X.heap[wq.heap.size]? = some (.cells #[.int .i64 ep, .int .i64 id, .int .i64 bg, .slice rp rs.length rc, .slice xp vs.length xc] 28 (0, 0))) := hide (by rw [hX]; exact heap_alloc_new wq _)
    have HQX : Hid (Below wq.heap.size wq X) := hide (by rw [hX]; exact alloc_below _ _)
    have HVX := hide (below_box HQX.out HVq.out)
    obtain ⟨po, hpo⟩ : ∃ po, posC done id = po := ⟨_, rfl⟩
    have HPO := hide hpo; clear hxo hx hlt2 hpo
    by_cases hm : mayC n ⟨ep, id, bg, rs, vs⟩
    ·have HM := hide hm
     by_cases he : ep = reg
     ·have e1 : (ep != reg) = false := by simpa using he
      have HE := hide he
      by_cases hi : id ∈ done
      ·have HIN : Hid (decide (id ∈ done) = true) := hide (decide_eq_true hi)
       have HF : Hid (rb = false) := hide (by
         cases rb
         · rfl
         · exact absurd hi ((HRB.out.1 rfl).may _ HME.out).2.2)
       clear hm he hi
       go_upto_region 7 with fail
       rw [← hX]
       clear hX u0 u3 u4 b0 b1 b2 b3 b4; have z0 := cellB HXX.out (i := 0) rfl; have z1 := cellB HXX.out (i := 1) rfl; have z2 := cellB HXX.out (i := 2) rfl; have z3 := cellB HXX.out (i := 3) rfl; have z4 := cellB HXX.out (i := 4) rfl; have u0 := cellB HVX.out (i := 0) rfl; have u3 := cellB HVX.out (i := 3) rfl; have u4 := cellB HVX.out (i := 4) rfl
       go_wp2_with fail
       refine (bs_any (NRow.later HD.out (HBW.out.trans ((HB.out.trans (HQX.out.mono HB.out.size)).mono HBW.out.size))) HDN.out HDB.out HS.out HPO.out HIN.out).mono ?_
       rintro _ w1 ⟨rfl, b1⟩
       have HQ1 : Hid (Below wq.heap.size wq w1) := hide (HQX.out.trans (b1.mono HQX.out.size))
       have HX1 := hide (below_box b1 HXX.out); have HV1 := hide (below_box b1 HVX.out); have HN1 := hide (NRow.later HXV.out HQ1.out); clear b1 u0 u3 u4 z0 z1 z2 z3 z4; have z0 := cellB HX1.out (i := 0) rfl; have z1 := cellB HX1.out (i := 1) rfl; have z2 := cellB HX1.out (i := 2) rfl; have z3 := cellB HX1.out (i := 3) rfl; have z4 := cellB HX1.out (i := 4) rfl; have u0 := cellB HV1.out (i := 0) rfl; have u3 := cellB HV1.out (i := 3) rfl; have u4 := cellB HV1.out (i := 4) rfl
       go_wp2_with fail
       refine (mayBe_any HN1.out rfl rfl (decide_eq_true HM.out)).mono ?_
       rintro _ w2 ⟨rfl, b2⟩
       have HQ2 : Hid (Below wq.heap.size wq w2) := hide (HQ1.out.trans (b2.mono HQ1.out.size))
       have HX2 := hide (below_box b2 HX1.out); have HV2 := hide (below_box b2 HV1.out); clear b2 u0 u3 u4 z0 z1 z2 z3 z4; have z0 := cellB HX2.out (i := 0) rfl; have z1 := cellB HX2.out (i := 1) rfl; have z2 := cellB HX2.out (i := 2) rfl; have z3 := cellB HX2.out (i := 3) rfl; have z4 := cellB HX2.out (i := 4) rfl; have u0 := cellB HV2.out (i := 0) rfl; have u3 := cellB HV2.out (i := 3) rfl; have u4 := cellB HV2.out (i := 4) rfl; go_wp2; go_ret
       exact ⟨by rw [HF.out]; rfl, HBW.out.trans ((HB.out.trans (HQ2.out.mono HB.out.size)).mono HBW.out.size)⟩
      ·have HIN : Hid (decide (id ∈ done) = false) := hide (decide_eq_false hi)
       have HFO2 : Hid (FoI n reg done ((ts.take (k + 1)).map TP.t)) := hide (by rw [HTX.out]; exact HFO.out.step hm he hi)
       have HSN : Hid (((ts.take (k + 1)).map (fun x => x.t.id)).flatMap intCells = ((ts.take k).map (fun x => x.t.id)).flatMap intCells ++ [.int .i64 id]) := hide (by
         have h9 := congrArg (List.map TX.id) HTX.out
         rw [List.map_append, List.map_map, List.map_map] at h9
         show ((ts.take (k + 1)).map (TX.id ∘ TP.t)).flatMap intCells = _
         rw [h9, List.flatMap_append]
         rfl)
       clear hm he hi
       go_upto_region 7 with fail
       rw [← hX]
       clear hX u0 u3 u4 b0 b1 b2 b3 b4; have z0 := cellB HXX.out (i := 0) rfl; have z1 := cellB HXX.out (i := 1) rfl; have z2 := cellB HXX.out (i := 2) rfl; have z3 := cellB HXX.out (i := 3) rfl; have z4 := cellB HXX.out (i := 4) rfl; have u0 := cellB HVX.out (i := 0) rfl; have u3 := cellB HVX.out (i := 3) rfl; have u4 := cellB HVX.out (i := 4) rfl
       go_wp2_with fail
       refine (bs_any (NRow.later HD.out (HBW.out.trans ((HB.out.trans (HQX.out.mono HB.out.size)).mono HBW.out.size))) HDN.out HDB.out HS.out HPO.out HIN.out).mono ?_
       rintro _ w1 ⟨rfl, b1⟩
       have HQ1 : Hid (Below wq.heap.size wq w1) := hide (HQX.out.trans (b1.mono HQX.out.size))
       have HX1 := hide (below_box b1 HXX.out); have HV1 := hide (below_box b1 HVX.out); have HN1 := hide (NRow.later HXV.out HQ1.out); clear b1 u0 u3 u4 z0 z1 z2 z3 z4; have z0 := cellB HX1.out (i := 0) rfl; have z1 := cellB HX1.out (i := 1) rfl; have z2 := cellB HX1.out (i := 2) rfl; have z3 := cellB HX1.out (i := 3) rfl; have z4 := cellB HX1.out (i := 4) rfl; have u0 := cellB HV1.out (i := 0) rfl; have u3 := cellB HV1.out (i := 3) rfl; have u4 := cellB HV1.out (i := 4) rfl
       go_wp2_with fail
       refine (mayBe_any HN1.out rfl rfl (decide_eq_true HM.out)).mono ?_
       rintro _ w2 ⟨rfl, b2⟩
       have HQ2 : Hid (Below wq.heap.size wq w2) := hide (HQ1.out.trans (b2.mono HQ1.out.size))
       have HX2 := hide (below_box b2 HX1.out); have HV2 := hide (below_box b2 HV1.out); clear b2 u0 u3 u4 z0 z1 z2 z3 z4; have z0 := cellB HX2.out (i := 0) rfl; have z1 := cellB HX2.out (i := 1) rfl; have z2 := cellB HX2.out (i := 2) rfl; have z3 := cellB HX2.out (i := 3) rfl; have z4 := cellB HX2.out (i := 4) rfl; have u0 := cellB HV2.out (i := 0) rfl; have u3 := cellB HV2.out (i := 3) rfl; have u4 := cellB HV2.out (i := 4) rfl; have hab := alloc_below w2 (.cells #[.int .i64 id] 2 (0, 0))
       have HSG : Hid (Seg (w2.alloc (.cells #[.int .i64 id] 2 (0, 0))) 1 (.slice (some ⟨w2.heap.size, 0, none⟩) 1 1) 1 [.int .i64 id]) := hide (Seg.news (heap_alloc_new w2 _) (by simp [Value.oneCell']) rfl (Nat.le_refl _) (by decide))
       have HRW := hide (ownsRow_later HOW.out (HQ2.out.trans (hab.mono HQ2.out.size))); have HAB := hide hab
       have HK1 : Hid (k + 1 ≤ maxLen) := by show _ ≤ _; unfold maxLen; omega
       have HK2 : Hid ((k + 1) * 8 ≤ 140737488355328) := by show _ ≤ _; omega
       have HB2 : Hid (Below V.heap.size V w2) := hide (HB.out.trans (HQ2.out.mono HB.out.size))
       have HBS : Hid (V.heap.size ≤ (w2.alloc (.cells #[.int .i64 id] 2 (0, 0))).heap.size) := hide (Nat.le_trans HB2.out.size hab.size)
       clear hab
       go_wp2_with (at_builtin; refine append_cells _ rfl (.tmp 43) (.tmp 46) 23 rfl V.heap.size 2 j0 (.int .i64 0) 1 8 Tryz.underlying23 hJ0 hy0 hy1 hy2 rfl (by decide) (.slice p1 k c1) k _ rfl HRW.out (.slice (some ⟨w2.heap.size, 0, none⟩) 1 1) 1 _ rfl HSG.out HK1.out HK2.out HBS.out ?_)
       intro p' c' w5 hown hgrow
       have HB5 : Hid (Below V.heap.size V w5) := hide ((HB2.out.trans (HAB.out.mono HB2.out.size)).grown hgrow (Nat.le_trans HB2.out.size HAB.out.size) (fun i hi => own_block_base HRW.out hi))
       have HO5 : Hid (w5.ownsRow V.heap.size 2 1 (.slice p' (k + 1) c') (k + 1) (((ts.take (k + 1)).map (fun x => x.t.id)).flatMap intCells)) := hide (by
         rw [HSN.out, List.map_take]
         exact hown)
       clear hown hgrow u0 u3 u4 z0 z1 z2 z3 z4; go_wp2
       exact ⟨⟨k + 1, p', c', by omega, by first | rfl | go_num, rfl, HFO2, HO5, HB5⟩, by simp [intOf]; omega⟩
     ·have e1 : (ep != reg) = true := by simpa using he
      obtain ⟨ri, hri⟩ : ∃ ri, decide (id ∈ done) = ri := ⟨_, rfl⟩
      have HIN := hide hri
      have HF : Hid (rb = false) := hide (by
        cases rb
        · rfl
        · exact absurd ((HRB.out.1 rfl).may _ HME.out).2.1 he)
      clear hm he hri
      go_upto_region 7 with fail
      rw [← hX]
      clear hX u0 u3 u4 b0 b1 b2 b3 b4; have z0 := cellB HXX.out (i := 0) rfl; have z1 := cellB HXX.out (i := 1) rfl; have z2 := cellB HXX.out (i := 2) rfl; have z3 := cellB HXX.out (i := 3) rfl; have z4 := cellB HXX.out (i := 4) rfl; have u0 := cellB HVX.out (i := 0) rfl; have u3 := cellB HVX.out (i := 3) rfl; have u4 := cellB HVX.out (i := 4) rfl
      go_wp2_with fail
      refine (bs_any (NRow.later HD.out (HBW.out.trans ((HB.out.trans (HQX.out.mono HB.out.size)).mono HBW.out.size))) HDN.out HDB.out HS.out HPO.out HIN.out).mono ?_
      rintro _ w1 ⟨rfl, b1⟩
      have HQ1 : Hid (Below wq.heap.size wq w1) := hide (HQX.out.trans (b1.mono HQX.out.size))
      have HX1 := hide (below_box b1 HXX.out); have HV1 := hide (below_box b1 HVX.out); have HN1 := hide (NRow.later HXV.out HQ1.out); clear b1 u0 u3 u4 z0 z1 z2 z3 z4; have z0 := cellB HX1.out (i := 0) rfl; have z1 := cellB HX1.out (i := 1) rfl; have z2 := cellB HX1.out (i := 2) rfl; have z3 := cellB HX1.out (i := 3) rfl; have z4 := cellB HX1.out (i := 4) rfl; have u0 := cellB HV1.out (i := 0) rfl; have u3 := cellB HV1.out (i := 3) rfl; have u4 := cellB HV1.out (i := 4) rfl
      go_wp2_with fail
      refine (mayBe_any HN1.out rfl rfl (decide_eq_true HM.out)).mono ?_
      rintro _ w2 ⟨rfl, b2⟩
      have HQ2 : Hid (Below wq.heap.size wq w2) := hide (HQ1.out.trans (b2.mono HQ1.out.size))
      have HX2 := hide (below_box b2 HX1.out); have HV2 := hide (below_box b2 HV1.out); clear b2 u0 u3 u4 z0 z1 z2 z3 z4; have z0 := cellB HX2.out (i := 0) rfl; have z1 := cellB HX2.out (i := 1) rfl; have z2 := cellB HX2.out (i := 2) rfl; have z3 := cellB HX2.out (i := 3) rfl; have z4 := cellB HX2.out (i := 4) rfl; have u0 := cellB HV2.out (i := 0) rfl; have u3 := cellB HV2.out (i := 3) rfl; have u4 := cellB HV2.out (i := 4) rfl; go_wp2; go_ret
      exact ⟨by rw [HF.out]; rfl, HBW.out.trans ((HB.out.trans (HQ2.out.mono HB.out.size)).mono HBW.out.size)⟩
    ·have HM := hide hm
     obtain ⟨ri, hri⟩ : ∃ ri, decide (id ∈ done) = ri := ⟨_, rfl⟩
     have HIN := hide hri
     have HF : Hid (rb = false) := hide (by
       cases rb
       · rfl
       · exact absurd ((HRB.out.1 rfl).may _ HME.out).1 hm)
     clear hm hri
     go_upto_region 7 with fail
     rw [← hX]
     clear hX u0 u3 u4 b0 b1 b2 b3 b4; have z0 := cellB HXX.out (i := 0) rfl; have z1 := cellB HXX.out (i := 1) rfl; have z2 := cellB HXX.out (i := 2) rfl; have z3 := cellB HXX.out (i := 3) rfl; have z4 := cellB HXX.out (i := 4) rfl; have u0 := cellB HVX.out (i := 0) rfl; have u3 := cellB HVX.out (i := 3) rfl; have u4 := cellB HVX.out (i := 4) rfl
     go_wp2_with fail
     refine (bs_any (NRow.later HD.out (HBW.out.trans ((HB.out.trans (HQX.out.mono HB.out.size)).mono HBW.out.size))) HDN.out HDB.out HS.out HPO.out HIN.out).mono ?_
     rintro _ w1 ⟨rfl, b1⟩
     have HQ1 : Hid (Below wq.heap.size wq w1) := hide (HQX.out.trans (b1.mono HQX.out.size))
     have HX1 := hide (below_box b1 HXX.out); have HV1 := hide (below_box b1 HVX.out); have HN1 := hide (NRow.later HXV.out HQ1.out); clear b1 u0 u3 u4 z0 z1 z2 z3 z4; have z0 := cellB HX1.out (i := 0) rfl; have z1 := cellB HX1.out (i := 1) rfl; have z2 := cellB HX1.out (i := 2) rfl; have z3 := cellB HX1.out (i := 3) rfl; have z4 := cellB HX1.out (i := 4) rfl; have u0 := cellB HV1.out (i := 0) rfl; have u3 := cellB HV1.out (i := 3) rfl; have u4 := cellB HV1.out (i := 4) rfl
     go_wp2_with fail
     refine (mayBe_any HN1.out rfl rfl (decide_eq_false HM.out)).mono ?_
     rintro _ w2 ⟨rfl, b2⟩
     have HQ2 : Hid (Below wq.heap.size wq w2) := hide (HQ1.out.trans (b2.mono HQ1.out.size))
     have HX2 := hide (below_box b2 HX1.out); have HV2 := hide (below_box b2 HV1.out); clear b2 u0 u3 u4 z0 z1 z2 z3 z4; have z0 := cellB HX2.out (i := 0) rfl; have z1 := cellB HX2.out (i := 1) rfl; have z2 := cellB HX2.out (i := 2) rfl; have z3 := cellB HX2.out (i := 3) rfl; have z4 := cellB HX2.out (i := 4) rfl; have u0 := cellB HV2.out (i := 0) rfl; have u3 := cellB HV2.out (i := 3) rfl; have u4 := cellB HV2.out (i := 4) rfl; go_wp2; go_ret
     exact ⟨by rw [HF.out]; rfl, HBW.out.trans ((HB.out.trans (HQ2.out.mono HB.out.size)).mono HBW.out.size)⟩
   ·obtain rfl : k = tn := by omega
    have hall : ts.take k = ts := List.take_of_length_le (by rw [HTN.out]; exact Nat.le_refl _)
    have hO := HOW.out; have hF := HFO.out
    rw [hall] at hO hF
    obtain ⟨ids, hids⟩ : ∃ ids, ts.map (fun x => x.t.id) = ids := ⟨_, rfl⟩
    have hli : ids.length = k := by rw [← hids, List.length_map, HTN.out]
    rw [hids] at hO
    have HO := hide hO; have HLI := hide hli
    have HF : Hid (rb = decide (ris ids)) := hide (by
      have h9 : FitO n ⟨reg, out, vec, done, ts.map TP.t⟩ ↔ ris ids := by
        have h8 : (ts.map TP.t).map TX.id = ids := by rw [List.map_map, ← hids]; rfl
        exact ⟨fun h => by have := h.ids; rw [show (SK.mk reg out vec done (ts.map TP.t)).pre = ts.map TP.t from rfl, h8] at this; exact this, fun h => ⟨by show (ts.map TP.t).length ≤ 8; rw [List.length_map, HTN.out]; exact hl, hF, by show ris ((ts.map TP.t).map TX.id); rw [h8]; exact h⟩⟩
      by_cases h7 : ris ids
      · rw [decide_eq_true h7]; exact HRB.out.2 (h9.2 h7)
      · rw [decide_eq_false h7]
        cases rb
        · rfl
        · exact absurd (h9.1 (HRB.out.1 rfl)) h7)
    obtain ⟨rr, hrr⟩ : ∃ rr, decide (ris ids) = rr := ⟨_, rfl⟩
    have HRR := hide hrr; clear hall hO hF hids hli hrr hl
    go_wp2_with fail
    refine (rises_any (NRow.of_own HLI.out HO.out) HLI.out HRR.out).mono ?_
    rintro _ w3 ⟨rfl, b3⟩
    have HB3 : Hid (Below V.heap.size V w3) := hide (HB.out.trans (b3.mono HB.out.size))
    clear b3 u0 u3 u4; go_wp2; go_ret
    exact ⟨by rw [HF.out, HRR.out]; rfl, HBW.out.trans (HB3.out.mono HBW.out.size)⟩
 ·
  have HF : Hid (rb = false) := hide (by
    cases rb
    · rfl
    · have h9 : (ts.map TP.t).length ≤ 8 := (HRB.out.1 rfl).room
      rw [List.length_map, HTN.out] at h9
      omega)
  have e1 : decide ((tn : Int) > 8) = true := decide_eq_true (by omega)
  have e2 : decide (tn > 8) = true := decide_eq_true (by omega)
  clear hl
  obtain ⟨V, hV⟩ : ∃ V, V = W.alloc (.cells #[.int .i64 reg, .slice op on oc, .slice vp vn vc, .slice dp dn dc, .slice pp tn pc] 26 (0, 0)) := ⟨_, rfl⟩
  have HV : Hid (V.heap[W.heap.size]? = some (.cells #[.int .i64 reg, .slice op on oc, .slice vp vn vc, .slice dp dn dc, .slice pp tn pc] 26 (0, 0))) := hide (by rw [hV]; exact heap_alloc_new W _)
  have HBV : Hid (Below W.heap.size W V) := hide (by rw [hV]; exact alloc_below _ _)
  obtain ⟨bB, hbB⟩ : ∃ bB, W.heap.size = bB := ⟨_, rfl⟩
  rw [hbB] at HV HBV
  have HZbB := hide hbB
  have HBW : Hid (Below W.heap.size W V) := hide (by rw [HZbB.out]; exact HBV.out)
  go_enter Tryz.func61, Tryz.ntmps61
  go_upto_region 1 with fail
  rw [← hV]
  try rw [hbB]
  clear hV hbB; have u0 := cellB HV.out (i := 0) rfl; have u3 := cellB HV.out (i := 3) rfl; have u4 := cellB HV.out (i := 4) rfl; go_wp2; go_ret
  exact ⟨by rw [HF.out]; rfl, HBW.out⟩
set_option maxRecDepth 100000 in
set_option maxHeartbeats 4000000 in
theorem fits_any {W : World} {reg : Int} {op vp dp pp : Option Addr} {on oc vn vc dn dc tn pc : Nat} {out : List RC} {vec done : List Int} {ts : List TP} {n : Int} (ho : out.length = on) (hv : NRow W vp vc vec) (hvn : vec.length = vn) (hd : NRow W dp dc done) (hdn : done.length = dn) (hdb : dn < 4611686018427387904) (ht : TL W pp pc ts) (htn : ts.length = tn) (hn1 : 1 ≤ n) {rb : Bool} (hrb : rb = true ↔ Fit n ⟨reg, out, vec, done, ts.map TP.t⟩) :
  Calls Tryz.prog 17 #[.agg #[.int .i64 reg, .slice op on oc, .slice vp vn vc, .slice dp dn dc, .slice pp tn pc], .int .i64 n] W fun e w' => e = .returned (.bool rb) ∧ Below W.heap.size W w' := by
 have HO := hide ho; have HN := hide hv; have HVN := hide hvn; have HD := hide hd; have HDN := hide hdn; have HDB := hide hdb; have HT := hide ht; have HTN := hide htn; have HN1 := hide hn1; have HRB := hide hrb
 have i0 : on ≤ maxLen ∨ True := .inr trivial
 clear ho hv hvn hd hdn hdb ht htn hn1 hrb i0
 by_cases hz : reg = 0
 ·have HR0 := hide hz
  have e0 : (reg == 0) = true := by simpa using hz
  have e9 : (reg != 0) = false := by simpa using hz
  clear hz
  by_cases h0 : on ≤ 4096
  ·have e1 : decide ((on : Int) ≤ 4096) = true := decide_eq_true (by omega)
   have e2 : decide (on ≤ 4096) = true := decide_eq_true h0
   have HC0 := hide h0; clear h0
   by_cases h1 : vecI n vec
   ·have HC1 := hide h1; clear h1
    by_cases h2 : ris done
    ·have HC2 := hide h2; clear h2
     by_cases h3 : FitO n ⟨reg, out, vec, done, ts.map TP.t⟩
     ·have HP3 := hide h3; clear h3
      have HT8 : Hid (tn ≤ 8) := hide (by have h9 : (ts.map TP.t).length ≤ 8 := HP3.out.room; rw [List.length_map, HTN.out] at h9; exact h9)
      have HV0N : Hid (0 < vn) := hide (by have h9 := HC1.out.1; have := HN1.out; have := HVN.out; omega)
      have huz : (on = 0 ∧ dn = 0 ∧ tn = 0 ∧ maxT vec vn = 0) ↔ unt ⟨reg, out, vec, done, ts.map TP.t⟩ := by
       have h9 := maxT_zero (l := vec) (by rw [HVN.out]; exact HV0N.out) HC1.out.2
       rw [HVN.out] at h9
       unfold unt
       rw [← HO.out, ← HDN.out, ← HTN.out, List.length_eq_zero_iff, List.length_eq_zero_iff, List.length_eq_zero_iff, h9]
       simp
      obtain ⟨ru, hru⟩ : ∃ ru, decide (on = 0 ∧ dn = 0 ∧ tn = 0 ∧ maxT vec vn = 0) = ru := ⟨_, rfl⟩
      have HUU := hide hru
      have HF : Hid (rb = ru) := hide (by
        cases hru' : ru
        · cases hrb' : rb
          · rfl
          · have h8 := (HRB.out.1 hrb').zero HR0.out
            rw [hru'] at hru
            exact absurd (huz.2 h8) (of_decide_eq_false hru)
        · rw [hru'] at hru
          exact HRB.out.2 ⟨.inl HR0.out, by show out.length ≤ 4096; rw [HO.out]; exact HC0.out, HC1.out, HC2.out, HP3.out, fun _ => huz.1 (of_decide_eq_true hru)⟩)
      clear huz hru
      obtain ⟨V, hV⟩ : ∃ V, V = W.alloc (.cells #[.int .i64 reg, .slice op on oc, .slice vp vn vc, .slice dp dn dc, .slice pp tn pc] 26 (0, 0)) := ⟨_, rfl⟩
      have HV : Hid (V.heap[W.heap.size]? = some (.cells #[.int .i64 reg, .slice op on oc, .slice vp vn vc, .slice dp dn dc, .slice pp tn pc] 26 (0, 0))) := hide (by rw [hV]; exact heap_alloc_new W _)
      have HBV : Hid (Below W.heap.size W V) := hide (by rw [hV]; exact alloc_below _ _)
      obtain ⟨bB, hbB⟩ : ∃ bB, W.heap.size = bB := ⟨_, rfl⟩
      rw [hbB] at HV HBV
      have HZbB := hide hbB
      have HBW : Hid (Below W.heap.size W V) := hide (by rw [HZbB.out]; exact HBV.out)
      go_enter Tryz.func17, Tryz.ntmps17
      go_upto_region 1 with fail
      rw [← hV]
      try rw [hbB]
      clear hV hbB; have HW0 := HBW; have HV0 := HV; have u0 := cellB HV.out (i := 0) rfl; have u1 := cellB HV.out (i := 1) rfl; have u2 := cellB HV.out (i := 2) rfl; have u3 := cellB HV.out (i := 3) rfl; have u4 := cellB HV.out (i := 4) rfl
      go_wp2_with fail
      refine (isVector_any (NRow.later HN.out HW0.out) HVN.out (decide_eq_true HC1.out)).mono ?_
      rintro _ w1 ⟨rfl, bb⟩
      have HW1 : Hid (Below W.heap.size W w1) := hide (HW0.out.trans (bb.mono HW0.out.size))
      have HV1 := hide (below_box bb HV0.out); clear bb u0 u1 u2 u3 u4; have u0 := cellB HV1.out (i := 0) rfl; have u1 := cellB HV1.out (i := 1) rfl; have u2 := cellB HV1.out (i := 2) rfl; have u3 := cellB HV1.out (i := 3) rfl; have u4 := cellB HV1.out (i := 4) rfl
      go_wp2_with fail
      refine (rises_any (NRow.later HD.out HW1.out) HDN.out (decide_eq_true HC2.out)).mono ?_
      rintro _ w2 ⟨rfl, bb⟩
      have HW2 : Hid (Below W.heap.size W w2) := hide (HW1.out.trans (bb.mono HW1.out.size))
      have HV2 := hide (below_box bb HV1.out); clear bb u0 u1 u2 u3 u4; have u0 := cellB HV2.out (i := 0) rfl; have u1 := cellB HV2.out (i := 1) rfl; have u2 := cellB HV2.out (i := 2) rfl; have u3 := cellB HV2.out (i := 3) rfl; have u4 := cellB HV2.out (i := 4) rfl
      go_wp2_with fail
      refine (fitsOpen_any (out := out) (vec := vec) (rb := true) (NRow.later HD.out HW2.out) HDN.out HDB.out HC2.out (HT.out.later HW2.out) HTN.out (⟨fun _ => HP3.out, fun _ => rfl⟩)).mono ?_
      rintro _ w3 ⟨rfl, bb⟩
      have HW3 : Hid (Below W.heap.size W w3) := hide (HW2.out.trans (bb.mono HW2.out.size))
      have HV3 := hide (below_box bb HV2.out); clear bb u0 u1 u2 u3 u4; have u0 := cellB HV3.out (i := 0) rfl; have u1 := cellB HV3.out (i := 1) rfl; have u2 := cellB HV3.out (i := 2) rfl; have u3 := cellB HV3.out (i := 3) rfl; have u4 := cellB HV3.out (i := 4) rfl
      go_wp2_with fail
      refine (untouched_any (NRow.later HN.out HW3.out) HVN.out HV0N.out HC0.out HDB.out HT8.out HUU.out).mono ?_
      rintro _ w4 ⟨rfl, bb⟩
      have HW4 : Hid (Below W.heap.size W w4) := hide (HW3.out.trans (bb.mono HW3.out.size))
      have HV4 := hide (below_box bb HV3.out); clear bb u0 u1 u2 u3 u4; have u0 := cellB HV4.out (i := 0) rfl; have u1 := cellB HV4.out (i := 1) rfl; have u2 := cellB HV4.out (i := 2) rfl; have u3 := cellB HV4.out (i := 3) rfl; have u4 := cellB HV4.out (i := 4) rfl; go_wp2; go_ret
      exact ⟨by rw [HF.out]; rfl, HW4.out⟩
     ·have HP3 := hide h3
      have HF : Hid (rb = false) := hide (by
        cases rb
        · rfl
        · exact absurd (HRB.out.1 rfl) (fun h9 => h3 h9.pre))
      clear h3
      obtain ⟨V, hV⟩ : ∃ V, V = W.alloc (.cells #[.int .i64 reg, .slice op on oc, .slice vp vn vc, .slice dp dn dc, .slice pp tn pc] 26 (0, 0)) := ⟨_, rfl⟩
      have HV : Hid (V.heap[W.heap.size]? = some (.cells #[.int .i64 reg, .slice op on oc, .slice vp vn vc, .slice dp dn dc, .slice pp tn pc] 26 (0, 0))) := hide (by rw [hV]; exact heap_alloc_new W _)
      have HBV : Hid (Below W.heap.size W V) := hide (by rw [hV]; exact alloc_below _ _)
      obtain ⟨bB, hbB⟩ : ∃ bB, W.heap.size = bB := ⟨_, rfl⟩
      rw [hbB] at HV HBV
      have HZbB := hide hbB
      have HBW : Hid (Below W.heap.size W V) := hide (by rw [HZbB.out]; exact HBV.out)
      go_enter Tryz.func17, Tryz.ntmps17
      go_upto_region 1 with fail
      rw [← hV]
      try rw [hbB]
      clear hV hbB; have HW0 := HBW; have HV0 := HV; have u0 := cellB HV.out (i := 0) rfl; have u1 := cellB HV.out (i := 1) rfl; have u2 := cellB HV.out (i := 2) rfl; have u3 := cellB HV.out (i := 3) rfl; have u4 := cellB HV.out (i := 4) rfl
      go_wp2_with fail
      refine (isVector_any (NRow.later HN.out HW0.out) HVN.out (decide_eq_true HC1.out)).mono ?_
      rintro _ w1 ⟨rfl, bb⟩
      have HW1 : Hid (Below W.heap.size W w1) := hide (HW0.out.trans (bb.mono HW0.out.size))
      have HV1 := hide (below_box bb HV0.out); clear bb u0 u1 u2 u3 u4; have u0 := cellB HV1.out (i := 0) rfl; have u1 := cellB HV1.out (i := 1) rfl; have u2 := cellB HV1.out (i := 2) rfl; have u3 := cellB HV1.out (i := 3) rfl; have u4 := cellB HV1.out (i := 4) rfl
      go_wp2_with fail
      refine (rises_any (NRow.later HD.out HW1.out) HDN.out (decide_eq_true HC2.out)).mono ?_
      rintro _ w2 ⟨rfl, bb⟩
      have HW2 : Hid (Below W.heap.size W w2) := hide (HW1.out.trans (bb.mono HW1.out.size))
      have HV2 := hide (below_box bb HV1.out); clear bb u0 u1 u2 u3 u4; have u0 := cellB HV2.out (i := 0) rfl; have u1 := cellB HV2.out (i := 1) rfl; have u2 := cellB HV2.out (i := 2) rfl; have u3 := cellB HV2.out (i := 3) rfl; have u4 := cellB HV2.out (i := 4) rfl
      go_wp2_with fail
      refine (fitsOpen_any (out := out) (vec := vec) (rb := false) (NRow.later HD.out HW2.out) HDN.out HDB.out HC2.out (HT.out.later HW2.out) HTN.out (⟨fun h => (by cases h), fun h => absurd h HP3.out⟩)).mono ?_
      rintro _ w3 ⟨rfl, bb⟩
      have HW3 : Hid (Below W.heap.size W w3) := hide (HW2.out.trans (bb.mono HW2.out.size))
      have HV3 := hide (below_box bb HV2.out); clear bb u0 u1 u2 u3 u4; have u0 := cellB HV3.out (i := 0) rfl; have u1 := cellB HV3.out (i := 1) rfl; have u2 := cellB HV3.out (i := 2) rfl; have u3 := cellB HV3.out (i := 3) rfl; have u4 := cellB HV3.out (i := 4) rfl; go_wp2; go_ret
      exact ⟨by rw [HF.out]; rfl, HW3.out⟩
    ·have HC2 := hide h2
     have HF : Hid (rb = false) := hide (by
       cases rb
       · rfl
       · exact absurd (HRB.out.1 rfl) (fun h9 => h2 h9.done))
     clear h2
     obtain ⟨V, hV⟩ : ∃ V, V = W.alloc (.cells #[.int .i64 reg, .slice op on oc, .slice vp vn vc, .slice dp dn dc, .slice pp tn pc] 26 (0, 0)) := ⟨_, rfl⟩
     have HV : Hid (V.heap[W.heap.size]? = some (.cells #[.int .i64 reg, .slice op on oc, .slice vp vn vc, .slice dp dn dc, .slice pp tn pc] 26 (0, 0))) := hide (by rw [hV]; exact heap_alloc_new W _)
     have HBV : Hid (Below W.heap.size W V) := hide (by rw [hV]; exact alloc_below _ _)
     obtain ⟨bB, hbB⟩ : ∃ bB, W.heap.size = bB := ⟨_, rfl⟩
     rw [hbB] at HV HBV
     have HZbB := hide hbB
     have HBW : Hid (Below W.heap.size W V) := hide (by rw [HZbB.out]; exact HBV.out)
     go_enter Tryz.func17, Tryz.ntmps17
     go_upto_region 1 with fail
     rw [← hV]
     try rw [hbB]
     clear hV hbB; have HW0 := HBW; have HV0 := HV; have u0 := cellB HV.out (i := 0) rfl; have u1 := cellB HV.out (i := 1) rfl; have u2 := cellB HV.out (i := 2) rfl; have u3 := cellB HV.out (i := 3) rfl; have u4 := cellB HV.out (i := 4) rfl
     go_wp2_with fail
     refine (isVector_any (NRow.later HN.out HW0.out) HVN.out (decide_eq_true HC1.out)).mono ?_
     rintro _ w1 ⟨rfl, bb⟩
     have HW1 : Hid (Below W.heap.size W w1) := hide (HW0.out.trans (bb.mono HW0.out.size))
     have HV1 := hide (below_box bb HV0.out); clear bb u0 u1 u2 u3 u4; have u0 := cellB HV1.out (i := 0) rfl; have u1 := cellB HV1.out (i := 1) rfl; have u2 := cellB HV1.out (i := 2) rfl; have u3 := cellB HV1.out (i := 3) rfl; have u4 := cellB HV1.out (i := 4) rfl
     go_wp2_with fail
     refine (rises_any (NRow.later HD.out HW1.out) HDN.out (decide_eq_false HC2.out)).mono ?_
     rintro _ w2 ⟨rfl, bb⟩
     have HW2 : Hid (Below W.heap.size W w2) := hide (HW1.out.trans (bb.mono HW1.out.size))
     have HV2 := hide (below_box bb HV1.out); clear bb u0 u1 u2 u3 u4; have u0 := cellB HV2.out (i := 0) rfl; have u1 := cellB HV2.out (i := 1) rfl; have u2 := cellB HV2.out (i := 2) rfl; have u3 := cellB HV2.out (i := 3) rfl; have u4 := cellB HV2.out (i := 4) rfl; go_wp2; go_ret
     exact ⟨by rw [HF.out]; rfl, HW2.out⟩
   ·have HC1 := hide h1
    have HF : Hid (rb = false) := hide (by
      cases rb
      · rfl
      · exact absurd (HRB.out.1 rfl) (fun h9 => h1 h9.vec))
    clear h1
    obtain ⟨V, hV⟩ : ∃ V, V = W.alloc (.cells #[.int .i64 reg, .slice op on oc, .slice vp vn vc, .slice dp dn dc, .slice pp tn pc] 26 (0, 0)) := ⟨_, rfl⟩
    have HV : Hid (V.heap[W.heap.size]? = some (.cells #[.int .i64 reg, .slice op on oc, .slice vp vn vc, .slice dp dn dc, .slice pp tn pc] 26 (0, 0))) := hide (by rw [hV]; exact heap_alloc_new W _)
    have HBV : Hid (Below W.heap.size W V) := hide (by rw [hV]; exact alloc_below _ _)
    obtain ⟨bB, hbB⟩ : ∃ bB, W.heap.size = bB := ⟨_, rfl⟩
    rw [hbB] at HV HBV
    have HZbB := hide hbB
    have HBW : Hid (Below W.heap.size W V) := hide (by rw [HZbB.out]; exact HBV.out)
    go_enter Tryz.func17, Tryz.ntmps17
    go_upto_region 1 with fail
    rw [← hV]
    try rw [hbB]
    clear hV hbB; have HW0 := HBW; have HV0 := HV; have u0 := cellB HV.out (i := 0) rfl; have u1 := cellB HV.out (i := 1) rfl; have u2 := cellB HV.out (i := 2) rfl; have u3 := cellB HV.out (i := 3) rfl; have u4 := cellB HV.out (i := 4) rfl
    go_wp2_with fail
    refine (isVector_any (NRow.later HN.out HW0.out) HVN.out (decide_eq_false HC1.out)).mono ?_
    rintro _ w1 ⟨rfl, bb⟩
    have HW1 : Hid (Below W.heap.size W w1) := hide (HW0.out.trans (bb.mono HW0.out.size))
    have HV1 := hide (below_box bb HV0.out); clear bb u0 u1 u2 u3 u4; have u0 := cellB HV1.out (i := 0) rfl; have u1 := cellB HV1.out (i := 1) rfl; have u2 := cellB HV1.out (i := 2) rfl; have u3 := cellB HV1.out (i := 3) rfl; have u4 := cellB HV1.out (i := 4) rfl; go_wp2; go_ret
    exact ⟨by rw [HF.out]; rfl, HW1.out⟩
  ·have e1 : decide ((on : Int) ≤ 4096) = false := decide_eq_false (by omega)
   have e2 : decide (on ≤ 4096) = false := decide_eq_false h0
   have HF : Hid (rb = false) := hide (by
     cases rb
     · rfl
     · exact absurd (HRB.out.1 rfl) (fun h9 => h0 (by rw [← HO.out]; exact h9.out)))
   clear h0
   obtain ⟨V, hV⟩ : ∃ V, V = W.alloc (.cells #[.int .i64 reg, .slice op on oc, .slice vp vn vc, .slice dp dn dc, .slice pp tn pc] 26 (0, 0)) := ⟨_, rfl⟩
   have HV : Hid (V.heap[W.heap.size]? = some (.cells #[.int .i64 reg, .slice op on oc, .slice vp vn vc, .slice dp dn dc, .slice pp tn pc] 26 (0, 0))) := hide (by rw [hV]; exact heap_alloc_new W _)
   have HBV : Hid (Below W.heap.size W V) := hide (by rw [hV]; exact alloc_below _ _)
   obtain ⟨bB, hbB⟩ : ∃ bB, W.heap.size = bB := ⟨_, rfl⟩
   rw [hbB] at HV HBV
   have HZbB := hide hbB
   have HBW : Hid (Below W.heap.size W V) := hide (by rw [HZbB.out]; exact HBV.out)
   go_enter Tryz.func17, Tryz.ntmps17
   go_upto_region 1 with fail
   rw [← hV]
   try rw [hbB]
   clear hV hbB; have HW0 := HBW; have HV0 := HV; have u0 := cellB HV.out (i := 0) rfl; have u1 := cellB HV.out (i := 1) rfl; have u2 := cellB HV.out (i := 2) rfl; have u3 := cellB HV.out (i := 3) rfl; have u4 := cellB HV.out (i := 4) rfl; go_wp2; go_ret
   exact ⟨by rw [HF.out]; rfl, HW0.out⟩
 ·have HR0 := hide hz
  have e0 : (reg == 0) = false := by simpa using hz
  have e9 : (reg != 0) = true := by simpa using hz
  clear hz
  by_cases hp : posI reg
  ·have HI := hide hp; clear hp
   by_cases h0 : on ≤ 4096
   ·have e1 : decide ((on : Int) ≤ 4096) = true := decide_eq_true (by omega)
    have e2 : decide (on ≤ 4096) = true := decide_eq_true h0
    have HC0 := hide h0; clear h0
    by_cases h1 : vecI n vec
    ·have HC1 := hide h1; clear h1
     by_cases h2 : ris done
     ·have HC2 := hide h2; clear h2
      by_cases h3 : FitO n ⟨reg, out, vec, done, ts.map TP.t⟩
      ·have HP3 := hide h3; clear h3
       have HF : Hid (rb = true) := hide (HRB.out.2 ⟨.inr HI.out, by show out.length ≤ 4096; rw [HO.out]; exact HC0.out, HC1.out, HC2.out, HP3.out, fun h9 => absurd h9 HR0.out⟩)
       obtain ⟨V, hV⟩ : ∃ V, V = W.alloc (.cells #[.int .i64 reg, .slice op on oc, .slice vp vn vc, .slice dp dn dc, .slice pp tn pc] 26 (0, 0)) := ⟨_, rfl⟩
       have HV : Hid (V.heap[W.heap.size]? = some (.cells #[.int .i64 reg, .slice op on oc, .slice vp vn vc, .slice dp dn dc, .slice pp tn pc] 26 (0, 0))) := hide (by rw [hV]; exact heap_alloc_new W _)
       have HBV : Hid (Below W.heap.size W V) := hide (by rw [hV]; exact alloc_below _ _)
       obtain ⟨bB, hbB⟩ : ∃ bB, W.heap.size = bB := ⟨_, rfl⟩
       rw [hbB] at HV HBV
       have HZbB := hide hbB
       have HBW : Hid (Below W.heap.size W V) := hide (by rw [HZbB.out]; exact HBV.out)
       go_enter Tryz.func17, Tryz.ntmps17
       go_upto_region 1 with fail
       rw [← hV]
       try rw [hbB]
       clear hV hbB; have HW0 := HBW; have HV0 := HV; have u0 := cellB HV.out (i := 0) rfl; have u1 := cellB HV.out (i := 1) rfl; have u2 := cellB HV.out (i := 2) rfl; have u3 := cellB HV.out (i := 3) rfl; have u4 := cellB HV.out (i := 4) rfl
       go_wp2_with fail
       refine (isId_any (decide_eq_true HI.out)).mono ?_
       rintro _ _ ⟨rfl, rfl⟩
       go_wp2_with fail
       refine (isVector_any (NRow.later HN.out HW0.out) HVN.out (decide_eq_true HC1.out)).mono ?_
       rintro _ w1 ⟨rfl, bb⟩
       have HW1 : Hid (Below W.heap.size W w1) := hide (HW0.out.trans (bb.mono HW0.out.size))
       have HV1 := hide (below_box bb HV0.out); clear bb u0 u1 u2 u3 u4; have u0 := cellB HV1.out (i := 0) rfl; have u1 := cellB HV1.out (i := 1) rfl; have u2 := cellB HV1.out (i := 2) rfl; have u3 := cellB HV1.out (i := 3) rfl; have u4 := cellB HV1.out (i := 4) rfl
       go_wp2_with fail
       refine (rises_any (NRow.later HD.out HW1.out) HDN.out (decide_eq_true HC2.out)).mono ?_
       rintro _ w2 ⟨rfl, bb⟩
       have HW2 : Hid (Below W.heap.size W w2) := hide (HW1.out.trans (bb.mono HW1.out.size))
       have HV2 := hide (below_box bb HV1.out); clear bb u0 u1 u2 u3 u4; have u0 := cellB HV2.out (i := 0) rfl; have u1 := cellB HV2.out (i := 1) rfl; have u2 := cellB HV2.out (i := 2) rfl; have u3 := cellB HV2.out (i := 3) rfl; have u4 := cellB HV2.out (i := 4) rfl
       go_wp2_with fail
       refine (fitsOpen_any (out := out) (vec := vec) (rb := true) (NRow.later HD.out HW2.out) HDN.out HDB.out HC2.out (HT.out.later HW2.out) HTN.out (⟨fun _ => HP3.out, fun _ => rfl⟩)).mono ?_
       rintro _ w3 ⟨rfl, bb⟩
       have HW3 : Hid (Below W.heap.size W w3) := hide (HW2.out.trans (bb.mono HW2.out.size))
       have HV3 := hide (below_box bb HV2.out); clear bb u0 u1 u2 u3 u4; have u0 := cellB HV3.out (i := 0) rfl; have u1 := cellB HV3.out (i := 1) rfl; have u2 := cellB HV3.out (i := 2) rfl; have u3 := cellB HV3.out (i := 3) rfl; have u4 := cellB HV3.out (i := 4) rfl; go_wp2; go_ret
       exact ⟨by rw [HF.out]; rfl, HW3.out⟩
      ·have HP3 := hide h3
       have HF : Hid (rb = false) := hide (by
         cases rb
         · rfl
         · exact absurd (HRB.out.1 rfl) (fun h9 => h3 h9.pre))
       clear h3
       obtain ⟨V, hV⟩ : ∃ V, V = W.alloc (.cells #[.int .i64 reg, .slice op on oc, .slice vp vn vc, .slice dp dn dc, .slice pp tn pc] 26 (0, 0)) := ⟨_, rfl⟩
       have HV : Hid (V.heap[W.heap.size]? = some (.cells #[.int .i64 reg, .slice op on oc, .slice vp vn vc, .slice dp dn dc, .slice pp tn pc] 26 (0, 0))) := hide (by rw [hV]; exact heap_alloc_new W _)
       have HBV : Hid (Below W.heap.size W V) := hide (by rw [hV]; exact alloc_below _ _)
       obtain ⟨bB, hbB⟩ : ∃ bB, W.heap.size = bB := ⟨_, rfl⟩
       rw [hbB] at HV HBV
       have HZbB := hide hbB
       have HBW : Hid (Below W.heap.size W V) := hide (by rw [HZbB.out]; exact HBV.out)
       go_enter Tryz.func17, Tryz.ntmps17
       go_upto_region 1 with fail
       rw [← hV]
       try rw [hbB]
       clear hV hbB; have HW0 := HBW; have HV0 := HV; have u0 := cellB HV.out (i := 0) rfl; have u1 := cellB HV.out (i := 1) rfl; have u2 := cellB HV.out (i := 2) rfl; have u3 := cellB HV.out (i := 3) rfl; have u4 := cellB HV.out (i := 4) rfl
       go_wp2_with fail
       refine (isId_any (decide_eq_true HI.out)).mono ?_
       rintro _ _ ⟨rfl, rfl⟩
       go_wp2_with fail
       refine (isVector_any (NRow.later HN.out HW0.out) HVN.out (decide_eq_true HC1.out)).mono ?_
       rintro _ w1 ⟨rfl, bb⟩
       have HW1 : Hid (Below W.heap.size W w1) := hide (HW0.out.trans (bb.mono HW0.out.size))
       have HV1 := hide (below_box bb HV0.out); clear bb u0 u1 u2 u3 u4; have u0 := cellB HV1.out (i := 0) rfl; have u1 := cellB HV1.out (i := 1) rfl; have u2 := cellB HV1.out (i := 2) rfl; have u3 := cellB HV1.out (i := 3) rfl; have u4 := cellB HV1.out (i := 4) rfl
       go_wp2_with fail
       refine (rises_any (NRow.later HD.out HW1.out) HDN.out (decide_eq_true HC2.out)).mono ?_
       rintro _ w2 ⟨rfl, bb⟩
       have HW2 : Hid (Below W.heap.size W w2) := hide (HW1.out.trans (bb.mono HW1.out.size))
       have HV2 := hide (below_box bb HV1.out); clear bb u0 u1 u2 u3 u4; have u0 := cellB HV2.out (i := 0) rfl; have u1 := cellB HV2.out (i := 1) rfl; have u2 := cellB HV2.out (i := 2) rfl; have u3 := cellB HV2.out (i := 3) rfl; have u4 := cellB HV2.out (i := 4) rfl
       go_wp2_with fail
       refine (fitsOpen_any (out := out) (vec := vec) (rb := false) (NRow.later HD.out HW2.out) HDN.out HDB.out HC2.out (HT.out.later HW2.out) HTN.out (⟨fun h => (by cases h), fun h => absurd h HP3.out⟩)).mono ?_
       rintro _ w3 ⟨rfl, bb⟩
       have HW3 : Hid (Below W.heap.size W w3) := hide (HW2.out.trans (bb.mono HW2.out.size))
       have HV3 := hide (below_box bb HV2.out); clear bb u0 u1 u2 u3 u4; have u0 := cellB HV3.out (i := 0) rfl; have u1 := cellB HV3.out (i := 1) rfl; have u2 := cellB HV3.out (i := 2) rfl; have u3 := cellB HV3.out (i := 3) rfl; have u4 := cellB HV3.out (i := 4) rfl; go_wp2; go_ret
       exact ⟨by rw [HF.out]; rfl, HW3.out⟩
     ·have HC2 := hide h2
      have HF : Hid (rb = false) := hide (by
        cases rb
        · rfl
        · exact absurd (HRB.out.1 rfl) (fun h9 => h2 h9.done))
      clear h2
      obtain ⟨V, hV⟩ : ∃ V, V = W.alloc (.cells #[.int .i64 reg, .slice op on oc, .slice vp vn vc, .slice dp dn dc, .slice pp tn pc] 26 (0, 0)) := ⟨_, rfl⟩
      have HV : Hid (V.heap[W.heap.size]? = some (.cells #[.int .i64 reg, .slice op on oc, .slice vp vn vc, .slice dp dn dc, .slice pp tn pc] 26 (0, 0))) := hide (by rw [hV]; exact heap_alloc_new W _)
      have HBV : Hid (Below W.heap.size W V) := hide (by rw [hV]; exact alloc_below _ _)
      obtain ⟨bB, hbB⟩ : ∃ bB, W.heap.size = bB := ⟨_, rfl⟩
      rw [hbB] at HV HBV
      have HZbB := hide hbB
      have HBW : Hid (Below W.heap.size W V) := hide (by rw [HZbB.out]; exact HBV.out)
      go_enter Tryz.func17, Tryz.ntmps17
      go_upto_region 1 with fail
      rw [← hV]
      try rw [hbB]
      clear hV hbB; have HW0 := HBW; have HV0 := HV; have u0 := cellB HV.out (i := 0) rfl; have u1 := cellB HV.out (i := 1) rfl; have u2 := cellB HV.out (i := 2) rfl; have u3 := cellB HV.out (i := 3) rfl; have u4 := cellB HV.out (i := 4) rfl
      go_wp2_with fail
      refine (isId_any (decide_eq_true HI.out)).mono ?_
      rintro _ _ ⟨rfl, rfl⟩
      go_wp2_with fail
      refine (isVector_any (NRow.later HN.out HW0.out) HVN.out (decide_eq_true HC1.out)).mono ?_
      rintro _ w1 ⟨rfl, bb⟩
      have HW1 : Hid (Below W.heap.size W w1) := hide (HW0.out.trans (bb.mono HW0.out.size))
      have HV1 := hide (below_box bb HV0.out); clear bb u0 u1 u2 u3 u4; have u0 := cellB HV1.out (i := 0) rfl; have u1 := cellB HV1.out (i := 1) rfl; have u2 := cellB HV1.out (i := 2) rfl; have u3 := cellB HV1.out (i := 3) rfl; have u4 := cellB HV1.out (i := 4) rfl
      go_wp2_with fail
      refine (rises_any (NRow.later HD.out HW1.out) HDN.out (decide_eq_false HC2.out)).mono ?_
      rintro _ w2 ⟨rfl, bb⟩
      have HW2 : Hid (Below W.heap.size W w2) := hide (HW1.out.trans (bb.mono HW1.out.size))
      have HV2 := hide (below_box bb HV1.out); clear bb u0 u1 u2 u3 u4; have u0 := cellB HV2.out (i := 0) rfl; have u1 := cellB HV2.out (i := 1) rfl; have u2 := cellB HV2.out (i := 2) rfl; have u3 := cellB HV2.out (i := 3) rfl; have u4 := cellB HV2.out (i := 4) rfl; go_wp2; go_ret
      exact ⟨by rw [HF.out]; rfl, HW2.out⟩
    ·have HC1 := hide h1
     have HF : Hid (rb = false) := hide (by
       cases rb
       · rfl
       · exact absurd (HRB.out.1 rfl) (fun h9 => h1 h9.vec))
     clear h1
     obtain ⟨V, hV⟩ : ∃ V, V = W.alloc (.cells #[.int .i64 reg, .slice op on oc, .slice vp vn vc, .slice dp dn dc, .slice pp tn pc] 26 (0, 0)) := ⟨_, rfl⟩
     have HV : Hid (V.heap[W.heap.size]? = some (.cells #[.int .i64 reg, .slice op on oc, .slice vp vn vc, .slice dp dn dc, .slice pp tn pc] 26 (0, 0))) := hide (by rw [hV]; exact heap_alloc_new W _)
     have HBV : Hid (Below W.heap.size W V) := hide (by rw [hV]; exact alloc_below _ _)
     obtain ⟨bB, hbB⟩ : ∃ bB, W.heap.size = bB := ⟨_, rfl⟩
     rw [hbB] at HV HBV
     have HZbB := hide hbB
     have HBW : Hid (Below W.heap.size W V) := hide (by rw [HZbB.out]; exact HBV.out)
     go_enter Tryz.func17, Tryz.ntmps17
     go_upto_region 1 with fail
     rw [← hV]
     try rw [hbB]
     clear hV hbB; have HW0 := HBW; have HV0 := HV; have u0 := cellB HV.out (i := 0) rfl; have u1 := cellB HV.out (i := 1) rfl; have u2 := cellB HV.out (i := 2) rfl; have u3 := cellB HV.out (i := 3) rfl; have u4 := cellB HV.out (i := 4) rfl
     go_wp2_with fail
     refine (isId_any (decide_eq_true HI.out)).mono ?_
     rintro _ _ ⟨rfl, rfl⟩
     go_wp2_with fail
     refine (isVector_any (NRow.later HN.out HW0.out) HVN.out (decide_eq_false HC1.out)).mono ?_
     rintro _ w1 ⟨rfl, bb⟩
     have HW1 : Hid (Below W.heap.size W w1) := hide (HW0.out.trans (bb.mono HW0.out.size))
     have HV1 := hide (below_box bb HV0.out); clear bb u0 u1 u2 u3 u4; have u0 := cellB HV1.out (i := 0) rfl; have u1 := cellB HV1.out (i := 1) rfl; have u2 := cellB HV1.out (i := 2) rfl; have u3 := cellB HV1.out (i := 3) rfl; have u4 := cellB HV1.out (i := 4) rfl; go_wp2; go_ret
     exact ⟨by rw [HF.out]; rfl, HW1.out⟩
   ·have e1 : decide ((on : Int) ≤ 4096) = false := decide_eq_false (by omega)
    have e2 : decide (on ≤ 4096) = false := decide_eq_false h0
    have HF : Hid (rb = false) := hide (by
      cases rb
      · rfl
      · exact absurd (HRB.out.1 rfl) (fun h9 => h0 (by rw [← HO.out]; exact h9.out)))
    clear h0
    obtain ⟨V, hV⟩ : ∃ V, V = W.alloc (.cells #[.int .i64 reg, .slice op on oc, .slice vp vn vc, .slice dp dn dc, .slice pp tn pc] 26 (0, 0)) := ⟨_, rfl⟩
    have HV : Hid (V.heap[W.heap.size]? = some (.cells #[.int .i64 reg, .slice op on oc, .slice vp vn vc, .slice dp dn dc, .slice pp tn pc] 26 (0, 0))) := hide (by rw [hV]; exact heap_alloc_new W _)
    have HBV : Hid (Below W.heap.size W V) := hide (by rw [hV]; exact alloc_below _ _)
    obtain ⟨bB, hbB⟩ : ∃ bB, W.heap.size = bB := ⟨_, rfl⟩
    rw [hbB] at HV HBV
    have HZbB := hide hbB
    have HBW : Hid (Below W.heap.size W V) := hide (by rw [HZbB.out]; exact HBV.out)
    go_enter Tryz.func17, Tryz.ntmps17
    go_upto_region 1 with fail
    rw [← hV]
    try rw [hbB]
    clear hV hbB; have HW0 := HBW; have HV0 := HV; have u0 := cellB HV.out (i := 0) rfl; have u1 := cellB HV.out (i := 1) rfl; have u2 := cellB HV.out (i := 2) rfl; have u3 := cellB HV.out (i := 3) rfl; have u4 := cellB HV.out (i := 4) rfl
    go_wp2_with fail
    refine (isId_any (decide_eq_true HI.out)).mono ?_
    rintro _ _ ⟨rfl, rfl⟩
    go_wp2
    go_ret
    exact ⟨by rw [HF.out]; rfl, HW0.out⟩
  ·have HI := hide hp
   have HF : Hid (rb = false) := hide (by
     cases rb
     · rfl
     · exact absurd (HRB.out.1 rfl) (fun h9 => (h9.reg.elim HR0.out HI.out)))
   clear hp
   obtain ⟨V, hV⟩ : ∃ V, V = W.alloc (.cells #[.int .i64 reg, .slice op on oc, .slice vp vn vc, .slice dp dn dc, .slice pp tn pc] 26 (0, 0)) := ⟨_, rfl⟩
   have HV : Hid (V.heap[W.heap.size]? = some (.cells #[.int .i64 reg, .slice op on oc, .slice vp vn vc, .slice dp dn dc, .slice pp tn pc] 26 (0, 0))) := hide (by rw [hV]; exact heap_alloc_new W _)
   have HBV : Hid (Below W.heap.size W V) := hide (by rw [hV]; exact alloc_below _ _)
   obtain ⟨bB, hbB⟩ : ∃ bB, W.heap.size = bB := ⟨_, rfl⟩
   rw [hbB] at HV HBV
   have HZbB := hide hbB
   have HBW : Hid (Below W.heap.size W V) := hide (by rw [HZbB.out]; exact HBV.out)
   go_enter Tryz.func17, Tryz.ntmps17
   go_upto_region 1 with fail
   rw [← hV]
   try rw [hbB]
   clear hV hbB; have HW0 := HBW; have HV0 := HV; have u0 := cellB HV.out (i := 0) rfl; have u1 := cellB HV.out (i := 1) rfl; have u2 := cellB HV.out (i := 2) rfl; have u3 := cellB HV.out (i := 3) rfl; have u4 := cellB HV.out (i := 4) rfl
   go_wp2_with fail
   refine (isId_any (decide_eq_false HI.out)).mono ?_
   rintro _ _ ⟨rfl, rfl⟩
   go_wp2
   go_ret
   exact ⟨by rw [HF.out]; rfl, HW0.out⟩
end Go.Proofs.YtboofnkajjnmeaaGreat

/-
 From of the program's sink. The conditions: that the lists lie there; lengths.
-/
namespace Go.Proofs.YtboofnkajjnmeaaGreat
open Go.RowKit Go.Maps Go.Shelf

def FroO (W : World) (s : SK) (e : Ending) (w' : World) : Prop := ∃ k : PK, e = .returned (.tuple #[.pointer (some ⟨k.b, 0, none⟩), .int .i64 0]) ∧ PS W.heap.size w' k ∧ k.sk = s ∧ Below W.heap.size W w'
theorem PS.base {B B2 : Nat} {W : World} {k : PK} (h : PS B W k) (hb : B2 ≤ B) : PS B2 W k :=
 ⟨h.box, h.map, ownsRow_base h.out hb, ownsRow_base h.vec hb, ownsRow_base h.done hb, fun x hx => ⟨ownsRow_base (h.pre x hx).r hb, ownsRow_base (h.pre x hx).v hb⟩, h.ap, ⟨Nat.le_trans hb h.ge.1, Nat.le_trans hb h.ge.2⟩, h.ok⟩
structure FroI (W : World) (kb : Nat) (s : SK) (j : Nat) (k : PK) (w : World) : Prop where
 ps : PS W.heap.size w k
 b : k.b = kb
 eq : k.reg = s.reg ∧ k.out = s.out ∧ k.vec = s.vec ∧ k.done = s.done ∧ k.xs.map TP.t = s.pre.take j
 below : Below W.heap.size W w
theorem FroI.later {W w w' : World} {kb j : Nat} {s : SK} {k : PK} (h : FroI W kb s j k w) (hb : Below w.heap.size w w') : FroI W kb s j k w' := ⟨h.ps.later hb, h.b, h.eq, h.below.trans (hb.mono h.below.size)⟩
theorem FroI.sk {W w : World} {kb j : Nat} {s : SK} {k : PK} (h : FroI W kb s j k w) (hj : s.pre.length ≤ j) : k.sk = s := by
 obtain ⟨e1, e2, e3, e4, e5⟩ := h.eq
 rw [List.take_of_length_le hj] at e5
 unfold PK.sk
 rw [e1, e2, e3, e4, e5]
theorem FroI.next {W w w1 w8 : World} {kb j : Nat} {s : SK} {k : PK} {t : TX} {n : Int} {y : TP} (h : FroI W kb s j k w) (hy : y.t = t) (hf : Fit n s) (hj : j < s.pre.length) (hx : s.pre[j]! = t) (hp : PS W.heap.size w8 ⟨k.b, k.mb, k.op, k.oc, k.vp, k.vc, k.dp, k.dc, k.reg, k.out, k.vec, k.done, insP y k.xs⟩) (ho : Only (· = k.mb) w1 w8) (hb : Below w.heap.size w w1) :
  FroI W kb s (j + 1) ⟨k.b, k.mb, k.op, k.oc, k.vp, k.vc, k.dp, k.dc, k.reg, k.out, k.vec, k.done, insP y k.xs⟩ w8 := by
 obtain ⟨e1, e2, e3, e4, e5⟩ := h.eq
 have ht : s.pre.take (j + 1) = s.pre.take j ++ [t] := by rw [List.take_succ_eq_append_getElem hj, ← hx, getElem!_pos s.pre j hj]
 refine ⟨hp, h.b, ⟨e1, e2, e3, e4, ?_⟩, (h.below.trans (hb.mono h.below.size)).trans (ho.below (Nat.le_trans h.below.size hb.size) (fun i e => by rw [e]; exact h.ps.ge.2))⟩
 show (insP y k.xs).map TP.t = _
 rw [insP_map, e5, hy, ht]
 refine ins_last (fun x hx' => ?_)
 have h9 := hf.pre.ids.1
 rw [List.pairwise_map] at h9
 have h8 : s.pre = s.pre.take j ++ s.pre.drop j := (List.take_append_drop j s.pre).symm
 rw [h8, List.pairwise_append] at h9
 exact h9.2.2 x hx' t (by rw [List.drop_eq_getElem_cons hj, ← hx, getElem!_pos s.pre j hj]; exact List.mem_cons_self ..)
theorem FroI.none {W w : World} {kb j : Nat} {s : SK} {k : PK} {t : TX} {n : Int} (h : FroI W kb s j k w) (hf : Fit n s) (hj : j < s.pre.length) (hx : s.pre[j]! = t) : findC k.sk t.id = none ∧ k.xs.length < 8 ∧ t ∈ s.pre ∧ (k.vec.length : Int) = n := by
 obtain ⟨e1, e2, e3, e4, e5⟩ := h.eq
 have hm : t ∈ s.pre := by rw [← hx, getElem!_pos s.pre j hj]; exact List.getElem_mem hj
 refine ⟨no_find (fun x hx' => ?_), ?_, hm, by rw [e3]; exact hf.vec.1⟩
 ·have h9 := hf.pre.ids.1
  rw [List.pairwise_map] at h9
  have h8 : s.pre = s.pre.take j ++ s.pre.drop j := (List.take_append_drop j s.pre).symm
  rw [h8, List.pairwise_append] at h9
  have h7 := h9.2.2 x (by show x ∈ s.pre.take j; rw [← e5]; exact hx') t (by rw [List.drop_eq_getElem_cons hj, ← hx, getElem!_pos s.pre j hj]; exact List.mem_cons_self ..)
  omega
 ·have h9 := congrArg List.length e5
  rw [List.length_map, List.length_take] at h9
  have := hf.pre.room
  omega
set_option maxRecDepth 100000 in
set_option maxHeartbeats 2000000 in
theorem from_bad {W : World} {v : Value} {x : Int} {cs : Array Value} (hv : v = .agg cs) (h : ¬ (1 ≤ x ∧ x ≤ 4)) : Calls Tryz.prog 5 #[.int .i64 x, v] W fun e w' => e = .returned (.tuple #[.pointer none, .int .i64 1]) ∧ Below W.heap.size W w' := by
 subst hv
 have H := hide h; clear h
 obtain ⟨V, hV⟩ : ∃ V, V = W.alloc (.cells cs 26 (0, 0)) := ⟨_, rfl⟩
 have HBV : Hid (Below W.heap.size W V) := hide (by rw [hV]; exact alloc_below _ _)
 go_enter Tryz.func5, Tryz.ntmps5
 go_upto_region 1 with fail
 rw [← hV]
 clear hV
 go_wp2_with fail
 refine (new_bad H.out).mono ?_
 rintro _ _ ⟨rfl, rfl⟩
 go_wp2
 go_ret2
 exact ⟨rfl, HBV.out⟩
set_option maxRecDepth 100000 in
set_option maxHeartbeats 4000000 in
theorem from_no {W : World} {reg : Int} {op vp dp pp : Option Addr} {on oc vn vc dn dc tn pc n : Nat} {out : List RC} {vec done : List Int} {ts : List TP} (h1 : 1 ≤ n) (h4 : n ≤ 4) (hr : RRow W op oc out) (ho : out.length = on) (hv : NRow W vp vc vec) (hvn : vec.length = vn) (hd : NRow W dp dc done) (hdn : done.length = dn) (hdb : dn < 17592186044416) (ht : TL W pp pc ts) (htn : ts.length = tn) (hf : ¬ Fit n ⟨reg, out, vec, done, ts.map TP.t⟩) :
  Calls Tryz.prog 5 #[.int .i64 (n : Int), .agg #[.int .i64 reg, .slice op on oc, .slice vp vn vc, .slice dp dn dc, .slice pp tn pc]] W fun e w' => e = .returned (.tuple #[.pointer none, .int .i64 1]) ∧ Below W.heap.size W w' := by
 have HR := hide hr; have HO := hide ho; have HN := hide hv; have HVN := hide hvn; have HD := hide hd; have HDN := hide hdn; have HDB := hide hdb; have HT := hide ht; have HTN := hide htn; have H1 := hide h1; have H4 := hide h4; have HF := hide hf
 have i1 : ts.length ≤ pc := ht.row.le
 have i2 := ht.row.top
 rw [htn] at i1
 clear hr ho hv hvn hd hdn hdb ht htn h1 h4 hf
 obtain ⟨V, hV⟩ : ∃ V, V = W.alloc (.cells #[.int .i64 reg, .slice op on oc, .slice vp vn vc, .slice dp dn dc, .slice pp tn pc] 26 (0, 0)) := ⟨_, rfl⟩
 have HV : Hid (V.heap[W.heap.size]? = some (.cells #[.int .i64 reg, .slice op on oc, .slice vp vn vc, .slice dp dn dc, .slice pp tn pc] 26 (0, 0))) := hide (by rw [hV]; exact heap_alloc_new W _)
 have HBV : Hid (Below W.heap.size W V) := hide (by rw [hV]; exact alloc_below _ _)
 obtain ⟨bB, hbB⟩ : ∃ bB, W.heap.size = bB := ⟨_, rfl⟩
 rw [hbB] at HV HBV
 have HZbB := hide hbB
 have HBW : Hid (Below W.heap.size W V) := hide (by rw [HZbB.out]; exact HBV.out)
 have HVL : Hid (bB < V.heap.size) := hide (box_lt HV.out)
 go_enter Tryz.func5, Tryz.ntmps5
 go_upto_region 1 with fail
 rw [← hV]
 try rw [hbB]
 clear hV hbB; have u0 := cellB HV.out (i := 0) rfl; have u1 := cellB HV.out (i := 1) rfl; have u2 := cellB HV.out (i := 2) rfl; have u3 := cellB HV.out (i := 3) rfl; have u4 := cellB HV.out (i := 4) rfl
 go_wp2_with fail
 refine (new_ok H1.out H4.out).mono ?_
 rintro _ w1 ⟨k0, rfl, hk0, hs0, b1⟩
 obtain ⟨kb, mb, p0, c0, q0, d0, r0, e0, rg, ou, ve, dn0, x0⟩ := k0
 have HK1 := hide hk0; have HS0 := hide hs0; have HB1 := hide b1; have HV1 := hide (below_box b1 HV.out)
 have HW1 : Hid (Below W.heap.size W w1) := hide (HBW.out.trans (b1.mono HBW.out.size))
 clear hk0 hs0 b1 u0 u1 u2 u3 u4; have u0 := cellB HV1.out (i := 0) rfl; have u1 := cellB HV1.out (i := 1) rfl; have u2 := cellB HV1.out (i := 2) rfl; have u3 := cellB HV1.out (i := 3) rfl; have u4 := cellB HV1.out (i := 4) rfl
 go_wp2_with fail
 refine (fits_any (n := (n : Int)) (rb := false) HO.out (NRow.later HN.out HW1.out) HVN.out (NRow.later HD.out HW1.out) HDN.out (by have := HDB.out; omega) (HT.out.later HW1.out) HTN.out (by have := H1.out; omega) ⟨fun h => (by cases h), fun h => absurd h HF.out⟩).mono ?_
 rintro _ w2 ⟨rfl, b2⟩
 have HK2 := hide (HK1.out.later b2)
 have HB2 : Hid (Below V.heap.size V w2) := hide (HB1.out.trans (b2.mono HB1.out.size))
 have HV2 := hide (below_box b2 HV1.out)
 have HW2 : Hid (Below W.heap.size W w2) := hide (HW1.out.trans (b2.mono HW1.out.size))
 clear b2 u0 u1 u2 u3 u4; go_wp2
 go_ret2
 exact ⟨rfl, HW2.out⟩
set_option maxRecDepth 100000 in
set_option maxHeartbeats 8000000 in
theorem from_ok {W : World} {reg : Int} {op vp dp pp : Option Addr} {on oc vn vc dn dc tn pc n : Nat} {out : List RC} {vec done : List Int} {ts : List TP} (h1 : 1 ≤ n) (h4 : n ≤ 4) (hr : RRow W op oc out) (ho : out.length = on) (hv : NRow W vp vc vec) (hvn : vec.length = vn) (hd : NRow W dp dc done) (hdn : done.length = dn) (hdb : dn < 17592186044416) (ht : TL W pp pc ts) (htn : ts.length = tn) (hf : Fit n ⟨reg, out, vec, done, ts.map TP.t⟩) :
  Calls Tryz.prog 5 #[.int .i64 (n : Int), .agg #[.int .i64 reg, .slice op on oc, .slice vp vn vc, .slice dp dn dc, .slice pp tn pc]] W (FroO W ⟨reg, out, vec, done, ts.map TP.t⟩) := by
 have HR := hide hr; have HO := hide ho; have HN := hide hv; have HVN := hide hvn; have HD := hide hd; have HDN := hide hdn; have HDB := hide hdb; have HT := hide ht; have HTN := hide htn; have H1 := hide h1; have H4 := hide h4; have HF := hide hf
 have i1 : ts.length ≤ pc := ht.row.le
 have i2 := ht.row.top
 rw [htn] at i1
 clear hr ho hv hvn hd hdn hdb ht htn h1 h4 hf
 obtain ⟨V, hV⟩ : ∃ V, V = W.alloc (.cells #[.int .i64 reg, .slice op on oc, .slice vp vn vc, .slice dp dn dc, .slice pp tn pc] 26 (0, 0)) := ⟨_, rfl⟩
 have HV : Hid (V.heap[W.heap.size]? = some (.cells #[.int .i64 reg, .slice op on oc, .slice vp vn vc, .slice dp dn dc, .slice pp tn pc] 26 (0, 0))) := hide (by rw [hV]; exact heap_alloc_new W _)
 have HBV : Hid (Below W.heap.size W V) := hide (by rw [hV]; exact alloc_below _ _)
 obtain ⟨bB, hbB⟩ : ∃ bB, W.heap.size = bB := ⟨_, rfl⟩
 rw [hbB] at HV HBV
 have HZbB := hide hbB
 have HBW : Hid (Below W.heap.size W V) := hide (by rw [HZbB.out]; exact HBV.out)
 have HVL : Hid (bB < V.heap.size) := hide (box_lt HV.out)
 go_enter Tryz.func5, Tryz.ntmps5
 go_upto_region 1 with fail
 rw [← hV]
 try rw [hbB]
 clear hV hbB; have u0 := cellB HV.out (i := 0) rfl; have u1 := cellB HV.out (i := 1) rfl; have u2 := cellB HV.out (i := 2) rfl; have u3 := cellB HV.out (i := 3) rfl; have u4 := cellB HV.out (i := 4) rfl
 go_wp2_with fail
 refine (new_ok H1.out H4.out).mono ?_
 rintro _ w1 ⟨k0, rfl, hk0, hs0, b1⟩
 obtain ⟨kb, mb, p0, c0, q0, d0, r0, e0, rg, ou, ve, dn0, x0⟩ := k0
 have HK1 := hide hk0; have HS0 := hide hs0; have HB1 := hide b1; have HV1 := hide (below_box b1 HV.out)
 have HW1 : Hid (Below W.heap.size W w1) := hide (HBW.out.trans (b1.mono HBW.out.size))
 clear hk0 hs0 b1 u0 u1 u2 u3 u4; have u0 := cellB HV1.out (i := 0) rfl; have u1 := cellB HV1.out (i := 1) rfl; have u2 := cellB HV1.out (i := 2) rfl; have u3 := cellB HV1.out (i := 3) rfl; have u4 := cellB HV1.out (i := 4) rfl
 go_wp2_with fail
 refine (fits_any (n := (n : Int)) (rb := true) HO.out (NRow.later HN.out HW1.out) HVN.out (NRow.later HD.out HW1.out) HDN.out (by have := HDB.out; omega) (HT.out.later HW1.out) HTN.out (by have := H1.out; omega) ⟨fun _ => HF.out, fun _ => rfl⟩).mono ?_
 rintro _ w2 ⟨rfl, b2⟩
 have HK2 := hide (HK1.out.later b2)
 have HB2 : Hid (Below V.heap.size V w2) := hide (HB1.out.trans (b2.mono HB1.out.size))
 have HV2 := hide (below_box b2 HV1.out)
 have HW2 : Hid (Below W.heap.size W w2) := hide (HW1.out.trans (b2.mono HW1.out.size))
 clear b2 u0 u1 u2 u3 u4; have u0 := cellB HV2.out (i := 0) rfl; have u1 := cellB HV2.out (i := 1) rfl; have u2 := cellB HV2.out (i := 2) rfl; have u3 := cellB HV2.out (i := 3) rfl; have u4 := cellB HV2.out (i := 4) rfl
 have hne : ¬ (bB = kb) := fun e => by
  have h9 : V.heap.size ≤ kb := HK2.out.ge.1
  have := HVL.out
  omega
 have k0 : w2.cell? ⟨kb, 0, none⟩ = some (.int .i64 rg) := HK2.out.c0
 have k1 : w2.cell? ⟨kb, 1, none⟩ = some (.slice p0 ou.length c0) := HK2.out.c1
 have k2 : w2.cell? ⟨kb, 2, none⟩ = some (.slice q0 ve.length d0) := HK2.out.c2
 have k3 : w2.cell? ⟨kb, 3, none⟩ = some (.slice r0 dn0.length e0) := HK2.out.c3
 have HKB : Hid (w2.heap[kb]? = some (.cells #[.int .i64 rg, .slice p0 ou.length c0, .slice q0 ve.length d0, .slice r0 dn0.length e0, .map (some mb)] 58 (0, 0))) := hide HK2.out.box
 clear k0 k1 k2 k3
 go_upto_region 6 with fail
 have HX0 : Hid (Only (· = kb) w2 w2.drew) := hide ((Only.refl _ w2).drew)
 refine wp_region_held_drew (S := fun w9 => Only (· = kb) w2 w9) (by kernel_rfl) HX0.out (fun hHeld => ?_)
 refine tb 0 ?_ rfl (by kernel_rfl) (fun _ _ _ h => h) (by assumption) ?_ ?_
 rotate_left
 ·intro w hSw; have l0 := hSw.cell u0 hne
  have l1 := hSw.cell u1 hne; have l2 := hSw.cell u2 hne; have l3 := hSw.cell u3 hne; have l4 := hSw.cell u4 hne
  go_simp
  all_goals with_reducible rfl
 simp only [Act.put]
 refine tb 1 ?_ rfl (by kernel_rfl) (fun _ _ _ h => h) (by assumption) ?_ ?_
 rotate_left
 ·intro w hSw; have l0 := hSw.cell u0 hne
  have l1 := hSw.cell u1 hne; have l2 := hSw.cell u2 hne; have l3 := hSw.cell u3 hne; have l4 := hSw.cell u4 hne
  go_simp
  all_goals with_reducible rfl
 simp only [Act.put]
 refine tb 2 ?_ rfl (by kernel_rfl) (fun _ _ _ h => h) (by assumption) ?_ ?_
 rotate_left
 ·intro w hSw; have l0 := hSw.cell u0 hne
  have l1 := hSw.cell u1 hne; have l2 := hSw.cell u2 hne; have l3 := hSw.cell u3 hne; have l4 := hSw.cell u4 hne
  go_simp
  all_goals with_reducible rfl
 simp only [Act.put]
 refine tb 3 ?_ rfl (by kernel_rfl) (fun _ _ _ h => h) (by assumption) ?_ ?_
 rotate_left
 ·intro w hSw; have l0 := hSw.cell u0 hne
  have l1 := hSw.cell u1 hne; have l2 := hSw.cell u2 hne; have l3 := hSw.cell u3 hne; have l4 := hSw.cell u4 hne
  go_simp
  all_goals with_reducible rfl
 simp only [Act.put]
 refine tb 4 ?_ rfl (by kernel_rfl) (fun _ _ _ h => h) (by assumption) ?_ ?_
 rotate_left
 ·intro w hSw; have l0 := hSw.cell u0 hne
  have l1 := hSw.cell u1 hne; have l2 := hSw.cell u2 hne; have l3 := hSw.cell u3 hne; have l4 := hSw.cell u4 hne
  go_simp
  all_goals with_reducible rfl
 simp only [Act.put]
 refine tb 5 ?_ rfl (by kernel_rfl) (fun _ _ _ h => h) (by assumption) ?_ ?_
 rotate_left
 ·intro w hSw; have l0 := hSw.cell u0 hne
  have l1 := hSw.cell u1 hne; have l2 := hSw.cell u2 hne; have l3 := hSw.cell u3 hne; have l4 := hSw.cell u4 hne
  go_simp
  all_goals with_reducible rfl
 simp only [Act.put]
 refine tb 6 ?_ rfl (by kernel_rfl) (fun _ _ _ h => h) (by assumption) ?_ ?_
 rotate_left
 ·intro w hSw; have l0 := hSw.cell u0 hne
  have l1 := hSw.cell u1 hne; have l2 := hSw.cell u2 hne; have l3 := hSw.cell u3 hne; have l4 := hSw.cell u4 hne
  go_simp
  all_goals with_reducible rfl
 simp only [Act.put]
 refine tb 7 ?_ rfl (by kernel_rfl) (fun _ _ _ h => h) (by assumption) ?_ ?_
 rotate_left
 ·intro w hSw; have l0 := hSw.cell u0 hne
  have l1 := hSw.cell u1 hne; have l2 := hSw.cell u2 hne; have l3 := hSw.cell u3 hne; have l4 := hSw.cell u4 hne
  go_simp
  all_goals with_reducible rfl
 simp only [Act.put]
 refine tb 9 ?_ rfl (by kernel_rfl) (fun _ _ _ h => h) (by assumption) ?_ ?_
 rotate_left
 ·intro w hSw; have l0 := hSw.cell u0 hne
  have l1 := hSw.cell u1 hne; have l2 := hSw.cell u2 hne; have l3 := hSw.cell u3 hne; have l4 := hSw.cell u4 hne
  go_simp
  all_goals with_reducible rfl
 simp only [Act.put]
 refine tb 10 ?_ rfl (by kernel_rfl) (fun _ _ _ h => h) (by assumption) ?_ ?_
 rotate_left
 ·intro w hSw; have l0 := hSw.cell u0 hne
  have l1 := hSw.cell u1 hne; have l2 := hSw.cell u2 hne; have l3 := hSw.cell u3 hne; have l4 := hSw.cell u4 hne
  go_simp
  all_goals with_reducible rfl
 simp only [Act.put]
 refine tb 12 ?_ rfl (by kernel_rfl) (fun _ _ _ h => h) (by assumption) ?_ ?_
 rotate_left
 ·intro w hSw; have l0 := hSw.cell u0 hne
  have l1 := hSw.cell u1 hne; have l2 := hSw.cell u2 hne; have l3 := hSw.cell u3 hne; have l4 := hSw.cell u4 hne
  go_simp
  all_goals with_reducible rfl
 simp only [Act.put]
 refine tb 13 ?_ rfl (by kernel_rfl) (fun _ _ _ h => h) (by assumption) ?_ ?_
 rotate_left
 ·intro w hSw; have l0 := hSw.cell u0 hne
  have l1 := hSw.cell u1 hne; have l2 := hSw.cell u2 hne; have l3 := hSw.cell u3 hne; have l4 := hSw.cell u4 hne
  go_simp
  all_goals with_reducible rfl
 simp only [Act.put]
 refine rr 8 (o := _) rfl (by kernel_rfl) (fun K hK => ?_)
 go_simp
 have HWd : Hid (Below W.heap.size W w2.drew) := hide HW2.out.drew
 refine (recClone (RRow.later HR.out HWd.out) HO.out (by have h9 : out.length ≤ 4096 := HF.out.out; have := HO.out; omega)).mono ?_
 rintro _ w3 ⟨p1, c1, rfl, hown, b0⟩
 have HB3 : Hid (Below w2.heap.size w2 w3) := hide ((Below.refl _ w2).drew.trans b0)
 have HW3 : Hid (Below W.heap.size W w3) := hide (HW2.out.trans (HB3.out.mono HW2.out.size))
 have HO3 : Hid (w3.ownsRow w2.heap.size 54 2 (.slice p1 on c1) on (out.flatMap RC.cells)) := hide hown
 clear hown b0 HWd
 go_wp2_with fail
 refine hK.out _ _ (Only.fresh HB3.out _) (fun hHeld => ?_)
 clear hK
 refine rr 11 (o := _) rfl (by kernel_rfl) (fun K hK => ?_)
 go_simp
 refine (intClone (NRow.later HN.out HW3.out) HVN.out (by have h9 : (vec.length : Int) = n := HF.out.vec.1; have := HVN.out; have := H4.out; omega)).mono ?_
 rintro _ w4 ⟨p2, c2, rfl, hown, b0⟩
 have HB4 : Hid (Below w2.heap.size w2 w4) := hide (HB3.out.trans (b0.mono HB3.out.size))
 have HW4 : Hid (Below W.heap.size W w4) := hide (HW3.out.trans (b0.mono HW3.out.size))
 have HO4 : Hid (w4.ownsRow w2.heap.size 54 2 (.slice p1 on c1) on (out.flatMap RC.cells)) := hide (ownsRow_later HO3.out b0)
 have HN4 : Hid (w4.ownsRow w2.heap.size 2 1 (.slice p2 vn c2) vn (vec.flatMap intCells)) := hide (ownsRow_base hown HB3.out.size)
 clear hown b0
 go_wp2_with fail
 refine hK.out _ _ (Only.fresh HB4.out _) (fun hHeld => ?_)
 clear hK
 refine rr 14 (o := _) rfl (by kernel_rfl) (fun K hK => ?_)
 go_simp
 refine (intClone (NRow.later HD.out HW4.out) HDN.out (by have := HDB.out; omega)).mono ?_
 rintro _ w5 ⟨p3, c3, rfl, hown, b0⟩
 have HB5 : Hid (Below w2.heap.size w2 w5) := hide (HB4.out.trans (b0.mono HB4.out.size))
 have HW5 : Hid (Below W.heap.size W w5) := hide (HW4.out.trans (b0.mono HW4.out.size))
 have HO5 : Hid (w5.ownsRow w2.heap.size 54 2 (.slice p1 on c1) on (out.flatMap RC.cells)) := hide (ownsRow_later HO4.out b0)
 have HN5 : Hid (w5.ownsRow w2.heap.size 2 1 (.slice p2 vn c2) vn (vec.flatMap intCells)) := hide (ownsRow_later HN4.out b0)
 have HD5 : Hid (w5.ownsRow w4.heap.size 2 1 (.slice p3 dn c3) dn (done.flatMap intCells)) := hide hown
 have HP4 : Hid (∀ i, InB p2 i → i < w4.heap.size) := hide (fun i hi => (row_ge HN4.out i hi).2)
 have HK5 := hide (HK2.out.later HB5.out); have HKB5 := hide (below_box HB5.out HKB.out); clear hown b0 u0 u1 u2 u3 u4
 go_wp2_with fail
 refine hK.out _ _ (Only.fresh HB5.out _) (fun hHeld => ?_)
 clear hK; have k0 := cellB HKB5.out (i := 0) rfl; have z0 := frB HKB5.out (i := 0); have k1 := cellB HKB5.out (i := 1) rfl; have z1 := frB HKB5.out (i := 1); have k2 := cellB HKB5.out (i := 2) rfl; have z2 := frB HKB5.out (i := 2); have k3 := cellB HKB5.out (i := 3) rfl; have z3 := frB HKB5.out (i := 3)
 refine tb 15 ?_ rfl (by kernel_rfl) (fun _ _ _ h => h) (by assumption) ?_ ?_
 rotate_left
 ·intro w hSw
  go_simp
  all_goals with_reducible rfl
 simp only [Act.put]
 refine tb 16 ?_ rfl (by kernel_rfl) (fun _ _ _ h => h) (by assumption) ?_ ?_
 rotate_left
 ·intro w hSw
  go_simp
  all_goals with_reducible rfl
 simp only [Act.put]
 refine rr 17 (o := _) rfl (by kernel_rfl) (fun K hK => ?_)
 go_simp
 refine hK.out _ _ ((Only.fresh HB5.out _).trans (Only.set (F := (· = kb)) w5 kb 0 _ rfl)) (fun hHeld => ?_)
 clear hK
 refine tb 18 ?_ rfl (by kernel_rfl) (fun _ _ _ h => h) (by assumption) ?_ ?_
 rotate_left
 ·intro w hSw
  go_simp
  all_goals with_reducible rfl
 simp only [Act.put]
 refine tb 19 ?_ rfl (by kernel_rfl) (fun _ _ _ h => h) (by assumption) ?_ ?_
 rotate_left
 ·intro w hSw
  go_simp
  all_goals with_reducible rfl
 simp only [Act.put]
 refine rr 20 (o := _) rfl (by kernel_rfl) (fun K hK => ?_)
 go_simp
 refine hK.out _ _ (((Only.fresh HB5.out _).trans (Only.set (F := (· = kb)) w5 kb 0 _ rfl)).trans (Only.set (F := (· = kb)) (w5.setCell ⟨kb, 0, none⟩ (.int .i64 reg)) kb 1 _ rfl)) (fun hHeld => ?_)
 clear hK
 refine tb 21 ?_ rfl (by kernel_rfl) (fun _ _ _ h => h) (by assumption) ?_ ?_
 rotate_left
 ·intro w hSw
  go_simp
  all_goals with_reducible rfl
 simp only [Act.put]
 refine tb 22 ?_ rfl (by kernel_rfl) (fun _ _ _ h => h) (by assumption) ?_ ?_
 rotate_left
 ·intro w hSw
  go_simp
  all_goals with_reducible rfl
 simp only [Act.put]
 refine rr 23 (o := _) rfl (by kernel_rfl) (fun K hK => ?_)
 go_simp
 refine hK.out _ _ ((((Only.fresh HB5.out _).trans (Only.set (F := (· = kb)) w5 kb 0 _ rfl)).trans (Only.set (F := (· = kb)) (w5.setCell ⟨kb, 0, none⟩ (.int .i64 reg)) kb 1 _ rfl)).trans (Only.set (F := (· = kb)) ((w5.setCell ⟨kb, 0, none⟩ (.int .i64 reg)).setCell ⟨kb, 1, none⟩ (.slice p1 on c1)) kb 2 _ rfl)) (fun hHeld => ?_)
 clear hK
 refine tb 24 ?_ rfl (by kernel_rfl) (fun _ _ _ h => h) (by assumption) ?_ ?_
 rotate_left
 ·intro w hSw
  go_simp
  all_goals with_reducible rfl
 simp only [Act.put]
 refine tb 25 ?_ rfl (by kernel_rfl) (fun _ _ _ h => h) (by assumption) ?_ ?_
 rotate_left
 ·intro w hSw
  go_simp
  all_goals with_reducible rfl
 simp only [Act.put]
 refine rr 26 (o := _) rfl (by kernel_rfl) (fun K hK => ?_)
 go_simp
 refine hK.out _ _ (((((Only.fresh HB5.out _).trans (Only.set (F := (· = kb)) w5 kb 0 _ rfl)).trans (Only.set (F := (· = kb)) (w5.setCell ⟨kb, 0, none⟩ (.int .i64 reg)) kb 1 _ rfl)).trans (Only.set (F := (· = kb)) ((w5.setCell ⟨kb, 0, none⟩ (.int .i64 reg)).setCell ⟨kb, 1, none⟩ (.slice p1 on c1)) kb 2 _ rfl)).trans (Only.set (F := (· = kb)) (((w5.setCell ⟨kb, 0, none⟩ (.int .i64 reg)).setCell ⟨kb, 1, none⟩ (.slice p1 on c1)).setCell ⟨kb, 2, none⟩ (.slice p2 vn c2)) kb 3 _ rfl)) (fun hHeld => ?_)
 clear hK
 refine wpAnyH_done (by kernel_rfl) ?_ _
 obtain ⟨y, hy⟩ : ∃ y, y = ((((w5.setCell ⟨kb, 0, none⟩ (.int .i64 reg)).setCell ⟨kb, 1, none⟩ (.slice p1 on c1)).setCell ⟨kb, 2, none⟩ (.slice p2 vn c2)).setCell ⟨kb, 3, none⟩ (.slice p3 dn c3)) := ⟨_, rfl⟩
 have HOY : Hid (Only (· = kb) w5 y) := hide (by
   rw [hy]
   exact (((Only.set (F := (· = kb)) w5 kb 0 _ rfl).trans (Only.set (F := (· = kb)) _ kb 1 _ rfl)).trans (Only.set (F := (· = kb)) _ kb 2 _ rfl)).trans (Only.set (F := (· = kb)) _ kb 3 _ rfl))
 have HYB : Hid (y.heap[kb]? = some (.cells #[.int .i64 reg, .slice p1 on c1, .slice p2 vn c2, .slice p3 dn c3, .map (some mb)] 58 (0, 0))) := hide (by
   rw [hy]
   exact heap_set_sameL (heap_set_sameL (heap_set_sameL (heap_set_sameL HKB5.out 0 _) 1 _) 2 _) 3 _)
 rw [← hy]
 clear hy k0 k1 k2 k3 z0 z1 z2 z3 hne
 have HI0 : Hid (FroI V kb ⟨reg, out, vec, done, ts.map TP.t⟩ 0 ⟨kb, mb, p1, c1, p2, c2, p3, c3, reg, out, vec, done, []⟩ y) := hide (by
   have hx0 : x0 = [] := by
     have h9 := congrArg SK.pre HS0.out
     exact List.map_eq_nil_iff.1 h9
   have hge : V.heap.size ≤ w2.heap.size := HB2.out.size
   have hmap : MapT w5 mb 0 [] := by
     have h9 := HK5.out.map
     rw [show (PK.mk kb mb p0 c0 q0 d0 r0 e0 rg ou ve dn0 x0).xs = x0 from rfl, hx0] at h9
     exact h9
   refine ⟨⟨?_, hmap.only HOY.out (fun e => hmap.box HKB5.out e), own_type (t' := 58) ?_ HOY.out HKB5.out (by decide), own_type (t' := 58) ?_ HOY.out HKB5.out (by decide), own_type (t' := 58) ?_ HOY.out HKB5.out (by decide), fun x hx => (by cases hx), ⟨fun i hi hj => ?_, fun x hx => (by cases hx)⟩, HK5.out.ge, ?_⟩, rfl, ⟨rfl, rfl, rfl, rfl, rfl⟩, ?_⟩
   · show y.heap[kb]? = some (.cells #[.int .i64 reg, .slice p1 out.length c1, .slice p2 vec.length c2, .slice p3 done.length c3, .map (some mb)] 58 (0, 0))
     rw [HO.out, HVN.out, HDN.out]
     exact HYB.out
   · show w5.ownsRow V.heap.size _ 2 (.slice p1 out.length c1) out.length _
     rw [HO.out]
     exact ownsRow_base HO5.out hge
   · show w5.ownsRow V.heap.size _ 1 (.slice p2 vec.length c2) vec.length _
     rw [HVN.out]
     exact ownsRow_base HN5.out hge
   · show w5.ownsRow V.heap.size _ 1 (.slice p3 done.length c3) done.length _
     rw [HDN.out]
     exact ownsRow_base HD5.out (Nat.le_trans hge HB4.out.size)
   · have h9 := HP4.out i hi
     have h8 := (row_ge HD5.out i hj).1
     omega
   · exact (HF.out.ok (by have := H1.out; omega) (by have := H4.out; omega)).first 0
   · exact (HB2.out.trans (HB5.out.mono HB2.out.size)).trans (HOY.out.below (Nat.le_trans hge HB5.out.size) (fun i e => by
       have e' : i = kb := e
       have h9 : V.heap.size ≤ kb := HK5.out.ge.1
       omega)))
 have HVY : Hid (y.heap[bB]? = some (.cells #[.int .i64 reg, .slice op on oc, .slice vp vn vc, .slice dp dn dc, .slice pp tn pc] 26 (0, 0))) := hide (HOY.out.obj (below_box HB5.out HV2.out) (fun e => by
   have e' : bB = kb := e
   have h9 : V.heap.size ≤ kb := HK5.out.ge.1
   have := HVL.out
   omega))
 clear HK1 HB1 HV1 HW1 HK2 HX0 HB3 HW3 HO3 HB4 HW4 HO4 HN4 HO5 HN5 HD5 HP4 HK5 HKB5 HKB HYB HOY HB5 HW5 HS0 HV2 HW2 HB2; have u4 := cellB HVY.out (i := 4) rfl
 go_wp2_with fail
 clear u4
 go_loopw [48] (fun i wr => ∃ (j : Nat) (k : PK), j ≤ tn ∧ i = .int .i64 (j : Int) ∧ Hid (FroI V kb ⟨reg, out, vec, done, ts.map TP.t⟩ j k wr)) (fun i _ => tn - (intOf i).toNat)
 case atStart => exact ⟨0, _, Nat.zero_le _, rfl, HI0⟩
 case round =>
  obtain ⟨j, k, hj, rfl, HI⟩ := hrel
  rename World => wq
  by_cases hlt : j < tn
  ·have hlt2 : j < ts.length := by rw [HTN.out]; exact hlt
   have hlt3 : j < (ts.map TP.t).length := by rw [List.length_map]; exact hlt2
   have HTq := hide (HT.out.later (HBW.out.trans (HI.out.below.mono HBW.out.size)))
   obtain ⟨x, hx⟩ : ∃ x, ts[j]! = x := ⟨_, rfl⟩
   have hx3 : (ts.map TP.t)[j]! = x.t := by rw [getElem!_pos (ts.map TP.t) j hlt3, List.getElem_map, ← hx, getElem!_pos ts j hlt2]
   obtain ⟨g, o, rfl, b0, b1, b2, b3, b4, hxo⟩ := TL.at HTq.out hlt2 hx
   have hxr := hxo.r; have hxn := hxo.v; have HNO := hide (HI.out.none HF.out hlt3 hx3); have HX3 := hide hx3; have HL3 := hide hlt3
   obtain ⟨⟨ep, id, bg, rs, vs⟩, rp, rc, xp, xc⟩ := x
   simp only at b0 b1 b2 b3 b4 hxr hxn
   have HXR : Hid (RRow wq rp rc rs) := hide hxr
   have HXN : Hid (NRow wq xp xc vs) := hide hxn
   clear hxr hxn
   obtain ⟨X, hX⟩ : ∃ X, X = wq.alloc (.cells #[.int .i64 ep, .int .i64 id, .int .i64 bg, .slice rp rs.length rc, .slice xp vs.length xc] 28 (0, 0)) := ⟨_, rfl⟩
   have HXX : Hid (X.heap[wq.heap.size]? = some (.cells #[.int .i64 ep, .int .i64 id, .int .i64 bg, .slice rp rs.length rc, .slice xp vs.length xc] 28 (0, 0))) := hide (by rw [hX]; exact heap_alloc_new wq _)
   have HQX : Hid (Below wq.heap.size wq X) := hide (by rw [hX]; exact alloc_below _ _)
   have HIX := hide (HI.out.later HQX.out)
   obtain ⟨kb2, mb2, p1, c1, q1, d1, r1, e1, rg1, ou1, ve1, dn1, x1⟩ := k
   have hkb : kb = kb2 := HI.out.b.symm
   subst hkb
   have m4 : X.cell? ⟨kb, 4, none⟩ = some (.map (some mb2)) := HIX.out.ps.c4
   obtain ⟨tB, htB⟩ : ∃ tB, wq.heap.size = tB := ⟨_, rfl⟩
   have HTB := hide htB
   rw [htB] at HXX
   have HMY : Hid (mayC n ⟨ep, id, bg, rs, vs⟩ ∧ ep = reg ∧ id ∉ done) := hide (HF.out.pre.may _ HNO.out.2.2.1)
   have hne1 : ¬ (kb = mb2) := fun e => HIX.out.ps.map.box HIX.out.ps.box e.symm
   have hne2 : ¬ (tB = mb2) := fun e => by
    have h9 : mb2 < wq.heap.size := (HI.out.ps.lt (.inr (.inl rfl))).2
    have := HTB.out
    omega
   clear hxo hx hx3 hlt2 hlt3
   go_upto_region 10 with fail
   rw [← hX]
   try rw [htB]
   clear hX htB; have z0 := cellB HXX.out (i := 0) rfl; have z1 := cellB HXX.out (i := 1) rfl; have z2 := cellB HXX.out (i := 2) rfl; have z3 := cellB HXX.out (i := 3) rfl; have z4 := cellB HXX.out (i := 4) rfl
   have HX0 : Hid (Only (· = mb2) X X.drew) := hide ((Only.refl _ X).drew)
   refine wp_region_held_drew (S := fun w9 => Only (· = mb2) X w9) (by kernel_rfl) HX0.out (fun hHeld => ?_)
   refine tb 0 ?_ rfl (by kernel_rfl) (fun _ _ _ h => h) (by assumption) ?_ ?_
   rotate_left
   ·intro w hSw; have l4 := hSw.cell m4 hne1
    have t0 := hSw.cell z0 hne2; have t1 := hSw.cell z1 hne2; have t2 := hSw.cell z2 hne2; have t3 := hSw.cell z3 hne2; have t4 := hSw.cell z4 hne2
    go_simp
    all_goals with_reducible rfl
   simp only [Act.put]
   refine tb 1 ?_ rfl (by kernel_rfl) (fun _ _ _ h => h) (by assumption) ?_ ?_
   rotate_left
   ·intro w hSw; have l4 := hSw.cell m4 hne1
    have t0 := hSw.cell z0 hne2; have t1 := hSw.cell z1 hne2; have t2 := hSw.cell z2 hne2; have t3 := hSw.cell z3 hne2; have t4 := hSw.cell z4 hne2
    go_simp
    all_goals with_reducible rfl
   simp only [Act.put]
   refine tb 2 ?_ rfl (by kernel_rfl) (fun _ _ _ h => h) (by assumption) ?_ ?_
   rotate_left
   ·intro w hSw; have l4 := hSw.cell m4 hne1
    have t0 := hSw.cell z0 hne2; have t1 := hSw.cell z1 hne2; have t2 := hSw.cell z2 hne2; have t3 := hSw.cell z3 hne2; have t4 := hSw.cell z4 hne2
    go_simp
    all_goals with_reducible rfl
   simp only [Act.put]
   refine tb 3 ?_ rfl (by kernel_rfl) (fun _ _ _ h => h) (by assumption) ?_ ?_
   rotate_left
   ·intro w hSw; have l4 := hSw.cell m4 hne1
    have t0 := hSw.cell z0 hne2; have t1 := hSw.cell z1 hne2; have t2 := hSw.cell z2 hne2; have t3 := hSw.cell z3 hne2; have t4 := hSw.cell z4 hne2
    go_simp
    all_goals with_reducible rfl
   simp only [Act.put]
   refine tb 4 ?_ rfl (by kernel_rfl) (fun _ _ _ h => h) (by assumption) ?_ ?_
   rotate_left
   ·intro w hSw; have l4 := hSw.cell m4 hne1
    have t0 := hSw.cell z0 hne2; have t1 := hSw.cell z1 hne2; have t2 := hSw.cell z2 hne2; have t3 := hSw.cell z3 hne2; have t4 := hSw.cell z4 hne2
    go_simp
    all_goals with_reducible rfl
   simp only [Act.put]
   refine tb 6 ?_ rfl (by kernel_rfl) (fun _ _ _ h => h) (by assumption) ?_ ?_
   rotate_left
   ·intro w hSw; have l4 := hSw.cell m4 hne1
    have t0 := hSw.cell z0 hne2; have t1 := hSw.cell z1 hne2; have t2 := hSw.cell z2 hne2; have t3 := hSw.cell z3 hne2; have t4 := hSw.cell z4 hne2
    go_simp
    all_goals with_reducible rfl
   simp only [Act.put]
   refine rr 5 (o := _) rfl (by kernel_rfl) (fun K hK => ?_)
   go_simp
   refine name_any.mono ?_
   rintro _ w6 ⟨rfl, b0⟩
   have HX6 : Hid (Below X.heap.size X w6) := hide ((Below.refl _ X).drew.trans b0)
   have HI6 := hide (HIX.out.later HX6.out)
   have HQ6 : Hid (Below wq.heap.size wq w6) := hide (HQX.out.trans (HX6.out.mono HQX.out.size))
   clear b0
   go_wp2_with fail
   refine hK.out _ _ (Only.fresh HX6.out _) (fun hHeld => ?_)
   clear hK
   refine rr 7 (o := _) rfl (by kernel_rfl) (fun K hK => ?_)
   go_simp
   refine (cloneTxn_any (RRow.later HXR.out HQ6.out) (NRow.later HXN.out HQ6.out) rfl rfl (by have h9 : rs.length ≤ 4096 := HMY.out.1.2.2.2.2.1; omega) (by have h9 : (vs.length : Int) = n := HMY.out.1.2.2.2.2.2.1; have := H4.out; omega)).mono ?_
   intro e7 w7 hcl
   obtain ⟨pa, ca, qa, da, rfl, o1, o2, b7⟩ := hcl
   obtain ⟨w8, hup, hps, ho8⟩ := HI6.out.ps.addT (ep := ep) (id := id) (bg := bg) b7 o1 o2 rfl rfl (by rw [HMY.out.2.1]; exact HI6.out.eq.1.symm) (by show mayC (ve1.length : Int) _; rw [HNO.out.2.2.2]; exact HMY.out.1) (by rw [show (PK.mk kb mb2 p1 c1 q1 d1 r1 e1 rg1 ou1 ve1 dn1 x1).done = dn1 from rfl, show dn1 = done from HI6.out.eq.2.2.2.1]; exact HMY.out.2.2) HNO.out.1 HNO.out.2.1
   simp only [keyV] at hup
   have HI8 := hide (FroI.next HI6.out rfl HF.out HL3.out HX3.out hps ho8 b7); have HO8 := hide ho8
   have HX7 : Hid (Below X.heap.size X w7) := hide (HX6.out.trans (b7.mono HX6.out.size))
   have HV8 : Hid (True) := hide trivial
   clear o1 o2 b7 ho8 hps
   go_wp2_with fail
   refine hK.out _ _ (Only.fresh HX7.out _) (fun hHeld => ?_)
   clear hK
   refine rr 8 (o := _) rfl (by kernel_rfl) (fun K hK => ?_)
   go_simp
   refine hK.out _ _ ((Only.fresh HX7.out (· = mb2)).trans HO8.out) (fun hHeld => ?_)
   clear hK
   refine wpAnyH_done (by kernel_rfl) ?_ _
   go_wp2
   exact ⟨⟨j + 1, _, by omega, by first | rfl | go_num, HI8⟩, by simp [intOf]; omega⟩
  ·obtain rfl : j = tn := by omega
   have hsk := HI.out.sk (by show (ts.map TP.t).length ≤ j; rw [List.length_map, HTN.out]; exact Nat.le_refl _); have HSK := hide hsk; clear hsk; go_wp2
   go_ret2
   refine ⟨k, ?_, ?_, HSK.out, HBW.out.trans (HI.out.below.mono HBW.out.size)⟩
   ·rw [HI.out.b]
    rfl
   ·exact PS.base HI.out.ps HBW.out.size
end Go.Proofs.YtboofnkajjnmeaaGreat
