/-
  The program's results: what each operator comes to. The conditions: inputs come from ports that there are, ahead, each from one of its own; what each operator alone comes to; lengths.
-/
import Derived.Test.YtifldnpccgbnkaaGreatRin
import Derived.Deep.CutRange
namespace Go.Proofs.YtifldnpccgbnkaaGreat
open Go.RowKit Go.Shelf

set_option maxRecDepth 100000 in
set_option maxHeartbeats 16000000 in
theorem results_any {rf : GO → List (List RC) → RS} {W : World} {p q : Option Addr} {cap qc n L : Nat} {os : List OV} {xs : List SV} {dn : List RS} (ho : GRow W p cap os) (hn : os.length = n) (hx : LL W q qc xs) (hL : xs.length = L) (hf : Fits rf (os.map OV.o) (xs.map SV.rs) dn) (hxs : ∀ x ∈ xs, x.rs.length ≤ lenB) :
    Calls Tryz.prog 18 #[.slice p n cap, .slice q L qc] W fun e w' => ∃ db rv, e = .returned (.slice (some ⟨db, 0, none⟩) n n) ∧ DI w' W.heap.size db n n dn (flatC (os.map OV.o)) rv ∧ Below W.heap.size W w' := by
  obtain ⟨i0, hI0, hz0, hz1, hz2⟩ := info_parts Tryz.infoRes
  obtain ⟨k0, hK0, hy0, hy1, hy2⟩ := info_parts Tryz.infoRecs
  have i1 := ho.le
  have i2 := ho.top
  have i3 := hx.row.le
  have i4 := hx.row.top
  rw [hn] at i1
  rw [hL] at i3
  have hml : (os.map OV.o).length = n := by rw [List.length_map]; exact hn
  have hn24 : n ≤ 24 := by rw [← hml]; exact hf.few
  obtain ⟨w1, hrun, hown, hgr⟩ := run_make_full W W.heap.size 63 62 i0 (.agg #[.slice none 0 0, .slice none 0 0, .int .i64 0, .slice none 0 0]) 4 Tryz.underlying63 hI0 hz0 hz1 .i64 .i64 n (by rw [hz2]; omega) (by unfold maxLen; omega) (Nat.le_refl _)
  rw [made_res] at hown
  have hb1 : Below W.heap.size W w1 := (Below.refl _ W).grown hgr (Nat.le_refl _) (fun k hk => by simp at hk)
  obtain ⟨db, hdb⟩ : ∃ db, W.heap.size = db := ⟨_, rfl⟩
  rw [hdb] at hrun
  have HD0 : Hid (DI w1 W.heap.size db n 0 dn (flatC ((os.map OV.o).take 0)) (List.replicate n default)) := hide ⟨by simp, by rw [← hdb]; exact hown, fun i hi => absurd hi (Nat.not_lt_zero i), fun i hi => absurd hi (Nat.not_lt_zero i), fun i _ hi => absurd hi (Nat.not_lt_zero i)⟩
  have HB1 := hide hb1
  have HO := hide ho
  have HX := hide hx
  have HN := hide hn
  have HL := hide hL
  have HF := hide hf
  have HXS := hide hxs
  have HML := hide hml
  have HDB := hide hdb
  clear ho hx hn hL hf hxs hml hown hgr hb1 hdb
  go_enter Tryz.func18, Tryz.ntmps18
  go_wp2_with fail
  go_loopw [17] (fun s wr => ∃ (k : Nat) (rv : List RV), k ≤ n ∧ s = .int .i64 (k : Int) ∧ Hid (DI wr W.heap.size db n k dn (flatC ((os.map OV.o).take k)) rv) ∧ Hid (Below W.heap.size W wr)) (fun s _ => n - (intOf s).toNat)
  case atStart => exact ⟨0, _, Nat.zero_le _, rfl, HD0, HB1⟩
  case round =>
    obtain ⟨k, rv, hk, rfl, HD, HB⟩ := hrel
    clear HD0 HB1 hrun
    by_cases hlt : k < n
    · have hlt2 : k < os.length := by rw [HN.out]; exact hlt
      have hltm : k < (os.map OV.o).length := by rw [HML.out]; exact hlt
      have hrow := HO.out.below HB.out
      obtain ⟨g, o, rfl, hc⟩ := hrow.cell k hlt2
      have hxm : os[k]! ∈ os := by rw [getElem!_pos os k hlt2]; exact List.getElem_mem _
      have hxo := hrow.ok _ hxm
      have hgo := getO os hlt2
      obtain ⟨x, hxx⟩ : ∃ x, os[k]! = x := ⟨_, rfl⟩
      rw [hxx] at hc hxo hgo
      obtain ⟨⟨kd, pt, fn, ar, ins⟩, ip, ic⟩ := x
      have HER : Hid (∀ X, Below W.heap.size W X → ERow X ip ic ins) := hide (fun X hX => by
        have h9 := (HO.out.below hX).ok _ hxm
        rw [hxx] at h9
        exact h9)
      have hic := hxo.le
      have hit := hxo.top
      simp only at hic hit hgo
      have d0 : wr.cell? ⟨g, o + k * 5, none⟩ = some (.int .i64 kd) := hc 0 (by omega)
      have d1 : wr.cell? ⟨g, o + k * 5 + 1, none⟩ = some (.int .i64 pt) := hc 1 (by omega)
      have d2 : wr.cell? ⟨g, o + k * 5 + 2, none⟩ = some (.int .i64 fn) := hc 2 (by omega)
      have d3 : wr.cell? ⟨g, o + k * 5 + 3, none⟩ = some (.int .i64 ar) := hc 3 (by omega)
      have d4 : wr.cell? ⟨g, o + k * 5 + 4, none⟩ = some (.slice ip ins.length ic) := hc 4 (by omega)
      have hat := HF.out.at' k hltm
      have hsrc := HF.out.src k hltm
      have hinsf := HF.out.ins k hltm
      have hres := HF.out.res k hltm
      have hflat : flatC ((os.map OV.o).take (k + 1)) = flatC ((os.map OV.o).take k) ++ ins := by rw [takeS hltm, flat_snoc, hgo]
      rw [hgo] at hat hsrc hinsf hres
      simp only at hat hsrc hinsf hres
      obtain ⟨wb, hwb⟩ : ∃ wb, wb = wr.alloc (.cells #[.int .i64 kd, .int .i64 pt, .int .i64 fn, .int .i64 ar, .slice ip ins.length ic] 55 (0, 0)) := ⟨_, rfl⟩
      have bb : Below wr.heap.size wr wb := by rw [hwb]; exact alloc_below _ _
      have xbox : wb.heap[wr.heap.size]? = some (.cells #[.int .i64 kd, .int .i64 pt, .int .i64 fn, .int .i64 ar, .slice ip ins.length ic] 55 (0, 0)) := by rw [hwb]; exact heap_alloc_new _ _
      have HXO := hide hxo
      have HBB := hide (HB.out.trans (bb.mono HB.out.size))
      have HDB2 := hide (HD.out.later bb)
      have HGO := hide hgo
      have HFL := hide hflat
      have HBX := hide xbox
      have HAT := hide hat
      have e0 : wb.cell? ⟨wr.heap.size, 0, none⟩ = some (.int .i64 kd) := by simp [World.cell?, xbox]
      have e1 : wb.cell? ⟨wr.heap.size, 1, none⟩ = some (.int .i64 pt) := by simp [World.cell?, xbox]
      by_cases hk1 : kd = 1
      · obtain ⟨s1, s2, s3⟩ := hsrc hk1
        subst hk1
        obtain ⟨t, rfl⟩ : ∃ t : Nat, pt = (t : Int) := ⟨pt.toNat, by omega⟩
        have st : t < xs.length := by simpa using s2
        have stL : t < L := by rw [← HL.out]; exact st
        have hll := HX.out.later HBB.out
        obtain ⟨g2, o2, rfl, hcx⟩ := hll.at st
        have hym : xs[t]! ∈ xs := by rw [getElem!_pos xs t st]; exact List.getElem_mem _
        have hyr : RRow wb (xs[t]!).p (xs[t]!).c (xs[t]!).rs := hll.ok _ hym
        have hyl := HXS.out _ hym
        unfold lenB at hyl
        obtain ⟨y, hy⟩ : ∃ y, xs[t]! = y := ⟨_, rfl⟩
        rw [hy] at hcx hyr hyl
        obtain ⟨rs, yp, yc⟩ := y
        simp only at hcx hyr hyl
        obtain ⟨N, hN⟩ : ∃ N, rs.length = N := ⟨_, rfl⟩
        rw [hN] at hcx hyl
        have HCL := hide (recClone hyr hN (by omega))
        have hpl : dn[k]! = ⟨[rs], [], 0, []⟩ := by
          rw [HAT.out]
          unfold resC
          rw [if_pos rfl]
          simp only [Int.toNat_natCast]
          rw [getElem!_pos (xs.map SV.rs) t (by simpa using st), List.getElem_map, ← getElem!_pos xs t st, hy]
        have HPL := hide hpl
        have HNN := hide hN
        have HS3 := hide s3
        clear hym hyr hy hll hsrc hinsf hres hat hxx hxm hxo hc hrow hltm hlt2 s1 s2 s3 hpl hN xbox bb hflat hgo
        go_upto_region 5 with fail
        rw [← hwb]
        clear hwb d0 d1 d2 d3 d4
        go_wp2_with fail
        refine HCL.out.mono ?_
        rintro _ w2 ⟨p', c', rfl, hO2, hB2⟩
        obtain ⟨w3, hw3⟩ : ∃ w3, w3 = w2.alloc (.cells #[.slice p' N c'] 26 (0, 0)) := ⟨_, rfl⟩
        have b3 : Below w2.heap.size w2 w3 := by rw [hw3]; exact alloc_below _ _
        have hone : w3.ownsRow wb.heap.size 26 1 (.slice (some ⟨w2.heap.size, 0, none⟩) 1 1) 1 [.slice p' N c'] := by rw [hw3]; exact own_one hB2.size
        have hD3 := HDB2.out.later (hB2.trans (b3.mono hB2.size))
        obtain ⟨x, hxd⟩ : ∃ x : RV, x = ⟨[⟨rs, p', c'⟩], some ⟨w2.heap.size, 0, none⟩, 1, [], none, 0, 0, 0, [], none, 0⟩ := ⟨_, rfl⟩
        have hxok : x.ok w3 wb.heap.size := by
          rw [hxd]
          refine ⟨?_, ?_, World.ownsRow_nil _ _ _ _, World.ownsRow_nil _ _ _ _, fun y hy => (by cases hy), fun g9 _ h9 => (by simp [RV.bv, Value.ownBlock] at h9)⟩
          · show w3.ownsRow wb.heap.size 26 1 (.slice (some ⟨w2.heap.size, 0, none⟩) 1 1) 1 [.slice p' rs.length c']
            rw [HNN.out]
            exact hone
          · intro y hy
            simp only [List.mem_singleton] at hy
            rw [hy]
            show w3.ownsRow wb.heap.size 71 2 (.slice p' rs.length c') rs.length _
            rw [HNN.out]
            exact ownsRow_later hO2 b3
        have hrel : RelP (flatC ((os.map OV.o).take (k + 1))) k x dn[k]! := by
          rw [HPL.out, hxd]
          refine ⟨rfl, rfl, rfl, rfl, fun j hj => ?_⟩
          have hj0 : j = 0 := by simpa using hj
          subst hj0
          rw [if_neg]
          · rfl
          · rw [HFL.out, HS3.out, List.append_nil]
            exact fun hm => ahead_not HF.out (Nat.le_of_lt hlt) HML.out (Nat.le_succ k) hm
        have hD4 : DI w3 W.heap.size db n k dn (flatC ((os.map OV.o).take (k + 1))) rv := by rw [HFL.out, HS3.out, List.append_nil]; exact hD3
        have HD5 := hide (hD4.push hlt hxok HBB.out.size (fun i hi g9 => ⟨fun e => Nat.lt_of_lt_of_le ((HDB2.out.old i hi g9).1 e) (Nat.le_refl _), fun e => Nat.lt_of_lt_of_le ((HDB2.out.old i hi g9).2 e) (Nat.le_refl _)⟩) hrel)
        obtain ⟨c0, c1, c2, c3, f0, f1, f2, f3, f4, f5, f6, f7⟩ := setR_facts hD4.row hlt (.slice (some ⟨w2.heap.size, 0, none⟩) 1 1) (.slice none 0 0) (.int .i64 0)
        have hBW3 : Below W.heap.size W w3 := HBB.out.trans ((hB2.trans (b3.mono hB2.size)).mono HBB.out.size)
        have HB5 : Hid (Below W.heap.size W (setR w3 db k x)) := hide (hBW3.trans ((setR_only w3 db k x).below hBW3.size (fun i e => by have e' : i = db := e; have := HDB.out; omega)))
        have hset : setR w3 db k x = (((w3.setCell ⟨db, k * 4, none⟩ (.slice (some ⟨w2.heap.size, 0, none⟩) 1 1)).setCell ⟨db, k * 4 + 1, none⟩ (.slice none 0 0)).setCell ⟨db, k * 4 + 2, none⟩ (.int .i64 0)).setCell ⟨db, k * 4 + 3, none⟩ (.slice none 0 0) := by rw [hxd]; rfl
        rw [hset, hw3] at HD5 HB5
        rw [hw3] at f0 f1 f2 f3 f4 f5 f6 f7
        clear hset hBW3 hD4 hrel hxok hD3 hone b3 hO2 hB2 HCL hw3 hcx e0 e1
        go_wp2
        exact ⟨⟨k + 1, _, by omega, by first | rfl | go_num, HD5, HB5⟩, by simp [intOf]; omega⟩
      · obtain ⟨m4, hedge⟩ := hinsf hk1
        have hres1 := hres hk1
        have hke : (kd == 1) = false := by simpa using hk1
        obtain ⟨m, hm⟩ : ∃ m, ins.length = m := ⟨_, rfl⟩
        have hpl : dn[k]! = rf ⟨kd, pt, fn, ar, ins⟩ (ins.map fun e => (dn[e.f.toNat]!).ports[e.p.toNat]!) := by
          rw [HAT.out]
          unfold resC
          rw [if_neg hk1]
        have HPL := hide hpl
        have HRE := hide hres1
        have HED := hide hedge
        have HM := hide hm
        have e4 : wb.cell? ⟨wr.heap.size, 4, none⟩ = some (.slice ip m ic) := by simp [World.cell?, xbox, hm]
        have HNI : Hid (∀ j, j < m → ins[j]! ∉ flatC ((os.map OV.o).take k) ++ ins.take j) := hide (fun j hj => by
          have h9 := flat_take_not HF.out.once hltm (j := j) (by rw [HGO.out]; simp only; omega)
          rw [HGO.out] at h9
          exact h9)
        rw [hm] at m4 d4 hwb hic
        rw [hm] at HBX
        clear hsrc hinsf hres hat hxx hxm hxo hc hrow hltm hlt2 hpl hres1 hedge hm xbox bb hflat hgo
        obtain ⟨v1, hrun1, hown1, hgr1⟩ := run_make_full wb W.heap.size 25 26 k0 (.slice none 0 0) 1 Tryz.underlying25 hK0 hy0 hy1 .i64 .i64 m (by rw [hy2]; omega) (by unfold maxLen; omega) HBB.out.size
        rw [made_lists] at hown1
        have hbv : Below wb.heap.size wb v1 := (Below.refl _ wb).grown hgr1 (Nat.le_refl _) (fun k hk => by simp at hk)
        obtain ⟨ib, hib⟩ : ∃ ib, wb.heap.size = ib := ⟨_, rfl⟩
        rw [hib] at hrun1 hown1
        obtain ⟨xb, hxb⟩ : ∃ xb, wr.heap.size = xb := ⟨_, rfl⟩
        have hxi : xb < ib := by
          rw [← hib, ← hxb]
          exact (Array.getElem?_eq_some_iff.1 HBX.out).1
        have hv4 : v1.cell? ⟨xb, 4, none⟩ = some (.slice ip m ic) := by rw [← hxb]; exact cell_later hbv e4
        rw [hxb] at HBX e0 e4
        have HI0 : Hid (InI v1 W db n k ib xb m 0 dn (flatC ((os.map OV.o).take k)) ins (.cells #[.int .i64 kd, .int .i64 pt, .int .i64 fn, .int .i64 ar, .slice ip m ic] 55 (0, 0)) rv (List.replicate m default)) := by
          refine hide ⟨?_, hown1, by simp, fun i hi => absurd hi (Nat.not_lt_zero i), ?_, below_box hbv HBX.out, HBB.out.trans (hbv.mono HBB.out.size)⟩
          · rw [List.take_zero, List.append_nil]
            exact HDB2.out.later hbv
          · intro i hi g9
            rw [← hib]
            exact HDB2.out.old i hi g9
        have hWi : W.heap.size ≤ ib := by rw [← hib]; exact HBB.out.size
        clear hown1 hgr1 hbv
        go_upto_region 5 with fail
        rw [← hwb]
        try rw [hxb]
        clear hwb d0 d1 d2 d3 d4 hib hxb
        go_wp2_with fail
        go_loopw [43] (fun s wz => ∃ (j : Nat) (rv' : List RV) (ys : List SV), j ≤ m ∧ s = .int .i64 (j : Int) ∧ Hid (InI wz W db n k ib xb m j dn (flatC ((os.map OV.o).take k)) ins (.cells #[.int .i64 kd, .int .i64 pt, .int .i64 fn, .int .i64 ar, .slice ip m ic] 55 (0, 0)) rv' ys)) (fun s _ => m - (intOf s).toNat)
        case atStart => exact ⟨0, rv, _, Nat.zero_le _, rfl, HI0⟩
        case round =>
          obtain ⟨j, rv', ys, hjm, rfl, HI⟩ := hrel
          rename World => wz
          clear HI0 hrun1 e0 e1 e4 hv4
          by_cases hjl : j < m
          · have hjl2 : j < ins.length := by rw [HM.out]; exact hjl
            obtain ⟨g3, o3, he3, t0, t1⟩ := (HER.out wz HI.out.below).cell j hjl2
            subst he3
            have hem : ins[j]! ∈ ins := by rw [getElem!_pos ins j hjl2]; exact List.getElem_mem _
            obtain ⟨f, pj, hee, hfk, hpj⟩ := HED.out _ hem
            rw [hee] at t0 t1
            simp only at t0 t1
            obtain ⟨vz, hvz⟩ : ∃ vz, vz = wz.alloc (.cells #[.int .i64 (f : Int), .int .i64 (pj : Int)] 52 (0, 0)) := ⟨_, rfl⟩
            have bz : Below wz.heap.size wz vz := by rw [hvz]; exact alloc_below _ _
            have ebox : vz.heap[wz.heap.size]? = some (.cells #[.int .i64 (f : Int), .int .i64 (pj : Int)] 52 (0, 0)) := by rw [hvz]; exact heap_alloc_new _ _
            obtain ⟨eb, heb⟩ : ∃ eb, wz.heap.size = eb := ⟨_, rfl⟩
            rw [heb] at ebox
            have z0 : vz.cell? ⟨eb, 0, none⟩ = some (.int .i64 (f : Int)) := by simp [World.cell?, ebox]
            have z1 : vz.cell? ⟨eb, 1, none⟩ = some (.int .i64 (pj : Int)) := by simp [World.cell?, ebox]
            obtain ⟨x, y, pg, M, pc, c0, hMx, hpM, hMc, hpc, k0', k1', k2', k3', k4', k5', hst⟩ := (HI.out.later bz).step (Nat.le_of_lt hlt) HM.out hjl hxi hee hfk hpj (HNI.out j hjl)
            have HST := hide hst
            obtain ⟨yl, hyl⟩ : ∃ yl, y.rs.length = yl := ⟨_, rfl⟩
            rw [hyl] at k1' k4' k5' HST
            have hfn : f < n := by omega
            have z2 : (vz.setCell ⟨ib, j, none⟩ (.slice y.p yl y.c)).cell? ⟨eb, 1, none⟩ = some (.int .i64 (pj : Int)) := (Only.set (F := fun i => i = ib) vz ib j _ rfl).cell z1 (fun e => by
              have e2 : eb = ib := e
              have h9 := (own_block_lt HI.out.row (b := ib) rfl).1
              omega)
            clear hst bz ebox hem hee hjl2 hyl hMx
            go_upto_region 11 with fail
            rw [← hvz]
            try rw [heb]
            clear hvz heb t0 t1
            go_upto_region 12 with fail
            go_region
            all_goals
              have HS2 := hide (HST.out.later ((Below.refl _ _).drew))
              clear HST k0' k1' k2' k3' k4' k5' z0 z1 z2
              go_wp2
              exact ⟨⟨j + 1, _, _, by omega, by first | rfl | go_num, HS2⟩, by simp [intOf]; omega⟩
          · obtain rfl : j = m := by omega
            have hbox := HI.out.box
            have b0 : wz.cell? ⟨xb, 0, none⟩ = some (.int .i64 kd) := by simp [World.cell?, hbox]
            have b1 : wz.cell? ⟨xb, 1, none⟩ = some (.int .i64 pt) := by simp [World.cell?, hbox]
            have b2 : wz.cell? ⟨xb, 2, none⟩ = some (.int .i64 fn) := by simp [World.cell?, hbox]
            have b3 : wz.cell? ⟨xb, 3, none⟩ = some (.int .i64 ar) := by simp [World.cell?, hbox]
            have b4 : wz.cell? ⟨xb, 4, none⟩ = some (.slice ip j ic) := by simp [World.cell?, hbox]
            have hys : ∀ y ∈ ys, y.own wz W.heap.size ∧ y.rs.length ≤ lenB ∧ ∀ r ∈ y.rs, r.fine := fun y hy => by
              obtain ⟨i, hi, rfl⟩ := List.getElem_of_mem hy
              have hij : i < j := by have := HI.out.len; omega
              have h9 := HI.out.at' i hij
              rw [getElem!_pos ys i hi] at h9
              have hem : ins[i]! ∈ ins := by rw [getElem!_pos ins i (by have := HM.out; omega)]; exact List.getElem_mem _
              obtain ⟨f, pj, hee, hfk, hpj⟩ := HED.out _ hem
              rw [hee] at h9
              simp only [Int.toNat_natCast] at h9
              have h10 := HF.out.size f (by have := HML.out; omega) ((dn[f]!).ports[pj]!) (by rw [getElem!_pos (dn[f]!).ports pj hpj]; exact List.getElem_mem _)
              rw [← h9.2] at h10
              exact ⟨h9.1, h10⟩
            have hLL : LL wz (some ⟨ib, 0, none⟩) j ys := ⟨LRow.of_own SV.len HI.out.len HI.out.row, fun y hy => (hys y hy).1.ok⟩
            have hra := HRE.out wz ip (some ⟨ib, 0, none⟩) ic j j ys hLL HI.out.len (by simp only; exact HM.out.symm) m4 (fun y hy => (hys y hy).2.1) (fun y hy => (hys y hy).2.2)
            simp only [HM.out] at hra
            have HRA := hide hra
            have hmap : ys.map SV.rs = ins.map fun e => (dn[e.f.toNat]!).ports[e.p.toNat]! := by
              apply List.ext_getElem
              · rw [List.length_map, List.length_map, HI.out.len, HM.out]
              · intro i h1 h2
                have hiy : i < ys.length := by simpa using h1
                have hii : i < ins.length := by simpa using h2
                have h9 := (HI.out.at' i (by have := HM.out; omega)).2
                rw [getElem!_pos ys i hiy, getElem!_pos ins i hii] at h9
                rw [List.getElem_map, List.getElem_map]
                exact h9
            have HMAP := hide hmap
            clear hra hLL hys hbox hmap
            go_wp2_with fail
            refine HRA.out.mono ?_
            rintro _ w3 ⟨x, rfl, hxok, hxp, hB3⟩
            rw [HMAP.out, ← HPL.out] at hxp
            have hD3 := HI.out.di.later hB3
            rw [show ins.take j = ins from List.take_of_length_le (by rw [HM.out]; exact Nat.le_refl _), ← HFL.out] at hD3
            have hrel : RelP (flatC ((os.map OV.o).take (k + 1))) k x dn[k]! := by
              rw [← hxp]
              refine ⟨rfl, rfl, rfl, by simp [RV.plain], fun i hi => ?_⟩
              have hi2 : i < x.ports.length := by simpa [RV.plain] using hi
              rw [if_neg (ahead_not HF.out (by omega) HML.out (Nat.le_refl (k + 1)))]
              show _ = (x.ports.map SV.rs)[i]!
              rw [getElem!_pos (x.ports.map SV.rs) i (by simpa using hi2), List.getElem_map, getElem!_pos x.ports i hi2]
            have HD5 := hide (hD3.push hlt hxok HI.out.below.size (fun i hi g9 => ⟨fun e => (HI.out.di.old i hi g9).1 e, fun e => (HI.out.di.old i hi g9).2 e⟩) hrel)
            obtain ⟨c0, c1, c2, c3, f0, f1, f2, f3, f4, f5, f6, f7⟩ := setR_facts hD3.row hlt x.pv x.kv (.int .i64 x.turn)
            have hBW3 : Below W.heap.size W w3 := HI.out.below.trans (hB3.mono HI.out.below.size)
            have HB5 : Hid (Below W.heap.size W (setR w3 db k x)) := hide (hBW3.trans ((setR_only w3 db k x).below hBW3.size (fun i e => by have e' : i = db := e; have := HDB.out; omega)))
            unfold setR RV.pv RV.kv RV.bv at HD5 HB5
            unfold RV.pv at f2 f3
            unfold RV.pv RV.kv at f4 f5 f6 f7
            unfold RV.val RV.pv RV.kv RV.bv
            obtain ⟨pl, hpl⟩ : ∃ pl, x.ports.length = pl := ⟨_, rfl⟩
            obtain ⟨bl, hbl⟩ : ∃ bl, x.bufs.length = bl := ⟨_, rfl⟩
            rw [hpl, hbl] at HD5 HB5 ⊢
            rw [hpl] at f2 f3 f4 f5 f6 f7
            clear hpl hbl hBW3 hrel hxok hxp hD3 hB3 HRA HI b0 b1 b2 b3 b4
            go_wp2
            exact ⟨⟨k + 1, _, by omega, by first | rfl | go_num, HD5, HB5⟩, by simp [intOf]; omega⟩
    · obtain rfl : k = n := by omega
      have HD2 : Hid (DI wr W.heap.size db k k dn (flatC (os.map OV.o)) rv) := by
        have h := HD.out
        rw [List.take_of_length_le (by rw [HML.out]; exact Nat.le_refl _)] at h
        exact hide h
      go_wp2
      go_ret
      exact ⟨db, rv, rfl, HD2.out, HB.out⟩
end Go.Proofs.YtifldnpccgbnkaaGreat
