/-
  The reference: Crash. The conditions: lengths; each pending write is a file's, and begins within it.
-/
import Derived.Test.YtikpckmlnhcddaaGreatRrn
namespace Go.Proofs.YtikpckmlnhcddaaGreat
open Go.RowKit Go.Maps

theorem mag_mod {v keep : Int} {len : Nat} (h : v = mag keep) : v % ((len : Int) + 1) = (((mag keep).toNat % (len + 1) : Nat) : Int) := by
  have h0 := mag_nonneg keep
  rw [h]
  have : ((mag keep).toNat : Int) = mag keep := Int.toNat_of_nonneg h0
  rw [Int.natCast_emod, this]
  rfl

set_option maxRecDepth 100000 in
set_option maxHeartbeats 4000000 in
theorem rcrash_down {W : World} {rb : Nat} {R : RS} (h : RRep W rb R) (hd : R.down = true) (keep torn : Int) :
    Calls Tryz.prog 39 #[.pointer (some ⟨rb, 0, none⟩), .int .i64 keep, .int .i64 torn] W fun e w' => e = .returned (.int .i64 32) ∧ w' = W := by
  obtain ⟨_, _, _, c3⟩ := h.rcells
  rw [hd] at c3
  clear h
  go_enter Tryz.func39, Tryz.ntmps39
  go_wp2
  go_ret
  exact ⟨rfl, rfl⟩

theorem mag_nat {v keep : Int} {len : Nat} (h : v = mag keep) : (v % ((len : Int) + 1)).toNat = (mag keep).toNat % (len + 1) := by
  rw [mag_mod h]; rfl
theorem kept_lt {P : List CP} {n i : Nat} {torn : Int} (hn : n ≤ P.length) (hi : i < n) : (kept P n torn).take (i + 1) = (kept P n torn).take i ++ [P[i]'(by omega)] := by
  have e : ∀ k, k ≤ n → (kept P n torn).take k = P.take k := fun k hk => by
    unfold kept
    rw [List.take_append_of_le_length (by simp; omega), List.take_take, Nat.min_eq_left hk]
  rw [e (i + 1) (by omega), e i (by omega), List.take_succ_eq_append_getElem (by omega)]
theorem kept_le {P : List CP} {n i : Nat} {torn : Int} (hn : n ≤ P.length) (hi : i ≤ n) : (kept P n torn).take i = P.take i := by
  unfold kept
  rw [List.take_append_of_le_length (by simp; omega), List.take_take, Nat.min_eq_left hi]
theorem kept_drop {P : List CP} {n : Nat} {torn : Int} (hn : n < P.length) : kept P n torn = P.take n ++ [{ P[n] with b := P[n].b.take ((mag torn).toNat % (P[n].b.length + 1)) }] := by
  unfold kept
  rw [List.drop_eq_getElem_cons hn]
  rfl
theorem kept_eq {P : List CP} {n : Nat} {torn : Int} (hn : n < P.length) : (kept P n torn).take (n + 1) = (kept P n torn).take n ++ [{ P[n] with b := P[n].b.take ((mag torn).toNat % (P[n].b.length + 1)) }] := by
  rw [kept_le (by omega) (Nat.le_refl n), kept_drop hn, List.take_of_length_le (by simp; omega)]
theorem kept_len {P : List CP} {n : Nat} {torn : Int} : (kept P n torn).length ≤ n + 1 := by
  unfold kept
  simp
  omega
theorem kept_len' {P : List CP} {n : Nat} {torn : Int} : (kept P n torn).length ≤ P.length := by
  unfold kept
  simp
  omega
theorem kept_gt {P : List CP} {n i : Nat} {torn : Int} (hi : n < i) : (kept P n torn).take (i + 1) = (kept P n torn).take i := by
  have := kept_len (P := P) (n := n) (torn := torn)
  rw [List.take_of_length_le (by omega), List.take_of_length_le (by omega)]

/-- The reference's store, in the midst of a crash. -/
structure Mid (R Ri : RS) (K : List CP) : Prop where
  P : Ri.P = R.P
  pv : Ri.pv = R.pv
  names : Ri.L.map RF.name = R.L.map RF.name
  bytes : ∀ k, k < R.L.length → (Ri.L[k]!).b = allB (base R.core.L) K (R.L[k]!).name
  most : Ri.most = R.most
  down : Ri.down = R.down
theorem Mid.len {R Ri : RS} {K : List CP} (m : Mid R Ri K) : Ri.L.length = R.L.length := by
  have := congrArg List.length m.names
  simpa using this
theorem Mid.name {R Ri : RS} {K : List CP} (m : Mid R Ri K) {k : Nat} (hk : k < R.L.length) : (Ri.L[k]!).name = (R.L[k]!).name := by
  have := congrArg (fun l => l[k]?) m.names
  simp only [List.getElem?_map] at this
  rw [List.getElem?_eq_getElem hk, List.getElem?_eq_getElem (by rw [m.len]; exact hk)] at this
  rw [getElem!_pos R.L k hk, getElem!_pos Ri.L k (by rw [m.len]; exact hk)]
  simpa using this
theorem Mid.sole {R Ri : RS} {K : List CP} (m : Mid R Ri K) (h : Sole R) : Sole Ri := by unfold Sole; rw [m.names]; exact h
theorem Mid.step {R Ri : RS} {K : List CP} (m : Mid R Ri K) (hs : Sole R) {j : Nat} (hj : j < R.L.length) {p : CP} (hp : p.name = (R.L[j]!).name) {c : By} (hc : c = putL (allB (base R.core.L) K p.name) p.beg p.b) (v : Value) : Mid R { Ri with L := Ri.L.set j { Ri.L[j]! with b := c, bv := v } } (K ++ [p]) := by
  have hjl : j < Ri.L.length := by rw [m.len]; exact hj
  refine ⟨m.P, m.pv, ?_, fun k hk => ?_, m.most, m.down⟩
  · rw [← m.names]
    simp only
    refine List.ext_getElem? (fun i => ?_)
    simp only [List.getElem?_map, List.getElem?_set]
    by_cases e : j = i
    · subst e
      rw [if_pos rfl, if_pos hjl, List.getElem?_eq_getElem hjl, getElem!_pos Ri.L j hjl]
      rfl
    · rw [if_neg e]
  · rw [allB_snoc]
    simp only
    by_cases e : j = k
    · subst e
      rw [getElem!_pos _ _ (by simpa using hjl)]
      simp only [List.getElem_set_self]
      rw [← hp, one_same]
      exact hc
    · have hkl : k < Ri.L.length := by rw [m.len]; exact hk
      rw [getElem!_pos _ _ (by simpa using hkl), List.getElem_set_ne e]
      have h1 := m.bytes k hk
      rw [getElem!_pos Ri.L k hkl] at h1
      rw [h1, one_off]
      intro h2
      have h3 := hs.at_ hk
      rw [h2, hp, hs.at_ hj] at h3
      simp at h3
      exact e h3

set_option maxRecDepth 100000 in
set_option maxHeartbeats 4000000 in
theorem rcrash_ok {W : World} {rb : Nat} {R : RS} (h : RRep W rb R) (hok : RefOk R) (hs : Sole R) (hd : R.down = false) (hPn : ∀ p ∈ R.core.P, p.name ∈ R.core.L.map CF.name) {keep torn : Int}
    (hk0 : -9223372036854775808 ≤ keep) (hk1 : keep ≤ 9223372036854775807) (ht0 : -9223372036854775808 ≤ torn) (ht1 : torn ≤ 9223372036854775807) :
    Calls Tryz.prog 39 #[.pointer (some ⟨rb, 0, none⟩), .int .i64 keep, .int .i64 torn] W fun e w' => e = .returned (.int .i64 0) ∧ ∃ R', RRep w' rb R' ∧ RStep W w' rb R R' ∧ R'.core = R.core.crash keep torn := by
  obtain ⟨c0, c1, c2, c3⟩ := h.rcells
  rw [hd] at c3
  obtain ⟨pp, pcap, hpe, hp1, hp2⟩ := own_form h.prow
  rw [hpe] at c1
  have hP := hok.P
  have HPE := hide hpe
  have H := hide h
  have HOK := hide hok
  have HS := hide hs
  have HPN := hide hPn
  have HD := hide hd
  clear h hok hs hPn hpe hd c0 c2
  go_enter Tryz.func39, Tryz.ntmps39
  go_upto_region 3 with fail
  obtain ⟨n, hn⟩ : ∃ n : Nat, n = (mag keep).toNat % (R.P.length + 1) := ⟨_, rfl⟩
  go_cut [7] from 11 (fun s7 wc => s7 = .int .i64 (n : Int) ∧ wc = W)
  case first =>
    go_wp2
    all_goals
      go_meet
      case rel =>
        refine ⟨congrArg (Value.int .i64) ?_, rfl⟩
        rw [hn]
        first
          | exact mag_mod (by unfold mag; unfold wrap64 at *; (repeat split) <;> omega)
          | (have := mag_mod (len := R.P.length) (v := 0) (keep := keep) (by unfold mag; unfold wrap64 at *; (repeat split) <;> omega)
             simpa using this)
  case rest =>
    obtain ⟨rfl, rfl⟩ := hcut
    rename World => W
    have hnl : n ≤ R.P.length := by
      have := Nat.mod_lt (mag keep).toNat (show 0 < R.P.length + 1 by omega)
      omega
    have HN := hide hn
    clear hn
    go_wp2_with fail
    go_loopw [8] (fun i wr => ∃ (k : Nat) (Ri : RS), k ≤ R.P.length ∧ i = .int .i64 (k : Int) ∧ Hid (RRep wr rb Ri) ∧ Hid (RStep W wr rb R Ri) ∧ Hid (Mid R Ri ((kept R.core.P n torn).take k))) (fun i _ => R.P.length - (intOf i).toNat)
    case atStart =>
      refine ⟨0, R, Nat.zero_le _, rfl, H, hide (RStep.refl _ _ _), hide ⟨rfl, rfl, rfl, fun k hk => ?_, rfl, rfl⟩⟩
      rw [List.take_zero, allB_nil, HS.out.baseE hk]
    case round =>
      obtain ⟨k, Ri, hk, rfl, HR, HT, HM⟩ := hrel
      have c1' := HR.out.rcells.2.1
      rw [HM.out.pv, HPE.out] at c1'
      by_cases hlt : k < R.P.length
      · have hpr := HR.out.prow
        rw [HM.out.pv, HPE.out, HM.out.P] at hpr
        obtain ⟨gp, rfl, d0, d1, d2⟩ := pend_cells hpr rfl hlt
        obtain ⟨x, hx⟩ : ∃ x, R.P[k]! = x := ⟨_, rfl⟩
        have hxm : x ∈ R.P := by rw [← hx, getElem!_pos R.P k hlt]; exact List.getElem_mem _
        rw [hx] at d0 d1 d2
        unfold strV at d0
        have hxr := (HR.out.pb x (by rw [HM.out.P]; exact hxm))
        obtain ⟨px, cx, hxe, hx1, hx2, _, _⟩ := id hxr.1
        rw [hxe] at d2
        have HXR := hide hxr
        rw [hxe] at HXR
        have HPK : Hid (R.core.P[k]'(by simpa [RS.core] using hlt) = ⟨x.name, x.beg, x.b⟩) := by
          refine hide ?_
          rw [getElem!_pos R.P k hlt] at hx
          simp [RS.core, hx, RP.core]
        have HPL : Hid (R.core.P.length = R.P.length) := hide (by simp [RS.core])
        clear hpr hxe hxr
        by_cases hgt : n < k
        · have e1 : ((k : Int) == (n : Int)) = false := by simp; omega
          have e2 : decide ((k : Int) ≤ (n : Int)) = false := decide_eq_false (by omega)
          clear hx hxm
          go_wp2
          refine ⟨⟨k + 1, Ri, by omega, by go_num, HR, HT, ?_⟩, by simp [intOf]; omega⟩
          rw [kept_gt hgt]
          exact HM
        · obtain ⟨m', hm0, hm1, hm2, HKT⟩ : ∃ m', m' ≤ x.b.length ∧ (k ≠ n → m' = x.b.length) ∧ (k = n → m' = (mag torn).toNat % (x.b.length + 1)) ∧ Hid ((kept R.core.P n torn).take (k + 1) = (kept R.core.P n torn).take k ++ [⟨x.name, x.beg, x.b.take m'⟩]) := by
            by_cases hkn : k = n
            · refine ⟨(mag torn).toNat % (x.b.length + 1), ?_, fun h => absurd hkn h, fun _ => rfl, ?_⟩
              · have := Nat.mod_lt (mag torn).toNat (show 0 < x.b.length + 1 by omega)
                omega
              · have := kept_eq (P := R.core.P) (n := k) (torn := torn) (by rw [HPL.out]; exact hlt)
                rw [HPK.out] at this
                rw [← hkn]
                exact hide this
            · refine ⟨x.b.length, Nat.le_refl _, fun _ => rfl, fun h => absurd h hkn, ?_⟩
              have := kept_lt (P := R.core.P) (n := n) (i := k) (torn := torn) (by rw [HPL.out]; exact hnl) (by omega)
              rw [HPK.out] at this
              rw [List.take_length]
              exact hide this
          -- the file
          obtain ⟨j, hj⟩ : ∃ j, atL R.L x.name = some j := by
            have : (atL R.L x.name).isSome = true := by
              rw [atL_isSome, ← core_names]
              refine HPN.out x.core ?_
              exact List.mem_map.2 ⟨x, hxm, rfl⟩
            exact Option.isSome_iff_exists.1 this
          obtain ⟨hjl, hjn⟩ := atL_get hj
          have hji : j < Ri.L.length := by rw [HM.out.len]; exact hjl
          have hjR : atL Ri.L x.name = some j := by
            have := (HM.out.sole HS.out).at_ hji
            rw [HM.out.name hjl, hjn] at this
            exact this
          have HA := hide (at_any HR.out (s := ⟨x.name.toArray⟩))
          rw [show atI Ri.L (⟨x.name.toArray⟩ : ByteArray).data.toList = (j : Int) by simp [atI, hjR]] at HA
          obtain ⟨fb, hfb⟩ : ∃ fb, (Ri.L[j]!).b = fb := ⟨_, rfl⟩
          have hbe := HM.out.bytes j hjl
          rw [hfb, hjn] at hbe
          have hall := HOK.out.all j hjl
          rw [hjn] at hall
          have eA : ∀ i, i ≤ R.P.length → allTo R.P x.name (R.L[j]!).b i = allB (base R.core.L) ((R.core.P).take i) x.name := fun i hi => by
            have := HS.out.allT hjl hi
            rw [hjn] at this
            rw [this, List.map_take]
            rfl
          have hsp : x.beg ≤ fb.length := by
            have := hall.spot k hlt (by rw [hx])
            rw [hx, eA k (by omega)] at this
            rw [hbe, kept_le (by rw [HPL.out]; exact hnl) (by omega)]
            exact this
          have hln : fb.length ≤ 4194304 := by
            have := hall.len k (by omega)
            rw [eA k (by omega)] at this
            rw [hbe, kept_le (by rw [HPL.out]; exact hnl) (by omega)]
            exact this
          have hxl : x.b.length ≤ 4194304 := by
            have := hall.size k hlt (by rw [hx])
            rw [hx] at this
            exact this
          obtain ⟨lp, lcap, hle, hl1, hl2⟩ := own_form HR.out.lrow
          have c0' := HR.out.rcells.1
          have hlr := HR.out.lrow
          rw [hle] at c0' hlr
          obtain ⟨g, rfl, _, f1, _, z1⟩ := file_cells hlr rfl hji
          have hfm : Ri.L[j]! ∈ Ri.L := by rw [getElem!_pos Ri.L j hji]; exact List.getElem_mem _
          have hfr := (HR.out.lb _ hfm)
          rw [hfb] at hfr
          obtain ⟨pf, cf, hfe, hf1, hf2, _, _⟩ := id hfr.1
          rw [hfe] at f1 hfr
          obtain ⟨C, hC⟩ : ∃ C, putL fb x.beg (x.b.take m') = C := ⟨_, rfl⟩
          obtain ⟨M, hM⟩ : ∃ M, C.length = M := ⟨_, rfl⟩
          have hOV := over_any (W := wr.drew) (b := fb) (x := x.b.take m') (vb := .slice pf fb.length cf) (vx := .slice px m' cx) hfr.1 (HXR.out.1.take hm0) hsp hln (by simp; omega)
          rw [hC, hM] at hOV
          have HV := hide hOV
          have HSET : Hid (∀ X p1 c1, Below wr.heap.size wr X → X.ownsRow wr.drew.heap.size 5 1 (.slice p1 M c1) M (C.map (Value.int .u8)) → RRep (X.setCell ⟨g, j * 2 + 1, none⟩ (.slice p1 M c1)) rb { Ri with L := Ri.L.set j { Ri.L[j]! with b := C, bv := .slice p1 M c1 } } ∧ RStep W (X.setCell ⟨g, j * 2 + 1, none⟩ (.slice p1 M c1)) rb R { Ri with L := Ri.L.set j { Ri.L[j]! with b := C, bv := .slice p1 M c1 } } ∧ Mid R { Ri with L := Ri.L.set j { Ri.L[j]! with b := C, bv := .slice p1 M c1 } } ((kept R.core.P n torn).take (k + 1))) := by
            refine hide (fun X p1 c1 hX hown => ?_)
            have hzz : wr.drew.heap.size = wr.heap.size := rfl
            have hrow : Row .u8 X (.slice p1 M c1) C := by
              have := own_row (by rw [hM]; exact hown : X.ownsRow wr.drew.heap.size 5 1 (.slice p1 M c1) C.length (C.map (Value.int .u8)))
              exact this
            have hCu : U8 C := by rw [← hC]; exact putL_u8 hfr.2 (fun y hy => HXR.out.2 y (List.mem_of_mem_take hy))
            refine ⟨(HR.out.fresh hX).setB hle hji hrow hCu (fun _ q hq hr => ?_), HT.out.trans ⟨(Only.fresh hX _).trans (Only.set _ _ _ _ (.inr (.inl (by rw [hle]; rfl)))), fun i hi => .inl hi, fun i hi => ?_⟩, ?_⟩
            · have h1 := HR.out.rown_lt hr
              have h2 := own_block_base hown hq
              omega
            · rcases hi with ⟨f, hf, hl, hi⟩ | hi
              · rcases List.mem_or_eq_of_mem_set hf with hf | rfl
                · exact .inl (.inl ⟨f, hf, hl, hi⟩)
                · exact .inr (own_block_base hown hi)
              · exact .inl (.inr hi)
            · rw [HKT.out]
              exact HM.out.step HS.out hjl (by simpa using hjn.symm) (by simp only; rw [← hbe, hC]) _
          have HLR := hide hlr
          clear hx hxm hj hjn hjR hfb hbe hall eA hsp hln hlr hle hfm hfr hfe hC hM hOV HOK
          go_upto_if 45 with fail
          go_cut [9] from 26 to 93 (fun s9 wc => s9 = .slice px m' cx ∧ wc = wr)
          case first =>
            by_cases hkn : k = n
            · have e1 : ((k : Int) == (n : Int)) = true := by simp [hkn]
              have HM3 := hide (hm2 hkn)
              have HKN := hide hkn
              clear hm1 hm2 hkn
              by_cases hA : 0 ≤ torn
              · have hw : wrap64 (-torn) = -torn := by unfold wrap64; omega
                obtain ⟨q, hq⟩ : ∃ q : Nat, (q : Int) = torn % ((x.b.length : Int) + 1) := ⟨(torn % ((x.b.length : Int) + 1)).toNat, Int.toNat_of_nonneg (Int.emod_nonneg _ (by omega))⟩
                have hq2 : q ≤ x.b.length := by have := Int.emod_lt_of_pos torn (show 0 < (x.b.length : Int) + 1 by omega); omega
                have HQ := hide hq
                have hq' := hq.symm
                clear hq
                go_wp2
                all_goals
                  go_meet
                  case rel =>
                    refine ⟨congrArg (fun q => Value.slice px q cx) ?_, rfl⟩
                    rw [HM3.out, ← mag_nat (v := torn) (by unfold mag; (repeat split) <;> omega), ← HQ.out]
                    rfl
              · by_cases hB : torn = -9223372036854775808
                · subst hB
                  have hw : wrap64 9223372036854775808 = -9223372036854775808 := by unfold wrap64; omega
                  go_wp2
                  all_goals
                    go_meet
                    case rel =>
                      refine ⟨congrArg (fun q => Value.slice px q cx) ?_, rfl⟩
                      rw [HM3.out]
                      simp [mag]
                · obtain ⟨T, hT⟩ : ∃ T : Nat, torn = -(T : Int) := ⟨(-torn).toNat, by omega⟩
                  subst hT
                  have hw : wrap64 (- -(T : Int)) = (T : Int) := by unfold wrap64; omega
                  obtain ⟨q, hq⟩ : ∃ q : Nat, (q : Int) = (T : Int) % ((x.b.length : Int) + 1) := ⟨T % (x.b.length + 1), by simp⟩
                  have hq2 : q ≤ x.b.length := by have := Int.emod_lt_of_pos (T : Int) (show 0 < (x.b.length : Int) + 1 by omega); omega
                  have HQ := hide hq
                  have hq' := hq.symm
                  clear hq
                  go_wp2
                  all_goals
                    go_meet
                    case rel =>
                      refine ⟨congrArg (fun q => Value.slice px q cx) ?_, rfl⟩
                      rw [HM3.out, ← mag_nat (v := (T : Int)) (by unfold mag; (repeat split) <;> omega), ← HQ.out]
                      rfl
            · have e1 : ((k : Int) == (n : Int)) = false := by simp; omega
              have hm3 := hm1 hkn
              clear hm1 hm2
              go_wp2
              go_meet
              case rel => exact ⟨by rw [hm3], rfl⟩
          case rest =>
            obtain ⟨rfl, rfl⟩ := hcut
            rename World => wr
            have e2 : decide ((k : Int) ≤ (n : Int)) = true := decide_eq_true (by omega)
            clear hm1 hm2
            go_wp2_with fail
            refine HA.out.mono ?_
            rintro _ wr ⟨rfl, rfl⟩
            go_upto_region 12 with fail
            go_region_law (refine step_calls rfl 67 #[.tmp 81, .tmp 89, .tmp 90] #[31, 3, 31] rfl #[.slice pf fb.length cf, .int .i64 x.beg, .slice px m' cx] (by first | (simp [Act.eval]; done) | (simp [Act.eval, Act.put]; done)) enOver _ HV.out ?_; rintro r w1 ⟨p1, c1, rfl, o1, b1⟩; have r0 := cell_later (below_undrew b1) c0'; have r1 := cell_later (below_undrew b1) f1; have rz : w1.frozen? ⟨g, j * 2 + 1, none⟩ = false := (ownsRow_later HLR.out (below_undrew b1)).frozenAt _; have HQ := hide (HSET.out w1 p1 c1 (below_undrew b1) o1); clear o1 b1; refine ⟨_, rfl, ?_⟩)
            all_goals
              go_wp2
              exact ⟨⟨k + 1, _, by omega, by go_num, hide HQ.out.1, hide HQ.out.2.1, hide HQ.out.2.2⟩, by simp [intOf]; omega⟩
      · have mz := HR.out.frozen 1
        have mz3 := HR.out.frozen 3
        have c3' := HR.out.rcells.2.2.2
        have hdd := HD.out
        rw [HM.out.down, hdd] at c3'
        have hke : k = R.P.length := by omega
        have HKE := hide hke
        clear hke
        go_wp2
        go_ret
        have hm := HM.out
        rw [HKE.out, List.take_of_length_le (Nat.le_trans kept_len' (by simp [RS.core]))] at hm
        have h1 := HR.out.setP (P := []) (v := .slice none 0 0) (World.ownsRow_nil _ _ _ _) (by simp) (by simp) (fun i _ e => by simp [Value.ownBlock] at e)
        obtain ⟨Rf, hRf⟩ : ∃ Rf : RS, Rf = { Ri with P := [], pv := .slice none 0 0 } := ⟨_, rfl⟩
        rw [← hRf] at h1
        have hbf := h1.box
        refine ⟨rfl, { Rf with down := true }, ?_, ?_, ?_⟩
        · have ho : Only (· = rb) (wr.setCell ⟨rb, 1, none⟩ (.slice none 0 0)) ((wr.setCell ⟨rb, 1, none⟩ (.slice none 0 0)).setCell ⟨rb, 3, none⟩ (.bool true)) := Only.set _ _ _ _ rfl
          exact ⟨by rw [heap_set_same hbf]; rfl, ownsRow_only h1.lrow ho (fun b hb e => by subst e; exact h1.l_rb hb), ownsRow_only h1.prow ho (fun b hb e => by subst e; exact h1.p_rb hb), fun f hf => ⟨(h1.lb f hf).1.only0 ho (fun hl b hb e => by subst e; exact h1.sep _ (.inl ⟨f, hf, hl, hb⟩) (.inl rfl)), (h1.lb f hf).2⟩, fun f hf => ⟨(h1.pb f hf).1.only0 ho (fun hl b hb e => by subst e; exact h1.sep _ (.inr ⟨f, hf, hl, hb⟩) (.inl rfl)), (h1.pb f hf).2⟩, h1.sep⟩
        · refine HT.out.trans ⟨(Only.set _ _ _ _ (.inl rfl)).trans (Only.set _ _ _ _ (.inl rfl)), ?_, ?_⟩
          · rintro i (e | e | e)
            · exact .inl (.inl e)
            · exact .inl (.inr (.inl (by rw [hRf] at e; exact e)))
            · rw [hRf] at e; simp [Value.ownBlock] at e
          · rintro i (hi | ⟨f, hf, _⟩)
            · exact .inl (.inl (by rw [hRf] at hi; exact hi))
            · rw [hRf] at hf; simp at hf
        · rw [hRf]
          unfold RC.crash
          rw [R.core_down, hdd, if_neg (by simp)]
          show RC.mk _ _ _ _ = _
          simp only
          have hPl : R.core.P.length = R.P.length := by simp [RS.core]
          rw [hPl, ← HN.out]
          have hLc : Ri.L.map RF.core = R.core.L.map (fun f => { f with b := allB (base R.core.L) (kept R.core.P n torn) f.name }) := by
            refine List.ext_getElem? (fun i => ?_)
            unfold RS.core
            simp only [List.getElem?_map]
            rcases Nat.lt_or_ge i R.L.length with h' | h'
            · have hil : i < Ri.L.length := by rw [hm.len]; exact h'
              rw [List.getElem?_eq_getElem h', List.getElem?_eq_getElem hil]
              have a1 := hm.name h'
              have a2 := hm.bytes i h'
              rw [getElem!_pos R.L i h', getElem!_pos Ri.L i hil] at a1
              rw [getElem!_pos R.L i h', getElem!_pos Ri.L i hil] at a2
              simp only [Option.map_some, Option.some.injEq]
              unfold RF.core
              simp only [CF.mk.injEq]
              exact ⟨a1, a2⟩
            · rw [List.getElem?_eq_none h', List.getElem?_eq_none (by rw [hm.len]; exact h')]
              rfl
          rw [hLc, hm.most]
          rfl
end Go.Proofs.YtikpckmlnhcddaaGreat
