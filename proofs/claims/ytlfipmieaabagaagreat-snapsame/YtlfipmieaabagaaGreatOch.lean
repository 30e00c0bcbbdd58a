/-
  Check of package oper: whether a state is what an operator may keep. The conditions: that the keys lie there.
-/
import Derived.Test.YtlfipmieaabagaaGreatOkr
import Derived.Test.YtlfipmieaabagaaGreatQui
import Derived.BigQuiet
namespace Go.Proofs.YtlfipmieaabagaaGreat.Op
open Go.RowKit

def cntOK (kd ar c : Int) : Prop := if kd = 6 then 1 ≤ c ∧ c < ar else 1 ≤ c ∧ c ≤ 9007199254740992
instance (kd ar c : Int) : Decidable (cntOK kd ar c) := by unfold cntOK; infer_instance
def turnOK (kd tn : Int) (m : Nat) : Prop := if kd = 8 ∧ 0 < tn then tn < m else tn = 0
instance (kd tn : Int) (m : Nat) : Decidable (turnOK kd tn m) := by unfold turnOK; infer_instance
set_option maxHeartbeats 1000000 in
theorem countFits_any {W : World} {kd pt fn ar ct : Int} {ip : Option Addr} {n ic : Nat} {rb : Bool} (hrb : decide (cntOK kd ar ct) = rb) : Calls Tryz.prog 127 #[.agg #[.int .i64 kd, .int .i64 pt, .int .i64 fn, .int .i64 ar, .slice ip n ic], .int .i64 ct] W fun e w' => e = .returned (.bool rb) ∧ Below W.heap.size W w' := by
  have HRB := hide hrb
  clear hrb
  have HB := hide (alloc_below W (.cells #[.int .i64 kd, .int .i64 pt, .int .i64 fn, .int .i64 ar, .slice ip n ic] 95 (0, 0)))
  by_cases h6 : kd = 6
  · subst h6
    by_cases h1 : 1 ≤ ct
    · have e1 : decide (ct ≥ 1) = true := decide_eq_true h1
      obtain ⟨q, hq⟩ : ∃ q, decide (ct < ar) = q := ⟨_, rfl⟩
      have HR : Hid (q = rb) := hide (by rw [← HRB.out, ← hq]; unfold cntOK; simp [h1])
      clear h1
      go_enter Tryz.func127, Tryz.ntmps127
      go_wp2
      go_ret
      exact ⟨by rw [← HR.out]; rfl, HB.out⟩
    · have e1 : decide (ct ≥ 1) = false := decide_eq_false h1
      have HR : Hid (false = rb) := hide (by rw [← HRB.out]; unfold cntOK; simp [h1])
      clear h1
      go_enter Tryz.func127, Tryz.ntmps127
      go_wp2
      go_ret
      exact ⟨by rw [← HR.out]; rfl, HB.out⟩
  · have e6 : (kd == 6) = false := by simpa using h6
    by_cases h1 : 1 ≤ ct
    · have e1 : decide (ct ≥ 1) = true := decide_eq_true h1
      obtain ⟨q, hq⟩ : ∃ q, decide (ct ≤ 9007199254740992) = q := ⟨_, rfl⟩
      have HR : Hid (q = rb) := hide (by rw [← HRB.out, ← hq]; unfold cntOK; simp [h1, h6])
      clear h1 h6
      go_enter Tryz.func127, Tryz.ntmps127
      go_wp2
      go_ret
      exact ⟨by rw [← HR.out]; rfl, HB.out⟩
    · have e1 : decide (ct ≥ 1) = false := decide_eq_false h1
      have HR : Hid (false = rb) := hide (by rw [← HRB.out]; unfold cntOK; simp [h1, h6])
      clear h1 h6
      go_enter Tryz.func127, Tryz.ntmps127
      go_wp2
      go_ret
      exact ⟨by rw [← HR.out]; rfl, HB.out⟩
set_option maxHeartbeats 1000000 in
theorem turnFits_any {W : World} {kd pt fn ar tn : Int} {ip : Option Addr} {n ic : Nat} {rb : Bool} (hrb : decide (turnOK kd tn n) = rb) : Calls Tryz.prog 108 #[.agg #[.int .i64 kd, .int .i64 pt, .int .i64 fn, .int .i64 ar, .slice ip n ic], .int .i64 tn] W fun e w' => e = .returned (.bool rb) ∧ Below W.heap.size W w' := by
  have HRB := hide hrb
  clear hrb
  have HB := hide (alloc_below W (.cells #[.int .i64 kd, .int .i64 pt, .int .i64 fn, .int .i64 ar, .slice ip n ic] 95 (0, 0)))
  by_cases h8 : kd = 8
  · subst h8
    by_cases h1 : 0 < tn
    · have e1 : decide (tn > 0) = true := decide_eq_true h1
      obtain ⟨q, hq⟩ : ∃ q, decide (tn < (n : Int)) = q := ⟨_, rfl⟩
      have HR : Hid (q = rb) := hide (by rw [← HRB.out, ← hq]; unfold turnOK; simp [h1])
      clear h1
      go_enter Tryz.func108, Tryz.ntmps108
      go_wp2
      go_ret
      exact ⟨by rw [← HR.out]; rfl, HB.out⟩
    · have e1 : decide (tn > 0) = false := decide_eq_false h1
      obtain ⟨q, hq⟩ : ∃ q, (tn == 0) = q := ⟨_, rfl⟩
      have HR : Hid (q = rb) := hide (by rw [← HRB.out, ← hq]; unfold turnOK; simp [h1]; rfl)
      clear h1
      go_enter Tryz.func108, Tryz.ntmps108
      go_wp2
      go_ret
      exact ⟨by rw [← HR.out]; rfl, HB.out⟩
  · have e8 : (kd == 8) = false := by simpa using h8
    obtain ⟨q, hq⟩ : ∃ q, (tn == 0) = q := ⟨_, rfl⟩
    have HR : Hid (q = rb) := hide (by rw [← HRB.out, ← hq]; unfold turnOK; simp [h8]; rfl)
    clear h8
    go_enter Tryz.func108, Tryz.ntmps108
    go_wp2
    go_ret
    exact ⟨by rw [← HR.out]; rfl, HB.out⟩
/-- Keys that rise, with counts that may be. -/
def badK (kd ar : Int) (ks : List KS) (j : Nat) : Prop := (0 < j ∧ (ks[j]!).key ≤ (ks[j - 1]!).key) ∨ ¬ cntOK kd ar (ks[j]!).cnt
instance (kd ar : Int) (ks : List KS) (j : Nat) : Decidable (badK kd ar ks j) := by unfold badK; infer_instance
def keysOK (kd ar : Int) (ks : List KS) : Prop := if keepsC kd = true then ∀ j, j < ks.length → ¬ badK kd ar ks j else ks.length = 0
instance (kd ar : Int) (ks : List KS) : Decidable (keysOK kd ar ks) := by unfold keysOK; infer_instance
theorem keysOK_yes {kd ar : Int} {ks : List KS} (h : keepsC kd = true) : keysOK kd ar ks ↔ ∀ j, j < ks.length → ¬ badK kd ar ks j := by unfold keysOK; rw [if_pos h]
theorem keysOK_no {kd ar : Int} {ks : List KS} (h : ¬ keepsC kd = true) : keysOK kd ar ks ↔ ks.length = 0 := by unfold keysOK; rw [if_neg h]
attribute [local irreducible] wpQuiet in
set_option maxRecDepth 100000 in
set_option maxHeartbeats 8000000 in
theorem keysFit_any {W : World} {kd pt fn ar : Int} {ip p : Option Addr} {n0 ic n c : Nat} {ks : List KS} (h : KRow W p c ks) (hn : ks.length = n) {rb : Bool} (hrb : decide (keysOK kd ar ks) = rb) : Calls Tryz.prog 109 #[.agg #[.int .i64 kd, .int .i64 pt, .int .i64 fn, .int .i64 ar, .slice ip n0 ic], .slice p n c] W fun e w' => e = .returned (.bool rb) ∧ Below W.heap.size W w' := by
  have HRB := hide hrb
  have HN := hide hn
  have i1 := h.1
  have i2 := h.2.1
  rw [hn] at i1
  obtain ⟨V, hV⟩ : ∃ V, V = W.alloc (.cells #[.int .i64 kd, .int .i64 pt, .int .i64 fn, .int .i64 ar, .slice ip n0 ic] 95 (0, 0)) := ⟨_, rfl⟩
  have bV : Below W.heap.size W V := by rw [hV]; exact alloc_below _ _
  obtain ⟨oB, hoB⟩ : ∃ oB, W.heap.size = oB := ⟨_, rfl⟩
  have u1 : V.heap[oB]? = some (.cells #[.int .i64 kd, .int .i64 pt, .int .i64 fn, .int .i64 ar, .slice ip n0 ic] 95 (0, 0)) := by rw [hV, ← hoB]; exact heap_alloc_new W _
  have HK := hide (h.later bV)
  have HBV := hide bV
  have HOP : Hid (∀ X, Below V.heap.size V X → X.heap[oB]? = some (.cells #[.int .i64 kd, .int .i64 pt, .int .i64 fn, .int .i64 ar, .slice ip n0 ic] 95 (0, 0))) := hide (fun X hX => below_box hX u1)
  have x0 : V.cell? ⟨oB, 0, none⟩ = some (.int .i64 kd) := by simp [World.cell?, u1]
  have x1 : V.cell? ⟨oB, 1, none⟩ = some (.int .i64 pt) := by simp [World.cell?, u1]
  have x2 : V.cell? ⟨oB, 2, none⟩ = some (.int .i64 fn) := by simp [World.cell?, u1]
  have x3 : V.cell? ⟨oB, 3, none⟩ = some (.int .i64 ar) := by simp [World.cell?, u1]
  have x4 : V.cell? ⟨oB, 4, none⟩ = some (.slice ip n0 ic) := by simp [World.cell?, u1]
  clear h hn hrb bV u1
  go_enter Tryz.func109, Tryz.ntmps109
  go_upto_region 1 with fail
  rw [← hV]
  try rw [hoB]
  clear hV hoB
  go_wp2_with fail
  refine keeps_any.mono ?_
  rintro _ w1 ⟨rfl, b1⟩
  have HB1 := hide b1
  clear b1 x0 x1 x2 x3 x4
  by_cases hkp : keepsC kd = true
  · rw [hkp]
    go_wp2_with fail
    go_loopw [15] (fun i wr => ∃ k : Nat, k ≤ n ∧ i = .int .i64 (k : Int) ∧ Hid (Below V.heap.size V wr) ∧ Hid (∀ j, j < k → ¬ badK kd ar ks j)) (fun i _ => n - (intOf i).toNat)
    case atStart => exact ⟨0, Nat.zero_le _, rfl, HB1, hide (fun j hj => by omega)⟩
    case round =>
      obtain ⟨k, hk, rfl, HB, HG⟩ := hrel
      by_cases hlt : k < n
      · have hlt2 : k < ks.length := by rw [HN.out]; exact hlt
        obtain ⟨x, hx⟩ : ∃ x, ks[k]! = x := ⟨_, rfl⟩
        obtain ⟨g, o, rfl, hc⟩ := (HK.out.later HB.out).2.2.2 k hlt2
        rw [hx] at hc
        have a0 := hc 0 (by decide)
        have a1 := hc 1 (by decide)
        have a2 := hc 2 (by decide)
        have HX := hide hx
        obtain ⟨y0, y1, y2⟩ := x
        simp only [KS.cells, List.getElem?_cons_zero, List.getElem?_cons_succ, Nat.add_zero] at a0 a1 a2
        clear hx hc
        go_upto_region 6 with fail
        obtain ⟨Y, hY⟩ : ∃ Y, Y = wr.alloc (.cells #[.int .i64 y0, .int .i64 y1, .int .i64 y2] 48 (0, 0)) := ⟨_, rfl⟩
        rw [← hY]
        have bY : Below wr.heap.size wr Y := by rw [hY]; exact alloc_below _ _
        obtain ⟨yB, hyB⟩ : ∃ yB, wr.heap.size = yB := ⟨_, rfl⟩
        have hy : Y.heap[yB]? = some (.cells #[.int .i64 y0, .int .i64 y1, .int .i64 y2] 48 (0, 0)) := by rw [hY, ← hyB]; exact heap_alloc_new wr _
        have HYB := hide hy
        have HBY := hide (HB.out.trans (bY.mono HB.out.size))
        rw [hyB]
        clear hY bY hyB hy a0 a1 a2
        have HSS : Hid (∀ X, Below Y.heap.size Y X → ((((X.cell? ⟨oB, 0, none⟩ = some (.int .i64 kd) ∧ X.cell? ⟨oB, 1, none⟩ = some (.int .i64 pt)) ∧ X.cell? ⟨oB, 2, none⟩ = some (.int .i64 fn) ∧ X.cell? ⟨oB, 3, none⟩ = some (.int .i64 ar)) ∧ X.cell? ⟨oB, 4, none⟩ = some (.slice ip n0 ic)) ∧ X.cell? ⟨yB, 0, none⟩ = some (.int .i64 y0) ∧ X.cell? ⟨yB, 1, none⟩ = some (.int .i64 y1))) := hide (fun X hX => by
          have h1 := HOP.out X (HBY.out.trans (hX.mono HBY.out.size))
          have h2 := below_box hX HYB.out
          refine ⟨⟨⟨⟨?_, ?_⟩, ?_, ?_⟩, ?_⟩, ?_, ?_⟩ <;> simp [World.cell?, h1, h2])
        obtain ⟨qc, hqc⟩ : ∃ qc, decide (cntOK kd ar y1) = qc := ⟨_, rfl⟩
        have HQC := hide hqc
        clear hqc
        by_cases hk0 : k = 0
        · have q1 : decide ((k : Int) > 0) = false := decide_eq_false (by omega)
          have q1b : decide (0 < k) = false := decide_eq_false (by omega)
          have q1c : decide ((0 : Int) < (k : Int)) = false := decide_eq_false (by omega)
          have HK0 := hide hk0
          clear hk0
          cases qc with
          | true =>
            have HG2 : Hid (∀ j, j < k + 1 → ¬ badK kd ar ks j) := by
              refine hide (fun j hj => ?_)
              by_cases hjk : j < k
              · exact HG.out j hjk
              · obtain rfl : j = k := by omega
                have hc := of_decide_eq_true HQC.out
                rintro (⟨h0, h1⟩ | h1)
                · have := HK0.out; omega
                · rw [HX.out] at h1; exact h1 hc
            refine region_class (fun X => Below Y.heap.size Y X) (by kernel_rfl) (by kernel_rfl) (Below.refl _ Y).drew ?_
            repeat
              first
                | (refine BigFrame.wpQuiet_skip (by rfl) ?_
                   simp only [Act.put, List.setIfInBounds_toArray, List.set_cons_zero, List.set_cons_succ])
                | (refine BigFrame.wpQuiet_want (by rfl) (fun K hK => ?_)
                   unfold Oper.quiet
                   apply Exists.intro
                   refine ⟨fun X hX => ?_, hK _ ?_⟩
                   · obtain ⟨⟨⟨⟨o0, o1⟩, o2, o3⟩, o4⟩, z0, z1⟩ := HSS.out _ hX
                     first
                      | (go_simp; done)
                      | (go_simp; exact rfl)
                      | (go_simp
                         first
                         | (go_at_call 127; refine (countFits_any HQC.out).mono ?_; rintro e w3 ⟨rfl, hb3⟩; exact ⟨rfl, hX.trans (hb3.mono hX.size)⟩))
                   clear hK K
                   simp only [Act.put, List.setIfInBounds_toArray, List.set_cons_zero, List.set_cons_succ])
            refine wpQuiet_nil (fun X hX => ?_)
            have HB5 := hide (HBY.out.trans (hX.mono HBY.out.size))
            clear hX
            go_wp2
            exact ⟨⟨k + 1, by omega, by first | rfl | go_num, HB5, HG2⟩, by simp [intOf]; omega⟩
          | false =>
            have HR : Hid (false = rb) := hide (by
              rw [← HRB.out]
              refine (decide_eq_false (fun e => (keysOK_yes hkp).1 e k (by rw [HN.out]; exact hlt) (.inr ?_))).symm
              rw [HX.out]
              exact of_decide_eq_false HQC.out)
            refine region_class (fun X => Below Y.heap.size Y X) (by kernel_rfl) (by kernel_rfl) (Below.refl _ Y).drew ?_
            repeat
              first
                | (refine BigFrame.wpQuiet_skip (by rfl) ?_
                   simp only [Act.put, List.setIfInBounds_toArray, List.set_cons_zero, List.set_cons_succ])
                | (refine BigFrame.wpQuiet_want (by rfl) (fun K hK => ?_)
                   unfold Oper.quiet
                   apply Exists.intro
                   refine ⟨fun X hX => ?_, hK _ ?_⟩
                   · obtain ⟨⟨⟨⟨o0, o1⟩, o2, o3⟩, o4⟩, z0, z1⟩ := HSS.out _ hX
                     first
                      | (go_simp; done)
                      | (go_simp; exact rfl)
                      | (go_simp
                         first
                         | (go_at_call 127; refine (countFits_any HQC.out).mono ?_; rintro e w3 ⟨rfl, hb3⟩; exact ⟨rfl, hX.trans (hb3.mono hX.size)⟩))
                   clear hK K
                   simp only [Act.put, List.setIfInBounds_toArray, List.set_cons_zero, List.set_cons_succ])
            refine wpQuiet_nil (fun X hX => ?_)
            have HB5 := hide (HBY.out.trans (hX.mono HBY.out.size))
            clear hX
            have HBF := hide (HBV.out.trans (HB5.out.mono HBV.out.size))
            go_wp2
            go_ret
            exact ⟨by rw [← HR.out]; rfl, HBF.out⟩
        · have q1 : decide ((k : Int) > 0) = true := decide_eq_true (by omega)
          have q1b : decide (0 < k) = true := decide_eq_true (by omega)
          have q1c : decide ((0 : Int) < (k : Int)) = true := decide_eq_true (by omega)
          have q1d : 0 < k := by omega
          obtain ⟨xp, hxp⟩ : ∃ xp, ks[k - 1]! = xp := ⟨_, rfl⟩
          obtain ⟨p0, p1, p2⟩ := xp
          have HP0 := hide hxp
          have HPC : Hid (∀ X, Below Y.heap.size Y X → X.cell? ⟨g, o + (k - 1) * 3, none⟩ = some (.int .i64 p0)) := hide (fun X hX => by
            obtain ⟨g', o', e', hc'⟩ := (HK.out.later (HBY.out.trans (hX.mono HBY.out.size))).2.2.2 (k - 1) (by omega)
            simp only [Option.some.injEq, Addr.mk.injEq, and_true] at e'
            obtain ⟨rfl, rfl⟩ := e'
            have := hc' 0 (by decide)
            rw [hxp] at this
            exact this)
          have qs : IntKind.i64.wrap ((k : Int) - 1) = ((k - 1 : Nat) : Int) := by rw [IntKind.wrap_i64]; omega
          have qn : ((k - 1 : Nat) : Int) < (n : Int) := by omega
          have qn2 : k - 1 < n := by omega
          clear hxp hk0
          by_cases hle : y0 ≤ p0
          · have q2 : decide (y0 ≤ p0) = true := decide_eq_true hle
            have HR : Hid (false = rb) := hide (by
              rw [← HRB.out]
              refine (decide_eq_false (fun e => (keysOK_yes hkp).1 e k (by rw [HN.out]; exact hlt) (.inl ⟨by omega, ?_⟩))).symm
              rw [HX.out, HP0.out]
              exact hle)
            refine region_class (fun X => Below Y.heap.size Y X) (by kernel_rfl) (by kernel_rfl) (Below.refl _ Y).drew ?_
            repeat
              first
                | (refine BigFrame.wpQuiet_skip (by rfl) ?_
                   simp only [Act.put, List.setIfInBounds_toArray, List.set_cons_zero, List.set_cons_succ])
                | (refine BigFrame.wpQuiet_want (by rfl) (fun K hK => ?_)
                   unfold Oper.quiet
                   apply Exists.intro
                   refine ⟨fun X hX => ?_, hK _ ?_⟩
                   · obtain ⟨⟨⟨⟨o0, o1⟩, o2, o3⟩, o4⟩, z0, z1⟩ := HSS.out _ hX
                     have pc := HPC.out _ hX
                     first
                      | (go_simp; done)
                      | (go_simp; exact rfl)
                      | (go_simp
                         first
                         | (go_at_call 127; refine (countFits_any HQC.out).mono ?_; rintro e w3 ⟨rfl, hb3⟩; exact ⟨rfl, hX.trans (hb3.mono hX.size)⟩))
                   clear hK K
                   simp only [Act.put, List.setIfInBounds_toArray, List.set_cons_zero, List.set_cons_succ])
            refine wpQuiet_nil (fun X hX => ?_)
            have HB5 := hide (HBY.out.trans (hX.mono HBY.out.size))
            clear hX
            have HBF := hide (HBV.out.trans (HB5.out.mono HBV.out.size))
            go_wp2
            go_ret
            exact ⟨by rw [← HR.out]; rfl, HBF.out⟩
          · have q2 : decide (y0 ≤ p0) = false := decide_eq_false hle
            cases qc with
            | true =>
              have HG2 : Hid (∀ j, j < k + 1 → ¬ badK kd ar ks j) := by
                refine hide (fun j hj => ?_)
                by_cases hjk : j < k
                · exact HG.out j hjk
                · obtain rfl : j = k := by omega
                  have hc := of_decide_eq_true HQC.out
                  rintro (⟨h0, h1⟩ | h1)
                  · rw [HX.out, HP0.out] at h1; have h2 : y0 ≤ p0 := h1; omega
                  · rw [HX.out] at h1; exact h1 hc
              refine region_class (fun X => Below Y.heap.size Y X) (by kernel_rfl) (by kernel_rfl) (Below.refl _ Y).drew ?_
              repeat
                first
                  | (refine BigFrame.wpQuiet_skip (by rfl) ?_
                     simp only [Act.put, List.setIfInBounds_toArray, List.set_cons_zero, List.set_cons_succ])
                  | (refine BigFrame.wpQuiet_want (by rfl) (fun K hK => ?_)
                     unfold Oper.quiet
                     apply Exists.intro
                     refine ⟨fun X hX => ?_, hK _ ?_⟩
                     · obtain ⟨⟨⟨⟨o0, o1⟩, o2, o3⟩, o4⟩, z0, z1⟩ := HSS.out _ hX
                       have pc := HPC.out _ hX
                       first
                        | (go_simp; done)
                        | (go_simp; exact rfl)
                        | (go_simp
                           first
                           | (go_at_call 127; refine (countFits_any HQC.out).mono ?_; rintro e w3 ⟨rfl, hb3⟩; exact ⟨rfl, hX.trans (hb3.mono hX.size)⟩))
                     clear hK K
                     simp only [Act.put, List.setIfInBounds_toArray, List.set_cons_zero, List.set_cons_succ])
              refine wpQuiet_nil (fun X hX => ?_)
              have HB5 := hide (HBY.out.trans (hX.mono HBY.out.size))
              clear hX
              go_wp2
              exact ⟨⟨k + 1, by omega, by first | rfl | go_num, HB5, HG2⟩, by simp [intOf]; omega⟩
            | false =>
              have HR : Hid (false = rb) := hide (by
                rw [← HRB.out]
                refine (decide_eq_false (fun e => (keysOK_yes hkp).1 e k (by rw [HN.out]; exact hlt) (.inr ?_))).symm
                rw [HX.out]
                exact of_decide_eq_false HQC.out)
              refine region_class (fun X => Below Y.heap.size Y X) (by kernel_rfl) (by kernel_rfl) (Below.refl _ Y).drew ?_
              repeat
                first
                  | (refine BigFrame.wpQuiet_skip (by rfl) ?_
                     simp only [Act.put, List.setIfInBounds_toArray, List.set_cons_zero, List.set_cons_succ])
                  | (refine BigFrame.wpQuiet_want (by rfl) (fun K hK => ?_)
                     unfold Oper.quiet
                     apply Exists.intro
                     refine ⟨fun X hX => ?_, hK _ ?_⟩
                     · obtain ⟨⟨⟨⟨o0, o1⟩, o2, o3⟩, o4⟩, z0, z1⟩ := HSS.out _ hX
                       have pc := HPC.out _ hX
                       first
                        | (go_simp; done)
                        | (go_simp; exact rfl)
                        | (go_simp
                           first
                           | (go_at_call 127; refine (countFits_any HQC.out).mono ?_; rintro e w3 ⟨rfl, hb3⟩; exact ⟨rfl, hX.trans (hb3.mono hX.size)⟩))
                     clear hK K
                     simp only [Act.put, List.setIfInBounds_toArray, List.set_cons_zero, List.set_cons_succ])
              refine wpQuiet_nil (fun X hX => ?_)
              have HB5 := hide (HBY.out.trans (hX.mono HBY.out.size))
              clear hX
              have HBF := hide (HBV.out.trans (HB5.out.mono HBV.out.size))
              go_wp2
              go_ret
              exact ⟨by rw [← HR.out]; rfl, HBF.out⟩
      · obtain rfl : k = n := by omega
        have HR : Hid (true = rb) := hide (by
          rw [← HRB.out]
          refine (decide_eq_true ((keysOK_yes hkp).2 ?_)).symm
          rw [HN.out]
          exact HG.out)
        have HBF := hide (HBV.out.trans (HB.out.mono HBV.out.size))
        go_wp2
        go_ret
        exact ⟨by rw [← HR.out]; rfl, HBF.out⟩
  · have e1 : keepsC kd = false := by simpa using hkp
    rw [e1]
    obtain ⟨q, hq⟩ : ∃ q, ((n : Int) == 0) = q := ⟨_, rfl⟩
    have HR : Hid (q = rb) := hide (by
      rw [← HRB.out, ← hq]
      by_cases h0 : n = 0
      · rw [decide_eq_true ((keysOK_no hkp).2 (by rw [HN.out]; exact h0)), h0]; rfl
      · rw [decide_eq_false (fun e => h0 (by rw [← HN.out]; exact (keysOK_no hkp).1 e))]
        simpa using (by omega : ¬ (n : Int) = 0))
    have HBF := hide (HBV.out.trans (HB1.out.mono HBV.out.size))
    clear hkp e1
    go_wp2
    go_ret
    exact ⟨by rw [← HR.out]; rfl, HBF.out⟩
end Go.Proofs.YtlfipmieaabagaaGreat.Op
