/-
  Whether a clock has drifted too far. The condition: what holds of the play, whatever came.
-/
import Derived.Test.YtegffdmlkbdcdaaGnd
import Derived.Deep.CutRange
import Derived.Deep.CutBlock
namespace Go.Proofs.Ytegffdmlkbdcdaa
open Go.ChangeShapes Go.WideShapes Go.ChangeAt Go.RowKit

def badC (R : RG) (ck : Int) : Bool := R.had && (belG R.g && decide (4 < ck - R.a - (R.g.ck - R.b)))
theorem bad_yes {g : GE} {a b ck : Int} {f : Int → Int × Int} (h1 : belG g = true) (h2 : 4 < ck - a - (g.ck - b)) : badC ⟨g, a, b, true, f⟩ ck = true := by unfold badC; simp only [h1, decide_eq_true h2, Bool.and_self]
theorem bad_no1 {g : GE} {a b ck : Int} {f : Int → Int × Int} : badC ⟨g, a, b, false, f⟩ ck = false := by unfold badC; exact Bool.false_and _
theorem bad_no2 {g : GE} {a b ck : Int} {f : Int → Int × Int} (h1 : belG g = false) : badC ⟨g, a, b, true, f⟩ ck = false := by unfold badC; simp only [h1, Bool.false_and, Bool.and_false]
theorem bad_no3 {g : GE} {a b ck : Int} {f : Int → Int × Int} (h2 : ¬ 4 < ck - a - (g.ck - b)) : badC ⟨g, a, b, true, f⟩ ck = false := by unfold badC; simp only [decide_eq_false h2, Bool.and_false]
def drC (p : PL) : Bool := badC p.r0 p.ck || badC p.r1 p.ck
set_option maxRecDepth 100000 in
set_option maxHeartbeats 8000000 in
theorem drifts_any {W : World} {B pB mA mB n cap : Nat} {sp : Option Addr} {W0 : World} {c0 c1 c2 c3 c4 c5 d0 d1 d2 d3 d4 d5 a0 b0 a1 b1 l0 l1 l2 l3 l4 ck : Int} {h0 h1 so : Bool} {f0 f1 : Int → Int × Int} {bag : List LT} (hP : PRep B W0 pB mA mB n ⟨⟨⟨c0, c1, c2, c3, c4, c5⟩, a0, b0, h0, f0⟩, ⟨⟨d0, d1, d2, d3, d4, d5⟩, a1, b1, h1, f1⟩, ⟨l0, l1, l2, l3, l4, so⟩, bag, ck⟩ sp cap W) (hr0 : (0 ≤ a0 ∧ a0 ≤ ck ∧ 0 ≤ b0 ∧ b0 ≤ c0) ∧ c0 ≤ 9007199254740992 ∧ ck ≤ 9007199254740992) (hr1 : (0 ≤ a1 ∧ a1 ≤ ck ∧ 0 ≤ b1 ∧ b1 ≤ d0) ∧ d0 ≤ 9007199254740992 ∧ ck ≤ 9007199254740992) :
    Calls Try.prog 19 #[.pointer (some ⟨pB, 0, none⟩)] W fun e w' => e = .returned (.bool (drC ⟨⟨⟨c0, c1, c2, c3, c4, c5⟩, a0, b0, h0, f0⟩, ⟨⟨d0, d1, d2, d3, d4, d5⟩, a1, b1, h1, f1⟩, ⟨l0, l1, l2, l3, l4, so⟩, bag, ck⟩)) ∧ PRep B W0 pB mA mB n ⟨⟨⟨c0, c1, c2, c3, c4, c5⟩, a0, b0, h0, f0⟩, ⟨⟨d0, d1, d2, d3, d4, d5⟩, a1, b1, h1, f1⟩, ⟨l0, l1, l2, l3, l4, so⟩, bag, ck⟩ sp cap w' := by
  have HP := hide hP
  have HR0 := hide hr0
  have HR1 := hide hr1
  clear hP hr0 hr1
  go_enter Try.func19, Try.ntmps19
  go_wp2_with fail
  go_loopw [3, 4] (fun _ i wr => ∃ (k : Int), (k = 0 ∨ k = 1 ∨ k = 2) ∧ i = .int .i64 k ∧ (0 < k → badC ⟨⟨c0, c1, c2, c3, c4, c5⟩, a0, b0, h0, f0⟩ ck = false) ∧ (1 < k → badC ⟨⟨d0, d1, d2, d3, d4, d5⟩, a1, b1, h1, f1⟩ ck = false) ∧ Hid (PRep B W0 pB mA mB n ⟨⟨⟨c0, c1, c2, c3, c4, c5⟩, a0, b0, h0, f0⟩, ⟨⟨d0, d1, d2, d3, d4, d5⟩, a1, b1, h1, f1⟩, ⟨l0, l1, l2, l3, l4, so⟩, bag, ck⟩ sp cap wr)) (fun _ i _ => 2 - (intOf i).toNat)
  case atStart => exact ⟨0, .inl rfl, rfl, fun h => by omega, fun h => by omega, HP⟩
  case round =>
    obtain ⟨k, hk, rfl, hb0, hb1, HI⟩ := hrel
    clear HP
    rcases hk with rfl | rfl | rfl
    · clear hb0 hb1
      have HPX := HI
      have u26 := cellB (i := 26) (v := .bool h0) HPX.out.box rfl
      have u0 := cellB (i := 0) (v := .int .i64 c0) HPX.out.box rfl
      have u1 := cellB (i := 1) (v := .int .i64 c1) HPX.out.box rfl
      have u2 := cellB (i := 2) (v := .int .i64 c2) HPX.out.box rfl
      have u3 := cellB (i := 3) (v := .int .i64 c3) HPX.out.box rfl
      have u4 := cellB (i := 4) (v := .int .i64 c4) HPX.out.box rfl
      have u5 := cellB (i := 5) (v := .int .i64 c5) HPX.out.box rfl
      cases h0 with
      | false =>
        have HBr : Hid (badC ⟨⟨c0, c1, c2, c3, c4, c5⟩, a0, b0, false, f0⟩ ck = false) := hide bad_no1
        have HB := HBr
        have HP3 := HPX
        go_wp2
        go_round
        case rel => exact ⟨1, by omega, rfl, fun q => HB.out, fun q => by omega, HP3⟩
        case measure => simp [intOf]
      | true =>
        obtain ⟨bl, hbl⟩ : ∃ bl, belG ⟨c0, c1, c2, c3, c4, c5⟩ = bl := ⟨_, rfl⟩
        have HBL := hide hbl
        go_wp2_with fail
        refine bel_any.mono ?_
        rw [HBL.out]
        rintro _ w2 ⟨rfl, b2⟩
        have HPX := hide (HI.out.later b2)
        clear b2 u26 u0 u1 u2 u3 u4 u5
        cases bl with
        | false =>
          have HBr : Hid (badC ⟨⟨c0, c1, c2, c3, c4, c5⟩, a0, b0, true, f0⟩ ck = false) := hide (bad_no2 hbl)
          clear hbl
          have HB := HBr
          have HP3 := HPX
          go_wp2
          go_round
          case rel => exact ⟨1, by omega, rfl, fun q => HB.out, fun q => by omega, HP3⟩
          case measure => simp [intOf]
        | true =>
          obtain ⟨v1, hv1⟩ : ∃ v, ck - a0 = v := ⟨_, rfl⟩
          obtain ⟨v2, hv2⟩ : ∃ v, c0 - b0 = v := ⟨_, rfl⟩
          obtain ⟨vv, hvv⟩ : ∃ v, v1 - v2 = v := ⟨_, rfl⟩
          have e1 : IntKind.i64.wrap (ck - a0) = v1 := by have := HR0.out; rw [IntKind.wrap_i64]; omega
          have e2 : IntKind.i64.wrap (c0 - b0) = v2 := by have := HR0.out; rw [IntKind.wrap_i64]; omega
          have e3 : IntKind.i64.wrap (v1 - v2) = vv := by have := HR0.out; rw [IntKind.wrap_i64]; omega
          have HVV : Hid (ck - a0 - (c0 - b0) = vv) := hide (by omega)
          clear hv1 hv2 hvv
          have u19 := cellB (i := 19) (v := .int .i64 ck) HPX.out.box rfl
          have u22 := cellB (i := 22) (v := .int .i64 a0) HPX.out.box rfl
          have u23 := cellB (i := 23) (v := .int .i64 b0) HPX.out.box rfl
          have u0 := cellB (i := 0) (v := .int .i64 c0) HPX.out.box rfl
          go_upto_region 5 with fail
          refine wp_region_held_drew (S := fun w' => w'.cell? ⟨pB, 19, none⟩ = some (.int .i64 ck) ∧ w'.cell? ⟨pB, 22, none⟩ = some (.int .i64 a0) ∧ w'.cell? ⟨pB, 23, none⟩ = some (.int .i64 b0) ∧ w'.cell? ⟨pB, 0, none⟩ = some (.int .i64 c0)) (by kernel_rfl) ⟨u19, u22, u23, u0⟩ (fun hHeld => ?_)
          refine wpAnyH_take (i := 0) (oi := _) (v := ?_) rfl (by kernel_rfl) (by kernel_rfl) (by kernel_rfl) (fun _ _ _ h => h) (Or.inl ⟨by kernel_rfl, ?_⟩) (by assumption) ?_
          rotate_left
          · intro w hSw
            (try dsimp only at hSw)
            go_simp
            all_goals with_reducible rfl
          simp only [Act.put]
          refine wpAnyH_take (i := 1) (oi := _) (v := ?_) rfl (by kernel_rfl) (by kernel_rfl) (by kernel_rfl) (fun _ _ _ h => h) (Or.inl ⟨by kernel_rfl, ?_⟩) (by assumption) ?_
          rotate_left
          · intro w hSw
            (try dsimp only at hSw)
            go_simp
            all_goals with_reducible rfl
          simp only [Act.put]
          refine wpAnyH_take (i := 2) (oi := _) (v := ?_) rfl (by kernel_rfl) (by kernel_rfl) (by kernel_rfl) (fun _ _ _ h => h) (Or.inl ⟨by kernel_rfl, ?_⟩) (by assumption) ?_
          rotate_left
          · intro w hSw
            (try dsimp only at hSw)
            go_simp
            all_goals with_reducible rfl
          simp only [Act.put]
          refine wpAnyH_take (i := 3) (oi := _) (v := ?_) rfl (by kernel_rfl) (by kernel_rfl) (by kernel_rfl) (fun _ _ _ h => h) (Or.inl ⟨by kernel_rfl, ?_⟩) (by assumption) ?_
          rotate_left
          · intro w hSw
            (try dsimp only at hSw)
            go_simp
            all_goals with_reducible rfl
          simp only [Act.put]
          refine wpAnyH_take (i := 4) (oi := _) (v := ?_) rfl (by kernel_rfl) (by kernel_rfl) (by kernel_rfl) (fun _ _ _ h => h) (Or.inl ⟨by kernel_rfl, ?_⟩) (by assumption) ?_
          rotate_left
          · intro w hSw
            (try dsimp only at hSw)
            go_simp
            all_goals with_reducible rfl
          simp only [Act.put]
          refine wpAnyH_take (i := 5) (oi := _) (v := ?_) rfl (by kernel_rfl) (by kernel_rfl) (by kernel_rfl) (fun _ _ _ h => h) (Or.inl ⟨by kernel_rfl, ?_⟩) (by assumption) ?_
          rotate_left
          · intro w hSw
            (try dsimp only at hSw)
            go_simp
            all_goals with_reducible rfl
          simp only [Act.put]
          refine wpAnyH_take (i := 6) (oi := _) (v := ?_) rfl (by kernel_rfl) (by kernel_rfl) (by kernel_rfl) (fun _ _ _ h => h) (Or.inl ⟨by kernel_rfl, ?_⟩) (by assumption) ?_
          rotate_left
          · intro w hSw
            (try dsimp only at hSw)
            go_simp
            all_goals with_reducible rfl
          simp only [Act.put]
          refine wpAnyH_take (i := 7) (oi := _) (v := ?_) rfl (by kernel_rfl) (by kernel_rfl) (by kernel_rfl) (fun _ _ _ h => h) (Or.inl ⟨by kernel_rfl, ?_⟩) (by assumption) ?_
          rotate_left
          · intro w hSw
            (try dsimp only at hSw)
            go_simp
            all_goals with_reducible rfl
          simp only [Act.put]
          refine wpAnyH_take (i := 8) (oi := _) (v := ?_) rfl (by kernel_rfl) (by kernel_rfl) (by kernel_rfl) (fun _ _ _ h => h) (Or.inl ⟨by kernel_rfl, ?_⟩) (by assumption) ?_
          rotate_left
          · intro w hSw
            (try dsimp only at hSw)
            go_simp
            all_goals with_reducible rfl
          simp only [Act.put]
          refine wpAnyH_take (i := 9) (oi := _) (v := ?_) rfl (by kernel_rfl) (by kernel_rfl) (by kernel_rfl) (fun _ _ _ h => h) (Or.inl ⟨by kernel_rfl, ?_⟩) (by assumption) ?_
          rotate_left
          · intro w hSw
            (try dsimp only at hSw)
            go_simp
            all_goals with_reducible rfl
          simp only [Act.put]
          refine wpAnyH_take (i := 10) (oi := _) (v := ?_) rfl (by kernel_rfl) (by kernel_rfl) (by kernel_rfl) (fun _ _ _ h => h) (Or.inl ⟨by kernel_rfl, ?_⟩) (by assumption) ?_
          rotate_left
          · intro w hSw
            (try dsimp only at hSw)
            go_simp
            all_goals with_reducible rfl
          simp only [Act.put]
          refine wpAnyH_take (i := 11) (oi := _) (v := ?_) rfl (by kernel_rfl) (by kernel_rfl) (by kernel_rfl) (fun _ _ _ h => h) (Or.inl ⟨by kernel_rfl, ?_⟩) (by assumption) ?_
          rotate_left
          · intro w hSw
            (try dsimp only at hSw)
            go_simp
            all_goals with_reducible rfl
          simp only [Act.put]
          refine wpAnyH_take (i := 12) (oi := _) (v := ?_) rfl (by kernel_rfl) (by kernel_rfl) (by kernel_rfl) (fun _ _ _ h => h) (Or.inl ⟨by kernel_rfl, ?_⟩) (by assumption) ?_
          rotate_left
          · intro w hSw
            (try dsimp only at hSw)
            go_simp
            all_goals with_reducible rfl
          simp only [Act.put]
          refine wpAnyH_take (i := 13) (oi := _) (v := ?_) rfl (by kernel_rfl) (by kernel_rfl) (by kernel_rfl) (fun _ _ _ h => h) (Or.inl ⟨by kernel_rfl, ?_⟩) (by assumption) ?_
          rotate_left
          · intro w hSw
            (try dsimp only at hSw)
            go_simp
            all_goals with_reducible rfl
          simp only [Act.put]
          refine wpAnyH_take (i := 14) (oi := _) (v := ?_) rfl (by kernel_rfl) (by kernel_rfl) (by kernel_rfl) (fun _ _ _ h => h) (Or.inl ⟨by kernel_rfl, ?_⟩) (by assumption) ?_
          rotate_left
          · intro w hSw
            (try dsimp only at hSw)
            go_simp
            all_goals with_reducible rfl
          simp only [Act.put]
          refine wpAnyH_take (i := 15) (oi := _) (v := ?_) rfl (by kernel_rfl) (by kernel_rfl) (by kernel_rfl) (fun _ _ _ h => h) (Or.inl ⟨by kernel_rfl, ?_⟩) (by assumption) ?_
          rotate_left
          · intro w hSw
            (try dsimp only at hSw)
            go_simp
            all_goals with_reducible rfl
          simp only [Act.put]
          refine wpAnyH_take (i := 16) (oi := _) (v := ?_) rfl (by kernel_rfl) (by kernel_rfl) (by kernel_rfl) (fun _ _ _ h => h) (Or.inl ⟨by kernel_rfl, ?_⟩) (by assumption) ?_
          rotate_left
          · intro w hSw
            (try dsimp only at hSw)
            go_simp
            all_goals with_reducible rfl
          simp only [Act.put]
          refine wpAnyH_take (i := 17) (oi := _) (v := ?_) rfl (by kernel_rfl) (by kernel_rfl) (by kernel_rfl) (fun _ _ _ h => h) (Or.inl ⟨by kernel_rfl, ?_⟩) (by assumption) ?_
          rotate_left
          · intro w hSw
            (try dsimp only at hSw)
            go_simp
            all_goals with_reducible rfl
          simp only [Act.put]
          refine wpAnyH_take (i := 18) (oi := _) (v := ?_) rfl (by kernel_rfl) (by kernel_rfl) (by kernel_rfl) (fun _ _ _ h => h) (Or.inl ⟨by kernel_rfl, ?_⟩) (by assumption) ?_
          rotate_left
          · intro w hSw
            (try dsimp only at hSw)
            go_simp
            all_goals with_reducible rfl
          simp only [Act.put]
          refine wpAnyH_take (i := 19) (oi := _) (v := ?_) rfl (by kernel_rfl) (by kernel_rfl) (by kernel_rfl) (fun _ _ _ h => h) (Or.inl ⟨by kernel_rfl, ?_⟩) (by assumption) ?_
          rotate_left
          · intro w hSw
            (try dsimp only at hSw)
            go_simp
            all_goals with_reducible rfl
          simp only [Act.put]
          refine wpAnyH_take (i := 20) (oi := _) (v := ?_) rfl (by kernel_rfl) (by kernel_rfl) (by kernel_rfl) (fun _ _ _ h => h) (Or.inl ⟨by kernel_rfl, ?_⟩) (by assumption) ?_
          rotate_left
          · intro w hSw
            (try dsimp only at hSw)
            go_simp
            all_goals with_reducible rfl
          simp only [Act.put]
          refine wpAnyH_take (i := 21) (oi := _) (v := ?_) rfl (by kernel_rfl) (by kernel_rfl) (by kernel_rfl) (fun _ _ _ h => h) (Or.inl ⟨by kernel_rfl, ?_⟩) (by assumption) ?_
          rotate_left
          · intro w hSw
            (try dsimp only at hSw)
            go_simp
            all_goals with_reducible rfl
          simp only [Act.put]
          refine wpAnyH_take (i := 22) (oi := _) (v := ?_) rfl (by kernel_rfl) (by kernel_rfl) (by kernel_rfl) (fun _ _ _ h => h) (Or.inl ⟨by kernel_rfl, ?_⟩) (by assumption) ?_
          rotate_left
          · intro w hSw
            (try dsimp only at hSw)
            go_simp
            all_goals with_reducible rfl
          simp only [Act.put]
          refine wpAnyH_take (i := 23) (oi := _) (v := ?_) rfl (by kernel_rfl) (by kernel_rfl) (by kernel_rfl) (fun _ _ _ h => h) (Or.inl ⟨by kernel_rfl, ?_⟩) (by assumption) ?_
          rotate_left
          · intro w hSw
            (try dsimp only at hSw)
            go_simp
            all_goals with_reducible rfl
          simp only [Act.put]
          refine wpAnyH_take (i := 24) (oi := _) (v := ?_) rfl (by kernel_rfl) (by kernel_rfl) (by kernel_rfl) (fun _ _ _ h => h) (Or.inl ⟨by kernel_rfl, ?_⟩) (by assumption) ?_
          rotate_left
          · intro w hSw
            (try dsimp only at hSw)
            go_simp
            all_goals with_reducible rfl
          simp only [Act.put]
          refine wpAnyH_take (i := 25) (oi := _) (v := ?_) rfl (by kernel_rfl) (by kernel_rfl) (by kernel_rfl) (fun _ _ _ h => h) (Or.inl ⟨by kernel_rfl, ?_⟩) (by assumption) ?_
          rotate_left
          · intro w hSw
            (try dsimp only at hSw)
            go_simp
            all_goals with_reducible rfl
          simp only [Act.put]
          refine wpAnyH_take (i := 26) (oi := _) (v := ?_) rfl (by kernel_rfl) (by kernel_rfl) (by kernel_rfl) (fun _ _ _ h => h) (Or.inl ⟨by kernel_rfl, ?_⟩) (by assumption) ?_
          rotate_left
          · intro w hSw
            (try dsimp only at hSw)
            go_simp
            all_goals with_reducible rfl
          simp only [Act.put]
          refine wpAnyH_take (i := 27) (oi := _) (v := ?_) rfl (by kernel_rfl) (by kernel_rfl) (by kernel_rfl) (fun _ _ _ h => h) (Or.inl ⟨by kernel_rfl, ?_⟩) (by assumption) ?_
          rotate_left
          · intro w hSw
            (try dsimp only at hSw)
            go_simp
            all_goals with_reducible rfl
          simp only [Act.put]
          refine wpAnyH_ready (rs := [28]) (by kernel_rfl) (by simp) ?_
          refine AllReadyH.cons (o := _) rfl (fun K hK => ?_) AllReadyH.nil
          go_simp
          refine hK.out _ _ hHeld (fun hHeld => ?_)
          clear hK
          refine wpAnyH_done (by kernel_rfl) ?_ _
          clear hHeld u19 u22 u23 u0 e1 e2 e3
          by_cases hv : 4 < vv
          · have hdv : decide (vv > 4) = true := decide_eq_true hv
            have hdv2 : decide (4 < vv) = true := decide_eq_true hv
            have HBr : Hid (badC ⟨⟨c0, c1, c2, c3, c4, c5⟩, a0, b0, true, f0⟩ ck = true) := hide (bad_yes hbl (by have := HVV.out; simp only; omega))
            clear hbl
            go_wp2
            go_ret
            refine ⟨?_, HPX.out.later ((Below.refl _ _).drew)⟩
            unfold drC
            simp only
            rw [HBr.out, Bool.true_or]
            rfl
          · have hdv : decide (vv > 4) = false := decide_eq_false hv
            have hdv2 : decide (4 < vv) = false := decide_eq_false hv
            have HBr : Hid (badC ⟨⟨c0, c1, c2, c3, c4, c5⟩, a0, b0, true, f0⟩ ck = false) := hide (bad_no3 (by have := HVV.out; simp only; omega))
            have HPX := hide (HPX.out.later ((Below.refl _ w2).drew))
            clear hbl
            have HB := HBr
            have HP3 := HPX
            go_wp2
            exact ⟨⟨1, by omega, rfl, fun q => HB.out, fun q => by omega, HP3⟩, by simp [intOf]⟩
    · have HB := hide (hb0 (by omega))
      clear hb0 hb1
      have HPX := HI
      have u27 := cellB (i := 27) (v := .bool h1) HPX.out.box rfl
      have u6 := cellB (i := 6) (v := .int .i64 d0) HPX.out.box rfl
      have u7 := cellB (i := 7) (v := .int .i64 d1) HPX.out.box rfl
      have u8 := cellB (i := 8) (v := .int .i64 d2) HPX.out.box rfl
      have u9 := cellB (i := 9) (v := .int .i64 d3) HPX.out.box rfl
      have u10 := cellB (i := 10) (v := .int .i64 d4) HPX.out.box rfl
      have u11 := cellB (i := 11) (v := .int .i64 d5) HPX.out.box rfl
      cases h1 with
      | false =>
        have HBr : Hid (badC ⟨⟨d0, d1, d2, d3, d4, d5⟩, a1, b1, false, f1⟩ ck = false) := hide bad_no1
        have HB2 := HBr
        have HP3 := HPX
        go_wp2
        go_round
        case rel => exact ⟨2, by omega, rfl, fun q => HB.out, fun q => HB2.out, HP3⟩
        case measure => simp [intOf]
      | true =>
        obtain ⟨bl, hbl⟩ : ∃ bl, belG ⟨d0, d1, d2, d3, d4, d5⟩ = bl := ⟨_, rfl⟩
        have HBL := hide hbl
        go_wp2_with fail
        refine bel_any.mono ?_
        rw [HBL.out]
        rintro _ w2 ⟨rfl, b2⟩
        have HPX := hide (HI.out.later b2)
        clear b2 u27 u6 u7 u8 u9 u10 u11
        cases bl with
        | false =>
          have HBr : Hid (badC ⟨⟨d0, d1, d2, d3, d4, d5⟩, a1, b1, true, f1⟩ ck = false) := hide (bad_no2 hbl)
          clear hbl
          have HB2 := HBr
          have HP3 := HPX
          go_wp2
          go_round
          case rel => exact ⟨2, by omega, rfl, fun q => HB.out, fun q => HB2.out, HP3⟩
          case measure => simp [intOf]
        | true =>
          obtain ⟨v1, hv1⟩ : ∃ v, ck - a1 = v := ⟨_, rfl⟩
          obtain ⟨v2, hv2⟩ : ∃ v, d0 - b1 = v := ⟨_, rfl⟩
          obtain ⟨vv, hvv⟩ : ∃ v, v1 - v2 = v := ⟨_, rfl⟩
          have e1 : IntKind.i64.wrap (ck - a1) = v1 := by have := HR1.out; rw [IntKind.wrap_i64]; omega
          have e2 : IntKind.i64.wrap (d0 - b1) = v2 := by have := HR1.out; rw [IntKind.wrap_i64]; omega
          have e3 : IntKind.i64.wrap (v1 - v2) = vv := by have := HR1.out; rw [IntKind.wrap_i64]; omega
          have HVV : Hid (ck - a1 - (d0 - b1) = vv) := hide (by omega)
          clear hv1 hv2 hvv
          have u19 := cellB (i := 19) (v := .int .i64 ck) HPX.out.box rfl
          have u24 := cellB (i := 24) (v := .int .i64 a1) HPX.out.box rfl
          have u25 := cellB (i := 25) (v := .int .i64 b1) HPX.out.box rfl
          have u6 := cellB (i := 6) (v := .int .i64 d0) HPX.out.box rfl
          go_upto_region 5 with fail
          refine wp_region_held_drew (S := fun w' => w'.cell? ⟨pB, 19, none⟩ = some (.int .i64 ck) ∧ w'.cell? ⟨pB, 24, none⟩ = some (.int .i64 a1) ∧ w'.cell? ⟨pB, 25, none⟩ = some (.int .i64 b1) ∧ w'.cell? ⟨pB, 6, none⟩ = some (.int .i64 d0)) (by kernel_rfl) ⟨u19, u24, u25, u6⟩ (fun hHeld => ?_)
          refine wpAnyH_take (i := 0) (oi := _) (v := ?_) rfl (by kernel_rfl) (by kernel_rfl) (by kernel_rfl) (fun _ _ _ h => h) (Or.inl ⟨by kernel_rfl, ?_⟩) (by assumption) ?_
          rotate_left
          · intro w hSw
            (try dsimp only at hSw)
            go_simp
            all_goals with_reducible rfl
          simp only [Act.put]
          refine wpAnyH_take (i := 1) (oi := _) (v := ?_) rfl (by kernel_rfl) (by kernel_rfl) (by kernel_rfl) (fun _ _ _ h => h) (Or.inl ⟨by kernel_rfl, ?_⟩) (by assumption) ?_
          rotate_left
          · intro w hSw
            (try dsimp only at hSw)
            go_simp
            all_goals with_reducible rfl
          simp only [Act.put]
          refine wpAnyH_take (i := 2) (oi := _) (v := ?_) rfl (by kernel_rfl) (by kernel_rfl) (by kernel_rfl) (fun _ _ _ h => h) (Or.inl ⟨by kernel_rfl, ?_⟩) (by assumption) ?_
          rotate_left
          · intro w hSw
            (try dsimp only at hSw)
            go_simp
            all_goals with_reducible rfl
          simp only [Act.put]
          refine wpAnyH_take (i := 3) (oi := _) (v := ?_) rfl (by kernel_rfl) (by kernel_rfl) (by kernel_rfl) (fun _ _ _ h => h) (Or.inl ⟨by kernel_rfl, ?_⟩) (by assumption) ?_
          rotate_left
          · intro w hSw
            (try dsimp only at hSw)
            go_simp
            all_goals with_reducible rfl
          simp only [Act.put]
          refine wpAnyH_take (i := 4) (oi := _) (v := ?_) rfl (by kernel_rfl) (by kernel_rfl) (by kernel_rfl) (fun _ _ _ h => h) (Or.inl ⟨by kernel_rfl, ?_⟩) (by assumption) ?_
          rotate_left
          · intro w hSw
            (try dsimp only at hSw)
            go_simp
            all_goals with_reducible rfl
          simp only [Act.put]
          refine wpAnyH_take (i := 5) (oi := _) (v := ?_) rfl (by kernel_rfl) (by kernel_rfl) (by kernel_rfl) (fun _ _ _ h => h) (Or.inl ⟨by kernel_rfl, ?_⟩) (by assumption) ?_
          rotate_left
          · intro w hSw
            (try dsimp only at hSw)
            go_simp
            all_goals with_reducible rfl
          simp only [Act.put]
          refine wpAnyH_take (i := 6) (oi := _) (v := ?_) rfl (by kernel_rfl) (by kernel_rfl) (by kernel_rfl) (fun _ _ _ h => h) (Or.inl ⟨by kernel_rfl, ?_⟩) (by assumption) ?_
          rotate_left
          · intro w hSw
            (try dsimp only at hSw)
            go_simp
            all_goals with_reducible rfl
          simp only [Act.put]
          refine wpAnyH_take (i := 7) (oi := _) (v := ?_) rfl (by kernel_rfl) (by kernel_rfl) (by kernel_rfl) (fun _ _ _ h => h) (Or.inl ⟨by kernel_rfl, ?_⟩) (by assumption) ?_
          rotate_left
          · intro w hSw
            (try dsimp only at hSw)
            go_simp
            all_goals with_reducible rfl
          simp only [Act.put]
          refine wpAnyH_take (i := 8) (oi := _) (v := ?_) rfl (by kernel_rfl) (by kernel_rfl) (by kernel_rfl) (fun _ _ _ h => h) (Or.inl ⟨by kernel_rfl, ?_⟩) (by assumption) ?_
          rotate_left
          · intro w hSw
            (try dsimp only at hSw)
            go_simp
            all_goals with_reducible rfl
          simp only [Act.put]
          refine wpAnyH_take (i := 9) (oi := _) (v := ?_) rfl (by kernel_rfl) (by kernel_rfl) (by kernel_rfl) (fun _ _ _ h => h) (Or.inl ⟨by kernel_rfl, ?_⟩) (by assumption) ?_
          rotate_left
          · intro w hSw
            (try dsimp only at hSw)
            go_simp
            all_goals with_reducible rfl
          simp only [Act.put]
          refine wpAnyH_take (i := 10) (oi := _) (v := ?_) rfl (by kernel_rfl) (by kernel_rfl) (by kernel_rfl) (fun _ _ _ h => h) (Or.inl ⟨by kernel_rfl, ?_⟩) (by assumption) ?_
          rotate_left
          · intro w hSw
            (try dsimp only at hSw)
            go_simp
            all_goals with_reducible rfl
          simp only [Act.put]
          refine wpAnyH_take (i := 11) (oi := _) (v := ?_) rfl (by kernel_rfl) (by kernel_rfl) (by kernel_rfl) (fun _ _ _ h => h) (Or.inl ⟨by kernel_rfl, ?_⟩) (by assumption) ?_
          rotate_left
          · intro w hSw
            (try dsimp only at hSw)
            go_simp
            all_goals with_reducible rfl
          simp only [Act.put]
          refine wpAnyH_take (i := 12) (oi := _) (v := ?_) rfl (by kernel_rfl) (by kernel_rfl) (by kernel_rfl) (fun _ _ _ h => h) (Or.inl ⟨by kernel_rfl, ?_⟩) (by assumption) ?_
          rotate_left
          · intro w hSw
            (try dsimp only at hSw)
            go_simp
            all_goals with_reducible rfl
          simp only [Act.put]
          refine wpAnyH_take (i := 13) (oi := _) (v := ?_) rfl (by kernel_rfl) (by kernel_rfl) (by kernel_rfl) (fun _ _ _ h => h) (Or.inl ⟨by kernel_rfl, ?_⟩) (by assumption) ?_
          rotate_left
          · intro w hSw
            (try dsimp only at hSw)
            go_simp
            all_goals with_reducible rfl
          simp only [Act.put]
          refine wpAnyH_take (i := 14) (oi := _) (v := ?_) rfl (by kernel_rfl) (by kernel_rfl) (by kernel_rfl) (fun _ _ _ h => h) (Or.inl ⟨by kernel_rfl, ?_⟩) (by assumption) ?_
          rotate_left
          · intro w hSw
            (try dsimp only at hSw)
            go_simp
            all_goals with_reducible rfl
          simp only [Act.put]
          refine wpAnyH_take (i := 15) (oi := _) (v := ?_) rfl (by kernel_rfl) (by kernel_rfl) (by kernel_rfl) (fun _ _ _ h => h) (Or.inl ⟨by kernel_rfl, ?_⟩) (by assumption) ?_
          rotate_left
          · intro w hSw
            (try dsimp only at hSw)
            go_simp
            all_goals with_reducible rfl
          simp only [Act.put]
          refine wpAnyH_take (i := 16) (oi := _) (v := ?_) rfl (by kernel_rfl) (by kernel_rfl) (by kernel_rfl) (fun _ _ _ h => h) (Or.inl ⟨by kernel_rfl, ?_⟩) (by assumption) ?_
          rotate_left
          · intro w hSw
            (try dsimp only at hSw)
            go_simp
            all_goals with_reducible rfl
          simp only [Act.put]
          refine wpAnyH_take (i := 17) (oi := _) (v := ?_) rfl (by kernel_rfl) (by kernel_rfl) (by kernel_rfl) (fun _ _ _ h => h) (Or.inl ⟨by kernel_rfl, ?_⟩) (by assumption) ?_
          rotate_left
          · intro w hSw
            (try dsimp only at hSw)
            go_simp
            all_goals with_reducible rfl
          simp only [Act.put]
          refine wpAnyH_take (i := 18) (oi := _) (v := ?_) rfl (by kernel_rfl) (by kernel_rfl) (by kernel_rfl) (fun _ _ _ h => h) (Or.inl ⟨by kernel_rfl, ?_⟩) (by assumption) ?_
          rotate_left
          · intro w hSw
            (try dsimp only at hSw)
            go_simp
            all_goals with_reducible rfl
          simp only [Act.put]
          refine wpAnyH_take (i := 19) (oi := _) (v := ?_) rfl (by kernel_rfl) (by kernel_rfl) (by kernel_rfl) (fun _ _ _ h => h) (Or.inl ⟨by kernel_rfl, ?_⟩) (by assumption) ?_
          rotate_left
          · intro w hSw
            (try dsimp only at hSw)
            go_simp
            all_goals with_reducible rfl
          simp only [Act.put]
          refine wpAnyH_take (i := 20) (oi := _) (v := ?_) rfl (by kernel_rfl) (by kernel_rfl) (by kernel_rfl) (fun _ _ _ h => h) (Or.inl ⟨by kernel_rfl, ?_⟩) (by assumption) ?_
          rotate_left
          · intro w hSw
            (try dsimp only at hSw)
            go_simp
            all_goals with_reducible rfl
          simp only [Act.put]
          refine wpAnyH_take (i := 21) (oi := _) (v := ?_) rfl (by kernel_rfl) (by kernel_rfl) (by kernel_rfl) (fun _ _ _ h => h) (Or.inl ⟨by kernel_rfl, ?_⟩) (by assumption) ?_
          rotate_left
          · intro w hSw
            (try dsimp only at hSw)
            go_simp
            all_goals with_reducible rfl
          simp only [Act.put]
          refine wpAnyH_take (i := 22) (oi := _) (v := ?_) rfl (by kernel_rfl) (by kernel_rfl) (by kernel_rfl) (fun _ _ _ h => h) (Or.inl ⟨by kernel_rfl, ?_⟩) (by assumption) ?_
          rotate_left
          · intro w hSw
            (try dsimp only at hSw)
            go_simp
            all_goals with_reducible rfl
          simp only [Act.put]
          refine wpAnyH_take (i := 23) (oi := _) (v := ?_) rfl (by kernel_rfl) (by kernel_rfl) (by kernel_rfl) (fun _ _ _ h => h) (Or.inl ⟨by kernel_rfl, ?_⟩) (by assumption) ?_
          rotate_left
          · intro w hSw
            (try dsimp only at hSw)
            go_simp
            all_goals with_reducible rfl
          simp only [Act.put]
          refine wpAnyH_take (i := 24) (oi := _) (v := ?_) rfl (by kernel_rfl) (by kernel_rfl) (by kernel_rfl) (fun _ _ _ h => h) (Or.inl ⟨by kernel_rfl, ?_⟩) (by assumption) ?_
          rotate_left
          · intro w hSw
            (try dsimp only at hSw)
            go_simp
            all_goals with_reducible rfl
          simp only [Act.put]
          refine wpAnyH_take (i := 25) (oi := _) (v := ?_) rfl (by kernel_rfl) (by kernel_rfl) (by kernel_rfl) (fun _ _ _ h => h) (Or.inl ⟨by kernel_rfl, ?_⟩) (by assumption) ?_
          rotate_left
          · intro w hSw
            (try dsimp only at hSw)
            go_simp
            all_goals with_reducible rfl
          simp only [Act.put]
          refine wpAnyH_take (i := 26) (oi := _) (v := ?_) rfl (by kernel_rfl) (by kernel_rfl) (by kernel_rfl) (fun _ _ _ h => h) (Or.inl ⟨by kernel_rfl, ?_⟩) (by assumption) ?_
          rotate_left
          · intro w hSw
            (try dsimp only at hSw)
            go_simp
            all_goals with_reducible rfl
          simp only [Act.put]
          refine wpAnyH_take (i := 27) (oi := _) (v := ?_) rfl (by kernel_rfl) (by kernel_rfl) (by kernel_rfl) (fun _ _ _ h => h) (Or.inl ⟨by kernel_rfl, ?_⟩) (by assumption) ?_
          rotate_left
          · intro w hSw
            (try dsimp only at hSw)
            go_simp
            all_goals with_reducible rfl
          simp only [Act.put]
          refine wpAnyH_ready (rs := [28]) (by kernel_rfl) (by simp) ?_
          refine AllReadyH.cons (o := _) rfl (fun K hK => ?_) AllReadyH.nil
          go_simp
          refine hK.out _ _ hHeld (fun hHeld => ?_)
          clear hK
          refine wpAnyH_done (by kernel_rfl) ?_ _
          clear hHeld u19 u24 u25 u6 e1 e2 e3
          by_cases hv : 4 < vv
          · have hdv : decide (vv > 4) = true := decide_eq_true hv
            have hdv2 : decide (4 < vv) = true := decide_eq_true hv
            have HBr : Hid (badC ⟨⟨d0, d1, d2, d3, d4, d5⟩, a1, b1, true, f1⟩ ck = true) := hide (bad_yes hbl (by have := HVV.out; simp only; omega))
            clear hbl
            go_wp2
            go_ret
            refine ⟨?_, HPX.out.later ((Below.refl _ _).drew)⟩
            unfold drC
            simp only
            rw [HBr.out, HB.out, Bool.or_true]
            rfl
          · have hdv : decide (vv > 4) = false := decide_eq_false hv
            have hdv2 : decide (4 < vv) = false := decide_eq_false hv
            have HBr : Hid (badC ⟨⟨d0, d1, d2, d3, d4, d5⟩, a1, b1, true, f1⟩ ck = false) := hide (bad_no3 (by have := HVV.out; simp only; omega))
            have HPX := hide (HPX.out.later ((Below.refl _ w2).drew))
            clear hbl
            have HB2 := HBr
            have HP3 := HPX
            go_wp2
            exact ⟨⟨2, by omega, rfl, fun q => HB.out, fun q => HB2.out, HP3⟩, by simp [intOf]⟩
    · have HB := hide (hb0 (by omega))
      have HB2 := hide (hb1 (by omega))
      clear hb0 hb1
      go_wp2
      go_ret
      refine ⟨?_, HI.out⟩
      unfold drC
      simp only
      rw [HB.out, HB2.out, Bool.or_self]
      rfl
end Go.Proofs.Ytegffdmlkbdcdaa
