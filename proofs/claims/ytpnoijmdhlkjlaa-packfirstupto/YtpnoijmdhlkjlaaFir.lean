/-
  PROVED: the statement PackFirst in its second form: where the argument holds at most 1048576 values, the law returns true: the number with which any bytes begin, and all of them one behind the other, are what they must be.
-/
import Derived.Test.YtpnoijmdhlkjlaaLiv
import Derived.Test.YtpnoijmdhlkjlaaCal
import Derived.Test.YtpnoijmdhlkjlaaArg
import Derived.ProofKit
import Derived.OpenShut
import Derived.ChangeOld
namespace Go.Proofs.Ytpnoijmdhlkjlaa.packFirst
open Go.ChangeShapes Go.WideShapes Go.ChangeAt Go.RowKit

theorem first_at2 {v : Value} {l : List Int} {w : World} {n er : Int} {k : Nat} (hv : Row .u8 w v l) (hu : U8 l) (hf : first l = (n, k, er)) :
    Calls Try.prog 17 #[v] w fun e w' => e = .returned (.tuple #[.int .i64 n, .int .i64 (k : Int), .int .i64 er]) ∧ w' = w := by
  refine (first_any hv hu).mono ?_
  rintro e w' ⟨rfl, rfl⟩
  rw [hf]
  exact ⟨rfl, rfl⟩

set_option maxHeartbeats 2000000 in
theorem walk {v : Value} {b : List Int} (w : World) (hv : Row .u8 w v b) (hu : U8 b) (hbig : b.length ≤ 1048576) :
    Calls Try.prog 4 #[v] w fun e w' => e = .returned (.bool true) ∧ Below w.heap.size w w' := by
  have HV : Hid (Row .u8 w v b) := hv
  have HU : Hid (U8 b) := hu
  clear hv hu
  obtain ⟨n, k, er, hf⟩ : ∃ n k er, first b = (n, k, er) := ⟨_, _, _, rfl⟩
  go_enter Try.func4, Try.ntmps4
  go_wp2_with fail
  refine (live_any w).mono ?_
  rintro r w1 ⟨rfl, hb1⟩
  go_wp2_with fail
  refine (first_at2 (HV.out.below hb1) HU.out hf).mono ?_
  rintro r w' ⟨rfl, hw'⟩
  obtain rfl : w1 = w' := hw'.symm
  go_wp2_with fail
  refine (rfirst_at2 (HV.out.below hb1) HU.out hf).mono ?_
  rintro r w' ⟨rfl, hw'⟩
  obtain rfl : w1 = w' := hw'.symm
  go_wp2_with fail
  refine (numbers_any (HV.out.below hb1) HU.out hbig).mono ?_
  rintro r w2 ⟨v1, v2, rfl, hown1, hown2, hb2⟩
  have R1 : Hid (Row .i64 w2 v1 (fsts (numbers b))) := own_row hown1
  have R2 : Hid (Row .i64 w2 v2 (snds (numbers b))) := own_row hown2
  have B2 : Below w.heap.size w w2 := hb1.trans (hb2.mono hb1.size)
  clear hown1 hown2 hb2
  go_wp2_with fail
  refine (rnumbers_any (HV.out.below B2) HU.out hbig).mono ?_
  rintro r w3 ⟨v3, v4, rfl, hown3, hown4, hb3⟩
  have R3 : Hid (Row .i64 w3 v3 (fsts (numbers b))) := own_row hown3
  have R4 : Hid (Row .i64 w3 v4 (snds (numbers b))) := own_row hown4
  have R1' : Hid (Row .i64 w3 v1 (fsts (numbers b))) := R1.out.below hb3
  have R2' : Hid (Row .i64 w3 v2 (snds (numbers b))) := R2.out.below hb3
  have B3 : Below w.heap.size w w3 := B2.trans (hb3.mono B2.size)
  clear hown3 hown4 hb3 R1 R2
  go_wp2_with fail
  refine (equal64_any R1'.out R3.out rfl).mono ?_
  rintro r w4 ⟨rfl, hb4⟩
  have B4 : Below w.heap.size w w4 := B3.trans (hb4.mono B3.size)
  go_wp2_with fail
  refine (equalInt_any (R2'.out.below hb4) (R4.out.below hb4) rfl).mono ?_
  rintro r w5 ⟨rfl, hb5⟩
  have B5 : Below w.heap.size w w5 := B4.trans (hb5.mono B4.size)
  go_wp2_with fail
  go_ret
  exact ⟨rfl, B5⟩
theorem short {H : Type} {d0 : DataW H} (hk : Rows.uptoSmall H [d0] = true) : Rows.uptoBulk d0 ≤ 1048576 := by
  have h : Rows.uptoBulkAll [d0] ≤ 1048576 := of_decide_eq_true hk
  simp only [Rows.uptoBulkAll] at h
  omega

theorem contract (H : Type) (enc : TypeId × Value → H) (W : World) (base : Nat) (args : Array Value) (ds gs : List (DataW H)) (before : List MemPlace)
    (hval : ∀ (j : Nat) t v, Try.f4.params[j]? = some t → args[j]? = some v → Value.okWide Try.prog W .any base t v)
    (hW : DataW.Whole enc Try.prog Try.f4.params.toList Rows.packFirstSpec.vars false W args.toList ds gs before) (hk : Rows.uptoSmall H (ds ++ gs) = true) :
    Calls Try.prog 4 args W fun e W' => ∃ v, e = .returned v ∧ Rows.packFirstSpec.post enc Try.prog Try.f4 false true false false W args v W' := by
  have hW' := hW
  obtain ⟨p, q, hA0, hV, rfl, hfz, hnd⟩ := hW
  have hA : DataW.TrodAll enc Try.prog W 0 (fun _ => true) true Try.f4.params.toList args.toList ds p := hA0
  rw [Try.params4] at hA hval
  obtain ⟨v0, vs0, d0, ds0, p0, q0, hargs, rfl, rfl, h0, r0⟩ := trodAll_cons hA
  obtain ⟨rfl, rfl, rfl⟩ := trodAll_nil r0
  obtain rfl : args = #[v0] := by cases args; simp_all
  obtain ⟨rfl, rfl⟩ := trodVars_none hV
  obtain ⟨a0, len0, cap0, rfl⟩ := okWide_slice Try.underlying22 (hval 0 22 v0 rfl rfl)
  have k0 := h0
  have lt0 : ∀ x ∈ p0, x.block < W.heap.size := by obtain ⟨m, hm⟩ := k0; exact DataW.trod_lt m _ _ _ hm
  obtain ⟨f0, hf0⟩ := h0
  obtain ⟨l0, e0, R0, wf0, D0⟩ := arg_row Try.underlying22 Try.underlying5 (by kernel_rfl) hf0
  simp only [List.append_nil] at hk
  have s0 := short hk
  have b0 := D0.bulk
  clear hA0
  refine (walk W R0 (wf_u8 wf0) (by omega)).mono fun e W' ⟨he, bel⟩ => ?_
  subst he
  exact ⟨_, rfl, _, _, _, [], _, [], hW', trodAll_mk1 (shut_bool Try.underlying4 _), (trodAll_cons_mk (Below.trod Try.laidOut (by kernel_rfl) (of_decide_eq_true (by kernel_rfl)) k0 bel lt0) trodAll_mk0), rfl, bel.frame _, fun h => by cases h⟩

set_option maxRecDepth 100000 in
theorem lifted (os : Os) (started : os.Started) (H : Type) (enc : TypeId × Value → H) (F : Stop.Interp) :
    ReturnsInHanded {} Try.checked os 4 .any ((Rows.OpenSpec.upto Rows.packFirstSpec).pre6 enc Try.prog Try.f4 Rows.packFirstUptoRow.domain false) (((Rows.OpenSpec.upto Rows.packFirstSpec).at F).post enc Try.prog Try.f4 false true false false) := by
  refine returnsInHanded_of_cond (C := Try.checked) (s := Rows.OpenSpec.upto Rows.packFirstSpec) (k := Rows.uptoSmall) rfl Try.ownK started (by kernel_rfl) Try.func4
    (OpenSpec.witness (enc := enc) (C := Try.checked) (s := Rows.OpenSpec.upto Rows.packFirstSpec) (k := Rows.uptoSmall) rfl false ⟨#[], #[.slice none 0 0], []⟩ 8 (by kernel_rfl) (by kernel_rfl) (by kernel_rfl)
      (x := ([.nil], [], [])) (by kernel_rfl) rfl (by kernel_rfl)) ?_
  intro W base args ds gs before hval hW _ hk _
  exact contract H enc W base args ds gs before hval hW hk

theorem proved : Rows.PackFirstUptoSaid :=
  OpenClaim.holds_of_cond 4 Try.f4 rfl rfl rfl rfl rfl rfl rfl ⟨rfl, rfl, rfl, rfl, rfl⟩ rfl rfl rfl rfl rfl (by kernel_rfl) Try.func4 (by kernel_rfl)
    (of_decide_eq_true (by kernel_rfl)) (by unfold Func.isWrapper; first | (rw [if_pos (by decide +kernel)]; kernel_rfl) | (rw [if_neg (by decide +kernel)]; exact ⟨rfl, rfl⟩))
    (fun os started H enc _ F => lifted os started H enc F)

end Go.Proofs.Ytpnoijmdhlkjlaa.packFirst
