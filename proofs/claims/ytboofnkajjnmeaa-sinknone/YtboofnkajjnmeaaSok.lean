/-
  SinkNone, as said: a sink that no call made; records are nobody else's. No conditions.
-/
import Derived.Test.YtboofnkajjnmeaaSoj
import Derived.Test.YtboofnkajjnmeaaSoc
import Derived.SizedLaws
namespace Go.Proofs.Ytboofnkajjnmeaa.sinkNone
open Go.RowKit Go.Proofs.Ytboofnkajjnmeaa Go.ChangeShapes Go.WideShapes Go.ChangeAt

theorem walk {W : World} {d ep id bg : Int} {rp vp : Option Addr} {rc vc : Nat} {rs : List RC} {vs : List Int} (_ : I6 (⟨d, ⟨⟨ep, id, bg, rs, vs⟩, rp, rc, vp, vc⟩⟩ : OP).d ∧ (⟨d, ⟨⟨ep, id, bg, rs, vs⟩, rp, rc, vp, vc⟩⟩ : OP).x.lies W) :
    Calls Try.prog 7 #[.agg #[.int .i64 d, .int .i64 ep, .int .i64 id, .int .i64 bg, .slice rp rs.length rc, .slice vp vs.length vc]] W fun e w' => e = .returned (.bool true) ∧ Below W.heap.size W w' := none_walk
set_option maxRecDepth 100000 in
theorem contract (H : Type) (enc : TypeId × Value → H) (W : World) (base : Nat) (args : Array Value) (ds gs : List (DataW H)) (before : List MemPlace)
    (hval : ∀ (j : Nat) t v, Try.f7.params[j]? = some t → args[j]? = some v → Value.okWide Try.prog W .any base t v)
    (hW : DataW.Whole enc Try.prog Try.f7.params.toList Rows.sinkNoneSpec.vars false W args.toList ds gs before) (hsz0 : (DataW.weightsEach Try.prog (Try.f7.params.toList ++ Rows.sinkNoneSpec.plain.varTypes Try.prog) (ds ++ gs)).all (· ≤ reachBytes) = true) :
    Calls Try.prog 7 args W fun e W' => ∃ v, e = .returned v ∧ Rows.sinkNoneSpec.post enc Try.prog Try.f7 false true false false W args v W' := by
  have hW' := hW
  obtain ⟨p, q, hA0, hV, rfl, hfz, hnd⟩ := hW
  have hA : DataW.TrodAll enc Try.prog W 0 (fun _ => true) true Try.f7.params.toList args.toList ds p := hA0
  rw [Try.params7] at hA hval hsz0
  obtain ⟨v0, vs0, d0, ds0, p0, q0, hargs, rfl, rfl, h0, r0⟩ := trodAll_cons hA
  obtain ⟨rfl, rfl, rfl⟩ := trodAll_nil r0
  obtain rfl : args = #[v0] := by cases args; simp_all
  obtain ⟨rfl, rfl⟩ := trodVars_none hV
  obtain ⟨cs0, rfl, hcs0⟩ := okWide_struct Try.underlying36 (hval 0 36 v0 rfl rfl)
  rw [Try.cellsOpS] at hcs0
  have k0 := h0
  have lt0 : ∀ x ∈ p0, x.block < W.heap.size := by obtain ⟨m, hm⟩ := k0; exact DataW.trod_lt m _ _ _ hm
  obtain ⟨f0, hf0⟩ := h0
  have hcc0 : (Value.agg cs0).cells.toList = cs0.toList := by simp [Value.cells]
  rw [hcc0] at hf0
  obtain ⟨o0, oc0, F0, _⟩ := arg_opS _ _ _ (by simpa using hcs0) hf0
  obtain rfl : cs0 = (OP.cells o0).toArray := by rw [← oc0]
  obtain ⟨d_0, ⟨⟨ep_0, id_0, bg_0, rs_0, vs_0⟩, rp_0, rc_0, vp_0, vc_0⟩⟩ := o0
  clear hA0
  refine (walk F0).mono fun e W' ⟨he, bel⟩ => ?_
  subst he
  exact ⟨_, rfl, _, _, _, [], _, [], hW', trodAll_mk1 (shut_bool Try.underlying4 _), (trodAll_cons_mk (Below.trod Try.laidOut (by kernel_rfl) (of_decide_eq_true (by kernel_rfl)) k0 bel lt0) trodAll_mk0), rfl, bel.frame _, fun h => by cases h⟩

set_option maxRecDepth 100000 in
theorem lifted (os : Os) (started : os.Started) (H : Type) (enc : TypeId × Value → H) :
    ReturnsInHanded {} Try.checked os 7 .any (Rows.sinkNoneSpec.pre6 enc Try.prog Try.f7 Rows.sinkNoneRow.domain false) (Rows.sinkNoneSpec.post enc Try.prog Try.f7 false true false false) := by
  refine returnsInHanded_of_change_sized (C := Try.checked) Try.ownK started (by kernel_rfl) Try.func7
    (ChangeSpec.witness6 (enc := enc) (C := Try.checked) false ⟨#[], #[.agg #[.int .i64 0, .int .i64 0, .int .i64 0, .int .i64 0, .slice none 0 0, .slice none 0 0]], []⟩ 8 (by kernel_rfl) (by kernel_rfl) (by kernel_rfl) (by kernel_rfl)) ?_
  intro W base args ds gs before hval hW _ hsz _
  exact contract H enc W base args ds gs before hval hW hsz

set_option maxRecDepth 100000 in
theorem proved : Rows.SinkNoneSaid :=
  OpenClaim.holds_of_wide 7 Try.f7 rfl rfl rfl rfl rfl rfl rfl ⟨rfl, rfl, rfl, rfl, rfl⟩ rfl rfl rfl rfl rfl (by kernel_rfl) Try.func7 (by kernel_rfl)
    (of_decide_eq_true (by kernel_rfl)) (by unfold Func.isWrapper; first | (rw [if_pos (by decide +kernel)]; kernel_rfl) | (rw [if_neg (by decide +kernel)]; exact ⟨rfl, rfl⟩))
    (fun os started H enc _ => lifted os started H enc)

end Go.Proofs.Ytboofnkajjnmeaa.sinkNone
