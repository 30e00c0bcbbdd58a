/-
  StorePrefix: what a crash leaves is what comes of the same without some last writes, the last one that is kept perhaps torn: for every input. No conditions.
-/
import Derived.Test.YtikpckmlnhcddaaPfx
import Derived.Test.YtikpckmlnhcddaaOpa
import Derived.Test.YtikpckmlnhcddaaRows
namespace Go.Proofs.Ytikpckmlnhcddaa.storePrefix
open Go.ChangeShapes Go.WideShapes Go.ChangeAt Go.RowKit

theorem Try.cellsPast : Try.prog.cellsOf 24 = 4 := by kernel_rfl
theorem Try.cellsOps : Try.prog.cellsOf 22 = 1 := by kernel_rfl
theorem Try.cellsU : Try.prog.cellsOf 5 = 1 := by kernel_rfl
theorem Try.bytesOp : Try.prog.bytesOf 36 = 80 := by kernel_rfl

theorem ops_len {H : Type} {d : DataW H} {n : Nat} (h : (DataW.weights Try.prog 22 d).all (· ≤ reachBytes) = true) (hd : d = .nil ∧ n = 0 ∨ ∃ elems spare, d = .slice elems spare ∧ elems.length = n) : n * 80 ≤ 140737488355328 := by
  rcases hd with ⟨_, rfl⟩ | ⟨elems, spare, rfl, rfl⟩
  · omega
  · simp only [DataW.weights, Try.underlying22, Try.bytesOp, List.all_cons, Bool.and_eq_true, decide_eq_true_eq] at h
    have h1 := h.1
    unfold reachBytes at h1
    have h2 : elems.length * 80 ≤ (elems.length + spare.length) * 80 := Nat.mul_le_mul_right _ (by omega)
    omega

set_option maxRecDepth 100000 in
theorem contract (H : Type) (enc : TypeId × Value → H) (W : World) (base : Nat) (args : Array Value) (ds gs : List (DataW H)) (before : List MemPlace)
    (hval : ∀ (j : Nat) t v, Try.f3.params[j]? = some t → args[j]? = some v → Value.okWide Try.prog W .any base t v)
    (hW : DataW.Whole enc Try.prog Try.f3.params.toList Rows.storePrefixSpec.vars false W args.toList ds gs before)
    (hsz0 : (DataW.weightsEach Try.prog (Try.f3.params.toList ++ Rows.storePrefixSpec.plain.varTypes Try.prog) (ds ++ gs)).all (· ≤ reachBytes) = true) :
    Calls Try.prog 3 args W fun e W' => ∃ v, e = .returned v ∧ Rows.storePrefixSpec.post enc Try.prog Try.f3 false true false false W args v W' := by
  have hW' := hW
  obtain ⟨p, q, hA0, hV, rfl, hfz, hnd⟩ := hW
  have hA : DataW.TrodAll enc Try.prog W 0 (fun _ => true) true Try.f3.params.toList args.toList ds p := hA0
  rw [Try.params3] at hA hval hsz0
  obtain ⟨v0, vs0, d0, ds0, p0, q0, hargs, rfl, rfl, h0, r0⟩ := trodAll_cons hA
  obtain ⟨rfl, rfl, rfl⟩ := trodAll_nil r0
  obtain rfl : args = #[v0] := by cases args; simp_all
  obtain ⟨rfl, rfl⟩ := trodVars_none hV
  obtain ⟨cs, rfl, hcs⟩ := okWide_struct Try.underlying24 (hval 0 24 v0 rfl rfl)
  rw [Try.cellsPast] at hcs
  have k0 := h0
  have lt0 : ∀ x ∈ p0, x.block < W.heap.size := by obtain ⟨m, hm⟩ := k0; exact DataW.trod_lt m _ _ _ hm
  obtain ⟨f0, hf0⟩ := h0
  obtain ⟨cl⟩ := cs
  have hcl : cl.length = 4 := by simpa using hcs
  match cl, hcl with
  | [c0, c1, c2, c3], _ =>
    have hcc : (Value.agg ⟨[c0, c1, c2, c3]⟩).cells.toList = [c0, c1, c2, c3] := by simp [Value.cells]
    rw [hcc] at hf0
    obtain ⟨xs, m, _, hx, _, hxl, hfs⟩ := DataW.trod_struct Try.underlying24 hf0
    have hxl' : xs.length = 4 := hxl
    match xs, hxl' with
    | [y0, y1, y2, y3], _ =>
      have g0 : DataW.trod enc Try.prog W 0 (fun _ => true) true m 22 (([c0, c1, c2, c3].drop 0).take (Try.prog.cellsOf 22)) = [y0, y1, y2, y3][0]? := hfs 0 _ rfl
      rw [Try.cellsOps] at g0
      replace g0 : DataW.trod enc Try.prog W 0 (fun _ => true) true m 22 [c0] = some y0 := g0
      have g1 : DataW.trod enc Try.prog W 0 (fun _ => true) true m 22 (([c0, c1, c2, c3].drop 1).take (Try.prog.cellsOf 22)) = [y0, y1, y2, y3][1]? := hfs 1 _ rfl
      rw [Try.cellsOps] at g1
      replace g1 : DataW.trod enc Try.prog W 0 (fun _ => true) true m 22 [c1] = some y1 := g1
      have g2 : DataW.trod enc Try.prog W 0 (fun _ => true) true m 5 (([c0, c1, c2, c3].drop 2).take (Try.prog.cellsOf 5)) = [y0, y1, y2, y3][2]? := hfs 2 _ rfl
      rw [Try.cellsU] at g2
      replace g2 : DataW.trod enc Try.prog W 0 (fun _ => true) true m 5 [c2] = some y2 := g2
      have g3 : DataW.trod enc Try.prog W 0 (fun _ => true) true m 5 (([c0, c1, c2, c3].drop 3).take (Try.prog.cellsOf 5)) = [y0, y1, y2, y3][3]? := hfs 3 _ rfl
      rw [Try.cellsU] at g3
      replace g3 : DataW.trod enc Try.prog W 0 (fun _ => true) true m 5 [c3] = some y3 := g3
      obtain ⟨os, O1, D1⟩ := arg_ops g0
      obtain ⟨ms, O2, D2⟩ := arg_ops g1
      obtain ⟨n2, e2, _, w2⟩ := DataW.trod_int Try.underlying5 g2
      obtain ⟨n3, e3, _, w3⟩ := DataW.trod_int Try.underlying5 g3
      simp only [List.cons.injEq, and_true] at e2 e3
      subst e2 e3
      have b2 := bounds_u8 w2
      have b3 := bounds_u8 w3
      obtain ⟨kn, rfl⟩ : ∃ kn : Nat, n2 = (kn : Int) := ⟨n2.toNat, by omega⟩
      obtain ⟨tn, rfl⟩ : ∃ tn : Nat, n3 = (tn : Int) := ⟨n3.toNat, by omega⟩
      simp only [Prod.mk.injEq] at hx
      have hsz1 : (DataW.weights Try.prog 24 d0).all (· ≤ reachBytes) = true := by
        have h9 := hsz0
        simp only [List.cons_append, DataW.weightsEach, List.all_append, Bool.and_eq_true] at h9
        exact h9.1
      rw [hx.1] at hsz1
      simp only [DataW.weights, Try.underlying24, List.map_cons, List.map_nil, DataW.weightsEach, List.append_nil, List.all_append, Bool.and_eq_true] at hsz1
      have L1 := ops_len hsz1.1 D1
      have L2 := ops_len hsz1.2.1 D2
      clear hA0
      refine (prefix_walk (keep := kn) (torn := tn) O1 O2 (by omega) (by omega) L1 L2).mono fun e W' ⟨he, bel⟩ => ?_
      subst he
      exact ⟨_, rfl, _, _, _, [], _, [], hW', trodAll_mk1 (shut_bool Try.underlying4 _), (trodAll_cons_mk (Below.trod Try.laidOut (by kernel_rfl) (of_decide_eq_true (by kernel_rfl)) k0 bel lt0) trodAll_mk0), rfl, bel.frame _, fun h => by cases h⟩

set_option maxRecDepth 100000 in
theorem lifted (os : Os) (started : os.Started) (H : Type) (enc : TypeId × Value → H) :
    ReturnsInHanded {} Try.checked os 3 .any (Rows.storePrefixSpec.pre6 enc Try.prog Try.f3 Rows.storePrefixRow.domain false) (Rows.storePrefixSpec.post enc Try.prog Try.f3 false true false false) := by
  refine returnsInHanded_of_change_sized (C := Try.checked) Try.ownK started (by kernel_rfl) Try.func3
    (ChangeSpec.witness6 (enc := enc) (C := Try.checked) false ⟨#[], #[.agg #[.slice none 0 0, .slice none 0 0, .int .u8 0, .int .u8 0]], []⟩ 8 (by kernel_rfl) (by kernel_rfl) (by kernel_rfl) (by kernel_rfl)) ?_
  intro W base args ds gs before hval hW _ hsz _
  exact contract H enc W base args ds gs before hval hW hsz

set_option maxRecDepth 100000 in
theorem proved : Rows.StorePrefixSaid :=
  OpenClaim.holds_of_wide 3 Try.f3 rfl rfl rfl rfl rfl rfl rfl ⟨rfl, rfl, rfl, rfl, rfl⟩ rfl rfl rfl rfl rfl (by kernel_rfl) Try.func3 (by kernel_rfl)
    (of_decide_eq_true (by kernel_rfl)) (by unfold Func.isWrapper; first | (rw [if_pos (by decide +kernel)]; kernel_rfl) | (rw [if_neg (by decide +kernel)]; exact ⟨rfl, rfl⟩))
    (fun os started H enc _ => lifted os started H enc)

end Go.Proofs.Ytikpckmlnhcddaa.storePrefix
