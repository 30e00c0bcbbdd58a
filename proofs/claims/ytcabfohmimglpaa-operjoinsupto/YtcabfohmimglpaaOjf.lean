/-
  OperJoins, as the program is given: true for every operator and every two lists of records, as far as the statement's own bound on the sizes of its arguments goes.
-/
import Derived.Test.YtcabfohmimglpaaOar
import Derived.Test.YtcabfohmimglpaaOjl
namespace Go.Proofs.Ytcabfohmimglpaa.operJoins
open Go.ChangeShapes Go.WideShapes Go.ChangeAt Go.RowKit

theorem arg_recsN {H : Type} {enc : TypeId × Value → H} {W : World} {fuel : Nat} {c : Value} {x : DataW H × List MemPlace} (h : DataW.trod enc Try.prog W 0 (fun _ => true) true fuel 25 [c] = some x) :
    ∃ (p : Option Addr) (cap : Nat) (es : List RC), c = .slice p es.length cap ∧ RRow W p cap es ∧ (p = none → cap = 0) ∧ (∀ e ∈ es, e.fine) ∧ es.length + 1 ≤ Rows.uptoBulk x.1 := by
  obtain ⟨p, cap, es, h1, h2, h3, h4, h5, h6, h7, _⟩ := arg_list (cells := RC.cells) (wt := fun _ => 1) (R := RC.fine) (by decide) Try.underlying25 Try.cellsRec arg_rec h
  rw [sum_onesR] at h6
  exact ⟨p, cap, es, h1, ⟨h2, h3, h5⟩, h7, h4, h6⟩
theorem walk {W : World} {kd pt fn ar : Int} {ip p q : Option Addr} {n ic c d : Nat} {rs rs' : List RC} (_ : I6 kd) (_ : I6 pt) (_ : I6 fn) (ha : I6 ar) (h : RRow W p c rs) (h0 : p = none → c = 0) (hf : ∀ r ∈ rs, r.fine) (h' : RRow W q d rs') (h0' : q = none → d = 0) (hf' : ∀ r ∈ rs', r.fine) (hb : rs.length + rs'.length ≤ 1048576) :
    Calls Try.prog 3 #[.agg #[.int .i64 kd, .int .i64 pt, .int .i64 fn, .int .i64 ar, .slice ip n ic], .slice p rs.length c, .slice q rs'.length d] W fun e w' => e = .returned (.bool true) ∧ Below W.heap.size W w' :=
  joins_walk ha h h0 rfl h' h0' rfl hb hf hf'
theorem short {H : Type} {d0 d1 d2 : DataW H} (hk : Rows.uptoSmall H [d0, d1, d2] = true) : Rows.uptoBulk d0 + Rows.uptoBulk d1 + Rows.uptoBulk d2 ≤ 1048576 := by
  have h : Rows.uptoBulkAll [d0, d1, d2] ≤ 1048576 := of_decide_eq_true hk
  simp only [Rows.uptoBulkAll] at h
  omega

set_option maxRecDepth 100000 in
theorem contract (H : Type) (enc : TypeId × Value → H) (W : World) (base : Nat) (args : Array Value) (ds gs : List (DataW H)) (before : List MemPlace)
    (hval : ∀ (j : Nat) t v, Try.f3.params[j]? = some t → args[j]? = some v → Value.okWide Try.prog W .any base t v)
    (hW : DataW.Whole enc Try.prog Try.f3.params.toList Rows.operJoinsSpec.vars false W args.toList ds gs before) (hk : Rows.uptoSmall H (ds ++ gs) = true) :
    Calls Try.prog 3 args W fun e W' => ∃ v, e = .returned v ∧ Rows.operJoinsSpec.post enc Try.prog Try.f3 false true false false W args v W' := by
  have hW' := hW
  obtain ⟨p, q, hA0, hV, rfl, hfz, hnd⟩ := hW
  have hA : DataW.TrodAll enc Try.prog W 0 (fun _ => true) true Try.f3.params.toList args.toList ds p := hA0
  rw [Try.params3] at hA hval
  obtain ⟨v0, vs0, d0, ds0, p0, q0, hargs, rfl, rfl, h0, r0⟩ := trodAll_cons hA
  obtain ⟨v1, vs1, d1, ds1, p1, q1, rfl, rfl, rfl, h1, r1⟩ := trodAll_cons r0
  obtain ⟨v2, vs2, d2, ds2, p2, q2, rfl, rfl, rfl, h2, r2⟩ := trodAll_cons r1
  obtain ⟨rfl, rfl, rfl⟩ := trodAll_nil r2
  obtain rfl : args = #[v0, v1, v2] := by cases args; simp_all
  obtain ⟨rfl, rfl⟩ := trodVars_none hV
  obtain ⟨cs0, rfl, hcs0⟩ := okWide_struct Try.underlying24 (hval 0 24 v0 rfl rfl)
  rw [Try.cellsOp] at hcs0
  obtain ⟨a1, len1, cap1, rfl⟩ := okWide_slice Try.underlying25 (hval 1 25 v1 rfl rfl)
  obtain ⟨a2, len2, cap2, rfl⟩ := okWide_slice Try.underlying25 (hval 2 25 v2 rfl rfl)
  have k0 := h0
  have lt0 : ∀ x ∈ p0, x.block < W.heap.size := by obtain ⟨m, hm⟩ := k0; exact DataW.trod_lt m _ _ _ hm
  obtain ⟨f0, hf0⟩ := h0
  have hcc0 : (Value.agg cs0).cells.toList = cs0.toList := by simp [Value.cells]
  rw [hcc0] at hf0
  obtain ⟨kd0, pt0, fn0, ar0, ip0, n0, ic0, rfl, I0a, I0b, I0c, I0d⟩ := arg_op hcs0 hf0
  have k1 := h1
  have lt1 : ∀ x ∈ p1, x.block < W.heap.size := by obtain ⟨m, hm⟩ := k1; exact DataW.trod_lt m _ _ _ hm
  obtain ⟨f1, hf1⟩ := h1
  have hcc1 : (Value.slice a1 len1 cap1).cells.toList = [.slice a1 len1 cap1] := by simp [Value.cells]
  rw [hcc1] at hf1
  obtain ⟨pp1, pc1, xs1, ee1, R1, Z1, F1, B1⟩ := arg_recsN hf1
  simp only [Value.slice.injEq] at ee1
  obtain ⟨rfl, rfl, rfl⟩ := ee1
  have k2 := h2
  have lt2 : ∀ x ∈ p2, x.block < W.heap.size := by obtain ⟨m, hm⟩ := k2; exact DataW.trod_lt m _ _ _ hm
  obtain ⟨f2, hf2⟩ := h2
  have hcc2 : (Value.slice a2 len2 cap2).cells.toList = [.slice a2 len2 cap2] := by simp [Value.cells]
  rw [hcc2] at hf2
  obtain ⟨pp2, pc2, xs2, ee2, R2, Z2, F2, B2⟩ := arg_recsN hf2
  simp only [Value.slice.injEq] at ee2
  obtain ⟨rfl, rfl, rfl⟩ := ee2
  simp only [List.append_nil] at hk
  have s0 := short hk
  simp only at B1
  simp only at B2
  clear hA0
  refine (walk I0a I0b I0c I0d R1 Z1 F1 R2 Z2 F2 (by omega)).mono fun e W' ⟨he, bel⟩ => ?_
  subst he
  exact ⟨_, rfl, _, _, _, [], _, [], hW', trodAll_mk1 (shut_bool Try.underlying4 _), (trodAll_cons_mk (Below.trod Try.laidOut (by kernel_rfl) (of_decide_eq_true (by kernel_rfl)) k0 bel lt0) (trodAll_cons_mk (Below.trod Try.laidOut (by kernel_rfl) (of_decide_eq_true (by kernel_rfl)) k1 bel lt1) (trodAll_cons_mk (Below.trod Try.laidOut (by kernel_rfl) (of_decide_eq_true (by kernel_rfl)) k2 bel lt2) trodAll_mk0))), rfl, bel.frame _, fun h => by cases h⟩

set_option maxRecDepth 100000 in
theorem lifted (os : Os) (started : os.Started) (H : Type) (enc : TypeId × Value → H) (F : Stop.Interp) :
    ReturnsInHanded {} Try.checked os 3 .any ((Rows.OpenSpec.upto Rows.operJoinsSpec).pre6 enc Try.prog Try.f3 Rows.operJoinsUptoRow.domain false) (((Rows.OpenSpec.upto Rows.operJoinsSpec).at F).post enc Try.prog Try.f3 false true false false) := by
  refine returnsInHanded_of_cond (C := Try.checked) (s := Rows.OpenSpec.upto Rows.operJoinsSpec) (k := Rows.uptoSmall) rfl Try.ownK started (by kernel_rfl) Try.func3
    (OpenSpec.witness (enc := enc) (C := Try.checked) (s := Rows.OpenSpec.upto Rows.operJoinsSpec) (k := Rows.uptoSmall) rfl false ⟨#[], #[.agg #[.int .i64 0, .int .i64 0, .int .i64 0, .int .i64 0, .slice none 0 0], .slice none 0 0, .slice none 0 0], []⟩ 8 (by kernel_rfl) (by kernel_rfl) (by kernel_rfl)
      (x := ([.agg [.lit (.int .i64 0), .lit (.int .i64 0), .lit (.int .i64 0), .lit (.int .i64 0), .nil], .nil, .nil], [], [])) (by kernel_rfl) rfl (by kernel_rfl)) ?_
  intro W base args ds gs before hval hW _ hk _
  exact contract H enc W base args ds gs before hval hW hk

set_option maxRecDepth 100000 in
theorem proved : Rows.OperJoinsUptoSaid :=
  OpenClaim.holds_of_cond 3 Try.f3 rfl rfl rfl rfl rfl rfl rfl ⟨rfl, rfl, rfl, rfl, rfl⟩ rfl rfl rfl rfl rfl (by kernel_rfl) Try.func3 (by kernel_rfl)
    (of_decide_eq_true (by kernel_rfl)) (by unfold Func.isWrapper; first | (rw [if_pos (by decide +kernel)]; kernel_rfl) | (rw [if_neg (by decide +kernel)]; exact ⟨rfl, rfl⟩))
    (fun os started H enc _ F => lifted os started H enc F)

end Go.Proofs.Ytcabfohmimglpaa.operJoins
