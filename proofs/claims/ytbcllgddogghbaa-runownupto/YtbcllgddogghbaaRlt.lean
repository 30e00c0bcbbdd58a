/-
  RunTurns: what is taken in turn of any lists is the document's. The condition: what is handed in holds at most 1048576 values.
-/
import Derived.Test.YtbcllgddogghbaaRbg
import Derived.Laws.Rows
namespace Go.Proofs.Ytbcllgddogghbaa
open Go.RowKit Go.Shelf
theorem weight_len : ∀ (ls : List (List RC)), ls.length ≤ weightL ls
  | [] => Nat.le_refl _
  | l :: ls => by
    have := weight_len ls
    simp only [weightL, List.map_cons, List.sum_cons, List.length_cons] at this ⊢
    omega
theorem weight_mem : ∀ (ls : List (List RC)), ∀ l ∈ ls, l.length ≤ weightL ls
  | [], _, h => by cases h
  | x :: ls, l, h => by
    simp only [weightL, List.map_cons, List.sum_cons]
    rcases List.mem_cons.1 h with e | e
    · rw [e]; omega
    · have := weight_mem ls l e
      simp only [weightL] at this
      omega
theorem turnN_small {ls : List (List RC)} {t : Nat} (ht : t < ls.length) (hw : weightL ls + 1 ≤ 1048576) : turnN ls t * 16 ≤ 140737488355328 := by
  have h1 := turnN_le ht
  have h2 := weight_len ls
  have h3 := weight_mem ls ls[t]! (by rw [getElem!_pos ls t ht]; exact List.getElem_mem _)
  have h4 : ls.length * lenAt ls t ≤ 1048576 * 1048576 := Nat.mul_le_mul (by omega) (by unfold lenAt; omega)
  omega
end Go.Proofs.Ytbcllgddogghbaa
namespace Go.Proofs.Ytbcllgddogghbaa.runTurns
open Go.RowKit Go.Shelf Go.Proofs.Ytbcllgddogghbaa Go.ChangeShapes Go.WideShapes Go.ChangeAt

set_option maxRecDepth 100000 in
set_option maxHeartbeats 4000000 in
theorem walk {W : World} {tt : Int} {p : Option Addr} {cap : Nat} {xs : List SV} (_h0 : I6 tt) (hx : LL W p cap xs) (_hfine : ∀ x ∈ xs, ∀ r ∈ x.rs, r.fine) (hw : weightL (xs.map SV.rs) + 1 ≤ 1048576) :
    Calls Try.prog 3 #[.int .i64 tt, .slice p xs.length cap] W fun e w' => e = .returned (.bool true) ∧ Below W.heap.size W w' := by
  obtain ⟨n, hn⟩ : ∃ n, xs.length = n := ⟨_, rfl⟩
  have hml : (xs.map SV.rs).length = n := by rw [List.length_map]; exact hn
  have hnb : n ≤ 1048576 := by have := weight_len (xs.map SV.rs); omega
  rw [hn]
  by_cases hv : 0 ≤ tt ∧ tt < (n : Int)
  · obtain ⟨t, rfl⟩ : ∃ t : Nat, tt = (t : Int) := ⟨tt.toNat, by omega⟩
    have ht : t < n := by omega
    have hst := turn_stop (ls := xs.map SV.rs) (t := t) (by omega)
    have hsm := turnN_small (ls := xs.map SV.rs) (t := t) (by omega) hw
    obtain ⟨N, hN⟩ : ∃ N, turnN (xs.map SV.rs) t = N := ⟨_, rfl⟩
    rw [hN] at hst hsm
    have HT := hide (turns_any hx hn ht hst hnb hsm)
    have HR : Hid (∀ X, Below W.heap.size W X → Calls Try.prog 8 #[.int .i64 (t : Int), .slice p n cap] X fun e w' => ∃ p1 c1 p2 c2, e = .returned (.tuple #[.slice p1 N c1, .int .i64 ((whoC n t N : Nat) : Int), .slice p2 n c2]) ∧ w'.ownsRow X.heap.size 40 2 (.slice p1 N c1) N ((takenC (xs.map SV.rs) t N).flatMap RC.cells) ∧ w'.ownsRow X.heap.size 3 1 (.slice p2 n c2) n ((countsC n t N).map (Value.int .i64)) ∧ Below X.heap.size X w') := hide (fun X hX => rturns_any (hx.later hX) hn ht hst hnb hsm)
    obtain ⟨wt, hwt⟩ : ∃ wt, whoC n t N = wt := ⟨_, rfl⟩
    rw [hwt] at HT HR
    have HTL : Hid ((takenC (xs.map SV.rs) t N).length = N) := hide taken_len
    clear hx hst hsm hN hwt hml hv hn
    go_enter Try.func3, Try.ntmps3
    go_wp2_with fail
    refine HT.out.mono ?_
    rintro _ w1 ⟨p1, c1, g2, rfl, O1, O2, B1⟩
    have HO1 := hide O1
    have HO2 := hide O2
    have HB1 := hide B1
    clear O1 O2 B1 HT
    go_wp2_with fail
    refine (HR.out w1 HB1.out).mono ?_
    rintro _ w2 ⟨p3, c3, p4, c4, rfl, O3, O4, B2⟩
    have HO3 := hide O3
    have HO4 := hide O4
    have HB2 := hide (HB1.out.trans (B2.mono HB1.out.size))
    have HB12 := hide B2
    clear O3 O4 B2 HR
    go_wp2_with fail
    refine begun_any.mono ?_
    rintro _ w3 ⟨rfl, B3⟩
    have HS := hide (samerec_any (L := N) (LRow.of_own RC.len HTL.out (ownsRow_later (ownsRow_later HO1.out HB12.out) B3)) (LRow.of_own RC.len HTL.out (ownsRow_later HO3.out B3)) HTL.out)
    have HB3 := hide (HB2.out.trans (B3.mono HB2.out.size))
    have HB23 := hide B3
    clear B3
    go_wp2_with fail
    refine HS.out.mono ?_
    rintro _ w4 ⟨rfl, B4⟩
    have HE := hide (equalInt_any (own_row (ownsRow_later (ownsRow_later (ownsRow_later HO2.out HB12.out) HB23.out) B4)) (own_row (ownsRow_later (ownsRow_later HO4.out HB23.out) B4)) rfl)
    have HB4 := hide (HB3.out.trans (B4.mono HB3.out.size))
    clear B4 HS
    go_wp2_with fail
    refine HE.out.mono ?_
    rintro _ w5 ⟨rfl, B5⟩
    have HB5 := hide (HB4.out.trans (B5.mono HB4.out.size))
    clear B5 HE
    go_wp2
    go_ret
    exact ⟨rfl, HB5.out⟩
  · have hv2 : tt < 0 ∨ (n : Int) ≤ tt := by omega
    have i1 := hx.row.le
    have i2 := hx.row.top
    rw [hn] at i1
    have HT := hide (turnsB_any hx hn hv2 hnb)
    have HR : Hid (∀ X, Calls Try.prog 8 #[.int .i64 tt, .slice p n cap] X fun e w' => ∃ p2 c2, e = .returned (.tuple #[.slice none 0 0, .int .i64 tt, .slice p2 n c2]) ∧ w'.ownsRow X.heap.size 3 1 (.slice p2 n c2) n ((List.replicate n (0 : Int)).map (Value.int .i64)) ∧ Below X.heap.size X w') := hide (fun X => rturnsB_any hv2 hnb i1 i2)
    clear hx hml hv hv2 hn
    go_enter Try.func3, Try.ntmps3
    go_wp2_with fail
    refine HT.out.mono ?_
    rintro _ w1 ⟨g2, rfl, O2, B1⟩
    have HO2 := hide O2
    have HB1 := hide B1
    clear O2 B1 HT
    go_wp2_with fail
    refine (HR.out w1).mono ?_
    rintro _ w2 ⟨p4, c4, rfl, O4, B2⟩
    have HO4 := hide O4
    have HB2 := hide (HB1.out.trans (B2.mono HB1.out.size))
    have HB12 := hide B2
    clear O4 B2 HR
    go_wp2_with fail
    refine begun_any.mono ?_
    rintro _ w3 ⟨rfl, B3⟩
    have HS := hide (samerec_any (W := w3) (L := 0) (es := []) (LRow.of_own RC.len rfl (World.ownsRow_nil w3 w3.heap.size 40 2)) (LRow.of_own RC.len rfl (World.ownsRow_nil w3 w3.heap.size 40 2)) rfl)
    have HB3 := hide (HB2.out.trans (B3.mono HB2.out.size))
    have HB23 := hide B3
    clear B3
    go_wp2_with fail
    refine HS.out.mono ?_
    rintro _ w4 ⟨rfl, B4⟩
    have HE := hide (equalInt_any (own_row (ownsRow_later (ownsRow_later (ownsRow_later HO2.out HB12.out) HB23.out) B4)) (own_row (ownsRow_later (ownsRow_later HO4.out HB23.out) B4)) rfl)
    have HB4 := hide (HB3.out.trans (B4.mono HB3.out.size))
    clear B4 HS
    go_wp2_with fail
    refine HE.out.mono ?_
    rintro _ w5 ⟨rfl, B5⟩
    have HB5 := hide (HB4.out.trans (B5.mono HB4.out.size))
    clear B5 HE
    go_wp2
    go_ret
    exact ⟨rfl, HB5.out⟩
theorem short {H : Type} {d0 d1 : DataW H} (hk : Rows.uptoSmall H [d0, d1] = true) : Rows.uptoBulk d0 ≤ 1048576 ∧ Rows.uptoBulk d1 ≤ 1048576 := by
  have h : Rows.uptoBulkAll [d0, d1] ≤ 1048576 := of_decide_eq_true hk
  simp only [Rows.uptoBulkAll] at h
  omega

set_option maxRecDepth 100000 in
theorem contract (H : Type) (enc : TypeId × Value → H) (W : World) (base : Nat) (args : Array Value) (ds gs : List (DataW H)) (before : List MemPlace)
    (hval : ∀ (j : Nat) t v, Try.f3.params[j]? = some t → args[j]? = some v → Value.okWide Try.prog W .any base t v)
    (hW : DataW.Whole enc Try.prog Try.f3.params.toList Rows.runTurnsSpec.vars false W args.toList ds gs before) (hk : Rows.uptoSmall H (ds ++ gs) = true) :
    Calls Try.prog 3 args W fun e W' => ∃ v, e = .returned v ∧ Rows.runTurnsSpec.post enc Try.prog Try.f3 false true false false W args v W' := by
  have hW' := hW
  obtain ⟨p, q, hA0, hV, rfl, hfz, hnd⟩ := hW
  have hA : DataW.TrodAll enc Try.prog W 0 (fun _ => true) true Try.f3.params.toList args.toList ds p := hA0
  rw [Try.params3] at hA hval
  obtain ⟨v0, vs0, d0, ds0, p0, q0, hargs, rfl, rfl, h0, r0⟩ := trodAll_cons hA
  obtain ⟨v1, vs1, d1, ds1, p1, q1, rfl, rfl, rfl, h1, r1⟩ := trodAll_cons r0
  obtain ⟨rfl, rfl, rfl⟩ := trodAll_nil r1
  obtain rfl : args = #[v0, v1] := by cases args; simp_all
  obtain ⟨rfl, rfl⟩ := trodVars_none hV
  obtain ⟨a1, len1, cap1, rfl⟩ := okWide_slice Try.underlying22 (hval 1 22 v1 rfl rfl)
  obtain ⟨n0, rfl, rfl, rfl, wi0⟩ := open_int Try.underlying3 (hval 0 3 v0 rfl rfl) h0
  have bd0 := bounds_i64 wi0
  have k1 := h1
  have lt1 : ∀ x ∈ p1, x.block < W.heap.size := by obtain ⟨m, hm⟩ := k1; exact DataW.trod_lt m _ _ _ hm
  obtain ⟨f1, hf1⟩ := h1
  have hcc1 : (Value.slice a1 len1 cap1).cells.toList = [.slice a1 len1 cap1] := by simp [Value.cells]
  rw [hcc1] at hf1
  obtain ⟨pp1, pc1, xs1, ee1, R1, F1, B1⟩ := arg_lists hf1
  simp only [Value.slice.injEq] at ee1
  obtain ⟨rfl, rfl, rfl⟩ := ee1
  simp only [List.append_nil] at hk
  obtain ⟨s0, s1⟩ := short hk
  simp only at B1
  clear hA0
  refine (walk ⟨bd0.1, by have := bd0.2; omega⟩ R1 F1 (by omega)).mono fun e W' ⟨he, bel⟩ => ?_
  subst he
  exact ⟨_, rfl, _, _, _, [], _, [], hW', trodAll_mk1 (shut_bool Try.underlying4 _), (trodAll_cons_mk (shut_int Try.underlying3 wi0) (trodAll_cons_mk (Below.trod Try.laidOut (by kernel_rfl) (of_decide_eq_true (by kernel_rfl)) k1 bel lt1) trodAll_mk0)), rfl, bel.frame _, fun h => by cases h⟩

set_option maxRecDepth 100000 in
theorem lifted (os : Os) (started : os.Started) (H : Type) (enc : TypeId × Value → H) (F : Stop.Interp) :
    ReturnsInHanded {} Try.checked os 3 .any ((Rows.OpenSpec.upto Rows.runTurnsSpec).pre6 enc Try.prog Try.f3 Rows.runTurnsUptoRow.domain false) (((Rows.OpenSpec.upto Rows.runTurnsSpec).at F).post enc Try.prog Try.f3 false true false false) := by
  refine returnsInHanded_of_cond (C := Try.checked) (s := Rows.OpenSpec.upto Rows.runTurnsSpec) (k := Rows.uptoSmall) rfl Try.ownK started (by kernel_rfl) Try.func3
    (OpenSpec.witness (enc := enc) (C := Try.checked) (s := Rows.OpenSpec.upto Rows.runTurnsSpec) (k := Rows.uptoSmall) rfl false ⟨#[], #[.int .i64 0, .slice none 0 0], []⟩ 8 (by kernel_rfl) (by kernel_rfl) (by kernel_rfl)
      (x := ([.lit (.int .i64 0), .nil], [], [])) (by kernel_rfl) rfl (by kernel_rfl)) ?_
  intro W base args ds gs before hval hW _ hk _
  exact contract H enc W base args ds gs before hval hW hk

set_option maxRecDepth 100000 in
theorem proved : Rows.RunTurnsUptoSaid :=
  OpenClaim.holds_of_cond 3 Try.f3 rfl rfl rfl rfl rfl rfl rfl ⟨rfl, rfl, rfl, rfl, rfl⟩ rfl rfl rfl rfl rfl (by kernel_rfl) Try.func3 (by kernel_rfl)
    (of_decide_eq_true (by kernel_rfl)) (by unfold Func.isWrapper; first | (rw [if_pos (by decide +kernel)]; kernel_rfl) | (rw [if_neg (by decide +kernel)]; exact ⟨rfl, rfl⟩))
    (fun os started H enc _ F => lifted os started H enc F)

end Go.Proofs.Ytbcllgddogghbaa.runTurns
