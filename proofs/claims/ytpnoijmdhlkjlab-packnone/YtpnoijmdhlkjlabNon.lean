/-
  PROVED: the statement PackNone: for every byte slice and every int64 the law returns true: an unpacker that no call made, and memory that is another one's. No condition but the form's own reach.
-/
import Derived.Test.YtpnoijmdhlkjlabLiv
import Derived.Test.YtpnoijmdhlkjlabRef
import Derived.Test.YtpnoijmdhlkjlabNop
import Derived.Test.YtpnoijmdhlkjlabMth
import Derived.Test.YtpnoijmdhlkjlabArg
import Derived.SizedLaws
namespace Go.Proofs.Ytpnoijmdhlkjlab.packNone
open Go.ChangeShapes Go.WideShapes Go.ChangeAt Go.RowKit

theorem half_bd {n : Int} (n0 : -9223372036854775808 ≤ n) (n1 : n ≤ 9223372036854775807) : -9223372036854775808 ≤ n.tdiv 2 ∧ n.tdiv 2 ≤ 9223372036854775807 := by
  rcases Int.le_total 0 n with h | h
  · rw [Int.tdiv_eq_ediv_of_nonneg h]; omega
  · have e : n.tdiv 2 = -((-n).tdiv 2) := by rw [Int.neg_tdiv]; omega
    rw [e, Int.tdiv_eq_ediv_of_nonneg (by omega)]; omega

set_option maxHeartbeats 4000000 in
theorem walk {n : Int} {vb : Value} {b : List Int} (w : World) (n0 : -9223372036854775808 ≤ n) (n1 : n ≤ 9223372036854775807) (hb : Row .u8 w vb b) (ub : U8 b) (sb : b.length ≤ 140737488351232) :
    Calls Try.prog 3 #[vb, .int .i64 n] w fun e w' => e = .returned (.bool true) ∧ Below w.heap.size w w' := by
  obtain ⟨i0, hI, hz0, hz1, hz2⟩ := info_parts Try.infoU8
  have HB : Hid (Row .u8 w vb b) := hb
  have HUB : Hid (U8 b) := ub
  obtain ⟨p, cap, rfl, g1, g2, g3, g4⟩ := hb
  clear g3 g4 ub
  go_enter Try.func3, Try.ntmps3
  go_wp2_with fail
  refine (live_any w).mono ?_
  rintro r w1 ⟨rfl, hb1⟩
  go_wp2_with fail
  generalize hw2 : (w1.alloc (Obj.cells #[Value.bool false, Value.slice none 0 0, Value.int IntKind.i64 0] 27)).alloc (Obj.cells #[Value.pointer none, Value.pointer (some { block := w1.heap.size, off := 0 })] 24) = w2
  have B2 : Below w.heap.size w w2 := by rw [← hw2]; exact (hb1.alloc hb1.size _).alloc (by simp; have := hb1.size; omega) _
  have d0 : w2.cell? ⟨w1.heap.size + 1, 0, none⟩ = some (.pointer none) := by rw [← hw2]; simp
  have d1 : w2.cell? ⟨w1.heap.size + 1, 1, none⟩ = some (.pointer (some ⟨w1.heap.size, 0, none⟩)) := by rw [← hw2]; simp
  have HN0 : Hid (Nop w2 (.pointer none)) := .inl rfl
  have HN1 : Hid (Nop w2 (.pointer (some ⟨w1.heap.size, 0, none⟩))) := .inr ⟨w1.heap.size, rfl, by rw [← hw2, Below.heap_alloc _ _ _ (by simp)]; exact heap_alloc_new w1 _⟩
  clear hw2
  go_loop [20] (fun i => ∃ k : Nat, k ≤ 2 ∧ i = .int .i64 (k : Int)) (fun i => 2 - (intOf i).toNat)
  case atStart => exact ⟨0, Nat.zero_le _, rfl⟩
  case round =>
    obtain ⟨k, hk, rfl⟩ := hrel
    rcases (show k = 0 ∨ k = 1 ∨ k = 2 by omega) with rfl | rfl | rfl
    · go_wp2_with (first
        | (go_at_call 5; refine (spoil_nop HN0.out rfl).mono ?_; rintro r w' ⟨rfl, hw'⟩; obtain rfl : w2 = w' := hw'.symm)
        | (go_at_call 6; refine (int_nop HN0.out).mono ?_; rintro r w' ⟨rfl, hw'⟩; obtain rfl : w2 = w' := hw'.symm)
        | (go_at_call 7; refine (str_nop HN0.out).mono ?_; rintro r w' ⟨rfl, hw'⟩; obtain rfl : w2 = w' := hw'.symm)
        | (go_at_call 8; refine (flag_nop HN0.out).mono ?_; rintro r w' ⟨rfl, hw'⟩; obtain rfl : w2 = w' := hw'.symm)
        | (go_at_call 9; refine (rest_nop HN0.out).mono ?_; rintro r w' ⟨rfl, hw'⟩; obtain rfl : w2 = w' := hw'.symm)
        | (go_at_call 10; refine (err_nop HN0.out).mono ?_; rintro r w' ⟨rfl, hw'⟩; obtain rfl : w2 = w' := hw'.symm)
        | (go_at_call 11; refine (close_nop HN0.out).mono ?_; rintro r w' ⟨rfl, hw'⟩; obtain rfl : w2 = w' := hw'.symm))
      go_round
      case rel => exact ⟨1, by omega, rfl⟩
      case measure => simp [intOf]
    · go_wp2_with (first
        | (go_at_call 5; refine (spoil_nop HN1.out rfl).mono ?_; rintro r w' ⟨rfl, hw'⟩; obtain rfl : w2 = w' := hw'.symm)
        | (go_at_call 6; refine (int_nop HN1.out).mono ?_; rintro r w' ⟨rfl, hw'⟩; obtain rfl : w2 = w' := hw'.symm)
        | (go_at_call 7; refine (str_nop HN1.out).mono ?_; rintro r w' ⟨rfl, hw'⟩; obtain rfl : w2 = w' := hw'.symm)
        | (go_at_call 8; refine (flag_nop HN1.out).mono ?_; rintro r w' ⟨rfl, hw'⟩; obtain rfl : w2 = w' := hw'.symm)
        | (go_at_call 9; refine (rest_nop HN1.out).mono ?_; rintro r w' ⟨rfl, hw'⟩; obtain rfl : w2 = w' := hw'.symm)
        | (go_at_call 10; refine (err_nop HN1.out).mono ?_; rintro r w' ⟨rfl, hw'⟩; obtain rfl : w2 = w' := hw'.symm)
        | (go_at_call 11; refine (close_nop HN1.out).mono ?_; rintro r w' ⟨rfl, hw'⟩; obtain rfl : w2 = w' := hw'.symm))
      go_round
      case rel => exact ⟨2, by omega, rfl⟩
      case measure => simp [intOf]
    · clear d0 d1 HN0 HN1 hb1
      have HB2 : Hid (Row .u8 w2 (.slice p b.length cap) b) := HB.out.below B2
      go_wp2_with (at_make; refine wpList_make_own _ rfl _ _ 22 rfl w2.heap.size 5 i0 (.int .u8 0) 1 Try.underlying22 hI hz0 hz1 .i64 .i64 _ (b.length + 40) rfl rfl (by omega) (by rw [hz2]; omega) (by unfold maxLen; omega) (Nat.le_refl _) ?_)
      intro w3 hown3 hgrow3
      go_wp2_with (at_builtin; refine append_row _ rfl (.tmp 58) (.tmp 59) 22 rfl w2.heap.size 5 i0 .u8 1 Try.underlying22 hI hz0 hz1 hz2 _ _ _ rfl hown3 _ b rfl (HB2.out.kept hgrow3 (by cases p <;> simp [Value.ownBlock])) (by omega) (by omega) hgrow3.size ?_)
      intro v4 w4 hown4 hgrow4
      have R4 : Hid (Row .u8 w4 v4 b) := own_row (n := 0 + b.length) (base := w2.heap.size) (e := 5) (by simpa using hown4)
      have B24 : Below w2.heap.size w2 w4 := ((Below.refl _ w2).grown hgrow3 (Nat.le_refl _) (by simp)).grown hgrow4 hgrow3.size (by intro k hk; simp [Value.ownBlock] at hk; omega)
      have B4 : Below w.heap.size w w4 := B2.trans (B24.mono B2.size)
      clear hown3 hgrow3 hown4 hgrow4 HB2 B24
      obtain ⟨p4, cap4, rfl, c4a, c4b, _⟩ := id R4.out
      go_wp2_with fail
      refine (clone_any (HB.out.below B4) (by omega)).mono ?_
      rintro r w5 ⟨v5, rfl, hown5, hb5⟩
      have R5 : Hid (Row .u8 w5 v5 b) := own_row hown5
      have R4' : Hid (Row .u8 w5 (.slice p4 b.length cap4) b) := R4.out.below hb5
      have B5 : Below w.heap.size w w5 := B4.trans (hb5.mono B4.size)
      clear hown5 hb5 R4 B4 B2
      go_wp2_with fail
      refine (int_any (R4'.out.below (alloc_below _ _)) (one_row .i64 w5 n 2) (by intro x hx; simp at hx; omega) (by simp; omega)).mono ?_
      rintro r w6 ⟨v6, rfl, hown6, hb6⟩
      rw [show forms [n] = form (zz n) by simp [forms]] at hown6
      have R6 : Hid (Row .u8 w6 v6 (b ++ form (zz n))) := own_row hown6
      have S6 : Below w5.heap.size w5 w6 := (alloc_below w5 _).trans (hb6.mono (by simp))
      have B6 : Below w.heap.size w w6 := B5.trans (S6.mono B5.size)
      have R5' : Hid (Row .u8 w6 v5 b) := R5.out.below S6
      have R46 : Hid (Row .u8 w6 (.slice p4 b.length cap4) b) := R4'.out.below S6
      clear hown6 hb6 S6 R5 R4' B5
      go_wp2_with fail
      obtain ⟨m0, m1⟩ := half_bd n0 n1
      refine (int_any (R46.out.below (alloc_below _ _)) (one_row .i64 w6 (n.tdiv 2) 2) (by intro x hx; simp only [List.mem_cons, List.not_mem_nil, or_false] at hx; rw [hx]; exact ⟨m0, m1⟩) (by simp; omega)).mono ?_
      rintro r w7 ⟨v7, rfl, hown7, hb7⟩
      rw [show forms [n.tdiv 2] = form (zz (n.tdiv 2)) by simp [forms]] at hown7
      have R7 : Hid (Row .u8 w7 v7 (b ++ form (zz (n.tdiv 2)))) := own_row hown7
      have S7 : Below w6.heap.size w6 w7 := (alloc_below w6 _).trans (hb7.mono (by simp))
      have B7 : Below w.heap.size w w7 := B6.trans (S7.mono B6.size)
      have R57 : Hid (Row .u8 w7 v5 b) := R5'.out.below S7
      have R47 : Hid (Row .u8 w7 (.slice p4 b.length cap4) b) := R46.out.below S7
      have R67 : Hid (Row .u8 w7 v6 (b ++ form (zz n))) := R6.out.below S7
      clear hown7 hb7 S7 R5' R46 R6 B6
      go_wp2_with fail
      refine (str_any (Row.nil _ _) R47.out (by simp; omega)).mono ?_
      rintro r w8 ⟨v8, rfl, hown8, hb8⟩
      have e8 : [] ++ form (zz (b.length : Int)) ++ b = form (zz (b.length : Int)) ++ (b ++ []) := by simp
      rw [e8] at hown8
      have R8 : Hid (Row .u8 w8 v8 (form (zz (b.length : Int)) ++ (b ++ []))) := own_row hown8
      have B8 : Below w.heap.size w w8 := B7.trans (hb8.mono B7.size)
      have R58 : Hid (Row .u8 w8 v5 b) := R57.out.below hb8
      have R48 : Hid (Row .u8 w8 (.slice p4 b.length cap4) b) := R47.out.below hb8
      have R68 : Hid (Row .u8 w8 v6 (b ++ form (zz n))) := R67.out.below hb8
      have R78 : Hid (Row .u8 w8 v7 (b ++ form (zz (n.tdiv 2)))) := R7.out.below hb8
      clear hown8 hb8 e8 R57 R47 R67 R7 B7
      have f8 : (form (zz (b.length : Int))).length ≤ 10 := sz_le10 (zz_lt _ (by omega) (by omega))
      go_wp2_with fail
      refine (open_any R8.out (U8.append (form_bd _) (HUB.out.append (by intro x hx; simp at hx))) (by simp only [List.length_append, List.length_nil]; omega)).mono ?_
      rintro r w9 ⟨bu, v9, rfl, hbu, hu9, hb9⟩
      have B9 : Below w.heap.size w w9 := B8.trans (hb9.mono B8.size)
      have HU9 : Hid (Unp w9 bu v9 (form (zz (b.length : Int)) ++ (b ++ [])) 0) := hu9
      have S9 : Hid (Below w8.heap.size w8 w9) := hb9
      have HS : Hid (readsStr (form (zz (b.length : Int)) ++ (b ++ [])) 0 b.length = (b, [], 0)) := readsStr_form b [] (by omega)
      clear hu9 hb9 R8
      go_wp2_with fail
      refine (ustr_at HU9.out (by simp only [List.length_append, List.length_nil]; omega) HS.out).mono ?_
      rintro r w10 ⟨vx, rfl, hg10, hown10, vu, hu10⟩
      have S10 : Below w8.heap.size w8 w10 := S9.out.grown hg10 S9.out.size (fun k hk => by simp at hk; omega)
      have z9 : w8.heap.size ≤ w9.heap.size := S9.out.size
      have O10 : Hid (w10.ownsRow w9.heap.size 5 1 vx b.length (b.map (Value.int .u8))) := hown10
      obtain ⟨px, capx, rfl, cx1, cx2, _⟩ := own_row hown10
      clear hown10 hu10 hg10 HU9 HS S9
      go_wp2_with fail
      go_loopw [81] (fun i wr => ∃ (k : Nat) (xs : List Int), k ≤ b.length ∧ i = .int .i64 (k : Int) ∧ xs.length = b.length ∧ wr.ownsRow w9.heap.size 5 1 (.slice px b.length capx) b.length (xs.map (Value.int .u8)) ∧ Below w8.heap.size w8 wr) (fun i _ => b.length - (intOf i).toNat)
      case atStart => exact ⟨0, b, Nat.zero_le _, rfl, rfl, O10.out, S10⟩
      case round =>
        obtain ⟨k, xs, hk, rfl, hxs, hown, hbr⟩ := hrel
        have HO : Hid (wr.ownsRow w9.heap.size 5 1 (.slice px b.length capx) b.length (xs.map (Value.int .u8))) := hown
        have HX : Hid (xs.length = b.length) := hxs
        clear hown O10 S10 hxs
        by_cases hlt : k < b.length
        · obtain ⟨g, rfl, hg⟩ : ∃ g, px = some ⟨g, 0, none⟩ ∧ w9.heap.size ≤ g := by
            rcases HO.out.2 with ⟨h, h0⟩ | ⟨g, cap', cur, h, hg, _⟩
            · omega
            · simp only [Value.slice.injEq] at h; exact ⟨g, h.1, hg⟩
          have hfz := HO.out.frozenAt k
          obtain ⟨y, hy⟩ : ∃ y, xs[k]? = some y := ⟨xs[k]'(by rw [HX.out]; exact hlt), List.getElem?_eq_getElem _⟩
          have hcl : wr.cell? ⟨g, k, none⟩ = some (.int .u8 y) := by rw [HO.out.cellAt k (by omega)]; simp [hy]
          clear hy
          go_wp2_with fail
          have ST := HO.out.stored k (.int .u8 (bits .xor .u8 y 255))
          go_roundw
          case rel =>
            refine ⟨k + 1, xs.set k (bits .xor .u8 y 255), by omega, by go_num, by rw [List.length_set]; exact HX.out, ?_, hbr.grown ST.2 hbr.size (fun j hj => by simp at hj; omega)⟩
            rw [List.map_set]
            exact ST.1
          case measure => simp [intOf]; omega
        · clear HO HX
          have B10 : Below w.heap.size w wr := B8.trans (hbr.mono B8.size)
          go_wp2_with fail
          refine (equal_any (R48.out.below hbr) (R58.out.below hbr) HUB.out HUB.out).mono ?_
          rintro r w' ⟨rfl, hw'⟩
          obtain rfl : wr = w' := hw'.symm
          rw [decide_eq_true rfl]
          go_wp2_with fail
          refine (one_any (R58.out.below hbr) m0 m1 (by omega)).mono ?_
          rintro r w11 ⟨v11, rfl, hown11, hb11⟩
          have R11 : Hid (Row .u8 w11 v11 (b ++ form (zz (n.tdiv 2)))) := own_row hown11
          have B11 : Below w.heap.size w w11 := B10.trans (hb11.mono B10.size)
          have S11 : Below w8.heap.size w8 w11 := hbr.trans (hb11.mono hbr.size)
          clear hown11 hb11 B10
          go_wp2_with fail
          refine (equal_any (R78.out.below S11) R11.out (HUB.out.append (form_bd _)) (HUB.out.append (form_bd _))).mono ?_
          rintro r w' ⟨rfl, hw'⟩
          obtain rfl : w11 = w' := hw'.symm
          rw [decide_eq_true rfl]
          go_wp2_with fail
          refine (one_any (R58.out.below S11) n0 n1 (by omega)).mono ?_
          rintro r w12 ⟨v12, rfl, hown12, hb12⟩
          have R12 : Hid (Row .u8 w12 v12 (b ++ form (zz n))) := own_row hown12
          have B12 : Below w.heap.size w w12 := B11.trans (hb12.mono B11.size)
          have S12 : Below w8.heap.size w8 w12 := S11.trans (hb12.mono S11.size)
          clear hown12 hb12
          go_wp2_with fail
          refine (equal_any (R68.out.below S12) R12.out (HUB.out.append (form_bd _)) (HUB.out.append (form_bd _))).mono ?_
          rintro r w' ⟨rfl, hw'⟩
          obtain rfl : w12 = w' := hw'.symm
          rw [decide_eq_true rfl]
          go_wp2_with fail
          go_ret
          exact ⟨rfl, B12⟩

theorem contract (H : Type) (enc : TypeId × Value → H) (W : World) (base : Nat) (args : Array Value) (ds gs : List (DataW H)) (before : List MemPlace)
    (hval : ∀ (j : Nat) t v, Try.f3.params[j]? = some t → args[j]? = some v → Value.okWide Try.prog W .any base t v)
    (hW : DataW.Whole enc Try.prog Try.f3.params.toList Rows.packNoneSpec.vars false W args.toList ds gs before)
    (hsz0 : (DataW.weightsEach Try.prog (Try.f3.params.toList ++ Rows.packNoneSpec.plain.varTypes Try.prog) (ds ++ gs)).all (· ≤ reachBytes) = true) :
    Calls Try.prog 3 args W fun e W' => ∃ v, e = .returned v ∧ Rows.packNoneSpec.post enc Try.prog Try.f3 false true false false W args v W' := by
  have hW' := hW
  obtain ⟨p, q, hA0, hV, rfl, hfz, hnd⟩ := hW
  have hA : DataW.TrodAll enc Try.prog W 0 (fun _ => true) true Try.f3.params.toList args.toList ds p := hA0
  rw [Try.params3] at hA hval hsz0
  obtain ⟨v0, vs0, d0, ds0, p0, q0, hargs, rfl, rfl, h0, r0⟩ := trodAll_cons hA
  obtain ⟨v1, vs1, d1, ds1, p1, q1, rfl, rfl, rfl, h1, r1⟩ := trodAll_cons r0
  obtain ⟨rfl, rfl, rfl⟩ := trodAll_nil r1
  obtain rfl : args = #[v0, v1] := by cases args; simp_all
  obtain ⟨rfl, rfl⟩ := trodVars_none hV
  obtain ⟨a0, len0, cap0, rfl⟩ := okWide_slice Try.underlying22 (hval 0 22 v0 rfl rfl)
  have k0 := h0
  have lt0 : ∀ x ∈ p0, x.block < W.heap.size := by obtain ⟨m, hm⟩ := k0; exact DataW.trod_lt m _ _ _ hm
  obtain ⟨f0, hf0⟩ := h0
  obtain ⟨l0, e0, R0, wf0, D0⟩ := arg_row Try.underlying22 Try.underlying5 (by kernel_rfl) hf0
  obtain ⟨n1, rfl, rfl, rfl, wi1⟩ := open_int Try.underlying2 (hval 1 2 v1 rfl rfl) h1
  have bd1 := bounds_i64 wi1
  have b0 : len0 * 1 ≤ 140737488351232 := sized_len (bytes := 1) hsz0 (j := 0) rfl rfl Try.underlying22 (by kernel_rfl) D0
  clear hA0
  refine (walk W bd1.1 bd1.2 R0 (wf_u8 wf0) (by omega)).mono fun e W' ⟨he, bel⟩ => ?_
  subst he
  exact ⟨_, rfl, _, _, _, [], _, [], hW', trodAll_mk1 (shut_bool Try.underlying4 _), (trodAll_cons_mk (Below.trod Try.laidOut (by kernel_rfl) (of_decide_eq_true (by kernel_rfl)) k0 bel lt0) (trodAll_cons_mk (shut_int Try.underlying2 wi1) trodAll_mk0)), rfl, bel.frame _, fun h => by cases h⟩

set_option maxRecDepth 100000 in
theorem lifted (os : Os) (started : os.Started) (H : Type) (enc : TypeId × Value → H) :
    ReturnsInHanded {} Try.checked os 3 .any (Rows.packNoneSpec.pre6 enc Try.prog Try.f3 Rows.packNoneRow.domain false) (Rows.packNoneSpec.post enc Try.prog Try.f3 false true false false) := by
  refine returnsInHanded_of_change_sized (C := Try.checked) Try.ownK started (by kernel_rfl) Try.func3
    (ChangeSpec.witness6 (enc := enc) (C := Try.checked) false ⟨#[], #[.slice none 0 0, .int .i64 0], []⟩ 8 (by kernel_rfl) (by kernel_rfl) (by kernel_rfl) (by kernel_rfl)) ?_
  intro W base args ds gs before hval hW _ hsz _
  exact contract H enc W base args ds gs before hval hW hsz

theorem proved : Rows.PackNoneSaid :=
  OpenClaim.holds_of_wide 3 Try.f3 rfl rfl rfl rfl rfl rfl rfl ⟨rfl, rfl, rfl, rfl, rfl⟩ rfl rfl rfl rfl rfl (by kernel_rfl) Try.func3 (by kernel_rfl)
    (of_decide_eq_true (by kernel_rfl)) (by unfold Func.isWrapper; first | (rw [if_pos (by decide +kernel)]; kernel_rfl) | (rw [if_neg (by decide +kernel)]; exact ⟨rfl, rfl⟩))
    (fun os started H enc _ => lifted os started H enc)

end Go.Proofs.Ytpnoijmdhlkjlab.packNone
