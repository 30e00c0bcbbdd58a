/-
  PROVED: the statement FrameTorn in its second form, its card: where the arguments hold together at most 1048576 values, the law returns true: of a beginning of frames those that are whole are told. The two tables of package frame hold what its text lays.
-/
import Derived.Test.YtcdjbfapldepaaaDoorSam
import Derived.Test.YtcdjbfapldepaaaDoorLai
namespace Go.Proofs.YtcdjbfapldepaaaDoor.frameTorn
open Go.ChangeShapes Go.WideShapes Go.ChangeAt Go.RowKit

theorem fits_Fits {xs : List (List Int)} (h : fits xs = true) (hu : ∀ x ∈ xs, U8 x) : Fits xs := by
  intro x hx
  unfold fits at h
  rw [List.all_eq_true] at h
  exact ⟨by simpa using h x hx, hu x hx⟩

/-- Cut within the frame behind the first k, or just ahead of it. -/
theorem torn {xs : List (List Int)} (h : Fits xs) {k n : Nat} (hk : k < xs.length) (h1 : flen (xs.take k) ≤ n) (h2 : n < flen (xs.take k) + (12 + (xs.getD k []).length)) :
    loads ((framesL xs).take n) = xs.take k ∧ errAt ((framesL xs).take n) = if n = flen (xs.take k) then 0 else 20 := by
  have hx := h _ (getD_mem hk)
  have ht : Fits (xs.take k) := fun y hy => h y (List.mem_of_mem_take hy)
  have e : xs = xs.take k ++ (xs.getD k [] :: xs.drop (k + 1)) := by
    have h0 : xs.drop k = xs.getD k [] :: xs.drop (k + 1) := by
      rw [List.drop_eq_getElem_cons hk]
      simp [List.getD, List.getElem?_eq_getElem hk]
    rw [← h0, List.take_append_drop]
  have e2 : (framesL xs).take n = framesL (xs.take k) ++ (frameL (xs.getD k []) ++ framesL (xs.drop (k + 1))).take (n - flen (xs.take k)) := by
    conv => lhs; rw [e, framesL_append, framesL_cons]
    rw [List.take_append]
    have : (framesL (xs.take k)).take n = framesL (xs.take k) := List.take_of_length_le h1
    rw [this]
    rfl
  rw [e2]
  by_cases hn : n = flen (xs.take k)
  · rw [if_pos hn, hn, Nat.sub_self, List.take_zero, List.append_nil]
    exact ⟨loads_all ht, errAt_all ht⟩
  · rw [if_neg hn]
    have hT := takeL_torn (x := xs.getD k []) hx.1 (framesL (xs.drop (k + 1))) (n := n - flen (xs.take k)) (by omega)
    have hne : (frameL (xs.getD k []) ++ framesL (xs.drop (k + 1))).take (n - flen (xs.take k)) ≠ [] := by
      intro hz
      have := congrArg List.length hz
      rw [List.length_take, List.length_append, frameL_len] at this
      simp at this
      omega
    have hb := broken ht hne (by rw [hT]; decide)
    rw [hT] at hb
    exact hb

set_option maxHeartbeats 4000000 in
theorem walk {vl : Value} {xs : List (List Int)} {c : Int} (w : World) (c0 : 0 ≤ c) (c1 : c ≤ 65535) (hl : Rows2 w vl xs) (ul : ∀ x ∈ xs, U8 x) (ht : Tabs w) (sl : flen xs ≤ 13631488) :
    Calls Tryd.prog 6 #[vl, .int .u16 c] w fun e w' => e = .returned (.bool true) ∧ Below w.heap.size w w' := by
  have HL : Hid (Rows2 w vl xs) := hl
  have HUL : Hid (∀ x ∈ xs, U8 x) := ul
  have HT : Hid (Tabs w) := ht
  have hcount := loads_count xs
  obtain ⟨p, cap, rfl, g1, g2, _, g4⟩ := hl
  have HC : Hid (0 < xs.length → ∃ b o, p = some ⟨b, o, none⟩ ∧ ∀ i, i < xs.length → ∃ u, w.cell? ⟨b, o + i, none⟩ = some u ∧ Row .u8 w u (xs.getD i [])) := g4
  clear ul ht g4
  go_enter Tryd.func6, Tryd.ntmps6
  go_wp2_with fail
  refine (put_any (Row.nil _ _) HL.out HUL.out HT.out (by simp; omega)).mono ?_
  rintro e w1 ⟨v1, rfl, hown1, hb1⟩
  have B1 : Below w.heap.size w w1 := hb1
  by_cases hfit : fits xs = true
  · have hE : putE xs = 0 := by unfold putE; rw [hfit]; rfl
    have hPB : putB [] xs = framesL xs := by unfold putB; rw [hfit]; simp
    rw [hE]
    rw [hPB] at hown1
    have R1 : Hid (Row .u8 w1 v1 (framesL xs)) := own_row hown1
    have HF : Hid (Fits xs) := fits_Fits hfit HUL.out
    clear hown1 hb1 hE hPB hfit
    go_wp2_with fail
    refine (begun_any w1 (HT.out.below B1)).mono ?_
    rintro e w2 ⟨rfl, hb2⟩
    have B2 : Below w.heap.size w w2 := B1.trans (hb2.mono B1.size)
    have R2 : Hid (Row .u8 w2 v1 (framesL xs)) := R1.out.below hb2
    clear hb2 R1 B1
    have hfl : (framesL xs).length ≤ 13631488 := sl
    have HUF : Hid (U8 (framesL xs)) := framesL_u8 HUL.out
    obtain ⟨p1, cp1, rfl, q1, q2, _, _⟩ := id R2.out
    generalize hN : (framesL xs).length = N at *
    have HNN : Hid ((framesL xs).length = N) := hN
    obtain ⟨n, hn⟩ : ∃ n : Nat, n = c.toNat % (N + 1) := ⟨_, rfl⟩
    have hnN : n ≤ N := by have := Nat.mod_lt c.toNat (show 0 < N + 1 by omega); omega
    have hni : c % ((N : Int) + 1) = (n : Int) := by
      obtain ⟨m, rfl⟩ : ∃ m : Nat, c = (m : Int) := ⟨c.toNat, by omega⟩
      rw [hn, Int.toNat_natCast, Int.natCast_emod]
      rfl
    have hnc : (n : Int) ≤ (cp1 : Int) := by omega
    clear hn hN
    go_wp2_with fail
    simp only [hni]
    have R2' : Hid (Row .u8 w2 (.slice p1 n cp1) ((framesL xs).take n)) := by
      have h := R2.out
      rw [← HNN.out] at h
      exact h.take (by rw [HNN.out]; exact hnN)
    have hTl : ((framesL xs).take n).length = n := by rw [List.length_take, HNN.out]; omega
    refine (scan_any R2'.out (HUF.out.take n) (HT.out.below B2) (by rw [hTl]; omega)).mono ?_
    rintro e w3 ⟨v3, rfl, hown3, hb3⟩
    have B3 : Below w.heap.size w w3 := B2.trans (hb3.mono B2.size)
    have L3 : Hid (Rows2 w3 v3 (loads ((framesL xs).take n))) := hown3.rows2
    obtain ⟨at', hat⟩ : ∃ a, flen (loads ((framesL xs).take n)) = a := ⟨_, rfl⟩
    obtain ⟨E, hEr⟩ : ∃ a, errAt ((framesL xs).take n) = a := ⟨_, rfl⟩
    have HAT : Hid (flen (loads ((framesL xs).take n)) = at') := hat
    have HER : Hid (errAt ((framesL xs).take n) = E) := hEr
    rw [hat, hEr]
    clear hat hEr hown3 hb3 R2 R2' B2 hTl hni
    go_wp2
    go_loopw [11, 42] (fun z i wr => ∃ k : Nat, k ≤ xs.length ∧ i = .int .i64 (k : Int) ∧ z = .int .i64 ((flen (xs.take k) : Nat) : Int) ∧ flen (xs.take k) ≤ n ∧ wr = w3) (fun _ i _ => xs.length - (intOf i).toNat)
    case atStart => exact ⟨0, Nat.zero_le _, rfl, by simp [flen_nil], by simp [flen_nil], rfl⟩
    case round =>
      obtain ⟨k, hk, rfl, rfl, hz, hww⟩ := hrel
      replace hww := hww.symm
      subst hww
      obtain ⟨z, hzd⟩ : ∃ z, flen (xs.take k) = z := ⟨_, rfl⟩
      have HZ : Hid (flen (xs.take k) = z) := hzd
      rw [hzd] at hz ⊢
      by_cases hlt : k < xs.length
      · obtain ⟨bb, o, rfl, hc⟩ := HC.out (by omega)
        obtain ⟨u, hcu, hru⟩ := hc k hlt
        have hcu' := cell_later B3 hcu
        obtain ⟨x, hx⟩ : ∃ x, x = xs.getD k [] := ⟨_, rfl⟩
        rw [← hx] at hru
        obtain ⟨pu, cu, rfl, _, _, _, _⟩ := hru
        have hxl : x.length ≤ 262144 := by rw [hx]; exact (HF.out _ (getD_mem hlt)).1
        have HXX : Hid (x = xs.getD k []) := hx
        clear hc hcu hx HC hzd
        by_cases hcut : n < z + (12 + x.length)
        · have hct : decide ((n : Int) - (z : Int) < 12 + (x.length : Int)) = true := decide_eq_true (by omega)
          obtain ⟨t1, t2⟩ := torn HF.out hlt (n := n) (by rw [HZ.out]; exact hz) (by rw [HZ.out, ← HXX.out]; exact hcut)
          have L3' := L3.out
          rw [t1] at L3'
          have hat2 : at' = z := by rw [← HAT.out, t1, HZ.out]
          have LL : Hid (Rows2 w3 v3 (xs.take k)) := L3'
          have LK : Hid (Rows2 w3 (.slice (some ⟨bb, o, none⟩) k cap) (xs.take k)) := (HL.out.below B3).take hk
          have HUK : Hid (∀ x ∈ xs.take k, U8 x) := fun y hy => HUL.out y (List.mem_of_mem_take hy)
          have hkc : (k : Int) ≤ (cap : Int) := by omega
          have hkz : (0 : Int) ≤ (k : Int) := by omega
          rw [HER.out, HZ.out] at t2
          clear L3 L3' HAT HXX t1 hcut
          subst hat2
          by_cases hnz : n = at'
          · rw [if_pos hnz] at t2
            subst t2
            subst hnz
            go_wp2_with fail
            refine (same_any LL.out LK.out HUK.out HUK.out rfl).mono ?_
            rintro e w4 ⟨rfl, hb4⟩
            have B4 : Below w.heap.size w w4 := B3.trans (hb4.mono B3.size)
            clear hb4 LL LK
            go_wp2
            go_ret
            exact ⟨by simp, B4⟩
          · rw [if_neg hnz] at t2
            subst t2
            have hnz1 : ((n : Int) == (at' : Int)) = false := by simp; omega
            have hnz2 : decide ((at' : Int) < (n : Int)) = true := decide_eq_true (by omega)
            go_wp2_with fail
            refine (same_any LL.out LK.out HUK.out HUK.out rfl).mono ?_
            rintro e w4 ⟨rfl, hb4⟩
            have B4 : Below w.heap.size w w4 := B3.trans (hb4.mono B3.size)
            clear hb4 LL LK
            go_wp2
            go_ret
            exact ⟨by simp, B4⟩
        · have hct : decide ((n : Int) - (z : Int) < 12 + (x.length : Int)) = false := decide_eq_false (by omega)
          have HZ' : Hid (z + (12 + x.length) = flen (xs.take (k + 1))) := by show _ = _; rw [take_snoc hlt, flen_snoc, HZ.out, ← HXX.out]
          go_wp2
          go_roundw
          case rel => exact ⟨k + 1, by omega, by go_num, by rw [← HZ'.out]; exact congrArg (Value.int .i64) (by omega), by rw [← HZ'.out]; omega, trivial⟩
          case measure => simp [intOf]; omega
      · obtain rfl : k = xs.length := by omega
        rw [List.take_length] at hzd
        have hnn : n = N := by have := HNN.out; unfold flen at hzd; omega
        have hTa : (framesL xs).take n = framesL xs := List.take_of_length_le (by rw [HNN.out]; omega)
        have L3' := L3.out
        have hA := HAT.out
        have hB := HER.out
        rw [hTa, loads_all HF.out] at L3' hA
        rw [hTa, errAt_all HF.out] at hB
        have LL : Hid (Rows2 w3 v3 xs) := L3'
        obtain rfl : at' = z := by rw [← hA, hzd]
        subst hB
        clear L3 L3' hA HAT HER hTa HC HZ hzd
        go_wp2_with fail
        refine (same_any LL.out (HL.out.below B3) HUL.out HUL.out rfl).mono ?_
        rintro e w4 ⟨rfl, hb4⟩
        have B4 : Below w.heap.size w w4 := B3.trans (hb4.mono B3.size)
        clear hb4 LL
        go_wp2
        go_ret
        exact ⟨by simp, B4⟩
  · have hE : putE xs = 3 := by unfold putE; rw [show fits xs = false by simpa using hfit]; rfl
    rw [hE]
    clear hown1 hb1 hE hfit
    go_wp2_with fail
    refine (begun_any w1 (HT.out.below B1)).mono ?_
    rintro e w2 ⟨rfl, hb2⟩
    have B2 : Below w.heap.size w w2 := B1.trans (hb2.mono B1.size)
    clear hb2 B1
    go_wp2_with fail
    refine (begun_any w2 (HT.out.below B2)).mono ?_
    rintro e w3 ⟨rfl, hb3⟩
    have B3 : Below w.heap.size w w3 := B2.trans (hb3.mono B2.size)
    clear hb3 B2
    go_wp2
    go_ret
    exact ⟨rfl, B3⟩

theorem short {H : Type} {d0 d1 : DataW H} (hk : Rows.uptoSmall H [d0, d1] = true) : Rows.uptoBulk d0 ≤ 1048576 ∧ Rows.uptoBulk d1 ≤ 1048576 := by
  have h : Rows.uptoBulkAll [d0, d1] ≤ 1048576 := of_decide_eq_true hk
  simp only [Rows.uptoBulkAll] at h
  omega

theorem contract (H : Type) (enc : TypeId × Value → H) (W : World) (base : Nat) (args : Array Value) (ds gs : List (DataW H)) (before : List MemPlace)
    (hval : ∀ (j : Nat) t v, Tryd.f6.params[j]? = some t → args[j]? = some v → Value.okWide Tryd.prog W .any base t v)
    (hW : DataW.Whole enc Tryd.prog Tryd.f6.params.toList Rows.frameTornSpec.vars false W args.toList ds gs before) (hk : Rows.uptoSmall H (ds ++ gs) = true) (hL : laidMetH Tryd.prog Rows.frameTornUptoRow.laid W) :
    Calls Tryd.prog 6 args W fun e W' => ∃ v, e = .returned v ∧ Rows.frameTornSpec.post enc Tryd.prog Tryd.f6 false true false false W args v W' := by
  have hW' := hW
  obtain ⟨p, q, hA0, hV, rfl, hfz, hnd⟩ := hW
  have hA : DataW.TrodAll enc Tryd.prog W 0 (fun _ => true) true Tryd.f6.params.toList args.toList ds p := hA0
  rw [Tryd.params6] at hA hval
  obtain ⟨v0, vs0, d0, ds0, p0, q0, hargs, rfl, rfl, h0, r0⟩ := trodAll_cons hA
  obtain ⟨v1, vs1, d1, ds1, p1, q1, rfl, rfl, rfl, h1, r1⟩ := trodAll_cons r0
  obtain ⟨rfl, rfl, rfl⟩ := trodAll_nil r1
  obtain rfl : args = #[v0, v1] := by cases args; simp_all
  obtain ⟨rfl, rfl⟩ := trodVars_none hV
  obtain ⟨a0, len0, cap0, rfl⟩ := okWide_slice Tryd.underlying23 (hval 0 23 v0 rfl rfl)
  have k0 := h0
  have lt0 : ∀ x ∈ p0, x.block < W.heap.size := by obtain ⟨m, hm⟩ := k0; exact DataW.trod_lt m _ _ _ hm
  obtain ⟨f0, hf0⟩ := h0
  obtain ⟨l0, R0, U0, b0⟩ := arg_rows2 hf0
  obtain ⟨n1, rfl, rfl, rfl, wi1⟩ := open_int Tryd.underlying44 (hval 1 44 v1 rfl rfl) h1
  have bd1 := bounds_u16 wi1
  simp only [List.append_nil] at hk
  obtain ⟨s0, s1⟩ := short hk
  clear hA0
  refine (walk W bd1.1 bd1.2 R0 U0 (tables hL) (by omega)).mono fun e W' ⟨he, bel⟩ => ?_
  subst he
  exact ⟨_, rfl, _, _, _, [], _, [], hW', trodAll_mk1 (shut_bool Tryd.underlying4 _), (trodAll_cons_mk (Below.trod Tryd.laidOut (by kernel_rfl) (of_decide_eq_true (by kernel_rfl)) k0 bel lt0) (trodAll_cons_mk (shut_int Tryd.underlying44 wi1) trodAll_mk0)), rfl, bel.frame _, fun h => by cases h⟩

theorem laid_met (os : Os) : laidMet Tryd.prog Rows.frameTornUptoRow.laid ((laidWorld os).forCall (fun _ _ => 0) ⟨#[], #[.slice none 0 0, .int .u16 0], []⟩).memory :=
  laidMet_of_run' 8 (by kernel_rfl) (by kernel_rfl)
theorem reads (os : Os) {H : Type} (enc : TypeId × Value → H) : ∃ places, DataW.whole enc Tryd.prog ((laidWorld os).forCall (fun _ _ => 0) ⟨#[], #[.slice none 0 0, .int .u16 0], []⟩).memory Tryd.f6.params.toList Rows.frameTornSpec.vars false ((#[.slice none 0 0, .int .u16 0] : Array Value)).toList 8 = some ([.nil, .lit (.int .u16 0)], [], places) :=
  ⟨[], by kernel_rfl⟩

set_option maxRecDepth 100000 in
theorem lifted (os : Os) (started : os.Started) (H : Type) (enc : TypeId × Value → H) (F : Stop.Interp) :
    ReturnsInHanded {} Tryd.checked os 6 .any ((Rows.OpenSpec.upto Rows.frameTornSpec).preRow enc Tryd.prog Tryd.f6 Rows.frameTornUptoRow.domain false Rows.frameTornUptoRow.laid) (((Rows.OpenSpec.upto Rows.frameTornSpec).at F).post enc Tryd.prog Tryd.f6 false true false false) := by
  obtain ⟨places, hx⟩ := reads os enc
  refine returnsInHanded_of_row (C := Tryd.checked) (s := Rows.OpenSpec.upto Rows.frameTornSpec) Tryd.ownK started (by kernel_rfl) Tryd.func6
    (witness_row_at (enc := enc) (C := Tryd.checked) false (laidWorld os) #[.slice none 0 0, .int .u16 0] rfl (by kernel_rfl) (by kernel_rfl) (by kernel_rfl)
      (OpenSpec.preRow_of_cond 8 hx (by kernel_rfl) (fun k hk => by cases hk; kernel_rfl) (by kernel_rfl) (laid_met os))) ?_
  intro W base args ds gs before hval hW _ hcond _ hL _ _
  exact contract H enc W base args ds gs before hval hW (hcond _ rfl) hL

theorem said : Rows.FrameTornUptoSaid :=
  OpenClaim.holds_of_cond 6 Tryd.f6 rfl rfl rfl rfl rfl rfl rfl ⟨rfl, rfl, rfl, rfl, rfl⟩ rfl rfl rfl rfl rfl (by kernel_rfl) Tryd.func6 (by kernel_rfl)
    (of_decide_eq_true (by kernel_rfl)) (by unfold Func.isWrapper; first | (rw [if_pos (by decide +kernel)]; kernel_rfl) | (rw [if_neg (by decide +kernel)]; exact ⟨rfl, rfl⟩))
    (fun os started H enc _ F => by rw [OpenClaim.pre_eq_preRow]; exact lifted os started H enc F)

theorem plain (f : FuncId) (fn : Func) (hf : Tryd.pinned.checked.prog.funcNamed "pontoon/pontoonlaw02.FrameTorn" = some f) (hfn : Tryd.pinned.checked.prog.funcs[f]? = some fn) :
    false = Tryd.pinned.checked.prog.looks [] ∧ ∀ (j : Nat) t, fn.params[j]? = some t → Tryd.pinned.checked.prog.wantsStandIn t = false := by
  obtain rfl : f = 6 := Option.some.inj ((show Tryd.prog.funcNamed "pontoon/pontoonlaw02.FrameTorn" = some 6 by kernel_rfl).symm.trans hf) |>.symm
  obtain rfl : fn = Tryd.f6 := (Option.some.inj (Tryd.func6.symm.trans hfn)).symm
  refine ⟨by kernel_rfl, fun j t ht => ?_⟩
  rw [Tryd.params6] at ht
  have hm := Array.mem_of_getElem? ht
  have all : ∀ t ∈ Tryd.f6.params, Tryd.prog.wantsStandIn t = false := by rw [Tryd.params6]; simp only [List.mem_toArray, List.mem_cons, List.not_mem_nil, or_false, forall_eq_or_imp, forall_eq]; exact ⟨by kernel_rfl, by kernel_rfl⟩
  rw [Tryd.params6] at all
  exact all t hm

theorem proved : Rows.FrameTornUptoCardSaid :=
  Claim7.holds_tied_plain_at .later [] _ _ _ _ said (fun _ h => by cases h) (by kernel_rfl) (fun _ h => by cases h) frameTornUpto_row_tie rfl ⟨rfl, rfl⟩ (by kernel_rfl) rfl plain (by kernel_rfl)

end Go.Proofs.YtcdjbfapldepaaaDoor.frameTorn
