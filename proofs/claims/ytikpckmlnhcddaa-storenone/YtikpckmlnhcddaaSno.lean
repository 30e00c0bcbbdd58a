/-
  PROVED: the statement StoreNone. Whatever the bytes: a store that no call made refuses, and what a store holds is its own. The memory that came in is as it was.
-/
import Derived.Test.YtikpckmlnhcddaaSto
import Derived.Test.YtikpckmlnhcddaaAgs
import Derived.SizedLaws
import Derived.Laws.OwnMore
namespace Go.Proofs.Ytikpckmlnhcddaa.storeNone
open Go.ChangeShapes Go.WideShapes Go.ChangeAt Go.RowKit Go.Shelf Go.Maps

theorem u8_set {l : List Int} {k : Nat} {y : Int} (h : U8 l) (hy : 0 ≤ y ∧ y < 256) : U8 (l.set k (bits BinOp.xor IntKind.u8 y 255)) := by
  intro x hx
  rcases List.mem_or_eq_of_mem_set hx with hx | rfl
  · exact h x hx
  · rw [u8_xor y 255 hy.1 hy.2 (by decide) (by decide)]
    have : y.toNat ^^^ (255 : Int).toNat < 2 ^ 8 := Nat.xor_lt_two_pow (by omega) (by decide)
    exact ⟨Int.natCast_nonneg _, by omega⟩

set_option maxRecDepth 100000 in
set_option maxHeartbeats 8000000 in
theorem walk {v : Value} {b : List Int} (W : World) (h : Row .u8 W v b) (hu : U8 b) (hbig : b.length ≤ 140737488355328) : Calls Try.prog 4 #[v] W fun e w' => e = .returned (.bool true) ∧ Below W.heap.size W w' := by
  obtain ⟨pv, cv, rfl, q1, q2, q3, q4⟩ := id h
  have HV := hide h
  have HU := hide hu
  clear h hu q3 q4
  go_enter Try.func4, Try.ntmps4
  go_wp2_with fail
  refine (live_any W).mono ?_
  rintro _ w1 ⟨rfl, hb⟩
  have HB1 := hide hb
  clear hb
  obtain ⟨W2, hW2⟩ : ∃ W2, W2 = ((w1.alloc (.cells #[.map none, .int .i64 0, .int .i64 0, .int .i64 0, .bool false] 49)).alloc (.cells #[.pointer none, .pointer (some ⟨w1.heap.size, 0, none⟩)] 26)) := ⟨_, rfl⟩
  have hb2 : Below w1.heap.size w1 W2 := by rw [hW2]; exact (alloc_below w1 _).alloc (by simp) _
  have HB2 : Hid (Below W.heap.size W W2) := hide (HB1.out.trans (hb2.mono HB1.out.size))
  have hO : W2.heap[w1.heap.size + 1]? = some (.cells #[.pointer none, .pointer (some ⟨w1.heap.size, 0, none⟩)] 26 (0, 0)) := by
    have := heap_alloc_new (w1.alloc (.cells #[.map none, .int .i64 0, .int .i64 0, .int .i64 0, .bool false] 49)) (.cells #[.pointer none, .pointer (some ⟨w1.heap.size, 0, none⟩)] 26)
    simp only [World.size_alloc] at this
    rw [hW2]
    exact this
  have hS : W2.heap[w1.heap.size]? = some (.cells #[.map none, .int .i64 0, .int .i64 0, .int .i64 0, .bool false] 49 (0, 0)) := by
    rw [hW2]
    exact ((alloc_below _ _).block _ (by simp)).trans (heap_alloc_new w1 _)
  have O0 : Hid (W2.cell? ⟨w1.heap.size + 1, 0, none⟩ = some (.pointer none)) := hide (by simp [World.cell?, hO])
  have O1 : Hid (W2.cell? ⟨w1.heap.size + 1, 1, none⟩ = some (.pointer (some ⟨w1.heap.size, 0, none⟩))) := hide (by simp [World.cell?, hO])
  have U0 : Hid (Unmade W2 (.pointer none)) := hide (.inl rfl)
  have U1 : Hid (Unmade W2 (.pointer (some ⟨w1.heap.size, 0, none⟩))) := hide (.inr ⟨w1.heap.size, rfl, by simp [World.cell?, hS], false, by simp [World.cell?, hS]⟩)
  clear hO hS hb2 HB1
  go_wp2_with fail
  rw [← hW2]
  clear hW2
  go_loopw [26] (fun i wr => ∃ k : Nat, k ≤ 2 ∧ i = .int .i64 (k : Int) ∧ Hid (Below W2.heap.size W2 wr)) (fun i _ => 2 - (intOf i).toNat)
  case atStart => exact ⟨0, by omega, rfl, hide (Below.refl _ _)⟩
  case round =>
    obtain ⟨k, hk, rfl, HB⟩ := hrel
    by_cases hlt : k < 2
    · obtain rfl | rfl : k = 0 ∨ k = 1 := by omega
      · have oc := cell_later HB.out O0.out
        have U := hide (U0.out.later HB.out)
        clear O0 O1 U0 U1 hlt hk
        go_wp2_with fail
        refine (read_bad U.out.bad _ _ _).mono ?_
        rintro _ _ ⟨rfl, rfl⟩
        clear oc
        go_wp2_with fail
        refine (size_bad U.out.bad _).mono ?_
        rintro _ _ ⟨rfl, rfl⟩
        go_wp2_with fail
        refine (sure_bad U.out.bad _).mono ?_
        rintro _ _ ⟨rfl, rfl⟩
        go_wp2_with fail
        refine (create_bad U.out.bad _).mono ?_
        rintro _ _ ⟨rfl, rfl⟩
        go_wp2_with fail
        refine (write_bad U.out.bad _ _ _ _ _).mono ?_
        rintro _ _ ⟨rfl, rfl⟩
        go_wp2_with fail
        refine (cut_bad U.out.bad _ _).mono ?_
        rintro _ _ ⟨rfl, rfl⟩
        go_wp2_with fail
        refine (sync_bad U.out.bad _).mono ?_
        rintro _ _ ⟨rfl, rfl⟩
        go_wp2_with fail
        refine (rename_bad U.out.bad _ _).mono ?_
        rintro _ _ ⟨rfl, rfl⟩
        go_wp2_with fail
        refine (remove_bad U.out.bad _).mono ?_
        rintro _ _ ⟨rfl, rfl⟩
        go_wp2_with fail
        refine (lnames_un U.out).mono ?_
        rintro _ w4 ⟨rfl, hb⟩
        have U4 := hide (U.out.later hb)
        have HB4 : Hid (Below W2.heap.size W2 w4) := hide (HB.out.trans (hb.mono HB.out.size))
        clear hb U HB
        go_wp2_with fail
        refine (pending_un U4.out).mono ?_
        rintro _ _ ⟨rfl, rfl⟩
        go_wp2_with fail
        refine (left_un U4.out).mono ?_
        rintro _ _ ⟨rfl, rfl⟩
        go_wp2_with fail
        refine (crash_un U4.out).mono ?_
        rintro _ w5 ⟨rfl, hb⟩
        have U5 := hide (U4.out.later hb)
        have HB5 : Hid (Below W2.heap.size W2 w5) := hide (HB4.out.trans (hb.mono HB4.out.size))
        clear hb U4 HB4
        go_wp2_with fail
        refine (start_un U5.out).mono ?_
        rintro _ _ ⟨rfl, rfl⟩
        go_wp2_with fail
        refine (up_un U5.out).mono ?_
        rintro _ _ ⟨rfl, rfl⟩
        go_wp2_with fail
        refine (clone_un U5.out).mono ?_
        rintro _ w6 ⟨rfl, hb⟩
        have HB6 : Hid (Below W2.heap.size W2 w6) := hide (HB5.out.trans (hb.mono HB5.out.size))
        clear hb U5 HB5
        go_wp2
        go_roundw
        case rel => exact ⟨1, by omega, rfl, HB6⟩
        case measure => simp [intOf]
      · have oc := cell_later HB.out O1.out
        have U := hide (U1.out.later HB.out)
        clear O0 O1 U0 U1 hlt hk
        go_wp2_with fail
        refine (read_bad U.out.bad _ _ _).mono ?_
        rintro _ _ ⟨rfl, rfl⟩
        clear oc
        go_wp2_with fail
        refine (size_bad U.out.bad _).mono ?_
        rintro _ _ ⟨rfl, rfl⟩
        go_wp2_with fail
        refine (sure_bad U.out.bad _).mono ?_
        rintro _ _ ⟨rfl, rfl⟩
        go_wp2_with fail
        refine (create_bad U.out.bad _).mono ?_
        rintro _ _ ⟨rfl, rfl⟩
        go_wp2_with fail
        refine (write_bad U.out.bad _ _ _ _ _).mono ?_
        rintro _ _ ⟨rfl, rfl⟩
        go_wp2_with fail
        refine (cut_bad U.out.bad _ _).mono ?_
        rintro _ _ ⟨rfl, rfl⟩
        go_wp2_with fail
        refine (sync_bad U.out.bad _).mono ?_
        rintro _ _ ⟨rfl, rfl⟩
        go_wp2_with fail
        refine (rename_bad U.out.bad _ _).mono ?_
        rintro _ _ ⟨rfl, rfl⟩
        go_wp2_with fail
        refine (remove_bad U.out.bad _).mono ?_
        rintro _ _ ⟨rfl, rfl⟩
        go_wp2_with fail
        refine (lnames_un U.out).mono ?_
        rintro _ w4 ⟨rfl, hb⟩
        have U4 := hide (U.out.later hb)
        have HB4 : Hid (Below W2.heap.size W2 w4) := hide (HB.out.trans (hb.mono HB.out.size))
        clear hb U HB
        go_wp2_with fail
        refine (pending_un U4.out).mono ?_
        rintro _ _ ⟨rfl, rfl⟩
        go_wp2_with fail
        refine (left_un U4.out).mono ?_
        rintro _ _ ⟨rfl, rfl⟩
        go_wp2_with fail
        refine (crash_un U4.out).mono ?_
        rintro _ w5 ⟨rfl, hb⟩
        have U5 := hide (U4.out.later hb)
        have HB5 : Hid (Below W2.heap.size W2 w5) := hide (HB4.out.trans (hb.mono HB4.out.size))
        clear hb U4 HB4
        go_wp2_with fail
        refine (start_un U5.out).mono ?_
        rintro _ _ ⟨rfl, rfl⟩
        go_wp2_with fail
        refine (up_un U5.out).mono ?_
        rintro _ _ ⟨rfl, rfl⟩
        go_wp2_with fail
        refine (clone_un U5.out).mono ?_
        rintro _ w6 ⟨rfl, hb⟩
        have HB6 : Hid (Below W2.heap.size W2 w6) := hide (HB5.out.trans (hb.mono HB5.out.size))
        clear hb U5 HB5
        go_wp2
        go_roundw
        case rel => exact ⟨2, by omega, rfl, HB6⟩
        case measure => simp [intOf]
    · obtain rfl : k = 2 := by omega
      have HB3 : Hid (Below W.heap.size W wr) := hide (HB2.out.trans (HB.out.mono HB2.out.size))
      clear O0 O1 U0 U1 HB HB2 hlt hk
      go_wp2_with fail
      refine (sing_new (W := wr) (room := 4194304) (B := wr.heap.size) (Ex := fun _ => False) (by decide) (by decide) (Nat.le_refl _) (fun _ h => h.elim)).mono ?_
      rintro _ w3 ⟨sb, rfl, hz, hb⟩
      have Z := hide hz
      have HB4 : Hid (Below wr.heap.size wr w3) := hide hb
      clear hz hb
      by_cases hbl : b.length ≤ 4194304
      · have hd : decide ((4194304 : Int) < (b.length : Int)) = false := decide_eq_false (by omega)
        go_wp2_with fail
        refine (clone_any (HV.out.below (HB3.out.trans (HB4.out.mono HB3.out.size))) hbig).mono ?_
        rintro _ w4 ⟨vm, rfl, hrow, hb⟩
        have HM := hide hrow
        have HE : Hid (∀ i, (fun i => vm.ownBlock = some i) i → i < w4.heap.size) := hide (fun i hi => (own_block_lt hrow hi).1)
        have Z4 : Hid (Zero wr.heap.size (fun i => vm.ownBlock = some i) w4 sb 4194304) := hide ((Z.out.ex (fun i h => .inr (own_block_base hrow h))).later hb)
        have HB5 : Hid (Below wr.heap.size wr w4) := hide (HB4.out.trans (hb.mono HB4.out.size))
        have HLO : Hid (wr.heap.size ≤ w3.heap.size) := hide HB4.out.size
        clear hrow hb Z HB4
        go_wp2_with fail
        refine (sto_create Z4.out HB5.out.size HE.out).mono ?_
        rintro _ w5 ⟨rfl, hs, hb, ho⟩
        have S5 := hide hs
        have HM5 := hide (ho.row HM.out (fun _ h => h))
        have HE5 : Hid (∀ i, (fun i => vm.ownBlock = some i) i → i < w5.heap.size) := hide (fun i hi => Nat.lt_of_lt_of_le (HE.out i hi) (by obtain ⟨_, h, _⟩ := ho; exact h.size))
        have HB6 : Hid (Below wr.heap.size wr w5) := hide (HB5.out.trans hb)
        clear hs hb ho HM HE Z4 HB5
        go_wp2_with fail
        refine (sto_write S5.out HB6.out.size HE5.out (own_row HM5.out) (fun _ h => h) HU.out hbl).mono ?_
        rintro _ w6 ⟨rfl, hs, hb, ho⟩
        have S6 := hide hs
        have HM6 := hide (ho.row HM5.out (fun _ h => h))
        have HB7 : Hid (Below wr.heap.size wr w6) := hide (HB6.out.trans hb)
        clear hs hb ho HM5 HE5 S5 HB6
        obtain ⟨pm, cm, hvm, hc1, hc2⟩ := own_form HM6.out
        subst hvm
        go_wp2_with fail
        have HWW : Hid (W.heap.size ≤ wr.heap.size) := hide HB3.out.size
        have HBA : Hid (Below W.heap.size W w6) := hide (HB3.out.trans (HB7.out.mono HB3.out.size))
        clear HB7
        go_loopw [148] (fun i wr => ∃ (k : Nat) (l : List Int), k ≤ b.length ∧ i = .int .i64 (k : Int) ∧ l.length = b.length ∧ U8 l ∧ Hid (wr.ownsRow w3.heap.size 5 1 (.slice pm b.length cm) b.length (l.map (Value.int .u8))) ∧ Hid (Only (fun i => (Value.slice pm b.length cm).ownBlock = some i) w6 wr)) (fun i _ => b.length - (intOf i).toNat)
        case atStart => exact ⟨0, b, Nat.zero_le _, rfl, rfl, HU.out, HM6, hide (Only.refl _ _)⟩
        case round =>
        obtain ⟨k, l, hk, rfl, hll, hul, HR, HN⟩ := hrel
        by_cases hlt : k < b.length
        · obtain ⟨g, hg⟩ : ∃ g, pm = some ⟨g, 0, none⟩ := by
            rcases HR.out.2 with ⟨h, h0⟩ | ⟨g, cp, _, h, _⟩
            · omega
            · simp only [Value.slice.injEq, true_and] at h
              exact ⟨g, h.1⟩
          subst hg
          obtain ⟨y, hy⟩ : ∃ y, y = l.getD k 0 := ⟨_, rfl⟩
          have hcy : wr.cell? ⟨g, k, none⟩ = some (.int .u8 y) := by
            have := HR.out.cellAt k (by omega)
            rw [this, hy]
            simp [List.getD, List.getElem?_eq_getElem (show k < l.length by omega)]
          have hfy := HR.out.frozenAt k
          have hyu : 0 ≤ y ∧ y < 256 := hul y (by rw [hy]; simp [List.getD, List.getElem?_eq_getElem (show k < l.length by omega)])
          have HUL := hide hul
          have HLL := hide hll
          have HYU := hide hyu
          have hk0 : (0 : Int) ≤ (k : Int) := by omega
          have hk1 : (k : Int) < (b.length : Int) := by omega
          clear hy hul hll hyu
          go_wp2
          refine ⟨⟨k + 1, l.set k (bits BinOp.xor IntKind.u8 y 255), by omega, by go_num, by simp [HLL.out], u8_set HUL.out HYU.out, hide (by rw [List.map_set]; exact (HR.out.stored k _).1), hide (HN.out.step (Only.set (F := (· = g)) _ g k _ rfl) (fun i e => .inl (by subst e; rfl)))⟩, by simp [intOf]; omega⟩
        obtain rfl : k = b.length := by omega
        have S7 := hide (S6.out.only HN.out (fun _ h => h))
        have HB8 : Hid (Below W.heap.size W wr) := hide (HBA.out.trans (HN.out.below HBA.out.size (fun i hi => by have := own_block_base HM6.out hi; have := HLO.out; have := HWW.out; omega)))
        clear S6 HM6 HBA HR HN hul hll hlt hk l
        go_wp2_with fail
        refine (S7.out.read hbl).mono ?_
        rintro _ w8 ⟨px, cx, rfl, hrow, hb⟩
        obtain ⟨_, _, _, hx1, hx2⟩ := own_form hrow
        have HX := hide hrow
        have HLX : Hid (W.heap.size ≤ wr.heap.size) := hide HB8.out.size
        have S8 : Hid (Sto (fun i => (Value.slice px b.length cx).ownBlock = some i) w8 sb b) := hide ((S7.out.ex (fun i h => .inr (own_block_base hrow h))).fresh hb)
        have HB9 : Hid (Below W.heap.size W w8) := hide (HB8.out.trans (hb.mono HB8.out.size))
        obtain ⟨Bx, hBx⟩ : ∃ Bx, Bx = wr.heap.size := ⟨_, rfl⟩
        rw [← hBx] at HX HLX
        clear hrow hb S7 HB8 hBx
        go_wp2_with fail
        go_loopw [167] (fun i wr => ∃ (k : Nat) (l : List Int), k ≤ b.length ∧ i = .int .i64 (k : Int) ∧ l.length = b.length ∧ U8 l ∧ Hid (wr.ownsRow Bx 5 1 (.slice px b.length cx) b.length (l.map (Value.int .u8))) ∧ Hid (Only (fun i => (Value.slice px b.length cx).ownBlock = some i) w8 wr)) (fun i _ => b.length - (intOf i).toNat)
        case atStart => exact ⟨0, b, Nat.zero_le _, rfl, rfl, HU.out, HX, hide (Only.refl _ _)⟩
        case round =>
        obtain ⟨k, l, hk, rfl, hll, hul, HR, HN⟩ := hrel
        by_cases hlt : k < b.length
        · obtain ⟨g, hg⟩ : ∃ g, px = some ⟨g, 0, none⟩ := by
            rcases HR.out.2 with ⟨h, h0⟩ | ⟨g, cp, _, h, _⟩
            · omega
            · simp only [Value.slice.injEq, true_and] at h
              exact ⟨g, h.1⟩
          subst hg
          obtain ⟨y, hy⟩ : ∃ y, y = l.getD k 0 := ⟨_, rfl⟩
          have hcy : wr.cell? ⟨g, k, none⟩ = some (.int .u8 y) := by
            have := HR.out.cellAt k (by omega)
            rw [this, hy]
            simp [List.getD, List.getElem?_eq_getElem (show k < l.length by omega)]
          have hfy := HR.out.frozenAt k
          have hyu : 0 ≤ y ∧ y < 256 := hul y (by rw [hy]; simp [List.getD, List.getElem?_eq_getElem (show k < l.length by omega)])
          have HUL := hide hul
          have HLL := hide hll
          have HYU := hide hyu
          have hk0 : (0 : Int) ≤ (k : Int) := by omega
          have hk1 : (k : Int) < (b.length : Int) := by omega
          clear hy hul hll hyu
          go_wp2
          refine ⟨⟨k + 1, l.set k (bits BinOp.xor IntKind.u8 y 255), by omega, by go_num, by simp [HLL.out], u8_set HUL.out HYU.out, hide (by rw [List.map_set]; exact (HR.out.stored k _).1), hide (HN.out.step (Only.set (F := (· = g)) _ g k _ rfl) (fun i e => .inl (by subst e; rfl)))⟩, by simp [intOf]; omega⟩
        obtain rfl : k = b.length := by omega
        have S9 := hide (S8.out.only HN.out (fun _ h => h))
        have HB10 : Hid (Below W.heap.size W wr) := hide (HB9.out.trans (HN.out.below HB9.out.size (fun i hi => by have := own_block_base HX.out hi; have := HLX.out; omega)))
        clear S8 HX HB9 HR HN hul hll hlt hk l
        go_wp2_with fail
        refine (S9.out.read hbl).mono ?_
        rintro _ w10 ⟨py, cy, rfl, hrow, hb⟩
        have HY := hide (own_row hrow)
        have HB11 : Hid (Below W.heap.size W w10) := hide (HB10.out.trans (hb.mono HB10.out.size))
        clear hrow hb S9 HB10
        go_wp2_with fail
        refine (equal_any HY.out (HV.out.below HB11.out) HU.out HU.out).mono ?_
        rintro _ _ ⟨rfl, rfl⟩
        go_wp2
        go_ret
        exact ⟨rfl, HB11.out⟩
      · have hd : decide ((4194304 : Int) < (b.length : Int)) = true := decide_eq_true (by omega)
        go_wp2
        go_ret
        exact ⟨rfl, HB3.out.trans (HB4.out.mono HB3.out.size)⟩
set_option maxRecDepth 100000 in
theorem contract (H : Type) (enc : TypeId × Value → H) (W : World) (base : Nat) (args : Array Value) (ds gs : List (DataW H)) (before : List MemPlace)
    (hval : ∀ (j : Nat) t v, Try.f4.params[j]? = some t → args[j]? = some v → Value.okWide Try.prog W .any base t v)
    (hW : DataW.Whole enc Try.prog Try.f4.params.toList Rows.storeNoneSpec.vars false W args.toList ds gs before)
    (hsz0 : (DataW.weightsEach Try.prog (Try.f4.params.toList ++ Rows.storeNoneSpec.plain.varTypes Try.prog) (ds ++ gs)).all (· ≤ reachBytes) = true) :
    Calls Try.prog 4 args W fun e W' => ∃ v, e = .returned v ∧ Rows.storeNoneSpec.post enc Try.prog Try.f4 false true false false W args v W' := by
  have hW' := hW
  obtain ⟨p, q, hA0, hV, rfl, hfz, hnd⟩ := hW
  have hA : DataW.TrodAll enc Try.prog W 0 (fun _ => true) true Try.f4.params.toList args.toList ds p := hA0
  rw [Try.params4] at hA hval hsz0
  obtain ⟨v0, vs0, d0, ds0, p0, q0, hargs, rfl, rfl, h0, r0⟩ := trodAll_cons hA
  obtain ⟨rfl, rfl, rfl⟩ := trodAll_nil r0
  obtain rfl : args = #[v0] := by cases args; simp_all
  obtain ⟨rfl, rfl⟩ := trodVars_none hV
  obtain ⟨a0, len0, cap0, rfl⟩ := okWide_slice Try.underlying34 (hval 0 34 v0 rfl rfl)
  have k0 := h0
  have lt0 : ∀ x ∈ p0, x.block < W.heap.size := by obtain ⟨m, hm⟩ := k0; exact DataW.trod_lt m _ _ _ hm
  obtain ⟨f0, hf0⟩ := h0
  obtain ⟨l0, e0, R0, wf0, D0⟩ := arg_row Try.underlying34 Try.underlying5 (by kernel_rfl) hf0
  have b0 : len0 * 1 ≤ 140737488351232 := sized_len (bytes := 1) hsz0 (j := 0) rfl rfl Try.underlying34 (by kernel_rfl) D0
  clear hA0
  refine (walk W R0 (wf_u8 wf0) (by omega)).mono fun e W' ⟨he, bel⟩ => ?_
  subst he
  exact ⟨_, rfl, _, _, _, [], _, [], hW', trodAll_mk1 (shut_bool Try.underlying4 _), (trodAll_cons_mk (Below.trod Try.laidOut (by kernel_rfl) (of_decide_eq_true (by kernel_rfl)) k0 bel lt0) trodAll_mk0), rfl, bel.frame _, fun h => by cases h⟩

set_option maxRecDepth 100000 in
theorem lifted (os : Os) (started : os.Started) (H : Type) (enc : TypeId × Value → H) :
    ReturnsInHanded {} Try.checked os 4 .any (Rows.storeNoneSpec.pre6 enc Try.prog Try.f4 Rows.storeNoneRow.domain false) (Rows.storeNoneSpec.post enc Try.prog Try.f4 false true false false) := by
  refine returnsInHanded_of_change_sized (C := Try.checked) Try.ownK started (by kernel_rfl) Try.func4
    (ChangeSpec.witness6 (enc := enc) (C := Try.checked) false ⟨#[], #[.slice none 0 0], []⟩ 8 (by kernel_rfl) (by kernel_rfl) (by kernel_rfl) (by kernel_rfl)) ?_
  intro W base args ds gs before hval hW _ hsz _
  exact contract H enc W base args ds gs before hval hW hsz

set_option maxRecDepth 100000 in
theorem proved : Rows.StoreNoneSaid :=
  OpenClaim.holds_of_wide 4 Try.f4 rfl rfl rfl rfl rfl rfl rfl ⟨rfl, rfl, rfl, rfl, rfl⟩ rfl rfl rfl rfl rfl (by kernel_rfl) Try.func4 (by kernel_rfl)
    (of_decide_eq_true (by kernel_rfl)) (by unfold Func.isWrapper; first | (rw [if_pos (by decide +kernel)]; kernel_rfl) | (rw [if_neg (by decide +kernel)]; exact ⟨rfl, rfl⟩))
    (fun os started H enc _ => lifted os started H enc)

end Go.Proofs.Ytikpckmlnhcddaa.storeNone
