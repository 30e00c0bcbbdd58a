/-
  What the statements' function 'numbers' returns: the numbers with which bytes begin, and the places behind them; over any world, in which nothing that was there turns. The conditions: the bytes read as bytes and are at most 1048576.
-/
import Derived.Test.YtpnoijmdhlkjlaaRgn
import Derived.Deep.RegionLaw
namespace Go.Proofs.Ytpnoijmdhlkjlaa
open Go.RowKit Go.Shelf
attribute [local go_sem] Oper.semAt_some

theorem kp_put {n1 : Nat} (n2 : Nat) : ∀ (W : World) (l : Nat) (o o' : Obj), n2 ≤ l → W.heap[l]? = some o → o.isCells = false → o.isWalk = false → Kp n1 n2 W (W.putObj l o') :=
  fun W l o o' hl _ _ _ => ⟨by simp, fun k _ hk => World.putObj_heap_other (by omega)⟩

/-- What the loop's own variables hold when so many numbers have come. -/
def Holds (w : World) (n2 : Nat) (pre : List (Int × Nat)) (W : World) : Prop :=
  (∃ v u, Boxed W w.heap.size 23 v ∧ Boxed W (w.heap.size + 1) 35 u ∧ W.ownsRow n2 2 1 v (fsts pre).length ((fsts pre).map (Value.int .i64)) ∧
    W.ownsRow n2 3 1 u (snds pre).length ((snds pre).map (Value.int .i64))) ∧ Below w.heap.size w W ∧ n2 ≤ W.heap.size

theorem row_own {W W' : World} {row : Option Nat} {base n : Nat} {e : TypeId} {v : Value} {xs : List Value} (h : W.ownsRow base e 1 v n xs) (hg : W.grownBy W' row) (hr : ∀ r, row = some r → ∃ o : Obj, W.heap[r]? = some o ∧ o.isCells = false) : W'.ownsRow base e 1 v n xs := by
  refine h.kept hg ?_
  rcases h.2 with ⟨rfl, _⟩ | ⟨g, cap, cur, rfl, _, hgg, _⟩
  · left; rfl
  · right
    intro e
    obtain ⟨o, ho, hc⟩ := hr g e.symm
    rw [hgg] at ho
    cases ho
    simp [Obj.isCells] at hc
theorem boxed_own' {W W' : World} {row : Option Nat} {B : Nat} {t : TypeId} {v : Value} (h : Boxed W B t v) (hg : W.grownBy W' row) (hr : ∀ r, row = some r → ∃ o : Obj, W.heap[r]? = some o ∧ o.isCells = false) : Boxed W' B t v := by
  refine h.kept hg ?_
  intro e
  obtain ⟨o, ho, hc⟩ := hr B e.symm
  have hh : W.heap[B]? = some (.cells #[v] t (0, 0)) := h
  rw [hh] at ho
  cases ho
  simp [Obj.isCells] at hc

theorem holds_own (w : World) (n2 : Nat) (hn : w.heap.size ≤ n2) : OwnFrom n2 (fun pre W => Holds w n2 pre W) := by
  intro pre W W' row hs hg hr
  obtain ⟨⟨v, u, h1, h2, h3, h4⟩, hB, hz⟩ := hs
  have hr' : ∀ r, row = some r → ∃ o : Obj, W.heap[r]? = some o ∧ o.isCells = false := fun r e => (hr r e).2
  exact ⟨⟨v, u, boxed_own' h1 hg hr', boxed_own' h2 hg hr', row_own h3 hg hr', row_own h4 hg hr'⟩, hB.grown hg hB.size (fun k e => by have := (hr k e).1; omega), Nat.le_trans hz hg.size⟩

set_option maxRecDepth 100000 in
set_option maxHeartbeats 4000000 in
theorem numbers_in (n : Nat) (hn : 3 ≤ n) {v : Value} {b : List Int} {w : World} (hv : Row .u8 w v b) (hu : U8 b) (hbig : b.length ≤ 1048576) :
    CallsIn Fence.wide n Try.prog 19 #[v] w fun e w' => ∃ v1 v2, e = .returned (.tuple #[v1, v2]) ∧ w'.ownsRow w.heap.size 2 1 v1 (fsts (numbers b)).length ((fsts (numbers b)).map (Value.int .i64)) ∧
      w'.ownsRow w.heap.size 3 1 v2 (snds (numbers b)).length ((snds (numbers b)).map (Value.int .i64)) ∧ Below w.heap.size w w' := by
  obtain ⟨i1, hI1, hz0, hz1, hz2⟩ := info_parts Try.infoI64
  obtain ⟨i2, hI2, hy0, hy1, hy2⟩ := info_parts Try.infoInt
  have h1 : 1 ≤ n := by omega
  have HV : Hid (Row .u8 w v b) := hv
  have HU : Hid (U8 b) := hu
  have HN : Hid ((numbers b).length ≤ b.length) := numbers_len b
  clear hv hu
  refine callsIn_of_wp_marks Try.func19 rfl trivial ?_ rfl
  simp only [Try.ntmps19, List.size_toArray, List.length_cons, List.length_nil, Nat.reduceAdd, Nat.reduceSub, Array.replicate_succ, Array.replicate_zero, List.push_toArray, List.append_toArray, List.nil_append, List.cons_append]
  gi_wp2_with fail
  refine ⟨trivial, (callsIn_wide.2 (ints_any ((HV.out.below (alloc_below _ _)).below (alloc_below _ _)) (by omega))).mono ?_⟩
  rintro r w1 ⟨Bk, vk, rfl, hbox, hrow, hb1, hb2, hin, hbel⟩
  have sz0 : ((w.alloc (.cells #[.slice none 0 0] 23)).alloc (.cells #[.slice none 0 0] 35)).heap.size = w.heap.size + 2 := by simp
  rw [sz0] at hb1 hin
  have bL : Boxed w1 w.heap.size 23 (.slice none 0 0) := ((hbel.block w.heap.size (by rw [sz0]; omega)).trans ((Boxed.new w 23 (.slice none 0 0)).alloc _))
  have bA : Boxed w1 (w.heap.size + 1) 35 (.slice none 0 0) := by
    have e := Boxed.new (w.alloc (.cells #[.slice none 0 0] 23)) 35 (.slice none 0 0)
    rw [World.size_alloc] at e
    exact (hbel.block (w.heap.size + 1) (by rw [sz0]; omega)).trans e
  have B1 : Below w.heap.size w w1 := (((Below.refl _ w).alloc (Nat.le_refl _) _).alloc (by simp) _).trans (hbel.mono (by rw [sz0]; omega))
  have z1 : w.heap.size + 2 ≤ w1.heap.size := by have := hbel.size; rw [sz0] at this; exact this
  clear hbel sz0
  gi_wp2_with fail
  refine wpIn_rangeFunc_ownG rfl h1 (gf := 50) (lb := #[.pointer (some ⟨Bk, 0, none⟩)]) rfl trivial (enters_of Try.func50 (by kernel_rfl) rfl)
    (ints_stops (n - 1) (by omega) Bk (w.heap.size + 2) w1.heap.size vk b w1 hbox hrow HU.out hb1 hb2 hin) Kp.trans (kp_put w1.heap.size) (Below.refl _ _) (fun _ => rfl)
    (fun pre W => Holds w w1.heap.size pre W)
    (fun _ _ _ => False)
    (holds_own w w1.heap.size (by omega))
    (fun _ _ _ _ _ hs _ _ => hs)
    ⟨⟨_, _, bL, bA, World.ownsRow_nil _ _ _ _, World.ownsRow_nil _ _ _ _⟩, B1, Nat.le_refl _⟩
    (fun x => { tmps := #[v, undef, .slice none 0 0, .slice none 0 0, .pointer (some ⟨w.heap.size, 0, none⟩), .pointer (some ⟨w.heap.size + 1, 0, none⟩), .int .i64 x.1, .int .i64 (x.2 : Int), v, .func (.func 50) #[] #[.pointer (some ⟨Bk, 0, none⟩)], .int .i64 x.1, .int .i64 (x.2 : Int), undef, undef, undef, undef, undef, undef, undef, undef, undef, undef], defers := [] }) ?assign ?body ?done ?stop
  case assign =>
    intro l x W K hK
    gi_wp2
    exact hK
  case body =>
    rintro l pre x W ⟨⟨v1, u1, hv, ha, hrow1, hrow2⟩, hB, hz⟩ hlt
    have hc1 := hv.cell
    have hf1 := hv.frozen
    have hc2 := ha.cell
    have hf2 := ha.frozen
    have hpl : pre.length ≤ 1048576 := by have := HN.out; omega
    gi_wp2_with fail
    refine wpIn_region_any (by kernel_rfl) ?_
    refine region6 (W := W) (s := w.heap.size) (n2 := w1.heap.size) (k := (fsts pre).length) (m := (snds pre).length) (v := v1) (u := u1) (xs := (fsts pre).map (Value.int .i64)) (ys := (snds pre).map (Value.int .i64)) (x := x.1) (y := (x.2 : Int))
      (by rw [fsts_len]; exact hpl) (by rw [snds_len]; exact hpl) ?_ 10 false false false false false false false false false false undef undef undef undef undef undef undef undef _ (by decide) ?_
    · intro t12 t13 t14 t15 t16 t17 t18 t19 w2 hI
      obtain ⟨g1, c1, e1, o1⟩ := hI.r1' rfl
      obtain ⟨g2, c2, e2, o2⟩ := hI.r2' rfl
      have hend : Holds w w1.heap.size (pre ++ [x]) w2 := by
        refine ⟨⟨t15, t19, hI.x1' rfl, hI.x2' rfl, ?_, ?_⟩, hB.trans hI.bel, hI.sz⟩
        · rw [fsts_snoc]; simpa using o1
        · rw [snds_snoc]; simpa using o2
      gi_wp2_with fail
      exact ⟨hI.keep, hI.kp, hend⟩
    · exact {
        c3 := fun e => by cases e
        c7 := fun e => by cases e
        c8 := fun e => by cases e
        c9 := fun e => by cases e
        s12 := fun e => by cases e
        s13 := fun e => by cases e
        s14 := fun e => by cases e
        r1 := fun _ => hrow1.drew
        r1' := fun e => by cases e
        s16 := fun e => by cases e
        s17 := fun e => by cases e
        s18 := fun e => by cases e
        r2 := fun _ => hrow2.drew
        r2' := fun e => by cases e
        x1 := fun _ => hv
        x1' := fun e => by cases e
        x2 := fun _ => ha
        x2' := fun e => by cases e
        keep := ⟨Nat.le_refl _, fun _ _ _ h _ => h⟩
        kp := ⟨Nat.le_refl _, fun _ _ _ => rfl⟩
        bel := (Below.refl _ W).drew
        low := z1
        sz := hz }
  case done =>
    rintro D ys W hD rfl ⟨⟨v1, u1, hv, ha, hrow1, hrow2⟩, hB, hz⟩ hK
    have hc1 := hv.cell
    have hc2 := ha.cell
    gi_wp2
    gi_region
    gi_wp2_with fail
    have hK' : W.drew.heap[D]? = some (.deferred (some [])) := hK
    refine ⟨by simp, .inl ⟨_, _, rfl, run_takeDeferred hK', ?_⟩⟩
    exact ⟨_, results_tmp2 rfl _ _ _, v1, u1, rfl, own_base (ownsRow_putObj hrow1.drew _ hK' rfl) (by omega), own_base (ownsRow_putObj hrow2.drew _ hK' rfl) (by omega), hB.drew.trans (belowK_b (w := w) (Nat.le_refl _) W.drew D _ _ (by omega) hK' rfl rfl)⟩
  case stop =>
    rintro D c pre W _ _ h _
    exact h.elim

theorem numbers_any {v : Value} {b : List Int} {w : World} (hv : Row .u8 w v b) (hu : U8 b) (hbig : b.length ≤ 1048576) :
    Calls Try.prog 19 #[v] w fun e w' => ∃ v1 v2, e = .returned (.tuple #[v1, v2]) ∧ w'.ownsRow w.heap.size 2 1 v1 (fsts (numbers b)).length ((fsts (numbers b)).map (Value.int .i64)) ∧
      w'.ownsRow w.heap.size 3 1 v2 (snds (numbers b)).length ((snds (numbers b)).map (Value.int .i64)) ∧ Below w.heap.size w w' :=
  callsIn_wide.1 (numbers_in 3 (Nat.le_refl _) hv hu hbig)

end Go.Proofs.Ytpnoijmdhlkjlaa
