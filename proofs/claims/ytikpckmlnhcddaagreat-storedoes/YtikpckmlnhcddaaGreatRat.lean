/-
  The reference's store as it lies in memory; over. The conditions: lengths.
-/
import Derived.Test.YtikpckmlnhcddaaGreatSur
namespace Go.Proofs.YtikpckmlnhcddaaGreat
open Go.RowKit Go.Maps

set_option maxRecDepth 100000 in
set_option maxHeartbeats 2000000 in
/-- A write over bytes. -/
theorem over_any {vb vx : Value} {b x : List Int} {W : World} (hb : Row .u8 W vb b) (hx : Row .u8 W vx x) {at_ : Nat} (hat : at_ ≤ b.length) (lb : b.length ≤ 4194304) (lx : x.length ≤ 4194304) :
    Calls Tryz.prog 67 #[vb, .int .i64 at_, vx] W fun e w' => ∃ p cap, e = .returned (.slice p (putL b at_ x).length cap) ∧ w'.ownsRow W.heap.size 5 1 (.slice p (putL b at_ x).length cap) (putL b at_ x).length ((putL b at_ x).map (Value.int .u8)) ∧ Below W.heap.size W w' := by
  obtain ⟨i0, hi, hz0, hz1, hz2⟩ := info_parts Tryz.infoU8
  obtain ⟨p, cap, rfl, g1, g2, g3, g4⟩ := id hb
  obtain ⟨px, capx, rfl, x1, x2, x3, x4⟩ := id hx
  have HT := hide (hb.take hat)
  have hlt : (b.take at_).length = at_ := by simp; omega
  have HB := hide hb
  have HX := hide hx
  clear hb hx g3 g4 x3 x4
  go_enter Tryz.func67, Tryz.ntmps67
  go_wp2_with (at_builtin; refine append_row _ rfl _ _ 31 rfl W.heap.size 5 i0 .u8 1 Tryz.underlying31 hi hz0 hz1 hz2 _ _ _ rfl (World.ownsRow_nil _ _ _ _) _ (b.take at_) rfl HT.out (by omega) (by omega) (Nat.le_refl _) ?_)
  intro v1 w1 hown1 hg1
  have B1 : Below W.heap.size W w1 := (Below.refl _ W).grown hg1 (Nat.le_refl _) (by intro k hk; simp [Value.ownBlock] at hk)
  have O1 := hide hown1
  clear hown1 hg1
  go_wp2_with (at_builtin; refine append_row _ rfl _ _ 31 rfl W.heap.size 5 i0 .u8 1 Tryz.underlying31 hi hz0 hz1 hz2 _ _ _ rfl O1.out _ x rfl (HX.out.below B1) (by omega) (by omega) B1.size ?_)
  intro v2 w2 hown2 hg2
  have B2 : Below W.heap.size W w2 := B1.grown hg2 B1.size (fun k hk => own_block_base O1.out hk)
  obtain ⟨p2, c2, rfl, hc1, hc2⟩ := own_form hown2
  have O2 : Hid (w2.ownsRow W.heap.size 5 1 (.slice p2 (at_ + x.length) c2) (at_ + x.length) ((b.take at_ ++ x).map (Value.int .u8))) := by
    rw [List.map_append, List.map_take]; exact hide hown2
  clear hown2 hg2 O1 B1 HT
  by_cases hl : at_ + x.length < b.length
  · have HA : Hid (Row .u8 W (.slice (Option.map (fun y => y.add (at_ + x.length)) p) (b.length - (at_ + x.length)) (cap - (at_ + x.length))) (b.drop (at_ + x.length))) := by
      have := HB.out.cutIf (lo := at_ + x.length) (n := b.length - (at_ + x.length)) (by omega)
      rw [List.take_of_length_le (by simp), if_neg (by omega)] at this
      exact hide this
    have hld : (b.drop (at_ + x.length)).length = b.length - (at_ + x.length) := by simp
    have HLD := hide hld
    clear hld
    go_wp2_with (at_builtin; refine append_row _ rfl _ _ 31 rfl W.heap.size 5 i0 .u8 1 Tryz.underlying31 hi hz0 hz1 hz2 _ _ _ rfl O2.out _ (b.drop (at_ + x.length)) rfl (HA.out.below B2) (by have := HLD.out; omega) (by have := HLD.out; omega) B2.size ?_)
    intro v3 w3 hown3 hg3
    have B3 : Below W.heap.size W w3 := B2.grown hg3 B2.size (fun k hk => own_block_base O2.out hk)
    obtain ⟨p3, c3, rfl, hc3, hc4⟩ := own_form hown3
    have O3 := hide hown3
    clear hown3 hg3 O2 B2
    go_wp2
    go_ret
    have hlen : (putL b at_ x).length = at_ + x.length + (b.length - (at_ + x.length)) := by simp [putL]; omega
    refine ⟨p3, c3, ?_, ?_, B3⟩
    · rw [hlen]; rfl
    · rw [hlen]
      have e : (putL b at_ x).map (Value.int .u8) = List.take at_ (List.map (Value.int .u8) b) ++ (List.map (Value.int .u8) x ++ List.drop (at_ + x.length) (List.map (Value.int .u8) b)) := by simp [putL]
      rw [e]
      exact O3.out
  · go_wp2
    go_ret
    have hpl : putL b at_ x = b.take at_ ++ x := by simp [putL]; omega
    have hlen : (putL b at_ x).length = at_ + x.length := by rw [hpl]; simp; omega
    refine ⟨p2, c2, ?_, ?_, B2⟩
    · rw [hlen]; rfl
    · rw [hlen, hpl]
      exact O2.out

/-- A file of the reference, and a pending write of it. -/
structure RF where
  name : List UInt8
  b : List Int
  bv : Value
structure RP where
  name : List UInt8
  beg : Nat
  b : List Int
  bv : Value
instance : Inhabited RF := ⟨⟨[], [], undef⟩⟩
instance : Inhabited RP := ⟨⟨[], 0, [], undef⟩⟩
def RF.cells (f : RF) : List Value := [strV f.name, f.bv]
def RP.cells (p : RP) : List Value := [strV p.name, .int .i64 p.beg, p.bv]

/-- The reference's store. -/
structure RS where
  L : List RF
  P : List RP
  most : Nat
  down : Bool
  lv : Value
  pv : Value

def rown (rb : Nat) (R : RS) (i : Nat) : Prop := i = rb ∨ R.lv.ownBlock = some i ∨ R.pv.ownBlock = some i
def rcov (R : RS) (i : Nat) : Prop := (∃ f ∈ R.L, f.b ≠ [] ∧ f.bv.ownBlock = some i) ∨ ∃ p ∈ R.P, p.b ≠ [] ∧ p.bv.ownBlock = some i
structure RRep (W : World) (rb : Nat) (R : RS) : Prop where
  box : W.heap[rb]? = some (.cells #[R.lv, R.pv, .int .i64 R.most, .bool R.down] 67 (0, 0))
  lrow : W.ownsRow 0 100 2 R.lv R.L.length (R.L.flatMap RF.cells)
  prow : W.ownsRow 0 98 3 R.pv R.P.length (R.P.flatMap RP.cells)
  lb : ∀ f ∈ R.L, Row .u8 W f.bv f.b ∧ U8 f.b
  pb : ∀ p ∈ R.P, Row .u8 W p.bv p.b ∧ U8 p.b
  sep : ∀ i, rcov R i → ¬ rown rb R i

theorem Row.only0 {k : IntKind} {F : Nat → Prop} {A B : World} {v : Value} {l : List Int} (h : Row k A v l) (ho : Only F A B) (hc : l ≠ [] → Clear F v) : Row k B v l := by
  by_cases hl : l = []
  · subst hl
    obtain ⟨p, cap, rfl, h1, h2, h3, h4⟩ := h
    exact ⟨p, cap, rfl, h1, h2, h3, fun hp => by simp at hp⟩
  · exact h.only ho (hc hl)

theorem RRep.only {F : Nat → Prop} {W W' : World} {rb : Nat} {R : RS} (h : RRep W rb R) (ho : Only F W W') (h1 : ∀ i, rown rb R i → ¬ F i) (h2 : ∀ i, rcov R i → ¬ F i) : RRep W' rb R :=
  ⟨ho.obj h.box (h1 _ (.inl rfl)), ownsRow_only h.lrow ho (fun b hb => h1 b (.inr (.inl hb))), ownsRow_only h.prow ho (fun b hb => h1 b (.inr (.inr hb))),
    fun f hf => ⟨(h.lb f hf).1.only0 ho (fun hl b hb => h2 b (.inl ⟨f, hf, hl, hb⟩)), (h.lb f hf).2⟩, fun p hp => ⟨(h.pb p hp).1.only0 ho (fun hl b hb => h2 b (.inr ⟨p, hp, hl, hb⟩)), (h.pb p hp).2⟩, h.sep⟩
theorem RRep.fresh {W W' : World} {rb : Nat} {R : RS} (h : RRep W rb R) (hb : Below W.heap.size W W') : RRep W' rb R :=
  ⟨below_box hb h.box, ownsRow_later h.lrow hb, ownsRow_later h.prow hb, fun f hf => ⟨(h.lb f hf).1.below hb, (h.lb f hf).2⟩, fun p hp => ⟨(h.pb p hp).1.below hb, (h.pb p hp).2⟩, h.sep⟩
theorem RRep.rcells {W : World} {rb : Nat} {R : RS} (h : RRep W rb R) : W.cell? ⟨rb, 0, none⟩ = some R.lv ∧ W.cell? ⟨rb, 1, none⟩ = some R.pv ∧ W.cell? ⟨rb, 2, none⟩ = some (.int .i64 R.most) ∧ W.cell? ⟨rb, 3, none⟩ = some (.bool R.down) := by
  refine ⟨?_, ?_, ?_, ?_⟩ <;> simp [World.cell?, h.box]

theorem cellsN_get {α : Type} [Inhabited α] {c : α → List Value} {n : Nat} (hc : ∀ x, (c x).length = n) {ds : List α} {k j : Nat} (hk : k < ds.length) (hj : j < n) : (ds.flatMap c)[k * n + j]? = (c ds[k]!)[j]? := by
  induction ds generalizing k with
  | nil => simp at hk
  | cons d ds ih =>
    cases k with
    | zero =>
      simp only [List.flatMap_cons, Nat.zero_mul, Nat.zero_add]
      rw [List.getElem?_append_left (by rw [hc]; exact hj)]
      simp
    | succ k =>
      simp only [List.flatMap_cons]
      have e : (k + 1) * n + j = n + (k * n + j) := by rw [Nat.add_mul]; omega
      rw [List.getElem?_append_right (by rw [hc, e]; omega)]
      have e2 : (k + 1) * n + j - (c d).length = k * n + j := by rw [hc, e]; omega
      rw [e2, ih (by simpa using hk)]
      simp

theorem file_cells {W : World} {base n cap k : Nat} {p : Option Addr} {L : List RF} (h : W.ownsRow base 100 2 (.slice p n cap) n (L.flatMap RF.cells)) (hl : L.length = n) (hk : k < n) : ∃ g, p = some ⟨g, 0, none⟩ ∧
    W.cell? ⟨g, k * 2, none⟩ = some (strV (L[k]!).name) ∧ W.cell? ⟨g, k * 2 + 1, none⟩ = some (L[k]!).bv ∧ W.frozen? ⟨g, k * 2, none⟩ = false ∧ W.frozen? ⟨g, k * 2 + 1, none⟩ = false := by
  rcases h.2 with ⟨_, h0⟩ | ⟨g, cap', cur, he, _⟩
  · omega
  · simp only [Value.slice.injEq, true_and] at he
    obtain ⟨rfl, rfl⟩ := he
    have c : ∀ j, j < 2 → W.cell? ⟨g, k * 2 + j, none⟩ = (L[k]!).cells[j]? := fun j hj => by
      rw [h.cellAt (k * 2 + j) (by omega), cellsN_get (c := RF.cells) (n := 2) (fun _ => rfl) (by omega) hj]
    exact ⟨g, rfl, c 0 (by omega), c 1 (by omega), h.frozenAt _, h.frozenAt _⟩
theorem pend_cells {W : World} {base n cap k : Nat} {p : Option Addr} {L : List RP} (h : W.ownsRow base 98 3 (.slice p n cap) n (L.flatMap RP.cells)) (hl : L.length = n) (hk : k < n) : ∃ g, p = some ⟨g, 0, none⟩ ∧
    W.cell? ⟨g, k * 3, none⟩ = some (strV (L[k]!).name) ∧ W.cell? ⟨g, k * 3 + 1, none⟩ = some (.int .i64 (L[k]!).beg) ∧ W.cell? ⟨g, k * 3 + 2, none⟩ = some (L[k]!).bv := by
  rcases h.2 with ⟨_, h0⟩ | ⟨g, cap', cur, he, _⟩
  · omega
  · simp only [Value.slice.injEq, true_and] at he
    obtain ⟨rfl, rfl⟩ := he
    have c : ∀ j, j < 3 → W.cell? ⟨g, k * 3 + j, none⟩ = (L[k]!).cells[j]? := fun j hj => by
      rw [h.cellAt (k * 3 + j) (by omega), cellsN_get (c := RP.cells) (n := 3) (fun _ => rfl) (by omega) hj]
    exact ⟨g, rfl, c 0 (by omega), c 1 (by omega), c 2 (by omega)⟩
end Go.Proofs.YtikpckmlnhcddaaGreat

/-
  The reference: at, may. The conditions: lengths.
-/
namespace Go.Proofs.YtikpckmlnhcddaaGreat
open Go.RowKit Go.Maps

/-- The place of a name. -/
def atL (L : List RF) (n : List UInt8) : Option Nat := L.findIdx? (fun f => f.name == n)
def atI (L : List RF) (n : List UInt8) : Int := match atL L n with | some i => (i : Int) | none => -1

theorem atL_none {L : List RF} {n : List UInt8} (h : ∀ j, j < L.length → (L[j]!).name ≠ n) : atL L n = none := by
  unfold atL
  rw [List.findIdx?_eq_none_iff]
  intro f hf
  obtain ⟨j, hj, rfl⟩ := List.getElem_of_mem hf
  have := h j hj
  rw [getElem!_pos L j hj] at this
  simpa using this
theorem atL_some {L : List RF} {n : List UInt8} {k : Nat} (hk : k < L.length) (he : (L[k]!).name = n) (h : ∀ j, j < k → (L[j]!).name ≠ n) : atL L n = some k := by
  unfold atL
  rw [List.findIdx?_eq_some_iff_getElem]
  refine ⟨hk, ?_, fun j hj => ?_⟩
  · rw [getElem!_pos L k hk] at he; simpa using he
  · have := h j hj
    rw [getElem!_pos L j (by omega)] at this
    simpa using this
theorem atI_none {L : List RF} {n : List UInt8} (h : ∀ j, j < L.length → (L[j]!).name ≠ n) : atI L n = -1 := by simp [atI, atL_none h]
theorem atI_some {L : List RF} {n : List UInt8} {k : Nat} (hk : k < L.length) (he : (L[k]!).name = n) (h : ∀ j, j < k → (L[j]!).name ≠ n) : atI L n = (k : Int) := by simp [atI, atL_some hk he h]

set_option maxRecDepth 100000 in
set_option maxHeartbeats 2000000 in
theorem at_any {W : World} {rb : Nat} {R : RS} (h : RRep W rb R) {s : ByteArray} :
    Calls Tryz.prog 62 #[.pointer (some ⟨rb, 0, none⟩), .string s] W fun e w' => e = .returned (.int .i64 (atI R.L s.data.toList)) ∧ w' = W := by
  obtain ⟨c0, c1, c2, c3⟩ := h.rcells
  obtain ⟨p, cap, he, h1, h2⟩ := own_form h.lrow
  rw [he] at c0
  have HR : Hid (W.ownsRow 0 100 2 (.slice p R.L.length cap) R.L.length (R.L.flatMap RF.cells)) := by rw [← he]; exact hide h.lrow
  clear h c1 c2 c3 he
  go_enter Tryz.func62, Tryz.ntmps62
  go_wp2_with fail
  go_loopw [5] (fun i wr => ∃ k : Nat, k ≤ R.L.length ∧ i = .int .i64 (k : Int) ∧ wr = W ∧ Hid (∀ j, j < k → (R.L[j]!).name ≠ s.data.toList)) (fun i _ => R.L.length - (intOf i).toNat)
  case atStart => exact ⟨0, Nat.zero_le _, rfl, rfl, hide (fun j hj => by omega)⟩
  case round =>
    obtain ⟨k, hk, rfl, hwr, HN⟩ := hrel
    subst hwr
    by_cases hlt : k < R.L.length
    · obtain ⟨g, rfl, d0, d1, _, _⟩ := file_cells HR.out rfl hlt
      obtain ⟨f, hf⟩ : ∃ f, R.L[k]! = f := ⟨_, rfl⟩
      rw [hf] at d0 d1
      unfold strV at d0
      have HF := hide hf
      clear hf d1
      by_cases hq : f.name = s.data.toList
      · have he : (f.name == s.toList) = true := by rw [ByteArray.toList_eq, hq]; simp
        go_wp2
        go_ret
        refine ⟨?_, rfl⟩
        rw [atI_some hlt (by rw [HF.out]; exact hq) HN.out]
        rfl
      · have he : (f.name == s.toList) = false := by
          rw [ByteArray.toList_eq]
          simpa using hq
        go_wp2
        refine ⟨⟨k + 1, by omega, by go_num, trivial, hide (fun j hj => ?_)⟩, by simp [intOf]; omega⟩
        by_cases hjk : j = k
        · subst hjk; rw [HF.out]; exact hq
        · exact HN.out j (by omega)
    · obtain rfl : k = R.L.length := by omega
      go_wp2
      go_ret
      refine ⟨?_, rfl⟩
      rw [atI_none HN.out]
      rfl

/-- What comes ahead of a call. -/
def mayL (R : RS) (n : List UInt8) : Int := if R.down then 32 else match atL R.L n with | some _ => 0 | none => 4

set_option maxRecDepth 100000 in
set_option maxHeartbeats 2000000 in
theorem may_any {W : World} {rb : Nat} {R : RS} (h : RRep W rb R) {s : ByteArray} :
    Calls Tryz.prog 64 #[.pointer (some ⟨rb, 0, none⟩), .string s] W fun e w' => e = .returned (.int .i64 (mayL R s.data.toList)) ∧ w' = W := by
  have HA := hide (at_any h (s := s))
  obtain ⟨c0, c1, c2, c3⟩ := h.rcells
  cases hd : R.down with
  | true =>
    rw [hd] at c3
    have e : mayL R s.data.toList = 32 := by simp [mayL, hd]
    rw [e]
    clear HA h e
    go_enter Tryz.func64, Tryz.ntmps64
    go_wp2
    go_ret
    exact ⟨rfl, rfl⟩
  | false =>
    rw [hd] at c3
    cases ha : atL R.L s.data.toList with
    | none =>
      have e : mayL R s.data.toList = 4 := by simp [mayL, hd, ha]
      have e2 : atI R.L s.data.toList = -1 := by simp [atI, ha]
      rw [e]
      rw [e2] at HA
      clear h e
      go_enter Tryz.func64, Tryz.ntmps64
      go_wp2_with fail
      refine HA.out.mono ?_
      rintro _ _ ⟨rfl, rfl⟩
      go_wp2
      go_ret
      exact ⟨rfl, rfl⟩
    | some i =>
      have e : mayL R s.data.toList = 0 := by simp [mayL, hd, ha]
      have e2 : atI R.L s.data.toList = (i : Int) := by simp [atI, ha]
      rw [e]
      rw [e2] at HA
      clear h e
      go_enter Tryz.func64, Tryz.ntmps64
      go_wp2_with fail
      refine HA.out.mono ?_
      rintro _ _ ⟨rfl, rfl⟩
      go_wp2
      go_ret
      exact ⟨rfl, rfl⟩
end Go.Proofs.YtikpckmlnhcddaaGreat
