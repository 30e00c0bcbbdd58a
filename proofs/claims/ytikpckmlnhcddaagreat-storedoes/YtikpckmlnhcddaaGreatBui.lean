/-
  The law's does and built over any list of operations. The conditions: lengths; what is handed in lies apart.
-/
import Derived.Test.YtikpckmlnhcddaaGreatDos
namespace Go.Proofs.YtikpckmlnhcddaaGreat
open Go.RowKit Go.Maps

structure OpV where
  d : Int
  s : ByteArray
  t : ByteArray
  k : Int
  m : Int
  bp : Option Addr
  bc : Nat
  b : By
instance : Inhabited OpV := ⟨⟨0, ⟨#[]⟩, ⟨#[]⟩, 0, 0, none, 0, []⟩⟩
def OpV.cells (o : OpV) : List Value := [.int .i64 o.d, .string o.s, .string o.t, .int .i64 o.k, .int .i64 o.m, .slice o.bp o.b.length o.bc]
def OpV.ok (o : OpV) (W : World) (B : Nat) : Prop := OpOk W B o.s o.t o.k o.m o.bp o.bc o.b
def OpV.step (o : OpV) (r : RC) : RC := stepC r o.d o.s.data.toList o.t.data.toList o.k o.m o.b

theorem OpOk.below {W W' : World} {B bc : Nat} {s t : ByteArray} {k m : Int} {bp : Option Addr} {b : By} (h : OpOk W B s t k m bp bc b) (hb : Below B W W') : OpOk W' B s t k m bp bc b := by
  refine { h with row := ?_ }
  by_cases hbe : b = []
  · subst hbe
    obtain ⟨p, cap, he, h1, h2, h3, h4⟩ := h.row
    exact ⟨p, cap, he, h1, h2, h3, fun hp => by simp at hp⟩
  · obtain ⟨p, cap, he, h1, h2, h3, h4⟩ := h.row
    refine ⟨p, cap, he, h1, h2, h3, fun hp => ?_⟩
    obtain ⟨g, o, hpe, hc⟩ := h4 hp
    refine ⟨g, o, hpe, fun i hi => ?_⟩
    have hg : g < B := h.far hbe g (by rw [he, hpe]; rfl)
    rw [World.cell?_of_block (hb.block g hg)]
    exact hc i hi

theorem OpOk.mono {W : World} {B C bc : Nat} {s t : ByteArray} {k m : Int} {bp : Option Addr} {b : By} (h : OpOk W B s t k m bp bc b) (hB : B ≤ C) : OpOk W C s t k m bp bc b :=
  { h with far := fun hbe i hi => Nat.lt_of_lt_of_le (h.far hbe i hi) hB }

theorem does_any {W : World} {sb mb rb N B : Nat} {fs : List MF} {r : RC} {R : RS} (h : Two W sb mb rb fs r R N B) (hr : R.core = r) (hB : B ≤ W.heap.size) (hN1 : N < 2199023255552) {o : OpV} (ho : o.ok W B) :
    Calls Tryz.prog 9 #[.pointer (some ⟨sb, 0, none⟩), .pointer (some ⟨rb, 0, none⟩), .agg #[.int .i64 o.d, .string o.s, .string o.t, .int .i64 o.k, .int .i64 o.m, .slice o.bp o.b.length o.bc]] W (DPost W sb mb rb fs R (o.step r) (N + 1) B) := by
  obtain ⟨d, s, t, k, m, bp, bc, b⟩ := o
  unfold OpV.step stepC
  unfold OpV.ok at ho
  simp only at ho ⊢
  by_cases e0 : d = 0
  · subst e0; exact does0 h hr hB hN1 ho
  by_cases e1 : d = 1
  · subst e1; exact does1 h hr hB hN1 ho
  by_cases e2 : d = 2
  · subst e2; exact does2 h hr hB hN1 ho
  by_cases e3 : d = 3
  · subst e3; exact does3 h hr hB hN1 ho
  by_cases e4 : d = 4
  · subst e4; exact does4 h hr hB hN1 ho
  by_cases e5 : d = 5
  · subst e5; exact does5 h hr hB hN1 ho
  by_cases e6 : d = 6
  · subst e6; exact does6 h hr hB hN1 ho
  by_cases e7 : d = 7
  · subst e7; exact does7 h hr hB hN1 ho
  simp only [e0, e1, e2, e3, e4, e5, e6, e7, if_false]
  refine (does8 (by omega)).mono ?_
  rintro e w' ⟨rfl, hb⟩
  exact ⟨rfl, fs, R, (h.fresh hb).up_N (by omega), hr, hb.mono hB, ⟨Only.fresh hb _, fun _ hi => .inl hi, fun _ hi => .inl hi, fun _ hi => .inl hi, fun _ hi => .inl hi⟩⟩

/-- A list of operations, as it is handed in. -/
structure Ops (W : World) (B : Nat) (v : Value) (os : List OpV) : Prop where
  form : ∃ p cap, v = .slice p os.length cap ∧ os.length ≤ cap ∧ cap ≤ 9223372036854775807 ∧ ∀ i, i < os.length → ∃ g o, p = some ⟨g, o, none⟩ ∧ g < B ∧ ∀ j, j < 6 → W.cell? ⟨g, o + i * 6 + j, none⟩ = (os[i]!).cells[j]?
  ok : ∀ o ∈ os, o.ok W B
theorem Ops.below {W W' : World} {B : Nat} {v : Value} {os : List OpV} (h : Ops W B v os) (hb : Below B W W') : Ops W' B v os := by
  obtain ⟨p, cap, he, h1, h2, h3⟩ := h.form
  refine ⟨⟨p, cap, he, h1, h2, fun i hi => ?_⟩, fun o ho => (h.ok o ho).below hb⟩
  obtain ⟨g, o, hp, hg, hc⟩ := h3 i hi
  refine ⟨g, o, hp, hg, fun j hj => ?_⟩
  rw [World.cell?_of_block (hb.block g hg)]
  exact hc j hj

/-- What is built of operations: all but crashes and starts. -/
def OpV.builds (o : OpV) : Bool := !(o.d == 6) && !(o.d == 7)
def buildC (r : RC) (os : List OpV) : RC := os.foldl (fun r o => if o.builds then o.step r else r) r
theorem buildC_snoc (r : RC) (os : List OpV) (o : OpV) : buildC r (os ++ [o]) = if o.builds then o.step (buildC r os) else buildC r os := by simp [buildC]

theorem two_new {W w1 w2 : World} {sb mb room : Nat} {B : Nat} (hB : B ≤ W.heap.size) (h1 : SRep w1 sb mb [] (room : Int) 0 0 true) (hs : W.heap.size ≤ sb) (hm : W.heap.size ≤ mb) (hr : room ≤ 4194304) (h2 : RRep w2 w1.heap.size ⟨[], [], room, false, .slice none 0 0, .slice none 0 0⟩) (hb2 : Below w1.heap.size w1 w2) (hb1 : Below W.heap.size W w1) :
    Two w2 sb mb w1.heap.size [] ⟨[], [], room, false⟩ ⟨[], [], room, false, .slice none 0 0, .slice none 0 0⟩ 0 B := by
  have hlt : ∀ i, own sb mb ([] : List MF) i → i < w1.heap.size := fun i hi => h1.own_lt hi
  refine ⟨⟨[], room, 0, 0, h1.fresh hb2, ?_⟩, h2, fun i hi => ⟨?_, ?_⟩, ?_, ?_, ?_, ?_⟩
  · refine { P := rfl, ws := by simp, link := by simp, rise := by simp, last := by simp, names := rfl, cov := trivial, con := by simp, pend := rfl, room := by simp [lens], left0 := by omega, most := hr, files := by simp, nm := by simp, sorted := by simp, fbs := by simp, lu8 := by simp, pu8 := by simp, down := by simp, turn := Nat.le_refl _, len := by simp }
  · have := hlt i hi
    rintro (e | e | e)
    · omega
    · simp [Value.ownBlock] at e
    · simp [Value.ownBlock] at e
  · rintro (⟨f, hf, _⟩ | ⟨f, hf, _⟩) <;> simp at hf
  · rintro i ⟨f, hf, _⟩; simp at hf
  · rintro i (e | e | ⟨f, hf, _⟩)
    · omega
    · omega
    · simp at hf
  · have := hb1.size
    rintro i (e | e | e)
    · omega
    · simp [Value.ownBlock] at e
    · simp [Value.ownBlock] at e
  · rintro i ⟨f, hf, _⟩; simp at hf

set_option maxRecDepth 100000 in
set_option maxHeartbeats 4000000 in
theorem built_any {W : World} {B room : Nat} {v : Value} {os : List OpV} (h : Ops W B v os) (hB : B ≤ W.heap.size) (hroom : room ≤ 4194304) (hl : os.length < 2199023255552) :
    Calls Tryz.prog 15 #[.int .i64 room, v] W fun e w' => ∃ sb mb rb fs R, e = .returned (.tuple #[.pointer (some ⟨sb, 0, none⟩), .pointer (some ⟨rb, 0, none⟩)]) ∧ Two w' sb mb rb fs (buildC ⟨[], [], room, false⟩ os) R os.length W.heap.size ∧ R.core = buildC ⟨[], [], room, false⟩ os ∧ Below W.heap.size W w' := by
  obtain ⟨p, cap, rfl, h1, h2, _⟩ := id h.form
  have HN1 := hide (new_ok (W := W) (room := (room : Int)) (by omega) (by omega))
  have H := hide h
  clear h
  go_enter Tryz.func15, Tryz.ntmps15
  go_wp2_with fail
  refine HN1.out.mono ?_
  rintro _ w1 ⟨sb, mb, rfl, s1, hs, hm, b1⟩
  have HR1 := hide (rnew_ok (W := w1) hroom)
  have HS1 := hide s1
  have HB1 := hide b1
  clear s1 b1
  go_wp2_with fail
  refine HR1.out.mono ?_
  rintro _ w2 ⟨rfl, r2, b2⟩
  have HT : Hid (Two w2 sb mb w1.heap.size [] ⟨[], [], room, false⟩ ⟨[], [], room, false, .slice none 0 0, .slice none 0 0⟩ 0 W.heap.size) := hide (two_new (Nat.le_refl _) HS1.out hs hm hroom r2 b2 HB1.out)
  have HB2 : Hid (Below W.heap.size W w2) := hide (HB1.out.trans (b2.mono HB1.out.size))
  clear r2 b2 HR1 HS1 HN1
  obtain ⟨rb, hrb⟩ : ∃ rb, w1.heap.size = rb := ⟨_, rfl⟩
  rw [hrb] at HT ⊢
  clear hrb HB1 hs hm
  go_wp2_with fail
  go_loopw [34] (fun i wr => ∃ (k : Nat) (fs : List MF) (R : RS), k ≤ os.length ∧ i = .int .i64 (k : Int) ∧ Hid (Two wr sb mb rb fs (buildC ⟨[], [], room, false⟩ (os.take k)) R k W.heap.size) ∧ Hid (R.core = buildC ⟨[], [], room, false⟩ (os.take k)) ∧ Hid (Below W.heap.size W wr)) (fun i _ => os.length - (intOf i).toNat)
  case atStart => exact ⟨0, [], _, Nat.zero_le _, rfl, HT, hide rfl, HB2⟩
  case round =>
    obtain ⟨k, fs, R, hk, rfl, HTw, HC, HB⟩ := hrel
    by_cases hlt : k < os.length
    · obtain ⟨q, qc, he, _, _, h3⟩ := (H.out.below (HB.out.mono hB)).form
      simp only [Value.slice.injEq, true_and] at he
      obtain ⟨rfl, rfl⟩ := he
      obtain ⟨g, o, rfl, hg, hc⟩ := h3 k hlt
      obtain ⟨x, hx⟩ : ∃ x, os[k]! = x := ⟨_, rfl⟩
      have hxm : x ∈ os := by rw [← hx, getElem!_pos os k hlt]; exact List.getElem_mem _
      have HTK : Hid (os.take (k + 1) = os.take k ++ [x]) := by
        refine hide ?_
        rw [List.take_succ_eq_append_getElem hlt, ← hx, getElem!_pos os k hlt]
      have hok : x.ok wr W.heap.size := ((H.out.ok x hxm).below (HB.out.mono hB)).mono hB
      rw [hx] at hc
      have d0 : wr.cell? ⟨g, o + k * 6, none⟩ = some (.int .i64 x.d) := hc 0 (by omega)
      have d1 : wr.cell? ⟨g, o + k * 6 + 1, none⟩ = some (.string x.s) := hc 1 (by omega)
      have d2 : wr.cell? ⟨g, o + k * 6 + 2, none⟩ = some (.string x.t) := hc 2 (by omega)
      have d3 : wr.cell? ⟨g, o + k * 6 + 3, none⟩ = some (.int .i64 x.k) := hc 3 (by omega)
      have d4 : wr.cell? ⟨g, o + k * 6 + 4, none⟩ = some (.int .i64 x.m) := hc 4 (by omega)
      have d5 : wr.cell? ⟨g, o + k * 6 + 5, none⟩ = some (.slice x.bp x.b.length x.bc) := hc 5 (by omega)
      have hsz := HB.out.size
      obtain ⟨O, hO⟩ : ∃ O : Obj, O = .cells #[.int .i64 x.d, .string x.s, .string x.t, .int .i64 x.k, .int .i64 x.m, .slice x.bp x.b.length x.bc] 33 (0, 0) := ⟨_, rfl⟩
      have HTo := hide (HTw.out.fresh (alloc_below wr O))
      have HBo : Hid (Below W.heap.size W (wr.alloc O)) := hide (HB.out.trans ((alloc_below wr O).mono hsz))
      have HD := hide (does_any HTo.out HC.out HBo.out.size (by omega) (OpOk.below hok ((alloc_below wr O).mono hsz)))
      rw [hO] at HTo HBo HD
      clear hc hx hxm h3 hok hO
      have nb : ∀ {b : Bool}, x.builds = b → (if x.builds then x.step (buildC ⟨[], [], room, false⟩ (os.take k)) else buildC ⟨[], [], room, false⟩ (os.take k)) = buildC ⟨[], [], room, false⟩ (os.take (k + 1)) := fun _ => by rw [HTK.out, buildC_snoc]
      by_cases h6 : x.d = 6
      · have e6 : (x.d != 6) = false := by simp [h6]
        have HBL : Hid (x.builds = false) := hide (by simp [OpV.builds, h6])
        clear h6
        go_wp2
        refine ⟨⟨k + 1, fs, R, by omega, by go_num, ?_, ?_, HBo⟩, by simp [intOf]; omega⟩
        · have := nb HBL.out
          rw [HBL.out] at this
          rw [← this]
          exact hide (HTo.out.up_N (by omega))
        · have := nb HBL.out
          rw [HBL.out] at this
          rw [← this]
          exact HC
      · by_cases h7 : x.d = 7
        · have e6 : (x.d != 6) = true := by simp [h6]
          have e7 : (x.d != 7) = false := by simp [h7]
          have HBL : Hid (x.builds = false) := hide (by simp [OpV.builds, h7])
          clear h6 h7
          go_wp2
          refine ⟨⟨k + 1, fs, R, by omega, by go_num, ?_, ?_, HBo⟩, by simp [intOf]; omega⟩
          · have := nb HBL.out
            rw [HBL.out] at this
            rw [← this]
            exact hide (HTo.out.up_N (by omega))
          · have := nb HBL.out
            rw [HBL.out] at this
            rw [← this]
            exact HC
        · have e6 : (x.d != 6) = true := by simp [h6]
          have e7 : (x.d != 7) = true := by simp [h7]
          have HBL : Hid (x.builds = true) := hide (by simp [OpV.builds, h6, h7])
          clear h6 h7
          go_wp2_with fail
          refine HD.out.mono ?_
          rintro _ w5 ⟨rfl, fs5, R5, t5, c5, b5, _⟩
          have HT5 := hide t5
          have HC5 := hide c5
          have HB5 : Hid (Below W.heap.size W w5) := hide (HBo.out.trans b5)
          clear t5 c5 b5 HD HTo HBo d0 d1 d2 d3 d4 d5
          go_wp2
          refine ⟨⟨k + 1, fs5, R5, by omega, by go_num, ?_, ?_, HB5⟩, by simp [intOf]; omega⟩
          · have := nb HBL.out
            rw [HBL.out] at this
            rw [← this]
            exact HT5
          · have := nb HBL.out
            rw [HBL.out] at this
            rw [← this]
            exact HC5
    · obtain rfl : k = os.length := by omega
      go_wp2
      go_ret2
      rw [List.take_length] at HTw HC
      exact ⟨sb, mb, rb, fs, R, rfl, HTw.out, HC.out, HB.out⟩
end Go.Proofs.YtikpckmlnhcddaaGreat
