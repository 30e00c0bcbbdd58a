/-
  ints and Bytes of the reference. The conditions: that numbers are of their types.
-/
import Derived.Test.YtdngjpbefcbodaaGby
import Derived.Deep.RegionHeld3
import Derived.Deep.Cut
import Derived.Deep.CutBlock
import Derived.BigRegion
import Derived.BigQuiet
import Derived.WalkMore
namespace Go.Proofs.Ytdngjpbefcbodaa
open Go.RowKit

theorem Row.of_lit {k : IntKind} {w : World} {b n : Nat} {e : TypeId} {l : List Int} (hn : l.length = n) (h : w.heap[b]? = some (.cells (l.map (Value.int k)).toArray e (0, 0))) (hm : n ≤ 9223372036854775807) : Row k w (.slice (some ⟨b, 0, none⟩) n n) l := by
  subst hn
  refine ⟨some ⟨b, 0, none⟩, l.length, rfl, Nat.le_refl _, hm, (fun h => by cases h), fun _ => ⟨b, 0, rfl, fun i hi => ?_⟩⟩
  simp only [World.cell?]
  rw [h]
  simp [hi, List.getD]
theorem Row.lit2 {w : World} {a b : Int} {e : TypeId} : Row .i64 (w.alloc (.cells #[.int .i64 a, .int .i64 b] e (0, 0))) (.slice (some ⟨w.heap.size, 0, none⟩) 2 2) [a, b] := Row.of_lit rfl (heap_alloc_new w _) (by decide)
theorem Row.lit3 {w : World} {a b c : Int} {e : TypeId} : Row .i64 (w.alloc (.cells #[.int .i64 a, .int .i64 b, .int .i64 c] e (0, 0))) (.slice (some ⟨w.heap.size, 0, none⟩) 3 3) [a, b, c] := Row.of_lit rfl (heap_alloc_new w _) (by decide)
theorem Row.lit1 {w : World} {a : Int} {e : TypeId} : Row .i64 (w.alloc (.cells #[.int .i64 a] e (0, 0))) (.slice (some ⟨w.heap.size, 0, none⟩) 1 1) [a] := Row.of_lit rfl (heap_alloc_new w _) (by decide)
theorem Row.len {k : IntKind} {w : World} {p : Option Addr} {m c : Nat} {l : List Int} (h : Row k w (.slice p m c) l) : l.length = m ∧ m ≤ c ∧ c ≤ 9223372036854775807 := by
  obtain ⟨p', c', e, h1, h2, _, _⟩ := h
  simp only [Value.slice.injEq] at e
  obtain ⟨_, rfl, rfl⟩ := e
  exact ⟨rfl, h1, h2⟩
theorem Row.form {k : IntKind} {w : World} {v : Value} {l : List Int} (h : Row k w v l) : ∃ p m c, v = .slice p m c ∧ Row k w (.slice p m c) l := by
  obtain ⟨p', c', rfl, _⟩ := id h
  exact ⟨p', _, c', rfl, h⟩

set_option maxRecDepth 100000 in
set_option maxHeartbeats 2000000 in
theorem rints_any {vb vl : Value} {b l : List Int} {w : World} (hb : Row .u8 w vb b) (hl : Row .i64 w vl l) (hi64 : I64 l) (hbig : b.length + 10 * l.length ≤ 140737488350000) :
    Calls Try.prog 18 #[vb, vl] w fun e w' => ∃ p m c, e = .returned (.slice p m c) ∧ Row .u8 w' (.slice p m c) (b ++ forms l) ∧ Below w.heap.size w w' := by
  obtain ⟨p, cap, rfl, g1, g2, g3, g4⟩ := hl
  obtain ⟨pb, m, cb, rfl, hb'⟩ := hb.form
  obtain ⟨N, hN⟩ : ∃ N, l.length = N := ⟨_, rfl⟩
  have HL : Hid (0 < l.length → ∃ b o, p = some ⟨b, o, none⟩ ∧ ∀ i, i < l.length → w.cell? ⟨b, o + i, none⟩ = some (.int .i64 (l.getD i 0))) := g4
  have HI : Hid (I64 l) := hi64
  have HN := hide hN
  have HB := hide hb'
  rw [hN] at g1 hbig ⊢
  have HBG := hide hbig
  clear hb hb' g3 g4 hi64 hN hbig
  go_enter Try.func18, Try.ntmps18
  go_wp2_with fail
  go_loopw [5, 0] (fun i s wr => ∃ (k m : Nat) (p1 : Option Addr) (c1 : Nat), k ≤ N ∧ i = .int .i64 (k : Int) ∧ s = .slice p1 m c1 ∧ Hid (Row .u8 wr (.slice p1 m c1) (b ++ forms (l.take k))) ∧ Hid (Below w.heap.size w wr)) (fun i _ _ => N - (intOf i).toNat)
  case atStart => exact ⟨0, m, pb, cb, Nat.zero_le _, rfl, rfl, by rw [List.take_zero, forms_nil, List.append_nil]; exact HB, hide (Below.refl _ _)⟩
  case round =>
    obtain ⟨k, m, p1, c1, hk, rfl, rfl, HR, HBr⟩ := hrel
    rename World => wr
    obtain ⟨hm, hmc, hcm⟩ := HR.out.len
    have HM := hide hm
    clear hm
    by_cases hlt : k < N
    · have hlt2 : k < l.length := by rw [HN.out]; exact hlt
      obtain ⟨bb, o, rfl, hc⟩ := HL.out (by omega)
      obtain ⟨x, hx⟩ : ∃ x, x = l.getD k 0 := ⟨_, rfl⟩
      have hcx : wr.cell? ⟨bb, o + k, none⟩ = some (.int .i64 x) := by rw [hx]; exact cell_later HBr.out (hc k hlt2)
      obtain ⟨x0, x1⟩ := HI.out.at hlt2
      rw [← hx] at x0 x1
      have HST := hide (forms_step hlt2)
      rw [← hx] at HST
      have f1 := forms_len (l.take k) (HI.out.take k)
      have f2 : (l.take k).length = k := by rw [List.length_take]; omega
      have HO := hide (one_any HR.out x0 x1 (by rw [List.length_append]; have := HBG.out; omega))
      clear hc hx hlt2 f1 f2
      go_wp2_with fail
      refine HO.out.mono ?_
      rintro _ w2 ⟨v2, rfl, O2, B2⟩
      obtain ⟨p2, m2, c2, rfl, R2⟩ := (own_row O2).form
      have HR2 : Hid (Row .u8 w2 (.slice p2 m2 c2) (b ++ forms (l.take (k + 1)))) := by rw [HST.out, ← List.append_assoc]; exact hide R2
      have HB2 := hide (HBr.out.trans (B2.mono HBr.out.size))
      clear O2 B2 R2 HO
      go_wp2
      exact ⟨⟨k + 1, m2, p2, c2, by omega, by first | rfl | go_num, rfl, HR2, HB2⟩, by simp [intOf]; omega⟩
    · obtain rfl : k = N := by omega
      have HRF : Hid (Row .u8 wr (.slice p1 m c1) (b ++ forms l)) := by
        have h := HR.out
        rw [← HN.out, List.take_length] at h
        exact hide h
      clear HR
      go_wp2
      go_ret
      exact ⟨p1, m, c1, rfl, HRF.out, HBr.out⟩

def BND : Nat := 140737488350000
set_option maxRecDepth 100000 in
set_option maxHeartbeats 8000000 in
theorem rbytes_any {W : World} {parts : Int} {p : Option Addr} {cap n : Nat} {os : List OV} (hp : I6 parts) (ho : GRow W p cap os) (hn : os.length = n) (hf : ∀ x ∈ os, x.o.fine) {bs : List Int} {rc : Int} (hr : bytesG parts (os.map OV.o) = (bs, rc)) :
    Calls Try.prog 7 #[.agg #[.int .i64 parts, .slice p n cap]] W fun e w' => ∃ p' c' N, e = .returned (.tuple #[.slice p' N c', .int .i64 rc]) ∧ Row .u8 w' (.slice p' N c') bs ∧ Below W.heap.size W w' := by
  have i3 := ho.le
  have i4 := ho.top
  rw [hn] at i3
  obtain ⟨V, hV⟩ : ∃ V, V = W.alloc (.cells #[.int .i64 parts, .slice p n cap] 24 (0, 0)) := ⟨_, rfl⟩
  have hb0 : Below W.heap.size W V := by rw [hV]; exact alloc_below W _
  have hvr : V.heap[W.heap.size]? = some (.cells #[.int .i64 parts, .slice p n cap] 24 (0, 0)) := by rw [hV]; exact heap_alloc_new W _
  have HO := hide (ho.below hb0)
  have HVB := hide hb0
  have hck := rcheck_any (parts := parts) HO.out
  rw [hn] at hck
  obtain ⟨⟨k1, k2⟩, hkk⟩ : ∃ kk, checkC parts (os.map OV.o) = kk := ⟨_, rfl⟩
  rw [hkk] at hck
  have HCK := hide hck
  have HKK := hide hkk
  have HN := hide hn
  have HF := hide hf
  have HHR := hide hr
  obtain ⟨gB, hgB⟩ : ∃ gB, W.heap.size = gB := ⟨_, rfl⟩
  rw [hgB] at hvr
  have z0 : V.cell? ⟨gB, 0, none⟩ = some (.int .i64 parts) := by simp [World.cell?, hvr]
  have z1 : V.cell? ⟨gB, 1, none⟩ = some (.slice p n cap) := by simp [World.cell?, hvr]
  clear ho hb0 hvr hck hkk hn hf hr
  go_enter Try.func7, Try.ntmps7
  go_wp2_with fail
  rw [← hV]
  try rw [hgB]
  clear hV hgB
  refine HCK.out.mono ?_
  rintro _ w1 ⟨rfl, b1⟩
  have y0 := cell_later b1 z0
  have y1 := cell_later b1 z1
  have HB1 := hide (HVB.out.trans (b1.mono HVB.out.size))
  have HO1 := hide (HO.out.below b1)
  clear b1 z0 z1 HCK HO HVB
  try simp only
  by_cases hk : k2 = 0
  rotate_left
  · have ne2 : (k2 != 0) = true := by simpa using hk
    have hh := HHR.out
    unfold bytesG at hh
    rw [HKK.out] at hh
    simp only at hh
    rw [if_neg hk] at hh
    simp only [Prod.mk.injEq] at hh
    obtain ⟨rfl, rfl⟩ := hh
    clear hk
    go_wp2
    go_ret2
    exact ⟨none, 0, 0, rfl, Row.nil _ _, HB1.out⟩
  subst hk
  have hh := HHR.out
  unfold bytesG at hh
  rw [HKK.out] at hh
  simp only at hh
  rw [if_pos trivial] at hh
  simp only [Prod.mk.injEq] at hh
  obtain ⟨hbs, rfl⟩ := hh
  obtain ⟨h24, h4⟩ := check_small (by rw [HKK.out] : (checkC parts (os.map OV.o)).2 = 0)
  have HM : Hid ((os.map OV.o).length = n) := hide (by rw [List.length_map]; exact HN.out)
  rw [HM.out] at h24
  have HH4 := hide h4
  have HBS := hide hbs
  have HFO : Hid (∀ o ∈ os.map OV.o, o.fine) := hide (fun o ho => by obtain ⟨x, hx, rfl⟩ := List.mem_map.1 ho; exact HF.out x hx)
  have HUL : Hid (∀ k, k ≤ n → (forms (upN parts n (os.map OV.o) k)).length ≤ 10 * (2 + 13 * k)) := hide (fun k hk => by
    have hle := upN_len (parts := parts) (N := n) HH4.out (by rw [HM.out]; exact hk : k ≤ (os.map OV.o).length)
    have hbd : I64 (upN parts n (os.map OV.o) k) := by
      intro x hx
      unfold upN at hx
      unfold I6 at hp
      rcases List.mem_append.1 hx with hx | hx
      · simp only [List.mem_cons, List.not_mem_nil, or_false] at hx
        rcases hx with rfl | rfl <;> omega
      · obtain ⟨o, ho, hx⟩ := List.mem_flatMap.1 hx
        have ho := List.mem_of_mem_take ho
        exact numsO_bd (HFO.out o ho) (HH4.out o ho) x hx
    have := forms_len _ hbd
    omega)
  have hb2 := alloc_below w1 (.cells #[.int .i64 parts, .int .i64 (n : Int)] 3 (0, 0))
  have HRI := hide (rints_any (w := w1.alloc (.cells #[.int .i64 parts, .int .i64 (n : Int)] 3 (0, 0))) (Row.nil .u8 _) Row.lit2 (l := [parts, (n : Int)]) (fun x hx => by unfold I6 at hp; simp only [List.mem_cons, List.not_mem_nil, or_false] at hx; rcases hx with rfl | rfl <;> omega) (by simp))
  have HBV2 := hide hb2
  clear h4 hbs hb2
  go_wp2_with fail
  refine HRI.out.mono ?_
  rintro _ w2 ⟨pa, ma, ca, rfl, R2, B2⟩
  have hB2 : Below w1.heap.size w1 w2 := HBV2.out.trans (B2.mono HBV2.out.size)
  have HR2 : Hid (Row .u8 w2 (.slice pa ma ca) (forms (upN parts n (os.map OV.o) 0))) := hide (by unfold upN; rw [List.take_zero, List.flatMap_nil, List.append_nil]; rw [List.nil_append] at R2; exact R2)
  have HBB2 := hide hB2
  clear R2 B2 hB2 HRI HBV2
  go_wp2_with fail
  go_loopw [7, 6] (fun i s wq => ∃ (k m : Nat) (p1 : Option Addr) (c1 : Nat), k ≤ n ∧ i = .int .i64 (k : Int) ∧ s = .slice p1 m c1 ∧ Hid (Row .u8 wq (.slice p1 m c1) (forms (upN parts n (os.map OV.o) k))) ∧ Hid (Below w1.heap.size w1 wq)) (fun i _ _ => n - (intOf i).toNat)
  case atStart => exact ⟨0, ma, pa, ca, Nat.zero_le _, rfl, rfl, HR2, HBB2⟩
  case round =>
    obtain ⟨k, m, p1, c1, hk, rfl, rfl, HR, HBq⟩ := hrel
    rename World => wq
    clear HR2 HBB2
    have x0 := cell_later HBq.out y0
    have x1 := cell_later HBq.out y1
    obtain ⟨hm, hmc, hcm⟩ := HR.out.len
    have hml : m ≤ 10 * (2 + 13 * k) := by rw [← hm]; exact HUL.out k hk
    have HML := hide hm
    clear hm
    by_cases hlt : k < n
    · have hlt2 : k < os.length := by rw [HN.out]; exact hlt
      have hlt3 : k < (os.map OV.o).length := by rw [HM.out]; exact hlt
      obtain ⟨g, o, rfl, hc⟩ := (HO1.out.below HBq.out).cell k hlt2
      have hxm : os[k]! ∈ os := by rw [getElem!_pos os k hlt2]; exact List.getElem_mem _
      have HMO := hide (getO os hlt2)
      have HXO := hide (HO1.out.ok _ hxm)
      have hil := HH4.out (os[k]!).o (List.mem_map.2 ⟨_, hxm, rfl⟩)
      have hof := HF.out _ hxm
      obtain ⟨x, hx⟩ : ∃ x, os[k]! = x := ⟨_, rfl⟩
      rw [hx] at hc HXO HMO hil hof
      obtain ⟨⟨kd, pt, fn, ar, ins⟩, ip, ic⟩ := x
      obtain ⟨fk, fp, ff, fa, fe⟩ := hof
      simp only at fk fp ff fa fe
      obtain ⟨N2, hN2⟩ : ∃ N2, ins.length = N2 := ⟨_, rfl⟩
      have d0 : wq.cell? ⟨g, o + k * 5, none⟩ = some (.int .i64 kd) := hc 0 (by omega)
      have d1 : wq.cell? ⟨g, o + k * 5 + 1, none⟩ = some (.int .i64 pt) := hc 1 (by omega)
      have d2 : wq.cell? ⟨g, o + k * 5 + 2, none⟩ = some (.int .i64 fn) := hc 2 (by omega)
      have d3 : wq.cell? ⟨g, o + k * 5 + 3, none⟩ = some (.int .i64 ar) := hc 3 (by omega)
      have d4 : wq.cell? ⟨g, o + k * 5 + 4, none⟩ = some (.slice ip N2 ic) := by rw [← hN2]; exact hc 4 (by omega)
      simp only at hil HMO
      rw [hN2] at hil
      have hicl := HXO.out.le
      have hict := HXO.out.top
      simp only at hicl hict
      rw [hN2] at hicl
      have HUN := hide (upN_next (parts := parts) (N := n) hlt3)
      rw [HMO.out] at HUN
      have HN2 := hide hN2
      have HFA := hide fa
      have HFE := hide fe
      have hv1 := alloc_below wq (.cells #[.int .i64 kd, .int .i64 pt, .int .i64 fn, .int .i64 ar, .slice ip N2 ic] 38 (0, 0))
      have hbx : (wq.alloc (.cells #[.int .i64 kd, .int .i64 pt, .int .i64 fn, .int .i64 ar, .slice ip N2 ic] 38 (0, 0))).heap[wq.heap.size]? = some (.cells #[.int .i64 kd, .int .i64 pt, .int .i64 fn, .int .i64 ar, .slice ip N2 ic] 38 (0, 0)) := heap_alloc_new wq _
      obtain ⟨v1, hv1e⟩ : ∃ v1, v1 = wq.alloc (.cells #[.int .i64 kd, .int .i64 pt, .int .i64 fn, .int .i64 ar, .slice ip N2 ic] 38 (0, 0)) := ⟨_, rfl⟩
      rw [← hv1e] at hv1 hbx
      obtain ⟨xb, hxb⟩ : ∃ xb, wq.heap.size = xb := ⟨_, rfl⟩
      rw [hxb] at hbx
      have e0 : v1.cell? ⟨xb, 0, none⟩ = some (.int .i64 kd) := by simp [World.cell?, hbx]
      have e1 : v1.cell? ⟨xb, 1, none⟩ = some (.int .i64 pt) := by simp [World.cell?, hbx]
      have e2 : v1.cell? ⟨xb, 2, none⟩ = some (.int .i64 fn) := by simp [World.cell?, hbx]
      have hv2 := alloc_below v1 (.cells #[.int .i64 kd, .int .i64 pt, .int .i64 fn] 3 (0, 0))
      have hBA : Below w1.heap.size w1 (v1.alloc (.cells #[.int .i64 kd, .int .i64 pt, .int .i64 fn] 3 (0, 0))) := (HBq.out.trans (hv1.mono HBq.out.size)).trans (hv2.mono (Nat.le_trans HBq.out.size hv1.size))
      have hI3 : I64 [kd, pt, fn] := fun x hx => by unfold I6 at fk fp ff; simp only [List.mem_cons, List.not_mem_nil, or_false] at hx; rcases hx with rfl | rfl | rfl <;> omega
      have HI3 := hide hI3
      have HRI := hide (rints_any (w := v1.alloc (.cells #[.int .i64 kd, .int .i64 pt, .int .i64 fn] 3 (0, 0))) ((HR.out.below hv1).below hv2) Row.lit3 (l := [kd, pt, fn]) hI3 (by rw [HML.out]; simp; omega))
      have HBX := hide (below_box hv2 hbx)
      have HBA := hide hBA
      clear hc hx hxm hlt2 hlt3 hN2 hbx hv1 hv2 hBA fk fp ff fa fe HR hI3
      go_upto_region 9 with fail
      rw [← hv1e]
      try rw [hxb]
      clear hv1e hxb
      go_wp2_with fail
      refine HRI.out.mono ?_
      rintro _ w3 ⟨p3, m3, c3, rfl, R3, B3⟩
      have hm3 := R3.len
      have HB3 := hide (HBA.out.trans (B3.mono HBA.out.size))
      have HBX3 := hide (below_box B3 HBX.out)
      have HR3 := hide R3
      have HM3 : Hid (m3 ≤ m + 30) := hide (by
        have h1 := forms_len [kd, pt, fn]
        rw [← hm3.1, List.length_append, HML.out]
        have : (forms [kd, pt, fn]).length ≤ 30 := by
          have := h1 (HI3.out)
          simpa using this
        omega)
      have HI1 : Hid (I64 [(N2 : Int)]) := hide (fun x hx => by simp only [List.mem_cons, List.not_mem_nil, or_false] at hx; subst hx; omega)
      have HEL : Hid (∀ j, j ≤ N2 → (forms ((ins.take j).flatMap numsE)).length ≤ 80) := hide (fun j hj => by
        have h1 : I64 ((ins.take j).flatMap numsE) := by
          intro x hx
          obtain ⟨e, he, hx⟩ := List.mem_flatMap.1 hx
          obtain ⟨h6, h7⟩ := HFE.out e (List.mem_of_mem_take he)
          unfold I6 at h6 h7
          simp only [numsE, List.mem_cons, List.not_mem_nil, or_false] at hx
          rcases hx with rfl | rfl <;> omega
        have h2 := forms_len _ h1
        have h3 : ∀ es : List GE, (es.flatMap numsE).length = 2 * es.length := by
          intro es
          induction es with
          | nil => rfl
          | cons e es ih => rw [List.flatMap_cons, List.length_append, ih]; simp [numsE]; omega
        rw [h3, List.length_take] at h2
        omega)
      have hf1 := (forms_len [(N2 : Int)] HI1.out)
      have hf2 : (form (zz ar)).length ≤ 10 := sz_le10 (zz_lt ar HFA.out.1 HFA.out.2)
      obtain ⟨LST, hLST⟩ : ∃ LST, forms (upN parts n (os.map OV.o) k) ++ forms [kd, pt, fn] ++ form (zz ar) ++ forms [(N2 : Int)] = LST := ⟨_, rfl⟩
      have HLL : Hid (LST.length ≤ m + 50) := hide (by
        have := HM3.out
        have := hm3.1
        rw [← hLST, List.length_append, List.length_append]
        simp only [List.length_cons, List.length_nil] at hf1
        omega)
      have HLE : Hid (∀ j, LST ++ forms ((ins.take j).flatMap numsE) = LST ++ forms ((ins.take j).flatMap numsE)) := hide (fun _ => rfl)
      have HLD : Hid (forms (upN parts n (os.map OV.o) (k + 1)) = LST ++ forms (ins.flatMap numsE)) := hide (by
        rw [HUN.out, forms_append, ← hLST]
        simp only [numsO, HN2.out, forms_append, List.append_assoc]
        simp [forms])
      have HLS := hide hLST
      have hmm := hm3.2
      clear R3 B3 HRI HBX HBA hm3 hf1 hf2 hLST HLE
      go_upto_region 10 with fail
      have B0 : Below w3.heap.size w3 w3.drew := (Below.refl _ w3).drew
      have F3_0 : w3.drew.cell? ⟨xb, 3, none⟩ = some (.int .i64 ar) := cell_later B0 (by simp [World.cell?, HBX3.out])
      have F4_0 : w3.drew.cell? ⟨xb, 4, none⟩ = some (.slice ip N2 ic) := cell_later B0 (by simp [World.cell?, HBX3.out])
      have RB0 := hide (HR3.out.below B0)
      have BC0 := hide B0
      have HB30 : Hid ((forms (upN parts n (os.map OV.o) k) ++ forms [kd, pt, fn]).length = m3) := hide HR3.out.len.1
      clear HR3 B0
      refine wp_region_any (by kernel_rfl) ?_
      try (change wpAny _ _ _ _ _ _ _ (World.drew _))
      refine wpAny_take (i := 0) (v := ?_) rfl (by kernel_rfl) (by kernel_rfl) (by kernel_rfl) (fun _ _ _ h => h) (Or.inl ⟨by rfl, ?_⟩) ?_
      case refine_2 => intro w; go_simp; try with_reducible rfl
      refine wpAny_take (i := 1) (v := ?_) rfl (by kernel_rfl) (by kernel_rfl) (by kernel_rfl) (fun _ _ _ h => h) (Or.inl ⟨by rfl, ?_⟩) ?_
      case refine_2 => intro w; go_simp; try with_reducible rfl
      refine wpAny_take (i := 4) (v := ?_) rfl (by kernel_rfl) (by kernel_rfl) (by kernel_rfl) (fun _ _ _ h => h) (Or.inl ⟨by rfl, ?_⟩) ?_
      case refine_2 => intro w; go_simp; try with_reducible rfl
      refine wpAny_ready (rs := [2, 5]) (by kernel_rfl) (by simp) ?_
      refine AllReady.cons rfl (fun K hK => ?_) ?_
      · go_simp
        refine hK _ _ ?_
        clear hK K
        refine wpAny_ready (rs := [3, 5]) (by kernel_rfl) (by simp) ?_
        refine AllReady.cons rfl (fun K hK => ?_) ?_
        · go_simp
          refine (one_any RB0.out HFA.out.1 HFA.out.2 (by rw [HB30.out]; have := HM3.out; omega)).mono ?_
          rintro _ x1 ⟨vv, rfl, O1, D1⟩
          obtain ⟨q1, n1, s1, rfl, R1⟩ := (own_row O1).form
          have RB1 := hide R1
          have F4_1 := cell_later D1 F4_0
          have BC1 := hide (BC0.out.trans (D1.mono BC0.out.size))
          clear O1 D1
          refine hK _ _ ?_
          clear hK K
          refine wpAny_ready (rs := [5]) (by kernel_rfl) (by simp) ?_
          refine AllReady.cons rfl (fun K hK => ?_) ?_
          rotate_left
          · exact AllReady.nil
          go_simp
          refine hK _ _ ?_
          clear hK K
          refine wpAny_take (i := 6) (v := ?_) rfl (by kernel_rfl) (by kernel_rfl) (by kernel_rfl) (fun _ _ _ h => h) (Or.inl ⟨by rfl, ?_⟩) ?_
          case refine_2 => intro w; go_simp; try with_reducible rfl
          refine wpAny_ready (rs := [7]) (by kernel_rfl) (by simp) ?_
          refine AllReady.cons rfl (fun K hK => ?_) ?_
          rotate_left
          · exact AllReady.nil
          go_simp
          have ab := alloc_below x1 (.cells #[.int .i64 (N2 : Int)] 3 (0, 0))
          have RB2 := hide (RB1.out.below ab)
          have BC2 := hide (BC1.out.trans (ab.mono BC1.out.size))
          have RL2 := hide (Row.lit1 (w := x1) (a := (N2 : Int)) (e := 3))
          have F4_2 := cell_later ab F4_1
          clear ab
          refine hK _ _ ?_
          clear hK K
          refine wpAny_ready (rs := [8]) (by kernel_rfl) (by simp) ?_
          refine AllReady.cons rfl (fun K hK => ?_) ?_
          rotate_left
          · exact AllReady.nil
          go_simp
          refine (rints_any RB2.out RL2.out HI1.out (by have h9 : (form (zz ar)).length ≤ 10 := sz_le10 (zz_lt ar HFA.out.1 HFA.out.2); rw [List.length_append, HB30.out]; have := HM3.out; simp only [List.length_cons, List.length_nil]; omega)).mono ?_
          rintro _ x2 ⟨q4, n4, s4, rfl, R4, D4⟩
          have HR4 : Hid (Row .u8 x2 (.slice q4 n4 s4) (LST ++ forms ((ins.take 0).flatMap numsE))) := hide (by rw [List.take_zero, List.flatMap_nil, forms_nil, List.append_nil, ← HLS.out]; exact R4)
          have HD4 := hide (BC2.out.trans (D4.mono BC2.out.size))
          clear R4 D4 R1
          refine hK _ _ ?_
          clear hK K
          refine wpAny_ready (rs := [9]) (by kernel_rfl) (by simp) ?_
          refine AllReady.cons rfl (fun K hK => ?_) ?_
          rotate_left
          · exact AllReady.nil
          go_simp
          refine hK _ _ ?_
          clear hK K
          refine wpAny_done (by kernel_rfl) ?_ _
          go_wp2_with fail
          go_loopw [9, 6] (fun i s wi => ∃ (j q : Nat) (p2 : Option Addr) (c2 : Nat), j ≤ N2 ∧ i = .int .i64 (j : Int) ∧ s = .slice p2 q c2 ∧ Hid (Row .u8 wi (.slice p2 q c2) (LST ++ forms ((ins.take j).flatMap numsE))) ∧ Hid (Below w3.heap.size w3 wi)) (fun i _ _ => N2 - (intOf i).toNat)
          case atStart => exact ⟨0, n4, q4, s4, Nat.zero_le _, rfl, rfl, HR4, HD4⟩
          case round =>
            obtain ⟨j, q, p2, c2, hj, rfl, rfl, HRE, HBi⟩ := hrel
            rename World => wi
            clear HR4 HD4
            have hx4 : wi.cell? ⟨xb, 4, none⟩ = some (.slice ip N2 ic) := cell_later HBi.out (by simp [World.cell?, HBX3.out])
            obtain ⟨hq, hqc, hqt⟩ := HRE.out.len
            have hql : q ≤ 4000 := by
              have := HEL.out j hj
              have := HLL.out
              rw [List.length_append] at hq
              omega
            have HQ := hide hq
            clear hq
            by_cases hjt : j < N2
            · have hjt2 : j < ins.length := by rw [HN2.out]; exact hjt
              have hB13 := HB3.out.trans (HBi.out.mono HB3.out.size)
              obtain ⟨ga, oa, hip, c0, c1'⟩ := (HXO.out.below hB13).cell j hjt2
              simp only at hip c0 c1'
              subst hip
              have HIN := hide (insN_next hjt2)
              have hem : ins[j]! ∈ ins := by rw [getElem!_pos ins j hjt2]; exact List.getElem_mem _
              obtain ⟨fef, fep⟩ := HFE.out _ hem
              obtain ⟨⟨ef, ep⟩, hxe⟩ : ∃ x, ins[j]! = x := ⟨_, rfl⟩
              rw [hxe] at c0 c1' HIN fef fep
              simp only at c0 c1' fef fep
              have hIe : I64 [ef, ep] := fun x hx => by unfold I6 at fef fep; simp only [List.mem_cons, List.not_mem_nil, or_false] at hx; rcases hx with rfl | rfl <;> omega
              have HIE := hide hIe
              clear hxe hjt2 hem fef fep hB13 hIe
              go_upto_region 14 with fail
              have B0 : Below wi.heap.size wi wi.drew := (Below.refl _ wi).drew
              have hbl := alloc_below wi.drew (.cells #[.int .i64 ef, .int .i64 ep] 3 (0, 0))
              have HCI := hide (rints_any (w := wi.drew.alloc (.cells #[.int .i64 ef, .int .i64 ep] 3 (0, 0))) ((HRE.out.below B0).below hbl) Row.lit2 HIE.out (by rw [HQ.out]; simp; omega))
              have HBD := hide (HBi.out.trans ((B0.trans (hbl.mono B0.size)).mono HBi.out.size))
              have g0 := cell_later B0 hx4
              have g1 := cell_later B0 c0
              have g2 := cell_later B0 c1'
              have l0 := cell_later hbl g0
              have l1 := cell_later hbl g1
              have l2 := cell_later hbl g2
              clear hbl B0 HRE
              go_region_held3 (fun w' => w'.cell? ⟨xb, 4, none⟩ = some (.slice (some ⟨ga, oa, none⟩) N2 ic) ∧ w'.cell? ⟨ga, oa + j * 2, none⟩ = some (.int .i64 ef) ∧ w'.cell? ⟨ga, oa + j * 2 + 1, none⟩ = some (.int .i64 ep)) (go_keep)
                (first
                  | (go_at_call 18; refine HCI.out.mono ?_; rintro _ x7 ⟨p7, q7, c7, rfl, R7, D7⟩; have m0 := cell_later D7 l0; have m1 := cell_later D7 l1; have m2 := cell_later D7 l2))
              have HR7 : Hid (Row .u8 x7 (.slice p7 q7 c7) (LST ++ forms ((ins.take (j + 1)).flatMap numsE))) := by
                rw [HIN.out, forms_append, ← List.append_assoc]
                exact hide R7
              have HB7 := hide (HBD.out.trans (D7.mono HBD.out.size))
              clear R7 D7 HCI g0 g1 g2 l0 l1 l2 m0 m1 m2
              go_wp2
              exact ⟨⟨j + 1, q7, p7, c7, by omega, by first | rfl | go_num, rfl, HR7, HB7⟩, by simp [intOf]; omega⟩
            · obtain rfl : j = N2 := by omega
              have HR6 : Hid (Row .u8 wi (.slice p2 q c2) (forms (upN parts n (os.map OV.o) (k + 1)))) := by
                have h := HRE.out
                rw [List.take_of_length_le (by rw [HN2.out]; exact Nat.le_refl _)] at h
                rw [HLD.out]
                exact hide h
              have HB6 := hide (HB3.out.trans (HBi.out.mono HB3.out.size))
              clear HRE
              go_wp2
              exact ⟨⟨k + 1, q, p2, c2, by omega, by first | rfl | go_num, rfl, HR6, HB6⟩, by simp [intOf]; omega⟩
        refine AllReady.cons rfl (fun K hK => ?_) ?_
        · go_simp
          refine hK _ _ ?_
          clear hK K
          refine wpAny_take (i := 6) (v := ?_) rfl (by kernel_rfl) (by kernel_rfl) (by kernel_rfl) (fun _ _ _ h => h) (Or.inl ⟨by rfl, ?_⟩) ?_
          case refine_2 => intro w; go_simp; try with_reducible rfl
          refine wpAny_ready (rs := [3, 7]) (by kernel_rfl) (by simp) ?_
          refine AllReady.cons rfl (fun K hK => ?_) ?_
          · go_simp
            refine (one_any RB0.out HFA.out.1 HFA.out.2 (by rw [HB30.out]; have := HM3.out; omega)).mono ?_
            rintro _ x1 ⟨vv, rfl, O1, D1⟩
            obtain ⟨q1, n1, s1, rfl, R1⟩ := (own_row O1).form
            have RB1 := hide R1
            have F4_1 := cell_later D1 F4_0
            have BC1 := hide (BC0.out.trans (D1.mono BC0.out.size))
            clear O1 D1
            refine hK _ _ ?_
            clear hK K
            refine wpAny_ready (rs := [7]) (by kernel_rfl) (by simp) ?_
            refine AllReady.cons rfl (fun K hK => ?_) ?_
            rotate_left
            · exact AllReady.nil
            go_simp
            have ab := alloc_below x1 (.cells #[.int .i64 (N2 : Int)] 3 (0, 0))
            have RB2 := hide (RB1.out.below ab)
            have BC2 := hide (BC1.out.trans (ab.mono BC1.out.size))
            have RL2 := hide (Row.lit1 (w := x1) (a := (N2 : Int)) (e := 3))
            have F4_2 := cell_later ab F4_1
            clear ab
            refine hK _ _ ?_
            clear hK K
            refine wpAny_ready (rs := [8]) (by kernel_rfl) (by simp) ?_
            refine AllReady.cons rfl (fun K hK => ?_) ?_
            rotate_left
            · exact AllReady.nil
            go_simp
            refine (rints_any RB2.out RL2.out HI1.out (by have h9 : (form (zz ar)).length ≤ 10 := sz_le10 (zz_lt ar HFA.out.1 HFA.out.2); rw [List.length_append, HB30.out]; have := HM3.out; simp only [List.length_cons, List.length_nil]; omega)).mono ?_
            rintro _ x2 ⟨q4, n4, s4, rfl, R4, D4⟩
            have HR4 : Hid (Row .u8 x2 (.slice q4 n4 s4) (LST ++ forms ((ins.take 0).flatMap numsE))) := hide (by rw [List.take_zero, List.flatMap_nil, forms_nil, List.append_nil, ← HLS.out]; exact R4)
            have HD4 := hide (BC2.out.trans (D4.mono BC2.out.size))
            clear R4 D4 R1
            refine hK _ _ ?_
            clear hK K
            refine wpAny_ready (rs := [9]) (by kernel_rfl) (by simp) ?_
            refine AllReady.cons rfl (fun K hK => ?_) ?_
            rotate_left
            · exact AllReady.nil
            go_simp
            refine hK _ _ ?_
            clear hK K
            refine wpAny_done (by kernel_rfl) ?_ _
            go_wp2_with fail
            go_loopw [9, 6] (fun i s wi => ∃ (j q : Nat) (p2 : Option Addr) (c2 : Nat), j ≤ N2 ∧ i = .int .i64 (j : Int) ∧ s = .slice p2 q c2 ∧ Hid (Row .u8 wi (.slice p2 q c2) (LST ++ forms ((ins.take j).flatMap numsE))) ∧ Hid (Below w3.heap.size w3 wi)) (fun i _ _ => N2 - (intOf i).toNat)
            case atStart => exact ⟨0, n4, q4, s4, Nat.zero_le _, rfl, rfl, HR4, HD4⟩
            case round =>
              obtain ⟨j, q, p2, c2, hj, rfl, rfl, HRE, HBi⟩ := hrel
              rename World => wi
              clear HR4 HD4
              have hx4 : wi.cell? ⟨xb, 4, none⟩ = some (.slice ip N2 ic) := cell_later HBi.out (by simp [World.cell?, HBX3.out])
              obtain ⟨hq, hqc, hqt⟩ := HRE.out.len
              have hql : q ≤ 4000 := by
                have := HEL.out j hj
                have := HLL.out
                rw [List.length_append] at hq
                omega
              have HQ := hide hq
              clear hq
              by_cases hjt : j < N2
              · have hjt2 : j < ins.length := by rw [HN2.out]; exact hjt
                have hB13 := HB3.out.trans (HBi.out.mono HB3.out.size)
                obtain ⟨ga, oa, hip, c0, c1'⟩ := (HXO.out.below hB13).cell j hjt2
                simp only at hip c0 c1'
                subst hip
                have HIN := hide (insN_next hjt2)
                have hem : ins[j]! ∈ ins := by rw [getElem!_pos ins j hjt2]; exact List.getElem_mem _
                obtain ⟨fef, fep⟩ := HFE.out _ hem
                obtain ⟨⟨ef, ep⟩, hxe⟩ : ∃ x, ins[j]! = x := ⟨_, rfl⟩
                rw [hxe] at c0 c1' HIN fef fep
                simp only at c0 c1' fef fep
                have hIe : I64 [ef, ep] := fun x hx => by unfold I6 at fef fep; simp only [List.mem_cons, List.not_mem_nil, or_false] at hx; rcases hx with rfl | rfl <;> omega
                have HIE := hide hIe
                clear hxe hjt2 hem fef fep hB13 hIe
                go_upto_region 14 with fail
                have B0 : Below wi.heap.size wi wi.drew := (Below.refl _ wi).drew
                have hbl := alloc_below wi.drew (.cells #[.int .i64 ef, .int .i64 ep] 3 (0, 0))
                have HCI := hide (rints_any (w := wi.drew.alloc (.cells #[.int .i64 ef, .int .i64 ep] 3 (0, 0))) ((HRE.out.below B0).below hbl) Row.lit2 HIE.out (by rw [HQ.out]; simp; omega))
                have HBD := hide (HBi.out.trans ((B0.trans (hbl.mono B0.size)).mono HBi.out.size))
                have g0 := cell_later B0 hx4
                have g1 := cell_later B0 c0
                have g2 := cell_later B0 c1'
                have l0 := cell_later hbl g0
                have l1 := cell_later hbl g1
                have l2 := cell_later hbl g2
                clear hbl B0 HRE
                go_region_held3 (fun w' => w'.cell? ⟨xb, 4, none⟩ = some (.slice (some ⟨ga, oa, none⟩) N2 ic) ∧ w'.cell? ⟨ga, oa + j * 2, none⟩ = some (.int .i64 ef) ∧ w'.cell? ⟨ga, oa + j * 2 + 1, none⟩ = some (.int .i64 ep)) (go_keep)
                  (first
                    | (go_at_call 18; refine HCI.out.mono ?_; rintro _ x7 ⟨p7, q7, c7, rfl, R7, D7⟩; have m0 := cell_later D7 l0; have m1 := cell_later D7 l1; have m2 := cell_later D7 l2))
                have HR7 : Hid (Row .u8 x7 (.slice p7 q7 c7) (LST ++ forms ((ins.take (j + 1)).flatMap numsE))) := by
                  rw [HIN.out, forms_append, ← List.append_assoc]
                  exact hide R7
                have HB7 := hide (HBD.out.trans (D7.mono HBD.out.size))
                clear R7 D7 HCI g0 g1 g2 l0 l1 l2 m0 m1 m2
                go_wp2
                exact ⟨⟨j + 1, q7, p7, c7, by omega, by first | rfl | go_num, rfl, HR7, HB7⟩, by simp [intOf]; omega⟩
              · obtain rfl : j = N2 := by omega
                have HR6 : Hid (Row .u8 wi (.slice p2 q c2) (forms (upN parts n (os.map OV.o) (k + 1)))) := by
                  have h := HRE.out
                  rw [List.take_of_length_le (by rw [HN2.out]; exact Nat.le_refl _)] at h
                  rw [HLD.out]
                  exact hide h
                have HB6 := hide (HB3.out.trans (HBi.out.mono HB3.out.size))
                clear HRE
                go_wp2
                exact ⟨⟨k + 1, q, p2, c2, by omega, by first | rfl | go_num, rfl, HR6, HB6⟩, by simp [intOf]; omega⟩
          refine AllReady.cons rfl (fun K hK => ?_) ?_
          · go_simp
            have ab : Below w3.drew.heap.size w3.drew (w3.alloc (.cells #[.int .i64 (N2 : Int)] 3 (0, 0))).drew := alloc_below w3.drew (.cells #[.int .i64 (N2 : Int)] 3 (0, 0))
            have RB1 := hide (RB0.out.below ab)
            have BC1 := hide (BC0.out.trans (ab.mono BC0.out.size))
            have RL1 : Hid (Row .i64 (w3.alloc (.cells #[.int .i64 (N2 : Int)] 3 (0, 0))).drew (.slice (some ⟨w3.heap.size, 0, none⟩) 1 1) [(N2 : Int)]) := hide (Row.lit1 (w := w3.drew) (a := (N2 : Int)) (e := 3))
            have F4_1 := cell_later ab F4_0
            have F3_1 := cell_later ab F3_0
            clear ab
            refine hK _ _ ?_
            clear hK K
            refine wpAny_ready (rs := [3]) (by kernel_rfl) (by simp) ?_
            refine AllReady.cons rfl (fun K hK => ?_) ?_
            rotate_left
            · exact AllReady.nil
            go_simp
            refine (one_any RB1.out HFA.out.1 HFA.out.2 (by rw [HB30.out]; have := HM3.out; omega)).mono ?_
            rintro _ x1 ⟨vv, rfl, O1, D1⟩
            obtain ⟨q1, n1, s1, rfl, R1⟩ := (own_row O1).form
            have RB2 := hide R1
            have F4_2 := cell_later D1 F4_1
            have BC2 := hide (BC1.out.trans (D1.mono BC1.out.size))
            have RL2 := hide (RL1.out.below D1)
            clear O1 D1
            refine hK _ _ ?_
            clear hK K
            refine wpAny_ready (rs := [8]) (by kernel_rfl) (by simp) ?_
            refine AllReady.cons rfl (fun K hK => ?_) ?_
            rotate_left
            · exact AllReady.nil
            go_simp
            refine (rints_any RB2.out RL2.out HI1.out (by have h9 : (form (zz ar)).length ≤ 10 := sz_le10 (zz_lt ar HFA.out.1 HFA.out.2); rw [List.length_append, HB30.out]; have := HM3.out; simp only [List.length_cons, List.length_nil]; omega)).mono ?_
            rintro _ x2 ⟨q4, n4, s4, rfl, R4, D4⟩
            have HR4 : Hid (Row .u8 x2 (.slice q4 n4 s4) (LST ++ forms ((ins.take 0).flatMap numsE))) := hide (by rw [List.take_zero, List.flatMap_nil, forms_nil, List.append_nil, ← HLS.out]; exact R4)
            have HD4 := hide (BC2.out.trans (D4.mono BC2.out.size))
            clear R4 D4 R1
            refine hK _ _ ?_
            clear hK K
            refine wpAny_ready (rs := [9]) (by kernel_rfl) (by simp) ?_
            refine AllReady.cons rfl (fun K hK => ?_) ?_
            rotate_left
            · exact AllReady.nil
            go_simp
            refine hK _ _ ?_
            clear hK K
            refine wpAny_done (by kernel_rfl) ?_ _
            go_wp2_with fail
            go_loopw [9, 6] (fun i s wi => ∃ (j q : Nat) (p2 : Option Addr) (c2 : Nat), j ≤ N2 ∧ i = .int .i64 (j : Int) ∧ s = .slice p2 q c2 ∧ Hid (Row .u8 wi (.slice p2 q c2) (LST ++ forms ((ins.take j).flatMap numsE))) ∧ Hid (Below w3.heap.size w3 wi)) (fun i _ _ => N2 - (intOf i).toNat)
            case atStart => exact ⟨0, n4, q4, s4, Nat.zero_le _, rfl, rfl, HR4, HD4⟩
            case round =>
              obtain ⟨j, q, p2, c2, hj, rfl, rfl, HRE, HBi⟩ := hrel
              rename World => wi
              clear HR4 HD4
              have hx4 : wi.cell? ⟨xb, 4, none⟩ = some (.slice ip N2 ic) := cell_later HBi.out (by simp [World.cell?, HBX3.out])
              obtain ⟨hq, hqc, hqt⟩ := HRE.out.len
              have hql : q ≤ 4000 := by
                have := HEL.out j hj
                have := HLL.out
                rw [List.length_append] at hq
                omega
              have HQ := hide hq
              clear hq
              by_cases hjt : j < N2
              · have hjt2 : j < ins.length := by rw [HN2.out]; exact hjt
                have hB13 := HB3.out.trans (HBi.out.mono HB3.out.size)
                obtain ⟨ga, oa, hip, c0, c1'⟩ := (HXO.out.below hB13).cell j hjt2
                simp only at hip c0 c1'
                subst hip
                have HIN := hide (insN_next hjt2)
                have hem : ins[j]! ∈ ins := by rw [getElem!_pos ins j hjt2]; exact List.getElem_mem _
                obtain ⟨fef, fep⟩ := HFE.out _ hem
                obtain ⟨⟨ef, ep⟩, hxe⟩ : ∃ x, ins[j]! = x := ⟨_, rfl⟩
                rw [hxe] at c0 c1' HIN fef fep
                simp only at c0 c1' fef fep
                have hIe : I64 [ef, ep] := fun x hx => by unfold I6 at fef fep; simp only [List.mem_cons, List.not_mem_nil, or_false] at hx; rcases hx with rfl | rfl <;> omega
                have HIE := hide hIe
                clear hxe hjt2 hem fef fep hB13 hIe
                go_upto_region 14 with fail
                have B0 : Below wi.heap.size wi wi.drew := (Below.refl _ wi).drew
                have hbl := alloc_below wi.drew (.cells #[.int .i64 ef, .int .i64 ep] 3 (0, 0))
                have HCI := hide (rints_any (w := wi.drew.alloc (.cells #[.int .i64 ef, .int .i64 ep] 3 (0, 0))) ((HRE.out.below B0).below hbl) Row.lit2 HIE.out (by rw [HQ.out]; simp; omega))
                have HBD := hide (HBi.out.trans ((B0.trans (hbl.mono B0.size)).mono HBi.out.size))
                have g0 := cell_later B0 hx4
                have g1 := cell_later B0 c0
                have g2 := cell_later B0 c1'
                have l0 := cell_later hbl g0
                have l1 := cell_later hbl g1
                have l2 := cell_later hbl g2
                clear hbl B0 HRE
                go_region_held3 (fun w' => w'.cell? ⟨xb, 4, none⟩ = some (.slice (some ⟨ga, oa, none⟩) N2 ic) ∧ w'.cell? ⟨ga, oa + j * 2, none⟩ = some (.int .i64 ef) ∧ w'.cell? ⟨ga, oa + j * 2 + 1, none⟩ = some (.int .i64 ep)) (go_keep)
                  (first
                    | (go_at_call 18; refine HCI.out.mono ?_; rintro _ x7 ⟨p7, q7, c7, rfl, R7, D7⟩; have m0 := cell_later D7 l0; have m1 := cell_later D7 l1; have m2 := cell_later D7 l2))
                have HR7 : Hid (Row .u8 x7 (.slice p7 q7 c7) (LST ++ forms ((ins.take (j + 1)).flatMap numsE))) := by
                  rw [HIN.out, forms_append, ← List.append_assoc]
                  exact hide R7
                have HB7 := hide (HBD.out.trans (D7.mono HBD.out.size))
                clear R7 D7 HCI g0 g1 g2 l0 l1 l2 m0 m1 m2
                go_wp2
                exact ⟨⟨j + 1, q7, p7, c7, by omega, by first | rfl | go_num, rfl, HR7, HB7⟩, by simp [intOf]; omega⟩
              · obtain rfl : j = N2 := by omega
                have HR6 : Hid (Row .u8 wi (.slice p2 q c2) (forms (upN parts n (os.map OV.o) (k + 1)))) := by
                  have h := HRE.out
                  rw [List.take_of_length_le (by rw [HN2.out]; exact Nat.le_refl _)] at h
                  rw [HLD.out]
                  exact hide h
                have HB6 := hide (HB3.out.trans (HBi.out.mono HB3.out.size))
                clear HRE
                go_wp2
                exact ⟨⟨k + 1, q, p2, c2, by omega, by first | rfl | go_num, rfl, HR6, HB6⟩, by simp [intOf]; omega⟩
          exact AllReady.nil
        exact AllReady.nil
      refine AllReady.cons rfl (fun K hK => ?_) ?_
      · go_simp
        refine hK _ _ ?_
        clear hK K
        refine wpAny_take (i := 6) (v := ?_) rfl (by kernel_rfl) (by kernel_rfl) (by kernel_rfl) (fun _ _ _ h => h) (Or.inl ⟨by rfl, ?_⟩) ?_
        case refine_2 => intro w; go_simp; try with_reducible rfl
        refine wpAny_ready (rs := [2, 7]) (by kernel_rfl) (by simp) ?_
        refine AllReady.cons rfl (fun K hK => ?_) ?_
        · go_simp
          refine hK _ _ ?_
          clear hK K
          refine wpAny_ready (rs := [3, 7]) (by kernel_rfl) (by simp) ?_
          refine AllReady.cons rfl (fun K hK => ?_) ?_
          · go_simp
            refine (one_any RB0.out HFA.out.1 HFA.out.2 (by rw [HB30.out]; have := HM3.out; omega)).mono ?_
            rintro _ x1 ⟨vv, rfl, O1, D1⟩
            obtain ⟨q1, n1, s1, rfl, R1⟩ := (own_row O1).form
            have RB1 := hide R1
            have F4_1 := cell_later D1 F4_0
            have BC1 := hide (BC0.out.trans (D1.mono BC0.out.size))
            clear O1 D1
            refine hK _ _ ?_
            clear hK K
            refine wpAny_ready (rs := [7]) (by kernel_rfl) (by simp) ?_
            refine AllReady.cons rfl (fun K hK => ?_) ?_
            rotate_left
            · exact AllReady.nil
            go_simp
            have ab := alloc_below x1 (.cells #[.int .i64 (N2 : Int)] 3 (0, 0))
            have RB2 := hide (RB1.out.below ab)
            have BC2 := hide (BC1.out.trans (ab.mono BC1.out.size))
            have RL2 := hide (Row.lit1 (w := x1) (a := (N2 : Int)) (e := 3))
            have F4_2 := cell_later ab F4_1
            clear ab
            refine hK _ _ ?_
            clear hK K
            refine wpAny_ready (rs := [8]) (by kernel_rfl) (by simp) ?_
            refine AllReady.cons rfl (fun K hK => ?_) ?_
            rotate_left
            · exact AllReady.nil
            go_simp
            refine (rints_any RB2.out RL2.out HI1.out (by have h9 : (form (zz ar)).length ≤ 10 := sz_le10 (zz_lt ar HFA.out.1 HFA.out.2); rw [List.length_append, HB30.out]; have := HM3.out; simp only [List.length_cons, List.length_nil]; omega)).mono ?_
            rintro _ x2 ⟨q4, n4, s4, rfl, R4, D4⟩
            have HR4 : Hid (Row .u8 x2 (.slice q4 n4 s4) (LST ++ forms ((ins.take 0).flatMap numsE))) := hide (by rw [List.take_zero, List.flatMap_nil, forms_nil, List.append_nil, ← HLS.out]; exact R4)
            have HD4 := hide (BC2.out.trans (D4.mono BC2.out.size))
            clear R4 D4 R1
            refine hK _ _ ?_
            clear hK K
            refine wpAny_ready (rs := [9]) (by kernel_rfl) (by simp) ?_
            refine AllReady.cons rfl (fun K hK => ?_) ?_
            rotate_left
            · exact AllReady.nil
            go_simp
            refine hK _ _ ?_
            clear hK K
            refine wpAny_done (by kernel_rfl) ?_ _
            go_wp2_with fail
            go_loopw [9, 6] (fun i s wi => ∃ (j q : Nat) (p2 : Option Addr) (c2 : Nat), j ≤ N2 ∧ i = .int .i64 (j : Int) ∧ s = .slice p2 q c2 ∧ Hid (Row .u8 wi (.slice p2 q c2) (LST ++ forms ((ins.take j).flatMap numsE))) ∧ Hid (Below w3.heap.size w3 wi)) (fun i _ _ => N2 - (intOf i).toNat)
            case atStart => exact ⟨0, n4, q4, s4, Nat.zero_le _, rfl, rfl, HR4, HD4⟩
            case round =>
              obtain ⟨j, q, p2, c2, hj, rfl, rfl, HRE, HBi⟩ := hrel
              rename World => wi
              clear HR4 HD4
              have hx4 : wi.cell? ⟨xb, 4, none⟩ = some (.slice ip N2 ic) := cell_later HBi.out (by simp [World.cell?, HBX3.out])
              obtain ⟨hq, hqc, hqt⟩ := HRE.out.len
              have hql : q ≤ 4000 := by
                have := HEL.out j hj
                have := HLL.out
                rw [List.length_append] at hq
                omega
              have HQ := hide hq
              clear hq
              by_cases hjt : j < N2
              · have hjt2 : j < ins.length := by rw [HN2.out]; exact hjt
                have hB13 := HB3.out.trans (HBi.out.mono HB3.out.size)
                obtain ⟨ga, oa, hip, c0, c1'⟩ := (HXO.out.below hB13).cell j hjt2
                simp only at hip c0 c1'
                subst hip
                have HIN := hide (insN_next hjt2)
                have hem : ins[j]! ∈ ins := by rw [getElem!_pos ins j hjt2]; exact List.getElem_mem _
                obtain ⟨fef, fep⟩ := HFE.out _ hem
                obtain ⟨⟨ef, ep⟩, hxe⟩ : ∃ x, ins[j]! = x := ⟨_, rfl⟩
                rw [hxe] at c0 c1' HIN fef fep
                simp only at c0 c1' fef fep
                have hIe : I64 [ef, ep] := fun x hx => by unfold I6 at fef fep; simp only [List.mem_cons, List.not_mem_nil, or_false] at hx; rcases hx with rfl | rfl <;> omega
                have HIE := hide hIe
                clear hxe hjt2 hem fef fep hB13 hIe
                go_upto_region 14 with fail
                have B0 : Below wi.heap.size wi wi.drew := (Below.refl _ wi).drew
                have hbl := alloc_below wi.drew (.cells #[.int .i64 ef, .int .i64 ep] 3 (0, 0))
                have HCI := hide (rints_any (w := wi.drew.alloc (.cells #[.int .i64 ef, .int .i64 ep] 3 (0, 0))) ((HRE.out.below B0).below hbl) Row.lit2 HIE.out (by rw [HQ.out]; simp; omega))
                have HBD := hide (HBi.out.trans ((B0.trans (hbl.mono B0.size)).mono HBi.out.size))
                have g0 := cell_later B0 hx4
                have g1 := cell_later B0 c0
                have g2 := cell_later B0 c1'
                have l0 := cell_later hbl g0
                have l1 := cell_later hbl g1
                have l2 := cell_later hbl g2
                clear hbl B0 HRE
                go_region_held3 (fun w' => w'.cell? ⟨xb, 4, none⟩ = some (.slice (some ⟨ga, oa, none⟩) N2 ic) ∧ w'.cell? ⟨ga, oa + j * 2, none⟩ = some (.int .i64 ef) ∧ w'.cell? ⟨ga, oa + j * 2 + 1, none⟩ = some (.int .i64 ep)) (go_keep)
                  (first
                    | (go_at_call 18; refine HCI.out.mono ?_; rintro _ x7 ⟨p7, q7, c7, rfl, R7, D7⟩; have m0 := cell_later D7 l0; have m1 := cell_later D7 l1; have m2 := cell_later D7 l2))
                have HR7 : Hid (Row .u8 x7 (.slice p7 q7 c7) (LST ++ forms ((ins.take (j + 1)).flatMap numsE))) := by
                  rw [HIN.out, forms_append, ← List.append_assoc]
                  exact hide R7
                have HB7 := hide (HBD.out.trans (D7.mono HBD.out.size))
                clear R7 D7 HCI g0 g1 g2 l0 l1 l2 m0 m1 m2
                go_wp2
                exact ⟨⟨j + 1, q7, p7, c7, by omega, by first | rfl | go_num, rfl, HR7, HB7⟩, by simp [intOf]; omega⟩
              · obtain rfl : j = N2 := by omega
                have HR6 : Hid (Row .u8 wi (.slice p2 q c2) (forms (upN parts n (os.map OV.o) (k + 1)))) := by
                  have h := HRE.out
                  rw [List.take_of_length_le (by rw [HN2.out]; exact Nat.le_refl _)] at h
                  rw [HLD.out]
                  exact hide h
                have HB6 := hide (HB3.out.trans (HBi.out.mono HB3.out.size))
                clear HRE
                go_wp2
                exact ⟨⟨k + 1, q, p2, c2, by omega, by first | rfl | go_num, rfl, HR6, HB6⟩, by simp [intOf]; omega⟩
          refine AllReady.cons rfl (fun K hK => ?_) ?_
          · go_simp
            have ab : Below w3.drew.heap.size w3.drew (w3.alloc (.cells #[.int .i64 (N2 : Int)] 3 (0, 0))).drew := alloc_below w3.drew (.cells #[.int .i64 (N2 : Int)] 3 (0, 0))
            have RB1 := hide (RB0.out.below ab)
            have BC1 := hide (BC0.out.trans (ab.mono BC0.out.size))
            have RL1 : Hid (Row .i64 (w3.alloc (.cells #[.int .i64 (N2 : Int)] 3 (0, 0))).drew (.slice (some ⟨w3.heap.size, 0, none⟩) 1 1) [(N2 : Int)]) := hide (Row.lit1 (w := w3.drew) (a := (N2 : Int)) (e := 3))
            have F4_1 := cell_later ab F4_0
            have F3_1 := cell_later ab F3_0
            clear ab
            refine hK _ _ ?_
            clear hK K
            refine wpAny_ready (rs := [3]) (by kernel_rfl) (by simp) ?_
            refine AllReady.cons rfl (fun K hK => ?_) ?_
            rotate_left
            · exact AllReady.nil
            go_simp
            refine (one_any RB1.out HFA.out.1 HFA.out.2 (by rw [HB30.out]; have := HM3.out; omega)).mono ?_
            rintro _ x1 ⟨vv, rfl, O1, D1⟩
            obtain ⟨q1, n1, s1, rfl, R1⟩ := (own_row O1).form
            have RB2 := hide R1
            have F4_2 := cell_later D1 F4_1
            have BC2 := hide (BC1.out.trans (D1.mono BC1.out.size))
            have RL2 := hide (RL1.out.below D1)
            clear O1 D1
            refine hK _ _ ?_
            clear hK K
            refine wpAny_ready (rs := [8]) (by kernel_rfl) (by simp) ?_
            refine AllReady.cons rfl (fun K hK => ?_) ?_
            rotate_left
            · exact AllReady.nil
            go_simp
            refine (rints_any RB2.out RL2.out HI1.out (by have h9 : (form (zz ar)).length ≤ 10 := sz_le10 (zz_lt ar HFA.out.1 HFA.out.2); rw [List.length_append, HB30.out]; have := HM3.out; simp only [List.length_cons, List.length_nil]; omega)).mono ?_
            rintro _ x2 ⟨q4, n4, s4, rfl, R4, D4⟩
            have HR4 : Hid (Row .u8 x2 (.slice q4 n4 s4) (LST ++ forms ((ins.take 0).flatMap numsE))) := hide (by rw [List.take_zero, List.flatMap_nil, forms_nil, List.append_nil, ← HLS.out]; exact R4)
            have HD4 := hide (BC2.out.trans (D4.mono BC2.out.size))
            clear R4 D4 R1
            refine hK _ _ ?_
            clear hK K
            refine wpAny_ready (rs := [9]) (by kernel_rfl) (by simp) ?_
            refine AllReady.cons rfl (fun K hK => ?_) ?_
            rotate_left
            · exact AllReady.nil
            go_simp
            refine hK _ _ ?_
            clear hK K
            refine wpAny_done (by kernel_rfl) ?_ _
            go_wp2_with fail
            go_loopw [9, 6] (fun i s wi => ∃ (j q : Nat) (p2 : Option Addr) (c2 : Nat), j ≤ N2 ∧ i = .int .i64 (j : Int) ∧ s = .slice p2 q c2 ∧ Hid (Row .u8 wi (.slice p2 q c2) (LST ++ forms ((ins.take j).flatMap numsE))) ∧ Hid (Below w3.heap.size w3 wi)) (fun i _ _ => N2 - (intOf i).toNat)
            case atStart => exact ⟨0, n4, q4, s4, Nat.zero_le _, rfl, rfl, HR4, HD4⟩
            case round =>
              obtain ⟨j, q, p2, c2, hj, rfl, rfl, HRE, HBi⟩ := hrel
              rename World => wi
              clear HR4 HD4
              have hx4 : wi.cell? ⟨xb, 4, none⟩ = some (.slice ip N2 ic) := cell_later HBi.out (by simp [World.cell?, HBX3.out])
              obtain ⟨hq, hqc, hqt⟩ := HRE.out.len
              have hql : q ≤ 4000 := by
                have := HEL.out j hj
                have := HLL.out
                rw [List.length_append] at hq
                omega
              have HQ := hide hq
              clear hq
              by_cases hjt : j < N2
              · have hjt2 : j < ins.length := by rw [HN2.out]; exact hjt
                have hB13 := HB3.out.trans (HBi.out.mono HB3.out.size)
                obtain ⟨ga, oa, hip, c0, c1'⟩ := (HXO.out.below hB13).cell j hjt2
                simp only at hip c0 c1'
                subst hip
                have HIN := hide (insN_next hjt2)
                have hem : ins[j]! ∈ ins := by rw [getElem!_pos ins j hjt2]; exact List.getElem_mem _
                obtain ⟨fef, fep⟩ := HFE.out _ hem
                obtain ⟨⟨ef, ep⟩, hxe⟩ : ∃ x, ins[j]! = x := ⟨_, rfl⟩
                rw [hxe] at c0 c1' HIN fef fep
                simp only at c0 c1' fef fep
                have hIe : I64 [ef, ep] := fun x hx => by unfold I6 at fef fep; simp only [List.mem_cons, List.not_mem_nil, or_false] at hx; rcases hx with rfl | rfl <;> omega
                have HIE := hide hIe
                clear hxe hjt2 hem fef fep hB13 hIe
                go_upto_region 14 with fail
                have B0 : Below wi.heap.size wi wi.drew := (Below.refl _ wi).drew
                have hbl := alloc_below wi.drew (.cells #[.int .i64 ef, .int .i64 ep] 3 (0, 0))
                have HCI := hide (rints_any (w := wi.drew.alloc (.cells #[.int .i64 ef, .int .i64 ep] 3 (0, 0))) ((HRE.out.below B0).below hbl) Row.lit2 HIE.out (by rw [HQ.out]; simp; omega))
                have HBD := hide (HBi.out.trans ((B0.trans (hbl.mono B0.size)).mono HBi.out.size))
                have g0 := cell_later B0 hx4
                have g1 := cell_later B0 c0
                have g2 := cell_later B0 c1'
                have l0 := cell_later hbl g0
                have l1 := cell_later hbl g1
                have l2 := cell_later hbl g2
                clear hbl B0 HRE
                go_region_held3 (fun w' => w'.cell? ⟨xb, 4, none⟩ = some (.slice (some ⟨ga, oa, none⟩) N2 ic) ∧ w'.cell? ⟨ga, oa + j * 2, none⟩ = some (.int .i64 ef) ∧ w'.cell? ⟨ga, oa + j * 2 + 1, none⟩ = some (.int .i64 ep)) (go_keep)
                  (first
                    | (go_at_call 18; refine HCI.out.mono ?_; rintro _ x7 ⟨p7, q7, c7, rfl, R7, D7⟩; have m0 := cell_later D7 l0; have m1 := cell_later D7 l1; have m2 := cell_later D7 l2))
                have HR7 : Hid (Row .u8 x7 (.slice p7 q7 c7) (LST ++ forms ((ins.take (j + 1)).flatMap numsE))) := by
                  rw [HIN.out, forms_append, ← List.append_assoc]
                  exact hide R7
                have HB7 := hide (HBD.out.trans (D7.mono HBD.out.size))
                clear R7 D7 HCI g0 g1 g2 l0 l1 l2 m0 m1 m2
                go_wp2
                exact ⟨⟨j + 1, q7, p7, c7, by omega, by first | rfl | go_num, rfl, HR7, HB7⟩, by simp [intOf]; omega⟩
              · obtain rfl : j = N2 := by omega
                have HR6 : Hid (Row .u8 wi (.slice p2 q c2) (forms (upN parts n (os.map OV.o) (k + 1)))) := by
                  have h := HRE.out
                  rw [List.take_of_length_le (by rw [HN2.out]; exact Nat.le_refl _)] at h
                  rw [HLD.out]
                  exact hide h
                have HB6 := hide (HB3.out.trans (HBi.out.mono HB3.out.size))
                clear HRE
                go_wp2
                exact ⟨⟨k + 1, q, p2, c2, by omega, by first | rfl | go_num, rfl, HR6, HB6⟩, by simp [intOf]; omega⟩
          exact AllReady.nil
        refine AllReady.cons rfl (fun K hK => ?_) ?_
        · go_simp
          have ab : Below w3.drew.heap.size w3.drew (w3.alloc (.cells #[.int .i64 (N2 : Int)] 3 (0, 0))).drew := alloc_below w3.drew (.cells #[.int .i64 (N2 : Int)] 3 (0, 0))
          have RB1 := hide (RB0.out.below ab)
          have BC1 := hide (BC0.out.trans (ab.mono BC0.out.size))
          have RL1 : Hid (Row .i64 (w3.alloc (.cells #[.int .i64 (N2 : Int)] 3 (0, 0))).drew (.slice (some ⟨w3.heap.size, 0, none⟩) 1 1) [(N2 : Int)]) := hide (Row.lit1 (w := w3.drew) (a := (N2 : Int)) (e := 3))
          have F4_1 := cell_later ab F4_0
          have F3_1 := cell_later ab F3_0
          clear ab
          refine hK _ _ ?_
          clear hK K
          refine wpAny_ready (rs := [2]) (by kernel_rfl) (by simp) ?_
          refine AllReady.cons rfl (fun K hK => ?_) ?_
          rotate_left
          · exact AllReady.nil
          go_simp
          refine hK _ _ ?_
          clear hK K
          refine wpAny_ready (rs := [3]) (by kernel_rfl) (by simp) ?_
          refine AllReady.cons rfl (fun K hK => ?_) ?_
          rotate_left
          · exact AllReady.nil
          go_simp
          refine (one_any RB1.out HFA.out.1 HFA.out.2 (by rw [HB30.out]; have := HM3.out; omega)).mono ?_
          rintro _ x1 ⟨vv, rfl, O1, D1⟩
          obtain ⟨q1, n1, s1, rfl, R1⟩ := (own_row O1).form
          have RB2 := hide R1
          have F4_2 := cell_later D1 F4_1
          have BC2 := hide (BC1.out.trans (D1.mono BC1.out.size))
          have RL2 := hide (RL1.out.below D1)
          clear O1 D1
          refine hK _ _ ?_
          clear hK K
          refine wpAny_ready (rs := [8]) (by kernel_rfl) (by simp) ?_
          refine AllReady.cons rfl (fun K hK => ?_) ?_
          rotate_left
          · exact AllReady.nil
          go_simp
          refine (rints_any RB2.out RL2.out HI1.out (by have h9 : (form (zz ar)).length ≤ 10 := sz_le10 (zz_lt ar HFA.out.1 HFA.out.2); rw [List.length_append, HB30.out]; have := HM3.out; simp only [List.length_cons, List.length_nil]; omega)).mono ?_
          rintro _ x2 ⟨q4, n4, s4, rfl, R4, D4⟩
          have HR4 : Hid (Row .u8 x2 (.slice q4 n4 s4) (LST ++ forms ((ins.take 0).flatMap numsE))) := hide (by rw [List.take_zero, List.flatMap_nil, forms_nil, List.append_nil, ← HLS.out]; exact R4)
          have HD4 := hide (BC2.out.trans (D4.mono BC2.out.size))
          clear R4 D4 R1
          refine hK _ _ ?_
          clear hK K
          refine wpAny_ready (rs := [9]) (by kernel_rfl) (by simp) ?_
          refine AllReady.cons rfl (fun K hK => ?_) ?_
          rotate_left
          · exact AllReady.nil
          go_simp
          refine hK _ _ ?_
          clear hK K
          refine wpAny_done (by kernel_rfl) ?_ _
          go_wp2_with fail
          go_loopw [9, 6] (fun i s wi => ∃ (j q : Nat) (p2 : Option Addr) (c2 : Nat), j ≤ N2 ∧ i = .int .i64 (j : Int) ∧ s = .slice p2 q c2 ∧ Hid (Row .u8 wi (.slice p2 q c2) (LST ++ forms ((ins.take j).flatMap numsE))) ∧ Hid (Below w3.heap.size w3 wi)) (fun i _ _ => N2 - (intOf i).toNat)
          case atStart => exact ⟨0, n4, q4, s4, Nat.zero_le _, rfl, rfl, HR4, HD4⟩
          case round =>
            obtain ⟨j, q, p2, c2, hj, rfl, rfl, HRE, HBi⟩ := hrel
            rename World => wi
            clear HR4 HD4
            have hx4 : wi.cell? ⟨xb, 4, none⟩ = some (.slice ip N2 ic) := cell_later HBi.out (by simp [World.cell?, HBX3.out])
            obtain ⟨hq, hqc, hqt⟩ := HRE.out.len
            have hql : q ≤ 4000 := by
              have := HEL.out j hj
              have := HLL.out
              rw [List.length_append] at hq
              omega
            have HQ := hide hq
            clear hq
            by_cases hjt : j < N2
            · have hjt2 : j < ins.length := by rw [HN2.out]; exact hjt
              have hB13 := HB3.out.trans (HBi.out.mono HB3.out.size)
              obtain ⟨ga, oa, hip, c0, c1'⟩ := (HXO.out.below hB13).cell j hjt2
              simp only at hip c0 c1'
              subst hip
              have HIN := hide (insN_next hjt2)
              have hem : ins[j]! ∈ ins := by rw [getElem!_pos ins j hjt2]; exact List.getElem_mem _
              obtain ⟨fef, fep⟩ := HFE.out _ hem
              obtain ⟨⟨ef, ep⟩, hxe⟩ : ∃ x, ins[j]! = x := ⟨_, rfl⟩
              rw [hxe] at c0 c1' HIN fef fep
              simp only at c0 c1' fef fep
              have hIe : I64 [ef, ep] := fun x hx => by unfold I6 at fef fep; simp only [List.mem_cons, List.not_mem_nil, or_false] at hx; rcases hx with rfl | rfl <;> omega
              have HIE := hide hIe
              clear hxe hjt2 hem fef fep hB13 hIe
              go_upto_region 14 with fail
              have B0 : Below wi.heap.size wi wi.drew := (Below.refl _ wi).drew
              have hbl := alloc_below wi.drew (.cells #[.int .i64 ef, .int .i64 ep] 3 (0, 0))
              have HCI := hide (rints_any (w := wi.drew.alloc (.cells #[.int .i64 ef, .int .i64 ep] 3 (0, 0))) ((HRE.out.below B0).below hbl) Row.lit2 HIE.out (by rw [HQ.out]; simp; omega))
              have HBD := hide (HBi.out.trans ((B0.trans (hbl.mono B0.size)).mono HBi.out.size))
              have g0 := cell_later B0 hx4
              have g1 := cell_later B0 c0
              have g2 := cell_later B0 c1'
              have l0 := cell_later hbl g0
              have l1 := cell_later hbl g1
              have l2 := cell_later hbl g2
              clear hbl B0 HRE
              go_region_held3 (fun w' => w'.cell? ⟨xb, 4, none⟩ = some (.slice (some ⟨ga, oa, none⟩) N2 ic) ∧ w'.cell? ⟨ga, oa + j * 2, none⟩ = some (.int .i64 ef) ∧ w'.cell? ⟨ga, oa + j * 2 + 1, none⟩ = some (.int .i64 ep)) (go_keep)
                (first
                  | (go_at_call 18; refine HCI.out.mono ?_; rintro _ x7 ⟨p7, q7, c7, rfl, R7, D7⟩; have m0 := cell_later D7 l0; have m1 := cell_later D7 l1; have m2 := cell_later D7 l2))
              have HR7 : Hid (Row .u8 x7 (.slice p7 q7 c7) (LST ++ forms ((ins.take (j + 1)).flatMap numsE))) := by
                rw [HIN.out, forms_append, ← List.append_assoc]
                exact hide R7
              have HB7 := hide (HBD.out.trans (D7.mono HBD.out.size))
              clear R7 D7 HCI g0 g1 g2 l0 l1 l2 m0 m1 m2
              go_wp2
              exact ⟨⟨j + 1, q7, p7, c7, by omega, by first | rfl | go_num, rfl, HR7, HB7⟩, by simp [intOf]; omega⟩
            · obtain rfl : j = N2 := by omega
              have HR6 : Hid (Row .u8 wi (.slice p2 q c2) (forms (upN parts n (os.map OV.o) (k + 1)))) := by
                have h := HRE.out
                rw [List.take_of_length_le (by rw [HN2.out]; exact Nat.le_refl _)] at h
                rw [HLD.out]
                exact hide h
              have HB6 := hide (HB3.out.trans (HBi.out.mono HB3.out.size))
              clear HRE
              go_wp2
              exact ⟨⟨k + 1, q, p2, c2, by omega, by first | rfl | go_num, rfl, HR6, HB6⟩, by simp [intOf]; omega⟩
        exact AllReady.nil
      exact AllReady.nil
    · obtain rfl : k = n := by omega
      have hall : upN parts k (os.map OV.o) k = numsG parts (os.map OV.o) := by rw [← HM.out]; exact upN_all
      have HRF : Hid (Row .u8 wq (.slice p1 m c1) bs) := by
        have h := HR.out
        rw [hall, HBS.out] at h
        exact hide h
      have HBW := hide (HB1.out.trans (HBq.out.mono HB1.out.size))
      clear hall HR
      go_wp2
      go_ret2
      exact ⟨p1, c1, m, rfl, HRF.out, HBW.out⟩
end Go.Proofs.Ytdngjpbefcbodaa
