/-
  Bytes of the program. The conditions: that numbers are of their types.
-/
import Derived.Test.YtdngjpbefcbodaaGnr
import Derived.Test.YtdngjpbefcbodaaGcl
import Derived.Test.YtdngjpbefcbodaaGlo
import Derived.Test.YtdngjpbefcbodaaPut
import Derived.Test.YtdngjpbefcbodaaRef
import Derived.OwnWalk
namespace Go.Proofs.Ytdngjpbefcbodaa
open Go.RowKit

theorem own_bytes {w : World} {base n : Nat} {v : Value} {l : List Int} (h : w.ownsRow base 5 1 v n (l.map (Value.int .u8))) : ∃ p c, v = .slice p l.length c ∧ w.ownsRow base 5 1 (.slice p l.length c) l.length (l.map (Value.int .u8)) := by
  have hn := own_len h
  obtain ⟨p, c, rfl, _, _⟩ := own_form h
  subst hn
  exact ⟨p, c, rfl, h⟩
theorem Try.infoL : (Try.prog.info? 2).map (fun i => (i.zero, i.size, i.bytes)) = some (some (.int .i64 0), 1, 8) := by kernel_rfl
def headO (o : GO) : List Int := [o.kind, o.part, o.fn, o.arg, (o.ins.length : Int)]
def upN (parts : Int) (N : Nat) (os : List GO) (k : Nat) : List Int := [parts, (N : Int)] ++ (os.take k).flatMap numsO
theorem upN_next {parts : Int} {N k : Nat} {os : List GO} (hk : k < os.length) : upN parts N os (k + 1) = upN parts N os k ++ numsO os[k]! := by
  unfold upN
  rw [List.take_add_one, List.getElem?_eq_getElem hk, List.flatMap_append, getElem!_pos os k hk]
  simp
theorem upN_all {parts : Int} {os : List GO} : upN parts os.length os os.length = numsG parts os := by
  unfold upN numsG
  rw [List.take_of_length_le (Nat.le_refl _)]
theorem insN_next {es : List GE} {j : Nat} (hj : j < es.length) : (es.take (j + 1)).flatMap numsE = (es.take j).flatMap numsE ++ numsE es[j]! := by
  rw [List.take_add_one, List.getElem?_eq_getElem hj, List.flatMap_append, getElem!_pos es j hj]
  simp
theorem check_small {parts : Int} {os : List GO} (hc : (checkC parts os).2 = 0) : os.length ≤ 24 ∧ ∀ o ∈ os, o.ins.length ≤ 4 := by
  refine ⟨?_, (good_of hc).four⟩
  apply Classical.byContradiction
  intro hn
  unfold checkC at hc
  by_cases h1 : 1 ≤ parts ∧ parts ≤ 4
  · rw [if_pos h1, if_neg hn] at hc; simp at hc
  · rw [if_neg h1] at hc; simp at hc
theorem numsO_len (o : GO) : (numsO o).length = 5 + 2 * o.ins.length := by
  unfold numsO
  have : ∀ es : List GE, (es.flatMap numsE).length = 2 * es.length := by
    intro es
    induction es with
    | nil => rfl
    | cons e es ih => rw [List.flatMap_cons, List.length_append, ih]; simp [numsE]; omega
  rw [List.length_append, this]
  rfl
theorem numsOs_len : ∀ (os : List GO), (∀ o ∈ os, o.ins.length ≤ 4) → (os.flatMap numsO).length ≤ 13 * os.length
  | [], _ => by simp
  | o :: os, h => by
    have h1 := h o (by simp)
    have h2 := numsOs_len os (fun x hx => h x (by simp [hx]))
    rw [List.flatMap_cons, List.length_append, numsO_len, List.length_cons]
    omega
theorem upN_len {parts : Int} {N k : Nat} {os : List GO} (h : ∀ o ∈ os, o.ins.length ≤ 4) (hk : k ≤ os.length) : (upN parts N os k).length ≤ 2 + 13 * k := by
  unfold upN
  have := numsOs_len (os.take k) (fun o ho => h o (List.mem_of_mem_take ho))
  rw [List.length_take] at this
  rw [List.length_append]
  simp only [List.length_cons, List.length_nil]
  omega
theorem numsO_bd {o : GO} (h : o.fine) (hl : o.ins.length ≤ 4) : I64 (numsO o) := by
  obtain ⟨h1, h2, h3, h4, h5⟩ := h
  unfold I6 at h1 h2 h3 h4
  intro x hx
  unfold numsO at hx
  rcases List.mem_append.1 hx with hx | hx
  · simp only [List.mem_cons, List.not_mem_nil, or_false] at hx
    rcases hx with rfl | rfl | rfl | rfl | rfl <;> omega
  · obtain ⟨e, he, hx⟩ := List.mem_flatMap.1 hx
    obtain ⟨h6, h7⟩ := h5 e he
    unfold I6 at h6 h7
    simp only [numsE, List.mem_cons, List.not_mem_nil, or_false] at hx
    rcases hx with rfl | rfl <;> omega
theorem numsG_bd {parts : Int} {os : List GO} (hp : I6 parts) (hf : ∀ o ∈ os, o.fine) (h4 : ∀ o ∈ os, o.ins.length ≤ 4) (h24 : os.length ≤ 24) : I64 (numsG parts os) := by
  unfold I6 at hp
  intro x hx
  unfold numsG at hx
  rcases List.mem_append.1 hx with hx | hx
  · simp only [List.mem_cons, List.not_mem_nil, or_false] at hx
    rcases hx with rfl | rfl <;> omega
  · obtain ⟨o, ho, hx⟩ := List.mem_flatMap.1 hx
    exact numsO_bd (hf o ho) (h4 o ho) x hx

set_option maxRecDepth 100000 in
set_option maxHeartbeats 8000000 in
theorem bytes_any {W : World} {parts : Int} {p : Option Addr} {cap n : Nat} {os : List OV} (hp : I6 parts) (ho : GRow W p cap os) (hn : os.length = n) (hf : ∀ x ∈ os, x.o.fine) {bs : List Int} {rc : Int} (hr : bytesG parts (os.map OV.o) = (bs, rc)) :
    Calls Try.prog 6 #[.agg #[.int .i64 parts, .slice p n cap]] W fun e w' => ∃ p' c' N, e = .returned (.tuple #[.slice p' N c', .int .i64 rc]) ∧ bs.length = N ∧ w'.ownsRow W.heap.size 5 1 (.slice p' N c') N (bs.map (Value.int .u8)) ∧ Below W.heap.size W w' := by
  obtain ⟨i0, hI0, hz0, hz1, hz2⟩ := info_parts Try.infoL
  have i3 := ho.le
  have i4 := ho.top
  rw [hn] at i3
  obtain ⟨V, hV⟩ : ∃ V, V = W.alloc (.cells #[.int .i64 parts, .slice p n cap] 24 (0, 0)) := ⟨_, rfl⟩
  have hb0 : Below W.heap.size W V := by rw [hV]; exact alloc_below W _
  have hvr : V.heap[W.heap.size]? = some (.cells #[.int .i64 parts, .slice p n cap] 24 (0, 0)) := by rw [hV]; exact heap_alloc_new W _
  have HO := hide (ho.below hb0)
  have HVB := hide hb0
  have hck := check_any (parts := parts) HO.out
  rw [hn] at hck
  obtain ⟨⟨k1, k2⟩, hkk⟩ : ∃ kk, checkC parts (os.map OV.o) = kk := ⟨_, rfl⟩
  rw [hkk] at hck
  have HCK := hide hck
  have HKK := hide hkk
  have HN := hide hn
  have HF := hide hf
  have HHR := hide hr
  obtain ⟨gB, hgB⟩ : ∃ gB, W.heap.size = gB := ⟨_, rfl⟩
  rw [hgB] at hvr
  have z0 : V.cell? ⟨gB, 0, none⟩ = some (.int .i64 parts) := by simp [World.cell?, hvr]
  have z1 : V.cell? ⟨gB, 1, none⟩ = some (.slice p n cap) := by simp [World.cell?, hvr]
  clear ho hb0 hvr hck hkk hn hf hr
  go_enter Try.func6, Try.ntmps6
  go_wp2_with fail
  rw [← hV]
  try rw [hgB]
  clear hV hgB
  refine HCK.out.mono ?_
  rintro _ w1 ⟨rfl, b1⟩
  have y0 := cell_later b1 z0
  have y1 := cell_later b1 z1
  have HB1 := hide (HVB.out.trans (b1.mono HVB.out.size))
  have HO1 := hide (HO.out.below b1)
  clear b1 z0 z1 HCK HO HVB
  try simp only
  by_cases hk : k2 = 0
  rotate_left
  · have ne2 : (k2 != 0) = true := by simpa using hk
    have hh := HHR.out
    unfold bytesG at hh
    rw [HKK.out] at hh
    simp only at hh
    rw [if_neg hk] at hh
    simp only [Prod.mk.injEq] at hh
    obtain ⟨rfl, rfl⟩ := hh
    clear hk
    go_wp2
    go_ret2
    exact ⟨none, 0, 0, rfl, rfl, World.ownsRow_nil _ _ _ _, HB1.out⟩
  subst hk
  have hh := HHR.out
  unfold bytesG at hh
  rw [HKK.out] at hh
  simp only at hh
  rw [if_pos trivial] at hh
  simp only [Prod.mk.injEq] at hh
  obtain ⟨hbs, rfl⟩ := hh
  obtain ⟨h24, h4⟩ := check_small (by rw [HKK.out] : (checkC parts (os.map OV.o)).2 = 0)
  have HM : Hid ((os.map OV.o).length = n) := hide (by rw [List.length_map]; exact HN.out)
  rw [HM.out] at h24
  have HH4 := hide h4
  have HBS := hide hbs
  have hb2 := alloc_below w1 (.cells #[.int .i64 parts, .int .i64 (n : Int)] 2 (0, 0))
  obtain ⟨V2, hV2⟩ : ∃ V2, V2 = w1.alloc (.cells #[.int .i64 parts, .int .i64 (n : Int)] 2 (0, 0)) := ⟨_, rfl⟩
  have hown0 : V2.ownsRow w1.heap.size 2 1 (.slice (some ⟨w1.heap.size, 0, none⟩) 2 2) 2 ((upN parts n (os.map OV.o) 0).map (Value.int .i64)) := by
    rw [hV2]
    exact ⟨by simp [upN], .inr ⟨w1.heap.size, 2, #[.int .i64 parts, .int .i64 (n : Int)], rfl, Nat.le_refl _, heap_alloc_new w1 _, Nat.le_refl _, by decide, rfl, by simp [upN]⟩⟩
  rw [← hV2] at hb2
  obtain ⟨LB, hLB⟩ : ∃ LB, w1.heap.size = LB := ⟨_, rfl⟩
  rw [hLB] at hown0
  have HLB := hide hLB
  have HOW0 := hide hown0
  have HBV2 := hide hb2
  have x0 := cell_later hb2 y0
  have x1 := cell_later hb2 y1
  rw [hV2] at x0 x1
  clear h4 hbs hown0 hb2
  go_wp2_with fail
  rw [← hV2]
  try rw [hLB]
  clear hV2 hLB
  go_loopw [28, 6] (fun i s wq => ∃ (k m : Nat) (p1 : Option Addr) (c1 : Nat), k ≤ n ∧ i = .int .i64 (k : Int) ∧ s = .slice p1 m c1 ∧ m ≤ 2 + 13 * k ∧ Hid (wq.ownsRow LB 2 1 (.slice p1 m c1) m ((upN parts n (os.map OV.o) k).map (Value.int .i64))) ∧ Hid (Below w1.heap.size w1 wq)) (fun i _ _ => n - (intOf i).toNat)
  case atStart => exact ⟨0, 2, _, _, Nat.zero_le _, rfl, rfl, by omega, HOW0, HBV2⟩
  case round =>
    obtain ⟨k, m, p1, c1, hk, rfl, rfl, hm, HOW, HBq⟩ := hrel
    rename World => wq
    clear HOW0 HBV2 x0 x1
    by_cases hlt : k < n
    · have hlt2 : k < os.length := by rw [HN.out]; exact hlt
      have hlt3 : k < (os.map OV.o).length := by rw [HM.out]; exact hlt
      obtain ⟨g, o, rfl, hc⟩ := (HO1.out.below HBq.out).cell k hlt2
      have hxm : os[k]! ∈ os := by rw [getElem!_pos os k hlt2]; exact List.getElem_mem _
      have HMO := hide (getO os hlt2)
      have HXO := hide (HO1.out.ok _ hxm)
      have hil := HH4.out (os[k]!).o (List.mem_map.2 ⟨_, hxm, rfl⟩)
      obtain ⟨x, hx⟩ : ∃ x, os[k]! = x := ⟨_, rfl⟩
      rw [hx] at hc HXO HMO hil
      obtain ⟨⟨kd, pt, fn, ar, ins⟩, ip, ic⟩ := x
      obtain ⟨N2, hN2⟩ : ∃ N2, ins.length = N2 := ⟨_, rfl⟩
      have d0 : wq.cell? ⟨g, o + k * 5, none⟩ = some (.int .i64 kd) := hc 0 (by omega)
      have d1 : wq.cell? ⟨g, o + k * 5 + 1, none⟩ = some (.int .i64 pt) := hc 1 (by omega)
      have d2 : wq.cell? ⟨g, o + k * 5 + 2, none⟩ = some (.int .i64 fn) := hc 2 (by omega)
      have d3 : wq.cell? ⟨g, o + k * 5 + 3, none⟩ = some (.int .i64 ar) := hc 3 (by omega)
      have d4 : wq.cell? ⟨g, o + k * 5 + 4, none⟩ = some (.slice ip N2 ic) := by rw [← hN2]; exact hc 4 (by omega)
      simp only at hil HMO
      rw [hN2] at hil
      have hicl := HXO.out.le
      have hict := HXO.out.top
      simp only at hicl hict
      rw [hN2] at hicl
      have HUN := hide (upN_next (parts := parts) (N := n) hlt3)
      rw [HMO.out] at HUN
      have HN2 := hide hN2
      have hv1 := alloc_below wq (.cells #[.int .i64 kd, .int .i64 pt, .int .i64 fn, .int .i64 ar, .slice ip N2 ic] 38 (0, 0))
      have hbx : (wq.alloc (.cells #[.int .i64 kd, .int .i64 pt, .int .i64 fn, .int .i64 ar, .slice ip N2 ic] 38 (0, 0))).heap[wq.heap.size]? = some (.cells #[.int .i64 kd, .int .i64 pt, .int .i64 fn, .int .i64 ar, .slice ip N2 ic] 38 (0, 0)) := heap_alloc_new wq _
      obtain ⟨v1, hv1e⟩ : ∃ v1, v1 = wq.alloc (.cells #[.int .i64 kd, .int .i64 pt, .int .i64 fn, .int .i64 ar, .slice ip N2 ic] 38 (0, 0)) := ⟨_, rfl⟩
      rw [← hv1e] at hv1 hbx
      obtain ⟨xb, hxb⟩ : ∃ xb, wq.heap.size = xb := ⟨_, rfl⟩
      rw [hxb] at hbx
      have e0 : v1.cell? ⟨xb, 0, none⟩ = some (.int .i64 kd) := by simp [World.cell?, hbx]
      have e1 : v1.cell? ⟨xb, 1, none⟩ = some (.int .i64 pt) := by simp [World.cell?, hbx]
      have e2 : v1.cell? ⟨xb, 2, none⟩ = some (.int .i64 fn) := by simp [World.cell?, hbx]
      have e3 : v1.cell? ⟨xb, 3, none⟩ = some (.int .i64 ar) := by simp [World.cell?, hbx]
      have e4 : v1.cell? ⟨xb, 4, none⟩ = some (.slice ip N2 ic) := by simp [World.cell?, hbx]
      have hv2 := alloc_below v1 (.cells #[.int .i64 kd, .int .i64 pt, .int .i64 fn, .int .i64 ar, .int .i64 (N2 : Int)] 2 (0, 0))
      have hBA : Below w1.heap.size w1 (v1.alloc (.cells #[.int .i64 kd, .int .i64 pt, .int .i64 fn, .int .i64 ar, .int .i64 (N2 : Int)] 2 (0, 0))) := (HBq.out.trans (hv1.mono HBq.out.size)).trans (hv2.mono (Nat.le_trans HBq.out.size hv1.size))
      have HRW := hide (ownsRow_later (ownsRow_later HOW.out hv1) hv2)
      have HSG : Hid (Seg (v1.alloc (.cells #[.int .i64 kd, .int .i64 pt, .int .i64 fn, .int .i64 ar, .int .i64 (N2 : Int)] 2 (0, 0))) 1 (.slice (some ⟨v1.heap.size, 0, none⟩) 5 5) 5 [.int .i64 kd, .int .i64 pt, .int .i64 fn, .int .i64 ar, .int .i64 (N2 : Int)]) := hide (Seg.news (heap_alloc_new v1 _) (by simp [Value.oneCell']) rfl (Nat.le_refl _) (by decide))
      have HK1 : Hid (m + 5 ≤ maxLen) := by show _ ≤ _; unfold maxLen; omega
      have HK2 : Hid ((m + 5) * 8 ≤ 140737488355328) := by show _ ≤ _; omega
      have HBS2 : Hid (LB ≤ (v1.alloc (.cells #[.int .i64 kd, .int .i64 pt, .int .i64 fn, .int .i64 ar, .int .i64 (N2 : Int)] 2 (0, 0))).heap.size) := hide (by have := hBA.size; have := HLB.out; omega)
      have HBX := hide (below_box hv2 hbx)
      have HBA := hide hBA
      clear hc hx hxm hlt2 hlt3 hN2 hbx hv1 hv2 hBA
      go_upto_region 8 with fail
      rw [← hv1e]
      try rw [hxb]
      clear hv1e hxb
      go_wp2_with (at_builtin; refine append_cells _ rfl (.tmp 32) (.tmp 44) 46 rfl LB 2 i0 (.int .i64 0) 1 8 Try.underlying46 hI0 hz0 hz1 hz2 rfl (by decide) (.slice p1 m c1) m _ rfl HRW.out (.slice (some ⟨v1.heap.size, 0, none⟩) 5 5) 5 _ rfl HSG.out HK1.out HK2.out HBS2.out ?_)
      intro p5 c5 w5 o5 g5
      have hx5 : w5.heap[xb]? = some (.cells #[.int .i64 kd, .int .i64 pt, .int .i64 fn, .int .i64 ar, .slice ip N2 ic] 38 (0, 0)) := (Only.of_grown g5 (F := fun i => (Value.slice p1 m c1).ownBlock = some i) (fun k e => e)).obj HBX.out (fun e => by
        obtain ⟨_, cur, h7⟩ := own_block_lt HRW.out e
        rw [HBX.out] at h7
        simp at h7)
      have f4 : w5.cell? ⟨xb, 4, none⟩ = some (.slice ip N2 ic) := by simp [World.cell?, hx5]
      have HB5 : Hid (Below w1.heap.size w1 w5) := hide (HBA.out.grown g5 HBA.out.size (fun i hi => by have := own_block_base HRW.out hi; have := HLB.out; omega))
      have HO5 : Hid (w5.ownsRow LB 2 1 (.slice p5 (m + 5) c5) (m + 5) ((upN parts n (os.map OV.o) k ++ headO ⟨kd, pt, fn, ar, ins⟩ ++ (ins.take 0).flatMap numsE).map (Value.int .i64))) := by
        refine hide ?_
        rw [List.take_zero, List.flatMap_nil, List.append_nil, List.map_append]
        simp only [headO, HN2.out]
        exact o5
      clear o5 g5 hx5 HRW HSG HBX HBA HOW HK1 HK2 HBS2 e0 e1 e2 e3 e4 d0 d1 d2 d3 d4
      go_wp2_with fail
      go_loopw [49, 6] (fun i s wi => ∃ (j q : Nat) (p2 : Option Addr) (c2 : Nat), j ≤ N2 ∧ i = .int .i64 (j : Int) ∧ s = .slice p2 q c2 ∧ q = m + 5 + 2 * j ∧ Hid (wi.ownsRow LB 2 1 (.slice p2 q c2) q ((upN parts n (os.map OV.o) k ++ headO ⟨kd, pt, fn, ar, ins⟩ ++ (ins.take j).flatMap numsE).map (Value.int .i64))) ∧ Hid (Below w1.heap.size w1 wi)) (fun i _ _ => N2 - (intOf i).toNat)
      case atStart => exact ⟨0, m + 5, p5, c5, Nat.zero_le _, rfl, rfl, by omega, HO5, HB5⟩
      case round =>
        obtain ⟨j, q, p2, c2, hj, rfl, rfl, hq, HOE, HBi⟩ := hrel
        rename World => wi
        clear HO5 HB5 f4
        by_cases hjt : j < N2
        · have hjt2 : j < ins.length := by rw [HN2.out]; exact hjt
          obtain ⟨ga, oa, hip, c0, c1'⟩ := (HXO.out.below HBi.out).cell j hjt2
          simp only at hip c0 c1'
          subst hip
          have HIN := hide (insN_next hjt2)
          obtain ⟨⟨ef, ep⟩, hxe⟩ : ∃ x, ins[j]! = x := ⟨_, rfl⟩
          rw [hxe] at c0 c1' HIN
          simp only at c0 c1'
          have hv1 := alloc_below wi (.cells #[.int .i64 ef, .int .i64 ep] 40 (0, 0))
          have hbx : (wi.alloc (.cells #[.int .i64 ef, .int .i64 ep] 40 (0, 0))).heap[wi.heap.size]? = some (.cells #[.int .i64 ef, .int .i64 ep] 40 (0, 0)) := heap_alloc_new wi _
          obtain ⟨v1, hv1e⟩ : ∃ v1, v1 = wi.alloc (.cells #[.int .i64 ef, .int .i64 ep] 40 (0, 0)) := ⟨_, rfl⟩
          rw [← hv1e] at hv1 hbx
          obtain ⟨xb2, hxb⟩ : ∃ xb, wi.heap.size = xb := ⟨_, rfl⟩
          rw [hxb] at hbx
          have e0 : v1.cell? ⟨xb2, 0, none⟩ = some (.int .i64 ef) := by simp [World.cell?, hbx]
          have e1 : v1.cell? ⟨xb2, 1, none⟩ = some (.int .i64 ep) := by simp [World.cell?, hbx]
          have hv2 := alloc_below v1 (.cells #[.int .i64 ef, .int .i64 ep] 2 (0, 0))
          have hBA : Below w1.heap.size w1 (v1.alloc (.cells #[.int .i64 ef, .int .i64 ep] 2 (0, 0))) := (HBi.out.trans (hv1.mono HBi.out.size)).trans (hv2.mono (Nat.le_trans HBi.out.size hv1.size))
          have HRW := hide (ownsRow_later (ownsRow_later HOE.out hv1) hv2)
          have HSG : Hid (Seg (v1.alloc (.cells #[.int .i64 ef, .int .i64 ep] 2 (0, 0))) 1 (.slice (some ⟨v1.heap.size, 0, none⟩) 2 2) 2 [.int .i64 ef, .int .i64 ep]) := hide (Seg.news (heap_alloc_new v1 _) (by simp [Value.oneCell']) rfl (Nat.le_refl _) (by decide))
          have HK1 : Hid (q + 2 ≤ maxLen) := by show _ ≤ _; unfold maxLen; omega
          have HK2 : Hid ((q + 2) * 8 ≤ 140737488355328) := by show _ ≤ _; omega
          have HBS2 : Hid (LB ≤ (v1.alloc (.cells #[.int .i64 ef, .int .i64 ep] 2 (0, 0))).heap.size) := hide (by have := hBA.size; have := HLB.out; omega)
          have HBA := hide hBA
          have HQ := hide hq
          clear hxe hjt2 hbx hv1 hv2 hBA hq
          go_upto_region 12 with fail
          rw [← hv1e]
          try rw [hxb]
          clear hv1e hxb
          go_wp2_with (at_builtin; refine append_cells _ rfl (.tmp 53) (.tmp 58) 46 rfl LB 2 i0 (.int .i64 0) 1 8 Try.underlying46 hI0 hz0 hz1 hz2 rfl (by decide) (.slice p2 q c2) q _ rfl HRW.out (.slice (some ⟨v1.heap.size, 0, none⟩) 2 2) 2 _ rfl HSG.out HK1.out HK2.out HBS2.out ?_)
          intro p6 c6 w6 o6 g6
          have HB6 : Hid (Below w1.heap.size w1 w6) := hide (HBA.out.grown g6 HBA.out.size (fun i hi => by have := own_block_base HRW.out hi; have := HLB.out; omega))
          have HO6 : Hid (w6.ownsRow LB 2 1 (.slice p6 (q + 2) c6) (q + 2) ((upN parts n (os.map OV.o) k ++ headO ⟨kd, pt, fn, ar, ins⟩ ++ (ins.take (j + 1)).flatMap numsE).map (Value.int .i64))) := by
            refine hide ?_
            rw [HIN.out]
            simp only [List.map_append, List.append_assoc] at o6 ⊢
            exact o6
          clear o6 g6 HRW HSG HBA HOE HK1 HK2 HBS2 e0 e1 c0 c1'
          go_wp2
          exact ⟨⟨j + 1, q + 2, p6, c6, by omega, by first | rfl | go_num, rfl, by have := HQ.out; omega, HO6, HB6⟩, by simp [intOf]; omega⟩
        · obtain rfl : j = N2 := by omega
          have HO6 : Hid (wi.ownsRow LB 2 1 (.slice p2 q c2) q ((upN parts n (os.map OV.o) (k + 1)).map (Value.int .i64))) := by
            have h := HOE.out
            rw [List.take_of_length_le (by rw [HN2.out]; exact Nat.le_refl _), List.append_assoc] at h
            rw [HUN.out]
            exact hide h
          have HQ := hide hq
          clear hq HOE
          go_wp2
          exact ⟨⟨k + 1, q, p2, c2, by omega, by first | rfl | go_num, rfl, by have := HQ.out; omega, HO6, HBi⟩, by simp [intOf]; omega⟩
    · obtain rfl : k = n := by omega
      have hall : upN parts k (os.map OV.o) k = numsG parts (os.map OV.o) := by rw [← HM.out]; exact upN_all
      have hown := HOW.out
      rw [hall] at hown
      have hbd : I64 (numsG parts (os.map OV.o)) := numsG_bd hp (fun o ho => by obtain ⟨x, hx, rfl⟩ := List.mem_map.1 ho; exact HF.out x hx) HH4.out (by rw [HM.out]; exact h24)
      have hln : (numsG parts (os.map OV.o)).length = m := (own_len hown).symm
      have HI := hide (int_any (Row.nil .u8 wq) (own_row hown) hbd (by rw [hln]; simp; omega))
      rw [List.nil_append, HBS.out] at HI
      have HBW := hide (HB1.out.trans (HBq.out.mono HB1.out.size))
      clear hall hown hbd hln HOW
      go_wp2_with fail
      refine HI.out.mono ?_
      rintro _ w2 ⟨v2, rfl, O2, B2⟩
      obtain ⟨p2, c2, rfl, O3⟩ := own_bytes O2
      have HO := hide (ownsRow_base O3 HBW.out.size)
      have HB2 := hide (HBW.out.trans (B2.mono HBW.out.size))
      obtain ⟨NN, hNN⟩ : ∃ NN, bs.length = NN := ⟨_, rfl⟩
      rw [hNN] at HO ⊢
      have HNN := hide hNN
      clear O2 O3 B2 HI hNN
      go_wp2
      go_ret2
      exact ⟨p2, c2, NN, rfl, HNN.out, HO.out, HB2.out⟩
end Go.Proofs.Ytdngjpbefcbodaa
