/-
  The program's fault; a port of what was done. The conditions: as for results.
-/
import Derived.Test.YtifldnpccgbnkaaGreatRre
import Derived.Test.YtifldnpccgbnkaaGreatGlo
import Derived.Test.YtifldnpccgbnkaaGreatRgd
import Derived.Test.YtifldnpccgbnkaaGreatRbp
namespace Go.Proofs.YtifldnpccgbnkaaGreat
open Go.RowKit Go.Shelf

theorem DI.port {W : World} {B db n k f j : Nat} {dn : List RS} {E : List GE} {rv : List RV} (h : DI W B db n k dn E rv) (hk : k ≤ n) (hf : f < k) (hj : j < (dn[f]!).ports.length) (hni : (⟨(f : Int), (j : Int)⟩ : GE) ∉ E) :
    ∃ (y : SV) (pg M pc N : Nat), W.cell? ⟨db, f * 4, none⟩ = some (.slice (some ⟨pg, 0, none⟩) M pc) ∧ j < M ∧ M ≤ pc ∧ pc ≤ 9223372036854775807 ∧ y.rs.length = N ∧ W.cell? ⟨pg, j, none⟩ = some (.slice y.p N y.c) ∧ y.own W B ∧ y.rs = (dn[f]!).ports[j]! := by
  obtain ⟨x, hx⟩ : ∃ x, rv[f]! = x := ⟨_, rfl⟩
  have hok := h.ok f hf
  have hpl := h.plain f hf
  rw [hx] at hok hpl
  obtain ⟨_, _, _, p4, p5⟩ := hpl
  have hpx : j < x.ports.length := by rw [p4]; exact hj
  have hprow := hok.prow
  unfold RV.pv at hprow
  obtain ⟨pg, hpg, hcell⟩ := own_cellR hprow hpx
  obtain ⟨y, hy⟩ : ∃ y, x.ports[j]! = y := ⟨_, rfl⟩
  have hcell2 : W.cell? ⟨pg, j, none⟩ = some (.slice y.p y.rs.length y.c) := by
    rw [hcell, SV.flat, List.getD_eq_getElem?_getD, List.getElem?_map, List.getElem?_eq_getElem hpx, ← hy, getElem!_pos x.ports j hpx]
    rfl
  have hym : y ∈ x.ports := by rw [← hy, getElem!_pos x.ports j hpx]; exact List.getElem_mem _
  have hyr : y.rs = (dn[f]!).ports[j]! := by
    have := p5 j hj
    rw [hy, if_neg hni] at this
    exact this
  obtain ⟨_, _, ef, q1, q2⟩ := own_form hprow
  simp only [Value.slice.injEq] at ef
  obtain ⟨_, _, rfl⟩ := ef
  have hd0 := (own_getRV h.row h.len (by omega) hx).1
  unfold RV.pv at hd0
  rw [hpg] at hd0
  exact ⟨y, pg, _, _, _, hd0, hpx, q1, q2, rfl, hcell2, hok.pown y hym, hyr⟩
def faultC (parts : Int) (os : List GO) (L : Nat) : Int := if (checkC parts os).2 = 0 then (if (L : Int) = parts then 0 else 1) else (checkC parts os).2
set_option maxRecDepth 100000 in
set_option maxHeartbeats 2000000 in
theorem fault_any {W : World} {parts : Int} {p q : Option Addr} {cap qc n L : Nat} {os : List OV} (ho : GRow W p cap os) (hn : os.length = n) :
    Calls Tryz.prog 16 #[.agg #[.int .i64 parts, .slice p n cap], .slice q L qc] W fun e w' => e = .returned (.int .i64 (faultC parts (os.map OV.o) L)) ∧ Below W.heap.size W w' := by
  obtain ⟨V, hV⟩ : ∃ V, V = W.alloc (.cells #[.int .i64 parts, .slice p n cap] 24 (0, 0)) := ⟨_, rfl⟩
  have hbV : Below W.heap.size W V := by rw [hV]; exact alloc_below _ _
  have x0 : V.heap[W.heap.size]? = some (.cells #[.int .i64 parts, .slice p n cap] 24 (0, 0)) := by rw [hV]; exact heap_alloc_new _ _
  obtain ⟨gB, hgB⟩ : ∃ gB, W.heap.size = gB := ⟨_, rfl⟩
  rw [hgB] at x0
  have hch := check_any (parts := parts) (ho.below hbV)
  rw [hn] at hch
  obtain ⟨⟨c1, c2⟩, hcc⟩ : ∃ c, checkC parts (os.map OV.o) = c := ⟨_, rfl⟩
  rw [hcc] at hch
  simp only at hch
  have HC := hide hch
  have HBV := hide hbV
  have HX0 := hide x0
  have HF : Hid (faultC parts (os.map OV.o) L = if c2 = 0 then (if (L : Int) = parts then 0 else 1) else c2) := hide (by unfold faultC; rw [hcc])
  clear ho hn hch hbV x0 hcc
  by_cases h2 : c2 = 0
  · subst h2
    by_cases hL : (L : Int) = parts
    · rw [HF.out, if_pos rfl, if_pos hL]
      have q1 : ((L : Int) != parts) = false := by simpa using hL
      go_enter Tryz.func16, Tryz.ntmps16
      go_wp2_with fail
      rw [← hV]
      try rw [hgB]
      clear hV hgB
      refine HC.out.mono ?_
      rintro _ w1 ⟨rfl, hB1⟩
      have y0 := below_box hB1 HX0.out
      have d0 : w1.cell? ⟨gB, 0, none⟩ = some (.int .i64 parts) := by simp [World.cell?, y0]
      have HB := hide (HBV.out.trans (hB1.mono HBV.out.size))
      clear y0 hB1 HC
      go_wp2
      go_ret
      exact ⟨rfl, HB.out⟩
    · rw [HF.out, if_pos rfl, if_neg hL]
      have q1 : ((L : Int) != parts) = true := by simpa using hL
      go_enter Tryz.func16, Tryz.ntmps16
      go_wp2_with fail
      rw [← hV]
      try rw [hgB]
      clear hV hgB
      refine HC.out.mono ?_
      rintro _ w1 ⟨rfl, hB1⟩
      have y0 := below_box hB1 HX0.out
      have d0 : w1.cell? ⟨gB, 0, none⟩ = some (.int .i64 parts) := by simp [World.cell?, y0]
      have HB := hide (HBV.out.trans (hB1.mono HBV.out.size))
      clear y0 hB1 HC
      go_wp2
      go_ret
      exact ⟨rfl, HB.out⟩
  · rw [HF.out, if_neg h2]
    have q1 : (c2 != 0) = true := by simpa using h2
    go_enter Tryz.func16, Tryz.ntmps16
    go_wp2_with fail
    rw [← hV]
    try rw [hgB]
    clear hV hgB
    refine HC.out.mono ?_
    rintro _ w1 ⟨rfl, hB1⟩
    have HB := hide (HBV.out.trans (hB1.mono HBV.out.size))
    clear hB1 HC
    go_wp2
    go_ret
    exact ⟨rfl, HB.out⟩
end Go.Proofs.YtifldnpccgbnkaaGreat
