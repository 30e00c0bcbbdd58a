/-
  The program's Run of a graph that may not be, its Run and Ports of one that may. The conditions: lengths.
-/
import Derived.Test.YtifldnpccgbnkaaGreatRft
import Derived.Test.YtifldnpccgbnkaaGreatRrn
import Derived.Test.YtifldnpccgbnkaaGreatRbp
import Derived.Test.YtifldnpccgbnkaaGreatRin
import Derived.Test.YtifldnpccgbnkaaGreatRfa
namespace Go.Proofs.YtifldnpccgbnkaaGreat
open Go.RowKit Go.Shelf

set_option maxRecDepth 100000 in
set_option maxHeartbeats 2000000 in
theorem run_err {W : World} {parts : Int} {p q : Option Addr} {cap qc n L : Nat} {os : List OV} (ho : GRow W p cap os) (hn : os.length = n) {fa : Int} (hfa : faultC parts (os.map OV.o) L = fa) (h0 : fa ≠ 0) :
    Calls Tryz.prog 4 #[.agg #[.int .i64 parts, .slice p n cap], .slice q L qc] W fun e w' => e = .returned (.tuple #[.slice none 0 0, .int .i64 fa]) ∧ Below W.heap.size W w' := by
  obtain ⟨V, hV⟩ : ∃ V, V = W.alloc (.cells #[.int .i64 parts, .slice p n cap] 24 (0, 0)) := ⟨_, rfl⟩
  have hbV : Below W.heap.size W V := by rw [hV]; exact alloc_below _ _
  obtain ⟨gB, hgB⟩ : ∃ gB, W.heap.size = gB := ⟨_, rfl⟩
  have hfl := fault_any (parts := parts) (q := q) (qc := qc) (L := L) (ho.below hbV) hn
  rw [hfa] at hfl
  have HFL := hide hfl
  have HBV := hide hbV
  have q0 : (fa != 0) = true := by simpa using h0
  clear ho hn hfa hbV hfl
  go_enter Tryz.func4, Tryz.ntmps4
  go_wp2_with fail
  rw [← hV]
  try rw [hgB]
  clear hV hgB
  refine HFL.out.mono ?_
  rintro _ w1 ⟨rfl, hB1⟩
  have HB := hide (HBV.out.trans (hB1.mono HBV.out.size))
  clear hB1 HFL
  go_wp2
  go_ret2
  exact ⟨rfl, HB.out⟩
theorem DI.last {W : World} {B db n k : Nat} {dn : List RS} {E : List GE} {rv : List RV} (h : DI W B db n n dn E rv) (hk : k < n) (hni : ∀ j : Int, (⟨(k : Int), j⟩ : GE) ∉ E) {x : RV} (hx : rv[k]! = x) :
    W.cell? ⟨db, k * 4, none⟩ = some (.slice x.pp x.ports.length x.pc) ∧ LL W x.pp x.pc x.ports ∧ x.ports.map SV.rs = (dn[k]!).ports := by
  have hok := h.ok k hk
  have hpl := h.plain k hk
  rw [hx] at hok hpl
  obtain ⟨_, _, _, p4, p5⟩ := hpl
  refine ⟨(own_getRV h.row h.len hk hx).1, ⟨LRow.of_own SV.len rfl hok.prow, fun y hy => (hok.pown y hy).ok⟩, ?_⟩
  apply List.ext_getElem
  · rw [List.length_map, p4]
  · intro i h1 h2
    have := p5 i h2
    rw [if_neg (hni _), getElem!_pos x.ports i (by simpa using h1), getElem!_pos _ i h2] at this
    rw [List.getElem_map]
    exact this

set_option maxRecDepth 100000 in
set_option maxHeartbeats 4000000 in
theorem ports_ok {rf : GO → List (List RC) → RS} {W : World} {parts : Int} {p q : Option Addr} {cap qc n L k : Nat} {os : List OV} {xs : List SV} {dn : List RS} (ho : GRow W p cap os) (hn : os.length = n) (hx : LL W q qc xs) (hL : xs.length = L) (hfa : faultC parts (os.map OV.o) L = 0) (hk : k < n) (hf : Fits rf ((os.take (k + 1)).map OV.o) (xs.map SV.rs) dn) (hxs : ∀ x ∈ xs, x.rs.length ≤ lenB) :
    Calls Tryz.prog 8 #[.agg #[.int .i64 parts, .slice p n cap], .int .i64 (k : Int), .slice q L qc] W fun e w' => ∃ (M : Nat) (pp : Option Addr) (pc : Nat) (ys : List SV), e = .returned (.tuple #[.slice pp M pc, .int .i64 0]) ∧ ys.length = M ∧ LL w' pp pc ys ∧ ys.map SV.rs = (dn[k]!).ports ∧ Below W.heap.size W w' := by
  have i1 := ho.le
  have i2 := ho.top
  rw [hn] at i1
  obtain ⟨V, hV⟩ : ∃ V, V = W.alloc (.cells #[.int .i64 parts, .slice p n cap] 24 (0, 0)) := ⟨_, rfl⟩
  have hbV : Below W.heap.size W V := by rw [hV]; exact alloc_below _ _
  have x0 : V.heap[W.heap.size]? = some (.cells #[.int .i64 parts, .slice p n cap] 24 (0, 0)) := by rw [hV]; exact heap_alloc_new _ _
  obtain ⟨gB, hgB⟩ : ∃ gB, W.heap.size = gB := ⟨_, rfl⟩
  rw [hgB] at x0
  have hfl := fault_any (parts := parts) (q := q) (qc := qc) (L := L) (ho.below hbV) hn
  rw [hfa] at hfl
  have HFL := hide hfl
  have HRS : Hid (∀ X, Below W.heap.size W X → Calls Tryz.prog 18 #[.slice p (k + 1) cap, .slice q L qc] X fun e w' => ∃ db rv, e = .returned (.slice (some ⟨db, 0, none⟩) (k + 1) (k + 1)) ∧ DI w' X.heap.size db (k + 1) (k + 1) dn (flatC ((os.take (k + 1)).map OV.o)) rv ∧ Below X.heap.size X w') := hide (fun X hX =>
    results_any ((ho.below hX).take (by omega)) (by rw [List.length_take]; omega) (hx.later hX) hL hf hxs)
  have HNI : Hid (∀ j : Int, (⟨(k : Int), j⟩ : GE) ∉ flatC ((os.take (k + 1)).map OV.o)) := by
    refine hide (fun j hm => ?_)
    have h9 := ahead_not hf (n := k + 1) (k := k + 1) (i := k) (j := j) (Nat.le_refl _) (by rw [List.length_map, List.length_take]; omega) (Nat.le_refl _)
    rw [List.take_of_length_le (by rw [List.length_map, List.length_take]; omega)] at h9
    exact h9 hm
  have HBV := hide hbV
  have HX0 := hide x0
  have HGB := hide hgB
  have hf1 : k + 1 ≤ cap := by omega
  have hf0 : (k : Int) < (k : Int) + 1 := by omega
  have hf2 : (k : Int) + 1 ≤ (cap : Int) := by omega
  have hf3 : (0 : Int) ≤ (k : Int) + 1 := by omega
  have hf4 : ((k : Int) + 1).toNat = k + 1 := by omega
  have hf5 : IntKind.i64.wrap ((k : Int) + 1) = (k : Int) + 1 := by rw [IntKind.wrap_i64]; omega
  have hd1 : decide ((k : Int) < 0) = false := decide_eq_false (by omega)
  have hd2 : decide ((k : Int) ≥ (n : Int)) = false := decide_eq_false (by omega)
  clear ho hn hx hL hfa hf hxs hbV x0 hfl
  go_enter Tryz.func8, Tryz.ntmps8
  go_wp2_with fail
  rw [← hV]
  try rw [hgB]
  clear hV hgB
  refine HFL.out.mono ?_
  rintro _ w1 ⟨rfl, hB1⟩
  have hBW1 : Below W.heap.size W w1 := HBV.out.trans (hB1.mono HBV.out.size)
  have y1 := below_box hB1 HX0.out
  have a1 : w1.cell? ⟨gB, 1, none⟩ = some (.slice p n cap) := by simp [World.cell?, y1]
  have HR1 := hide (HRS.out w1 hBW1)
  have HBW1 := hide hBW1
  clear y1 hB1 hBW1 HFL HRS
  go_wp2_with fail
  refine HR1.out.mono ?_
  rintro _ w2 ⟨db, rv, rfl, hD, hB2⟩
  obtain ⟨x, hx⟩ : ∃ x, rv[k]! = x := ⟨_, rfl⟩
  obtain ⟨c0, hLL, hpl⟩ := hD.last (by omega) HNI.out hx
  obtain ⟨ports, pp, pc, x3, x4, x5, x6, x7, x8, x9, x10⟩ := x
  simp only at c0 hLL hpl
  obtain ⟨M, hM⟩ : ∃ M, ports.length = M := ⟨_, rfl⟩
  rw [hM] at c0
  have HLL := hide hLL
  have HPL := hide hpl
  have HM := hide hM
  have HB2 := hide (HBW1.out.trans (hB2.mono HBW1.out.size))
  clear hD hB2 hx hLL hpl hM HR1 HNI
  go_wp2
  go_ret2
  exact ⟨M, pp, pc, ports, rfl, HM.out, HLL.out, HPL.out, HB2.out⟩
end Go.Proofs.YtifldnpccgbnkaaGreat

/-
  The law's graph of two sources and a union; what it comes to, plainly. No conditions.
-/
namespace Go.Proofs.YtifldnpccgbnkaaGreat
open Go.RowKit Go.Shelf

def mergeO : List GO := [⟨1, 0, 0, 0, []⟩, ⟨1, 1, 0, 0, []⟩, ⟨8, 0, 0, 0, [⟨0, 0⟩, ⟨1, 0⟩]⟩, ⟨9, 0, 0, 0, [⟨2, 0⟩]⟩]
def mergeV (b : Nat) : List OV := [⟨⟨1, 0, 0, 0, []⟩, none, 0⟩, ⟨⟨1, 1, 0, 0, []⟩, none, 0⟩, ⟨⟨8, 0, 0, 0, [⟨0, 0⟩, ⟨1, 0⟩]⟩, some ⟨b + 1, 0, none⟩, 2⟩, ⟨⟨9, 0, 0, 0, [⟨2, 0⟩]⟩, some ⟨b + 2, 0, none⟩, 1⟩]
theorem mergeV_o (b : Nat) : (mergeV b).map OV.o = mergeO := rfl
theorem merge_row {W : World} {b : Nat} (h1 : W.heap[b + 1]? = some (.cells #[.int .i64 0, .int .i64 0, .int .i64 1, .int .i64 0] 52 (0, 0))) (h2 : W.heap[b + 2]? = some (.cells #[.int .i64 2, .int .i64 0] 52 (0, 0)))
    (h3 : W.heap[b + 3]? = some (.cells #[.int .i64 1, .int .i64 0, .int .i64 0, .int .i64 0, .slice none 0 0, .int .i64 1, .int .i64 1, .int .i64 0, .int .i64 0, .slice none 0 0, .int .i64 8, .int .i64 0, .int .i64 0, .int .i64 0, .slice (some ⟨b + 1, 0, none⟩) 2 2, .int .i64 9, .int .i64 0, .int .i64 0, .int .i64 0, .slice (some ⟨b + 2, 0, none⟩) 1 1] 55 (0, 0))) : GRow W (some ⟨b + 3, 0, none⟩) 4 (mergeV b) := by
  refine ⟨Nat.le_refl _, by decide, ?_, ?_⟩
  · intro i hi
    refine ⟨b + 3, 0, rfl, fun j hj => ?_⟩
    have hi4 : i < 4 := hi
    simp only [World.cell?]
    rw [h3]
    rcases (by omega : i = 0 ∨ i = 1 ∨ i = 2 ∨ i = 3) with rfl | rfl | rfl | rfl <;> rcases (by omega : j = 0 ∨ j = 1 ∨ j = 2 ∨ j = 3 ∨ j = 4) with rfl | rfl | rfl | rfl | rfl <;> rfl
  · intro x hx
    simp only [mergeV, List.mem_cons, List.not_mem_nil, or_false] at hx
    rcases hx with rfl | rfl | rfl | rfl
    · exact ⟨Nat.le_refl _, by decide, fun i hi => absurd hi (Nat.not_lt_zero i)⟩
    · exact ⟨Nat.le_refl _, by decide, fun i hi => absurd hi (Nat.not_lt_zero i)⟩
    · refine ⟨Nat.le_refl _, by simp only; omega, fun i hi => ?_⟩
      have hi2 : i < 2 := hi
      refine ⟨b + 1, 0, rfl, ?_, ?_⟩ <;> simp only [World.cell?] <;> rw [h1] <;> rcases (by omega : i = 0 ∨ i = 1) with rfl | rfl <;> rfl
    · refine ⟨Nat.le_refl _, by simp only; omega, fun i hi => ?_⟩
      have hi1 : i < 1 := hi
      obtain rfl : i = 0 := by omega
      refine ⟨b + 2, 0, rfl, ?_, ?_⟩ <;> simp only [World.cell?] <;> rw [h2] <;> rfl

theorem four_alloc (W : World) (a b c d : Obj) : ((((W.alloc a).alloc b).alloc c).alloc d).heap[W.heap.size]? = some a ∧ ((((W.alloc a).alloc b).alloc c).alloc d).heap[W.heap.size + 1]? = some b ∧ ((((W.alloc a).alloc b).alloc c).alloc d).heap[W.heap.size + 2]? = some c ∧ ((((W.alloc a).alloc b).alloc c).alloc d).heap[W.heap.size + 3]? = some d ∧ Below W.heap.size W ((((W.alloc a).alloc b).alloc c).alloc d) := by
  have b0 := alloc_below W a
  have b1 := alloc_below (W.alloc a) b
  have b2 := alloc_below ((W.alloc a).alloc b) c
  have b3 := alloc_below (((W.alloc a).alloc b).alloc c) d
  refine ⟨below_box b3 (below_box b2 (below_box b1 (heap_alloc_new W a))), ?_, ?_, ?_, ?_⟩
  · have h := heap_alloc_new (W.alloc a) b
    rw [World.size_alloc] at h
    exact below_box b3 (below_box b2 h)
  · have h := heap_alloc_new ((W.alloc a).alloc b) c
    rw [World.size_alloc, World.size_alloc] at h
    exact below_box b3 h
  · have h := heap_alloc_new (((W.alloc a).alloc b).alloc c) d
    rw [World.size_alloc, World.size_alloc, World.size_alloc] at h
    exact h
  · exact b0.trans ((b1.mono b0.size).trans ((b2.mono (Nat.le_trans b0.size b1.size)).trans (b3.mono (Nat.le_trans b0.size (Nat.le_trans b1.size b2.size)))))
set_option maxRecDepth 100000 in
set_option maxHeartbeats 4000000 in
theorem merge_any {W : World} : Calls Tryz.prog 22 #[] W fun e w' => ∃ b, e = .returned (.agg #[.int .i64 2, .slice (some ⟨b + 3, 0, none⟩) 4 4]) ∧ GRow w' (some ⟨b + 3, 0, none⟩) 4 (mergeV b) ∧ Below W.heap.size W w' := by
  go_enter Tryz.func22, Tryz.ntmps22
  go_wp2
  obtain ⟨h0, h1, h2, h3, hb⟩ := four_alloc W (.cells #[.int .i64 2, .slice (some ⟨W.heap.size + 1 + 1 + 1, 0, none⟩) 4 4] 24 (0, 0)) (.cells #[.int .i64 0, .int .i64 0, .int .i64 1, .int .i64 0] 52 (0, 0)) (.cells #[.int .i64 2, .int .i64 0] 52 (0, 0)) (.cells #[.int .i64 1, .int .i64 0, .int .i64 0, .int .i64 0, .slice none 0 0, .int .i64 1, .int .i64 1, .int .i64 0, .int .i64 0, .slice none 0 0, .int .i64 8, .int .i64 0, .int .i64 0, .int .i64 0, .slice (some ⟨W.heap.size + 1, 0, none⟩) 2 2, .int .i64 9, .int .i64 0, .int .i64 0, .int .i64 0, .slice (some ⟨W.heap.size + 1 + 1, 0, none⟩) 1 1] 55 (0, 0))
  refine bodyPost_ret (results_cell_row rfl _ _ W.heap.size 24 _ _ _ rfl h0 Tryz.underlying24 rfl (by kernel_rfl)) rfl ?_
  exact ⟨W.heap.size, rfl, merge_row h1 h2 h3, hb⟩

def l123 : List RC := [⟨0, 1⟩, ⟨0, 2⟩, ⟨0, 3⟩]
def l9 : List RC := [⟨0, 9⟩]
def rfM (o : GO) : List (List RC) → RS := if o.kind = 8 then unionC else sinkC
def dnM : List RS := [⟨[l123], [], 0, []⟩, ⟨[l9], [], 0, []⟩, ⟨[[⟨0, 1⟩, ⟨0, 9⟩, ⟨0, 2⟩]], [], 1, [[⟨0, 3⟩], []]⟩, ⟨[], [], 0, []⟩]
theorem union_merge : unionC [l123, l9] = ⟨[[⟨0, 1⟩, ⟨0, 9⟩, ⟨0, 2⟩]], [], 1, [[⟨0, 3⟩], []]⟩ := by
  have : turnN [l123, l9] 0 = 3 := by decide
  unfold unionC
  rw [this]
  rfl
theorem fits_merge : Fits rfM mergeO [l123, l9] dnM := by
  refine ⟨rfl, ?_, ?_, ?_, by decide, ?_, ?_, by decide⟩
  · intro k hk
    have hk4 : k < 4 := hk
    rcases (by omega : k = 0 ∨ k = 1 ∨ k = 2 ∨ k = 3) with rfl | rfl | rfl | rfl
    · rfl
    · rfl
    · show _ = unionC [l123, l9]
      rw [union_merge]
      rfl
    · rfl
  · intro k hk h1
    have hk4 : k < 4 := hk
    rcases (by omega : k = 0 ∨ k = 1 ∨ k = 2 ∨ k = 3) with rfl | rfl | rfl | rfl
    · exact ⟨by decide, by decide, rfl⟩
    · exact ⟨by decide, by decide, rfl⟩
    · exact absurd h1 (by decide)
    · exact absurd h1 (by decide)
  · intro k hk h1
    have hk4 : k < 4 := hk
    rcases (by omega : k = 0 ∨ k = 1 ∨ k = 2 ∨ k = 3) with rfl | rfl | rfl | rfl
    · exact absurd rfl h1
    · exact absurd rfl h1
    · refine ⟨by decide, fun e he => ?_⟩
      have he2 : e ∈ [(⟨0, 0⟩ : GE), ⟨1, 0⟩] := he
      simp only [List.mem_cons, List.not_mem_nil, or_false] at he2
      rcases he2 with rfl | rfl
      · exact ⟨0, 0, rfl, by decide, by decide⟩
      · exact ⟨1, 0, rfl, by decide, by decide⟩
    · refine ⟨by decide, fun e he => ?_⟩
      have he2 : e ∈ [(⟨2, 0⟩ : GE)] := he
      simp only [List.mem_cons, List.not_mem_nil, or_false] at he2
      subst he2
      exact ⟨2, 0, rfl, by decide, by decide⟩
  · intro k hk h1
    have hk4 : k < 4 := hk
    rcases (by omega : k = 0 ∨ k = 1 ∨ k = 2 ∨ k = 3) with rfl | rfl | rfl | rfl
    · exact absurd rfl h1
    · exact absurd rfl h1
    · exact union_any rfl (by decide)
    · exact sinkR_any rfl (by decide)
  · intro k hk l hl
    have hk4 : k < 4 := hk
    have key : ∀ l ∈ [l123, l9, [⟨0, 1⟩, ⟨0, 9⟩, ⟨0, 2⟩]], l.length ≤ lenB ∧ ∀ r ∈ l, r.fine := by
      intro l hl
      simp only [List.mem_cons, List.not_mem_nil, or_false] at hl
      rcases hl with rfl | rfl | rfl
      all_goals
        refine ⟨by decide, fun r hr => ?_⟩
        simp only [l123, l9, List.mem_cons, List.not_mem_nil, or_false] at hr
        rcases hr with rfl | rfl | rfl <;> exact ⟨⟨by decide, by decide⟩, ⟨by decide, by decide⟩⟩
    rcases (by omega : k = 0 ∨ k = 1 ∨ k = 2 ∨ k = 3) with rfl | rfl | rfl | rfl
    · have hl2 : l ∈ [l123] := hl
      exact key l (by simp only [List.mem_cons, List.not_mem_nil, or_false] at hl2 ⊢; exact .inl hl2)
    · have hl2 : l ∈ [l9] := hl
      exact key l (by simp only [List.mem_cons, List.not_mem_nil, or_false] at hl2 ⊢; exact .inr (.inl hl2))
    · have hl2 : l ∈ [[(⟨0, 1⟩ : RC), ⟨0, 9⟩, ⟨0, 2⟩]] := hl
      exact key l (by simp only [List.mem_cons, List.not_mem_nil, or_false] at hl2 ⊢; exact .inr (.inr hl2))
    · cases hl
theorem fits_merge3 : Fits rfM (mergeO.take 3) [l123, l9] (dnM.take 3) := by
  have h := fits_merge
  refine ⟨rfl, ?_, ?_, ?_, by decide, ?_, ?_, by decide⟩
  · intro k hk
    have hk3 : k < 3 := hk
    rcases (by omega : k = 0 ∨ k = 1 ∨ k = 2) with rfl | rfl | rfl
    · rfl
    · rfl
    · show _ = unionC [l123, l9]
      rw [union_merge]
      rfl
  · intro k hk h1
    have hk3 : k < 3 := hk
    rcases (by omega : k = 0 ∨ k = 1 ∨ k = 2) with rfl | rfl | rfl
    · exact h.src 0 (by decide) rfl
    · exact h.src 1 (by decide) rfl
    · exact absurd h1 (by decide)
  · intro k hk h1
    have hk3 : k < 3 := hk
    rcases (by omega : k = 0 ∨ k = 1 ∨ k = 2) with rfl | rfl | rfl
    · exact absurd rfl h1
    · exact absurd rfl h1
    · refine ⟨by decide, fun e he => ?_⟩
      have he2 : e ∈ [(⟨0, 0⟩ : GE), ⟨1, 0⟩] := he
      simp only [List.mem_cons, List.not_mem_nil, or_false] at he2
      rcases he2 with rfl | rfl
      · exact ⟨0, 0, rfl, by decide, by decide⟩
      · exact ⟨1, 0, rfl, by decide, by decide⟩
  · intro k hk h1
    have hk3 : k < 3 := hk
    rcases (by omega : k = 0 ∨ k = 1 ∨ k = 2) with rfl | rfl | rfl
    · exact absurd rfl h1
    · exact absurd rfl h1
    · exact union_any rfl (by decide)
  · intro k hk l hl
    have hk3 : k < 3 := hk
    rcases (by omega : k = 0 ∨ k = 1 ∨ k = 2) with rfl | rfl | rfl
    · exact h.size 0 (by decide) l hl
    · exact h.size 1 (by decide) l hl
    · exact h.size 2 (by decide) l hl
theorem fault_merge : faultC 2 mergeO 2 = 0 := by decide
theorem sink_merge : firstO sinkF mergeO = some 3 := by decide
end Go.Proofs.YtifldnpccgbnkaaGreat

/-
  The program's States of a graph that may be. The conditions: as for results.
-/
namespace Go.Proofs.YtifldnpccgbnkaaGreat
open Go.RowKit Go.Shelf

theorem Tryz.infoTask : (Tryz.prog.info? 60).map (fun i => (i.zero, i.size, i.bytes)) = some (some (.agg #[.slice none 0 0, .int .i64 0, .slice none 0 0]), 3, 56) := by kernel_rfl
def RV.task (x : RV) : List Value := [x.kv, .int .i64 x.turn, x.bv]
theorem RV.tlen (x : RV) : x.task.length = 3 := rfl
theorem made_task : ∀ n, (madeCells (Value.agg #[.slice none 0 0, .int .i64 0, .slice none 0 0]).cells (n * 3)).toList = (List.replicate n (default : RV)).flatMap RV.task := by
  intro n
  apply List.ext_getElem?
  intro i
  by_cases hi : i < n * 3
  · have h1 : i = (i / 3) * 3 + i % 3 := by omega
    have h4 : i % 3 < 3 := Nat.mod_lt _ (by decide)
    have h5 : i / 3 < n := by omega
    have h2 := flat_get (cells := RV.task) (List.replicate n (default : RV)) (fun o _ => o.tlen) (i / 3) (i % 3) (by simpa using h5) h4
    rw [← h1, getElem!_pos _ (i / 3) (by simpa using h5), List.getElem_replicate] at h2
    rw [h2]
    rw [List.getElem?_eq_getElem (by simp [size_madeCells]; exact hi)]
    simp [madeCells, Value.cells]
    rcases (by omega : i % 3 = 0 ∨ i % 3 = 1 ∨ i % 3 = 2) with e | e | e <;> rw [e] <;> rfl
  · rw [List.getElem?_eq_none (by simp [size_madeCells]; omega), List.getElem?_eq_none (by rw [flat_len (size := 3) _ (fun o _ => o.tlen)]; simp; omega)]
def setT (W : World) (db k : Nat) (x : RV) : World := ((W.setCell ⟨db, k * 3, none⟩ x.kv).setCell ⟨db, k * 3 + 1, none⟩ (.int .i64 x.turn)).setCell ⟨db, k * 3 + 2, none⟩ x.bv
theorem setT_only (W : World) (db k : Nat) (x : RV) : Only (· = db) W (setT W db k x) :=
  (Only.set (F := (· = db)) W db _ _ rfl).trans ((Only.set (F := (· = db)) _ db _ _ rfl).trans (Only.set (F := (· = db)) _ db _ _ rfl))
theorem RV.tstored {W : World} {base g n cap k : Nat} {es : List RV} (h : W.ownsRow base 60 3 (.slice (some ⟨g, 0, none⟩) n cap) n (es.flatMap RV.task)) (hk : k < es.length) (x : RV) :
    (setT W g k x).ownsRow base 60 3 (.slice (some ⟨g, 0, none⟩) n cap) n ((es.set k x).flatMap RV.task) := by
  obtain ⟨e, he⟩ : ∃ e, es[k]! = e := ⟨_, rfl⟩
  have hset : ∀ (l : List RV) (y : RV), k < l.length → (l.set k y)[k]! = y := fun l y hl => by rw [getElem!_pos _ k (by simpa using hl), List.getElem_set_self]
  have step : ∀ (w : World) (l : List RV) (a : RV) (j : Nat) (y : RV) (u : Value), j < 3 → k < l.length → l[k]! = a → RV.task y = (RV.task a).set j u → w.ownsRow base 60 3 (.slice (some ⟨g, 0, none⟩) n cap) n (l.flatMap RV.task) → (w.setCell ⟨g, k * 3 + j, none⟩ u).ownsRow base 60 3 (.slice (some ⟨g, 0, none⟩) n cap) n ((l.set k y).flatMap RV.task) := fun w l a j y u hj hl ha hy h9 => by
    rw [flat_set (cells := RV.task) l (fun o _ => o.tlen) k j y u hl hj (by rw [ha]; exact hy)]
    exact (h9.stored (k * 3 + j) u).1
  obtain ⟨xp, xpp, xpc, xk, xkp, xkn, xkc, xt, xb, xbp, xbc⟩ := x
  obtain ⟨ep, epp, epc, ek, ekp, ekn, ekc, et, eb, ebp, ebc⟩ := e
  have s1 := step _ _ ⟨ep, epp, epc, ek, ekp, ekn, ekc, et, eb, ebp, ebc⟩ 0 ⟨xp, xpp, xpc, xk, xkp, xkn, xkc, et, eb, ebp, ebc⟩ (.slice xkp xkn xkc) (by decide) hk he rfl h
  have s2 := step _ _ ⟨xp, xpp, xpc, xk, xkp, xkn, xkc, et, eb, ebp, ebc⟩ 1 ⟨xp, xpp, xpc, xk, xkp, xkn, xkc, xt, eb, ebp, ebc⟩ (.int .i64 xt) (by decide) (by simpa using hk) (hset _ _ hk) rfl s1
  have s3 := step _ _ ⟨xp, xpp, xpc, xk, xkp, xkn, xkc, xt, eb, ebp, ebc⟩ 2 ⟨xp, xpp, xpc, xk, xkp, xkn, xkc, xt, xb, xbp, xbc⟩ (.slice xbp xb.length xbc) (by decide) (by simpa using hk) (hset _ _ (by simpa using hk)) rfl s2
  simp only [List.set_set, Nat.add_zero] at s3
  exact s3
theorem setT_facts {W : World} {base g n cap k : Nat} {es : List Value} (h : W.ownsRow base 60 3 (.slice (some ⟨g, 0, none⟩) n cap) n es) (hk : k < n) (d0 d1 : Value) :
    ∃ c0 c1 c2, W.cell? ⟨g, k * 3, none⟩ = some c0 ∧ W.frozen? ⟨g, k * 3, none⟩ = false ∧ (W.setCell ⟨g, k * 3, none⟩ d0).cell? ⟨g, k * 3 + 1, none⟩ = some c1 ∧ (W.setCell ⟨g, k * 3, none⟩ d0).frozen? ⟨g, k * 3 + 1, none⟩ = false ∧
    ((W.setCell ⟨g, k * 3, none⟩ d0).setCell ⟨g, k * 3 + 1, none⟩ d1).cell? ⟨g, k * 3 + 2, none⟩ = some c2 ∧ ((W.setCell ⟨g, k * 3, none⟩ d0).setCell ⟨g, k * 3 + 1, none⟩ d1).frozen? ⟨g, k * 3 + 2, none⟩ = false := by
  have h1 := (h.stored (k * 3) d0).1
  have h2 := (h1.stored (k * 3 + 1) d1).1
  obtain ⟨⟨c0, a0⟩, b0⟩ := row_at h (i := k * 3) (by omega)
  obtain ⟨⟨c1, a1⟩, b1⟩ := row_at h1 (i := k * 3 + 1) (by omega)
  obtain ⟨⟨c2, a2⟩, b2⟩ := row_at h2 (i := k * 3 + 2) (by omega)
  exact ⟨c0, c1, c2, a0, b0, a1, b1, a2, b2⟩
theorem DI.task {W : World} {B b2 db n k g m c : Nat} {dn : List RS} {E : List GE} {rv : List RV} {zs : List Value} (h : DI W B db n k dn E rv) (hr : W.ownsRow b2 60 3 (.slice (some ⟨g, 0, none⟩) m c) m zs) {X : World} (ho : Only (· = g) W X) : DI X B db n k dn E rv := by
  have ht : ∀ (b : Nat) (e : TypeId) (sz m : Nat) (u : Value) (us : List Value), W.ownsRow b e sz u m us → e ≠ 60 → X.ownsRow b e sz u m us := fun b e sz m u us hu he =>
    ownsRow_only hu ho (fun c hb e' => by
      have e2 : c = g := e'
      rw [e2] at hb
      exact rows_apart hu hr he rfl hb)
  exact ⟨h.len, ht _ _ _ _ _ _ h.row (by decide), fun i hi => ⟨ht _ _ _ _ _ _ (h.ok i hi).prow (by decide), fun z hz => ht _ _ _ _ _ _ ((h.ok i hi).pown z hz) (by decide), ht _ _ _ _ _ _ (h.ok i hi).krow (by decide), ht _ _ _ _ _ _ (h.ok i hi).brow (by decide), fun z hz => ht _ _ _ _ _ _ ((h.ok i hi).bown z hz) (by decide), (h.ok i hi).apart⟩, h.plain, h.apart⟩

set_option maxRecDepth 100000 in
set_option maxHeartbeats 8000000 in
theorem states_ok {rf : GO → List (List RC) → RS} {W : World} {parts : Int} {p q : Option Addr} {cap qc n L : Nat} {os : List OV} {xs : List SV} {dn : List RS} (ho : GRow W p cap os) (hn : os.length = n) (hx : LL W q qc xs) (hL : xs.length = L) (hfa : faultC parts (os.map OV.o) L = 0) (hf : Fits rf (os.map OV.o) (xs.map SV.rs) dn) (hxs : ∀ x ∈ xs, x.rs.length ≤ lenB) :
    Calls Tryz.prog 11 #[.agg #[.int .i64 parts, .slice p n cap], .slice q L qc] W fun e w' => ∃ sb db rv, e = .returned (.tuple #[.slice (some ⟨sb, 0, none⟩) n n, .int .i64 0]) ∧ w'.ownsRow W.heap.size 60 3 (.slice (some ⟨sb, 0, none⟩) n n) n (rv.flatMap RV.task) ∧ DI w' W.heap.size db n n dn (flatC (os.map OV.o)) rv ∧ Below W.heap.size W w' := by
  obtain ⟨i0, hI0, hz0, hz1, hz2⟩ := info_parts Tryz.infoTask
  have i1 := ho.le
  have i2 := ho.top
  rw [hn] at i1
  have hn24 : n ≤ 24 := by have := hf.few; rw [List.length_map, hn] at this; exact this
  obtain ⟨V, hV⟩ : ∃ V, V = W.alloc (.cells #[.int .i64 parts, .slice p n cap] 24 (0, 0)) := ⟨_, rfl⟩
  have hbV : Below W.heap.size W V := by rw [hV]; exact alloc_below _ _
  have x0 : V.heap[W.heap.size]? = some (.cells #[.int .i64 parts, .slice p n cap] 24 (0, 0)) := by rw [hV]; exact heap_alloc_new _ _
  obtain ⟨gB, hgB⟩ : ∃ gB, W.heap.size = gB := ⟨_, rfl⟩
  rw [hgB] at x0
  have hfl := fault_any (parts := parts) (q := q) (qc := qc) (L := L) (ho.below hbV) hn
  rw [hfa] at hfl
  have HFL := hide hfl
  have HRS : Hid (∀ X, Below W.heap.size W X → Calls Tryz.prog 18 #[.slice p n cap, .slice q L qc] X fun e w' => ∃ db rv, e = .returned (.slice (some ⟨db, 0, none⟩) n n) ∧ DI w' X.heap.size db n n dn (flatC (os.map OV.o)) rv ∧ Below X.heap.size X w') := hide (fun X hX =>
    results_any (ho.below hX) hn (hx.later hX) hL hf hxs)
  have HBV := hide hbV
  have HX0 := hide x0
  have HGB := hide hgB
  clear ho hn hx hL hfa hf hxs hbV x0 hfl
  go_enter Tryz.func11, Tryz.ntmps11
  go_wp2_with fail
  rw [← hV]
  try rw [hgB]
  clear hV hgB
  refine HFL.out.mono ?_
  rintro _ w1 ⟨rfl, hB1⟩
  have hBW1 : Below W.heap.size W w1 := HBV.out.trans (hB1.mono HBV.out.size)
  have y1 := below_box hB1 HX0.out
  have a1 : w1.cell? ⟨gB, 1, none⟩ = some (.slice p n cap) := by simp [World.cell?, y1]
  obtain ⟨w2, hrun, hown, hgr⟩ := run_make_full w1 W.heap.size 37 60 i0 (.agg #[.slice none 0 0, .int .i64 0, .slice none 0 0]) 3 Tryz.underlying37 hI0 hz0 hz1 .i64 .i64 n (by rw [hz2]; omega) (by unfold maxLen; omega) hBW1.size
  rw [made_task] at hown
  have hb2 : Below w1.heap.size w1 w2 := (Below.refl _ w1).grown hgr (Nat.le_refl _) (fun k hk => by simp at hk)
  obtain ⟨sb, hsb⟩ : ∃ sb, w1.heap.size = sb := ⟨_, rfl⟩
  rw [hsb] at hrun hown
  have y2 := below_box hb2 y1
  have a2 : w2.cell? ⟨gB, 1, none⟩ = some (.slice p n cap) := by simp [World.cell?, y2]
  have hBW2 := hBW1.trans (hb2.mono hBW1.size)
  have HR2 := hide (HRS.out w2 hBW2)
  have HO2 := hide hown
  have HBW2 := hide hBW2
  clear y1 y2 hB1 hBW1 hBW2 hown hgr hb2 hsb HFL HRS
  go_wp2_with fail
  refine HR2.out.mono ?_
  rintro _ w3 ⟨db, rv, rfl, hD, hB3⟩
  have HD := hide (hD : DI w3 w2.heap.size db n n dn (flatC (os.map OV.o)) rv)
  have HO3 := hide (ownsRow_later HO2.out hB3)
  have HBW3 := hide (HBW2.out.trans (hB3.mono HBW2.out.size))
  clear hD hB3 a1 a2 hrun HR2
  go_wp2_with fail
  go_loopw [25] (fun s wr => ∃ (k : Nat) (ts : List RV), k ≤ n ∧ s = .int .i64 (k : Int) ∧ Hid (ts.length = n) ∧ Hid (∀ i, i < k → ts[i]! = rv[i]!) ∧ Hid (wr.ownsRow W.heap.size 60 3 (.slice (some ⟨sb, 0, none⟩) n n) n (ts.flatMap RV.task)) ∧ Hid (DI wr w2.heap.size db n n dn (flatC (os.map OV.o)) rv) ∧ Hid (Below W.heap.size W wr)) (fun s _ => n - (intOf s).toNat)
  case atStart => exact ⟨0, _, Nat.zero_le _, rfl, hide (by simp), hide (fun i hi => absurd hi (Nat.not_lt_zero i)), HO3, HD, HBW3⟩
  case round =>
    obtain ⟨k, ts, hk, rfl, HTL, HTS, HO, HDr, HBr⟩ := hrel
    rename World => wr
    clear HO3 HD HBW3
    by_cases hlt : k < n
    · obtain ⟨x, hx⟩ : ∃ x, rv[k]! = x := ⟨_, rfl⟩
      obtain ⟨d0, d1, d2, d3⟩ := own_getRV HDr.out.row HDr.out.len hlt hx
      unfold RV.pv at d0
      unfold RV.kv at d1
      unfold RV.bv at d3
      obtain ⟨pl, hpl⟩ : ∃ pl, x.ports.length = pl := ⟨_, rfl⟩
      obtain ⟨bl, hbl⟩ : ∃ bl, x.bufs.length = bl := ⟨_, rfl⟩
      rw [hpl] at d0
      rw [hbl] at d3
      obtain ⟨wb, hwb⟩ : ∃ wb, wb = wr.alloc (.cells #[.slice x.pp pl x.pc, .slice x.kp x.kn x.kc, .int .i64 x.turn, .slice x.bp bl x.bc] 62 (0, 0)) := ⟨_, rfl⟩
      have bb : Below wr.heap.size wr wb := by rw [hwb]; exact alloc_below _ _
      have xbox : wb.heap[wr.heap.size]? = some (.cells #[.slice x.pp pl x.pc, .slice x.kp x.kn x.kc, .int .i64 x.turn, .slice x.bp bl x.bc] 62 (0, 0)) := by rw [hwb]; exact heap_alloc_new _ _
      obtain ⟨xb, hxb⟩ : ∃ xb, wr.heap.size = xb := ⟨_, rfl⟩
      rw [hxb] at xbox
      have e1 : wb.cell? ⟨xb, 1, none⟩ = some (.slice x.kp x.kn x.kc) := by simp [World.cell?, xbox]
      have e2 : wb.cell? ⟨xb, 2, none⟩ = some (.int .i64 x.turn) := by simp [World.cell?, xbox]
      have e3 : wb.cell? ⟨xb, 3, none⟩ = some (.slice x.bp bl x.bc) := by simp [World.cell?, xbox]
      have hO4 := ownsRow_later HO.out bb
      obtain ⟨c0, c1, c2, f0, f1, f2, f3, f4, f5⟩ := setT_facts hO4 hlt (.slice x.kp x.kn x.kc) (.int .i64 x.turn)
      have hst := RV.tstored hO4 (k := k) (by rw [HTL.out]; exact hlt) x
      have hds := (HDr.out.later bb).task hO4 (setT_only wb sb k x)
      have hBb : Below W.heap.size W wb := HBr.out.trans (bb.mono HBr.out.size)
      have hBf : Below W.heap.size W (setT wb sb k x) := hBb.trans ((setT_only wb sb k x).below hBb.size (fun i e => by have e' : i = sb := e; have := own_block_base HO.out (b := sb) rfl; omega))
      have HTS2 : Hid (∀ i, i < k + 1 → (ts.set k x)[i]! = rv[i]!) := hide (fun i hi => by
        rw [get_setRV (by rw [HTL.out]; omega)]
        by_cases e : k = i
        · rw [if_pos e, ← e, hx]
        · rw [if_neg e]; exact HTS.out i (by omega))
      have HTL2 : Hid ((ts.set k x).length = n) := hide (by rw [List.length_set]; exact HTL.out)
      unfold setT RV.kv RV.bv at hst hds hBf
      rw [hbl] at hst hds hBf
      have HST := hide hst
      have HDS := hide hds
      have HBF := hide hBf
      clear hst hds hBf hBb hO4 bb xbox hpl hbl hx
      go_upto_region 8 with fail
      rw [← hwb]
      try rw [hxb]
      clear hwb hxb d0 d1 d2 d3
      go_wp2
      exact ⟨⟨k + 1, _, by omega, by first | rfl | go_num, HTL2, HTS2, HST, HDS, HBF⟩, by simp [intOf]; omega⟩
    · obtain rfl : k = n := by omega
      have hts : ts = rv := by
        apply List.ext_getElem
        · rw [HTL.out, HDr.out.len]
        · intro i h1 h2
          have := HTS.out i (by have := HTL.out; omega)
          rw [getElem!_pos ts i h1, getElem!_pos rv i h2] at this
          exact this
      rw [hts] at HO
      have hD9 : DI wr W.heap.size db k k dn (flatC (os.map OV.o)) rv := ⟨HDr.out.len, ownsRow_base HDr.out.row HBW2.out.size, fun i hi => (HDr.out.ok i hi).base HBW2.out.size, HDr.out.plain, HDr.out.apart⟩
      have HD9 := hide hD9
      clear hts hD9
      go_wp2
      go_ret2
      exact ⟨sb, db, rv, rfl, HO.out, HD9.out, HBr.out⟩
end Go.Proofs.YtifldnpccgbnkaaGreat

/-
  The law's begun: what the law's graph comes to of three records and one. No conditions.
-/
namespace Go.Proofs.YtifldnpccgbnkaaGreat
open Go.RowKit Go.Shelf

theorem row_cells {k : IntKind} {W : World} {b : Nat} {l : List Int} {cs : Array Value} {t : TypeId} (hm : l.length ≤ 9223372036854775807) (h : W.heap[b]? = some (.cells cs t (0, 0))) (hc : cs.toList = l.map (Value.int k)) : Row k W (.slice (some ⟨b, 0, none⟩) l.length l.length) l := by
  refine ⟨_, _, rfl, Nat.le_refl _, hm, by simp, fun _ => ⟨b, 0, rfl, fun i hi => ?_⟩⟩
  simp only [World.cell?]
  rw [h]
  show cs[0 + i]? = _
  rw [Nat.zero_add, ← Array.getElem?_toList, hc, List.getElem?_map, List.getD_eq_getElem?_getD, List.getElem?_eq_getElem hi]
  rfl
theorem two_lists {W : World} {b B1 B2 n1 n2 c1 c2 : Nat} {p1 p2 : Option Addr} {l1 l2 : List RC} (h : W.heap[b]? = some (.cells #[.slice p1 n1 c1, .slice p2 n2 c2] 26 (0, 0))) (h1 : W.ownsRow B1 71 2 (.slice p1 n1 c1) n1 (l1.flatMap RC.cells)) (h2 : W.ownsRow B2 71 2 (.slice p2 n2 c2) n2 (l2.flatMap RC.cells)) (e1 : l1.length = n1) (e2 : l2.length = n2) : LL W (some ⟨b, 0, none⟩) 2 [⟨l1, p1, c1⟩, ⟨l2, p2, c2⟩] := by
  subst e1 e2
  refine ⟨⟨Nat.le_refl _, by decide, by simp, ?_⟩, ?_⟩
  · intro i hi
    have hi2 : i < 2 := hi
    refine ⟨b, 0, rfl, fun j hj => ?_⟩
    obtain rfl : j = 0 := by omega
    simp only [World.cell?]
    rw [h]
    rcases (by omega : i = 0 ∨ i = 1) with rfl | rfl <;> rfl
  · intro x hx
    simp only [List.mem_cons, List.not_mem_nil, or_false] at hx
    rcases hx with rfl | rfl
    · exact LRow.of_own RC.len rfl h1
    · exact LRow.of_own RC.len rfl h2
theorem lens_small {p1 p2 : Option Addr} {c1 c2 : Nat} : ∀ x ∈ [(⟨l123, p1, c1⟩ : SV), ⟨l9, p2, c2⟩], x.rs.length ≤ lenB := by
  intro x hx
  simp only [List.mem_cons, List.not_mem_nil, or_false] at hx
  rcases hx with rfl | rfl
  · show 3 ≤ lenB
    decide
  · show 1 ≤ lenB
    decide
/-- Run of the law's graph. -/
theorem runM {W : World} {b qc : Nat} {q p1 p2 : Option Addr} {c1 c2 : Nat} (ho : GRow W (some ⟨b + 3, 0, none⟩) 4 (mergeV b)) (hx : LL W q qc [⟨l123, p1, c1⟩, ⟨l9, p2, c2⟩]) :
    Calls Tryz.prog 4 #[.agg #[.int .i64 2, .slice (some ⟨b + 3, 0, none⟩) 4 4], .slice q 2 qc] W fun e w' => ∃ p c, e = .returned (.tuple #[.slice p 3 c, .int .i64 0]) ∧ w'.ownsRow W.heap.size 71 2 (.slice p 3 c) 3 ([(⟨0, 1⟩ : RC), ⟨0, 9⟩, ⟨0, 2⟩].flatMap RC.cells) ∧ Below W.heap.size W w' := by
  refine (run_ok (rf := rfM) (parts := 2) (n := 4) (L := 2) (s := 3) (f := 2) (j := 0) (dn := dnM.take 3) ho rfl hx rfl fault_merge sink_merge (by decide) (show 0 < 1 by decide) rfl (by decide) fits_merge3 (by decide) lens_small).mono ?_
  rintro _ w' ⟨y, rfl, hy, hr, hb⟩
  obtain ⟨rs, p, c⟩ := y
  have hr2 : rs = [(⟨0, 1⟩ : RC), ⟨0, 9⟩, ⟨0, 2⟩] := hr
  subst hr2
  exact ⟨p, c, rfl, hy, hb⟩
/-- States of the law's graph. -/
theorem statesM {W : World} {b qc : Nat} {q p1 p2 : Option Addr} {c1 c2 : Nat} (ho : GRow W (some ⟨b + 3, 0, none⟩) 4 (mergeV b)) (hx : LL W q qc [⟨l123, p1, c1⟩, ⟨l9, p2, c2⟩]) :
    Calls Tryz.prog 11 #[.agg #[.int .i64 2, .slice (some ⟨b + 3, 0, none⟩) 4 4], .slice q 2 qc] W fun e w' => ∃ sb bb bc p c, e = .returned (.tuple #[.slice (some ⟨sb, 0, none⟩) 4 4, .int .i64 0]) ∧ w'.cell? ⟨sb, 7, none⟩ = some (.int .i64 1) ∧ w'.cell? ⟨sb, 8, none⟩ = some (.slice (some ⟨bb, 0, none⟩) 2 bc) ∧ 2 ≤ bc ∧ bc ≤ 9223372036854775807 ∧ w'.cell? ⟨bb, 0, none⟩ = some (.slice p 1 c) ∧ w'.ownsRow W.heap.size 71 2 (.slice p 1 c) 1 ([(⟨0, 3⟩ : RC)].flatMap RC.cells) ∧ Below W.heap.size W w' := by
  refine (states_ok (rf := rfM) (parts := 2) (n := 4) (L := 2) (dn := dnM) ho rfl hx rfl fault_merge fits_merge lens_small).mono ?_
  rintro _ w' ⟨sb, db, rv, rfl, hs, hd, hb⟩
  obtain ⟨x, hx2⟩ : ∃ x, rv[2]! = x := ⟨_, rfl⟩
  have hpl := hd.plain 2 (by decide)
  have hok := hd.ok 2 (by decide)
  rw [hx2] at hpl hok
  obtain ⟨_, e2, e3, _, _⟩ := hpl
  have e2' : x.turn = 1 := e2
  have e3' : x.bufs.map SV.rs = [[⟨0, 3⟩], []] := e3
  have hlen : x.bufs.length = 2 := by
    have := congrArg List.length e3'
    simpa using this
  have hbrow := hok.brow
  unfold RV.bv at hbrow
  obtain ⟨bb, hbp, hcell⟩ := own_cellR hbrow (show 0 < x.bufs.length by omega)
  obtain ⟨y, hy⟩ : ∃ y, x.bufs[0]! = y := ⟨_, rfl⟩
  have hy0 : x.bufs[0]'(by omega) = y := by rw [← hy, getElem!_pos x.bufs 0 (by omega)]
  have hyr : y.rs = [⟨0, 3⟩] := by
    have h9 : (x.bufs.map SV.rs)[0]'(by rw [List.length_map]; omega) = [⟨0, 3⟩] := by simp [e3']
    rw [List.getElem_map, hy0] at h9
    exact h9
  have hcell2 : w'.cell? ⟨bb, 0, none⟩ = some (.slice y.p y.rs.length y.c) := by
    rw [hcell, SV.flat, List.getD_eq_getElem?_getD, List.getElem?_map, List.getElem?_eq_getElem (by omega), hy0]
    rfl
  have hyo : y.own w' W.heap.size := hok.bown y (by rw [← hy0]; exact List.getElem_mem _)
  obtain ⟨_, _, ef, q1, q2⟩ := own_form hbrow
  simp only [Value.slice.injEq] at ef
  obtain ⟨_, _, rfl⟩ := ef
  obtain ⟨g', o', e, hc⟩ := (LRow.of_own RV.tlen hd.len hs).cell 2 (by have := hd.len; omega)
  simp only [Option.some.injEq, Addr.mk.injEq, and_true] at e
  obtain ⟨rfl, rfl⟩ := e
  rw [hx2] at hc
  obtain ⟨yrs, yp, yc⟩ := y
  simp only at hyr hcell2
  subst hyr
  refine ⟨sb, bb, x.bc, yp, yc, rfl, ?_, ?_, by omega, q2, hcell2, hyo, hb⟩
  · have := hc 1 (by decide)
    simp only [RV.task, e2'] at this
    exact this
  · have := hc 2 (by decide)
    simp only [RV.task, RV.bv, hlen, hbp] at this
    exact this
theorem recs_of {W : World} {a b c : Int} {o : Obj} (ho : o = .cells #[.int .i64 a, .int .i64 b, .int .i64 c] 2 (0, 0)) : Calls Tryz.prog 23 #[.slice (some ⟨W.heap.size, 0, none⟩) 3 3] (W.alloc o) fun e w' => ∃ p c1, e = .returned (.slice p 3 c1) ∧ w'.ownsRow W.heap.size 71 2 (.slice p 3 c1) 3 ([(⟨0, a⟩ : RC), ⟨0, b⟩, ⟨0, c⟩].flatMap RC.cells) ∧ Below W.heap.size W w' := by
  subst ho
  refine (records_any (l := [a, b, c]) (row_cells (by simp) (heap_alloc_new W _) rfl) (by simp)).mono ?_
  rintro _ w' ⟨p1, c1, rfl, h1, h2⟩
  have hb := alloc_below W (.cells #[.int .i64 a, .int .i64 b, .int .i64 c] 2 (0, 0))
  exact ⟨p1, c1, rfl, ownsRow_base h1 hb.size, hb.trans (h2.mono hb.size)⟩
theorem recs_one {W : World} {a : Int} {o : Obj} (ho : o = .cells #[.int .i64 a] 2 (0, 0)) : Calls Tryz.prog 23 #[.slice (some ⟨W.heap.size, 0, none⟩) 1 1] (W.alloc o) fun e w' => ∃ p c1, e = .returned (.slice p 1 c1) ∧ w'.ownsRow W.heap.size 71 2 (.slice p 1 c1) 1 ([(⟨0, a⟩ : RC)].flatMap RC.cells) ∧ Below W.heap.size W w' := by
  subst ho
  refine (records_any (l := [a]) (row_cells (by simp) (heap_alloc_new W _) rfl) (by simp)).mono ?_
  rintro _ w' ⟨p1, c1, rfl, h1, h2⟩
  have hb := alloc_below W (.cells #[.int .i64 a] 2 (0, 0))
  exact ⟨p1, c1, rfl, ownsRow_base h1 hb.size, hb.trans (h2.mono hb.size)⟩

set_option maxRecDepth 100000 in
set_option maxHeartbeats 8000000 in
theorem begun_any {W : World} : Calls Tryz.prog 6 #[] W fun e w' => e = .returned (.bool true) ∧ Below W.heap.size W w' := by
  go_enter Tryz.func6, Tryz.ntmps6
  go_wp2_with fail
  refine merge_any.mono ?_
  rintro _ w1 ⟨b, rfl, G1, B1⟩
  have HG1 := hide G1
  have HB1 := hide B1
  clear G1 B1
  go_wp2_with fail
  refine (recs_of rfl).mono ?_
  rintro _ w2 ⟨p1, c1, rfl, O2, B2⟩
  have HO2 := hide O2
  have HB2 := hide B2
  clear O2 B2
  go_wp2_with fail
  refine (recs_one rfl).mono ?_
  rintro _ w3 ⟨p2, c2, rfl, O3, B3⟩
  have a4 := alloc_below w3 (.cells #[.slice p1 3 c1, .slice p2 1 c2] 26 (0, 0))
  have hLL : LL (w3.alloc (.cells #[.slice p1 3 c1, .slice p2 1 c2] 26 (0, 0))) (some ⟨w3.heap.size, 0, none⟩) 2 [⟨l123, p1, c1⟩, ⟨l9, p2, c2⟩] :=
    two_lists (heap_alloc_new w3 _) (ownsRow_later (ownsRow_later HO2.out B3) a4) (ownsRow_later O3 a4) rfl rfl
  have hG4 := ((HG1.out.below HB2.out).below B3).below a4
  have HR := hide (runM hG4 hLL)
  have hBW4 : Below W.heap.size W (w3.alloc (.cells #[.slice p1 3 c1, .slice p2 1 c2] 26 (0, 0))) := HB1.out.trans (((HB2.out.trans (B3.mono HB2.out.size)).trans (a4.mono (Nat.le_trans HB2.out.size B3.size))).mono HB1.out.size)
  have HBW4 := hide hBW4
  clear hLL hG4 hBW4 a4 O3 B3 HO2 HB1 HB2 HG1
  go_wp2_with fail
  refine HR.out.mono ?_
  rintro _ w5 ⟨p5, c5, rfl, O5, B5⟩
  have HO5 := hide O5
  have HBW5 := hide (HBW4.out.trans (B5.mono HBW4.out.size))
  clear O5 B5 HR
  go_wp2_with fail
  refine merge_any.mono ?_
  rintro _ x1 ⟨b', rfl, G1, B1⟩
  have HG1 := hide G1
  have HB1 := hide B1
  clear G1 B1
  go_wp2_with fail
  refine (recs_of rfl).mono ?_
  rintro _ x2 ⟨q1, d1, rfl, O2, B2⟩
  have HO2 := hide O2
  have HB2 := hide B2
  clear O2 B2
  go_wp2_with fail
  refine (recs_one rfl).mono ?_
  rintro _ x3 ⟨q2, d2, rfl, O3, B3⟩
  have a4 := alloc_below x3 (.cells #[.slice q1 3 d1, .slice q2 1 d2] 26 (0, 0))
  have hLL : LL (x3.alloc (.cells #[.slice q1 3 d1, .slice q2 1 d2] 26 (0, 0))) (some ⟨x3.heap.size, 0, none⟩) 2 [⟨l123, q1, d1⟩, ⟨l9, q2, d2⟩] :=
    two_lists (heap_alloc_new x3 _) (ownsRow_later (ownsRow_later HO2.out B3) a4) (ownsRow_later O3 a4) rfl rfl
  have hG4 := ((HG1.out.below HB2.out).below B3).below a4
  have HR := hide (statesM hG4 hLL)
  have hB54 : Below w5.heap.size w5 (x3.alloc (.cells #[.slice q1 3 d1, .slice q2 1 d2] 26 (0, 0))) := HB1.out.trans (((HB2.out.trans (B3.mono HB2.out.size)).trans (a4.mono (Nat.le_trans HB2.out.size B3.size))).mono HB1.out.size)
  have HB54 := hide hB54
  clear hLL hG4 hB54 a4 O3 B3 HO2 HB1 HB2 HG1
  go_wp2_with fail
  refine HR.out.mono ?_
  rintro _ w6 ⟨sb, bb, bc, p6, c6, rfl, s1, s2, s3, s4, s5, O6, B6⟩
  have hB56 : Below w5.heap.size w5 w6 := HB54.out.trans (B6.mono HB54.out.size)
  have HB56 := hide hB56
  have HO56 := hide (ownsRow_later HO5.out hB56)
  have S1 := hide s1
  have S2 := hide s2
  have S5 := hide s5
  clear O6 B6 hB56 HR s1 s2 s5
  go_wp2_with fail
  refine (recs_of rfl).mono ?_
  rintro _ w7 ⟨p7, c7, rfl, O7, B7⟩
  have HEQ := hide (eqrc_any (L := 3) (LRow.of_own RC.len rfl (ownsRow_later HO56.out B7)) (LRow.of_own RC.len rfl O7) rfl)
  have HB67 := hide B7
  clear O7 B7
  go_wp2_with fail
  refine HEQ.out.mono ?_
  rintro _ w8 ⟨rfl, B8⟩
  have hB68 : Below w6.heap.size w6 w8 := HB67.out.trans (B8.mono HB67.out.size)
  have t1 := cell_later hB68 S1.out
  have t2 := cell_later hB68 S2.out
  have t5 := cell_later hB68 S5.out
  have HBF : Hid (Below W.heap.size W w8) := hide (HBW5.out.trans ((HB56.out.trans (hB68.mono HB56.out.size)).mono HBW5.out.size))
  clear hB68 B8 HEQ
  go_wp2
  go_ret
  exact ⟨rfl, HBF.out⟩
end Go.Proofs.YtifldnpccgbnkaaGreat
