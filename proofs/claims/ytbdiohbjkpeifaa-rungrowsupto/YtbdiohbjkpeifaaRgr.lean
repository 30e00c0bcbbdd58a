/-
  RunGrows: with more records of some partitions what comes out begins with what it was. The condition: what is handed in holds at most 1048576 values together.
-/
import Derived.Test.YtbdiohbjkpeifaaRbg
namespace Go.Proofs.Ytbdiohbjkpeifaa
open Go.RowKit Go.Shelf

theorem LRow.first {α : Type} [Inhabited α] {cells : α → List Value} {n : Nat} {W : World} {p : Option Addr} {cap : Nat} {os : List α} (h : LRow cells n W p cap os) {a : List α} (ha : a <+: os) : LRow cells n W p cap a := by
  obtain ⟨t, rfl⟩ := ha
  refine ⟨by have := h.le; rw [List.length_append] at this; omega, h.top, h.nil, fun i hi => ?_⟩
  obtain ⟨g, o, e, hc⟩ := h.cell i (by rw [List.length_append]; omega)
  refine ⟨g, o, e, fun j hj => ?_⟩
  rw [hc j hj, getElem!_pos a i hi, getElem!_pos (a ++ t) i (by rw [List.length_append]; omega), List.getElem_append_left]
def longL : List (List RC) → List (List RC) → List (List RC)
  | [], _ => []
  | a :: ks, bs => (a ++ bs.headD []) :: longL ks bs.tail
theorem long_len : ∀ ks bs, (longL ks bs).length = ks.length
  | [], _ => rfl
  | _ :: ks, bs => by simp [longL, long_len ks bs.tail]
theorem nil_get (i : Nat) : ([] : List (List RC))[i]! = [] := by rw [getElem!_neg _ i (by simp)]; rfl
theorem long_get : ∀ (ks bs : List (List RC)) (i : Nat), i < ks.length → (longL ks bs)[i]! = ks[i]! ++ bs[i]!
  | a :: ks, bs, 0, _ => by
    cases bs with
    | nil => rw [nil_get]; rfl
    | cons b bs => rfl
  | a :: ks, bs, i + 1, h => by
    have ih := long_get ks bs.tail i (by simpa using h)
    cases bs with
    | nil =>
      rw [nil_get]
      rw [show ([] : List (List RC)).tail = [] from rfl, nil_get] at ih
      exact ih
    | cons b bs => exact ih
theorem long_grow (ks bs : List (List RC)) : Grow ks (longL ks bs) := grow_of (long_len ks bs).symm (fun i hi => by rw [long_get ks bs i hi]; exact List.prefix_append _ _)
theorem long_sum : ∀ ks bs, ((longL ks bs).map List.length).sum ≤ weightL ks + weightL bs
  | [], bs => Nat.zero_le _
  | a :: ks, bs => by
    have ih := long_sum ks bs.tail
    cases bs with
    | nil =>
      rw [show ([] : List (List RC)).tail = [] from rfl] at ih
      simp only [longL, List.map_cons, List.sum_cons, weightL, List.headD_nil, List.append_nil, List.map_nil, List.sum_nil, List.tail_nil] at ih ⊢
      omega
    | cons b bs =>
      simp only [longL, List.map_cons, List.sum_cons, weightL, List.headD_cons, List.length_append, List.tail_cons] at ih ⊢
      omega
theorem plain_sum : ∀ ls : List (List RC), (ls.map List.length).sum ≤ weightL ls
  | [] => Nat.le_refl _
  | l :: ls => by
    have := plain_sum ls
    simp only [List.map_cons, List.sum_cons, weightL] at this ⊢
    omega
theorem mem_sum : ∀ (ls : List (List RC)), ∀ l ∈ ls, l.length ≤ (ls.map List.length).sum
  | [], l, h => by cases h
  | a :: ls, l, h => by
    rw [List.mem_cons] at h
    simp only [List.map_cons, List.sum_cons]
    rcases h with rfl | h
    · omega
    · have := mem_sum ls l h
      omega
theorem long_fine {ks bs : List (List RC)} (ha : ∀ l ∈ ks, ∀ r ∈ l, r.fine) (hb : ∀ l ∈ bs, ∀ r ∈ l, r.fine) : ∀ l ∈ longL ks bs, ∀ r ∈ l, r.fine := by
  intro l hl r hr
  obtain ⟨i, hi, rfl⟩ := List.getElem_of_mem hl
  have hi2 : i < ks.length := by rw [long_len] at hi; exact hi
  rw [← getElem!_pos _ i hi, long_get ks bs i hi2, List.mem_append] at hr
  rcases hr with hr | hr
  · exact get_fine ha i r hr
  · exact get_fine hb i r hr
theorem run_full {W : World} {parts : Int} {p q : Option Addr} {cap qc n L s f j : Nat} {os : List OV} {xs : List SV} {ls : List (List RC)} (g : Good parts (os.map OV.o)) (hLp : (L : Int) = parts) (ho : GRow W p cap os) (hn : os.length = n) (hx : LL W q qc xs) (hxl : xs.map SV.rs = ls) (hL : xs.length = L) (hfa : faultC parts (os.map OV.o) L = 0) (hof : ∀ o ∈ os.map OV.o, o.fine) (hf : ∀ l ∈ ls, ∀ r ∈ l, r.fine) (hT : (ls.map List.length).sum ≤ 1048576) (hs : firstO sinkF (os.map OV.o) = some s) (hsn : s < n) (hin : ((os.map OV.o)[s]!).ins = [⟨(f : Int), (j : Int)⟩]) (hfs : f < s) (hjp : (j : Int) < portsO (os.map OV.o) f) :
    Calls Try.prog 4 #[.agg #[.int .i64 parts, .slice p n cap], .slice q L qc] W fun e w' => ∃ (yp : Option Addr) (yc N : Nat), e = .returned (.tuple #[.slice yp N yc, .int .i64 0]) ∧ (((dnC ls (os.map OV.o))[f]!).ports[j]!).length = N ∧ RRow w' yp yc (((dnC ls (os.map OV.o))[f]!).ports[j]!) ∧ Below W.heap.size W w' := by
  subst hxl
  have hml : (os.map OV.o).length = n := by rw [List.length_map]; exact hn
  have hfn : f + 1 ≤ (os.map OV.o).length := by omega
  have hg1 : (dnC (xs.map SV.rs) ((os.map OV.o).take (f + 1)))[f]! = (dnC (xs.map SV.rs) (os.map OV.o))[f]! := dn_take_get (by omega) hfn
  have hos : (os.map OV.o)[s]! = (os[s]!).o := getO os (by omega)
  rw [hos] at hin
  refine (run_ok (rf := rfC) (dn := dnC (xs.map SV.rs) ((os.map OV.o).take (f + 1))) (f := f) (j := j) ho hn hx hL hfa hs hsn (by rw [hin]; exact Nat.zero_lt_one) (by rw [hin]; rfl) hfs ?_ ?_ ?_).mono ?_
  · rw [List.map_take]
    exact fits_dn g (by rw [List.length_map, hL]; exact hLp) hof hf hT hfn
  · rw [hg1, dn_ports (by omega)]
    omega
  · intro x hx2
    have := mem_sum (xs.map SV.rs) x.rs (List.mem_map_of_mem hx2)
    unfold lenB
    omega
  · rintro _ w' ⟨y, rfl, h1, h2, h3⟩
    rw [hg1] at h2
    rw [← h2]
    exact ⟨y.p, y.c, y.rs.length, rfl, rfl, h1.ok, h3⟩
theorem ports_full {W : World} {parts : Int} {p q : Option Addr} {cap qc n L k : Nat} {os : List OV} {xs : List SV} {ls : List (List RC)} (g : Good parts (os.map OV.o)) (hLp : (L : Int) = parts) (ho : GRow W p cap os) (hn : os.length = n) (hx : LL W q qc xs) (hxl : xs.map SV.rs = ls) (hL : xs.length = L) (hfa : faultC parts (os.map OV.o) L = 0) (hof : ∀ o ∈ os.map OV.o, o.fine) (hf : ∀ l ∈ ls, ∀ r ∈ l, r.fine) (hT : (ls.map List.length).sum ≤ 1048576) (hk : k < n) :
    Calls Try.prog 8 #[.agg #[.int .i64 parts, .slice p n cap], .int .i64 (k : Int), .slice q L qc] W fun e w' => ∃ (M : Nat) (pp : Option Addr) (pc : Nat) (ys : List SV), e = .returned (.tuple #[.slice pp M pc, .int .i64 0]) ∧ ys.length = M ∧ (M : Int) = portsO (os.map OV.o) k ∧ LL w' pp pc ys ∧ ys.map SV.rs = ((dnC ls (os.map OV.o))[k]!).ports ∧ Below W.heap.size W w' := by
  subst hxl
  have hml : (os.map OV.o).length = n := by rw [List.length_map]; exact hn
  have hfn : k + 1 ≤ (os.map OV.o).length := by omega
  have hg1 : (dnC (xs.map SV.rs) ((os.map OV.o).take (k + 1)))[k]! = (dnC (xs.map SV.rs) (os.map OV.o))[k]! := dn_take_get (by omega) hfn
  refine (ports_ok (rf := rfC) (dn := dnC (xs.map SV.rs) ((os.map OV.o).take (k + 1))) ho hn hx hL hfa hk ?_ ?_).mono ?_
  · rw [List.map_take]
    exact fits_dn g (by rw [List.length_map, hL]; exact hLp) hof hf hT hfn
  · intro x hx2
    have := mem_sum (xs.map SV.rs) x.rs (List.mem_map_of_mem hx2)
    unfold lenB
    omega
  · rintro _ w' ⟨M, pp, pc, ys, rfl, h1, h2, h3, h4⟩
    rw [hg1] at h3
    refine ⟨M, pp, pc, ys, rfl, h1, ?_, h2, h3, h4⟩
    have h5 := congrArg List.length h3
    rw [List.length_map, h1, dn_ports (by omega)] at h5
    have := (portsC_le ((os.map OV.o)[k]!).kind ((os.map OV.o)[k]!).arg).1
    unfold portsO at h5 ⊢
    omega
end Go.Proofs.Ytbdiohbjkpeifaa
namespace Go.Proofs.Ytbdiohbjkpeifaa.runGrows
open Go.RowKit Go.Shelf Go.Proofs.Ytbdiohbjkpeifaa Go.ChangeShapes Go.WideShapes Go.ChangeAt

set_option maxRecDepth 100000 in
set_option maxHeartbeats 16000000 in
theorem walk0 {W : World} {parts : Int} {gp p1 p2 : Option Addr} {gc c1 c2 : Nat} {os : List OV} {xs zs : List SV} (_ : I6 parts) (hG : GRow W gp gc os) (hgf : ∀ o ∈ os, o.o.fine) (hx : LL W p1 c1 xs) (hxf : ∀ x ∈ xs, ∀ r ∈ x.rs, r.fine) (hz : LL W p2 c2 zs) (hzf : ∀ x ∈ zs, ∀ r ∈ x.rs, r.fine) (hw : weightL (xs.map SV.rs) + weightL (zs.map SV.rs) ≤ 1048576) :
    Calls Try.prog 3 #[.agg #[.int .i64 parts, .slice gp os.length gc], .slice p1 xs.length c1, .slice p2 zs.length c2] W fun e w' => e = .returned (.bool true) ∧ Below W.heap.size W w' := by
  obtain ⟨i0, hI0, hz0, hz1, hz2⟩ := info_parts Try.infoRecs
  obtain ⟨j0, hJ0, hy0, hy1, hy2⟩ := info_parts Try.infoRec
  obtain ⟨n, hn⟩ : ∃ n, os.length = n := ⟨_, rfl⟩
  obtain ⟨L, hL⟩ : ∃ n, xs.length = n := ⟨_, rfl⟩
  obtain ⟨Z, hZ⟩ : ∃ n, zs.length = n := ⟨_, rfl⟩
  have i1 := hG.le
  have i2 := hG.top
  have k1 := hx.row.le
  have k2 := hx.row.top
  have l1 := hz.row.le
  have l2 := hz.row.top
  rw [hn] at i1
  rw [hL] at k1
  rw [hZ] at l1
  rw [hn, hL, hZ]
  obtain ⟨V, hV⟩ : ∃ V, V = W.alloc (.cells #[.int .i64 parts, .slice gp n gc] 24 (0, 0)) := ⟨_, rfl⟩
  have hbV : Below W.heap.size W V := by rw [hV]; exact alloc_below _ _
  have x0 : V.heap[W.heap.size]? = some (.cells #[.int .i64 parts, .slice gp n gc] 24 (0, 0)) := by rw [hV]; exact heap_alloc_new _ _
  obtain ⟨gB, hgB⟩ : ∃ gB, W.heap.size = gB := ⟨_, rfl⟩
  rw [hgB] at x0
  have v0 : V.cell? ⟨gB, 0, none⟩ = some (.int .i64 parts) := by simp [World.cell?, x0]
  have v1 : V.cell? ⟨gB, 1, none⟩ = some (.slice gp n gc) := by simp [World.cell?, x0]
  have HBV := hide hbV
  have HX0 := hide x0
  have HG := hide hG
  have HN := hide hn
  have HXL := hide hL
  obtain ⟨fa, hfa⟩ : ∃ fa, faultC parts (os.map OV.o) L = fa := ⟨_, rfl⟩
  by_cases hf0 : fa = 0
  · subst hf0
    have hchk : (checkC parts (os.map OV.o)).2 = 0 ∧ (L : Int) = parts := by
      unfold faultC at hfa
      by_cases h1 : (checkC parts (os.map OV.o)).2 = 0
      · rw [if_pos h1] at hfa
        by_cases h2 : (L : Int) = parts
        · exact ⟨h1, h2⟩
        · rw [if_neg h2] at hfa; cases hfa
      · rw [if_neg h1] at hfa; exact absurd hfa h1
    have hgood := good_of hchk.1
    have hLp := hchk.2
    have hL4 : L ≤ 4 := by have := hgood.p4; omega
    obtain ⟨s, f, j, hs1, hs2, hs3, hs4, hs5⟩ := hgood.sink
    have hof : ∀ o ∈ os.map OV.o, o.fine := fun o ho => by
      rw [List.mem_map] at ho
      obtain ⟨x, hx2, rfl⟩ := ho
      exact hgf x hx2
    have hlf : ∀ l ∈ xs.map SV.rs, ∀ r ∈ l, r.fine := fun l hl => by
      rw [List.mem_map] at hl
      obtain ⟨x, hx2, rfl⟩ := hl
      exact hxf x hx2
    have hzlf : ∀ l ∈ zs.map SV.rs, ∀ r ∈ l, r.fine := fun l hl => by
      rw [List.mem_map] at hl
      obtain ⟨x, hx2, rfl⟩ := hl
      exact hzf x hx2
    have hT1 : ((xs.map SV.rs).map List.length).sum ≤ 1048576 := by have := plain_sum (xs.map SV.rs); omega
    have hT2 : ((longL (xs.map SV.rs) (zs.map SV.rs)).map List.length).sum ≤ 1048576 := by have := long_sum (xs.map SV.rs) (zs.map SV.rs); omega
    have hlong := long_fine hlf hzlf
    have hsn : s < n := by rw [List.length_map, hn] at hs2; exact hs2
    obtain ⟨os', hos'⟩ : ∃ l, os.map OV.o = l := ⟨_, rfl⟩
    have hgrow := dn_grow hgood (long_grow (xs.map SV.rs) (zs.map SV.rs))
    have HR1 : Hid (∀ X, Below W.heap.size W X → Calls Try.prog 4 #[.agg #[.int .i64 parts, .slice gp n gc], .slice p1 L c1] X fun e w' => ∃ (yp : Option Addr) (yc N : Nat), e = .returned (.tuple #[.slice yp N yc, .int .i64 0]) ∧ (((dnC (xs.map SV.rs) (os.map OV.o))[f]!).ports[j]!).length = N ∧ RRow w' yp yc (((dnC (xs.map SV.rs) (os.map OV.o))[f]!).ports[j]!) ∧ Below X.heap.size X w') := hide (fun X hX => run_full hgood hLp (hG.below hX) hn (hx.later hX) rfl hL hfa hof hlf hT1 hs1 hsn hs3 hs4 hs5)
    have HR2 : Hid (∀ (X : World) (q : Option Addr) (qc : Nat) (ys : List SV), Below W.heap.size W X → LL X q qc ys → ys.map SV.rs = longL (xs.map SV.rs) (zs.map SV.rs) → ys.length = L → Calls Try.prog 4 #[.agg #[.int .i64 parts, .slice gp n gc], .slice q L qc] X fun e w' => ∃ (yp : Option Addr) (yc N : Nat), e = .returned (.tuple #[.slice yp N yc, .int .i64 0]) ∧ (((dnC (longL (xs.map SV.rs) (zs.map SV.rs)) (os.map OV.o))[f]!).ports[j]!).length = N ∧ RRow w' yp yc (((dnC (longL (xs.map SV.rs) (zs.map SV.rs)) (os.map OV.o))[f]!).ports[j]!) ∧ Below X.heap.size X w') := hide (fun X q qc ys hX h1 h2 h3 => run_full hgood hLp (hG.below hX) hn h1 h2 h3 hfa hof hlong hT2 hs1 hsn hs3 hs4 hs5)
    have HP1 : Hid (∀ (X : World) (k : Nat), Below W.heap.size W X → k < n → Calls Try.prog 8 #[.agg #[.int .i64 parts, .slice gp n gc], .int .i64 (k : Int), .slice p1 L c1] X fun e w' => ∃ (M : Nat) (pp : Option Addr) (pc : Nat) (ys : List SV), e = .returned (.tuple #[.slice pp M pc, .int .i64 0]) ∧ ys.length = M ∧ (M : Int) = portsO (os.map OV.o) k ∧ LL w' pp pc ys ∧ ys.map SV.rs = ((dnC (xs.map SV.rs) (os.map OV.o))[k]!).ports ∧ Below X.heap.size X w') := hide (fun X k hX hk => ports_full hgood hLp (hG.below hX) hn (hx.later hX) rfl hL hfa hof hlf hT1 hk)
    have HP2 : Hid (∀ (X : World) (q : Option Addr) (qc : Nat) (ys : List SV) (k : Nat), Below W.heap.size W X → LL X q qc ys → ys.map SV.rs = longL (xs.map SV.rs) (zs.map SV.rs) → ys.length = L → k < n → Calls Try.prog 8 #[.agg #[.int .i64 parts, .slice gp n gc], .int .i64 (k : Int), .slice q L qc] X fun e w' => ∃ (M : Nat) (pp : Option Addr) (pc : Nat) (us : List SV), e = .returned (.tuple #[.slice pp M pc, .int .i64 0]) ∧ us.length = M ∧ (M : Int) = portsO (os.map OV.o) k ∧ LL w' pp pc us ∧ us.map SV.rs = ((dnC (longL (xs.map SV.rs) (zs.map SV.rs)) (os.map OV.o))[k]!).ports ∧ Below X.heap.size X w') := hide (fun X q qc ys k hX h1 h2 h3 hk => ports_full hgood hLp (hG.below hX) hn h1 h2 h3 hfa hof hlong hT2 hk)
    have HGR : Hid (∀ k, k < n → Grow ((dnC (xs.map SV.rs) (os.map OV.o))[k]!).ports ((dnC (longL (xs.map SV.rs) (zs.map SV.rs)) (os.map OV.o))[k]!).ports) := hide (fun k hk => hgrow k (by rw [List.length_map, hn]; exact hk))
    have hfn : f < n := by omega
    have HX := hide hx
    have HZ := hide hz
    have HZL := hide hZ
    have HW := hide hw
    have HXW : Hid (∀ x ∈ xs, x.rs.length ≤ 1048576) := hide (fun x h => by have := mem_sum (xs.map SV.rs) x.rs (List.mem_map_of_mem h); omega)
    have HZW : Hid (∀ i, i < L → i < Z → (xs[i]!).rs.length + (zs[i]!).rs.length ≤ 1048576) := hide (fun i h1 h2 => by
      have h3 := mem_sum (xs.map SV.rs) (xs[i]!).rs (List.mem_map_of_mem (by rw [getElem!_pos xs i (by omega)]; exact List.getElem_mem _))
      have h4 := mem_sum (zs.map SV.rs) (zs[i]!).rs (List.mem_map_of_mem (by rw [getElem!_pos zs i (by omega)]; exact List.getElem_mem _))
      have := plain_sum (xs.map SV.rs)
      have := plain_sum (zs.map SV.rs)
      omega)
    have HR1V := hide (HR1.out V hbV)
    clear hG hn hx hL hz hZ hxf hzf hw hgf hchk hgood hLp hs1 hs2 hs3 hs4 hs5 hof hlf hzlf hT1 hT2 hlong hgrow hfa hbV x0 hos' os' HR1 hsn
    go_enter Try.func3, Try.ntmps3
    go_wp2_with fail
    rw [← hV]
    try rw [hgB]
    clear hV hgB v0 v1
    refine HR1V.out.mono ?_
    rintro _ w1 ⟨ap, ac, A, rfl, hA, hrowA, hB1⟩
    have HA := hide hA
    have HRA := hide hrowA
    have HB1 := hide (HBV.out.trans (hB1.mono HBV.out.size))
    have HB1V := hide hB1
    clear hA hrowA hB1 HR1V
    go_wp2_with fail
    refine begun_any.mono ?_
    rintro _ w2 ⟨rfl, hB2⟩
    have HRA2 := hide (RRow.later HRA.out hB2)
    have HBW2 := hide (HB1.out.trans (hB2.mono HB1.out.size))
    have HBV2 := hide (HB1V.out.trans (hB2.mono HB1V.out.size))
    clear hB2 HRA HB1 HB1V
    go_wp2_with fail
    go_loopw [9, 35] (fun s i wq => ∃ (k : Nat) (p3 : Option Addr) (c3 : Nat) (ys : List SV), k ≤ L ∧ i = .int .i64 (k : Int) ∧ s = .slice p3 k c3 ∧ Hid (ys.length = k) ∧ Hid (wq.ownsRow w2.heap.size 26 1 (.slice p3 k c3) k (ys.flatMap SV.cells)) ∧ Hid (∀ i, i < k → (ys[i]!).own wq w2.heap.size ∧ (ys[i]!).rs = (longL (xs.map SV.rs) (zs.map SV.rs))[i]!) ∧ Hid (Below w2.heap.size w2 wq)) (fun _ i _ => L - (intOf i).toNat)
    case atStart => exact ⟨0, none, 0, [], Nat.zero_le _, rfl, rfl, hide rfl, hide (World.ownsRow_nil _ _ _ _), hide (fun i hi => absurd hi (Nat.not_lt_zero i)), hide (Below.refl _ _)⟩
    case round =>
      obtain ⟨k, p3, c3, ys, hk, rfl, rfl, HYL, HOW, HYS, HBq⟩ := hrel
      rename World => wq
      by_cases hlt : k < L
      · have hlt2 : k < xs.length := by rw [HXL.out]; exact hlt
        have hBW : Below W.heap.size W wq := HBW2.out.trans (HBq.out.mono HBW2.out.size)
        have hll := HX.out.later hBW
        obtain ⟨g, o, rfl, hcx⟩ := hll.at hlt2
        have hxm : xs[k]! ∈ xs := by rw [getElem!_pos xs k hlt2]; exact List.getElem_mem _
        have hrow := hll.ok _ hxm
        have hlb := HXW.out _ hxm
        have hlg := long_get (xs.map SV.rs) (zs.map SV.rs) k (by rw [List.length_map]; exact hlt2)
        have hxg : (xs.map SV.rs)[k]! = (xs[k]!).rs := by rw [getElem!_pos _ k (by rw [List.length_map]; exact hlt2), List.getElem_map, getElem!_pos xs k hlt2]
        rw [hxg] at hlg
        obtain ⟨x, hxx⟩ : ∃ x, xs[k]! = x := ⟨_, rfl⟩
        have hzw := HZW.out k hlt
        rw [hxx] at hcx hrow hlb hlg hzw
        obtain ⟨rs, xp, xc⟩ := x
        simp only at hcx hlb hlg hzw
        have hrow2 : RRow wq xp xc rs := hrow
        obtain ⟨N, hNL⟩ : ∃ N, rs.length = N := ⟨_, rfl⟩
        rw [hNL] at hcx hlb hzw
        have HCL := hide (recClone hrow2 hNL (by omega))
        have HNR := hide hNL
        have HLG := hide hlg
        have HZW2 := hide hzw
        have HBWq := hide hBW
        clear hxm hrow hrow2 hll hxx hNL hBW hlt2 hlg hxg hzw
        go_wp2_with fail
        refine HCL.out.mono ?_
        rintro _ w3 ⟨p', c', rfl, hO3, hB3⟩
        have HO3 := hide hO3
        have HB3 := hide hB3
        clear hO3 hB3 HCL hcx
        by_cases hkz : k < Z
        · have hkz2 : k < zs.length := by rw [HZL.out]; exact hkz
          have dz : decide ((k : Int) < (Z : Int)) = true := decide_eq_true (by omega)
          have hBW3 : Below W.heap.size W w3 := HBWq.out.trans (HB3.out.mono HBWq.out.size)
          have hzl := HZ.out.later hBW3
          obtain ⟨zg, zo, rfl, hcz⟩ := hzl.at hkz2
          have hzm : zs[k]! ∈ zs := by rw [getElem!_pos zs k hkz2]; exact List.getElem_mem _
          have hzr : RRow w3 (zs[k]!).p (zs[k]!).c (zs[k]!).rs := hzl.ok _ hzm
          have hzg : (zs.map SV.rs)[k]! = (zs[k]!).rs := by rw [getElem!_pos _ k (by rw [List.length_map]; exact hkz2), List.getElem_map, getElem!_pos zs k hkz2]
          have hzw := HZW2.out hkz
          obtain ⟨z, hzz⟩ : ∃ z, zs[k]! = z := ⟨_, rfl⟩
          rw [hzz] at hcz hzr hzg hzw
          obtain ⟨zr, zp, zc⟩ := z
          simp only at hcz hzr hzg hzw
          have hseg := LRow.seg (by decide) RC.len RC.one hzr
          obtain ⟨NZ, hNZ⟩ : ∃ N, zr.length = N := ⟨_, rfl⟩
          rw [hNZ] at hcz hseg hzw
          have HSZ := hide hseg
          have HKA : Hid (N + NZ ≤ maxLen) := by show _ ≤ _; unfold maxLen; omega
          have HKB : Hid ((N + NZ) * 16 ≤ 140737488355328) := by show _ ≤ _; omega
          have HKC : Hid (wq.heap.size ≤ w3.heap.size) := hide HB3.out.size
          have HRL : Hid (rs ++ zr = (longL (xs.map SV.rs) (zs.map SV.rs))[k]!) := hide (by rw [HLG.out, hzg])
          have HNL : Hid ((rs ++ zr).length = N + NZ) := hide (by rw [List.length_append, HNR.out, hNZ])
          clear hzl hzm hzr hzz hseg hNZ hBW3 hkz2 hzg hzw
          go_wp2_with (at_builtin; refine append_cells _ rfl (.tmp 46) (.tmp 50) 26 rfl wq.heap.size 33 j0 (.agg #[.int .i64 0, .int .i64 0]) 2 16 Try.underlying26 hJ0 hy0 hy1 hy2 rfl (by decide) (.slice p' N c') N _ rfl HO3.out (.slice zp NZ zc) NZ _ rfl HSZ.out HKA.out HKB.out HKC.out ?_)
          intro pl cl wl hownl hgrowl
          have HOL : Hid (wl.ownsRow wq.heap.size 33 2 (.slice pl (N + NZ) cl) (N + NZ) ((rs ++ zr).flatMap RC.cells)) := hide (by rw [List.flatMap_append]; exact hownl)
          have HBL : Hid (Below wq.heap.size wq wl) := hide (HB3.out.grown hgrowl HB3.out.size (fun i hi => own_block_base HO3.out hi))
          clear hownl hgrowl HO3 HB3 HSZ HKA HKB HKC dz hcz
          obtain ⟨rl, hrl⟩ : ∃ rl, rs ++ zr = rl := ⟨_, rfl⟩
          rw [hrl] at HOL HRL HNL
          obtain ⟨NL, hnl⟩ : ∃ NL, N + NZ = NL := ⟨_, rfl⟩
          rw [hnl] at HOL HNL ⊢
          clear hrl hnl
          have hab := alloc_below wl (.cells #[.slice pl NL cl] 26 (0, 0))
          have HSG : Hid (Seg (wl.alloc (.cells #[.slice pl NL cl] 26 (0, 0))) 1 (.slice (some ⟨wl.heap.size, 0, none⟩) 1 1) 1 [.slice pl NL cl]) := hide (Seg.news (heap_alloc_new wl _) (by simp [Value.oneCell']) rfl (Nat.le_refl _) (by decide))
          have HRW := hide (ownsRow_later (ownsRow_later HOW.out HBL.out) hab)
          have hB2a := HBL.out.trans (hab.mono HBL.out.size)
          have HAB := hide hB2a
          have HNW := hide (ownsRow_later HOL.out hab)
          have HK1 : Hid (k + 1 ≤ maxLen) := by show _ ≤ _; unfold maxLen; omega
          have HK2 : Hid ((k + 1) * 24 ≤ 140737488355328) := by show _ ≤ _; omega
          have HBS : Hid (w2.heap.size ≤ (wl.alloc (.cells #[.slice pl NL cl] 26 (0, 0))).heap.size) := hide (Nat.le_trans HBq.out.size hB2a.size)
          clear hab hB2a
          go_wp2_with (at_builtin; refine append_cells _ rfl (.tmp 52) (.tmp 54) 25 rfl w2.heap.size 26 i0 (.slice none 0 0) 1 24 Try.underlying25 hI0 hz0 hz1 hz2 rfl (by decide) (.slice p3 k c3) k _ rfl HRW.out (.slice (some ⟨wl.heap.size, 0, none⟩) 1 1) 1 _ rfl HSG.out HK1.out HK2.out HBS.out ?_)
          intro p5 c5 w5 hown hgrow
          have ho5 := Only.of_grown (F := fun i => (Value.slice p3 k c3).ownBlock = some i) hgrow (fun k e => e)
          have HB5 : Hid (Below w2.heap.size w2 w5) := hide ((HBq.out.trans (HAB.out.mono HBq.out.size)).grown hgrow (Nat.le_trans HBq.out.size HAB.out.size) (fun i hi => own_block_base HRW.out hi))
          have HYL2 : Hid ((ys ++ [(⟨rl, pl, cl⟩ : SV)]).length = k + 1) := hide (by rw [List.length_append, HYL.out]; rfl)
          have HO5 : Hid (w5.ownsRow w2.heap.size 26 1 (.slice p5 (k + 1) c5) (k + 1) ((ys ++ [(⟨rl, pl, cl⟩ : SV)]).flatMap SV.cells)) := by
            refine hide ?_
            rw [List.flatMap_append]
            show w5.ownsRow w2.heap.size 26 1 (.slice p5 (k + 1) c5) (k + 1) (ys.flatMap SV.cells ++ [.slice pl rl.length cl])
            rw [HNL.out]
            exact hown
          have hsv : ∀ (y : SV) (b : Nat), y.own (wl.alloc (.cells #[.slice pl NL cl] 26 (0, 0))) b → y.own w5 b := fun y b hy => ownsRow_only hy ho5 (fun c hc e => rows_apart HRW.out hy (by decide) hc e)
          have HYS2 : Hid (∀ i, i < k + 1 → ((ys ++ [(⟨rl, pl, cl⟩ : SV)])[i]!).own w5 w2.heap.size ∧ ((ys ++ [(⟨rl, pl, cl⟩ : SV)])[i]!).rs = (longL (xs.map SV.rs) (zs.map SV.rs))[i]!) := by
            refine hide (fun i hi => ?_)
            by_cases e : i < k
            · rw [getElem!_pos (ys ++ [(⟨rl, pl, cl⟩ : SV)]) i (by rw [List.length_append, HYL.out]; omega), List.getElem_append_left (by rw [HYL.out]; exact e), ← getElem!_pos ys i (by rw [HYL.out]; exact e)]
              have := HYS.out i e
              exact ⟨hsv _ _ (this.1.later HAB.out), this.2⟩
            · obtain rfl : i = k := by omega
              have e2 : (ys ++ [(⟨rl, pl, cl⟩ : SV)])[i]! = ⟨rl, pl, cl⟩ := by
                rw [getElem!_pos (ys ++ [(⟨rl, pl, cl⟩ : SV)]) i (by rw [List.length_append, HYL.out]; simp), List.getElem_append_right (by rw [HYL.out]; exact Nat.le_refl _)]
                simp
              rw [e2]
              refine ⟨hsv _ _ ?_, HRL.out⟩
              show (wl.alloc (.cells #[.slice pl NL cl] 26 (0, 0))).ownsRow w2.heap.size 33 2 (.slice pl rl.length cl) rl.length _
              rw [HNL.out]
              exact ownsRow_base HNW.out HBq.out.size
          clear hown hgrow ho5 hsv
          go_wp2
          exact ⟨⟨k + 1, p5, c5, _, by omega, by first | rfl | go_num, rfl, HYL2, HO5, HYS2, HB5⟩, by simp [intOf]; omega⟩
        · have dz : decide ((k : Int) < (Z : Int)) = false := decide_eq_false (by omega)
          have HRL : Hid (rs = (longL (xs.map SV.rs) (zs.map SV.rs))[k]!) := hide (by
            rw [HLG.out, getElem!_neg (zs.map SV.rs) k (by rw [List.length_map, HZL.out]; exact hkz)]
            exact (List.append_nil _).symm)
          obtain ⟨wl, hwl⟩ : ∃ wl, w3 = wl := ⟨_, rfl⟩
          rw [hwl] at HO3 HB3 ⊢
          have HOL := HO3
          have HBL := HB3
          have HNL := HNR
          clear hwl HO3 HB3
          obtain ⟨rl, hrl⟩ : ∃ rl, rs = rl := ⟨_, rfl⟩
          rw [hrl] at HOL HRL HNL
          obtain ⟨pl, hpl⟩ : ∃ pl, p' = pl := ⟨_, rfl⟩
          obtain ⟨cl, hcl⟩ : ∃ cl, c' = cl := ⟨_, rfl⟩
          obtain ⟨NL, hnl⟩ : ∃ NL, N = NL := ⟨_, rfl⟩
          rw [hpl, hcl, hnl] at HOL
          rw [hnl] at HNL
          rw [hpl, hcl, hnl]
          clear hrl hpl hcl hnl
          have hab := alloc_below wl (.cells #[.slice pl NL cl] 26 (0, 0))
          have HSG : Hid (Seg (wl.alloc (.cells #[.slice pl NL cl] 26 (0, 0))) 1 (.slice (some ⟨wl.heap.size, 0, none⟩) 1 1) 1 [.slice pl NL cl]) := hide (Seg.news (heap_alloc_new wl _) (by simp [Value.oneCell']) rfl (Nat.le_refl _) (by decide))
          have HRW := hide (ownsRow_later (ownsRow_later HOW.out HBL.out) hab)
          have hB2a := HBL.out.trans (hab.mono HBL.out.size)
          have HAB := hide hB2a
          have HNW := hide (ownsRow_later HOL.out hab)
          have HK1 : Hid (k + 1 ≤ maxLen) := by show _ ≤ _; unfold maxLen; omega
          have HK2 : Hid ((k + 1) * 24 ≤ 140737488355328) := by show _ ≤ _; omega
          have HBS : Hid (w2.heap.size ≤ (wl.alloc (.cells #[.slice pl NL cl] 26 (0, 0))).heap.size) := hide (Nat.le_trans HBq.out.size hB2a.size)
          clear hab hB2a
          go_wp2_with (at_builtin; refine append_cells _ rfl (.tmp 52) (.tmp 54) 25 rfl w2.heap.size 26 i0 (.slice none 0 0) 1 24 Try.underlying25 hI0 hz0 hz1 hz2 rfl (by decide) (.slice p3 k c3) k _ rfl HRW.out (.slice (some ⟨wl.heap.size, 0, none⟩) 1 1) 1 _ rfl HSG.out HK1.out HK2.out HBS.out ?_)
          intro p5 c5 w5 hown hgrow
          have ho5 := Only.of_grown (F := fun i => (Value.slice p3 k c3).ownBlock = some i) hgrow (fun k e => e)
          have HB5 : Hid (Below w2.heap.size w2 w5) := hide ((HBq.out.trans (HAB.out.mono HBq.out.size)).grown hgrow (Nat.le_trans HBq.out.size HAB.out.size) (fun i hi => own_block_base HRW.out hi))
          have HYL2 : Hid ((ys ++ [(⟨rl, pl, cl⟩ : SV)]).length = k + 1) := hide (by rw [List.length_append, HYL.out]; rfl)
          have HO5 : Hid (w5.ownsRow w2.heap.size 26 1 (.slice p5 (k + 1) c5) (k + 1) ((ys ++ [(⟨rl, pl, cl⟩ : SV)]).flatMap SV.cells)) := by
            refine hide ?_
            rw [List.flatMap_append]
            show w5.ownsRow w2.heap.size 26 1 (.slice p5 (k + 1) c5) (k + 1) (ys.flatMap SV.cells ++ [.slice pl rl.length cl])
            rw [HNL.out]
            exact hown
          have hsv : ∀ (y : SV) (b : Nat), y.own (wl.alloc (.cells #[.slice pl NL cl] 26 (0, 0))) b → y.own w5 b := fun y b hy => ownsRow_only hy ho5 (fun c hc e => rows_apart HRW.out hy (by decide) hc e)
          have HYS2 : Hid (∀ i, i < k + 1 → ((ys ++ [(⟨rl, pl, cl⟩ : SV)])[i]!).own w5 w2.heap.size ∧ ((ys ++ [(⟨rl, pl, cl⟩ : SV)])[i]!).rs = (longL (xs.map SV.rs) (zs.map SV.rs))[i]!) := by
            refine hide (fun i hi => ?_)
            by_cases e : i < k
            · rw [getElem!_pos (ys ++ [(⟨rl, pl, cl⟩ : SV)]) i (by rw [List.length_append, HYL.out]; omega), List.getElem_append_left (by rw [HYL.out]; exact e), ← getElem!_pos ys i (by rw [HYL.out]; exact e)]
              have := HYS.out i e
              exact ⟨hsv _ _ (this.1.later HAB.out), this.2⟩
            · obtain rfl : i = k := by omega
              have e2 : (ys ++ [(⟨rl, pl, cl⟩ : SV)])[i]! = ⟨rl, pl, cl⟩ := by
                rw [getElem!_pos (ys ++ [(⟨rl, pl, cl⟩ : SV)]) i (by rw [List.length_append, HYL.out]; simp), List.getElem_append_right (by rw [HYL.out]; exact Nat.le_refl _)]
                simp
              rw [e2]
              refine ⟨hsv _ _ ?_, HRL.out⟩
              show (wl.alloc (.cells #[.slice pl NL cl] 26 (0, 0))).ownsRow w2.heap.size 33 2 (.slice pl rl.length cl) rl.length _
              rw [HNL.out]
              exact ownsRow_base HNW.out HBq.out.size
          clear hown hgrow ho5 hsv
          go_wp2
          exact ⟨⟨k + 1, p5, c5, _, by omega, by first | rfl | go_num, rfl, HYL2, HO5, HYS2, HB5⟩, by simp [intOf]; omega⟩
      · obtain rfl : k = L := by omega
        have HBWq := hide (HBW2.out.trans (HBq.out.mono HBW2.out.size))
        have HWL : Hid (LL wq p3 c3 ys) := hide ⟨LRow.of_own SV.len HYL.out HOW.out, fun y hy => by
          obtain ⟨i, hi, rfl⟩ := List.getElem_of_mem hy
          have := (HYS.out i (by have := HYL.out; omega)).1.ok
          rw [getElem!_pos ys i hi] at this
          exact this⟩
        have HSM : Hid (ys.map SV.rs = longL (xs.map SV.rs) (zs.map SV.rs)) := by
          refine hide ?_
          apply List.ext_getElem
          · rw [List.length_map, long_len, List.length_map, HYL.out, HXL.out]
          · intro i h1 h2
            have hiy : i < ys.length := by simpa using h1
            have := (HYS.out i (by have := HYL.out; omega)).2
            rw [getElem!_pos ys i hiy, getElem!_pos _ i h2] at this
            rw [List.getElem_map]
            exact this
        have y2 := below_box HBq.out (below_box HBV2.out HX0.out)
        have u0 : wq.cell? ⟨gB, 0, none⟩ = some (.int .i64 parts) := by simp [World.cell?, y2]
        have u1 : wq.cell? ⟨gB, 1, none⟩ = some (.slice gp n gc) := by simp [World.cell?, y2]
        have HRq := hide (HR2.out wq p3 c3 ys HBWq.out HWL.out HSM.out HYL.out)
        have HBVq := hide (HBV2.out.trans (HBq.out.mono HBV2.out.size))
        have HRAq := hide (RRow.later HRA2.out HBq.out)
        have HPRE := hide ((HGR.out f hfn).2 j)
        clear y2 HOW HYS HR2 HRA2 HBV2
        go_wp2_with fail
        refine HRq.out.mono ?_
        rintro _ w4 ⟨bp, bc, Bn, rfl, hBl, hrowB, hB4⟩
        have hRA4 := RRow.later HRAq.out hB4
        have hle : A ≤ Bn := by
          have := HPRE.out.length_le
          rw [HA.out, hBl] at this
          exact this
        have hbc := hrowB.le
        have hbt := hrowB.top
        rw [hBl] at hbc
        have HEQ := hide (eqrc_any (LRow.first hrowB HPRE.out) hRA4 HA.out)
        have dle : decide ((Bn : Int) < (A : Int)) = false := decide_eq_false (by omega)
        have dleN : decide (Bn < A) = false := decide_eq_false (by omega)
        have hAc : A ≤ bc := by omega
        have HB4 := hide (HBWq.out.trans (hB4.mono HBWq.out.size))
        have HBV4 := hide (HBVq.out.trans (hB4.mono HBVq.out.size))
        have HWL4 := hide (HWL.out.later hB4)
        clear hrowB hB4 hBl hRA4 HRq HRAq HWL HPRE u0 u1
        go_wp2_with fail
        refine HEQ.out.mono ?_
        rintro _ w5 ⟨rfl, hB5⟩
        have HB5 := hide (HB4.out.trans (hB5.mono HB4.out.size))
        have HBV5 := hide (HBV4.out.trans (hB5.mono HBV4.out.size))
        have HWL5 := hide (HWL4.out.later hB5)
        have y5 := below_box HBV5.out HX0.out
        have u1 : w5.cell? ⟨gB, 1, none⟩ = some (.slice gp n gc) := by simp [World.cell?, y5]
        clear hB5 HEQ HWL4 HBV4 HB4 y5 dle dleN
        go_wp2_with fail
        go_loopw [84] (fun s wz => ∃ (m : Nat), m ≤ n ∧ s = .int .i64 (m : Int) ∧ Hid (Below w5.heap.size w5 wz)) (fun s _ => n - (intOf s).toNat)
        case atStart => exact ⟨0, Nat.zero_le _, rfl, hide (Below.refl _ _)⟩
        case round =>
          obtain ⟨m, hm, rfl, HBz⟩ := hrel
          rename World => wz
          clear u1
          by_cases hmn : m < n
          · have hBWz : Below W.heap.size W wz := HB5.out.trans (HBz.out.mono HB5.out.size)
            have hBVz : Below V.heap.size V wz := HBV5.out.trans (HBz.out.mono HBV5.out.size)
            have yz := below_box hBVz HX0.out
            have u0 : wz.cell? ⟨gB, 0, none⟩ = some (.int .i64 parts) := by simp [World.cell?, yz]
            have u1 : wz.cell? ⟨gB, 1, none⟩ = some (.slice gp n gc) := by simp [World.cell?, yz]
            have HPz := hide (HP1.out wz m hBWz hmn)
            have HBWz := hide hBWz
            have HBVz := hide hBVz
            clear hBWz hBVz yz
            go_wp2_with fail
            refine HPz.out.mono ?_
            rintro _ w6 ⟨M, ap6, ac6, us, rfl, hul, hMp, hLL6, hus, hB6⟩
            have HUL := hide hul
            have HMP := hide hMp
            have HLL6 := hide hLL6
            have HUS := hide hus
            have hBW6 : Below W.heap.size W w6 := HBWz.out.trans (hB6.mono HBWz.out.size)
            have hBV6 : Below V.heap.size V w6 := HBVz.out.trans (hB6.mono HBVz.out.size)
            have y6 := below_box hBV6 HX0.out
            have t0 : w6.cell? ⟨gB, 0, none⟩ = some (.int .i64 parts) := by simp [World.cell?, y6]
            have t1 : w6.cell? ⟨gB, 1, none⟩ = some (.slice gp n gc) := by simp [World.cell?, y6]
            have HPq := hide (HP2.out w6 p3 c3 ys m hBW6 ((HWL5.out.later HBz.out).later hB6) HSM.out HYL.out hmn)
            have HBW6 := hide hBW6
            have HBV6 := hide hBV6
            have HBz6 := hide (HBz.out.trans (hB6.mono HBz.out.size))
            clear hul hMp hLL6 hus hBW6 hBV6 y6 hB6 HPz u0 u1
            go_wp2_with fail
            refine HPq.out.mono ?_
            rintro _ w7 ⟨M2, bp7, bc7, vs, rfl, hvl, hMq, hLL7, hvs, hB7⟩
            have hMM : M2 = M := by have := HMP.out; omega
            subst hMM
            have HVL := hide hvl
            have HLL7 := hide hLL7
            have HVS := hide hvs
            have HLA7 := hide (HLL6.out.later hB7)
            have hBW7 : Below W.heap.size W w7 := HBW6.out.trans (hB7.mono HBW6.out.size)
            have hBV7 : Below V.heap.size V w7 := HBV6.out.trans (hB7.mono HBV6.out.size)
            have y7 := below_box hBV7 HX0.out
            have s1 : w7.cell? ⟨gB, 1, none⟩ = some (.slice gp n gc) := by simp [World.cell?, y7]
            have HBz7 := hide (HBz6.out.trans (hB7.mono HBz6.out.size))
            have hGm : m < os.length := by rw [HN.out]; exact hmn
            obtain ⟨og, oo, rfl, hoc⟩ := (HG.out.below hBW7).cell m hGm
            obtain ⟨ov, hov⟩ : ∃ ov, os[m]! = ov := ⟨_, rfl⟩
            rw [hov] at hoc
            have hpo : portsO (os.map OV.o) m = portsC ov.o.kind ov.o.arg := by
              unfold portsO
              rw [getO os hGm, hov]
            obtain ⟨⟨okd, opt, ofn, oar, oin⟩, oip, oic⟩ := ov
            simp only at hpo
            obtain ⟨onl, honl⟩ : ∃ onl, oin.length = onl := ⟨_, rfl⟩
            have z0 : w7.cell? ⟨og, oo + m * 5, none⟩ = some (.int .i64 okd) := hoc 0 (by omega)
            have z1 : w7.cell? ⟨og, oo + m * 5 + 1, none⟩ = some (.int .i64 opt) := hoc 1 (by omega)
            have z2 : w7.cell? ⟨og, oo + m * 5 + 2, none⟩ = some (.int .i64 ofn) := hoc 2 (by omega)
            have z3 : w7.cell? ⟨og, oo + m * 5 + 3, none⟩ = some (.int .i64 oar) := hoc 3 (by omega)
            have z4 : w7.cell? ⟨og, oo + m * 5 + 4, none⟩ = some (.slice oip onl oic) := by rw [← honl]; exact hoc 4 (by omega)
            have hpM : portsC okd oar = (M2 : Int) := by rw [← hpo]; exact hMq.symm
            have HRP : Hid (∀ X, Calls Try.prog 9 #[.agg #[.int .i64 okd, .int .i64 opt, .int .i64 ofn, .int .i64 oar, .slice oip onl oic]] X fun e w' => e = .returned (.int .i64 (M2 : Int)) ∧ Below X.heap.size X w') := hide (fun X => by rw [← hpM]; exact rports_any)
            have HBV7 := hide hBV7
            clear hvl hMq hLL7 hvs hBW7 y7 hB7 hGm hoc hov hpo honl hpM hBV7 HPq t0 t1 HLL6
            go_wp2_with fail
            refine (HRP.out _).mono ?_
            rintro _ w8 ⟨rfl, hB8⟩
            have HLA := hide (HLA7.out.later hB8)
            have HLB := hide (HLL7.out.later hB8)
            have HB8 := hide (HBz7.out.trans (hB8.mono HBz7.out.size))
            have HBV8 := hide (HBV7.out.trans (hB8.mono HBV7.out.size))
            have ha1 := HLA.out.row.le
            have ha2 := HLA.out.row.top
            have hb1 := HLB.out.row.le
            have hb2 := HLB.out.row.top
            rw [HUL.out] at ha1
            rw [HVL.out] at hb1
            have HGM := hide (HGR.out m hmn)
            clear hB8 HRP HLA7 HLL7 HBz7 HBV7 z0 z1 z2 z3 z4 s1
            go_wp2_with fail
            go_loopw [127] (fun s wy => ∃ (i : Nat), i ≤ M2 ∧ s = .int .i64 (i : Int) ∧ Hid (Below w8.heap.size w8 wy)) (fun s _ => M2 - (intOf s).toNat)
            case atStart => exact ⟨0, Nat.zero_le _, rfl, hide (Below.refl _ _)⟩
            case round =>
              obtain ⟨i, hi, rfl, HBy⟩ := hrel
              rename World => wy
              by_cases hiM : i < M2
              · have hla := HLA.out.later HBy.out
                have hlb := HLB.out.later HBy.out
                have hiu : i < us.length := by rw [HUL.out]; exact hiM
                have hiv : i < vs.length := by rw [HVL.out]; exact hiM
                obtain ⟨ag, ao, hap, hca⟩ := hla.at hiu
                obtain ⟨bg, bo, hbp, hcb⟩ := hlb.at hiv
                subst hap
                subst hbp
                have hra : RRow wy (us[i]!).p (us[i]!).c (us[i]!).rs := hla.ok _ (by rw [getElem!_pos us i hiu]; exact List.getElem_mem _)
                have hrb : RRow wy (vs[i]!).p (vs[i]!).c (vs[i]!).rs := hlb.ok _ (by rw [getElem!_pos vs i hiv]; exact List.getElem_mem _)
                have hpre : (us[i]!).rs <+: (vs[i]!).rs := by
                  have h9 := HGM.out.2 i
                  rw [← HUS.out, ← HVS.out, getElem!_pos _ i (by rw [List.length_map]; exact hiu), getElem!_pos _ i (by rw [List.length_map]; exact hiv), List.getElem_map, List.getElem_map] at h9
                  rw [getElem!_pos us i hiu, getElem!_pos vs i hiv]
                  exact h9
                obtain ⟨⟨ur, up, uc⟩, hu⟩ : ∃ u, us[i]! = u := ⟨_, rfl⟩
                obtain ⟨⟨vr, vp, vc⟩, hv⟩ : ∃ v, vs[i]! = v := ⟨_, rfl⟩
                rw [hu] at hca hra hpre
                rw [hv] at hcb hrb hpre
                simp only at hca hra hpre hcb hrb
                obtain ⟨la, hlan⟩ : ∃ la, ur.length = la := ⟨_, rfl⟩
                obtain ⟨lb, hlbn⟩ : ∃ lb, vr.length = lb := ⟨_, rfl⟩
                rw [hlan] at hca
                rw [hlbn] at hcb
                have hll : la ≤ lb := by have := hpre.length_le; omega
                have hvc := hrb.le
                have hvt := hrb.top
                rw [hlbn] at hvc
                have hlac : la ≤ vc := by omega
                have dl : decide (lb < la) = false := decide_eq_false (by omega)
                have dlI : decide ((lb : Int) < (la : Int)) = false := decide_eq_false (by omega)
                have HEQ : Hid (∀ X, Below wy.heap.size wy X → Calls Try.prog 7 #[.slice vp la vc, .slice up la uc] X fun e w' => e = .returned (.bool true) ∧ Below X.heap.size X w') := hide (fun X hX => eqrc_any (LRow.first (RRow.later hrb hX) hpre) (RRow.later hra hX) hlan)
                clear hla hlb hra hrb hpre hu hv hlan hlbn hiu hiv
                go_upto_region 26 with fail
                go_region_held3 (fun w' => w'.cell? ⟨ag, ao + i, none⟩ = some (.slice up la uc) ∧ w'.cell? ⟨bg, bo + i, none⟩ = some (.slice vp lb vc)) (go_keep)
                  (first
                    | (go_at_call 7; refine (HEQ.out _ (Below.refl _ wy).drew).mono ?_; rintro _ w9 ⟨rfl, hB9⟩; have t9 := cell_later hB9 hca; have t10 := cell_later hB9 hcb))
                all_goals
                  have HB9 := hide (HBy.out.trans ((Below.refl _ wy).drew.trans (hB9.mono (Nat.le_refl _)) |>.mono HBy.out.size))
                  clear hB9 HEQ hca hcb t9 t10 dl dlI
                  go_wp2
                  exact ⟨⟨i + 1, by omega, by first | rfl | go_num, HB9⟩, by simp [intOf]; omega⟩
              · obtain rfl : i = M2 := by omega
                have HBF := hide (HB8.out.trans (HBy.out.mono HB8.out.size))
                go_wp2
                exact ⟨⟨m + 1, by omega, by first | rfl | go_num, HBF⟩, by simp [intOf]; omega⟩
          · obtain rfl : m = n := by omega
            have HBF := hide (HB5.out.trans (HBz.out.mono HB5.out.size))
            go_wp2
            go_ret
            exact ⟨rfl, HBF.out⟩
  · have q0 : (fa != 0) = true := by simpa using hf0
    have HRE := hide (run_err (q := p1) (qc := c1) (hG.below hbV) hn hfa hf0)
    clear hG hn hx hL hz hZ hxf hzf hw hgf hfa hbV x0 HG HX0 HN HXL
    go_enter Try.func3, Try.ntmps3
    go_wp2_with fail
    rw [← hV]
    try rw [hgB]
    clear hV hgB v0 v1
    refine HRE.out.mono ?_
    rintro _ w1 ⟨rfl, hB1⟩
    have HB1 := hide (HBV.out.trans (hB1.mono HBV.out.size))
    clear hB1 HRE
    go_wp2_with fail
    refine begun_any.mono ?_
    rintro _ w2 ⟨rfl, hB2⟩
    have HB2 := hide (HB1.out.trans (hB2.mono HB1.out.size))
    clear hB2
    go_wp2_with fail
    refine begun_any.mono ?_
    rintro _ w3 ⟨rfl, hB3⟩
    have HB3 := hide (HB2.out.trans (hB3.mono HB2.out.size))
    clear hB3
    go_wp2
    go_ret
    exact ⟨rfl, HB3.out⟩
end Go.Proofs.Ytbdiohbjkpeifaa.runGrows
