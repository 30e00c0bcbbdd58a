/-
  The program's Turns where it is nobody's turn. The conditions: lengths.
-/
import Derived.Test.YtbcllgddogghbaaRtu
namespace Go.Proofs.Ytbcllgddogghbaa
open Go.RowKit Go.Shelf
attribute [local go_sem] Oper.semAt_some

def TbI (V : World) (sB cB n : Nat) (tt : Int) (X : World) : Prop :=
  Boxed X sB 3 (.int .i64 tt) ∧ Boxed X (sB + 2) 23 (.slice none 0 0) ∧ Boxed X cB 24 (.slice (some ⟨sB + 3, 0, none⟩) n n) ∧
    X.ownsRow sB 3 1 (.slice (some ⟨sB + 3, 0, none⟩) n n) n ((List.replicate n (0 : Int)).map (Value.int .i64)) ∧ Only (fun _ => False) V X
set_option maxRecDepth 100000 in
set_option maxHeartbeats 8000000 in
theorem turnsB_in (q : Nat) (hq : 5 ≤ q) {W : World} {p : Option Addr} {cap n : Nat} {tt : Int} {xs : List SV} (hx : LL W p cap xs) (hn : xs.length = n) (htt : tt < 0 ∨ (n : Int) ≤ tt) (hb : n ≤ 1048576) :
    CallsIn Fence.wide q Try.prog 7 #[.int .i64 tt, .slice p n cap] W fun e w' => ∃ g2, e = .returned (.tuple #[.slice none 0 0, .int .i64 tt, .slice (some ⟨g2, 0, none⟩) n n]) ∧ w'.ownsRow W.heap.size 3 1 (.slice (some ⟨g2, 0, none⟩) n n) n ((List.replicate n (0 : Int)).map (Value.int .i64)) ∧ Below W.heap.size W w' := by
  obtain ⟨k0, hK0, hy0, hy1, hy2⟩ := info_parts Try.infoIntR
  obtain ⟨sB, hsB⟩ : ∃ sB, W.heap.size = sB := ⟨_, rfl⟩
  obtain ⟨V3, hV3⟩ : ∃ V3, V3 = ((W.alloc (.cells #[.int .i64 tt] 3 (0, 0))).alloc (.cells #[.slice p n cap] 22 (0, 0))).alloc (.cells #[.slice none 0 0] 23 (0, 0)) := ⟨_, rfl⟩
  have b1 := alloc_below W (.cells #[.int .i64 tt] 3 (0, 0))
  have b2 := alloc_below (W.alloc (.cells #[.int .i64 tt] 3 (0, 0))) (.cells #[.slice p n cap] 22 (0, 0))
  have b3 := alloc_below ((W.alloc (.cells #[.int .i64 tt] 3 (0, 0))).alloc (.cells #[.slice p n cap] 22 (0, 0))) (.cells #[.slice none 0 0] 23 (0, 0))
  have hbV : Below W.heap.size W V3 := by rw [hV3]; exact b1.trans ((b2.mono b1.size).trans (b3.mono (Nat.le_trans b1.size b2.size)))
  have x0 : Boxed V3 sB 3 (.int .i64 tt) := by rw [hV3, ← hsB]; exact below_box b3 (below_box b2 (heap_alloc_new W _))
  have x1 : Boxed V3 (sB + 1) 22 (.slice p n cap) := by
    have e : sB + 1 = (W.alloc (.cells #[.int .i64 tt] 3 (0, 0))).heap.size := by rw [← hsB]; simp
    rw [hV3, e]
    exact below_box b3 (heap_alloc_new _ _)
  have x2 : Boxed V3 (sB + 2) 23 (.slice none 0 0) := by
    have e : sB + 2 = ((W.alloc (.cells #[.int .i64 tt] 3 (0, 0))).alloc (.cells #[.slice p n cap] 22 (0, 0))).heap.size := by rw [← hsB]; simp
    rw [hV3, e]
    exact heap_alloc_new _ _
  have hs3 : V3.heap.size = sB + 3 := by rw [hV3, ← hsB]; simp
  obtain ⟨w1, hrun, hown, hgr⟩ := run_make_full V3 sB 24 3 k0 (.int .i64 0) 1 Try.underlying24 hK0 hy0 hy1 .i64 .i64 n (by rw [hy2]; omega) (by unfold maxLen; omega) (by omega)
  rw [made_intsR, hs3] at hown
  rw [hs3, hV3, ← hsB] at hrun
  have hb1 : Below V3.heap.size V3 w1 := (Below.refl _ V3).grown hgr (Nat.le_refl _) (fun k hk => by simp at hk)
  have i3 := hx.row.le
  have i4 := hx.row.top
  rw [hn] at i3
  have HX := hide hx
  have HNN := hide hn
  clear hx hn b1 b2 b3
  refine callsIn_of_wp_marks Try.func7 rfl trivial ?_ rfl
  simp only [Try.ntmps7, List.size_toArray, List.length_cons, List.length_nil, Nat.reduceAdd, Nat.reduceSub, Array.replicate_succ, Array.replicate_zero, List.push_toArray, List.append_toArray, List.nil_append, List.cons_append]
  obtain ⟨w2, hw2⟩ : ∃ w2, w2 = w1.alloc (.cells #[.slice (some ⟨sB + 3, 0, none⟩) n n] 24 (0, 0)) := ⟨_, rfl⟩
  have hb2 : Below w1.heap.size w1 w2 := by rw [hw2]; exact alloc_below _ _
  have y0 := below_box hb2 (below_box hb1 x0)
  have y1 := below_box hb2 (below_box hb1 x1)
  have y2 := below_box hb2 (below_box hb1 x2)
  have y3 : w2.heap[w1.heap.size]? = some (.cells #[.slice (some ⟨sB + 3, 0, none⟩) n n] 24 (0, 0)) := by rw [hw2]; exact heap_alloc_new _ _
  have ho2 := ownsRow_later hown hb2
  have hs1 : sB + 4 ≤ w1.heap.size := (own_block_lt hown (b := sB + 3) rfl).1
  have hs2 : w2.heap.size = w1.heap.size + 1 := by rw [hw2]; simp
  have hbW2 : Below W.heap.size W w2 := hbV.trans ((hb1.mono hbV.size).trans (hb2.mono (Nat.le_trans hbV.size hb1.size)))
  have c0 : (w1.alloc (.cells #[.slice (some ⟨sB + 3, 0, none⟩) n n] 24 (0, 0))).cell? ⟨sB, 0, none⟩ = some (.int .i64 tt) := by rw [← hw2]; exact Boxed.cell y0
  have c1 : (w1.alloc (.cells #[.slice (some ⟨sB + 3, 0, none⟩) n n] 24 (0, 0))).cell? ⟨sB + 1, 0, none⟩ = some (.slice p n cap) := by rw [← hw2]; exact Boxed.cell y1
  obtain ⟨cB, hcB⟩ : ∃ cB, w1.heap.size = cB := ⟨_, rfl⟩
  rw [hcB] at y3 hs1 hs2
  have HY0 := hide y0
  have HY1 := hide y1
  have HY2 := hide y2
  have HY3 := hide y3
  have HO2 := hide ho2
  have HBW := hide hbW2
  have HS1 := hide hs1
  have HS2 := hide hs2
  have HSB := hide hsB
  have HCB := hide hcB
  clear y0 y1 y2 y3 ho2 hbW2 hs1 hs2 x0 x1 x2 hown hgr hb1 hb2 hs3 hbV
  gi_wp2_with fail
  rw [← hw2]
  clear hrun c0 c1 hw2 hV3
  refine ⟨trivial, fun _ => by omega, (callsIn_wide.2 inTurn_any).mono ?_⟩
  rintro _ w3 ⟨rfl, hw3⟩
  obtain ⟨vB, hvB⟩ : ∃ vB, w2.heap.size = vB := ⟨_, rfl⟩
  rw [hvB]
  have b4 := alloc_below w2 (.cells #[.int .i64 tt] 3 (0, 0))
  have b5 := alloc_below (w2.alloc (.cells #[.int .i64 tt] 3 (0, 0))) (.cells #[.slice p n cap] 22 (0, 0))
  have hb3 : Below w2.heap.size w2 w3 := by rw [hw3]; exact b4.trans (b5.mono b4.size)
  have z0 : Boxed w3 vB 3 (.int .i64 tt) := by rw [hw3, ← hvB]; exact below_box b5 (heap_alloc_new w2 _)
  have z1 : Boxed w3 (vB + 1) 22 (.slice p n cap) := by
    have e : vB + 1 = (w2.alloc (.cells #[.int .i64 tt] 3 (0, 0))).heap.size := by rw [← hvB]; simp
    rw [hw3, e]
    exact heap_alloc_new _ _
  have hs3 : vB + 2 ≤ w3.heap.size := by rw [hw3, ← hvB]; simp
  have hvc : cB < vB := by rw [← hvB, HS2.out]; omega
  have HZL := hide (below_box hb3 HY1.out)
  have HBW3 : Hid (Below W.heap.size W w3) := hide (HBW.out.trans (hb3.mono HBW.out.size))
  have HZ0 := hide z0
  have HZ1 := hide z1
  have HST : Hid (TbI w3 sB cB n tt w3) := hide ⟨below_box hb3 HY0.out, below_box hb3 HY2.out, below_box hb3 HY3.out, ownsRow_later HO2.out hb3, Only.refl _ _⟩
  have hs1 := HS1.out
  clear z0 z1 hw3 b4 b5 hb3 hvB HY0 HY1 HY2 HY3 HO2
  gi_wp2_with fail
  refine range_list2 (by omega) (inTurn_none (q - 1) (by omega) (tB := vB) (lB := vB + 1) (p := p) (cap := cap) htt) rfl enInTurn (fun _ h => by cases h) (fun _ => TbI w3 sB cB n tt) (fun _ _ _ => False) ?grows ?puts (fun _ _ _ _ _ _ h => h.elim) ?reads HST.out
    (fun x X => { tmps := #[.int .i64 tt, .slice p n cap, .pointer (some ⟨sB, 0, none⟩), .pointer (some ⟨sB + 1, 0, none⟩), .slice none 0 0, .int .i64 0, .slice none 0 0, .pointer (some ⟨sB + 1 + 1, 0, none⟩), .pointer (some ⟨cB, 0, none⟩), x.getD 0 undef, .pointer (some ⟨X.heap.size, 0, none⟩), .slice p n cap, .int .i64 (n : Int), .slice (some ⟨sB + 3, 0, none⟩) n n, .int .i64 tt, .slice p n cap, .func (.func 27) #[] #[.pointer (some ⟨vB, 0, none⟩), .pointer (some ⟨vB + 1, 0, none⟩)], x.getD 0 undef, x.getD 1 undef, undef, undef, undef, undef, undef, undef, undef, undef, undef, undef, undef, undef, undef, undef, undef, undef, undef, undef], defers := [] }) (fun x X => X.alloc (.cells (aggR (x.getD 1 undef)) 40 (0, 0))) (fun k X => alloc_below X _) (fun _ _ _ _ h => by cases h) (fun _ _ _ _ _ h => by cases h) ?done (fun _ _ _ _ _ _ h => h.elim)
  case grows =>
    rintro k X Y ⟨h1, h2, h3, h4, h5⟩ hb
    exact ⟨below_box hb h1, below_box hb h2, below_box hb h3, ownsRow_later h4 hb, h5.trans (Only.fresh hb _)⟩
  case puts =>
    rintro k X l o o' ⟨h1, h2, h3, h4, h5⟩ hl ho hc
    exact ⟨put_onlyR.obj h1 (fun e => by have e' : sB = l := e; omega), put_onlyR.obj h2 (fun e => by have e' : sB + 2 = l := e; omega), put_onlyR.obj h3 (fun e => by have e' : cB = l := e; omega), row_putR h4 ho hc, h5.step put_onlyR (fun i e => .inr (by have e' : i = l := e; omega))⟩
  case reads =>
    rintro k X ⟨_, _, _, _, h6⟩
    have u0 : Boxed X vB 3 (.int .i64 tt) := h6.obj HZ0.out (fun e => e)
    have u1 : Boxed X (vB + 1) 22 (.slice p n cap) := h6.obj HZ1.out (fun e => e)
    exact ⟨u0.cell, u1.cell⟩
  case done =>
    rintro D X hD ⟨h1, h2, h3, h5, h6⟩ hK
    have e0 := h1.cell
    have e2 : X.cell? ⟨sB + 1 + 1, 0, none⟩ = some (.slice none 0 0) := h2.cell
    have e4 := h3.cell
    have hK' : X.drew.heap[D]? = some (.deferred (some [])) := hK
    have HK := hide hK'
    have HR2 := hide h5
    have HB : Hid (Below W.heap.size W X) := hide (HBW3.out.trans (h6.below HBW3.out.size (fun i e => e.elim)))
    clear h1 h2 h3 h5 h6 hK hK'
    gi_wp2
    gi_region
    gi_wp2_with fail
    refine ⟨by simp, .inl ⟨_, _, rfl, run_takeDeferred HK.out, ?_⟩⟩
    refine ⟨_, results_tmp3 rfl _ _ _, sB + 3, rfl, ownsRow_base (row_putR HR2.out.drew HK.out rfl) (by have := HSB.out; omega), ?_⟩
    exact HB.out.drew.trans (put_onlyR.below HB.out.size (fun i e => by have e' : i = D := e; have := HBW3.out.size; omega))
theorem turnsB_any {W : World} {p : Option Addr} {cap n : Nat} {tt : Int} {xs : List SV} (hx : LL W p cap xs) (hn : xs.length = n) (htt : tt < 0 ∨ (n : Int) ≤ tt) (hb : n ≤ 1048576) :
    Calls Try.prog 7 #[.int .i64 tt, .slice p n cap] W fun e w' => ∃ g2, e = .returned (.tuple #[.slice none 0 0, .int .i64 tt, .slice (some ⟨g2, 0, none⟩) n n]) ∧ w'.ownsRow W.heap.size 3 1 (.slice (some ⟨g2, 0, none⟩) n n) n ((List.replicate n (0 : Int)).map (Value.int .i64)) ∧ Below W.heap.size W w' :=
  callsIn_wide.1 (turnsB_in 5 (Nat.le_refl _) hx hn htt hb)
end Go.Proofs.Ytbcllgddogghbaa
