/-
  list of a ledger of nothing old. The conditions: lengths.
-/
import Derived.Test.YtcabfohmimglpaaOdf
namespace Go.Proofs.Ytcabfohmimglpaa
open Go.RowKit

theorem Try.infoKeyS : (Try.prog.info? 43).map (fun i => (i.zero, i.size, i.bytes)) = some (some (.agg #[.int .i64 0, .int .i64 0, .int .i64 0]), 3, 24) := by kernel_rfl
def EN.ks (e : EN) : KS := ⟨e.key, e.cnt, e.acc⟩

set_option maxRecDepth 100000 in
set_option maxHeartbeats 8000000 in
theorem list_nil {W : World} {base lb g : Nat} {A : LA} {L : LG} {fs : List EN} {m : Nat} (h : LRep W base lb A L) (ho : L.old = []) (hg : A.pe = some ⟨g, 0, none⟩) (hb : base ≤ W.heap.size) (hm : L.es.length ≤ 1048576) (hfs : L.es.filter EN.on = fs) (hfm : fs.length = m) :
    Calls Try.prog 18 #[.pointer (some ⟨lb, 0, none⟩)] W fun e w' => ∃ p c, e = .returned (.slice p m c) ∧ w'.ownsRow base 43 3 (.slice p m c) m ((fs.map EN.ks).flatMap KS.cells) ∧ Only (· = g) W w' := by
  obtain ⟨i0, hI0, hz0, hz1, hz2⟩ := info_parts Try.infoKeyS
  obtain ⟨n, hn⟩ : ∃ n, L.es.length = n := ⟨_, rfl⟩
  have hes := h.es
  rw [hg, hn] at hes
  have hgb : base ≤ g := (hes.lt g rfl).1
  have z4 : W.cell? ⟨lb, 4, none⟩ = some (.slice (some ⟨g, 0, none⟩) n A.ce) := by rw [← hn, ← hg]; simp [World.cell?, h.box]
  have hmn : m ≤ n := by rw [← hfm, ← hfs, ← hn]; exact List.length_filter_le _ _
  have HD := hide (delete_any hes hn)
  obtain ⟨_, _, ef, i1, i2⟩ := own_form hes
  simp only [Value.slice.injEq, true_and] at ef
  obtain ⟨rfl, rfl⟩ := ef
  have hes2 := h.es
  rw [hg] at hes2
  have HX : Hid (∀ X, Only (· = g) W X → X.cell? ⟨lb, 0, none⟩ = some (.slice A.po 0 A.co)) := hide (fun X hX => by
    have := box_keeps h.box hes2 (by decide) hX
    rw [ho] at this
    simp [World.cell?, this])
  have HF := hide hfs
  have HFM := hide hfm
  have HB := hide hb
  have HGB := hide hgb
  rw [hn] at hm
  clear h ho hg hfs hfm hes hes2 hb hn hgb
  go_enter Try.func18, Try.ntmps18
  go_wp2_with fail
  refine HD.out.mono ?_
  rintro _ w1 ⟨m2, rfl, hm2, O1, N1⟩
  have hm3 : m2 = m := by rw [← hm2, HF.out, HFM.out]
  subst hm3
  rw [HF.out] at O1
  have y0 := HX.out _ N1
  have HO1 := hide O1
  have HB1 : Hid (Below base W w1) := hide (N1.below HB.out (fun i e => by have e' : i = g := e; rw [e']; exact HGB.out))
  have hle : m2 ≤ A.ce := by omega
  have HN1 := hide N1
  clear O1 N1 hm2 HD z4 HX
  go_wp2_with fail
  go_loopw [3, 4, 19] (fun s3 s4 s wq => s3 = .slice none 0 0 ∧ s4 = .slice (some ⟨g, 0, none⟩) m2 A.ce ∧ s = .int .i64 0 ∧ wq = w1) (fun _ _ _ _ => 0)
  case atStart => exact ⟨rfl, rfl, rfl, rfl⟩
  case round =>
    obtain ⟨rfl, rfl, rfl, rfl⟩ := hrel
    rename World => w1
    go_wp2_with fail
    go_loopw [59, 3] (fun i v wr => ∃ (k c : Nat) (p : Option Addr), k ≤ m2 ∧ i = .int .i64 (k : Int) ∧ v = .slice p k c ∧ Hid (wr.ownsRow w1.heap.size 43 3 (.slice p k c) k (((fs.take k).map EN.ks).flatMap KS.cells)) ∧ Hid (Below w1.heap.size w1 wr)) (fun i _ _ => m2 - (intOf i).toNat)
    case atStart => exact ⟨0, 0, none, Nat.zero_le _, rfl, rfl, hide (World.ownsRow_nil _ _ _ _), hide (Below.refl _ _)⟩
    case round =>
      obtain ⟨k, c, p, hk, rfl, rfl, HO, HBB⟩ := hrel
      rename World => wr
      by_cases hlt : k < m2
      · obtain ⟨x, hx⟩ : ∃ x, fs[k]! = x := ⟨_, rfl⟩
        obtain ⟨c0, c1, c2, c3, c4, _⟩ := es_cells (ownsRow_later HO1.out HBB.out) HFM.out hlt hx
        obtain ⟨x0, x1, x2, x3, x4⟩ := x
        dsimp only at c0 c1 c2 c3 c4
        have HXX := hide hx
        obtain ⟨V, hV⟩ : ∃ V, V = wr.alloc (.cells #[.int .i64 x0, .int .i64 x1, .int .i64 x2, .int .i64 x3, .int .i64 x4] 74 (0, 0)) := ⟨_, rfl⟩
        have hbV : Below wr.heap.size wr V := by rw [hV]; exact alloc_below _ _
        have u0 : V.heap[wr.heap.size]? = some (.cells #[.int .i64 x0, .int .i64 x1, .int .i64 x2, .int .i64 x3, .int .i64 x4] 74 (0, 0)) := by rw [hV]; exact heap_alloc_new _ _
        obtain ⟨nb, hnb⟩ : ∃ nb, wr.heap.size = nb := ⟨_, rfl⟩
        rw [hnb] at u0
        have v1 : V.cell? ⟨nb, 1, none⟩ = some (.int .i64 x1) := by simp [World.cell?, u0]
        have v2 : V.cell? ⟨nb, 2, none⟩ = some (.int .i64 x2) := by simp [World.cell?, u0]
        have v3 : V.cell? ⟨nb, 3, none⟩ = some (.int .i64 x3) := by simp [World.cell?, u0]
        have ab := alloc_below V (.cells #[.int .i64 x1, .int .i64 x2, .int .i64 x3] 43 (0, 0))
        have HRW := hide (ownsRow_later (ownsRow_later HO.out hbV) ab)
        have HSG : Hid (Seg (V.alloc (.cells #[.int .i64 x1, .int .i64 x2, .int .i64 x3] 43 (0, 0))) 3 (.slice (some ⟨V.heap.size, 0, none⟩) 1 1) 1 [.int .i64 x1, .int .i64 x2, .int .i64 x3]) := hide (Seg.news (heap_alloc_new V _) (by simp [Value.oneCell']) rfl (Nat.le_refl _) (by decide))
        have HZB : Hid (w1.heap.size ≤ (V.alloc (.cells #[.int .i64 x1, .int .i64 x2, .int .i64 x3] 43 (0, 0))).heap.size) := hide (Nat.le_trans (Nat.le_trans HBB.out.size hbV.size) ab.size)
        have HK1 : Hid (k + 1 ≤ maxLen) := by show _ ≤ _; unfold maxLen; omega
        have HK2 : Hid ((k + 1) * 24 ≤ 140737488355328) := hide (by omega)
        have HBV : Hid (Below w1.heap.size w1 V) := hide (HBB.out.trans (hbV.mono HBB.out.size))
        have HLT : Hid (∀ i, (Value.slice p k c).ownBlock = some i → w1.heap.size ≤ i) := hide (fun i e => (HO.out.lt i e).1)
        clear hx u0 hbV ab HO HBB
        go_upto_region 15 with fail
        rw [← hV]
        try rw [hnb]
        clear hV hnb c0 c1 c2 c3 c4
        go_wp2_with (at_builtin; refine append_cells _ rfl (.tmp 63) (.tmp 66) 27 rfl w1.heap.size 43 i0 (.agg #[.int .i64 0, .int .i64 0, .int .i64 0]) 3 24 Try.underlying27 hI0 hz0 hz1 hz2 rfl (by decide) (.slice p k c) k _ rfl HRW.out (.slice (some ⟨V.heap.size, 0, none⟩) 1 1) 1 _ rfl HSG.out HK1.out HK2.out HZB.out ?_)
        intro p6 c6 w6 o6 g6
        have HN : Hid (Below w1.heap.size w1 w6) := hide (HBV.out.trans (((Only.alloc _ _ _).trans (Only.of_grown (F := fun i => (Value.slice p k c).ownBlock = some i) g6 (fun k e => e))).below HBV.out.size HLT.out))
        have HO6 : Hid (w6.ownsRow w1.heap.size 43 3 (.slice p6 (k + 1) c6) (k + 1) (((fs.take (k + 1)).map EN.ks).flatMap KS.cells)) := by
          have hke : k < fs.length := by rw [HFM.out]; exact hlt
          have h2 := HXX.out
          rw [getElem!_pos fs k hke] at h2
          refine hide ?_
          rw [← List.map_take] at o6
          rw [List.take_succ_eq_append_getElem hke, h2, List.map_append, List.flatMap_append]
          exact o6
        clear o6 g6
        go_wp2
        exact ⟨⟨k + 1, c6, p6, by omega, by go_num, rfl, HO6, HN⟩, by simp [intOf]; omega⟩
      · obtain rfl : k = m2 := by omega
        have HOF : Hid (wr.ownsRow base 43 3 (.slice p k c) k ((fs.map EN.ks).flatMap KS.cells)) := by
          have h9 := HO.out
          rw [List.take_of_length_le (by rw [HFM.out]; exact Nat.le_refl _)] at h9
          exact hide (ownsRow_base h9 (Nat.le_trans HB.out HB1.out.size))
        have HBF : Hid (Only (· = g) W wr) := hide (HN1.out.trans (Only.fresh HBB.out _))
        clear HO HBB
        go_wp2
        go_ret
        exact ⟨p, c, rfl, HOF.out, HBF.out⟩
end Go.Proofs.Ytcabfohmimglpaa
