/-
  list of a ledger of nothing old. The conditions: lengths.
-/
import Derived.Test.YtifldnpccgbnkaaGreatOdf
namespace Go.Proofs.YtifldnpccgbnkaaGreat.Op
open Go.RowKit

theorem Tryz.infoKeyS : (Tryz.prog.info? 105).map (fun i => (i.zero, i.size, i.bytes)) = some (some (.agg #[.int .i64 0, .int .i64 0, .int .i64 0]), 3, 24) := by kernel_rfl
def EN.ks (e : EN) : KS := ⟨e.key, e.cnt, e.acc⟩

set_option maxRecDepth 100000 in
set_option maxHeartbeats 8000000 in
theorem list_nil {W : World} {base lb g : Nat} {A : LA} {L : LG} {fs : List EN} {m : Nat} (h : LRep W base lb A L) (ho : L.old = []) (hg : A.pe = some ⟨g, 0, none⟩) (hb : base ≤ W.heap.size) (hm : L.es.length ≤ 1048576) (hfs : L.es.filter EN.on = fs) (hfm : fs.length = m) :
    Calls Tryz.prog 68 #[.pointer (some ⟨lb, 0, none⟩)] W fun e w' => ∃ p c, e = .returned (.slice p m c) ∧ w'.ownsRow base 105 3 (.slice p m c) m ((fs.map EN.ks).flatMap KS.cells) ∧ Only (· = g) W w' := by
  obtain ⟨i0, hI0, hz0, hz1, hz2⟩ := info_parts Tryz.infoKeyS
  obtain ⟨n, hn⟩ : ∃ n, L.es.length = n := ⟨_, rfl⟩
  have hes := h.es
  rw [hg, hn] at hes
  have hgb : base ≤ g := (hes.lt g rfl).1
  have z4 : W.cell? ⟨lb, 4, none⟩ = some (.slice (some ⟨g, 0, none⟩) n A.ce) := by rw [← hn, ← hg]; simp [World.cell?, h.box]
  have hmn : m ≤ n := by rw [← hfm, ← hfs, ← hn]; exact List.length_filter_le _ _
  have HD := hide (delete_any hes hn)
  obtain ⟨_, _, ef, i1, i2⟩ := own_form hes
  simp only [Value.slice.injEq, true_and] at ef
  obtain ⟨rfl, rfl⟩ := ef
  have hes2 := h.es
  rw [hg] at hes2
  have HX : Hid (∀ X, Only (· = g) W X → X.cell? ⟨lb, 0, none⟩ = some (.slice A.po 0 A.co)) := hide (fun X hX => by
    have := box_keeps h.box hes2 (by decide) hX
    rw [ho] at this
    simp [World.cell?, this])
  have HF := hide hfs
  have HFM := hide hfm
  have HB := hide hb
  have HGB := hide hgb
  rw [hn] at hm
  clear h ho hg hfs hfm hes hes2 hb hn hgb
  go_enter Tryz.func68, Tryz.ntmps68
  go_wp2_with fail
  refine HD.out.mono ?_
  rintro _ w1 ⟨m2, rfl, hm2, O1, N1⟩
  have hm3 : m2 = m := by rw [← hm2, HF.out, HFM.out]
  subst hm3
  rw [HF.out] at O1
  have y0 := HX.out _ N1
  have HO1 := hide O1
  have HB1 : Hid (Below base W w1) := hide (N1.below HB.out (fun i e => by have e' : i = g := e; rw [e']; exact HGB.out))
  have hle : m2 ≤ A.ce := by omega
  have HN1 := hide N1
  clear O1 N1 hm2 HD z4 HX
  go_wp2_with fail
  go_loopw [3, 4, 19] (fun s3 s4 s wq => s3 = .slice none 0 0 ∧ s4 = .slice (some ⟨g, 0, none⟩) m2 A.ce ∧ s = .int .i64 0 ∧ wq = w1) (fun _ _ _ _ => 0)
  case atStart => exact ⟨rfl, rfl, rfl, rfl⟩
  case round =>
    obtain ⟨rfl, rfl, rfl, rfl⟩ := hrel
    rename World => w1
    go_wp2_with fail
    go_loopw [59, 3] (fun i v wr => ∃ (k c : Nat) (p : Option Addr), k ≤ m2 ∧ i = .int .i64 (k : Int) ∧ v = .slice p k c ∧ Hid (wr.ownsRow w1.heap.size 105 3 (.slice p k c) k (((fs.take k).map EN.ks).flatMap KS.cells)) ∧ Hid (Below w1.heap.size w1 wr)) (fun i _ _ => m2 - (intOf i).toNat)
    case atStart => exact ⟨0, 0, none, Nat.zero_le _, rfl, rfl, hide (World.ownsRow_nil _ _ _ _), hide (Below.refl _ _)⟩
    case round =>
      obtain ⟨k, c, p, hk, rfl, rfl, HO, HBB⟩ := hrel
      rename World => wr
      by_cases hlt : k < m2
      · obtain ⟨x, hx⟩ : ∃ x, fs[k]! = x := ⟨_, rfl⟩
        obtain ⟨c0, c1, c2, c3, c4, _⟩ := es_cells (ownsRow_later HO1.out HBB.out) HFM.out hlt hx
        obtain ⟨x0, x1, x2, x3, x4⟩ := x
        dsimp only at c0 c1 c2 c3 c4
        have HXX := hide hx
        obtain ⟨V, hV⟩ : ∃ V, V = wr.alloc (.cells #[.int .i64 x0, .int .i64 x1, .int .i64 x2, .int .i64 x3, .int .i64 x4] 149 (0, 0)) := ⟨_, rfl⟩
        have hbV : Below wr.heap.size wr V := by rw [hV]; exact alloc_below _ _
        have u0 : V.heap[wr.heap.size]? = some (.cells #[.int .i64 x0, .int .i64 x1, .int .i64 x2, .int .i64 x3, .int .i64 x4] 149 (0, 0)) := by rw [hV]; exact heap_alloc_new _ _
        obtain ⟨nb, hnb⟩ : ∃ nb, wr.heap.size = nb := ⟨_, rfl⟩
        rw [hnb] at u0
        have v1 : V.cell? ⟨nb, 1, none⟩ = some (.int .i64 x1) := by simp [World.cell?, u0]
        have v2 : V.cell? ⟨nb, 2, none⟩ = some (.int .i64 x2) := by simp [World.cell?, u0]
        have v3 : V.cell? ⟨nb, 3, none⟩ = some (.int .i64 x3) := by simp [World.cell?, u0]
        have ab := alloc_below V (.cells #[.int .i64 x1, .int .i64 x2, .int .i64 x3] 105 (0, 0))
        have HRW := hide (ownsRow_later (ownsRow_later HO.out hbV) ab)
        have HSG : Hid (Seg (V.alloc (.cells #[.int .i64 x1, .int .i64 x2, .int .i64 x3] 105 (0, 0))) 3 (.slice (some ⟨V.heap.size, 0, none⟩) 1 1) 1 [.int .i64 x1, .int .i64 x2, .int .i64 x3]) := hide (Seg.news (heap_alloc_new V _) (by simp [Value.oneCell']) rfl (Nat.le_refl _) (by decide))
        have HZB : Hid (w1.heap.size ≤ (V.alloc (.cells #[.int .i64 x1, .int .i64 x2, .int .i64 x3] 105 (0, 0))).heap.size) := hide (Nat.le_trans (Nat.le_trans HBB.out.size hbV.size) ab.size)
        have HK1 : Hid (k + 1 ≤ maxLen) := by show _ ≤ _; unfold maxLen; omega
        have HK2 : Hid ((k + 1) * 24 ≤ 140737488355328) := hide (by omega)
        have HBV : Hid (Below w1.heap.size w1 V) := hide (HBB.out.trans (hbV.mono HBB.out.size))
        have HLT : Hid (∀ i, (Value.slice p k c).ownBlock = some i → w1.heap.size ≤ i) := hide (fun i e => (HO.out.lt i e).1)
        clear hx u0 hbV ab HO HBB
        go_upto_region 15 with fail
        rw [← hV]
        try rw [hnb]
        clear hV hnb c0 c1 c2 c3 c4
        go_wp2_with (at_builtin; refine append_cells _ rfl (.tmp 63) (.tmp 66) 56 rfl w1.heap.size 105 i0 (.agg #[.int .i64 0, .int .i64 0, .int .i64 0]) 3 24 Tryz.underlying56 hI0 hz0 hz1 hz2 rfl (by decide) (.slice p k c) k _ rfl HRW.out (.slice (some ⟨V.heap.size, 0, none⟩) 1 1) 1 _ rfl HSG.out HK1.out HK2.out HZB.out ?_)
        intro p6 c6 w6 o6 g6
        have HN : Hid (Below w1.heap.size w1 w6) := hide (HBV.out.trans (((Only.alloc _ _ _).trans (Only.of_grown (F := fun i => (Value.slice p k c).ownBlock = some i) g6 (fun k e => e))).below HBV.out.size HLT.out))
        have HO6 : Hid (w6.ownsRow w1.heap.size 105 3 (.slice p6 (k + 1) c6) (k + 1) (((fs.take (k + 1)).map EN.ks).flatMap KS.cells)) := by
          have hke : k < fs.length := by rw [HFM.out]; exact hlt
          have h2 := HXX.out
          rw [getElem!_pos fs k hke] at h2
          refine hide ?_
          rw [← List.map_take] at o6
          rw [List.take_succ_eq_append_getElem hke, h2, List.map_append, List.flatMap_append]
          exact o6
        clear o6 g6
        go_wp2
        exact ⟨⟨k + 1, c6, p6, by omega, by go_num, rfl, HO6, HN⟩, by simp [intOf]; omega⟩
      · obtain rfl : k = m2 := by omega
        have HOF : Hid (wr.ownsRow base 105 3 (.slice p k c) k ((fs.map EN.ks).flatMap KS.cells)) := by
          have h9 := HO.out
          rw [List.take_of_length_le (by rw [HFM.out]; exact Nat.le_refl _)] at h9
          exact hide (ownsRow_base h9 (Nat.le_trans HB.out HB1.out.size))
        have HBF : Hid (Only (· = g) W wr) := hide (HN1.out.trans (Only.fresh HBB.out _))
        clear HO HBB
        go_wp2
        go_ret
        exact ⟨p, c, rfl, HOF.out, HBF.out⟩
end Go.Proofs.YtifldnpccgbnkaaGreat.Op
/-
  What a fold or a window keeps and lets out, plainly. Nothing is walked.
-/
namespace Go.Proofs.YtifldnpccgbnkaaGreat.Op
open Go.RowKit

/-- What is kept of each key: how many, and what they came to. -/
abbrev ST := Int → Int × Int
def ST.none : ST := fun _ => (0, 0)
def stepC (kd fn ar : Int) (s : ST) (r : RC) : ST := fun k => if k = r.key then (if staysC kd ar (s k).1 = true then (countC (s k).1, accC fn (s k).1 (s k).2 r.val) else (0, 0)) else s k
def outC (kd fn ar : Int) (s : ST) (r : RC) : List PU := tellC kd (staysC kd ar (s r.key).1) r.key (accC fn (s r.key).1 (s r.key).2 r.val)
def stateC (kd fn ar : Int) (s : ST) (rs : List RC) : ST := rs.foldl (stepC kd fn ar) s
def outsC (kd fn ar : Int) : ST → List RC → List PU
  | _, [] => []
  | s, r :: rs => outC kd fn ar s r ++ outsC kd fn ar (stepC kd fn ar s r) rs
theorem stateC_snoc (kd fn ar : Int) (s : ST) (rs : List RC) (r : RC) : stateC kd fn ar s (rs ++ [r]) = stepC kd fn ar (stateC kd fn ar s rs) r := by
  unfold stateC
  rw [List.foldl_append]
  rfl
theorem outsC_snoc (kd fn ar : Int) : ∀ (rs : List RC) (s : ST) (r : RC), outsC kd fn ar s (rs ++ [r]) = outsC kd fn ar s rs ++ outC kd fn ar (stateC kd fn ar s rs) r
  | [], s, r => by
    show outC kd fn ar s r ++ [] = [] ++ outC kd fn ar s r
    rw [List.append_nil, List.nil_append]
  | x :: rs, s, r => by
    show outC kd fn ar s x ++ outsC kd fn ar (stepC kd fn ar s x) (rs ++ [r]) = _
    rw [outsC_snoc kd fn ar rs (stepC kd fn ar s x) r, ← List.append_assoc]
    rfl
theorem outC_len (kd fn ar : Int) (s : ST) (r : RC) : (outC kd fn ar s r).length ≤ 1 := by
  unfold outC tellC
  split <;> simp
theorem outsC_len (kd fn ar : Int) : ∀ (rs : List RC) (s : ST), (outsC kd fn ar s rs).length ≤ rs.length
  | [], _ => Nat.le_refl _
  | r :: rs, s => by
    have h1 := outC_len kd fn ar s r
    have h2 := outsC_len kd fn ar rs (stepC kd fn ar s r)
    show (outC kd fn ar s r ++ outsC kd fn ar (stepC kd fn ar s r) rs).length ≤ rs.length + 1
    rw [List.length_append]
    omega
/-- Counts are what counts may be. -/
def ST.fair (s : ST) : Prop := ∀ k, 0 ≤ (s k).1 ∧ (s k).1 ≤ 9007199254740992
theorem fair_step {kd fn ar : Int} {s : ST} (h : ST.fair s) (r : RC) : ST.fair (stepC kd fn ar s r) := fun k => by
  have := h k
  unfold stepC
  split
  · split
    · show 0 ≤ countC _ ∧ countC _ ≤ _
      unfold countC
      split <;> omega
    · exact ⟨by decide, by decide⟩
  · exact this
theorem fair_state (kd fn ar : Int) : ∀ (rs : List RC) (s : ST), ST.fair s → ST.fair (stateC kd fn ar s rs)
  | [], _, h => h
  | r :: rs, s, h => fair_state kd fn ar rs (stepC kd fn ar s r) (fair_step h r)
/-- Entries that hold what is kept. -/
structure EntsAt (s : ST) (ks : List Int) (es : List EN) : Prop where
  keys : es.map EN.key = ks
  each : ∀ e ∈ es, e.first = 0 ∧ e.cnt = (s e.key).1 ∧ e.acc = (s e.key).2
def finC (s : ST) (ks : List Int) : List KS := (ks.filter (fun k => decide ((s k).1 ≠ 0))).map (fun k => ⟨k, (s k).1, (s k).2⟩)
theorem ents_fin {s : ST} : ∀ {es : List EN} {ks : List Int}, EntsAt s ks es → (es.filter EN.on).map EN.ks = finC s ks
  | [], ks, h => by
    have := h.keys
    subst this
    rfl
  | e :: es, ks, h => by
    have hk := h.keys
    subst hk
    have ih := ents_fin (s := s) (es := es) ⟨rfl, fun x hx => h.each x (List.mem_cons_of_mem _ hx)⟩
    obtain ⟨_, h2, h3⟩ := h.each e (List.mem_cons_self ..)
    unfold finC at ih ⊢
    rw [List.map_cons, List.filter_cons, List.filter_cons]
    by_cases c : (s e.key).1 = 0
    · have e1 : EN.on e = false := by simp [EN.on, h2, c]
      have e2 : decide ((s e.key).1 ≠ 0) = false := by simp [c]
      rw [e1, e2]
      exact ih
    · have e1 : EN.on e = true := by simp [EN.on, h2, c]
      have e2 : decide ((s e.key).1 ≠ 0) = true := by simp [c]
      rw [e1, e2]
      show EN.ks e :: _ = _ :: _
      rw [ih]
      simp only [EN.ks, h2, h3]
theorem ents_rise {s : ST} {es : List EN} {ks : List Int} (h : EntsAt s ks es) (hp : ks.Pairwise (· < ·)) : Rises es := fun i j hij hj => by
  have hk := h.keys
  subst hk
  rw [getElem!_pos es i (by omega), getElem!_pos es j hj]
  have := List.pairwise_iff_getElem.1 hp i j (by simp; omega) (by simpa using hj) hij
  simpa using this
theorem place_hit {s : ST} {es : List EN} {ks : List Int} {k : Int} {i : Nat} (h : EntsAt s ks es) (hpk : ks.Pairwise (· < ·)) (hm : k ∈ ks) (hp : Place es k i) : i < es.length ∧ (es[i]!).key = k := by
  obtain ⟨p1, p2, p3⟩ := hp
  rw [← h.keys, List.mem_map] at hm
  obtain ⟨e, he, hek⟩ := hm
  obtain ⟨j, hj, rfl⟩ := List.getElem_of_mem he
  have hji : i ≤ j := by
    apply Classical.byContradiction
    intro hn
    have := p2 j (by omega)
    rw [getElem!_pos es j hj] at this
    omega
  have hil : i < es.length := by omega
  by_cases e : i = j
  · subst e
    exact ⟨hil, by rw [getElem!_pos es i hil]; exact hek⟩
  · have h1 := ents_rise h hpk i j (by omega) hj
    have h2 := p3 i (Nat.le_refl _) hil
    rw [getElem!_pos es j hj, hek] at h1
    omega
theorem ents_set {kd fn ar : Int} {s : ST} {es : List EN} {ks : List Int} {i : Nat} {r : RC} {gp : Int} (h : EntsAt s ks es) (hp : ks.Pairwise (· < ·)) (hi : i < es.length) (hk : (es[i]!).key = r.key) {cn ac : Int} (h1 : (stepC kd fn ar s r r.key).1 = cn) (h2 : (stepC kd fn ar s r r.key).2 = ac) : EntsAt (stepC kd fn ar s r) ks (es.set i ⟨0, r.key, cn, ac, gp⟩) := by
  refine ⟨?_, fun e he => ?_⟩
  · rw [List.map_set, ← h.keys]
    show (es.map EN.key).set i r.key = es.map EN.key
    rw [← hk, getElem!_pos es i hi]
    have : (es[i]).key = (es.map EN.key)[i]'(by simpa using hi) := by simp
    rw [this, List.set_getElem_self]
  · obtain ⟨j, hj, rfl⟩ := List.getElem_of_mem he
    rw [List.length_set] at hj
    rw [List.getElem_set]
    by_cases e : i = j
    · rw [if_pos e]
      exact ⟨rfl, h1.symm, h2.symm⟩
    · rw [if_neg e]
      have hne : (es[j]).key ≠ r.key := by
        have hr := ents_rise h hp
        rw [← hk]
        intro e2
        rcases Nat.lt_or_gt_of_ne e with hlt | hlt
        · have := hr i j hlt hj
          rw [getElem!_pos es j hj] at this
          omega
        · have := hr j i hlt hi
          rw [getElem!_pos es j hj] at this
          omega
      have hs : stepC kd fn ar s r (es[j]).key = s (es[j]).key := by unfold stepC; rw [if_neg hne]
      rw [hs]
      exact h.each _ (List.getElem_mem hj)
theorem ents_start (ks : List Int) : EntsAt ST.none ks (ks.map (fun k => (⟨0, k, 0, 0, 0⟩ : EN))) := by
  refine ⟨by rw [List.map_map]; exact List.map_id'' (fun _ => rfl) _, fun e he => ?_⟩
  rw [List.mem_map] at he
  obtain ⟨k, _, rfl⟩ := he
  exact ⟨rfl, rfl, rfl⟩
end Go.Proofs.YtifldnpccgbnkaaGreat.Op
