/-
  The reference's folds: what a fold or a window does with a record. The conditions: lengths.
-/
import Derived.Test.YtifldnpccgbnkaaGreatRvh
namespace Go.Proofs.YtifldnpccgbnkaaGreat.Op
open Go.RowKit

abbrev KRow (W : World) (p : Option Addr) (cap : Nat) (ks : List KS) : Prop := LRow KS.cells 3 W p cap ks
theorem KRow.later {W W' : World} {p : Option Addr} {cap : Nat} {ks : List KS} (h : KRow W p cap ks) (hb : Below W.heap.size W W') : KRow W' p cap ks := LRow.below KS.len h hb
theorem KRow.at {W : World} {p : Option Addr} {cap : Nat} {ks : List KS} (h : KRow W p cap ks) {i : Nat} (hi : i < ks.length) {x : KS} (hx : ks[i]! = x) : ∃ g o, p = some ⟨g, o, none⟩ ∧ W.cell? ⟨g, o + i * 3, none⟩ = some (.int .i64 x.key) ∧ W.cell? ⟨g, o + i * 3 + 1, none⟩ = some (.int .i64 x.cnt) ∧ W.cell? ⟨g, o + i * 3 + 2, none⟩ = some (.int .i64 x.acc) := by
  obtain ⟨g, o, e, hc⟩ := h.cell i hi
  rw [hx] at hc
  exact ⟨g, o, e, hc 0 (by decide), hc 1 (by decide), hc 2 (by decide)⟩
theorem ks_one1 (x : KS) : ∀ u ∈ x.cells, u.oneCell' = true := by
  intro u hu
  simp only [KS.cells, List.mem_cons, List.not_mem_nil, or_false] at hu
  rcases hu with rfl | rfl | rfl <;> rfl
/-- The first ones. -/
theorem KRow.head {W : World} {p : Option Addr} {cap : Nat} {ks : List KS} (h : KRow W p cap ks) {i : Nat} (hi : i ≤ ks.length) : KRow W p cap (ks.take i) := by
  refine ⟨by have := h.le; rw [List.length_take]; omega, h.top, h.nil, fun j hj => ?_⟩
  rw [List.length_take] at hj
  obtain ⟨g, o, e, hc⟩ := h.cell j (by omega)
  refine ⟨g, o, e, fun k hk => ?_⟩
  rw [hc k hk, getElem!_pos ks j (by omega), getElem!_pos (ks.take i) j (by rw [List.length_take]; omega), List.getElem_take]
/-- The others. -/
theorem KRow.rest {W : World} {p : Option Addr} {c : Nat} {ks : List KS} (h : KRow W p c ks) {j : Nat} (hj : j ≤ ks.length) : KRow W (if c = j then p else Option.map (fun x => x.add (j * 3)) p) (c - j) (ks.drop j) := by
  have h1 := h.le
  have h2 := h.top
  refine ⟨by rw [List.length_drop]; omega, by omega, ?_, ?_⟩
  · intro e
    by_cases hc : c = j
    · omega
    · rw [if_neg hc] at e
      have := h.nil (by simpa using e)
      omega
  · intro i hi
    rw [List.length_drop] at hi
    obtain ⟨g, o, e, hcell⟩ := h.cell (j + i) (by omega)
    rw [if_neg (by omega), e]
    refine ⟨g, o + j * 3, by simp [Addr.add], fun k hk => ?_⟩
    have := hcell k hk
    rw [getElem!_pos ks (j + i) (by omega)] at this
    rw [getElem!_pos (ks.drop j) i (by rw [List.length_drop]; omega), List.getElem_drop, ← this]
    congr 2
    omega
theorem while_step {α : Type} [Inhabited α] (q : α → Bool) (l : List α) (k : Nat) (hk : k < l.length) (h : ∀ j, j < k → q l[j]! = true) : ((q l[k]! = true) → k < (l.takeWhile q).length) ∧ ((q l[k]! = false) → k = (l.takeWhile q).length) := by
  induction l generalizing k with
  | nil => cases hk
  | cons x l ih =>
    cases k with
    | zero =>
      refine ⟨fun e => ?_, fun e => ?_⟩
      · have e' : q x = true := e
        rw [List.takeWhile_cons_of_pos e']; simp
      · have e' : q x = false := e
        rw [List.takeWhile_cons_of_neg (by simp [e'])]; rfl
    | succ k =>
      have hx : q x = true := h 0 (by omega)
      obtain ⟨i1, i2⟩ := ih k (by simpa using hk) (fun j hj => h (j + 1) (by omega))
      rw [List.takeWhile_cons_of_pos hx, List.length_cons]
      exact ⟨fun e => by have := i1 e; omega, fun e => by have := i2 e; omega⟩
theorem while_all {α : Type} [Inhabited α] (q : α → Bool) (l : List α) (h : ∀ j, j < l.length → q l[j]! = true) : (l.takeWhile q).length = l.length := by
  induction l with
  | nil => rfl
  | cons x l ih =>
    have hx : q x = true := h 0 (by simp)
    rw [List.takeWhile_cons_of_pos hx, List.length_cons, List.length_cons, ih (fun j hj => h (j + 1) (by simpa using hj))]
structure Fr (X : World) (oB sB rB tB : Nat) (kd pt fn ar : Int) (ip : Option Addr) (n0 ic : Nat) (p : Option Addr) (n c : Nat) (tn ky vl : Int) : Prop where
  o : X.heap[oB]? = some (.cells #[.int .i64 kd, .int .i64 pt, .int .i64 fn, .int .i64 ar, .slice ip n0 ic] 55 (0, 0))
  s : X.heap[sB]? = some (.cells #[.slice p n c, .int .i64 tn] 58 (0, 0))
  r : X.heap[rB]? = some (.cells #[.int .i64 ky, .int .i64 vl] 71 (0, 0))
  t : X.heap[tB]? = some (.cells #[.slice none 0 0, .int .i64 0] 58 (0, 0))
theorem Tryz.infoKey : (Tryz.prog.info? 105).map (fun i => (i.zero, i.size, i.bytes)) = some (some (.agg #[.int .i64 0, .int .i64 0, .int .i64 0]), 3, 24) := by kernel_rfl
theorem own_one3 {W : World} {a b c : Value} {e : TypeId} {base : Nat} (hb : base ≤ W.heap.size) : (W.alloc (.cells #[a, b, c] e (0, 0))).ownsRow base e 3 (.slice (some ⟨W.heap.size, 0, none⟩) 1 1) 1 [a, b, c] :=
  ⟨rfl, .inr ⟨W.heap.size, 1, #[a, b, c], rfl, hb, heap_alloc_new W _, Nat.le_refl _, by unfold maxLen; omega, rfl, rfl⟩⟩
theorem sB_cells {W : World} {b : Nat} {c0 c1 : Value} (h : W.heap[b]? = some (.cells #[c0, c1] 58 (0, 0))) : W.cell? ⟨b, 0, none⟩ = some c0 ∧ W.cell? ⟨b, 1, none⟩ = some c1 := ⟨by simp [World.cell?, h], by simp [World.cell?, h]⟩
theorem x_cells {W : World} {b : Nat} {c0 c1 c2 : Value} (h : W.heap[b]? = some (.cells #[c0, c1, c2] 105 (0, 0))) : W.cell? ⟨b, 0, none⟩ = some c0 ∧ W.cell? ⟨b, 1, none⟩ = some c1 ∧ W.cell? ⟨b, 2, none⟩ = some c2 ∧ ∀ o, W.frozen? ⟨b, o, none⟩ = false := ⟨by simp [World.cell?, h], by simp [World.cell?, h], by simp [World.cell?, h], fun o => by simp [World.frozen?, h]⟩
theorem two_factsO {w : World} {b : Nat} {t : TypeId} {c0 c1 : Value} (h : w.heap[b]? = some (.cells #[c0, c1] t (0, 0))) (d0 : Value) :
    w.cell? ⟨b, 0, none⟩ = some c0 ∧ w.frozen? ⟨b, 0, none⟩ = false ∧ (w.setCell ⟨b, 0, none⟩ d0).cell? ⟨b, 1, none⟩ = some c1 ∧ (w.setCell ⟨b, 0, none⟩ d0).frozen? ⟨b, 1, none⟩ = false := Go.Proofs.YtifldnpccgbnkaaGreat.two_facts h d0
theorem row_len {α : Type} {cells : α → List Value} {k : Nat} [NeZero k] {W : World} {b N : Nat} {e : TypeId} {v : Value} {xs : List α} (hl : ∀ o, (cells o).length = k) (h : W.ownsRow b e k v N (xs.flatMap cells)) : xs.length = N := by
  have h1 := h.1
  rw [flat_len xs (fun o _ => hl o)] at h1
  exact Nat.eq_of_mul_eq_mul_right (Nat.pos_of_ne_zero (NeZero.ne k)) h1
/-- What folds hands back, once all is appended. -/
structure FoldE (W w : World) (tB : Nat) (p6 : Option Addr) (c6 N : Nat) (tn : Int) (po : Option Addr) (co M : Nat) (ks : List KS) (ps : List PU) : Prop where
  box : w.heap[tB]? = some (.cells #[.slice p6 N c6, .int .i64 tn] 58 (0, 0))
  keys : w.ownsRow W.heap.size 105 3 (.slice p6 N c6) N (ks.flatMap KS.cells)
  puts : w.ownsRow W.heap.size 103 3 (.slice po M co) M (ps.flatMap PU.cells)
  below : Below W.heap.size W w
theorem fold_end {W V Wc w6 : World} {B tB : Nat} {p6 po pl : Option Addr} {c6 N co M cl NL : Nat} {tn : Int} {ks : List KS} {ps : List PU} (hW : Below W.heap.size W V) (hc : Below V.heap.size V Wc) (hB1 : V.heap.size ≤ B) (_ : B ≤ Wc.heap.size) (ht : V.heap[tB]? = some (.cells #[.slice none 0 0, .int .i64 0] 58 (0, 0))) (htW : W.heap.size ≤ tB)
    {LL : List Value} (hl : Wc.ownsRow B 105 3 (.slice pl NL cl) NL LL) (hp : Wc.ownsRow V.heap.size 103 3 (.slice po M co) M (ps.flatMap PU.cells)) (o6 : w6.ownsRow B 105 3 (.slice p6 N c6) N (ks.flatMap KS.cells)) (g6 : Only (fun i => (Value.slice pl NL cl).ownBlock = some i) Wc w6) :
    FoldE W ((w6.setCell ⟨tB, 0, none⟩ (.slice p6 N c6)).setCell ⟨tB, 1, none⟩ (.int .i64 tn)) tB p6 c6 N tn po co M ks ps := by
  have htV := (Array.getElem?_eq_some_iff.1 ht).1
  have hbl : ∀ i, (Value.slice pl NL cl).ownBlock = some i → B ≤ i := fun i e => own_block_base hl e
  have ht6 := g6.obj (below_box hc ht) (fun e => by have := hbl _ e; omega)
  have hO := (Only.set (F := (· = tB)) w6 tB 0 (.slice p6 N c6) rfl).trans (Only.set (F := (· = tB)) _ tB 1 (.int .i64 tn) rfl)
  have hp6 := ownsRow_only hp g6 (fun b hb e => rows_apart hl hp (by decide) hb e)
  refine ⟨Go.Proofs.YtifldnpccgbnkaaGreat.two_set ht6 _ _, ownsRow_only (ownsRow_base o6 (Nat.le_trans hW.size hB1)) hO (fun b hb e => ?_), ownsRow_only (ownsRow_base hp6 hW.size) hO (fun b hb e => ?_), ?_⟩
  · have e' : b = tB := e
    have := own_block_base o6 hb
    omega
  · have e' : b = tB := e
    have := own_block_base hp6 hb
    omega
  · have h1 : Below W.heap.size W w6 := hW.trans ((hc.trans (g6.below hc.size (fun i e => Nat.le_trans hB1 (hbl i e)))).mono hW.size)
    exact (h1.setCell (p := ⟨tB, 0, none⟩) htW _).setCell (p := ⟨tB, 1, none⟩) htW _

set_option maxRecDepth 100000 in
set_option maxHeartbeats 16000000 in
theorem folds_any {W : World} {kd pt fn ar tn ky vl : Int} {ip p : Option Addr} {n0 ic n c : Nat} {ks : List KS} (hkp : keepsC kd = true) (h : KRow W p c ks) (hn : ks.length = n) (hb : n ≤ 1048576) (hki : ∀ x ∈ ks, 0 ≤ x.cnt ∧ x.cnt < 9007199254740992) :
    Calls Tryz.prog 89 #[.agg #[.int .i64 kd, .int .i64 pt, .int .i64 fn, .int .i64 ar, .slice ip n0 ic], .agg #[.slice p n c, .int .i64 tn], .agg #[.int .i64 ky, .int .i64 vl]] W fun e w' => ∃ pk ck K po co M, e = .returned (.tuple #[.agg #[.slice pk K ck, .int .i64 tn], .slice po M co]) ∧ (keysR kd fn ar ks ⟨ky, vl⟩).length = K ∧ (putsR kd fn ar ks ⟨ky, vl⟩).length = M ∧ w'.ownsRow W.heap.size 105 3 (.slice pk K ck) K ((keysR kd fn ar ks ⟨ky, vl⟩).flatMap KS.cells) ∧ w'.ownsRow W.heap.size 103 3 (.slice po M co) M ((putsR kd fn ar ks ⟨ky, vl⟩).flatMap PU.cells) ∧ Below W.heap.size W w' := by
  obtain ⟨k0, hK0, hz0, hz1, hz2⟩ := info_parts Tryz.infoKey
  have i1 := h.le
  have i2 := h.top
  rw [hn] at i1
  obtain ⟨V1, hV1⟩ : ∃ V, V = W.alloc (.cells #[.int .i64 kd, .int .i64 pt, .int .i64 fn, .int .i64 ar, .slice ip n0 ic] 55 (0, 0)) := ⟨_, rfl⟩
  obtain ⟨V2, hV2⟩ : ∃ V, V = V1.alloc (.cells #[.slice p n c, .int .i64 tn] 58 (0, 0)) := ⟨_, rfl⟩
  obtain ⟨V3, hV3⟩ : ∃ V, V = V2.alloc (.cells #[.int .i64 ky, .int .i64 vl] 71 (0, 0)) := ⟨_, rfl⟩
  obtain ⟨V, hV⟩ : ∃ V, V = V3.alloc (.cells #[.slice none 0 0, .int .i64 0] 58 (0, 0)) := ⟨_, rfl⟩
  obtain ⟨oB, hoB⟩ : ∃ oB, W.heap.size = oB := ⟨_, rfl⟩
  obtain ⟨sB, hsB⟩ : ∃ sB, oB + 1 = sB := ⟨_, rfl⟩
  obtain ⟨rB, hrB⟩ : ∃ rB, sB + 1 = rB := ⟨_, rfl⟩
  obtain ⟨tB, htB⟩ : ∃ tB, rB + 1 = tB := ⟨_, rfl⟩
  have s1 : V1.heap.size = sB := by rw [hV1, ← hsB, ← hoB]; simp
  have s2 : V2.heap.size = rB := by rw [hV2]; simp [s1, hrB]
  have s3 : V3.heap.size = tB := by rw [hV3]; simp [s2, htB]
  have s4 : V.heap.size = tB + 1 := by rw [hV]; simp [s3]
  have HS4 := hide s4
  have HWT : Hid (W.heap.size ≤ tB) := hide (by omega)
  have b1 : Below W.heap.size W V1 := by rw [hV1]; exact alloc_below _ _
  have b2 : Below V1.heap.size V1 V2 := by rw [hV2]; exact alloc_below _ _
  have b3 : Below V2.heap.size V2 V3 := by rw [hV3]; exact alloc_below _ _
  have b4 : Below V3.heap.size V3 V := by rw [hV]; exact alloc_below _ _
  have u1 : V1.heap[oB]? = some (.cells #[.int .i64 kd, .int .i64 pt, .int .i64 fn, .int .i64 ar, .slice ip n0 ic] 55 (0, 0)) := by rw [hV1, ← hoB]; exact heap_alloc_new W _
  have u2 : V2.heap[sB]? = some (.cells #[.slice p n c, .int .i64 tn] 58 (0, 0)) := by rw [hV2, ← s1]; exact heap_alloc_new V1 _
  have u3 : V3.heap[rB]? = some (.cells #[.int .i64 ky, .int .i64 vl] 71 (0, 0)) := by rw [hV3, ← s2]; exact heap_alloc_new V2 _
  have u4 : V.heap[tB]? = some (.cells #[.slice none 0 0, .int .i64 0] 58 (0, 0)) := by rw [hV, ← s3]; exact heap_alloc_new V3 _
  have bV : Below W.heap.size W V := ((b1.trans (b2.mono (by omega))).trans (b3.mono (by omega))).trans (b4.mono (by omega))
  have HFR : Hid (∀ X, Below V.heap.size V X → Fr X oB sB rB tB kd pt fn ar ip n0 ic p n c tn ky vl) := hide (fun X hX => ⟨below_box hX (below_box b4 (below_box b3 (below_box b2 u1))), below_box hX (below_box b4 (below_box b3 u2)), below_box hX (below_box b4 u3), below_box hX u4⟩)
  have HTB := hide u4
  have HK := hide (KRow.later h bV)
  have HN0 := hide hn
  have HKI := hide hki
  have HBW := hide bV
  have hkd : kd = 5 ∨ kd = 6 := by unfold keepsC at hkp; simpa using hkp
  clear h hn hki bV hkp b1 b2 b3 b4 u1 u2 u3 u4
  go_enter Tryz.func89, Tryz.ntmps89
  go_upto_region 1 with fail
  rw [← hV1, ← hV2, ← hV3, ← hV]
  try rw [hoB]
  try rw [hsB]
  try rw [hrB]
  try rw [htB]
  have hl1 : oB < sB := by omega
  have hl2 : sB < rB := by omega
  have hl3 : rB < tB := by omega
  clear hV1 hV2 hV3 hV hoB s1 s2 s3 s4 hsB hrB htB
  go_wp2_with fail
  go_loopw [8] (fun s wq => ∃ (k : Nat), k ≤ n ∧ s = .int .i64 (k : Int) ∧ Hid (∀ j, j < k → (decide ((ks[j]!).key ≠ ky)) = true) ∧ Hid (Below V.heap.size V wq)) (fun s _ => n - (intOf s).toNat)
  case atStart => exact ⟨0, Nat.zero_le _, rfl, hide (fun j hj => absurd hj (Nat.not_lt_zero j)), hide (Below.refl _ _)⟩
  case round =>
    obtain ⟨k, hk, rfl, HNE, HBq⟩ := hrel
    rename World => wq
    have hF := HFR.out wq HBq.out
    obtain ⟨y0, _⟩ := sB_cells hF.s
    have y1 : wq.cell? ⟨rB, 0, none⟩ = some (.int .i64 ky) := by simp [World.cell?, hF.r]
    clear hF
    by_cases hlt : k < n
    · have hlt2 : k < ks.length := by rw [HN0.out]; exact hlt
      obtain ⟨⟨xk, xc, xa⟩, hx⟩ : ∃ x, ks[k]! = x := ⟨_, rfl⟩
      obtain ⟨g, o, rfl, c0, c1, c2⟩ := KRow.at (KRow.later HK.out HBq.out) hlt2 hx
      simp only at c0 c1 c2
      have hw := while_step (fun x : KS => decide (x.key ≠ ky)) ks k hlt2 HNE.out
      rw [hx] at hw
      have dk : decide (k < n) = true := decide_eq_true hlt
      have dkI : decide ((k : Int) < (n : Int)) = true := decide_eq_true (by omega)
      by_cases he : xk = ky
      · subst he
        have hat : atK ks xk = k := (hw.2 (by simp)).symm
        have hhad : hadR ks xk = true := by unfold hadR; rw [hat]; exact decide_eq_true hlt2
        have HOLD : Hid (oldR ks xk = ⟨xk, xc, xa⟩) := hide (by unfold oldR; rw [if_pos hhad, hat, hx])
        have HPOS : Hid (posR ks xk = k) := hide (by unfold posR; rw [if_pos hhad, hat])
        have HHAD := hide hhad
        have hcn := HKI.out ⟨xk, xc, xa⟩ (by rw [← hx, getElem!_pos ks k hlt2]; exact List.getElem_mem _)
        simp only at hcn
        have dq : (xk != xk) = false := by simp
        clear hw hat hhad hx hlt2 HNE
        go_upto_region 2 with fail
        go_big_quiet (fail)
        obtain ⟨Y, hY⟩ : ∃ Y, Y = wq.drewN nq := ⟨_, rfl⟩
        have bY : Below wq.heap.size wq Y := by rw [hY]; exact below_drewN (Below.refl _ wq) _
        try rw [← hY]
        have HBY := hide (HBq.out.trans (bY.mono HBq.out.size))
        have c0 := cell_later bY c0
        have c1 := cell_later bY c1
        have c2 := cell_later bY c2
        have hFY := HFR.out Y HBY.out
        obtain ⟨y0, _⟩ := sB_cells hFY.s
        have y1 : Y.cell? ⟨rB, 0, none⟩ = some (.int .i64 xk) := by simp [World.cell?, hFY.r]
        clear hY bY hFY HBq dq
        obtain ⟨X2, hX2⟩ : ∃ X2, X2 = Y.alloc (.cells #[.int .i64 xk, .int .i64 0, .int .i64 0] 105 (0, 0)) := ⟨_, rfl⟩
        have bX2 : Below Y.heap.size Y X2 := by rw [hX2]; exact alloc_below _ _
        obtain ⟨hB, hhB⟩ : ∃ hB, Y.heap.size = hB := ⟨_, rfl⟩
        have hh2 : X2.heap[hB]? = some (.cells #[.int .i64 xk, .int .i64 0, .int .i64 0] 105 (0, 0)) := by rw [hX2, ← hhB]; exact heap_alloc_new Y _
        have hVh : tB + 1 ≤ hB := by rw [← hhB, ← HS4.out]; exact HBY.out.size
        have HBX2 := hide (HBY.out.trans (bX2.mono HBY.out.size))
        have c0 := cell_later bX2 c0
        have c1 := cell_later bX2 c1
        have c2 := cell_later bX2 c2
        have hF2 := HFR.out X2 HBX2.out
        obtain ⟨y0, _⟩ := sB_cells hF2.s
        obtain ⟨f0, f1, f2, f3, f4, f5⟩ := ks_facts hh2 (.int .i64 xk) (.int .i64 xc)
        have hxb := set3 hh2 (.int .i64 xk) (.int .i64 xc) (.int .i64 xa)
        have hXB : Below V.heap.size V (((X2.setCell ⟨hB, 0, none⟩ (.int .i64 xk)).setCell ⟨hB, 1, none⟩ (.int .i64 xc)).setCell ⟨hB, 2, none⟩ (.int .i64 xa)) := HBX2.out.trans ((only_set3 X2 hB _ _ _).below HBX2.out.size (fun i e => by have e' : i = hB := e; have := HS4.out; omega))
        obtain ⟨X, hX⟩ : ∃ X, X = (((X2.setCell ⟨hB, 0, none⟩ (.int .i64 xk)).setCell ⟨hB, 1, none⟩ (.int .i64 xc)).setCell ⟨hB, 2, none⟩ (.int .i64 xa)) := ⟨_, rfl⟩
        rw [← hX] at hxb hXB
        have HXB := hide hxb
        have HBX := hide hXB
        clear hxb hXB hF2 bX2 hh2
        go_upto_region 7 with fail
        rw [← hX2]
        try rw [hhB]
        clear hX2 hhB
        go_upto_region 11 with fail
        rw [← hX]
        clear hX f0 f1 f2 f3 f4 f5 c0 c1 c2 y0 y1 HBX2 HBY
        have hkn : k ≤ n := hk
        obtain ⟨g0, g1, g2, g3⟩ := x_cells HXB.out
        have hFX := HFR.out X HBX.out
        have v0 : X.cell? ⟨oB, 2, none⟩ = some (.int .i64 fn) := by simp [World.cell?, hFX.o]
        have v1 : X.cell? ⟨rB, 1, none⟩ = some (.int .i64 vl) := by simp [World.cell?, hFX.r]
        obtain ⟨ac, hac⟩ : ∃ ac, accC fn xc xa vl = ac := ⟨_, rfl⟩
        have HAC := hide (racc_any (W := X) (fn := fn) (key := xk) (cnt := xc) (acc := xa) (v := vl))
        rw [hac] at HAC
        have HACE := hide hac
        clear hFX hac
        go_wp2_with fail
        refine HAC.out.mono ?_
        rintro _ w4 ⟨rfl, b4⟩
        have hx4 := below_box b4 HXB.out
        obtain ⟨e0, e1, e2, e3⟩ := x_cells hx4
        have e32 := e3 2
        have hx5 := heap_setCell_same w4 hB 2 _ _ (.int .i64 ac) hx4
        have hB5 : Below V.heap.size V (w4.setCell ⟨hB, 2, none⟩ (.int .i64 ac)) := (HBX.out.trans (b4.mono HBX.out.size)).setCell (p := ⟨hB, 2, none⟩) (by have := HS4.out; show V.heap.size ≤ hB; omega) _
        obtain ⟨X5, hX5⟩ : ∃ X5, X5 = w4.setCell ⟨hB, 2, none⟩ (.int .i64 ac) := ⟨_, rfl⟩
        rw [← hX5] at hx5 hB5
        have hx5' : X5.heap[hB]? = some (.cells #[.int .i64 xk, .int .i64 xc, .int .i64 ac] 105 (0, 0)) := hx5
        obtain ⟨l0, l1, l2, l3⟩ := x_cells hx5'
        have l31 := l3 1
        have hx6 := heap_setCell_same X5 hB 1 _ _ (.int .i64 (xc + 1)) hx5'
        have hB6 : Below V.heap.size V (X5.setCell ⟨hB, 1, none⟩ (.int .i64 (xc + 1))) := hB5.setCell (p := ⟨hB, 1, none⟩) (by have := HS4.out; show V.heap.size ≤ hB; omega) _
        obtain ⟨X6, hX6⟩ : ∃ X6, X6 = X5.setCell ⟨hB, 1, none⟩ (.int .i64 (xc + 1)) := ⟨_, rfl⟩
        rw [← hX6] at hx6 hB6
        have hx6' : X6.heap[hB]? = some (.cells #[.int .i64 xk, .int .i64 (xc + 1), .int .i64 ac] 105 (0, 0)) := hx6
        obtain ⟨m0, m1, m2, m3⟩ := x_cells hx6'
        have hF6 := HFR.out X6 hB6
        have m4 : X6.cell? ⟨rB, 0, none⟩ = some (.int .i64 xk) := by simp [World.cell?, hF6.r]
        obtain ⟨X7, hX7⟩ : ∃ X7, X7 = X6.alloc (.cells #[.int .i64 0, .int .i64 xk, .int .i64 ac] 103 (0, 0)) := ⟨_, rfl⟩
        have b7 : Below X6.heap.size X6 X7 := by rw [hX7]; exact alloc_below _ _
        have HOUT : Hid (X7.ownsRow V.heap.size 103 3 (.slice (some ⟨X6.heap.size, 0, none⟩) 1 1) 1 [.int .i64 0, .int .i64 xk, .int .i64 ac]) := hide (by rw [hX7]; exact own_one3 hB6.size)
        obtain ⟨qB, hqB⟩ : ∃ qB, X6.heap.size = qB := ⟨_, rfl⟩
        rw [hqB] at HOUT
        have HB7 := hide (hB6.trans (b7.mono hB6.size))
        have HX7 := hide (below_box b7 hx6')
        have hF7 := HFR.out X7 HB7.out
        obtain ⟨y0, _⟩ := sB_cells hF7.s
        have HDC : Hid ((xc : Int) < 9007199254740992) := hide (by omega)
        have dcn : decide ((xc : Int) < 9007199254740992) = true := decide_eq_true HDC.out
        have wcn : IntKind.i64.wrap ((xc : Int) + 1) = (xc + 1) := by rw [IntKind.wrap_i64]; omega
        have HSG := hide (LRow.seg (by decide) KS.len ks_one1 (KRow.head (KRow.later HK.out HB7.out) (show k ≤ ks.length by rw [HN0.out]; exact hkn)))
        have htk : (ks.take k).length = k := by rw [List.length_take, HN0.out]; omega
        rw [htk] at HSG
        have HK1 : Hid (0 + k ≤ maxLen) := by show _ ≤ _; unfold maxLen; omega
        have HK2 : Hid ((0 + k) * 24 ≤ 140737488355328) := by show _ ≤ _; omega
        have hkc : k ≤ c := by omega
        clear b4 hx4 hx5 hB5 hx6 hB6 hF6 b7 hF7 htk HAC g0 g1 g2 g3 v0 v1
        go_upto_region 12 with fail
        rw [← hX5]
        clear hX5 e0 e1 e2 e3 e32
        go_upto_region 14 with fail
        try rw [wcn]
        rw [← hX6]
        clear hX6 l0 l1 l2 l3 l31 dcn
        go_upto_region 16 with fail
        rw [← hX7]
        try rw [hqB]
        clear hX7 hqB m0 m1 m2 m3 m4
        go_wp2_with (at_builtin; refine append_cells _ rfl (.tmp 84) (.tmp 88) 56 rfl X7.heap.size 105 k0 (.agg #[.int .i64 0, .int .i64 0, .int .i64 0]) 3 24 Tryz.underlying56 hK0 hz0 hz1 hz2 rfl (by decide) (.slice none 0 0) 0 [] rfl (World.ownsRow_nil _ _ _ _) (.slice (some ⟨g, o, none⟩) k c) k _ rfl HSG.out HK1.out HK2.out (Nat.le_refl _) ?_)
        intro p5 c5 w5 hown hgrow
        have b5 : Below X7.heap.size X7 w5 := (Below.refl _ X7).grown hgrow (Nat.le_refl _) (fun i hi => by simp [Value.ownBlock] at hi)
        have HL5 := hide hown
        have HB5 := hide (HB7.out.trans (b5.mono HB7.out.size))
        have HX5 := hide (below_box b5 HX7.out)
        have HOUT5 := hide (ownsRow_later HOUT.out b5)
        have HLB5 : Hid (X7.heap.size ≤ w5.heap.size) := hide b5.size
        have hh7 : hB < X7.heap.size := (Array.getElem?_eq_some_iff.1 HX7.out).1
        obtain ⟨B7, hB7⟩ : ∃ B7, X7.heap.size = B7 := ⟨_, rfl⟩
        rw [hB7] at HL5 HLB5 hh7
        have HVB7 : Hid (V.heap.size ≤ B7) := hide (by rw [← hB7]; exact HB7.out.size)
        clear hown hgrow b5 HOUT HX7 HB7 HSG HK1 HK2 hB7 y0
        obtain ⟨j1, j2, j3, j4⟩ := x_cells HX5.out
        have hF5 := HFR.out w5 HB5.out
        obtain ⟨y0, y9⟩ := sB_cells hF5.s
        have o0 : w5.cell? ⟨oB, 0, none⟩ = some (.int .i64 kd) := by simp [World.cell?, hF5.o]
        have o3 : w5.cell? ⟨oB, 3, none⟩ = some (.int .i64 ar) := by simp [World.cell?, hF5.o]
        clear hF5
        rcases hkd with kd5 | kd6
        · subst kd5
          have hab := alloc_below w5 (.cells #[.int .i64 xk, .int .i64 (xc + 1), .int .i64 ac] 105 (0, 0))
          have HSG := hide (Seg.news (size := 3) (m := 1) (c := 1) (heap_alloc_new w5 (.cells #[.int .i64 xk, .int .i64 (xc + 1), .int .i64 ac] 105 (0, 0))) (by simp [Value.oneCell']) rfl (Nat.le_refl _) (by decide))
          have HRW := hide (ownsRow_later HL5.out hab)
          have HK1 : Hid (k + 1 ≤ maxLen) := by show _ ≤ _; unfold maxLen; omega
          have HK2 : Hid ((k + 1) * 24 ≤ 140737488355328) := by show _ ≤ _; omega
          have HBS : Hid (B7 ≤ (w5.alloc (.cells #[.int .i64 xk, .int .i64 (xc + 1), .int .i64 ac] 105 (0, 0))).heap.size) := hide (Nat.le_trans HLB5.out hab.size)
          have HAB := hide hab
          clear hab
          go_wp2_with (at_builtin; refine append_cells _ rfl (.tmp 100) (.tmp 102) 56 rfl B7 105 k0 (.agg #[.int .i64 0, .int .i64 0, .int .i64 0]) 3 24 Tryz.underlying56 hK0 hz0 hz1 hz2 rfl (by decide) (.slice p5 k c5) k _ rfl HRW.out (.slice (some ⟨w5.heap.size, 0, none⟩) 1 1) 1 _ rfl HSG.out HK1.out HK2.out HBS.out ?_)
          intro pl cl wl hown hgrow
          have hoL : Only (fun i => (Value.slice p5 k c5).ownBlock = some i) w5 wl := (Only.fresh HAB.out _).trans (Only.of_grown hgrow (fun k e => e))
          have hbL : ∀ i, (Value.slice p5 k c5).ownBlock = some i → B7 ≤ i := fun i e => own_block_base HL5.out e
          have HLL : Hid (wl.ownsRow B7 105 3 (.slice pl (k + 1) cl) (k + 1) ((ks.take k ++ [(⟨xk, xc + 1, ac⟩ : KS)]).flatMap KS.cells)) := hide (by rw [List.flatMap_append]; exact hown)
          have HBL := hide (HB5.out.trans (hoL.below HB5.out.size (fun i e => Nat.le_trans HVB7.out (hbL i e))))
          have HXL := hide (hoL.obj HX5.out (fun e => by have := hbL _ e; omega))
          have HOL := hide (ownsRow_only HOUT5.out hoL (fun b hb e => rows_apart HL5.out HOUT5.out (by decide) hb e))
          have HLBL : Hid (B7 ≤ wl.heap.size) := hide (Nat.le_trans HLB5.out hoL.size)
          clear hown hgrow hoL hbL HRW HSG HK1 HK2 HBS HAB HL5 HB5 HX5 HOUT5 HLB5 j1 j2 j3 j4 y0 y9 o0 o3
          obtain ⟨j1, j2, j3, j4⟩ := x_cells HXL.out
          have hFl := HFR.out wl HBL.out
          obtain ⟨y0, y9⟩ := sB_cells hFl.s
          have o0 : wl.cell? ⟨oB, 0, none⟩ = some (.int .i64 5) := by simp [World.cell?, hFl.o]
          have o3 : wl.cell? ⟨oB, 3, none⟩ = some (.int .i64 ar) := by simp [World.cell?, hFl.o]
          clear hFl
          have hdr : k + 1 ≤ ks.length := by rw [HN0.out]; omega
          obtain ⟨dp, hdp⟩ : ∃ dp : Option Addr, (if c = k + 1 then (some ⟨g, o, none⟩ : Option Addr) else some ⟨g, o + (k + 1) * 3, none⟩) = dp := ⟨_, rfl⟩
          have hrst := KRow.rest (KRow.later HK.out HBL.out) hdr
          have e9 : Option.map (fun x : Addr => x.add ((k + 1) * 3)) (some ⟨g, o, none⟩) = some ⟨g, o + (k + 1) * 3, none⟩ := by simp [Addr.add]
          rw [e9, hdp] at hrst
          clear e9
          obtain ⟨dn, hdn⟩ : ∃ dn, n - (k + 1) = dn := ⟨_, rfl⟩
          obtain ⟨dc, hdc⟩ : ∃ dc, c - (k + 1) = dc := ⟨_, rfl⟩
          have hdl : (ks.drop (k + 1)).length = dn := by rw [List.length_drop, HN0.out]; exact hdn
          have hsg := LRow.seg (by decide) KS.len ks_one1 hrst
          rw [hdl, hdc] at hsg
          have HSG := hide hsg
          have HK1 : Hid (k + 1 + dn ≤ maxLen) := by show _ ≤ _; unfold maxLen; omega
          have HK2 : Hid ((k + 1 + dn) * 24 ≤ 140737488355328) := by show _ ≤ _; omega
          have hkd1 : k + 1 ≤ n := by omega
          have hkd2 : k + 1 ≤ c := by omega
          have hkd3 : ((k : Int) + 1) ≤ (n : Int) := by omega
          have hkd4 : (0 : Int) ≤ ((k : Int) + 1) := by omega
          have HRES : Hid (∀ p6 c6 w6, w6.ownsRow B7 105 3 (.slice p6 (k + 1 + dn) c6) (k + 1 + dn) ((ks.take k ++ [(⟨xk, xc + 1, ac⟩ : KS)]).flatMap KS.cells ++ (ks.drop (k + 1)).flatMap KS.cells) → Only (fun i => (Value.slice pl (k + 1) cl).ownBlock = some i) wl w6 → FoldE W ((w6.setCell ⟨tB, 0, none⟩ (.slice p6 (k + 1 + dn) c6)).setCell ⟨tB, 1, none⟩ (.int .i64 tn)) tB p6 c6 (k + 1 + dn) tn (some ⟨qB, 0, none⟩) 1 1 ((ks.take k ++ [(⟨xk, xc + 1, ac⟩ : KS)]) ++ ks.drop (k + 1)) ([⟨0, xk, ac⟩] : List PU)) := hide (fun p6 c6 w6 o6 g6 => fold_end HBW.out HBL.out HVB7.out HLBL.out HTB.out HWT.out HLL.out HOL.out (by rw [List.flatMap_append]; exact o6) g6)
          have HT6 : Hid (∀ w6, Only (fun i => (Value.slice pl (k + 1) cl).ownBlock = some i) wl w6 → w6.heap[tB]? = some (.cells #[.slice none 0 0, .int .i64 0] 58 (0, 0)) ∧ w6.cell? ⟨sB, 1, none⟩ = some (.int .i64 tn)) := hide (fun w6 ho => by
            have hbl : ∀ i, (Value.slice pl (k + 1) cl).ownBlock = some i → B7 ≤ i := fun i e => own_block_base HLL.out e
            have hv := HVB7.out
            have h4 := HS4.out
            have hFl := HFR.out wl HBL.out
            exact ⟨ho.obj hFl.t (fun e => by have := hbl _ e; omega), ho.cell (sB_cells hFl.s).2 (fun e => by have h9 : B7 ≤ sB := hbl _ e; omega)⟩)
          have HKR : Hid (keysR 5 fn ar ks ⟨xk, vl⟩ = (ks.take k ++ [(⟨xk, xc + 1, ac⟩ : KS)]) ++ ks.drop (k + 1)) := hide (by
            unfold keysR
            simp only
            rw [HOLD.out, HPOS.out, HHAD.out]
            have hnw : nowR fn ⟨xk, xc, xa⟩ vl = ⟨xk, xc + 1, ac⟩ := by
              unfold nowR
              simp only
              rw [if_pos HDC.out, HACE.out]
            rw [hnw]
            have hst : stayR 5 ar ⟨xk, xc + 1, ac⟩ = true := by unfold stayR; rfl
            rw [hst]
            rw [if_pos rfl, if_pos rfl, List.append_assoc])
          have HPR : Hid (putsR 5 fn ar ks ⟨xk, vl⟩ = ([⟨0, xk, ac⟩] : List PU)) := hide (by
            unfold putsR
            simp only
            rw [HOLD.out]
            have hnw : nowR fn ⟨xk, xc, xa⟩ vl = ⟨xk, xc + 1, ac⟩ := by
              unfold nowR
              simp only
              rw [if_pos HDC.out, HACE.out]
            rw [hnw]
            rfl)
          clear hrst hsg hdl hdr
          go_upto_region 23 with fail
          go_region_law (refine step_append_cells rfl (.tmp 117) (.tmp 121) 56 rfl B7 105 k0 (.agg #[.int .i64 0, .int .i64 0, .int .i64 0]) 3 24 Tryz.underlying56 hK0 hz0 hz1 hz2 rfl (by decide) (.slice pl (k + 1) cl) (k + 1) _ (by first | (simp [Act.eval]; done) | simp [Act.eval, Act.put]) HLL.out.drew (.slice dp dn dc) dn _ (by first | (simp [Act.eval]; done) | simp [Act.eval, Act.put]) HSG.out HK1.out HK2.out HLBL.out ?_; intro p6 c6 w6 o6 g6; have hoW : Only (fun i => (Value.slice pl (k + 1) cl).ownBlock = some i) wl w6 := (Only.refl _ wl).drew.trans (Only.of_grown g6 (fun k e => e)); obtain ⟨tb6, sb6⟩ := HT6.out w6 hoW; obtain ⟨f0, f1, f2, f3⟩ := two_factsO tb6 (.slice p6 (k + 1 + dn) c6))
          all_goals
            have HE := hide (HRES.out p6 c6 w6 o6 hoW)
            clear o6 g6 hoW tb6
            go_wp2
            refine bodyPost_ret (Go.Proofs.YtifldnpccgbnkaaGreat.results_cell_two rfl _ _ tB 58 _ _ _ rfl HE.out.box Tryz.underlying58 rfl (by kernel_rfl)) rfl ?_
            have HKL := HE.out.keys
            have HPL := HE.out.puts
            rw [← HKR.out] at HKL
            rw [← HPR.out] at HPL
            exact ⟨_, _, _, _, _, _, rfl, row_len KS.len HKL, row_len PU.len HPL, HKL, HPL, HE.out.below⟩
        · by_cases hst : (xc + 1) < ar
          · subst kd6
            have da : decide ((xc + 1) < ar) = true := decide_eq_true hst
            have hab := alloc_below w5 (.cells #[.int .i64 xk, .int .i64 (xc + 1), .int .i64 ac] 105 (0, 0))
            have HSG := hide (Seg.news (size := 3) (m := 1) (c := 1) (heap_alloc_new w5 (.cells #[.int .i64 xk, .int .i64 (xc + 1), .int .i64 ac] 105 (0, 0))) (by simp [Value.oneCell']) rfl (Nat.le_refl _) (by decide))
            have HRW := hide (ownsRow_later HL5.out hab)
            have HK1 : Hid (k + 1 ≤ maxLen) := by show _ ≤ _; unfold maxLen; omega
            have HK2 : Hid ((k + 1) * 24 ≤ 140737488355328) := by show _ ≤ _; omega
            have HBS : Hid (B7 ≤ (w5.alloc (.cells #[.int .i64 xk, .int .i64 (xc + 1), .int .i64 ac] 105 (0, 0))).heap.size) := hide (Nat.le_trans HLB5.out hab.size)
            have HAB := hide hab
            clear hab
            go_wp2_with (at_builtin; refine append_cells _ rfl (.tmp 100) (.tmp 102) 56 rfl B7 105 k0 (.agg #[.int .i64 0, .int .i64 0, .int .i64 0]) 3 24 Tryz.underlying56 hK0 hz0 hz1 hz2 rfl (by decide) (.slice p5 k c5) k _ rfl HRW.out (.slice (some ⟨w5.heap.size, 0, none⟩) 1 1) 1 _ rfl HSG.out HK1.out HK2.out HBS.out ?_)
            intro pl cl wl hown hgrow
            have hoL : Only (fun i => (Value.slice p5 k c5).ownBlock = some i) w5 wl := (Only.fresh HAB.out _).trans (Only.of_grown hgrow (fun k e => e))
            have hbL : ∀ i, (Value.slice p5 k c5).ownBlock = some i → B7 ≤ i := fun i e => own_block_base HL5.out e
            have HLL : Hid (wl.ownsRow B7 105 3 (.slice pl (k + 1) cl) (k + 1) ((ks.take k ++ [(⟨xk, xc + 1, ac⟩ : KS)]).flatMap KS.cells)) := hide (by rw [List.flatMap_append]; exact hown)
            have HBL := hide (HB5.out.trans (hoL.below HB5.out.size (fun i e => Nat.le_trans HVB7.out (hbL i e))))
            have HXL := hide (hoL.obj HX5.out (fun e => by have := hbL _ e; omega))
            have HOL := hide (ownsRow_only HOUT5.out hoL (fun b hb e => rows_apart HL5.out HOUT5.out (by decide) hb e))
            have HLBL : Hid (B7 ≤ wl.heap.size) := hide (Nat.le_trans HLB5.out hoL.size)
            clear hown hgrow hoL hbL HRW HSG HK1 HK2 HBS HAB HL5 HB5 HX5 HOUT5 HLB5 j1 j2 j3 j4 y0 y9 o0 o3
            obtain ⟨j1, j2, j3, j4⟩ := x_cells HXL.out
            have hFl := HFR.out wl HBL.out
            obtain ⟨y0, y9⟩ := sB_cells hFl.s
            have o0 : wl.cell? ⟨oB, 0, none⟩ = some (.int .i64 6) := by simp [World.cell?, hFl.o]
            have o3 : wl.cell? ⟨oB, 3, none⟩ = some (.int .i64 ar) := by simp [World.cell?, hFl.o]
            clear hFl
            have hdr : k + 1 ≤ ks.length := by rw [HN0.out]; omega
            obtain ⟨dp, hdp⟩ : ∃ dp : Option Addr, (if c = k + 1 then (some ⟨g, o, none⟩ : Option Addr) else some ⟨g, o + (k + 1) * 3, none⟩) = dp := ⟨_, rfl⟩
            have hrst := KRow.rest (KRow.later HK.out HBL.out) hdr
            have e9 : Option.map (fun x : Addr => x.add ((k + 1) * 3)) (some ⟨g, o, none⟩) = some ⟨g, o + (k + 1) * 3, none⟩ := by simp [Addr.add]
            rw [e9, hdp] at hrst
            clear e9
            obtain ⟨dn, hdn⟩ : ∃ dn, n - (k + 1) = dn := ⟨_, rfl⟩
            obtain ⟨dc, hdc⟩ : ∃ dc, c - (k + 1) = dc := ⟨_, rfl⟩
            have hdl : (ks.drop (k + 1)).length = dn := by rw [List.length_drop, HN0.out]; exact hdn
            have hsg := LRow.seg (by decide) KS.len ks_one1 hrst
            rw [hdl, hdc] at hsg
            have HSG := hide hsg
            have HK1 : Hid (k + 1 + dn ≤ maxLen) := by show _ ≤ _; unfold maxLen; omega
            have HK2 : Hid ((k + 1 + dn) * 24 ≤ 140737488355328) := by show _ ≤ _; omega
            have hkd1 : k + 1 ≤ n := by omega
            have hkd2 : k + 1 ≤ c := by omega
            have hkd3 : ((k : Int) + 1) ≤ (n : Int) := by omega
            have hkd4 : (0 : Int) ≤ ((k : Int) + 1) := by omega
            have HRES : Hid (∀ p6 c6 w6, w6.ownsRow B7 105 3 (.slice p6 (k + 1 + dn) c6) (k + 1 + dn) ((ks.take k ++ [(⟨xk, xc + 1, ac⟩ : KS)]).flatMap KS.cells ++ (ks.drop (k + 1)).flatMap KS.cells) → Only (fun i => (Value.slice pl (k + 1) cl).ownBlock = some i) wl w6 → FoldE W ((w6.setCell ⟨tB, 0, none⟩ (.slice p6 (k + 1 + dn) c6)).setCell ⟨tB, 1, none⟩ (.int .i64 tn)) tB p6 c6 (k + 1 + dn) tn none 0 0 ((ks.take k ++ [(⟨xk, xc + 1, ac⟩ : KS)]) ++ ks.drop (k + 1)) ([] : List PU)) := hide (fun p6 c6 w6 o6 g6 => fold_end HBW.out HBL.out HVB7.out HLBL.out HTB.out HWT.out HLL.out (World.ownsRow_nil _ _ _ _) (by rw [List.flatMap_append]; exact o6) g6)
            have HT6 : Hid (∀ w6, Only (fun i => (Value.slice pl (k + 1) cl).ownBlock = some i) wl w6 → w6.heap[tB]? = some (.cells #[.slice none 0 0, .int .i64 0] 58 (0, 0)) ∧ w6.cell? ⟨sB, 1, none⟩ = some (.int .i64 tn)) := hide (fun w6 ho => by
              have hbl : ∀ i, (Value.slice pl (k + 1) cl).ownBlock = some i → B7 ≤ i := fun i e => own_block_base HLL.out e
              have hv := HVB7.out
              have h4 := HS4.out
              have hFl := HFR.out wl HBL.out
              exact ⟨ho.obj hFl.t (fun e => by have := hbl _ e; omega), ho.cell (sB_cells hFl.s).2 (fun e => by have h9 : B7 ≤ sB := hbl _ e; omega)⟩)
            have HKR : Hid (keysR 6 fn ar ks ⟨xk, vl⟩ = (ks.take k ++ [(⟨xk, xc + 1, ac⟩ : KS)]) ++ ks.drop (k + 1)) := hide (by
              unfold keysR
              simp only
              rw [HOLD.out, HPOS.out, HHAD.out]
              have hnw : nowR fn ⟨xk, xc, xa⟩ vl = ⟨xk, xc + 1, ac⟩ := by
                unfold nowR
                simp only
                rw [if_pos HDC.out, HACE.out]
              rw [hnw]
              have hst : stayR 6 ar ⟨xk, xc + 1, ac⟩ = true := by unfold stayR; simp only [da]; rfl
              rw [hst]
              rw [if_pos rfl, if_pos rfl, List.append_assoc])
            have HPR : Hid (putsR 6 fn ar ks ⟨xk, vl⟩ = ([] : List PU)) := hide (by
              unfold putsR
              simp only
              rw [HOLD.out]
              have hnw : nowR fn ⟨xk, xc, xa⟩ vl = ⟨xk, xc + 1, ac⟩ := by
                unfold nowR
                simp only
                rw [if_pos HDC.out, HACE.out]
              rw [hnw]
              simp [da])
            clear hrst hsg hdl hdr
            go_upto_region 23 with fail
            go_region_law (refine step_append_cells rfl (.tmp 117) (.tmp 121) 56 rfl B7 105 k0 (.agg #[.int .i64 0, .int .i64 0, .int .i64 0]) 3 24 Tryz.underlying56 hK0 hz0 hz1 hz2 rfl (by decide) (.slice pl (k + 1) cl) (k + 1) _ (by first | (simp [Act.eval]; done) | simp [Act.eval, Act.put]) HLL.out.drew (.slice dp dn dc) dn _ (by first | (simp [Act.eval]; done) | simp [Act.eval, Act.put]) HSG.out HK1.out HK2.out HLBL.out ?_; intro p6 c6 w6 o6 g6; have hoW : Only (fun i => (Value.slice pl (k + 1) cl).ownBlock = some i) wl w6 := (Only.refl _ wl).drew.trans (Only.of_grown g6 (fun k e => e)); obtain ⟨tb6, sb6⟩ := HT6.out w6 hoW; obtain ⟨f0, f1, f2, f3⟩ := two_factsO tb6 (.slice p6 (k + 1 + dn) c6))
            all_goals
              have HE := hide (HRES.out p6 c6 w6 o6 hoW)
              clear o6 g6 hoW tb6
              go_wp2
              refine bodyPost_ret (Go.Proofs.YtifldnpccgbnkaaGreat.results_cell_two rfl _ _ tB 58 _ _ _ rfl HE.out.box Tryz.underlying58 rfl (by kernel_rfl)) rfl ?_
              have HKL := HE.out.keys
              have HPL := HE.out.puts
              rw [← HKR.out] at HKL
              rw [← HPR.out] at HPL
              exact ⟨_, _, _, _, _, _, rfl, row_len KS.len HKL, row_len PU.len HPL, HKL, HPL, HE.out.below⟩
          · subst kd6
            have da : decide ((xc + 1) < ar) = false := decide_eq_false hst
            obtain ⟨wl, hwl⟩ : ∃ wl, w5 = wl := ⟨_, rfl⟩
            obtain ⟨pl, hpl⟩ : ∃ pl, p5 = pl := ⟨_, rfl⟩
            obtain ⟨cl, hcl⟩ : ∃ cl, c5 = cl := ⟨_, rfl⟩
            rw [hwl] at HL5 HB5 HX5 HOUT5 HLB5 j1 j2 j3 j4 y0 y9 o0 o3 ⊢
            rw [hpl, hcl] at HL5
            rw [hpl, hcl]
            have HLL := HL5
            have HBL := HB5
            have HXL := HX5
            have HOL := HOUT5
            have HLBL := HLB5
            clear hwl hpl hcl HL5 HB5 HX5 HOUT5 HLB5
            have hdr : k + 1 ≤ ks.length := by rw [HN0.out]; omega
            obtain ⟨dp, hdp⟩ : ∃ dp : Option Addr, (if c = k + 1 then (some ⟨g, o, none⟩ : Option Addr) else some ⟨g, o + (k + 1) * 3, none⟩) = dp := ⟨_, rfl⟩
            have hrst := KRow.rest (KRow.later HK.out HBL.out) hdr
            have e9 : Option.map (fun x : Addr => x.add ((k + 1) * 3)) (some ⟨g, o, none⟩) = some ⟨g, o + (k + 1) * 3, none⟩ := by simp [Addr.add]
            rw [e9, hdp] at hrst
            clear e9
            obtain ⟨dn, hdn⟩ : ∃ dn, n - (k + 1) = dn := ⟨_, rfl⟩
            obtain ⟨dc, hdc⟩ : ∃ dc, c - (k + 1) = dc := ⟨_, rfl⟩
            have hdl : (ks.drop (k + 1)).length = dn := by rw [List.length_drop, HN0.out]; exact hdn
            have hsg := LRow.seg (by decide) KS.len ks_one1 hrst
            rw [hdl, hdc] at hsg
            have HSG := hide hsg
            have HK1 : Hid (k + dn ≤ maxLen) := by show _ ≤ _; unfold maxLen; omega
            have HK2 : Hid ((k + dn) * 24 ≤ 140737488355328) := by show _ ≤ _; omega
            have hkd1 : k + 1 ≤ n := by omega
            have hkd2 : k + 1 ≤ c := by omega
            have hkd3 : ((k : Int) + 1) ≤ (n : Int) := by omega
            have hkd4 : (0 : Int) ≤ ((k : Int) + 1) := by omega
            have HRES : Hid (∀ p6 c6 w6, w6.ownsRow B7 105 3 (.slice p6 (k + dn) c6) (k + dn) ((ks.take k).flatMap KS.cells ++ (ks.drop (k + 1)).flatMap KS.cells) → Only (fun i => (Value.slice pl (k) cl).ownBlock = some i) wl w6 → FoldE W ((w6.setCell ⟨tB, 0, none⟩ (.slice p6 (k + dn) c6)).setCell ⟨tB, 1, none⟩ (.int .i64 tn)) tB p6 c6 (k + dn) tn (some ⟨qB, 0, none⟩) 1 1 ((ks.take k) ++ ks.drop (k + 1)) ([⟨0, xk, ac⟩] : List PU)) := hide (fun p6 c6 w6 o6 g6 => fold_end HBW.out HBL.out HVB7.out HLBL.out HTB.out HWT.out HLL.out HOL.out (by rw [List.flatMap_append]; exact o6) g6)
            have HT6 : Hid (∀ w6, Only (fun i => (Value.slice pl (k) cl).ownBlock = some i) wl w6 → w6.heap[tB]? = some (.cells #[.slice none 0 0, .int .i64 0] 58 (0, 0)) ∧ w6.cell? ⟨sB, 1, none⟩ = some (.int .i64 tn)) := hide (fun w6 ho => by
              have hbl : ∀ i, (Value.slice pl (k) cl).ownBlock = some i → B7 ≤ i := fun i e => own_block_base HLL.out e
              have hv := HVB7.out
              have h4 := HS4.out
              have hFl := HFR.out wl HBL.out
              exact ⟨ho.obj hFl.t (fun e => by have := hbl _ e; omega), ho.cell (sB_cells hFl.s).2 (fun e => by have h9 : B7 ≤ sB := hbl _ e; omega)⟩)
            have HKR : Hid (keysR 6 fn ar ks ⟨xk, vl⟩ = (ks.take k) ++ ks.drop (k + 1)) := hide (by
              unfold keysR
              simp only
              rw [HOLD.out, HPOS.out, HHAD.out]
              have hnw : nowR fn ⟨xk, xc, xa⟩ vl = ⟨xk, xc + 1, ac⟩ := by
                unfold nowR
                simp only
                rw [if_pos HDC.out, HACE.out]
              rw [hnw]
              have hst : stayR 6 ar ⟨xk, xc + 1, ac⟩ = false := by unfold stayR; simp only [da]; rfl
              rw [hst]
              rw [if_neg (by decide), if_pos rfl, List.nil_append])
            have HPR : Hid (putsR 6 fn ar ks ⟨xk, vl⟩ = ([⟨0, xk, ac⟩] : List PU)) := hide (by
              unfold putsR
              simp only
              rw [HOLD.out]
              have hnw : nowR fn ⟨xk, xc, xa⟩ vl = ⟨xk, xc + 1, ac⟩ := by
                unfold nowR
                simp only
                rw [if_pos HDC.out, HACE.out]
              rw [hnw]
              simp [da])
            clear hrst hsg hdl hdr
            go_upto_region 23 with fail
            go_region_law (refine step_append_cells rfl (.tmp 117) (.tmp 121) 56 rfl B7 105 k0 (.agg #[.int .i64 0, .int .i64 0, .int .i64 0]) 3 24 Tryz.underlying56 hK0 hz0 hz1 hz2 rfl (by decide) (.slice pl (k) cl) (k) _ (by first | (simp [Act.eval]; done) | simp [Act.eval, Act.put]) HLL.out.drew (.slice dp dn dc) dn _ (by first | (simp [Act.eval]; done) | simp [Act.eval, Act.put]) HSG.out HK1.out HK2.out HLBL.out ?_; intro p6 c6 w6 o6 g6; have hoW : Only (fun i => (Value.slice pl (k) cl).ownBlock = some i) wl w6 := (Only.refl _ wl).drew.trans (Only.of_grown g6 (fun k e => e)); obtain ⟨tb6, sb6⟩ := HT6.out w6 hoW; obtain ⟨f0, f1, f2, f3⟩ := two_factsO tb6 (.slice p6 (k + dn) c6))
            all_goals
              have HE := hide (HRES.out p6 c6 w6 o6 hoW)
              clear o6 g6 hoW tb6
              go_wp2
              refine bodyPost_ret (Go.Proofs.YtifldnpccgbnkaaGreat.results_cell_two rfl _ _ tB 58 _ _ _ rfl HE.out.box Tryz.underlying58 rfl (by kernel_rfl)) rfl ?_
              have HKL := HE.out.keys
              have HPL := HE.out.puts
              rw [← HKR.out] at HKL
              rw [← HPR.out] at HPL
              exact ⟨_, _, _, _, _, _, rfl, row_len KS.len HKL, row_len PU.len HPL, HKL, HPL, HE.out.below⟩
      · have HNE2 : Hid (∀ j, j < k + 1 → (decide ((ks[j]!).key ≠ ky)) = true) := hide (fun j hj => by
          by_cases e : j < k
          · exact HNE.out j e
          · obtain rfl : j = k := by omega
            rw [hx]
            exact decide_eq_true he)
        have dq : (xk != ky) = true := by simpa using he
        clear hw hx hlt2 HNE he
        go_upto_region 2 with fail
        go_big_quiet (fail)
        go_wp2
        exact ⟨⟨k + 1, by omega, by first | rfl | go_num, HNE2, hide (below_drewN HBq.out _)⟩, by simp [intOf]; omega⟩
    · obtain rfl : k = n := by omega
      have dk : decide (k < k) = false := decide_eq_false (by omega)
      have dkI : decide ((k : Int) < (k : Int)) = false := decide_eq_false (by omega)
      have hat : atK ks ky = ks.length := while_all _ ks (fun j hj => HNE.out j (by rw [HN0.out] at hj; exact hj))
      have hhad : hadR ks ky = false := by unfold hadR; rw [hat]; exact decide_eq_false (by omega)
      have HOLD : Hid (oldR ks ky = ⟨ky, 0, 0⟩) := hide (by unfold oldR; rw [if_neg (by rw [hhad]; decide)])
      have HPOS0 : Hid (posR ks ky = gtK ks ky) := hide (by unfold posR; rw [if_neg (by rw [hhad]; decide)])
      have HHAD := hide hhad
      clear hat hhad HNE
      go_upto_region 2 with fail
      go_big_quiet (fail)
      obtain ⟨Y, hY⟩ : ∃ Y, Y = wq.drewN nq := ⟨_, rfl⟩
      have bY : Below wq.heap.size wq Y := by rw [hY]; exact below_drewN (Below.refl _ wq) _
      try rw [← hY]
      have HBY := hide (HBq.out.trans (bY.mono HBq.out.size))
      have hFY := HFR.out Y HBY.out
      obtain ⟨y0, _⟩ := sB_cells hFY.s
      have y1 : Y.cell? ⟨rB, 0, none⟩ = some (.int .i64 ky) := by simp [World.cell?, hFY.r]
      clear hY bY hFY HBq
      obtain ⟨X2, hX2⟩ : ∃ X2, X2 = Y.alloc (.cells #[.int .i64 ky, .int .i64 0, .int .i64 0] 105 (0, 0)) := ⟨_, rfl⟩
      have bX2 : Below Y.heap.size Y X2 := by rw [hX2]; exact alloc_below _ _
      obtain ⟨hB, hhB⟩ : ∃ hB, Y.heap.size = hB := ⟨_, rfl⟩
      have HXB2 : Hid (X2.heap[hB]? = some (.cells #[.int .i64 ky, .int .i64 0, .int .i64 0] 105 (0, 0))) := hide (by rw [hX2, ← hhB]; exact heap_alloc_new Y _)
      have hVh : tB + 1 ≤ hB := by rw [← hhB, ← HS4.out]; exact HBY.out.size
      have HBX2 := hide (HBY.out.trans (bX2.mono HBY.out.size))
      clear bX2
      go_upto_region 8 with fail
      rw [← hX2]
      try rw [hhB]
      clear hX2 hhB y0 y1 HBY dk dkI
      go_wp2_with fail
      go_loopw [8] (fun s wq => ∃ (j : Nat), j ≤ k ∧ s = .int .i64 (j : Int) ∧ Hid (∀ i, i < j → (decide ((ks[i]!).key ≤ ky)) = true) ∧ Hid (Below X2.heap.size X2 wq)) (fun s _ => k - (intOf s).toNat)
      case atStart => exact ⟨0, Nat.zero_le _, rfl, hide (fun j hj => absurd hj (Nat.not_lt_zero j)), hide (Below.refl _ _)⟩
      case round =>
        obtain ⟨j, hj, rfl, HLE, HBz⟩ := hrel
        rename World => wz
        have HBVz := hide (HBX2.out.trans (HBz.out.mono HBX2.out.size))
        have hF := HFR.out wz HBVz.out
        obtain ⟨y0, _⟩ := sB_cells hF.s
        have y1 : wz.cell? ⟨rB, 0, none⟩ = some (.int .i64 ky) := by simp [World.cell?, hF.r]
        clear hF
        by_cases hjk : j < k
        · have hj2 : j < ks.length := by rw [HN0.out]; exact hjk
          obtain ⟨⟨xk, xc, xa⟩, hx⟩ : ∃ x, ks[j]! = x := ⟨_, rfl⟩
          obtain ⟨g, o, rfl, c0, c1, c2⟩ := KRow.at (KRow.later HK.out HBVz.out) hj2 hx
          simp only at c0 c1 c2
          have hw := while_step (fun x : KS => decide (x.key ≤ ky)) ks j hj2 HLE.out
          rw [hx] at hw
          have dj : decide (j < k) = true := decide_eq_true hjk
          have djI : decide ((j : Int) < (k : Int)) = true := decide_eq_true (by omega)
          by_cases he : xk ≤ ky
          · have HLE2 : Hid (∀ i, i < j + 1 → (decide ((ks[i]!).key ≤ ky)) = true) := hide (fun i hi => by
              by_cases e : i < j
              · exact HLE.out i e
              · obtain rfl : i = j := by omega
                rw [hx]
                exact decide_eq_true he)
            have dq : decide (xk ≤ ky) = true := decide_eq_true he
            clear hw hx hj2 HLE he
            go_upto_region 9 with fail
            go_big_quiet (fail)
            go_wp2
            exact ⟨⟨j + 1, by omega, by first | rfl | go_num, HLE2, hide (below_drewN HBz.out _)⟩, by simp [intOf]; omega⟩
          · have dq : decide (xk ≤ ky) = false := decide_eq_false he
            have HPOS : Hid (posR ks ky = j) := hide (by rw [HPOS0.out]; exact (hw.2 dq).symm)
            clear hw hx hj2 HLE he
            go_upto_region 9 with fail
            go_big_quiet (fail)
            obtain ⟨X, hX⟩ : ∃ X, X = wz.drewN nq := ⟨_, rfl⟩
            have bX : Below wz.heap.size wz X := by rw [hX]; exact below_drewN (Below.refl _ wz) _
            go_upto_region 11 with fail
            try rw [← hX]
            have HBX := hide (HBVz.out.trans (bX.mono HBVz.out.size))
            have HXB := hide (below_box (HBz.out.trans (bX.mono HBz.out.size)) HXB2.out)
            clear hX bX c0 c1 c2 y0 y1 dj djI dq HBz HBVz
            have hkn : j ≤ k := hj
            obtain ⟨g0, g1, g2, g3⟩ := x_cells HXB.out
            have hFX := HFR.out X HBX.out
            have v0 : X.cell? ⟨oB, 2, none⟩ = some (.int .i64 fn) := by simp [World.cell?, hFX.o]
            have v1 : X.cell? ⟨rB, 1, none⟩ = some (.int .i64 vl) := by simp [World.cell?, hFX.r]
            obtain ⟨ac, hac⟩ : ∃ ac, accC fn 0 0 vl = ac := ⟨_, rfl⟩
            have HAC := hide (racc_any (W := X) (fn := fn) (key := ky) (cnt := 0) (acc := 0) (v := vl))
            rw [hac] at HAC
            have HACE := hide hac
            clear hFX hac
            go_wp2_with fail
            refine HAC.out.mono ?_
            rintro _ w4 ⟨rfl, b4⟩
            have hx4 := below_box b4 HXB.out
            obtain ⟨e0, e1, e2, e3⟩ := x_cells hx4
            have e32 := e3 2
            have hx5 := heap_setCell_same w4 hB 2 _ _ (.int .i64 ac) hx4
            have hB5 : Below V.heap.size V (w4.setCell ⟨hB, 2, none⟩ (.int .i64 ac)) := (HBX.out.trans (b4.mono HBX.out.size)).setCell (p := ⟨hB, 2, none⟩) (by have := HS4.out; show V.heap.size ≤ hB; omega) _
            obtain ⟨X5, hX5⟩ : ∃ X5, X5 = w4.setCell ⟨hB, 2, none⟩ (.int .i64 ac) := ⟨_, rfl⟩
            rw [← hX5] at hx5 hB5
            have hx5' : X5.heap[hB]? = some (.cells #[.int .i64 ky, .int .i64 0, .int .i64 ac] 105 (0, 0)) := hx5
            obtain ⟨l0, l1, l2, l3⟩ := x_cells hx5'
            have l31 := l3 1
            have hx6 := heap_setCell_same X5 hB 1 _ _ (.int .i64 1) hx5'
            have hB6 : Below V.heap.size V (X5.setCell ⟨hB, 1, none⟩ (.int .i64 1)) := hB5.setCell (p := ⟨hB, 1, none⟩) (by have := HS4.out; show V.heap.size ≤ hB; omega) _
            obtain ⟨X6, hX6⟩ : ∃ X6, X6 = X5.setCell ⟨hB, 1, none⟩ (.int .i64 1) := ⟨_, rfl⟩
            rw [← hX6] at hx6 hB6
            have hx6' : X6.heap[hB]? = some (.cells #[.int .i64 ky, .int .i64 1, .int .i64 ac] 105 (0, 0)) := hx6
            obtain ⟨m0, m1, m2, m3⟩ := x_cells hx6'
            have hF6 := HFR.out X6 hB6
            have m4 : X6.cell? ⟨rB, 0, none⟩ = some (.int .i64 ky) := by simp [World.cell?, hF6.r]
            obtain ⟨X7, hX7⟩ : ∃ X7, X7 = X6.alloc (.cells #[.int .i64 0, .int .i64 ky, .int .i64 ac] 103 (0, 0)) := ⟨_, rfl⟩
            have b7 : Below X6.heap.size X6 X7 := by rw [hX7]; exact alloc_below _ _
            have HOUT : Hid (X7.ownsRow V.heap.size 103 3 (.slice (some ⟨X6.heap.size, 0, none⟩) 1 1) 1 [.int .i64 0, .int .i64 ky, .int .i64 ac]) := hide (by rw [hX7]; exact own_one3 hB6.size)
            obtain ⟨qB, hqB⟩ : ∃ qB, X6.heap.size = qB := ⟨_, rfl⟩
            rw [hqB] at HOUT
            have HB7 := hide (hB6.trans (b7.mono hB6.size))
            have HX7 := hide (below_box b7 hx6')
            have hF7 := HFR.out X7 HB7.out
            obtain ⟨y0, _⟩ := sB_cells hF7.s
            have HDC : Hid ((0 : Int) < 9007199254740992) := hide (by omega)
            have dcn : decide ((0 : Int) < 9007199254740992) = true := decide_eq_true HDC.out
            have wcn : IntKind.i64.wrap ((0 : Int) + 1) = 1 := by rw [IntKind.wrap_i64]; omega
            have HSG := hide (LRow.seg (by decide) KS.len ks_one1 (KRow.head (KRow.later HK.out HB7.out) (show j ≤ ks.length by rw [HN0.out]; exact hkn)))
            have htk : (ks.take j).length = j := by rw [List.length_take, HN0.out]; omega
            rw [htk] at HSG
            have HK1 : Hid (0 + j ≤ maxLen) := by show _ ≤ _; unfold maxLen; omega
            have HK2 : Hid ((0 + j) * 24 ≤ 140737488355328) := by show _ ≤ _; omega
            have hkc : j ≤ c := by omega
            clear b4 hx4 hx5 hB5 hx6 hB6 hF6 b7 hF7 htk HAC g0 g1 g2 g3 v0 v1
            go_upto_region 12 with fail
            rw [← hX5]
            clear hX5 e0 e1 e2 e3 e32
            go_upto_region 14 with fail
            try rw [wcn]
            rw [← hX6]
            clear hX6 l0 l1 l2 l3 l31 dcn
            go_upto_region 16 with fail
            rw [← hX7]
            try rw [hqB]
            clear hX7 hqB m0 m1 m2 m3 m4
            go_wp2_with (at_builtin; refine append_cells _ rfl (.tmp 84) (.tmp 88) 56 rfl X7.heap.size 105 k0 (.agg #[.int .i64 0, .int .i64 0, .int .i64 0]) 3 24 Tryz.underlying56 hK0 hz0 hz1 hz2 rfl (by decide) (.slice none 0 0) 0 [] rfl (World.ownsRow_nil _ _ _ _) (.slice (some ⟨g, o, none⟩) j c) j _ rfl HSG.out HK1.out HK2.out (Nat.le_refl _) ?_)
            intro p5 c5 w5 hown hgrow
            have b5 : Below X7.heap.size X7 w5 := (Below.refl _ X7).grown hgrow (Nat.le_refl _) (fun i hi => by simp [Value.ownBlock] at hi)
            have HL5 := hide hown
            have HB5 := hide (HB7.out.trans (b5.mono HB7.out.size))
            have HX5 := hide (below_box b5 HX7.out)
            have HOUT5 := hide (ownsRow_later HOUT.out b5)
            have HLB5 : Hid (X7.heap.size ≤ w5.heap.size) := hide b5.size
            have hh7 : hB < X7.heap.size := (Array.getElem?_eq_some_iff.1 HX7.out).1
            obtain ⟨B7, hB7⟩ : ∃ B7, X7.heap.size = B7 := ⟨_, rfl⟩
            rw [hB7] at HL5 HLB5 hh7
            have HVB7 : Hid (V.heap.size ≤ B7) := hide (by rw [← hB7]; exact HB7.out.size)
            clear hown hgrow b5 HOUT HX7 HB7 HSG HK1 HK2 hB7 y0
            obtain ⟨j1, j2, j3, j4⟩ := x_cells HX5.out
            have hF5 := HFR.out w5 HB5.out
            obtain ⟨y0, y9⟩ := sB_cells hF5.s
            have o0 : w5.cell? ⟨oB, 0, none⟩ = some (.int .i64 kd) := by simp [World.cell?, hF5.o]
            have o3 : w5.cell? ⟨oB, 3, none⟩ = some (.int .i64 ar) := by simp [World.cell?, hF5.o]
            clear hF5
            rcases hkd with kd5 | kd6
            · subst kd5
              have hab := alloc_below w5 (.cells #[.int .i64 ky, .int .i64 1, .int .i64 ac] 105 (0, 0))
              have HSG := hide (Seg.news (size := 3) (m := 1) (c := 1) (heap_alloc_new w5 (.cells #[.int .i64 ky, .int .i64 1, .int .i64 ac] 105 (0, 0))) (by simp [Value.oneCell']) rfl (Nat.le_refl _) (by decide))
              have HRW := hide (ownsRow_later HL5.out hab)
              have HK1 : Hid (j + 1 ≤ maxLen) := by show _ ≤ _; unfold maxLen; omega
              have HK2 : Hid ((j + 1) * 24 ≤ 140737488355328) := by show _ ≤ _; omega
              have HBS : Hid (B7 ≤ (w5.alloc (.cells #[.int .i64 ky, .int .i64 1, .int .i64 ac] 105 (0, 0))).heap.size) := hide (Nat.le_trans HLB5.out hab.size)
              have HAB := hide hab
              clear hab
              go_wp2_with (at_builtin; refine append_cells _ rfl (.tmp 100) (.tmp 102) 56 rfl B7 105 k0 (.agg #[.int .i64 0, .int .i64 0, .int .i64 0]) 3 24 Tryz.underlying56 hK0 hz0 hz1 hz2 rfl (by decide) (.slice p5 j c5) j _ rfl HRW.out (.slice (some ⟨w5.heap.size, 0, none⟩) 1 1) 1 _ rfl HSG.out HK1.out HK2.out HBS.out ?_)
              intro pl cl wl hown hgrow
              have hoL : Only (fun i => (Value.slice p5 j c5).ownBlock = some i) w5 wl := (Only.fresh HAB.out _).trans (Only.of_grown hgrow (fun k e => e))
              have hbL : ∀ i, (Value.slice p5 j c5).ownBlock = some i → B7 ≤ i := fun i e => own_block_base HL5.out e
              have HLL : Hid (wl.ownsRow B7 105 3 (.slice pl (j + 1) cl) (j + 1) ((ks.take j ++ [(⟨ky, 1, ac⟩ : KS)]).flatMap KS.cells)) := hide (by rw [List.flatMap_append]; exact hown)
              have HBL := hide (HB5.out.trans (hoL.below HB5.out.size (fun i e => Nat.le_trans HVB7.out (hbL i e))))
              have HXL := hide (hoL.obj HX5.out (fun e => by have := hbL _ e; omega))
              have HOL := hide (ownsRow_only HOUT5.out hoL (fun b hb e => rows_apart HL5.out HOUT5.out (by decide) hb e))
              have HLBL : Hid (B7 ≤ wl.heap.size) := hide (Nat.le_trans HLB5.out hoL.size)
              clear hown hgrow hoL hbL HRW HSG HK1 HK2 HBS HAB HL5 HB5 HX5 HOUT5 HLB5 j1 j2 j3 j4 y0 y9 o0 o3
              obtain ⟨j1, j2, j3, j4⟩ := x_cells HXL.out
              have hFl := HFR.out wl HBL.out
              obtain ⟨y0, y9⟩ := sB_cells hFl.s
              have o0 : wl.cell? ⟨oB, 0, none⟩ = some (.int .i64 5) := by simp [World.cell?, hFl.o]
              have o3 : wl.cell? ⟨oB, 3, none⟩ = some (.int .i64 ar) := by simp [World.cell?, hFl.o]
              clear hFl
              have hdr : j ≤ ks.length := by rw [HN0.out]; omega
              obtain ⟨dp, hdp⟩ : ∃ dp : Option Addr, (if c = j then (some ⟨g, o, none⟩ : Option Addr) else some ⟨g, o + (j) * 3, none⟩) = dp := ⟨_, rfl⟩
              have hrst := KRow.rest (KRow.later HK.out HBL.out) hdr
              have e9 : Option.map (fun x : Addr => x.add ((j) * 3)) (some ⟨g, o, none⟩) = some ⟨g, o + (j) * 3, none⟩ := by simp [Addr.add]
              rw [e9, hdp] at hrst
              clear e9
              obtain ⟨dn, hdn⟩ : ∃ dn, k - (j) = dn := ⟨_, rfl⟩
              obtain ⟨dc, hdc⟩ : ∃ dc, c - (j) = dc := ⟨_, rfl⟩
              have hdl : (ks.drop (j)).length = dn := by rw [List.length_drop, HN0.out]; exact hdn
              have hsg := LRow.seg (by decide) KS.len ks_one1 hrst
              rw [hdl, hdc] at hsg
              have HSG := hide hsg
              have HK1 : Hid (j + 1 + dn ≤ maxLen) := by show _ ≤ _; unfold maxLen; omega
              have HK2 : Hid ((j + 1 + dn) * 24 ≤ 140737488355328) := by show _ ≤ _; omega
              have hkd1 : j ≤ k := by omega
              have hkd2 : j ≤ c := by omega
              have hkd3 : ((j : Int)) ≤ (k : Int) := by omega
              have hkd4 : (0 : Int) ≤ ((j : Int)) := by omega
              have HRES : Hid (∀ p6 c6 w6, w6.ownsRow B7 105 3 (.slice p6 (j + 1 + dn) c6) (j + 1 + dn) ((ks.take j ++ [(⟨ky, 1, ac⟩ : KS)]).flatMap KS.cells ++ (ks.drop (j)).flatMap KS.cells) → Only (fun i => (Value.slice pl (j + 1) cl).ownBlock = some i) wl w6 → FoldE W ((w6.setCell ⟨tB, 0, none⟩ (.slice p6 (j + 1 + dn) c6)).setCell ⟨tB, 1, none⟩ (.int .i64 tn)) tB p6 c6 (j + 1 + dn) tn (some ⟨qB, 0, none⟩) 1 1 ((ks.take j ++ [(⟨ky, 1, ac⟩ : KS)]) ++ ks.drop (j)) ([⟨0, ky, ac⟩] : List PU)) := hide (fun p6 c6 w6 o6 g6 => fold_end HBW.out HBL.out HVB7.out HLBL.out HTB.out HWT.out HLL.out HOL.out (by rw [List.flatMap_append]; exact o6) g6)
              have HT6 : Hid (∀ w6, Only (fun i => (Value.slice pl (j + 1) cl).ownBlock = some i) wl w6 → w6.heap[tB]? = some (.cells #[.slice none 0 0, .int .i64 0] 58 (0, 0)) ∧ w6.cell? ⟨sB, 1, none⟩ = some (.int .i64 tn)) := hide (fun w6 ho => by
                have hbl : ∀ i, (Value.slice pl (j + 1) cl).ownBlock = some i → B7 ≤ i := fun i e => own_block_base HLL.out e
                have hv := HVB7.out
                have h4 := HS4.out
                have hFl := HFR.out wl HBL.out
                exact ⟨ho.obj hFl.t (fun e => by have := hbl _ e; omega), ho.cell (sB_cells hFl.s).2 (fun e => by have h9 : B7 ≤ sB := hbl _ e; omega)⟩)
              have HKR : Hid (keysR 5 fn ar ks ⟨ky, vl⟩ = (ks.take j ++ [(⟨ky, 1, ac⟩ : KS)]) ++ ks.drop (j)) := hide (by
                unfold keysR
                simp only
                rw [HOLD.out, HPOS.out, HHAD.out]
                have hnw : nowR fn ⟨ky, 0, 0⟩ vl = ⟨ky, 1, ac⟩ := by
                  unfold nowR
                  simp only
                  rw [if_pos HDC.out, HACE.out]; rfl
                rw [hnw]
                have hst : stayR 5 ar ⟨ky, 1, ac⟩ = true := by unfold stayR; rfl
                rw [hst]
                rw [if_pos rfl, if_neg (by decide), List.append_assoc])
              have HPR : Hid (putsR 5 fn ar ks ⟨ky, vl⟩ = ([⟨0, ky, ac⟩] : List PU)) := hide (by
                unfold putsR
                simp only
                rw [HOLD.out]
                have hnw : nowR fn ⟨ky, 0, 0⟩ vl = ⟨ky, 1, ac⟩ := by
                  unfold nowR
                  simp only
                  rw [if_pos HDC.out, HACE.out]; rfl
                rw [hnw]
                rfl)
              clear hrst hsg hdl hdr
              go_upto_region 23 with fail
              go_region_law (refine step_append_cells rfl (.tmp 117) (.tmp 121) 56 rfl B7 105 k0 (.agg #[.int .i64 0, .int .i64 0, .int .i64 0]) 3 24 Tryz.underlying56 hK0 hz0 hz1 hz2 rfl (by decide) (.slice pl (j + 1) cl) (j + 1) _ (by first | (simp [Act.eval]; done) | simp [Act.eval, Act.put]) HLL.out.drew (.slice dp dn dc) dn _ (by first | (simp [Act.eval]; done) | simp [Act.eval, Act.put]) HSG.out HK1.out HK2.out HLBL.out ?_; intro p6 c6 w6 o6 g6; have hoW : Only (fun i => (Value.slice pl (j + 1) cl).ownBlock = some i) wl w6 := (Only.refl _ wl).drew.trans (Only.of_grown g6 (fun k e => e)); obtain ⟨tb6, sb6⟩ := HT6.out w6 hoW; obtain ⟨f0, f1, f2, f3⟩ := two_factsO tb6 (.slice p6 (j + 1 + dn) c6))
              all_goals
                have HE := hide (HRES.out p6 c6 w6 o6 hoW)
                clear o6 g6 hoW tb6
                go_wp2
                refine bodyPost_ret (Go.Proofs.YtifldnpccgbnkaaGreat.results_cell_two rfl _ _ tB 58 _ _ _ rfl HE.out.box Tryz.underlying58 rfl (by kernel_rfl)) rfl ?_
                have HKL := HE.out.keys
                have HPL := HE.out.puts
                rw [← HKR.out] at HKL
                rw [← HPR.out] at HPL
                exact ⟨_, _, _, _, _, _, rfl, row_len KS.len HKL, row_len PU.len HPL, HKL, HPL, HE.out.below⟩
            · by_cases hst : 1 < ar
              · subst kd6
                have da : decide (1 < ar) = true := decide_eq_true hst
                have hab := alloc_below w5 (.cells #[.int .i64 ky, .int .i64 1, .int .i64 ac] 105 (0, 0))
                have HSG := hide (Seg.news (size := 3) (m := 1) (c := 1) (heap_alloc_new w5 (.cells #[.int .i64 ky, .int .i64 1, .int .i64 ac] 105 (0, 0))) (by simp [Value.oneCell']) rfl (Nat.le_refl _) (by decide))
                have HRW := hide (ownsRow_later HL5.out hab)
                have HK1 : Hid (j + 1 ≤ maxLen) := by show _ ≤ _; unfold maxLen; omega
                have HK2 : Hid ((j + 1) * 24 ≤ 140737488355328) := by show _ ≤ _; omega
                have HBS : Hid (B7 ≤ (w5.alloc (.cells #[.int .i64 ky, .int .i64 1, .int .i64 ac] 105 (0, 0))).heap.size) := hide (Nat.le_trans HLB5.out hab.size)
                have HAB := hide hab
                clear hab
                go_wp2_with (at_builtin; refine append_cells _ rfl (.tmp 100) (.tmp 102) 56 rfl B7 105 k0 (.agg #[.int .i64 0, .int .i64 0, .int .i64 0]) 3 24 Tryz.underlying56 hK0 hz0 hz1 hz2 rfl (by decide) (.slice p5 j c5) j _ rfl HRW.out (.slice (some ⟨w5.heap.size, 0, none⟩) 1 1) 1 _ rfl HSG.out HK1.out HK2.out HBS.out ?_)
                intro pl cl wl hown hgrow
                have hoL : Only (fun i => (Value.slice p5 j c5).ownBlock = some i) w5 wl := (Only.fresh HAB.out _).trans (Only.of_grown hgrow (fun k e => e))
                have hbL : ∀ i, (Value.slice p5 j c5).ownBlock = some i → B7 ≤ i := fun i e => own_block_base HL5.out e
                have HLL : Hid (wl.ownsRow B7 105 3 (.slice pl (j + 1) cl) (j + 1) ((ks.take j ++ [(⟨ky, 1, ac⟩ : KS)]).flatMap KS.cells)) := hide (by rw [List.flatMap_append]; exact hown)
                have HBL := hide (HB5.out.trans (hoL.below HB5.out.size (fun i e => Nat.le_trans HVB7.out (hbL i e))))
                have HXL := hide (hoL.obj HX5.out (fun e => by have := hbL _ e; omega))
                have HOL := hide (ownsRow_only HOUT5.out hoL (fun b hb e => rows_apart HL5.out HOUT5.out (by decide) hb e))
                have HLBL : Hid (B7 ≤ wl.heap.size) := hide (Nat.le_trans HLB5.out hoL.size)
                clear hown hgrow hoL hbL HRW HSG HK1 HK2 HBS HAB HL5 HB5 HX5 HOUT5 HLB5 j1 j2 j3 j4 y0 y9 o0 o3
                obtain ⟨j1, j2, j3, j4⟩ := x_cells HXL.out
                have hFl := HFR.out wl HBL.out
                obtain ⟨y0, y9⟩ := sB_cells hFl.s
                have o0 : wl.cell? ⟨oB, 0, none⟩ = some (.int .i64 6) := by simp [World.cell?, hFl.o]
                have o3 : wl.cell? ⟨oB, 3, none⟩ = some (.int .i64 ar) := by simp [World.cell?, hFl.o]
                clear hFl
                have hdr : j ≤ ks.length := by rw [HN0.out]; omega
                obtain ⟨dp, hdp⟩ : ∃ dp : Option Addr, (if c = j then (some ⟨g, o, none⟩ : Option Addr) else some ⟨g, o + (j) * 3, none⟩) = dp := ⟨_, rfl⟩
                have hrst := KRow.rest (KRow.later HK.out HBL.out) hdr
                have e9 : Option.map (fun x : Addr => x.add ((j) * 3)) (some ⟨g, o, none⟩) = some ⟨g, o + (j) * 3, none⟩ := by simp [Addr.add]
                rw [e9, hdp] at hrst
                clear e9
                obtain ⟨dn, hdn⟩ : ∃ dn, k - (j) = dn := ⟨_, rfl⟩
                obtain ⟨dc, hdc⟩ : ∃ dc, c - (j) = dc := ⟨_, rfl⟩
                have hdl : (ks.drop (j)).length = dn := by rw [List.length_drop, HN0.out]; exact hdn
                have hsg := LRow.seg (by decide) KS.len ks_one1 hrst
                rw [hdl, hdc] at hsg
                have HSG := hide hsg
                have HK1 : Hid (j + 1 + dn ≤ maxLen) := by show _ ≤ _; unfold maxLen; omega
                have HK2 : Hid ((j + 1 + dn) * 24 ≤ 140737488355328) := by show _ ≤ _; omega
                have hkd1 : j ≤ k := by omega
                have hkd2 : j ≤ c := by omega
                have hkd3 : ((j : Int)) ≤ (k : Int) := by omega
                have hkd4 : (0 : Int) ≤ ((j : Int)) := by omega
                have HRES : Hid (∀ p6 c6 w6, w6.ownsRow B7 105 3 (.slice p6 (j + 1 + dn) c6) (j + 1 + dn) ((ks.take j ++ [(⟨ky, 1, ac⟩ : KS)]).flatMap KS.cells ++ (ks.drop (j)).flatMap KS.cells) → Only (fun i => (Value.slice pl (j + 1) cl).ownBlock = some i) wl w6 → FoldE W ((w6.setCell ⟨tB, 0, none⟩ (.slice p6 (j + 1 + dn) c6)).setCell ⟨tB, 1, none⟩ (.int .i64 tn)) tB p6 c6 (j + 1 + dn) tn none 0 0 ((ks.take j ++ [(⟨ky, 1, ac⟩ : KS)]) ++ ks.drop (j)) ([] : List PU)) := hide (fun p6 c6 w6 o6 g6 => fold_end HBW.out HBL.out HVB7.out HLBL.out HTB.out HWT.out HLL.out (World.ownsRow_nil _ _ _ _) (by rw [List.flatMap_append]; exact o6) g6)
                have HT6 : Hid (∀ w6, Only (fun i => (Value.slice pl (j + 1) cl).ownBlock = some i) wl w6 → w6.heap[tB]? = some (.cells #[.slice none 0 0, .int .i64 0] 58 (0, 0)) ∧ w6.cell? ⟨sB, 1, none⟩ = some (.int .i64 tn)) := hide (fun w6 ho => by
                  have hbl : ∀ i, (Value.slice pl (j + 1) cl).ownBlock = some i → B7 ≤ i := fun i e => own_block_base HLL.out e
                  have hv := HVB7.out
                  have h4 := HS4.out
                  have hFl := HFR.out wl HBL.out
                  exact ⟨ho.obj hFl.t (fun e => by have := hbl _ e; omega), ho.cell (sB_cells hFl.s).2 (fun e => by have h9 : B7 ≤ sB := hbl _ e; omega)⟩)
                have HKR : Hid (keysR 6 fn ar ks ⟨ky, vl⟩ = (ks.take j ++ [(⟨ky, 1, ac⟩ : KS)]) ++ ks.drop (j)) := hide (by
                  unfold keysR
                  simp only
                  rw [HOLD.out, HPOS.out, HHAD.out]
                  have hnw : nowR fn ⟨ky, 0, 0⟩ vl = ⟨ky, 1, ac⟩ := by
                    unfold nowR
                    simp only
                    rw [if_pos HDC.out, HACE.out]; rfl
                  rw [hnw]
                  have hst : stayR 6 ar ⟨ky, 1, ac⟩ = true := by unfold stayR; simp only [da]; rfl
                  rw [hst]
                  rw [if_pos rfl, if_neg (by decide), List.append_assoc])
                have HPR : Hid (putsR 6 fn ar ks ⟨ky, vl⟩ = ([] : List PU)) := hide (by
                  unfold putsR
                  simp only
                  rw [HOLD.out]
                  have hnw : nowR fn ⟨ky, 0, 0⟩ vl = ⟨ky, 1, ac⟩ := by
                    unfold nowR
                    simp only
                    rw [if_pos HDC.out, HACE.out]; rfl
                  rw [hnw]
                  simp [da])
                clear hrst hsg hdl hdr
                go_upto_region 23 with fail
                go_region_law (refine step_append_cells rfl (.tmp 117) (.tmp 121) 56 rfl B7 105 k0 (.agg #[.int .i64 0, .int .i64 0, .int .i64 0]) 3 24 Tryz.underlying56 hK0 hz0 hz1 hz2 rfl (by decide) (.slice pl (j + 1) cl) (j + 1) _ (by first | (simp [Act.eval]; done) | simp [Act.eval, Act.put]) HLL.out.drew (.slice dp dn dc) dn _ (by first | (simp [Act.eval]; done) | simp [Act.eval, Act.put]) HSG.out HK1.out HK2.out HLBL.out ?_; intro p6 c6 w6 o6 g6; have hoW : Only (fun i => (Value.slice pl (j + 1) cl).ownBlock = some i) wl w6 := (Only.refl _ wl).drew.trans (Only.of_grown g6 (fun k e => e)); obtain ⟨tb6, sb6⟩ := HT6.out w6 hoW; obtain ⟨f0, f1, f2, f3⟩ := two_factsO tb6 (.slice p6 (j + 1 + dn) c6))
                all_goals
                  have HE := hide (HRES.out p6 c6 w6 o6 hoW)
                  clear o6 g6 hoW tb6
                  go_wp2
                  refine bodyPost_ret (Go.Proofs.YtifldnpccgbnkaaGreat.results_cell_two rfl _ _ tB 58 _ _ _ rfl HE.out.box Tryz.underlying58 rfl (by kernel_rfl)) rfl ?_
                  have HKL := HE.out.keys
                  have HPL := HE.out.puts
                  rw [← HKR.out] at HKL
                  rw [← HPR.out] at HPL
                  exact ⟨_, _, _, _, _, _, rfl, row_len KS.len HKL, row_len PU.len HPL, HKL, HPL, HE.out.below⟩
              · subst kd6
                have da : decide (1 < ar) = false := decide_eq_false hst
                obtain ⟨wl, hwl⟩ : ∃ wl, w5 = wl := ⟨_, rfl⟩
                obtain ⟨pl, hpl⟩ : ∃ pl, p5 = pl := ⟨_, rfl⟩
                obtain ⟨cl, hcl⟩ : ∃ cl, c5 = cl := ⟨_, rfl⟩
                rw [hwl] at HL5 HB5 HX5 HOUT5 HLB5 j1 j2 j3 j4 y0 y9 o0 o3 ⊢
                rw [hpl, hcl] at HL5
                rw [hpl, hcl]
                have HLL := HL5
                have HBL := HB5
                have HXL := HX5
                have HOL := HOUT5
                have HLBL := HLB5
                clear hwl hpl hcl HL5 HB5 HX5 HOUT5 HLB5
                have hdr : j ≤ ks.length := by rw [HN0.out]; omega
                obtain ⟨dp, hdp⟩ : ∃ dp : Option Addr, (if c = j then (some ⟨g, o, none⟩ : Option Addr) else some ⟨g, o + (j) * 3, none⟩) = dp := ⟨_, rfl⟩
                have hrst := KRow.rest (KRow.later HK.out HBL.out) hdr
                have e9 : Option.map (fun x : Addr => x.add ((j) * 3)) (some ⟨g, o, none⟩) = some ⟨g, o + (j) * 3, none⟩ := by simp [Addr.add]
                rw [e9, hdp] at hrst
                clear e9
                obtain ⟨dn, hdn⟩ : ∃ dn, k - (j) = dn := ⟨_, rfl⟩
                obtain ⟨dc, hdc⟩ : ∃ dc, c - (j) = dc := ⟨_, rfl⟩
                have hdl : (ks.drop (j)).length = dn := by rw [List.length_drop, HN0.out]; exact hdn
                have hsg := LRow.seg (by decide) KS.len ks_one1 hrst
                rw [hdl, hdc] at hsg
                have HSG := hide hsg
                have HK1 : Hid (j + dn ≤ maxLen) := by show _ ≤ _; unfold maxLen; omega
                have HK2 : Hid ((j + dn) * 24 ≤ 140737488355328) := by show _ ≤ _; omega
                have hkd1 : j ≤ k := by omega
                have hkd2 : j ≤ c := by omega
                have hkd3 : ((j : Int)) ≤ (k : Int) := by omega
                have hkd4 : (0 : Int) ≤ ((j : Int)) := by omega
                have HRES : Hid (∀ p6 c6 w6, w6.ownsRow B7 105 3 (.slice p6 (j + dn) c6) (j + dn) ((ks.take j).flatMap KS.cells ++ (ks.drop (j)).flatMap KS.cells) → Only (fun i => (Value.slice pl (j) cl).ownBlock = some i) wl w6 → FoldE W ((w6.setCell ⟨tB, 0, none⟩ (.slice p6 (j + dn) c6)).setCell ⟨tB, 1, none⟩ (.int .i64 tn)) tB p6 c6 (j + dn) tn (some ⟨qB, 0, none⟩) 1 1 ((ks.take j) ++ ks.drop (j)) ([⟨0, ky, ac⟩] : List PU)) := hide (fun p6 c6 w6 o6 g6 => fold_end HBW.out HBL.out HVB7.out HLBL.out HTB.out HWT.out HLL.out HOL.out (by rw [List.flatMap_append]; exact o6) g6)
                have HT6 : Hid (∀ w6, Only (fun i => (Value.slice pl (j) cl).ownBlock = some i) wl w6 → w6.heap[tB]? = some (.cells #[.slice none 0 0, .int .i64 0] 58 (0, 0)) ∧ w6.cell? ⟨sB, 1, none⟩ = some (.int .i64 tn)) := hide (fun w6 ho => by
                  have hbl : ∀ i, (Value.slice pl (j) cl).ownBlock = some i → B7 ≤ i := fun i e => own_block_base HLL.out e
                  have hv := HVB7.out
                  have h4 := HS4.out
                  have hFl := HFR.out wl HBL.out
                  exact ⟨ho.obj hFl.t (fun e => by have := hbl _ e; omega), ho.cell (sB_cells hFl.s).2 (fun e => by have h9 : B7 ≤ sB := hbl _ e; omega)⟩)
                have HKR : Hid (keysR 6 fn ar ks ⟨ky, vl⟩ = (ks.take j) ++ ks.drop (j)) := hide (by
                  unfold keysR
                  simp only
                  rw [HOLD.out, HPOS.out, HHAD.out]
                  have hnw : nowR fn ⟨ky, 0, 0⟩ vl = ⟨ky, 1, ac⟩ := by
                    unfold nowR
                    simp only
                    rw [if_pos HDC.out, HACE.out]; rfl
                  rw [hnw]
                  have hst : stayR 6 ar ⟨ky, 1, ac⟩ = false := by unfold stayR; simp only [da]; rfl
                  rw [hst]
                  rw [if_neg (by decide), if_neg (by decide), List.nil_append])
                have HPR : Hid (putsR 6 fn ar ks ⟨ky, vl⟩ = ([⟨0, ky, ac⟩] : List PU)) := hide (by
                  unfold putsR
                  simp only
                  rw [HOLD.out]
                  have hnw : nowR fn ⟨ky, 0, 0⟩ vl = ⟨ky, 1, ac⟩ := by
                    unfold nowR
                    simp only
                    rw [if_pos HDC.out, HACE.out]; rfl
                  rw [hnw]
                  simp [da])
                clear hrst hsg hdl hdr
                go_upto_region 23 with fail
                go_region_law (refine step_append_cells rfl (.tmp 117) (.tmp 121) 56 rfl B7 105 k0 (.agg #[.int .i64 0, .int .i64 0, .int .i64 0]) 3 24 Tryz.underlying56 hK0 hz0 hz1 hz2 rfl (by decide) (.slice pl (j) cl) (j) _ (by first | (simp [Act.eval]; done) | simp [Act.eval, Act.put]) HLL.out.drew (.slice dp dn dc) dn _ (by first | (simp [Act.eval]; done) | simp [Act.eval, Act.put]) HSG.out HK1.out HK2.out HLBL.out ?_; intro p6 c6 w6 o6 g6; have hoW : Only (fun i => (Value.slice pl (j) cl).ownBlock = some i) wl w6 := (Only.refl _ wl).drew.trans (Only.of_grown g6 (fun k e => e)); obtain ⟨tb6, sb6⟩ := HT6.out w6 hoW; obtain ⟨f0, f1, f2, f3⟩ := two_factsO tb6 (.slice p6 (j + dn) c6))
                all_goals
                  have HE := hide (HRES.out p6 c6 w6 o6 hoW)
                  clear o6 g6 hoW tb6
                  go_wp2
                  refine bodyPost_ret (Go.Proofs.YtifldnpccgbnkaaGreat.results_cell_two rfl _ _ tB 58 _ _ _ rfl HE.out.box Tryz.underlying58 rfl (by kernel_rfl)) rfl ?_
                  have HKL := HE.out.keys
                  have HPL := HE.out.puts
                  rw [← HKR.out] at HKL
                  rw [← HPR.out] at HPL
                  exact ⟨_, _, _, _, _, _, rfl, row_len KS.len HKL, row_len PU.len HPL, HKL, HPL, HE.out.below⟩
        · obtain rfl : j = k := by omega
          have dj : decide (j < j) = false := decide_eq_false (by omega)
          have djI : decide ((j : Int) < (j : Int)) = false := decide_eq_false (by omega)
          have HPOS : Hid (posR ks ky = j) := hide (by
            rw [HPOS0.out]
            have h9 := while_all (fun x : KS => decide (x.key ≤ ky)) ks (fun i hi => HLE.out i (by rw [HN0.out] at hi; exact hi))
            unfold gtK
            rw [h9, HN0.out])
          clear HLE
          go_upto_region 9 with fail
          go_big_quiet (fail)
          obtain ⟨X, hX⟩ : ∃ X, X = wz.drewN nq := ⟨_, rfl⟩
          have bX : Below wz.heap.size wz X := by rw [hX]; exact below_drewN (Below.refl _ wz) _
          go_upto_region 11 with fail
          try rw [← hX]
          have HBX := hide (HBVz.out.trans (bX.mono HBVz.out.size))
          have HXB := hide (below_box (HBz.out.trans (bX.mono HBz.out.size)) HXB2.out)
          clear hX bX y0 y1 dj djI HBz HBVz
          have hkn : j ≤ j := Nat.le_refl _
          obtain ⟨g0, g1, g2, g3⟩ := x_cells HXB.out
          have hFX := HFR.out X HBX.out
          have v0 : X.cell? ⟨oB, 2, none⟩ = some (.int .i64 fn) := by simp [World.cell?, hFX.o]
          have v1 : X.cell? ⟨rB, 1, none⟩ = some (.int .i64 vl) := by simp [World.cell?, hFX.r]
          obtain ⟨ac, hac⟩ : ∃ ac, accC fn 0 0 vl = ac := ⟨_, rfl⟩
          have HAC := hide (racc_any (W := X) (fn := fn) (key := ky) (cnt := 0) (acc := 0) (v := vl))
          rw [hac] at HAC
          have HACE := hide hac
          clear hFX hac
          go_wp2_with fail
          refine HAC.out.mono ?_
          rintro _ w4 ⟨rfl, b4⟩
          have hx4 := below_box b4 HXB.out
          obtain ⟨e0, e1, e2, e3⟩ := x_cells hx4
          have e32 := e3 2
          have hx5 := heap_setCell_same w4 hB 2 _ _ (.int .i64 ac) hx4
          have hB5 : Below V.heap.size V (w4.setCell ⟨hB, 2, none⟩ (.int .i64 ac)) := (HBX.out.trans (b4.mono HBX.out.size)).setCell (p := ⟨hB, 2, none⟩) (by have := HS4.out; show V.heap.size ≤ hB; omega) _
          obtain ⟨X5, hX5⟩ : ∃ X5, X5 = w4.setCell ⟨hB, 2, none⟩ (.int .i64 ac) := ⟨_, rfl⟩
          rw [← hX5] at hx5 hB5
          have hx5' : X5.heap[hB]? = some (.cells #[.int .i64 ky, .int .i64 0, .int .i64 ac] 105 (0, 0)) := hx5
          obtain ⟨l0, l1, l2, l3⟩ := x_cells hx5'
          have l31 := l3 1
          have hx6 := heap_setCell_same X5 hB 1 _ _ (.int .i64 1) hx5'
          have hB6 : Below V.heap.size V (X5.setCell ⟨hB, 1, none⟩ (.int .i64 1)) := hB5.setCell (p := ⟨hB, 1, none⟩) (by have := HS4.out; show V.heap.size ≤ hB; omega) _
          obtain ⟨X6, hX6⟩ : ∃ X6, X6 = X5.setCell ⟨hB, 1, none⟩ (.int .i64 1) := ⟨_, rfl⟩
          rw [← hX6] at hx6 hB6
          have hx6' : X6.heap[hB]? = some (.cells #[.int .i64 ky, .int .i64 1, .int .i64 ac] 105 (0, 0)) := hx6
          obtain ⟨m0, m1, m2, m3⟩ := x_cells hx6'
          have hF6 := HFR.out X6 hB6
          have m4 : X6.cell? ⟨rB, 0, none⟩ = some (.int .i64 ky) := by simp [World.cell?, hF6.r]
          obtain ⟨X7, hX7⟩ : ∃ X7, X7 = X6.alloc (.cells #[.int .i64 0, .int .i64 ky, .int .i64 ac] 103 (0, 0)) := ⟨_, rfl⟩
          have b7 : Below X6.heap.size X6 X7 := by rw [hX7]; exact alloc_below _ _
          have HOUT : Hid (X7.ownsRow V.heap.size 103 3 (.slice (some ⟨X6.heap.size, 0, none⟩) 1 1) 1 [.int .i64 0, .int .i64 ky, .int .i64 ac]) := hide (by rw [hX7]; exact own_one3 hB6.size)
          obtain ⟨qB, hqB⟩ : ∃ qB, X6.heap.size = qB := ⟨_, rfl⟩
          rw [hqB] at HOUT
          have HB7 := hide (hB6.trans (b7.mono hB6.size))
          have HX7 := hide (below_box b7 hx6')
          have hF7 := HFR.out X7 HB7.out
          obtain ⟨y0, _⟩ := sB_cells hF7.s
          have HDC : Hid ((0 : Int) < 9007199254740992) := hide (by omega)
          have dcn : decide ((0 : Int) < 9007199254740992) = true := decide_eq_true HDC.out
          have wcn : IntKind.i64.wrap ((0 : Int) + 1) = 1 := by rw [IntKind.wrap_i64]; omega
          have HSG := hide (LRow.seg (by decide) KS.len ks_one1 (KRow.head (KRow.later HK.out HB7.out) (show j ≤ ks.length by rw [HN0.out]; exact hkn)))
          have htk : (ks.take j).length = j := by rw [List.length_take, HN0.out]; omega
          rw [htk] at HSG
          have HK1 : Hid (0 + j ≤ maxLen) := by show _ ≤ _; unfold maxLen; omega
          have HK2 : Hid ((0 + j) * 24 ≤ 140737488355328) := by show _ ≤ _; omega
          have hkc : j ≤ c := by omega
          clear b4 hx4 hx5 hB5 hx6 hB6 hF6 b7 hF7 htk HAC g0 g1 g2 g3 v0 v1
          go_upto_region 12 with fail
          rw [← hX5]
          clear hX5 e0 e1 e2 e3 e32
          go_upto_region 14 with fail
          try rw [wcn]
          rw [← hX6]
          clear hX6 l0 l1 l2 l3 l31 dcn
          go_upto_region 16 with fail
          rw [← hX7]
          try rw [hqB]
          clear hX7 hqB m0 m1 m2 m3 m4
          go_wp2_with (at_builtin; refine append_cells _ rfl (.tmp 84) (.tmp 88) 56 rfl X7.heap.size 105 k0 (.agg #[.int .i64 0, .int .i64 0, .int .i64 0]) 3 24 Tryz.underlying56 hK0 hz0 hz1 hz2 rfl (by decide) (.slice none 0 0) 0 [] rfl (World.ownsRow_nil _ _ _ _) (.slice p j c) j _ rfl HSG.out HK1.out HK2.out (Nat.le_refl _) ?_)
          intro p5 c5 w5 hown hgrow
          have b5 : Below X7.heap.size X7 w5 := (Below.refl _ X7).grown hgrow (Nat.le_refl _) (fun i hi => by simp [Value.ownBlock] at hi)
          have HL5 := hide hown
          have HB5 := hide (HB7.out.trans (b5.mono HB7.out.size))
          have HX5 := hide (below_box b5 HX7.out)
          have HOUT5 := hide (ownsRow_later HOUT.out b5)
          have HLB5 : Hid (X7.heap.size ≤ w5.heap.size) := hide b5.size
          have hh7 : hB < X7.heap.size := (Array.getElem?_eq_some_iff.1 HX7.out).1
          obtain ⟨B7, hB7⟩ : ∃ B7, X7.heap.size = B7 := ⟨_, rfl⟩
          rw [hB7] at HL5 HLB5 hh7
          have HVB7 : Hid (V.heap.size ≤ B7) := hide (by rw [← hB7]; exact HB7.out.size)
          clear hown hgrow b5 HOUT HX7 HB7 HSG HK1 HK2 hB7 y0
          obtain ⟨j1, j2, j3, j4⟩ := x_cells HX5.out
          have hF5 := HFR.out w5 HB5.out
          obtain ⟨y0, y9⟩ := sB_cells hF5.s
          have o0 : w5.cell? ⟨oB, 0, none⟩ = some (.int .i64 kd) := by simp [World.cell?, hF5.o]
          have o3 : w5.cell? ⟨oB, 3, none⟩ = some (.int .i64 ar) := by simp [World.cell?, hF5.o]
          clear hF5
          rcases hkd with kd5 | kd6
          · subst kd5
            have hab := alloc_below w5 (.cells #[.int .i64 ky, .int .i64 1, .int .i64 ac] 105 (0, 0))
            have HSG := hide (Seg.news (size := 3) (m := 1) (c := 1) (heap_alloc_new w5 (.cells #[.int .i64 ky, .int .i64 1, .int .i64 ac] 105 (0, 0))) (by simp [Value.oneCell']) rfl (Nat.le_refl _) (by decide))
            have HRW := hide (ownsRow_later HL5.out hab)
            have HK1 : Hid (j + 1 ≤ maxLen) := by show _ ≤ _; unfold maxLen; omega
            have HK2 : Hid ((j + 1) * 24 ≤ 140737488355328) := by show _ ≤ _; omega
            have HBS : Hid (B7 ≤ (w5.alloc (.cells #[.int .i64 ky, .int .i64 1, .int .i64 ac] 105 (0, 0))).heap.size) := hide (Nat.le_trans HLB5.out hab.size)
            have HAB := hide hab
            clear hab
            go_wp2_with (at_builtin; refine append_cells _ rfl (.tmp 100) (.tmp 102) 56 rfl B7 105 k0 (.agg #[.int .i64 0, .int .i64 0, .int .i64 0]) 3 24 Tryz.underlying56 hK0 hz0 hz1 hz2 rfl (by decide) (.slice p5 j c5) j _ rfl HRW.out (.slice (some ⟨w5.heap.size, 0, none⟩) 1 1) 1 _ rfl HSG.out HK1.out HK2.out HBS.out ?_)
            intro pl cl wl hown hgrow
            have hoL : Only (fun i => (Value.slice p5 j c5).ownBlock = some i) w5 wl := (Only.fresh HAB.out _).trans (Only.of_grown hgrow (fun k e => e))
            have hbL : ∀ i, (Value.slice p5 j c5).ownBlock = some i → B7 ≤ i := fun i e => own_block_base HL5.out e
            have HLL : Hid (wl.ownsRow B7 105 3 (.slice pl (j + 1) cl) (j + 1) ((ks.take j ++ [(⟨ky, 1, ac⟩ : KS)]).flatMap KS.cells)) := hide (by rw [List.flatMap_append]; exact hown)
            have HBL := hide (HB5.out.trans (hoL.below HB5.out.size (fun i e => Nat.le_trans HVB7.out (hbL i e))))
            have HXL := hide (hoL.obj HX5.out (fun e => by have := hbL _ e; omega))
            have HOL := hide (ownsRow_only HOUT5.out hoL (fun b hb e => rows_apart HL5.out HOUT5.out (by decide) hb e))
            have HLBL : Hid (B7 ≤ wl.heap.size) := hide (Nat.le_trans HLB5.out hoL.size)
            clear hown hgrow hoL hbL HRW HSG HK1 HK2 HBS HAB HL5 HB5 HX5 HOUT5 HLB5 j1 j2 j3 j4 y0 y9 o0 o3
            obtain ⟨j1, j2, j3, j4⟩ := x_cells HXL.out
            have hFl := HFR.out wl HBL.out
            obtain ⟨y0, y9⟩ := sB_cells hFl.s
            have o0 : wl.cell? ⟨oB, 0, none⟩ = some (.int .i64 5) := by simp [World.cell?, hFl.o]
            have o3 : wl.cell? ⟨oB, 3, none⟩ = some (.int .i64 ar) := by simp [World.cell?, hFl.o]
            clear hFl
            have hdr : j ≤ ks.length := by rw [HN0.out]; omega
            obtain ⟨dp, hdp⟩ : ∃ dp : Option Addr, (if c = j then p else Option.map (fun x : Addr => x.add ((j) * 3)) p) = dp := ⟨_, rfl⟩
            have hrst := KRow.rest (KRow.later HK.out HBL.out) hdr
            rw [hdp] at hrst
            obtain ⟨dn, hdn⟩ : ∃ dn, j - (j) = dn := ⟨_, rfl⟩
            obtain ⟨dc, hdc⟩ : ∃ dc, c - (j) = dc := ⟨_, rfl⟩
            have hdl : (ks.drop (j)).length = dn := by rw [List.length_drop, HN0.out]; exact hdn
            have hsg := LRow.seg (by decide) KS.len ks_one1 hrst
            rw [hdl, hdc] at hsg
            have HSG := hide hsg
            have HK1 : Hid (j + 1 + dn ≤ maxLen) := by show _ ≤ _; unfold maxLen; omega
            have HK2 : Hid ((j + 1 + dn) * 24 ≤ 140737488355328) := by show _ ≤ _; omega
            have hkd1 : j ≤ j := by omega
            have hkd2 : j ≤ c := by omega
            have hkd3 : ((j : Int)) ≤ (j : Int) := by omega
            have hkd4 : (0 : Int) ≤ ((j : Int)) := by omega
            have HRES : Hid (∀ p6 c6 w6, w6.ownsRow B7 105 3 (.slice p6 (j + 1 + dn) c6) (j + 1 + dn) ((ks.take j ++ [(⟨ky, 1, ac⟩ : KS)]).flatMap KS.cells ++ (ks.drop (j)).flatMap KS.cells) → Only (fun i => (Value.slice pl (j + 1) cl).ownBlock = some i) wl w6 → FoldE W ((w6.setCell ⟨tB, 0, none⟩ (.slice p6 (j + 1 + dn) c6)).setCell ⟨tB, 1, none⟩ (.int .i64 tn)) tB p6 c6 (j + 1 + dn) tn (some ⟨qB, 0, none⟩) 1 1 ((ks.take j ++ [(⟨ky, 1, ac⟩ : KS)]) ++ ks.drop (j)) ([⟨0, ky, ac⟩] : List PU)) := hide (fun p6 c6 w6 o6 g6 => fold_end HBW.out HBL.out HVB7.out HLBL.out HTB.out HWT.out HLL.out HOL.out (by rw [List.flatMap_append]; exact o6) g6)
            have HT6 : Hid (∀ w6, Only (fun i => (Value.slice pl (j + 1) cl).ownBlock = some i) wl w6 → w6.heap[tB]? = some (.cells #[.slice none 0 0, .int .i64 0] 58 (0, 0)) ∧ w6.cell? ⟨sB, 1, none⟩ = some (.int .i64 tn)) := hide (fun w6 ho => by
              have hbl : ∀ i, (Value.slice pl (j + 1) cl).ownBlock = some i → B7 ≤ i := fun i e => own_block_base HLL.out e
              have hv := HVB7.out
              have h4 := HS4.out
              have hFl := HFR.out wl HBL.out
              exact ⟨ho.obj hFl.t (fun e => by have := hbl _ e; omega), ho.cell (sB_cells hFl.s).2 (fun e => by have h9 : B7 ≤ sB := hbl _ e; omega)⟩)
            have HKR : Hid (keysR 5 fn ar ks ⟨ky, vl⟩ = (ks.take j ++ [(⟨ky, 1, ac⟩ : KS)]) ++ ks.drop (j)) := hide (by
              unfold keysR
              simp only
              rw [HOLD.out, HPOS.out, HHAD.out]
              have hnw : nowR fn ⟨ky, 0, 0⟩ vl = ⟨ky, 1, ac⟩ := by
                unfold nowR
                simp only
                rw [if_pos HDC.out, HACE.out]; rfl
              rw [hnw]
              have hst : stayR 5 ar ⟨ky, 1, ac⟩ = true := by unfold stayR; rfl
              rw [hst]
              rw [if_pos rfl, if_neg (by decide), List.append_assoc])
            have HPR : Hid (putsR 5 fn ar ks ⟨ky, vl⟩ = ([⟨0, ky, ac⟩] : List PU)) := hide (by
              unfold putsR
              simp only
              rw [HOLD.out]
              have hnw : nowR fn ⟨ky, 0, 0⟩ vl = ⟨ky, 1, ac⟩ := by
                unfold nowR
                simp only
                rw [if_pos HDC.out, HACE.out]; rfl
              rw [hnw]
              rfl)
            clear hrst hsg hdl hdr
            go_upto_region 23 with fail
            go_region_law (refine step_append_cells rfl (.tmp 117) (.tmp 121) 56 rfl B7 105 k0 (.agg #[.int .i64 0, .int .i64 0, .int .i64 0]) 3 24 Tryz.underlying56 hK0 hz0 hz1 hz2 rfl (by decide) (.slice pl (j + 1) cl) (j + 1) _ (by first | (simp [Act.eval]; done) | simp [Act.eval, Act.put]) HLL.out.drew (.slice dp dn dc) dn _ (by first | (simp [Act.eval]; done) | simp [Act.eval, Act.put]) HSG.out HK1.out HK2.out HLBL.out ?_; intro p6 c6 w6 o6 g6; have hoW : Only (fun i => (Value.slice pl (j + 1) cl).ownBlock = some i) wl w6 := (Only.refl _ wl).drew.trans (Only.of_grown g6 (fun k e => e)); obtain ⟨tb6, sb6⟩ := HT6.out w6 hoW; obtain ⟨f0, f1, f2, f3⟩ := two_factsO tb6 (.slice p6 (j + 1 + dn) c6))
            all_goals
              have HE := hide (HRES.out p6 c6 w6 o6 hoW)
              clear o6 g6 hoW tb6
              go_wp2
              refine bodyPost_ret (Go.Proofs.YtifldnpccgbnkaaGreat.results_cell_two rfl _ _ tB 58 _ _ _ rfl HE.out.box Tryz.underlying58 rfl (by kernel_rfl)) rfl ?_
              have HKL := HE.out.keys
              have HPL := HE.out.puts
              rw [← HKR.out] at HKL
              rw [← HPR.out] at HPL
              exact ⟨_, _, _, _, _, _, rfl, row_len KS.len HKL, row_len PU.len HPL, HKL, HPL, HE.out.below⟩
          · by_cases hst : 1 < ar
            · subst kd6
              have da : decide (1 < ar) = true := decide_eq_true hst
              have hab := alloc_below w5 (.cells #[.int .i64 ky, .int .i64 1, .int .i64 ac] 105 (0, 0))
              have HSG := hide (Seg.news (size := 3) (m := 1) (c := 1) (heap_alloc_new w5 (.cells #[.int .i64 ky, .int .i64 1, .int .i64 ac] 105 (0, 0))) (by simp [Value.oneCell']) rfl (Nat.le_refl _) (by decide))
              have HRW := hide (ownsRow_later HL5.out hab)
              have HK1 : Hid (j + 1 ≤ maxLen) := by show _ ≤ _; unfold maxLen; omega
              have HK2 : Hid ((j + 1) * 24 ≤ 140737488355328) := by show _ ≤ _; omega
              have HBS : Hid (B7 ≤ (w5.alloc (.cells #[.int .i64 ky, .int .i64 1, .int .i64 ac] 105 (0, 0))).heap.size) := hide (Nat.le_trans HLB5.out hab.size)
              have HAB := hide hab
              clear hab
              go_wp2_with (at_builtin; refine append_cells _ rfl (.tmp 100) (.tmp 102) 56 rfl B7 105 k0 (.agg #[.int .i64 0, .int .i64 0, .int .i64 0]) 3 24 Tryz.underlying56 hK0 hz0 hz1 hz2 rfl (by decide) (.slice p5 j c5) j _ rfl HRW.out (.slice (some ⟨w5.heap.size, 0, none⟩) 1 1) 1 _ rfl HSG.out HK1.out HK2.out HBS.out ?_)
              intro pl cl wl hown hgrow
              have hoL : Only (fun i => (Value.slice p5 j c5).ownBlock = some i) w5 wl := (Only.fresh HAB.out _).trans (Only.of_grown hgrow (fun k e => e))
              have hbL : ∀ i, (Value.slice p5 j c5).ownBlock = some i → B7 ≤ i := fun i e => own_block_base HL5.out e
              have HLL : Hid (wl.ownsRow B7 105 3 (.slice pl (j + 1) cl) (j + 1) ((ks.take j ++ [(⟨ky, 1, ac⟩ : KS)]).flatMap KS.cells)) := hide (by rw [List.flatMap_append]; exact hown)
              have HBL := hide (HB5.out.trans (hoL.below HB5.out.size (fun i e => Nat.le_trans HVB7.out (hbL i e))))
              have HXL := hide (hoL.obj HX5.out (fun e => by have := hbL _ e; omega))
              have HOL := hide (ownsRow_only HOUT5.out hoL (fun b hb e => rows_apart HL5.out HOUT5.out (by decide) hb e))
              have HLBL : Hid (B7 ≤ wl.heap.size) := hide (Nat.le_trans HLB5.out hoL.size)
              clear hown hgrow hoL hbL HRW HSG HK1 HK2 HBS HAB HL5 HB5 HX5 HOUT5 HLB5 j1 j2 j3 j4 y0 y9 o0 o3
              obtain ⟨j1, j2, j3, j4⟩ := x_cells HXL.out
              have hFl := HFR.out wl HBL.out
              obtain ⟨y0, y9⟩ := sB_cells hFl.s
              have o0 : wl.cell? ⟨oB, 0, none⟩ = some (.int .i64 6) := by simp [World.cell?, hFl.o]
              have o3 : wl.cell? ⟨oB, 3, none⟩ = some (.int .i64 ar) := by simp [World.cell?, hFl.o]
              clear hFl
              have hdr : j ≤ ks.length := by rw [HN0.out]; omega
              obtain ⟨dp, hdp⟩ : ∃ dp : Option Addr, (if c = j then p else Option.map (fun x : Addr => x.add ((j) * 3)) p) = dp := ⟨_, rfl⟩
              have hrst := KRow.rest (KRow.later HK.out HBL.out) hdr
              rw [hdp] at hrst
              obtain ⟨dn, hdn⟩ : ∃ dn, j - (j) = dn := ⟨_, rfl⟩
              obtain ⟨dc, hdc⟩ : ∃ dc, c - (j) = dc := ⟨_, rfl⟩
              have hdl : (ks.drop (j)).length = dn := by rw [List.length_drop, HN0.out]; exact hdn
              have hsg := LRow.seg (by decide) KS.len ks_one1 hrst
              rw [hdl, hdc] at hsg
              have HSG := hide hsg
              have HK1 : Hid (j + 1 + dn ≤ maxLen) := by show _ ≤ _; unfold maxLen; omega
              have HK2 : Hid ((j + 1 + dn) * 24 ≤ 140737488355328) := by show _ ≤ _; omega
              have hkd1 : j ≤ j := by omega
              have hkd2 : j ≤ c := by omega
              have hkd3 : ((j : Int)) ≤ (j : Int) := by omega
              have hkd4 : (0 : Int) ≤ ((j : Int)) := by omega
              have HRES : Hid (∀ p6 c6 w6, w6.ownsRow B7 105 3 (.slice p6 (j + 1 + dn) c6) (j + 1 + dn) ((ks.take j ++ [(⟨ky, 1, ac⟩ : KS)]).flatMap KS.cells ++ (ks.drop (j)).flatMap KS.cells) → Only (fun i => (Value.slice pl (j + 1) cl).ownBlock = some i) wl w6 → FoldE W ((w6.setCell ⟨tB, 0, none⟩ (.slice p6 (j + 1 + dn) c6)).setCell ⟨tB, 1, none⟩ (.int .i64 tn)) tB p6 c6 (j + 1 + dn) tn none 0 0 ((ks.take j ++ [(⟨ky, 1, ac⟩ : KS)]) ++ ks.drop (j)) ([] : List PU)) := hide (fun p6 c6 w6 o6 g6 => fold_end HBW.out HBL.out HVB7.out HLBL.out HTB.out HWT.out HLL.out (World.ownsRow_nil _ _ _ _) (by rw [List.flatMap_append]; exact o6) g6)
              have HT6 : Hid (∀ w6, Only (fun i => (Value.slice pl (j + 1) cl).ownBlock = some i) wl w6 → w6.heap[tB]? = some (.cells #[.slice none 0 0, .int .i64 0] 58 (0, 0)) ∧ w6.cell? ⟨sB, 1, none⟩ = some (.int .i64 tn)) := hide (fun w6 ho => by
                have hbl : ∀ i, (Value.slice pl (j + 1) cl).ownBlock = some i → B7 ≤ i := fun i e => own_block_base HLL.out e
                have hv := HVB7.out
                have h4 := HS4.out
                have hFl := HFR.out wl HBL.out
                exact ⟨ho.obj hFl.t (fun e => by have := hbl _ e; omega), ho.cell (sB_cells hFl.s).2 (fun e => by have h9 : B7 ≤ sB := hbl _ e; omega)⟩)
              have HKR : Hid (keysR 6 fn ar ks ⟨ky, vl⟩ = (ks.take j ++ [(⟨ky, 1, ac⟩ : KS)]) ++ ks.drop (j)) := hide (by
                unfold keysR
                simp only
                rw [HOLD.out, HPOS.out, HHAD.out]
                have hnw : nowR fn ⟨ky, 0, 0⟩ vl = ⟨ky, 1, ac⟩ := by
                  unfold nowR
                  simp only
                  rw [if_pos HDC.out, HACE.out]; rfl
                rw [hnw]
                have hst : stayR 6 ar ⟨ky, 1, ac⟩ = true := by unfold stayR; simp only [da]; rfl
                rw [hst]
                rw [if_pos rfl, if_neg (by decide), List.append_assoc])
              have HPR : Hid (putsR 6 fn ar ks ⟨ky, vl⟩ = ([] : List PU)) := hide (by
                unfold putsR
                simp only
                rw [HOLD.out]
                have hnw : nowR fn ⟨ky, 0, 0⟩ vl = ⟨ky, 1, ac⟩ := by
                  unfold nowR
                  simp only
                  rw [if_pos HDC.out, HACE.out]; rfl
                rw [hnw]
                simp [da])
              clear hrst hsg hdl hdr
              go_upto_region 23 with fail
              go_region_law (refine step_append_cells rfl (.tmp 117) (.tmp 121) 56 rfl B7 105 k0 (.agg #[.int .i64 0, .int .i64 0, .int .i64 0]) 3 24 Tryz.underlying56 hK0 hz0 hz1 hz2 rfl (by decide) (.slice pl (j + 1) cl) (j + 1) _ (by first | (simp [Act.eval]; done) | simp [Act.eval, Act.put]) HLL.out.drew (.slice dp dn dc) dn _ (by first | (simp [Act.eval]; done) | simp [Act.eval, Act.put]) HSG.out HK1.out HK2.out HLBL.out ?_; intro p6 c6 w6 o6 g6; have hoW : Only (fun i => (Value.slice pl (j + 1) cl).ownBlock = some i) wl w6 := (Only.refl _ wl).drew.trans (Only.of_grown g6 (fun k e => e)); obtain ⟨tb6, sb6⟩ := HT6.out w6 hoW; obtain ⟨f0, f1, f2, f3⟩ := two_factsO tb6 (.slice p6 (j + 1 + dn) c6))
              all_goals
                have HE := hide (HRES.out p6 c6 w6 o6 hoW)
                clear o6 g6 hoW tb6
                go_wp2
                refine bodyPost_ret (Go.Proofs.YtifldnpccgbnkaaGreat.results_cell_two rfl _ _ tB 58 _ _ _ rfl HE.out.box Tryz.underlying58 rfl (by kernel_rfl)) rfl ?_
                have HKL := HE.out.keys
                have HPL := HE.out.puts
                rw [← HKR.out] at HKL
                rw [← HPR.out] at HPL
                exact ⟨_, _, _, _, _, _, rfl, row_len KS.len HKL, row_len PU.len HPL, HKL, HPL, HE.out.below⟩
            · subst kd6
              have da : decide (1 < ar) = false := decide_eq_false hst
              obtain ⟨wl, hwl⟩ : ∃ wl, w5 = wl := ⟨_, rfl⟩
              obtain ⟨pl, hpl⟩ : ∃ pl, p5 = pl := ⟨_, rfl⟩
              obtain ⟨cl, hcl⟩ : ∃ cl, c5 = cl := ⟨_, rfl⟩
              rw [hwl] at HL5 HB5 HX5 HOUT5 HLB5 j1 j2 j3 j4 y0 y9 o0 o3 ⊢
              rw [hpl, hcl] at HL5
              rw [hpl, hcl]
              have HLL := HL5
              have HBL := HB5
              have HXL := HX5
              have HOL := HOUT5
              have HLBL := HLB5
              clear hwl hpl hcl HL5 HB5 HX5 HOUT5 HLB5
              have hdr : j ≤ ks.length := by rw [HN0.out]; omega
              obtain ⟨dp, hdp⟩ : ∃ dp : Option Addr, (if c = j then p else Option.map (fun x : Addr => x.add ((j) * 3)) p) = dp := ⟨_, rfl⟩
              have hrst := KRow.rest (KRow.later HK.out HBL.out) hdr
              rw [hdp] at hrst
              obtain ⟨dn, hdn⟩ : ∃ dn, j - (j) = dn := ⟨_, rfl⟩
              obtain ⟨dc, hdc⟩ : ∃ dc, c - (j) = dc := ⟨_, rfl⟩
              have hdl : (ks.drop (j)).length = dn := by rw [List.length_drop, HN0.out]; exact hdn
              have hsg := LRow.seg (by decide) KS.len ks_one1 hrst
              rw [hdl, hdc] at hsg
              have HSG := hide hsg
              have HK1 : Hid (j + dn ≤ maxLen) := by show _ ≤ _; unfold maxLen; omega
              have HK2 : Hid ((j + dn) * 24 ≤ 140737488355328) := by show _ ≤ _; omega
              have hkd1 : j ≤ j := by omega
              have hkd2 : j ≤ c := by omega
              have hkd3 : ((j : Int)) ≤ (j : Int) := by omega
              have hkd4 : (0 : Int) ≤ ((j : Int)) := by omega
              have HRES : Hid (∀ p6 c6 w6, w6.ownsRow B7 105 3 (.slice p6 (j + dn) c6) (j + dn) ((ks.take j).flatMap KS.cells ++ (ks.drop (j)).flatMap KS.cells) → Only (fun i => (Value.slice pl (j) cl).ownBlock = some i) wl w6 → FoldE W ((w6.setCell ⟨tB, 0, none⟩ (.slice p6 (j + dn) c6)).setCell ⟨tB, 1, none⟩ (.int .i64 tn)) tB p6 c6 (j + dn) tn (some ⟨qB, 0, none⟩) 1 1 ((ks.take j) ++ ks.drop (j)) ([⟨0, ky, ac⟩] : List PU)) := hide (fun p6 c6 w6 o6 g6 => fold_end HBW.out HBL.out HVB7.out HLBL.out HTB.out HWT.out HLL.out HOL.out (by rw [List.flatMap_append]; exact o6) g6)
              have HT6 : Hid (∀ w6, Only (fun i => (Value.slice pl (j) cl).ownBlock = some i) wl w6 → w6.heap[tB]? = some (.cells #[.slice none 0 0, .int .i64 0] 58 (0, 0)) ∧ w6.cell? ⟨sB, 1, none⟩ = some (.int .i64 tn)) := hide (fun w6 ho => by
                have hbl : ∀ i, (Value.slice pl (j) cl).ownBlock = some i → B7 ≤ i := fun i e => own_block_base HLL.out e
                have hv := HVB7.out
                have h4 := HS4.out
                have hFl := HFR.out wl HBL.out
                exact ⟨ho.obj hFl.t (fun e => by have := hbl _ e; omega), ho.cell (sB_cells hFl.s).2 (fun e => by have h9 : B7 ≤ sB := hbl _ e; omega)⟩)
              have HKR : Hid (keysR 6 fn ar ks ⟨ky, vl⟩ = (ks.take j) ++ ks.drop (j)) := hide (by
                unfold keysR
                simp only
                rw [HOLD.out, HPOS.out, HHAD.out]
                have hnw : nowR fn ⟨ky, 0, 0⟩ vl = ⟨ky, 1, ac⟩ := by
                  unfold nowR
                  simp only
                  rw [if_pos HDC.out, HACE.out]; rfl
                rw [hnw]
                have hst : stayR 6 ar ⟨ky, 1, ac⟩ = false := by unfold stayR; simp only [da]; rfl
                rw [hst]
                rw [if_neg (by decide), if_neg (by decide), List.nil_append])
              have HPR : Hid (putsR 6 fn ar ks ⟨ky, vl⟩ = ([⟨0, ky, ac⟩] : List PU)) := hide (by
                unfold putsR
                simp only
                rw [HOLD.out]
                have hnw : nowR fn ⟨ky, 0, 0⟩ vl = ⟨ky, 1, ac⟩ := by
                  unfold nowR
                  simp only
                  rw [if_pos HDC.out, HACE.out]; rfl
                rw [hnw]
                simp [da])
              clear hrst hsg hdl hdr
              go_upto_region 23 with fail
              go_region_law (refine step_append_cells rfl (.tmp 117) (.tmp 121) 56 rfl B7 105 k0 (.agg #[.int .i64 0, .int .i64 0, .int .i64 0]) 3 24 Tryz.underlying56 hK0 hz0 hz1 hz2 rfl (by decide) (.slice pl (j) cl) (j) _ (by first | (simp [Act.eval]; done) | simp [Act.eval, Act.put]) HLL.out.drew (.slice dp dn dc) dn _ (by first | (simp [Act.eval]; done) | simp [Act.eval, Act.put]) HSG.out HK1.out HK2.out HLBL.out ?_; intro p6 c6 w6 o6 g6; have hoW : Only (fun i => (Value.slice pl (j) cl).ownBlock = some i) wl w6 := (Only.refl _ wl).drew.trans (Only.of_grown g6 (fun k e => e)); obtain ⟨tb6, sb6⟩ := HT6.out w6 hoW; obtain ⟨f0, f1, f2, f3⟩ := two_factsO tb6 (.slice p6 (j + dn) c6))
              all_goals
                have HE := hide (HRES.out p6 c6 w6 o6 hoW)
                clear o6 g6 hoW tb6
                go_wp2
                refine bodyPost_ret (Go.Proofs.YtifldnpccgbnkaaGreat.results_cell_two rfl _ _ tB 58 _ _ _ rfl HE.out.box Tryz.underlying58 rfl (by kernel_rfl)) rfl ?_
                have HKL := HE.out.keys
                have HPL := HE.out.puts
                rw [← HKR.out] at HKL
                rw [← HPR.out] at HPL
                exact ⟨_, _, _, _, _, _, rfl, row_len KS.len HKL, row_len PU.len HPL, HKL, HPL, HE.out.below⟩
end Go.Proofs.YtifldnpccgbnkaaGreat.Op
