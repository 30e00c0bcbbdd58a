/-
  search of package oper, slices.Delete of one KeyState, slices.Clone of KeyStates. The conditions: lengths.
-/
import Derived.Test.YtkibiappjegogaaOin
import Derived.Deep.DeepAppendRoom
import Derived.WalkMore
namespace Go.Proofs.Ytkibiappjegogaa
open Go.RowKit

theorem zero_cells3 (n : Nat) : (Builtin.zeroCells #[.int .i64 0, .int .i64 0, .int .i64 0] n).toList = List.replicate (n * 3) (.int .i64 0) := by
  apply List.ext_getElem
  · simp [Builtin.zeroCells]
  · intro i h1 h2
    simp only [Builtin.zeroCells, Array.toList_map, Array.toList_range, List.getElem_map, List.getElem_range, List.getElem_replicate]
    have hq : i % 3 < 3 := Nat.mod_lt _ (by decide)
    show (#[Value.int .i64 0, .int .i64 0, .int .i64 0] : Array Value)[i % 3]! = _
    generalize i % 3 = q at hq
    have : q = 0 ∨ q = 1 ∨ q = 2 := by omega
    rcases this with rfl | rfl | rfl <;> rfl
theorem run_clear3 (w : World) (ty : TypeId) (b o n c : Nat) (hn : 0 < n) (hc : ∀ j, j < n * 3 → (w.cell? ⟨b, o + j, none⟩).isSome = true) (hf : ∀ j, j < n * 3 → w.frozen? ⟨b, o + j, none⟩ = false) :
    (Builtin.clear_ #[26] ty #[.slice (some ⟨b, o, none⟩) n c]).run Try.prog w = .ok (.tuple #[]) (w.setCells b o (List.replicate (n * 3) (.int .i64 0))) := by
  have hv : ∀ w, (zeroValue 51).run Try.prog w = .ok (.agg #[.int .i64 0, .int .i64 0, .int .i64 0]) w := fun w => by
    simp [zeroValue]
    rfl
  have hst := run_storeCells_cells (P := Try.prog) b o (List.replicate (n * 3) (.int .i64 0)) 0 w (by simpa using hc) (by simpa using hf) (by intro v hv'; rw [List.eq_of_mem_replicate hv']; rfl)
  simp only [Nat.add_zero] at hst
  obtain ⟨m, rfl⟩ : ∃ m, n = m + 1 := ⟨n - 1, by omega⟩
  have hzc := zero_cells3 (m + 1)
  simp [Builtin.clear_, run_underlying Try.underlying26, hv, Value.cells, hzc, hst]
theorem own_someK {W : World} {base e k n cap g i : Nat} {xs : List Value} (h : W.ownsRow base e k (.slice (some ⟨g, 0, none⟩) n cap) n xs) (hi : i < cap * k) : (W.cell? ⟨g, i, none⟩).isSome = true := by
  rcases h.2 with ⟨e', _⟩ | ⟨g', cap', cur, e', hb, hg, h1, h2, h3, h4⟩
  · cases e'
  · simp only [Value.slice.injEq, Option.some.injEq, Addr.mk.injEq, and_true, true_and] at e'
    obtain ⟨rfl, rfl⟩ := e'
    have hlt : i < cur.size := by omega
    simp [World.cell?, hg, hlt]
/-- append into what is there, one step of a region that draws its order. -/
theorem step_append_spare {P : Program} {ops : Array Oper} {o : Oper} {a : Act} {w : World} {K : Act → World → Prop} {Q : Exit → Act → World → Prop} {E : Prop} (hgd : o.guard = none) (s x : Operand) (t : TypeId)
    (ho : o.op = .call { callee := .builtin .append, args := #[s, x], argTypes := #[t, t] })
    (base : Nat) (e : TypeId) (i : TypeInfo) (size : Nat) (ht : P.underlying t = some (.slice e)) (hi : P.info? e = some i) (hsize : i.size = size)
    (g n cap : Nat) (xs : List Value) (hs : a.eval s = .slice (some ⟨g, 0, none⟩) n cap) (hown : w.ownsRow base e size (.slice (some ⟨g, 0, none⟩) n cap) n xs)
    (ad : Addr) (m c : Nat) (news : List Value) (hx : a.eval x = .slice (some ad) m c) (hl : news.length = m * size) (hnews : ∀ j u, news[j]? = some u → w.cell? (ad.add j) = some u) (h1 : ∀ u ∈ news, u.oneCell' = true)
    (hroom : n + m ≤ cap)
    (h : ∀ w', w'.ownsRow base e size (.slice (some ⟨g, 0, none⟩) (n + m) cap) (n + m) (xs ++ news) → w.grownBy w' (some g) → K (a.put o.dst (.slice (some ⟨g, 0, none⟩) (n + m) cap)) w') :
    if Region.wanted o (yielded ops a.tmps) = true then Oper.wp P o a w K Q else E := by
  have hw : Region.wanted o (yielded ops a.tmps) = true := by simp [Region.wanted, hgd]
  rw [if_pos hw]
  exact wp_append_own_spare w s x t ho base e i size ht hi hsize g n cap xs hs hown ad m c news hx hl hnews h1 hroom h
set_option maxRecDepth 100000 in
set_option maxHeartbeats 2000000 in
theorem delete_at {W : World} {base g cap m i : Nat} {ks : List KS} (h : W.ownsRow base 51 3 (.slice (some ⟨g, 0, none⟩) (m + 1) cap) (m + 1) (ks.flatMap KS.cells)) (hn : ks.length = m + 1) (hi : i ≤ m) :
    Calls Try.prog 25 #[.slice (some ⟨g, 0, none⟩) (m + 1) cap, .int .i64 (i : Int), .int .i64 ((i : Int) + 1)] W fun e w' => e = .returned (.slice (some ⟨g, 0, none⟩) m cap) ∧ w'.ownsRow base 51 3 (.slice (some ⟨g, 0, none⟩) m cap) m ((ks.take i ++ ks.drop (i + 1)).flatMap KS.cells) ∧ Only (· = g) W w' := by
  obtain ⟨i0, hI0, hz0, hz1, hz2⟩ := info_parts Try.infoKeyS
  obtain ⟨_, _, ef, i1, i2⟩ := own_form h
  simp only [Value.slice.injEq, true_and] at ef
  obtain ⟨rfl, rfl⟩ := ef
  have hfl : ((ks.drop (i + 1)).flatMap KS.cells).length = (m - i) * 3 := by rw [ks_len, List.length_drop, hn]; omega
  have HROW := hide h
  have h0 := own_cut h (i := i) (by omega)
  rw [ks_take] at h0
  have HR0 := hide h0
  obtain ⟨A, hA⟩ : ∃ A : Addr, (if cap = i + 1 then (⟨g, 0, none⟩ : Addr) else ⟨g, (i + 1) * 3, none⟩) = A := ⟨_, rfl⟩
  have HNW : Hid (∀ j u, ((ks.drop (i + 1)).flatMap KS.cells)[j]? = some u → W.cell? (A.add j) = some u) := by
    refine hide (fun j u hj => ?_)
    have hjl : j < (m - i) * 3 := by have := (List.getElem?_eq_some_iff.1 hj).1; omega
    have hc : ¬ cap = i + 1 := by omega
    rw [if_neg hc] at hA
    rw [← hA, Go.WideShapes.add_plain]
    have h2 := HROW.out.cellAt ((i + 1) * 3 + j) (by omega)
    rw [h2, ← List.getElem?_drop, ks_drop]
    exact hj
  have HFL := hide hfl
  have HON : Hid (∀ u ∈ (ks.drop (i + 1)).flatMap KS.cells, u.oneCell' = true) := hide (ks_one _)
  have hA2 : (if cap = i + 1 then some (⟨g, 0, none⟩ : Addr) else some ⟨g, (i + 1) * 3, none⟩) = some A := by rw [← hA]; by_cases hc : cap = i + 1 <;> simp [hc]
  have HMC : Hid (i + (m - i) ≤ cap) := hide (by omega)
  have him : i + (m - i) = m := by omega
  have q0 : (i : Int) ≤ (i : Int) + 1 := by omega
  have q1 : (i : Int) + 1 ≤ (m : Int) + 1 := by omega
  have q2 : (i : Int) ≤ (m : Int) + 1 := by omega
  have q3 : (m : Int) + 1 ≤ (cap : Int) := by omega
  have q4 : (i : Int) ≤ (cap : Int) := by omega
  have q5 : (i : Int) + 1 ≤ (cap : Int) := by omega
  have qe : ((i : Int) == (i : Int) + 1) = false := by simpa using (by omega : ¬ (i : Int) = (i : Int) + 1)
  have qz : (0 : Int) ≤ (i : Int) + 1 := by omega
  have qt : ((i : Int) + 1).toNat = i + 1 := by omega
  have qd : m + 1 - (i + 1) = m - i := by omega
  have HCAT : Hid ((ks.take i ++ ks.drop (i + 1)).flatMap KS.cells = (ks.take i).flatMap KS.cells ++ (ks.drop (i + 1)).flatMap KS.cells) := hide (List.flatMap_append)
  have HCL : Hid (((ks.take i ++ ks.drop (i + 1)).flatMap KS.cells).length = m * 3) := hide (by rw [ks_len, List.length_append, List.length_take, List.length_drop, hn]; omega)
  clear h h0 hfl hA hn
  go_enter Try.func25, Try.ntmps25
  go_upto_region 5 with fail
  go_region_law (refine step_append_spare rfl (.tmp 22) (.tmp 25) 26 rfl base 51 i0 3 Try.underlying26 hI0 hz1 g i cap ((ks.take i).flatMap KS.cells) (by simp [Act.eval, Act.put]) HR0.out.drew A (m - i) (cap - (i + 1)) ((ks.drop (i + 1)).flatMap KS.cells) (by simp [Act.eval, Act.put]) HFL.out HNW.out HON.out HMC.out ?_; intro w6 o6 g6)
  all_goals
    rw [← HCAT.out] at o6
    try rw [him] at o6
    obtain ⟨ys, hy1, hy2⟩ := own_setCells (List.replicate (1 * 3) (.int .i64 0)) (m * 3) o6
    have hy3 : ys = (ks.take i ++ ks.drop (i + 1)).flatMap KS.cells := by
      have l1 := hy1.1
      rw [List.take_of_length_le (by omega), List.take_of_length_le (by rw [HCL.out]; exact Nat.le_refl _)] at hy2
      exact hy2
    rw [hy3] at hy1
    have q : ∀ ty, (Builtin.clear_ #[26] ty #[.slice (some ⟨g, m * 3, none⟩) 1 (cap - m)]).run Try.prog w6 = .ok (.tuple #[]) (w6.setCells g (m * 3) (List.replicate (1 * 3) (.int .i64 0))) := fun ty => run_clear3 w6 ty g (m * 3) 1 (cap - m) (by omega) (fun j hj => own_someK o6 (by omega)) (fun j _ => o6.frozenAt _)
    have HY := hide hy1
    have HOG : Hid (Only (· = g) W (w6.setCells g (m * 3) (List.replicate (1 * 3) (.int .i64 0)))) := hide (((Only.refl _ W).drew.trans (Only.of_grown g6 (fun k e => by simpa using e.symm))).trans (only_cells _ _ _))
    have hcm : ¬ cap = m := by omega
    have q7 : (m : Int) ≤ (m : Int) + 1 := by omega
    clear hy1 hy2 hy3 o6 g6
    try simp only [Act.put]
    go_wp2
    go_ret
    exact ⟨rfl, HY.out, HOG.out⟩
/-- Where a key stands, or is to stand. -/
structure Found1 (ks : List KS) (key : Int) (i : Nat) (fd : Bool) : Prop where
  le : i ≤ ks.length
  yes : fd = true → i < ks.length ∧ (ks[i]!).key = key
  no : fd = false → (∀ x ∈ ks, x.key ≠ key) ∧ (∀ x ∈ ks.take i, x.key ≤ key) ∧ (i < ks.length → key < (ks[i]!).key)
/-- What search knows behind k rounds. -/
def SrI (ks : List KS) (key : Int) (k a : Nat) : Prop := (∀ x ∈ ks.take k, x.key ≠ key) ∧ (∀ x ∈ ks.take (min a k), x.key ≤ key) ∧ ((a = ks.length ∧ ∀ x ∈ ks.take k, x.key ≤ key) ∨ (a < k ∧ key < (ks[a]!).key))
abbrev KRow (W : World) (p : Option Addr) (cap : Nat) (ks : List KS) : Prop := ks.length ≤ cap ∧ cap ≤ 9223372036854775807 ∧ (p = none → cap = 0) ∧ ∀ i, i < ks.length → ∃ g o, p = some ⟨g, o, none⟩ ∧ ∀ j, j < 3 → W.cell? ⟨g, o + i * 3 + j, none⟩ = (KS.cells ks[i]!)[j]?
theorem KRow.later {W W' : World} {p : Option Addr} {cap : Nat} {ks : List KS} (h : KRow W p cap ks) (hb : Below W.heap.size W W') : KRow W' p cap ks := by
  obtain ⟨h1, h2, h3, h4⟩ := h
  refine ⟨h1, h2, h3, fun i hi => ?_⟩
  obtain ⟨g, o, e, hc⟩ := h4 i hi
  refine ⟨g, o, e, fun j hj => ?_⟩
  have h5 := hc j hj
  rw [List.getElem?_eq_getElem (by rw [KS.len]; exact hj)] at h5 ⊢
  exact cell_later hb h5
theorem take_snocK {ks : List KS} {k : Nat} (hk : k < ks.length) {x : KS} (hx : ks[k]! = x) : ks.take (k + 1) = ks.take k ++ [x] := by
  rw [List.take_succ_eq_append_getElem hk, ← hx, getElem!_pos ks k hk]
theorem sr_low {ks : List KS} {key : Int} {k a : Nat} (h : SrI ks key k a) (hk : k < ks.length) {x : KS} (hx : ks[k]! = x) (hne : x.key ≠ key) (hle : x.key ≤ key) : SrI ks key (k + 1) a := by
  obtain ⟨h1, h2, h3⟩ := h
  have e1 := take_snocK hk hx
  have m1 : ∀ y ∈ ks.take (k + 1), y ∈ ks.take k ∨ y = x := fun y hy => by rw [e1, List.mem_append] at hy; simpa using hy
  refine ⟨fun y hy => ?_, fun y hy => ?_, ?_⟩
  · rcases m1 y hy with hy | rfl
    · exact h1 y hy
    · exact hne
  · rcases h3 with ⟨h3, h4⟩ | ⟨h3, h4⟩
    · rw [Nat.min_eq_right (by omega)] at hy
      rcases m1 y hy with hy | rfl
      · exact h4 y hy
      · exact hle
    · rw [Nat.min_eq_left (by omega)] at hy
      rw [Nat.min_eq_left (by omega)] at h2
      exact h2 y hy
  · rcases h3 with ⟨h3, h4⟩ | ⟨h3, h4⟩
    · exact .inl ⟨h3, fun y hy => by
        rcases m1 y hy with hy | rfl
        · exact h4 y hy
        · exact hle⟩
    · exact .inr ⟨by omega, h4⟩
theorem sr_high {ks : List KS} {key : Int} {k a : Nat} (h : SrI ks key k a) (hk : k < ks.length) {x : KS} (hx : ks[k]! = x) (hgt : key < x.key) : SrI ks key (k + 1) (min a k) := by
  obtain ⟨h1, h2, h3⟩ := h
  have e1 := take_snocK hk hx
  have m1 : ∀ y ∈ ks.take (k + 1), y ∈ ks.take k ∨ y = x := fun y hy => by rw [e1, List.mem_append] at hy; simpa using hy
  refine ⟨fun y hy => ?_, fun y hy => ?_, .inr ?_⟩
  · rcases m1 y hy with hy | rfl
    · exact h1 y hy
    · omega
  · rw [Nat.min_eq_left (by omega)] at hy
    exact h2 y hy
  · rcases h3 with ⟨h3, h4⟩ | ⟨h3, h4⟩
    · rw [Nat.min_eq_right (by omega), hx]
      exact ⟨by omega, hgt⟩
    · rw [Nat.min_eq_left (by omega)]
      exact ⟨by omega, h4⟩
set_option maxRecDepth 100000 in
set_option maxHeartbeats 2000000 in
theorem osearch_any {W : World} {p : Option Addr} {n c : Nat} {ks : List KS} {key : Int} (h : KRow W p c ks) (hn : ks.length = n) :
    Calls Try.prog 22 #[.slice p n c, .int .i64 key] W fun e w' => ∃ (i : Nat) (fd : Bool), e = .returned (.tuple #[.int .i64 (i : Int), .bool fd]) ∧ Found1 ks key i fd ∧ Below W.heap.size W w' := by
  have i1 := h.1
  have i2 := h.2.1
  rw [hn] at i1
  have HR := hide h
  have HN := hide hn
  clear h hn
  go_enter Try.func22, Try.ntmps22
  go_wp2_with fail
  go_step3
  go_wp2_with fail
  go_step3
  go_wp2_with fail
  go_loopw [6, 7, 14] (fun a f i wr => ∃ k b : Nat, k ≤ n ∧ b ≤ n ∧ a = .int .i64 (b : Int) ∧ f = .bool false ∧ i = .int .i64 (k : Int) ∧ Hid (SrI ks key k b) ∧ Hid (Below W.heap.size W wr)) (fun _ _ i _ => n - (intOf i).toNat)
  case atStart => exact ⟨0, n, Nat.zero_le _, Nat.le_refl _, rfl, rfl, rfl, hide ⟨by simp, by simp, .inl ⟨HN.out.symm, by simp⟩⟩, hide (Below.refl _ _)⟩
  case round =>
    obtain ⟨k, b, hk, hb, rfl, rfl, rfl, HS, HB⟩ := hrel
    by_cases hlt : k < n
    · have hlt2 : k < ks.length := by rw [HN.out]; exact hlt
      obtain ⟨x, hx⟩ : ∃ x, ks[k]! = x := ⟨_, rfl⟩
      obtain ⟨g, o, rfl, hc⟩ := (HR.out.later HB.out).2.2.2 k hlt2
      rw [hx] at hc
      have a0 := hc 0 (by decide)
      have a1 := hc 1 (by decide)
      have a2 := hc 2 (by decide)
      have HX := hide hx
      have HL := hide hlt2
      obtain ⟨y0, y1, y2⟩ := x
      simp only [KS.cells, List.getElem?_cons_zero, List.getElem?_cons_succ, Nat.add_zero] at a0 a1 a2
      have HB2 : Hid (Below W.heap.size W (wr.alloc (.cells #[.int .i64 y0, .int .i64 y1, .int .i64 y2] 51 (0, 0)))) := hide (HB.out.trans ((alloc_below _ _).mono HB.out.size))
      clear hx hlt2 hc
      by_cases e0 : y0 = key
      · subst e0
        have HF : Hid (Found1 ks y0 k true) := hide ⟨by have := HL.out; omega, fun _ => ⟨HL.out, by rw [HX.out]⟩, (fun e => by cases e)⟩
        go_wp2
        rw [Exit.noGoto_ret]
        go_ret2
        exact ⟨k, true, rfl, HF.out, HB2.out⟩
      · have f0 : (y0 == key) = false := by simpa using e0
        by_cases e1 : key < y0
        · have f1 : decide (y0 > key) = true := decide_eq_true e1
          have HS2 := hide (sr_high HS.out HL.out HX.out e1)
          have hmm : (min (b : Int) (k : Int)) = ((min b k : Nat) : Int) := by omega
          clear e0
          go_wp2
          exact ⟨⟨k + 1, min b k, by omega, by omega, by first | rfl | rw [hmm] | simp, rfl, by first | rfl | go_num, HS2, HB2⟩, by simp [intOf]; omega⟩
        · have f1 : decide (y0 > key) = false := decide_eq_false e1
          have HS2 := hide (sr_low HS.out HL.out HX.out e0 (by show y0 ≤ key; omega))
          clear e0 e1
          go_wp2
          exact ⟨⟨k + 1, b, by omega, hb, rfl, rfl, by first | rfl | go_num, HS2, HB2⟩, by simp [intOf]; omega⟩
    · obtain rfl : k = n := by omega
      have HF : Hid (Found1 ks key b false) := by
        obtain ⟨h1, h2, h3⟩ := HS.out
        rw [List.take_of_length_le (by rw [HN.out]; exact Nat.le_refl _)] at h1
        rw [Nat.min_eq_left hb] at h2
        refine hide ⟨by rw [HN.out]; exact hb, (fun e => by cases e), fun _ => ⟨h1, h2, fun hlt => ?_⟩⟩
        rcases h3 with ⟨h3, _⟩ | ⟨_, h4⟩
        · omega
        · exact h4
      go_wp2
      rw [Exit.noGoto_ret]
      go_ret2
      exact ⟨b, false, rfl, HF.out, HB.out⟩
end Go.Proofs.Ytkibiappjegogaa
