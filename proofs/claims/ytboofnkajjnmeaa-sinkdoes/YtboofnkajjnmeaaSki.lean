/-
  slices.BinarySearch of numbers, slices.Insert of one. The conditions: lengths; they rise; what is put in lies elsewhere.
-/
import Derived.Test.YtboofnkajjnmeaaSkb
import Derived.Maps.AppendAt
import Derived.Lib.Overlaps
import Derived.Lib.AppendZerosOnto
import Derived.Laws.CopyRow
import Derived.Deep.RegionLaw
import Derived.Laws.Externs
import Derived.Deep.LoopGhost
import Derived.Lib.SlicesSearch
namespace Go.Proofs.Ytboofnkajjnmeaa
open Go.RowKit

theorem isNaN_c {W : World} {x : Int} : Calls Try.prog 86 #[.int .i64 x] W fun e w' => e = .returned (.bool false) ∧ w' = W := by
  go_enter Try.func86, Try.ntmps86
  go_wp2
  go_ret
  exact ⟨by simp, rfl⟩
theorem isNaN_s {W : World} {x : Int} : Calls Try.prog 78 #[.int .i64 x] W fun e w' => e = .returned (.bool false) ∧ w' = W := by
  go_enter Try.func78, Try.ntmps78
  go_wp2
  go_ret
  exact ⟨by simp, rfl⟩
set_option maxRecDepth 100000 in
theorem less_any {W : World} {x y : Int} : Calls Try.prog 77 #[.int .i64 x, .int .i64 y] W fun e w' => e = .returned (.bool (decide (x < y))) ∧ w' = W := by
  go_enter Try.func77, Try.ntmps77
  go_wp2_with fail
  refine isNaN_c.mono ?_
  rintro _ _ ⟨rfl, rfl⟩
  go_wp2
  go_ret
  exact ⟨rfl, rfl⟩
def posC (l : List Int) (x : Int) : Nat := l.countP (· < x)
theorem NRow.cells {W : World} {p : Option Addr} {c : Nat} {l : List Int} (h : NRow W p c l) {k : Nat} (hk : k < l.length) : ∃ g o, p = some ⟨g, o, none⟩ ∧ ∀ j, j < l.length → W.cell? ⟨g, o + j, none⟩ = some (.int .i64 (l.getD j 0)) := by
  obtain ⟨g, o, e, _⟩ := h.at hk rfl
  refine ⟨g, o, e, fun j hj => ?_⟩
  obtain ⟨g', o', e', hc⟩ := h.at hj rfl
  rw [e] at e'
  simp only [Option.some.injEq, Addr.mk.injEq, and_true] at e'
  obtain ⟨rfl, rfl⟩ := e'
  rw [hc, getElem!_pos l j hj]
  simp [List.getD, hj]
set_option maxHeartbeats 4000000 in
set_option maxRecDepth 1000000 in
theorem bs_any {W : World} {p : Option Addr} {n c : Nat} {zs : List Int} {x : Int} (h : NRow W p c zs) (hn : zs.length = n) (hbig : n < 4611686018427387904) (hs : zs.Pairwise (· ≤ ·)) {rp : Nat} {rb : Bool} (hp : posC zs x = rp) (hrb : decide (x ∈ zs) = rb) :
    Calls Try.prog 54 #[.slice p n c, .int .i64 x] W fun e w' => e = .returned (.tuple #[.int .i64 (rp : Int), .bool rb]) ∧ Below W.heap.size W w' := by
  have S : Hid (∀ a b, a ≤ b → b < n → zs.getD a 0 ≤ zs.getD b 0) := hide (Lib.sorted_at zs n (by omega) (by rw [List.take_of_length_le (by omega)]; exact hs))
  have hle := h.le
  have htop := h.top
  rw [hn] at hle
  have HC := hide h
  have HN := hide hn
  have HP := hide hp
  have HRB := hide hrb
  have hz : n ≤ zs.length := by omega
  clear hs h hp hrb
  go_enter Try.func54, Try.ntmps54
  go_wp2
  go_loopg [7, 8] n (fun g s7 s8 wr => ∃ lo hi : Nat, s7 = .int .i64 lo ∧ s8 = .int .i64 hi ∧ lo ≤ hi ∧ hi ≤ n ∧ hi - lo ≤ g ∧ Hid (Below W.heap.size W wr) ∧ (∀ t, t < lo → zs.getD t 0 < x) ∧ (∀ t, hi ≤ t → t < n → x ≤ zs.getD t 0))
  case atStart => exact ⟨0, n, rfl, rfl, Nat.zero_le _, Nat.le_refl _, by omega, hide (Below.refl _ _), fun t ht => absurd ht (Nat.not_lt_zero _), fun t h1 h2 => by omega⟩
  case round =>
    obtain ⟨lo, hi, rfl, rfl, hlh, hin, hg, HB, h1, h2⟩ := hrel
    rename World => wr
    have I : Hid ((∀ t, t < lo → zs.getD t 0 < x) ∧ (∀ t, hi ≤ t → t < n → x ≤ zs.getD t 0)) := ⟨h1, h2⟩
    clear h1 h2
    by_cases hlt : lo < hi
    · obtain ⟨gb, off, rfl, hc⟩ := (HC.out.later HB.out).cells (k := 0) (by omega)
      have cm : wr.cell? ⟨gb, off + (lo + hi) / 2, none⟩ = some (.int .i64 (zs.getD ((lo + hi) / 2) 0)) := hc _ (by omega)
      clear hc
      obtain ⟨y, hy⟩ : ∃ y, zs.getD ((lo + hi) / 2) 0 = y := ⟨_, rfl⟩
      rw [hy] at cm
      have Y := hide hy
      clear hy
      by_cases hyx : y < x
      · have d1 : decide (y < x) = true := decide_eq_true hyx
        go_wp2_with fail
        refine less_any.mono ?_
        rintro _ _ ⟨rfl, rfl⟩
        go_wp2
        go_roundg (hi - ((lo + hi) / 2 + 1))
        case measure => omega
        case rel =>
          refine ⟨(lo + hi) / 2 + 1, hi, by rw [show ((lo : Int) + (hi : Int)) / 2 + 1 = (((lo + hi) / 2 + 1 : Nat) : Int) by omega], rfl, by omega, hin, Nat.le_refl _, HB, fun t ht => ?_, I.out.2⟩
          have := S.out t ((lo + hi) / 2) (by omega) (by omega)
          rw [Y.out] at this
          omega
      · have d1 : decide (y < x) = false := decide_eq_false hyx
        go_wp2_with fail
        refine less_any.mono ?_
        rintro _ _ ⟨rfl, rfl⟩
        go_wp2
        go_roundg ((lo + hi) / 2 - lo)
        case measure => omega
        case rel =>
          refine ⟨lo, (lo + hi) / 2, rfl, by rw [show ((lo : Int) + (hi : Int)) / 2 = (((lo + hi) / 2 : Nat) : Int) by omega], by omega, by omega, Nat.le_refl _, HB, I.out.1, fun t ht htn => ?_⟩
          have := S.out ((lo + hi) / 2) t ht htn
          rw [Y.out] at this
          omega
    · have : hi = lo := by omega
      subst this
      obtain ⟨e1, e2⟩ := Lib.search_end zs n hi x hz hin I.out.1 I.out.2 S.out
      rw [List.take_of_length_le (by omega)] at e1 e2
      have E : Hid (rp = hi ∧ rb = decide (hi < n ∧ zs.getD hi 0 = x)) := hide ⟨by rw [← HP.out]; exact e1, by rw [← HRB.out, ← e2, List.contains_eq_mem]⟩
      clear e1 e2
      by_cases hn2 : hi < n
      · obtain ⟨gb, off, rfl, hc⟩ := (HC.out.later HB.out).cells (k := 0) (by omega)
        have cl : wr.cell? ⟨gb, off + hi, none⟩ = some (.int .i64 (zs.getD hi 0)) := hc _ (by omega)
        clear hc
        obtain ⟨y, hy⟩ : ∃ y, zs.getD hi 0 = y := ⟨_, rfl⟩
        rw [hy] at cl
        have Y := hide hy
        clear hy
        by_cases hyx : y = x
        · have d1 : (y == x) = true := by simpa using hyx
          have HYX := hide hyx
          clear hyx
          go_wp2
          go_ret2
          refine ⟨?_, HB.out⟩
          rw [E.out.1, E.out.2, Y.out, decide_eq_true (show hi < n ∧ y = x from ⟨hn2, HYX.out⟩)]
          first | rfl | simp [*]
        · have d1 : (y == x) = false := by simpa using hyx
          have HYX := hide hyx
          clear hyx
          go_wp2_with fail
          refine isNaN_s.mono ?_
          rintro _ _ ⟨rfl, rfl⟩
          go_wp2
          go_ret2
          refine ⟨?_, HB.out⟩
          rw [E.out.1, E.out.2, Y.out, decide_eq_false (show ¬ (hi < n ∧ y = x) from fun h => HYX.out h.2)]
          first | rfl | simp [*]
      · go_wp2
        go_ret2
        refine ⟨?_, HB.out⟩
        rw [E.out.1, E.out.2, decide_eq_false (show ¬ (hi < n ∧ zs.getD hi 0 = x) from fun h => hn2 h.1)]
        first | rfl | simp [*]
theorem ins_pos : ∀ (l : List Int), l.Pairwise (· < ·) → ∀ x, insI x l = l.take (posC l x) ++ x :: l.drop (posC l x)
  | [], _, x => rfl
  | a :: l, h, x => by
    obtain ⟨h1, h2⟩ := List.pairwise_cons.1 h
    unfold insI posC
    by_cases ha : a < x
    · rw [if_pos ha, List.countP_cons_of_pos (by simpa using ha), List.take_succ_cons, List.drop_succ_cons, ins_pos l h2 x]
      rfl
    · have h0 : l.countP (· < x) = 0 := by
        rw [List.countP_eq_zero]
        intro y hy
        have := h1 y hy
        simp
        omega
      rw [if_neg ha, List.countP_cons_of_neg (by simpa using ha), h0]
      rfl
theorem posC_le (l : List Int) (x : Int) : posC l x ≤ l.length := List.countP_le_length
theorem step_append_where {P : Program} {ops : Array Oper} {o : Oper} {a : Act} {w : World} {K : Act → World → Prop} {Q : Exit → Act → World → Prop} {E : Prop} (hgd : o.guard = none) (s x : Operand) (t : TypeId)
    (ho : o.op = .call { callee := .builtin .append, args := #[s, x], argTypes := #[t, t] })
    (base : Nat) (e : TypeId) (i : TypeInfo) (z : Value) (size bytes : Nat) (ht : P.underlying t = some (.slice e)) (hi : P.info? e = some i) (hz : i.zero = some z)
    (hsize : i.size = size) (hby : i.bytes = bytes) (hzs : z.cells.size = size) (hsz : 0 < size)
    (v : Value) (n : Nat) (xs : List Value) (hs : a.eval s = v) (hown : w.ownsRow base e size v n xs)
    (vx : Value) (m : Nat) (news : List Value) (hx : a.eval x = vx) (hseg : Seg w size vx m news) (h63 : n + m ≤ maxLen) (hbytes : (n + m) * bytes ≤ 140737488355328) (hbase : base ≤ w.heap.size)
    (h : ∀ p' c' w', w'.ownsRow base e size (.slice p' (n + m) c') (n + m) (xs ++ news) → w.grownBy w' v.ownBlock → ((Value.slice p' (n + m) c').ownBlock = v.ownBlock ∨ (Value.slice p' (n + m) c').ownBlock = some w.heap.size) → K (a.put o.dst (.slice p' (n + m) c')) w') :
    if Region.wanted o (yielded ops a.tmps) = true then Oper.wp P o a w K Q else E := by
  have hw : Region.wanted o (yielded ops a.tmps) = true := by simp [Region.wanted, hgd]
  rw [if_pos hw]
  obtain ⟨p, c, rfl, h1, h2, h3, h4, h5, h6⟩ := hseg
  cases p with
  | none =>
    obtain rfl : c = 0 := h5 rfl
    obtain rfl : m = 0 := by omega
    obtain rfl : news = [] := List.eq_nil_of_length_eq_zero (by omega)
    obtain ⟨p', c', rfl, _, _⟩ := own_form hown
    have hrun := run_append_owned_none (P := P) (w := w) base t o.type e i size ht hi (.slice p' n c') n xs hown
    have := h p' c' w (by simpa using hown) ⟨rfl, rfl, rfl, Nat.le_refl _, fun _ _ _ => rfl⟩ (.inl rfl)
    unfold Oper.wp
    simp [execOp, ho, resolve, invoke, builtin, hs, hx, hrun, Result.andThen]
    exact this
  | some ad =>
    obtain ⟨v', w', hr, g2, g3, _, g5⟩ := run_append_own_at (P := P) w base t o.type e i z size bytes ht hi hz hsize hby hzs hsz v n xs hown ad m c news h3 (h6 ad rfl) h4 h63 hbytes hbase
    obtain ⟨p', c', rfl, _, _⟩ := own_form g2
    unfold Oper.wp
    simp [execOp, ho, resolve, invoke, builtin, hs, hx, hr, Result.andThen]
    exact h p' c' w' g2 g3 g5
theorem wp_append_where {P : Program} (w : World) {o : Oper} {a : Act} {K : Act → World → Prop} {Q : Exit → Act → World → Prop} (s x : Operand) (t : TypeId)
    (ho : o.op = .call { callee := .builtin .append, args := #[s, x], argTypes := #[t, t] })
    (base : Nat) (e : TypeId) (i : TypeInfo) (z : Value) (size bytes : Nat) (ht : P.underlying t = some (.slice e)) (hi : P.info? e = some i) (hz : i.zero = some z)
    (hsize : i.size = size) (hby : i.bytes = bytes) (hzs : z.cells.size = size) (hsz : 0 < size)
    (v : Value) (n : Nat) (xs : List Value) (hs : a.eval s = v) (hown : w.ownsRow base e size v n xs)
    (vx : Value) (m : Nat) (news : List Value) (hx : a.eval x = vx) (hseg : Seg w size vx m news) (h63 : n + m ≤ maxLen) (hbytes : (n + m) * bytes ≤ 140737488355328) (hbase : base ≤ w.heap.size)
    (h : ∀ p' c' w', w'.ownsRow base e size (.slice p' (n + m) c') (n + m) (xs ++ news) → w.grownBy w' v.ownBlock → ((Value.slice p' (n + m) c').ownBlock = v.ownBlock ∨ (Value.slice p' (n + m) c').ownBlock = some w.heap.size) → K (a.put o.dst (.slice p' (n + m) c')) w') :
    o.wp P a w K Q := by
  obtain ⟨p, c, rfl, h1, h2, h3, h4, h5, h6⟩ := hseg
  cases p with
  | none =>
    obtain rfl : c = 0 := h5 rfl
    obtain rfl : m = 0 := by omega
    obtain rfl : news = [] := List.eq_nil_of_length_eq_zero (by omega)
    obtain ⟨p', c', rfl, _, _⟩ := own_form hown
    have hrun := run_append_owned_none (P := P) (w := w) base t o.type e i size ht hi (.slice p' n c') n xs hown
    have := h p' c' w (by simpa using hown) ⟨rfl, rfl, rfl, Nat.le_refl _, fun _ _ _ => rfl⟩ (.inl rfl)
    unfold Oper.wp
    simp [execOp, ho, resolve, invoke, builtin, hs, hx, hrun, Result.andThen]
    exact this
  | some ad =>
    obtain ⟨v', w', hr, g2, g3, _, g5⟩ := run_append_own_at (P := P) w base t o.type e i z size bytes ht hi hz hsize hby hzs hsz v n xs hown ad m c news h3 (h6 ad rfl) h4 h63 hbytes hbase
    obtain ⟨p', c', rfl, _, _⟩ := own_form g2
    unfold Oper.wp
    simp [execOp, ho, resolve, invoke, builtin, hs, hx, hr, Result.andThen]
    exact h p' c' w' g2 g3 g5
theorem append_where {P : Program} (w : World) {ops : Array Oper} {rest : List Oper} {o : Oper} {a : Act} {Q : Exit → Act → World → Prop} (hgd : o.guard = none) (s x : Operand) (t : TypeId)
    (ho : o.op = .call { callee := .builtin .append, args := #[s, x], argTypes := #[t, t] })
    (base : Nat) (e : TypeId) (i : TypeInfo) (z : Value) (size bytes : Nat) (ht : P.underlying t = some (.slice e)) (hi : P.info? e = some i) (hz : i.zero = some z)
    (hsize : i.size = size) (hby : i.bytes = bytes) (hzs : z.cells.size = size) (hsz : 0 < size)
    (v : Value) (n : Nat) (xs : List Value) (hs : a.eval s = v) (hown : w.ownsRow base e size v n xs)
    (vx : Value) (m : Nat) (news : List Value) (hx : a.eval x = vx) (hseg : Seg w size vx m news) (h63 : n + m ≤ maxLen) (hbytes : (n + m) * bytes ≤ 140737488355328) (hbase : base ≤ w.heap.size)
    (h : ∀ p' c' w', w'.ownsRow base e size (.slice p' (n + m) c') (n + m) (xs ++ news) → w.grownBy w' v.ownBlock → ((Value.slice p' (n + m) c').ownBlock = v.ownBlock ∨ (Value.slice p' (n + m) c').ownBlock = some w.heap.size) → wpList P ops Q rest (a.put o.dst (.slice p' (n + m) c')) w') : wpList P ops Q (o :: rest) a w :=
  wpList_plain hgd fun _ hK => wp_append_where w s x t ho base e i z size bytes ht hi hz hsize hby hzs hsz v n xs hs hown vx m news hx hseg h63 hbytes hbase fun p' c' w' h2 h3 h4 => hK _ _ (h p' c' w' h2 h3 h4)
theorem run_copyK {P : Program} {size : Nat} (w : World) (dT sT ty elem : TypeId) (g o dLen dCap : Nat) (a : Addr) (sLen sCap : Nat) (cur : Array Value) (t : TypeId) (cs : List Value) (n : Nat)
    (hu : P.underlying dT = some (.slice elem)) (hs : (P.info? elem).map (·.size) = some size)
    (hg : w.heap[g]? = some (.cells cur t (0, 0))) (hn : Nat.min sLen dLen = n) (hl : cs.length = n * size)
    (hsrc : ∀ j v, cs[j]? = some v → w.cell? (a.add j) = some v) (hfit : o + cs.length ≤ cur.size) (h1 : ∀ v ∈ cs, v.oneCell' = true) :
    (Builtin.copy_ #[dT, sT] ty #[.slice (some ⟨g, o, none⟩) dLen dCap, .slice (some a) sLen sCap]).run P w =
      .ok (goInt n) (w.setRow g (cur.toList.take o ++ cs ++ cur.toList.drop (o + cs.length)).toArray) := by
  have hld := run_loadCells_list (P := P) w a cs hsrc
  have hst := run_storeCells_at P g o t cs 0 cur w hg (by simpa using hfit) h1
  rw [hl] at hld
  cases hq : P.info? elem with
  | none => simp [hq] at hs
  | some i =>
    have hi : i.size = size := by simpa [hq] using hs
    simp [Builtin.copy_, run_underlying hu, Builtin.lenOf, Builtin.firstCells, sizeOf, typeInfo, hq, hi, hn, hld, hst]
theorem step_copy_run {P : Program} {ops : Array Oper} {o : Oper} {a : Act} {w : World} {K : Act → World → Prop} {Q : Exit → Act → World → Prop} {E : Prop}
    (hg : o.guard = none) (d x : Operand) (dT sT : TypeId) (hop : o.op = Op.call { callee := Callee.builtin Builtin.copy, args := #[d, x], argTypes := #[dT, sT] })
    (v u : Value) (hd : a.eval d = v) (hx : a.eval x = u) {v' : Value} {w' : World} (hr : (Builtin.copy_ #[dT, sT] o.type #[v, u]).run P w = .ok v' w') (hK : K (a.put o.dst v') w') :
    if Region.wanted o (yielded ops a.tmps) = true then Oper.wp P o a w K Q else E := by
  have hw : Region.wanted o (yielded ops a.tmps) = true := by simp [Region.wanted, hg]
  rw [if_pos hw]
  unfold Oper.wp
  simp [execOp, hop, resolve, invoke, builtin, hd, hx, hr, Result.andThen]
  exact hK
theorem in_map (l : List Int) : l.flatMap intCells = l.map (Value.int .i64) := by
  induction l with
  | nil => rfl
  | cons a l ih => rw [List.flatMap_cons, ih]; rfl
theorem in_one (ks : List Int) : ∀ u ∈ ks.flatMap intCells, u.oneCell' = true := by
  rw [in_map]
  intro u hu
  obtain ⟨x, _, rfl⟩ := List.mem_map.1 hu
  rfl
theorem in_len (ks : List Int) : (ks.flatMap intCells).length = ks.length := by rw [in_map, List.length_map]
theorem in_take (ks : List Int) (i : Nat) : (ks.flatMap intCells).take i = (ks.take i).flatMap intCells := by rw [in_map, in_map, List.map_take]
theorem in_drop (ks : List Int) (i : Nat) : (ks.flatMap intCells).drop i = (ks.drop i).flatMap intCells := by rw [in_map, in_map, List.map_drop]
theorem only_row {g : Nat} {cs : Array Value} (w : World) : Only (· = g) w (w.setRow g cs) := ⟨rfl, rfl, rfl, by simp [World.setRow], fun k _ hk => setRow_other w g k cs (fun e => hk (by simp [e]))⟩
def InP (p : Option Addr) (i : Nat) : Prop := ∃ a, p = some a ∧ i = a.block
theorem InP.of {p : Option Addr} {n c i : Nat} (h : (Value.slice p n c).ownBlock = some i) : InP p i := by
  cases p with
  | none => simp [Value.ownBlock] at h
  | some a => exact ⟨a, rfl, by simpa [Value.ownBlock] using h.symm⟩
set_option maxRecDepth 100000 in
theorem insert_end {W : World} {base n vb : Nat} {p : Option Addr} {cap : Nat} {ks : List Int} {k0 : Int} (h : W.ownsRow base 2 1 (.slice p n cap) n (ks.flatMap intCells)) (hv : W.heap[vb]? = some (.cells #[.int .i64 k0] 2 (0, 0))) (hb : (n + 1) * 8 ≤ 140737488355328) (hbase : base ≤ W.heap.size) :
    Calls Try.prog 55 #[.slice p n cap, .int .i64 (n : Int), .slice (some ⟨vb, 0, none⟩) 1 1] W fun e w' => ∃ p' c', e = .returned (.slice p' (n + 1) c') ∧ w'.ownsRow base 2 1 (.slice p' (n + 1) c') (n + 1) ((ks ++ [k0]).flatMap intCells) ∧ Only (InP p) W w' ∧ (∀ a, p' = some a → InP p a.block ∨ W.heap.size ≤ a.block) := by
  obtain ⟨i0, hI0, hz0, hz1, hz2⟩ := info_parts Try.infoN
  obtain ⟨_, _, ef, i1, i2⟩ := own_form h
  simp only [Value.slice.injEq, true_and] at ef
  obtain ⟨rfl, rfl⟩ := ef
  have HK1 : Hid (n + 1 ≤ maxLen) := by show _ ≤ _; unfold maxLen; omega
  have HK2 : Hid ((n + 1) * 8 ≤ 140737488355328) := hb
  have HR := hide h
  have HV := hide hv
  have HBA := hide hbase
  have q1 : (n : Int) ≤ (n : Int) := by omega
  clear h hv hbase
  go_enter Try.func55, Try.ntmps55
  go_wp2_with (at_builtin; refine append_where _ rfl (.tmp 23) (.tmp 24) 32 rfl base 2 i0 (.int .i64 0) 1 8 Try.underlying32 hI0 hz0 hz1 hz2 rfl (by decide) (.slice p n cap) n _ rfl HR.out (.slice (some ⟨vb, 0, none⟩) 1 1) 1 [.int .i64 k0] rfl (Seg.news HV.out (by simp [Value.oneCell']) rfl (Nat.le_refl _) (by decide)) HK1.out HK2.out HBA.out ?_)
  all_goals
    intro p4 c4 w4 o4 g4 k4
    have HK4 : Hid (∀ a, p4 = some a → InP p a.block ∨ W.heap.size ≤ a.block) := hide (fun a e => by
      subst e
      rcases k4 with h9 | h9
      · exact .inl (InP.of (h9.symm.trans rfl))
      · have h8 : a.block = W.heap.size := by simpa [Value.ownBlock] using h9
        exact .inr (by omega))
    have HO4 : Hid (w4.ownsRow base 2 1 (.slice p4 (n + 1) c4) (n + 1) ((ks ++ [k0]).flatMap intCells)) := hide (by rw [List.flatMap_append]; exact o4)
    have HG4 : Hid (Only (InP p) W w4) := hide (Only.of_grown g4 (fun _ e => InP.of e))
    clear o4 g4 k4
    go_wp2
    go_ret
    exact ⟨p4, c4, rfl, HO4.out, HG4.out, HK4.out⟩
set_option maxRecDepth 100000 in
set_option maxHeartbeats 2000000 in
theorem insert_room {W : World} {base n vb g i cap : Nat} {ks : List Int} {k0 : Int} (h : W.ownsRow base 2 1 (.slice (some ⟨g, 0, none⟩) n cap) n (ks.flatMap intCells)) (hn : ks.length = n) (hv : W.heap[vb]? = some (.cells #[.int .i64 k0] 2 (0, 0))) (hvg : vb ≠ g) (hi : i < n) (hc : n + 1 ≤ cap) :
    Calls Try.prog 55 #[.slice (some ⟨g, 0, none⟩) n cap, .int .i64 (i : Int), .slice (some ⟨vb, 0, none⟩) 1 1] W fun e w' => ∃ p' c', e = .returned (.slice p' (n + 1) c') ∧ w'.ownsRow base 2 1 (.slice p' (n + 1) c') (n + 1) ((ks.take i ++ k0 :: ks.drop i).flatMap intCells) ∧ Only (InP (some ⟨g, 0, none⟩)) W w' ∧ (∀ a, p' = some a → InP (some ⟨g, 0, none⟩) a.block ∨ W.heap.size ≤ a.block) := by
  obtain ⟨i0, hI0, hz0, hz1, hz2⟩ := info_parts Try.infoN
  rcases h.2 with ⟨e', _⟩ | ⟨g', cap', cur, e', hbg, hg, hnc, hcm, hcs, htk⟩
  · cases e'
  · simp only [Value.slice.injEq, Option.some.injEq, Addr.mk.injEq, and_true, true_and] at e'
    obtain ⟨rfl, rfl⟩ := e'
    have hsz : (Try.prog.info? 2).map (·.size) = some 1 := by rw [hI0]; simp [hz1]
    have hdl : ((ks.drop i).flatMap intCells).length = (n - i) := by rw [in_len, List.length_drop, hn]
    have hcur : ∀ j v, (ks.flatMap intCells)[j]? = some v → W.cell? ⟨g, j, none⟩ = some v := fun j v hj => by
      have hjl : j < n := by have := (List.getElem?_eq_some_iff.1 hj).1; rw [in_len, hn] at this; exact this
      rw [h.cellAt j (by omega)]; exact hj
    have hmax : cap ≤ 9223372036854775807 := by unfold maxLen at hcm; omega
    -- what the first copy leaves
    obtain ⟨cur1, hcur1⟩ : ∃ cur1, cur1 = (cur.toList.take (i + 1) ++ (ks.drop i).flatMap intCells ++ cur.toList.drop ((i + 1) + ((ks.drop i).flatMap intCells).length)).toArray := ⟨_, rfl⟩
    have hs1 : cur1.size = cur.size := by
      rw [hcur1, List.size_toArray, List.length_append, List.length_append, List.length_take, List.length_drop, hdl, Array.length_toList, hcs]
      omega
    have r1 : ∀ ty dc sc, (Builtin.copy_ #[32, 32] ty #[.slice (some ⟨g, (i + 1), none⟩) (n - i) dc, .slice (some ⟨g, i, none⟩) (n + 1 - i) sc]).run Try.prog W.drew = .ok (goInt ((n - i : Nat))) (W.drew.setRow g cur1) := fun ty dc sc => by
      have := run_copyK (P := Try.prog) (size := 1) W.drew 32 32 ty 2 g (i + 1) (n - i) dc ⟨g, i, none⟩ (n + 1 - i) sc cur 2 ((ks.drop i).flatMap intCells) (n - i) Try.underlying32 hsz hg (by simp only [Nat.min_def]; split <;> omega) (by rw [hdl]; omega) (fun j v hj => by
        rw [Go.WideShapes.add_plain]
        have h2 := hcur (i + j) v (by rw [← List.getElem?_drop, in_drop]; exact hj)
        exact h2) (by rw [hdl, hcs]; omega) (in_one _)
      rw [hcur1]
      exact this
    obtain ⟨W1, hW1⟩ : ∃ W1, W1 = W.drew.setRow g cur1 := ⟨_, rfl⟩
    have hg1 : W1.heap[g]? = some (.cells cur1 2 (0, 0)) := by rw [hW1]; exact setRow_heap W.drew g cur _ _ _ hg
    have ho1 : Only (· = g) W W1 := by rw [hW1]; exact (Only.refl _ W).drew.trans (only_row _)
    have hv1 : W1.heap[vb]? = some (.cells #[.int .i64 k0] 2 (0, 0)) := ho1.obj hv (fun e => hvg e)
    obtain ⟨cur2, hcur2⟩ : ∃ cur2 : Array Value, cur2 = (cur1.toList.take i ++ [Value.int .i64 k0] ++ cur1.toList.drop (i + 1)).toArray := ⟨_, rfl⟩
    have r2 : ∀ ty dc, (Builtin.copy_ #[32, 32] ty #[.slice (some ⟨g, i, none⟩) (n + 1 - i) dc, .slice (some ⟨vb, 0, none⟩) 1 1]).run Try.prog W1 = .ok (goInt 1) (W1.setRow g cur2) := fun ty dc => by
      have := run_copyK (P := Try.prog) (size := 1) W1 32 32 ty 2 g i (n + 1 - i) dc ⟨vb, 0, none⟩ 1 1 cur1 2 [.int .i64 k0] 1 Try.underlying32 hsz hg1 (by simp only [Nat.min_def]; split <;> omega) rfl (World.news_of_block hv1) (by rw [hs1, hcs]; simp; omega) (by simp [Value.oneCell'])
      rw [hcur2]
      exact this
    have htake : cur2.toList.take (n + 1) = (ks.take i ++ k0 :: ks.drop i).flatMap intCells := by
      have hci : cur.toList.take i = (ks.take i).flatMap intCells := by
        rw [← in_take, ← htk, List.take_take, Nat.min_eq_left (by omega)]
      have h1 : cur1.toList.take i = (ks.take i).flatMap intCells := by
        rw [hcur1]
        dsimp only
        rw [List.append_assoc, List.take_append_of_le_length (by rw [List.length_take, Array.length_toList, hcs]; omega), List.take_take, Nat.min_eq_left (by omega), hci]
      have h2 : cur1.toList.drop (i + 1) = (ks.drop i).flatMap intCells ++ cur.toList.drop ((i + 1) + ((ks.drop i).flatMap intCells).length) := by
        rw [hcur1]
        dsimp only
        rw [List.append_assoc, List.drop_append_of_le_length (by rw [List.length_take, Array.length_toList, hcs]; omega), List.drop_of_length_le (by rw [List.length_take]; omega), List.nil_append]
      rw [hcur2]
      dsimp only
      rw [h1, h2, List.flatMap_append, List.flatMap_cons]
      have e3 : intCells k0 = [.int .i64 k0] := rfl
      rw [e3, ← List.append_assoc, List.take_append_of_le_length (by
        rw [List.length_append, List.length_append, hdl, in_len, List.length_take, hn]
        simp
        omega), List.take_of_length_le (by
        rw [List.length_append, List.length_append, hdl, in_len, List.length_take, hn]
        simp
        omega), List.append_assoc]
    have HOW : Hid ((W1.setRow g cur2).ownsRow base 2 1 (.slice (some ⟨g, 0, none⟩) (n + 1) cap) (n + 1) ((ks.take i ++ k0 :: ks.drop i).flatMap intCells)) := by
      refine hide ⟨by rw [in_len, List.length_append, List.length_cons, List.length_take, List.length_drop, hn]; omega, .inr ⟨g, cap, cur2, rfl, hbg, setRow_heap W1 g cur1 _ _ _ hg1, hc, hcm, ?_, by rw [Nat.mul_one]; exact htake⟩⟩
      rw [hcur2, List.size_toArray, List.length_append, List.length_append, List.length_take, List.length_drop, Array.length_toList, hs1, hcs]
      simp
      omega
    have HON : Hid (Only (InP (some ⟨g, 0, none⟩)) W (W1.setRow g cur2)) := hide ((ho1.trans (only_row _)).mono (fun j _ e => ⟨_, rfl, e⟩))
    have hzz : ∀ w, (Go.sizeOf 2).run Try.prog w = .ok 1 w := fun w => by simp [sizeOf, typeInfo, hI0, hz1]
    have rov : ∀ dc, (callFunc 79 #[.slice (some ⟨vb, 0, none⟩) 1 1, .slice (some ⟨g, (i + 1), none⟩) (n - i) dc]).run Try.prog W = .ok (.value (.bool false)) W := fun dc => by
      rw [run_callFunc_extern Try.func79 (by kernel_rfl) (by kernel_rfl) (by kernel_rfl) (e := Extern.SlicesOverlaps.overlaps #[32, 32] #[4]) (by kernel_rfl),
        Lib.run_overlaps_apart W 32 4 2 Try.underlying32 1 hzz ⟨vb, 0, none⟩ ⟨g, (i + 1), none⟩ 1 1 (n - i) dc hvg 2 2 1 cur.size (by simp [World.shape?, hv]) (by simp [World.shape?, hg]) (by rw [hcs]; omega) (by simp [World.frozen?, hv]) (by simp [World.frozen?, hv])]
      rfl
    have HR1 := hide r1
    have HR2 := hide r2
    have hic : ¬ cap = i := by omega
    have hic1 : ¬ cap = i + 1 := by omega
    have q1 : ((i : Int) == (n : Int)) = false := by simpa using (by omega : ¬ (i : Int) = n)
    have q2 : decide ((n : Int) + 1 > (cap : Int)) = false := decide_eq_false (by omega)
    have q3 : (i : Int) ≤ n := by omega
    have q4 : (n : Int) + 1 ≤ cap := by omega
    have q5 : (i : Int) + 1 ≤ (n : Int) + 1 := by omega
    have q6 : (i : Int) ≤ (n : Int) + 1 := by omega
    have qw : IntKind.i64.wrap ((i : Int) + 1) = (i : Int) + 1 := by rw [IntKind.wrap_i64]; omega
    have qz : (0 : Int) ≤ (i : Int) + 1 := by omega
    have qt : ((i : Int) + 1).toNat = i + 1 := by omega
    have qs : n + 1 - (i + 1) = n - i := by omega
    clear h hcur hg1 ho1 hv1 htake hcur1 hcur2 hs1 htk hdl r1 r2
    go_enter Try.func55, Try.ntmps55
    go_upto_region 15 with fail
    go_region_law (refine step_copy_run rfl (.tmp 73) (.tmp 76) 32 32 rfl (.slice (some ⟨g, (i + 1), none⟩) (n - i) (cap - (i + 1))) (.slice (some ⟨g, i, none⟩) (n + 1 - i) (cap - i)) (by simp [Act.eval, Act.put]) (by simp [Act.eval, Act.put]) (HR1.out _ _ _) ?_)
    all_goals
      rw [← hW1]
      clear hW1
      have r2' := HR2.out
      go_wp2
      go_ret
      exact ⟨_, _, rfl, HOW.out, HON.out, fun a e => .inl ⟨a, e, rfl⟩⟩
theorem append_run {P : Program} (w : World) {ops : Array Oper} {rest : List Oper} {o : Oper} {a : Act} {Q : Exit → Act → World → Prop} (hgd : o.guard = none) (d s : Operand) (t t' : TypeId)
    (ho : o.op = .call { callee := .builtin .append, args := #[d, s], argTypes := #[t, t'] }) (v u : Value) (hd : a.eval d = v) (hs : a.eval s = u) {v' : Value} {w' : World}
    (hr : (Builtin.append_ #[t, t'] o.type #[v, u]).run P w = .ok v' w') (h : wpList P ops Q rest (a.put o.dst v') w') : wpList P ops Q (o :: rest) a w :=
  wpList_plain hgd fun _ hK => by
    unfold Oper.wp execOp
    simp only [ho, resolve, invoke, builtin, Sem.run_bind, Sem.run_pure, Result.andThen_ok, List.map_toArray, List.map_cons, List.map_nil, hd, hs, hr]
    exact hK _ _ h
theorem zero_len3 (k : Nat) : (Builtin.zeroCells (Value.int .i64 0).cells k).toList.length = k := by
  simp [Builtin.zeroCells, Value.cells]
set_option maxRecDepth 100000 in
set_option maxHeartbeats 2000000 in
theorem insert_grow {W : World} {base n vb g i cap : Nat} {ks : List Int} {k0 : Int} (h : W.ownsRow base 2 1 (.slice (some ⟨g, 0, none⟩) n cap) n (ks.flatMap intCells)) (hn : ks.length = n) (hv : W.heap[vb]? = some (.cells #[.int .i64 k0] 2 (0, 0))) (hi : i < n) (hc : cap < n + 1) (hb : (n + 1) * 8 ≤ 140737488355328) (hbase : base ≤ W.heap.size) :
    Calls Try.prog 55 #[.slice (some ⟨g, 0, none⟩) n cap, .int .i64 (i : Int), .slice (some ⟨vb, 0, none⟩) 1 1] W fun e w' => ∃ p' c', e = .returned (.slice p' (n + 1) c') ∧ w'.ownsRow base 2 1 (.slice p' (n + 1) c') (n + 1) ((ks.take i ++ k0 :: ks.drop i).flatMap intCells) ∧ Only (InP (some ⟨g, 0, none⟩)) W w' ∧ (∀ a, p' = some a → InP (some ⟨g, 0, none⟩) a.block ∨ W.heap.size ≤ a.block) := by
  obtain ⟨i0, hI0, hz0, hz1, hz2⟩ := info_parts Try.infoN
  have hgl := (own_block_lt h (b := g) rfl).1
  have hvl := (Array.getElem?_eq_some_iff.1 hv).1
  obtain ⟨_, _, ef, i1, i2⟩ := own_form h
  simp only [Value.slice.injEq, true_and] at ef
  obtain ⟨rfl, rfl⟩ := ef
  have hsz : (Try.prog.info? 2).map (·.size) = some 1 := by rw [hI0]; simp [hz1]
  have hdl : ((ks.drop i).flatMap intCells).length = (n - i) := by rw [in_len, List.length_drop, hn]
  have htl : ((ks.take i).flatMap intCells).length = i := by rw [in_len, List.length_take, hn]; omega
  have hcur : ∀ j v, (ks.flatMap intCells)[j]? = some v → W.cell? ⟨g, j, none⟩ = some v := fun j v hj => by
    have hjl : j < n := by have := (List.getElem?_eq_some_iff.1 hj).1; rw [in_len, hn] at this; exact this
    rw [h.cellAt j (by omega)]; exact hj
  obtain ⟨G, hG⟩ : ∃ G, G = grownCap W (n + 1) cap 2 := ⟨_, rfl⟩
  have hG1 : n + 1 ≤ G := by rw [hG]; exact grownCap_ge _ _ _ _
  have hG2 : G ≤ maxLen := by rw [hG]; exact grownCap_le_maxLen _ _ _ _ (by unfold maxLen; omega)
  obtain ⟨ROW, hROW⟩ : ∃ ROW : Array Value, ROW = ((ks.take i).flatMap intCells).toArray ++ Builtin.zeroCells (Value.int .i64 0).cells (n + 1 - i) ++ Builtin.zeroCells (Value.int .i64 0).cells (G - (n + 1)) := ⟨_, rfl⟩
  have hRs : ROW.size = G := by
    have z1 := zero_len3 (n + 1 - i)
    have z2 := zero_len3 (G - (n + 1))
    rw [Array.length_toList] at z1 z2
    rw [hROW, Array.size_append, Array.size_append, List.size_toArray, htl, z1, z2]
    omega
  have hRt : ROW.toList.take i = (ks.take i).flatMap intCells := by
    rw [hROW, Array.toList_append, Array.toList_append, List.append_assoc, List.take_append_of_le_length (by show _ ≤ ((ks.take i).flatMap intCells).length; omega), List.take_of_length_le (by show ((ks.take i).flatMap intCells).length ≤ _; omega)]
  have hold : (Builtin.firstCells i0.size i (.slice (some ⟨g, 0, none⟩) i cap)).run Try.prog W.drew = .ok ((ks.take i).flatMap intCells).toArray W.drew := by
    rw [hz1]
    exact run_firstCells_some W.drew 1 i ⟨g, 0, none⟩ i cap ((ks.take i).flatMap intCells) (by rw [htl]; omega) (fun j v hj => by
      rw [Go.WideShapes.add_plain, Nat.zero_add]
      refine hcur j v ?_
      rw [← in_take, List.getElem?_take] at hj
      split at hj
      · exact hj
      · cases hj)
  have hik : i + (n + 1 - i) = n + 1 := by omega
  have hkk : ((n : Int) + 1 - (i : Int)) = ((n + 1 - i : Nat) : Int) := by omega
  obtain ⟨W1, hW1⟩ : ∃ W1, W1 = W.drew.alloc (.cells ROW 2 (0, 0)) := ⟨_, rfl⟩
  have ra : ∀ ty, (Builtin.append_ #[32, 3] ty #[.slice (some ⟨g, 0, none⟩) i cap, .int .i64 ((n : Int) + 1 - (i : Int))]).run Try.prog W = .ok (.slice (some ⟨W.heap.size, 0, none⟩) (n + 1) G) W1 := fun ty => by
    have h3 := Lib.run_append_grow_zeros W 32 3 ty 2 i0 _ .i64 .i64 Try.underlying32 Try.underlying3 hI0 hz0 (some ⟨g, 0, none⟩) i cap ((ks.take i).flatMap intCells) hold (n + 1 - i) (by omega) (by omega) (by omega) (by omega) (by rw [hz2]; omega) (by rw [hz2, hik]; exact growslice_fits hc hb)
    rw [hik] at h3
    rw [hkk, hW1, hROW, hG]
    exact h3
  obtain ⟨N, hN⟩ : ∃ N, W.heap.size = N := ⟨_, rfl⟩
  have HNN := hide hN
  have hB1 : Below W.heap.size W W1 := by rw [hW1]; exact ((Below.refl _ W).drew).alloc (Nat.le_refl _) _
  have hg1 : W1.heap[N]? = some (.cells ROW 2 (0, 0)) := by rw [hW1, ← hN]; exact heap_alloc_new W.drew _
  have hv1 : W1.heap[vb]? = some (.cells #[.int .i64 k0] 2 (0, 0)) := (hB1.block vb hvl).trans hv
  obtain ⟨cur1, hcur1⟩ : ∃ cur1 : Array Value, cur1 = (ROW.toList.take i ++ [Value.int .i64 k0] ++ ROW.toList.drop (i + 1)).toArray := ⟨_, rfl⟩
  have hs1 : cur1.size = G := by
    rw [hcur1, List.size_toArray, List.length_append, List.length_append, List.length_take, List.length_drop, Array.length_toList, hRs]
    simp
    omega
  obtain ⟨W2, hW2⟩ : ∃ W2, W2 = W1.setRow N cur1 := ⟨_, rfl⟩
  have r1 : ∀ ty dc, (Builtin.copy_ #[32, 32] ty #[.slice (some ⟨N, i, none⟩) (n + 1 - i) dc, .slice (some ⟨vb, 0, none⟩) 1 1]).run Try.prog W1 = .ok (goInt 1) W2 := fun ty dc => by
    have := run_copyK (P := Try.prog) (size := 1) W1 32 32 ty 2 N i (n + 1 - i) dc ⟨vb, 0, none⟩ 1 1 ROW 2 [.int .i64 k0] 1 Try.underlying32 hsz hg1 (by simp only [Nat.min_def]; split <;> omega) rfl (World.news_of_block hv1) (by rw [hRs]; simp; omega) (by simp [Value.oneCell'])
    rw [hW2, hcur1]
    exact this
  have hg2 : W2.heap[N]? = some (.cells cur1 2 (0, 0)) := by rw [hW2]; exact setRow_heap W1 N ROW _ _ _ hg1
  have ho2 : Only (· = N) W1 W2 := by rw [hW2]; exact only_row _
  have hc2 : ∀ j v, (ks.flatMap intCells)[j]? = some v → W2.drew.cell? ⟨g, j, none⟩ = some v := fun j v hj => ho2.cell (cell_later hB1 (hcur j v hj)) (fun e => by have e' : g = N := e; omega)
  obtain ⟨cur2, hcur2⟩ : ∃ cur2 : Array Value, cur2 = (cur1.toList.take (i + 1) ++ (ks.drop i).flatMap intCells ++ cur1.toList.drop ((i + 1) + ((ks.drop i).flatMap intCells).length)).toArray := ⟨_, rfl⟩
  have r2 : ∀ ty dc sc, (Builtin.copy_ #[32, 32] ty #[.slice (some ⟨N, (i + 1), none⟩) (n - i) dc, .slice (some ⟨g, i, none⟩) (n - i) sc]).run Try.prog W2.drew = .ok (goInt ((n - i : Nat))) (W2.drew.setRow N cur2) := fun ty dc sc => by
    have := run_copyK (P := Try.prog) (size := 1) W2.drew 32 32 ty 2 N (i + 1) (n - i) dc ⟨g, i, none⟩ (n - i) sc cur1 2 ((ks.drop i).flatMap intCells) (n - i) Try.underlying32 hsz hg2 (by simp only [Nat.min_def]; split <;> omega) (by rw [hdl]; omega) (fun j v hj => by
      rw [Go.WideShapes.add_plain]
      exact hc2 (i + j) v (by rw [← List.getElem?_drop, in_drop]; exact hj)) (by rw [hdl, hs1]; omega) (in_one _)
    rw [hcur2]
    exact this
  have htake : cur2.toList.take (n + 1) = (ks.take i ++ k0 :: ks.drop i).flatMap intCells := by
    have h1 : cur1.toList.take (i + 1) = (ks.take i).flatMap intCells ++ [Value.int .i64 k0] := by
      rw [hcur1]
      dsimp only
      rw [hRt, List.take_append_of_le_length (by rw [List.length_append, htl]; simp), List.take_of_length_le (by rw [List.length_append, htl]; simp)]
    rw [hcur2]
    dsimp only
    rw [h1, List.flatMap_append, List.flatMap_cons]
    have e3 : intCells k0 = [.int .i64 k0] := rfl
    rw [e3, List.take_append_of_le_length (by
      rw [List.length_append, List.length_append, hdl, htl]
      simp
      omega), List.take_of_length_le (by
      rw [List.length_append, List.length_append, hdl, htl]
      simp
      omega), List.append_assoc]
  have HOW : Hid ((W2.drew.setRow N cur2).ownsRow base 2 1 (.slice (some ⟨N, 0, none⟩) (n + 1) G) (n + 1) ((ks.take i ++ k0 :: ks.drop i).flatMap intCells)) := by
    refine hide ⟨by rw [in_len, List.length_append, List.length_cons, List.length_take, List.length_drop, hn]; omega, .inr ⟨N, G, cur2, rfl, by omega, setRow_heap W2.drew N cur1 _ _ _ hg2, hG1, hG2, ?_, by rw [Nat.mul_one]; exact htake⟩⟩
    rw [hcur2, List.size_toArray, List.length_append, List.length_append, List.length_take, List.length_drop, hdl, Array.length_toList, hs1]
    omega
  have HON : Hid (Only (InP (some ⟨g, 0, none⟩)) W (W2.drew.setRow N cur2)) := hide (((Only.fresh hB1 _).step ho2 (fun j e => .inr (by have e' : j = N := e; omega))).step ((Only.refl _ W2).drew.trans (only_row (g := N) _)) (fun j e => .inr (by have e' : j = N := e; omega)))
  have HR2 := hide r2
  have HRA := hide ra
  have hic : ¬ cap = i := by omega
  have hGi : ¬ G = i := by omega
  have hGi1 : ¬ G = i + 1 := by omega
  have q1 : ((i : Int) == (n : Int)) = false := by simpa using (by omega : ¬ (i : Int) = n)
  have q2 : decide ((n : Int) + 1 > (cap : Int)) = true := decide_eq_true (by omega)
  have q3 : (i : Int) ≤ n := by omega
  have q4 : (i : Int) ≤ cap := by omega
  have q5 : (i : Int) + 1 ≤ (n : Int) + 1 := by omega
  have q6 : (i : Int) ≤ (n : Int) + 1 := by omega
  have qw : IntKind.i64.wrap ((i : Int) + 1) = (i : Int) + 1 := by rw [IntKind.wrap_i64]; omega
  have qw2 : IntKind.i64.wrap ((n : Int) + 1 - (i : Int)) = (n : Int) + 1 - (i : Int) := by rw [IntKind.wrap_i64]; omega
  have qz : (0 : Int) ≤ (i : Int) + 1 := by omega
  have qt : ((i : Int) + 1).toNat = i + 1 := by omega
  have qs : n + 1 - (i + 1) = n - i := by omega
  clear h hcur hg1 hv1 htake hcur1 hcur2 hs1 hdl htl r2 ra hG hROW hRs hRt hold hik hkk hW1 hW2 hB1 hg2 ho2 hc2
  go_enter Try.func55, Try.ntmps55
  go_wp2_with (at_builtin; refine append_run _ rfl (.tmp 34) (.tmp 39) 32 3 rfl (.slice (some ⟨g, 0, none⟩) i cap) (.int .i64 ((n : Int) + 1 - (i : Int))) rfl rfl (HRA.out _) ?_)
  try rw [hN]
  try clear hN
  try go_upto_region 11 with fail
  go_region_law (refine step_copy_run rfl (.tmp 50) (.tmp 53) 32 32 rfl (.slice (some ⟨N, (i + 1), none⟩) (n - i) (G - (i + 1))) (.slice (some ⟨g, i, none⟩) (n - i) (cap - i)) (by simp [Act.eval, Act.put]) (by simp [Act.eval, Act.put]) (HR2.out _ _ _) ?_)
  all_goals
    go_wp2
    go_ret
    exact ⟨_, _, rfl, HOW.out, HON.out, fun a e => .inr (by simp only [Option.some.injEq] at e; rw [← e]; exact Nat.le_of_eq HNN.out)⟩
theorem insert_any {W : World} {base n vb i cap : Nat} {p : Option Addr} {ks : List Int} {k0 : Int} (h : W.ownsRow base 2 1 (.slice p n cap) n (ks.flatMap intCells)) (hn : ks.length = n) (hv : W.heap[vb]? = some (.cells #[.int .i64 k0] 2 (0, 0))) (hvg : ∀ a, p = some a → vb ≠ a.block) (hi : i ≤ n) (hb : (n + 1) * 8 ≤ 140737488355328) (hbase : base ≤ W.heap.size) :
    Calls Try.prog 55 #[.slice p n cap, .int .i64 (i : Int), .slice (some ⟨vb, 0, none⟩) 1 1] W fun e w' => ∃ p' c', e = .returned (.slice p' (n + 1) c') ∧ w'.ownsRow base 2 1 (.slice p' (n + 1) c') (n + 1) ((ks.take i ++ k0 :: ks.drop i).flatMap intCells) ∧ Only (InP p) W w' ∧ (∀ a, p' = some a → InP p a.block ∨ W.heap.size ≤ a.block) := by
  by_cases he : i = n
  · subst he
    have e1 : ks.take i ++ k0 :: ks.drop i = ks ++ [k0] := by
      rw [List.take_of_length_le (by omega), List.drop_of_length_le (by omega)]
    rw [e1]
    exact insert_end h hv hb hbase
  · rcases h.2 with ⟨e', h0⟩ | ⟨g, cap', cur, e', _⟩
    · omega
    · simp only [Value.slice.injEq, true_and] at e'
      obtain ⟨rfl, rfl⟩ := e'
      by_cases hc : n + 1 ≤ cap
      · exact insert_room h hn hv (hvg _ rfl) (by omega) hc
      · exact insert_grow h hn hv (by omega) (by omega) hb hbase
end Go.Proofs.Ytboofnkajjnmeaa
