/-
  append of a piece of a row of structs, at a plain operation and as one step of a region that draws its order. The conditions: the piece lies there.
-/
import Derived.Test.YtikpckmlnhcddaaGreatRnw
import Derived.Deep.AppendLies
import Derived.Deep.Cut
import Derived.Deep.CutBlock
import Derived.Test.YtikpckmlnhcddaaGreatQui
namespace Go.Proofs.YtikpckmlnhcddaaGreat
open Go.RowKit Go.Maps

/-- A slice's cells, as they lie. -/
def Seg (w : World) (size : Nat) (v : Value) (m : Nat) (news : List Value) : Prop :=
  ∃ p c, v = .slice p m c ∧ m ≤ c ∧ c ≤ 9223372036854775807 ∧ news.length = m * size ∧ (∀ u ∈ news, u.oneCell' = true) ∧ (p = none → c = 0) ∧ ∀ ad, p = some ad → ∀ j u, news[j]? = some u → w.cell? (ad.add j) = some u

theorem Seg.below {w w' : World} {size m : Nat} {v : Value} {news : List Value} (h : Seg w size v m news) (hb : Below w.heap.size w w') : Seg w' size v m news := by
  obtain ⟨p, c, h1, h2, h3, h4, h5, h6, h7⟩ := h
  exact ⟨p, c, h1, h2, h3, h4, h5, h6, fun ad ha j u hu => cell_later hb (h7 ad ha j u hu)⟩
theorem add_zero_addr (g n : Nat) : (⟨g, 0, none⟩ : Addr).add n = ⟨g, n, none⟩ := by
  have := Go.WideShapes.add_plain g 0 n
  simpa using this
theorem Seg.of_own {w : World} {base e size n cap : Nat} {p : Option Addr} {xs : List Value} (h : w.ownsRow base e size (.slice p n cap) n xs) (h1 : ∀ u ∈ xs, u.oneCell' = true) (hx : xs.length = n * size) {k : Nat} (hk : k ≤ n) : Seg w size (.slice p k cap) k (xs.take (k * size)) := by
  obtain ⟨p', cap', he, g1, g2⟩ := own_form h
  simp only [Value.slice.injEq, true_and] at he
  obtain ⟨rfl, rfl⟩ := he
  have hle : k * size ≤ n * size := Nat.mul_le_mul_right _ hk
  refine ⟨p, cap, rfl, by omega, g2, by rw [List.length_take]; omega, fun u hu => h1 u (List.mem_of_mem_take hu), fun hp => ?_, fun ad ha j u hu => ?_⟩
  · rcases h.2 with ⟨he, _⟩ | ⟨g, cap', cur, he, _⟩
    · simp only [Value.slice.injEq] at he; exact he.2.2
    · simp only [Value.slice.injEq] at he; rw [hp] at he; simp at he
  · rcases h.2 with ⟨he, _⟩ | ⟨g, cap', cur, he, _⟩
    · simp only [Value.slice.injEq] at he; rw [ha] at he; simp at he
    · simp only [Value.slice.injEq] at he
      obtain ⟨hp, _, hc⟩ := he
      rw [ha] at hp
      obtain rfl : ad = ⟨g, 0, none⟩ := by simpa using hp
      subst ha
      have hj : j < k * size := by have := (List.getElem?_eq_some_iff.1 hu).1; rw [List.length_take] at this; omega
      rw [add_zero_addr, h.cellAt j (by omega)]
      rw [List.getElem?_take_of_lt hj] at hu
      exact hu
theorem Seg.of_tail {w : World} {base e size n cap : Nat} {p : Option Addr} {xs : List Value} (h : w.ownsRow base e size (.slice p n cap) n xs) (h1 : ∀ u ∈ xs, u.oneCell' = true) (hx : xs.length = n * size) {k : Nat} (hk : k ≤ n) : Seg w size (.slice (if cap = k then p else Option.map (fun x => x.add (k * size)) p) (n - k) (cap - k)) (n - k) (xs.drop (k * size)) := by
  obtain ⟨p', cap', he, g1, g2⟩ := own_form h
  simp only [Value.slice.injEq, true_and] at he
  obtain ⟨rfl, rfl⟩ := he
  have hle : k * size ≤ n * size := Nat.mul_le_mul_right _ hk
  have hlen : (xs.drop (k * size)).length = (n - k) * size := by rw [List.length_drop, hx, Nat.sub_mul]
  refine ⟨_, _, rfl, by omega, by omega, hlen, fun u hu => h1 u (List.mem_of_mem_drop hu), fun hp => ?_, fun ad ha j u hu => ?_⟩
  · split at hp
    · omega
    · rcases h.2 with ⟨he, _⟩ | ⟨g, cap', cur, he, _⟩
      · simp only [Value.slice.injEq] at he; omega
      · simp only [Value.slice.injEq] at he; rw [he.1] at hp; simp at hp
  · have hj : j < (n - k) * size := by have := (List.getElem?_eq_some_iff.1 hu).1; omega
    have hnk : k < n := by
      rcases Nat.lt_or_ge k n with h' | h'
      · exact h'
      · have : n - k = 0 := by omega
        rw [this] at hj; omega
    rw [if_neg (by omega)] at ha
    rcases h.2 with ⟨he, _⟩ | ⟨g, cap', cur, he, _⟩
    · simp only [Value.slice.injEq] at he; omega
    · simp only [Value.slice.injEq] at he
      obtain ⟨hp, _, hc⟩ := he
      rw [hp] at ha
      simp only [Option.map_some, Option.some.injEq] at ha
      subst ha
      subst hp
      rw [add_zero_addr, Go.WideShapes.add_plain]
      have e : (n - k) * size = n * size - k * size := Nat.sub_mul _ _ _
      rw [h.cellAt (k * size + j) (by omega)]
      rw [List.getElem?_drop] at hu
      exact hu

theorem wp_append_cells {P : Program} (w : World) {o : Oper} {a : Act} {K : Act → World → Prop} {Q : Exit → Act → World → Prop} (s x : Operand) (t : TypeId)
    (ho : o.op = .call { callee := .builtin .append, args := #[s, x], argTypes := #[t, t] })
    (base : Nat) (e : TypeId) (i : TypeInfo) (z : Value) (size bytes : Nat) (ht : P.underlying t = some (.slice e)) (hi : P.info? e = some i) (hz : i.zero = some z)
    (hsize : i.size = size) (hby : i.bytes = bytes) (hzs : z.cells.size = size) (hsz : 0 < size)
    (v : Value) (n : Nat) (xs : List Value) (hs : a.eval s = v) (hown : w.ownsRow base e size v n xs)
    (vx : Value) (m : Nat) (news : List Value) (hx : a.eval x = vx) (hseg : Seg w size vx m news) (h63 : n + m ≤ maxLen) (hbytes : (n + m) * bytes ≤ 140737488355328) (hbase : base ≤ w.heap.size)
    (h : ∀ p' c' w', w'.ownsRow base e size (.slice p' (n + m) c') (n + m) (xs ++ news) → w.grownBy w' v.ownBlock → K (a.put o.dst (.slice p' (n + m) c')) w') : o.wp P a w K Q := by
  obtain ⟨p, c, rfl, h1, h2, h3, h4, h5, h6⟩ := hseg
  cases p with
  | none =>
    obtain rfl : c = 0 := h5 rfl
    obtain rfl : m = 0 := by omega
    obtain rfl : news = [] := List.eq_nil_of_length_eq_zero (by omega)
    obtain ⟨p', c', rfl, _, _⟩ := own_form hown
    have hrun := run_append_owned_none (P := P) (w := w) base t o.type e i size ht hi (.slice p' n c') n xs hown
    have := h p' c' w (by simpa using hown) ⟨rfl, rfl, rfl, Nat.le_refl _, fun _ _ _ => rfl⟩
    unfold Oper.wp
    simp [execOp, ho, resolve, invoke, builtin, hs, hx, hrun, Result.andThen]
    exact this
  | some ad =>
    refine wp_append_own w s x t ho base e i z size bytes ht hi hz hsize hby hzs hsz v n xs hs hown ad m c news hx h3 (h6 ad rfl) h4 h63 hbytes hbase (fun v' w' g1 g2 _ => ?_)
    obtain ⟨p', c', rfl, _, _⟩ := own_form g1
    exact h p' c' w' g1 g2
theorem append_cells {P : Program} (w : World) {ops : Array Oper} {rest : List Oper} {o : Oper} {a : Act} {Q : Exit → Act → World → Prop} (hgd : o.guard = none) (s x : Operand) (t : TypeId)
    (ho : o.op = .call { callee := .builtin .append, args := #[s, x], argTypes := #[t, t] })
    (base : Nat) (e : TypeId) (i : TypeInfo) (z : Value) (size bytes : Nat) (ht : P.underlying t = some (.slice e)) (hi : P.info? e = some i) (hz : i.zero = some z)
    (hsize : i.size = size) (hby : i.bytes = bytes) (hzs : z.cells.size = size) (hsz : 0 < size)
    (v : Value) (n : Nat) (xs : List Value) (hs : a.eval s = v) (hown : w.ownsRow base e size v n xs)
    (vx : Value) (m : Nat) (news : List Value) (hx : a.eval x = vx) (hseg : Seg w size vx m news) (h63 : n + m ≤ maxLen) (hbytes : (n + m) * bytes ≤ 140737488355328) (hbase : base ≤ w.heap.size)
    (h : ∀ p' c' w', w'.ownsRow base e size (.slice p' (n + m) c') (n + m) (xs ++ news) → w.grownBy w' v.ownBlock → wpList P ops Q rest (a.put o.dst (.slice p' (n + m) c')) w') : wpList P ops Q (o :: rest) a w :=
  wpList_plain hgd fun _ hK => wp_append_cells w s x t ho base e i z size bytes ht hi hz hsize hby hzs hsz v n xs hs hown vx m news hx hseg h63 hbytes hbase fun p' c' w' h2 h3 => hK _ _ (h p' c' w' h2 h3)
theorem step_append_cells {P : Program} {ops : Array Oper} {o : Oper} {a : Act} {w : World} {K : Act → World → Prop} {Q : Exit → Act → World → Prop} {E : Prop} (hgd : o.guard = none) (s x : Operand) (t : TypeId)
    (ho : o.op = .call { callee := .builtin .append, args := #[s, x], argTypes := #[t, t] })
    (base : Nat) (e : TypeId) (i : TypeInfo) (z : Value) (size bytes : Nat) (ht : P.underlying t = some (.slice e)) (hi : P.info? e = some i) (hz : i.zero = some z)
    (hsize : i.size = size) (hby : i.bytes = bytes) (hzs : z.cells.size = size) (hsz : 0 < size)
    (v : Value) (n : Nat) (xs : List Value) (hs : a.eval s = v) (hown : w.ownsRow base e size v n xs)
    (vx : Value) (m : Nat) (news : List Value) (hx : a.eval x = vx) (hseg : Seg w size vx m news) (h63 : n + m ≤ maxLen) (hbytes : (n + m) * bytes ≤ 140737488355328) (hbase : base ≤ w.heap.size)
    (h : ∀ p' c' w', w'.ownsRow base e size (.slice p' (n + m) c') (n + m) (xs ++ news) → w.grownBy w' v.ownBlock → K (a.put o.dst (.slice p' (n + m) c')) w') :
    if Region.wanted o (yielded ops a.tmps) = true then Oper.wp P o a w K Q else E := by
  have hw : Region.wanted o (yielded ops a.tmps) = true := by simp [Region.wanted, hgd]
  rw [if_pos hw]
  exact wp_append_cells w s x t ho base e i z size bytes ht hi hz hsize hby hzs hsz v n xs hs hown vx m news hx hseg h63 hbytes hbase h
theorem Seg.news {w : World} {B size m c : Nat} {cs : Array Value} {t : TypeId} {fr : Nat × Nat} (hb : w.heap[B]? = some (.cells cs t fr)) (h1 : ∀ u ∈ cs.toList, u.oneCell' = true) (hs : cs.size = m * size) (hc : m ≤ c) (hc2 : c ≤ 9223372036854775807) : Seg w size (.slice (some ⟨B, 0, none⟩) m c) m cs.toList :=
  ⟨_, _, rfl, hc, hc2, by simpa using hs, h1, by simp, fun ad ha => by
    obtain rfl : ad = ⟨B, 0, none⟩ := by simpa using ha.symm
    exact World.news_of_block hb⟩
end Go.Proofs.YtikpckmlnhcddaaGreat

/-
  The reference: how its blocks may be others behind a call; put. The conditions: lengths.
-/
namespace Go.Proofs.YtikpckmlnhcddaaGreat
open Go.RowKit Go.Maps
theorem Tryz.infoFi : (Tryz.prog.info? 100).map (fun i => (i.zero, i.size, i.bytes)) = some (some (.agg #[.string ⟨#[]⟩, .slice none 0 0]), 2, 40) := by kernel_rfl

structure RStep (W W' : World) (rb : Nat) (R R' : RS) : Prop where
  only : Only (rown rb R) W W'
  own : ∀ i, rown rb R' i → rown rb R i ∨ W.heap.size ≤ i
  cov : ∀ i, rcov R' i → rcov R i ∨ W.heap.size ≤ i
theorem RStep.refl (W : World) (rb : Nat) (R : RS) : RStep W W rb R R := ⟨Only.refl _ _, fun _ h => .inl h, fun _ h => .inl h⟩
theorem RStep.fresh {A B : World} {rb : Nat} {R : RS} (h : Below A.heap.size A B) : RStep A B rb R R := ⟨Only.fresh h _, fun _ h => .inl h, fun _ h => .inl h⟩
theorem RStep.trans {A B C : World} {rb : Nat} {R S T : RS} (h : RStep A B rb R S) (h' : RStep B C rb S T) : RStep A C rb R T := by
  have hs := h.only.size
  refine ⟨h.only.step h'.only h.own, fun i hi => ?_, fun i hi => ?_⟩
  · rcases h'.own i hi with h1 | h1
    · exact h.own i h1
    · exact .inr (by omega)
  · rcases h'.cov i hi with h1 | h1
    · exact h.cov i h1
    · exact .inr (by omega)
theorem RStep.drew {A B : World} {rb : Nat} {R S : RS} (h : RStep A B rb R S) : RStep A B.drew rb R S := ⟨h.only.drew, h.own, h.cov⟩

theorem RRep.rown_lt {W : World} {rb : Nat} {R : RS} (h : RRep W rb R) {i : Nat} (hi : rown rb R i) : i < W.heap.size := by
  rcases hi with rfl | hi | hi
  · exact (Array.getElem?_eq_some_iff.1 h.box).1
  · exact (own_block_lt h.lrow hi).1
  · exact (own_block_lt h.prow hi).1
theorem Row.block_lt {k : IntKind} {W : World} {v : Value} {l : List Int} (h : Row k W v l) (hl : l ≠ []) {i : Nat} (hi : v.ownBlock = some i) : i < W.heap.size := by
  obtain ⟨p, cap, rfl, _, _, _, h4⟩ := h
  obtain ⟨b, o, rfl, hc⟩ := h4 (List.length_pos_iff.2 hl)
  have := hc 0 (List.length_pos_iff.2 hl)
  obtain ⟨ob, ho, _⟩ := cells_of_cell this
  have e : b = i := by simpa [Value.ownBlock] using hi
  rw [← e]
  exact (Array.getElem?_eq_some_iff.1 ho).1
theorem RRep.rcov_lt {W : World} {rb : Nat} {R : RS} (h : RRep W rb R) {i : Nat} (hi : rcov R i) : i < W.heap.size := by
  rcases hi with ⟨f, hf, hl, hb⟩ | ⟨f, hf, hl, hb⟩
  · exact (h.lb f hf).1.block_lt hl hb
  · exact (h.pb f hf).1.block_lt hl hb
theorem RRep.l_rb {W : World} {rb : Nat} {R : RS} (h : RRep W rb R) : R.lv.ownBlock ≠ some rb := fun e => by
  obtain ⟨_, cur, hc⟩ := own_block_lt h.lrow e
  rw [h.box] at hc; simp at hc
theorem RRep.p_rb {W : World} {rb : Nat} {R : RS} (h : RRep W rb R) : R.pv.ownBlock ≠ some rb := fun e => by
  obtain ⟨_, cur, hc⟩ := own_block_lt h.prow e
  rw [h.box] at hc; simp at hc
theorem RRep.frozen {W : World} {rb : Nat} {R : RS} (h : RRep W rb R) (o : Nat) : W.frozen? ⟨rb, o, none⟩ = false := box_frozen h.box o

/-- The list of files is made another one. -/
theorem RRep.setL {W : World} {rb : Nat} {R : RS} (h : RRep W rb R) {L : List RF} {v : Value} (hv : W.ownsRow 0 100 2 v L.length (L.flatMap RF.cells)) (hL : ∀ f ∈ L, Row .u8 W f.bv f.b ∧ U8 f.b) (hs : ∀ f ∈ L, f.b ≠ [] → ∀ i, f.bv.ownBlock = some i → ¬ rown rb R i ∧ v.ownBlock ≠ some i) (hp : ∀ i, rcov R i → v.ownBlock ≠ some i) :
    RRep (W.setCell ⟨rb, 0, none⟩ v) rb { R with L := L, lv := v } := by
  have ho : Only (· = rb) W (W.setCell ⟨rb, 0, none⟩ v) := Only.set _ _ _ _ rfl
  have hvr : v.ownBlock ≠ some rb := fun e => by
    obtain ⟨_, cur, hc⟩ := own_block_lt hv e
    rw [h.box] at hc; simp at hc
  refine ⟨by rw [heap_set_same h.box]; rfl, ownsRow_only hv ho (fun b hb e => by subst e; exact hvr hb), ownsRow_only h.prow ho (fun b hb e => by subst e; exact h.p_rb hb), fun f hf => ⟨(hL f hf).1.only0 ho (fun hl b hb e => by subst e; exact (hs f hf hl _ hb).1 (.inl rfl)), (hL f hf).2⟩, fun p hp' => ⟨(h.pb p hp').1.only0 ho (fun hl b hb e => by subst e; exact h.sep _ (.inr ⟨p, hp', hl, hb⟩) (.inl rfl)), (h.pb p hp').2⟩, ?_⟩
  rintro i (⟨f, hf, hl, hb⟩ | ⟨p, hp', hl, hb⟩) (rfl | hi | hi)
  · exact (hs f hf hl _ hb).1 (.inl rfl)
  · exact (hs f hf hl _ hb).2 hi
  · exact (hs f hf hl _ hb).1 (.inr (.inr hi))
  · exact h.sep _ (.inr ⟨p, hp', hl, hb⟩) (.inl rfl)
  · exact hp _ (.inr ⟨p, hp', hl, hb⟩) hi
  · exact h.sep _ (.inr ⟨p, hp', hl, hb⟩) (.inr (.inr hi))
/-- The list of pending writes is made another one. -/
theorem RRep.setP {W : World} {rb : Nat} {R : RS} (h : RRep W rb R) {P : List RP} {v : Value} (hv : W.ownsRow 0 98 3 v P.length (P.flatMap RP.cells)) (hP : ∀ f ∈ P, Row .u8 W f.bv f.b ∧ U8 f.b) (hs : ∀ f ∈ P, f.b ≠ [] → ∀ i, f.bv.ownBlock = some i → ¬ rown rb R i ∧ v.ownBlock ≠ some i) (hp : ∀ i, rcov R i → v.ownBlock ≠ some i) :
    RRep (W.setCell ⟨rb, 1, none⟩ v) rb { R with P := P, pv := v } := by
  have ho : Only (· = rb) W (W.setCell ⟨rb, 1, none⟩ v) := Only.set _ _ _ _ rfl
  have hvr : v.ownBlock ≠ some rb := fun e => by
    obtain ⟨_, cur, hc⟩ := own_block_lt hv e
    rw [h.box] at hc; simp at hc
  refine ⟨by rw [heap_set_same h.box]; rfl, ownsRow_only h.lrow ho (fun b hb e => by subst e; exact h.l_rb hb), ownsRow_only hv ho (fun b hb e => by subst e; exact hvr hb), fun p hp' => ⟨(h.lb p hp').1.only0 ho (fun hl b hb e => by subst e; exact h.sep _ (.inl ⟨p, hp', hl, hb⟩) (.inl rfl)), (h.lb p hp').2⟩, fun f hf => ⟨(hP f hf).1.only0 ho (fun hl b hb e => by subst e; exact (hs f hf hl _ hb).1 (.inl rfl)), (hP f hf).2⟩, ?_⟩
  rintro i (⟨p, hp', hl, hb⟩ | ⟨f, hf, hl, hb⟩) (rfl | hi | hi)
  · exact h.sep _ (.inl ⟨p, hp', hl, hb⟩) (.inl rfl)
  · exact h.sep _ (.inl ⟨p, hp', hl, hb⟩) (.inr (.inl hi))
  · exact hp _ (.inl ⟨p, hp', hl, hb⟩) hi
  · exact (hs f hf hl _ hb).1 (.inl rfl)
  · exact (hs f hf hl _ hb).1 (.inr (.inl hi))
  · exact (hs f hf hl _ hb).2 hi

def insR (x : RF) : List RF → List RF
  | [] => [x]
  | y :: l => if bytesBefore y.name x.name then y :: insR x l else x :: y :: l
theorem insR_at {x : RF} : ∀ {L : List RF} {k : Nat}, k ≤ L.length → (∀ j, j < k → bytesBefore (L[j]!).name x.name = true) → (k < L.length → bytesBefore (L[k]!).name x.name = false) → insR x L = L.take k ++ x :: L.drop k
  | [], k, hk, _, _ => by
    obtain rfl : k = 0 := by simpa using hk
    rfl
  | y :: L, 0, _, _, h => by
    have := h (by simp)
    simp at this
    simp [insR, this]
  | y :: L, k + 1, hk, h, h' => by
    have h0 := h 0 (by omega)
    simp at h0
    simp only [insR, h0, if_true, List.take_succ_cons, List.drop_succ_cons, List.cons_append, List.cons.injEq, true_and]
    refine insR_at (by simpa using hk) (fun j hj => ?_) (fun hlt => ?_)
    · have := h (j + 1) (by omega); simpa using this
    · have := h' (by simp; omega); simpa using this
theorem mem_insR {x y : RF} : ∀ {L : List RF}, y ∈ insR x L ↔ y = x ∨ y ∈ L
  | [] => by simp [insR]
  | z :: r => by
    unfold insR
    split
    · simp only [List.mem_cons, mem_insR (L := r)]
      constructor
      · rintro (h | h | h)
        · exact .inr (.inl h)
        · exact .inl h
        · exact .inr (.inr h)
      · rintro (h | h | h)
        · exact .inr (.inl h)
        · exact .inl h
        · exact .inr (.inr h)
    · simp
theorem file_one {L : List RF} {W : World} (h : ∀ f ∈ L, Row .u8 W f.bv f.b ∧ U8 f.b) : ∀ u ∈ L.flatMap RF.cells, u.oneCell' = true := by
  intro u hu
  obtain ⟨f, hf, hu⟩ := List.mem_flatMap.1 hu
  obtain ⟨p, cap, he, _⟩ := (h f hf).1
  simp only [RF.cells, List.mem_cons, List.not_mem_nil, or_false] at hu
  rcases hu with rfl | rfl
  · rfl
  · rw [he]; rfl
theorem flat_len {α : Type} {c : α → List Value} {n : Nat} (hc : ∀ x, (c x).length = n) : ∀ l : List α, (l.flatMap c).length = l.length * n
  | [] => by simp
  | a :: l => by simp [hc, flat_len hc l, Nat.add_mul]; omega
theorem flat_take {α : Type} {c : α → List Value} {n : Nat} (hc : ∀ x, (c x).length = n) : ∀ (l : List α) (k : Nat), (l.flatMap c).take (k * n) = (l.take k).flatMap c
  | [], k => by simp
  | a :: l, 0 => by simp
  | a :: l, k + 1 => by
    simp only [List.flatMap_cons, List.take_succ_cons]
    have e : (k + 1) * n = (c a).length + k * n := by rw [hc, Nat.add_mul]; omega
    rw [e, List.take_length_add_append, flat_take hc l k]
theorem flat_drop {α : Type} {c : α → List Value} {n : Nat} (hc : ∀ x, (c x).length = n) : ∀ (l : List α) (k : Nat), (l.flatMap c).drop (k * n) = (l.drop k).flatMap c
  | [], k => by simp
  | a :: l, 0 => by simp
  | a :: l, k + 1 => by
    simp only [List.flatMap_cons, List.drop_succ_cons]
    have e : (k + 1) * n = (c a).length + k * n := by rw [hc, Nat.add_mul]; omega
    rw [e, List.drop_length_add_append, flat_drop hc l k]
end Go.Proofs.YtikpckmlnhcddaaGreat
