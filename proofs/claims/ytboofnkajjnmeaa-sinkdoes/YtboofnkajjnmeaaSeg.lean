/-
  A piece of a row of structs, as it lies; append of one, at a plain operation and as one step of a region that draws its order; from what lies there to what is owned, and back. The conditions: the piece lies there.
-/
import Derived.Test.YtboofnkajjnmeaaOnl
import Derived.OwnWalk
import Derived.Deep.AppendLies
import Derived.Laws.AppendOwnNone
namespace Go.Proofs.Ytboofnkajjnmeaa
open Go.RowKit

theorem own_form {W : World} {base n k : Nat} {e : TypeId} {v : Value} {xs : List Value} (h : W.ownsRow base e k v n xs) : ∃ p cap, v = .slice p n cap ∧ n ≤ cap ∧ cap ≤ 9223372036854775807 := by
  rcases h.2 with ⟨rfl, rfl⟩ | ⟨g, cap, cur, rfl, _, _, h1, h2, _⟩
  · exact ⟨none, 0, rfl, Nat.le_refl _, by decide⟩
  · exact ⟨_, cap, rfl, h1, by unfold maxLen at h2; omega⟩
theorem ownsRow_later {A B : World} {base n k : Nat} {e : TypeId} {v : Value} {xs : List Value} (h : A.ownsRow base e k v n xs) (hb : Below A.heap.size A B) : B.ownsRow base e k v n xs :=
  ownsRow_only h (Only.fresh hb fun _ => False) (fun _ _ h => h)
theorem ownsRow_base {w : World} {base base' n k : Nat} {e : TypeId} {v : Value} {xs : List Value} (h : w.ownsRow base e k v n xs) (hb : base' ≤ base) : w.ownsRow base' e k v n xs := by
  refine ⟨h.1, ?_⟩
  rcases h.2 with h' | ⟨g, cap, cur, hv, hg, r⟩
  · exact .inl h'
  · exact .inr ⟨g, cap, cur, hv, by omega, r⟩
def Seg (w : World) (size : Nat) (v : Value) (m : Nat) (news : List Value) : Prop :=
  ∃ p c, v = .slice p m c ∧ m ≤ c ∧ c ≤ 9223372036854775807 ∧ news.length = m * size ∧ (∀ u ∈ news, u.oneCell' = true) ∧ (p = none → c = 0) ∧ ∀ ad, p = some ad → ∀ j u, news[j]? = some u → w.cell? (ad.add j) = some u

theorem Seg.below {w w' : World} {size m : Nat} {v : Value} {news : List Value} (h : Seg w size v m news) (hb : Below w.heap.size w w') : Seg w' size v m news := by
  obtain ⟨p, c, h1, h2, h3, h4, h5, h6, h7⟩ := h
  exact ⟨p, c, h1, h2, h3, h4, h5, h6, fun ad ha j u hu => cell_later hb (h7 ad ha j u hu)⟩
theorem add_zero_addr (g n : Nat) : (⟨g, 0, none⟩ : Addr).add n = ⟨g, n, none⟩ := by
  have := Go.WideShapes.add_plain g 0 n
  simpa using this
theorem Seg.of_own {w : World} {base e size n cap : Nat} {p : Option Addr} {xs : List Value} (h : w.ownsRow base e size (.slice p n cap) n xs) (h1 : ∀ u ∈ xs, u.oneCell' = true) (hx : xs.length = n * size) {k : Nat} (hk : k ≤ n) : Seg w size (.slice p k cap) k (xs.take (k * size)) := by
  obtain ⟨p', cap', he, g1, g2⟩ := own_form h
  simp only [Value.slice.injEq, true_and] at he
  obtain ⟨rfl, rfl⟩ := he
  have hle : k * size ≤ n * size := Nat.mul_le_mul_right _ hk
  refine ⟨p, cap, rfl, by omega, g2, by rw [List.length_take]; omega, fun u hu => h1 u (List.mem_of_mem_take hu), fun hp => ?_, fun ad ha j u hu => ?_⟩
  · rcases h.2 with ⟨he, _⟩ | ⟨g, cap', cur, he, _⟩
    · simp only [Value.slice.injEq] at he; exact he.2.2
    · simp only [Value.slice.injEq] at he; rw [hp] at he; simp at he
  · rcases h.2 with ⟨he, _⟩ | ⟨g, cap', cur, he, _⟩
    · simp only [Value.slice.injEq] at he; rw [ha] at he; simp at he
    · simp only [Value.slice.injEq] at he
      obtain ⟨hp, _, hc⟩ := he
      rw [ha] at hp
      obtain rfl : ad = ⟨g, 0, none⟩ := by simpa using hp
      subst ha
      have hj : j < k * size := by have := (List.getElem?_eq_some_iff.1 hu).1; rw [List.length_take] at this; omega
      rw [add_zero_addr, h.cellAt j (by omega)]
      rw [List.getElem?_take_of_lt hj] at hu
      exact hu
theorem wp_append_cells {P : Program} (w : World) {o : Oper} {a : Act} {K : Act → World → Prop} {Q : Exit → Act → World → Prop} (s x : Operand) (t : TypeId)
    (ho : o.op = .call { callee := .builtin .append, args := #[s, x], argTypes := #[t, t] })
    (base : Nat) (e : TypeId) (i : TypeInfo) (z : Value) (size bytes : Nat) (ht : P.underlying t = some (.slice e)) (hi : P.info? e = some i) (hz : i.zero = some z)
    (hsize : i.size = size) (hby : i.bytes = bytes) (hzs : z.cells.size = size) (hsz : 0 < size)
    (v : Value) (n : Nat) (xs : List Value) (hs : a.eval s = v) (hown : w.ownsRow base e size v n xs)
    (vx : Value) (m : Nat) (news : List Value) (hx : a.eval x = vx) (hseg : Seg w size vx m news) (h63 : n + m ≤ maxLen) (hbytes : (n + m) * bytes ≤ 140737488355328) (hbase : base ≤ w.heap.size)
    (h : ∀ p' c' w', w'.ownsRow base e size (.slice p' (n + m) c') (n + m) (xs ++ news) → w.grownBy w' v.ownBlock → K (a.put o.dst (.slice p' (n + m) c')) w') : o.wp P a w K Q := by
  obtain ⟨p, c, rfl, h1, h2, h3, h4, h5, h6⟩ := hseg
  cases p with
  | none =>
    obtain rfl : c = 0 := h5 rfl
    obtain rfl : m = 0 := by omega
    obtain rfl : news = [] := List.eq_nil_of_length_eq_zero (by omega)
    obtain ⟨p', c', rfl, _, _⟩ := own_form hown
    have hrun := run_append_owned_none (P := P) (w := w) base t o.type e i size ht hi (.slice p' n c') n xs hown
    have := h p' c' w (by simpa using hown) ⟨rfl, rfl, rfl, Nat.le_refl _, fun _ _ _ => rfl⟩
    unfold Oper.wp
    simp [execOp, ho, resolve, invoke, builtin, hs, hx, hrun, Result.andThen]
    exact this
  | some ad =>
    refine wp_append_own w s x t ho base e i z size bytes ht hi hz hsize hby hzs hsz v n xs hs hown ad m c news hx h3 (h6 ad rfl) h4 h63 hbytes hbase (fun v' w' g1 g2 _ => ?_)
    obtain ⟨p', c', rfl, _, _⟩ := own_form g1
    exact h p' c' w' g1 g2
theorem append_cells {P : Program} (w : World) {ops : Array Oper} {rest : List Oper} {o : Oper} {a : Act} {Q : Exit → Act → World → Prop} (hgd : o.guard = none) (s x : Operand) (t : TypeId)
    (ho : o.op = .call { callee := .builtin .append, args := #[s, x], argTypes := #[t, t] })
    (base : Nat) (e : TypeId) (i : TypeInfo) (z : Value) (size bytes : Nat) (ht : P.underlying t = some (.slice e)) (hi : P.info? e = some i) (hz : i.zero = some z)
    (hsize : i.size = size) (hby : i.bytes = bytes) (hzs : z.cells.size = size) (hsz : 0 < size)
    (v : Value) (n : Nat) (xs : List Value) (hs : a.eval s = v) (hown : w.ownsRow base e size v n xs)
    (vx : Value) (m : Nat) (news : List Value) (hx : a.eval x = vx) (hseg : Seg w size vx m news) (h63 : n + m ≤ maxLen) (hbytes : (n + m) * bytes ≤ 140737488355328) (hbase : base ≤ w.heap.size)
    (h : ∀ p' c' w', w'.ownsRow base e size (.slice p' (n + m) c') (n + m) (xs ++ news) → w.grownBy w' v.ownBlock → wpList P ops Q rest (a.put o.dst (.slice p' (n + m) c')) w') : wpList P ops Q (o :: rest) a w :=
  wpList_plain hgd fun _ hK => wp_append_cells w s x t ho base e i z size bytes ht hi hz hsize hby hzs hsz v n xs hs hown vx m news hx hseg h63 hbytes hbase fun p' c' w' h2 h3 => hK _ _ (h p' c' w' h2 h3)
theorem step_append_cells {P : Program} {ops : Array Oper} {o : Oper} {a : Act} {w : World} {K : Act → World → Prop} {Q : Exit → Act → World → Prop} {E : Prop} (hgd : o.guard = none) (s x : Operand) (t : TypeId)
    (ho : o.op = .call { callee := .builtin .append, args := #[s, x], argTypes := #[t, t] })
    (base : Nat) (e : TypeId) (i : TypeInfo) (z : Value) (size bytes : Nat) (ht : P.underlying t = some (.slice e)) (hi : P.info? e = some i) (hz : i.zero = some z)
    (hsize : i.size = size) (hby : i.bytes = bytes) (hzs : z.cells.size = size) (hsz : 0 < size)
    (v : Value) (n : Nat) (xs : List Value) (hs : a.eval s = v) (hown : w.ownsRow base e size v n xs)
    (vx : Value) (m : Nat) (news : List Value) (hx : a.eval x = vx) (hseg : Seg w size vx m news) (h63 : n + m ≤ maxLen) (hbytes : (n + m) * bytes ≤ 140737488355328) (hbase : base ≤ w.heap.size)
    (h : ∀ p' c' w', w'.ownsRow base e size (.slice p' (n + m) c') (n + m) (xs ++ news) → w.grownBy w' v.ownBlock → K (a.put o.dst (.slice p' (n + m) c')) w') :
    if Region.wanted o (yielded ops a.tmps) = true then Oper.wp P o a w K Q else E := by
  have hw : Region.wanted o (yielded ops a.tmps) = true := by simp [Region.wanted, hgd]
  rw [if_pos hw]
  exact wp_append_cells w s x t ho base e i z size bytes ht hi hz hsize hby hzs hsz v n xs hs hown vx m news hx hseg h63 hbytes hbase h
theorem Seg.news {w : World} {B size m c : Nat} {cs : Array Value} {t : TypeId} {fr : Nat × Nat} (hb : w.heap[B]? = some (.cells cs t fr)) (h1 : ∀ u ∈ cs.toList, u.oneCell' = true) (hs : cs.size = m * size) (hc : m ≤ c) (hc2 : c ≤ 9223372036854775807) : Seg w size (.slice (some ⟨B, 0, none⟩) m c) m cs.toList :=
  ⟨_, _, rfl, hc, hc2, by simpa using hs, h1, by simp, fun ad ha => by
    obtain rfl : ad = ⟨B, 0, none⟩ := by simpa using ha.symm
    exact World.news_of_block hb⟩

theorem flat_get {α : Type} [Inhabited α] {size : Nat} {cells : α → List Value} : ∀ (os : List α), (∀ o ∈ os, (cells o).length = size) → ∀ i j, i < os.length → j < size → (os.flatMap cells)[i * size + j]? = (cells os[i]!)[j]?
  | [], _, i, j, hi, _ => by simp at hi
  | o :: os, hl, 0, j, _, hj => by
    have : (cells o).length = size := hl o (by simp)
    rw [List.flatMap_cons, Nat.zero_mul, Nat.zero_add, List.getElem?_append_left (by omega)]
    rfl
  | o :: os, hl, i + 1, j, hi, hj => by
    have h1 : (cells o).length = size := hl o (by simp)
    have h2 := flat_get os (fun x hx => hl x (by simp [hx])) i j (by simpa using hi) hj
    have e : (o :: os)[i + 1]! = os[i]! := by rw [getElem!_pos (o :: os) (i + 1) hi, getElem!_pos os i (by simpa using hi)]; rfl
    rw [List.flatMap_cons, e, ← h2, List.getElem?_append_right (by rw [h1, Nat.succ_mul]; omega), h1]
    congr 1
    rw [Nat.succ_mul]
    omega
theorem flat_len {α : Type} {size : Nat} {cells : α → List Value} : ∀ (os : List α), (∀ o ∈ os, (cells o).length = size) → (os.flatMap cells).length = os.length * size
  | [], _ => by simp
  | o :: os, hl => by
    rw [List.flatMap_cons, List.length_append, hl o (by simp), flat_len os (fun x hx => hl x (by simp [hx])), List.length_cons, Nat.succ_mul]
    omega
theorem Seg.of_list {α : Type} [Inhabited α] {W : World} {size cap : Nat} {p : Option Addr} {os : List α} {cells : α → List Value} (hs : 0 < size) (hlen : ∀ o ∈ os, (cells o).length = size) (h1 : ∀ o ∈ os, ∀ u ∈ cells o, u.oneCell' = true) (hle : os.length ≤ cap) (htop : cap ≤ 9223372036854775807) (hnil : p = none → cap = 0)
    (hc : ∀ i, i < os.length → ∃ g k, p = some ⟨g, k, none⟩ ∧ ∀ j, j < size → W.cell? ⟨g, k + i * size + j, none⟩ = (cells os[i]!)[j]?) : Seg W size (.slice p os.length cap) os.length (os.flatMap cells) := by
  refine ⟨p, cap, rfl, hle, htop, flat_len os hlen, fun u hu => ?_, hnil, fun ad ha j u hu => ?_⟩
  · obtain ⟨o, ho, hu⟩ := List.mem_flatMap.1 hu
    exact h1 o ho u hu
  · have hj : j < os.length * size := by have := (List.getElem?_eq_some_iff.1 hu).1; rw [flat_len os hlen] at this; exact this
    have hi : j / size < os.length := Nat.div_lt_of_lt_mul (by rw [Nat.mul_comm]; exact hj)
    have hm : j % size < size := Nat.mod_lt _ hs
    obtain ⟨g, k, e, h⟩ := hc _ hi
    rw [ha] at e
    simp only [Option.some.injEq] at e
    subst e
    have h2 := h _ hm
    rw [← flat_get os hlen _ _ hi hm] at h2
    have e1 : j / size * size + j % size = j := by rw [Nat.mul_comm]; exact Nat.div_add_mod j size
    rw [e1, hu] at h2
    rw [Go.WideShapes.add_plain, ← h2]
    congr 2
    rw [Nat.add_assoc, e1]
theorem own_list {α : Type} [Inhabited α] {W : World} {base size n cap : Nat} {e : TypeId} {p : Option Addr} {os : List α} {cells : α → List Value} (hlen : ∀ o ∈ os, (cells o).length = size) (hn : os.length = n) (h : W.ownsRow base e size (.slice p n cap) n (os.flatMap cells)) :
    n ≤ cap ∧ cap ≤ 9223372036854775807 ∧ (p = none → cap = 0) ∧ ∀ i, i < os.length → ∃ g k, p = some ⟨g, k, none⟩ ∧ ∀ j, j < size → W.cell? ⟨g, k + i * size + j, none⟩ = (cells os[i]!)[j]? := by
  rcases h.2 with ⟨e1, h0⟩ | ⟨g, cap', cur, e1, hb, hg, h1, h2, h3, h4⟩
  · simp only [Value.slice.injEq] at e1
    obtain ⟨rfl, _, rfl⟩ := e1
    exact ⟨by omega, by omega, fun _ => rfl, fun i hi => by omega⟩
  · simp only [Value.slice.injEq] at e1
    obtain ⟨rfl, _, rfl⟩ := e1
    refine ⟨h1, by unfold maxLen at h2; omega, (fun h => by cases h), fun i hi => ⟨g, 0, rfl, fun j hj => ?_⟩⟩
    rw [Nat.zero_add, h.cellAt (i * size + j) (by
      have : (i + 1) * size ≤ n * size := Nat.mul_le_mul_right _ (by omega)
      rw [Nat.succ_mul] at this
      omega), flat_get os hlen i j hi hj]
end Go.Proofs.Ytboofnkajjnmeaa
