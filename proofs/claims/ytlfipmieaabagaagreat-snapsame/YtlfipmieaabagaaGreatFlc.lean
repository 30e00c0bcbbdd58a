/-
  Where ports lead, plainly and as it lies; steps of a region in a round. The conditions: none.
-/
import Derived.Test.YtlfipmieaabagaaGreatFla
import Derived.Test.YtlfipmieaabagaaGreatGed
import Derived.Test.YtlfipmieaabagaaGreatRst
namespace Go.Proofs.YtlfipmieaabagaaGreat
open Go.RowKit
attribute [local go_sem] Oper.semAt_some

theorem step_writeF {l N : Nat} {P : Program} {ops : Array Oper} {Q : Exit → Act → World → Prop} {i : Nat} {o : Oper} {K : Act → World → Prop} {a : Act} {w w' : World} {v : Value} (ho : ops[i]? = some o) (hgd : o.guard = none) (hnd : ∀ c, o.op ≠ .defer c)
    (hrun : (execOp a.eval o).run P w = .ok (.value v) w') (hK : K (a.put o.dst v) w') : wpOpIn (Fence.wide.inRound l) N P ops Q i K a w := by
  refine wpOpIn_step ho (fun K' hK' => ?_)
  have hw : Region.wanted o (yielded ops a.tmps) = true := by simp [Region.wanted, hgd]
  rw [if_pos hw]
  unfold Oper.wpIn
  refine ⟨fun f hf => trivial, ?_⟩
  rw [show (Fence.wide.inRound l).round = some l from rfl, Oper.semAt_some l _ _ hnd, hrun]
  exact hK' _ _ hK
theorem step_skipF {l N : Nat} {P : Program} {ops : Array Oper} {Q : Exit → Act → World → Prop} {i : Nat} {o : Oper} {K : Act → World → Prop} {a : Act} {w w' : World} (ho : ops[i]? = some o) (hgd : o.guard = none) (hnd : ∀ c, o.op ≠ .defer c)
    (hrun : (execOp a.eval o).run P w = .ok .skip w') (hK : K (a.put o.dst undef) w') : wpOpIn (Fence.wide.inRound l) N P ops Q i K a w := by
  refine wpOpIn_step ho (fun K' hK' => ?_)
  have hw : Region.wanted o (yielded ops a.tmps) = true := by simp [Region.wanted, hgd]
  rw [if_pos hw]
  unfold Oper.wpIn
  refine ⟨fun f hf => trivial, ?_⟩
  rw [show (Fence.wide.inRound l).round = some l from rfl, Oper.semAt_some l _ _ hnd, hrun]
  exact hK' _ _ hK
theorem step_readF {l N : Nat} {P : Program} {ops : Array Oper} {Q : Exit → Act → World → Prop} {i : Nat} {o : Oper} {K : Act → World → Prop} {a : Act} {w : World} {v : Value} (ho : ops[i]? = some o) (hgd : o.guard = none) (hnd : ∀ c, o.op ≠ .defer c)
    (hrun : (execOp a.eval o).run P w = .ok (.value v) w) (hK : K (a.put o.dst v) w) : wpOpIn (Fence.wide.inRound l) N P ops Q i K a w := step_writeF ho hgd hnd hrun hK
theorem still_fold (t0 : Array Value) (d : Nat) (val : Nat → Value) : ∀ m, ((List.range m).foldl (fun r i => r.setIfInBounds (d + i) (val i)) t0).size = t0.size ∧ ∀ s, s < t0.size → ((List.range m).foldl (fun r i => r.setIfInBounds (d + i) (val i)) t0).getD s undef = if d ≤ s ∧ s < d + m then val (s - d) else t0.getD s undef
  | 0 => ⟨rfl, fun s _ => by rw [if_neg (by omega)]; rfl⟩
  | m + 1 => by
    obtain ⟨h1, h2⟩ := still_fold t0 d val m
    rw [List.range_succ, List.foldl_append, List.foldl_cons, List.foldl_nil]
    refine ⟨by rw [Array.size_setIfInBounds]; exact h1, fun s hs => ?_⟩
    rw [Array.getD_eq_getD_getElem?, Array.getElem?_setIfInBounds]
    by_cases e : d + m = s
    · subst e
      rw [if_pos rfl, if_pos (by rw [h1]; exact hs), if_pos (by omega), Nat.add_sub_cancel_left]
      rfl
    · rw [if_neg e, ← Array.getD_eq_getD_getElem?, h2 s hs]
      by_cases h : d ≤ s ∧ s < d + m
      · rw [if_pos h, if_pos (by omega)]
      · rw [if_neg h, if_neg (by omega)]
theorem still_tmps {t t0 : Array Value} {d m : Nat} {val : Nat → Value} (hs : t.size = t0.size) (_ : d + m ≤ t0.size) (hv : ∀ i, i < m → t.getD (d + i) undef = val i) (hb : ∀ s, (∀ i, i < m → d + i ≠ s) → t.getD s undef = t0.getD s undef) : t = (List.range m).foldl (fun r i => r.setIfInBounds (d + i) (val i)) t0 := by
  obtain ⟨h1, h2⟩ := still_fold t0 d val m
  apply Array.ext
  · rw [h1]; exact hs
  · intro s hs1 hs2
    have e1 : t.getD s undef = t[s] := by rw [Array.getD_eq_getD_getElem?, Array.getElem?_eq_getElem hs1]; rfl
    have e2 := h2 s (by omega)
    rw [Array.getD_eq_getD_getElem?, Array.getElem?_eq_getElem hs2, Option.getD_some] at e2
    rw [e2, ← e1]
    by_cases h : d ≤ s ∧ s < d + m
    · rw [if_pos h, ← hv (s - d) (by omega)]
      congr 1
      omega
    · rw [if_neg h]
      exact hb s (fun i hi e => h (by omega))
def pN (os : List GO) (i : Nat) : Nat := (portsO os i).toNat
/-- The lists of where ports lead, as they lie. -/
structure LdI (X : World) (base L n k : Nat) (os : List GO) (vals : List Value) : Prop where
  len : vals.length = n
  own : X.ownsRow base 136 1 (.slice (some ⟨L, 0, none⟩) n n) n vals
  ins : ∀ i, i < k → ∃ b, vals[i]? = some (.slice (some ⟨b, 0, none⟩) (pN os i) (pN os i)) ∧ ∃ ys, X.ownsRow base 142 2 (.slice (some ⟨b, 0, none⟩) (pN os i) (pN os i)) (pN os i) ys
theorem LdI.only {X X' : World} {base L n k : Nat} {os : List GO} {vals : List Value} {F : Nat → Prop} (h : LdI X base L n k os vals) (ho : Only F X X') (hF : ∀ i, F i → ∀ cs t, X.heap[i]? = some (.cells cs t (0, 0)) → t ≠ 136 ∧ t ≠ 142) : LdI X' base L n k os vals := by
  refine ⟨h.len, ownsRow_only h.own ho (fun b hb hf => ?_), fun i hi => ?_⟩
  · obtain ⟨_, cur, h3⟩ := own_block_lt h.own hb
    exact (hF b hf _ _ h3).1 rfl
  · obtain ⟨b, e, ys, hy⟩ := h.ins i hi
    refine ⟨b, e, ys, ownsRow_only hy ho (fun b hb hf => ?_)⟩
    obtain ⟨_, cur, h3⟩ := own_block_lt hy hb
    exact (hF b hf _ _ h3).2 rfl
theorem LdI.later {X X' : World} {base L n k : Nat} {os : List GO} {vals : List Value} (h : LdI X base L n k os vals) (hb : Below X.heap.size X X') : LdI X' base L n k os vals :=
  h.only (Only.fresh hb (fun _ => False)) (fun _ e => e.elim)
theorem LdI.put {X : World} {base L n k l : Nat} {os : List GO} {vals : List Value} {ob o' : Obj} (h : LdI X base L n k os vals) (ho : X.heap[l]? = some ob) (hc : ob.isCells = false) : LdI (X.putObj l o') base L n k os vals :=
  h.only put_only (fun i e cs t hi => by
    have e' : i = l := e
    rw [e', ho] at hi
    cases hi
    simp [Obj.isCells] at hc)
/-- A cell of one of the inner lists is written to. -/
theorem LdI.set {X : World} {base L n k b j : Nat} {os : List GO} {vals : List Value} (h : LdI X base L n k os vals) {cs : Array Value} (hb : X.heap[b]? = some (.cells cs 142 (0, 0))) (v : Value) : LdI (X.setCell ⟨b, j, none⟩ v) base L n k os vals := by
  have ho : Only (· = b) X (X.setCell ⟨b, j, none⟩ v) := Only.set (F := (· = b)) X b j v rfl
  refine ⟨h.len, ownsRow_only h.own ho (fun c hc e => ?_), fun i hi => ?_⟩
  · have e' : c = b := e
    obtain ⟨_, cur, h3⟩ := own_block_lt h.own hc
    rw [e', hb] at h3
    simp at h3
  · obtain ⟨c, e, ys, hy⟩ := h.ins i hi
    refine ⟨c, e, ?_⟩
    by_cases hcb : c = b
    · subst hcb
      exact ⟨_, (hy.stored j v).1⟩
    · refine ⟨ys, ownsRow_only hy ho (fun d hd e => ?_)⟩
      have e' : d = b := e
      have : d = c := by simpa [Value.ownBlock] using hd.symm
      omega
theorem LdI.fill {X X' : World} {base L n k b : Nat} {os : List GO} {vals : List Value} {zs : List Value} (h : LdI X base L n k os vals) (hb : Below X.heap.size X X') (hk : k < n) (hz : X'.ownsRow base 142 2 (.slice (some ⟨b, 0, none⟩) (pN os k) (pN os k)) (pN os k) zs) :
    LdI (X'.setCell ⟨L, k, none⟩ (.slice (some ⟨b, 0, none⟩) (pN os k) (pN os k))) base L n (k + 1) os (vals.set k (.slice (some ⟨b, 0, none⟩) (pN os k) (pN os k))) := by
  have h1 := h.later hb
  have ho : Only (· = L) X' (X'.setCell ⟨L, k, none⟩ (.slice (some ⟨b, 0, none⟩) (pN os k) (pN os k))) := Only.set (F := (· = L)) _ _ _ _ rfl
  have keep : ∀ {v : Value} {m : Nat} {ys : List Value}, X'.ownsRow base 142 2 v m ys → (X'.setCell ⟨L, k, none⟩ (.slice (some ⟨b, 0, none⟩) (pN os k) (pN os k))).ownsRow base 142 2 v m ys := fun hy =>
    ownsRow_only hy ho (fun d hd e => by
      have e' : d = L := e
      obtain ⟨_, cur, h3⟩ := own_block_lt hy hd
      obtain ⟨_, cur2, h4⟩ := own_block_lt h1.own (show (Value.slice (some ⟨L, 0, none⟩) n n).ownBlock = some L by simp [Value.ownBlock])
      rw [e', h4] at h3
      simp at h3)
  refine ⟨by rw [List.length_set]; exact h1.len, ?_, fun i hi => ?_⟩
  · exact (h1.own.stored k _).1
  · by_cases e : i = k
    · subst e
      exact ⟨b, by rw [List.getElem?_set_self (by rw [h1.len]; exact hk)], zs, keep hz⟩
    · obtain ⟨c, e1, ys, hy⟩ := h1.ins i (by omega)
      exact ⟨c, by rw [List.getElem?_set_ne (by omega)]; exact e1, ys, keep hy⟩
theorem ats_bd : ∀ (os : List GO) (n k : Nat), k < (atsG n os).length → (n : Int) ≤ (atsG n os)[k]! ∧ (atsG n os)[k]! < ((n + os.length : Nat) : Int)
  | [], n, k, h => absurd h (Nat.not_lt_zero k)
  | o :: os, n, k, h => by
    have e : atsG n (o :: os) = (o.ins.map fun _ => (n : Int)) ++ atsG (n + 1) os := rfl
    rw [e] at h ⊢
    by_cases hk : k < o.ins.length
    · rw [getElem!_pos _ k h, List.getElem_append_left (by simpa using hk)]
      simp
      omega
    · rw [List.length_append, List.length_map] at h
      have h2 : k - o.ins.length < (atsG (n + 1) os).length := by omega
      have ih := ats_bd os (n + 1) (k - o.ins.length) h2
      rw [getElem!_pos (atsG (n + 1) os) _ h2] at ih
      rw [getElem!_pos _ k (by rw [List.length_append, List.length_map]; exact h), List.getElem_append_right (by simp; omega)]
      simp only [List.length_map, List.length_cons]
      have : n + (os.length + 1) = n + 1 + os.length := by omega
      rw [this]
      exact ⟨by omega, ih.2⟩
def SeI (X : World) (base S n k : Nat) : Prop := ∃ l : List Int, l.length = n ∧ X.ownsRow base 3 1 (.slice (some ⟨S, 0, none⟩) n n) n (l.map (Value.int .i64)) ∧ ∀ v ∈ l, 0 ≤ v ∧ v ≤ (k : Int)
theorem SeI.only {X X' : World} {base S n k : Nat} {F : Nat → Prop} (h : SeI X base S n k) (ho : Only F X X') (hF : ¬ F S) : SeI X' base S n k := by
  obtain ⟨l, h1, h2, h3⟩ := h
  exact ⟨l, h1, ownsRow_only h2 ho (fun b hb e => by
    have : S = b := by simpa [Value.ownBlock] using hb
    subst this
    exact hF e), h3⟩
theorem SeI.later {X X' : World} {base S n k : Nat} (h : SeI X base S n k) (hb : Below X.heap.size X X') : SeI X' base S n k := h.only (Only.fresh hb (fun _ => False)) (fun e => e)
/-- What the loop over all inputs keeps. -/
def LeI (V : World) (base L S lB sB n : Nat) (os : List GO) (vals : List Value) (k : Nat) (X : World) : Prop :=
  LdI X base L n n os vals ∧ SeI X base S n k ∧ X.heap[lB]? = some (.cells #[.slice (some ⟨L, 0, none⟩) n n] 84 (0, 0)) ∧ X.heap[sB]? = some (.cells #[.slice (some ⟨S, 0, none⟩) n n] 88 (0, 0)) ∧ Only (fun i => i = S ∨ (base ≤ i ∧ ∃ cs, V.heap[i]? = some (.cells cs 142 (0, 0)))) V X
theorem made_ints (n : Nat) : (madeCells (Value.int .i64 0).cells (n * 1)).toList = (List.replicate n (0 : Int)).map (Value.int .i64) := by
  rw [List.map_replicate, Nat.mul_one]
  apply List.ext_getElem
  · simp [madeCells]
  · intro i h1 h2
    simp [madeCells, Value.cells, Nat.mod_one]
theorem Tryz.infoIns : (Tryz.prog.info? 136).map (fun i => (i.zero, i.size, i.bytes)) = some (some (.slice none 0 0), 1, 24) := by kernel_rfl
theorem Tryz.infoIn : (Tryz.prog.info? 142).map (fun i => (i.zero, i.size, i.bytes)) = some (some (.agg #[.int .i64 0, .int .i64 0]), 2, 16) := by kernel_rfl
theorem Tryz.infoI : (Tryz.prog.info? 3).map (fun i => (i.zero, i.size, i.bytes)) = some (some (.int .i64 0), 1, 8) := by kernel_rfl
end Go.Proofs.YtlfipmieaabagaaGreat
