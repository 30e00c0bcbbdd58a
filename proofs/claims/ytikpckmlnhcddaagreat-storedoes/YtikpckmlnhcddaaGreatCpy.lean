/-
  copy into a row that lies by itself, and append behind one, of whatever slice of bytes: what they leave, as laws on their run and as steps of a region that draws its order. No condition; nothing of the program but the number of a type is named here.
-/
import Derived.Test.YtikpckmlnhcddaaGreatStp
import Derived.Laws.CopyOwn
import Derived.Deep.AppendLies
namespace Go.Proofs.YtikpckmlnhcddaaGreat
open Go.RowKit

theorem own_back {W : World} {base n k : Nat} {e : TypeId} {g cap : Nat} {cur : Array Value} {xs : List Value} (hg : W.heap[g]? = some (.cells cur e (0, 0))) (hb : base ≤ g) (hn : n ≤ cap) (hc : cap ≤ maxLen) (hs : cur.size = cap * k) (ht : cur.toList.take (n * k) = xs) :
    W.ownsRow base e k (.slice (some ⟨g, 0, none⟩) n cap) n xs := by
  refine ⟨?_, .inr ⟨g, cap, cur, rfl, hb, hg, hn, hc, hs, ht⟩⟩
  rw [← ht, List.length_take, Array.length_toList, hs]
  have := Nat.mul_le_mul_right k hn
  omega

/-- What is laid over a list. -/
def over (c : List Int) (lo : Nat) (x : List Int) : List Int := c.take lo ++ (x ++ c.drop (lo + x.length))
theorem over_length {c : List Int} {lo : Nat} {x : List Int} (h : lo + x.length ≤ c.length) : (over c lo x).length = c.length := by simp [over]; omega
theorem over_nil (c : List Int) (lo : Nat) : over c lo [] = c := by simp [over]
theorem over_u8 {c : List Int} {lo : Nat} {x : List Int} (h : U8 c) (hx : U8 x) : U8 (over c lo x) := fun y hy => by
  simp only [over, List.mem_append] at hy
  rcases hy with hy | hy | hy
  · exact h y (List.mem_of_mem_take hy)
  · exact hx y hy
  · exact h y (List.mem_of_mem_drop hy)

theorem take_over {α : Type} (M T X : List α) (lo : Nat) (h : lo + X.length ≤ M.length) : ((M ++ T).take lo ++ X ++ (M ++ T).drop (lo + X.length)).take M.length = M.take lo ++ (X ++ M.drop (lo + X.length)) := by
  rw [List.take_append_of_le_length (show lo ≤ M.length by omega), List.drop_append_of_le_length (show lo + X.length ≤ M.length from h)]
  have e : M.take lo ++ X ++ (M.drop (lo + X.length) ++ T) = (M.take lo ++ (X ++ M.drop (lo + X.length))) ++ T := by simp
  rw [e]
  exact List.take_left' (by simp; omega)

theorem run_copy_over {P : Program} (W : World) (dT ty e : TypeId) (hu : P.underlying dT = some (.slice e)) (hsz : (P.info? e).map (·.size) = some 1) {p : Option Addr} {cap : Nat} {c x : List Int}
    (hd : W.ownsRow 0 e 1 (.slice p c.length cap) c.length (c.map (Value.int .u8))) {vs : Value} (hx : Row .u8 W vs x) (lo : Nat) (hlo : lo + x.length ≤ c.length) :
    ∃ w', (Builtin.copy_ #[dT, dT] ty #[.slice (if cap = lo then p else Option.map (fun y => y.add lo) p) (c.length - lo) (cap - lo), vs]).run P W = .ok (goInt x.length) w' ∧
      w'.ownsRow 0 e 1 (.slice p c.length cap) c.length ((over c lo x).map (Value.int .u8)) ∧ W.grownBy w' (Value.slice p c.length cap).ownBlock := by
  obtain ⟨ps, cs, rfl, h1, h2, h3, h4⟩ := id hx
  by_cases h0 : x = []
  · subst h0
    refine ⟨W, run_copy_none W dT dT ty e _ _ _ _ _ _ hu hsz (by simp), by rw [over_nil]; exact hd, ⟨rfl, rfl, rfl, Nat.le_refl _, fun _ _ _ => rfl⟩⟩
  · have hxl : 0 < x.length := List.length_pos_iff.2 h0
    obtain ⟨bs, os, rfl, hcs⟩ := h4 hxl
    rcases hd.2 with ⟨he, _⟩ | ⟨g, cap', cur, he, hb, hg, hn, hcm, hcur, htk⟩
    · simp at he; omega
    · simp only [Value.slice.injEq, true_and] at he
      obtain ⟨rfl, rfl⟩ := he
      rw [if_neg (by omega)]
      simp only [Option.map_some]
      rw [Go.WideShapes.add_plain, Nat.zero_add]
      simp only [Nat.mul_one] at hcur htk
      have hrun := run_copy_row (P := P) W dT dT ty e g lo (c.length - lo) (cap - lo) ⟨bs, os, none⟩ x.length cs cur e (x.map (Value.int .u8)) hu hsz hg
        (by rw [List.length_map]; show _ = min _ _; omega)
        (fun j v hj => by
          obtain ⟨bs', os', cap', he', _, hc'⟩ := hx.news h0
          simp only [Value.slice.injEq, Option.some.injEq, Addr.mk.injEq, and_true, true_and] at he'
          obtain ⟨⟨rfl, rfl⟩, rfl⟩ := he'
          exact hc' j v hj)
        (by rw [List.length_map]; omega) (ints_one .u8 x)
      rw [List.length_map] at hrun
      refine ⟨_, hrun, own_back (cur := (cur.toList.take lo ++ x.map (Value.int .u8) ++ cur.toList.drop (lo + x.length)).toArray) (setRow_heap W g _ _ e _ hg) hb hn hcm ?_ ?_, ⟨rfl, rfl, rfl, by simp [World.setRow], fun k _ hk => setRow_other W g k _ (fun e => hk (by subst e; rfl))⟩⟩
      · simp; omega
      · have hcl : cur.toList.length = cap := by simp [hcur]
        simp only [Nat.mul_one]
        have e1 : cur.toList = c.map (Value.int .u8) ++ cur.toList.drop c.length := by
          conv => lhs; rw [← List.take_append_drop c.length cur.toList]
          rw [htk]
        have e2 := take_over (c.map (Value.int .u8)) (cur.toList.drop c.length) (x.map (Value.int .u8)) lo (by simpa using hlo)
        rw [← e1] at e2
        simp only [List.length_map] at e2
        rw [e2]
        simp [over]

theorem run_append_over {P : Program} (W : World) (base : Nat) (t ty e : TypeId) (i : TypeInfo) (ht : P.underlying t = some (.slice e)) (hi : P.info? e = some i) (hz : i.zero = some (.int .u8 0)) (hsize : i.size = 1) (hby : i.bytes = 1)
    {v : Value} {c x : List Int} (hown : W.ownsRow base e 1 v c.length (c.map (Value.int .u8))) {vs : Value} (hx : Row .u8 W vs x) (h63 : c.length + x.length ≤ 140737488355328) (hbase : base ≤ W.heap.size) :
    ∃ p cap w', (Builtin.append_ #[t, t] ty #[v, vs]).run P W = .ok (.slice p (c.length + x.length) cap) w' ∧ w'.ownsRow base e 1 (.slice p (c.length + x.length) cap) (c.length + x.length) ((c ++ x).map (Value.int .u8)) ∧ W.grownBy w' v.ownBlock ∧
      ((Value.slice p (c.length + x.length) cap).ownBlock = v.ownBlock ∨ (Value.slice p (c.length + x.length) cap).ownBlock = some W.heap.size) := by
  obtain ⟨ps, cs, rfl, h1, h2, h3, h4⟩ := id hx
  cases ps with
  | none =>
    obtain rfl : cs = 0 := h3 rfl
    obtain rfl : x = [] := List.eq_nil_of_length_eq_zero (by omega)
    have hrun := run_append_owned_none (P := P) (w := W) base t ty e i 1 ht hi v c.length _ hown
    obtain ⟨p, cap, rfl⟩ : ∃ p cap, v = .slice p c.length cap := by
      rcases hown.2 with ⟨rfl, h0⟩ | ⟨g, cap, cur, rfl, _⟩
      · exact ⟨none, 0, by rw [h0]⟩
      · exact ⟨_, _, rfl⟩
    exact ⟨p, cap, W, by simpa using hrun, by simpa using hown, ⟨rfl, rfl, rfl, Nat.le_refl _, fun _ _ _ => rfl⟩, .inl rfl⟩
  | some ad =>
    obtain ⟨v', w', hrun, r1, r2, _, r4⟩ := run_append_own_at (P := P) W base t ty e i (.int .u8 0) 1 1 ht hi hz hsize hby rfl (by decide) v c.length _ hown ad x.length cs (x.map (Value.int .u8)) (by simp) (fun j u hj => by
      have hl : x ≠ [] := by rintro rfl; simp at hj
      obtain ⟨b, o', cap', he, _, hc⟩ := hx.news hl
      simp only [Value.slice.injEq, Option.some.injEq] at he
      rw [he.1]
      exact hc j u hj) (ints_one .u8 x) (by unfold maxLen; omega) (by omega) hbase
    obtain ⟨p, cap, rfl⟩ : ∃ p cap, v' = .slice p (c.length + x.length) cap := by
      rcases r1.2 with ⟨rfl, h0⟩ | ⟨g, cap, cur, rfl, _⟩
      · exact ⟨none, 0, by rw [h0]⟩
      · exact ⟨_, _, rfl⟩
    exact ⟨p, cap, w', hrun, by simpa using r1, r2, r4⟩

/-- A builtin copy or append as one step of a region that draws its order. -/
theorem step_copy {P : Program} {ops : Array Oper} {o : Oper} {a : Act} {w : World} {K : Act → World → Prop} {Q : Exit → Act → World → Prop} {E : Prop} (hgd : o.guard = none) (d s : Operand) (dT sT : TypeId)
    (ho : o.op = .call { callee := .builtin .copy, args := #[d, s], argTypes := #[dT, sT] }) (dv sv : Value) (hd : a.eval d = dv) (hs : a.eval s = sv) {r : Value} {w' : World}
    (hrun : (Builtin.copy_ #[dT, sT] o.type #[dv, sv]).run P w = .ok r w') (h : K (a.put o.dst r) w') :
    if Region.wanted o (yielded ops a.tmps) = true then Oper.wp P o a w K Q else E := by
  have hw : Region.wanted o (yielded ops a.tmps) = true := by simp [Region.wanted, hgd]
  rw [if_pos hw]
  unfold Oper.wp
  simp [execOp, ho, resolve, invoke, builtin, hd, hs, hrun, Result.andThen]
  exact h
theorem step_append {P : Program} {ops : Array Oper} {o : Oper} {a : Act} {w : World} {K : Act → World → Prop} {Q : Exit → Act → World → Prop} {E : Prop} (hgd : o.guard = none) (d s : Operand) (dT sT : TypeId)
    (ho : o.op = .call { callee := .builtin .append, args := #[d, s], argTypes := #[dT, sT] }) (dv sv : Value) (hd : a.eval d = dv) (hs : a.eval s = sv) {r : Value} {w' : World}
    (hrun : (Builtin.append_ #[dT, sT] o.type #[dv, sv]).run P w = .ok r w') (h : K (a.put o.dst r) w') :
    if Region.wanted o (yielded ops a.tmps) = true then Oper.wp P o a w K Q else E := by
  have hw : Region.wanted o (yielded ops a.tmps) = true := by simp [Region.wanted, hgd]
  rw [if_pos hw]
  unfold Oper.wp
  simp [execOp, ho, resolve, invoke, builtin, hd, hs, hrun, Result.andThen]
  exact h

end Go.Proofs.YtikpckmlnhcddaaGreat
