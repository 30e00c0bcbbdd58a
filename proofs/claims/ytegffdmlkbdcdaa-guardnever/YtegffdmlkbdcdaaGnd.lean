/-
  Two regions and an arbiter, as they lie in memory. No conditions.
-/
import Derived.Test.YtegffdmlkbdcdaaGnc
import Derived.Test.YtegffdmlkbdcdaaGdj
namespace Go.Proofs.Ytegffdmlkbdcdaa
open Go.ChangeShapes Go.WideShapes Go.ChangeAt Go.RowKit

def stampD (p : Int × Int) : DataW Unit := .agg [.lit (.int .i64 p.1), .lit (.int .i64 p.2)]
def stampE (v : Value) : Option (DataW Unit × List MemPlace) :=
  match v with
  | .agg cs => (match cs.toList with
    | [.int .i64 a, .int .i64 b] => some (stampD (a, b), [])
    | _ => none)
  | _ => none
theorem stamp_inv {v : Value} {p : Int × Int} {ps : List MemPlace} (h : stampE v = some (stampD p, ps)) : v = .agg #[.int .i64 p.1, .int .i64 p.2] := by
  unfold stampE at h
  split at h
  · rename_i cs
    split at h
    · rename_i a b hc
      simp only [stampD, Option.some.injEq, Prod.mk.injEq, DataW.agg.injEq, List.cons.injEq, DataW.lit.injEq, Lit.int.injEq, true_and, and_true] at h
      obtain ⟨⟨h1, h2⟩, _⟩ := h
      have : cs = #[.int .i64 a, .int .i64 b] := by rw [← Array.toList_inj]; exact hc
      rw [this, h1, h2]
    · cases h
  · cases h
/-- A map as it lies: n: how many may be in it. -/
def MapF (w : World) (m n : Nat) (f : Int → Int × Int) : Prop := ∃ D : DataW Unit, w.ownsMap Try.prog 2 stampE m n D ∧ ∀ x, D.atKey (.int .i64 x) (stampD (0, 0)) = stampD (f x)
theorem keyM : Maps.Keyed Try.prog 2 := Maps.int_keyed Try.underlying2
theorem MapF.later {w w' : World} {m n : Nat} {f : Int → Int × Int} (h : MapF w m n f) (hb : Below w.heap.size w w') : MapF w' m n f := by
  obtain ⟨D, h1, h2⟩ := h
  exact ⟨D, h1.kept ⟨hb.os, hb.tape, hb.output, hb.size, fun i hi _ => hb.block i hi⟩ (row := none) (by simp), h2⟩
theorem MapF.lt {w : World} {m n : Nat} {f : Int → Int × Int} (h : MapF w m n f) : m < w.heap.size := by
  obtain ⟨D, h1, _⟩ := h
  exact h1.lt
theorem MapF.only {w w' : World} {m n b : Nat} {f : Int → Int × Int} (h : MapF w m n f) (ho : Only (· = b) w w') (hne : m ≠ b) : MapF w' m n f := by
  obtain ⟨D, h1, h2⟩ := h
  exact ⟨D, h1.kept ⟨ho.os, ho.tape, ho.output, ho.size, fun i hi hr => ho.block i hi (fun e => hr (by have e' : i = b := e; rw [e']))⟩ (row := some b) (by simpa using hne), h2⟩
theorem MapF.mono {w : World} {m n n' : Nat} {f : Int → Int × Int} (h : MapF w m n f) (hn : n ≤ n') : MapF w m n' f := by
  obtain ⟨D, h1, h2⟩ := h
  exact ⟨D, h1.mono hn, h2⟩
theorem wf_i64M {n : Int} (h0 : 0 ≤ n) (h1 : n ≤ 9007199254740992) : (Lit.int .i64 n).wf = true := by simp [Lit.wf, IntKind.min, IntKind.max, IntKind.signed, IntKind.bits]; omega
theorem run_mkmapM (w : World) : (Instr.makeMap 43 none).run Try.prog w = .ok (.map (some w.heap.size)) (w.alloc (.map #[] 0)) := by
  simp [Instr.makeMap, Result.andThen]
theorem MapF.made (w : World) : MapF (w.alloc (.map #[] 0)) w.heap.size 0 (fun _ => (0, 0)) := ⟨.map [], World.ownsMap_made w _ _ _, fun _ => rfl⟩
theorem MapF.put {w : World} {m n : Nat} {f : Int → Int × Int} (h : MapF w m n f) {k a b : Int} (h0 : 0 ≤ k) (h1 : k ≤ 9007199254740992) (hn : n < maxLen) :
    ∃ w', (Instr.mapUpdate 43 (.map (some m)) (.int .i64 k) (.agg #[.int .i64 a, .int .i64 b])).run Try.prog w = .ok () w' ∧ MapF w' m (n + 1) (updF f k (a, b)) ∧ Only (· = m) w w' := by
  obtain ⟨D, h2, h3⟩ := h
  have hk : keyOf Try.prog 2 (.int .i64 k) = some (.int .i64 k) := Maps.keyOf_int_mk Try.underlying2 (wf_i64M h0 h1)
  obtain ⟨w', hr, h4, h5⟩ := h2.update (val := .agg #[.int .i64 a, .int .i64 b]) (d := stampD (a, b)) (ps := []) keyM Try.underlying43 hn hk rfl
  refine ⟨w', hr, ⟨_, h4, fun x => ?_⟩, Only.of_grown h5 (fun k hk => by simpa using hk.symm)⟩
  unfold updF
  by_cases hx : x = k
  · subst hx
    rw [if_pos rfl]
    exact Maps.atKey_put_same h2.isMap (by simp [WideAt.IsKeyLit]) _ _
  · rw [if_neg hx, Maps.atKey_put_other (by simpa using hx)]
    exact h3 x
theorem MapF.look {w : World} {m n : Nat} {f : Int → Int × Int} (h : MapF w m n f) {k : Int} (h0 : 0 ≤ k) (h1 : k ≤ 9007199254740992) :
    (Instr.lookup 43 (.map (some m)) (.int .i64 k) false).run Try.prog w = .ok (.agg #[.int .i64 (f k).1, .int .i64 (f k).2]) w := by
  obtain ⟨D, h2, h3⟩ := h
  have hk : keyOf Try.prog 2 (.int .i64 k) = some (.int .i64 k) := Maps.keyOf_int_mk Try.underlying2 (wf_i64M h0 h1)
  have hz : (zeroValue 46).run Try.prog w = .ok (.agg #[.int .i64 0, .int .i64 0]) w := by simp [zeroValue]; rfl
  obtain ⟨v, ps, hr, hv⟩ := h2.lookup keyM Try.underlying43 hz (zd := stampD (0, 0)) (zp := []) rfl hk
  rw [h3] at hv
  rw [stamp_inv hv] at hr
  exact hr
/-- The cells of a play. -/
def prow (p : PL) (sp : Option Addr) (n cap mA mB : Nat) : Array Value :=
  #[.int .i64 p.r0.g.ck, .int .i64 p.r0.g.ep, .int .i64 p.r0.g.un, .int .i64 p.r0.g.se, .int .i64 p.r0.g.ki, .int .i64 p.r0.g.ak, .int .i64 p.r1.g.ck, .int .i64 p.r1.g.ep, .int .i64 p.r1.g.un, .int .i64 p.r1.g.se, .int .i64 p.r1.g.ki, .int .i64 p.r1.g.ak,
    .int .i64 p.l.own, .int .i64 p.l.last, .int .i64 p.l.ep, .int .i64 p.l.clk, .int .i64 p.l.til, .bool p.l.solo, .slice sp n cap, .int .i64 p.ck, .map (some mA), .map (some mB),
    .int .i64 p.r0.a, .int .i64 p.r0.b, .int .i64 p.r1.a, .int .i64 p.r1.b, .bool p.r0.had, .bool p.r1.had]
/-- A play as it lies: its block, its letters, its maps. -/
structure PRep (B : Nat) (W : World) (pB mA mB n : Nat) (p : PL) (sp : Option Addr) (cap : Nat) (wd : World) : Prop where
  box : wd.heap[pB]? = some (.cells (prow p sp p.bag.length cap mA mB) 50 (0, 0))
  bag : wd.ownsRow B 64 5 (.slice sp p.bag.length cap) p.bag.length (p.bag.flatMap LT.cells)
  ma : MapF wd mA n p.r0.f
  mb : MapF wd mB n p.r1.f
  ne : mA ≠ mB ∧ B ≤ pB ∧ B ≤ mA ∧ B ≤ mB
  below : Below B W wd
theorem cellB {W : World} {b i : Nat} {cs : Array Value} {t : TypeId} {v : Value} (h : W.heap[b]? = some (.cells cs t (0, 0))) (hv : cs[i]? = some v) : W.cell? ⟨b, i, none⟩ = some v := by
  simp [World.cell?, h, hv]
theorem frB {W : World} {b i : Nat} {cs : Array Value} {t : TypeId} (h : W.heap[b]? = some (.cells cs t (0, 0))) : W.frozen? ⟨b, i, none⟩ = false := by
  simp [World.frozen?, h]
theorem PRep.later {B : Nat} {W : World} {pB mA mB n : Nat} {p : PL} {sp : Option Addr} {cap : Nat} {wd w' : World} (h : PRep B W pB mA mB n p sp cap wd) (b : Below wd.heap.size wd w') : PRep B W pB mA mB n p sp cap w' :=
  ⟨below_box b h.box, ownsRow_later h.bag b, h.ma.later b, h.mb.later b, h.ne, below_next h.below b (Nat.le_trans h.ne.2.1 (Nat.le_of_lt (box_lt h.box)))⟩
theorem map_box {w : World} {m n b : Nat} {f : Int → Int × Int} {cs : Array Value} {t : TypeId} {fr : Nat × Nat} (h : MapF w m n f) (hb : w.heap[b]? = some (.cells cs t fr)) : m ≠ b := fun e => by
  obtain ⟨D, ⟨es, clock, h1, _⟩, _⟩ := h
  rw [e, hb] at h1
  cases h1
theorem bag_box {w : World} {base k n b : Nat} {v : Value} {xs : List Value} {cs : Array Value} {t t' : TypeId} {fr : Nat × Nat} (h : w.ownsRow base t k v n xs) (hb : w.heap[b]? = some (.cells cs t' fr)) (ht : t ≠ t') : ∀ i, v.ownBlock = some i → i ≠ b := fun i hi e => by
  obtain ⟨_, c2, h3⟩ := own_block_lt h hi
  rw [e, hb] at h3
  simp at h3
  exact ht h3.2.1.symm
/-- The block is written to, and nothing else. -/
theorem PRep.put {B : Nat} {W : World} {pB mA mB n : Nat} {p q : PL} {sp : Option Addr} {cap : Nat} {wd w' : World} (h : PRep B W pB mA mB n p sp cap wd) (ho : Only (· = pB) wd w')
    (hb : w'.heap[pB]? = some (.cells (prow q sp q.bag.length cap mA mB) 50 (0, 0))) (h1 : q.bag = p.bag) (h2 : q.r0.f = p.r0.f) (h3 : q.r1.f = p.r1.f) : PRep B W pB mA mB n q sp cap w' := by
  refine ⟨hb, ?_, ?_, ?_, h.ne, h.below.trans (ho.below (Nat.le_trans h.ne.2.1 (Nat.le_of_lt (box_lt h.box))) (fun i e => by have e' : i = pB := e; have := h.ne; omega))⟩
  · rw [h1]; exact ownsRow_only h.bag ho (bag_box h.bag h.box (by decide))
  · rw [h2]; exact h.ma.only ho (map_box h.ma h.box)
  · rw [h3]; exact h.mb.only ho (map_box h.mb h.box)
end Go.Proofs.Ytegffdmlkbdcdaa
