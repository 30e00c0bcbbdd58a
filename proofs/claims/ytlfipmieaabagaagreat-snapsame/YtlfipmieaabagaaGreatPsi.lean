/-
  How an argument that is a graph is opened, with what the first form's bound says of its lists. No condition.
-/
import Derived.Test.YtlfipmieaabagaaGreatGar
import Derived.SizedLaws
import Derived.Test.YtlfipmieaabagaaGreatPsd
namespace Go.Proofs.YtlfipmieaabagaaGreat
open Go.ChangeShapes Go.WideShapes Go.ChangeAt Go.RowKit

/-- Every slice of a datum is of at most so many bytes. -/
def Sz {H : Type} (t : TypeId) (d : DataW H) : Prop := (d.weights Tryz.prog t).all (· ≤ reachBytes) = true
theorem sz_each {H : Type} {ts : List TypeId} {ds : List (DataW H)} (h : (DataW.weightsEach Tryz.prog ts ds).all (· ≤ reachBytes) = true) {j : Nat} {t : TypeId} {d : DataW H} (ht : ts[j]? = some t) (hd : ds[j]? = some d) : Sz t d :=
  List.all_eq_true.2 (fun w hw => List.all_eq_true.1 h w (DataW.weights_mem_each ht hd w hw))
theorem sz_field {H : Type} {t ty : TypeId} {fs : Array Field} {ds : List (DataW H)} {d : DataW H} {j : Nat} (hu : Tryz.prog.underlying t = some (.struct fs)) (h : Sz t (.agg ds)) (ht : (fs.toList.map (·.type))[j]? = some ty) (hd : ds[j]? = some d) : Sz ty d := by
  unfold Sz at h
  simp only [DataW.weights, hu] at h
  exact sz_each h ht hd
theorem all_mem {H : Type} {e : TypeId} {d : DataW H} : ∀ (ds : List (DataW H)), d ∈ ds → ∀ w ∈ d.weights Tryz.prog e, w ∈ DataW.weightsAll Tryz.prog e ds
  | [], h, _, _ => by cases h
  | x :: ds, h, w, hw => by
    simp only [DataW.weightsAll, List.mem_append]
    rcases List.mem_cons.1 h with e | e
    · left; rw [← e]; exact hw
    · right; exact all_mem ds e w hw
theorem sz_elem {H : Type} {t e : TypeId} {es sp : List (DataW H)} {d : DataW H} (hu : Tryz.prog.underlying t = some (.slice e)) (h : Sz t (.slice es sp)) (hd : d ∈ es) : Sz e d := by
  unfold Sz at h
  simp only [DataW.weights, hu] at h
  refine List.all_eq_true.2 (fun w hw => List.all_eq_true.1 h w ?_)
  simp only [List.mem_cons, List.mem_append]
  exact .inr (.inl (all_mem es hd w hw))
theorem sized_of {H : Type} {t e : TypeId} {d : DataW H} {len cap bytes : Nat} (h : Sz t d) (hu : Tryz.prog.underlying t = some (.slice e)) (hb : Tryz.prog.bytesOf e = bytes) (hD : DatumOf d len cap) : len * bytes ≤ 140737488351232 := by
  rcases hD with ⟨_, hl, _⟩ | ⟨elems, spare, rfl, hl, _⟩
  · rw [hl]; omega
  · have h9 : (elems.length + spare.length) * Tryz.prog.bytesOf e ≤ reachBytes := by
      unfold Sz at h
      simp only [DataW.weights, hu] at h
      have := List.all_eq_true.1 h ((elems.length + spare.length) * Tryz.prog.bytesOf e) (by simp)
      simpa using this
    rw [hb] at h9
    have h2 : len * bytes ≤ (elems.length + spare.length) * bytes := Nat.mul_le_mul_right _ (by omega)
    unfold reachBytes at h9
    omega
/-- A slice of elements that are each of n cells and told by R. -/
theorem arg_listS {H α : Type} [Inhabited α] {enc : TypeId × Value → H} {W : World} {t e : TypeId} {n fuel : Nat} {c : Value} {x : DataW H × List MemPlace} {cells : α → List Value} {wt : α → Nat} {R : α → Prop} (hn : 0 < n)
    (ht : Tryz.prog.underlying t = some (.slice e)) (hc : Tryz.prog.cellsOf e = n)
    (hone : ∀ (fuel : Nat) (cs : List Value) (y : DataW H × List MemPlace), cs.length = n → Sz e y.1 → DataW.trod enc Tryz.prog W 0 (fun _ => true) true fuel e cs = some y → ∃ o : α, cs = cells o ∧ R o ∧ wt o ≤ Rows.uptoBulk y.1)
    (hf : DataW.trod enc Tryz.prog W 0 (fun _ => true) true fuel t [c] = some x) (hsz : Sz t x.1) :
    ∃ (p : Option Addr) (cap : Nat) (os : List α), c = .slice p os.length cap ∧ os.length ≤ cap ∧ cap ≤ 9223372036854775807 ∧ (∀ o ∈ os, R o) ∧
      (∀ i, i < os.length → ∃ g k, p = some ⟨g, k, none⟩ ∧ ∀ j, j < n → W.cell? ⟨g, k + i * n + j, none⟩ = (cells os[i]!)[j]?) ∧ (os.map wt).sum + 1 ≤ Rows.uptoBulk x.1 ∧ (p = none → cap = 0) ∧ DatumOf x.1 os.length cap := by
  rcases DataW.trod_slice ht hf with ⟨h0, hx⟩ | ⟨a, len, cap, elems, rest, m, _, h0, hx, _, hl, hm, hlen, hel, hsp, _⟩
  · simp at h0
    subst h0
    exact ⟨none, 0, [], rfl, Nat.le_refl _, by decide, by simp, fun i hi => by simp at hi, by rw [hx]; simp [Rows.uptoBulk], fun _ => rfl, .inl ⟨by rw [hx], rfl, rfl⟩⟩
  · simp at h0
    subst h0
    have each : ∀ i, i < len → ∃ o : α, R o ∧ (∀ j, j < n → W.cell? ((a.add (i * n)).add j) = (cells o)[j]?) ∧ (∀ y, elems[i]? = some y → wt o ≤ Rows.uptoBulk y.1) := by
      intro i hi
      have h := hel i hi
      rw [List.getElem?_eq_getElem (by omega), hc, Option.bind_eq_some_iff] at h
      obtain ⟨cs, h1, h2⟩ := h
      obtain ⟨k1, k2⟩ := cells_get h1
      obtain ⟨o, e1, e2, e3⟩ := hone _ _ _ k1 (sz_elem ht (by rw [hx] at hsz; exact hsz) (List.mem_map.2 ⟨_, List.getElem_mem (by omega), rfl⟩)) h2
      subst e1
      refine ⟨o, e2, k2, fun y hy => ?_⟩
      rw [List.getElem?_eq_getElem (by omega)] at hy
      simp only [Option.some.injEq] at hy
      rw [← hy]
      exact e3
    obtain ⟨os, h1, h2⟩ := pick_list each
    refine ⟨some a, cap, os, by rw [h1], by omega, by unfold maxLen at hm; omega, fun o ho => ?_, fun i hi => ?_, ?_, (fun h => by cases h), .inr ⟨elems.map (·.1), rest.map (·.1), by rw [hx], by simp; omega, ?_⟩⟩
    · obtain ⟨i, hi, rfl⟩ := List.getElem_of_mem ho
      have := (h2 i (by omega)).1
      rw [getElem!_pos os i hi] at this
      exact this
    · obtain ⟨g, o, s⟩ := a
      obtain rfl : s = none := by
        have h00 := hel 0 (by omega)
        rw [List.getElem?_eq_getElem (by omega), hc, Option.bind_eq_some_iff] at h00
        obtain ⟨cs, h1', _⟩ := h00
        obtain ⟨k1, k2⟩ := cells_get h1'
        have k3 := k2 0 hn
        rw [List.getElem?_eq_getElem (by omega)] at k3
        have := World.cell?_spot k3
        simpa [Addr.add] using this
      refine ⟨g, o, rfl, fun j hj => ?_⟩
      have := (h2 i (by omega)).2.1 j hj
      rw [Go.WideShapes.add_plain, Go.WideShapes.add_plain] at this
      exact this
    · rw [hx]
      simp only [Rows.uptoBulk]
      have key : ∀ (os : List α) (ds : List (DataW H × List MemPlace)), os.length = ds.length → (∀ i, i < os.length → ∀ y, ds[i]? = some y → wt os[i]! ≤ Rows.uptoBulk y.1) → (os.map wt).sum ≤ Rows.uptoBulkAll (ds.map (·.1)) := by
        intro os
        induction os with
        | nil => intro ds _ _; simp
        | cons o os ih =>
          intro ds hl h
          cases ds with
          | nil => simp at hl
          | cons d ds =>
            have a1 := h 0 (by simp) d rfl
            have a2 := ih ds (by simpa using hl) (fun i hi y hy => by
              have := h (i + 1) (by simp; omega) y (by simpa using hy)
              have e : (o :: os)[i + 1]! = os[i]! := by rw [getElem!_pos (o :: os) (i + 1) (by simp; omega), getElem!_pos os i hi]; rfl
              rw [e] at this
              exact this)
            have e0 : (o :: os)[0]! = o := rfl
            rw [e0] at a1
            simp only [List.map_cons, List.sum_cons, Rows.uptoBulkAll]
            omega
      have := key os elems (by omega) (fun i hi y hy => (h2 i (by omega)).2.2 y hy)
      omega
    · have := (hsp rfl).1
      simp
      omega
theorem arg_edges2 {H : Type} {enc : TypeId × Value → H} {W : World} {fuel : Nat} {c : Value} {x : DataW H × List MemPlace} (h : DataW.trod enc Tryz.prog W 0 (fun _ => true) true fuel 93 [c] = some x) :
    ∃ (ip : Option Addr) (ic : Nat) (es : List GE), c = .slice ip es.length ic ∧ ERow W ip ic es ∧ (∀ e ∈ es, e.fine) ∧ es.length + 1 ≤ Rows.uptoBulk x.1 ∧ DatumOf x.1 es.length ic := by
  obtain ⟨p, cap, es, h1, h2, h3, h4, h5, h6, _, h8⟩ := arg_list (cells := GE.cells) (wt := fun _ => 1) (R := GE.fine) (by decide) Tryz.underlying93 Tryz.cellsEdge arg_edge h
  refine ⟨p, cap, es, h1, ⟨h2, h3, fun i hi => ?_⟩, h4, ?_, h8⟩
  · obtain ⟨g, k, e, hc⟩ := h5 i hi
    exact ⟨g, k, e, hc 0 (by decide), hc 1 (by decide)⟩
  · rw [sum_ones] at h6
    exact h6
theorem arg_opS {H : Type} {enc : TypeId × Value → H} {W : World} (fuel : Nat) (cs : List Value) (y : DataW H × List MemPlace) (hl : cs.length = 5) (hsz : Sz 95 y.1) (h : DataW.trod enc Tryz.prog W 0 (fun _ => true) true fuel 95 cs = some y) :
    ∃ o : OV, cs = o.cells ∧ (o.ok W ∧ o.o.fine ∧ o.o.ins.length * 16 ≤ 140737488351232) ∧ o.o.wt ≤ Rows.uptoBulk y.1 := by
  match cs, hl with
  | [c0, c1, c2, c3, c4], _ =>
    obtain ⟨xs, m, _, hy, _, hxl, hfs⟩ := DataW.trod_struct Tryz.underlying95 h
    have hxl' : xs.length = 5 := hxl
    match xs, hxl' with
    | [y0, y1, y2, y3, y4], _ =>
      have g0 : DataW.trod enc Tryz.prog W 0 (fun _ => true) true m 3 (([c0, c1, c2, c3, c4].drop 0).take (Tryz.prog.cellsOf 3)) = [y0, y1, y2, y3, y4][0]? := hfs 0 _ rfl
      rw [Tryz.cellsInt] at g0
      replace g0 : DataW.trod enc Tryz.prog W 0 (fun _ => true) true m 3 [c0] = some y0 := g0
      have g1 : DataW.trod enc Tryz.prog W 0 (fun _ => true) true m 3 (([c0, c1, c2, c3, c4].drop 1).take (Tryz.prog.cellsOf 3)) = [y0, y1, y2, y3, y4][1]? := hfs 1 _ rfl
      rw [Tryz.cellsInt] at g1
      replace g1 : DataW.trod enc Tryz.prog W 0 (fun _ => true) true m 3 [c1] = some y1 := g1
      have g2 : DataW.trod enc Tryz.prog W 0 (fun _ => true) true m 3 (([c0, c1, c2, c3, c4].drop 2).take (Tryz.prog.cellsOf 3)) = [y0, y1, y2, y3, y4][2]? := hfs 2 _ rfl
      rw [Tryz.cellsInt] at g2
      replace g2 : DataW.trod enc Tryz.prog W 0 (fun _ => true) true m 3 [c2] = some y2 := g2
      have g3 : DataW.trod enc Tryz.prog W 0 (fun _ => true) true m 2 (([c0, c1, c2, c3, c4].drop 3).take (Tryz.prog.cellsOf 2)) = [y0, y1, y2, y3, y4][3]? := hfs 3 _ rfl
      rw [Tryz.cellsI64] at g3
      replace g3 : DataW.trod enc Tryz.prog W 0 (fun _ => true) true m 2 [c3] = some y3 := g3
      have g4 : DataW.trod enc Tryz.prog W 0 (fun _ => true) true m 93 (([c0, c1, c2, c3, c4].drop 4).take (Tryz.prog.cellsOf 93)) = [y0, y1, y2, y3, y4][4]? := hfs 4 _ rfl
      rw [Tryz.cellsEdges] at g4
      replace g4 : DataW.trod enc Tryz.prog W 0 (fun _ => true) true m 93 [c4] = some y4 := g4
      obtain ⟨n0, e0, _, w0⟩ := DataW.trod_int Tryz.underlying3 g0
      obtain ⟨n1, e1, _, w1⟩ := DataW.trod_int Tryz.underlying3 g1
      obtain ⟨n2, e2, _, w2⟩ := DataW.trod_int Tryz.underlying3 g2
      obtain ⟨n3, e3, _, w3⟩ := DataW.trod_int Tryz.underlying2 g3
      obtain ⟨ip, ic, es, e4, R, F, B, Dd⟩ := arg_edges2 g4
      have hS4 := sized_of (sz_field (j := 4) Tryz.underlying95 (by rw [hy] at hsz; exact hsz) rfl rfl) Tryz.underlying93 (bytes := 16) (by kernel_rfl) Dd
      simp only [List.cons.injEq, and_true] at e0 e1 e2 e3
      subst e0 e1 e2 e3 e4
      have b0 := bounds_i64 w0
      have b1 := bounds_i64 w1
      have b2 := bounds_i64 w2
      have b3 := bounds_i64 w3
      refine ⟨⟨⟨n0, n1, n2, n3, es⟩, ip, ic⟩, rfl, ⟨R, ⟨⟨b0.1, by have := b0.2; omega⟩, ⟨b1.1, by have := b1.2; omega⟩, ⟨b2.1, by have := b2.2; omega⟩, ⟨b3.1, by have := b3.2; omega⟩, F⟩, hS4⟩, ?_⟩
      rw [hy]
      have := bulk_one y0.1
      simp only [GO.wt, Rows.uptoBulk, Rows.uptoBulkAll, List.map_cons, List.map_nil]
      omega
theorem arg_graphS {H : Type} {enc : TypeId × Value → H} {W : World} {fuel : Nat} {cs : Array Value} {x : DataW H × List MemPlace} (hs : cs.size = 2) (hsz : Sz 24 x.1) (h : DataW.trod enc Tryz.prog W 0 (fun _ => true) true fuel 24 cs.toList = some x) :
    ∃ (parts : Int) (p : Option Addr) (cap : Nat) (os : List OV), cs = #[.int .i64 parts, .slice p os.length cap] ∧ I6 parts ∧ GRow W p cap os ∧ (∀ o ∈ os, o.o.fine) ∧ os.length * 56 ≤ 140737488351232 ∧ ∀ o ∈ os, o.o.ins.length * 16 ≤ 140737488351232 := by
  obtain ⟨cl⟩ := cs
  have hl : cl.length = 2 := by simpa using hs
  match cl, hl with
  | [c0, c1], _ =>
    obtain ⟨xs, m, _, hy, _, hxl, hfs⟩ := DataW.trod_struct Tryz.underlying24 h
    have hxl' : xs.length = 2 := hxl
    match xs, hxl' with
    | [y0, y1], _ =>
      have g0 : DataW.trod enc Tryz.prog W 0 (fun _ => true) true m 3 (([c0, c1].drop 0).take (Tryz.prog.cellsOf 3)) = [y0, y1][0]? := hfs 0 _ rfl
      rw [Tryz.cellsInt] at g0
      replace g0 : DataW.trod enc Tryz.prog W 0 (fun _ => true) true m 3 [c0] = some y0 := g0
      have g1 : DataW.trod enc Tryz.prog W 0 (fun _ => true) true m 22 (([c0, c1].drop 1).take (Tryz.prog.cellsOf 22)) = [y0, y1][1]? := hfs 1 _ rfl
      rw [Tryz.cellsOps] at g1
      replace g1 : DataW.trod enc Tryz.prog W 0 (fun _ => true) true m 22 [c1] = some y1 := g1
      obtain ⟨n0, e0, _, w0⟩ := DataW.trod_int Tryz.underlying3 g0
      have hS1 : Sz 22 y1.1 := sz_field (j := 1) Tryz.underlying24 (by rw [hy] at hsz; exact hsz) rfl rfl
      obtain ⟨p, cap, os, h1, h2, h3, h4, h5, h6, _, Dd⟩ := arg_listS (cells := OV.cells) (wt := fun o => o.o.wt) (R := fun o : OV => o.ok W ∧ o.o.fine ∧ o.o.ins.length * 16 ≤ 140737488351232) (by decide) Tryz.underlying22 Tryz.cellsOp arg_opS g1 hS1
      simp only [List.cons.injEq, and_true] at e0
      subst e0 h1
      have b0 := bounds_i64 w0
      exact ⟨n0, p, cap, os, rfl, ⟨b0.1, by have := b0.2; omega⟩, ⟨h2, h3, h5, fun o ho => (h4 o ho).1⟩, fun o ho => (h4 o ho).2.1, sized_of hS1 Tryz.underlying22 (bytes := 56) (by kernel_rfl) Dd, fun o ho => (h4 o ho).2.2⟩
end Go.Proofs.YtlfipmieaabagaaGreat

/-
  Clone of package snap: a state in memory of its own. The conditions: that it lies there, and that its lists are not too long.
-/
namespace Go.Proofs.YtlfipmieaabagaaGreat
open Go.RowKit Go.Shelf

theorem four_fz {w : World} {b : Nat} {t : TypeId} {c0 c1 c2 c3 : Value} (h : w.heap[b]? = some (.cells #[c0, c1, c2, c3] t (0, 0))) (o : Nat) : w.frozen? ⟨b, o, none⟩ = false := by simp [World.frozen?, h]
theorem safe_row {A : World} {base n k : Nat} {t : TypeId} {v : Value} {xs : List Value} (h : A.ownsRow base t k v n xs) (ht : t ≠ 48 ∧ t ≠ 49 ∧ t ≠ 51) : Safe (fun i => v.ownBlock = some i) A := fun i hi cs t' hc => by
  obtain ⟨_, c2, h3⟩ := own_block_lt h hi
  rw [h3] at hc
  simp at hc
  rw [← hc.2]
  exact ht
/-- Behind the first statement of Clone. -/
structure CF1 (W wd : World) (oB : Nat) (sv : Value) (cB rB : Nat) (q : Option Addr) (qc nv : Nat) (id out : Int) (vs : List Int) : Prop where
  src : wd.cell? ⟨oB, 3, none⟩ = some sv
  box : wd.heap[cB]? = some (.cells #[.int .i64 id, .slice q nv qc, .int .i64 out, .slice none 0 0] 28 (0, 0))
  vec : wd.ownsRow W.heap.size 2 1 (.slice q nv qc) nv (vs.flatMap intCells)
  res : wd.heap[rB]? = some (.cells #[.int .i64 0, .slice none 0 0, .int .i64 0, .slice none 0 0] 28 (0, 0))
  ge : W.heap.size ≤ cB ∧ cB ≠ rB
  below : Below W.heap.size W wd
/-- What a round of Clone keeps. -/
structure CFI (W wd : World) (cB rB : Nat) (q : Option Addr) (qc nv : Nat) (id out : Int) (vs : List Int) (xs : List TV) (k : Nat) : Prop where
  vec : wd.ownsRow W.heap.size 2 1 (.slice q nv qc) nv (vs.flatMap intCells)
  res : wd.heap[rB]? = some (.cells #[.int .i64 0, .slice none 0 0, .int .i64 0, .slice none 0 0] 28 (0, 0))
  below : Below W.heap.size W wd
  tasks : ∃ b bc, ∃ ys : List TV, wd.heap[cB]? = some (.cells #[.int .i64 id, .slice q nv qc, .int .i64 out, .slice b k bc] 28 (0, 0)) ∧ wd.ownsRow W.heap.size 46 3 (.slice b k bc) k (ys.flatMap TV.cells) ∧ ys.length = k ∧ ys.map TV.plain = (xs.map TV.plain).take k ∧ ∀ y ∈ ys, TVo y wd W.heap.size
/-- A state that nobody else has. -/
def CloneAt (W : World) (x : FP) (nv nt : Nat) (z : Ending) (w' : World) : Prop := ∃ q qc b bc, ∃ ys : List TV, z = .returned (.agg #[.int .i64 x.id, .slice q nv qc, .int .i64 x.out, .slice b nt bc]) ∧ w'.ownsRow W.heap.size 2 1 (.slice q nv qc) nv (x.vs.flatMap intCells) ∧ w'.ownsRow W.heap.size 46 3 (.slice b nt bc) nt (ys.flatMap TV.cells) ∧ ys.length = nt ∧ ys.map TV.plain = x.ts ∧ (∀ y ∈ ys, TVo y w' W.heap.size) ∧ Below W.heap.size W w'
set_option maxRecDepth 100000 in
set_option maxHeartbeats 8000000 in
theorem clone_all {W : World} {vp tp : Option Addr} {nv vc nt tc : Nat} {id out : Int} {vs : List Int} {xs : List TV} (h1 : NRow W vp vc vs) (h3 : TRow W tp tc xs) (hn1 : vs.length = nv) (hn3 : xs.length = nt) (hb1 : nv * 8 ≤ 140737488355328) (hb2 : nt * 56 ≤ 140737488355328) (hb3 : ∀ x ∈ xs, x.ks.length * 24 ≤ 140737488355328 ∧ x.xs.length * 24 ≤ 140737488355328 ∧ ∀ y ∈ x.xs, y.rs.length * 16 ≤ 140737488355328) :
    Calls Tryz.prog 14 #[.agg #[.int .i64 id, .slice vp nv vc, .int .i64 out, .slice tp nt tc]] W (CloneAt W ⟨id, vs, out, xs.map TV.plain⟩ nv nt) := by
  obtain ⟨V0, hV0⟩ : ∃ V0, V0 = W.alloc (.cells #[.int .i64 id, .slice vp nv vc, .int .i64 out, .slice tp nt tc] 28 (0, 0)) := ⟨_, rfl⟩
  obtain ⟨V, hV⟩ : ∃ V, V = V0.alloc (.cells #[.int .i64 0, .slice none 0 0, .int .i64 0, .slice none 0 0] 28 (0, 0)) := ⟨_, rfl⟩
  have a1 : Below W.heap.size W V0 := by rw [hV0]; exact alloc_below _ _
  have a2 : Below V0.heap.size V0 V := by rw [hV]; exact alloc_below _ _
  obtain ⟨oB, hoB⟩ : ∃ oB, W.heap.size = oB := ⟨_, rfl⟩
  obtain ⟨rB, hrB⟩ : ∃ rB, V0.heap.size = rB := ⟨_, rfl⟩
  have hs0 : V0.heap.size = W.heap.size + 1 := by rw [hV0]; simp
  have hor : oB + 1 = rB := by omega
  have u0 : V.heap[oB]? = some (.cells #[.int .i64 id, .slice vp nv vc, .int .i64 out, .slice tp nt tc] 28 (0, 0)) := by rw [← hoB]; exact below_box a2 (by rw [hV0]; exact heap_alloc_new W _)
  have u1 : V.heap[rB]? = some (.cells #[.int .i64 0, .slice none 0 0, .int .i64 0, .slice none 0 0] 28 (0, 0)) := by rw [hV, ← hrB]; exact heap_alloc_new V0 _
  have HBV : Hid (Below W.heap.size W V) := hide (a1.trans (a2.mono a1.size))
  have HU1 := hide u1
  have HK := hide h1
  have HX := hide h3
  have HNK := hide hn1
  have HNB := hide hn3
  have HB3 := hide hb3
  have i1 := h3.row.le
  have i2 := h3.row.top
  rw [hn3] at i1
  have HOC : Hid (W.heap.size = oB ∧ oB + 1 = rB ∧ rB < V.heap.size) := hide ⟨hoB, hor, (Array.getElem?_eq_some_iff.1 u1).1⟩
  obtain ⟨x0, x1, x2, x3⟩ := box4 u0
  clear h1 h3 hn1 hn3 hb3 a1 a2 u0 u1 hs0
  go_enter Tryz.func14, Tryz.ntmps14
  go_upto_region 1 with fail
  try rw [hoB]
  try rw [hor]
  rw [← hV0, ← hV]
  try rw [hrB]
  clear hV0 hV hoB hrB hor
  go_cut [3] from 6 to 13 (fun s3 wd => ∃ (cB : Nat) (q : Option Addr) (qc : Nat), s3 = .pointer (some ⟨cB, 0, none⟩) ∧ Hid (CF1 W wd oB (.slice tp nt tc) cB rB q qc nv id out vs))
  case first =>
    refine wp_region_held_drew (S := fun w' => w'.cell? ⟨oB, 0, none⟩ = some (.int .i64 id) ∧ w'.cell? ⟨oB, 1, none⟩ = some (.slice vp nv vc) ∧ w'.cell? ⟨oB, 2, none⟩ = some (.int .i64 out)) (by kernel_rfl) ⟨x0, x1, x2⟩ (fun hHeld => ?_)
    refine wpAnyH_take (i := 0) (oi := _) (v := ?_) rfl (by kernel_rfl) (by kernel_rfl) (by kernel_rfl) (fun _ _ _ h => h) (Or.inl ⟨by rfl, ?_⟩) (by assumption) ?_
    rotate_left
    · intro w hSw
      (try dsimp only at hSw)
      go_simp
      all_goals with_reducible rfl
    simp only [Act.put]
    refine wpAnyH_take (i := 1) (oi := _) (v := ?_) rfl (by kernel_rfl) (by kernel_rfl) (by kernel_rfl) (fun _ _ _ h => h) (Or.inl ⟨by rfl, ?_⟩) (by assumption) ?_
    rotate_left
    · intro w hSw
      (try dsimp only at hSw)
      go_simp
      all_goals with_reducible rfl
    simp only [Act.put]
    refine wpAnyH_take (i := 2) (oi := _) (v := ?_) rfl (by kernel_rfl) (by kernel_rfl) (by kernel_rfl) (fun _ _ _ h => h) (Or.inl ⟨by rfl, ?_⟩) (by assumption) ?_
    rotate_left
    · intro w hSw
      (try dsimp only at hSw)
      go_simp
      all_goals with_reducible rfl
    simp only [Act.put]
    refine wpAnyH_take (i := 3) (oi := _) (v := ?_) rfl (by kernel_rfl) (by kernel_rfl) (by kernel_rfl) (fun _ _ _ h => h) (Or.inl ⟨by rfl, ?_⟩) (by assumption) ?_
    rotate_left
    · intro w hSw
      (try dsimp only at hSw)
      go_simp
      all_goals with_reducible rfl
    simp only [Act.put]
    refine wpAnyH_take (i := 5) (oi := _) (v := ?_) rfl (by kernel_rfl) (by kernel_rfl) (by kernel_rfl) (fun _ _ _ h => h) (Or.inl ⟨by rfl, ?_⟩) (by assumption) ?_
    rotate_left
    · intro w hSw
      (try dsimp only at hSw)
      go_simp
      all_goals with_reducible rfl
    simp only [Act.put]
    refine wpAnyH_take (i := 6) (oi := _) (v := ?_) rfl (by kernel_rfl) (by kernel_rfl) (by kernel_rfl) (fun _ _ _ h => h) (Or.inl ⟨by rfl, ?_⟩) (by assumption) ?_
    rotate_left
    · intro w hSw
      (try dsimp only at hSw)
      go_simp
      all_goals with_reducible rfl
    simp only [Act.put]
    refine wpAnyH_ready (rs := [4, 8]) (by kernel_rfl) (by simp) ?_
    refine AllReadyH.cons (o := _) rfl (fun K hK => ?_) (AllReadyH.cons (o := _) rfl (fun K hK => ?_) AllReadyH.nil)
    · go_simp
      refine (cpnum_any (NRow.later HK.out ((HBV.out.trans ((Below.refl _ V).drew.mono HBV.out.size)))) HNK.out (by omega)).mono ?_
      rintro _ w1 ⟨q, qc, rfl, hown, b1⟩
      have B1 : Below V.heap.size V w1 := (Below.refl _ V).drew.trans b1
      have HR0 : Hid (CF1 W (w1.alloc (.cells #[.int .i64 id, .slice q nv qc, .int .i64 out, .slice none 0 0] 28 (0, 0))) oB (.slice tp nt tc) w1.heap.size rB q qc nv id out vs) :=
        hide ⟨cell_later (alloc_below w1 _) (cell_later B1 x3), heap_alloc_new w1 _, ownsRow_base (ownsRow_later hown (alloc_below w1 _)) (HBV.out.size), below_box (alloc_below w1 _) (below_box B1 HU1.out), ⟨Nat.le_trans HBV.out.size B1.size, by have := (Array.getElem?_eq_some_iff.1 (below_box B1 HU1.out)).1; omega⟩, (HBV.out.trans (B1.mono HBV.out.size)).trans ((alloc_below w1 _).mono (Nat.le_trans HBV.out.size B1.size))⟩
      have y0 := cell_later B1 x0
      have y1 := cell_later B1 x1
      have y2 := cell_later B1 x2
      clear hown b1
      go_wp2_with fail
      refine hK.out _ _ ⟨y0, y1, y2⟩ (fun hHeld => ?_)
      clear hK
      refine wpAnyH_take (i := 7) (oi := _) (v := ?_) rfl (by kernel_rfl) (by kernel_rfl) (by kernel_rfl) (fun _ _ _ h => h) (Or.inl ⟨by rfl, ?_⟩) (by assumption) ?_
      rotate_left
      · intro w hSw
        (try dsimp only at hSw)
        go_simp
        all_goals with_reducible rfl
      simp only [Act.put]
      refine wpAnyH_ready (rs := [8]) (by kernel_rfl) (by simp) ?_
      refine AllReadyH.cons (o := _) rfl (fun K hK => ?_) AllReadyH.nil
      go_simp
      refine hK.out _ _ (by go_keep) (fun hHeld => ?_)
      clear hK
      refine wpAnyH_ready (rs := [9]) (by kernel_rfl) (by simp) ?_
      refine AllReadyH.cons (o := _) rfl (fun K hK => ?_) AllReadyH.nil
      go_simp
      refine hK.out _ _ (by go_keep) (fun hHeld => ?_)
      clear hK
      refine wpAnyH_done (by kernel_rfl) ?_ _
      go_wp2_with fail
      go_meet
      case rel => exact ⟨_, q, qc, rfl, HR0⟩
    · go_simp
      refine hK.out _ _ (by go_keep) (fun hHeld => ?_)
      clear hK
      obtain ⟨V2, hV2⟩ : ∃ V2, V2 = V.alloc (.cells #[.int .i64 0, .slice none 0 0, .int .i64 0, .slice none 0 0] 28 (0, 0)) := ⟨_, rfl⟩
      have B2 : Below V.heap.size V V2 := by rw [hV2]; exact alloc_below _ _
      have hc2 : V2.heap[V.heap.size]? = some (.cells #[.int .i64 0, .slice none 0 0, .int .i64 0, .slice none 0 0] 28 (0, 0)) := by rw [hV2]; exact heap_alloc_new V _
      obtain ⟨cB, hcB⟩ : ∃ cB, V.heap.size = cB := ⟨_, rfl⟩
      rw [hcB] at hc2
      rw [← hV2] at hHeld
      have HCN : Hid (W.heap.size ≤ cB ∧ rB < cB) := hide ⟨by rw [← hcB]; exact HBV.out.size, by have := (Array.getElem?_eq_some_iff.1 HU1.out).1; omega⟩
      rw [← hV2]
      try rw [hcB]
      clear hV2 hcB
      refine wpAnyH_ready (rs := [4]) (by kernel_rfl) (by simp) ?_
      refine AllReadyH.cons (o := _) rfl (fun K hK => ?_) AllReadyH.nil
      go_simp
      refine (cpnum_any (NRow.later HK.out (HBV.out.trans ((B2.trans ((Below.refl _ V2).drew.mono B2.size)).mono HBV.out.size))) HNK.out (by omega)).mono ?_
      rintro _ w1 ⟨q, qc, rfl, hown, b1⟩
      have B1 : Below V2.heap.size V2 w1 := (Below.refl _ V2).drew.trans b1
      have B3 : Below V.heap.size V w1 := B2.trans (B1.mono B2.size)
      have hc3 := below_box B1 hc2
      have HOW := hide (ownsRow_base hown (Nat.le_trans HBV.out.size B2.size))
      obtain ⟨c0, c1, c2, c3⟩ := box4 hc3
      have z0 := four_fz hc3 0
      have z1 := four_fz hc3 1
      have z2 := four_fz hc3 2
      have z3 := four_fz hc3 3
      have y0 := cell_later B3 x0
      have y1 := cell_later B3 x1
      have y2 := cell_later B3 x2
      have ho3 : Only (· = cB) w1 ((((w1.setCell ⟨cB, 0, none⟩ (.int .i64 id)).setCell ⟨cB, 1, none⟩ (.slice q nv qc)).setCell ⟨cB, 2, none⟩ (.int .i64 out)).setCell ⟨cB, 3, none⟩ (.slice none 0 0)) := four_only w1 cB _ _ _ _
      have HR1 : Hid (CF1 W ((((w1.setCell ⟨cB, 0, none⟩ (.int .i64 id)).setCell ⟨cB, 1, none⟩ (.slice q nv qc)).setCell ⟨cB, 2, none⟩ (.int .i64 out)).setCell ⟨cB, 3, none⟩ (.slice none 0 0)) oB (.slice tp nt tc) cB rB q qc nv id out vs) := hide ⟨ho3.cell (cell_later B3 x3) (fun e => by have e' : oB = cB := e; have := HOC.out; have := HCN.out; omega), four_set hc3 _ _ _ _, own_apart HOW.out ho3 (box_type hc3 (by decide)), ho3.obj (below_box B3 HU1.out) (fun e => by have e' : rB = cB := e; have := HCN.out; omega), ⟨HCN.out.1, by have := HCN.out; omega⟩, (HBV.out.trans (B3.mono HBV.out.size)).trans (ho3.below (Nat.le_trans HBV.out.size B3.size) (fun i e => by have e' : i = cB := e; have := HCN.out; omega))⟩
      have hneo : cB ≠ oB := fun e => by have := HOC.out; have := HCN.out; omega
      clear hown b1 hc3 B1 B3 ho3
      go_wp2_with fail
      refine hK.out _ _ ⟨y0, y1, y2⟩ (fun hHeld => ?_)
      clear hK
      refine wpAnyH_take (i := 7) (oi := _) (v := ?_) rfl (by kernel_rfl) (by kernel_rfl) (by kernel_rfl) (fun _ _ _ h => h) (Or.inl ⟨by rfl, ?_⟩) (by assumption) ?_
      rotate_left
      · intro w hSw
        (try dsimp only at hSw)
        go_simp
        all_goals with_reducible rfl
      simp only [Act.put]
      refine wpAnyH_ready (rs := [9]) (by kernel_rfl) (by simp) ?_
      refine AllReadyH.cons (o := _) rfl (fun K hK => ?_) AllReadyH.nil
      go_simp
      refine hK.out _ _ (by go_keep) (fun hHeld => ?_)
      clear hK
      refine wpAnyH_done (by kernel_rfl) ?_ _
      go_wp2_with fail
      go_meet
      case rel => exact ⟨cB, q, qc, rfl, HR1⟩
  case rest =>
  obtain ⟨cB, q, qc, rfl, HC1⟩ := hcut
  rename World => W0
  have HGE := hide HC1.out.ge
  have HI0 : Hid (CFI W W0 cB rB q qc nv id out vs xs 0) := hide ⟨HC1.out.vec, HC1.out.res, HC1.out.below, none, 0, [], HC1.out.box, World.ownsRow_nil _ _ _ _, rfl, by simp, fun y hy => by cases hy⟩
  have s2 := HC1.out.src
  clear HC1 x0 x1 x2 x3
  obtain ⟨j0, hj0, hj1, hj2, hj3⟩ := info_parts Tryz.infoTS
  go_wp2_with fail
  go_loopw [17] (fun i wq => ∃ k : Nat, k ≤ nt ∧ i = .int .i64 (k : Int) ∧ Hid (CFI W wq cB rB q qc nv id out vs xs k)) (fun i _ => nt - (intOf i).toNat)
  case atStart => exact ⟨0, Nat.zero_le _, rfl, HI0⟩
  case round =>
    obtain ⟨k, hk, rfl, HI⟩ := hrel
    rename World => wr
    clear HI0 s2
    by_cases hlt : k < nt
    · have hlt2 : k < xs.length := by rw [HNB.out]; exact hlt
      obtain ⟨x, hx⟩ : ∃ x, xs[k]! = x := ⟨_, rfl⟩
      have hxm : x ∈ xs := by rw [← hx, getElem!_pos xs k hlt2]; exact List.getElem_mem _
      have hbl := HI.out.below
      obtain ⟨g, oo, rfl, d0, d1, d2⟩ := (HX.out.later hbl).at (i := k) hlt2 hx
      have hbx := HB3.out x hxm
      have hok := (HX.out.later hbl).ok x hxm
      have HXE : Hid ((xs.map TV.plain)[k]? = some x.plain) := hide (by rw [List.getElem?_map, List.getElem?_eq_getElem hlt2, ← hx, getElem!_pos xs k hlt2]; rfl)
      obtain ⟨ks, kp, kc, tn, zs, bp, bc⟩ := x
      simp only at d0 d1 d2 hbx
      obtain ⟨nk, hnk⟩ : ∃ A, ks.length = A := ⟨_, rfl⟩
      obtain ⟨nb, hnb⟩ : ∃ A, zs.length = A := ⟨_, rfl⟩
      rw [hnk] at d0 hbx
      rw [hnb] at d2 hbx
      have HC := hide (fun X (hX : Below wr.heap.size wr X) => cltask_any (W := X) (tn := tn) (Op.KRow.later hok.keys hX) (hok.bufs.later hX) hnk hnb hbx.1 hbx.2.1 hbx.2.2)
      have HPL : Hid ((⟨ks, kp, kc, tn, zs, bp, bc⟩ : TV).plain = ⟨ks, tn, zs.map SV.rs⟩) := hide rfl
      clear hx hxm hok hbx hlt2 hbl
      obtain ⟨wq, hwq⟩ : ∃ wq, wq = wr.alloc (.cells #[.slice kp nk kc, .int .i64 tn, .slice bp nb bc] 46 (0, 0)) := ⟨_, rfl⟩
      have BQ : Below wr.heap.size wr wq := by rw [hwq]; exact alloc_below _ _
      obtain ⟨aB, haB⟩ : ∃ aB, wr.heap.size = aB := ⟨_, rfl⟩
      have ua : wq.heap[aB]? = some (.cells #[.slice kp nk kc, .int .i64 tn, .slice bp nb bc] 46 (0, 0)) := by rw [hwq, ← haB]; exact heap_alloc_new _ _
      obtain ⟨ik, ir, ib, b, bq, ys, ibox, iown, ilen, imap, ieach⟩ := HI.out
      have HIK := hide (ownsRow_later ik BQ)
      have HIR := hide (below_box BQ ir)
      have HIB : Hid (Below W.heap.size W wq) := hide (ib.trans (BQ.mono ib.size))
      have HBX := hide (below_box BQ ibox)
      have HIO := hide (ownsRow_later iown BQ)
      have HIL := hide ilen
      have HIM := hide imap
      have HIE : Hid (∀ y ∈ ys, TVo y wq W.heap.size) := hide (fun y hy => TVo.only (ieach y hy) (Only.fresh BQ (fun _ => False)) (fun i e => e.elim))
      have HCQ := hide (fun X (hX : Below wq.heap.size wq X) => HC.out X (BQ.trans (hX.mono BQ.size)))
      obtain ⟨c0, c1, c2, c3⟩ := box4 HBX.out
      obtain ⟨t0, t1, t2⟩ := tsBox3 ua
      have HK1 : Hid (k + 1 ≤ maxLen) := by show _ ≤ _; unfold maxLen; omega
      have HK2 : Hid ((k + 1) * 56 ≤ 140737488355328) := hide (by omega)
      have HNKK := hide hnk
      have HNBB := hide hnb
      clear HI HC ik ir ib ibox iown ilen imap ieach BQ ua hnk hnb
      go_upto_region 5 with fail
      rw [← hwq]
      try rw [haB]
      clear hwq haB d0 d1 d2
      have B0 : Below wq.heap.size wq wq.drew := (Below.refl _ wq).drew
      refine wp_region_any (by kernel_rfl) ?_
      try (change wpAny _ _ _ _ _ _ _ (World.drew _))
      refine wpAny_take (i := 0) (v := ?_) rfl (by kernel_rfl) (by kernel_rfl) (by kernel_rfl) (fun _ _ _ h => h) (Or.inl ⟨by rfl, ?_⟩) ?_
      case refine_2 => intro w; go_simp; try with_reducible rfl
      refine wpAny_ready (rs := [1, 2]) (by kernel_rfl) (by simp) ?_
      refine AllReady.cons rfl (fun K hK => ?_) ?_
      · go_simp
        refine hK _ _ ?_
        clear hK K
        refine wpAny_ready (rs := [2]) (by kernel_rfl) (by simp) ?_
        refine AllReady.cons rfl (fun K hK => ?_) ?_
        · go_simp
          refine hK _ _ ?_
          clear hK K
          refine wpAny_ready (rs := [3]) (by kernel_rfl) (by simp) ?_
          refine AllReady.cons rfl (fun K hK => ?_) ?_
          · go_simp
            refine (HCQ.out _ B0).mono ?_
            rintro _ w1 ⟨⟨yks, yk, ykc, ytn, yxs, yb, ybc⟩, rfl, hy1, hy2, hy3, hy4, htv, b1⟩
            simp only at hy1 hy2 hy4 ⊢
            subst hy4
            have B1 : Below wq.heap.size wq w1 := B0.trans b1
            have HOW1 := hide (htv.base HIB.out.size)
            have HY1 := hide hy1
            have HY2 := hide hy2
            have HY3 := hide hy3
            obtain ⟨w2, hw2⟩ : ∃ w2, w2 = w1.alloc (.cells #[.slice yk nk ykc, .int .i64 ytn, .slice yb nb ybc] 46 (0, 0)) := ⟨_, rfl⟩
            have bw2 : Below w1.heap.size w1 w2 := by rw [hw2]; exact alloc_below _ _
            have B2 := B1.trans (bw2.mono B1.size)
            have e2 := cell_later B1 c3
            have e3 := cell_later B2 c3
            obtain ⟨nB, hnB⟩ : ∃ nB, w1.heap.size = nB := ⟨_, rfl⟩
            have HSG : Hid (Seg w2 3 (.slice (some ⟨nB, 0, none⟩) 1 1) 1 [.slice yk nk ykc, .int .i64 ytn, .slice yb nb ybc]) := hide (by rw [hw2, ← hnB]; exact Seg.news (heap_alloc_new w1 _) (by simp [Value.oneCell']) rfl (Nat.le_refl _) (by decide))
            clear htv b1 hy1 hy2 hy3
            refine hK _ _ ?_
            clear hK K
            refine wpAny_ready (rs := [4]) (by kernel_rfl) (by simp) ?_
            refine AllReady.cons rfl (fun K hK => ?_) ?_
            · go_simp
              rw [← hw2]
              try rw [hnB]
              refine hK _ _ ?_
              clear hK K hw2 hnB
              refine wpAny_ready (rs := [5]) (by kernel_rfl) (by simp) ?_
              refine AllReady.cons rfl (fun K hK => ?_) ?_
              rotate_left
              · exact AllReady.nil
              refine step_append_cells rfl (.tmp 22) (.tmp 25) 26 rfl W.heap.size 46 j0 (.agg #[.slice none 0 0, .int .i64 0, .slice none 0 0]) 3 56 Tryz.underlying26 hj0 hj1 hj2 hj3 rfl (by decide) (.slice b k bq) k _ rfl (ownsRow_later HIO.out B2) (.slice (some ⟨nB, 0, none⟩) 1 1) 1 _ rfl HSG.out HK1.out HK2.out (Nat.le_trans HIB.out.size B2.size) ?_
              intro p6 c6 w6 o6 g6
              have ho6 : Only (fun i => (Value.slice b k bq).ownBlock = some i) w2 w6 := Only.of_grown (F := fun i => (Value.slice b k bq).ownBlock = some i) g6 (fun k e => e)
              have ht6 : ∀ e, 46 ≠ e → ∀ i, (Value.slice b k bq).ownBlock = some i → ∀ cur, w2.heap[i]? ≠ some (.cells cur e (0, 0)) := fun e he => row_type (ownsRow_later HIO.out B2) he
              have hs6 : Safe (fun i => (Value.slice b k bq).ownBlock = some i) w2 := safe_row (ownsRow_later HIO.out B2) (by decide)
              have hbx2 := below_box B2 HBX.out
              have hbx6 := ho6.obj hbx2 (fun e => ht6 28 (by decide) cB e _ hbx2)
              have hgr := HGE.out
              obtain ⟨w7, hw7⟩ : ∃ w7, w7 = w6.setCell ⟨cB, 3, none⟩ (.slice p6 (k + 1) c6) := ⟨_, rfl⟩
              have ho7 : Only (· = cB) w6 w7 := by rw [hw7]; exact Only.set (F := (· = cB)) w6 cB 3 _ rfl
              have bw6 : Below W.heap.size W w6 := (HIB.out.trans (B2.mono HIB.out.size)).trans (ho6.below (Nat.le_trans HIB.out.size B2.size) (fun i e => own_block_base HIO.out e))
              have HI7 : Hid (CFI W w7 cB rB q qc nv id out vs xs (k + 1)) := hide ⟨own_apart (own_apart (ownsRow_later HIK.out B2) ho6 (ht6 _ (by decide))) ho7 (box_type hbx6 (by decide)), ho7.obj (ho6.obj (below_box B2 HIR.out) (fun e => ht6 28 (by decide) rB e _ (below_box B2 HIR.out))) (fun e => by have e' : rB = cB := e; exact hgr.2 e'.symm), bw6.trans (ho7.below bw6.size (fun i e => by have e' : i = cB := e; rw [e']; exact hgr.1)), p6, c6, ys ++ [(⟨yks, yk, ykc, ytn, yxs, yb, ybc⟩ : TV)], by rw [hw7]; exact heap_setCell_same w6 cB 3 _ _ _ hbx6, by
                  rw [List.flatMap_append]
                  have e9 : ([(⟨yks, yk, ykc, ytn, yxs, yb, ybc⟩ : TV)] : List TV).flatMap TV.cells = [.slice yk nk ykc, .int .i64 ytn, .slice yb nb ybc] := by simp [TV.cells, HY1.out, HY2.out]
                  rw [e9]
                  exact own_apart o6 ho7 (box_type hbx6 (by decide)), by simp [HIL.out], by rw [List.take_add_one, HXE.out, List.map_append, HIM.out]; show _ ++ [(⟨yks, yk, ykc, ytn, yxs, yb, ybc⟩ : TV).plain] = _ ++ [_]; rw [HY3.out]; rfl, fun y hy => by
                  have hall : TVo y w2 W.heap.size := (List.mem_append.1 hy).elim (fun h => TVo.only (HIE.out y h) (Only.fresh B2 (fun _ => False)) (fun i e => e.elim)) (fun h => by obtain rfl := List.mem_singleton.1 h; exact TVo.only HOW1.out (Only.fresh bw2 (fun _ => False)) (fun i e => e.elim))
                  exact TVo.only (TVo.only hall ho6 hs6) ho7 (safe_box hbx6 (by decide))⟩
              have e6 : w6.cell? ⟨cB, 3, none⟩ = some (.slice b k bq) := (box4 hbx6).2.2.2
              have z6 := four_fz hbx6 3
              rw [hw7] at HI7
              clear ho6 ht6 hs6 hbx2 ho7 o6 g6 hw7 hgr bw6 hbx6 w7 c0 c1 c2 c3 e2 e3
              refine hK _ _ ?_
              clear hK K
              refine wpAny_take (i := 6) (v := ?_) rfl (by kernel_rfl) (by kernel_rfl) (by kernel_rfl) (fun _ _ _ h => h) (Or.inl ⟨by rfl, ?_⟩) ?_
              case refine_2 => intro w; go_simp; try with_reducible rfl
              refine wpAny_ready (rs := [7]) (by kernel_rfl) (by simp) ?_
              refine AllReady.cons rfl (fun K hK => ?_) ?_
              rotate_left
              · exact AllReady.nil
              go_simp
              refine hK _ _ ?_
              clear hK K
              refine wpAny_done (by kernel_rfl) ?_ _
              go_wp2
              exact ⟨⟨k + 1, by omega, by first | rfl | go_num, HI7⟩, by simp [intOf]; omega⟩
            exact AllReady.nil
          exact AllReady.nil
        exact AllReady.nil
      refine AllReady.cons rfl (fun K hK => ?_) ?_
      · go_simp
        refine hK _ _ ?_
        clear hK K
        refine wpAny_ready (rs := [1, 3]) (by kernel_rfl) (by simp) ?_
        refine AllReady.cons rfl (fun K hK => ?_) ?_
        · go_simp
          refine hK _ _ ?_
          clear hK K
          refine wpAny_ready (rs := [3]) (by kernel_rfl) (by simp) ?_
          refine AllReady.cons rfl (fun K hK => ?_) ?_
          · go_simp
            refine (HCQ.out _ B0).mono ?_
            rintro _ w1 ⟨⟨yks, yk, ykc, ytn, yxs, yb, ybc⟩, rfl, hy1, hy2, hy3, hy4, htv, b1⟩
            simp only at hy1 hy2 hy4 ⊢
            subst hy4
            have B1 : Below wq.heap.size wq w1 := B0.trans b1
            have HOW1 := hide (htv.base HIB.out.size)
            have HY1 := hide hy1
            have HY2 := hide hy2
            have HY3 := hide hy3
            obtain ⟨w2, hw2⟩ : ∃ w2, w2 = w1.alloc (.cells #[.slice yk nk ykc, .int .i64 ytn, .slice yb nb ybc] 46 (0, 0)) := ⟨_, rfl⟩
            have bw2 : Below w1.heap.size w1 w2 := by rw [hw2]; exact alloc_below _ _
            have B2 := B1.trans (bw2.mono B1.size)
            have e2 := cell_later B1 c3
            have e3 := cell_later B2 c3
            obtain ⟨nB, hnB⟩ : ∃ nB, w1.heap.size = nB := ⟨_, rfl⟩
            have HSG : Hid (Seg w2 3 (.slice (some ⟨nB, 0, none⟩) 1 1) 1 [.slice yk nk ykc, .int .i64 ytn, .slice yb nb ybc]) := hide (by rw [hw2, ← hnB]; exact Seg.news (heap_alloc_new w1 _) (by simp [Value.oneCell']) rfl (Nat.le_refl _) (by decide))
            clear htv b1 hy1 hy2 hy3
            refine hK _ _ ?_
            clear hK K
            refine wpAny_ready (rs := [4]) (by kernel_rfl) (by simp) ?_
            refine AllReady.cons rfl (fun K hK => ?_) ?_
            · go_simp
              rw [← hw2]
              try rw [hnB]
              refine hK _ _ ?_
              clear hK K hw2 hnB
              refine wpAny_ready (rs := [5]) (by kernel_rfl) (by simp) ?_
              refine AllReady.cons rfl (fun K hK => ?_) ?_
              rotate_left
              · exact AllReady.nil
              refine step_append_cells rfl (.tmp 22) (.tmp 25) 26 rfl W.heap.size 46 j0 (.agg #[.slice none 0 0, .int .i64 0, .slice none 0 0]) 3 56 Tryz.underlying26 hj0 hj1 hj2 hj3 rfl (by decide) (.slice b k bq) k _ rfl (ownsRow_later HIO.out B2) (.slice (some ⟨nB, 0, none⟩) 1 1) 1 _ rfl HSG.out HK1.out HK2.out (Nat.le_trans HIB.out.size B2.size) ?_
              intro p6 c6 w6 o6 g6
              have ho6 : Only (fun i => (Value.slice b k bq).ownBlock = some i) w2 w6 := Only.of_grown (F := fun i => (Value.slice b k bq).ownBlock = some i) g6 (fun k e => e)
              have ht6 : ∀ e, 46 ≠ e → ∀ i, (Value.slice b k bq).ownBlock = some i → ∀ cur, w2.heap[i]? ≠ some (.cells cur e (0, 0)) := fun e he => row_type (ownsRow_later HIO.out B2) he
              have hs6 : Safe (fun i => (Value.slice b k bq).ownBlock = some i) w2 := safe_row (ownsRow_later HIO.out B2) (by decide)
              have hbx2 := below_box B2 HBX.out
              have hbx6 := ho6.obj hbx2 (fun e => ht6 28 (by decide) cB e _ hbx2)
              have hgr := HGE.out
              obtain ⟨w7, hw7⟩ : ∃ w7, w7 = w6.setCell ⟨cB, 3, none⟩ (.slice p6 (k + 1) c6) := ⟨_, rfl⟩
              have ho7 : Only (· = cB) w6 w7 := by rw [hw7]; exact Only.set (F := (· = cB)) w6 cB 3 _ rfl
              have bw6 : Below W.heap.size W w6 := (HIB.out.trans (B2.mono HIB.out.size)).trans (ho6.below (Nat.le_trans HIB.out.size B2.size) (fun i e => own_block_base HIO.out e))
              have HI7 : Hid (CFI W w7 cB rB q qc nv id out vs xs (k + 1)) := hide ⟨own_apart (own_apart (ownsRow_later HIK.out B2) ho6 (ht6 _ (by decide))) ho7 (box_type hbx6 (by decide)), ho7.obj (ho6.obj (below_box B2 HIR.out) (fun e => ht6 28 (by decide) rB e _ (below_box B2 HIR.out))) (fun e => by have e' : rB = cB := e; exact hgr.2 e'.symm), bw6.trans (ho7.below bw6.size (fun i e => by have e' : i = cB := e; rw [e']; exact hgr.1)), p6, c6, ys ++ [(⟨yks, yk, ykc, ytn, yxs, yb, ybc⟩ : TV)], by rw [hw7]; exact heap_setCell_same w6 cB 3 _ _ _ hbx6, by
                  rw [List.flatMap_append]
                  have e9 : ([(⟨yks, yk, ykc, ytn, yxs, yb, ybc⟩ : TV)] : List TV).flatMap TV.cells = [.slice yk nk ykc, .int .i64 ytn, .slice yb nb ybc] := by simp [TV.cells, HY1.out, HY2.out]
                  rw [e9]
                  exact own_apart o6 ho7 (box_type hbx6 (by decide)), by simp [HIL.out], by rw [List.take_add_one, HXE.out, List.map_append, HIM.out]; show _ ++ [(⟨yks, yk, ykc, ytn, yxs, yb, ybc⟩ : TV).plain] = _ ++ [_]; rw [HY3.out]; rfl, fun y hy => by
                  have hall : TVo y w2 W.heap.size := (List.mem_append.1 hy).elim (fun h => TVo.only (HIE.out y h) (Only.fresh B2 (fun _ => False)) (fun i e => e.elim)) (fun h => by obtain rfl := List.mem_singleton.1 h; exact TVo.only HOW1.out (Only.fresh bw2 (fun _ => False)) (fun i e => e.elim))
                  exact TVo.only (TVo.only hall ho6 hs6) ho7 (safe_box hbx6 (by decide))⟩
              have e6 : w6.cell? ⟨cB, 3, none⟩ = some (.slice b k bq) := (box4 hbx6).2.2.2
              have z6 := four_fz hbx6 3
              rw [hw7] at HI7
              clear ho6 ht6 hs6 hbx2 ho7 o6 g6 hw7 hgr bw6 hbx6 w7 c0 c1 c2 c3 e2 e3
              refine hK _ _ ?_
              clear hK K
              refine wpAny_take (i := 6) (v := ?_) rfl (by kernel_rfl) (by kernel_rfl) (by kernel_rfl) (fun _ _ _ h => h) (Or.inl ⟨by rfl, ?_⟩) ?_
              case refine_2 => intro w; go_simp; try with_reducible rfl
              refine wpAny_ready (rs := [7]) (by kernel_rfl) (by simp) ?_
              refine AllReady.cons rfl (fun K hK => ?_) ?_
              rotate_left
              · exact AllReady.nil
              go_simp
              refine hK _ _ ?_
              clear hK K
              refine wpAny_done (by kernel_rfl) ?_ _
              go_wp2
              exact ⟨⟨k + 1, by omega, by first | rfl | go_num, HI7⟩, by simp [intOf]; omega⟩
            exact AllReady.nil
          exact AllReady.nil
        refine AllReady.cons rfl (fun K hK => ?_) ?_
        · go_simp
          refine (HCQ.out _ B0).mono ?_
          rintro _ w1 ⟨⟨yks, yk, ykc, ytn, yxs, yb, ybc⟩, rfl, hy1, hy2, hy3, hy4, htv, b1⟩
          simp only at hy1 hy2 hy4 ⊢
          subst hy4
          have B1 : Below wq.heap.size wq w1 := B0.trans b1
          have HOW1 := hide (htv.base HIB.out.size)
          have HY1 := hide hy1
          have HY2 := hide hy2
          have HY3 := hide hy3
          obtain ⟨w2, hw2⟩ : ∃ w2, w2 = w1.alloc (.cells #[.slice yk nk ykc, .int .i64 ytn, .slice yb nb ybc] 46 (0, 0)) := ⟨_, rfl⟩
          have bw2 : Below w1.heap.size w1 w2 := by rw [hw2]; exact alloc_below _ _
          have B2 := B1.trans (bw2.mono B1.size)
          have e2 := cell_later B1 c3
          have e3 := cell_later B2 c3
          obtain ⟨nB, hnB⟩ : ∃ nB, w1.heap.size = nB := ⟨_, rfl⟩
          have HSG : Hid (Seg w2 3 (.slice (some ⟨nB, 0, none⟩) 1 1) 1 [.slice yk nk ykc, .int .i64 ytn, .slice yb nb ybc]) := hide (by rw [hw2, ← hnB]; exact Seg.news (heap_alloc_new w1 _) (by simp [Value.oneCell']) rfl (Nat.le_refl _) (by decide))
          clear htv b1 hy1 hy2 hy3
          refine hK _ _ ?_
          clear hK K
          refine wpAny_ready (rs := [1, 4]) (by kernel_rfl) (by simp) ?_
          refine AllReady.cons rfl (fun K hK => ?_) ?_
          · go_simp
            refine hK _ _ ?_
            clear hK K
            refine wpAny_ready (rs := [4]) (by kernel_rfl) (by simp) ?_
            refine AllReady.cons rfl (fun K hK => ?_) ?_
            · go_simp
              rw [← hw2]
              try rw [hnB]
              refine hK _ _ ?_
              clear hK K hw2 hnB
              refine wpAny_ready (rs := [5]) (by kernel_rfl) (by simp) ?_
              refine AllReady.cons rfl (fun K hK => ?_) ?_
              rotate_left
              · exact AllReady.nil
              refine step_append_cells rfl (.tmp 22) (.tmp 25) 26 rfl W.heap.size 46 j0 (.agg #[.slice none 0 0, .int .i64 0, .slice none 0 0]) 3 56 Tryz.underlying26 hj0 hj1 hj2 hj3 rfl (by decide) (.slice b k bq) k _ rfl (ownsRow_later HIO.out B2) (.slice (some ⟨nB, 0, none⟩) 1 1) 1 _ rfl HSG.out HK1.out HK2.out (Nat.le_trans HIB.out.size B2.size) ?_
              intro p6 c6 w6 o6 g6
              have ho6 : Only (fun i => (Value.slice b k bq).ownBlock = some i) w2 w6 := Only.of_grown (F := fun i => (Value.slice b k bq).ownBlock = some i) g6 (fun k e => e)
              have ht6 : ∀ e, 46 ≠ e → ∀ i, (Value.slice b k bq).ownBlock = some i → ∀ cur, w2.heap[i]? ≠ some (.cells cur e (0, 0)) := fun e he => row_type (ownsRow_later HIO.out B2) he
              have hs6 : Safe (fun i => (Value.slice b k bq).ownBlock = some i) w2 := safe_row (ownsRow_later HIO.out B2) (by decide)
              have hbx2 := below_box B2 HBX.out
              have hbx6 := ho6.obj hbx2 (fun e => ht6 28 (by decide) cB e _ hbx2)
              have hgr := HGE.out
              obtain ⟨w7, hw7⟩ : ∃ w7, w7 = w6.setCell ⟨cB, 3, none⟩ (.slice p6 (k + 1) c6) := ⟨_, rfl⟩
              have ho7 : Only (· = cB) w6 w7 := by rw [hw7]; exact Only.set (F := (· = cB)) w6 cB 3 _ rfl
              have bw6 : Below W.heap.size W w6 := (HIB.out.trans (B2.mono HIB.out.size)).trans (ho6.below (Nat.le_trans HIB.out.size B2.size) (fun i e => own_block_base HIO.out e))
              have HI7 : Hid (CFI W w7 cB rB q qc nv id out vs xs (k + 1)) := hide ⟨own_apart (own_apart (ownsRow_later HIK.out B2) ho6 (ht6 _ (by decide))) ho7 (box_type hbx6 (by decide)), ho7.obj (ho6.obj (below_box B2 HIR.out) (fun e => ht6 28 (by decide) rB e _ (below_box B2 HIR.out))) (fun e => by have e' : rB = cB := e; exact hgr.2 e'.symm), bw6.trans (ho7.below bw6.size (fun i e => by have e' : i = cB := e; rw [e']; exact hgr.1)), p6, c6, ys ++ [(⟨yks, yk, ykc, ytn, yxs, yb, ybc⟩ : TV)], by rw [hw7]; exact heap_setCell_same w6 cB 3 _ _ _ hbx6, by
                  rw [List.flatMap_append]
                  have e9 : ([(⟨yks, yk, ykc, ytn, yxs, yb, ybc⟩ : TV)] : List TV).flatMap TV.cells = [.slice yk nk ykc, .int .i64 ytn, .slice yb nb ybc] := by simp [TV.cells, HY1.out, HY2.out]
                  rw [e9]
                  exact own_apart o6 ho7 (box_type hbx6 (by decide)), by simp [HIL.out], by rw [List.take_add_one, HXE.out, List.map_append, HIM.out]; show _ ++ [(⟨yks, yk, ykc, ytn, yxs, yb, ybc⟩ : TV).plain] = _ ++ [_]; rw [HY3.out]; rfl, fun y hy => by
                  have hall : TVo y w2 W.heap.size := (List.mem_append.1 hy).elim (fun h => TVo.only (HIE.out y h) (Only.fresh B2 (fun _ => False)) (fun i e => e.elim)) (fun h => by obtain rfl := List.mem_singleton.1 h; exact TVo.only HOW1.out (Only.fresh bw2 (fun _ => False)) (fun i e => e.elim))
                  exact TVo.only (TVo.only hall ho6 hs6) ho7 (safe_box hbx6 (by decide))⟩
              have e6 : w6.cell? ⟨cB, 3, none⟩ = some (.slice b k bq) := (box4 hbx6).2.2.2
              have z6 := four_fz hbx6 3
              rw [hw7] at HI7
              clear ho6 ht6 hs6 hbx2 ho7 o6 g6 hw7 hgr bw6 hbx6 w7 c0 c1 c2 c3 e2 e3
              refine hK _ _ ?_
              clear hK K
              refine wpAny_take (i := 6) (v := ?_) rfl (by kernel_rfl) (by kernel_rfl) (by kernel_rfl) (fun _ _ _ h => h) (Or.inl ⟨by rfl, ?_⟩) ?_
              case refine_2 => intro w; go_simp; try with_reducible rfl
              refine wpAny_ready (rs := [7]) (by kernel_rfl) (by simp) ?_
              refine AllReady.cons rfl (fun K hK => ?_) ?_
              rotate_left
              · exact AllReady.nil
              go_simp
              refine hK _ _ ?_
              clear hK K
              refine wpAny_done (by kernel_rfl) ?_ _
              go_wp2
              exact ⟨⟨k + 1, by omega, by first | rfl | go_num, HI7⟩, by simp [intOf]; omega⟩
            exact AllReady.nil
          refine AllReady.cons rfl (fun K hK => ?_) ?_
          · go_simp
            rw [← hw2]
            try rw [hnB]
            refine hK _ _ ?_
            clear hK K hw2 hnB
            refine wpAny_ready (rs := [1]) (by kernel_rfl) (by simp) ?_
            refine AllReady.cons rfl (fun K hK => ?_) ?_
            · go_simp
              refine hK _ _ ?_
              clear hK K
              refine wpAny_ready (rs := [5]) (by kernel_rfl) (by simp) ?_
              refine AllReady.cons rfl (fun K hK => ?_) ?_
              rotate_left
              · exact AllReady.nil
              refine step_append_cells rfl (.tmp 22) (.tmp 25) 26 rfl W.heap.size 46 j0 (.agg #[.slice none 0 0, .int .i64 0, .slice none 0 0]) 3 56 Tryz.underlying26 hj0 hj1 hj2 hj3 rfl (by decide) (.slice b k bq) k _ rfl (ownsRow_later HIO.out B2) (.slice (some ⟨nB, 0, none⟩) 1 1) 1 _ rfl HSG.out HK1.out HK2.out (Nat.le_trans HIB.out.size B2.size) ?_
              intro p6 c6 w6 o6 g6
              have ho6 : Only (fun i => (Value.slice b k bq).ownBlock = some i) w2 w6 := Only.of_grown (F := fun i => (Value.slice b k bq).ownBlock = some i) g6 (fun k e => e)
              have ht6 : ∀ e, 46 ≠ e → ∀ i, (Value.slice b k bq).ownBlock = some i → ∀ cur, w2.heap[i]? ≠ some (.cells cur e (0, 0)) := fun e he => row_type (ownsRow_later HIO.out B2) he
              have hs6 : Safe (fun i => (Value.slice b k bq).ownBlock = some i) w2 := safe_row (ownsRow_later HIO.out B2) (by decide)
              have hbx2 := below_box B2 HBX.out
              have hbx6 := ho6.obj hbx2 (fun e => ht6 28 (by decide) cB e _ hbx2)
              have hgr := HGE.out
              obtain ⟨w7, hw7⟩ : ∃ w7, w7 = w6.setCell ⟨cB, 3, none⟩ (.slice p6 (k + 1) c6) := ⟨_, rfl⟩
              have ho7 : Only (· = cB) w6 w7 := by rw [hw7]; exact Only.set (F := (· = cB)) w6 cB 3 _ rfl
              have bw6 : Below W.heap.size W w6 := (HIB.out.trans (B2.mono HIB.out.size)).trans (ho6.below (Nat.le_trans HIB.out.size B2.size) (fun i e => own_block_base HIO.out e))
              have HI7 : Hid (CFI W w7 cB rB q qc nv id out vs xs (k + 1)) := hide ⟨own_apart (own_apart (ownsRow_later HIK.out B2) ho6 (ht6 _ (by decide))) ho7 (box_type hbx6 (by decide)), ho7.obj (ho6.obj (below_box B2 HIR.out) (fun e => ht6 28 (by decide) rB e _ (below_box B2 HIR.out))) (fun e => by have e' : rB = cB := e; exact hgr.2 e'.symm), bw6.trans (ho7.below bw6.size (fun i e => by have e' : i = cB := e; rw [e']; exact hgr.1)), p6, c6, ys ++ [(⟨yks, yk, ykc, ytn, yxs, yb, ybc⟩ : TV)], by rw [hw7]; exact heap_setCell_same w6 cB 3 _ _ _ hbx6, by
                  rw [List.flatMap_append]
                  have e9 : ([(⟨yks, yk, ykc, ytn, yxs, yb, ybc⟩ : TV)] : List TV).flatMap TV.cells = [.slice yk nk ykc, .int .i64 ytn, .slice yb nb ybc] := by simp [TV.cells, HY1.out, HY2.out]
                  rw [e9]
                  exact own_apart o6 ho7 (box_type hbx6 (by decide)), by simp [HIL.out], by rw [List.take_add_one, HXE.out, List.map_append, HIM.out]; show _ ++ [(⟨yks, yk, ykc, ytn, yxs, yb, ybc⟩ : TV).plain] = _ ++ [_]; rw [HY3.out]; rfl, fun y hy => by
                  have hall : TVo y w2 W.heap.size := (List.mem_append.1 hy).elim (fun h => TVo.only (HIE.out y h) (Only.fresh B2 (fun _ => False)) (fun i e => e.elim)) (fun h => by obtain rfl := List.mem_singleton.1 h; exact TVo.only HOW1.out (Only.fresh bw2 (fun _ => False)) (fun i e => e.elim))
                  exact TVo.only (TVo.only hall ho6 hs6) ho7 (safe_box hbx6 (by decide))⟩
              have e6 : w6.cell? ⟨cB, 3, none⟩ = some (.slice b k bq) := (box4 hbx6).2.2.2
              have z6 := four_fz hbx6 3
              rw [hw7] at HI7
              clear ho6 ht6 hs6 hbx2 ho7 o6 g6 hw7 hgr bw6 hbx6 w7 c0 c1 c2 c3 e2 e3
              refine hK _ _ ?_
              clear hK K
              refine wpAny_take (i := 6) (v := ?_) rfl (by kernel_rfl) (by kernel_rfl) (by kernel_rfl) (fun _ _ _ h => h) (Or.inl ⟨by rfl, ?_⟩) ?_
              case refine_2 => intro w; go_simp; try with_reducible rfl
              refine wpAny_ready (rs := [7]) (by kernel_rfl) (by simp) ?_
              refine AllReady.cons rfl (fun K hK => ?_) ?_
              rotate_left
              · exact AllReady.nil
              go_simp
              refine hK _ _ ?_
              clear hK K
              refine wpAny_done (by kernel_rfl) ?_ _
              go_wp2
              exact ⟨⟨k + 1, by omega, by first | rfl | go_num, HI7⟩, by simp [intOf]; omega⟩
            exact AllReady.nil
          exact AllReady.nil
        exact AllReady.nil
      exact AllReady.nil
    · obtain rfl : k = nt := by omega
      obtain ⟨ik, ir, ib, b, bq, ys, ibox, iown, ilen, imap, ieach⟩ := HI.out
      obtain ⟨c0, c1, c2, c3⟩ := box4 ibox
      obtain ⟨f0, f1, f2, f3⟩ := box4 ir
      have z0 := four_fz ir 0
      have z1 := four_fz ir 1
      have z2 := four_fz ir 2
      have z3 := four_fz ir 3
      have ho9 := four_only wr rB (.int .i64 id) (.slice q nv qc) (.int .i64 out) (.slice b k bq)
      have HE9 := hide (four_set ir (.int .i64 id) (.slice q nv qc) (.int .i64 out) (.slice b k bq))
      have HQ : Hid (CloneAt W ⟨id, vs, out, xs.map TV.plain⟩ nv k (.returned (.agg #[.int .i64 id, .slice q nv qc, .int .i64 out, .slice b k bq])) ((((wr.setCell ⟨rB, 0, none⟩ (.int .i64 id)).setCell ⟨rB, 1, none⟩ (.slice q nv qc)).setCell ⟨rB, 2, none⟩ (.int .i64 out)).setCell ⟨rB, 3, none⟩ (.slice b k bq))) := hide ⟨q, qc, b, bq, ys, rfl, own_apart ik ho9 (box_type ir (by decide)), own_apart iown ho9 (box_type ir (by decide)), ilen, by rw [imap, List.take_of_length_le (by rw [List.length_map, HNB.out]; exact Nat.le_refl _)], fun y hy => TVo.only (ieach y hy) ho9 (safe_box ir (by decide)), ib.trans (ho9.below ib.size (fun i e => by have e' : i = rB := e; have := HOC.out; omega))⟩
      clear ik ir ib ibox iown ilen imap ieach ho9 HI
      go_wp2
      refine bodyPost_ret (results_cell_row rfl _ _ rB 28 _ _ _ rfl HE9.out Tryz.underlying28 rfl (by kernel_rfl)) rfl ?_
      exact HQ.out
end Go.Proofs.YtlfipmieaabagaaGreat

/-
  The law's begun: what the bytes of a source and a sink at a barrier are. No conditions.
-/
namespace Go.Proofs.YtlfipmieaabagaaGreat
open Go.RowKit Go.Shelf

def plainG : List GO := [⟨1, 0, 0, 0, []⟩, ⟨9, 0, 0, 0, [⟨0, 0⟩]⟩]
def tv0 : TV := ⟨[], none, 0, 0, [], none, 0⟩
theorem form_small {v : Nat} (h : v < 128) : form v = [(v : Int)] := by
  unfold form
  rw [show v / 128 = 0 by omega, hi_zero, show v % 128 = v by omega]
  rfl
theorem begun_flow : flowC 1 plainG 3 5 [5] [tv0, tv0] = 0 := by decide +kernel
theorem begun_num : numF 3 5 [5] [tv0, tv0] = [3, 1, 5, 5, 2, 0, 0, 0, 0, 0, 0] := by rfl
theorem begun_forms : forms [3, 1, 5, 5, 2, 0, 0, 0, 0, 0, 0] = [6, 2, 10, 10, 4, 0, 0, 0, 0, 0, 0] := by
  simp only [forms_cons, forms_nil, show zz 3 = 6 by rfl, show zz 1 = 2 by rfl, show zz 5 = 10 by rfl, show zz 2 = 4 by rfl, show zz 0 = 0 by rfl, form_small (show 6 < 128 by decide), form_small (show 2 < 128 by decide), form_small (show 10 < 128 by decide), form_small (show 4 < 128 by decide), form_small (show 0 < 128 by decide)]
  rfl
theorem begun_bytes : bytesC 1 plainG 3 5 [5] [tv0, tv0] = ([6, 2, 10, 10, 4, 0, 0, 0, 0, 0, 0], 0) := by
  unfold bytesC
  rw [begun_flow, if_pos rfl, begun_num, begun_forms]
  rfl
theorem begun_parse : parseC 1 plainG [6, 2, 10, 10, 4, 0, 0, 0, 0, 0, 0] = (⟨3, [5], 5, [tv0.plain, tv0.plain]⟩, 0) := by decide +kernel
set_option maxRecDepth 100000 in
theorem plain_any {W : World} : Calls Tryz.prog 22 #[] W fun e w' => ∃ (p : Option Addr) (os : List OV), e = .returned (.agg #[.int .i64 1, .slice p 2 2]) ∧ GRow w' p 2 os ∧ os.map OV.o = plainG ∧ Below W.heap.size W w' := by
  go_enter Tryz.func22, Tryz.ntmps22
  go_wp2
  obtain ⟨X0, hX0⟩ : ∃ X, X = W.alloc (.cells #[.int .i64 1, .slice (some ⟨W.heap.size + 1 + 1, 0, none⟩) 2 2] 24 (0, 0)) := ⟨_, rfl⟩
  obtain ⟨X1, hX1⟩ : ∃ X, X = X0.alloc (.cells #[.int .i64 0, .int .i64 0] 119 (0, 0)) := ⟨_, rfl⟩
  obtain ⟨X2, hX2⟩ : ∃ X, X = X1.alloc (.cells #[.int .i64 1, .int .i64 0, .int .i64 0, .int .i64 0, .slice none 0 0, .int .i64 9, .int .i64 0, .int .i64 0, .int .i64 0, .slice (some ⟨W.heap.size + 1, 0, none⟩) 1 1] 95 (0, 0)) := ⟨_, rfl⟩
  have s0 : X0.heap.size = W.heap.size + 1 := by rw [hX0]; simp
  have s1 : X1.heap.size = W.heap.size + 1 + 1 := by rw [hX1]; simp [s0]
  have b0 : Below W.heap.size W X0 := by rw [hX0]; exact alloc_below _ _
  have b1 : Below X0.heap.size X0 X1 := by rw [hX1]; exact alloc_below _ _
  have b2 : Below X1.heap.size X1 X2 := by rw [hX2]; exact alloc_below _ _
  have g0 : X0.heap[W.heap.size]? = some (.cells #[.int .i64 1, .slice (some ⟨W.heap.size + 1 + 1, 0, none⟩) 2 2] 24 (0, 0)) := by rw [hX0]; exact heap_alloc_new _ _
  have g1 : X1.heap[W.heap.size + 1]? = some (.cells #[.int .i64 0, .int .i64 0] 119 (0, 0)) := by rw [hX1, ← s0]; exact heap_alloc_new _ _
  have g2 : X2.heap[W.heap.size + 1 + 1]? = some (.cells #[.int .i64 1, .int .i64 0, .int .i64 0, .int .i64 0, .slice none 0 0, .int .i64 9, .int .i64 0, .int .i64 0, .int .i64 0, .slice (some ⟨W.heap.size + 1, 0, none⟩) 1 1] 95 (0, 0)) := by rw [hX2, ← s1]; exact heap_alloc_new _ _
  rw [← hX0, ← hX1, ← hX2]
  have g3 := below_box b2 (below_box b1 g0)
  have g4 := below_box b2 g1
  refine bodyPost_ret (results_cell_row rfl _ _ W.heap.size 24 _ _ _ rfl g3 Tryz.underlying24 rfl (by kernel_rfl)) rfl ?_
  refine ⟨some ⟨W.heap.size + 1 + 1, 0, none⟩, [⟨⟨1, 0, 0, 0, []⟩, none, 0⟩, ⟨⟨9, 0, 0, 0, [⟨0, 0⟩]⟩, some ⟨W.heap.size + 1, 0, none⟩, 1⟩], rfl, ⟨Nat.le_refl _, by decide, fun i hi => ⟨_, _, rfl, fun j hj => ?_⟩, fun x hx => ?_⟩, rfl, (b0.trans (b1.mono b0.size)).trans (b2.mono (b0.trans (b1.mono b0.size)).size)⟩
  · have hi' : i < 2 := hi
    rcases i with _ | _ | i
    · rcases j with _ | _ | _ | _ | _ | j
      all_goals first | omega | (simp [World.cell?, g2, OV.cells]; done)
    · rcases j with _ | _ | _ | _ | _ | j
      all_goals first | omega | (simp [World.cell?, g2, OV.cells]; done)
    · omega
  · simp only [List.mem_cons, List.not_mem_nil, or_false] at hx
    rcases hx with rfl | rfl
    · refine ⟨Nat.le_refl _, by decide, fun i hi => ?_⟩
      simp at hi
    · refine ⟨Nat.le_refl _, by simp, fun i hi => ⟨_, _, rfl, ?_, ?_⟩⟩
      · have hi' : i < 1 := hi
        obtain rfl : i = 0 := by omega
        simp [World.cell?, g4]
      · have hi' : i < 1 := hi
        obtain rfl : i = 0 := by omega
        simp [World.cell?, g4]
theorem tv0_ok (X : World) : tv0.ok X := ⟨⟨Nat.le_refl _, by decide, fun _ => rfl, fun i hi => by simp [tv0] at hi⟩, ⟨⟨Nat.le_refl _, by decide, fun _ => rfl, fun i hi => by simp [tv0] at hi⟩, fun y hy => by simp [tv0] at hy⟩⟩
theorem num1_row {X : World} {g : Nat} {x : Int} {t : TypeId} (h : X.heap[g]? = some (.cells #[.int .i64 x] t (0, 0))) : NRow X (some ⟨g, 0, none⟩) 1 [x] := by
  refine ⟨Nat.le_refl _, by decide, (by intro h; cases h), fun i hi => ⟨_, _, rfl, fun j hj => ?_⟩⟩
  have hi' : i < 1 := hi
  obtain rfl : i = 0 := by omega
  obtain rfl : j = 0 := by omega
  simp [World.cell?, h, intCells]
/-- The begun state, as it lies. -/
structure BgI (W X : World) (sB vg tg : Nat) : Prop where
  box : X.heap[sB]? = some (.cells #[.int .i64 3, .slice (some ⟨vg, 0, none⟩) 1 1, .int .i64 5, .slice (some ⟨tg, 0, none⟩) 2 2] 28 (0, 0))
  vec : NRow X (some ⟨vg, 0, none⟩) 1 [5]
  tasks : TRow X (some ⟨tg, 0, none⟩) 2 [tv0, tv0]
  below : Below W.heap.size W X
theorem BgI.later {W X Y : World} {sB vg tg : Nat} (h : BgI W X sB vg tg) (hb : Below X.heap.size X Y) : BgI W Y sB vg tg := ⟨below_box hb h.box, h.vec.later hb, h.tasks.later hb, h.below.trans (hb.mono h.below.size)⟩
theorem begun_i64 : I64 (numF 3 5 [5] [tv0, tv0]) := by
  rw [begun_num]
  intro x hx
  simp only [List.mem_cons, List.not_mem_nil, or_false] at hx
  omega
theorem begun_fp : decide ((⟨3, [5], 5, [tv0.plain, tv0.plain]⟩ : FP) = ⟨3, [5], 5, [tv0, tv0].map TV.plain⟩) = true := by decide +kernel
theorem bytes11 (w : World) (t : TypeId) : Row .u8 (w.alloc (.cells #[.int .u8 6, .int .u8 2, .int .u8 10, .int .u8 10, .int .u8 4, .int .u8 0, .int .u8 0, .int .u8 0, .int .u8 0, .int .u8 0, .int .u8 0] t)) (.slice (some ⟨w.heap.size, 0, none⟩) 11 11) [6, 2, 10, 10, 4, 0, 0, 0, 0, 0, 0] := by
  refine ⟨some ⟨w.heap.size, 0, none⟩, 11, rfl, Nat.le_refl _, by decide, (by intro h; cases h), fun _ => ⟨w.heap.size, 0, rfl, fun i hi => ?_⟩⟩
  have hi' : i < 11 := hi
  rcases i with _ | _ | _ | _ | _ | _ | _ | _ | _ | _ | _ | i
  all_goals first | omega | simp
theorem u8_11 : U8 [6, 2, 10, 10, 4, 0, 0, 0, 0, 0, 0] := by
  intro x hx
  simp only [List.mem_cons, List.not_mem_nil, or_false] at hx
  omega
theorem gos_two {gos : List OV} (hm : gos.map OV.o = plainG) : gos.length = 2 := by
  have := congrArg List.length hm
  simpa [plainG] using this
theorem bg_bytes {W X : World} {sB vg tg : Nat} {gp : Option Addr} {gos : List OV} (h : BgI W X sB vg tg) (hr : GRow X gp 2 gos) (hm : gos.map OV.o = plainG) :
    Calls Tryz.prog 6 #[.agg #[.int .i64 1, .slice gp 2 2], .agg #[.int .i64 3, .slice (some ⟨vg, 0, none⟩) 1 1, .int .i64 5, .slice (some ⟨tg, 0, none⟩) 2 2]] X fun e w' => ∃ bp bc, e = .returned (.tuple #[.slice bp 11 bc, .int .i64 0]) ∧ Row .u8 w' (.slice bp 11 bc) [6, 2, 10, 10, 4, 0, 0, 0, 0, 0, 0] ∧ Below X.heap.size X w' := by
  refine (bytes_any (parts := 1) (id := 3) (out := 5) (n := 2) (nv := 1) (nt := 2) (vs := [5]) (ts := [tv0, tv0]) (bs := [6, 2, 10, 10, 4, 0, 0, 0, 0, 0, 0]) (er := 0) hr (gos_two hm) h.vec rfl h.tasks rfl (by decide) (fun x hx => ?_) (by rw [begun_num]; decide) begun_i64 (show bytesC 1 (gos.map OV.o) 3 5 [5] [tv0, tv0] = _ by rw [hm]; exact begun_bytes)).mono ?_
  · have hx' : x = tv0 := by simpa using hx
    subst hx'
    exact ⟨by decide, fun y hy => by simp [tv0] at hy⟩
  · rintro _ w' ⟨v, rfl, hrow, hb⟩
    obtain ⟨p, c, rfl, h9⟩ := id hrow
    exact ⟨p, c, rfl, hrow, hb⟩
theorem bg_parse {X : World} {gp bp : Option Addr} {bc : Nat} {gos : List OV} (hr : GRow X gp 2 gos) (hm : gos.map OV.o = plainG) (hb : Row .u8 X (.slice bp 11 bc) [6, 2, 10, 10, 4, 0, 0, 0, 0, 0, 0]) :
    Calls Tryz.prog 10 #[.agg #[.int .i64 1, .slice gp 2 2], .slice bp 11 bc] X fun e w' => ∃ vp vc tp tc, ∃ ys : List TV, e = .returned (.tuple #[.agg #[.int .i64 3, .slice vp 1 vc, .int .i64 5, .slice tp 2 tc], .int .i64 0]) ∧ NRow w' vp vc [5] ∧ TRow w' tp tc ys ∧ ys.length = 2 ∧ ys.map TV.plain = [tv0.plain, tv0.plain] ∧ Below X.heap.size X w' := by
  refine (parse_any (parts := 1) (n := 2) (m := 11) (x := ⟨3, [5], 5, [tv0.plain, tv0.plain]⟩) (er := 0) hr (gos_two hm) hb rfl u8_11 (by decide) (show parseC 1 (gos.map OV.o) [6, 2, 10, 10, 4, 0, 0, 0, 0, 0, 0] = _ by rw [hm]; exact begun_parse)).mono ?_
  rintro _ w' ⟨v, rfl, ⟨vp, vc, nv, tp, tc, nt, ys, rfl, h1, h2, h3, h4, h5⟩, hb⟩
  simp only at h1 h2 h4
  have e1 : nv = 1 := h1.symm
  have e2 : nt = 2 := by
    rw [← h3]
    have := congrArg List.length h4
    simpa using this
  subst e1 e2
  exact ⟨vp, vc, tp, tc, ys, rfl, h2, h5, h3, h4, hb⟩
set_option maxRecDepth 100000 in
set_option maxHeartbeats 8000000 in
theorem begun_any {W : World} : Calls Tryz.prog 8 #[] W fun e w' => e = .returned (.bool true) ∧ Below W.heap.size W w' := by
  obtain ⟨j0, hj0, hj1, hj2, hj3⟩ := info_parts Tryz.infoTS
  obtain ⟨V, hV⟩ : ∃ V, V = W.alloc (.cells #[.int .i64 5] 2 (0, 0)) := ⟨_, rfl⟩
  have bV : Below W.heap.size W V := by rw [hV]; exact alloc_below _ _
  have v0 : V.heap[W.heap.size]? = some (.cells #[.int .i64 5] 2 (0, 0)) := by rw [hV]; exact heap_alloc_new W _
  obtain ⟨wm, hrun, hown, hgr⟩ := run_make_full V V.heap.size 26 46 j0 (.agg #[.slice none 0 0, .int .i64 0, .slice none 0 0]) 3 Tryz.underlying26 hj0 hj1 hj2 .i64 .i64 2 (by rw [hj3]; omega) (by unfold maxLen; omega) (Nat.le_refl _)
  obtain ⟨vg, hvg⟩ : ∃ vg, W.heap.size = vg := ⟨_, rfl⟩
  obtain ⟨tg, htg⟩ : ∃ tg, V.heap.size = tg := ⟨_, rfl⟩
  rw [htg] at hrun hown
  rw [hvg] at v0
  have hrun2 : (Instr.makeSlice 26 (.int .i64 2) (.int .i64 2)).run Tryz.prog V = .ok (.slice (some ⟨tg, 0, none⟩) 2 2) wm := hrun
  have hmc : (madeCells (Value.agg #[.slice none 0 0, .int .i64 0, .slice none 0 0]).cells (2 * 3)).toList = [tv0, tv0].flatMap TV.cells := by first | rfl | kernel_rfl
  rw [hmc] at hown
  have bm : Below V.heap.size V wm := (Below.refl _ V).grown hgr (Nat.le_refl _) (fun k hk => by simp at hk)
  obtain ⟨X, hX⟩ : ∃ X, X = wm.alloc (.cells #[.int .i64 3, .slice (some ⟨vg, 0, none⟩) 1 1, .int .i64 5, .slice (some ⟨tg, 0, none⟩) 2 2] 28 (0, 0)) := ⟨_, rfl⟩
  have bX : Below wm.heap.size wm X := by rw [hX]; exact alloc_below _ _
  obtain ⟨sB, hsB⟩ : ∃ sB, wm.heap.size = sB := ⟨_, rfl⟩
  have HG : Hid (BgI W X sB vg tg) := hide ⟨by rw [hX, ← hsB]; exact heap_alloc_new _ _, num1_row (below_box bX (below_box bm v0)), ⟨LRow.below TV.len (LRow.of_own (os := [tv0, tv0]) TV.len rfl hown) bX, fun x hx => by
      have hx' : x = tv0 := by simpa using hx
      subst hx'
      exact tv0_ok _⟩, (bV.trans (bm.mono bV.size)).trans (bX.mono (bV.trans (bm.mono bV.size)).size)⟩
  clear bV v0 hown hgr bm bX hrun
  go_enter Tryz.func8, Tryz.ntmps8
  rw [hV] at hrun2
  go_upto_region 2 with fail
  try rw [hvg]
  rw [← hX]
  try rw [hsB]
  clear hX hrun2 hvg htg hsB hV hmc
  have B0 : Below X.heap.size X X.drew := (Below.refl _ X).drew
  have HG0 := hide (HG.out.later B0)
  obtain ⟨s0, s1, s2, s3⟩ := box4 HG0.out.box
  go_region_held3 (fun w' => w'.cell? ⟨sB, 0, none⟩ = some (.int .i64 3) ∧ w'.cell? ⟨sB, 1, none⟩ = some (.slice (some ⟨vg, 0, none⟩) 1 1) ∧ w'.cell? ⟨sB, 2, none⟩ = some (.int .i64 5) ∧ w'.cell? ⟨sB, 3, none⟩ = some (.slice (some ⟨tg, 0, none⟩) 2 2)) (go_keep)
    (first
      | (go_at_call 6; refine (bg_bytes HG1.out HR1.out HM1.out).mono ?_; rintro _ z2 ⟨bp, bc, rfl, brow, d2⟩; have HG2 := hide (HG1.out.later d2); have HRW := hide brow; obtain ⟨s0, s1, s2, s3⟩ := box4 HG2.out.box; clear d2 brow)
      | (go_at_call 22; refine plain_any.mono ?_; rintro _ z1 ⟨gp, gos, rfl, gr, gm, d1⟩; have HG1 := hide (HG0.out.later d1); have HR1 := hide gr; have HM1 := hide gm; obtain ⟨s0, s1, s2, s3⟩ := box4 HG1.out.box; clear d1 gr gm))
  clear s0 s1 s2 s3
  go_wp2_with fail
  refine plain_any.mono ?_
  rintro _ z3 ⟨gq, gps, rfl, gr3, gm3, d3⟩
  have HG3 := hide (HG2.out.later d3)
  have HRW3 := hide (Row.below HRW.out d3)
  have HR3 := hide gr3
  have HM3 := hide gm3
  clear gr3 gm3 d3 HG2 HG1 HG0 HG HRW
  go_wp2_with fail
  refine (bg_parse HR3.out HM3.out HRW3.out).mono ?_
  rintro _ z4 ⟨xp, xc, yp, yc, ys, rfl, hv4, ht4, hl4, hm4, d4⟩
  obtain ⟨Y, hY⟩ : ∃ Y, Y = z4.alloc (.cells #[.int .i64 3, .slice xp 1 xc, .int .i64 5, .slice yp 2 yc] 28 (0, 0)) := ⟨_, rfl⟩
  have bY : Below z4.heap.size z4 Y := by rw [hY]; exact alloc_below _ _
  obtain ⟨xB, hxB⟩ : ∃ xB, z4.heap.size = xB := ⟨_, rfl⟩
  have HXB : Hid (Y.heap[xB]? = some (.cells #[.int .i64 3, .slice xp 1 xc, .int .i64 5, .slice yp 2 yc] 28 (0, 0))) := hide (by rw [hY, ← hxB]; exact heap_alloc_new _ _)
  have HG5 := hide ((HG3.out.later d4).later bY)
  have HRW5 := hide (Row.below (Row.below HRW3.out d4) bY)
  have HV5 := hide (hv4.later bY)
  have HT5 := hide (ht4.later bY)
  have HL5 := hide hl4
  have HM5 := hide hm4
  clear hv4 ht4 hl4 hm4 d4 bY HG3 HRW3
  go_upto_region 4 with fail
  rw [← hY]
  try rw [hxB]
  clear hY hxB
  have HEQ : Hid (decide (([6, 2, 10, 10, 4, 0, 0, 0, 0, 0, 0] : List Int) = [6, 2, 10, 10, 4, 0, 0, 0, 0, 0, 0]) = true) := hide (by decide)
  have ab := alloc_below Y (.cells #[.int .u8 6, .int .u8 2, .int .u8 10, .int .u8 10, .int .u8 4, .int .u8 0, .int .u8 0, .int .u8 0, .int .u8 0, .int .u8 0, .int .u8 0] 5 (0, 0))
  have HAB := hide ab
  clear ab
  go_wp2_with fail
  refine (equal_any (Row.below HRW5.out HAB.out) (bytes11 Y _) u8_11 u8_11).mono ?_
  rw [decide_eq_true (rfl : ([6, 2, 10, 10, 4, 0, 0, 0, 0, 0, 0] : List Int) = [6, 2, 10, 10, 4, 0, 0, 0, 0, 0, 0])]
  rintro _ Y2 ⟨rfl, hY2⟩
  have bY2 : Below Y.heap.size Y Y2 := by rw [hY2]; exact HAB.out
  have HG6 := hide (HG5.out.later bY2)
  have HX6 := hide (below_box bY2 HXB.out)
  have HV6 := hide (HV5.out.later bY2)
  have HT6 := hide (HT5.out.later bY2)
  have HFP : Hid (decide ((⟨3, [5], 5, ys.map TV.plain⟩ : FP) = ⟨3, [5], 5, [tv0, tv0].map TV.plain⟩) = true) := hide (by rw [HM5.out]; exact begun_fp)
  clear hY2 bY2 HG5 HXB HV5 HT5 HAB HEQ
  obtain ⟨s0, s1, s2, s3⟩ := box4 HG6.out.box
  obtain ⟨x0, x1, x2, x3⟩ := box4 HX6.out
  go_wp2_with fail
  refine (rsame_all HV6.out HG6.out.vec HT6.out HG6.out.tasks rfl rfl HL5.out rfl HFP.out).mono ?_
  rintro _ Y3 ⟨rfl, b9⟩
  have HB9 := hide ((HG6.out.later b9).below)
  clear b9
  go_wp2
  go_ret
  exact ⟨rfl, HB9.out⟩
end Go.Proofs.YtlfipmieaabagaaGreat

/-
  SnapSame walked: which states are the same; a clone is the same, and its own. The conditions: that the states lie there, and that their lists are not too long.
-/
namespace Go.Proofs.YtlfipmieaabagaaGreat
open Go.RowKit Go.Shelf

/-- What is no number stays, numbers stay numbers. -/
structure Sh (base : Nat) (X Y : World) : Prop where
  stay : ∀ a v, X.cell? a = some v → (∀ n, v ≠ .int .i64 n) → Y.cell? a = some v
  num : ∀ a n, X.cell? a = some (.int .i64 n) → ∃ m, Y.cell? a = some (.int .i64 m)
  fz : ∀ a, X.frozen? a = false → Y.frozen? a = false
  only : Only (fun i => base ≤ i) X Y
theorem Sh.refl (base : Nat) (X : World) : Sh base X X := ⟨fun _ _ h _ => h, fun _ n h => ⟨n, h⟩, fun _ h => h, Only.refl _ _⟩
theorem frozen_set (w : World) (b o : Nat) (v : Value) (a : Addr) : (w.setCell ⟨b, o, none⟩ v).frozen? a = w.frozen? a := by
  unfold World.frozen? World.setCell
  by_cases h : a.block = b
  · subst h
    simp only [Array.getElem?_modify, if_true]
    cases hh : w.heap[a.block]? with
    | none => simp
    | some ob => cases ob <;> simp
  · simp only [Array.getElem?_modify]
    rw [if_neg (fun e => h e.symm)]
theorem Sh.set {base : Nat} {X Y : World} {b o : Nat} {m : Int} (h : Sh base X Y) (hc : Y.cell? ⟨b, o, none⟩ = some (.int .i64 m)) (hb : base ≤ b) (y : Int) : Sh base X (Y.setCell ⟨b, o, none⟩ (.int .i64 y)) := by
  have hsame : ∀ a : Addr, a ≠ ⟨b, o, none⟩ → (Y.setCell ⟨b, o, none⟩ (.int .i64 y)).cell? a = Y.cell? a := fun a ha => World.cell?_setCell_other _ _ _ _ (fun e => ha e.symm)
  have hin : (Y.setCell ⟨b, o, none⟩ (.int .i64 y)).cell? ⟨b, o, none⟩ = some (.int .i64 y) := World.cell?_setCell_same' _ _ _ (by rw [hc]; rfl)
  refine ⟨fun a v ha hv => ?_, fun a n ha => ?_, fun a ha => by rw [frozen_set]; exact h.fz a ha, h.only.trans (Only.set (F := fun i => base ≤ i) Y b o _ hb)⟩
  · by_cases e : a = ⟨b, o, none⟩
    · subst e
      have h1 := h.stay _ _ ha hv
      rw [hc] at h1
      simp only [Option.some.injEq] at h1
      exact absurd h1.symm (hv m)
    · rw [hsame a e]; exact h.stay a v ha hv
  · by_cases e : a = ⟨b, o, none⟩
    · subst e; exact ⟨y, hin⟩
    · obtain ⟨k, hk⟩ := h.num a n ha
      exact ⟨k, by rw [hsame a e]; exact hk⟩
/-- The two states, as they lie, and in their boxes. -/
structure TwS (W X : World) (oA oB : Nat) (id out jd ot : Int) (vp tp up sp : Option Addr) (nv vc nt tc mv uc mt sc : Nat) (vs us : List Int) (xs ys : List TV) : Prop where
  boxA : X.heap[oA]? = some (.cells #[.int .i64 id, .slice vp nv vc, .int .i64 out, .slice tp nt tc] 28 (0, 0))
  boxB : X.heap[oB]? = some (.cells #[.int .i64 jd, .slice up mv uc, .int .i64 ot, .slice sp mt sc] 28 (0, 0))
  av : NRow X vp vc vs
  at_ : TRow X tp tc xs
  bv : NRow X up uc us
  bt : TRow X sp sc ys
  below : Below W.heap.size W X
theorem TwS.later {W X Y : World} {oA oB : Nat} {id out jd ot : Int} {vp tp up sp : Option Addr} {nv vc nt tc mv uc mt sc : Nat} {vs us : List Int} {xs ys : List TV} (h : TwS W X oA oB id out jd ot vp tp up sp nv vc nt tc mv uc mt sc vs us xs ys) (hb : Below X.heap.size X Y) : TwS W Y oA oB id out jd ot vp tp up sp nv vc nt tc mv uc mt sc vs us xs ys :=
  ⟨below_box hb h.boxA, below_box hb h.boxB, h.av.later hb, h.at_.later hb, h.bv.later hb, h.bt.later hb, h.below.trans (hb.mono h.below.size)⟩
theorem ptr_ne_int (p : Option Addr) (n c : Nat) : ∀ k, Value.slice p n c ≠ .int .i64 k := fun k h => by cases h
set_option maxRecDepth 100000 in
set_option maxHeartbeats 16000000 in
theorem same_walk {W : World} {id out jd ot : Int} {vp tp up sp : Option Addr} {nv vc nt tc mv uc mt sc : Nat} {vs us : List Int} {xs ys : List TV} (h1 : NRow W vp vc vs) (h2 : NRow W up uc us) (h3 : TRow W tp tc xs) (h4 : TRow W sp sc ys) (hn1 : vs.length = nv) (hn2 : us.length = mv) (hn3 : xs.length = nt) (hn4 : ys.length = mt) (hb1 : nv * 8 ≤ 140737488355328) (hb2 : nt * 56 ≤ 140737488355328) (hb3 : ∀ x ∈ xs, x.ks.length * 24 ≤ 140737488355328 ∧ x.xs.length * 24 ≤ 140737488355328 ∧ ∀ y ∈ x.xs, y.rs.length * 16 ≤ 140737488355328) :
    Calls Tryz.prog 5 #[.agg #[.int .i64 id, .slice vp nv vc, .int .i64 out, .slice tp nt tc], .agg #[.int .i64 jd, .slice up mv uc, .int .i64 ot, .slice sp mt sc]] W fun e w' => e = .returned (.bool true) ∧ Below W.heap.size W w' := by
  obtain ⟨V0, hV0⟩ : ∃ V0, V0 = W.alloc (.cells #[.int .i64 id, .slice vp nv vc, .int .i64 out, .slice tp nt tc] 28 (0, 0)) := ⟨_, rfl⟩
  obtain ⟨V, hV⟩ : ∃ V, V = V0.alloc (.cells #[.int .i64 jd, .slice up mv uc, .int .i64 ot, .slice sp mt sc] 28 (0, 0)) := ⟨_, rfl⟩
  have a1 : Below W.heap.size W V0 := by rw [hV0]; exact alloc_below _ _
  have a2 : Below V0.heap.size V0 V := by rw [hV]; exact alloc_below _ _
  have hs0 : V0.heap.size = W.heap.size + 1 := by rw [hV0]; simp
  obtain ⟨oA, hoA⟩ : ∃ oA, W.heap.size = oA := ⟨_, rfl⟩
  obtain ⟨oB, hoB⟩ : ∃ oB, V0.heap.size = oB := ⟨_, rfl⟩
  have hab : oA + 1 = oB := by omega
  have bV := a1.trans (a2.mono a1.size)
  have HT : Hid (TwS W V oA oB id out jd ot vp tp up sp nv vc nt tc mv uc mt sc vs us xs ys) := hide ⟨by rw [← hoA]; exact below_box a2 (by rw [hV0]; exact heap_alloc_new W _), by rw [hV, ← hoB]; exact heap_alloc_new V0 _, h1.later bV, h3.later bV, h2.later bV, h4.later bV, bV⟩
  have HN1 := hide hn1
  have HN2 := hide hn2
  have HN3 := hide hn3
  have HN4 := hide hn4
  have HB3 := hide hb3
  have HB1 := hide hb1
  have HB2 := hide hb2
  have HAB : Hid (W.heap.size = oA ∧ oA + 1 = oB) := hide ⟨hoA, hab⟩
  obtain ⟨rb, hrb⟩ : ∃ rb, decide ((⟨id, vs, out, xs.map TV.plain⟩ : FP) = ⟨jd, us, ot, ys.map TV.plain⟩) = rb := ⟨_, rfl⟩
  have HS1 := hide (fun X (hX : TwS W X oA oB id out jd ot vp tp up sp nv vc nt tc mv uc mt sc vs us xs ys) => psame_all (W := X) hX.av hX.bv hX.at_ hX.bt hn1 hn2 hn3 hn4 hrb)
  have HS2 := hide (fun X (hX : TwS W X oA oB id out jd ot vp tp up sp nv vc nt tc mv uc mt sc vs us xs ys) => rsame_all (W := X) hX.av hX.bv hX.at_ hX.bt hn1 hn2 hn3 hn4 hrb)
  have HS3 := hide (fun X (hX : TwS W X oA oB id out jd ot vp tp up sp nv vc nt tc mv uc mt sc vs us xs ys) => psame_all (W := X) (id := id) (out := out) (jd := id) (ot := out) (rb := true) hX.av hX.av hX.at_ hX.at_ hn1 hn1 hn3 hn3 (decide_eq_true rfl))
  clear h1 h2 h3 h4 hn1 hn2 hn3 hn4 hb3 a1 a2 hs0 bV hrb
  go_enter Tryz.func5, Tryz.ntmps5
  go_upto_region 1 with fail
  try rw [hoA]
  try rw [hab]
  rw [← hV0, ← hV]
  try rw [hoB]
  clear hV0 hV hoA hoB hab
  have B0 : Below V.heap.size V V.drew := (Below.refl _ V).drew
  have HT0 := hide (HT.out.later B0)
  obtain ⟨x0, x1, x2, x3⟩ := box4 HT0.out.boxA
  obtain ⟨y0, y1, y2, y3⟩ := box4 HT0.out.boxB
  go_region_held3 (fun w' => w'.cell? ⟨oA, 0, none⟩ = some (.int .i64 id) ∧ w'.cell? ⟨oA, 1, none⟩ = some (.slice vp nv vc) ∧ w'.cell? ⟨oA, 2, none⟩ = some (.int .i64 out) ∧ w'.cell? ⟨oA, 3, none⟩ = some (.slice tp nt tc) ∧ w'.cell? ⟨oB, 0, none⟩ = some (.int .i64 jd) ∧ w'.cell? ⟨oB, 1, none⟩ = some (.slice up mv uc) ∧ w'.cell? ⟨oB, 2, none⟩ = some (.int .i64 ot) ∧ w'.cell? ⟨oB, 3, none⟩ = some (.slice sp mt sc)) (go_keep)
    (first
      | (go_at_call 13; refine (HS3.out _ HT3.out).mono ?_; rintro _ z4 ⟨rfl, d4⟩; have HT4 := hide (HT3.out.later d4); obtain ⟨x0, x1, x2, x3⟩ := box4 HT4.out.boxA; obtain ⟨y0, y1, y2, y3⟩ := box4 HT4.out.boxB; clear d4)
      | (go_at_call 12; refine (HS2.out _ HT2.out).mono ?_; rintro _ z3 ⟨rfl, d3⟩; have HT3 := hide (HT2.out.later d3); obtain ⟨x0, x1, x2, x3⟩ := box4 HT3.out.boxA; obtain ⟨y0, y1, y2, y3⟩ := box4 HT3.out.boxB; clear d3)
      | (go_at_call 13; refine (HS1.out _ HT1.out).mono ?_; rintro _ z2 ⟨rfl, d2⟩; have HT2 := hide (HT1.out.later d2); obtain ⟨x0, x1, x2, x3⟩ := box4 HT2.out.boxA; obtain ⟨y0, y1, y2, y3⟩ := box4 HT2.out.boxB; clear d2)
      | (go_at_call 8; refine begun_any.mono ?_; rintro _ z1 ⟨rfl, d1⟩; have HT1 := hide (HT0.out.later d1); obtain ⟨x0, x1, x2, x3⟩ := box4 HT1.out.boxA; obtain ⟨y0, y1, y2, y3⟩ := box4 HT1.out.boxB; clear d1))
  clear x0 x1 x2 x3 y0 y1 y2 y3 HT HT0 HT1 HT2 HT3 HS1 HS2 HS3
  obtain ⟨x0, x1, x2, x3⟩ := box4 HT4.out.boxA
  go_wp2_with fail
  refine (clone_all HT4.out.av HT4.out.at_ HN1.out HN3.out hb1 hb2 HB3.out).mono ?_
  rintro _ z5 ⟨q, qc, b, bc, cs, rfl, cv, ct, cl, cm, ce, d5⟩
  simp only at cv cm ⊢
  obtain ⟨base, hbase⟩ : ∃ base, z4.heap.size = base := ⟨_, rfl⟩
  rw [hbase] at cv ct ce
  have HT5 := HT4.out.later d5
  obtain ⟨X, hX⟩ : ∃ X, X = z5.alloc (.cells #[.int .i64 id, .slice q nv qc, .int .i64 out, .slice b nt bc] 28 (0, 0)) := ⟨_, rfl⟩
  have bX : Below z5.heap.size z5 X := by rw [hX]; exact alloc_below _ _
  obtain ⟨cB, hcB⟩ : ∃ cB, z5.heap.size = cB := ⟨_, rfl⟩
  have HCB : Hid (X.heap[cB]? = some (.cells #[.int .i64 id, .slice q nv qc, .int .i64 out, .slice b nt bc] 28 (0, 0))) := hide (by rw [hX, ← hcB]; exact heap_alloc_new _ _)
  have HT6 := hide (HT5.later bX)
  have HCV := hide (ownsRow_later cv bX)
  have HCT := hide (ownsRow_later ct bX)
  have HCL := hide cl
  have HCM := hide cm
  have HCE : Hid (∀ y ∈ cs, TVo y X base) := hide (fun y hy => TVo.only (ce y hy) (Only.fresh bX (fun _ => False)) (fun i e => e.elim))
  have HBS : Hid (oB < base ∧ base ≤ cB ∧ oA < base) := hide ⟨by rw [← hbase]; exact (Array.getElem?_eq_some_iff.1 HT4.out.boxB).1, by rw [← hbase, ← hcB]; exact d5.size, by rw [← hbase]; exact (Array.getElem?_eq_some_iff.1 HT4.out.boxA).1⟩
  have HBE := hide hbase
  have HZ0 := hide (d5.trans (bX.mono d5.size))
  clear cv ct cl cm ce d5 HT5 bX hbase x0 x1 x2 x3
  go_upto_region 4 with fail
  rw [← hX]
  try rw [hcB]
  clear hX hcB
  have HS4 := hide (rsame_all (W := X) (id := id) (out := out) (jd := id) (ot := out) (rb := true) HT6.out.av (LRow.of_own intCells_len HN1.out HCV.out) HT6.out.at_ (⟨LRow.of_own TV.len HCL.out HCT.out, fun x hx => (HCE.out x hx).ok⟩ : TRow X b bc cs) HN1.out HN1.out HN3.out HCL.out (decide_eq_true (by rw [HCM.out])))
  obtain ⟨x0, x1, x2, x3⟩ := box4 HT6.out.boxA
  obtain ⟨c0, c1, c2, c3⟩ := box4 HCB.out
  go_wp2_with fail
  refine HS4.out.mono ?_
  rintro _ w0 ⟨rfl, d6⟩
  have HK1 : Hid (w0.cell? ⟨cB, 1, none⟩ = some (.slice q nv qc)) := hide (cell_later d6 c1)
  have HK3 : Hid (w0.cell? ⟨cB, 3, none⟩ = some (.slice b nt bc)) := hide (cell_later d6 c3)
  have HV0 := hide (ownsRow_later HCV.out d6)
  have HT0 := hide (ownsRow_later HCT.out d6)
  have HE0 : Hid (∀ y ∈ cs, TVo y w0 base) := hide (fun y hy => TVo.only (HCE.out y hy) (Only.fresh d6 (fun _ => False)) (fun i e => e.elim))
  have HZ : Hid (Below z4.heap.size z4 w0) := hide (HZ0.out.trans (d6.mono HZ0.out.size))
  have HVR : Hid (NRow w0 q qc vs) := hide (LRow.of_own intCells_len HN1.out HV0.out)
  have HTR : Hid (TRow w0 b bc cs) := hide ⟨LRow.of_own TV.len HCL.out HT0.out, fun x hx => (HE0.out x hx).ok⟩
  have l1 := HVR.out.le
  have l2 := HVR.out.top
  have l3 := HTR.out.row.le
  have l4 := HTR.out.row.top
  rw [HN1.out] at l1
  rw [HCL.out] at l3
  clear d6 HS4 HCV HCT HCE HCB HT6 HZ0 x0 x1 x2 x3 c0 c1 c2 c3 hb1 hb2
  have y1 := HK1.out
  go_wp2_with fail
  clear y1
  go_loopw [37] (fun i wr => ∃ k : Nat, k ≤ nv ∧ i = .int .i64 (k : Int) ∧ Hid (Sh base w0 wr)) (fun i _ => nv - (intOf i).toNat)
  case atStart => exact ⟨0, Nat.zero_le _, rfl, hide (Sh.refl _ _)⟩
  case round =>
    obtain ⟨k, hk, rfl, HS⟩ := hrel
    rename World => wr
    by_cases hlt : k < nv
    · obtain ⟨x, hx⟩ : ∃ x, vs[k]! = x := ⟨_, rfl⟩
      obtain ⟨g, o, rfl, e0⟩ := HVR.out.at (by rw [HN1.out]; exact hlt) hx
      obtain ⟨m, hm⟩ := HS.out.num _ _ e0
      have y1 := HS.out.stay _ _ HK1.out (ptr_ne_int _ _ _)
      have hfz : wr.frozen? ⟨g, o + k, none⟩ = false := HS.out.fz _ (by obtain ⟨_, cur, h9⟩ := own_block_lt HV0.out (b := g) (by simp [Value.ownBlock]); simp [World.frozen?, h9])
      have HSET : Hid (∀ y, Sh base w0 (wr.setCell ⟨g, o + k, none⟩ (.int .i64 y))) := hide (fun y => HS.out.set hm (own_block_base HV0.out (by simp [Value.ownBlock])) y)
      clear hx e0
      go_wp2
      exact ⟨⟨k + 1, by omega, by first | rfl | go_num, hide (HSET.out _)⟩, by simp [intOf]; omega⟩
    · obtain rfl : k = nv := by omega
      have y3 := HS.out.stay _ _ HK3.out (ptr_ne_int _ _ _)
      go_wp2_with fail
      clear y3
      go_loopw [51] (fun i wr => ∃ k : Nat, k ≤ nt ∧ i = .int .i64 (k : Int) ∧ Hid (Sh base w0 wr)) (fun i _ => nt - (intOf i).toNat)
      case atStart => exact ⟨0, Nat.zero_le _, rfl, HS⟩
      case round =>
        obtain ⟨t, ht, rfl, HS1⟩ := hrel
        rename World => ws
        clear HS
        by_cases hlt2 : t < nt
        · obtain ⟨y, hy⟩ : ∃ y, cs[t]! = y := ⟨_, rfl⟩
          have hlt3 : t < cs.length := by rw [HCL.out]; exact hlt2
          have hym : y ∈ cs := by rw [← hy, getElem!_pos cs t hlt3]; exact List.getElem_mem _
          have HYO := hide (HE0.out y hym)
          have HYK := hide ((HTR.out.ok y hym).keys)
          have HYB := hide ((HTR.out.ok y hym).bufs)
          obtain ⟨g, o, rfl, e0, e1, e2⟩ := HTR.out.at hlt3 hy
          obtain ⟨ks, kp, kc, tn, zs, bp, bc'⟩ := y
          simp only at e0 e1 e2 HYK HYB
          obtain ⟨nk, hnk⟩ : ∃ A, ks.length = A := ⟨_, rfl⟩
          obtain ⟨nb, hnb⟩ : ∃ A, zs.length = A := ⟨_, rfl⟩
          rw [hnk] at e0
          rw [hnb] at e2
          have HNK := hide hnk
          have HNB := hide hnb
          have l5 := HYK.out.1
          have l6 := HYK.out.2.1
          have l7 := HYB.out.row.le
          have l8 := HYB.out.row.top
          rw [hnk] at l5
          rw [hnb] at l7
          have HE0' := hide e0
          have HE2' := hide e2
          obtain ⟨m, hm⟩ := HS1.out.num _ _ e1
          have y3 := HS1.out.stay _ _ HK3.out (ptr_ne_int _ _ _)
          have hfz : ws.frozen? ⟨g, o + t * 3 + 1, none⟩ = false := HS1.out.fz _ (by obtain ⟨_, cur, h9⟩ := own_block_lt HT0.out (b := g) (by simp [Value.ownBlock]); simp [World.frozen?, h9])
          obtain ⟨m2, hm2⟩ : ∃ m2, IntKind.i64.wrap (m + 1) = m2 := ⟨_, rfl⟩
          obtain ⟨w1, hw1⟩ : ∃ w1, w1 = ws.setCell ⟨g, o + t * 3 + 1, none⟩ (.int .i64 m2) := ⟨_, rfl⟩
          have HS2 : Hid (Sh base w0 w1) := hide (by rw [hw1]; exact HS1.out.set hm (own_block_base HT0.out (by simp [Value.ownBlock])) m2)
          clear hy hym e0 e1 e2 hnk hnb hlt3
          go_upto_region 15 with fail
          rw [← hw1]
          clear hw1 hm2 hm hfz y3 HS1
          have y3 := HS2.out.stay _ _ HK3.out (ptr_ne_int _ _ _)
          have z0 := HS2.out.stay _ _ HE0'.out (ptr_ne_int _ _ _)
          go_wp2_with fail
          clear y3 z0
          go_loopw [73] (fun i wr => ∃ k : Nat, k ≤ nk ∧ i = .int .i64 (k : Int) ∧ Hid (Sh base w0 wr)) (fun i _ => nk - (intOf i).toNat)
          case atStart => exact ⟨0, Nat.zero_le _, rfl, HS2⟩
          case round =>
            obtain ⟨u, hu, rfl, HS3⟩ := hrel
            rename World => wu
            clear HS2
            by_cases hlt4 : u < nk
            · obtain ⟨x, hx⟩ : ∃ x, ks[u]! = x := ⟨_, rfl⟩
              obtain ⟨kg, ko, rfl, f0, f1, f2⟩ := krow_at HYK.out (by rw [HNK.out]; exact hlt4) hx
              obtain ⟨m, hm⟩ := HS3.out.num _ _ f2
              have y3 := HS3.out.stay _ _ HK3.out (ptr_ne_int _ _ _)
              have z0 := HS3.out.stay _ _ HE0'.out (ptr_ne_int _ _ _)
              have hfz : wu.frozen? ⟨kg, ko + u * 3 + 2, none⟩ = false := HS3.out.fz _ (by obtain ⟨_, cur, h9⟩ := own_block_lt HYO.out.keys (b := kg) (by simp [Value.ownBlock]); simp [World.frozen?, h9])
              have HSET : Hid (∀ y, Sh base w0 (wu.setCell ⟨kg, ko + u * 3 + 2, none⟩ (.int .i64 y))) := hide (fun y => HS3.out.set hm (own_block_base HYO.out.keys (by simp [Value.ownBlock])) y)
              clear hx f0 f1 f2
              go_wp2
              exact ⟨⟨u + 1, by omega, by first | rfl | go_num, hide (HSET.out _)⟩, by simp [intOf]; omega⟩
            · obtain rfl : u = nk := by omega
              have y3 := HS3.out.stay _ _ HK3.out (ptr_ne_int _ _ _)
              have z2 := HS3.out.stay _ _ HE2'.out (ptr_ne_int _ _ _)
              go_wp2_with fail
              clear y3 z2
              go_loopw [98] (fun i wr => ∃ k : Nat, k ≤ nb ∧ i = .int .i64 (k : Int) ∧ Hid (Sh base w0 wr)) (fun i _ => nb - (intOf i).toNat)
              case atStart => exact ⟨0, Nat.zero_le _, rfl, HS3⟩
              case round =>
                obtain ⟨v, hv, rfl, HS4⟩ := hrel
                rename World => wv
                clear HS3
                by_cases hlt5 : v < nb
                · have hlt6 : v < zs.length := by rw [HNB.out]; exact hlt5
                  obtain ⟨z, hz⟩ : ∃ z, zs[v]! = z := ⟨_, rfl⟩
                  have hzm : z ∈ zs := by rw [← hz, getElem!_pos zs v hlt6]; exact List.getElem_mem _
                  have HZO := hide (HYO.out.each z hzm)
                  have HZR := hide (HYB.out.ok z hzm)
                  obtain ⟨bg, bo, rfl, f0⟩ := HYB.out.at (i := v) hlt6
                  rw [hz] at f0
                  obtain ⟨rs, rp, rc⟩ := z
                  simp only at f0
                  obtain ⟨nr, hnr⟩ : ∃ A, rs.length = A := ⟨_, rfl⟩
                  rw [hnr] at f0
                  have HNR := hide hnr
                  have HF0 := hide f0
                  have l9 : nr ≤ rc := by rw [← hnr]; exact LRow.le HZR.out
                  have l10 : rc ≤ 9223372036854775807 := LRow.top HZR.out
                  have y3 := HS4.out.stay _ _ HK3.out (ptr_ne_int _ _ _)
                  have z2 := HS4.out.stay _ _ HE2'.out (ptr_ne_int _ _ _)
                  have g2 := HS4.out.stay _ _ HF0.out (ptr_ne_int _ _ _)
                  clear hz hzm f0 hnr hlt6
                  go_wp2_with fail
                  clear y3 z2 g2
                  go_loopw [111] (fun i wr => ∃ k : Nat, k ≤ nr ∧ i = .int .i64 (k : Int) ∧ Hid (Sh base w0 wr)) (fun i _ => nr - (intOf i).toNat)
                  case atStart => exact ⟨0, Nat.zero_le _, rfl, HS4⟩
                  case round =>
                    obtain ⟨j, hj, rfl, HS5⟩ := hrel
                    rename World => wj
                    clear HS4
                    by_cases hlt7 : j < nr
                    · obtain ⟨x, hx⟩ : ∃ x, rs[j]! = x := ⟨_, rfl⟩
                      obtain ⟨rg, ro, hrp, f0, f1⟩ := RRow.at HZR.out (by simp only; rw [HNR.out]; exact hlt7) hx
                      simp only at hrp
                      subst hrp
                      obtain ⟨m, hm⟩ := HS5.out.num _ _ f1
                      have y3 := HS5.out.stay _ _ HK3.out (ptr_ne_int _ _ _)
                      have z2 := HS5.out.stay _ _ HE2'.out (ptr_ne_int _ _ _)
                      have g2 := HS5.out.stay _ _ HF0.out (ptr_ne_int _ _ _)
                      have hfz : wj.frozen? ⟨rg, ro + j * 2 + 1, none⟩ = false := HS5.out.fz _ (by obtain ⟨_, cur, h9⟩ := own_block_lt HZO.out (b := rg) (by simp [Value.ownBlock]); simp [World.frozen?, h9])
                      have HSET : Hid (∀ y, Sh base w0 (wj.setCell ⟨rg, ro + j * 2 + 1, none⟩ (.int .i64 y))) := hide (fun y => HS5.out.set hm (own_block_base HZO.out (by simp [Value.ownBlock])) y)
                      clear hx f0 f1
                      go_wp2
                      exact ⟨⟨j + 1, by omega, by first | rfl | go_num, hide (HSET.out _)⟩, by simp [intOf]; omega⟩
                    · obtain rfl : j = nr := by omega
                      go_wp2
                      exact ⟨⟨v + 1, by omega, by first | rfl | go_num, HS5⟩, by simp [intOf]; omega⟩
                · obtain rfl : v = nb := by omega
                  go_wp2
                  exact ⟨⟨t + 1, by omega, by first | rfl | go_num, HS4⟩, by simp [intOf]; omega⟩
        · obtain rfl : t = nt := by omega
          have HTW := hide (HT4.out.later (HZ.out.trans (HS1.out.only.below HZ.out.size (fun i e => by rw [HBE.out]; exact e))))
          obtain ⟨x0, x1, x2, x3⟩ := box4 HTW.out.boxA
          go_upto_region 30 with fail
          have B0 : Below ws.heap.size ws ws.drew := (Below.refl _ ws).drew
          have HTD := hide (HTW.out.later B0)
          clear x0 x1 x2 x3
          obtain ⟨x0, x1, x2, x3⟩ := box4 HTD.out.boxA
          go_region_held3 (fun w' => w'.cell? ⟨oA, 0, none⟩ = some (.int .i64 id) ∧ w'.cell? ⟨oA, 1, none⟩ = some (.slice vp k vc) ∧ w'.cell? ⟨oA, 2, none⟩ = some (.int .i64 out) ∧ w'.cell? ⟨oA, 3, none⟩ = some (.slice tp t tc)) (go_keep)
            (first
              | (go_at_call 12; refine HSF.out.mono ?_; rintro _ z8 ⟨rfl, d8⟩; have HT8 := hide (HTC.out.later d8); obtain ⟨x0, x1, x2, x3⟩ := box4 HT8.out.boxA; clear d8)
              | (go_at_call 14; refine (clone_all HTD.out.av HTD.out.at_ HN1.out HN3.out HB1.out HB2.out HB3.out).mono ?_; rintro _ z7 ⟨q7, qc7, b7, bc7, cs7, rfl, cv7, ct7, cl7, cm7, ce7, d7⟩; simp only at cv7 cm7 ⊢; have HTC := hide (HTD.out.later d7); have HSF := hide (rsame_all (W := z7) (id := id) (out := out) (jd := id) (ot := out) (rb := true) HTC.out.av (LRow.of_own intCells_len HN1.out cv7) HTC.out.at_ (⟨LRow.of_own TV.len cl7 ct7, fun x hx => (ce7 x hx).ok⟩ : TRow z7 b7 bc7 cs7) HN1.out HN1.out HN3.out cl7 (decide_eq_true (by rw [cm7]))); obtain ⟨x0, x1, x2, x3⟩ := box4 HTC.out.boxA; clear d7 cv7 ct7 cl7 cm7 ce7))
          go_wp2
          go_ret
          exact ⟨rfl, HT8.out.below⟩
end Go.Proofs.YtlfipmieaabagaaGreat

/-
  SnapSame, as said: which states are the same; a clone is the same, and its own. No conditions.
-/
namespace Go.Proofs.YtlfipmieaabagaaGreat
open Go.ChangeShapes Go.WideShapes Go.ChangeAt Go.RowKit Go.Shelf

theorem Tryz.cells9I : Tryz.prog.cellsOf 2 = 1 := by kernel_rfl
theorem Tryz.cells9N : Tryz.prog.cellsOf 3 = 1 := by kernel_rfl
theorem Tryz.cells9K : Tryz.prog.cellsOf 48 = 3 := by kernel_rfl
theorem Tryz.cells9Ks : Tryz.prog.cellsOf 41 = 1 := by kernel_rfl
theorem Tryz.cells9Rs : Tryz.prog.cellsOf 44 = 1 := by kernel_rfl
theorem Tryz.cells9O : Tryz.prog.cellsOf 43 = 2 := by kernel_rfl
theorem Tryz.cells9T : Tryz.prog.cellsOf 46 = 3 := by kernel_rfl
theorem Tryz.cells9Ts : Tryz.prog.cellsOf 26 = 1 := by kernel_rfl
theorem Tryz.cells9Is : Tryz.prog.cellsOf 25 = 1 := by kernel_rfl
theorem Tryz.cells9F : Tryz.prog.cellsOf 28 = 4 := by kernel_rfl
theorem arg_ks9 {H : Type} {enc : TypeId × Value → H} {W : World} (fuel : Nat) (cs : List Value) (y : DataW H × List MemPlace) (hl : cs.length = 3) (_ : Sz 48 y.1) (h : DataW.trod enc Tryz.prog W 0 (fun _ => true) true fuel 48 cs = some y) :
    ∃ o : Op.KS, cs = o.cells ∧ True ∧ 1 ≤ Rows.uptoBulk y.1 := by
  match cs, hl with
  | [c0, c1, c2], _ =>
    obtain ⟨xs, m, _, _, _, hxl, hfs⟩ := DataW.trod_struct Tryz.underlying48 h
    have hxl' : xs.length = 3 := hxl
    match xs, hxl' with
    | [y0, y1, y2], _ =>
      have g0 : DataW.trod enc Tryz.prog W 0 (fun _ => true) true m 2 (([c0, c1, c2].drop 0).take (Tryz.prog.cellsOf 2)) = [y0, y1, y2][0]? := hfs 0 _ rfl
      rw [Tryz.cells9I] at g0
      replace g0 : DataW.trod enc Tryz.prog W 0 (fun _ => true) true m 2 [c0] = some y0 := g0
      obtain ⟨n0, e0, _, w0⟩ := DataW.trod_int Tryz.underlying2 g0
      have g1 : DataW.trod enc Tryz.prog W 0 (fun _ => true) true m 2 (([c0, c1, c2].drop 1).take (Tryz.prog.cellsOf 2)) = [y0, y1, y2][1]? := hfs 1 _ rfl
      rw [Tryz.cells9I] at g1
      replace g1 : DataW.trod enc Tryz.prog W 0 (fun _ => true) true m 2 [c1] = some y1 := g1
      obtain ⟨n1, e1, _, w1⟩ := DataW.trod_int Tryz.underlying2 g1
      have g2 : DataW.trod enc Tryz.prog W 0 (fun _ => true) true m 2 (([c0, c1, c2].drop 2).take (Tryz.prog.cellsOf 2)) = [y0, y1, y2][2]? := hfs 2 _ rfl
      rw [Tryz.cells9I] at g2
      replace g2 : DataW.trod enc Tryz.prog W 0 (fun _ => true) true m 2 [c2] = some y2 := g2
      obtain ⟨n2, e2, _, w2⟩ := DataW.trod_int Tryz.underlying2 g2
      simp only [List.cons.injEq, and_true] at e0 e1 e2
      subst e0 e1 e2
      exact ⟨⟨n0, n1, n2⟩, rfl, trivial, bulk_one _⟩
theorem arg_int9 {H : Type} {enc : TypeId × Value → H} {W : World} (fuel : Nat) (cs : List Value) (y : DataW H × List MemPlace) (hl : cs.length = 1) (_ : Sz 2 y.1) (h : DataW.trod enc Tryz.prog W 0 (fun _ => true) true fuel 2 cs = some y) :
    ∃ o : Int, cs = intCells o ∧ True ∧ 1 ≤ Rows.uptoBulk y.1 := by
  match cs, hl with
  | [c0], _ =>
    obtain ⟨n0, e0, _, w0⟩ := DataW.trod_int Tryz.underlying2 h
    simp only [List.cons.injEq, and_true] at e0
    subst e0
    exact ⟨n0, rfl, trivial, bulk_one _⟩
theorem ones9 {α : Type} : ∀ (es : List α), (es.map fun _ => 1).sum = es.length
  | [] => rfl
  | _ :: es => by simp only [List.map_cons, List.sum_cons, List.length_cons, ones9 es]; omega
theorem arg_rec9 {H : Type} {enc : TypeId × Value → H} {W : World} (fuel : Nat) (cs : List Value) (y : DataW H × List MemPlace) (hl : cs.length = 2) (_ : Sz 51 y.1) (h : DataW.trod enc Tryz.prog W 0 (fun _ => true) true fuel 51 cs = some y) :
    ∃ o : RC, cs = o.cells ∧ o.fine ∧ 1 ≤ Rows.uptoBulk y.1 := arg_rec fuel cs y hl h
theorem arg_sv9 {H : Type} {enc : TypeId × Value → H} {W : World} (fuel : Nat) (cs : List Value) (y : DataW H × List MemPlace) (hl : cs.length = 1) (hz : Sz 49 y.1) (h : DataW.trod enc Tryz.prog W 0 (fun _ => true) true fuel 49 cs = some y) :
    ∃ o : SV, cs = o.cells ∧ (o.ok W ∧ o.rs.length * 16 ≤ 140737488351232) ∧ 1 ≤ Rows.uptoBulk y.1 := by
  match cs, hl with
  | [c0], _ =>
    obtain ⟨p, cap, es, h1, h2, h3, h4, h5, h6, h7, h8⟩ := arg_listS (cells := RC.cells) (wt := fun _ => 1) (R := RC.fine) (by decide) Tryz.underlying49 Tryz.cellsRec arg_rec9 h hz
    have hb := sized_of (bytes := 16) hz Tryz.underlying49 (by kernel_rfl) h8
    exact ⟨⟨es, p, cap⟩, by rw [h1]; rfl, ⟨⟨h2, h3, h7, h5⟩, hb⟩, bulk_one _⟩
/-- What is known of a task's lists. -/
def TV.fits (x : TV) (W : World) : Prop := x.ok W ∧ x.ks.length * 24 ≤ 140737488351232 ∧ x.xs.length * 24 ≤ 140737488351232 ∧ ∀ y ∈ x.xs, y.rs.length * 16 ≤ 140737488351232
theorem arg_ts9 {H : Type} {enc : TypeId × Value → H} {W : World} (fuel : Nat) (cs : List Value) (y : DataW H × List MemPlace) (hl : cs.length = 3) (hz9 : Sz 46 y.1) (h : DataW.trod enc Tryz.prog W 0 (fun _ => true) true fuel 46 cs = some y) :
    ∃ o : TV, cs = o.cells ∧ o.fits W ∧ 1 ≤ Rows.uptoBulk y.1 := by
  match cs, hl with
  | [c0, c1, c2], _ =>
    obtain ⟨xs, m, _, hy, _, hxl, hfs⟩ := DataW.trod_struct Tryz.underlying46 h
    have hxl' : xs.length = 2 := hxl
    match xs, hxl' with
    | [y0, y1], _ =>
      have g0 : DataW.trod enc Tryz.prog W 0 (fun _ => true) true m 43 (([c0, c1, c2].drop 0).take (Tryz.prog.cellsOf 43)) = [y0, y1][0]? := hfs 0 _ rfl
      rw [Tryz.cells9O] at g0
      replace g0 : DataW.trod enc Tryz.prog W 0 (fun _ => true) true m 43 [c0, c1] = some y0 := g0
      have g1 : DataW.trod enc Tryz.prog W 0 (fun _ => true) true m 44 (([c0, c1, c2].drop 2).take (Tryz.prog.cellsOf 44)) = [y0, y1][1]? := hfs 1 _ rfl
      rw [Tryz.cells9Rs] at g1
      replace g1 : DataW.trod enc Tryz.prog W 0 (fun _ => true) true m 44 [c2] = some y1 := g1
      obtain ⟨zs, m2, _, hz, _, hzl, hgs⟩ := DataW.trod_struct Tryz.underlying43 g0
      have hzl' : zs.length = 2 := hzl
      match zs, hzl' with
      | [z0, z1], _ =>
        have k0 : DataW.trod enc Tryz.prog W 0 (fun _ => true) true m2 41 (([c0, c1].drop 0).take (Tryz.prog.cellsOf 41)) = [z0, z1][0]? := hgs 0 _ rfl
        rw [Tryz.cells9Ks] at k0
        replace k0 : DataW.trod enc Tryz.prog W 0 (fun _ => true) true m2 41 [c0] = some z0 := k0
        have k1 : DataW.trod enc Tryz.prog W 0 (fun _ => true) true m2 3 (([c0, c1].drop 1).take (Tryz.prog.cellsOf 3)) = [z0, z1][1]? := hgs 1 _ rfl
        rw [Tryz.cells9N] at k1
        replace k1 : DataW.trod enc Tryz.prog W 0 (fun _ => true) true m2 3 [c1] = some z1 := k1
        obtain ⟨n1, e1, _, w1⟩ := DataW.trod_int Tryz.underlying3 k1
        rw [hy] at hz9
        have s0 : Sz 43 y0.1 := sz_field (j := 0) Tryz.underlying46 hz9 rfl rfl
        have s1 : Sz 44 y1.1 := sz_field (j := 1) Tryz.underlying46 hz9 rfl rfl
        rw [hz] at s0
        have s2 : Sz 41 z0.1 := sz_field (j := 0) Tryz.underlying43 s0 rfl rfl
        obtain ⟨p, cap, ks, h1, h2, h3, h4, h5, h6, h7, h8⟩ := arg_listS (cells := Op.KS.cells) (wt := fun _ => 1) (R := fun _ : Op.KS => True) (by decide) Tryz.underlying41 Tryz.cells9K arg_ks9 k0 s2
        obtain ⟨bp, bc, xs', q1, q2, q3, q4, q5, q6, q7, q8⟩ := arg_listS (cells := SV.cells) (wt := fun _ => 1) (R := fun o => SV.ok o W ∧ o.rs.length * 16 ≤ 140737488351232) (by decide) Tryz.underlying44 Tryz.cellsRecs arg_sv9 g1 s1
        have b1 := sized_of (bytes := 24) s2 Tryz.underlying41 (by kernel_rfl) h8
        have b2 := sized_of (bytes := 24) s1 Tryz.underlying44 (by kernel_rfl) q8
        simp only [List.cons.injEq, and_true] at e1
        subst e1 h1 q1
        exact ⟨⟨ks, p, cap, n1, xs', bp, bc⟩, rfl, ⟨⟨⟨h2, h3, h7, h5⟩, ⟨⟨q2, q3, q7, q5⟩, fun x hx => (q4 x hx).1⟩⟩, b1, b2, fun y hy => (q4 y hy).2⟩, bulk_one _⟩
theorem arg_flow9 {H : Type} {enc : TypeId × Value → H} {W : World} {fuel : Nat} {cs : Array Value} {x : DataW H × List MemPlace} (hs : cs.size = 4) (hz9 : Sz 28 x.1) (h : DataW.trod enc Tryz.prog W 0 (fun _ => true) true fuel 28 cs.toList = some x) :
    ∃ (id out : Int) (vp tp : Option Addr) (vc tc : Nat) (vs : List Int) (ts : List TV), cs = #[.int .i64 id, .slice vp vs.length vc, .int .i64 out, .slice tp ts.length tc] ∧ NRow W vp vc vs ∧ TRow W tp tc ts ∧ vs.length * 8 ≤ 140737488351232 ∧ ts.length * 56 ≤ 140737488351232 ∧ ∀ x ∈ ts, x.fits W := by
  obtain ⟨cl⟩ := cs
  have hl : cl.length = 4 := by simpa using hs
  match cl, hl with
  | [c0, c1, c2, c3], _ =>
    obtain ⟨xs, m, _, hy, _, hxl, hfs⟩ := DataW.trod_struct Tryz.underlying28 h
    have hxl' : xs.length = 4 := hxl
    match xs, hxl' with
    | [y0, y1, y2, y3], _ =>
      have g0 : DataW.trod enc Tryz.prog W 0 (fun _ => true) true m 2 (([c0, c1, c2, c3].drop 0).take (Tryz.prog.cellsOf 2)) = [y0, y1, y2, y3][0]? := hfs 0 _ rfl
      rw [Tryz.cells9I] at g0
      replace g0 : DataW.trod enc Tryz.prog W 0 (fun _ => true) true m 2 [c0] = some y0 := g0
      have g1 : DataW.trod enc Tryz.prog W 0 (fun _ => true) true m 25 (([c0, c1, c2, c3].drop 1).take (Tryz.prog.cellsOf 25)) = [y0, y1, y2, y3][1]? := hfs 1 _ rfl
      rw [Tryz.cells9Is] at g1
      replace g1 : DataW.trod enc Tryz.prog W 0 (fun _ => true) true m 25 [c1] = some y1 := g1
      have g2 : DataW.trod enc Tryz.prog W 0 (fun _ => true) true m 2 (([c0, c1, c2, c3].drop 2).take (Tryz.prog.cellsOf 2)) = [y0, y1, y2, y3][2]? := hfs 2 _ rfl
      rw [Tryz.cells9I] at g2
      replace g2 : DataW.trod enc Tryz.prog W 0 (fun _ => true) true m 2 [c2] = some y2 := g2
      have g3 : DataW.trod enc Tryz.prog W 0 (fun _ => true) true m 26 (([c0, c1, c2, c3].drop 3).take (Tryz.prog.cellsOf 26)) = [y0, y1, y2, y3][3]? := hfs 3 _ rfl
      rw [Tryz.cells9Ts] at g3
      replace g3 : DataW.trod enc Tryz.prog W 0 (fun _ => true) true m 26 [c3] = some y3 := g3
      obtain ⟨n0, e0, _, w0⟩ := DataW.trod_int Tryz.underlying2 g0
      obtain ⟨n2, e2, _, w2⟩ := DataW.trod_int Tryz.underlying2 g2
      rw [hy] at hz9
      have s1 : Sz 25 y1.1 := sz_field (j := 1) Tryz.underlying28 hz9 rfl rfl
      have s3 : Sz 26 y3.1 := sz_field (j := 3) Tryz.underlying28 hz9 rfl rfl
      obtain ⟨vp, vc, vs, h1, h2, h3, h4, h5, h6, h7, h8⟩ := arg_listS (cells := intCells) (wt := fun _ => 1) (R := fun _ : Int => True) (by decide) Tryz.underlying25 Tryz.cells9I arg_int9 g1 s1
      obtain ⟨tp, tc, ts, k1, k2, k3, k4, k5, k6, k7, k8⟩ := arg_listS (cells := TV.cells) (wt := fun _ => 1) (R := fun o => TV.fits o W) (by decide) Tryz.underlying26 Tryz.cells9T arg_ts9 g3 s3
      have b1 := sized_of (bytes := 8) s1 Tryz.underlying25 (by kernel_rfl) h8
      have b3 := sized_of (bytes := 56) s3 Tryz.underlying26 (by kernel_rfl) k8
      simp only [List.cons.injEq, and_true] at e0 e2
      subst e0 e2 h1 k1
      exact ⟨n0, n2, vp, tp, vc, tc, vs, ts, rfl, ⟨h2, h3, h7, h5⟩, ⟨⟨k2, k3, k7, k5⟩, fun x hx => (k4 x hx).1⟩, b1, b3, k4⟩
theorem small9 {W : World} {ts : List TV} (h : ∀ x ∈ ts, x.fits W) : ∀ x ∈ ts, x.ks.length * 24 ≤ 140737488355328 ∧ x.xs.length * 24 ≤ 140737488355328 ∧ ∀ y ∈ x.xs, y.rs.length * 16 ≤ 140737488355328 := by
  intro x hx
  obtain ⟨_, h1, h2, h3⟩ := h x hx
  exact ⟨by omega, by omega, fun y hy => by have := h3 y hy; omega⟩
end Go.Proofs.YtlfipmieaabagaaGreat
namespace Go.Proofs.YtlfipmieaabagaaGreat.snapSame
open Go.RowKit Go.Shelf Go.Proofs.YtlfipmieaabagaaGreat Go.ChangeShapes Go.WideShapes Go.ChangeAt

set_option maxRecDepth 100000 in
theorem contract (H : Type) (enc : TypeId × Value → H) (W : World) (base : Nat) (args : Array Value) (ds gs : List (DataW H)) (before : List MemPlace)
    (hval : ∀ (j : Nat) t v, Tryz.f5.params[j]? = some t → args[j]? = some v → Value.okWide Tryz.prog W .any base t v)
    (hW : DataW.Whole enc Tryz.prog Tryz.f5.params.toList Rows.snapSameSpec.vars false W args.toList ds gs before) (hsz0 : (DataW.weightsEach Tryz.prog (Tryz.f5.params.toList ++ Rows.snapSameSpec.plain.varTypes Tryz.prog) (ds ++ gs)).all (· ≤ reachBytes) = true) :
    Calls Tryz.prog 5 args W fun e W' => ∃ v, e = .returned v ∧ Rows.snapSameSpec.post enc Tryz.prog Tryz.f5 false true false false W args v W' := by
  have hW' := hW
  obtain ⟨p, q, hA0, hV, rfl, hfz, hnd⟩ := hW
  have hA : DataW.TrodAll enc Tryz.prog W 0 (fun _ => true) true Tryz.f5.params.toList args.toList ds p := hA0
  rw [Tryz.params5] at hA hval hsz0
  obtain ⟨v0, vs0, d0, ds0, p0, q0, hargs, rfl, rfl, h0, r0⟩ := trodAll_cons hA
  obtain ⟨v1, vs1, d1, ds1, p1, q1, rfl, rfl, rfl, h1, r1⟩ := trodAll_cons r0
  obtain ⟨rfl, rfl, rfl⟩ := trodAll_nil r1
  obtain rfl : args = #[v0, v1] := by cases args; simp_all
  obtain ⟨rfl, rfl⟩ := trodVars_none hV
  obtain ⟨cs0, rfl, hcs0⟩ := okWide_struct Tryz.underlying28 (hval 0 28 v0 rfl rfl)
  rw [Tryz.cells9F] at hcs0
  have k0 := h0
  have lt0 : ∀ x ∈ p0, x.block < W.heap.size := by obtain ⟨m, hm⟩ := k0; exact DataW.trod_lt m _ _ _ hm
  obtain ⟨f0, hf0⟩ := h0
  have hcc0 : (Value.agg cs0).cells.toList = cs0.toList := by simp [Value.cells]
  rw [hcc0] at hf0
  obtain ⟨id0, out0, vp0, tp0, vc0, tc0, xv0, xt0, rfl, N0, T0, B0, C0, D0⟩ := arg_flow9 (by simpa using hcs0) (sz_each hsz0 (j := 0) rfl rfl) hf0
  obtain ⟨cs1, rfl, hcs1⟩ := okWide_struct Tryz.underlying28 (hval 1 28 v1 rfl rfl)
  rw [Tryz.cells9F] at hcs1
  have k1 := h1
  have lt1 : ∀ x ∈ p1, x.block < W.heap.size := by obtain ⟨m, hm⟩ := k1; exact DataW.trod_lt m _ _ _ hm
  obtain ⟨f1, hf1⟩ := h1
  have hcc1 : (Value.agg cs1).cells.toList = cs1.toList := by simp [Value.cells]
  rw [hcc1] at hf1
  obtain ⟨id1, out1, vp1, tp1, vc1, tc1, xv1, xt1, rfl, N1, T1, B1, C1, D1⟩ := arg_flow9 (by simpa using hcs1) (sz_each hsz0 (j := 1) rfl rfl) hf1
  clear hA0
  refine (same_walk N0 N1 T0 T1 rfl rfl rfl rfl (by omega) (by omega) (small9 D0)).mono fun e W' ⟨he, bel⟩ => ?_
  subst he
  exact ⟨_, rfl, _, _, _, [], _, [], hW', trodAll_mk1 (shut_bool Tryz.underlying4 _), (trodAll_cons_mk (Below.trod Tryz.laidOut (by kernel_rfl) (of_decide_eq_true (by kernel_rfl)) k0 bel lt0) (trodAll_cons_mk (Below.trod Tryz.laidOut (by kernel_rfl) (of_decide_eq_true (by kernel_rfl)) k1 bel lt1) trodAll_mk0)), rfl, bel.frame _, fun h => by cases h⟩

set_option maxRecDepth 100000 in
theorem lifted (os : Os) (started : os.Started) (H : Type) (enc : TypeId × Value → H) :
    ReturnsInHanded {} Tryz.checked os 5 .any (Rows.snapSameSpec.pre6 enc Tryz.prog Tryz.f5 Rows.snapSameRow.domain false) (Rows.snapSameSpec.post enc Tryz.prog Tryz.f5 false true false false) := by
  refine returnsInHanded_of_change_sized (C := Tryz.checked) Tryz.ownK started (by kernel_rfl) Tryz.func5
    (ChangeSpec.witness6 (enc := enc) (C := Tryz.checked) false ⟨#[], #[.agg #[.int .i64 0, .slice none 0 0, .int .i64 0, .slice none 0 0], .agg #[.int .i64 0, .slice none 0 0, .int .i64 0, .slice none 0 0]], []⟩ 8 (by kernel_rfl) (by kernel_rfl) (by kernel_rfl) (by kernel_rfl)) ?_
  intro W base args ds gs before hval hW _ hsz _
  exact contract H enc W base args ds gs before hval hW hsz

set_option maxRecDepth 100000 in
theorem proved : Rows.SnapSameSaid :=
  OpenClaim.holds_of_wide 5 Tryz.f5 rfl rfl rfl rfl rfl rfl rfl ⟨rfl, rfl, rfl, rfl, rfl⟩ rfl rfl rfl rfl rfl (by kernel_rfl) Tryz.func5 (by kernel_rfl)
    (of_decide_eq_true (by kernel_rfl)) (by unfold Func.isWrapper; first | (rw [if_pos (by decide +kernel)]; kernel_rfl) | (rw [if_neg (by decide +kernel)]; exact ⟨rfl, rfl⟩))
    (fun os started H enc _ => lifted os started H enc)

end Go.Proofs.YtlfipmieaabagaaGreat.snapSame
