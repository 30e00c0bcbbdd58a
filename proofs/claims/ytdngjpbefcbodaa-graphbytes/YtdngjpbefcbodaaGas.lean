/-
  How an argument that is a graph is opened, with what the first form's bound says of its lists. No condition.
-/
import Derived.Test.YtdngjpbefcbodaaGar
import Derived.SizedLaws
namespace Go.Proofs.Ytdngjpbefcbodaa
open Go.ChangeShapes Go.WideShapes Go.ChangeAt Go.RowKit

/-- Every slice of a datum is of at most so many bytes. -/
def Sz {H : Type} (t : TypeId) (d : DataW H) : Prop := (d.weights Try.prog t).all (· ≤ reachBytes) = true
theorem sz_each {H : Type} {ts : List TypeId} {ds : List (DataW H)} (h : (DataW.weightsEach Try.prog ts ds).all (· ≤ reachBytes) = true) {j : Nat} {t : TypeId} {d : DataW H} (ht : ts[j]? = some t) (hd : ds[j]? = some d) : Sz t d :=
  List.all_eq_true.2 (fun w hw => List.all_eq_true.1 h w (DataW.weights_mem_each ht hd w hw))
theorem sz_field {H : Type} {t ty : TypeId} {fs : Array Field} {ds : List (DataW H)} {d : DataW H} {j : Nat} (hu : Try.prog.underlying t = some (.struct fs)) (h : Sz t (.agg ds)) (ht : (fs.toList.map (·.type))[j]? = some ty) (hd : ds[j]? = some d) : Sz ty d := by
  unfold Sz at h
  simp only [DataW.weights, hu] at h
  exact sz_each h ht hd
theorem all_mem {H : Type} {e : TypeId} {d : DataW H} : ∀ (ds : List (DataW H)), d ∈ ds → ∀ w ∈ d.weights Try.prog e, w ∈ DataW.weightsAll Try.prog e ds
  | [], h, _, _ => by cases h
  | x :: ds, h, w, hw => by
    simp only [DataW.weightsAll, List.mem_append]
    rcases List.mem_cons.1 h with e | e
    · left; rw [← e]; exact hw
    · right; exact all_mem ds e w hw
theorem sz_elem {H : Type} {t e : TypeId} {es sp : List (DataW H)} {d : DataW H} (hu : Try.prog.underlying t = some (.slice e)) (h : Sz t (.slice es sp)) (hd : d ∈ es) : Sz e d := by
  unfold Sz at h
  simp only [DataW.weights, hu] at h
  refine List.all_eq_true.2 (fun w hw => List.all_eq_true.1 h w ?_)
  simp only [List.mem_cons, List.mem_append]
  exact .inr (.inl (all_mem es hd w hw))
theorem sized_of {H : Type} {t e : TypeId} {d : DataW H} {len cap bytes : Nat} (h : Sz t d) (hu : Try.prog.underlying t = some (.slice e)) (hb : Try.prog.bytesOf e = bytes) (hD : DatumOf d len cap) : len * bytes ≤ 140737488351232 := by
  rcases hD with ⟨_, hl, _⟩ | ⟨elems, spare, rfl, hl, _⟩
  · rw [hl]; omega
  · have h9 : (elems.length + spare.length) * Try.prog.bytesOf e ≤ reachBytes := by
      unfold Sz at h
      simp only [DataW.weights, hu] at h
      have := List.all_eq_true.1 h ((elems.length + spare.length) * Try.prog.bytesOf e) (by simp)
      simpa using this
    rw [hb] at h9
    have h2 : len * bytes ≤ (elems.length + spare.length) * bytes := Nat.mul_le_mul_right _ (by omega)
    unfold reachBytes at h9
    omega
/-- A slice of elements that are each of n cells and told by R. -/
theorem arg_listS {H α : Type} [Inhabited α] {enc : TypeId × Value → H} {W : World} {t e : TypeId} {n fuel : Nat} {c : Value} {x : DataW H × List MemPlace} {cells : α → List Value} {wt : α → Nat} {R : α → Prop} (hn : 0 < n)
    (ht : Try.prog.underlying t = some (.slice e)) (hc : Try.prog.cellsOf e = n)
    (hone : ∀ (fuel : Nat) (cs : List Value) (y : DataW H × List MemPlace), cs.length = n → Sz e y.1 → DataW.trod enc Try.prog W 0 (fun _ => true) true fuel e cs = some y → ∃ o : α, cs = cells o ∧ R o ∧ wt o ≤ Rows.uptoBulk y.1)
    (hf : DataW.trod enc Try.prog W 0 (fun _ => true) true fuel t [c] = some x) (hsz : Sz t x.1) :
    ∃ (p : Option Addr) (cap : Nat) (os : List α), c = .slice p os.length cap ∧ os.length ≤ cap ∧ cap ≤ 9223372036854775807 ∧ (∀ o ∈ os, R o) ∧
      (∀ i, i < os.length → ∃ g k, p = some ⟨g, k, none⟩ ∧ ∀ j, j < n → W.cell? ⟨g, k + i * n + j, none⟩ = (cells os[i]!)[j]?) ∧ (os.map wt).sum + 1 ≤ Rows.uptoBulk x.1 ∧ (p = none → cap = 0) ∧ DatumOf x.1 os.length cap := by
  rcases DataW.trod_slice ht hf with ⟨h0, hx⟩ | ⟨a, len, cap, elems, rest, m, _, h0, hx, _, hl, hm, hlen, hel, hsp, _⟩
  · simp at h0
    subst h0
    exact ⟨none, 0, [], rfl, Nat.le_refl _, by decide, by simp, fun i hi => by simp at hi, by rw [hx]; simp [Rows.uptoBulk], fun _ => rfl, .inl ⟨by rw [hx], rfl, rfl⟩⟩
  · simp at h0
    subst h0
    have each : ∀ i, i < len → ∃ o : α, R o ∧ (∀ j, j < n → W.cell? ((a.add (i * n)).add j) = (cells o)[j]?) ∧ (∀ y, elems[i]? = some y → wt o ≤ Rows.uptoBulk y.1) := by
      intro i hi
      have h := hel i hi
      rw [List.getElem?_eq_getElem (by omega), hc, Option.bind_eq_some_iff] at h
      obtain ⟨cs, h1, h2⟩ := h
      obtain ⟨k1, k2⟩ := cells_get h1
      obtain ⟨o, e1, e2, e3⟩ := hone _ _ _ k1 (sz_elem ht (by rw [hx] at hsz; exact hsz) (List.mem_map.2 ⟨_, List.getElem_mem (by omega), rfl⟩)) h2
      subst e1
      refine ⟨o, e2, k2, fun y hy => ?_⟩
      rw [List.getElem?_eq_getElem (by omega)] at hy
      simp only [Option.some.injEq] at hy
      rw [← hy]
      exact e3
    obtain ⟨os, h1, h2⟩ := pick_list each
    refine ⟨some a, cap, os, by rw [h1], by omega, by unfold maxLen at hm; omega, fun o ho => ?_, fun i hi => ?_, ?_, (fun h => by cases h), .inr ⟨elems.map (·.1), rest.map (·.1), by rw [hx], by simp; omega, ?_⟩⟩
    · obtain ⟨i, hi, rfl⟩ := List.getElem_of_mem ho
      have := (h2 i (by omega)).1
      rw [getElem!_pos os i hi] at this
      exact this
    · obtain ⟨g, o, s⟩ := a
      obtain rfl : s = none := by
        have h00 := hel 0 (by omega)
        rw [List.getElem?_eq_getElem (by omega), hc, Option.bind_eq_some_iff] at h00
        obtain ⟨cs, h1', _⟩ := h00
        obtain ⟨k1, k2⟩ := cells_get h1'
        have k3 := k2 0 hn
        rw [List.getElem?_eq_getElem (by omega)] at k3
        have := World.cell?_spot k3
        simpa [Addr.add] using this
      refine ⟨g, o, rfl, fun j hj => ?_⟩
      have := (h2 i (by omega)).2.1 j hj
      rw [Go.WideShapes.add_plain, Go.WideShapes.add_plain] at this
      exact this
    · rw [hx]
      simp only [Rows.uptoBulk]
      have key : ∀ (os : List α) (ds : List (DataW H × List MemPlace)), os.length = ds.length → (∀ i, i < os.length → ∀ y, ds[i]? = some y → wt os[i]! ≤ Rows.uptoBulk y.1) → (os.map wt).sum ≤ Rows.uptoBulkAll (ds.map (·.1)) := by
        intro os
        induction os with
        | nil => intro ds _ _; simp
        | cons o os ih =>
          intro ds hl h
          cases ds with
          | nil => simp at hl
          | cons d ds =>
            have a1 := h 0 (by simp) d rfl
            have a2 := ih ds (by simpa using hl) (fun i hi y hy => by
              have := h (i + 1) (by simp; omega) y (by simpa using hy)
              have e : (o :: os)[i + 1]! = os[i]! := by rw [getElem!_pos (o :: os) (i + 1) (by simp; omega), getElem!_pos os i hi]; rfl
              rw [e] at this
              exact this)
            have e0 : (o :: os)[0]! = o := rfl
            rw [e0] at a1
            simp only [List.map_cons, List.sum_cons, Rows.uptoBulkAll]
            omega
      have := key os elems (by omega) (fun i hi y hy => (h2 i (by omega)).2.2 y hy)
      omega
    · have := (hsp rfl).1
      simp
      omega
theorem arg_edges2 {H : Type} {enc : TypeId × Value → H} {W : World} {fuel : Nat} {c : Value} {x : DataW H × List MemPlace} (h : DataW.trod enc Try.prog W 0 (fun _ => true) true fuel 36 [c] = some x) :
    ∃ (ip : Option Addr) (ic : Nat) (es : List GE), c = .slice ip es.length ic ∧ ERow W ip ic es ∧ (∀ e ∈ es, e.fine) ∧ es.length + 1 ≤ Rows.uptoBulk x.1 ∧ DatumOf x.1 es.length ic := by
  obtain ⟨p, cap, es, h1, h2, h3, h4, h5, h6, _, h8⟩ := arg_list (cells := GE.cells) (wt := fun _ => 1) (R := GE.fine) (by decide) Try.underlying36 Try.cellsEdge arg_edge h
  refine ⟨p, cap, es, h1, ⟨h2, h3, fun i hi => ?_⟩, h4, ?_, h8⟩
  · obtain ⟨g, k, e, hc⟩ := h5 i hi
    exact ⟨g, k, e, hc 0 (by decide), hc 1 (by decide)⟩
  · rw [sum_ones] at h6
    exact h6
theorem arg_opS {H : Type} {enc : TypeId × Value → H} {W : World} (fuel : Nat) (cs : List Value) (y : DataW H × List MemPlace) (hl : cs.length = 5) (hsz : Sz 38 y.1) (h : DataW.trod enc Try.prog W 0 (fun _ => true) true fuel 38 cs = some y) :
    ∃ o : OV, cs = o.cells ∧ (o.ok W ∧ o.o.fine ∧ o.o.ins.length * 16 ≤ 140737488351232) ∧ o.o.wt ≤ Rows.uptoBulk y.1 := by
  match cs, hl with
  | [c0, c1, c2, c3, c4], _ =>
    obtain ⟨xs, m, _, hy, _, hxl, hfs⟩ := DataW.trod_struct Try.underlying38 h
    have hxl' : xs.length = 5 := hxl
    match xs, hxl' with
    | [y0, y1, y2, y3, y4], _ =>
      have g0 : DataW.trod enc Try.prog W 0 (fun _ => true) true m 3 (([c0, c1, c2, c3, c4].drop 0).take (Try.prog.cellsOf 3)) = [y0, y1, y2, y3, y4][0]? := hfs 0 _ rfl
      rw [Try.cellsInt] at g0
      replace g0 : DataW.trod enc Try.prog W 0 (fun _ => true) true m 3 [c0] = some y0 := g0
      have g1 : DataW.trod enc Try.prog W 0 (fun _ => true) true m 3 (([c0, c1, c2, c3, c4].drop 1).take (Try.prog.cellsOf 3)) = [y0, y1, y2, y3, y4][1]? := hfs 1 _ rfl
      rw [Try.cellsInt] at g1
      replace g1 : DataW.trod enc Try.prog W 0 (fun _ => true) true m 3 [c1] = some y1 := g1
      have g2 : DataW.trod enc Try.prog W 0 (fun _ => true) true m 3 (([c0, c1, c2, c3, c4].drop 2).take (Try.prog.cellsOf 3)) = [y0, y1, y2, y3, y4][2]? := hfs 2 _ rfl
      rw [Try.cellsInt] at g2
      replace g2 : DataW.trod enc Try.prog W 0 (fun _ => true) true m 3 [c2] = some y2 := g2
      have g3 : DataW.trod enc Try.prog W 0 (fun _ => true) true m 2 (([c0, c1, c2, c3, c4].drop 3).take (Try.prog.cellsOf 2)) = [y0, y1, y2, y3, y4][3]? := hfs 3 _ rfl
      rw [Try.cellsI64] at g3
      replace g3 : DataW.trod enc Try.prog W 0 (fun _ => true) true m 2 [c3] = some y3 := g3
      have g4 : DataW.trod enc Try.prog W 0 (fun _ => true) true m 36 (([c0, c1, c2, c3, c4].drop 4).take (Try.prog.cellsOf 36)) = [y0, y1, y2, y3, y4][4]? := hfs 4 _ rfl
      rw [Try.cellsEdges] at g4
      replace g4 : DataW.trod enc Try.prog W 0 (fun _ => true) true m 36 [c4] = some y4 := g4
      obtain ⟨n0, e0, _, w0⟩ := DataW.trod_int Try.underlying3 g0
      obtain ⟨n1, e1, _, w1⟩ := DataW.trod_int Try.underlying3 g1
      obtain ⟨n2, e2, _, w2⟩ := DataW.trod_int Try.underlying3 g2
      obtain ⟨n3, e3, _, w3⟩ := DataW.trod_int Try.underlying2 g3
      obtain ⟨ip, ic, es, e4, R, F, B, Dd⟩ := arg_edges2 g4
      have hS4 := sized_of (sz_field (j := 4) Try.underlying38 (by rw [hy] at hsz; exact hsz) rfl rfl) Try.underlying36 (bytes := 16) (by kernel_rfl) Dd
      simp only [List.cons.injEq, and_true] at e0 e1 e2 e3
      subst e0 e1 e2 e3 e4
      have b0 := bounds_i64 w0
      have b1 := bounds_i64 w1
      have b2 := bounds_i64 w2
      have b3 := bounds_i64 w3
      refine ⟨⟨⟨n0, n1, n2, n3, es⟩, ip, ic⟩, rfl, ⟨R, ⟨⟨b0.1, by have := b0.2; omega⟩, ⟨b1.1, by have := b1.2; omega⟩, ⟨b2.1, by have := b2.2; omega⟩, ⟨b3.1, by have := b3.2; omega⟩, F⟩, hS4⟩, ?_⟩
      rw [hy]
      have := bulk_one y0.1
      simp only [GO.wt, Rows.uptoBulk, Rows.uptoBulkAll, List.map_cons, List.map_nil]
      omega
theorem arg_graphS {H : Type} {enc : TypeId × Value → H} {W : World} {fuel : Nat} {cs : Array Value} {x : DataW H × List MemPlace} (hs : cs.size = 2) (hsz : Sz 24 x.1) (h : DataW.trod enc Try.prog W 0 (fun _ => true) true fuel 24 cs.toList = some x) :
    ∃ (parts : Int) (p : Option Addr) (cap : Nat) (os : List OV), cs = #[.int .i64 parts, .slice p os.length cap] ∧ I6 parts ∧ GRow W p cap os ∧ (∀ o ∈ os, o.o.fine) ∧ os.length * 56 ≤ 140737488351232 ∧ ∀ o ∈ os, o.o.ins.length * 16 ≤ 140737488351232 := by
  obtain ⟨cl⟩ := cs
  have hl : cl.length = 2 := by simpa using hs
  match cl, hl with
  | [c0, c1], _ =>
    obtain ⟨xs, m, _, hy, _, hxl, hfs⟩ := DataW.trod_struct Try.underlying24 h
    have hxl' : xs.length = 2 := hxl
    match xs, hxl' with
    | [y0, y1], _ =>
      have g0 : DataW.trod enc Try.prog W 0 (fun _ => true) true m 3 (([c0, c1].drop 0).take (Try.prog.cellsOf 3)) = [y0, y1][0]? := hfs 0 _ rfl
      rw [Try.cellsInt] at g0
      replace g0 : DataW.trod enc Try.prog W 0 (fun _ => true) true m 3 [c0] = some y0 := g0
      have g1 : DataW.trod enc Try.prog W 0 (fun _ => true) true m 22 (([c0, c1].drop 1).take (Try.prog.cellsOf 22)) = [y0, y1][1]? := hfs 1 _ rfl
      rw [Try.cellsOps] at g1
      replace g1 : DataW.trod enc Try.prog W 0 (fun _ => true) true m 22 [c1] = some y1 := g1
      obtain ⟨n0, e0, _, w0⟩ := DataW.trod_int Try.underlying3 g0
      have hS1 : Sz 22 y1.1 := sz_field (j := 1) Try.underlying24 (by rw [hy] at hsz; exact hsz) rfl rfl
      obtain ⟨p, cap, os, h1, h2, h3, h4, h5, h6, _, Dd⟩ := arg_listS (cells := OV.cells) (wt := fun o => o.o.wt) (R := fun o : OV => o.ok W ∧ o.o.fine ∧ o.o.ins.length * 16 ≤ 140737488351232) (by decide) Try.underlying22 Try.cellsOp arg_opS g1 hS1
      simp only [List.cons.injEq, and_true] at e0
      subst e0 h1
      have b0 := bounds_i64 w0
      exact ⟨n0, p, cap, os, rfl, ⟨b0.1, by have := b0.2; omega⟩, ⟨h2, h3, h5, fun o ho => (h4 o ho).1⟩, fun o ho => (h4 o ho).2.1, sized_of hS1 Try.underlying22 (bytes := 56) (by kernel_rfl) Dd, fun o ho => (h4 o ho).2.2⟩
end Go.Proofs.Ytdngjpbefcbodaa
