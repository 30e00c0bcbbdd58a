/-
  How an argument that is a slice of questions is opened: each question is five integers, which lie in memory one behind the other. No condition.
-/
import Derived.Test.YtpnoijmdhlkjlaaArg
namespace Go.Proofs.Ytpnoijmdhlkjlaa
open Go.ChangeShapes Go.WideShapes Go.ChangeAt Go.RowKit

/-- A slice of questions as it lies in memory. -/
def Asks (w : World) (v : Value) (len : Nat) : Prop :=
  ∃ p cap, v = .slice p len cap ∧ len ≤ cap ∧ cap ≤ 9223372036854775807 ∧ (0 < len → ∃ b o, p = some ⟨b, o, none⟩ ∧ ∀ i, i < len → ∃ d x y n e : Int,
    w.cell? ⟨b, o + i * 5, none⟩ = some (.int .i64 d) ∧ w.cell? ⟨b, o + i * 5 + 1, none⟩ = some (.int .i64 x) ∧ w.cell? ⟨b, o + i * 5 + 2, none⟩ = some (.int .i64 y) ∧
    w.cell? ⟨b, o + i * 5 + 3, none⟩ = some (.int .i64 n) ∧ w.cell? ⟨b, o + i * 5 + 4, none⟩ = some (.int .i64 e))

theorem Try.cellsInt : Try.prog.cellsOf 3 = 1 := by kernel_rfl
theorem Try.cellsInt64 : Try.prog.cellsOf 2 = 1 := by kernel_rfl
theorem Try.cellsErrno : Try.prog.cellsOf 32 = 1 := by kernel_rfl
theorem Try.cellsAsk : Try.prog.cellsOf 47 = 5 := by kernel_rfl

theorem five_cells {w : World} {base : Nat} {a : Addr} {cs : List Value} (h : w.cells? base a 5 = some cs) : ∃ c0 c1 c2 c3 c4, cs = [c0, c1, c2, c3, c4] ∧
    w.cell? (a.add 0) = some c0 ∧ w.cell? (a.add 1) = some c1 ∧ w.cell? (a.add 2) = some c2 ∧ w.cell? (a.add 3) = some c3 ∧ w.cell? (a.add 4) = some c4 := by
  unfold World.cells? at h
  split at h
  · have e : List.range 5 = [0, 1, 2, 3, 4] := by decide
    rw [e] at h
    simp only [List.mapM_cons, List.mapM_nil, Option.bind_eq_bind, Option.bind_eq_some_iff, Option.pure_def, Option.some.injEq] at h
    obtain ⟨c0, h0, r1, ⟨c1, h1, r2, ⟨c2, h2, r3, ⟨c3, h3, r4, ⟨c4, h4, r5, h5, rfl⟩, rfl⟩, rfl⟩, rfl⟩, rfl⟩ := h
    subst h5
    exact ⟨c0, c1, c2, c3, c4, rfl, h0, h1, h2, h3, h4⟩
  · cases h

theorem arg_asks {H : Type} {enc : TypeId × Value → H} {W : World} {fuel len cap : Nat} {a : Option Addr} {d : DataW H} {p : List MemPlace}
    (hf : DataW.trod enc Try.prog W 0 (fun _ => true) true fuel 41 (Value.slice a len cap).cells.toList = some (d, p)) : Asks W (.slice a len cap) len ∧ DatumOf d len cap := by
  have hcs : (Value.slice a len cap).cells.toList = [.slice a len cap] := by simp [Value.cells]
  rcases DataW.trod_slice Try.underlying41 hf with ⟨h0, hx⟩ | ⟨x, len', cap', elems, rest, n, _, h0, hx, _, hl, hm, hlen, hel, hsp, _⟩
  · rw [hcs] at h0
    simp at h0
    obtain ⟨rfl, rfl, rfl⟩ := h0
    simp only [Prod.mk.injEq] at hx
    exact ⟨⟨none, 0, rfl, Nat.le_refl _, by decide, fun h => absurd h (by simp)⟩, .inl ⟨hx.1, rfl, rfl⟩⟩
  · rw [hcs] at h0
    simp at h0
    obtain ⟨rfl, rfl, rfl⟩ := h0
    simp only [Prod.mk.injEq] at hx
    have hr := (hsp rfl).1
    refine ⟨⟨some x, cap, rfl, hl, by unfold maxLen at hm; omega, fun hp => ?_⟩, .inr ⟨_, _, hx.1, by simp [hlen], by simp [hlen, hr]; omega⟩⟩
    have each : ∀ i, i < len → ∃ d x' y n e : Int, W.cell? ((x.add (i * 5)).add 0) = some (.int .i64 d) ∧ W.cell? ((x.add (i * 5)).add 1) = some (.int .i64 x') ∧ W.cell? ((x.add (i * 5)).add 2) = some (.int .i64 y) ∧
        W.cell? ((x.add (i * 5)).add 3) = some (.int .i64 n) ∧ W.cell? ((x.add (i * 5)).add 4) = some (.int .i64 e) := by
      intro i hi
      have h := hel i hi
      rw [List.getElem?_eq_getElem (by omega), Try.cellsAsk, Option.bind_eq_some_iff] at h
      obtain ⟨cs, h1, h2⟩ := h
      obtain ⟨c0, c1, c2, c3, c4, rfl, k0, k1, k2, k3, k4⟩ := five_cells h1
      obtain ⟨xs, m, _, _, _, hxl, hfs⟩ := DataW.trod_struct Try.underlying47 h2
      have hxl' : xs.length = 5 := hxl
      match xs, hxl' with
      | [y0, y1, y2, y3, y4], _ =>
        have g0 : DataW.trod enc Try.prog W 0 (fun _ => true) true m 3 (([c0, c1, c2, c3, c4].drop 0).take (Try.prog.cellsOf 3)) = [y0, y1, y2, y3, y4][0]? := hfs 0 _ rfl
        rw [Try.cellsInt] at g0
        replace g0 : DataW.trod enc Try.prog W 0 (fun _ => true) true m 3 [c0] = some y0 := g0
        have g1 : DataW.trod enc Try.prog W 0 (fun _ => true) true m 2 (([c0, c1, c2, c3, c4].drop 1).take (Try.prog.cellsOf 2)) = [y0, y1, y2, y3, y4][1]? := hfs 1 _ rfl
        rw [Try.cellsInt64] at g1
        replace g1 : DataW.trod enc Try.prog W 0 (fun _ => true) true m 2 [c1] = some y1 := g1
        have g2 : DataW.trod enc Try.prog W 0 (fun _ => true) true m 2 (([c0, c1, c2, c3, c4].drop 2).take (Try.prog.cellsOf 2)) = [y0, y1, y2, y3, y4][2]? := hfs 2 _ rfl
        rw [Try.cellsInt64] at g2
        replace g2 : DataW.trod enc Try.prog W 0 (fun _ => true) true m 2 [c2] = some y2 := g2
        have g3 : DataW.trod enc Try.prog W 0 (fun _ => true) true m 3 (([c0, c1, c2, c3, c4].drop 3).take (Try.prog.cellsOf 3)) = [y0, y1, y2, y3, y4][3]? := hfs 3 _ rfl
        rw [Try.cellsInt] at g3
        replace g3 : DataW.trod enc Try.prog W 0 (fun _ => true) true m 3 [c3] = some y3 := g3
        have g4 : DataW.trod enc Try.prog W 0 (fun _ => true) true m 32 (([c0, c1, c2, c3, c4].drop 4).take (Try.prog.cellsOf 32)) = [y0, y1, y2, y3, y4][4]? := hfs 4 _ rfl
        rw [Try.cellsErrno] at g4
        replace g4 : DataW.trod enc Try.prog W 0 (fun _ => true) true m 32 [c4] = some y4 := g4
        obtain ⟨n0, e0, _, _⟩ := DataW.trod_int Try.underlying3 g0
        obtain ⟨n1, e1, _, _⟩ := DataW.trod_int Try.underlying2 g1
        obtain ⟨n2, e2, _, _⟩ := DataW.trod_int Try.underlying2 g2
        obtain ⟨n3, e3, _, _⟩ := DataW.trod_int Try.underlying3 g3
        obtain ⟨n4, e4, _, _⟩ := DataW.trod_int Try.underlying32 g4
        simp only [List.cons.injEq, and_true] at e0 e1 e2 e3 e4
        subst e0 e1 e2 e3 e4
        exact ⟨n0, n1, n2, n3, n4, k0, k1, k2, k3, k4⟩
    obtain ⟨b, o, s⟩ := x
    obtain rfl : s = none := by
      obtain ⟨_, _, _, _, _, h, _⟩ := each 0 hp
      have := World.cell?_spot h
      simpa [Addr.add] using this
    refine ⟨b, o, rfl, fun i hi => ?_⟩
    have := each i hi
    simp only [Go.WideShapes.add_plain, Nat.add_zero] at this
    exact this

end Go.Proofs.Ytpnoijmdhlkjlaa
