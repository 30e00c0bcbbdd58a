/-
  The program's queue and the reference's beside each other; arguments of the statements of package edge. No conditions.
-/
import Derived.Test.YtmmdgffgnpnmeaaEqz
import Derived.Test.YtmmdgffgnpnmeaaEqv
namespace Go.Proofs.Ytmmdgffgnpnmeaa
open Go.ChangeShapes Go.WideShapes Go.ChangeAt Go.RowKit Go.Shelf

/-- An operation of the statements. -/
structure OP where
  take : Bool
  clone : Bool
  ev : EV
instance : Inhabited OP := ⟨⟨false, false, ⟨0, 0, 0, 0⟩⟩⟩
def OP.cells (x : OP) : List Value := [.bool x.take, .bool x.clone, .int .i64 x.ev.kind, .int .i64 x.ev.key, .int .i64 x.ev.val, .int .i64 x.ev.id]
def OP.fine (x : OP) : Prop := x.ev.fine
theorem OP.len (x : OP) : x.cells.length = 6 := rfl
abbrev ORow (W : World) (p : Option Addr) (cap : Nat) (os : List OP) : Prop := LRow OP.cells 6 W p cap os
theorem ORow.at {W : World} {p : Option Addr} {cap : Nat} {os : List OP} (h : ORow W p cap os) {i : Nat} (hi : i < os.length) {x : OP} (hx : os[i]! = x) : ∃ g o, p = some ⟨g, o, none⟩ ∧ W.cell? ⟨g, o + i * 6, none⟩ = some (.bool x.take) ∧ W.cell? ⟨g, o + i * 6 + 1, none⟩ = some (.bool x.clone) ∧ W.cell? ⟨g, o + i * 6 + 2, none⟩ = some (.int .i64 x.ev.kind) ∧ W.cell? ⟨g, o + i * 6 + 3, none⟩ = some (.int .i64 x.ev.key) ∧ W.cell? ⟨g, o + i * 6 + 4, none⟩ = some (.int .i64 x.ev.val) ∧ W.cell? ⟨g, o + i * 6 + 5, none⟩ = some (.int .i64 x.ev.id) := by
  obtain ⟨g, o, e, hc⟩ := h.cell i hi
  rw [hx] at hc
  exact ⟨g, o, e, hc 0 (by decide), hc 1 (by decide), hc 2 (by decide), hc 3 (by decide), hc 4 (by decide), hc 5 (by decide)⟩
theorem Try.cellsLop : Try.prog.cellsOf 36 = 6 := by kernel_rfl
theorem Try.cellsBool : Try.prog.cellsOf 4 = 1 := by kernel_rfl
theorem arg_lop {H : Type} {enc : TypeId × Value → H} {W : World} (fuel : Nat) (cs : List Value) (y : DataW H × List MemPlace) (hl : cs.length = 6) (h : DataW.trod enc Try.prog W 0 (fun _ => true) true fuel 36 cs = some y) :
    ∃ o : OP, cs = o.cells ∧ o.fine ∧ 1 ≤ Rows.uptoBulk y.1 := by
  match cs, hl with
  | [c0, c1, c2, c3, c4, c5], _ =>
    obtain ⟨xs, m, _, _, _, hxl, hfs⟩ := DataW.trod_struct Try.underlying36 h
    have hxl' : xs.length = 3 := hxl
    match xs, hxl' with
    | [y0, y1, y2], _ =>
      have g0 : DataW.trod enc Try.prog W 0 (fun _ => true) true m 4 (([c0, c1, c2, c3, c4, c5].drop 0).take (Try.prog.cellsOf 4)) = [y0, y1, y2][0]? := hfs 0 _ rfl
      rw [Try.cellsBool] at g0
      replace g0 : DataW.trod enc Try.prog W 0 (fun _ => true) true m 4 [c0] = some y0 := g0
      have g1 : DataW.trod enc Try.prog W 0 (fun _ => true) true m 4 (([c0, c1, c2, c3, c4, c5].drop 1).take (Try.prog.cellsOf 4)) = [y0, y1, y2][1]? := hfs 1 _ rfl
      rw [Try.cellsBool] at g1
      replace g1 : DataW.trod enc Try.prog W 0 (fun _ => true) true m 4 [c1] = some y1 := g1
      have g2 : DataW.trod enc Try.prog W 0 (fun _ => true) true m 34 (([c0, c1, c2, c3, c4, c5].drop 2).take (Try.prog.cellsOf 34)) = [y0, y1, y2][2]? := hfs 2 _ rfl
      rw [Try.cellsEv] at g2
      replace g2 : DataW.trod enc Try.prog W 0 (fun _ => true) true m 34 [c2, c3, c4, c5] = some y2 := g2
      obtain ⟨b0, e0, _⟩ := DataW.trod_bool Try.underlying4 g0
      obtain ⟨b1, e1, _⟩ := DataW.trod_bool Try.underlying4 g1
      obtain ⟨v, e2, f2, _⟩ := arg_ev _ _ _ rfl g2
      unfold EV.cells at e2
      simp only [List.cons.injEq, and_true] at e0 e1 e2
      obtain ⟨e2, e3, e4, e5⟩ := e2
      subst e0 e1 e2 e3 e4 e5
      exact ⟨⟨b0, b1, v⟩, rfl, f2, bulk_one _⟩
theorem sum_onesO : ∀ (es : List OP), (es.map fun _ => 1).sum = es.length
  | [] => rfl
  | _ :: es => by simp only [List.map_cons, List.sum_cons, List.length_cons, sum_onesO es]; omega
theorem arg_ops {H : Type} {enc : TypeId × Value → H} {W : World} {fuel : Nat} {c : Value} {x : DataW H × List MemPlace} (h : DataW.trod enc Try.prog W 0 (fun _ => true) true fuel 22 [c] = some x) :
    ∃ (p : Option Addr) (cap : Nat) (es : List OP), c = .slice p es.length cap ∧ ORow W p cap es ∧ (∀ e ∈ es, e.fine) ∧ es.length + 1 ≤ Rows.uptoBulk x.1 ∧ DatumOf x.1 es.length cap := by
  obtain ⟨p, cap, es, h1, h2, h3, h4, h5, h6, h7, h8⟩ := arg_list (cells := OP.cells) (wt := fun _ => 1) (R := OP.fine) (by decide) Try.underlying22 Try.cellsLop arg_lop h
  rw [sum_onesO] at h6
  exact ⟨p, cap, es, h1, ⟨h2, h3, h7, h5⟩, h4, h6, h8⟩

/-- The two queues, apart. -/
structure Two (B : Nat) (W : World) (b rb : Nat) (p rp : Option Addr) (c rc : Nat) (q r : QC) : Prop where
  pq : PQ B W b p c q
  rq : RQ B W rb rp rc r
  ne : ¬ PQ.at b p rb
  ap : ∀ a, rp = some a → a.block ≠ rb ∧ ¬ PQ.at b p a.block ∧ B ≤ a.block ∧ a.block < W.heap.size
theorem Two.later {B : Nat} {W W' : World} {b rb : Nat} {p rp : Option Addr} {c rc : Nat} {q r : QC} (h : Two B W b rb p rp c rc q r) (hb : Below W.heap.size W W') : Two B W' b rb p rp c rc q r :=
  ⟨h.pq.later hb, h.rq.later hb, h.ne, fun a e => by obtain ⟨h1, h2, h3, h4⟩ := h.ap a e; exact ⟨h1, h2, h3, Nat.lt_of_lt_of_le h4 hb.size⟩⟩
theorem Two.rbs {B : Nat} {W : World} {b rb : Nat} {p rp : Option Addr} {c rc : Nat} {q r : QC} (h : Two B W b rb p rp c rc q r) : B ≤ rb ∧ rb < W.heap.size := ⟨h.rq.ge, (Array.getElem?_eq_some_iff.1 h.rq.box).1⟩
theorem Two.size {B : Nat} {W : World} {b rb : Nat} {p rp : Option Addr} {c rc : Nat} {q r : QC} (h : Two B W b rb p rp c rc q r) : B ≤ W.heap.size := by have := h.rbs; omega
theorem Two.rat {B : Nat} {W : World} {b rb : Nat} {p rp : Option Addr} {c rc : Nat} {q r : QC} (h : Two B W b rb p rp c rc q r) : ∀ i, PQ.at rb rp i → ¬ PQ.at b p i := by
  rintro i (rfl | ⟨a, e, rfl⟩)
  · exact h.ne
  · exact (h.ap a e).2.1
/-- Behind a Put, or a Take, of the program. -/
theorem Two.put {B : Nat} {W w' : World} {b rb : Nat} {p rp : Option Addr} {c rc : Nat} {q r q' : QC} (h : Two B W b rb p rp c rc q r) (hp : Put B W w' b p q') : ∃ p' c', Two B w' b rb p' rp c' rc q' r := by
  obtain ⟨p', c', hq, hw⟩ := hp.is
  have hnew : ∀ i, PQ.at b p' i → PQ.at b p i ∨ W.heap.size ≤ i := by
    rintro i (rfl | ⟨a, e, rfl⟩)
    · exact .inl (.inl rfl)
    · rcases hw a e with ⟨a0, e0, e1⟩ | h1
      · exact .inl (.inr ⟨a0, e0, e1⟩)
      · exact .inr h1
  refine ⟨p', c', hq, h.rq.only hp.only (h.rat), fun e => ?_, fun a e => ?_⟩
  · rcases hnew _ e with h1 | h1
    · exact h.ne h1
    · have := h.rbs; omega
  · obtain ⟨h1, h2, h3, h4⟩ := h.ap a e
    refine ⟨h1, fun e' => ?_, h3, Nat.lt_of_lt_of_le h4 hp.only.size⟩
    rcases hnew _ e' with h5 | h5
    · exact h2 h5
    · omega
theorem Two.rput {B : Nat} {W w' : World} {b rb : Nat} {p rp : Option Addr} {c rc : Nat} {q r r' : QC} (h : Two B W b rb p rp c rc q r) (hp : RPut B W w' rb rp r') : ∃ rp' rc', Two B w' b rb p rp' c rc' q r' := by
  obtain ⟨p', c', hq, hw⟩ := hp.is
  refine ⟨p', c', h.pq.only hp.only (fun i hi e => h.ne (by have e' : i = rb := e; rw [← e']; exact hi)), hq, h.ne, fun a e => ?_⟩
  rcases hw a e with ⟨a0, e0, e1⟩ | ⟨h1, h2⟩
  · obtain ⟨h1, h2, h3, h4⟩ := h.ap a0 e0
    rw [e1]
    exact ⟨h1, h2, h3, Nat.lt_of_lt_of_le h4 hp.only.size⟩
  · have h3 := h.rbs
    have h4 := h.size
    exact ⟨by omega, fun e' => by have := (h.pq.ges e').2; omega, by omega, h2⟩
theorem Two.rtake {B : Nat} {W w' : World} {b rb : Nat} {p rp : Option Addr} {c rc : Nat} {q r r' : QC} (h : Two B W b rb p rp c rc q r) (ho : Only (· = rb) W w') {rp' : Option Addr} {rc' : Nat} (hq : RQ B w' rb rp' rc' r') (hw : ∀ a', rp' = some a' → ∃ a, rp = some a ∧ a'.block = a.block) : Two B w' b rb p rp' c rc' q r' :=
  ⟨h.pq.only ho (fun i hi e => h.ne (by have e' : i = rb := e; rw [← e']; exact hi)), hq, h.ne, fun a e => by
    obtain ⟨a0, e0, e1⟩ := hw a e
    obtain ⟨h1, h2, h3, h4⟩ := h.ap a0 e0
    rw [e1]
    exact ⟨h1, h2, h3, Nat.lt_of_lt_of_le h4 ho.size⟩⟩
theorem Two.hpb {B : Nat} {W : World} {b rb : Nat} {p rp : Option Addr} {c rc : Nat} {q r : QC} (h : Two B W b rb p rp c rc q r) : ∀ a, rp = some a → a.block ≠ rb := fun a e => (h.ap a e).1
theorem Two.belowR {B : Nat} {W w' : World} {b rb : Nat} {p rp : Option Addr} {c rc : Nat} {q r : QC} (h : Two B W b rb p rp c rc q r) (ho : Only (· = rb) W w') : Below B W w' :=
  ho.below h.size (fun i e => by have e' : i = rb := e; have := h.rbs; omega)
theorem PQ.base {B B' : Nat} {W : World} {b : Nat} {p : Option Addr} {c : Nat} {q : QC} (h : PQ B' W b p c q) (hB : B ≤ B') : PQ B W b p c q := ⟨h.box, ownsRow_base h.row hB, Nat.le_trans hB h.ge⟩
/-- The clone takes the queue's place, whatever becomes of that. -/
theorem Two.cloned {B : Nat} {W w1 w2 : World} {b rb b' : Nat} {p rp p' : Option Addr} {c rc c' : Nat} {q r qx : QC} (h : Two B W b rb p rp c rc q r) (hb : Below W.heap.size W w1) (hc : PQ W.heap.size w1 b' p' c' qx) (ho : Only (fun i => PQ.at b p i ∨ w1.heap.size ≤ i) w1 w2) : Two B w2 b' rb p' rp c' rc qx r := by
  have hge := fun i (hi : PQ.at b' p' i) => hc.ges hi
  have hold := fun i (hi : PQ.at b p i) => h.pq.ges hi
  have hrb := h.rbs
  have hF : ∀ i, PQ.at b' p' i → ¬ (PQ.at b p i ∨ w1.heap.size ≤ i) := fun i hi e => by
    have h1 := hge i hi
    rcases e with e | e
    · have := hold i e; omega
    · omega
  have hR : ∀ i, PQ.at rb rp i → ¬ (PQ.at b p i ∨ w1.heap.size ≤ i) := fun i hi e => by
    rcases e with e | e
    · exact h.rat i hi e
    · have hs := hb.size
      rcases hi with rfl | ⟨a, ea, rfl⟩
      · omega
      · have := (h.ap a ea).2.2.2; omega
  refine ⟨(hc.only ho hF).base h.size, (h.rq.later hb).only ho hR, fun e => by have := hge _ e; omega, fun a e => ?_⟩
  obtain ⟨h1, h2, h3, h4⟩ := h.ap a e
  exact ⟨h1, fun e' => by have := hge _ e'; omega, h3, Nat.lt_of_lt_of_le h4 (Nat.le_trans hb.size ho.size)⟩
end Go.Proofs.Ytmmdgffgnpnmeaa
