/-
  A ledger as it lies; entry, had of it. The conditions: lengths.
-/
import Derived.Test.YtcabfohmimglpaaOpq
namespace Go.Proofs.Ytcabfohmimglpaa
open Go.RowKit

/-- What is kept of a key. -/
structure KS where
  key : Int
  cnt : Int
  acc : Int
  deriving DecidableEq
instance : Inhabited KS := ⟨⟨0, 0, 0⟩⟩
def KS.cells (x : KS) : List Value := [.int .i64 x.key, .int .i64 x.cnt, .int .i64 x.acc]
theorem KS.len (x : KS) : x.cells.length = 3 := rfl
/-- A ledger, plainly. -/
structure LG where
  old : List KS
  gone : List Bool
  tw : List Int
  left : List Int
  lh : Nat
  lk : Nat
  es : List EN
  fr : List Int
  fh : Nat
  fk : Nat
/-- Where its parts lie. -/
structure LA where
  po : Option Addr
  co : Nat
  pg : Option Addr
  cg : Nat
  pt : Option Addr
  ct : Nat
  gl : Nat
  cl : Nat
  pe : Option Addr
  ce : Nat
  gf : Nat
  cf : Nat
structure LRep (W : World) (base lb : Nat) (A : LA) (L : LG) : Prop where
  box : W.heap[lb]? = some (.cells #[.slice A.po L.old.length A.co, .slice A.pg L.old.length A.cg, .slice A.pt L.old.length A.ct, .slice (some ⟨A.gl, 0, none⟩) (2 * L.lh) A.cl, .slice A.pe L.es.length A.ce, .slice (some ⟨A.gf, 0, none⟩) (2 * L.fh) A.cf] 69 (0, 0))
  old : W.ownsRow base 43 3 (.slice A.po L.old.length A.co) L.old.length (L.old.flatMap KS.cells)
  gone : W.ownsRow base 4 1 (.slice A.pg L.old.length A.cg) L.old.length (L.gone.map Value.bool)
  tw : W.ownsRow base 3 1 (.slice A.pt L.old.length A.ct) L.old.length (L.tw.map (Value.int .i64))
  left : W.ownsRow base 2 1 (.slice (some ⟨A.gl, 0, none⟩) (2 * L.lh) A.cl) (2 * L.lh) (L.left.map (Value.int .i64))
  es : W.ownsRow base 74 5 (.slice A.pe L.es.length A.ce) L.es.length (L.es.flatMap EN.cells)
  fr : W.ownsRow base 2 1 (.slice (some ⟨A.gf, 0, none⟩) (2 * L.fh) A.cf) (2 * L.fh) (L.fr.map (Value.int .i64))
  apart : A.gl ≠ A.gf
  pl : Peak L.left L.lh L.lk
  pf : Peak L.fr L.fh L.fk
theorem LRep.later {W W' : World} {base lb : Nat} {A : LA} {L : LG} (h : LRep W base lb A L) (hb : Below W.heap.size W W') : LRep W' base lb A L :=
  ⟨below_box hb h.box, ownsRow_later h.old hb, ownsRow_later h.gone hb, ownsRow_later h.tw hb, ownsRow_later h.left hb, ownsRow_later h.es hb, ownsRow_later h.fr hb, h.apart, h.pl, h.pf⟩
theorem NRow.of_own {W : World} {base n cap : Nat} {p : Option Addr} {es : List EN} (hn : es.length = n) (h : W.ownsRow base 74 5 (.slice p n cap) n (es.flatMap EN.cells)) : NRow W p cap es := by
  obtain ⟨h1, h2, _, h4⟩ := own_list (cells := EN.cells) (fun o _ => o.len) hn h
  exact ⟨by omega, h2, h4⟩

set_option maxRecDepth 100000 in
set_option maxHeartbeats 4000000 in
theorem entry_any {W : World} {base lb : Nat} {A : LA} {L : LG} {k : Int} (h : LRep W base lb A L) (hr : Rises L.es) (hb : L.es.length ≤ 1099511627776) :
    Calls Try.prog 12 #[.pointer (some ⟨lb, 0, none⟩), .int .i64 k] W fun e w' => ∃ i, e = .returned (.int .i64 ((i : Nat) : Int)) ∧ Place L.es k i ∧ Below W.heap.size W w' := by
  obtain ⟨m, hm⟩ : ∃ m, L.es.length = m := ⟨_, rfl⟩
  have HC := hide (place_any (k := k) (NRow.of_own rfl h.es) hm hr (by omega))
  have z4 : W.cell? ⟨lb, 4, none⟩ = some (.slice A.pe m A.ce) := by rw [← hm]; simp [World.cell?, h.box]
  clear h hr hm
  go_enter Try.func12, Try.ntmps12
  go_wp2_with fail
  refine HC.out.mono ?_
  rintro _ w1 ⟨i, fd, rfl, h1, h2, b1⟩
  have H1 := hide h1
  have HB := hide b1
  clear h1 h2 b1 HC
  go_wp2
  go_ret
  exact ⟨i, rfl, H1.out, HB.out⟩
def hadC (L : LG) (k : Nat) : KS := if (L.es[k]!).first < L.old.length then L.old[(L.es[k]!).first.toNat]! else ⟨(L.es[k]!).key, (L.es[k]!).cnt, (L.es[k]!).acc⟩

set_option maxRecDepth 100000 in
set_option maxHeartbeats 4000000 in
theorem had_any {W : World} {base lb k : Nat} {A : LA} {L : LG} (h : LRep W base lb A L) (hk : k < L.es.length) (hf : 0 ≤ (L.es[k]!).first) :
    Calls Try.prog 14 #[.pointer (some ⟨lb, 0, none⟩), .int .i64 (k : Int)] W fun e w' => e = .returned (.agg #[.int .i64 (hadC L k).key, .int .i64 (hadC L k).cnt, .int .i64 (hadC L k).acc]) ∧ Below W.heap.size W w' := by
  obtain ⟨V, hV⟩ : ∃ V, V = W.alloc (.cells #[.int .i64 0, .int .i64 0, .int .i64 0] 43 (0, 0)) := ⟨_, rfl⟩
  have hbV : Below W.heap.size W V := by rw [hV]; exact alloc_below _ _
  have u0 : V.heap[W.heap.size]? = some (.cells #[.int .i64 0, .int .i64 0, .int .i64 0] 43 (0, 0)) := by rw [hV]; exact heap_alloc_new W _
  have h2 := h.later hbV
  obtain ⟨m, hm⟩ : ∃ m, L.es.length = m := ⟨_, rfl⟩
  obtain ⟨n, hn⟩ : ∃ n, L.old.length = n := ⟨_, rfl⟩
  have z0 : V.cell? ⟨lb, 0, none⟩ = some (.slice A.po n A.co) := by rw [← hn]; simp [World.cell?, h2.box]
  have z4 : V.cell? ⟨lb, 4, none⟩ = some (.slice A.pe m A.ce) := by rw [← hm]; simp [World.cell?, h2.box]
  have hnr := NRow.of_own rfl h2.es
  have i1 := hnr.le
  have i2 := hnr.top
  rw [hm] at i1
  obtain ⟨g, o, hpe, hc⟩ := hnr.cell k hk
  obtain ⟨⟨x0, x1, x2, x3, x4⟩, hx⟩ : ∃ x, L.es[k]! = x := ⟨_, rfl⟩
  rw [hx] at hc hf
  simp only at hf
  have d0 : V.cell? ⟨g, o + k * 5, none⟩ = some (.int .i64 x0) := hc 0 (by omega)
  have d1 : V.cell? ⟨g, o + k * 5 + 1, none⟩ = some (.int .i64 x1) := hc 1 (by omega)
  have d2 : V.cell? ⟨g, o + k * 5 + 2, none⟩ = some (.int .i64 x2) := hc 2 (by omega)
  have d3 : V.cell? ⟨g, o + k * 5 + 3, none⟩ = some (.int .i64 x3) := hc 3 (by omega)
  rw [hpe] at z4
  rw [hm] at hk
  obtain ⟨sB, hsB⟩ : ∃ sB, W.heap.size = sB := ⟨_, rfl⟩
  rw [hsB] at u0
  have HSB := hide hsB
  have HVB := hide hbV
  obtain ⟨x, hx0⟩ : ∃ x : Nat, x0 = (x : Int) := ⟨x0.toNat, by omega⟩
  subst hx0
  by_cases hlt : x < n
  · have hown := h2.old
    rw [hn] at hown
    obtain ⟨q1, q2, _, q4⟩ := own_list (cells := KS.cells) (fun o _ => o.len) hn hown
    obtain ⟨g2, o2, hpo, hc2⟩ := q4 x (by rw [hn]; exact hlt)
    obtain ⟨⟨y0, y1, y2⟩, hy⟩ : ∃ y, L.old[x]! = y := ⟨_, rfl⟩
    rw [hy] at hc2
    have e0 : V.cell? ⟨g2, o2 + x * 3, none⟩ = some (.int .i64 y0) := hc2 0 (by omega)
    have e1 : V.cell? ⟨g2, o2 + x * 3 + 1, none⟩ = some (.int .i64 y1) := hc2 1 (by omega)
    have e2 : V.cell? ⟨g2, o2 + x * 3 + 2, none⟩ = some (.int .i64 y2) := hc2 2 (by omega)
    rw [hpo] at z0
    have hh : hadC L k = ⟨y0, y1, y2⟩ := by
      unfold hadC
      rw [hx]
      simp only
      rw [if_pos (by rw [hn]; omega), Int.toNat_natCast, hy]
    rw [hh]
    simp only
    obtain ⟨f0, f1, f2, f3, f4, f5⟩ := ks_facts u0 (.int .i64 y0) (.int .i64 y1)
    have HE := hide (set3 u0 (.int .i64 y0) (.int .i64 y1) (.int .i64 y2))
    have HBF : Hid (Below W.heap.size W (((V.setCell ⟨sB, 0, none⟩ (.int .i64 y0)).setCell ⟨sB, 1, none⟩ (.int .i64 y1)).setCell ⟨sB, 2, none⟩ (.int .i64 y2))) := hide (HVB.out.trans ((only_set3 V sB _ _ _).below HVB.out.size (fun i e => by have e' : i = sB := e; have := HSB.out; omega)))
    clear h h2 hc hc2 hnr hx hy hh hpe hpo hown q4 hm hn hbV hf u0
    go_enter Try.func14, Try.ntmps14
    go_upto_region 1 with fail
    rw [← hV]
    try rw [hsB]
    clear hV hsB
    go_wp2
    refine bodyPost_ret (results_cell_row rfl _ _ sB 43 _ _ _ rfl HE.out Try.underlying43 rfl (by kernel_rfl)) rfl ?_
    exact ⟨rfl, HBF.out⟩
  · have dl : decide ((x : Int) < (n : Int)) = false := decide_eq_false (by omega)
    have hh : hadC L k = ⟨x1, x2, x3⟩ := by
      unfold hadC
      rw [hx]
      simp only
      rw [if_neg (by rw [hn]; omega)]
    rw [hh]
    simp only
    obtain ⟨f0, f1, f2, f3, f4, f5⟩ := ks_facts u0 (.int .i64 x1) (.int .i64 x2)
    have HE := hide (set3 u0 (.int .i64 x1) (.int .i64 x2) (.int .i64 x3))
    have HBF : Hid (Below W.heap.size W (((V.setCell ⟨sB, 0, none⟩ (.int .i64 x1)).setCell ⟨sB, 1, none⟩ (.int .i64 x2)).setCell ⟨sB, 2, none⟩ (.int .i64 x3))) := hide (HVB.out.trans ((only_set3 V sB _ _ _).below HVB.out.size (fun i e => by have e' : i = sB := e; have := HSB.out; omega)))
    clear h h2 hc hnr hx hh hpe hm hn hbV hf u0
    go_enter Try.func14, Try.ntmps14
    go_upto_region 1 with fail
    rw [← hV]
    try rw [hsB]
    clear hV hsB
    go_wp2
    refine bodyPost_ret (results_cell_row rfl _ _ sB 43 _ _ _ rfl HE.out Try.underlying43 rfl (by kernel_rfl)) rfl ?_
    exact ⟨rfl, HBF.out⟩
end Go.Proofs.Ytcabfohmimglpaa
