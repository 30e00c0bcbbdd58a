/-
  A move, whole: what it does, and that what holds goes on to hold. The conditions: that the play lies there, and that its numbers are not near the greatest.
-/
import Derived.Test.YtegffdmlkbdcdaaGnh
import Derived.Test.YtegffdmlkbdcdaaGni
import Derived.Test.YtegffdmlkbdcdaaGnj
import Derived.Test.YtegffdmlkbdcdaaGnl
import Derived.Test.YtegffdmlkbdcdaaGdj
namespace Go.Proofs.Ytegffdmlkbdcdaa
open Go.ChangeShapes Go.WideShapes Go.ChangeAt Go.RowKit

def MV.r (m : MV) : Int := bits .and .i64 m.reg 1
def MV.k (m : MV) : Int := bits .and .i64 m.n 15
def MV.i (m : MV) (lb : Nat) : Nat := ((IntKind.u64.wrap m.which).tmod (lb : Int)).toNat
def movC (p : PL) (m : MV) : PL :=
  if m.act = 0 then tickP p m.r m.k else if m.act = 1 then arbP p m.k else if m.act = 2 then askP p m.r else if m.act = 3 then endP p m.r 3 else if m.act = 4 then endP p m.r 4 else if m.act = 5 then comeP p (m.i p.bag.length) m.twice else p
theorem PRep.more {B : Nat} {W : World} {pB mA mB n : Nat} {p : PL} {sp : Option Addr} {cap : Nat} {wd : World} (h : PRep B W pB mA mB n p sp cap wd) : PRep B W pB mA mB (n + 1) p sp cap wd := ⟨h.box, h.bag, h.ma.mono (Nat.le_succ _), h.mb.mono (Nat.le_succ _), h.ne, h.below⟩
theorem which_in (m : MV) {lb : Nat} (h : 0 < lb) : (IntKind.u64.wrap m.which).tmod (lb : Int) = (m.i lb : Int) ∧ m.i lb < lb := by
  have h0 : 0 ≤ IntKind.u64.wrap m.which := by rw [IntKind.wrap_u64]; omega
  have h1 := Int.tmod_nonneg (lb : Int) h0
  have h2 := Int.tmod_lt_of_pos (IntKind.u64.wrap m.which) (b := (lb : Int)) (by omega)
  unfold MV.i
  omega
theorem put_len (p : PL) (r : Int) (R : RG) : (p.put r R).bag = p.bag := by unfold PL.put; split <;> rfl
theorem put_ck (p : PL) (r : Int) (R : RG) : (p.put r R).ck = p.ck := by unfold PL.put; split <;> rfl
theorem com_len (p : PL) (x : LT) : (comC p x).bag.length ≤ p.bag.length + 1 ∧ (comC p x).ck = p.ck := by
  unfold comC
  (repeat' split) <;> simp [put_len, put_ck, PL.lay]
theorem mov_len (p : PL) (m : MV) : (movC p m).bag.length ≤ p.bag.length + 1 ∧ (movC p m).ck ≤ p.ck + 15 := by
  have hk := and15 m.n
  unfold movC
  split
  · unfold tickP; rw [put_len, put_ck]; omega
  · split
    · unfold arbP MV.k; simp only; omega
    · split
      · unfold askP
        split
        · unfold addP; simp [put_len, put_ck]; omega
        · rw [put_len, put_ck]; omega
      · split
        · unfold endP
          split
          · omega
          · unfold addP; simp [put_len, put_ck]; omega
        · split
          · unfold endP
            split
            · omega
            · unfold addP; simp [put_len, put_ck]; omega
          · split
            · unfold comeP
              split
              · omega
              · have h := com_len ⟨p.r0, p.r1, p.l, cutC p.bag (m.i p.bag.length) m.twice, p.ck⟩ p.bag[m.i p.bag.length]!
                have h2 : (cutC p.bag (m.i p.bag.length) m.twice).length ≤ p.bag.length := by
                  unfold cutC
                  split
                  · exact Nat.le_refl _
                  · rw [List.length_eraseIdx]; split <;> omega
                simp only at h
                omega
            · omega
theorem inv_mov {p : PL} (h : INV p) (hb : p.ck ≤ 9007199254740960) (m : MV) : INV (movC p m) := by
  have hk := and15 m.n
  have hr : m.r = 0 ∨ m.r = 1 := and1 m.reg
  unfold movC
  split
  · exact inv_tick h hr _
  · split
    · exact inv_arb h hk.1 (by unfold MV.k; omega)
    · split
      · exact inv_ask h hr
      · split
        · exact inv_end h hr
        · split
          · exact inv_end h hr
          · split
            · exact inv_come h (by omega) (fun hne => (which_in m (List.length_pos_iff.2 hne)).2) _
            · exact h
set_option maxRecDepth 100000 in
set_option maxHeartbeats 8000000 in
theorem mov_else {W : World} {B pB mA mB n cap : Nat} {sp : Option Addr} {W0 : World} {c0 c1 c2 c3 c4 c5 d0 d1 d2 d3 d4 d5 a0 b0 a1 b1 l0 l1 l2 l3 l4 ck : Int} {h0 h1 so : Bool} {f0 f1 : Int → Int × Int} {bag : List LT} {mr mn mw ac : Int} {mt : Bool} (hP : PRep B W0 pB mA mB n ⟨⟨⟨c0, c1, c2, c3, c4, c5⟩, a0, b0, h0, f0⟩, ⟨⟨d0, d1, d2, d3, d4, d5⟩, a1, b1, h1, f1⟩, ⟨l0, l1, l2, l3, l4, so⟩, bag, ck⟩ sp cap W) (k0 : ac ≠ 0) (k1 : ac ≠ 1) (k2 : ac ≠ 2) (k3 : ac ≠ 3) (k4 : ac ≠ 4) (k5 : ac ≠ 5) :
    Calls Try.prog 18 #[.pointer (some ⟨pB, 0, none⟩), .agg #[.int .i64 ac, .int .i64 mr, .int .i64 mn, .int .i64 mw, .bool mt]] W fun e w' => e = .returned (.tuple #[]) ∧ ∃ sp' cap', PRep B W0 pB mA mB n (⟨⟨⟨c0, c1, c2, c3, c4, c5⟩, a0, b0, h0, f0⟩, ⟨⟨d0, d1, d2, d3, d4, d5⟩, a1, b1, h1, f1⟩, ⟨l0, l1, l2, l3, l4, so⟩, bag, ck⟩) sp' cap' w' := by
  have e0 : (ac == 0) = false := ne_eqL k0
  have e1 : (ac == 1) = false := ne_eqL k1
  have e2 : (ac == 2) = false := ne_eqL k2
  have e3 : (ac == 3) = false := ne_eqL k3
  have e4 : (ac == 4) = false := ne_eqL k4
  have e5 : (ac == 5) = false := ne_eqL k5
  clear k0 k1 k2 k3 k4 k5
  obtain ⟨V, hV⟩ : ∃ V, V = W.alloc (.cells #[.int .i64 ac, .int .i64 mr, .int .i64 mn, .int .i64 mw, .bool mt] 52 (0, 0)) := ⟨_, rfl⟩
  have bV : Below W.heap.size W V := by rw [hV]; exact alloc_below _ _
  have hx : V.heap[W.heap.size]? = some (.cells #[.int .i64 ac, .int .i64 mr, .int .i64 mn, .int .i64 mw, .bool mt] 52 (0, 0)) := by rw [hV]; exact heap_alloc_new W _
  obtain ⟨xB, hxB⟩ : ∃ xB, W.heap.size = xB := ⟨_, rfl⟩
  have HLT : Hid (pB < xB) := hide (by rw [← hxB]; exact box_lt hP.box)
  rw [hxB] at hx
  have HX0 := hide hx
  have HP0 := hide (hP.later bV)
  clear hx bV hP
  go_enter Try.func18, Try.ntmps18
  go_upto_region 1 with fail
  rw [← hV]
  try rw [hxB]
  clear hV hxB
  obtain ⟨_, _, _, _, _, x0, x1, x2, x3, x4⟩ := five HX0.out
  go_wp2
  refine bodyPost_end (results_none rfl _ _ _) rfl ?_
  exact ⟨rfl, sp, cap, HP0.out⟩
theorem up_more {W : World} {B pB mA mB n : Nat} {W0 : World} {q : PL} {f : Nat} {av : Array Value} (h : Calls Try.prog f av W fun e w' => e = .returned (.tuple #[]) ∧ ∃ sp' cap', PRep B W0 pB mA mB n q sp' cap' w') : Calls Try.prog f av W fun e w' => e = .returned (.tuple #[]) ∧ ∃ sp' cap', PRep B W0 pB mA mB (n + 1) q sp' cap' w' :=
  h.mono fun _ _ ⟨a, sp', cap', b⟩ => ⟨a, sp', cap', b.more⟩
theorem mov_any {W : World} {B pB mA mB n cap : Nat} {sp : Option Addr} {W0 : World} {p : PL} {m : MV} (hP : PRep B W0 pB mA mB n p sp cap W) (h : INV p) (hbig : p.bag.length ≤ 1000) (hnn : n ≤ 1000) (hck : p.ck ≤ 9007199254740960) :
    Calls Try.prog 18 #[.pointer (some ⟨pB, 0, none⟩), .agg #[.int .i64 m.act, .int .i64 m.reg, .int .i64 m.n, .int .i64 m.which, .bool m.twice]] W fun e w' => e = .returned (.tuple #[]) ∧ ∃ sp' cap', PRep B W0 pB mA mB (n + 1) (movC p m) sp' cap' w' := by
  obtain ⟨⟨⟨c0, c1, c2, c3, c4, c5⟩, a0, b0, h0, f0⟩, ⟨⟨d0, d1, d2, d3, d4, d5⟩, a1, b1, h1, f1⟩, ⟨l0, l1, l2, l3, l4, so⟩, bag, ck⟩ := p
  obtain ⟨ac, mr, mn, mw, mt⟩ := m
  have hr : bits .and .i64 mr 1 = 0 ∨ bits .and .i64 mr 1 = 1 := and1 mr
  have hn := and15 mn
  have hc0 := h.ck0
  by_cases k0 : ac = 0
  · subst k0
    have e : movC ⟨⟨⟨c0, c1, c2, c3, c4, c5⟩, a0, b0, h0, f0⟩, ⟨⟨d0, d1, d2, d3, d4, d5⟩, a1, b1, h1, f1⟩, ⟨l0, l1, l2, l3, l4, so⟩, bag, ck⟩ ⟨0, mr, mn, mw, mt⟩ = tickP ⟨⟨⟨c0, c1, c2, c3, c4, c5⟩, a0, b0, h0, f0⟩, ⟨⟨d0, d1, d2, d3, d4, d5⟩, a1, b1, h1, f1⟩, ⟨l0, l1, l2, l3, l4, so⟩, bag, ck⟩ (bits .and .i64 mr 1) (bits .and .i64 mn 15) := if_pos rfl
    rw [e]
    rcases hr with hr | hr
    · rw [hr]; exact up_more (mov_tick0 hP hr rfl)
    · rw [hr]; exact up_more (mov_tick1 hP hr rfl)
  · by_cases k1 : ac = 1
    · subst k1
      have e : movC ⟨⟨⟨c0, c1, c2, c3, c4, c5⟩, a0, b0, h0, f0⟩, ⟨⟨d0, d1, d2, d3, d4, d5⟩, a1, b1, h1, f1⟩, ⟨l0, l1, l2, l3, l4, so⟩, bag, ck⟩ ⟨1, mr, mn, mw, mt⟩ = arbP ⟨⟨⟨c0, c1, c2, c3, c4, c5⟩, a0, b0, h0, f0⟩, ⟨⟨d0, d1, d2, d3, d4, d5⟩, a1, b1, h1, f1⟩, ⟨l0, l1, l2, l3, l4, so⟩, bag, ck⟩ (bits .and .i64 mn 15) := rfl
      rw [e]
      exact up_more (mov_arb hP rfl hn ⟨hc0, by simp only at hck; omega⟩)
    · by_cases k2 : ac = 2
      · subst k2
        have e : movC ⟨⟨⟨c0, c1, c2, c3, c4, c5⟩, a0, b0, h0, f0⟩, ⟨⟨d0, d1, d2, d3, d4, d5⟩, a1, b1, h1, f1⟩, ⟨l0, l1, l2, l3, l4, so⟩, bag, ck⟩ ⟨2, mr, mn, mw, mt⟩ = askP ⟨⟨⟨c0, c1, c2, c3, c4, c5⟩, a0, b0, h0, f0⟩, ⟨⟨d0, d1, d2, d3, d4, d5⟩, a1, b1, h1, f1⟩, ⟨l0, l1, l2, l3, l4, so⟩, bag, ck⟩ (bits .and .i64 mr 1) := rfl
        rw [e]
        rcases hr with hr | hr
        · rw [hr]
          obtain ⟨⟨⟨g0, g1, g2, g3, g4, g5⟩, ak2, ak3, er⟩, hg⟩ : ∃ q, askG ⟨c0, c1, c2, c3, c4, c5⟩ = q := ⟨_, rfl⟩
          by_cases he : er = 0
          · subst he; exact mov_ask0k hP hr hbig hnn hg
          · exact mov_ask0n hP hr hbig hnn hg he
        · rw [hr]
          obtain ⟨⟨⟨g0, g1, g2, g3, g4, g5⟩, ak2, ak3, er⟩, hg⟩ : ∃ q, askG ⟨d0, d1, d2, d3, d4, d5⟩ = q := ⟨_, rfl⟩
          by_cases he : er = 0
          · subst he; exact mov_ask1k hP hr hbig hnn hg
          · exact mov_ask1n hP hr hbig hnn hg he
      · by_cases k3 : ac = 3
        · subst k3
          have e : movC ⟨⟨⟨c0, c1, c2, c3, c4, c5⟩, a0, b0, h0, f0⟩, ⟨⟨d0, d1, d2, d3, d4, d5⟩, a1, b1, h1, f1⟩, ⟨l0, l1, l2, l3, l4, so⟩, bag, ck⟩ ⟨3, mr, mn, mw, mt⟩ = endP ⟨⟨⟨c0, c1, c2, c3, c4, c5⟩, a0, b0, h0, f0⟩, ⟨⟨d0, d1, d2, d3, d4, d5⟩, a1, b1, h1, f1⟩, ⟨l0, l1, l2, l3, l4, so⟩, bag, ck⟩ (bits .and .i64 mr 1) 3 := rfl
          rw [e]
          rcases hr with hr | hr
          · rw [hr]
            by_cases he : c1 = 0
            · exact up_more (mov_end03z hP hr he)
            · exact up_more (mov_end03 hP hr hbig he)
          · rw [hr]
            by_cases he : d1 = 0
            · exact up_more (mov_end13z hP hr he)
            · exact up_more (mov_end13 hP hr hbig he)
        · by_cases k4 : ac = 4
          · subst k4
            have e : movC ⟨⟨⟨c0, c1, c2, c3, c4, c5⟩, a0, b0, h0, f0⟩, ⟨⟨d0, d1, d2, d3, d4, d5⟩, a1, b1, h1, f1⟩, ⟨l0, l1, l2, l3, l4, so⟩, bag, ck⟩ ⟨4, mr, mn, mw, mt⟩ = endP ⟨⟨⟨c0, c1, c2, c3, c4, c5⟩, a0, b0, h0, f0⟩, ⟨⟨d0, d1, d2, d3, d4, d5⟩, a1, b1, h1, f1⟩, ⟨l0, l1, l2, l3, l4, so⟩, bag, ck⟩ (bits .and .i64 mr 1) 4 := rfl
            rw [e]
            rcases hr with hr | hr
            · rw [hr]
              by_cases he : c1 = 0
              · exact up_more (mov_end04z hP hr he)
              · exact up_more (mov_end04 hP hr hbig he)
            · rw [hr]
              by_cases he : d1 = 0
              · exact up_more (mov_end14z hP hr he)
              · exact up_more (mov_end14 hP hr hbig he)
          · by_cases k5 : ac = 5
            · subst k5
              have e : movC ⟨⟨⟨c0, c1, c2, c3, c4, c5⟩, a0, b0, h0, f0⟩, ⟨⟨d0, d1, d2, d3, d4, d5⟩, a1, b1, h1, f1⟩, ⟨l0, l1, l2, l3, l4, so⟩, bag, ck⟩ ⟨5, mr, mn, mw, mt⟩ = comeP ⟨⟨⟨c0, c1, c2, c3, c4, c5⟩, a0, b0, h0, f0⟩, ⟨⟨d0, d1, d2, d3, d4, d5⟩, a1, b1, h1, f1⟩, ⟨l0, l1, l2, l3, l4, so⟩, bag, ck⟩ (MV.i ⟨5, mr, mn, mw, mt⟩ bag.length) mt := rfl
              rw [e]
              by_cases hz : bag = []
              · subst hz
                have e2 : comeP ⟨⟨⟨c0, c1, c2, c3, c4, c5⟩, a0, b0, h0, f0⟩, ⟨⟨d0, d1, d2, d3, d4, d5⟩, a1, b1, h1, f1⟩, ⟨l0, l1, l2, l3, l4, so⟩, [], ck⟩ (MV.i ⟨5, mr, mn, mw, mt⟩ ([] : List LT).length) mt = comeP ⟨⟨⟨c0, c1, c2, c3, c4, c5⟩, a0, b0, h0, f0⟩, ⟨⟨d0, d1, d2, d3, d4, d5⟩, a1, b1, h1, f1⟩, ⟨l0, l1, l2, l3, l4, so⟩, [], ck⟩ 0 mt := (if_pos rfl).trans (if_pos rfl).symm
                rw [e2]
                exact up_more (mov_comez hP)
              · obtain ⟨w1, w2⟩ := which_in ⟨5, mr, mn, mw, mt⟩ (List.length_pos_iff.2 hz)
                cases mt with
                | true => exact up_more (mov_comet hP h hbig rfl w1 w2)
                | false => exact up_more (mov_comef hP h hbig rfl w1 w2)
            · have e : movC ⟨⟨⟨c0, c1, c2, c3, c4, c5⟩, a0, b0, h0, f0⟩, ⟨⟨d0, d1, d2, d3, d4, d5⟩, a1, b1, h1, f1⟩, ⟨l0, l1, l2, l3, l4, so⟩, bag, ck⟩ ⟨ac, mr, mn, mw, mt⟩ = ⟨⟨⟨c0, c1, c2, c3, c4, c5⟩, a0, b0, h0, f0⟩, ⟨⟨d0, d1, d2, d3, d4, d5⟩, a1, b1, h1, f1⟩, ⟨l0, l1, l2, l3, l4, so⟩, bag, ck⟩ := by unfold movC; rw [if_neg k0, if_neg k1, if_neg k2, if_neg k3, if_neg k4, if_neg k5]
              rw [e]
              exact up_more (mov_else hP k0 k1 k2 k3 k4 k5)
end Go.Proofs.Ytegffdmlkbdcdaa
