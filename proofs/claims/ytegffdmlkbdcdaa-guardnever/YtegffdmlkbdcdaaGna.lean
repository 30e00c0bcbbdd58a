/-
  Two regions and an arbiter, plainly: what the letters under way may say, and why not both believe. No conditions.
-/
import Derived.Test.YtegffdmlkbdcdaaGdk
import Derived.Test.YtegffdmlkbdcdaaLsd
namespace Go.Proofs.Ytegffdmlkbdcdaa
open Go.RowKit

/-- A letter. -/
structure LT where
  reg : Int
  back : Bool
  ki : Int
  ser : Int
  ep : Int
deriving DecidableEq
instance : Inhabited LT := ⟨⟨0, false, 0, 0, 0⟩⟩
def LT.cells (x : LT) : List Value := [.int .i64 x.reg, .bool x.back, .int .i64 x.ki, .int .i64 x.ser, .int .i64 x.ep]
/-- A region: its guard, when its last granted question was asked (by both clocks), whether there is one, when each question was asked. -/
structure RG where
  g : GE
  a : Int
  b : Int
  had : Bool
  f : Int → Int × Int
structure PL where
  r0 : RG
  r1 : RG
  l : LE
  bag : List LT
  ck : Int
def PL.at (p : PL) (r : Int) : RG := if r = 0 then p.r0 else p.r1
def PL.put (p : PL) (r : Int) (R : RG) : PL := if r = 0 then ⟨R, p.r1, p.l, p.bag, p.ck⟩ else ⟨p.r0, R, p.l, p.bag, p.ck⟩
def PL.lay (p : PL) (l : LE) (y : LT) : PL := ⟨p.r0, p.r1, l, p.bag ++ [y], p.ck⟩
/-- A letter comes. -/
def comC (p : PL) (x : LT) : PL :=
  if x.back = true then
    (if x.ki = 0 then p.put x.reg ⟨(rfsG (p.at x.reg).g x.ser).1, (p.at x.reg).a, (p.at x.reg).b, (p.at x.reg).had, (p.at x.reg).f⟩
    else if (grnG (p.at x.reg).g x.ser x.ep).2 = true then p.put x.reg ⟨(grnG (p.at x.reg).g x.ser x.ep).1, ((p.at x.reg).f x.ser).1, ((p.at x.reg).f x.ser).2, true, (p.at x.reg).f⟩
    else p.put x.reg ⟨(grnG (p.at x.reg).g x.ser x.ep).1, (p.at x.reg).a, (p.at x.reg).b, (p.at x.reg).had, (p.at x.reg).f⟩)
  else if x.ki = 1 then p.lay (Op.acqC p.l x.reg).1 ⟨x.reg, true, if (Op.acqC p.l x.reg).2.2 = 0 then 1 else 0, x.ser, (Op.acqC p.l x.reg).2.1⟩
  else if x.ki = 2 then p.lay (Op.renewC p.l x.reg x.ep).1 ⟨x.reg, true, if (Op.renewC p.l x.reg x.ep).2 = 0 then 1 else 0, x.ser, x.ep⟩
  else if x.ki = 3 then ⟨p.r0, p.r1, (Op.releaseC p.l x.reg x.ep).1, p.bag, p.ck⟩
  else ⟨p.r0, p.r1, (Op.transC p.l x.reg x.ep (1 - x.reg)).1, p.bag, p.ck⟩
def Hl (r : Int) (l : LE) (ck t : Int) : Prop := ck < t + 16 → l.own = r ∧ t + 16 ≤ l.til
def isEnd (x : LT) (r : Int) : Prop := x.reg = r ∧ x.back = false ∧ x.ki ≠ 1 ∧ x.ki ≠ 2
/-- What holds of a region, whatever came. -/
structure RI (r : Int) (R : RG) (l : LE) (bag : List LT) (ck : Int) : Prop where
  ok : okG R.g
  ser : ∀ x ∈ bag, x.reg = r → x.ser ≤ R.g.se
  eps : ∀ x ∈ bag, x.reg = r → x.ep ≤ l.ep
  one : ∀ x ∈ bag, isEnd x r → R.g.ep ≠ 0 → x.ep < R.g.ep
  quest : ∀ x ∈ bag, x.reg = r → x.back = false → x.ki = 2 → R.g.ki ≠ 0 → x.ser = R.g.se → x.ep = R.g.ep ∧ R.g.ep ≠ 0
  ans : ∀ y ∈ bag, y.reg = r → y.back = true → y.ki ≠ 0 → R.g.ki ≠ 0 → y.ser = R.g.se → Hl r l ck (R.f R.g.se).1 ∧ ∀ z ∈ bag, isEnd z r → z.ep < y.ep
  gep : R.g.ep ≤ l.ep
  hold : R.g.ep ≠ 0 → R.had = true ∧ Hl r l ck R.a ∧ R.g.un ≤ R.b + 12
  st : 0 ≤ R.a ∧ R.a ≤ ck ∧ 0 ≤ R.b ∧ R.b ≤ R.g.ck
  sent : R.g.ki ≠ 0 → (R.f R.g.se).2 = R.g.ak ∧ 0 ≤ (R.f R.g.se).1 ∧ (R.f R.g.se).1 ≤ ck ∧ R.b ≤ (R.f R.g.se).2
theorem RI.less {r : Int} {R : RG} {l : LE} {bag bag' : List LT} {ck : Int} (h : RI r R l bag ck) (hs : ∀ x ∈ bag', x ∈ bag) : RI r R l bag' ck :=
  ⟨h.ok, fun x hx => h.ser x (hs x hx), fun x hx => h.eps x (hs x hx), fun x hx => h.one x (hs x hx), fun x hx => h.quest x (hs x hx),
    fun y hy h1 h2 h3 h4 h5 => ⟨(h.ans y (hs y hy) h1 h2 h3 h4 h5).1, fun z hz => (h.ans y (hs y hy) h1 h2 h3 h4 h5).2 z (hs z hz)⟩, h.gep, h.hold, h.st, h.sent⟩
/-- The lease changes. -/
theorem RI.lease {r : Int} {R : RG} {l l' : LE} {bag : List LT} {ck : Int} (h : RI r R l bag ck) (he : l.ep ≤ l'.ep) (hk : ∀ t, t ≤ ck → Hl r l ck t → Hl r l' ck t) : RI r R l' bag ck :=
  ⟨h.ok, h.ser, fun x hx hr => Int.le_trans (h.eps x hx hr) he, h.one, h.quest,
    fun y hy h1 h2 h3 h4 h5 => ⟨hk _ (h.sent h4).2.2.1 (h.ans y hy h1 h2 h3 h4 h5).1, (h.ans y hy h1 h2 h3 h4 h5).2⟩, Int.le_trans h.gep he,
    fun h1 => ⟨(h.hold h1).1, hk _ h.st.2.1 (h.hold h1).2.1, (h.hold h1).2.2⟩, h.st, h.sent⟩
/-- A letter of the other region. -/
theorem RI.other {r : Int} {R : RG} {l : LE} {bag : List LT} {ck : Int} {y : LT} (h : RI r R l bag ck) (hr : y.reg ≠ r) : RI r R l (bag ++ [y]) ck := by
  have hm : ∀ x, x ∈ bag ++ [y] → x.reg = r → x ∈ bag := fun x hx hxr => by
    rcases List.mem_append.1 hx with hx | hx
    · exact hx
    · rw [List.mem_singleton] at hx; subst hx; exact absurd hxr hr
  exact ⟨h.ok, fun x hx h1 => h.ser x (hm x hx h1) h1, fun x hx h1 => h.eps x (hm x hx h1) h1, fun x hx h1 => h.one x (hm x hx h1.1) h1, fun x hx h1 => h.quest x (hm x hx h1) h1,
    fun y' hy h1 h2 h3 h4 h5 => ⟨(h.ans y' (hm y' hy h1) h1 h2 h3 h4 h5).1, fun z hz hz2 => (h.ans y' (hm y' hy h1) h1 h2 h3 h4 h5).2 z (hm z hz hz2.1) hz2⟩, h.gep, h.hold, h.st, h.sent⟩
/-- An answer of its own. -/
theorem RI.answer {r : Int} {R : RG} {l : LE} {bag : List LT} {ck : Int} {y : LT} (h : RI r R l bag ck) (hb : y.back = true) (hs : y.ser ≤ R.g.se) (he : y.ep ≤ l.ep)
    (ha : y.ki ≠ 0 → R.g.ki ≠ 0 → y.ser = R.g.se → Hl r l ck (R.f R.g.se).1 ∧ ∀ z ∈ bag, isEnd z r → z.ep < y.ep) : RI r R l (bag ++ [y]) ck := by
  have hm : ∀ x, x ∈ bag ++ [y] → x ∈ bag ∨ x = y := fun x hx => by
    rcases List.mem_append.1 hx with hx | hx
    · exact .inl hx
    · exact .inr (List.mem_singleton.1 hx)
  have hz2 : ∀ z, z ∈ bag ++ [y] → isEnd z r → z ∈ bag := fun z hz h1 => by
    rcases hm z hz with h2 | rfl
    · exact h2
    · exact absurd h1.2.1 (by rw [hb]; simp)
  refine ⟨h.ok, fun x hx h1 => ?_, fun x hx h1 => ?_, fun x hx h1 => h.one x (hz2 x hx h1) h1, fun x hx h1 h2 => ?_, fun y' hy h1 h2 h3 h4 h5 => ?_, h.gep, h.hold, h.st, h.sent⟩
  · rcases hm x hx with h2 | rfl
    · exact h.ser x h2 h1
    · exact hs
  · rcases hm x hx with h2 | rfl
    · exact h.eps x h2 h1
    · exact he
  · rcases hm x hx with h3 | rfl
    · exact h.quest x h3 h1 h2
    · rw [hb] at h2; cases h2
  · rcases hm y' hy with h6 | rfl
    · exact ⟨(h.ans y' h6 h1 h2 h3 h4 h5).1, fun z hz hz3 => (h.ans y' h6 h1 h2 h3 h4 h5).2 z (hz2 z hz hz3) hz3⟩
    · exact ⟨(ha h3 h4 h5).1, fun z hz hz3 => (ha h3 h4 h5).2 z (hz2 z hz hz3) hz3⟩
/-- What holds of both, and of the arbiter. -/
structure INV (p : PL) : Prop where
  i0 : RI 0 p.r0 p.l p.bag p.ck
  i1 : RI 1 p.r1 p.l p.bag p.ck
  regs : ∀ x ∈ p.bag, x.reg = 0 ∨ x.reg = 1
  okl : okL p.l
  clk : p.l.clk = p.ck
  solo : p.l.solo = false
  ck0 : 0 ≤ p.ck
theorem INV.at {p : PL} (h : INV p) {r : Int} (hr : r = 0 ∨ r = 1) : RI r (p.at r) p.l p.bag p.ck := by
  rcases hr with rfl | rfl
  · exact h.i0
  · exact h.i1
theorem INV.put {p : PL} (h : INV p) {r : Int} (hr : r = 0 ∨ r = 1) {R : RG} (hR : RI r R p.l p.bag p.ck) : INV (p.put r R) := by
  rcases hr with rfl | rfl
  · exact ⟨hR, h.i1, h.regs, h.okl, h.clk, h.solo, h.ck0⟩
  · exact ⟨h.i0, hR, h.regs, h.okl, h.clk, h.solo, h.ck0⟩
theorem INV.less {p : PL} (h : INV p) {bag : List LT} (hs : ∀ x ∈ bag, x ∈ p.bag) : INV ⟨p.r0, p.r1, p.l, bag, p.ck⟩ :=
  ⟨h.i0.less hs, h.i1.less hs, fun x hx => h.regs x (hs x hx), h.okl, h.clk, h.solo, h.ck0⟩
/-- Not both believe. -/
theorem RI.mine {r : Int} {R : RG} {l : LE} {bag : List LT} {ck : Int} (h : RI r R l bag ck) (hb : belG R.g = true) (hd : ck - R.a - (R.g.ck - R.b) ≤ 4) : R.had = true ∧ l.own = r := by
  obtain ⟨_, h1, h2⟩ := bel_ok hb
  obtain ⟨k1, k2, k3⟩ := h.hold h1
  exact ⟨k1, (k2 (by omega)).1⟩
theorem INV.not {p : PL} (h : INV p) (h0 : belG p.r0.g = true) (h1 : belG p.r1.g = true) (d0 : p.ck - p.r0.a - (p.r0.g.ck - p.r0.b) ≤ 4) (d1 : p.ck - p.r1.a - (p.r1.g.ck - p.r1.b) ≤ 4) : False := by
  have a := (h.i0.mine h0 d0).2
  have b := (h.i1.mine h1 d1).2
  omega
theorem yie_fact {g : GE} (h : okG g) : okG (yieS g) := by
  rw [ok_iff] at h ⊢
  unfold yieS
  simp only
  refine ⟨by first | omega | simp, by first | omega | simp, by first | omega | simp, by first | omega | simp, by first | omega | simp, by first | omega | simp, by first | omega | simp, by first | omega | simp, by first | omega | simp, by first | omega | simp, by first | omega | simp⟩
theorem ans_fact {g : GE} (h : okG g) : okG (ansG g) := by
  rw [ok_iff] at h ⊢
  unfold ansG
  simp only
  refine ⟨by first | omega | simp, by first | omega | simp, by first | omega | simp, by first | omega | simp, by first | omega | simp, by first | omega | simp, by first | omega | simp, by first | omega | simp, by first | omega | simp, by first | omega | simp, by first | omega | simp⟩
/-- Refused. -/
theorem RI.rfs {r : Int} {R : RG} {l : LE} {bag : List LT} {ck : Int} (h : RI r R l bag ck) (n : Int) : RI r ⟨(rfsG R.g n).1, R.a, R.b, R.had, R.f⟩ l bag ck := by
  have ho := h.ok
  unfold rfsG rfsS
  rw [snd_same ho]
  split
  · exact h
  · split
    · exact ⟨yie_fact ho, h.ser, h.eps, fun x _ _ h1 => absurd rfl h1, fun x _ _ _ _ h1 => absurd rfl h1, fun x _ _ _ _ h1 => absurd rfl h1, by have := h.gep; have := (ok_iff _).1 ho; show (0 : Int) ≤ l.ep; omega, fun h1 => absurd rfl h1, h.st, fun h1 => absurd rfl h1⟩
    · exact ⟨ans_fact ho, h.ser, h.eps, h.one, fun x _ _ _ _ h1 => absurd rfl h1, fun x _ _ _ _ h1 => absurd rfl h1, h.gep, h.hold, h.st, fun h1 => absurd rfl h1⟩
end Go.Proofs.Ytegffdmlkbdcdaa
