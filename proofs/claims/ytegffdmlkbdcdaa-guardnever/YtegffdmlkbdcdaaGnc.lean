/-
  Two regions and an arbiter, plainly: each move. The condition: that the arbiter's clock is not near the greatest number.
-/
import Derived.Test.YtegffdmlkbdcdaaGnb
namespace Go.Proofs.Ytegffdmlkbdcdaa
open Go.RowKit

def updF (f : Int → Int × Int) (k : Int) (v : Int × Int) : Int → Int × Int := fun x => if x = k then v else f x
def tickP (p : PL) (r n : Int) : PL := p.put r ⟨tickG (p.at r).g n, (p.at r).a, (p.at r).b, (p.at r).had, (p.at r).f⟩
def arbP (p : PL) (n : Int) : PL := ⟨p.r0, p.r1, Op.tickC p.l n, p.bag, p.ck + n⟩
def addP (p : PL) (y : LT) : PL := ⟨p.r0, p.r1, p.l, p.bag ++ [y], p.ck⟩
def askP (p : PL) (r : Int) : PL :=
  if (askG (p.at r).g).2.2.2 = 0 then addP (p.put r ⟨(askG (p.at r).g).1, (p.at r).a, (p.at r).b, (p.at r).had, updF (p.at r).f (askG (p.at r).g).2.1 (p.ck, (askG (p.at r).g).1.ck)⟩) ⟨r, false, (askG (p.at r).g).2.2.1, (askG (p.at r).g).2.1, (askG (p.at r).g).1.ep⟩
  else p.put r ⟨(askG (p.at r).g).1, (p.at r).a, (p.at r).b, (p.at r).had, (p.at r).f⟩
def endP (p : PL) (r d : Int) : PL := if (p.at r).g.ep = 0 then p else addP (p.put r ⟨yieG (p.at r).g, (p.at r).a, (p.at r).b, (p.at r).had, (p.at r).f⟩) ⟨r, false, d, 0, (p.at r).g.ep⟩
def cutC (bag : List LT) (i : Nat) (tw : Bool) : List LT := if tw = true then bag else bag.eraseIdx i
def comeP (p : PL) (i : Nat) (tw : Bool) : PL := if p.bag = [] then p else comC ⟨p.r0, p.r1, p.l, cutC p.bag i tw, p.ck⟩ p.bag[i]!
theorem put_less {p : PL} {r : Int} {R : RG} (y : LT) (hr : r = 0 ∨ r = 1) (hy : y.reg = r) (h : INV p) (hR : RI r R p.l (p.bag ++ [y]) p.ck) : INV (addP (p.put r R) y) := by
  have hreg : ∀ x ∈ p.bag ++ [y], x.reg = 0 ∨ x.reg = 1 := fun x hx => by
    rcases List.mem_append.1 hx with hx | hx
    · exact h.regs x hx
    · rw [List.mem_singleton] at hx; subst hx; rw [hy]; exact hr
  rcases hr with rfl | rfl
  · exact ⟨hR, h.i1.other (by omega), hreg, h.okl, h.clk, h.solo, h.ck0⟩
  · exact ⟨h.i0.other (by omega), hR, hreg, h.okl, h.clk, h.solo, h.ck0⟩
theorem RI.tick {r : Int} {R : RG} {l : LE} {bag : List LT} {ck : Int} (h : RI r R l bag ck) (n : Int) : RI r ⟨tickG R.g n, R.a, R.b, R.had, R.f⟩ l bag ck := by
  have ho := tick_ok R.g n
  unfold tickG at ho ⊢
  rw [snd_same h.ok] at ho ⊢
  have h1 := later_le (n := n) (h.ok).1.1 (h.ok).1.2
  have h2 := h.st
  exact ⟨ho, h.ser, h.eps, h.one, h.quest, h.ans, h.gep, h.hold, ⟨h2.1, h2.2.1, h2.2.2.1, by simp only; omega⟩, h.sent⟩
theorem inv_tick {p : PL} (h : INV p) {r : Int} (hr : r = 0 ∨ r = 1) (n : Int) : INV (tickP p r n) := INV.put h hr ((h.at hr).tick n)
theorem inv_arb {p : PL} (h : INV p) {n : Int} (h0 : 0 ≤ n) (hb : p.ck + n ≤ 9007199254740976) : INV (arbP p n) := by
  have hk := h.okl
  unfold okL at hk
  have hl : laterC p.l.clk n = p.ck + n := by have := h.clk; have := h.ck0; unfold laterC; omega
  have e : Op.tickC p.l n = ⟨p.l.own, p.l.last, p.l.ep, p.ck + n, p.l.til, p.l.solo⟩ := by unfold Op.tickC; rw [if_pos h.okl, hl]
  have each : ∀ {r R}, RI r R p.l p.bag p.ck → RI r R ⟨p.l.own, p.l.last, p.l.ep, p.ck + n, p.l.til, p.l.solo⟩ p.bag (p.ck + n) := fun {r R} hi => by
    have hH : ∀ t, Hl r p.l p.ck t → Hl r ⟨p.l.own, p.l.last, p.l.ep, p.ck + n, p.l.til, p.l.solo⟩ (p.ck + n) t := fun t ht hq => ht (by omega)
    have hst := hi.st
    exact ⟨hi.ok, hi.ser, hi.eps, hi.one, hi.quest, fun y hy h1 h2 h3 h4 h5 => ⟨hH _ (hi.ans y hy h1 h2 h3 h4 h5).1, (hi.ans y hy h1 h2 h3 h4 h5).2⟩, hi.gep, fun h1 => ⟨(hi.hold h1).1, hH _ (hi.hold h1).2.1, (hi.hold h1).2.2⟩,
      ⟨hst.1, by omega, hst.2.2.1, hst.2.2.2⟩, fun h1 => by obtain ⟨k1, k2, k3, k4⟩ := hi.sent h1; exact ⟨k1, k2, by omega, k4⟩⟩
  have h1 := h.clk
  have h2 := h.ck0
  refine ⟨?_, ?_, h.regs, ?_, ?_, ?_, ?_⟩
  · show RI 0 p.r0 (Op.tickC p.l n) p.bag (p.ck + n); rw [e]; exact each h.i0
  · show RI 1 p.r1 (Op.tickC p.l n) p.bag (p.ck + n); rw [e]; exact each h.i1
  · show okL (Op.tickC p.l n)
    rw [e]
    unfold okL
    exact ⟨hk.1, hk.2.1, hk.2.2.1, by simp only; omega, hk.2.2.2.2.1, hk.2.2.2.2.2.1, hk.2.2.2.2.2.2.1, hk.2.2.2.2.2.2.2.1, fun q => by have := hk.2.2.2.2.2.2.2.2 q; simp only; omega⟩
  · show (Op.tickC p.l n).clk = p.ck + n; rw [e]
  · show (Op.tickC p.l n).solo = false; rw [e]; exact h.solo
  · show 0 ≤ p.ck + n; omega
theorem inv_ask {p : PL} (h : INV p) {r : Int} (hr : r = 0 ∨ r = 1) : INV (askP p r) := by
  have hi := h.at hr
  have ho := hi.ok
  have hg := ask_ok (p.at r).g
  by_cases q1 : mayG (p.at r).g = false
  · have e : askG (p.at r).g = ((p.at r).g, 0, 0, 140) := by unfold askG askS; rw [snd_same ho, if_pos q1]
    unfold askP
    rw [e, if_neg (by simp)]
    exact INV.put h hr hi
  · by_cases q2 : (p.at r).g.se = 9007199254740992
    · have e : askG (p.at r).g = ((p.at r).g, 0, 0, 6) := by unfold askG askS; rw [snd_same ho, if_neg q1, if_pos q2]
      unfold askP
      rw [e, if_neg (by simp)]
      exact INV.put h hr hi
    · have e : askG (p.at r).g = (⟨(p.at r).g.ck, (p.at r).g.ep, (p.at r).g.un, (p.at r).g.se + 1, if (p.at r).g.ep = 0 then 1 else 2, (p.at r).g.ck⟩, (p.at r).g.se + 1, if (p.at r).g.ep = 0 then 1 else 2, 0) := by unfold askG askS; rw [snd_same ho, if_neg q1, if_neg q2]
      unfold askP
      rw [e] at hg ⊢
      rw [if_pos rfl]
      have hok2 := (ok_iff _).1 ho
      have hst := hi.st
      refine put_less _ hr rfl h ⟨hg, fun x hx h1 => ?_, fun x hx h1 => ?_, fun x hx h1 h2 => ?_, fun x hx h1 h2 h3 h4 h5 => ?_, fun y hy h1 h2 h3 h4 h5 => ?_, hi.gep, hi.hold, ⟨hst.1, hst.2.1, hst.2.2.1, hst.2.2.2⟩, fun _ => ?_⟩
      · rcases List.mem_append.1 hx with hx | hx
        · have := hi.ser x hx h1; simp only; omega
        · rw [List.mem_singleton] at hx; subst hx; exact Int.le_refl _
      · rcases List.mem_append.1 hx with hx | hx
        · exact hi.eps x hx h1
        · rw [List.mem_singleton] at hx; subst hx; exact hi.gep
      · rcases List.mem_append.1 hx with hx | hx
        · exact hi.one x hx h1 h2
        · rw [List.mem_singleton] at hx; subst hx
          obtain ⟨_, _, k1, k2⟩ := h1
          simp only at k1 k2
          split at k1
          · exact absurd rfl k1
          · rename_i q; rw [if_neg q] at k2; exact absurd rfl k2
      · rcases List.mem_append.1 hx with hx | hx
        · have := hi.ser x hx h1; simp only at h5; omega
        · rw [List.mem_singleton] at hx; subst hx
          refine ⟨rfl, fun q => ?_⟩
          simp only at h3 q
          rw [if_pos q] at h3
          omega
      · rcases List.mem_append.1 hy with hy | hy
        · have := hi.ser y hy h1; simp only at h5; omega
        · rw [List.mem_singleton] at hy; subst hy; simp at h2
      · have e : updF (p.at r).f ((p.at r).g.se + 1) (p.ck, (p.at r).g.ck) ((p.at r).g.se + 1) = (p.ck, (p.at r).g.ck) := if_pos rfl
        simp only
        rw [e]
        exact ⟨rfl, h.ck0, Int.le_refl _, hst.2.2.2⟩
theorem inv_end {p : PL} (h : INV p) {r d : Int} (hr : r = 0 ∨ r = 1) : INV (endP p r d) := by
  have hi := h.at hr
  have hst := hi.st
  have hok := (ok_iff _).1 hi.ok
  have hg := hi.gep
  unfold endP
  split
  · exact h
  · unfold yieG
    rw [snd_same hi.ok]
    refine put_less _ hr rfl h ⟨yie_fact hi.ok, fun x hx h1 => ?_, fun x hx h1 => ?_, fun x _ _ h1 => absurd rfl h1, fun x _ _ _ _ h1 => absurd rfl h1, fun x _ _ _ _ h1 => absurd rfl h1, ?_, fun h1 => absurd rfl h1, hst, fun h1 => absurd rfl h1⟩
    · rcases List.mem_append.1 hx with hx | hx
      · exact hi.ser x hx h1
      · rw [List.mem_singleton] at hx; subst hx; show (0 : Int) ≤ (p.at r).g.se; omega
    · rcases List.mem_append.1 hx with hx | hx
      · exact hi.eps x hx h1
      · rw [List.mem_singleton] at hx; subst hx; exact hi.gep
    · show (0 : Int) ≤ p.l.ep; omega
theorem inv_come {p : PL} (h : INV p) (hb : p.ck ≤ 9007199254740976) {i : Nat} (hi : p.bag ≠ [] → i < p.bag.length) (tw : Bool) : INV (comeP p i tw) := by
  unfold comeP
  split
  · exact h
  · rename_i hne
    have hlt := hi hne
    have hm : p.bag[i]! ∈ p.bag := by rw [getElem!_pos p.bag i hlt]; exact List.getElem_mem hlt
    refine inv_com h hb hm (fun y hy => ?_)
    unfold cutC at hy
    split at hy
    · exact hy
    · exact List.mem_of_mem_eraseIdx hy
end Go.Proofs.Ytegffdmlkbdcdaa
