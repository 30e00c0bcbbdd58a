/-
  Two regions and an arbiter, plainly: what holds, whatever comes. The condition: that the arbiter's clock is not near the greatest number.
-/
import Derived.Test.YtegffdmlkbdcdaaGna
namespace Go.Proofs.Ytegffdmlkbdcdaa
open Go.RowKit

/-- Granted. -/
theorem RI.grn {r : Int} {R : RG} {l : LE} {bag : List LT} {ck : Int} (h : RI r R l bag ck) {x : LT} (hx : x ∈ bag) (hr : x.reg = r) (hb : x.back = true) (hk : x.ki ≠ 0) :
    ((grnG R.g x.ser x.ep).2 = true → RI r ⟨(grnG R.g x.ser x.ep).1, (R.f x.ser).1, (R.f x.ser).2, true, R.f⟩ l bag ck) ∧ ((grnG R.g x.ser x.ep).2 = false → (grnG R.g x.ser x.ep).1 = R.g) := by
  have ho := h.ok
  have hg := grn_ok R.g x.ser x.ep
  unfold grnG grnS at hg ⊢
  rw [snd_same ho] at hg ⊢
  split
  · exact ⟨fun h1 => by simp at h1, fun _ => rfl⟩
  · rename_i hn
    rw [if_neg hn] at hg
    refine ⟨fun _ => ?_, fun h1 => by simp at h1⟩
    have k1 : R.g.ki ≠ 0 := fun q => hn (.inl q)
    have k2 : x.ser = R.g.se := by by_cases q : x.ser = R.g.se; exact q; exact absurd (.inr (.inl q)) hn
    obtain ⟨a1, a2⟩ := h.ans x hx hr hb hk k1 k2
    obtain ⟨s1, s2, s3, s4⟩ := h.sent k1
    have ho2 := (ok_iff _).1 ho
    rw [k2]
    refine ⟨hg, h.ser, h.eps, fun z hz hz2 _ => a2 z hz hz2, fun z _ _ _ _ h1 => absurd rfl h1, fun z _ _ _ _ h1 => absurd rfl h1, h.eps x hx hr, fun _ => ⟨rfl, a1, ?_⟩, ⟨s2, s3, ?_, ?_⟩, fun h1 => absurd rfl h1⟩
    · rw [s1]
      simp only
      by_cases q : R.g.ki = 2
      · have he : R.g.ep ≠ 0 := by omega
        have hu := (h.hold he).2.2
        rw [if_pos q]
        unfold laterC
        split <;> omega
      · rw [if_neg q]
        unfold laterC
        omega
    · rw [s1]; simp only; omega
    · rw [s1]; simp only; omega
theorem later16 {c : Int} (h0 : 0 ≤ c) (h1 : c ≤ 9007199254740976) : laterC c 16 = c + 16 := by unfold laterC; omega
/-- The lease is asked for. -/
theorem acq_fact {l : LE} {r0 ck : Int} (hk : okL l) (hc : l.clk = ck) (h0 : 0 ≤ ck) (h1 : ck ≤ 9007199254740976) (hs : l.solo = false) (hr : r0 = 0 ∨ r0 = 1) :
    okL (Op.acqC l r0).1 ∧ (Op.acqC l r0).1.clk = ck ∧ (Op.acqC l r0).1.solo = false ∧ l.ep ≤ (Op.acqC l r0).1.ep ∧ (∀ r t, t ≤ ck → Hl r l ck t → Hl r (Op.acqC l r0).1 ck t) ∧
    ((Op.acqC l r0).2.2 = 0 → l.ep < (Op.acqC l r0).2.1 ∧ (Op.acqC l r0).2.1 ≤ (Op.acqC l r0).1.ep ∧ ∀ t, t ≤ ck → Hl r0 (Op.acqC l r0).1 ck t) ∧ (Op.acqC l r0).2.1 ≤ (Op.acqC l r0).1.ep := by
  have hk2 := hk
  unfold okL at hk2
  have same : okL l ∧ l.clk = ck ∧ l.solo = false ∧ l.ep ≤ l.ep ∧ (∀ r t, t ≤ ck → Hl r l ck t → Hl r l ck t) := ⟨hk, hc, hs, Int.le_refl _, fun _ _ _ h => h⟩
  unfold Op.acqC
  split
  · split
    · exact ⟨same.1, same.2.1, same.2.2.1, same.2.2.2.1, same.2.2.2.2, fun h => by simp at h, by simp only; omega⟩
    · rename_i hh
      split
      · exact ⟨same.1, same.2.1, same.2.2.1, same.2.2.2.1, same.2.2.2.2, fun h => by simp at h, by simp only; omega⟩
      · unfold Op.grantC
        split
        · exact ⟨same.1, same.2.1, same.2.2.1, same.2.2.2.1, same.2.2.2.2, fun h => by simp at h, by simp only; omega⟩
        · rename_i hm
          have hl : laterC l.clk 16 = ck + 16 := by rw [hc]; exact later16 h0 h1
          have fin : ∀ t, t ≤ ck → Hl r0 ⟨r0, r0, l.ep + 1, l.clk, laterC l.clk 16, l.solo && decide (l.last = r0)⟩ ck t := fun t ht _ => ⟨rfl, by rw [hl]; simp only; omega⟩
          refine ⟨?_, hc, by simp [hs], by simp only; omega, fun r t ht hH => ?_, fun _ => ⟨by simp only; omega, by simp only; omega, fin⟩, by simp only; omega⟩
          · unfold okL
            rw [hl]
            refine ⟨by simp only; omega, by simp only; omega, by simp only; omega, by simp only; omega, by simp only; omega, .inr rfl, fun h => by simp only at h; omega, fun h => by simp only; omega, fun h => by simp only at h; omega⟩
          · by_cases hq : ck < t + 16
            · obtain ⟨o1, o2⟩ := hH hq
              have hheld : Op.heldC l = true := decide_eq_true ⟨hk, by rcases hr with rfl | rfl <;> omega, by omega⟩
              have e : r = r0 := by by_cases q : l.own = r0; omega; exact absurd ⟨hheld, q⟩ hh
              subst e
              exact fin t ht
            · exact fun h => absurd h hq
  · rename_i hn
    exact absurd ⟨hk, by omega⟩ hn
theorem renew_fact {l : LE} {r0 e ck : Int} (hk : okL l) (hc : l.clk = ck) (h0 : 0 ≤ ck) (h1 : ck ≤ 9007199254740976) (hs : l.solo = false) (hr : r0 = 0 ∨ r0 = 1) :
    okL (Op.renewC l r0 e).1 ∧ (Op.renewC l r0 e).1.clk = ck ∧ (Op.renewC l r0 e).1.solo = false ∧ l.ep ≤ (Op.renewC l r0 e).1.ep ∧ (∀ r t, t ≤ ck → Hl r l ck t → Hl r (Op.renewC l r0 e).1 ck t) ∧
    ((Op.renewC l r0 e).2 = 0 → ∀ t, t ≤ ck → Hl r0 (Op.renewC l r0 e).1 ck t) := by
  have hk2 := hk
  unfold okL at hk2
  unfold Op.renewC
  split
  · rename_i hcl
    obtain ⟨_, _, c1, c2⟩ := Op.claim_ok hcl
    have hl : laterC l.clk 16 = ck + 16 := by rw [hc]; exact later16 h0 h1
    have fin : ∀ t, t ≤ ck → Hl r0 ⟨l.own, l.last, l.ep, l.clk, laterC l.clk 16, l.solo⟩ ck t := fun t ht _ => ⟨c1, by rw [hl]; simp only; omega⟩
    refine ⟨?_, hc, hs, Int.le_refl _, fun r t ht hH => ?_, fun _ => fin⟩
    · unfold okL
      rw [hl]
      refine ⟨hk2.1, hk2.2.1, hk2.2.2.1, hk2.2.2.2.1, by simp only; omega, hk2.2.2.2.2.2.1, hk2.2.2.2.2.2.2.1, hk2.2.2.2.2.2.2.2.1, fun h => by simp only at h; omega⟩
    · by_cases hq : ck < t + 16
      · obtain ⟨o1, o2⟩ := hH hq
        have e : r = r0 := by omega
        subst e
        exact fin t ht
      · exact fun h => absurd h hq
  · rename_i hn
    exact ⟨hk, hc, hs, Int.le_refl _, fun _ _ _ h => h, fun h => absurd h hn⟩
/-- It is let go of, or handed over. -/
theorem end_fact {l l' : LE} {r0 e ck : Int} (hcl : Op.claimC l r0 e = 0) {r : Int} {R : RG} {bag : List LT} (h : RI r R l bag ck) (hep : l.ep ≤ l'.ep) {x : LT} (hx : x ∈ bag) (hxr : x.reg = r0) (hxe : isEnd x r0) (hxp : x.ep = e) : RI r R l' bag ck := by
  obtain ⟨_, _, c1, c2⟩ := Op.claim_ok hcl
  by_cases hr : r = r0
  · subst hr
    have g0 : R.g.ep = 0 := by
      by_cases q : R.g.ep = 0
      · exact q
      · have h1 := h.one x hx hxe q
        have h2 := h.gep
        omega
    refine ⟨h.ok, h.ser, fun y hy hr => Int.le_trans (h.eps y hy hr) hep, h.one, h.quest, fun y hy h1 h2 h3 h4 h5 => ?_, Int.le_trans h.gep hep, fun h1 => absurd g0 h1, h.st, h.sent⟩
    have h6 := (h.ans y hy h1 h2 h3 h4 h5).2 x hx hxe
    have h7 := h.eps y hy h1
    omega
  · exact h.lease hep (fun t _ hH hq => by have := (hH hq).1; omega)
theorem release_fact {l : LE} {r0 e ck : Int} (hk : okL l) (hc : l.clk = ck) (h0 : 0 ≤ ck) (hs : l.solo = false) :
    okL (Op.releaseC l r0 e).1 ∧ (Op.releaseC l r0 e).1.clk = ck ∧ (Op.releaseC l r0 e).1.solo = false ∧ l.ep ≤ (Op.releaseC l r0 e).1.ep ∧ (Op.claimC l r0 e ≠ 0 → (Op.releaseC l r0 e).1 = l) := by
  have hk2 := hk
  unfold okL at hk2
  unfold Op.releaseC
  split
  · rename_i hcl
    refine ⟨?_, hc, hs, Int.le_refl _, fun h => absurd hcl h⟩
    unfold okL
    refine ⟨.inl rfl, hk2.2.1, hk2.2.2.1, hk2.2.2.2.1, by simp only; omega, .inl rfl, hk2.2.2.2.2.2.2.1, hk2.2.2.2.2.2.2.2.1, fun _ => by simp⟩
  · exact ⟨hk, hc, hs, Int.le_refl _, fun _ => rfl⟩
theorem trans_fact {l : LE} {r0 e d ck : Int} (hk : okL l) (hc : l.clk = ck) (h0 : 0 ≤ ck) (h1 : ck ≤ 9007199254740976) (hs : l.solo = false) :
    okL (Op.transC l r0 e d).1 ∧ (Op.transC l r0 e d).1.clk = ck ∧ (Op.transC l r0 e d).1.solo = false ∧ l.ep ≤ (Op.transC l r0 e d).1.ep ∧ (Op.claimC l r0 e ≠ 0 → (Op.transC l r0 e d).1 = l) := by
  have hk2 := hk
  unfold okL at hk2
  have same : okL l ∧ l.clk = ck ∧ l.solo = false ∧ l.ep ≤ l.ep := ⟨hk, hc, hs, Int.le_refl _⟩
  unfold Op.transC
  split
  · rename_i hd
    split
    · rename_i hcl
      split
      · exact ⟨same.1, same.2.1, same.2.2.1, same.2.2.2, fun _ => rfl⟩
      · unfold Op.grantC
        split
        · exact ⟨same.1, same.2.1, same.2.2.1, same.2.2.2, fun _ => rfl⟩
        · have hl : laterC l.clk 16 = ck + 16 := by rw [hc]; exact later16 h0 h1
          refine ⟨?_, hc, by simp [hs], by simp only; omega, fun h => absurd hcl h⟩
          unfold okL
          rw [hl]
          refine ⟨by simp only; omega, by simp only; omega, by simp only; omega, by simp only; omega, by simp only; omega, .inr rfl, fun h => by simp only at h; omega, fun h => by simp only; omega, fun h => by simp only at h; omega⟩
    · exact ⟨same.1, same.2.1, same.2.2.1, same.2.2.2, fun _ => rfl⟩
  · exact ⟨same.1, same.2.1, same.2.2.1, same.2.2.2, fun _ => rfl⟩
/-- A letter that was under way comes; it may be under way yet. -/
theorem inv_com {p : PL} (h : INV p) (hb : p.ck ≤ 9007199254740976) {x : LT} (hx : x ∈ p.bag) {bag : List LT} (hs : ∀ y ∈ bag, y ∈ p.bag) : INV (comC ⟨p.r0, p.r1, p.l, bag, p.ck⟩ x) := by
  have hreg := h.regs x hx
  have hR := h.at hreg
  have hat : (PL.at ⟨p.r0, p.r1, p.l, bag, p.ck⟩ x.reg) = p.at x.reg := rfl
  unfold comC
  rw [hat]
  split
  · rename_i hbk
    split
    · exact INV.put (h.less hs) hreg ((hR.rfs x.ser).less hs)
    · rename_i hk
      have hg := hR.grn hx rfl hbk hk
      split
      · rename_i ht
        exact INV.put (h.less hs) hreg ((hg.1 ht).less hs)
      · rename_i hf
        have := hg.2 (by simpa using hf)
        rw [this]
        exact INV.put (h.less hs) hreg (hR.less hs)
  · rename_i hbk
    have hbk : x.back = false := by simpa using hbk
    have hsub : ∀ (y : LT), ∀ z ∈ bag ++ [y], z ∈ p.bag ++ [y] := fun y z hz => by
      rcases List.mem_append.1 hz with hz | hz
      · exact List.mem_append.2 (.inl (hs z hz))
      · exact List.mem_append.2 (.inr hz)
    split
    · rename_i hk1
      obtain ⟨f1, f2, f3, f4, f5, f6, f7⟩ := acq_fact (r0 := x.reg) h.okl h.clk h.ck0 hb h.solo hreg
      have each : ∀ {r R}, (r = 0 ∨ r = 1) → RI r R p.l p.bag p.ck → RI r R (Op.acqC p.l x.reg).1 (p.bag ++ [⟨x.reg, true, if (Op.acqC p.l x.reg).2.2 = 0 then 1 else 0, x.ser, (Op.acqC p.l x.reg).2.1⟩]) p.ck := fun {r R} hr hi => by
        have hi2 := hi.lease f4 (f5 r)
        by_cases q : x.reg = r
        · refine hi2.answer rfl (hi.ser x hx q) f7 (fun h1 h2 h3 => ?_)
          have e0 : (Op.acqC p.l x.reg).2.2 = 0 := by by_cases z : (Op.acqC p.l x.reg).2.2 = 0; exact z; simp [z] at h1
          obtain ⟨g1, g2, g3⟩ := f6 e0
          refine ⟨by rw [← q]; exact g3 _ (hi.sent h2).2.2.1, fun z hz hz2 => ?_⟩
          have := hi.eps z hz hz2.1
          simp only
          omega
        · exact hi2.other q
      refine INV.less (p := PL.lay p _ _) ⟨each (.inl rfl) h.i0, each (.inr rfl) h.i1, fun z hz => ?_, f1, f2, f3, h.ck0⟩ (hsub _)
      rcases List.mem_append.1 hz with hz | hz
      · exact h.regs z hz
      · rw [List.mem_singleton] at hz; subst hz; exact hreg
    · rename_i hk1
      split
      · rename_i hk2
        obtain ⟨f1, f2, f3, f4, f5, f6⟩ := renew_fact (r0 := x.reg) (e := x.ep) h.okl h.clk h.ck0 hb h.solo hreg
        have each : ∀ {r R}, (r = 0 ∨ r = 1) → RI r R p.l p.bag p.ck → RI r R (Op.renewC p.l x.reg x.ep).1 (p.bag ++ [⟨x.reg, true, if (Op.renewC p.l x.reg x.ep).2 = 0 then 1 else 0, x.ser, x.ep⟩]) p.ck := fun {r R} hr hi => by
          have hi2 := hi.lease f4 (f5 r)
          by_cases q : x.reg = r
          · refine hi2.answer rfl (hi.ser x hx q) (Int.le_trans (hi.eps x hx q) f4) (fun h1 h2 h3 => ?_)
            have e0 : (Op.renewC p.l x.reg x.ep).2 = 0 := by by_cases z : (Op.renewC p.l x.reg x.ep).2 = 0; exact z; simp [z] at h1
            refine ⟨by rw [← q]; exact f6 e0 _ (hi.sent h2).2.2.1, fun z hz hz2 => ?_⟩
            obtain ⟨g1, g2⟩ := hi.quest x hx q hbk hk2 h2 h3
            have := hi.one z hz hz2 g2
            simp only
            omega
          · exact hi2.other q
        refine INV.less (p := PL.lay p _ _) ⟨each (.inl rfl) h.i0, each (.inr rfl) h.i1, fun z hz => ?_, f1, f2, f3, h.ck0⟩ (hsub _)
        rcases List.mem_append.1 hz with hz | hz
        · exact h.regs z hz
        · rw [List.mem_singleton] at hz; subst hz; exact hreg
      · rename_i hk2
        have hend : isEnd x x.reg := ⟨rfl, hbk, hk1, hk2⟩
        split
        · obtain ⟨f1, f2, f3, f4, f5⟩ := release_fact (r0 := x.reg) (e := x.ep) h.okl h.clk h.ck0 h.solo
          refine INV.less (p := ⟨p.r0, p.r1, (Op.releaseC p.l x.reg x.ep).1, p.bag, p.ck⟩) ?_ hs
          by_cases hcl : Op.claimC p.l x.reg x.ep = 0
          · exact ⟨end_fact hcl h.i0 f4 hx rfl hend rfl, end_fact hcl h.i1 f4 hx rfl hend rfl, h.regs, f1, f2, f3, h.ck0⟩
          · rw [f5 hcl]; exact h
        · obtain ⟨f1, f2, f3, f4, f5⟩ := trans_fact (r0 := x.reg) (e := x.ep) (d := 1 - x.reg) h.okl h.clk h.ck0 hb h.solo
          refine INV.less (p := ⟨p.r0, p.r1, (Op.transC p.l x.reg x.ep (1 - x.reg)).1, p.bag, p.ck⟩) ?_ hs
          by_cases hcl : Op.claimC p.l x.reg x.ep = 0
          · exact ⟨end_fact hcl h.i0 f4 hx rfl hend rfl, end_fact hcl h.i1 f4 hx rfl hend rfl, h.regs, f1, f2, f3, h.ck0⟩
          · rw [f5 hcl]; exact h
end Go.Proofs.Ytegffdmlkbdcdaa
