/-
 SinkFenced walked. The conditions: that the operations lie there; lengths.
-/
import Derived.Test.YtboofnkajjnmeaaSoa
namespace Go.Proofs.Ytboofnkajjnmeaa
open Go.RowKit Go.Maps Go.Shelf

theorem rais_max (s : SK) (e : Int) : (raisC s e).reg = max s.reg e := by
 unfold raisC
 split
 ·show e = _; omega
 ·omega
theorem pre_late {p : Int} {s : SK} {t : TX} (hm : mayC p t) (h : t.ep < s.reg) : preE p s t = 150 ∧ preS p s t = s := by
 unfold preE preS
 rw [if_pos hm, if_pos h, if_pos hm, if_pos h]
 exact ⟨rfl, rfl⟩
theorem com_late {s : SK} {e i : Int} (hp : posI e) (hi : posI i) (h : e < s.reg) : comE s e i = 150 ∧ comS s e i = s := by
 unfold comE comS
 rw [if_pos ⟨hp, hi⟩, if_pos h, if_pos ⟨hp, hi⟩, if_pos h]
 exact ⟨rfl, rfl⟩
theorem abo_late {s : SK} {e i : Int} (hp : posI e) (hi : posI i) (h : e < s.reg) : aboE s e i = 150 ∧ aboS s e i = s := by
 unfold aboE aboS
 rw [if_pos ⟨hp, hi⟩, if_pos h, if_pos ⟨hp, hi⟩, if_pos h]
 exact ⟨rfl, rfl⟩
theorem abo_len (s : SK) (e i : Int) : (aboS s e i).done.length ≤ s.done.length := by
 have hr := rais_done s e
 unfold aboS
 split
 ·split
  ·omega
  ·unfold aboS1
   split
   ·exact hr
   ·exact hr
 ·omega
theorem fen_len (s : SK) (e : Int) : (fenS s e).done.length ≤ s.done.length := by
 have hr := rais_done s e
 unfold fenS
 split
 ·exact hr
 ·omega
theorem SI.trans {B : Nat} {Z : World} {k4 k k' : PK} {w w' : World} (h : SI B Z k4 k w) (h2 : SI B w k k' w') : SI B Z k4 k' w' :=
 ⟨h2.ps, h2.sk.trans h.sk, h2.b.trans h.b, h.only.step h2.only h.blk, fun i hi => by
  rcases h2.blk i hi with h9 | h9
  ·exact h.blk i h9
  ·exact .inr (Nat.le_trans h.only.size h9)⟩
end Go.Proofs.Ytboofnkajjnmeaa
