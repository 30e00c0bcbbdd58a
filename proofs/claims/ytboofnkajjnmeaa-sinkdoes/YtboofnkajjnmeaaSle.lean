/-
  What was committed, done again: plainly.
-/
import Derived.Test.YtboofnkajjnmeaaSlc
namespace Go.Proofs.Ytboofnkajjnmeaa

theorem rais_done (s : SK) (e : Int) : (raisC s e).done.length ≤ s.done.length := by
  unfold raisC
  split <;> simp
theorem com_len (s : SK) (e i : Int) : (comS s e i).done.length ≤ s.done.length + 1 := by
  have hr := rais_done s e
  unfold comS
  split
  · split
    · omega
    · unfold comS1
      split
      · omega
      · split
        · split
          · show (insI i _).length ≤ _
            rw [insI_len]
            omega
          · omega
        · omega
  · omega
theorem pre_len (parts : Int) (s : SK) (t : TX) : (preS parts s t).done.length ≤ s.done.length := by
  have hr := rais_done s t.ep
  unfold preS
  split
  · split
    · omega
    · unfold preS1
      split
      · exact hr
      · split
        · exact hr
        · split
          · split
            · exact hr
            · exact hr
          · exact hr
  · omega
theorem vec_rais (s : SK) (e : Int) : (raisC s e).vec = s.vec := by
  unfold raisC
  split <;> rfl
end Go.Proofs.Ytboofnkajjnmeaa

/-
  Plain, Clone, Read of none.
-/
namespace Go.Proofs.Ytboofnkajjnmeaa
open Go.RowKit Go.Maps Go.Shelf

end Go.Proofs.Ytboofnkajjnmeaa
