/-
  Numbers and truths of leases, read by the program and by the reference; what bytes say, plainly. The conditions: that the unpackers are such that Open made.
-/
import Derived.Test.YthlkhjpobiohmaaUnp
import Derived.Test.YthlkhjpobiohmaaRup
import Derived.Test.YthlkhjpobiohmaaMth
import Derived.Test.YthlkhjpobiohmaaPut
import Derived.Test.YthlkhjpobiohmaaRef
import Derived.Test.YthlkhjpobiohmaaLrb
namespace Go.Proofs.Ythlkhjpobiohmaa
open Go.RowKit

theorem number_at {w : World} {bu : Nat} {bx : Nat → Prop} {v : Value} {l l1 : List Int} {e e1 n : Int} (h : UnpX bx w bu v l e) (hr : reads l e (-9223372036854775808) 9223372036854775807 = (n, l1, e1)) :
    Calls Try.prog 41 #[.pointer (some ⟨bu, 0, none⟩)] w fun r w' => r = .returned (.int .i64 n) ∧ w.grownBy w' (some bu) ∧ ∃ p cap, UnpX bx w' bu (.slice p l1.length cap) l1 e1 := by
  have H := hide h
  have HR := hide hr
  clear h hr
  go_enter Try.func41, Try.ntmps41
  go_wp2_with fail
  refine (uint_at H.out HR.out).mono ?_
  rintro _ w1 ⟨rfl, hg, hu⟩
  have HG := hide hg
  have HU := hide hu
  clear hg hu
  go_wp2
  go_ret
  exact ⟨rfl, HG.out, HU.out⟩
theorem flag_at {w : World} {bu : Nat} {bx : Nat → Prop} {v : Value} {l l1 : List Int} {e e1 n : Int} (h : UnpX bx w bu v l e) (hr : reads l e 0 1 = (n, l1, e1)) :
    Calls Try.prog 42 #[.pointer (some ⟨bu, 0, none⟩)] w fun r w' => r = .returned (.bool (n == 1)) ∧ w.grownBy w' (some bu) ∧ ∃ p cap, UnpX bx w' bu (.slice p l1.length cap) l1 e1 := by
  have H := hide h
  have HR := hide hr
  clear h hr
  go_enter Try.func42, Try.ntmps42
  go_wp2_with fail
  refine (uint_at H.out HR.out).mono ?_
  rintro _ w1 ⟨rfl, hg, hu⟩
  have HG := hide hg
  have HU := hide hu
  clear hg hu
  go_wp2
  go_ret
  exact ⟨rfl, HG.out, HU.out⟩
theorem wide_at {w : World} {bu : Nat} {bx : Nat → Prop} {v : Value} {l l1 : List Int} {e e1 n : Int} (h : RUnp bx w bu v l e) (hr : reads l e (-9223372036854775808) 9223372036854775807 = (n, l1, e1)) :
    Calls Try.prog 45 #[.pointer (some ⟨bu, 0, none⟩)] w fun r w' => r = .returned (.int .i64 n) ∧ w.grownBy w' (some bu) ∧ ∃ p cap, RUnp bx w' bu (.slice p l1.length cap) l1 e1 := by
  have H := hide h
  have HR := hide hr
  clear h hr
  go_enter Try.func45, Try.ntmps45
  go_wp2_with fail
  refine (ruint_at H.out HR.out).mono ?_
  rintro _ w1 ⟨rfl, hg, hu⟩
  have HG := hide hg
  have HU := hide hu
  clear hg hu
  go_wp2
  go_ret
  exact ⟨rfl, HG.out, HU.out⟩
theorem rflag_at {w : World} {bu : Nat} {bx : Nat → Prop} {v : Value} {l l1 : List Int} {e e1 n : Int} (h : RUnp bx w bu v l e) (hr : reads l e 0 1 = (n, l1, e1)) :
    Calls Try.prog 46 #[.pointer (some ⟨bu, 0, none⟩)] w fun r w' => r = .returned (.bool (n == 1)) ∧ w.grownBy w' (some bu) ∧ ∃ p cap, RUnp bx w' bu (.slice p l1.length cap) l1 e1 := by
  have H := hide h
  have HR := hide hr
  clear h hr
  go_enter Try.func46, Try.ntmps46
  go_wp2_with fail
  refine (ruint_at H.out HR.out).mono ?_
  rintro _ w1 ⟨rfl, hg, hu⟩
  have HG := hide hg
  have HU := hide hu
  clear hg hu
  go_wp2
  go_ret
  exact ⟨rfl, HG.out, HU.out⟩
/-- What is read of bytes, with what is left and the error. -/
def rdL (b : List Int) : LE × List Int × Int :=
  let r1 := reads b 0 (-9223372036854775808) 9223372036854775807
  let r2 := reads r1.2.1 r1.2.2 (-9223372036854775808) 9223372036854775807
  let r3 := reads r2.2.1 r2.2.2 (-9223372036854775808) 9223372036854775807
  let r4 := reads r3.2.1 r3.2.2 (-9223372036854775808) 9223372036854775807
  let r5 := reads r4.2.1 r4.2.2 (-9223372036854775808) 9223372036854775807
  let r6 := reads r5.2.1 r5.2.2 0 1
  (⟨r1.1, r2.1, r3.1, r4.1, r5.1, r6.1 == 1⟩, r6.2.1, r6.2.2)
/-- The lease of bytes, or what keeps them from it. -/
def parseL (b : List Int) : LE × Int :=
  if closes (rdL b).2.1 (rdL b).2.2 = 0 then (if okL (rdL b).1 then ((rdL b).1, 0) else (⟨0, 0, 0, 0, 0, false⟩, 1)) else (⟨0, 0, 0, 0, 0, false⟩, closes (rdL b).2.1 (rdL b).2.2)
/-- The numbers of a lease. -/
def numsL (l : LE) : List Int := [l.own, l.last, l.ep, l.clk, l.til, if l.solo = true then 1 else 0]
/-- A lease's bytes. -/
def bytesL (l : LE) : List Int := if okL l then forms (numsL l) else []
theorem rd_back {l : LE} (h : okL l) : rdL (bytesL l) = (l, [], 0) := by
  unfold bytesL
  rw [if_pos h]
  unfold okL at h
  obtain ⟨own, last, ep, clk, til, solo⟩ := l
  simp only at h
  unfold numsL rdL
  simp only [forms_cons, forms_nil]
  have e1 : ∀ s, reads (form (zz own) ++ s) 0 (-9223372036854775808) 9223372036854775807 = (own, s, 0) := fun s => reads_form s (by omega) (by omega) (by omega) (by omega)
  have e2 : ∀ s, reads (form (zz last) ++ s) 0 (-9223372036854775808) 9223372036854775807 = (last, s, 0) := fun s => reads_form s (by omega) (by omega) (by omega) (by omega)
  have e3 : ∀ s, reads (form (zz ep) ++ s) 0 (-9223372036854775808) 9223372036854775807 = (ep, s, 0) := fun s => reads_form s (by omega) (by omega) (by omega) (by omega)
  have e4 : ∀ s, reads (form (zz clk) ++ s) 0 (-9223372036854775808) 9223372036854775807 = (clk, s, 0) := fun s => reads_form s (by omega) (by omega) (by omega) (by omega)
  have e5 : ∀ s, reads (form (zz til) ++ s) 0 (-9223372036854775808) 9223372036854775807 = (til, s, 0) := fun s => reads_form s (by omega) (by omega) (by omega) (by omega)
  have e6 : ∀ s, reads (form (zz (if solo = true then 1 else 0)) ++ s) 0 0 1 = ((if solo = true then 1 else 0), s, 0) := fun s => by
    cases solo
    · exact reads_form s (by decide) (by decide) (by decide) (by decide)
    · exact reads_form s (by decide) (by decide) (by decide) (by decide)
  simp only [e1, e2, e3, e4, e5, e6]
  cases solo <;> rfl
theorem parse_back {l : LE} (h : okL l) : parseL (bytesL l) = (l, 0) := by
  unfold parseL
  rw [rd_back h]
  have hc : closes [] 0 = 0 := rfl
  rw [if_pos hc, if_pos h]
theorem bytesL_u8 (l : LE) : U8 (bytesL l) := by
  unfold bytesL
  split
  · exact forms_bd _
  · intro x hx; simp at hx
theorem numsL_i64 {l : LE} (h : okL l) : I64 (numsL l) := by
  unfold okL at h
  unfold numsL
  intro x hx
  simp only [List.mem_cons, List.not_mem_nil, or_false] at hx
  rcases hx with rfl | rfl | rfl | rfl | rfl | rfl
  · omega
  · omega
  · omega
  · omega
  · omega
  · split <;> omega
theorem bytesL_len (l : LE) : (bytesL l).length ≤ 60 := by
  unfold bytesL
  split
  · rename_i h
    have := forms_len (numsL l) (numsL_i64 h)
    have e : (numsL l).length = 6 := rfl
    omega
  · simp
end Go.Proofs.Ythlkhjpobiohmaa
