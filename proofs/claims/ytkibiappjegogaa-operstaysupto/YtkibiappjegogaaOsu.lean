/-
  Step of any operator of a graph without a fault: what may be kept stays so; what goes out goes to a port that there is. The conditions: lengths, numbers of their types.
-/
import Derived.Test.YtkibiappjegogaaOky
import Derived.Test.YtkibiappjegogaaGle
import Derived.Test.YtkibiappjegogaaGar
namespace Go.Proofs.Ytkibiappjegogaa
open Go.RowKit

theorem keysOK_count {kd ar : Int} {ks : List KS} (hk : keepsC kd = true) (har : I6 ar) (h : keysOK kd ar ks) : ∀ x ∈ ks, I6 x.cnt := by
  intro x hx
  have h1 := ((keysOK_iff hk).1 h).2 x hx
  unfold cntOK at h1
  unfold I6 at har ⊢
  split at h1 <;> omega
theorem rest_in {ky ar : Int} (h2 : 2 ≤ ar) : 0 ≤ restC ky ar ∧ restC ky ar < ar := restC_bd (by omega)
theorem pass_port {kd fn ar ky vl : Int} (hp : kd ≠ 9 → 1 ≤ Op.portsC kd ar) : ∀ x ∈ passC kd fn ar ky vl, 0 ≤ x.port ∧ x.port < Op.portsC kd ar := by
  intro x hx
  unfold passC at hx
  by_cases c : passKinds kd = true
  · rw [if_pos c] at hx
    have h9 : kd ≠ 9 := by rintro rfl; simp [passKinds] at c
    have := hp h9
    split at hx
    · simp only [List.mem_singleton] at hx
      rw [hx]
      show (0 : Int) ≤ 0 ∧ (0 : Int) < _
      omega
    · cases hx
  · rw [if_neg c] at hx
    by_cases h7 : kd = 7
    · rw [if_pos h7] at hx
      have h1 := hp (by omega)
      simp only [List.mem_singleton] at hx
      rw [hx]
      subst h7
      have h2 : 2 ≤ ar ∧ ar ≤ 4 := by
        unfold Op.portsC at h1
        rw [if_pos rfl] at h1
        split at h1
        · assumption
        · omega
      have e : Op.portsC 7 ar = ar := by unfold Op.portsC; rw [if_pos rfl, if_pos h2]
      rw [e]
      exact rest_in h2.1
    · rw [if_neg h7] at hx
      cases hx
theorem keeps_port {kd ar : Int} (hk : keepsC kd = true) (hp : kd ≠ 9 → 1 ≤ Op.portsC kd ar) : 0 < Op.portsC kd ar := by
  unfold keepsC at hk
  have h9 : kd ≠ 9 := by rintro rfl; simp at hk
  have := hp h9
  omega
theorem stepK_len {kd fn ar ky vl : Int} {ks : List KS} {i : Nat} {fd : Bool} (hf : Found1 ks ky i fd) : (stepK kd fn ar ks ky vl i fd).length ≤ ks.length + 1 := by
  have := hf.le
  unfold stepK
  split <;> split <;> simp <;> omega
theorem step_any {W : World} {kd pt fn ar tn ky vl : Int} {ip p : Option Addr} {n0 ic n c : Nat} {ks : List KS} (h : KRow W p c ks) (hn : ks.length = n) (hb : n ≤ 1048576) (hok : keysOK kd ar ks) (hky : I6 ky) (hvl : I6 vl) (har : I6 ar) (hp : kd ≠ 9 → 1 ≤ Op.portsC kd ar) :
    Calls Try.prog 9 #[.agg #[.int .i64 kd, .int .i64 pt, .int .i64 fn, .int .i64 ar, .slice ip n0 ic], .agg #[.slice p n c, .int .i64 tn], .agg #[.int .i64 ky, .int .i64 vl]] W fun e w' => ∃ (pk : Option Addr) (ck K : Nat) (po : Option Addr) (co N : Nat) (ks' : List KS) (ps : List PU), e = .returned (.tuple #[.agg #[.slice pk K ck, .int .i64 tn], .slice po N co]) ∧ ks'.length = K ∧ K ≤ n + 1 ∧ keysOK kd ar ks' ∧ ps.length = N ∧ (∀ x ∈ ps, 0 ≤ x.port ∧ x.port < Op.portsC kd ar) ∧ w'.ownsRow W.heap.size 51 3 (.slice pk K ck) K (ks'.flatMap KS.cells) ∧ w'.ownsRow W.heap.size 43 3 (.slice po N co) N (ps.flatMap PU.cells) ∧ Below W.heap.size W w' := by
  by_cases hk : keepsC kd = true
  · refine (step_keeps hk h hn hb (keysOK_count hk har hok)).mono ?_
    rintro e w' ⟨i, fd, pk, ck, K, po, co, N, hf, he, h1, h2, h3, h4, h5⟩
    have h6 := stepK_len (kd := kd) (fn := fn) (ar := ar) (vl := vl) hf
    exact ⟨pk, ck, K, po, co, N, _, _, he, h1, by omega, (keysOK_iff hk).2 (stepK_ok hk ((keysOK_iff hk).1 hok) hf), h2, fun x hx => by rw [outK_port x hx]; exact ⟨Int.le_refl _, keeps_port hk hp⟩, h3, h4, h5⟩
  · have hk' : keepsC kd = false := by simpa using hk
    refine (step_pass hk' h hn (by omega) hky hvl har).mono ?_
    rintro e w' ⟨pk, ck, po, co, N, he, h2, h3, h4, h5⟩
    exact ⟨pk, ck, n, po, co, N, ks, _, he, hn, by omega, hok, h2, pass_port hp, h3, h4, h5⟩
end Go.Proofs.Ytkibiappjegogaa
