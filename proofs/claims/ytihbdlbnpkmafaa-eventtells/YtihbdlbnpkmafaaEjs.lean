/-
  The epochs, as they lie; parted of Epochs. The conditions: lengths.
-/
import Derived.Test.YtihbdlbnpkmafaaEpt
import Derived.Test.YtihbdlbnpkmafaaEtl
namespace Go.Proofs.Ytihbdlbnpkmafaa
open Go.RowKit Go.Shelf

theorem epS_join : ∀ (ks : List EV) (s : List RC), (epS ks s).flatMap (·.2) = s ++ rcsOf ks
  | [], s => by
    unfold epS rcsOf
    by_cases h : s.length = 0
    · rw [if_pos h, List.eq_nil_of_length_eq_zero h]; rfl
    · rw [if_neg h]; simp
  | e :: ks, s => by
    unfold epS
    by_cases h : isR e = true
    · rw [if_pos h, epS_join ks (s ++ [e.rc])]
      unfold rcsOf
      rw [List.filter_cons_of_pos h]
      simp
    · rw [if_neg h, List.flatMap_cons, epS_join ks []]
      unfold rcsOf
      rw [List.filter_cons_of_neg h]
      simp
theorem epochs_join (ks : List EV) : (epochsL ks).flatMap (·.2) = rcsOf ks := epS_join ks []
theorem epS_len : ∀ (ks : List EV) (s : List RC), (epS ks s).length ≤ ks.length + s.length
  | [], s => by
    unfold epS
    by_cases h : s.length = 0
    · rw [if_pos h]; simp
    · rw [if_neg h]; simp; omega
  | e :: ks, s => by
    unfold epS
    by_cases h : isR e = true
    · rw [if_pos h]
      have := epS_len ks (s ++ [e.rc])
      simp at this ⊢
      omega
    · rw [if_neg h]
      have := epS_len ks []
      simp at this ⊢
      omega
theorem epochs_len (ks : List EV) : (epochsL ks).length ≤ ks.length := epS_len ks []
theorem rcs_len' (ks : List EV) : (rcsOf ks).length ≤ ks.length := by
  unfold rcsOf
  rw [List.length_map]
  exact List.length_filter_le _ _
theorem epoch_len {ks : List EV} {e : Ep} (h : e ∈ epochsL ks) : e.2.length ≤ ks.length := by
  have h1 : e.2.length ≤ ((epochsL ks).flatMap (·.2)).length := by
    obtain ⟨a, b, hab⟩ := List.append_of_mem h
    rw [hab]
    simp
    omega
  rw [epochs_join] at h1
  exact Nat.le_trans h1 (rcs_len' ks)
/-- Epochs, as they lie. -/
def EpsAt (W : World) (p : Option Addr) (cap : Nat) (eps : List Ep) : Prop := eps.length ≤ cap ∧ cap ≤ 9223372036854775807 ∧ ∀ (j : Nat) (e : Ep), eps[j]? = some e → ∃ g o pj cj, p = some ⟨g, o, none⟩ ∧ W.cell? ⟨g, o + j * 2, none⟩ = some (.int .i64 e.1) ∧ W.cell? ⟨g, o + j * 2 + 1, none⟩ = some (.slice pj e.2.length cj) ∧ RRow W pj cj e.2
theorem EpsAt.later {W W' : World} {p : Option Addr} {cap : Nat} {eps : List Ep} (h : EpsAt W p cap eps) (hb : Below W.heap.size W W') : EpsAt W' p cap eps :=
  ⟨h.1, h.2.1, fun j e he => by
    obtain ⟨g, o, pj, cj, h1, h2, h3, h4⟩ := h.2.2 j e he
    exact ⟨g, o, pj, cj, h1, cell_later hb h2, cell_later hb h3, RRow.later h4 hb⟩⟩
theorem EpsAt.of_own {W : World} {base b2 n cap : Nat} {p : Option Addr} {eps : List Ep} {vs : List Value} {S : Nat → Prop} (h : W.ownsRow base 56 2 (.slice p n cap) n (paCells eps vs)) (hp : PaL b2 S W eps vs) (hn : eps.length = n) : EpsAt W p cap eps := by
  have hz : (eps.zip vs).length = n := by rw [List.length_zip, hp.1, hn]; omega
  obtain ⟨h1, h2, _, h4⟩ := own_list (os := eps.zip vs) (cells := fun x => [.int .i64 x.1.1, x.2]) (fun o _ => rfl) hz h
  refine ⟨by omega, h2, fun j e he => ?_⟩
  have hj := (List.getElem?_eq_some_iff.1 he).1
  have hj2 : j < vs.length := by rw [hp.1]; exact hj
  obtain ⟨g, o, e1, hc⟩ := h4 j (by omega)
  have hx : (eps.zip vs)[j]! = (e, vs[j]) := by
    rw [getElem!_pos _ j (by omega), List.getElem_zip]
    congr 1
    rw [List.getElem?_eq_getElem hj] at he
    exact Option.some.inj he
  rw [hx] at hc
  obtain ⟨pj, cj, ev, hr, _⟩ := hp.2 j e vs[j] he (List.getElem?_eq_getElem hj2)
  have c0 := hc 0 (by decide)
  have c1 := hc 1 (by decide)
  rw [ev] at c1
  exact ⟨g, o, pj, cj, e1, c0, c1, LRow.of_own RC.len rfl hr⟩
theorem parted_any {W : World} {eb kb L cap : Nat} {p : Option Addr} {es : List EV} (h : KRd eb kb L cap p es W) (hL : es.length = L) (hb : L * 32 ≤ 140737488351232) {M : Nat} (hM : (epochsL (knownL es)).length = M) :
    Calls Try.prog 38 #[.func (.func 57) #[] #[.pointer (some ⟨eb, 0, none⟩)]] W fun e w' => ∃ p c, e = .returned (.slice p M c) ∧ EpsAt w' p c (epochsL (knownL es)) ∧ Below W.heap.size W w' := by
  have hk : (knownL es).length ≤ L := by rw [← hL]; unfold knownL; exact List.length_filter_le _ _
  refine (callsIn_wide.1 (parted_in 5 (Nat.le_refl _) (Rd := KRd eb kb L cap p es) (fun q hq => epochs_tells q hq hL (by omega)) enEpochs (fun X hX => h.later hX) (by have := epochs_len (knownL es); omega) (fun e he => by have := epoch_len he; omega) hM)).mono ?_
  rintro _ w' ⟨p, c, vs, rfl, h1, h2, h3⟩
  exact ⟨p, c, rfl, EpsAt.of_own h1 h2 hM, h3⟩
end Go.Proofs.Ytihbdlbnpkmafaa
