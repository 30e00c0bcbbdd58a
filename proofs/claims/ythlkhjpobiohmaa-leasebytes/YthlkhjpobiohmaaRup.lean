/-
  What the methods of the reference's Unpacker do to one that Open made, over any world, in which nothing but the unpacker turns; and pack's Flag. The condition: the unpacker's bytes read as bytes.
-/
import Derived.Test.YthlkhjpobiohmaaUnp
namespace Go.Proofs.Ythlkhjpobiohmaa
open Go.RowKit

/-- The reference's unpacker in block bw: its rest v, of the bytes l, and its error; a rest that holds bytes lies neither there nor in block bx. -/
structure RUnp (bx : Nat → Prop) (w : World) (bw : Nat) (v : Value) (l : List Int) (e : Int) : Prop where
  block : w.heap[bw]? = some (.cells #[v, .int .i64 e] 74 (0, 0))
  row : Row .u8 w v l
  apart : 0 < l.length → v.ownBlock ≠ some bw ∧ ∀ k, v.ownBlock = some k → ¬ bx k
  u8 : U8 l
  err : e ≠ 0 → l = []

theorem RUnp.c0 {w : World} {bw : Nat} {bx : Nat → Prop} {v : Value} {l : List Int} {e : Int} (h : RUnp bx w bw v l e) : w.cell? ⟨bw, 0, none⟩ = some v := by simp [World.cell?, h.block]
theorem RUnp.c1 {w : World} {bw : Nat} {bx : Nat → Prop} {v : Value} {l : List Int} {e : Int} (h : RUnp bx w bw v l e) : w.cell? ⟨bw, 1, none⟩ = some (.int .i64 e) := by simp [World.cell?, h.block]
theorem RUnp.fz {w : World} {bw : Nat} {bx : Nat → Prop} {v : Value} {l : List Int} {e : Int} (h : RUnp bx w bw v l e) (o : Nat) : w.frozen? ⟨bw, o, none⟩ = false := by simp [World.frozen?, h.block]
theorem RUnp.below {w w' : World} {bw : Nat} {bx : Nat → Prop} {v : Value} {l : List Int} {e : Int} (h : RUnp bx w bw v l e) (hb : Below w.heap.size w w') : RUnp bx w' bw v l e :=
  ⟨by rw [hb.block bw (Array.getElem?_eq_some_iff.1 h.block).1]; exact h.block, h.row.below hb, h.apart, h.u8, h.err⟩
theorem RUnp.cap {w : World} {bw n cap : Nat} {bx : Nat → Prop} {p : Option Addr} {l : List Int} {e : Int} (h : RUnp bx w bw (.slice p n cap) l e) : n ≤ cap ∧ cap ≤ 9223372036854775807 := by
  obtain ⟨p', cap', he, h1, h2, _⟩ := h.row
  simp only [Value.slice.injEq] at he
  omega

/-- A slice that holds bytes elsewhere reads as it did. -/
theorem Row.keptIf {k : IntKind} {w w' : World} {v : Value} {l : List Int} {b : Nat} (h : Row k w v l) (hg : w.grownBy w' (some b)) (hne : 0 < l.length → v.ownBlock ≠ some b) : Row k w' v l := by
  rcases Nat.eq_zero_or_pos l.length with h0 | h0
  · obtain ⟨p, cap, rfl, h1, h2, h3, h4⟩ := h
    exact ⟨p, cap, rfl, h1, h2, h3, fun hp => by omega⟩
  · exact h.kept hg (.inr (hne h0))

theorem runp_set {w : World} {bw : Nat} {bx : Nat → Prop} {v v' : Value} {l l' : List Int} (h : RUnp bx w bw v l 0) (hr : Row .u8 w v' l') (ha : 0 < l'.length → v'.ownBlock ≠ some bw ∧ ∀ k, v'.ownBlock = some k → ¬ bx k) (hu : U8 l') : RUnp bx (w.setCell ⟨bw, 0, none⟩ v') bw v' l' 0 :=
  ⟨by rw [set_block h.block 0 v']; rfl, hr.keptIf (set_grown _ _ _ _) (fun hp => (ha hp).1), ha, hu, fun h => absurd rfl h⟩

set_option maxHeartbeats 400000 in
theorem rclose_any {w : World} {bw : Nat} {bx : Nat → Prop} {v : Value} {l : List Int} {e : Int} (h : RUnp bx w bw v l e) :
    Calls Try.prog 47 #[.pointer (some ⟨bw, 0, none⟩)] w fun r w' => r = .returned (.int .i64 (closes l e)) ∧ w' = w := by
  have c0 := h.c0
  have c1 := h.c1
  obtain ⟨p, cap, rfl, g1, g2, g3, g4⟩ := h.row
  clear h g3 g4
  by_cases he : e = 0
  · subst he
    by_cases hl : 0 < l.length
    · have hc : Hid (closes l 0 = 12) := by show closes l 0 = 12; unfold closes; rw [if_pos rfl, if_neg (by rintro rfl; simp at hl)]
      go_enter Try.func47, Try.ntmps47
      go_wp2
      go_ret
      exact ⟨by rw [hc.out]; rfl, rfl⟩
    · have hc : Hid (closes l 0 = 0) := by show closes l 0 = 0; unfold closes; rw [if_pos rfl, if_pos (List.eq_nil_of_length_eq_zero (by omega))]
      go_enter Try.func47, Try.ntmps47
      go_wp2
      go_ret
      exact ⟨by rw [hc.out]; rfl, rfl⟩
  · have hc : Hid (closes l e = e) := by show closes l e = e; unfold closes; rw [if_neg he]
    have hn : (e == 0) = false := by simpa using he
    clear he
    go_enter Try.func47, Try.ntmps47
    go_wp2
    go_ret
    exact ⟨by rw [hc.out]; rfl, rfl⟩

set_option maxHeartbeats 400000 in
theorem rspoil_any {w : World} {bw : Nat} {bx : Nat → Prop} {v : Value} {l : List Int} {e x : Int} (h : RUnp bx w bw v l e) :
    Calls Try.prog 68 #[.pointer (some ⟨bw, 0, none⟩), .int .i64 x] w fun r w' => r = .returned (.tuple #[]) ∧ w.grownBy w' (some bw) ∧ ∃ v', RUnp bx w' bw v' (spoils l e x).1 (spoils l e x).2 := by
  have H : Hid (RUnp bx w bw v l e) := h
  have c0 := h.c0
  have c1 := h.c1
  have f0 := h.fz 0
  have f1 := h.fz 1
  clear h
  by_cases he : e = 0
  · subst he
    by_cases hx : x = 0
    · subst hx
      have HS : Hid (spoils l 0 0 = (l, 0)) := by show spoils l 0 0 = _; unfold spoils; rw [if_pos (.inl rfl)]
      go_enter Try.func68, Try.ntmps68
      go_wp2
      go_end0
      refine ⟨rfl, set_grown _ _ _ _, v, ?_⟩
      rw [HS.out]
      exact ⟨by rw [set_block H.out.block 1 _]; rfl, H.out.row.keptIf (set_grown _ _ _ _) (fun hp => (H.out.apart hp).1), H.out.apart, H.out.u8, fun h => absurd rfl h⟩
    · have HS : Hid (spoils l 0 x = ([], x)) := spoils_new hx
      have hn : (x != 0) = true := by simpa using hx
      clear hx
      go_enter Try.func68, Try.ntmps68
      go_wp2
      go_end0
      refine ⟨rfl, grown_trans (set_grown _ _ _ _) (set_grown _ _ _ _), .slice none 0 0, ?_⟩
      rw [HS.out]
      exact ⟨by rw [set_block (set_block H.out.block 1 _) 0 _]; rfl, Row.nil _ _, fun h => by simp at h, by intro y hy; simp at hy, fun _ => rfl⟩
  · have hn : (e != 0) = true := by simpa using he
    have hn0 : (e == 0) = false := by simpa using he
    have HS : Hid (spoils l e x = (l, e)) := by show spoils l e x = _; unfold spoils; rw [if_pos (.inr he)]
    have HL : Hid (l = []) := H.out.err he
    clear he
    go_enter Try.func68, Try.ntmps68
    go_wp2
    go_end0
    refine ⟨rfl, set_grown _ _ _ _, .slice none 0 0, ?_⟩
    rw [HS.out]
    have hl := HL.out
    subst hl
    exact ⟨by rw [set_block H.out.block 0 _]; rfl, Row.nil _ _, fun h => by simp at h, by intro y hy; simp at hy, fun _ => rfl⟩

theorem rfirst_at {v : Value} {l : List Int} {w : World} {n er : Int} {k : Nat} (hv : Row .u8 w v l) (hu : U8 l) (hf : first l = (n, k, er)) :
    Calls Try.prog 67 #[v] w fun e w' => e = .returned (.tuple #[.int .i64 n, .int .i64 (k : Int), .int .i64 er]) ∧ w' = w := by
  refine (rfirst_any hv hu).mono ?_
  rintro e w' ⟨rfl, rfl⟩
  rw [hf]
  exact ⟨rfl, rfl⟩

set_option maxHeartbeats 1000000 in
theorem ruint_any {w : World} {bw : Nat} {bx : Nat → Prop} {v : Value} {l : List Int} {e least most : Int} (h : RUnp bx w bw v l e) :
    Calls Try.prog 61 #[.pointer (some ⟨bw, 0, none⟩), .int .i64 least, .int .i64 most] w fun r w' =>
      r = .returned (.int .i64 (reads l e least most).1) ∧ w.grownBy w' (some bw) ∧ ∃ v', RUnp bx w' bw v' (reads l e least most).2.1 (reads l e least most).2.2 := by
  have H : Hid (RUnp bx w bw v l e) := h
  have c0 := h.c0
  have c1 := h.c1
  have f0 := h.fz 0
  have ff := first_facts h.u8
  obtain ⟨p, cap, rfl, g1, g2, g3, g4⟩ := h.row
  clear h g3 g4
  by_cases he : e = 0
  · subst he
    obtain ⟨n, k, er, hf⟩ : ∃ n k er, first l = (n, k, er) := ⟨_, _, _, rfl⟩
    rw [hf] at ff
    simp only at ff
    have HF : Hid (first l = (n, k, er)) := hf
    by_cases h0 : er = 0
    · have hk : 0 < k ∧ k ≤ l.length := by omega
      subst h0
      clear ff hf
      by_cases ho : n < least ∨ most < n
      · have HR : Hid (reads l 0 least most = (0, [], 11)) := reads_out HF.out rfl ho
        have HS : Hid (spoils l 0 11 = ([], 11)) := spoils_new (by decide)
        rcases (show n < least ∨ (¬ n < least ∧ most < n) by omega) with ho' | ⟨ho1, ho2⟩
        all_goals
          clear ho
          go_enter Try.func61, Try.ntmps61
          go_wp2_with (first
            | (go_at_call 67; refine (rfirst_at H.out.row H.out.u8 HF.out).mono ?_; rintro r w' ⟨rfl, rfl⟩)
            | (go_at_call 68; refine (rspoil_any H.out).mono ?_; rintro r w1 ⟨rfl, hg, v1, hu1⟩))
          go_ret
          exact ⟨by rw [HR.out]; rfl, hg, v1, by rw [HR.out]; rw [HS.out] at hu1; exact hu1⟩
      · have HR : Hid (reads l 0 least most = (n, l.drop k, 0)) := reads_in HF.out rfl ho
        have h1 : ¬ n < least := fun h => ho (.inl h)
        have h2 : ¬ most < n := fun h => ho (.inr h)
        clear ho
        go_enter Try.func61, Try.ntmps61
        go_wp2_with (first
          | (go_at_call 67; refine (rfirst_at H.out.row H.out.u8 HF.out).mono ?_; rintro r w' ⟨rfl, rfl⟩)
          | (go_at_call 68; refine (rspoil_any H.out).mono ?_; rintro r w1 ⟨rfl, hg, v1, hu1⟩))
        · go_ret
          refine ⟨by rw [HR.out]; rfl, set_grown _ _ _ _, .slice p (l.length - k) 0, ?_⟩
          rw [HR.out]
          exact runp_set H.out (H.out.row.cutEnd hk.2 ‹cap = k›) (fun hp => by rw [block_same p _ _ l.length cap]; exact H.out.apart (by rw [List.length_drop] at hp; omega)) (H.out.u8.drop k)
        · go_ret
          refine ⟨by rw [HR.out]; rfl, set_grown _ _ _ _, .slice (Option.map (fun x => x.add k) p) (l.length - k) (cap - k), ?_⟩
          rw [HR.out]
          exact runp_set H.out (H.out.row.cut hk.2) (fun hp => by rw [block_add p _ _ l.length cap k]; exact H.out.apart (by rw [List.length_drop] at hp; omega)) (H.out.u8.drop k)
    · have h0n : (er != 0) = true := by simpa using h0
      have h0e : (er == 0) = false := by simpa using h0
      have HR : Hid (reads l 0 least most = (0, [], er)) := reads_err HF.out h0 least most
      have HS : Hid (spoils l 0 er = ([], er)) := spoils_new h0
      clear ff hf h0
      go_enter Try.func61, Try.ntmps61
      go_wp2_with (first
        | (go_at_call 67; refine (rfirst_at H.out.row H.out.u8 HF.out).mono ?_; rintro r w' ⟨rfl, rfl⟩)
        | (go_at_call 68; refine (rspoil_any H.out).mono ?_; rintro r w1 ⟨rfl, hg, v1, hu1⟩))
      go_ret
      exact ⟨by rw [HR.out]; rfl, hg, v1, by rw [HR.out]; rw [HS.out] at hu1; exact hu1⟩
  · have hn : (e != 0) = true := by simpa using he
    have HR : Hid (reads l e least most = (0, l, e)) := by show reads l e least most = _; unfold reads; rw [if_pos he]
    clear he ff
    go_enter Try.func61, Try.ntmps61
    go_wp2_with fail
    go_ret
    exact ⟨by rw [HR.out]; rfl, World.grownBy.refl _ _, _, by rw [HR.out]; exact H.out⟩

theorem ruint_at {w : World} {bw : Nat} {bx : Nat → Prop} {v : Value} {l l1 : List Int} {e e1 least most n : Int} (h : RUnp bx w bw v l e) (hr : reads l e least most = (n, l1, e1)) :
    Calls Try.prog 61 #[.pointer (some ⟨bw, 0, none⟩), .int .i64 least, .int .i64 most] w fun r w' =>
      r = .returned (.int .i64 n) ∧ w.grownBy w' (some bw) ∧ ∃ p cap, RUnp bx w' bw (.slice p l1.length cap) l1 e1 := by
  refine (ruint_any h).mono ?_
  rintro r w' ⟨rfl, hg, v', hu⟩
  rw [hr] at hu ⊢
  obtain ⟨p, cap, rfl, _⟩ := id hu.row
  exact ⟨rfl, hg, p, cap, hu⟩

end Go.Proofs.Ythlkhjpobiohmaa
