/-
  What the methods of pack.Unpacker do to an unpacker that Open made, over any world, in which nothing but the unpacker turns. The condition: the unpacker's bytes read as bytes.
-/
import Derived.Test.YthlkhjpobiohmaaFst
import Derived.Test.YthlkhjpobiohmaaOnl
import Derived.OneCell
namespace Go.Proofs.Ythlkhjpobiohmaa
open Go.RowKit

/-- An unpacker that Open made, in block bu: its rest v, of the bytes l, and its error; the rest lies neither there nor in block bx. -/
structure UnpX (bx : Nat → Prop) (w : World) (bu : Nat) (v : Value) (l : List Int) (e : Int) : Prop where
  block : w.heap[bu]? = some (.cells #[.bool true, v, .int .i64 e] 72 (0, 0))
  row : Row .u8 w v l
  apart : v.ownBlock ≠ some bu ∧ ∀ k, v.ownBlock = some k → ¬ bx k
  u8 : U8 l
  err : e ≠ 0 → l = []

/-- The same where no other block is of interest. -/
abbrev Unp (w : World) (bu : Nat) (v : Value) (l : List Int) (e : Int) : Prop := UnpX (fun k => k = bu) w bu v l e
theorem UnpX.other {bx by' : Nat → Prop} {w : World} {bu : Nat} {v : Value} {l : List Int} {e : Int} (h : UnpX bx w bu v l e) (hb : ∀ k, v.ownBlock = some k → ¬ by' k) : UnpX by' w bu v l e :=
  ⟨h.block, h.row, ⟨h.apart.1, hb⟩, h.u8, h.err⟩

theorem UnpX.c0 {w : World} {bu : Nat} {bx : Nat → Prop} {v : Value} {l : List Int} {e : Int} (h : UnpX bx w bu v l e) : w.cell? ⟨bu, 0, none⟩ = some (.bool true) := by simp [World.cell?, h.block]
theorem UnpX.c1 {w : World} {bu : Nat} {bx : Nat → Prop} {v : Value} {l : List Int} {e : Int} (h : UnpX bx w bu v l e) : w.cell? ⟨bu, 1, none⟩ = some v := by simp [World.cell?, h.block]
theorem UnpX.c2 {w : World} {bu : Nat} {bx : Nat → Prop} {v : Value} {l : List Int} {e : Int} (h : UnpX bx w bu v l e) : w.cell? ⟨bu, 2, none⟩ = some (.int .i64 e) := by simp [World.cell?, h.block]
theorem UnpX.fz {w : World} {bu : Nat} {bx : Nat → Prop} {v : Value} {l : List Int} {e : Int} (h : UnpX bx w bu v l e) (o : Nat) : w.frozen? ⟨bu, o, none⟩ = false := by simp [World.frozen?, h.block]

set_option maxHeartbeats 400000 in
theorem err_any {w : World} {bu : Nat} {bx : Nat → Prop} {v : Value} {l : List Int} {e : Int} (h : UnpX bx w bu v l e) :
    Calls Try.prog 60 #[.pointer (some ⟨bu, 0, none⟩)] w fun r w' => r = .returned (.int .i64 e) ∧ w' = w := by
  have c0 := h.c0
  have c2 := h.c2
  clear h
  go_enter Try.func60, Try.ntmps60
  go_wp2
  go_ret
  exact ⟨rfl, rfl⟩

/-- What Close tells. -/
def closes (l : List Int) (e : Int) : Int := if e = 0 then (if l = [] then 0 else 12) else e

set_option maxHeartbeats 400000 in
theorem close_any {w : World} {bu : Nat} {bx : Nat → Prop} {v : Value} {l : List Int} {e : Int} (h : UnpX bx w bu v l e) :
    Calls Try.prog 43 #[.pointer (some ⟨bu, 0, none⟩)] w fun r w' => r = .returned (.int .i64 (closes l e)) ∧ w' = w := by
  have c1 := h.c1
  have H : Hid (UnpX bx w bu v l e) := h
  obtain ⟨p, cap, rfl, g1, g2, g3, g4⟩ := h.row
  clear h g3 g4
  by_cases he : e = 0
  · subst he
    by_cases hl : 0 < l.length
    · have hc : Hid (closes l 0 = 12) := by show closes l 0 = 12; unfold closes; rw [if_pos rfl, if_neg (by rintro rfl; simp at hl)]
      go_enter Try.func43, Try.ntmps43
      go_wp2_with (go_at_call 60; refine (err_any H.out).mono ?_; rintro r w' ⟨rfl, rfl⟩)
      go_ret
      exact ⟨by rw [hc.out]; rfl, rfl⟩
    · have hc : Hid (closes l 0 = 0) := by show closes l 0 = 0; unfold closes; rw [if_pos rfl, if_pos (List.eq_nil_of_length_eq_zero (by omega))]
      go_enter Try.func43, Try.ntmps43
      go_wp2_with (go_at_call 60; refine (err_any H.out).mono ?_; rintro r w' ⟨rfl, rfl⟩)
      go_ret
      exact ⟨by rw [hc.out]; rfl, rfl⟩
  · have hc : Hid (closes l e = e) := by show closes l e = e; unfold closes; rw [if_neg he]
    have hn : (e != 0) = true := by simpa using he
    clear he
    go_enter Try.func43, Try.ntmps43
    go_wp2_with (go_at_call 60; refine (err_any H.out).mono ?_; rintro r w' ⟨rfl, rfl⟩)
    go_ret
    exact ⟨by rw [hc.out]; rfl, rfl⟩

/- WHAT STORES INTO AN UNPACKER LEAVE. -/
theorem set_block {w : World} {b : Nat} {cs : Array Value} {t : TypeId} {f : Nat × Nat} (h : w.heap[b]? = some (.cells cs t f)) (o : Nat) (x : Value) : (w.setCell ⟨b, o, none⟩ x).heap[b]? = some (.cells (cs.setIfInBounds o x) t f) := by
  simp [World.setCell, Array.getElem?_modify, h]
theorem set_grown (w : World) (b o : Nat) (x : Value) : w.grownBy (w.setCell ⟨b, o, none⟩ x) (some b) :=
  ⟨rfl, rfl, rfl, by simp [World.setCell], fun k hk hne => Below.heap_setCell w ⟨b, o, none⟩ x k (by intro h; exact hne (by rw [h]))⟩

theorem grown_trans {w w1 w2 : World} {row : Option Nat} (h : w.grownBy w1 row) (k : w1.grownBy w2 row) : w.grownBy w2 row :=
  ⟨k.os.trans h.os, k.tape.trans h.tape, k.output.trans h.output, Nat.le_trans h.size k.size, fun i hi hne => (k.block i (Nat.lt_of_lt_of_le hi h.size) hne).trans (h.block i hi hne)⟩

theorem below_grown {w w' : World} (h : Below w.heap.size w w') (row : Option Nat) : w.grownBy w' row :=
  ⟨h.os, h.tape, h.output, h.size, fun k hk _ => h.block k hk⟩

/-- What Spoil makes of the rest and the error. -/
def spoils (l : List Int) (e x : Int) : List Int × Int := if x = 0 ∨ e ≠ 0 then (l, e) else ([], x)

set_option maxHeartbeats 400000 in
theorem spoil_any {w : World} {bu : Nat} {bx : Nat → Prop} {v : Value} {l : List Int} {e x : Int} (h : UnpX bx w bu v l e) :
    Calls Try.prog 66 #[.pointer (some ⟨bu, 0, none⟩), .int .i64 x] w fun r w' => r = .returned (.tuple #[]) ∧ w.grownBy w' (some bu) ∧ ∃ v', UnpX bx w' bu v' (spoils l e x).1 (spoils l e x).2 := by
  have H : Hid (UnpX bx w bu v l e) := h
  have c1 := h.c1
  have c2 := h.c2
  have f1 := h.fz 1
  have f2 := h.fz 2
  clear h
  by_cases hx : x = 0
  · subst hx
    have hs : spoils l e 0 = (l, e) := by unfold spoils; rw [if_pos (.inl rfl)]
    have HS : Hid (spoils l e 0 = (l, e)) := hs
    clear hs
    go_enter Try.func66, Try.ntmps66
    go_wp2_with (go_at_call 60; refine (err_any H.out).mono ?_; rintro r w' ⟨rfl, rfl⟩)
    all_goals refine bodyPost_ret (results_none rfl _ _ _) rfl ?_
    all_goals exact ⟨rfl, World.grownBy.refl _ _, v, by rw [HS.out]; exact H.out⟩
  · have hx8 : (x == 0) = false := by simpa using hx
    by_cases he : e = 0
    · subst he
      have HS : Hid (spoils l 0 x = ([], x)) := by show spoils l 0 x = _; unfold spoils; rw [if_neg (by simp [hx])]
      go_enter Try.func66, Try.ntmps66
      go_wp2_with (go_at_call 60; refine (err_any H.out).mono ?_; rintro r w' ⟨rfl, rfl⟩)
      go_end0
      refine ⟨rfl, grown_trans (set_grown _ _ _ _) (set_grown _ _ _ _), .slice none 0 0, ?_⟩
      rw [HS.out]
      exact ⟨by rw [set_block (set_block H.out.block 2 _) 1 _]; rfl, Row.nil _ _, by simp [Value.ownBlock], by intro y hy; simp at hy, fun _ => rfl⟩
    · have hn : (e != 0) = true := by simpa using he
      have HS : Hid (spoils l e x = (l, e)) := by show spoils l e x = _; unfold spoils; rw [if_pos (.inr he)]
      clear he
      go_enter Try.func66, Try.ntmps66
      go_wp2_with (go_at_call 60; refine (err_any H.out).mono ?_; rintro r w' ⟨rfl, rfl⟩)
      all_goals refine bodyPost_ret (results_none rfl _ _ _) rfl ?_
      all_goals exact ⟨rfl, World.grownBy.refl _ _, v, by rw [HS.out]; exact H.out⟩

/-- What Int reads: the number, the rest and the error. -/
def reads (l : List Int) (e least most : Int) : Int × List Int × Int :=
  if e ≠ 0 then (0, l, e) else if (first l).2.2 ≠ 0 then (0, [], (first l).2.2)
  else if (first l).1 < least ∨ most < (first l).1 then (0, [], 11) else ((first l).1, l.drop (first l).2.1, 0)

theorem first_facts {l : List Int} (hu : U8 l) : ((first l).2.2 = 0 ∧ 0 < (first l).2.1 ∧ (first l).2.1 ≤ l.length ∧ -9223372036854775808 ≤ (first l).1 ∧ (first l).1 ≤ 9223372036854775807) ∨
     ((first l).2.2 = 10 ∧ (first l).1 = 0 ∧ (first l).2.1 = 0) ∨ ((first l).2.2 = 11 ∧ (first l).1 = 0 ∧ (first l).2.1 = 0) := by
  have := firstR_facts l 0 0 (by decide) hu
  simpa [first] using this

theorem spoils_new {l : List Int} {x : Int} (hx : x ≠ 0) : spoils l 0 x = ([], x) := by unfold spoils; rw [if_neg (by simp [hx])]


theorem unp_set {w : World} {bu : Nat} {bx : Nat → Prop} {v v' : Value} {l l' : List Int} (h : UnpX bx w bu v l 0) (hr : Row .u8 w v' l') (ha : v'.ownBlock ≠ some bu ∧ ∀ k, v'.ownBlock = some k → ¬ bx k) (hu : U8 l') : UnpX bx (w.setCell ⟨bu, 1, none⟩ v') bu v' l' 0 :=
  ⟨by rw [set_block h.block 1 v']; rfl, hr.kept (set_grown _ _ _ _) (.inr ha.1), ha, hu, fun h => absurd rfl h⟩

theorem first_at {v : Value} {l : List Int} {w : World} {n er : Int} {k : Nat} (hv : Row .u8 w v l) (hu : U8 l) (hf : first l = (n, k, er)) :
    Calls Try.prog 65 #[v] w fun e w' => e = .returned (.tuple #[.int .i64 n, .int .i64 (k : Int), .int .i64 er]) ∧ w' = w := by
  refine (first_any hv hu).mono ?_
  rintro e w' ⟨rfl, rfl⟩
  rw [hf]
  exact ⟨rfl, rfl⟩

theorem reads_err {l : List Int} {n er : Int} {k : Nat} (hf : first l = (n, k, er)) (h : er ≠ 0) (least most : Int) : reads l 0 least most = (0, [], er) := by
  unfold reads; rw [if_neg (by simp), hf, if_pos h]
theorem reads_out {l : List Int} {n er : Int} {k : Nat} (hf : first l = (n, k, er)) (h : er = 0) {least most : Int} (ho : n < least ∨ most < n) : reads l 0 least most = (0, [], 11) := by
  unfold reads; rw [if_neg (by simp), hf, if_neg (by simpa using h), if_pos ho]
theorem reads_in {l : List Int} {n er : Int} {k : Nat} (hf : first l = (n, k, er)) (h : er = 0) {least most : Int} (ho : ¬ (n < least ∨ most < n)) : reads l 0 least most = (n, l.drop k, 0) := by
  unfold reads; rw [if_neg (by simp), hf, if_neg (by simpa using h), if_neg ho]

set_option maxHeartbeats 1000000 in
theorem uint_any {w : World} {bu : Nat} {bx : Nat → Prop} {v : Value} {l : List Int} {e least most : Int} (h : UnpX bx w bu v l e) :
    Calls Try.prog 59 #[.pointer (some ⟨bu, 0, none⟩), .int .i64 least, .int .i64 most] w fun r w' =>
      r = .returned (.int .i64 (reads l e least most).1) ∧ w.grownBy w' (some bu) ∧ ∃ v', UnpX bx w' bu v' (reads l e least most).2.1 (reads l e least most).2.2 := by
  have H : Hid (UnpX bx w bu v l e) := h
  have c1 := h.c1
  have f1 := h.fz 1
  have ff := first_facts h.u8
  obtain ⟨p, cap, rfl, g1, g2, g3, g4⟩ := h.row
  clear h g3 g4
  by_cases he : e = 0
  · subst he
    obtain ⟨n, k, er, hf⟩ : ∃ n k er, first l = (n, k, er) := ⟨_, _, _, rfl⟩
    rw [hf] at ff
    simp only at ff
    have HF : Hid (first l = (n, k, er)) := hf
    by_cases h0 : er = 0
    · have hk : 0 < k ∧ k ≤ l.length := by omega
      subst h0
      clear ff hf
      by_cases ho : n < least ∨ most < n
      · have HR : Hid (reads l 0 least most = (0, [], 11)) := reads_out HF.out rfl ho
        have HS : Hid (spoils l 0 11 = ([], 11)) := spoils_new (by decide)
        rcases ho with ho | ho
        · go_enter Try.func59, Try.ntmps59
          go_wp2_with (first
            | (go_at_call 60; refine (err_any H.out).mono ?_; rintro r w' ⟨rfl, rfl⟩)
            | (go_at_call 65; refine (first_at H.out.row H.out.u8 HF.out).mono ?_; rintro r w' ⟨rfl, rfl⟩)
            | (go_at_call 66; refine (spoil_any H.out).mono ?_; rintro r w1 ⟨rfl, hg, v1, hu1⟩))
          go_ret
          exact ⟨by rw [HR.out]; rfl, hg, v1, by rw [HR.out]; rw [HS.out] at hu1; exact hu1⟩
        · by_cases hlo : n < least
          all_goals
            go_enter Try.func59, Try.ntmps59
            go_wp2_with (first
              | (go_at_call 60; refine (err_any H.out).mono ?_; rintro r w' ⟨rfl, rfl⟩)
              | (go_at_call 65; refine (first_at H.out.row H.out.u8 HF.out).mono ?_; rintro r w' ⟨rfl, rfl⟩)
              | (go_at_call 66; refine (spoil_any H.out).mono ?_; rintro r w1 ⟨rfl, hg, v1, hu1⟩))
            go_ret
            exact ⟨by rw [HR.out]; rfl, hg, v1, by rw [HR.out]; rw [HS.out] at hu1; exact hu1⟩
      · have HR : Hid (reads l 0 least most = (n, l.drop k, 0)) := reads_in HF.out rfl ho
        have h1 : ¬ n < least := fun h => ho (.inl h)
        have h2 : ¬ most < n := fun h => ho (.inr h)
        clear ho
        go_enter Try.func59, Try.ntmps59
        go_wp2_with (first
          | (go_at_call 60; refine (err_any H.out).mono ?_; rintro r w' ⟨rfl, rfl⟩)
          | (go_at_call 65; refine (first_at H.out.row H.out.u8 HF.out).mono ?_; rintro r w' ⟨rfl, rfl⟩)
          | (go_at_call 66; refine (spoil_any H.out).mono ?_; rintro r w1 ⟨rfl, hg, v1, hu1⟩))
        · go_ret
          refine ⟨by rw [HR.out]; rfl, set_grown _ _ _ _, .slice p (l.length - k) 0, ?_⟩
          rw [HR.out]
          exact unp_set H.out (H.out.row.cutEnd hk.2 ‹cap = k›) (by rw [block_same p _ _ l.length cap]; exact H.out.apart) (H.out.u8.drop k)
        · go_ret
          refine ⟨by rw [HR.out]; rfl, set_grown _ _ _ _, .slice (Option.map (fun x => x.add k) p) (l.length - k) (cap - k), ?_⟩
          rw [HR.out]
          exact unp_set H.out (H.out.row.cut hk.2) (by rw [block_add p _ _ l.length cap k]; exact H.out.apart) (H.out.u8.drop k)
    · have h0n : (er != 0) = true := by simpa using h0
      have h0e : (er == 0) = false := by simpa using h0
      have HR : Hid (reads l 0 least most = (0, [], er)) := reads_err HF.out h0 least most
      have HS : Hid (spoils l 0 er = ([], er)) := spoils_new h0
      clear ff hf h0
      go_enter Try.func59, Try.ntmps59
      go_wp2_with (first
        | (go_at_call 60; refine (err_any H.out).mono ?_; rintro r w' ⟨rfl, rfl⟩)
        | (go_at_call 65; refine (first_at H.out.row H.out.u8 HF.out).mono ?_; rintro r w' ⟨rfl, rfl⟩)
        | (go_at_call 66; refine (spoil_any H.out).mono ?_; rintro r w1 ⟨rfl, hg, v1, hu1⟩))
      go_ret
      exact ⟨by rw [HR.out]; rfl, hg, v1, by rw [HR.out]; rw [HS.out] at hu1; exact hu1⟩
  · have hn : (e != 0) = true := by simpa using he
    have HR : Hid (reads l e least most = (0, l, e)) := by show reads l e least most = _; unfold reads; rw [if_pos he]
    clear he ff
    go_enter Try.func59, Try.ntmps59
    go_wp2_with (go_at_call 60; refine (err_any H.out).mono ?_; rintro r w' ⟨rfl, rfl⟩)
    go_ret
    exact ⟨by rw [HR.out]; rfl, World.grownBy.refl _ _, _, by rw [HR.out]; exact H.out⟩

theorem UnpX.below {w w' : World} {bu : Nat} {bx : Nat → Prop} {v : Value} {l : List Int} {e : Int} (h : UnpX bx w bu v l e) (hb : Below w.heap.size w w') : UnpX bx w' bu v l e :=
  ⟨by rw [hb.block bu (Array.getElem?_eq_some_iff.1 h.block).1]; exact h.block, h.row.below hb, h.apart, h.u8, h.err⟩
theorem UnpX.cap {w : World} {bu n cap : Nat} {bx : Nat → Prop} {p : Option Addr} {l : List Int} {e : Int} (h : UnpX bx w bu (.slice p n cap) l e) : n ≤ cap ∧ cap ≤ 9223372036854775807 := by
  obtain ⟨p', cap', he, h1, h2, _⟩ := h.row
  simp only [Value.slice.injEq] at he
  omega

/-- What Str reads: the bytes, the rest and the error. -/
def readsStr (l : List Int) (e most : Int) : List Int × List Int × Int :=
  if (reads l e 0 (max most 0)).2.2 ≠ 0 then ([], (reads l e 0 (max most 0)).2.1, (reads l e 0 (max most 0)).2.2)
  else if ((reads l e 0 (max most 0)).2.1.length : Int) < (reads l e 0 (max most 0)).1 then ([], [], 10)
  else ((reads l e 0 (max most 0)).2.1.take (reads l e 0 (max most 0)).1.toNat, (reads l e 0 (max most 0)).2.1.drop (reads l e 0 (max most 0)).1.toNat, 0)

theorem reads_nonneg {l : List Int} {e most : Int} : 0 ≤ (reads l e 0 most).1 := by
  unfold reads
  split
  · simp
  · split
    · simp
    · split
      · simp
      · rename_i h; simp only; omega
theorem reads_len {l : List Int} {e least most : Int} : (reads l e least most).2.1.length ≤ l.length := by
  unfold reads
  split
  · simp
  · split
    · simp
    · split
      · simp
      · simp

theorem uint_at {w : World} {bu : Nat} {bx : Nat → Prop} {v : Value} {l l1 : List Int} {e e1 least most n : Int} (h : UnpX bx w bu v l e) (hr : reads l e least most = (n, l1, e1)) :
    Calls Try.prog 59 #[.pointer (some ⟨bu, 0, none⟩), .int .i64 least, .int .i64 most] w fun r w' =>
      r = .returned (.int .i64 n) ∧ w.grownBy w' (some bu) ∧ ∃ p cap, UnpX bx w' bu (.slice p l1.length cap) l1 e1 := by
  refine (uint_any h).mono ?_
  rintro r w' ⟨rfl, hg, v', hu⟩
  rw [hr] at hu ⊢
  obtain ⟨p, cap, rfl, _⟩ := id hu.row
  exact ⟨rfl, hg, p, cap, hu⟩

set_option maxHeartbeats 1000000 in
theorem open_more {w : World} {v : Value} {l : List Int} (h : Row .u8 w v l) (hu : U8 l) (hbig : l.length ≤ 140737488355328) :
    Calls Try.prog 40 #[v] w fun r w' => ∃ bu v', r = .returned (.pointer (some ⟨bu, 0, none⟩)) ∧ w.heap.size ≤ bu ∧ Unp w' bu v' l 0 ∧ Below w.heap.size w w' ∧ bu < w'.heap.size ∧ ∀ k, v'.ownBlock = some k → w.heap.size ≤ k ∧ k < w'.heap.size := by
  have H : Hid (Row .u8 w v l) := h
  clear h
  go_enter Try.func40, Try.ntmps40
  go_wp2_with (go_at_call 58; refine (clone_any H.out hbig).mono ?_; rintro r w1 ⟨v1, rfl, hown1, hb1⟩; have hR1 := own_row hown1; obtain ⟨p1, cap1, rfl, _⟩ := id hR1; have HR1 := (show Hid (Row _ _ _ _) from hR1); have HO1 := (show Hid (World.ownsRow _ _ _ _ _ _ _) from hown1); clear hR1 hown1)
  go_ret
  have hne : (Value.slice p1 l.length cap1).ownBlock ≠ some w1.heap.size := by
    intro hk
    have := (HO1.out.lt _ hk).2
    omega
  refine ⟨w1.heap.size, .slice p1 l.length cap1, rfl, hb1.size, ?_, hb1.alloc hb1.size _, by simp, fun k hk => ?_⟩
  · exact ⟨heap_alloc_new w1 _, HR1.out.below ((Below.refl _ _).alloc (Nat.le_refl _) _), ⟨hne, fun k hk e => hne (by rw [hk, e])⟩, hu, fun h => absurd rfl h⟩
  · have := HO1.out.lt k hk
    simp
    omega

theorem open_any {w : World} {v : Value} {l : List Int} (h : Row .u8 w v l) (hu : U8 l) (hbig : l.length ≤ 140737488355328) :
    Calls Try.prog 40 #[v] w fun r w' => ∃ bu v', r = .returned (.pointer (some ⟨bu, 0, none⟩)) ∧ w.heap.size ≤ bu ∧ Unp w' bu v' l 0 ∧ Below w.heap.size w w' := by
  refine (open_more h hu hbig).mono ?_
  rintro r w' ⟨bu, v', h1, h2, h3, h4, _, _⟩
  exact ⟨bu, v', h1, h2, h3, h4⟩

end Go.Proofs.Ythlkhjpobiohmaa
