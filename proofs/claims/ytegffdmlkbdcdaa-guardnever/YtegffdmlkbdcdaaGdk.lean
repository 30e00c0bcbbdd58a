/-
  GuardStays: each call makes a guard that may be; without an answer it believes for at most twelve of its ticks from its last granted question on. The condition: that the calls lie there.
-/
import Derived.Test.YtegffdmlkbdcdaaGdi
import Derived.Test.YtegffdmlkbdcdaaGdj
import Derived.Deep.CutRange
import Derived.Deep.CutBlock
namespace Go.Proofs.Ytegffdmlkbdcdaa
open Go.ChangeShapes Go.WideShapes Go.ChangeAt Go.RowKit

theorem ok_iff (g : GE) : okG g ↔ ((0 ≤ g.ck ∧ g.ck ≤ 9007199254740992) ∧ (0 ≤ g.ep ∧ g.ep ≤ 9007199254740992) ∧ (0 ≤ g.un ∧ g.un ≤ 9007199254740992) ∧ (0 ≤ g.se ∧ g.se ≤ 9007199254740992) ∧ (0 ≤ g.ak ∧ g.ak ≤ 9007199254740992) ∧
  (¬ g.ep = 0 ∨ g.un = 0) ∧ g.un ≤ g.ck + 12 ∧ (0 ≤ g.ki ∧ g.ki ≤ 2) ∧ (¬ g.ki = 0 ∨ g.ak = 0) ∧ (g.ki = 0 ∨ g.se ≠ 0 ∧ g.ak ≤ g.ck) ∧ (¬ g.ki = 2 ∨ g.ep ≠ 0)) := by
  unfold okG
  rw [Decidable.imp_iff_not_or, Decidable.imp_iff_not_or, Decidable.imp_iff_not_or, Decidable.imp_iff_not_or, Decidable.not_not]
theorem tick_ok (g : GE) (n : Int) : okG (tickG g n) := by
  have h := snd_ok g
  unfold tickG
  generalize sndG g = s at h ⊢
  rw [ok_iff] at *
  unfold laterC
  simp only at *
  refine ⟨by first | omega | simp, by first | omega | simp, by first | omega | simp, by first | omega | simp, by first | omega | simp, by first | omega | simp, by first | omega | simp, by first | omega | simp, by first | omega | simp, by first | omega | simp, by first | omega | simp⟩
theorem yie_ok (g : GE) : okG (yieG g) := by
  have h := snd_ok g
  unfold yieG yieS
  rw [ok_iff] at *
  simp only
  refine ⟨by first | omega | simp, by first | omega | simp, by first | omega | simp, by first | omega | simp, by first | omega | simp, by first | omega | simp, by first | omega | simp, by first | omega | simp, by first | omega | simp, by first | omega | simp, by first | omega | simp⟩
theorem abv_ok (g : GE) (n : Int) : okG (abvG g n) := by
  unfold abvG abvS
  split
  · exact yie_ok g
  · exact snd_ok g
theorem ask_ok (g : GE) : okG (askG g).1 := by
  have h := snd_ok g
  unfold askG askS
  split
  · exact h
  · split
    · exact h
    · unfold okG at *
      simp only
      split <;> omega
theorem grn_ok (g : GE) (n e : Int) : okG (grnG g n e).1 := by
  have h := snd_ok g
  unfold grnG grnS
  split
  · exact h
  · rename_i hn
    rw [ok_iff] at *
    unfold laterC at *
    simp only
    (repeat' split) <;> refine ⟨by first | omega | simp, by first | omega | simp, by first | omega | simp, by first | omega | simp, by first | omega | simp, by first | omega | simp, by first | omega | simp, by first | omega | simp, by first | omega | simp, by first | omega | simp, by first | omega | simp⟩
theorem rfs_ok (g : GE) (n : Int) : okG (rfsG g n).1 := by
  have h := snd_ok g
  unfold rfsG rfsS
  split
  · exact h
  · split
    · exact yie_ok g
    · unfold ansG
      rw [ok_iff] at *
      simp only
      refine ⟨by first | omega | simp, by first | omega | simp, by first | omega | simp, by first | omega | simp, by first | omega | simp, by first | omega | simp, by first | omega | simp, by first | omega | simp, by first | omega | simp, by first | omega | simp, by first | omega | simp⟩
theorem do_ok (g : GE) (c : CA) : okG (doC g c) := by
  unfold doC
  split; exact tick_ok _ _
  split; exact ask_ok _
  split; exact grn_ok _ _ _
  split; exact rfs_ok _ _
  split; exact yie_ok _
  exact abv_ok _ _
theorem does_ok (g : GE) (c : CA) : okG (doesC g c) := do_ok _ _
/-- Until when is believed grows by a grant alone. -/
theorem do_un {l : GE} (c : CA) (h : okG l) : (doC l c).un ≤ l.un ∨ (doC l c).un = 0 ∨ (c.act = 2 ∧ l.ki ≠ 0 ∧ (doC l c).ki = 0 ∧ (doC l c).ep ≠ 0 ∧ ((doC l c).un ≤ l.ak + 12 ∨ (doC l c).un ≤ l.un)) := by
  unfold doC
  split
  · unfold tickG; rw [snd_same h]; exact .inl (Int.le_refl _)
  · split
    · unfold askG askS
      rw [snd_same h]
      split
      · exact .inl (Int.le_refl _)
      · split
        · exact .inl (Int.le_refl _)
        · exact .inl (Int.le_refl _)
    · split
      · rename_i h2
        unfold grnG grnS
        rw [snd_same h]
        split
        · exact .inl (Int.le_refl _)
        · rename_i hn
          refine .inr (.inr ⟨h2, by omega, rfl, ?_, ?_⟩)
          · simp only; omega
          · unfold okG at h
            unfold laterC
            simp only
            (repeat' split) <;> omega
      · split
        · unfold rfsG rfsS
          rw [snd_same h]
          split
          · exact .inl (Int.le_refl _)
          · split
            · exact .inr (.inl rfl)
            · exact .inl (Int.le_refl _)
        · split
          · exact .inr (.inl rfl)
          · unfold abvG abvS
            rw [snd_same h]
            split
            · exact .inr (.inl rfl)
            · exact .inl (Int.le_refl _)
theorem does_un {l : GE} (c : CA) (h : okG l) : (doesC l c).un ≤ l.un ∨ (doesC l c).un = 0 ∨ (c.act = 2 ∧ l.ki ≠ 0 ∧ (doesC l c).ki = 0 ∧ (doesC l c).ep ≠ 0 ∧ ((doesC l c).un ≤ l.ak + 12 ∨ (doesC l c).un ≤ l.un)) := do_un (ownC l c) h
def gotC (l : GE) (c : CA) : Bool := decide (okG l ∧ l.ki ≠ 0 ∧ (doesC l c).ki = 0 ∧ (doesC l c).ep ≠ 0 ∧ c.act = 2)
def asC (l : GE) (c : CA) (t : Int) : Int := if gotC l c = true then (if t < l.ak then l.ak else t) else t
def AsI (l : GE) (t : Int) : Prop := t = -1 ∨ (0 ≤ t ∧ t ≤ 9007199254740992 ∧ okG l)
theorem as_next {l : GE} {c : CA} {t : Int} (h : AsI l t) : AsI (doesC l c) (asC l c t) := by
  unfold asC
  split
  · rename_i hg
    have h1 := (of_decide_eq_true hg).1
    refine .inr ?_
    have h2 := does_ok l c
    unfold AsI at h
    have h3 := h1
    unfold okG at h3
    split
    · exact ⟨by omega, by omega, h2⟩
    · exact ⟨by omega, by omega, h2⟩
  · rcases h with h | h
    · exact .inl h
    · exact .inr ⟨h.1, h.2.1, does_ok l c⟩
theorem no_bad {l : GE} {c : CA} {t : Int} (h : AsI l t) (h0 : 0 ≤ asC l c t) (h1 : belG (doesC l c) = true) (h2 : 12 ≤ (doesC l c).ck - asC l c t) : ¬ l.un ≤ asC l c t + 12 := by
  intro h3
  obtain ⟨_, _, b⟩ := bel_ok h1
  unfold asC at h0 h2 h3
  by_cases hg : gotC l c = true
  · rw [if_pos hg] at h0 h2 h3
    obtain ⟨k0, k1, k2, k3, k4⟩ := of_decide_eq_true hg
    have hu := does_un c k0
    split at h0
    · rename_i q; rw [if_pos q] at h2 h3; omega
    · rename_i q; rw [if_neg q] at h2 h3; omega
  · rw [if_neg hg] at h0 h2 h3
    rcases h with h | ⟨_, _, hk⟩
    · omega
    · have hu := does_un c hk
      rcases hu with hu | hu | ⟨k4, k1, k2, k3, hu⟩
      · omega
      · omega
      · exact absurd (decide_eq_true ⟨hk, k1, k2, k3, k4⟩) hg
theorem left_le {g : GE} (h : okG g) : leftG g ≤ 12 := by
  unfold leftG
  unfold okG at h
  split <;> omega
theorem as_range {l : GE} {t : Int} (h : AsI l t) : -1 ≤ t ∧ t ≤ 9007199254740992 := by unfold AsI at h; omega
/-- What a round keeps: the guard's block. -/
structure SI (B : Nat) (W : World) (g : GE) (wr : World) : Prop where
  box : wr.heap[B]? = some (.cells #[.int .i64 g.ck, .int .i64 g.ep, .int .i64 g.un, .int .i64 g.se, .int .i64 g.ki, .int .i64 g.ak] 23 (0, 0))
  below : Below B W wr
/-- Within a round: the guard, the call, the guard ahead of it. -/
structure S2 (B : Nat) (W : World) (cB bB : Nat) (g : GE) (c : CA) (l : GE) (wr : World) : Prop where
  box : wr.heap[B]? = some (.cells #[.int .i64 g.ck, .int .i64 g.ep, .int .i64 g.un, .int .i64 g.se, .int .i64 g.ki, .int .i64 g.ak] 23 (0, 0))
  call : wr.heap[cB]? = some (.cells #[.int .i64 c.act, .int .i64 c.n, .int .i64 c.ser, .bool c.own, .int .i64 c.ep] 34 (0, 0))
  old : wr.heap[bB]? = some (.cells #[.int .i64 l.ck, .int .i64 l.ep, .int .i64 l.un, .int .i64 l.se, .int .i64 l.ki, .int .i64 l.ak] 23 (0, 0))
  lt : B < cB ∧ cB < bB
  below : Below B W wr
theorem S2.later {B : Nat} {W wr w' : World} {cB bB : Nat} {g : GE} {c : CA} {l : GE} (h : S2 B W cB bB g c l wr) (b : Below wr.heap.size wr w') : S2 B W cB bB g c l w' :=
  ⟨below_box b h.box, below_box b h.call, below_box b h.old, h.lt, below_next h.below b (Nat.le_of_lt (box_lt h.box))⟩
set_option maxRecDepth 100000 in
set_option maxHeartbeats 16000000 in
theorem stays_walk {W : World} {ck ep un se ki ak : Int} {lp : Option Addr} {lc n : Nat} {os : List CA} (hrow : CRow W lp lc os) (hn : os.length = n) :
    Calls Try.prog 4 #[.agg #[.int .i64 ck, .int .i64 ep, .int .i64 un, .int .i64 se, .int .i64 ki, .int .i64 ak], .slice lp n lc] W fun e w' => e = .returned (.bool true) ∧ Below W.heap.size W w' := by
  have i1 := hrow.le
  have i2 := hrow.top
  rw [hn] at i1
  have HROW := hide hrow
  have HN := hide hn
  clear hrow hn
  obtain ⟨V, hV⟩ : ∃ V, V = W.alloc (.cells #[.int .i64 ck, .int .i64 ep, .int .i64 un, .int .i64 se, .int .i64 ki, .int .i64 ak] 23 (0, 0)) := ⟨_, rfl⟩
  have hv : V.heap[W.heap.size]? = some (.cells #[.int .i64 ck, .int .i64 ep, .int .i64 un, .int .i64 se, .int .i64 ki, .int .i64 ak] 23 (0, 0)) := by rw [hV]; exact heap_alloc_new W _
  have hbv : Below W.heap.size W V := by rw [hV]; exact alloc_below _ _
  obtain ⟨B, hB⟩ : ∃ B, W.heap.size = B := ⟨_, rfl⟩
  have HBB := hide hB
  rw [hB] at hv hbv
  have HI0 : Hid (SI B W ⟨ck, ep, un, se, ki, ak⟩ V) := hide ⟨hv, hbv⟩
  rw [hB]
  go_enter Try.func4, Try.ntmps4
  go_upto_region 1 with fail
  rw [← hV]
  try rw [hB]
  clear hV hB hv hbv
  obtain ⟨_, _, _, _, _, _, u0, u1, u2, u3, u4, u5⟩ := six HI0.out.box
  simp only at u0 u1 u2 u3 u4 u5
  go_wp2_with fail
  refine begun_any.mono ?_
  rintro _ w1 ⟨rfl, b1⟩
  have HI1 : Hid (SI B W ⟨ck, ep, un, se, ki, ak⟩ w1) := hide ⟨below_box b1 HI0.out.box, below_next HI0.out.below b1 (Nat.le_of_lt (box_lt HI0.out.box))⟩
  clear b1 HI0 u0 u1 u2 u3 u4 u5
  have HA0 : Hid (AsI ⟨ck, ep, un, se, ki, ak⟩ (-1)) := hide (.inl rfl)
  go_wp2_with fail
  go_loopw [5, 13] (fun a i wr => ∃ (k : Nat) (l : GE) (t : Int), k ≤ n ∧ a = .int .i64 t ∧ i = .int .i64 (k : Int) ∧ Hid (AsI l t) ∧ Hid (SI B W l wr)) (fun _ i _ => n - (intOf i).toNat)
  case atStart => exact ⟨0, ⟨ck, ep, un, se, ki, ak⟩, -1, Nat.zero_le _, rfl, rfl, HA0, HI1⟩
  case round =>
    obtain ⟨k, ⟨l0, l1, l2, l3, l4, l5⟩, t, hk, rfl, rfl, HA, HI⟩ := hrel
    clear HI1 HA0
    obtain ⟨_, _, _, _, _, _, u0, u1, u2, u3, u4, u5⟩ := six HI.out.box
    simp only at u0 u1 u2 u3 u4 u5
    by_cases hlt : k < n
    · have hlt2 : k < os.length := by rw [HN.out]; exact hlt
      obtain ⟨⟨dd, dn, ds, dw, de⟩, hx⟩ : ∃ x, os[k]! = x := ⟨_, rfl⟩
      have bw2 := HI.out.below
      rw [← HBB.out] at bw2
      obtain ⟨g, oo, rfl, a0, a1, a2, a3, a4⟩ := CRow.at (LRow.below CA.len HROW.out bw2) hlt2 hx
      clear hx hlt2 bw2
      go_upto_region 7 with fail
      obtain ⟨X, hX⟩ : ∃ X, X = wr.alloc (.cells #[.int .i64 dd, .int .i64 dn, .int .i64 ds, .bool dw, .int .i64 de] 34 (0, 0)) := ⟨_, rfl⟩
      rw [← hX]
      obtain ⟨c1, c2, c3⟩ := alloc_boxG HI.out.below (Nat.le_of_lt (box_lt HI.out.box)) (.cells #[.int .i64 dd, .int .i64 dn, .int .i64 ds, .bool dw, .int .i64 de] 34 (0, 0))
      rw [← hX] at c1 c2 c3
      obtain ⟨cB, hcB⟩ : ∃ cB, wr.heap.size = cB := ⟨_, rfl⟩
      have HLT : Hid (B < cB) := hide (by rw [← hcB]; exact box_lt HI.out.box)
      rw [hcB] at c2
      try rw [hcB]
      have HG1 := hide (below_box c3 HI.out.box)
      have HC1 := hide c2
      have HB1 := hide c1
      clear c1 c2 c3 hX hcB HI a0 a1 a2 a3 a4 u0 u1 u2 u3 u4 u5
      simp only at HG1
      obtain ⟨_, _, _, _, _, _, u0, u1, u2, u3, u4, u5⟩ := six HG1.out
      obtain ⟨_, _, _, _, _, k0, k1, k2, k3, k4⟩ := five HC1.out
      go_upto_region 8 with fail
      obtain ⟨Y, hY⟩ : ∃ Y, Y = X.alloc (.cells #[.int .i64 l0, .int .i64 l1, .int .i64 l2, .int .i64 l3, .int .i64 l4, .int .i64 l5] 23 (0, 0)) := ⟨_, rfl⟩
      rw [← hY]
      obtain ⟨c1, c2, c3⟩ := alloc_boxG HB1.out (Nat.le_of_lt (box_lt HG1.out)) (.cells #[.int .i64 l0, .int .i64 l1, .int .i64 l2, .int .i64 l3, .int .i64 l4, .int .i64 l5] 23 (0, 0))
      rw [← hY] at c1 c2 c3
      obtain ⟨bB, hbB⟩ : ∃ bB, X.heap.size = bB := ⟨_, rfl⟩
      have hlt3 : cB < bB := by rw [← hbB]; exact box_lt HC1.out
      rw [hbB] at c2
      try rw [hbB]
      have HS0 : Hid (S2 B W cB bB ⟨l0, l1, l2, l3, l4, l5⟩ ⟨dd, dn, ds, dw, de⟩ ⟨l0, l1, l2, l3, l4, l5⟩ Y) := hide ⟨below_box c3 HG1.out, below_box c3 HC1.out, c2, ⟨HLT.out, hlt3⟩, c1⟩
      clear c1 c2 c3 hY hbB HG1 HC1 HB1 hlt3 u0 u1 u2 u3 u4 u5 k0 k1 k2 k3 k4
      obtain ⟨_, _, _, _, _, _, u0, u1, u2, u3, u4, u5⟩ := six HS0.out.box
      obtain ⟨_, _, _, _, _, k0, k1, k2, k3, k4⟩ := five HS0.out.call
      obtain ⟨_, _, _, _, _, _, x0, x1, x2, x3, x4, x5⟩ := six HS0.out.old
      simp only at u0 u1 u2 u3 u4 u5 k0 k1 k2 k3 k4 x0 x1 x2 x3 x4 x5
      obtain ⟨⟨g0, g1, g2, g3, g4, g5⟩, hg⟩ : ∃ q, doesC ⟨l0, l1, l2, l3, l4, l5⟩ ⟨dd, dn, ds, dw, de⟩ = q := ⟨_, rfl⟩
      have HG := hide hg
      clear hg
      go_wp2_with fail
      refine does_any.mono ?_
      rw [HG.out]
      simp only [GE.val, GE.row]
      rintro _ w3 ⟨rfl, b3⟩
      have HS1 := hide (HS0.out.later b3)
      clear b3 HS0 u0 u1 u2 u3 u4 u5 k0 k1 k2 k3 k4 x0 x1 x2 x3 x4 x5
      obtain ⟨_, _, _, _, _, _, u0, u1, u2, u3, u4, u5⟩ := six HS1.out.box
      obtain ⟨_, _, _, _, _, k0, k1, k2, k3, k4⟩ := five HS1.out.call
      obtain ⟨_, _, _, _, _, _, x0, x1, x2, x3, x4, x5⟩ := six HS1.out.old
      simp only at u0 u1 u2 u3 u4 u5 k0 k1 k2 k3 k4 x0 x1 x2 x3 x4 x5
      go_upto_region 9 with fail
      obtain ⟨Z, hZ⟩ : ∃ Z, Z = ((((((w3.setCell ⟨B, 0, none⟩ (.int .i64 g0)).setCell ⟨B, 1, none⟩ (.int .i64 g1)).setCell ⟨B, 2, none⟩ (.int .i64 g2)).setCell ⟨B, 3, none⟩ (.int .i64 g3)).setCell ⟨B, 4, none⟩ (.int .i64 g4)).setCell ⟨B, 5, none⟩ (.int .i64 g5)) := ⟨_, rfl⟩
      have oZ : Only (· = B) w3 Z := by rw [hZ]; exact only_set6 w3 B (.int .i64 g0) (.int .i64 g1) (.int .i64 g2) (.int .i64 g3) (.int .i64 g4) (.int .i64 g5)
      have HS2 : Hid (S2 B W cB bB ⟨g0, g1, g2, g3, g4, g5⟩ ⟨dd, dn, ds, dw, de⟩ ⟨l0, l1, l2, l3, l4, l5⟩ Z) := hide ⟨by rw [hZ]; exact heap_set6 HS1.out.box (.int .i64 g0) (.int .i64 g1) (.int .i64 g2) (.int .i64 g3) (.int .i64 g4) (.int .i64 g5), oZ.obj HS1.out.call (fun e => by have e' : cB = B := e; have := HS1.out.lt; omega), oZ.obj HS1.out.old (fun e => by have e' : bB = B := e; have := HS1.out.lt; omega), HS1.out.lt, HS1.out.below.trans (oZ.below (Nat.le_of_lt (box_lt HS1.out.box)) (fun i e => by have e' : i = B := e; omega))⟩
      rw [← hZ]
      clear hZ oZ HS1 u0 u1 u2 u3 u4 u5 k0 k1 k2 k3 k4 x0 x1 x2 x3 x4 x5
      obtain ⟨_, _, _, _, _, _, u0, u1, u2, u3, u4, u5⟩ := six HS2.out.box
      obtain ⟨_, _, _, _, _, k0, k1, k2, k3, k4⟩ := five HS2.out.call
      obtain ⟨_, _, _, _, _, _, x0, x1, x2, x3, x4, x5⟩ := six HS2.out.old
      simp only at u0 u1 u2 u3 u4 u5 k0 k1 k2 k3 k4 x0 x1 x2 x3 x4 x5
      have HCK : Hid (chkG ⟨g0, g1, g2, g3, g4, g5⟩ = 0) := hide (if_pos (by rw [← HG.out]; exact does_ok _ _))
      go_wp2_with fail
      refine gcheck_any.mono ?_
      rw [HCK.out]
      rintro _ w4 ⟨rfl, b3⟩
      have HS3 := hide (HS2.out.later b3)
      clear b3 HS2 u0 u1 u2 u3 u4 u5 k0 k1 k2 k3 k4 x0 x1 x2 x3 x4 x5
      obtain ⟨_, _, _, _, _, _, u0, u1, u2, u3, u4, u5⟩ := six HS3.out.box
      obtain ⟨_, _, _, _, _, k0, k1, k2, k3, k4⟩ := five HS3.out.call
      obtain ⟨_, _, _, _, _, _, x0, x1, x2, x3, x4, x5⟩ := six HS3.out.old
      simp only at u0 u1 u2 u3 u4 u5 k0 k1 k2 k3 k4 x0 x1 x2 x3 x4 x5
      go_upto_region 11 with fail
      obtain ⟨q, hq⟩ : ∃ q, gotC ⟨l0, l1, l2, l3, l4, l5⟩ ⟨dd, dn, ds, dw, de⟩ = q := ⟨_, rfl⟩
      have hq2 := hq
      unfold gotC at hq2
      rw [HG.out] at hq2
      simp only at hq2
      have HQ := hide hq
      clear hq
      go_cut [13, 49] from 13 to 77 (fun s13 s49 wd => s13 = .int .i64 (k : Int) ∧ s49 = .bool q ∧ Hid (S2 B W cB bB ⟨g0, g1, g2, g3, g4, g5⟩ ⟨dd, dn, ds, dw, de⟩ ⟨l0, l1, l2, l3, l4, l5⟩ wd))
      case first =>
        by_cases h0 : okG ⟨l0, l1, l2, l3, l4, l5⟩
        · have HC : Hid (chkG ⟨l0, l1, l2, l3, l4, l5⟩ = 0) := hide (if_pos h0)
          by_cases h1 : l4 = 0
          · obtain rfl : false = q := by rw [← hq2]; exact (decide_eq_false (fun z => z.2.1 h1)).symm
            have d1 : (l4 != 0) = false := by simp [h1]
            have d1e : (l4 == 0) = true := by simpa using h1
            clear h0 h1
            clear hq2
            go_wp2_with fail
            refine gcheck_any.mono ?_
            rw [HC.out]
            rintro _ w5 ⟨rfl, b3⟩
            have HS4 := hide (HS3.out.later b3)
            clear b3 HS3 u0 u1 u2 u3 u4 u5 k0 k1 k2 k3 k4 x0 x1 x2 x3 x4 x5
            obtain ⟨_, _, _, _, _, _, u0, u1, u2, u3, u4, u5⟩ := six HS4.out.box
            obtain ⟨_, _, _, _, _, k0, k1, k2, k3, k4⟩ := five HS4.out.call
            obtain ⟨_, _, _, _, _, _, x0, x1, x2, x3, x4, x5⟩ := six HS4.out.old
            simp only at u0 u1 u2 u3 u4 u5 k0 k1 k2 k3 k4 x0 x1 x2 x3 x4 x5
            go_wp2_with fail
            go_meet
            exact ⟨rfl, rfl, HS4⟩
          · by_cases h2 : g4 = 0
            · by_cases h3 : g1 = 0
              · obtain rfl : false = q := by rw [← hq2]; exact (decide_eq_false (fun z => z.2.2.2.1 h3)).symm
                have d1 : (l4 != 0) = true := ne_neG h1
                have d1e : (l4 == 0) = false := ne_eqL h1
                have d2 : (g4 == 0) = true := by simpa using h2
                have d3 : (g1 != 0) = false := by simp [h3]
                have d3e : (g1 == 0) = true := by simpa using h3
                clear h0 h1 h2 h3
                clear hq2
                go_wp2_with fail
                refine gcheck_any.mono ?_
                rw [HC.out]
                rintro _ w5 ⟨rfl, b3⟩
                have HS4 := hide (HS3.out.later b3)
                clear b3 HS3 u0 u1 u2 u3 u4 u5 k0 k1 k2 k3 k4 x0 x1 x2 x3 x4 x5
                obtain ⟨_, _, _, _, _, _, u0, u1, u2, u3, u4, u5⟩ := six HS4.out.box
                obtain ⟨_, _, _, _, _, k0, k1, k2, k3, k4⟩ := five HS4.out.call
                obtain ⟨_, _, _, _, _, _, x0, x1, x2, x3, x4, x5⟩ := six HS4.out.old
                simp only at u0 u1 u2 u3 u4 u5 k0 k1 k2 k3 k4 x0 x1 x2 x3 x4 x5
                go_wp2_with fail
                go_meet
                exact ⟨rfl, rfl, HS4⟩
              · by_cases h4 : dd = 2
                · obtain rfl : true = q := by rw [← hq2]; exact (decide_eq_true ⟨h0, h1, h2, h3, h4⟩).symm
                  have d1 : (l4 != 0) = true := ne_neG h1
                  have d1e : (l4 == 0) = false := ne_eqL h1
                  have d2 : (g4 == 0) = true := by simpa using h2
                  have d3 : (g1 != 0) = true := ne_neG h3
                  have d3e : (g1 == 0) = false := ne_eqL h3
                  have d4 : (dd == 2) = true := by simpa using h4
                  clear h0 h1 h2 h3 h4
                  clear hq2
                  go_wp2_with fail
                  refine gcheck_any.mono ?_
                  rw [HC.out]
                  rintro _ w5 ⟨rfl, b3⟩
                  have HS4 := hide (HS3.out.later b3)
                  clear b3 HS3 u0 u1 u2 u3 u4 u5 k0 k1 k2 k3 k4 x0 x1 x2 x3 x4 x5
                  obtain ⟨_, _, _, _, _, _, u0, u1, u2, u3, u4, u5⟩ := six HS4.out.box
                  obtain ⟨_, _, _, _, _, k0, k1, k2, k3, k4⟩ := five HS4.out.call
                  obtain ⟨_, _, _, _, _, _, x0, x1, x2, x3, x4, x5⟩ := six HS4.out.old
                  simp only at u0 u1 u2 u3 u4 u5 k0 k1 k2 k3 k4 x0 x1 x2 x3 x4 x5
                  go_wp2_with fail
                  go_meet
                  exact ⟨rfl, rfl, HS4⟩
                · obtain rfl : false = q := by rw [← hq2]; exact (decide_eq_false (fun z => h4 z.2.2.2.2)).symm
                  have d1 : (l4 != 0) = true := ne_neG h1
                  have d1e : (l4 == 0) = false := ne_eqL h1
                  have d2 : (g4 == 0) = true := by simpa using h2
                  have d3 : (g1 != 0) = true := ne_neG h3
                  have d3e : (g1 == 0) = false := ne_eqL h3
                  have d4 : (dd == 2) = false := ne_eqL h4
                  clear h0 h1 h2 h3 h4
                  clear hq2
                  go_wp2_with fail
                  refine gcheck_any.mono ?_
                  rw [HC.out]
                  rintro _ w5 ⟨rfl, b3⟩
                  have HS4 := hide (HS3.out.later b3)
                  clear b3 HS3 u0 u1 u2 u3 u4 u5 k0 k1 k2 k3 k4 x0 x1 x2 x3 x4 x5
                  obtain ⟨_, _, _, _, _, _, u0, u1, u2, u3, u4, u5⟩ := six HS4.out.box
                  obtain ⟨_, _, _, _, _, k0, k1, k2, k3, k4⟩ := five HS4.out.call
                  obtain ⟨_, _, _, _, _, _, x0, x1, x2, x3, x4, x5⟩ := six HS4.out.old
                  simp only at u0 u1 u2 u3 u4 u5 k0 k1 k2 k3 k4 x0 x1 x2 x3 x4 x5
                  go_wp2_with fail
                  go_meet
                  exact ⟨rfl, rfl, HS4⟩
            · obtain rfl : false = q := by rw [← hq2]; exact (decide_eq_false (fun z => h2 z.2.2.1)).symm
              have d1 : (l4 != 0) = true := ne_neG h1
              have d1e : (l4 == 0) = false := ne_eqL h1
              have d2 : (g4 == 0) = false := ne_eqL h2
              clear h0 h1 h2
              clear hq2
              go_wp2_with fail
              refine gcheck_any.mono ?_
              rw [HC.out]
              rintro _ w5 ⟨rfl, b3⟩
              have HS4 := hide (HS3.out.later b3)
              clear b3 HS3 u0 u1 u2 u3 u4 u5 k0 k1 k2 k3 k4 x0 x1 x2 x3 x4 x5
              obtain ⟨_, _, _, _, _, _, u0, u1, u2, u3, u4, u5⟩ := six HS4.out.box
              obtain ⟨_, _, _, _, _, k0, k1, k2, k3, k4⟩ := five HS4.out.call
              obtain ⟨_, _, _, _, _, _, x0, x1, x2, x3, x4, x5⟩ := six HS4.out.old
              simp only at u0 u1 u2 u3 u4 u5 k0 k1 k2 k3 k4 x0 x1 x2 x3 x4 x5
              go_wp2_with fail
              go_meet
              exact ⟨rfl, rfl, HS4⟩
        · have HC : Hid (chkG ⟨l0, l1, l2, l3, l4, l5⟩ = 1) := hide (if_neg h0)
          obtain rfl : false = q := by rw [← hq2]; exact (decide_eq_false (fun z => h0 z.1)).symm
          clear h0
          clear hq2
          go_wp2_with fail
          refine gcheck_any.mono ?_
          rw [HC.out]
          rintro _ w5 ⟨rfl, b3⟩
          have HS4 := hide (HS3.out.later b3)
          clear b3 HS3 u0 u1 u2 u3 u4 u5 k0 k1 k2 k3 k4 x0 x1 x2 x3 x4 x5
          obtain ⟨_, _, _, _, _, _, u0, u1, u2, u3, u4, u5⟩ := six HS4.out.box
          obtain ⟨_, _, _, _, _, k0, k1, k2, k3, k4⟩ := five HS4.out.call
          obtain ⟨_, _, _, _, _, _, x0, x1, x2, x3, x4, x5⟩ := six HS4.out.old
          simp only at u0 u1 u2 u3 u4 u5 k0 k1 k2 k3 k4 x0 x1 x2 x3 x4 x5
          go_wp2_with fail
          go_meet
          exact ⟨rfl, rfl, HS4⟩
      case rest =>
      rename World => w5
      obtain ⟨rfl, rfl, HS4⟩ := hcut
      clear HS3 hq2 u0 u1 u2 u3 u4 u5 k0 k1 k2 k3 k4 x0 x1 x2 x3 x4 x5
      obtain ⟨_, _, _, _, _, _, u0, u1, u2, u3, u4, u5⟩ := six HS4.out.box
      obtain ⟨_, _, _, _, _, k0, k1, k2, k3, k4⟩ := five HS4.out.call
      obtain ⟨_, _, _, _, _, _, x0, x1, x2, x3, x4, x5⟩ := six HS4.out.old
      simp only at u0 u1 u2 u3 u4 u5 k0 k1 k2 k3 k4 x0 x1 x2 x3 x4 x5
      obtain ⟨t2, ht2⟩ : ∃ t2, asC ⟨l0, l1, l2, l3, l4, l5⟩ ⟨dd, dn, ds, dw, de⟩ t = t2 := ⟨_, rfl⟩
      go_upto_if 49 with fail
      go_cut [5, 13] from 13 to 77 (fun s5 s13 wd => s5 = .int .i64 t2 ∧ s13 = .int .i64 (k : Int) ∧ Hid (S2 B W cB bB ⟨g0, g1, g2, g3, g4, g5⟩ ⟨dd, dn, ds, dw, de⟩ ⟨l0, l1, l2, l3, l4, l5⟩ wd))
      case first =>
        unfold asC at ht2
        rw [HQ.out] at ht2
        cases q with
        | false =>
          rw [if_neg (by decide)] at ht2
          subst ht2
          go_wp2_with fail
          go_meet
          exact ⟨rfl, rfl, HS4⟩
        | true =>
          rw [if_pos rfl] at ht2
          simp only at ht2
          by_cases hm : t < l5
          · rw [if_pos hm] at ht2
            subst ht2
            go_wp2_with fail
            go_meet
            exact ⟨rfl, rfl, HS4⟩
          · rw [if_neg hm] at ht2
            subst ht2
            go_wp2_with fail
            go_meet
            exact ⟨rfl, rfl, HS4⟩
      case rest =>
      rename World => w6
      obtain ⟨rfl, rfl, HS5⟩ := hcut
      clear HS4 u0 u1 u2 u3 u4 u5 k0 k1 k2 k3 k4 x0 x1 x2 x3 x4 x5
      have HT2 : Hid (AsI ⟨g0, g1, g2, g3, g4, g5⟩ t2) := hide (by rw [← ht2, ← HG.out]; exact as_next HA.out)
      have hrange := as_range HT2.out
      have HNB : Hid (0 ≤ t2 → belG ⟨g0, g1, g2, g3, g4, g5⟩ = true → 12 ≤ g0 - t2 → ¬ l2 ≤ t2 + 12) := hide (by
        have hb := no_bad (c := ⟨dd, dn, ds, dw, de⟩) HA.out
        rw [ht2, HG.out] at hb
        exact hb)
      have hok : okG ⟨g0, g1, g2, g3, g4, g5⟩ := by rw [← HG.out]; exact does_ok _ _
      have e1 : IntKind.i64.wrap (g0 - t2) = g0 - t2 := by unfold okG at hok; simp only at hok; rw [IntKind.wrap_i64]; omega
      have e2 : IntKind.i64.wrap (t2 + 12) = t2 + 12 := by rw [IntKind.wrap_i64]; omega
      have HL : Hid (leftG ⟨g0, g1, g2, g3, g4, g5⟩ ≤ 12) := hide (left_le hok)
      clear ht2 hok hrange
      obtain ⟨_, _, _, _, _, _, u0, u1, u2, u3, u4, u5⟩ := six HS5.out.box
      obtain ⟨_, _, _, _, _, k0, k1, k2, k3, k4⟩ := five HS5.out.call
      obtain ⟨_, _, _, _, _, _, x0, x1, x2, x3, x4, x5⟩ := six HS5.out.old
      simp only at u0 u1 u2 u3 u4 u5 k0 k1 k2 k3 k4 x0 x1 x2 x3 x4 x5
      go_upto_region 13 with fail
      go_cut [13, 73] from 13 to 77 (fun s13 s73 wd => s13 = .int .i64 (k : Int) ∧ s73 = .bool false ∧ Hid (S2 B W cB bB ⟨g0, g1, g2, g3, g4, g5⟩ ⟨dd, dn, ds, dw, de⟩ ⟨l0, l1, l2, l3, l4, l5⟩ wd))
      case first =>
        by_cases h0 : 0 ≤ t2
        · have d0 : decide (t2 ≥ 0) = true := decide_eq_true h0
          obtain ⟨b, hb⟩ : ∃ b, belG ⟨g0, g1, g2, g3, g4, g5⟩ = b := ⟨_, rfl⟩
          have HBL := hide hb
          cases b with
          | false =>
            clear h0 hb
            go_wp2_with fail
            refine bel_any.mono ?_
            rw [HBL.out]
            rintro _ w7 ⟨rfl, b3⟩
            have HS6 := hide (HS5.out.later b3)
            clear b3 HS5 u0 u1 u2 u3 u4 u5 k0 k1 k2 k3 k4 x0 x1 x2 x3 x4 x5
            obtain ⟨_, _, _, _, _, _, u0, u1, u2, u3, u4, u5⟩ := six HS6.out.box
            obtain ⟨_, _, _, _, _, k0, k1, k2, k3, k4⟩ := five HS6.out.call
            obtain ⟨_, _, _, _, _, _, x0, x1, x2, x3, x4, x5⟩ := six HS6.out.old
            simp only at u0 u1 u2 u3 u4 u5 k0 k1 k2 k3 k4 x0 x1 x2 x3 x4 x5
            go_wp2_with fail
            go_meet
            exact ⟨rfl, rfl, HS6⟩
          | true =>
            by_cases h2 : 12 ≤ g0 - t2
            · have d2 : decide (g0 - t2 ≥ 12) = true := decide_eq_true h2
              have d3 : decide (l2 ≤ t2 + 12) = false := decide_eq_false (HNB.out h0 hb h2)
              clear h0 hb h2
              go_wp2_with fail
              refine bel_any.mono ?_
              rw [HBL.out]
              rintro _ w7 ⟨rfl, b3⟩
              have HS6 := hide (HS5.out.later b3)
              clear b3 HS5 u0 u1 u2 u3 u4 u5 k0 k1 k2 k3 k4 x0 x1 x2 x3 x4 x5
              obtain ⟨_, _, _, _, _, _, u0, u1, u2, u3, u4, u5⟩ := six HS6.out.box
              obtain ⟨_, _, _, _, _, k0, k1, k2, k3, k4⟩ := five HS6.out.call
              obtain ⟨_, _, _, _, _, _, x0, x1, x2, x3, x4, x5⟩ := six HS6.out.old
              simp only at u0 u1 u2 u3 u4 u5 k0 k1 k2 k3 k4 x0 x1 x2 x3 x4 x5
              go_wp2_with fail
              go_meet
              exact ⟨rfl, rfl, HS6⟩
            · have d2 : decide (g0 - t2 ≥ 12) = false := decide_eq_false h2
              clear h0 hb h2
              go_wp2_with fail
              refine bel_any.mono ?_
              rw [HBL.out]
              rintro _ w7 ⟨rfl, b3⟩
              have HS6 := hide (HS5.out.later b3)
              clear b3 HS5 u0 u1 u2 u3 u4 u5 k0 k1 k2 k3 k4 x0 x1 x2 x3 x4 x5
              obtain ⟨_, _, _, _, _, _, u0, u1, u2, u3, u4, u5⟩ := six HS6.out.box
              obtain ⟨_, _, _, _, _, k0, k1, k2, k3, k4⟩ := five HS6.out.call
              obtain ⟨_, _, _, _, _, _, x0, x1, x2, x3, x4, x5⟩ := six HS6.out.old
              simp only at u0 u1 u2 u3 u4 u5 k0 k1 k2 k3 k4 x0 x1 x2 x3 x4 x5
              go_wp2_with fail
              go_meet
              exact ⟨rfl, rfl, HS6⟩
        · have d0 : decide (t2 ≥ 0) = false := decide_eq_false h0
          clear h0
          go_wp2_with fail
          go_meet
          exact ⟨rfl, rfl, HS5⟩
      case rest =>
      rename World => w7
      obtain ⟨rfl, rfl, HS6⟩ := hcut
      clear HS5 u0 u1 u2 u3 u4 u5 k0 k1 k2 k3 k4 x0 x1 x2 x3 x4 x5 e1 e2
      obtain ⟨_, _, _, _, _, _, u0, u1, u2, u3, u4, u5⟩ := six HS6.out.box
      obtain ⟨_, _, _, _, _, k0, k1, k2, k3, k4⟩ := five HS6.out.call
      obtain ⟨_, _, _, _, _, _, x0, x1, x2, x3, x4, x5⟩ := six HS6.out.old
      simp only at u0 u1 u2 u3 u4 u5 k0 k1 k2 k3 k4 x0 x1 x2 x3 x4 x5
      obtain ⟨lf, hlf⟩ : ∃ lf, leftG ⟨g0, g1, g2, g3, g4, g5⟩ = lf := ⟨_, rfl⟩
      have hl12 := HL.out
      rw [hlf] at hl12
      have d5 : decide (lf > 12) = false := decide_eq_false (by omega)
      have HLF := hide hlf
      clear hlf hl12 HL
      go_wp2_with fail
      refine left_any.mono ?_
      rw [HLF.out]
      rintro _ w8 ⟨rfl, b3⟩
      have HS7 := hide (HS6.out.later b3)
      clear b3 HS6 u0 u1 u2 u3 u4 u5 k0 k1 k2 k3 k4 x0 x1 x2 x3 x4 x5
      obtain ⟨_, _, _, _, _, _, u0, u1, u2, u3, u4, u5⟩ := six HS7.out.box
      obtain ⟨_, _, _, _, _, k0, k1, k2, k3, k4⟩ := five HS7.out.call
      obtain ⟨_, _, _, _, _, _, x0, x1, x2, x3, x4, x5⟩ := six HS7.out.old
      simp only at u0 u1 u2 u3 u4 u5 k0 k1 k2 k3 k4 x0 x1 x2 x3 x4 x5
      have HIN : Hid (SI B W ⟨g0, g1, g2, g3, g4, g5⟩ w8) := hide ⟨HS7.out.box, HS7.out.below⟩
      go_wp2
      go_roundw
      case rel =>
        exact ⟨k + 1, ⟨g0, g1, g2, g3, g4, g5⟩, t2, by omega, rfl, by first | rfl | go_num, HT2, HIN⟩
      case measure => simp [intOf]; omega
    · obtain rfl : k = n := by omega
      have HBW : Hid (Below B W wr) := hide HI.out.below
      clear HI HA u0 u1 u2 u3 u4 u5
      go_wp2
      go_ret
      exact ⟨rfl, HBW.out⟩
end Go.Proofs.Ytegffdmlkbdcdaa
