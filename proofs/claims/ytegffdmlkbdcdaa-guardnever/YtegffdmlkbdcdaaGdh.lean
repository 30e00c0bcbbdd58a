/-
  A call of a guard, as the law does it: the program's and the reference's answers are the same. No conditions.
-/
import Derived.Test.YtegffdmlkbdcdaaGdg
namespace Go.Proofs.Ytegffdmlkbdcdaa
open Go.RowKit

/-- A call. -/
structure CA where
  act : Int
  n : Int
  ser : Int
  own : Bool
  ep : Int
deriving DecidableEq
instance : Inhabited CA := ⟨⟨0, 0, 0, false, 0⟩⟩
def CA.cells (c : CA) : List Value := [.int .i64 c.act, .int .i64 c.n, .int .i64 c.ser, .bool c.own, .int .i64 c.ep]
def ownC (g : GE) (c : CA) : CA := ⟨c.act, c.n, if c.own = true then g.se else c.ser, c.own, if c.own = true ∧ g.ki = 2 then g.ep else c.ep⟩
def doC (g : GE) (c : CA) : GE :=
  if c.act = 0 then tickG g c.n else if c.act = 1 then (askG g).1 else if c.act = 2 then (grnG g c.ser c.ep).1 else if c.act = 3 then (rfsG g c.ser).1 else if c.act = 4 then yieG g else abvG g c.ep
def doesC (g : GE) (c : CA) : GE := doC g (ownC g c)
/-- The blocks of does: the guard, the call, the result. -/
structure DI (W : World) (gB cB rB : Nat) (g : GE) (c : CA) (wd : World) : Prop where
  gbox : wd.heap[gB]? = some (.cells #[.int .i64 g.ck, .int .i64 g.ep, .int .i64 g.un, .int .i64 g.se, .int .i64 g.ki, .int .i64 g.ak] 23 (0, 0))
  cbox : wd.heap[cB]? = some (.cells #[.int .i64 c.act, .int .i64 c.n, .int .i64 c.ser, .bool c.own, .int .i64 c.ep] 34 (0, 0))
  res : wd.heap[rB]? = some (.cells #[.int .i64 0, .int .i64 0, .int .i64 0, .int .i64 0, .int .i64 0, .int .i64 0] 23 (0, 0))
  lt : gB < cB ∧ cB < rB
  below : Below gB W wd
theorem DI.later {W wd w' : World} {gB cB rB : Nat} {g : GE} {c : CA} (h : DI W gB cB rB g c wd) (b : Below wd.heap.size wd w') : DI W gB cB rB g c w' :=
  ⟨below_box b h.gbox, below_box b h.cbox, below_box b h.res, h.lt, below_next h.below b (Nat.le_of_lt (box_lt h.gbox))⟩
structure Five (W : World) (b : Nat) (d0 d1 d2 d3 d4 : Value) : Prop where
  f0 : W.frozen? ⟨b, 0, none⟩ = false
  f1 : W.frozen? ⟨b, 1, none⟩ = false
  f2 : W.frozen? ⟨b, 2, none⟩ = false
  f3 : W.frozen? ⟨b, 3, none⟩ = false
  f4 : W.frozen? ⟨b, 4, none⟩ = false
  u0 : W.cell? ⟨b, 0, none⟩ = some d0
  u1 : W.cell? ⟨b, 1, none⟩ = some d1
  u2 : W.cell? ⟨b, 2, none⟩ = some d2
  u3 : W.cell? ⟨b, 3, none⟩ = some d3
  u4 : W.cell? ⟨b, 4, none⟩ = some d4
theorem five {W : World} {b : Nat} {t : TypeId} {d0 d1 d2 d3 d4 : Value} (h : W.heap[b]? = some (.cells #[d0, d1, d2, d3, d4] t (0, 0))) : Five W b d0 d1 d2 d3 d4 := by
  constructor <;> simp [World.frozen?, World.cell?, h]
theorem DI.set {W wd : World} {gB cB rB : Nat} {g : GE} {act n ser ep : Int} {own : Bool} (h : DI W gB cB rB g ⟨act, n, ser, own, ep⟩ wd) (v : Int) : DI W gB cB rB g ⟨act, n, v, own, ep⟩ (wd.setCell ⟨cB, 2, none⟩ (.int .i64 v)) :=
  have ho : Only (· = cB) wd (wd.setCell ⟨cB, 2, none⟩ (.int .i64 v)) := Only.set _ cB 2 _ rfl
  ⟨ho.obj h.gbox (fun e => by have e' : gB = cB := e; have := h.lt; omega), heap_set_sameL h.cbox 2 _, ho.obj h.res (fun e => by have e' : rB = cB := e; have := h.lt; omega), h.lt, h.below.trans (ho.below (Nat.le_of_lt (box_lt h.gbox)) (fun i e => by have e' : i = cB := e; have := h.lt; omega))⟩
theorem DI.set4 {W wd : World} {gB cB rB : Nat} {g : GE} {act n ser ep : Int} {own : Bool} (h : DI W gB cB rB g ⟨act, n, ser, own, ep⟩ wd) (v : Int) : DI W gB cB rB g ⟨act, n, ser, own, v⟩ (wd.setCell ⟨cB, 4, none⟩ (.int .i64 v)) :=
  have ho : Only (· = cB) wd (wd.setCell ⟨cB, 4, none⟩ (.int .i64 v)) := Only.set _ cB 4 _ rfl
  ⟨ho.obj h.gbox (fun e => by have e' : gB = cB := e; have := h.lt; omega), heap_set_sameL h.cbox 4 _, ho.obj h.res (fun e => by have e' : rB = cB := e; have := h.lt; omega), h.lt, h.below.trans (ho.below (Nat.le_of_lt (box_lt h.gbox)) (fun i e => by have e' : i = cB := e; have := h.lt; omega))⟩
set_option maxRecDepth 100000 in
set_option maxHeartbeats 16000000 in
theorem does_any {W : World} {ck ep un se ki ak : Int} {act n ser pe : Int} {own : Bool}  :
    Calls Try.prog 16 #[.agg #[.int .i64 ck, .int .i64 ep, .int .i64 un, .int .i64 se, .int .i64 ki, .int .i64 ak], .agg #[.int .i64 act, .int .i64 n, .int .i64 ser, .bool own, .int .i64 pe]] W fun e w' => e = .returned (.tuple #[GE.val (doesC ⟨ck, ep, un, se, ki, ak⟩ ⟨act, n, ser, own, pe⟩), .bool true]) ∧ Below W.heap.size W w' := by
  obtain ⟨V0, hV0⟩ : ∃ V0, V0 = W.alloc (.cells #[.int .i64 ck, .int .i64 ep, .int .i64 un, .int .i64 se, .int .i64 ki, .int .i64 ak] 23 (0, 0)) := ⟨_, rfl⟩
  obtain ⟨V1, hV1⟩ : ∃ V1, V1 = V0.alloc (.cells #[.int .i64 act, .int .i64 n, .int .i64 ser, .bool own, .int .i64 pe] 34 (0, 0)) := ⟨_, rfl⟩
  obtain ⟨V, hV⟩ : ∃ V, V = V1.alloc (.cells #[.int .i64 0, .int .i64 0, .int .i64 0, .int .i64 0, .int .i64 0, .int .i64 0] 23 (0, 0)) := ⟨_, rfl⟩
  have a0 : Below W.heap.size W V0 := by rw [hV0]; exact alloc_below _ _
  have a1 : Below V0.heap.size V0 V1 := by rw [hV1]; exact alloc_below _ _
  have a2 : Below V1.heap.size V1 V := by rw [hV]; exact alloc_below _ _
  have s0 : V0.heap.size = W.heap.size + 1 := by rw [hV0]; simp
  have s1 : V1.heap.size = V0.heap.size + 1 := by rw [hV1]; simp
  have x0 : V.heap[W.heap.size]? = some (.cells #[.int .i64 ck, .int .i64 ep, .int .i64 un, .int .i64 se, .int .i64 ki, .int .i64 ak] 23 (0, 0)) := below_box a2 (below_box a1 (by rw [hV0]; exact heap_alloc_new W _))
  have x1 : V.heap[V0.heap.size]? = some (.cells #[.int .i64 act, .int .i64 n, .int .i64 ser, .bool own, .int .i64 pe] 34 (0, 0)) := below_box a2 (by rw [hV1]; exact heap_alloc_new V0 _)
  have x2 : V.heap[V1.heap.size]? = some (.cells #[.int .i64 0, .int .i64 0, .int .i64 0, .int .i64 0, .int .i64 0, .int .i64 0] 23 (0, 0)) := by rw [hV]; exact heap_alloc_new V1 _
  obtain ⟨gB, hgB⟩ : ∃ gB, W.heap.size = gB := ⟨_, rfl⟩
  obtain ⟨cB, hcB⟩ : ∃ cB, V0.heap.size = cB := ⟨_, rfl⟩
  obtain ⟨rB, hrB⟩ : ∃ rB, V1.heap.size = rB := ⟨_, rfl⟩
  have HD0 : Hid (DI W gB cB rB ⟨ck, ep, un, se, ki, ak⟩ ⟨act, n, ser, own, pe⟩ V) := hide ⟨by rw [← hgB]; exact x0, by rw [← hcB]; exact x1, by rw [← hrB]; exact x2, by omega, by rw [← hgB]; exact a0.trans ((a1.mono a0.size).trans (a2.mono (Nat.le_trans a0.size a1.size)))⟩
  have hc1 : gB + 1 = cB := by omega
  have hc2 : cB + 1 = rB := by omega
  have HGB := hide hgB
  clear a0 a1 a2 x0 x1 x2 s0 s1
  rw [hgB]
  obtain ⟨⟨ac, nc, sq, oc, pq⟩, hown⟩ : ∃ q, ownC ⟨ck, ep, un, se, ki, ak⟩ ⟨act, n, ser, own, pe⟩ = q := ⟨_, rfl⟩
  have hown2 := hown
  unfold ownC at hown2
  simp only [CA.mk.injEq] at hown2
  obtain ⟨rfl, rfl, hsq, rfl, hpq⟩ := hown2
  have HOWN := hide hown
  have HSQ := hide hsq
  have HPQ := hide hpq
  clear hown hsq hpq
  go_enter Try.func16, Try.ntmps16
  go_upto_region 1 with fail
  try rw [hgB]
  try rw [hc1]
  try rw [hc2]
  rw [← hV0, ← hV1, ← hV]
  try rw [hcB]
  try rw [hrB]
  clear hV0 hV1 hV hgB hcB hrB hc1 hc2
  obtain ⟨_, _, _, _, _, _, u0, u1, u2, u3, u4, u5⟩ := six HD0.out.gbox
  obtain ⟨_, _, _, _, _, k0, k1, k2, k3, k4⟩ := five HD0.out.cbox
  simp only at u0 u1 u2 u3 u4 u5 k0 k1 k2 k3 k4
  go_upto_if 26 with fail
  go_cut [] from 25 to 35 (fun wd => Hid (DI W gB cB rB ⟨ck, ep, un, se, ki, ak⟩ ⟨act, n, sq, own, pq⟩ wd))
  case first =>
    have hne : gB ≠ cB := by have := HD0.out.lt; omega
    have hne2 : cB ≠ gB := by have := HD0.out.lt; omega
    cases own with
    | false =>
      have q1 : ser = sq := by have := HSQ.out; simpa using this
      have q2 : pe = pq := by have := HPQ.out; simpa using this
      have HDF : Hid (DI W gB cB rB ⟨ck, ep, un, se, ki, ak⟩ ⟨act, n, sq, false, pq⟩ V) := hide (by rw [← q1, ← q2]; exact HD0.out)
      clear q1 q2
      go_wp2_with fail
      go_meet
      exact HDF
    | true =>
      by_cases hk : ki = 2
      · have q1 : se = sq := by have := HSQ.out; simpa using this
        have q2 : ep = pq := by have := HPQ.out; simpa [hk] using this
        have HDF := hide ((HD0.out.set se).set4 ep)
        have HDG : Hid (DI W gB cB rB ⟨ck, ep, un, se, ki, ak⟩ ⟨act, n, sq, true, pq⟩ ((V.setCell ⟨cB, 2, none⟩ (.int .i64 se)).setCell ⟨cB, 4, none⟩ (.int .i64 ep))) := hide (by have := HDF.out; rw [q1, q2] at this ⊢; first | exact this | (rw [← q1, ← q2] at this ⊢; exact this))
        have d1 : (ki == 2) = true := by simpa using hk
        clear q1 q2 HDF hk
        go_wp2_with fail
        go_meet
        exact HDG
      · have q1 : se = sq := by have := HSQ.out; simpa using this
        have q2 : pe = pq := by have := HPQ.out; simpa [hk] using this
        have HDG : Hid (DI W gB cB rB ⟨ck, ep, un, se, ki, ak⟩ ⟨act, n, sq, true, pq⟩ (V.setCell ⟨cB, 2, none⟩ (.int .i64 se))) := hide (by have := HD0.out.set se; rw [← q2]; rw [← q1]; exact this)
        have d1 : (ki == 2) = false := ne_eqL hk
        clear q1 q2 hk
        go_wp2_with fail
        go_meet
        exact HDG
  case rest =>
  rename World => w0
  clear HD0
  have HD0 := hcut
  clear hcut
  have HQQ : Hid (doesC ⟨ck, ep, un, se, ki, ak⟩ ⟨act, n, ser, own, pe⟩ = doC ⟨ck, ep, un, se, ki, ak⟩ ⟨act, n, sq, own, pq⟩) := hide (by unfold doesC; rw [HOWN.out])
  clear HOWN HSQ HPQ u0 u1 u2 u3 u4 u5 k0 k1 k2 k3 k4
  obtain ⟨_, _, _, _, _, _, u0, u1, u2, u3, u4, u5⟩ := six HD0.out.gbox
  obtain ⟨_, _, _, _, _, k0, k1, k2, k3, k4⟩ := five HD0.out.cbox
  simp only at u0 u1 u2 u3 u4 u5 k0 k1 k2 k3 k4
  by_cases h0 : act = 0
  · have HDO : Hid (doC ⟨ck, ep, un, se, ki, ak⟩ ⟨act, n, sq, own, pq⟩ = tickG ⟨ck, ep, un, se, ki, ak⟩ n) := hide (if_pos h0)
    have d0 : (act == 0) = true := by simpa using h0
    clear h0
    obtain ⟨⟨a0, a1, a2, a3, a4, a5⟩, hr⟩ : ∃ q, tickG ⟨ck, ep, un, se, ki, ak⟩ n = q := ⟨_, rfl⟩
    have HR := hide hr
    have HQ : Hid (doesC ⟨ck, ep, un, se, ki, ak⟩ ⟨act, n, ser, own, pe⟩ = ⟨a0, a1, a2, a3, a4, a5⟩) := hide (HQQ.out.trans (HDO.out.trans hr))
    clear hr HDO
    go_wp2_with fail
    refine tick_any.mono ?_
    rw [HR.out]
    simp only [GE.val, GE.row]
    rintro _ w1 ⟨rfl, b1⟩
    have HD1 := hide (HD0.out.later b1)
    clear HD0 b1 u0 u1 u2 u3 u4 u5 k0 k1 k2 k3 k4
    obtain ⟨_, _, _, _, _, _, u0, u1, u2, u3, u4, u5⟩ := six HD1.out.gbox
    obtain ⟨_, _, _, _, _, k0, k1, k2, k3, k4⟩ := five HD1.out.cbox
    simp only at u0 u1 u2 u3 u4 u5 k0 k1 k2 k3 k4
    go_upto_region 8 with fail
    obtain ⟨X, hX⟩ : ∃ X, X = w1.alloc (.cells #[.int .i64 a0, .int .i64 a1, .int .i64 a2, .int .i64 a3, .int .i64 a4, .int .i64 a5] 23 (0, 0)) := ⟨_, rfl⟩
    rw [← hX]
    have bX : Below w1.heap.size w1 X := by rw [hX]; exact alloc_below _ _
    obtain ⟨vB, hvB⟩ : ∃ vB, w1.heap.size = vB := ⟨_, rfl⟩
    have HvB : Hid (X.heap[vB]? = some (.cells #[.int .i64 a0, .int .i64 a1, .int .i64 a2, .int .i64 a3, .int .i64 a4, .int .i64 a5] 23 (0, 0))) := hide (by rw [hX, ← hvB]; exact heap_alloc_new w1 _)
    have HNvB : Hid (rB < vB) := hide (by rw [← hvB]; exact box_lt HD1.out.res)
    try rw [hvB]
    have HD2 := hide (HD1.out.later bX)
    clear hX hvB bX HD1 u0 u1 u2 u3 u4 u5 k0 k1 k2 k3 k4
    obtain ⟨_, _, _, _, _, _, u0, u1, u2, u3, u4, u5⟩ := six HD2.out.gbox
    obtain ⟨_, _, _, _, _, k0, k1, k2, k3, k4⟩ := five HD2.out.cbox
    simp only at u0 u1 u2 u3 u4 u5 k0 k1 k2 k3 k4
    obtain ⟨_, _, _, _, _, _, v0, v1, v2, v3, v4, v5⟩ := six HvB.out
    obtain ⟨f0, f1, f2, f3, f4, f5, r0, r1, r2, r3, r4, r5⟩ := six HD2.out.res
    have hne1 : rB ≠ gB := by have := HD2.out.lt; omega
    have hne2 : rB ≠ cB := by have := HD2.out.lt; omega
    have hne3 : rB ≠ vB := by have := HNvB.out; omega
    have hne4 : gB ≠ rB := hne1.symm
    have hne5 : cB ≠ rB := hne2.symm
    have hne6 : vB ≠ rB := hne3.symm
    have B0 : Below X.heap.size X X.drew := (Below.refl _ X).drew
    have HD3 := hide (HD2.out.later B0)
    have HvB3 := hide (below_box B0 HvB.out)
    refine wp_region_held_drew (S := fun w' => (w'.cell? ⟨vB, 0, none⟩ = some (.int .i64 a0) ∧ w'.cell? ⟨vB, 1, none⟩ = some (.int .i64 a1) ∧ w'.cell? ⟨vB, 2, none⟩ = some (.int .i64 a2) ∧ w'.cell? ⟨vB, 3, none⟩ = some (.int .i64 a3) ∧ w'.cell? ⟨vB, 4, none⟩ = some (.int .i64 a4) ∧ w'.cell? ⟨vB, 5, none⟩ = some (.int .i64 a5)) ∧ (w'.cell? ⟨gB, 0, none⟩ = some (.int .i64 ck) ∧ w'.cell? ⟨gB, 1, none⟩ = some (.int .i64 ep) ∧ w'.cell? ⟨gB, 2, none⟩ = some (.int .i64 un) ∧ w'.cell? ⟨gB, 3, none⟩ = some (.int .i64 se) ∧ w'.cell? ⟨gB, 4, none⟩ = some (.int .i64 ki) ∧ w'.cell? ⟨gB, 5, none⟩ = some (.int .i64 ak)) ∧ w'.cell? ⟨cB, 1, none⟩ = some (.int .i64 n)) (by kernel_rfl) ⟨⟨v0, v1, v2, v3, v4, v5⟩, ⟨u0, u1, u2, u3, u4, u5⟩, k1⟩ (fun hHeld => ?_)
    refine wpAnyH_take (i := 0) (oi := _) (v := ?_) rfl (by kernel_rfl) (by kernel_rfl) (by kernel_rfl) (fun _ _ _ h => h) (Or.inl ⟨by kernel_rfl, ?_⟩) (by assumption) ?_
    rotate_left
    · intro w hSw
      (try dsimp only at hSw)
      go_simp
      all_goals with_reducible rfl
    simp only [Act.put]
    refine wpAnyH_take (i := 1) (oi := _) (v := ?_) rfl (by kernel_rfl) (by kernel_rfl) (by kernel_rfl) (fun _ _ _ h => h) (Or.inl ⟨by kernel_rfl, ?_⟩) (by assumption) ?_
    rotate_left
    · intro w hSw
      (try dsimp only at hSw)
      go_simp
      all_goals with_reducible rfl
    simp only [Act.put]
    refine wpAnyH_take (i := 2) (oi := _) (v := ?_) rfl (by kernel_rfl) (by kernel_rfl) (by kernel_rfl) (fun _ _ _ h => h) (Or.inl ⟨by kernel_rfl, ?_⟩) (by assumption) ?_
    rotate_left
    · intro w hSw
      (try dsimp only at hSw)
      go_simp
      all_goals with_reducible rfl
    simp only [Act.put]
    refine wpAnyH_take (i := 3) (oi := _) (v := ?_) rfl (by kernel_rfl) (by kernel_rfl) (by kernel_rfl) (fun _ _ _ h => h) (Or.inl ⟨by kernel_rfl, ?_⟩) (by assumption) ?_
    rotate_left
    · intro w hSw
      (try dsimp only at hSw)
      go_simp
      all_goals with_reducible rfl
    simp only [Act.put]
    refine wpAnyH_take (i := 4) (oi := _) (v := ?_) rfl (by kernel_rfl) (by kernel_rfl) (by kernel_rfl) (fun _ _ _ h => h) (Or.inl ⟨by kernel_rfl, ?_⟩) (by assumption) ?_
    rotate_left
    · intro w hSw
      (try dsimp only at hSw)
      go_simp
      all_goals with_reducible rfl
    simp only [Act.put]
    refine wpAnyH_ready (rs := [5]) (by kernel_rfl) (by simp) ?_
    refine AllReadyH.cons (o := _) rfl (fun K hK => ?_) AllReadyH.nil
    go_simp
    refine rtick_any.mono ?_
    rw [HR.out]
    simp only [GE.val, GE.row]
    rintro _ y1 ⟨rfl, b1⟩
    have HD4 := hide (HD3.out.later b1)
    have HvB4 := hide (below_box b1 HvB3.out)
    clear b1 hHeld u0 u1 u2 u3 u4 u5 k0 k1 k2 k3 k4 v0 v1 v2 v3 v4 v5
    obtain ⟨_, _, _, _, _, _, u0, u1, u2, u3, u4, u5⟩ := six HD4.out.gbox
    obtain ⟨_, _, _, _, _, k0, k1, k2, k3, k4⟩ := five HD4.out.cbox
    obtain ⟨_, _, _, _, _, _, v0, v1, v2, v3, v4, v5⟩ := six HvB4.out
    simp only at u0 u1 u2 u3 u4 u5 k0 k1 k2 k3 k4
    obtain ⟨f0, f1, f2, f3, f4, f5, r0, r1, r2, r3, r4, r5⟩ := six HD4.out.res
    go_wp2_with fail
    refine hK.out _ _ ⟨⟨v0, v1, v2, v3, v4, v5⟩, ⟨u0, u1, u2, u3, u4, u5⟩, k1⟩ (fun hHeld => ?_)
    clear hK
    refine wpAnyH_take (i := 6) (oi := _) (v := ?_) rfl (by kernel_rfl) (by kernel_rfl) (by kernel_rfl) (fun _ _ _ h => h) (Or.inl ⟨by kernel_rfl, ?_⟩) (by assumption) ?_
    rotate_left
    · intro w hSw
      (try dsimp only at hSw)
      go_simp
      all_goals with_reducible rfl
    simp only [Act.put]
    refine wpAnyH_ready (rs := [7]) (by kernel_rfl) (by simp) ?_
    refine AllReadyH.cons (o := _) rfl (fun K hK => ?_) AllReadyH.nil
    go_simp
    refine hK.out _ _ (by go_keep) (fun hHeld => ?_)
    clear hK
    refine wpAnyH_ready (rs := [8]) (by kernel_rfl) (by simp) ?_
    refine AllReadyH.cons (o := _) rfl (fun K hK => ?_) AllReadyH.nil
    go_simp
    refine hK.out _ _ (by go_keep) (fun hHeld => ?_)
    clear hK
    refine wpAnyH_done (by kernel_rfl) ?_ _
    go_wp2
    have hE := (heap_set6 HD4.out.res (.int .i64 a0) (.int .i64 a1) (.int .i64 a2) (.int .i64 a3) (.int .i64 a4) (.int .i64 a5))
    refine bodyPost_ret (results_cell_two rfl _ _ rB 23 _ _ _ rfl hE Try.underlying23 rfl (by kernel_rfl)) rfl ?_
    refine ⟨by rw [HQ.out]; rfl, ?_⟩
    exact (HD4.out.below.trans ((only_set6 _ rB _ _ _ _ _ _).below (Nat.le_of_lt (box_lt HD4.out.gbox)) (fun i e => by have e' : i = rB := e; have := HD4.out.lt; omega)))
  · by_cases h1 : act = 1
    · have HDO : Hid (doC ⟨ck, ep, un, se, ki, ak⟩ ⟨act, n, sq, own, pq⟩ = (askG ⟨ck, ep, un, se, ki, ak⟩).1) := hide ((if_neg h0).trans (if_pos h1))
      have d0 : (act == 0) = false := ne_eqL h0
      have d1 : (act == 1) = true := by simpa using h1
      clear h0 h1
      obtain ⟨⟨⟨a0, a1, a2, a3, a4, a5⟩, o1, o2, o3⟩, hr⟩ : ∃ q, askG ⟨ck, ep, un, se, ki, ak⟩ = q := ⟨_, rfl⟩
      have HR := hide hr
      have HQ : Hid (doesC ⟨ck, ep, un, se, ki, ak⟩ ⟨act, n, ser, own, pe⟩ = ⟨a0, a1, a2, a3, a4, a5⟩) := hide (HQQ.out.trans (HDO.out.trans (by rw [hr])))
      clear hr HDO
      go_wp2_with fail
      refine ask_any.mono ?_
      rw [HR.out]
      simp only [GE.val, GE.row]
      rintro _ w1 ⟨rfl, b1⟩
      have HD1 := hide (HD0.out.later b1)
      clear HD0 b1 u0 u1 u2 u3 u4 u5 k0 k1 k2 k3 k4
      obtain ⟨_, _, _, _, _, _, u0, u1, u2, u3, u4, u5⟩ := six HD1.out.gbox
      obtain ⟨_, _, _, _, _, k0, k1, k2, k3, k4⟩ := five HD1.out.cbox
      simp only at u0 u1 u2 u3 u4 u5 k0 k1 k2 k3 k4
      go_upto_region 11 with fail
      obtain ⟨X, hX⟩ : ∃ X, X = w1.alloc (.cells #[.int .i64 a0, .int .i64 a1, .int .i64 a2, .int .i64 a3, .int .i64 a4, .int .i64 a5] 23 (0, 0)) := ⟨_, rfl⟩
      rw [← hX]
      have bX : Below w1.heap.size w1 X := by rw [hX]; exact alloc_below _ _
      obtain ⟨vB, hvB⟩ : ∃ vB, w1.heap.size = vB := ⟨_, rfl⟩
      have HvB : Hid (X.heap[vB]? = some (.cells #[.int .i64 a0, .int .i64 a1, .int .i64 a2, .int .i64 a3, .int .i64 a4, .int .i64 a5] 23 (0, 0))) := hide (by rw [hX, ← hvB]; exact heap_alloc_new w1 _)
      have HNvB : Hid (rB < vB) := hide (by rw [← hvB]; exact box_lt HD1.out.res)
      try rw [hvB]
      have HD2 := hide (HD1.out.later bX)
      clear hX hvB bX HD1 u0 u1 u2 u3 u4 u5 k0 k1 k2 k3 k4
      obtain ⟨_, _, _, _, _, _, u0, u1, u2, u3, u4, u5⟩ := six HD2.out.gbox
      obtain ⟨_, _, _, _, _, k0, k1, k2, k3, k4⟩ := five HD2.out.cbox
      simp only at u0 u1 u2 u3 u4 u5 k0 k1 k2 k3 k4
      go_wp2_with fail
      refine rask_any.mono ?_
      rw [HR.out]
      simp only [GE.val, GE.row]
      rintro _ w2 ⟨rfl, b1⟩
      have HD3 := hide (HD2.out.later b1)
      have HvB2 := hide (below_box b1 HvB.out)
      clear HD2 HvB b1 u0 u1 u2 u3 u4 u5 k0 k1 k2 k3 k4
      go_upto_region 12 with fail
      obtain ⟨Y, hY⟩ : ∃ Y, Y = w2.alloc (.cells #[.int .i64 a0, .int .i64 a1, .int .i64 a2, .int .i64 a3, .int .i64 a4, .int .i64 a5] 23 (0, 0)) := ⟨_, rfl⟩
      rw [← hY]
      have bY : Below w2.heap.size w2 Y := by rw [hY]; exact alloc_below _ _
      obtain ⟨yB, hyB⟩ : ∃ yB, w2.heap.size = yB := ⟨_, rfl⟩
      have HyB : Hid (Y.heap[yB]? = some (.cells #[.int .i64 a0, .int .i64 a1, .int .i64 a2, .int .i64 a3, .int .i64 a4, .int .i64 a5] 23 (0, 0))) := hide (by rw [hY, ← hyB]; exact heap_alloc_new w2 _)
      have HNyB : Hid (rB < yB) := hide (by rw [← hyB]; exact box_lt HD3.out.res)
      try rw [hyB]
      have HD4 := hide (HD3.out.later bY)
      have HvB3 := hide (below_box bY HvB2.out)
      clear hY hyB bY HD3 HvB2
      obtain ⟨_, _, _, _, _, _, v0, v1, v2, v3, v4, v5⟩ := six HvB3.out
      obtain ⟨_, _, _, _, _, _, y0, y1, y2, y3, y4, y5⟩ := six HyB.out
      obtain ⟨f0, f1, f2, f3, f4, f5, r0, r1, r2, r3, r4, r5⟩ := six HD4.out.res
      have hne3 : rB ≠ vB := by have := HNvB.out; omega
      have hne6 : vB ≠ rB := hne3.symm
      have hne7 : rB ≠ yB := by have := HNyB.out; omega
      have hne8 : yB ≠ rB := hne7.symm
      refine wp_region_held_drew (S := fun w' => (w'.cell? ⟨vB, 0, none⟩ = some (.int .i64 a0) ∧ w'.cell? ⟨vB, 1, none⟩ = some (.int .i64 a1) ∧ w'.cell? ⟨vB, 2, none⟩ = some (.int .i64 a2) ∧ w'.cell? ⟨vB, 3, none⟩ = some (.int .i64 a3) ∧ w'.cell? ⟨vB, 4, none⟩ = some (.int .i64 a4) ∧ w'.cell? ⟨vB, 5, none⟩ = some (.int .i64 a5)) ∧ (w'.cell? ⟨yB, 0, none⟩ = some (.int .i64 a0) ∧ w'.cell? ⟨yB, 1, none⟩ = some (.int .i64 a1) ∧ w'.cell? ⟨yB, 2, none⟩ = some (.int .i64 a2) ∧ w'.cell? ⟨yB, 3, none⟩ = some (.int .i64 a3) ∧ w'.cell? ⟨yB, 4, none⟩ = some (.int .i64 a4) ∧ w'.cell? ⟨yB, 5, none⟩ = some (.int .i64 a5))) (by kernel_rfl) ⟨⟨v0, v1, v2, v3, v4, v5⟩, ⟨y0, y1, y2, y3, y4, y5⟩⟩ (fun hHeld => ?_)
      refine wpAnyH_take (i := 0) (oi := _) (v := ?_) rfl (by kernel_rfl) (by kernel_rfl) (by kernel_rfl) (fun _ _ _ h => h) (Or.inl ⟨by kernel_rfl, ?_⟩) (by assumption) ?_
      rotate_left
      · intro w hSw
        (try dsimp only at hSw)
        go_simp
        all_goals with_reducible rfl
      simp only [Act.put]
      refine wpAnyH_take (i := 1) (oi := _) (v := ?_) rfl (by kernel_rfl) (by kernel_rfl) (by kernel_rfl) (fun _ _ _ h => h) (Or.inl ⟨by kernel_rfl, ?_⟩) (by assumption) ?_
      rotate_left
      · intro w hSw
        (try dsimp only at hSw)
        go_simp
        all_goals with_reducible rfl
      simp only [Act.put]
      refine wpAnyH_take (i := 2) (oi := _) (v := ?_) rfl (by kernel_rfl) (by kernel_rfl) (by kernel_rfl) (fun _ _ _ h => h) (Or.inl ⟨by kernel_rfl, ?_⟩) (by assumption) ?_
      rotate_left
      · intro w hSw
        (try dsimp only at hSw)
        go_simp
        all_goals with_reducible rfl
      simp only [Act.put]
      refine wpAnyH_take (i := 3) (oi := _) (v := ?_) rfl (by kernel_rfl) (by kernel_rfl) (by kernel_rfl) (fun _ _ _ h => h) (Or.inl ⟨by kernel_rfl, ?_⟩) (by assumption) ?_
      rotate_left
      · intro w hSw
        (try dsimp only at hSw)
        go_simp
        all_goals with_reducible rfl
      simp only [Act.put]
      refine wpAnyH_take (i := 4) (oi := _) (v := ?_) rfl (by kernel_rfl) (by kernel_rfl) (by kernel_rfl) (fun _ _ _ h => h) (Or.inl ⟨by kernel_rfl, ?_⟩) (by assumption) ?_
      rotate_left
      · intro w hSw
        (try dsimp only at hSw)
        go_simp
        all_goals with_reducible rfl
      simp only [Act.put]
      refine wpAnyH_take (i := 5) (oi := _) (v := ?_) rfl (by kernel_rfl) (by kernel_rfl) (by kernel_rfl) (fun _ _ _ h => h) (Or.inl ⟨by kernel_rfl, ?_⟩) (by assumption) ?_
      rotate_left
      · intro w hSw
        (try dsimp only at hSw)
        go_simp
        all_goals with_reducible rfl
      simp only [Act.put]
      refine wpAnyH_take (i := 6) (oi := _) (v := ?_) rfl (by kernel_rfl) (by kernel_rfl) (by kernel_rfl) (fun _ _ _ h => h) (Or.inl ⟨by kernel_rfl, ?_⟩) (by assumption) ?_
      rotate_left
      · intro w hSw
        (try dsimp only at hSw)
        go_simp
        all_goals with_reducible rfl
      simp only [Act.put]
      refine wpAnyH_take (i := 7) (oi := _) (v := ?_) rfl (by kernel_rfl) (by kernel_rfl) (by kernel_rfl) (fun _ _ _ h => h) (Or.inl ⟨by kernel_rfl, ?_⟩) (by assumption) ?_
      rotate_left
      · intro w hSw
        (try dsimp only at hSw)
        go_simp
        all_goals with_reducible rfl
      simp only [Act.put]
      refine wpAnyH_take (i := 8) (oi := _) (v := ?_) rfl (by kernel_rfl) (by kernel_rfl) (by kernel_rfl) (fun _ _ _ h => h) (Or.inl ⟨by kernel_rfl, ?_⟩) (by assumption) ?_
      rotate_left
      · intro w hSw
        (try dsimp only at hSw)
        go_simp
        all_goals with_reducible rfl
      simp only [Act.put]
      refine wpAnyH_take (i := 9) (oi := _) (v := ?_) rfl (by kernel_rfl) (by kernel_rfl) (by kernel_rfl) (fun _ _ _ h => h) (Or.inl ⟨by kernel_rfl, ?_⟩) (by assumption) ?_
      rotate_left
      · intro w hSw
        (try dsimp only at hSw)
        go_simp
        all_goals with_reducible rfl
      simp only [Act.put]
      refine wpAnyH_take (i := 10) (oi := _) (v := ?_) rfl (by kernel_rfl) (by kernel_rfl) (by kernel_rfl) (fun _ _ _ h => h) (Or.inl ⟨by kernel_rfl, ?_⟩) (by assumption) ?_
      rotate_left
      · intro w hSw
        (try dsimp only at hSw)
        go_simp
        all_goals with_reducible rfl
      simp only [Act.put]
      refine wpAnyH_take (i := 11) (oi := _) (v := ?_) rfl (by kernel_rfl) (by kernel_rfl) (by kernel_rfl) (fun _ _ _ h => h) (Or.inl ⟨by kernel_rfl, ?_⟩) (by assumption) ?_
      rotate_left
      · intro w hSw
        (try dsimp only at hSw)
        go_simp
        all_goals with_reducible rfl
      simp only [Act.put]
      refine wpAnyH_take (i := 12) (oi := _) (v := ?_) rfl (by kernel_rfl) (by kernel_rfl) (by kernel_rfl) (fun _ _ _ h => h) (Or.inl ⟨by kernel_rfl, ?_⟩) (by assumption) ?_
      rotate_left
      · intro w hSw
        (try dsimp only at hSw)
        go_simp
        all_goals with_reducible rfl
      simp only [Act.put]
      refine wpAnyH_take (i := 13) (oi := _) (v := ?_) rfl (by kernel_rfl) (by kernel_rfl) (by kernel_rfl) (fun _ _ _ h => h) (Or.inl ⟨by kernel_rfl, ?_⟩) (by assumption) ?_
      rotate_left
      · intro w hSw
        (try dsimp only at hSw)
        go_simp
        all_goals with_reducible rfl
      simp only [Act.put]
      refine wpAnyH_take (i := 14) (oi := _) (v := ?_) rfl (by kernel_rfl) (by kernel_rfl) (by kernel_rfl) (fun _ _ _ h => h) (Or.inl ⟨by kernel_rfl, ?_⟩) (by assumption) ?_
      rotate_left
      · intro w hSw
        (try dsimp only at hSw)
        go_simp
        all_goals with_reducible rfl
      simp only [Act.put]
      refine wpAnyH_take (i := 15) (oi := _) (v := ?_) rfl (by kernel_rfl) (by kernel_rfl) (by kernel_rfl) (fun _ _ _ h => h) (Or.inl ⟨by kernel_rfl, ?_⟩) (by assumption) ?_
      rotate_left
      · intro w hSw
        (try dsimp only at hSw)
        go_simp
        all_goals with_reducible rfl
      simp only [Act.put]
      refine wpAnyH_take (i := 16) (oi := _) (v := ?_) rfl (by kernel_rfl) (by kernel_rfl) (by kernel_rfl) (fun _ _ _ h => h) (Or.inl ⟨by kernel_rfl, ?_⟩) (by assumption) ?_
      rotate_left
      · intro w hSw
        (try dsimp only at hSw)
        go_simp
        all_goals with_reducible rfl
      simp only [Act.put]
      refine wpAnyH_take (i := 17) (oi := _) (v := ?_) rfl (by kernel_rfl) (by kernel_rfl) (by kernel_rfl) (fun _ _ _ h => h) (Or.inl ⟨by kernel_rfl, ?_⟩) (by assumption) ?_
      rotate_left
      · intro w hSw
        (try dsimp only at hSw)
        go_simp
        all_goals with_reducible rfl
      simp only [Act.put]
      refine wpAnyH_take (i := 18) (oi := _) (v := ?_) rfl (by kernel_rfl) (by kernel_rfl) (by kernel_rfl) (fun _ _ _ h => h) (Or.inl ⟨by kernel_rfl, ?_⟩) (by assumption) ?_
      rotate_left
      · intro w hSw
        (try dsimp only at hSw)
        go_simp
        all_goals with_reducible rfl
      simp only [Act.put]
      refine wpAnyH_ready (rs := [19]) (by kernel_rfl) (by simp) ?_
      refine AllReadyH.cons (o := _) rfl (fun K hK => ?_) AllReadyH.nil
      go_simp
      refine hK.out _ _ (by go_keep) (fun hHeld => ?_)
      clear hK
      refine wpAnyH_ready (rs := [20]) (by kernel_rfl) (by simp) ?_
      refine AllReadyH.cons (o := _) rfl (fun K hK => ?_) AllReadyH.nil
      go_simp
      refine hK.out _ _ (by go_keep) (fun hHeld => ?_)
      clear hK
      refine wpAnyH_done (by kernel_rfl) ?_ _
      go_wp2
      have hE := drew1_heap (heap_set6 HD4.out.res (.int .i64 a0) (.int .i64 a1) (.int .i64 a2) (.int .i64 a3) (.int .i64 a4) (.int .i64 a5))
      refine bodyPost_ret (results_cell_two rfl _ _ rB 23 _ _ _ rfl hE Try.underlying23 rfl (by kernel_rfl)) rfl ?_
      refine ⟨by rw [HQ.out]; rfl, ?_⟩
      exact below_drew1 (HD4.out.below.trans ((only_set6 _ rB _ _ _ _ _ _).below (Nat.le_of_lt (box_lt HD4.out.gbox)) (fun i e => by have e' : i = rB := e; have := HD4.out.lt; omega)))
    · by_cases h2 : act = 2
      · have HDO : Hid (doC ⟨ck, ep, un, se, ki, ak⟩ ⟨act, n, sq, own, pq⟩ = (grnG ⟨ck, ep, un, se, ki, ak⟩ sq pq).1) := hide ((if_neg h0).trans ((if_neg h1).trans (if_pos h2)))
        have d0 : (act == 0) = false := ne_eqL h0
        have d1 : (act == 1) = false := ne_eqL h1
        have d2 : (act == 2) = true := by simpa using h2
        clear h0 h1 h2
        obtain ⟨⟨⟨a0, a1, a2, a3, a4, a5⟩, o1⟩, hr⟩ : ∃ q, grnG ⟨ck, ep, un, se, ki, ak⟩ sq pq = q := ⟨_, rfl⟩
        have HR := hide hr
        have HQ : Hid (doesC ⟨ck, ep, un, se, ki, ak⟩ ⟨act, n, ser, own, pe⟩ = ⟨a0, a1, a2, a3, a4, a5⟩) := hide (HQQ.out.trans (HDO.out.trans (by rw [hr])))
        clear hr HDO
        go_wp2_with fail
        refine grn_any.mono ?_
        rw [HR.out]
        simp only [GE.val, GE.row]
        rintro _ w1 ⟨rfl, b1⟩
        have HD1 := hide (HD0.out.later b1)
        clear HD0 b1 u0 u1 u2 u3 u4 u5 k0 k1 k2 k3 k4
        obtain ⟨_, _, _, _, _, _, u0, u1, u2, u3, u4, u5⟩ := six HD1.out.gbox
        obtain ⟨_, _, _, _, _, k0, k1, k2, k3, k4⟩ := five HD1.out.cbox
        simp only at u0 u1 u2 u3 u4 u5 k0 k1 k2 k3 k4
        go_upto_region 15 with fail
        obtain ⟨X, hX⟩ : ∃ X, X = w1.alloc (.cells #[.int .i64 a0, .int .i64 a1, .int .i64 a2, .int .i64 a3, .int .i64 a4, .int .i64 a5] 23 (0, 0)) := ⟨_, rfl⟩
        rw [← hX]
        have bX : Below w1.heap.size w1 X := by rw [hX]; exact alloc_below _ _
        obtain ⟨vB, hvB⟩ : ∃ vB, w1.heap.size = vB := ⟨_, rfl⟩
        have HvB : Hid (X.heap[vB]? = some (.cells #[.int .i64 a0, .int .i64 a1, .int .i64 a2, .int .i64 a3, .int .i64 a4, .int .i64 a5] 23 (0, 0))) := hide (by rw [hX, ← hvB]; exact heap_alloc_new w1 _)
        have HNvB : Hid (rB < vB) := hide (by rw [← hvB]; exact box_lt HD1.out.res)
        try rw [hvB]
        have HD2 := hide (HD1.out.later bX)
        clear hX hvB bX HD1 u0 u1 u2 u3 u4 u5 k0 k1 k2 k3 k4
        obtain ⟨_, _, _, _, _, _, u0, u1, u2, u3, u4, u5⟩ := six HD2.out.gbox
        obtain ⟨_, _, _, _, _, k0, k1, k2, k3, k4⟩ := five HD2.out.cbox
        simp only at u0 u1 u2 u3 u4 u5 k0 k1 k2 k3 k4
        go_wp2_with fail
        refine rgrn_any.mono ?_
        rw [HR.out]
        simp only [GE.val, GE.row]
        rintro _ w2 ⟨rfl, b1⟩
        have HD3 := hide (HD2.out.later b1)
        have HvB2 := hide (below_box b1 HvB.out)
        clear HD2 HvB b1 u0 u1 u2 u3 u4 u5 k0 k1 k2 k3 k4
        go_upto_region 16 with fail
        obtain ⟨Y, hY⟩ : ∃ Y, Y = w2.alloc (.cells #[.int .i64 a0, .int .i64 a1, .int .i64 a2, .int .i64 a3, .int .i64 a4, .int .i64 a5] 23 (0, 0)) := ⟨_, rfl⟩
        rw [← hY]
        have bY : Below w2.heap.size w2 Y := by rw [hY]; exact alloc_below _ _
        obtain ⟨yB, hyB⟩ : ∃ yB, w2.heap.size = yB := ⟨_, rfl⟩
        have HyB : Hid (Y.heap[yB]? = some (.cells #[.int .i64 a0, .int .i64 a1, .int .i64 a2, .int .i64 a3, .int .i64 a4, .int .i64 a5] 23 (0, 0))) := hide (by rw [hY, ← hyB]; exact heap_alloc_new w2 _)
        have HNyB : Hid (rB < yB) := hide (by rw [← hyB]; exact box_lt HD3.out.res)
        try rw [hyB]
        have HD4 := hide (HD3.out.later bY)
        have HvB3 := hide (below_box bY HvB2.out)
        clear hY hyB bY HD3 HvB2
        obtain ⟨_, _, _, _, _, _, v0, v1, v2, v3, v4, v5⟩ := six HvB3.out
        obtain ⟨_, _, _, _, _, _, y0, y1, y2, y3, y4, y5⟩ := six HyB.out
        obtain ⟨f0, f1, f2, f3, f4, f5, r0, r1, r2, r3, r4, r5⟩ := six HD4.out.res
        have hne3 : rB ≠ vB := by have := HNvB.out; omega
        have hne6 : vB ≠ rB := hne3.symm
        have hne7 : rB ≠ yB := by have := HNyB.out; omega
        have hne8 : yB ≠ rB := hne7.symm
        refine wp_region_held_drew (S := fun w' => (w'.cell? ⟨vB, 0, none⟩ = some (.int .i64 a0) ∧ w'.cell? ⟨vB, 1, none⟩ = some (.int .i64 a1) ∧ w'.cell? ⟨vB, 2, none⟩ = some (.int .i64 a2) ∧ w'.cell? ⟨vB, 3, none⟩ = some (.int .i64 a3) ∧ w'.cell? ⟨vB, 4, none⟩ = some (.int .i64 a4) ∧ w'.cell? ⟨vB, 5, none⟩ = some (.int .i64 a5)) ∧ (w'.cell? ⟨yB, 0, none⟩ = some (.int .i64 a0) ∧ w'.cell? ⟨yB, 1, none⟩ = some (.int .i64 a1) ∧ w'.cell? ⟨yB, 2, none⟩ = some (.int .i64 a2) ∧ w'.cell? ⟨yB, 3, none⟩ = some (.int .i64 a3) ∧ w'.cell? ⟨yB, 4, none⟩ = some (.int .i64 a4) ∧ w'.cell? ⟨yB, 5, none⟩ = some (.int .i64 a5))) (by kernel_rfl) ⟨⟨v0, v1, v2, v3, v4, v5⟩, ⟨y0, y1, y2, y3, y4, y5⟩⟩ (fun hHeld => ?_)
        refine wpAnyH_take (i := 0) (oi := _) (v := ?_) rfl (by kernel_rfl) (by kernel_rfl) (by kernel_rfl) (fun _ _ _ h => h) (Or.inl ⟨by kernel_rfl, ?_⟩) (by assumption) ?_
        rotate_left
        · intro w hSw
          (try dsimp only at hSw)
          go_simp
          all_goals with_reducible rfl
        simp only [Act.put]
        refine wpAnyH_take (i := 1) (oi := _) (v := ?_) rfl (by kernel_rfl) (by kernel_rfl) (by kernel_rfl) (fun _ _ _ h => h) (Or.inl ⟨by kernel_rfl, ?_⟩) (by assumption) ?_
        rotate_left
        · intro w hSw
          (try dsimp only at hSw)
          go_simp
          all_goals with_reducible rfl
        simp only [Act.put]
        refine wpAnyH_take (i := 2) (oi := _) (v := ?_) rfl (by kernel_rfl) (by kernel_rfl) (by kernel_rfl) (fun _ _ _ h => h) (Or.inl ⟨by kernel_rfl, ?_⟩) (by assumption) ?_
        rotate_left
        · intro w hSw
          (try dsimp only at hSw)
          go_simp
          all_goals with_reducible rfl
        simp only [Act.put]
        refine wpAnyH_take (i := 3) (oi := _) (v := ?_) rfl (by kernel_rfl) (by kernel_rfl) (by kernel_rfl) (fun _ _ _ h => h) (Or.inl ⟨by kernel_rfl, ?_⟩) (by assumption) ?_
        rotate_left
        · intro w hSw
          (try dsimp only at hSw)
          go_simp
          all_goals with_reducible rfl
        simp only [Act.put]
        refine wpAnyH_take (i := 4) (oi := _) (v := ?_) rfl (by kernel_rfl) (by kernel_rfl) (by kernel_rfl) (fun _ _ _ h => h) (Or.inl ⟨by kernel_rfl, ?_⟩) (by assumption) ?_
        rotate_left
        · intro w hSw
          (try dsimp only at hSw)
          go_simp
          all_goals with_reducible rfl
        simp only [Act.put]
        refine wpAnyH_take (i := 5) (oi := _) (v := ?_) rfl (by kernel_rfl) (by kernel_rfl) (by kernel_rfl) (fun _ _ _ h => h) (Or.inl ⟨by kernel_rfl, ?_⟩) (by assumption) ?_
        rotate_left
        · intro w hSw
          (try dsimp only at hSw)
          go_simp
          all_goals with_reducible rfl
        simp only [Act.put]
        refine wpAnyH_take (i := 6) (oi := _) (v := ?_) rfl (by kernel_rfl) (by kernel_rfl) (by kernel_rfl) (fun _ _ _ h => h) (Or.inl ⟨by kernel_rfl, ?_⟩) (by assumption) ?_
        rotate_left
        · intro w hSw
          (try dsimp only at hSw)
          go_simp
          all_goals with_reducible rfl
        simp only [Act.put]
        refine wpAnyH_take (i := 7) (oi := _) (v := ?_) rfl (by kernel_rfl) (by kernel_rfl) (by kernel_rfl) (fun _ _ _ h => h) (Or.inl ⟨by kernel_rfl, ?_⟩) (by assumption) ?_
        rotate_left
        · intro w hSw
          (try dsimp only at hSw)
          go_simp
          all_goals with_reducible rfl
        simp only [Act.put]
        refine wpAnyH_take (i := 8) (oi := _) (v := ?_) rfl (by kernel_rfl) (by kernel_rfl) (by kernel_rfl) (fun _ _ _ h => h) (Or.inl ⟨by kernel_rfl, ?_⟩) (by assumption) ?_
        rotate_left
        · intro w hSw
          (try dsimp only at hSw)
          go_simp
          all_goals with_reducible rfl
        simp only [Act.put]
        refine wpAnyH_ready (rs := [9]) (by kernel_rfl) (by simp) ?_
        refine AllReadyH.cons (o := _) rfl (fun K hK => ?_) AllReadyH.nil
        go_simp
        refine hK.out _ _ (by go_keep) (fun hHeld => ?_)
        clear hK
        refine wpAnyH_ready (rs := [10]) (by kernel_rfl) (by simp) ?_
        refine AllReadyH.cons (o := _) rfl (fun K hK => ?_) AllReadyH.nil
        go_simp
        refine hK.out _ _ (by go_keep) (fun hHeld => ?_)
        clear hK
        refine wpAnyH_done (by kernel_rfl) ?_ _
        go_wp2
        have hE := drew1_heap (heap_set6 HD4.out.res (.int .i64 a0) (.int .i64 a1) (.int .i64 a2) (.int .i64 a3) (.int .i64 a4) (.int .i64 a5))
        refine bodyPost_ret (results_cell_two rfl _ _ rB 23 _ _ _ rfl hE Try.underlying23 rfl (by kernel_rfl)) rfl ?_
        refine ⟨by rw [HQ.out]; rfl, ?_⟩
        exact below_drew1 (HD4.out.below.trans ((only_set6 _ rB _ _ _ _ _ _).below (Nat.le_of_lt (box_lt HD4.out.gbox)) (fun i e => by have e' : i = rB := e; have := HD4.out.lt; omega)))
      · by_cases h3 : act = 3
        · have HDO : Hid (doC ⟨ck, ep, un, se, ki, ak⟩ ⟨act, n, sq, own, pq⟩ = (rfsG ⟨ck, ep, un, se, ki, ak⟩ sq).1) := hide ((if_neg h0).trans ((if_neg h1).trans ((if_neg h2).trans (if_pos h3))))
          have d0 : (act == 0) = false := ne_eqL h0
          have d1 : (act == 1) = false := ne_eqL h1
          have d2 : (act == 2) = false := ne_eqL h2
          have d3 : (act == 3) = true := by simpa using h3
          clear h0 h1 h2 h3
          obtain ⟨⟨⟨a0, a1, a2, a3, a4, a5⟩, o1⟩, hr⟩ : ∃ q, rfsG ⟨ck, ep, un, se, ki, ak⟩ sq = q := ⟨_, rfl⟩
          have HR := hide hr
          have HQ : Hid (doesC ⟨ck, ep, un, se, ki, ak⟩ ⟨act, n, ser, own, pe⟩ = ⟨a0, a1, a2, a3, a4, a5⟩) := hide (HQQ.out.trans (HDO.out.trans (by rw [hr])))
          clear hr HDO
          go_wp2_with fail
          refine rfs_any.mono ?_
          rw [HR.out]
          simp only [GE.val, GE.row]
          rintro _ w1 ⟨rfl, b1⟩
          have HD1 := hide (HD0.out.later b1)
          clear HD0 b1 u0 u1 u2 u3 u4 u5 k0 k1 k2 k3 k4
          obtain ⟨_, _, _, _, _, _, u0, u1, u2, u3, u4, u5⟩ := six HD1.out.gbox
          obtain ⟨_, _, _, _, _, k0, k1, k2, k3, k4⟩ := five HD1.out.cbox
          simp only at u0 u1 u2 u3 u4 u5 k0 k1 k2 k3 k4
          go_upto_region 19 with fail
          obtain ⟨X, hX⟩ : ∃ X, X = w1.alloc (.cells #[.int .i64 a0, .int .i64 a1, .int .i64 a2, .int .i64 a3, .int .i64 a4, .int .i64 a5] 23 (0, 0)) := ⟨_, rfl⟩
          rw [← hX]
          have bX : Below w1.heap.size w1 X := by rw [hX]; exact alloc_below _ _
          obtain ⟨vB, hvB⟩ : ∃ vB, w1.heap.size = vB := ⟨_, rfl⟩
          have HvB : Hid (X.heap[vB]? = some (.cells #[.int .i64 a0, .int .i64 a1, .int .i64 a2, .int .i64 a3, .int .i64 a4, .int .i64 a5] 23 (0, 0))) := hide (by rw [hX, ← hvB]; exact heap_alloc_new w1 _)
          have HNvB : Hid (rB < vB) := hide (by rw [← hvB]; exact box_lt HD1.out.res)
          try rw [hvB]
          have HD2 := hide (HD1.out.later bX)
          clear hX hvB bX HD1 u0 u1 u2 u3 u4 u5 k0 k1 k2 k3 k4
          obtain ⟨_, _, _, _, _, _, u0, u1, u2, u3, u4, u5⟩ := six HD2.out.gbox
          obtain ⟨_, _, _, _, _, k0, k1, k2, k3, k4⟩ := five HD2.out.cbox
          simp only at u0 u1 u2 u3 u4 u5 k0 k1 k2 k3 k4
          go_wp2_with fail
          refine rrfs_any.mono ?_
          rw [HR.out]
          simp only [GE.val, GE.row]
          rintro _ w2 ⟨rfl, b1⟩
          have HD3 := hide (HD2.out.later b1)
          have HvB2 := hide (below_box b1 HvB.out)
          clear HD2 HvB b1 u0 u1 u2 u3 u4 u5 k0 k1 k2 k3 k4
          go_upto_region 20 with fail
          obtain ⟨Y, hY⟩ : ∃ Y, Y = w2.alloc (.cells #[.int .i64 a0, .int .i64 a1, .int .i64 a2, .int .i64 a3, .int .i64 a4, .int .i64 a5] 23 (0, 0)) := ⟨_, rfl⟩
          rw [← hY]
          have bY : Below w2.heap.size w2 Y := by rw [hY]; exact alloc_below _ _
          obtain ⟨yB, hyB⟩ : ∃ yB, w2.heap.size = yB := ⟨_, rfl⟩
          have HyB : Hid (Y.heap[yB]? = some (.cells #[.int .i64 a0, .int .i64 a1, .int .i64 a2, .int .i64 a3, .int .i64 a4, .int .i64 a5] 23 (0, 0))) := hide (by rw [hY, ← hyB]; exact heap_alloc_new w2 _)
          have HNyB : Hid (rB < yB) := hide (by rw [← hyB]; exact box_lt HD3.out.res)
          try rw [hyB]
          have HD4 := hide (HD3.out.later bY)
          have HvB3 := hide (below_box bY HvB2.out)
          clear hY hyB bY HD3 HvB2
          obtain ⟨_, _, _, _, _, _, v0, v1, v2, v3, v4, v5⟩ := six HvB3.out
          obtain ⟨_, _, _, _, _, _, y0, y1, y2, y3, y4, y5⟩ := six HyB.out
          obtain ⟨f0, f1, f2, f3, f4, f5, r0, r1, r2, r3, r4, r5⟩ := six HD4.out.res
          have hne3 : rB ≠ vB := by have := HNvB.out; omega
          have hne6 : vB ≠ rB := hne3.symm
          have hne7 : rB ≠ yB := by have := HNyB.out; omega
          have hne8 : yB ≠ rB := hne7.symm
          refine wp_region_held_drew (S := fun w' => (w'.cell? ⟨vB, 0, none⟩ = some (.int .i64 a0) ∧ w'.cell? ⟨vB, 1, none⟩ = some (.int .i64 a1) ∧ w'.cell? ⟨vB, 2, none⟩ = some (.int .i64 a2) ∧ w'.cell? ⟨vB, 3, none⟩ = some (.int .i64 a3) ∧ w'.cell? ⟨vB, 4, none⟩ = some (.int .i64 a4) ∧ w'.cell? ⟨vB, 5, none⟩ = some (.int .i64 a5)) ∧ (w'.cell? ⟨yB, 0, none⟩ = some (.int .i64 a0) ∧ w'.cell? ⟨yB, 1, none⟩ = some (.int .i64 a1) ∧ w'.cell? ⟨yB, 2, none⟩ = some (.int .i64 a2) ∧ w'.cell? ⟨yB, 3, none⟩ = some (.int .i64 a3) ∧ w'.cell? ⟨yB, 4, none⟩ = some (.int .i64 a4) ∧ w'.cell? ⟨yB, 5, none⟩ = some (.int .i64 a5))) (by kernel_rfl) ⟨⟨v0, v1, v2, v3, v4, v5⟩, ⟨y0, y1, y2, y3, y4, y5⟩⟩ (fun hHeld => ?_)
          refine wpAnyH_take (i := 0) (oi := _) (v := ?_) rfl (by kernel_rfl) (by kernel_rfl) (by kernel_rfl) (fun _ _ _ h => h) (Or.inl ⟨by kernel_rfl, ?_⟩) (by assumption) ?_
          rotate_left
          · intro w hSw
            (try dsimp only at hSw)
            go_simp
            all_goals with_reducible rfl
          simp only [Act.put]
          refine wpAnyH_take (i := 1) (oi := _) (v := ?_) rfl (by kernel_rfl) (by kernel_rfl) (by kernel_rfl) (fun _ _ _ h => h) (Or.inl ⟨by kernel_rfl, ?_⟩) (by assumption) ?_
          rotate_left
          · intro w hSw
            (try dsimp only at hSw)
            go_simp
            all_goals with_reducible rfl
          simp only [Act.put]
          refine wpAnyH_take (i := 2) (oi := _) (v := ?_) rfl (by kernel_rfl) (by kernel_rfl) (by kernel_rfl) (fun _ _ _ h => h) (Or.inl ⟨by kernel_rfl, ?_⟩) (by assumption) ?_
          rotate_left
          · intro w hSw
            (try dsimp only at hSw)
            go_simp
            all_goals with_reducible rfl
          simp only [Act.put]
          refine wpAnyH_take (i := 3) (oi := _) (v := ?_) rfl (by kernel_rfl) (by kernel_rfl) (by kernel_rfl) (fun _ _ _ h => h) (Or.inl ⟨by kernel_rfl, ?_⟩) (by assumption) ?_
          rotate_left
          · intro w hSw
            (try dsimp only at hSw)
            go_simp
            all_goals with_reducible rfl
          simp only [Act.put]
          refine wpAnyH_take (i := 4) (oi := _) (v := ?_) rfl (by kernel_rfl) (by kernel_rfl) (by kernel_rfl) (fun _ _ _ h => h) (Or.inl ⟨by kernel_rfl, ?_⟩) (by assumption) ?_
          rotate_left
          · intro w hSw
            (try dsimp only at hSw)
            go_simp
            all_goals with_reducible rfl
          simp only [Act.put]
          refine wpAnyH_take (i := 5) (oi := _) (v := ?_) rfl (by kernel_rfl) (by kernel_rfl) (by kernel_rfl) (fun _ _ _ h => h) (Or.inl ⟨by kernel_rfl, ?_⟩) (by assumption) ?_
          rotate_left
          · intro w hSw
            (try dsimp only at hSw)
            go_simp
            all_goals with_reducible rfl
          simp only [Act.put]
          refine wpAnyH_take (i := 6) (oi := _) (v := ?_) rfl (by kernel_rfl) (by kernel_rfl) (by kernel_rfl) (fun _ _ _ h => h) (Or.inl ⟨by kernel_rfl, ?_⟩) (by assumption) ?_
          rotate_left
          · intro w hSw
            (try dsimp only at hSw)
            go_simp
            all_goals with_reducible rfl
          simp only [Act.put]
          refine wpAnyH_take (i := 7) (oi := _) (v := ?_) rfl (by kernel_rfl) (by kernel_rfl) (by kernel_rfl) (fun _ _ _ h => h) (Or.inl ⟨by kernel_rfl, ?_⟩) (by assumption) ?_
          rotate_left
          · intro w hSw
            (try dsimp only at hSw)
            go_simp
            all_goals with_reducible rfl
          simp only [Act.put]
          refine wpAnyH_take (i := 8) (oi := _) (v := ?_) rfl (by kernel_rfl) (by kernel_rfl) (by kernel_rfl) (fun _ _ _ h => h) (Or.inl ⟨by kernel_rfl, ?_⟩) (by assumption) ?_
          rotate_left
          · intro w hSw
            (try dsimp only at hSw)
            go_simp
            all_goals with_reducible rfl
          simp only [Act.put]
          refine wpAnyH_ready (rs := [9]) (by kernel_rfl) (by simp) ?_
          refine AllReadyH.cons (o := _) rfl (fun K hK => ?_) AllReadyH.nil
          go_simp
          refine hK.out _ _ (by go_keep) (fun hHeld => ?_)
          clear hK
          refine wpAnyH_ready (rs := [10]) (by kernel_rfl) (by simp) ?_
          refine AllReadyH.cons (o := _) rfl (fun K hK => ?_) AllReadyH.nil
          go_simp
          refine hK.out _ _ (by go_keep) (fun hHeld => ?_)
          clear hK
          refine wpAnyH_done (by kernel_rfl) ?_ _
          go_wp2
          have hE := drew1_heap (heap_set6 HD4.out.res (.int .i64 a0) (.int .i64 a1) (.int .i64 a2) (.int .i64 a3) (.int .i64 a4) (.int .i64 a5))
          refine bodyPost_ret (results_cell_two rfl _ _ rB 23 _ _ _ rfl hE Try.underlying23 rfl (by kernel_rfl)) rfl ?_
          refine ⟨by rw [HQ.out]; rfl, ?_⟩
          exact below_drew1 (HD4.out.below.trans ((only_set6 _ rB _ _ _ _ _ _).below (Nat.le_of_lt (box_lt HD4.out.gbox)) (fun i e => by have e' : i = rB := e; have := HD4.out.lt; omega)))
        · by_cases h4 : act = 4
          · have HDO : Hid (doC ⟨ck, ep, un, se, ki, ak⟩ ⟨act, n, sq, own, pq⟩ = yieG ⟨ck, ep, un, se, ki, ak⟩) := hide ((if_neg h0).trans ((if_neg h1).trans ((if_neg h2).trans ((if_neg h3).trans (if_pos h4)))))
            have d0 : (act == 0) = false := ne_eqL h0
            have d1 : (act == 1) = false := ne_eqL h1
            have d2 : (act == 2) = false := ne_eqL h2
            have d3 : (act == 3) = false := ne_eqL h3
            have d4 : (act == 4) = true := by simpa using h4
            clear h0 h1 h2 h3 h4
            obtain ⟨⟨a0, a1, a2, a3, a4, a5⟩, hr⟩ : ∃ q, yieG ⟨ck, ep, un, se, ki, ak⟩ = q := ⟨_, rfl⟩
            have HR := hide hr
            have HQ : Hid (doesC ⟨ck, ep, un, se, ki, ak⟩ ⟨act, n, ser, own, pe⟩ = ⟨a0, a1, a2, a3, a4, a5⟩) := hide (HQQ.out.trans (HDO.out.trans hr))
            clear hr HDO
            go_wp2_with fail
            refine yie_any.mono ?_
            rw [HR.out]
            simp only [GE.val, GE.row]
            rintro _ w1 ⟨rfl, b1⟩
            have HD1 := hide (HD0.out.later b1)
            clear HD0 b1 u0 u1 u2 u3 u4 u5 k0 k1 k2 k3 k4
            obtain ⟨_, _, _, _, _, _, u0, u1, u2, u3, u4, u5⟩ := six HD1.out.gbox
            obtain ⟨_, _, _, _, _, k0, k1, k2, k3, k4⟩ := five HD1.out.cbox
            simp only at u0 u1 u2 u3 u4 u5 k0 k1 k2 k3 k4
            go_upto_region 23 with fail
            obtain ⟨X, hX⟩ : ∃ X, X = w1.alloc (.cells #[.int .i64 a0, .int .i64 a1, .int .i64 a2, .int .i64 a3, .int .i64 a4, .int .i64 a5] 23 (0, 0)) := ⟨_, rfl⟩
            rw [← hX]
            have bX : Below w1.heap.size w1 X := by rw [hX]; exact alloc_below _ _
            obtain ⟨vB, hvB⟩ : ∃ vB, w1.heap.size = vB := ⟨_, rfl⟩
            have HvB : Hid (X.heap[vB]? = some (.cells #[.int .i64 a0, .int .i64 a1, .int .i64 a2, .int .i64 a3, .int .i64 a4, .int .i64 a5] 23 (0, 0))) := hide (by rw [hX, ← hvB]; exact heap_alloc_new w1 _)
            have HNvB : Hid (rB < vB) := hide (by rw [← hvB]; exact box_lt HD1.out.res)
            try rw [hvB]
            have HD2 := hide (HD1.out.later bX)
            clear hX hvB bX HD1 u0 u1 u2 u3 u4 u5 k0 k1 k2 k3 k4
            obtain ⟨_, _, _, _, _, _, u0, u1, u2, u3, u4, u5⟩ := six HD2.out.gbox
            obtain ⟨_, _, _, _, _, k0, k1, k2, k3, k4⟩ := five HD2.out.cbox
            simp only at u0 u1 u2 u3 u4 u5 k0 k1 k2 k3 k4
            obtain ⟨_, _, _, _, _, _, v0, v1, v2, v3, v4, v5⟩ := six HvB.out
            obtain ⟨f0, f1, f2, f3, f4, f5, r0, r1, r2, r3, r4, r5⟩ := six HD2.out.res
            have hne1 : rB ≠ gB := by have := HD2.out.lt; omega
            have hne2 : rB ≠ cB := by have := HD2.out.lt; omega
            have hne3 : rB ≠ vB := by have := HNvB.out; omega
            have hne4 : gB ≠ rB := hne1.symm
            have hne5 : cB ≠ rB := hne2.symm
            have hne6 : vB ≠ rB := hne3.symm
            have B0 : Below X.heap.size X X.drew := (Below.refl _ X).drew
            have HD3 := hide (HD2.out.later B0)
            have HvB3 := hide (below_box B0 HvB.out)
            refine wp_region_held_drew (S := fun w' => (w'.cell? ⟨vB, 0, none⟩ = some (.int .i64 a0) ∧ w'.cell? ⟨vB, 1, none⟩ = some (.int .i64 a1) ∧ w'.cell? ⟨vB, 2, none⟩ = some (.int .i64 a2) ∧ w'.cell? ⟨vB, 3, none⟩ = some (.int .i64 a3) ∧ w'.cell? ⟨vB, 4, none⟩ = some (.int .i64 a4) ∧ w'.cell? ⟨vB, 5, none⟩ = some (.int .i64 a5)) ∧ (w'.cell? ⟨gB, 0, none⟩ = some (.int .i64 ck) ∧ w'.cell? ⟨gB, 1, none⟩ = some (.int .i64 ep) ∧ w'.cell? ⟨gB, 2, none⟩ = some (.int .i64 un) ∧ w'.cell? ⟨gB, 3, none⟩ = some (.int .i64 se) ∧ w'.cell? ⟨gB, 4, none⟩ = some (.int .i64 ki) ∧ w'.cell? ⟨gB, 5, none⟩ = some (.int .i64 ak))) (by kernel_rfl) ⟨⟨v0, v1, v2, v3, v4, v5⟩, ⟨u0, u1, u2, u3, u4, u5⟩⟩ (fun hHeld => ?_)
            refine wpAnyH_take (i := 0) (oi := _) (v := ?_) rfl (by kernel_rfl) (by kernel_rfl) (by kernel_rfl) (fun _ _ _ h => h) (Or.inl ⟨by kernel_rfl, ?_⟩) (by assumption) ?_
            rotate_left
            · intro w hSw
              (try dsimp only at hSw)
              go_simp
              all_goals with_reducible rfl
            simp only [Act.put]
            refine wpAnyH_take (i := 1) (oi := _) (v := ?_) rfl (by kernel_rfl) (by kernel_rfl) (by kernel_rfl) (fun _ _ _ h => h) (Or.inl ⟨by kernel_rfl, ?_⟩) (by assumption) ?_
            rotate_left
            · intro w hSw
              (try dsimp only at hSw)
              go_simp
              all_goals with_reducible rfl
            simp only [Act.put]
            refine wpAnyH_take (i := 2) (oi := _) (v := ?_) rfl (by kernel_rfl) (by kernel_rfl) (by kernel_rfl) (fun _ _ _ h => h) (Or.inl ⟨by kernel_rfl, ?_⟩) (by assumption) ?_
            rotate_left
            · intro w hSw
              (try dsimp only at hSw)
              go_simp
              all_goals with_reducible rfl
            simp only [Act.put]
            refine wpAnyH_ready (rs := [3]) (by kernel_rfl) (by simp) ?_
            refine AllReadyH.cons (o := _) rfl (fun K hK => ?_) AllReadyH.nil
            go_simp
            refine ryie_any.mono ?_
            rw [HR.out]
            simp only [GE.val, GE.row]
            rintro _ y1 ⟨rfl, b1⟩
            have HD4 := hide (HD3.out.later b1)
            have HvB4 := hide (below_box b1 HvB3.out)
            clear b1 hHeld u0 u1 u2 u3 u4 u5 k0 k1 k2 k3 k4 v0 v1 v2 v3 v4 v5
            obtain ⟨_, _, _, _, _, _, u0, u1, u2, u3, u4, u5⟩ := six HD4.out.gbox
            obtain ⟨_, _, _, _, _, k0, k1, k2, k3, k4⟩ := five HD4.out.cbox
            obtain ⟨_, _, _, _, _, _, v0, v1, v2, v3, v4, v5⟩ := six HvB4.out
            simp only at u0 u1 u2 u3 u4 u5 k0 k1 k2 k3 k4
            obtain ⟨f0, f1, f2, f3, f4, f5, r0, r1, r2, r3, r4, r5⟩ := six HD4.out.res
            go_wp2_with fail
            refine hK.out _ _ ⟨⟨v0, v1, v2, v3, v4, v5⟩, ⟨u0, u1, u2, u3, u4, u5⟩⟩ (fun hHeld => ?_)
            clear hK
            refine wpAnyH_take (i := 4) (oi := _) (v := ?_) rfl (by kernel_rfl) (by kernel_rfl) (by kernel_rfl) (fun _ _ _ h => h) (Or.inl ⟨by kernel_rfl, ?_⟩) (by assumption) ?_
            rotate_left
            · intro w hSw
              (try dsimp only at hSw)
              go_simp
              all_goals with_reducible rfl
            simp only [Act.put]
            refine wpAnyH_ready (rs := [5]) (by kernel_rfl) (by simp) ?_
            refine AllReadyH.cons (o := _) rfl (fun K hK => ?_) AllReadyH.nil
            go_simp
            refine hK.out _ _ (by go_keep) (fun hHeld => ?_)
            clear hK
            refine wpAnyH_ready (rs := [6]) (by kernel_rfl) (by simp) ?_
            refine AllReadyH.cons (o := _) rfl (fun K hK => ?_) AllReadyH.nil
            go_simp
            refine hK.out _ _ (by go_keep) (fun hHeld => ?_)
            clear hK
            refine wpAnyH_done (by kernel_rfl) ?_ _
            go_wp2
            have hE := (heap_set6 HD4.out.res (.int .i64 a0) (.int .i64 a1) (.int .i64 a2) (.int .i64 a3) (.int .i64 a4) (.int .i64 a5))
            refine bodyPost_ret (results_cell_two rfl _ _ rB 23 _ _ _ rfl hE Try.underlying23 rfl (by kernel_rfl)) rfl ?_
            refine ⟨by rw [HQ.out]; rfl, ?_⟩
            exact (HD4.out.below.trans ((only_set6 _ rB _ _ _ _ _ _).below (Nat.le_of_lt (box_lt HD4.out.gbox)) (fun i e => by have e' : i = rB := e; have := HD4.out.lt; omega)))
          · have HDO : Hid (doC ⟨ck, ep, un, se, ki, ak⟩ ⟨act, n, sq, own, pq⟩ = abvG ⟨ck, ep, un, se, ki, ak⟩ pq) := hide ((if_neg h0).trans ((if_neg h1).trans ((if_neg h2).trans ((if_neg h3).trans ((if_neg h4).trans (rfl))))))
            have d0 : (act == 0) = false := ne_eqL h0
            have d1 : (act == 1) = false := ne_eqL h1
            have d2 : (act == 2) = false := ne_eqL h2
            have d3 : (act == 3) = false := ne_eqL h3
            have d4 : (act == 4) = false := ne_eqL h4
            clear h0 h1 h2 h3 h4
            obtain ⟨⟨a0, a1, a2, a3, a4, a5⟩, hr⟩ : ∃ q, abvG ⟨ck, ep, un, se, ki, ak⟩ pq = q := ⟨_, rfl⟩
            have HR := hide hr
            have HQ : Hid (doesC ⟨ck, ep, un, se, ki, ak⟩ ⟨act, n, ser, own, pe⟩ = ⟨a0, a1, a2, a3, a4, a5⟩) := hide (HQQ.out.trans (HDO.out.trans hr))
            clear hr HDO
            go_wp2_with fail
            refine abv_any.mono ?_
            rw [HR.out]
            simp only [GE.val, GE.row]
            rintro _ w1 ⟨rfl, b1⟩
            have HD1 := hide (HD0.out.later b1)
            clear HD0 b1 u0 u1 u2 u3 u4 u5 k0 k1 k2 k3 k4
            obtain ⟨_, _, _, _, _, _, u0, u1, u2, u3, u4, u5⟩ := six HD1.out.gbox
            obtain ⟨_, _, _, _, _, k0, k1, k2, k3, k4⟩ := five HD1.out.cbox
            simp only at u0 u1 u2 u3 u4 u5 k0 k1 k2 k3 k4
            go_upto_region 25 with fail
            obtain ⟨X, hX⟩ : ∃ X, X = w1.alloc (.cells #[.int .i64 a0, .int .i64 a1, .int .i64 a2, .int .i64 a3, .int .i64 a4, .int .i64 a5] 23 (0, 0)) := ⟨_, rfl⟩
            rw [← hX]
            have bX : Below w1.heap.size w1 X := by rw [hX]; exact alloc_below _ _
            obtain ⟨vB, hvB⟩ : ∃ vB, w1.heap.size = vB := ⟨_, rfl⟩
            have HvB : Hid (X.heap[vB]? = some (.cells #[.int .i64 a0, .int .i64 a1, .int .i64 a2, .int .i64 a3, .int .i64 a4, .int .i64 a5] 23 (0, 0))) := hide (by rw [hX, ← hvB]; exact heap_alloc_new w1 _)
            have HNvB : Hid (rB < vB) := hide (by rw [← hvB]; exact box_lt HD1.out.res)
            try rw [hvB]
            have HD2 := hide (HD1.out.later bX)
            clear hX hvB bX HD1 u0 u1 u2 u3 u4 u5 k0 k1 k2 k3 k4
            obtain ⟨_, _, _, _, _, _, u0, u1, u2, u3, u4, u5⟩ := six HD2.out.gbox
            obtain ⟨_, _, _, _, _, k0, k1, k2, k3, k4⟩ := five HD2.out.cbox
            simp only at u0 u1 u2 u3 u4 u5 k0 k1 k2 k3 k4
            obtain ⟨_, _, _, _, _, _, v0, v1, v2, v3, v4, v5⟩ := six HvB.out
            obtain ⟨f0, f1, f2, f3, f4, f5, r0, r1, r2, r3, r4, r5⟩ := six HD2.out.res
            have hne1 : rB ≠ gB := by have := HD2.out.lt; omega
            have hne2 : rB ≠ cB := by have := HD2.out.lt; omega
            have hne3 : rB ≠ vB := by have := HNvB.out; omega
            have hne4 : gB ≠ rB := hne1.symm
            have hne5 : cB ≠ rB := hne2.symm
            have hne6 : vB ≠ rB := hne3.symm
            have B0 : Below X.heap.size X X.drew := (Below.refl _ X).drew
            have HD3 := hide (HD2.out.later B0)
            have HvB3 := hide (below_box B0 HvB.out)
            refine wp_region_held_drew (S := fun w' => (w'.cell? ⟨vB, 0, none⟩ = some (.int .i64 a0) ∧ w'.cell? ⟨vB, 1, none⟩ = some (.int .i64 a1) ∧ w'.cell? ⟨vB, 2, none⟩ = some (.int .i64 a2) ∧ w'.cell? ⟨vB, 3, none⟩ = some (.int .i64 a3) ∧ w'.cell? ⟨vB, 4, none⟩ = some (.int .i64 a4) ∧ w'.cell? ⟨vB, 5, none⟩ = some (.int .i64 a5)) ∧ (w'.cell? ⟨gB, 0, none⟩ = some (.int .i64 ck) ∧ w'.cell? ⟨gB, 1, none⟩ = some (.int .i64 ep) ∧ w'.cell? ⟨gB, 2, none⟩ = some (.int .i64 un) ∧ w'.cell? ⟨gB, 3, none⟩ = some (.int .i64 se) ∧ w'.cell? ⟨gB, 4, none⟩ = some (.int .i64 ki) ∧ w'.cell? ⟨gB, 5, none⟩ = some (.int .i64 ak)) ∧ w'.cell? ⟨cB, 4, none⟩ = some (.int .i64 pq)) (by kernel_rfl) ⟨⟨v0, v1, v2, v3, v4, v5⟩, ⟨u0, u1, u2, u3, u4, u5⟩, k4⟩ (fun hHeld => ?_)
            refine wpAnyH_take (i := 0) (oi := _) (v := ?_) rfl (by kernel_rfl) (by kernel_rfl) (by kernel_rfl) (fun _ _ _ h => h) (Or.inl ⟨by kernel_rfl, ?_⟩) (by assumption) ?_
            rotate_left
            · intro w hSw
              (try dsimp only at hSw)
              go_simp
              all_goals with_reducible rfl
            simp only [Act.put]
            refine wpAnyH_take (i := 1) (oi := _) (v := ?_) rfl (by kernel_rfl) (by kernel_rfl) (by kernel_rfl) (fun _ _ _ h => h) (Or.inl ⟨by kernel_rfl, ?_⟩) (by assumption) ?_
            rotate_left
            · intro w hSw
              (try dsimp only at hSw)
              go_simp
              all_goals with_reducible rfl
            simp only [Act.put]
            refine wpAnyH_take (i := 2) (oi := _) (v := ?_) rfl (by kernel_rfl) (by kernel_rfl) (by kernel_rfl) (fun _ _ _ h => h) (Or.inl ⟨by kernel_rfl, ?_⟩) (by assumption) ?_
            rotate_left
            · intro w hSw
              (try dsimp only at hSw)
              go_simp
              all_goals with_reducible rfl
            simp only [Act.put]
            refine wpAnyH_take (i := 3) (oi := _) (v := ?_) rfl (by kernel_rfl) (by kernel_rfl) (by kernel_rfl) (fun _ _ _ h => h) (Or.inl ⟨by kernel_rfl, ?_⟩) (by assumption) ?_
            rotate_left
            · intro w hSw
              (try dsimp only at hSw)
              go_simp
              all_goals with_reducible rfl
            simp only [Act.put]
            refine wpAnyH_take (i := 4) (oi := _) (v := ?_) rfl (by kernel_rfl) (by kernel_rfl) (by kernel_rfl) (fun _ _ _ h => h) (Or.inl ⟨by kernel_rfl, ?_⟩) (by assumption) ?_
            rotate_left
            · intro w hSw
              (try dsimp only at hSw)
              go_simp
              all_goals with_reducible rfl
            simp only [Act.put]
            refine wpAnyH_ready (rs := [5]) (by kernel_rfl) (by simp) ?_
            refine AllReadyH.cons (o := _) rfl (fun K hK => ?_) AllReadyH.nil
            go_simp
            refine rabv_any.mono ?_
            rw [HR.out]
            simp only [GE.val, GE.row]
            rintro _ y1 ⟨rfl, b1⟩
            have HD4 := hide (HD3.out.later b1)
            have HvB4 := hide (below_box b1 HvB3.out)
            clear b1 hHeld u0 u1 u2 u3 u4 u5 k0 k1 k2 k3 k4 v0 v1 v2 v3 v4 v5
            obtain ⟨_, _, _, _, _, _, u0, u1, u2, u3, u4, u5⟩ := six HD4.out.gbox
            obtain ⟨_, _, _, _, _, k0, k1, k2, k3, k4⟩ := five HD4.out.cbox
            obtain ⟨_, _, _, _, _, _, v0, v1, v2, v3, v4, v5⟩ := six HvB4.out
            simp only at u0 u1 u2 u3 u4 u5 k0 k1 k2 k3 k4
            obtain ⟨f0, f1, f2, f3, f4, f5, r0, r1, r2, r3, r4, r5⟩ := six HD4.out.res
            go_wp2_with fail
            refine hK.out _ _ ⟨⟨v0, v1, v2, v3, v4, v5⟩, ⟨u0, u1, u2, u3, u4, u5⟩, k4⟩ (fun hHeld => ?_)
            clear hK
            refine wpAnyH_take (i := 6) (oi := _) (v := ?_) rfl (by kernel_rfl) (by kernel_rfl) (by kernel_rfl) (fun _ _ _ h => h) (Or.inl ⟨by kernel_rfl, ?_⟩) (by assumption) ?_
            rotate_left
            · intro w hSw
              (try dsimp only at hSw)
              go_simp
              all_goals with_reducible rfl
            simp only [Act.put]
            refine wpAnyH_ready (rs := [7]) (by kernel_rfl) (by simp) ?_
            refine AllReadyH.cons (o := _) rfl (fun K hK => ?_) AllReadyH.nil
            go_simp
            refine hK.out _ _ (by go_keep) (fun hHeld => ?_)
            clear hK
            refine wpAnyH_ready (rs := [8]) (by kernel_rfl) (by simp) ?_
            refine AllReadyH.cons (o := _) rfl (fun K hK => ?_) AllReadyH.nil
            go_simp
            refine hK.out _ _ (by go_keep) (fun hHeld => ?_)
            clear hK
            refine wpAnyH_done (by kernel_rfl) ?_ _
            go_wp2
            have hE := (heap_set6 HD4.out.res (.int .i64 a0) (.int .i64 a1) (.int .i64 a2) (.int .i64 a3) (.int .i64 a4) (.int .i64 a5))
            refine bodyPost_ret (results_cell_two rfl _ _ rB 23 _ _ _ rfl hE Try.underlying23 rfl (by kernel_rfl)) rfl ?_
            refine ⟨by rw [HQ.out]; rfl, ?_⟩
            exact (HD4.out.below.trans ((only_set6 _ rB _ _ _ _ _ _).below (Nat.le_of_lt (box_lt HD4.out.gbox)) (fun i e => by have e' : i = rB := e; have := HD4.out.lt; omega)))
end Go.Proofs.Ytegffdmlkbdcdaa
