/-
  A store of one file, named a: what New, Create, Write, Sync, Read, Size, Start and Crash make of it. The conditions: within the limits.
-/
import Derived.Test.YtikpckmlnhcddaaGreatCra
namespace Go.Proofs.YtikpckmlnhcddaaGreat
open Go.RowKit Go.Shelf Go.Maps

def nmA : ByteArray := ⟨#[97]⟩
theorem nmA_list : nmA.data.toList = [97] := rfl
theorem nmA_len : nmA.size ≤ maxLen := by decide

/-- A store without files. -/
def Zero (B : Nat) (Ex : Nat → Prop) (W : World) (sb : Nat) (left : Int) : Prop := ∃ mb, SRep W sb mb [] left 0 0 true ∧ (∀ i, own sb mb [] i → B ≤ i ∧ ¬ Ex i)
/-- A store of the one file. -/
def Sing (B : Nat) (Ex : Nat → Prop) (W : World) (sb : Nat) (c : List Int) (ps : List PW) (left : Int) (pend turn : Nat) (up : Bool) : Prop :=
  ∃ mb f, SRep W sb mb [f] left pend turn up ∧ f.name = [97] ∧ f.c = c ∧ f.ws.map (·.p) = ps ∧ (∀ i, own sb mb [f] i → B ≤ i ∧ ¬ Ex i)

theorem Zero.later {B sb : Nat} {Ex : Nat → Prop} {W W' : World} {left : Int} (h : Zero B Ex W sb left) (hb : Below W.heap.size W W') : Zero B Ex W' sb left := by
  obtain ⟨mb, h1, h2⟩ := h
  exact ⟨mb, h1.fresh hb, h2⟩
theorem Sing.later {B sb pend turn : Nat} {Ex : Nat → Prop} {W W' : World} {c : List Int} {ps : List PW} {left : Int} {up : Bool} (h : Sing B Ex W sb c ps left pend turn up) (hb : Below W.heap.size W W') : Sing B Ex W' sb c ps left pend turn up := by
  obtain ⟨mb, f, h1, h2⟩ := h
  exact ⟨mb, f, h1.fresh hb, h2⟩
theorem Zero.ex {B sb : Nat} {Ex Ex' : Nat → Prop} {W : World} {left : Int} (h : Zero B Ex W sb left) (he : ∀ i, Ex' i → Ex i ∨ W.heap.size ≤ i) : Zero B Ex' W sb left := by
  obtain ⟨mb, h1, h2⟩ := h
  refine ⟨mb, h1, fun i hi => ⟨(h2 i hi).1, fun h' => ?_⟩⟩
  rcases he i h' with h' | h'
  · exact (h2 i hi).2 h'
  · have := h1.own_lt hi; omega
theorem Sing.ex {B sb pend turn : Nat} {Ex Ex' : Nat → Prop} {W : World} {c : List Int} {ps : List PW} {left : Int} {up : Bool} (h : Sing B Ex W sb c ps left pend turn up) (he : ∀ i, Ex' i → Ex i ∨ W.heap.size ≤ i) : Sing B Ex' W sb c ps left pend turn up := by
  obtain ⟨mb, f, h1, h2, h3, h4, h5⟩ := h
  refine ⟨mb, f, h1, h2, h3, h4, fun i hi => ⟨(h5 i hi).1, fun h' => ?_⟩⟩
  rcases he i h' with h' | h'
  · exact (h5 i hi).2 h'
  · have := h1.own_lt hi; omega

theorem step_below {W W' : World} {sb mb B : Nat} {fs gs : List MF} (h : Step W W' sb mb fs gs) (hB : B ≤ W.heap.size) (ho : ∀ i, own sb mb fs i → B ≤ i) : Below B W W' := h.only.below hB ho
theorem step_own {W W' : World} {sb mb B : Nat} {Ex : Nat → Prop} {fs gs : List MF} (h : Step W W' sb mb fs gs) (hB : B ≤ W.heap.size) (hE : ∀ i, Ex i → i < W.heap.size) (ho : ∀ i, own sb mb fs i → B ≤ i ∧ ¬ Ex i) : ∀ i, own sb mb gs i → B ≤ i ∧ ¬ Ex i := fun i hi => by
  rcases h.own i hi with h' | h'
  · exact ho i h'
  · exact ⟨by omega, fun hx => by have := hE i hx; omega⟩

theorem sing_new {W : World} {room : Int} (h0 : 0 ≤ room) (h1 : room ≤ 4194304) {B : Nat} (hB : B ≤ W.heap.size) {Ex : Nat → Prop} (hE : ∀ i, Ex i → i < W.heap.size) :
    Calls Tryz.prog 7 #[.int .i64 room] W fun e w' => ∃ sb, e = .returned (.tuple #[.pointer (some ⟨sb, 0, none⟩), .int .i64 0]) ∧ Zero B Ex w' sb room ∧ Below W.heap.size W w' := by
  refine (new_ok h0 h1).mono ?_
  rintro e w' ⟨sb, mb, rfl, hS, h2, h3, hb⟩
  refine ⟨sb, rfl, ⟨mb, hS, fun i hi => ?_⟩, hb⟩
  rcases hi with rfl | rfl | ⟨f, hf, _⟩
  · exact ⟨by omega, fun hx => by have := hE _ hx; omega⟩
  · exact ⟨by omega, fun hx => by have := hE _ hx; omega⟩
  · simp at hf

theorem sing_create {W : World} {B sb : Nat} {Ex : Nat → Prop} {left : Int} (h : Zero B Ex W sb left) (hB : B ≤ W.heap.size) (hE : ∀ i, Ex i → i < W.heap.size) :
    Calls Tryz.prog 12 #[.pointer (some ⟨sb, 0, none⟩), .string nmA] W fun e w' => e = .returned (.int .i64 0) ∧ Sing B Ex w' sb [] [] left 0 0 true ∧ Below B W w' := by
  obtain ⟨mb, h1, h2⟩ := h
  refine (create_ok h1 nmA_len (by decide) rfl (by decide)).mono ?_
  rintro e w' ⟨rfl, hS, hT⟩
  exact ⟨rfl, ⟨mb, _, hS, rfl, rfl, rfl, step_own hT hB hE h2⟩, step_below hT hB (fun i hi => (h2 i hi).1)⟩

theorem one_file {f : MF} (h : f.name = [97]) : fileOf ([] ++ f :: []) nmA.data.toList = some f := by
  rw [nmA_list]
  simp [fileOf, h]

theorem sing_write {W : World} {B sb pend turn : Nat} {Ex : Nat → Prop} {c : List Int} {ps : List PW} {left : Int} (h : Sing B Ex W sb c ps left pend turn true) (hB : B ≤ W.heap.size) (hE : ∀ i, Ex i → i < W.heap.size)
    {v : Value} {b : List Int} (hb : Row .u8 W v b) (hx : ∀ i, v.ownBlock = some i → Ex i) (hu : U8 b) {at_ : Nat} (hat : at_ ≤ c.length) (hc : c.length ≤ 4194304) (hbl : b.length ≤ 4194304) (hb0 : b ≠ []) (hw : ps.length ≤ 2199023255552)
    (hleft : (b.length : Int) - ((c.length : Int) - at_) ≤ left) (hl0 : 0 ≤ left) (hl1 : left ≤ 4194304) (ht : turn ≤ 2199023255552) (hp : pend ≤ 2199023255552) :
    Calls Tryz.prog 13 #[.pointer (some ⟨sb, 0, none⟩), .string nmA, .int .i64 at_, v] W fun e w' => e = .returned (.int .i64 0) ∧ Sing B Ex w' sb (putL c at_ b) (ps ++ [⟨turn + 1, at_, b.length, (c.drop at_).take b.length⟩]) (left - max ((b.length : Int) - ((c.length : Int) - at_)) 0) (pend + 1) (turn + 1) true ∧ Below B W w' := by
  obtain ⟨mb, f, h1, h2, rfl, h4, h5⟩ := h
  have hwl : f.ws.length ≤ 2199023255552 := by rw [← h4] at hw; simpa using hw
  refine (write_some (l := []) (r := []) h1 nmA_len (one_file h2) hb (fun i hi ho => (h5 i ho).2 (hx i hi)) hu hat hc hbl hb0 hwl hleft hl0 hl1 (by omega) hp).mono ?_
  rintro e w' ⟨rfl, cov, cv, pv, hS, hT⟩
  exact ⟨rfl, ⟨mb, _, hS, h2, rfl, by simp [written, h4], step_own hT hB hE h5⟩, step_below hT hB (fun i hi => (h5 i hi).1)⟩

theorem sing_sync {W : World} {B sb pend turn : Nat} {Ex : Nat → Prop} {c : List Int} {ps : List PW} {left : Int} (h : Sing B Ex W sb c ps left pend turn true) (hB : B ≤ W.heap.size) (hE : ∀ i, Ex i → i < W.heap.size) (hp : ps.length = pend) (hpb : pend ≤ 2199023255552) :
    Calls Tryz.prog 26 #[.pointer (some ⟨sb, 0, none⟩), .string nmA] W fun e w' => e = .returned (.int .i64 0) ∧ Sing B Ex w' sb c [] left 0 turn true ∧ Below B W w' := by
  obtain ⟨mb, f, h1, h2, rfl, h4, h5⟩ := h
  have hwl : f.ws.length = pend := by rw [← hp, ← h4]; simp
  refine (sync_some (l := []) (r := []) h1 nmA_len (one_file h2) (by omega) (by omega)).mono ?_
  rintro e w' ⟨rfl, hS, hT⟩
  rw [hwl, Nat.sub_self] at hS
  exact ⟨rfl, ⟨mb, _, hS, h2, rfl, rfl, step_own hT hB hE h5⟩, step_below hT hB (fun i hi => (h5 i hi).1)⟩

theorem sing_pending {W : World} {B sb pend turn : Nat} {Ex : Nat → Prop} {c : List Int} {ps : List PW} {left : Int} {up : Bool} (h : Sing B Ex W sb c ps left pend turn up) :
    Calls Tryz.prog 20 #[.pointer (some ⟨sb, 0, none⟩)] W fun e w' => e = .returned (.int .i64 (pend : Int)) ∧ w' = W := by
  obtain ⟨mb, f, h1, _⟩ := h
  obtain ⟨c0, _, c2, _, _⟩ := box_cells h1.box
  exact pending_any c0 c2
theorem sing_up {W : World} {B sb pend turn : Nat} {Ex : Nat → Prop} {c : List Int} {ps : List PW} {left : Int} {up : Bool} (h : Sing B Ex W sb c ps left pend turn up) :
    Calls Tryz.prog 27 #[.pointer (some ⟨sb, 0, none⟩)] W fun e w' => e = .returned (.bool up) ∧ w' = W := by
  obtain ⟨mb, f, h1, _⟩ := h
  obtain ⟨c0, _, _, _, c4⟩ := box_cells h1.box
  exact up_any c0 c4
theorem sing_start {W : World} {B sb pend turn : Nat} {Ex : Nat → Prop} {c : List Int} {ps : List PW} {left : Int} (h : Sing B Ex W sb c ps left pend turn false) (hB : B ≤ W.heap.size) :
    Calls Tryz.prog 19 #[.pointer (some ⟨sb, 0, none⟩)] W fun e w' => e = .returned (.int .i64 0) ∧ Sing B Ex w' sb c ps left pend turn true ∧ Below B W w' := by
  obtain ⟨mb, f, h1, h2, h3, h4, h5⟩ := h
  obtain ⟨c0, _, _, _, c4⟩ := box_cells h1.box
  refine (start_down c0 c4 (box_frozen h1.box 4)).mono ?_
  rintro e w' ⟨rfl, rfl⟩
  exact ⟨rfl, ⟨mb, f, h1.setUp true, h2, h3, h4, h5⟩, (Only.set (F := (· = sb)) W sb 4 (.bool true) rfl).below hB (fun i e => by have := (h5 sb (.inl rfl)).1; omega)⟩
theorem sing_size {W : World} {B sb pend turn : Nat} {Ex : Nat → Prop} {c : List Int} {ps : List PW} {left : Int} (h : Sing B Ex W sb c ps left pend turn true) :
    Calls Tryz.prog 29 #[.pointer (some ⟨sb, 0, none⟩), .string nmA] W fun e w' => e = .returned (.tuple #[.int .i64 (c.length : Int), .int .i64 0]) ∧ w' = W := by
  obtain ⟨mb, f, h1, h2, rfl, h4, h5⟩ := h
  refine (size_any h1 nmA_len).mono ?_
  rintro e w' ⟨rfl, rfl⟩
  have : fileOf [f] nmA.data.toList = some f := one_file h2
  rw [this]
  exact ⟨rfl, rfl⟩
theorem sing_read {W : World} {B sb pend turn : Nat} {Ex : Nat → Prop} {c : List Int} {ps : List PW} {left : Int} (h : Sing B Ex W sb c ps left pend turn true) {at_ n : Nat} (hat : at_ + n ≤ c.length) (hc : c.length ≤ 4194304) :
    Calls Tryz.prog 28 #[.pointer (some ⟨sb, 0, none⟩), .string nmA, .int .i64 at_, .int .i64 n] W fun e w' => ∃ p cap, e = .returned (.tuple #[.slice p n cap, .int .i64 0]) ∧ w'.ownsRow W.heap.size 5 1 (.slice p n cap) n (((c.drop at_).take n).map (Value.int .u8)) ∧ Below W.heap.size W w' := by
  obtain ⟨mb, f, h1, h2, rfl, h4, h5⟩ := h
  exact read_some (l := []) (r := []) h1 nmA_len (one_file h2) hat hc

theorem undo_one {x : Core} {d : PL} (h : x.fb = d.fb) (first : Nat) : undo [x] d first = [{ x with c := takeBackL d.x.p x.c first }] := by simp [undo, h]

/-- A crash of the one file, to which two writes are pending. -/
theorem sing_crash {W : World} {B sb turn : Nat} {Ex : Nat → Prop} {c : List Int} {p1 p2 : PW} {left keep torn : Int} (h : Sing B Ex W sb c [p1, p2] left 2 turn true) (hB : B ≤ W.heap.size) (hE : ∀ i, Ex i → i < W.heap.size)
    (h12 : p1.turn < p2.turn) (hf2 : Fits p2 c) (hf1 : Fits p1 (takeBackL p2 c 0)) (hc : c.length ≤ 4194304) (hl0 : 0 ≤ left) (htot : left + (c.length : Int) ≤ 4194304)
    (hk0 : -9223372036854775808 ≤ keep) (hk1 : keep ≤ 9223372036854775807) (ht0 : -9223372036854775808 ≤ torn) (ht1 : torn ≤ 9223372036854775807) {c' : List Int}
    (hc' : c' = if (mag keep).toNat % 3 = 2 then c else if (mag keep).toNat % 3 = 1 then takeBackL p2 c ((mag torn).toNat % (p2.size + 1)) else takeBackL p1 (takeBackL p2 c 0) ((mag torn).toNat % (p1.size + 1))) :
    Calls Tryz.prog 18 #[.pointer (some ⟨sb, 0, none⟩), .int .i64 keep, .int .i64 torn] W fun e w' => e = .returned (.int .i64 0) ∧ (∃ left', Sing B Ex w' sb c' [] left' 0 turn false ∧ 0 ≤ left') ∧ Below B W w' := by
  obtain ⟨mb, f, h1, h2, rfl, h4, h5⟩ := h
  obtain ⟨x1, x2, hws, e1, e2⟩ : ∃ x1 x2, f.ws = [x1, x2] ∧ x1.p = p1 ∧ x2.p = p2 := by
    match hh : f.ws with
    | [] => rw [hh] at h4; simp at h4
    | [a] => rw [hh] at h4; simp at h4
    | [a, b] => rw [hh] at h4; simp at h4; exact ⟨a, b, rfl, h4.1, h4.2⟩
    | a :: b :: d :: r => rw [hh] at h4; simp at h4
  subst e1 e2
  have hpl : [f].flatMap placedOf = [⟨f.fb, x1⟩, ⟨f.fb, x2⟩] := by simp [placedOf, hws]
  have huni : ∀ ds : List PL, ds.Perm ([f].flatMap placedOf) → ds.Pairwise (fun a b => a.x.p.turn ≤ b.x.p.turn) → ds = [⟨f.fb, x1⟩, ⟨f.fb, x2⟩] := by
    intro ds hp hs
    rw [hpl] at hp
    have hl := hp.length_eq
    match hds : ds with
    | [] => simp at hl
    | [a] => simp at hl
    | [a, b] =>
      rw [List.pairwise_cons] at hs
      have hab := hs.1 b (by simp)
      have ha : a ∈ [(⟨f.fb, x1⟩ : PL), ⟨f.fb, x2⟩] := hp.mem_iff.1 (by simp)
      have hb : b ∈ [(⟨f.fb, x1⟩ : PL), ⟨f.fb, x2⟩] := hp.mem_iff.1 (by simp)
      have h1' : (⟨f.fb, x1⟩ : PL) ∈ [a, b] := hp.mem_iff.2 (by simp)
      have h2' : (⟨f.fb, x2⟩ : PL) ∈ [a, b] := hp.mem_iff.2 (by simp)
      simp at ha hb h1' h2'
      rcases ha with rfl | rfl
      · rcases h2' with h2' | rfl
        · rw [PL.mk.injEq] at h2'; rw [h2'.2] at h12; omega
        · rfl
      · rcases h1' with h1' | rfl
        · rw [PL.mk.injEq] at h1'; rw [h1'.2] at h12; omega
        · simp at hab; omega
    | a :: b :: d :: r => simp at hl
  have hcore : [f].map MF.core = [f.core] := rfl
  have hlens : lens [f.core] = f.c.length := by simp [lens, MF.core]
  refine (crash_any h1 (by simp) (by rw [hpl]; rfl) (by decide) (by intro g hg; simp at hg; subst hg; rw [h2]; decide) ?_ hl0 (by rw [hcore, hlens]; exact htot) hk0 hk1 ht0 ht1).mono ?_
  · intro ds hp hs k hk
    have := huni ds hp hs
    subst this
    rw [hcore]
    simp at hk
    obtain rfl | rfl : k = 0 ∨ k = 1 := by omega
    · refine ⟨f.core, by simp [undone], rfl, by simp [MF.core, hws], hf2, hc⟩
    · refine ⟨{ f.core with c := takeBackL x2.p f.c 0 }, ?_, rfl, by simp [MF.core, hws], hf1, ?_⟩
      · have : undone [f.core] [⟨f.fb, x1⟩, ⟨f.fb, x2⟩] 1 = undo [f.core] ⟨f.fb, x2⟩ 0 := rfl
        rw [this, undo_one rfl]
        simp [MF.core]
      · have := takeBackL_le hf2 0
        show (takeBackL x2.p f.c 0).length ≤ _
        omega
  · rintro e w' ⟨rfl, ds, hs, left', q1, q2, q3, q4, q5, q6, q7⟩
    have := huni ds q1 q2
    subst this
    rw [hcore] at q4
    have hcr : crashed [f.core] [⟨f.fb, x1⟩, ⟨f.fb, x2⟩] ((mag keep).toNat % (2 + 1)) torn = [{ f.core with c := c' }] := by
      unfold crashed
      have hm : (mag keep).toNat % 3 < 3 := Nat.mod_lt _ (by decide)
      obtain hm | hm | hm : (mag keep).toNat % 3 = 0 ∨ (mag keep).toNat % 3 = 1 ∨ (mag keep).toNat % 3 = 2 := by omega
      · have hc0 : c' = takeBackL x1.p (takeBackL x2.p f.c 0) ((mag torn).toNat % (x1.p.size + 1)) := by rw [hc', if_neg (by omega), if_neg (by omega)]
        rw [show (2 + 1 : Nat) = 3 from rfl, hm]
        have : undone [f.core] [⟨f.fb, x1⟩, ⟨f.fb, x2⟩] 1 = undo [f.core] ⟨f.fb, x2⟩ 0 := rfl
        rw [if_pos (by simp)]
        show undo (undone [f.core] [⟨f.fb, x1⟩, ⟨f.fb, x2⟩] 1) ⟨f.fb, x1⟩ _ = _
        rw [this, undo_one rfl, undo_one rfl, hc0]
        rfl
      · have hc0 : c' = takeBackL x2.p f.c ((mag torn).toNat % (x2.p.size + 1)) := by rw [hc', if_neg (by omega), if_pos hm]
        rw [show (2 + 1 : Nat) = 3 from rfl, hm]
        rw [if_pos (by simp)]
        show undo (undone [f.core] [⟨f.fb, x1⟩, ⟨f.fb, x2⟩] 0) ⟨f.fb, x2⟩ _ = _
        rw [undone, undo_one rfl, hc0]
        rfl
      · have hc0 : c' = f.c := by rw [hc', if_pos hm]
        rw [show (2 + 1 : Nat) = 3 from rfl, hm]
        rw [if_neg (by simp), hc0]
        rfl
    rw [hcr] at q4
    obtain ⟨g, rfl⟩ : ∃ g, hs = [g] := by
      match hs with
      | [] => simp at q4
      | [g] => exact ⟨g, rfl⟩
      | a :: b :: r => simp at q4
    simp only [List.map_cons, List.map_nil, List.cons.injEq, and_true, MF.core, Core.mk.injEq] at q4
    exact ⟨rfl, ⟨left', ⟨mb, g, q3, by rw [q4.1]; exact h2, q4.2.2.1, by rw [q4.2.2.2]; rfl, step_own q6 hB hE h5⟩, q7⟩, step_below q6 hB (fun i hi => (h5 i hi).1)⟩
end Go.Proofs.YtikpckmlnhcddaaGreat
