/-
  What Crash leaves of a store that is up. The conditions: the store lies as stores do, within its limits; each pending write can be taken back when its turn comes.
-/
import Derived.Test.YtikpckmlnhcddaaGreatRng2
import Derived.Test.YtikpckmlnhcddaaGreatRst
namespace Go.Proofs.YtikpckmlnhcddaaGreat
open Go.RowKit Go.Shelf Go.Maps
attribute [local go_sem] Oper.semAt_some

/-- The absolute value; of the least int 0. -/
def mag (n : Int) : Int := if n = -9223372036854775808 then 0 else if n < 0 then -n else n
set_option maxRecDepth 100000 in
theorem magnitude_any {W : World} {n : Int} (h0 : -9223372036854775808 ≤ n) (h1 : n ≤ 9223372036854775807) : Calls Tryz.prog 56 #[.int .i64 n] W fun e w' => e = .returned (.int .i64 (mag n)) ∧ w' = W := by
  by_cases e1 : n = -9223372036854775808
  · subst e1
    go_enter Tryz.func56, Tryz.ntmps56
    go_wp2
    go_ret
    exact ⟨rfl, rfl⟩
  · have hne : (n == -9223372036854775808) = false := by simpa using e1
    by_cases e2 : n < 0
    · have e3 : Hid (mag n = -n) := by show _ = _; unfold mag; rw [if_neg e1, if_pos e2]
      rw [e3.out]
      have hn : IntKind.i64.wrap (-n) = -n := by rw [IntKind.wrap_i64]; omega
      clear e1
      go_enter Tryz.func56, Tryz.ntmps56
      go_wp2
      go_ret
      exact ⟨rfl, rfl⟩
    · have e3 : Hid (mag n = n) := by show _ = _; unfold mag; rw [if_neg e1, if_neg e2]
      rw [e3.out]
      clear e1
      go_enter Tryz.func56, Tryz.ntmps56
      go_wp2
      go_ret
      exact ⟨rfl, rfl⟩

theorem mag_nonneg (n : Int) : 0 ≤ mag n := by unfold mag; split <;> (try split) <;> omega

/-- What a file is, but for where its content and its pending writes lie. -/
structure Core where
  name : List UInt8
  fb : Nat
  c : List Int
  ws : List MW
instance : Inhabited Core := ⟨⟨[], 0, [], []⟩⟩
def MF.core (f : MF) : Core := ⟨f.name, f.fb, f.c, f.ws⟩
/-- A pending write is taken back, but for its first bytes. -/
def undo (cs : List Core) (d : PL) (first : Nat) : List Core := cs.map fun x => if x.fb = d.fb then { x with c := takeBackL d.x.p x.c first } else x
/-- The last k ones are. -/
def undone (cs : List Core) (ds : List PL) : Nat → List Core
  | 0 => cs
  | k + 1 => undo (undone cs ds k) (ds[ds.length - 1 - k]!) 0
def lens (cs : List Core) : Nat := (cs.map fun x => x.c.length).sum
def SafeAt (cs : List Core) (d : PL) : Prop := ∃ x ∈ cs, x.fb = d.fb ∧ d.x ∈ x.ws ∧ Fits d.x.p x.c ∧ x.c.length ≤ 4194304
/-- What a crash leaves, of which so many writes are kept. -/
def crashed (cs : List Core) (ds : List PL) (kp : Nat) (torn : Int) : List Core :=
  if kp < ds.length then undo (undone cs ds (ds.length - 1 - kp)) (ds[kp]!) ((mag torn).toNat % ((ds[kp]!).x.p.size + 1)) else cs

theorem takeBackL_le {w : PW} {c : List Int} (h : Fits w c) (first : Nat) : (takeBackL w c first).length ≤ c.length := by
  unfold takeBackL
  have := taken1_length h first
  simp only
  split
  · rw [List.length_take]; omega
  · omega
theorem lens_append (a b : List Core) : lens (a ++ b) = lens a + lens b := by simp [lens]
theorem lens_cons (a : Core) (b : List Core) : lens (a :: b) = a.c.length + lens b := by simp [lens]

theorem undo_split {l r : List MF} {f f' : MF} {d : PL} {first : Nat} (hfb : f.fb = d.fb) (hl : ∀ g ∈ l, g.fb ≠ f.fb) (hr : ∀ g ∈ r, g.fb ≠ f.fb) (hc : f'.core = { f.core with c := takeBackL d.x.p f.c first }) :
    undo ((l ++ f :: r).map MF.core) d first = (l ++ f' :: r).map MF.core := by
  have e : ∀ l : List MF, (∀ g ∈ l, g.fb ≠ f.fb) → (l.map MF.core).map (fun x => if x.fb = d.fb then { x with c := takeBackL d.x.p x.c first } else x) = l.map MF.core := by
    intro l hl
    rw [List.map_map]
    apply List.map_congr_left
    intro g hg
    have := hl g hg
    exact if_neg (fun e => this (by rw [hfb]; exact e))
  unfold undo
  simp only [List.map_append, List.map_cons]
  have e1 := e l hl
  have e2 := e r hr
  rw [e1, e2, hc]
  simp [MF.core, hfb]

def Core.sig (x : Core) : List UInt8 × Nat × List MW := (x.name, x.fb, x.ws)
theorem sig_undo (cs : List Core) (d : PL) (first : Nat) : (undo cs d first).map Core.sig = cs.map Core.sig := by
  unfold undo
  rw [List.map_map]
  apply List.map_congr_left
  intro x _
  simp only [Function.comp]
  split <;> rfl
theorem sig_undone (cs : List Core) (ds : List PL) : ∀ k, (undone cs ds k).map Core.sig = cs.map Core.sig
  | 0 => rfl
  | k + 1 => by rw [undone, sig_undo, sig_undone cs ds k]
theorem sig_crashed (cs : List Core) (ds : List PL) (kp : Nat) (torn : Int) : (crashed cs ds kp torn).map Core.sig = cs.map Core.sig := by
  unfold crashed
  split
  · rw [sig_undo, sig_undone]
  · rfl
theorem same_crashed {gs fs : List MF} {ds : List PL} {kp : Nat} {torn : Int} (h : gs.map MF.core = crashed (fs.map MF.core) ds kp torn) : gs.map (fun f => (f.name, f.fb, f.ws)) = fs.map (fun f => (f.name, f.fb, f.ws)) := by
  have := congrArg (List.map Core.sig) h
  rw [sig_crashed, List.map_map, List.map_map] at this
  exact this

/-- One pending write is taken back: what the store is then. -/
theorem back_step {W : World} {sb mb pend turn : Nat} {left : Int} {gs : List MF} {up : Bool} (h : SRep W sb mb gs left pend turn up) {d : PL} (hs : SafeAt (gs.map MF.core) d) {first : Nat} (hfi : first ≤ d.x.p.size) (hl0 : 0 ≤ left) (hl1 : left ≤ 4194304) :
    Calls Tryz.prog 58 #[.pointer (some ⟨sb, 0, none⟩), .agg #[.pointer (some ⟨d.fb, 0, none⟩), .int .i64 d.x.p.turn, .int .i64 d.x.p.beg, .int .i64 d.x.p.size, d.x.cov], .int .i64 first] W fun e w' => e = .returned (.tuple #[]) ∧
      ∃ gs' left', gs'.map MF.core = undo (gs.map MF.core) d first ∧ SRep w' sb mb gs' left' pend turn up ∧ left' + (lens (undo (gs.map MF.core) d first) : Nat) = left + (lens (gs.map MF.core) : Nat) ∧ Step W w' sb mb gs gs' ∧ left ≤ left' := by
  obtain ⟨x, hx, h1, h2, h3, h4⟩ := hs
  obtain ⟨f, hf, rfl⟩ := List.mem_map.1 hx
  obtain ⟨l, r, rfl⟩ := List.append_of_mem hf
  have hl : ∀ g ∈ l, g.fb ≠ f.fb := fun g hg e => (h.pair (f := f) (.inl hg)).1 e.symm
  have hr : ∀ g ∈ r, g.fb ≠ f.fb := fun g hg e => (h.pair (f := f) (.inr hg)).1 e.symm
  have hfb : f.fb = d.fb := h1
  have hle : (takeBackL d.x.p f.c first).length ≤ f.c.length := takeBackL_le h3 first
  rw [← hfb]
  refine (takeBack_store h h2 h3 hfi h4 hl0 hl1 hle).mono ?_
  rintro e w' ⟨rfl, cv, hS, hT⟩
  have hu := undo_split (f' := { f with c := takeBackL d.x.p f.c first, cv := cv }) (d := d) (first := first) hfb hl hr rfl
  refine ⟨rfl, _, _, hu.symm, hS, ?_, hT, by omega⟩
  rw [hu]
  simp only [List.map_append, List.map_cons, lens_append, lens_cons, MF.core]
  omega

theorem own_base5 {w : World} {base base' n k : Nat} {e : TypeId} {v : Value} {xs : List Value} (h : w.ownsRow base e k v n xs) (hb : base' ≤ base) : w.ownsRow base' e k v n xs := by
  refine ⟨h.1, ?_⟩
  rcases h.2 with h' | ⟨g, cap, cur, hv, hg, r⟩
  · exact .inl h'
  · exact .inr ⟨g, cap, cur, hv, by omega, r⟩
theorem step_read_in {l N : Nat} {P : Program} {ops : Array Oper} {Q : Exit → Act → World → Prop} {i : Nat} {o : Oper} {K : Act → World → Prop} {a : Act} {w : World} {v : Value} (ho : ops[i]? = some o) (hgd : o.guard = none) (hnd : ∀ c, o.op ≠ .defer c)
    (hrun : (execOp a.eval o).run P w = .ok (.value v) w) (hK : K (a.put o.dst v) w) : wpOpIn (Fence.wide.inRound l) N P ops Q i K a w := by
  refine wpOpIn_step ho (fun K' hK' => ?_)
  have hw : Region.wanted o (yielded ops a.tmps) = true := by simp [Region.wanted, hgd]
  rw [if_pos hw]
  unfold Oper.wpIn
  refine ⟨fun f hf => trivial, ?_⟩
  rw [show (Fence.wide.inRound l).round = some l from rfl, Oper.semAt_some l _ _ hnd, hrun]
  exact hK' _ _ hK
/-- A call of a Go function as one step of such a region. -/
theorem step_call_in {l N : Nat} {P : Program} {ops : Array Oper} {Q : Exit → Act → World → Prop} {i : Nat} {o : Oper} {K : Act → World → Prop} {a : Act} {w : World} (ho : ops[i]? = some o) (hgd : o.guard = none) (hnd : ∀ c, o.op ≠ .defer c) (f : FuncId) (xs : Array Operand) (ts : Array TypeId)
    (hop : o.op = .call { callee := .value (.func f), args := xs, argTypes := ts }) (args : Array Value) (hargs : xs.map a.eval = args) (hin : ∀ args w, (callFunc f args).run P w = .ok (.enter f args) w) (hN : 1 ≤ N)
    (R : Ending → World → Prop) (hc : Calls P f args w R) (h : ∀ e w', R e w' → ∃ v, e = .returned v ∧ K (a.put o.dst v) w') : wpOpIn (Fence.wide.inRound l) N P ops Q i K a w := by
  refine wpOpIn_step ho (fun K' hK' => ?_)
  have hw : Region.wanted o (yielded ops a.tmps) = true := by simp [Region.wanted, hgd]
  rw [if_pos hw]
  have hr : (execOp a.eval o).run P w = .ok (.enter f args) w := by
    unfold execOp
    simp [hop, resolve, invoke, Act.eval, hin, go_sem]
    exact hargs
  unfold Oper.wpIn
  refine ⟨fun f hf => trivial, ?_⟩
  rw [show (Fence.wide.inRound l).round = some l from rfl, Oper.semAt_some l _ _ hnd, hr, Oper.uponIn_enter]
  refine ⟨fun _ => hN, ((callsIn_wide.2 hc).inRound l).mono ?_⟩
  intro e w' hR
  obtain ⟨v, rfl, hK0⟩ := h e w' hR
  exact hK' _ _ hK0
/-- What holds behind k rounds, all of which went on. -/
def CrI (fs : List MF) (ds : List PL) (w : World) (sb mb pend turn kp : Nat) (tot : Int) (k : Nat) (W : World) : Prop :=
  ∃ gs left, gs.map MF.core = undone (fs.map MF.core) ds k ∧ SRep W sb mb gs left pend turn true ∧ left + (lens (undone (fs.map MF.core) ds k) : Nat) = tot ∧ Step w W sb mb fs gs ∧ (k = 0 ∨ kp + k < ds.length) ∧ 0 ≤ left
def CrF (fs : List MF) (ds : List PL) (w : World) (sb mb pend turn kp : Nat) (tot torn : Int) (W : World) : Prop :=
  ∃ gs left, gs.map MF.core = crashed (fs.map MF.core) ds kp torn ∧ SRep W sb mb gs left pend turn true ∧ left + (lens (crashed (fs.map MF.core) ds kp torn) : Nat) = tot ∧ Step w W sb mb fs gs ∧ 0 ≤ left
def aggCells : Value → Array Value
  | .agg c => c
  | _ => #[]
theorem SRep.puts {W : World} {sb mb pend turn l : Nat} {left : Int} {fs : List MF} {up : Bool} {o : Obj} (h : SRep W sb mb fs left pend turn up) (o' : Obj) (ho : W.heap[l]? = some o) (hc : o.isCells = false) (hmb : mb ≠ l) : SRep (W.putObj l o') sb mb fs left pend turn up ∧ Only (· = l) W (W.putObj l o') := by
  have ho1 : Only (· = l) W (W.putObj l o') := Only.of_grown (grownBy_putObj' W l o') (fun k e => by simpa using e.symm)
  have hno : ∀ i, own sb mb fs i ∨ covs fs i → i ≠ l := fun i hi e => by
    subst e
    rcases hi with (rfl | rfl | ⟨f, hf, hi⟩) | ⟨f, hf, hi⟩
    · rw [h.box] at ho; cases ho; simp [Obj.isCells] at hc
    · exact hmb rfl
    · obtain ⟨cur, e, he, _⟩ := (h.files f hf).own_kind hi
      rw [he] at ho; cases ho; simp [Obj.isCells] at hc
    · obtain ⟨cur, he⟩ := (h.files f hf).cov_kind hi
      rw [he] at ho; cases ho; simp [Obj.isCells] at hc
  exact ⟨h.only ho1 (fun i hi => hno i (.inl hi)) (fun i hi => hno i (.inr hi)), ho1⟩
theorem enMag : ∀ args w, (callFunc 56 args).run Tryz.prog w = .ok (.enter 56 args) w := enters_of Tryz.func56 (by kernel_rfl) rfl
theorem enTakeS : ∀ args w, (callFunc 58 args).run Tryz.prog w = .ok (.enter 58 args) w := enters_of Tryz.func58 (by kernel_rfl) rfl
theorem enBack : ∀ args w, (callFunc 77 args).run Tryz.prog w = .ok (.enter 77 args) w := enters_of Tryz.func77 (by kernel_rfl) rfl

set_option maxRecDepth 100000 in
set_option maxHeartbeats 4000000 in
theorem crash_in (n : Nat) (hn : 4 ≤ n) {W : World} {sb mb pend turn : Nat} {left keep torn : Int} {fs : List MF} (h : SRep W sb mb fs left pend turn true) (hlen : fs.length ≤ 4194304) (hp : (fs.flatMap placedOf).length = pend) (hpb : pend ≤ 2199023255552) (hnm : ∀ f ∈ fs, f.name.length ≤ maxLen)
    (hsafe : ∀ ds : List PL, ds.Perm (fs.flatMap placedOf) → ds.Pairwise (fun a b => a.x.p.turn ≤ b.x.p.turn) → ∀ k, k < ds.length → SafeAt (undone (fs.map MF.core) ds k) (ds[ds.length - 1 - k]!)) (hl0 : 0 ≤ left) (htot : left + (lens (fs.map MF.core) : Nat) ≤ 4194304)
    (hk0 : -9223372036854775808 ≤ keep) (hk1 : keep ≤ 9223372036854775807) (ht0 : -9223372036854775808 ≤ torn) (ht1 : torn ≤ 9223372036854775807) :
    CallsIn Fence.wide n Tryz.prog 18 #[.pointer (some ⟨sb, 0, none⟩), .int .i64 keep, .int .i64 torn] W fun e w' => e = .returned (.int .i64 0) ∧ ∃ (ds : List PL) (hs : List MF) (left' : Int), ds.Perm (fs.flatMap placedOf) ∧ ds.Pairwise (fun a b => a.x.p.turn ≤ b.x.p.turn) ∧ SRep w' sb mb hs left' 0 turn false ∧ hs.map MF.core = (crashed (fs.map MF.core) ds ((mag keep).toNat % (pend + 1)) torn).map (fun x => { x with ws := [] }) ∧
      left' + (lens (crashed (fs.map MF.core) ds ((mag keep).toNat % (pend + 1)) torn) : Nat) = left + (lens (fs.map MF.core) : Nat) ∧ Step W w' sb mb fs hs ∧ 0 ≤ left' := by
  have hb1 : Below W.heap.size W ((W.alloc (.cells #[.pointer (some ⟨sb, 0, none⟩)] 24)).alloc (.cells #[.int .i64 torn] 3)) := (alloc_below W _).trans ((alloc_below _ _).mono (by simp))
  have H := hide h
  have HS1 := hide (h.fresh hb1)
  obtain ⟨c0, _, _, _, c4⟩ := box_cells HS1.out.box
  have HR1 := hide (ready_up c0 c4)
  have HO1 := hide (order_any HS1.out hlen hp hpb hnm)
  have HB1 := hide hb1
  have HX1 : Hid (Boxed ((W.alloc (.cells #[.pointer (some ⟨sb, 0, none⟩)] 24)).alloc (.cells #[.int .i64 torn] 3)) W.heap.size 24 (.pointer (some ⟨sb, 0, none⟩))) := hide ((Boxed.new W _ _).alloc _)
  have HT1 : Hid (Boxed ((W.alloc (.cells #[.pointer (some ⟨sb, 0, none⟩)] 24)).alloc (.cells #[.int .i64 torn] 3)) (W.heap.size + 1) 3 (.int .i64 torn)) := by
    have := Boxed.new (W.alloc (.cells #[.pointer (some ⟨sb, 0, none⟩)] 24)) 3 (.int .i64 torn)
    rw [World.size_alloc] at this
    exact hide this
  clear h hb1 c0 c4
  refine callsIn_of_wp_marks Tryz.func18 rfl trivial ?_ rfl
  simp only [Tryz.ntmps18, List.size_toArray, List.length_cons, List.length_nil, Nat.reduceAdd, Nat.reduceSub, Array.replicate_succ, Array.replicate_zero, List.push_toArray, List.append_toArray, List.nil_append, List.cons_append]
  gi_wp2_with fail
  refine wpIn_scope_wide ?_
  gi_wp2_with fail
  refine ⟨trivial, fun _ => by omega, (callsIn_wide.2 HR1.out).mono ?_⟩
  rintro _ _ ⟨rfl, rfl⟩
  gi_wp2_with fail
  refine ⟨trivial, fun _ => by omega, (callsIn_wide.2 HO1.out).mono ?_⟩
  rintro _ w2 ⟨p, cap, ds, rfl, hpe, hso, hrow, hb2⟩
  have HPE := hide hpe
  have HSO := hide hso
  have HRW := hide hrow
  have HB2 : Hid (Below W.heap.size W w2) := hide (HB1.out.trans (hb2.mono HB1.out.size))
  have HS2 := hide (HS1.out.fresh hb2)
  have HX2 : Hid (Boxed w2 W.heap.size 24 (.pointer (some ⟨sb, 0, none⟩))) := hide (below_box hb2 HX1.out)
  have HT2 : Hid (Boxed w2 (W.heap.size + 1) 3 (.int .i64 torn)) := hide (below_box hb2 HT1.out)
  have hsz2 : W.heap.size + 2 ≤ w2.heap.size := by have := hb2.size; simpa using this
  clear hpe hso hrow hb2 HS1 HX1 HT1 HR1 HO1 HB1
  gi_wp2_with fail
  refine ⟨trivial, fun _ => by omega, (callsIn_wide.2 (magnitude_any hk0 hk1)).mono ?_⟩
  rintro _ w2' ⟨rfl, hw2'⟩
  subst hw2'
  have hmk := mag_nonneg keep
  obtain ⟨kp, hkp, hkp1, HKE⟩ : ∃ kp : Nat, (mag keep).tmod ((pend : Int) + 1) = (kp : Int) ∧ kp ≤ pend ∧ Hid (kp = (mag keep).toNat % (pend + 1)) := by
    refine ⟨(mag keep).toNat % (pend + 1), ?_, ?_, rfl⟩
    · rw [Int.tmod_eq_emod_of_nonneg hmk, Int.natCast_emod, Int.toNat_of_nonneg hmk]; simp
    · have := Nat.mod_lt (mag keep).toNat (show 0 < pend + 1 by omega); omega
  have HKP := hide hkp
  gi_wp2_with fail
  refine wpIn_label ?_
  gi_wp2_with fail
  refine ⟨trivial, fun _ => by omega, (callsIn_wide.2 (backward_any _ p pend cap rfl)).mono ?_⟩
  rintro _ w3 ⟨rfl, hw3⟩
  have hdl : ds.length = pend := by rw [← hp]; exact HPE.out.length_eq
  have hb3 : Below w2'.heap.size w2' w3 := by rw [hw3]; exact (alloc_below _ _).trans ((alloc_below _ _).mono (by simp))
  have hsz3 : w3.heap.size = w2'.heap.size + 2 := by rw [hw3]; simp
  have HS3 := hide (HS2.out.fresh hb3)
  have HX3 : Hid (Boxed w3 W.heap.size 24 (.pointer (some ⟨sb, 0, none⟩))) := hide (below_box hb3 HX2.out)
  have HT3 : Hid (Boxed w3 (W.heap.size + 1) 3 (.int .i64 torn)) := hide (below_box hb3 HT2.out)
  have HK3 : Hid (Boxed w3 w2'.heap.size 3 (.int .i64 kp)) := by rw [hw3]; exact hide ((Boxed.new w2' _ _).alloc _)
  have HD3 : Hid (Boxed w3 (w2'.heap.size + 1) 86 (.slice p pend cap)) := by
    have := Boxed.new (w2'.alloc (.cells #[.int .i64 (kp : Int)] 3)) 86 (.slice p pend cap)
    rw [World.size_alloc] at this
    rw [hw3]
    exact hide this
  have HR3 := hide (ownsRow_later HRW.out hb3)
  have HB3 : Hid (Below W.heap.size W w3) := hide (HB2.out.trans (hb3.mono HB2.out.size))
  have HCV : Hid (∀ d ∈ ds, ∃ p n c, d.x.cov = .slice p n c) := by
    refine hide fun d hd => ?_
    obtain ⟨f, hf, hd⟩ := List.mem_flatMap.1 (HPE.out.mem_iff.1 hd)
    obtain ⟨x, hx, rfl⟩ := List.mem_map.1 hd
    obtain ⟨p, c, he, _⟩ := own_form ((H.out.files f hf).cov x hx).1
    exact ⟨p, _, c, he⟩
  have HSF := hide (hsafe ds HPE.out HSO.out)
  have hlt : ∀ i, own sb mb fs i → i < W.heap.size := fun i hi => H.out.own_lt hi
  clear hw3 hb3 HS2 HX2 HT2 HRW HB2 hsafe
  subst hdl
  gi_wp2_with fail
  refine range_list2 (by omega) (backward_tells (n - 1) (by omega) (Bk := w2'.heap.size + 1) (base := 0) (v := .slice p ds.length cap) (ds := ds) hpb HCV.out) rfl enBack ?size (CrI fs ds w3 sb mb ds.length turn kp (left + (lens (fs.map MF.core) : Nat))) (fun c _ X => c = .exit 0 ∧ CrF fs ds w3 sb mb ds.length turn kp (left + (lens (fs.map MF.core) : Nat)) torn X) ?grows ?puts ?xputs ?reads ?start
    (fun x V => { tmps := #[.pointer (some ⟨sb, 0, none⟩), .int .i64 keep, .int .i64 torn, .pointer (some ⟨W.heap.size, 0, none⟩), undef, .pointer (some ⟨W.heap.size + 1, 0, none⟩), .int .i64 0, .int .i64 0, .slice p ds.length cap, .pointer (some ⟨w2'.heap.size, 0, none⟩), x.getD 0 undef, .pointer (some ⟨V.heap.size, 0, none⟩), .pointer (some ⟨sb, 0, none⟩), .int .i64 0, .int .i64 0, .bool false, undef, .pointer (some ⟨sb, 0, none⟩), .slice p ds.length cap, .int .i64 keep, .int .i64 (mag keep), .slice p ds.length cap, .int .i64 (ds.length : Int), .int .i64 ((ds.length : Int) + 1), .int .i64 (kp : Int), .slice p ds.length cap, .func (.func 77) #[] #[.pointer (some ⟨w2'.heap.size + 1, 0, none⟩)], x.getD 0 undef, x.getD 1 undef, undef, undef, undef, undef, undef, undef, undef, undef, undef, undef, undef, undef, undef, undef, undef, undef, undef, undef, undef, undef, undef, undef, undef, undef, undef, undef], defers := [] }) (fun x V => V.alloc (.cells (aggCells (x.getD 1 undef)) 95 (0, 0))) (fun k V => alloc_below V _) ?assign ?body ?done ?stop
  case size => intro k hk; simp at hk; simp [List.getD, hk, toldP]
  case grows =>
    rintro k W1 W2 ⟨gs, lf, h1, h2, h3, h4, h5⟩ hb
    exact ⟨gs, lf, h1, h2.fresh hb, h3, h4.trans (Step.fresh hb), h5⟩
  case puts =>
    rintro k W1 l o o' ⟨gs, lf, h1, h2, h3, h4, h5⟩ hl ho hc
    obtain ⟨r1, r2⟩ := h2.puts o' ho hc (by have := hlt mb (.inr (.inl rfl)); omega)
    exact ⟨gs, lf, h1, r1, h3, ⟨h4.only.step r2 (fun i e => .inr (by omega)), h4.own, h4.cov⟩, h5⟩
  case xputs =>
    rintro c k W1 l o o' ⟨hc0, gs, lf, h1, h2, h3, h4, h5⟩ hl ho hc
    obtain ⟨r1, r2⟩ := h2.puts o' ho hc (by have := hlt mb (.inr (.inl rfl)); omega)
    exact ⟨hc0, gs, lf, h1, r1, h3, ⟨h4.only.step r2 (fun i e => .inr (by omega)), h4.own, h4.cov⟩, h5⟩
  case reads =>
    rintro k W1 ⟨gs, lf, h1, h2, h3, h4, h5⟩
    refine ⟨h4.only.obj HD3.out (fun hi => by have := hlt _ hi; omega), own_base5 (ownsRow_only HR3.out h4.only (fun b hb hi => ?_)) (Nat.zero_le _)⟩
    have h6 := hlt _ hi
    have h7 := own_block_base HR3.out hb
    simp at h7
    omega
  case start => exact ⟨fs, left, rfl, HS3.out, rfl, Step.refl _ _ _ _, .inl rfl, hl0⟩
  case assign =>
    intro l k V K hk hK
    simp at hk
    have e : ((List.range ds.length).map (toldP ds)).getD k #[] = toldP ds k := by simp [List.getD, hk]
    have hmem : ds[ds.length - 1 - k]! ∈ ds := by rw [getElem!_pos ds _ (by omega)]; exact List.getElem_mem _
    obtain ⟨pc, nc, cc, hce⟩ := HCV.out _ hmem
    rw [e] at hK ⊢
    unfold toldP PL.cells at hK ⊢
    obtain ⟨j, hj⟩ : ∃ j, ds.length - 1 - k = j := ⟨_, rfl⟩
    rw [hj] at hK hce ⊢
    obtain ⟨d, hd⟩ : ∃ d, ds[j]! = d := ⟨_, rfl⟩
    rw [hd] at hK hce ⊢
    rw [hce] at hK ⊢
    clear e hd hj hce hmem
    simp only [aggCells, Array.getD_eq_getD_getElem?, List.getElem?_toArray, List.getElem?_cons_zero, List.getElem?_cons_succ, Option.getD_some] at hK
    gi_wp2
    exact hK
  case body =>
    intro l k V X hI hk hsz hoX hlV hwl
    simp at hk
    have e : ((List.range ds.length).map (toldP ds)).getD k #[] = toldP ds k := by simp [List.getD, hk]
    have hmem : ds[ds.length - 1 - k]! ∈ ds := by rw [getElem!_pos ds _ (by omega)]; exact List.getElem_mem _
    obtain ⟨pc, nc, cc, hce⟩ := HCV.out _ hmem
    have hsf := HSF.out k hk
    rw [e] at hoX ⊢
    unfold toldP PL.cells at hoX ⊢
    obtain ⟨j, hj⟩ : ∃ j, ds.length - 1 - k = j := ⟨_, rfl⟩
    have HUN : Hid (undone (fs.map MF.core) ds (k + 1) = undo (undone (fs.map MF.core) ds k) (ds[j]!) 0) := by rw [← hj]; exact hide rfl
    rw [hj] at hce hoX hsf ⊢
    have hjk : j + k + 1 = ds.length := by omega
    obtain ⟨d, hd⟩ : ∃ d, ds[j]! = d := ⟨_, rfl⟩
    rw [hd] at hce hoX hsf HUN ⊢
    have HDJ := hide hd
    rw [hce] at hoX ⊢
    have HCE := hide hce
    simp only [aggCells, Array.getD_eq_getD_getElem?, List.getElem?_toArray, List.getElem?_cons_zero, List.getElem?_cons_succ, Option.getD_some] at hoX ⊢
    obtain ⟨gs, lf, h1, h2, h3, h4, h5, hlf0⟩ := hI
    have HPB : Hid (X.heap[V.heap.size]? = some (.cells #[.pointer (some ⟨d.fb, 0, none⟩), .int .i64 d.x.p.turn, .int .i64 d.x.p.beg, .int .i64 d.x.p.size, .slice pc nc cc] 95 (0, 0))) := hide (hoX.obj (heap_alloc_new V _) (fun e => by omega))
    have b0 : X.cell? ⟨V.heap.size, 0, none⟩ = some (.pointer (some ⟨d.fb, 0, none⟩)) := by simp [World.cell?, HPB.out]
    have b1 : X.cell? ⟨V.heap.size, 1, none⟩ = some (.int .i64 d.x.p.turn) := by simp [World.cell?, HPB.out]
    have b2 : X.cell? ⟨V.heap.size, 2, none⟩ = some (.int .i64 d.x.p.beg) := by simp [World.cell?, HPB.out]
    have b3 : X.cell? ⟨V.heap.size, 3, none⟩ = some (.int .i64 d.x.p.size) := by simp [World.cell?, HPB.out]
    have b4 : X.cell? ⟨V.heap.size, 4, none⟩ = some (.slice pc nc cc) := by simp [World.cell?, HPB.out]
    have sx := (show Boxed X W.heap.size 24 (.pointer (some ⟨sb, 0, none⟩)) from h4.only.obj HX3.out (fun hi => by have := hlt _ hi; omega)).cell
    have tx := (show Boxed X (W.heap.size + 1) 3 (.int .i64 torn) from h4.only.obj HT3.out (fun hi => by have := hlt _ hi; omega)).cell
    have kx := (show Boxed X w2'.heap.size 3 (.int .i64 kp) from h4.only.obj HK3.out (fun hi => by have := hlt _ hi; omega)).cell
    have hlf1 : lf ≤ 4194304 := by omega
    have HMB : Hid (mb < w3.heap.size) := hide (by have := hlt mb (.inr (.inl rfl)); omega)
    rw [← h1] at hsf
    have H1 := hide h1
    have H2 := hide h2
    have H3 := hide h3
    have H4 := hide h4
    have HSA := hide hsf
    have HOX := hide hoX
    have hfit : d.x.p.size ≤ 4194304 := by
      obtain ⟨x, _, _, _, hf, hxl⟩ := HSA.out
      have := hf.inside
      omega
    clear e hmem hce hd hj h1 h2 h3 h4 hsf hoX
    by_cases hgt : kp < j
    · have HCB := hide (back_step H2.out HSA.out (first := 0) (Nat.zero_le _) hlf0 hlf1)
      rw [HCE.out] at HCB
      gi_wp2_with fail
      refine ⟨trivial, fun _ => by omega, ((callsIn_wide.2 HCB.out).inRound l).mono ?_⟩
      rintro _ Y ⟨rfl, gs', lf', q1, q2, q3, q4, q5⟩
      have Q1 := hide q1
      have Q2 := hide q2
      have Q3 := hide q3
      have Q4 := hide q4
      clear q1 q2 q3 q4 HCB b0 b1 b2 b3 b4 sx tx kx
      gi_wp2
      refine ⟨keeps_step H2.out Q4.out.only HMB.out, gs', lf', ?_, Q2.out, ?_, H4.out.trans Q4.out, .inr (by omega), by omega⟩
      · rw [HUN.out, ← H1.out]; exact Q1.out
      · rw [HUN.out, ← H1.out, Q3.out, H1.out]; exact H3.out
    · by_cases heq : j = kp
      · subst heq
        have hmt := mag_nonneg torn
        have htl : mag torn ≤ 9223372036854775807 := by unfold mag; split <;> (try split) <;> omega
        obtain ⟨fi, hfi, hfi1, HFE⟩ : ∃ fi : Nat, (mag torn).tmod ((d.x.p.size : Int) + 1) = (fi : Int) ∧ fi ≤ d.x.p.size ∧ Hid (fi = (mag torn).toNat % (d.x.p.size + 1)) := by
          refine ⟨(mag torn).toNat % (d.x.p.size + 1), ?_, ?_, rfl⟩
          · rw [Int.tmod_eq_emod_of_nonneg hmt, Int.natCast_emod, Int.toNat_of_nonneg hmt]; simp
          · have := Nat.mod_lt (mag torn).toNat (show 0 < d.x.p.size + 1 by omega); omega
        have HCB := hide (back_step (W := X.drew) H2.out.drew HSA.out hfi1 hlf0 hlf1)
        rw [HCE.out] at HCB
        have HMG := hide (magnitude_any (W := X.drew) ht0 ht1)
        gi_wp2_with fail
        refine region_still_in (by kernel_rfl) 9 rfl (by kernel_rfl) (by kernel_rfl) (by kernel_rfl) (fun i => 40 + i)
          (fun i => match i with | 0 => .pointer (some ⟨sb, 0, none⟩) | 1 => .agg #[.pointer (some ⟨d.fb, 0, none⟩), .int .i64 d.x.p.turn, .int .i64 d.x.p.beg, .int .i64 d.x.p.size, .slice pc nc cc] | 2 => .int .i64 torn | 3 => .int .i64 (mag torn) | 4 => .pointer (some ⟨V.heap.size, 1, none⟩) | 5 => .pointer (some ⟨V.heap.size, 3, none⟩) | 6 => .int .i64 d.x.p.size | 7 => .int .i64 ((d.x.p.size : Int) + 1) | _ => .int .i64 (fi : Int)) ?inj ?range ?step ?fin
        case inj => intro i j _ _ h; omega
        case range => intro i hi; simp; omega
        case step =>
          intro i hi a K hdep hbase hdf hsa hK
          have e3 : a.tmps.getD 3 undef = .pointer (some ⟨W.heap.size, 0, none⟩) := hbase 3 (by intro i hi; omega)
          have e5 : a.tmps.getD 5 undef = .pointer (some ⟨W.heap.size + 1, 0, none⟩) := hbase 5 (by intro i hi; omega)
          have e11 : a.tmps.getD 11 undef = .pointer (some ⟨V.heap.size, 0, none⟩) := hbase 11 (by intro i hi; omega)
          have sx' : X.drew.cell? ⟨W.heap.size, 0, none⟩ = some (.pointer (some ⟨sb, 0, none⟩)) := sx
          have tx' : X.drew.cell? ⟨W.heap.size + 1, 0, none⟩ = some (.int .i64 torn) := tx
          have c0 : X.drew.cell? ⟨V.heap.size, 0, none⟩ = some (.pointer (some ⟨d.fb, 0, none⟩)) := b0
          have c1 : X.drew.cell? ⟨V.heap.size, 1, none⟩ = some (.int .i64 d.x.p.turn) := b1
          have c2 : X.drew.cell? ⟨V.heap.size, 2, none⟩ = some (.int .i64 d.x.p.beg) := b2
          have c3 : X.drew.cell? ⟨V.heap.size, 3, none⟩ = some (.int .i64 d.x.p.size) := b3
          have c4 : X.drew.cell? ⟨V.heap.size, 4, none⟩ = some (.slice pc nc cc) := b4
          obtain rfl | rfl | rfl | rfl | rfl | rfl | rfl | rfl | rfl : i = 0 ∨ i = 1 ∨ i = 2 ∨ i = 3 ∨ i = 4 ∨ i = 5 ∨ i = 6 ∨ i = 7 ∨ i = 8 := by omega
          · refine step_read_in rfl rfl (by intro c hc; cases hc) ?_ hK
            simp [execOp, Act.eval, go_sem, e3, sx']
          · refine step_read_in rfl rfl (by intro c hc; cases hc) ?_ hK
            simp [execOp, Act.eval, go_sem, e11, c0, c1, c2, c3, c4]
          · refine step_read_in rfl rfl (by intro c hc; cases hc) ?_ hK
            simp [execOp, Act.eval, go_sem, e5, tx']
          · have e42 : a.tmps.getD 42 undef = .int .i64 torn := hdep 2 (by omega) (by kernel_rfl)
            refine step_call_in rfl rfl (by intro c hc; cases hc) 56 #[.tmp 42] #[3] rfl #[.int .i64 torn] (by simp [Act.eval, e42]) enMag (by omega) _ HMG.out ?_
            rintro _ _ ⟨rfl, rfl⟩
            exact ⟨_, rfl, hK⟩
          · refine step_read_in rfl rfl (by intro c hc; cases hc) ?_ hK
            simp [execOp, Act.eval, go_sem, e11]
          · have e44 : a.tmps.getD 44 undef = .pointer (some ⟨V.heap.size, 1, none⟩) := hdep 4 (by omega) (by kernel_rfl)
            refine step_read_in rfl rfl (by intro c hc; cases hc) ?_ hK
            simp [execOp, Act.eval, go_sem, e44]
          · have e45 : a.tmps.getD 45 undef = .pointer (some ⟨V.heap.size, 3, none⟩) := hdep 5 (by omega) (by kernel_rfl)
            refine step_read_in rfl rfl (by intro c hc; cases hc) ?_ hK
            simp [execOp, Act.eval, go_sem, e45, c3]
          · have e46 : a.tmps.getD 46 undef = .int .i64 d.x.p.size := hdep 6 (by omega) (by kernel_rfl)
            have hw7 : IntKind.i64.wrap ((d.x.p.size : Int) + 1) = (d.x.p.size : Int) + 1 := by rw [IntKind.wrap_i64]; omega
            refine step_read_in rfl rfl (by intro c hc; cases hc) ?_ hK
            simp [execOp, Act.eval, go_sem, e46, hw7]
          · have e47 : a.tmps.getD 47 undef = .int .i64 ((d.x.p.size : Int) + 1) := hdep 7 (by omega) (by kernel_rfl)
            have e43 : a.tmps.getD 43 undef = .int .i64 (mag torn) := hdep 3 (by omega) (by kernel_rfl)
            refine step_read_in rfl rfl (by intro c hc; cases hc) ?_ hK
            simp [execOp, Act.eval, go_sem, e47, e43, hfi]
            omega
        case fin =>
          intro a K hv hb hd hs hQK
          have e40 : a.tmps.getD 40 undef = .pointer (some ⟨sb, 0, none⟩) := hv 0 (by omega)
          have e41 : a.tmps.getD 41 undef = .agg #[.pointer (some ⟨d.fb, 0, none⟩), .int .i64 d.x.p.turn, .int .i64 d.x.p.beg, .int .i64 d.x.p.size, .slice pc nc cc] := hv 1 (by omega)
          have e48 : a.tmps.getD 48 undef = .int .i64 (fi : Int) := hv 8 (by omega)
          refine step_call_in rfl rfl (by intro c hc; cases hc) 58 #[.tmp 40, .tmp 41, .tmp 48] #[24, 95, 3] rfl #[.pointer (some ⟨sb, 0, none⟩), .agg #[.pointer (some ⟨d.fb, 0, none⟩), .int .i64 d.x.p.turn, .int .i64 d.x.p.beg, .int .i64 d.x.p.size, .slice pc nc cc], .int .i64 (fi : Int)] ?_ enTakeS (by omega) _ HCB.out ?_
          · simp [Act.eval, e40, e41, e48]
          · rintro _ Y ⟨rfl, gs', lf', q1, q2, q3, q4, q5⟩
            refine ⟨_, rfl, hQK _ _ ?_⟩
            have hcr : crashed (fs.map MF.core) ds j torn = undo (undone (fs.map MF.core) ds k) d fi := by
              unfold crashed
              rw [if_pos (by omega), HDJ.out, ← HFE.out, show ds.length - 1 - j = k by omega]
            have fin : CrF fs ds w3 sb mb ds.length turn j (left + (lens (fs.map MF.core) : Nat)) torn Y := by
              refine ⟨gs', lf', ?_, q2, ?_, H4.out.drew.trans q4, by omega⟩
              · rw [hcr, ← H1.out]; exact q1
              · rw [hcr, ← H1.out, q3, H1.out]; exact H3.out
            have hkp : KeepsFrom w3.heap.size X Y := keeps_step H2.out ⟨q4.only.os, q4.only.tape, q4.only.output, q4.only.size, q4.only.block⟩ HMB.out
            have FIN := hide fin
            have HKP2 := hide hkp
            clear fin hkp hcr q1 q2 q3 q4 e40 e41 e48
            gi_wp2
            exact ⟨by rw [← hsz3]; exact HKP2.out, rfl, FIN.out⟩
      · have hne : ((j : Int) == (kp : Int)) = false := by
          apply beq_eq_false_iff_ne.2
          omega
        gi_wp2
        have hk0 : k = 0 := by omega
        subst hk0
        have hcr : crashed (fs.map MF.core) ds kp torn = fs.map MF.core := by
          unfold crashed
          rw [if_neg (by omega)]
        refine ⟨KeepsFrom.refl _ _, rfl, gs, lf, ?_, H2.out, ?_, H4.out, hlf0⟩
        · rw [hcr]; exact H1.out
        · rw [hcr]; exact H3.out
  case done =>
    rintro D X hD ⟨gs, lf, h1, h2, h3, h4, h5, hlf0⟩ hKD
    have el : ((List.range ds.length).map (toldP ds)).length = ds.length := by simp
    have hl0' : ds.length = 0 := by rw [el] at h5; omega
    have hcr : crashed (fs.map MF.core) ds kp torn = fs.map MF.core := by unfold crashed; rw [if_neg (by omega)]
    have hun : undone (fs.map MF.core) ds ((List.range ds.length).map (toldP ds)).length = fs.map MF.core := by simp [hl0', undone]
    rw [hun, ← hcr] at h1
    replace h3 : lf + (lens (crashed (fs.map MF.core) ds kp torn) : Nat) = left + (lens (fs.map MF.core) : Nat) := by
      rw [hun] at h3
      rw [hcr]
      exact h3
    clear el
    clear hcr hun hl0' h5
    have hsame := same_crashed h1
    have hlg : gs.length = fs.length := by have := congrArg List.length hsame; simpa using this
    have hwg : (gs.flatMap (·.ws)).length = ds.length := by
      rw [← hp]
      have e1 : (gs.flatMap (·.ws)) = (fs.flatMap (·.ws)) := by
        have := congrArg (fun l => l.flatMap (fun x : List UInt8 × Nat × List MW => x.2.2)) hsame
        simpa [List.flatMap_map] using this
      rw [e1]
      have e2 : ∀ l : List MF, (l.flatMap (·.ws)).length = (l.flatMap placedOf).length := fun l => by
        induction l with
        | nil => rfl
        | cons f l ih => simp only [List.flatMap_cons, List.length_append, ih]; simp [placedOf]
      exact e2 fs
    have hng : ∀ f ∈ gs, f.name.length ≤ maxLen := fun f hf => by
      have : (f.name, f.fb, f.ws) ∈ fs.map (fun f => (f.name, f.fb, f.ws)) := by rw [← hsame]; exact List.mem_map.2 ⟨f, hf, rfl⟩
      obtain ⟨g, hg, he⟩ := List.mem_map.1 this
      simp only [Prod.mk.injEq] at he
      rw [← he.1]
      exact hnm g hg
    have hcg : ∀ f ∈ gs, f.c.length ≤ 4194304 := fun f hf => by
      have h6 : f.c.length ≤ lens (gs.map MF.core) := by
        obtain ⟨a, b, rfl⟩ := List.append_of_mem hf
        simp only [List.map_append, List.map_cons, lens_append, lens_cons, MF.core]
        omega
      rw [h1] at h6
      omega
    have HST := hide (settleAll_any h2 (by omega) (by omega) hpb hng hcg)
    rw [hwg] at HST
    have hsxb : Boxed X W.heap.size 24 (.pointer (some ⟨sb, 0, none⟩)) := h4.only.obj HX3.out (fun hi => by have := hlt _ hi; omega)
    have sx := hsxb.cell
    have HSXB := hide hsxb
    have H1 := hide h1
    have H2 := hide h2
    have H3 := hide h3
    have H4 := hide h4
    have HKD := hide hKD
    have HMB : Hid (mb < w3.heap.size) := hide (by have := hlt mb (.inr (.inl rfl)); omega)
    have HLT := hide hlt
    clear h1 h2 h3 h4 hKD hsame hlg hwg hng hcg hsxb hlt
    gi_wp2_with fail
    refine ⟨trivial, fun _ => by omega, (callsIn_wide.2 HST.out).mono ?_⟩
    rintro _ Y ⟨rfl, hs, s1, s2, s3, s4⟩
    rw [Nat.sub_self] at s3
    have hsy : Boxed Y W.heap.size 24 (.pointer (some ⟨sb, 0, none⟩)) := s4.only.obj HSXB.out (fun hi => by
      rcases H4.out.own _ hi with h' | h'
      · have := HLT.out _ h'; omega
      · omega)
    have sy := hsy.cell
    have hbY := box_cells s3.box
    have y4 := hbY.2.2.2.2
    have f4 := box_frozen s3.box 4
    have HKY : Hid (Y.heap[D]? = some (.deferred (some []))) := by
      refine hide (s4.only.obj HKD.out (fun hi => ?_))
      rcases hi with rfl | rfl | ⟨f, hf, hi⟩
      · have := H2.out.box; rw [HKD.out] at this; cases this
      · have := HMB.out; omega
      · obtain ⟨cur, e, he, _⟩ := (H2.out.files f hf).own_kind hi
        rw [HKD.out] at he; cases he
    have S3 := hide s3
    have S4 := hide s4
    have hlf0' := hlf0
    clear s3 s4 hsy hbY HST sx HKD
    gi_wp2
    have hKZ : (Y.setCell ⟨sb, 4, none⟩ (.bool false)).heap[D]? = some (.deferred (some [])) := (Only.set (F := (· = sb)) Y sb 4 (.bool false) rfl).obj HKY.out (fun e => by
      subst e
      have := S3.out.box; rw [HKY.out] at this; cases this)
    refine ⟨by simp, .inl ⟨_, _, rfl, run_takeDeferred hKZ, ?_⟩⟩
    obtain ⟨p1, p2⟩ := (S3.out.setUp false).puts (.deferred none) hKZ rfl (by have := HMB.out; omega)
    have t1 : Step W Y sb mb fs hs := ((Step.fresh HB3.out).trans H4.out).trans S4.out
    have t2 : Step W (Y.setCell ⟨sb, 4, none⟩ (.bool false)) sb mb fs hs := t1.trans (Step.box (Only.set (F := (· = sb)) Y sb 4 (.bool false) rfl))
    refine ⟨_, results_tmp rfl _ _ _, rfl, ds, hs, lf, HPE.out, HSO.out, p1, ?_, ?_, ⟨t2.only.step p2 (fun i e => .inr (by have := HB3.out.size; omega)), t2.own, t2.cov⟩, hlf0'⟩
    · rw [← HKE.out, ← H1.out, List.map_map]
      apply List.ext_getElem
      · simp; exact s1
      · intro i hi hi'
        simp at hi hi'
        have := s2 i (by omega) (by omega)
        simp only [List.getElem_map, Function.comp, MF.core]
        rw [this.name, this.fb, this.c, this.ws]
    · rw [← HKE.out]; exact H3.out
  case stop =>
    rintro D c k X hD hk ⟨rfl, gs, lf, h1, h2, h3, h4, hlf0⟩ hKD
    have hsame := same_crashed h1
    have hlg : gs.length = fs.length := by have := congrArg List.length hsame; simpa using this
    have hwg : (gs.flatMap (·.ws)).length = ds.length := by
      rw [← hp]
      have e1 : (gs.flatMap (·.ws)) = (fs.flatMap (·.ws)) := by
        have := congrArg (fun l => l.flatMap (fun x : List UInt8 × Nat × List MW => x.2.2)) hsame
        simpa [List.flatMap_map] using this
      rw [e1]
      have e2 : ∀ l : List MF, (l.flatMap (·.ws)).length = (l.flatMap placedOf).length := fun l => by
        induction l with
        | nil => rfl
        | cons f l ih => simp only [List.flatMap_cons, List.length_append, ih]; simp [placedOf]
      exact e2 fs
    have hng : ∀ f ∈ gs, f.name.length ≤ maxLen := fun f hf => by
      have : (f.name, f.fb, f.ws) ∈ fs.map (fun f => (f.name, f.fb, f.ws)) := by rw [← hsame]; exact List.mem_map.2 ⟨f, hf, rfl⟩
      obtain ⟨g, hg, he⟩ := List.mem_map.1 this
      simp only [Prod.mk.injEq] at he
      rw [← he.1]
      exact hnm g hg
    have hcg : ∀ f ∈ gs, f.c.length ≤ 4194304 := fun f hf => by
      have h6 : f.c.length ≤ lens (gs.map MF.core) := by
        obtain ⟨a, b, rfl⟩ := List.append_of_mem hf
        simp only [List.map_append, List.map_cons, lens_append, lens_cons, MF.core]
        omega
      rw [h1] at h6
      omega
    have HST := hide (settleAll_any h2 (by omega) (by omega) hpb hng hcg)
    rw [hwg] at HST
    have hsxb : Boxed X W.heap.size 24 (.pointer (some ⟨sb, 0, none⟩)) := h4.only.obj HX3.out (fun hi => by have := hlt _ hi; omega)
    have sx := hsxb.cell
    have HSXB := hide hsxb
    have H1 := hide h1
    have H2 := hide h2
    have H3 := hide h3
    have H4 := hide h4
    have HKD := hide hKD
    have HMB : Hid (mb < w3.heap.size) := hide (by have := hlt mb (.inr (.inl rfl)); omega)
    have HLT := hide hlt
    clear h1 h2 h3 h4 hKD hsame hlg hwg hng hcg hsxb hlt
    gi_wp2_with fail
    refine ⟨trivial, fun _ => by omega, (callsIn_wide.2 HST.out).mono ?_⟩
    rintro _ Y ⟨rfl, hs, s1, s2, s3, s4⟩
    rw [Nat.sub_self] at s3
    have hsy : Boxed Y W.heap.size 24 (.pointer (some ⟨sb, 0, none⟩)) := s4.only.obj HSXB.out (fun hi => by
      rcases H4.out.own _ hi with h' | h'
      · have := HLT.out _ h'; omega
      · omega)
    have sy := hsy.cell
    have hbY := box_cells s3.box
    have y4 := hbY.2.2.2.2
    have f4 := box_frozen s3.box 4
    have HKY : Hid (Y.heap[D]? = some (.deferred (some []))) := by
      refine hide (s4.only.obj HKD.out (fun hi => ?_))
      rcases hi with rfl | rfl | ⟨f, hf, hi⟩
      · have := H2.out.box; rw [HKD.out] at this; cases this
      · have := HMB.out; omega
      · obtain ⟨cur, e, he, _⟩ := (H2.out.files f hf).own_kind hi
        rw [HKD.out] at he; cases he
    have S3 := hide s3
    have S4 := hide s4
    have hlf0' := hlf0
    clear s3 s4 hsy hbY HST sx HKD
    gi_wp2
    have hKZ : (Y.setCell ⟨sb, 4, none⟩ (.bool false)).heap[D]? = some (.deferred (some [])) := (Only.set (F := (· = sb)) Y sb 4 (.bool false) rfl).obj HKY.out (fun e => by
      subst e
      have := S3.out.box; rw [HKY.out] at this; cases this)
    refine ⟨by simp, .inl ⟨_, _, rfl, run_takeDeferred hKZ, ?_⟩⟩
    obtain ⟨p1, p2⟩ := (S3.out.setUp false).puts (.deferred none) hKZ rfl (by have := HMB.out; omega)
    have t1 : Step W Y sb mb fs hs := ((Step.fresh HB3.out).trans H4.out).trans S4.out
    have t2 : Step W (Y.setCell ⟨sb, 4, none⟩ (.bool false)) sb mb fs hs := t1.trans (Step.box (Only.set (F := (· = sb)) Y sb 4 (.bool false) rfl))
    refine ⟨_, results_tmp rfl _ _ _, rfl, ds, hs, lf, HPE.out, HSO.out, p1, ?_, ?_, ⟨t2.only.step p2 (fun i e => .inr (by have := HB3.out.size; omega)), t2.own, t2.cov⟩, hlf0'⟩
    · rw [← HKE.out, ← H1.out, List.map_map]
      apply List.ext_getElem
      · simp; exact s1
      · intro i hi hi'
        simp at hi hi'
        have := s2 i (by omega) (by omega)
        simp only [List.getElem_map, Function.comp, MF.core]
        rw [this.name, this.fb, this.c, this.ws]
    · rw [← HKE.out]; exact H3.out
theorem crash_any {W : World} {sb mb pend turn : Nat} {left keep torn : Int} {fs : List MF} (h : SRep W sb mb fs left pend turn true) (hlen : fs.length ≤ 4194304) (hp : (fs.flatMap placedOf).length = pend) (hpb : pend ≤ 2199023255552) (hnm : ∀ f ∈ fs, f.name.length ≤ maxLen)
    (hsafe : ∀ ds : List PL, ds.Perm (fs.flatMap placedOf) → ds.Pairwise (fun a b => a.x.p.turn ≤ b.x.p.turn) → ∀ k, k < ds.length → SafeAt (undone (fs.map MF.core) ds k) (ds[ds.length - 1 - k]!)) (hl0 : 0 ≤ left) (htot : left + (lens (fs.map MF.core) : Nat) ≤ 4194304)
    (hk0 : -9223372036854775808 ≤ keep) (hk1 : keep ≤ 9223372036854775807) (ht0 : -9223372036854775808 ≤ torn) (ht1 : torn ≤ 9223372036854775807) :
    Calls Tryz.prog 18 #[.pointer (some ⟨sb, 0, none⟩), .int .i64 keep, .int .i64 torn] W fun e w' => e = .returned (.int .i64 0) ∧ ∃ (ds : List PL) (hs : List MF) (left' : Int), ds.Perm (fs.flatMap placedOf) ∧ ds.Pairwise (fun a b => a.x.p.turn ≤ b.x.p.turn) ∧ SRep w' sb mb hs left' 0 turn false ∧ hs.map MF.core = (crashed (fs.map MF.core) ds ((mag keep).toNat % (pend + 1)) torn).map (fun x => { x with ws := [] }) ∧
      left' + (lens (crashed (fs.map MF.core) ds ((mag keep).toNat % (pend + 1)) torn) : Nat) = left + (lens (fs.map MF.core) : Nat) ∧ Step W w' sb mb fs hs ∧ 0 ≤ left' :=
  callsIn_wide.1 (crash_in 4 (Nat.le_refl _) h hlen hp hpb hnm hsafe hl0 htot hk0 hk1 ht0 ht1)
end Go.Proofs.YtikpckmlnhcddaaGreat
