/-
  (write).takeBack and (*Store).takeBack: a pending write is undone, but for its first bytes. The conditions: it was the last one that the content has.
-/
import Derived.Test.YtikpckmlnhcddaaGreatWri
namespace Go.Proofs.YtikpckmlnhcddaaGreat
open Go.RowKit Go.Maps

/-- The content without the pending write, but for its first bytes. -/
def takeBackL (w : PW) (c : List Int) (first : Nat) : List Int :=
  let c1 := if first < w.cl.length then over c (w.beg + first) (w.cl.drop first) else c
  if w.cl.length < w.size then c1.take (w.beg + max first w.cl.length) else c1

/-- The pending write was the last one that the content has. -/
structure Fits (w : PW) (c : List Int) : Prop where
  inside : w.beg + w.size ≤ c.length
  cover : w.cl.length ≤ w.size
  u8 : U8 w.cl

theorem taken1_length {w : PW} {c : List Int} (h : Fits w c) (first : Nat) : (if first < w.cl.length then over c (w.beg + first) (w.cl.drop first) else c).length = c.length := by
  have := h.inside
  have := h.cover
  split
  · exact over_length (by simp; omega)
  · rfl
theorem takeBackL_u8 {w : PW} {c : List Int} (h : Fits w c) (hu : U8 c) (first : Nat) : U8 (takeBackL w c first) := by
  unfold takeBackL
  have h1 : U8 (if first < w.cl.length then over c (w.beg + first) (w.cl.drop first) else c) := by
    split
    · exact over_u8 hu (h.u8.drop first)
    · exact hu
  simp only
  split
  · exact h1.take _
  · exact h1

theorem row_take {W : World} {base cap n m : Nat} {e : TypeId} {p : Option Addr} {c : List Int} (h : W.ownsRow base e 1 (.slice p n cap) n (c.map (Value.int .u8))) (hm : m ≤ n) : W.ownsRow base e 1 (.slice p m cap) m ((c.take m).map (Value.int .u8)) := by
  have hl : c.length = n := by have := h.1; simpa using this
  rcases h.2 with ⟨he, h0⟩ | ⟨g, cap', cur, he, hb, hg, hn, hcm, hcur, htk⟩
  · simp only [Value.slice.injEq] at he
    obtain ⟨rfl, rfl, rfl⟩ := he
    obtain rfl : m = 0 := by omega
    exact ⟨by simp, .inl ⟨rfl, rfl⟩⟩
  · simp only [Value.slice.injEq, true_and] at he
    obtain ⟨rfl, rfl⟩ := he
    refine ⟨by simp; omega, .inr ⟨g, cap, cur, rfl, hb, hg, by omega, hcm, hcur, ?_⟩⟩
    simp only [Nat.mul_one] at htk ⊢
    have : cur.toList.take m = (cur.toList.take n).take m := by rw [List.take_take]; congr 1; omega
    rw [this, htk, List.map_take]

set_option maxRecDepth 100000 in
set_option maxHeartbeats 4000000 in
theorem takeBack_any {W : World} {x : MW} {p : Option Addr} {cap : Nat} {c : List Int} (hv : W.ownsRow 0 5 1 (.slice p c.length cap) c.length (c.map (Value.int .u8))) (hx : W.ownsRow 0 5 1 x.cov x.p.cl.length (x.p.cl.map (Value.int .u8))) (hf : Fits x.p c) {first : Nat} (hfi : first ≤ x.p.size) (hc : c.length ≤ 4194304) :
    Calls Tryz.prog 73 #[.agg #[.int .i64 x.p.turn, .int .i64 x.p.beg, .int .i64 x.p.size, x.cov], .slice p c.length cap, .int .i64 first] W fun e w' =>
      e = .returned (.slice p (takeBackL x.p c first).length cap) ∧ w'.ownsRow 0 5 1 (.slice p (takeBackL x.p c first).length cap) (takeBackL x.p c first).length ((takeBackL x.p c first).map (Value.int .u8)) ∧ W.grownBy w' (Value.slice p c.length cap).ownBlock := by
  obtain ⟨px, cx, he, hx1, hx2⟩ := own_form hx
  obtain ⟨_, _, _, hcap, hcm⟩ := own_form hv
  have hcap' : c.length ≤ cap := by
    obtain ⟨q, cp, hq, h1, _⟩ := own_form hv
    simp only [Value.slice.injEq, true_and] at hq
    omega
  have hcap2 : cap ≤ 9223372036854775807 := by
    obtain ⟨q, cp, hq, h1, h2⟩ := own_form hv
    simp only [Value.slice.injEq, true_and] at hq
    omega
  have i1 := hf.inside
  have i2 := hf.cover
  obtain ⟨n, hn⟩ : ∃ n, x.p.cl.length = n := ⟨_, rfl⟩
  have HV := hide hv
  have HX := hide hx
  have HF := hide hf
  have HN := hide hn
  rw [he] at HX ⊢
  rw [hn] at i2 hx1 ⊢
  obtain ⟨c1, hc1⟩ : ∃ c1, c1 = (if first < n then over c (x.p.beg + first) (x.p.cl.drop first) else c) := ⟨_, rfl⟩
  have hc1l : c1.length = c.length := by rw [hc1, ← hn]; exact taken1_length hf first
  have HTB : Hid (takeBackL x.p c first = if n < x.p.size then c1.take (x.p.beg + max first n) else c1) := by
    show _ = _
    unfold takeBackL
    simp only
    rw [hn, ← hc1]
  have HC1 := hide hc1
  clear hv hx hf hn hc1
  obtain ⟨O, hO⟩ : ∃ O : Obj, O = .cells #[.int .i64 x.p.turn, .int .i64 x.p.beg, .int .i64 x.p.size, .slice px n cx] 93 (0, 0) := ⟨_, rfl⟩
  have HO := hide hO
  have HBX : Hid ((W.alloc O).heap[W.heap.size]? = some O) := hide (heap_alloc_new W O)
  have hrun : Hid (first < n → ∃ w', (Builtin.copy_ #[31, 31] 3 #[.slice (if cap = x.p.beg + first then p else Option.map (fun y => y.add (x.p.beg + first)) p) (c.length - (x.p.beg + first)) (cap - (x.p.beg + first)), .slice (if cx = first then px else Option.map (fun y => y.add first) px) (n - first) (cx - first)]).run Tryz.prog (W.alloc O).drew = .ok (.int .i64 ((n - first : Nat) : Int)) w' ∧
      w'.heap[W.heap.size]? = some O ∧ w'.ownsRow 0 5 1 (.slice p c.length cap) c.length (c1.map (Value.int .u8)) ∧ W.grownBy w' (Value.slice p c.length cap).ownBlock) := by
    refine hide fun hlt => ?_
    have hb : Below W.heap.size W (W.alloc O).drew := (alloc_below W O).drew
    have hrx : Row .u8 (W.alloc O).drew (.slice (if cx = first then px else Option.map (fun y => y.add first) px) (n - first) (cx - first)) (x.p.cl.drop first) := by
      have := own_row HX.out
      have := (this.cutIf (lo := first) (n := n - first) (by rw [HN.out]; omega)).below hb
      rw [List.take_of_length_le (by simp; rw [HN.out]; omega)] at this
      exact this
    have hdl : (x.p.cl.drop first).length = n - first := by simp; rw [HN.out]
    obtain ⟨w', r1, r2, r3⟩ := run_copy_over (P := Tryz.prog) (W.alloc O).drew 31 3 5 Tryz.underlying31 (by kernel_rfl) (c := c) (x := x.p.cl.drop first) (ownsRow_later HV.out hb) hrx (x.p.beg + first) (by rw [hdl]; omega)
    rw [hdl] at r1
    have hne : some W.heap.size ≠ (Value.slice p c.length cap).ownBlock := fun e => by
      have := (own_block_lt HV.out e.symm).1
      omega
    refine ⟨w', r1, (r3.block _ (by simp) hne).trans HBX.out, ?_, (World.grownBy_alloc W O _).trans ⟨r3.os, r3.tape, r3.output, r3.size, r3.block⟩⟩
    rw [HC1.out, if_pos hlt]
    exact r2
  have HG0 : Hid (W.grownBy (W.alloc O) (Value.slice p c.length cap).ownBlock) := hide (World.grownBy_alloc W O _)
  have HV0 : Hid ((W.alloc O).ownsRow 0 5 1 (.slice p c.length cap) c.length (c.map (Value.int .u8))) := hide (ownsRow_later HV.out (alloc_below W O))
  rw [hO] at hrun HG0 HV0 HBX
  clear hO HO
  go_enter Tryz.func73, Tryz.ntmps73
  go_upto_if 11 with fail
  go_cut [1] from 7 (fun s1 wd => s1 = .slice p c.length cap ∧ Hid (wd.heap[W.heap.size]? = some (.cells #[.int .i64 x.p.turn, .int .i64 x.p.beg, .int .i64 x.p.size, .slice px n cx] 93 (0, 0))) ∧ Hid (wd.ownsRow 0 5 1 (.slice p c.length cap) c.length (c1.map (Value.int .u8))) ∧ Hid (W.grownBy wd (Value.slice p c.length cap).ownBlock))
  case first =>
    by_cases hlt : first < n
    · have q0 : (0 : Int) ≤ (x.p.beg : Int) + (first : Int) := by omega
      have q1 : (x.p.beg : Int) + (first : Int) ≤ (c.length : Int) := by omega
      have q2 : (0 : Int) ≤ (first : Int) := by omega
      have q3 : (first : Int) ≤ (n : Int) := by omega
      have q5 : IntKind.i64.wrap ((x.p.beg : Int) + (first : Int)) = (x.p.beg : Int) + (first : Int) := by rw [IntKind.wrap_i64]; omega
      have q6 : ((x.p.beg : Int) + (first : Int)).toNat = x.p.beg + first := by omega
      obtain ⟨w', r1, r2, r3, r4⟩ := hrun.out hlt
      obtain ⟨A, hA⟩ : ∃ A, (if cap = x.p.beg + first then p else Option.map (fun y => y.add (x.p.beg + first)) p) = A := ⟨_, rfl⟩
      obtain ⟨B, hB⟩ : ∃ B, (if cx = first then px else Option.map (fun y => y.add first) px) = B := ⟨_, rfl⟩
      rw [hA, hB] at r1
      have R1 := hide r1
      have R2 := hide r2
      have R3 := hide r3
      have R4 := hide r4
      clear r1 r2 r3 r4 hrun
      go_upto_region 2 with fail
      go_region_law (refine step_copy rfl (.tmp 17) (.tmp 21) 31 31 rfl (.slice A (c.length - (x.p.beg + first)) (cap - (x.p.beg + first))) (.slice B (n - first) (cx - first)) (by simp [Act.eval, Act.put, *]) (by simp [Act.eval, Act.put, *]) R1.out ?_)
      all_goals
        go_wp2_with fail
        go_meet
        case rel => exact ⟨rfl, R2, R3, R4⟩
    · have hcc : Hid (c1 = c) := by show _ = _; rw [HC1.out, if_neg hlt]
      clear hrun
      go_wp2_with fail
      go_meet
      case rel => exact ⟨rfl, HBX, by rw [hcc.out]; exact HV0, HG0⟩
  case rest =>
  obtain ⟨rfl, H1, H2, H3⟩ := hcut
  clear hrun HG0 HV0 HBX
  have k3 : wc.cell? ⟨W.heap.size, 3, none⟩ = some (.slice px n cx) := by simp [World.cell?, H1.out]
  have k2 : wc.cell? ⟨W.heap.size, 2, none⟩ = some (.int .i64 x.p.size) := by simp [World.cell?, H1.out]
  have k1 : wc.cell? ⟨W.heap.size, 1, none⟩ = some (.int .i64 x.p.beg) := by simp [World.cell?, H1.out]
  by_cases hsz : n < x.p.size
  · go_wp2
    all_goals
      go_ret
      have e1 : takeBackL x.p c first = c1.take (x.p.beg + max first n) := by rw [HTB.out, if_pos hsz]
      have hl : (c1.take (x.p.beg + max first n)).length = x.p.beg + max first n := by rw [List.length_take, hc1l]; omega
      rw [e1, hl]
      exact ⟨congrArg (fun k => Ending.returned (.slice p k cap)) (by omega), row_take H2.out (by omega), H3.out⟩
  · have e1 : Hid (takeBackL x.p c first = c1) := by show _ = _; rw [HTB.out, if_neg hsz]
    go_wp2
    go_ret
    rw [e1.out, hc1l]
    exact ⟨rfl, H2.out, H3.out⟩

theorem set_comm (w : World) {b b' : Nat} (o o' : Nat) (u v : Value) (h : b ≠ b') : ((w.setCell ⟨b, o, none⟩ u).setCell ⟨b', o', none⟩ v).heap = ((w.setCell ⟨b', o', none⟩ v).setCell ⟨b, o, none⟩ u).heap := by
  apply Array.ext_getElem?
  intro i
  simp only [World.setCell, Array.getElem?_modify]
  by_cases h1 : b = i
  · by_cases h2 : b' = i
    · omega
    · simp [h1, h2]
  · by_cases h2 : b' = i
    · simp [h1, h2]
    · simp [h1, h2]
theorem SRep.heap {W W' : World} {sb mb pend turn : Nat} {left : Int} {fs : List MF} {up : Bool} (h : SRep W sb mb fs left pend turn up) (ho : Only (fun _ => False) W W') : SRep W' sb mb fs left pend turn up := h.only ho (fun _ _ h => h) (fun _ _ h => h)
theorem Only.same {A B : World} (h : B.heap = A.heap) (h1 : B.os = A.os) (h2 : B.tape = A.tape) (h3 : B.output = A.output) (F : Nat → Prop) : Only F A B := ⟨h1, h2, h3, by rw [h]; exact Nat.le_refl _, fun _ _ _ => by rw [h]⟩
theorem enTake : ∀ args w, (callFunc 73 args).run Tryz.prog w = .ok (.enter 73 args) w := enters_of Tryz.func73 (by kernel_rfl) rfl
theorem FRep.shorter {W : World} {f : MF} {p : Option Addr} {cap : Nat} (h : FRep W f) (hs : ∀ x ∈ f.ws, Apart f.cv x.cov) (he : f.cv = .slice p f.c.length cap) {w' : World} {c : List Int} (hu : U8 c) (hown : w'.ownsRow 0 5 1 (.slice p c.length cap) c.length (c.map (Value.int .u8))) (hg : W.grownBy w' f.cv.ownBlock) :
    Chg W (w'.setCell ⟨f.fb, 0, none⟩ (.slice p c.length cap)) f { f with c := c, cv := .slice p c.length cap } :=
  h.appended hs hu hown hg (.inl (by rw [he]; cases p <;> rfl))

set_option maxRecDepth 100000 in
set_option maxHeartbeats 4000000 in
/-- The store takes a pending write back. -/
theorem takeBack_store {W : World} {sb mb pend turn : Nat} {left : Int} {l r : List MF} {f : MF} {up : Bool} (h : SRep W sb mb (l ++ f :: r) left pend turn up) {x : MW} (hx : x ∈ f.ws) (hf : Fits x.p f.c) {first : Nat} (hfi : first ≤ x.p.size) (hc : f.c.length ≤ 4194304) (hl0 : 0 ≤ left) (hl1 : left ≤ 4194304) (hl2 : (takeBackL x.p f.c first).length ≤ f.c.length) :
    Calls Tryz.prog 58 #[.pointer (some ⟨sb, 0, none⟩), .agg #[.pointer (some ⟨f.fb, 0, none⟩), .int .i64 x.p.turn, .int .i64 x.p.beg, .int .i64 x.p.size, x.cov], .int .i64 first] W fun e w' => e = .returned (.tuple #[]) ∧
      ∃ cv, SRep w' sb mb (l ++ { f with c := takeBackL x.p f.c first, cv := cv } :: r) (left + ((f.c.length : Int) - (takeBackL x.p f.c first).length)) pend turn up ∧ Step W w' sb mb (l ++ f :: r) (l ++ { f with c := takeBackL x.p f.c first, cv := cv } :: r) := by
  obtain ⟨c0, c1, c2, c3, c4⟩ := box_cells h.box
  have hF := h.files f (by simp)
  obtain ⟨d0, _, g0, _⟩ := hF.fcells
  obtain ⟨q, qcap, he, h1, h2⟩ := hF.con_form
  obtain ⟨px, cx, hxe, hx1, hx2⟩ := own_form (hF.cov x hx).1
  rw [he] at d0
  rw [hxe]
  obtain ⟨O, hO⟩ : ∃ O : Obj, O = .cells #[.pointer (some ⟨f.fb, 0, none⟩), .int .i64 x.p.turn, .int .i64 x.p.beg, .int .i64 x.p.size, .slice px x.p.cl.length cx] 95 (0, 0) := ⟨_, rfl⟩
  have hb := alloc_below W O
  have h' := h.fresh hb
  have HX := hide (takeBack_any (W := (W.alloc O).drew) (x := x) (p := q) (cap := qcap) (c := f.c) (first := first) (by rw [← he]; exact ((h'.files f (by simp)).drew).con) ((h'.files f (by simp)).drew.cov x hx).1 hf hfi hc)
  rw [hxe] at HX
  have HP := hide h'
  have HBX : Hid ((W.alloc O).heap[W.heap.size]? = some O) := hide (heap_alloc_new W O)
  have HSZ : Hid (Below W.heap.size W (W.alloc O)) := hide hb
  have HFT := hide hf
  have HE := hide he
  have HNW : Hid (some W.heap.size ≠ (Value.slice q f.c.length qcap).ownBlock) := by
    refine hide fun e => ?_
    have hh := hF.con
    rw [he] at hh
    have := (own_block_lt hh e.symm).1
    omega
  have HL2 := hide hl2
  obtain ⟨n', hn'⟩ : ∃ n', (takeBackL x.p f.c first).length = n' := ⟨_, rfl⟩
  rw [hn'] at HX HL2 ⊢
  have HN := hide hn'
  rw [hO] at HX HP HBX HSZ
  clear hF hf h h' hb hO hx c0 c2 c3 c4 he hl2 hn' hxe
  have hl2 := HL2.out
  have d1 := cell_later HSZ.out d0
  go_enter Tryz.func58, Tryz.ntmps58
  go_upto_region 1 with fail
  go_cut [6] from 7 (fun s6 wd => s6 = .slice q n' qcap ∧ Hid (wd.heap[W.heap.size]? = some (.cells #[.pointer (some ⟨f.fb, 0, none⟩), .int .i64 x.p.turn, .int .i64 x.p.beg, .int .i64 x.p.size, .slice px x.p.cl.length cx] 95 (0, 0))) ∧ Hid (wd.ownsRow 0 5 1 (.slice q n' qcap) n' ((takeBackL x.p f.c first).map (Value.int .u8))) ∧ Hid ((W.alloc (.cells #[.pointer (some ⟨f.fb, 0, none⟩), .int .i64 x.p.turn, .int .i64 x.p.beg, .int .i64 x.p.size, .slice px x.p.cl.length cx] 95 (0, 0))).grownBy wd (Value.slice q f.c.length qcap).ownBlock))
  case first =>
    go_region_law (refine step_calls rfl 73 #[.tmp 8, .tmp 13, .tmp 14] #[93, 31, 3] rfl #[.agg #[.int .i64 x.p.turn, .int .i64 x.p.beg, .int .i64 x.p.size, .slice px x.p.cl.length cx], .slice q f.c.length qcap, .int .i64 first] (by simp [Act.eval, *]) enTake _ HX.out ?_; rintro r w1 ⟨rfl, hown, hg⟩; refine ⟨_, rfl, ?_⟩)
    all_goals
      go_wp2_with fail
      go_meet
      case rel => exact ⟨rfl, hide ((hg.block _ (by simp) HNW.out).trans HBX.out), hide hown, hide ⟨hg.os, hg.tape, hg.output, hg.size, hg.block⟩⟩
  case rest =>
  obtain ⟨rfl, H1, H2, H3⟩ := hcut
  have HC : Hid (Chg (W.alloc (.cells #[.pointer (some ⟨f.fb, 0, none⟩), .int .i64 x.p.turn, .int .i64 x.p.beg, .int .i64 x.p.size, .slice px x.p.cl.length cx] 95 (0, 0))) (wc.setCell ⟨f.fb, 0, none⟩ (.slice q n' qcap)) f { f with c := takeBackL x.p f.c first, cv := .slice q n' qcap }) := by
    have := (HP.out.files f (by simp)).shorter (fun x hx => HP.out.sep f (by simp) f (by simp) x hx) HE.out (w' := wc) (c := takeBackL x.p f.c first) (takeBackL_u8 HFT.out (HP.out.files f (by simp)).u8 first) (by rw [HN.out]; exact H2.out) (by rw [HE.out]; exact H3.out)
    rw [HN.out] at this
    exact hide this
  have HSB : Hid (f.fb ≠ sb) := hide (fun e => HP.out.sb_not (f := f) (by simp) (.inl e.symm))
  have HT1 : Hid (wc.heap[sb]? = some (.cells #[.map (some mb), .int .i64 left, .int .i64 pend, .int .i64 turn, .bool up] 63 (0, 0))) := by
    have hbx := HP.out.box
    refine hide ((H3.out.block sb (Array.getElem?_eq_some_iff.1 hbx).1 (fun e => ?_)).trans hbx)
    rw [← HE.out] at e
    exact HP.out.sb_not (f := f) (by simp) (.inr (.inl e.symm))
  have HT2 : Hid (wc.heap[f.fb]? = some (.cells #[.slice q f.c.length qcap, f.pv] 80 (0, 0))) := by
    have hbx := (HP.out.files f (by simp)).box
    rw [HE.out] at hbx
    refine hide ((H3.out.block f.fb (Array.getElem?_eq_some_iff.1 hbx).1 (fun e => ?_)).trans hbx)
    rw [← HE.out] at e
    exact (HP.out.files f (by simp)).not_uint8 e.symm
  have hsb := HSB.out
  have k0 : wc.cell? ⟨W.heap.size, 0, none⟩ = some (.pointer (some ⟨f.fb, 0, none⟩)) := by simp [World.cell?, H1.out]
  have k1 : wc.cell? ⟨sb, 1, none⟩ = some (.int .i64 left) := by simp [World.cell?, HT1.out]
  have k2 : wc.frozen? ⟨sb, 1, none⟩ = false := box_frozen HT1.out 1
  have k3 : wc.cell? ⟨f.fb, 0, none⟩ = some (.slice q f.c.length qcap) := by simp [World.cell?, HT2.out]
  have k4 : wc.frozen? ⟨f.fb, 0, none⟩ = false := box_frozen HT2.out 0
  have HWB : Hid (∀ v, (wc.setCell ⟨sb, 1, none⟩ v).cell? ⟨W.heap.size, 0, none⟩ = some (.pointer (some ⟨f.fb, 0, none⟩))) := by
    refine hide fun v => ?_
    have hne : W.heap.size ≠ sb := fun e => by
      have := H1.out
      rw [e, HT1.out] at this
      simp at this
    exact (Only.set (F := (· = sb)) wc sb 1 v rfl).cell k0 (fun e => hne e)
  have k5 := HWB.out (.int .i64 (left + ((f.c.length : Int) - (n' : Int))))
  clear d0 d1 c1
  go_wp2
  go_region
  go_wp2
  go_end0
  refine ⟨rfl, .slice q n' qcap, ?_⟩
  have h6 := (HP.out.change HC.out).setLeft (left + ((f.c.length : Int) - (n' : Int)))
  have hw := set_comm wc 1 0 (.int .i64 (left + ((f.c.length : Int) - (n' : Int)))) (.slice q n' qcap) (Ne.symm HSB.out)
  have ho : ∀ F, Only F ((wc.setCell ⟨f.fb, 0, none⟩ (.slice q n' qcap)).setCell ⟨sb, 1, none⟩ (.int .i64 (left + ((f.c.length : Int) - (n' : Int))))) ((wc.setCell ⟨sb, 1, none⟩ (.int .i64 (left + ((f.c.length : Int) - (n' : Int))))).setCell ⟨f.fb, 0, none⟩ (.slice q n' qcap)).drew := fun F => (Only.same hw rfl rfl rfl F).drew
  refine ⟨h6.heap (ho _), ?_⟩
  have t1 := ((Step.fresh (sb := sb) (mb := mb) (fs := l ++ f :: r) HSZ.out).trans HC.out.step).trans (Step.box (mb := mb) (Only.set (F := (· = sb)) _ sb 1 (.int .i64 (left + ((f.c.length : Int) - (n' : Int)))) rfl))
  exact t1.trans ⟨ho _, fun _ h => .inl h, fun _ h => .inl h⟩
end Go.Proofs.YtikpckmlnhcddaaGreat
