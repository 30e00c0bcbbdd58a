/-
  (*file).put: a pending write, over and behind what a file has. The conditions: the file lies as files do; the bytes lie apart from it, and read as bytes.
-/
import Derived.Test.YtikpckmlnhcddaaGreatChg
import Derived.Laws.CopyOwn
import Derived.Deep.RegionLaw
import Derived.Deep.RegionHeld3
import Derived.Deep.AppendLies
import Derived.Deep.Cut
namespace Go.Proofs.YtikpckmlnhcddaaGreat
open Go.RowKit Go.Maps

theorem Tryz.infoWr : (Tryz.prog.info? 93).map (fun i => (i.zero, i.size, i.bytes)) = some (some (.agg #[.int .i64 0, .int .i64 0, .int .i64 0, .slice none 0 0]), 4, 48) := by kernel_rfl

theorem Row.cutIf {k : IntKind} {w : World} {p : Option Addr} {cap : Nat} {l : List Int} (h : Row k w (.slice p l.length cap) l) {lo n : Nat} (hn : lo + n ≤ l.length) :
    Row k w (.slice (if cap = lo then p else Option.map (fun x => x.add lo) p) n (cap - lo)) ((l.drop lo).take n) := by
  have hl : ((l.drop lo).take n).length = n := by simp; omega
  by_cases hc : cap = lo
  · rw [if_pos hc]
    obtain ⟨p', cap', he, h1, h2, h3, h4⟩ := h
    simp only [Value.slice.injEq, true_and] at he
    obtain ⟨rfl, rfl⟩ := he
    obtain rfl : n = 0 := by omega
    refine ⟨p, cap - lo, by rw [hl], by omega, by omega, fun _ => by omega, fun hp => by omega⟩
  · rw [if_neg hc]
    have e : (l.drop lo).length = l.length - lo := by simp
    have := (h.cut (j := lo) (by omega))
    rw [← e] at this
    exact this.take (by omega)

theorem _root_.Go.World.ownsRow.later {A B : World} {base n k : Nat} {e : TypeId} {v : Value} {xs : List Value} (h : A.ownsRow base e k v n xs) (hb : Below A.drew.heap.size A.drew B) (o : Obj) : (B.alloc o).ownsRow base e k v n xs :=
  ownsRow_later (ownsRow_later (A := A.drew) h hb) (alloc_below _ _)
theorem FRep.lt_of {W w1 : World} {f : MF} (h : FRep W f) (hb : Below W.drew.heap.size W.drew w1) : f.fb < w1.heap.size :=
  Nat.lt_of_lt_of_le (Array.getElem?_eq_some_iff.1 h.box).1 hb.size
theorem FRep.frozen_past {W w1 w2 : World} {o : Obj} {f : MF} {row : Option Nat} (h : FRep W f) (hb : Below W.drew.heap.size W.drew w1) (hg : (w1.alloc o).grownBy w2 row) (hne : some f.fb ≠ row) : w2.frozen? ⟨f.fb, 1, none⟩ = false := by
  have h1 : w1.heap[f.fb]? = some (.cells #[f.cv, f.pv] 80 (0, 0)) := (hb.block f.fb (Array.getElem?_eq_some_iff.1 h.box).1).trans h.box
  have h2 : (w1.alloc o).heap[f.fb]? = some (.cells #[f.cv, f.pv] 80 (0, 0)) := ((alloc_below w1 o).block f.fb (Array.getElem?_eq_some_iff.1 h1).1).trans h1
  exact box_frozen ((hg.block f.fb (Array.getElem?_eq_some_iff.1 h2).1 hne).trans h2) 1
theorem below_undrew {W w1 : World} (h : Below W.drew.heap.size W.drew w1) : Below W.heap.size W w1 := ⟨h.os, h.tape, h.output, h.size, h.block⟩
theorem one_wr (a b c : Int) (p : Option Addr) (n m : Nat) : ∀ u ∈ ([.int .i64 a, .int .i64 b, .int .i64 c, .slice p n m] : List Value), u.oneCell' = true := by
  intro u hu
  simp at hu
  rcases hu with rfl | rfl | rfl | rfl <;> rfl

theorem enClone : ∀ args w, (callFunc 61 args).run Tryz.prog w = .ok (.enter 61 args) w := enters_of Tryz.func61 (by kernel_rfl) rfl
/-- bytes.Clone, its answer written out. -/
theorem clone_len {v : Value} {l : List Int} {w : World} {n : Nat} (h : Row .u8 w v l) (hbig : l.length ≤ 140737488355328) (hn : l.length = n) :
    Calls Tryz.prog 61 #[v] w fun e w' => ∃ p cap, e = .returned (.slice p n cap) ∧ w'.ownsRow w.heap.size 5 1 (.slice p n cap) n (l.map (Value.int .u8)) ∧ Below w.heap.size w w' := by
  subst hn
  refine (clone_any h hbig).mono ?_
  rintro e w' ⟨v', rfl, hown, hb⟩
  obtain ⟨p, cap, rfl, _, _⟩ := own_form hown
  exact ⟨p, cap, rfl, hown, hb⟩

/-- A list with another one over it, from a place on, and behind it. -/
def putL (c : List Int) (at_ : Nat) (b : List Int) : List Int := c.take at_ ++ (b ++ c.drop (at_ + b.length))
theorem putL_length {c : List Int} {at_ : Nat} {b : List Int} (h : at_ ≤ c.length) : (putL c at_ b).length = max c.length (at_ + b.length) := by simp [putL]; omega
theorem putL_over {c : List Int} {at_ ov : Nat} {b : List Int} (h1 : at_ + ov ≤ c.length) (h2 : ov ≤ b.length) (h3 : ov = b.length ∨ at_ + ov = c.length) : over c at_ (b.take ov) ++ b.drop ov = putL c at_ b := by
  have hl : (b.take ov).length = ov := by simp; omega
  unfold over putL
  rw [hl]
  rcases h3 with h3 | h3
  · subst h3; simp
  · have e1 : c.drop (at_ + ov) = [] := List.drop_of_length_le (by omega)
    have e2 : c.drop (at_ + b.length) = [] := List.drop_of_length_le (by omega)
    rw [e1, e2]
    simp
theorem cover_min {c : List Int} {at_ ov n : Nat} (h2 : ov ≤ n) (h3 : ov = n ∨ at_ + ov = c.length) : (c.drop at_).take ov = (c.drop at_).take n := by
  rcases h3 with h3 | h3
  · rw [h3]
  · rw [List.take_of_length_le (by simp; omega), List.take_of_length_le (by simp; omega)]

set_option maxRecDepth 100000 in
set_option maxHeartbeats 4000000 in
theorem put_any {W : World} {f : MF} (hF : FRep W f) (hs : ∀ x ∈ f.ws, Apart f.cv x.cov) {v : Value} {b : List Int} (hb : Row .u8 W v b) (hclr : Clear (ownF f) v) (hu : U8 b) {turn at_ : Nat} (hat : at_ ≤ f.c.length) (hc : f.c.length ≤ 4194304) (hbl : b.length ≤ 4194304) (hw : f.ws.length ≤ 2199023255552) :
    Calls Tryz.prog 52 #[.pointer (some ⟨f.fb, 0, none⟩), .int .i64 turn, .int .i64 at_, v] W fun e w' => e = .returned (.tuple #[]) ∧
      ∃ cov cv pv, Chg W w' f { f with c := putL f.c at_ b, ws := f.ws ++ [⟨⟨turn, at_, b.length, (f.c.drop at_).take b.length⟩, cov⟩], cv := cv, pv := pv } := by
  obtain ⟨c0, c1, f0, f1⟩ := hF.fcells
  obtain ⟨p, cap, he, h1, h2⟩ := hF.con_form
  obtain ⟨pp, pcap, hpe, hp1, hp2⟩ := own_form hF.pen
  obtain ⟨pb, bcap, rfl, hb1, hb2, _, _⟩ := id hb
  obtain ⟨ov, o1, o2, o3⟩ : ∃ ov : Nat, at_ + ov ≤ f.c.length ∧ ov ≤ b.length ∧ (ov = b.length ∨ at_ + ov = f.c.length) := ⟨min b.length (f.c.length - at_), by omega, by omega, by omega⟩
  rw [he] at c0
  rw [hpe] at c1
  have HF := hide hF
  have HB := hide hb
  have HU := hide hu
  clear hF hb hu
  go_enter Tryz.func52, Tryz.ntmps52
  go_upto_region 0 with fail
  go_cut [8] from 9 (fun s8 wc => s8 = .int .i64 (ov : Int) ∧ wc = W)
  case first =>
    go_wp2
    all_goals
      go_meet
      case rel => exact ⟨congrArg (Value.int .i64) (by omega), rfl⟩
  case rest =>
  obtain ⟨rfl, rfl⟩ := hcut
  rename World => W0
  go_upto_region 1 with fail
  go_cut [8] from 9 (fun s8 wd => s8 = .int .i64 (ov : Int) ∧ ∃ cov pv, Hid (Chg W0 wd f { f with ws := f.ws ++ [⟨⟨turn, at_, b.length, (f.c.drop at_).take ov⟩, cov⟩], pv := pv }))
  case first =>
    obtain ⟨i0, hi, hz0, hz1, hz2⟩ := info_parts Tryz.infoWr
    have q0 : (0 : Int) ≤ (at_ : Int) := by omega
    have q1 : (at_ : Int) ≤ (at_ : Int) + (ov : Int) := by omega
    have q2 : (at_ : Int) + (ov : Int) ≤ (cap : Int) := by omega
    have q3 : IntKind.i64.wrap ((at_ : Int) + (ov : Int)) = (at_ : Int) + (ov : Int) := by rw [IntKind.wrap_i64]; omega
    have q4 : ((at_ : Int) + (ov : Int)).toNat - at_ = ov := by omega
    obtain ⟨A, hA, HR⟩ : ∃ A, (if cap = at_ then p else Option.map (fun x => x.add at_) p) = A ∧ Hid (Row .u8 W0.drew (.slice A ov (cap - at_)) ((f.c.drop at_).take ov)) := by
      have := own_row HF.out.con
      rw [he] at this
      exact ⟨_, rfl, hide ((this.cutIf (by omega)).below ((Below.refl _ W0).drew))⟩
    have HLN : Hid (((f.c.drop at_).take ov).length ≤ 140737488355328) := by show _ ≤ _; simp; omega
    have HLE : Hid (((f.c.drop at_).take ov).length = ov) := by show _ = _; simp; omega
    have HP1 := hide HF.out.pen
    rw [hpe] at HP1
    have HNB : Hid (some f.fb ≠ (Value.slice pp f.ws.length pcap).ownBlock) := by
      have := HF.out.not_write
      rw [hpe] at this
      exact hide (fun e => this e.symm)
    have HL1 : Hid (f.ws.length + 1 ≤ maxLen) := by show _ ≤ _; unfold maxLen; omega
    have HL2 : Hid ((f.ws.length + 1) * 48 ≤ 140737488355328) := by show _ ≤ _; omega
    have HFZ : Hid (∀ (w1 w2 : World) (o : Obj), Below W0.drew.heap.size W0.drew w1 → (w1.alloc o).grownBy w2 (Value.slice pp f.ws.length pcap).ownBlock → w2.frozen? ⟨f.fb, 1, none⟩ = false) := hide (fun _ _ _ hb hg => HF.out.frozen_past hb hg HNB.out)
    have HS := hide hs
    have HCL := hide hclr
    clear hs hclr
    go_region_law (first
      | (refine step_calls rfl 61 #[.tmp 36] #[31] rfl #[.slice A ov (cap - at_)] (by simp [Act.eval, Act.put, *]) enClone _ (clone_len HR.out HLN.out HLE.out) ?_; rintro r w1 ⟨A2, cap2, rfl, hown, hb⟩; refine ⟨_, rfl, ?_⟩; have k0 : w1.cell? ⟨f.fb, 0, none⟩ = some (.slice p f.c.length cap) := cell_later hb (by exact c0); have k1 : w1.cell? ⟨f.fb, 1, none⟩ = some (.slice pp f.ws.length pcap) := cell_later hb (by exact c1); have kz := HF.out.lt_of hb)
      | (refine step_append_lies _ rfl (.tmp 23) (.tmp 39) 78 rfl 0 93 i0 (.agg #[.int .i64 0, .int .i64 0, .int .i64 0, .slice none 0 0]) 4 48 Tryz.underlying78 hi hz0 hz1 hz2 rfl (by decide) (.slice pp f.ws.length pcap) f.ws.length (f.ws.flatMap MW.cells) rfl (HP1.out.later hb _) ⟨w1.heap.size, 0, none⟩ 1 1 [.int .i64 turn, .int .i64 at_, .int .i64 b.length, .slice A2 ov cap2] rfl rfl (World.news_of_block (heap_alloc_new _ _)) (one_wr _ _ _ _ _ _) (by omega) HL1.out HL2.out (Nat.zero_le _) (w1.heap.size + 1) (by simp) ?_; intro g gcap w2 hown2 hg2 hat2 hlt2; have k2 : w2.cell? ⟨f.fb, 0, none⟩ = some (.slice p f.c.length cap) := hg2.cell (cell_later (alloc_below _ _) k0) HNB.out; have k3 : w2.frozen? ⟨f.fb, 1, none⟩ = false := HFZ.out _ _ _ hb hg2; have k4 : w2.cell? ⟨f.fb, 1, none⟩ = some (.slice pp f.ws.length pcap) := hg2.cell (cell_later (alloc_below _ _) k1) HNB.out))
    all_goals
      go_wp2_with fail
      go_meet
      case rel =>
        refine ⟨rfl, .slice A2 ov cap2, .slice (some ⟨g, 0, none⟩) (f.ws.length + 1) gcap, ?_⟩
        refine HF.out.pushed (p := ⟨turn, at_, b.length, (f.c.drop at_).take ov⟩) HS.out (w1 := w1) (below_undrew hb) (U8.take (HF.out.u8.drop at_) ov) ?_ (by rw [hpe]; exact hg2) hown2 ?_
        · show w1.ownsRow _ _ _ _ _ _
          rw [HLE.out]
          exact hown
        · rcases hat2 with h' | h'
          · exact .inl (by rw [hpe, h']; rfl)
          · refine .inr ⟨g, rfl, ?_⟩
            have : W0.heap.size ≤ w1.heap.size := hb.size
            omega
  case rest =>
  obtain ⟨rfl, cov, pv, HC⟩ := hcut
  rename World => W1
  clear f0 f1 c0 c1 hpe hp1 hp2
  obtain ⟨fx, hfx⟩ : ∃ fx : MF, fx = { f with ws := f.ws ++ [⟨⟨turn, at_, b.length, (f.c.drop at_).take ov⟩, cov⟩], pv := pv } := ⟨_, rfl⟩
  have HFX := hide hfx
  rw [← hfx] at HC
  have e1 : fx.fb = f.fb := by rw [hfx]
  have e2 : fx.cv = .slice p f.c.length cap := by rw [hfx]; exact he
  have e3 : fx.c = f.c := by rw [hfx]
  clear hfx
  obtain ⟨d0, _, g0, _⟩ := HC.out.rep.fcells
  rw [e1, e2] at d0
  rw [e1] at g0
  have HE1 := hide e1
  have HE2 := hide e2
  have HE3 := hide e3
  have HB1 : Hid (Row .u8 W1 (.slice pb b.length bcap) b) := hide (HB.out.only HC.out.only hclr)
  clear e1 e2 e3
  go_upto_region 2 with fail
  go_cut [8] from 9 (fun s8 wd => s8 = .int .i64 (ov : Int) ∧ Hid (Chg W1 wd fx { fx with c := over fx.c at_ (b.take ov) }))
  case first =>
    have q0 : (0 : Int) ≤ (at_ : Int) := by omega
    have q1 : (at_ : Int) ≤ (f.c.length : Int) := by omega
    have q2 : (0 : Int) ≤ (ov : Int) := by omega
    have q3 : (ov : Int) ≤ (bcap : Int) := by omega
    have HS := hide hs
    have HCL := hide hclr
    clear hs hclr
    obtain ⟨A, hA⟩ : ∃ A, (if cap = at_ then p else Option.map (fun x => x.add at_) p) = A := ⟨_, rfl⟩
    have hrun : Hid (∃ w', (Builtin.copy_ #[31, 31] 3 #[.slice A (f.c.length - at_) (cap - at_), .slice pb ov bcap]).run Tryz.prog W1.drew = .ok (.int .i64 ov) w' ∧ Chg W1 w' fx { fx with c := over fx.c at_ (b.take ov) }) := by
      have hl : (b.take ov).length = ov := by simp; omega
      have hcon := HC.out.rep.con
      rw [HE3.out, HE2.out] at hcon
      have := run_copy_over (P := Tryz.prog) W1.drew 31 3 5 Tryz.underlying31 (by kernel_rfl) (c := f.c) (x := b.take ov) hcon ((HB1.out.take (by omega)).below ((Below.refl _ W1).drew)) at_ (by omega)
      obtain ⟨w', r1, r2, r3⟩ := this
      rw [hl, hA] at r1
      refine ⟨w', r1, ?_⟩
      refine HC.out.rep.copied HC.out.sep ?_ (over_u8 HC.out.rep.u8 ?_) ?_ ?_
      · rw [HE3.out]; exact over_length (by omega)
      · exact U8.take HU.out ov
      · rw [HE3.out, HE2.out]; exact r2
      · rw [HE2.out]; exact ⟨r3.os, r3.tape, r3.output, r3.size, r3.block⟩
    go_region_law (refine step_copy rfl (.tmp 48) (.tmp 51) 31 31 rfl (.slice A (f.c.length - at_) (cap - at_)) (.slice pb ov bcap) (by simp [Act.eval, Act.put, *]) (by simp [Act.eval, Act.put, *]) hrun.out.choose_spec.1 ?_)
    all_goals
      go_wp2_with fail
      go_meet
      case rel => exact ⟨rfl, hrun.out.choose_spec.2⟩
  case rest =>
  obtain ⟨rfl, HD⟩ := hcut
  rename World => W2
  clear d0 g0
  obtain ⟨d0, _, g0, _⟩ := HD.out.rep.fcells
  simp only at d0 g0
  rw [HE1.out, HE2.out] at d0
  rw [HE1.out] at g0
  have HB2 : Hid (Row .u8 W2 (.slice pb b.length bcap) b) := hide (HB.out.only (HC.out.trans HD.out).only hclr)
  obtain ⟨i0, hi, hz0, hz1, hz2⟩ := info_parts Tryz.infoU8
  have q2 : (0 : Int) ≤ (ov : Int) := by omega
  have q3 : (ov : Int) ≤ (b.length : Int) := by omega
  obtain ⟨A, hA⟩ : ∃ A, (if bcap = ov then pb else Option.map (fun x => x.add ov) pb) = A := ⟨_, rfl⟩
  have hrun : Hid (∃ p' cap' w', (Builtin.append_ #[31, 31] 31 #[.slice p f.c.length cap, .slice A (b.length - ov) (bcap - ov)]).run Tryz.prog W2.drew = .ok (.slice p' (f.c.length + (b.length - ov)) cap') w' ∧ w'.cell? ⟨f.fb, 0, none⟩ = some (.slice p f.c.length cap) ∧ w'.frozen? ⟨f.fb, 0, none⟩ = false ∧
      Chg W2 (w'.setCell ⟨f.fb, 0, none⟩ (.slice p' (f.c.length + (b.length - ov)) cap')) { fx with c := over fx.c at_ (b.take ov) } { fx with c := putL f.c at_ b, cv := .slice p' (f.c.length + (b.length - ov)) cap' }) := by
    have hl : (b.take ov).length = ov := by simp; omega
    have hol : (over f.c at_ (b.take ov)).length = f.c.length := over_length (by omega)
    have hdl : (b.drop ov).length = b.length - ov := by simp
    have hcon := HD.out.rep.con
    simp only at hcon
    rw [HE3.out, HE2.out, hol] at hcon
    have hrow : Row .u8 W2.drew (.slice A (b.length - ov) (bcap - ov)) (b.drop ov) := by
      have := (HB2.out.cutIf (lo := ov) (n := b.length - ov) (by omega)).below ((Below.refl _ W2).drew)
      rw [hA, List.take_of_length_le (by simp)] at this
      exact this
    obtain ⟨p', cap', w', r1, r2, r3, r4⟩ := run_append_over (P := Tryz.prog) W2.drew 0 31 31 5 i0 Tryz.underlying31 hi hz0 hz1 hz2 (c := over f.c at_ (b.take ov)) (x := b.drop ov) (by rw [hol]; exact hcon) hrow (by rw [hol, hdl]; omega) (Nat.zero_le _)
    rw [hol, hdl] at r1 r2 r4
    rw [putL_over o1 o2 o3] at r2
    have hpl : (putL f.c at_ b).length = f.c.length + (b.length - ov) := by rw [putL_length (by omega)]; omega
    have hg2 : W2.grownBy w' fx.cv.ownBlock := by rw [HE2.out]; exact ⟨r3.os, r3.tape, r3.output, r3.size, r3.block⟩
    have hbx := HD.out.rep.box
    have hbx' : w'.heap[f.fb]? = some (.cells #[fx.cv, fx.pv] 80 (0, 0)) := by
      rw [← HE1.out]
      exact (hg2.block fx.fb (Array.getElem?_eq_some_iff.1 hbx).1 (fun e => HD.out.rep.not_uint8 e.symm)).trans hbx
    refine ⟨p', cap', w', r1, by simp [World.cell?, hbx', HE2.out], box_frozen hbx' 0, ?_⟩
    have := HD.out.rep.appended HD.out.sep (v := .slice p' (f.c.length + (b.length - ov)) cap') (c := putL f.c at_ b) (w' := w') ?_ (by rw [hpl]; exact r2) hg2 (by simp only; rw [HE2.out]; exact r4)
    · rw [← HE1.out]
      exact this
    · rw [← putL_over o1 o2 o3, ← HE3.out]
      exact U8.append (over_u8 HC.out.rep.u8 (U8.take HU.out ov)) (U8.drop HU.out ov)
  obtain ⟨p', cap', w', hr, hr2, hr3, hr4⟩ := hrun.out
  have HR4 := hide hr4
  have HR := hide hr
  clear hr hr4 hrun
  go_upto_region 3 with fail
  go_region_law (refine step_append rfl (.tmp 57) (.tmp 60) 31 31 rfl (.slice p f.c.length cap) (.slice A (b.length - ov) (bcap - ov)) (by simp [Act.eval, *]) (by simp [Act.eval, *]) HR.out ?_)
  all_goals
    go_wp2
    go_end0
    refine ⟨rfl, cov, .slice p' (f.c.length + (b.length - ov)) cap', pv, ?_⟩
    have := (HC.out.trans HD.out).trans HR4.out
    rw [HFX.out] at this
    simp only at this
    rw [cover_min o2 o3] at this
    exact this
end Go.Proofs.YtikpckmlnhcddaaGreat
