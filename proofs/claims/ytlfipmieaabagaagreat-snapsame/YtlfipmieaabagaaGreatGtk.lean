/-
  Which ports are taken: the program's take. The conditions: the inputs are of ports that may be.
-/
import Derived.Test.YtlfipmieaabagaaGreatGin
import Derived.BigRegion
namespace Go.Proofs.YtlfipmieaabagaaGreat
open Go.RowKit

theorem heap_set_same {W : World} {b : Nat} {cs : Array Value} {t : TypeId} (h : W.heap[b]? = some (.cells cs t (0, 0))) (o : Nat) (v : Value) : (W.setCell ⟨b, o, none⟩ v).heap[b]? = some (.cells (cs.setIfInBounds o v) t (0, 0)) := by
  simp only [World.setCell]
  rw [Array.getElem?_modify, if_pos rfl, h]
  rfl
/-- The table of taken ports, as it lies. -/
structure TRep (W : World) (tb : Nat) (T : List GE) : Prop where
  box : ∃ cs : Array Value, W.heap[tb]? = some (.cells cs 200 (0, 0)) ∧ cs.size = 96 ∧ ∀ f p, f < 24 → p < 4 → cs[f * 4 + p]? = some (.bool (decide ((⟨(f : Int), (p : Int)⟩ : GE) ∈ T)))
theorem TRep.cell {W : World} {tb : Nat} {T : List GE} (h : TRep W tb T) {f p : Nat} (hf : f < 24) (hp : p < 4) : W.cell? ⟨tb, f * 4 + p, none⟩ = some (.bool (decide ((⟨(f : Int), (p : Int)⟩ : GE) ∈ T))) ∧ W.frozen? ⟨tb, f * 4 + p, none⟩ = false := by
  obtain ⟨cs, hb, hs, hc⟩ := h.box
  have := hc f p hf hp
  exact ⟨by simp [World.cell?, hb, this], by simp [World.frozen?, hb]⟩
theorem TRep.only {W W' : World} {tb : Nat} {T : List GE} {F : Nat → Prop} (h : TRep W tb T) (ho : Only F W W') (hn : ¬ F tb) : TRep W' tb T := by
  obtain ⟨cs, hb, hs, hc⟩ := h.box
  exact ⟨cs, ho.obj hb hn, hs, hc⟩
theorem TRep.set {W : World} {tb : Nat} {T : List GE} (h : TRep W tb T) {f p : Nat} (hf : f < 24) (hp : p < 4) : TRep (W.setCell ⟨tb, f * 4 + p, none⟩ (.bool true)) tb (⟨(f : Int), (p : Int)⟩ :: T) := by
  obtain ⟨cs, hb, hs, hc⟩ := h.box
  have hlt : f * 4 + p < cs.size := by omega
  refine ⟨cs.setIfInBounds (f * 4 + p) (.bool true), ?_, by simp [hs], fun f' p' hf' hp' => ?_⟩
  · rw [heap_set_same hb]
  · rw [Array.getElem?_setIfInBounds]
    by_cases e : f * 4 + p = f' * 4 + p'
    · rw [if_pos e, if_pos (by omega)]
      obtain ⟨rfl, rfl⟩ : f = f' ∧ p = p' := by omega
      simp
    · rw [if_neg e, hc f' p' hf' hp']
      have hne : (⟨(f' : Int), (p' : Int)⟩ : GE) ≠ ⟨(f : Int), (p : Int)⟩ := fun h' => by
        simp only [GE.mk.injEq] at h'
        omega
      simp [hne]

/-- What is taken behind a list, or that something of it was. -/
def takeC (T : List GE) : List GE → Bool × List GE
  | [] => (true, T)
  | e :: es => if e ∈ T then (false, T) else takeC (e :: T) es
def okE (e : GE) : Prop := 0 ≤ e.f ∧ e.f < 24 ∧ 0 ≤ e.p ∧ e.p < 4
theorem takeC_snoc (T : List GE) (es : List GE) (e : GE) : (takeC T (es ++ [e])) = (if (takeC T es).1 = true then takeC (takeC T es).2 [e] else takeC T es) := by
  induction es generalizing T with
  | nil => rw [if_pos (show (takeC T []).1 = true from rfl)]; rfl
  | cons a es ih =>
    simp only [List.cons_append, takeC]
    by_cases h : a ∈ T
    · simp [h]
    · simp only [h, if_false]
      exact ih (a :: T)
theorem takeC_more {T : List GE} {es : List GE} {k : Nat} (h : (takeC T (es.take k)).1 = false) : takeC T es = takeC T (es.take k) := by
  induction es generalizing T k with
  | nil => simp
  | cons a es ih =>
    cases k with
    | zero => simp [takeC] at h
    | succ k =>
      simp only [List.take_succ_cons, takeC] at h ⊢
      by_cases h' : a ∈ T
      · simp [h']
      · simp only [h', if_false] at h ⊢
        exact ih h

set_option maxRecDepth 100000 in
set_option maxHeartbeats 4000000 in
theorem take_any {W : World} {tb : Nat} {T : List GE} (ht : TRep W tb T) {p : Option Addr} {cap : Nat} {es : List GE} (he : ERow W p cap es) (hne : ∀ i, i < es.length → ∀ g o, p = some ⟨g, o, none⟩ → g ≠ tb) (hok : ∀ e ∈ es, okE e) :
    Calls Tryz.prog 120 #[.pointer (some ⟨tb, 0, none⟩), .slice p es.length cap] W fun e w' => e = .returned (.bool (takeC T es).1) ∧ TRep w' tb (takeC T es).2 ∧ Only (· = tb) W w' := by
  have i1 := he.le
  have i2 := he.top
  have HE := hide he
  have HOK := hide hok
  have HNE := hide hne
  have HT := hide ht
  clear he hok hne ht
  go_enter Tryz.func120, Tryz.ntmps120
  go_wp2_with fail
  go_loopw [9] (fun i wr => ∃ (k : Nat), k ≤ es.length ∧ i = .int .i64 (k : Int) ∧ Hid ((takeC T (es.take k)).1 = true) ∧ Hid (TRep wr tb (takeC T (es.take k)).2) ∧ Hid (Only (· = tb) W wr)) (fun i _ => es.length - (intOf i).toNat)
  case atStart => exact ⟨0, Nat.zero_le _, rfl, hide rfl, HT, hide (Only.refl _ _)⟩
  case round =>
    obtain ⟨k, hk, rfl, H1, HR, HO⟩ := hrel
    by_cases hlt : k < es.length
    · obtain ⟨g, o, rfl, d0, d1⟩ := HE.out.cell k hlt
      have hgt := HNE.out k hlt g o rfl
      have d0 := HO.out.cell d0 (fun e => hgt e)
      have d1 := HO.out.cell d1 (fun e => hgt e)
      obtain ⟨x, hx⟩ : ∃ x, es[k]! = x := ⟨_, rfl⟩
      have hxm : x ∈ es := by rw [← hx, getElem!_pos es k hlt]; exact List.getElem_mem _
      obtain ⟨f0, f1, f2, f3⟩ := HOK.out x hxm
      rw [hx] at d0 d1
      obtain ⟨xf, xp⟩ := x
      simp only at d0 d1 f0 f1 f2 f3
      obtain ⟨fn, rfl⟩ : ∃ fn : Nat, xf = (fn : Int) := ⟨xf.toNat, by omega⟩
      obtain ⟨pn, rfl⟩ : ∃ pn : Nat, xp = (pn : Int) := ⟨xp.toNat, by omega⟩
      have hf : fn < 24 := by omega
      have hp : pn < 4 := by omega
      have HTK : Hid (takeC T (es.take (k + 1)) = takeC (takeC T (es.take k)).2 [⟨(fn : Int), (pn : Int)⟩]) := by
        refine hide ?_
        have e1 : es.take (k + 1) = es.take k ++ [⟨(fn : Int), (pn : Int)⟩] := by rw [List.take_succ_eq_append_getElem hlt, ← hx, getElem!_pos es k hlt]
        rw [e1, takeC_snoc, if_pos H1.out]
      obtain ⟨T', hT'⟩ : ∃ T', (takeC T (es.take k)).2 = T' := ⟨_, rfl⟩
      rw [hT'] at HR HTK
      have hb1 := alloc_below wr (.cells #[.int .i64 fn, .int .i64 pn] 119 (0, 0))
      have hlt2 : tb < wr.heap.size := by
        obtain ⟨cs, hb, _⟩ := HR.out.box
        exact (Array.getElem?_eq_some_iff.1 hb).1
      obtain ⟨wx, hwx⟩ : ∃ wx, wx = wr.alloc (.cells #[.int .i64 fn, .int .i64 pn] 119 (0, 0)) := ⟨_, rfl⟩
      rw [← hwx] at hb1
      have hbx : wx.heap[wr.heap.size]? = some (.cells #[.int .i64 fn, .int .i64 pn] 119 (0, 0)) := by rw [hwx]; exact heap_alloc_new _ _
      obtain ⟨xB, hxB⟩ : ∃ xB, wr.heap.size = xB := ⟨_, rfl⟩
      rw [hxB] at hbx hlt2
      have y0 : wx.cell? ⟨xB, 0, none⟩ = some (.int .i64 fn) := by simp [World.cell?, hbx]
      have y1 : wx.cell? ⟨xB, 1, none⟩ = some (.int .i64 pn) := by simp [World.cell?, hbx]
      have hRx : TRep wx tb T' := HR.out.only (Only.fresh hb1 (fun _ => False)) (fun e => e)
      have HRx := hide hRx
      obtain ⟨z0, z1⟩ := hRx.cell hf hp
      have HOx : Hid (Only (· = tb) W wx) := hide (HO.out.step (Only.fresh hb1 (· = tb)) (fun i e => .inl e))
      have HWX := hide hwx
      have hne' : tb ≠ xB := by omega
      have hne'' : xB ≠ tb := by omega
      go_upto_region 4 with fail
      rw [← HWX.out]
      clear hb1 hbx hx hxm HR HO hRx d0 d1 HWX hwx hxB
      by_cases hm : (⟨(fn : Int), (pn : Int)⟩ : GE) ∈ T'
      · have HQ : Hid (takeC T es = (false, T')) := by
          have e1 : takeC T (es.take (k + 1)) = (false, T') := by rw [HTK.out]; simp [takeC, hm]
          rw [← e1]
          exact hide (takeC_more (by rw [e1]))
        rw [decide_eq_true hm] at z0
        clear hm HTK
        go_region
        all_goals
          go_wp2
          go_ret
          exact ⟨by rw [HQ.out]; rfl, by rw [HQ.out]; exact HRx.out.only (Only.fresh (Below.refl _ wx).drew (fun _ => False)) (fun e => e), HOx.out.step (Only.fresh (Below.refl _ wx).drew (· = tb)) (fun i e => .inl e)⟩
      · have HQ : Hid (takeC T (es.take (k + 1)) = (true, ⟨(fn : Int), (pn : Int)⟩ :: T')) := by rw [HTK.out]; exact hide (by simp [takeC, hm])
        rw [decide_eq_false hm] at z0
        clear hm HTK
        go_region
        all_goals
          go_upto_region 6 with fail
          go_region
          all_goals
            go_wp2
            refine ⟨⟨k + 1, by omega, by go_num, by rw [HQ.out]; exact hide rfl, ?_, ?_⟩, by simp [intOf]; omega⟩
            · rw [HQ.out]
              exact hide (((HRx.out.only (Only.fresh (Below.refl _ wx).drew (fun _ => False)) (fun e => e)).only (Only.fresh (Below.refl _ wx.drew).drew (fun _ => False)) (fun e => e)).set hf hp)
            · exact hide (((HOx.out.step (Only.fresh (Below.refl _ wx).drew (· = tb)) (fun i e => .inl e)).step (Only.fresh (Below.refl _ wx.drew).drew (· = tb)) (fun i e => .inl e)).trans (Only.set _ _ _ _ rfl))
    · obtain rfl : k = es.length := by omega
      rw [List.take_length] at H1 HR
      go_wp2
      go_ret
      exact ⟨by rw [H1.out]; rfl, HR.out, HO.out⟩
end Go.Proofs.YtlfipmieaabagaaGreat
