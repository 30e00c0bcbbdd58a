/-
  What Write, Create and Read do with a store that is up. The conditions: the store lies as stores do, within its limits; bytes that are handed in lie apart from it.
-/
import Derived.Test.YtikpckmlnhcddaaGreatPut3
namespace Go.Proofs.YtikpckmlnhcddaaGreat
open Go.RowKit Go.Maps

/-- The file behind a pending write. -/
def written (f : MF) (turn at_ : Nat) (b : List Int) (cov cv pv : Value) : MF := { f with c := putL f.c at_ b, ws := f.ws ++ [⟨⟨turn, at_, b.length, (f.c.drop at_).take b.length⟩, cov⟩], cv := cv, pv := pv }

theorem own_sub {sb mb : Nat} {l r : List MF} {f : MF} {i : Nat} (h : ownF f i) : own sb mb (l ++ f :: r) i := .inr (.inr ⟨f, by simp, h⟩)

set_option maxRecDepth 100000 in
set_option maxHeartbeats 2000000 in
theorem write_some {W : World} {sb mb pend turn : Nat} {left : Int} {l r : List MF} {f : MF} (h : SRep W sb mb (l ++ f :: r) left pend turn true) {s : ByteArray} (hlen : s.size ≤ maxLen) (hf : fileOf (l ++ f :: r) s.data.toList = some f)
    {v : Value} {b : List Int} (hb : Row .u8 W v b) (hclr : Clear (own sb mb (l ++ f :: r)) v) (hu : U8 b) {at_ : Nat} (hat : at_ ≤ f.c.length) (hc : f.c.length ≤ 4194304) (hbl : b.length ≤ 4194304) (hb0 : b ≠ []) (hw : f.ws.length ≤ 2199023255552)
    (hleft : (b.length : Int) - ((f.c.length : Int) - at_) ≤ left) (hl0 : 0 ≤ left) (hl1 : left ≤ 4194304) (ht : turn ≤ 4398046511104) (hp : pend ≤ 2199023255552) :
    Calls Tryz.prog 13 #[.pointer (some ⟨sb, 0, none⟩), .string s, .int .i64 at_, v] W fun e w' => e = .returned (.int .i64 0) ∧
      ∃ cov cv pv, SRep w' sb mb (l ++ written f (turn + 1) at_ b cov cv pv :: r) (left - max ((b.length : Int) - ((f.c.length : Int) - at_)) 0) (pend + 1) (turn + 1) true ∧ Step W w' sb mb (l ++ f :: r) (l ++ written f (turn + 1) at_ b cov cv pv :: r) := by
  obtain ⟨c0, c1, c2, c3, c4⟩ := box_cells h.box
  have g1 := box_frozen h.box 1
  have g2 := box_frozen h.box 2
  have g3 := box_frozen h.box 3
  have HF := hide (find_any c0 c4 h.map hlen)
  unfold ptrOf at HF
  rw [hf] at HF
  simp only [Option.map_some, Option.isSome_some] at HF
  have hF := h.files f (by simp)
  obtain ⟨d0, _, _, _⟩ := hF.fcells
  obtain ⟨p, cap, he, h1, h2⟩ := hF.con_form
  rw [he] at d0
  obtain ⟨pb, bcap, rfl, hb1, hb2, _, _⟩ := id hb
  have hbp : 0 < b.length := List.length_pos_iff.2 hb0
  have HH := hide h
  have HB := hide hb
  have HU := hide hu
  have HCL := hide hclr
  clear hf h hb hu hclr hF c0 c4 he
  go_enter Tryz.func13, Tryz.ntmps13
  go_wp2_with fail
  refine HF.out.mono ?_
  rintro _ _ ⟨rfl, rfl⟩
  go_wp2_with fail
  · have h3 := ((HH.out.setTurn (turn + 1)).setPend (pend + 1)).setLeft left
    have e1 : ((turn + 1 : Nat) : Int) = (turn : Int) + 1 := by omega
    have e2 : ((pend + 1 : Nat) : Int) = (pend : Int) + 1 := by omega
    rw [e1, e2] at h3
    rename World => W0
    have ho : Only (· = sb) W0 (((W0.setCell ⟨sb, 3, none⟩ (.int .i64 ((turn : Int) + 1))).setCell ⟨sb, 2, none⟩ (.int .i64 ((pend : Int) + 1))).setCell ⟨sb, 1, none⟩ (.int .i64 left)) := ((Only.set (F := (· = sb)) _ _ _ _ rfl).trans (Only.set (F := (· = sb)) _ _ _ _ rfl)).trans (Only.set (F := (· = sb)) _ _ _ _ rfl)
    have HQ := hide (put_any (h3.files f (by simp)) (fun x hx => h3.sep f (by simp) f (by simp) x hx) (HB.out.only ho (fun i hi e => HCL.out i hi (.inl e))) (fun i hi e => HCL.out i hi (own_sub e)) HU.out (turn := turn + 1) hat hc hbl hw)
    rw [e1] at HQ
    refine HQ.out.mono ?_
    rintro _ w4 ⟨rfl, cov, cv, pv, hch⟩
    have HS4 := hide (h3.change hch)
    have HT4 := hide ((Step.box (mb := mb) (fs := l ++ f :: r) ho).trans hch.step)
    clear h3 ho HQ hch
    go_wp2
    go_ret
    refine ⟨rfl, cov, cv, pv, ?_, HT4.out⟩
    have e3 : left - max ((b.length : Int) - ((f.c.length : Int) - at_)) 0 = left := by omega
    rw [e3]
    exact HS4.out
  · have h3 := ((HH.out.setTurn (turn + 1)).setPend (pend + 1)).setLeft (left - ((b.length : Int) - ((f.c.length : Int) - at_)))
    have e1 : ((turn + 1 : Nat) : Int) = (turn : Int) + 1 := by omega
    have e2 : ((pend + 1 : Nat) : Int) = (pend : Int) + 1 := by omega
    rw [e1, e2] at h3
    rename World => W0
    have ho : Only (· = sb) W0 (((W0.setCell ⟨sb, 3, none⟩ (.int .i64 ((turn : Int) + 1))).setCell ⟨sb, 2, none⟩ (.int .i64 ((pend : Int) + 1))).setCell ⟨sb, 1, none⟩ (.int .i64 (left - ((b.length : Int) - ((f.c.length : Int) - at_))))) := ((Only.set (F := (· = sb)) _ _ _ _ rfl).trans (Only.set (F := (· = sb)) _ _ _ _ rfl)).trans (Only.set (F := (· = sb)) _ _ _ _ rfl)
    have HQ := hide (put_any (h3.files f (by simp)) (fun x hx => h3.sep f (by simp) f (by simp) x hx) (HB.out.only ho (fun i hi e => HCL.out i hi (.inl e))) (fun i hi e => HCL.out i hi (own_sub e)) HU.out (turn := turn + 1) hat hc hbl hw)
    rw [e1] at HQ
    refine HQ.out.mono ?_
    rintro _ w4 ⟨rfl, cov, cv, pv, hch⟩
    have HS4 := hide (h3.change hch)
    have HT4 := hide ((Step.box (mb := mb) (fs := l ++ f :: r) ho).trans hch.step)
    clear h3 ho HQ hch
    go_wp2
    go_ret
    refine ⟨rfl, cov, cv, pv, ?_, HT4.out⟩
    have e3 : left - max ((b.length : Int) - ((f.c.length : Int) - at_)) 0 = (left - ((b.length : Int) - ((f.c.length : Int) - at_))) := by omega
    rw [e3]
    exact HS4.out

set_option maxRecDepth 100000 in
set_option maxHeartbeats 2000000 in
/-- A write of no bytes. -/
theorem write_empty {W : World} {sb mb pend turn : Nat} {left : Int} {l r : List MF} {f : MF} (h : SRep W sb mb (l ++ f :: r) left pend turn true) {s : ByteArray} (hlen : s.size ≤ maxLen) (hf : fileOf (l ++ f :: r) s.data.toList = some f)
    {p : Option Addr} {cap : Nat} {at_ : Nat} (hat : at_ ≤ f.c.length) (hl0 : 0 ≤ left) :
    Calls Tryz.prog 13 #[.pointer (some ⟨sb, 0, none⟩), .string s, .int .i64 at_, .slice p 0 cap] W fun e w' => e = .returned (.int .i64 0) ∧ w' = W := by
  obtain ⟨c0, c1, c2, c3, c4⟩ := box_cells h.box
  have HF := hide (find_any c0 c4 h.map hlen)
  unfold ptrOf at HF
  rw [hf] at HF
  simp only [Option.map_some, Option.isSome_some] at HF
  have hF := h.files f (by simp)
  obtain ⟨d0, _, _, _⟩ := hF.fcells
  obtain ⟨q, qcap, he, h1, h2⟩ := hF.con_form
  rw [he] at d0
  clear hf h hF c0 c4 he
  go_enter Tryz.func13, Tryz.ntmps13
  go_wp2_with fail
  refine HF.out.mono ?_
  rintro _ _ ⟨rfl, rfl⟩
  go_wp2
  go_ret
  exact ⟨rfl, rfl⟩

set_option maxRecDepth 100000 in
set_option maxHeartbeats 2000000 in
/-- Read of bytes that there are. -/
theorem read_some {W : World} {sb mb pend turn : Nat} {left : Int} {l r : List MF} {f : MF} (h : SRep W sb mb (l ++ f :: r) left pend turn true) {s : ByteArray} (hlen : s.size ≤ maxLen) (hf : fileOf (l ++ f :: r) s.data.toList = some f)
    {at_ n : Nat} (hat : at_ + n ≤ f.c.length) (hc : f.c.length ≤ 4194304) :
    Calls Tryz.prog 28 #[.pointer (some ⟨sb, 0, none⟩), .string s, .int .i64 at_, .int .i64 n] W fun e w' => ∃ p cap, e = .returned (.tuple #[.slice p n cap, .int .i64 0]) ∧ w'.ownsRow W.heap.size 5 1 (.slice p n cap) n (((f.c.drop at_).take n).map (Value.int .u8)) ∧ Below W.heap.size W w' := by
  obtain ⟨c0, c1, c2, c3, c4⟩ := box_cells h.box
  have HF := hide (find_any c0 c4 h.map hlen)
  unfold ptrOf at HF
  rw [hf] at HF
  simp only [Option.map_some, Option.isSome_some] at HF
  have hF := h.files f (by simp)
  obtain ⟨d0, _, _, _⟩ := hF.fcells
  obtain ⟨q, qcap, he, h1, h2⟩ := hF.con_form
  rw [he] at d0
  obtain ⟨A, hA, HR⟩ : ∃ A, (if qcap = at_ then q else Option.map (fun x => x.add at_) q) = A ∧ Hid (Row .u8 W (.slice A n (qcap - at_)) ((f.c.drop at_).take n)) := by
    have := own_row hF.con
    rw [he] at this
    exact ⟨_, rfl, hide (this.cutIf (by omega))⟩
  have HL : Hid (((f.c.drop at_).take n).length = n) := by show _ = _; simp; omega
  clear hf h hF c0 c4 he
  have q4 : ((at_ : Int) + (n : Int)).toNat - at_ = n := by omega
  go_enter Tryz.func28, Tryz.ntmps28
  go_wp2_with fail
  refine HF.out.mono ?_
  rintro _ _ ⟨rfl, rfl⟩
  go_wp2_with fail
  all_goals
    refine (clone_len HR.out (by rw [HL.out]; omega) HL.out).mono ?_
    rintro _ w2 ⟨p2, cap2, rfl, hown, hb⟩
    have HO := hide hown
    clear hown
    go_wp2
    go_ret2
    exact ⟨p2, cap2, rfl, HO.out, hb⟩
end Go.Proofs.YtikpckmlnhcddaaGreat
