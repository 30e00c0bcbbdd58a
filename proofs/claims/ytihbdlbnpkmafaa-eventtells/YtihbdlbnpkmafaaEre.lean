/-
  Records and Upto of the reference; Upto of the program, told. The conditions: lengths.
-/
import Derived.Test.YtihbdlbnpkmafaaEjs
import Derived.Test.YtihbdlbnpkmafaaEup
namespace Go.Proofs.Ytihbdlbnpkmafaa
open Go.RowKit Go.Shelf

theorem rcsOf_snoc {es : List EV} {k : Nat} (hk : k < es.length) {x : EV} (hx : es[k]! = x) : rcsOf (es.take (k + 1)) = rcsOf (es.take k) ++ (if isR x then [x.rc] else []) := by
  unfold rcsOf
  rw [take_snocE hk hx, List.filter_append, List.map_append]
  congr 1
  cases h : isR x with
  | true => rw [List.filter_cons_of_pos h]; rfl
  | false => rw [List.filter_cons_of_neg (by simp [h])]; rfl
theorem rcsOf_take_le (es : List EV) (k : Nat) : (rcsOf (es.take k)).length ≤ es.length := Nat.le_trans (rcs_len' _) (by rw [List.length_take]; omega)
set_option maxRecDepth 100000 in
set_option maxHeartbeats 4000000 in
theorem rrecords_any {W : World} {p : Option Addr} {c n : Nat} {es : List EV} (h : ERow W p c es) (hn : es.length = n) (hb : n * 32 ≤ 140737488351232) {M : Nat} (hM : (rcsOf es).length = M) :
    Calls Try.prog 34 #[.slice p n c] W fun e w' => ∃ p c, e = .returned (.slice p M c) ∧ w'.ownsRow W.heap.size 24 2 (.slice p M c) M ((rcsOf es).flatMap RC.cells) ∧ Below W.heap.size W w' := by
  obtain ⟨i0, hI0, hz0, hz1, hz2⟩ := info_parts Try.infoRec
  have hcn : n ≤ c := by rw [← hn]; exact h.le
  have hct := h.top
  have HR := hide h
  have HN := hide hn
  have HM := hide hM
  have HLE : Hid (∀ k, (rcsOf (es.take k)).length ≤ n) := hide (fun k => by rw [← hn]; exact rcsOf_take_le es k)
  clear h hn hM
  go_enter Try.func34, Try.ntmps34
  go_wp2_with fail
  go_loopw [4, 3] (fun i s wq => ∃ (k m : Nat) (p1 : Option Addr) (c1 : Nat), k ≤ n ∧ i = .int .i64 (k : Int) ∧ s = .slice p1 m c1 ∧ Hid ((rcsOf (es.take k)).length = m) ∧ Hid (wq.ownsRow W.heap.size 24 2 (.slice p1 m c1) m ((rcsOf (es.take k)).flatMap RC.cells)) ∧ Hid (Below W.heap.size W wq)) (fun i _ _ => n - (intOf i).toNat)
  case atStart => exact ⟨0, 0, none, 0, Nat.zero_le _, rfl, rfl, hide rfl, hide (World.ownsRow_nil _ _ _ _), hide (Below.refl _ _)⟩
  case round =>
    obtain ⟨k, m, p1, c1, hk, rfl, rfl, HLm, HOW, HBq⟩ := hrel
    rename World => wq
    by_cases hlt : k < n
    · have hlt2 : k < es.length := by rw [HN.out]; exact hlt
      obtain ⟨x, hx⟩ : ∃ x, es[k]! = x := ⟨_, rfl⟩
      obtain ⟨g, o, rfl, a0, a1, a2, a3⟩ := (HR.out.later HBq.out).at hlt2 hx
      have hsn := rcsOf_snoc hlt2 hx
      have hle := HLE.out (k + 1)
      obtain ⟨kd, ky, vl, id⟩ := x
      simp only at a0 a1 a2 a3
      by_cases hkd : kd = 1
      · subst hkd
        rw [if_pos (by rfl)] at hsn
        rw [hsn, List.length_append, HLm.out] at hle
        simp only [List.length_cons, List.length_nil, Nat.zero_add] at hle
        have HS := hide hsn
        have hab := alloc_below wq (.cells #[.int .i64 ky, .int .i64 vl] 24 (0, 0))
        have HSG : Hid (Seg (wq.alloc (.cells #[.int .i64 ky, .int .i64 vl] 24 (0, 0))) 2 (.slice (some ⟨wq.heap.size, 0, none⟩) 1 1) 1 [.int .i64 ky, .int .i64 vl]) := hide (Seg.news (heap_alloc_new wq _) (by simp [Value.oneCell']) rfl (Nat.le_refl _) (by decide))
        have HRW := hide (ownsRow_later HOW.out hab)
        have HAB := hide hab
        have HK1 : Hid (m + 1 ≤ maxLen) := by show _ ≤ _; unfold maxLen; omega
        have HK2 : Hid ((m + 1) * 16 ≤ 140737488355328) := by show _ ≤ _; omega
        have HBS : Hid (W.heap.size ≤ (wq.alloc (.cells #[.int .i64 ky, .int .i64 vl] 24 (0, 0))).heap.size) := hide (Nat.le_trans HBq.out.size hab.size)
        clear hsn hle hab hx hlt2
        go_wp2_with (at_builtin; refine append_cells _ rfl (.tmp 17) (.tmp 23) 54 rfl W.heap.size 24 i0 (.agg #[.int .i64 0, .int .i64 0]) 2 16 Try.underlying54 hI0 hz0 hz1 hz2 rfl (by decide) (.slice p1 m c1) m _ rfl HRW.out (.slice (some ⟨wq.heap.size, 0, none⟩) 1 1) 1 _ rfl HSG.out HK1.out HK2.out HBS.out ?_)
        intro p' c' w5 hown hgrow
        have HB5 : Hid (Below W.heap.size W w5) := hide ((HBq.out.trans (HAB.out.mono HBq.out.size)).grown hgrow (Nat.le_trans HBq.out.size HAB.out.size) (fun i hi => own_block_base HRW.out hi))
        have HO5 : Hid (w5.ownsRow W.heap.size 24 2 (.slice p' (m + 1) c') (m + 1) ((rcsOf (es.take (k + 1))).flatMap RC.cells)) := by
          refine hide ?_
          rw [HS.out, List.flatMap_append]
          exact hown
        have HL5 : Hid ((rcsOf (es.take (k + 1))).length = m + 1) := hide (by rw [HS.out, List.length_append, HLm.out]; rfl)
        clear hown hgrow
        go_wp2
        exact ⟨⟨k + 1, m + 1, p', c', by omega, by first | rfl | go_num, rfl, HL5, HO5, HB5⟩, by simp [intOf]; omega⟩
      · have e1 : (kd == 1) = false := by simpa using hkd
        rw [if_neg (by simpa [isR] using hkd), List.append_nil] at hsn
        have HL5 : Hid ((rcsOf (es.take (k + 1))).length = m) := hide (by rw [hsn]; exact HLm.out)
        have HO5 : Hid (wq.ownsRow W.heap.size 24 2 (.slice p1 m c1) m ((rcsOf (es.take (k + 1))).flatMap RC.cells)) := by rw [hsn]; exact HOW
        clear hsn hle hx hlt2 hkd
        go_wp2
        exact ⟨⟨k + 1, m, p1, c1, by omega, by first | rfl | go_num, rfl, HL5, HO5, HBq⟩, by simp [intOf]; omega⟩
    · obtain rfl : k = n := by omega
      have hall : es.take k = es := List.take_of_length_le (by rw [HN.out]; exact Nat.le_refl _)
      have hmM : m = M := by rw [← HLm.out, hall]; exact HM.out
      subst hmM
      have HO : Hid (wq.ownsRow W.heap.size 24 2 (.slice p1 m c1) m ((rcsOf es).flatMap RC.cells)) := by
        have h := HOW.out
        rw [hall] at h
        exact hide h
      clear hall
      go_wp2
      go_ret
      exact ⟨p1, c1, rfl, HO.out, HBq.out⟩
theorem ERow.take {W : World} {p : Option Addr} {c : Nat} {es : List EV} (h : ERow W p c es) (k : Nat) : ERow W p c (es.take k) := by
  refine ⟨Nat.le_trans (by rw [List.length_take]; omega) h.le, h.top, h.nil, fun i hi => ?_⟩
  have hi' : i < es.length := by rw [List.length_take] at hi; omega
  rw [getElem!_pos (es.take k) i hi, List.getElem_take, ← getElem!_pos es i hi']
  exact h.cell i hi'
def isB (e : EV) : Bool := e.kind == 2
def noB (es : List EV) : List EV := es.takeWhile fun e => !isB e
theorem upto_plain : ∀ es : List EV, rcsOf (noB es) = (uptoL (knownL es)).map EV.rc
  | [] => rfl
  | e :: es => by
    have ih := upto_plain es
    unfold noB uptoL knownL rcsOf at ih ⊢
    by_cases h2 : e.kind = 2
    · rw [List.takeWhile_cons_of_neg (by simp [isB, h2]), List.filter_cons_of_pos (by simp [isK, h2]), List.takeWhile_cons_of_neg (by simp [isR, h2])]
      rfl
    · rw [List.takeWhile_cons_of_pos (by simp [isB, h2])]
      by_cases h1 : e.kind = 1
      · rw [List.filter_cons_of_pos (by simp [isR, h1]), List.filter_cons_of_pos (by simp [isK, h1]), List.takeWhile_cons_of_pos (by simp [isR, h1]), List.map_cons, List.map_cons, ih]
      · rw [List.filter_cons_of_neg (by simp [isR, h1]), List.filter_cons_of_neg (by simp [isK, h1, h2]), ih]
theorem recs_plain : ∀ es : List EV, rcsOf es = rcsOf (knownL es)
  | [] => rfl
  | e :: es => by
    have ih := recs_plain es
    unfold knownL rcsOf at ih ⊢
    by_cases h1 : e.kind = 1
    · rw [List.filter_cons_of_pos (by simp [isR, h1]), List.filter_cons_of_pos (p := isK) (by simp [isK, h1]), List.filter_cons_of_pos (by simp [isR, h1]), List.map_cons, List.map_cons, ih]
    · rw [List.filter_cons_of_neg (by simp [isR, h1]), ih]
      by_cases h2 : e.kind = 2
      · rw [List.filter_cons_of_pos (p := isK) (by simp [isK, h2]), List.filter_cons_of_neg (by simp [isR, h1])]
      · rw [List.filter_cons_of_neg (p := isK) (by simp [isK, h1, h2])]
end Go.Proofs.Ytihbdlbnpkmafaa
