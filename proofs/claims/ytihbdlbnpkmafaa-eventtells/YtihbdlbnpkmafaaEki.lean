/-
  What known tells: the events that are records or barriers, in order. The conditions: that the events lie there.
-/
import Derived.Test.YtihbdlbnpkmafaaRgs
import Derived.Test.YtihbdlbnpkmafaaEvm
namespace Go.Proofs.Ytihbdlbnpkmafaa
open Go.RowKit Go.Shelf
attribute [local go_sem] Oper.semAt_some

def EV.aggV (x : EV) : Value := .agg #[.int .i64 x.kind, .int .i64 x.key, .int .i64 x.val, .int .i64 x.id]
def isK (e : EV) : Bool := e.kind == 1 || e.kind == 2
def knownL (es : List EV) : List EV := es.filter isK
def tellK (es : List EV) : List (Array Value) := (knownL es).map fun e => #[e.aggV]
theorem take_snocE {es : List EV} {k : Nat} (hk : k < es.length) {x : EV} (hx : es[k]! = x) : es.take (k + 1) = es.take k ++ [x] := by
  rw [List.take_succ_eq_append_getElem hk, ← hx, getElem!_pos es k hk]
theorem known_yes {es : List EV} {k : Nat} (hk : k < es.length) {x : EV} (hx : es[k]! = x) (hi : isK x = true) : (knownL (es.take (k + 1))).length = (knownL (es.take k)).length + 1 ∧ (tellK es).getD (knownL (es.take k)).length #[] = #[x.aggV] ∧ (knownL (es.take k)).length < (tellK es).length := by
  have h1 : knownL (es.take (k + 1)) = knownL (es.take k) ++ [x] := by
    unfold knownL
    rw [take_snocE hk hx, List.filter_append, List.filter_cons_of_pos hi]
    rfl
  have h2 : knownL es = knownL (es.take k) ++ x :: knownL (es.drop (k + 1)) := by
    have : es = es.take (k + 1) ++ es.drop (k + 1) := (List.take_append_drop _ _).symm
    have h3 : knownL es = knownL (es.take (k + 1)) ++ knownL (es.drop (k + 1)) := by
      unfold knownL
      rw [← List.filter_append, List.take_append_drop]
    rw [h3, h1]
    simp
  refine ⟨by rw [h1]; simp, ?_, ?_⟩
  · unfold tellK
    rw [h2, List.map_append, List.getD_eq_getElem?_getD, List.getElem?_append_right (by simp)]
    simp
  · unfold tellK
    rw [h2]
    simp
theorem known_no {es : List EV} {k : Nat} (hk : k < es.length) {x : EV} (hx : es[k]! = x) (hi : isK x = false) : knownL (es.take (k + 1)) = knownL (es.take k) := by
  unfold knownL
  rw [take_snocE hk hx, List.filter_append, List.filter_cons_of_neg (by simp [hi])]
  simp
theorem enKnown : ∀ args w, (callFunc 67 args).run Try.prog w = .ok (.enter 67 args) w := enters_of Try.func67 (by kernel_rfl) rfl

set_option maxRecDepth 100000 in
set_option maxHeartbeats 4000000 in
theorem known_tells (q : Nat) (hq : 1 ≤ q) {kb L cap : Nat} {p : Option Addr} {es : List EV} (hL : es.length = L) :
    TellsS q 67 #[.pointer (some ⟨kb, 0, none⟩)] (tellK es) (fun W => W.cell? ⟨kb, 0, none⟩ = some (.slice p L cap) ∧ ERow W p cap es) := by
  intro l J Jx hr hrob hgr hrx hgx hY W h0
  have HR := hide hr
  have HRB := hide hrob
  have HGR := hide hgr
  have HY := hide hY
  have H0 := hide h0
  have HL := hide hL
  obtain ⟨hcell, hrow⟩ := hr _ 0 W h0
  have i3 := hrow.le
  have i4 := hrow.top
  rw [hL] at i3
  clear hr hY h0 hrob hgr hrx hgx hrow hL
  show CallsIn Fence.wide q Try.prog 67 #[.func (.yield l) #[] #[], .pointer (some ⟨kb, 0, none⟩)] W _
  refine callsIn_of_wp Try.func67 rfl trivial ?_ rfl
  simp only [Try.ntmps67, List.size_toArray, List.length_cons, List.length_nil, Nat.reduceAdd, Nat.reduceSub, Array.replicate_succ, Array.replicate_zero, List.push_toArray, List.append_toArray, List.nil_append, List.cons_append]
  gi_wp2
  gi_loopw [7] (fun i wr => ∃ m : Nat, m ≤ L ∧ i = .int .i64 (m : Int) ∧ Hid (J (fun _ => False) (knownL (es.take m)).length wr)) (fun i _ => L - (intOf i).toNat)
  case atStart => exact ⟨0, Nat.zero_le _, rfl, H0⟩
  case round =>
    obtain ⟨m, hm, rfl, HJ⟩ := hrel
    clear H0 hcell
    by_cases hlt : m < L
    · have hlt2 : m < es.length := by rw [HL.out]; exact hlt
      have hGr := (HR.out _ _ wr HJ.out).2
      obtain ⟨x, hx⟩ : ∃ x, es[m]! = x := ⟨_, rfl⟩
      obtain ⟨g, o, rfl, d0, d1, d2, d3⟩ := hGr.at hlt2 hx
      have HLT := hide hlt2
      have HX := hide hx
      obtain ⟨kd, ky, vl, id⟩ := x
      simp only at d0 d1 d2 d3
      have hJ2 := HGR.out (fun _ => False) (fun _ => False) _ _ _ HJ.out (alloc_below wr (.cells #[.int .i64 kd, .int .i64 ky, .int .i64 vl, .int .i64 id] 26 (0, 0))) (fun _ e => e.elim)
      have HJ2 := hide hJ2
      clear hGr hx hlt2 hJ2
      by_cases k1 : kd = 1
      · subst k1
        obtain ⟨y1, y2, y3⟩ := known_yes HLT.out HX.out (by simp [isK])
        have HY1 := hide y1
        have HY3 := hide y3
        obtain ⟨fn', tmps, assign, body, hyy, hRd⟩ := HY.out _ _ _ HJ2.out y3
        rw [y2] at hyy
        unfold EV.aggV at hyy
        simp only at hyy
        have HRd := hide hRd
        clear hRd y1 y2 y3
        gi_wp2
        refine HRd.out.mono ?_
        rintro e W3 ⟨_, _, ⟨rfl, hJ3⟩ | ⟨rfl, hJ3⟩⟩
        · have J3 : Hid (J (fun _ => False) (knownL (es.take (m + 1))).length W3) := by rw [HY1.out]; exact hide hJ3
          clear HRd hyy hJ3 d0 d1 d2 d3
          gi_wp2
          go_roundw
          case rel => exact ⟨m + 1, by omega, by first | rfl | go_num, J3⟩
          case measure => simp [intOf]; omega
        · have J3 := hide hJ3
          clear HRd hyy hJ3 d0 d1 d2 d3
          gi_wp2
          refine bodyPost_ret (results_none rfl _ _ _) rfl ?_
          exact ⟨⟨_, rfl⟩, .inr ⟨_, _, Nat.succ_le_of_lt HY3.out, J3.out⟩⟩
      · by_cases k2 : kd = 2
        · subst k2
          obtain ⟨y1, y2, y3⟩ := known_yes HLT.out HX.out (by simp [isK])
          have HY1 := hide y1
          have HY3 := hide y3
          obtain ⟨fn', tmps, assign, body, hyy, hRd⟩ := HY.out _ _ _ HJ2.out y3
          rw [y2] at hyy
          unfold EV.aggV at hyy
          simp only at hyy
          have HRd := hide hRd
          clear hRd y1 y2 y3
          gi_wp2
          refine HRd.out.mono ?_
          rintro e W3 ⟨_, _, ⟨rfl, hJ3⟩ | ⟨rfl, hJ3⟩⟩
          · have J3 : Hid (J (fun _ => False) (knownL (es.take (m + 1))).length W3) := by rw [HY1.out]; exact hide hJ3
            clear HRd hyy hJ3 d0 d1 d2 d3
            gi_wp2
            go_roundw
            case rel => exact ⟨m + 1, by omega, by first | rfl | go_num, J3⟩
            case measure => simp [intOf]; omega
          · have J3 := hide hJ3
            clear HRd hyy hJ3 d0 d1 d2 d3
            gi_wp2
            refine bodyPost_ret (results_none rfl _ _ _) rfl ?_
            exact ⟨⟨_, rfl⟩, .inr ⟨_, _, Nat.succ_le_of_lt HY3.out, J3.out⟩⟩
        · have HNO := hide (known_no HLT.out HX.out (by simp [isK, k1, k2]))
          have e1 : (kd == 1) = false := by simpa using k1
          have e2 : (kd == 2) = false := by simpa using k2
          have HJ3 : Hid (J (fun _ => False) (knownL (es.take (m + 1))).length (wr.alloc (.cells #[.int .i64 kd, .int .i64 ky, .int .i64 vl, .int .i64 id] 26 (0, 0)))) := by rw [HNO.out]; exact HJ2
          clear k1 k2
          gi_wp2
          refine ⟨(fun _ h => nomatch h), ?_⟩
          gi_wp2
          go_roundw
          case rel => exact ⟨m + 1, by omega, by first | rfl | go_num, HJ3⟩
          case measure => simp [intOf]; omega
    · obtain rfl : m = L := by omega
      have HJE : Hid (J (fun _ => False) (tellK es).length wr) := by
        have h := HJ.out
        rw [List.take_of_length_le (by rw [HL.out]; exact Nat.le_refl _)] at h
        unfold tellK
        rw [List.length_map]
        exact hide h
      gi_wp2
      refine bodyPost_end (results_none rfl _ _ _) rfl ?_
      exact ⟨⟨_, rfl⟩, .inl ⟨_, HJE.out⟩⟩
end Go.Proofs.Ytihbdlbnpkmafaa
