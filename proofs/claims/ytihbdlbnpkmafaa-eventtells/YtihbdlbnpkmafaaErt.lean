/-
  What Records tells: the records of the events, in order. The conditions: that the events lie there.
-/
import Derived.Test.YtihbdlbnpkmafaaEki
namespace Go.Proofs.Ytihbdlbnpkmafaa
open Go.RowKit Go.Shelf
attribute [local go_sem] Oper.semAt_some

def EV.rcV (x : EV) : Value := .agg #[.int .i64 x.key, .int .i64 x.val]
def isR (e : EV) : Bool := e.kind == 1
def tellR (ks : List EV) : List (Array Value) := (ks.filter isR).map fun e => #[e.rcV]
theorem rec_yes {es : List EV} {k : Nat} (hk : k < es.length) {x : EV} (hx : es[k]! = x) (hi : isR x = true) : ((es.take (k + 1)).filter isR).length = ((es.take k).filter isR).length + 1 ∧ (tellR es).getD ((es.take k).filter isR).length #[] = #[x.rcV] ∧ ((es.take k).filter isR).length < (tellR es).length := by
  have h1 : (es.take (k + 1)).filter isR = (es.take k).filter isR ++ [x] := by
    rw [take_snocE hk hx, List.filter_append, List.filter_cons_of_pos hi]
    rfl
  have h2 : es.filter isR = (es.take k).filter isR ++ x :: (es.drop (k + 1)).filter isR := by
    have h3 : es.filter isR = (es.take (k + 1)).filter isR ++ (es.drop (k + 1)).filter isR := by
      rw [← List.filter_append, List.take_append_drop]
    rw [h3, h1]
    simp
  refine ⟨by rw [h1]; simp, ?_, ?_⟩
  · unfold tellR
    rw [h2, List.map_append, List.getD_eq_getElem?_getD, List.getElem?_append_right (by simp)]
    simp
  · unfold tellR
    rw [h2]
    simp
theorem rec_no {es : List EV} {k : Nat} (hk : k < es.length) {x : EV} (hx : es[k]! = x) (hi : isR x = false) : (es.take (k + 1)).filter isR = (es.take k).filter isR := by
  rw [take_snocE hk hx, List.filter_append, List.filter_cons_of_neg (by simp [hi])]
  simp
theorem tellK_get {es : List EV} {k : Nat} (hk : k < (tellK es).length) : (tellK es).getD k #[] = #[((knownL es)[k]!).aggV] := by
  unfold tellK at hk ⊢
  have hk' : k < (knownL es).length := by simpa using hk
  rw [getElem!_pos (knownL es) k hk', List.getD_eq_getElem?_getD, List.getElem?_map, List.getElem?_eq_getElem hk']
  rfl
theorem wpIn_scope_wideS {n : Nat} {P : Program} {c : Code} {Q : Exit → Act → World → Prop} {a : Act} {w : World} (h : c.wpIn Fence.wide n P (Exit.noGoto Q) a w) : (Code.scope c).wpIn Fence.wide n P Q a w :=
  wpIn_wide.2 (wp_scope_straight (wpIn_wide.1 h))
theorem roundIn_any {l' n m : Nat} {P : Program} {l : Nat} {f : FuncId} {tmps : Array Value} {a b : Code} {w : World} {R : Ending → World → Prop} (h : RoundIn Fence.wide n P l f tmps a b w R) : RoundIn (Fence.wide.inRound l') m P l f tmps a b w R :=
  ⟨trivial, fun c cs _ => h.2 c cs (room_wide _)⟩
def aggC : Value → Array Value
  | .agg a => a
  | _ => #[]
def KRd (eb kb L cap : Nat) (p : Option Addr) (es : List EV) (W : World) : Prop := W.cell? ⟨eb, 0, none⟩ = some (.func (.func 67) #[] #[.pointer (some ⟨kb, 0, none⟩)]) ∧ W.cell? ⟨kb, 0, none⟩ = some (.slice p L cap) ∧ ERow W p cap es
def SU (S : Nat → Prop) (a b c : Nat) : Nat → Prop := fun i => S i ∨ i = a ∨ i = b ∨ i = c

set_option maxRecDepth 100000 in
set_option maxHeartbeats 4000000 in
theorem records_tells (q : Nat) (hq : 3 ≤ q) {eb kb L cap : Nat} {p : Option Addr} {es : List EV} (hL : es.length = L) :
    TellsS q 54 #[.pointer (some ⟨eb, 0, none⟩)] (tellR (knownL es)) (KRd eb kb L cap p es) := by
  intro l J Jx hr hrob hgr hrx hgx hY W h0
  have HR := hide hr
  have HRB := hide hrob
  have HGR := hide hgr
  have HRX := hide hrx
  have HGX := hide hgx
  have HY := hide hY
  have HL := hide hL
  have HJ0 := hide h0
  have hbW := alloc_below W (.cells #[.func (.yield l) #[] #[]] 88 (0, 0))
  have hJ1 := hgr (fun _ => False) (fun _ => False) _ _ _ h0 (alloc_below W (.cells #[.func (.yield l) #[] #[]] 88 (0, 0))) (fun _ e => e.elim)
  obtain ⟨hc1, hc2, hrow⟩ := hr _ 0 _ hJ1
  have HJ1 := hide hJ1
  have hbx := heap_alloc_new W (.cells #[.func (.yield l) #[] #[]] 88 (0, 0))
  have HBX := hide hbx
  clear hr hY h0 hrob hgr hrx hgx hrow hL hJ1 hbx
  show CallsIn Fence.wide q Try.prog 54 #[.func (.yield l) #[] #[], .pointer (some ⟨eb, 0, none⟩)] W _
  refine callsIn_of_wp_marks Try.func54 rfl trivial ?_ rfl
  simp only [Try.ntmps54, List.size_toArray, List.length_cons, List.length_nil, Nat.reduceAdd, Nat.reduceSub, Array.replicate_succ, Array.replicate_zero, List.push_toArray, List.append_toArray, List.nil_append, List.cons_append]
  gi_wp2_with fail
  refine wpIn_scope_wideS ?_
  obtain ⟨w, hw⟩ : ∃ w, w = W.alloc (.cells #[.func (.yield l) #[] #[]] 88 (0, 0)) := ⟨_, rfl⟩
  have hws : w.heap.size = W.heap.size + 1 := by rw [hw]; simp
  rw [← hw] at hc1 hc2 HJ1 HBX hbW ⊢
  obtain ⟨yB, hyB⟩ : ∃ yB, W.heap.size = yB := ⟨_, rfl⟩
  rw [hyB] at HBX hws ⊢
  have HJY : Hid (J (fun i => i = yB) 0 w) := hide (HGR.out (fun _ => False) _ _ _ _ HJ0.out hbW (fun i h => .inr (by have h' : i = yB := h; omega)))
  clear hw hyB HJ1 HJ0 hbW
  gi_wp2_with fail
  refine wpIn_label ?_
  gi_wp2_with fail
  refine range_listS (by omega) (known_tells (q - 1) (by omega) (kb := kb) (p := p) (cap := cap) HL.out) rfl enKnown ?size
    (fun S k X => J (SU S (w.heap.size + 1) w.heap.size yB) (((knownL es).take k).filter isR).length X ∧ X.heap[yB]? = some (.cells #[.func (.yield l) #[] #[]] 88 (0, 0)) ∧ ¬ S yB)
    (fun c S k X => c = .exit 0 ∧ ∃ k', k' ≤ (tellR (knownL es)).length ∧ Jx (SU S (w.heap.size + 1) w.heap.size yB) k' X) ?rob ?grw ?xrob ?xgrw ?puts ?xputs ?reads ?start
    (fun x X => { tmps := #[.func (.yield l) #[] #[], .pointer (some ⟨eb, 0, none⟩), .pointer (some ⟨yB, 0, none⟩), .pointer (some ⟨X.heap.size, 0, none⟩), .func (.func 67) #[] #[.pointer (some ⟨kb, 0, none⟩)], x.getD 0 undef, undef, undef, undef, undef, undef, undef, undef, undef, undef, undef], defers := [] }) (fun x X => X.alloc (.cells (aggC (x.getD 0 undef)) 26 (0, 0))) (fun k X => alloc_below X _) ?assign ?body ?done ?stop
  case size =>
    intro k hk
    rw [tellK_get hk]
    rfl
  case rob =>
    rintro S k X X' ⟨h1, h2, h3⟩ ho
    exact ⟨HRB.out _ _ _ _ h1 (ho.mono (fun i _ h => .inl h)), ho.obj h2 h3, h3⟩
  case grw =>
    rintro S S' k X X' ⟨h1, h2, h3⟩ hb hs
    refine ⟨HGR.out _ _ _ _ _ h1 hb (fun i h => ?_), below_box hb h2, fun h => ?_⟩
    · rcases h with h | h
      · rcases hs i h with h | h
        · exact .inl (.inl h)
        · exact .inr h
      · exact .inl (.inr h)
    · have := (Array.getElem?_eq_some_iff.1 h2).1
      rcases hs _ h with h | h
      · exact h3 h
      · omega
  case xrob =>
    rintro c S k X X' ⟨h1, k', h2, h3⟩ ho
    exact ⟨h1, k', h2, HRX.out _ _ _ _ h3 (ho.mono (fun i _ h => .inl h))⟩
  case xgrw =>
    rintro c S S' k X X' ⟨h1, k', h2, h3⟩ hb hs
    refine ⟨h1, k', h2, HGX.out _ _ _ _ _ h3 hb (fun i h => ?_)⟩
    rcases h with h | h
    · rcases hs i h with h | h
      · exact .inl (.inl h)
      · exact .inr h
    · exact .inl (.inr h)
  case puts =>
    rintro S k X o' ⟨h1, h2, h3⟩
    exact ⟨HRB.out _ _ _ _ h1 (put_onlyS.mono (fun i _ h => .inr (.inl h))), put_onlyS.obj h2 (fun e => by have e' : yB = w.heap.size + 1 := e; omega), h3⟩
  case xputs =>
    rintro c S k X o' ⟨h1, k', h2, h3⟩
    exact ⟨h1, k', h2, HRX.out _ _ _ _ h3 (put_onlyS.mono (fun i _ h => .inr (.inl h)))⟩
  case reads =>
    rintro S k X ⟨h1, _, _⟩
    exact (HR.out _ _ _ h1).2
  case start =>
    intro r
    have hb2 : Below w.heap.size w ((w.alloc (.deferred (some []))).alloc (.loop r)) := (alloc_below w _).trans ((alloc_below _ _).mono (by simp))
    refine ⟨HGR.out _ _ _ _ _ HJY.out hb2 (fun i h => ?_), below_box hb2 HBX.out, fun e => e⟩
    rcases h with h | h | h | h
    · exact h.elim
    · exact .inr ⟨by omega, by simp; omega⟩
    · exact .inr ⟨by omega, by simp; omega⟩
    · exact .inl h
  case assign =>
    intro l' k X K hk hK
    rw [tellK_get hk] at hK ⊢
    obtain ⟨e, he⟩ : ∃ e, (knownL es)[k]! = e := ⟨_, rfl⟩
    rw [he] at hK ⊢
    obtain ⟨kd, ky, vl, id⟩ := e
    unfold EV.aggV at hK ⊢
    simp only [aggC, Array.getD_eq_getD_getElem?, List.getElem?_toArray, List.getElem?_cons_zero, Option.getD_some] at hK
    clear he
    gi_wp2
    exact hK
  case body =>
    rintro l' k S Z X ⟨h1, h2, h3⟩ hk hsz hoX hS0 hS1 hS2
    rw [tellK_get hk] at hoX ⊢
    have hk2 : k < (knownL es).length := by unfold tellK at hk; simpa using hk
    obtain ⟨e, he⟩ : ∃ e, (knownL es)[k]! = e := ⟨_, rfl⟩
    rw [he] at hoX ⊢
    have HE := hide he
    have HK := hide hk2
    obtain ⟨kd, ky, vl, id⟩ := e
    unfold EV.aggV at hoX ⊢
    simp only [aggC, Array.getD_eq_getD_getElem?, List.getElem?_toArray, List.getElem?_cons_zero, Option.getD_some] at hoX ⊢
    have hpb : X.heap[Z.heap.size]? = some (.cells #[.int .i64 kd, .int .i64 ky, .int .i64 vl, .int .i64 id] 26 (0, 0)) := hoX.obj (heap_alloc_new Z _) (fun e => by have e' : Z.heap.size = w.heap.size + 1 := e; omega)
    have c0 : X.cell? ⟨Z.heap.size, 0, none⟩ = some (.int .i64 kd) := by simp [World.cell?, hpb]
    have c1 : X.cell? ⟨Z.heap.size, 1, none⟩ = some (.int .i64 ky) := by simp [World.cell?, hpb]
    have c2 : X.cell? ⟨Z.heap.size, 2, none⟩ = some (.int .i64 vl) := by simp [World.cell?, hpb]
    have cy : X.cell? ⟨yB, 0, none⟩ = some (.func (.yield l) #[] #[]) := by simp [World.cell?, h2]
    have HJX := hide h1
    have H2 := hide h2
    have H3 := hide h3
    clear he hk2 hpb h1 h2 h3 hoX
    by_cases hkd : kd = 1
    · subst hkd
      obtain ⟨y1, y2, y3⟩ := rec_yes HK.out HE.out (by rfl)
      have HY1 := hide y1
      have HY3 := hide y3
      obtain ⟨fn', tmps, assign, body, hyy, hRd⟩ := HY.out _ _ _ HJX.out y3
      rw [y2] at hyy
      unfold EV.rcV at hyy
      simp only at hyy
      have HRd := hide hRd
      clear hRd y1 y2 y3
      gi_wp2
      refine ⟨fun _ => by omega, (roundIn_any HRd.out).mono ?_⟩
      rintro e W3 ⟨hkp, hz3, ⟨rfl, hJ3⟩ | ⟨rfl, hJ3⟩⟩
      · have hb3 : W3.heap[yB]? = some (.cells #[.func (.yield l) #[] #[]] 88 (0, 0)) := (hkp yB (.inr (.inr (.inr rfl)))).trans H2.out
        have J3 : Hid (roundEndS w.heap.size (fun S k X => J (SU S (w.heap.size + 1) w.heap.size yB) (((knownL es).take k).filter isR).length X ∧ X.heap[yB]? = some (.cells #[.func (.yield l) #[] #[]] 88 (0, 0)) ∧ ¬ S yB) (fun c S k X => c = .exit 0 ∧ ∃ k', k' ≤ (tellR (knownL es)).length ∧ Jx (SU S (w.heap.size + 1) w.heap.size yB) k' X) S k X .normal { tmps := #[], defers := [] } W3) := by
          refine hide ⟨fun i h => hkp i ?_, hz3, ?_, hb3, H3.out⟩
          · rcases h with h | h | h
            · exact .inl h
            · exact .inr (.inr (.inl h))
            · exact .inr (.inl h)
          · rw [HY1.out]; exact hJ3
        clear HRd hyy hJ3 c0 c1 c2 cy hkp hz3 hb3
        gi_wp2
        exact J3.out
      · have J3 : Hid (roundEndS w.heap.size (fun S k X => J (SU S (w.heap.size + 1) w.heap.size yB) (((knownL es).take k).filter isR).length X ∧ X.heap[yB]? = some (.cells #[.func (.yield l) #[] #[]] 88 (0, 0)) ∧ ¬ S yB) (fun c S k X => c = .exit 0 ∧ ∃ k', k' ≤ (tellR (knownL es)).length ∧ Jx (SU S (w.heap.size + 1) w.heap.size yB) k' X) S k X (.exit 0) { tmps := #[], defers := [] } W3) := by
          refine hide ⟨fun i h => hkp i ?_, hz3, rfl, _, HY3.out, hJ3⟩
          rcases h with h | h | h
          · exact .inl h
          · exact .inr (.inr (.inl h))
          · exact .inr (.inl h)
        clear HRd hyy hJ3 c0 c1 c2 cy hkp hz3
        gi_wp2
        exact J3.out
    · have e1 : (kd == 1) = false := by simpa using hkd
      have HNO := hide (rec_no HK.out HE.out (by simpa [isR] using hkd))
      have J3 : Hid (roundEndS w.heap.size (fun S k X => J (SU S (w.heap.size + 1) w.heap.size yB) (((knownL es).take k).filter isR).length X ∧ X.heap[yB]? = some (.cells #[.func (.yield l) #[] #[]] 88 (0, 0)) ∧ ¬ S yB) (fun c S k X => c = .exit 0 ∧ ∃ k', k' ≤ (tellR (knownL es)).length ∧ Jx (SU S (w.heap.size + 1) w.heap.size yB) k' X) S k X .normal { tmps := #[], defers := [] } X) := by
        refine hide ⟨fun i h => rfl, Nat.le_refl _, ?_, H2.out, H3.out⟩
        rw [HNO.out]; exact HJX.out
      clear hkd
      gi_wp2
      refine ⟨(fun _ h => nomatch h), ?_⟩
      gi_wp2
      exact J3.out
  case done =>
    rintro D S X hD ⟨h1, h2, h3⟩ hK
    have HK := hide hK
    have HJE : Hid (∀ ob, J (SU S (w.heap.size + 1) w.heap.size yB) (tellR (knownL es)).length (X.putObj D ob)) := by
      refine hide (fun ob => HRB.out _ _ _ _ ?_ (put_onlyS.mono (fun i _ h => .inr (.inr (.inl (by have h' : i = D := h; omega))))))
      have e : (knownL es).take (tellK es).length = knownL es := List.take_of_length_le (by unfold tellK; simp)
      rw [e] at h1
      have e2 : (tellR (knownL es)).length = ((knownL es).filter isR).length := by unfold tellR; simp
      rw [e2]
      exact h1
    clear h1 h2 h3 hK
    gi_wp2
    simp only [Exit.noGoto]
    refine ⟨by simp, .inl ⟨_, _, rfl, run_takeDeferred HK.out, ?_⟩⟩
    exact ⟨_, results_none rfl _ _ _, ⟨_, rfl⟩, .inl ⟨_, HJE.out _⟩⟩
  case stop =>
    rintro D c S k X hD hk ⟨rfl, k', hk', hx⟩ hK
    have HK := hide hK
    have HJE : Hid (∀ ob, Jx (SU S (w.heap.size + 1) w.heap.size yB) k' (X.putObj D ob)) := hide (fun ob => HRX.out _ _ _ _ hx (put_onlyS.mono (fun i _ h => .inr (.inr (.inl (by have h' : i = D := h; omega))))))
    clear hx hK
    gi_wp2
    simp only [Exit.noGoto]
    refine ⟨by simp, .inl ⟨_, _, rfl, run_takeDeferred HK.out, ?_⟩⟩
    exact ⟨_, results_none rfl _ _ _, ⟨_, rfl⟩, .inr ⟨_, _, hk', HJE.out _⟩⟩
end Go.Proofs.Ytihbdlbnpkmafaa
