/-
  What Upto tells: the records ahead of the first barrier, in order. The conditions: that the events lie there.
-/
import Derived.Test.YtihbdlbnpkmafaaErt
namespace Go.Proofs.Ytihbdlbnpkmafaa
open Go.RowKit Go.Shelf
attribute [local go_sem] Oper.semAt_some

def uptoL (ks : List EV) : List EV := ks.takeWhile isR
def tellU (ks : List EV) : List (Array Value) := (uptoL ks).map fun e => #[e.rcV]
theorem tellU_len (ks : List EV) : (tellU ks).length = (uptoL ks).length := by unfold tellU; simp
theorem tellU_le (es : List EV) : (tellU (knownL es)).length ≤ (tellK es).length := by
  rw [tellU_len]
  unfold tellK uptoL
  rw [List.length_map]
  exact (List.takeWhile_prefix _).length_le
theorem known_rec {es : List EV} {k : Nat} (hk : k < (knownL es).length) {x : EV} (hx : (knownL es)[k]! = x) (h2 : ¬ x.kind = 2) : isR x = true := by
  have hm : x ∈ knownL es := by rw [← hx, getElem!_pos _ k hk]; exact List.getElem_mem hk
  unfold knownL at hm
  have h3 := (List.mem_filter.1 hm).2
  unfold isK at h3
  unfold isR
  simp only [Bool.or_eq_true, beq_iff_eq] at h3 ⊢
  omega
theorem while_at : ∀ (ks : List EV) (k : Nat) (x : EV), ks[k]? = some x → k ≤ (uptoL ks).length → (isR x = true → k < (uptoL ks).length ∧ (uptoL ks)[k]? = some x) ∧ (isR x = false → k = (uptoL ks).length)
  | [], _, _, h, _ => by simp at h
  | y :: ys, 0, x, h, _ => by
    simp only [List.getElem?_cons_zero, Option.some.injEq] at h
    subst h
    unfold uptoL
    refine ⟨fun h => ?_, fun h => ?_⟩
    · rw [List.takeWhile_cons_of_pos h]; simp
    · rw [List.takeWhile_cons_of_neg (by simp [h])]; rfl
  | y :: ys, k + 1, x, h, hk => by
    simp only [List.getElem?_cons_succ] at h
    unfold uptoL at hk ⊢
    cases hy : isR y with
    | false => rw [List.takeWhile_cons_of_neg (by simp [hy])] at hk; simp at hk
    | true =>
      rw [List.takeWhile_cons_of_pos hy] at hk ⊢
      simp only [List.length_cons, Nat.add_le_add_iff_right] at hk
      obtain ⟨h1, h2⟩ := while_at ys k x h hk
      unfold uptoL at h1 h2
      refine ⟨fun h => ⟨by have := (h1 h).1; simp; omega, by simpa using (h1 h).2⟩, fun h => by have := h2 h; simp; omega⟩
theorem upto_yes {ks : List EV} {k : Nat} (hk : k < ks.length) {x : EV} (hx : ks[k]! = x) (hi : isR x = true) (h4 : k ≤ (tellU ks).length) : k + 1 ≤ (tellU ks).length ∧ (tellU ks).getD k #[] = #[x.rcV] := by
  rw [tellU_len] at h4
  have h := (while_at ks k x (by rw [← hx, getElem!_pos ks k hk, List.getElem?_eq_getElem hk]) h4).1 hi
  refine ⟨by rw [tellU_len]; exact h.1, ?_⟩
  unfold tellU
  rw [List.getD_eq_getElem?_getD, List.getElem?_map, h.2]
  rfl
theorem upto_no {ks : List EV} {k : Nat} (hk : k < ks.length) {x : EV} (hx : ks[k]! = x) (hi : isR x = false) (h4 : k ≤ (tellU ks).length) : k = (tellU ks).length := by
  rw [tellU_len] at h4 ⊢
  exact (while_at ks k x (by rw [← hx, getElem!_pos ks k hk, List.getElem?_eq_getElem hk]) h4).2 hi

set_option maxRecDepth 100000 in
set_option maxHeartbeats 4000000 in
theorem upto_tells (q : Nat) (hq : 3 ≤ q) {eb kb L cap : Nat} {p : Option Addr} {es : List EV} (hL : es.length = L) :
    TellsS q 55 #[.pointer (some ⟨eb, 0, none⟩)] (tellU (knownL es)) (KRd eb kb L cap p es) := by
  intro l J Jx hr hrob hgr hrx hgx hY W h0
  have HR := hide hr
  have HRB := hide hrob
  have HGR := hide hgr
  have HRX := hide hrx
  have HGX := hide hgx
  have HY := hide hY
  have HL := hide hL
  have HJ0 := hide h0
  have hbW := alloc_below W (.cells #[.func (.yield l) #[] #[]] 88 (0, 0))
  have hJ1 := hgr (fun _ => False) (fun _ => False) _ _ _ h0 (alloc_below W (.cells #[.func (.yield l) #[] #[]] 88 (0, 0))) (fun _ e => e.elim)
  obtain ⟨hc1, hc2, hrow⟩ := hr _ 0 _ hJ1
  have HJ1 := hide hJ1
  have hbx := heap_alloc_new W (.cells #[.func (.yield l) #[] #[]] 88 (0, 0))
  have HBX := hide hbx
  clear hr hY h0 hrob hgr hrx hgx hrow hL hJ1 hbx
  show CallsIn Fence.wide q Try.prog 55 #[.func (.yield l) #[] #[], .pointer (some ⟨eb, 0, none⟩)] W _
  refine callsIn_of_wp_marks Try.func55 rfl trivial ?_ rfl
  simp only [Try.ntmps55, List.size_toArray, List.length_cons, List.length_nil, Nat.reduceAdd, Nat.reduceSub, Array.replicate_succ, Array.replicate_zero, List.push_toArray, List.append_toArray, List.nil_append, List.cons_append]
  gi_wp2_with fail
  refine wpIn_scope_wideS ?_
  obtain ⟨w, hw⟩ : ∃ w, w = W.alloc (.cells #[.func (.yield l) #[] #[]] 88 (0, 0)) := ⟨_, rfl⟩
  have hws : w.heap.size = W.heap.size + 1 := by rw [hw]; simp
  rw [← hw] at hc1 hc2 HJ1 HBX hbW ⊢
  obtain ⟨yB, hyB⟩ : ∃ yB, W.heap.size = yB := ⟨_, rfl⟩
  rw [hyB] at HBX hws ⊢
  have HJY : Hid (J (fun i => i = yB) 0 w) := hide (HGR.out (fun _ => False) _ _ _ _ HJ0.out hbW (fun i h => .inr (by have h' : i = yB := h; omega)))
  clear hw hyB HJ1 HJ0 hbW
  gi_wp2_with fail
  refine wpIn_label ?_
  gi_wp2_with fail
  refine range_listS (by omega) (known_tells (q - 1) (by omega) (kb := kb) (p := p) (cap := cap) HL.out) rfl enKnown ?size
    (fun S k X => J (SU S (w.heap.size + 1) w.heap.size yB) k X ∧ X.heap[yB]? = some (.cells #[.func (.yield l) #[] #[]] 88 (0, 0)) ∧ ¬ S yB ∧ k ≤ (tellU (knownL es)).length)
    (fun c S k X => c = .exit 0 ∧ (J (SU S (w.heap.size + 1) w.heap.size yB) (tellU (knownL es)).length X ∨ ∃ k', k' ≤ (tellU (knownL es)).length ∧ Jx (SU S (w.heap.size + 1) w.heap.size yB) k' X)) ?rob ?grw ?xrob ?xgrw ?puts ?xputs ?reads ?start
    (fun x X => { tmps := #[.func (.yield l) #[] #[], .pointer (some ⟨eb, 0, none⟩), .pointer (some ⟨yB, 0, none⟩), .pointer (some ⟨X.heap.size, 0, none⟩), .func (.func 67) #[] #[.pointer (some ⟨kb, 0, none⟩)], x.getD 0 undef, undef, undef, undef, undef, undef, undef, undef, undef, undef, undef], defers := [] }) (fun x X => X.alloc (.cells (aggC (x.getD 0 undef)) 26 (0, 0))) (fun k X => alloc_below X _) ?assign ?body ?done ?stop
  case size =>
    intro k hk
    rw [tellK_get hk]
    rfl
  case rob =>
    rintro S k X X' ⟨h1, h2, h3, h4⟩ ho
    exact ⟨HRB.out _ _ _ _ h1 (ho.mono (fun i _ h => .inl h)), ho.obj h2 h3, h3, h4⟩
  case grw =>
    rintro S S' k X X' ⟨h1, h2, h3, h4⟩ hb hs
    refine ⟨HGR.out _ _ _ _ _ h1 hb (fun i h => ?_), below_box hb h2, fun h => ?_, h4⟩
    · rcases h with h | h
      · rcases hs i h with h | h
        · exact .inl (.inl h)
        · exact .inr h
      · exact .inl (.inr h)
    · have := (Array.getElem?_eq_some_iff.1 h2).1
      rcases hs _ h with h | h
      · exact h3 h
      · omega
  case xrob =>
    rintro c S k X X' ⟨h1, h0 | ⟨k', h2, h3⟩⟩ ho
    · exact ⟨h1, .inl (HRB.out _ _ _ _ h0 (ho.mono (fun i _ h => .inl h)))⟩
    · exact ⟨h1, .inr ⟨k', h2, HRX.out _ _ _ _ h3 (ho.mono (fun i _ h => .inl h))⟩⟩
  case xgrw =>
    rintro c S S' k X X' ⟨h1, h0⟩ hb hs
    have hsu : ∀ i, SU S' (w.heap.size + 1) w.heap.size yB i → SU S (w.heap.size + 1) w.heap.size yB i ∨ (X.heap.size ≤ i ∧ i < X'.heap.size) := by
      intro i h
      rcases h with h | h
      · rcases hs i h with h | h
        · exact .inl (.inl h)
        · exact .inr h
      · exact .inl (.inr h)
    rcases h0 with h0 | ⟨k', h2, h3⟩
    · exact ⟨h1, .inl (HGR.out _ _ _ _ _ h0 hb hsu)⟩
    · exact ⟨h1, .inr ⟨k', h2, HGX.out _ _ _ _ _ h3 hb hsu⟩⟩
  case puts =>
    rintro S k X o' ⟨h1, h2, h3, h4⟩
    exact ⟨HRB.out _ _ _ _ h1 (put_onlyS.mono (fun i _ h => .inr (.inl h))), put_onlyS.obj h2 (fun e => by have e' : yB = w.heap.size + 1 := e; omega), h3, h4⟩
  case xputs =>
    rintro c S k X o' ⟨h1, h0 | ⟨k', h2, h3⟩⟩
    · exact ⟨h1, .inl (HRB.out _ _ _ _ h0 (put_onlyS.mono (fun i _ h => .inr (.inl h))))⟩
    · exact ⟨h1, .inr ⟨k', h2, HRX.out _ _ _ _ h3 (put_onlyS.mono (fun i _ h => .inr (.inl h)))⟩⟩
  case reads =>
    rintro S k X ⟨h1, _, _⟩
    exact (HR.out _ _ _ h1).2
  case start =>
    intro r
    have hb2 : Below w.heap.size w ((w.alloc (.deferred (some []))).alloc (.loop r)) := (alloc_below w _).trans ((alloc_below _ _).mono (by simp))
    refine ⟨HGR.out _ _ _ _ _ HJY.out hb2 (fun i h => ?_), below_box hb2 HBX.out, fun e => e, Nat.zero_le _⟩
    rcases h with h | h | h | h
    · exact h.elim
    · exact .inr ⟨by omega, by simp; omega⟩
    · exact .inr ⟨by omega, by simp; omega⟩
    · exact .inl h
  case assign =>
    intro l' k X K hk hK
    rw [tellK_get hk] at hK ⊢
    obtain ⟨e, he⟩ : ∃ e, (knownL es)[k]! = e := ⟨_, rfl⟩
    rw [he] at hK ⊢
    obtain ⟨kd, ky, vl, id⟩ := e
    unfold EV.aggV at hK ⊢
    simp only [aggC, Array.getD_eq_getD_getElem?, List.getElem?_toArray, List.getElem?_cons_zero, Option.getD_some] at hK
    clear he
    gi_wp2
    exact hK
  case body =>
    rintro l' k S Z X ⟨h1, h2, h3, h4⟩ hk hsz hoX hS0 hS1 hS2
    rw [tellK_get hk] at hoX ⊢
    have hk2 : k < (knownL es).length := by unfold tellK at hk; simpa using hk
    obtain ⟨e, he⟩ : ∃ e, (knownL es)[k]! = e := ⟨_, rfl⟩
    rw [he] at hoX ⊢
    have HE := hide he
    have HK := hide hk2
    obtain ⟨kd, ky, vl, id⟩ := e
    unfold EV.aggV at hoX ⊢
    simp only [aggC, Array.getD_eq_getD_getElem?, List.getElem?_toArray, List.getElem?_cons_zero, Option.getD_some] at hoX ⊢
    have hpb : X.heap[Z.heap.size]? = some (.cells #[.int .i64 kd, .int .i64 ky, .int .i64 vl, .int .i64 id] 26 (0, 0)) := hoX.obj (heap_alloc_new Z _) (fun e => by have e' : Z.heap.size = w.heap.size + 1 := e; omega)
    have c0 : X.cell? ⟨Z.heap.size, 0, none⟩ = some (.int .i64 kd) := by simp [World.cell?, hpb]
    have c1 : X.cell? ⟨Z.heap.size, 1, none⟩ = some (.int .i64 ky) := by simp [World.cell?, hpb]
    have c2 : X.cell? ⟨Z.heap.size, 2, none⟩ = some (.int .i64 vl) := by simp [World.cell?, hpb]
    have cy : X.cell? ⟨yB, 0, none⟩ = some (.func (.yield l) #[] #[]) := by simp [World.cell?, h2]
    have HJX := hide h1
    have H2 := hide h2
    have H3 := hide h3
    have H4 := hide h4
    clear he hk2 hpb h1 h2 h3 h4 hoX
    by_cases hkd : kd = 2
    rotate_left
    · have e1 : (kd == 2) = false := by simpa using hkd
      have hr1 : isR { kind := kd, key := ky, val := vl, id := id } = true := known_rec HK.out HE.out hkd
      obtain ⟨y3, y2⟩ := upto_yes HK.out HE.out hr1 H4.out
      have HY3 := hide y3
      obtain ⟨fn', tmps, assign, body, hyy, hRd⟩ := HY.out _ _ _ HJX.out y3
      rw [y2] at hyy
      unfold EV.rcV at hyy
      simp only at hyy
      have HRd := hide hRd
      clear hRd y2 y3 hr1 hkd
      gi_wp2
      refine ⟨fun _ => by omega, (roundIn_any HRd.out).mono ?_⟩
      rintro e W3 ⟨hkp, hz3, ⟨rfl, hJ3⟩ | ⟨rfl, hJ3⟩⟩
      · have hb3 : W3.heap[yB]? = some (.cells #[.func (.yield l) #[] #[]] 88 (0, 0)) := (hkp yB (.inr (.inr (.inr rfl)))).trans H2.out
        have J3 : Hid (roundEndS w.heap.size (fun S k X => J (SU S (w.heap.size + 1) w.heap.size yB) k X ∧ X.heap[yB]? = some (.cells #[.func (.yield l) #[] #[]] 88 (0, 0)) ∧ ¬ S yB ∧ k ≤ (tellU (knownL es)).length) (fun c S k X => c = .exit 0 ∧ (J (SU S (w.heap.size + 1) w.heap.size yB) (tellU (knownL es)).length X ∨ ∃ k', k' ≤ (tellU (knownL es)).length ∧ Jx (SU S (w.heap.size + 1) w.heap.size yB) k' X)) S k X .normal { tmps := #[], defers := [] } W3) := by
          refine hide ⟨fun i h => hkp i ?_, hz3, ?_, hb3, H3.out, HY3.out⟩
          · rcases h with h | h | h
            · exact .inl h
            · exact .inr (.inr (.inl h))
            · exact .inr (.inl h)
          · exact hJ3
        clear HRd hyy hJ3 c0 c1 c2 cy hkp hz3 hb3
        gi_wp2
        exact J3.out
      · have J3 : Hid (roundEndS w.heap.size (fun S k X => J (SU S (w.heap.size + 1) w.heap.size yB) k X ∧ X.heap[yB]? = some (.cells #[.func (.yield l) #[] #[]] 88 (0, 0)) ∧ ¬ S yB ∧ k ≤ (tellU (knownL es)).length) (fun c S k X => c = .exit 0 ∧ (J (SU S (w.heap.size + 1) w.heap.size yB) (tellU (knownL es)).length X ∨ ∃ k', k' ≤ (tellU (knownL es)).length ∧ Jx (SU S (w.heap.size + 1) w.heap.size yB) k' X)) S k X (.exit 0) { tmps := #[], defers := [] } W3) := by
          refine hide ⟨fun i h => hkp i ?_, hz3, rfl, .inr ⟨_, HY3.out, hJ3⟩⟩
          rcases h with h | h | h
          · exact .inl h
          · exact .inr (.inr (.inl h))
          · exact .inr (.inl h)
        clear HRd hyy hJ3 c0 c1 c2 cy hkp hz3
        gi_wp2
        exact J3.out
    · subst hkd
      have HNO := hide (upto_no HK.out HE.out (by rfl) H4.out)
      have J3 : Hid (roundEndS w.heap.size (fun S k X => J (SU S (w.heap.size + 1) w.heap.size yB) k X ∧ X.heap[yB]? = some (.cells #[.func (.yield l) #[] #[]] 88 (0, 0)) ∧ ¬ S yB ∧ k ≤ (tellU (knownL es)).length) (fun c S k X => c = .exit 0 ∧ (J (SU S (w.heap.size + 1) w.heap.size yB) (tellU (knownL es)).length X ∨ ∃ k', k' ≤ (tellU (knownL es)).length ∧ Jx (SU S (w.heap.size + 1) w.heap.size yB) k' X)) S k X (.exit 0) { tmps := #[], defers := [] } X) := by
        refine hide ⟨fun i h => rfl, Nat.le_refl _, rfl, .inl ?_⟩
        rw [← HNO.out]; exact HJX.out
      gi_wp2
      refine ⟨(fun _ h => nomatch h), ?_⟩
      gi_wp2
      exact J3.out
  case done =>
    rintro D S X hD ⟨h1, h2, h3, h4⟩ hK
    have HK := hide hK
    have HJE : Hid (∀ ob, J (SU S (w.heap.size + 1) w.heap.size yB) (tellU (knownL es)).length (X.putObj D ob)) := by
      refine hide (fun ob => HRB.out _ _ _ _ ?_ (put_onlyS.mono (fun i _ h => .inr (.inr (.inl (by have h' : i = D := h; omega))))))
      have e : (tellU (knownL es)).length = (tellK es).length := Nat.le_antisymm (tellU_le es) h4
      rw [e]
      exact h1
    clear h1 h2 h3 h4 hK
    gi_wp2
    simp only [Exit.noGoto]
    refine ⟨by simp, .inl ⟨_, _, rfl, run_takeDeferred HK.out, ?_⟩⟩
    exact ⟨_, results_none rfl _ _ _, ⟨_, rfl⟩, .inl ⟨_, HJE.out _⟩⟩
  case stop =>
    rintro D c S k X hD hk ⟨rfl, hx⟩ hK
    have HK := hide hK
    have HJE : Hid (∀ ob, J (SU S (w.heap.size + 1) w.heap.size yB) (tellU (knownL es)).length (X.putObj D ob) ∨ ∃ k', k' ≤ (tellU (knownL es)).length ∧ Jx (SU S (w.heap.size + 1) w.heap.size yB) k' (X.putObj D ob)) := by
      refine hide (fun ob => ?_)
      have hpo : Only (SU S (w.heap.size + 1) w.heap.size yB) X (X.putObj D ob) := put_onlyS.mono (fun i _ h => .inr (.inr (.inl (by have h' : i = D := h; omega))))
      rcases hx with hx | ⟨k', hk', hx⟩
      · exact .inl (HRB.out _ _ _ _ hx hpo)
      · exact .inr ⟨k', hk', HRX.out _ _ _ _ hx hpo⟩
    clear hx hK
    gi_wp2
    simp only [Exit.noGoto]
    refine ⟨by simp, .inl ⟨_, _, rfl, run_takeDeferred HK.out, ?_⟩⟩
    refine ⟨_, results_none rfl _ _ _, ⟨_, rfl⟩, ?_⟩
    rcases HJE.out _ with h | ⟨k', h1, h2⟩
    · exact .inl ⟨_, h⟩
    · exact .inr ⟨_, _, h1, h2⟩
end Go.Proofs.Ytihbdlbnpkmafaa
