/-
  What Epochs tells, walked. The conditions: that the events lie there; lengths.
-/
import Derived.Test.YtihbdlbnpkmafaaEep
namespace Go.Proofs.Ytihbdlbnpkmafaa
open Go.RowKit Go.Shelf
attribute [local go_sem] Oper.semAt_some

set_option maxRecDepth 100000 in
set_option maxHeartbeats 4000000 in
theorem epochs_tells (q : Nat) (hq : 3 ≤ q) {eb kb L cap : Nat} {p : Option Addr} {es : List EV} (hL : es.length = L) (hbig : L * 32 ≤ 140737488355328) :
    TellsV q 57 #[.pointer (some ⟨eb, 0, none⟩)] (epochsL (knownL es)).length (TvE (knownL es)) (KRd eb kb L cap p es) := by
  intro l J Jx hr hrob hgr hrx hgx hY W h0
  obtain ⟨i0, hI0, hz0, hz1, hz2⟩ := info_parts Try.infoRec
  have HR := hide hr
  have HRB := hide hrob
  have HGR := hide hgr
  have HRX := hide hrx
  have HGX := hide hgx
  have HY := hide hY
  have HL := hide hL
  have HKL : Hid ((knownL es).length ≤ L) := hide (by rw [← hL]; unfold knownL; exact List.length_filter_le _ _)
  have HJ0 := hide h0
  obtain ⟨yo, hyo⟩ : ∃ yo : Obj, yo = .cells #[.func (.yield l) #[] #[]] 90 (0, 0) := ⟨_, rfl⟩
  obtain ⟨so, hso⟩ : ∃ so : Obj, so = .cells #[.slice none 0 0] 54 (0, 0) := ⟨_, rfl⟩
  obtain ⟨w, hw⟩ : ∃ w, w = (W.alloc yo).alloc so := ⟨_, rfl⟩
  obtain ⟨yB, hyB⟩ : ∃ yB, W.heap.size = yB := ⟨_, rfl⟩
  have hbW : Below W.heap.size W w := by rw [hw]; exact (alloc_below _ _).trans ((alloc_below _ _).mono (by simp))
  have hws : w.heap.size = yB + 2 := by rw [hw, ← hyB]; simp
  have hjy : J (fun i => i = yB ∨ i = yB + 1) 0 w := hgr (fun _ => False) _ _ _ _ h0 hbW (fun i h => .inr (by omega))
  have HJY := hide hjy
  obtain ⟨hc1, _, _⟩ := hr _ 0 _ hjy
  have HBY : Hid (w.heap[yB]? = some yo) := by rw [hw, ← hyB]; exact hide (below_box (alloc_below _ _) (heap_alloc_new W _))
  have HBS : Hid (Boxed w (yB + 1) 54 (.slice none 0 0)) := by
    have h := heap_alloc_new (W.alloc yo) so
    rw [World.size_alloc, hyB, ← hw, hso] at h
    exact hide h
  clear hr hY h0 hrob hgr hrx hgx hL hjy hbW
  show CallsIn Fence.wide q Try.prog 57 #[.func (.yield l) #[] #[], .pointer (some ⟨eb, 0, none⟩)] W _
  refine callsIn_of_wp_marks Try.func57 rfl trivial ?_ rfl
  simp only [Try.ntmps57, List.size_toArray, List.length_cons, List.length_nil, Nat.reduceAdd, Nat.reduceSub, Array.replicate_succ, Array.replicate_zero, List.push_toArray, List.append_toArray, List.nil_append, List.cons_append]
  have hc2 := hc1
  rw [hw, hyo, hso] at hc2
  gi_wp2_with fail
  rw [← hso, ← hyo, ← hw]
  clear hc2 hw
  refine range_listS (by omega) (known_tells (q - 1) (by omega) (kb := kb) (p := p) (cap := cap) HL.out) rfl enKnown ?size
    (EpI J (knownL es) w.heap.size yB (yB + 1) yo) (EpX Jx (epochsL (knownL es)).length w.heap.size) (EpI.rob HRB.out _ _ _ _ _) (EpI.grw HGR.out _ _ _ _ _) (EpX.rob HRX.out _ _) (EpX.grw HGX.out _ _) ?puts ?xputs ?reads ?start
    (fun x X => { tmps := #[.func (.yield l) #[] #[], .pointer (some ⟨eb, 0, none⟩), .pointer (some ⟨yB, 0, none⟩), .pointer (some ⟨yB + 1, 0, none⟩), .pointer (some ⟨X.heap.size, 0, none⟩), .func (.func 67) #[] #[.pointer (some ⟨kb, 0, none⟩)], x.getD 0 undef, undef, undef, undef, undef, undef, undef, undef, undef, undef, undef, undef, undef, undef, undef, undef, undef, undef, undef, undef, undef], defers := [] }) (fun x X => X.alloc (.cells (aggC (x.getD 0 undef)) 26 (0, 0))) (fun k X => alloc_below X _) ?assign ?body ?done ?stop
  case size =>
    intro k hk
    rw [tellK_get hk]
    rfl
  case puts => exact fun S k X o' h => EpI.put HRB.out (by omega) (by omega) (.inr rfl) h
  case xputs => exact fun c S k X o' h => EpX.put HRX.out (.inr rfl) h
  case reads =>
    rintro S k X ⟨T, dn, s, p', c', h1, h2, _⟩
    exact (HR.out _ _ _ h2).2
  case start =>
    intro r
    have hb2 : Below w.heap.size w ((w.alloc (.deferred (some []))).alloc (.loop r)) := (alloc_below w _).trans ((alloc_below _ _).mono (by simp))
    refine ⟨fun i => i = yB ∨ i = yB + 1 ∨ i = w.heap.size ∨ i = w.heap.size + 1, [], [], none, 0, EpAt.start _, HGR.out _ _ _ _ _ HJY.out hb2 (fun i h => ?_), fun i e => e.elim, ⟨.inl rfl, .inr (.inl rfl), .inr (.inr (.inl rfl)), .inr (.inr (.inr rfl))⟩, fun b h => by simp [Value.ownBlock] at h, below_box hb2 HBY.out, below_box hb2 HBS.out, fun e => e, fun e => e, World.ownsRow_nil _ _ _ _⟩
    rcases h with h | h | h | h
    · exact .inl (.inl h)
    · exact .inl (.inr h)
    · exact .inr ⟨by omega, by simp; omega⟩
    · exact .inr ⟨by omega, by simp; omega⟩
  case assign =>
    intro l' k X K hk hK
    rw [tellK_get hk] at hK ⊢
    obtain ⟨e, he⟩ : ∃ e, (knownL es)[k]! = e := ⟨_, rfl⟩
    rw [he] at hK ⊢
    obtain ⟨kd, ky, vl, id⟩ := e
    unfold EV.aggV at hK ⊢
    simp only [aggC, Array.getD_eq_getD_getElem?, List.getElem?_toArray, List.getElem?_cons_zero, Option.getD_some] at hK
    clear he
    gi_wp2
    exact hK
  case body =>
    rintro l' k S Z X hI hk hsz hoX hS0 hS1 hS2
    rw [tellK_get hk] at hoX ⊢
    have hk2 : k < (knownL es).length := by unfold tellK at hk; simpa using hk
    obtain ⟨e, he⟩ : ∃ e, (knownL es)[k]! = e := ⟨_, rfl⟩
    rw [he] at hoX ⊢
    have HE := hide he
    have HK := hide hk2
    obtain ⟨kd, ky, vl, id⟩ := e
    unfold EV.aggV at hoX ⊢
    simp only [aggC, Array.getD_eq_getD_getElem?, List.getElem?_toArray, List.getElem?_cons_zero, Option.getD_some] at hoX ⊢
    have hpb : X.heap[Z.heap.size]? = some (.cells #[.int .i64 kd, .int .i64 ky, .int .i64 vl, .int .i64 id] 26 (0, 0)) := hoX.obj (heap_alloc_new Z _) (fun e => by have e' : Z.heap.size = w.heap.size + 1 := e; omega)
    have c0 : X.cell? ⟨Z.heap.size, 0, none⟩ = some (.int .i64 kd) := by simp [World.cell?, hpb]
    have c1 : X.cell? ⟨Z.heap.size, 1, none⟩ = some (.int .i64 ky) := by simp [World.cell?, hpb]
    have c2 : X.cell? ⟨Z.heap.size, 2, none⟩ = some (.int .i64 vl) := by simp [World.cell?, hpb]
    have c3 : X.cell? ⟨Z.heap.size, 3, none⟩ = some (.int .i64 id) := by simp [World.cell?, hpb]
    have hZX : w.heap.size + 2 ≤ X.heap.size := by have := hoX.size; simp at this; omega
    obtain ⟨T, dn, s, pp, cc, h1, h2, h3, h4, h5, h6, h7, h8, h9, h10⟩ := hI
    obtain ⟨n, hn⟩ : ∃ n, s.length = n := ⟨_, rfl⟩
    have HN := hide hn
    rw [hn] at h5 h7 h10
    have cs := h7.cell
    have cf := h7.frozen
    have cy : X.cell? ⟨yB, 0, none⟩ = some (.func (.yield l) #[] #[]) := by rw [hyo] at h6; simp [World.cell?, h6]
    have hnk : n ≤ k := by rw [← hn]; exact h1.2
    have HNL : Hid (n + 1 ≤ L) := hide (by have := HKL.out; omega)
    have H1 := hide h1
    have H2 := hide h2
    have H3 := hide h3
    have H4 := hide h4
    have H5 := hide h5
    have H6 := hide h6
    have H7 := hide h7
    have H8 := hide h8
    have H9 := hide h9
    have H10 := hide h10
    have HS2 := hide hS2
    clear he hk2 hpb h1 h2 h3 h4 h5 h6 h7 h8 h9 h10 hoX hn hnk hS2
    by_cases hkd : kd = 1
    · subst hkd
      have HRW := hide (ownsRow_later H10.out (alloc_below X (.cells #[.int .i64 ky, .int .i64 vl] 24 (0, 0))))
      have HK1 : Hid (n + 1 ≤ maxLen) := by have := HNL.out; show _ ≤ _; unfold maxLen; omega
      have HK2 : Hid ((n + 1) * 16 ≤ 140737488355328) := by have := HNL.out; show _ ≤ _; omega
      have HBB : Hid (w.heap.size + 2 ≤ (X.alloc (.cells #[.int .i64 ky, .int .i64 vl] 24 (0, 0))).heap.size) := hide (by simp; omega)
      obtain ⟨_, _, ef, ec1, ec2⟩ := own_form H10.out
      simp only [Value.slice.injEq, true_and] at ef
      obtain ⟨rfl, rfl⟩ := ef
      have HWS := hide hws
      clear hws
      gi_wp2_with (gi_at_builtin; refine wpListIn_append_own_at _ rfl (.tmp 10) (.tmp 13) 54 rfl (w.heap.size + 2) 24 i0 (.agg #[.int .i64 0, .int .i64 0]) 2 16 Try.underlying54 hI0 hz0 hz1 hz2 rfl (by decide) (.slice pp n cc) n _ rfl HRW.out ⟨X.heap.size, 0, none⟩ 1 1 [.int .i64 ky, .int .i64 vl] rfl rfl (World.news_of_block (heap_alloc_new X _)) (by simp [Value.oneCell']) HK1.out HK2.out HBB.out ?_)
      intro v4 w4 hown hgrow _ hwhere
      obtain ⟨p4, c4, rfl, _, _⟩ := own_form hown
      have hws := HWS.out
      have hoW : Only (fun i => (Value.slice pp n cc).ownBlock = some i) X w4 := (Only.alloc _ _ _).trans (Only.of_grown hgrow (fun k e => e))
      have hnoB : ∀ i, (Value.slice pp n cc).ownBlock = some i → w.heap.size + 2 ≤ i := fun i e => own_block_base H10.out e
      have hbx4 : Boxed w4 (yB + 1) 54 (.slice pp n cc) := hoW.obj H7.out (fun e => by have := hnoB _ e; omega)
      have co4 := hbx4.cell
      have cf4 := hbx4.frozen
      have hoF : Only (fun i => (Value.slice pp n cc).ownBlock = some i ∨ i = yB + 1) X (w4.setCell ⟨yB + 1, 0, none⟩ (.slice p4 (n + 1) c4)) := (hoW.mono (fun i _ e => .inl e)).trans (Only.set (F := fun i => (Value.slice pp n cc).ownBlock = some i ∨ i = yB + 1) w4 (yB + 1) 0 _ (.inr rfl))
      have HQ : Hid (roundEndS w.heap.size (EpI J (knownL es) w.heap.size yB (yB + 1) yo) (EpX Jx (epochsL (knownL es)).length w.heap.size) S k X .normal { tmps := #[], defers := [] } (w4.setCell ⟨yB + 1, 0, none⟩ (.slice p4 (n + 1) c4))) := by
        have hkp : ∀ i, i < X.heap.size → ¬ ((Value.slice pp n cc).ownBlock = some i) → i ≠ yB + 1 → (w4.setCell ⟨yB + 1, 0, none⟩ (.slice p4 (n + 1) c4)).heap[i]? = X.heap[i]? := fun i hi h1 h2 => hoF.block i hi (fun e => e.elim h1 h2)
        have hnw : ∀ b, (Value.slice p4 (n + 1) c4).ownBlock = some b → (Value.slice pp n cc).ownBlock = some b ∨ (X.heap.size ≤ b ∧ b < (w4.setCell ⟨yB + 1, 0, none⟩ (.slice p4 (n + 1) c4)).heap.size) := fun b hb => by
          have hlt := (own_block_lt hown hb).1
          rcases hwhere with h | h
          · rw [h] at hb; exact .inl hb
          · rw [h] at hb
            simp only [Option.some.injEq] at hb
            exact .inr ⟨by omega, by simp; omega⟩
        refine hide ⟨fun i hi => ?_, hoF.size, fun i => T i ∨ (Value.slice p4 (n + 1) c4).ownBlock = some i, dn, s ++ [⟨ky, vl⟩], p4, c4, H1.out.rec HK.out HE.out (by rfl), grow_only HRB.out HGR.out H2.out (hoF.mono (fun i _ e => e.elim (fun e => (H5.out i e).1) (fun e => by rw [e]; exact H4.out.2.1))) (fun i h => ?_) (fun i h => .inl h), fun i h => .inl (H3.out i h), ⟨.inl H4.out.1, .inl H4.out.2.1, .inl H4.out.2.2.1, .inl H4.out.2.2.2⟩, ?_, ?_, ?_, H8.out, H9.out, ?_⟩
        · rcases hi with h | h | h
          · exact hkp i (HS2.out i h) (fun e => (H5.out i e).2 h) (fun e => H9.out (by rw [← e]; exact h))
          · exact hkp i (by omega) (fun e => by have := hnoB _ e; omega) (by omega)
          · exact hkp i (by omega) (fun e => by have := hnoB _ e; omega) (by omega)
        · rcases h with h | h
          · exact .inl h
          · rcases hnw i h with h | h
            · exact .inl (H5.out i h).1
            · exact .inr h
        · rw [List.length_append, HN.out]
          refine fun b hb => ⟨.inr hb, fun hs => ?_⟩
          rcases hnw b hb with h | h
          · exact (H5.out b h).2 hs
          · have := HS2.out b hs; omega
        · exact hoF.obj H6.out (fun e => e.elim (fun e => by have := hnoB _ e; omega) (fun e => by omega))
        · rw [List.length_append, HN.out]
          exact hbx4.set _
        · rw [List.length_append, HN.out, List.flatMap_append]
          exact hown.kept (grownBy_setCell' w4 (yB + 1) _) (.inr (fun e => by have := own_block_base hown e; omega))
      clear hown hgrow hwhere hoW hnoB hbx4 hoF
      gi_wp2
      exact HQ.out
    · have e1 : (kd == 1) = false := by simpa using hkd
      obtain ⟨y1, y2, y3⟩ := H1.out.bar HK.out HE.out (by simpa [isR] using hkd)
      have HY1 := hide y1
      have HY3 := hide y3
      obtain ⟨fn', tmps, assign, body, hyy, hRd⟩ := HY.out T dn.length X #[.int .i64 id, .slice pp n cc] H2.out y3 ⟨id, s, pp, cc, y2, by rw [HN.out], LRow.of_own RC.len HN.out H10.out⟩
      have HRd := hide hRd
      clear hRd y1 y2 y3 hkd
      gi_wp2
      refine ⟨fun _ => by omega, (roundIn_any HRd.out).mono ?_⟩
      rintro e W3 ⟨hkp, hz3, ⟨rfl, hJ3⟩ | ⟨rfl, hJ3⟩⟩
      · have hb3 : Boxed W3 (yB + 1) 54 (.slice pp n cc) := (hkp (yB + 1) H4.out.2.1).trans H7.out
        have hy3 : W3.heap[yB]? = some yo := (hkp yB H4.out.1).trans H6.out
        have c3' := hb3.cell
        have f3' := hb3.frozen
        have hoS : Only (· = yB + 1) W3 (W3.setCell ⟨yB + 1, 0, none⟩ (.slice none 0 0)) := Only.set (F := (· = yB + 1)) W3 (yB + 1) 0 _ rfl
        have HQ : Hid (roundEndS w.heap.size (EpI J (knownL es) w.heap.size yB (yB + 1) yo) (EpX Jx (epochsL (knownL es)).length w.heap.size) S k X .normal { tmps := #[], defers := [] } (W3.setCell ⟨yB + 1, 0, none⟩ (.slice none 0 0))) := by
          refine hide ⟨fun i hi => ?_, Nat.le_trans hz3 hoS.size, T, dn ++ [(id, s)], [], none, 0, HY1.out, ?_, H3.out, H4.out, fun b h => by simp [Value.ownBlock] at h, hoS.obj hy3 (fun e => by have e' : yB = yB + 1 := e; omega), hb3.set _, H8.out, H9.out, World.ownsRow_nil _ _ _ _⟩
          · have hiT : T i := by
              rcases hi with h | h | h
              · exact H3.out i h
              · rw [h]; exact H4.out.2.2.1
              · rw [h]; exact H4.out.2.2.2
            have hne : i ≠ yB + 1 := by
              rcases hi with h | h | h
              · exact fun e => H9.out (by rw [← e]; exact h)
              · omega
              · omega
            have hlt : i < W3.heap.size := by
              rcases hi with h | h | h
              · have := HS2.out i h; omega
              · omega
              · omega
            exact (hoS.block i hlt hne).trans (hkp i hiT)
          · rw [List.length_append]
            exact HRB.out _ _ _ _ hJ3 (hoS.mono (fun i _ e => by have e' : i = yB + 1 := e; rw [e']; exact H4.out.2.1))
        clear HRd hyy hJ3 c0 c1 c2 c3 cy cs cf hkp hz3 hb3 hy3 hoS
        gi_wp2
        exact HQ.out
      · have HQ : Hid (roundEndS w.heap.size (EpI J (knownL es) w.heap.size yB (yB + 1) yo) (EpX Jx (epochsL (knownL es)).length w.heap.size) S k X .ret { tmps := #[], defers := [] } W3) := by
          refine hide ⟨fun i hi => hkp i ?_, hz3, rfl, T, dn.length + 1, HY3.out, hJ3, H3.out, H4.out.2.2⟩
          rcases hi with h | h | h
          · exact H3.out i h
          · rw [h]; exact H4.out.2.2.1
          · rw [h]; exact H4.out.2.2.2
        clear HRd hyy hJ3 c0 c1 c2 c3 cy cs cf hkp hz3
        gi_wp2
        exact HQ.out
  case done =>
    rintro D S X hD ⟨T, dn, s, pp, cc, h1, h2, h3, h4, h5, h6, h7, h8, h9, h10⟩ hK
    obtain ⟨n, hn⟩ : ∃ n, s.length = n := ⟨_, rfl⟩
    have HN := hide hn
    rw [hn] at h5 h7 h10
    have cs := h7.cell
    have cy : X.cell? ⟨yB, 0, none⟩ = some (.func (.yield l) #[] #[]) := by rw [hyo] at h6; simp [World.cell?, h6]
    obtain ⟨g0, g1⟩ := h1.end (by unfold tellK; simp)
    rw [hn] at g0 g1
    have HTD : Hid (T D) := by rw [hD]; exact hide h4.2.2.1
    have HK := hide hK
    have H2 := hide h2
    have H10 := hide h10
    clear h1 h2 h3 h4 h5 h6 h7 h8 h9 h10 hn hK hD
    by_cases hn0 : n = 0
    · have hdn := g0 hn0
      have HJE : Hid (∀ ob, J T (epochsL (knownL es)).length (X.putObj D ob)) := hide (fun ob => by
        rw [← hdn]
        exact HRB.out _ _ _ _ H2.out (put_onlyS.mono (fun i _ h => by have h' : i = D := h; rw [h']; exact HTD.out)))
      subst hn0
      clear g0 g1
      gi_wp2
      refine ⟨by simp, .inl ⟨_, _, rfl, run_takeDeferred HK.out, ?_⟩⟩
      exact ⟨_, results_none rfl _ _ _, ⟨_, rfl⟩, .inl ⟨_, HJE.out _⟩⟩
    · obtain ⟨y2, y3⟩ := g1 hn0
      have HY3 := hide y3
      have d1 : decide ((n : Int) > 0) = true := decide_eq_true (by omega)
      obtain ⟨fn', tmps, assign, body, hyy, hRd⟩ := HY.out T dn.length X #[.int .i64 0, .slice pp n cc] H2.out (by omega) ⟨0, s, pp, cc, y2, by rw [HN.out], LRow.of_own RC.len HN.out H10.out⟩
      have HRd := hide hRd
      clear hRd g0 g1 y2 y3
      gi_wp2
      refine ⟨fun _ => by omega, HRd.out.mono ?_⟩
      rintro e W3 ⟨hkp, hz3, ⟨rfl, hJ3⟩ | ⟨rfl, hJ3⟩⟩
      · have HK3 := hide ((hkp D HTD.out).trans HK.out)
        have HJE : Hid (∀ ob, J T (epochsL (knownL es)).length (W3.putObj D ob)) := hide (fun ob => by
          rw [← HY3.out]
          exact HRB.out _ _ _ _ hJ3 (put_onlyS.mono (fun i _ h => by have h' : i = D := h; rw [h']; exact HTD.out)))
        clear HRd hyy hJ3 hkp hz3 cs cy
        gi_wp2
        refine ⟨by simp, .inl ⟨_, _, rfl, run_takeDeferred HK3.out, ?_⟩⟩
        exact ⟨_, results_none rfl _ _ _, ⟨_, rfl⟩, .inl ⟨_, HJE.out _⟩⟩
      · have HK3 := hide ((hkp D HTD.out).trans HK.out)
        have HJE : Hid (∀ ob, Jx T (dn.length + 1) (W3.putObj D ob)) := hide (fun ob => HRX.out _ _ _ _ hJ3 (put_onlyS.mono (fun i _ h => by have h' : i = D := h; rw [h']; exact HTD.out)))
        clear HRd hyy hJ3 hkp hz3 cs cy
        gi_wp2
        refine ⟨by simp, .inl ⟨_, _, rfl, run_takeDeferred HK3.out, ?_⟩⟩
        exact ⟨_, results_none rfl _ _ _, ⟨_, rfl⟩, .inr ⟨_, _, Nat.le_of_eq HY3.out, HJE.out _⟩⟩
  case stop =>
    rintro D c S k X hD hk ⟨rfl, T, k', hk', hx, h3, h4, h5⟩ hK
    have HK := hide hK
    have HJE : Hid (∀ ob, Jx T k' (X.putObj D ob)) := hide (fun ob => HRX.out _ _ _ _ hx (put_onlyS.mono (fun i _ h => by have h' : i = D := h; rw [h', hD]; exact h4)))
    clear hx hK
    gi_wp2
    refine ⟨by simp, .inl ⟨_, _, rfl, run_takeDeferred HK.out, ?_⟩⟩
    exact ⟨_, results_none rfl _ _ _, ⟨_, rfl⟩, .inr ⟨_, _, hk', HJE.out _⟩⟩
end Go.Proofs.Ytihbdlbnpkmafaa
