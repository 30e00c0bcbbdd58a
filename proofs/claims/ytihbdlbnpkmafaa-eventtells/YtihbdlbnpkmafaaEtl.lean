/-
  What told and few make of what is told. The conditions: lengths.
-/
import Derived.Test.YtihbdlbnpkmafaaEtd
import Derived.Maps.OwnIn
namespace Go.Proofs.Ytihbdlbnpkmafaa
open Go.RowKit Go.Shelf
attribute [local go_sem] Oper.semAt_some


set_option maxRecDepth 100000 in
set_option maxHeartbeats 4000000 in
theorem told_in (n : Nat) (hn : 5 ≤ n) {W : World} {gf : Nat} {lb : Array Value} {rs : List RC} {Rd : World → Prop} (hseq : ∀ q, 3 ≤ q → TellsS q gf lb (tellRc rs) Rd) (eg : ∀ args w, (callFunc gf args).run Try.prog w = .ok (.enter gf args) w) (hRd : ∀ X, Below W.heap.size W X → Rd X) (hl : rs.length * 16 ≤ 140737488355312) {L : Nat} (hL : (rs).length = L) :
    CallsIn Fence.wide n Try.prog 32 #[.func (.func gf) #[] lb] W fun e w' => ∃ p c, e = .returned (.slice p L c) ∧ w'.ownsRow W.heap.size 24 2 (.slice p L c) L ((rs).flatMap RC.cells) ∧ Below W.heap.size W w' := by
  obtain ⟨i0, hI0, hz0, hz1, hz2⟩ := info_parts Try.infoRec
  have HSEQ := hide hseq
  have HRD := hide hRd
  have HLL := hide hL
  have htl : (tellRc rs).length = rs.length := by unfold tellRc; simp
  have HTL := hide htl
  clear hseq hRd hL htl
  refine callsIn_of_wp_marks Try.func32 rfl trivial ?_ rfl
  simp only [Try.ntmps32, List.size_toArray, List.length_cons, List.length_nil, Nat.reduceAdd, Nat.reduceSub, Array.replicate_succ, Array.replicate_zero, List.push_toArray, List.append_toArray, List.nil_append, List.cons_append]
  gi_wp2_with fail
  obtain ⟨V, hV⟩ : ∃ V, V = W.alloc (.cells #[.slice none 0 0] 54 (0, 0)) := ⟨_, rfl⟩
  rw [← hV]
  have HVB : Hid (Below W.heap.size W V) := by rw [hV]; exact hide (alloc_below W _)
  obtain ⟨oB, hoB⟩ : ∃ oB, W.heap.size = oB := ⟨_, rfl⟩
  have hbo : V.heap[oB]? = some (.cells #[.slice none 0 0] 54 (0, 0)) := by rw [hV, ← hoB]; exact heap_alloc_new W _
  have hVs : V.heap.size = oB + 1 := by rw [hV, ← hoB]; simp
  have hWo : W.heap.size ≤ oB := by omega
  try rw [hoB]
  have HBO := hide hbo
  clear hV hoB hbo
  gi_wp2_with fail
  refine range_listS (by omega) (HSEQ.out (n - 1) (by omega)) rfl eg ?size (TdI V oB rs) (fun _ _ _ _ => False) ?rob ?grw ?xrob ?xgrw ?puts ?xputs ?reads ?start
    (fun x X => { tmps := #[.func (.func gf) #[] lb, undef, .slice none 0 0, .pointer (some ⟨oB, 0, none⟩), .pointer (some ⟨X.heap.size, 0, none⟩), .func (.func gf) #[] lb, x.getD 0 undef, undef, undef, undef, undef, undef], defers := [] }) (fun x X => X.alloc (.cells (aggC (x.getD 0 undef)) 24 (0, 0))) (fun k X => alloc_below X _) ?assign ?body ?done ?stop
  case size =>
    intro k hk
    rw [tellRc_get hk]
    rfl
  case rob =>
    exact TdI.rob V oB rs
  case grw =>
    exact TdI.grw V oB rs
  case xrob =>
    exact fun _ _ _ _ _ h _ => h
  case xgrw =>
    exact fun _ _ _ _ _ _ h _ _ => h
  case puts =>
    intro S k X o' h1
    exact TdI.put h1 (.inr rfl) (by omega)
  case xputs =>
    exact fun _ _ _ _ _ h => h
  case reads =>
    intro S k X h1
    obtain ⟨_, _, _, _, _, _, h5, _⟩ := h1
    exact HRD.out X (HVB.out.trans (h5.below HVB.out.size (fun i e => by have e' : i = oB := e; omega)))
  case start =>
    intro r
    have hb2 : Below V.heap.size V ((V.alloc (.deferred (some []))).alloc (.loop r)) := (alloc_below V _).trans ((alloc_below _ _).mono (by simp))
    exact ⟨none, 0, below_box hb2 HBO.out, fun e => e, World.ownsRow_nil _ _ _ _, fun b h => by simp [Value.ownBlock] at h, Only.fresh hb2 _, fun i e => e.elim⟩
  case assign =>
    intro l' k X K hk hK
    rw [tellRc_get hk] at hK ⊢
    obtain ⟨e, he⟩ : ∃ e, rs[k]! = e := ⟨_, rfl⟩
    rw [he] at hK ⊢
    obtain ⟨ky, vl⟩ := e
    simp only [aggC, Array.getD_eq_getD_getElem?, List.getElem?_toArray, List.getElem?_cons_zero, Option.getD_some] at hK
    clear he
    gi_wp2
    exact hK
  case body =>
    rintro l' k S Z X hI hk hsz hoX hS0 hS1 hS2
    rw [tellRc_get hk] at hoX ⊢
    rw [HTL.out] at hk
    obtain ⟨e, he⟩ : ∃ e, rs[k]! = e := ⟨_, rfl⟩
    rw [he] at hoX ⊢
    have HT := hide (take_snocR hk he)
    have HK := hide hk
    obtain ⟨ky, vl⟩ := e
    simp only [aggC, Array.getD_eq_getD_getElem?, List.getElem?_toArray, List.getElem?_cons_zero, Option.getD_some] at hoX ⊢
    have hpb : X.heap[Z.heap.size]? = some (.cells #[.int .i64 ky, .int .i64 vl] 24 (0, 0)) := hoX.obj (heap_alloc_new Z _) (fun e => by have e' : Z.heap.size = V.heap.size + 1 := e; omega)
    have c0 : X.cell? ⟨Z.heap.size, 0, none⟩ = some (.int .i64 ky) := by simp [World.cell?, hpb]
    have c1 : X.cell? ⟨Z.heap.size, 1, none⟩ = some (.int .i64 vl) := by simp [World.cell?, hpb]
    have hZX : V.heap.size + 2 ≤ X.heap.size := by have := hoX.size; simp at this; omega
    obtain ⟨p, c, h1, h2, h3, h4, h5, h6⟩ := hI
    have co := h1.cell
    have cf := h1.frozen
    have HRW := hide (ownsRow_later h3 (alloc_below X (.cells #[.int .i64 ky, .int .i64 vl] 24 (0, 0))))
    have HSG : Hid (Seg (X.alloc (.cells #[.int .i64 ky, .int .i64 vl] 24 (0, 0))) 2 (.slice (some ⟨X.heap.size, 0, none⟩) 1 1) 1 [.int .i64 ky, .int .i64 vl]) := hide (Seg.news (heap_alloc_new X _) (by simp [Value.oneCell']) rfl (Nat.le_refl _) (by decide))
    have HK1 : Hid (k + 1 ≤ maxLen) := by show _ ≤ _; unfold maxLen; omega
    have HK2 : Hid ((k + 1) * 16 ≤ 140737488355328) := by show _ ≤ _; omega
    have HBB : Hid (V.heap.size + 2 ≤ (X.alloc (.cells #[.int .i64 ky, .int .i64 vl] 24 (0, 0))).heap.size) := hide (by simp; omega)
    obtain ⟨_, _, ef, ec1, ec2⟩ := own_form h3
    simp only [Value.slice.injEq, true_and] at ef
    obtain ⟨rfl, rfl⟩ := ef
    have H1 := hide h1
    have H2 := hide h2
    have H3 := hide h3
    have H4 := hide h4
    have H5 := hide h5
    have H6 := hide h6
    clear h1 h2 h3 h4 h5 h6 hoX hpb
    gi_wp2_with (gi_at_builtin; refine wpListIn_append_own_at _ rfl (.tmp 7) (.tmp 9) 54 rfl (V.heap.size + 2) 24 i0 (.agg #[.int .i64 0, .int .i64 0]) 2 16 Try.underlying54 hI0 hz0 hz1 hz2 rfl (by decide) (.slice p k c) k _ rfl HRW.out ⟨X.heap.size, 0, none⟩ 1 1 [.int .i64 ky, .int .i64 vl] rfl rfl (World.news_of_block (heap_alloc_new X _)) (by simp [Value.oneCell']) HK1.out HK2.out HBB.out ?_)
    intro v4 w4 hown hgrow _ hwhere
    obtain ⟨p4, c4, rfl, _, _⟩ := own_form hown
    have hoW : Only (fun i => (Value.slice p k c).ownBlock = some i) X w4 := (Only.alloc _ _ _).trans (Only.of_grown hgrow (fun k e => e))
    have hnoB : ∀ i, (Value.slice p k c).ownBlock = some i → V.heap.size + 2 ≤ i := fun i e => own_block_base H3.out e
    have hbx4 : Boxed w4 oB 54 (.slice p k c) := hoW.obj H1.out (fun e => by have := hnoB _ e; omega)
    have co4 := hbx4.cell
    have cf4 := hbx4.frozen
    have hoF : Only (fun i => (Value.slice p k c).ownBlock = some i ∨ i = oB) X (w4.setCell ⟨oB, 0, none⟩ (.slice p4 (k + 1) c4)) := (hoW.mono (fun i _ e => .inl e)).trans (Only.set (F := fun i => (Value.slice p k c).ownBlock = some i ∨ i = oB) w4 oB 0 _ (.inr rfl))
    have HKP : Hid (Kept (fun i => S i ∨ i = V.heap.size ∨ i = V.heap.size + 1) X (w4.setCell ⟨oB, 0, none⟩ (.slice p4 (k + 1) c4))) := by
      refine hide (fun i hi => hoF.block i ?_ ?_)
      · rcases hi with h | h | h
        · exact hS2 i h
        · omega
        · omega
      · rintro (e | e)
        · rcases hi with h | h | h
          · exact H4.out i e h
          · have := hnoB _ e; omega
          · have := hnoB _ e; omega
        · rcases hi with h | h | h
          · exact H2.out (by rw [← e]; exact h)
          · omega
          · omega
    have HSZ : Hid (X.heap.size ≤ (w4.setCell ⟨oB, 0, none⟩ (.slice p4 (k + 1) c4)).heap.size) := hide hoF.size
    have HTD : Hid (TdI V oB rs S (k + 1) (w4.setCell ⟨oB, 0, none⟩ (.slice p4 (k + 1) c4))) := by
      refine hide ⟨p4, c4, hbx4.set _, H2.out, ?_, fun b hb hs => ?_, H5.out.step hoF (fun i e => ?_), H6.out⟩
      · rw [HT.out, List.flatMap_append, hVs]
        exact hown.kept (grownBy_setCell' w4 oB _) (.inr (fun e => by have := own_block_base hown e; omega))
      · rcases hwhere with h | h
        · rw [h] at hb; exact H4.out b hb hs
        · rw [h] at hb
          simp only [Option.some.injEq] at hb
          have := hS2 b hs
          omega
      · rcases e with e | e
        · exact .inr (by have := hnoB _ e; omega)
        · exact .inl e
    clear hown hgrow hwhere hoW hnoB hbx4 hoF
    gi_wp2
    exact ⟨HKP.out, HSZ.out, HTD.out⟩
  case done =>
    rintro D S X hD hI hK
    rw [HTL.out] at hI
    obtain ⟨p, c, h1, h2, h3, h4, h5, h6⟩ := hI
    have hLr : rs.length = L := HLL.out
    rw [hLr] at h1 h3
    rw [← hLr, List.take_length, hLr] at h3
    have co := h1.cell
    have HK := hide hK
    have HRW := hide h3
    have HB : Hid (Below W.heap.size W X) := hide (HVB.out.trans (h5.below HVB.out.size (fun i e => by have e' : i = oB := e; omega)))
    clear h1 h2 h3 h4 h5 h6 hK
    gi_wp2
    refine ⟨by simp, .inl ⟨_, _, rfl, run_takeDeferred HK.out, ?_⟩⟩
    refine ⟨_, results_tmp rfl _ _ _, p, c, rfl, ?_, ?_⟩
    · skip
      exact ownsRow_base (ownsRow_only HRW.out put_onlyS (fun b hb e => by have e' : b = D := e; have := own_block_base HRW.out hb; omega)) (by have := HVB.out.size; omega)
    · exact HB.out.trans (put_onlyS.below HB.out.size (fun i e => by have e' : i = D := e; have := HVB.out.size; omega))
  case stop =>
    exact fun _ _ _ _ _ _ _ h _ => h.elim

set_option maxRecDepth 100000 in
set_option maxHeartbeats 4000000 in
theorem few_in (n : Nat) (hn : 5 ≤ n) {W : World} {gf : Nat} {lb : Array Value} {rs : List RC} {m : Nat} {Rd : World → Prop} (hseq : ∀ q, 3 ≤ q → TellsS q gf lb (tellRc rs) Rd) (eg : ∀ args w, (callFunc gf args).run Try.prog w = .ok (.enter gf args) w) (hRd : ∀ X, Below W.heap.size W X → Rd X) (hl : rs.length * 16 ≤ 140737488355312) {L : Nat} (hL : (rs.take m).length = L) :
    CallsIn Fence.wide n Try.prog 41 #[.func (.func gf) #[] lb, .int .i64 (m : Int)] W fun e w' => ∃ p c, e = .returned (.slice p L c) ∧ w'.ownsRow W.heap.size 24 2 (.slice p L c) L ((rs.take m).flatMap RC.cells) ∧ Below W.heap.size W w' := by
  obtain ⟨i0, hI0, hz0, hz1, hz2⟩ := info_parts Try.infoRec
  have HSEQ := hide hseq
  have HRD := hide hRd
  have HLL := hide hL
  have htl : (tellRc rs).length = rs.length := by unfold tellRc; simp
  have HTL := hide htl
  clear hseq hRd hL htl
  refine callsIn_of_wp_marks Try.func41 rfl trivial ?_ rfl
  simp only [Try.ntmps41, List.size_toArray, List.length_cons, List.length_nil, Nat.reduceAdd, Nat.reduceSub, Array.replicate_succ, Array.replicate_zero, List.push_toArray, List.append_toArray, List.nil_append, List.cons_append]
  gi_wp2_with fail
  obtain ⟨V, hV⟩ : ∃ V, V = (W.alloc (.cells #[.int .i64 (m : Int)] 3 (0, 0))).alloc (.cells #[.slice none 0 0] 54 (0, 0)) := ⟨_, rfl⟩
  rw [← hV]
  have HVB : Hid (Below W.heap.size W V) := by rw [hV]; exact hide ((alloc_below W _).trans ((alloc_below _ _).mono (by simp)))
  obtain ⟨nB, hnB⟩ : ∃ nB, W.heap.size = nB := ⟨_, rfl⟩
  obtain ⟨oB, hoB⟩ : ∃ oB, nB + 1 = oB := ⟨_, rfl⟩
  have hbo : V.heap[oB]? = some (.cells #[.slice none 0 0] 54 (0, 0)) := by
    have h := heap_alloc_new (W.alloc (.cells #[.int .i64 (m : Int)] 3 (0, 0))) (.cells #[.slice none 0 0] 54 (0, 0))
    rw [World.size_alloc, hnB, hoB] at h
    rw [hV]
    exact h
  have hbn : V.heap[nB]? = some (.cells #[.int .i64 (m : Int)] 3 (0, 0)) := by
    rw [hV, ← hnB]
    exact below_box (alloc_below _ _) (heap_alloc_new W _)
  have hVs : V.heap.size = oB + 1 := by rw [hV, ← hoB, ← hnB]; simp
  have hWo : W.heap.size ≤ oB := by omega
  have hno : nB < oB := by omega
  have HBN := hide hbn
  try rw [hnB]
  try rw [hoB]
  have HBO := hide hbo
  clear hV hoB hnB hbn hbo
  gi_wp2_with fail
  refine range_listS (by omega) (HSEQ.out (n - 1) (by omega)) rfl eg ?size (fun S k X => TdI V oB rs S k X ∧ Boxed X nB 3 (.int .i64 (m : Int)) ∧ ¬ S nB ∧ k ≤ m) (fun c S k X => c = .exit 0 ∧ TdI V oB rs S m X ∧ m ≤ rs.length) ?rob ?grw ?xrob ?xgrw ?puts ?xputs ?reads ?start
    (fun x X => { tmps := #[.func (.func gf) #[] lb, .int .i64 (m : Int), undef, .pointer (some ⟨nB, 0, none⟩), .slice none 0 0, .pointer (some ⟨oB, 0, none⟩), .pointer (some ⟨X.heap.size, 0, none⟩), .func (.func gf) #[] lb, x.getD 0 undef, undef, undef, undef, undef, undef, undef, undef, undef, undef], defers := [] }) (fun x X => X.alloc (.cells (aggC (x.getD 0 undef)) 24 (0, 0))) (fun k X => alloc_below X _) ?assign ?body ?done ?stop
  case size =>
    intro k hk
    rw [tellRc_get hk]
    rfl
  case rob =>
    rintro S k X X' ⟨h1, h2, h3, h4⟩ ho
    exact ⟨TdI.rob V oB rs S k X X' h1 ho, ho.obj h2 h3, h3, h4⟩
  case grw =>
    rintro S S' k X X' ⟨h1, h2, h3, h4⟩ hb hs
    refine ⟨TdI.grw V oB rs S S' k X X' h1 hb hs, below_box hb h2, fun h => ?_, h4⟩
    have := (Array.getElem?_eq_some_iff.1 (show X.heap[nB]? = _ from h2)).1
    rcases hs _ h with h | h
    · exact h3 h
    · omega
  case xrob =>
    rintro c S k X X' ⟨h1, h2, h3⟩ ho
    exact ⟨h1, TdI.rob V oB rs S m X X' h2 ho, h3⟩
  case xgrw =>
    rintro c S S' k X X' ⟨h1, h2, h3⟩ hb hs
    exact ⟨h1, TdI.grw V oB rs S S' m X X' h2 hb hs, h3⟩
  case puts =>
    rintro S k X o' ⟨h1, h2, h3, h4⟩
    exact ⟨h1.put (.inr rfl) (by omega), put_onlyS.obj h2 (fun e => by have e' : nB = V.heap.size + 1 := e; omega), h3, h4⟩
  case xputs =>
    rintro c S k X o' ⟨h1, h2, h3⟩
    exact ⟨h1, h2.put (.inr rfl) (by omega), h3⟩
  case reads =>
    intro S k X h1
    obtain ⟨_, _, _, _, _, _, h5, _⟩ := h1.1
    exact HRD.out X (HVB.out.trans (h5.below HVB.out.size (fun i e => by have e' : i = oB := e; omega)))
  case start =>
    intro r
    have hb2 : Below V.heap.size V ((V.alloc (.deferred (some []))).alloc (.loop r)) := (alloc_below V _).trans ((alloc_below _ _).mono (by simp))
    exact ⟨⟨none, 0, below_box hb2 HBO.out, fun e => e, World.ownsRow_nil _ _ _ _, fun b h => by simp [Value.ownBlock] at h, Only.fresh hb2 _, fun i e => e.elim⟩, below_box hb2 HBN.out, fun e => e, Nat.zero_le _⟩
  case assign =>
    intro l' k X K hk hK
    rw [tellRc_get hk] at hK ⊢
    obtain ⟨e, he⟩ : ∃ e, rs[k]! = e := ⟨_, rfl⟩
    rw [he] at hK ⊢
    obtain ⟨ky, vl⟩ := e
    simp only [aggC, Array.getD_eq_getD_getElem?, List.getElem?_toArray, List.getElem?_cons_zero, Option.getD_some] at hK
    clear he
    gi_wp2
    exact hK
  case body =>
    rintro l' k S Z X hI hk hsz hoX hS0 hS1 hS2
    rw [tellRc_get hk] at hoX ⊢
    rw [HTL.out] at hk
    obtain ⟨e, he⟩ : ∃ e, rs[k]! = e := ⟨_, rfl⟩
    rw [he] at hoX ⊢
    have HT := hide (take_snocR hk he)
    have HK := hide hk
    obtain ⟨ky, vl⟩ := e
    simp only [aggC, Array.getD_eq_getD_getElem?, List.getElem?_toArray, List.getElem?_cons_zero, Option.getD_some] at hoX ⊢
    have hpb : X.heap[Z.heap.size]? = some (.cells #[.int .i64 ky, .int .i64 vl] 24 (0, 0)) := hoX.obj (heap_alloc_new Z _) (fun e => by have e' : Z.heap.size = V.heap.size + 1 := e; omega)
    have c0 : X.cell? ⟨Z.heap.size, 0, none⟩ = some (.int .i64 ky) := by simp [World.cell?, hpb]
    have c1 : X.cell? ⟨Z.heap.size, 1, none⟩ = some (.int .i64 vl) := by simp [World.cell?, hpb]
    have hZX : V.heap.size + 2 ≤ X.heap.size := by have := hoX.size; simp at this; omega
    obtain ⟨p, c, h1, h2, h3, h4, h5, h6⟩ := hI.1
    have co := h1.cell
    have cf := h1.frozen
    have HRW := hide (ownsRow_later h3 (alloc_below X (.cells #[.int .i64 ky, .int .i64 vl] 24 (0, 0))))
    have HSG : Hid (Seg (X.alloc (.cells #[.int .i64 ky, .int .i64 vl] 24 (0, 0))) 2 (.slice (some ⟨X.heap.size, 0, none⟩) 1 1) 1 [.int .i64 ky, .int .i64 vl]) := hide (Seg.news (heap_alloc_new X _) (by simp [Value.oneCell']) rfl (Nat.le_refl _) (by decide))
    have HK1 : Hid (k + 1 ≤ maxLen) := by show _ ≤ _; unfold maxLen; omega
    have HK2 : Hid ((k + 1) * 16 ≤ 140737488355328) := by show _ ≤ _; omega
    have HBB : Hid (V.heap.size + 2 ≤ (X.alloc (.cells #[.int .i64 ky, .int .i64 vl] 24 (0, 0))).heap.size) := hide (by simp; omega)
    obtain ⟨_, _, ef, ec1, ec2⟩ := own_form h3
    simp only [Value.slice.injEq, true_and] at ef
    obtain ⟨rfl, rfl⟩ := ef
    obtain ⟨_, hn1, hn2, hn3⟩ := hI
    have cn := hn1.cell
    by_cases hkm : k < m
    rotate_left
    · obtain rfl : k = m := by omega
      have HQ : Hid (roundEndS V.heap.size (fun S k X => TdI V oB rs S k X ∧ Boxed X nB 3 (.int .i64 (k : Int)) ∧ ¬ S nB ∧ k ≤ k) (fun c S k' X => c = .exit 0 ∧ TdI V oB rs S k X ∧ k ≤ rs.length) S k X (.exit 0) { tmps := #[], defers := [] } X) := hide ⟨fun i _ => rfl, Nat.le_refl _, rfl, ⟨p, c, h1, h2, h3, h4, h5, h6⟩, by have := HK.out; omega⟩
      have d1 : decide ((k : Int) ≥ (k : Int)) = true := decide_eq_true (Int.le_refl _)
      clear h1 h2 h3 h4 h5 h6 hoX hpb hn1
      gi_wp2
      exact HQ.out
    have d1 : decide ((k : Int) ≥ (m : Int)) = false := decide_eq_false (by omega)
    have H1 := hide h1
    have H2 := hide h2
    have H3 := hide h3
    have H4 := hide h4
    have H5 := hide h5
    have H6 := hide h6
    clear h1 h2 h3 h4 h5 h6 hoX hpb
    gi_wp2_with (gi_at_builtin; refine wpListIn_append_own_at _ rfl (.tmp 13) (.tmp 15) 54 rfl (V.heap.size + 2) 24 i0 (.agg #[.int .i64 0, .int .i64 0]) 2 16 Try.underlying54 hI0 hz0 hz1 hz2 rfl (by decide) (.slice p k c) k _ rfl HRW.out ⟨X.heap.size, 0, none⟩ 1 1 [.int .i64 ky, .int .i64 vl] rfl rfl (World.news_of_block (heap_alloc_new X _)) (by simp [Value.oneCell']) HK1.out HK2.out HBB.out ?_)
    intro v4 w4 hown hgrow _ hwhere
    obtain ⟨p4, c4, rfl, _, _⟩ := own_form hown
    have hoW : Only (fun i => (Value.slice p k c).ownBlock = some i) X w4 := (Only.alloc _ _ _).trans (Only.of_grown hgrow (fun k e => e))
    have hnoB : ∀ i, (Value.slice p k c).ownBlock = some i → V.heap.size + 2 ≤ i := fun i e => own_block_base H3.out e
    have hbx4 : Boxed w4 oB 54 (.slice p k c) := hoW.obj H1.out (fun e => by have := hnoB _ e; omega)
    have co4 := hbx4.cell
    have cf4 := hbx4.frozen
    have hoF : Only (fun i => (Value.slice p k c).ownBlock = some i ∨ i = oB) X (w4.setCell ⟨oB, 0, none⟩ (.slice p4 (k + 1) c4)) := (hoW.mono (fun i _ e => .inl e)).trans (Only.set (F := fun i => (Value.slice p k c).ownBlock = some i ∨ i = oB) w4 oB 0 _ (.inr rfl))
    have HKP : Hid (Kept (fun i => S i ∨ i = V.heap.size ∨ i = V.heap.size + 1) X (w4.setCell ⟨oB, 0, none⟩ (.slice p4 (k + 1) c4))) := by
      refine hide (fun i hi => hoF.block i ?_ ?_)
      · rcases hi with h | h | h
        · exact hS2 i h
        · omega
        · omega
      · rintro (e | e)
        · rcases hi with h | h | h
          · exact H4.out i e h
          · have := hnoB _ e; omega
          · have := hnoB _ e; omega
        · rcases hi with h | h | h
          · exact H2.out (by rw [← e]; exact h)
          · omega
          · omega
    have HSZ : Hid (X.heap.size ≤ (w4.setCell ⟨oB, 0, none⟩ (.slice p4 (k + 1) c4)).heap.size) := hide hoF.size
    have HTD : Hid (TdI V oB rs S (k + 1) (w4.setCell ⟨oB, 0, none⟩ (.slice p4 (k + 1) c4))) := by
      refine hide ⟨p4, c4, hbx4.set _, H2.out, ?_, fun b hb hs => ?_, H5.out.step hoF (fun i e => ?_), H6.out⟩
      · rw [HT.out, List.flatMap_append, hVs]
        exact hown.kept (grownBy_setCell' w4 oB _) (.inr (fun e => by have := own_block_base hown e; omega))
      · rcases hwhere with h | h
        · rw [h] at hb; exact H4.out b hb hs
        · rw [h] at hb
          simp only [Option.some.injEq] at hb
          have := hS2 b hs
          omega
      · rcases e with e | e
        · exact .inr (by have := hnoB _ e; omega)
        · exact .inl e
    have HBN4 : Hid (Boxed (w4.setCell ⟨oB, 0, none⟩ (.slice p4 (k + 1) c4)) nB 3 (.int .i64 (m : Int))) := hide (hoF.obj hn1 (fun e => by
      rcases e with e | e
      · have := hnoB _ e; omega
      · omega))
    clear hown hgrow hwhere hoW hnoB hbx4 hoF
    gi_wp2
    exact ⟨HKP.out, HSZ.out, HTD.out, HBN4.out, hn2, by omega⟩
  case done =>
    rintro D S X hD hI hK
    rw [HTL.out] at hI
    obtain ⟨p, c, h1, h2, h3, h4, h5, h6⟩ := hI.1
    have hLr : rs.length = L := by rw [← HLL.out, List.length_take]; have := hI.2.2.2; omega
    have hrt : rs.take m = rs := List.take_of_length_le hI.2.2.2
    rw [hLr] at h1 h3
    rw [← hLr, List.take_length, hLr] at h3
    have co := h1.cell
    have HK := hide hK
    have HRW := hide h3
    have HB : Hid (Below W.heap.size W X) := hide (HVB.out.trans (h5.below HVB.out.size (fun i e => by have e' : i = oB := e; omega)))
    clear h1 h2 h3 h4 h5 h6 hK hI
    gi_wp2
    refine ⟨by simp, .inl ⟨_, _, rfl, run_takeDeferred HK.out, ?_⟩⟩
    refine ⟨_, results_tmp rfl _ _ _, p, c, rfl, ?_, ?_⟩
    · rw [hrt]
      exact ownsRow_base (ownsRow_only HRW.out put_onlyS (fun b hb e => by have e' : b = D := e; have := own_block_base HRW.out hb; omega)) (by have := HVB.out.size; omega)
    · exact HB.out.trans (put_onlyS.below HB.out.size (fun i e => by have e' : i = D := e; have := HVB.out.size; omega))
  case stop =>
    rintro D c S k X hD hk ⟨rfl, hI, hml⟩ hK
    obtain ⟨p, c, h1, h2, h3, h4, h5, h6⟩ := hI
    have hLm : m = L := by rw [← HLL.out, List.length_take]; omega
    have co := h1.cell
    have HK := hide hK
    have HRW := hide h3
    have HB : Hid (Below W.heap.size W X) := hide (HVB.out.trans (h5.below HVB.out.size (fun i e => by have e' : i = oB := e; omega)))
    clear h1 h2 h3 h4 h5 h6 hK
    subst hLm
    gi_wp2
    refine ⟨by simp, .inl ⟨_, _, rfl, run_takeDeferred HK.out, ?_⟩⟩
    refine ⟨_, results_tmp rfl _ _ _, p, c, rfl, ?_, ?_⟩
    · exact ownsRow_base (ownsRow_only HRW.out put_onlyS (fun b hb e => by have e' : b = D := e; have := own_block_base HRW.out hb; omega)) (by have := HVB.out.size; omega)
    · exact HB.out.trans (put_onlyS.below HB.out.size (fun i e => by have e' : i = D := e; have := HVB.out.size; omega))
end Go.Proofs.Ytihbdlbnpkmafaa
