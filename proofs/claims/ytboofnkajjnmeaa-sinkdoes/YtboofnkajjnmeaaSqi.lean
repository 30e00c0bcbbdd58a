/-
  Read of the program's sink. The conditions: that it lies there.
-/
import Derived.Test.YtboofnkajjnmeaaSqh
import Derived.Test.YtboofnkajjnmeaaSkm
namespace Go.Proofs.Ytboofnkajjnmeaa
open Go.RowKit Go.Shelf
attribute [local go_sem] Oper.semAt_some

def RdB (V X : World) (oB k : Nat) (es : List RC) (S : Nat → Prop) : Prop :=
  ∃ p c, Boxed X oB 31 (.slice p k c) ∧ ¬ S oB ∧ X.ownsRow (V.heap.size + 2) 49 2 (.slice p k c) k ((es.take k).flatMap RC.cells) ∧ (∀ b, (Value.slice p k c).ownBlock = some b → ¬ S b) ∧ Only (· = oB) V X ∧ ∀ i, S i → V.heap.size ≤ i
theorem RdB.rob {V X X' : World} {oB k : Nat} {es : List RC} {S : Nat → Prop} (h : RdB V X oB k es S) (ho : Only S X X') : RdB V X' oB k es S := by
  obtain ⟨p, c, h1, h2, h3, h4, h5, h6⟩ := h
  exact ⟨p, c, ho.obj h1 h2, h2, ownsRow_only h3 ho (fun b hb e => h4 b hb e), h4, h5.step ho (fun i h => .inr (h6 i h)), h6⟩
theorem RdB.grw {V X X' : World} {oB k : Nat} {es : List RC} {S S' : Nat → Prop} (h : RdB V X oB k es S) (hb : Below X.heap.size X X') (hs : ∀ i, S' i → S i ∨ (X.heap.size ≤ i ∧ i < X'.heap.size)) : RdB V X' oB k es S' := by
  obtain ⟨p, c, h1, h2, h3, h4, h5, h6⟩ := h
  have hz := h5.size
  refine ⟨p, c, below_box hb h1, fun h => ?_, ownsRow_later h3 hb, fun b hbk h => ?_, h5.trans (Only.fresh hb _), fun i h => ?_⟩
  · have := (Array.getElem?_eq_some_iff.1 (show X.heap[oB]? = _ from h1)).1
    rcases hs _ h with h | h
    · exact h2 h
    · omega
  · have := (own_block_lt h3 hbk).1
    rcases hs _ h with h | h
    · exact h4 b hbk h
    · omega
  · rcases hs _ h with h | h
    · exact h6 i h
    · omega
theorem RdB.put {V X : World} {oB k : Nat} {es : List RC} {S : Nat → Prop} (h : RdB V X oB k es S) {r : Nat} {o' : Obj} (hr : r = V.heap.size ∨ r = V.heap.size + 1) (hor : oB < V.heap.size) : RdB V (X.putObj r o') oB k es S := by
  obtain ⟨p, c, h1, h2, h3, h4, h5, h6⟩ := h
  exact ⟨p, c, put_onlyS.obj h1 (fun e => by have e' : oB = r := e; omega), h2, ownsRow_only h3 put_onlyS (fun b hb e => by
    have e' : b = r := e
    have := own_block_base h3 hb
    omega), h4, h5.step put_onlyS (fun i e => .inr (by have e' : i = r := e; omega)), h6⟩
def RdI (V : World) (oB m : Nat) (es : List RC) : Jt := fun S k X => RdB V X oB k es S ∧ k ≤ m
def RdX (V : World) (oB m : Nat) (es : List RC) : Jt := fun S _ X => RdB V X oB m es S ∧ m ≤ es.length
set_option maxRecDepth 100000 in
set_option maxHeartbeats 8000000 in
theorem read_in (n : Nat) (hn : 5 ≤ n) {B : Nat} {W : World} {k0 : PK} {j m L : Nat} (h : PS B W k0) (hj : j ≤ k0.out.length) (hL : ((k0.out.drop j).take m).length = L) :
    CallsIn Fence.wide n Try.prog 28 #[.pointer (some ⟨k0.b, 0, none⟩), .int .i64 (j : Int), .int .i64 (m : Int)] W fun e w' => ∃ p c, e = .returned (.tuple #[.slice p L c, .int .i64 0]) ∧ w'.ownsRow W.heap.size 49 2 (.slice p L c) L (((k0.out.drop j).take m).flatMap RC.cells) ∧ Below W.heap.size W w' := by
  obtain ⟨i0, hI0, hz0, hz1, hz2⟩ := info_parts Try.infoRec
  have HP := hide h
  have HJ := hide hj
  have HLL := hide hL
  obtain ⟨N, hN⟩ : ∃ N, k0.out.length = N := ⟨_, rfl⟩
  have hN4 : N ≤ 4096 := by rw [← hN]; exact h.ok.out
  have HN := hide hN
  have e1 : decide ((j : Int) < 0) = false := decide_eq_false (by omega)
  have e2 : decide ((j : Int) > (N : Int)) = false := decide_eq_false (by omega)
  have f2 : decide (N < j) = false := decide_eq_false (by omega)
  have e3 : decide ((m : Int) < 0) = false := decide_eq_false (by omega)
  have hbk : ∀ i, InB k0.op i → i < W.heap.size := fun i hi => (h.lt (.inr (.inr (.inl hi)))).2
  have HBK := hide hbk
  clear h hj hL hN hbk
  refine callsIn_of_wp_marks Try.func28 rfl trivial ?_ rfl
  simp only [Try.ntmps28, List.size_toArray, List.length_cons, List.length_nil, Nat.reduceAdd, Nat.reduceSub, Array.replicate_succ, Array.replicate_zero, List.push_toArray, List.append_toArray, List.nil_append, List.cons_append]
  obtain ⟨U0, hU0⟩ : ∃ U0, U0 = W.alloc (.cells #[.int .i64 (m : Int)] 3 (0, 0)) := ⟨_, rfl⟩
  have b0 : Below W.heap.size W U0 := by rw [hU0]; exact alloc_below _ _
  obtain ⟨nB, hnB⟩ : ∃ nB, W.heap.size = nB := ⟨_, rfl⟩
  have hnb : U0.heap[nB]? = some (.cells #[.int .i64 (m : Int)] 3 (0, 0)) := by rw [hU0, ← hnB]; exact heap_alloc_new W _
  have hs0 : U0.heap.size = nB + 1 := by rw [hU0, ← hnB]; simp
  have HP0 := hide (HP.out.later b0)
  gi_upto_region 1 with fail
  rw [← hU0]
  try rw [hnB]
  clear hU0
  have u0 := cellB hnb (i := 0) rfl
  gi_wp2_with fail
  refine ⟨trivial, fun _ => by omega, (callsIn_wide.2 (made_yes HP0.out)).mono ?_⟩
  rintro _ _ ⟨rfl, rfl⟩
  rename World => U0
  gi_wp2_with fail
  refine ⟨trivial, fun _ => by omega, (callsIn_wide.2 (len_any HP0.out)).mono ?_⟩
  rintro _ _ ⟨rfl, rfl⟩
  rename World => U0
  rw [HN.out]
  gi_upto_region 6 with fail
  obtain ⟨U, hU⟩ : ∃ U, U = U0.alloc (.cells #[.slice none 0 0] 31 (0, 0)) := ⟨_, rfl⟩
  rw [← hU]
  have b1 : Below U0.heap.size U0 U := by rw [hU]; exact alloc_below _ _
  obtain ⟨oB, hoB⟩ : ∃ oB, nB + 1 = oB := ⟨_, rfl⟩
  have hbo : U.heap[oB]? = some (.cells #[.slice none 0 0] 31 (0, 0)) := by rw [hU, ← hoB, ← hs0]; exact heap_alloc_new U0 _
  have hUB : Below W.heap.size W U := b0.trans (b1.mono b0.size)
  have hUs : U.heap.size = oB + 1 := by rw [hU]; simp; omega
  have HP1 := hide (HP0.out.later b1)
  have hnb1 := below_box b1 hnb
  try rw [hs0]
  try rw [hoB]
  have hno : nB < oB := by omega
  clear hU u0 b0 b1 hnb hs0 hoB
  gi_wp2_with fail
  refine ⟨trivial, fun _ => by omega, (callsIn_wide.2 (tell_any (j := j) HP1.out HJ.out)).mono ?_⟩
  rintro _ V ⟨kb, fb, p', c', rfl, K1, K2, K2', K3, B1⟩
  obtain ⟨es, hes⟩ : ∃ es, k0.out.drop j = es := ⟨_, rfl⟩
  rw [hes] at K1 HLL
  have HES := hide hes
  obtain ⟨M, hM⟩ : ∃ M, es.length = M := ⟨_, rfl⟩
  have hMN : j + M = N := by rw [← hM, ← hes, List.length_drop, HN.out]; have := HJ.out; rw [HN.out] at this; omega
  have HMM := hide hM
  rw [hM] at K1
  have HVB : Hid (Below W.heap.size W V) := hide (hUB.trans (B1.mono hUB.size))
  have HBO := hide (below_box B1 hbo)
  have HBN := hide (below_box B1 hnb1)
  have HK1 := hide K1
  have HK3 := hide K3
  have hVo : oB < V.heap.size := by have := B1.size; omega
  have HTL := hide (tellR_len j es)
  have hkk : oB < kb := by omega
  have hfb : oB < fb := by omega
  clear hbo hnb1 hUB B1 K1 K2 K3 K2' hes hM
  gi_wp2_with fail
  refine range_listS (by omega) (tell_tells (n - 1) (by omega) (kb := kb) (fb := fb) (j := j) (cap := c') (p := p') HMM.out (by omega)) rfl enTell ?size (RdI V oB m es) (fun c S k X => c = .exit 0 ∧ RdX V oB m es S k X) ?rob ?grw ?xrob ?xgrw ?puts ?xputs ?reads ?start
    (fun x X => { tmps := #[.pointer (some ⟨k0.b, 0, none⟩), .int .i64 (j : Int), .int .i64 (m : Int), undef, undef, .pointer (some ⟨nB, 0, none⟩), .slice none 0 0, .int .i64 0, .pointer (some ⟨oB, 0, none⟩), undef, .pointer (some ⟨X.heap.size, 0, none⟩), .pointer (some ⟨k0.b, 0, none⟩), .bool true, .bool false, .int .i64 (j : Int), .bool false, .bool false, .int .i64 (j : Int), .pointer (some ⟨k0.b, 0, none⟩), .int .i64 (N : Int), .bool false, .bool false, .bool false, .int .i64 (m : Int), .bool false, .bool false, .pointer (some ⟨k0.b, 0, none⟩), .int .i64 (j : Int), .func (.func 82) #[] #[.pointer (some ⟨kb, 0, none⟩), .pointer (some ⟨fb, 0, none⟩)], x.getD 0 undef, x.getD 1 undef, undef, undef, undef, undef, undef, undef, undef, undef, undef], defers := [] }) (fun x X => X.alloc (.cells (aggC (x.getD 1 undef)) 49 (0, 0))) (fun k X => alloc_below X _) ?assign ?body ?done ?stop
  case size =>
    intro k hk
    rw [HTL.out] at hk
    rw [tellR_get hk rfl]
    rfl
  case rob => exact fun S k X X' h ho => ⟨h.1.rob ho, h.2⟩
  case grw => exact fun S S' k X X' h hb hs => ⟨h.1.grw hb hs, h.2⟩
  case xrob => exact fun c S k X X' h ho => ⟨h.1, h.2.1.rob ho, h.2.2⟩
  case xgrw => exact fun c S S' k X X' h hb hs => ⟨h.1, h.2.1.grw hb hs, h.2.2⟩
  case puts => exact fun S k X o' h => ⟨h.1.put (.inr rfl) hVo, h.2⟩
  case xputs => exact fun c S k X o' h => ⟨h.1, h.2.1.put (.inr rfl) hVo, h.2.2⟩
  case reads =>
    intro S k X h1
    obtain ⟨⟨_, _, _, _, _, _, h5, _⟩, _⟩ := h1
    exact HK1.out.only h5 (fun e => by have e' : kb = oB := e; omega) (fun e => by have e' : fb = oB := e; omega) (fun a ha e => by have := HBK.out _ (HK3.out a ha); have e' : a.block = oB := e; omega)
  case start =>
    intro r
    have hb2 : Below V.heap.size V ((V.alloc (.deferred (some []))).alloc (.loop r)) := (alloc_below V _).trans ((alloc_below _ _).mono (by simp))
    exact ⟨⟨none, 0, below_box hb2 HBO.out, fun e => e, World.ownsRow_nil _ _ _ _, fun b h => by simp [Value.ownBlock] at h, Only.fresh hb2 _, fun i e => e.elim⟩, Nat.zero_le _⟩
  case assign =>
    intro l' k X K hk hK
    rw [HTL.out] at hk
    obtain ⟨e, he⟩ : ∃ e, es[k]! = e := ⟨_, rfl⟩
    rw [tellR_get hk he] at hK ⊢
    obtain ⟨ky, vl⟩ := e
    simp only [aggC, Array.getD_eq_getD_getElem?, List.getElem?_toArray, List.getElem?_cons_zero, List.getElem?_cons_succ, Option.getD_some] at hK
    clear he
    gi_wp2
    exact hK
  case body =>
    rintro l' k S Z X hI hk hsz hoX hS0 hS1 hS2
    rw [HTL.out] at hk
    obtain ⟨e, he⟩ : ∃ e, es[k]! = e := ⟨_, rfl⟩
    rw [tellR_get hk he] at hoX ⊢
    have HT := hide (take_snocR hk he)
    have HK := hide hk
    obtain ⟨ky, vl⟩ := e
    simp only [aggC, Array.getD_eq_getD_getElem?, List.getElem?_toArray, List.getElem?_cons_zero, List.getElem?_cons_succ, Option.getD_some] at hoX ⊢
    have hpb : X.heap[Z.heap.size]? = some (.cells #[.int .i64 ky, .int .i64 vl] 49 (0, 0)) := hoX.obj (heap_alloc_new Z _) (fun e => by have e' : Z.heap.size = V.heap.size + 1 := e; omega)
    have x0 := cellB hpb (i := 0) rfl
    have x1 := cellB hpb (i := 1) rfl
    have hZX : V.heap.size + 2 ≤ X.heap.size := by have := hoX.size; simp at this; omega
    obtain ⟨hRB, hkm⟩ := hI
    have HRB := hide hRB
    obtain ⟨p, c, h1, h2, h3, h4, h5, h6⟩ := hRB
    have co := h1.cell
    have cf := h1.frozen
    have cn : X.cell? ⟨nB, 0, none⟩ = some (.int .i64 (m : Int)) := h5.cell (cellB HBN.out (i := 0) rfl) (fun e => by have e' : nB = oB := e; omega)
    obtain ⟨_, _, ef, ec1, ec2⟩ := own_form h3
    simp only [Value.slice.injEq, true_and] at ef
    obtain ⟨rfl, rfl⟩ := ef
    have hkL : k < M := by rw [← HMM.out]; exact hk
    by_cases hke : k = m
    · subst hke
      have q1 : ((k : Int) == (k : Int)) = true := by simp
      have HX : Hid (RdX V oB k es S (k + 1) X) := hide ⟨HRB.out, Nat.le_of_lt HK.out⟩
      clear h1 h2 h3 h4 h5 h6 hoX hpb he
      gi_wp2
      exact ⟨fun i _ => rfl, Nat.le_refl _, rfl, HX.out⟩
    · have q1 : ((k : Int) == (m : Int)) = false := by simpa using fun h => hke (by omega)
      have q2 : (k == m) = false := by simpa using hke
      have HRW := hide (ownsRow_later h3 (alloc_below X (.cells #[.int .i64 ky, .int .i64 vl] 49 (0, 0))))
      have HK1' : Hid (k + 1 ≤ maxLen) := by show _ ≤ _; unfold maxLen; omega
      have HK2' : Hid ((k + 1) * 16 ≤ 140737488355328) := by show _ ≤ _; omega
      have HBB' : Hid (V.heap.size + 2 ≤ (X.alloc (.cells #[.int .i64 ky, .int .i64 vl] 49 (0, 0))).heap.size) := hide (by simp; omega)
      have H1 := hide h1
      have H2 := hide h2
      have H3 := hide h3
      have H4 := hide h4
      have H5 := hide h5
      have H6 := hide h6
      clear h1 h2 h3 h4 h5 h6 hoX hpb he
      gi_wp2_with (gi_at_builtin; refine wpListIn_append_own_at _ rfl (.tmp 35) (.tmp 37) 31 rfl (V.heap.size + 2) 49 i0 (.agg #[.int .i64 0, .int .i64 0]) 2 16 Try.underlying31 hI0 hz0 hz1 hz2 rfl (by decide) (.slice p k c) k _ rfl HRW.out ⟨X.heap.size, 0, none⟩ 1 1 [.int .i64 ky, .int .i64 vl] rfl rfl (World.news_of_block (heap_alloc_new X _)) (by simp [Value.oneCell']) HK1'.out HK2'.out HBB'.out ?_)
      intro v4 w4 hown hgrow _ hwhere
      obtain ⟨p4, c4, rfl, _, _⟩ := own_form hown
      have hoW : Only (fun i => (Value.slice p k c).ownBlock = some i) X w4 := (Only.alloc _ _ _).trans (Only.of_grown hgrow (fun k e => e))
      have hnoB : ∀ i, (Value.slice p k c).ownBlock = some i → V.heap.size + 2 ≤ i := fun i e => own_block_base H3.out e
      have hbx4 : Boxed w4 oB 31 (.slice p k c) := hoW.obj H1.out (fun e => by have := hnoB _ e; omega)
      have co4 := hbx4.cell
      have cf4 := hbx4.frozen
      have hoF : Only (fun i => (Value.slice p k c).ownBlock = some i ∨ i = oB) X (w4.setCell ⟨oB, 0, none⟩ (.slice p4 (k + 1) c4)) := (hoW.mono (fun i _ e => .inl e)).trans (Only.set (F := fun i => (Value.slice p k c).ownBlock = some i ∨ i = oB) w4 oB 0 _ (.inr rfl))
      have HKP : Hid (Kept (fun i => S i ∨ i = V.heap.size ∨ i = V.heap.size + 1) X (w4.setCell ⟨oB, 0, none⟩ (.slice p4 (k + 1) c4))) := by
        refine hide (fun i hi => hoF.block i ?_ ?_)
        · rcases hi with h | h | h
          · exact hS2 i h
          · omega
          · omega
        · rintro (e | e)
          · rcases hi with h | h | h
            · exact H4.out i e h
            · have := hnoB _ e; omega
            · have := hnoB _ e; omega
          · rcases hi with h | h | h
            · exact H2.out (by rw [← e]; exact h)
            · omega
            · omega
      have HSZ : Hid (X.heap.size ≤ (w4.setCell ⟨oB, 0, none⟩ (.slice p4 (k + 1) c4)).heap.size) := hide hoF.size
      have HTD : Hid (RdI V oB m es S (k + 1) (w4.setCell ⟨oB, 0, none⟩ (.slice p4 (k + 1) c4))) := by
        refine hide ⟨⟨p4, c4, hbx4.set _, H2.out, ?_, fun b hb hs => ?_, H5.out.step hoF (fun i e => ?_), H6.out⟩, by omega⟩
        · rw [HT.out, List.flatMap_append]
          have e1 : [(⟨ky, vl⟩ : RC)].flatMap RC.cells = [.int .i64 ky, .int .i64 vl] := rfl
          rw [e1]
          exact ownsRow_only hown (Only.set (F := (· = oB)) w4 oB 0 _ rfl) (fun b hb e => by have e' : b = oB := e; have := own_block_base hown hb; omega)
        · rcases hwhere with h | h
          · rw [h] at hb; exact H4.out b hb hs
          · rw [h] at hb
            simp only [Option.some.injEq] at hb
            have := hS2 b hs
            omega
        · rcases e with e | e
          · exact .inr (by have := hnoB _ e; omega)
          · exact .inl e
      clear hown hgrow hwhere hoW hnoB hbx4 hoF
      gi_wp2
      exact ⟨HKP.out, HSZ.out, HTD.out⟩
  case done =>
    rintro D S X hD hI hK
    rw [HTL.out] at hI
    obtain ⟨⟨p, c, h1, h2, h3, h4, h5, h6⟩, hkm⟩ := hI
    have hLr : es.length = L := by rw [← HLL.out, List.length_take]; omega
    have hte : es.take m = es := List.take_of_length_le hkm
    rw [List.take_length, hLr] at h3
    rw [hLr] at h1
    have co := h1.cell
    have HK := hide hK
    have HTE := hide hte
    have HRD := hide h3
    have HB : Hid (Below W.heap.size W X) := hide (HVB.out.trans (h5.below HVB.out.size (fun i e => by have e' : i = oB := e; omega)))
    clear h1 h2 h3 h4 h5 h6 hK hte
    gi_wp2
    refine ⟨by simp, .inl ⟨_, _, rfl, run_takeDeferred HK.out, ?_⟩⟩
    refine ⟨_, results_tmp2 rfl _ _ _, p, c, rfl, ?_, ?_⟩
    · rw [HES.out, HTE.out]
      exact ownsRow_base (ownsRow_only HRD.out put_onlyS (fun b hb e => by have e' : b = D := e; have := own_block_base HRD.out hb; omega)) (by have := HVB.out.size; omega)
    · exact HB.out.trans (put_onlyS.below HB.out.size (fun i e => by have e' : i = D := e; have := HVB.out.size; omega))
  case stop =>
    rintro D c S k X hD hk ⟨rfl, ⟨p, c, h1, h2, h3, h4, h5, h6⟩, hkm⟩ hK
    have hLr : m = L := by rw [← HLL.out, List.length_take]; omega
    rw [hLr] at h1
    have h3' : X.ownsRow (V.heap.size + 2) 49 2 (.slice p L c) L ((es.take m).flatMap RC.cells) := by rw [← hLr]; exact h3
    have co := h1.cell
    have HK := hide hK
    have HRD := hide h3'
    have HB : Hid (Below W.heap.size W X) := hide (HVB.out.trans (h5.below HVB.out.size (fun i e => by have e' : i = oB := e; omega)))
    clear h1 h2 h3 h3' h4 h5 h6 hK
    gi_wp2
    refine ⟨by simp, .inl ⟨_, _, rfl, run_takeDeferred HK.out, ?_⟩⟩
    refine ⟨_, results_tmp2 rfl _ _ _, p, c, rfl, ?_, ?_⟩
    · rw [HES.out]
      exact ownsRow_base (ownsRow_only HRD.out put_onlyS (fun b hb e => by have e' : b = D := e; have := own_block_base HRD.out hb; omega)) (by have := HVB.out.size; omega)
    · exact HB.out.trans (put_onlyS.below HB.out.size (fun i e => by have e' : i = D := e; have := HVB.out.size; omega))
theorem read_ok {B : Nat} {W : World} {k0 : PK} {j m L : Nat} (h : PS B W k0) (hj : j ≤ k0.out.length) (hL : ((k0.out.drop j).take m).length = L) :
    Calls Try.prog 28 #[.pointer (some ⟨k0.b, 0, none⟩), .int .i64 (j : Int), .int .i64 (m : Int)] W fun e w' => ∃ p c, e = .returned (.tuple #[.slice p L c, .int .i64 0]) ∧ w'.ownsRow W.heap.size 49 2 (.slice p L c) L (((k0.out.drop j).take m).flatMap RC.cells) ∧ Below W.heap.size W w' :=
  callsIn_wide.1 (read_in 5 (Nat.le_refl _) h hj hL)
end Go.Proofs.Ytboofnkajjnmeaa
