/-
  What the law's all makes of what is told. The conditions: lengths.
-/
import Derived.Test.YtboofnkajjnmeaaSkl
import Derived.Maps.OwnIn
import Derived.Sort.CutIn
import Derived.BigQuiet
namespace Go.Proofs.Ytboofnkajjnmeaa
open Go.RowKit Go.Shelf
attribute [local go_sem] Oper.semAt_some

theorem below2 (w : World) (o1 o2 : Obj) : Below w.heap.size w ((w.alloc o1).alloc o2) := (alloc_below w o1).trans ((alloc_below _ o2).mono (by simp))
theorem tellR0_get {es : List RC} {k : Nat} (hk : k < es.length) {x : RC} (hx : es[k]! = x) : (tellR 0 es).getD k #[] = #[.int .i64 (k : Int), .agg #[.int .i64 x.key, .int .i64 x.val]] := by
  rw [tellR_get hk hx, Int.natCast_zero, Int.zero_add]
theorem take_snocR {es : List RC} {k : Nat} (hk : k < es.length) {x : RC} (hx : es[k]! = x) : es.take (k + 1) = es.take k ++ [x] := by
  rw [List.take_succ_eq_append_getElem hk, ← hx, getElem!_pos es k hk]
def TdI (V : World) (oB bB : Nat) (es : List RC) : Jt := fun S k X =>
  ∃ p c, Boxed X oB 31 (.slice p k c) ∧ Boxed X bB 4 (.bool true) ∧ ¬ S oB ∧ ¬ S bB ∧ X.ownsRow (V.heap.size + 2) 49 2 (.slice p k c) k ((es.take k).flatMap RC.cells) ∧ (∀ b, (Value.slice p k c).ownBlock = some b → ¬ S b) ∧ Only (fun i => i = oB ∨ i = bB) V X ∧ ∀ i, S i → V.heap.size ≤ i
theorem TdI.rob (V : World) (oB bB : Nat) (es : List RC) : Robust (TdI V oB bB es) := by
  rintro S k X X' ⟨p, c, h1, h1', h2, h2', h3, h4, h5, h6⟩ ho
  exact ⟨p, c, ho.obj h1 h2, ho.obj h1' h2', h2, h2', ownsRow_only h3 ho (fun b hb e => h4 b hb e), h4, h5.step ho (fun i h => .inr (h6 i h)), h6⟩
theorem TdI.grw (V : World) (oB bB : Nat) (es : List RC) : Grows (TdI V oB bB es) := by
  rintro S S' k X X' ⟨p, c, h1, h1', h2, h2', h3, h4, h5, h6⟩ hb hs
  have hz := h5.size
  refine ⟨p, c, below_box hb h1, below_box hb h1', fun h => ?_, fun h => ?_, ownsRow_later h3 hb, fun b hbk h => ?_, h5.trans (Only.fresh hb _), fun i h => ?_⟩
  · have := (Array.getElem?_eq_some_iff.1 (show X.heap[oB]? = _ from h1)).1
    rcases hs _ h with h | h
    · exact h2 h
    · omega
  · have := (Array.getElem?_eq_some_iff.1 (show X.heap[bB]? = _ from h1')).1
    rcases hs _ h with h | h
    · exact h2' h
    · omega
  · have := (own_block_lt h3 hbk).1
    rcases hs _ h with h | h
    · exact h4 b hbk h
    · omega
  · rcases hs _ h with h | h
    · exact h6 i h
    · omega
theorem TdI.put {V : World} {oB bB : Nat} {es : List RC} {S : Nat → Prop} {k : Nat} {X : World} (h : TdI V oB bB es S k X) {r : Nat} {o' : Obj} (hr : r = V.heap.size ∨ r = V.heap.size + 1) (hor : oB < V.heap.size) (hbr : bB < V.heap.size) : TdI V oB bB es S k (X.putObj r o') := by
  obtain ⟨p, c, h1, h1', h2, h2', h3, h4, h5, h6⟩ := h
  exact ⟨p, c, put_onlyS.obj h1 (fun e => by have e' : oB = r := e; omega), put_onlyS.obj h1' (fun e => by have e' : bB = r := e; omega), h2, h2', ownsRow_only h3 put_onlyS (fun b hb e => by
    have e' : b = r := e
    have := own_block_base h3 hb
    omega), h4, h5.step put_onlyS (fun i e => .inr (by have e' : i = r := e; omega)), h6⟩
set_option maxRecDepth 100000 in
set_option maxHeartbeats 4000000 in
theorem lall_in (n : Nat) (hn : 5 ≤ n) {W : World} {vq : Value} {es : List RC} {L : Nat} {D : Nat → Prop} (hD : ∀ i, D i → i < W.heap.size) (hall : ∀ X, Below W.heap.size W X → Calls Try.prog 60 #[vq] X (TellA X 0 es D)) (hL : es.length = L) (hb : L ≤ 1048576) :
    CallsIn Fence.wide n Try.prog 27 #[vq] W fun e w' => ∃ p c, e = .returned (.tuple #[.slice p L c, .bool true]) ∧ w'.ownsRow W.heap.size 49 2 (.slice p L c) L (es.flatMap RC.cells) ∧ Below W.heap.size W w' := by
  obtain ⟨i0, hI0, hz0, hz1, hz2⟩ := info_parts Try.infoRec
  have HALL := hide hall
  have HDD := hide hD
  have HLL := hide hL
  clear hall hL hD
  refine callsIn_of_wp_marks Try.func27 rfl trivial ?_ rfl
  simp only [Try.ntmps27, List.size_toArray, List.length_cons, List.length_nil, Nat.reduceAdd, Nat.reduceSub, Array.replicate_succ, Array.replicate_zero, List.push_toArray, List.append_toArray, List.nil_append, List.cons_append]
  gi_wp2_with fail
  obtain ⟨U, hU⟩ : ∃ U, U = (W.alloc (.cells #[.slice none 0 0] 31 (0, 0))).alloc (.cells #[.bool true] 4 (0, 0)) := ⟨_, rfl⟩
  rw [← hU]
  have hUB : Below W.heap.size W U := by rw [hU]; exact below2 _ _ _
  obtain ⟨oB, hoB⟩ : ∃ oB, W.heap.size = oB := ⟨_, rfl⟩
  obtain ⟨bB, hbB⟩ : ∃ bB, oB + 1 = bB := ⟨_, rfl⟩
  have hbo : U.heap[oB]? = some (.cells #[.slice none 0 0] 31 (0, 0)) := by
    rw [hU, ← hoB]
    exact below_box (alloc_below _ _) (heap_alloc_new W _)
  have hbb : U.heap[bB]? = some (.cells #[.bool true] 4 (0, 0)) := by
    have h := heap_alloc_new (W.alloc (.cells #[.slice none 0 0] 31 (0, 0))) (.cells #[.bool true] 4 (0, 0))
    rw [World.size_alloc, hoB, hbB] at h
    rw [hU]
    exact h
  have hUs : U.heap.size = bB + 1 := by rw [hU, ← hbB, ← hoB]; simp
  have hWo : W.heap.size ≤ oB := by omega
  have hob : oB < bB := by omega
  try rw [hoB]
  try rw [hbB]
  clear hU hoB hbB
  refine ⟨trivial, fun _ => by omega, (callsIn_wide.2 (HALL.out U hUB)).mono ?_⟩
  rintro _ V ⟨kb, fb, p', c', rfl, K1, K2, K2', K3, B1⟩
  rw [HLL.out] at K1
  have HK0 : Hid (U.heap.size ≤ fb) := hide K2'
  have HVB : Hid (Below W.heap.size W V) := hide (hUB.trans (B1.mono hUB.size))
  have HBO := hide (below_box B1 hbo)
  have HBB := hide (below_box B1 hbb)
  have HK1 := hide K1
  have HK2 := hide K2
  have HK3 := hide K3
  have hVo : bB < V.heap.size := by have := B1.size; omega
  have HTL := hide (tellR_len 0 es)
  have hkk : oB < kb := by omega
  have hkb : bB < kb := by omega
  have hfb : bB < fb := by omega
  clear hbo hbb hUB B1 K1 K2 K3 K2'
  gi_wp2_with fail
  refine range_listS (by omega) (tell_tells (n - 1) (by omega) (kb := kb) (fb := fb) (j := 0) (cap := c') (p := p') HLL.out (by omega)) rfl enTell ?size (TdI V oB bB es) (fun _ _ _ _ => False) ?rob ?grw ?xrob ?xgrw ?puts ?xputs ?reads ?start
    (fun x X => { tmps := #[vq, undef, .slice none 0 0, .bool false, .pointer (some ⟨oB, 0, none⟩), .pointer (some ⟨bB, 0, none⟩), x.getD 0 undef, .pointer (some ⟨X.heap.size, 0, none⟩), vq, .func (.func 82) #[] #[.pointer (some ⟨kb, 0, none⟩), .pointer (some ⟨fb, 0, none⟩)], x.getD 0 undef, x.getD 1 undef, undef, undef, undef, undef, undef, undef, undef, undef, undef, undef, undef, undef, undef], defers := [] }) (fun x X => X.alloc (.cells (aggC (x.getD 1 undef)) 49 (0, 0))) (fun k X => alloc_below X _) ?assign ?body ?done ?stop
  case size =>
    intro k hk
    rw [HTL.out] at hk
    rw [tellR0_get hk rfl]
    rfl
  case rob => exact TdI.rob V oB bB es
  case grw => exact TdI.grw V oB bB es
  case xrob => exact fun _ _ _ _ _ h _ => h
  case xgrw => exact fun _ _ _ _ _ _ h _ _ => h
  case puts =>
    intro S k X o' h1
    exact TdI.put h1 (.inr rfl) (by omega) (by omega)
  case xputs => exact fun _ _ _ _ _ h => h
  case reads =>
    intro S k X h1
    obtain ⟨_, _, _, _, _, _, _, _, h5, _⟩ := h1
    exact HK1.out.only h5 (by rintro (e | e) <;> omega) (by rintro (e | e) <;> omega) (fun a ha => by have := HDD.out _ (HK3.out a ha); rintro (e | e) <;> omega)
  case start =>
    intro r
    have hb2 : Below V.heap.size V ((V.alloc (.deferred (some []))).alloc (.loop r)) := (alloc_below V _).trans ((alloc_below _ _).mono (by simp))
    exact ⟨none, 0, below_box hb2 HBO.out, below_box hb2 HBB.out, fun e => e, fun e => e, World.ownsRow_nil _ _ _ _, fun b h => by simp [Value.ownBlock] at h, Only.fresh hb2 _, fun i e => e.elim⟩
  case assign =>
    intro l' k X K hk hK
    rw [HTL.out] at hk
    obtain ⟨e, he⟩ : ∃ e, es[k]! = e := ⟨_, rfl⟩
    rw [tellR0_get hk he] at hK ⊢
    obtain ⟨ky, vl⟩ := e
    simp only [aggC, Array.getD_eq_getD_getElem?, List.getElem?_toArray, List.getElem?_cons_zero, List.getElem?_cons_succ, Option.getD_some] at hK
    clear he
    gi_wp2
    exact hK
  case body =>
    rintro l' k S Z X hI hk hsz hoX hS0 hS1 hS2
    rw [HTL.out] at hk
    obtain ⟨e, he⟩ : ∃ e, es[k]! = e := ⟨_, rfl⟩
    rw [tellR0_get hk he] at hoX ⊢
    have HT := hide (take_snocR hk he)
    have HK := hide hk
    obtain ⟨ky, vl⟩ := e
    simp only [aggC, Array.getD_eq_getD_getElem?, List.getElem?_toArray, List.getElem?_cons_zero, List.getElem?_cons_succ, Option.getD_some] at hoX ⊢
    have hpb : X.heap[Z.heap.size]? = some (.cells #[.int .i64 ky, .int .i64 vl] 49 (0, 0)) := hoX.obj (heap_alloc_new Z _) (fun e => by have e' : Z.heap.size = V.heap.size + 1 := e; omega)
    have x0 := cellB hpb (i := 0) rfl
    have x1 := cellB hpb (i := 1) rfl
    have hZX : V.heap.size + 2 ≤ X.heap.size := by have := hoX.size; simp at this; omega
    obtain ⟨p, c, h1, h1', h2, h2', h3, h4, h5, h6⟩ := hI
    have co := h1.cell
    have cf := h1.frozen
    have tc := h1'.cell
    have tf := h1'.frozen
    obtain ⟨_, _, ef, ec1, ec2⟩ := own_form h3
    simp only [Value.slice.injEq, true_and] at ef
    obtain ⟨rfl, rfl⟩ := ef
    have hkL : k < L := by rw [← HLL.out]; exact hk
    have qk : ((k : Int) == (k : Int)) = true := by simp
    obtain ⟨Y, hY⟩ : ∃ Y, Y = X.setCell ⟨bB, 0, none⟩ (.bool true) := ⟨_, rfl⟩
    gi_upto_region 7 with fail
    rw [← hY]
    have hoYX : Only (· = bB) X Y := by rw [hY]; exact Only.set (F := (· = bB)) X bB 0 _ rfl
    have hYb : Boxed Y bB 4 (.bool true) := by rw [hY]; exact h1'.set _
    have hYo : Boxed Y oB 31 (.slice p k c) := hoYX.obj h1 (fun e => by have e' : oB = bB := e; omega)
    have hYr : Y.ownsRow (V.heap.size + 2) 49 2 (.slice p k c) k ((es.take k).flatMap RC.cells) := ownsRow_only h3 hoYX (fun b hb e => by have e' : b = bB := e; have := own_block_base h3 hb; omega)
    have hYp := hoYX.obj hpb (fun e => by have e' : Z.heap.size = bB := e; omega)
    have hYs : X.heap.size ≤ Y.heap.size := hoYX.size
    have y0 := cellB hYp (i := 0) rfl
    have y1 := cellB hYp (i := 1) rfl
    have HRW := hide (ownsRow_later hYr (alloc_below Y (.cells #[.int .i64 ky, .int .i64 vl] 49 (0, 0))))
    have HK1' : Hid (k + 1 ≤ maxLen) := by show _ ≤ _; unfold maxLen; omega
    have HK2' : Hid ((k + 1) * 16 ≤ 140737488355328) := by show _ ≤ _; omega
    have HBB' : Hid (V.heap.size + 2 ≤ (Y.alloc (.cells #[.int .i64 ky, .int .i64 vl] 49 (0, 0))).heap.size) := hide (by simp; omega)
    have co' := hYo.cell
    have H1 := hide hYo
    have H1b := hide hYb
    have H2 := hide h2
    have H2' := hide h2'
    have H3 := hide hYr
    have H4 := hide h4
    have H5 := hide h5
    have H6 := hide h6
    have HOYX := hide hoYX
    clear h1 h1' h2 h2' h3 h4 h5 h6 hoX hpb hoYX hYb hYo hYr hYp hY co cf tc tf x0 x1
    gi_wp2_with (gi_at_builtin; refine wpListIn_append_own_at _ rfl (.tmp 19) (.tmp 21) 31 rfl (V.heap.size + 2) 49 i0 (.agg #[.int .i64 0, .int .i64 0]) 2 16 Try.underlying31 hI0 hz0 hz1 hz2 rfl (by decide) (.slice p k c) k _ rfl HRW.out ⟨Y.heap.size, 0, none⟩ 1 1 [.int .i64 ky, .int .i64 vl] rfl rfl (World.news_of_block (heap_alloc_new Y _)) (by simp [Value.oneCell']) HK1'.out HK2'.out HBB'.out ?_)
    intro v4 w4 hown hgrow _ hwhere
    obtain ⟨p4, c4, rfl, _, _⟩ := own_form hown
    have hoW : Only (fun i => (Value.slice p k c).ownBlock = some i) Y w4 := (Only.alloc _ _ _).trans (Only.of_grown hgrow (fun k e => e))
    have hnoB : ∀ i, (Value.slice p k c).ownBlock = some i → V.heap.size + 2 ≤ i := fun i e => own_block_base H3.out e
    have hbx4 : Boxed w4 oB 31 (.slice p k c) := hoW.obj H1.out (fun e => by have := hnoB _ e; omega)
    have hbb4 : Boxed w4 bB 4 (.bool true) := hoW.obj H1b.out (fun e => by have := hnoB _ e; omega)
    have co4 := hbx4.cell
    have cf4 := hbx4.frozen
    have hoF : Only (fun i => (Value.slice p k c).ownBlock = some i ∨ i = oB ∨ i = bB) X (w4.setCell ⟨oB, 0, none⟩ (.slice p4 (k + 1) c4)) := ((HOYX.out.mono (fun i _ e => .inr (.inr e))).trans (hoW.mono (fun i _ e => .inl e))).trans (Only.set (F := fun i => (Value.slice p k c).ownBlock = some i ∨ i = oB ∨ i = bB) w4 oB 0 _ (.inr (.inl rfl)))
    have HKP : Hid (Kept (fun i => S i ∨ i = V.heap.size ∨ i = V.heap.size + 1) X (w4.setCell ⟨oB, 0, none⟩ (.slice p4 (k + 1) c4))) := by
      refine hide (fun i hi => hoF.block i ?_ ?_)
      · rcases hi with h | h | h
        · exact hS2 i h
        · omega
        · omega
      · rintro (e | e | e)
        · rcases hi with h | h | h
          · exact H4.out i e h
          · have := hnoB _ e; omega
          · have := hnoB _ e; omega
        · rcases hi with h | h | h
          · exact H2.out (by rw [← e]; exact h)
          · omega
          · omega
        · rcases hi with h | h | h
          · exact H2'.out (by rw [← e]; exact h)
          · omega
          · omega
    have HSZ : Hid (X.heap.size ≤ (w4.setCell ⟨oB, 0, none⟩ (.slice p4 (k + 1) c4)).heap.size) := hide hoF.size
    have HTD : Hid (TdI V oB bB es S (k + 1) (w4.setCell ⟨oB, 0, none⟩ (.slice p4 (k + 1) c4))) := by
      refine hide ⟨p4, c4, hbx4.set _, ?_, H2.out, H2'.out, ?_, fun b hb hs => ?_, H5.out.step hoF (fun i e => ?_), H6.out⟩
      · exact (Only.set (F := (· = oB)) w4 oB 0 _ rfl).obj hbb4 (fun e => by have e' : bB = oB := e; omega)
      · rw [HT.out, List.flatMap_append]
        have e1 : [(⟨ky, vl⟩ : RC)].flatMap RC.cells = [.int .i64 ky, .int .i64 vl] := rfl
        rw [e1]
        exact ownsRow_only hown (Only.set (F := (· = oB)) w4 oB 0 _ rfl) (fun b hb e => by have e' : b = oB := e; have := own_block_base hown hb; omega)
      · rcases hwhere with h | h
        · rw [h] at hb; exact H4.out b hb hs
        · rw [h] at hb
          simp only [Option.some.injEq] at hb
          have := hS2 b hs
          omega
      · rcases e with e | e | e
        · exact .inr (by have := hnoB _ e; omega)
        · exact .inl (.inl e)
        · exact .inl (.inr e)
    clear hown hgrow hwhere hoW hnoB hbx4 hbb4 hoF
    gi_wp2
    exact ⟨HKP.out, HSZ.out, HTD.out⟩
  case done =>
    rintro D S X hD hI hK
    rw [HTL.out] at hI
    obtain ⟨p, c, h1, h1', h2, h2', h3, h4, h5, h6⟩ := hI
    have hLr : es.length = L := HLL.out
    rw [hLr] at h1 h3
    rw [← hLr, List.take_length, hLr] at h3
    have co := h1.cell
    have tc := h1'.cell
    have HK := hide hK
    have HRW := hide h3
    have HB : Hid (Below W.heap.size W X) := hide (HVB.out.trans (h5.below HVB.out.size (fun i e => by rcases e with e | e <;> omega)))
    clear h1 h1' h2 h2' h3 h4 h5 h6 hK
    gi_wp2_with fail
    refine wpIn_wide.2 ?_
    go_big_quiet (fail)
    gi_wp2
    have HKD : Hid ((X.drewN nq).heap[D]? = some (.deferred (some []))) := HK
    have HRD : Hid ((X.drewN nq).ownsRow (V.heap.size + 2) 49 2 (.slice p L c) L (es.flatMap RC.cells)) := HRW
    refine ⟨by simp, .inl ⟨_, _, rfl, run_takeDeferred HKD.out, ?_⟩⟩
    refine ⟨_, results_tmp2 rfl _ _ _, p, c, rfl, ?_, ?_⟩
    · exact ownsRow_base (ownsRow_only HRD.out put_onlyS (fun b hb e => by have e' : b = D := e; have := own_block_base HRD.out hb; omega)) (by have := HVB.out.size; omega)
    · exact (below_drewN HB.out nq).trans (put_onlyS.below HB.out.size (fun i e => by have e' : i = D := e; have := HVB.out.size; omega))
  case stop =>
    exact fun _ _ _ _ _ _ _ h _ => h.elim
theorem lall_any {W : World} {vq : Value} {es : List RC} {L : Nat} {D : Nat → Prop} (hD : ∀ i, D i → i < W.heap.size) (hall : ∀ X, Below W.heap.size W X → Calls Try.prog 60 #[vq] X (TellA X 0 es D)) (hL : es.length = L) (hb : L ≤ 1048576) :
    Calls Try.prog 27 #[vq] W fun e w' => ∃ p c, e = .returned (.tuple #[.slice p L c, .bool true]) ∧ w'.ownsRow W.heap.size 49 2 (.slice p L c) L (es.flatMap RC.cells) ∧ Below W.heap.size W w' :=
  callsIn_wide.1 (lall_in 5 (Nat.le_refl _) hD hall hL hb)
theorem alls_any {W : World} {B : Nat} {k : PK} (h : PS B W k) :
    Calls Try.prog 27 #[.pointer (some ⟨k.b, 0, none⟩)] W fun e w' => ∃ p c, e = .returned (.tuple #[.slice p k.out.length c, .bool true]) ∧ w'.ownsRow W.heap.size 49 2 (.slice p k.out.length c) k.out.length (k.out.flatMap RC.cells) ∧ Below W.heap.size W w' :=
  lall_any (D := InB k.op) (fun _ hi => (h.lt (.inr (.inr (.inl hi)))).2) (fun _ hX => all_any (h.later hX)) rfl (by have := h.ok.out; have e : k.sk.out = k.out := rfl; rw [e] at this; omega)
end Go.Proofs.Ytboofnkajjnmeaa
